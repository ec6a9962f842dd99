/- Texts of ours, laid one behind the other: THeE, TFieldP, TByA, TPrC, TPrD, TPrE, TPrB, TPrF, TPrA, TPrG, TFieldG. -/
import Derived.Test.YteaieagkjepgiaaGreatDoorPfT17
import Derived.Deep.CutRange
import Derived.Handy
set_option linter.unusedVariables false
set_option linter.unusedSimpArgs false
/- . -/
namespace Go.Proofs.YteaieagkjepgiaaGreatDoorT
set_option maxRecDepth 100000
open Go.RowKit BigFrame
attribute [local go_sem ↓] Go.wp_at_zero Go.wp_at_succ
theorem implAny (v:Value) (w:World):Calls Tw.prog 49 #[v] w fun e w'=>e = .returned (.bool true)/\w'=w:=by
 go_enter Tw.func49,Tw.ntmps49
 go_wp2_with fail
 go_ret
 exact ⟨rfl,rfl⟩
structure QOf (w W:World) (B b off:Nat) (v:Value) (hs:List HM) (k:Nat) (Q:List Nat):Prop where
 own:OwS w W [bxS B [v]] 103 2 v Q.length (seS b off Q)
 all:Q.Perm (upTo hs k)
 heap:HpN (pk hs) Q Q.length
theorem perm_app {Q U:List Nat} (h:Q.Perm U) (R:List Nat) (t:Nat) (k:R.Perm (Q++[t])):R.Perm (U++[t]):=k.trans (h.append_right _)
set_option maxRecDepth 100000 in
set_option maxHeartbeats 2000000 in
theorem implQueueOf (a:Option Addr) (rs:List HoR) (cap b off:Nat) (w:World) (hr:HsRow w a rs) (hl:rs.length<=1048576) (ha:0<rs.length->a=some ⟨b,off,none⟩) :
  Calls Tw.prog 48 #[.slice a rs.length cap,.func (.func 49) #[] #[]] w fun e w'=>∃ B v Q,e = .returned (.pointer (some ⟨B,0,none⟩))/\QOf w w' B b off v (hms rs) rs.length Q:=by
 obtain ⟨n,hn⟩:∃ n,n=rs.length:=⟨_,rfl⟩
 have HN:=Shut.mk hn
 have HR:=Shut.mk (And.intro hr ha)
 rw [<-hn] at hl ⊢
 clear hr ha hn
 have H0:Shut (QOf w ((w.alloc (.cells #[] 103)).alloc (.cells #[.slice (some ⟨w.heap.size,0,none⟩) 0 0] 100)) (w.heap.size+1) b off (.slice (some ⟨w.heap.size,0,none⟩) 0 0) (hms rs) 0 []):=⟨by
  have q:=(OwS.new (ty:=103) (sz:=2) (SL.start w)).box #[.slice (some ⟨w.heap.size,0,none⟩) 0 0] 100
  simp only [World.size_alloc] at q
  exact ⟨q,by simp [upTo],fun k h0 h1=>by simp at h1⟩⟩
 go_enter Tw.func48,Tw.ntmps48
 go_wp2_with fail
 go_loopw [11] (fun i9 wr=>∃ (k:Nat),i9 = .int .i64 (k:Nat)/\k<=n/\Shut (∃ v Q,QOf w wr (w.heap.size+1) b off v (hms rs) k Q)) (fun i9 _=>n - (intOf i9).toNat)
 case atStart=>exact ⟨0,rfl,Nat.zero_le _,⟨_,_,H0.out⟩⟩
 case round =>
  clear H0
  obtain ⟨k,rfl,hk,HW⟩:=hrel
  obtain ⟨v,Q,hq⟩:=HW.out
  have HQ:=Shut.mk hq
  clear hq HW
  by_cases hlt:k<n
  ·have hkr:k<rs.length:=by rw [<-HN.out];exact hlt
   obtain ⟨b1,o1,r,e1,hre,lb,hc⟩:=hs_at HR.out.1 HQ.out.own.sl.bel hkr
   have e2:=HR.out.2 (by omega)
   rw [e1] at e2
   simp only [Option.some.injEq,Addr.mk.injEq,and_true] at e2
   obtain ⟨rfl,rfl⟩:=e2
   obtain ⟨d0,d1,d2,d3⟩:=hc wr (Below.refl _ _)
   have HUP:Shut (r.h.up=((hms rs).getD k default).up):=⟨by rw [hre];simp [hms,List.getD,hkr]⟩
   have HUS:=Shut.mk (upTo_step (hms rs) k)
   have k0:(0:Int)<=(k:Int):=by omega
   have k1:(k:Int)<(n:Int):=by omega
   have hrow:=HR.out.1
   have hQn:∀ x ∈ Q,x<rs.length:=fun x hx=>by have q:=upTo_lt (hms rs) k x (HQ.out.all.mem_iff.1 hx);omega
   have hQl:Q.length<=k:=by rw [HQ.out.all.length_eq];exact upTo_len _ _
   subst e1
   have HPU:=Shut.mk (implPush HQ.out.own rfl (by omega) hrow hQn k hkr HQ.out.heap)
   clear hc hre hrow hQn d0 d2 d3
   cases hu:r.h.up with
   | true =>
    rw [hu] at d1 HUP
    go_wp2_with (first
     | (go_at_call 49;refine (implAny _ _).mono ?_;rintro e w2 ⟨rfl,hw2⟩;subst hw2)
     | (go_at_call 74;refine HPU.out.mono ?_;rintro e w3 ⟨rfl,g,c,R,hR,hH,h3⟩;have H3:=Shut.mk (And.intro hR (And.intro hH h3));clear hR hH h3))
    go_roundw
    case rel =>
     have hRl:R.length=Q.length+1:=by rw [H3.out.1.length_eq];simp
     refine ⟨k+1,by go_num,by omega,⟨.slice (some ⟨g,0,none⟩) (Q.length+1) c,R,⟨?_,?_,?_⟩⟩⟩
     ·rw [hRl];exact H3.out.2.2
     ·rw [HUS.out,<-HUP.out,if_pos rfl];exact perm_app HQ.out.all R k H3.out.1
     ·rw [hRl];exact H3.out.2.1
    case measure=>simp [intOf];omega
   | false =>
    rw [hu] at d1 HUP
    have HNX:Shut (upTo (hms rs) (k+1)=upTo (hms rs) k):=⟨by rw [HUS.out,<-HUP.out];simp⟩
    go_wp2_with fail
    go_roundw
    case rel=>exact ⟨k+1,by go_num,by omega,⟨v,Q,HQ.out.own,by rw [HNX.out];exact HQ.out.all,HQ.out.heap⟩⟩
    case measure=>simp [intOf];omega
  ·obtain rfl:n=k:=by omega
   go_wp2_with fail
   go_ret
   exact ⟨_,v,Q,rfl,HQ.out⟩
abbrev owS (ty sz:Nat) (v:Value) (n:Nat) (L:List Value) (lo hi:Nat):Str:=⟨fun W=>W.ownsRow lo ty sz v n L/\∀ q,v.ownBlock=some q->q<hi,lo,hi⟩
theorem owS.loc (ty sz:Nat) (v:Value) (n:Nat) (L:List Value) (lo hi:Nat):(owS ty sz v n L lo hi).Loc:=fun W W' l h hp t hd=>by
 refine ⟨?_,hp.2⟩
 rcases hp.1.2 with ⟨e,e0⟩ | ⟨g,cap,cur,e,hb,hg,r⟩
 ·exact ⟨hp.1.1,.inl ⟨e,e0⟩⟩
 ·have hgh:g<h\/h<=g:=Nat.lt_or_ge _ _
  have hq:=hp.2 g (by rw [e];rfl)
  have hgs:g<W.heap.size:=(hp.1.lt g (by rw [e];rfl)).2
  refine ⟨hp.1.1,.inr ⟨g,cap,cur,e,hb,?_,r⟩⟩
  rw [<-hg]
  exact t.block g hgs (by dsimp only [owS] at hd;omega)
theorem OwS.beside {w0 W:World} {ty sz n B w1 ty' sz' k:Nat} {v u:Value} {L M:List Value} (h:OwS w0 W [bxS B [v]] ty sz v n L) (hB:B<w1) (hv:∀ q,v.ownBlock=some q->q<w1) (h0:w0.heap.size<=w1) (hu:W.ownsRow w1 ty' sz' u k M) :
  OwS w0 W [bxS B [v],owS ty' sz' u k M w1 W.heap.size] ty sz v n L:=by
 refine ⟨⟨h.sl.bel,fun s hs=>?_,?_⟩,h.own,fun q e s hs=>?_⟩
 ·simp only [List.mem_cons,List.not_mem_nil,or_false] at hs
  rcases hs with rfl | rfl
  ·exact h.sl.is _ (List.mem_cons_self ..)
  ·exact ⟨⟨hu,fun q e=>(hu.lt q e).2⟩,owS.loc _ _ _ _ _ _ _,h0,Nat.le_refl _⟩
 ·refine List.pairwise_cons.2 ⟨fun s hs=>?_,List.pairwise_singleton _ _⟩
  rw [List.mem_singleton] at hs
  subst hs
  exact .inl hB
 ·simp only [List.mem_cons,List.not_mem_nil,or_false] at hs
  rcases hs with rfl | rfl
  ·exact h.far q e _ (List.mem_cons_self ..)
  ·exact .inr (hv q e)
theorem OwS.other {w0 W Wa W':World} {ty sz n B:Nat} {v:Value} {L:List Value} {row:Option Nat} {S:List Str} (h:OwS w0 W (bxS B [v]::S) ty sz v n L) (hb:Below W.heap.size W Wa) (hg:Wa.grownBy W' row) (hr:∀ q,row=some q->w0.heap.size<=q/\q ≠ B/\v.ownBlock ≠ some q):OwS w0 W' [bxS B [v]] ty sz v n L:=by
 have k:OwS w0 Wa [bxS B [v]] ty sz v n L:=by
  have q:=h.below hb
  refine ⟨⟨q.sl.bel,fun s hs=>?_,List.pairwise_singleton _ _⟩,q.own,fun g e s hs=>?_⟩
  ·rw [List.mem_singleton] at hs
   subst hs
   exact q.sl.is _ (List.mem_cons_self ..)
  ·rw [List.mem_singleton] at hs
   subst hs
   exact q.far g e _ (List.mem_cons_self ..)
 refine ⟨k.sl.grown hg fun q e=>⟨(hr q e).1,fun s hs=>?_⟩,k.own.kept hg ?_,k.far⟩
 ·rw [List.mem_singleton] at hs
  subst hs
  have:=(hr q e).2.1
  dsimp only [bxS]
  omega
 ·cases e:v.ownBlock with
  | none=>exact .inl rfl
  | some q=>exact .inr fun e2=>(hr q e2.symm).2.2 e
theorem own_any {W:World} {B ty sz n:Nat} {v:Value} {L:List Value} (h:W.ownsRow B ty sz v n L):∃ a c,v = .slice a n c:=by
 rcases h.2 with ⟨rfl,h0⟩ | ⟨g,cap,cur,e,_⟩
 ·exact ⟨none,0,by rw [h0]⟩
 ·exact ⟨_,_,e⟩
structure PQ (w W:World) (W1 B b off d:Nat) (va:Option Addr) (vc:Nat) (hs:List HM) (P Q:List Nat) (v:Value):Prop where
 len:Q.length=d
 out:Out (pk hs) (upTo hs hs.length) P Q
 heap:HpN (pk hs) Q d
 own:OwS w W [bxS B [.slice va d vc]] 103 2 (.slice va d vc) d (seS b off Q)
 ids:W.ownsRow W1 3 1 v P.length (iv (P.map fun t=>(pk hs t).2))
 big:W1<=W.heap.size
set_option maxRecDepth 100000 in
set_option maxHeartbeats 4000000 in
theorem implPlaceGroup (a:Option Addr) (rs:List HoR) (cap:Nat) (x:Int) (w:World) (hr:HsRow w a rs) (hl:rs.length<=1048576) (_:hsSum (hms rs)<=1048576) (hx:-9223372036854775808<=x/\x<=9223372036854775807) :
  Calls Tw.prog 21 #[.slice a rs.length cap,.int .i64 x] w fun e w'=>PlcPost (plcX (hms rs) x) w e w':=by
 obtain ⟨i0,hin,hz0,hz1,hz2⟩:=info_parts infoInt
 obtain ⟨b,off,hab⟩:∃ b off,0<rs.length->a=some ⟨b,off,none⟩:=by
  by_cases h:0<rs.length
  ·obtain ⟨b,off,e,_⟩:=hr.at h
   exact ⟨b,off,fun _=>e⟩
  ·exact ⟨0,0,fun q=>absurd q h⟩
 have HQO:=Shut.mk (implQueueOf a rs cap b off w hr hl hab)
 obtain ⟨n,hn⟩:∃ n,n=rs.length:=⟨_,rfl⟩
 have HN:=Shut.mk hn
 have HR:=Shut.mk (And.intro hr hab)
 obtain ⟨RR,hRR⟩:∃ q,q=plcX (hms rs) x:=⟨_,rfl⟩
 rw [<-hRR]
 have HQ:=Shut.mk hRR
 rw [<-hn] at hl HQO ⊢
 clear hr hab hn hRR
 go_enter Tw.func21,Tw.ntmps21
 go_upto_region 2 with (go_at_call 48;refine HQO.out.mono ?_;rintro e w1 ⟨B,v,Q,rfl,hq⟩;have HQ1:=Shut.mk hq;clear hq)
 obtain ⟨va,vc,rfl⟩:=own_row_slice HQ1.out.own.own
 obtain ⟨m,hm⟩:∃ m,m=Q.length:=⟨_,rfl⟩
 have HM:=Shut.mk hm
 have HPL:Shut ((ordP (hms rs)).length=m):=⟨by rw [(ordP_perm (hms rs)).length_eq,<-upTo_pairs,List.length_map,hms_len,<-HN.out,<-HQ1.out.all.length_eq,hm]⟩
 have hmn:m<=n:=by
  have q:=HQ1.out.all.length_eq
  have q2:=upTo_len (hms rs) n
  omega
 have x0:=(HQ1.out.own.sl.bx 0 rfl 0 _ rfl).1
 rw [<-hm] at x0
 have HB1:=Shut.mk HQ1.out.own.sl.bel
 clear hm
 by_cases hx0:x<0
 case pos =>
  have HE:Shut (RR=([],false)):=⟨by rw [HQ.out];unfold plcX;rw [if_neg (by omega)]⟩
  go_wp2_with fail
  go_ret2
  exact ⟨_,by rw [HE.out];rfl,by rw [HE.out];exact World.ownsRow_nil _ _ _ _,HB1.out⟩
 by_cases hxm:(m:Int)<x
 case pos =>
  have HE:Shut (RR=([],false)):=⟨by rw [HQ.out];unfold plcX;rw [HPL.out,if_neg (by omega)]⟩
  go_wp2_with (go_at_call 50;refine (implLen va m vc w1).mono ?_;rintro e w2 ⟨rfl,hw2⟩;subst hw2)
  go_ret2
  exact ⟨_,by rw [HE.out];rfl,by rw [HE.out];exact World.ownsRow_nil _ _ _ _,HB1.out⟩
 obtain ⟨y,rfl⟩:=Int.eq_ofNat_of_zero_le (show 0<=x by omega)
 have hym:y<=m:=by omega
 have hxm2:¬ (m:Int)<(y:Int):=by omega
 have HE:Shut (RR=(((ordP (hms rs)).take y).map Prod.snd,true)):=⟨by rw [HQ.out];unfold plcX;rw [HPL.out,if_pos ⟨by omega,by omega⟩,Int.toNat_natCast]⟩
 have lB:B<w1.heap.size:=(HQ1.out.own.sl.at 0 rfl).1
 have lv:∀ q,(Value.slice va Q.length vc).ownBlock=some q->q<w1.heap.size:=fun q e=>(HQ1.out.own.own.lt q e).2
 have hmy:decide (m<y)=false:=by simp;omega
 clear hxm HQ
 go_upto_region 5 with (go_at_call 50;refine (implLen va m vc w1).mono ?_;rintro e w2 ⟨rfl,hw2⟩;subst hw2)
 obtain ⟨W1,hW1⟩:∃ q,q=w2.heap.size:=⟨_,rfl⟩
 have HST:Shut (PQ w w2 W1 B b off m va vc (hms rs) [] Q (.slice none 0 0)):=⟨by
  have q:=HQ1.out
  refine ⟨HM.out.symm,Out.start (by rw [hms_len,<-HN.out];exact q.all),by rw [HM.out];exact q.heap,?_,World.ownsRow_nil _ _ _ _,Nat.le_of_eq hW1⟩
  have q2:=q.own
  rw [<-HM.out] at q2
  exact q2⟩
 have HLT:Shut (B<W1/\(∀ g,va=some ⟨g,0,none⟩->g<W1)/\w.heap.size<=W1):=⟨by rw [hW1];exact ⟨lB,fun g e=>lv g (by rw [e];rfl),HB1.out.size⟩⟩
 clear lB lv HQ1 HM HQO x0 HB1 hW1
 go_upto_region 6 with fail
 go_loopw [7,21] (fun v i9 wr=>∃ (k:Nat),i9 = .int .i64 (k:Nat)/\k<=y/\Shut (∃ P Q',P.length=k/\PQ w wr W1 B b off (m - k) va vc (hms rs) P Q' v)) (fun _ i9 _=>y - (intOf i9).toNat)
 case atStart=>exact ⟨0,rfl,Nat.zero_le _,⟨[],Q,rfl,HST.out⟩⟩
 case round =>
  clear HST
  obtain ⟨k,rfl,hk,HW⟩:=hrel
  obtain ⟨P,Q',hP,hpq⟩:=HW.out
  have HP:=Shut.mk (And.intro hP hpq)
  clear hP hpq HW
  have hids:=HP.out.2.ids
  rw [HP.out.1] at hids
  obtain ⟨av,cv,rfl⟩:=own_any hids
  clear hids
  by_cases hlt:k<y
  ·obtain ⟨d,hd⟩:∃ d,m - k=d+1:=⟨m - k - 1,by omega⟩
   rw [hd] at HP
   obtain ⟨g,rfl⟩:∃ g,va=some ⟨g,0,none⟩:=by
    rcases HP.out.2.own.own.2 with ⟨e,h0⟩ | ⟨g,cap,cur,e,_⟩
    ·omega
    ·cases e;exact ⟨g,rfl⟩
   have hn1:0<rs.length:=by have:=HN.out;omega
   have HAB:=HR.out.2 hn1
   have hrow:=HR.out.1
   rw [HAB] at hrow
   have HBS:=HP.out.2.own.beside HLT.out.1 (fun q e=>HLT.out.2.1 q (by cases e;rfl)) HLT.out.2.2 HP.out.2.ids
   have hQl:=HP.out.2.len
   have hQn:∀ t ∈ Q',t<rs.length:=fun t ht=>by
    have q:=upTo_lt (hms rs) _ t (HP.out.2.out.all.mem_iff.1 (List.mem_append_right _ ht))
    rw [hms_len] at q
    exact q
   have HNX:=Shut.mk (implNext HBS hQl (by omega) hrow hQn HP.out.2.heap)
   obtain ⟨t,ht⟩:∃ t,t=Q'.getD 0 0:=⟨_,rfl⟩
   have htn:t<rs.length:=by rw [ht];exact hQn _ (by simp [List.getD,show 0<Q'.length by omega])
   rw [<-ht] at HNX
   have HT:=Shut.mk ht
   have HC:Shut (∀ X,Below w.heap.size w X->X.cell? ⟨b,off+t*3,none⟩=some (.int .i64 (pk (hms rs) t).2)):=⟨fun X hX=>by
    obtain ⟨b1,o1,r,e1,hre,lb,hc⟩:=hs_at hrow (Below.refl _ _) htn
    cases e1
    have q:=(hc X hX).1
    have e:(pk (hms rs) t).2=r.h.id:=by unfold pk keyP;simp [hms,List.getD,htn,hre]
    rw [e]
    exact q⟩
   obtain ⟨id,hid⟩:∃ q,q=(pk (hms rs) t).2:=⟨_,rfl⟩
   rw [<-hid] at HC
   have HID:=Shut.mk hid
   have hPk:=HP.out.1
   clear hrow HAB HBS hQl hQn htn ht hid
   go_wp2_with (first
    | (go_at_call 51;refine HNX.out.mono ?_;rintro e w3 ⟨rfl,R,hR,hRl,hH,h3⟩;have H3:=Shut.mk (And.intro hR (And.intro hRl (And.intro hH h3)));have c3:=HC.out w3 h3.sl.bel;have o3:=(show owS _ _ _ _ _ _ _ |>.p w3 from h3.sl.at 1 rfl).1;have b3:W1<=w3.heap.size:=Nat.le_trans HP.out.2.big (h3.sl.is _ (List.mem_cons_of_mem _ (List.mem_singleton.2 rfl))).2.2.2;clear hR hRl hH h3)
    | (at_builtin;refine wpList_append_own_at _ rfl _ _ 39 rfl W1 3 i0 (.int .i64 0) 1 8 Tw.underlying39 hin hz0 hz1 hz2 rfl (by decide) _ _ _ rfl (o3.alloc _) ⟨w3.heap.size,0,none⟩ 1 1 [.int .i64 id] rfl rfl (cell_one_new _ _ _) ?c2 ?c3 ?c4 ?c5 ?_))
   case c2=>simp [Value.oneCell']
   case c3=>unfold maxLen;omega
   case c4=>omega
   case c5=>first | omega | (simp;omega)
   intro v9 w9 ho hg _ hat
   have hLT:=HLT.out
   have HO9:=Shut.mk (H3.out.2.2.2.other ((Below.refl _ _).alloc (Nat.le_refl _) _) hg (fun q e=>by
    have q1:=(o3.lt q e).1
    refine ⟨by omega,by omega,fun e2=>?_⟩
    have e3:g=q:=by simpa [Value.ownBlock] using e2
    have:=hLT.2.1 g rfl
    omega))
   have hgs:=hg.size
   have HB9:Shut (W1<=w9.heap.size):=⟨by simp only [World.size_alloc] at hgs;omega⟩
   have HD9:Shut (w9.ownsRow W1 3 1 v9 (k+1) (iv ((P++[t]).map fun t=>(pk (hms rs) t).2))):=⟨by
    rw [List.map_append]
    unfold iv
    rw [List.map_append]
    have e:((List.map (fun t=>(pk (hms rs) t).2) [t]).map (Value.int .i64))=[.int .i64 id]:=by simp [HID.out]
    rw [e]
    exact ho⟩
   have HNP:Shut (PQ w w9 W1 B b off (m - (k+1)) (some ⟨g,0,none⟩) vc (hms rs) (P++[t]) (R.take d) v9):=⟨by
    have hRl:R.length=d+1:=by rw [H3.out.1.length_eq];exact HP.out.2.len
    have ed:m - (k+1)=d:=by omega
    rw [ed]
    refine ⟨by rw [List.length_take];omega,?_,H3.out.2.2.1.take,HO9.out,?_,HB9.out⟩
    ·have q:=HP.out.2.out.next HP.out.2.heap HP.out.2.len H3.out.1 (by rw [H3.out.2.1,HT.out])
     rw [<-HT.out] at q
     exact q
    ·rw [List.length_append,HP.out.1];exact HD9.out⟩
   have hPL:(P++[t]).length=k+1:=by rw [List.length_append,hPk];rfl
   have HPL9:=Shut.mk hPL
   obtain ⟨a9,c9,rfl⟩:=own_any HD9.out
   clear ho hg hat hLT hgs o3 b3 c3 hPL
   go_wp2_with fail
   go_roundw
   case rel=>exact ⟨k+1,by go_num,by omega,⟨P++[t],R.take d,HPL9.out,HNP.out⟩⟩
   case measure=>simp [intOf];omega
  ·obtain rfl:y=k:=by omega
   have HFI:Shut (RR.1=P.map fun t=>(pk (hms rs) t).2):=⟨by
    rw [HE.out]
    have q:=HP.out.2.out.is
    rw [HP.out.1] at q
    dsimp only
    rw [<-q,List.map_map]
    rfl⟩
   have HTR:Shut (RR.2=true):=⟨by rw [HE.out]⟩
   go_wp2_with fail
   go_ret2
   refine ⟨.slice av y cv,by rw [HTR.out];rfl,?_,HP.out.2.own.sl.bel⟩
   rw [HFI.out,List.length_map]
   exact own_base HP.out.2.ids HLT.out.2.2
end Go.Proofs.YteaieagkjepgiaaGreatDoorT
/- . -/
namespace Go.Proofs.YteaieagkjepgiaaGreatDoorT
set_option maxRecDepth 100000
open Go.RowKit
open W (B8)
attribute [local go_sem ↓] Go.wp_at_zero Go.wp_at_succ
attribute [local irreducible] W.gm W.xt W.gp W.gi addB mulT
abbrev u8v (A:B8):Value:=.int .u8 (A.toNat:Int)
theorem u8_xor8 (A B:B8):bits .xor .u8 (A.toNat:Int) (B.toNat:Int)=((A ^^^ B).toNat:Int):=u8_xor ⟨A⟩ ⟨B⟩
theorem implPlus (A B:B8) (w:World):Calls Tw.prog 86 #[.int .u8 (A.toNat:Int),.int .u8 (B.toNat:Int)] w fun e w'=>e = .returned (.int .u8 ((A ^^^ B).toNat:Int))/\w'=w:=by
 have hx:=u8_xor8 A B
 go_enter Tw.func86,Tw.ntmps86
 go_wp2_with fail
 go_ret
 exact ⟨rfl,rfl⟩
theorem xt_lo:∀ A:B8,A.toNat<128->A.toNat*2=(W.xt A).toNat:=by unfold W.xt;decide +kernel
theorem xt_hi:∀ A:B8,¬ A.toNat<128->(BitVec.ofNat 8 (A.toNat*2 % 256)) ^^^ 29#8=W.xt A/\(BitVec.ofNat 8 (A.toNat*2 % 256)).toNat=A.toNat*2 % 256:=by unfold W.xt;decide +kernel
theorem implDoubled (A:B8) (w:World):Calls Tw.prog 98 #[.int .u8 (A.toNat:Int)] w fun e w'=>e = .returned (.int .u8 ((W.xt A).toNat:Int))/\w'=w:=by
 by_cases h:A.toNat<128
 ·have h':(A.toNat:Int)<128:=by omega
  have HX:Hid (((W.xt A).toNat:Int)=(A.toNat:Int)*2):=by rw [<-xt_lo A h];push_cast;rfl
  go_enter Tw.func98,Tw.ntmps98
  go_wp2_with fail
  go_ret
  exact ⟨by rw [HX.out];rfl,rfl⟩
 ·have h':¬ (A.toNat:Int)<128:=by omega
  have hx:bits .xor .u8 ((A.toNat:Int)*2 % 256) 29=((W.xt A).toNat:Int):=by
   obtain ⟨e1,e2⟩:=xt_hi A h
   have:=u8_xor8 (BitVec.ofNat 8 (A.toNat*2 % 256)) 29#8
   rw [e1,e2] at this
   exact this
  go_enter Tw.func98,Tw.ntmps98
  go_wp2_with fail
  go_ret
  exact ⟨rfl,rfl⟩
theorem u8_and8 (A B:B8):bits .and .u8 (A.toNat:Int) (B.toNat:Int)=((A &&& B).toNat:Int):=by
 have h1:∀ z:B8,(BitVec.ofInt 8 (z.toNat:Int)).toNat=z.toNat:=fun z=>by rw [BitVec.toNat_ofInt];have:=z.isLt;omega
 have h2:=(A &&& B).isLt
 show IntKind.u8.wrap ((BitVec.ofInt 8 (A.toNat:Int) &&& BitVec.ofInt 8 (B.toNat:Int)).toNat:Nat)=_
 rw [BitVec.toNat_and,h1,h1]
 rw [BitVec.toNat_and] at h2 ⊢
 simp [IntKind.wrap,IntKind.bits,IntKind.signed]
 omega
theorem low_bit:∀ C:B8,(((C &&& 1#8).toNat:Int)==1)=C.getLsbD 0:=by decide +kernel
theorem bit_at (B:B8) (k:Nat):(bits .and .u8 ((B.toNat:Int) / 2 ^ k) 1==1)=(B >>> k).getLsbD 0:=by
 have e:((B >>> k).toNat:Int)=(B.toNat:Int) / 2 ^ k:=by rw [BitVec.toNat_ushiftRight,Nat.shiftRight_eq_div_pow];push_cast;rfl
 rw [<-e,<-low_bit,<-u8_and8];rfl
set_option maxHeartbeats 1000000 in
theorem implTimes (A0 B:B8) (w:World):Calls Tw.prog 87 #[.int .u8 (A0.toNat:Int),.int .u8 (B.toNat:Int)] w fun e w'=>e = .returned (.int .u8 ((W.gm A0 B).toNat:Int))/\w'=w:=by
 obtain ⟨P,hP⟩:∃ P,P=W.gm A0 B:=⟨_,rfl⟩
 rw [<-hP]
 have HP:Hid (P=0#8 ^^^ W.gm A0 (B >>> 0)):=by rw [BitVec.zero_xor,BitVec.ushiftRight_zero];exact hP
 clear hP
 go_enter Tw.func87,Tw.ntmps87
 go_wp2_with fail
 go_loop [0,5,7] (fun a o i=>∃ (A O:B8) (k:Nat),a = .int .u8 (A.toNat:Int)/\o = .int .u8 (O.toNat:Int)/\i = .int .i64 k/\k<=8/\P=O ^^^ W.gm A (B >>> k)) (fun _ _ i=>8 - (intOf i).toNat)
 case atStart=>exact ⟨A0,0#8,0,rfl,rfl,rfl,Nat.zero_le _,HP.out⟩
 case round =>
  obtain ⟨A,O,k,rfl,rfl,rfl,hk,hr⟩:=hrel
  by_cases hlt:k<8
  ·have k0:(0:Int)<=(k:Int):=by omega
   have k8:(k:Int)<8:=by omega
   obtain ⟨r1,r2⟩:=gm_round hr
   have hs:B >>> k >>> 1=B >>> (k+1):=(BitVec.shiftRight_add ..).symm
   rw [hs] at r1 r2
   have hbit:=bit_at B k
   have hd:=implDoubled A
   have hp:=implPlus O A
   cases hb:(B >>> k).getLsbD 0 with
   | true =>
    rw [hb] at hbit
    have HR:Hid (P=(O ^^^ A) ^^^ W.gm (W.xt A) (B >>> (k+1))):=r1 hb
    clear r1 r2 hs hr
    generalize W.xt A=A' at *
    generalize O ^^^ A=O' at *
    go_wp2_with fail
    refine (hp _).mono ?_
    rintro e w1 ⟨rfl,rfl⟩
    go_wp2_with fail
    refine (hd _).mono ?_
    rintro e w2 ⟨rfl,rfl⟩
    go_wp2_with fail
    go_round
    case rel=>exact ⟨A',O',k+1,rfl,rfl,by go_num,by omega,HR.out⟩
    case measure=>simp [intOf];omega
   | false =>
    rw [hb] at hbit
    have HR:Hid (P=O ^^^ W.gm (W.xt A) (B >>> (k+1))):=r2 hb
    clear r1 r2 hs hr
    generalize W.xt A=A' at *
    go_wp2_with fail
    refine (hd _).mono ?_
    rintro e w2 ⟨rfl,rfl⟩
    go_wp2_with fail
    go_round
    case rel=>exact ⟨A',O,k+1,rfl,rfl,by go_num,by omega,HR.out⟩
    case measure=>simp [intOf];omega
  ·have hlt':¬ (k:Int)<8:=by omega
   obtain rfl:k=8:=by omega
   have HR:Hid (P=O):=by
    have e:B >>> 8=0#8:=by apply BitVec.eq_of_toNat_eq;simp [BitVec.toNat_ushiftRight,Nat.shiftRight_eq_div_pow];have:=B.isLt;omega
    rw [e,W.gm_zero,BitVec.xor_zero] at hr
    exact hr
   clear hr
   go_wp2_with fail
   go_ret
   exact ⟨by rw [HR.out];rfl,rfl⟩
set_option maxHeartbeats 1000000 in
theorem implPower (A:B8) (n:Nat) (w:World) (h:n<=1000):Calls Tw.prog 104 #[.int .u8 (A.toNat:Int),.int .i64 (n:Int)] w fun e w'=>e = .returned (.int .u8 ((W.gp A n).toNat:Int))/\w'=w:=by
 go_enter Tw.func104,Tw.ntmps104
 go_wp2_with fail
 go_loop [5,7] (fun o i=>∃ k:Nat,i = .int .i64 k/\k<=n/\o = .int .u8 ((W.gp A k).toNat:Int)) (fun _ i=>n - (intOf i).toNat)
 case atStart=>exact ⟨0,rfl,Nat.zero_le _,by rw [W.gp_0];rfl⟩
 case round =>
  obtain ⟨k,rfl,hk,rfl⟩:=hrel
  by_cases hlt:k<n
  ·have hlt':(k:Int)<(n:Int):=by omega
   have hc:=implTimes (W.gp A k) A
   rw [<-W.gp_succ] at hc
   go_wp2_with fail
   refine (hc _).mono ?_
   rintro e w1 ⟨rfl,rfl⟩
   go_wp2_with fail
   go_round
   case rel=>exact ⟨k+1,by go_num,by omega,rfl⟩
   case measure=>simp [intOf];omega
  ·have hlt':¬ (k:Int)<(n:Int):=by omega
   obtain rfl:k=n:=by omega
   go_wp2_with fail
   go_ret
   exact ⟨rfl,rfl⟩
theorem gi_power (A:B8):W.gi A=W.gp A 254:=by
 unfold W.gi
 by_cases h:A=0#8
 ·rw [if_pos h,h,W.gp_succ 0#8 253,W.gm_zero]
 ·exact if_neg h
theorem implInverse (A:B8) (w:World):Calls Tw.prog 99 #[.int .u8 (A.toNat:Int)] w fun e w'=>e = .returned (.int .u8 ((W.gi A).toNat:Int))/\w'=w:=by
 have hc:=fun w=>implPower A 254 w (by omega)
 rw [<-gi_power] at hc
 have HC:Hid _:=hc
 clear hc
 go_enter Tw.func99,Tw.ntmps99
 go_wp2_with fail
 refine (HC.out _).mono ?_
 rintro e w1 ⟨rfl,rfl⟩
 go_wp2_with fail
 go_ret
 exact ⟨rfl,rfl⟩
end Go.Proofs.YteaieagkjepgiaaGreatDoorT
/- . -/
namespace Go.Proofs.YteaieagkjepgiaaGreatDoorT
set_option maxRecDepth 100000
open Go.RowKit
open W (B8)
def ucs (xs:List B8):List Value:=xs.map u8v
theorem ucs_len (xs:List B8):(ucs xs).length=xs.length:=by simp [ucs]
theorem ucs_get (xs:List B8) (j:Nat) (h:j<xs.length):(ucs xs)[j]?=some (.int .u8 ((xs.getD j 0#8).toNat:Int)):=by simp [ucs,List.getD,h]
theorem ucs_set (xs:List B8) (j:Nat) (x:B8):(ucs xs).set j (.int .u8 (x.toNat:Int))=ucs (xs.set j x):=by simp [ucs,List.map_set]
theorem crow_byte {w:World} {a:Option Addr} {xs:List B8} (h:CRow w a (ucs xs)) (hp:0<xs.length):∃ b off,a=some ⟨b,off,none⟩/\b<w.heap.size/\∀ j,j<xs.length->w.cell? ⟨b,off+j,none⟩=some (.int .u8 ((xs.getD j 0#8).toNat:Int)):=by
 obtain ⟨b,off,e,hb,hc⟩:=h (by rw [ucs_len];exact hp)
 exact ⟨b,off,e,hb,fun j hj=>hc j _ (ucs_get xs j hj)⟩
structure KS where
 loc:Option Addr
 row:List B8
 cap:Nat
instance:Inhabited KS:=⟨⟨none,[],0⟩⟩
def ksv (s:KS):Value:=.slice s.loc s.row.length s.cap
def kvs (ss:List KS):List Value:=ss.map ksv
def kws (ss:List KS):List (List B8):=ss.map (·.row)
theorem kvs_len (ss:List KS):(kvs ss).length=ss.length:=by simp [kvs]
theorem kws_len (ss:List KS):(kws ss).length=ss.length:=by simp [kws]
theorem kvs_get (ss:List KS) (i:Nat) (h:i<ss.length):(kvs ss)[i]?=some (ksv ss[i]):=by simp [kvs,h]
theorem kws_get (ss:List KS) (i:Nat) (h:i<ss.length):(kws ss)[i]'(by rw [kws_len];exact h)=ss[i].row:=by simp [kws]
theorem kws_snoc (ss:List KS) (s:KS):kws (ss++[s])=kws ss++[s.row]:=by simp [kws]
def KR (w:World) (a:Option Addr) (ss:List KS) (lo hi:Nat):Prop:=RRow w a (kvs ss) lo hi/\∀ s ∈ ss,RRow w s.loc (ucs s.row) lo hi
theorem KR.turned {w w':World} {a:Option Addr} {ss:List KS} {lo hi lo' hi':Nat} (h:KR w a ss lo hi) (t:Turned w w' lo' hi') (hd:hi<=lo'\/hi'<=lo):KR w' a ss lo hi:=⟨h.1.turned t hd,fun s hs=>(h.2 s hs).turned t hd⟩
theorem KR.below {w w':World} {a:Option Addr} {ss:List KS} {lo hi:Nat} (h:KR w a ss lo hi) (hb:Below w.heap.size w w'):KR w' a ss lo hi:=⟨h.1.below hb,fun s hs=>(h.2 s hs).below hb⟩
theorem KR.nil (w:World) (a:Option Addr) (lo hi:Nat):KR w a [] lo hi:=⟨fun h=>by simp [kvs] at h,by simp⟩
theorem KR.at {w:World} {a:Option Addr} {ss:List KS} {lo hi:Nat} (h:KR w a ss lo hi) (hp:0<ss.length):∃ b off,a=some ⟨b,off,none⟩/\b<w.heap.size/\∀ i (hi:i<ss.length),w.cell? ⟨b,off+i,none⟩=some (ksv ss[i]):=by
 obtain ⟨b,off,e,_,_,h3,h4⟩:=h.1 (by rw [kvs_len];exact hp)
 exact ⟨b,off,e,h3,fun i hi=>h4 i _ (kvs_get ss i hi)⟩
structure KW (w:World) (g:Nat) (ss:List KS) (lo hi:Nat):Prop where
 out:WCells w g (kvs ss)
 glo:lo<=g
 ghi:g<hi
 rows:∀ s ∈ ss,∃ b,s.loc=some ⟨b,0,none⟩/\lo<=b/\b<hi/\b ≠ g/\WCells w b (ucs s.row)/\s.row.length<=s.cap
 apart:(ss.map KS.loc).Nodup
theorem KW.mr {w:World} {g:Nat} {ss:List KS} {lo hi:Nat} (h:KW w g ss lo hi):KR w (some ⟨g,0,none⟩) ss lo hi:=
 ⟨RRow.of_wcells h.out h.glo h.ghi,fun s hs=>by obtain ⟨b,e,h1,h2,_,h3,_⟩:=h.rows s hs;rw [e];exact RRow.of_wcells h3 h1 h2⟩
theorem KW.turned {w w':World} {g:Nat} {ss:List KS} {lo hi lo' hi':Nat} (h:KW w g ss lo hi) (t:Turned w w' lo' hi') (hd:hi<=lo'\/hi'<=lo):KW w' g ss lo hi:=
 ⟨h.out.turned t (by have:=h.glo;have:=h.ghi;omega),h.glo,h.ghi,fun s hs=>by
  obtain ⟨b,e,h1,h2,h3,h4,h5⟩:=h.rows s hs
  exact ⟨b,e,h1,h2,h3,h4.turned t (by omega),h5⟩,h.apart⟩
theorem KW.below {w w':World} {g:Nat} {ss:List KS} {lo hi:Nat} (h:KW w g ss lo hi) (hb:Below w.heap.size w w'):KW w' g ss lo hi:=
 ⟨h.out.below hb h.out.1,h.glo,h.ghi,fun s hs=>by
  obtain ⟨b,e,h1,h2,h3,h4,h5⟩:=h.rows s hs
  exact ⟨b,e,h1,h2,h3,h4.below hb h4.1,h5⟩,h.apart⟩
def KAns (w:World) (v:Value) (X:List (List B8)) (lo hi:Nat):Prop:=
 ∃ (a:Option Addr) (cap:Nat) (ss:List KS),v = .slice a ss.length cap/\kws ss=X/\ss.length<=cap/\(ss=[]\/∃ g,a=some ⟨g,0,none⟩/\KW w g ss lo hi)
def KSee (w:World) (v:Value) (X:List (List B8)) (lo hi:Nat):Prop:=∃ (a:Option Addr) (cap:Nat) (ss:List KS),v = .slice a ss.length cap/\kws ss=X/\KR w a ss lo hi
theorem KAns.see {w:World} {v:Value} {X:List (List B8)} {lo hi:Nat} (h:KAns w v X lo hi):KSee w v X lo hi:=by
 obtain ⟨a,cap,ss,e,hr,_,h1⟩:=h
 refine ⟨a,cap,ss,e,hr,?_⟩
 rcases h1 with rfl | ⟨g,rfl,hm⟩
 ·exact KR.nil _ _ _ _
 ·exact hm.mr
theorem KSee.turned {w w':World} {v:Value} {X:List (List B8)} {lo hi lo' hi':Nat} (h:KSee w v X lo hi) (t:Turned w w' lo' hi') (hd:hi<=lo'\/hi'<=lo):KSee w' v X lo hi:=by
 obtain ⟨a,cap,ss,e,hr,h1⟩:=h
 exact ⟨a,cap,ss,e,hr,h1.turned t hd⟩
theorem KSee.below {w w':World} {v:Value} {X:List (List B8)} {lo hi:Nat} (h:KSee w v X lo hi) (hb:Below w.heap.size w w'):KSee w' v X lo hi:=by
 obtain ⟨a,cap,ss,e,hr,h1⟩:=h
 exact ⟨a,cap,ss,e,hr,h1.below hb⟩
theorem KAns.turned {w w':World} {v:Value} {X:List (List B8)} {lo hi lo' hi':Nat} (h:KAns w v X lo hi) (t:Turned w w' lo' hi') (hd:hi<=lo'\/hi'<=lo):KAns w' v X lo hi:=by
 obtain ⟨a,cap,ss,e,hr,hc,h1⟩:=h
 refine ⟨a,cap,ss,e,hr,hc,?_⟩
 rcases h1 with rfl | ⟨g,rfl,hm⟩
 ·exact .inl rfl
 ·exact .inr ⟨g,rfl,hm.turned t hd⟩
theorem KAns.below {w w':World} {v:Value} {X:List (List B8)} {lo hi:Nat} (h:KAns w v X lo hi) (hb:Below w.heap.size w w'):KAns w' v X lo hi:=by
 obtain ⟨a,cap,ss,e,hr,hc,h1⟩:=h
 refine ⟨a,cap,ss,e,hr,hc,?_⟩
 rcases h1 with rfl | ⟨g,rfl,hm⟩
 ·exact .inl rfl
 ·exact .inr ⟨g,rfl,hm.below hb⟩
def KPost (X:List (List B8)) (w:World) (e:Ending) (w':World):Prop:=∃ v,e = .returned v/\KAns w' v X w.heap.size w'.heap.size/\Below w.heap.size w w'
theorem krow_apart {w:World} {b B t n:Nat} {v:Value} {row:List B8} {ts:List KS} (h:WCells w b (ucs row)) (hr:row ≠ []) (ho:w.ownsRow B t 1 v n (kvs ts)) (hts:ts ≠ []):v.ownBlock ≠ some b:=by
 intro e
 have hc:=ho.cells e
 obtain ⟨x,r,rfl⟩:=List.exists_cons_of_ne_nil hr
 obtain ⟨s,t',rfl⟩:=List.exists_cons_of_ne_nil hts
 have h1:=(h.2 0 (u8v x) rfl).1
 have h2:=hc 0 (ksv s) rfl
 have e2:(⟨b,0,none⟩:Addr).add 0=⟨b,0,none⟩:=by simp [Addr.add]
 rw [e2,h1] at h2
 simp [ksv] at h2
structure KI (w wr:World) (v:Value) (ts:List KS):Prop where
 own:wr.ownsRow w.heap.size 131 1 v ts.length (kvs ts)
 rows:∀ s ∈ ts,∃ b,s.loc=some ⟨b,0,none⟩/\w.heap.size<=b/\WCells wr b (ucs s.row)/\s.row.length<=s.cap/\s.row ≠ []
 apart:(ts.map KS.loc).Nodup
 bel:Below w.heap.size w wr
theorem KI.start (w:World) {wr:World} {v:Value} (ho:wr.ownsRow w.heap.size 131 1 v 0 []) (hb:Below w.heap.size w wr):KI w wr v []:=⟨ho,by simp,List.nodup_nil,hb⟩
theorem KI.below {w wr w':World} {v:Value} {ts:List KS} (h:KI w wr v ts) (hb:Below wr.heap.size wr w'):KI w w' v ts:=
 ⟨h.own.kept (row:=none) ⟨hb.os,hb.tape,hb.output,hb.size,fun k hk _=>hb.block k hk⟩ (Classical.em _),fun s hs=>by
  obtain ⟨b,e,q1,q2,q3⟩:=h.rows s hs
  exact ⟨b,e,q1,q2.below hb q2.1,q3⟩,h.apart,h.bel.trans (hb.mono h.bel.size)⟩
theorem KI.other {w wr w':World} {v:Value} {ts:List KS} {B g:Nat} (h:KI w wr v ts) (hg:wr.grownBy w' (some g)) (hB:B<=g) (ho:∀ q,v.ownBlock=some q->q<B) (hr:∀ s ∈ ts,∀ b,s.loc=some ⟨b,0,none⟩->b<B) (hw:w.heap.size<=B) (hs:w.heap.size<=wr.heap.size):KI w w' v ts:=by
 refine ⟨h.own.kept hg (.inr fun e=>by have:=ho g e;omega),fun s hs'=>?_,h.apart,h.bel.grown hg hs (fun k e=>by cases e;omega)⟩
 obtain ⟨b,e,q1,q2,q3⟩:=h.rows s hs'
 exact ⟨b,e,q1,q2.apart hg (by have:=hr s hs' b e;omega),q3⟩
theorem KI.append {w wr w1:World} {v v':Value} {ts:List KS} {o:Obj} {b:Nat} {row:List B8} {cap:Nat} (h:KI w wr v ts) (hb:w.heap.size<=b) (hrow:WCells wr b (ucs row)) (hne:row ≠ []) (hcap:row.length<=cap)
  (hv:∀ q,v.ownBlock=some q->q ≠ b) (hnew:∀ s ∈ ts,s.loc ≠ some ⟨b,0,none⟩)
  (hown:w1.ownsRow w.heap.size 131 1 v' (ts.length+1) (kvs ts++[.slice (some ⟨b,0,none⟩) row.length cap])) (hg:(wr.alloc o).grownBy w1 v.ownBlock):KI w w1 v' (ts++[KS.mk (some ⟨b,0,none⟩) row cap]):=by
 have keep:∀ {c:Nat} {L:List Value},WCells wr c L->(∀ q,v.ownBlock=some q->q ≠ c)->WCells w1 c L:=fun {c L} hc hq=>by
  have h1:WCells (wr.alloc o) c L:=hc.below ((Below.refl wr.heap.size wr).alloc (Nat.le_refl _) o) hc.1
  refine ⟨Nat.lt_of_lt_of_le h1.1 hg.size,fun i u hu=>?_⟩
  have hbk:w1.heap[c]?=(wr.alloc o).heap[c]?:=hg.block c h1.1 (fun e=>hq c e.symm rfl)
  exact ⟨(World.cell?_of_block (a:=⟨c,i,none⟩) hbk).trans (h1.2 i u hu).1,(World.frozen?_of_block (a:=⟨c,i,none⟩) hbk).trans (h1.2 i u hu).2⟩
 refine ⟨?_,fun s hs=>?_,?_,(h.bel.alloc h.bel.size o).grown hg (by have:=h.bel.size;simp;omega) (fun k e=>(h.own.lt k e).1)⟩
 ·have e:kvs (ts++[KS.mk (some ⟨b,0,none⟩) row cap])=kvs ts++[.slice (some ⟨b,0,none⟩) row.length cap]:=by simp [kvs,ksv]
  rw [e,List.length_append]
  exact hown
 ·rcases List.mem_append.1 hs with h1 | h1
  ·obtain ⟨c,e,q1,q2,q3,q4⟩:=h.rows s h1
   refine ⟨c,e,q1,keep q2 (fun q hq=>?_),q3,q4⟩
   have:=krow_apart q2 q4 h.own (List.ne_nil_of_mem h1)
   intro e2;subst e2;exact this hq
  ·simp at h1
   subst h1
   exact ⟨b,rfl,hb,keep hrow hv,hcap,hne⟩
 ·rw [List.map_append,List.nodup_append]
  refine ⟨h.apart,by simp,fun l hl l' hl'=>?_⟩
  obtain ⟨s,hs,rfl⟩:=List.mem_map.1 hl
  simp only [List.map_cons,List.map_nil,List.mem_singleton] at hl'
  subst hl'
  exact hnew s hs
theorem KI.fin {w wr:World} {v:Value} {ts:List KS} {X:List (List B8)} (h:KI w wr v ts) (hX:kws ts=X):KAns wr v X w.heap.size wr.heap.size:=by
 have hlt:=h.own.lt
 have hown:=h.own
 obtain ⟨_,⟨rfl,h0⟩ | ⟨g,cap,cur,rfl,hB,hcur,hn,_⟩⟩:=hown
 ·have:ts=[]:=List.eq_nil_of_length_eq_zero h0
  subst this
  exact ⟨none,0,[],rfl,hX,Nat.le_refl _,.inl rfl⟩
 ·refine ⟨_,cap,ts,rfl,hX,hn,?_⟩
  by_cases hts:ts=[]
  ·exact .inl hts
  ·refine .inr ⟨g,rfl,own_wcells h.own,hB,(hlt g rfl).2,fun s hs=>?_,h.apart⟩
   obtain ⟨b,e,q1,q2,q3,q4⟩:=h.rows s hs
   refine ⟨b,e,q1,q2.1,fun eb=>?_,q2,q3⟩
   subst eb
   exact krow_apart q2 q4 h.own hts rfl
end Go.Proofs.YteaieagkjepgiaaGreatDoorT
/- . -/
namespace Go.Proofs.YteaieagkjepgiaaGreatDoorT
set_option maxRecDepth 100000
open Go.RowKit
open W (B8)
attribute [local go_sem ↓] Go.wp_at_zero Go.wp_at_succ
attribute [local irreducible] W.gm W.xt W.gp W.gi
theorem infoRowB:(Tw.prog.info? 131).map (fun i=>(i.zero,i.size,i.bytes))=some (some (.slice none 0 0),1,24):=by kernel_rfl
theorem infoB:(Tw.prog.info? 112).map (fun i=>(i.zero,i.size,i.bytes))=some (some (.int .u8 0),1,1):=by kernel_rfl
def toI (r:List B8):List Int:=r.map fun A=>(A.toNat:Int)
def toIs (K:List (List B8)):List (List Int):=K.map toI
theorem toI_len (r:List B8):(toI r).length=r.length:=by simp [toI]
theorem toI_ne {r:List B8} (h:r ≠ []):toI r ≠ []:=fun e=>h (by simpa [toI] using e)
def NE (K:List (List B8)):Prop:=∀ r ∈ K,r ≠ []/\r.length<=1000
theorem own_at {w:World} {B n sz:Nat} {t:TypeId} {v:Value} {L:List Value} (h:w.ownsRow B t sz v n L) (hp:0<n):∃ g cap,v = .slice (some ⟨g,0,none⟩) n cap/\n<=cap:=by
 rcases h.2 with ⟨_,h0⟩ | ⟨g,cap,_,rfl,_,_,hc,_⟩
 ·omega
 ·exact ⟨g,cap,rfl,hc⟩
theorem BI.newrow {w wo wi:World} {v:Value} {ts:List SR} {gr:Nat} (h:BI w wo v ts) (hb:Below wo.heap.size wo wi) (hg:wo.heap.size<=gr):BI w wi v ts/\(∀ q,v.ownBlock=some q->q ≠ gr)/\∀ s ∈ ts,s.loc ≠ some ⟨gr,0,none⟩:=
 ⟨h.below hb,fun q hq=>by have:=(h.own.lt q hq).2;omega,fun s hs e=>by obtain ⟨b',e',_,q,_⟩:=h.rows s hs;have:b'=gr:=congrArg Addr.block (Option.some.inj (e'.symm.trans e));have:=q.1;omega⟩
def BPostI (X:List (List Int)) (w:World) (e:Ending) (w':World):Prop:=∃ v ts,e = .returned v/\rws ts=X/\BI w w' v ts
set_option maxRecDepth 100000 in
set_option maxHeartbeats 2000000 in
theorem implIntsOfB (w:World) (v:Value) (K:List (List B8)) (lo hi:Nat) (hs:KSee w v K lo hi) (hne:NE K) (hl:K.length<=1000) :
  Calls Tw.prog 88 #[v] w fun e w'=>BPostI (toIs K) w e w':=by
 obtain ⟨a,cap,ss,rfl,hr,hm⟩:=hs
 obtain ⟨i0,hi0,hz0,hz1,hz2⟩:=info_parts infoRow
 obtain ⟨i1,hi1,hy0,hy1,hy2⟩:=info_parts infoIntG
 have HM:=Shut.mk hm
 have HX:=Shut.mk (show kws ss=K from hr)
 obtain ⟨n,hn⟩:∃ n,n=ss.length:=⟨_,rfl⟩
 have HN:Hid (n=ss.length/\K.length=n):=⟨hn,by rw [<-hr,kws_len,hn]⟩
 have HE:=Shut.mk hne
 have hn1:n<=1000:=by have:=HN.out.2;omega
 rw [<-hn]
 clear hm hr hne hn hl
 go_enter Tw.func88,Tw.ntmps88
 go_wp2_with fail
 go_loopw [3,11] (fun v i wr=>∃ (ts:List SR) (vv:Value),vv=v/\i = .int .i64 (ts.length:Nat)/\ts.length<=n/\Shut (rws ts=(toIs K).take ts.length)/\Shut (BI w wr vv ts)) (fun _ i _=>n - (intOf i).toNat)
 case atStart=>exact ⟨[],_,rfl,rfl,by simp,⟨rfl⟩,⟨BI.start w (World.ownsRow_nil _ _ _ _) (Below.refl _ _)⟩⟩
 case round =>
  obtain ⟨ts,v,rfl,rfl,hk,hrw,hbi⟩:=hrel
  obtain ⟨wo,rfl⟩:∃ wo,wo=wr:=⟨_,rfl⟩
  obtain ⟨i,hie⟩:∃ i,i=ts.length:=⟨_,rfl⟩
  have HI:Hid (i=ts.length):=hie
  rw [<-hie] at hk ⊢
  clear hie
  by_cases hlt:i<n
  ·have hls:i<ss.length:=by have:=HN.out.1;omega
   have hso:=hbi.out.bel.size
   obtain ⟨b,off,rfl,lb,hcell⟩:=(HM.out.below hbi.out.bel).at (by omega)
   have d1:=hcell i hls
   have hrr:=((HM.out.below hbi.out.bel).2 ss[i] (List.getElem_mem hls)).crow
   have hmem:ss[i].row ∈ K:=by rw [<-HX.out];exact List.mem_map.2 ⟨ss[i],List.getElem_mem hls,rfl⟩
   have hne:=HE.out _ hmem
   have hget:K[i]'(by have:=HN.out.2;omega)=ss[i].row:=by
    have:=kws_get ss i hls
    simp only [HX.out] at this
    exact this
   unfold ksv at d1
   obtain ⟨row,hrow⟩:∃ row,row=ss[i].row:=⟨_,rfl⟩
   rw [<-hrow] at d1 hrr hne hget
   generalize ss[i].loc=loc at *
   generalize ss[i].cap=cp at *
   have HST:=Shut.mk (show (toIs K).take (i+1)=(toIs K).take i++[toI row] by
    have hi2:i<(toIs K).length:=by unfold toIs;rw [List.length_map];have:=HN.out.2;omega
    rw [List.take_succ_eq_append_getElem hi2]
    simp only [toIs,List.getElem_map,hget])
   obtain ⟨m,hm⟩:∃ m,m=row.length:=⟨_,rfl⟩
   have HMR:Hid (m=row.length):=hm
   rw [<-hm] at d1 hne
   obtain ⟨hne1,hm1⟩:=hne
   have hm0:0<m:=by rw [hm];exact List.length_pos_iff.2 hne1
   have HR:=Shut.mk hrr
   have HNE:Hid (row ≠ []):=hne1
   have k0:(0:Int)<=(i:Int):=by omega
   have k1:(i:Int)<(n:Int):=by omega
   clear hm hrow hcell hmem hrr hget hne1
   go_wp2_with fail
   go_loopw [6,17] (fun rv kk wq=>∃ (k:Nat) (rr:Value),rr=rv/\kk = .int .i64 k/\k<=m/\Shut (wq.ownsRow wo.heap.size 3 1 rr k (ics (toI (row.take k))))/\Shut (Below wo.heap.size wo wq)) (fun _ kk _=>m - (intOf kk).toNat)
   case atStart=>exact ⟨0,_,rfl,rfl,by omega,⟨World.ownsRow_nil _ _ _ _⟩,⟨Below.refl _ _⟩⟩
   case round =>
    obtain ⟨k,rr,rfl,rfl,hkm,hown,hbq⟩:=hrel
    obtain ⟨wi,rfl⟩:∃ wi,wi=wr:=⟨_,rfl⟩
    by_cases hkl:k<m
    ·have hkr:k<row.length:=by have:=HMR.out;omega
     have hkl':(k:Int)<(m:Int):=by omega
     have kk0:(0:Int)<=(k:Int):=by omega
     obtain ⟨b',o',rfl,lb',hc'⟩:=crow_byte (HR.out.stays hbq.out) (by omega)
     have d2:=hc' k hkr
     have hlx:=b8_lt (row.getD k 0#8)
     have hst:ics (toI (row.take (k+1)))=ics (toI (row.take k))++[.int .i64 ((row.getD k 0#8).toNat:Int)]:=by
      have e:row[k]=row.getD k 0#8:=by simp [List.getD,hkr]
      rw [List.take_succ_eq_append_getElem hkr,e]
      simp [toI,ics]
     generalize row.getD k 0#8=x at *
     have HS2:=Shut.mk hst
     have hown3:=hown.out
     have hs3:=hbq.out.size
     clear hst hc' hown
     go_wp2_with (at_builtin;refine wpList_append_own _ rfl _ _ 39 rfl wo.heap.size 3 i1 (.int .i64 0) 1 8 Tw.underlying39 hi1 hy0 hy1 hy2 rfl (by decide) _ _ _ rfl (hown3.alloc _) ⟨wi.heap.size,0,none⟩ 1 1 [.int .i64 (x.toNat:Int)] rfl rfl (cell_one_new _ _ _) ?c2 ?c3 ?c4 ?c5 ?_)
     case c2=>first | rfl | (intro u hu;simp at hu;subst hu;rfl)
     case c3=>unfold maxLen;omega
     case c4=>omega
     case c5=>first | omega | (simp;omega)
     intro v' w4 hown' hgrow _
     rw [<-HS2.out] at hown'
     have Q1:=Shut.mk hown'
     have Q2:=Shut.mk ((hbq.out.alloc hs3 (.cells #[.int .i64 (x.toNat:Int)] 3)).grown hgrow (by simp;omega) (fun j hj=>(hown3.lt j hj).1))
     clear hown' hgrow hown3 hbq
     go_wp2_with fail
     go_roundw
     case rel=>exact ⟨k+1,v',rfl,by go_num,by omega,Q1,Q2⟩
     case measure=>simp [intOf];omega
    ·have e:k=m:=by omega
     have hkl':¬ (k:Int)<(m:Int):=by omega
     have hown2:=hown.out
     rw [List.take_of_length_le (by have:=HMR.out;omega)] at hown2
     obtain ⟨gr,cr,rfl,hcr⟩:=own_at hown2 (by omega)
     have hgr:=hown2.lt gr rfl
     have HROW:=Shut.mk (own_wcells hown2)
     have HBI:=Shut.mk (hbi.out.newrow hbq.out hgr.1)
     have hsi:wo.heap.size<=wi.heap.size:=hbq.out.size
     have hgr1:=hgr.1
     have hown:=HBI.out.1.own
     clear hown2 hbq hbi hgr
     rw [e] at *
     clear e
     go_wp2_with (at_builtin;refine wpList_append_own _ rfl _ _ 65 rfl w.heap.size 39 i0 (.slice none 0 0) 1 24 Tw.underlying65 hi0 hz0 hz1 hz2 rfl (by decide) _ _ _ rfl (hown.alloc _) ⟨wi.heap.size,0,none⟩ 1 1 [.slice (some ⟨gr,0,none⟩) m cr] rfl rfl (cell_one_new _ _ _) ?c2 ?c3 ?c4 ?c5 ?_)
     case c2=>first | rfl | (intro u hu;simp at hu;subst hu;rfl)
     case c3=>unfold maxLen;have:=HI.out;omega
     case c4=>have:=HI.out;omega
     case c5=>first | omega | (simp;omega)
     intro v' w6 hown' hgrow _
     have hlen:(toI row).length=m:=by rw [toI_len,HMR.out]
     have hap:=HBI.out.1.append (cap:=cr) (by omega) HROW.out (toI_ne HNE.out) (by rw [hlen];exact hcr) HBI.out.2.1 HBI.out.2.2 (by rw [hlen];exact hown') hgrow
     have HAP:=Shut.mk hap
     have HR2:Shut (rws (ts++[SR.mk (some ⟨gr,0,none⟩) (toI row) cr])=(toIs K).take (i+1)):=⟨by rw [rws_snoc,hrw.out,HST.out,HI.out]⟩
     clear hap hown' hgrow hown HBI HROW hrw hlen
     go_wp2_with fail
     go_roundw
     case rel=>exact ⟨_,v',rfl,by rw [List.length_append,List.length_singleton,<-HI.out];go_num,by rw [List.length_append,List.length_singleton,<-HI.out];omega,⟨by rw [List.length_append,List.length_singleton,<-HI.out];exact HR2.out⟩,HAP⟩
     case measure=>simp [intOf];omega
  ·have e:i=n:=by omega
   have hlt':¬ (i:Int)<(n:Int):=by omega
   have HF:=Shut.mk (show rws ts=toIs K by
    rw [hrw.out,List.take_of_length_le (by unfold toIs;rw [List.length_map];have:=HN.out.2;have:=HI.out;omega)])
   have HB:=Shut.mk hbi.out
   clear e hbi hrw
   go_wp2_with fail
   go_ret
   exact ⟨v,ts,rfl,HF.out,HB.out⟩
end Go.Proofs.YteaieagkjepgiaaGreatDoorT
/- . -/
namespace Go.Proofs.YteaieagkjepgiaaGreatDoorT
set_option maxRecDepth 100000
open Go.RowKit
open W (B8)
attribute [local go_sem ↓] Go.wp_at_zero Go.wp_at_succ
attribute [local irreducible] W.gm W.xt W.gp W.gi
theorem KI.newrow {w wo wi:World} {v:Value} {ts:List KS} {gr:Nat} (h:KI w wo v ts) (hb:Below wo.heap.size wo wi) (hg:wo.heap.size<=gr):KI w wi v ts/\(∀ q,v.ownBlock=some q->q ≠ gr)/\∀ s ∈ ts,s.loc ≠ some ⟨gr,0,none⟩:=
 ⟨h.below hb,fun q hq=>by have:=(h.own.lt q hq).2;omega,fun s hs e=>by obtain ⟨b',e',_,q,_⟩:=h.rows s hs;have:b'=gr:=congrArg Addr.block (Option.some.inj (e'.symm.trans e));have:=q.1;omega⟩
end Go.Proofs.YteaieagkjepgiaaGreatDoorT
/- . -/
namespace Go.Proofs.YteaieagkjepgiaaGreatDoorT
set_option maxRecDepth 100000
open Go.RowKit
open W (B8)
attribute [local go_sem ↓] Go.wp_at_zero Go.wp_at_succ
attribute [local irreducible] W.gm W.xt W.gp W.gi
def oneU (t:B8) (n i:Nat):List B8:=(List.replicate n 0#8).set i t
def onesU (t:B8) (n:Nat):List (List B8):=(List.range n).map (oneU t n)
theorem oneU_len (t:B8) (n i:Nat):(oneU t n i).length=n:=by simp [oneU]
theorem made_bytes {wm:World} {B n g:Nat} (hownm:wm.ownsRow B 112 1 (.slice (some ⟨g,0,none⟩) n n) n (madeCells #[Value.int .u8 0] n).toList):WCells wm g (ucs (List.replicate n 0#8)):=by
 have h:=own_wcells hownm
 have e:(madeCells #[Value.int .u8 0] n).toList=ucs (List.replicate n 0#8):=by rw [toList_madeCells_one];simp [ucs,u8v]
 rw [e] at h
 exact h
set_option maxRecDepth 100000 in
set_option maxHeartbeats 2000000 in
theorem implOnes (t:B8) (n:Nat) (w:World) (hn1:1<=n) (hn8:n<=8):Calls Tw.prog 89 #[.int .i64 (n:Int),.int .u8 (t.toNat:Int)] w fun e w'=>KPost (onesU t n) w e w':=by
 obtain ⟨i0,hi0,hz0,hz1,hz2⟩:=info_parts infoRowB
 obtain ⟨i1,hi1,hy0,hy1,hy2⟩:=info_parts infoB
 go_enter Tw.func89,Tw.ntmps89
 go_wp2_with fail
 go_loopw [5,9] (fun v i wr=>∃ (ts:List KS) (vv:Value),vv=v/\i = .int .i64 (ts.length:Nat)/\ts.length<=n/\Shut (kws ts=(List.range ts.length).map (oneU t n))/\Shut (KI w wr vv ts)) (fun _ i _=>n - (intOf i).toNat)
 case atStart=>exact ⟨[],_,rfl,rfl,by simp,⟨rfl⟩,⟨KI.start w (World.ownsRow_nil _ _ _ _) (Below.refl _ _)⟩⟩
 case round =>
  obtain ⟨ts,v,rfl,rfl,hk,hr,hbi⟩:=hrel
  obtain ⟨w1,rfl⟩:∃ w1,w1=wr:=⟨_,rfl⟩
  by_cases hlt:ts.length<n
  ·have hlt':(ts.length:Int)<(n:Int):=by omega
   have k0:(0:Int)<=(ts.length:Int):=by omega
   have hsz:=hbi.out.bel.size
   go_wp2_with (at_make;refine wpList_make_full _ rfl _ _ 131 rfl w1.heap.size 112 i1 _ 1 Tw.underlying131 hi1 hy0 hy1 .i64 .i64 _ _ n rfl rfl (by omega) (by omega) ?b2 ?b3 ?b4 ?_)
   case b2=>rw [hy2];omega
   case b3=>unfold maxLen;omega
   case b4=>omega
   intro wm hownm hgrm
   have hbm:Below w1.heap.size w1 wm:=(Below.refl _ _).grown hgrm (Nat.le_refl _) (fun j hj=>by simp at hj)
   have hrow:WCells wm w1.heap.size (ucs (List.replicate n 0#8)):=made_bytes hownm
   obtain ⟨c0,z0⟩:=hrow.2 ts.length _ (ucs_get _ ts.length (by simp;exact hlt))
   have hset:=hrow.set ts.length (.int .u8 (t.toNat:Int)) (by rw [ucs_len];simp;exact hlt)
   rw [ucs_set,show (List.replicate n 0#8).set ts.length t=oneU t n ts.length from rfl] at hset
   have hbi1:=hbi.out.below hbm
   have hot:KI w (wm.setCell ⟨w1.heap.size,ts.length,none⟩ (.int .u8 (t.toNat:Int))) v ts:=hbi1.other (gb_set' _ _ _ _) (Nat.le_refl w1.heap.size) (fun q hq=>(hbi.out.own.lt q hq).2) (fun s hs b e=>by obtain ⟨b',e',_,q,_⟩:=hbi.out.rows s hs;have:b'=b:=congrArg Addr.block (Option.some.inj (e'.symm.trans e));have:=q.1;omega) hsz hbi1.bel.size
   have HROW:=Shut.mk hset
   have HBI:=Shut.mk hot
   have HNEW:=Shut.mk (hbi.out.newrow (Below.refl _ _) (Nat.le_refl w1.heap.size)).2
   clear hset hot hrow hownm hgrm hbi hbi1
   go_upto_region 7 with fail
   obtain ⟨W2,hW2⟩:∃ W2,W2=wm.setCell ⟨w1.heap.size,ts.length,none⟩ (.int .u8 (t.toNat:Int)):=⟨_,rfl⟩
   rw [<-hW2]
   rw [<-hW2] at HROW HBI
   have hs2:w.heap.size<=W2.heap.size:=HBI.out.bel.size
   have hown:=HBI.out.own
   clear hW2 c0 z0 hbm
   go_wp2_with (at_builtin;refine wpList_append_own _ rfl _ _ 116 rfl w.heap.size 131 i0 (.slice none 0 0) 1 24 Tw.underlying116 hi0 hz0 hz1 hz2 rfl (by decide) _ _ _ rfl (hown.alloc _) ⟨W2.heap.size,0,none⟩ 1 1 [.slice (some ⟨w1.heap.size,0,none⟩) n n] rfl rfl (cell_one_new _ _ _) ?c2 ?c3 ?c4 ?c5 ?_)
   case c2=>first | rfl | (intro u hu;simp at hu;subst hu;rfl)
   case c3=>unfold maxLen;omega
   case c4=>omega
   case c5=>first | omega | (simp;omega)
   ·intro v' w6 hown' hgrow _
    have hne:oneU t n ts.length ≠ []:=fun e=>by have:=congrArg List.length e;rw [oneU_len] at this;simp at this;omega
    have hap:=HBI.out.append (cap:=n) hsz HROW.out hne (by rw [oneU_len];exact Nat.le_refl _) HNEW.out.1 HNEW.out.2 (by rw [oneU_len];exact hown') hgrow
    have HAP:=Shut.mk hap
    have HR:Shut (kws (ts++[KS.mk (some ⟨w1.heap.size,0,none⟩) (oneU t n ts.length) n])=(List.range (ts.length+1)).map (oneU t n)):=⟨by rw [kws_snoc,hr.out,List.range_succ,List.map_append];rfl⟩
    clear hap hown' hgrow hown HBI HROW HNEW hr
    go_wp2_with fail
    go_roundw
    case rel=>exact ⟨_,v',rfl,by rw [List.length_append,List.length_singleton];go_num,by rw [List.length_append,List.length_singleton];omega,⟨by rw [List.length_append,List.length_singleton];exact HR.out⟩,HAP⟩
    case measure=>simp [intOf];omega
  ·have e:ts.length=n:=by omega
   have hlt':¬ (ts.length:Int)<(n:Int):=by omega
   have HF:=Shut.mk (hbi.out.fin (X:=onesU t n) (by rw [hr.out,e];rfl))
   have HB:=Shut.mk hbi.out.bel
   clear hbi hr e
   go_wp2_with fail
   go_ret
   exact ⟨v,rfl,HF.out,HB.out⟩
end Go.Proofs.YteaieagkjepgiaaGreatDoorT
/- . -/
namespace Go.Proofs.YteaieagkjepgiaaGreatDoorT
set_option maxRecDepth 100000
open Go.RowKit
open W (B8)
attribute [local go_sem ↓] Go.wp_at_zero Go.wp_at_succ
attribute [local irreducible] W.gm W.xt W.gp W.gi
end Go.Proofs.YteaieagkjepgiaaGreatDoorT
/- . -/
namespace Go.Proofs.YteaieagkjepgiaaGreatDoorT
set_option maxRecDepth 100000
open Go.RowKit
open W (B8)
attribute [local go_sem ↓] Go.wp_at_zero Go.wp_at_succ
attribute [local irreducible] W.gm W.xt W.gp W.gi W.xs
def KAt (w:World) (b off:Nat) (K:List (List B8)) (m:Nat):Prop:=b<w.heap.size/\∀ i,i<K.length->∃ b' o' cp,b'<w.heap.size/\w.cell? ⟨b,off+i,none⟩=some (.slice (some ⟨b',o',none⟩) m cp)/\∀ j,j<m->w.cell? ⟨b',o'+j,none⟩=some (.int .u8 (((K.getD i []).getD j 0#8).toNat:Int))
theorem KAt.below {w w':World} {b off m:Nat} {K:List (List B8)} (h:KAt w b off K m) (hb:Below w.heap.size w w'):KAt w' b off K m:=by
 have hs:=hb.size
 refine ⟨by have:=h.1;omega,fun i hi=>?_⟩
 obtain ⟨b',o',cp,h1,h2,h3⟩:=h.2 i hi
 exact ⟨b',o',cp,by omega,(hb.cell (p:=⟨b,off+i,none⟩) h.1).trans h2,fun j hj=>(hb.cell (p:=⟨b',o'+j,none⟩) h1).trans (h3 j hj)⟩
end Go.Proofs.YteaieagkjepgiaaGreatDoorT
/- . -/
namespace Go.Proofs.YteaieagkjepgiaaGreatDoorT
set_option maxRecDepth 100000
open Go.RowKit
attribute [local go_sem ↓] Go.wp_at_zero Go.wp_at_succ
theorem rowOk_all {x:List Int} (h3:∀ k,k<x.length->numOk (x.getD k 0)=true):rowOk x.length x=(decide (1<=(x.length:Int))&&decide ((x.length:Int)<=8)):=by
 unfold rowOk
 have:x.all numOk=true:=by
  rw [List.all_eq_true]
  intro y hy
  obtain ⟨k,hk,rfl⟩:=List.mem_iff_getElem.1 hy
  have:=h3 k hk
  simpa [List.getD,hk] using this
 rw [this,decide_eq_true rfl,Bool.true_and,Bool.and_true]
set_option maxHeartbeats 1000000 in
theorem implRowOk (a:Option Addr) (xs:List Int) (cap:Nat) (w:World) (hr:CRow w a (ics xs)) (hl:xs.length<=1048576) :
  Calls Tw.prog 85 #[.slice a xs.length cap] w fun e w'=>e = .returned (.bool (rowOk xs.length xs))/\w'=w:=by
 have HR:Hid (CRow w a (ics xs)):=hr
 clear hr
 obtain ⟨R,hR⟩:∃ R,R=rowOk xs.length xs:=⟨_,rfl⟩
 rw [<-hR]
 have HRR:Hid (R=rowOk xs.length xs):=hR
 clear hR
 go_enter Tw.func85,Tw.ntmps85
 go_wp2_with fail
 go_loop [7] (fun i=>∃ k:Nat,i = .int .i64 k/\k<=xs.length/\∀ u,u<k->numOk (xs.getD u 0)=true) (fun i=>xs.length - (intOf i).toNat)
 case atStart=>exact ⟨0,rfl,Nat.zero_le _,fun u h=>by omega⟩
 case round =>
  obtain ⟨k,rfl,hk,hnum⟩:=hrel
  have HNUM:Hid (∀ u,u<k->numOk (xs.getD u 0)=true):=hnum
  clear hnum
  by_cases hlt:k<xs.length
  ·obtain ⟨b,off,rfl,lb,hc⟩:=crow_int HR.out (by omega)
   have d0:=hc k hlt
   obtain ⟨y,hy⟩:∃ y,y=xs.getD k 0:=⟨_,rfl⟩
   have HY:Hid (y=xs.getD k 0):=hy
   rw [<-hy] at d0
   have k0:(0:Int)<=(k:Int):=by omega
   have k1:(k:Int)<(xs.length:Int):=by omega
   clear hc hy
   by_cases c0:y<0
   ·have HNO:Hid (R=false):=by rw [HRR.out];exact rowOk_num hlt (by rw [<-HY.out];unfold numOk;rw [decide_eq_false (by omega),Bool.false_and])
    go_wp2_with fail
    go_ret
    exact ⟨by rw [HNO.out];rfl,rfl⟩
   ·by_cases c1:(255:Int)<y
    ·have HNO:Hid (R=false):=by rw [HRR.out];exact rowOk_num hlt (by rw [<-HY.out];unfold numOk;rw [decide_eq_false (p:=y<=255) (by omega),Bool.and_false])
     go_wp2_with fail
     go_ret
     exact ⟨by rw [HNO.out];rfl,rfl⟩
    ·have HQ:Hid (numOk (xs.getD k 0)=true):=by rw [<-HY.out];unfold numOk;rw [decide_eq_true (by omega),decide_eq_true (by omega)];rfl
     go_wp2_with fail
     go_round
     case rel=>exact ⟨k+1,by go_num,by omega,fun u hu=>by
      by_cases e:u=k
      ·subst e;exact HQ.out
      ·exact HNUM.out u (by omega)⟩
     case measure=>simp [intOf];omega
  ·have hlt':¬ (k:Int)<(xs.length:Int):=by omega
   have HE:Hid (R=(decide (1<=(xs.length:Int))&&decide ((xs.length:Int)<=8))):=by rw [HRR.out];exact rowOk_all fun u hu=>HNUM.out u (by omega)
   by_cases c0:(1:Int)<=(xs.length:Int)
   ·by_cases c1:(xs.length:Int)<=8
    ·have HV:Hid (R=true):=by rw [HE.out,decide_eq_true c0,decide_eq_true c1];exact rfl
     go_wp2_with fail
     go_ret
     exact ⟨by rw [HV.out];rfl,rfl⟩
    ·have HV:Hid (R=false):=by rw [HE.out,decide_eq_true c0,decide_eq_false c1];exact rfl
     go_wp2_with fail
     go_ret
     exact ⟨by rw [HV.out];rfl,rfl⟩
   ·have HV:Hid (R=false):=by rw [HE.out,decide_eq_false c0];exact rfl
    go_wp2_with fail
    go_ret
    exact ⟨by rw [HV.out];rfl,rfl⟩
set_option maxRecDepth 100000 in
set_option maxHeartbeats 2000000 in
theorem implMatrixOk (w:World) (v:Value) (X:List (List Int)) (lo hi:Nat) (hs:MSee w v X lo hi) (hf:MFit X) :
  Calls Tw.prog 69 #[v] w fun e w'=>e = .returned (.bool (matOk X))/\Below w.heap.size w w':=by
 obtain ⟨a,cap,ss,rfl,hr,hm⟩:=hs
 obtain ⟨hl,hrl,_,_⟩:=rows_fit hr hf
 have HM:Hid (MR w a ss lo hi):=hm
 have HX:Hid (rws ss=X/\∀ s ∈ ss,s.row.length<=1048576):=⟨hr,hrl⟩
 obtain ⟨n,hn⟩:∃ n,n=ss.length:=⟨_,rfl⟩
 have HN:Hid (n=ss.length/\X.length=n):=⟨hn,by rw [<-hr,rws_len,hn]⟩
 rw [<-hn]
 rw [<-hn] at hl
 clear hm hr hrl hf hn
 obtain ⟨c,hc⟩:∃ c,c=(X.headD []).length:=⟨_,rfl⟩
 have HC:Hid (c=(X.headD []).length):=hc
 obtain ⟨R,hR⟩:∃ R,R=matOk X:=⟨_,rfl⟩
 rw [<-hR]
 have HRR:Hid (R=matOk X):=hR
 clear hc hR
 by_cases n1:(n:Int)<1
 ·have HNO:Hid (R=false):=by
   rw [HRR.out];unfold matOk;rw [HN.out.2,decide_eq_false (p:=(1:Int)<=(n:Int)) (by omega),Bool.false_and,Bool.and_false];exact rfl
  go_enter Tw.func69,Tw.ntmps69
  go_wp2_with fail
  go_ret
  exact ⟨by rw [HNO.out];rfl,Below.refl _ _⟩
 by_cases n2:(8:Int)<(n:Int)
 ·have HNO:Hid (R=false):=by
   rw [HRR.out];unfold matOk;rw [HN.out.2,decide_eq_false (p:=(n:Int)<=8) (by omega),Bool.and_false,Bool.and_false];exact rfl
  go_enter Tw.func69,Tw.ntmps69
  go_wp2_with fail
  go_ret
  exact ⟨by rw [HNO.out];rfl,Below.refl _ _⟩
 go_enter Tw.func69,Tw.ntmps69
 go_wp2_with fail
 go_loopw [15] (fun i wr=>∃ (k:Nat),i = .int .i64 k/\k<=n/\(∀ j (h:j<ss.length),j<k->rowOk c ss[j].row=true)/\Below w.heap.size w wr) (fun i _=>n - (intOf i).toNat)
 case atStart=>exact ⟨0,rfl,by omega,fun j _ h=>by omega,Below.refl _ _⟩
 case round =>
  obtain ⟨k,rfl,hk,hok,hbl⟩:=hrel
  obtain ⟨wo,rfl⟩:∃ wo,wo=wr:=⟨_,rfl⟩
  have HOK:Hid (∀ j (h:j<ss.length),j<k->rowOk c ss[j].row=true):=hok
  clear hok
  by_cases hlt:k<n
  ·have hls:k<ss.length:=by have:=HN.out.1;omega
   have h0s:0<ss.length:=by omega
   have HM':=HM.out.below hbl
   obtain ⟨b,off,rfl,lb,hcell⟩:=HM'.at h0s
   have d1:=hcell k hls
   have d0:wo.cell? ⟨b,off,none⟩=some (srv ss[0]):=hcell 0 h0s
   have hhead:(ss[0].row).length=c:=by
    rw [HC.out,<-HX.out.1]
    have:(rws ss).headD []=ss[0].row:=by cases ss with | nil=>simp at h0s | cons s t=>rfl
    rw [this]
   have hrr:=(HM'.2 ss[k] (List.getElem_mem hls)).crow
   have hmem:ss[k].row ∈ X:=by rw [<-HX.out.1];exact List.mem_map.2 ⟨ss[k],List.getElem_mem hls,rfl⟩
   have hle:=HX.out.2 ss[k] (List.getElem_mem hls)
   have HSK:Hid (∀ x:List Int,ss[k].row=x->rowOk c x=true->∀ j (h:j<ss.length),j<k+1->rowOk c ss[j].row=true):=fun x hx hxo j hj hjk=>by
    by_cases e:j=k
    ·subst e;rw [hx];exact hxo
    ·exact HOK.out j hj (by omega)
   unfold srv at d0 d1
   rw [hhead] at d0
   generalize ss[0].loc=loc0 at d0
   generalize ss[0].cap=cp0 at d0
   obtain ⟨row,hrow⟩:∃ row,row=ss[k].row:=⟨_,rfl⟩
   have HROW:Hid (ss[k].row=row/\row ∈ X):=⟨hrow.symm,by rw [hrow];exact hmem⟩
   rw [<-hrow] at d1 hrr hle
   generalize ss[k].loc=loc at *
   generalize ss[k].cap=cp at *
   have k0:(0:Int)<=(k:Int):=by omega
   have k1:(k:Int)<(n:Int):=by omega
   have n0:(0:Int)<(n:Int):=by omega
   have HB:Hid (Below w.heap.size w wo):=hbl
   have hcall:=implRowOk loc row cp wo hrr hle
   clear hrow hcell hhead hmem hrr HM' hbl
   by_cases hlen:row.length=c
   ·subst hlen
    have e1:((row.length:Int) != (row.length:Int))=false:=by simp
    obtain ⟨r,hrb⟩:∃ r,rowOk row.length row=r:=⟨_,rfl⟩
    rw [hrb] at hcall
    have HRB:Hid (rowOk row.length row=r):=hrb
    clear hrb
    cases r
    ·have HNO:Hid (R=false):=by rw [HRR.out];exact matOk_no HROW.out.2 (by rw [<-HC.out];exact HRB.out)
     go_wp2_with fail
     refine hcall.mono ?_
     rintro e w5 ⟨rfl,rfl⟩
     go_wp2_with fail
     go_ret
     exact ⟨by rw [HNO.out];rfl,HB.out⟩
    ·go_wp2_with fail
     refine hcall.mono ?_
     rintro e w5 ⟨rfl,rfl⟩
     go_wp2_with fail
     go_roundw
     case rel=>exact ⟨k+1,by go_num,by omega,HSK.out row HROW.out.1 HRB.out,HB.out⟩
     case measure=>simp [intOf];omega
   ·have e1:((row.length:Int) != (c:Int))=true:=by rw [bne_iff_ne];omega
    have HNO:Hid (R=false):=by rw [HRR.out];exact matOk_no HROW.out.2 (by rw [<-HC.out];unfold rowOk;rw [decide_eq_false hlen];rfl)
    go_wp2_with fail
    go_ret
    exact ⟨by rw [HNO.out];rfl,HB.out⟩
  ·have e:k=n:=by omega
   have HEND:Hid (R=true):=by
    have h1:∀ x ∈ X,rowOk (X.headD []).length x=true:=fun x hx=>by
     rw [<-HX.out.1] at hx
     obtain ⟨s,hs,rfl⟩:=List.mem_map.1 hx
     obtain ⟨j,hj,rfl⟩:=List.mem_iff_getElem.1 hs
     rw [<-HC.out]
     exact HOK.out j hj (by have:=HN.out.1;omega)
    have:=matOk_end h1
    rw [HN.out.2,decide_eq_true (p:=(1:Int)<=(n:Int)) (by omega),decide_eq_true (p:=(n:Int)<=8) (by omega)] at this
    rw [HRR.out]
    exact this
   have HB:Hid (Below w.heap.size w wo):=hbl
   have hlt':¬ (k:Int)<(n:Int):=by omega
   clear hbl
   go_wp2_with fail
   go_ret
   exact ⟨by rw [HEND.out];rfl,HB.out⟩
end Go.Proofs.YteaieagkjepgiaaGreatDoorT
/- . -/
namespace Go.Proofs.YteaieagkjepgiaaGreatDoorT
set_option maxRecDepth 100000
open Go.RowKit
open W (B8 Mx)
attribute [local go_sem ↓] Go.wp_at_zero Go.wp_at_succ
attribute [local irreducible] W.gm W.xs W.mm W.gi matOk
theorem one_rows (n:Nat):toIs (onesU 1#8 n)=(List.range n).map (oneRow n):=by
 unfold toIs onesU
 rw [List.map_map]
 apply List.map_congr_left
 intro i hi
 have hi':i<n:=List.mem_range.1 hi
 show toI (oneU 1#8 n i)=oneRow n i
 rw [<-oneRow_set hi']
 unfold toI oneU
 rw [List.map_set,List.map_replicate]
 rfl
theorem onesU_ne {t:B8} {n:Nat} (h1:1<=n) (h8:n<=8):NE (onesU t n):=fun r hr=>by
 obtain ⟨i,_,rfl⟩:=List.mem_map.1 hr
 exact ⟨fun e=>by have:=congrArg List.length e;rw [oneU_len] at this;simp at this;omega,by rw [oneU_len];omega⟩
theorem BI.up' {w w1 wr:World} {v:Value} {ts:List SR} (h:BI w1 wr v ts) (hb:Below w.heap.size w w1):BI w wr v ts:=
 ⟨⟨h.own.1,h.own.2.imp id fun ⟨g,cap,cur,e,hB,r⟩=>⟨g,cap,cur,e,Nat.le_trans hb.size hB,r⟩⟩,fun s hs=>by
  obtain ⟨b,e,q1,q2⟩:=h.rows s hs
  exact ⟨b,e,Nat.le_trans hb.size q1,q2⟩,h.apart,hb.trans (h.bel.mono hb.size)⟩
set_option maxHeartbeats 1000000 in
theorem implOneB (n:Nat) (w:World) (hn1:1<=n) (hn8:n<=8):Calls Tw.prog 72 #[.int .i64 (n:Int)] w fun e w'=>BPostI (oneX (n:Int)) w e w':=by
 have e0:oneX (n:Int)=toIs (onesU 1#8 n):=by unfold oneX;rw [if_pos (by omega),one_rows];rfl
 rw [e0]
 have n1:¬ (n:Int)<1:=by omega
 have n2:¬ (8:Int)<(n:Int):=by omega
 have HC:=Shut.mk (fun W=>implOnes 1#8 n W hn1 hn8)
 clear e0
 go_enter Tw.func72,Tw.ntmps72
 go_wp2_with fail
 refine (HC.out _).mono ?_
 rintro e w1 ⟨v1,rfl,ha1,hb1⟩
 have HI:=Shut.mk (implIntsOfB w1 v1 (onesU 1#8 n) _ _ ha1.see (onesU_ne hn1 hn8) (by simp [onesU];omega))
 have HB1:=Shut.mk hb1
 clear ha1 hb1
 go_wp2_with fail
 refine HI.out.mono ?_
 rintro e w2 ⟨v2,ts,rfl,hr,hbi⟩
 have HR:=Shut.mk (show BPostI (toIs (onesU 1#8 n)) w (.returned v2) w2 from ⟨v2,ts,rfl,hr,hbi.up' HB1.out⟩)
 clear hr hbi
 go_wp2_with fail
 go_ret
 exact HR.out
theorem MSee.slice {w:World} {v:Value} {X:List (List Int)} {lo hi:Nat} (h:MSee w v X lo hi):∃ a cap,v = .slice a X.length cap:=by
 obtain ⟨a,cap,ss,rfl,hr,_⟩:=h
 exact ⟨a,cap,by rw [<-hr,rws_len]⟩
end Go.Proofs.YteaieagkjepgiaaGreatDoorT
/- . -/
namespace Go.Proofs.YteaieagkjepgiaaGreatDoorT
set_option maxRecDepth 100000
open Go.RowKit
open W (B8)
attribute [local go_sem ↓] Go.wp_at_zero Go.wp_at_succ
attribute [local irreducible] W.gm W.xt W.gp W.gi
theorem implInvG (x:Int) (w:World):Calls Tw.prog 90 #[.int .i64 x] w fun e w'=>e = .returned (.int .i64 ((W.gi (g8 x)).toNat:Int))/\w'=w:=by
 have hc:=implInverse (g8 x)
 rw [g8_nat] at hc
 have hl:=b8_lt (W.gi (g8 x))
 generalize W.gi (g8 x)=R at *
 go_enter Tw.func90,Tw.ntmps90
 go_wp2_with fail
 refine (hc _).mono ?_
 rintro e w1 ⟨rfl,rfl⟩
 go_wp2_with fail
 go_ret
 exact ⟨rfl,rfl⟩
end Go.Proofs.YteaieagkjepgiaaGreatDoorT
