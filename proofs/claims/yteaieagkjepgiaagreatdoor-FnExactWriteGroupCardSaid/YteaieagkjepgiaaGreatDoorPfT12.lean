/- Texts of ours, laid one behind the other: TShelf, TClS, TGrwE, TSpM, TUnP, THpA. -/
import Derived.Test.YteaieagkjepgiaaGreatDoorPfT11
import Derived.Shelf.LaysM
import Derived.Shelf.Strconv.Clone
import Derived.Handy
set_option linter.unusedVariables false
set_option linter.unusedSimpArgs false
/- . -/
namespace Go.Proofs
open Go.Shelf
def Tw.laysM316_ren:Go.Shelf.Ren:=⟨fun | 316=>68 | n=>n,fun | 9=>9 | 3=>3 | 4=>4 | 37=>63 | 0=>0 | 127=>110 | 5=>5 | n=>n,fun | n=>n⟩
theorem Tw.laysM316:Go.Proofs.LaysM.n316 Tw.prog Tw.laysM316_ren:={
  mixed:=by kernel_rfl
  f316:=Tw.func68.trans (congrArg some (by kernel_rfl))
  t0:=Tw.underlying0
  a0:=Tw.isAgg0
  z0:=Tw.sizeOf0
  v0:=Tw.zeroValue0
  t3:=Tw.underlying3
  a3:=Tw.isAgg3
  z3:=Tw.sizeOf3
  v3:=Tw.zeroValue3
  t4:=Tw.underlying4
  a4:=Tw.isAgg4
  z4:=Tw.sizeOf4
  v4:=Tw.zeroValue4
  t9:=Tw.underlying9
  a9:=Tw.isAgg9
  z9:=Tw.sizeOf9
  v9:=Tw.zeroValue9
  t37:=Tw.underlying63
  a37:=Tw.isAgg63
  z37:=Tw.sizeOf63
  v37:=Tw.zeroValue63
  t127:=Tw.underlying110
  a127:=Tw.isAgg110
  z127:=Tw.sizeOf110
  v127:=Tw.zeroValue110
  t5:=Tw.underlying5
  a5:=Tw.isAgg5
  z5:=Tw.sizeOf5
  v5:=Tw.zeroValue5
  i0:=by kernel_rfl
  i3:=by kernel_rfl
  i4:=by kernel_rfl
  i5:=by kernel_rfl
  i9:=by kernel_rfl
  i37:=by kernel_rfl
  i127:=by kernel_rfl }
open Go.RowKit in
theorem Tw.stringslite_Clone (s:ByteArray) (w:World) (hlim:s.size<=281474976710656) :
    Calls Tw.prog 68 #[.string s] w fun e w'=>e = .returned (.string s)/\Below w.heap.size w w':=Any.stringslite_Clone Tw.laysM316 s w hlim
end Go.Proofs
/- . -/
namespace Go.Proofs.YteaieagkjepgiaaGreatDoorT
set_option maxRecDepth 100000
open Go.RowKit BigFrame
attribute [local go_sem ↓] Go.wp_at_zero Go.wp_at_succ
set_option maxRecDepth 100000 in
theorem implClone (s:ByteArray) (w:World) (hs:s.size<=281474976710656):Calls Tw.prog 44 #[.string s] w fun e w'=>e = .returned (.string s)/\Below w.heap.size w w':=by
 have HC:=Shut.mk (fun W=>Tw.stringslite_Clone s W hs)
 go_enter Tw.func44,Tw.ntmps44
 go_wp2_with fail
 refine (HC.out _).mono ?_
 rintro e w1 ⟨rfl,hb⟩
 go_wp2_with fail
 go_ret
 exact ⟨rfl,hb⟩
end Go.Proofs.YteaieagkjepgiaaGreatDoorT
/- . -/
namespace Go.Proofs.YteaieagkjepgiaaGreatDoorT
set_option maxRecDepth 100000
open Go.RowKit
section
variable {P:Program} {Q:Exit->Act->World->Prop} {md:Region.Mode}
theorem wpA_mid {L r:List Oper} {i:Nat} {oi:Oper} {f:FuncId} {args:Array Value} {n:Nat} {l:Array Bool} {a:Act} {w:World} (hr:Region.ready md L.toArray l=[i]) (hi:L.drop i=oi::r) (hw:Region.wanted oi (yielded L.toArray a.tmps)=true) (hy:(execOp a.eval oi).run P w = .ok (.enter f args) w)
  (h:Calls P f args w fun e y=>∃ v,e = .returned v/\wpAny P md L.toArray Q n (l.setIfInBounds i true) (a.put oi.dst v) y):wpAny P md L.toArray Q (n+1) l a w:=by
 refine ⟨fun h=>(by rw [hr] at h;cases h),fun j hj=>?_⟩
 rw [hr,List.mem_singleton] at hj
 subst hj
 unfold wpOp
 rw [at_drop hi]
 dsimp only
 rw [if_pos hw]
 refine Or.inl ?_
 unfold Oper.wp
 rw [hy]
 refine h.mono ?_
 rintro e y ⟨v,rfl,hq⟩
 exact hq
theorem wpA_here {L r:List Oper} {i:Nat} {oi:Oper} {v:Value} {n:Nat} {l:Array Bool} {a:Act} {w y:World} (hr:Region.ready md L.toArray l=[i]) (hi:L.drop i=oi::r) (hw:Region.wanted oi (yielded L.toArray a.tmps)=true) (hy:(execOp a.eval oi).run P w = .ok (.value v) y)
  (h:wpAny P md L.toArray Q n (l.setIfInBounds i true) (a.put oi.dst v) y):wpAny P md L.toArray Q (n+1) l a w:=by
 refine ⟨fun h=>(by rw [hr] at h;cases h),fun j hj=>?_⟩
 rw [hr,List.mem_singleton] at hj
 subst hj
 unfold wpOp
 rw [at_drop hi]
 dsimp only
 rw [if_pos hw]
 refine Or.inl ?_
 unfold Oper.wp
 rw [hy]
 exact h
end
end Go.Proofs.YteaieagkjepgiaaGreatDoorT
/- . -/
namespace Go.Proofs.YteaieagkjepgiaaGreatDoorT
set_option maxRecDepth 100000
open Go.RowKit BigFrame
attribute [local go_sem ↓] Go.wp_at_zero Go.wp_at_succ
theorem uns_app (a b:List UnM):unS (a++b)=unS a++unS b:=by simp [unS]
end Go.Proofs.YteaieagkjepgiaaGreatDoorT
/- . -/
namespace Go.Proofs.YteaieagkjepgiaaGreatDoorT
set_option maxRecDepth 100000
open Go.RowKit
def unSame (a b:UnM):Bool:=a.group==b.group&&a.index==b.index
theorem lt_iff (a b:UnM):unLt a b=true↔(a.group<b.group\/(a.group=b.group/\a.index<b.index)):=by
 unfold unLt
 simp
theorem lt_not (a b:UnM):unLt a b=false↔¬ (a.group<b.group\/(a.group=b.group/\a.index<b.index)):=by
 rw [<-lt_iff]
 simp
theorem lt_trans9 {a b c:UnM} (h:unLt a b=true) (k:unLt b c=true):unLt a c=true:=by
 rw [lt_iff] at *
 omega
theorem lt_asymm9 {a b:UnM} (h:unLt a b=true):unLt b a=false:=by
 rw [lt_iff] at h
 rw [lt_not]
 omega
theorem same_iff (a b:UnM):unSame a b=true↔a.group=b.group/\a.index=b.index:=by
 unfold unSame
 simp
theorem lt_tri {a b:UnM} (h:unLt a b=false) (k:unSame a b=false):unLt b a=true:=by
 rw [lt_not] at h
 rw [lt_iff]
 have:¬ (a.group=b.group/\a.index=b.index):=by rw [<-same_iff];simp [k]
 omega
theorem same_lt {a b c:UnM} (h:unSame a b=true) (k:unLt a c=true):unLt b c=true:=by
 rw [same_iff] at h
 rw [lt_iff] at *
 omega
theorem same_irr {a b:UnM} (h:unSame a b=true):unLt b a=false:=by
 rw [same_iff] at h
 rw [lt_not]
 omega
def UpU (L:List UnM):Prop:=L.Pairwise fun a b=>unLt a b=true
theorem unAt_get {L:List UnM} {k:Nat} (hk:k<L.length):unAt L k=(unOne L[k]&&(decide (k=0)||unLt (L.getD (k - 1) default) L[k])):=by
 unfold unAt
 have:L.getD k default=L[k]:=by simp [List.getD,hk]
 rw [this]
theorem up_of_ok {L:List UnM} (h:unitsOk L=true):UpU L:=by
 have hk:∀ k (hk:k+1<L.length),unLt L[k] L[k+1]=true:=fun k hk=>by
  have:=List.all_eq_true.1 h (k+1) (by simpa using hk)
  rw [unAt_get hk] at this
  simp only [Bool.and_eq_true,Bool.or_eq_true,decide_eq_true_eq,Nat.add_one_ne_zero,false_or,Nat.add_sub_cancel] at this
  have e:L.getD k default=L[k]:=by simp [List.getD,show k<L.length by omega]
  rw [e] at this
  exact this.2
 refine List.pairwise_iff_getElem.2 fun i j hi hj hij=>?_
 induction j with
 | zero=>omega
 | succ j ih =>
  rcases Nat.lt_or_eq_of_le (Nat.le_of_lt_succ hij) with e | e
  ·exact lt_trans9 (ih (by omega) e) (hk j hj)
  ·subst e
   exact hk i hj
theorem putL_cut {L:List UnM} {u:UnM} {i:Nat} (h1:∀ j (hj:j<L.length),j<i->unLt L[j] u=true) (h2:∀ j (hj:j<L.length),i<=j->unLt L[j] u=false) (hs:UpU L) :
  putL L u=L.take i++[u]++L.drop (if ∃ h:i<L.length,unSame L[i] u=true then i+1 else i):=by
 have a1:∀ x ∈ L.take i,unLt x u=true:=fun x hx=>by
  obtain ⟨j,hj,rfl⟩:=List.getElem_of_mem hx
  rw [List.length_take] at hj
  rw [List.getElem_take]
  exact h1 j (by omega) (by omega)
 have a2:∀ x ∈ L.drop i,unLt x u=false:=fun x hx=>by
  obtain ⟨j,hj,rfl⟩:=List.getElem_of_mem hx
  rw [List.length_drop] at hj
  rw [List.getElem_drop]
  exact h2 (i+j) (by omega) (by omega)
 have e1:L.filter (unLt · u)=L.take i:=by
  conv=>lhs;rw [<-List.take_append_drop i L]
  rw [List.filter_append,List.filter_eq_self.2 a1,List.filter_eq_nil_iff.2 (fun x hx=>by rw [a2 x hx];simp),List.append_nil]
 have e2:L.filter (unLt u ·)=(L.drop i).filter (unLt u ·):=by
  conv=>lhs;rw [<-List.take_append_drop i L]
  rw [List.filter_append,List.filter_eq_nil_iff.2 (fun x hx=>by rw [lt_asymm9 (a1 x hx)];simp),List.nil_append]
 unfold putL
 rw [e1,e2]
 congr 1
 by_cases hi:i<L.length
 ·have hd:L.drop i=L[i]::L.drop (i+1):=List.drop_eq_getElem_cons hi
  have hr:∀ x ∈ L.drop (i+1),unLt L[i] x=true:=fun x hx=>by
   have hs':UpU (L.drop i):=List.Pairwise.sublist (List.drop_sublist _ _) hs
   unfold UpU at hs'
   rw [hd] at hs'
   exact (List.pairwise_cons.1 hs').1 x hx
  cases hq:unSame L[i] u with
  | true =>
   rw [if_pos ⟨hi,hq⟩,hd,List.filter_cons,same_irr hq]
   simp only [Bool.false_eq_true,if_false]
   exact List.filter_eq_self.2 fun x hx=>same_lt hq (hr x hx)
  | false =>
   rw [if_neg (fun ⟨_,h⟩=>by rw [hq] at h;cases h)]
   have hlt:unLt u L[i]=true:=lt_tri (h2 i hi (Nat.le_refl _)) hq
   refine List.filter_eq_self.2 fun x hx=>?_
   rw [hd] at hx
   rcases List.mem_cons.1 hx with rfl | hx
   ·exact hlt
   ·exact lt_trans9 hlt (hr x hx)
 ·rw [if_neg (fun ⟨h,_⟩=>hi h),List.drop_of_length_le (by omega)]
  rfl
end Go.Proofs.YteaieagkjepgiaaGreatDoorT
/- . -/
namespace Go.Proofs.YteaieagkjepgiaaGreatDoorT
set_option maxRecDepth 100000
open Go.RowKit BigFrame
attribute [local go_sem ↓] Go.wp_at_zero Go.wp_at_succ
def cmpI (x y:Int):Int:=if x<y then -1 else if y<x then 1 else 0
def cmpU (a b:UnM):Int:=if cmpI a.group b.group=0 then cmpI a.index b.index else cmpI a.group b.group
theorem cmpI_is (x y:Int):(x<y/\cmpI x y = -1)\/(y<x/\cmpI x y=1)\/(x=y/\cmpI x y=0):=by
 unfold cmpI
 split
 ·exact .inl ⟨by assumption,rfl⟩
 ·split
  ·exact .inr (.inl ⟨by assumption,rfl⟩)
  ·exact .inr (.inr ⟨by omega,rfl⟩)
theorem cmpU_neg (a b:UnM):cmpU a b<0↔unLt a b=true:=by
 rw [lt_iff]
 unfold cmpU
 have h1:=cmpI_is a.group b.group
 have h2:=cmpI_is a.index b.index
 split <;> omega
theorem cmpU_zero (a b:UnM):cmpU a b=0↔unSame a b=true:=by
 rw [same_iff]
 unfold cmpU
 have h1:=cmpI_is a.group b.group
 have h2:=cmpI_is a.index b.index
 split <;> omega
theorem nan_int (x:Int) (w:World):Calls Tw.prog 105 #[.int .i64 x] w fun e w'=>e = .returned (.bool false)/\w'=w:=by
 have h:(x != x)=false:=by simp
 go_enter Tw.func105,Tw.ntmps105
 go_wp2_with fail
 go_ret
 exact ⟨rfl,rfl⟩
theorem cmp_int (x y:Int) (w:World):Calls Tw.prog 101 #[.int .i64 x,.int .i64 y] w fun e w'=>e = .returned (.int .i64 (cmpI x y))/\w'=w:=by
 have HN:=Shut.mk (fun z=>nan_int z w)
 rcases cmpI_is x y with ⟨h,e⟩ | ⟨h,e⟩ | ⟨h,e⟩
 ·rw [e]
  clear e
  go_enter Tw.func101,Tw.ntmps101
  go_wp2_with (go_at_call 105;refine (HN.out _).mono ?_;rintro e w1 ⟨rfl,hw1⟩;subst hw1)
  go_ret
  exact ⟨rfl,rfl⟩
 ·rw [e]
  have h1:¬ x<y:=by omega
  clear e
  go_enter Tw.func101,Tw.ntmps101
  go_wp2_with (go_at_call 105;refine (HN.out _).mono ?_;rintro e w1 ⟨rfl,hw1⟩;subst hw1)
  go_ret
  exact ⟨rfl,rfl⟩
 ·rw [e]
  have h1:¬ x<y:=by omega
  have h2:¬ y<x:=by omega
  clear e h
  go_enter Tw.func101,Tw.ntmps101
  go_wp2_with (go_at_call 105;refine (HN.out _).mono ?_;rintro e w1 ⟨rfl,hw1⟩;subst hw1)
  go_ret
  exact ⟨rfl,rfl⟩
theorem or_two (g:Nat) (x y:Int) (c:Nat) (w:World) (h0:w.cell? ⟨g,0,none⟩=some (.int .i64 x)) (h1:w.cell? ⟨g,1,none⟩=some (.int .i64 y)) :
  Calls Tw.prog 100 #[.slice (some ⟨g,0,none⟩) 2 c] w fun e w'=>e = .returned (.int .i64 (if x=0 then y else x))/\w'=w:=by
 obtain ⟨R,hR⟩:∃ R,R=if x=0 then y else x:=⟨_,rfl⟩
 rw [<-hR]
 have HR:=Shut.mk hR
 clear hR
 go_enter Tw.func100,Tw.ntmps100
 go_wp2_with fail
 go_loop [8] (fun i9=>∃ (k:Nat),i9 = .int .i64 k/\k<=2/\Shut (1<=k->x=0)/\Shut (2<=k->y=0)) (fun i9=>2 - (intOf i9).toNat)
 case atStart=>exact ⟨0,rfl,by omega,⟨by omega⟩,⟨by omega⟩⟩
 case round =>
  obtain ⟨k,rfl,hk,HX,HY⟩:=hrel
  match k,hk with
  | 0,_ =>
   by_cases hx:x=0
   ·have hx1:(x != 0)=false:=by simp [hx]
    have HX0:=Shut.mk hx
    clear hx
    go_wp2_with fail
    go_round
    case rel=>exact ⟨1,by go_num,by omega,⟨fun _=>HX0.out⟩,⟨by omega⟩⟩
    case measure=>simp [intOf]
   ·have hx1:(x != 0)=true:=by simp [hx]
    have HE:Shut (R=x):=⟨by rw [HR.out,if_neg hx]⟩
    clear hx
    go_wp2_with fail
    go_ret
    exact ⟨by rw [HE.out];rfl,rfl⟩
  | 1,_ =>
   have HE:Shut (R=y):=⟨by rw [HR.out,if_pos (HX.out (Nat.le_refl _))]⟩
   by_cases hy:y=0
   ·have hy1:(y != 0)=false:=by simp [hy]
    have HY0:=Shut.mk hy
    clear hy
    go_wp2_with fail
    go_round
    case rel=>exact ⟨2,by go_num,by omega,⟨fun _=>HX.out (Nat.le_refl _)⟩,⟨fun _=>HY0.out⟩⟩
    case measure=>simp [intOf]
   ·have hy1:(y != 0)=true:=by simp [hy]
    clear hy
    go_wp2_with fail
    go_ret
    exact ⟨by rw [HE.out];rfl,rfl⟩
  | 2,_ =>
   have HE:Shut (R=0):=⟨by rw [HR.out,if_pos (HX.out (by omega)),HY.out (Nat.le_refl _)]⟩
   go_wp2_with fail
   go_ret
   exact ⟨by rw [HE.out];rfl,rfl⟩
set_option maxRecDepth 100000 in
set_option maxHeartbeats 1000000 in
theorem implCmp (a b:UnM) (w:World):Calls Tw.prog 94 #[unv a,unv b] w fun e w'=>e = .returned (.int .i64 (cmpU a b))/\Below w.heap.size w w':=by
 have HS0:=Shut.mk (((SL.start w).new #[.int .i64 a.group,.int .i64 a.index,.string a.text,.int .i64 a.sum] 49).new #[.int .i64 b.group,.int .i64 b.index,.string b.text,.int .i64 b.sum] 49)
 simp only [World.size_alloc] at HS0
 have HQ:Shut (cmpU a b=if cmpI a.group b.group=0 then cmpI a.index b.index else cmpI a.group b.group):=⟨rfl⟩
 have HC1:=Shut.mk (fun x=>cmp_int a.group b.group x)
 have HC2:=Shut.mk (fun x=>cmp_int a.index b.index x)
 generalize cmpU a b=R at HQ ⊢
 obtain ⟨ag,ai,at9,as9⟩:=a
 obtain ⟨bg,bi,bt,bs⟩:=b
 dsimp only at *
 generalize cmpI ag bg=c1 at HQ HC1
 generalize cmpI ai bi=c2 at HQ HC2
 go_enter Tw.func94,Tw.ntmps94
 go_upto_region 1 with fail
 refine wp_shade (fun W=>SL w W [bxS (w.heap.size+1) [.int .i64 bg,.int .i64 bi,.string bt,.int .i64 bs],bxS w.heap.size [.int .i64 ag,.int .i64 ai,.string at9,.int .i64 as9]]) HS0.out ?_
 intro W0 hW
 have HT:Shut (∀ x,Later W0.drew x->SL w x [bxS (w.heap.size+1) [.int .i64 bg,.int .i64 bi,.string bt,.int .i64 bs],bxS w.heap.size [.int .i64 ag,.int .i64 ai,.string at9,.int .i64 as9]]):=⟨fun x hx=>hW.drew.below hx⟩
 have HLE:Shut (∀ x,Later W0.drew x->x.cell? ⟨w.heap.size,0,none⟩=some (.int .i64 ag)/\x.cell? ⟨w.heap.size,1,none⟩=some (.int .i64 ai)/\x.cell? ⟨w.heap.size+1,0,none⟩=some (.int .i64 bg)/\x.cell? ⟨w.heap.size+1,1,none⟩=some (.int .i64 bi)):=⟨fun x hx=>⟨((HT.out x hx).bx 1 rfl 0 _ rfl).1,((HT.out x hx).bx 1 rfl 1 _ rfl).1,((HT.out x hx).bx 0 rfl 0 _ rfl).1,((HT.out x hx).bx 0 rfl 1 _ rfl).1⟩⟩
 clear HS0 hW
 refine wp_region_later (by kernel_rfl) ?_
 refine wpL_val (i:=0) (v:=?v0) rfl (by kernel_rfl) (by kernel_rfl) (by kernel_rfl) (fun _ _ _ h=>h) (by rfl) ?hy0 ?rest0
 case hy0=>(intro x hx;obtain ⟨c0,c1,c2,c3⟩:=HLE.out x hx;go_simp;try with_reducible rfl)
 try simp only [Act.put,List.setIfInBounds_toArray,List.set_cons_zero,List.set_cons_succ]
 refine wpL_val (i:=1) (v:=?v1) rfl (by kernel_rfl) (by kernel_rfl) (by kernel_rfl) (fun _ _ _ h=>h) (by rfl) ?hy1 ?rest1
 case hy1=>(intro x hx;obtain ⟨c0,c1,c2,c3⟩:=HLE.out x hx;go_simp;try with_reducible rfl)
 try simp only [Act.put,List.setIfInBounds_toArray,List.set_cons_zero,List.set_cons_succ]
 refine wpL_val (i:=2) (v:=?v2) rfl (by kernel_rfl) (by kernel_rfl) (by kernel_rfl) (fun _ _ _ h=>h) (by rfl) ?hy2 ?rest2
 case hy2=>(intro x hx;obtain ⟨c0,c1,c2,c3⟩:=HLE.out x hx;go_simp;try with_reducible rfl)
 try simp only [Act.put,List.setIfInBounds_toArray,List.set_cons_zero,List.set_cons_succ]
 refine wpL_val (i:=3) (v:=?v3) rfl (by kernel_rfl) (by kernel_rfl) (by kernel_rfl) (fun _ _ _ h=>h) (by rfl) ?hy3 ?rest3
 case hy3=>(intro x hx;obtain ⟨c0,c1,c2,c3⟩:=HLE.out x hx;go_simp;try with_reducible rfl)
 try simp only [Act.put,List.setIfInBounds_toArray,List.set_cons_zero,List.set_cons_succ]
 refine wpL_call (i:=4) (v:=.int .i64 c1) (f:=101) (args:=#[.int .i64 ag,.int .i64 bg]) rfl (by kernel_rfl) (by kernel_rfl) (by kernel_rfl) (fun _ _ _ h=>h) (by rfl) ?hy4 (fun x _=>(HC1.out x).mono (by rintro e y ⟨rfl,hy⟩;subst hy;exact ⟨rfl,Later.refl _⟩)) ?rest4
 case hy4=>(intro x hx;obtain ⟨c0,c1,c2,c3⟩:=HLE.out x hx;go_simp;try with_reducible rfl)
 try simp only [Act.put,List.setIfInBounds_toArray,List.set_cons_zero,List.set_cons_succ]
 refine wpL_val (i:=5) (v:=?v5) rfl (by kernel_rfl) (by kernel_rfl) (by kernel_rfl) (fun _ _ _ h=>h) (by rfl) ?hy5 ?rest5
 case hy5=>(intro x hx;obtain ⟨c0,c1,c2,c3⟩:=HLE.out x hx;go_simp;try with_reducible rfl)
 try simp only [Act.put,List.setIfInBounds_toArray,List.set_cons_zero,List.set_cons_succ]
 refine wpL_val (i:=6) (v:=?v6) rfl (by kernel_rfl) (by kernel_rfl) (by kernel_rfl) (fun _ _ _ h=>h) (by rfl) ?hy6 ?rest6
 case hy6=>(intro x hx;obtain ⟨c0,c1,c2,c3⟩:=HLE.out x hx;go_simp;try with_reducible rfl)
 try simp only [Act.put,List.setIfInBounds_toArray,List.set_cons_zero,List.set_cons_succ]
 refine wpL_val (i:=7) (v:=?v7) rfl (by kernel_rfl) (by kernel_rfl) (by kernel_rfl) (fun _ _ _ h=>h) (by rfl) ?hy7 ?rest7
 case hy7=>(intro x hx;obtain ⟨c0,c1,c2,c3⟩:=HLE.out x hx;go_simp;try with_reducible rfl)
 try simp only [Act.put,List.setIfInBounds_toArray,List.set_cons_zero,List.set_cons_succ]
 refine wpL_val (i:=8) (v:=?v8) rfl (by kernel_rfl) (by kernel_rfl) (by kernel_rfl) (fun _ _ _ h=>h) (by rfl) ?hy8 ?rest8
 case hy8=>(intro x hx;obtain ⟨c0,c1,c2,c3⟩:=HLE.out x hx;go_simp;try with_reducible rfl)
 try simp only [Act.put,List.setIfInBounds_toArray,List.set_cons_zero,List.set_cons_succ]
 refine wpL_call (i:=9) (v:=.int .i64 c2) (f:=101) (args:=#[.int .i64 ai,.int .i64 bi]) rfl (by kernel_rfl) (by kernel_rfl) (by kernel_rfl) (fun _ _ _ h=>h) (by rfl) ?hy9 (fun x _=>(HC2.out x).mono (by rintro e y ⟨rfl,hy⟩;subst hy;exact ⟨rfl,Later.refl _⟩)) ?rest9
 case hy9=>(intro x hx;obtain ⟨c0,c1,c2,c3⟩:=HLE.out x hx;go_simp;try with_reducible rfl)
 try simp only [Act.put,List.setIfInBounds_toArray,List.set_cons_zero,List.set_cons_succ]
 refine wpL_one (i:=10) (by kernel_rfl) rfl (by rfl) ?_
 intro x hx
 refine ⟨.slice (some ⟨x.heap.size,0,none⟩) 2 2,x.alloc (.cells #[.int .i64 c1,.int .i64 c2] 3),?_,(Below.refl _ _).alloc (Nat.le_refl _) _,?_⟩
 ·go_simp
 have hwx:=wcells_new x #[.int .i64 c1,.int .i64 c2] 3
 have HBX:Shut (Below w.heap.size w (x.alloc (.cells #[.int .i64 c1,.int .i64 c2] 3))):=⟨((HT.out x hx).below ((Below.refl _ _).alloc (Nat.le_refl _) _)).bel⟩
 have HOR:Shut (∀ y,Later (x.alloc (.cells #[.int .i64 c1,.int .i64 c2] 3)) y->Calls Tw.prog 100 #[.slice (some ⟨x.heap.size,0,none⟩) 2 2] y fun e z=>e = .returned (.int .i64 R)/\Later y z):=⟨fun y hy=>by
  rw [HQ.out]
  refine (or_two x.heap.size c1 c2 2 y ((hwx.grow hy).2 0 _ rfl).1 ((hwx.grow hy).2 1 _ rfl).1).mono ?_
  rintro e z ⟨rfl,hz⟩
  subst hz
  exact ⟨rfl,Later.refl _⟩⟩
 clear hwx
 try simp only [Act.put,List.setIfInBounds_toArray,List.set_cons_zero,List.set_cons_succ]
 refine wpL_call (i:=11) (v:=.int .i64 R) (f:=100) (args:=#[.slice (some ⟨x.heap.size,0,none⟩) 2 2]) rfl (by kernel_rfl) (by kernel_rfl) (by kernel_rfl) (fun _ _ _ h=>h) (by rfl) ?hyq11 (fun y hy=>HOR.out y hy) ?restq11
 case hyq11=>(intro x hx;go_simp;try with_reducible rfl)
 try simp only [Act.put,List.setIfInBounds_toArray,List.set_cons_zero,List.set_cons_succ]
 refine wpL_val (i:=12) (v:=?vq12) rfl (by kernel_rfl) (by kernel_rfl) (by kernel_rfl) (fun _ _ _ h=>h) (by rfl) ?hyq12 ?restq12
 case hyq12=>(intro x hx;go_simp;try with_reducible rfl)
 try simp only [Act.put,List.setIfInBounds_toArray,List.set_cons_zero,List.set_cons_succ]
 refine wpL_done (by kernel_rfl) ?_ _
 intro y hy
 have HB:=Shut.mk (HBX.out.trans (Below.mono hy HBX.out.size))
 go_wp2_with fail
 go_ret
 exact ⟨rfl,HB.out⟩
theorem implUnitOk (u:UnM) (w:World):Calls Tw.prog 93 #[unv u] w fun e w'=>e = .returned (.bool (unOne u))/\Below w.heap.size w w':=by
 have HS0:=Shut.mk ((SL.start w).new #[.int .i64 u.group,.int .i64 u.index,.string u.text,.int .i64 u.sum] 49)
 obtain ⟨g,i,t,s⟩:=u
 dsimp only at *
 have HU:Shut (unOne ⟨g,i,t,s⟩=(decide (1<=g)&&decide (g<=100000)&&decide (0<=i)&&decide (i<=5)&&decide ((t.size:Int)<=200)&&decide (0<=s)&&decide (s<=4294967295))):=⟨by
  unfold unOne inI
  rw [show decide ((t.size:Int)<=200)=decide (t.size<=200) by simp only [decide_eq_decide];omega]
  simp only [Bool.and_assoc]⟩
 generalize unOne ⟨g,i,t,s⟩=R at HU ⊢
 by_cases h0:1<=g
 case neg =>
  have HE:Shut (R=false):=⟨by rw [HU.out];simp [*]⟩
  go_enter Tw.func93,Tw.ntmps93
  go_wp2_with fail
  go_ret
  exact ⟨by rw [HE.out];rfl,HS0.out.bel⟩
 by_cases h1:g<=100000
 case neg =>
  have HE:Shut (R=false):=⟨by rw [HU.out];simp [*]⟩
  go_enter Tw.func93,Tw.ntmps93
  go_wp2_with fail
  go_ret
  exact ⟨by rw [HE.out];rfl,HS0.out.bel⟩
 by_cases h2:0<=i
 case neg =>
  have HE:Shut (R=false):=⟨by rw [HU.out];simp [*]⟩
  go_enter Tw.func93,Tw.ntmps93
  go_wp2_with fail
  go_ret
  exact ⟨by rw [HE.out];rfl,HS0.out.bel⟩
 by_cases h3:i<=5
 case neg =>
  have HE:Shut (R=false):=⟨by rw [HU.out];simp [*]⟩
  go_enter Tw.func93,Tw.ntmps93
  go_wp2_with fail
  go_ret
  exact ⟨by rw [HE.out];rfl,HS0.out.bel⟩
 by_cases h4:(t.size:Int)<=200
 case neg =>
  have HE:Shut (R=false):=⟨by rw [HU.out];simp [*]⟩
  go_enter Tw.func93,Tw.ntmps93
  go_wp2_with fail
  go_ret
  exact ⟨by rw [HE.out];rfl,HS0.out.bel⟩
 by_cases h5:0<=s
 case neg =>
  have HE:Shut (R=false):=⟨by rw [HU.out];simp [*]⟩
  go_enter Tw.func93,Tw.ntmps93
  go_wp2_with fail
  go_ret
  exact ⟨by rw [HE.out];rfl,HS0.out.bel⟩
 by_cases h6:s<=4294967295
 case neg =>
  have HE:Shut (R=false):=⟨by rw [HU.out];simp [*]⟩
  go_enter Tw.func93,Tw.ntmps93
  go_wp2_with fail
  go_ret
  exact ⟨by rw [HE.out];rfl,HS0.out.bel⟩
 have HE:Shut (R=true):=⟨by rw [HU.out];simp [*]⟩
 go_enter Tw.func93,Tw.ntmps93
 go_wp2_with fail
 go_ret
 exact ⟨by rw [HE.out];rfl,HS0.out.bel⟩
set_option maxRecDepth 100000 in
set_option maxHeartbeats 4000000 in
theorem implHostOk (H:HM) (a:Option Addr) (cap:Nat) (w:World) (hr:UnRow w a H.us) (hl:H.us.length<=9000000) :
  Calls Tw.prog 76 #[hov H a cap] w fun e w'=>e = .returned (.bool (hostOk H))/\Below w.heap.size w w':=by
 have HS0:=Shut.mk ((SL.start w).new #[.int .i64 H.id,.bool H.up,.slice a H.us.length cap] 45)
 have HR:=Shut.mk hr
 clear hr
 obtain ⟨id,up,us⟩:=H
 show Calls Tw.prog 76 #[.agg #[.int .i64 id,.bool up,.slice a us.length cap]] w fun e w'=>e = .returned (.bool (unitsOk us&&inI id 1 7))/\Below w.heap.size w w'
 dsimp only at *
 obtain ⟨R,hR⟩:∃ R,R=(unitsOk us&&inI id 1 7):=⟨_,rfl⟩
 rw [<-hR]
 have HRR:=Shut.mk hR
 clear hR
 obtain ⟨n,hn⟩:∃ n,n=us.length:=⟨_,rfl⟩
 have HN:=Shut.mk hn
 rw [<-hn] at HS0 hl ⊢
 clear hn
 have HI:Shut (inI id 1 7=(decide (1<=id)&&decide (id<=7))):=⟨rfl⟩
 go_enter Tw.func76,Tw.ntmps76
 go_upto_region 1 with fail
 refine wp_shade (fun W=>SL w W [bxS w.heap.size [.int .i64 id,.bool up,.slice a n cap]]) HS0.out ?_
 intro W0 hW
 have HW:=Shut.mk hW
 clear HS0 hW
 have x0:=(HW.out.bx 0 rfl 0 _ rfl).1
 have x2:=(HW.out.bx 0 rfl 2 _ rfl).1
 by_cases h1:id<1
 case pos =>
  have HE:Shut (R=false):=⟨by rw [HRR.out,HI.out];simp;omega⟩
  go_wp2_with fail
  go_ret
  exact ⟨by rw [HE.out];rfl,HW.out.bel⟩
 by_cases h2:7<id
 case pos =>
  have HE:Shut (R=false):=⟨by rw [HRR.out,HI.out];simp;omega⟩
  go_wp2_with fail
  go_ret
  exact ⟨by rw [HE.out];rfl,HW.out.bel⟩
 replace HRR:Shut (R=unitsOk us):=⟨by rw [HRR.out,show inI id 1 7=true by rw [HI.out];simp;omega,Bool.and_true]⟩
 clear HI
 go_wp2_with fail
 clear x0 x2
 go_loopw [16] (fun i wr=>∃ (k:Nat),i = .int .i64 k/\k<=n/\Shut (∀ j,j<k->unAt us j=true)/\Shut (SL w wr [bxS w.heap.size [.int .i64 id,.bool up,.slice a n cap]])) (fun i _=>n - (intOf i).toNat)
 case atStart=>exact ⟨0,rfl,Nat.zero_le _,⟨fun j hj=>by omega⟩,HW⟩
 case round =>
  clear HW
  obtain ⟨k,rfl,hk,HG,HW⟩:=hrel
  by_cases hlt:k<n
  ·have hku:k<us.length:=by rw [<-HN.out];exact hlt
   obtain ⟨b,off,rfl,lb,hc⟩:=UnRow.at (HR.out.stays HW.out.bel) (by omega)
   obtain ⟨d0,d1,d2,d3⟩:=hc k hku
   obtain ⟨u,hu⟩:∃ u,u=us[k]:=⟨_,rfl⟩
   rw [<-hu] at d0 d1 d2 d3
   have HU:Shut (us.getD k default=u):=⟨(getD_un us k hku).trans hu.symm⟩
   have k0:(0:Int)<=(k:Int):=by omega
   have k1:(k:Int)<(n:Int):=by omega
   have HC:=Shut.mk hc
   have HS:=Shut.mk (HW.out.new #[.int .i64 u.group,.int .i64 u.index,.string u.text,.int .i64 u.sum] 49)
   clear hc hu
   go_upto_region 6 with fail
   obtain ⟨bb,hbb⟩:∃ q,q=wr.heap.size:=⟨_,rfl⟩
   rw [<-hbb] at HS
   rw [<-hbb] at lb
   refine wp_shade (fun W=>SL w W [bxS bb [.int .i64 u.group,.int .i64 u.index,.string u.text,.int .i64 u.sum],bxS w.heap.size [.int .i64 id,.bool up,.slice (some ⟨b,off,none⟩) n cap]]/\Below wr.heap.size wr W) ⟨HS.out,(Below.refl _ _).alloc (Nat.le_refl _) _⟩ ?_
   intro W hW
   rw [<-hbb]
   have H:=Shut.mk hW.1
   have HBW:=Shut.mk hW.2
   have HBB:=Shut.mk hbb
   have lw:w.heap.size<W.heap.size:=(hW.1.at 1 rfl).1
   have lq:bb<W.heap.size:=(hW.1.at 0 rfl).1
   have lbW:b<W.heap.size:=Nat.lt_of_lt_of_le (by rw [<-hbb];exact lb) hW.2.size
   have g0:∀ X:Grow W,X.val.cell? ⟨bb,0,none⟩=some (.int .i64 u.group):=fun X=>X.cell (hW.1.bx 0 rfl 0 _ rfl).1 lq
   have g1:∀ X:Grow W,X.val.cell? ⟨bb,1,none⟩=some (.int .i64 u.index):=fun X=>X.cell (hW.1.bx 0 rfl 1 _ rfl).1 lq
   have g2:∀ X:Grow W,X.val.cell? ⟨bb,2,none⟩=some (.string u.text):=fun X=>X.cell (hW.1.bx 0 rfl 2 _ rfl).1 lq
   have g3:∀ X:Grow W,X.val.cell? ⟨bb,3,none⟩=some (.int .i64 u.sum):=fun X=>X.cell (hW.1.bx 0 rfl 3 _ rfl).1 lq
   have gx:∀ X:Grow W,X.val.cell? ⟨w.heap.size,2,none⟩=some (.slice (some ⟨b,off,none⟩) n cap):=fun X=>X.cell (hW.1.bx 1 rfl 2 _ rfl).1 lw
   have HGR:Shut (∀ X:Grow W,SL w X.val [bxS w.heap.size [.int .i64 id,.bool up,.slice (some ⟨b,off,none⟩) n cap]]):=⟨fun X=>(SL.tail H.out).below X.bel⟩
   have HNO:Shut (unAt us k=false->unitsOk us=false):=⟨unitsOk_no hku⟩
   have HONE:Shut (unAt us k=(unOne u&&(decide (k=0)||unLt (us.getD (k - 1) default) u))):=⟨by unfold unAt;rw [HU.out]⟩
   have HOK:=Shut.mk (fun X=>calls_grow (w:=W) (fun W' (_:Below W.heap.size W W')=>implUnitOk u W') X)
   clear hW hbb d0 d1 d2 d3 HW HS
   cases hq1:unOne u with
   | false =>
    rw [hq1] at HOK
    refine wp_region_grow (by kernel_rfl) (by kernel_rfl) ?_
    repeat (go_big_quiet_step (first | (go_at_call 93;with_reducible exact HOK.out _)))
    refine wpQuiet_nil ?_
    rintro _ ⟨X,rfl⟩
    go_wp2_with fail
    go_ret
    exact ⟨by rw [HRR.out,HNO.out (by rw [HONE.out];simp [*])];rfl,HGR.out X |>.bel⟩
   | true =>
    rw [hq1] at HOK
    by_cases hz:k=0
    case pos =>
     have hz':decide ((0:Int)<(k:Int))=false:=by simp;omega
     refine wp_region_grow (by kernel_rfl) (by kernel_rfl) ?_
     repeat (go_big_quiet_step (first | (go_at_call 93;with_reducible exact HOK.out _)))
     refine wpQuiet_nil ?_
     rintro _ ⟨X,rfl⟩
     go_wp2_with fail
     go_roundw
     case rel=>exact ⟨k+1,by go_num,by omega,⟨fun j hj=>by rcases Nat.lt_succ_iff_lt_or_eq.1 hj with h | h;exact HG.out j h;subst h;rw [HONE.out];simp [*]⟩,⟨HGR.out X⟩⟩
     case measure=>simp [intOf];omega
    have hzd:decide (k=0)=false:=by simpa using hz
    have hz':decide (0<k)=true:=by simp;omega
    have hz3:0<k:=by omega
    obtain ⟨e0,e1,e2,e3⟩:=HC.out (k - 1) (by omega)
    obtain ⟨y,hy⟩:∃ y,y=us[k - 1]'(by omega):=⟨_,rfl⟩
    rw [<-hy] at e0 e1 e2 e3
    have HY:Shut (us.getD (k - 1) default=y):=⟨(getD_un us (k - 1) (by omega)).trans hy.symm⟩
    have p0:∀ X:Grow W,X.val.cell? ⟨b,off+(k - 1)*4,none⟩=some (.int .i64 y.group):=fun X=>X.cell ((HBW.out.cell (p:=⟨b,off+(k - 1)*4,none⟩) (by rw [<-HBB.out];exact lb)).trans e0) lbW
    have p1:∀ X:Grow W,X.val.cell? ⟨b,off+(k - 1)*4+1,none⟩=some (.int .i64 y.index):=fun X=>X.cell ((HBW.out.cell (p:=⟨b,off+(k - 1)*4+1,none⟩) (by rw [<-HBB.out];exact lb)).trans e1) lbW
    have p2:∀ X:Grow W,X.val.cell? ⟨b,off+(k - 1)*4+2,none⟩=some (.string y.text):=fun X=>X.cell ((HBW.out.cell (p:=⟨b,off+(k - 1)*4+2,none⟩) (by rw [<-HBB.out];exact lb)).trans e2) lbW
    have p3:∀ X:Grow W,X.val.cell? ⟨b,off+(k - 1)*4+3,none⟩=some (.int .i64 y.sum):=fun X=>X.cell ((HBW.out.cell (p:=⟨b,off+(k - 1)*4+3,none⟩) (by rw [<-HBB.out];exact lb)).trans e3) lbW
    have hk1:(k:Int) - 1=((k - 1:Nat):Int):=by omega
    have hk2:(0:Int)<=((k - 1:Nat):Int):=by omega
    have hk3:((k - 1:Nat):Int)<(n:Int):=by omega
    rw [HY.out] at HONE
    have HCM:=Shut.mk (fun X=>calls_grow (w:=W) (fun W' (_:Below W.heap.size W W')=>implCmp y u W') X)
    have HNG:=Shut.mk (cmpU_neg y u)
    generalize cmpU y u=cv at HCM HNG
    clear hy e0 e1 e2 e3 hz
    cases hal:unLt y u with
    | false =>
     have hcv:¬ (cv<0):=fun h=>by have:=HNG.out.1 h;rw [hal] at this;cases this
     have hcv2:decide (0<=cv)=true:=by simp;omega
     have hcv3:(0:Int)<=cv:=by omega
     rw [hal] at HONE
     refine wp_region_grow (by kernel_rfl) (by kernel_rfl) ?_
     repeat (go_big_quiet_step (first | (go_at_call 93;with_reducible exact HOK.out _) | (go_at_call 94;with_reducible exact HCM.out _)))
     refine wpQuiet_nil ?_
     rintro _ ⟨X,rfl⟩
     go_wp2_with fail
     go_ret
     exact ⟨by rw [HRR.out,HNO.out (by rw [HONE.out];simp [*])];rfl,HGR.out X |>.bel⟩
    | true =>
     have hcv:=HNG.out.2 hal
     have hcv2:decide (0<=cv)=false:=by simp;omega
     rw [hal] at HONE
     refine wp_region_grow (by kernel_rfl) (by kernel_rfl) ?_
     repeat (go_big_quiet_step (first | (go_at_call 93;with_reducible exact HOK.out _) | (go_at_call 94;with_reducible exact HCM.out _)))
     refine wpQuiet_nil ?_
     rintro _ ⟨X,rfl⟩
     go_wp2_with fail
     go_roundw
     case rel=>exact ⟨k+1,by go_num,by omega,⟨fun j hj=>by rcases Nat.lt_succ_iff_lt_or_eq.1 hj with h | h;exact HG.out j h;subst h;rw [HONE.out];simp [*]⟩,⟨HGR.out X⟩⟩
     case measure=>simp [intOf];omega
  ·have e:k=n:=by omega
   have HT:Shut (unitsOk us=true):=⟨unitsOk_yes fun j hj=>HG.out j (by have:=HN.out;omega)⟩
   subst e
   go_wp2_with fail
   go_ret
   exact ⟨by rw [HRR.out,HT.out];rfl,HW.out.bel⟩
end Go.Proofs.YteaieagkjepgiaaGreatDoorT
