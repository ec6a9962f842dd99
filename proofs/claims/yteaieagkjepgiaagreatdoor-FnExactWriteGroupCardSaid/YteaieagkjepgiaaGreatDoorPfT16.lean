/- Texts of ours, laid one behind the other: THeA. -/
import Derived.Test.YteaieagkjepgiaaGreatDoorPfT15
set_option linter.unusedVariables false
set_option linter.unusedSimpArgs false
/- . -/
namespace Go.Proofs.YteaieagkjepgiaaGreatDoorT
set_option maxRecDepth 100000
open Go.RowKit BigFrame
attribute [local go_sem ↓] Go.wp_at_zero Go.wp_at_succ
theorem implLoad (H:HM) (a:Option Addr) (cap:Nat) (w:World):Calls Tw.prog 133 #[hov H a cap] w fun e w'=>e = .returned (.int .i64 (H.us.length:Nat))/\Below w.heap.size w w':=by
 obtain ⟨id,up,us⟩:=H
 dsimp only [hov]
 generalize us.length=n
 go_enter Tw.func133,Tw.ntmps133
 go_wp2_with fail
 go_ret
 exact ⟨rfl,(Below.refl _ _).alloc (Nat.le_refl _) _⟩
def or3 (x y z:Int):Int:=if x=0 then (if y=0 then z else y) else x
theorem or_three (g:Nat) (x y z:Int) (c:Nat) (w:World) (h0:w.cell? ⟨g,0,none⟩=some (.int .i64 x)) (h1:w.cell? ⟨g,1,none⟩=some (.int .i64 y)) (h2:w.cell? ⟨g,2,none⟩=some (.int .i64 z)) :
  Calls Tw.prog 100 #[.slice (some ⟨g,0,none⟩) 3 c] w fun e w'=>e = .returned (.int .i64 (or3 x y z))/\w'=w:=by
 obtain ⟨R,hR⟩:∃ R,R=or3 x y z:=⟨_,rfl⟩
 rw [<-hR]
 have HR:=Shut.mk hR
 unfold or3 at HR
 clear hR
 go_enter Tw.func100,Tw.ntmps100
 go_wp2_with fail
 go_loop [8] (fun i9=>∃ (k:Nat),i9 = .int .i64 k/\k<=3/\Shut (1<=k->x=0)/\Shut (2<=k->y=0)/\Shut (3<=k->z=0)) (fun i9=>3 - (intOf i9).toNat)
 case atStart=>exact ⟨0,rfl,by omega,⟨by omega⟩,⟨by omega⟩,⟨by omega⟩⟩
 case round =>
  obtain ⟨k,rfl,hk,HX,HY,HZ⟩:=hrel
  match k,hk with
  | 0,_ =>
   by_cases h:x=0
   ·have hx1:(x != 0)=false:=by simp [h]
    have HV0:=Shut.mk h
    clear h
    go_wp2_with fail
    go_round
    case rel=>exact ⟨1,by go_num,by omega,⟨fun _=>HV0.out⟩,⟨by omega⟩,⟨by omega⟩⟩
    case measure=>simp [intOf]
   ·have hx1:(x != 0)=true:=by simp [h]
    have HE:Shut (R=x):=⟨by rw [HR.out,if_neg h]⟩
    clear h
    go_wp2_with fail
    go_ret
    exact ⟨by rw [HE.out];rfl,rfl⟩
  | 1,_ =>
   by_cases h:y=0
   ·have hx1:(y != 0)=false:=by simp [h]
    have HV0:=Shut.mk h
    clear h
    go_wp2_with fail
    go_round
    case rel=>exact ⟨2,by go_num,by omega,⟨fun _=>HX.out (by omega)⟩,⟨fun _=>HV0.out⟩,⟨by omega⟩⟩
    case measure=>simp [intOf]
   ·have hx1:(y != 0)=true:=by simp [h]
    have HE:Shut (R=y):=⟨by rw [HR.out,if_pos (HX.out (Nat.le_refl _)),if_neg h]⟩
    clear h
    go_wp2_with fail
    go_ret
    exact ⟨by rw [HE.out];rfl,rfl⟩
  | 2,_ =>
   by_cases h:z=0
   ·have hx1:(z != 0)=false:=by simp [h]
    have HV0:=Shut.mk h
    clear h
    go_wp2_with fail
    go_round
    case rel=>exact ⟨3,by go_num,by omega,⟨fun _=>HX.out (by omega)⟩,⟨fun _=>HY.out (by omega)⟩,⟨fun _=>HV0.out⟩⟩
    case measure=>simp [intOf]
   ·have hx1:(z != 0)=true:=by simp [h]
    have HE:Shut (R=z):=⟨by rw [HR.out,if_pos (HX.out (by omega)),if_pos (HY.out (Nat.le_refl _))]⟩
    clear h
    go_wp2_with fail
    go_ret
    exact ⟨by rw [HE.out];rfl,rfl⟩
  | 3,_ =>
   have HE:Shut (R=0):=⟨by rw [HR.out,if_pos (HX.out (by omega)),if_pos (HY.out (by omega)),HZ.out (Nat.le_refl _)]⟩
   go_wp2_with fail
   go_ret
   exact ⟨by rw [HE.out];rfl,rfl⟩
def seC (b off t:Nat):List Value:=[.pointer (some ⟨b,off+t*3,none⟩),.int .i64 (t:Nat)]
theorem seC_len (b off t:Nat):(seC b off t).length=2:=rfl
abbrev sev (b off t:Nat):Value:=.agg #[.pointer (some ⟨b,off+t*3,none⟩),.int .i64 (t:Nat)]
def seS (b off:Nat) (Q:List Nat):List Value:=Q.flatMap (seC b off)
theorem seS_len (b off:Nat) (Q:List Nat):(seS b off Q).length=Q.length*2:=flat_len (seC_len b off) Q
def cmpS (hs:List HM) (s t:Nat):Int:=or3 (cmpI (pk hs s).1 (pk hs t).1) (cmpI (pk hs s).2 (pk hs t).2) (cmpI s t)
theorem cmpS_neg (hs:List HM) (s t:Nat):cmpS hs s t<0↔lt3 (pk hs) s t:=by
 unfold cmpS or3 lt3
 have h1:=cmpI_is (pk hs s).1 (pk hs t).1
 have h2:=cmpI_is (pk hs s).2 (pk hs t).2
 have h3:=cmpI_is s t
 split <;> (try split) <;> omega
set_option maxRecDepth 100000 in
set_option maxHeartbeats 2000000 in
theorem implCmpS (b off:Nat) (rs:List HoR) (s t:Nat) (w:World) (hr:HsRow w (some ⟨b,off,none⟩) rs) (hs:s<rs.length) (ht:t<rs.length) :
  Calls Tw.prog 132 #[sev b off s,sev b off t] w fun e w'=>e = .returned (.int .i64 (cmpS (hms rs) s t))/\Below w.heap.size w w':=by
 have HS0:=Shut.mk (((SL.start w).new #[.pointer (some ⟨b,off+s*3,none⟩),.int .i64 (s:Nat)] 103).new #[.pointer (some ⟨b,off+t*3,none⟩),.int .i64 (t:Nat)] 103)
 simp only [World.size_alloc] at HS0
 obtain ⟨b1,o1,r,e1,hre,lb1,hcr⟩:=hs_at hr (Below.refl _ _) hs
 obtain ⟨b2,o2,q,e2,hqe,lb2,hcq⟩:=hs_at hr (Below.refl _ _) ht
 simp only [Option.some.injEq,Addr.mk.injEq,and_true] at e1 e2
 obtain ⟨rfl,rfl⟩:=e1
 obtain ⟨rfl,rfl⟩:=e2
 have p1:pk (hms rs) s=(r.h.us.length,r.h.id):=by unfold pk keyP;simp [hms,List.getD,hs,hre]
 have p2:pk (hms rs) t=(q.h.us.length,q.h.id):=by unfold pk keyP;simp [hms,List.getD,ht,hqe]
 have HQ:Shut (cmpS (hms rs) s t=or3 (cmpI r.h.us.length q.h.us.length) (cmpI r.h.id q.h.id) (cmpI s t)):=⟨by unfold cmpS;rw [p1,p2]⟩
 generalize cmpS (hms rs) s t=R at HQ ⊢
 have HL1:=Shut.mk (fun x=>implLoad r.h r.loc r.cap x)
 have HL2:=Shut.mk (fun x=>implLoad q.h q.loc q.cap x)
 obtain ⟨⟨rid,rup,rus⟩,rl,rc⟩:=r
 obtain ⟨⟨qid,qup,qus⟩,ql,qc⟩:=q
 dsimp only [hov] at *
 clear hre hqe p1 p2
 generalize rus.length=n1 at *
 generalize qus.length=n2 at *
 have HC1:=Shut.mk (fun x=>cmp_int n1 n2 x)
 have HC2:=Shut.mk (fun x=>cmp_int rid qid x)
 have HC3:=Shut.mk (fun x=>cmp_int s t x)
 generalize cmpI n1 n2=c1 at HQ HC1
 generalize cmpI rid qid=c2 at HQ HC2
 generalize cmpI s t=c3 at HQ HC3
 go_enter Tw.func132,Tw.ntmps132
 go_upto_region 1 with fail
 refine wp_shade (fun W=>SL w W [bxS (w.heap.size+1) [.pointer (some ⟨b,off+t*3,none⟩),.int .i64 (t:Nat)],bxS w.heap.size [.pointer (some ⟨b,off+s*3,none⟩),.int .i64 (s:Nat)]]) HS0.out ?_
 intro W0 hW
 have HT:Shut (∀ x,Later W0.drew x->SL w x [bxS (w.heap.size+1) [.pointer (some ⟨b,off+t*3,none⟩),.int .i64 (t:Nat)],bxS w.heap.size [.pointer (some ⟨b,off+s*3,none⟩),.int .i64 (s:Nat)]]):=⟨fun x hx=>hW.drew.below hx⟩
 have HLE:Shut (∀ x,Later W0.drew x->x.cell? ⟨w.heap.size,0,none⟩=some (.pointer (some ⟨b,off+s*3,none⟩))/\x.cell? ⟨w.heap.size,1,none⟩=some (.int .i64 (s:Nat))/\x.cell? ⟨w.heap.size+1,0,none⟩=some (.pointer (some ⟨b,off+t*3,none⟩))/\x.cell? ⟨w.heap.size+1,1,none⟩=some (.int .i64 (t:Nat)) /\
   x.cell? ⟨b,off+s*3,none⟩=some (.int .i64 rid)/\x.cell? ⟨b,off+s*3+1,none⟩=some (.bool rup)/\x.cell? ⟨b,off+s*3+2,none⟩=some (.slice rl n1 rc)/\x.cell? ⟨b,off+t*3,none⟩=some (.int .i64 qid)/\x.cell? ⟨b,off+t*3+1,none⟩=some (.bool qup)/\x.cell? ⟨b,off+t*3+2,none⟩=some (.slice ql n2 qc)):=⟨fun x hx=>by
  have hb:=(HT.out x hx).bel
  obtain ⟨a0,a1,a2,_⟩:=hcr x hb
  obtain ⟨a3,a4,a5,_⟩:=hcq x hb
  exact ⟨((HT.out x hx).bx 1 rfl 0 _ rfl).1,((HT.out x hx).bx 1 rfl 1 _ rfl).1,((HT.out x hx).bx 0 rfl 0 _ rfl).1,((HT.out x hx).bx 0 rfl 1 _ rfl).1,a0,a1,a2,a3,a4,a5⟩⟩
 clear HS0 hW hcr hcq
 refine wp_region_later (by kernel_rfl) ?_
 refine wpL_val (i:=0) (v:=?v0) rfl (by kernel_rfl) (by kernel_rfl) (by kernel_rfl) (fun _ _ _ h=>h) (by rfl) ?hy0 ?rest0
 case hy0=>(intro x hx;obtain ⟨d0,d1,d2,d3,d4,d5,d6,d7,d8,d9⟩:=HLE.out x hx;go_simp;try with_reducible rfl)
 try simp only [Act.put,List.setIfInBounds_toArray,List.set_cons_zero,List.set_cons_succ]
 refine wpL_val (i:=1) (v:=?v1) rfl (by kernel_rfl) (by kernel_rfl) (by kernel_rfl) (fun _ _ _ h=>h) (by rfl) ?hy1 ?rest1
 case hy1=>(intro x hx;obtain ⟨d0,d1,d2,d3,d4,d5,d6,d7,d8,d9⟩:=HLE.out x hx;go_simp;try with_reducible rfl)
 try simp only [Act.put,List.setIfInBounds_toArray,List.set_cons_zero,List.set_cons_succ]
 refine wpL_val (i:=2) (v:=?v2) rfl (by kernel_rfl) (by kernel_rfl) (by kernel_rfl) (fun _ _ _ h=>h) (by rfl) ?hy2 ?rest2
 case hy2=>(intro x hx;obtain ⟨d0,d1,d2,d3,d4,d5,d6,d7,d8,d9⟩:=HLE.out x hx;go_simp;try with_reducible rfl)
 try simp only [Act.put,List.setIfInBounds_toArray,List.set_cons_zero,List.set_cons_succ]
 refine wpL_val (i:=3) (v:=?v3) rfl (by kernel_rfl) (by kernel_rfl) (by kernel_rfl) (fun _ _ _ h=>h) (by rfl) ?hy3 ?rest3
 case hy3=>(intro x hx;obtain ⟨d0,d1,d2,d3,d4,d5,d6,d7,d8,d9⟩:=HLE.out x hx;go_simp;try with_reducible rfl)
 try simp only [Act.put,List.setIfInBounds_toArray,List.set_cons_zero,List.set_cons_succ]
 refine wpL_call (i:=4) (v:=.int .i64 (n1:Nat)) (f:=133) (args:=#[.agg #[.int .i64 rid,.bool rup,.slice rl n1 rc]]) rfl (by kernel_rfl) (by kernel_rfl) (by kernel_rfl) (fun _ _ _ h=>h) (by rfl) ?hy4 (fun x _=>HL1.out x) ?rest4
 case hy4=>(intro x hx;obtain ⟨d0,d1,d2,d3,d4,d5,d6,d7,d8,d9⟩:=HLE.out x hx;go_simp;try with_reducible rfl)
 try simp only [Act.put,List.setIfInBounds_toArray,List.set_cons_zero,List.set_cons_succ]
 refine wpL_val (i:=5) (v:=?v5) rfl (by kernel_rfl) (by kernel_rfl) (by kernel_rfl) (fun _ _ _ h=>h) (by rfl) ?hy5 ?rest5
 case hy5=>(intro x hx;obtain ⟨d0,d1,d2,d3,d4,d5,d6,d7,d8,d9⟩:=HLE.out x hx;go_simp;try with_reducible rfl)
 try simp only [Act.put,List.setIfInBounds_toArray,List.set_cons_zero,List.set_cons_succ]
 refine wpL_val (i:=6) (v:=?v6) rfl (by kernel_rfl) (by kernel_rfl) (by kernel_rfl) (fun _ _ _ h=>h) (by rfl) ?hy6 ?rest6
 case hy6=>(intro x hx;obtain ⟨d0,d1,d2,d3,d4,d5,d6,d7,d8,d9⟩:=HLE.out x hx;go_simp;try with_reducible rfl)
 try simp only [Act.put,List.setIfInBounds_toArray,List.set_cons_zero,List.set_cons_succ]
 refine wpL_val (i:=7) (v:=?v7) rfl (by kernel_rfl) (by kernel_rfl) (by kernel_rfl) (fun _ _ _ h=>h) (by rfl) ?hy7 ?rest7
 case hy7=>(intro x hx;obtain ⟨d0,d1,d2,d3,d4,d5,d6,d7,d8,d9⟩:=HLE.out x hx;go_simp;try with_reducible rfl)
 try simp only [Act.put,List.setIfInBounds_toArray,List.set_cons_zero,List.set_cons_succ]
 refine wpL_val (i:=8) (v:=?v8) rfl (by kernel_rfl) (by kernel_rfl) (by kernel_rfl) (fun _ _ _ h=>h) (by rfl) ?hy8 ?rest8
 case hy8=>(intro x hx;obtain ⟨d0,d1,d2,d3,d4,d5,d6,d7,d8,d9⟩:=HLE.out x hx;go_simp;try with_reducible rfl)
 try simp only [Act.put,List.setIfInBounds_toArray,List.set_cons_zero,List.set_cons_succ]
 refine wpL_call (i:=9) (v:=.int .i64 (n2:Nat)) (f:=133) (args:=#[.agg #[.int .i64 qid,.bool qup,.slice ql n2 qc]]) rfl (by kernel_rfl) (by kernel_rfl) (by kernel_rfl) (fun _ _ _ h=>h) (by rfl) ?hy9 (fun x _=>HL2.out x) ?rest9
 case hy9=>(intro x hx;obtain ⟨d0,d1,d2,d3,d4,d5,d6,d7,d8,d9⟩:=HLE.out x hx;go_simp;try with_reducible rfl)
 try simp only [Act.put,List.setIfInBounds_toArray,List.set_cons_zero,List.set_cons_succ]
 refine wpL_call (i:=10) (v:=.int .i64 c1) (f:=101) (args:=#[.int .i64 (n1:Nat),.int .i64 (n2:Nat)]) rfl (by kernel_rfl) (by kernel_rfl) (by kernel_rfl) (fun _ _ _ h=>h) (by rfl) ?hy10 (fun x _=>(HC1.out x).mono (by rintro e y ⟨rfl,hy⟩;subst hy;exact ⟨rfl,Later.refl _⟩)) ?rest10
 case hy10=>(intro x hx;obtain ⟨d0,d1,d2,d3,d4,d5,d6,d7,d8,d9⟩:=HLE.out x hx;go_simp;try with_reducible rfl)
 try simp only [Act.put,List.setIfInBounds_toArray,List.set_cons_zero,List.set_cons_succ]
 refine wpL_val (i:=11) (v:=?v11) rfl (by kernel_rfl) (by kernel_rfl) (by kernel_rfl) (fun _ _ _ h=>h) (by rfl) ?hy11 ?rest11
 case hy11=>(intro x hx;obtain ⟨d0,d1,d2,d3,d4,d5,d6,d7,d8,d9⟩:=HLE.out x hx;go_simp;try with_reducible rfl)
 try simp only [Act.put,List.setIfInBounds_toArray,List.set_cons_zero,List.set_cons_succ]
 refine wpL_val (i:=12) (v:=?v12) rfl (by kernel_rfl) (by kernel_rfl) (by kernel_rfl) (fun _ _ _ h=>h) (by rfl) ?hy12 ?rest12
 case hy12=>(intro x hx;obtain ⟨d0,d1,d2,d3,d4,d5,d6,d7,d8,d9⟩:=HLE.out x hx;go_simp;try with_reducible rfl)
 try simp only [Act.put,List.setIfInBounds_toArray,List.set_cons_zero,List.set_cons_succ]
 refine wpL_val (i:=13) (v:=?v13) rfl (by kernel_rfl) (by kernel_rfl) (by kernel_rfl) (fun _ _ _ h=>h) (by rfl) ?hy13 ?rest13
 case hy13=>(intro x hx;obtain ⟨d0,d1,d2,d3,d4,d5,d6,d7,d8,d9⟩:=HLE.out x hx;go_simp;try with_reducible rfl)
 try simp only [Act.put,List.setIfInBounds_toArray,List.set_cons_zero,List.set_cons_succ]
 refine wpL_val (i:=14) (v:=?v14) rfl (by kernel_rfl) (by kernel_rfl) (by kernel_rfl) (fun _ _ _ h=>h) (by rfl) ?hy14 ?rest14
 case hy14=>(intro x hx;obtain ⟨d0,d1,d2,d3,d4,d5,d6,d7,d8,d9⟩:=HLE.out x hx;go_simp;try with_reducible rfl)
 try simp only [Act.put,List.setIfInBounds_toArray,List.set_cons_zero,List.set_cons_succ]
 refine wpL_val (i:=15) (v:=?v15) rfl (by kernel_rfl) (by kernel_rfl) (by kernel_rfl) (fun _ _ _ h=>h) (by rfl) ?hy15 ?rest15
 case hy15=>(intro x hx;obtain ⟨d0,d1,d2,d3,d4,d5,d6,d7,d8,d9⟩:=HLE.out x hx;go_simp;try with_reducible rfl)
 try simp only [Act.put,List.setIfInBounds_toArray,List.set_cons_zero,List.set_cons_succ]
 refine wpL_val (i:=16) (v:=?v16) rfl (by kernel_rfl) (by kernel_rfl) (by kernel_rfl) (fun _ _ _ h=>h) (by rfl) ?hy16 ?rest16
 case hy16=>(intro x hx;obtain ⟨d0,d1,d2,d3,d4,d5,d6,d7,d8,d9⟩:=HLE.out x hx;go_simp;try with_reducible rfl)
 try simp only [Act.put,List.setIfInBounds_toArray,List.set_cons_zero,List.set_cons_succ]
 refine wpL_val (i:=17) (v:=?v17) rfl (by kernel_rfl) (by kernel_rfl) (by kernel_rfl) (fun _ _ _ h=>h) (by rfl) ?hy17 ?rest17
 case hy17=>(intro x hx;obtain ⟨d0,d1,d2,d3,d4,d5,d6,d7,d8,d9⟩:=HLE.out x hx;go_simp;try with_reducible rfl)
 try simp only [Act.put,List.setIfInBounds_toArray,List.set_cons_zero,List.set_cons_succ]
 refine wpL_val (i:=18) (v:=?v18) rfl (by kernel_rfl) (by kernel_rfl) (by kernel_rfl) (fun _ _ _ h=>h) (by rfl) ?hy18 ?rest18
 case hy18=>(intro x hx;obtain ⟨d0,d1,d2,d3,d4,d5,d6,d7,d8,d9⟩:=HLE.out x hx;go_simp;try with_reducible rfl)
 try simp only [Act.put,List.setIfInBounds_toArray,List.set_cons_zero,List.set_cons_succ]
 refine wpL_val (i:=19) (v:=?v19) rfl (by kernel_rfl) (by kernel_rfl) (by kernel_rfl) (fun _ _ _ h=>h) (by rfl) ?hy19 ?rest19
 case hy19=>(intro x hx;obtain ⟨d0,d1,d2,d3,d4,d5,d6,d7,d8,d9⟩:=HLE.out x hx;go_simp;try with_reducible rfl)
 try simp only [Act.put,List.setIfInBounds_toArray,List.set_cons_zero,List.set_cons_succ]
 refine wpL_val (i:=20) (v:=?v20) rfl (by kernel_rfl) (by kernel_rfl) (by kernel_rfl) (fun _ _ _ h=>h) (by rfl) ?hy20 ?rest20
 case hy20=>(intro x hx;obtain ⟨d0,d1,d2,d3,d4,d5,d6,d7,d8,d9⟩:=HLE.out x hx;go_simp;try with_reducible rfl)
 try simp only [Act.put,List.setIfInBounds_toArray,List.set_cons_zero,List.set_cons_succ]
 refine wpL_call (i:=21) (v:=.int .i64 c2) (f:=101) (args:=#[.int .i64 rid,.int .i64 qid]) rfl (by kernel_rfl) (by kernel_rfl) (by kernel_rfl) (fun _ _ _ h=>h) (by rfl) ?hy21 (fun x _=>(HC2.out x).mono (by rintro e y ⟨rfl,hy⟩;subst hy;exact ⟨rfl,Later.refl _⟩)) ?rest21
 case hy21=>(intro x hx;obtain ⟨d0,d1,d2,d3,d4,d5,d6,d7,d8,d9⟩:=HLE.out x hx;go_simp;try with_reducible rfl)
 try simp only [Act.put,List.setIfInBounds_toArray,List.set_cons_zero,List.set_cons_succ]
 refine wpL_val (i:=22) (v:=?v22) rfl (by kernel_rfl) (by kernel_rfl) (by kernel_rfl) (fun _ _ _ h=>h) (by rfl) ?hy22 ?rest22
 case hy22=>(intro x hx;obtain ⟨d0,d1,d2,d3,d4,d5,d6,d7,d8,d9⟩:=HLE.out x hx;go_simp;try with_reducible rfl)
 try simp only [Act.put,List.setIfInBounds_toArray,List.set_cons_zero,List.set_cons_succ]
 refine wpL_val (i:=23) (v:=?v23) rfl (by kernel_rfl) (by kernel_rfl) (by kernel_rfl) (fun _ _ _ h=>h) (by rfl) ?hy23 ?rest23
 case hy23=>(intro x hx;obtain ⟨d0,d1,d2,d3,d4,d5,d6,d7,d8,d9⟩:=HLE.out x hx;go_simp;try with_reducible rfl)
 try simp only [Act.put,List.setIfInBounds_toArray,List.set_cons_zero,List.set_cons_succ]
 refine wpL_val (i:=24) (v:=?v24) rfl (by kernel_rfl) (by kernel_rfl) (by kernel_rfl) (fun _ _ _ h=>h) (by rfl) ?hy24 ?rest24
 case hy24=>(intro x hx;obtain ⟨d0,d1,d2,d3,d4,d5,d6,d7,d8,d9⟩:=HLE.out x hx;go_simp;try with_reducible rfl)
 try simp only [Act.put,List.setIfInBounds_toArray,List.set_cons_zero,List.set_cons_succ]
 refine wpL_val (i:=25) (v:=?v25) rfl (by kernel_rfl) (by kernel_rfl) (by kernel_rfl) (fun _ _ _ h=>h) (by rfl) ?hy25 ?rest25
 case hy25=>(intro x hx;obtain ⟨d0,d1,d2,d3,d4,d5,d6,d7,d8,d9⟩:=HLE.out x hx;go_simp;try with_reducible rfl)
 try simp only [Act.put,List.setIfInBounds_toArray,List.set_cons_zero,List.set_cons_succ]
 refine wpL_call (i:=26) (v:=.int .i64 c3) (f:=101) (args:=#[.int .i64 (s:Nat),.int .i64 (t:Nat)]) rfl (by kernel_rfl) (by kernel_rfl) (by kernel_rfl) (fun _ _ _ h=>h) (by rfl) ?hy26 (fun x _=>(HC3.out x).mono (by rintro e y ⟨rfl,hy⟩;subst hy;exact ⟨rfl,Later.refl _⟩)) ?rest26
 case hy26=>(intro x hx;obtain ⟨d0,d1,d2,d3,d4,d5,d6,d7,d8,d9⟩:=HLE.out x hx;go_simp;try with_reducible rfl)
 try simp only [Act.put,List.setIfInBounds_toArray,List.set_cons_zero,List.set_cons_succ]
 refine wpL_one (i:=27) (by kernel_rfl) rfl (by rfl) ?_
 intro x hx
 refine ⟨.slice (some ⟨x.heap.size,0,none⟩) 3 3,x.alloc (.cells #[.int .i64 c1,.int .i64 c2,.int .i64 c3] 3),?_,(Below.refl _ _).alloc (Nat.le_refl _) _,?_⟩
 ·go_simp
 have hwx:=wcells_new x #[.int .i64 c1,.int .i64 c2,.int .i64 c3] 3
 have HBX:Shut (Below w.heap.size w (x.alloc (.cells #[.int .i64 c1,.int .i64 c2,.int .i64 c3] 3))):=⟨((HT.out x hx).below ((Below.refl _ _).alloc (Nat.le_refl _) _)).bel⟩
 have HOR:Shut (∀ y,Later (x.alloc (.cells #[.int .i64 c1,.int .i64 c2,.int .i64 c3] 3)) y->Calls Tw.prog 100 #[.slice (some ⟨x.heap.size,0,none⟩) 3 3] y fun e z=>e = .returned (.int .i64 R)/\Later y z):=⟨fun y hy=>by
  rw [HQ.out]
  refine (or_three x.heap.size c1 c2 c3 3 y ((hwx.grow hy).2 0 _ rfl).1 ((hwx.grow hy).2 1 _ rfl).1 ((hwx.grow hy).2 2 _ rfl).1).mono ?_
  rintro e z ⟨rfl,hz⟩
  subst hz
  exact ⟨rfl,Later.refl _⟩⟩
 clear hwx
 try simp only [Act.put,List.setIfInBounds_toArray,List.set_cons_zero,List.set_cons_succ]
 refine wpL_call (i:=28) (v:=.int .i64 R) (f:=100) (args:=#[.slice (some ⟨x.heap.size,0,none⟩) 3 3]) rfl (by kernel_rfl) (by kernel_rfl) (by kernel_rfl) (fun _ _ _ h=>h) (by rfl) ?hyq28 (fun y hy=>HOR.out y hy) ?restq28
 case hyq28=>(intro x hx;go_simp;try with_reducible rfl)
 try simp only [Act.put,List.setIfInBounds_toArray,List.set_cons_zero,List.set_cons_succ]
 refine wpL_val (i:=29) (v:=?vq29) rfl (by kernel_rfl) (by kernel_rfl) (by kernel_rfl) (fun _ _ _ h=>h) (by rfl) ?hyq29 ?restq29
 case hyq29=>(intro x hx;go_simp;try with_reducible rfl)
 try simp only [Act.put,List.setIfInBounds_toArray,List.set_cons_zero,List.set_cons_succ]
 refine wpL_done (by kernel_rfl) ?_ _
 intro y hy
 have HB:=Shut.mk (HBX.out.trans (Below.mono hy HBX.out.size))
 go_wp2_with fail
 go_ret
 exact ⟨rfl,HB.out⟩
theorem seS_at {w:World} {g b off:Nat} {Q:List Nat} (h:CRow w (some ⟨g,0,none⟩) (seS b off Q)) {i:Nat} (hi:i<Q.length):w.cell? ⟨g,i*2,none⟩=some (.pointer (some ⟨b,off+Q.getD i 0*3,none⟩))/\w.cell? ⟨g,i*2+1,none⟩=some (.int .i64 (Q.getD i 0:Nat))/\g<w.heap.size:=by
 obtain ⟨b',o',e,lb,hc⟩:=h (by rw [seS_len];omega)
 simp only [Option.some.injEq,Addr.mk.injEq,and_true] at e
 obtain ⟨rfl,rfl⟩:=e
 have e9:Q.getD i 0=Q[i]:=by simp [List.getD,hi]
 have q0:=hc (i*2+0) _ (flat_get (seC_len b off) Q i hi 0 (by omega))
 have q1:=hc (i*2+1) _ (flat_get (seC_len b off) Q i hi 1 (by omega))
 rw [Nat.zero_add] at q0 q1
 rw [e9]
 exact ⟨q0,q1,lb⟩
set_option maxRecDepth 100000 in
set_option maxHeartbeats 2000000 in
theorem implLess (b off g:Nat) (rs:List HoR) (Q:List Nat) (c i j:Nat) (w:World) (hr:HsRow w (some ⟨b,off,none⟩) rs) (hq:CRow w (some ⟨g,0,none⟩) (seS b off Q)) (hQ:∀ x ∈ Q,x<rs.length) (hi:i<Q.length) (hj:j<Q.length) :
  Calls Tw.prog 128 #[.slice (some ⟨g,0,none⟩) Q.length c,.int .i64 (i:Nat),.int .i64 (j:Nat)] w fun e w'=>e = .returned (.bool (decide (cmpS (hms rs) (Q.getD i 0) (Q.getD j 0)<0)))/\Below w.heap.size w w':=by
 obtain ⟨a0,a1,lg⟩:=seS_at hq hi
 obtain ⟨a2,a3,_⟩:=seS_at hq hj
 have hm:∀ k,k<Q.length->Q.getD k 0<rs.length:=fun k hk=>hQ _ (by simp [List.getD,hk])
 have HCS:=Shut.mk (fun W (hW:Below w.heap.size w W)=>implCmpS b off rs (Q.getD i 0) (Q.getD j 0) W (hr.stays hW) (hm i hi) (hm j hj))
 generalize Q.getD i 0=s at *
 generalize Q.getD j 0=t at *
 generalize cmpS (hms rs) s t=R at *
 generalize Q.length=n at *
 have HLE:Shut (∀ x,Later w.drew x->x.cell? ⟨g,i*2,none⟩=some (.pointer (some ⟨b,off+s*3,none⟩))/\x.cell? ⟨g,i*2+1,none⟩=some (.int .i64 (s:Nat))/\x.cell? ⟨g,j*2,none⟩=some (.pointer (some ⟨b,off+t*3,none⟩))/\x.cell? ⟨g,j*2+1,none⟩=some (.int .i64 (t:Nat))):=⟨fun x hx=>by
  have hb:Below w.heap.size w x:=(Below.drew (Below.refl _ _)).trans hx
  exact ⟨(hb.cell (p:=⟨g,i*2,none⟩) lg).trans a0,(hb.cell (p:=⟨g,i*2+1,none⟩) lg).trans a1,(hb.cell (p:=⟨g,j*2,none⟩) lg).trans a2,(hb.cell (p:=⟨g,j*2+1,none⟩) lg).trans a3⟩⟩
 have HBX:Shut (∀ x,Later w.drew x->Below w.heap.size w x):=⟨fun x hx=>(Below.drew (Below.refl _ _)).trans hx⟩
 have i0:(0:Int)<=(i:Int):=by omega
 have j0:(0:Int)<=(j:Int):=by omega
 have i1:(i:Int)<(n:Int):=by omega
 have j1:(j:Int)<(n:Int):=by omega
 clear hr hq hQ hm a0 a1 a2 a3
 go_enter Tw.func128,Tw.ntmps128
 go_upto_region 1 with fail
 refine wp_region_later (by kernel_rfl) ?_
 refine wpL_val (i:=0) (v:=?v0) rfl (by kernel_rfl) (by kernel_rfl) (by kernel_rfl) (fun _ _ _ h=>h) (by rfl) ?hy0 ?rest0
 case hy0=>(intro x hx;obtain ⟨d0,d1,d2,d3⟩:=HLE.out x hx;go_simp;try with_reducible rfl)
 try simp only [Act.put,List.setIfInBounds_toArray,List.set_cons_zero,List.set_cons_succ]
 refine wpL_val (i:=1) (v:=?v1) rfl (by kernel_rfl) (by kernel_rfl) (by kernel_rfl) (fun _ _ _ h=>h) (by rfl) ?hy1 ?rest1
 case hy1=>(intro x hx;obtain ⟨d0,d1,d2,d3⟩:=HLE.out x hx;go_simp;try with_reducible rfl)
 try simp only [Act.put,List.setIfInBounds_toArray,List.set_cons_zero,List.set_cons_succ]
 refine wpL_val (i:=2) (v:=?v2) rfl (by kernel_rfl) (by kernel_rfl) (by kernel_rfl) (fun _ _ _ h=>h) (by rfl) ?hy2 ?rest2
 case hy2=>(intro x hx;obtain ⟨d0,d1,d2,d3⟩:=HLE.out x hx;go_simp;try with_reducible rfl)
 try simp only [Act.put,List.setIfInBounds_toArray,List.set_cons_zero,List.set_cons_succ]
 refine wpL_val (i:=3) (v:=?v3) rfl (by kernel_rfl) (by kernel_rfl) (by kernel_rfl) (fun _ _ _ h=>h) (by rfl) ?hy3 ?rest3
 case hy3=>(intro x hx;obtain ⟨d0,d1,d2,d3⟩:=HLE.out x hx;go_simp;try with_reducible rfl)
 try simp only [Act.put,List.setIfInBounds_toArray,List.set_cons_zero,List.set_cons_succ]
 refine wpL_val (i:=4) (v:=?v4) rfl (by kernel_rfl) (by kernel_rfl) (by kernel_rfl) (fun _ _ _ h=>h) (by rfl) ?hy4 ?rest4
 case hy4=>(intro x hx;obtain ⟨d0,d1,d2,d3⟩:=HLE.out x hx;go_simp;try with_reducible rfl)
 try simp only [Act.put,List.setIfInBounds_toArray,List.set_cons_zero,List.set_cons_succ]
 refine wpL_val (i:=5) (v:=?v5) rfl (by kernel_rfl) (by kernel_rfl) (by kernel_rfl) (fun _ _ _ h=>h) (by rfl) ?hy5 ?rest5
 case hy5=>(intro x hx;obtain ⟨d0,d1,d2,d3⟩:=HLE.out x hx;go_simp;try with_reducible rfl)
 try simp only [Act.put,List.setIfInBounds_toArray,List.set_cons_zero,List.set_cons_succ]
 refine wpL_val (i:=6) (v:=?v6) rfl (by kernel_rfl) (by kernel_rfl) (by kernel_rfl) (fun _ _ _ h=>h) (by rfl) ?hy6 ?rest6
 case hy6=>(intro x hx;obtain ⟨d0,d1,d2,d3⟩:=HLE.out x hx;go_simp;try with_reducible rfl)
 try simp only [Act.put,List.setIfInBounds_toArray,List.set_cons_zero,List.set_cons_succ]
 refine wpL_val (i:=7) (v:=?v7) rfl (by kernel_rfl) (by kernel_rfl) (by kernel_rfl) (fun _ _ _ h=>h) (by rfl) ?hy7 ?rest7
 case hy7=>(intro x hx;obtain ⟨d0,d1,d2,d3⟩:=HLE.out x hx;go_simp;try with_reducible rfl)
 try simp only [Act.put,List.setIfInBounds_toArray,List.set_cons_zero,List.set_cons_succ]
 refine wpL_call (i:=8) (v:=.int .i64 R) (f:=132) (args:=#[.agg #[.pointer (some ⟨b,off+s*3,none⟩),.int .i64 (s:Nat)],.agg #[.pointer (some ⟨b,off+t*3,none⟩),.int .i64 (t:Nat)]]) rfl (by kernel_rfl) (by kernel_rfl) (by kernel_rfl) (fun _ _ _ h=>h) (by rfl) ?hy8 (fun x hx=>HCS.out x (HBX.out x hx)) ?rest8
 case hy8=>(intro x hx;obtain ⟨d0,d1,d2,d3⟩:=HLE.out x hx;go_simp;try with_reducible rfl)
 try simp only [Act.put,List.setIfInBounds_toArray,List.set_cons_zero,List.set_cons_succ]
 refine wpL_val (i:=9) (v:=?v9) rfl (by kernel_rfl) (by kernel_rfl) (by kernel_rfl) (fun _ _ _ h=>h) (by rfl) ?hy9 ?rest9
 case hy9=>(intro x hx;obtain ⟨d0,d1,d2,d3⟩:=HLE.out x hx;go_simp;try with_reducible rfl)
 try simp only [Act.put,List.setIfInBounds_toArray,List.set_cons_zero,List.set_cons_succ]
 refine wpL_val (i:=10) (v:=?v10) rfl (by kernel_rfl) (by kernel_rfl) (by kernel_rfl) (fun _ _ _ h=>h) (by rfl) ?hy10 ?rest10
 case hy10=>(intro x hx;obtain ⟨d0,d1,d2,d3⟩:=HLE.out x hx;go_simp;try with_reducible rfl)
 try simp only [Act.put,List.setIfInBounds_toArray,List.set_cons_zero,List.set_cons_succ]
 refine wpL_done (by kernel_rfl) ?_ _
 intro y hy
 have HB:=Shut.mk (HBX.out y hy)
 go_wp2_with fail
 go_ret
 exact ⟨rfl,HB.out⟩
end Go.Proofs.YteaieagkjepgiaaGreatDoorT
