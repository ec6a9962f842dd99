/- Texts of ours, laid one behind the other: EdV, EdW, ApR, ApS, ApT, ApU, WayM, TreJ, WayN, LkQ, LkR, TreK, LkS, FndM, StM, TInt, StN, LkE, LkF. -/
import Derived.Test.YtoglebfiobofoaaGreatDoorQr7
import Derived.Test.YtoglebfiobofoaaGreatDoorQr4
import Derived.Test.YtoglebfiobofoaaGreatDoorQr5
import Derived.Test.YtoglebfiobofoaaGreatDoorQr2
import Derived.Test.YtoglebfiobofoaaGreatDoorQr3
import Derived.Tactics
import Derived.Tactics2
import Derived.Defers
import Derived.Recover
import Derived.Laws.Pointers
import Derived.Sort.Walk0
import Derived.Deep.LoopGhost
/- EdV: . -/
namespace Go.Proofs.YtoglebfiobofoaaGreatDoor
set_option maxRecDepth 100000
set_option maxHeartbeats 16000000
open Go.RowKit
open Go.PlainAid (bt)
attribute [local go_sem ↓] Go.wp_at_zero Go.wp_at_succ
variable {s:ByteArray} {X:EM} {A B R a:Nat} {w w' w0:World}
def RE (w0 w:World) (R A B:Nat) (s:ByteArray) (a:Nat) (X:EM):Prop:=RdC w R s a/\WCells w A (qah zeroE)/\WCells w B (qah X)/\Turned w0 w R (R+1)/\A ≠ B/\R<w0.heap.size/\w0.heap.size<=A/\w0.heap.size<=B
theorem RE.turned {a b:Nat} (h:RE w0 w R A B s a X) (ht:Turned w w' R (R+1)) (hr:RdC w' R s b):RE w0 w' R A B s b X:=
 ⟨hr,h.2.1.turned ht (by have:=h.2.2.2.2.2;omega),h.2.2.1.turned ht (by have:=h.2.2.2.2.2;omega),h.2.2.2.1.trans ht,h.2.2.2.2⟩
theorem RE.below (h:RE w0 w R A B s a X) (hb:Below w.heap.size w w'):RE w0 w' R A B s a X:=
 ⟨h.1.later hb,h.2.1.grow hb,h.2.2.1.grow hb,h.2.2.2.1.trans (Turned.of_below hb _ _),h.2.2.2.2⟩
theorem Turned.fresh {lo hi:Nat} (h:Turned w w' lo hi) (p:Addr) (v:Value) (h1:w.heap.size<=p.block):Turned w (w'.setCell p v) lo hi:=
 ⟨h.base.setCell (Nat.zero_le _) v,fun k hk ho=>by rw [Below.heap_setCell _ _ _ _ (by omega)];exact h.block k hk ho⟩
theorem RE.set {X Y:EM} (h:RE w0 w R A B s a X) (i:Nat) (v:Value) (hi:i<5) (hz:(qah X).set i v=qah Y):RE w0 (w.setCell ⟨B,i,none⟩ v) R A B s a Y:=
 ⟨WCells.other h.1 _ _ (by have:=h.2.2.2.2.2;show R ≠ B;omega),h.2.1.other _ _ h.2.2.2.2.1,by rw [<-hz];exact h.2.2.1.set i v (by rw [qbv];exact hi),h.2.2.2.1.fresh _ _ h.2.2.2.2.2.2.2,h.2.2.2.2⟩
theorem RE.got (h:RE w0 w R A B s a X) (i:Nat) (v:Value) (hv:(qah X)[i]?=some v):w.cell? ⟨B,i,none⟩=some v/\w.frozen? ⟨B,i,none⟩=false:=h.2.2.1.2 i v hv
theorem RE.all (h:RE w0 w R A B s a X):w.cell? ⟨R,0,none⟩=some (.string s)/\w.cell? ⟨R,1,none⟩=some (.int .i64 (a:Nat))/\w.cell? ⟨B,0,none⟩=some (.int .i64 X.kind)/\w.cell? ⟨B,1,none⟩=some (.string X.path)/\w.cell? ⟨B,2,none⟩=some (.string X.dest)/\w.cell? ⟨B,3,none⟩=some (.int .i64 X.num)/\w.cell? ⟨B,4,none⟩=some (.int .i64 X.who):=
 ⟨h.1.got.1,h.1.got.2,(h.got 0 _ rfl).1,(h.got 1 _ rfl).1,(h.got 2 _ rfl).1,(h.got 3 _ rfl).1,(h.got 4 _ rfl).1⟩
theorem RE.put (h:RE w0 w R A B s a X) (Z:EM):Turned w0 (put5 w A Z) R (R+1):=
 ((((h.2.2.2.1.fresh ⟨A,0,none⟩ _ h.2.2.2.2.2.2.1).fresh ⟨A,1,none⟩ _ h.2.2.2.2.2.2.1).fresh ⟨A,2,none⟩ _ h.2.2.2.2.2.2.1).fresh ⟨A,3,none⟩ _ h.2.2.2.2.2.2.1).fresh ⟨A,4,none⟩ _ h.2.2.2.2.2.2.1
theorem re_new (w:World) (R:Nat) (s:ByteArray) (a:Nat) (h:RdC w R s a) (T T':TypeId):RE w ((w.alloc (.cells #[.int .i64 0,.string ⟨#[]⟩,.string ⟨#[]⟩,.int .i64 0,.int .i64 0] T)).alloc (.cells #[.int .i64 0,.string ⟨#[]⟩,.string ⟨#[]⟩,.int .i64 0,.int .i64 0] T')) R w.heap.size (w.heap.size+1) s a zeroE:=by
 have hb:Below w.heap.size w ((w.alloc (.cells #[.int .i64 0,.string ⟨#[]⟩,.string ⟨#[]⟩,.int .i64 0,.int .i64 0] T)).alloc (.cells #[.int .i64 0,.string ⟨#[]⟩,.string ⟨#[]⟩,.int .i64 0,.int .i64 0] T')):=((Below.refl _ _).alloc (Nat.le_refl _) _).alloc (by simp) _
 refine ⟨h.later hb,(qad w #[.int .i64 0,.string ⟨#[]⟩,.string ⟨#[]⟩,.int .i64 0,.int .i64 0] T).alloc _,?_,Turned.of_below hb _ _,by omega,h.1,Nat.le_refl _,Nat.le_succ _⟩
 have:=qad (w.alloc (.cells #[.int .i64 0,.string ⟨#[]⟩,.string ⟨#[]⟩,.int .i64 0,.int .i64 0] T)) #[.int .i64 0,.string ⟨#[]⟩,.string ⟨#[]⟩,.int .i64 0,.int .i64 0] T'
 have e:(w.alloc (.cells #[.int .i64 0,.string ⟨#[]⟩,.string ⟨#[]⟩,.int .i64 0,.int .i64 0] T)).heap.size=w.heap.size+1:=by simp
 rw [e] at this
 exact this
theorem qhj (h:WCells w A (qah X)) (Z:EM):WCells (put5 w A Z) A (qah Z):=
 ((((h.set 0 (.int .i64 Z.kind) (by simp [qah])).set 1 (.string Z.path) (by simp [qah])).set 2 (.string Z.dest) (by simp [qah])).set 3 (.int .i64 Z.num) (by simp [qah])).set 4 (.int .i64 Z.who) (by simp [qah])
def qsu (s:ByteArray) (w:World) (R:Nat) (e:Ending) (w':World):Prop:=(∃ X,progE s=some X/\e = .returned (ev X)/\Turned w w' R (R+1))\/(progE s=none/\e = .panicked noRec/\Turned w w' R (R+1))
theorem implEdit (R:Nat) (s:ByteArray) (w:World) (h:RdC w R s 0) (hs:s.size<=1048576):Calls Tryz.prog 111 #[.pointer (some ⟨R,0,none⟩)] w fun e w'=>qsu s w R e w':=by
 have HN:=Sh.mk (re_new w R s 0 h 33 33)
 clear h
 go_enter Tryz.func111,Tryz.ntmps111
 go_upto_region 2 with fail
 obtain ⟨W0,hW0⟩:∃ W0,W0=(w.alloc (.cells #[.int .i64 0,.string ⟨#[]⟩,.string ⟨#[]⟩,.int .i64 0,.int .i64 0] 33)).alloc (.cells #[.int .i64 0,.string ⟨#[]⟩,.string ⟨#[]⟩,.int .i64 0,.int .i64 0] 33):=⟨_,rfl⟩
 rw [<-hW0] at HN ⊢
 clear hW0
 by_cases q0:s.size<=0
 ·have HNO:Sh (progE s=none):=⟨by unfold progE;rw [if_neg (by omega)]⟩
  have HC:=Sh.mk (qkv R s 0 W0 HN.1.1 q0)
  clear q0
  go_wp2_with (go_at_call 144;refine HC.1.mono ?_;rintro e w1 ⟨rfl,hb1⟩)
  exact ⟨rfl,Or.inr ⟨HNO.1,rfl,(HN.1.below hb1).2.2.2.1⟩⟩
 have HC:=Sh.mk (qgc R s 0 W0 HN.1.1 (by omega) hs)
 have HC0:=Sh.mk (qgc R s 0 W0 HN.1.1 (by omega) hs)
 go_upto_region 3 with (go_at_call 144;refine HC0.1.mono ?_;rintro e w1 ⟨rfl,ht1,hr1⟩;have H9:=Sh.mk (HN.1.turned ht1 hr1);clear ht1 hr1;obtain ⟨g1,g2⟩:=H9.1.got 0 _ rfl)
 obtain ⟨W1,hW1⟩:∃ W,W=w1.setCell ⟨w.heap.size+1,0,none⟩ (Value.int .i64 (bt s 0)):=⟨_,rfl⟩
 rw [<-hW1]
 have H1:Sh (RE w W1 R w.heap.size (w.heap.size+1) s 1 ⟨bt s 0,⟨#[]⟩,⟨#[]⟩,0,0⟩):=⟨by rw [hW1];exact H9.1.set 0 _ (by omega) rfl⟩
 clear hW1 H9 g1 g2 HC0 HN
 by_cases q1:s.size<=1
 ·have HNO:Sh (progE s=none):=⟨by unfold progE;rw [if_neg (by omega)]⟩
  have HC:=Sh.mk (qkv R s 1 W1 H1.1.1 q1)
  clear q1 q0
  go_wp2_with (go_at_call 144;refine HC.1.mono ?_;rintro e w1 ⟨rfl,hb1⟩)
  exact ⟨rfl,Or.inr ⟨HNO.1,rfl,(H1.1.below hb1).2.2.2.1⟩⟩
 have HC1:=Sh.mk (qgc R s 1 W1 H1.1.1 (by omega) hs)
 go_upto_region 4 with (go_at_call 144;refine HC1.1.mono ?_;rintro e w1 ⟨rfl,ht1,hr1⟩;have H9:=Sh.mk (H1.1.turned ht1 hr1);clear ht1 hr1;obtain ⟨g1,g2⟩:=H9.1.got 4 _ rfl)
 obtain ⟨W2,hW2⟩:∃ W,W=w1.setCell ⟨w.heap.size+1,4,none⟩ (Value.int .i64 (bt s 1)):=⟨_,rfl⟩
 rw [<-hW2]
 have H2:Sh (RE w W2 R w.heap.size (w.heap.size+1) s 2 ⟨bt s 0,⟨#[]⟩,⟨#[]⟩,0,bt s 1⟩):=⟨by rw [hW2];exact H9.1.set 4 _ (by omega) rfl⟩
 clear hW2 H9 g1 g2 HC1 H1
 have q2:2<=s.size:=by omega
 clear q0 q1
 cases e1:qan s 2 with
 | none =>
  have HNO:Sh (progE s=none):=⟨by unfold progE;rw [if_pos q2,e1]⟩
  have HC:=Sh.mk (qhx R s 2 W2 H2.1.1 hs e1)
  clear q2 e1
  go_wp2_with (go_at_call 145;refine HC.1.mono ?_;rintro e w1 ⟨rfl,hb1⟩)
  exact ⟨rfl,Or.inr ⟨HNO.1,rfl,(H2.1.below hb1).2.2.2.1⟩⟩
 | some x1 =>
 obtain ⟨p,a1⟩:=x1
 have HC2:=Sh.mk (qgj R s 2 W2 H2.1.1 hs p a1 e1)
 go_upto_region 5 with (go_at_call 145;refine HC2.1.mono ?_;rintro e w1 ⟨rfl,ht1,hr1⟩;have H9:=Sh.mk (H2.1.turned ht1 hr1);clear ht1 hr1;obtain ⟨g1,g2⟩:=H9.1.got 1 _ rfl)
 obtain ⟨W3,hW3⟩:∃ W,W=w1.setCell ⟨w.heap.size+1,1,none⟩ (Value.string p):=⟨_,rfl⟩
 rw [<-hW3]
 have H3:Sh (RE w W3 R w.heap.size (w.heap.size+1) s a1 ⟨bt s 0,p,⟨#[]⟩,0,bt s 1⟩):=⟨by rw [hW3];exact H9.1.set 1 _ (by omega) rfl⟩
 clear hW3 H9 g1 g2 HC2 H2
 cases e2:qan s (a1:Nat) with
 | none =>
  have HNO:Sh (progE s=none):=⟨by unfold progE;rw [if_pos q2,e1];dsimp only;rw [e2]⟩
  have HC:=Sh.mk (qhx R s a1 W3 H3.1.1 hs e2)
  clear q2 e1 e2
  go_wp2_with (go_at_call 145;refine HC.1.mono ?_;rintro e w1 ⟨rfl,hb1⟩)
  exact ⟨rfl,Or.inr ⟨HNO.1,rfl,(H3.1.below hb1).2.2.2.1⟩⟩
 | some x2 =>
 obtain ⟨t,a2⟩:=x2
 have HC3:=Sh.mk (qgj R s a1 W3 H3.1.1 hs t a2 e2)
 go_upto_region 6 with (go_at_call 145;refine HC3.1.mono ?_;rintro e w1 ⟨rfl,ht1,hr1⟩;have H9:=Sh.mk (H3.1.turned ht1 hr1);clear ht1 hr1;obtain ⟨g1,g2⟩:=H9.1.got 2 _ rfl)
 obtain ⟨W4,hW4⟩:∃ W,W=w1.setCell ⟨w.heap.size+1,2,none⟩ (Value.string t):=⟨_,rfl⟩
 rw [<-hW4]
 have H4:Sh (RE w W4 R w.heap.size (w.heap.size+1) s a2 ⟨bt s 0,p,t,0,bt s 1⟩):=⟨by rw [hW4];exact H9.1.set 2 _ (by omega) rfl⟩
 clear hW4 H9 g1 g2 HC3 H3
 cases e3:qaq s (a2:Nat) with
 | none =>
  have HNO:Sh (progE s=none):=⟨by unfold progE;rw [if_pos q2,e1];dsimp only;rw [e2];dsimp only;rw [e3]⟩
  have HC:=Sh.mk (implNumber_no R s a2 W4 H4.1.1 hs e3)
  clear q2 e1 e2 e3
  go_wp2_with (go_at_call 146;refine HC.1.mono ?_;rintro e w1 ⟨rfl,hb1⟩)
  exact ⟨rfl,Or.inr ⟨HNO.1,rfl,(H4.1.below hb1).2.2.2.1⟩⟩
 | some x3 =>
 obtain ⟨n,a3⟩:=x3
 have HC4:=Sh.mk (implNumber_yes R s a2 W4 H4.1.1 hs n a3 e3)
 go_upto_region 7 with (go_at_call 146;refine HC4.1.mono ?_;rintro e w1 ⟨rfl,ht1,hr1⟩;have H9:=Sh.mk (H4.1.turned ht1 hr1);clear ht1 hr1;obtain ⟨g1,g2⟩:=H9.1.got 3 _ rfl)
 obtain ⟨W5,hW5⟩:∃ W,W=w1.setCell ⟨w.heap.size+1,3,none⟩ (Value.int .i64 (n:Nat)):=⟨_,rfl⟩
 rw [<-hW5]
 have H5:Sh (RE w W5 R w.heap.size (w.heap.size+1) s a3 ⟨bt s 0,p,t,(n:Nat),bt s 1⟩):=⟨by rw [hW5];exact H9.1.set 3 _ (by omega) rfl⟩
 clear hW5 H9 g1 g2 HC4 H4
 have hp:p.size<=1048576:=by have:=qda s 2;rw [e1] at this;exact Nat.le_trans this (by omega)
 have htz:t.size<=1048576:=by have:=qda s (a1:Nat);rw [e2] at this;exact Nat.le_trans this (by omega)
 have HOK:=Sh.mk (fun x=>qku ⟨bt s 0,p,t,(n:Nat),bt s 1⟩ x ⟨hp,htz⟩)
 have HPE:Sh (progE s=if (a3=s.size/\qat ⟨bt s 0,p,t,(n:Nat),bt s 1⟩=true) then some ⟨bt s 0,p,t,(n:Nat),bt s 1⟩ else none):=⟨by unfold progE;rw [if_pos q2,e1];dsimp only;rw [e2];dsimp only;rw [e3]⟩
 clear hp htz e1 e2 e3 q2
 by_cases ce:a3=s.size
 case neg =>
  have HNO:Sh (progE s=none):=⟨by rw [HPE.1,if_neg (fun hc=>ce hc.1)]⟩
  have hd:(a3==s.size)=false:=by simp [ce]
  have hd2:((a3:Int)==(s.size:Int))=false:=by simp;omega
  clear HPE ce HOK
  have HLE:Sh (∀ x,Later W5.drew x->x.cell? ⟨R,0,none⟩=some (.string s)/\x.cell? ⟨R,1,none⟩=some (.int .i64 (a3:Nat))/\x.cell? ⟨w.heap.size+1,0,none⟩=some (.int .i64 (bt s 0))/\x.cell? ⟨w.heap.size+1,1,none⟩=some (.string p)/\x.cell? ⟨w.heap.size+1,2,none⟩=some (.string t)/\x.cell? ⟨w.heap.size+1,3,none⟩=some (.int .i64 (n:Nat))/\x.cell? ⟨w.heap.size+1,4,none⟩=some (.int .i64 (bt s 1))):=⟨fun x hx=>(H5.1.below (Below.trans (Below.drew (Below.refl _ _)) hx)).all⟩
  refine qag (by kernel_rfl) ?_
  refine wpL_v 0 rfl (fun x hx=>by go_simp;try with_reducible rfl) ?_
  try simp only [Act.put,qA,qB,qC]
  refine wpL_v 1 rfl (fun x hx=>by go_simp;try with_reducible rfl) ?_
  try simp only [Act.put,qA,qB,qC]
  refine wpL_v 2 rfl (fun x hx=>by go_simp;try with_reducible rfl) ?_
  try simp only [Act.put,qA,qB,qC]
  refine wpL_v 3 rfl (fun x hx=>by obtain ⟨d0,d1,c0,c1,c2,c3,c4⟩:=HLE.1 x hx;go_simp;try with_reducible rfl) ?_
  try simp only [Act.put,qA,qB,qC]
  refine wpL_v 4 rfl (fun x hx=>by go_simp;try with_reducible rfl) ?_
  try simp only [Act.put,qA,qB,qC]
  refine wpL_v 5 rfl (fun x hx=>by go_simp;try with_reducible rfl) ?_
  try simp only [Act.put,qA,qB,qC]
  refine wpL_v 6 rfl (fun x hx=>by go_simp;try with_reducible rfl) ?_
  try simp only [Act.put,qA,qB,qC]
  refine wpL_v 7 rfl (fun x hx=>by obtain ⟨d0,d1,c0,c1,c2,c3,c4⟩:=HLE.1 x hx;go_simp;try with_reducible rfl) ?_
  try simp only [Act.put,qA,qB,qC]
  refine wpL_v 8 rfl (fun x hx=>by go_simp;try with_reducible rfl) ?_
  try simp only [Act.put,qA,qB,qC]
  refine wpL_v 9 rfl (fun x hx=>by go_simp;try with_reducible rfl) ?_
  try simp only [Act.put,qA,qB,qC]
  refine wpL_v 10 rfl (fun x hx=>by go_simp;try with_reducible rfl) ?_
  try simp only [Act.put,qA,qB,qC]
  refine wpL_s 11 rfl ?_
  try simp only [Act.put,qA,qB,qC]
  refine wpL_s 12 rfl ?_
  try simp only [Act.put,qA,qB,qC]
  refine wpL_v 13 rfl (fun x hx=>by go_simp;try with_reducible rfl) ?_
  try simp only [Act.put,qA,qB,qC]
  refine qhl (i:=14) (f:=147) (args:=#[.bool false]) (chain:=noRec) (by kernel_rfl) rfl (by rfl) ?hy14len ?hc14len
  case hy14len=>(intro x hx;go_simp;try with_reducible rfl)
  intro x hx
  refine (qde x).mono ?_
  rintro e y ⟨rfl,rfl⟩
  exact ⟨rfl,rfl,Or.inr ⟨HNO.1,rfl,(H5.1.below (Below.trans (Below.drew (Below.refl _ _)) hx)).2.2.2.1⟩⟩
 have hd:(a3==s.size)=true:=by simp [ce]
 have hd2:((a3:Int)==(s.size:Int))=true:=by simp;omega
 have CE:=Sh.mk ce
 clear ce
 cases ok:qat ⟨bt s 0,p,t,(n:Nat),bt s 1⟩ with
 | false =>
  have HNO:Sh (progE s=none):=⟨by rw [HPE.1,ok,if_neg (fun hc=>by simp at hc)]⟩
  rw [ok] at HOK
  clear HPE ok
  have HLE:Sh (∀ x,Later W5.drew x->x.cell? ⟨R,0,none⟩=some (.string s)/\x.cell? ⟨R,1,none⟩=some (.int .i64 (a3:Nat))/\x.cell? ⟨w.heap.size+1,0,none⟩=some (.int .i64 (bt s 0))/\x.cell? ⟨w.heap.size+1,1,none⟩=some (.string p)/\x.cell? ⟨w.heap.size+1,2,none⟩=some (.string t)/\x.cell? ⟨w.heap.size+1,3,none⟩=some (.int .i64 (n:Nat))/\x.cell? ⟨w.heap.size+1,4,none⟩=some (.int .i64 (bt s 1))):=⟨fun x hx=>(H5.1.below (Below.trans (Below.drew (Below.refl _ _)) hx)).all⟩
  refine qag (by kernel_rfl) ?_
  refine wpL_v 0 rfl (fun x hx=>by go_simp;try with_reducible rfl) ?_
  try simp only [Act.put,qA,qB,qC]
  refine wpL_v 1 rfl (fun x hx=>by go_simp;try with_reducible rfl) ?_
  try simp only [Act.put,qA,qB,qC]
  refine wpL_v 2 rfl (fun x hx=>by go_simp;try with_reducible rfl) ?_
  try simp only [Act.put,qA,qB,qC]
  refine wpL_v 3 rfl (fun x hx=>by obtain ⟨d0,d1,c0,c1,c2,c3,c4⟩:=HLE.1 x hx;go_simp;try with_reducible rfl) ?_
  try simp only [Act.put,qA,qB,qC]
  refine wpL_v 4 rfl (fun x hx=>by go_simp;try with_reducible rfl) ?_
  try simp only [Act.put,qA,qB,qC]
  refine wpL_v 5 rfl (fun x hx=>by go_simp;try with_reducible rfl) ?_
  try simp only [Act.put,qA,qB,qC]
  refine wpL_v 6 rfl (fun x hx=>by go_simp;try with_reducible rfl) ?_
  try simp only [Act.put,qA,qB,qC]
  refine wpL_v 7 rfl (fun x hx=>by obtain ⟨d0,d1,c0,c1,c2,c3,c4⟩:=HLE.1 x hx;go_simp;try with_reducible rfl) ?_
  try simp only [Act.put,qA,qB,qC]
  refine wpL_v 8 rfl (fun x hx=>by go_simp;try with_reducible rfl) ?_
  try simp only [Act.put,qA,qB,qC]
  refine wpL_v 9 rfl (fun x hx=>by go_simp;try with_reducible rfl) ?_
  try simp only [Act.put,qA,qB,qC]
  refine wpL_v 10 rfl (fun x hx=>by go_simp;try with_reducible rfl) ?_
  try simp only [Act.put,qA,qB,qC]
  refine wpL_v 11 rfl (fun x hx=>by obtain ⟨d0,d1,c0,c1,c2,c3,c4⟩:=HLE.1 x hx;go_simp;try with_reducible rfl) ?_
  try simp only [Act.put,qA,qB,qC]
  refine qaz (i:=12) (v:=.bool false) (f:=66) (args:=#[ev ⟨bt s 0,p,t,(n:Nat),bt s 1⟩]) rfl (by kernel_rfl) (by kernel_rfl) (by kernel_rfl) (fun _ _ _ h=>h) (by rfl) ?hybad12 (fun x _=>HOK.1 x) ?restbad12
  case hybad12=>(intro x hx;obtain ⟨d0,d1,c0,c1,c2,c3,c4⟩:=HLE.1 x hx;go_simp;try with_reducible rfl)
  try simp only [Act.put,qA,qB,qC]
  refine wpL_v 13 rfl (fun x hx=>by go_simp;try with_reducible rfl) ?_
  try simp only [Act.put,qA,qB,qC]
  refine qhl (i:=14) (f:=147) (args:=#[.bool false]) (chain:=noRec) (by kernel_rfl) rfl (by rfl) ?hy14bad ?hc14bad
  case hy14bad=>(intro x hx;go_simp;try with_reducible rfl)
  intro x hx
  refine (qde x).mono ?_
  rintro e y ⟨rfl,rfl⟩
  exact ⟨rfl,rfl,Or.inr ⟨HNO.1,rfl,(H5.1.below (Below.trans (Below.drew (Below.refl _ _)) hx)).2.2.2.1⟩⟩
 | true =>
  have HYES:Sh (progE s=some ⟨bt s 0,p,t,(n:Nat),bt s 1⟩):=⟨by rw [HPE.1,ok,if_pos ⟨CE.1,rfl⟩]⟩
  rw [ok] at HOK
  clear HPE ok
  have HLE:Sh (∀ x,Later W5.drew x->x.cell? ⟨R,0,none⟩=some (.string s)/\x.cell? ⟨R,1,none⟩=some (.int .i64 (a3:Nat))/\x.cell? ⟨w.heap.size+1,0,none⟩=some (.int .i64 (bt s 0))/\x.cell? ⟨w.heap.size+1,1,none⟩=some (.string p)/\x.cell? ⟨w.heap.size+1,2,none⟩=some (.string t)/\x.cell? ⟨w.heap.size+1,3,none⟩=some (.int .i64 (n:Nat))/\x.cell? ⟨w.heap.size+1,4,none⟩=some (.int .i64 (bt s 1))):=⟨fun x hx=>(H5.1.below (Below.trans (Below.drew (Below.refl _ _)) hx)).all⟩
  refine qag (by kernel_rfl) ?_
  refine wpL_v 0 rfl (fun x hx=>by go_simp;try with_reducible rfl) ?_
  try simp only [Act.put,qA,qB,qC]
  refine wpL_v 1 rfl (fun x hx=>by go_simp;try with_reducible rfl) ?_
  try simp only [Act.put,qA,qB,qC]
  refine wpL_v 2 rfl (fun x hx=>by go_simp;try with_reducible rfl) ?_
  try simp only [Act.put,qA,qB,qC]
  refine wpL_v 3 rfl (fun x hx=>by obtain ⟨d0,d1,c0,c1,c2,c3,c4⟩:=HLE.1 x hx;go_simp;try with_reducible rfl) ?_
  try simp only [Act.put,qA,qB,qC]
  refine wpL_v 4 rfl (fun x hx=>by go_simp;try with_reducible rfl) ?_
  try simp only [Act.put,qA,qB,qC]
  refine wpL_v 5 rfl (fun x hx=>by go_simp;try with_reducible rfl) ?_
  try simp only [Act.put,qA,qB,qC]
  refine wpL_v 6 rfl (fun x hx=>by go_simp;try with_reducible rfl) ?_
  try simp only [Act.put,qA,qB,qC]
  refine wpL_v 7 rfl (fun x hx=>by obtain ⟨d0,d1,c0,c1,c2,c3,c4⟩:=HLE.1 x hx;go_simp;try with_reducible rfl) ?_
  try simp only [Act.put,qA,qB,qC]
  refine wpL_v 8 rfl (fun x hx=>by go_simp;try with_reducible rfl) ?_
  try simp only [Act.put,qA,qB,qC]
  refine wpL_v 9 rfl (fun x hx=>by go_simp;try with_reducible rfl) ?_
  try simp only [Act.put,qA,qB,qC]
  refine wpL_v 10 rfl (fun x hx=>by go_simp;try with_reducible rfl) ?_
  try simp only [Act.put,qA,qB,qC]
  refine wpL_v 11 rfl (fun x hx=>by obtain ⟨d0,d1,c0,c1,c2,c3,c4⟩:=HLE.1 x hx;go_simp;try with_reducible rfl) ?_
  try simp only [Act.put,qA,qB,qC]
  refine qaz (i:=12) (v:=.bool true) (f:=66) (args:=#[ev ⟨bt s 0,p,t,(n:Nat),bt s 1⟩]) rfl (by kernel_rfl) (by kernel_rfl) (by kernel_rfl) (fun _ _ _ h=>h) (by rfl) ?hyyes12 (fun x _=>HOK.1 x) ?restyes12
  case hyyes12=>(intro x hx;obtain ⟨d0,d1,c0,c1,c2,c3,c4⟩:=HLE.1 x hx;go_simp;try with_reducible rfl)
  try simp only [Act.put,qA,qB,qC]
  refine wpL_v 13 rfl (fun x hx=>by go_simp;try with_reducible rfl) ?_
  try simp only [Act.put,qA,qB,qC]
  refine qaz (i:=14) (v:=.tuple #[]) (f:=147) (args:=#[.bool true]) rfl (by kernel_rfl) (by kernel_rfl) (by kernel_rfl) (fun _ _ _ h=>h) (by rfl) ?hyyes14 (fun x _=>qqb x) ?restyes14
  case hyyes14=>(intro x hx;obtain ⟨d0,d1,c0,c1,c2,c3,c4⟩:=HLE.1 x hx;go_simp;try with_reducible rfl)
  try simp only [Act.put,qA,qB,qC]
  refine qbg (by kernel_rfl) ?_ _
  intro y hy
  have H6:=Sh.mk (H5.1.below (Below.trans (Below.drew (Below.refl _ _)) hy))
  have g0:=H6.1.all
  obtain ⟨-,-,c0,c1,c2,c3,c4⟩:=g0
  have z0:=H6.1.2.1.2 0 _ rfl
  have z1:=H6.1.2.1.2 1 _ rfl
  have z2:=H6.1.2.1.2 2 _ rfl
  have z3:=H6.1.2.1.2 3 _ rfl
  have z4:=H6.1.2.1.2 4 _ rfl
  obtain ⟨y0,z0⟩:=z0
  obtain ⟨y1,z1⟩:=z1
  obtain ⟨y2,z2⟩:=z2
  obtain ⟨y3,z3⟩:=z3
  obtain ⟨y4,z4⟩:=z4
  dsimp only at c0 c1 c2 c3 c4
  have hAh:=H6.1.2.1.1
  clear hy HLE
  go_wp2_with fail
  have HP:=Sh.mk (H6.1.put ⟨bt s 0,p,t,(n:Nat),bt s 1⟩)
  have HQ:=Sh.mk (qhj H6.1.2.1 ⟨bt s 0,p,t,(n:Nat),bt s 1⟩)
  change bodyPost _ _ _ _ _ (put5 y w.heap.size ⟨bt s 0,p,t,(n:Nat),bt s 1⟩)
  generalize put5 y w.heap.size ⟨bt s 0,p,t,(n:Nat),bt s 1⟩=w8 at HP HQ ⊢
  obtain ⟨k0,-⟩:=HQ.1.2 0 _ rfl
  obtain ⟨k1,-⟩:=HQ.1.2 1 _ rfl
  obtain ⟨k2,-⟩:=HQ.1.2 2 _ rfl
  obtain ⟨k3,-⟩:=HQ.1.2 3 _ rfl
  obtain ⟨k4,-⟩:=HQ.1.2 4 _ rfl
  dsimp only at k0 k1 k2 k3 k4
  refine bodyPost_ret (v:=ev ⟨bt s 0,p,t,(n:Nat),bt s 1⟩) (by simp [results,Tryz.results111,go_sem,k0,k1,k2,k3,k4]) rfl (Or.inl ⟨_,HYES.1,rfl,HP.1⟩)
end Go.Proofs.YtoglebfiobofoaaGreatDoor
/- EdW: . -/
namespace Go.Proofs.YtoglebfiobofoaaGreatDoor
set_option maxRecDepth 100000
set_option maxHeartbeats 16000000
open Go.RowKit
attribute [local go_sem ↓] Go.wp_at_zero Go.wp_at_succ
variable {A B:Nat} {w:World}
theorem catch_panicking (E O:Nat) (X:EM) (b:Bool) (u:TypeId) (pv:Value) (older:List PanicEntry) (w:World) (hE:WCells w E (qah X)) (hO:WCells w O [.bool b]) (hne:E ≠ O) :
  CallsD Tryz.prog 110 #[.pointer (some ⟨E,0,none⟩),.pointer (some ⟨O,0,none⟩)] (.panicking ({ v:=.iface u pv,recovered:=false }::older)) w fun e u' w' =>
   e = .returned (.tuple #[])/\u' = .panicking ({ v:=.iface u pv,recovered:=true }::older)/\w'=(put5 w E zeroE).setCell ⟨O,0,none⟩ (.bool false):=by
 obtain ⟨a0,b0⟩:=hE.2 0 _ rfl
 obtain ⟨a1,b1⟩:=hE.2 1 _ rfl
 obtain ⟨a2,b2⟩:=hE.2 2 _ rfl
 obtain ⟨a3,b3⟩:=hE.2 3 _ rfl
 obtain ⟨a4,b4⟩:=hE.2 4 _ rfl
 have hO2:WCells (put5 w E zeroE) O [.bool b]:=((((hO.other ⟨E,0,none⟩ _ (Ne.symm hne)).other ⟨E,1,none⟩ _ (Ne.symm hne)).other ⟨E,2,none⟩ _ (Ne.symm hne)).other ⟨E,3,none⟩ _ (Ne.symm hne)).other ⟨E,4,none⟩ _ (Ne.symm hne)
 obtain ⟨o0,o1⟩:=hO2.2 0 _ rfl
 clear hE hO hO2
 refine callsD_of_wpS Tryz.func110 rfl fun c₀ cs hu=>?_
 apply wpS_seq
 apply wpS_region
 simp [wpOpsS,go_sem,recoverD,hu,Tryz.ntmps110,Exit.thenS]
 refine wpS_cond (t:=true) (by simp [Act.eval,Array.replicate]) ?_
 simp only [if_true]
 unfold put5 zeroE at o0 o1
 dsimp only at o0 o1
 refine wpS_of_wp ?_
 have e:(#[Value.pointer (some ⟨E,0,none⟩),Value.pointer (some ⟨O,0,none⟩)]++((Array.replicate 3 undef).setIfInBounds 0 (Value.iface u pv)).setIfInBounds 1 (Value.bool true))=#[Value.pointer (some ⟨E,0,none⟩),Value.pointer (some ⟨O,0,none⟩),Value.iface u pv,Value.bool true,undef]:=by simp [Array.replicate]
 rw [e]
 go_wp2_with fail
 simp [bodyPostS,results,Tryz.results110,go_sem]
 rfl
theorem catch_idle (E O:Nat) (w:World) :
  CallsD Tryz.prog 110 #[.pointer (some ⟨E,0,none⟩),.pointer (some ⟨O,0,none⟩)] .returning w fun e u' w'=>e = .returned (.tuple #[])/\u' = .returning/\w'=w:=by
 refine callsD_of_wpS Tryz.func110 rfl fun c₀ cs hu=>?_
 apply wpS_seq
 apply wpS_region
 simp [wpOpsS,go_sem,recoverD,hu,Tryz.ntmps110,Exit.thenS]
 refine wpS_cond (t:=false) (by simp [Act.eval,Array.replicate]) ?_
 simp only [Bool.false_eq_true,if_false]
 refine wpS_of_wp (wp_skip ?_)
 cases c₀
 simp_all [bodyPostS,results,Tryz.results110]
theorem readE_new (w:World) (s:ByteArray) (T T' T'':TypeId) :
  ∀ W,W=((w.alloc (.cells #[.int .i64 0,.string ⟨#[]⟩,.string ⟨#[]⟩,.int .i64 0,.int .i64 0] T)).alloc (.cells #[.bool false] T')).alloc (.cells #[.string s,.int .i64 0] T'') ->
   WCells W w.heap.size (qah zeroE)/\WCells W (w.heap.size+1) [.bool false]/\RdC W (w.heap.size+1+1) s 0/\Below w.heap.size w W:=by
 rintro W rfl
 have h1:=qad w #[.int .i64 0,.string ⟨#[]⟩,.string ⟨#[]⟩,.int .i64 0,.int .i64 0] T
 have h2:=qad (w.alloc (.cells #[.int .i64 0,.string ⟨#[]⟩,.string ⟨#[]⟩,.int .i64 0,.int .i64 0] T)) #[.bool false] T'
 have h3:=qad ((w.alloc (.cells #[.int .i64 0,.string ⟨#[]⟩,.string ⟨#[]⟩,.int .i64 0,.int .i64 0] T)).alloc (.cells #[.bool false] T')) #[.string s,.int .i64 0] T''
 have e1:(w.alloc (.cells #[.int .i64 0,.string ⟨#[]⟩,.string ⟨#[]⟩,.int .i64 0,.int .i64 0] T)).heap.size=w.heap.size+1:=by simp
 have e2:((w.alloc (.cells #[.int .i64 0,.string ⟨#[]⟩,.string ⟨#[]⟩,.int .i64 0,.int .i64 0] T)).alloc (.cells #[.bool false] T')).heap.size=w.heap.size+1+1:=by simp
 rw [e1] at h2
 rw [e2] at h3
 exact ⟨(h1.alloc _).alloc _,h2.alloc _,h3,((((Below.refl _ _).alloc (Nat.le_refl _) _).alloc (by simp) _).alloc (by simp;omega) _)⟩
theorem qhk {L:List Value} (h:WCells w B L) (hne:B ≠ A) (Z:EM):WCells (put5 w A Z) B L:=
 ((((h.other ⟨A,0,none⟩ _ hne).other ⟨A,1,none⟩ _ hne).other ⟨A,2,none⟩ _ hne).other ⟨A,3,none⟩ _ hne).other ⟨A,4,none⟩ _ hne
theorem qkw {w w':World} (h:Below B w w') (hA:B<=A) (Z:EM):Below B w (put5 w' A Z):=
 ((((h.setCell (p:=⟨A,0,none⟩) hA _).setCell (p:=⟨A,1,none⟩) hA _).setCell (p:=⟨A,2,none⟩) hA _).setCell (p:=⟨A,3,none⟩) hA _).setCell (p:=⟨A,4,none⟩) hA _
theorem implReadEdit (s:ByteArray) (w:World) (hs:s.size<=1048576):Calls Tryz.prog 76 #[.string s] w fun r w'=>r = .returned (.tuple #[ev (readE s).1,.bool (readE s).2])/\Below w.heap.size w w':=by
 have hmf:∀ (fn:Fn) (first cap:Array Value) (w:World),(Instr.makeFunc fn first cap).run Tryz.prog w = .ok (.func fn first cap) w:=fun _ _ _ _=>rfl
 have HRE:=Sh.mk (readE_prog s)
 go_enter_defers Tryz.func76,Tryz.ntmps76
 go_upto_region 3 with fail
 obtain ⟨W0,hW0⟩:∃ W0,W0=((w.alloc (.cells #[.int .i64 0,.string ⟨#[]⟩,.string ⟨#[]⟩,.int .i64 0,.int .i64 0] 33)).alloc (.cells #[.bool false] 4)).alloc (.cells #[.string s,.int .i64 0] 153):=⟨_,rfl⟩
 have HN:=Sh.mk (readE_new w s _ _ _ W0 hW0)
 rw [<-hW0]
 clear hW0
 have HE:=Sh.mk (implEdit (w.heap.size+1+1) s W0 HN.1.2.2.1 hs)
 unfold qsu at HE
 cases hp:progE s with
 | none =>
  rw [hp] at HRE HE
  clear hp
  go_wp2_with (go_at_call 111;refine HE.1.mono ?_;rintro e w1 (⟨X,hx,he,ht⟩ | ⟨-,rfl,ht⟩);(cases hx))
  have hE:=HN.1.1.turned ht (by omega)
  have hO:=HN.1.2.1.turned ht (by omega)
  refine leaves_cons (f:=110) (args:=#[.pointer (some ⟨w.heap.size,0,none⟩),.pointer (some ⟨w.heap.size+1,0,none⟩)]) (by simp) (by simp [go_sem]) ?_
  refine (catch_panicking w.heap.size (w.heap.size+1) zeroE false _ _ [] _ hE hO (by omega)).mono ?_
  rintro e u' w'' ⟨rfl,rfl,rfl⟩
  have kE:=(qhj hE zeroE).other ⟨w.heap.size+1,0,none⟩ (.bool false) (by show _ ≠ w.heap.size+1;omega)
  have kO:=(qhk hO (by omega:w.heap.size+1 ≠ w.heap.size) zeroE).set 0 (.bool false) (by simp)
  have kB:=(qkw (HN.1.2.2.2.trans (ht.below (by omega) HN.1.2.2.2.size)) (Nat.le_refl _) zeroE).setCell (p:=⟨w.heap.size+1,0,none⟩) (Nat.le_succ _) (.bool false)
  generalize (put5 w1 w.heap.size zeroE).setCell ⟨w.heap.size+1,0,none⟩ (.bool false)=w9 at kE kO kB ⊢
  obtain ⟨k0,-⟩:=kE.2 0 _ rfl
  obtain ⟨k1,-⟩:=kE.2 1 _ rfl
  obtain ⟨k2,-⟩:=kE.2 2 _ rfl
  obtain ⟨k3,-⟩:=kE.2 3 _ rfl
  obtain ⟨k4,-⟩:=kE.2 4 _ rfl
  obtain ⟨k5,-⟩:=kO.2 0 _ rfl
  have hr:readE s=(zeroE,false):=HRE.1
  rw [hr]
  simp [Leaves,settle,results,Tryz.results76,go_sem,k0,k1,k2,k3,k4,k5,kB]
 | some X =>
  rw [hp] at HRE HE
  clear hp
  obtain ⟨kind,path,dest,num,who⟩:=X
  go_wp2_with (go_at_call 111;refine HE.1.mono ?_;rintro e w1 (⟨Y,hx,rfl,ht⟩ | ⟨hx,-⟩);rotate_left;(cases hx);cases hx;have hE:=Sh.mk (HN.1.1.turned ht (by omega));have hO:=Sh.mk (HN.1.2.1.turned ht (by omega));have hT:=Sh.mk ht;clear ht;obtain ⟨a0,b0⟩:=hE.1.2 0 _ rfl;obtain ⟨a1,b1⟩:=hE.1.2 1 _ rfl;obtain ⟨a2,b2⟩:=hE.1.2 2 _ rfl;obtain ⟨a3,b3⟩:=hE.1.2 3 _ rfl;obtain ⟨a4,b4⟩:=hE.1.2 4 _ rfl;have hO2:=qhk hO.1 (by omega:w.heap.size+1 ≠ w.heap.size) ⟨kind,path,dest,num,who⟩;obtain ⟨a5,b5⟩:=hO2.2 0 _ rfl;unfold put5 at a5 b5;dsimp only at a5 b5;clear hO2)
  refine leaves_cons (f:=110) (args:=#[.pointer (some ⟨w.heap.size,0,none⟩),.pointer (some ⟨w.heap.size+1,0,none⟩)]) (by simp) (by simp [go_sem]) ?_
  refine (catch_idle w.heap.size (w.heap.size+1) _).mono ?_
  rintro e u' w'' ⟨rfl,rfl,rfl⟩
  have kE:=(qhj hE.1 ⟨kind,path,dest,num,who⟩).other ⟨w.heap.size+1,0,none⟩ (.bool true) (by show _ ≠ w.heap.size+1;omega)
  have kO:=(qhk hO.1 (by omega:w.heap.size+1 ≠ w.heap.size) ⟨kind,path,dest,num,who⟩).set 0 (.bool true) (by simp)
  have kB:=(qkw (HN.1.2.2.2.trans (hT.1.below (by omega) HN.1.2.2.2.size)) (Nat.le_refl _) ⟨kind,path,dest,num,who⟩).setCell (p:=⟨w.heap.size+1,0,none⟩) (Nat.le_succ _) (.bool true)
  unfold put5 at kE kO kB
  dsimp only at kE kO kB
  generalize (World.setCell _ ⟨w.heap.size+1,0,none⟩ (.bool true))=w9 at kE kO kB ⊢
  obtain ⟨k0,-⟩:=kE.2 0 _ rfl
  obtain ⟨k1,-⟩:=kE.2 1 _ rfl
  obtain ⟨k2,-⟩:=kE.2 2 _ rfl
  obtain ⟨k3,-⟩:=kE.2 3 _ rfl
  obtain ⟨k4,-⟩:=kE.2 4 _ rfl
  obtain ⟨k5,-⟩:=kO.2 0 _ rfl
  have hr:readE s=(⟨kind,path,dest,num,who⟩,true):=HRE.1
  rw [hr]
  simp [Leaves,settle,results,Tryz.results76,go_sem,k0,k1,k2,k3,k4,k5,kB]
end Go.Proofs.YtoglebfiobofoaaGreatDoor
/- ApR: . -/
namespace Go.Proofs.YtoglebfiobofoaaGreatDoor
set_option maxRecDepth 100000
set_option maxHeartbeats 16000000
variable {e:EM} {g:Int} {L ns:List NM} {n:NM} {k:Nat} {T:TM}
theorem qij {α:Type} (ns:List NM) (k i:Nat) (x:NM) (f:NM->α) (h:f x=f (ns.getD k default)):f ((ns.set k x).getD i default)=f (ns.getD i default):=by
 by_cases e:i=k
 ·subst e
  by_cases hi:i<ns.length
  ·have:(ns.set i x).getD i default=x:=by simp [List.getD_eq_getElem?_getD,hi]
   rw [this,h]
  ·rw [List.set_eq_of_length_le (by omega)]
 ·have:(ns.set k x)[i]?=ns[i]?:=by rw [List.getElem?_set];simp [Ne.symm e]
  rw [List.getD_eq_getElem?_getD,List.getD_eq_getElem?_getD,this]
theorem qpr (ns:List NM) (k:Nat) (x:NM) (h:x.id=(ns.getD k default).id) (id:Int):(ns.set k x).findIdx? (fun n=>n.id==id)=ns.findIdx? (fun n=>n.id==id):=by
 have hm:(ns.set k x).map NM.id=ns.map NM.id:=by
  apply List.ext_getElem?
  intro i
  rw [List.getElem?_map,List.getElem?_map,List.getElem?_set]
  split
  ·rename_i e
   subst e
   by_cases hk:k<ns.length
   ·simp [hk,h,List.getD_eq_getElem?_getD]
   ·simp [hk]
  ·rfl
 have e1:∀ l:List NM,l.findIdx? (fun n=>n.id==id)=(l.map NM.id).findIdx? (· == id):=fun l=>by rw [List.findIdx?_map];rfl
 rw [e1,e1,hm]
theorem set_at (ns:List NM) (k:Nat) (x:NM) (h:x.id=(ns.getD k default).id) (id:Int):atI (ns.set k x) id=atI ns id:=by
 unfold atI
 rw [qpr ns k x h id]
theorem set_climbs (ns:List NM) (k:Nat) (x:NM) (h:x.id=(ns.getD k default).id) (hp:x.parent=(ns.getD k default).parent) (f:Nat) (id:Int):climbs (ns.set k x) f id=climbs ns f id:=by
 induction f generalizing id with
 | zero=>rfl
 | succ f ih =>
  unfold climbs
  rw [qpr ns k x h id]
  cases ns.findIdx? (fun n=>n.id==id) with
  | none=>rfl
  | some j =>
   dsimp only
   rw [qij ns k j x NM.parent hp,ih]
theorem qik {x:NM} (h:qae T=true) (h1:x.id=(ndAt T k).id) (h2:x.parent=(ndAt T k).parent) (h3:x.name=(ndAt T k).name) (h4:x.dir=(ndAt T k).dir)
  (h5:(if x.dir then dirOk x else fileOk x)=true) (h6:k=0->x.schema ≠ 0):qae (setN T k x)=true:=by
 unfold ndAt at h1 h2 h3 h4
 unfold qae at h ⊢
 simp only [Bool.and_eq_true,decide_eq_true_eq,List.all_eq_true,List.mem_range] at h ⊢
 obtain ⟨⟨⟨a1,a2⟩,a3⟩,a4⟩:=h
 have hl:(setN T k x).nodes.length=T.nodes.length:=by simp [setN]
 rw [hl]
 refine ⟨⟨⟨a1,a2⟩,a3⟩,fun i hi=>?_⟩
 have hn:=a4 i hi
 unfold nodeOk at hn ⊢
 show (decide (((T.nodes.set k x).getD i default).id<T.next)&&(if i=0 then qbm ((T.nodes.set k x).getD i default) else decide (((T.nodes.set k x).getD (i - 1) default).id<((T.nodes.set k x).getD i default).id)) &&
  (if ((T.nodes.set k x).getD i default).dir then dirOk ((T.nodes.set k x).getD i default) else fileOk ((T.nodes.set k x).getD i default)) &&
  (decide (i=0)||(nameB ((T.nodes.set k x).getD i default).name&&decide (0<=atI (T.nodes.set k x) ((T.nodes.set k x).getD i default).parent)&&((T.nodes.set k x).getD (atI (T.nodes.set k x) ((T.nodes.set k x).getD i default).parent).toNat default).dir &&
   (List.range i).all (fun j=>! ((((T.nodes.set k x).getD j default).parent==((T.nodes.set k x).getD i default).parent)&&decide (((T.nodes.set k x).getD j default).name=((T.nodes.set k x).getD i default).name)))&&climbs (T.nodes.set k x) 4 ((T.nodes.set k x).getD i default).id)))=true
 have g1:∀ j,((T.nodes.set k x).getD j default).id=(T.nodes.getD j default).id:=fun j=>qij T.nodes k j x NM.id h1
 have g2:∀ j,((T.nodes.set k x).getD j default).parent=(T.nodes.getD j default).parent:=fun j=>qij T.nodes k j x NM.parent h2
 have g3:∀ j,((T.nodes.set k x).getD j default).name=(T.nodes.getD j default).name:=fun j=>qij T.nodes k j x NM.name h3
 have g4:∀ j,((T.nodes.set k x).getD j default).dir=(T.nodes.getD j default).dir:=fun j=>qij T.nodes k j x NM.dir h4
 simp only [g1,g2,g3,g4,set_at T.nodes k x h1,set_climbs T.nodes k x h1 h2]
 by_cases e:i=k
 ·have hx:(T.nodes.set k x).getD i default=x:=by rw [e];simp [List.getD_eq_getElem?_getD,e ▸ hi]
  rw [hx]
  simp only [Bool.and_eq_true] at hn ⊢
  obtain ⟨⟨⟨b1,b2⟩,b3⟩,b4⟩:=hn
  refine ⟨⟨⟨b1,?_⟩,?_⟩,b4⟩
  ·by_cases e0:i=0
   ·rw [if_pos e0] at b2 ⊢
    unfold qbm at b2 ⊢
    simp only [Bool.and_eq_true] at b2 ⊢
    rw [e] at b2
    rw [h1,h2,h3,h4]
    exact ⟨b2.1,by simpa using h6 (e ▸ e0)⟩
   ·rw [if_neg e0] at b2 ⊢
    exact b2
  ·rw [e,<-h4]
   exact h5
 ·have hx:(T.nodes.set k x).getD i default=T.nodes.getD i default:=by
   rw [List.getD_eq_getElem?_getD,List.getD_eq_getElem?_getD,List.getElem?_set]
   simp [Ne.symm e]
  rw [hx]
  exact hn
theorem ok_at (h:qae T=true) (hk:k<T.nodes.length):(if (ndAt T k).dir then dirOk (ndAt T k) else fileOk (ndAt T k))=true/\(k=0->qbm (ndAt T k)=true):=by
 unfold qae at h
 simp only [Bool.and_eq_true,decide_eq_true_eq,List.all_eq_true,List.mem_range] at h
 have hn:=h.2 k hk
 unfold nodeOk at hn
 simp only [Bool.and_eq_true] at hn
 refine ⟨hn.1.2,fun e=>?_⟩
 have:=hn.1.1.2
 rw [if_pos e] at this
 exact this
theorem qrj (h:qae T=true) (hk:k<T.nodes.length) (he:(e.kind=5/\1<=e.num/\e.num<=3)\/(e.kind=6/\0<=e.num/\e.num<=1000)):qae (setX T e k).1=true:=by
 obtain ⟨o1,o2⟩:=ok_at h hk
 unfold setX
 split
 ·exact h
 rename_i hd
 have hd':(ndAt T k).dir=true:=by simpa using hd
 rw [if_pos hd'] at o1
 unfold dirOk at o1
 simp only [Bool.and_eq_true,inI_iff] at o1
 obtain ⟨⟨⟨⟨b1,b2⟩,b3⟩,b4⟩,b5⟩:=o1
 split
 ·rename_i e5
  have hn:1<=e.num/\e.num<=3:=by rcases he with ⟨_,q⟩ | ⟨q,_⟩ <;> omega
  refine qik h rfl rfl rfl rfl ?_ (fun _=>by show e.num ≠ 0;omega)
  rw [if_pos hd']
  unfold dirOk
  simp only [Bool.and_eq_true,inI_iff]
  exact ⟨⟨⟨⟨⟨by omega,by omega⟩,b2⟩,b3⟩,b4⟩,b5⟩
 rename_i e5
 split
 ·exact h
 ·have hn:0<=e.num/\e.num<=1000:=by rcases he with ⟨q,_⟩ | ⟨_,q⟩ <;> omega
  refine qik h rfl rfl rfl rfl ?_ (fun e0=>?_)
  ·rw [if_pos hd']
   unfold dirOk
   simp only [Bool.and_eq_true,inI_iff]
   exact ⟨⟨⟨⟨b1,hn⟩,b3⟩,b4⟩,b5⟩
  ·have:=o2 e0
   unfold qbm at this
   simp only [Bool.and_eq_true] at this
   simpa using this.2
theorem newP_sum (g:Int) (ls:List Int):sumP (newP g ls)=ls.sum:=by
 induction ls generalizing g with
 | nil=>rfl
 | cons l ls ih=>simp [newP,sumP,ih]
theorem newP_ok {s g:Int} {ls:List Int} (hl:∀ l ∈ ls,1<=l/\l<=(qbh s:Nat)) (h1:1<=g) (h2:g+ls.length<=100001):∀ p ∈ newP g ls,qay s p=true:=by
 induction ls generalizing g with
 | nil=>simp [newP]
 | cons l ls ih =>
  intro p hp
  simp only [List.length_cons] at h2
  push_cast at h2
  rcases List.mem_cons.1 hp with rfl | hp
  ·unfold qay
   rw [Bool.and_eq_true,inI_iff,inI_iff]
   exact ⟨⟨h1,by dsimp only;omega⟩,hl l (by simp)⟩
  ·exact ih (fun l' h'=>hl l' (by simp [h'])) (by omega) (by omega) p hp
theorem spanL_sum {S n:Nat} (hS:0<S) (h1:1<=n):(spanL S n).sum=(n:Int)/\∀ l ∈ spanL S n,1<=l/\l<=(S:Int):=by
 have hq:(n - 1) / S*S<=n - 1:=Nat.div_mul_le_self _ _
 have hr:n - 1<(n - 1) / S*S+S:=by have:=Nat.div_add_mod (n - 1) S;have:=Nat.mod_lt (n - 1) hS;have:=Nat.mul_comm S ((n - 1) / S);omega
 constructor
 ·unfold spanL
  rw [List.sum_append,List.sum_replicate_int]
  simp only [List.sum_cons,List.sum_nil]
  have:(((n - 1) / S:Nat):Int)*(S:Int)=(((n - 1) / S*S:Nat):Int):=by push_cast;rfl
  omega
 ·intro l hl
  unfold spanL at hl
  rcases List.mem_append.1 hl with hl | hl
  ·rw [List.eq_of_mem_replicate hl];omega
  ·rw [List.mem_singleton.1 hl];omega
theorem writeX_ok (h:qae T=true) (hk:k<T.nodes.length) (h7:e.kind ≠ 9->e.kind ≠ 8->1<=e.num/\e.num<=200) (h9:e.kind=9->0<=e.who/\e.who<=9) (g1:1<=g) (g2:g<=99000):qae (qbr T e k g).1=true:=by
 obtain ⟨o1,-⟩:=ok_at h hk
 unfold qbr
 split
 ·exact h
 rename_i hd
 rw [if_neg hd] at o1
 unfold fileOk at o1
 simp only [Bool.and_eq_true,inI_iff,decide_eq_true_eq,List.all_eq_true,beq_iff_eq] at o1
 obtain ⟨⟨⟨⟨⟨⟨b1,b2⟩,b3⟩,b4⟩,b5⟩,b6⟩,b7⟩:=o1
 split
 ·exact h
 split
 ·rename_i e9
  refine qik h rfl rfl rfl rfl ?_ (fun _=>by show (ndAt T k).schema ≠ 0;omega)
  rw [if_neg hd]
  unfold fileOk
  simp only [Bool.and_eq_true,inI_iff,decide_eq_true_eq,List.all_eq_true,beq_iff_eq]
  exact ⟨⟨⟨⟨⟨⟨b1,b2⟩,b3⟩,h9 e9⟩,b5⟩,b6⟩,b7⟩
 rename_i e9
 split
 ·refine qik h rfl rfl rfl rfl ?_ (fun _=>by show (ndAt T k).schema ≠ 0;omega)
  rw [if_neg hd]
  unfold fileOk
  simp only [Bool.and_eq_true,inI_iff,decide_eq_true_eq,List.all_eq_true,beq_iff_eq]
  exact ⟨⟨⟨⟨⟨⟨b1,b2⟩,b3⟩,by omega⟩,b5⟩,b6⟩,b7⟩
 rename_i e8
 split
 ·exact h
 rename_i hr
 split
 ·exact h
 rename_i h40
 have hn:=h7 e9 e8
 have hs:schOk (ndAt T k).schema=true:=by
  unfold schOk
  simp only [Bool.or_eq_true,decide_eq_true_eq]
  omega
 have hsp:qaw (ndAt T k).schema e.num=spanL (qbh (ndAt T k).schema) e.num.toNat:=if_pos ⟨hs,by omega,by omega⟩
 have hS:=qjx hs
 obtain ⟨c1,c2⟩:=spanL_sum (S:=qbh (ndAt T k).schema) (n:=e.num.toNat) (by omega) (by omega)
 rw [<-hsp] at c1 c2
 refine qik h rfl rfl rfl rfl ?_ (fun _=>by show (ndAt T k).schema ≠ 0;omega)
 rw [if_neg hd]
 unfold fileOk
 simp only [Bool.and_eq_true,inI_iff,decide_eq_true_eq,List.all_eq_true,beq_iff_eq]
 have hsum:sumP ((ndAt T k).pieces++newP g (qaw (ndAt T k).schema e.num))=(ndAt T k).len+e.num:=by
  rw [qkd,newP_sum,c1,b6]
  omega
 refine ⟨⟨⟨⟨⟨⟨b1,b2⟩,?_⟩,b4⟩,?_⟩,hsum⟩,?_⟩
 ·rw [List.length_append,qeh];omega
 ·intro p hp
  rcases List.mem_append.1 hp with hp | hp
  ·exact b5 p hp
  ·exact newP_ok c2 g1 (by omega) p hp
 ·rw [hsum];omega
theorem qpd {i:Nat} (hi:i<ns.length):ns.getD i default=ns[i]:=by simp [List.getD_eq_getElem?_getD,hi]
abbrev Up2 (ns:List NM):Prop:=ns.Pairwise (fun a b=>a.id<b.id)
theorem Up2.one (h:Up2 ns) {a b:NM} (ha:a ∈ ns) (hb:b ∈ ns) (e:a.id=b.id):a=b:=by
 obtain ⟨i,hi,rfl⟩:=List.getElem_of_mem ha
 obtain ⟨j,hj,rfl⟩:=List.getElem_of_mem hb
 have hp:=List.pairwise_iff_getElem.1 h
 rcases Nat.lt_trichotomy i j with q | q | q
 ·have:=hp i j hi hj q;omega
 ·subst q;rfl
 ·have:=hp j i hj hi q;omega
theorem Up2.find (h:Up2 ns) {p:NM} (hp:p ∈ ns):∃ k,ns.findIdx? (fun n=>n.id==p.id)=some k/\ns.getD k default=p:=by
 cases e:ns.findIdx? (fun n=>n.id==p.id) with
 | none =>
  have:=List.findIdx?_eq_none_iff.1 e p hp
  simp at this
 | some k =>
  obtain ⟨hk,h1,_⟩:=List.findIdx?_eq_some_iff_getElem.1 e
  refine ⟨k,rfl,?_⟩
  rw [qpd hk]
  exact h.one (List.getElem_mem hk) hp (by simpa using h1)
theorem Up2.at (h:Up2 ns) {p:NM} (hp:p ∈ ns):0<=atI ns p.id/\ns.getD (atI ns p.id).toNat default=p:=by
 obtain ⟨k,e1,e2⟩:=h.find hp
 unfold atI
 rw [e1]
 exact ⟨by simp,by simpa using e2⟩
theorem Up2.climbs (h:Up2 ns) {p:NM} (hp:p ∈ ns) (f:Nat):climbs ns (f+1) p.id=if p.parent=1 then true else climbs ns f p.parent:=by
 obtain ⟨k,e1,e2⟩:=h.find hp
 conv=>lhs;unfold Go.Proofs.YtoglebfiobofoaaGreatDoor.climbs
 rw [e1]
 dsimp only
 rw [e2]
theorem Up2.below (h:Up2 ns) {p:NM} (hp:p ∈ ns) (f:Nat) (top:Int):qal ns (f+1) p.id top=if p.id=top then true else qal ns f p.parent top:=by
 obtain ⟨k,e1,e2⟩:=h.find hp
 conv=>lhs;unfold qal
 rw [e1]
 dsimp only
 rw [e2]
theorem qkj {f:Nat} {c:Int} (h:climbs ns f c=true):∃ p ∈ ns,p.id=c:=by
 cases f with
 | zero=>simp [climbs] at h
 | succ f =>
  unfold climbs at h
  cases e:ns.findIdx? (fun n=>n.id==c) with
  | none=>rw [e] at h;simp at h
  | some k =>
   obtain ⟨hk,h1,_⟩:=List.findIdx?_eq_some_iff_getElem.1 e
   exact ⟨ns[k],List.getElem_mem hk,by simpa using h1⟩
structure TP (T:TM):Prop where
 len:T.nodes.length<=14
 nx:T.next<=100000
 up:Up2 T.nodes
 lt:∀ n ∈ T.nodes,n.id<T.next
 first:∃ r rest,T.nodes=r::rest/\qbm r=true
 kind:∀ n ∈ T.nodes,(if n.dir then dirOk n else fileOk n)=true
 rest:∀ n ∈ T.nodes,n.id ≠ 1->nameB n.name=true/\(∃ p ∈ T.nodes,p.id=n.parent/\p.dir=true)/\climbs T.nodes 4 n.id=true
 uniq:T.nodes.Pairwise (fun a b=>¬ (a.parent=b.parent/\a.name=b.name))
theorem qbe {r:NM} (h:qbm r=true):r.id=1/\r.parent=0:=by
 unfold qbm at h
 simp only [Bool.and_eq_true,beq_iff_eq] at h
 exact ⟨h.1.1.1.1,h.1.1.1.2⟩
theorem up_of (h:∀ i,0<i->∀ hi:i<ns.length,ns[i - 1].id<ns[i].id):Up2 ns:=by
 refine List.pairwise_iff_getElem.2 fun i j hi hj hij=>?_
 induction j with
 | zero=>omega
 | succ j ih =>
  have h1:=h (j+1) (by omega) hj
  simp only [Nat.add_sub_cancel] at h1
  rcases Nat.eq_or_lt_of_le (Nat.le_of_lt_succ hij) with e | e
  ·subst e;exact h1
  ·have:=ih (by omega) e;omega
theorem TP.of (h:qae T=true):TP T:=by
 obtain ⟨l1,l2,l3⟩:=qbf h
 have hg:∀ i (hi:i<T.nodes.length),T.nodes.getD i default=T.nodes[i]:=fun i hi=>qpd hi
 have hn:∀ i (hi:i<T.nodes.length),T.nodes[i].id<T.next/\(if i=0 then qbm T.nodes[i]=true else T.nodes[i - 1].id<T.nodes[i].id)/\(if T.nodes[i].dir then dirOk T.nodes[i] else fileOk T.nodes[i])=true/\(i ≠ 0->nameB T.nodes[i].name=true/\0<=atI T.nodes T.nodes[i].parent/\(T.nodes.getD (atI T.nodes T.nodes[i].parent).toNat default).dir=true/\(∀ j (hj:j<i),¬ (T.nodes[j].parent=T.nodes[i].parent/\T.nodes[j].name=T.nodes[i].name))/\climbs T.nodes 4 T.nodes[i].id=true):=by
  intro i hi
  have h1:=qii h i hi
  unfold nodeOk at h1
  rw [hg i hi,hg (i - 1) (by omega)] at h1
  simp only [Bool.and_eq_true,Bool.or_eq_true,decide_eq_true_eq,List.all_eq_true,List.mem_range] at h1
  obtain ⟨⟨⟨b1,b2⟩,b3⟩,b4⟩:=h1
  refine ⟨b1,?_,b3,fun h0=>?_⟩
  ·split
   ·rename_i e;rw [if_pos e] at b2;exact b2
   ·rename_i e;rw [if_neg e] at b2;simpa using b2
  ·rcases b4 with b4 | b4
   ·exact absurd b4 h0
   ·obtain ⟨⟨⟨⟨c1,c2⟩,c3⟩,c4⟩,c5⟩:=b4
    refine ⟨c1,c2,c3,fun j hj=>?_,c5⟩
    have:=c4 j hj
    rw [hg j (by omega)] at this
    rintro ⟨x,y⟩
    simp [x,y] at this
 have up:Up2 T.nodes:=up_of fun i h0 hi=>by have:=(hn i hi).2.1;rw [if_neg (by omega)] at this;exact this
 have hr:=(hn 0 (by omega)).2.1
 rw [if_pos rfl] at hr
 refine ⟨l2,l3,up,?_,?_,?_,?_,?_⟩
 ·intro n hm
  obtain ⟨i,hi,rfl⟩:=List.getElem_of_mem hm
  exact (hn i hi).1
 ·cases e:T.nodes with
  | nil=>rw [e] at l1;simp at l1
  | cons r rest=>exact ⟨r,rest,rfl,by simpa [e] using hr⟩
 ·intro n hm
  obtain ⟨i,hi,rfl⟩:=List.getElem_of_mem hm
  exact (hn i hi).2.2.1
 ·intro n hm h1
  obtain ⟨i,hi,rfl⟩:=List.getElem_of_mem hm
  have h0:i ≠ 0:=fun e=>by subst e;exact h1 (qbe hr).1
  obtain ⟨c1,c2,c3,_,c5⟩:=(hn i hi).2.2.2 h0
  refine ⟨c1,?_,c5⟩
  rcases qfg T.nodes T.nodes[i].parent with ⟨e,_⟩ | ⟨k,hk,e1,e2⟩
  ·rw [e] at c2;omega
  ·rw [e1] at c3
   simp only [Int.toNat_natCast] at c3
   rw [hg k hk] at c3
   exact ⟨_,List.getElem_mem hk,e2,c3⟩
 ·refine List.pairwise_iff_getElem.2 fun i j hi hj hij=>?_
  exact ((hn j hj).2.2.2 (by omega)).2.2.2.1 i hij
theorem TP.ok (h:TP T):qae T=true:=by
 obtain ⟨r,rest,er,hr⟩:=h.first
 have l1:1<=T.nodes.length:=by rw [er];simp
 have hg:∀ i (hi:i<T.nodes.length),T.nodes.getD i default=T.nodes[i]:=fun i hi=>qpd hi
 have h0:T.nodes[0]=r:=by simp [er]
 have hup:=List.pairwise_iff_getElem.1 h.up
 have huq:=List.pairwise_iff_getElem.1 h.uniq
 unfold qae
 simp only [Bool.and_eq_true,decide_eq_true_eq,List.all_eq_true,List.mem_range]
 refine ⟨⟨⟨l1,h.len⟩,h.nx⟩,fun i hi=>?_⟩
 unfold nodeOk
 rw [hg i hi,hg (i - 1) (by omega)]
 have hm:T.nodes[i] ∈ T.nodes:=List.getElem_mem hi
 simp only [Bool.and_eq_true,Bool.or_eq_true,decide_eq_true_eq,List.all_eq_true,List.mem_range]
 refine ⟨⟨⟨h.lt _ hm,?_⟩,h.kind _ hm⟩,?_⟩
 ·split
  ·rename_i e;subst e;rw [h0];exact hr
  ·rename_i e;simpa using hup (i - 1) i (by omega) hi (by omega)
 ·by_cases e:i=0
  ·exact .inl e
  ·right
   have hid:T.nodes[i].id ≠ 1:=by
    have:=hup 0 i (by omega) hi (by omega)
    rw [h0,(qbe hr).1] at this
    omega
   obtain ⟨c1,⟨p,hp,e1,e2⟩,c3⟩:=h.rest _ hm hid
   obtain ⟨a1,a2⟩:=h.up.at hp
   rw [e1] at a1 a2
   refine ⟨⟨⟨⟨c1,a1⟩,by rw [a2];exact e2⟩,fun j hj=>?_⟩,c3⟩
   have:=huq j i (by omega) hi hj
   rw [hg j (by omega)]
   by_cases x:T.nodes[j].parent=T.nodes[i].parent
   ·by_cases y:T.nodes[j].name=T.nodes[i].name
    ·exact absurd ⟨x,y⟩ this
    ·simp [y]
   ·simp [x]
theorem TP.pos (h:TP T) {n:NM} (hn:n ∈ T.nodes):1<=n.id:=by
 obtain ⟨r,rest,er,hr⟩:=h.first
 have hu:=h.up
 rw [er] at hn hu
 rcases List.mem_cons.1 hn with rfl | hm
 ·have:=(qbe hr).1;omega
 ·have:=(List.pairwise_cons.1 hu).1 n hm;have:=(qbe hr).1;omega
theorem TP.root (h:TP T) {top:Int} (h0:top ≠ 0) (h1:top ≠ 1) (m:Nat):qal T.nodes m 1 top=false:=by
 obtain ⟨r,rest,er,hr⟩:=h.first
 have hm:r ∈ T.nodes:=by rw [er];simp
 obtain ⟨q1,q2⟩:=qbe hr
 cases m with
 | zero=>rfl
 | succ m =>
  have:=h.up.below hm m top
  rw [q1,q2] at this
  rw [this,if_neg (Ne.symm h1)]
  cases m with
  | zero=>rfl
  | succ m =>
   refine qep (Ne.symm h0) ?_
   rw [List.findIdx?_eq_none_iff]
   intro n hn
   have:=h.pos hn
   simp
   omega
theorem TP.steps (h:TP T) {top:Int} (h0:top ≠ 0) (h1:top ≠ 1):∀ (f:Nat) (p:NM),p ∈ T.nodes->climbs T.nodes f p.id=true->∀ m,f+1<=m->qal T.nodes (m+1) p.id top=qal T.nodes m p.id top
 | 0,p,_,hc,_,_=>by simp [climbs] at hc
 | f+1,p,hp,hc,m,hm=>by
  obtain ⟨m,rfl⟩:∃ q,m=q+1:=⟨m - 1,by omega⟩
  rw [h.up.below hp,h.up.below hp]
  split
  ·rfl
  rw [h.up.climbs hp] at hc
  by_cases e:p.parent=1
  ·rw [e,h.root h0 h1,h.root h0 h1]
  ·rw [if_neg e] at hc
   obtain ⟨q,hq,e2⟩:=qkj hc
   rw [<-e2] at hc ⊢
   exact TP.steps h h0 h1 f q hq hc m (by omega)
theorem TP.keep (h:TP T) {top:Int} (h0:top ≠ 0) (h1:top ≠ 1) {n p:NM} (hn:n ∈ T.nodes) (hp:p ∈ T.nodes) (e:p.id=n.parent) (hk:qal T.nodes 15 n.id top=false):qal T.nodes 15 p.id top=false:=by
 rw [h.up.below hn] at hk
 split at hk
 ·simp at hk
 by_cases e1:p.id=1
 ·rw [e1,h.root h0 h1]
 ·rw [h.steps h0 h1 4 p hp (h.rest p hp e1).2.2 14 (by omega),e]
  exact hk
theorem TP.drop (h:TP T) {top:Int} (h0:top ≠ 0) (h1:top ≠ 1):TP (dropT T top):=by
 have hmem:∀ n,n ∈ (dropT T top).nodes↔n ∈ T.nodes/\qal T.nodes 15 n.id top=false:=fun n=>by simp [dropT]
 have hup:Up2 (dropT T top).nodes:=List.Pairwise.filter _ h.up
 obtain ⟨r,rest,er,hr⟩:=h.first
 have hcl:∀ f n,n ∈ T.nodes->qal T.nodes 15 n.id top=false->climbs T.nodes f n.id=true->climbs (dropT T top).nodes f n.id=true:=by
  intro f
  induction f with
  | zero=>intro n _ _ hc;simp [climbs] at hc
  | succ f ih =>
   intro n hn hk hc
   rw [h.up.climbs hn] at hc
   rw [hup.climbs ((hmem n).2 ⟨hn,hk⟩)]
   by_cases e:n.parent=1
   ·rw [if_pos e]
   ·rw [if_neg e] at hc ⊢
    obtain ⟨q,hq,e2⟩:=qkj hc
    rw [<-e2] at hc ⊢
    exact ih q hq (h.keep h0 h1 hn hq e2 hk) hc
 refine ⟨Nat.le_trans (List.length_filter_le _ _) h.len,h.nx,hup,fun n hn=>h.lt n ((hmem n).1 hn).1,?_,fun n hn=>h.kind n ((hmem n).1 hn).1,?_,List.Pairwise.filter _ h.uniq⟩
 ·have hkr:qal T.nodes 15 r.id top=false:=by rw [(qbe hr).1];exact h.root h0 h1 15
  refine ⟨r,rest.filter (fun n=>!qal T.nodes 15 n.id top),?_,hr⟩
  show T.nodes.filter (fun n=>!qal T.nodes 15 n.id top)=_
  generalize hb:(fun n:NM=>!qal T.nodes 15 n.id top)=b
  have hbr:b r=true:=by rw [<-hb];simp [hkr]
  rw [er,List.filter_cons,if_pos hbr]
 ·intro n hn hid
  obtain ⟨hm,hk⟩:=(hmem n).1 hn
  obtain ⟨c1,⟨p,hp,e1,e2⟩,c3⟩:=h.rest n hm hid
  exact ⟨c1,⟨p,(hmem p).2 ⟨hp,h.keep h0 h1 hm hp e1 hk⟩,e1,e2⟩,hcl 4 n hm hk c3⟩
theorem dropT_ok {top:Int} (h:qae T=true) (h0:top ≠ 0) (h1:top ≠ 1):qae (dropT T top)=true:=((TP.of h).drop h0 h1).ok
theorem qps:∀ (L:List ByteArray) (c:Int),c ≠ 0->L ≠ []->findF ns L c=0\/∃ n ∈ ns,n.parent ≠ 0/\n.id=findF ns L c
 | [],_,_,h=>absurd rfl h
 | p::ps,c,hc,_=>by
  unfold findF
  split
  ·exact .inl rfl
  ·rename_i h0
   cases ps with
   | nil =>
    rcases qpa ns c p ns 0 with e | ⟨n,hn,e1,-,e⟩
    ·exact absurd e h0
    ·exact .inr ⟨n,hn,by rw [e1];exact hc,e⟩
   | cons q qs=>exact qps (q::qs) _ h0 (by simp)
theorem named_low {p:ByteArray} (h:qae T=true) (hp:named p=true) (h0:findX T p ≠ 0):findX T p ≠ 1:=by
 have hP:=TP.of h
 have hne:(splitB p).1 ≠ []:=by
  unfold named qab at hp
  split at hp
  ·rename_i q;exact q.2
  ·simp at hp
 intro e
 have h2:findX T p=findF T.nodes (splitB p).1 1:=by
  unfold findX at h0 ⊢
  split at h0
  ·rename_i q;rw [if_pos q]
  ·exact absurd rfl h0
 rcases qps (ns:=T.nodes) (splitB p).1 1 (by omega) hne with q | ⟨n,hn,h3,h4⟩
 ·rw [h2] at h0;exact h0 q
 ·obtain ⟨r,rest,er,hr⟩:=hP.first
  have hm:r ∈ T.nodes:=by rw [er];simp
  have:n=r:=hP.up.one hn hm (by rw [h4,<-h2,e,(qbe hr).1])
  rw [this] at h3
  exact h3 (qbe hr).2
theorem qes (h:qat e=true) (h10:e.kind ≠ 10):1<=e.kind/\e.kind<=10/\qhi e=false/\(e.kind=5->1<=e.num/\e.num<=3)/\(e.kind=6->0<=e.num/\e.num<=1000)/\(e.kind=7->1<=e.num/\e.num<=200)/\(e.kind=9->0<=e.who/\e.who<=9):=by
 unfold qat at h
 rw [if_neg h10] at h
 simp only [Bool.and_eq_true,inI_iff,Bool.not_eq_true'] at h
 obtain ⟨⟨a1,a2⟩,a3,a4⟩:=h
 unfold qks at a4
 refine ⟨a1,a2,a3,fun q=>?_,fun q=>?_,fun q=>?_,fun q=>?_⟩
 ·simp [q,inI_iff] at a4;omega
 ·simp [q,inI_iff] at a4;omega
 ·simp [q,inI_iff] at a4;omega
 ·simp [q,inI_iff] at a4;omega
inductive Way (ns:List NM):NM->List NM->Prop
 | root {r:NM}:r ∈ ns->r.id=1->r.parent=0->Way ns r []
 | step {n p:NM} {L:List NM}:n ∈ ns->n.id ≠ 1->p ∈ ns->p.id=n.parent->Way ns p L->Way ns n (L++[n])
theorem Way.mem (h:Way ns n L):n ∈ ns:=by
 cases h with
 | root h=>exact h
 | step h=>exact h
theorem Way.det (hu:Up2 ns) {n:NM} {L:List NM} (h:Way ns n L):∀ {M:List NM},Way ns n M->L=M:=by
 induction h with
 | root h1 h2 _ =>
  intro M h'
  cases h' with
  | root=>rfl
  | step _ h3=>exact absurd h2 h3
 | @step n p L h1 h2 h3 h4 h5 ih =>
  intro M h'
  cases h' with
  | root _ q=>exact absurd q h2
  | @step _ p' L' _ _ q3 q4 q5 =>
   have:p=p':=hu.one h3 q3 (by rw [h4,q4])
   subst this
   rw [ih q5]
theorem TP.one (h:TP T) {r:NM} (hr:r ∈ T.nodes) (e:r.id=1):r.parent=0:=by
 obtain ⟨r',rest,er,hf⟩:=h.first
 have:r=r':=h.up.one hr (by rw [er];simp) (by rw [e,(qbe hf).1])
 rw [this]
 exact (qbe hf).2
theorem TP.root_in (h:TP T):∃ r ∈ T.nodes,r.id=1/\r.parent=0/\qbm r=true:=by
 obtain ⟨r,rest,er,hr⟩:=h.first
 exact ⟨r,by rw [er];simp,(qbe hr).1,(qbe hr).2,hr⟩
theorem Way.part (h:Way ns n L):∀ m ∈ L,∃ M R,Way ns m M/\L=M++R:=by
 induction h with
 | root=>intro m hm;simp at hm
 | @step n p L h1 h2 h3 h4 h5 ih =>
  intro m hm
  rcases List.mem_append.1 hm with q | q
  ·obtain ⟨M,R,w,e⟩:=ih m q
   exact ⟨M,R++[n],w,by rw [e,List.append_assoc]⟩
  ·rw [List.mem_singleton.1 q]
   exact ⟨L++[n],[],.step h1 h2 h3 h4 h5,by simp⟩
theorem Way.all (h:Way ns n L):∀ m ∈ L,m ∈ ns/\m.id ≠ 1:=by
 induction h with
 | root=>intro m hm;simp at hm
 | @step n p L h1 h2 h3 h4 h5 ih =>
  intro m hm
  rcases List.mem_append.1 hm with q | q
  ·exact ih m q
  ·rw [List.mem_singleton.1 q];exact ⟨h1,h2⟩
theorem Way.over (hu:Up2 ns) {n p:NM} {L:List NM} (h1:n ∈ ns) (h2:n.id ≠ 1) (h3:p ∈ ns) (h4:p.id=n.parent) (h5:Way ns p L):∀ m ∈ L,m.id ≠ n.id:=by
 intro m hm e
 have hmn:m=n:=hu.one (h5.all m hm).1 h1 e
 subst hmn
 obtain ⟨M,R,w,eL⟩:=h5.part m hm
 have:=w.det hu (.step h1 h2 h3 h4 h5)
 have hl:=congrArg List.length this
 have hl2:=congrArg List.length eL
 simp at hl hl2
 omega
def blB (T:TM) (n:NM) (top:Int):Bool:=qal T.nodes 15 n.id top
def sm (f:NM->Int):List NM->Int
 | []=>0
 | n::ns=>f n+sm f ns
end Go.Proofs.YtoglebfiobofoaaGreatDoor
/- TreJ: . -/
namespace Go.Proofs.YtoglebfiobofoaaGreatDoor
set_option maxRecDepth 100000
set_option maxHeartbeats 16000000
open Go.RowKit
attribute [local go_sem ↓] Go.wp_at_zero Go.wp_at_succ
theorem treeOk_first {T:TM} (h:qae T=true):0<T.nodes.length/\(T.nodes.getD 0 default).id=1/\atI T.nodes 1=0:=by
 have h0:0<T.nodes.length:=by
  unfold qae at h
  simp only [Bool.and_eq_true,decide_eq_true_eq] at h
  omega
 have h1:=qcm h h0
 unfold nodeOk at h1
 simp only [Bool.and_eq_true] at h1
 have h2:=h1.1.1.2
 rw [if_pos trivial] at h2
 unfold qbm at h2
 simp only [Bool.and_eq_true] at h2
 have h3:(T.nodes.getD 0 default).id=1:=by simpa using h2.1.1.1.1
 refine ⟨h0,h3,?_⟩
 exact qrc (i:=0) h0 (by rw [<-h3];simp [List.getD,h0]) (fun j hj=>by omega)
def NSo (w W:World) (a:Option Addr) (n cap:Nat) (nx:Int) (g c l:Nat) (L:List ByteArray):Prop:=BX w W a n cap nx/\W.ownsRow (w.heap.size+1) 9 1 (.slice (some ⟨g,0,none⟩) l c) l (tv L)
theorem NSo.below {w W W':World} {a:Option Addr} {n cap g c l:Nat} {nx:Int} {L:List ByteArray} (h:NSo w W a n cap nx g c l L) (hb:Below W.heap.size W W'):NSo w W' a n cap nx g c l L:=⟨h.1.below hb,h.2.kept (row:=none) ⟨hb.os,hb.tape,hb.output,hb.size,fun k hk _=>hb.block k hk⟩ (Classical.em _)⟩
attribute [local irreducible] nodeOk qae atI joinB nameB
end Go.Proofs.YtoglebfiobofoaaGreatDoor
/- WayN: . -/
namespace Go.Proofs.YtoglebfiobofoaaGreatDoor
set_option maxRecDepth 100000
set_option maxHeartbeats 16000000
variable {p:Int} {ns:List NM} {f i j k:Nat} {T:TM}
theorem qrf (c:Int) (nm:ByteArray):∀ (ns:List NM) (z:Int),z ≠ 0->ns.foldl (kidS c nm) z=z
 | [],z,_=>rfl
 | n::ns,z,hz=>by
  rw [List.foldl_cons]
  have:kidS c nm z n=z:=by unfold kidS;rw [if_neg (by intro q;exact hz q.2.2)]
  rw [this]
  exact qrf c nm ns z hz
theorem qmq (c:Int) (nm:ByteArray):∀ (ns:List NM),(∀ n ∈ ns,n.id ≠ 0)->kidF ns c nm=match ns.find? (fun n=>n.parent==c&&decide (n.name=nm)) with
  | none=>0
  | some n=>n.id
 | [],_=>rfl
 | n::ns,h=>by
  have ih:=qmq c nm ns (fun m hm=>h m (by simp [hm]))
  unfold kidF at ih ⊢
  rw [List.foldl_cons]
  by_cases e:n.parent=c/\n.name=nm
  ·have e1:kidS c nm 0 n=n.id:=by unfold kidS;rw [if_pos ⟨e.1,e.2,rfl⟩]
   rw [e1,qrf c nm ns n.id (h n (by simp)),List.find?_cons_of_pos (by simp [e.1,e.2])]
  ·have e1:kidS c nm 0 n=0:=by unfold kidS;rw [if_neg (by intro q;exact e ⟨q.1,q.2.1⟩)]
   rw [e1,ih,List.find?_cons_of_neg (by simpa using e)]
theorem TP.same (h:TP T) {a b:NM} (ha:a ∈ T.nodes) (hb:b ∈ T.nodes) (e1:a.parent=b.parent) (e2:a.name=b.name):a=b:=by
 obtain ⟨i,hi,rfl⟩:=List.getElem_of_mem ha
 obtain ⟨j,hj,rfl⟩:=List.getElem_of_mem hb
 have hp:=List.pairwise_iff_getElem.1 h.uniq
 rcases Nat.lt_trichotomy i j with q | q | q
 ·exact absurd ⟨e1,e2⟩ (hp i j hi hj q)
 ·subst q;rfl
 ·exact absurd ⟨e1.symm,e2.symm⟩ (hp j i hj hi q)
theorem TP.nz (h:TP T):∀ n ∈ T.nodes,n.id ≠ 0:=fun n hn=>by have:=h.pos hn;omega
theorem TP.kid (h:TP T) {n:NM} (hn:n ∈ T.nodes):kidF T.nodes n.parent n.name=n.id:=by
 rw [qmq _ _ _ h.nz]
 cases e:T.nodes.find? (fun m=>m.parent==n.parent&&decide (m.name=n.name)) with
 | none =>
  have:=List.find?_eq_none.1 e n hn
  simp at this
 | some m =>
  have h1:=List.find?_some e
  have h2:=List.mem_of_find?_eq_some e
  simp only [Bool.and_eq_true,beq_iff_eq,decide_eq_true_eq] at h1
  rw [h.same h2 hn h1.1 h1.2]
theorem TP.kid_inv (h:TP T) {c:Int} {nm:ByteArray} (h0:kidF T.nodes c nm ≠ 0):∃ n ∈ T.nodes,n.parent=c/\n.name=nm/\n.id=kidF T.nodes c nm:=by
 rw [qmq _ _ _ h.nz] at h0 ⊢
 cases e:T.nodes.find? (fun m=>m.parent==c&&decide (m.name=nm)) with
 | none=>rw [e] at h0;exact absurd rfl h0
 | some m =>
  have h1:=List.find?_some e
  simp only [Bool.and_eq_true,beq_iff_eq,decide_eq_true_eq] at h1
  exact ⟨m,List.mem_of_find?_eq_some e,h1.1,h1.2,rfl⟩
theorem TP.find_inv (h:TP T):∀ (M:List ByteArray) {p:NM} {L:List NM},Way T.nodes p L->findF T.nodes M p.id ≠ 0->∃ n K,Way T.nodes n K/\n.id=findF T.nodes M p.id/\K.map NM.name=L.map NM.name++M
 | [],p,L,hw,_=>⟨p,L,hw,rfl,by simp⟩
 | s::M,p,L,hw,h0=>by
  unfold findF at h0 ⊢
  by_cases e:kidF T.nodes p.id s=0
  ·rw [if_pos e] at h0;exact absurd rfl h0
  ·rw [if_neg e] at h0 ⊢
   obtain ⟨n,hn,e1,e2,e3⟩:=h.kid_inv e
   have hn1:n.id ≠ 1:=fun q=>by
    have:=h.one hn q
    exact h.nz p hw.mem (by rw [<-e1,this])
   have hw2:Way T.nodes n (L++[n]):=.step hn hn1 hw.mem e1.symm hw
   rw [<-e3] at h0 ⊢
   obtain ⟨m,K,q1,q2,q3⟩:=TP.find_inv h M hw2 h0
   exact ⟨m,K,q1,q2,by rw [q3,List.map_append];simp [e2]⟩
theorem root_at (h:TP T):0<=atI T.nodes 1:=by
 obtain ⟨r,hr,r1,_⟩:=h.root_in
 have:=(h.up.at hr).1
 rw [r1] at this
 exact this
theorem found_way (h:qae T=true) {p:ByteArray} (h0:findX T p ≠ 0):∃ n K,Way T.nodes n K/\n.id=findX T p/\joinB (K.map NM.name)=p/\K.length<=4/\(splitB p)=(K.map NM.name,true):=by
 have hp:=TP.of h
 unfold findX at h0 ⊢
 by_cases hs:(splitB p).2=true/\0<=atI T.nodes 1
 ·rw [if_pos hs] at h0 ⊢
  obtain ⟨r,hr,r1,r0,_⟩:=hp.root_in
  rw [<-r1] at h0 ⊢
  obtain ⟨n,K,q1,q2,q3⟩:=hp.find_inv _ (.root hr r1 r0) h0
  rw [List.map_nil,List.nil_append] at q3
  refine ⟨n,K,q1,q2,by rw [q3];exact joinB_split hs.1,?_,by rw [q3,<-hs.1]⟩
  have:=(qbx p).2
  rw [<-q3,List.length_map] at this
  exact this
 ·rw [if_neg hs] at h0;exact absurd rfl h0
theorem Way.nil {n:NM} (h:Way ns n []):n.id=1:=by
 generalize e:([]:List NM)=L at h
 cases h with
 | root _ h=>exact h
 | step=>simp at e
def clm (ns:List NM):Nat->Nat->Bool
 | 0,j=>(ns.getD j default).id==1
 | f+1,j=>match fid ns (ns.getD j default).parent with
  | none=>(ns.getD j default).id==1
  | some k=>clm ns f k
theorem qmg (h:fid ns (ns.getD j default).parent=none):clm ns f j=((ns.getD j default).id==1):=by
 cases f with
 | zero=>rfl
 | succ f =>
  conv=>lhs;unfold clm
  rw [h]
theorem qmh (h:fid ns (ns.getD j default).parent=some k):clm ns (f+1) j=clm ns f k:=by
 conv=>lhs;unfold clm
 rw [h]
theorem Asc.id_one (h:Asc ns) {j:Nat} (hj:j<ns.length):((ns.getD j default).id==1)=decide (j=0):=by
 rw [getD_in hj]
 by_cases e:j=0
 ·subst e
  have:=h.2.2.1
  rw [getD_in hj] at this
  simp [this]
 ·have:=h.lt j hj 0 (by omega)
  rw [h.2.2.1] at this
  have h2:¬ ns[j].id=1:=by omega
  simp [h2,e]
theorem qrz (h:Asc ns):∀ f j,j<ns.length->clm ns f j=true->∃ d,d<=f/\Ups ns j d:=by
 intro f
 induction f with
 | zero =>
  intro j hj hc
  unfold clm at hc
  rw [h.id_one hj] at hc
  obtain rfl:=of_decide_eq_true hc
  exact ⟨0,Nat.le_refl _,.root⟩
 | succ f ih =>
  intro j hj hc
  cases hp:fid ns (ns.getD j default).parent with
  | none =>
   rw [qmg hp,h.id_one hj] at hc
   obtain rfl:=of_decide_eq_true hc
   exact ⟨0,Nat.zero_le _,.root⟩
  | some k =>
   rw [qmh hp] at hc
   obtain ⟨d,hd,hu⟩:=ih k (qbw hp).1 hc
   refine ⟨d+1,by omega,.step hj (fun e=>?_) hp hu⟩
   subst e
   rw [h.2.2.2,h.zero] at hp
   cases hp
theorem ups_clm (h:Asc ns) {j d:Nat} (hu:Ups ns j d):∀ f,d<=f->clm ns f j=true:=by
 induction hu with
 | root =>
  intro f _
  rw [qmg (by rw [h.2.2.2];exact h.zero),h.id_one h.2.1]
  rfl
 | step hj h0 hp _ ih =>
  intro f hf
  cases f with
  | zero=>omega
  | succ f=>rw [qmh hp];exact ih f (by omega)
theorem clm_climbs (h:Asc ns) {j:Nat} (hj:j<ns.length) (h0:j ≠ 0):clm ns 4 j=climbs ns 4 (ns.getD j default).id:=by
 have hf:=h.fid hj
 rw [<-getD_in hj] at hf
 cases hc:climbs ns 4 (ns.getD j default).id with
 | true =>
  obtain ⟨d,hd,hu⟩:=climbs_ups h 4 _ j hc hf h0
  exact ups_clm h hu 4 hd
 | false =>
  refine Bool.eq_false_iff.2 fun hm=>?_
  obtain ⟨d,hd,hu⟩:=qrz h 4 j hj hm
  rw [ups_climbs h 4 j d hu h0 hd] at hc
  cases hc
theorem belowF_no (h:Asc ns) {top:Int} (hn:fid ns top=none) (h0:top ≠ 0) {i d:Nat} (hu:Ups ns i d):∀ f,qal ns f (ns.getD i default).id top=false:=by
 have hne:∀ j,j<ns.length->(ns.getD j default).id ≠ top:=fun j hj e=>fid_none hn _ (by rw [getD_in hj] at e;exact List.getElem_mem hj) (by rw [getD_in hj] at e;exact e)
 induction hu with
 | root =>
  intro f
  cases f with
  | zero=>rfl
  | succ f =>
   rw [qdn (i:=0) (hne 0 h.2.1) (by rw [h.2.2.1];exact h.one),h.2.2.2]
   cases f with
   | zero=>rfl
   | succ f=>exact qep (fun e=>h0 e.symm) h.zero
 | @step i k d hi _ hk _ ih =>
  intro f
  cases f with
  | zero=>rfl
  | succ f =>
   have hf:=h.fid hi
   rw [<-getD_in hi] at hf
   rw [qdn (hne i hi) hf]
   obtain ⟨hkl,ek⟩:=qbw hk
   rw [<-ek,<-getD_in hkl]
   exact ih f
def blw (ns:List NM) (i:Nat) (top:Int):Bool:=decide (top ≠ 0)&&qal ns 15 (ns.getD i default).id top
def qqe (ns:List NM) (i:Nat):Bool:=match fnm ns (ns.getD i default).parent (ns.getD i default).name with
 | some k=>(ns.getD k default).id==(ns.getD i default).id
 | none=>false
theorem qjj (h:fnm ns (ns.getD i default).parent (ns.getD i default).name=some k):qqe ns i=((ns.getD k default).id==(ns.getD i default).id):=by
 unfold qqe
 rw [h]
def dirB (ns:List NM) (p:Int):Bool:=match fid ns p with
 | some k=>(ns.getD k default).dir
 | none=>false
theorem qnq (h:fid ns p=some k):dirB ns p=(ns.getD k default).dir:=by
 unfold dirB
 rw [h]
theorem qnr (h:fid ns p=none):dirB ns p=false:=by
 unfold dirB
 rw [h]
def qey (ns:List NM) (i:Nat):Bool:=nameB (ns.getD i default).name&&qqe ns i&&dirB ns (ns.getD i default).parent&&clm ns 4 i
def Tall (ns:List NM):Prop:=Asc ns/\∀ i,i<ns.length->∃ d,d<=4/\Ups ns i d
def idsB (T:TM):Bool:=decide (T.next<=100000)&&(List.range T.nodes.length).all fun i=>decide ((T.nodes.getD i default).id<T.next)&&(decide (i=0)||decide ((T.nodes.getD (i - 1) default).id<(T.nodes.getD i default).id))
def rootB (n:NM):Bool:=(n.id==1)&&(n.parent==0)&&decide (n.name=⟨#[]⟩)&&n.dir&&inI n.schema 1 3
def kindB (n:NM):Bool:=if n.dir then dirOk n else fileOk n
theorem fnm_self (hi:i<ns.length):∃ k,fnm ns ns[i].parent ns[i].name=some k/\k<=i:=by
 cases hf:fnm ns ns[i].parent ns[i].name with
 | none=>exact absurd rfl (qqd hf _ (List.getElem_mem hi) rfl)
 | some k =>
  refine ⟨k,rfl,Nat.le_of_not_lt fun hlt=>?_⟩
  exact qno hf i hlt hi rfl rfl
theorem qqf (h:Asc ns) {i:Nat} (hi:i<ns.length) (h0:i ≠ 0):qey ns i=(nameB (ns.getD i default).name&&decide (0<=atI ns (ns.getD i default).parent)&&(ns.getD (atI ns (ns.getD i default).parent).toNat default).dir &&
  (List.range i).all (fun j=>! (((ns.getD j default).parent==(ns.getD i default).parent)&&decide ((ns.getD j default).name=(ns.getD i default).name)))&&climbs ns 4 (ns.getD i default).id):=by
 unfold qey
 rw [clm_climbs h hi h0]
 have e1:qqe ns i=(List.range i).all (fun j=>! (((ns.getD j default).parent==(ns.getD i default).parent)&&decide ((ns.getD j default).name=(ns.getD i default).name))):=by
  obtain ⟨k,hk,hki⟩:=fnm_self hi
  rw [qjj (k:=k) (by rw [getD_in hi];exact hk),getD_in hi]
  obtain ⟨hkl,kp,kn⟩:=qlc hk
  rw [getD_in hkl]
  by_cases e:k=i
  ·subst e
   simp only [beq_self_eq_true]
   refine (List.all_eq_true.2 fun j hj=>?_).symm
   have hj':j<k:=by simpa using hj
   have:=qno hk j hj' (by omega)
   rw [getD_in (by omega:j<ns.length)]
   by_cases hp:ns[j].parent=ns[k].parent
   ·simp [hp,this hp]
   ·simp [hp]
  ·have hlt:=h.lt i hi k (by omega)
   rw [getD_in hkl] at hlt
   have hne:(ns[k].id==ns[i].id)=false:=by simp;omega
   rw [hne]
   symm
   refine Bool.eq_false_iff.2 fun hall=>?_
   have:=List.all_eq_true.1 hall k (by simp;omega)
   rw [getD_in hkl] at this
   simp [kp,kn] at this
 have e2:dirB ns (ns.getD i default).parent=(decide (0<=atI ns (ns.getD i default).parent)&&(ns.getD (atI ns (ns.getD i default).parent).toNat default).dir):=by
  rw [qnp]
  cases hf:fid ns (ns.getD i default).parent with
  | none=>rw [qnr hf];simp
  | some k=>rw [qnq hf];simp
 rw [e1,e2]
 cases nameB (ns.getD i default).name <;> cases decide (0<=atI ns (ns.getD i default).parent) <;> cases (ns.getD (atI ns (ns.getD i default).parent).toNat default).dir <;> cases climbs ns 4 (ns.getD i default).id <;> simp
theorem qmi (h:idsB T=true) (hr:rootB (T.nodes.getD 0 default)=true) (hl:0<T.nodes.length):Asc T.nodes:=by
 unfold idsB at h
 simp only [Bool.and_eq_true,decide_eq_true_eq,List.all_eq_true,List.mem_range,Bool.or_eq_true] at h
 unfold rootB at hr
 simp only [Bool.and_eq_true,beq_iff_eq,decide_eq_true_eq] at hr
 refine ⟨fun i hi h0=>?_,hl,hr.1.1.1.1,hr.1.1.1.2⟩
 rcases (h.2 i hi).2 with e | e
 ·omega
 ·rw [getD_in hi] at e;exact e
def progB (T:TM):Bool:=inI (T.nodes.length:Int) 1 14&&idsB T&&rootB (T.nodes.getD 0 default)&&(List.range T.nodes.length).all fun i=>kindB (T.nodes.getD i default)&&(decide (i=0)||qey T.nodes i)
theorem qez (T:TM):progB T=qae T:=by
 rw [Bool.eq_iff_iff]
 constructor
 ·intro h
  unfold progB at h
  simp only [Bool.and_eq_true,List.all_eq_true,List.mem_range,Bool.or_eq_true,decide_eq_true_eq] at h
  obtain ⟨⟨⟨h1,h2⟩,h3⟩,h4⟩:=h
  have hl:=inI_iff.1 h1
  have ha:=qmi h2 h3 (by omega)
  have h2':=h2
  unfold idsB at h2'
  simp only [Bool.and_eq_true,decide_eq_true_eq,List.all_eq_true,List.mem_range,Bool.or_eq_true] at h2'
  refine qlt h1 h2'.1 fun i hi=>?_
  obtain ⟨k1,k2⟩:=h4 i hi
  unfold nodeOk
  rw [decide_eq_true (h2'.2 i hi).1]
  by_cases e:i=0
  ·subst e
   have h3':=h3
   unfold rootB at h3'
   simp only [Bool.and_eq_true,beq_iff_eq,decide_eq_true_eq] at h3'
   have hs:=inI_iff.1 h3'.2
   unfold kindB at k1
   rw [if_pos h3'.1.2] at k1
   unfold qbm
   rw [if_pos rfl,if_pos h3'.1.2,k1,h3'.1.1.1.1,h3'.1.1.1.2,h3'.1.1.2,h3'.1.2]
   have:((T.nodes.getD 0 default).schema != 0)=true:=by rw [bne_iff_ne];omega
   rw [this]
   rfl
  ·rw [if_neg e]
   have h5:=(h2'.2 i hi).2.resolve_left e
   rw [decide_eq_true h5]
   unfold kindB at k1
   rw [k1,<-qqf ha hi e]
   simp [k2.resolve_left e]
 ·intro h
  have h14:=qhb h
  obtain ⟨hl,he,_⟩:=treeOk_first h
  have hn:∀ i,i<T.nodes.length->nodeOk T i=true:=fun i hi=>qcm h hi
  have hnx:T.next<=100000:=by
   unfold qae at h
   simp only [Bool.and_eq_true,decide_eq_true_eq] at h
   exact h.1.2
  have h0:=hn 0 hl
  unfold nodeOk at h0
  rw [if_pos rfl] at h0
  simp only [Bool.and_eq_true,decide_eq_true_eq] at h0
  obtain ⟨⟨⟨_,hf⟩,hk0⟩,_⟩:=h0
  unfold qbm at hf
  simp only [Bool.and_eq_true,beq_iff_eq,decide_eq_true_eq,bne_iff_ne] at hf
  have hr:rootB (T.nodes.getD 0 default)=true:=by
   unfold rootB
   rw [hf.1.1.1.1,hf.1.1.1.2,hf.1.1.2,hf.1.2]
   rw [if_pos hf.1.2] at hk0
   unfold dirOk at hk0
   simp only [Bool.and_eq_true] at hk0
   have:=inI_iff.1 hk0.1.1.1.1
   have:inI (T.nodes.getD 0 default).schema 1 3=true:=inI_iff.2 ⟨by omega,by omega⟩
   rw [this]
   rfl
  have hids:idsB T=true:=by
   unfold idsB
   rw [decide_eq_true hnx]
   simp only [Bool.true_and]
   refine List.all_eq_true.2 fun i hi=>?_
   have hi':i<T.nodes.length:=by simpa using hi
   have h1:=hn i hi'
   unfold nodeOk at h1
   simp only [Bool.and_eq_true] at h1
   rw [h1.1.1.1]
   by_cases e:i=0
   ·simp [e]
   ·have h2:=h1.1.1.2
    rw [if_neg e] at h2
    rw [h2]
    simp
  have ha:=qmi hids hr hl
  unfold progB
  rw [hids,hr,inI_iff.2 ⟨by omega,by omega⟩]
  simp only [Bool.true_and]
  refine List.all_eq_true.2 fun i hi=>?_
  have hi':i<T.nodes.length:=by simpa using hi
  have h1:=hn i hi'
  unfold nodeOk at h1
  simp only [Bool.and_eq_true,Bool.or_eq_true] at h1
  unfold kindB
  rw [h1.1.2]
  by_cases e:i=0
  ·simp [e]
  ·have h2:=h1.2.resolve_left (by simp [e])
   rw [qqf ha hi' e]
   simp only [Bool.true_and,Bool.or_eq_true]
   right
   simp only [Bool.and_eq_true]
   exact h2
theorem qdk (h:qae T=true):Tall T.nodes:=by
 rw [<-qez] at h
 unfold progB at h
 simp only [Bool.and_eq_true,List.all_eq_true,List.mem_range,Bool.or_eq_true,decide_eq_true_eq] at h
 obtain ⟨⟨⟨h1,h2⟩,h3⟩,h4⟩:=h
 have hl:=inI_iff.1 h1
 have ha:=qmi h2 h3 (by omega)
 refine ⟨ha,fun i hi=>?_⟩
 by_cases e:i=0
 ·subst e;exact ⟨0,by omega,.root⟩
 ·have:=(h4 i hi).2.resolve_left e
  unfold qey at this
  simp only [Bool.and_eq_true] at this
  exact qrz ha 4 i hi this.2
end Go.Proofs.YtoglebfiobofoaaGreatDoor
/- TreK: . -/
namespace Go.Proofs.YtoglebfiobofoaaGreatDoor
set_option maxRecDepth 100000
set_option maxHeartbeats 16000000
open Go.RowKit
attribute [local go_sem ↓] Go.wp_at_zero Go.wp_at_succ
variable {L:List ByteArray} {m:Nat} {v:Value} {V W:World}
def Mk9 (V W:World) (v:Value) (m:Nat) (L:List ByteArray):Prop:=Below V.heap.size V W/\W.ownsRow V.heap.size 9 1 v m (tv L)
theorem Mk9.drew (h:Mk9 V W v m L) (q:Nat):Mk9 V (W.drewN q) v m L:=by
 have hb:Below W.heap.size W (W.drewN q):=⟨rfl,rfl,rfl,Nat.le_refl _,fun _ _=>rfl⟩
 exact ⟨h.1.trans (hb.mono h.1.size),h.2.kept (row:=none) ⟨hb.os,hb.tape,hb.output,hb.size,fun k hk _=>hb.block k hk⟩ (Classical.em _)⟩
theorem Mk9.snoc {V W W':World} {v v':Value} {x:ByteArray} {o:Obj} (h:Mk9 V W v m L) (ho:W'.ownsRow V.heap.size 9 1 v' (m+1) (tv L++[.string x])) (hg:(W.alloc o).grownBy W' v.ownBlock):Mk9 V W' v' (m+1) (L++[x]):=by
 have hb:=h.1.alloc h.1.size o
 refine ⟨hb.grown hg hb.size (fun k hk=>(h.2.lt k hk).1),?_⟩
 have e:tv (L++[x])=tv L++[.string x]:=by simp [tv]
 rw [e]
 exact ho
attribute [local irreducible] nodeOk qae atI joinB nameB
end Go.Proofs.YtoglebfiobofoaaGreatDoor
/- LkS: . -/
namespace Go.Proofs.YtoglebfiobofoaaGreatDoor
set_option maxRecDepth 100000
set_option maxHeartbeats 16000000
variable {p:ByteArray} {e:EM} {x:NM} {k:Nat} {T:TM}
theorem qit (h:qae T=true) {n x:NM} (hn:n ∈ T.nodes) (hx:x ∈ T.nodes):n.id ∈ qap T x.id↔blB T n x.id=true:=by
 have hp:=TP.of h
 unfold qap blB
 rw [if_pos ⟨h,(hp.up.at hx).1⟩]
 unfold qbs
 constructor
 ·intro q
  obtain ⟨m,hm,e⟩:=List.mem_map.1 q
  obtain ⟨h1,h2⟩:=List.mem_filter.1 hm
  rw [<-e]
  exact h2
 ·intro q
  exact List.mem_map.2 ⟨n,List.mem_filter.2 ⟨hn,q⟩,rfl⟩
def mustP (e:EM):ByteArray:=if e.kind=1\/e.kind=2 then (qab e.path).1 else e.path
def qcg (T:TM) (p:ByteArray):Int:=if upX T p=0 then 1 else if (ndAt T (plc T (upX T p))).dir=false then 3 else if findX T p ≠ 0 then 2 else 0
def qbq (x:NM) (held:Bool):Int:=if x.dir=true then 3 else if (held != (x.writer != 0))=true then 6 else 0
def qfc (T:TM) (id:Int) (p:ByteArray):Int:=if qcg T p ≠ 0 then qcg T p else if (qap T id).contains (upX T p)=true then 7 else 0
def qcu (x:NM):Int:=if x.dir=false then 3 else 0
def qeq (T:TM) (x:NM) (q:Int):Int:=if qcu x ≠ 0 then qcu x else if 0<q/\q<usedX T x.id then 5 else 0
def qcr (T:TM) (x:NM) (l:Int):Int:=if qbq x true ≠ 0 then qbq x true else if roomX T x.id l=false\/1000<x.len+l then 5 else 0
def refX (T:TM) (e:EM) (x:NM):Int:=
 if e.kind=1 then qcg T e.path
 else if e.kind=2 then qcg T e.path
 else if e.kind=3 then qfc T x.id e.dest
 else if e.kind=5 then qcu x
 else if e.kind=6 then qeq T x e.num
 else if e.kind=7 then qcr T x e.num
 else if e.kind=8 then qbq x true
 else if e.kind=9 then qbq x false
 else 0
def chT (T:TM) (e:EM) (k:Nat) (g:Int):TM:=
 if e.kind=1 then addT T e.path newDir
 else if e.kind=2 then addT T e.path (qdd e.who)
 else if e.kind=3 then setN T k { ndAt T k with parent:=upX T e.dest,name:=(qab e.dest).2.1 }
 else if e.kind=4 then dropT T (ndAt T k).id
 else if e.kind=5 then setN T k { ndAt T k with schema:=e.num }
 else if e.kind=6 then setN T k { ndAt T k with quota:=e.num }
 else if e.kind=7 then setN T k { ndAt T k with pieces:=(ndAt T k).pieces++newP g (qaw (ndAt T k).schema e.num),len:=(ndAt T k).len+e.num }
 else if e.kind=8 then setN T k { ndAt T k with writer:=0 }
 else if e.kind=9 then setN T k { ndAt T k with writer:=e.who }
 else T
def takX (T:TM) (e:EM) (k:Nat):Int:=if e.kind=7 then ((qaw (ndAt T k).schema e.num).length:Int) else if e.kind=10 then 20 else 0
def noT:TM:=⟨[],0⟩
def stpX (T:TM) (e:EM) (g:Int):TM × Int × Int:=
 if mayX T e g=false then (noT,0,7)
 else if findX T (mustP e)=0 then (noT,0,1)
 else if refX T e (ndAt T (plc T (findX T (mustP e)))) ≠ 0 then (noT,0,refX T e (ndAt T (plc T (findX T (mustP e)))))
 else if qae (chT T e (plc T (findX T (mustP e))) g)=false then (noT,0,8)
 else (chT T e (plc T (findX T (mustP e))) g,takX T e (plc T (findX T (mustP e))),0)
theorem qdq (h:qae T=true) {p:ByteArray} (h0:findX T p ≠ 0):plc T (findX T p)<T.nodes.length/\(ndAt T (plc T (findX T p))).id=findX T p/\ndAt T (plc T (findX T p)) ∈ T.nodes:=by
 obtain ⟨n,K,hw,e,_⟩:=found_way h h0
 have hp:=TP.of h
 obtain ⟨k,hk,e2⟩:=hp.up.find hw.mem
 have hkl:k<T.nodes.length:=(List.findIdx?_eq_some_iff_getElem.1 hk).1
 have hat:atI T.nodes n.id=(k:Int):=by unfold atI;rw [hk]
 have hpl:plc T (findX T p)=k:=by unfold plc;rw [<-e,hat];rfl
 rw [hpl]
 have:ndAt T k=n:=e2
 rw [this]
 exact ⟨hkl,e,hw.mem⟩
theorem find_root (h:qae T=true):findX T ⟨#[47]⟩=1:=by
 unfold findX
 have e:splitB ⟨#[47]⟩=([],true):=by decide
 rw [e,if_pos ⟨rfl,root_at (TP.of h)⟩]
 rfl
theorem qoj {g:Int} (h:mayX T e g=true):qae T=true/\qat e=true/\1<=g/\g<=99000:=by
 unfold mayX at h
 simp only [Bool.and_eq_true,inI_iff] at h
 exact ⟨h.1.1,h.1.2,h.2.1,h.2.2⟩
theorem qjy (h:qat e=true):1<=e.kind/\e.kind<=10:=by
 unfold qat at h
 rw [Bool.and_eq_true,inI_iff] at h
 exact h.1
theorem boot_path (h:qat e=true) (h10:e.kind=10):e.path=⟨#[47]⟩:=by
 unfold qat at h
 rw [Bool.and_eq_true,if_pos h10] at h
 simp only [Bool.and_eq_true,beq_iff_eq,Go.ByteArray.toList_eq] at h
 have:=h.2.1.1.1
 exact ByteArray.ext (Array.toList_inj.1 this)
theorem more_nodes (h:T.nodes.length=14\/T.next=100000):qae (addT T p x)=false:=by
 refine Bool.eq_false_iff.2 fun hc=>?_
 obtain ⟨_,h2,h3⟩:=qbf hc
 unfold addT at h2 h3
 simp only [List.length_append,List.length_singleton] at h2
 rcases h with q | q
 ·omega
 ·have:(T.next+1:Int)<=100000:=h3
  omega
theorem qsy (hu:upX T p ≠ 0):addX T p x=if qcg T p ≠ 0 then (T,qcg T p) else if qae (addT T p x)=false then (T,8) else (addT T p x,0):=by
 unfold addX qcg
 rw [if_neg hu,if_neg hu]
 by_cases h1:(ndAt T (plc T (upX T p))).dir=false
 ·rw [if_pos h1,if_pos h1];rfl
 ·rw [if_neg h1,if_neg h1]
  by_cases h2:findX T p ≠ 0
  ·rw [if_pos h2,if_pos h2];rfl
  ·rw [if_neg h2,if_neg h2]
   by_cases h3:qae (addT T p x)=false
   ·simp only [h3,or_true,if_true];rfl
   ·have h4:¬ (T.nodes.length=14\/T.next=100000):=fun q=>h3 (more_nodes q)
    rw [if_neg (fun q=>by rcases q with q | q | q;exact h4 (.inl q);exact h4 (.inr q);exact h3 q),if_neg h3]
    rfl
theorem up_below (h:qae T=true) {p:ByteArray} {x:NM} (hx:x ∈ T.nodes) (hu:upX T p ≠ 0):(qap T x.id).contains (upX T p)=qal T.nodes 15 (upX T p) x.id:=by
 obtain ⟨_,e,hm⟩:=qdq h (p:=(qab p).1) hu
 have h1:=qit h hm hx
 have e':(ndAt T (plc T (upX T p))).id=upX T p:=e
 change (ndAt T (plc T (upX T p))).id ∈ qap T x.id↔blB T (ndAt T (plc T (upX T p))) x.id=true at h1
 unfold blB at h1
 rw [e'] at h1
 rw [Bool.eq_iff_iff,List.contains_iff_mem]
 exact h1
theorem move_is (h:qae T=true) {p:ByteArray} {x:NM} (hx:x ∈ T.nodes):moveX T p x.id=if qfc T x.id p ≠ 0 then (T,qfc T x.id p) else if qae (moveT T p x.id)=false then (T,8) else (moveT T p x.id,0):=by
 unfold moveX qfc qcg
 by_cases h0:upX T p=0
 ·rw [if_pos h0,if_pos h0];rfl
 rw [if_neg h0,if_neg h0]
 by_cases h1:(ndAt T (plc T (upX T p))).dir=false
 ·rw [if_pos h1,if_pos h1];rfl
 rw [if_neg h1,if_neg h1]
 by_cases h2:findX T p ≠ 0
 ·rw [if_pos h2,if_pos h2];rfl
 rw [if_neg h2,if_neg h2,up_below h hx h0]
 by_cases h3:qal T.nodes 15 (upX T p) x.id=true
 ·rw [if_pos h3,if_pos h3];rfl
 rw [if_neg h3,if_neg h3]
 rfl
theorem qsz (hk:k<T.nodes.length):ndAt (setN T k x) k=x:=by
 unfold ndAt setN
 simp [List.getD,hk]
theorem too_many (hk:k<T.nodes.length) (h:40<x.pieces.length):qae (setN T k x)=false:=by
 refine Bool.eq_false_iff.2 fun hc=>?_
 have hk2:k<(setN T k x).nodes.length:=by unfold setN;simpa using hk
 have:=(qbl hc k hk2).2.1
 rw [<-qdx hk2,qsz hk] at this
 omega
theorem stp_apply (T:TM) (e:EM) (g:Int):(stpX T e g).2.2=(qam T e g).2/\((qam T e g).2=0->(stpX T e g).1=(qam T e g).1)/\((qam T e g).2 ≠ 0->(qam T e g).1=T)/\g+(stpX T e g).2.1=qba T e g:=by
 by_cases hm:mayX T e g=false
 ·have h1:qam T e g=(T,7):=by unfold qam;rw [if_pos hm]
  have h2:stpX T e g=(noT,0,7):=by unfold stpX;rw [if_pos hm]
  unfold qba
  rw [h1,h2]
  simp
 have hm':mayX T e g=true:=by simpa using hm
 obtain ⟨hT,hE,g1,g2⟩:=qoj hm'
 obtain ⟨hk1,hk2⟩:=qjy hE
 -- the pattern: what the model does is a code,or a tree and no code
 have key:∀ (k:Nat) (r:Int) (C:TM) (t:Int),findX T (mustP e) ≠ 0->plc T (findX T (mustP e))=k->refX T e (ndAt T k)=r->chT T e k g=C->takX T e k=t ->
   qam T e g=(if r ≠ 0 then (T,r) else if qae C=false then (T,8) else (C,0)) ->
   (r=0->qae C=true->qba T e g=g+t) ->
   (stpX T e g).2.2=(qam T e g).2/\((qam T e g).2=0->(stpX T e g).1=(qam T e g).1)/\((qam T e g).2 ≠ 0->(qam T e g).1=T)/\g+(stpX T e g).2.1=qba T e g:=by
  intro k r C t hf hk hr hC ht ha hg
  have hs:stpX T e g=if r ≠ 0 then (noT,0,r) else if qae C=false then (noT,0,8) else (C,t,0):=by
   unfold stpX
   rw [if_neg hm,if_neg hf,hk,hr,hC,ht]
  by_cases q1:r ≠ 0
  ·have hgx:qba T e g=g:=by unfold qba;rw [ha,if_pos q1,if_pos q1]
   rw [hs,ha,hgx,if_pos q1,if_pos q1]
   exact ⟨rfl,fun q=>absurd q q1,fun _=>rfl,by simp⟩
  ·by_cases q2:qae C=false
   ·have hgx:qba T e g=g:=by unfold qba;rw [ha,if_neg q1,if_pos q2];rfl
    rw [hs,ha,hgx,if_neg q1,if_neg q1,if_pos q2,if_pos q2]
    exact ⟨rfl,fun q=>absurd (show (8:Int)=0 from q) (by decide),fun _=>rfl,by simp⟩
   ·have hgx:=hg (by simpa using q1) (by simpa using q2)
    rw [hs,ha,hgx,if_neg q1,if_neg q1,if_neg q2,if_neg q2]
    exact ⟨rfl,fun _=>rfl,fun q=>absurd rfl q,rfl⟩
 have gz:∀ {t:Int},t=0->e.kind ≠ 7->e.kind ≠ 10->(qba T e g=g+t):=fun {t} ht h7 h10=>by
  unfold qba
  rw [if_neg h10,if_pos h7,ht]
  split <;> simp
 have tz:∀ k,e.kind ≠ 7->e.kind ≠ 10->takX T e k=0:=fun k h7 h10=>by unfold takX;rw [if_neg h7,if_neg h10]
 by_cases k10:e.kind=10
 ·have hp:=boot_path hE k10
  have hmp:mustP e=⟨#[47]⟩:=by unfold mustP;rw [if_neg (by omega),hp]
  have hf:findX T (mustP e)=1:=by rw [hmp];exact find_root hT
  refine key _ 0 T 20 (by rw [hf];decide) rfl (by unfold refX;simp [k10]) (by unfold chT;simp [k10]) (by unfold takX;simp [k10]) (by unfold qam;simp [hm',k10,hT]) (fun _ _=>?_)
  unfold qba qam
  simp [hm',k10]
 by_cases k1:e.kind=1
 ·have hmp:mustP e=(qab e.path).1:=by unfold mustP;rw [if_pos (.inl k1)]
  by_cases hf:upX T e.path=0
  ·have hf':findX T (mustP e)=0:=by rw [hmp];exact hf
   have h1:qam T e g=(T,1):=by unfold qam addX;simp [hm',k1,hf]
   have h2:stpX T e g=(noT,0,1):=by unfold stpX;rw [if_neg hm,if_pos hf']
   unfold qba
   rw [h1,h2]
   simp
  ·refine key _ (qcg T e.path) (addT T e.path newDir) 0 (by rw [hmp];exact hf) rfl (by unfold refX;rw [if_pos k1]) (by unfold chT;rw [if_pos k1]) (tz _ (by omega) (by omega)) ?_ (fun _ _=>gz rfl (by omega) (by omega))
   have:qam T e g=addX T e.path newDir:=by unfold qam;simp [hm',k1]
   rw [this,qsy hf]
 by_cases k2:e.kind=2
 ·have hmp:mustP e=(qab e.path).1:=by unfold mustP;rw [if_pos (.inr k2)]
  by_cases hf:upX T e.path=0
  ·have hf':findX T (mustP e)=0:=by rw [hmp];exact hf
   have h1:qam T e g=(T,1):=by unfold qam addX;simp [hm',k2,hf]
   have h2:stpX T e g=(noT,0,1):=by unfold stpX;rw [if_neg hm,if_pos hf']
   unfold qba
   rw [h1,h2]
   simp
  ·refine key _ (qcg T e.path) (addT T e.path (qdd e.who)) 0 (by rw [hmp];exact hf) rfl (by unfold refX;rw [if_neg k1,if_pos k2]) (by unfold chT;rw [if_neg k1,if_pos k2]) (tz _ (by omega) (by omega)) ?_ (fun _ _=>gz rfl (by omega) (by omega))
   have:qam T e g=addX T e.path (qdd e.who):=by unfold qam;simp [hm',k2]
   rw [this,qsy hf]
 have hmp:mustP e=e.path:=by unfold mustP;rw [if_neg (by omega)]
 by_cases hf:findX T e.path=0
 ·have hf':findX T (mustP e)=0:=by rw [hmp];exact hf
  have h1:qam T e g=(T,1):=by unfold qam;simp [hm',k1,k2,k10,hf]
  have h2:stpX T e g=(noT,0,1):=by unfold stpX;rw [if_neg hm,if_pos hf']
  unfold qba
  rw [h1,h2]
  simp
 have hf':findX T (mustP e) ≠ 0:=by rw [hmp];exact hf
 obtain ⟨hkl,hid,hmem⟩:=qdq hT hf
 obtain ⟨k,hk⟩:∃ k,k=plc T (findX T e.path):=⟨_,rfl⟩
 have hkm:plc T (findX T (mustP e))=k:=by rw [hmp,hk]
 rw [<-hk] at hkl hid hmem
 obtain ⟨n1,n2,n3,n5,n6,n7,n9⟩:=qes hE k10
 have hap:qam T e g=if e.kind=3 then moveX T e.dest (findX T e.path) else if e.kind=4 then (dropT T (findX T e.path),0) else if e.kind=5\/e.kind=6 then setX T e k else qbr T e k g:=by
  unfold qam
  rw [if_neg hm,if_neg k10,if_neg k1,if_neg k2,if_neg hf,<-hk]
 by_cases k3:e.kind=3
 ·refine key k (qfc T (ndAt T k).id e.dest) _ 0 hf' hkm (by unfold refX;rw [if_neg k1,if_neg k2,if_pos k3]) rfl (tz _ (by omega) (by omega)) ?_ (fun _ _=>gz rfl (by omega) (by omega))
  rw [hap,if_pos k3,<-hid,move_is hT hmem]
  have:chT T e k g=moveT T e.dest (ndAt T k).id:=by
   unfold chT moveT
   rw [if_neg k1,if_neg k2,if_pos k3,hid,<-hk]
  rw [this]
 by_cases k4:e.kind=4
 ·have hnm:named e.path=true:=by
   unfold qhi at n3
   simp [k4] at n3
   exact n3.1.1
  have hok:=dropT_ok hT hf (named_low hT hnm hf)
  refine key k 0 _ 0 hf' hkm (by unfold refX;simp [k4]) rfl (tz _ (by omega) (by omega)) ?_ (fun _ _=>gz rfl (by omega) (by omega))
  have:chT T e k g=dropT T (findX T e.path):=by unfold chT;simp [k4,hid]
  rw [hap,if_neg k3,if_pos k4,this,hok]
  simp
 by_cases k5:e.kind=5
 ·have hok:=qrj (e:=e) hT hkl (.inl ⟨k5,n5 k5⟩)
  refine key k (qcu (ndAt T k)) _ 0 hf' hkm (by unfold refX;simp [k5]) rfl (tz _ (by omega) (by omega)) ?_ (fun _ _=>gz rfl (by omega) (by omega))
  have hc:chT T e k g=setN T k { ndAt T k with schema:=e.num }:=by unfold chT;simp [k5]
  rw [hap,if_neg k3,if_neg k4,if_pos (.inl k5),hc]
  unfold setX at hok ⊢
  unfold qcu
  by_cases hd:(ndAt T k).dir=false
  ·rw [if_pos hd,if_pos hd];rfl
  ·rw [if_neg hd,if_pos k5] at hok
   rw [if_neg hd,if_neg hd,if_pos k5]
   simp only [hok]
   rfl
 by_cases k6:e.kind=6
 ·have hok:=qrj (e:=e) hT hkl (.inr ⟨k6,n6 k6⟩)
  refine key k (qeq T (ndAt T k) e.num) _ 0 hf' hkm (by unfold refX;simp [k6]) rfl (tz _ (by omega) (by omega)) ?_ (fun _ _=>gz rfl (by omega) (by omega))
  obtain ⟨x,hx⟩:∃ x,x = { ndAt T k with quota:=e.num }:=⟨_,rfl⟩
  have hc:chT T e k g=setN T k x:=by rw [hx];unfold chT;simp [k6]
  rw [hap,if_neg k3,if_neg k4,if_pos (.inr k6),hc]
  unfold setX at hok ⊢
  rw [<-hx] at hok ⊢
  by_cases hd:(ndAt T k).dir=false
  ·have hr:qeq T (ndAt T k) e.num=3:=by unfold qeq qcu;simp [hd]
   rw [if_pos hd,hr];rfl
  ·have hr:qeq T (ndAt T k) e.num=if 0<e.num/\e.num<usedX T (ndAt T k).id then 5 else 0:=by unfold qeq qcu;simp [hd]
   rw [if_neg hd,if_neg k5] at hok
   rw [if_neg hd,if_neg k5,hr]
   by_cases hq:0<e.num/\e.num<usedX T (ndAt T k).id
   ·rw [if_pos hq,if_pos hq];rfl
   ·rw [if_neg hq] at hok
    rw [if_neg hq,if_neg hq]
    simp only at hok
    rw [hok]
    rfl
 have hok:=writeX_ok (e:=e) (g:=g) hT hkl (fun h9 h8=>n7 (by omega)) n9 g1 g2
 have hap2:qam T e g=qbr T e k g:=by rw [hap,if_neg k3,if_neg k4,if_neg (by omega)]
 by_cases k9:e.kind=9
 ·refine key k (qbq (ndAt T k) false) _ 0 hf' hkm (by unfold refX;simp [k9]) rfl (tz _ (by omega) (by omega)) ?_ (fun _ _=>gz rfl (by omega) (by omega))
  have hc:chT T e k g=setN T k { ndAt T k with writer:=e.who }:=by unfold chT;simp [k9]
  rw [hap2,hc]
  unfold qbr at hok ⊢
  unfold qbq
  by_cases hd:(ndAt T k).dir=true
  ·rw [if_pos hd,if_pos hd];rfl
  ·rw [if_neg hd] at hok
   rw [if_neg hd,if_neg hd]
   by_cases hw:(ndAt T k).writer=0
   ·simp only [k9,hw] at hok ⊢
    simpa using hok
   ·simp [k9,hw]
 by_cases k8:e.kind=8
 ·refine key k (qbq (ndAt T k) true) _ 0 hf' hkm (by unfold refX;simp [k8]) rfl (tz _ (by omega) (by omega)) ?_ (fun _ _=>gz rfl (by omega) (by omega))
  have hc:chT T e k g=setN T k { ndAt T k with writer:=0 }:=by unfold chT;simp [k8]
  rw [hap2,hc]
  unfold qbr at hok ⊢
  unfold qbq
  by_cases hd:(ndAt T k).dir=true
  ·rw [if_pos hd,if_pos hd];rfl
  ·rw [if_neg hd] at hok
   rw [if_neg hd,if_neg hd]
   by_cases hw:(ndAt T k).writer=0
   ·simp [k8,hw]
   ·simp only [k8] at hok ⊢
    simp [hw] at hok ⊢
    exact hok
 have k7:e.kind=7:=by omega
 obtain ⟨x,hx⟩:∃ x,x = { ndAt T k with pieces:=(ndAt T k).pieces++newP g (qaw (ndAt T k).schema e.num),len:=(ndAt T k).len+e.num }:=⟨_,rfl⟩
 have hc:chT T e k g=setN T k x:=by rw [hx];unfold chT;simp [k7]
 have hxl:x.pieces.length=(ndAt T k).pieces.length+(qaw (ndAt T k).schema e.num).length:=by rw [hx,List.length_append,qeh]
 have ha9:qam T e g=(if qcr T (ndAt T k) e.num ≠ 0 then (T,qcr T (ndAt T k) e.num) else if qae (setN T k x)=false then (T,8) else (setN T k x,0)):=by
  rw [hap2]
  unfold qbr at hok ⊢
  rw [<-hx] at hok ⊢
  by_cases hd:(ndAt T k).dir=true
  ·have hr:qcr T (ndAt T k) e.num=3:=by unfold qcr qbq;simp [hd]
   rw [if_pos hd,hr];rfl
  ·rw [if_neg hd] at hok
   rw [if_neg hd]
   by_cases hw:(ndAt T k).writer=0
   ·have hr:qcr T (ndAt T k) e.num=6:=by unfold qcr qbq;simp [hd,hw]
    rw [hr]
    simp [k7,hw]
   ·have e1:((e.kind==9) != ((ndAt T k).writer==0))=false:=by simp [k7,hw]
    have hfr:qbq (ndAt T k) true=0:=by unfold qbq;simp [hd,hw]
    have hr:qcr T (ndAt T k) e.num=if roomX T (ndAt T k).id e.num=false\/1000<(ndAt T k).len+e.num then 5 else 0:=by unfold qcr;rw [hfr,if_neg (by decide)]
    rw [e1,if_neg (by decide),if_neg k9,if_neg k8] at hok
    rw [e1,if_neg (by decide),if_neg k9,if_neg k8,hr]
    by_cases hro:roomX T (ndAt T k).id e.num=false\/1000<(ndAt T k).len+e.num
    ·rw [if_pos hro,if_pos hro];rfl
    ·rw [if_neg hro] at hok
     rw [if_neg hro,if_neg hro]
     by_cases h40:40<(ndAt T k).pieces.length+(qaw (ndAt T k).schema e.num).length
     ·rw [if_pos h40,too_many hkl (by rw [hxl];exact h40)]
      rfl
     ·rw [if_neg h40] at hok
      simp only at hok
      rw [if_neg h40,hok]
      rfl
 refine key k (qcr T (ndAt T k) e.num) (setN T k x) _ hf' hkm (by unfold refX;simp [k7]) hc rfl ha9 (fun q1 q2=>?_)
 have ha:qam T e g=(setN T k x,0):=by rw [ha9,q1,q2];rfl
 unfold qba takX
 rw [ha,if_neg (by simp),if_neg k10,if_neg (by simp [k7]),if_pos k7,<-hk,qsz hkl,hxl]
 push_cast
 omega
end Go.Proofs.YtoglebfiobofoaaGreatDoor
/- TInt: . -/
namespace Go.Proofs.YtoglebfiobofoaaGreatDoor
set_option maxRecDepth 100000
set_option maxHeartbeats 16000000
open Go.RowKit
attribute [local go_sem ↓] Go.wp_at_zero Go.wp_at_succ
variable {T:TM}
theorem qch {x:Int} (h:0<=x/\x<=1000000):(Lit.int .i64 x).wf=true:=by
 have h1:IntKind.i64.min<=0:=by decide
 have h2:1000000<=IntKind.i64.max:=by decide
 unfold Lit.wf
 simp
 omega
theorem qfd (h:qae T=true) {n:NM} (hn:n ∈ T.nodes):0<=n.id/\n.id<=1000000:=by
 have hp:=TP.of h
 have:=hp.pos hn
 have:=hp.lt n hn
 have:=hp.nx
 omega
theorem qem (h:qae T=true):NInt T.nodes:=by
 have hp:=TP.of h
 intro n hn
 refine ⟨qch (qfd h hn),?_⟩
 by_cases e:n.id=1
 ·rw [hp.one hn e];exact qch (by omega)
 ·obtain ⟨_,⟨p,hpm,ep,_⟩,_⟩:=hp.rest n hn e
  rw [<-ep]
  exact qch (qfd h hpm)
theorem MB.less {w0 w:World} {p:Nat × List Value} {L:List (Nat × List Value)} (h:MB w0 w (p::L)):MB w0 w L:=⟨fun q hq=>h.box q (List.mem_cons_of_mem _ hq),(List.pairwise_cons.1 h.dist).2,h.bel⟩
end Go.Proofs.YtoglebfiobofoaaGreatDoor
/- StN: . -/
namespace Go.Proofs.YtoglebfiobofoaaGreatDoor
set_option maxRecDepth 100000
set_option maxHeartbeats 16000000
variable {x:NM} {k:Nat} {T:TM}
def Smx (n:NM):Prop:=(0<=n.id/\n.id<=1000000)/\(0<=n.parent/\n.parent<=1000000)/\n.name.size+n.pieces.length<=2000
theorem qlm (h:qae T=true) {n:NM} (hn:n ∈ T.nodes):Smx n:=by
 have hp:=TP.of h
 obtain ⟨i,hi,e⟩:=List.getElem_of_mem hn
 have h1:=qbl h i hi
 rw [e] at h1
 refine ⟨qfd h hn,?_,by omega⟩
 by_cases e1:n.id=1
 ·rw [hp.one hn e1];omega
 ·obtain ⟨_,⟨q,hq,eq,_⟩,_⟩:=hp.rest n hn e1
  rw [<-eq]
  exact qfd h hq
theorem qln (h:qae T=true) (p:ByteArray):0<=findX T p/\findX T p<=1000000:=by
 by_cases h0:findX T p=0
 ·rw [h0];omega
 ·obtain ⟨_,h2,h3⟩:=qdq h h0
  rw [<-h2]
  exact qfd h h3
theorem spanL_len (S n:Nat) (h:1<=n):(spanL S n).length<=n:=by
 unfold spanL
 rw [List.length_append,List.length_replicate,List.length_singleton]
 have:=Nat.div_le_self (n - 1) S
 omega
theorem qjz (s n:Int) (h:n<=1000):(qaw s n).length<=1000:=by
 unfold qaw
 split
 ·rename_i q
  have:=spanL_len (qbh s) n.toNat (by omega)
  omega
 ·simp
theorem set_small (h:∀ n ∈ T.nodes,Smx n) (hx:Smx x):∀ n ∈ (setN T k x).nodes,Smx n:=by
 intro n hn
 rcases List.mem_or_eq_of_mem_set hn with q | q
 ·exact h n q
 ·rw [q];exact hx
theorem qok {p:ByteArray} (ht:qae T=true) (hx:x.pieces=[]):∀ n ∈ (addT T p x).nodes,Smx n:=by
 intro n hn
 unfold addT at hn
 rcases List.mem_append.1 hn with q | q
 ·exact qlm ht q
 ·rw [List.mem_singleton.1 q]
  have h1:=qic ht
  have h2:=(qbf ht).2.2
  have h3:=qbb p
  refine ⟨⟨by show (0:Int)<=T.next;omega,by show T.next<=1000000;omega⟩,qln ht (qab p).1,?_⟩
  show (qab p).2.1.size+x.pieces.length<=2000
  rw [hx]
  simp
  omega
theorem ch_small {e:EM} {g:Int} (h:qae T=true) (hE:qat e=true) (hk:k<T.nodes.length):(∀ n ∈ (chT T e k g).nodes,Smx n)/\(chT T e k g).nodes.length<=15:=by
 have ha:∀ n ∈ T.nodes,Smx n:=fun n hn=>qlm h hn
 have hl:=(qbf h).2.1
 have hx:=ha _ (List.getElem_mem hk)
 rw [<-qdx hk] at hx
 have hp:=qbl h k hk
 rw [<-qdx hk] at hp
 have hset:∀ x,Smx x->(∀ n ∈ (setN T k x).nodes,Smx n)/\(setN T k x).nodes.length<=15:=fun x q=>⟨set_small ha q,by unfold setN;rw [List.length_set];omega⟩
 unfold chT
 split
 ·exact ⟨qok h rfl,by unfold addT;simp;omega⟩
 split
 ·exact ⟨qok h rfl,by unfold addT;simp;omega⟩
 split
 ·exact hset _ ⟨hx.1,qln h (qab e.dest).1,by have h3:=qbb e.dest;show (qab e.dest).2.1.size+(ndAt T k).pieces.length<=2000;omega⟩
 split
 ·refine ⟨fun n hn=>ha n (List.mem_filter.1 hn).1,?_⟩
  have:(dropT T (ndAt T k).id).nodes.length<=T.nodes.length:=List.length_filter_le _ _
  omega
 split
 ·exact hset _ hx
 split
 ·exact hset _ hx
 split
 ·rename_i k7
  have hn7:=(qes hE (by omega)).2.2.2.2.2.1 k7
  refine hset _ ⟨hx.1,hx.2.1,?_⟩
  have h3:=qjz (ndAt T k).schema e.num (by omega)
  show (ndAt T k).name.size+((ndAt T k).pieces++newP g (qaw (ndAt T k).schema e.num)).length<=2000
  rw [List.length_append,qeh]
  omega
 split
 ·exact hset _ hx
 split
 ·exact hset _ hx
 ·exact ⟨ha,by omega⟩
theorem small_fit (h:∀ n ∈ T.nodes,Smx n) (hl:T.nodes.length<=15):NFit T/\NInt T.nodes:=by
 refine ⟨?_,fun n hn=>⟨qch (h n hn).1,qch (h n hn).2.1⟩⟩
 have:=qri T.nodes 2000 (fun n hn=>(h n hn).2.2)
 unfold NFit
 have h2:2000*T.nodes.length<=2000*15:=Nat.mul_le_mul_left _ hl
 omega
theorem span_ne {s n:Int} (hs:1<=s/\s<=3) (h1:1<=n) (h2:n<=1000):qaw s n ≠ []:=by
 unfold qaw
 rw [if_pos ⟨by unfold schOk;simp;omega,h1,h2⟩]
 unfold spanL
 simp
end Go.Proofs.YtoglebfiobofoaaGreatDoor
/- LkE: . -/
namespace Go.Proofs.YtoglebfiobofoaaGreatDoor
set_option maxRecDepth 100000
set_option maxHeartbeats 16000000
open Go.RowKit Go.Maps
attribute [local go_sem ↓] Go.wp_at_zero Go.wp_at_succ
variable {ns:List NM} {w:World}
structure Nd (w:World) (ns:List NM) (G:Nat->Nat):Prop where
 cells:∀ i (hi:i<ns.length),w.cell? ⟨G i,0,none⟩=some (.int .i64 ns[i].id)/\w.cell? ⟨G i,1,none⟩=some (.int .i64 ns[i].parent)/\w.cell? ⟨G i,2,none⟩=some (.string ns[i].name)/\w.cell? ⟨G i,3,none⟩=some (.bool ns[i].dir)/\w.cell? ⟨G i,4,none⟩=some (.int .i64 ns[i].schema)/\w.cell? ⟨G i,5,none⟩=some (.int .i64 ns[i].quota)/\G i<w.heap.size
 above:∀ i (hi:i<ns.length),fid ns ns[i].id=some i->w.cell? ⟨G i,9,none⟩=some (ptrV ((fid ns ns[i].parent).map G))
theorem Lk.nd {B b1 b2:Nat} {rs:List NR} {G:Nat->Nat} {C:Int->Nat} (h:Lk w B b1 b2 rs G C (Ab (nds rs) fun _=>false)):Nd w (nds rs) G:=by
 refine ⟨fun i hi=>?_,fun i hi hf=>?_⟩
 ·have hi':i<rs.length:=by rwa [qaf] at hi
  have hc:=(h.cells i hi').1
  have e:(nds rs)[i]=rs[i].nd:=by simp [nds]
  rw [e]
  exact ⟨(hc.2 0 _ rfl).1,(hc.2 1 _ rfl).1,(hc.2 2 _ rfl).1,(hc.2 3 _ rfl).1,(hc.2 4 _ rfl).1,(hc.2 5 _ rfl).1,hc.1⟩
 ·have hi':i<rs.length:=by rwa [qaf] at hi
  have hc:=((h.cells i hi').1.2 9 _ rfl).1
  have:Ab (nds rs) (fun _=>false) i=fid (nds rs) (nds rs)[i].parent:=by
   unfold Ab
   rw [getD_in hi,if_pos ⟨hf,rfl⟩]
  rw [this] at hc
  exact hc
theorem Nd.below {w w':World} {G:Nat->Nat} (h:Nd w ns G) (hb:Below w.heap.size w w'):Nd w' ns G:=by
 refine ⟨fun i hi=>?_,fun i hi hf=>?_⟩
 ·obtain ⟨c0,c1,c2,c3,c4,c5,hl⟩:=h.cells i hi
  exact ⟨(hb.cell hl).trans c0,(hb.cell hl).trans c1,(hb.cell hl).trans c2,(hb.cell hl).trans c3,(hb.cell hl).trans c4,(hb.cell hl).trans c5,Nat.lt_of_lt_of_le hl hb.size⟩
 ·exact (hb.cell (h.cells i hi).2.2.2.2.2.2).trans (h.above i hi hf)
theorem qbt (g:Nat):ptrV (some g) = .pointer (some ⟨g,0,none⟩):=rfl
theorem qbu:ptrV none = .pointer none:=rfl
theorem reaches_any {G:Nat->Nat} (h:Nd w ns G) (ha:Asc ns) {i:Nat} (hi:i<ns.length) :
  Calls Tryz.prog 179 #[.pointer (some ⟨G i,0,none⟩)] w fun e w'=>e = .returned (.bool (clm ns 4 i))/\w'=w:=by
 have HN:=Sh.mk h
 have HA:=Sh.mk ha
 clear h ha
 obtain ⟨R,hR⟩:∃ R,R=clm ns 4 i:=⟨_,rfl⟩
 rw [<-hR]
 have HR:=Sh.mk hR
 clear hR
 go_enter Tryz.func179,Tryz.ntmps179
 go_wp2_with fail
 go_loopw [0,3] (fun p c wr=>∃ (k j:Nat),p = .pointer (some ⟨G j,0,none⟩)/\c = .int .i64 k/\k<=4/\j<ns.length/\Sh (clm ns (4 - k) j=R)/\wr=w) (fun _ c _=>4 - (intOf c).toNat)
 case atStart=>exact ⟨0,i,rfl,rfl,by omega,hi,⟨HR.1.symm⟩,rfl⟩
 case round =>
  obtain ⟨k,j,rfl,rfl,hk,hj,hc,rfl⟩:=hrel
  obtain ⟨c0,_,_,_,_,_,hl⟩:=HN.1.cells j hj
  have c9:=HN.1.above j hj (HA.1.fid hj)
  have hid:=HA.1.id_one hj
  have hge:=getD_in hj
  obtain ⟨x,hx⟩:∃ x,x=ns[j]:=⟨_,rfl⟩
  rw [<-hx] at c0 c9 hge
  rw [hge] at hid
  have HGE:=Sh.mk hge
  have HID:=Sh.mk hid
  clear hx hge hid
  obtain ⟨o,ho⟩:∃ o,o=fid ns x.parent:=⟨_,rfl⟩
  rw [<-ho] at c9
  have HO:=Sh.mk ho
  clear ho
  by_cases h4:k<4
  ·have h4':(k:Int)<4:=by omega
   cases o with
   | none =>
    simp only [Option.map_none,qbu] at c9
    go_wp2_with fail
    go_ret
    refine ⟨?_,rfl⟩
    have:=hc.1
    rw [qmg (by rw [HGE.1,<-HO.1]),HGE.1] at this
    rw [<-this]
    rfl
   | some m =>
    simp only [Option.map_some,qbt] at c9
    go_wp2_with fail
    go_roundw
    case rel =>
     have h5:=hc.1
     have e:4 - k=(4 - (k+1))+1:=by omega
     rw [e,qmh (k:=m) (by rw [HGE.1,<-HO.1])] at h5
     exact ⟨k+1,m,rfl,by go_num,by omega,(qbw HO.1.symm).1,⟨h5⟩,trivial⟩
    case measure=>simp [intOf];omega
  ·have h4':¬ (k:Int)<4:=by omega
   go_wp2_with fail
   go_ret
   refine ⟨?_,rfl⟩
   have:=hc.1
   obtain rfl:k=4:=by omega
   have e4:clm ns (4 - 4) j=((ns.getD j default).id==1):=rfl
   rw [e4,HGE.1] at this
   rw [<-this]
   rfl
theorem isBelow_any {G:Nat->Nat} (h:Nd w ns G) (ht:Tall ns) {i:Nat} (hi:i<ns.length) (top:Int) :
  Calls Tryz.prog 191 #[.pointer (some ⟨G i,0,none⟩),.int .i64 top] w fun e w'=>e = .returned (.bool (blw ns i top))/\w'=w:=by
 have HN:=Sh.mk h
 have HA:=Sh.mk ht.1
 obtain ⟨d0,hd0,hu0⟩:=ht.2 i hi
 have HU:=Sh.mk hu0
 obtain ⟨R,hR⟩:∃ R,R=blw ns i top:=⟨_,rfl⟩
 rw [<-hR]
 have HR:=Sh.mk hR
 clear hR h ht hu0
 go_enter Tryz.func191,Tryz.ntmps191
 go_wp2_with fail
 go_loopg [0] (d0+1) (fun m p wr=>(Sh (p = .pointer none/\R=false)\/Sh (∃ (j d r:Nat),p = .pointer (some ⟨G j,0,none⟩)/\m=d+1/\j<ns.length/\Ups ns j d/\(top ≠ 0->qal ns (d+2+r) (ns.getD j default).id top=R)/\(top=0->R=false)))/\wr=w)
 case atStart =>
  refine ⟨.inr ⟨i,d0,13 - d0,rfl,rfl,hi,HU.1,fun h0=>?_,fun h0=>?_⟩,rfl⟩
  ·rw [HR.1]
   unfold blw
   rw [show d0+2+(13 - d0)=15 by omega]
   simp [h0]
  ·rw [HR.1]
   unfold blw
   simp [h0]
 case round =>
  obtain ⟨hrel,rfl⟩:=hrel
  rcases hrel with ⟨rfl,rfl⟩ | ⟨j,d,r,rfl,rfl,hj,hu,h1,h2⟩
  ·go_wp2_with fail
   go_ret
   exact ⟨rfl,rfl⟩
  ·obtain ⟨c0,_,_,_,_,_,hl⟩:=HN.1.cells j hj
   have hf:=HA.1.fid hj
   have c9:=HN.1.above j hj hf
   have hge:=getD_in hj
   have hpos:=HA.1.pos hj
   obtain ⟨x,hx⟩:∃ x,x=ns[j]:=⟨_,rfl⟩
   rw [<-hx] at c0 c9 hge hpos hf
   rw [hge] at h1
   have HH:=Sh.mk (And.intro h1 (And.intro h2 (And.intro hu (And.intro hge hf))))
   obtain ⟨o,ho⟩:∃ o,o=fid ns x.parent:=⟨_,rfl⟩
   rw [<-ho] at c9
   have HO:=Sh.mk ho
   clear ho h1 h2 hu hge hf hx
   by_cases ht:x.id=top
   ·have HT:=Sh.mk hpos
    clear hpos
    subst ht
    go_wp2_with fail
    go_ret
    refine ⟨?_,rfl⟩
    have h1:=HH.1.1 (by have:=HT.1;omega)
    rw [show d+2+r=(d+1+r)+1 by omega,qke rfl] at h1
    rw [<-h1]
    rfl
   ·cases o with
    | none =>
     simp only [Option.map_none,qbu] at c9
     go_wp2_with fail
     go_roundg 0
     case measure=>omega
     case rel =>
      obtain ⟨h1,h2,hu,hge,hf⟩:=HH.1
      refine ⟨.inl ⟨⟨rfl,?_⟩⟩,rfl⟩
      by_cases h0:top=0
      ·exact h2 h0
      ·have h3:=h1 h0
       rw [show d+2+r=((d+r)+1)+1 by omega,qdn ht hf,hge] at h3
       rw [<-h3]
       cases hu with
       | root =>
        have e0:=HA.1.2.2.2
        rw [hge] at e0
        rw [e0]
        exact qep (fun e=>h0 e.symm) HA.1.zero
       | step _ _ hk _ =>
        rw [hge,<-HO.1] at hk
        cases hk
    | some k =>
     simp only [Option.map_some,qbt] at c9
     go_wp2_with fail
     go_roundg d
     case measure=>omega
     case rel =>
      obtain ⟨h1,h2,hu,hge,hf⟩:=HH.1
      refine ⟨.inr ⟨?_⟩,rfl⟩
      cases hu with
      | root =>
       have e0:=HA.1.2.2.2
       have h4:=HO.1
       rw [hge] at e0
       rw [e0,HA.1.zero] at h4
       cases h4
      | @step _ k' d' _ _ hk hu' =>
       rw [hge,<-HO.1] at hk
       cases hk
       obtain ⟨hkl,ek⟩:=qbw HO.1.symm
       refine ⟨k,d',r,rfl,rfl,hkl,hu',fun h0=>?_,h2⟩
       have h3:=h1 h0
       rw [show d'+1+2+r=(d'+2+r)+1 by omega,qdn ht hf,hge,<-ek,<-getD_in hkl] at h3
       exact h3
end Go.Proofs.YtoglebfiobofoaaGreatDoor
/- LkF: . -/
namespace Go.Proofs.YtoglebfiobofoaaGreatDoor
set_option maxRecDepth 100000
set_option maxHeartbeats 16000000
open Go.RowKit Go.Maps BigFrame
attribute [local go_sem ↓] Go.wp_at_zero Go.wp_at_succ
theorem placeOk_any {w:World} {B b1 b2:Nat} {rs:List NR} {G:Nat->Nat} {C:Int->Nat} (h:Lk w B b1 b2 rs G C (Ab (nds rs) fun _=>false)) (ha:Asc (nds rs)) (hI:NInt (nds rs)) (hS:∀ n ∈ nds rs,n.name.size<=1048576) {i:Nat} (hi:i<rs.length) :
  Calls Tryz.prog 155 #[.agg #[.map (some b1),.map (some b2)],nv rs[i]] w fun e w'=>e = .returned (.bool (qey (nds rs) i))/\Below w.heap.size w w':=by
 have hi':i<(nds rs).length:=by rw [qaf];exact hi
 have he:(nds rs).getD i default=rs[i].nd:=by rw [getD_in hi'];simp [nds]
 have hmem:rs[i].nd ∈ nds rs:=List.mem_map.2 ⟨_,List.getElem_mem hi,rfl⟩
 have f1:=(hI _ hmem).1
 have f2:=(hI _ hmem).2
 have f3:=hS _ hmem
 have hfi:=ha.fid hi'
 rw [<-getD_in hi',he] at hfi
 obtain ⟨r,hr⟩:∃ r,r=rs[i]:=⟨_,rfl⟩
 rw [<-hr] at he f1 f2 f3 hfi ⊢
 obtain ⟨R,hR⟩:∃ R,R=qey (nds rs) i:=⟨_,rfl⟩
 rw [<-hR]
 have HR:=Sh.mk hR
 have HE:=Sh.mk he
 have HL:=Sh.mk h
 have HA:=Sh.mk ha
 have HF:=Sh.mk hfi
 clear hR he h ha hI hS hmem hr hfi
 go_enter Tryz.func155,Tryz.ntmps155
 go_upto_region 1 with fail
 refine qaa (fun W=>Below w.heap.size w W/\WCells W w.heap.size [.map (some b1),.map (some b2)]/\WCells W (w.heap.size+1) (qaj r)) ?_ ?_
 ·refine ⟨((Below.refl _ _).alloc (Nat.le_refl _) _).alloc (by simp) _,(qad w #[.map (some b1),.map (some b2)] 213).alloc _,?_⟩
  have:=qad (w.alloc (.cells #[.map (some b1),.map (some b2)] 213)) #[.int .i64 r.nd.id,.int .i64 r.nd.parent,.string r.nd.name,.bool r.nd.dir,.int .i64 r.nd.schema,.int .i64 r.nd.quota,.int .i64 r.nd.len,.slice r.loc r.nd.pieces.length r.cap,.int .i64 r.nd.writer] 87
  simpa [qaj] using this
 intro W hW
 obtain ⟨hb,hx,hn⟩:=hW
 have HB:=Sh.mk hb
 have b0:=(hx.2 0 _ rfl).1
 have b1':=(hx.2 1 _ rfl).1
 have n0:=(hn.2 0 _ rfl).1
 have n1:=(hn.2 1 _ rfl).1
 have n2:=(hn.2 2 _ rfl).1
 have HX:=Sh.mk hn
 have hL:=HL.1.below hb
 have HLW:=Sh.mk hL
 have hpar:Par (nds rs) r.nd.parent:=⟨_,List.getElem_mem hi',by rw [<-getD_in hi',HE.1]⟩
 obtain ⟨k,hk⟩:∃ k,fnm (nds rs) r.nd.parent r.nd.name=some k:=by
  cases hf:fnm (nds rs) r.nd.parent r.nd.name with
  | some k=>exact ⟨k,rfl⟩
  | none=>exact absurd (by rw [<-getD_in hi',HE.1]) (qqd hf _ (List.getElem_mem hi') (by rw [<-getD_in hi',HE.1]))
 obtain ⟨D1,o1,t1⟩:=hL.m1
 have k1:=qcx keyI Tryz.underlying210 qgn o1 (qcc f1) (t1 r.nd.id)
 rw [HF.1] at k1
 obtain ⟨D2,o2,t2⟩:=hL.m2
 have k2:=qgq keyI Tryz.underlying211 qnk o2 (qcc f2) ((t2 r.nd.parent).1 hpar)
 obtain ⟨d1,d2,d3,D3,o3,t3⟩:=hL.m3 r.nd.parent hpar
 have k3:=qcx keyS Tryz.underlying239 qgn o3 (qje (by unfold maxLen;omega)) (t3 r.nd.name)
 rw [hk] at k3
 simp only [Option.map_some,qbt] at k1 k3
 have em:∀ g,mapV (some g) = .map (some g):=fun _=>rfl
 rw [em] at k2
 have HK:=Sh.mk hk
 have HP:=Sh.mk hpar
 clear hb hx hn hL hpar hk o1 t1 o2 t2 o3 t3 em d1 d2 d3
 go_quiet (fail)
 go_upto_region 2 with fail
 refine qaa (fun W2=>Below W.heap.size W W2) (Below.mono (B:=(W.drewN nq).heap.size) ⟨rfl,rfl,rfl,Nat.le_refl _,fun _ _=>rfl⟩ (Nat.le_refl _)) ?_
 intro V hV
 have HV:=Sh.mk hV
 have hnd:=(HLW.1.below hV).nd
 have HND:=Sh.mk hnd
 have hn:=HX.1.grow hV
 have hln:=hn.1
 have hkl:=(qlc HK.1).1
 have ck0:=(hnd.cells k hkl).1
 have lk:=(hnd.cells k hkl).2.2.2.2.2.2
 have ci9:=hnd.above i hi' (HA.1.fid hi')
 have li:=(hnd.cells i hi').2.2.2.2.2.2
 have hei:(nds rs)[i]=r.nd:=by rw [<-getD_in hi',HE.1]
 rw [hei] at ci9
 have g0:∀ X:Grow V,X.val.cell? ⟨w.heap.size+1,0,none⟩=some (.int .i64 r.nd.id):=fun X=>X.cell (hn.2 0 _ rfl).1 hln
 have g2:∀ X:Grow V,X.val.cell? ⟨w.heap.size+1,2,none⟩=some (.string r.nd.name):=fun X=>X.cell (hn.2 2 _ rfl).1 hln
 have gk:∀ X:Grow V,X.val.cell? ⟨G k,0,none⟩=some (.int .i64 (nds rs)[k].id):=fun X=>X.cell ck0 lk
 have gi:∀ X:Grow V,X.val.cell? ⟨G i,9,none⟩=some (ptrV ((fid (nds rs) r.nd.parent).map G)):=fun X=>X.cell ci9 li
 have hnm:=fun X=>qfn (w:=V) (fun W' (_:Below V.heap.size V W')=>qlf r.nd.name W' f3) X
 have hre:=fun X=>calls_same (w:=V) (fun W' (hb':Below V.heap.size V W')=>reaches_any (HND.1.below hb') HA.1 hi') X
 have hRR:R=(nameB r.nd.name&&((nds rs)[k].id==r.nd.id)&&dirB (nds rs) r.nd.parent&&clm (nds rs) 4 i):=by
  rw [HR.1]
  unfold qey
  rw [qjj (k:=k) (by rw [HE.1];exact HK.1),HE.1,getD_in hkl]
 have HRR:=Sh.mk hRR
 have HNM:=Sh.mk hnm
 have HRE:=Sh.mk hre
 obtain ⟨xid,hxid⟩:∃ x,x=(nds rs)[k].id:=⟨_,rfl⟩
 rw [<-hxid] at gk HRR
 obtain ⟨o,ho⟩:∃ o,o=fid (nds rs) r.nd.parent:=⟨_,rfl⟩
 rw [<-ho] at gi
 have HO:=Sh.mk ho
 have HEND:Sh (∀ X:Grow V,Below w.heap.size w X.val):=⟨fun X=>HB.1.trans ((HV.1.trans (X.bel.mono HV.1.size)).mono HB.1.size)⟩
 have HDIR:Sh (∀ m,o=some m->∀ X:Grow V,X.val.cell? ⟨G m,3,none⟩=some (.bool ((nds rs).getD m default).dir)):=⟨fun m hm X=>by
  rw [hm] at ho
  obtain ⟨hml,_⟩:=qbw ho.symm
  obtain ⟨_,_,_,cm3,_,_,lm⟩:=hnd.cells m hml
  rw [getD_in hml]
  exact X.cell cm3 lm⟩
 generalize clm (nds rs) 4 i=cl at HRR HRE
 clear hnm hre hRR hxid ho hnd hn hln ck0 ci9 hei hkl li lk k1 k2 k3 b0 b1' n0 n1 n2 hV
 cases hN:nameB r.nd.name with
 | false =>
  rw [hN] at HNM HRR
  refine qai (by kernel_rfl) (by kernel_rfl) ?_
  repeat (go_big_quiet_step (first | (go_at_call 178;exact HNM.1 _) | (go_at_call 179;exact HRE.1 _)))
  refine wpQuiet_nil ?_
  rintro _ ⟨X,rfl⟩
  go_wp2_with fail
  go_ret
  refine ⟨?_,HEND.1 X⟩
  rw [HRR.1]
  rfl
 | true =>
  rw [hN] at HNM HRR
  by_cases hx:xid=r.nd.id
  ·cases o with
   | none =>
    simp only [Option.map_none,qbu] at gi
    have he2:(xid==r.nd.id)=true:=by simp [hx]
    rw [qnr HO.1.symm] at HRR
    refine qai (by kernel_rfl) (by kernel_rfl) ?_
    repeat (go_big_quiet_step (first | (go_at_call 178;exact HNM.1 _) | (go_at_call 179;exact HRE.1 _)))
    refine wpQuiet_nil ?_
    rintro _ ⟨X,rfl⟩
    go_wp2_with fail
    go_ret
    refine ⟨?_,HEND.1 X⟩
    rw [HRR.1]
    simp
   | some m =>
    simp only [Option.map_some,qbt] at gi
    have gd:=HDIR.1 m rfl
    rw [qnq HO.1.symm] at HRR
    have he2:(xid==r.nd.id)=true:=by simp [hx]
    cases hd:((nds rs).getD m default).dir with
    | false =>
     rw [hd] at gd
     refine qai (by kernel_rfl) (by kernel_rfl) ?_
     repeat (go_big_quiet_step (first | (go_at_call 178;exact HNM.1 _) | (go_at_call 179;exact HRE.1 _)))
     refine wpQuiet_nil ?_
     rintro _ ⟨X,rfl⟩
     go_wp2_with fail
     go_ret
     refine ⟨?_,HEND.1 X⟩
     rw [HRR.1]
     rw [hd]
     simp
    | true =>
     rw [hd] at gd
     refine qai (by kernel_rfl) (by kernel_rfl) ?_
     repeat (go_big_quiet_step (first | (go_at_call 178;exact HNM.1 _) | (go_at_call 179;exact HRE.1 _)))
     refine wpQuiet_nil ?_
     rintro _ ⟨X,rfl⟩
     go_wp2_with fail
     go_ret
     refine ⟨?_,HEND.1 X⟩
     rw [HRR.1]
     rw [hd,he2]
     simp
  ·have he2:(xid==r.nd.id)=false:=by simp [hx]
   refine qai (by kernel_rfl) (by kernel_rfl) ?_
   repeat (go_big_quiet_step (first | (go_at_call 178;exact HNM.1 _) | (go_at_call 179;exact HRE.1 _)))
   refine wpQuiet_nil ?_
   rintro _ ⟨X,rfl⟩
   go_wp2_with fail
   go_ret
   refine ⟨?_,HEND.1 X⟩
   rw [HRR.1]
   simp [hx]
end Go.Proofs.YtoglebfiobofoaaGreatDoor
