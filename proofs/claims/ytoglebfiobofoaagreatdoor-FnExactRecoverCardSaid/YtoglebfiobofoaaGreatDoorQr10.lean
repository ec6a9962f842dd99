/- Texts of ours, laid one behind the other: LogJ, AsG. -/
import Derived.Test.YtoglebfiobofoaaGreatDoorQrLogI
import Derived.Test.YtoglebfiobofoaaGreatDoorQrAsF
import Derived.Test.YtoglebfiobofoaaGreatDoorQr1
import Derived.Tactics2
/- LogJ: . -/
namespace Go.Proofs.YtoglebfiobofoaaGreatDoor
set_option maxRecDepth 100000
set_option maxHeartbeats 16000000
open Go.RowKit
attribute [local go_sem ↓] Go.wp_at_zero Go.wp_at_succ
theorem qih {w:World} {B n sz t:Nat} {v:Value} {L:List Value} (h:w.ownsRow B t sz v n L):∃ a c,v = .slice a n c:=by
 obtain ⟨_,⟨rfl,rfl⟩ | ⟨g,cap,cur,rfl,_⟩⟩:=h
 ·exact ⟨_,_,rfl⟩
 ·exact ⟨_,_,rfl⟩
def fltV:Option Int->Value
 | none=>.nilIface
 | some c=>.iface 124 (.agg #[.int .i64 c])
theorem implHasFault (o:Option Int) (code:Int) (w:World) (hg:ErrT w):Calls Tryz.prog 36 #[fltV o,.int .i64 code] w fun e w'=>e = .returned (.bool (decide (o=some code)))/\Below w.heap.size w w':=by
 have hb0:Below w.heap.size w (w.alloc (.cells #[.int .i64 0] 124)):=(Below.refl _ _).alloc (Nat.le_refl _) _
 cases o with
 | none =>
  have HC:=Sh.mk (fun v W=>as_nil v W)
  have HB:=Sh.mk hb0
  unfold fltV
  clear hg hb0
  go_enter Tryz.func36,Tryz.ntmps36
  go_wp2_with (go_at_call 78;refine (HC.1 _ _).mono ?_;rintro e w1 ⟨rfl,rfl⟩)
  go_ret
  exact ⟨by simp,HB.1⟩
 | some c =>
  have hw:=qad w #[.int .i64 0] 124
  have HC:=Sh.mk (as_hit c w.heap.size (.int .i64 0) (w.alloc (.cells #[.int .i64 0] 124)) (hg.stays hb0) (hw.2 0 _ rfl).1 (hw.2 0 _ rfl).2 (by simp))
  have HB:=Sh.mk hb0
  unfold fltV
  clear hg hb0 hw
  go_enter Tryz.func36,Tryz.ntmps36
  go_wp2_with (go_at_call 78;refine HC.1.mono ?_;rintro e w1 ⟨rfl,rfl⟩)
  go_ret
  have hd:(c==code)=decide (some c=some code):=by by_cases h:c=code <;> simp [h]
  rw [hd]
  exact ⟨rfl,(((((Below.refl _ w).alloc (Nat.le_refl _) _).alloc (by simp) _).alloc (by simp;omega) _).alloc (by simp;omega) _).alloc (by simp;omega) _⟩
end Go.Proofs.YtoglebfiobofoaaGreatDoor
