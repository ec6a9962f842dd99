/- The program's own: records of asks, one function a kind, in a table (written by gen/mkaki.py). -/
import Derived.Test.YtodgabdhgaglmaaAkP
import Derived.Handy
namespace Go.Proofs.Ytodgabdhgaglmaa
set_option maxRecDepth 100000
open Go.RowKit BigFrame
attribute [local go_sem ↓] Go.wp_at_zero Go.wp_at_succ
theorem stNoFn {P : Program} {w : World} {a : Addr} {m : Mode} : (store a .nilFunc m).run P w = stored P w a .nilFunc m := run_store P w a _ m rfl
theorem stFn {P : Program} {w : World} {a : Addr} {m : Mode} (f : Fn) (x y : Array Value) : (store a (.func f x y) m).run P w = stored P w a (.func f x y) m := run_store P w a _ m rfl
attribute [local go_sem] stNoFn stFn

set_option maxRecDepth 100000 in
theorem implToMake (kind who num : Int) (path dest text : ByteArray) (w : World) : Calls Try.prog 49 #[akv ⟨kind, who, path, dest, text, num⟩] w fun e w' => e = .returned (ev ⟨1, path, ⟨#[]⟩, 0, 0⟩) ∧ Below w.heap.size w w' := by
  go_enter Try.func49, Try.ntmps49
  go_wp2_with fail
  refine bodyPost_ret (v := ev ⟨1, path, ⟨#[]⟩, 0, 0⟩) (by simp [results, Try.results49, go_sem]) rfl ⟨rfl, ?_⟩
  exact ((Below.refl _ _).alloc (Nat.le_refl _) _).alloc (by simp) _
set_option maxRecDepth 100000 in
theorem implToCreate (kind who num : Int) (path dest text : ByteArray) (w : World) : Calls Try.prog 50 #[akv ⟨kind, who, path, dest, text, num⟩] w fun e w' => e = .returned (ev ⟨2, path, ⟨#[]⟩, 0, who⟩) ∧ Below w.heap.size w w' := by
  go_enter Try.func50, Try.ntmps50
  go_wp2_with fail
  refine bodyPost_ret (v := ev ⟨2, path, ⟨#[]⟩, 0, who⟩) (by simp [results, Try.results50, go_sem]) rfl ⟨rfl, ?_⟩
  exact ((Below.refl _ _).alloc (Nat.le_refl _) _).alloc (by simp) _
set_option maxRecDepth 100000 in
theorem implToAppend (kind who num : Int) (path dest text : ByteArray) (w : World) : Calls Try.prog 51 #[akv ⟨kind, who, path, dest, text, num⟩] w fun e w' => e = .returned (ev ⟨7, path, ⟨#[]⟩, (text.size : Int), 0⟩) ∧ Below w.heap.size w w' := by
  go_enter Try.func51, Try.ntmps51
  go_wp2_with fail
  refine bodyPost_ret (v := ev ⟨7, path, ⟨#[]⟩, (text.size : Int), 0⟩) (by simp [results, Try.results51, go_sem]) rfl ⟨rfl, ?_⟩
  exact ((Below.refl _ _).alloc (Nat.le_refl _) _).alloc (by simp) _
set_option maxRecDepth 100000 in
theorem implToClose (kind who num : Int) (path dest text : ByteArray) (w : World) : Calls Try.prog 52 #[akv ⟨kind, who, path, dest, text, num⟩] w fun e w' => e = .returned (ev ⟨8, path, ⟨#[]⟩, 0, 0⟩) ∧ Below w.heap.size w w' := by
  go_enter Try.func52, Try.ntmps52
  go_wp2_with fail
  refine bodyPost_ret (v := ev ⟨8, path, ⟨#[]⟩, 0, 0⟩) (by simp [results, Try.results52, go_sem]) rfl ⟨rfl, ?_⟩
  exact ((Below.refl _ _).alloc (Nat.le_refl _) _).alloc (by simp) _
set_option maxRecDepth 100000 in
theorem implToMove (kind who num : Int) (path dest text : ByteArray) (w : World) : Calls Try.prog 53 #[akv ⟨kind, who, path, dest, text, num⟩] w fun e w' => e = .returned (ev ⟨3, path, dest, 0, 0⟩) ∧ Below w.heap.size w w' := by
  go_enter Try.func53, Try.ntmps53
  go_wp2_with fail
  refine bodyPost_ret (v := ev ⟨3, path, dest, 0, 0⟩) (by simp [results, Try.results53, go_sem]) rfl ⟨rfl, ?_⟩
  exact ((Below.refl _ _).alloc (Nat.le_refl _) _).alloc (by simp) _
set_option maxRecDepth 100000 in
theorem implToDrop (kind who num : Int) (path dest text : ByteArray) (w : World) : Calls Try.prog 54 #[akv ⟨kind, who, path, dest, text, num⟩] w fun e w' => e = .returned (ev ⟨4, path, ⟨#[]⟩, 0, 0⟩) ∧ Below w.heap.size w w' := by
  go_enter Try.func54, Try.ntmps54
  go_wp2_with fail
  refine bodyPost_ret (v := ev ⟨4, path, ⟨#[]⟩, 0, 0⟩) (by simp [results, Try.results54, go_sem]) rfl ⟨rfl, ?_⟩
  exact ((Below.refl _ _).alloc (Nat.le_refl _) _).alloc (by simp) _
set_option maxRecDepth 100000 in
theorem implToRead (kind who num : Int) (path dest text : ByteArray) (w : World) : Calls Try.prog 55 #[akv ⟨kind, who, path, dest, text, num⟩] w fun e w' => e = .returned (ev ⟨0, ⟨#[]⟩, ⟨#[]⟩, 0, 0⟩) ∧ Below w.heap.size w w' := by
  go_enter Try.func55, Try.ntmps55
  go_wp2_with fail
  refine bodyPost_ret (v := ev ⟨0, ⟨#[]⟩, ⟨#[]⟩, 0, 0⟩) (by simp [results, Try.results55, go_sem]) rfl ⟨rfl, ?_⟩
  exact ((Below.refl _ _).alloc (Nat.le_refl _) _).alloc (by simp) _
set_option maxRecDepth 100000 in
theorem implToSchema (kind who num : Int) (path dest text : ByteArray) (w : World) : Calls Try.prog 56 #[akv ⟨kind, who, path, dest, text, num⟩] w fun e w' => e = .returned (ev ⟨5, path, ⟨#[]⟩, num, 0⟩) ∧ Below w.heap.size w w' := by
  go_enter Try.func56, Try.ntmps56
  go_wp2_with fail
  refine bodyPost_ret (v := ev ⟨5, path, ⟨#[]⟩, num, 0⟩) (by simp [results, Try.results56, go_sem]) rfl ⟨rfl, ?_⟩
  exact ((Below.refl _ _).alloc (Nat.le_refl _) _).alloc (by simp) _
set_option maxRecDepth 100000 in
theorem implToQuota (kind who num : Int) (path dest text : ByteArray) (w : World) : Calls Try.prog 57 #[akv ⟨kind, who, path, dest, text, num⟩] w fun e w' => e = .returned (ev ⟨6, path, ⟨#[]⟩, num, 0⟩) ∧ Below w.heap.size w w' := by
  go_enter Try.func57, Try.ntmps57
  go_wp2_with fail
  refine bodyPost_ret (v := ev ⟨6, path, ⟨#[]⟩, num, 0⟩) (by simp [results, Try.results57, go_sem]) rfl ⟨rfl, ?_⟩
  exact ((Below.refl _ _).alloc (Nat.le_refl _) _).alloc (by simp) _
set_option maxRecDepth 100000 in
theorem implToReopen (kind who num : Int) (path dest text : ByteArray) (w : World) : Calls Try.prog 58 #[akv ⟨kind, who, path, dest, text, num⟩] w fun e w' => e = .returned (ev ⟨9, path, ⟨#[]⟩, 0, who⟩) ∧ Below w.heap.size w w' := by
  go_enter Try.func58, Try.ntmps58
  go_wp2_with fail
  refine bodyPost_ret (v := ev ⟨9, path, ⟨#[]⟩, 0, who⟩) (by simp [results, Try.results58, go_sem]) rfl ⟨rfl, ?_⟩
  exact ((Below.refl _ _).alloc (Nat.le_refl _) _).alloc (by simp) _
/-- The table of what makes records. -/
abbrev akTab : Value := .agg #[.nilFunc, .func (.func 49) #[] #[], .func (.func 50) #[] #[], .func (.func 51) #[] #[], .func (.func 52) #[] #[], .func (.func 53) #[] #[], .func (.func 54) #[] #[], .func (.func 55) #[] #[], .func (.func 56) #[] #[], .func (.func 57) #[] #[], .func (.func 58) #[] #[]]
set_option maxRecDepth 100000 in
theorem implAskRecords (w : World) : Calls Try.prog 36 #[] w fun e w' => e = .returned akTab ∧ Below w.heap.size w w' := by
  go_enter Try.func36, Try.ntmps36
  go_wp2_with fail
  refine bodyPost_ret (v := akTab) (by simp [results, Try.results36, go_sem]) rfl ⟨rfl, ?_⟩
  exact ((Below.refl _ _).alloc (Nat.le_refl _) _)
end Go.Proofs.Ytodgabdhgaglmaa
