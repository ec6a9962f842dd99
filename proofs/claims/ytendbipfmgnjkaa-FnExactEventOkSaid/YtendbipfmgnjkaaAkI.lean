/- The program's own: records of asks, one function a kind, in a table (written by gen/mkaki.py). -/
import Derived.Test.YtendbipfmgnjkaaAkP
import Derived.Handy
namespace Go.Proofs.Ytendbipfmgnjkaa
set_option maxRecDepth 100000
open Go.RowKit BigFrame
attribute [local go_sem ↓] Go.wp_at_zero Go.wp_at_succ
theorem stNoFn {P : Program} {w : World} {a : Addr} {m : Mode} : (store a .nilFunc m).run P w = stored P w a .nilFunc m := run_store P w a _ m rfl
theorem stFn {P : Program} {w : World} {a : Addr} {m : Mode} (f : Fn) (x y : Array Value) : (store a (.func f x y) m).run P w = stored P w a (.func f x y) m := run_store P w a _ m rfl
attribute [local go_sem] stNoFn stFn

set_option maxRecDepth 100000 in
theorem implToMake (kind who num : Int) (path dest text : ByteArray) (w : World) : Calls Try.prog 103 #[akv ⟨kind, who, path, dest, text, num⟩] w fun e w' => e = .returned (ev ⟨1, path, ⟨#[]⟩, 0, 0⟩) ∧ Below w.heap.size w w' := by
  go_enter Try.func103, Try.ntmps103
  go_wp2_with fail
  refine bodyPost_ret (v := ev ⟨1, path, ⟨#[]⟩, 0, 0⟩) (by simp [results, Try.results103, go_sem]) rfl ⟨rfl, ?_⟩
  exact ((Below.refl _ _).alloc (Nat.le_refl _) _).alloc (by simp) _
set_option maxRecDepth 100000 in
theorem implToCreate (kind who num : Int) (path dest text : ByteArray) (w : World) : Calls Try.prog 104 #[akv ⟨kind, who, path, dest, text, num⟩] w fun e w' => e = .returned (ev ⟨2, path, ⟨#[]⟩, 0, who⟩) ∧ Below w.heap.size w w' := by
  go_enter Try.func104, Try.ntmps104
  go_wp2_with fail
  refine bodyPost_ret (v := ev ⟨2, path, ⟨#[]⟩, 0, who⟩) (by simp [results, Try.results104, go_sem]) rfl ⟨rfl, ?_⟩
  exact ((Below.refl _ _).alloc (Nat.le_refl _) _).alloc (by simp) _
set_option maxRecDepth 100000 in
theorem implToAppend (kind who num : Int) (path dest text : ByteArray) (w : World) : Calls Try.prog 105 #[akv ⟨kind, who, path, dest, text, num⟩] w fun e w' => e = .returned (ev ⟨7, path, ⟨#[]⟩, (text.size : Int), 0⟩) ∧ Below w.heap.size w w' := by
  go_enter Try.func105, Try.ntmps105
  go_wp2_with fail
  refine bodyPost_ret (v := ev ⟨7, path, ⟨#[]⟩, (text.size : Int), 0⟩) (by simp [results, Try.results105, go_sem]) rfl ⟨rfl, ?_⟩
  exact ((Below.refl _ _).alloc (Nat.le_refl _) _).alloc (by simp) _
set_option maxRecDepth 100000 in
theorem implToClose (kind who num : Int) (path dest text : ByteArray) (w : World) : Calls Try.prog 106 #[akv ⟨kind, who, path, dest, text, num⟩] w fun e w' => e = .returned (ev ⟨8, path, ⟨#[]⟩, 0, 0⟩) ∧ Below w.heap.size w w' := by
  go_enter Try.func106, Try.ntmps106
  go_wp2_with fail
  refine bodyPost_ret (v := ev ⟨8, path, ⟨#[]⟩, 0, 0⟩) (by simp [results, Try.results106, go_sem]) rfl ⟨rfl, ?_⟩
  exact ((Below.refl _ _).alloc (Nat.le_refl _) _).alloc (by simp) _
set_option maxRecDepth 100000 in
theorem implToMove (kind who num : Int) (path dest text : ByteArray) (w : World) : Calls Try.prog 107 #[akv ⟨kind, who, path, dest, text, num⟩] w fun e w' => e = .returned (ev ⟨3, path, dest, 0, 0⟩) ∧ Below w.heap.size w w' := by
  go_enter Try.func107, Try.ntmps107
  go_wp2_with fail
  refine bodyPost_ret (v := ev ⟨3, path, dest, 0, 0⟩) (by simp [results, Try.results107, go_sem]) rfl ⟨rfl, ?_⟩
  exact ((Below.refl _ _).alloc (Nat.le_refl _) _).alloc (by simp) _
set_option maxRecDepth 100000 in
theorem implToDrop (kind who num : Int) (path dest text : ByteArray) (w : World) : Calls Try.prog 108 #[akv ⟨kind, who, path, dest, text, num⟩] w fun e w' => e = .returned (ev ⟨4, path, ⟨#[]⟩, 0, 0⟩) ∧ Below w.heap.size w w' := by
  go_enter Try.func108, Try.ntmps108
  go_wp2_with fail
  refine bodyPost_ret (v := ev ⟨4, path, ⟨#[]⟩, 0, 0⟩) (by simp [results, Try.results108, go_sem]) rfl ⟨rfl, ?_⟩
  exact ((Below.refl _ _).alloc (Nat.le_refl _) _).alloc (by simp) _
set_option maxRecDepth 100000 in
theorem implToRead (kind who num : Int) (path dest text : ByteArray) (w : World) : Calls Try.prog 109 #[akv ⟨kind, who, path, dest, text, num⟩] w fun e w' => e = .returned (ev ⟨0, ⟨#[]⟩, ⟨#[]⟩, 0, 0⟩) ∧ Below w.heap.size w w' := by
  go_enter Try.func109, Try.ntmps109
  go_wp2_with fail
  refine bodyPost_ret (v := ev ⟨0, ⟨#[]⟩, ⟨#[]⟩, 0, 0⟩) (by simp [results, Try.results109, go_sem]) rfl ⟨rfl, ?_⟩
  exact ((Below.refl _ _).alloc (Nat.le_refl _) _).alloc (by simp) _
set_option maxRecDepth 100000 in
theorem implToSchema (kind who num : Int) (path dest text : ByteArray) (w : World) : Calls Try.prog 110 #[akv ⟨kind, who, path, dest, text, num⟩] w fun e w' => e = .returned (ev ⟨5, path, ⟨#[]⟩, num, 0⟩) ∧ Below w.heap.size w w' := by
  go_enter Try.func110, Try.ntmps110
  go_wp2_with fail
  refine bodyPost_ret (v := ev ⟨5, path, ⟨#[]⟩, num, 0⟩) (by simp [results, Try.results110, go_sem]) rfl ⟨rfl, ?_⟩
  exact ((Below.refl _ _).alloc (Nat.le_refl _) _).alloc (by simp) _
set_option maxRecDepth 100000 in
theorem implToQuota (kind who num : Int) (path dest text : ByteArray) (w : World) : Calls Try.prog 111 #[akv ⟨kind, who, path, dest, text, num⟩] w fun e w' => e = .returned (ev ⟨6, path, ⟨#[]⟩, num, 0⟩) ∧ Below w.heap.size w w' := by
  go_enter Try.func111, Try.ntmps111
  go_wp2_with fail
  refine bodyPost_ret (v := ev ⟨6, path, ⟨#[]⟩, num, 0⟩) (by simp [results, Try.results111, go_sem]) rfl ⟨rfl, ?_⟩
  exact ((Below.refl _ _).alloc (Nat.le_refl _) _).alloc (by simp) _
set_option maxRecDepth 100000 in
theorem implToReopen (kind who num : Int) (path dest text : ByteArray) (w : World) : Calls Try.prog 112 #[akv ⟨kind, who, path, dest, text, num⟩] w fun e w' => e = .returned (ev ⟨9, path, ⟨#[]⟩, 0, who⟩) ∧ Below w.heap.size w w' := by
  go_enter Try.func112, Try.ntmps112
  go_wp2_with fail
  refine bodyPost_ret (v := ev ⟨9, path, ⟨#[]⟩, 0, who⟩) (by simp [results, Try.results112, go_sem]) rfl ⟨rfl, ?_⟩
  exact ((Below.refl _ _).alloc (Nat.le_refl _) _).alloc (by simp) _
/-- The table of what makes records. -/
abbrev akTab : Value := .agg #[.nilFunc, .func (.func 103) #[] #[], .func (.func 104) #[] #[], .func (.func 105) #[] #[], .func (.func 106) #[] #[], .func (.func 107) #[] #[], .func (.func 108) #[] #[], .func (.func 109) #[] #[], .func (.func 110) #[] #[], .func (.func 111) #[] #[], .func (.func 112) #[] #[]]
set_option maxRecDepth 100000 in
theorem implAskRecords (w : World) : Calls Try.prog 93 #[] w fun e w' => e = .returned akTab ∧ Below w.heap.size w w' := by
  go_enter Try.func93, Try.ntmps93
  go_wp2_with fail
  refine bodyPost_ret (v := akTab) (by simp [results, Try.results93, go_sem]) rfl ⟨rfl, ?_⟩
  exact ((Below.refl _ _).alloc (Nat.le_refl _) _)
end Go.Proofs.Ytendbipfmgnjkaa
