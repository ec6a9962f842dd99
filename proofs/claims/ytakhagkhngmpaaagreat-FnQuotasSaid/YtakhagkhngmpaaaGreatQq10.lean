/- Texts of ours, laid one behind the other: StR, StF, CtB, IxA, ChA, ChB, ChC. -/
import Derived.Test.YtakhagkhngmpaaaGreatQq3
import Derived.Test.YtakhagkhngmpaaaGreatQq2
import Derived.Test.YtakhagkhngmpaaaGreatQq9
import Derived.Test.YtakhagkhngmpaaaGreatQq6
import Derived.Test.YtakhagkhngmpaaaGreatQq7
import Derived.Test.YtakhagkhngmpaaaGreatQq8
import Derived.Handy
/- StR: . -/
namespace Go.Proofs.YtakhagkhngmpaaaGreat
set_option maxRecDepth 100000
open Go.RowKit
attribute [local go_sem ↓] Go.wp_at_zero Go.wp_at_succ
def recV (e : EM) : Value :=
 if e.kind = 1 then .iface 157 (.agg #[.string e.path, .string (parentB e.path).1, .string (parentB e.path).2.1])
 else if e.kind = 2 then .iface 159 (.agg #[.string e.path, .string (parentB e.path).1, .string (parentB e.path).2.1, .int .i64 e.who])
 else if e.kind = 3 then .iface 161 (.agg #[.string e.path, .string e.dest, .string (parentB e.dest).1, .string (parentB e.dest).2.1])
 else if e.kind = 4 then .iface 163 (.agg #[.string e.path])
 else if e.kind = 5 then .iface 165 (.agg #[.string e.path, .int .i64 e.num])
 else if e.kind = 6 then .iface 167 (.agg #[.string e.path, .int .i64 e.num])
 else if e.kind = 7 then .iface 169 (.agg #[.string e.path, .int .i64 e.num])
 else if e.kind = 8 then .iface 170 (.agg #[.string e.path])
 else if e.kind = 9 then .iface 172 (.agg #[.string e.path, .int .i64 e.who])
 else .iface 173 (.agg #[.string e.path])
theorem placeOf_any (p : ByteArray) (w : World) (hp : p.size ≤ 1048576) : Calls Tryz.prog 133 #[.string p] w fun e w' => e = .returned (.agg #[.string p, .string (parentB p).1, .string (parentB p).2.1]) ∧ Below w.heap.size w w' := by
 have HP := Shut.mk (fun W => implParentPath p W hp)
 unfold ParPost at HP
 generalize (parentB p).1 = up at HP ⊢
 generalize (parentB p).2.1 = nm at HP ⊢
 generalize (parentB p).2.2 = ok at HP
 go_enter Tryz.func133, Tryz.ntmps133
 go_upto_region 1 with fail
 obtain ⟨gb, hgb⟩ : ∃ gb, gb = w.heap.size := ⟨_, rfl⟩
 refine wp_shade (fun W => MB w W [(gb, [.string ⟨#[]⟩, .string ⟨#[]⟩, .string ⟨#[]⟩])]) (by rw [hgb]; exact (MB.nil w).new #[.string ⟨#[]⟩, .string ⟨#[]⟩, .string ⟨#[]⟩] 154) ?_
 intro W1 hW1
 have HM := Shut.mk hW1
 rw [← hgb]
 clear hW1 hgb hp
 go_upto_region 2 with (go_at_call 157; refine (HP.out _).mono ?_; rintro e w1 ⟨rfl, hb⟩; replace HM := Shut.mk (HM.out.below hb); clear hb)
 obtain ⟨f0, g0⟩ := (HM.out.at 0 rfl).1.2 0 _ rfl
 obtain ⟨f1, g1⟩ := (HM.out.at 0 rfl).1.2 1 _ rfl
 obtain ⟨f2, g2⟩ := (HM.out.at 0 rfl).1.2 2 _ rfl
 go_wp2_with fail
 refine body_shade (fun W => MB w W [(gb, [.string p, .string up, .string nm])]) (((HM.out.put 0 rfl 0 (.string p) (by simp)).put 0 rfl 1 (.string up) (by simp)).put 0 rfl 2 (.string nm) (by simp)) ?_
 intro W9 hM
 have z0 := ((hM.at 0 rfl).1.2 0 _ rfl).1
 have z1 := ((hM.at 0 rfl).1.2 1 _ rfl).1
 have z2 := ((hM.at 0 rfl).1.2 2 _ rfl).1
 exact bodyPost_ret (v := .agg #[.string p, .string up, .string nm]) (by simp [results, Tryz.results133, go_sem, z0, z1, z2]) rfl ⟨rfl, hM.bel⟩
theorem recordOf1 (path dest : ByteArray) (num who : Int) (w : World) (hp : path.size ≤ 1048576) : Calls Tryz.prog 103 #[.agg #[.int .i64 1, .string path, .string dest, .int .i64 num, .int .i64 who]] w fun r w' => r = .returned (.iface 157 (.agg #[.string path, .string (parentB path).1, .string (parentB path).2.1])) ∧ Below w.heap.size w w' := by
 have HP := Shut.mk (fun W => placeOf_any path W hp)
 generalize (parentB path).1 = up at HP ⊢
 generalize (parentB path).2.1 = nm at HP ⊢
 clear hp
 go_enter Tryz.func103, Tryz.ntmps103
 go_upto_region 1 with fail
 obtain ⟨eb, heb⟩ : ∃ eb, eb = w.heap.size := ⟨_, rfl⟩
 refine wp_shade (fun W => MB w W [(eb, [.int .i64 1, .string path, .string dest, .int .i64 num, .int .i64 who])]) (by rw [heb]; exact (MB.nil w).new #[.int .i64 1, .string path, .string dest, .int .i64 num, .int .i64 who] 28) ?_
 intro W1 hW1
 have HM := Shut.mk hW1
 have x1 := ((HM.out.at 0 rfl).1.2 1 _ rfl).1
 rw [← heb]
 clear hW1 heb
 go_upto_region 2 with fail
 obtain ⟨nb, hnb⟩ : ∃ nb, nb = W1.heap.size := ⟨_, rfl⟩
 refine wp_shade (fun W => MB w W [(nb, [.string path]), (eb, [.int .i64 1, .string path, .string dest, .int .i64 num, .int .i64 who])]) (by rw [hnb]; exact HM.out.new #[.string path] 152) ?_
 intro W2 hW2
 clear x1 HM
 have HM := Shut.mk hW2
 have x0 := ((HM.out.at 1 rfl).1.2 0 _ rfl).1
 have x1 := ((HM.out.at 1 rfl).1.2 1 _ rfl).1
 have x2 := ((HM.out.at 1 rfl).1.2 2 _ rfl).1
 have x3 := ((HM.out.at 1 rfl).1.2 3 _ rfl).1
 have x4 := ((HM.out.at 1 rfl).1.2 4 _ rfl).1
 have y0 := ((HM.out.at 0 rfl).1.2 0 _ rfl).1
 rw [← hnb]
 clear hW2 hnb
 go_wp2_with (go_at_call 133; refine (HP.out _).mono ?_; rintro e w1 ⟨rfl, hb⟩; replace HM := Shut.mk (HM.out.below hb); clear hb x0 x1 x2 x3 x4 y0)
 go_ret
 exact ⟨rfl, HM.out.bel⟩
theorem recordOf2 (path dest : ByteArray) (num who : Int) (w : World) (hp : path.size ≤ 1048576) : Calls Tryz.prog 103 #[.agg #[.int .i64 2, .string path, .string dest, .int .i64 num, .int .i64 who]] w fun r w' => r = .returned (.iface 159 (.agg #[.string path, .string (parentB path).1, .string (parentB path).2.1, .int .i64 who])) ∧ Below w.heap.size w w' := by
 have HP := Shut.mk (fun W => placeOf_any path W hp)
 generalize (parentB path).1 = up at HP ⊢
 generalize (parentB path).2.1 = nm at HP ⊢
 clear hp
 go_enter Tryz.func103, Tryz.ntmps103
 go_upto_region 1 with fail
 obtain ⟨eb, heb⟩ : ∃ eb, eb = w.heap.size := ⟨_, rfl⟩
 refine wp_shade (fun W => MB w W [(eb, [.int .i64 2, .string path, .string dest, .int .i64 num, .int .i64 who])]) (by rw [heb]; exact (MB.nil w).new #[.int .i64 2, .string path, .string dest, .int .i64 num, .int .i64 who] 28) ?_
 intro W1 hW1
 have HM := Shut.mk hW1
 have x1 := ((HM.out.at 0 rfl).1.2 1 _ rfl).1
 rw [← heb]
 clear hW1 heb
 go_upto_region 2 with fail
 obtain ⟨nb, hnb⟩ : ∃ nb, nb = W1.heap.size := ⟨_, rfl⟩
 refine wp_shade (fun W => MB w W [(nb, [.string path]), (eb, [.int .i64 2, .string path, .string dest, .int .i64 num, .int .i64 who])]) (by rw [hnb]; exact HM.out.new #[.string path] 152) ?_
 intro W2 hW2
 clear x1 HM
 have HM := Shut.mk hW2
 have x0 := ((HM.out.at 1 rfl).1.2 0 _ rfl).1
 have x1 := ((HM.out.at 1 rfl).1.2 1 _ rfl).1
 have x2 := ((HM.out.at 1 rfl).1.2 2 _ rfl).1
 have x3 := ((HM.out.at 1 rfl).1.2 3 _ rfl).1
 have x4 := ((HM.out.at 1 rfl).1.2 4 _ rfl).1
 have y0 := ((HM.out.at 0 rfl).1.2 0 _ rfl).1
 rw [← hnb]
 clear hW2 hnb
 go_upto_region 6 with fail
 have HLE : Shut (∀ x, Later W2.drew x → x.cell? ⟨eb, 1, none⟩ = some (.string path) ∧ x.cell? ⟨eb, 2, none⟩ = some (.string dest) ∧ x.cell? ⟨eb, 4, none⟩ = some (.int .i64 who) ∧ x.cell? ⟨nb, 0, none⟩ = some (.string path)) := ⟨fun x hx => by
  have M := HM.out.below (Below.trans (Below.drew (Below.refl _ _)) hx)
  exact ⟨((M.at 1 rfl).1.2 1 _ rfl).1, ((M.at 1 rfl).1.2 2 _ rfl).1, ((M.at 1 rfl).1.2 4 _ rfl).1, ((M.at 0 rfl).1.2 0 _ rfl).1⟩⟩
 refine wp_region_later (by kernel_rfl) ?_
 refine wpL_val (i := 0) (v := ?va0) rfl (by kernel_rfl) (by kernel_rfl) (by kernel_rfl) (fun _ _ _ h => h) (by rfl) ?hya0 ?resta0
 case hya0 => (intro x hx; obtain ⟨d0, d1, d2, d3⟩ := HLE.out x hx; go_simp; try with_reducible rfl)
 try simp only [Act.put, qA, qB, qC]
 refine wpL_val (i := 1) (v := ?va1) rfl (by kernel_rfl) (by kernel_rfl) (by kernel_rfl) (fun _ _ _ h => h) (by rfl) ?hya1 ?resta1
 case hya1 => (intro x hx; obtain ⟨d0, d1, d2, d3⟩ := HLE.out x hx; go_simp; try with_reducible rfl)
 try simp only [Act.put, qA, qB, qC]
 refine wpL_call (i := 2) (v := .agg #[.string path, .string up, .string nm]) (f := 133) (args := #[.string path]) rfl (by kernel_rfl) (by kernel_rfl) (by kernel_rfl) (fun _ _ _ h => h) (by rfl) ?hya2 (fun x _ => HP.out x) ?resta2
 case hya2 => (intro x hx; obtain ⟨d0, d1, d2, d3⟩ := HLE.out x hx; go_simp; try with_reducible rfl)
 try simp only [Act.put, qA, qB, qC]
 refine wpL_val (i := 3) (v := ?va3) rfl (by kernel_rfl) (by kernel_rfl) (by kernel_rfl) (fun _ _ _ h => h) (by rfl) ?hya3 ?resta3
 case hya3 => (intro x hx; obtain ⟨d0, d1, d2, d3⟩ := HLE.out x hx; go_simp; try with_reducible rfl)
 try simp only [Act.put, qA, qB, qC]
 refine wpL_val (i := 4) (v := ?va4) rfl (by kernel_rfl) (by kernel_rfl) (by kernel_rfl) (fun _ _ _ h => h) (by rfl) ?hya4 ?resta4
 case hya4 => (intro x hx; obtain ⟨d0, d1, d2, d3⟩ := HLE.out x hx; go_simp; try with_reducible rfl)
 try simp only [Act.put, qA, qB, qC]
 refine wpL_val (i := 5) (v := ?va5) rfl (by kernel_rfl) (by kernel_rfl) (by kernel_rfl) (fun _ _ _ h => h) (by rfl) ?hya5 ?resta5
 case hya5 => (intro x hx; obtain ⟨d0, d1, d2, d3⟩ := HLE.out x hx; go_simp; try with_reducible rfl)
 try simp only [Act.put, qA, qB, qC]
 refine wpL_val (i := 6) (v := ?va6) rfl (by kernel_rfl) (by kernel_rfl) (by kernel_rfl) (fun _ _ _ h => h) (by rfl) ?hya6 ?resta6
 case hya6 => (intro x hx; obtain ⟨d0, d1, d2, d3⟩ := HLE.out x hx; go_simp; try with_reducible rfl)
 try simp only [Act.put, qA, qB, qC]
 refine wpL_val (i := 7) (v := ?va7) rfl (by kernel_rfl) (by kernel_rfl) (by kernel_rfl) (fun _ _ _ h => h) (by rfl) ?hya7 ?resta7
 case hya7 => (intro x hx; obtain ⟨d0, d1, d2, d3⟩ := HLE.out x hx; go_simp; try with_reducible rfl)
 try simp only [Act.put, qA, qB, qC]
 refine wpL_done (by kernel_rfl) ?_ _
 intro w5 hy
 replace HM := Shut.mk (HM.out.below (Below.trans (Below.drew (Below.refl _ _)) hy))
 clear hy HLE x0 x1 x2 x3 x4 y0
 go_wp2_with fail
 go_ret
 exact ⟨rfl, HM.out.bel⟩
theorem recordOf3 (path dest : ByteArray) (num who : Int) (w : World) (hd : dest.size ≤ 1048576) : Calls Tryz.prog 103 #[.agg #[.int .i64 3, .string path, .string dest, .int .i64 num, .int .i64 who]] w fun r w' => r = .returned (.iface 161 (.agg #[.string path, .string dest, .string (parentB dest).1, .string (parentB dest).2.1])) ∧ Below w.heap.size w w' := by
 have HP := Shut.mk (fun W => placeOf_any dest W hd)
 generalize (parentB dest).1 = up at HP ⊢
 generalize (parentB dest).2.1 = nm at HP ⊢
 clear hd
 go_enter Tryz.func103, Tryz.ntmps103
 go_upto_region 1 with fail
 obtain ⟨eb, heb⟩ : ∃ eb, eb = w.heap.size := ⟨_, rfl⟩
 refine wp_shade (fun W => MB w W [(eb, [.int .i64 3, .string path, .string dest, .int .i64 num, .int .i64 who])]) (by rw [heb]; exact (MB.nil w).new #[.int .i64 3, .string path, .string dest, .int .i64 num, .int .i64 who] 28) ?_
 intro W1 hW1
 have HM := Shut.mk hW1
 have x1 := ((HM.out.at 0 rfl).1.2 1 _ rfl).1
 rw [← heb]
 clear hW1 heb
 go_upto_region 2 with fail
 obtain ⟨nb, hnb⟩ : ∃ nb, nb = W1.heap.size := ⟨_, rfl⟩
 refine wp_shade (fun W => MB w W [(nb, [.string path]), (eb, [.int .i64 3, .string path, .string dest, .int .i64 num, .int .i64 who])]) (by rw [hnb]; exact HM.out.new #[.string path] 152) ?_
 intro W2 hW2
 clear x1 HM
 have HM := Shut.mk hW2
 have x0 := ((HM.out.at 1 rfl).1.2 0 _ rfl).1
 have x1 := ((HM.out.at 1 rfl).1.2 1 _ rfl).1
 have x2 := ((HM.out.at 1 rfl).1.2 2 _ rfl).1
 have x3 := ((HM.out.at 1 rfl).1.2 3 _ rfl).1
 have x4 := ((HM.out.at 1 rfl).1.2 4 _ rfl).1
 have y0 := ((HM.out.at 0 rfl).1.2 0 _ rfl).1
 rw [← hnb]
 clear hW2 hnb
 go_upto_region 8 with fail
 have HLE : Shut (∀ x, Later W2.drew x → x.cell? ⟨eb, 1, none⟩ = some (.string path) ∧ x.cell? ⟨eb, 2, none⟩ = some (.string dest) ∧ x.cell? ⟨eb, 4, none⟩ = some (.int .i64 who) ∧ x.cell? ⟨nb, 0, none⟩ = some (.string path)) := ⟨fun x hx => by
  have M := HM.out.below (Below.trans (Below.drew (Below.refl _ _)) hx)
  exact ⟨((M.at 1 rfl).1.2 1 _ rfl).1, ((M.at 1 rfl).1.2 2 _ rfl).1, ((M.at 1 rfl).1.2 4 _ rfl).1, ((M.at 0 rfl).1.2 0 _ rfl).1⟩⟩
 refine wp_region_later (by kernel_rfl) ?_
 refine wpL_val (i := 0) (v := ?va0) rfl (by kernel_rfl) (by kernel_rfl) (by kernel_rfl) (fun _ _ _ h => h) (by rfl) ?hya0 ?resta0
 case hya0 => (intro x hx; obtain ⟨d0, d1, d2, d3⟩ := HLE.out x hx; go_simp; try with_reducible rfl)
 try simp only [Act.put, qA, qB, qC]
 refine wpL_val (i := 1) (v := ?va1) rfl (by kernel_rfl) (by kernel_rfl) (by kernel_rfl) (fun _ _ _ h => h) (by rfl) ?hya1 ?resta1
 case hya1 => (intro x hx; obtain ⟨d0, d1, d2, d3⟩ := HLE.out x hx; go_simp; try with_reducible rfl)
 try simp only [Act.put, qA, qB, qC]
 refine wpL_val (i := 2) (v := ?va2) rfl (by kernel_rfl) (by kernel_rfl) (by kernel_rfl) (fun _ _ _ h => h) (by rfl) ?hya2 ?resta2
 case hya2 => (intro x hx; obtain ⟨d0, d1, d2, d3⟩ := HLE.out x hx; go_simp; try with_reducible rfl)
 try simp only [Act.put, qA, qB, qC]
 refine wpL_call (i := 3) (v := .agg #[.string dest, .string up, .string nm]) (f := 133) (args := #[.string dest]) rfl (by kernel_rfl) (by kernel_rfl) (by kernel_rfl) (fun _ _ _ h => h) (by rfl) ?hya3 (fun x _ => HP.out x) ?resta3
 case hya3 => (intro x hx; obtain ⟨d0, d1, d2, d3⟩ := HLE.out x hx; go_simp; try with_reducible rfl)
 try simp only [Act.put, qA, qB, qC]
 refine wpL_val (i := 4) (v := ?va4) rfl (by kernel_rfl) (by kernel_rfl) (by kernel_rfl) (fun _ _ _ h => h) (by rfl) ?hya4 ?resta4
 case hya4 => (intro x hx; obtain ⟨d0, d1, d2, d3⟩ := HLE.out x hx; go_simp; try with_reducible rfl)
 try simp only [Act.put, qA, qB, qC]
 refine wpL_val (i := 5) (v := ?va5) rfl (by kernel_rfl) (by kernel_rfl) (by kernel_rfl) (fun _ _ _ h => h) (by rfl) ?hya5 ?resta5
 case hya5 => (intro x hx; obtain ⟨d0, d1, d2, d3⟩ := HLE.out x hx; go_simp; try with_reducible rfl)
 try simp only [Act.put, qA, qB, qC]
 refine wpL_val (i := 6) (v := ?va6) rfl (by kernel_rfl) (by kernel_rfl) (by kernel_rfl) (fun _ _ _ h => h) (by rfl) ?hya6 ?resta6
 case hya6 => (intro x hx; obtain ⟨d0, d1, d2, d3⟩ := HLE.out x hx; go_simp; try with_reducible rfl)
 try simp only [Act.put, qA, qB, qC]
 refine wpL_done (by kernel_rfl) ?_ _
 intro w5 hy
 replace HM := Shut.mk (HM.out.below (Below.trans (Below.drew (Below.refl _ _)) hy))
 clear hy HLE x0 x1 x2 x3 x4 y0
 go_wp2_with fail
 go_ret
 exact ⟨rfl, HM.out.bel⟩
theorem recordOf4 (path dest : ByteArray) (num who : Int) (w : World) : Calls Tryz.prog 103 #[.agg #[.int .i64 4, .string path, .string dest, .int .i64 num, .int .i64 who]] w fun r w' => r = .returned (.iface 163 (.agg #[.string path])) ∧ Below w.heap.size w w' := by
 go_enter Tryz.func103, Tryz.ntmps103
 go_upto_region 1 with fail
 obtain ⟨eb, heb⟩ : ∃ eb, eb = w.heap.size := ⟨_, rfl⟩
 refine wp_shade (fun W => MB w W [(eb, [.int .i64 4, .string path, .string dest, .int .i64 num, .int .i64 who])]) (by rw [heb]; exact (MB.nil w).new #[.int .i64 4, .string path, .string dest, .int .i64 num, .int .i64 who] 28) ?_
 intro W1 hW1
 have HM := Shut.mk hW1
 have x1 := ((HM.out.at 0 rfl).1.2 1 _ rfl).1
 rw [← heb]
 clear hW1 heb
 go_upto_region 2 with fail
 obtain ⟨nb, hnb⟩ : ∃ nb, nb = W1.heap.size := ⟨_, rfl⟩
 refine wp_shade (fun W => MB w W [(nb, [.string path]), (eb, [.int .i64 4, .string path, .string dest, .int .i64 num, .int .i64 who])]) (by rw [hnb]; exact HM.out.new #[.string path] 152) ?_
 intro W2 hW2
 clear x1 HM
 have HM := Shut.mk hW2
 have x0 := ((HM.out.at 1 rfl).1.2 0 _ rfl).1
 have x1 := ((HM.out.at 1 rfl).1.2 1 _ rfl).1
 have x2 := ((HM.out.at 1 rfl).1.2 2 _ rfl).1
 have x3 := ((HM.out.at 1 rfl).1.2 3 _ rfl).1
 have x4 := ((HM.out.at 1 rfl).1.2 4 _ rfl).1
 have y0 := ((HM.out.at 0 rfl).1.2 0 _ rfl).1
 rw [← hnb]
 clear hW2 hnb
 go_wp2_with fail
 go_ret
 exact ⟨rfl, HM.out.bel⟩
theorem recordOf5 (path dest : ByteArray) (num who : Int) (w : World) : Calls Tryz.prog 103 #[.agg #[.int .i64 5, .string path, .string dest, .int .i64 num, .int .i64 who]] w fun r w' => r = .returned (.iface 165 (.agg #[.string path, .int .i64 num])) ∧ Below w.heap.size w w' := by
 go_enter Tryz.func103, Tryz.ntmps103
 go_upto_region 1 with fail
 obtain ⟨eb, heb⟩ : ∃ eb, eb = w.heap.size := ⟨_, rfl⟩
 refine wp_shade (fun W => MB w W [(eb, [.int .i64 5, .string path, .string dest, .int .i64 num, .int .i64 who])]) (by rw [heb]; exact (MB.nil w).new #[.int .i64 5, .string path, .string dest, .int .i64 num, .int .i64 who] 28) ?_
 intro W1 hW1
 have HM := Shut.mk hW1
 have x1 := ((HM.out.at 0 rfl).1.2 1 _ rfl).1
 rw [← heb]
 clear hW1 heb
 go_upto_region 2 with fail
 obtain ⟨nb, hnb⟩ : ∃ nb, nb = W1.heap.size := ⟨_, rfl⟩
 refine wp_shade (fun W => MB w W [(nb, [.string path]), (eb, [.int .i64 5, .string path, .string dest, .int .i64 num, .int .i64 who])]) (by rw [hnb]; exact HM.out.new #[.string path] 152) ?_
 intro W2 hW2
 clear x1 HM
 have HM := Shut.mk hW2
 have x0 := ((HM.out.at 1 rfl).1.2 0 _ rfl).1
 have x1 := ((HM.out.at 1 rfl).1.2 1 _ rfl).1
 have x2 := ((HM.out.at 1 rfl).1.2 2 _ rfl).1
 have x3 := ((HM.out.at 1 rfl).1.2 3 _ rfl).1
 have x4 := ((HM.out.at 1 rfl).1.2 4 _ rfl).1
 have y0 := ((HM.out.at 0 rfl).1.2 0 _ rfl).1
 rw [← hnb]
 clear hW2 hnb
 go_wp2_with fail
 go_ret
 exact ⟨rfl, HM.out.bel⟩
theorem recordOf6 (path dest : ByteArray) (num who : Int) (w : World) : Calls Tryz.prog 103 #[.agg #[.int .i64 6, .string path, .string dest, .int .i64 num, .int .i64 who]] w fun r w' => r = .returned (.iface 167 (.agg #[.string path, .int .i64 num])) ∧ Below w.heap.size w w' := by
 go_enter Tryz.func103, Tryz.ntmps103
 go_upto_region 1 with fail
 obtain ⟨eb, heb⟩ : ∃ eb, eb = w.heap.size := ⟨_, rfl⟩
 refine wp_shade (fun W => MB w W [(eb, [.int .i64 6, .string path, .string dest, .int .i64 num, .int .i64 who])]) (by rw [heb]; exact (MB.nil w).new #[.int .i64 6, .string path, .string dest, .int .i64 num, .int .i64 who] 28) ?_
 intro W1 hW1
 have HM := Shut.mk hW1
 have x1 := ((HM.out.at 0 rfl).1.2 1 _ rfl).1
 rw [← heb]
 clear hW1 heb
 go_upto_region 2 with fail
 obtain ⟨nb, hnb⟩ : ∃ nb, nb = W1.heap.size := ⟨_, rfl⟩
 refine wp_shade (fun W => MB w W [(nb, [.string path]), (eb, [.int .i64 6, .string path, .string dest, .int .i64 num, .int .i64 who])]) (by rw [hnb]; exact HM.out.new #[.string path] 152) ?_
 intro W2 hW2
 clear x1 HM
 have HM := Shut.mk hW2
 have x0 := ((HM.out.at 1 rfl).1.2 0 _ rfl).1
 have x1 := ((HM.out.at 1 rfl).1.2 1 _ rfl).1
 have x2 := ((HM.out.at 1 rfl).1.2 2 _ rfl).1
 have x3 := ((HM.out.at 1 rfl).1.2 3 _ rfl).1
 have x4 := ((HM.out.at 1 rfl).1.2 4 _ rfl).1
 have y0 := ((HM.out.at 0 rfl).1.2 0 _ rfl).1
 rw [← hnb]
 clear hW2 hnb
 go_wp2_with fail
 go_ret
 exact ⟨rfl, HM.out.bel⟩
theorem recordOf7 (path dest : ByteArray) (num who : Int) (w : World) : Calls Tryz.prog 103 #[.agg #[.int .i64 7, .string path, .string dest, .int .i64 num, .int .i64 who]] w fun r w' => r = .returned (.iface 169 (.agg #[.string path, .int .i64 num])) ∧ Below w.heap.size w w' := by
 go_enter Tryz.func103, Tryz.ntmps103
 go_upto_region 1 with fail
 obtain ⟨eb, heb⟩ : ∃ eb, eb = w.heap.size := ⟨_, rfl⟩
 refine wp_shade (fun W => MB w W [(eb, [.int .i64 7, .string path, .string dest, .int .i64 num, .int .i64 who])]) (by rw [heb]; exact (MB.nil w).new #[.int .i64 7, .string path, .string dest, .int .i64 num, .int .i64 who] 28) ?_
 intro W1 hW1
 have HM := Shut.mk hW1
 have x1 := ((HM.out.at 0 rfl).1.2 1 _ rfl).1
 rw [← heb]
 clear hW1 heb
 go_upto_region 2 with fail
 obtain ⟨nb, hnb⟩ : ∃ nb, nb = W1.heap.size := ⟨_, rfl⟩
 refine wp_shade (fun W => MB w W [(nb, [.string path]), (eb, [.int .i64 7, .string path, .string dest, .int .i64 num, .int .i64 who])]) (by rw [hnb]; exact HM.out.new #[.string path] 152) ?_
 intro W2 hW2
 clear x1 HM
 have HM := Shut.mk hW2
 have x0 := ((HM.out.at 1 rfl).1.2 0 _ rfl).1
 have x1 := ((HM.out.at 1 rfl).1.2 1 _ rfl).1
 have x2 := ((HM.out.at 1 rfl).1.2 2 _ rfl).1
 have x3 := ((HM.out.at 1 rfl).1.2 3 _ rfl).1
 have x4 := ((HM.out.at 1 rfl).1.2 4 _ rfl).1
 have y0 := ((HM.out.at 0 rfl).1.2 0 _ rfl).1
 rw [← hnb]
 clear hW2 hnb
 go_wp2_with fail
 go_ret
 exact ⟨rfl, HM.out.bel⟩
theorem recordOf8 (path dest : ByteArray) (num who : Int) (w : World) : Calls Tryz.prog 103 #[.agg #[.int .i64 8, .string path, .string dest, .int .i64 num, .int .i64 who]] w fun r w' => r = .returned (.iface 170 (.agg #[.string path])) ∧ Below w.heap.size w w' := by
 go_enter Tryz.func103, Tryz.ntmps103
 go_upto_region 1 with fail
 obtain ⟨eb, heb⟩ : ∃ eb, eb = w.heap.size := ⟨_, rfl⟩
 refine wp_shade (fun W => MB w W [(eb, [.int .i64 8, .string path, .string dest, .int .i64 num, .int .i64 who])]) (by rw [heb]; exact (MB.nil w).new #[.int .i64 8, .string path, .string dest, .int .i64 num, .int .i64 who] 28) ?_
 intro W1 hW1
 have HM := Shut.mk hW1
 have x1 := ((HM.out.at 0 rfl).1.2 1 _ rfl).1
 rw [← heb]
 clear hW1 heb
 go_upto_region 2 with fail
 obtain ⟨nb, hnb⟩ : ∃ nb, nb = W1.heap.size := ⟨_, rfl⟩
 refine wp_shade (fun W => MB w W [(nb, [.string path]), (eb, [.int .i64 8, .string path, .string dest, .int .i64 num, .int .i64 who])]) (by rw [hnb]; exact HM.out.new #[.string path] 152) ?_
 intro W2 hW2
 clear x1 HM
 have HM := Shut.mk hW2
 have x0 := ((HM.out.at 1 rfl).1.2 0 _ rfl).1
 have x1 := ((HM.out.at 1 rfl).1.2 1 _ rfl).1
 have x2 := ((HM.out.at 1 rfl).1.2 2 _ rfl).1
 have x3 := ((HM.out.at 1 rfl).1.2 3 _ rfl).1
 have x4 := ((HM.out.at 1 rfl).1.2 4 _ rfl).1
 have y0 := ((HM.out.at 0 rfl).1.2 0 _ rfl).1
 rw [← hnb]
 clear hW2 hnb
 go_wp2_with fail
 go_ret
 exact ⟨rfl, HM.out.bel⟩
theorem recordOf9 (path dest : ByteArray) (num who : Int) (w : World) : Calls Tryz.prog 103 #[.agg #[.int .i64 9, .string path, .string dest, .int .i64 num, .int .i64 who]] w fun r w' => r = .returned (.iface 172 (.agg #[.string path, .int .i64 who])) ∧ Below w.heap.size w w' := by
 go_enter Tryz.func103, Tryz.ntmps103
 go_upto_region 1 with fail
 obtain ⟨eb, heb⟩ : ∃ eb, eb = w.heap.size := ⟨_, rfl⟩
 refine wp_shade (fun W => MB w W [(eb, [.int .i64 9, .string path, .string dest, .int .i64 num, .int .i64 who])]) (by rw [heb]; exact (MB.nil w).new #[.int .i64 9, .string path, .string dest, .int .i64 num, .int .i64 who] 28) ?_
 intro W1 hW1
 have HM := Shut.mk hW1
 have x1 := ((HM.out.at 0 rfl).1.2 1 _ rfl).1
 rw [← heb]
 clear hW1 heb
 go_upto_region 2 with fail
 obtain ⟨nb, hnb⟩ : ∃ nb, nb = W1.heap.size := ⟨_, rfl⟩
 refine wp_shade (fun W => MB w W [(nb, [.string path]), (eb, [.int .i64 9, .string path, .string dest, .int .i64 num, .int .i64 who])]) (by rw [hnb]; exact HM.out.new #[.string path] 152) ?_
 intro W2 hW2
 clear x1 HM
 have HM := Shut.mk hW2
 have x0 := ((HM.out.at 1 rfl).1.2 0 _ rfl).1
 have x1 := ((HM.out.at 1 rfl).1.2 1 _ rfl).1
 have x2 := ((HM.out.at 1 rfl).1.2 2 _ rfl).1
 have x3 := ((HM.out.at 1 rfl).1.2 3 _ rfl).1
 have x4 := ((HM.out.at 1 rfl).1.2 4 _ rfl).1
 have y0 := ((HM.out.at 0 rfl).1.2 0 _ rfl).1
 rw [← hnb]
 clear hW2 hnb
 go_wp2_with fail
 go_ret
 exact ⟨rfl, HM.out.bel⟩
theorem recordOf10 (path dest : ByteArray) (num who : Int) (w : World) : Calls Tryz.prog 103 #[.agg #[.int .i64 10, .string path, .string dest, .int .i64 num, .int .i64 who]] w fun r w' => r = .returned (.iface 173 (.agg #[.string path])) ∧ Below w.heap.size w w' := by
 go_enter Tryz.func103, Tryz.ntmps103
 go_upto_region 1 with fail
 obtain ⟨eb, heb⟩ : ∃ eb, eb = w.heap.size := ⟨_, rfl⟩
 refine wp_shade (fun W => MB w W [(eb, [.int .i64 10, .string path, .string dest, .int .i64 num, .int .i64 who])]) (by rw [heb]; exact (MB.nil w).new #[.int .i64 10, .string path, .string dest, .int .i64 num, .int .i64 who] 28) ?_
 intro W1 hW1
 have HM := Shut.mk hW1
 have x1 := ((HM.out.at 0 rfl).1.2 1 _ rfl).1
 rw [← heb]
 clear hW1 heb
 go_upto_region 2 with fail
 obtain ⟨nb, hnb⟩ : ∃ nb, nb = W1.heap.size := ⟨_, rfl⟩
 refine wp_shade (fun W => MB w W [(nb, [.string path]), (eb, [.int .i64 10, .string path, .string dest, .int .i64 num, .int .i64 who])]) (by rw [hnb]; exact HM.out.new #[.string path] 152) ?_
 intro W2 hW2
 clear x1 HM
 have HM := Shut.mk hW2
 have x0 := ((HM.out.at 1 rfl).1.2 0 _ rfl).1
 have x1 := ((HM.out.at 1 rfl).1.2 1 _ rfl).1
 have x2 := ((HM.out.at 1 rfl).1.2 2 _ rfl).1
 have x3 := ((HM.out.at 1 rfl).1.2 3 _ rfl).1
 have x4 := ((HM.out.at 1 rfl).1.2 4 _ rfl).1
 have y0 := ((HM.out.at 0 rfl).1.2 0 _ rfl).1
 rw [← hnb]
 clear hW2 hnb
 go_wp2_with fail
 go_ret
 exact ⟨rfl, HM.out.bel⟩
theorem recordOf_any (e : EM) (w : World) (hk : 1 ≤ e.kind ∧ e.kind ≤ 10) (he : EFit e) : Calls Tryz.prog 103 #[ev e] w fun r w' => r = .returned (recV e) ∧ Below w.heap.size w w' := by
 obtain ⟨kind, path, dest, num, who⟩ := e
 obtain ⟨h1, h2⟩ := he
 dsimp only at hk h1 h2
 have : kind = 1 ∨ kind = 2 ∨ kind = 3 ∨ kind = 4 ∨ kind = 5 ∨ kind = 6 ∨ kind = 7 ∨ kind = 8 ∨ kind = 9 ∨ kind = 10 := by omega
 rcases this with rfl | rfl | rfl | rfl | rfl | rfl | rfl | rfl | rfl | rfl
 ·exact recordOf1 path dest num who w h1
 ·exact recordOf2 path dest num who w h1
 ·exact recordOf3 path dest num who w h2
 ·exact recordOf4 path dest num who w
 ·exact recordOf5 path dest num who w
 ·exact recordOf6 path dest num who w
 ·exact recordOf7 path dest num who w
 ·exact recordOf8 path dest num who w
 ·exact recordOf9 path dest num who w
 ·exact recordOf10 path dest num who w
end Go.Proofs.YtakhagkhngmpaaaGreat
/- StF: . -/
namespace Go.Proofs.YtakhagkhngmpaaaGreat
set_option maxRecDepth 100000
open Go.RowKit Go.Maps BigFrame
attribute [local go_sem ↓] Go.wp_at_zero Go.wp_at_succ
theorem dirRefusal_any (id parent : Int) (name : ByteArray) (dir : Bool) (schema quota ln : Int) (loc : Option Addr) (pl pc : Nat) (writer : Int) (ps : List PM) (w : World) : Calls Tryz.prog 136 #[.agg #[.int .i64 id, .int .i64 parent, .string name, .bool dir, .int .i64 schema, .int .i64 quota, .int .i64 ln, .slice loc pl pc, .int .i64 writer]] w fun e w' => e = .returned (.int .i64 (dirRef (⟨id, parent, name, dir, schema, quota, ln, ps, writer⟩ : NM))) ∧ Below w.heap.size w w' := by
 cases dir with
 | true =>
  have HE : Shut (dirRef ⟨id, parent, name, true, schema, quota, ln, ps, writer⟩ = 0) := ⟨rfl⟩
  generalize dirRef ⟨id, parent, name, true, schema, quota, ln, ps, writer⟩ = R at HE ⊢
  go_enter Tryz.func136, Tryz.ntmps136
  go_wp2_with fail
  go_ret
  exact ⟨by rw [HE.out]; rfl, (Below.refl _ _).alloc (Nat.le_refl _) _⟩
 | false =>
  have HE : Shut (dirRef ⟨id, parent, name, false, schema, quota, ln, ps, writer⟩ = 3) := ⟨rfl⟩
  generalize dirRef ⟨id, parent, name, false, schema, quota, ln, ps, writer⟩ = R at HE ⊢
  go_enter Tryz.func136, Tryz.ntmps136
  go_wp2_with fail
  go_ret
  exact ⟨by rw [HE.out]; rfl, (Below.refl _ _).alloc (Nat.le_refl _) _⟩
theorem fileRefusal_any (id parent : Int) (name : ByteArray) (dir : Bool) (schema quota ln : Int) (loc : Option Addr) (pl pc : Nat) (writer : Int) (ps : List PM) (held : Bool) (w : World) : Calls Tryz.prog 139 #[.agg #[.int .i64 id, .int .i64 parent, .string name, .bool dir, .int .i64 schema, .int .i64 quota, .int .i64 ln, .slice loc pl pc, .int .i64 writer], .bool held] w fun e w' => e = .returned (.int .i64 (filRef (⟨id, parent, name, dir, schema, quota, ln, ps, writer⟩ : NM) held)) ∧ Below w.heap.size w w' := by
 obtain ⟨R, hR⟩ : ∃ R, R = filRef (⟨id, parent, name, dir, schema, quota, ln, ps, writer⟩ : NM) held := ⟨_, rfl⟩
 rw [← hR]
 unfold filRef at hR
 dsimp only at hR
 cases dir with
 | true =>
  have HE : Shut (R = 3) := ⟨hR⟩
  clear hR
  go_enter Tryz.func139, Tryz.ntmps139
  go_wp2_with fail
  go_ret
  exact ⟨by rw [HE.out]; rfl, (Below.refl _ _).alloc (Nat.le_refl _) _⟩
 | false =>
  by_cases hw : writer = 0
  ·have hw1 : (writer != 0) = false := by simp [hw]
   cases held with
   | true =>
    have HE : Shut (R = 6) := ⟨by rw [hR, hw1]; rfl⟩
    clear hR hw
    go_enter Tryz.func139, Tryz.ntmps139
    go_wp2_with fail
    go_ret
    exact ⟨by rw [HE.out]; rfl, (Below.refl _ _).alloc (Nat.le_refl _) _⟩
   | false =>
    have HE : Shut (R = 0) := ⟨by rw [hR, hw1]; rfl⟩
    clear hR hw
    go_enter Tryz.func139, Tryz.ntmps139
    go_wp2_with fail
    go_ret
    exact ⟨by rw [HE.out]; rfl, (Below.refl _ _).alloc (Nat.le_refl _) _⟩
  ·have hw1 : (writer != 0) = true := by simp [hw]
   cases held with
   | true =>
    have HE : Shut (R = 0) := ⟨by rw [hR, hw1]; rfl⟩
    clear hR hw
    go_enter Tryz.func139, Tryz.ntmps139
    go_wp2_with fail
    go_ret
    exact ⟨by rw [HE.out]; rfl, (Below.refl _ _).alloc (Nat.le_refl _) _⟩
   | false =>
    have HE : Shut (R = 6) := ⟨by rw [hR, hw1]; rfl⟩
    clear hR hw
    go_enter Tryz.func139, Tryz.ntmps139
    go_wp2_with fail
    go_ret
    exact ⟨by rw [HE.out]; rfl, (Below.refl _ _).alloc (Nat.le_refl _) _⟩
structure SeeT (w : World) (a : Option Addr) (n cap : Nat) (nx : Int) (T : TM) : Prop where
 ok : treeOk T = true
 see : ∃ lo hi, TSee w (.agg #[.slice a n cap, .int .i64 nx]) T lo hi
theorem SeeT.below {w w' : World} {a : Option Addr} {n cap : Nat} {nx : Int} {T : TM} (h : SeeT w a n cap nx T) (hb : Below w.heap.size w w') : SeeT w' a n cap nx T := ⟨h.ok, by obtain ⟨lo, hi, q⟩ := h.see; exact ⟨lo, hi, q.below hb⟩⟩
theorem SeeT.find {w : World} {a : Option Addr} {n cap : Nat} {nx : Int} {T : TM} (h : SeeT w a n cap nx T) (p : ByteArray) (hp : p.size ≤ 1048576) : Calls Tryz.prog 19 #[.agg #[.slice a n cap, .int .i64 nx], .string p] w fun e w' => e = .returned (.int .i64 (findX T p)) ∧ Below w.heap.size w w' := by
 obtain ⟨lo, hi, q⟩ := h.see
 exact implFindPath w _ T lo hi p q (tree_fit h.ok) (tree_int h.ok) (TP.of h.ok).nz hp
theorem SeeT.used {w : World} {a : Option Addr} {n cap : Nat} {nx : Int} {T : TM} (h : SeeT w a n cap nx T) (c : Int) : Calls Tryz.prog 22 #[.agg #[.slice a n cap, .int .i64 nx], .int .i64 c] w fun e w' => e = .returned (.int .i64 (usedX T c)) ∧ Below w.heap.size w w' := by
 obtain ⟨lo, hi, q⟩ := h.see
 exact implUsedBelow w _ T lo hi c q (tree_fit h.ok) (tree_int h.ok)
theorem SeeT.room {w : World} {a : Option Addr} {n cap : Nat} {nx : Int} {T : TM} (h : SeeT w a n cap nx T) (c m : Int) (hc : (Lit.int .i64 c).wf = true) : Calls Tryz.prog 161 #[.agg #[.slice a n cap, .int .i64 nx], .int .i64 c, .int .i64 m] w fun e w' => e = .returned (.bool (roomX T c m)) ∧ Below w.heap.size w w' := by
 obtain ⟨lo, hi, q⟩ := h.see
 exact implRoomFor w _ T lo hi c m q (tree_fit h.ok) (tree_int h.ok) hc
theorem SeeT.blw {w : World} {a : Option Addr} {n cap : Nat} {nx : Int} {T : TM} (h : SeeT w a n cap nx T) (c : Int) : Calls Tryz.prog 37 #[.agg #[.slice a n cap, .int .i64 nx], .int .i64 c] w fun e w' => IPost (belowX T c) w e w' := by
 obtain ⟨lo, hi, q⟩ := h.see
 exact implBelowOf w _ T lo hi c q (tree_fit h.ok) (tree_int h.ok)
theorem SeeT.node {w : World} {a : Option Addr} {n cap : Nat} {nx : Int} {T : TM} (h : SeeT w a n cap nx T) (c : Int) (hc : (Lit.int .i64 c).wf = true) : Calls Tryz.prog 92 #[.agg #[.slice a n cap, .int .i64 nx], .int .i64 c] w fun e w' => ∃ G, e = .returned (ptrV ((fid T.nodes c).map G)) ∧ Below w.heap.size w w' ∧ Nd w' T.nodes G := by
 obtain ⟨lo, hi, q⟩ := h.see
 refine (nodeAt_any w _ T lo hi c q (tree_fit h.ok) (tree_int h.ok) hc).mono ?_
 rintro e w' ⟨o, rfl, hb, hc⟩
 rcases hc with ⟨hx, _⟩ | ⟨_, G, rfl, hnd⟩
 ·rw [h.ok] at hx; cases hx
 ·exact ⟨G, rfl, hb, hnd⟩
attribute [local irreducible] nodeOk treeOk atI belowX usedX roomX findX
set_option maxHeartbeats 1000000 in
theorem quotaRefusal_any (id parent : Int) (name : ByteArray) (dir : Bool) (schema quota ln : Int) (loc : Option Addr) (pl pc : Nat) (writer : Int) (ps : List PM) (q : Int) {w : World} {a : Option Addr} {n cap : Nat} {nx : Int} {T : TM} (h : SeeT w a n cap nx T) : Calls Tryz.prog 137 #[.agg #[.slice a n cap, .int .i64 nx], .agg #[.int .i64 id, .int .i64 parent, .string name, .bool dir, .int .i64 schema, .int .i64 quota, .int .i64 ln, .slice loc pl pc, .int .i64 writer], .int .i64 q] w fun e w' => e = .returned (.int .i64 (quoRef T (⟨id, parent, name, dir, schema, quota, ln, ps, writer⟩ : NM) q)) ∧ Below w.heap.size w w' := by
 obtain ⟨R, hR⟩ : ∃ R, R = quoRef T (⟨id, parent, name, dir, schema, quota, ln, ps, writer⟩ : NM) q := ⟨_, rfl⟩
 rw [← hR]
 unfold quoRef at hR
 dsimp only at hR
 have HD := Shut.mk (fun W => dirRefusal_any id parent name dir schema quota ln loc pl pc writer ps W)
 have HU := Shut.mk (fun W (hb : Below w.heap.size w W) => (h.below hb).used id)
 obtain ⟨dr, hdr⟩ : ∃ dr, dr = dirRef (⟨id, parent, name, dir, schema, quota, ln, ps, writer⟩ : NM) := ⟨_, rfl⟩
 obtain ⟨us, hus⟩ : ∃ us, us = usedX T id := ⟨_, rfl⟩
 rw [← hdr] at hR HD
 rw [← hus] at hR HU
 have HR := Shut.mk hR
 clear hR hdr hus h
 go_enter Tryz.func137, Tryz.ntmps137
 go_upto_region 1 with fail
 obtain ⟨tb, htb⟩ : ∃ tb, tb = w.heap.size := ⟨_, rfl⟩
 obtain ⟨xb, hxb⟩ : ∃ xb, xb = w.heap.size + 1 := ⟨_, rfl⟩
 refine wp_shade (fun W => MB w W [(xb, [.int .i64 id, .int .i64 parent, .string name, .bool dir, .int .i64 schema, .int .i64 quota, .int .i64 ln, .slice loc pl pc, .int .i64 writer]), (tb, [.slice a n cap, .int .i64 nx])]) (by rw [hxb, htb]; exact MB.two w #[.slice a n cap, .int .i64 nx] #[.int .i64 id, .int .i64 parent, .string name, .bool dir, .int .i64 schema, .int .i64 quota, .int .i64 ln, .slice loc pl pc, .int .i64 writer] 26 47) ?_
 intro W1 hW1
 have HM := Shut.mk hW1
 rw [← hxb, ← htb]
 clear hW1 hxb htb
 have x0 := ((HM.out.at 1 rfl).1.2 0 _ rfl).1
 have x1 := ((HM.out.at 1 rfl).1.2 1 _ rfl).1
 have y0 := ((HM.out.at 0 rfl).1.2 0 _ rfl).1
 have y1 := ((HM.out.at 0 rfl).1.2 1 _ rfl).1
 have y2 := ((HM.out.at 0 rfl).1.2 2 _ rfl).1
 have y3 := ((HM.out.at 0 rfl).1.2 3 _ rfl).1
 have y4 := ((HM.out.at 0 rfl).1.2 4 _ rfl).1
 have y5 := ((HM.out.at 0 rfl).1.2 5 _ rfl).1
 have y6 := ((HM.out.at 0 rfl).1.2 6 _ rfl).1
 have y7 := ((HM.out.at 0 rfl).1.2 7 _ rfl).1
 have y8 := ((HM.out.at 0 rfl).1.2 8 _ rfl).1
 by_cases hd0 : dr = 0
 case neg =>
  have hd1 : (dr != 0) = true := by simp [hd0]
  have HE : Shut (R = dr) := ⟨by rw [HR.out, if_pos hd0]⟩
  clear hd0
  go_wp2_with (go_at_call 136; refine (HD.out _).mono ?_; rintro e w5 ⟨rfl, hb5⟩; replace HM := Shut.mk (HM.out.below hb5); clear hb5 x0 x1 y0 y1 y2 y3 y4 y5 y6 y7 y8)
  go_ret
  exact ⟨by rw [HE.out]; rfl, HM.out.bel⟩
 case pos =>
  have hd1 : (dr != 0) = false := by simp [hd0]
  have HE : Shut (R = if 0 < q ∧ q < us then 5 else 0) := ⟨by rw [HR.out, if_neg (by simp [hd0])]⟩
  clear hd0
  by_cases q0 : 0 < q
  ·have q1 : decide (0 < q) = true := by simp [q0]
   by_cases q2 : q < us
   ·have q3 : decide (q < us) = true := by simp [q2]
    have HE2 : Shut (R = 5) := ⟨by rw [HE.out, if_pos ⟨q0, q2⟩]⟩
    go_wp2_with (first
     | (go_at_call 136; refine (HD.out _).mono ?_; rintro e w5 ⟨rfl, hb5⟩; replace HM := Shut.mk (HM.out.below hb5); clear hb5 x0 x1 y0 y1 y2 y3 y4 y5 y6 y7 y8; have x0 := ((HM.out.at 1 rfl).1.2 0 _ rfl).1; have x1 := ((HM.out.at 1 rfl).1.2 1 _ rfl).1; have y0 := ((HM.out.at 0 rfl).1.2 0 _ rfl).1; have y1 := ((HM.out.at 0 rfl).1.2 1 _ rfl).1; have y2 := ((HM.out.at 0 rfl).1.2 2 _ rfl).1; have y3 := ((HM.out.at 0 rfl).1.2 3 _ rfl).1; have y4 := ((HM.out.at 0 rfl).1.2 4 _ rfl).1; have y5 := ((HM.out.at 0 rfl).1.2 5 _ rfl).1; have y6 := ((HM.out.at 0 rfl).1.2 6 _ rfl).1; have y7 := ((HM.out.at 0 rfl).1.2 7 _ rfl).1; have y8 := ((HM.out.at 0 rfl).1.2 8 _ rfl).1)
     | (go_at_call 22; refine (HU.out _ HM.out.bel).mono ?_; rintro e w6 ⟨rfl, hb6⟩; replace HM := Shut.mk (HM.out.below hb6); clear hb6 x0 x1 y0 y1 y2 y3 y4 y5 y6 y7 y8))
    go_ret
    exact ⟨by rw [HE2.out]; rfl, HM.out.bel⟩
   ·have q3 : decide (q < us) = false := by simp [q2]
    have HE2 : Shut (R = 0) := ⟨by rw [HE.out, if_neg (fun h => q2 h.2)]⟩
    go_wp2_with (first
     | (go_at_call 136; refine (HD.out _).mono ?_; rintro e w5 ⟨rfl, hb5⟩; replace HM := Shut.mk (HM.out.below hb5); clear hb5 x0 x1 y0 y1 y2 y3 y4 y5 y6 y7 y8; have x0 := ((HM.out.at 1 rfl).1.2 0 _ rfl).1; have x1 := ((HM.out.at 1 rfl).1.2 1 _ rfl).1; have y0 := ((HM.out.at 0 rfl).1.2 0 _ rfl).1; have y1 := ((HM.out.at 0 rfl).1.2 1 _ rfl).1; have y2 := ((HM.out.at 0 rfl).1.2 2 _ rfl).1; have y3 := ((HM.out.at 0 rfl).1.2 3 _ rfl).1; have y4 := ((HM.out.at 0 rfl).1.2 4 _ rfl).1; have y5 := ((HM.out.at 0 rfl).1.2 5 _ rfl).1; have y6 := ((HM.out.at 0 rfl).1.2 6 _ rfl).1; have y7 := ((HM.out.at 0 rfl).1.2 7 _ rfl).1; have y8 := ((HM.out.at 0 rfl).1.2 8 _ rfl).1)
     | (go_at_call 22; refine (HU.out _ HM.out.bel).mono ?_; rintro e w6 ⟨rfl, hb6⟩; replace HM := Shut.mk (HM.out.below hb6); clear hb6 x0 x1 y0 y1 y2 y3 y4 y5 y6 y7 y8))
    go_ret
    exact ⟨by rw [HE2.out]; rfl, HM.out.bel⟩
  ·have q1 : decide (0 < q) = false := by simp [q0]
   have HE2 : Shut (R = 0) := ⟨by rw [HE.out, if_neg (fun h => q0 h.1)]⟩
   go_wp2_with (go_at_call 136; refine (HD.out _).mono ?_; rintro e w5 ⟨rfl, hb5⟩; replace HM := Shut.mk (HM.out.below hb5); clear hb5 x0 x1 y0 y1 y2 y3 y4 y5 y6 y7 y8; have x0 := ((HM.out.at 1 rfl).1.2 0 _ rfl).1; have x1 := ((HM.out.at 1 rfl).1.2 1 _ rfl).1; have y0 := ((HM.out.at 0 rfl).1.2 0 _ rfl).1; have y1 := ((HM.out.at 0 rfl).1.2 1 _ rfl).1; have y2 := ((HM.out.at 0 rfl).1.2 2 _ rfl).1; have y3 := ((HM.out.at 0 rfl).1.2 3 _ rfl).1; have y4 := ((HM.out.at 0 rfl).1.2 4 _ rfl).1; have y5 := ((HM.out.at 0 rfl).1.2 5 _ rfl).1; have y6 := ((HM.out.at 0 rfl).1.2 6 _ rfl).1; have y7 := ((HM.out.at 0 rfl).1.2 7 _ rfl).1; have y8 := ((HM.out.at 0 rfl).1.2 8 _ rfl).1)
   go_ret
   exact ⟨by rw [HE2.out]; rfl, HM.out.bel⟩
set_option maxHeartbeats 1000000 in
theorem addRefusal_any (id parent : Int) (name : ByteArray) (dir : Bool) (schema quota ln : Int) (loc : Option Addr) (pl pc : Nat) (writer : Int) (ps : List PM) (l : Int) {w : World} {a : Option Addr} {n cap : Nat} {nx : Int} {T : TM} (h : SeeT w a n cap nx T) (hid : (Lit.int .i64 id).wf = true) (hln : 0 ≤ ln ∧ ln ≤ 1000) (hl : 0 ≤ l ∧ l ≤ 1000) : Calls Tryz.prog 138 #[.agg #[.slice a n cap, .int .i64 nx], .agg #[.int .i64 id, .int .i64 parent, .string name, .bool dir, .int .i64 schema, .int .i64 quota, .int .i64 ln, .slice loc pl pc, .int .i64 writer], .int .i64 l] w fun e w' => e = .returned (.int .i64 (addRef T (⟨id, parent, name, dir, schema, quota, ln, ps, writer⟩ : NM) l)) ∧ Below w.heap.size w w' := by
 obtain ⟨R, hR⟩ : ∃ R, R = addRef T (⟨id, parent, name, dir, schema, quota, ln, ps, writer⟩ : NM) l := ⟨_, rfl⟩
 rw [← hR]
 unfold addRef at hR
 dsimp only at hR
 have HD := Shut.mk (fun W => fileRefusal_any id parent name dir schema quota ln loc pl pc writer ps true W)
 have HU := Shut.mk (fun W (hb : Below w.heap.size w W) => (h.below hb).room id l hid)
 obtain ⟨dr, hdr⟩ : ∃ dr, dr = filRef (⟨id, parent, name, dir, schema, quota, ln, ps, writer⟩ : NM) true := ⟨_, rfl⟩
 obtain ⟨us, hus⟩ : ∃ us, us = roomX T id l := ⟨_, rfl⟩
 rw [← hdr] at hR HD
 rw [← hus] at hR HU
 have HR := Shut.mk hR
 have hw1 : IntKind.i64.wrap (ln + l) = ln + l := IntWalk.i64_in _ ⟨by omega, by omega⟩
 clear hR hdr hus h hid
 go_enter Tryz.func138, Tryz.ntmps138
 go_upto_region 1 with fail
 obtain ⟨tb, htb⟩ : ∃ tb, tb = w.heap.size := ⟨_, rfl⟩
 obtain ⟨xb, hxb⟩ : ∃ xb, xb = w.heap.size + 1 := ⟨_, rfl⟩
 refine wp_shade (fun W => MB w W [(xb, [.int .i64 id, .int .i64 parent, .string name, .bool dir, .int .i64 schema, .int .i64 quota, .int .i64 ln, .slice loc pl pc, .int .i64 writer]), (tb, [.slice a n cap, .int .i64 nx])]) (by rw [hxb, htb]; exact MB.two w #[.slice a n cap, .int .i64 nx] #[.int .i64 id, .int .i64 parent, .string name, .bool dir, .int .i64 schema, .int .i64 quota, .int .i64 ln, .slice loc pl pc, .int .i64 writer] 26 47) ?_
 intro W1 hW1
 have HM := Shut.mk hW1
 rw [← hxb, ← htb]
 clear hW1 hxb htb
 have x0 := ((HM.out.at 1 rfl).1.2 0 _ rfl).1
 have x1 := ((HM.out.at 1 rfl).1.2 1 _ rfl).1
 have y0 := ((HM.out.at 0 rfl).1.2 0 _ rfl).1
 have y1 := ((HM.out.at 0 rfl).1.2 1 _ rfl).1
 have y2 := ((HM.out.at 0 rfl).1.2 2 _ rfl).1
 have y3 := ((HM.out.at 0 rfl).1.2 3 _ rfl).1
 have y4 := ((HM.out.at 0 rfl).1.2 4 _ rfl).1
 have y5 := ((HM.out.at 0 rfl).1.2 5 _ rfl).1
 have y6 := ((HM.out.at 0 rfl).1.2 6 _ rfl).1
 have y7 := ((HM.out.at 0 rfl).1.2 7 _ rfl).1
 have y8 := ((HM.out.at 0 rfl).1.2 8 _ rfl).1
 by_cases hd0 : dr = 0
 case neg =>
  have hd1 : (dr != 0) = true := by simp [hd0]
  have HE : Shut (R = dr) := ⟨by rw [HR.out, if_pos hd0]⟩
  clear hd0
  go_wp2_with (go_at_call 139; refine (HD.out _).mono ?_; rintro e w5 ⟨rfl, hb5⟩; replace HM := Shut.mk (HM.out.below hb5); clear hb5 x0 x1 y0 y1 y2 y3 y4 y5 y6 y7 y8)
  go_ret
  exact ⟨by rw [HE.out]; rfl, HM.out.bel⟩
 case pos =>
  have hd1 : (dr != 0) = false := by simp [hd0]
  have HE : Shut (R = if us = false ∨ 1000 < ln + l then 5 else 0) := ⟨by rw [HR.out, if_neg (by simp [hd0])]⟩
  clear hd0
  cases us with
  | false =>
   have HE2 : Shut (R = 5) := ⟨by rw [HE.out, if_pos (.inl rfl)]⟩
   go_wp2_with (first
    | (go_at_call 139; refine (HD.out _).mono ?_; rintro e w5 ⟨rfl, hb5⟩; replace HM := Shut.mk (HM.out.below hb5); clear hb5 x0 x1 y0 y1 y2 y3 y4 y5 y6 y7 y8; have x0 := ((HM.out.at 1 rfl).1.2 0 _ rfl).1; have x1 := ((HM.out.at 1 rfl).1.2 1 _ rfl).1; have y0 := ((HM.out.at 0 rfl).1.2 0 _ rfl).1; have y1 := ((HM.out.at 0 rfl).1.2 1 _ rfl).1; have y2 := ((HM.out.at 0 rfl).1.2 2 _ rfl).1; have y3 := ((HM.out.at 0 rfl).1.2 3 _ rfl).1; have y4 := ((HM.out.at 0 rfl).1.2 4 _ rfl).1; have y5 := ((HM.out.at 0 rfl).1.2 5 _ rfl).1; have y6 := ((HM.out.at 0 rfl).1.2 6 _ rfl).1; have y7 := ((HM.out.at 0 rfl).1.2 7 _ rfl).1; have y8 := ((HM.out.at 0 rfl).1.2 8 _ rfl).1)
    | (go_at_call 161; refine (HU.out _ HM.out.bel).mono ?_; rintro e w6 ⟨rfl, hb6⟩; replace HM := Shut.mk (HM.out.below hb6); clear hb6 x0 x1 y0 y1 y2 y3 y4 y5 y6 y7 y8; have x0 := ((HM.out.at 1 rfl).1.2 0 _ rfl).1; have x1 := ((HM.out.at 1 rfl).1.2 1 _ rfl).1; have y0 := ((HM.out.at 0 rfl).1.2 0 _ rfl).1; have y1 := ((HM.out.at 0 rfl).1.2 1 _ rfl).1; have y2 := ((HM.out.at 0 rfl).1.2 2 _ rfl).1; have y3 := ((HM.out.at 0 rfl).1.2 3 _ rfl).1; have y4 := ((HM.out.at 0 rfl).1.2 4 _ rfl).1; have y5 := ((HM.out.at 0 rfl).1.2 5 _ rfl).1; have y6 := ((HM.out.at 0 rfl).1.2 6 _ rfl).1; have y7 := ((HM.out.at 0 rfl).1.2 7 _ rfl).1; have y8 := ((HM.out.at 0 rfl).1.2 8 _ rfl).1))
   go_ret
   exact ⟨by rw [HE2.out]; rfl, HM.out.bel⟩
  | true =>
   by_cases q2 : 1000 < ln + l
   ·have q3 : decide (1000 < ln + l) = true := by simp [q2]
    have HE2 : Shut (R = 5) := ⟨by rw [HE.out, if_pos (.inr q2)]⟩
    go_wp2_with (first
     | (go_at_call 139; refine (HD.out _).mono ?_; rintro e w5 ⟨rfl, hb5⟩; replace HM := Shut.mk (HM.out.below hb5); clear hb5 x0 x1 y0 y1 y2 y3 y4 y5 y6 y7 y8; have x0 := ((HM.out.at 1 rfl).1.2 0 _ rfl).1; have x1 := ((HM.out.at 1 rfl).1.2 1 _ rfl).1; have y0 := ((HM.out.at 0 rfl).1.2 0 _ rfl).1; have y1 := ((HM.out.at 0 rfl).1.2 1 _ rfl).1; have y2 := ((HM.out.at 0 rfl).1.2 2 _ rfl).1; have y3 := ((HM.out.at 0 rfl).1.2 3 _ rfl).1; have y4 := ((HM.out.at 0 rfl).1.2 4 _ rfl).1; have y5 := ((HM.out.at 0 rfl).1.2 5 _ rfl).1; have y6 := ((HM.out.at 0 rfl).1.2 6 _ rfl).1; have y7 := ((HM.out.at 0 rfl).1.2 7 _ rfl).1; have y8 := ((HM.out.at 0 rfl).1.2 8 _ rfl).1)
     | (go_at_call 161; refine (HU.out _ HM.out.bel).mono ?_; rintro e w6 ⟨rfl, hb6⟩; replace HM := Shut.mk (HM.out.below hb6); clear hb6 x0 x1 y0 y1 y2 y3 y4 y5 y6 y7 y8; have x0 := ((HM.out.at 1 rfl).1.2 0 _ rfl).1; have x1 := ((HM.out.at 1 rfl).1.2 1 _ rfl).1; have y0 := ((HM.out.at 0 rfl).1.2 0 _ rfl).1; have y1 := ((HM.out.at 0 rfl).1.2 1 _ rfl).1; have y2 := ((HM.out.at 0 rfl).1.2 2 _ rfl).1; have y3 := ((HM.out.at 0 rfl).1.2 3 _ rfl).1; have y4 := ((HM.out.at 0 rfl).1.2 4 _ rfl).1; have y5 := ((HM.out.at 0 rfl).1.2 5 _ rfl).1; have y6 := ((HM.out.at 0 rfl).1.2 6 _ rfl).1; have y7 := ((HM.out.at 0 rfl).1.2 7 _ rfl).1; have y8 := ((HM.out.at 0 rfl).1.2 8 _ rfl).1))
    go_ret
    exact ⟨by rw [HE2.out]; rfl, HM.out.bel⟩
   ·have q3 : decide (1000 < ln + l) = false := by simp [q2]
    have HE2 : Shut (R = 0) := ⟨by rw [HE.out, if_neg (by rintro (h | h); cases h; exact q2 h)]⟩
    go_wp2_with (first
     | (go_at_call 139; refine (HD.out _).mono ?_; rintro e w5 ⟨rfl, hb5⟩; replace HM := Shut.mk (HM.out.below hb5); clear hb5 x0 x1 y0 y1 y2 y3 y4 y5 y6 y7 y8; have x0 := ((HM.out.at 1 rfl).1.2 0 _ rfl).1; have x1 := ((HM.out.at 1 rfl).1.2 1 _ rfl).1; have y0 := ((HM.out.at 0 rfl).1.2 0 _ rfl).1; have y1 := ((HM.out.at 0 rfl).1.2 1 _ rfl).1; have y2 := ((HM.out.at 0 rfl).1.2 2 _ rfl).1; have y3 := ((HM.out.at 0 rfl).1.2 3 _ rfl).1; have y4 := ((HM.out.at 0 rfl).1.2 4 _ rfl).1; have y5 := ((HM.out.at 0 rfl).1.2 5 _ rfl).1; have y6 := ((HM.out.at 0 rfl).1.2 6 _ rfl).1; have y7 := ((HM.out.at 0 rfl).1.2 7 _ rfl).1; have y8 := ((HM.out.at 0 rfl).1.2 8 _ rfl).1)
     | (go_at_call 161; refine (HU.out _ HM.out.bel).mono ?_; rintro e w6 ⟨rfl, hb6⟩; replace HM := Shut.mk (HM.out.below hb6); clear hb6 x0 x1 y0 y1 y2 y3 y4 y5 y6 y7 y8; have x0 := ((HM.out.at 1 rfl).1.2 0 _ rfl).1; have x1 := ((HM.out.at 1 rfl).1.2 1 _ rfl).1; have y0 := ((HM.out.at 0 rfl).1.2 0 _ rfl).1; have y1 := ((HM.out.at 0 rfl).1.2 1 _ rfl).1; have y2 := ((HM.out.at 0 rfl).1.2 2 _ rfl).1; have y3 := ((HM.out.at 0 rfl).1.2 3 _ rfl).1; have y4 := ((HM.out.at 0 rfl).1.2 4 _ rfl).1; have y5 := ((HM.out.at 0 rfl).1.2 5 _ rfl).1; have y6 := ((HM.out.at 0 rfl).1.2 6 _ rfl).1; have y7 := ((HM.out.at 0 rfl).1.2 7 _ rfl).1; have y8 := ((HM.out.at 0 rfl).1.2 8 _ rfl).1))
    go_ret
    exact ⟨by rw [HE2.out]; rfl, HM.out.bel⟩
theorem nd_fid {T : TM} (h : treeOk T = true) {p : ByteArray} (h0 : findX T p ≠ 0) : fid T.nodes (findX T p) = some (plc T (findX T p)) := by
 obtain ⟨h1, h2, _⟩ := found_at h h0
 have := (tree_tall h).1.fid h1
 rw [← nd_mem h1, h2] at this
 exact this
theorem fid_zero {T : TM} (h : treeOk T = true) : fid T.nodes 0 = none := (tree_tall h).1.zero
theorem wf_find {T : TM} (h : treeOk T = true) (p : ByteArray) : (Lit.int .i64 (findX T p)).wf = true := by
 by_cases h0 : findX T p = 0
 ·rw [h0]; exact wf_small (by omega)
 ·obtain ⟨_, h2, h3⟩ := found_at h h0
  rw [← h2]
  exact wf_small (tree_id h h3)
set_option maxHeartbeats 1000000 in
theorem plcRefusal_any (p : ByteArray) (hp : p.size ≤ 1048576) {w : World} {a : Option Addr} {n cap : Nat} {nx : Int} {T : TM} (h : SeeT w a n cap nx T) : Calls Tryz.prog 134 #[.agg #[.string p, .string (parentB p).1, .string (parentB p).2.1], .agg #[.slice a n cap, .int .i64 nx]] w fun e w' => e = .returned (.int .i64 (plcRef T p)) ∧ Below w.heap.size w w' := by
 obtain ⟨R, hR⟩ : ∃ R, R = plcRef T p := ⟨_, rfl⟩
 rw [← hR]
 unfold plcRef at hR
 have hsm := parent_small p
 have HF := Shut.mk (fun W (hb : Below w.heap.size w W) => (h.below hb).find (parentB p).1 (by omega))
 have HP := Shut.mk (fun W (hb : Below w.heap.size w W) => (h.below hb).find p hp)
 have hu : findX T (parentB p).1 = upX T p := rfl
 have HN := Shut.mk (fun W (hb : Below w.heap.size w W) => (h.below hb).node (upX T p) (by rw [← hu]; exact wf_find h.ok _))
 simp only [hu] at HF
 have HFD : Shut ((upX T p = 0 ∧ fid T.nodes (upX T p) = none) ∨ (upX T p ≠ 0 ∧ plc T (upX T p) < T.nodes.length ∧ fid T.nodes (upX T p) = some (plc T (upX T p)))) := ⟨by
  by_cases h0 : upX T p = 0
  ·left; exact ⟨h0, by rw [h0]; exact fid_zero h.ok⟩
  ·right; exact ⟨h0, (found_at h.ok h0).1, nd_fid h.ok h0⟩⟩
 generalize (parentB p).1 = up at HF hsm ⊢
 generalize (parentB p).2.1 = nm at hsm ⊢
 obtain ⟨u, huu⟩ : ∃ u, u = upX T p := ⟨_, rfl⟩
 obtain ⟨fx, hfx⟩ : ∃ fx, fx = findX T p := ⟨_, rfl⟩
 rw [← huu] at hR HF HN HFD
 rw [← hfx] at hR HP
 have HR := Shut.mk hR
 clear hR huu hfx hu hsm h hp
 go_enter Tryz.func134, Tryz.ntmps134
 go_upto_region 1 with fail
 obtain ⟨pb, hpb⟩ : ∃ pb, pb = w.heap.size := ⟨_, rfl⟩
 obtain ⟨tb, htb⟩ : ∃ tb, tb = w.heap.size + 1 := ⟨_, rfl⟩
 refine wp_shade (fun W => MB w W [(tb, [.slice a n cap, .int .i64 nx]), (pb, [.string p, .string up, .string nm])]) (by rw [htb, hpb]; exact MB.two w #[.string p, .string up, .string nm] #[.slice a n cap, .int .i64 nx] 154 26) ?_
 intro W1 hW1
 have HM := Shut.mk hW1
 rw [← htb, ← hpb]
 clear hW1 htb hpb
 have HLE : Shut (∀ x, Later W1.drew x → x.cell? ⟨tb, 0, none⟩ = some (.slice a n cap) ∧ x.cell? ⟨tb, 1, none⟩ = some (.int .i64 nx) ∧ x.cell? ⟨pb, 1, none⟩ = some (.string up)) := ⟨fun x hx => by
  have M := HM.out.below (Below.trans (Below.drew (Below.refl _ _)) hx)
  exact ⟨((M.at 0 rfl).1.2 0 _ rfl).1, ((M.at 0 rfl).1.2 1 _ rfl).1, ((M.at 1 rfl).1.2 1 _ rfl).1⟩⟩
 have HBX : Shut (∀ x, Later W1.drew x → Below w.heap.size w x) := ⟨fun x hx => (HM.out.below (Below.trans (Below.drew (Below.refl _ _)) hx)).bel⟩
 refine wp_region_tail 7 (by kernel_rfl) ?_
 refine wpK_val (i := 0) (v := ?va0) rfl (by kernel_rfl) (by kernel_rfl) (by kernel_rfl) (by kernel_rfl) (fun _ _ _ h => h) (by rfl) ?hya0 ?resta0
 case hya0 => (intro x hx; obtain ⟨d0, d1, d2⟩ := HLE.out x hx; go_simp; try with_reducible rfl)
 try simp only [Act.put, qA, qB, qC]
 refine wpK_val (i := 1) (v := ?va1) rfl (by kernel_rfl) (by kernel_rfl) (by kernel_rfl) (by kernel_rfl) (fun _ _ _ h => h) (by rfl) ?hya1 ?resta1
 case hya1 => (intro x hx; obtain ⟨d0, d1, d2⟩ := HLE.out x hx; go_simp; try with_reducible rfl)
 try simp only [Act.put, qA, qB, qC]
 refine wpK_val (i := 2) (v := ?va2) rfl (by kernel_rfl) (by kernel_rfl) (by kernel_rfl) (by kernel_rfl) (fun _ _ _ h => h) (by rfl) ?hya2 ?resta2
 case hya2 => (intro x hx; obtain ⟨d0, d1, d2⟩ := HLE.out x hx; go_simp; try with_reducible rfl)
 try simp only [Act.put, qA, qB, qC]
 refine wpK_val (i := 3) (v := ?va3) rfl (by kernel_rfl) (by kernel_rfl) (by kernel_rfl) (by kernel_rfl) (fun _ _ _ h => h) (by rfl) ?hya3 ?resta3
 case hya3 => (intro x hx; obtain ⟨d0, d1, d2⟩ := HLE.out x hx; go_simp; try with_reducible rfl)
 try simp only [Act.put, qA, qB, qC]
 refine wpK_call (i := 4) (v := .int .i64 u) (f := 19) (args := #[.agg #[.slice a n cap, .int .i64 nx], .string up]) rfl (by kernel_rfl) (by kernel_rfl) (by kernel_rfl) (by kernel_rfl) (fun _ _ _ h => h) (by rfl) ?hya4 (fun x hx => HF.out x (HBX.out x hx)) ?resta4
 case hya4 => (intro x hx; obtain ⟨d0, d1, d2⟩ := HLE.out x hx; go_simp; try with_reducible rfl)
 try simp only [Act.put, qA, qB, qC]
 refine wpK_onecall (f := 92) (args := #[.agg #[.slice a n cap, .int .i64 nx], .int .i64 u]) (i := 5) (by kernel_rfl) rfl (by rfl) (fun x hx => by obtain ⟨d0, d1, d2⟩ := HLE.out x hx; go_simp) (fun x hx => (HN.out x (HBX.out x hx)).mono ?_)
 rintro e y ⟨G, rfl, hby, hnd⟩
 refine ⟨_, rfl, hby, ?_⟩
 have HND := Shut.mk hnd
 have HMY := Shut.mk (HM.out.below ((Below.trans (Below.drew (Below.refl _ _)) hx : Below W1.heap.size W1 x).trans (hby.mono (Below.trans (Below.drew (Below.refl _ _)) hx : Below W1.heap.size W1 x).size)))
 clear hnd hby hx HLE HBX HM
 try simp only [Act.put, qA, qB, qC]
 refine wpK_val (i := 6) (v := ?v6) rfl (by kernel_rfl) (by kernel_rfl) (by kernel_rfl) (by kernel_rfl) (fun _ _ _ h => h) (by rfl) ?hy6 ?rest6
 case hy6 => (intro x hx; go_simp; try with_reducible rfl)
 try simp only [Act.put, qA, qB, qC]
 refine wpK_done (by kernel_rfl) ?_ _
 intro z hz
 replace HMY := Shut.mk (HMY.out.below hz)
 replace HND := Shut.mk (HND.out.below hz)
 clear hz
 rcases HFD.out with ⟨h0, hf⟩ | ⟨h0, hkl, hf⟩
 ·rw [hf, Option.map_none, ptr_none]
  have HE : Shut (R = 1) := ⟨by rw [HR.out, if_pos h0]⟩
  clear h0 hf
  go_wp2_with fail
  go_ret
  exact ⟨by rw [HE.out]; rfl, HMY.out.bel⟩
 ·rw [hf, Option.map_some, ptr_some]
  obtain ⟨k, hk⟩ : ∃ k, k = plc T u := ⟨_, rfl⟩
  rw [← hk] at hkl HR ⊢
  have c3 := (HND.out.cells k hkl).2.2.2.1
  have hnd9 : ndAt T k = T.nodes[k] := nd_mem hkl
  rw [← hnd9] at c3
  obtain ⟨dr, hdr⟩ : ∃ dr, dr = (ndAt T k).dir := ⟨_, rfl⟩
  rw [← hdr] at c3 HR
  have x0 := ((HMY.out.at 0 rfl).1.2 0 _ rfl).1
  have x1 := ((HMY.out.at 0 rfl).1.2 1 _ rfl).1
  have y0 := ((HMY.out.at 1 rfl).1.2 0 _ rfl).1
  clear hf hk hnd9 hdr hkl
  cases dr with
  | false =>
   have HE : Shut (R = 3) := ⟨by rw [HR.out, if_neg h0, if_pos rfl]⟩
   clear h0
   go_wp2_with fail
   go_ret
   exact ⟨by rw [HE.out]; rfl, HMY.out.bel⟩
  | true =>
   have HE : Shut (R = if fx ≠ 0 then 2 else 0) := ⟨by rw [HR.out, if_neg h0, if_neg (by simp)]⟩
   clear h0
   by_cases hfx : fx = 0
   ·have q1 : (fx != 0) = false := by simp [hfx]
    have HE2 : Shut (R = 0) := ⟨by rw [HE.out, if_neg (by simp [hfx])]⟩
    clear hfx
    go_wp2_with (go_at_call 19; refine (HP.out _ HMY.out.bel).mono ?_; rintro e w5 ⟨rfl, hb5⟩; replace HMY := Shut.mk (HMY.out.below hb5); clear hb5 x0 x1 y0 c3)
    go_ret
    exact ⟨by rw [HE2.out]; rfl, HMY.out.bel⟩
   ·have q1 : (fx != 0) = true := by simp [hfx]
    have HE2 : Shut (R = 2) := ⟨by rw [HE.out, if_pos hfx]⟩
    clear hfx
    go_wp2_with (go_at_call 19; refine (HP.out _ HMY.out.bel).mono ?_; rintro e w5 ⟨rfl, hb5⟩; replace HMY := Shut.mk (HMY.out.below hb5); clear hb5 x0 x1 y0 c3)
    go_ret
    exact ⟨by rw [HE2.out]; rfl, HMY.out.bel⟩
set_option maxHeartbeats 1000000 in
theorem moveRefusal_any (id parent : Int) (name : ByteArray) (dir : Bool) (schema quota ln : Int) (loc : Option Addr) (pl pc : Nat) (writer : Int) (p : ByteArray) (hp : p.size ≤ 1048576) {w : World} {a : Option Addr} {n cap : Nat} {nx : Int} {T : TM} (h : SeeT w a n cap nx T) : Calls Tryz.prog 135 #[.agg #[.slice a n cap, .int .i64 nx], .agg #[.int .i64 id, .int .i64 parent, .string name, .bool dir, .int .i64 schema, .int .i64 quota, .int .i64 ln, .slice loc pl pc, .int .i64 writer], .agg #[.string p, .string (parentB p).1, .string (parentB p).2.1]] w fun e w' => e = .returned (.int .i64 (movRef T id p)) ∧ Below w.heap.size w w' := by
 obtain ⟨R, hR⟩ : ∃ R, R = movRef T id p := ⟨_, rfl⟩
 rw [← hR]
 unfold movRef at hR
 have hsm := parent_small p
 have HF := Shut.mk (fun W (hb : Below w.heap.size w W) => (h.below hb).find (parentB p).1 (by omega))
 have hu : findX T (parentB p).1 = upX T p := rfl
 have HPR := Shut.mk (fun W (hb : Below w.heap.size w W) => plcRefusal_any p hp (h.below hb))
 have HBL := Shut.mk (fun W (hb : Below w.heap.size w W) => (h.below hb).blw id)
 have hbl := belowX_len T id
 simp only [hu] at HF
 generalize (parentB p).1 = up at HF HPR hsm ⊢
 generalize (parentB p).2.1 = nm at hsm HPR ⊢
 obtain ⟨u, huu⟩ : ∃ u, u = upX T p := ⟨_, rfl⟩
 obtain ⟨pr, hpr⟩ : ∃ pr, pr = plcRef T p := ⟨_, rfl⟩
 obtain ⟨B, hB⟩ : ∃ B, B = belowX T id := ⟨_, rfl⟩
 rw [← huu] at hR HF
 rw [← hpr] at hR HPR
 rw [← hB] at hR HBL hbl
 unfold IPost at HBL
 have HR := Shut.mk hR
 clear hR huu hpr hB hu hsm h hp
 go_enter Tryz.func135, Tryz.ntmps135
 go_upto_region 1 with fail
 obtain ⟨tb, htb⟩ : ∃ tb, tb = w.heap.size := ⟨_, rfl⟩
 obtain ⟨xb, hxb⟩ : ∃ xb, xb = w.heap.size + 1 := ⟨_, rfl⟩
 obtain ⟨pb, hpb⟩ : ∃ pb, pb = w.heap.size + 1 + 1 := ⟨_, rfl⟩
 refine wp_shade (fun W => MB w W [(pb, [.string p, .string up, .string nm]), (xb, [.int .i64 id, .int .i64 parent, .string name, .bool dir, .int .i64 schema, .int .i64 quota, .int .i64 ln, .slice loc pl pc, .int .i64 writer]), (tb, [.slice a n cap, .int .i64 nx])]) (by rw [hpb, hxb, htb]; exact MB.three w #[.slice a n cap, .int .i64 nx] #[.int .i64 id, .int .i64 parent, .string name, .bool dir, .int .i64 schema, .int .i64 quota, .int .i64 ln, .slice loc pl pc, .int .i64 writer] #[.string p, .string up, .string nm] 26 47 154) ?_
 intro W1 hW1
 have HM := Shut.mk hW1
 rw [← hpb, ← hxb, ← htb]
 clear hW1 hxb htb hpb
 have x0 := ((HM.out.at 2 rfl).1.2 0 _ rfl).1
 have x1 := ((HM.out.at 2 rfl).1.2 1 _ rfl).1
 have z0 := ((HM.out.at 0 rfl).1.2 0 _ rfl).1
 have z1 := ((HM.out.at 0 rfl).1.2 1 _ rfl).1
 have z2 := ((HM.out.at 0 rfl).1.2 2 _ rfl).1
 by_cases hp0 : pr = 0
 case neg =>
  have q1 : (pr != 0) = true := by simp [hp0]
  have HE : Shut (R = pr) := ⟨by rw [HR.out, if_pos hp0]⟩
  clear hp0
  go_wp2_with (go_at_call 134; refine (HPR.out _ HM.out.bel).mono ?_; rintro e w5 ⟨rfl, hb5⟩; replace HM := Shut.mk (HM.out.below hb5); clear hb5 x0 x1 z0 z1 z2)
  go_ret
  exact ⟨by rw [HE.out]; rfl, HM.out.bel⟩
 case pos =>
 have q1 : (pr != 0) = false := by simp [hp0]
 have HE : Shut (R = if B.contains u = true then 7 else 0) := ⟨by rw [HR.out, if_neg (by simp [hp0])]⟩
 clear hp0 HR
 go_upto_region 4 with (go_at_call 134; refine (HPR.out _ HM.out.bel).mono ?_; rintro e w5 ⟨rfl, hb5⟩; replace HM := Shut.mk (HM.out.below hb5); clear hb5 x0 x1 z0 z1 z2)
 have HLE : Shut (∀ x, Later w5.drew x → x.cell? ⟨tb, 0, none⟩ = some (.slice a n cap) ∧ x.cell? ⟨tb, 1, none⟩ = some (.int .i64 nx) ∧ x.cell? ⟨xb, 0, none⟩ = some (.int .i64 id) ∧ x.cell? ⟨pb, 1, none⟩ = some (.string up)) := ⟨fun x hx => by
  have M := HM.out.below (Below.trans (Below.drew (Below.refl _ _)) hx)
  exact ⟨((M.at 2 rfl).1.2 0 _ rfl).1, ((M.at 2 rfl).1.2 1 _ rfl).1, ((M.at 1 rfl).1.2 0 _ rfl).1, ((M.at 0 rfl).1.2 1 _ rfl).1⟩⟩
 have HBX : Shut (∀ x, Later w5.drew x → Below w.heap.size w x) := ⟨fun x hx => (HM.out.below (Below.trans (Below.drew (Below.refl _ _)) hx)).bel⟩
 refine wp_region_tail 9 (by kernel_rfl) ?_
 refine wpK_val (i := 0) (v := ?va0) rfl (by kernel_rfl) (by kernel_rfl) (by kernel_rfl) (by kernel_rfl) (fun _ _ _ h => h) (by rfl) ?hya0 ?resta0
 case hya0 => (intro x hx; obtain ⟨d0, d1, d2, d3⟩ := HLE.out x hx; go_simp; try with_reducible rfl)
 try simp only [Act.put, qA, qB, qC]
 refine wpK_val (i := 1) (v := ?va1) rfl (by kernel_rfl) (by kernel_rfl) (by kernel_rfl) (by kernel_rfl) (fun _ _ _ h => h) (by rfl) ?hya1 ?resta1
 case hya1 => (intro x hx; obtain ⟨d0, d1, d2, d3⟩ := HLE.out x hx; go_simp; try with_reducible rfl)
 try simp only [Act.put, qA, qB, qC]
 refine wpK_val (i := 2) (v := ?va2) rfl (by kernel_rfl) (by kernel_rfl) (by kernel_rfl) (by kernel_rfl) (fun _ _ _ h => h) (by rfl) ?hya2 ?resta2
 case hya2 => (intro x hx; obtain ⟨d0, d1, d2, d3⟩ := HLE.out x hx; go_simp; try with_reducible rfl)
 try simp only [Act.put, qA, qB, qC]
 refine wpK_val (i := 4) (v := ?va4) rfl (by kernel_rfl) (by kernel_rfl) (by kernel_rfl) (by kernel_rfl) (fun _ _ _ h => h) (by rfl) ?hya4 ?resta4
 case hya4 => (intro x hx; obtain ⟨d0, d1, d2, d3⟩ := HLE.out x hx; go_simp; try with_reducible rfl)
 try simp only [Act.put, qA, qB, qC]
 refine wpK_val (i := 5) (v := ?va5) rfl (by kernel_rfl) (by kernel_rfl) (by kernel_rfl) (by kernel_rfl) (fun _ _ _ h => h) (by rfl) ?hya5 ?resta5
 case hya5 => (intro x hx; obtain ⟨d0, d1, d2, d3⟩ := HLE.out x hx; go_simp; try with_reducible rfl)
 try simp only [Act.put, qA, qB, qC]
 refine wpK_val (i := 6) (v := ?va6) rfl (by kernel_rfl) (by kernel_rfl) (by kernel_rfl) (by kernel_rfl) (fun _ _ _ h => h) (by rfl) ?hya6 ?resta6
 case hya6 => (intro x hx; obtain ⟨d0, d1, d2, d3⟩ := HLE.out x hx; go_simp; try with_reducible rfl)
 try simp only [Act.put, qA, qB, qC]
 refine wpK_onecall (f := 37) (args := #[.agg #[.slice a n cap, .int .i64 nx], .int .i64 id]) (i := 3) (by kernel_rfl) rfl (by rfl) (fun x hx => by obtain ⟨d0, d1, d2, d3⟩ := HLE.out x hx; go_simp) (fun x hx => (HBL.out x (HBX.out x hx)).mono ?_)
 rintro e y ⟨bv, rfl, hba, hby⟩
 refine ⟨_, rfl, hby, ?_⟩
 obtain ⟨ba9, bc, rfl, hcr⟩ := hba.crow
 have HCR : Shut (∀ W, Below y.heap.size y W → CRow W ba9 (ics B)) := ⟨fun W hb => hcr.stays hb⟩
 have HMY := Shut.mk (HM.out.below ((Below.trans (Below.drew (Below.refl _ _)) hx : Below w5.heap.size w5 x).trans (hby.mono (Below.trans (Below.drew (Below.refl _ _)) hx : Below w5.heap.size w5 x).size)))
 have HCO : Shut (∀ W, Below y.heap.size y W → Calls Tryz.prog 78 #[.slice ba9 B.length bc, .int .i64 u] W fun e w' => e = .returned (.bool (B.contains u)) ∧ w' = W) := ⟨fun W hb => implContains bc u (HCR.out W hb) (by omega)⟩
 obtain ⟨co, hco⟩ : ∃ co, co = B.contains u := ⟨_, rfl⟩
 rw [← hco] at HCO HE
 generalize B.length = bm at HCO ⊢
 clear hba hby hx HLE HBX HM hcr HCR hco hbl
 try simp only [Act.put, qA, qB, qC]
 refine wpK_call (i := 7) (v := .int .i64 u) (f := 19) (args := #[.agg #[.slice a n cap, .int .i64 nx], .string up]) rfl (by kernel_rfl) (by kernel_rfl) (by kernel_rfl) (by kernel_rfl) (fun _ _ _ h => h) (by rfl) ?hy7 (fun x hx => HF.out x (HMY.out.below hx).bel) ?rest7
 case hy7 => (intro x hx; go_simp; try with_reducible rfl)
 try simp only [Act.put, qA, qB, qC]
 refine wpK_call (i := 8) (v := .bool co) (f := 78) (args := #[.slice ba9 bm bc, .int .i64 u]) rfl (by kernel_rfl) (by kernel_rfl) (by kernel_rfl) (by kernel_rfl) (fun _ _ _ h => h) (by rfl) ?hy8 (fun x hx => (HCO.out x hx).mono (by rintro e z ⟨rfl, rfl⟩; exact ⟨rfl, Below.refl _ _⟩)) ?rest8
 case hy8 => (intro x hx; go_simp; try with_reducible rfl)
 try simp only [Act.put, qA, qB, qC]
 refine wpK_done (by kernel_rfl) ?_ _
 intro z hz
 replace HMY := Shut.mk (HMY.out.below hz)
 clear hz HCO
 cases co with
 | true =>
  have HE2 : Shut (R = 7) := ⟨by rw [HE.out, if_pos rfl]⟩
  go_wp2_with fail
  go_ret
  exact ⟨by rw [HE2.out]; rfl, HMY.out.bel⟩
 | false =>
  have HE2 : Shut (R = 0) := ⟨by rw [HE.out, if_neg (by simp)]⟩
  go_wp2_with fail
  go_ret
  exact ⟨by rw [HE2.out]; rfl, HMY.out.bel⟩
end Go.Proofs.YtakhagkhngmpaaaGreat
/- CtB: . -/
namespace Go.Proofs.YtakhagkhngmpaaaGreat
set_option maxRecDepth 100000
open Go.RowKit
attribute [local go_sem ↓] Go.wp_at_zero Go.wp_at_succ
structure CI (W : World) (B : Nat) (va : Option Addr) (n c : Nat) (rs gs : List NR) (k : Nat) : Prop where
 len : gs.length = n
 nd : nds gs = nds rs
 own : W.ownsRow B 47 9 (.slice va n c) n (ncs gs)
 done : ∀ i (hi : i < gs.length), i < k → W.ownsRow B 99 2 (.slice gs[i].loc gs[i].nd.pieces.length gs[i].cap) gs[i].nd.pieces.length (pcs gs[i].nd.pieces)
 ap : ∀ i j (hi : i < gs.length) (hj : j < gs.length), i < j → j < k → gs[i].loc ≠ none → gs[j].loc ≠ none → gs[i].loc ≠ gs[j].loc
 rest : ∀ i (hi : i < gs.length) (h2 : i < rs.length), k ≤ i → gs[i] = rs[i]
theorem CI.below {W W' : World} {B : Nat} {va : Option Addr} {n c : Nat} {rs gs : List NR} {k : Nat} (h : CI W B va n c rs gs k) (hb : Below W.heap.size W W') : CI W' B va n c rs gs k := by
 have hg : W.grownBy W' none := ⟨hb.os, hb.tape, hb.output, hb.size, fun k hk _ => hb.block k hk⟩
 exact ⟨h.len, h.nd, h.own.kept hg (Classical.em _), fun i hi hk => (h.done i hi hk).kept hg (Classical.em _), h.ap, h.rest⟩
theorem CI.fin {W : World} {B : Nat} {va : Option Addr} {n c : Nat} {rs gs : List NR} {k : Nat} (h : CI W B va n c rs gs k) (hk : n ≤ k) : NB W B (.slice va n c) gs := by
 refine ⟨by rw [h.len]; exact h.own, fun r hr => ?_, ?_⟩
 ·obtain ⟨i, hi, rfl⟩ := List.getElem_of_mem hr
  exact h.done i hi (by have := h.len; omega)
 ·refine List.pairwise_iff_getElem.2 fun i j hi hj hij => h.ap i j hi hj hij (by have := h.len; omega)
theorem CI.cell {W : World} {B g : Nat} {n c : Nat} {rs gs : List NR} {k : Nat} (h : CI W B (some ⟨g, 0, none⟩) n c rs gs k) (i : Nat) (hi : i < gs.length) (f : Nat) (v : Value) (hv : (ncells gs[i])[f]? = some v) : W.cell? ⟨g, i * 9 + f, none⟩ = some v ∧ W.frozen? ⟨g, i * 9 + f, none⟩ = false := by
 have hf : f < 9 := by have := (List.getElem?_eq_some_iff.1 hv).1; rw [ncells_len] at this; exact this
 exact (own_wcells h.own).2 _ _ ((flat_get ncells_len gs i hi f hf).trans hv)
theorem pieces_stay {W : World} {B g : Nat} {n c m cc : Nat} {L M : List Value} {loc : Option Addr} (hown : W.ownsRow B 47 9 (.slice (some ⟨g, 0, none⟩) n c) n L) (h : W.ownsRow B 99 2 (.slice loc m cc) m M) (i : Nat) (x : Value) : (W.setCell ⟨g, i, none⟩ x).ownsRow B 99 2 (.slice loc m cc) m M := by
 refine h.kept (gb_set' W g i x) ?_
 cases e : (Value.slice loc m cc).ownBlock with
 | none => exact .inl rfl
 | some q =>
  refine .inr fun e2 => ?_
  obtain ⟨c1, h1⟩ := own_blk' h e
  obtain ⟨c2, h2⟩ := own_blk' hown (show (Value.slice (some ⟨g, 0, none⟩) n c).ownBlock = some g from rfl)
  cases e2
  rw [h1] at h2
  simp at h2
theorem CI.name {W : World} {B g : Nat} {n c : Nat} {rs gs : List NR} {k : Nat} (h : CI W B (some ⟨g, 0, none⟩) n c rs gs k) (hk : k < gs.length) : CI (W.setCell ⟨g, k * 9 + 2, none⟩ (.string gs[k].nd.name)) B (some ⟨g, 0, none⟩) n c rs gs k := by
 have hcs := ncs_set gs k hk 2 (by omega) (.string gs[k].nd.name) gs[k] rfl
 rw [List.set_getElem_self] at hcs
 have hst := (h.own.stored (k * 9 + 2) (.string gs[k].nd.name)).1
 rw [hcs] at hst
 exact ⟨h.len, h.nd, hst, fun i hi q => pieces_stay h.own (h.done i hi q) _ _, h.ap, h.rest⟩
theorem CI.piece {W W1 : World} {B g : Nat} {n c : Nat} {rs gs : List NR} {k : Nat} (h : CI W B (some ⟨g, 0, none⟩) n c rs gs k) (hk : k < gs.length) (hB : B ≤ W.heap.size) (hb : Below W.heap.size W W1) {a' : Option Addr} {c' : Nat}
  (ho : W1.ownsRow W.heap.size 99 2 (.slice a' gs[k].nd.pieces.length c') gs[k].nd.pieces.length (pcs gs[k].nd.pieces)) :
  CI (W1.setCell ⟨g, k * 9 + 7, none⟩ (.slice a' gs[k].nd.pieces.length c')) B (some ⟨g, 0, none⟩) n c rs (gs.set k ⟨gs[k].nd, a', c'⟩) (k + 1) := by
 have h1 := h.below hb
 have hcs := ncs_set gs k hk 7 (by omega) (.slice a' gs[k].nd.pieces.length c') ⟨gs[k].nd, a', c'⟩ rfl
 have hst := (h1.own.stored (k * 9 + 7) (.slice a' gs[k].nd.pieces.length c')).1
 rw [hcs] at hst
 have hfar : ∀ i (hi : i < gs.length), i < k → ∀ q, gs[i].loc = some q → a' ≠ some q := fun i hi hik q e e2 => by
  have l1 := ((h.done i hi hik).lt q.block (by rw [e]; rfl)).2
  have l2 := (ho.lt q.block (by rw [e2]; rfl)).1
  omega
 refine ⟨by rw [List.length_set]; exact h.len, ?_, hst, fun i hi hik => ?_, fun i j hi hj hij hjk => ?_, fun i hi h2 hki => ?_⟩
 ·rw [nds_set, ← h.nd]
  have : gs[k].nd = (nds gs)[k]'(by rw [nds_len]; exact hk) := by simp [nds]
  rw [this, List.set_getElem_self]
 ·rw [List.length_set] at hi
  rw [List.getElem_set]
  split
  ·rename_i e
   subst e
   exact pieces_stay h1.own (own_lower ho hB) _ _
  ·exact pieces_stay h1.own (h1.done i hi (by omega)) _ _
 ·rw [List.length_set] at hi hj
  rw [List.getElem_set, List.getElem_set]
  by_cases e1 : k = j
  ·subst e1
   rw [if_pos rfl, if_neg (by omega)]
   intro q1 q2 e
   obtain ⟨q, hq⟩ := Option.ne_none_iff_exists'.1 q1
   exact hfar i hi (by omega) q hq (by rw [← hq, e])
  ·rw [if_neg e1, if_neg (by omega)]
   exact h.ap i j hi hj hij (by omega)
 ·rw [List.length_set] at hi
  rw [List.getElem_set, if_neg (by omega)]
  exact h.rest i hi h2 (by omega)
set_option maxHeartbeats 2000000 in
theorem implCopy {w : World} {v : Value} {T : TM} {lo hi : Nat} (h : TSee w v T lo hi) (hf : NFit T) : Calls Tryz.prog 59 #[v] w fun e w' => CpPost T w e w' := by
 obtain ⟨a, cap, rs, rfl, hr, hm⟩ := h
 obtain ⟨n, hn⟩ : ∃ n, n = rs.length := ⟨_, rfl⟩
 obtain ⟨nx, hnx⟩ : ∃ nx, nx = T.next := ⟨_, rfl⟩
 have hl : n ≤ 1048576 := by unfold NFit at hf; rw [← hr, nds_len] at hf; omega
 have HSZ : Shut (∀ r ∈ rs, r.nd.name.size ≤ 1048576 ∧ r.nd.pieces.length ≤ 1048576) := ⟨fun r hr' => by
  have := nsum_mem (show r.nd ∈ T.nodes by rw [← hr]; exact List.mem_map.2 ⟨r, hr', rfl⟩)
  unfold NFit at hf
  omega⟩
 unfold CpPost
 rw [← hn, ← hnx, ← hr]
 have HN := Shut.mk hn
 have HM := Shut.mk hm
 have HCN : Shut (∀ W, Below w.heap.size w W → Calls Tryz.prog 108 #[.slice a n cap] W fun e w' => cloneNPost (ncs rs) n W e w') := ⟨fun W hb => cloneN_any (fun hp => by
   obtain ⟨b, off, e1, _, _, e2, e3⟩ := (hm.below hb).1 hp
   exact ⟨b, off, e1, e2, e3⟩) hn hl⟩
 unfold cloneNPost at HCN
 clear hm hn hnx hr hf
 go_enter Tryz.func59, Tryz.ntmps59
 go_upto_region 1 with fail
 obtain ⟨tb, htb⟩ : ∃ tb, tb = w.heap.size := ⟨_, rfl⟩
 obtain ⟨rb, hrb⟩ : ∃ rb, rb = w.heap.size + 1 := ⟨_, rfl⟩
 refine wp_shade (fun W => MB w W [(rb, [.slice none 0 0, .int .i64 0]), (tb, [.slice a n cap, .int .i64 nx])] ∧ rb < W.heap.size) ⟨by rw [hrb, htb]; exact MB.two w #[.slice a n cap, .int .i64 nx] #[.slice none 0 0, .int .i64 0] 26 26, by rw [hrb]; simp⟩ ?_
 rintro W1 ⟨hW1, hrl⟩
 have HMB := Shut.mk hW1
 have x0 := ((HMB.out.at 1 rfl).1.2 0 _ rfl).1
 have htr : Shut (tb ≤ rb ∧ w.heap.size ≤ tb) := ⟨by omega⟩
 rw [← hrb, ← htb]
 clear hW1 htb hrb
 go_upto_region 2 with (go_at_call 108; refine (HCN.out _ HMB.out.bel).mono ?_; rintro e w2 ⟨va, vc, rfl, hown, hb2⟩; have HMB2 := Shut.mk (HMB.out.below hb2); have HOW := Shut.mk hown; have HB2 := Shut.mk hb2; clear hown hb2 x0)
 have HCI : Shut (CI w2 W1.heap.size va n vc rs rs 0) := ⟨⟨HN.out.symm, rfl, HOW.out, fun i hi h => absurd h (Nat.not_lt_zero _), fun i j hi hj h1 h2 => absurd h2 (Nat.not_lt_zero _), fun i hi h2 _ => rfl⟩⟩
 have hsz2 : Shut (W1.heap.size ≤ w2.heap.size) := ⟨HB2.out.size⟩
 clear HCN HMB HOW HB2
 go_wp2_with fail
 go_loopw [10] (fun iv wr => ∃ (k : Nat) (gs : List NR), iv = .int .i64 k ∧ k ≤ n ∧ Shut (CI wr W1.heap.size va n vc rs gs k) ∧ Shut (MB w wr [(rb, [.slice none 0 0, .int .i64 0]), (tb, [.slice a n cap, .int .i64 nx])]) ∧ Shut (W1.heap.size ≤ wr.heap.size)) (fun iv _ => n - (intOf iv).toNat)
 case atStart => exact ⟨0, rs, rfl, Nat.zero_le _, HCI, HMB2, hsz2⟩
 case round =>
  clear HCI HMB2 hsz2
  obtain ⟨k, gs, rfl, hk, HCI, HMB, hsz⟩ := hrel
  obtain ⟨wo, rfl⟩ : ∃ wo, wo = wr := ⟨_, rfl⟩
  by_cases hlt : k < n
  case pos =>
   have hkg : k < gs.length := by have := HCI.out.len; omega
   have hkr : k < rs.length := by have := HN.out; omega
   have k0 : (0 : Int) ≤ (k : Int) := by omega
   have k1 : (k : Int) < (n : Int) := by omega
   obtain ⟨g, vc', cur, e9, hBg, hgl, hgb⟩ := own_blk HCI.out.own (by omega)
   have hva : va = some ⟨g, 0, none⟩ := (by simpa using e9 : va = some ⟨g, 0, none⟩ ∧ vc = vc').1
   clear e9 hgb
   subst hva
   have hgk : gs[k] = rs[k] := HCI.out.rest k hkg hkr (Nat.le_refl _)
   have hsz9 := HSZ.out rs[k] (List.getElem_mem hkr)
   have HFAR : Shut (∀ (V : World) (i : Nat) (x : Value), MB w V [(rb, [.slice none 0 0, .int .i64 0]), (tb, [.slice a n cap, .int .i64 nx])] → MB w (V.setCell ⟨g, i, none⟩ x) [(rb, [.slice none 0 0, .int .i64 0]), (tb, [.slice a n cap, .int .i64 nx])]) := ⟨fun V i x M => M.far (gb_set' V g i x) (fun p hp e => by
    cases e
    have h9 := htr.out
    simp at hp
    rcases hp with rfl | rfl <;> simp at hBg hrl <;> omega) (fun q e => by cases e; have := htr.out; omega)⟩
   have HPR : Shut (RRow w rs[k].loc (pcs rs[k].nd.pieces) lo hi) := ⟨HM.out.2 _ (List.getElem_mem hkr)⟩
   rw [← hgk] at hsz9 HPR
   have c2 := HCI.out.cell k hkg 2 _ rfl
   obtain ⟨r, hrk⟩ : ∃ r, r = gs[k] := ⟨_, rfl⟩
   rw [← hrk] at c2 hsz9 HPR
   have HRK := Shut.mk hrk
   have HCL := Shut.mk (fun W => implClone r.nd.name W (by omega))
   clear hgk hrk
   obtain ⟨c2a, c2f⟩ := c2
   go_upto_region 6 with (go_at_call 109; refine (HCL.out _).mono ?_; rintro e w5 ⟨rfl, hb5⟩; have HCI5 := Shut.mk (HCI.out.below hb5); have HMB5 := Shut.mk (HMB.out.below hb5); have HS5 := Shut.mk (Nat.le_trans hsz.out hb5.size); obtain ⟨d2a, d2f⟩ := HCI5.out.cell k hkg 2 (.string r.nd.name) (by rw [← HRK.out]; rfl); clear hb5 c2a c2f)
   refine wp_shade (fun W => CI W W1.heap.size (some ⟨g, 0, none⟩) n vc rs gs k ∧ MB w W [(rb, [.slice none 0 0, .int .i64 0]), (tb, [.slice a n cap, .int .i64 nx])] ∧ W1.heap.size ≤ W.heap.size) ⟨by have := HCI5.out.name hkg; rw [← HRK.out] at this; exact this, HFAR.out _ _ _ HMB5.out, by simp [World.setCell]; exact HS5.out⟩ ?_
   rintro V ⟨hCV, hMV, hsV⟩
   have HCV := Shut.mk hCV
   have HMV := Shut.mk hMV
   have HSV := Shut.mk hsV
   clear hCV hMV hsV HCI5 HMB5 HS5 HCI HMB hsz d2a d2f HCL
   obtain ⟨c7a, c7f⟩ := HCV.out.cell k hkg 7 (.slice r.loc r.nd.pieces.length r.cap) (by rw [← HRK.out]; rfl)
   obtain ⟨pl, hpl⟩ : ∃ pl, pl = r.nd.pieces.length := ⟨_, rfl⟩
   have HPL := Shut.mk hpl
   have HCP : Shut (Calls Tryz.prog 110 #[.slice r.loc pl r.cap] V fun e w' => clonePPost (pcs r.nd.pieces) pl V e w') := ⟨cloneP_any (fun hp => by
    obtain ⟨b, off, e1, _, _, e2, e3⟩ := (HPR.out.below HMV.out.bel) hp
    exact ⟨b, off, e1, e2, e3⟩) hpl (by omega)⟩
   unfold clonePPost at HCP
   rw [← hpl] at c7a
   clear hpl hsz9
   go_wp2_with (go_at_call 110; refine HCP.out.mono ?_; rintro e w6 ⟨pa, pcc, rfl, hpo, hb6⟩; have HPO := Shut.mk hpo; have HB6 := Shut.mk hb6; obtain ⟨d7a, d7f⟩ := (HCV.out.below hb6).cell k hkg 7 (.slice r.loc pl r.cap) (by rw [← HRK.out, HPL.out]; rfl); clear hpo hb6 c7a c7f)
   go_roundw
   case rel =>
    have h9 := HCV.out.piece hkg HSV.out HB6.out (a' := pa) (c' := pcc) (by rw [← HRK.out, ← HPL.out]; exact HPO.out)
    rw [← HRK.out, ← HPL.out] at h9
    exact ⟨k + 1, _, by go_num, by omega, ⟨h9⟩, ⟨HFAR.out _ _ _ (HMV.out.below HB6.out)⟩, ⟨by simp [World.setCell]; exact Nat.le_trans HSV.out HB6.out.size⟩⟩
   case measure => simp [intOf]; omega
  case neg =>
   have k1 : ¬ (k : Int) < (n : Int) := by omega
   have HNB := Shut.mk (HCI.out.fin (by omega))
   have HND := Shut.mk HCI.out.nd
   have HGL := Shut.mk HCI.out.len
   obtain ⟨z0, zf0⟩ := (HMB.out.at 0 rfl).1.2 0 _ rfl
   obtain ⟨z1, zf1⟩ := (HMB.out.at 0 rfl).1.2 1 _ rfl
   have y1 := ((HMB.out.at 1 rfl).1.2 1 _ rfl).1
   have hne : ¬ (tb = rb) := by have := htr.out; have h8 := (List.pairwise_cons.1 HMB.out.dist).1 _ (List.mem_singleton.2 rfl); exact fun e => h8 e.symm
   clear HCI
   go_wp2_with fail
   refine body_shade (fun W => MB w W [(rb, [.slice va n vc, .int .i64 nx]), (tb, [.slice a n cap, .int .i64 nx])] ∧ NB W W1.heap.size (.slice va n vc) gs) ⟨(HMB.out.put 0 rfl 0 (.slice va n vc) (by simp)).put 0 rfl 1 (.int .i64 nx) (by simp), (HNB.out.setBox rb 0 _ hrl).setBox rb 1 _ hrl⟩ ?_
   rintro W9 ⟨hM9, hN9⟩
   have r0 := ((hM9.at 0 rfl).1.2 0 _ rfl).1
   have r1 := ((hM9.at 0 rfl).1.2 1 _ rfl).1
   have hb9 := hM9.bel
   refine bodyPost_ret (v := .agg #[.slice va n vc, .int .i64 nx]) (by simp [results, Tryz.results59, go_sem, r0, r1]) rfl ⟨va, vc, gs, by rw [HGL.out], HND.out, by rw [HGL.out]; exact hN9.low (by have := htr.out; omega), hb9⟩
def idxI (p : NM → Bool) (ns : List NM) : Int := match ns.findIdx? p with
 | some i => (i : Int)
 | none => -1
theorem idxI_at (ns : List NM) (id : Int) : idxI (fun n => n.id == id) ns = atI ns id := rfl
theorem test_id (r : NR) (ib : Nat) (id : Int) (w : World) (h : w.cell? ⟨ib, 0, none⟩ = some (.int .i64 id)) (hl : ib < w.heap.size) : Calls Tryz.prog 105 #[nv r, .pointer (some ⟨ib, 0, none⟩)] w fun e w' => e = .returned (.bool (r.nd.id == id)) ∧ Below w.heap.size w w' := by
 obtain ⟨R, hR⟩ : ∃ R, R = (r.nd.id == id) := ⟨_, rfl⟩
 rw [← hR]
 go_enter Tryz.func105, Tryz.ntmps105
 go_wp2_with fail
 go_ret
 exact ⟨by simp [*], (Below.refl _ _).alloc (Nat.le_refl _) _⟩
theorem test_gone (r : NR) (gb : Nat) (a : Option Addr) (cap : Nat) (X : List Int) (w : World) (h : w.cell? ⟨gb, 0, none⟩ = some (.slice a X.length cap)) (hl : gb < w.heap.size) (hc : CRow w a (ics X)) (hX : X.length ≤ 1048576) : Calls Tryz.prog 203 #[nv r, .pointer (some ⟨gb, 0, none⟩)] w fun e w' => e = .returned (.bool (X.contains r.nd.id)) ∧ Below w.heap.size w w' := by
 have HC : Shut (∀ W, Below w.heap.size w W → Calls Tryz.prog 78 #[.slice a X.length cap, .int .i64 r.nd.id] W fun e w' => e = .returned (.bool (X.contains r.nd.id)) ∧ w' = W) := ⟨fun W hb => implContains cap r.nd.id (hc.stays hb) hX⟩
 generalize X.contains r.nd.id = R at HC ⊢
 generalize X.length = m at HC h
 clear hc hX
 go_enter Tryz.func203, Tryz.ntmps203
 go_wp2_with (go_at_call 78; refine (HC.out _ ((Below.refl _ _).alloc (Nat.le_refl _) _)).mono ?_; rintro e w1 ⟨rfl, hw1⟩; subst hw1)
 go_ret
 exact ⟨rfl, (Below.refl _ _).alloc (Nat.le_refl _) _⟩
set_option maxHeartbeats 1000000 in
theorem indexId {w : World} {a : Option Addr} {n cap : Nat} {rs : List NR} {lo hi : Nat} (p : NM → Bool) (cv : Value) (hm : TR w a rs lo hi) (hn : n = rs.length) (hl : n ≤ 1048576)
  (HC : ∀ W, Below w.heap.size w W → ∀ r ∈ rs, Calls Tryz.prog 105 #[nv r, cv] W fun e w' => e = .returned (.bool (p r.nd)) ∧ Below W.heap.size W w') :
  Calls Tryz.prog 104 #[.slice a n cap, .func (.func 105) #[] #[cv]] w fun e w' => e = .returned (.int .i64 (idxI p (nds rs))) ∧ Below w.heap.size w w' := by
 obtain ⟨R, hR⟩ : ∃ R, R = idxI p (nds rs) := ⟨_, rfl⟩
 rw [← hR]
 have HR := Shut.mk hR
 have HT := Shut.mk hm
 have HCC := Shut.mk HC
 have HN := Shut.mk hn
 clear hR hm HC hn
 go_enter Tryz.func104, Tryz.ntmps104
 go_wp2_with fail
 go_loopw [8] (fun iv wr => ∃ k : Nat, iv = .int .i64 k ∧ k ≤ n ∧ Shut (∀ j (hj : j < rs.length), j < k → p rs[j].nd = false) ∧ Shut (Below w.heap.size w wr)) (fun iv _ => n - (intOf iv).toNat)
 case atStart => exact ⟨0, rfl, Nat.zero_le _, ⟨fun _ _ h => absurd h (Nat.not_lt_zero _)⟩, ⟨Below.refl _ _⟩⟩
 case round =>
  obtain ⟨k, rfl, hk, hno, HW⟩ := hrel
  by_cases hlt : k < n
  case pos =>
   have hkr : k < rs.length := by have := HN.out; omega
   have k0 : (0 : Int) ≤ (k : Int) := by omega
   have k1 : (k : Int) < (n : Int) := by omega
   obtain ⟨b, off, rfl, lb, hnat⟩ := HT.out.nat (by omega)
   have hnk := (hnat k hkr).below HW.out lb
   have HCK := Shut.mk (HCC.out wr HW.out rs[k] (List.getElem_mem hkr))
   obtain ⟨r, hrk⟩ : ∃ r, r = rs[k] := ⟨_, rfl⟩
   rw [← hrk] at hnk HCK
   have HRK := Shut.mk hrk
   obtain ⟨c0, c1, c2, c3, c4, c5, c6, c7, c8⟩ := hnk
   have lb' : b < wr.heap.size := Nat.lt_of_lt_of_le lb HW.out.size
   obtain ⟨q, hq⟩ : ∃ q, q = p r.nd := ⟨_, rfl⟩
   rw [← hq] at HCK
   have HQ := Shut.mk hq
   clear hnat hrk hq
   cases q with
   | true =>
    have HE : Shut (R = (k : Int)) := ⟨by
     rw [HR.out]
     unfold idxI
     have : (nds rs).findIdx? p = some k := by
      rw [List.findIdx?_eq_some_iff_getElem]
      refine ⟨by rw [nds_len]; exact hkr, by simp only [nds, List.getElem_map]; rw [← HRK.out, ← HQ.out], fun j hj => ?_⟩
      have := hno.out j (by omega) hj
      simp only [nds, List.getElem_map]
      rw [this]
      simp
     rw [this]⟩
    go_wp2_with (go_at_call 105; refine HCK.out.mono ?_; rintro e w1 ⟨rfl, hb1⟩; have HB1 := Shut.mk (HW.out.trans (hb1.mono HW.out.size)); clear hb1)
    go_ret
    exact ⟨by rw [HE.out]; rfl, HB1.out⟩
   | false =>
    go_wp2_with (go_at_call 105; refine HCK.out.mono ?_; rintro e w1 ⟨rfl, hb1⟩; have HB1 := Shut.mk (HW.out.trans (hb1.mono HW.out.size)); clear hb1)
    go_roundw
    case rel =>
     refine ⟨k + 1, by go_num, by omega, ⟨fun j hj hjk => ?_⟩, HB1⟩
     rcases Nat.lt_succ_iff_lt_or_eq.1 hjk with h | h
     ·exact hno.out j hj h
     ·subst h
      rw [← HRK.out, ← HQ.out]
    case measure => simp [intOf]; omega
  case neg =>
   have k1 : ¬ (k : Int) < (n : Int) := by omega
   have HE : Shut (R = -1) := ⟨by
    rw [HR.out]
    unfold idxI
    have : (nds rs).findIdx? p = none := by
     rw [List.findIdx?_eq_none_iff]
     intro x hx
     obtain ⟨r, hr, rfl⟩ := List.mem_map.1 hx
     obtain ⟨j, hj, rfl⟩ := List.getElem_of_mem hr
     exact hno.out j hj (by have := HN.out; omega)
    rw [this]⟩
   go_wp2_with fail
   go_ret
   exact ⟨by rw [HE.out]; rfl, HW.out⟩
set_option maxHeartbeats 1000000 in
theorem indexGone {w : World} {a : Option Addr} {n cap : Nat} {rs : List NR} {lo hi : Nat} (p : NM → Bool) (cv : Value) (hm : TR w a rs lo hi) (hn : n = rs.length) (hl : n ≤ 1048576)
  (HC : ∀ W, Below w.heap.size w W → ∀ r ∈ rs, Calls Tryz.prog 203 #[nv r, cv] W fun e w' => e = .returned (.bool (p r.nd)) ∧ Below W.heap.size W w') :
  Calls Tryz.prog 104 #[.slice a n cap, .func (.func 203) #[] #[cv]] w fun e w' => e = .returned (.int .i64 (idxI p (nds rs))) ∧ Below w.heap.size w w' := by
 obtain ⟨R, hR⟩ : ∃ R, R = idxI p (nds rs) := ⟨_, rfl⟩
 rw [← hR]
 have HR := Shut.mk hR
 have HT := Shut.mk hm
 have HCC := Shut.mk HC
 have HN := Shut.mk hn
 clear hR hm HC hn
 go_enter Tryz.func104, Tryz.ntmps104
 go_wp2_with fail
 go_loopw [8] (fun iv wr => ∃ k : Nat, iv = .int .i64 k ∧ k ≤ n ∧ Shut (∀ j (hj : j < rs.length), j < k → p rs[j].nd = false) ∧ Shut (Below w.heap.size w wr)) (fun iv _ => n - (intOf iv).toNat)
 case atStart => exact ⟨0, rfl, Nat.zero_le _, ⟨fun _ _ h => absurd h (Nat.not_lt_zero _)⟩, ⟨Below.refl _ _⟩⟩
 case round =>
  obtain ⟨k, rfl, hk, hno, HW⟩ := hrel
  by_cases hlt : k < n
  case pos =>
   have hkr : k < rs.length := by have := HN.out; omega
   have k0 : (0 : Int) ≤ (k : Int) := by omega
   have k1 : (k : Int) < (n : Int) := by omega
   obtain ⟨b, off, rfl, lb, hnat⟩ := HT.out.nat (by omega)
   have hnk := (hnat k hkr).below HW.out lb
   have HCK := Shut.mk (HCC.out wr HW.out rs[k] (List.getElem_mem hkr))
   obtain ⟨r, hrk⟩ : ∃ r, r = rs[k] := ⟨_, rfl⟩
   rw [← hrk] at hnk HCK
   have HRK := Shut.mk hrk
   obtain ⟨c0, c1, c2, c3, c4, c5, c6, c7, c8⟩ := hnk
   have lb' : b < wr.heap.size := Nat.lt_of_lt_of_le lb HW.out.size
   obtain ⟨q, hq⟩ : ∃ q, q = p r.nd := ⟨_, rfl⟩
   rw [← hq] at HCK
   have HQ := Shut.mk hq
   clear hnat hrk hq
   cases q with
   | true =>
    have HE : Shut (R = (k : Int)) := ⟨by
     rw [HR.out]
     unfold idxI
     have : (nds rs).findIdx? p = some k := by
      rw [List.findIdx?_eq_some_iff_getElem]
      refine ⟨by rw [nds_len]; exact hkr, by simp only [nds, List.getElem_map]; rw [← HRK.out, ← HQ.out], fun j hj => ?_⟩
      have := hno.out j (by omega) hj
      simp only [nds, List.getElem_map]
      rw [this]
      simp
     rw [this]⟩
    go_wp2_with (go_at_call 203; refine HCK.out.mono ?_; rintro e w1 ⟨rfl, hb1⟩; have HB1 := Shut.mk (HW.out.trans (hb1.mono HW.out.size)); clear hb1)
    go_ret
    exact ⟨by rw [HE.out]; rfl, HB1.out⟩
   | false =>
    go_wp2_with (go_at_call 203; refine HCK.out.mono ?_; rintro e w1 ⟨rfl, hb1⟩; have HB1 := Shut.mk (HW.out.trans (hb1.mono HW.out.size)); clear hb1)
    go_roundw
    case rel =>
     refine ⟨k + 1, by go_num, by omega, ⟨fun j hj hjk => ?_⟩, HB1⟩
     rcases Nat.lt_succ_iff_lt_or_eq.1 hjk with h | h
     ·exact hno.out j hj h
     ·subst h
      rw [← HRK.out, ← HQ.out]
    case measure => simp [intOf]; omega
  case neg =>
   have k1 : ¬ (k : Int) < (n : Int) := by omega
   have HE : Shut (R = -1) := ⟨by
    rw [HR.out]
    unfold idxI
    have : (nds rs).findIdx? p = none := by
     rw [List.findIdx?_eq_none_iff]
     intro x hx
     obtain ⟨r, hr, rfl⟩ := List.mem_map.1 hx
     obtain ⟨j, hj, rfl⟩ := List.getElem_of_mem hr
     exact hno.out j hj (by have := HN.out; omega)
    rw [this]⟩
   go_wp2_with fail
   go_ret
   exact ⟨by rw [HE.out]; rfl, HW.out⟩
structure SS (w0 W : World) (L : List (Nat × List Value)) (B : Nat) (a : Option Addr) (n cap : Nat) (rs : List NR) : Prop where
 mb : MB w0 W L
 nb : NB W B (.slice a n cap) rs
 len : rs.length = n
 ap : ∀ p ∈ L, (∀ q, a = some q → q.block ≠ p.1) ∧ ∀ r ∈ rs, ∀ q, r.loc = some q → q.block ≠ p.1
 lo : w0.heap.size ≤ B
theorem SS.below {w0 W W' : World} {L : List (Nat × List Value)} {B : Nat} {a : Option Addr} {n cap : Nat} {rs : List NR} (h : SS w0 W L B a n cap rs) (hb : Below W.heap.size W W') : SS w0 W' L B a n cap rs :=
 ⟨h.mb.below hb, h.nb.below hb, h.len, h.ap, h.lo⟩
theorem SS.less {w0 W : World} {p : Nat × List Value} {L : List (Nat × List Value)} {B : Nat} {a : Option Addr} {n cap : Nat} {rs : List NR} (h : SS w0 W (p :: L) B a n cap rs) : SS w0 W L B a n cap rs :=
 ⟨h.mb.less, h.nb, h.len, fun q hq => h.ap q (List.mem_cons_of_mem _ hq), h.lo⟩
theorem NB.row_lt {w : World} {B : Nat} {a : Option Addr} {n cap : Nat} {rs : List NR} (h : NB w B (.slice a n cap) rs) : ∀ q, a = some q → q.block < w.heap.size := fun q e => (h.own.lt q.block (by rw [e]; rfl)).2
theorem SS.new {w0 W : World} {L : List (Nat × List Value)} {B : Nat} {a : Option Addr} {n cap : Nat} {rs : List NR} (h : SS w0 W L B a n cap rs) (cs : Array Value) (t : TypeId) : SS w0 (W.alloc (.cells cs t)) ((W.heap.size, cs.toList) :: L) B a n cap rs := by
 have hb : Below W.heap.size W (W.alloc (.cells cs t)) := (Below.refl _ _).alloc (Nat.le_refl _) _
 refine ⟨h.mb.new cs t, h.nb.below hb, h.len, fun p hp => ?_, h.lo⟩
 rcases List.mem_cons.1 hp with rfl | hp
 ·refine ⟨fun q e => ?_, fun r hr q e => ?_⟩
  ·have := h.nb.row_lt q e
   show q.block ≠ W.heap.size
   omega
  ·have := h.nb.lts r hr q e
   show q.block ≠ W.heap.size
   omega
 ·exact h.ap p hp
theorem SS.put {w0 W : World} {L : List (Nat × List Value)} {B g n cap : Nat} {rs : List NR} {k : Nat} {r : NR} (h : SS w0 W L B (some ⟨g, 0, none⟩) n cap rs) (hk : rs[k]? = some r) (f : Nat) (hf : f < 9) (x : Value) (r' : NR) (hc : ncells r' = (ncells r).set f x) (hl : r'.loc = r.loc) (hcp : r'.cap = r.cap) (hp : r'.nd.pieces = r.nd.pieces) :
  SS w0 (W.setCell ⟨g, k * 9 + f, none⟩ x) L B (some ⟨g, 0, none⟩) n cap (rs.set k r') := by
 obtain ⟨hk', e⟩ := List.getElem?_eq_some_iff.1 hk
 have hg : B ≤ g := (h.nb.own.lt g rfl).1
 refine ⟨h.mb.far (gb_set' W g (k * 9 + f) x) (fun p hp e => (h.ap p hp).1 ⟨g, 0, none⟩ rfl (by cases e; rfl)) (fun q e => by cases e; have := h.lo; omega), h.nb.putK h.len hk f hf x r' hc hl hcp hp, by rw [List.length_set]; exact h.len, fun p hp => ⟨(h.ap p hp).1, fun s hs q eq => ?_⟩, h.lo⟩
 rcases List.mem_or_eq_of_mem_set hs with m | m
 ·exact (h.ap p hp).2 s m q eq
 ·rw [m, hl] at eq
  exact (h.ap p hp).2 r (by rw [← e]; exact List.getElem_mem hk') q eq
theorem SS.setBox {w0 W : World} {L : List (Nat × List Value)} {B : Nat} {a : Option Addr} {n cap : Nat} {rs : List NR} (h : SS w0 W L B a n cap rs) (i : Nat) {b : Nat} {X : List Value} (hi : L[i]? = some (b, X)) (j : Nat) (v : Value) (hj : j < X.length) : SS w0 (W.setCell ⟨b, j, none⟩ v) (L.set i (b, X.set j v)) B a n cap rs := by
 have hm : (b, X) ∈ L := List.mem_of_getElem? hi
 refine ⟨h.mb.put i hi j v hj, h.nb.setAway b j v (fun e => ?_) (fun r hr q e => (h.ap _ hm).2 r hr q e), h.len, fun p hp => ?_, h.lo⟩
 ·cases a with
  | none => cases e
  | some q =>
   simp [Value.ownBlock] at e
   exact (h.ap _ hm).1 q rfl e
 ·rcases List.mem_or_eq_of_mem_set hp with q | q
  ·exact h.ap p q
  ·rw [q]
   have := h.ap _ hm
   exact this
theorem SS.cell {w0 W : World} {L : List (Nat × List Value)} {B g n cap : Nat} {rs : List NR} {k : Nat} {r : NR} (h : SS w0 W L B (some ⟨g, 0, none⟩) n cap rs) (hk : rs[k]? = some r) (f : Nat) (v : Value) (hv : (ncells r)[f]? = some v) : W.cell? ⟨g, k * 9 + f, none⟩ = some v ∧ W.frozen? ⟨g, k * 9 + f, none⟩ = false := h.nb.cellK h.len hk f v hv
theorem chSchema {w0 W : World} {L : List (Nat × List Value)} {B g n cap : Nat} {rs : List NR} {k : Nat} {r : NR} (h : SS w0 W L B (some ⟨g, 0, none⟩) n cap rs) (hk : rs[k]? = some r) (tp : Value) (path : ByteArray) (num : Int) (gr : Int) : Calls Tryz.prog 204 #[.agg #[.string path, .int .i64 num], tp, .pointer (some ⟨g, k * 9, none⟩), .int .i64 gr] W fun e w' => e = .returned (.tuple #[]) ∧ SS w0 w' L B (some ⟨g, 0, none⟩) n cap (rs.set k ⟨{ r.nd with schema := num }, r.loc, r.cap⟩) := by
 have HS := Shut.mk (h.new #[.string path, .int .i64 num] 165)
 have HK := Shut.mk hk
 obtain ⟨c0, f0⟩ := HS.out.cell hk 4 _ rfl
 have x0 := ((HS.out.mb.at 0 rfl).1.2 0 _ rfl).1
 have x1 := ((HS.out.mb.at 0 rfl).1.2 1 _ rfl).1
 clear h hk
 go_enter Tryz.func204, Tryz.ntmps204
 go_wp2_with fail
 refine body_shade (fun w9 => SS w0 w9 L B (some ⟨g, 0, none⟩) n cap (rs.set k ⟨{ r.nd with schema := num }, r.loc, r.cap⟩)) ((HS.out.put HK.out 4 (by omega) (.int .i64 num) ⟨{ r.nd with schema := num }, r.loc, r.cap⟩ rfl rfl rfl rfl).less) ?_
 intro w9 h9
 refine bodyPost_end (v := .tuple #[]) (by simp [results, Tryz.results204, go_sem]) rfl ⟨rfl, h9⟩
theorem chQuota {w0 W : World} {L : List (Nat × List Value)} {B g n cap : Nat} {rs : List NR} {k : Nat} {r : NR} (h : SS w0 W L B (some ⟨g, 0, none⟩) n cap rs) (hk : rs[k]? = some r) (tp : Value) (path : ByteArray) (num : Int) (gr : Int) : Calls Tryz.prog 205 #[.agg #[.string path, .int .i64 num], tp, .pointer (some ⟨g, k * 9, none⟩), .int .i64 gr] W fun e w' => e = .returned (.tuple #[]) ∧ SS w0 w' L B (some ⟨g, 0, none⟩) n cap (rs.set k ⟨{ r.nd with quota := num }, r.loc, r.cap⟩) := by
 have HS := Shut.mk (h.new #[.string path, .int .i64 num] 167)
 have HK := Shut.mk hk
 obtain ⟨c0, f0⟩ := HS.out.cell hk 5 _ rfl
 have x0 := ((HS.out.mb.at 0 rfl).1.2 0 _ rfl).1
 have x1 := ((HS.out.mb.at 0 rfl).1.2 1 _ rfl).1
 clear h hk
 go_enter Tryz.func205, Tryz.ntmps205
 go_wp2_with fail
 refine body_shade (fun w9 => SS w0 w9 L B (some ⟨g, 0, none⟩) n cap (rs.set k ⟨{ r.nd with quota := num }, r.loc, r.cap⟩)) ((HS.out.put HK.out 5 (by omega) (.int .i64 num) ⟨{ r.nd with quota := num }, r.loc, r.cap⟩ rfl rfl rfl rfl).less) ?_
 intro w9 h9
 refine bodyPost_end (v := .tuple #[]) (by simp [results, Tryz.results205, go_sem]) rfl ⟨rfl, h9⟩
theorem chClose {w0 W : World} {L : List (Nat × List Value)} {B g n cap : Nat} {rs : List NR} {k : Nat} {r : NR} (h : SS w0 W L B (some ⟨g, 0, none⟩) n cap rs) (hk : rs[k]? = some r) (tp : Value) (path : ByteArray) (gr : Int) : Calls Tryz.prog 207 #[.agg #[.string path], tp, .pointer (some ⟨g, k * 9, none⟩), .int .i64 gr] W fun e w' => e = .returned (.tuple #[]) ∧ SS w0 w' L B (some ⟨g, 0, none⟩) n cap (rs.set k ⟨{ r.nd with writer := 0 }, r.loc, r.cap⟩) := by
 have HS := Shut.mk (h.new #[.string path] 170)
 have HK := Shut.mk hk
 obtain ⟨c0, f0⟩ := HS.out.cell hk 8 _ rfl
 have x0 := ((HS.out.mb.at 0 rfl).1.2 0 _ rfl).1
 clear h hk
 go_enter Tryz.func207, Tryz.ntmps207
 go_wp2_with fail
 refine body_shade (fun w9 => SS w0 w9 L B (some ⟨g, 0, none⟩) n cap (rs.set k ⟨{ r.nd with writer := 0 }, r.loc, r.cap⟩)) ((HS.out.put HK.out 8 (by omega) (.int .i64 0) ⟨{ r.nd with writer := 0 }, r.loc, r.cap⟩ rfl rfl rfl rfl).less) ?_
 intro w9 h9
 refine bodyPost_end (v := .tuple #[]) (by simp [results, Tryz.results207, go_sem]) rfl ⟨rfl, h9⟩
theorem chOpen {w0 W : World} {L : List (Nat × List Value)} {B g n cap : Nat} {rs : List NR} {k : Nat} {r : NR} (h : SS w0 W L B (some ⟨g, 0, none⟩) n cap rs) (hk : rs[k]? = some r) (tp : Value) (path : ByteArray) (who : Int) (gr : Int) : Calls Tryz.prog 208 #[.agg #[.string path, .int .i64 who], tp, .pointer (some ⟨g, k * 9, none⟩), .int .i64 gr] W fun e w' => e = .returned (.tuple #[]) ∧ SS w0 w' L B (some ⟨g, 0, none⟩) n cap (rs.set k ⟨{ r.nd with writer := who }, r.loc, r.cap⟩) := by
 have HS := Shut.mk (h.new #[.string path, .int .i64 who] 172)
 have HK := Shut.mk hk
 obtain ⟨c0, f0⟩ := HS.out.cell hk 8 _ rfl
 have x0 := ((HS.out.mb.at 0 rfl).1.2 0 _ rfl).1
 have x1 := ((HS.out.mb.at 0 rfl).1.2 1 _ rfl).1
 clear h hk
 go_enter Tryz.func208, Tryz.ntmps208
 go_wp2_with fail
 refine body_shade (fun w9 => SS w0 w9 L B (some ⟨g, 0, none⟩) n cap (rs.set k ⟨{ r.nd with writer := who }, r.loc, r.cap⟩)) ((HS.out.put HK.out 8 (by omega) (.int .i64 who) ⟨{ r.nd with writer := who }, r.loc, r.cap⟩ rfl rfl rfl rfl).less) ?_
 intro w9 h9
 refine bodyPost_end (v := .tuple #[]) (by simp [results, Tryz.results208, go_sem]) rfl ⟨rfl, h9⟩
theorem chBoot (w : World) (path : ByteArray) (tp np : Value) (gr : Int) : Calls Tryz.prog 209 #[.agg #[.string path], tp, np, .int .i64 gr] w fun e w' => e = .returned (.tuple #[]) ∧ Below w.heap.size w w' := by
 go_enter Tryz.func209, Tryz.ntmps209
 go_wp2_with fail
 refine body_shade (fun w9 => Below w.heap.size w w9) (by first | exact Below.refl _ _ | exact (Below.refl _ _).alloc (Nat.le_refl _) _) ?_
 intro w9 h9
 refine bodyPost_end (v := .tuple #[]) (by simp [results, Tryz.results209, go_sem]) rfl ⟨rfl, h9⟩
theorem SS.see {w0 W : World} {L : List (Nat × List Value)} {B : Nat} {a : Option Addr} {n cap : Nat} {rs : List NR} {T : TM} {nx : Int} (h : SS w0 W L B a n cap rs) (hok : treeOk T = true) (hr : nds rs = T.nodes) (hx : nx = T.next) : SeeT W a n cap nx T := by
 refine ⟨hok, B, W.heap.size, ?_⟩
 have := (h.nb.ans (w := w0) (nx := nx) hr h.lo).see
 obtain ⟨nodes, next⟩ := T
 dsimp only at hr hx
 subst hx
 have h9 := h.nb.fin (nx := nx)
 rw [hr] at h9
 exact h9.see
set_option maxHeartbeats 2000000 in
theorem chMove {w0 W : World} {L : List (Nat × List Value)} {B g n cap tb : Nat} {nx : Int} {rs : List NR} {k : Nat} {r : NR} {T : TM} (h : SS w0 W ((tb, [.slice (some ⟨g, 0, none⟩) n cap, .int .i64 nx]) :: L) B (some ⟨g, 0, none⟩) n cap rs) (hk : rs[k]? = some r) (hok : treeOk T = true) (hr : nds rs = T.nodes) (hx : nx = T.next) (path dest : ByteArray) (gr : Int) :
  Calls Tryz.prog 200 #[.agg #[.string path, .string dest, .string (parentB dest).1, .string (parentB dest).2.1], .pointer (some ⟨tb, 0, none⟩), .pointer (some ⟨g, k * 9, none⟩), .int .i64 gr] W fun e w' => e = .returned (.tuple #[]) ∧ SS w0 w' ((tb, [.slice (some ⟨g, 0, none⟩) n cap, .int .i64 nx]) :: L) B (some ⟨g, 0, none⟩) n cap (rs.set k ⟨{ r.nd with parent := upX T dest, name := (parentB dest).2.1 }, r.loc, r.cap⟩) := by
 have hsm := parent_small dest
 have HF := Shut.mk (fun W' (hb : Below W.heap.size W W') => ((h.see hok hr hx).below hb).find (parentB dest).1 (by omega))
 have hu : findX T (parentB dest).1 = upX T dest := rfl
 simp only [hu] at HF
 generalize (parentB dest).1 = up at HF ⊢
 generalize (parentB dest).2.1 = nm
 generalize upX T dest = u at HF ⊢
 have HK := Shut.mk hk
 have HS := Shut.mk h
 clear h hk hok hr hx hu hsm
 go_enter Tryz.func200, Tryz.ntmps200
 go_upto_region 1 with fail
 obtain ⟨rb, hrb⟩ : ∃ rb, rb = W.heap.size := ⟨_, rfl⟩
 refine wp_shade (fun V => SS w0 V ((rb, [.string path, .string dest, .string up, .string nm]) :: (tb, [.slice (some ⟨g, 0, none⟩) n cap, .int .i64 nx]) :: L) B (some ⟨g, 0, none⟩) n cap rs ∧ Below W.heap.size W V) ⟨by rw [hrb]; exact HS.out.new #[.string path, .string dest, .string up, .string nm] 161, (Below.refl _ _).alloc (Nat.le_refl _) _⟩ ?_
 rintro W1 ⟨hS1, hb1⟩
 have HS1 := Shut.mk hS1
 have HB1 := Shut.mk hb1
 rw [← hrb]
 clear hS1 hb1 hrb HS
 have ne1 : ¬ (g = tb) := (HS1.out.ap (tb, [.slice (some ⟨g, 0, none⟩) n cap, .int .i64 nx]) (List.mem_cons_of_mem _ (List.mem_cons_self ..))).1 ⟨g, 0, none⟩ rfl
 have ne2 : ¬ (tb = g) := fun e => ne1 e.symm
 have ne3 : ¬ (g = rb) := (HS1.out.ap (rb, [.string path, .string dest, .string up, .string nm]) (List.mem_cons_self ..)).1 ⟨g, 0, none⟩ rfl
 have ne4 : ¬ (rb = g) := fun e => ne3 e.symm
 have n0 := ((HS1.out.mb.at 1 rfl).1.2 0 _ rfl).1
 have n1 := ((HS1.out.mb.at 1 rfl).1.2 1 _ rfl).1
 have x2 := ((HS1.out.mb.at 0 rfl).1.2 2 _ rfl).1
 have x3 := ((HS1.out.mb.at 0 rfl).1.2 3 _ rfl).1
 have lt1 := (HS1.out.mb.at 1 rfl).1.1
 have lt0 := (HS1.out.mb.at 0 rfl).1.1
 go_region_held3 (fun w' => w'.cell? ⟨tb, 0, none⟩ = some (.slice (some ⟨g, 0, none⟩) n cap) ∧ w'.cell? ⟨tb, 1, none⟩ = some (.int .i64 nx) ∧ w'.cell? ⟨rb, 2, none⟩ = some (.string up) ∧ w'.cell? ⟨rb, 3, none⟩ = some (.string nm)) (first | go_keep | (rw [hw8.cell (p := ⟨tb, 0, none⟩) lt1, hw8.cell (p := ⟨tb, 1, none⟩) lt1, hw8.cell (p := ⟨rb, 2, none⟩) lt0, hw8.cell (p := ⟨rb, 3, none⟩) lt0]; refine ⟨?_, ?_, ?_, ?_⟩ <;> assumption)) ((go_at_call 19; refine (HF.out _ (HB1.out.drew)).mono ?_; rintro e w8 ⟨rfl, hw8⟩; have hb9 := Shut.mk (Below.trans (Below.drew (Below.refl _ _)) hw8 : Below W1.heap.size W1 w8); have hm1 := Shut.mk ((HS1.out.below hb9.out).cell HK.out 1 _ rfl); have hm2 := Shut.mk ((HS1.out.below hb9.out).cell HK.out 2 _ rfl); obtain ⟨m1, mf1⟩ := hm1.out; obtain ⟨m2, mf2⟩ := hm2.out))
 all_goals
  go_wp2_with fail
  refine body_shade (fun w9 => SS w0 w9 ((tb, [.slice (some ⟨g, 0, none⟩) n cap, .int .i64 nx]) :: L) B (some ⟨g, 0, none⟩) n cap (rs.set k ⟨{ r.nd with parent := u, name := nm }, r.loc, r.cap⟩)) ?_ ?_
  ·have h8 := HS1.out.below hb9.out
   have h9 := h8.put HK.out 1 (by omega) (.int .i64 u) ⟨{ r.nd with parent := u }, r.loc, r.cap⟩ rfl rfl rfl rfl
   have hk2 : (rs.set k ⟨{ r.nd with parent := u }, r.loc, r.cap⟩)[k]? = some ⟨{ r.nd with parent := u }, r.loc, r.cap⟩ := by
    obtain ⟨hk', -⟩ := List.getElem?_eq_some_iff.1 HK.out
    rw [List.getElem?_set_self hk']
   have h10 := h9.put hk2 2 (by omega) (.string nm) ⟨{ r.nd with parent := u, name := nm }, r.loc, r.cap⟩ rfl rfl rfl rfl
   rw [List.set_set] at h10
   exact h10.less
  ·intro w9 h9
   refine bodyPost_end (v := .tuple #[]) (by simp [results, Tryz.results200, go_sem]) rfl ⟨rfl, h9⟩
theorem SS.snoc {w0 W w5 : World} {L : List (Nat × List Value)} {B g n cap gg cap1 : Nat} {rs : List NR} {r : NR} {o : Obj} (h : SS w0 W L B (some ⟨g, 0, none⟩) n cap rs) (hp : r.nd.pieces = []) (hl : r.loc = none) (hc : r.cap = 0)
  (ho : w5.ownsRow B 47 9 (.slice (some ⟨gg, 0, none⟩) (n + 1) cap1) (n + 1) (ncs rs ++ ncells r)) (hg : ((W.alloc o).drew).grownBy w5 (Value.slice (some ⟨g, 0, none⟩) n cap).ownBlock) (hat : (Value.slice (some ⟨g, 0, none⟩) n cap).ownBlock = some gg ∨ gg = W.heap.size + 1) :
  SS w0 w5 L B (some ⟨gg, 0, none⟩) (n + 1) cap1 (rs ++ [r]) := by
 have hba : Below W.heap.size W (W.alloc o).drew := ((Below.refl _ _).alloc (Nat.le_refl _) _).drew
 have hgB : B ≤ g := (h.nb.own.lt g rfl).1
 have hW : W.heap.size ≤ (W.alloc o).drew.heap.size := hba.size
 refine ⟨(h.mb.below hba).far hg (fun p hp' e => (h.ap p hp').1 ⟨g, 0, none⟩ rfl (by cases e; rfl)) (fun q e => by cases e; show w0.heap.size ≤ g; have := h.lo; omega), ?_, by rw [List.length_append, List.length_singleton, h.len], fun p hp' => ⟨fun q e => ?_, fun s hs q e => ?_⟩, h.lo⟩
 ·refine h.nb.snoc (v' := .slice (some ⟨gg, 0, none⟩) (n + 1) cap1) hba ?_ (fun hne => absurd hl hne) (by rw [h.len]; exact ho) hg
  rw [hp, hl, hc]
  exact World.ownsRow_nil _ B 99 2
 ·cases e
  show gg ≠ p.1
  rcases hat with e | e
  ·have : g = gg := by simpa [Value.ownBlock] using e
   rw [← this]
   exact (h.ap p hp').1 ⟨g, 0, none⟩ rfl
  ·have := (h.mb.box p hp').1.1
   omega
 ·rcases List.mem_append.1 hs with m | m
  ·exact (h.ap p hp').2 s m q e
  ·rw [List.mem_singleton.1 m, hl] at e
   cases e
set_option maxHeartbeats 4000000 in
theorem addNode_any {w0 W : World} {L : List (Nat × List Value)} {B g n cap tb : Nat} {nx : Int} {rs : List NR} (h : SS w0 W ((tb, [.slice (some ⟨g, 0, none⟩) n cap, .int .i64 nx]) :: L) B (some ⟨g, 0, none⟩) n cap rs) (hn : n ≤ 1000) (hnx : 0 ≤ nx ∧ nx ≤ 1000000) (parent : Int) (name : ByteArray) (dir : Bool) (schema quota ln writer : Int) :
  Calls Tryz.prog 198 #[.pointer (some ⟨tb, 0, none⟩), .agg #[.int .i64 0, .int .i64 parent, .string name, .bool dir, .int .i64 schema, .int .i64 quota, .int .i64 ln, .slice none 0 0, .int .i64 writer]] W fun e w' => e = .returned (.tuple #[]) ∧ ∃ gg cap1, SS w0 w' ((tb, [.slice (some ⟨gg, 0, none⟩) (n + 1) cap1, .int .i64 (nx + 1)]) :: L) B (some ⟨gg, 0, none⟩) (n + 1) cap1 (rs ++ [(⟨⟨nx, parent, name, dir, schema, quota, ln, [], writer⟩, none, 0⟩ : NR)]) := by
 obtain ⟨i0, hin, hz0, hz1, hz2⟩ := info_parts infoInodeG9
 have HS := Shut.mk h
 clear h
 go_enter Tryz.func198, Tryz.ntmps198
 go_upto_region 1 with fail
 obtain ⟨xb, hxb⟩ : ∃ xb, xb = W.heap.size := ⟨_, rfl⟩
 refine wp_shade (fun V => SS w0 V ((xb, [.int .i64 0, .int .i64 parent, .string name, .bool dir, .int .i64 schema, .int .i64 quota, .int .i64 ln, .slice none 0 0, .int .i64 writer]) :: (tb, [.slice (some ⟨g, 0, none⟩) n cap, .int .i64 nx]) :: L) B (some ⟨g, 0, none⟩) n cap rs) (by rw [hxb]; exact HS.out.new #[.int .i64 0, .int .i64 parent, .string name, .bool dir, .int .i64 schema, .int .i64 quota, .int .i64 ln, .slice none 0 0, .int .i64 writer] 47) ?_
 intro W1 hS1
 have HS1 := Shut.mk hS1
 rw [← hxb]
 clear hS1 hxb HS
 have n1 := ((HS1.out.mb.at 1 rfl).1.2 1 _ rfl).1
 obtain ⟨y0, yf0⟩ := (HS1.out.mb.at 0 rfl).1.2 0 _ rfl
 go_upto_region 2 with fail
 refine wp_shade (fun V => SS w0 V ((xb, [.int .i64 nx, .int .i64 parent, .string name, .bool dir, .int .i64 schema, .int .i64 quota, .int .i64 ln, .slice none 0 0, .int .i64 writer]) :: (tb, [.slice (some ⟨g, 0, none⟩) n cap, .int .i64 nx]) :: L) B (some ⟨g, 0, none⟩) n cap rs) (HS1.out.setBox 0 rfl 0 (.int .i64 nx) (by simp)) ?_
 intro W2 hS2
 have HS2 := Shut.mk hS2
 clear hS2 HS1 n1 y0 yf0
 have hrow := HS2.out.nb.own
 rw [HS2.out.len] at hrow
 have ne1 : ¬ (g = tb) := (HS2.out.ap (tb, [.slice (some ⟨g, 0, none⟩) n cap, .int .i64 nx]) (List.mem_cons_of_mem _ (List.mem_cons_self ..))).1 ⟨g, 0, none⟩ rfl
 have ne2 : ¬ (tb = g) := fun e => ne1 e.symm
 have ne3 : ¬ (tb = xb) := fun e => (List.pairwise_cons.1 HS2.out.mb.dist).1 _ (List.mem_cons_self ..) e.symm
 have nb2 : (Value.slice (some ⟨g, 0, none⟩) n cap).ownBlock ≠ some tb := fun e => ne1 (by simpa [Value.ownBlock] using e)
 have n0 := ((HS2.out.mb.at 1 rfl).1.2 0 _ rfl).1
 have y0 := ((HS2.out.mb.at 0 rfl).1.2 0 _ rfl).1
 have y1 := ((HS2.out.mb.at 0 rfl).1.2 1 _ rfl).1
 have y2 := ((HS2.out.mb.at 0 rfl).1.2 2 _ rfl).1
 have y3 := ((HS2.out.mb.at 0 rfl).1.2 3 _ rfl).1
 have y4 := ((HS2.out.mb.at 0 rfl).1.2 4 _ rfl).1
 have y5 := ((HS2.out.mb.at 0 rfl).1.2 5 _ rfl).1
 have y6 := ((HS2.out.mb.at 0 rfl).1.2 6 _ rfl).1
 have y7 := ((HS2.out.mb.at 0 rfl).1.2 7 _ rfl).1
 have y8 := ((HS2.out.mb.at 0 rfl).1.2 8 _ rfl).1
 have lt1 := (HS2.out.mb.at 1 rfl).1.1
 have hBW : B ≤ W2.heap.size := by have := (hrow.lt g rfl); omega
 have hw9 : IntKind.i64.wrap (nx + 1) = nx + 1 := IntWalk.i64_in _ ⟨by omega, by omega⟩
 go_region_law ((refine step_append_lies _ (by rfl) _ _ _ (by rfl) B 47 i0 _ 9 96 Tryz.underlying24 hin hz0 hz1 hz2 rfl (by omega) _ _ _ (by rfl) ((hrow.alloc _).drew) ⟨W2.heap.size, 0, none⟩ 1 1 [.int .i64 nx, .int .i64 parent, .string name, .bool dir, .int .i64 schema, .int .i64 quota, .int .i64 ln, .slice none 0 0, .int .i64 writer] (by rfl) (by rfl) (World.news_of_block (cs := #[.int .i64 nx, .int .i64 parent, .string name, .bool dir, .int .i64 schema, .int .i64 quota, .int .i64 ln, .slice none 0 0, .int .i64 writer]) (t := 47) (fr := (0, 0)) (heap_alloc_new W2 _)) (by simp [Value.oneCell']) (by omega) (by unfold maxLen; omega) (by omega) (by simp; omega) (W2.heap.size + 1) (by simp) ?_; intro gg cap1 w5 hown1 hgrow hat hlt'; have HS5 := Shut.mk (HS2.out.snoc (r := ⟨⟨nx, parent, name, dir, schema, quota, ln, [], writer⟩, none, 0⟩) rfl rfl rfl hown1 hgrow hat); obtain ⟨vc1, vf1⟩ := (HS5.out.mb.at 1 rfl).1.2 0 _ rfl))
 all_goals
  go_upto_region 3 with fail
  refine wp_shade (fun V => SS w0 V ((xb, [.int .i64 nx, .int .i64 parent, .string name, .bool dir, .int .i64 schema, .int .i64 quota, .int .i64 ln, .slice none 0 0, .int .i64 writer]) :: (tb, [.slice (some ⟨gg, 0, none⟩) (n + 1) cap1, .int .i64 nx]) :: L) B (some ⟨gg, 0, none⟩) (n + 1) cap1 (rs ++ [(⟨⟨nx, parent, name, dir, schema, quota, ln, [], writer⟩, none, 0⟩ : NR)])) (HS5.out.setBox 1 rfl 0 (.slice (some ⟨gg, 0, none⟩) (n + 1) cap1) (by simp)) ?_
  intro V6 hS6
  have HS6 := Shut.mk hS6
  clear hS6 hown1 hgrow hat hlt' vc1 vf1 HS5 n0 y0 y1 y2 y3 y4 y5 y6 y7 y8 hrow lt1 HS2
  obtain ⟨m1, mf1⟩ := (HS6.out.mb.at 1 rfl).1.2 1 _ rfl
  go_wp2_with fail
  refine body_shade (fun w9 => SS w0 w9 ((tb, [.slice (some ⟨gg, 0, none⟩) (n + 1) cap1, .int .i64 (nx + 1)]) :: L) B (some ⟨gg, 0, none⟩) (n + 1) cap1 (rs ++ [(⟨⟨nx, parent, name, dir, schema, quota, ln, [], writer⟩, none, 0⟩ : NR)])) ((HS6.out.setBox 1 rfl 1 (.int .i64 (nx + 1)) (by simp)).less) ?_
  intro w9 h9
  refine bodyPost_end (v := .tuple #[]) (by simp [results, Tryz.results198, go_sem]) rfl ⟨rfl, gg, cap1, h9⟩
end Go.Proofs.YtakhagkhngmpaaaGreat
