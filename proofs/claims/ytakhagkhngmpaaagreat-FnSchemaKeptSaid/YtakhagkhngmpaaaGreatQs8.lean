/- Texts of ours, laid one behind the other: ChD, ChF, ChE, ChG, EdP, EdQ, GrpS, GrpI. -/
import Derived.Test.YtakhagkhngmpaaaGreatQs7
import Derived.Test.YtakhagkhngmpaaaGreatQs2
import Derived.Test.YtakhagkhngmpaaaGreatQsStI
import Derived.Test.YtakhagkhngmpaaaGreatQs4
import Derived.Test.YtakhagkhngmpaaaGreatQs3
import Derived.Test.YtakhagkhngmpaaaGreatQs6
import Derived.Test.YtakhagkhngmpaaaGreatQs5
import Derived.Laws.IdiomCopy
import Derived.Test.YtakhagkhngmpaaaGreatQsShf
import Derived.Sort.OwnSortedInts
/- ChD: . -/
namespace Go.Proofs.YtakhagkhngmpaaaGreat
set_option maxRecDepth 100000
open Go.RowKit
attribute [local go_sem ↓] Go.wp_at_zero Go.wp_at_succ
set_option maxHeartbeats 2000000 in
theorem chMake {w0 W : World} {L : List (Nat × List Value)} {B g n cap tb : Nat} {nx : Int} {rs : List NR} {k : Nat} {r : NR} (h : SS w0 W ((tb, [.slice (some ⟨g, 0, none⟩) n cap, .int .i64 nx]) :: L) B (some ⟨g, 0, none⟩) n cap rs) (hk : rs[k]? = some r) (hn : n ≤ 1000) (hnx : 0 ≤ nx ∧ nx ≤ 1000000) (path : ByteArray) (gr : Int) :
  Calls Tryz.prog 197 #[.agg #[.string path, .string (parentB path).1, .string (parentB path).2.1], .pointer (some ⟨tb, 0, none⟩), .pointer (some ⟨g, k * 9, none⟩), .int .i64 gr] W fun e w' => e = .returned (.tuple #[]) ∧ ∃ gg cap1, SS w0 w' ((tb, [.slice (some ⟨gg, 0, none⟩) (n + 1) cap1, .int .i64 (nx + 1)]) :: L) B (some ⟨gg, 0, none⟩) (n + 1) cap1 (rs ++ [(⟨⟨nx, r.nd.id, (parentB path).2.1, true, 0, 0, 0, [], 0⟩, none, 0⟩ : NR)]) := by
 generalize (parentB path).1 = up
 generalize (parentB path).2.1 = nm
 have c0 := (h.cell hk 0 _ rfl).1
 obtain ⟨pid, hpid⟩ : ∃ pid, pid = r.nd.id := ⟨_, rfl⟩
 have HS := Shut.mk h
 have HC : Shut (∀ W', Below W.heap.size W W' → W'.cell? ⟨g, k * 9, none⟩ = some (.int .i64 pid)) := ⟨fun W' hb => by rw [hpid]; exact (hb.cell (p := ⟨g, k * 9, none⟩) (h.nb.row_lt ⟨g, 0, none⟩ rfl)).trans c0⟩
 rw [← hpid]
 clear h hk c0 hpid
 go_enter Tryz.func197, Tryz.ntmps197
 go_upto_region 1 with fail
 obtain ⟨rb, hrb⟩ : ∃ rb, rb = W.heap.size := ⟨_, rfl⟩
 refine wp_shade (fun V => SS w0 V ((rb, [.string path, .string up, .string nm]) :: (tb, [.slice (some ⟨g, 0, none⟩) n cap, .int .i64 nx]) :: L) B (some ⟨g, 0, none⟩) n cap rs ∧ Below W.heap.size W V) ⟨by rw [hrb]; exact HS.out.new #[.string path, .string up, .string nm] 157, (Below.refl _ _).alloc (Nat.le_refl _) _⟩ ?_
 rintro W1 ⟨hS1, hb1⟩
 have HS1 := Shut.mk hS1
 have HB1 := Shut.mk hb1
 rw [← hrb]
 clear hS1 hb1 hrb HS
 have HLE : Shut (∀ x, Later W1.drew x → x.cell? ⟨g, k * 9, none⟩ = some (.int .i64 pid) ∧ x.cell? ⟨rb, 2, none⟩ = some (.string nm) ∧ x.cell? ⟨tb, 0, none⟩ = some (.slice (some ⟨g, 0, none⟩) n cap) ∧ x.cell? ⟨tb, 1, none⟩ = some (.int .i64 nx)) := ⟨fun x hx => by
  have hb : Below W1.heap.size W1 x := Below.trans (Below.drew (Below.refl _ _)) hx
  have M := HS1.out.mb.below hb
  exact ⟨HC.out x (HB1.out.trans (hb.mono HB1.out.size)), ((M.at 0 rfl).1.2 2 _ rfl).1, ((M.at 1 rfl).1.2 0 _ rfl).1, ((M.at 1 rfl).1.2 1 _ rfl).1⟩⟩
 have HBX : Shut (∀ x, Later W1.drew x → Below W.heap.size W x) := ⟨fun x hx => HB1.out.trans ((Below.trans (Below.drew (Below.refl _ _)) hx : Below W1.heap.size W1 x).mono HB1.out.size)⟩
 refine wp_region_tail 9 (by kernel_rfl) ?_
 refine wpK_val (i := 0) (v := ?va0) rfl (by kernel_rfl) (by kernel_rfl) (by kernel_rfl) (by kernel_rfl) (fun _ _ _ h => h) (by rfl) ?hya0 ?resta0
 case hya0 => (intro x hx; obtain ⟨d0, d1, d2, d3⟩ := HLE.out x hx; go_simp; try with_reducible rfl)
 try simp only [Act.put, qA, qB, qC]
 refine wpK_val (i := 1) (v := ?va1) rfl (by kernel_rfl) (by kernel_rfl) (by kernel_rfl) (by kernel_rfl) (fun _ _ _ h => h) (by rfl) ?hya1 ?resta1
 case hya1 => (intro x hx; obtain ⟨d0, d1, d2, d3⟩ := HLE.out x hx; go_simp; try with_reducible rfl)
 try simp only [Act.put, qA, qB, qC]
 refine wpK_val (i := 2) (v := ?va2) rfl (by kernel_rfl) (by kernel_rfl) (by kernel_rfl) (by kernel_rfl) (fun _ _ _ h => h) (by rfl) ?hya2 ?resta2
 case hya2 => (intro x hx; obtain ⟨d0, d1, d2, d3⟩ := HLE.out x hx; go_simp; try with_reducible rfl)
 try simp only [Act.put, qA, qB, qC]
 refine wpK_val (i := 3) (v := ?va3) rfl (by kernel_rfl) (by kernel_rfl) (by kernel_rfl) (by kernel_rfl) (fun _ _ _ h => h) (by rfl) ?hya3 ?resta3
 case hya3 => (intro x hx; obtain ⟨d0, d1, d2, d3⟩ := HLE.out x hx; go_simp; try with_reducible rfl)
 try simp only [Act.put, qA, qB, qC]
 refine wpK_val (i := 4) (v := ?va4) rfl (by kernel_rfl) (by kernel_rfl) (by kernel_rfl) (by kernel_rfl) (fun _ _ _ h => h) (by rfl) ?hya4 ?resta4
 case hya4 => (intro x hx; obtain ⟨d0, d1, d2, d3⟩ := HLE.out x hx; go_simp; try with_reducible rfl)
 try simp only [Act.put, qA, qB, qC]
 refine wpK_val (i := 5) (v := ?va5) rfl (by kernel_rfl) (by kernel_rfl) (by kernel_rfl) (by kernel_rfl) (fun _ _ _ h => h) (by rfl) ?hya5 ?resta5
 case hya5 => (intro x hx; obtain ⟨d0, d1, d2, d3⟩ := HLE.out x hx; go_simp; try with_reducible rfl)
 try simp only [Act.put, qA, qB, qC]
 refine wpK_val (i := 6) (v := ?va6) rfl (by kernel_rfl) (by kernel_rfl) (by kernel_rfl) (by kernel_rfl) (fun _ _ _ h => h) (by rfl) ?hya6 ?resta6
 case hya6 => (intro x hx; obtain ⟨d0, d1, d2, d3⟩ := HLE.out x hx; go_simp; try with_reducible rfl)
 try simp only [Act.put, qA, qB, qC]
 refine wpK_val (i := 7) (v := ?va7) rfl (by kernel_rfl) (by kernel_rfl) (by kernel_rfl) (by kernel_rfl) (fun _ _ _ h => h) (by rfl) ?hya7 ?resta7
 case hya7 => (intro x hx; obtain ⟨d0, d1, d2, d3⟩ := HLE.out x hx; go_simp; try with_reducible rfl)
 try simp only [Act.put, qA, qB, qC]
 refine wpK_val (i := 8) (v := ?va8) rfl (by kernel_rfl) (by kernel_rfl) (by kernel_rfl) (by kernel_rfl) (fun _ _ _ h => h) (by rfl) ?hya8 ?resta8
 case hya8 => (intro x hx; obtain ⟨d0, d1, d2, d3⟩ := HLE.out x hx; go_simp; try with_reducible rfl)
 try simp only [Act.put, qA, qB, qC]
 refine wpK_tail (by kernel_rfl) ?_
 intro y hy
 have HSY := Shut.mk (HS1.out.below (Below.trans (Below.drew (Below.refl _ _)) hy)).less
 refine wpA_call (f := 198) (args := #[.pointer (some ⟨tb, 0, none⟩), .agg #[.int .i64 0, .int .i64 pid, .string nm, .bool true, .int .i64 0, .int .i64 0, .int .i64 0, .slice none 0 0, .int .i64 0]]) (i := 9) (by kernel_rfl) rfl (by rfl) (by go_simp) (by kernel_rfl) ?_
 refine (addNode_any HSY.out hn hnx pid nm true 0 0 0 0).mono ?_
 rintro e z ⟨rfl, gg, cap1, h9⟩
 refine ⟨_, rfl, ?_⟩
 have H9 := Shut.mk h9
 clear h9 hy HLE HBX HS1 HB1 HC
 try simp only [Act.put, qA, qB, qC]
 go_wp2_with fail
 refine body_shade (fun w9 => SS w0 w9 ((tb, [.slice (some ⟨gg, 0, none⟩) (n + 1) cap1, .int .i64 (nx + 1)]) :: L) B (some ⟨gg, 0, none⟩) (n + 1) cap1 (rs ++ [(⟨⟨nx, pid, nm, true, 0, 0, 0, [], 0⟩, none, 0⟩ : NR)])) H9.out ?_
 intro w9 h9
 refine bodyPost_end (v := .tuple #[]) (by simp [results, Tryz.results197, go_sem]) rfl ⟨rfl, gg, cap1, h9⟩
set_option maxHeartbeats 2000000 in
theorem chCreate {w0 W : World} {L : List (Nat × List Value)} {B g n cap tb : Nat} {nx : Int} {rs : List NR} {k : Nat} {r : NR} {T : TM} (h : SS w0 W ((tb, [.slice (some ⟨g, 0, none⟩) n cap, .int .i64 nx]) :: L) B (some ⟨g, 0, none⟩) n cap rs) (hk : rs[k]? = some r) (hn : n ≤ 1000) (hnx : 0 ≤ nx ∧ nx ≤ 1000000) (hok : treeOk T = true) (hr : nds rs = T.nodes) (hx : nx = T.next) (hid : (Lit.int .i64 r.nd.id).wf = true) (path : ByteArray) (who : Int) (gr : Int) :
  Calls Tryz.prog 199 #[.agg #[.string path, .string (parentB path).1, .string (parentB path).2.1, .int .i64 who], .pointer (some ⟨tb, 0, none⟩), .pointer (some ⟨g, k * 9, none⟩), .int .i64 gr] W fun e w' => e = .returned (.tuple #[]) ∧ ∃ gg cap1, SS w0 w' ((tb, [.slice (some ⟨gg, 0, none⟩) (n + 1) cap1, .int .i64 (nx + 1)]) :: L) B (some ⟨gg, 0, none⟩) (n + 1) cap1 (rs ++ [(⟨⟨nx, r.nd.id, (parentB path).2.1, false, schemaAtX T r.nd.id, 0, 0, [], who⟩, none, 0⟩ : NR)]) := by
 have HSA := Shut.mk (fun W' (hb : Below W.heap.size W W') => by
  obtain ⟨lo, hi, q⟩ := ((h.see hok hr hx).below hb).see
  exact implSchemaAt W' _ T lo hi r.nd.id q (tree_fit hok) (tree_int hok) hid)
 generalize schemaAtX T r.nd.id = sch at HSA ⊢
 generalize (parentB path).1 = up
 generalize (parentB path).2.1 = nm
 have c0 := (h.cell hk 0 _ rfl).1
 obtain ⟨pid, hpid⟩ : ∃ pid, pid = r.nd.id := ⟨_, rfl⟩
 have HS := Shut.mk h
 have HC : Shut (∀ W', Below W.heap.size W W' → W'.cell? ⟨g, k * 9, none⟩ = some (.int .i64 pid)) := ⟨fun W' hb => by rw [hpid]; exact (hb.cell (p := ⟨g, k * 9, none⟩) (h.nb.row_lt ⟨g, 0, none⟩ rfl)).trans c0⟩
 rw [← hpid] at HSA ⊢
 clear h hk c0 hpid hok hr hx hid
 go_enter Tryz.func199, Tryz.ntmps199
 go_upto_region 1 with fail
 obtain ⟨rb, hrb⟩ : ∃ rb, rb = W.heap.size := ⟨_, rfl⟩
 refine wp_shade (fun V => SS w0 V ((rb, [.string path, .string up, .string nm, .int .i64 who]) :: (tb, [.slice (some ⟨g, 0, none⟩) n cap, .int .i64 nx]) :: L) B (some ⟨g, 0, none⟩) n cap rs ∧ Below W.heap.size W V) ⟨by rw [hrb]; exact HS.out.new #[.string path, .string up, .string nm, .int .i64 who] 159, (Below.refl _ _).alloc (Nat.le_refl _) _⟩ ?_
 rintro W1 ⟨hS1, hb1⟩
 have HS1 := Shut.mk hS1
 have HB1 := Shut.mk hb1
 rw [← hrb]
 clear hS1 hb1 hrb HS
 have HLE : Shut (∀ x, Later W1.drew x → x.cell? ⟨g, k * 9, none⟩ = some (.int .i64 pid) ∧ x.cell? ⟨rb, 2, none⟩ = some (.string nm) ∧ x.cell? ⟨tb, 0, none⟩ = some (.slice (some ⟨g, 0, none⟩) n cap) ∧ x.cell? ⟨tb, 1, none⟩ = some (.int .i64 nx) ∧ x.cell? ⟨rb, 3, none⟩ = some (.int .i64 who)) := ⟨fun x hx => by
  have hb : Below W1.heap.size W1 x := Below.trans (Below.drew (Below.refl _ _)) hx
  have M := HS1.out.mb.below hb
  exact ⟨HC.out x (HB1.out.trans (hb.mono HB1.out.size)), ((M.at 0 rfl).1.2 2 _ rfl).1, ((M.at 1 rfl).1.2 0 _ rfl).1, ((M.at 1 rfl).1.2 1 _ rfl).1, ((M.at 0 rfl).1.2 3 _ rfl).1⟩⟩
 have HBX : Shut (∀ x, Later W1.drew x → Below W.heap.size W x) := ⟨fun x hx => HB1.out.trans ((Below.trans (Below.drew (Below.refl _ _)) hx : Below W1.heap.size W1 x).mono HB1.out.size)⟩
 refine wp_region_tail 19 (by kernel_rfl) ?_
 refine wpK_val (i := 0) (v := ?va0) rfl (by kernel_rfl) (by kernel_rfl) (by kernel_rfl) (by kernel_rfl) (fun _ _ _ h => h) (by rfl) ?hya0 ?resta0
 case hya0 => (intro x hx; obtain ⟨d0, d1, d2, d3, d4⟩ := HLE.out x hx; go_simp; try with_reducible rfl)
 try simp only [Act.put, qA, qB, qC]
 refine wpK_val (i := 1) (v := ?va1) rfl (by kernel_rfl) (by kernel_rfl) (by kernel_rfl) (by kernel_rfl) (fun _ _ _ h => h) (by rfl) ?hya1 ?resta1
 case hya1 => (intro x hx; obtain ⟨d0, d1, d2, d3, d4⟩ := HLE.out x hx; go_simp; try with_reducible rfl)
 try simp only [Act.put, qA, qB, qC]
 refine wpK_val (i := 2) (v := ?va2) rfl (by kernel_rfl) (by kernel_rfl) (by kernel_rfl) (by kernel_rfl) (fun _ _ _ h => h) (by rfl) ?hya2 ?resta2
 case hya2 => (intro x hx; obtain ⟨d0, d1, d2, d3, d4⟩ := HLE.out x hx; go_simp; try with_reducible rfl)
 try simp only [Act.put, qA, qB, qC]
 refine wpK_val (i := 3) (v := ?va3) rfl (by kernel_rfl) (by kernel_rfl) (by kernel_rfl) (by kernel_rfl) (fun _ _ _ h => h) (by rfl) ?hya3 ?resta3
 case hya3 => (intro x hx; obtain ⟨d0, d1, d2, d3, d4⟩ := HLE.out x hx; go_simp; try with_reducible rfl)
 try simp only [Act.put, qA, qB, qC]
 refine wpK_val (i := 4) (v := ?va4) rfl (by kernel_rfl) (by kernel_rfl) (by kernel_rfl) (by kernel_rfl) (fun _ _ _ h => h) (by rfl) ?hya4 ?resta4
 case hya4 => (intro x hx; obtain ⟨d0, d1, d2, d3, d4⟩ := HLE.out x hx; go_simp; try with_reducible rfl)
 try simp only [Act.put, qA, qB, qC]
 refine wpK_val (i := 5) (v := ?va5) rfl (by kernel_rfl) (by kernel_rfl) (by kernel_rfl) (by kernel_rfl) (fun _ _ _ h => h) (by rfl) ?hya5 ?resta5
 case hya5 => (intro x hx; obtain ⟨d0, d1, d2, d3, d4⟩ := HLE.out x hx; go_simp; try with_reducible rfl)
 try simp only [Act.put, qA, qB, qC]
 refine wpK_val (i := 6) (v := ?va6) rfl (by kernel_rfl) (by kernel_rfl) (by kernel_rfl) (by kernel_rfl) (fun _ _ _ h => h) (by rfl) ?hya6 ?resta6
 case hya6 => (intro x hx; obtain ⟨d0, d1, d2, d3, d4⟩ := HLE.out x hx; go_simp; try with_reducible rfl)
 try simp only [Act.put, qA, qB, qC]
 refine wpK_val (i := 7) (v := ?va7) rfl (by kernel_rfl) (by kernel_rfl) (by kernel_rfl) (by kernel_rfl) (fun _ _ _ h => h) (by rfl) ?hya7 ?resta7
 case hya7 => (intro x hx; obtain ⟨d0, d1, d2, d3, d4⟩ := HLE.out x hx; go_simp; try with_reducible rfl)
 try simp only [Act.put, qA, qB, qC]
 refine wpK_val (i := 8) (v := ?va8) rfl (by kernel_rfl) (by kernel_rfl) (by kernel_rfl) (by kernel_rfl) (fun _ _ _ h => h) (by rfl) ?hya8 ?resta8
 case hya8 => (intro x hx; obtain ⟨d0, d1, d2, d3, d4⟩ := HLE.out x hx; go_simp; try with_reducible rfl)
 try simp only [Act.put, qA, qB, qC]
 refine wpK_val (i := 9) (v := ?va9) rfl (by kernel_rfl) (by kernel_rfl) (by kernel_rfl) (by kernel_rfl) (fun _ _ _ h => h) (by rfl) ?hya9 ?resta9
 case hya9 => (intro x hx; obtain ⟨d0, d1, d2, d3, d4⟩ := HLE.out x hx; go_simp; try with_reducible rfl)
 try simp only [Act.put, qA, qB, qC]
 refine wpK_val (i := 10) (v := ?va10) rfl (by kernel_rfl) (by kernel_rfl) (by kernel_rfl) (by kernel_rfl) (fun _ _ _ h => h) (by rfl) ?hya10 ?resta10
 case hya10 => (intro x hx; obtain ⟨d0, d1, d2, d3, d4⟩ := HLE.out x hx; go_simp; try with_reducible rfl)
 try simp only [Act.put, qA, qB, qC]
 refine wpK_val (i := 11) (v := ?va11) rfl (by kernel_rfl) (by kernel_rfl) (by kernel_rfl) (by kernel_rfl) (fun _ _ _ h => h) (by rfl) ?hya11 ?resta11
 case hya11 => (intro x hx; obtain ⟨d0, d1, d2, d3, d4⟩ := HLE.out x hx; go_simp; try with_reducible rfl)
 try simp only [Act.put, qA, qB, qC]
 refine wpK_val (i := 12) (v := ?va12) rfl (by kernel_rfl) (by kernel_rfl) (by kernel_rfl) (by kernel_rfl) (fun _ _ _ h => h) (by rfl) ?hya12 ?resta12
 case hya12 => (intro x hx; obtain ⟨d0, d1, d2, d3, d4⟩ := HLE.out x hx; go_simp; try with_reducible rfl)
 try simp only [Act.put, qA, qB, qC]
 refine wpK_val (i := 13) (v := ?va13) rfl (by kernel_rfl) (by kernel_rfl) (by kernel_rfl) (by kernel_rfl) (fun _ _ _ h => h) (by rfl) ?hya13 ?resta13
 case hya13 => (intro x hx; obtain ⟨d0, d1, d2, d3, d4⟩ := HLE.out x hx; go_simp; try with_reducible rfl)
 try simp only [Act.put, qA, qB, qC]
 refine wpK_val (i := 14) (v := ?va14) rfl (by kernel_rfl) (by kernel_rfl) (by kernel_rfl) (by kernel_rfl) (fun _ _ _ h => h) (by rfl) ?hya14 ?resta14
 case hya14 => (intro x hx; obtain ⟨d0, d1, d2, d3, d4⟩ := HLE.out x hx; go_simp; try with_reducible rfl)
 try simp only [Act.put, qA, qB, qC]
 refine wpK_call (i := 15) (v := .int .i64 sch) (f := 39) (args := #[.agg #[.slice (some ⟨g, 0, none⟩) n cap, .int .i64 nx], .int .i64 pid]) rfl (by kernel_rfl) (by kernel_rfl) (by kernel_rfl) (by kernel_rfl) (fun _ _ _ h => h) (by rfl) ?hya15 (fun x hx => HSA.out x (HBX.out x hx)) ?resta15
 case hya15 => (intro x hx; obtain ⟨d0, d1, d2, d3, d4⟩ := HLE.out x hx; go_simp; try with_reducible rfl)
 try simp only [Act.put, qA, qB, qC]
 refine wpK_val (i := 16) (v := ?va16) rfl (by kernel_rfl) (by kernel_rfl) (by kernel_rfl) (by kernel_rfl) (fun _ _ _ h => h) (by rfl) ?hya16 ?resta16
 case hya16 => (intro x hx; obtain ⟨d0, d1, d2, d3, d4⟩ := HLE.out x hx; go_simp; try with_reducible rfl)
 try simp only [Act.put, qA, qB, qC]
 refine wpK_val (i := 17) (v := ?va17) rfl (by kernel_rfl) (by kernel_rfl) (by kernel_rfl) (by kernel_rfl) (fun _ _ _ h => h) (by rfl) ?hya17 ?resta17
 case hya17 => (intro x hx; obtain ⟨d0, d1, d2, d3, d4⟩ := HLE.out x hx; go_simp; try with_reducible rfl)
 try simp only [Act.put, qA, qB, qC]
 refine wpK_val (i := 18) (v := ?va18) rfl (by kernel_rfl) (by kernel_rfl) (by kernel_rfl) (by kernel_rfl) (fun _ _ _ h => h) (by rfl) ?hya18 ?resta18
 case hya18 => (intro x hx; obtain ⟨d0, d1, d2, d3, d4⟩ := HLE.out x hx; go_simp; try with_reducible rfl)
 try simp only [Act.put, qA, qB, qC]
 refine wpK_tail (by kernel_rfl) ?_
 intro y hy
 have HSY := Shut.mk (HS1.out.below (Below.trans (Below.drew (Below.refl _ _)) hy)).less
 refine wpA_call (f := 198) (args := #[.pointer (some ⟨tb, 0, none⟩), .agg #[.int .i64 0, .int .i64 pid, .string nm, .bool false, .int .i64 sch, .int .i64 0, .int .i64 0, .slice none 0 0, .int .i64 who]]) (i := 19) (by kernel_rfl) rfl (by rfl) (by go_simp) (by kernel_rfl) ?_
 refine (addNode_any HSY.out hn hnx pid nm false sch 0 0 who).mono ?_
 rintro e z ⟨rfl, gg, cap1, h9⟩
 refine ⟨_, rfl, ?_⟩
 have H9 := Shut.mk h9
 clear h9 hy HLE HBX HS1 HB1 HC
 try simp only [Act.put, qA, qB, qC]
 go_wp2_with fail
 refine body_shade (fun w9 => SS w0 w9 ((tb, [.slice (some ⟨gg, 0, none⟩) (n + 1) cap1, .int .i64 (nx + 1)]) :: L) B (some ⟨gg, 0, none⟩) (n + 1) cap1 (rs ++ [(⟨⟨nx, pid, nm, false, sch, 0, 0, [], who⟩, none, 0⟩ : NR)])) H9.out ?_
 intro w9 h9
 refine bodyPost_end (v := .tuple #[]) (by simp [results, Tryz.results199, go_sem]) rfl ⟨rfl, gg, cap1, h9⟩
theorem NB.grow0 {w W1 w5 : World} {B n cap g k gg cap1 : Nat} {rs : List NR} {r : NR} {new : PM} (h : NB w B (.slice (some ⟨g, 0, none⟩) n cap) rs) (hn : rs.length = n) (hk : rs[k]? = some r) (hba : Below w.heap.size w W1) (hgrow : W1.grownBy w5 (Value.slice r.loc r.nd.pieces.length r.cap).ownBlock)
  (ho : w5.ownsRow B 99 2 (.slice (some ⟨gg, 0, none⟩) (r.nd.pieces.length + 1) cap1) (r.nd.pieces.length + 1) (pcs r.nd.pieces ++ pcells new)) (hat : (Value.slice r.loc r.nd.pieces.length r.cap).ownBlock = some gg ∨ w.heap.size ≤ gg) :
  NB (w5.setCell ⟨g, k * 9 + 7, none⟩ (.slice (some ⟨gg, 0, none⟩) (r.nd.pieces.length + 1) cap1)) B (.slice (some ⟨g, 0, none⟩) n cap) (rs.set k ⟨{ r.nd with pieces := r.nd.pieces ++ [new] }, some ⟨gg, 0, none⟩, cap1⟩) := by
 subst hn
 obtain ⟨hk', er⟩ := List.getElem?_eq_some_iff.1 hk
 subst er
 have hN := h.below hba
 have hlt : ∀ s ∈ rs, ∀ q, s.loc = some q → q.block < w.heap.size := fun s hs q e => ((h.rows s hs).lt q.block (by rw [e]; rfl)).2
 obtain ⟨cg, hcg⟩ := own_blk' hN.own (show (Value.slice (some ⟨g, 0, none⟩) rs.length cap).ownBlock = some g from rfl)
 have hgo : (Value.slice rs[k].loc rs[k].nd.pieces.length rs[k].cap).ownBlock ≠ some g := fun e => by
  obtain ⟨c1, h1⟩ := own_blk' (hN.rows _ (List.getElem_mem hk')) e
  rw [hcg] at h1
  simp at h1
 have hown5 := hN.own.kept hgrow (.inr (by intro e; exact hgo e.symm))
 have hggg : gg ≠ g := by
  have hgl := (h.own.lt g rfl).2
  rcases hat with e | e
  ·intro e2; rw [e2] at e; exact hgo e
  ·omega
 have hst := (hown5.stored (k * 9 + 7) (.slice (some ⟨gg, 0, none⟩) (rs[k].nd.pieces.length + 1) cap1)).1
 have ha := List.pairwise_iff_getElem.1 h.apart
 have hap : ∀ j (hj : j < rs.length), j ≠ k → rs[j].loc ≠ none → rs[k].loc ≠ none → rs[j].loc ≠ rs[k].loc := fun j hj hjk h1 h2 => by
  rcases Nat.lt_or_gt_of_ne hjk with q | q
  ·exact ha j k hj hk' q h1 h2
  ·exact fun e => ha k j hk' hj q h2 h1 e.symm
 refine ⟨?_, fun s hs => ?_, ?_⟩
 ·rw [List.length_set, ← ncs_set rs k hk' 7 (by omega) (.slice (some ⟨gg, 0, none⟩) (rs[k].nd.pieces.length + 1) cap1) _ (by simp [ncells])]
  exact hst
 ·obtain ⟨j, hj, rfl⟩ := List.mem_iff_getElem.1 hs
  rw [List.length_set] at hj
  rw [List.getElem_set]
  split
  ·have e : pcs (rs[k].nd.pieces ++ [new]) = pcs rs[k].nd.pieces ++ pcells new := by simp [pcs]
   show World.ownsRow _ _ _ _ (.slice (some ⟨gg, 0, none⟩) (rs[k].nd.pieces ++ [new]).length cap1) (rs[k].nd.pieces ++ [new]).length (pcs (rs[k].nd.pieces ++ [new]))
   rw [e, List.length_append, List.length_singleton]
   exact ho.kept (gb_set' _ _ _ _) (.inr (by simp [Value.ownBlock]; exact hggg))
  ·rename_i hjk
   have h1 : w5.ownsRow B 99 2 (.slice rs[j].loc rs[j].nd.pieces.length rs[j].cap) rs[j].nd.pieces.length (pcs rs[j].nd.pieces) := by
    refine (hN.rows _ (List.getElem_mem hj)).kept hgrow ?_
    cases e : rs[j].loc with
    | none => exact .inl rfl
    | some q =>
     refine .inr fun e2 => ?_
     cases e3 : rs[k].loc with
     | none => rw [e3] at e2; cases e2
     | some q' =>
      have hne := hap j hj (fun e => hjk e.symm) (by rw [e]; simp) (by rw [e3]; simp)
      rw [e, e3] at hne
      rw [e3] at e2
      have z1 := own_zero (by have := h.rows _ (List.getElem_mem hj); rw [e] at this; exact this)
      have z2 := own_zero (by have := h.rows _ (List.getElem_mem hk'); rw [e3] at this; exact this)
      simp [Value.ownBlock] at e2
      exact hne (by rw [z1, z2, e2])
   refine h1.kept (gb_set' _ _ _ _) ?_
   cases e : rs[j].loc with
   | none => exact .inl rfl
   | some q =>
    refine .inr fun e2 => ?_
    obtain ⟨c1, h2⟩ := own_blk' (hN.rows _ (List.getElem_mem hj)) (by rw [e]; exact e2)
    rw [hcg] at h2
    simp at h2
 ·have hnew : ∀ j (hj : j < rs.length), j ≠ k → rs[j].loc ≠ some ⟨gg, 0, none⟩ := fun j hj hjk e => by
   rcases hat with q | q
   ·cases e3 : rs[k].loc with
    | none => rw [e3] at q; cases q
    | some q' =>
     rw [e3] at q
     have z2 := own_zero (by have := h.rows _ (List.getElem_mem hk'); rw [e3] at this; exact this)
     simp [Value.ownBlock] at q
     exact hap j hj hjk (by rw [e]; simp) (by rw [e3]; simp) (by rw [e, e3, z2, q])
   ·have := hlt _ (List.getElem_mem hj) _ e
    simp at this
    omega
  refine List.pairwise_iff_getElem.2 fun a b ha' hb' hab => ?_
  rw [List.length_set] at ha' hb'
  rw [List.getElem_set, List.getElem_set]
  split
  ·rename_i h1
   rw [if_neg (by omega)]
   intro _ _ e
   exact hnew b hb' (by omega) e.symm
  ·split
   ·rename_i h1 h2
    intro _ _ e
    exact hnew a ha' (by omega) e
   ·exact ha a b ha' hb' hab
theorem SS.grow {w0 W W1 w5 : World} {L : List (Nat × List Value)} {B g n cap k gg cap1 : Nat} {rs : List NR} {r : NR} {new : PM} (h : SS w0 W L B (some ⟨g, 0, none⟩) n cap rs) (hk : rs[k]? = some r) (hba : Below W.heap.size W W1) (hgrow : W1.grownBy w5 (Value.slice r.loc r.nd.pieces.length r.cap).ownBlock)
  (ho : w5.ownsRow B 99 2 (.slice (some ⟨gg, 0, none⟩) (r.nd.pieces.length + 1) cap1) (r.nd.pieces.length + 1) (pcs r.nd.pieces ++ pcells new)) (hat : (Value.slice r.loc r.nd.pieces.length r.cap).ownBlock = some gg ∨ W.heap.size ≤ gg) :
  SS w0 (w5.setCell ⟨g, k * 9 + 7, none⟩ (.slice (some ⟨gg, 0, none⟩) (r.nd.pieces.length + 1) cap1)) L B (some ⟨g, 0, none⟩) n cap (rs.set k ⟨{ r.nd with pieces := r.nd.pieces ++ [new] }, some ⟨gg, 0, none⟩, cap1⟩) := by
 obtain ⟨hk', er⟩ := List.getElem?_eq_some_iff.1 hk
 have hmem : r ∈ rs := by rw [← er]; exact List.getElem_mem hk'
 have hgB : B ≤ g := (h.nb.own.lt g rfl).1
 have hfar : ∀ p ∈ L, (Value.slice r.loc r.nd.pieces.length r.cap).ownBlock ≠ some p.1 := fun p hp e => by
  cases hl : r.loc with
  | none => rw [hl] at e; cases e
  | some q =>
   rw [hl] at e
   simp [Value.ownBlock] at e
   exact (h.ap p hp).2 r hmem q hl e
 refine ⟨((h.mb.below hba).far hgrow hfar (fun q e => ?_)).far (gb_set' w5 g _ _) (fun p hp e => (h.ap p hp).1 ⟨g, 0, none⟩ rfl (by cases e; rfl)) (fun q e => by cases e; show w0.heap.size ≤ g; have := h.lo; omega), h.nb.grow0 h.len hk hba hgrow ho hat, by rw [List.length_set]; exact h.len, fun p hp => ⟨(h.ap p hp).1, fun s hs q e => ?_⟩, h.lo⟩
 ·have := ((h.nb.rows r hmem).lt q e).1
  have := h.lo
  omega
 ·rcases List.mem_or_eq_of_mem_set hs with m | m
  ·exact (h.ap p hp).2 s m q e
  ·rw [m] at e
   cases e
   show gg ≠ p.1
   rcases hat with e | e
   ·exact fun e2 => hfar p hp (by rw [e, e2])
   ·have := (h.mb.box p hp).1.1
    omega
theorem SS.add {w0 W W' : World} {L : List (Nat × List Value)} {B : Nat} {a : Option Addr} {n cap : Nat} {rs : List NR} (h : SS w0 W L B a n cap rs) (hb : Below W.heap.size W W') {gl : Nat} {X : List Value} (hX : WCells W' gl X) (hl : W.heap.size ≤ gl) : SS w0 W' ((gl, X) :: L) B a n cap rs := by
 have h' := h.below hb
 refine ⟨⟨fun p hp => ?_, List.pairwise_cons.2 ⟨fun p hp => ?_, h'.mb.dist⟩, h'.mb.bel⟩, h'.nb, h'.len, fun p hp => ?_, h'.lo⟩
 ·rcases List.mem_cons.1 hp with rfl | hp
  ·exact ⟨hX, Nat.le_trans h.mb.bel.size hl⟩
  ·exact h'.mb.box p hp
 ·have := (h.mb.box p hp).1.1
  show gl ≠ p.1
  omega
 ·rcases List.mem_cons.1 hp with rfl | hp
  ·refine ⟨fun q e => ?_, fun r hr q e => ?_⟩
   ·have := h.nb.row_lt q e
    show q.block ≠ gl
    omega
   ·have := h.nb.lts r hr q e
    show q.block ≠ gl
    omega
  ·exact h'.ap p hp
set_option maxHeartbeats 4000000 in
theorem chAdd {w0 W : World} {L : List (Nat × List Value)} {B g n cap : Nat} {rs : List NR} {k : Nat} {r : NR} (h : SS w0 W L B (some ⟨g, 0, none⟩) n cap rs) (hk : rs[k]? = some r) (tp : Value) (path : ByteArray) (num gr : Int) (hne : spansX r.nd.schema num ≠ []) (hsl : (spansX r.nd.schema num).length ≤ 1000) (hpl : r.nd.pieces.length ≤ 1000) (hln : 0 ≤ r.nd.len ∧ r.nd.len ≤ 1000) (hnum : 0 ≤ num ∧ num ≤ 1000) (hgr : 0 ≤ gr ∧ gr ≤ 1000000) :
  Calls Tryz.prog 206 #[.agg #[.string path, .int .i64 num], tp, .pointer (some ⟨g, k * 9, none⟩), .int .i64 gr] W fun e w' => e = .returned (.tuple #[]) ∧ ∃ lc cp, SS w0 w' L B (some ⟨g, 0, none⟩) n cap (rs.set k (⟨{ r.nd with pieces := r.nd.pieces ++ newP gr (spansX r.nd.schema num), len := r.nd.len + num }, lc, cp⟩ : NR)) := by
 obtain ⟨j0, hjn, hy0, hy1, hy2⟩ := info_parts infoPieceG
 have HSP := Shut.mk (fun W' => implSpans r.nd.schema num W')
 unfold IPost at HSP
 obtain ⟨ls, hls⟩ : ∃ ls, ls = spansX r.nd.schema num := ⟨_, rfl⟩
 rw [← hls] at HSP hne hsl ⊢
 have HNE := Shut.mk hne
 have HS := Shut.mk h
 have HK := Shut.mk hk
 have hkr : k < rs.length := (List.getElem?_eq_some_iff.1 hk).1
 have hrk : rs.set k r = rs := by
  obtain ⟨hk', e⟩ := List.getElem?_eq_some_iff.1 hk
  rw [← e, List.set_getElem_self]
 have HRK := Shut.mk hrk
 obtain ⟨schema, hsch⟩ : ∃ q, q = r.nd.schema := ⟨_, rfl⟩
 obtain ⟨ln, hlnn⟩ : ∃ q, q = r.nd.len := ⟨_, rfl⟩
 have HSCH := Shut.mk hsch
 have HLN := Shut.mk hlnn
 rw [← hsch] at HSP
 rw [← hlnn] at hln
 clear h hk hls hne hrk hsch hlnn
 go_enter Tryz.func206, Tryz.ntmps206
 go_upto_region 1 with fail
 obtain ⟨rb, hrb⟩ : ∃ rb, rb = W.heap.size := ⟨_, rfl⟩
 refine wp_shade (fun V => SS w0 V ((rb, [.string path, .int .i64 num]) :: L) B (some ⟨g, 0, none⟩) n cap rs) (by rw [hrb]; exact HS.out.new #[.string path, .int .i64 num] 169) ?_
 intro W1 hS1
 have HS1 := Shut.mk hS1
 rw [← hrb]
 clear hS1 hrb HS
 have HLE : Shut (∀ x, Later W1.drew x → x.cell? ⟨g, k * 9 + 4, none⟩ = some (.int .i64 schema) ∧ x.cell? ⟨rb, 1, none⟩ = some (.int .i64 num)) := ⟨fun x hx => by
  have S := HS1.out.below (Below.trans (Below.drew (Below.refl _ _)) hx)
  exact ⟨by rw [HSCH.out]; exact (S.cell HK.out 4 _ rfl).1, ((S.mb.at 0 rfl).1.2 1 _ rfl).1⟩⟩
 refine wp_region_tail 9 (by kernel_rfl) ?_
 refine wpK_val (i := 0) (v := ?va0) rfl (by kernel_rfl) (by kernel_rfl) (by kernel_rfl) (by kernel_rfl) (fun _ _ _ h => h) (by rfl) ?hya0 ?resta0
 case hya0 => (intro x hx; obtain ⟨d0, d1⟩ := HLE.out x hx; go_simp; try with_reducible rfl)
 try simp only [Act.put, qA, qB, qC]
 refine wpK_val (i := 1) (v := ?va1) rfl (by kernel_rfl) (by kernel_rfl) (by kernel_rfl) (by kernel_rfl) (fun _ _ _ h => h) (by rfl) ?hya1 ?resta1
 case hya1 => (intro x hx; obtain ⟨d0, d1⟩ := HLE.out x hx; go_simp; try with_reducible rfl)
 try simp only [Act.put, qA, qB, qC]
 refine wpK_val (i := 2) (v := ?va2) rfl (by kernel_rfl) (by kernel_rfl) (by kernel_rfl) (by kernel_rfl) (fun _ _ _ h => h) (by rfl) ?hya2 ?resta2
 case hya2 => (intro x hx; obtain ⟨d0, d1⟩ := HLE.out x hx; go_simp; try with_reducible rfl)
 try simp only [Act.put, qA, qB, qC]
 refine wpK_val (i := 3) (v := ?va3) rfl (by kernel_rfl) (by kernel_rfl) (by kernel_rfl) (by kernel_rfl) (fun _ _ _ h => h) (by rfl) ?hya3 ?resta3
 case hya3 => (intro x hx; obtain ⟨d0, d1⟩ := HLE.out x hx; go_simp; try with_reducible rfl)
 try simp only [Act.put, qA, qB, qC]
 refine wpK_val (i := 4) (v := ?va4) rfl (by kernel_rfl) (by kernel_rfl) (by kernel_rfl) (by kernel_rfl) (fun _ _ _ h => h) (by rfl) ?hya4 ?resta4
 case hya4 => (intro x hx; obtain ⟨d0, d1⟩ := HLE.out x hx; go_simp; try with_reducible rfl)
 try simp only [Act.put, qA, qB, qC]
 refine wpK_val (i := 5) (v := ?va5) rfl (by kernel_rfl) (by kernel_rfl) (by kernel_rfl) (by kernel_rfl) (fun _ _ _ h => h) (by rfl) ?hya5 ?resta5
 case hya5 => (intro x hx; obtain ⟨d0, d1⟩ := HLE.out x hx; go_simp; try with_reducible rfl)
 try simp only [Act.put, qA, qB, qC]
 refine wpK_val (i := 8) (v := ?va8) rfl (by kernel_rfl) (by kernel_rfl) (by kernel_rfl) (by kernel_rfl) (fun _ _ _ h => h) (by rfl) ?hya8 ?resta8
 case hya8 => (intro x hx; obtain ⟨d0, d1⟩ := HLE.out x hx; go_simp; try with_reducible rfl)
 try simp only [Act.put, qA, qB, qC]
 refine wpK_onecall (f := 140) (args := #[.int .i64 schema, .int .i64 num]) (i := 6) (by kernel_rfl) rfl (by rfl) (fun x hx => by go_simp) (fun x hx => (HSP.out x).mono ?_)
 rintro e y ⟨sv, rfl, hia, hby⟩
 refine ⟨_, rfl, hby, ?_⟩
 obtain ⟨sa, sc, rfl, -, hor⟩ := hia
 obtain ⟨gl, rfl, hgl1, hgl2, hwl⟩ := hor.resolve_left HNE.out
 have hb1x : Below W1.heap.size W1 x := Below.trans (Below.drew (Below.refl _ _)) hx
 have HSY := Shut.mk ((HS1.out.below hb1x).add hby hwl hgl1)
 obtain ⟨m, hm⟩ : ∃ m, m = ls.length := ⟨_, rfl⟩
 have HML := Shut.mk hm
 rw [← hm] at hsl ⊢
 clear hx hby hor hgl1 hgl2 hwl hb1x HLE HS1 hm HSP
 try simp only [Act.put, qA, qB, qC]
 refine wpK_val (i := 7) (v := .int .i64 m) rfl (by kernel_rfl) (by kernel_rfl) (by kernel_rfl) (by kernel_rfl) (fun _ _ _ h => h) (by rfl) ?hy7 ?rest7
 case hy7 => (intro x hx; go_simp; try with_reducible rfl)
 try simp only [Act.put, qA, qB, qC]
 refine wpK_done (by kernel_rfl) ?_ _
 intro z hz
 replace HSY := Shut.mk (HSY.out.below hz)
 clear hz
 go_wp2_with fail
 go_loopw [18] (fun iv wr => ∃ (j : Nat) (lc : Option Addr) (cp : Nat), iv = .int .i64 j ∧ j ≤ m ∧ Shut (SS w0 wr ((gl, ics ls) :: (rb, [.string path, .int .i64 num]) :: L) B (some ⟨g, 0, none⟩) n cap (rs.set k (⟨{ r.nd with pieces := r.nd.pieces ++ newP gr (ls.take j) }, lc, cp⟩ : NR)))) (fun iv _ => m - (intOf iv).toNat)
 case atStart => exact ⟨0, r.loc, r.cap, rfl, Nat.zero_le _, ⟨by
  have : (⟨{ r.nd with pieces := r.nd.pieces ++ newP gr (ls.take 0) }, r.loc, r.cap⟩ : NR) = r := by simp [newP]
  rw [this, HRK.out]
  exact HSY.out⟩⟩
 case round =>
  clear HSY
  obtain ⟨j, lc, cp, rfl, hj, hS⟩ := hrel
  obtain ⟨wo, rfl⟩ : ∃ wo, wo = wr := ⟨_, rfl⟩
  obtain ⟨ps, hps⟩ : ∃ ps, ps = r.nd.pieces ++ newP gr (ls.take j) := ⟨_, rfl⟩
  have HPS := Shut.mk hps
  have hpsl : ps.length = r.nd.pieces.length + j := by rw [hps, List.length_append, newP_len, List.length_take]; have := HML.out; omega
  rw [← hps] at hS
  clear hps
  have hk2 : (rs.set k (⟨{ r.nd with pieces := ps }, lc, cp⟩ : NR))[k]? = some (⟨{ r.nd with pieces := ps }, lc, cp⟩ : NR) := List.getElem?_set_self hkr
  by_cases hlt : j < m
  case pos =>
   have hjl : j < ls.length := by have := HML.out; omega
   have k0 : (0 : Int) ≤ (j : Int) := by omega
   have k1 : (j : Int) < (m : Int) := by omega
   have hnt := newP_take gr ls j hjl
   obtain ⟨lj, hlj⟩ : ∃ lj, lj = ls[j] := ⟨_, rfl⟩
   have e0 := ((hS.out.mb.at 0 rfl).1.2 j (.int .i64 lj) (by rw [hlj]; simp [ics, hjl])).1
   rw [← hlj] at hnt
   have HNT : Shut (r.nd.pieces ++ newP gr (ls.take (j + 1)) = ps ++ [(⟨gr + j, lj⟩ : PM)]) := ⟨by rw [hnt, ← List.append_assoc, ← HPS.out]⟩
   obtain ⟨c7, f7⟩ := hS.out.cell hk2 7 _ rfl
   dsimp only at c7
   have hrow := hS.out.nb.rows _ (List.mem_of_getElem? hk2)
   dsimp only at hrow
   obtain ⟨pl, hpl9⟩ : ∃ pl, pl = ps.length := ⟨_, rfl⟩
   rw [← hpl9] at c7 hrow hpsl
   have HPL := Shut.mk hpl9
   have hwr : IntKind.i64.wrap (gr + (j : Int)) = gr + (j : Int) := IntWalk.i64_in _ ⟨by omega, by omega⟩
   have hBW : B ≤ wo.heap.size := by have := hS.out.nb.own.lt g rfl; omega
   have hplb : pl ≤ 2000 := by omega
   clear hlj hnt hpl9 hpsl
   go_wp2_with (at_builtin; refine wpList_append_lies _ rfl _ _ 45 rfl B 99 j0 _ 2 16 Tryz.underlying45 hjn hy0 hy1 hy2 rfl (by decide) (.slice lc pl cp) pl (pcs ps) rfl (hrow.alloc _) ⟨wo.heap.size, 0, none⟩ 1 1 [.int .i64 (gr + j), .int .i64 lj] rfl rfl (World.news_of_block (cs := #[.int .i64 (gr + j), .int .i64 lj]) (t := 99) (fr := (0, 0)) (heap_alloc_new wo _)) ?c2 (by decide) ?c4 ?c5 ?c6 (wo.heap.size + 1) (by simp) ?_)
   case c2 => simp [Value.oneCell']
   case c4 => unfold maxLen; omega
   case c5 => omega
   case c6 => first | omega | (simp; omega)
   intro gg cap1 w5 hown1 hgrow hat hlt'
   have HG := Shut.mk (hS.out.grow (r := (⟨{ r.nd with pieces := ps }, lc, cp⟩ : NR)) (new := ⟨gr + j, lj⟩) hk2 ((Below.refl _ _).alloc (Nat.le_refl _) _) (by rw [← HPL.out]; exact hgrow) (by rw [← HPL.out]; exact hown1) (by rw [← HPL.out]; exact hat.imp id (fun e => by omega)))
   rw [← HPL.out] at HG
   have HN2 : Shut ((⟨{ r.nd with pieces := ps ++ [(⟨gr + j, lj⟩ : PM)] }, some ⟨gg, 0, none⟩, cap1⟩ : NR) = ⟨{ r.nd with pieces := r.nd.pieces ++ newP gr (ls.take (j + 1)) }, some ⟨gg, 0, none⟩, cap1⟩) := ⟨by rw [HNT.out]⟩
   have nb1 : (Value.slice lc pl cp).ownBlock ≠ some g := fun e => by
    obtain ⟨c1, e1⟩ := own_blk' hrow e
    obtain ⟨c2, e2⟩ := own_blk' hS.out.nb.own (show (Value.slice (some ⟨g, 0, none⟩) n cap).ownBlock = some g from rfl)
    rw [e1] at e2
    simp at e2
   have lg : g < wo.heap.size := hS.out.nb.row_lt ⟨g, 0, none⟩ rfl
   have hal := (hS.out.below ((Below.refl _ _).alloc (Nat.le_refl _) (.cells #[.int .i64 (gr + j), .int .i64 lj] 99))).cell hk2 7 _ rfl
   have vc1 := (hgrow.cell_far ⟨g, k * 9 + 7, none⟩ (by simp; omega) (Ne.symm nb1)).trans hal.1
   have vf1 := (hgrow.frozen_far ⟨g, k * 9 + 7, none⟩ (by simp; omega) (Ne.symm nb1)).trans hal.2
   clear hown1 hgrow hat hlt' hal c7 f7 hrow
   go_wp2_with fail
   go_roundw
   case rel =>
    refine ⟨j + 1, some ⟨gg, 0, none⟩, cap1, by go_num, by omega, ⟨?_⟩⟩
    have h9 := HG.out
    rw [List.set_set, HN2.out] at h9
    exact h9
   case measure => simp [intOf]; omega
  case neg =>
   have k1 : ¬ (j : Int) < (m : Int) := by omega
   have hall : ls.take j = ls := List.take_of_length_le (by have := HML.out; omega)
   have HPA : Shut (ps = r.nd.pieces ++ newP gr ls) := ⟨by rw [HPS.out, hall]⟩
   have hw9 : IntKind.i64.wrap (ln + num) = ln + num := IntWalk.i64_in _ ⟨by omega, by omega⟩
   clear hall
   go_upto_region 6 with fail
   have HLE : Shut (∀ x, Later wo.drew x → x.cell? ⟨g, k * 9 + 6, none⟩ = some (.int .i64 ln) ∧ x.cell? ⟨rb, 1, none⟩ = some (.int .i64 num)) := ⟨fun x hx => by
    have S := hS.out.below (Below.trans (Below.drew (Below.refl _ _)) hx)
    exact ⟨by rw [HLN.out]; exact (S.cell hk2 6 _ rfl).1, ((S.mb.at 1 rfl).1.2 1 _ rfl).1⟩⟩
   refine wp_region_tail 9 (by kernel_rfl) ?_
   refine wpK_val (i := 0) (v := ?vb0) rfl (by kernel_rfl) (by kernel_rfl) (by kernel_rfl) (by kernel_rfl) (fun _ _ _ h => h) (by rfl) ?hyb0 ?restb0
   case hyb0 => (intro x hx; obtain ⟨d0, d1⟩ := HLE.out x hx; go_simp; try with_reducible rfl)
   try simp only [Act.put, qA, qB, qC]
   refine wpK_val (i := 1) (v := ?vb1) rfl (by kernel_rfl) (by kernel_rfl) (by kernel_rfl) (by kernel_rfl) (fun _ _ _ h => h) (by rfl) ?hyb1 ?restb1
   case hyb1 => (intro x hx; obtain ⟨d0, d1⟩ := HLE.out x hx; go_simp; try with_reducible rfl)
   try simp only [Act.put, qA, qB, qC]
   refine wpK_val (i := 2) (v := ?vb2) rfl (by kernel_rfl) (by kernel_rfl) (by kernel_rfl) (by kernel_rfl) (fun _ _ _ h => h) (by rfl) ?hyb2 ?restb2
   case hyb2 => (intro x hx; obtain ⟨d0, d1⟩ := HLE.out x hx; go_simp; try with_reducible rfl)
   try simp only [Act.put, qA, qB, qC]
   refine wpK_val (i := 3) (v := ?vb3) rfl (by kernel_rfl) (by kernel_rfl) (by kernel_rfl) (by kernel_rfl) (fun _ _ _ h => h) (by rfl) ?hyb3 ?restb3
   case hyb3 => (intro x hx; obtain ⟨d0, d1⟩ := HLE.out x hx; go_simp; try with_reducible rfl)
   try simp only [Act.put, qA, qB, qC]
   refine wpK_val (i := 4) (v := ?vb4) rfl (by kernel_rfl) (by kernel_rfl) (by kernel_rfl) (by kernel_rfl) (fun _ _ _ h => h) (by rfl) ?hyb4 ?restb4
   case hyb4 => (intro x hx; obtain ⟨d0, d1⟩ := HLE.out x hx; go_simp; try with_reducible rfl)
   try simp only [Act.put, qA, qB, qC]
   refine wpK_val (i := 5) (v := ?vb5) rfl (by kernel_rfl) (by kernel_rfl) (by kernel_rfl) (by kernel_rfl) (fun _ _ _ h => h) (by rfl) ?hyb5 ?restb5
   case hyb5 => (intro x hx; obtain ⟨d0, d1⟩ := HLE.out x hx; go_simp; try with_reducible rfl)
   try simp only [Act.put, qA, qB, qC]
   refine wpK_val (i := 6) (v := ?vb6) rfl (by kernel_rfl) (by kernel_rfl) (by kernel_rfl) (by kernel_rfl) (fun _ _ _ h => h) (by rfl) ?hyb6 ?restb6
   case hyb6 => (intro x hx; obtain ⟨d0, d1⟩ := HLE.out x hx; go_simp; try with_reducible rfl)
   try simp only [Act.put, qA, qB, qC]
   refine wpK_val (i := 7) (v := ?vb7) rfl (by kernel_rfl) (by kernel_rfl) (by kernel_rfl) (by kernel_rfl) (fun _ _ _ h => h) (by rfl) ?hyb7 ?restb7
   case hyb7 => (intro x hx; obtain ⟨d0, d1⟩ := HLE.out x hx; go_simp; try with_reducible rfl)
   try simp only [Act.put, qA, qB, qC]
   refine wpK_val (i := 8) (v := ?vb8) rfl (by kernel_rfl) (by kernel_rfl) (by kernel_rfl) (by kernel_rfl) (fun _ _ _ h => h) (by rfl) ?hyb8 ?restb8
   case hyb8 => (intro x hx; obtain ⟨d0, d1⟩ := HLE.out x hx; go_simp; try with_reducible rfl)
   try simp only [Act.put, qA, qB, qC]
   refine wpK_tail (by kernel_rfl) ?_
   intro y hy
   have HSY := Shut.mk (hS.out.below (Below.trans (Below.drew (Below.refl _ _)) hy))
   obtain ⟨c6, f6⟩ := HSY.out.cell hk2 6 _ rfl
   dsimp only at c6
   refine wpA_store (y := y.setCell ⟨g, k * 9 + 6, none⟩ (.int .i64 (ln + num))) (i := 9) (by kernel_rfl) rfl (by rfl) (by go_simp) (by kernel_rfl) ?_
   have HZ := Shut.mk (HSY.out.put hk2 6 (by omega) (.int .i64 (ln + num)) (⟨{ r.nd with pieces := ps, len := ln + num }, lc, cp⟩ : NR) rfl rfl rfl rfl).less.less
   have HZ2 : Shut ((⟨{ r.nd with pieces := ps, len := ln + num }, lc, cp⟩ : NR) = ⟨{ r.nd with pieces := r.nd.pieces ++ newP gr ls, len := r.nd.len + num }, lc, cp⟩) := ⟨by rw [HPA.out, HLN.out]⟩
   clear c6 f6 hy HLE HSY hS
   simp only [Act.put]
   go_wp2_with fail
   refine body_shade (fun w9 => SS w0 w9 L B (some ⟨g, 0, none⟩) n cap (rs.set k (⟨{ r.nd with pieces := r.nd.pieces ++ newP gr ls, len := r.nd.len + num }, lc, cp⟩ : NR))) (by have h9 := HZ.out; rw [List.set_set, HZ2.out] at h9; exact h9) ?_
   intro w9 h9
   refine bodyPost_end (v := .tuple #[]) (by simp [results, Tryz.results206, go_sem]) rfl ⟨rfl, lc, cp, h9⟩
theorem own_take {w : World} {B t sz n m g cap : Nat} {L : List Value} (h : w.ownsRow B t sz (.slice (some ⟨g, 0, none⟩) n cap) n L) (hm : m ≤ n) : w.ownsRow B t sz (.slice (some ⟨g, 0, none⟩) m cap) m (L.take (m * sz)) := by
 obtain ⟨hL, h2⟩ := h
 rcases h2 with ⟨h', _⟩ | ⟨g', cap', cur, h', hb, hg, hnc, hcm, hcs, htake⟩
 ·simp at h'
 ·simp only [Value.slice.injEq, Option.some.injEq, Addr.mk.injEq, and_true, true_and] at h'
  obtain ⟨rfl, rfl⟩ := h'
  have hle : m * sz ≤ n * sz := Nat.mul_le_mul_right _ hm
  refine ⟨by rw [List.length_take, hL]; omega, .inr ⟨g, cap, cur, rfl, hb, hg, by omega, hcm, hcs, ?_⟩⟩
  rw [← htake, List.take_take, Nat.min_eq_left hle]
theorem own_sets {B t sz m g cap : Nat} {L : List Value} : ∀ (vs : List Value) (o : Nat) (w : World), w.ownsRow B t sz (.slice (some ⟨g, 0, none⟩) m cap) m L → L.length ≤ o → (w.setCells g o vs).ownsRow B t sz (.slice (some ⟨g, 0, none⟩) m cap) m L ∧ w.grownBy (w.setCells g o vs) (some g)
 | [], o, w, h, _ => ⟨h, ⟨rfl, rfl, rfl, Nat.le_refl _, fun _ _ _ => rfl⟩⟩
 | v :: vs, o, w, h, ho => by
  have h1 := (h.stored o v).1
  rw [List.set_eq_of_length_le ho] at h1
  obtain ⟨h2, h3⟩ := own_sets vs (o + 1) _ h1 (by omega)
  exact ⟨h2, gb_two' (gb_set' w g o v) h3⟩
def putN (y : World) (g o : Nat) (r : NR) : World := (((((((((y.setCell ⟨g, o, none⟩ (.int .i64 r.nd.id)).setCell ⟨g, o + 1, none⟩ (.int .i64 r.nd.parent)).setCell ⟨g, o + 2, none⟩ (.string r.nd.name)).setCell ⟨g, o + 3, none⟩ (.bool r.nd.dir)).setCell ⟨g, o + 4, none⟩ (.int .i64 r.nd.schema)).setCell ⟨g, o + 5, none⟩ (.int .i64 r.nd.quota)).setCell ⟨g, o + 6, none⟩ (.int .i64 r.nd.len)).setCell ⟨g, o + 7, none⟩ (.slice r.loc r.nd.pieces.length r.cap)).setCell ⟨g, o + 8, none⟩ (.int .i64 r.nd.writer))
theorem putN_grown (y : World) (g o : Nat) (r : NR) : y.grownBy (putN y g o r) (some g) := by
 have st := fun (w : World) i v => gb_set' w g i v
 exact gb_two' (gb_two' (gb_two' (gb_two' (gb_two' (gb_two' (gb_two' (gb_two' (st _ o _) (st _ (o + 1) _)) (st _ (o + 2) _)) (st _ (o + 3) _)) (st _ (o + 4) _)) (st _ (o + 5) _)) (st _ (o + 6) _)) (st _ (o + 7) _)) (st _ (o + 8) _)
theorem putN_own {y : World} {B g n cap : Nat} {xs : List NR} (h : y.ownsRow B 47 9 (.slice (some ⟨g, 0, none⟩) n cap) n (ncs xs)) (i : Nat) (hi : i < xs.length) (r : NR) : (putN y g (i * 9) r).ownsRow B 47 9 (.slice (some ⟨g, 0, none⟩) n cap) n (ncs (xs.set i r)) := by
 have step : ∀ (w : World) (q s : NR) (f : Nat) (hf : f < 9) (v : Value), w.ownsRow B 47 9 (.slice (some ⟨g, 0, none⟩) n cap) n (ncs (xs.set i q)) → ncells s = (ncells q).set f v → (w.setCell ⟨g, i * 9 + f, none⟩ v).ownsRow B 47 9 (.slice (some ⟨g, 0, none⟩) n cap) n (ncs (xs.set i s)) := fun w q s f hf v ho hc => by
  have h1 := (ho.stored (i * 9 + f) v).1
  have hl : i < (xs.set i q).length := by rw [List.length_set]; exact hi
  rw [ncs_set (xs.set i q) i hl f hf v s (by rw [List.getElem_set_self]; exact hc), List.set_set] at h1
  exact h1
 obtain ⟨q, hq⟩ : ∃ q, q = xs[i] := ⟨_, rfl⟩
 have h0 : y.ownsRow B 47 9 (.slice (some ⟨g, 0, none⟩) n cap) n (ncs (xs.set i q)) := by rw [hq, List.set_getElem_self]; exact h
 obtain ⟨⟨a0, a1, a2, a3, a4, a5, a6, a7, a8⟩, al, ac⟩ := q
 obtain ⟨⟨b0, b1, b2, b3, b4, b5, b6, b7, b8⟩, bl, bc⟩ := r
 have s0 := step _ _ ⟨⟨b0, a1, a2, a3, a4, a5, a6, a7, a8⟩, al, ac⟩ 0 (by omega) (.int .i64 b0) h0 rfl
 have s1 := step _ _ ⟨⟨b0, b1, a2, a3, a4, a5, a6, a7, a8⟩, al, ac⟩ 1 (by omega) (.int .i64 b1) s0 rfl
 have s2 := step _ _ ⟨⟨b0, b1, b2, a3, a4, a5, a6, a7, a8⟩, al, ac⟩ 2 (by omega) (.string b2) s1 rfl
 have s3 := step _ _ ⟨⟨b0, b1, b2, b3, a4, a5, a6, a7, a8⟩, al, ac⟩ 3 (by omega) (.bool b3) s2 rfl
 have s4 := step _ _ ⟨⟨b0, b1, b2, b3, b4, a5, a6, a7, a8⟩, al, ac⟩ 4 (by omega) (.int .i64 b4) s3 rfl
 have s5 := step _ _ ⟨⟨b0, b1, b2, b3, b4, b5, a6, a7, a8⟩, al, ac⟩ 5 (by omega) (.int .i64 b5) s4 rfl
 have s6 := step _ _ ⟨⟨b0, b1, b2, b3, b4, b5, b6, a7, a8⟩, al, ac⟩ 6 (by omega) (.int .i64 b6) s5 rfl
 have s7 := step _ _ ⟨⟨b0, b1, b2, b3, b4, b5, b6, b7, a8⟩, bl, bc⟩ 7 (by omega) (.slice bl b7.length bc) s6 rfl
 exact step _ _ ⟨⟨b0, b1, b2, b3, b4, b5, b6, b7, b8⟩, bl, bc⟩ 8 (by omega) (.int .i64 b8) s7 rfl
structure DF (w0 W : World) (L : List (Nat × List Value)) (B g n cap : Nat) (p : NM → Bool) (rs xs : List NR) (i j : Nat) : Prop where
 mb : MB w0 W L
 own : W.ownsRow B 47 9 (.slice (some ⟨g, 0, none⟩) n cap) n (ncs xs)
 len : xs.length = n
 rows : ∀ r ∈ rs, W.ownsRow B 99 2 (.slice r.loc r.nd.pieces.length r.cap) r.nd.pieces.length (pcs r.nd.pieces)
 pre : xs.take i = (rs.take j).filter (fun r => !p r.nd)
 low : i < j
 rest : ∀ t, j ≤ t → xs[t]? = rs[t]?
theorem DF.below {w0 W W' : World} {L : List (Nat × List Value)} {B g n cap : Nat} {p : NM → Bool} {rs xs : List NR} {i j : Nat} (h : DF w0 W L B g n cap p rs xs i j) (hb : Below W.heap.size W W') : DF w0 W' L B g n cap p rs xs i j := by
 have hg : W.grownBy W' none := ⟨hb.os, hb.tape, hb.output, hb.size, fun k hk _ => hb.block k hk⟩
 exact ⟨h.mb.below hb, h.own.kept hg (Classical.em _), h.len, fun r hr => (h.rows r hr).kept hg (Classical.em _), h.pre, h.low, h.rest⟩
theorem rows_stay {W : World} {B g n c m cc : Nat} {L M : List Value} {loc : Option Addr} {W' : World} (hown : W.ownsRow B 47 9 (.slice (some ⟨g, 0, none⟩) n c) n L) (h : W.ownsRow B 99 2 (.slice loc m cc) m M) (hg : W.grownBy W' (some g)) : W'.ownsRow B 99 2 (.slice loc m cc) m M := by
 refine h.kept hg ?_
 cases e : (Value.slice loc m cc).ownBlock with
 | none => exact .inl rfl
 | some q =>
  refine .inr fun e2 => ?_
  obtain ⟨c1, h1⟩ := own_blk' h e
  obtain ⟨c2, h2⟩ := own_blk' hown (show (Value.slice (some ⟨g, 0, none⟩) n c).ownBlock = some g from rfl)
  cases e2
  rw [h1] at h2
  simp at h2
theorem filt_step {p : NM → Bool} {rs : List NR} {j : Nat} (hj : j < rs.length) : (rs.take (j + 1)).filter (fun r => !p r.nd) = (rs.take j).filter (fun r => !p r.nd) ++ if p rs[j].nd = true then [] else [rs[j]] := by
 rw [List.take_succ_eq_append_getElem hj, List.filter_append]
 congr 1
 cases h : p rs[j].nd <;> simp [h]
theorem DF.skip {w0 W : World} {L : List (Nat × List Value)} {B g n cap : Nat} {p : NM → Bool} {rs xs : List NR} {i j : Nat} (h : DF w0 W L B g n cap p rs xs i j) (hj : j < rs.length) (hp : p rs[j].nd = true) : DF w0 W L B g n cap p rs xs i (j + 1) :=
 ⟨h.mb, h.own, h.len, h.rows, by rw [h.pre, filt_step hj, if_pos hp, List.append_nil], by have := h.low; omega, fun t ht => h.rest t (by omega)⟩
theorem DF.move {w0 W : World} {L : List (Nat × List Value)} {B g n cap : Nat} {p : NM → Bool} {rs xs : List NR} {i j : Nat} (h : DF w0 W L B g n cap p rs xs i j) (hj : j < rs.length) (hn : rs.length = n) (hp : p rs[j].nd = false) (hg : ∀ q ∈ L, g ≠ q.1) (hlo : w0.heap.size ≤ B) : DF w0 (putN W g (i * 9) rs[j]) L B g n cap p rs (xs.set i rs[j]) (i + 1) (j + 1) := by
 have hil : i < xs.length := by have := h.low; have := h.len; omega
 have hgB : B ≤ g := (h.own.lt g rfl).1
 refine ⟨h.mb.far (putN_grown W g (i * 9) rs[j]) (fun q hq e => hg q hq (by cases e; rfl)) (fun q e => by cases e; omega), putN_own h.own i hil rs[j], by rw [List.length_set]; exact h.len, fun r hr => rows_stay h.own (h.rows r hr) (putN_grown W g (i * 9) rs[j]), ?_, by have := h.low; omega, fun t ht => ?_⟩
 ·rw [filt_step hj, if_neg (by simp [hp]), ← h.pre]
  rw [List.take_succ_eq_append_getElem (by rw [List.length_set]; exact hil), List.getElem_set_self, List.take_set_of_le (Nat.le_refl _)]
 ·rw [List.getElem?_set_ne (by have := h.low; omega)]
  exact h.rest t (by omega)
theorem DF.start {w0 W : World} {L : List (Nat × List Value)} {B g n cap : Nat} {p : NM → Bool} {rs : List NR} {i : Nat} (h : SS w0 W L B (some ⟨g, 0, none⟩) n cap rs) (hi : (nds rs).findIdx? p = some i) : DF w0 W L B g n cap p rs rs i (i + 1) := by
 obtain ⟨hi', h1, h2⟩ := List.findIdx?_eq_some_iff_getElem.1 hi
 have hir : i < rs.length := by rw [nds_len] at hi'; exact hi'
 have hpi : p rs[i].nd = true := by simpa [nds] using h1
 have hlow : ∀ r ∈ rs.take i, (!p r.nd) = true := fun r hr => by
  obtain ⟨j, hj, e⟩ := List.getElem_of_mem hr
  rw [List.length_take] at hj
  rw [List.getElem_take] at e
  have := h2 j (by omega)
  rw [← e]
  simpa [nds] using this
 refine ⟨h.mb, by have := h.nb.own; rw [h.len] at this; exact this, h.len, h.nb.rows, ?_, by omega, fun t _ => rfl⟩
 rw [filt_step hir, if_pos hpi, List.append_nil, List.filter_eq_self.2 hlow]
theorem DF.fin {w0 W : World} {L : List (Nat × List Value)} {B g n cap : Nat} {p : NM → Bool} {rs xs : List NR} {i j : Nat} (h : DF w0 W L B g n cap p rs xs i j) (hj : n ≤ j) (hs : rs.length = n) (hin : i ≤ n) (hap : rs.Pairwise fun r s => r.loc ≠ none → s.loc ≠ none → r.loc ≠ s.loc) (hq : ∀ q ∈ L, g ≠ q.1 ∧ ∀ r ∈ rs, ∀ a, r.loc = some a → a.block ≠ q.1) (hlo : w0.heap.size ≤ B) (vs : List Value) :
  SS w0 (W.setCells g (i * 9) vs) L B (some ⟨g, 0, none⟩) i cap (rs.filter (fun r => !p r.nd)) := by
 have hgB : B ≤ g := (h.own.lt g rfl).1
 have hpre := h.pre
 rw [List.take_of_length_le (by omega : rs.length ≤ j)] at hpre
 have hlen : (rs.filter (fun r => !p r.nd)).length = i := by rw [← hpre, List.length_take, h.len]; omega
 have ho := own_take h.own hin
 have hc : (ncs xs).take (i * 9) = ncs (rs.filter (fun r => !p r.nd)) := by
  rw [← hpre]
  have e : xs = xs.take i ++ xs.drop i := (List.take_append_drop _ _).symm
  have e2 : ncs xs = ncs (xs.take i) ++ ncs (xs.drop i) := (congrArg ncs e).trans List.flatMap_append
  rw [e2]
  have hl : (ncs (xs.take i)).length = i * 9 := by rw [ncs_len, List.length_take, h.len, Nat.min_eq_left hin]
  rw [← hl, List.take_left]
 rw [hc] at ho
 obtain ⟨o1, o2⟩ := own_sets vs (i * 9) W ho (by rw [ncs_len, hlen]; exact Nat.le_refl _)
 refine ⟨h.mb.far o2 (fun q hq' e => (hq q hq').1 (by cases e; rfl)) (fun q e => by cases e; omega), ⟨by rw [hlen]; exact o1, fun r hr => rows_stay h.own (h.rows r (List.mem_filter.1 hr).1) o2, List.Pairwise.filter _ hap⟩, hlen, fun q hq' => ⟨fun a e => by cases e; exact (hq q hq').1, fun r hr a e => (hq q hq').2 r (List.mem_filter.1 hr).1 a e⟩, hlo⟩
theorem zero_one (m : Nat) : ∀ v ∈ (Builtin.zeroCells #[.int .i64 0, .int .i64 0, .string ⟨#[]⟩, .bool false, .int .i64 0, .int .i64 0, .int .i64 0, .slice none 0 0, .int .i64 0] m).toList, v.oneCell' = true := by
 intro v hv
 unfold Builtin.zeroCells at hv
 simp only [Array.toList_map, List.mem_map] at hv
 obtain ⟨i, -, rfl⟩ := hv
 have : i % 9 < 9 := Nat.mod_lt _ (by decide)
 generalize i % 9 = q at this
 show (#[Value.int .i64 0, .int .i64 0, .string ⟨#[]⟩, .bool false, .int .i64 0, .int .i64 0, .int .i64 0, .slice none 0 0, .int .i64 0][q]!).oneCell' = true
 match q, this with
 | 0, _ => rfl
 | 1, _ => rfl
 | 2, _ => rfl
 | 3, _ => rfl
 | 4, _ => rfl
 | 5, _ => rfl
 | 6, _ => rfl
 | 7, _ => rfl
 | 8, _ => rfl
abbrev zeroN : Array Value := #[.int .i64 0, .int .i64 0, .string ⟨#[]⟩, .bool false, .int .i64 0, .int .i64 0, .int .i64 0, .slice none 0 0, .int .i64 0]
theorem zeros_len (m : Nat) : (Builtin.zeroCells zeroN m).toList.length = m * 9 := by
 unfold Builtin.zeroCells
 simp
theorem clear_run (g o m c : Nat) (W : World) (hc : ∀ j, j < (m + 1) * 9 → (W.cell? ⟨g, o + j, none⟩).isSome = true ∧ W.frozen? ⟨g, o + j, none⟩ = false) : Sem.run Tryz.prog (Builtin.clear_ #[24] 0 #[.slice (some ⟨g, o, none⟩) (m + 1) c]) W = .ok (.tuple #[]) (W.setCells g o (Builtin.zeroCells zeroN (m + 1)).toList) := by
 have hz : ∀ w, Sem.run Tryz.prog (zeroValue 47) w = .ok (.agg zeroN) w := fun w => by kernel_rfl
 have hs := run_storeCells_cells (P := Tryz.prog) g o (Builtin.zeroCells zeroN (m + 1)).toList 0 W (fun j hj => by rw [Nat.add_zero]; exact (hc j (by rw [← zeros_len]; exact hj)).1) (fun j hj => by rw [Nat.add_zero]; exact (hc j (by rw [← zeros_len]; exact hj)).2) (zero_one (m + 1))
 unfold Builtin.clear_
 simp [go_sem, hz, Value.cells, hs]
set_option maxHeartbeats 4000000 in
theorem deleteGone {w0 W : World} {L : List (Nat × List Value)} {B g n cap : Nat} {rs : List NR} (h : SS w0 W L B (some ⟨g, 0, none⟩) n cap rs) (p : NM → Bool) (cv : Value) (hn : n ≤ 1000)
  (HC : ∀ W', MB w0 W' L → ∀ r : NR, Calls Tryz.prog 203 #[nv r, cv] W' fun e w' => e = .returned (.bool (p r.nd)) ∧ Below W'.heap.size W' w') :
  Calls Tryz.prog 202 #[.slice (some ⟨g, 0, none⟩) n cap, .func (.func 203) #[] #[cv]] W fun e w' => ∃ m, e = .returned (.slice (some ⟨g, 0, none⟩) m cap) ∧ SS w0 w' L B (some ⟨g, 0, none⟩) m cap (rs.filter (fun r => !p r.nd)) := by
 have hsee : TR W (some ⟨g, 0, none⟩) rs 0 W.heap.size := ⟨by
  have ho := h.nb.own
  rw [h.len] at ho
  exact own_rrow ho (fun hp e => by have e2 : (ncs rs).length = rs.length * 9 := ncs_len rs; rw [h.len, e] at e2; change 0 < (ncs rs).length at hp; omega), fun r hr => own_rrow (h.nb.rows r hr) (fun hp e => by have e2 : (pcs r.nd.pieces).length = r.nd.pieces.length * 2 := pcs_len _; rw [e] at e2; change 0 < (pcs r.nd.pieces).length at hp; omega)⟩
 have HIX := Shut.mk (indexGone p cv (cap := cap) hsee h.len.symm (by omega) (fun W' hb r _ => HC W' (h.mb.below hb) r))
 have HS := Shut.mk h
 have HCC := Shut.mk HC
 clear h HC hsee
 go_enter Tryz.func202, Tryz.ntmps202
 cases ho : (nds rs).findIdx? p with
 | none =>
  have hix : idxI p (nds rs) = -1 := by unfold idxI; rw [ho]
  rw [hix] at HIX
  have HO := Shut.mk ho
  clear hix ho
  go_wp2_with (go_at_call 104; refine HIX.out.mono ?_; rintro e w1 ⟨rfl, hb1⟩; have HB1 := Shut.mk hb1; clear hb1)
  go_ret
  refine ⟨n, rfl, ?_⟩
  have hall : rs.filter (fun r => !p r.nd) = rs := List.filter_eq_self.2 fun r hr => by
   have := List.findIdx?_eq_none_iff.1 HO.out r.nd (List.mem_map.2 ⟨r, hr, rfl⟩)
   simp [this]
  rw [hall]
  exact HS.out.below HB1.out
 | some i0 =>
  have hix : idxI p (nds rs) = (i0 : Int) := by unfold idxI; rw [ho]
  rw [hix] at HIX
  have HO := Shut.mk ho
  clear hix ho
  have i1 : ((i0 : Int) == -1) = false := by simp
  have hi0 : i0 < n := by
   obtain ⟨hi', -⟩ := List.findIdx?_eq_some_iff_getElem.1 HO.out
   rw [nds_len, HS.out.len] at hi'
   exact hi'
  have hw1 : IntKind.i64.wrap ((i0 : Int) + 1) = ((i0 + 1 : Nat) : Int) := by rw [IntWalk.i64_in _ ⟨by omega, by omega⟩]; omega
  go_wp2_with (go_at_call 104; refine HIX.out.mono ?_; rintro e w1 ⟨rfl, hb1⟩; have HD1 := Shut.mk (DF.start (HS.out.below hb1) HO.out); clear hb1)
  go_loopw [5, 6] (fun iv jv wr => ∃ (i j : Nat) (xs : List NR), iv = .int .i64 i ∧ jv = .int .i64 j ∧ j ≤ n ∧ i < j ∧ Shut (DF w0 wr L B g n cap p rs xs i j)) (fun _ jv _ => n - (intOf jv).toNat)
  case atStart => exact ⟨i0, i0 + 1, rs, rfl, rfl, by omega, by omega, HD1⟩
  case round =>
   clear HD1
   obtain ⟨i, j, xs, rfl, rfl, hj, hij, HD⟩ := hrel
   obtain ⟨wo, rfl⟩ : ∃ wo, wo = wr := ⟨_, rfl⟩
   have hrn : rs.length = n := HS.out.len
   have HRN := Shut.mk hrn
   by_cases hlt : j < n
   case pos =>
    have hjr : j < rs.length := by omega
    have hjx : j < xs.length := by rw [HD.out.len]; exact hlt
    have hxj : xs[j] = rs[j] := by
     have := HD.out.rest j (Nat.le_refl _)
     rw [List.getElem?_eq_getElem hjx, List.getElem?_eq_getElem hjr] at this
     exact Option.some.inj this
    have j0 : (0 : Int) ≤ (j : Int) := by omega
    have j1 : (j : Int) < (n : Int) := by omega
    have k0 : (0 : Int) ≤ (i : Int) := by omega
    have k1 : (i : Int) < (n : Int) := by omega
    have hcell : ∀ f v, (ncells xs[j])[f]? = some v → wo.cell? ⟨g, j * 9 + f, none⟩ = some v := fun f v hv => by
     have hf : f < 9 := by have := (List.getElem?_eq_some_iff.1 hv).1; rw [ncells_len] at this; exact this
     exact ((own_wcells HD.out.own).2 _ _ ((flat_get ncells_len xs j hjx f hf).trans hv)).1
    rw [hxj] at hcell
    obtain ⟨r, hrj⟩ : ∃ r, r = rs[j] := ⟨_, rfl⟩
    rw [← hrj] at hcell
    have HRJ := Shut.mk hrj
    have c0 := hcell 0 _ rfl
    have c1 := hcell 1 _ rfl
    have c2 := hcell 2 _ rfl
    have c3 := hcell 3 _ rfl
    have c4 := hcell 4 _ rfl
    have c5 := hcell 5 _ rfl
    have c6 := hcell 6 _ rfl
    have c7 := hcell 7 _ rfl
    have c8 := hcell 8 _ rfl
    rw [Nat.add_zero] at c0
    have lg : g < wo.heap.size := (HD.out.own.lt g rfl).2
    clear hcell hxj hrj hrn
    go_upto_region 8 with fail
    obtain ⟨vb, hvb⟩ : ∃ vb, vb = wo.heap.size := ⟨_, rfl⟩
    refine wp_shade (fun V => DF w0 V L B g n cap p rs xs i j ∧ WCells V vb (ncells r) ∧ g < vb) ⟨HD.out.below ((Below.refl _ _).alloc (Nat.le_refl _) _), by rw [hvb]; exact wcells_new wo #[.int .i64 r.nd.id, .int .i64 r.nd.parent, .string r.nd.name, .bool r.nd.dir, .int .i64 r.nd.schema, .int .i64 r.nd.quota, .int .i64 r.nd.len, .slice r.loc r.nd.pieces.length r.cap, .int .i64 r.nd.writer] 47, by rw [hvb]; exact lg⟩ ?_
    rintro V ⟨hV, hvx, hgv⟩
    have HV := Shut.mk hV
    have HX := Shut.mk hvx
    rw [← hvb]
    clear hV hvx hvb c0 c1 c2 c3 c4 c5 c6 c7 c8 lg HD
    have HCK := Shut.mk (HCC.out V HV.out.mb r)
    have y0 := (HX.out.2 0 _ rfl).1
    have y1 := (HX.out.2 1 _ rfl).1
    have y2 := (HX.out.2 2 _ rfl).1
    have y3 := (HX.out.2 3 _ rfl).1
    have y4 := (HX.out.2 4 _ rfl).1
    have y5 := (HX.out.2 5 _ rfl).1
    have y6 := (HX.out.2 6 _ rfl).1
    have y7 := (HX.out.2 7 _ rfl).1
    have y8 := (HX.out.2 8 _ rfl).1
    obtain ⟨q, hq⟩ : ∃ q, q = p r.nd := ⟨_, rfl⟩
    rw [← hq] at HCK
    have HQ := Shut.mk hq
    clear hq
    cases q with
    | true =>
     go_wp2_with (go_at_call 203; refine HCK.out.mono ?_; rintro e w5 ⟨rfl, hb5⟩; have HV5 := Shut.mk (HV.out.below hb5); clear hb5 y0 y1 y2 y3 y4 y5 y6 y7 y8)
     go_roundw
     case rel => exact ⟨i, j + 1, xs, rfl, by go_num, by omega, by omega, ⟨HV5.out.skip hjr (by rw [← HRJ.out, ← HQ.out])⟩⟩
     case measure => simp [intOf]; omega
    | false =>
     go_upto_region 9 with (go_at_call 203; refine HCK.out.mono ?_; rintro e w5 ⟨rfl, hb5⟩; have HV5 := Shut.mk (HV.out.below hb5); have HX5 := Shut.mk (HX.out.grow hb5); clear hb5 y0 y1 y2 y3 y4 y5 y6 y7 y8)
     have hii : i < xs.length := by rw [HV5.out.len]; omega
     have hcel : ∀ f, f < 9 → ∃ u, w5.cell? ⟨g, i * 9 + f, none⟩ = some u ∧ w5.frozen? ⟨g, i * 9 + f, none⟩ = false := fun f hf => by
      have hv : (ncells xs[i])[f]? = some ((ncells xs[i])[f]'(by rw [ncells_len]; exact hf)) := List.getElem?_eq_getElem _
      have := (own_wcells HV5.out.own).2 _ _ ((flat_get ncells_len xs i hii f hf).trans hv)
      exact ⟨_, this.1, this.2⟩
     obtain ⟨u0, z0, zf0⟩ := hcel 0 (by omega)
     obtain ⟨u1, z1, zf1⟩ := hcel 1 (by omega)
     obtain ⟨u2, z2, zf2⟩ := hcel 2 (by omega)
     obtain ⟨u3, z3, zf3⟩ := hcel 3 (by omega)
     obtain ⟨u4, z4, zf4⟩ := hcel 4 (by omega)
     obtain ⟨u5, z5, zf5⟩ := hcel 5 (by omega)
     obtain ⟨u6, z6, zf6⟩ := hcel 6 (by omega)
     obtain ⟨u7, z7, zf7⟩ := hcel 7 (by omega)
     obtain ⟨u8, z8, zf8⟩ := hcel 8 (by omega)
     rw [Nat.add_zero] at z0 zf0
     have y0 := (HX5.out.2 0 _ rfl).1
     have y1 := (HX5.out.2 1 _ rfl).1
     have y2 := (HX5.out.2 2 _ rfl).1
     have y3 := (HX5.out.2 3 _ rfl).1
     have y4 := (HX5.out.2 4 _ rfl).1
     have y5 := (HX5.out.2 5 _ rfl).1
     have y6 := (HX5.out.2 6 _ rfl).1
     have y7 := (HX5.out.2 7 _ rfl).1
     have y8 := (HX5.out.2 8 _ rfl).1
     have ne1 : ¬ (vb = g) := by omega
     have ne2 : ¬ (g = vb) := by omega
     clear hcel hii
     go_upto_region 10 with fail
     refine wp_shade (fun V6 => DF w0 V6 L B g n cap p rs (xs.set i r) (i + 1) (j + 1)) (by
      have h9 := HV5.out.move hjr HRN.out (by rw [← HRJ.out, ← HQ.out]) (fun q hq => (HS.out.ap q hq).1 ⟨g, 0, none⟩ rfl) HS.out.lo
      rw [← HRJ.out] at h9
      exact h9) ?_
     intro V6 hV6
     have HV6 := Shut.mk hV6
     clear hV6
     go_wp2_with fail
     go_roundw
     case rel => exact ⟨i + 1, j + 1, xs.set i r, by go_num, by go_num, by omega, by omega, HV6⟩
     case measure => simp [intOf]; omega
   case neg =>
    have j1 : ¬ (j : Int) < (n : Int) := by omega
    have hin : i ≤ n := by omega
    have k0 : (0 : Int) ≤ (i : Int) := by omega
    have k1 : (i : Int) ≤ (n : Int) := by omega
    have hcap : n ≤ cap := by
     rcases HD.out.own.2 with ⟨h', _⟩ | ⟨g', cap', cur, h', _, _, hnc, _⟩
     ·simp at h'
     ·simp only [Value.slice.injEq] at h'
      omega
    have hnc : (n : Int) ≤ (cap : Int) := by omega
    have hkc : (i : Int) ≤ (cap : Int) := by omega
    obtain ⟨m', hm'⟩ : ∃ m', n - i = m' + 1 := ⟨n - i - 1, by omega⟩
    have HCL := Shut.mk (clear_run g (i * 9) m' (cap - i) wo (fun q hq => by
     have hlt9 : i * 9 + q < (ncs xs).length := by rw [ncs_len, HD.out.len]; omega
     have := (own_wcells HD.out.own).2 (i * 9 + q) _ (List.getElem?_eq_getElem hlt9)
     exact ⟨by rw [this.1]; rfl, this.2⟩))
    rw [← hm'] at HCL
    have hcl := HCL.out
    have HF := Shut.mk (HD.out.fin (by omega) HRN.out hin HS.out.nb.apart (fun q hq => ⟨(HS.out.ap q hq).1 ⟨g, 0, none⟩ rfl, (HS.out.ap q hq).2⟩) HS.out.lo (Builtin.zeroCells zeroN (n - i)).toList)
    clear hm' hrn HCL
    go_wp2_with fail
    go_ret
    exact ⟨i, rfl, HF.out⟩
theorem SS.swap {w0 W : World} {p q : Nat × List Value} {L : List (Nat × List Value)} {B : Nat} {a : Option Addr} {n cap : Nat} {rs : List NR} (h : SS w0 W (p :: q :: L) B a n cap rs) : SS w0 W (q :: p :: L) B a n cap rs := by
 have hm : ∀ x, x ∈ q :: p :: L → x ∈ p :: q :: L := fun x hx => by
  simp only [List.mem_cons] at hx ⊢
  rcases hx with h | h | h
  ·exact .inr (.inl h)
  ·exact .inl h
  ·exact .inr (.inr h)
 obtain ⟨d1, d2⟩ := List.pairwise_cons.1 h.mb.dist
 obtain ⟨d3, d4⟩ := List.pairwise_cons.1 d2
 exact ⟨⟨fun x hx => h.mb.box x (hm x hx), List.pairwise_cons.2 ⟨fun x hx => (List.mem_cons.1 hx).elim (fun e => by rw [e]; exact fun e2 => d1 q (by simp) e2.symm) (fun hx => d3 x hx), List.pairwise_cons.2 ⟨fun x hx => d1 x (by simp [hx]), d4⟩⟩, h.mb.bel⟩, h.nb, h.len, fun x hx => h.ap x (hm x hx), h.lo⟩
set_option maxHeartbeats 4000000 in
theorem chDrop {w0 W : World} {L : List (Nat × List Value)} {B g n cap tb : Nat} {nx : Int} {rs : List NR} {k : Nat} {r : NR} {T : TM} (h : SS w0 W ((tb, [.slice (some ⟨g, 0, none⟩) n cap, .int .i64 nx]) :: L) B (some ⟨g, 0, none⟩) n cap rs) (hk : rs[k]? = some r) (hn : n ≤ 1000) (hok : treeOk T = true) (hr : nds rs = T.nodes) (hx : nx = T.next) (hne : belowX T r.nd.id ≠ []) (path : ByteArray) (gr : Int) :
  Calls Tryz.prog 201 #[.agg #[.string path], .pointer (some ⟨tb, 0, none⟩), .pointer (some ⟨g, k * 9, none⟩), .int .i64 gr] W fun e w' => e = .returned (.tuple #[]) ∧ ∃ m, SS w0 w' ((tb, [.slice (some ⟨g, 0, none⟩) m cap, .int .i64 nx]) :: L) B (some ⟨g, 0, none⟩) m cap (rs.filter (fun q => !(belowX T r.nd.id).contains q.nd.id)) := by
 have HBL := Shut.mk (fun W' (hb : Below W.heap.size W W') => ((h.see hok hr hx).below hb).blw r.nd.id)
 have hXl := belowX_len T r.nd.id
 have c0 := (h.cell hk 0 _ rfl).1
 obtain ⟨id, hid⟩ : ∃ id, id = r.nd.id := ⟨_, rfl⟩
 have HS := Shut.mk h
 have HC : Shut (∀ W', Below W.heap.size W W' → W'.cell? ⟨g, k * 9, none⟩ = some (.int .i64 id)) := ⟨fun W' hb => by rw [hid]; exact (hb.cell (p := ⟨g, k * 9, none⟩) (h.nb.row_lt ⟨g, 0, none⟩ rfl)).trans c0⟩
 rw [← hid] at HBL hXl hne ⊢
 unfold IPost at HBL
 generalize belowX T id = X at HBL hXl hne ⊢
 have HNE := Shut.mk hne
 clear h hk c0 hid hok hr hx hne
 go_enter Tryz.func201, Tryz.ntmps201
 go_upto_region 1 with fail
 obtain ⟨rb, hrb⟩ : ∃ rb, rb = W.heap.size := ⟨_, rfl⟩
 refine wp_shade (fun V => SS w0 V ((rb, [.string path]) :: (tb, [.slice (some ⟨g, 0, none⟩) n cap, .int .i64 nx]) :: L) B (some ⟨g, 0, none⟩) n cap rs ∧ Below W.heap.size W V) ⟨by rw [hrb]; exact HS.out.new #[.string path] 163, (Below.refl _ _).alloc (Nat.le_refl _) _⟩ ?_
 rintro W1 ⟨hS1, hb1⟩
 have HS1 := Shut.mk hS1
 have HB1 := Shut.mk hb1
 rw [← hrb]
 clear hS1 hb1 hrb HS
 have HLE : Shut (∀ x, Later W1.drew x → x.cell? ⟨g, k * 9, none⟩ = some (.int .i64 id) ∧ x.cell? ⟨tb, 0, none⟩ = some (.slice (some ⟨g, 0, none⟩) n cap) ∧ x.cell? ⟨tb, 1, none⟩ = some (.int .i64 nx)) := ⟨fun x hx => by
  have hb : Below W1.heap.size W1 x := Below.trans (Below.drew (Below.refl _ _)) hx
  have M := HS1.out.mb.below hb
  exact ⟨HC.out x (HB1.out.trans (hb.mono HB1.out.size)), ((M.at 1 rfl).1.2 0 _ rfl).1, ((M.at 1 rfl).1.2 1 _ rfl).1⟩⟩
 have HBX : Shut (∀ x, Later W1.drew x → Below W.heap.size W x) := ⟨fun x hx => HB1.out.trans ((Below.trans (Below.drew (Below.refl _ _)) hx : Below W1.heap.size W1 x).mono HB1.out.size)⟩
 have HSX : Shut (∀ x, Later W1.drew x → SS w0 x ((rb, [.string path]) :: (tb, [.slice (some ⟨g, 0, none⟩) n cap, .int .i64 nx]) :: L) B (some ⟨g, 0, none⟩) n cap rs) := ⟨fun x hx => HS1.out.below (Below.trans (Below.drew (Below.refl _ _)) hx)⟩
 obtain ⟨m, hm⟩ : ∃ m, m = X.length := ⟨_, rfl⟩
 have HML := Shut.mk hm
 refine wp_region_tail 9 (by kernel_rfl) ?_
 refine wpK_val (i := 0) (v := ?va0) rfl (by kernel_rfl) (by kernel_rfl) (by kernel_rfl) (by kernel_rfl) (fun _ _ _ h => h) (by rfl) ?hya0 ?resta0
 case hya0 => (intro x hx; obtain ⟨d0, d1, d2⟩ := HLE.out x hx; go_simp; try with_reducible rfl)
 try simp only [Act.put, qA, qB, qC]
 refine wpK_val (i := 1) (v := ?va1) rfl (by kernel_rfl) (by kernel_rfl) (by kernel_rfl) (by kernel_rfl) (fun _ _ _ h => h) (by rfl) ?hya1 ?resta1
 case hya1 => (intro x hx; obtain ⟨d0, d1, d2⟩ := HLE.out x hx; go_simp; try with_reducible rfl)
 try simp only [Act.put, qA, qB, qC]
 refine wpK_val (i := 2) (v := ?va2) rfl (by kernel_rfl) (by kernel_rfl) (by kernel_rfl) (by kernel_rfl) (fun _ _ _ h => h) (by rfl) ?hya2 ?resta2
 case hya2 => (intro x hx; obtain ⟨d0, d1, d2⟩ := HLE.out x hx; go_simp; try with_reducible rfl)
 try simp only [Act.put, qA, qB, qC]
 refine wpK_val (i := 3) (v := ?va3) rfl (by kernel_rfl) (by kernel_rfl) (by kernel_rfl) (by kernel_rfl) (fun _ _ _ h => h) (by rfl) ?hya3 ?resta3
 case hya3 => (intro x hx; obtain ⟨d0, d1, d2⟩ := HLE.out x hx; go_simp; try with_reducible rfl)
 try simp only [Act.put, qA, qB, qC]
 refine wpK_val (i := 4) (v := ?va4) rfl (by kernel_rfl) (by kernel_rfl) (by kernel_rfl) (by kernel_rfl) (fun _ _ _ h => h) (by rfl) ?hya4 ?resta4
 case hya4 => (intro x hx; obtain ⟨d0, d1, d2⟩ := HLE.out x hx; go_simp; try with_reducible rfl)
 try simp only [Act.put, qA, qB, qC]
 refine wpK_val (i := 5) (v := ?va5) rfl (by kernel_rfl) (by kernel_rfl) (by kernel_rfl) (by kernel_rfl) (fun _ _ _ h => h) (by rfl) ?hya5 ?resta5
 case hya5 => (intro x hx; obtain ⟨d0, d1, d2⟩ := HLE.out x hx; go_simp; try with_reducible rfl)
 try simp only [Act.put, qA, qB, qC]
 refine wpK_val (i := 6) (v := ?va6) rfl (by kernel_rfl) (by kernel_rfl) (by kernel_rfl) (by kernel_rfl) (fun _ _ _ h => h) (by rfl) ?hya6 ?resta6
 case hya6 => (intro x hx; obtain ⟨d0, d1, d2⟩ := HLE.out x hx; go_simp; try with_reducible rfl)
 try simp only [Act.put, qA, qB, qC]
 refine wpK_callbox (f := 37) (args := #[.agg #[.slice (some ⟨g, 0, none⟩) n cap, .int .i64 nx], .int .i64 id]) (C := #[.slice none 0 0]) (t := 37) (i := 7) (j := 8) (by kernel_rfl) rfl rfl (by rfl) (by rfl) (fun x hx => by go_simp) (fun x hx => by kernel_rfl) (fun x hx => (HBL.out x (HBX.out x hx)).mono ?_) (fun x hx => ?_)
 ·rintro e y ⟨bv, rfl, hba, hby⟩
  refine ⟨_, rfl, hby, ?_⟩
  obtain ⟨ba, c, rfl, -, hor⟩ := hba
  obtain ⟨ga, rfl, hga1, hga2, hwa⟩ := hor.resolve_left HNE.out
  have HY := Shut.mk ((HSX.out x hx).add hby hwa hga1)
  rw [← hm]
  clear hx hby hor hga1 hga2 hwa
  try simp only [Act.put, qA, qB, qC]
  refine wpK_one (i := 8) (by kernel_rfl) rfl (by rfl) (fun x2 hx2 => ⟨.pointer (some ⟨x2.heap.size, 0, none⟩), x2.alloc (.cells #[.slice none 0 0] 37), by kernel_rfl, (Below.refl _ _).alloc (Nat.le_refl _) _, ?_⟩)
  have HY2 := Shut.mk ((HY.out.below hx2).new #[.slice none 0 0] 37)
  obtain ⟨gb, hgb⟩ : ∃ gb, gb = x2.heap.size := ⟨_, rfl⟩
  rw [← hgb] at HY2 ⊢
  clear hx2 hgb
  try simp only [Act.put, qA, qB, qC]
  refine wpK_tail (by kernel_rfl) ?_
  intro x3 hx3
  have HY3 := Shut.mk (HY2.out.below hx3)
  obtain ⟨q0, qf0⟩ := (HY3.out.mb.at 0 rfl).1.2 0 _ rfl
  refine wpA_store (y := x3.setCell ⟨gb, 0, none⟩ (.slice (some ⟨ga, 0, none⟩) m c)) (i := 9) (by kernel_rfl) rfl (by rfl) (by go_simp) (by kernel_rfl) ?_
  have HZ : Shut (SS w0 (x3.setCell ⟨gb, 0, none⟩ (.slice (some ⟨ga, 0, none⟩) m c)) ((gb, [.slice (some ⟨ga, 0, none⟩) m c]) :: (ga, ics X) :: (rb, [.string path]) :: (tb, [.slice (some ⟨g, 0, none⟩) n cap, .int .i64 nx]) :: L) B (some ⟨g, 0, none⟩) n cap rs) := ⟨HY3.out.setBox 0 rfl 0 (.slice (some ⟨ga, 0, none⟩) m c) (by simp)⟩
  generalize x3.setCell ⟨gb, 0, none⟩ (.slice (some ⟨ga, 0, none⟩) m c) = Z at HZ ⊢
  clear hx3 q0 qf0 HY3 HY2 HY hm HLE HBX HSX
  simp only [Act.put]
  go_upto_region 2 with fail
  have n0 := ((HZ.out.mb.at 3 rfl).1.2 0 _ rfl).1
  obtain ⟨z0, zf0⟩ := (HZ.out.mb.at 3 rfl).1.2 0 _ rfl
  have HDEL := Shut.mk (deleteGone HZ.out (fun nd => X.contains nd.id) (.pointer (some ⟨gb, 0, none⟩)) hn (fun W' M r => by
   have h1 := (M.at 0 rfl).1
   have h2 := ((M.at 1 rfl).1).crow
   have h3 := (h1.2 0 _ rfl).1
   rw [HML.out] at h3
   exact test_gone r gb (some ⟨ga, 0, none⟩) c X W' h3 h1.1 h2 (by omega)))
  go_wp2_with (go_at_call 202; refine HDEL.out.mono ?_; rintro e w8 ⟨m8, rfl, h8⟩; have H8 := Shut.mk h8; obtain ⟨v0, vf0⟩ := (H8.out.mb.at 3 rfl).1.2 0 _ rfl; clear h8 n0 z0 zf0)
  refine body_shade (fun w9 => SS w0 w9 ((tb, [.slice (some ⟨g, 0, none⟩) m8 cap, .int .i64 nx]) :: L) B (some ⟨g, 0, none⟩) m8 cap (rs.filter (fun r => !X.contains r.nd.id))) ((H8.out.setBox 3 rfl 0 (.slice (some ⟨g, 0, none⟩) m8 cap) (by simp)).less.less.less) ?_
  intro w9 h9
  refine bodyPost_end (v := .tuple #[]) (by simp [results, Tryz.results201, go_sem]) rfl ⟨rfl, m8, h9⟩
 ·have HY := Shut.mk ((HSX.out x hx).new #[.slice none 0 0] 37)
  have hbxx : Shut (Below W.heap.size W (x.alloc (.cells #[.slice none 0 0] 37))) := ⟨(HBX.out x hx).alloc (HBX.out x hx).size _⟩
  have HLY : Shut (∀ z, Later (x.alloc (.cells #[.slice none 0 0] 37)) z → z.cell? ⟨g, k * 9, none⟩ = some (.int .i64 id) ∧ z.cell? ⟨tb, 0, none⟩ = some (.slice (some ⟨g, 0, none⟩) n cap) ∧ z.cell? ⟨tb, 1, none⟩ = some (.int .i64 nx)) := ⟨fun z hz => HLE.out z (hx.trans (Below.trans ((Below.refl x.heap.size x).alloc (Nat.le_refl _) _) (Below.mono hz (by simp))))⟩
  obtain ⟨gb, hgb⟩ : ∃ gb, gb = x.heap.size := ⟨_, rfl⟩
  rw [← hgb] at HY ⊢
  generalize x.alloc (.cells #[.slice none 0 0] 37) = x2 at HY hbxx HLY ⊢
  clear hgb hx
  try simp only [Act.put, qA, qB, qC]
  refine wpK_onecall (f := 37) (args := #[.agg #[.slice (some ⟨g, 0, none⟩) n cap, .int .i64 nx], .int .i64 id]) (i := 7) (by kernel_rfl) rfl (by rfl) (fun x3 hx3 => by go_simp) (fun x3 hx3 => (HBL.out x3 (hbxx.out.trans (Below.mono hx3 hbxx.out.size))).mono ?_)
  rintro e y ⟨bv, rfl, hba, hby⟩
  refine ⟨_, rfl, hby, ?_⟩
  obtain ⟨ba, c, rfl, -, hor⟩ := hba
  obtain ⟨ga, rfl, hga1, hga2, hwa⟩ := hor.resolve_left HNE.out
  have HY2 := Shut.mk ((HY.out.below hx3).add hby hwa hga1).swap
  rw [← hm]
  clear hx3 hby hor hga1 hga2 hwa HY
  try simp only [Act.put, qA, qB, qC]
  refine wpK_tail (by kernel_rfl) ?_
  intro x4 hx4
  have HY3 := Shut.mk (HY2.out.below hx4)
  obtain ⟨q0, qf0⟩ := (HY3.out.mb.at 0 rfl).1.2 0 _ rfl
  refine wpA_store (y := x4.setCell ⟨gb, 0, none⟩ (.slice (some ⟨ga, 0, none⟩) m c)) (i := 9) (by kernel_rfl) rfl (by rfl) (by go_simp) (by kernel_rfl) ?_
  have HZ : Shut (SS w0 (x4.setCell ⟨gb, 0, none⟩ (.slice (some ⟨ga, 0, none⟩) m c)) ((gb, [.slice (some ⟨ga, 0, none⟩) m c]) :: (ga, ics X) :: (rb, [.string path]) :: (tb, [.slice (some ⟨g, 0, none⟩) n cap, .int .i64 nx]) :: L) B (some ⟨g, 0, none⟩) n cap rs) := ⟨HY3.out.setBox 0 rfl 0 (.slice (some ⟨ga, 0, none⟩) m c) (by simp)⟩
  generalize x4.setCell ⟨gb, 0, none⟩ (.slice (some ⟨ga, 0, none⟩) m c) = Z at HZ ⊢
  clear hx4 q0 qf0 HY3 HY2 hm HLE HBX HSX hbxx HLY
  simp only [Act.put]
  go_upto_region 2 with fail
  have n0 := ((HZ.out.mb.at 3 rfl).1.2 0 _ rfl).1
  obtain ⟨z0, zf0⟩ := (HZ.out.mb.at 3 rfl).1.2 0 _ rfl
  have HDEL := Shut.mk (deleteGone HZ.out (fun nd => X.contains nd.id) (.pointer (some ⟨gb, 0, none⟩)) hn (fun W' M r => by
   have h1 := (M.at 0 rfl).1
   have h2 := ((M.at 1 rfl).1).crow
   have h3 := (h1.2 0 _ rfl).1
   rw [HML.out] at h3
   exact test_gone r gb (some ⟨ga, 0, none⟩) c X W' h3 h1.1 h2 (by omega)))
  go_wp2_with (go_at_call 202; refine HDEL.out.mono ?_; rintro e w8 ⟨m8, rfl, h8⟩; have H8 := Shut.mk h8; obtain ⟨v0, vf0⟩ := (H8.out.mb.at 3 rfl).1.2 0 _ rfl; clear h8 n0 z0 zf0)
  refine body_shade (fun w9 => SS w0 w9 ((tb, [.slice (some ⟨g, 0, none⟩) m8 cap, .int .i64 nx]) :: L) B (some ⟨g, 0, none⟩) m8 cap (rs.filter (fun r => !X.contains r.nd.id))) ((H8.out.setBox 3 rfl 0 (.slice (some ⟨g, 0, none⟩) m8 cap) (by simp)).less.less.less) ?_
  intro w9 h9
  refine bodyPost_end (v := .tuple #[]) (by simp [results, Tryz.results201, go_sem]) rfl ⟨rfl, m8, h9⟩
end Go.Proofs.YtakhagkhngmpaaaGreat
/- EdP: . -/
namespace Go.Proofs.YtakhagkhngmpaaaGreat
set_option maxRecDepth 100000
open Go.RowKit BigFrame
attribute [local go_sem ↓] Go.wp_at_zero Go.wp_at_succ
theorem implHasName (p : ByteArray) (w : World) (hs : p.size ≤ 1048576) : Calls Tryz.prog 126 #[.string p] w fun e w' => e = .returned (.bool (named p)) ∧ Below w.heap.size w w' := by
 have HC := Shut.mk (fun W => implParentPath p W hs)
 unfold ParPost at HC
 have e0 : named p = (parentB p).2.2 := rfl
 rw [e0]
 generalize (parentB p).2.2 = a at *
 generalize (parentB p).2.1 = b at *
 generalize (parentB p).1 = c at *
 clear hs e0
 go_enter Tryz.func126, Tryz.ntmps126
 go_wp2_with fail
 refine (HC.out _).mono ?_
 rintro e w1 ⟨rfl, hb⟩
 go_wp2_with fail
 go_ret
 exact ⟨rfl, hb⟩
def pathQ (e : EM) : Bool := if e.kind = 10 then e.path.toList == [47] else if e.kind = 5 ∨ e.kind = 6 then (e.path.toList == [47]) || named e.path else named e.path
def destQ (e : EM) : Bool := if e.kind = 3 then named e.dest else e.dest.toList == []
def numQ (e : EM) : Bool := if e.kind = 5 then inI e.num 1 3 else if e.kind = 6 then inI e.num 0 1000 else if e.kind = 7 then inI e.num 1 200 else e.num == 0
def whoQ (e : EM) : Bool := if e.kind = 2 ∨ e.kind = 9 then inI e.who 1 9 else e.who == 0
theorem not_named_nil {p : ByteArray} (h : (p.toList == []) = true) : named p = false := by
 rw [Go.ByteArray.toList_eq, beq_iff_eq] at h
 have hp : p = ⟨#[]⟩ := ByteArray.ext (Array.toList_inj.1 h)
 subst hp
 rfl
theorem edit_is (e : EM) : editOk e = (inI e.kind 1 10 && pathQ e && destQ e && numQ e && whoQ e) := by
 unfold editOk pathBad numsOk pathQ destQ numQ whoQ
 have hn := @not_named_nil e.dest
 generalize named e.dest = nd at *
 generalize named e.path = np at *
 generalize (e.path.toList == [47]) = rt at *
 have hne : (e.dest.toList != []) = !(e.dest.toList == []) := rfl
 rw [hne]
 generalize (e.dest.toList == []) = te at *
 generalize inI e.num 1 3 = a1 at *
 generalize inI e.num 0 1000 = a2 at *
 generalize inI e.num 1 200 = a3 at *
 generalize inI e.who 1 9 = a4 at *
 generalize (e.num == 0) = a5 at *
 generalize (e.who == 0) = a6 at *
 cases hk : inI e.kind 1 10 with
 | false => simp
 | true =>
  have hk' := inI_iff.1 hk
  have hc : e.kind = 1 ∨ e.kind = 2 ∨ e.kind = 3 ∨ e.kind = 4 ∨ e.kind = 5 ∨ e.kind = 6 ∨ e.kind = 7 ∨ e.kind = 8 ∨ e.kind = 9 ∨ e.kind = 10 := by omega
  rcases hc with h | h | h | h | h | h | h | h | h | h <;> rw [h] <;> simp <;> revert hn <;> cases nd <;> cases te <;> simp <;> cases np <;> cases rt <;> simp [Bool.and_comm]
set_option maxHeartbeats 1000000 in
theorem implPathQ (e : EM) (w : World) (hf : EFit e) : Calls Tryz.prog 87 #[ev e] w fun r w' => r = .returned (.bool (pathQ e)) ∧ Below w.heap.size w w' := by
 have HN := Shut.mk (fun W => implHasName e.path W hf.1)
 have HR : Shut (pathQ e = if e.kind = 10 then e.path.toList == [47] else if e.kind = 5 ∨ e.kind = 6 then (e.path.toList == [47]) || named e.path else named e.path) := ⟨rfl⟩
 generalize pathQ e = R at *
 generalize named e.path = np at *
 obtain ⟨kind, path, dest, num, who⟩ := e
 dsimp only at *
 clear hf
 go_enter Tryz.func87, Tryz.ntmps87
 go_wp2_with (go_at_call 126; refine (HN.out _).mono ?_; rintro r w1 ⟨rfl, hb1⟩)
 all_goals
  go_ret
  refine ⟨by rw [HR.out]; (try simp only [beq_iff_eq, beq_eq_false_iff_ne, ne_eq] at *); simp [*], ?_⟩
  first
   | exact (Below.refl _ _).alloc (Nat.le_refl _) _
   | exact ((Below.refl _ _).alloc (Nat.le_refl _) _).trans (hb1.mono (by simp))
set_option maxHeartbeats 1000000 in
theorem implDestQ (e : EM) (w : World) (hf : EFit e) : Calls Tryz.prog 88 #[ev e] w fun r w' => r = .returned (.bool (destQ e)) ∧ Below w.heap.size w w' := by
 have HN := Shut.mk (fun W => implHasName e.dest W hf.2)
 have HR : Shut (destQ e = if e.kind = 3 then named e.dest else e.dest.toList == []) := ⟨rfl⟩
 generalize destQ e = R at *
 generalize named e.dest = np at *
 obtain ⟨kind, path, dest, num, who⟩ := e
 dsimp only at *
 clear hf
 go_enter Tryz.func88, Tryz.ntmps88
 go_wp2_with (go_at_call 126; refine (HN.out _).mono ?_; rintro r w1 ⟨rfl, hb1⟩)
 all_goals
  go_ret
  refine ⟨by rw [HR.out]; (try simp only [beq_iff_eq, beq_eq_false_iff_ne, ne_eq] at *); simp [*], ?_⟩
  first
   | exact (Below.refl _ _).alloc (Nat.le_refl _) _
   | exact ((Below.refl _ _).alloc (Nat.le_refl _) _).trans (hb1.mono (by simp))
set_option maxHeartbeats 1000000 in
theorem implNumQ (e : EM) (w : World) : Calls Tryz.prog 89 #[ev e] w fun r w' => r = .returned (.bool (numQ e)) ∧ Below w.heap.size w w' := by
 have HR : Shut (numQ e = if e.kind = 5 then inI e.num 1 3 else if e.kind = 6 then (decide (0 ≤ e.num) && decide (e.num ≤ 1000)) else if e.kind = 7 then (decide (1 ≤ e.num) && decide (e.num ≤ 200)) else e.num == 0) := ⟨rfl⟩
 generalize numQ e = R at *
 obtain ⟨kind, path, dest, num, who⟩ := e
 dsimp only at *
 go_enter Tryz.func89, Tryz.ntmps89
 go_wp2_with (go_at_call 115; refine (implSchemaOk _ _).mono ?_; rintro r w1 ⟨rfl, rfl⟩)
 all_goals
  go_ret
  refine ⟨by rw [HR.out]; (try simp only [beq_iff_eq, beq_eq_false_iff_ne, ne_eq] at *); first | (simp [*]; done) | (simp [*]; omega), ?_⟩
  exact (Below.refl _ _).alloc (Nat.le_refl _) _
set_option maxHeartbeats 1000000 in
theorem implWhoQ (e : EM) (w : World) : Calls Tryz.prog 90 #[ev e] w fun r w' => r = .returned (.bool (whoQ e)) ∧ Below w.heap.size w w' := by
 have HR : Shut (whoQ e = if e.kind = 2 ∨ e.kind = 9 then (decide (1 ≤ e.who) && decide (e.who ≤ 9)) else e.who == 0) := ⟨rfl⟩
 generalize whoQ e = R at *
 obtain ⟨kind, path, dest, num, who⟩ := e
 dsimp only at *
 go_enter Tryz.func90, Tryz.ntmps90
 go_wp2_with fail
 all_goals
  go_ret
  refine ⟨by rw [HR.out]; (try simp only [beq_iff_eq, beq_eq_false_iff_ne, ne_eq] at *); first | (simp [*]; done) | (simp [*]; omega), ?_⟩
  exact (Below.refl _ _).alloc (Nat.le_refl _) _
theorem ec_new (w : World) (e : EM) (T : TypeId) : EC w w.heap.size e (w.alloc (.cells #[.int .i64 e.kind, .string e.path, .string e.dest, .int .i64 e.num, .int .i64 e.who] T)) := by
 have h := wcells_new w #[.int .i64 e.kind, .string e.path, .string e.dest, .int .i64 e.num, .int .i64 e.who] T
 exact ⟨(h.2 0 _ rfl).1, (h.2 1 _ rfl).1, (h.2 2 _ rfl).1, (h.2 3 _ rfl).1, (h.2 4 _ rfl).1, ⟨(Below.refl _ _).alloc (Nat.le_refl _) _⟩⟩
set_option maxHeartbeats 1000000 in
theorem implEditOk (e : EM) (w : World) (hf : EFit e) : Calls Tryz.prog 35 #[ev e] w fun r w' => r = .returned (.bool (editOk e)) ∧ Below w.heap.size w w' := by
 have H1 := Shut.mk (fun W => implPathQ e W hf)
 have H2 := Shut.mk (fun W => implDestQ e W hf)
 have H3 := Shut.mk (fun W => implNumQ e W)
 have H4 := Shut.mk (fun W => implWhoQ e W)
 have HR := Shut.mk (edit_is e)
 have HN := Shut.mk (ec_new w e 28)
 generalize editOk e = R at *
 generalize pathQ e = q1 at *
 generalize destQ e = q2 at *
 generalize numQ e = q3 at *
 generalize whoQ e = q4 at *
 unfold inI at HR
 obtain ⟨kind, path, dest, num, who⟩ := e
 dsimp only at *
 clear hf
 go_enter Tryz.func35, Tryz.ntmps35
 go_wp2_with (first
  | (go_at_call 87; refine (H1.out _).mono ?_; rintro r w1 ⟨rfl, hb1⟩; obtain ⟨c0, c1, c2, c3, c4, hB⟩ := HN.out.below hb1; clear hb1; dsimp only at c0 c1 c2 c3 c4)
  | (go_at_call 88; refine (H2.out _).mono ?_; rintro r w1 ⟨rfl, hb1⟩; obtain ⟨c0, c1, c2, c3, c4, hB⟩ := EC.below (e := ⟨kind, path, dest, num, who⟩) ⟨c0, c1, c2, c3, c4, hB⟩ hb1; clear hb1; dsimp only at c0 c1 c2 c3 c4)
  | (go_at_call 89; refine (H3.out _).mono ?_; rintro r w1 ⟨rfl, hb1⟩; obtain ⟨c0, c1, c2, c3, c4, hB⟩ := EC.below (e := ⟨kind, path, dest, num, who⟩) ⟨c0, c1, c2, c3, c4, hB⟩ hb1; clear hb1; dsimp only at c0 c1 c2 c3 c4)
  | (go_at_call 90; refine (H4.out _).mono ?_; rintro r w1 ⟨rfl, hb1⟩; obtain ⟨c0, c1, c2, c3, c4, hB⟩ := EC.below (e := ⟨kind, path, dest, num, who⟩) ⟨c0, c1, c2, c3, c4, hB⟩ hb1; clear hb1; dsimp only at c0 c1 c2 c3 c4))
 all_goals
  go_ret
  refine ⟨by rw [HR.out]; first | (simp [*]; done) | (simp [*]; omega), ?_⟩
  first
   | exact hB.out
   | exact (Below.refl _ _).alloc (Nat.le_refl _) _
end Go.Proofs.YtakhagkhngmpaaaGreat
/- GrpS: . -/
namespace Go.Proofs.YtakhagkhngmpaaaGreat
set_option maxRecDepth 100000
open Go.RowKit
attribute [local go_sem ↓] Go.wp_at_zero Go.wp_at_succ
def IRow (V W : World) (v : Value) (m : Nat) (L : List Int) : Prop := m = L.length ∧ Below V.heap.size V W ∧ W.ownsRow V.heap.size 3 1 v m (ics L)
theorem IRow.below {V W W' : World} {v : Value} {m : Nat} {L : List Int} (h : IRow V W v m L) (hb : Below W.heap.size W W') : IRow V W' v m L := ⟨h.1, h.2.1.trans (hb.mono h.2.1.size), h.2.2.kept (row := none) ⟨hb.os, hb.tape, hb.output, hb.size, fun k hk _ => hb.block k hk⟩ (Classical.em _)⟩
theorem IRow.snoc {V W W' : World} {v v' : Value} {m : Nat} {L : List Int} {x : Int} {o : Obj} (h : IRow V W v m L) (ho : W'.ownsRow V.heap.size 3 1 v' (m + 1) (ics L ++ [.int .i64 x])) (hg : (W.alloc o).grownBy W' v.ownBlock) : IRow V W' v' (m + 1) (L ++ [x]) := by
 refine ⟨by rw [List.length_append, List.length_singleton, h.1], (h.2.1.alloc h.2.1.size _).grown hg (by have := h.2.1.size; simp; omega) (fun j hj => (h.2.2.lt j hj).1), ?_⟩
 rw [← ics_snoc9]
 exact ho
theorem IRow.fin {V W : World} {v : Value} {m : Nat} {L : List Int} (h : IRow V W v m L) : IPost L V (.returned v) W := ⟨v, rfl, own_ians h.1.symm h.2.2, h.2.1⟩
theorem IAns.wide {w : World} {v : Value} {xs : List Int} {lo hi hi' : Nat} (h : IAns w v xs lo hi) (hh : hi ≤ hi') : IAns w v xs lo hi' := by
 obtain ⟨a, c, e, q, r⟩ := h
 exact ⟨a, c, e, q, r.imp (fun e => e) (fun ⟨g, e1, e2, e3, e4⟩ => ⟨g, e1, e2, Nat.lt_of_lt_of_le e3 hh, e4⟩)⟩
theorem at_plc {T : TM} {i : Int} {k : Nat} (h : atI T.nodes i = (k : Int)) : plc T i = k := by unfold plc; rw [h]; rfl
end Go.Proofs.YtakhagkhngmpaaaGreat
/- GrpI: . -/
namespace Go.Proofs.YtakhagkhngmpaaaGreat
set_option maxRecDepth 100000
open Go.RowKit Go.Maps Go.Sort BigFrame
attribute [local go_sem ↓] Go.wp_at_zero Go.wp_at_succ
theorem sortI_any {w : World} {B : Nat} {v : Value} {zs : List Int} (h : w.ownsRow B 3 1 v zs.length (ics zs)) (hl : zs.length ≤ 1048576) :
  Calls Tryz.prog 79 #[v] w fun e w' => e = .returned (.tuple #[]) ∧ w'.ownsRow B 3 1 v zs.length (ics (zs.mergeSort fun x y => decide (x ≤ y))) ∧ Below B w w' := by
 rcases h.2 with ⟨rfl, h0⟩ | ⟨g, cap, cur, rfl, hbase, hb, h1, h2, h3, h4⟩
 ·have hL : zs = [] := List.eq_nil_of_length_eq_zero h0
  subst hL
  refine (Tryz.slices_Sort_int_none none 0 w).mono ?_
  rintro e w' ⟨rfl, rfl⟩
  exact ⟨rfl, by simpa using h, Below.refl _ _⟩
 ·have hH : Holds (Value.int .i64) w g 0 zs.toArray := holds_of_blockI hb (by simpa [ics] using h4)
  have hgl : g < w.heap.size := (Array.getElem?_eq_some_iff.1 hb).1
  refine (Tryz.slices_Sort_int g 0 cap zs w hH hgl (by omega)).mono ?_
  rintro e w' ⟨rfl, q, os, rfl⟩
  have hrow := ownsRow_sortedI (n := q) (os := os) (ts := zs.mergeSort fun x y => decide (x ≤ y)) (by simp) hbase hb h1 h2 h3
  have hgb := grownBy_sortedI (w := w) (g := g) (n := q) (os := os) (zs.mergeSort fun x y => decide (x ≤ y)).toArray
  exact ⟨rfl, hrow, (Below.refl _ _).grown hgb (by omega) (fun j hj => by cases hj; exact hbase)⟩
theorem compact_len (zs : List Int) : (Lib.compact zs).length ≤ zs.length := by
 unfold Lib.compact Lib.compactUpTo
 rw [List.length_map]
 exact Nat.le_trans (List.length_filter_le _ _) (by simp)
theorem compactI_any {w : World} {B : Nat} {v : Value} {zs : List Int} (h : w.ownsRow B 3 1 v zs.length (ics zs)) (hl : zs.length ≤ 1048576) :
  Calls Tryz.prog 80 #[v] w fun e w' => ∃ v', e = .returned v' ∧ IAns w' v' (Lib.compact zs) B w'.heap.size ∧ Below B w w' := by
 rcases h.2 with ⟨rfl, h0⟩ | ⟨g, cap, cur, rfl, hbase, hb, h1, h2, h3, h4⟩
 ·have hL : zs = [] := List.eq_nil_of_length_eq_zero h0
  subst hL
  refine (Tryz.slices_Compact_int_empty none 0 w).mono ?_
  rintro e w' ⟨rfl, rfl⟩
  exact ⟨_, rfl, IAns.empty _ _ _ _ _, Below.refl _ _⟩
 ·have hH : Holds (Value.int .i64) w g 0 zs.toArray := holds_of_blockI hb (by simpa [ics] using h4)
  have hgl : g < w.heap.size := (Array.getElem?_eq_some_iff.1 hb).1
  refine (Tryz.slices_Compact_int g 0 cap zs w hH (by omega) h1).mono ?_
  rintro e w' ⟨rfl, q, rfl⟩
  obtain ⟨ts, hts⟩ : ∃ ts, ts = Lib.compact zs ++ List.replicate (zs.length - (Lib.compact zs).length) (0 : Int) := ⟨_, rfl⟩
  have hcl := compact_len zs
  have htl : ts.length = zs.length := by rw [hts, List.length_append, List.length_replicate]; omega
  rw [← hts]
  have hrow := ownsRow_sortedI (n := q) (os := #[]) (ts := ts) htl hbase hb h1 h2 h3
  have hgb := grownBy_sortedI (w := w) (g := g) (n := q) (os := #[]) ts.toArray
  rw [grow_empty] at hrow hgb
  have hwc : WCells _ g (ics ts) := own_wcells hrow
  refine ⟨_, rfl, ⟨some ⟨g, 0, none⟩, cap, rfl, by omega, .inr ⟨g, rfl, hbase, hwc.1, hwc.1, fun i u hu => hwc.2 i u ?_⟩⟩, (Below.refl _ _).grown hgb (by omega) (fun j hj => by cases hj; exact hbase)⟩
  rw [hts]
  have hi : i < (ics (Lib.compact zs)).length := (List.getElem?_eq_some_iff.1 hu).1
  have e : ics (Lib.compact zs ++ List.replicate (zs.length - (Lib.compact zs).length) 0) = ics (Lib.compact zs) ++ ics (List.replicate (zs.length - (Lib.compact zs).length) 0) := by simp [ics]
  rw [e, List.getElem?_append_left hi]
  exact hu
theorem allG_take (ns : List NM) (X : List Int) (k : Nat) (h : k < ns.length) : allG (ns.take (k + 1)) X = allG (ns.take k) X ++ if X.contains ns[k].id = true then ns[k].pieces.map PM.group else [] := by
 unfold allG
 rw [List.take_succ_eq_append_getElem h, List.filter_append, List.flatMap_append]
 congr 1
 by_cases q : X.contains ns[k].id = true
 ·rw [List.filter_cons, if_pos q, if_pos q]; simp
 ·rw [List.filter_cons, if_neg q, if_neg q]; simp
theorem pm_take (ps : List PM) (k : Nat) (h : k < ps.length) : (ps.take (k + 1)).map PM.group = (ps.take k).map PM.group ++ [ps[k].group] := by
 rw [List.take_succ_eq_append_getElem h, List.map_append]
 rfl
theorem tree_plc {T : TM} (h : treeOk T = true) : ∀ n ∈ T.nodes, ndAt T (plc T n.id) = n := fun n hn => by
 have := tree_tall h
 obtain ⟨i, hi, rfl⟩ := List.getElem_of_mem hn
 have hf := this.1.fid hi
 have : atI T.nodes T.nodes[i].id = (i : Int) := by rw [at_fid, hf]
 rw [at_plc this, nd_mem hi]
theorem grp_end {T : TM} (id : Int) : Lib.compact ((allG T.nodes (belowX T id)).mergeSort fun x y => decide (x ≤ y)) = grpX T id := by
 by_cases h : treeOk T = true
 ·exact grp_prog (tree_plc h) id
 ·have e : belowX T id = [] := by unfold belowX; rw [if_neg (fun q => h q.1)]
  have e2 : allG T.nodes [] = [] := by unfold allG; rw [List.filter_eq_nil_iff.2 (by simp)]; rfl
  unfold grpX
  rw [e, e2]
  simp [grpL, Lib.compact, Lib.compactUpTo]
theorem allG_len {T : TM} (id : Int) : ∀ k, (allG (T.nodes.take k) (belowX T id)).length ≤ 40 * k := by
 intro k
 induction k with
 | zero => simp [allG]
 | succ k ih =>
  by_cases hk : k < T.nodes.length
  ·rw [allG_take _ _ _ hk, List.length_append]
   split
   ·rename_i q
    have hm : T.nodes[k].id ∈ belowX T id := by simpa using q
    have := (node_parts (belowX_mem hm).1 k hk).2.1
    rw [List.length_map]
    omega
   ·simp; omega
  ·rw [List.take_of_length_le (by omega)] at ih ⊢
   omega
attribute [local irreducible] treeOk belowX allG grpX
set_option maxHeartbeats 4000000 in
theorem implGroupsOf (w : World) (v : Value) (T : TM) (lo hi : Nat) (id : Int) (h : TSee w v T lo hi) (hf : NFit T) (hI : NInt T.nodes) : Calls Tryz.prog 24 #[v, .int .i64 id] w fun e w' => IPost (grpX T id) w e w' := by
 obtain ⟨t0, ht0, hty0, hty1, hty2⟩ := info_parts infoIntG
 have h' := h
 obtain ⟨a, cap, rs, rfl, hr, hm⟩ := h
 obtain ⟨n, hn⟩ : ∃ n, n = rs.length := ⟨_, rfl⟩
 obtain ⟨nx, hnx⟩ : ∃ nx, nx = T.next := ⟨_, rfl⟩
 rw [← hn, ← hnx] at h' ⊢
 have HBO := Shut.mk (fun W (hW : Below w.heap.size w W) => implBelowOf W _ T lo hi id (h'.below hW) hf hI)
 have HGE := Shut.mk (grp_end (T := T) id)
 have HGL := Shut.mk (allG_len (T := T) id)
 have hbl := belowX_len T id
 have hnl : n ≤ 1048576 := by unfold NFit at hf; rw [← hr, nds_len] at hf; omega
 have HPC := Shut.mk (fit_name hf)
 have HP40 : Shut (∀ j (hj : j < T.nodes.length), (belowX T id).contains T.nodes[j].id = true → T.nodes[j].pieces.length ≤ 40 ∧ T.nodes.length ≤ 14) := ⟨fun j hj q => by
  have hm : T.nodes[j].id ∈ belowX T id := by simpa using q
  exact ⟨(node_parts (belowX_mem hm).1 j hj).2.1, (tree_len (belowX_mem hm).1).2.1⟩⟩
 obtain ⟨R, hR⟩ : ∃ R, R = grpX T id := ⟨_, rfl⟩
 rw [← hR] at HGE ⊢
 obtain ⟨B, hB⟩ : ∃ B, B = belowX T id := ⟨_, rfl⟩
 rw [← hB] at HBO HGE HGL HP40 hbl
 unfold IPost at HBO
 have HLEN : Shut (n = T.nodes.length) := ⟨by rw [hn, ← hr, nds_len]⟩
 have HNODE : Shut (∀ j (hj : j < rs.length) (h2 : j < T.nodes.length), T.nodes[j] = rs[j].nd) := ⟨fun j hj hj2 => by
  have : (nds rs)[j]'(by rw [nds_len]; exact hj) = rs[j].nd := by simp [nds]
  rw [← this]
  congr 1
  exact hr.symm⟩
 have HTR := Shut.mk hm
 have HN := Shut.mk hn
 clear hm hr hn hnx h' hR hB hf hI
 go_enter Tryz.func24, Tryz.ntmps24
 go_upto_region 1 with fail
 obtain ⟨tb, htb⟩ : ∃ tb, tb = w.heap.size := ⟨_, rfl⟩
 refine wp_shade (fun W => MB w W [(tb, [.slice a n cap, .int .i64 nx])]) (by rw [htb]; exact (MB.nil w).new #[.slice a n cap, .int .i64 nx] 26) ?_
 intro W1 hW1
 have HM := Shut.mk hW1
 rw [← htb]
 have x0 := ((HM.out.at 0 rfl).1.2 0 _ rfl).1
 have x1 := ((HM.out.at 0 rfl).1.2 1 _ rfl).1
 clear hW1 htb
 go_upto_region 2 with (go_at_call 37; refine (HBO.out _ HM.out.bel).mono ?_; rintro e w2 ⟨bv, rfl, hba, hb2⟩; replace HM := Shut.mk (HM.out.below hb2); have HBV := Shut.mk hba; clear hb2 hba x0 x1)
 obtain ⟨ba9, bc, rfl, hcr⟩ := HBV.out.crow
 have HCR : Shut (∀ W, Below w2.heap.size w2 W → CRow W ba9 (ics B)) := ⟨fun W hb => hcr.stays hb⟩
 obtain ⟨bm, hbm⟩ : ∃ bm, bm = B.length := ⟨_, rfl⟩
 have HBM := Shut.mk hbm
 rw [← hbm] at hbl ⊢
 have HMW : Shut (Below w.heap.size w w2) := ⟨HM.out.bel⟩
 have x0 := ((HM.out.at 0 rfl).1.2 0 _ rfl).1
 clear hcr HBV hbm
 go_wp2_with fail
 go_loopw [6, 17] (fun ov iv wr => ∃ (k m : Nat) (vv : Value), vv = ov ∧ iv = .int .i64 k ∧ k ≤ n ∧ m ≤ 600 ∧ Shut (IRow w2 wr vv m (allG (T.nodes.take k) B))) (fun _ iv _ => n - (intOf iv).toNat)
 case atStart => exact ⟨0, 0, _, rfl, rfl, Nat.zero_le _, Nat.zero_le _, ⟨by rw [List.take_zero]; unfold allG; rfl, Below.refl _ _, by rw [List.take_zero]; unfold allG; exact World.ownsRow_nil w2 w2.heap.size 3 1⟩⟩
 case round =>
  clear x0
  obtain ⟨k, m, ov, rfl, rfl, hk, hm, HG⟩ := hrel
  obtain ⟨wo, rfl⟩ : ∃ wo, wo = wr := ⟨_, rfl⟩
  by_cases hlt : k < n
  case neg =>
   have k1 : ¬ (k : Int) < (n : Int) := by omega
   have hall : T.nodes.take k = T.nodes := List.take_of_length_le (by have := HLEN.out; omega)
   rw [hall] at HG
   obtain ⟨Z, hZ⟩ : ∃ Z, Z = allG T.nodes B := ⟨_, rfl⟩
   rw [← hZ] at HG HGE
   have ho := HG.out.2.2
   have hml := HG.out.1
   rw [hml] at ho
   have HSO := Shut.mk (sortI_any ho (by omega))
   have HBG := Shut.mk HG.out.2.1
   have HZL : Shut (Z.length ≤ 600) := ⟨by omega⟩
   clear hall hZ ho hml HG
   go_wp2_with (go_at_call 79; refine HSO.out.mono ?_; rintro e w5 ⟨rfl, ho5, hb5⟩; have HO5 := Shut.mk ho5; have HB5 : Shut (Below w2.heap.size w2 w5) := ⟨HBG.out.trans hb5⟩; clear ho5 hb5)
   have hls : (Z.mergeSort fun x y => decide (x ≤ y)).length = Z.length := by simp
   have HCO := Shut.mk (compactI_any (zs := Z.mergeSort fun x y => decide (x ≤ y)) (by rw [hls]; exact HO5.out) (by have := HZL.out; omega))
   clear hls
   go_wp2_with (go_at_call 80; refine HCO.out.mono ?_; rintro e w6 ⟨v6, rfl, hi6, hb6⟩; have HI6 := Shut.mk hi6; have HB6 : Shut (Below w2.heap.size w2 w6) := ⟨HB5.out.trans hb6⟩; clear hi6 hb6)
   go_ret
   refine ⟨v6, rfl, ?_, HMW.out.trans (HB6.out.mono HMW.out.size)⟩
   have h9 := HI6.out
   rw [HGE.out] at h9
   obtain ⟨a9, c9, e9, q1, q2⟩ := h9
   exact ⟨a9, c9, e9, q1, q2.imp (fun e => e) (fun ⟨g, e1, e2, e3, e4⟩ => ⟨g, e1, Nat.le_trans HMW.out.size e2, e3, e4⟩)⟩
  case pos =>
  have hkr : k < rs.length := by have := HN.out; omega
  have hkT : k < T.nodes.length := by have := HLEN.out; omega
  have k0 : (0 : Int) ≤ (k : Int) := by omega
  have k1 : (k : Int) < (n : Int) := by omega
  obtain ⟨b, off, rfl, lb, hnat⟩ := HTR.out.nat (by omega)
  have hBw : Below w.heap.size w wo := HMW.out.trans (HG.out.2.1.mono HMW.out.size)
  have hnk := (hnat k hkr).below hBw lb
  have hst := allG_take T.nodes B k hkT
  have hp40 := HP40.out k hkT
  have hpsz := (HPC.out T.nodes[k] (List.getElem_mem hkT)).2
  rw [HNODE.out k hkr hkT] at hst hp40 hpsz
  have HPR := Shut.mk (HTR.out.2 _ (List.getElem_mem hkr))
  have hgl := HGL.out k
  rw [← HG.out.1] at hgl
  obtain ⟨r, hrk⟩ : ∃ r, r = rs[k] := ⟨_, rfl⟩
  rw [← hrk] at hnk hst hp40 hpsz HPR
  obtain ⟨c0, c1, c2, c3, c4, c5, c6, c7, c8⟩ := hnk
  have lbo : b < wo.heap.size := Nat.lt_of_lt_of_le lb hBw.size
  have HST := Shut.mk hst
  have HBW := Shut.mk hBw
  have HP4 := Shut.mk hp40
  clear hrk hst hnat hBw hp40
  go_upto_region 6 with fail
  obtain ⟨xb, hxb⟩ : ∃ xb, xb = wo.heap.size := ⟨_, rfl⟩
  refine wp_shade (fun W => Below wo.heap.size wo W ∧ WCells W xb (ncells r)) ⟨(Below.refl _ _).alloc (Nat.le_refl _) _, by rw [hxb]; exact wcells_new wo #[.int .i64 r.nd.id, .int .i64 r.nd.parent, .string r.nd.name, .bool r.nd.dir, .int .i64 r.nd.schema, .int .i64 r.nd.quota, .int .i64 r.nd.len, .slice r.loc r.nd.pieces.length r.cap, .int .i64 r.nd.writer] 47⟩ ?_
  rintro W3 ⟨hb3, hx3⟩
  rw [← hxb]
  have HG3 := Shut.mk (HG.out.below hb3)
  have HX3 := Shut.mk hx3
  have HB3 : Shut (Below w.heap.size w W3) := ⟨HBW.out.trans (hb3.mono HBW.out.size)⟩
  have y0 := (hx3.2 0 _ rfl).1
  have HCO := Shut.mk (implContains bc r.nd.id (HCR.out W3 HG3.out.2.1) (by have := HBM.out; omega))
  rw [← HBM.out] at HCO
  clear hb3 hx3 hxb HG HBW c0 c1 c2 c3 c4 c5 c6 c7 c8
  cases hco : B.contains r.nd.id with
  | false =>
   rw [hco] at HCO HST
   have HS' : Shut (allG (T.nodes.take (k + 1)) B = allG (T.nodes.take k) B) := ⟨by rw [HST.out]; simp⟩
   clear hco
   go_wp2_with (go_at_call 78; refine HCO.out.mono ?_; rintro e w4 ⟨rfl, hw4⟩; obtain rfl : W3 = w4 := hw4.symm; clear hw4)
   go_roundw
   case rel => exact ⟨k + 1, m, ov, rfl, by go_num, by omega, by omega, ⟨by rw [HS'.out]; exact HG3.out⟩⟩
   case measure => simp [intOf]; omega
  | true =>
   rw [hco] at HCO HST
   obtain ⟨hpl40, hn14⟩ := HP4.out hco
   have hn14' : n ≤ 14 := by have := HLEN.out; omega
   have y7 := (HX3.out.2 7 _ rfl).1
   obtain ⟨pl, hpl⟩ : ∃ pl, pl = r.nd.pieces.length := ⟨_, rfl⟩
   have HPL := Shut.mk hpl
   rw [← hpl] at y7 hpl40
   clear hco hpl
   go_wp2_with (go_at_call 78; refine HCO.out.mono ?_; rintro e w4 ⟨rfl, hw4⟩; obtain rfl : W3 = w4 := hw4.symm; clear hw4)
   go_loopw [6, 29] (fun ov iv wr => ∃ (j m' : Nat) (vv : Value), vv = ov ∧ iv = .int .i64 j ∧ j ≤ pl ∧ m' ≤ 40 * k + j ∧ Shut (IRow w2 wr vv m' (allG (T.nodes.take k) B ++ (r.nd.pieces.take j).map PM.group))) (fun _ iv _ => pl - (intOf iv).toNat)
   case atStart => exact ⟨0, m, ov, rfl, rfl, Nat.zero_le _, by omega, ⟨by rw [List.take_zero, List.map_nil, List.append_nil]; exact HG3.out⟩⟩
   case round =>
    obtain ⟨j, m', ov', rfl, rfl, hj, hm', HG'⟩ := hrel
    obtain ⟨wi, rfl⟩ : ∃ wi, wi = wr := ⟨_, rfl⟩
    by_cases hjl : j < pl
    case pos =>
     have hjp : j < r.nd.pieces.length := by have := HPL.out; omega
     have j0 : (0 : Int) ≤ (j : Int) := by omega
     have j1 : (j : Int) < (pl : Int) := by omega
     have hB5 : Below w.heap.size w wi := HMW.out.trans (HG'.out.2.1.mono HMW.out.size)
     obtain ⟨pb, poff, hloc, lpb, hpc⟩ := pcs_at (HPR.out.below hB5) (by omega)
     obtain ⟨z0, z1⟩ := hpc j hjp
     have hst := pm_take r.nd.pieces j hjp
     obtain ⟨q, hq⟩ : ∃ q, q = r.nd.pieces[j] := ⟨_, rfl⟩
     rw [← hq] at z0 z1 hst
     have HS' : Shut (allG (T.nodes.take k) B ++ (r.nd.pieces.take (j + 1)).map PM.group = (allG (T.nodes.take k) B ++ (r.nd.pieces.take j).map PM.group) ++ [q.group]) := ⟨by rw [hst, List.append_assoc]⟩
     obtain ⟨Z, hZ⟩ : ∃ Z, Z = allG (T.nodes.take k) B ++ (r.nd.pieces.take j).map PM.group := ⟨_, rfl⟩
     rw [← hZ] at HG' HS'
     rw [hloc]
     obtain ⟨⟨qg, ql⟩, rfl⟩ : ∃ q', q' = q := ⟨q, rfl⟩
     dsimp only at z0 z1 HS'
     clear hpc hq hst hB5 hZ hloc
     go_upto_region 10 with fail
     obtain ⟨qb, hqb⟩ : ∃ qb, qb = wi.heap.size := ⟨_, rfl⟩
     refine wp_shade (fun W => Below wi.heap.size wi W ∧ WCells W qb [.int .i64 qg, .int .i64 ql]) ⟨(Below.refl _ _).alloc (Nat.le_refl _) _, by rw [hqb]; exact wcells_new wi #[.int .i64 qg, .int .i64 ql] 99⟩ ?_
     rintro W6 ⟨hb6, hq6⟩
     rw [← hqb]
     have HG6 := Shut.mk (HG'.out.below hb6)
     have u0 := (hq6.2 0 _ rfl).1
     have ho := HG6.out.2.2
     have hsz : w2.heap.size ≤ W6.heap.size := HG6.out.2.1.size
     clear hb6 hq6 hqb HG' z0 z1
     go_wp2_with (at_builtin; refine wpList_append_own _ rfl _ _ 37 rfl w2.heap.size 3 t0 (.int .i64 0) 1 8 Tryz.underlying37 ht0 hty0 hty1 hty2 rfl (by decide) _ _ _ rfl (ho.alloc _) ⟨W6.heap.size, 0, none⟩ 1 1 [.int .i64 qg] rfl rfl (cell_one_new _ _ _) ?c2 ?c3 ?c4 ?c5 ?_)
     case c2 => first | rfl | (intro u hu; simp at hu; subst hu; rfl)
     case c3 => unfold maxLen; omega
     case c4 => omega
     case c5 => first | omega | (simp; omega)
     intro v' w10 ho10 hgrow _
     have HG2 := Shut.mk (HG6.out.snoc ho10 hgrow)
     rw [← HS'.out] at HG2
     clear ho ho10 hgrow
     go_wp2_with fail
     go_roundw
     case rel => exact ⟨j + 1, m' + 1, v', rfl, by go_num, by omega, by omega, HG2⟩
     case measure => simp [intOf]; omega
    case neg =>
     have j1 : ¬ (j : Int) < (pl : Int) := by omega
     have hall : r.nd.pieces.take j = r.nd.pieces := List.take_of_length_le (by have := HPL.out; omega)
     rw [hall] at HG'
     have HS' : Shut (allG (T.nodes.take (k + 1)) B = allG (T.nodes.take k) B ++ r.nd.pieces.map PM.group) := ⟨by rw [HST.out]; simp⟩
     clear hall
     go_wp2_with fail
     go_roundw
     case rel => exact ⟨k + 1, m', ov', rfl, by go_num, by omega, by omega, ⟨by rw [HS'.out]; exact HG'.out⟩⟩
     case measure => simp [intOf]; omega
end Go.Proofs.YtakhagkhngmpaaaGreat
