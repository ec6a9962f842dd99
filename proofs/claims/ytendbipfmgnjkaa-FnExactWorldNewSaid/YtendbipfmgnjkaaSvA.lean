/- Servers in the laws: two that are the same; sizes; copies (written by gen/mksva.py). -/
import Derived.Test.YtendbipfmgnjkaaTreF
import Derived.Test.YtendbipfmgnjkaaTreB
import Derived.Test.YtendbipfmgnjkaaTreE
import Derived.Test.YtendbipfmgnjkaaDiskB
import Derived.Test.YtendbipfmgnjkaaLsA
import Derived.Test.YtendbipfmgnjkaaSlA
namespace Go.Proofs.Ytendbipfmgnjkaa
set_option maxRecDepth 100000
open Go.RowKit BigFrame
attribute [local go_sem ↓] Go.wp_at_zero Go.wp_at_succ

theorem SL.join {w0 W W' : World} {S S2 : List Str} (h : SL w0 W S) (k : SL W W' S2) : SL w0 W' (S2 ++ S) := by
  have j := h.below k.bel
  refine ⟨j.bel, fun s hs => ?_, List.pairwise_append.2 ⟨k.apart, h.apart, fun s hs t ht => .inr (Nat.le_trans (h.is t ht).2.2.2 (k.is s hs).2.2.1)⟩⟩
  rcases List.mem_append.1 hs with q | q
  · obtain ⟨a, b, c, d⟩ := k.is s q
    exact ⟨a, b, Nat.le_trans h.bel.size c, d⟩
  · exact j.is s q
/-- Stretches, as a fact on worlds. -/
abbrev SL.p (w0 : World) (S : List Str) (W : World) : Prop := SL w0 W S
/-- A server. -/
structure SvM where
  up : Bool
  tree : TM
  groups : Int
  disk : List FM
  leases : List LsM
  now : Int
/-- A server's parts, in memory. -/
structure SvAt (w : World) (S : SvM) (tv : Value) (da la : Option Addr) (lo hi : Nat) : Prop where
  tr : TSee w tv S.tree lo hi
  ds : FRow w da S.disk
  ls : LsRow w la S.leases
theorem SvAt.below {w w' : World} {S : SvM} {tv : Value} {da la : Option Addr} {lo hi : Nat} (h : SvAt w S tv da la lo hi) (hb : Below w.heap.size w w') : SvAt w' S tv da la lo hi := ⟨h.tr.below hb, h.ds.stays hb, h.ls.stays hb⟩
structure SvFit (S : SvM) : Prop where
  tr : NFit S.tree
  ds : S.disk.length ≤ 1048576
  ls : S.leases.length ≤ 1048576
set_option maxHeartbeats 2000000 in
set_option maxRecDepth 100000 in
theorem eqServer_same {w : World} {S : SvM} {ca ca' da da' la la' : Option Addr} {cm cm' cc cc' dc dc' lc lc' lo hi lo' hi' dn ln : Nat} {nx gr now : Int} {up : Bool} (h : SvAt w S (.agg #[.slice ca cm cc, .int .i64 nx]) da la lo hi) (k : SvAt w S (.agg #[.slice ca' cm' cc', .int .i64 nx]) da' la' lo' hi') (hf : SvFit S) (hd : dn = S.disk.length) (hl : ln = S.leases.length) :
    Calls Try.prog 33 #[.agg #[.bool up, .slice ca cm cc, .int .i64 nx, .int .i64 gr, .slice da dn dc, .slice la ln lc, .int .i64 now], .agg #[.bool up, .slice ca' cm' cc', .int .i64 nx, .int .i64 gr, .slice da' dn dc', .slice la' ln lc', .int .i64 now]] w fun e w' => e = .returned (.bool true) ∧ Below w.heap.size w w' := by
  have HT := Shut.mk (fun (W : World) (hb : Below w.heap.size w W) => eqTree_val (h.tr.below hb) (k.tr.below hb) hf.tr)
  have HD := Shut.mk (fun (W : World) (hb : Below w.heap.size w W) => eqDisk_same da da' S.disk dc dc' W (h.ds.stays hb) (k.ds.stays hb) hf.ds)
  have HL := Shut.mk (fun (W : World) (hb : Below w.heap.size w W) => eqLeaseS_same la la' S.leases lc lc' W (h.ls.stays hb) (k.ls.stays hb) (by have := hf.ls; omega))
  rw [← hd] at HD
  rw [← hl] at HL
  have hup : (up != up) = false := by simp
  clear h k hf hd hl
  have HS := Shut.mk (((SL.start w).new #[.bool up, .slice ca cm cc, .int .i64 nx, .int .i64 gr, .slice da dn dc, .slice la ln lc, .int .i64 now] 43).new #[.bool up, .slice ca' cm' cc', .int .i64 nx, .int .i64 gr, .slice da' dn dc', .slice la' ln lc', .int .i64 now] 43)
  simp only [World.size_alloc] at HS
  obtain ⟨b1, hb1⟩ : ∃ q, q = w.heap.size := ⟨_, rfl⟩
  go_enter Try.func33, Try.ntmps33
  go_upto_region 1 with fail
  rw [← hb1] at HS
  refine wp_shade (SL.p w _) HS.out ?_
  rw [← hb1]
  intro W0 hS0
  have H := Shut.mk hS0
  clear hS0 HS hb1
  have x0 := (H.out.bx 1 rfl 0 _ rfl).1
  have y0 := (H.out.bx 0 rfl 0 _ rfl).1
  have x1 := (H.out.bx 1 rfl 1 _ rfl).1
  have y1 := (H.out.bx 0 rfl 1 _ rfl).1
  have x2 := (H.out.bx 1 rfl 2 _ rfl).1
  have y2 := (H.out.bx 0 rfl 2 _ rfl).1
  have x3 := (H.out.bx 1 rfl 3 _ rfl).1
  have y3 := (H.out.bx 0 rfl 3 _ rfl).1
  have x4 := (H.out.bx 1 rfl 4 _ rfl).1
  have y4 := (H.out.bx 0 rfl 4 _ rfl).1
  have x5 := (H.out.bx 1 rfl 5 _ rfl).1
  have y5 := (H.out.bx 0 rfl 5 _ rfl).1
  have x6 := (H.out.bx 1 rfl 6 _ rfl).1
  have y6 := (H.out.bx 0 rfl 6 _ rfl).1
  go_wp2_with fail
  refine (HT.out _ H.out.bel).mono ?_
  rintro e wHT ⟨rfl, hb⟩
  replace H := Shut.mk (H.out.below hb)
  clear hb x0 y0 x1 y1 x2 y2 x3 y3 x4 y4 x5 y5 x6 y6
  have x0 := (H.out.bx 1 rfl 0 _ rfl).1
  have y0 := (H.out.bx 0 rfl 0 _ rfl).1
  have x1 := (H.out.bx 1 rfl 1 _ rfl).1
  have y1 := (H.out.bx 0 rfl 1 _ rfl).1
  have x2 := (H.out.bx 1 rfl 2 _ rfl).1
  have y2 := (H.out.bx 0 rfl 2 _ rfl).1
  have x3 := (H.out.bx 1 rfl 3 _ rfl).1
  have y3 := (H.out.bx 0 rfl 3 _ rfl).1
  have x4 := (H.out.bx 1 rfl 4 _ rfl).1
  have y4 := (H.out.bx 0 rfl 4 _ rfl).1
  have x5 := (H.out.bx 1 rfl 5 _ rfl).1
  have y5 := (H.out.bx 0 rfl 5 _ rfl).1
  have x6 := (H.out.bx 1 rfl 6 _ rfl).1
  have y6 := (H.out.bx 0 rfl 6 _ rfl).1
  go_wp2_with fail
  refine (HD.out _ H.out.bel).mono ?_
  rintro e wHD ⟨rfl, hb⟩
  replace H := Shut.mk (H.out.below hb)
  clear hb x0 y0 x1 y1 x2 y2 x3 y3 x4 y4 x5 y5 x6 y6
  have x0 := (H.out.bx 1 rfl 0 _ rfl).1
  have y0 := (H.out.bx 0 rfl 0 _ rfl).1
  have x1 := (H.out.bx 1 rfl 1 _ rfl).1
  have y1 := (H.out.bx 0 rfl 1 _ rfl).1
  have x2 := (H.out.bx 1 rfl 2 _ rfl).1
  have y2 := (H.out.bx 0 rfl 2 _ rfl).1
  have x3 := (H.out.bx 1 rfl 3 _ rfl).1
  have y3 := (H.out.bx 0 rfl 3 _ rfl).1
  have x4 := (H.out.bx 1 rfl 4 _ rfl).1
  have y4 := (H.out.bx 0 rfl 4 _ rfl).1
  have x5 := (H.out.bx 1 rfl 5 _ rfl).1
  have y5 := (H.out.bx 0 rfl 5 _ rfl).1
  have x6 := (H.out.bx 1 rfl 6 _ rfl).1
  have y6 := (H.out.bx 0 rfl 6 _ rfl).1
  go_wp2_with fail
  refine (HL.out _ H.out.bel).mono ?_
  rintro e wHL ⟨rfl, hb⟩
  replace H := Shut.mk (H.out.below hb)
  clear hb x0 y0 x1 y1 x2 y2 x3 y3 x4 y4 x5 y5 x6 y6
  have x0 := (H.out.bx 1 rfl 0 _ rfl).1
  have y0 := (H.out.bx 0 rfl 0 _ rfl).1
  have x1 := (H.out.bx 1 rfl 1 _ rfl).1
  have y1 := (H.out.bx 0 rfl 1 _ rfl).1
  have x2 := (H.out.bx 1 rfl 2 _ rfl).1
  have y2 := (H.out.bx 0 rfl 2 _ rfl).1
  have x3 := (H.out.bx 1 rfl 3 _ rfl).1
  have y3 := (H.out.bx 0 rfl 3 _ rfl).1
  have x4 := (H.out.bx 1 rfl 4 _ rfl).1
  have y4 := (H.out.bx 0 rfl 4 _ rfl).1
  have x5 := (H.out.bx 1 rfl 5 _ rfl).1
  have y5 := (H.out.bx 0 rfl 5 _ rfl).1
  have x6 := (H.out.bx 1 rfl 6 _ rfl).1
  have y6 := (H.out.bx 0 rfl 6 _ rfl).1
  go_wp2_with fail
  go_ret
  exact ⟨rfl, H.out.bel⟩
theorem szT9 {left : Int} {n : Nat} {w w' : World} {e : Ending} (h : SzT left n w e w') : ∃ r : Int, e = .returned (.int .i64 r) ∧ -1 ≤ r ∧ (0 ≤ r → r + n = left) ∧ Below w.heap.size w w' := h
/-- A server that was answered. -/
def SvTo (S : SvM) (up : Bool) (nx gr now : Int) (dn ln : Nat) (w : World) (e : Ending) (w' : World) : Prop := ∃ (ca da la : Option Addr) (cm cc dc lc lo hi : Nat), e = .returned (.agg #[.bool up, .slice ca cm cc, .int .i64 nx, .int .i64 gr, .slice da dn dc, .slice la ln lc, .int .i64 now]) ∧ SvAt w' S (.agg #[.slice ca cm cc, .int .i64 nx]) da la lo hi ∧ Below w.heap.size w w'
/-- The same, told by stretches. -/
def SvTs (S : SvM) (up : Bool) (nx gr now : Int) (dn ln : Nat) (w : World) (e : Ending) (w' : World) : Prop := ∃ (ca da la : Option Addr) (cm cc dc lc l1 h1 l2 h2 l3 h3 : Nat), e = .returned (.agg #[.bool up, .slice ca cm cc, .int .i64 nx, .int .i64 gr, .slice da dn dc, .slice la ln lc, .int .i64 now]) ∧ SL w w' [rwS la (lsS S.leases) l3 h3, rwS da (fcs S.disk) l2 h2, trS (.agg #[.slice ca cm cc, .int .i64 nx]) S.tree l1 h1] ∧ dn ≤ dc ∧ ln ≤ lc
end Go.Proofs.Ytendbipfmgnjkaa
