/- Copies of rows of nodes, and of trees. -/
import Derived.Test.YtfceohoegeebjaaTreC
namespace Go.Proofs.Ytfceohoegeebjaa
open Go.RowKit
attribute [local go_sem ↓] Go.wp_at_zero Go.wp_at_succ

theorem infoNode : (Try.prog.info? 30).map (fun i => (i.zero, i.size, i.bytes)) = some (some (.agg #[.int .i64 0, .int .i64 0, .string ⟨#[]⟩, .bool false, .int .i64 0, .int .i64 0, .int .i64 0, .slice none 0 0, .int .i64 0]), 9, 96) := by kernel_rfl
theorem pcs_ne {ps : List PM} (h : ps ≠ []) : pcs ps ≠ [] := fun e => h (pcs_nil.1 e)
/-- A node that was copied takes its place. -/
theorem TW.copy {wr w2 : World} {g g' : Nat} {gs : List NR} {B : Nat} (h : TW wr g gs B wr.heap.size) (hb : Below wr.heap.size wr w2) (j : Nat) (hj : j < gs.length) (nd : NM) (hg : wr.heap.size ≤ g') (hw : WCells w2 g' (pcs nd.pieces)) (hB : B ≤ wr.heap.size) :
    TW (setW w2 g (j * 9) (ncells ⟨nd, some ⟨g', 0, none⟩, nd.pieces.length⟩)) g (gs.set j ⟨nd, some ⟨g', 0, none⟩, nd.pieces.length⟩) B w2.heap.size := by
  refine GW.put (K := NKind) ((h.below hb).wide (Nat.le_refl _) hb.size) j hj ⟨nd, some ⟨g', 0, none⟩, nd.pieces.length⟩ ?_ ?_
  · exact .inr ⟨g', rfl, by omega, hw.1, by have := h.out.1; omega, hw⟩
  · intro s hs h1 _ e
    rcases h.rows s hs with q | ⟨b, e2, _, q2, _, _⟩
    · exact h1 q
    · have : b = g' := congrArg Addr.block (Option.some.inj (e2.symm.trans e))
      omega
theorem setW_size (w : World) (g off : Nat) (vs : List Value) : (setW w g off vs).heap.size = w.heap.size := by
  induction vs generalizing w off with
  | nil => rfl
  | cons v vs ih => show (setW _ g (off + 1) vs).heap.size = _; rw [ih]; simp [World.setCell]
theorem setW9 (w : World) (g o : Nat) (v0 v1 v2 v3 v4 v5 v6 v7 v8 : Value) : setW w g o [v0, v1, v2, v3, v4, v5, v6, v7, v8] = ((((((((w.setCell ⟨g, o, none⟩ v0).setCell ⟨g, o + 1, none⟩ v1).setCell ⟨g, o + 2, none⟩ v2).setCell ⟨g, o + 3, none⟩ v3).setCell ⟨g, o + 4, none⟩ v4).setCell ⟨g, o + 5, none⟩ v5).setCell ⟨g, o + 6, none⟩ v6).setCell ⟨g, o + 7, none⟩ v7).setCell ⟨g, o + 8, none⟩ v8 := rfl
/-- A copy of a row of nodes. -/
def ToNodes (rs : List NR) (w : World) (e : Ending) (w' : World) : Prop := ∃ g ts, e = .returned (.slice (some ⟨g, 0, none⟩) ts.length ts.length) ∧ nds ts = nds rs ∧ TW w' g ts w.heap.size w'.heap.size ∧ Below w.heap.size w w'
set_option maxRecDepth 100000 in
set_option maxHeartbeats 4000000 in
theorem toInodeS_any (a : Option Addr) (rs : List NR) (cap : Nat) (w : World) (lo hi : Nat) (hm : TR w a rs lo hi) (hl : rs.length ≤ 1048576) (hp : ∀ r ∈ rs, r.nd.pieces.length ≤ 1048576) :
    Calls Try.prog 58 #[.slice a rs.length cap] w fun e w' => ToNodes rs w e w' := by
  obtain ⟨i0, hi, hz0, hz1, hz2⟩ := info_parts infoNode
  have HR := Shut.mk (And.intro hm hp)
  obtain ⟨n, hn⟩ : ∃ n, n = rs.length := ⟨_, rfl⟩
  have HN := Shut.mk hn
  rw [← hn] at hl ⊢
  clear hm hp hn
  go_enter Try.func58, Try.ntmps58
  go_wp2_with (at_make; refine wpList_make_full _ rfl _ _ 24 rfl w.heap.size 30 i0 _ 9 Try.underlying24 hi hz0 hz1 .i64 .i64 _ _ n rfl rfl (by omega) (by omega) ?b2 ?b3 ?b4 ?_)
  case b2 => rw [hz2]; omega
  case b3 => unfold maxLen; omega
  case b4 => omega
  intro wm hownm hgrm
  have hbm : Below w.heap.size w wm := (Below.refl _ _).grown hgrm (Nat.le_refl _) (fun j hj => by simp at hj)
  have hrow : WCells wm w.heap.size (ncs (List.replicate n default)) := by
    have h := own_wcells hownm
    have e : (madeCells #[.int .i64 0, .int .i64 0, .string ⟨#[]⟩, .bool false, .int .i64 0, .int .i64 0, .int .i64 0, .slice none 0 0, .int .i64 0] (n * 9)).toList = ncs (List.replicate n default) := made_flat ncells_len (by decide) #[.int .i64 0, .int .i64 0, .string ⟨#[]⟩, .bool false, .int .i64 0, .int .i64 0, .int .i64 0, .slice none 0 0, .int .i64 0] default rfl _
    rw [e] at h; exact h
  have HTW : Shut (TW wm w.heap.size (List.replicate n default) w.heap.size wm.heap.size) := ⟨⟨hrow, Nat.le_refl _, hrow.1, fun r hr => .inl (by rw [List.eq_of_mem_replicate hr]; rfl), List.pairwise_iff_getElem.2 (fun i j hi hj _ h1 => absurd (by simp only [List.getElem_replicate]; rfl) h1)⟩⟩
  have HBM := Shut.mk hbm
  clear hownm hgrm hrow hbm
  go_wp2_with fail
  go_loopw [4] (fun i wr => ∃ (k : Nat) (gs : List NR), i = .int .i64 k ∧ k ≤ n ∧ Shut (gs.length = n ∧ nds (gs.take k) = nds (rs.take k)) ∧ Shut (TW wr w.heap.size gs w.heap.size wr.heap.size) ∧ Shut (Below w.heap.size w wr)) (fun i _ => n - (intOf i).toNat)
  case atStart => exact ⟨0, _, rfl, by omega, ⟨by simp, by simp⟩, HTW, HBM⟩
  case round =>
    clear HTW HBM
    obtain ⟨k, gs, rfl, hk, HG, hw, hb⟩ := hrel
    by_cases hlt : k < n
    · have hlr : k < rs.length := by have := HN.out; omega
      obtain ⟨b, off, rfl, hbl, hc⟩ := TR.nat (HR.out.1.below hb.out) (by omega)
      obtain ⟨d0, d1, d2, d3, d4, d5, d6, d7, d8⟩ := hc k hlr
      have HPR := Shut.mk (((HR.out.1.below hb.out).2 rs[k] (List.getElem_mem hlr)))
      have HPL := Shut.mk (HR.out.2 rs[k] (List.getElem_mem hlr))
      obtain ⟨r, hre⟩ : ∃ r, r = rs[k] := ⟨_, rfl⟩
      rw [← hre] at d0 d1 d2 d3 d4 d5 d6 d7 d8 HPR HPL
      have HRE := Shut.mk hre
      have k0 : (0 : Int) ≤ (k : Int) := by omega
      have k1 : (k : Int) < (n : Int) := by omega
      clear hc hre
      go_wp2_with fail
      refine (toInode_any r _ _ _ HPR.out HPL.out).mono ?_
      rintro e w2 ⟨g', rfl, hg', hw', hb2⟩
      have hgk : k < gs.length := by have := HG.out.1; omega
      have HC := Shut.mk ((hw.out.copy hb2 k hgk r.nd hg' hw' hb.out.size).wide (Nat.le_refl _) (Nat.le_of_eq (setW_size w2 w.heap.size (k * 9) (ncells ⟨r.nd, some ⟨g', 0, none⟩, r.nd.pieces.length⟩)).symm))
      have HWO := Shut.mk (hw.out.out.below hb2 hw.out.out.1)
      have HB3 := Shut.mk (below_setW (hb.out.trans (hb2.mono hb.out.size)) (Nat.le_refl _) (k * 9) (ncells ⟨r.nd, some ⟨g', 0, none⟩, r.nd.pieces.length⟩))
      unfold ncells at HC HB3
      dsimp only at HC HB3
      rw [setW9] at HC HB3
      clear hw hb hb2 hw' d0 d1 d2 d3 d4 d5 d6 d7 d8 HPR HPL
      obtain ⟨c0, z0⟩ := HWO.out.2 (k * 9) _ (flat_get ncells_len gs k hgk 0 (by omega))
      obtain ⟨c1, z1⟩ := HWO.out.2 (k * 9 + 1) _ (flat_get ncells_len gs k hgk 1 (by omega))
      obtain ⟨c2, z2⟩ := HWO.out.2 (k * 9 + 2) _ (flat_get ncells_len gs k hgk 2 (by omega))
      obtain ⟨c3, z3⟩ := HWO.out.2 (k * 9 + 3) _ (flat_get ncells_len gs k hgk 3 (by omega))
      obtain ⟨c4, z4⟩ := HWO.out.2 (k * 9 + 4) _ (flat_get ncells_len gs k hgk 4 (by omega))
      obtain ⟨c5, z5⟩ := HWO.out.2 (k * 9 + 5) _ (flat_get ncells_len gs k hgk 5 (by omega))
      obtain ⟨c6, z6⟩ := HWO.out.2 (k * 9 + 6) _ (flat_get ncells_len gs k hgk 6 (by omega))
      obtain ⟨c7, z7⟩ := HWO.out.2 (k * 9 + 7) _ (flat_get ncells_len gs k hgk 7 (by omega))
      obtain ⟨c8, z8⟩ := HWO.out.2 (k * 9 + 8) _ (flat_get ncells_len gs k hgk 8 (by omega))
      clear HWO
      go_wp2_with fail
      go_roundw
      case rel =>
        refine ⟨k + 1, gs.set k ⟨r.nd, some ⟨g', 0, none⟩, r.nd.pieces.length⟩, by go_num, by omega, ⟨by rw [List.length_set]; exact HG.out.1, ?_⟩, HC, HB3⟩
        rw [List.take_succ_eq_append_getElem (by rw [List.length_set]; exact hgk), List.take_succ_eq_append_getElem hlr, List.take_set_of_le (Nat.le_refl _), nds_snoc, nds_snoc, HG.out.2, List.getElem_set_self, ← HRE.out]
      case measure => simp [intOf]; omega
    · have e : nds gs = nds rs := by
        have h := HG.out.2
        rw [List.take_of_length_le (by have := HG.out.1; omega), List.take_of_length_le (by have := HN.out; omega)] at h; exact h
      have HE := Shut.mk e
      have HGL := Shut.mk HG.out.1
      clear e HG
      go_wp2_with fail
      go_ret
      exact ⟨w.heap.size, gs, by rw [HGL.out]; rfl, HE.out, hw.out, hb.out⟩
end Go.Proofs.Ytfceohoegeebjaa
