/- Texts of ours, laid one behind the other: TreI, SlA, SvA, TreL, DiskN, DiskC, DiskP, LsAm, LawTrn, SvN, SchZ. -/
import Derived.Test.YtendbipfmgnjkaaPw2
import Derived.BigQuiet
import Derived.Deep.QuietTactic
import Derived.Deep.RegionHeld3
/- TreI: Marks that are found again in trees; marks over trees as values. -/
namespace Go.Proofs.Ytendbipfmgnjkaa
set_option maxRecDepth 100000
open Go.RowKit
attribute [local go_sem ↓] Go.wp_at_zero Go.wp_at_succ

set_option maxHeartbeats 1000000 in
theorem heldPieceS_any (a : Option Addr) (k n ca : Nat) (w : World) (lo hi : Nat) (ha : RRow w a (pcs (markPs k n)) lo hi) (hn : k + 2 * n ≤ 1000000000) :
    Calls Try.prog 98 #[.slice a n ca, .int .i64 k] w fun e w' => e = .returned (.int .i64 (k + 2 * n : Nat)) ∧ Below w.heap.size w w' := by
  have HA := Shut.mk ha
  clear ha
  go_enter Try.func98, Try.ntmps98
  go_wp2_with fail
  go_loopw [1, 5] (fun c i wr => ∃ (j cc : Nat), i = .int .i64 j ∧ c = .int .i64 cc ∧ cc ≤ 1000000000 ∧ j ≤ n ∧ Shut (cc = k + 2 * j) ∧ Shut (Below w.heap.size w wr)) (fun _ i _ => n - (intOf i).toNat)
  case atStart => exact ⟨0, k, rfl, rfl, by omega, Nat.zero_le _, ⟨rfl⟩, ⟨Below.refl _ _⟩⟩
  case round =>
    obtain ⟨j, c, rfl, rfl, hc9, hj, HC, hb⟩ := hrel
    by_cases hlt : j < n
    · have j0 : (0 : Int) ≤ (j : Int) := by omega
      have j1 : (j : Int) < (n : Int) := by omega
      obtain ⟨b, off, rfl, lb, hcell⟩ := pcs_at (HA.out.below hb.out) (by rw [markPs_len]; omega)
      obtain ⟨d0, d1⟩ := hcell j (by rw [markPs_len]; exact hlt)
      rw [markPs_at k n j hlt] at d0 d1
      obtain ⟨c1, e1⟩ : ∃ c1, c1 = c + 1 := ⟨_, rfl⟩
      obtain ⟨c2, e2⟩ : ∃ c2, c2 = c + 2 := ⟨_, rfl⟩
      dsimp only at d0 d1
      rw [show k + 2 * j = c from HC.out.symm] at d0
      rw [show k + 2 * j + 1 = c1 by rw [e1, HC.out]] at d1
      have HCC : Shut (c2 = k + 2 * (j + 1)) := ⟨by have := HC.out; omega⟩
      have i1 : (c : Int) + 1 = (c1 : Int) := by omega
      have i2 : (c1 : Int) + 1 = (c2 : Int) := by omega
      have hb1 : c1 ≤ 1000000001 := by omega
      have hb2 : c2 ≤ 1000000000 := by have := HC.out; omega
      have h1 : ((c : Int) != (c : Int)) = false := by simp
      have h2 : ((c1 : Int) != (c1 : Int)) = false := by simp
      clear e1 e2 hcell
      go_wp2_with fail
      go_roundw
      case rel => exact ⟨j + 1, c2, by go_num, rfl, hb2, by omega, HCC, hb⟩
      case measure => simp [intOf]; omega
    · have HE : Shut (c = k + 2 * n) := ⟨by have := HC.out; omega⟩
      have hlt' : ¬ (j : Int) < (n : Int) := by omega
      go_wp2_with fail
      go_ret
      exact ⟨congrArg (fun x : Int => Ending.returned (.int .i64 x)) (show (c : Int) = _ by have := HE.out; omega), hb.out⟩
theorem markRs_at (k : Nat) (rs : List NR) (i : Nat) (h : i < rs.length) : (markRs k rs)[i]'(by rw [markRs_len]; exact h) = ⟨markN (markK k (nds (rs.take i))) rs[i].nd.pieces.length, rs[i].loc, rs[i].cap⟩ := by
  induction rs generalizing k i with
  | nil => simp at h
  | cons r rs ih =>
    cases i with
    | zero => rfl
    | succ i =>
      simp only [markRs, List.getElem_cons_succ, List.take_succ_cons, nds, List.map_cons, markK]
      exact ih _ i (by simpa using h)
set_option maxRecDepth 100000 in
set_option maxHeartbeats 8000000 in
theorem heldInodeS_any (a : Option Addr) (rs : List NR) (k ca : Nat) (w : World) (lo hi : Nat) (hm : TR w a (markRs k rs) lo hi) (hk : 1 ≤ k) (hn : markK k (nds rs) ≤ 50000000) :
    Calls Try.prog 84 #[.slice a rs.length ca, .int .i64 k] w fun e w' => e = .returned (.int .i64 (markK k (nds rs) : Nat)) ∧ Below w.heap.size w w' := by
  obtain ⟨n, hnx⟩ : ∃ n, n = rs.length := ⟨_, rfl⟩
  have HN := Shut.mk hnx
  have HK := Shut.mk hn
  have hn9 : n ≤ 50000000 := by
    have := markK_low k (nds rs)
    rw [nds_len] at this
    omega
  rw [← hnx]
  have HA := Shut.mk hm
  obtain ⟨K, hKe⟩ : ∃ K, K = markK k (nds rs) := ⟨_, rfl⟩
  rw [← hKe]
  have HKE := Shut.mk hKe
  clear hnx hm hn hKe
  go_enter Try.func84, Try.ntmps84
  go_wp2_with fail
  go_loopw [1, 5] (fun cv iv wr => ∃ (i c : Nat), iv = .int .i64 i ∧ cv = .int .i64 c ∧ c ≤ 50000000 ∧ 1 ≤ c ∧ i ≤ n ∧ Shut (c = markK k (nds (rs.take i))) ∧ Shut (Below w.heap.size w wr)) (fun _ iv _ => n - (intOf iv).toNat)
  case atStart => exact ⟨0, k, rfl, rfl, by have := HK.out; have := (markK_le k (nds rs)).1; omega, hk, Nat.zero_le _, ⟨rfl⟩, ⟨Below.refl _ _⟩⟩
  case round =>
    obtain ⟨i, c, rfl, rfl, hc9, hc1, hin, HC, hbl⟩ := hrel
    by_cases hlt : i < n
    · have j0 : (0 : Int) ≤ (i : Int) := by omega
      have j1 : (i : Int) < (n : Int) := by omega
      have hlr : i < rs.length := by have := HN.out; omega
      have hmr : i < (markRs k rs).length := by rw [markRs_len]; exact hlr
      obtain ⟨b, off, rfl, lb, hcell⟩ := TR.nat (HA.out.below hbl.out) (by omega)
      have hat := hcell i hmr
      have hprow := ((HA.out.below hbl.out).2 _ (List.getElem_mem hmr))
      rw [markRs_at k rs i hlr, ← HC.out] at hat hprow
      have hck : markK k (nds (rs.take (i + 1))) = c + 8 + 2 * rs[i].nd.pieces.length := by rw [List.take_succ_eq_append_getElem hlr, nds_snoc, markK_snoc, ← HC.out]
      have hcb : markK k (nds (rs.take (i + 1))) ≤ 50000000 := by
        have := markK_part k (nds rs) (i + 1)
        have e : (nds rs).take (i + 1) = nds (rs.take (i + 1)) := by unfold nds; rw [List.map_take]
        rw [e] at this
        have := HK.out
        omega
      generalize rs[i].nd.pieces.length = np at *
      generalize rs[i].loc = loc at *
      generalize rs[i].cap = cap at *
      unfold NAt markN at hat
      dsimp only at hat
      unfold markN at hprow
      dsimp only at hprow
      rw [markPs_len] at hat
      obtain ⟨c1, e1⟩ : ∃ c1, c1 = c + 1 := ⟨_, rfl⟩
      obtain ⟨c2, e2⟩ : ∃ c2, c2 = c + 2 := ⟨_, rfl⟩
      obtain ⟨c3, e3⟩ : ∃ c3, c3 = c + 3 := ⟨_, rfl⟩
      obtain ⟨c4, e4⟩ : ∃ c4, c4 = c + 4 := ⟨_, rfl⟩
      obtain ⟨c5, e5⟩ : ∃ c5, c5 = c + 5 := ⟨_, rfl⟩
      obtain ⟨c6, e6⟩ : ∃ c6, c6 = c + 6 := ⟨_, rfl⟩
      obtain ⟨c7, e7'⟩ : ∃ c7, c7 = c + 7 := ⟨_, rfl⟩
      obtain ⟨e7, h7⟩ : ∃ e7, e7 = c + 7 + 2 * np := ⟨_, rfl⟩
      obtain ⟨e8, h8⟩ : ∃ e8, e8 = c + 8 + 2 * np := ⟨_, rfl⟩
      rw [← e1, ← e2, ← e3, ← e4, ← e5, ← e6, ← h7] at hat
      rw [← e7'] at hprow
      have i1 : (c : Int) + 1 = (c1 : Int) := by omega
      have i2 : (c1 : Int) + 1 = (c2 : Int) := by omega
      have i3 : (c2 : Int) + 1 = (c3 : Int) := by omega
      have i4 : (c3 : Int) + 1 = (c4 : Int) := by omega
      have i5 : (c4 : Int) + 1 = (c5 : Int) := by omega
      have i6 : (c5 : Int) + 1 = (c6 : Int) := by omega
      have i7 : (c6 : Int) + 1 = (c7 : Int) := by omega
      have i8 : (e7 : Int) + 1 = (e8 : Int) := by omega
      have q1 : c1 ≤ 60000000 := by omega
      have q2 : c2 ≤ 60000000 := by omega
      have q3 : c3 ≤ 60000000 := by omega
      have q4 : c4 ≤ 60000000 := by omega
      have q5 : c5 ≤ 60000000 := by omega
      have q6 : c6 ≤ 60000000 := by omega
      have q7 : c7 ≤ 60000000 := by omega
      have q8 : e7 ≤ 60000000 := by omega
      have q9 : e8 ≤ 50000000 := by omega
      have q10 : ¬ (e7 : Int) < 0 := by omega
      have n0 : ((c : Int) != (c : Int)) = false := by simp
      have n1 : ((c1 : Int) != (c1 : Int)) = false := by simp
      have n4 : ((c4 : Int) != (c4 : Int)) = false := by simp
      have n5 : ((c5 : Int) != (c5 : Int)) = false := by simp
      have n6 : ((c6 : Int) != (c6 : Int)) = false := by simp
      have n7 : ((e7 : Int) != (e7 : Int)) = false := by simp
      have HMT := Shut.mk (fun W => markText_any c2 W (by omega) (by omega))
      have HPS := Shut.mk (fun W (hW : Below wr.heap.size wr W) => heldPieceS_any loc c7 np cap W lo hi (hprow.below hW) (by omega))
      rw [show c7 + 2 * np = e7 by omega] at HPS
      have HNX : Shut (e8 = markK k (nds (rs.take (i + 1)))) := ⟨by omega⟩
      have hd1 := dir_is c3
      have hd2 := dir_is' c3
      have n2 := same_text (mt c2)
      have n3 : (markDir c3 != markDir c3) = false := by cases markDir c3 <;> rfl
      generalize mt c2 = T2 at *
      generalize markDir c3 = D3 at *
      have HAT := Shut.mk hat
      obtain ⟨d0, d1, d2, _, _, _, _, _, _⟩ := hat
      clear hcell hprow hck hcb e1 e2 e3 e4 e5 e6 e7' h7 h8 HC
      go_wp2_with fail
      go_region_held3 (fun w' => w'.cell? ⟨b, off + i * 9 + 2, none⟩ = some (.string T2))
        (first | go_keep | assumption | (rw [hb1.cell (p := ⟨b, off + i * 9 + 2, none⟩) (by exact lb)]; assumption))
        ((go_at_call 67; refine (HMT.out _).mono ?_; rintro e w1 ⟨rfl, hb1⟩))
      all_goals
        have hb2 : Below wr.heap.size wr w1 := (Below.drew (Below.refl _ _)).trans hb1
        have HB2 := Shut.mk hb2
        have k3 := (hb2.cell (p := ⟨b, off + i * 9 + 3, none⟩) lb).trans HAT.out.2.2.2.1
        have k4 := (hb2.cell (p := ⟨b, off + i * 9 + 4, none⟩) lb).trans HAT.out.2.2.2.2.1
        have k5 := (hb2.cell (p := ⟨b, off + i * 9 + 5, none⟩) lb).trans HAT.out.2.2.2.2.2.1
        have k6 := (hb2.cell (p := ⟨b, off + i * 9 + 6, none⟩) lb).trans HAT.out.2.2.2.2.2.2.1
        have k7 := (hb2.cell (p := ⟨b, off + i * 9 + 7, none⟩) lb).trans HAT.out.2.2.2.2.2.2.2.1
        clear hb1 hb2 d0 d1 d2
        go_wp2_with fail
        refine (HPS.out _ HB2.out).mono ?_
        rintro e w2 ⟨rfl, hb3⟩
        have HB3 := Shut.mk (HB2.out.trans (hb3.mono HB2.out.size))
        have k8 := (HB3.out.cell (p := ⟨b, off + i * 9 + 8, none⟩) lb).trans HAT.out.2.2.2.2.2.2.2.2
        have HB4 := Shut.mk (hbl.out.trans (HB3.out.mono hbl.out.size))
        clear hb3 HB2 HB3 k3 k4 k5 k6 k7
        go_wp2_with fail
        go_roundw
        case rel => exact ⟨i + 1, e8, by go_num, rfl, q9, by omega, by omega, HNX, HB4⟩
        case measure => simp [intOf]; omega
    · have hall : rs.take i = rs := List.take_of_length_le (by have := HN.out; omega)
      have hlt' : ¬ (i : Int) < (n : Int) := by omega
      have HF : Shut (c = K) := ⟨by have := HC.out; rw [hall] at this; rw [this, HKE.out]⟩
      clear hall HC
      go_wp2_with fail
      go_ret
      exact ⟨congrArg (fun x : Nat => Ending.returned (.int .i64 (x : Int))) HF.out, hbl.out⟩
/-- A value that was marked from k on, where it was this tree. -/
def THeld (w : World) (v : Value) (k : Nat) (T : TM) (lo hi : Nat) : Prop := ∃ (a : Option Addr) (cap : Nat) (rs : List NR), v = .agg #[.slice a rs.length cap, .int .i64 T.next] ∧ nds rs = T.nodes ∧ TR w a (markRs k rs) lo hi
theorem THeld.turned {w w' : World} {v : Value} {k : Nat} {T : TM} {lo hi lo' hi' : Nat} (h : THeld w v k T lo hi) (t : Turned w w' lo' hi') (hd : hi ≤ lo' ∨ hi' ≤ lo) : THeld w' v k T lo hi := by
  obtain ⟨a, cap, rs, e, hr, h1⟩ := h
  exact ⟨a, cap, rs, e, hr, h1.turned t hd⟩
theorem THeld.below {w w' : World} {v : Value} {k : Nat} {T : TM} {lo hi : Nat} (h : THeld w v k T lo hi) (hb : Below w.heap.size w w') : THeld w' v k T lo hi := by
  obtain ⟨a, cap, rs, e, hr, h1⟩ := h
  exact ⟨a, cap, rs, e, hr, h1.below hb⟩
theorem markInodeS_nil (a : Option Addr) (k ca : Nat) (w : World) : Calls Try.prog 82 #[.slice a 0 ca, .int .i64 k] w fun e w' => e = .returned (.int .i64 k) ∧ w' = w := by
  go_enter Try.func82, Try.ntmps82
  go_wp2_with fail
  go_rounds 1
  go_ret
  exact ⟨rfl, rfl⟩
theorem mark_fit {T : TM} (hf : NFit T) (k : Nat) (hk : k ≤ 1000) : markK k T.nodes ≤ 50000000 := by
  have := (markK_le k T.nodes).2
  unfold NFit at hf
  omega
set_option maxHeartbeats 1000000 in
theorem markTree_val {w : World} {v : Value} {T : TM} {lo hi : Nat} (k : Nat) (h : TAns w v T lo hi) (hf : NFit T) (h1 : 1 ≤ k) (hk : k ≤ 1000) :
    Calls Try.prog 63 #[v, .int .i64 k] w fun e w' => e = .returned (.int .i64 (markK k T.nodes : Nat)) ∧ THeld w' v k T lo hi ∧ Turned w w' lo hi := by
  obtain ⟨a, cap, rs, rfl, hr, hc, h2⟩ := h
  have hmf := mark_fit hf k hk
  rw [← hr] at hmf
  have hsz : ∀ W, W = w.alloc (.cells #[.slice a rs.length cap, .int .i64 T.next] 37) → Below w.heap.size w W := fun W e => by rw [e]; exact (Below.refl _ _).alloc (Nat.le_refl _) _
  have HB := Shut.mk (hsz _ rfl)
  have HC : Shut (Calls Try.prog 82 #[.slice a rs.length cap, .int .i64 k] (w.alloc (.cells #[.slice a rs.length cap, .int .i64 T.next] 37)) fun e w' => e = .returned (.int .i64 (markK k T.nodes : Nat)) ∧ TR w' a (markRs k rs) lo hi ∧ Turned w w' lo hi) := by
    rcases h2 with rfl | ⟨g, rfl, hm⟩
    · refine ⟨(markInodeS_nil a k cap _).mono ?_⟩
      rintro e w' ⟨rfl, rfl⟩
      have hx : T.nodes = [] := by rw [← hr]; rfl
      exact ⟨by rw [hx]; rfl, GR.nil _ _ _ _ _, Turned.of_below HB.out lo hi⟩
    · refine ⟨(markInodeS_any g rs k cap _ lo hi (hm.below HB.out) h1 hmf).mono ?_⟩
      rintro e w' ⟨rfl, hw', ht⟩
      exact ⟨by rw [hr], hw'.gr, (Turned.of_below HB.out lo hi).trans ht⟩
  have HR := Shut.mk hr
  obtain ⟨m, hme⟩ : ∃ m, m = markK k T.nodes := ⟨_, rfl⟩
  have HME : m ≤ 50000000 := by rw [hme, ← hr]; exact hmf
  rw [← hme] at HC ⊢
  obtain ⟨nx, hnx⟩ : ∃ nx, nx = T.next := ⟨_, rfl⟩
  have HNX := Shut.mk hnx
  rw [← hnx] at HC HB ⊢
  obtain ⟨n, hnl⟩ : ∃ n, n = rs.length := ⟨_, rfl⟩
  have HNL := Shut.mk hnl
  rw [← hnl] at HC HB ⊢
  clear hmf hsz h2 hr hc hf hme hnx hnl
  go_enter Try.func63, Try.ntmps63
  go_wp2_with fail
  refine HC.out.mono ?_
  rintro e w2 ⟨rfl, ht, htu⟩
  have HT := Shut.mk (And.intro ht htu)
  clear ht htu HC
  go_wp2_with fail
  go_ret
  exact ⟨rfl, ⟨a, cap, rs, by rw [HNX.out, HNL.out], HR.out, HT.out.1⟩, HT.out.2⟩
set_option maxHeartbeats 1000000 in
theorem heldTree_val {w : World} {v : Value} {k : Nat} {T : TM} {lo hi : Nat} (h : THeld w v k T lo hi) (hf : NFit T) (h1 : 1 ≤ k) (hk : k ≤ 1000) :
    Calls Try.prog 68 #[v, .int .i64 k] w fun e w' => e = .returned (.int .i64 (markK k T.nodes : Nat)) ∧ Below w.heap.size w w' := by
  obtain ⟨a, cap, rs, rfl, hr, hm⟩ := h
  have hmf := mark_fit hf k hk
  rw [← hr] at hmf
  have HB := Shut.mk (show Below w.heap.size w (w.alloc (.cells #[.slice a rs.length cap, .int .i64 T.next] 37)) from (Below.refl _ _).alloc (Nat.le_refl _) _)
  have HC := Shut.mk (heldInodeS_any a rs k cap _ lo hi (hm.below HB.out) h1 hmf)
  rw [hr] at HC hmf
  obtain ⟨m, hme⟩ : ∃ m, m = markK k T.nodes := ⟨_, rfl⟩
  rw [← hme] at HC hmf ⊢
  generalize T.next = nx at *
  generalize rs.length = n at *
  have hm0 : ¬ (m : Int) < 0 := by omega
  clear hm hr hf hme
  go_enter Try.func68, Try.ntmps68
  go_wp2_with fail
  refine HC.out.mono ?_
  rintro e w2 ⟨rfl, hb⟩
  have HB2 := Shut.mk (HB.out.trans (hb.mono HB.out.size))
  clear hb HC
  go_wp2_with fail
  go_ret
  exact ⟨rfl, HB2.out⟩
end Go.Proofs.Ytendbipfmgnjkaa
/- SlA: Stretches of memory that hold trees. -/
namespace Go.Proofs.Ytendbipfmgnjkaa
set_option maxRecDepth 100000
open Go.RowKit

/-- A tree that was answered; one that was marked. -/
abbrev trS (v : Value) (T : TM) (lo hi : Nat) : Str := ⟨fun W => TAns W v T lo hi, lo, hi⟩
abbrev thS (v : Value) (T : TM) (lo hi : Nat) : Str := ⟨fun W => THeld W v 1 T lo hi, lo, hi⟩
theorem trS.loc (v : Value) (T : TM) (lo hi : Nat) : (trS v T lo hi).Loc := fun _ _ _ _ h t hd => TAns.turned h t hd
theorem thS.loc (v : Value) (T : TM) (lo hi : Nat) : (thS v T lo hi).Loc := fun _ _ _ _ h t hd => THeld.turned h t hd
end Go.Proofs.Ytendbipfmgnjkaa
/- SvA: Servers in the laws: two that are the same; sizes; copies (written by gen/mksva.py). -/
namespace Go.Proofs.Ytendbipfmgnjkaa
set_option maxRecDepth 100000
open Go.RowKit BigFrame
attribute [local go_sem ↓] Go.wp_at_zero Go.wp_at_succ

theorem SL.join {w0 W W' : World} {S S2 : List Str} (h : SL w0 W S) (k : SL W W' S2) : SL w0 W' (S2 ++ S) := by
  have j := h.below k.bel
  refine ⟨j.bel, fun s hs => ?_, List.pairwise_append.2 ⟨k.apart, h.apart, fun s hs t ht => .inr (Nat.le_trans (h.is t ht).2.2.2 (k.is s hs).2.2.1)⟩⟩
  rcases List.mem_append.1 hs with q | q
  · obtain ⟨a, b, c, d⟩ := k.is s q
    exact ⟨a, b, Nat.le_trans h.bel.size c, d⟩
  · exact j.is s q
/-- Stretches, as a fact on worlds. -/
abbrev SL.p (w0 : World) (S : List Str) (W : World) : Prop := SL w0 W S
/-- A server. -/
structure SvM where
  up : Bool
  tree : TM
  groups : Int
  disk : List FM
  leases : List LsM
  now : Int
/-- A server's parts, in memory. -/
structure SvAt (w : World) (S : SvM) (tv : Value) (da la : Option Addr) (lo hi : Nat) : Prop where
  tr : TSee w tv S.tree lo hi
  ds : FRow w da S.disk
  ls : LsRow w la S.leases
theorem SvAt.below {w w' : World} {S : SvM} {tv : Value} {da la : Option Addr} {lo hi : Nat} (h : SvAt w S tv da la lo hi) (hb : Below w.heap.size w w') : SvAt w' S tv da la lo hi := ⟨h.tr.below hb, h.ds.stays hb, h.ls.stays hb⟩
structure SvFit (S : SvM) : Prop where
  tr : NFit S.tree
  ds : S.disk.length ≤ 1048576
  ls : S.leases.length ≤ 1048576
set_option maxHeartbeats 2000000 in
set_option maxRecDepth 100000 in
theorem eqServer_same {w : World} {S : SvM} {ca ca' da da' la la' : Option Addr} {cm cm' cc cc' dc dc' lc lc' lo hi lo' hi' dn ln : Nat} {nx gr now : Int} {up : Bool} (h : SvAt w S (.agg #[.slice ca cm cc, .int .i64 nx]) da la lo hi) (k : SvAt w S (.agg #[.slice ca' cm' cc', .int .i64 nx]) da' la' lo' hi') (hf : SvFit S) (hd : dn = S.disk.length) (hl : ln = S.leases.length) :
    Calls Try.prog 33 #[.agg #[.bool up, .slice ca cm cc, .int .i64 nx, .int .i64 gr, .slice da dn dc, .slice la ln lc, .int .i64 now], .agg #[.bool up, .slice ca' cm' cc', .int .i64 nx, .int .i64 gr, .slice da' dn dc', .slice la' ln lc', .int .i64 now]] w fun e w' => e = .returned (.bool true) ∧ Below w.heap.size w w' := by
  have HT := Shut.mk (fun (W : World) (hb : Below w.heap.size w W) => eqTree_val (h.tr.below hb) (k.tr.below hb) hf.tr)
  have HD := Shut.mk (fun (W : World) (hb : Below w.heap.size w W) => eqDisk_same da da' S.disk dc dc' W (h.ds.stays hb) (k.ds.stays hb) hf.ds)
  have HL := Shut.mk (fun (W : World) (hb : Below w.heap.size w W) => eqLeaseS_same la la' S.leases lc lc' W (h.ls.stays hb) (k.ls.stays hb) (by have := hf.ls; omega))
  rw [← hd] at HD
  rw [← hl] at HL
  have hup : (up != up) = false := by simp
  clear h k hf hd hl
  have HS := Shut.mk (((SL.start w).new #[.bool up, .slice ca cm cc, .int .i64 nx, .int .i64 gr, .slice da dn dc, .slice la ln lc, .int .i64 now] 43).new #[.bool up, .slice ca' cm' cc', .int .i64 nx, .int .i64 gr, .slice da' dn dc', .slice la' ln lc', .int .i64 now] 43)
  simp only [World.size_alloc] at HS
  obtain ⟨b1, hb1⟩ : ∃ q, q = w.heap.size := ⟨_, rfl⟩
  go_enter Try.func33, Try.ntmps33
  go_upto_region 1 with fail
  rw [← hb1] at HS
  refine wp_shade (SL.p w _) HS.out ?_
  rw [← hb1]
  intro W0 hS0
  have H := Shut.mk hS0
  clear hS0 HS hb1
  have x0 := (H.out.bx 1 rfl 0 _ rfl).1
  have y0 := (H.out.bx 0 rfl 0 _ rfl).1
  have x1 := (H.out.bx 1 rfl 1 _ rfl).1
  have y1 := (H.out.bx 0 rfl 1 _ rfl).1
  have x2 := (H.out.bx 1 rfl 2 _ rfl).1
  have y2 := (H.out.bx 0 rfl 2 _ rfl).1
  have x3 := (H.out.bx 1 rfl 3 _ rfl).1
  have y3 := (H.out.bx 0 rfl 3 _ rfl).1
  have x4 := (H.out.bx 1 rfl 4 _ rfl).1
  have y4 := (H.out.bx 0 rfl 4 _ rfl).1
  have x5 := (H.out.bx 1 rfl 5 _ rfl).1
  have y5 := (H.out.bx 0 rfl 5 _ rfl).1
  have x6 := (H.out.bx 1 rfl 6 _ rfl).1
  have y6 := (H.out.bx 0 rfl 6 _ rfl).1
  go_wp2_with fail
  refine (HT.out _ H.out.bel).mono ?_
  rintro e wHT ⟨rfl, hb⟩
  replace H := Shut.mk (H.out.below hb)
  clear hb x0 y0 x1 y1 x2 y2 x3 y3 x4 y4 x5 y5 x6 y6
  have x0 := (H.out.bx 1 rfl 0 _ rfl).1
  have y0 := (H.out.bx 0 rfl 0 _ rfl).1
  have x1 := (H.out.bx 1 rfl 1 _ rfl).1
  have y1 := (H.out.bx 0 rfl 1 _ rfl).1
  have x2 := (H.out.bx 1 rfl 2 _ rfl).1
  have y2 := (H.out.bx 0 rfl 2 _ rfl).1
  have x3 := (H.out.bx 1 rfl 3 _ rfl).1
  have y3 := (H.out.bx 0 rfl 3 _ rfl).1
  have x4 := (H.out.bx 1 rfl 4 _ rfl).1
  have y4 := (H.out.bx 0 rfl 4 _ rfl).1
  have x5 := (H.out.bx 1 rfl 5 _ rfl).1
  have y5 := (H.out.bx 0 rfl 5 _ rfl).1
  have x6 := (H.out.bx 1 rfl 6 _ rfl).1
  have y6 := (H.out.bx 0 rfl 6 _ rfl).1
  go_wp2_with fail
  refine (HD.out _ H.out.bel).mono ?_
  rintro e wHD ⟨rfl, hb⟩
  replace H := Shut.mk (H.out.below hb)
  clear hb x0 y0 x1 y1 x2 y2 x3 y3 x4 y4 x5 y5 x6 y6
  have x0 := (H.out.bx 1 rfl 0 _ rfl).1
  have y0 := (H.out.bx 0 rfl 0 _ rfl).1
  have x1 := (H.out.bx 1 rfl 1 _ rfl).1
  have y1 := (H.out.bx 0 rfl 1 _ rfl).1
  have x2 := (H.out.bx 1 rfl 2 _ rfl).1
  have y2 := (H.out.bx 0 rfl 2 _ rfl).1
  have x3 := (H.out.bx 1 rfl 3 _ rfl).1
  have y3 := (H.out.bx 0 rfl 3 _ rfl).1
  have x4 := (H.out.bx 1 rfl 4 _ rfl).1
  have y4 := (H.out.bx 0 rfl 4 _ rfl).1
  have x5 := (H.out.bx 1 rfl 5 _ rfl).1
  have y5 := (H.out.bx 0 rfl 5 _ rfl).1
  have x6 := (H.out.bx 1 rfl 6 _ rfl).1
  have y6 := (H.out.bx 0 rfl 6 _ rfl).1
  go_wp2_with fail
  refine (HL.out _ H.out.bel).mono ?_
  rintro e wHL ⟨rfl, hb⟩
  replace H := Shut.mk (H.out.below hb)
  clear hb x0 y0 x1 y1 x2 y2 x3 y3 x4 y4 x5 y5 x6 y6
  have x0 := (H.out.bx 1 rfl 0 _ rfl).1
  have y0 := (H.out.bx 0 rfl 0 _ rfl).1
  have x1 := (H.out.bx 1 rfl 1 _ rfl).1
  have y1 := (H.out.bx 0 rfl 1 _ rfl).1
  have x2 := (H.out.bx 1 rfl 2 _ rfl).1
  have y2 := (H.out.bx 0 rfl 2 _ rfl).1
  have x3 := (H.out.bx 1 rfl 3 _ rfl).1
  have y3 := (H.out.bx 0 rfl 3 _ rfl).1
  have x4 := (H.out.bx 1 rfl 4 _ rfl).1
  have y4 := (H.out.bx 0 rfl 4 _ rfl).1
  have x5 := (H.out.bx 1 rfl 5 _ rfl).1
  have y5 := (H.out.bx 0 rfl 5 _ rfl).1
  have x6 := (H.out.bx 1 rfl 6 _ rfl).1
  have y6 := (H.out.bx 0 rfl 6 _ rfl).1
  go_wp2_with fail
  go_ret
  exact ⟨rfl, H.out.bel⟩
theorem szT9 {left : Int} {n : Nat} {w w' : World} {e : Ending} (h : SzT left n w e w') : ∃ r : Int, e = .returned (.int .i64 r) ∧ -1 ≤ r ∧ (0 ≤ r → r + n = left) ∧ Below w.heap.size w w' := h
/-- A server that was answered. -/
def SvTo (S : SvM) (up : Bool) (nx gr now : Int) (dn ln : Nat) (w : World) (e : Ending) (w' : World) : Prop := ∃ (ca da la : Option Addr) (cm cc dc lc lo hi : Nat), e = .returned (.agg #[.bool up, .slice ca cm cc, .int .i64 nx, .int .i64 gr, .slice da dn dc, .slice la ln lc, .int .i64 now]) ∧ SvAt w' S (.agg #[.slice ca cm cc, .int .i64 nx]) da la lo hi ∧ Below w.heap.size w w'
/-- The same, told by stretches. -/
def SvTs (S : SvM) (up : Bool) (nx gr now : Int) (dn ln : Nat) (w : World) (e : Ending) (w' : World) : Prop := ∃ (ca da la : Option Addr) (cm cc dc lc l1 h1 l2 h2 l3 h3 : Nat), e = .returned (.agg #[.bool up, .slice ca cm cc, .int .i64 nx, .int .i64 gr, .slice da dn dc, .slice la ln lc, .int .i64 now]) ∧ SL w w' [rwS la (lsS S.leases) l3 h3, rwS da (fcs S.disk) l2 h2, trS (.agg #[.slice ca cm cc, .int .i64 nx]) S.tree l1 h1] ∧ dn ≤ dc ∧ ln ≤ lc
end Go.Proofs.Ytendbipfmgnjkaa
/- TreL: The walk of the model's TreeNew. -/
namespace Go.Proofs.Ytendbipfmgnjkaa
set_option maxRecDepth 100000
open Go.RowKit
attribute [local go_sem ↓] Go.wp_at_zero Go.wp_at_succ

/-- A tree with nothing but its first node. -/
def newX : TM := ⟨[⟨1, 0, ⟨#[]⟩, true, 1, 0, 0, [], 0⟩], 2⟩
/-- Its node, in memory: with no pieces. -/
def newR : NR := ⟨⟨1, 0, ⟨#[]⟩, true, 1, 0, 0, [], 0⟩, none, 0⟩
set_option maxRecDepth 100000 in
set_option maxHeartbeats 2000000 in
theorem specTreeNew (w : World) : Calls Try.prog 57 #[] w fun e w' => TrPost newX w e w' := by
  go_enter Try.func57, Try.ntmps57
  go_wp2_with fail
  refine body_shade (fun W => WCells W w.heap.size [.slice (some ⟨w.heap.size + 1, 0, none⟩) 1 1, .int .i64 2] ∧ WCells W (w.heap.size + 1) (ncells newR) ∧ Below w.heap.size w W) ⟨(wcells_new w #[.slice (some ⟨w.heap.size + 1, 0, none⟩) 1 1, .int .i64 2] 37).alloc _, ?h2, ((Below.refl _ _).alloc (Nat.le_refl _) _).alloc (by simp) _⟩ ?_
  case h2 =>
    have := wcells_new (w.alloc (.cells #[.slice (some ⟨w.heap.size + 1, 0, none⟩) 1 1, .int .i64 2] 37)) (ncells newR).toArray 108
    rw [show (w.alloc (.cells #[.slice (some ⟨w.heap.size + 1, 0, none⟩) 1 1, .int .i64 2] 37)).heap.size = w.heap.size + 1 by simp] at this
    exact this
  rintro W ⟨h1, h2, hb⟩
  have x0 := (h1.2 0 _ rfl).1
  have x1 := (h1.2 1 _ rfl).1
  refine bodyPost_ret (v := .agg #[.slice (some ⟨w.heap.size + 1, 0, none⟩) 1 1, .int .i64 2]) (by simp [results, Try.results57, go_sem, x0, x1]) rfl ⟨_, rfl, ⟨_, 1, [newR], rfl, rfl, Nat.le_refl _, .inr ⟨_, rfl, ?_⟩⟩, hb⟩
  exact ⟨by simpa [NK.cells] using h2, by omega, h2.1, fun r hr => .inl (by rw [List.mem_singleton.1 hr]; rfl), by simp⟩
end Go.Proofs.Ytendbipfmgnjkaa
/- DiskN: Rows of files: marks that are laid into one, and found again. -/
namespace Go.Proofs.Ytendbipfmgnjkaa
set_option maxRecDepth 100000
open Go.RowKit
attribute [local go_sem ↓] Go.wp_at_zero Go.wp_at_succ

/-- The file that bears the marks from k on. -/
def markF (k : Nat) : FM := ⟨mt k, mt (k + 1), ((k + 2 : Nat) : Int)⟩
def marksF (k n : Nat) : List FM := (List.range n).map fun j => markF (k + 3 * j)
theorem marksF_len (k n : Nat) : (marksF k n).length = n := by simp [marksF]
theorem marksF_at (k n j : Nat) (h : j < (marksF k n).length) : (marksF k n)[j] = markF (k + 3 * j) := by simp [marksF]
theorem marked_all {k n : Nat} {ys : List FM} (hl : ys.length = n) (h : ∀ t, t < n → ys.getD t default = markF (k + 3 * t)) : ys = marksF k n := by
  apply List.ext_getElem
  · rw [hl, marksF_len]
  · intro i h1 h2
    rw [marksF_at]
    have := h i (by omega)
    simpa [List.getD, h1] using this
theorem fcs_three (ys : List FM) (j : Nat) (hj : j < ys.length) (f : FM) : (((fcs ys).set (j * 3) (.string f.name)).set (j * 3 + 1) (.string f.text)).set (j * 3 + 2) (.int .i64 f.kept) = fcs (ys.set j f) :=
  flat_setL fcells_len ys j hj f
theorem markFileS_none (a : Option Addr) (k ca : Nat) (w : World) :
    Calls Try.prog 83 #[.slice a 0 ca, .int .i64 k] w fun e w' => e = .returned (.int .i64 k) ∧ w' = w := by
  go_enter Try.func83, Try.ntmps83
  go_wp2_with fail
  go_rounds 1
  go_ret
  exact ⟨rfl, rfl⟩
def MarkPost (g k n : Nat) (w : World) (e : Ending) (w' : World) : Prop := e = .returned (.int .i64 (k + 3 * n : Nat)) ∧ WCells w' g (fcs (marksF k n)) ∧ w.grownBy w' (some g)
set_option maxHeartbeats 1000000 in
theorem markFileS_any (g : Nat) (xs : List FM) (k ca : Nat) (w : World) (ha : WCells w g (fcs xs)) (hk : 0 < k) (hn : k + 3 * xs.length ≤ 1000000000) (hca : xs.length ≤ ca) :
    Calls Try.prog 83 #[.slice (some ⟨g, 0, none⟩) xs.length ca, .int .i64 k] w fun e w' => MarkPost g k xs.length w e w' := by
  obtain ⟨n, hnx⟩ : ∃ n, n = xs.length := ⟨_, rfl⟩
  have HN : Hid (n = xs.length) := hnx
  rw [← hnx]
  rw [← hnx] at hn hca
  clear hnx
  have HA : Hid (WCells w g (fcs xs)) := ha
  clear ha
  go_enter Try.func83, Try.ntmps83
  go_wp2_with fail
  go_loopw [1, 5] (fun c i wr => ∃ (j : Nat) (ys : List FM), i = .int .i64 j ∧ c = .int .i64 (k + 3 * j : Nat) ∧ j ≤ n ∧ ys.length = n ∧ (∀ t, t < j → ys.getD t default = markF (k + 3 * t)) ∧ Shut (WCells wr g (fcs ys)) ∧ w.grownBy wr (some g)) (fun _ i _ => n - (intOf i).toNat)
  case atStart => exact ⟨0, xs, rfl, rfl, Nat.zero_le _, HN.out.symm, fun t ht => by omega, ⟨HA.out⟩, grownBy_below (Below.refl _ _)⟩
  case round =>
    obtain ⟨j, ys, rfl, rfl, hj, hyl, hys, hw, hgr⟩ := hrel
    have HL : Hid (ys.length = n) := hyl
    have HY : Hid (∀ t, t < j → ys.getD t default = markF (k + 3 * t)) := hys
    have HW : Hid (WCells wr g (fcs ys)) := hw.out
    have HGR : Hid (w.grownBy wr (some g)) := hgr
    clear hyl hys hw hgr
    by_cases hlt : j < n
    · have j0 : (0 : Int) ≤ (j : Int) := by omega
      have j1 : (j : Int) < (n : Int) := by omega
      have hly : (fcs ys).length = n * 3 := by rw [fcs_len, HL.out]
      go_wp2_with fail
      refine (markText_any (k + 3 * j) _ (by omega) (by omega)).mono ?_
      rintro e w1 ⟨rfl, hb1⟩
      have hw1 := HW.out.below hb1 HW.out.1
      obtain ⟨c0, z0⟩ := hw1.2 (j * 3) _ (List.getElem?_eq_getElem (by omega))
      have hs0 := hw1.set (j * 3) (.string (mt (k + 3 * j))) (by omega)
      have HS0 : Hid (WCells (w1.setCell ⟨g, j * 3, none⟩ (.string (mt (k + 3 * j)))) g ((fcs ys).set (j * 3) (.string (mt (k + 3 * j))))) := hs0
      have HG0 : Hid (w.grownBy (w1.setCell ⟨g, j * 3, none⟩ (.string (mt (k + 3 * j)))) (some g)) := grownBy_two HGR.out (grownBy_two (grownBy_below hb1) (grownBy_setCell w1 g _ _))
      clear hb1 hw1 hs0
      have q := markText_any (k + 3 * j + 1) (w1.setCell ⟨g, j * 3, none⟩ (.string (mt (k + 3 * j)))) (by omega) (by omega)
      rw [show ((k + 3 * j + 1 : Nat) : Int) = (k : Int) + 3 * (j : Int) + 1 by push_cast; rfl] at q
      have Q : Hid (Calls Try.prog 67 #[.int .i64 ((k : Int) + 3 * (j : Int) + 1)] (w1.setCell ⟨g, j * 3, none⟩ (.string (mt (k + 3 * j)))) fun e w' => e = .returned (.string (mt (k + 3 * j + 1))) ∧ Below (w1.setCell ⟨g, j * 3, none⟩ (.string (mt (k + 3 * j)))).heap.size (w1.setCell ⟨g, j * 3, none⟩ (.string (mt (k + 3 * j)))) w') := q
      clear q
      go_wp2_with fail
      refine Q.out.mono ?_
      rintro e w2 ⟨rfl, hb2⟩
      have hw2 := HS0.out.grow hb2
      obtain ⟨c1, z1⟩ := hw2.2 (j * 3 + 1) _ (List.getElem?_eq_getElem (by rw [List.length_set]; omega))
      have hs1 := hw2.set (j * 3 + 1) (.string (mt (k + 3 * j + 1))) (by rw [List.length_set]; omega)
      obtain ⟨c2, z2⟩ := hs1.2 (j * 3 + 2) _ (List.getElem?_eq_getElem (by rw [List.length_set, List.length_set]; omega))
      have hs2 := hs1.set (j * 3 + 2) (.int .i64 ((k + 3 * j + 2 : Nat) : Int)) (by rw [List.length_set, List.length_set]; omega)
      have hfin := fcs_three ys j (by have := HL.out; omega) (markF (k + 3 * j))
      rw [show (markF (k + 3 * j)).name = mt (k + 3 * j) from rfl, show (markF (k + 3 * j)).text = mt (k + 3 * j + 1) from rfl, show (markF (k + 3 * j)).kept = ((k + 3 * j + 2 : Nat) : Int) from rfl] at hfin
      rw [hfin, show ((k + 3 * j + 2 : Nat) : Int) = (k : Int) + 3 * (j : Int) + 1 + 1 by push_cast; omega] at hs2
      have HS2 : Hid (WCells (((w2.setCell ⟨g, j * 3 + 1, none⟩ (.string (mt (k + 3 * j + 1)))).setCell ⟨g, j * 3 + 2, none⟩ (.int .i64 ((k : Int) + 3 * (j : Int) + 1 + 1)))) g (fcs (ys.set j (markF (k + 3 * j))))) := hs2
      have HG2 : Hid (w.grownBy (((w2.setCell ⟨g, j * 3 + 1, none⟩ (.string (mt (k + 3 * j + 1)))).setCell ⟨g, j * 3 + 2, none⟩ (.int .i64 ((k : Int) + 3 * (j : Int) + 1 + 1)))) (some g)) := grownBy_two HG0.out (grownBy_two (grownBy_below hb2) (grownBy_two (grownBy_setCell w2 g _ _) (grownBy_setCell _ g _ _)))
      clear hb2 hw2 hs1 hs2 hfin Q HS0 HG0
      go_wp2_with fail
      go_roundw
      case rel =>
        refine ⟨j + 1, ys.set j (markF (k + 3 * j)), by go_num, congrArg (Value.int .i64) (by omega), by omega, by rw [List.length_set]; exact HL.out, fun t ht => ?_, ⟨HS2.out⟩, HG2.out⟩
        by_cases hjt : t = j
        · subst hjt
          simp [List.getD, show t < ys.length by have := HL.out; omega]
        · rw [List.getD_eq_getElem?_getD, List.getElem?_set_ne (Ne.symm hjt), ← List.getD_eq_getElem?_getD]
          exact HY.out t (by omega)
      case measure => simp [intOf]; omega
    · have e : j = n := by omega
      subst e
      have hfin := marked_all HL.out HY.out
      subst hfin
      go_wp2_with fail
      go_ret
      exact ⟨rfl, HW.out, HGR.out⟩

set_option maxHeartbeats 1000000 in
theorem heldFileS_any (a : Option Addr) (k n ca : Nat) (w : World) (ha : FRow w a (marksF k n)) (hk : 0 < k) (hn : k + 3 * n ≤ 1000000000) :
    Calls Try.prog 85 #[.slice a n ca, .int .i64 k] w fun e w' => e = .returned (.int .i64 (k + 3 * n : Nat)) ∧ Below w.heap.size w w' := by
  have HA : Hid (FRow w a (marksF k n)) := ha
  clear ha
  go_enter Try.func85, Try.ntmps85
  go_wp2_with fail
  go_loopw [1, 5] (fun c i wr => ∃ (j : Nat), i = .int .i64 j ∧ c = .int .i64 (k + 3 * j : Nat) ∧ j ≤ n ∧ Below w.heap.size w wr) (fun _ i _ => n - (intOf i).toNat)
  case atStart => exact ⟨0, rfl, rfl, Nat.zero_le _, Below.refl _ _⟩
  case round =>
    obtain ⟨j, rfl, rfl, hj, hb⟩ := hrel
    have HB : Hid (Below w.heap.size w wr) := hb
    by_cases hlt : j < n
    · obtain ⟨b, off, rfl, lb, hc⟩ := FRow.at (HA.out.stays hb) (by rw [marksF_len]; omega)
      obtain ⟨d0, d1, d2⟩ := hc j (by rw [marksF_len]; omega)
      rw [marksF_at] at d0 d1 d2
      rw [show (markF (k + 3 * j)).name = mt (k + 3 * j) from rfl] at d0
      rw [show (markF (k + 3 * j)).text = mt (k + 3 * j + 1) from rfl] at d1
      rw [show (markF (k + 3 * j)).kept = (k : Int) + 3 * (j : Int) + 1 + 1 by show ((k + 3 * j + 2 : Nat) : Int) = _; push_cast; omega] at d2
      have j0 : (0 : Int) ≤ (j : Int) := by omega
      have j1 : (j : Int) < (n : Int) := by omega
      have hself1 : ((mt (k + 3 * j)).toList == (mt (k + 3 * j)).toList) = true := by simp
      clear hc hb
      go_wp2_with fail
      go_region_held3 (fun w' => w'.cell? ⟨b, off + j * 3, none⟩ = some (.string (mt (k + 3 * j)))) (first | go_keep | (rw [hb1.cell (p := ⟨b, off + j * 3, none⟩) (by exact lb)]; assumption)) ((go_at_call 67; refine (markText_any (k + 3 * j) _ ?_ ?_).mono ?_; (omega); (omega); rintro e w1 ⟨rfl, hb1⟩))
      all_goals
        have lb1 : b < w1.heap.size := Nat.lt_of_lt_of_le lb hb1.size
        have d1' : w1.cell? ⟨b, off + j * 3 + 1, none⟩ = some (.string (mt (k + 3 * j + 1))) := (hb1.cell (p := ⟨b, off + j * 3 + 1, none⟩) lb).trans d1
        have d2' : w1.cell? ⟨b, off + j * 3 + 2, none⟩ = some (.int .i64 ((k : Int) + 3 * (j : Int) + 1 + 1)) := (hb1.cell (p := ⟨b, off + j * 3 + 2, none⟩) lb).trans d2
        have HB1 : Hid (Below w.heap.size w w1) := HB.out.trans ((Below.drew (Below.refl _ _)).trans (hb1.mono HB.out.size))
        have q : ∀ W : World, Calls Try.prog 67 #[.int .i64 ((k : Int) + 3 * (j : Int) + 1)] W fun e w' => e = .returned (.string (mt (k + 3 * j + 1))) ∧ Below W.heap.size W w' := fun W => by
          have q := markText_any (k + 3 * j + 1) W (by omega) (by omega)
          rwa [show ((k + 3 * j + 1 : Nat) : Int) = (k : Int) + 3 * (j : Int) + 1 by push_cast; rfl] at q
        have Q : Shut (∀ W : World, Calls Try.prog 67 #[.int .i64 ((k : Int) + 3 * (j : Int) + 1)] W fun e w' => e = .returned (.string (mt (k + 3 * j + 1))) ∧ Below W.heap.size W w') := ⟨q⟩
        clear d0 d1 d2 hb1 q
        go_wp2_with fail
        go_region_held3 (fun w' => w'.cell? ⟨b, off + j * 3 + 1, none⟩ = some (.string (mt (k + 3 * j + 1)))) (first | go_keep | (rw [hb2.cell (p := ⟨b, off + j * 3 + 1, none⟩) (by exact lb1)]; assumption)) ((go_at_call 67; refine (Q.out _).mono ?_; rintro e w2 ⟨rfl, hb2⟩))
        all_goals
          have d2'' : w2.cell? ⟨b, off + j * 3 + 2, none⟩ = some (.int .i64 ((k : Int) + 3 * (j : Int) + 1 + 1)) := (hb2.cell (p := ⟨b, off + j * 3 + 2, none⟩) lb1).trans d2'
          have HB2 : Hid (Below w.heap.size w w2) := HB1.out.trans ((Below.drew (Below.refl _ _)).trans (hb2.mono HB1.out.size))
          clear d1' d2' hb2
          go_wp2_with fail
          exact ⟨⟨j + 1, by go_num, congrArg (Value.int .i64) (by omega), by omega, HB2.out⟩, by simp [intOf]; omega⟩
    · have e : j = n := by omega
      subst e
      go_wp2_with fail
      go_ret
      exact ⟨rfl, hb⟩
end Go.Proofs.Ytendbipfmgnjkaa
/- DiskC: The model's walk over a disk: it tells whether the disk is right. -/
namespace Go.Proofs.Ytendbipfmgnjkaa
set_option maxRecDepth 100000
open Go.RowKit
attribute [local go_sem ↓] Go.wp_at_zero Go.wp_at_succ

/-- A file is right by itself. -/
def FOk (f : FM) : Prop := (1 ≤ f.name.size ∧ f.name.size ≤ 8) ∧ f.text.size ≤ 20000 ∧ 0 ≤ f.kept ∧ f.kept ≤ f.text.size
/-- .. and at its place. -/
def FAt (fs : List FM) (k : Nat) : Prop := FOk (fs.getD k default) ∧ (0 < k → Op.bytesLess (fs.getD (k - 1) default).name.toList (fs.getD k default).name.toList = true)
def DOk (fs : List FM) : Prop := fs.length ≤ 30 ∧ ∀ k, k < fs.length → FAt fs k
open Classical in
noncomputable def dOkB (fs : List FM) : Bool := decide (DOk fs)
theorem dOkB_yes {fs : List FM} (h : DOk fs) : dOkB fs = true := by unfold dOkB; simp [h]
theorem dOkB_no {fs : List FM} (h : ¬ DOk fs) : dOkB fs = false := by unfold dOkB; simp [h]
theorem getD_atF (fs : List FM) (k : Nat) (h : k < fs.length) : fs.getD k default = fs[k] := by simp [List.getD, h]

theorem l01In_is (x l m : Int) (w : World) (b : Bool) (h : decide (l ≤ x ∧ x ≤ m) = b) : Calls Try.prog 24 #[.int .i64 x, .int .i64 l, .int .i64 m] w fun e w' => e = .returned (.bool b) ∧ w' = w := by
  have := l01In_anyD x l m w
  rwa [h] at this
end Go.Proofs.Ytendbipfmgnjkaa
/- DiskP: Disks: marks that are laid into one, and found again; what the power leaves of one. -/
namespace Go.Proofs.Ytendbipfmgnjkaa
set_option maxRecDepth 100000
open Go.RowKit
attribute [local go_sem ↓] Go.wp_at_zero Go.wp_at_succ

theorem markDisk_none (a : Option Addr) (k ca : Nat) (w : World) :
    Calls Try.prog 64 #[.agg #[.slice a 0 ca], .int .i64 k] w fun e w' => e = .returned (.int .i64 k) ∧ Below w.heap.size w w' := by
  go_enter Try.func64, Try.ntmps64
  go_wp2_with fail
  refine (markFileS_none a k ca _).mono ?_
  rintro e w1 ⟨rfl, rfl⟩
  go_wp2_with fail
  go_ret
  exact ⟨rfl, (Below.refl _ _).alloc (Nat.le_refl _) _⟩
theorem markDisk_any (g : Nat) (xs : List FM) (k ca : Nat) (w : World) (ha : WCells w g (fcs xs)) (hk : 0 < k) (hn : k + 3 * xs.length ≤ 1000000000) (hca : xs.length ≤ ca) :
    Calls Try.prog 64 #[.agg #[.slice (some ⟨g, 0, none⟩) xs.length ca], .int .i64 k] w fun e w' => MarkPost g k xs.length w e w' := by
  have HA : Hid (WCells (w.alloc (.cells #[.slice (some ⟨g, 0, none⟩) xs.length ca] 40)) g (fcs xs)) := ha.alloc _
  have HG0 : Hid (w.grownBy (w.alloc (.cells #[.slice (some ⟨g, 0, none⟩) xs.length ca] 40)) (some g)) := grownBy_below ((Below.refl _ _).alloc (Nat.le_refl _) _)
  clear ha
  go_enter Try.func64, Try.ntmps64
  go_wp2_with fail
  refine (markFileS_any g xs k ca _ HA.out hk hn hca).mono ?_
  rintro e w1 ⟨rfl, hw1, hg1⟩
  have HW1 : Hid (WCells w1 g (fcs (marksF k xs.length))) := hw1
  have HG1 : Hid (w.grownBy w1 (some g)) := grownBy_two HG0.out hg1
  clear hw1 hg1
  go_wp2_with fail
  go_ret
  exact ⟨rfl, HW1.out, HG1.out⟩
theorem heldDisk_any (a : Option Addr) (k n ca : Nat) (w : World) (ha : FRow w a (marksF k n)) (hk : 0 < k) (hn : k + 3 * n ≤ 1000000000) :
    Calls Try.prog 69 #[.agg #[.slice a n ca], .int .i64 k] w fun e w' => e = .returned (.int .i64 (k + 3 * n : Nat)) ∧ Below w.heap.size w w' := by
  have hb0 : Below w.heap.size w (w.alloc (.cells #[.slice a n ca] 40)) := (Below.refl _ _).alloc (Nat.le_refl _) _
  have HA : Hid (FRow (w.alloc (.cells #[.slice a n ca] 40)) a (marksF k n)) := ha.stays hb0
  have HB0 : Hid (Below w.heap.size w (w.alloc (.cells #[.slice a n ca] 40))) := hb0
  clear ha hb0
  have hneg : ¬ ((k : Int) + 3 * (n : Int)) < 0 := by omega
  go_enter Try.func69, Try.ntmps69
  go_wp2_with fail
  refine (heldFileS_any a k n ca _ HA.out hk hn).mono ?_
  rintro e w1 ⟨rfl, hb1⟩
  have HB1 : Hid (Below w.heap.size w w1) := HB0.out.trans (hb1.mono HB0.out.size)
  clear hb1
  go_wp2_with fail
  go_ret
  exact ⟨by first | rfl | (refine congrArg (fun x => Ending.returned (.int .i64 x)) ?_; push_cast; rfl), HB1.out⟩
end Go.Proofs.Ytendbipfmgnjkaa
/- LsAm: Rows of Leases: marks that are laid into one, and found again (written by gen/mkflat.py). -/
namespace Go.Proofs.Ytendbipfmgnjkaa
set_option maxRecDepth 100000
open Go.RowKit
attribute [local go_sem ↓] Go.wp_at_zero Go.wp_at_succ

def markL (k : Nat) : LsM := ⟨mt (k), ((k + 1 : Nat) : Int), ((k + 2 : Nat) : Int)⟩
def marksL (k n : Nat) : List LsM := (List.range n).map fun j => markL (k + 3 * j)
theorem marksL_len (k n : Nat) : (marksL k n).length = n := by simp [marksL]
theorem marksL_at (k n j : Nat) (h : j < (marksL k n).length) : (marksL k n)[j] = markL (k + 3 * j) := by simp [marksL]
theorem marksL_all {k n : Nat} {ys : List LsM} (hl : ys.length = n) (h : ∀ t, t < n → ys[t]? = some (markL (k + 3 * t))) : ys = marksL k n := by
  apply List.ext_getElem
  · rw [hl, marksL_len]
  · intro i h1 h2
    rw [marksL_at]
    have := h i (by omega)
    rw [List.getElem?_eq_getElem h1] at this
    exact Option.some.inj this
theorem markLeaseS_zero (a : Option Addr) (k ca : Nat) (w : World) :
    Calls Try.prog 65 #[.slice a 0 ca, .int .i64 k] w fun e w' => e = .returned (.int .i64 k) ∧ w' = w := by
  go_enter Try.func65, Try.ntmps65
  go_wp2_with fail
  go_rounds 1
  go_ret
  exact ⟨rfl, rfl⟩
set_option maxHeartbeats 1000000 in
theorem markLeaseS_all (g : Nat) (xs : List LsM) (k ca : Nat) (w : World) (ha : WCells w g (lsS xs)) (hk : 0 < k) (hn : k + 3 * xs.length ≤ 1000000000) (hca : xs.length ≤ ca) :
    Calls Try.prog 65 #[.slice (some ⟨g, 0, none⟩) xs.length ca, .int .i64 k] w fun e w' => e = .returned (.int .i64 (k + 3 * xs.length : Nat)) ∧ WCells w' g (lsS (marksL k xs.length)) ∧ w.grownBy w' (some g) := by
  obtain ⟨n, hnx⟩ : ∃ n, n = xs.length := ⟨_, rfl⟩
  have HN := Shut.mk hnx
  rw [← hnx]
  rw [← hnx] at hn hca
  clear hnx
  have HA := Shut.mk ha
  clear ha
  go_enter Try.func65, Try.ntmps65
  go_wp2_with fail
  go_loopw [1, 5] (fun c i wr => ∃ (j : Nat) (ys : List LsM), i = .int .i64 j ∧ c = .int .i64 (k + 3 * j : Nat) ∧ j ≤ n ∧ Shut (ys.length = n ∧ (∀ t, t < j → ys[t]? = some (markL (k + 3 * t))) ∧ WCells wr g (lsS ys) ∧ w.grownBy wr (some g))) (fun _ i _ => n - (intOf i).toNat)
  case atStart => exact ⟨0, xs, rfl, rfl, Nat.zero_le _, ⟨HN.out.symm, fun t ht => by omega, HA.out, grownBy_below (Below.refl _ _)⟩⟩
  case round =>
    obtain ⟨j, ys, rfl, rfl, hj, HH⟩ := hrel
    by_cases hlt : j < n
    · have j0 : (0 : Int) ≤ (j : Int) := by omega
      have j1 : (j : Int) < (n : Int) := by omega
      have hly : (lsS ys).length = n * 3 := by rw [lsS_len, HH.out.1]
      have hw0 := HH.out.2.2.1
      have Q0 : Shut (∀ W : World, Calls Try.prog 67 #[.int .i64 ((k : Int) + 3 * (j : Int))] W fun e w' => e = .returned (.string (mt (k + 3 * j))) ∧ Below W.heap.size W w') := ⟨fun W => by
        have q := markText_any (k + 3 * j) W (by omega) (by omega)
        rwa [show ((k + 3 * j : Nat) : Int) = (k : Int) + 3 * (j : Int) by push_cast; omega] at q⟩
      go_wp2_with fail
      refine (Q0.out _).mono ?_
      rintro e w0 ⟨rfl, hb0⟩
      have hv0 := hw0.grow hb0
      obtain ⟨c0, z0⟩ := hv0.2 (j * 3) _ (List.getElem?_eq_getElem (by first | omega | (simp only [List.length_set]; omega)))
      have HS0 : Shut (WCells (w0.setCell ⟨g, j * 3, none⟩ (.string (mt (k + 3 * j)))) g ((lsS ys).set (j * 3) (.string (mt (k + 3 * j))))) := ⟨hv0.set (j * 3) _ (by first | omega | (simp only [List.length_set]; omega))⟩
      have HG0 : Shut (w.grownBy (w0.setCell ⟨g, j * 3, none⟩ (.string (mt (k + 3 * j)))) (some g)) := ⟨(grownBy_two (grownBy_two HH.out.2.2.2 (grownBy_below hb0)) (grownBy_setCell _ g _ _))⟩
      obtain ⟨c1, z1⟩ := HS0.out.2 (j * 3 + 1) _ (List.getElem?_eq_getElem (by first | omega | (simp only [List.length_set]; omega)))
      have HS1 : Shut (WCells ((w0.setCell ⟨g, j * 3, none⟩ (.string (mt (k + 3 * j)))).setCell ⟨g, j * 3 + 1, none⟩ (.int .i64 ((k : Int) + 3 * (j : Int) + 1))) g (((lsS ys).set (j * 3) (.string (mt (k + 3 * j)))).set (j * 3 + 1) (.int .i64 ((k : Int) + 3 * (j : Int) + 1)))) := ⟨HS0.out.set (j * 3 + 1) _ (by first | omega | (simp only [List.length_set]; omega))⟩
      have HG1 : Shut (w.grownBy ((w0.setCell ⟨g, j * 3, none⟩ (.string (mt (k + 3 * j)))).setCell ⟨g, j * 3 + 1, none⟩ (.int .i64 ((k : Int) + 3 * (j : Int) + 1))) (some g)) := ⟨(grownBy_two HG0.out (grownBy_setCell _ g _ _))⟩
      obtain ⟨c2, z2⟩ := HS1.out.2 (j * 3 + 2) _ (List.getElem?_eq_getElem (by first | omega | (simp only [List.length_set]; omega)))
      have HS2 : Shut (WCells (((w0.setCell ⟨g, j * 3, none⟩ (.string (mt (k + 3 * j)))).setCell ⟨g, j * 3 + 1, none⟩ (.int .i64 ((k : Int) + 3 * (j : Int) + 1))).setCell ⟨g, j * 3 + 2, none⟩ (.int .i64 ((k : Int) + 3 * (j : Int) + 1 + 1))) g ((((lsS ys).set (j * 3) (.string (mt (k + 3 * j)))).set (j * 3 + 1) (.int .i64 ((k : Int) + 3 * (j : Int) + 1))).set (j * 3 + 2) (.int .i64 ((k : Int) + 3 * (j : Int) + 1 + 1)))) := ⟨HS1.out.set (j * 3 + 2) _ (by first | omega | (simp only [List.length_set]; omega))⟩
      have HG2 : Shut (w.grownBy (((w0.setCell ⟨g, j * 3, none⟩ (.string (mt (k + 3 * j)))).setCell ⟨g, j * 3 + 1, none⟩ (.int .i64 ((k : Int) + 3 * (j : Int) + 1))).setCell ⟨g, j * 3 + 2, none⟩ (.int .i64 ((k : Int) + 3 * (j : Int) + 1 + 1))) (some g)) := ⟨(grownBy_two HG1.out (grownBy_setCell _ g _ _))⟩
      have hE : (⟨mt (k + 3 * j), (k : Int) + 3 * (j : Int) + 1, (k : Int) + 3 * (j : Int) + 1 + 1⟩ : LsM) = markL (k + 3 * j) := by
        unfold markL
        congr 1 <;> (push_cast; omega)
      have HF : Shut (WCells (((w0.setCell ⟨g, j * 3, none⟩ (.string (mt (k + 3 * j)))).setCell ⟨g, j * 3 + 1, none⟩ (.int .i64 ((k : Int) + 3 * (j : Int) + 1))).setCell ⟨g, j * 3 + 2, none⟩ (.int .i64 ((k : Int) + 3 * (j : Int) + 1 + 1))) g (lsS (ys.set j ⟨mt (k + 3 * j), (k : Int) + 3 * (j : Int) + 1, (k : Int) + 3 * (j : Int) + 1 + 1⟩))) := ⟨by
        have hfin : ((((lsS ys).set (j * 3) (.string (mt (k + 3 * j)))).set (j * 3 + 1) (.int .i64 ((k : Int) + 3 * (j : Int) + 1))).set (j * 3 + 2) (.int .i64 ((k : Int) + 3 * (j : Int) + 1 + 1))) = lsS (ys.set j ⟨mt (k + 3 * j), (k : Int) + 3 * (j : Int) + 1, (k : Int) + 3 * (j : Int) + 1 + 1⟩) := flat_setL lsC_len ys j (by have := HH.out.1; omega) (⟨mt (k + 3 * j), (k : Int) + 3 * (j : Int) + 1, (k : Int) + 3 * (j : Int) + 1 + 1⟩ : LsM)
        have q := HS2.out
        rw [hfin] at q
        exact q⟩
      rw [hE] at HF
      clear HS0 HS1 HS2 HG0 HG1 hw0 hb0 hv0 hE
      go_wp2_with fail
      go_roundw
      case rel =>
        refine ⟨j + 1, ys.set j (markL (k + 3 * j)), by go_num, congrArg (Value.int .i64) (by omega), by omega, ⟨by rw [List.length_set]; exact HH.out.1, fun t ht => ?_, ?_, ?_⟩⟩
        rotate_left
        · exact HF.out
        · exact HG2.out
        by_cases hjt : t = j
        · subst hjt
          rw [List.getElem?_set_self (by have := HH.out.1; omega)]
        · rw [List.getElem?_set_ne (Ne.symm hjt)]
          exact HH.out.2.1 t (by omega)
      case measure => simp [intOf]; omega
    · have e : j = n := by omega
      subst e
      have hfin := marksL_all HH.out.1 HH.out.2.1
      subst hfin
      go_wp2_with fail
      go_ret
      exact ⟨rfl, HH.out.2.2.1, HH.out.2.2.2⟩
/-- Marks in a row between two places, or in none. -/
theorem markLeaseS_row (va : Option Addr) (xs : List LsM) (k ca lo hi : Nat) (w : World) (h : FRw w va (lsS xs) lo hi) (hk : 0 < k) (hn : k + 3 * xs.length ≤ 1000000000) (hca : xs.length ≤ ca) :
    Calls Try.prog 65 #[.slice va xs.length ca, .int .i64 k] w fun e w' => e = .returned (.int .i64 (k + 3 * xs.length : Nat)) ∧ FRw w' va (lsS (marksL k xs.length)) lo hi ∧ ∃ row, w.grownBy w' row ∧ ∀ g, row = some g → lo ≤ g ∧ g < hi := by
  rcases h with ⟨rfl, hX⟩ | ⟨g, rfl, h1, h2, h3⟩
  · have e : xs = [] := by
      have := congrArg List.length hX
      rw [lsS_len] at this
      exact List.eq_nil_of_length_eq_zero (by simp at this; omega)
    subst e
    refine (markLeaseS_zero none k ca w).mono ?_
    rintro e w' ⟨rfl, rfl⟩
    exact ⟨by simp, .inl ⟨rfl, by simp [marksL, lsS]⟩, none, ⟨rfl, rfl, rfl, Nat.le_refl _, fun _ _ _ => rfl⟩, by simp⟩
  · refine (markLeaseS_all g xs k ca w h3 hk hn hca).mono ?_
    rintro e w' ⟨rfl, h4, h5⟩
    exact ⟨rfl, .inr ⟨g, rfl, h1, h2, h4⟩, some g, h5, fun g' e => by simp at e; omega⟩
set_option maxHeartbeats 1000000 in
theorem heldLeaseS_any (a : Option Addr) (k n ca : Nat) (w : World) (ha : LsRow w a (marksL k n)) (hk : 0 < k) (hn : k + 3 * n ≤ 1000000000) :
    Calls Try.prog 70 #[.slice a n ca, .int .i64 k] w fun e w' => e = .returned (.int .i64 (k + 3 * n : Nat)) ∧ Below w.heap.size w w' := by
  have HA := Shut.mk ha
  clear ha
  go_enter Try.func70, Try.ntmps70
  go_wp2_with fail
  go_loopw [1, 5] (fun c i wr => ∃ (j : Nat), i = .int .i64 j ∧ c = .int .i64 (k + 3 * j : Nat) ∧ j ≤ n ∧ Below w.heap.size w wr) (fun _ i _ => n - (intOf i).toNat)
  case atStart => exact ⟨0, rfl, rfl, Nat.zero_le _, Below.refl _ _⟩
  case round =>
    obtain ⟨j, rfl, rfl, hj, hb⟩ := hrel
    have HB := Shut.mk hb
    by_cases hlt : j < n
    · obtain ⟨b, off, rfl, lb, hc⟩ := LsRow.at (HA.out.stays hb) (by rw [marksL_len]; omega)
      obtain ⟨d0, d1, d2⟩ := hc j (by rw [marksL_len]; omega)
      rw [marksL_at] at d0 d1 d2
      rw [show (markL (k + 3 * j)).path = mt (k + 3 * j) from rfl] at d0
      rw [show (markL (k + 3 * j)).who = (k : Int) + 3 * (j : Int) + 1 by show ((k + 3 * j + 1 : Nat) : Int) = _; push_cast; omega] at d1
      rw [show (markL (k + 3 * j)).seen = (k : Int) + 3 * (j : Int) + 1 + 1 by show ((k + 3 * j + 2 : Nat) : Int) = _; push_cast; omega] at d2
      have j0 : (0 : Int) ≤ (j : Int) := by omega
      have j1 : (j : Int) < (n : Int) := by omega
      have Q0 : Shut (∀ W : World, Calls Try.prog 67 #[.int .i64 ((k : Int) + 3 * (j : Int))] W fun e w' => e = .returned (.string (mt (k + 3 * j))) ∧ Below W.heap.size W w') := ⟨fun W => by
        have q := markText_any (k + 3 * j) W (by omega) (by omega)
        rwa [show ((k + 3 * j : Nat) : Int) = (k : Int) + 3 * (j : Int) by push_cast; omega] at q⟩
      have hs0 : ((mt (k + 3 * j)).toList == (mt (k + 3 * j)).toList) = true := by simp
      clear hc hb
      go_wp2_with fail
      go_region_held3 (fun w' => w'.cell? ⟨b, off + j * 3, none⟩ = some (.string (mt (k + 3 * j)))) (first | go_keep | (rw [hb0.cell (p := ⟨b, off + j * 3, none⟩) (by exact lb)]; assumption)) ((go_at_call 67; refine (Q0.out _).mono ?_; rintro e w0 ⟨rfl, hb0⟩))
      all_goals
        have lb0 : b < w0.heap.size := Nat.lt_of_lt_of_le lb hb0.size
        replace d1 := (hb0.cell (p := ⟨b, off + j * 3 + 1, none⟩) lb).trans d1
        replace d2 := (hb0.cell (p := ⟨b, off + j * 3 + 2, none⟩) lb).trans d2
        have HB0 : Shut (Below w.heap.size w w0) := ⟨HB.out.trans ((Below.drew (Below.refl _ _)).trans (hb0.mono HB.out.size))⟩
        clear hb0 d0
        go_wp2_with fail
        exact ⟨⟨j + 1, by go_num, congrArg (Value.int .i64) (by omega), by omega, HB0.out⟩, by simp [intOf]; omega⟩
    · have e : j = n := by omega
      subst e
      go_wp2_with fail
      go_ret
      exact ⟨rfl, hb⟩
end Go.Proofs.Ytendbipfmgnjkaa
/- LawTrn: The walk of the exact law over TreeNew, over what is told of the program's own function. -/
namespace Go.Proofs.Ytendbipfmgnjkaa
set_option maxRecDepth 100000
open Go.RowKit
attribute [local go_sem ↓] Go.wp_at_zero Go.wp_at_succ

/-- A tree that was answered, in a box of its own. -/
structure BZ (W : World) (g : Nat) (c : Option Addr) (m cc : Nat) (nx : Int) (T : TM) (lo : Nat) : Prop where
  kp : WCells W g [.slice c m cc, .int .i64 nx]
  cp : TAns W (.agg #[.slice c m cc, .int .i64 nx]) T lo g
theorem BZ.below {W W' : World} {c : Option Addr} {g m cc lo : Nat} {nx : Int} {T : TM} (h : BZ W g c m cc nx T lo) (hb : Below W.heap.size W W') : BZ W' g c m cc nx T lo := ⟨h.kp.grow hb, h.cp.below hb⟩
theorem BZ.turned {W W' : World} {c : Option Addr} {g m cc lo lo' hi' : Nat} {nx : Int} {T : TM} (h : BZ W g c m cc nx T lo) (t : Turned W W' lo' hi') (hd : g < lo') : BZ W' g c m cc nx T lo := ⟨h.kp.turned t (.inl hd), h.cp.turned t (.inl (Nat.le_of_lt hd))⟩
theorem BZ.new {W : World} {c : Option Addr} {m cc lo : Nat} {nx : Int} {T : TM} (h : TAns W (.agg #[.slice c m cc, .int .i64 nx]) T lo W.heap.size) (t : TypeId) : BZ (W.alloc (.cells #[.slice c m cc, .int .i64 nx] t)) W.heap.size c m cc nx T lo := ⟨wcells_new W #[.slice c m cc, .int .i64 nx] t, h.below ((Below.refl _ _).alloc (Nat.le_refl _) _)⟩
theorem tans_form {W : World} {u : Value} {T : TM} {lo hi : Nat} (h : TAns W u T lo hi) : ∃ c m cc, u = .agg #[.slice c m cc, .int .i64 T.next] := by
  obtain ⟨c, cc, ts, rfl, _⟩ := h
  exact ⟨c, _, cc, rfl⟩
theorem newX_fit : NFit newX := by unfold NFit; decide
attribute [local irreducible] newX markK
end Go.Proofs.Ytendbipfmgnjkaa
/- SvN: A new server: its model, its marks, its exact law (written by gen/mksvn.py). -/
namespace Go.Proofs.Ytendbipfmgnjkaa
set_option maxRecDepth 100000
open Go.RowKit BigFrame
attribute [local go_sem ↓] Go.wp_at_zero Go.wp_at_succ

theorem tans_wide {W : World} {v : Value} {T : TM} {lo hi lo' hi' : Nat} (h : TAns W v T lo hi) (h1 : lo' ≤ lo) (h2 : hi ≤ hi') : TAns W v T lo' hi' := by
  obtain ⟨a, cap, rs, e, hr, hc, hx⟩ := h
  refine ⟨a, cap, rs, e, hr, hc, ?_⟩
  rcases hx with rfl | ⟨g, rfl, hm⟩
  · exact .inl rfl
  · exact .inr ⟨g, rfl, hm.wide h1 h2⟩
theorem newX_marks : 0 < markK 1 newX.nodes := by decide
/-- A new server that was answered. -/
def SvNew (T : TM) (nx : Int) (w : World) (e : Ending) (w' : World) : Prop := ∃ (ca da la : Option Addr) (cm cc dc lc : Nat), e = .returned (.agg #[.bool true, .slice ca cm cc, .int .i64 nx, .int .i64 1, .slice da 0 dc, .slice la 0 lc, .int .i64 0]) ∧ TAns w' (.agg #[.slice ca cm cc, .int .i64 nx]) T w.heap.size w'.heap.size ∧ Below w.heap.size w w'
theorem newX_next : newX.next = 2 := rfl
set_option maxRecDepth 100000 in
set_option maxHeartbeats 2000000 in
theorem specServerNew (w : World) : Calls Try.prog 31 #[] w fun e w' => SvNew newX newX.next w e w' := by
  have HT := Shut.mk specTreeNew
  unfold TrPost at HT
  generalize newX = T at *
  obtain ⟨nx, hnx⟩ : ∃ q, q = T.next := ⟨_, rfl⟩
  rw [← hnx]
  have HN := Shut.mk hnx
  clear hnx
  have HS := Shut.mk ((SL.start w).new #[.bool false, .slice none 0 0, .int .i64 0, .int .i64 0, .slice none 0 0, .slice none 0 0, .int .i64 0] 43)
  obtain ⟨b1, hb1⟩ : ∃ q, q = w.heap.size := ⟨_, rfl⟩
  go_enter Try.func31, Try.ntmps31
  go_upto_region 1 with fail
  rw [← hb1] at HS
  refine wp_shade (fun W => SL w W [bxS b1 [.bool false, .slice none 0 0, .int .i64 0, .int .i64 0, .slice none 0 0, .slice none 0 0, .int .i64 0]]) HS.out ?_
  rw [← hb1]
  intro W0 hS0
  have H := Shut.mk hS0
  clear hS0 HS hb1
  go_wp2_with fail
  refine (HT.out _).mono ?_
  rintro e w1 ⟨v1, rfl, hA, hb⟩
  obtain ⟨ca, cm, cc, rfl⟩ := tans_form hA
  rw [← HN.out] at hA ⊢
  replace H := Shut.mk (H.out.add (s := trS (.agg #[.slice ca cm cc, .int .i64 nx]) T W0.heap.size w1.heap.size) hb hA (trS.loc _ _ _ _) (Nat.le_refl _) (Nat.le_refl _))
  clear hA hb
  obtain ⟨r0, s0⟩ := H.out.bx 1 rfl 0 _ rfl
  obtain ⟨r1, s1⟩ := H.out.bx 1 rfl 1 _ rfl
  obtain ⟨r2, s2⟩ := H.out.bx 1 rfl 2 _ rfl
  obtain ⟨r3, s3⟩ := H.out.bx 1 rfl 3 _ rfl
  obtain ⟨r4, s4⟩ := H.out.bx 1 rfl 4 _ rfl
  obtain ⟨r5, s5⟩ := H.out.bx 1 rfl 5 _ rfl
  obtain ⟨r6, s6⟩ := H.out.bx 1 rfl 6 _ rfl
  have HE := Shut.mk ((((((((H.out.put 1 rfl 0 (.bool true) (by simp)).put 1 rfl 1 (.slice ca cm cc) (by simp)).put 1 rfl 2 (.int .i64 nx) (by simp)).put 1 rfl 3 (.int .i64 1) (by simp)).put 1 rfl 4 (.slice none 0 0) (by simp)).put 1 rfl 5 (.slice none 0 0) (by simp)).put 1 rfl 6 (.int .i64 0) (by simp)))
  simp only [List.set_cons_zero, List.set_cons_succ] at HE
  obtain ⟨ht, -, l1, l2⟩ := HE.out.is _ (List.mem_cons_self ..)
  have HX := Shut.mk (tans_wide (show TAns _ (.agg #[.slice ca cm cc, .int .i64 nx]) T W0.heap.size w1.heap.size from ht) l1 l2)
  clear ht l1 l2
  go_wp2_with fail
  refine bodyPost_ret (v := .agg #[.bool true, .slice ca cm cc, .int .i64 nx, .int .i64 1, .slice none 0 0, .slice none 0 0, .int .i64 0]) (by simp [results, Try.results31, go_sem, r0, r1, r2, r3, r4, r5, r6]) rfl ?_
  exact ⟨ca, none, none, cm, cc, 0, 0, rfl, HX.out, HE.out.bel⟩
set_option maxRecDepth 100000 in
set_option maxHeartbeats 2000000 in
theorem markServer_new {w : World} {T : TM} {ca da la : Option Addr} {cm cc dc lc lo hi : Nat} {nx : Int} (k : Nat) (h : TAns w (.agg #[.slice ca cm cc, .int .i64 nx]) T lo hi) (hf : NFit T) (h1 : 1 ≤ k) (hk : k ≤ 1000) (hlo : hi ≤ w.heap.size) :
    Calls Try.prog 36 #[.agg #[.bool true, .slice ca cm cc, .int .i64 nx, .int .i64 1, .slice da 0 dc, .slice la 0 lc, .int .i64 0], .int .i64 k] w fun e w' => e = .returned (.int .i64 (markK k T.nodes : Nat)) ∧ THeld w' (.agg #[.slice ca cm cc, .int .i64 nx]) k T lo hi ∧ Turned w w' lo hi := by
  have HT := Shut.mk (fun (W : World) (hb : Below w.heap.size w W) => markTree_val k (h.below hb) hf h1 hk)
  obtain ⟨kk, hkk⟩ : ∃ q, q = markK k T.nodes := ⟨_, rfl⟩
  rw [← hkk] at HT ⊢
  have HD := Shut.mk (fun (W : World) => markDisk_none da kk dc W)
  have HL := Shut.mk (fun (W : World) => markLeaseS_zero la kk lc W)
  have HH := Shut.mk hlo
  clear h hf hkk hlo
  have HB := Shut.mk ((Below.refl w.heap.size w).alloc (Nat.le_refl _) (.cells #[.bool true, .slice ca cm cc, .int .i64 nx, .int .i64 1, .slice da 0 dc, .slice la 0 lc, .int .i64 0] 43))
  have HC := Shut.mk (wcells_new w #[.bool true, .slice ca cm cc, .int .i64 nx, .int .i64 1, .slice da 0 dc, .slice la 0 lc, .int .i64 0] 43)
  obtain ⟨b1, hb1⟩ : ∃ q, q = w.heap.size := ⟨_, rfl⟩
  go_enter Try.func36, Try.ntmps36
  go_upto_region 1 with fail
  rw [← hb1] at HC
  refine wp_shade (fun W => Below w.heap.size w W ∧ WCells W b1 [.bool true, .slice ca cm cc, .int .i64 nx, .int .i64 1, .slice da 0 dc, .slice la 0 lc, .int .i64 0]) ⟨HB.out, HC.out⟩ ?_
  intro W0 hW
  rw [← hb1]
  replace HB := Shut.mk hW.1
  replace HC := Shut.mk hW.2
  replace HH := Shut.mk (show hi ≤ b1 by rw [hb1]; exact HH.out)
  clear hW hb1
  have x1 := (HC.out.2 1 _ rfl).1
  have x2 := (HC.out.2 2 _ rfl).1
  have x4 := (HC.out.2 4 _ rfl).1
  have x5 := (HC.out.2 5 _ rfl).1
  go_wp2_with fail
  refine (HT.out _ (HB.out)).mono ?_
  rintro e w1 ⟨rfl, hA, ht⟩
  have HX := Shut.mk hA
  have HU := Shut.mk ((Turned.of_below (show Below w.heap.size w W0 from HB.out) lo hi).trans ht)
  replace HC := Shut.mk (HC.out.turned ht (.inr (by have := HH.out; omega)))
  clear hA ht HB HT x1 x2 x4 x5
  have x1 := (HC.out.2 1 _ rfl).1
  have x2 := (HC.out.2 2 _ rfl).1
  have x4 := (HC.out.2 4 _ rfl).1
  have x5 := (HC.out.2 5 _ rfl).1
  go_wp2_with fail
  refine (HD.out _).mono ?_
  rintro e w2 ⟨rfl, hb⟩
  replace HX := Shut.mk (HX.out.below hb)
  replace HU := Shut.mk (HU.out.trans (Turned.of_below hb lo hi))
  replace HC := Shut.mk (HC.out.grow hb)
  clear hb x1 x2 x4 x5
  have x1 := (HC.out.2 1 _ rfl).1
  have x2 := (HC.out.2 2 _ rfl).1
  have x4 := (HC.out.2 4 _ rfl).1
  have x5 := (HC.out.2 5 _ rfl).1
  go_wp2_with fail
  refine (HL.out _).mono ?_
  rintro e w3 ⟨rfl, rfl⟩
  go_wp2_with fail
  go_ret
  exact ⟨rfl, HX.out, HU.out⟩
set_option maxRecDepth 100000 in
set_option maxHeartbeats 2000000 in
theorem heldServer_new {w : World} {T : TM} {ca da la : Option Addr} {cm cc dc lc lo hi : Nat} {nx : Int} {k : Nat} (h : THeld w (.agg #[.slice ca cm cc, .int .i64 nx]) k T lo hi) (hf : NFit T) (h1 : 1 ≤ k) (hk : k ≤ 1000) (hp : 0 < markK k T.nodes) :
    Calls Try.prog 41 #[.agg #[.bool true, .slice ca cm cc, .int .i64 nx, .int .i64 1, .slice da 0 dc, .slice la 0 lc, .int .i64 0], .int .i64 k] w fun e w' => e = .returned (.int .i64 (markK k T.nodes : Nat)) ∧ Below w.heap.size w w' := by
  have HT := Shut.mk (fun (W : World) (hb : Below w.heap.size w W) => heldTree_val (h.below hb) hf h1 hk)
  have hfit := mark_fit hf k hk
  obtain ⟨kk, hkk⟩ : ∃ q, q = markK k T.nodes := ⟨_, rfl⟩
  rw [← hkk] at HT hp hfit ⊢
  have HD := Shut.mk (fun (W : World) => heldDisk_any da kk 0 dc W (fun h => by simp [marksF, fcs] at h) hp (by omega))
  have HL := Shut.mk (fun (W : World) => heldLeaseS_any la kk 0 lc W (fun h => by simp [marksL, lsS] at h) hp (by omega))
  rw [show kk + 3 * 0 = kk by omega] at HD HL
  have hneg : ¬ (kk : Int) < 0 := by omega
  clear h hf hkk hp hfit
  have HB := Shut.mk ((Below.refl w.heap.size w).alloc (Nat.le_refl _) (.cells #[.bool true, .slice ca cm cc, .int .i64 nx, .int .i64 1, .slice da 0 dc, .slice la 0 lc, .int .i64 0] 43))
  have HC := Shut.mk (wcells_new w #[.bool true, .slice ca cm cc, .int .i64 nx, .int .i64 1, .slice da 0 dc, .slice la 0 lc, .int .i64 0] 43)
  obtain ⟨b1, hb1⟩ : ∃ q, q = w.heap.size := ⟨_, rfl⟩
  go_enter Try.func41, Try.ntmps41
  go_upto_region 1 with fail
  rw [← hb1] at HC
  refine wp_shade (fun W => Below w.heap.size w W ∧ WCells W b1 [.bool true, .slice ca cm cc, .int .i64 nx, .int .i64 1, .slice da 0 dc, .slice la 0 lc, .int .i64 0]) ⟨HB.out, HC.out⟩ ?_
  intro W0 hW
  rw [← hb1]
  replace HB := Shut.mk hW.1
  replace HC := Shut.mk hW.2
  clear hW hb1
  have x1 := (HC.out.2 1 _ rfl).1
  have x2 := (HC.out.2 2 _ rfl).1
  have x4 := (HC.out.2 4 _ rfl).1
  have x5 := (HC.out.2 5 _ rfl).1
  go_wp2_with fail
  refine (HT.out _ HB.out).mono ?_
  rintro e w1 ⟨rfl, hb⟩
  replace HB := Shut.mk (HB.out.trans (hb.mono HB.out.size))
  replace HC := Shut.mk (HC.out.grow hb)
  clear hb x1 x2 x4 x5
  have x1 := (HC.out.2 1 _ rfl).1
  have x2 := (HC.out.2 2 _ rfl).1
  have x4 := (HC.out.2 4 _ rfl).1
  have x5 := (HC.out.2 5 _ rfl).1
  go_wp2_with fail
  refine (HD.out _).mono ?_
  rintro e w2 ⟨rfl, hb⟩
  replace HB := Shut.mk (HB.out.trans (hb.mono HB.out.size))
  replace HC := Shut.mk (HC.out.grow hb)
  clear hb x1 x2 x4 x5
  have x1 := (HC.out.2 1 _ rfl).1
  have x2 := (HC.out.2 2 _ rfl).1
  have x4 := (HC.out.2 4 _ rfl).1
  have x5 := (HC.out.2 5 _ rfl).1
  go_wp2_with fail
  refine (HL.out _).mono ?_
  rintro e w3 ⟨rfl, hb⟩
  replace HB := Shut.mk (HB.out.trans (hb.mono HB.out.size))
  replace HC := Shut.mk (HC.out.grow hb)
  clear hb x1 x2 x4 x5
  go_wp2_with fail
  go_ret
  exact ⟨rfl, HB.out⟩
attribute [local irreducible] newX markK
end Go.Proofs.Ytendbipfmgnjkaa
/- SchZ: The schemas, plain, and the walk of the model's SchemaOf. -/
namespace Go.Proofs.Ytendbipfmgnjkaa
set_option maxRecDepth 100000
open Go.RowKit
attribute [local go_sem ↓] Go.wp_at_zero Go.wp_at_succ

def schK (s : Int) : Nat := if s = 1 then 2 else if s = 2 then 3 else if s = 3 then 4 else 0
def schM (s : Int) : Nat := if s = 1 then 1 else if s = 2 then 2 else if s = 3 then 2 else 0
def schOk (s : Int) : Bool := decide (s = 1) || decide (s = 2) || decide (s = 3)
theorem sch_cases {s : Int} (h : schOk s = true) : s = 1 ∨ s = 2 ∨ s = 3 := by
  unfold schOk at h
  simp only [Bool.or_eq_true, decide_eq_true_eq] at h
  omega
theorem sch_no {s : Int} (h : schOk s = false) : s ≠ 1 ∧ s ≠ 2 ∧ s ≠ 3 := by
  unfold schOk at h
  simp only [Bool.or_eq_false_iff, decide_eq_false_iff_not] at h
  omega
theorem sch_bounds {s : Int} (h : schOk s = true) : 2 ≤ schK s ∧ schK s ≤ 4 ∧ 1 ≤ schM s ∧ schM s ≤ 2 := by
  rcases sch_cases h with rfl | rfl | rfl <;> decide
theorem sch_zero {s : Int} (h : schOk s = false) : schK s = 0 ∧ schM s = 0 := by
  obtain ⟨h1, h2, h3⟩ := sch_no h
  unfold schK schM
  rw [if_neg h1, if_neg h2, if_neg h3, if_neg h1, if_neg h2, if_neg h3]
  exact ⟨rfl, rfl⟩
def SchPost (s : Int) (w : World) (e : Ending) (w' : World) : Prop := e = .returned (.tuple #[.int .i64 (schK s : Nat), .int .i64 (schM s : Nat), .bool (schOk s)]) ∧ w' = w
/-- The same, of the program's own. -/
def SchB (s : Int) (w : World) (e : Ending) (w' : World) : Prop := e = .returned (.tuple #[.int .i64 (schK s : Nat), .int .i64 (schM s : Nat), .bool (schOk s)]) ∧ Below w.heap.size w w'
end Go.Proofs.Ytendbipfmgnjkaa
