/- Marks that are found again in trees; marks over trees as values. -/
import Derived.Test.YtendbipfmgnjkaaTreH
import Derived.BigQuiet
namespace Go.Proofs.Ytendbipfmgnjkaa
set_option maxRecDepth 100000
open Go.RowKit
attribute [local go_sem ↓] Go.wp_at_zero Go.wp_at_succ

set_option maxHeartbeats 1000000 in
theorem heldPieceS_any (a : Option Addr) (k n ca : Nat) (w : World) (lo hi : Nat) (ha : RRow w a (pcs (markPs k n)) lo hi) (hn : k + 2 * n ≤ 1000000000) :
    Calls Try.prog 98 #[.slice a n ca, .int .i64 k] w fun e w' => e = .returned (.int .i64 (k + 2 * n : Nat)) ∧ Below w.heap.size w w' := by
  have HA := Shut.mk ha
  clear ha
  go_enter Try.func98, Try.ntmps98
  go_wp2_with fail
  go_loopw [1, 5] (fun c i wr => ∃ (j cc : Nat), i = .int .i64 j ∧ c = .int .i64 cc ∧ cc ≤ 1000000000 ∧ j ≤ n ∧ Shut (cc = k + 2 * j) ∧ Shut (Below w.heap.size w wr)) (fun _ i _ => n - (intOf i).toNat)
  case atStart => exact ⟨0, k, rfl, rfl, by omega, Nat.zero_le _, ⟨rfl⟩, ⟨Below.refl _ _⟩⟩
  case round =>
    obtain ⟨j, c, rfl, rfl, hc9, hj, HC, hb⟩ := hrel
    by_cases hlt : j < n
    · have j0 : (0 : Int) ≤ (j : Int) := by omega
      have j1 : (j : Int) < (n : Int) := by omega
      obtain ⟨b, off, rfl, lb, hcell⟩ := pcs_at (HA.out.below hb.out) (by rw [markPs_len]; omega)
      obtain ⟨d0, d1⟩ := hcell j (by rw [markPs_len]; exact hlt)
      rw [markPs_at k n j hlt] at d0 d1
      obtain ⟨c1, e1⟩ : ∃ c1, c1 = c + 1 := ⟨_, rfl⟩
      obtain ⟨c2, e2⟩ : ∃ c2, c2 = c + 2 := ⟨_, rfl⟩
      dsimp only at d0 d1
      rw [show k + 2 * j = c from HC.out.symm] at d0
      rw [show k + 2 * j + 1 = c1 by rw [e1, HC.out]] at d1
      have HCC : Shut (c2 = k + 2 * (j + 1)) := ⟨by have := HC.out; omega⟩
      have i1 : (c : Int) + 1 = (c1 : Int) := by omega
      have i2 : (c1 : Int) + 1 = (c2 : Int) := by omega
      have hb1 : c1 ≤ 1000000001 := by omega
      have hb2 : c2 ≤ 1000000000 := by have := HC.out; omega
      have h1 : ((c : Int) != (c : Int)) = false := by simp
      have h2 : ((c1 : Int) != (c1 : Int)) = false := by simp
      clear e1 e2 hcell
      go_wp2_with fail
      go_roundw
      case rel => exact ⟨j + 1, c2, by go_num, rfl, hb2, by omega, HCC, hb⟩
      case measure => simp [intOf]; omega
    · have HE : Shut (c = k + 2 * n) := ⟨by have := HC.out; omega⟩
      have hlt' : ¬ (j : Int) < (n : Int) := by omega
      go_wp2_with fail
      go_ret
      exact ⟨congrArg (fun x : Int => Ending.returned (.int .i64 x)) (show (c : Int) = _ by have := HE.out; omega), hb.out⟩
theorem markRs_at (k : Nat) (rs : List NR) (i : Nat) (h : i < rs.length) : (markRs k rs)[i]'(by rw [markRs_len]; exact h) = ⟨markN (markK k (nds (rs.take i))) rs[i].nd.pieces.length, rs[i].loc, rs[i].cap⟩ := by
  induction rs generalizing k i with
  | nil => simp at h
  | cons r rs ih =>
    cases i with
    | zero => rfl
    | succ i =>
      simp only [markRs, List.getElem_cons_succ, List.take_succ_cons, nds, List.map_cons, markK]
      exact ih _ i (by simpa using h)
set_option maxRecDepth 100000 in
set_option maxHeartbeats 8000000 in
theorem heldInodeS_any (a : Option Addr) (rs : List NR) (k ca : Nat) (w : World) (lo hi : Nat) (hm : TR w a (markRs k rs) lo hi) (hk : 1 ≤ k) (hn : markK k (nds rs) ≤ 50000000) :
    Calls Try.prog 84 #[.slice a rs.length ca, .int .i64 k] w fun e w' => e = .returned (.int .i64 (markK k (nds rs) : Nat)) ∧ Below w.heap.size w w' := by
  obtain ⟨n, hnx⟩ : ∃ n, n = rs.length := ⟨_, rfl⟩
  have HN := Shut.mk hnx
  have HK := Shut.mk hn
  have hn9 : n ≤ 50000000 := by
    have := markK_low k (nds rs)
    rw [nds_len] at this
    omega
  rw [← hnx]
  have HA := Shut.mk hm
  obtain ⟨K, hKe⟩ : ∃ K, K = markK k (nds rs) := ⟨_, rfl⟩
  rw [← hKe]
  have HKE := Shut.mk hKe
  clear hnx hm hn hKe
  go_enter Try.func84, Try.ntmps84
  go_wp2_with fail
  go_loopw [1, 5] (fun cv iv wr => ∃ (i c : Nat), iv = .int .i64 i ∧ cv = .int .i64 c ∧ c ≤ 50000000 ∧ 1 ≤ c ∧ i ≤ n ∧ Shut (c = markK k (nds (rs.take i))) ∧ Shut (Below w.heap.size w wr)) (fun _ iv _ => n - (intOf iv).toNat)
  case atStart => exact ⟨0, k, rfl, rfl, by have := HK.out; have := (markK_le k (nds rs)).1; omega, hk, Nat.zero_le _, ⟨rfl⟩, ⟨Below.refl _ _⟩⟩
  case round =>
    obtain ⟨i, c, rfl, rfl, hc9, hc1, hin, HC, hbl⟩ := hrel
    by_cases hlt : i < n
    · have j0 : (0 : Int) ≤ (i : Int) := by omega
      have j1 : (i : Int) < (n : Int) := by omega
      have hlr : i < rs.length := by have := HN.out; omega
      have hmr : i < (markRs k rs).length := by rw [markRs_len]; exact hlr
      obtain ⟨b, off, rfl, lb, hcell⟩ := TR.nat (HA.out.below hbl.out) (by omega)
      have hat := hcell i hmr
      have hprow := ((HA.out.below hbl.out).2 _ (List.getElem_mem hmr))
      rw [markRs_at k rs i hlr, ← HC.out] at hat hprow
      have hck : markK k (nds (rs.take (i + 1))) = c + 8 + 2 * rs[i].nd.pieces.length := by rw [List.take_succ_eq_append_getElem hlr, nds_snoc, markK_snoc, ← HC.out]
      have hcb : markK k (nds (rs.take (i + 1))) ≤ 50000000 := by
        have := markK_part k (nds rs) (i + 1)
        have e : (nds rs).take (i + 1) = nds (rs.take (i + 1)) := by unfold nds; rw [List.map_take]
        rw [e] at this
        have := HK.out
        omega
      generalize rs[i].nd.pieces.length = np at *
      generalize rs[i].loc = loc at *
      generalize rs[i].cap = cap at *
      unfold NAt markN at hat
      dsimp only at hat
      unfold markN at hprow
      dsimp only at hprow
      rw [markPs_len] at hat
      obtain ⟨c1, e1⟩ : ∃ c1, c1 = c + 1 := ⟨_, rfl⟩
      obtain ⟨c2, e2⟩ : ∃ c2, c2 = c + 2 := ⟨_, rfl⟩
      obtain ⟨c3, e3⟩ : ∃ c3, c3 = c + 3 := ⟨_, rfl⟩
      obtain ⟨c4, e4⟩ : ∃ c4, c4 = c + 4 := ⟨_, rfl⟩
      obtain ⟨c5, e5⟩ : ∃ c5, c5 = c + 5 := ⟨_, rfl⟩
      obtain ⟨c6, e6⟩ : ∃ c6, c6 = c + 6 := ⟨_, rfl⟩
      obtain ⟨c7, e7'⟩ : ∃ c7, c7 = c + 7 := ⟨_, rfl⟩
      obtain ⟨e7, h7⟩ : ∃ e7, e7 = c + 7 + 2 * np := ⟨_, rfl⟩
      obtain ⟨e8, h8⟩ : ∃ e8, e8 = c + 8 + 2 * np := ⟨_, rfl⟩
      rw [← e1, ← e2, ← e3, ← e4, ← e5, ← e6, ← h7] at hat
      rw [← e7'] at hprow
      have i1 : (c : Int) + 1 = (c1 : Int) := by omega
      have i2 : (c1 : Int) + 1 = (c2 : Int) := by omega
      have i3 : (c2 : Int) + 1 = (c3 : Int) := by omega
      have i4 : (c3 : Int) + 1 = (c4 : Int) := by omega
      have i5 : (c4 : Int) + 1 = (c5 : Int) := by omega
      have i6 : (c5 : Int) + 1 = (c6 : Int) := by omega
      have i7 : (c6 : Int) + 1 = (c7 : Int) := by omega
      have i8 : (e7 : Int) + 1 = (e8 : Int) := by omega
      have q1 : c1 ≤ 60000000 := by omega
      have q2 : c2 ≤ 60000000 := by omega
      have q3 : c3 ≤ 60000000 := by omega
      have q4 : c4 ≤ 60000000 := by omega
      have q5 : c5 ≤ 60000000 := by omega
      have q6 : c6 ≤ 60000000 := by omega
      have q7 : c7 ≤ 60000000 := by omega
      have q8 : e7 ≤ 60000000 := by omega
      have q9 : e8 ≤ 50000000 := by omega
      have q10 : ¬ (e7 : Int) < 0 := by omega
      have n0 : ((c : Int) != (c : Int)) = false := by simp
      have n1 : ((c1 : Int) != (c1 : Int)) = false := by simp
      have n4 : ((c4 : Int) != (c4 : Int)) = false := by simp
      have n5 : ((c5 : Int) != (c5 : Int)) = false := by simp
      have n6 : ((c6 : Int) != (c6 : Int)) = false := by simp
      have n7 : ((e7 : Int) != (e7 : Int)) = false := by simp
      have HMT := Shut.mk (fun W => markText_any c2 W (by omega) (by omega))
      have HPS := Shut.mk (fun W (hW : Below wr.heap.size wr W) => heldPieceS_any loc c7 np cap W lo hi (hprow.below hW) (by omega))
      rw [show c7 + 2 * np = e7 by omega] at HPS
      have HNX : Shut (e8 = markK k (nds (rs.take (i + 1)))) := ⟨by omega⟩
      have hd1 := dir_is c3
      have hd2 := dir_is' c3
      have n2 := same_text (mt c2)
      have n3 : (markDir c3 != markDir c3) = false := by cases markDir c3 <;> rfl
      generalize mt c2 = T2 at *
      generalize markDir c3 = D3 at *
      have HAT := Shut.mk hat
      obtain ⟨d0, d1, d2, _, _, _, _, _, _⟩ := hat
      clear hcell hprow hck hcb e1 e2 e3 e4 e5 e6 e7' h7 h8 HC
      go_wp2_with fail
      go_region_held3 (fun w' => w'.cell? ⟨b, off + i * 9 + 2, none⟩ = some (.string T2))
        (first | go_keep | assumption | (rw [hb1.cell (p := ⟨b, off + i * 9 + 2, none⟩) (by exact lb)]; assumption))
        ((go_at_call 67; refine (HMT.out _).mono ?_; rintro e w1 ⟨rfl, hb1⟩))
      all_goals
        have hb2 : Below wr.heap.size wr w1 := (Below.drew (Below.refl _ _)).trans hb1
        have HB2 := Shut.mk hb2
        have k3 := (hb2.cell (p := ⟨b, off + i * 9 + 3, none⟩) lb).trans HAT.out.2.2.2.1
        have k4 := (hb2.cell (p := ⟨b, off + i * 9 + 4, none⟩) lb).trans HAT.out.2.2.2.2.1
        have k5 := (hb2.cell (p := ⟨b, off + i * 9 + 5, none⟩) lb).trans HAT.out.2.2.2.2.2.1
        have k6 := (hb2.cell (p := ⟨b, off + i * 9 + 6, none⟩) lb).trans HAT.out.2.2.2.2.2.2.1
        have k7 := (hb2.cell (p := ⟨b, off + i * 9 + 7, none⟩) lb).trans HAT.out.2.2.2.2.2.2.2.1
        clear hb1 hb2 d0 d1 d2
        go_wp2_with fail
        refine (HPS.out _ HB2.out).mono ?_
        rintro e w2 ⟨rfl, hb3⟩
        have HB3 := Shut.mk (HB2.out.trans (hb3.mono HB2.out.size))
        have k8 := (HB3.out.cell (p := ⟨b, off + i * 9 + 8, none⟩) lb).trans HAT.out.2.2.2.2.2.2.2.2
        have HB4 := Shut.mk (hbl.out.trans (HB3.out.mono hbl.out.size))
        clear hb3 HB2 HB3 k3 k4 k5 k6 k7
        go_wp2_with fail
        go_roundw
        case rel => exact ⟨i + 1, e8, by go_num, rfl, q9, by omega, by omega, HNX, HB4⟩
        case measure => simp [intOf]; omega
    · have hall : rs.take i = rs := List.take_of_length_le (by have := HN.out; omega)
      have hlt' : ¬ (i : Int) < (n : Int) := by omega
      have HF : Shut (c = K) := ⟨by have := HC.out; rw [hall] at this; rw [this, HKE.out]⟩
      clear hall HC
      go_wp2_with fail
      go_ret
      exact ⟨congrArg (fun x : Nat => Ending.returned (.int .i64 (x : Int))) HF.out, hbl.out⟩
/-- A value that was marked from k on, where it was this tree. -/
def THeld (w : World) (v : Value) (k : Nat) (T : TM) (lo hi : Nat) : Prop := ∃ (a : Option Addr) (cap : Nat) (rs : List NR), v = .agg #[.slice a rs.length cap, .int .i64 T.next] ∧ nds rs = T.nodes ∧ TR w a (markRs k rs) lo hi
theorem THeld.turned {w w' : World} {v : Value} {k : Nat} {T : TM} {lo hi lo' hi' : Nat} (h : THeld w v k T lo hi) (t : Turned w w' lo' hi') (hd : hi ≤ lo' ∨ hi' ≤ lo) : THeld w' v k T lo hi := by
  obtain ⟨a, cap, rs, e, hr, h1⟩ := h
  exact ⟨a, cap, rs, e, hr, h1.turned t hd⟩
theorem THeld.below {w w' : World} {v : Value} {k : Nat} {T : TM} {lo hi : Nat} (h : THeld w v k T lo hi) (hb : Below w.heap.size w w') : THeld w' v k T lo hi := by
  obtain ⟨a, cap, rs, e, hr, h1⟩ := h
  exact ⟨a, cap, rs, e, hr, h1.below hb⟩
theorem markInodeS_nil (a : Option Addr) (k ca : Nat) (w : World) : Calls Try.prog 82 #[.slice a 0 ca, .int .i64 k] w fun e w' => e = .returned (.int .i64 k) ∧ w' = w := by
  go_enter Try.func82, Try.ntmps82
  go_wp2_with fail
  go_rounds 1
  go_ret
  exact ⟨rfl, rfl⟩
theorem mark_fit {T : TM} (hf : NFit T) (k : Nat) (hk : k ≤ 1000) : markK k T.nodes ≤ 50000000 := by
  have := (markK_le k T.nodes).2
  unfold NFit at hf
  omega
set_option maxHeartbeats 1000000 in
theorem markTree_val {w : World} {v : Value} {T : TM} {lo hi : Nat} (k : Nat) (h : TAns w v T lo hi) (hf : NFit T) (h1 : 1 ≤ k) (hk : k ≤ 1000) :
    Calls Try.prog 63 #[v, .int .i64 k] w fun e w' => e = .returned (.int .i64 (markK k T.nodes : Nat)) ∧ THeld w' v k T lo hi ∧ Turned w w' lo hi := by
  obtain ⟨a, cap, rs, rfl, hr, hc, h2⟩ := h
  have hmf := mark_fit hf k hk
  rw [← hr] at hmf
  have hsz : ∀ W, W = w.alloc (.cells #[.slice a rs.length cap, .int .i64 T.next] 37) → Below w.heap.size w W := fun W e => by rw [e]; exact (Below.refl _ _).alloc (Nat.le_refl _) _
  have HB := Shut.mk (hsz _ rfl)
  have HC : Shut (Calls Try.prog 82 #[.slice a rs.length cap, .int .i64 k] (w.alloc (.cells #[.slice a rs.length cap, .int .i64 T.next] 37)) fun e w' => e = .returned (.int .i64 (markK k T.nodes : Nat)) ∧ TR w' a (markRs k rs) lo hi ∧ Turned w w' lo hi) := by
    rcases h2 with rfl | ⟨g, rfl, hm⟩
    · refine ⟨(markInodeS_nil a k cap _).mono ?_⟩
      rintro e w' ⟨rfl, rfl⟩
      have hx : T.nodes = [] := by rw [← hr]; rfl
      exact ⟨by rw [hx]; rfl, GR.nil _ _ _ _ _, Turned.of_below HB.out lo hi⟩
    · refine ⟨(markInodeS_any g rs k cap _ lo hi (hm.below HB.out) h1 hmf).mono ?_⟩
      rintro e w' ⟨rfl, hw', ht⟩
      exact ⟨by rw [hr], hw'.gr, (Turned.of_below HB.out lo hi).trans ht⟩
  have HR := Shut.mk hr
  obtain ⟨m, hme⟩ : ∃ m, m = markK k T.nodes := ⟨_, rfl⟩
  have HME : m ≤ 50000000 := by rw [hme, ← hr]; exact hmf
  rw [← hme] at HC ⊢
  obtain ⟨nx, hnx⟩ : ∃ nx, nx = T.next := ⟨_, rfl⟩
  have HNX := Shut.mk hnx
  rw [← hnx] at HC HB ⊢
  obtain ⟨n, hnl⟩ : ∃ n, n = rs.length := ⟨_, rfl⟩
  have HNL := Shut.mk hnl
  rw [← hnl] at HC HB ⊢
  clear hmf hsz h2 hr hc hf hme hnx hnl
  go_enter Try.func63, Try.ntmps63
  go_wp2_with fail
  refine HC.out.mono ?_
  rintro e w2 ⟨rfl, ht, htu⟩
  have HT := Shut.mk (And.intro ht htu)
  clear ht htu HC
  go_wp2_with fail
  go_ret
  exact ⟨rfl, ⟨a, cap, rs, by rw [HNX.out, HNL.out], HR.out, HT.out.1⟩, HT.out.2⟩
set_option maxHeartbeats 1000000 in
theorem heldTree_val {w : World} {v : Value} {k : Nat} {T : TM} {lo hi : Nat} (h : THeld w v k T lo hi) (hf : NFit T) (h1 : 1 ≤ k) (hk : k ≤ 1000) :
    Calls Try.prog 68 #[v, .int .i64 k] w fun e w' => e = .returned (.int .i64 (markK k T.nodes : Nat)) ∧ Below w.heap.size w w' := by
  obtain ⟨a, cap, rs, rfl, hr, hm⟩ := h
  have hmf := mark_fit hf k hk
  rw [← hr] at hmf
  have HB := Shut.mk (show Below w.heap.size w (w.alloc (.cells #[.slice a rs.length cap, .int .i64 T.next] 37)) from (Below.refl _ _).alloc (Nat.le_refl _) _)
  have HC := Shut.mk (heldInodeS_any a rs k cap _ lo hi (hm.below HB.out) h1 hmf)
  rw [hr] at HC hmf
  obtain ⟨m, hme⟩ : ∃ m, m = markK k T.nodes := ⟨_, rfl⟩
  rw [← hme] at HC hmf ⊢
  generalize T.next = nx at *
  generalize rs.length = n at *
  have hm0 : ¬ (m : Int) < 0 := by omega
  clear hm hr hf hme
  go_enter Try.func68, Try.ntmps68
  go_wp2_with fail
  refine HC.out.mono ?_
  rintro e w2 ⟨rfl, hb⟩
  have HB2 := Shut.mk (HB.out.trans (hb.mono HB.out.size))
  clear hb HC
  go_wp2_with fail
  go_ret
  exact ⟨rfl, HB2.out⟩
end Go.Proofs.Ytendbipfmgnjkaa
