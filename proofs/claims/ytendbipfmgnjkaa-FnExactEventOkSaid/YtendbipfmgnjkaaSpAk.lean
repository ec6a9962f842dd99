/- The models of EditOf and AskOk (written by gen/mkspak.py). -/
import Derived.Test.YtendbipfmgnjkaaAkP
import Derived.Test.YtendbipfmgnjkaaEdB
namespace Go.Proofs.Ytendbipfmgnjkaa
set_option maxRecDepth 100000
open Go.RowKit
attribute [local go_sem ↓] Go.wp_at_zero Go.wp_at_succ

set_option maxHeartbeats 2000000 in
set_option maxRecDepth 100000 in
theorem specEditOf (q : AkM) (w : World) : Calls Try.prog 52 #[akv q] w fun e w' => e = .returned (ev (edOf q)) ∧ Below w.heap.size w w' := by
  obtain ⟨kind, who, path, dest, text, num⟩ := q
  by_cases h1 : kind = 1
  · subst h1
    rw [show edOf ⟨1, who, path, dest, text, num⟩ = ⟨1, path, ⟨#[]⟩, 0, 0⟩ by simp [edOf]]
    go_enter Try.func52, Try.ntmps52
    go_wp2_with fail
    refine bodyPost_ret (v := ev ⟨1, path, ⟨#[]⟩, 0, 0⟩) (by simp [results, Try.results52, go_sem]) rfl ⟨rfl, ?_⟩
    exact (((Below.refl _ _).alloc (Nat.le_refl _) _).alloc (by simp) _).alloc (by simp; omega) _
  by_cases h2 : kind = 2
  · subst h2
    rw [show edOf ⟨2, who, path, dest, text, num⟩ = ⟨2, path, ⟨#[]⟩, 0, who⟩ by simp [edOf]]
    go_enter Try.func52, Try.ntmps52
    go_wp2_with fail
    refine bodyPost_ret (v := ev ⟨2, path, ⟨#[]⟩, 0, who⟩) (by simp [results, Try.results52, go_sem]) rfl ⟨rfl, ?_⟩
    exact (((Below.refl _ _).alloc (Nat.le_refl _) _).alloc (by simp) _).alloc (by simp; omega) _
  by_cases h3 : kind = 3
  · subst h3
    rw [show edOf ⟨3, who, path, dest, text, num⟩ = ⟨7, path, ⟨#[]⟩, (text.size : Int), 0⟩ by simp [edOf]]
    go_enter Try.func52, Try.ntmps52
    go_wp2_with fail
    refine bodyPost_ret (v := ev ⟨7, path, ⟨#[]⟩, (text.size : Int), 0⟩) (by simp [results, Try.results52, go_sem]) rfl ⟨rfl, ?_⟩
    exact (((Below.refl _ _).alloc (Nat.le_refl _) _).alloc (by simp) _).alloc (by simp; omega) _
  by_cases h4 : kind = 4
  · subst h4
    rw [show edOf ⟨4, who, path, dest, text, num⟩ = ⟨8, path, ⟨#[]⟩, 0, 0⟩ by simp [edOf]]
    go_enter Try.func52, Try.ntmps52
    go_wp2_with fail
    refine bodyPost_ret (v := ev ⟨8, path, ⟨#[]⟩, 0, 0⟩) (by simp [results, Try.results52, go_sem]) rfl ⟨rfl, ?_⟩
    exact (((Below.refl _ _).alloc (Nat.le_refl _) _).alloc (by simp) _).alloc (by simp; omega) _
  by_cases h5 : kind = 5
  · subst h5
    rw [show edOf ⟨5, who, path, dest, text, num⟩ = ⟨3, path, dest, 0, 0⟩ by simp [edOf]]
    go_enter Try.func52, Try.ntmps52
    go_wp2_with fail
    refine bodyPost_ret (v := ev ⟨3, path, dest, 0, 0⟩) (by simp [results, Try.results52, go_sem]) rfl ⟨rfl, ?_⟩
    exact (((Below.refl _ _).alloc (Nat.le_refl _) _).alloc (by simp) _).alloc (by simp; omega) _
  by_cases h6 : kind = 6
  · subst h6
    rw [show edOf ⟨6, who, path, dest, text, num⟩ = ⟨4, path, ⟨#[]⟩, 0, 0⟩ by simp [edOf]]
    go_enter Try.func52, Try.ntmps52
    go_wp2_with fail
    refine bodyPost_ret (v := ev ⟨4, path, ⟨#[]⟩, 0, 0⟩) (by simp [results, Try.results52, go_sem]) rfl ⟨rfl, ?_⟩
    exact (((Below.refl _ _).alloc (Nat.le_refl _) _).alloc (by simp) _).alloc (by simp; omega) _
  by_cases h8 : kind = 8
  · subst h8
    rw [show edOf ⟨8, who, path, dest, text, num⟩ = ⟨5, path, ⟨#[]⟩, num, 0⟩ by simp [edOf]]
    go_enter Try.func52, Try.ntmps52
    go_wp2_with fail
    refine bodyPost_ret (v := ev ⟨5, path, ⟨#[]⟩, num, 0⟩) (by simp [results, Try.results52, go_sem]) rfl ⟨rfl, ?_⟩
    exact (((Below.refl _ _).alloc (Nat.le_refl _) _).alloc (by simp) _).alloc (by simp; omega) _
  by_cases h9 : kind = 9
  · subst h9
    rw [show edOf ⟨9, who, path, dest, text, num⟩ = ⟨6, path, ⟨#[]⟩, num, 0⟩ by simp [edOf]]
    go_enter Try.func52, Try.ntmps52
    go_wp2_with fail
    refine bodyPost_ret (v := ev ⟨6, path, ⟨#[]⟩, num, 0⟩) (by simp [results, Try.results52, go_sem]) rfl ⟨rfl, ?_⟩
    exact (((Below.refl _ _).alloc (Nat.le_refl _) _).alloc (by simp) _).alloc (by simp; omega) _
  by_cases h10 : kind = 10
  · subst h10
    rw [show edOf ⟨10, who, path, dest, text, num⟩ = ⟨9, path, ⟨#[]⟩, 0, who⟩ by simp [edOf]]
    go_enter Try.func52, Try.ntmps52
    go_wp2_with fail
    refine bodyPost_ret (v := ev ⟨9, path, ⟨#[]⟩, 0, who⟩) (by simp [results, Try.results52, go_sem]) rfl ⟨rfl, ?_⟩
    exact (((Below.refl _ _).alloc (Nat.le_refl _) _).alloc (by simp) _).alloc (by simp; omega) _
  rw [show edOf ⟨kind, who, path, dest, text, num⟩ = ⟨0, ⟨#[]⟩, ⟨#[]⟩, 0, 0⟩ by simp [edOf, h1, h2, h3, h4, h5, h6, h8, h9, h10]]
  have g1 : (kind == 1) = false := by simpa using h1
  have g2 : (kind == 2) = false := by simpa using h2
  have g3 : (kind == 3) = false := by simpa using h3
  have g4 : (kind == 4) = false := by simpa using h4
  have g5 : (kind == 5) = false := by simpa using h5
  have g6 : (kind == 6) = false := by simpa using h6
  have g8 : (kind == 8) = false := by simpa using h8
  have g9 : (kind == 9) = false := by simpa using h9
  have g10 : (kind == 10) = false := by simpa using h10
  go_enter Try.func52, Try.ntmps52
  go_wp2_with fail
  refine bodyPost_ret (v := ev ⟨0, ⟨#[]⟩, ⟨#[]⟩, 0, 0⟩) (by simp [results, Try.results52, go_sem]) rfl ⟨rfl, ?_⟩
  exact (((Below.refl _ _).alloc (Nat.le_refl _) _).alloc (by simp) _).alloc (by simp; omega) _
set_option maxHeartbeats 4000000 in
set_option maxRecDepth 100000 in
theorem specAskOk (q : AkM) (w : World) (hp : q.path.size ≤ 1048576) (hd : q.dest.size ≤ 1048576) : Calls Try.prog 25 #[akv q] w fun e w' => e = .returned (.bool (askOk q)) ∧ Below w.heap.size w w' := by
  have HIN := Shut.mk (fun x a b W => isInI x a b W _ rfl)
  have HNM := Shut.mk (fun W => specNamed q.path W hp)
  have HED := Shut.mk (fun W => specEditOf q W)
  have HOK := Shut.mk (fun W => specEditOk (edOf q) W (edOf_fit hp hd))
  obtain ⟨R, hR⟩ : ∃ R, R = askOk q := ⟨_, rfl⟩
  rw [← hR]
  have HR : Shut (R = (inI q.kind 1 10 && inI q.who 1 9 && !(q.kind != 5 && (q.dest.toList != [])) && !(q.kind != 8 && q.kind != 9 && (q.num != 0)) && (if q.kind = 3 then inI (q.text.size : Int) 1 60 else (q.text.toList == [])) && (if q.kind = 7 then named q.path else editOk (edOf q)))) := ⟨hR⟩
  generalize named q.path = nm9 at HNM HR
  generalize editOk (edOf q) = ed9 at HOK HR
  generalize edOf q = E at HED HOK
  clear hR hp hd
  obtain ⟨kind, who, path, dest, text, num⟩ := q
  obtain ⟨ek, ep, edt, en, ew⟩ := E
  dsimp only at *
  by_cases k5 : kind = 5
  · subst k5
    have h1 : inI 5 1 10 = true := rfl
    by_cases h2 : inI who 1 9 = true
    case neg =>
      have h2' : inI who 1 9 = false := by simpa using h2
      go_enter Try.func25, Try.ntmps25
      go_wp2_with (go_at_call 24; refine (HIN.out _ _ _ _).mono ?_; rintro r w1 ⟨rfl, rfl⟩)
      go_ret
      exact ⟨by rw [HR.out]; simp [*], (Below.refl _ _).alloc (Nat.le_refl _) _⟩
    by_cases hn : num = 0
    case neg =>
      have hn' : (num != 0) = true := by simpa using hn
      go_enter Try.func25, Try.ntmps25
      go_wp2_with (go_at_call 24; refine (HIN.out _ _ _ _).mono ?_; rintro r w1 ⟨rfl, rfl⟩)
      go_ret
      exact ⟨by rw [HR.out]; simp [*], (Below.refl _ _).alloc (Nat.le_refl _) _⟩
    subst hn
    by_cases ht : text.toList = []
    case neg =>
      have ht' : (text.toList != []) = true := by simpa using ht
      have hte : text.toList.isEmpty = false := by simpa using ht
      go_enter Try.func25, Try.ntmps25
      go_wp2_with (go_at_call 24; refine (HIN.out _ _ _ _).mono ?_; rintro r w1 ⟨rfl, rfl⟩)
      go_ret
      exact ⟨by rw [HR.out]; simp [*], (Below.refl _ _).alloc (Nat.le_refl _) _⟩
    have ht' : (text.toList != []) = false := by simp [ht]
    have hte : text.toList.isEmpty = true := by simp [ht]
    go_enter Try.func25, Try.ntmps25
    go_wp2_with (first | (go_at_call 24; refine (HIN.out _ _ _ _).mono ?_; rintro r w1 ⟨rfl, rfl⟩) | (go_at_call 50; refine (HNM.out _).mono ?_; rintro r w1 ⟨rfl, hb⟩; have HB := Shut.mk hb; clear hb) | (go_at_call 52; refine (HED.out _).mono ?_; rintro r w1 ⟨rfl, hb⟩; have HB := Shut.mk hb; clear hb) | (go_at_call 51; refine (HOK.out _).mono ?_; rintro r w2 ⟨rfl, hb⟩; have HB2 := Shut.mk hb; clear hb))
    go_ret
    exact ⟨by rw [HR.out]; simp [*], Below.trans (Below.trans ((Below.refl _ _).alloc (Nat.le_refl _) _) (HB.out.mono (by simp))) (HB2.out.mono (by have := HB.out.size; simp at this ⊢; omega))⟩
  by_cases k8 : kind = 8
  · subst k8
    have h1 : inI 8 1 10 = true := rfl
    by_cases h2 : inI who 1 9 = true
    case neg =>
      have h2' : inI who 1 9 = false := by simpa using h2
      go_enter Try.func25, Try.ntmps25
      go_wp2_with (go_at_call 24; refine (HIN.out _ _ _ _).mono ?_; rintro r w1 ⟨rfl, rfl⟩)
      go_ret
      exact ⟨by rw [HR.out]; simp [*], (Below.refl _ _).alloc (Nat.le_refl _) _⟩
    by_cases hd : dest.toList = []
    case neg =>
      have hd' : (dest.toList != []) = true := by simpa using hd
      have hde : dest.toList.isEmpty = false := by simpa using hd
      go_enter Try.func25, Try.ntmps25
      go_wp2_with (go_at_call 24; refine (HIN.out _ _ _ _).mono ?_; rintro r w1 ⟨rfl, rfl⟩)
      go_ret
      exact ⟨by rw [HR.out]; simp [*], (Below.refl _ _).alloc (Nat.le_refl _) _⟩
    have hd' : (dest.toList != []) = false := by simp [hd]
    have hde : dest.toList.isEmpty = true := by simp [hd]
    by_cases ht : text.toList = []
    case neg =>
      have ht' : (text.toList != []) = true := by simpa using ht
      have hte : text.toList.isEmpty = false := by simpa using ht
      go_enter Try.func25, Try.ntmps25
      go_wp2_with (go_at_call 24; refine (HIN.out _ _ _ _).mono ?_; rintro r w1 ⟨rfl, rfl⟩)
      go_ret
      exact ⟨by rw [HR.out]; simp [*], (Below.refl _ _).alloc (Nat.le_refl _) _⟩
    have ht' : (text.toList != []) = false := by simp [ht]
    have hte : text.toList.isEmpty = true := by simp [ht]
    go_enter Try.func25, Try.ntmps25
    go_wp2_with (first | (go_at_call 24; refine (HIN.out _ _ _ _).mono ?_; rintro r w1 ⟨rfl, rfl⟩) | (go_at_call 50; refine (HNM.out _).mono ?_; rintro r w1 ⟨rfl, hb⟩; have HB := Shut.mk hb; clear hb) | (go_at_call 52; refine (HED.out _).mono ?_; rintro r w1 ⟨rfl, hb⟩; have HB := Shut.mk hb; clear hb) | (go_at_call 51; refine (HOK.out _).mono ?_; rintro r w2 ⟨rfl, hb⟩; have HB2 := Shut.mk hb; clear hb))
    go_ret
    exact ⟨by rw [HR.out]; simp [*], Below.trans (Below.trans ((Below.refl _ _).alloc (Nat.le_refl _) _) (HB.out.mono (by simp))) (HB2.out.mono (by have := HB.out.size; simp at this ⊢; omega))⟩
  by_cases k9 : kind = 9
  · subst k9
    have h1 : inI 9 1 10 = true := rfl
    by_cases h2 : inI who 1 9 = true
    case neg =>
      have h2' : inI who 1 9 = false := by simpa using h2
      go_enter Try.func25, Try.ntmps25
      go_wp2_with (go_at_call 24; refine (HIN.out _ _ _ _).mono ?_; rintro r w1 ⟨rfl, rfl⟩)
      go_ret
      exact ⟨by rw [HR.out]; simp [*], (Below.refl _ _).alloc (Nat.le_refl _) _⟩
    by_cases hd : dest.toList = []
    case neg =>
      have hd' : (dest.toList != []) = true := by simpa using hd
      have hde : dest.toList.isEmpty = false := by simpa using hd
      go_enter Try.func25, Try.ntmps25
      go_wp2_with (go_at_call 24; refine (HIN.out _ _ _ _).mono ?_; rintro r w1 ⟨rfl, rfl⟩)
      go_ret
      exact ⟨by rw [HR.out]; simp [*], (Below.refl _ _).alloc (Nat.le_refl _) _⟩
    have hd' : (dest.toList != []) = false := by simp [hd]
    have hde : dest.toList.isEmpty = true := by simp [hd]
    by_cases ht : text.toList = []
    case neg =>
      have ht' : (text.toList != []) = true := by simpa using ht
      have hte : text.toList.isEmpty = false := by simpa using ht
      go_enter Try.func25, Try.ntmps25
      go_wp2_with (go_at_call 24; refine (HIN.out _ _ _ _).mono ?_; rintro r w1 ⟨rfl, rfl⟩)
      go_ret
      exact ⟨by rw [HR.out]; simp [*], (Below.refl _ _).alloc (Nat.le_refl _) _⟩
    have ht' : (text.toList != []) = false := by simp [ht]
    have hte : text.toList.isEmpty = true := by simp [ht]
    go_enter Try.func25, Try.ntmps25
    go_wp2_with (first | (go_at_call 24; refine (HIN.out _ _ _ _).mono ?_; rintro r w1 ⟨rfl, rfl⟩) | (go_at_call 50; refine (HNM.out _).mono ?_; rintro r w1 ⟨rfl, hb⟩; have HB := Shut.mk hb; clear hb) | (go_at_call 52; refine (HED.out _).mono ?_; rintro r w1 ⟨rfl, hb⟩; have HB := Shut.mk hb; clear hb) | (go_at_call 51; refine (HOK.out _).mono ?_; rintro r w2 ⟨rfl, hb⟩; have HB2 := Shut.mk hb; clear hb))
    go_ret
    exact ⟨by rw [HR.out]; simp [*], Below.trans (Below.trans ((Below.refl _ _).alloc (Nat.le_refl _) _) (HB.out.mono (by simp))) (HB2.out.mono (by have := HB.out.size; simp at this ⊢; omega))⟩
  by_cases k3 : kind = 3
  · subst k3
    have h1 : inI 3 1 10 = true := rfl
    by_cases h2 : inI who 1 9 = true
    case neg =>
      have h2' : inI who 1 9 = false := by simpa using h2
      go_enter Try.func25, Try.ntmps25
      go_wp2_with (go_at_call 24; refine (HIN.out _ _ _ _).mono ?_; rintro r w1 ⟨rfl, rfl⟩)
      go_ret
      exact ⟨by rw [HR.out]; simp [*], (Below.refl _ _).alloc (Nat.le_refl _) _⟩
    by_cases hd : dest.toList = []
    case neg =>
      have hd' : (dest.toList != []) = true := by simpa using hd
      have hde : dest.toList.isEmpty = false := by simpa using hd
      go_enter Try.func25, Try.ntmps25
      go_wp2_with (go_at_call 24; refine (HIN.out _ _ _ _).mono ?_; rintro r w1 ⟨rfl, rfl⟩)
      go_ret
      exact ⟨by rw [HR.out]; simp [*], (Below.refl _ _).alloc (Nat.le_refl _) _⟩
    have hd' : (dest.toList != []) = false := by simp [hd]
    have hde : dest.toList.isEmpty = true := by simp [hd]
    by_cases hn : num = 0
    case neg =>
      have hn' : (num != 0) = true := by simpa using hn
      go_enter Try.func25, Try.ntmps25
      go_wp2_with (go_at_call 24; refine (HIN.out _ _ _ _).mono ?_; rintro r w1 ⟨rfl, rfl⟩)
      go_ret
      exact ⟨by rw [HR.out]; simp [*], (Below.refl _ _).alloc (Nat.le_refl _) _⟩
    subst hn
    by_cases ht : inI (text.size : Int) 1 60 = true
    case neg =>
      have ht' : inI (text.size : Int) 1 60 = false := by simpa using ht
      go_enter Try.func25, Try.ntmps25
      go_wp2_with (go_at_call 24; refine (HIN.out _ _ _ _).mono ?_; rintro r w1 ⟨rfl, rfl⟩)
      go_ret
      exact ⟨by rw [HR.out]; simp [*], (Below.refl _ _).alloc (Nat.le_refl _) _⟩
    go_enter Try.func25, Try.ntmps25
    go_wp2_with (first | (go_at_call 24; refine (HIN.out _ _ _ _).mono ?_; rintro r w1 ⟨rfl, rfl⟩) | (go_at_call 50; refine (HNM.out _).mono ?_; rintro r w1 ⟨rfl, hb⟩; have HB := Shut.mk hb; clear hb) | (go_at_call 52; refine (HED.out _).mono ?_; rintro r w1 ⟨rfl, hb⟩; have HB := Shut.mk hb; clear hb) | (go_at_call 51; refine (HOK.out _).mono ?_; rintro r w2 ⟨rfl, hb⟩; have HB2 := Shut.mk hb; clear hb))
    go_ret
    exact ⟨by rw [HR.out]; simp [*], Below.trans (Below.trans ((Below.refl _ _).alloc (Nat.le_refl _) _) (HB.out.mono (by simp))) (HB2.out.mono (by have := HB.out.size; simp at this ⊢; omega))⟩
  by_cases k7 : kind = 7
  · subst k7
    have h1 : inI 7 1 10 = true := rfl
    by_cases h2 : inI who 1 9 = true
    case neg =>
      have h2' : inI who 1 9 = false := by simpa using h2
      go_enter Try.func25, Try.ntmps25
      go_wp2_with (go_at_call 24; refine (HIN.out _ _ _ _).mono ?_; rintro r w1 ⟨rfl, rfl⟩)
      go_ret
      exact ⟨by rw [HR.out]; simp [*], (Below.refl _ _).alloc (Nat.le_refl _) _⟩
    by_cases hd : dest.toList = []
    case neg =>
      have hd' : (dest.toList != []) = true := by simpa using hd
      have hde : dest.toList.isEmpty = false := by simpa using hd
      go_enter Try.func25, Try.ntmps25
      go_wp2_with (go_at_call 24; refine (HIN.out _ _ _ _).mono ?_; rintro r w1 ⟨rfl, rfl⟩)
      go_ret
      exact ⟨by rw [HR.out]; simp [*], (Below.refl _ _).alloc (Nat.le_refl _) _⟩
    have hd' : (dest.toList != []) = false := by simp [hd]
    have hde : dest.toList.isEmpty = true := by simp [hd]
    by_cases hn : num = 0
    case neg =>
      have hn' : (num != 0) = true := by simpa using hn
      go_enter Try.func25, Try.ntmps25
      go_wp2_with (go_at_call 24; refine (HIN.out _ _ _ _).mono ?_; rintro r w1 ⟨rfl, rfl⟩)
      go_ret
      exact ⟨by rw [HR.out]; simp [*], (Below.refl _ _).alloc (Nat.le_refl _) _⟩
    subst hn
    by_cases ht : text.toList = []
    case neg =>
      have ht' : (text.toList != []) = true := by simpa using ht
      have hte : text.toList.isEmpty = false := by simpa using ht
      go_enter Try.func25, Try.ntmps25
      go_wp2_with (go_at_call 24; refine (HIN.out _ _ _ _).mono ?_; rintro r w1 ⟨rfl, rfl⟩)
      go_ret
      exact ⟨by rw [HR.out]; simp [*], (Below.refl _ _).alloc (Nat.le_refl _) _⟩
    have ht' : (text.toList != []) = false := by simp [ht]
    have hte : text.toList.isEmpty = true := by simp [ht]
    go_enter Try.func25, Try.ntmps25
    go_wp2_with (first | (go_at_call 24; refine (HIN.out _ _ _ _).mono ?_; rintro r w1 ⟨rfl, rfl⟩) | (go_at_call 50; refine (HNM.out _).mono ?_; rintro r w1 ⟨rfl, hb⟩; have HB := Shut.mk hb; clear hb) | (go_at_call 52; refine (HED.out _).mono ?_; rintro r w1 ⟨rfl, hb⟩; have HB := Shut.mk hb; clear hb) | (go_at_call 51; refine (HOK.out _).mono ?_; rintro r w2 ⟨rfl, hb⟩; have HB2 := Shut.mk hb; clear hb))
    go_ret
    exact ⟨by rw [HR.out]; simp [*], Below.trans ((Below.refl _ _).alloc (Nat.le_refl _) _) (HB.out.mono (by simp))⟩
  have g5 : (kind != 5) = true := by simpa using k5
  have g8 : (kind != 8) = true := by simpa using k8
  have g9 : (kind != 9) = true := by simpa using k9
  have g3 : (kind == 3) = false := by simpa using k3
  have g7 : (kind == 7) = false := by simpa using k7
  by_cases h1 : inI kind 1 10 = true
  case neg =>
    have h1' : inI kind 1 10 = false := by simpa using h1
    go_enter Try.func25, Try.ntmps25
    go_wp2_with (go_at_call 24; refine (HIN.out _ _ _ _).mono ?_; rintro r w1 ⟨rfl, rfl⟩)
    go_ret
    exact ⟨by rw [HR.out]; simp [*], (Below.refl _ _).alloc (Nat.le_refl _) _⟩
  by_cases h2 : inI who 1 9 = true
  case neg =>
    have h2' : inI who 1 9 = false := by simpa using h2
    go_enter Try.func25, Try.ntmps25
    go_wp2_with (go_at_call 24; refine (HIN.out _ _ _ _).mono ?_; rintro r w1 ⟨rfl, rfl⟩)
    go_ret
    exact ⟨by rw [HR.out]; simp [*], (Below.refl _ _).alloc (Nat.le_refl _) _⟩
  by_cases hd : dest.toList = []
  case neg =>
    have hd' : (dest.toList != []) = true := by simpa using hd
    have hde : dest.toList.isEmpty = false := by simpa using hd
    go_enter Try.func25, Try.ntmps25
    go_wp2_with (go_at_call 24; refine (HIN.out _ _ _ _).mono ?_; rintro r w1 ⟨rfl, rfl⟩)
    go_ret
    exact ⟨by rw [HR.out]; simp [*], (Below.refl _ _).alloc (Nat.le_refl _) _⟩
  have hd' : (dest.toList != []) = false := by simp [hd]
  have hde : dest.toList.isEmpty = true := by simp [hd]
  by_cases hn : num = 0
  case neg =>
    have hn' : (num != 0) = true := by simpa using hn
    go_enter Try.func25, Try.ntmps25
    go_wp2_with (go_at_call 24; refine (HIN.out _ _ _ _).mono ?_; rintro r w1 ⟨rfl, rfl⟩)
    go_ret
    exact ⟨by rw [HR.out]; simp [*], (Below.refl _ _).alloc (Nat.le_refl _) _⟩
  subst hn
  by_cases ht : text.toList = []
  case neg =>
    have ht' : (text.toList != []) = true := by simpa using ht
    have hte : text.toList.isEmpty = false := by simpa using ht
    go_enter Try.func25, Try.ntmps25
    go_wp2_with (go_at_call 24; refine (HIN.out _ _ _ _).mono ?_; rintro r w1 ⟨rfl, rfl⟩)
    go_ret
    exact ⟨by rw [HR.out]; simp [*], (Below.refl _ _).alloc (Nat.le_refl _) _⟩
  have ht' : (text.toList != []) = false := by simp [ht]
  have hte : text.toList.isEmpty = true := by simp [ht]
  go_enter Try.func25, Try.ntmps25
  go_wp2_with (first | (go_at_call 24; refine (HIN.out _ _ _ _).mono ?_; rintro r w1 ⟨rfl, rfl⟩) | (go_at_call 50; refine (HNM.out _).mono ?_; rintro r w1 ⟨rfl, hb⟩; have HB := Shut.mk hb; clear hb) | (go_at_call 52; refine (HED.out _).mono ?_; rintro r w1 ⟨rfl, hb⟩; have HB := Shut.mk hb; clear hb) | (go_at_call 51; refine (HOK.out _).mono ?_; rintro r w2 ⟨rfl, hb⟩; have HB2 := Shut.mk hb; clear hb))
  go_ret
  exact ⟨by rw [HR.out]; simp [*], Below.trans (Below.trans ((Below.refl _ _).alloc (Nat.le_refl _) _) (HB.out.mono (by simp))) (HB2.out.mono (by have := HB.out.size; simp at this ⊢; omega))⟩
end Go.Proofs.Ytendbipfmgnjkaa
