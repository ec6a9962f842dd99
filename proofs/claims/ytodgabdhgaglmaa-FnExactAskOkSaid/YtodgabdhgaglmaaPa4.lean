/- Texts of ours, laid one behind the other: SpAk, AkRo, AkI, ClS, GrwB, GrwC, AkJ, PaI, PaJ. -/
import Derived.Test.YtodgabdhgaglmaaPa3
import Derived.Handy
import Derived.Test.YtodgabdhgaglmaaShelf
import Derived.BigQuiet
import Derived.OrdersHeld
import Derived.WalkSmall
import Derived.Laws.RangeAny
/- SpAk: The models of EditOf and AskOk (written by gen/mkspak.py). -/
namespace Go.Proofs.Ytodgabdhgaglmaa
set_option maxRecDepth 100000
open Go.RowKit
attribute [local go_sem ↓] Go.wp_at_zero Go.wp_at_succ

set_option maxHeartbeats 2000000 in
set_option maxRecDepth 100000 in
theorem specEditOf (q : AkM) (w : World) : Calls Try.prog 15 #[akv q] w fun e w' => e = .returned (ev (edOf q)) ∧ Below w.heap.size w w' := by
  obtain ⟨kind, who, path, dest, text, num⟩ := q
  by_cases h1 : kind = 1
  · subst h1
    rw [show edOf ⟨1, who, path, dest, text, num⟩ = ⟨1, path, ⟨#[]⟩, 0, 0⟩ by simp [edOf]]
    go_enter Try.func15, Try.ntmps15
    go_wp2_with fail
    refine bodyPost_ret (v := ev ⟨1, path, ⟨#[]⟩, 0, 0⟩) (by simp [results, Try.results15, go_sem]) rfl ⟨rfl, ?_⟩
    exact (((Below.refl _ _).alloc (Nat.le_refl _) _).alloc (by simp) _).alloc (by simp; omega) _
  by_cases h2 : kind = 2
  · subst h2
    rw [show edOf ⟨2, who, path, dest, text, num⟩ = ⟨2, path, ⟨#[]⟩, 0, who⟩ by simp [edOf]]
    go_enter Try.func15, Try.ntmps15
    go_wp2_with fail
    refine bodyPost_ret (v := ev ⟨2, path, ⟨#[]⟩, 0, who⟩) (by simp [results, Try.results15, go_sem]) rfl ⟨rfl, ?_⟩
    exact (((Below.refl _ _).alloc (Nat.le_refl _) _).alloc (by simp) _).alloc (by simp; omega) _
  by_cases h3 : kind = 3
  · subst h3
    rw [show edOf ⟨3, who, path, dest, text, num⟩ = ⟨7, path, ⟨#[]⟩, (text.size : Int), 0⟩ by simp [edOf]]
    go_enter Try.func15, Try.ntmps15
    go_wp2_with fail
    refine bodyPost_ret (v := ev ⟨7, path, ⟨#[]⟩, (text.size : Int), 0⟩) (by simp [results, Try.results15, go_sem]) rfl ⟨rfl, ?_⟩
    exact (((Below.refl _ _).alloc (Nat.le_refl _) _).alloc (by simp) _).alloc (by simp; omega) _
  by_cases h4 : kind = 4
  · subst h4
    rw [show edOf ⟨4, who, path, dest, text, num⟩ = ⟨8, path, ⟨#[]⟩, 0, 0⟩ by simp [edOf]]
    go_enter Try.func15, Try.ntmps15
    go_wp2_with fail
    refine bodyPost_ret (v := ev ⟨8, path, ⟨#[]⟩, 0, 0⟩) (by simp [results, Try.results15, go_sem]) rfl ⟨rfl, ?_⟩
    exact (((Below.refl _ _).alloc (Nat.le_refl _) _).alloc (by simp) _).alloc (by simp; omega) _
  by_cases h5 : kind = 5
  · subst h5
    rw [show edOf ⟨5, who, path, dest, text, num⟩ = ⟨3, path, dest, 0, 0⟩ by simp [edOf]]
    go_enter Try.func15, Try.ntmps15
    go_wp2_with fail
    refine bodyPost_ret (v := ev ⟨3, path, dest, 0, 0⟩) (by simp [results, Try.results15, go_sem]) rfl ⟨rfl, ?_⟩
    exact (((Below.refl _ _).alloc (Nat.le_refl _) _).alloc (by simp) _).alloc (by simp; omega) _
  by_cases h6 : kind = 6
  · subst h6
    rw [show edOf ⟨6, who, path, dest, text, num⟩ = ⟨4, path, ⟨#[]⟩, 0, 0⟩ by simp [edOf]]
    go_enter Try.func15, Try.ntmps15
    go_wp2_with fail
    refine bodyPost_ret (v := ev ⟨4, path, ⟨#[]⟩, 0, 0⟩) (by simp [results, Try.results15, go_sem]) rfl ⟨rfl, ?_⟩
    exact (((Below.refl _ _).alloc (Nat.le_refl _) _).alloc (by simp) _).alloc (by simp; omega) _
  by_cases h8 : kind = 8
  · subst h8
    rw [show edOf ⟨8, who, path, dest, text, num⟩ = ⟨5, path, ⟨#[]⟩, num, 0⟩ by simp [edOf]]
    go_enter Try.func15, Try.ntmps15
    go_wp2_with fail
    refine bodyPost_ret (v := ev ⟨5, path, ⟨#[]⟩, num, 0⟩) (by simp [results, Try.results15, go_sem]) rfl ⟨rfl, ?_⟩
    exact (((Below.refl _ _).alloc (Nat.le_refl _) _).alloc (by simp) _).alloc (by simp; omega) _
  by_cases h9 : kind = 9
  · subst h9
    rw [show edOf ⟨9, who, path, dest, text, num⟩ = ⟨6, path, ⟨#[]⟩, num, 0⟩ by simp [edOf]]
    go_enter Try.func15, Try.ntmps15
    go_wp2_with fail
    refine bodyPost_ret (v := ev ⟨6, path, ⟨#[]⟩, num, 0⟩) (by simp [results, Try.results15, go_sem]) rfl ⟨rfl, ?_⟩
    exact (((Below.refl _ _).alloc (Nat.le_refl _) _).alloc (by simp) _).alloc (by simp; omega) _
  by_cases h10 : kind = 10
  · subst h10
    rw [show edOf ⟨10, who, path, dest, text, num⟩ = ⟨9, path, ⟨#[]⟩, 0, who⟩ by simp [edOf]]
    go_enter Try.func15, Try.ntmps15
    go_wp2_with fail
    refine bodyPost_ret (v := ev ⟨9, path, ⟨#[]⟩, 0, who⟩) (by simp [results, Try.results15, go_sem]) rfl ⟨rfl, ?_⟩
    exact (((Below.refl _ _).alloc (Nat.le_refl _) _).alloc (by simp) _).alloc (by simp; omega) _
  rw [show edOf ⟨kind, who, path, dest, text, num⟩ = ⟨0, ⟨#[]⟩, ⟨#[]⟩, 0, 0⟩ by simp [edOf, h1, h2, h3, h4, h5, h6, h8, h9, h10]]
  have g1 : (kind == 1) = false := by simpa using h1
  have g2 : (kind == 2) = false := by simpa using h2
  have g3 : (kind == 3) = false := by simpa using h3
  have g4 : (kind == 4) = false := by simpa using h4
  have g5 : (kind == 5) = false := by simpa using h5
  have g6 : (kind == 6) = false := by simpa using h6
  have g8 : (kind == 8) = false := by simpa using h8
  have g9 : (kind == 9) = false := by simpa using h9
  have g10 : (kind == 10) = false := by simpa using h10
  go_enter Try.func15, Try.ntmps15
  go_wp2_with fail
  refine bodyPost_ret (v := ev ⟨0, ⟨#[]⟩, ⟨#[]⟩, 0, 0⟩) (by simp [results, Try.results15, go_sem]) rfl ⟨rfl, ?_⟩
  exact (((Below.refl _ _).alloc (Nat.le_refl _) _).alloc (by simp) _).alloc (by simp; omega) _
set_option maxHeartbeats 4000000 in
set_option maxRecDepth 100000 in
theorem specAskOk (q : AkM) (w : World) (hp : q.path.size ≤ 1048576) (hd : q.dest.size ≤ 1048576) : Calls Try.prog 7 #[akv q] w fun e w' => e = .returned (.bool (askOk q)) ∧ Below w.heap.size w w' := by
  have HIN := Shut.mk (fun x a b W => isInI x a b W _ rfl)
  have HNM := Shut.mk (fun W => specNamed q.path W hp)
  have HED := Shut.mk (fun W => specEditOf q W)
  have HOK := Shut.mk (fun W => specEditOk (edOf q) W (edOf_fit hp hd))
  obtain ⟨R, hR⟩ : ∃ R, R = askOk q := ⟨_, rfl⟩
  rw [← hR]
  have HR : Shut (R = (inI q.kind 1 10 && inI q.who 1 9 && !(q.kind != 5 && (q.dest.toList != [])) && !(q.kind != 8 && q.kind != 9 && (q.num != 0)) && (if q.kind = 3 then inI (q.text.size : Int) 1 60 else (q.text.toList == [])) && (if q.kind = 7 then named q.path else editOk (edOf q)))) := ⟨hR⟩
  generalize named q.path = nm9 at HNM HR
  generalize editOk (edOf q) = ed9 at HOK HR
  generalize edOf q = E at HED HOK
  clear hR hp hd
  obtain ⟨kind, who, path, dest, text, num⟩ := q
  obtain ⟨ek, ep, edt, en, ew⟩ := E
  dsimp only at *
  by_cases k5 : kind = 5
  · subst k5
    have h1 : inI 5 1 10 = true := rfl
    by_cases h2 : inI who 1 9 = true
    case neg =>
      have h2' : inI who 1 9 = false := by simpa using h2
      go_enter Try.func7, Try.ntmps7
      go_wp2_with (go_at_call 18; refine (HIN.out _ _ _ _).mono ?_; rintro r w1 ⟨rfl, rfl⟩)
      go_ret
      exact ⟨by rw [HR.out]; simp [*], (Below.refl _ _).alloc (Nat.le_refl _) _⟩
    by_cases hn : num = 0
    case neg =>
      have hn' : (num != 0) = true := by simpa using hn
      go_enter Try.func7, Try.ntmps7
      go_wp2_with (go_at_call 18; refine (HIN.out _ _ _ _).mono ?_; rintro r w1 ⟨rfl, rfl⟩)
      go_ret
      exact ⟨by rw [HR.out]; simp [*], (Below.refl _ _).alloc (Nat.le_refl _) _⟩
    subst hn
    by_cases ht : text.toList = []
    case neg =>
      have ht' : (text.toList != []) = true := by simpa using ht
      have hte : text.toList.isEmpty = false := by simpa using ht
      go_enter Try.func7, Try.ntmps7
      go_wp2_with (go_at_call 18; refine (HIN.out _ _ _ _).mono ?_; rintro r w1 ⟨rfl, rfl⟩)
      go_ret
      exact ⟨by rw [HR.out]; simp [*], (Below.refl _ _).alloc (Nat.le_refl _) _⟩
    have ht' : (text.toList != []) = false := by simp [ht]
    have hte : text.toList.isEmpty = true := by simp [ht]
    go_enter Try.func7, Try.ntmps7
    go_wp2_with (first | (go_at_call 18; refine (HIN.out _ _ _ _).mono ?_; rintro r w1 ⟨rfl, rfl⟩) | (go_at_call 19; refine (HNM.out _).mono ?_; rintro r w1 ⟨rfl, hb⟩; have HB := Shut.mk hb; clear hb) | (go_at_call 15; refine (HED.out _).mono ?_; rintro r w1 ⟨rfl, hb⟩; have HB := Shut.mk hb; clear hb) | (go_at_call 20; refine (HOK.out _).mono ?_; rintro r w2 ⟨rfl, hb⟩; have HB2 := Shut.mk hb; clear hb))
    go_ret
    exact ⟨by rw [HR.out]; simp [*], Below.trans (Below.trans ((Below.refl _ _).alloc (Nat.le_refl _) _) (HB.out.mono (by simp))) (HB2.out.mono (by have := HB.out.size; simp at this ⊢; omega))⟩
  by_cases k8 : kind = 8
  · subst k8
    have h1 : inI 8 1 10 = true := rfl
    by_cases h2 : inI who 1 9 = true
    case neg =>
      have h2' : inI who 1 9 = false := by simpa using h2
      go_enter Try.func7, Try.ntmps7
      go_wp2_with (go_at_call 18; refine (HIN.out _ _ _ _).mono ?_; rintro r w1 ⟨rfl, rfl⟩)
      go_ret
      exact ⟨by rw [HR.out]; simp [*], (Below.refl _ _).alloc (Nat.le_refl _) _⟩
    by_cases hd : dest.toList = []
    case neg =>
      have hd' : (dest.toList != []) = true := by simpa using hd
      have hde : dest.toList.isEmpty = false := by simpa using hd
      go_enter Try.func7, Try.ntmps7
      go_wp2_with (go_at_call 18; refine (HIN.out _ _ _ _).mono ?_; rintro r w1 ⟨rfl, rfl⟩)
      go_ret
      exact ⟨by rw [HR.out]; simp [*], (Below.refl _ _).alloc (Nat.le_refl _) _⟩
    have hd' : (dest.toList != []) = false := by simp [hd]
    have hde : dest.toList.isEmpty = true := by simp [hd]
    by_cases ht : text.toList = []
    case neg =>
      have ht' : (text.toList != []) = true := by simpa using ht
      have hte : text.toList.isEmpty = false := by simpa using ht
      go_enter Try.func7, Try.ntmps7
      go_wp2_with (go_at_call 18; refine (HIN.out _ _ _ _).mono ?_; rintro r w1 ⟨rfl, rfl⟩)
      go_ret
      exact ⟨by rw [HR.out]; simp [*], (Below.refl _ _).alloc (Nat.le_refl _) _⟩
    have ht' : (text.toList != []) = false := by simp [ht]
    have hte : text.toList.isEmpty = true := by simp [ht]
    go_enter Try.func7, Try.ntmps7
    go_wp2_with (first | (go_at_call 18; refine (HIN.out _ _ _ _).mono ?_; rintro r w1 ⟨rfl, rfl⟩) | (go_at_call 19; refine (HNM.out _).mono ?_; rintro r w1 ⟨rfl, hb⟩; have HB := Shut.mk hb; clear hb) | (go_at_call 15; refine (HED.out _).mono ?_; rintro r w1 ⟨rfl, hb⟩; have HB := Shut.mk hb; clear hb) | (go_at_call 20; refine (HOK.out _).mono ?_; rintro r w2 ⟨rfl, hb⟩; have HB2 := Shut.mk hb; clear hb))
    go_ret
    exact ⟨by rw [HR.out]; simp [*], Below.trans (Below.trans ((Below.refl _ _).alloc (Nat.le_refl _) _) (HB.out.mono (by simp))) (HB2.out.mono (by have := HB.out.size; simp at this ⊢; omega))⟩
  by_cases k9 : kind = 9
  · subst k9
    have h1 : inI 9 1 10 = true := rfl
    by_cases h2 : inI who 1 9 = true
    case neg =>
      have h2' : inI who 1 9 = false := by simpa using h2
      go_enter Try.func7, Try.ntmps7
      go_wp2_with (go_at_call 18; refine (HIN.out _ _ _ _).mono ?_; rintro r w1 ⟨rfl, rfl⟩)
      go_ret
      exact ⟨by rw [HR.out]; simp [*], (Below.refl _ _).alloc (Nat.le_refl _) _⟩
    by_cases hd : dest.toList = []
    case neg =>
      have hd' : (dest.toList != []) = true := by simpa using hd
      have hde : dest.toList.isEmpty = false := by simpa using hd
      go_enter Try.func7, Try.ntmps7
      go_wp2_with (go_at_call 18; refine (HIN.out _ _ _ _).mono ?_; rintro r w1 ⟨rfl, rfl⟩)
      go_ret
      exact ⟨by rw [HR.out]; simp [*], (Below.refl _ _).alloc (Nat.le_refl _) _⟩
    have hd' : (dest.toList != []) = false := by simp [hd]
    have hde : dest.toList.isEmpty = true := by simp [hd]
    by_cases ht : text.toList = []
    case neg =>
      have ht' : (text.toList != []) = true := by simpa using ht
      have hte : text.toList.isEmpty = false := by simpa using ht
      go_enter Try.func7, Try.ntmps7
      go_wp2_with (go_at_call 18; refine (HIN.out _ _ _ _).mono ?_; rintro r w1 ⟨rfl, rfl⟩)
      go_ret
      exact ⟨by rw [HR.out]; simp [*], (Below.refl _ _).alloc (Nat.le_refl _) _⟩
    have ht' : (text.toList != []) = false := by simp [ht]
    have hte : text.toList.isEmpty = true := by simp [ht]
    go_enter Try.func7, Try.ntmps7
    go_wp2_with (first | (go_at_call 18; refine (HIN.out _ _ _ _).mono ?_; rintro r w1 ⟨rfl, rfl⟩) | (go_at_call 19; refine (HNM.out _).mono ?_; rintro r w1 ⟨rfl, hb⟩; have HB := Shut.mk hb; clear hb) | (go_at_call 15; refine (HED.out _).mono ?_; rintro r w1 ⟨rfl, hb⟩; have HB := Shut.mk hb; clear hb) | (go_at_call 20; refine (HOK.out _).mono ?_; rintro r w2 ⟨rfl, hb⟩; have HB2 := Shut.mk hb; clear hb))
    go_ret
    exact ⟨by rw [HR.out]; simp [*], Below.trans (Below.trans ((Below.refl _ _).alloc (Nat.le_refl _) _) (HB.out.mono (by simp))) (HB2.out.mono (by have := HB.out.size; simp at this ⊢; omega))⟩
  by_cases k3 : kind = 3
  · subst k3
    have h1 : inI 3 1 10 = true := rfl
    by_cases h2 : inI who 1 9 = true
    case neg =>
      have h2' : inI who 1 9 = false := by simpa using h2
      go_enter Try.func7, Try.ntmps7
      go_wp2_with (go_at_call 18; refine (HIN.out _ _ _ _).mono ?_; rintro r w1 ⟨rfl, rfl⟩)
      go_ret
      exact ⟨by rw [HR.out]; simp [*], (Below.refl _ _).alloc (Nat.le_refl _) _⟩
    by_cases hd : dest.toList = []
    case neg =>
      have hd' : (dest.toList != []) = true := by simpa using hd
      have hde : dest.toList.isEmpty = false := by simpa using hd
      go_enter Try.func7, Try.ntmps7
      go_wp2_with (go_at_call 18; refine (HIN.out _ _ _ _).mono ?_; rintro r w1 ⟨rfl, rfl⟩)
      go_ret
      exact ⟨by rw [HR.out]; simp [*], (Below.refl _ _).alloc (Nat.le_refl _) _⟩
    have hd' : (dest.toList != []) = false := by simp [hd]
    have hde : dest.toList.isEmpty = true := by simp [hd]
    by_cases hn : num = 0
    case neg =>
      have hn' : (num != 0) = true := by simpa using hn
      go_enter Try.func7, Try.ntmps7
      go_wp2_with (go_at_call 18; refine (HIN.out _ _ _ _).mono ?_; rintro r w1 ⟨rfl, rfl⟩)
      go_ret
      exact ⟨by rw [HR.out]; simp [*], (Below.refl _ _).alloc (Nat.le_refl _) _⟩
    subst hn
    by_cases ht : inI (text.size : Int) 1 60 = true
    case neg =>
      have ht' : inI (text.size : Int) 1 60 = false := by simpa using ht
      go_enter Try.func7, Try.ntmps7
      go_wp2_with (go_at_call 18; refine (HIN.out _ _ _ _).mono ?_; rintro r w1 ⟨rfl, rfl⟩)
      go_ret
      exact ⟨by rw [HR.out]; simp [*], (Below.refl _ _).alloc (Nat.le_refl _) _⟩
    go_enter Try.func7, Try.ntmps7
    go_wp2_with (first | (go_at_call 18; refine (HIN.out _ _ _ _).mono ?_; rintro r w1 ⟨rfl, rfl⟩) | (go_at_call 19; refine (HNM.out _).mono ?_; rintro r w1 ⟨rfl, hb⟩; have HB := Shut.mk hb; clear hb) | (go_at_call 15; refine (HED.out _).mono ?_; rintro r w1 ⟨rfl, hb⟩; have HB := Shut.mk hb; clear hb) | (go_at_call 20; refine (HOK.out _).mono ?_; rintro r w2 ⟨rfl, hb⟩; have HB2 := Shut.mk hb; clear hb))
    go_ret
    exact ⟨by rw [HR.out]; simp [*], Below.trans (Below.trans ((Below.refl _ _).alloc (Nat.le_refl _) _) (HB.out.mono (by simp))) (HB2.out.mono (by have := HB.out.size; simp at this ⊢; omega))⟩
  by_cases k7 : kind = 7
  · subst k7
    have h1 : inI 7 1 10 = true := rfl
    by_cases h2 : inI who 1 9 = true
    case neg =>
      have h2' : inI who 1 9 = false := by simpa using h2
      go_enter Try.func7, Try.ntmps7
      go_wp2_with (go_at_call 18; refine (HIN.out _ _ _ _).mono ?_; rintro r w1 ⟨rfl, rfl⟩)
      go_ret
      exact ⟨by rw [HR.out]; simp [*], (Below.refl _ _).alloc (Nat.le_refl _) _⟩
    by_cases hd : dest.toList = []
    case neg =>
      have hd' : (dest.toList != []) = true := by simpa using hd
      have hde : dest.toList.isEmpty = false := by simpa using hd
      go_enter Try.func7, Try.ntmps7
      go_wp2_with (go_at_call 18; refine (HIN.out _ _ _ _).mono ?_; rintro r w1 ⟨rfl, rfl⟩)
      go_ret
      exact ⟨by rw [HR.out]; simp [*], (Below.refl _ _).alloc (Nat.le_refl _) _⟩
    have hd' : (dest.toList != []) = false := by simp [hd]
    have hde : dest.toList.isEmpty = true := by simp [hd]
    by_cases hn : num = 0
    case neg =>
      have hn' : (num != 0) = true := by simpa using hn
      go_enter Try.func7, Try.ntmps7
      go_wp2_with (go_at_call 18; refine (HIN.out _ _ _ _).mono ?_; rintro r w1 ⟨rfl, rfl⟩)
      go_ret
      exact ⟨by rw [HR.out]; simp [*], (Below.refl _ _).alloc (Nat.le_refl _) _⟩
    subst hn
    by_cases ht : text.toList = []
    case neg =>
      have ht' : (text.toList != []) = true := by simpa using ht
      have hte : text.toList.isEmpty = false := by simpa using ht
      go_enter Try.func7, Try.ntmps7
      go_wp2_with (go_at_call 18; refine (HIN.out _ _ _ _).mono ?_; rintro r w1 ⟨rfl, rfl⟩)
      go_ret
      exact ⟨by rw [HR.out]; simp [*], (Below.refl _ _).alloc (Nat.le_refl _) _⟩
    have ht' : (text.toList != []) = false := by simp [ht]
    have hte : text.toList.isEmpty = true := by simp [ht]
    go_enter Try.func7, Try.ntmps7
    go_wp2_with (first | (go_at_call 18; refine (HIN.out _ _ _ _).mono ?_; rintro r w1 ⟨rfl, rfl⟩) | (go_at_call 19; refine (HNM.out _).mono ?_; rintro r w1 ⟨rfl, hb⟩; have HB := Shut.mk hb; clear hb) | (go_at_call 15; refine (HED.out _).mono ?_; rintro r w1 ⟨rfl, hb⟩; have HB := Shut.mk hb; clear hb) | (go_at_call 20; refine (HOK.out _).mono ?_; rintro r w2 ⟨rfl, hb⟩; have HB2 := Shut.mk hb; clear hb))
    go_ret
    exact ⟨by rw [HR.out]; simp [*], Below.trans ((Below.refl _ _).alloc (Nat.le_refl _) _) (HB.out.mono (by simp))⟩
  have g5 : (kind != 5) = true := by simpa using k5
  have g8 : (kind != 8) = true := by simpa using k8
  have g9 : (kind != 9) = true := by simpa using k9
  have g3 : (kind == 3) = false := by simpa using k3
  have g7 : (kind == 7) = false := by simpa using k7
  by_cases h1 : inI kind 1 10 = true
  case neg =>
    have h1' : inI kind 1 10 = false := by simpa using h1
    go_enter Try.func7, Try.ntmps7
    go_wp2_with (go_at_call 18; refine (HIN.out _ _ _ _).mono ?_; rintro r w1 ⟨rfl, rfl⟩)
    go_ret
    exact ⟨by rw [HR.out]; simp [*], (Below.refl _ _).alloc (Nat.le_refl _) _⟩
  by_cases h2 : inI who 1 9 = true
  case neg =>
    have h2' : inI who 1 9 = false := by simpa using h2
    go_enter Try.func7, Try.ntmps7
    go_wp2_with (go_at_call 18; refine (HIN.out _ _ _ _).mono ?_; rintro r w1 ⟨rfl, rfl⟩)
    go_ret
    exact ⟨by rw [HR.out]; simp [*], (Below.refl _ _).alloc (Nat.le_refl _) _⟩
  by_cases hd : dest.toList = []
  case neg =>
    have hd' : (dest.toList != []) = true := by simpa using hd
    have hde : dest.toList.isEmpty = false := by simpa using hd
    go_enter Try.func7, Try.ntmps7
    go_wp2_with (go_at_call 18; refine (HIN.out _ _ _ _).mono ?_; rintro r w1 ⟨rfl, rfl⟩)
    go_ret
    exact ⟨by rw [HR.out]; simp [*], (Below.refl _ _).alloc (Nat.le_refl _) _⟩
  have hd' : (dest.toList != []) = false := by simp [hd]
  have hde : dest.toList.isEmpty = true := by simp [hd]
  by_cases hn : num = 0
  case neg =>
    have hn' : (num != 0) = true := by simpa using hn
    go_enter Try.func7, Try.ntmps7
    go_wp2_with (go_at_call 18; refine (HIN.out _ _ _ _).mono ?_; rintro r w1 ⟨rfl, rfl⟩)
    go_ret
    exact ⟨by rw [HR.out]; simp [*], (Below.refl _ _).alloc (Nat.le_refl _) _⟩
  subst hn
  by_cases ht : text.toList = []
  case neg =>
    have ht' : (text.toList != []) = true := by simpa using ht
    have hte : text.toList.isEmpty = false := by simpa using ht
    go_enter Try.func7, Try.ntmps7
    go_wp2_with (go_at_call 18; refine (HIN.out _ _ _ _).mono ?_; rintro r w1 ⟨rfl, rfl⟩)
    go_ret
    exact ⟨by rw [HR.out]; simp [*], (Below.refl _ _).alloc (Nat.le_refl _) _⟩
  have ht' : (text.toList != []) = false := by simp [ht]
  have hte : text.toList.isEmpty = true := by simp [ht]
  go_enter Try.func7, Try.ntmps7
  go_wp2_with (first | (go_at_call 18; refine (HIN.out _ _ _ _).mono ?_; rintro r w1 ⟨rfl, rfl⟩) | (go_at_call 19; refine (HNM.out _).mono ?_; rintro r w1 ⟨rfl, hb⟩; have HB := Shut.mk hb; clear hb) | (go_at_call 15; refine (HED.out _).mono ?_; rintro r w1 ⟨rfl, hb⟩; have HB := Shut.mk hb; clear hb) | (go_at_call 20; refine (HOK.out _).mono ?_; rintro r w2 ⟨rfl, hb⟩; have HB2 := Shut.mk hb; clear hb))
  go_ret
  exact ⟨by rw [HR.out]; simp [*], Below.trans (Below.trans ((Below.refl _ _).alloc (Nat.le_refl _) _) (HB.out.mono (by simp))) (HB2.out.mono (by have := HB.out.size; simp at this ⊢; omega))⟩
end Go.Proofs.Ytodgabdhgaglmaa
/- AkRo: Asks, and rows of them, that came in (written by gen/mkrow.py). -/
namespace Go.Proofs.Ytodgabdhgaglmaa
set_option maxRecDepth 100000
open Go.RowKit Go.Deep Go.ChangeShapes Go.WideShapes
theorem cellsLAsk : Try.prog.cellsOf 23 = 6 := by kernel_rfl
theorem cellsTAsk : Try.prog.cellsOf 9 = 1 := by kernel_rfl
theorem cellsNAsk : Try.prog.cellsOf 3 = 1 := by kernel_rfl
set_option maxRecDepth 100000 in
theorem openAsk_cells {H : Type} {enc : TypeId × Value → H} {W : World} {base : Nat} {spare : Nat → Bool} {held : Bool} {n : Nat} {cs : List Value} {x : DataW H × List MemPlace} (h : DataW.trod enc Try.prog W base spare held n 23 cs = some x) :
    ∃ f : AkM, cs = akC f ∧ AkFit f := by
  obtain ⟨xs, k, _, rfl, hl, hlen, hf⟩ := DataW.trod_struct Try.underlying23 h
  rw [cellsLAsk] at hl
  match xs, hlen, cs, hl with
  | [y0, y1, y2, y3, y4, y5], _, [v0, v1, v2, v3, v4, v5], _ =>
    have g0 := hf 0 _ rfl
    have g1 := hf 1 _ rfl
    have g2 := hf 2 _ rfl
    have g3 := hf 3 _ rfl
    have g4 := hf 4 _ rfl
    have g5 := hf 5 _ rfl
    simp [cellsTAsk, cellsNAsk] at g0 g1 g2 g3 g4 g5
    obtain ⟨q0, e0, _, z0⟩ := DataW.trod_int Try.underlying3 g0
    obtain ⟨q1, e1, _, z1⟩ := DataW.trod_int Try.underlying3 g1
    obtain ⟨s2, e2, _, z2⟩ := DataW.trod_string Try.underlying9 g2
    obtain ⟨s3, e3, _, z3⟩ := DataW.trod_string Try.underlying9 g3
    obtain ⟨s4, e4, _, z4⟩ := DataW.trod_string Try.underlying9 g4
    obtain ⟨q5, e5, _, z5⟩ := DataW.trod_int Try.underlying3 g5
    simp only [List.cons.injEq, and_true] at e0 e1 e2 e3 e4 e5
    subst e0 e1 e2 e3 e4 e5
    unfold maxLen at z2 z3 z4
    exact ⟨⟨q0, q1, s2, s3, s4, q5⟩, rfl, by simpa using z2, by simpa using z3, by simpa using z4, bounds_i64 z0, bounds_i64 z1, bounds_i64 z5⟩
set_option maxRecDepth 100000 in
theorem openAsk {H : Type} {enc : TypeId × Value → H} {W : World} {r : Reach} {b0 base : Nat} {spare : Nat → Bool} {held : Bool} {v : Value} {d : DataW H} {p : List MemPlace}
    (hv : Value.okWide Try.prog W r b0 23 v) (h : DataW.Trod enc Try.prog W base spare held 23 v d p) : ∃ f : AkM, v = akv f ∧ AkFit f := by
  obtain ⟨cs, rfl, hsz⟩ := okWide_struct Try.underlying23 hv
  obtain ⟨fuel, h⟩ := h
  obtain ⟨f, e, hf⟩ := openAsk_cells h
  refine ⟨f, ?_, hf⟩
  have : cs.toList = akC f := by simpa [Value.cells] using e
  rw [show cs = (akC f).toArray by rw [← this]]
  rfl
end Go.Proofs.Ytodgabdhgaglmaa
/- AkI: The program's own: records of asks, one function a kind, in a table (written by gen/mkaki.py). -/
namespace Go.Proofs.Ytodgabdhgaglmaa
set_option maxRecDepth 100000
open Go.RowKit BigFrame
attribute [local go_sem ↓] Go.wp_at_zero Go.wp_at_succ
theorem stNoFn {P : Program} {w : World} {a : Addr} {m : Mode} : (store a .nilFunc m).run P w = stored P w a .nilFunc m := run_store P w a _ m rfl
theorem stFn {P : Program} {w : World} {a : Addr} {m : Mode} (f : Fn) (x y : Array Value) : (store a (.func f x y) m).run P w = stored P w a (.func f x y) m := run_store P w a _ m rfl
attribute [local go_sem] stNoFn stFn

set_option maxRecDepth 100000 in
theorem implToMake (kind who num : Int) (path dest text : ByteArray) (w : World) : Calls Try.prog 49 #[akv ⟨kind, who, path, dest, text, num⟩] w fun e w' => e = .returned (ev ⟨1, path, ⟨#[]⟩, 0, 0⟩) ∧ Below w.heap.size w w' := by
  go_enter Try.func49, Try.ntmps49
  go_wp2_with fail
  refine bodyPost_ret (v := ev ⟨1, path, ⟨#[]⟩, 0, 0⟩) (by simp [results, Try.results49, go_sem]) rfl ⟨rfl, ?_⟩
  exact ((Below.refl _ _).alloc (Nat.le_refl _) _).alloc (by simp) _
set_option maxRecDepth 100000 in
theorem implToCreate (kind who num : Int) (path dest text : ByteArray) (w : World) : Calls Try.prog 50 #[akv ⟨kind, who, path, dest, text, num⟩] w fun e w' => e = .returned (ev ⟨2, path, ⟨#[]⟩, 0, who⟩) ∧ Below w.heap.size w w' := by
  go_enter Try.func50, Try.ntmps50
  go_wp2_with fail
  refine bodyPost_ret (v := ev ⟨2, path, ⟨#[]⟩, 0, who⟩) (by simp [results, Try.results50, go_sem]) rfl ⟨rfl, ?_⟩
  exact ((Below.refl _ _).alloc (Nat.le_refl _) _).alloc (by simp) _
set_option maxRecDepth 100000 in
theorem implToAppend (kind who num : Int) (path dest text : ByteArray) (w : World) : Calls Try.prog 51 #[akv ⟨kind, who, path, dest, text, num⟩] w fun e w' => e = .returned (ev ⟨7, path, ⟨#[]⟩, (text.size : Int), 0⟩) ∧ Below w.heap.size w w' := by
  go_enter Try.func51, Try.ntmps51
  go_wp2_with fail
  refine bodyPost_ret (v := ev ⟨7, path, ⟨#[]⟩, (text.size : Int), 0⟩) (by simp [results, Try.results51, go_sem]) rfl ⟨rfl, ?_⟩
  exact ((Below.refl _ _).alloc (Nat.le_refl _) _).alloc (by simp) _
set_option maxRecDepth 100000 in
theorem implToClose (kind who num : Int) (path dest text : ByteArray) (w : World) : Calls Try.prog 52 #[akv ⟨kind, who, path, dest, text, num⟩] w fun e w' => e = .returned (ev ⟨8, path, ⟨#[]⟩, 0, 0⟩) ∧ Below w.heap.size w w' := by
  go_enter Try.func52, Try.ntmps52
  go_wp2_with fail
  refine bodyPost_ret (v := ev ⟨8, path, ⟨#[]⟩, 0, 0⟩) (by simp [results, Try.results52, go_sem]) rfl ⟨rfl, ?_⟩
  exact ((Below.refl _ _).alloc (Nat.le_refl _) _).alloc (by simp) _
set_option maxRecDepth 100000 in
theorem implToMove (kind who num : Int) (path dest text : ByteArray) (w : World) : Calls Try.prog 53 #[akv ⟨kind, who, path, dest, text, num⟩] w fun e w' => e = .returned (ev ⟨3, path, dest, 0, 0⟩) ∧ Below w.heap.size w w' := by
  go_enter Try.func53, Try.ntmps53
  go_wp2_with fail
  refine bodyPost_ret (v := ev ⟨3, path, dest, 0, 0⟩) (by simp [results, Try.results53, go_sem]) rfl ⟨rfl, ?_⟩
  exact ((Below.refl _ _).alloc (Nat.le_refl _) _).alloc (by simp) _
set_option maxRecDepth 100000 in
theorem implToDrop (kind who num : Int) (path dest text : ByteArray) (w : World) : Calls Try.prog 54 #[akv ⟨kind, who, path, dest, text, num⟩] w fun e w' => e = .returned (ev ⟨4, path, ⟨#[]⟩, 0, 0⟩) ∧ Below w.heap.size w w' := by
  go_enter Try.func54, Try.ntmps54
  go_wp2_with fail
  refine bodyPost_ret (v := ev ⟨4, path, ⟨#[]⟩, 0, 0⟩) (by simp [results, Try.results54, go_sem]) rfl ⟨rfl, ?_⟩
  exact ((Below.refl _ _).alloc (Nat.le_refl _) _).alloc (by simp) _
set_option maxRecDepth 100000 in
theorem implToRead (kind who num : Int) (path dest text : ByteArray) (w : World) : Calls Try.prog 55 #[akv ⟨kind, who, path, dest, text, num⟩] w fun e w' => e = .returned (ev ⟨0, ⟨#[]⟩, ⟨#[]⟩, 0, 0⟩) ∧ Below w.heap.size w w' := by
  go_enter Try.func55, Try.ntmps55
  go_wp2_with fail
  refine bodyPost_ret (v := ev ⟨0, ⟨#[]⟩, ⟨#[]⟩, 0, 0⟩) (by simp [results, Try.results55, go_sem]) rfl ⟨rfl, ?_⟩
  exact ((Below.refl _ _).alloc (Nat.le_refl _) _).alloc (by simp) _
set_option maxRecDepth 100000 in
theorem implToSchema (kind who num : Int) (path dest text : ByteArray) (w : World) : Calls Try.prog 56 #[akv ⟨kind, who, path, dest, text, num⟩] w fun e w' => e = .returned (ev ⟨5, path, ⟨#[]⟩, num, 0⟩) ∧ Below w.heap.size w w' := by
  go_enter Try.func56, Try.ntmps56
  go_wp2_with fail
  refine bodyPost_ret (v := ev ⟨5, path, ⟨#[]⟩, num, 0⟩) (by simp [results, Try.results56, go_sem]) rfl ⟨rfl, ?_⟩
  exact ((Below.refl _ _).alloc (Nat.le_refl _) _).alloc (by simp) _
set_option maxRecDepth 100000 in
theorem implToQuota (kind who num : Int) (path dest text : ByteArray) (w : World) : Calls Try.prog 57 #[akv ⟨kind, who, path, dest, text, num⟩] w fun e w' => e = .returned (ev ⟨6, path, ⟨#[]⟩, num, 0⟩) ∧ Below w.heap.size w w' := by
  go_enter Try.func57, Try.ntmps57
  go_wp2_with fail
  refine bodyPost_ret (v := ev ⟨6, path, ⟨#[]⟩, num, 0⟩) (by simp [results, Try.results57, go_sem]) rfl ⟨rfl, ?_⟩
  exact ((Below.refl _ _).alloc (Nat.le_refl _) _).alloc (by simp) _
set_option maxRecDepth 100000 in
theorem implToReopen (kind who num : Int) (path dest text : ByteArray) (w : World) : Calls Try.prog 58 #[akv ⟨kind, who, path, dest, text, num⟩] w fun e w' => e = .returned (ev ⟨9, path, ⟨#[]⟩, 0, who⟩) ∧ Below w.heap.size w w' := by
  go_enter Try.func58, Try.ntmps58
  go_wp2_with fail
  refine bodyPost_ret (v := ev ⟨9, path, ⟨#[]⟩, 0, who⟩) (by simp [results, Try.results58, go_sem]) rfl ⟨rfl, ?_⟩
  exact ((Below.refl _ _).alloc (Nat.le_refl _) _).alloc (by simp) _
/-- The table of what makes records. -/
abbrev akTab : Value := .agg #[.nilFunc, .func (.func 49) #[] #[], .func (.func 50) #[] #[], .func (.func 51) #[] #[], .func (.func 52) #[] #[], .func (.func 53) #[] #[], .func (.func 54) #[] #[], .func (.func 55) #[] #[], .func (.func 56) #[] #[], .func (.func 57) #[] #[], .func (.func 58) #[] #[]]
set_option maxRecDepth 100000 in
theorem implAskRecords (w : World) : Calls Try.prog 36 #[] w fun e w' => e = .returned akTab ∧ Below w.heap.size w w' := by
  go_enter Try.func36, Try.ntmps36
  go_wp2_with fail
  refine bodyPost_ret (v := akTab) (by simp [results, Try.results36, go_sem]) rfl ⟨rfl, ?_⟩
  exact ((Below.refl _ _).alloc (Nat.le_refl _) _)
end Go.Proofs.Ytodgabdhgaglmaa
/- ClS: The library's strings.Clone. -/
namespace Go.Proofs.Ytodgabdhgaglmaa
set_option maxRecDepth 100000
open Go.RowKit BigFrame
attribute [local go_sem ↓] Go.wp_at_zero Go.wp_at_succ

set_option maxRecDepth 100000 in
theorem implClone (s : ByteArray) (w : World) (hs : s.size ≤ 281474976710656) : Calls Try.prog 37 #[.string s] w fun e w' => e = .returned (.string s) ∧ Below w.heap.size w w' := by
  have HC := Shut.mk (fun W => Try.stringslite_Clone s W hs)
  go_enter Try.func37, Try.ntmps37
  go_wp2_with fail
  refine (HC.out _).mono ?_
  rintro e w1 ⟨rfl, hb⟩
  go_wp2_with fail
  go_ret
  exact ⟨rfl, hb⟩
end Go.Proofs.Ytodgabdhgaglmaa
/- GrwB: A region that draws its order, some of whose operations make memory: what answers one value in every later world is taken first, calls that only make memory too. The way of the proof is that of the library's Derived.OrdersHeld, which is imported; the class of worlds is ours. -/
namespace Go.Proofs.Ytodgabdhgaglmaa
set_option maxRecDepth 100000
open Go.RowKit

/-- A later world: more memory, what was there untouched. -/
def Later (w w' : World) : Prop := Below w.heap.size w w'
theorem Later.refl (w : World) : Later w w := Below.refl _ _
theorem Later.trans {a b c : World} (h : Later a b) (g : Later b c) : Later a c := Below.trans h (Below.mono g (Below.size h))
section
variable {P : Program} {ops : Array Oper} {Q : Exit → Act → World → Prop} {md : Region.Mode}
/-- Whatever order is picked from here on, in whatever later world. -/
def wpL (P : Program) (md : Region.Mode) (ops : Array Oper) (Q : Exit → Act → World → Prop) : Nat → Array Bool → Act → World → Prop
  | 0, l, a, w => Region.ready md ops l = [] ∧ ∀ x, Later w x → Q .normal a x
  | n + 1, l, a, w => ∀ x, Later w x → (Region.ready md ops l = [] → Q .normal a x) ∧
      ∀ i ∈ Region.ready md ops l, wpOp P ops Q i (fun a' y => Later x y ∧ wpL P md ops Q n (l.setIfInBounds i true) a' y) a x
theorem wpL_later : ∀ (n : Nat) (l : Array Bool) (a : Act) (w y : World), Later w y → wpL P md ops Q n l a w → wpL P md ops Q n l a y
  | 0, _, _, _, _, hy, h => ⟨h.1, fun x hx => h.2 x (hy.trans hx)⟩
  | _ + 1, _, _, _, _, hy, h => fun x hx => h x (hy.trans hx)
theorem wpAny_of_L : ∀ (n : Nat) (l : Array Bool) (a : Act) (w : World), wpL P md ops Q n l a w → wpAny P md ops Q n l a w
  | 0, _, _, w, h => ⟨h.1, h.2 w (Later.refl w)⟩
  | n + 1, _, _, w, h => ⟨(h w (Later.refl w)).1, fun i hi => wpOp_mono (fun a' y hh => wpAny_of_L n _ a' y hh.2) ((h w (Later.refl w)).2 i hi)⟩
/-- One value, in every later world; a call may make memory. -/
def YL (P : Program) (ops : Array Oper) (o : Oper) (v : Value) (a : Act) (w : World) : Prop :=
  (Region.wanted o (yielded ops a.tmps) = true ∧ ∀ x, Later w x → o.quietAt P a (Later x) x v) ∨ (Region.wanted o (yielded ops a.tmps) = false ∧ v = undef)
theorem YL.later {o : Oper} {v : Value} {a : Act} {w y : World} (h : YL P ops o v a w) (hy : Later w y) : YL P ops o v a y :=
  h.imp (fun q => ⟨q.1, fun x hx => q.2 x (hy.trans hx)⟩) id
theorem YL.same {o : Oper} {v : Value} {a b : Act} {w : World} (h : YL P ops o v a w) (he : execOp b.eval o = execOp a.eval o) (hw : Region.wanted o (yielded ops b.tmps) = Region.wanted o (yielded ops a.tmps)) : YL P ops o v b w := by
  unfold YL Oper.quietAt at *
  rw [he, hw]
  exact h
theorem YL.op {i : Nat} {o : Oper} {v : Value} {a : Act} {w x : World} {K : Act → World → Prop} (hi : ops[i]? = some o) (h : YL P ops o v a w) (hx : Later w x) (hk : ∀ y, Later x y → K (a.put o.dst v) y) : wpOp P ops Q i K a x := by
  unfold wpOp
  rw [hi]
  dsimp only
  rcases h with ⟨hw, hq⟩ | ⟨hw, hv⟩
  · rw [if_pos hw]
    refine Or.inl ?_
    have q := hq x hx
    unfold Oper.quietAt at q
    unfold Oper.wp
    revert q
    cases (execOp a.eval o).run P x with
    | halt _ _ => exact False.elim
    | ok r y =>
      cases r with
      | value u => rintro ⟨rfl, rfl⟩; exact hk _ (Later.refl _)
      | skip => rintro ⟨rfl, rfl⟩; exact hk _ (Later.refl _)
      | enter f args => rintro ⟨rfl, hc⟩; exact hc.mono (by rintro _ z ⟨rfl, hz⟩; exact hk _ hz)
      | _ => exact False.elim
  · rw [if_neg (by rw [hw]; exact Bool.false_ne_true), ← hv]
    exact hk _ (Later.refl _)
/-- What an operation may do to the frame: its own slot, or a call that is put off. -/
def Fr (d : Option Tmp) (a b : Act) : Prop := ∃ u, b = a.put d u ∨ ∃ f, b = { a with defers := f :: a.defers }.put d u
theorem op_frame {j : Nat} {oj : Oper} {K : Act → World → Prop} {a : Act} {x : World} (hj : ops[j]? = some oj) (h : wpOp P ops Q j K a x) : wpOp P ops Q j (fun b y => Fr oj.dst a b ∧ K b y) a x := by
  unfold wpOp at h ⊢
  rw [hj] at h ⊢
  dsimp only at h ⊢
  split
  · rename_i hw
    rw [if_pos hw] at h
    refine h.imp_left fun q => ?_
    unfold Oper.wp at q ⊢
    revert q
    cases (execOp a.eval oj).run P x with
    | halt r y => cases r <;> exact id
    | ok r y =>
      cases r with
      | value u => exact fun q => ⟨⟨u, .inl rfl⟩, q⟩
      | skip => exact fun q => ⟨⟨undef, .inl rfl⟩, q⟩
      | defer f => exact fun q => ⟨⟨undef, .inr ⟨f, rfl⟩⟩, q⟩
      | enter f args => exact fun q => Calls.mono q fun e z hz => by cases e <;> first | exact ⟨⟨_, .inl rfl⟩, hz⟩ | exact hz
      | row r args => exact fun q => Rows.mono q fun u z hz => ⟨⟨u, .inl rfl⟩, hz⟩
      | _ => exact id
  · rename_i hw
    rw [if_neg hw] at h
    exact ⟨⟨undef, .inl rfl⟩, h⟩
/-- An operation beside another that has its value already: the library's law for no world at all, and what the frame may be behind it. -/
theorem op_beside {j : Nat} {oi oj : Oper} {v : Value} {w : World} (hj : ops[j]? = some oj) (hap : oi.apart ops oj = true) (hsi : ∀ cs b, oi.op ≠ .select cs b) (hsj : ∀ cs b, oj.op ≠ .select cs b)
    (hQ : ∀ c a w, Q (.panic c) (a.put oi.dst v) w → Q (.panic c) a w) {K : Act → World → Prop} {a : Act} {x : World} (hy : YL P ops oi v a w) (h : wpOp P ops Q j K (a.put oi.dst v) x) :
    wpOp P ops Q j (fun a' y => YL P ops oi v a' w ∧ K (a'.put oi.dst v) y) a x := by
  have h3 := (Oper.apart_spec hap).2.2
  refine wpOp_mono ?_ (op_frame hj (wpOp_putIf (S := fun _ => False) hj hap hsi hsj hQ (hy.imp (fun q => ⟨q.1, fun _ hf => hf.elim⟩) id) h))
  rintro b y ⟨⟨u, rfl | ⟨f, rfl⟩⟩, -, hk⟩
  · exact ⟨hy.same (execOp_put oi hsi a oj.dst u h3) (wanted_put oi a oj.dst u h3), hk⟩
  · have q : YL P ops oi v { a with defers := f :: a.defers } w := hy.same rfl rfl
    exact ⟨q.same (execOp_put oi hsi _ oj.dst u h3) (wanted_put oi _ oj.dst u h3), hk⟩
/-- Who may come up waits for nobody who has not come up. -/
theorem ready_free {l : Array Bool} {i j : Nat} {oj : Oper} (hi : i ∈ Region.ready md ops l) (hj : j ∈ Region.ready md ops l) (ho : ops[j]? = some oj) : ∀ e ∈ oj.after, Region.binds md e = true → e.on ≠ i := by
  obtain ⟨-, o', ho', hall⟩ := mem_ready.1 hj
  obtain rfl : oj = o' := Option.some.inj (ho.symm.trans ho')
  rintro e he hb rfl
  have q := hall e he hb
  have z := (mem_ready.1 hi).1
  grind
theorem wpL_first {i : Nat} {oi : Oper} {v : Value} (hi : ops[i]? = some oi) (hsel : ∀ (j : Nat) (o : Oper) cs b, ops[j]? = some o → o.op ≠ .select cs b) (hQ : ∀ c a w, Q (.panic c) (a.put oi.dst v) w → Q (.panic c) a w) :
    ∀ (n : Nat) (l : Array Bool) (a : Act) (w : World), (∀ j oj, ops[j]? = some oj → j ≠ i → l.getD j true = false → (∀ e ∈ oj.after, Region.binds md e = true → e.on ≠ i) → oi.apart ops oj = true) →
      i ∈ Region.ready md ops l → YL P ops oi v a w → wpL P md ops Q n (l.setIfInBounds i true) (a.put oi.dst v) w → wpL P md ops Q (n + 1) l a w := by
  intro n
  induction n with
  | zero =>
    intro l a w _ hr hy H x hx
    refine ⟨fun h => (by rw [h] at hr; cases hr), fun j hj => ?_⟩
    by_cases hji : j = i
    · subst hji
      exact hy.op hi hx fun y hxy => ⟨hxy, wpL_later 0 _ _ _ _ (hx.trans hxy) H⟩
    · have q := ready_mono hj hji
      rw [H.1] at q
      cases q
  | succ n ih =>
    intro l a w hfree hr hy H x hx
    refine ⟨fun h => (by rw [h] at hr; cases hr), fun j hj => ?_⟩
    by_cases hji : j = i
    · subst hji
      exact hy.op hi hx fun y hxy => ⟨hxy, wpL_later (n + 1) _ _ _ _ (hx.trans hxy) H⟩
    · obtain ⟨hun, oj, hoj, -⟩ := mem_ready.1 hj
      have q := op_beside hoj (hfree j oj hoj hji hun (ready_free hr hj hoj)) (fun cs b => hsel i oi cs b hi) (fun cs b => hsel j oj cs b hoj) hQ hy ((H x hx).2 j (ready_mono hj hji))
      refine wpOp_mono (fun b y hb => ⟨hb.2.1, ih (l.setIfInBounds j true) b y (fun k ok hk hki hku hno => hfree k ok hk hki ?_ hno) (ready_mono hr (Ne.symm hji)) (hb.1.later (hx.trans hb.2.1)) ?_⟩) q
      · by_cases hjk : j = k
        · subst hjk; exact hun
        · rw [getD_set_ne true hjk] at hku; exact hku
      · rw [Array.setIfInBounds_comm _ _ hji]
        exact hb.2.2
theorem at_drop {L r : List Oper} {i : Nat} {o : Oper} (h : L.drop i = o :: r) : L.toArray[i]? = some o := by
  have q : (L.drop i)[0]? = some o := by rw [h]; rfl
  simpa using q
/-- Take number i: a value. -/
theorem wpL_val {L r : List Oper} {i : Nat} {oi : Oper} {v : Value} {n : Nat} {l : Array Bool} {a : Act} {w : World} (hi : L.drop i = oi :: r) (hs : Region.noSelect L.toArray = true) (hf : Region.free md L.toArray l i = true) (hr : (Region.ready md L.toArray l).contains i = true)
    (hQ : ∀ c a w, Q (.panic c) (a.put oi.dst v) w → Q (.panic c) a w) (hw : Region.wanted oi (yielded L.toArray a.tmps) = true) (hy : ∀ x, Later w x → (execOp a.eval oi).run P x = .ok (.value v) x)
    (h : wpL P md L.toArray Q n (l.setIfInBounds i true) (a.put oi.dst v) w) : wpL P md L.toArray Q (n + 1) l a w :=
  wpL_first (at_drop hi) (Region.noSelect_spec hs) hQ n l a w (Region.free_spec (at_drop hi) hf) (by simpa using hr) (Or.inl ⟨hw, fun x hx => by unfold Oper.quietAt; rw [hy x hx]; exact ⟨rfl, rfl⟩⟩) h
/-- Take number i: a call. -/
theorem wpL_call {L r : List Oper} {i : Nat} {oi : Oper} {v : Value} {f : FuncId} {args : Array Value} {n : Nat} {l : Array Bool} {a : Act} {w : World} (hi : L.drop i = oi :: r) (hs : Region.noSelect L.toArray = true) (hf : Region.free md L.toArray l i = true) (hr : (Region.ready md L.toArray l).contains i = true)
    (hQ : ∀ c a w, Q (.panic c) (a.put oi.dst v) w → Q (.panic c) a w) (hw : Region.wanted oi (yielded L.toArray a.tmps) = true) (hy : ∀ x, Later w x → (execOp a.eval oi).run P x = .ok (.enter f args) x)
    (hc : ∀ x, Later w x → Calls P f args x fun e y => e = .returned v ∧ Below x.heap.size x y)
    (h : wpL P md L.toArray Q n (l.setIfInBounds i true) (a.put oi.dst v) w) : wpL P md L.toArray Q (n + 1) l a w :=
  wpL_first (at_drop hi) (Region.noSelect_spec hs) hQ n l a w (Region.free_spec (at_drop hi) hf) (by simpa using hr) (Or.inl ⟨hw, fun x hx => by unfold Oper.quietAt; rw [hy x hx]; exact ⟨rfl, hc x hx⟩⟩) h
/-- One alone may come up: it is carried out in a later world. -/
theorem wpL_one {L r : List Oper} {i : Nat} {oi : Oper} {n : Nat} {l : Array Bool} {a : Act} {w : World} (hr : Region.ready md L.toArray l = [i]) (hi : L.drop i = oi :: r) (hw : Region.wanted oi (yielded L.toArray a.tmps) = true)
    (h : ∀ x, Later w x → ∃ (v : Value) (y : World), (execOp a.eval oi).run P x = .ok (.value v) y ∧ Later x y ∧ wpL P md L.toArray Q n (l.setIfInBounds i true) (a.put oi.dst v) y) : wpL P md L.toArray Q (n + 1) l a w := by
  intro x hx
  rw [hr]
  refine ⟨fun h => (by cases h), fun j hj => ?_⟩
  rw [List.mem_singleton] at hj
  subst hj
  obtain ⟨v, y, h1, h2, h3⟩ := h x hx
  unfold wpOp
  rw [at_drop hi]
  dsimp only
  rw [if_pos hw]
  refine Or.inl ?_
  unfold Oper.wp
  rw [h1]
  exact ⟨h2, h3⟩
theorem wpL_done {l : Array Bool} {a : Act} {w : World} (hr : Region.ready md ops l = []) (h : ∀ x, Later w x → Q .normal a x) : ∀ n, wpL P md ops Q n l a w
  | 0 => ⟨hr, h⟩
  | _ + 1 => fun x hx => ⟨fun _ => h x hx, by rw [hr]; simp⟩
theorem wp_region_later {id : Nat} {a : Act} {w : World} (hm : P.follows .mixedOrders = true) (h : wpL P .any ops Q ops.size (Array.replicate ops.size false) a w.drew) : (Code.region id ops true).wp P Q a w :=
  wp_region_any hm (wpAny_of_L _ _ _ _ h)
end
section
variable {P : Program} {Q : Exit → Act → World → Prop} {md : Region.Mode}
/-- One alone may come up, and its call panics. -/
theorem wpL_panics {L r : List Oper} {i : Nat} {oi : Oper} {f : FuncId} {args : Array Value} {chain : List PanicEntry} {n : Nat} {l : Array Bool} {a : Act} {w : World} (hr : Region.ready md L.toArray l = [i]) (hi : L.drop i = oi :: r) (hw : Region.wanted oi (yielded L.toArray a.tmps) = true)
    (hy : ∀ x, Later w x → (execOp a.eval oi).run P x = .ok (.enter f args) x) (hc : ∀ x, Later w x → Calls P f args x fun e y => e = .panicked chain ∧ Q (.panic chain) a y) : wpL P md L.toArray Q (n + 1) l a w := by
  intro x hx
  rw [hr]
  refine ⟨fun h => (by cases h), fun j hj => ?_⟩
  rw [List.mem_singleton] at hj
  subst hj
  unfold wpOp
  rw [at_drop hi]
  dsimp only
  rw [if_pos hw]
  refine Or.inl ?_
  unfold Oper.wp
  rw [hy x hx]
  exact (hc x hx).mono (by rintro e y ⟨rfl, hq⟩; exact hq)
end
section
variable {P : Program} {Q : Exit → Act → World → Prop} {md : Region.Mode}
/-- Take number i: it is not wanted. -/
theorem wpL_skip {L r : List Oper} {i : Nat} {oi : Oper} {n : Nat} {l : Array Bool} {a : Act} {w : World} (hi : L.drop i = oi :: r) (hs : Region.noSelect L.toArray = true) (hf : Region.free md L.toArray l i = true) (hr : (Region.ready md L.toArray l).contains i = true)
    (hQ : ∀ c a w, Q (.panic c) (a.put oi.dst undef) w → Q (.panic c) a w) (hw : Region.wanted oi (yielded L.toArray a.tmps) = false)
    (h : wpL P md L.toArray Q n (l.setIfInBounds i true) (a.put oi.dst undef) w) : wpL P md L.toArray Q (n + 1) l a w :=
  wpL_first (at_drop hi) (Region.noSelect_spec hs) hQ n l a w (Region.free_spec (at_drop hi) hf) (by simpa using hr) (Or.inr ⟨hw, rfl⟩) h
end
end Go.Proofs.Ytodgabdhgaglmaa
/- GrwC: A region that draws its order and ends in stores: all that comes ahead of its last operations is taken as in a region that only makes memory; then the last ones, in whatever order. -/
namespace Go.Proofs.Ytodgabdhgaglmaa
set_option maxRecDepth 100000
open Go.RowKit
section
variable {P : Program} {ops : Array Oper} {Q : Exit → Act → World → Prop} {md : Region.Mode} {m : Nat}
/-- Only operations from number m on are left. -/
def tailed (m : Nat) (ops : Array Oper) (l : Array Bool) : Bool := (List.range m).all fun j => l.getD j true || decide (ops.size ≤ j)
theorem tailed_spec {l : Array Bool} (h : tailed m ops l = true) {j : Nat} (hj : l.getD j true = false) (hs : j < ops.size) : m ≤ j := by
  refine Nat.le_of_not_lt fun hlt => ?_
  have := List.all_eq_true.1 h j (by simpa using hlt)
  rw [hj, Bool.false_or, decide_eq_true_eq] at this
  omega
/-- Whatever order is picked from here on, in whatever later world, until only the last ones are left. -/
def wpK (P : Program) (md : Region.Mode) (ops : Array Oper) (Q : Exit → Act → World → Prop) (m : Nat) : Nat → Array Bool → Act → World → Prop
  | 0, l, a, w => ∀ x, Later w x → wpAny P md ops Q 0 l a x
  | n + 1, l, a, w => (tailed m ops l = true ∧ ∀ x, Later w x → wpAny P md ops Q (n + 1) l a x) ∨ (∀ x, Later w x → (Region.ready md ops l = [] → Q .normal a x) ∧
      ∀ i ∈ Region.ready md ops l, wpOp P ops Q i (fun a' y => Later x y ∧ wpK P md ops Q m n (l.setIfInBounds i true) a' y) a x)
theorem wpK_later : ∀ (n : Nat) (l : Array Bool) (a : Act) (w y : World), Later w y → wpK P md ops Q m n l a w → wpK P md ops Q m n l a y
  | 0, _, _, _, _, hy, h => fun x hx => h x (hy.trans hx)
  | _ + 1, _, _, _, _, hy, h => h.imp (fun q => ⟨q.1, fun x hx => q.2 x (hy.trans hx)⟩) (fun q x hx => q x (hy.trans hx))
theorem wpAny_of_K : ∀ (n : Nat) (l : Array Bool) (a : Act) (w : World), wpK P md ops Q m n l a w → wpAny P md ops Q n l a w
  | 0, _, _, w, h => h w (Later.refl w)
  | n + 1, _, _, w, h => by
    rcases h with h | h
    · exact h.2 w (Later.refl w)
    · exact ⟨(h w (Later.refl w)).1, fun i hi => wpOp_mono (fun a' y hh => wpAny_of_K n _ a' y hh.2) ((h w (Later.refl w)).2 i hi)⟩
/-- Those that wait for number i, or for one of them. -/
def clo (md : Region.Mode) (ops : Array Oper) (l : Array Bool) (i : Nat) : List Nat := (List.range ops.size).foldl (fun acc f => if !(l.getD f true) && (((ops[f]?).map fun o => o.after.any fun e => Region.binds md e && ((e.on == i) || acc.contains e.on)) == some true) then f :: acc else acc) []
/-- The last ones that are left wait for number i. -/
def waits (md : Region.Mode) (m : Nat) (ops : Array Oper) (l : Array Bool) (i : Nat) (C : List Nat) : Bool :=
  (C.all fun c => !(l.getD c true) && (((ops[c]?).map fun o => o.after.any fun e => Region.binds md e && ((e.on == i) || C.contains e.on)) == some true)) && ((List.range ops.size).all fun f => decide (f < m) || l.getD f true || C.contains f)
theorem getD_clash {l : Array Bool} {k : Nat} (h1 : l.getD k true = false) (h2 : l.getD k false = true) : False := by
  unfold Array.getD at h1 h2
  split at h1
  · rename_i h
    rw [dif_pos h] at h2
    rw [h1] at h2
    cases h2
  · cases h1
theorem waits_spec {l : Array Bool} {i : Nat} {C : List Nat} (h : waits md m ops l i C = true) (hi : l.getD i true = false) : ∀ c ∈ C, c ∉ Region.ready md ops l := by
  unfold waits at h
  rw [Bool.and_eq_true] at h
  intro c hc hr
  have h1 := List.all_eq_true.1 h.1 c hc
  rw [Bool.and_eq_true] at h1
  obtain ⟨-, o, ho, hall⟩ := mem_ready.1 hr
  rw [ho] at h1
  simp only [Option.map_some, beq_iff_eq, Option.some.injEq] at h1
  have h2 := h1.2
  rw [Array.any_eq_true'] at h2
  obtain ⟨e, he, q⟩ := h2
  rw [Bool.and_eq_true, Bool.or_eq_true] at q
  have hd := hall e he q.1
  rcases q.2 with q2 | q2
  · rw [beq_iff_eq] at q2
    rw [q2] at hd
    exact getD_clash hi hd
  · have hm : e.on ∈ C := by simpa using q2
    have h3 := List.all_eq_true.1 h.1 _ hm
    rw [Bool.and_eq_true, Bool.not_eq_true'] at h3
    exact getD_clash h3.1 hd
theorem waits_last {l : Array Bool} {i f : Nat} {C : List Nat} (h : waits md m ops l i C = true) (hf : m ≤ f) (hu : l.getD f true = false) (hs : f < ops.size) : f ∈ C := by
  unfold waits at h
  rw [Bool.and_eq_true] at h
  have := List.all_eq_true.1 h.2 f (by simpa using hs)
  rw [hu, Bool.or_false, Bool.or_eq_true, decide_eq_true_eq] at this
  rcases this with q | q
  · omega
  · simpa using q
theorem waits_step {l : Array Bool} {i j : Nat} {C : List Nat} (h : waits md m ops l i C = true) (hj : j ∉ C) : waits md m ops (l.setIfInBounds j true) i C = true := by
  unfold waits at h ⊢
  rw [Bool.and_eq_true] at h ⊢
  refine ⟨List.all_eq_true.2 fun c hc => ?_, List.all_eq_true.2 fun f hf => ?_⟩
  · have h1 := List.all_eq_true.1 h.1 c hc
    have hcj : j ≠ c := fun e => hj (e ▸ hc)
    rw [getD_set_ne true hcj]
    exact h1
  · have h1 := List.all_eq_true.1 h.2 f hf
    by_cases e : j = f
    · subst e
      have : (l.setIfInBounds j true).getD j true = true := by
        simp only [Array.getD]
        split
        · simp
        · rfl
      rw [this]
      simp
    · rw [getD_set_ne true e]
      exact h1
theorem wpK_first {i : Nat} {oi : Oper} {v : Value} {C : List Nat} (hi : ops[i]? = some oi) (hsel : ∀ (j : Nat) (o : Oper) cs b, ops[j]? = some o → o.op ≠ .select cs b) (hQ : ∀ c a w, Q (.panic c) (a.put oi.dst v) w → Q (.panic c) a w) :
    ∀ (n : Nat) (l : Array Bool) (a : Act) (w : World), waits md m ops l i C = true → (∀ j oj, ops[j]? = some oj → j ≠ i → l.getD j true = false → (∀ e ∈ oj.after, Region.binds md e = true → e.on ≠ i) → oi.apart ops oj = true) →
      i ∈ Region.ready md ops l → YL P ops oi v a w → wpK P md ops Q m n (l.setIfInBounds i true) (a.put oi.dst v) w → wpK P md ops Q m (n + 1) l a w := by
  intro n
  induction n with
  | zero =>
    intro l a w _ _ hr hy H
    refine .inr fun x hx => ⟨fun h => (by rw [h] at hr; cases hr), fun j hj => ?_⟩
    by_cases hji : j = i
    · subst hji
      exact hy.op hi hx fun y hxy => ⟨hxy, wpK_later 0 _ _ _ _ (hx.trans hxy) H⟩
    · have q := ready_mono hj hji
      rw [(H w (Later.refl w)).1] at q
      cases q
  | succ n ih =>
    intro l a w hwt hfree hr hy H
    refine .inr fun x hx => ⟨fun h => (by rw [h] at hr; cases hr), fun j hj => ?_⟩
    by_cases hji : j = i
    · subst hji
      exact hy.op hi hx fun y hxy => ⟨hxy, wpK_later (n + 1) _ _ _ _ (hx.trans hxy) H⟩
    · obtain ⟨hun, oj, hoj, -⟩ := mem_ready.1 hj
      have hjC : j ∉ C := fun hc => waits_spec hwt (mem_ready.1 hr).1 j hc hj
      rcases H with H | H
      · have hju : (l.setIfInBounds i true).getD j true = false := by rw [getD_set_ne true (Ne.symm hji)]; exact hun
        have hjs := (Array.getElem?_eq_some_iff.1 hoj).1
        have hjm := tailed_spec H.1 hju hjs
        exact absurd (waits_last hwt hjm hun hjs) hjC
      · have q := op_beside hoj (hfree j oj hoj hji hun (ready_free hr hj hoj)) (fun cs b => hsel i oi cs b hi) (fun cs b => hsel j oj cs b hoj) hQ hy ((H x hx).2 j (ready_mono hj hji))
        refine wpOp_mono (fun b y hb => ⟨hb.2.1, ih (l.setIfInBounds j true) b y (waits_step hwt hjC) (fun k ok hk hki hku hno => hfree k ok hk hki ?_ hno) (ready_mono hr (Ne.symm hji)) (hb.1.later (hx.trans hb.2.1)) ?_⟩) q
        · by_cases hjk : j = k
          · subst hjk; exact hun
          · rw [getD_set_ne true hjk] at hku; exact hku
        · rw [Array.setIfInBounds_comm _ _ hji]
          exact hb.2.2
theorem wpK_tail {l : Array Bool} {a : Act} {w : World} (ht : tailed m ops l = true) : ∀ {n : Nat}, (∀ x, Later w x → wpAny P md ops Q n l a x) → wpK P md ops Q m n l a w
  | 0, h => h
  | _ + 1, h => .inl ⟨ht, h⟩
theorem wpK_done {l : Array Bool} {a : Act} {w : World} (hr : Region.ready md ops l = []) (h : ∀ x, Later w x → Q .normal a x) : ∀ n, wpK P md ops Q m n l a w
  | 0 => fun x hx => ⟨hr, h x hx⟩
  | _ + 1 => .inr fun x hx => ⟨fun _ => h x hx, by rw [hr]; simp⟩
theorem wp_region_tail {id : Nat} {a : Act} {w : World} (m : Nat) (hm : P.follows .mixedOrders = true) (h : wpK P .any ops Q m ops.size (Array.replicate ops.size false) a w.drew) : (Code.region id ops true).wp P Q a w :=
  wp_region_any hm (wpAny_of_K _ _ _ _ h)
end
section
variable {P : Program} {Q : Exit → Act → World → Prop} {md : Region.Mode} {m : Nat}
/-- Take number i: a value. -/
theorem wpK_val {L r : List Oper} {i : Nat} {oi : Oper} {v : Value} {n : Nat} {l : Array Bool} {a : Act} {w : World} (hi : L.drop i = oi :: r) (hs : Region.noSelect L.toArray = true) (hf : Region.free md L.toArray l i = true) (hr : (Region.ready md L.toArray l).contains i = true) (ht : waits md m L.toArray l i (clo md L.toArray l i) = true)
    (hQ : ∀ c a w, Q (.panic c) (a.put oi.dst v) w → Q (.panic c) a w) (hw : Region.wanted oi (yielded L.toArray a.tmps) = true) (hy : ∀ x, Later w x → (execOp a.eval oi).run P x = .ok (.value v) x)
    (h : wpK P md L.toArray Q m n (l.setIfInBounds i true) (a.put oi.dst v) w) : wpK P md L.toArray Q m (n + 1) l a w :=
  wpK_first (at_drop hi) (Region.noSelect_spec hs) hQ n l a w ht (Region.free_spec (at_drop hi) hf) (by simpa using hr) (Or.inl ⟨hw, fun x hx => by unfold Oper.quietAt; rw [hy x hx]; exact ⟨rfl, rfl⟩⟩) h
/-- Take number i: a call. -/
theorem wpK_call {L r : List Oper} {i : Nat} {oi : Oper} {v : Value} {f : FuncId} {args : Array Value} {n : Nat} {l : Array Bool} {a : Act} {w : World} (hi : L.drop i = oi :: r) (hs : Region.noSelect L.toArray = true) (hf : Region.free md L.toArray l i = true) (hr : (Region.ready md L.toArray l).contains i = true) (ht : waits md m L.toArray l i (clo md L.toArray l i) = true)
    (hQ : ∀ c a w, Q (.panic c) (a.put oi.dst v) w → Q (.panic c) a w) (hw : Region.wanted oi (yielded L.toArray a.tmps) = true) (hy : ∀ x, Later w x → (execOp a.eval oi).run P x = .ok (.enter f args) x)
    (hc : ∀ x, Later w x → Calls P f args x fun e y => e = .returned v ∧ Below x.heap.size x y)
    (h : wpK P md L.toArray Q m n (l.setIfInBounds i true) (a.put oi.dst v) w) : wpK P md L.toArray Q m (n + 1) l a w :=
  wpK_first (at_drop hi) (Region.noSelect_spec hs) hQ n l a w ht (Region.free_spec (at_drop hi) hf) (by simpa using hr) (Or.inl ⟨hw, fun x hx => by unfold Oper.quietAt; rw [hy x hx]; exact ⟨rfl, hc x hx⟩⟩) h
/-- Take number i: it is not wanted. -/
theorem wpK_skip {L r : List Oper} {i : Nat} {oi : Oper} {n : Nat} {l : Array Bool} {a : Act} {w : World} (hi : L.drop i = oi :: r) (hs : Region.noSelect L.toArray = true) (hf : Region.free md L.toArray l i = true) (hr : (Region.ready md L.toArray l).contains i = true) (ht : waits md m L.toArray l i (clo md L.toArray l i) = true)
    (hQ : ∀ c a w, Q (.panic c) (a.put oi.dst undef) w → Q (.panic c) a w) (hw : Region.wanted oi (yielded L.toArray a.tmps) = false)
    (h : wpK P md L.toArray Q m n (l.setIfInBounds i true) (a.put oi.dst undef) w) : wpK P md L.toArray Q m (n + 1) l a w :=
  wpK_first (at_drop hi) (Region.noSelect_spec hs) hQ n l a w ht (Region.free_spec (at_drop hi) hf) (by simpa using hr) (Or.inr ⟨hw, rfl⟩) h
/-- One alone may come up, and answers a value; memory may be made. -/
theorem wpK_one {L r : List Oper} {i : Nat} {oi : Oper} {n : Nat} {l : Array Bool} {a : Act} {w : World} (hr : Region.ready md L.toArray l = [i]) (hi : L.drop i = oi :: r) (hw : Region.wanted oi (yielded L.toArray a.tmps) = true)
    (h : ∀ x, Later w x → ∃ (v : Value) (y : World), (execOp a.eval oi).run P x = .ok (.value v) y ∧ Later x y ∧ wpK P md L.toArray Q m n (l.setIfInBounds i true) (a.put oi.dst v) y) : wpK P md L.toArray Q m (n + 1) l a w := by
  refine .inr fun x hx => ?_
  rw [hr]
  refine ⟨fun h => (by cases h), fun j hj => ?_⟩
  rw [List.mem_singleton] at hj
  subst hj
  obtain ⟨v, y, h1, h2, h3⟩ := h x hx
  unfold wpOp
  rw [at_drop hi]
  dsimp only
  rw [if_pos hw]
  refine Or.inl ?_
  unfold Oper.wp
  rw [h1]
  exact ⟨h2, h3⟩
/-- One alone may come up: a call that answers what it likes and only makes memory. -/
theorem wpK_onecall {L r : List Oper} {i : Nat} {oi : Oper} {f : FuncId} {args : Array Value} {n : Nat} {l : Array Bool} {a : Act} {w : World} (hr : Region.ready md L.toArray l = [i]) (hi : L.drop i = oi :: r) (hw : Region.wanted oi (yielded L.toArray a.tmps) = true)
    (hy : ∀ x, Later w x → (execOp a.eval oi).run P x = .ok (.enter f args) x)
    (h : ∀ x, Later w x → Calls P f args x fun e y => ∃ v, e = .returned v ∧ Below x.heap.size x y ∧ wpK P md L.toArray Q m n (l.setIfInBounds i true) (a.put oi.dst v) y) : wpK P md L.toArray Q m (n + 1) l a w := by
  refine .inr fun x hx => ?_
  rw [hr]
  refine ⟨fun h => (by cases h), fun j hj => ?_⟩
  rw [List.mem_singleton] at hj
  subst hj
  unfold wpOp
  rw [at_drop hi]
  dsimp only
  rw [if_pos hw]
  refine Or.inl ?_
  unfold Oper.wp
  rw [hy x hx]
  exact (h x hx).mono (by rintro e y ⟨v, rfl, h1, h2⟩; exact ⟨h1, h2⟩)
/-- A call and the making of a box may come up, in either order. -/
theorem wpK_callbox {L r r' : List Oper} {i j : Nat} {oi oj : Oper} {f : FuncId} {args : Array Value} {n : Nat} {l : Array Bool} {a : Act} {w : World} {C : Array Value} {t : TypeId}
    (hr : Region.ready md L.toArray l = [i, j]) (hi : L.drop i = oi :: r) (hj : L.drop j = oj :: r') (hw : Region.wanted oi (yielded L.toArray a.tmps) = true) (hwj : Region.wanted oj (yielded L.toArray a.tmps) = true)
    (hy : ∀ x, Later w x → (execOp a.eval oi).run P x = .ok (.enter f args) x) (hz : ∀ x, Later w x → (execOp a.eval oj).run P x = .ok (.value (.pointer (some ⟨x.heap.size, 0, none⟩))) (x.alloc (.cells C t)))
    (h1 : ∀ x, Later w x → Calls P f args x fun e y => ∃ v, e = .returned v ∧ Below x.heap.size x y ∧ wpK P md L.toArray Q m n (l.setIfInBounds i true) (a.put oi.dst v) y)
    (h2 : ∀ x, Later w x → wpK P md L.toArray Q m n (l.setIfInBounds j true) (a.put oj.dst (.pointer (some ⟨x.heap.size, 0, none⟩))) (x.alloc (.cells C t))) : wpK P md L.toArray Q m (n + 1) l a w := by
  refine .inr fun x hx => ?_
  rw [hr]
  refine ⟨fun h => (by cases h), fun k hk => ?_⟩
  rw [List.mem_cons, List.mem_singleton] at hk
  unfold wpOp
  rcases hk with rfl | rfl
  · rw [at_drop hi]
    dsimp only
    rw [if_pos hw]
    refine Or.inl ?_
    unfold Oper.wp
    rw [hy x hx]
    exact (h1 x hx).mono (by rintro e y ⟨v, rfl, q1, q2⟩; exact ⟨q1, q2⟩)
  · rw [at_drop hj]
    dsimp only
    rw [if_pos hwj]
    refine Or.inl ?_
    unfold Oper.wp
    rw [hz x hx]
    exact ⟨(Below.refl _ _).alloc (Nat.le_refl _) _, h2 x hx⟩
/-- The last ones: a value that holds in every world is taken first. -/
theorem wpA_first {ops : Array Oper} {i : Nat} {oi : Oper} {v : Value} (hi : ops[i]? = some oi) (hsel : ∀ (j : Nat) (o : Oper) cs b, ops[j]? = some o → o.op ≠ .select cs b) (hQ : ∀ c a w, Q (.panic c) (a.put oi.dst v) w → Q (.panic c) a w) :
    ∀ (n : Nat) (l : Array Bool) (a : Act) (w : World), (∀ j oj, ops[j]? = some oj → j ≠ i → l.getD j true = false → (∀ e ∈ oj.after, Region.binds md e = true → e.on ≠ i) → oi.apart ops oj = true) →
      i ∈ Region.ready md ops l → Region.wanted oi (yielded ops a.tmps) = true → (∀ x, (execOp a.eval oi).run P x = .ok (.value v) x) → wpAny P md ops Q n (l.setIfInBounds i true) (a.put oi.dst v) w → wpAny P md ops Q (n + 1) l a w := by
  intro n
  induction n with
  | zero =>
    intro l a w _ hr hw hy H
    refine ⟨fun h => (by rw [h] at hr; cases hr), fun j hj => ?_⟩
    by_cases hji : j = i
    · subst hji
      unfold wpOp
      rw [hi]
      dsimp only
      rw [if_pos hw]
      refine Or.inl ?_
      unfold Oper.wp
      rw [hy w]
      exact H
    · have q := ready_mono hj hji
      rw [H.1] at q
      cases q
  | succ n ih =>
    intro l a w hfree hr hw hy H
    refine ⟨fun h => (by rw [h] at hr; cases hr), fun j hj => ?_⟩
    by_cases hji : j = i
    · subst hji
      unfold wpOp
      rw [hi]
      dsimp only
      rw [if_pos hw]
      refine Or.inl ?_
      unfold Oper.wp
      rw [hy w]
      exact H
    · obtain ⟨hun, oj, hoj, -⟩ := mem_ready.1 hj
      have hap := hfree j oj hoj hji hun (ready_free hr hj hoj)
      have h3 := (Oper.apart_spec hap).2.2
      have q := op_frame hoj (wpOp_putIf (S := fun _ => False) hoj hap (fun cs b => hsel i oi cs b hi) (fun cs b => hsel j oj cs b hoj) hQ (Or.inl ⟨hw, fun _ hf => hf.elim⟩) (H.2 j (ready_mono hj hji)))
      refine wpOp_mono ?_ q
      have step : ∀ (b : Act) (y : World), execOp b.eval oi = execOp a.eval oi → Region.wanted oi (yielded ops b.tmps) = Region.wanted oi (yielded ops a.tmps) → wpAny P md ops Q n ((l.setIfInBounds i true).setIfInBounds j true) (b.put oi.dst v) y → wpAny P md ops Q (n + 1) (l.setIfInBounds j true) b y := fun b y e1 e2 hk => by
        refine ih (l.setIfInBounds j true) b y (fun k ok hk hki hku hno => hfree k ok hk hki ?_ hno) (ready_mono hr (Ne.symm hji)) (by rw [e2]; exact hw) (fun x => by rw [e1]; exact hy x) ?_
        · by_cases hjk : j = k
          · subst hjk; exact hun
          · rw [getD_set_ne true hjk] at hku; exact hku
        · rw [Array.setIfInBounds_comm _ _ hji]
          exact hk
      rintro b y ⟨⟨u, rfl | ⟨f, rfl⟩⟩, -, hk⟩
      · exact step _ _ (execOp_put oi (fun cs b => hsel i oi cs b hi) a oj.dst u h3) (wanted_put oi a oj.dst u h3) hk
      · exact step _ _ (execOp_put oi (fun cs b => hsel i oi cs b hi) { a with defers := f :: a.defers } oj.dst u h3) (wanted_put oi { a with defers := f :: a.defers } oj.dst u h3) hk
theorem wpA_val {L r : List Oper} {i : Nat} {oi : Oper} {v : Value} {n : Nat} {l : Array Bool} {a : Act} {w : World} (hi : L.drop i = oi :: r) (hs : Region.noSelect L.toArray = true) (hf : Region.free md L.toArray l i = true) (hr : (Region.ready md L.toArray l).contains i = true)
    (hQ : ∀ c a w, Q (.panic c) (a.put oi.dst v) w → Q (.panic c) a w) (hw : Region.wanted oi (yielded L.toArray a.tmps) = true) (hy : ∀ x, (execOp a.eval oi).run P x = .ok (.value v) x)
    (h : wpAny P md L.toArray Q n (l.setIfInBounds i true) (a.put oi.dst v) w) : wpAny P md L.toArray Q (n + 1) l a w :=
  wpA_first (at_drop hi) (Region.noSelect_spec hs) hQ n l a w (Region.free_spec (at_drop hi) hf) (by simpa using hr) hw hy h
/-- The last one: a call. -/
theorem wpA_call {L r : List Oper} {i : Nat} {oi : Oper} {f : FuncId} {args : Array Value} {n : Nat} {l : Array Bool} {a : Act} {w : World} (hr : Region.ready md L.toArray l = [i]) (hi : L.drop i = oi :: r) (hw : Region.wanted oi (yielded L.toArray a.tmps) = true) (hy : (execOp a.eval oi).run P w = .ok (.enter f args) w)
    (hd : Region.ready md L.toArray (l.setIfInBounds i true) = []) (h : Calls P f args w fun e y => ∃ v, e = .returned v ∧ Q .normal (a.put oi.dst v) y) : wpAny P md L.toArray Q (n + 1) l a w := by
  refine ⟨fun h => (by rw [hr] at h; cases h), fun j hj => ?_⟩
  rw [hr, List.mem_singleton] at hj
  subst hj
  unfold wpOp
  rw [at_drop hi]
  dsimp only
  rw [if_pos hw]
  refine Or.inl ?_
  unfold Oper.wp
  rw [hy]
  refine h.mono ?_
  rintro e y ⟨v, rfl, hq⟩
  cases n with
  | zero => exact ⟨hd, hq⟩
  | succ n => exact ⟨fun _ => hq, by rw [hd]; simp⟩
/-- One alone may come up: a store; the rest behind it. -/
theorem wpA_step {L r : List Oper} {i : Nat} {oi : Oper} {n : Nat} {l : Array Bool} {a : Act} {w y : World} (hr : Region.ready md L.toArray l = [i]) (hi : L.drop i = oi :: r) (hw : Region.wanted oi (yielded L.toArray a.tmps) = true) (hy : (execOp a.eval oi).run P w = .ok .skip y)
    (h : wpAny P md L.toArray Q n (l.setIfInBounds i true) (a.put oi.dst undef) y) : wpAny P md L.toArray Q (n + 1) l a w := by
  refine ⟨fun h => (by rw [hr] at h; cases h), fun j hj => ?_⟩
  rw [hr, List.mem_singleton] at hj
  subst hj
  unfold wpOp
  rw [at_drop hi]
  dsimp only
  rw [if_pos hw]
  refine Or.inl ?_
  unfold Oper.wp
  rw [hy]
  exact h
theorem wpA_done {ops : Array Oper} {l : Array Bool} {a : Act} {w : World} (hr : Region.ready md ops l = []) (h : Q .normal a w) : ∀ n, wpAny P md ops Q n l a w
  | 0 => ⟨hr, h⟩
  | _ + 1 => ⟨fun _ => h, by rw [hr]; simp⟩
/-- The last one: a store. -/
theorem wpA_store {L r : List Oper} {i : Nat} {oi : Oper} {n : Nat} {l : Array Bool} {a : Act} {w y : World} (hr : Region.ready md L.toArray l = [i]) (hi : L.drop i = oi :: r) (hw : Region.wanted oi (yielded L.toArray a.tmps) = true) (hy : (execOp a.eval oi).run P w = .ok .skip y)
    (hd : Region.ready md L.toArray (l.setIfInBounds i true) = []) (h : Q .normal (a.put oi.dst undef) y) : wpAny P md L.toArray Q (n + 1) l a w := by
  refine ⟨fun h => (by rw [hr] at h; cases h), fun j hj => ?_⟩
  rw [hr, List.mem_singleton] at hj
  subst hj
  unfold wpOp
  rw [at_drop hi]
  dsimp only
  rw [if_pos hw]
  refine Or.inl ?_
  unfold Oper.wp
  rw [hy]
  cases n with
  | zero => exact ⟨hd, h⟩
  | succ n => exact ⟨fun _ => h, by rw [hd]; simp⟩
end
end Go.Proofs.Ytodgabdhgaglmaa
/- AkJ: The program's own EditOf (written by gen/mkakj.py). -/
namespace Go.Proofs.Ytodgabdhgaglmaa
set_option maxRecDepth 100000
open Go.RowKit BigFrame
attribute [local go_sem ↓] Go.wp_at_zero Go.wp_at_succ
theorem implKindOk (q : AkM) (w : World) : Calls Try.prog 21 #[akv q] w fun e w' => e = .returned (.bool (inI q.kind 1 10)) ∧ Below w.heap.size w w' := by
  obtain ⟨kind, who, path, dest, text, num⟩ := q
  unfold inI
  go_enter Try.func21, Try.ntmps21
  go_wp2_with fail
  all_goals
    go_ret
    exact ⟨by first | (simp [*]; done) | (simp [*]; omega), (Below.refl _ _).alloc (Nat.le_refl _) _⟩
theorem akMade (q : AkM) (h : inI q.kind 1 10 = true) : ∃ F, (∀ (A : Array Value) (W : World), (callFunc F A).run Try.prog W = .ok (.enter F A) W) ∧ (∀ W : World, (Instr.index 56 akTab (.int .i64 q.kind)).run Try.prog W = .ok (.func (.func F) #[] #[]) W) ∧ ∀ W : World, Calls Try.prog F #[akv q] W fun e w' => e = .returned (ev (edOf q)) ∧ Below W.heap.size W w' := by
  obtain ⟨kind, who, path, dest, text, num⟩ := q
  have h' := inI_iff.1 h
  have hc : kind = 1 ∨ kind = 2 ∨ kind = 3 ∨ kind = 4 ∨ kind = 5 ∨ kind = 6 ∨ kind = 7 ∨ kind = 8 ∨ kind = 9 ∨ kind = 10 := by dsimp only at h'; omega
  rcases hc with rfl | rfl | rfl | rfl | rfl | rfl | rfl | rfl | rfl | rfl
  · exact ⟨49, fun A W => by kernel_rfl, fun W => by kernel_rfl, implToMake 1 who num path dest text⟩
  · exact ⟨50, fun A W => by kernel_rfl, fun W => by kernel_rfl, implToCreate 2 who num path dest text⟩
  · exact ⟨51, fun A W => by kernel_rfl, fun W => by kernel_rfl, implToAppend 3 who num path dest text⟩
  · exact ⟨52, fun A W => by kernel_rfl, fun W => by kernel_rfl, implToClose 4 who num path dest text⟩
  · exact ⟨53, fun A W => by kernel_rfl, fun W => by kernel_rfl, implToMove 5 who num path dest text⟩
  · exact ⟨54, fun A W => by kernel_rfl, fun W => by kernel_rfl, implToDrop 6 who num path dest text⟩
  · exact ⟨55, fun A W => by kernel_rfl, fun W => by kernel_rfl, implToRead 7 who num path dest text⟩
  · exact ⟨56, fun A W => by kernel_rfl, fun W => by kernel_rfl, implToSchema 8 who num path dest text⟩
  · exact ⟨57, fun A W => by kernel_rfl, fun W => by kernel_rfl, implToQuota 9 who num path dest text⟩
  · exact ⟨58, fun A W => by kernel_rfl, fun W => by kernel_rfl, implToReopen 10 who num path dest text⟩
set_option maxRecDepth 100000 in
set_option maxHeartbeats 4000000 in
theorem implEditOf (q : AkM) (w : World) (hp : q.path.size ≤ 1048576) (hd : q.dest.size ≤ 1048576) : Calls Try.prog 16 #[akv q] w fun e w' => e = .returned (ev (edOf q)) ∧ Below w.heap.size w w' := by
  have HK := Shut.mk (fun W => implKindOk q W)
  have HM := Shut.mk (akMade q)
  have HNO : Shut (inI q.kind 1 10 = false → edOf q = ⟨0, ⟨#[]⟩, ⟨#[]⟩, 0, 0⟩) := ⟨fun h => by
    unfold edOf
    unfold inI at h
    simp only [Bool.and_eq_false_iff, decide_eq_false_iff_not] at h
    repeat rw [if_neg (by omega)]⟩
  have HFT := Shut.mk (edOf_fit hp hd)
  obtain ⟨E, hE⟩ : ∃ E, E = edOf q := ⟨_, rfl⟩
  rw [← hE] at HM HNO HFT ⊢
  obtain ⟨ok, hok⟩ : ∃ b, b = inI q.kind 1 10 := ⟨_, rfl⟩
  rw [← hok] at HK HM HNO
  clear hE hok hp hd
  obtain ⟨kind, who, path, dest, text, num⟩ := q
  obtain ⟨ek, ep, ed, en, ew⟩ := E
  dsimp only at *
  obtain ⟨qb, hqb⟩ : ∃ b, b = w.heap.size := ⟨_, rfl⟩
  obtain ⟨rb, hrb⟩ : ∃ b, b = qb + 1 := ⟨_, rfl⟩
  have HS : Shut (SL w ((w.alloc (.cells #[.int .i64 kind, .int .i64 who, .string path, .string dest, .string text, .int .i64 num] 26)).alloc (.cells #[.int .i64 0, .string ⟨#[]⟩, .string ⟨#[]⟩, .int .i64 0, .int .i64 0] 43)) [bxS rb [.int .i64 0, .string ⟨#[]⟩, .string ⟨#[]⟩, .int .i64 0, .int .i64 0], bxS qb [.int .i64 kind, .int .i64 who, .string path, .string dest, .string text, .int .i64 num]]) := ⟨by
    have := ((SL.start w).new #[.int .i64 kind, .int .i64 who, .string path, .string dest, .string text, .int .i64 num] 26).new #[.int .i64 0, .string ⟨#[]⟩, .string ⟨#[]⟩, .int .i64 0, .int .i64 0] 43
    rw [show (w.alloc (.cells #[.int .i64 kind, .int .i64 who, .string path, .string dest, .string text, .int .i64 num] 26)).heap.size = rb by simp [hqb, hrb], ← hqb] at this
    exact this⟩
  go_enter Try.func16, Try.ntmps16
  go_upto_region 1 with fail
  rw [← hqb, ← hrb]
  refine wp_shade (fun W => SL w W [bxS rb [.int .i64 0, .string ⟨#[]⟩, .string ⟨#[]⟩, .int .i64 0, .int .i64 0], bxS qb [.int .i64 kind, .int .i64 who, .string path, .string dest, .string text, .int .i64 num]]) HS.out ?_
  intro W0 hS0
  have H := Shut.mk hS0
  clear hS0 HS hqb hrb
  have x0 := (H.out.bx 1 rfl 0 _ rfl).1
  have x1 := (H.out.bx 1 rfl 1 _ rfl).1
  have x2 := (H.out.bx 1 rfl 2 _ rfl).1
  have x3 := (H.out.bx 1 rfl 3 _ rfl).1
  have x4 := (H.out.bx 1 rfl 4 _ rfl).1
  have x5 := (H.out.bx 1 rfl 5 _ rfl).1
  cases ok with
  | false =>
    obtain ⟨rfl, rfl, rfl, rfl, rfl⟩ : ek = 0 ∧ ep = ⟨#[]⟩ ∧ ed = ⟨#[]⟩ ∧ en = 0 ∧ ew = 0 := by simpa using HNO.out rfl
    go_wp2_with (go_at_call 21; refine (HK.out _).mono ?_; rintro e w1 ⟨rfl, hb⟩; replace H := Shut.mk (H.out.below hb); clear hb x0 x1 x2 x3 x4 x5; obtain ⟨r0, s0⟩ := H.out.bx 0 rfl 0 _ rfl; obtain ⟨r1, s1⟩ := H.out.bx 0 rfl 1 _ rfl; obtain ⟨r2, s2⟩ := H.out.bx 0 rfl 2 _ rfl; obtain ⟨r3, s3⟩ := H.out.bx 0 rfl 3 _ rfl; obtain ⟨r4, s4⟩ := H.out.bx 0 rfl 4 _ rfl)
    have HE := Shut.mk (((((H.out.put 0 rfl 0 (.int .i64 0) (by simp)).put 0 rfl 1 (.string ⟨#[]⟩) (by simp)).put 0 rfl 2 (.string ⟨#[]⟩) (by simp)).put 0 rfl 3 (.int .i64 0) (by simp)).put 0 rfl 4 (.int .i64 0) (by simp))
    refine bodyPost_ret (v := ev ⟨0, ⟨#[]⟩, ⟨#[]⟩, 0, 0⟩) (by simp [results, Try.results16, go_sem, r0, r1, r2, r3, r4]) rfl ⟨rfl, ?_⟩
    exact HE.out.bel
  | true =>
    obtain ⟨F, hF0, hF1, hF2⟩ := HM.out rfl
    have HF := Shut.mk hF2
    clear hF2 HM HNO
    go_upto_region 3 with (go_at_call 21; refine (HK.out _).mono ?_; rintro e w1 ⟨rfl, hb⟩; replace H := Shut.mk (H.out.below hb); clear hb x0 x1 x2 x3 x4 x5)
    go_cut [3] from 8 to 14 (fun u wx => ∃ nb, u = .pointer (some ⟨nb, 0, none⟩) ∧ Shut (SL w wx [bxS nb [.int .i64 ek, .string ep, .string ed, .int .i64 en, .int .i64 ew], bxS rb [.int .i64 0, .string ⟨#[]⟩, .string ⟨#[]⟩, .int .i64 0, .int .i64 0], bxS qb [.int .i64 kind, .int .i64 who, .string path, .string dest, .string text, .int .i64 num]]))
    case first =>
      have HLE : Shut (∀ x, Later w1.drew x → x.cell? ⟨qb, 0, none⟩ = some (.int .i64 kind) ∧ x.cell? ⟨qb, 1, none⟩ = some (.int .i64 who) ∧ x.cell? ⟨qb, 2, none⟩ = some (.string path) ∧ x.cell? ⟨qb, 3, none⟩ = some (.string dest) ∧ x.cell? ⟨qb, 4, none⟩ = some (.string text) ∧ x.cell? ⟨qb, 5, none⟩ = some (.int .i64 num)) := ⟨fun x hx => by
        have M := H.out.drew.below hx
        exact ⟨(M.bx 1 rfl 0 _ rfl).1, (M.bx 1 rfl 1 _ rfl).1, (M.bx 1 rfl 2 _ rfl).1, (M.bx 1 rfl 3 _ rfl).1, (M.bx 1 rfl 4 _ rfl).1, (M.bx 1 rfl 5 _ rfl).1⟩⟩
      have HMX : Shut (∀ x, Later w1.drew x → SL w x [bxS rb [.int .i64 0, .string ⟨#[]⟩, .string ⟨#[]⟩, .int .i64 0, .int .i64 0], bxS qb [.int .i64 kind, .int .i64 who, .string path, .string dest, .string text, .int .i64 num]]) := ⟨fun x hx => H.out.drew.below hx⟩
      refine wp_region_tail 7 (by kernel_rfl) ?_
      refine wpK_call (i := 0) (v := akTab) (f := 36) (args := #[]) rfl (by kernel_rfl) (by kernel_rfl) (by kernel_rfl) (by kernel_rfl) (fun _ _ _ h => h) (by rfl) ?hya0 (fun x _ => implAskRecords x) ?resta0
      case hya0 => (intro x hx; obtain ⟨d0, d1, d2, d3, d4, d5⟩ := HLE.out x hx; go_simp; try with_reducible rfl)
      try simp only [Act.put, List.setIfInBounds_toArray, List.set_cons_zero, List.set_cons_succ]
      refine wpK_val (i := 1) (v := ?va1) rfl (by kernel_rfl) (by kernel_rfl) (by kernel_rfl) (by kernel_rfl) (fun _ _ _ h => h) (by rfl) ?hya1 ?resta1
      case hya1 => (intro x hx; obtain ⟨d0, d1, d2, d3, d4, d5⟩ := HLE.out x hx; go_simp; try with_reducible rfl)
      try simp only [Act.put, List.setIfInBounds_toArray, List.set_cons_zero, List.set_cons_succ]
      refine wpK_val (i := 2) (v := ?va2) rfl (by kernel_rfl) (by kernel_rfl) (by kernel_rfl) (by kernel_rfl) (fun _ _ _ h => h) (by rfl) ?hya2 ?resta2
      case hya2 => (intro x hx; obtain ⟨d0, d1, d2, d3, d4, d5⟩ := HLE.out x hx; go_simp; try with_reducible rfl)
      try simp only [Act.put, List.setIfInBounds_toArray, List.set_cons_zero, List.set_cons_succ]
      refine wpK_val (i := 3) (v := ?va3) rfl (by kernel_rfl) (by kernel_rfl) (by kernel_rfl) (by kernel_rfl) (fun _ _ _ h => h) (by rfl) ?hya3 ?resta3
      case hya3 => (intro x hx; obtain ⟨d0, d1, d2, d3, d4, d5⟩ := HLE.out x hx; go_simp; try with_reducible rfl)
      try simp only [Act.put, List.setIfInBounds_toArray, List.set_cons_zero, List.set_cons_succ]
      refine wpK_val (i := 4) (v := ?va4) rfl (by kernel_rfl) (by kernel_rfl) (by kernel_rfl) (by kernel_rfl) (fun _ _ _ h => h) (by rfl) ?hya4 ?resta4
      case hya4 => (intro x hx; obtain ⟨d0, d1, d2, d3, d4, d5⟩ := HLE.out x hx; go_simp; try with_reducible rfl)
      try simp only [Act.put, List.setIfInBounds_toArray, List.set_cons_zero, List.set_cons_succ]
      refine wpK_callbox (f := F) (args := #[akv ⟨kind, who, path, dest, text, num⟩]) (C := #[.int .i64 0, .string ⟨#[]⟩, .string ⟨#[]⟩, .int .i64 0, .int .i64 0]) (t := 43) (i := 5) (j := 6) (by kernel_rfl) rfl rfl (by rfl) (by rfl) (fun x hx => by go_simp) (fun x hx => by kernel_rfl) (fun x hx => (HF.out x).mono ?_) (fun x hx => ?_)
      · rintro e y ⟨rfl, hby⟩
        refine ⟨_, rfl, hby, ?_⟩
        have HY := Shut.mk ((HMX.out x hx).below hby)
        clear hx hby
        try simp only [Act.put, List.setIfInBounds_toArray, List.set_cons_zero, List.set_cons_succ]
        refine wpK_one (i := 6) (by kernel_rfl) rfl (by rfl) (fun x2 hx2 => ⟨.pointer (some ⟨x2.heap.size, 0, none⟩), x2.alloc (.cells #[.int .i64 0, .string ⟨#[]⟩, .string ⟨#[]⟩, .int .i64 0, .int .i64 0] 43), by kernel_rfl, (Below.refl _ _).alloc (Nat.le_refl _) _, ?_⟩)
        have HY2 := Shut.mk ((HY.out.below hx2).new #[.int .i64 0, .string ⟨#[]⟩, .string ⟨#[]⟩, .int .i64 0, .int .i64 0] 43)
        obtain ⟨nb, hnb⟩ : ∃ nb, nb = x2.heap.size := ⟨_, rfl⟩
        rw [← hnb] at HY2 ⊢
        clear hx2 hnb HY
        try simp only [Act.put, List.setIfInBounds_toArray, List.set_cons_zero, List.set_cons_succ]
        refine wpK_tail (by kernel_rfl) ?_
        intro x5 hx5
        have HY3 := Shut.mk (HY2.out.below hx5)
        clear HY2
        have q0 := (HY3.out.bx 0 rfl 0 _ rfl)
        have q1 := (HY3.out.bx 0 rfl 1 _ rfl)
        have q2 := (HY3.out.bx 0 rfl 2 _ rfl)
        have q3 := (HY3.out.bx 0 rfl 3 _ rfl)
        have q4 := (HY3.out.bx 0 rfl 4 _ rfl)
        obtain ⟨q0, qf0⟩ := q0
        obtain ⟨q1, qf1⟩ := q1
        obtain ⟨q2, qf2⟩ := q2
        obtain ⟨q3, qf3⟩ := q3
        obtain ⟨q4, qf4⟩ := q4
        refine wpA_store (y := ((((x5.setCell ⟨nb, 0, none⟩ (.int .i64 ek)).setCell ⟨nb, 1, none⟩ (.string ep)).setCell ⟨nb, 2, none⟩ (.string ed)).setCell ⟨nb, 3, none⟩ (.int .i64 en)).setCell ⟨nb, 4, none⟩ (.int .i64 ew)) (i := 7) (by kernel_rfl) rfl (by rfl) (by go_simp) (by kernel_rfl) ?_
        have HZ := Shut.mk (((((HY3.out.put 0 rfl 0 (.int .i64 ek) (by simp)).put 0 rfl 1 (.string ep) (by simp)).put 0 rfl 2 (.string ed) (by simp)).put 0 rfl 3 (.int .i64 en) (by simp)).put 0 rfl 4 (.int .i64 ew) (by simp))
        clear q0 qf0 q1 qf1 q2 qf2 q3 qf3 q4 qf4 hx5 HY3
        simp only [Act.put]
        go_wp2_with fail
        go_meet
        case rel => exact ⟨nb, rfl, HZ⟩
      · have HY := Shut.mk ((HMX.out x hx).new #[.int .i64 0, .string ⟨#[]⟩, .string ⟨#[]⟩, .int .i64 0, .int .i64 0] 43)
        obtain ⟨nb, hnb⟩ : ∃ nb, nb = x.heap.size := ⟨_, rfl⟩
        rw [← hnb] at HY ⊢
        generalize x.alloc (.cells #[.int .i64 0, .string ⟨#[]⟩, .string ⟨#[]⟩, .int .i64 0, .int .i64 0] 43) = x2 at HY ⊢
        clear hnb hx
        try simp only [Act.put, List.setIfInBounds_toArray, List.set_cons_zero, List.set_cons_succ]
        refine wpK_onecall (f := F) (args := #[akv ⟨kind, who, path, dest, text, num⟩]) (i := 5) (by kernel_rfl) rfl (by rfl) (fun x3 hx3 => by go_simp) (fun x3 hx3 => (HF.out x3).mono ?_)
        rintro e y ⟨rfl, hby⟩
        refine ⟨_, rfl, hby, ?_⟩
        have HY2 := Shut.mk ((HY.out.below hx3).below hby)
        clear hx3 hby HY
        try simp only [Act.put, List.setIfInBounds_toArray, List.set_cons_zero, List.set_cons_succ]
        refine wpK_tail (by kernel_rfl) ?_
        intro x5 hx5
        have HY3 := Shut.mk (HY2.out.below hx5)
        clear HY2
        have q0 := (HY3.out.bx 0 rfl 0 _ rfl)
        have q1 := (HY3.out.bx 0 rfl 1 _ rfl)
        have q2 := (HY3.out.bx 0 rfl 2 _ rfl)
        have q3 := (HY3.out.bx 0 rfl 3 _ rfl)
        have q4 := (HY3.out.bx 0 rfl 4 _ rfl)
        obtain ⟨q0, qf0⟩ := q0
        obtain ⟨q1, qf1⟩ := q1
        obtain ⟨q2, qf2⟩ := q2
        obtain ⟨q3, qf3⟩ := q3
        obtain ⟨q4, qf4⟩ := q4
        refine wpA_store (y := ((((x5.setCell ⟨nb, 0, none⟩ (.int .i64 ek)).setCell ⟨nb, 1, none⟩ (.string ep)).setCell ⟨nb, 2, none⟩ (.string ed)).setCell ⟨nb, 3, none⟩ (.int .i64 en)).setCell ⟨nb, 4, none⟩ (.int .i64 ew)) (i := 7) (by kernel_rfl) rfl (by rfl) (by go_simp) (by kernel_rfl) ?_
        have HZ := Shut.mk (((((HY3.out.put 0 rfl 0 (.int .i64 ek) (by simp)).put 0 rfl 1 (.string ep) (by simp)).put 0 rfl 2 (.string ed) (by simp)).put 0 rfl 3 (.int .i64 en) (by simp)).put 0 rfl 4 (.int .i64 ew) (by simp))
        clear q0 qf0 q1 qf1 q2 qf2 q3 qf3 q4 qf4 hx5 HY3
        simp only [Act.put]
        go_wp2_with fail
        go_meet
        case rel => exact ⟨nb, rfl, HZ⟩
    case rest =>
      obtain ⟨nb, rfl, hS⟩ := hcut
      replace H := Shut.mk hS.out
      clear hS HF hF0 hF1 HK
      have hs1 : ep.size ≤ 281474976710656 := Nat.le_trans HFT.out.1 (by decide)
      have hs2 : ed.size ≤ 281474976710656 := Nat.le_trans HFT.out.2 (by decide)
      have HC1 := Shut.mk (fun W => implClone ep W hs1)
      have HC2 := Shut.mk (fun W => implClone ed W hs2)
      clear hs1 hs2 HFT
      go_upto_region 4 with fail
      have HLE : Shut (∀ x, Later wc.drew x → x.cell? ⟨nb, 1, none⟩ = some (.string ep) ∧ x.cell? ⟨nb, 2, none⟩ = some (.string ed)) := ⟨fun x hx => by
        have M := H.out.drew.below hx
        exact ⟨(M.bx 0 rfl 1 _ rfl).1, (M.bx 0 rfl 2 _ rfl).1⟩⟩
      refine wp_region_tail 7 (by kernel_rfl) ?_
      refine wpK_val (i := 0) (v := ?vb0) rfl (by kernel_rfl) (by kernel_rfl) (by kernel_rfl) (by kernel_rfl) (fun _ _ _ h => h) (by rfl) ?hyb0 ?restb0
      case hyb0 => (intro x hx; obtain ⟨d1, d2⟩ := HLE.out x hx; go_simp; try with_reducible rfl)
      try simp only [Act.put, List.setIfInBounds_toArray, List.set_cons_zero, List.set_cons_succ]
      refine wpK_val (i := 1) (v := ?vb1) rfl (by kernel_rfl) (by kernel_rfl) (by kernel_rfl) (by kernel_rfl) (fun _ _ _ h => h) (by rfl) ?hyb1 ?restb1
      case hyb1 => (intro x hx; obtain ⟨d1, d2⟩ := HLE.out x hx; go_simp; try with_reducible rfl)
      try simp only [Act.put, List.setIfInBounds_toArray, List.set_cons_zero, List.set_cons_succ]
      refine wpK_call (i := 2) (v := .string ep) (f := 37) (args := #[.string ep]) rfl (by kernel_rfl) (by kernel_rfl) (by kernel_rfl) (by kernel_rfl) (fun _ _ _ h => h) (by rfl) ?hyb2 (fun x _ => HC1.out x) ?restb2
      case hyb2 => (intro x hx; obtain ⟨d1, d2⟩ := HLE.out x hx; go_simp; try with_reducible rfl)
      try simp only [Act.put, List.setIfInBounds_toArray, List.set_cons_zero, List.set_cons_succ]
      refine wpK_val (i := 3) (v := ?vb3) rfl (by kernel_rfl) (by kernel_rfl) (by kernel_rfl) (by kernel_rfl) (fun _ _ _ h => h) (by rfl) ?hyb3 ?restb3
      case hyb3 => (intro x hx; obtain ⟨d1, d2⟩ := HLE.out x hx; go_simp; try with_reducible rfl)
      try simp only [Act.put, List.setIfInBounds_toArray, List.set_cons_zero, List.set_cons_succ]
      refine wpK_val (i := 4) (v := ?vb4) rfl (by kernel_rfl) (by kernel_rfl) (by kernel_rfl) (by kernel_rfl) (fun _ _ _ h => h) (by rfl) ?hyb4 ?restb4
      case hyb4 => (intro x hx; obtain ⟨d1, d2⟩ := HLE.out x hx; go_simp; try with_reducible rfl)
      try simp only [Act.put, List.setIfInBounds_toArray, List.set_cons_zero, List.set_cons_succ]
      refine wpK_val (i := 6) (v := ?vb6) rfl (by kernel_rfl) (by kernel_rfl) (by kernel_rfl) (by kernel_rfl) (fun _ _ _ h => h) (by rfl) ?hyb6 ?restb6
      case hyb6 => (intro x hx; obtain ⟨d1, d2⟩ := HLE.out x hx; go_simp; try with_reducible rfl)
      try simp only [Act.put, List.setIfInBounds_toArray, List.set_cons_zero, List.set_cons_succ]
      refine wpK_call (i := 5) (v := .string ed) (f := 37) (args := #[.string ed]) rfl (by kernel_rfl) (by kernel_rfl) (by kernel_rfl) (by kernel_rfl) (fun _ _ _ h => h) (by rfl) ?hyb5 (fun x _ => HC2.out x) ?restb5
      case hyb5 => (intro x hx; obtain ⟨d1, d2⟩ := HLE.out x hx; go_simp; try with_reducible rfl)
      try simp only [Act.put, List.setIfInBounds_toArray, List.set_cons_zero, List.set_cons_succ]
      refine wpK_tail (by kernel_rfl) ?_
      intro x5 hx5
      have HY := Shut.mk (H.out.drew.below hx5)
      clear H hx5 HLE HC1 HC2
      obtain ⟨q1, qf1⟩ := HY.out.bx 0 rfl 1 _ rfl
      obtain ⟨q2, qf2⟩ := HY.out.bx 0 rfl 2 _ rfl
      refine wpA_step (y := x5.setCell ⟨nb, 1, none⟩ (.string ep)) (i := 7) (by kernel_rfl) rfl (by rfl) (by go_simp) ?_
      replace HY := Shut.mk (HY.out.put 0 rfl 1 (.string ep) (by simp))
      generalize x5.setCell ⟨nb, 1, none⟩ (.string ep) = x6 at *
      clear q1 qf1 q2 qf2
      simp only [List.set_cons_zero, List.set_cons_succ] at HY
      obtain ⟨q2, qf2⟩ := HY.out.bx 0 rfl 2 _ rfl
      simp only [Act.put]
      refine wpA_val (i := 8) (v := .pointer (some ⟨nb, 2, none⟩)) rfl (by kernel_rfl) (by kernel_rfl) (by kernel_rfl) (fun _ _ _ h => h) (by rfl) (fun x => by go_simp) ?_
      try simp only [Act.put, List.setIfInBounds_toArray, List.set_cons_zero, List.set_cons_succ]
      refine wpA_store (y := x6.setCell ⟨nb, 2, none⟩ (.string ed)) (i := 9) (by kernel_rfl) rfl (by rfl) (by go_simp) (by kernel_rfl) ?_
      replace HY := Shut.mk (HY.out.put 0 rfl 2 (.string ed) (by simp))
      generalize x6.setCell ⟨nb, 2, none⟩ (.string ed) = x7 at *
      clear q2 qf2
      simp only [List.set_cons_zero, List.set_cons_succ, Act.put] at HY ⊢
      have y0 := (HY.out.bx 0 rfl 0 _ rfl).1
      have y1 := (HY.out.bx 0 rfl 1 _ rfl).1
      have y2 := (HY.out.bx 0 rfl 2 _ rfl).1
      have y3 := (HY.out.bx 0 rfl 3 _ rfl).1
      have y4 := (HY.out.bx 0 rfl 4 _ rfl).1
      obtain ⟨r0, s0⟩ := HY.out.bx 1 rfl 0 _ rfl
      obtain ⟨r1, s1⟩ := HY.out.bx 1 rfl 1 _ rfl
      obtain ⟨r2, s2⟩ := HY.out.bx 1 rfl 2 _ rfl
      obtain ⟨r3, s3⟩ := HY.out.bx 1 rfl 3 _ rfl
      obtain ⟨r4, s4⟩ := HY.out.bx 1 rfl 4 _ rfl
      have HE := Shut.mk (((((HY.out.put 1 rfl 0 (.int .i64 ek) (by simp)).put 1 rfl 1 (.string ep) (by simp)).put 1 rfl 2 (.string ed) (by simp)).put 1 rfl 3 (.int .i64 en) (by simp)).put 1 rfl 4 (.int .i64 ew) (by simp))
      clear HY
      go_wp2_with fail
      refine bodyPost_ret (v := ev ⟨ek, ep, ed, en, ew⟩) (by simp [results, Try.results16, go_sem, r0, r1, r2, r3, r4]) rfl ⟨rfl, ?_⟩
      exact HE.out.bel
end Go.Proofs.Ytodgabdhgaglmaa
/- PaI: The program's own NameOk: its text is gone through rune by rune. -/
namespace Go.Proofs.Ytodgabdhgaglmaa
set_option maxRecDepth 100000
open Go.RowKit
open Go.PlainAid (bt)
attribute [local go_sem ↓] Go.wp_at_zero Go.wp_at_succ

theorem get_bt9 (s : ByteArray) (j : Nat) (h : j < s.size) : bt s j = ((s.get! j).toNat : Int) := by
  unfold bt
  rw [dif_pos h]
  simp [ByteArray.get!, getElem!_pos, h]
  rfl
/-- A rune that is no byte below 128 goes over bytes from 128 on alone, and not past the end. -/
theorem decode_far (s : ByteArray) (pos : Nat) (h : pos < s.size) (ha : 128 ≤ bt s pos) : pos + (Utf8.decode s pos).2 ≤ s.size ∧ (Utf8.decode s pos).2 ≤ 4 ∧ ∀ d, d < (Utf8.decode s pos).2 → 128 ≤ bt s (pos + d) := by
  have hg := fun d (q : pos + d < s.size) => get_bt9 s (pos + d) q
  have g0 := hg 0 (by omega)
  simp only [Nat.add_zero] at g0
  have g1 := hg 1
  have g2 := hg 2
  have g3 := hg 3
  clear hg
  have hn : ¬ (s.get! (pos + 0)).toNat < 128 := by simp only [Nat.add_zero]; omega
  simp only [Utf8.decode, hn, if_false]
  have hone : pos + 1 ≤ s.size ∧ 1 ≤ 4 ∧ ∀ d, d < 1 → 128 ≤ bt s (pos + d) := ⟨by omega, by omega, fun d hd => by
    have : d = 0 := by omega
    subst this; exact ha⟩
  split
  · rename_i q
    simp only [Bool.and_eq_true, decide_eq_true_eq, beq_iff_eq] at q
    split
    · refine ⟨by simp only; omega, by simp only; omega, fun d hd => ?_⟩
      have h1 := g1 q.2.1
      rcases (show d = 0 ∨ d = 1 from by simp only at hd; omega) with rfl | rfl
      · exact ha
      · rw [h1]; omega
    · exact hone
  · split
    · rename_i q
      simp only [Bool.and_eq_true, decide_eq_true_eq, beq_iff_eq] at q
      split
      · refine ⟨by simp only; omega, by simp only; omega, fun d hd => ?_⟩
        have h1 := g1 q.1.2.1
        have h2 := g2 q.2.1
        rcases (show d = 0 ∨ d = 1 ∨ d = 2 from by simp only at hd; omega) with rfl | rfl | rfl
        · exact ha
        · rw [h1]; omega
        · rw [h2]; omega
      · exact hone
    · split
      · rename_i q
        simp only [Bool.and_eq_true, decide_eq_true_eq, beq_iff_eq] at q
        split
        · refine ⟨by simp only; omega, by simp only; omega, fun d hd => ?_⟩
          have h1 := g1 q.1.1.2.1
          have h2 := g2 q.1.2.1
          have h3 := g3 q.2.1
          rcases (show d = 0 ∨ d = 1 ∨ d = 2 ∨ d = 3 from by simp only at hd; omega) with rfl | rfl | rfl | rfl
          · exact ha
          · rw [h1]; omega
          · rw [h2]; omega
          · rw [h3]; omega
        · exact hone
      · exact hone
theorem rune_low (s : ByteArray) (pos : Nat) (h : pos < s.size) (ha : bt s pos < 128) : ((Utf8.decode s pos).1 : Int) = bt s pos ∧ (Utf8.decode s pos).2 = 1 := by
  have e : bt s pos = ((s[pos]'h).toNat : Int) := by unfold bt; rw [dif_pos h]
  rw [decode_ascii s pos h (by omega), e]
  exact ⟨rfl, rfl⟩
theorem rune_high (s : ByteArray) (pos : Nat) (h : pos < s.size) (ha : 128 ≤ bt s pos) : (128 : Int) ≤ ((Utf8.decode s pos).1 : Int) ∧ 1 ≤ (Utf8.decode s pos).2 := by
  have e : bt s pos = ((s[pos]'h).toNat : Int) := by unfold bt; rw [dif_pos h]
  have := decode_high s pos h (by omega)
  omega
theorem implNameRune (r : Int) (b : Bool) (hb : b = true ↔ nameN r) (w : World) : Calls Try.prog 81 #[.int .i32 r] w fun e w' => e = .returned (.bool b) ∧ w' = w := by
  have HB := Shut.mk hb
  clear hb
  unfold nameN at HB
  by_cases c1 : 97 ≤ r
  · by_cases c2 : r ≤ 122
    · have hb : b = true := HB.out.2 (by omega)
      subst hb
      go_enter Try.func81, Try.ntmps81
      go_wp2_with fail
      go_ret
      exact ⟨rfl, rfl⟩
    · have c3 : 48 ≤ r := by omega
      have c4 : ¬ r ≤ 57 := by omega
      have hb : b = false := by cases b with | false => rfl | true => exact absurd (HB.out.1 rfl) (by omega)
      subst hb
      go_enter Try.func81, Try.ntmps81
      go_wp2_with fail
      go_ret
      exact ⟨rfl, rfl⟩
  · by_cases c3 : 48 ≤ r
    · by_cases c4 : r ≤ 57
      · have hb : b = true := HB.out.2 (by omega)
        subst hb
        go_enter Try.func81, Try.ntmps81
        go_wp2_with fail
        go_ret
        exact ⟨rfl, rfl⟩
      · have hb : b = false := by cases b with | false => rfl | true => exact absurd (HB.out.1 rfl) (by omega)
        subst hb
        go_enter Try.func81, Try.ntmps81
        go_wp2_with fail
        go_ret
        exact ⟨rfl, rfl⟩
    · have hb : b = false := by cases b with | false => rfl | true => exact absurd (HB.out.1 rfl) (by omega)
      subst hb
      go_enter Try.func81, Try.ntmps81
      go_wp2_with fail
      go_ret
      exact ⟨rfl, rfl⟩
theorem iter_below (w : World) (s : ByteArray) (pos : Nat) : Below w.heap.size w (w.iter s pos) := (Below.refl _ _).alloc (Nat.le_refl _) _
set_option maxRecDepth 100000 in
set_option maxHeartbeats 1000000 in
theorem implNameOk (s : ByteArray) (w : World) (hs : s.size ≤ 1048576) : Calls Try.prog 77 #[.string s] w fun e w' => e = .returned (.bool (nameB s)) ∧ Below w.heap.size w w' := by
  obtain ⟨r, hre⟩ : ∃ r, r = nameB s := ⟨_, rfl⟩
  have HRE := Shut.mk hre
  rw [← hre]
  clear hre
  have hnot (q : ¬ (1 ≤ s.size ∧ s.size ≤ 8)) : r = false := by
    rw [HRE.out]
    cases e : nameB s with
    | false => rfl
    | true => exact absurd ((nameB_iff s).1 e).2 q
  by_cases h1 : s.size < 1
  · have hr := hnot (by omega)
    subst hr
    have h1' : (s.size : Int) < 1 := by omega
    go_enter Try.func77, Try.ntmps77
    go_wp2_with fail
    go_ret
    exact ⟨rfl, Below.refl _ _⟩
  have h1' : ¬ (s.size : Int) < 1 := by omega
  by_cases h8 : 8 < s.size
  · have hr := hnot (by omega)
    subst hr
    have h8' : (8 : Int) < (s.size : Int) := by omega
    go_enter Try.func77, Try.ntmps77
    go_wp2_with fail
    go_ret
    exact ⟨rfl, Below.refl _ _⟩
  have h8' : ¬ (8 : Int) < (s.size : Int) := by omega
  clear hnot
  go_enter Try.func77, Try.ntmps77
  go_wp2_with fail
  go_loopw [2] (fun v wr => ∃ (pos : Nat), v = .bool false ∧ wr = w.iter s pos ∧ pos ≤ s.size ∧ Shut (∀ j, j < pos → nameN (bt s j))) (fun _ wr => s.size - wr.iterPos w.heap.size)
  case atStart => exact ⟨0, rfl, rfl, Nat.zero_le _, ⟨fun j hj => by omega⟩⟩
  case round =>
    obtain ⟨pos, rfl, rfl, hp, hall⟩ := hrel
    by_cases hlt : pos < s.size
    · have hnx : ∀ ty, (Instr.next (.pointer (some ⟨w.heap.size, 0, none⟩)) true ty).run Try.prog (w.iter s pos) = _ := fun ty => run_next_any w s pos ty hlt
      have hlow := rune_low s pos hlt
      have hhigh := rune_high s pos hlt
      generalize Utf8.decode s pos = D at *
      obtain ⟨rn, wd⟩ := D
      simp only at hlow hhigh hnx
      by_cases hn : nameN (bt s pos)
      · have hl : bt s pos < 128 := by unfold nameN at hn; omega
        obtain ⟨e1, rfl⟩ := hlow hl
        have HN := Shut.mk (fun W => implNameRune (rn : Int) true (by rw [e1]; exact ⟨fun _ => hn, fun _ => rfl⟩) W)
        have HA : Shut (∀ j, j < pos + 1 → nameN (bt s j)) := ⟨fun j hj => by
          by_cases e : j = pos
          · subst e; exact hn
          · exact hall.out j (by omega)⟩
        clear hn hlow hhigh e1 hl hall
        go_wp2_with fail
        refine (HN.out _).mono ?_
        rintro e w1 ⟨rfl, hw⟩
        subst hw
        go_wp2_with fail
        go_roundw
        case rel => exact ⟨pos + 1, rfl, rfl, by omega, HA⟩
        case measure => simp; omega
      · have hr : r = false := HRE.out.trans (nameB_no hlt hn)
        have HN := Shut.mk (fun W => implNameRune (rn : Int) false (by
          refine ⟨fun q => (Bool.noConfusion q), fun q => ?_⟩
          exfalso
          by_cases hl : bt s pos < 128
          · rw [(hlow hl).1] at q; exact hn q
          · have := (hhigh (by omega)).1
            unfold nameN at q
            omega) W)
        subst hr
        clear hn hlow hhigh hall
        go_wp2_with fail
        refine (HN.out _).mono ?_
        rintro e w1 ⟨rfl, hw⟩
        subst hw
        go_wp2_with fail
        go_ret
        exact ⟨rfl, iter_below _ _ _⟩
    · have hnx : ∀ ty, (Instr.next (.pointer (some ⟨w.heap.size, 0, none⟩)) true ty).run Try.prog (w.iter s pos) = _ := fun ty => run_next_end w s pos ty hlt
      have hr : r = true := HRE.out.trans ((nameB_iff s).2 ⟨fun j hj => hall.out j (by omega), by omega, by omega⟩)
      subst hr
      go_wp2_with fail
      go_ret
      exact ⟨rfl, iter_below _ _ _⟩
end Go.Proofs.Ytodgabdhgaglmaa
/- PaJ: The program's own way through a path: what lies between slashes. -/
namespace Go.Proofs.Ytodgabdhgaglmaa
set_option maxRecDepth 100000
open Go.RowKit
open Go.PlainAid (bt)
attribute [local go_sem ↓] Go.wp_at_zero Go.wp_at_succ

/-- Where the way through a text stands. -/
structure BwRel (p : ByteArray) (i bg : Nat) (done : List ByteArray) : Prop where
  le : bg ≤ i
  clean : ∀ j, bg ≤ j → j < i → bt p j ≠ 47
  sofar : (segs (lb p)).map ba = done ++ (segs ((lb p).drop bg)).map ba
theorem BwRel.start {p : ByteArray} : BwRel p 0 0 [] := ⟨Nat.le_refl _, fun j h1 h2 => by omega, rfl⟩
theorem BwRel.step {p : ByteArray} {i bg wd : Nat} {done : List ByteArray} (h : BwRel p i bg done) (hc : ∀ d, d < wd → bt p (i + d) ≠ 47) : BwRel p (i + wd) bg done :=
  ⟨by have := h.le; omega, fun j h1 h2 => by
    by_cases e : j < i
    · exact h.clean j h1 e
    · have := hc (j - i) (by omega)
      rwa [show i + (j - i) = j from by omega] at this, h.sofar⟩
theorem BwRel.cut {p : ByteArray} {i bg : Nat} {done : List ByteArray} (h : BwRel p i bg done) (hi : i < p.size) (hc : bt p i = 47) : BwRel p (i + 1) (i + 1) (done ++ [p.extract bg i]) := by
  refine ⟨Nat.le_refl _, fun j h1 h2 => by omega, ?_⟩
  have hl : (lb p).length = p.size := rfl
  have e : (lb p).drop bg = ((lb p).drop bg).take (i - bg) ++ 47 :: (lb p).drop (i + 1) := by
    have h1 : ((lb p).drop bg).drop (i - bg) = 47 :: (lb p).drop (i + 1) := by
      rw [List.drop_drop, show bg + (i - bg) = i from by have := h.le; omega, List.drop_eq_getElem_cons (by omega)]
      congr 1
      have := bt_at hi
      rw [hc] at this
      have h2 : ((lb p)[i]'(by omega)).toNat = 47 := by omega
      exact UInt8.toNat_inj.1 h2
    rw [← h1, List.take_append_drop]
  rw [h.sofar, e, segs_cut _ _ (clean_list (by omega) h.clean), List.map_cons, List.append_assoc]
  congr 1
  rw [← ext_list, ba_lb]; rfl
theorem BwRel.fin {p : ByteArray} {i bg : Nat} {done : List ByteArray} (h : BwRel p i bg done) (hi : i = p.size) : (segs (lb p)).map ba = done ++ [p.extract bg p.size] := by
  have hl : (lb p).length = p.size := rfl
  subst hi
  have e : (lb p).drop bg = ((lb p).drop bg).take (p.size - bg) := by rw [List.take_of_length_le (by rw [List.length_drop]; omega)]
  rw [h.sofar, e, segs_none _ (clean_list (by omega) h.clean), List.map_cons, List.map_nil, ← ext_list, ba_lb]
theorem slice_from (s : ByteArray) (a : Nat) (h : a ≤ s.size) (w : World) : (Instr.slice 9 (.string s) (some (.int .i64 a)) none none).run Try.prog w = .ok (.string (s.extract a s.size)) w := by
  rw [run_slice_string_from_if w 9 s .i64 a Try.underlying9, if_pos ⟨by omega, by omega⟩]
  rfl
theorem own_iter9 {w : World} {B e size n : Nat} {v : Value} {xs : List Value} {k : Nat} {s : ByteArray} {pos : Nat} (h : w.ownsRow B e size v n xs) (hk : w.heap[k]? = some (.stringIter s pos)) (pos' : Nat) : (w.iterAt k s pos').ownsRow B e size v n xs := by
  refine ⟨h.1, h.2.imp id fun ⟨g, cap, cur, hv, hb, hg, rest⟩ => ⟨g, cap, cur, hv, hb, ?_, rest⟩⟩
  rw [Lib.iterAt_other _ _ _ _ _ (fun e => by subst e; rw [hk] at hg; cases hg)]
  exact hg
theorem own_ne9 {w : World} {B e size n : Nat} {v : Value} {xs : List Value} {k : Nat} {s : ByteArray} {pos : Nat} (h : w.ownsRow B e size v n xs) (hk : w.heap[k]? = some (.stringIter s pos)) : some k ≠ v.ownBlock := by
  rcases h.2 with ⟨rfl, _⟩ | ⟨g, cap, cur, rfl, hb, hg, rest⟩
  · exact fun e => nomatch e
  · intro e
    cases e
    rw [hk] at hg
    cases hg
set_option maxRecDepth 100000 in
set_option maxHeartbeats 2000000 in
theorem implBetween (p : ByteArray) (w : World) (hs : p.size ≤ 1048576) : Calls Try.prog 76 #[.string p] w fun e w' => ∃ v, e = .returned v ∧ w'.ownsRow w.heap.size 9 1 v (segs (lb p)).length (tv ((segs (lb p)).map ba)) ∧ Below w.heap.size w w' := by
  obtain ⟨i0, hi, hz0, hz1, hz2⟩ := info_parts infoTextG
  have hb := Go.PlainAid.get_bt p
  go_enter Try.func76, Try.ntmps76
  go_wp2_with fail
  go_loopw [3, 4] (fun v bg wr => ∃ (pos g : Nat) (done : List ByteArray) (vv : Value), vv = v ∧ bg = .int .i64 g ∧ wr.heap[w.heap.size]? = some (.stringIter p pos) ∧ pos ≤ p.size ∧ g ≤ pos ∧ done.length ≤ pos ∧ Shut (BwRel p pos g done) ∧ Shut (wr.ownsRow w.heap.size 9 1 vv done.length (tv done)) ∧ Shut (Below w.heap.size w wr)) (fun _ _ wr => p.size - wr.iterPos w.heap.size)
  case atStart => exact ⟨0, 0, [], _, rfl, rfl, World.iter_heap _ _ _, Nat.zero_le _, Nat.le_refl _, by simp, ⟨BwRel.start⟩, ⟨⟨rfl, .inl ⟨rfl, rfl⟩⟩⟩, ⟨iter_below _ _ _⟩⟩
  case round =>
    obtain ⟨pos, g, done, v, rfl, rfl, hit, hp, hg, hd, hrl, hown, hbl⟩ := hrel
    have hB := hbl.out.size
    have hB1 : w.heap.size < wr.heap.size := (Array.getElem?_eq_some_iff.1 hit).1
    by_cases hlt : pos < p.size
    · have hlow := rune_low p pos hlt
      have hhigh := rune_high p pos hlt
      have hfar := decode_far p pos hlt
      obtain ⟨rn, wd, hD⟩ : ∃ rn wd, Utf8.decode p pos = (rn, wd) := ⟨_, _, rfl⟩
      have hnx : ∀ ty, (Instr.next (.pointer (some ⟨w.heap.size, 0, none⟩)) true ty).run Try.prog wr = _ := fun ty => Lib.run_next_any_at wr w.heap.size p pos ty hit hlt
      rw [hD] at hlow hhigh hfar hnx
      simp only at hlow hhigh hfar hnx
      generalize (rn : Int) = R at hlow hhigh hnx
      have hitp := iterPos_of hit
      have hit1 := Lib.iterAt_heap wr w.heap.size p pos (pos + wd) hit
      have hown1 := own_iter9 hown.out hit (pos + wd)
      have hbl1 := Lib.below_iterAt hbl.out (Nat.le_refl _) p (pos + wd)
      have hsz1 : w.heap.size < (wr.iterAt w.heap.size p (pos + wd)).heap.size := by rw [Lib.iterAt_size]; exact hB1
      generalize wr.iterAt w.heap.size p (pos + wd) = W1 at *
      clear hD hbl hown hit
      by_cases hc : bt p pos = 47
      · obtain ⟨e1, rfl⟩ := hlow (by omega)
        have hrn : R = 47 := by omega
        have hrn' : (R == 47) = true := by rw [hrn]; rfl
        have HR := Shut.mk (hrl.out.cut hlt hc)
        have hsl := slice_str p g pos hg (by omega)
        have hne := own_ne9 hown1 hit1
        have HB1 := Shut.mk hbl1
        generalize p.extract g pos = x at *
        clear hlow hhigh hfar hrl hc e1 hrn hbl1
        go_wp2_with (at_builtin; refine wpList_append_own _ rfl _ _ 73 rfl w.heap.size 9 i0 (.string ⟨#[]⟩) 1 16 Try.underlying73 hi hz0 hz1 hz2 rfl (by decide) _ _ _ rfl (hown1.alloc _) ⟨W1.heap.size, 0, none⟩ 1 1 [.string x] rfl rfl (cell_one_new _ _ _) ?c2 ?c3 ?c4 ?c5 ?_)
        case c2 => first | rfl | (intro u hu; simp at hu; subst hu; rfl)
        case c3 => unfold maxLen; omega
        case c4 => omega
        case c5 => first | omega | (simp; omega)
        intro v' w4 hown' hgrow _
        rw [tv_snoc] at hown'
        have Q1 : Shut (w4.ownsRow w.heap.size 9 1 v' (done ++ [x]).length (tv (done ++ [x]))) := ⟨by rw [List.length_append, List.length_singleton]; exact hown'⟩
        have Q2 := Shut.mk ((HB1.out.alloc (by omega) (.cells #[.string x] 9)).grown hgrow (by simp; omega) (fun j hj => (hown1.lt j hj).1))
        have hit4 : w4.heap[w.heap.size]? = some (.stringIter p (pos + 1)) := by
          rw [hgrow.block _ (by simp; omega) hne, Below.heap_alloc _ _ _ (by omega)]
          exact hit1
        clear hown' hgrow hown1 HB1
        go_wp2_with fail
        go_roundw
        case rel => exact ⟨pos + 1, pos + 1, _, v', rfl, by go_num, hit4, by omega, Nat.le_refl _, by rw [List.length_append, List.length_singleton]; omega, HR, Q1, Q2⟩
        case measure => rw [hitp, iterPos_of hit4]; omega
      · have hrn : ¬ R = 47 ∧ pos + wd ≤ p.size ∧ 1 ≤ wd ∧ ∀ d, d < wd → bt p (pos + d) ≠ 47 := by
          by_cases hl : bt p pos < 128
          · obtain ⟨e1, rfl⟩ := hlow hl
            refine ⟨by omega, by omega, by omega, fun d hd => ?_⟩
            have : d = 0 := by omega
            subst this; exact hc
          · have h1 := hhigh (by omega)
            have h2 := hfar (by omega)
            refine ⟨by omega, h2.1, h1.2, fun d hd => ?_⟩
            have := h2.2.2 d hd
            omega
        obtain ⟨h1, h2, h3, h4⟩ := hrn
        have hrn' : (R == 47) = false := by rw [beq_eq_false_iff_ne]; exact h1
        have HR := Shut.mk (hrl.out.step h4)
        clear hlow hhigh hfar hrl hc h4
        go_wp2_with fail
        go_roundw
        case rel => exact ⟨pos + wd, g, done, v, rfl, rfl, hit1, h2, by omega, by omega, HR, ⟨hown1⟩, ⟨hbl1⟩⟩
        case measure => rw [hitp, iterPos_of hit1]; omega
    · have hnx : ∀ ty, (Instr.next (.pointer (some ⟨w.heap.size, 0, none⟩)) true ty).run Try.prog wr = _ := fun ty => Lib.run_next_end_at wr w.heap.size p pos ty hit hlt
      have hfin := hrl.out.fin (by omega)
      have hsl := slice_from p g (by omega)
      have hln : (segs (lb p)).length = done.length + 1 := by
        have := congrArg List.length hfin
        rwa [List.length_map, List.length_append, List.length_singleton] at this
      have HL := Shut.mk hln
      have HF := Shut.mk hfin
      have hown1 := hown.out
      generalize p.extract g p.size = x at *
      clear hrl hfin hln hown
      go_wp2_with (at_builtin; refine wpList_append_own _ rfl _ _ 73 rfl w.heap.size 9 i0 (.string ⟨#[]⟩) 1 16 Try.underlying73 hi hz0 hz1 hz2 rfl (by decide) _ _ _ rfl (hown1.alloc _) ⟨wr.heap.size, 0, none⟩ 1 1 [.string x] rfl rfl (cell_one_new _ _ _) ?c2 ?c3 ?c4 ?c5 ?_)
      case c2 => first | rfl | (intro u hu; simp at hu; subst hu; rfl)
      case c3 => unfold maxLen; omega
      case c4 => omega
      case c5 => first | omega | (simp; omega)
      intro v' w4 hown' hgrow _
      rw [tv_snoc] at hown'
      have Q2 := Shut.mk ((hbl.out.alloc hB (.cells #[.string x] 9)).grown hgrow (by simp; omega) (fun j hj => (hown1.lt j hj).1))
      have Q1 := Shut.mk hown'
      clear hown' hgrow hown1
      go_wp2_with fail
      go_ret
      exact ⟨_, rfl, by rw [HL.out, HF.out]; exact Q1.out, Q2.out⟩
end Go.Proofs.Ytodgabdhgaglmaa
