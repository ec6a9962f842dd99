/- The program's own way through a path: what lies between slashes. -/
import Derived.Test.YtendbipfmgnjkaaPaI
import Derived.Test.YtendbipfmgnjkaaPathC
namespace Go.Proofs.Ytendbipfmgnjkaa
set_option maxRecDepth 100000
open Go.RowKit
open Go.PlainAid (bt)
attribute [local go_sem ↓] Go.wp_at_zero Go.wp_at_succ

/-- Where the way through a text stands. -/
structure BwRel (p : ByteArray) (i bg : Nat) (done : List ByteArray) : Prop where
  le : bg ≤ i
  clean : ∀ j, bg ≤ j → j < i → bt p j ≠ 47
  sofar : (segs (lb p)).map ba = done ++ (segs ((lb p).drop bg)).map ba
theorem BwRel.start {p : ByteArray} : BwRel p 0 0 [] := ⟨Nat.le_refl _, fun j h1 h2 => by omega, rfl⟩
theorem BwRel.step {p : ByteArray} {i bg wd : Nat} {done : List ByteArray} (h : BwRel p i bg done) (hc : ∀ d, d < wd → bt p (i + d) ≠ 47) : BwRel p (i + wd) bg done :=
  ⟨by have := h.le; omega, fun j h1 h2 => by
    by_cases e : j < i
    · exact h.clean j h1 e
    · have := hc (j - i) (by omega)
      rwa [show i + (j - i) = j from by omega] at this, h.sofar⟩
theorem BwRel.cut {p : ByteArray} {i bg : Nat} {done : List ByteArray} (h : BwRel p i bg done) (hi : i < p.size) (hc : bt p i = 47) : BwRel p (i + 1) (i + 1) (done ++ [p.extract bg i]) := by
  refine ⟨Nat.le_refl _, fun j h1 h2 => by omega, ?_⟩
  have hl : (lb p).length = p.size := rfl
  have e : (lb p).drop bg = ((lb p).drop bg).take (i - bg) ++ 47 :: (lb p).drop (i + 1) := by
    have h1 : ((lb p).drop bg).drop (i - bg) = 47 :: (lb p).drop (i + 1) := by
      rw [List.drop_drop, show bg + (i - bg) = i from by have := h.le; omega, List.drop_eq_getElem_cons (by omega)]
      congr 1
      have := bt_at hi
      rw [hc] at this
      have h2 : ((lb p)[i]'(by omega)).toNat = 47 := by omega
      exact UInt8.toNat_inj.1 h2
    rw [← h1, List.take_append_drop]
  rw [h.sofar, e, segs_cut _ _ (clean_list (by omega) h.clean), List.map_cons, List.append_assoc]
  congr 1
  rw [← ext_list, ba_lb]; rfl
theorem BwRel.fin {p : ByteArray} {i bg : Nat} {done : List ByteArray} (h : BwRel p i bg done) (hi : i = p.size) : (segs (lb p)).map ba = done ++ [p.extract bg p.size] := by
  have hl : (lb p).length = p.size := rfl
  subst hi
  have e : (lb p).drop bg = ((lb p).drop bg).take (p.size - bg) := by rw [List.take_of_length_le (by rw [List.length_drop]; omega)]
  rw [h.sofar, e, segs_none _ (clean_list (by omega) h.clean), List.map_cons, List.map_nil, ← ext_list, ba_lb]
theorem slice_from (s : ByteArray) (a : Nat) (h : a ≤ s.size) (w : World) : (Instr.slice 9 (.string s) (some (.int .i64 a)) none none).run Try.prog w = .ok (.string (s.extract a s.size)) w := by
  rw [run_slice_string_from_if w 9 s .i64 a Try.underlying9, if_pos ⟨by omega, by omega⟩]
  rfl
theorem own_iter9 {w : World} {B e size n : Nat} {v : Value} {xs : List Value} {k : Nat} {s : ByteArray} {pos : Nat} (h : w.ownsRow B e size v n xs) (hk : w.heap[k]? = some (.stringIter s pos)) (pos' : Nat) : (w.iterAt k s pos').ownsRow B e size v n xs := by
  refine ⟨h.1, h.2.imp id fun ⟨g, cap, cur, hv, hb, hg, rest⟩ => ⟨g, cap, cur, hv, hb, ?_, rest⟩⟩
  rw [Lib.iterAt_other _ _ _ _ _ (fun e => by subst e; rw [hk] at hg; cases hg)]
  exact hg
theorem own_ne9 {w : World} {B e size n : Nat} {v : Value} {xs : List Value} {k : Nat} {s : ByteArray} {pos : Nat} (h : w.ownsRow B e size v n xs) (hk : w.heap[k]? = some (.stringIter s pos)) : some k ≠ v.ownBlock := by
  rcases h.2 with ⟨rfl, _⟩ | ⟨g, cap, cur, rfl, hb, hg, rest⟩
  · exact fun e => nomatch e
  · intro e
    cases e
    rw [hk] at hg
    cases hg
set_option maxRecDepth 100000 in
set_option maxHeartbeats 2000000 in
theorem implBetween (p : ByteArray) (w : World) (hs : p.size ≤ 1048576) : Calls Try.prog 114 #[.string p] w fun e w' => ∃ v, e = .returned v ∧ w'.ownsRow w.heap.size 9 1 v (segs (lb p)).length (tv ((segs (lb p)).map ba)) ∧ Below w.heap.size w w' := by
  obtain ⟨i0, hi, hz0, hz1, hz2⟩ := info_parts infoTextG
  have hb := Go.PlainAid.get_bt p
  go_enter Try.func114, Try.ntmps114
  go_wp2_with fail
  go_loopw [3, 4] (fun v bg wr => ∃ (pos g : Nat) (done : List ByteArray) (vv : Value), vv = v ∧ bg = .int .i64 g ∧ wr.heap[w.heap.size]? = some (.stringIter p pos) ∧ pos ≤ p.size ∧ g ≤ pos ∧ done.length ≤ pos ∧ Shut (BwRel p pos g done) ∧ Shut (wr.ownsRow w.heap.size 9 1 vv done.length (tv done)) ∧ Shut (Below w.heap.size w wr)) (fun _ _ wr => p.size - wr.iterPos w.heap.size)
  case atStart => exact ⟨0, 0, [], _, rfl, rfl, World.iter_heap _ _ _, Nat.zero_le _, Nat.le_refl _, by simp, ⟨BwRel.start⟩, ⟨⟨rfl, .inl ⟨rfl, rfl⟩⟩⟩, ⟨iter_below _ _ _⟩⟩
  case round =>
    obtain ⟨pos, g, done, v, rfl, rfl, hit, hp, hg, hd, hrl, hown, hbl⟩ := hrel
    have hB := hbl.out.size
    have hB1 : w.heap.size < wr.heap.size := (Array.getElem?_eq_some_iff.1 hit).1
    by_cases hlt : pos < p.size
    · have hlow := rune_low p pos hlt
      have hhigh := rune_high p pos hlt
      have hfar := decode_far p pos hlt
      obtain ⟨rn, wd, hD⟩ : ∃ rn wd, Utf8.decode p pos = (rn, wd) := ⟨_, _, rfl⟩
      have hnx : ∀ ty, (Instr.next (.pointer (some ⟨w.heap.size, 0, none⟩)) true ty).run Try.prog wr = _ := fun ty => Lib.run_next_any_at wr w.heap.size p pos ty hit hlt
      rw [hD] at hlow hhigh hfar hnx
      simp only at hlow hhigh hfar hnx
      generalize (rn : Int) = R at hlow hhigh hnx
      have hitp := iterPos_of hit
      have hit1 := Lib.iterAt_heap wr w.heap.size p pos (pos + wd) hit
      have hown1 := own_iter9 hown.out hit (pos + wd)
      have hbl1 := Lib.below_iterAt hbl.out (Nat.le_refl _) p (pos + wd)
      have hsz1 : w.heap.size < (wr.iterAt w.heap.size p (pos + wd)).heap.size := by rw [Lib.iterAt_size]; exact hB1
      generalize wr.iterAt w.heap.size p (pos + wd) = W1 at *
      clear hD hbl hown hit
      by_cases hc : bt p pos = 47
      · obtain ⟨e1, rfl⟩ := hlow (by omega)
        have hrn : R = 47 := by omega
        have hrn' : (R == 47) = true := by rw [hrn]; rfl
        have HR := Shut.mk (hrl.out.cut hlt hc)
        have hsl := slice_str p g pos hg (by omega)
        have hne := own_ne9 hown1 hit1
        have HB1 := Shut.mk hbl1
        generalize p.extract g pos = x at *
        clear hlow hhigh hfar hrl hc e1 hrn hbl1
        go_wp2_with (at_builtin; refine wpList_append_own _ rfl _ _ 45 rfl w.heap.size 9 i0 (.string ⟨#[]⟩) 1 16 Try.underlying45 hi hz0 hz1 hz2 rfl (by decide) _ _ _ rfl (hown1.alloc _) ⟨W1.heap.size, 0, none⟩ 1 1 [.string x] rfl rfl (cell_one_new _ _ _) ?c2 ?c3 ?c4 ?c5 ?_)
        case c2 => first | rfl | (intro u hu; simp at hu; subst hu; rfl)
        case c3 => unfold maxLen; omega
        case c4 => omega
        case c5 => first | omega | (simp; omega)
        intro v' w4 hown' hgrow _
        rw [tv_snoc] at hown'
        have Q1 : Shut (w4.ownsRow w.heap.size 9 1 v' (done ++ [x]).length (tv (done ++ [x]))) := ⟨by rw [List.length_append, List.length_singleton]; exact hown'⟩
        have Q2 := Shut.mk ((HB1.out.alloc (by omega) (.cells #[.string x] 9)).grown hgrow (by simp; omega) (fun j hj => (hown1.lt j hj).1))
        have hit4 : w4.heap[w.heap.size]? = some (.stringIter p (pos + 1)) := by
          rw [hgrow.block _ (by simp; omega) hne, Below.heap_alloc _ _ _ (by omega)]
          exact hit1
        clear hown' hgrow hown1 HB1
        go_wp2_with fail
        go_roundw
        case rel => exact ⟨pos + 1, pos + 1, _, v', rfl, by go_num, hit4, by omega, Nat.le_refl _, by rw [List.length_append, List.length_singleton]; omega, HR, Q1, Q2⟩
        case measure => rw [hitp, iterPos_of hit4]; omega
      · have hrn : ¬ R = 47 ∧ pos + wd ≤ p.size ∧ 1 ≤ wd ∧ ∀ d, d < wd → bt p (pos + d) ≠ 47 := by
          by_cases hl : bt p pos < 128
          · obtain ⟨e1, rfl⟩ := hlow hl
            refine ⟨by omega, by omega, by omega, fun d hd => ?_⟩
            have : d = 0 := by omega
            subst this; exact hc
          · have h1 := hhigh (by omega)
            have h2 := hfar (by omega)
            refine ⟨by omega, h2.1, h1.2, fun d hd => ?_⟩
            have := h2.2.2 d hd
            omega
        obtain ⟨h1, h2, h3, h4⟩ := hrn
        have hrn' : (R == 47) = false := by rw [beq_eq_false_iff_ne]; exact h1
        have HR := Shut.mk (hrl.out.step h4)
        clear hlow hhigh hfar hrl hc h4
        go_wp2_with fail
        go_roundw
        case rel => exact ⟨pos + wd, g, done, v, rfl, rfl, hit1, h2, by omega, by omega, HR, ⟨hown1⟩, ⟨hbl1⟩⟩
        case measure => rw [hitp, iterPos_of hit1]; omega
    · have hnx : ∀ ty, (Instr.next (.pointer (some ⟨w.heap.size, 0, none⟩)) true ty).run Try.prog wr = _ := fun ty => Lib.run_next_end_at wr w.heap.size p pos ty hit hlt
      have hfin := hrl.out.fin (by omega)
      have hsl := slice_from p g (by omega)
      have hln : (segs (lb p)).length = done.length + 1 := by
        have := congrArg List.length hfin
        rwa [List.length_map, List.length_append, List.length_singleton] at this
      have HL := Shut.mk hln
      have HF := Shut.mk hfin
      have hown1 := hown.out
      generalize p.extract g p.size = x at *
      clear hrl hfin hln hown
      go_wp2_with (at_builtin; refine wpList_append_own _ rfl _ _ 45 rfl w.heap.size 9 i0 (.string ⟨#[]⟩) 1 16 Try.underlying45 hi hz0 hz1 hz2 rfl (by decide) _ _ _ rfl (hown1.alloc _) ⟨wr.heap.size, 0, none⟩ 1 1 [.string x] rfl rfl (cell_one_new _ _ _) ?c2 ?c3 ?c4 ?c5 ?_)
      case c2 => first | rfl | (intro u hu; simp at hu; subst hu; rfl)
      case c3 => unfold maxLen; omega
      case c4 => omega
      case c5 => first | omega | (simp; omega)
      intro v' w4 hown' hgrow _
      rw [tv_snoc] at hown'
      have Q2 := Shut.mk ((hbl.out.alloc hB (.cells #[.string x] 9)).grown hgrow (by simp; omega) (fun j hj => (hown1.lt j hj).1))
      have Q1 := Shut.mk hown'
      clear hown' hgrow hown1
      go_wp2_with fail
      go_ret
      exact ⟨_, rfl, by rw [HL.out, HF.out]; exact Q1.out, Q2.out⟩
end Go.Proofs.Ytendbipfmgnjkaa
