/- A new world: the model's. -/
import Derived.Test.YtendbipfmgnjkaaSvN
import Derived.Test.YtendbipfmgnjkaaHsB
import Derived.Test.YtendbipfmgnjkaaOwS
import Derived.Test.YtendbipfmgnjkaaApRow
namespace Go.Proofs.Ytendbipfmgnjkaa
set_option maxRecDepth 100000
open Go.RowKit BigFrame
attribute [local go_sem ↓] Go.wp_at_zero Go.wp_at_succ

/-- Hosts that are up, without units. -/
def hosts9 (k : Nat) : List HM := (List.range k).map fun (j : Nat) => ⟨(j : Int) + 1, true, []⟩
def hrs9 (k : Nat) : List HoR := (List.range k).map fun (j : Nat) => ⟨⟨(j : Int) + 1, true, []⟩, none, 0⟩
theorem hrs9_len (k : Nat) : (hrs9 k).length = k := by simp [hrs9]
theorem hrs9_hms (k : Nat) : hms (hrs9 k) = hosts9 k := by simp [hms, hrs9, hosts9, Function.comp_def]
theorem hS_snoc (k : Nat) : hS (hrs9 (k + 1)) = hS (hrs9 k) ++ [.int .i64 ((k : Int) + 1), .bool true, .slice none 0 0] := by
  unfold hS hrs9 NK.cells
  rw [List.range_succ, List.map_append, List.flatMap_append]
  rfl
theorem hrs9_mem {k : Nat} {r : HoR} (h : r ∈ hrs9 k) : r.h.us = [] := by
  obtain ⟨j, _, rfl⟩ := List.mem_map.1 h
  rfl
theorem unS_nil : unS [] = [] := rfl
/-- A row of hosts without units, in a stretch. -/
theorem hsw9 {W : World} {a : Option Addr} {lo hi k : Nat} (h : FRw W a (hS (hrs9 k)) lo hi) (hk : 0 < k) : HsW W a (hrs9 k) lo hi := by
  refine ⟨fun r hr => by rw [hrs9_mem hr]; exact Nat.zero_le _, ?_⟩
  rcases h with ⟨_, e⟩ | ⟨g, e, h1, h2, hw⟩
  · have := hS_len (hrs9 k)
    rw [e, hrs9_len] at this
    simp at this
    omega
  · refine .inr ⟨g, e, ⟨hw, h1, h2, fun r hr => .inl (by show unS r.h.us = []; rw [hrs9_mem hr]; rfl), ?_⟩⟩
    refine List.pairwise_iff_getElem.2 fun i j hi hj _ h3 _ => ?_
    exact absurd (show unS _ = [] by rw [hrs9_mem (List.getElem_mem hi)]; rfl) h3
theorem infoHost9 : (Try.prog.info? 73).map (fun i => (i.zero, i.size, i.bytes)) = some (some (.agg #[.int .i64 0, .bool false, .slice none 0 0]), 3, 40) := by kernel_rfl
theorem OwS.rest {w0 W : World} {S : List Str} {ty sz n c : Nat} {b : Option Addr} {L : List Value} (h : OwS w0 W S ty sz (.slice b n c) n L) : n ≤ c ∧ ∃ lo hi, SL w0 W (rwS b L lo hi :: S) := by
  have hf := FRw.of_own h.own
  refine ⟨hf.2, ?_⟩
  rcases hf.1 with e | ⟨q, e1, e2, e3, e4⟩
  · refine ⟨W.heap.size, W.heap.size, ⟨h.sl.bel, fun s hs => ?_, List.pairwise_cons.2 ⟨fun s hs => .inr (h.sl.is s hs).2.2.2, h.sl.apart⟩⟩⟩
    rcases List.mem_cons.1 hs with rfl | hs
    · exact ⟨.inl e, rwS.loc _ _ _ _, h.sl.bel.size, Nat.le_refl _⟩
    · exact h.sl.is s hs
  · subst e1
    refine ⟨q, q + 1, ⟨h.sl.bel, fun s hs => ?_, List.pairwise_cons.2 ⟨fun s hs => by have := h.far q rfl s hs; dsimp only [rwS]; omega, h.sl.apart⟩⟩⟩
    rcases List.mem_cons.1 hs with rfl | hs
    · exact ⟨.inr ⟨q, rfl, Nat.le_refl _, Nat.lt_succ_self _, e4⟩, rwS.loc _ _ _ _, e2, e3⟩
    · exact h.sl.is s hs
theorem SL.as {w0 W : World} {s : Str} {S : List Str} {q : World → Prop} (h : SL w0 W (s :: S)) (hq : q W) (hl : Str.Loc ⟨q, s.lo, s.hi⟩) : SL w0 W (⟨q, s.lo, s.hi⟩ :: S) := by
  obtain ⟨h1, h2, h3⟩ := h
  obtain ⟨-, -, k1, k2⟩ := h2 _ (List.mem_cons_self ..)
  refine ⟨h1, fun x hx => ?_, List.pairwise_cons.2 ⟨(List.pairwise_cons.1 h3).1, (List.pairwise_cons.1 h3).2⟩⟩
  rcases List.mem_cons.1 hx with rfl | hx
  · exact ⟨hq, hl, k1, k2⟩
  · exact h2 x (List.mem_cons_of_mem _ hx)
theorem SL.less {w0 W : World} {S S' : List Str} (h : SL w0 W S) (hs : S'.Sublist S) : SL w0 W S' := ⟨h.bel, fun s k => h.is s (hs.subset k), h.apart.sublist hs⟩
/-- A new world that was answered: its hosts and its tree lie apart. -/
def WdNew (T : TM) (nx : Int) (w : World) (e : Ending) (w' : World) : Prop :=
  ∃ (ca da la hb ka ta za : Option Addr) (cm cc dc lc hc kc tc zc l1 h1 l2 h2 : Nat) (rs : List HoR), e = .returned (.agg #[.bool true, .slice ca cm cc, .int .i64 nx, .int .i64 1, .slice da 0 dc, .slice la 0 lc, .int .i64 0, .slice hb rs.length hc, .slice ka 0 kc, .slice ta 0 tc, .slice za 0 zc]) ∧ hms rs = hosts9 7 ∧ rs.length ≤ hc ∧ SL w w' [hsS hb rs l2 h2, trS (.agg #[.slice ca cm cc, .int .i64 nx]) T l1 h1]
set_option maxRecDepth 100000 in
set_option maxHeartbeats 8000000 in
theorem specWorldNew (w : World) : Calls Try.prog 11 #[] w fun e w' => WdNew newX newX.next w e w' := by
  obtain ⟨i0, hin, hz0, hz1, hz2⟩ := info_parts infoHost9
  have HSN := Shut.mk (fun (W : World) => specServerNew W)
  generalize newX.next = nx at *
  generalize newX = T at *
  unfold SvNew at HSN
  have HS := Shut.mk ((SL.start w).new #[.bool false, .slice none 0 0, .int .i64 0, .int .i64 0, .slice none 0 0, .slice none 0 0, .int .i64 0, .slice none 0 0, .slice none 0 0, .slice none 0 0, .slice none 0 0] 48)
  obtain ⟨b0, hb0⟩ : ∃ q, q = w.heap.size := ⟨_, rfl⟩
  go_enter Try.func11, Try.ntmps11
  go_upto_region 1 with fail
  rw [← hb0] at HS
  refine wp_shade (fun W => SL w W [bxS b0 [.bool false, .slice none 0 0, .int .i64 0, .int .i64 0, .slice none 0 0, .slice none 0 0, .int .i64 0, .slice none 0 0, .slice none 0 0, .slice none 0 0, .slice none 0 0]]) HS.out ?_
  intro W0 hS0
  rw [← hb0]
  have H := Shut.mk hS0
  clear hS0 HS hb0
  go_wp2_with fail
  refine (HSN.out _).mono ?_
  rintro e w1 ⟨ca, da, la, cm, cc, dc, lc, rfl, hA, hb⟩
  replace H := Shut.mk ((H.out.add (s := trS (.agg #[.slice ca cm cc, .int .i64 nx]) T W0.heap.size w1.heap.size) hb hA (trS.loc _ _ _ _) (Nat.le_refl _) (Nat.le_refl _)).new #[.bool true, .slice ca cm cc, .int .i64 nx, .int .i64 1, .slice da 0 dc, .slice la 0 lc, .int .i64 0, .slice none 0 0, .slice none 0 0, .slice none 0 0, .slice none 0 0] 48)
  obtain ⟨l1, hl1⟩ : ∃ q, q = W0.heap.size := ⟨_, rfl⟩
  obtain ⟨b1, hb1⟩ : ∃ q, q = w1.heap.size := ⟨_, rfl⟩
  rw [← hl1, ← hb1] at H
  clear hA hb hl1 HSN
  go_upto_region 2 with fail
  have HO := Shut.mk (OwS.nil (ty := 73) (sz := 3) H.out)
  refine wp_shade (fun W => OwS w W [bxS b1 [.bool true, .slice ca cm cc, .int .i64 nx, .int .i64 1, .slice da 0 dc, .slice la 0 lc, .int .i64 0, .slice none 0 0, .slice none 0 0, .slice none 0 0, .slice none 0 0], trS (.agg #[.slice ca cm cc, .int .i64 nx]) T l1 b1, bxS b0 [.bool false, .slice none 0 0, .int .i64 0, .int .i64 0, .slice none 0 0, .slice none 0 0, .int .i64 0, .slice none 0 0, .slice none 0 0, .slice none 0 0, .slice none 0 0]] 73 3 (.slice none 0 0) 0 []) HO.out ?_
  intro W1 hW
  rw [← hb1]
  replace H := Shut.mk hW
  clear hW HO hb1
  go_wp2_with fail
  go_loopw [2] (fun i wr => ∃ (k : Nat) (hb : Option Addr) (hc : Nat), i = .int .i64 ((k : Int) + 1) ∧ k ≤ 7 ∧ Shut (OwS w wr [bxS b1 [.bool true, .slice ca cm cc, .int .i64 nx, .int .i64 1, .slice da 0 dc, .slice la 0 lc, .int .i64 0, .slice hb k hc, .slice none 0 0, .slice none 0 0, .slice none 0 0], trS (.agg #[.slice ca cm cc, .int .i64 nx]) T l1 b1, bxS b0 [.bool false, .slice none 0 0, .int .i64 0, .int .i64 0, .slice none 0 0, .slice none 0 0, .int .i64 0, .slice none 0 0, .slice none 0 0, .slice none 0 0, .slice none 0 0]] 73 3 (.slice hb k hc) k (hS (hrs9 k)))) (fun i _ => 8 - (intOf i).toNat)
  case atStart => exact ⟨0, none, 0, rfl, by omega, ⟨H.out⟩⟩
  case round =>
    clear H
    obtain ⟨k, hb, hc, rfl, hk, H⟩ := hrel
    by_cases hlt : k < 7
    · have h7 : (k : Int) + 1 ≤ 7 := by omega
      have x7 := (H.out.sl.bx 0 rfl 7 _ rfl).1
      have hown := H.out.own
      have hsz : w.heap.size ≤ wr.heap.size := H.out.sl.bel.size
      have hcl : ∀ j u, ([.int .i64 ((k : Int) + 1), .bool true, .slice none 0 0] : List Value)[j]? = some u → (wr.alloc (.cells #[.int .i64 ((k : Int) + 1), .bool true, .slice none 0 0] 73)).cell? ((⟨wr.heap.size, 0, none⟩ : Addr).add j) = some u := fun j u hu => by
        have q := ((wcells_new wr #[.int .i64 ((k : Int) + 1), .bool true, .slice none 0 0] 73).2 j u hu).1
        cases j with
        | zero => exact q
        | succ j => simpa [Addr.add] using q
      have hone : ∀ u ∈ ([.int .i64 ((k : Int) + 1), .bool true, .slice none 0 0] : List Value), u.oneCell' = true := fun u hu => by
        simp only [List.mem_cons, List.not_mem_nil, or_false] at hu
        rcases hu with rfl | rfl | rfl <;> rfl
      go_wp2_with (at_builtin; go_loud (refine wpList_append_own_at _ rfl _ _ 44 rfl w.heap.size 73 i0 _ 3 40 Try.underlying44 hin hz0 hz1 hz2 rfl (by decide) _ _ _ rfl (hown.alloc _) ⟨wr.heap.size, 0, none⟩ 1 1 [.int .i64 ((k : Int) + 1), .bool true, .slice none 0 0] rfl rfl hcl hone (by unfold maxLen; omega) (by omega) (by rw [World.size_alloc]; omega) ?_))
      intro v9 w9 ho hg _ hat
      obtain ⟨b9, c9, rfl⟩ := own_row_slice ho
      have HS := Shut.mk (H.out.more (m := k + 1) (L' := hS (hrs9 (k + 1))) ((Below.refl _ _).alloc (Nat.le_refl _) (.cells #[.int .i64 ((k : Int) + 1), .bool true, .slice none 0 0] 73)) (by rw [hS_snoc k]; exact ho) hg (by rw [World.size_alloc]; exact hat))
      obtain ⟨z7, zf7⟩ := HS.out.sl.bx 0 rfl 7 _ rfl
      clear ho hg hat hown hsz hcl hone x7
      have HZ := Shut.mk (HS.out.put 0 rfl 7 (.slice b9 (k + 1) c9) (by simp))
      simp only [List.set_cons_zero, List.set_cons_succ] at HZ
      go_wp2_with fail
      go_roundw
      case rel => exact ⟨k + 1, b9, c9, by go_num, by omega, HZ⟩
      case measure => simp [intOf]; omega
    · obtain rfl : k = 7 := by omega
      have x0 := (H.out.sl.bx 0 rfl 0 _ rfl).1
      obtain ⟨r0, s0⟩ := H.out.sl.bx 2 rfl 0 _ rfl
      have x1 := (H.out.sl.bx 0 rfl 1 _ rfl).1
      obtain ⟨r1, s1⟩ := H.out.sl.bx 2 rfl 1 _ rfl
      have x2 := (H.out.sl.bx 0 rfl 2 _ rfl).1
      obtain ⟨r2, s2⟩ := H.out.sl.bx 2 rfl 2 _ rfl
      have x3 := (H.out.sl.bx 0 rfl 3 _ rfl).1
      obtain ⟨r3, s3⟩ := H.out.sl.bx 2 rfl 3 _ rfl
      have x4 := (H.out.sl.bx 0 rfl 4 _ rfl).1
      obtain ⟨r4, s4⟩ := H.out.sl.bx 2 rfl 4 _ rfl
      have x5 := (H.out.sl.bx 0 rfl 5 _ rfl).1
      obtain ⟨r5, s5⟩ := H.out.sl.bx 2 rfl 5 _ rfl
      have x6 := (H.out.sl.bx 0 rfl 6 _ rfl).1
      obtain ⟨r6, s6⟩ := H.out.sl.bx 2 rfl 6 _ rfl
      have x7 := (H.out.sl.bx 0 rfl 7 _ rfl).1
      obtain ⟨r7, s7⟩ := H.out.sl.bx 2 rfl 7 _ rfl
      have x8 := (H.out.sl.bx 0 rfl 8 _ rfl).1
      obtain ⟨r8, s8⟩ := H.out.sl.bx 2 rfl 8 _ rfl
      have x9 := (H.out.sl.bx 0 rfl 9 _ rfl).1
      obtain ⟨r9, s9⟩ := H.out.sl.bx 2 rfl 9 _ rfl
      have x10 := (H.out.sl.bx 0 rfl 10 _ rfl).1
      obtain ⟨r10, s10⟩ := H.out.sl.bx 2 rfl 10 _ rfl
      have HE := Shut.mk ((((((((((((H.out.put 2 rfl 0 (.bool true) (by simp)).put 2 rfl 1 (.slice ca cm cc) (by simp)).put 2 rfl 2 (.int .i64 nx) (by simp)).put 2 rfl 3 (.int .i64 1) (by simp)).put 2 rfl 4 (.slice da 0 dc) (by simp)).put 2 rfl 5 (.slice la 0 lc) (by simp)).put 2 rfl 6 (.int .i64 0) (by simp)).put 2 rfl 7 (.slice hb 7 hc) (by simp)).put 2 rfl 8 (.slice none 0 0) (by simp)).put 2 rfl 9 (.slice none 0 0) (by simp)).put 2 rfl 10 (.slice none 0 0) (by simp)))
      simp only [List.set_cons_zero, List.set_cons_succ] at HE
      obtain ⟨hc7, lo, hi, hrow⟩ := HE.out.rest
      have hsl := (hrow.as (q := fun W => HsW W hb (hrs9 7) lo hi) (hsw9 (hrow.is _ (List.mem_cons_self ..)).1 (by omega)) (hsS.loc _ _ _ _)).less (List.Sublist.cons_cons _ (List.Sublist.cons _ (List.Sublist.cons_cons _ (List.nil_sublist _))))
      have HX := Shut.mk hsl
      clear hrow hsl
      go_wp2_with fail
      refine bodyPost_ret (v := .agg #[.bool true, .slice ca cm cc, .int .i64 nx, .int .i64 1, .slice da 0 dc, .slice la 0 lc, .int .i64 0, .slice hb 7 hc, .slice none 0 0, .slice none 0 0, .slice none 0 0]) (by simp [results, Try.results11, go_sem, r0, r1, r2, r3, r4, r5, r6, r7, r8, r9, r10]) rfl ?_
      exact ⟨ca, da, la, hb, none, none, none, cm, cc, dc, lc, hc, 0, 0, 0, l1, b1, lo, hi, hrs9 7, by rw [hrs9_len], hrs9_hms 7, by rw [hrs9_len]; exact hc7, HX.out⟩
end Go.Proofs.Ytendbipfmgnjkaa
