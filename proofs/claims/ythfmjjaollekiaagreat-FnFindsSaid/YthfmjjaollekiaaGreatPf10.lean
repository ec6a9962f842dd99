/- Texts of ours, laid one behind the other: LawTrw, LkT, ApA. -/
import Derived.Test.YthfmjjaollekiaaGreatPf9
import Derived.Test.YthfmjjaollekiaaGreatPf6
import Derived.Test.YthfmjjaollekiaaGreatPf2
import Derived.Test.YthfmjjaollekiaaGreatPf8
import Derived.Test.YthfmjjaollekiaaGreatPfCpB
import Derived.Test.YthfmjjaollekiaaGreatPf5
import Derived.Sort.KeysCollected
import Derived.Laws.IdiomRangeMap
import Derived.Maps.AppendAt
/- LawTrw: The walks of the exact laws over KidsOf and BelowOf, over what is told of the program's own functions at every argument (written by gen/mklawtrw.py). -/
namespace Go.Proofs.YthfmjjaollekiaaGreat
set_option maxRecDepth 100000
open Go.RowKit
attribute [local go_sem ↓] Go.wp_at_zero Go.wp_at_succ

/-- What an answer of texts is: new memory alone. -/
def SPost9 (R : List ByteArray) (w : World) (e : Ending) (w' : World) : Prop := ∃ v, e = .returned v ∧ SAns w' v R w.heap.size w'.heap.size ∧ Below w.heap.size w w'
theorem KPost.sp {R : List ByteArray} {w w' : World} {e : Ending} (h : KPost R w e w') : SPost9 R w e w' := by
  obtain ⟨v, he, ho, hb⟩ := h
  exact ⟨v, he, own_sans rfl ho, hb⟩
theorem kidsL_len (ns : List NM) (id : Int) : (kidsL ns id).length ≤ ns.length := by
  suffices h : ∀ L, (ns.foldl (kidsS id) L).length ≤ L.length + ns.length by
    have := h []
    simp at this
    exact this
  induction ns with
  | nil => simp
  | cons n ns ih =>
    intro L
    have h1 := ih (kidsS id L n)
    have h2 : (kidsS id L n).length ≤ L.length + 1 := by
      unfold kidsS
      split
      · rw [insK_len]; exact Nat.le_refl _
      · omega
    simp only [List.foldl_cons, List.length_cons]
    omega
theorem kidsX_len (T : TM) (id : Int) : (kidsX T id).length ≤ 14 := by
  unfold kidsX
  split
  · rename_i h
    have := kidsL_len T.nodes id
    have := treeOk_14 h
    omega
  · simp
attribute [local irreducible] nodeOk treeOk atI kidsX belowX markK
end Go.Proofs.YthfmjjaollekiaaGreat
/- LkT: The program's own KidsOf. -/
namespace Go.Proofs.YthfmjjaollekiaaGreat
set_option maxRecDepth 100000
open Go.RowKit Go.Maps Go.Sort BigFrame
attribute [local go_sem ↓] Go.wp_at_zero Go.wp_at_succ

set_option maxRecDepth 100000 in
theorem implClone (s : ByteArray) (w : World) (hs : s.size ≤ 281474976710656) : Calls Tryz.prog 68 #[.string s] w fun e w' => e = .returned (.string s) ∧ Below w.heap.size w w' := by
  have HC := Shut.mk (fun W => Tryz.stringslite_Clone s W hs)
  go_enter Tryz.func68, Tryz.ntmps68
  go_wp2_with fail
  refine (HC.out _).mono ?_
  rintro e w1 ⟨rfl, hb⟩
  go_wp2_with fail
  go_ret
  exact ⟨rfl, hb⟩
/-- A row of texts of its own is sorted. -/
theorem sort_any {w : World} {B : Nat} {v : Value} {ss : List (List UInt8)} (h : w.ownsRow B 9 1 v ss.length (ss.map encStr)) (hl : ss.length ≤ 1048576) :
    Calls Tryz.prog 69 #[v] w fun e w' => e = .returned (.tuple #[]) ∧ w'.ownsRow B 9 1 v ss.length ((ss.mergeSort fun x y => decide (x ≤ y)).map encStr) ∧ Below B w w' := by
  rcases h.2 with ⟨rfl, h0⟩ | ⟨g, cap, cur, rfl, hbase, hb, h1, h2, h3, h4⟩
  · have hL : ss = [] := by
      cases ss with
      | nil => rfl
      | cons x r => simp at h0
    subst hL
    refine (Tryz.slices_Sort_string_none none 0 w).mono ?_
    rintro e w' ⟨rfl, rfl⟩
    exact ⟨rfl, by simpa using h, Below.refl _ _⟩
  · have hH : Holds encStr w g 0 ss.toArray := holds_of_block hb (by simpa using h4)
    have hgl : g < w.heap.size := (Array.getElem?_eq_some_iff.1 hb).1
    refine (Tryz.slices_Sort_string g 0 cap ss w hH hgl (by omega)).mono ?_
    rintro e w' ⟨rfl, q, os, rfl⟩
    have hrow := ownsRow_sorted (n := q) (os := os) (ts := ss.mergeSort fun x y => decide (x ≤ y)) (by simp) hbase hb h1 h2 h3
    have hgb := grownBy_sorted (w := w) (g := g) (n := q) (os := os) (ss.mergeSort fun x y => decide (x ≤ y)).toArray
    exact ⟨rfl, hrow, (Below.refl _ _).grown hgb (by omega) (fun j hj => by cases hj; exact hbase)⟩
theorem own_sansK {w : World} {B n : Nat} {v : Value} {L : List ByteArray} (hn : L.length = n) (h : w.ownsRow B 9 1 v n (tv L)) : SAns w v L B w.heap.size := by
  have h' := h
  rcases h.2 with ⟨rfl, h0⟩ | ⟨g, cap, cur, rfl, hbase, hb, h1, h2, h3, h4⟩
  · have hL : L = [] := by
      cases L with
      | nil => rfl
      | cons x r => subst hn; simp at h0
    subst hL
    exact ⟨none, 0, rfl, Nat.le_refl _, .inl rfl⟩
  · subst hn
    exact ⟨some ⟨g, 0, none⟩, cap, rfl, h1, .inr ⟨g, rfl, hbase, (Array.getElem?_eq_some_iff.1 hb).1, own_wcells h'⟩⟩
set_option maxRecDepth 100000 in
set_option maxHeartbeats 2000000 in
theorem implKidsOf (w : World) (v : Value) (T : TM) (lo hi : Nat) (id : Int) (h : TSee w v T lo hi) (hf : NFit T) (hI : NInt T.nodes) (hid : (Lit.int .i64 id).wf = true) : Calls Tryz.prog 17 #[v, .int .i64 id] w fun e w' => SPost9 (kidsX T id) w e w' := by
  have hsee := h
  obtain ⟨a, cap, rs, rfl, hr, hm⟩ := h
  have hlen : rs.length = T.nodes.length := by rw [← hr, nds_len]
  have hl : rs.length ≤ 1048576 := by unfold NFit at hf; omega
  have hnm := fun x hx => (fit_name hf x hx).1
  obtain ⟨n, hn⟩ : ∃ n, n = rs.length := ⟨_, rfl⟩
  obtain ⟨nx, hnx⟩ : ∃ nx, nx = T.next := ⟨_, rfl⟩
  rw [← hn, ← hnx] at hsee ⊢
  have hok := fun W (hb : Below w.heap.size w W) => implTreeOk W _ T lo hi (hsee.below hb) hf hI
  have hlk := fun W (hb : Below w.heap.size w W) => linkNodes_any (cap := cap) (hm.below hb) hl (by rw [hr]; exact hI) (fun x hx => by rw [hr] at hx; have := (fit_name hf x hx).1; unfold maxLen; omega)
  rw [← hn] at hlk hl hlen
  obtain ⟨R, hR⟩ : ∃ R, R = kidsX T id := ⟨_, rfl⟩
  rw [← hR]
  have HOK := Shut.mk hok
  have HLK := Shut.mk hlk
  have HE := Shut.mk hr
  have HN := Shut.mk hn
  have HL := Shut.mk hlen
  have HR := Shut.mk hR
  have HNM := Shut.mk hnm
  clear hok hlk hr hm hsee hn hnx hlen hR hI hf hnm
  cases ht : treeOk T with
  | false =>
    rw [ht] at HOK
    have HF : Shut (R = []) := ⟨by rw [HR.out]; unfold kidsX; rw [if_neg (by rw [ht]; simp)]⟩
    clear ht
    go_enter Tryz.func17, Tryz.ntmps17
    go_wp2_with (go_at_call 14; refine (HOK.out _ ((Below.refl _ _).alloc (Nat.le_refl _) _)).mono ?_; rintro e w1 ⟨rfl, hb1⟩)
    go_ret
    exact ⟨_, rfl, by rw [HF.out]; exact ⟨none, 0, rfl, Nat.le_refl _, .inl rfl⟩, ((Below.refl _ _).alloc (Nat.le_refl _) _).trans (hb1.mono (by simp))⟩
  | true =>
    rw [ht] at HOK
    have HT := Shut.mk (tree_uniq ht)
    have HRR : Shut (R = kidsL T.nodes id) := ⟨by rw [HR.out]; unfold kidsX; rw [if_pos ht]⟩
    have h14 : n ≤ 14 := by have := treeOk_14 ht; have := HL.out; omega
    obtain ⟨t0, ht0, hty0, hty1, hty2⟩ := info_parts infoTextG
    clear ht HR
    go_enter Tryz.func17, Tryz.ntmps17
    go_wp2_with (go_at_call 14; refine (HOK.out _ ((Below.refl _ _).alloc (Nat.le_refl _) _)).mono ?_; rintro e w1 ⟨rfl, hb1⟩; have hbx := (BX.new w a n cap nx 26).below hb1; have HBX := Shut.mk hbx; have x0 := (hbx.box.2 0 _ rfl).1; clear hb1 hbx)
    refine (HLK.out _ HBX.out.bel).mono ?_
    rintro e w2 ⟨b1, b2, G, C, rfl, hL, hb2⟩
    have HB := Shut.mk (HBX.out.bel.trans (hb2.mono HBX.out.bel.size))
    obtain ⟨D2, o2, t2⟩ := hL.m2
    have k0 := field_nm (some b1) (some b2)
    by_cases hpar : Par (nds rs) id
    · have k2 := look_map keyI Tryz.underlying78 zeroLm o2 (key_int hid) ((t2 id).1 hpar) 0
      obtain ⟨q1, q2, q3, D3, o3, t3⟩ := hL.m3 id hpar
      rw [World.drewN_zero] at k2
      have em : mapV (some (C id)) = .map (some (C id)) := rfl
      rw [em] at k2
      obtain ⟨c, hc⟩ : ∃ c, c = C id := ⟨_, rfl⟩
      rw [← hc] at k2 o3
      rw [← HN.out] at o3
      have T3 := Shut.mk t3
      have hlc : c < w2.heap.size := o3.lt
      clear o2 t2 hL q1 q2 q3 t3 em hc hb2 x0 HBX HLK HOK
      go_wp2_with (at_range; refine wpList_range_own _ rfl _ 90 rfl 9 82 keyS Tryz.underlying90 ptrE c n D3 rfl o3 ?_; intro w0 hrg0 hg0 hs0)
      have hb0 : Go.RowKit.Below w2.heap.size w2 w0 := (Below.refl _ _).grown hg0 (Nat.le_refl _) (fun j hj => by cases hj)
      have HB0 := Shut.mk hb0
      have hsz0 : Maps.size D3 ≤ n := o3.size_le
      clear hb0 hg0 o3
      go_frame
      go_loopw [5] (fun nv wr => ∃ vv, vv = nv ∧ ∃ (left : Lit → Bool) (cnt l : Nat), wr.ranges Tryz.prog 9 ptrE c w2.heap.size n D3 left cnt ∧ l + cnt ≤ n ∧ Shut (∃ ss : List (List UInt8), l = ss.length ∧ Collected D3 left ss ∧ wr.ownsRow w0.heap.size 9 1 vv ss.length (ss.map encStr) ∧ Go.RowKit.Below w2.heap.size w2 wr ∧ w0.heap.size ≤ wr.heap.size)) (fun _ wr => wr.rangeLeft c w2.heap.size)
      case atStart => exact ⟨_, rfl, _, _, 0, hrg0, by omega, ⟨[], rfl, Collected.start D3, by simpa using World.ownsRow_nil w0 w0.heap.size 9 1, HB0.out, Nat.le_refl _⟩⟩
      case round =>
        clear hrg0
        obtain ⟨vv, rfl, left, cnt, l, hrg, hlc', hrel⟩ := hrel
        obtain ⟨ss, hls, hC, hrow, hbw, hsw⟩ := hrel.out
        go_wp2_with (at_next; refine wpList_next_ranges _ rfl _ rfl 9 keyS ptrE encStr ptrV (fun key kl hk => by obtain ⟨x, hx, _⟩ := Maps.keyOf_str Tryz.underlying9 hk; exact ⟨x, hx⟩) (fun v y hv => ptrE_form hv) c w2.heap.size n _ _ _ rfl hrg ?_ ?_)
        · intro hc0 hl0
          have hperm : ss.Perm ((kidsL T.nodes id).map fun s => s.data.toList) := by
            refine kids_perm HT.out hC.1 fun x => ?_
            rw [hC.2 x, hl0]
            have htx := (T3.out ⟨x.toArray⟩).has
            have e1 : ks ⟨x.toArray⟩ = .string x := by simp [ks]
            rw [e1] at htx
            rw [htx, HE.out]
            constructor
            · rintro ⟨h1, _⟩
              cases hfm : fnm T.nodes id ⟨x.toArray⟩ with
              | none => rw [hfm] at h1; cases h1
              | some i =>
                obtain ⟨hi', h2, h3⟩ := fnm_lt hfm
                exact ⟨_, List.getElem_mem hi', h2, by rw [h3]⟩
            · rintro ⟨m, hm, h2, h3⟩
              refine ⟨?_, rfl⟩
              cases hfm : fnm T.nodes id ⟨x.toArray⟩ with
              | none => exact absurd (by rw [← h3]) (fnm_none hfm m hm h2)
              | some i => rfl
          have hsort := kids_sort HT.out hperm
          have hss := sort_any hrow (by omega)
          rw [hsort, ← HRR.out] at hss
          have HSS := Shut.mk hss
          have HLE : Shut (R.length = ss.length) := ⟨by rw [HRR.out]; have := hperm.length_eq; simpa using this.symm⟩
          have HBW := Shut.mk (HB.out.trans (hbw.mono HB.out.size))
          have hw0 : w.heap.size ≤ w0.heap.size := by have := HB.out.size; omega
          clear hperm hsort hss hrow hC hrg hrel hbw hl0
          go_wp2_with (go_at_call 69; refine HSS.out.mono ?_; rintro e w3 ⟨rfl, hrow3, hb3⟩; have HR3 := Shut.mk hrow3; have HB3 := Shut.mk hb3; clear hrow3 hb3)
          go_ret
          refine ⟨_, rfl, ?_, HBW.out.trans (HB3.out.mono hw0)⟩
          have h5 := HR3.out
          rw [← tv_enc] at h5
          obtain ⟨a', cap', e1, e2, e3⟩ := own_sansK HLE.out h5
          refine ⟨a', cap', e1, e2, ?_⟩
          rcases e3 with e3 | ⟨g, e4, e5, e6⟩
          · exact .inl e3
          · exact .inr ⟨g, e4, by omega, e6⟩
        · intro x cv kl dd ps w3 cnt1 hkey hlk hv hat hrg1 hlt hg1 hs1 hen
          obtain ⟨x', ex, rfl, _⟩ := Maps.keyOf_str Tryz.underlying9 hkey
          have exx : x' = x := by
            have : encStr x = encStr x' := ex
            simpa [encStr] using this.symm
          subst exx
          have hcs := hC.step hlk hat
          have hmemx := T3.out ⟨x'.toArray⟩
          have hsmall : (⟨x'.toArray⟩ : ByteArray).size ≤ 281474976710656 := by
            have htx := hmemx.has
            have e1 : ks ⟨x'.toArray⟩ = .string x' := by simp [ks]
            rw [e1, Maps.has_true_of_atKey hat] at htx
            cases hfm : fnm (nds rs) id ⟨x'.toArray⟩ with
            | none => rw [hfm] at htx; cases htx
            | some i =>
              obtain ⟨hi', h2, h3⟩ := fnm_lt hfm
              have := HNM.out (nds rs)[i] (by rw [← HE.out]; exact List.getElem_mem hi')
              rw [h3] at this
              omega
          have hbn3 : Go.RowKit.Below w2.heap.size w2 w3 := hbw.grown hg1 hbw.size (fun j hj => by cases hj; exact Nat.le_refl _)
          have hrow3 := hrow.kept hg1 (by
            rcases hrow.2 with ⟨e, _⟩ | ⟨g, cp, cur, e, hbs, _⟩
            · left; rw [e]; rfl
            · right; rw [e]; simp [Value.ownBlock]; omega)
          have HB3 := Shut.mk hbn3
          have HCS := Shut.mk hcs
          have HRG1 := Shut.mk hrg1
          have HRG := Shut.mk hrg
          have HLT := Shut.mk hlt
          have HCL := Shut.mk (fun W => implClone ⟨x'.toArray⟩ W hsmall)
          have ee : encStr x' = .string ⟨x'.toArray⟩ := rfl
          rw [ee] at hen ⊢
          obtain ⟨sx, hsx⟩ : ∃ sx : ByteArray, sx = ⟨x'.toArray⟩ := ⟨_, rfl⟩
          rw [← hsx] at hen HCL ⊢
          have HSX := Shut.mk hsx
          have HRW := Shut.mk hrow3
          clear hcs hmemx hsmall hbn3 hrow hrow3 hrg hrg1 hlt hg1 hlk hat hv hkey hC hbw hrel ee hsx ex
          have hs3 : w0.heap.size ≤ w3.heap.size := by omega
          go_upto_region 7 with fail
          go_wp2_with (first
            | (go_at_call 68; refine (HCL.out _).mono ?_; rintro e w4 ⟨rfl, hb4⟩; have ho4 := HRW.out.kept (row := none) ⟨hb4.os, hb4.tape, hb4.output, hb4.size, fun k hk _ => hb4.block k hk⟩ (Classical.em _); have hs4 : w0.heap.size ≤ w4.heap.size := Nat.le_trans hs3 hb4.size; have HB4 := Shut.mk hb4; clear hb4)
            | (at_builtin; refine wpList_append_own _ rfl _ _ 34 rfl w0.heap.size 9 t0 (.string ⟨#[]⟩) 1 16 Tryz.underlying34 ht0 hty0 hty1 hty2 rfl (by decide) _ _ _ rfl (ho4.alloc _) ⟨w4.heap.size, 0, none⟩ 1 1 [.string sx] rfl rfl (cell_one_new _ _ _) ?c2 ?c3 ?c4 ?c5 ?_))
          case c2 => first | rfl | (intro u hu; simp at hu; subst hu; rfl)
          case c3 => unfold maxLen; omega
          case c4 => omega
          case c5 => first | omega | (simp; omega)
          intro v' w10 ho10 hgrow _
          have hr4 : w4.ranges Tryz.prog 9 ptrE c w2.heap.size n D3 (fun z => left z && !z.sameKey (.string x')) cnt1 := HRG1.out.kept (row := none) ⟨HB4.out.os, HB4.out.tape, HB4.out.output, HB4.out.size, fun k hk _ => HB4.out.block k hk⟩ (by simp) (by simp)
          have hr10 : w10.ranges Tryz.prog 9 ptrE c w2.heap.size n D3 (fun z => left z && !z.sameKey (.string x')) cnt1 := (hr4.alloc _).kept hgrow (by
            rcases ho4.2 with ⟨e, _⟩ | ⟨g, cp, cur, e, hbs, _⟩
            · rw [e]; simp [Value.ownBlock]
            · rw [e]; simp [Value.ownBlock]; omega) (by
            rcases ho4.2 with ⟨e, _⟩ | ⟨g, cp, cur, e, hbs, _⟩
            · rw [e]; simp [Value.ownBlock]
            · rw [e]; simp [Value.ownBlock]; omega)
          have hb10 : Go.RowKit.Below w2.heap.size w2 w10 := ((HB3.out.trans (HB4.out.mono HB3.out.size)).alloc (by have := HB3.out.size; omega) _).grown hgrow (by simp; omega) (fun q hq => by have := (ho4.lt q hq).1; omega)
          have hsz10 : w0.heap.size ≤ w10.heap.size := Nat.le_trans hs4 (by have := hgrow.size; simp at this; omega)
          have HRN : Shut (w10.ownsRow w0.heap.size 9 1 v' (ss ++ [x']).length ((ss ++ [x']).map encStr)) := ⟨by
            rw [List.map_append, List.length_append, List.length_singleton]
            have e1 : [x'].map encStr = [.string sx] := by rw [HSX.out]; rfl
            rw [e1, hs0]
            exact ho10⟩
          have H10 := Shut.mk (And.intro hr10 (And.intro hb10 hsz10))
          clear hr4 hr10 hb10 hsz10 ho10 hgrow ho4
          go_wp2_with fail
          go_roundw
          case rel => exact ⟨v', rfl, _, cnt1, l + 1, H10.out.1, by have := HLT.out; omega, ⟨ss ++ [x'], by rw [List.length_append, List.length_singleton, hls], HCS.out, HRN.out, H10.out.2.1, H10.out.2.2⟩⟩
          case measure =>
            have e1 := H10.out.1.left_eq
            have e2 := HRG.out.left_eq
            rw [e1, e2]
            exact HLT.out
    · have k2 := look_map keyI Tryz.underlying78 zeroLm o2 (key_int hid) ((t2 id).2 hpar) 0
      rw [World.drewN_zero] at k2
      have em : mapV none = .map none := rfl
      rw [em] at k2
      have HF : Shut (R = []) := ⟨by
        rw [HRR.out, ← HE.out]
        refine List.eq_nil_iff_forall_not_mem.2 fun s hs => hpar ?_
        obtain ⟨m, hm, h1, _⟩ := kidsL_mem.1 hs
        exact ⟨m, hm, h1⟩⟩
      have hrg := run_range_nilMap (P := Tryz.prog) w2 90 9 82 Tryz.underlying90
      have hnx : ∀ ty, (Instr.next (.pointer (some ⟨w2.heap.size, 0, none⟩)) false ty).run Tryz.prog (w2.alloc (.mapIter none 0 #[] 0)) = _ := fun ty => run_next_nilMap w2 ty 0 0 #[]
      have HSN := Shut.mk (fun W => Tryz.slices_Sort_string_none none 0 W)
      clear o2 t2 hL hb2 x0 HBX HLK HOK em
      go_wp2_with fail
      go_loopw [5] (fun p wr => p = .slice none 0 0 ∧ wr = w2.alloc (.mapIter none 0 #[] 0)) (fun _ _ => 0)
      case atStart => exact ⟨rfl, rfl⟩
      case round =>
        obtain ⟨rfl, rfl⟩ := hrel
        go_wp2_with (go_at_call 69; refine (HSN.out _).mono ?_; rintro e w3 ⟨rfl, rfl⟩)
        go_ret
        exact ⟨_, rfl, by rw [HF.out]; exact ⟨none, 0, rfl, Nat.le_refl _, .inl rfl⟩, HB.out.alloc HB.out.size _⟩
end Go.Proofs.YthfmjjaollekiaaGreat
/- ApA: Boxes in memory; a node that is laid anew in a row of the call's own; what an answer of a tree and a number is. -/
namespace Go.Proofs.YthfmjjaollekiaaGreat
set_option maxRecDepth 100000
open Go.RowKit

/-- Boxes of one's own, each in its block. -/
structure MB (w0 w : World) (L : List (Nat × List Value)) : Prop where
  box : ∀ p ∈ L, WCells w p.1 p.2 ∧ w0.heap.size ≤ p.1
  dist : L.Pairwise fun p q => p.1 ≠ q.1
  bel : Below w0.heap.size w0 w
theorem MB.nil (w : World) : MB w w [] := ⟨by simp, List.Pairwise.nil, Below.refl _ _⟩
theorem MB.below {w0 w w' : World} {L : List (Nat × List Value)} (h : MB w0 w L) (hb : Below w.heap.size w w') : MB w0 w' L :=
  ⟨fun p hp => ⟨(h.box p hp).1.grow hb, (h.box p hp).2⟩, h.dist, h.bel.trans (hb.mono h.bel.size)⟩
theorem MB.new {w0 w : World} {L : List (Nat × List Value)} (h : MB w0 w L) (cs : Array Value) (t : TypeId) : MB w0 (w.alloc (.cells cs t)) ((w.heap.size, cs.toList) :: L) := by
  have hb : Below w.heap.size w (w.alloc (.cells cs t)) := (Below.refl _ _).alloc (Nat.le_refl _) _
  refine ⟨fun p hp => ?_, List.pairwise_cons.2 ⟨fun q hq => ?_, h.dist⟩, (h.below hb).bel⟩
  · rcases List.mem_cons.1 hp with rfl | hp
    · exact ⟨wcells_new w cs t, h.bel.size⟩
    · exact (h.below hb).box p hp
  · have := (h.box q hq).1.1
    show w.heap.size ≠ q.1
    omega
theorem MB.at {w0 w : World} {L : List (Nat × List Value)} (h : MB w0 w L) (i : Nat) {g : Nat} {X : List Value} (hi : L[i]? = some (g, X)) : WCells w g X ∧ w0.heap.size ≤ g := h.box _ (List.mem_of_getElem? hi)
theorem MB.put {w0 w : World} {L : List (Nat × List Value)} (h : MB w0 w L) (i : Nat) {g : Nat} {X : List Value} (hi : L[i]? = some (g, X)) (j : Nat) (v : Value) (hj : j < X.length) : MB w0 (w.setCell ⟨g, j, none⟩ v) (L.set i (g, X.set j v)) := by
  obtain ⟨hl, he⟩ := List.getElem?_eq_some_iff.1 hi
  have hd := List.pairwise_iff_getElem.1 h.dist
  have hk := h.at i hi
  refine ⟨fun p hp => ?_, List.pairwise_iff_getElem.2 fun a b ha hb hab => ?_, h.bel.setCell (p := ⟨g, j, none⟩) hk.2 _⟩
  · obtain ⟨k, hk', rfl⟩ := List.mem_iff_getElem.1 hp
    rw [List.length_set] at hk'
    rw [List.getElem_set]
    split
    · exact ⟨hk.1.set j v hj, hk.2⟩
    · rename_i hne
      refine ⟨(h.box _ (List.getElem_mem hk')).1.other _ _ ?_, (h.box _ (List.getElem_mem hk')).2⟩
      show L[k].1 ≠ g
      have e : L[i].1 = g := by rw [he]
      rcases Nat.lt_or_gt_of_ne hne with q | q
      · have := hd i k hl hk' q; omega
      · have := hd k i hk' hl q; omega
  · rw [List.length_set] at ha hb
    have := hd a b ha hb hab
    have e : L[i].1 = g := by rw [he]
    rw [List.getElem_set, List.getElem_set]
    split
    · rename_i h1
      subst h1
      split
      · omega
      · show g ≠ L[b].1; omega
    · split
      · rename_i h2
        subst h2
        show L[a].1 ≠ g
        omega
      · exact this
/-- A block that is none of the boxes is turned. -/
theorem MB.far {w0 w w' : World} {L : List (Nat × List Value)} {q : Option Nat} (h : MB w0 w L) (hg : w.grownBy w' q) (hq : ∀ p ∈ L, q ≠ some p.1) (h0 : ∀ k, q = some k → w0.heap.size ≤ k) : MB w0 w' L :=
  ⟨fun p hp => ⟨wc_by (h.box p hp).1 hg (hq p hp), (h.box p hp).2⟩, h.dist, h.bel.grown hg h.bel.size h0⟩
theorem ncs_set (rs : List NR) (k : Nat) (hk : k < rs.length) (f : Nat) (hf : f < 9) (x : Value) (r : NR) (hc : ncells r = (ncells rs[k]).set f x) : (ncs rs).set (k * 9 + f) x = ncs (rs.set k r) := by
  apply List.ext_getElem?
  intro i
  rw [List.getElem?_set]
  have hlen := ncs_len rs
  have hlen2 : (ncs (rs.set k r)).length = rs.length * 9 := by rw [ncs_len, List.length_set]
  by_cases hi : i < rs.length * 9
  · have e1 : i / 9 < rs.length := by omega
    have e2 : i % 9 < 9 := by omega
    have e3 : i = i / 9 * 9 + i % 9 := by omega
    have a1 : (ncs rs)[i]? = (ncells rs[i / 9])[i % 9]? := by
      rw [show (ncs rs)[i]? = (ncs rs)[i / 9 * 9 + i % 9]? by rw [← e3]]
      exact flat_get ncells_len rs (i / 9) e1 (i % 9) e2
    have a2 : (ncs (rs.set k r))[i]? = (ncells ((rs.set k r)[i / 9]'(by rw [List.length_set]; exact e1)))[i % 9]? := by
      rw [show (ncs (rs.set k r))[i]? = (ncs (rs.set k r))[i / 9 * 9 + i % 9]? by rw [← e3]]
      exact flat_get ncells_len (rs.set k r) (i / 9) (by rw [List.length_set]; exact e1) (i % 9) e2
    rw [a2, List.getElem_set]
    by_cases hik : k * 9 + f = i
    · have b1 : k = i / 9 := by omega
      have b2 : f = i % 9 := by omega
      rw [if_pos hik, if_pos b1, hc, ← b2, List.getElem?_set_self (by rw [ncells_len]; exact hf), if_pos (by rw [hlen]; omega)]
    · rw [if_neg hik, a1]
      by_cases b1 : k = i / 9
      · rw [if_pos b1, hc, List.getElem?_set_ne (by omega)]
        congr 2
        exact (getElem_congr_idx b1).symm
      · rw [if_neg b1]
  · rw [if_neg (by omega), List.getElem?_eq_none (by omega), List.getElem?_eq_none (by omega)]
theorem own_zero {w : World} {B n c sz : Nat} {t : TypeId} {q : Addr} {L : List Value} (h : w.ownsRow B t sz (.slice (some q) n c) n L) : q = ⟨q.block, 0, none⟩ := by
  rcases h.2 with ⟨e, _⟩ | ⟨g, cap, cur, e, _⟩
  · cases e
  · simp at e
    rw [e.1]
/-- A piece more at a node: its row has grown, and its slice is laid anew. -/
theorem NB.grow {w w5 : World} {B n cap g k gg cap1 : Nat} {rs : List NR} {r : NR} {o : Obj} {new : PM} (h : NB w B (.slice (some ⟨g, 0, none⟩) n cap) rs) (hn : rs.length = n) (hk : rs[k]? = some r) (hgrow : ((w.alloc o).drew).grownBy w5 (Value.slice r.loc r.nd.pieces.length r.cap).ownBlock)
    (ho : w5.ownsRow B 107 2 (.slice (some ⟨gg, 0, none⟩) (r.nd.pieces.length + 1) cap1) (r.nd.pieces.length + 1) (pcs r.nd.pieces ++ pcells new)) (hat : (Value.slice r.loc r.nd.pieces.length r.cap).ownBlock = some gg ∨ gg = w.heap.size + 1) :
    NB (w5.setCell ⟨g, k * 9 + 7, none⟩ (.slice (some ⟨gg, 0, none⟩) (r.nd.pieces.length + 1) cap1)) B (.slice (some ⟨g, 0, none⟩) n cap) (rs.set k ⟨{ r.nd with pieces := r.nd.pieces ++ [new] }, some ⟨gg, 0, none⟩, cap1⟩) := by
  subst hn
  obtain ⟨hk', er⟩ := List.getElem?_eq_some_iff.1 hk
  subst er
  have hba : Below w.heap.size w (w.alloc o).drew := ((Below.refl _ _).alloc (Nat.le_refl _) _).drew
  have hN := h.below hba
  have hlt : ∀ s ∈ rs, ∀ q, s.loc = some q → q.block < w.heap.size := fun s hs q e => ((h.rows s hs).lt q.block (by rw [e]; rfl)).2
  obtain ⟨cg, hcg⟩ := own_blk' hN.own (show (Value.slice (some ⟨g, 0, none⟩) rs.length cap).ownBlock = some g from rfl)
  have hgo : (Value.slice rs[k].loc rs[k].nd.pieces.length rs[k].cap).ownBlock ≠ some g := fun e => by
    obtain ⟨c1, h1⟩ := own_blk' (hN.rows _ (List.getElem_mem hk')) e
    rw [hcg] at h1
    simp at h1
  have hown5 := hN.own.kept hgrow (.inr (by intro e; exact hgo e.symm))
  have hggg : gg ≠ g := by
    have hgl := (h.own.lt g rfl).2
    rcases hat with e | e
    · intro e2; rw [e2] at e; exact hgo e
    · omega
  have hst := (hown5.stored (k * 9 + 7) (.slice (some ⟨gg, 0, none⟩) (rs[k].nd.pieces.length + 1) cap1)).1
  have ha := List.pairwise_iff_getElem.1 h.apart
  have hap : ∀ j (hj : j < rs.length), j ≠ k → rs[j].loc ≠ none → rs[k].loc ≠ none → rs[j].loc ≠ rs[k].loc := fun j hj hjk h1 h2 => by
    rcases Nat.lt_or_gt_of_ne hjk with q | q
    · exact ha j k hj hk' q h1 h2
    · exact fun e => ha k j hk' hj q h2 h1 e.symm
  refine ⟨?_, fun s hs => ?_, ?_⟩
  · rw [List.length_set, ← ncs_set rs k hk' 7 (by omega) (.slice (some ⟨gg, 0, none⟩) (rs[k].nd.pieces.length + 1) cap1) _ (by simp [ncells])]
    exact hst
  · obtain ⟨j, hj, rfl⟩ := List.mem_iff_getElem.1 hs
    rw [List.length_set] at hj
    rw [List.getElem_set]
    split
    · have e : pcs (rs[k].nd.pieces ++ [new]) = pcs rs[k].nd.pieces ++ pcells new := by simp [pcs]
      show World.ownsRow _ _ _ _ (.slice (some ⟨gg, 0, none⟩) (rs[k].nd.pieces ++ [new]).length cap1) (rs[k].nd.pieces ++ [new]).length (pcs (rs[k].nd.pieces ++ [new]))
      rw [e, List.length_append, List.length_singleton]
      exact ho.kept (gb_set' _ _ _ _) (.inr (by simp [Value.ownBlock]; exact hggg))
    · rename_i hjk
      have h1 : w5.ownsRow B 107 2 (.slice rs[j].loc rs[j].nd.pieces.length rs[j].cap) rs[j].nd.pieces.length (pcs rs[j].nd.pieces) := by
        refine (hN.rows _ (List.getElem_mem hj)).kept hgrow ?_
        cases e : rs[j].loc with
        | none => exact .inl rfl
        | some q =>
          refine .inr fun e2 => ?_
          cases e3 : rs[k].loc with
          | none => rw [e3] at e2; cases e2
          | some q' =>
            have hne := hap j hj (fun e => hjk e.symm) (by rw [e]; simp) (by rw [e3]; simp)
            rw [e, e3] at hne
            rw [e3] at e2
            have z1 := own_zero (by have := h.rows _ (List.getElem_mem hj); rw [e] at this; exact this)
            have z2 := own_zero (by have := h.rows _ (List.getElem_mem hk'); rw [e3] at this; exact this)
            simp [Value.ownBlock] at e2
            exact hne (by rw [z1, z2, e2])
      refine h1.kept (gb_set' _ _ _ _) ?_
      cases e : rs[j].loc with
      | none => exact .inl rfl
      | some q =>
        refine .inr fun e2 => ?_
        obtain ⟨c1, h2⟩ := own_blk' (hN.rows _ (List.getElem_mem hj)) (by rw [e]; exact e2)
        rw [hcg] at h2
        simp at h2
  · have hnew : ∀ j (hj : j < rs.length), j ≠ k → rs[j].loc ≠ some ⟨gg, 0, none⟩ := fun j hj hjk e => by
      rcases hat with q | q
      · cases e3 : rs[k].loc with
        | none => rw [e3] at q; cases q
        | some q' =>
          rw [e3] at q
          have z2 := own_zero (by have := h.rows _ (List.getElem_mem hk'); rw [e3] at this; exact this)
          simp [Value.ownBlock] at q
          exact hap j hj hjk (by rw [e]; simp) (by rw [e3]; simp) (by rw [e, e3, z2, q])
      · have := hlt _ (List.getElem_mem hj) _ e
        simp at this
        omega
    refine List.pairwise_iff_getElem.2 fun a b ha' hb' hab => ?_
    rw [List.length_set] at ha' hb'
    rw [List.getElem_set, List.getElem_set]
    split
    · rename_i h1
      rw [if_neg (by omega)]
      intro _ _ e
      exact hnew b hb' (by omega) e.symm
    · split
      · rename_i h1 h2
        intro _ _ e
        exact hnew a ha' (by omega) e
      · exact ha a b ha' hb' hab
/-- A node is laid anew: one cell of it, its pieces as they were. -/
theorem NB.put {w : World} {B g cap : Nat} {rs : List NR} (h : NB w B (.slice (some ⟨g, 0, none⟩) rs.length cap) rs) (k : Nat) (hk : k < rs.length) (f : Nat) (hf : f < 9) (x : Value) (r : NR) (hc : ncells r = (ncells rs[k]).set f x) (hl : r.loc = rs[k].loc) (hcp : r.cap = rs[k].cap) (hp : r.nd.pieces = rs[k].nd.pieces) :
    NB (w.setCell ⟨g, k * 9 + f, none⟩ x) B (.slice (some ⟨g, 0, none⟩) rs.length cap) (rs.set k r) := by
  have hgb := gb_set' w g (k * 9 + f) x
  have hst := (h.own.stored (k * 9 + f) x).1
  have hcs := ncs_set rs k hk f hf x r hc
  refine ⟨?_, fun s hs => ?_, ?_⟩
  · rw [← hcs, List.length_set]
    exact hst
  · have hs' : ∃ s' ∈ rs, s.loc = s'.loc ∧ s.cap = s'.cap ∧ s.nd.pieces = s'.nd.pieces := by
      rcases List.mem_or_eq_of_mem_set hs with q | q
      · exact ⟨s, q, rfl, rfl, rfl⟩
      · subst q; exact ⟨rs[k], List.getElem_mem hk, hl, hcp, hp⟩
    obtain ⟨s', hm, e1, e2, e3⟩ := hs'
    rw [e1, e2, e3]
    refine (h.rows s' hm).kept hgb ?_
    cases e : (Value.slice s'.loc s'.nd.pieces.length s'.cap).ownBlock with
    | none => exact .inl rfl
    | some q =>
      refine .inr fun e2 => ?_
      obtain ⟨c1, h1⟩ := own_blk' (h.rows s' hm) e
      obtain ⟨c2, h2⟩ := own_blk' h.own (show (Value.slice (some ⟨g, 0, none⟩) rs.length cap).ownBlock = some g from rfl)
      cases e2
      rw [h1] at h2
      simp at h2
  · have ha := List.pairwise_iff_getElem.1 h.apart
    refine List.pairwise_iff_getElem.2 fun a b ha' hb' hab => ?_
    rw [List.length_set] at ha' hb'
    have := ha a b ha' hb' hab
    rw [List.getElem_set, List.getElem_set]
    split
    · rename_i h1
      subst h1
      rw [if_neg (by omega), hl]
      exact this
    · split
      · rename_i h2
        subst h2
        rw [hl]
        exact this
      · exact this
theorem NB.cellK {w : World} {B n cap g : Nat} {rs : List NR} {k : Nat} {r : NR} (h : NB w B (.slice (some ⟨g, 0, none⟩) n cap) rs) (hn : rs.length = n) (hk : rs[k]? = some r) (f : Nat) (v : Value) (hv : (ncells r)[f]? = some v) : w.cell? ⟨g, k * 9 + f, none⟩ = some v ∧ w.frozen? ⟨g, k * 9 + f, none⟩ = false := by
  subst hn
  obtain ⟨hk', e⟩ := List.getElem?_eq_some_iff.1 hk
  have hw := own_wcells h.own
  have hf : f < 9 := by have := (List.getElem?_eq_some_iff.1 hv).1; rw [ncells_len] at this; exact this
  exact hw.2 _ _ ((flat_get ncells_len rs k hk' f hf).trans (by rw [e]; exact hv))
theorem NB.putK {w : World} {B n cap g : Nat} {rs : List NR} {k : Nat} {r : NR} (h : NB w B (.slice (some ⟨g, 0, none⟩) n cap) rs) (hn : rs.length = n) (hk : rs[k]? = some r) (f : Nat) (hf : f < 9) (x : Value) (r' : NR) (hc : ncells r' = (ncells r).set f x) (hl : r'.loc = r.loc) (hcp : r'.cap = r.cap) (hp : r'.nd.pieces = r.nd.pieces) :
    NB (w.setCell ⟨g, k * 9 + f, none⟩ x) B (.slice (some ⟨g, 0, none⟩) n cap) (rs.set k r') := by
  subst hn
  obtain ⟨hk', e⟩ := List.getElem?_eq_some_iff.1 hk
  subst e
  exact h.put k hk' f hf x r' hc hl hcp hp
/-- The node of a copy at a place. -/
theorem copy_at {rs rs2 : List NR} {k : Nat} {r : NR} (h : nds rs2 = nds rs) (hk : rs[k]? = some r) : ∃ loc cp, rs2[k]? = some ⟨r.nd, loc, cp⟩ := by
  have h1 : (nds rs2)[k]? = (nds rs)[k]? := by rw [h]
  simp only [nds, List.getElem?_map, hk, Option.map_some] at h1
  cases h2 : rs2[k]? with
  | none => rw [h2] at h1; cases h1
  | some s =>
    rw [h2] at h1
    simp only [Option.map_some, Option.some.injEq] at h1
    exact ⟨s.loc, s.cap, by rw [← h1]⟩
theorem NB.lts {w : World} {B : Nat} {v : Value} {rs : List NR} (h : NB w B v rs) : ∀ r ∈ rs, ∀ q, r.loc = some q → q.block < w.heap.size := fun r hr q e => by
  have := (h.rows r hr).lt q.block (by rw [e]; rfl)
  exact this.2
theorem NB.setAway {w : World} {B : Nat} {v : Value} {rs : List NR} (h : NB w B v rs) (g i : Nat) (x : Value) (hv : v.ownBlock ≠ some g) (hr : ∀ r ∈ rs, ∀ q, r.loc = some q → q.block ≠ g) : NB (w.setCell ⟨g, i, none⟩ x) B v rs := by
  refine ⟨h.own.kept (gb_set' w g i x) (.inr hv), fun r hr' => (h.rows r hr').kept (gb_set' w g i x) (.inr fun e => ?_), h.apart⟩
  cases hl : r.loc with
  | none => rw [hl] at e; cases e
  | some q =>
    rw [hl] at e
    simp [Value.ownBlock] at e
    exact hr r hr' q hl e
/-- What grows lies beyond. -/
theorem NB.beyond {w w' : World} {B C : Nat} {v : Value} {rs : List NR} {q : Option Nat} (h : NB w B v rs) (hg : w.grownBy w' q) (hq : ∀ k, q = some k → C ≤ k) (hv : ∀ k, v.ownBlock = some k → k < C) (hr : ∀ r ∈ rs, ∀ a, r.loc = some a → a.block < C) : NB w' B v rs := by
  refine ⟨h.own.kept hg ?_, fun r hr' => (h.rows r hr').kept hg ?_, h.apart⟩
  · cases e : v.ownBlock with
    | none => exact .inl rfl
    | some k => exact .inr fun e2 => by have := hq k e2.symm; have := hv k e; omega
  · cases e : (Value.slice r.loc r.nd.pieces.length r.cap).ownBlock with
    | none => exact .inl rfl
    | some k =>
      refine .inr fun e2 => ?_
      have h1 := hq k e2.symm
      cases hl : r.loc with
      | none => rw [hl] at e; cases e
      | some a =>
        rw [hl] at e
        simp [Value.ownBlock] at e
        have := hr r hr' a hl
        omega
/-- What an answer of a tree and a number is. -/
def ApPost (R : TM × Int) (w : World) (e : Ending) (w' : World) : Prop := ∃ v, e = .returned (.tuple #[v, .int .i64 R.2]) ∧ TAns w' v R.1 w.heap.size w'.heap.size ∧ Below w.heap.size w w'
end Go.Proofs.YthfmjjaollekiaaGreat
