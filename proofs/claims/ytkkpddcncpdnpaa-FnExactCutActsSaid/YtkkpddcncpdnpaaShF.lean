/- The disk of a shelf: its names are collected, sorted, and their files copied. -/
import Derived.Test.YtkkpddcncpdnpaaShE
import Derived.Sort.KeysCollected
import Derived.Sort.OwnSorted
import Derived.WalkSpells
import Derived.Test.YtkkpddcncpdnpaaLawD
namespace Go.Proofs.Ytkkpddcncpdnpaa
open Go.RowKit Go.Maps Go.Sort
attribute [local go_sem ↓] Go.wp_at_zero Go.wp_at_succ

/-- A pointer, out of a block. -/
def mkP : Option Nat → Value
  | some g => .pointer (some ⟨g, 0, none⟩)
  | none => .pointer none
theorem ptr_form {v : Value} {y : DataW Unit × List MemPlace} (h : ptrElem v = some y) : ∃ c, v = mkP c := by
  unfold ptrElem at h
  split at h
  · exact ⟨some _, rfl⟩
  · exact ⟨none, rfl⟩
  · cases h
theorem infoStrS : (Try.prog.info? 9).map (fun i => (i.zero, i.size, i.bytes)) = some (some (.string ⟨#[]⟩), 1, 16) := by kernel_rfl
theorem enc_nm (s : ByteArray) : encStr s.data.toList = .string s := by simp [encStr]
theorem sorted_names {fs : List FM} (hup : Up fs) {ss : List (List UInt8)} (hp : ss.Perm (fs.map nm)) : (ss.mergeSort fun x y => decide (x ≤ y)) = fs.map nm := by
  have tr : ∀ a b c : List UInt8, leB a b = true → leB b c = true → leB a c = true := fun a b c h1 h2 => by simp only [leB, decide_eq_true_eq] at *; exact List.le_trans h1 h2
  have to : ∀ a b : List UInt8, (leB a b || leB b a) = true := fun a b => by simp only [leB, Bool.or_eq_true, decide_eq_true_eq]; exact List.le_total a b
  refine List.Perm.eq_of_pairwise (le := fun a b => leB a b = true) (fun a b _ _ h1 h2 => ?_) (List.pairwise_mergeSort tr to ss) ?_ ((List.mergeSort_perm ss leB).trans hp)
  · simp only [leB, decide_eq_true_eq] at h1 h2
    exact List.le_antisymm h1 h2
  · exact List.pairwise_map.2 (hup.imp fun {a b} h => decide_eq_true (List.le_of_lt h))
theorem names_perm {fs : List FM} (hup : Up fs) {D : DataW Unit} {left : Lit → Bool} {ss : List (List UInt8)} (hC : Collected D left ss) (hl : ∀ l, left l = false) (hin : ∀ f ∈ fs, Maps.has D (kl f.name) = true) (hno : ∀ n : ByteArray, (∀ f ∈ fs, f.name ≠ n) → Maps.has D (kl n) = false) : ss.Perm (fs.map nm) := by
  refine (List.perm_ext_iff_of_nodup hC.1 ?_).2 fun x => ?_
  · exact List.pairwise_map.2 (hup.imp fun {a b} h e => by rw [e] at h; exact List.lt_irrefl _ h)
  · rw [hC.2 x, hl, List.mem_map]
    constructor
    · rintro ⟨h1, _⟩
      refine Classical.byContradiction fun hc => ?_
      have := hno ⟨x.toArray⟩ fun f hf e => hc ⟨f, hf, by rw [nm, e]⟩
      rw [kl] at this
      rw [this] at h1
      cases h1
    · rintro ⟨f, hf, rfl⟩
      exact ⟨hin f hf, rfl⟩
set_option maxHeartbeats 800000 in
set_option maxRecDepth 100000 in
theorem disk_any (b B : Nat) (fs : List FM) (w : World) (hsh : Shelf w B b fs) (hok : DOk fs) :
    Calls Try.prog 53 #[.map (some b)] w fun e w' => MadeDisk fs w e w' := by
  obtain ⟨i0, hi, hz0, hz1, hz2⟩ := info_parts infoStrS
  obtain ⟨j0, hj, hy0, hy1, hy2⟩ := info_parts infoFile
  have HOK : Hid (DOk fs) := hok
  have h30 := hok.1
  obtain ⟨hB, D, G, hown, hsz, hin, hinj, hno⟩ := hsh
  have hbl := hown.lt
  have HIN : Hid (∀ f ∈ fs, (∀ z, D.atKey (kl f.name) z = .lit (.int .i64 (G f.name))) ∧ WCells w (G f.name) (fcells f) ∧ B ≤ G f.name ∧ G f.name ≠ b) := hin
  have HNO : Hid (∀ n, (∀ f ∈ fs, f.name ≠ n) → Maps.has D (kl n) = false) := hno
  have hbl1 : b < (w.alloc (.cells #[.slice none 0 0] 29)).heap.size := by simp; omega
  have hownA := hown.alloc (.cells #[.slice none 0 0] 29)
  have HY0 : Hid (WCells (w.alloc (.cells #[.slice none 0 0] 29)) w.heap.size [.slice none 0 0]) := wcells_new w #[.slice none 0 0] 29
  have HB0 : Hid (Below w.heap.size w (w.alloc (.cells #[.slice none 0 0] 29))) := (Below.refl _ _).alloc (Nat.le_refl _) _
  have hmax : fs.length ≤ maxLen := by unfold maxLen; omega
  clear hok hin hinj hno hB
  go_enter Try.func53, Try.ntmps53
  go_wp2_with (first
    | (at_len; refine wpList_len_own _ rfl _ 76 rfl 9 88 Try.underlying76 ptrElem b fs.length D rfl hownA ?_)
    | (at_make; refine wpList_make_own _ rfl _ _ 90 rfl (w.heap.size + 1) 9 i0 (.string ⟨#[]⟩) 1 Try.underlying90 hi hz0 hz1 _ _ _ fs.length rfl rfl (by first | rfl | (rw [hsz]) | omega) (by rw [hz2]; omega) hmax (by simp) ?_; intro w1 hrow1 hg1)
    | (at_range; refine wpList_range_own _ rfl _ 76 rfl 9 88 lawK Try.underlying76 ptrElem b fs.length D rfl (hownA.kept hg1 (by simp)) ?_; intro w0 hrg0 hg0 hs0))
  go_frame
  have hb1 : Below w.heap.size w w1 := HB0.out.grown hg1 HB0.out.size (fun j hj => by cases hj)
  have hb2 : Below w.heap.size w w0 := hb1.grown hg0 hb1.size (fun j hj => by cases hj)
  have HY2 : Shut (WCells w0 w.heap.size [.slice none 0 0]) := ⟨wc_grown (wc_grown HY0.out hg1 (by simp)) hg0 (by simp)⟩
  have hws : w.heap.size + 1 < w1.heap.size := by have := (hrow1.lt _ rfl).2; simpa using this
  go_loopw [3] (fun v wr => ∃ (left : Lit → Bool) (cnt : Nat) (ss : List (List UInt8)), wr.ranges Try.prog 9 ptrElem b w1.heap.size fs.length D left cnt ∧ ss.length + cnt ≤ fs.length ∧
      wr.ownsRow (w.heap.size + 1) 9 1 v ss.length (ss.map encStr) ∧ v ≠ .slice none 0 0 ∧ Collected D left ss ∧ Shut (WCells wr w.heap.size [.slice none 0 0]) ∧ Below w.heap.size w wr ∧ w1.heap.size < wr.heap.size)
    (fun _ wr => wr.rangeLeft b w1.heap.size)
  case atStart =>
    exact ⟨_, _, [], hrg0, by simp [hsz], by have := hrow1.kept hg0 (Or.inr (by simp [Value.ownBlock])); simpa using this, by simp, Collected.start D, HY2, hb2, by omega⟩
  case round =>
    clear hrg0 HY2 hb2 hb1 hrow1 hg0 hs0 hownA
    obtain ⟨left, cnt, ss, hrg, hcs, hrow, hnn, hC, hy, hnx, hw1⟩ := hrel
    go_wp2_with (first
      | (at_next; refine wpList_next_ranges _ rfl _ rfl 9 lawK ptrElem encStr mkP (fun key kl hk => by obtain ⟨x, hx, _⟩ := Maps.keyOf_str Try.underlying9 hk; exact ⟨x, hx⟩) (fun v y hv => ptr_form hv) b w1.heap.size fs.length _ _ _ rfl hrg ?_ ?_))
    · intro hc0 hl0
      have hperm := names_perm HOK.out.up hC hl0 (fun f hf => Maps.has_true_of_atKey (HIN.out f hf).1) HNO.out
      have hsl : ss.length = fs.length := by rw [hperm.length_eq]; simp
      have hsort := sorted_names HOK.out.up hperm
      rcases hrow.2 with ⟨hnil, _⟩ | ⟨g, cap, cur, rfl, hbase, hb, h1, h2, h3, h4⟩
      · exact absurd hnil hnn
      have hH : Holds encStr wr g 0 ss.toArray := holds_of_block hb (by simpa using h4)
      have hgl : g < wr.heap.size := (Array.getElem?_eq_some_iff.1 hb).1
      have hc := Try.slices_Sort_string g 0 cap ss wr hH hgl (by omega)
      have hpost : ∀ (e : Ending) (w' : World), (e = .returned (.tuple #[]) ∧ ∃ n os, w' = grow (putRow encStr (Sort.ahead wr n) g 0 (ss.mergeSort fun x y => decide (x ≤ y)).toArray) os) → e = .returned (.tuple #[]) ∧ Shut (WCells w' g ((fs.map nm).map encStr)) ∧ Shut (WCells w' w.heap.size [.slice none 0 0]) ∧ Below w.heap.size w w' ∧ w.heap.size + 1 < w'.heap.size := by
        rintro e w' ⟨rfl, nn, os, rfl⟩
        have hrs := ownsRow_sorted (n := nn) (os := os) (ts := ss.mergeSort fun x y => decide (x ≤ y)) (by simp) hbase hb h1 h2 h3
        rw [hsort] at hrs ⊢
        have hgr := grownBy_sorted (w := wr) (g := g) (n := nn) (os := os) (fs.map nm).toArray
        refine ⟨rfl, ⟨own_wcells hrs⟩, ⟨wc_grown hy.out hgr (fun e => by simp at e; omega)⟩, hnx.grown hgr hnx.size (fun j hj => by cases hj; omega), by have := hgr.size; omega⟩
      have HC : Hid (Calls Try.prog 66 #[.slice (some ⟨g, 0, none⟩) ss.length cap] wr fun e w' => e = .returned (.tuple #[]) ∧ Shut (WCells w' g ((fs.map nm).map encStr)) ∧ Shut (WCells w' w.heap.size [.slice none 0 0]) ∧ Below w.heap.size w w' ∧ w.heap.size + 1 < w'.heap.size) := hc.mono hpost
      clear hpost hc hsort hperm hrow hb h1 h2 h3 h4 hH hrg hC hy hnx hnn hl0 hc0 hw1 hcs
      generalize ss.length = m at hsl HC ⊢
      subst hsl
      go_wp2_with (first
        | (go_at_call 66; refine HC.out.mono ?_; rintro e w3 ⟨rfl, hN, hy3, hnx3, hs3⟩)
        | (at_make; refine wpList_make_own _ rfl _ _ 27 rfl w3.heap.size 64 j0 _ 3 Try.underlying27 hj hy0 hy1 .i64 .i64 _ fs.length rfl rfl (by omega) (by rw [hy2]; omega) hmax (Nat.le_refl _) ?_; intro w4 hrow4 hg4))
      have hb4 : Below w3.heap.size w3 w4 := (Below.refl _ _).grown hg4 (Nat.le_refl _) (fun j hj => by cases hj)
      have HB4 : Hid (Below w3.heap.size w3 w4) := hb4
      have HR4 : Hid (w4.ownsRow w3.heap.size 64 3 (.slice (some ⟨w3.heap.size, 0, none⟩) 0 fs.length) 0 []) := hrow4
      clear HC hg4 hb4 hrow4
      go_loopw [5, 28] (fun v i wr => ∃ (k : Nat), i = .int .i64 k ∧ k ≤ fs.length ∧ wr.ownsRow w3.heap.size 64 3 v k (fcs (fs.take k)) ∧ Below w3.heap.size w3 wr) (fun _ i _ => fs.length - (intOf i).toNat)
      case atStart => exact ⟨0, rfl, Nat.zero_le _, by simpa [fcs] using HR4.out, HB4.out⟩
      case round =>
        clear HR4 HB4
        obtain ⟨k, rfl, hk, hown5, hb5⟩ := hrel
        have hbw : Below w.heap.size w wr := hnx3.trans (hb5.mono hnx3.size)
        by_cases hlt : k < fs.length
        · have hcell := (hN.out.2 k (.string fs[k].name) (by simp [hlt])).1
          rw [← hb5.cell (p := ⟨g, k, none⟩) hN.out.1] at hcell
          obtain ⟨q1, q2, _, _⟩ := HIN.out fs[k] (List.getElem_mem hlt)
          have hfo := HOK.out.ok fs[k] (List.getElem_mem hlt)
          have hstep : fcs (fs.take (k + 1)) = fcs (fs.take k) ++ [.string fs[k].name, .string fs[k].text, .int .i64 fs[k].kept] := by rw [take_snoc fs k hlt, fcs_snoc]
          obtain ⟨f, hfe⟩ : ∃ f, f = fs[k] := ⟨_, rfl⟩
          rw [← hfe] at hcell q1 q2 hfo hstep
          have q2' := q2.below hbw q2.1
          obtain ⟨c0, _⟩ := q2'.2 0 _ rfl
          obtain ⟨c1, _⟩ := q2'.2 1 _ rfl
          obtain ⟨c2, _⟩ := q2'.2 2 _ rfl
          have hkey := kl_key f.name (by have := hfo.1.2; unfold maxLen; omega)
          have hownr := hown.kept (row := none) ⟨hbw.os, hbw.tape, hbw.output, hbw.size, fun k hk _ => hbw.block k hk⟩ (by simp)
          have HST : Hid (fcs (fs.take (k + 1)) = fcs (fs.take k) ++ [.string f.name, .string f.text, .int .i64 f.kept]) := hstep
          have k0 : (0 : Int) ≤ (k : Int) := by omega
          have k1 : (k : Int) < (fs.length : Int) := by omega
          have HB5 : Hid (Below w3.heap.size w3 wr) := hb5
          generalize G f.name = gf at *
          clear hfe hfo hstep q2 q2' hb5 hbw
          go_wp2_with (first
            | (at_lookup; refine wpList_at _ rfl _ _ 76 rfl 9 88 lawK Try.underlying76 (zeroPtr _) b fs.length D rfl hownr _ _ rfl hkey gf q1 ?_)
            | (at_builtin; refine wpList_append_own _ rfl _ _ 27 rfl w3.heap.size 64 j0 _ 3 40 Try.underlying27 hj hy0 hy1 hy2 rfl (by decide) _ _ _ rfl (hown5.alloc _) ⟨wr.heap.size, 0, none⟩ 1 1 [.string f.name, .string f.text, .int .i64 f.kept] rfl rfl (World.news_of_block (cs := #[.string f.name, .string f.text, .int .i64 f.kept]) (t := 64) (fr := (0, 0)) (heap_alloc_new wr _)) (by simp [Value.oneCell']) (by unfold maxLen; omega) (by omega) (by have := HB5.out.size; simp; omega) ?_; intro v' w6 hown' hg6 hnil6))
          go_roundw
          case rel =>
            refine ⟨k + 1, by go_num, by omega, ?_, (HB5.out.alloc HB5.out.size _).grown hg6 (by have := HB5.out.size; simp; omega) (fun j hj => (hown5.lt j hj).1)⟩
            rw [HST.out]
            exact hown'
          case measure => simp [intOf]; omega
        · have e : k = fs.length := by omega
          subst e
          rw [List.take_length] at hown5
          obtain ⟨va, vcap, rfl⟩ := own_form hown5
          have HR5 : Hid (FRow wr va fs) := (FRw.of_own hown5).1.crow
          have HB5 : Hid (Below w.heap.size w wr) := hbw
          have hyr := hy3.out.grow hb5
          have HYR : Shut (WCells wr w.heap.size [.slice none 0 0]) := ⟨hyr⟩
          have HFO : Hid (∀ f ∈ fs, f.name.size ≤ 281474976710656 ∧ f.text.size ≤ 281474976710656) := by
            intro f hf
            have := HOK.out.ok f hf
            exact ⟨by have := this.1.2; omega, by have := this.2.1; omega⟩
          clear hb5 hbw hyr
          go_wp2_with fail
          refine (copyOf_any va fs vcap _ HR5.out (by omega) HFO.out).mono ?_
          rintro e w7 ⟨v7, rfl, hown7, hb7⟩
          obtain ⟨yc, yf⟩ := (HYR.out.grow hb7).2 0 _ rfl
          have HB7 : Hid (Below w.heap.size w w7) := HB5.out.trans (hb7.mono HB5.out.size)
          have hsz7 := HYR.out.1
          obtain ⟨va7, vcap7, rfl⟩ := own_form hown7
          clear hb7
          go_wp2_with fail
          show bodyPost Try.prog Try.f53 _ Exit.ret _ _
          refine bodyPost_ret (v := .agg #[.slice va7 fs.length vcap7]) (by simp [results, Try.results53, go_sem, yc]) rfl ⟨_, rfl, ?_, HB7.out.setCell (by simp) _⟩
          exact own_wider (own_other hown7 hsz7 _ rfl _ rfl) (by omega)
    · intro x c l yd yp w2 cnt2 hkey hlk hv hat hrg2 hlt hg2 hs2 hen
      obtain ⟨x', ex, rfl, _⟩ := Maps.keyOf_str Try.underlying9 hkey
      obtain rfl : x = x' := encStr_inj ex
      have hrow2 := hrow.kept hg2 (Or.inr (row_ne_iter hrow hrg).symm)
      have hs2' : wr.heap.size ≤ w2.heap.size := by omega
      clear hs2
      have hnx2 : Below w.heap.size w w2 := hnx.grown hg2 hnx.size (fun j hj => by cases hj; omega)
      have hy2' : WCells w2 w.heap.size [.slice none 0 0] := wc_grown hy.out hg2 (fun e => by simp at e; omega)
      have HY3 : Shut (WCells w2 w.heap.size [.slice none 0 0]) := ⟨hy2'⟩
      clear hy2'
      go_wp2_with (first
        | (at_builtin; refine wpList_append_own _ rfl _ _ 90 rfl (w.heap.size + 1) 9 i0 (.string ⟨#[]⟩) 1 16 Try.underlying90 hi hz0 hz1 hz2 rfl (by decide) _ _ _ rfl (hrow2.alloc _) ⟨w2.heap.size, 0, none⟩ 1 1 [encStr x] rfl rfl (cell_one_new _ _ _) (by simp [Value.oneCell', encStr]) (by unfold maxLen at *; omega) (by omega) (by simp; omega) ?_; intro v' w3 hown' hg3 hnil3))
      have hrg3 := (hrg2.alloc _).kept hg3 (row_ne_low hrow2 (by omega)) (row_ne_iter hrow2 hrg2)
      go_roundw
      case rel =>
        refine ⟨_, cnt2, ss ++ [x], hrg3, by simp; omega, by simpa using hown', fun hv' => by have := (hnil3.1 hv').2; omega, hC.step hlk hat, ⟨wc_grown (HY3.out.alloc _) hg3 (fun e => by have := (hrow2.lt _ e).1; omega)⟩, ?_, ?_⟩
        · exact (hnx2.alloc hnx2.size _).grown hg3 (by have := hnx2.size; simp; omega) (fun j hj => by have := (hrow2.lt j hj).1; omega)
        · have := hg3.size; simp at this; omega
      case measure => rw [hrg3.left_eq, hrg.left_eq]; exact hlt
end Go.Proofs.Ytkkpddcncpdnpaa
