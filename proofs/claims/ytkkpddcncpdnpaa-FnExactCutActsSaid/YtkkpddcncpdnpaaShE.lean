/- The shelf of a disk. -/
import Derived.Test.YtkkpddcncpdnpaaShD
namespace Go.Proofs.Ytkkpddcncpdnpaa
open Go.RowKit Go.Maps
attribute [local go_sem ↓] Go.wp_at_zero Go.wp_at_succ

theorem put_last {fs : List FM} {f : FM} (h : ∀ g ∈ fs, nm g < nm f) : putF f fs = fs ++ [f] := by
  have h1 : lessF f fs = fs := by
    unfold lessF
    rw [List.filter_eq_self]
    intro g hg
    rw [bytesLess_eq, nm_toList, nm_toList]
    exact decide_eq_true (h g hg)
  have h2 : moreF f fs = [] := by
    rw [List.eq_nil_iff_forall_not_mem]
    intro g hg
    obtain ⟨m1, m2⟩ := mem_more.1 hg
    exact List.lt_asymm (h g m1) m2
  unfold putF
  rw [h1, h2, List.append_nil]
theorem Shelf.empty (w : World) (B : Nat) (h : B ≤ w.heap.size) : Shelf (w.alloc (.map #[] 0)) B w.heap.size [] :=
  ⟨h, .map [], fun _ => 0, World.ownsMap_made w _ _ _, rfl, by simp, by simp, fun n _ => rfl⟩
def ShOf (fs : List FM) (w : World) (e : Ending) (w' : World) : Prop := ∃ b, e = .returned (.map (some b)) ∧ Shelf w' w.heap.size b fs ∧ Below w.heap.size w w'
set_option maxHeartbeats 2000000 in
set_option maxRecDepth 100000 in
theorem shelfOf_any (a : Option Addr) (fs : List FM) (cap : Nat) (w : World) (hr : FRow w a fs) (hok : DOk fs) :
    Calls Try.prog 51 #[.agg #[.slice a fs.length cap]] w fun e w' => ShOf fs w e w' := by
  have HR : Hid (FRow w a fs) := hr
  have HOK : Hid (DOk fs) := hok
  have h30 := hok.1
  have hb0 : Below w.heap.size w ((w.alloc (.cells #[.slice a fs.length cap] 29)).alloc (.map #[] 0)) := ((Below.refl _ _).alloc (Nat.le_refl _) _).alloc (by simp) _
  have HB0 : Hid (Below w.heap.size w ((w.alloc (.cells #[.slice a fs.length cap] 29)).alloc (.map #[] 0))) := hb0
  have HX : Hid (WCells ((w.alloc (.cells #[.slice a fs.length cap] 29)).alloc (.map #[] 0)) w.heap.size [.slice a fs.length cap]) := (wcells_new w #[.slice a fs.length cap] 29).alloc _
  have hs0 := Shelf.empty (w.alloc (.cells #[.slice a fs.length cap] 29)) w.heap.size (by simp)
  rw [World.size_alloc] at hs0
  have HS0 : Hid (Shelf ((w.alloc (.cells #[.slice a fs.length cap] 29)).alloc (.map #[] 0)) w.heap.size (w.heap.size + 1) []) := hs0
  clear hr hok hb0 hs0
  have hmm := @run_makeMap Try.prog
  go_enter Try.func51, Try.ntmps51
  go_wp2_with fail
  go_loopw [10] (fun i wr => ∃ (k : Nat), i = .int .i64 k ∧ k ≤ fs.length ∧ Shelf wr w.heap.size (w.heap.size + 1) (fs.take k) ∧ Below w.heap.size w wr) (fun i _ => fs.length - (intOf i).toNat)
  case atStart => exact ⟨0, rfl, Nat.zero_le _, by simpa using HS0.out, HB0.out⟩
  case round =>
    clear HS0 HX HB0
    obtain ⟨k, rfl, hk, hsh, hb⟩ := hrel
    have HB : Hid (Below w.heap.size w wr) := hb
    by_cases hlt : k < fs.length
    · obtain ⟨b, off, rfl, lb, hc⟩ := FRow.at (HR.out.stays hb) (by omega)
      obtain ⟨d0, d1, d2⟩ := hc k hlt
      have hfo := HOK.out.ok fs[k] (List.getElem_mem hlt)
      have hup := HOK.out.up
      have hless : ∀ g ∈ fs.take k, nm g < nm fs[k] := fun g hg => by
        obtain ⟨j, hj, rfl⟩ := List.getElem_of_mem hg
        have hj' : j < k := by simp at hj; omega
        rw [List.getElem_take]
        exact List.pairwise_iff_getElem.1 hup j k (by omega) hlt hj'
      have hupk : Up (fs.take k) := hup.sublist (List.take_sublist _ _)
      have hput : putF fs[k] (fs.take k) = fs.take (k + 1) := by rw [put_last hless, ← take_snoc fs k hlt]
      have hnone : ∀ g ∈ fs.take k, g.name ≠ fs[k].name := fun g hg e => by
        have := hless g hg
        rw [show nm g = nm fs[k] by rw [nm, nm, e]] at this
        exact List.lt_irrefl _ this
      have hlen : (fs.take k).length = k := by simp; omega
      obtain ⟨f, hfe⟩ : ∃ f, f = fs[k] := ⟨_, rfl⟩
      rw [← hfe] at d0 d1 d2 hfo hput hnone
      have hkey := kl_key f.name (by have := hfo.1.2; unfold maxLen; omega)
      have hik := isKey_kl f.name (by have := hfo.1.2; unfold maxLen; omega)
      obtain ⟨hB, D, G, hown, hsz, hin, hinj, hno⟩ := hsh
      have hab := hno f.name hnone
      have htidy := hown.tidy lawK
      have hbl := hown.lt
      have HU : Hid (∀ w2 : World, w2.ownsMap Try.prog 9 ptrElem (w.heap.size + 1) ((fs.take k).length + 1) (D.put (kl f.name) (.lit (.int .i64 wr.heap.size))) → (wr.alloc (.cells #[.string f.name, .string f.text, .int .i64 f.kept] 64)).mapTurned w2 (w.heap.size + 1) → Shelf w2 w.heap.size (w.heap.size + 1) (fs.take (k + 1)) ∧ Below w.heap.size w w2) := by
        intro w2 ho ht
        have hcell : ∀ g X, g ≠ w.heap.size + 1 → WCells (wr.alloc (.cells #[.string f.name, .string f.text, .int .i64 f.kept] 64)) g X → WCells w2 g X := fun g X hg hc => wc_grown hc ht.grown (fun e => hg (by simpa using e.symm))
        refine ⟨?_, below_turned (HB.out.alloc HB.out.size _) ht hB (by have := HB.out.size; simp; omega)⟩
        rw [← hput]
        refine Shelf.put (D := D) (G := G) (g := wr.heap.size) hB ho ?_ (fun f2 h2 => ⟨(hin f2 h2).1, (hin f2 h2).2.2⟩) hinj hno (fun l hl => ⟨fun z => Maps.atKey_put_other hl _ z, Maps.has_put_other hl _⟩) (fun z => Maps.atKey_put_same hown.isMap hik _ z) (hcell _ _ (by omega) (wcells_new wr #[.string f.name, .string f.text, .int .i64 f.kept] 64)) (fun f2 h2 hne => ?_) (fun f2 h2 hne => ?_) HB.out.size (by omega)
        · rw [Maps.size_put htidy, hab, put_len hupk, without_none hnone, hsz]; rfl
        · exact hcell _ _ (hin f2 h2).2.2.2 ((hin f2 h2).2.1.alloc _)
        · have := (hin f2 h2).2.1.1; omega
      have hown1 := hown.alloc (.cells #[.string f.name, .string f.text, .int .i64 f.kept] 64)
      have hmx : (fs.take k).length < maxLen := by unfold maxLen; omega
      have k0 : (0 : Int) ≤ (k : Int) := by omega
      have k1 : (k : Int) < (fs.length : Int) := by omega
      clear hfe hc hb hless hup hupk hput hnone hin hinj hno htidy hfo hown hab
      go_wp2_with (at_mapUpdate; refine wpList_mapUpdate_in _ rfl _ _ _ 76 rfl 9 88 lawK Try.underlying76 ptrElem (w.heap.size + 1) (fs.take k).length D rfl hown1 hmx _ _ _ rfl rfl hkey (.lit (.int .i64 wr.heap.size)) [] rfl ?_; intro w2 hown2 hturn2)
      obtain ⟨h1, h2⟩ := HU.out w2 hown2 hturn2
      go_roundw
      case rel => exact ⟨k + 1, by go_num, by omega, h1, h2⟩
      case measure => simp [intOf]; omega
    · have e : k = fs.length := by omega
      subst e
      rw [List.take_length] at hsh
      clear hb
      go_wp2_with fail
      go_ret
      exact ⟨_, rfl, hsh, HB.out⟩
end Go.Proofs.Ytkkpddcncpdnpaa
