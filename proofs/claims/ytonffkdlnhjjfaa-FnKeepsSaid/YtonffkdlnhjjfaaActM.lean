/- What acts do to a disk, as lists of files: no text of the program is read here. -/
import Derived.Test.YtonffkdlnhjjfaaDiskT
import Derived.Test.YtonffkdlnhjjfaaActA
import Derived.Test.YtonffkdlnhjjfaaImA
namespace Go.Proofs.Ytonffkdlnhjjfaa
open Go.RowKit

/-- A file's name as a list of bytes. -/
abbrev nm (f : FM) : List UInt8 := f.name.data.toList
theorem nm_toList (s : ByteArray) : s.toList = s.data.toList := ByteArray.toList_eq s
theorem nm_inj {s t : ByteArray} (h : s.data.toList = t.data.toList) : s = t := ByteArray.ext (Array.toList_inj.1 h)
/-- Names ascend. -/
abbrev Up (fs : List FM) : Prop := fs.Pairwise fun f g => nm f < nm g
theorem DOk.of_up {fs : List FM} (h1 : fs.length ≤ 30) (h2 : ∀ f ∈ fs, FOk f) (h3 : Up fs) : DOk fs := by
  refine ⟨h1, fun k hk => ?_⟩
  unfold FAt
  rw [getD_at fs k hk]
  refine ⟨h2 _ (List.getElem_mem hk), fun h0 => ?_⟩
  rw [getD_at fs (k - 1) (by omega), bytesLess_eq, nm_toList, nm_toList]
  exact decide_eq_true (List.pairwise_iff_getElem.1 h3 (k - 1) k (by omega) hk (by omega))
theorem DOk.ok {fs : List FM} (h : DOk fs) : ∀ f ∈ fs, FOk f := by
  intro f hf
  obtain ⟨k, hk, rfl⟩ := List.getElem_of_mem hf
  have := (h.2 k hk).1
  rwa [getD_at fs k hk] at this
theorem DOk.up {fs : List FM} (h : DOk fs) : Up fs := by
  refine List.pairwise_iff_getElem.2 fun i j hi hj hij => ?_
  induction j with
  | zero => omega
  | succ j ih =>
    have hs := (h.2 (j + 1) hj).2 (by omega)
    rw [getD_at fs (j + 1) hj, getD_at fs (j + 1 - 1) (by omega), bytesLess_eq, nm_toList, nm_toList] at hs
    have hs' : nm fs[j] < nm fs[j + 1] := of_decide_eq_true hs
    by_cases e : i = j
    · subst e; exact hs'
    · exact List.lt_trans (ih (by omega) (by omega)) hs'
theorem Up.nodup {fs : List FM} (h : Up fs) : fs.Nodup := h.imp fun {a b} hlt e => by subst e; exact List.lt_irrefl _ hlt
theorem Up.name {fs : List FM} (h : Up fs) {f g : FM} (hf : f ∈ fs) (hg : g ∈ fs) (e : f.name = g.name) : f = g := by
  induction fs with
  | nil => simp at hf
  | cons x xs ih =>
    obtain ⟨h1, h2⟩ := List.pairwise_cons.1 h
    rcases List.mem_cons.1 hf with rfl | hf' <;> rcases List.mem_cons.1 hg with rfl | hg'
    · rfl
    · have := h1 g hg'; rw [show nm g = nm f by rw [nm, nm, e]] at this; exact absurd this (List.lt_irrefl _)
    · have := h1 f hf'; rw [show nm f = nm g by rw [nm, nm, e]] at this; exact absurd this (List.lt_irrefl _)
    · exact ih h2 hf' hg'
theorem mem_less {f g : FM} {fs : List FM} : g ∈ lessF f fs ↔ g ∈ fs ∧ nm g < nm f := by
  unfold lessF
  rw [List.mem_filter, bytesLess_eq, nm_toList, nm_toList]
  simp
theorem mem_more {f g : FM} {fs : List FM} : g ∈ moreF f fs ↔ g ∈ fs ∧ nm f < nm g := by
  unfold moreF
  rw [List.mem_filter, ← less_iff, bytesLess_eq, nm_toList, nm_toList]
  simp
theorem mem_putF {f g : FM} {fs : List FM} : g ∈ putF f fs ↔ g = f ∨ (g ∈ fs ∧ g.name ≠ f.name) := by
  unfold putF
  simp only [List.mem_append, mem_less, mem_more, List.mem_singleton]
  constructor
  · rintro ((⟨h1, h2⟩ | h) | ⟨h1, h2⟩)
    · exact .inr ⟨h1, fun e => by rw [show nm g = nm f by rw [nm, nm, e]] at h2; exact List.lt_irrefl _ h2⟩
    · exact .inl h
    · exact .inr ⟨h1, fun e => by rw [show nm g = nm f by rw [nm, nm, e]] at h2; exact List.lt_irrefl _ h2⟩
  · rintro (h | ⟨h1, h2⟩)
    · exact .inl (.inr h)
    · by_cases c : nm g < nm f
      · exact .inl (.inl ⟨h1, c⟩)
      · refine .inr ⟨h1, ?_⟩
        by_cases c2 : nm f < nm g
        · exact c2
        · exact absurd (nm_inj (List.le_antisymm (List.not_lt.1 c2) (List.not_lt.1 c))) h2
theorem mem_withoutF {n : ByteArray} {g : FM} {fs : List FM} : g ∈ withoutF n fs ↔ g ∈ fs ∧ g.name ≠ n := by
  unfold withoutF
  rw [List.mem_filter]; simp
theorem Up.without {fs : List FM} (h : Up fs) (n : ByteArray) : Up (withoutF n fs) := h.filter _
theorem Up.put {fs : List FM} (h : Up fs) (f : FM) : Up (putF f fs) := by
  unfold putF
  refine List.pairwise_append.2 ⟨List.pairwise_append.2 ⟨h.filter _, List.pairwise_singleton _ _, fun a ha b hb => ?_⟩, h.filter _, fun a ha b hb => ?_⟩
  · rw [List.mem_singleton] at hb; subst hb; exact (mem_less.1 ha).2
  · have hb' := (mem_more.1 hb).2
    rcases List.mem_append.1 ha with ha | ha
    · exact List.lt_trans (mem_less.1 ha).2 hb'
    · rw [List.mem_singleton] at ha; subst ha; exact hb'
theorem put_len {fs : List FM} (h : Up fs) (f : FM) : (putF f fs).length = (withoutF f.name fs).length + 1 := by
  have hp : (putF f fs).Perm (f :: withoutF f.name fs) := by
    refine (List.perm_ext_iff_of_nodup (h.put f).nodup ?_).2 fun g => ?_
    · exact List.nodup_cons.2 ⟨fun hf => (mem_withoutF.1 hf).2 rfl, (h.without _).nodup⟩
    · rw [mem_putF, List.mem_cons, mem_withoutF]
  rw [hp.length_eq]; rfl
theorem without_none {n : ByteArray} {fs : List FM} (h : ∀ f ∈ fs, f.name ≠ n) : withoutF n fs = fs := by
  unfold withoutF
  rw [List.filter_eq_self]
  intro f hf
  simpa using h f hf
theorem without_some {fs : List FM} (h : Up fs) {f : FM} (hf : f ∈ fs) : (withoutF f.name fs).length + 1 = fs.length := by
  have hp : fs.Perm (f :: withoutF f.name fs) := by
    refine (List.perm_ext_iff_of_nodup h.nodup ?_).2 fun g => ?_
    · exact List.nodup_cons.2 ⟨fun hf => (mem_withoutF.1 hf).2 rfl, (h.without _).nodup⟩
    · rw [List.mem_cons, mem_withoutF]
      constructor
      · intro hg
        by_cases e : g.name = f.name
        · exact .inl (h.name hg hf e)
        · exact .inr ⟨hg, e⟩
      · rintro (rfl | ⟨hg, _⟩)
        · exact hf
        · exact hg
  rw [hp.length_eq]; rfl
/-- The file of a name. -/
def fileOf (fs : List FM) (n : ByteArray) : Option FM := fs.find? fun f => decide (f.name = n)
theorem fileOf_some {fs : List FM} {n : ByteArray} {f : FM} (h : fileOf fs n = some f) : f ∈ fs ∧ f.name = n := by
  unfold fileOf at h
  exact ⟨List.mem_of_find?_eq_some h, by simpa using List.find?_some h⟩
theorem fileOf_none {fs : List FM} {n : ByteArray} (h : fileOf fs n = none) : ∀ f ∈ fs, f.name ≠ n := by
  unfold fileOf at h
  intro f hf
  simpa using List.find?_eq_none.1 h f hf
/-- What an act makes of a disk, ahead of the look whether it is right. -/
def outA (fs : List FM) (a : AM) : Option (List FM) :=
  if a.kind = 1 then some (putF ⟨a.name, ((fileOf fs a.name).getD ⟨a.name, ⟨#[]⟩, 0⟩).text ++ a.text, ((fileOf fs a.name).getD ⟨a.name, ⟨#[]⟩, 0⟩).kept⟩ fs)
  else match fileOf fs a.name with
    | none => none
    | some f =>
      if a.kind = 2 then some (putF ⟨a.name, f.text, (f.text.size : Int)⟩ fs)
      else if a.kind = 3 then (if f.kept < (f.text.size : Int) ∨ a.to = a.name ∨ ¬ (1 ≤ a.to.size ∧ a.to.size ≤ 8) then none else some (putF ⟨a.to, f.text, f.kept⟩ (withoutF a.name fs)))
      else if a.kind = 4 then some (withoutF a.name fs)
      else none
/-- An act that may be one. -/
def ActIs (a : AM) : Prop := (1 ≤ a.name.size ∧ a.name.size ≤ 8) ∧ (a.kind ≠ 3 → a.to = ⟨#[]⟩) ∧ (a.kind ≠ 1 → a.text = ⟨#[]⟩)
open Classical in
/-- What DoAct answers. -/
noncomputable def doA (fs : List FM) (a : AM) : Option (List FM) := if DOk fs ∧ ActIs a then (outA fs a).filter fun o => decide (DOk o) else none
/-- What DoActs answers. -/
noncomputable def doAs (fs : List FM) : List AM → List FM × Nat
  | [] => (fs, 0)
  | a :: rs => match doA fs a with
    | none => (fs, 0)
    | some o => ((doAs o rs).1, (doAs o rs).2 + 1)
theorem doA_ok {fs : List FM} {a : AM} {o : List FM} (h : doA fs a = some o) : DOk o := by
  unfold doA at h
  split at h
  · rw [Option.filter_eq_some_iff] at h
    simpa using h.2
  · cases h
theorem doA_of {fs : List FM} {a : AM} {o : List FM} (h1 : DOk fs) (h2 : ActIs a) (h3 : outA fs a = some o) (h4 : DOk o) : doA fs a = some o := by
  unfold doA
  rw [if_pos ⟨h1, h2⟩, h3]
  simp [Option.filter, h4]
theorem doA_no {fs : List FM} {a : AM} (h : ∀ o, ActIs a → outA fs a = some o → ¬ DOk o) : doA fs a = none := by
  unfold doA
  split
  · rename_i hc
    cases ho : outA fs a with
    | none => rfl
    | some o => simp [Option.filter, h o hc.2 ho]
  · rfl
theorem empty_app (t : ByteArray) : (⟨#[]⟩ : ByteArray) ++ t = t := by
  apply ByteArray.ext
  rw [ByteArray.data_append]
  simp
theorem len_put_there {fs : List FM} (h : Up fs) {f : FM} (hf : f ∈ fs) (g : FM) (e : g.name = f.name) : (putF g fs).length = fs.length := by
  rw [put_len h g, e, without_some h hf]
theorem ok_put {fs : List FM} (h : DOk fs) (g : FM) (hg : FOk g) (hl : (putF g fs).length ≤ 30) : DOk (putF g fs) :=
  DOk.of_up hl (fun f hf => by rcases mem_putF.1 hf with rfl | ⟨hf, _⟩; exact hg; exact h.ok f hf) (h.up.put g)
theorem ok_without {fs : List FM} (h : DOk fs) (n : ByteArray) : DOk (withoutF n fs) :=
  DOk.of_up (Nat.le_trans (without_len n fs) h.1) (fun f hf => h.ok f (mem_withoutF.1 hf).1) (h.up.without n)
theorem doA_add_there {fs : List FM} {n t : ByteArray} {f : FM} (h : DOk fs) (hf : fileOf fs n = some f) : doA fs ⟨1, n, t, ⟨#[]⟩⟩ = if f.text.size + t.size ≤ 20000 then some (putF ⟨n, f.text ++ t, f.kept⟩ fs) else none := by
  obtain ⟨hm, rfl⟩ := fileOf_some hf
  have hok := h.ok f hm
  have ho : outA fs ⟨1, f.name, t, ⟨#[]⟩⟩ = some (putF ⟨f.name, f.text ++ t, f.kept⟩ fs) := by unfold outA; simp [hf]
  have hsz : (f.text ++ t).size = f.text.size + t.size := ByteArray.size_append
  split
  · rename_i hc
    refine doA_of h ⟨hok.1, fun _ => rfl, fun h => absurd rfl h⟩ ho (ok_put h _ ⟨hok.1, ?_, hok.2.2.1, ?_⟩ (by rw [len_put_there h.up hm ⟨f.name, f.text ++ t, f.kept⟩ rfl]; exact h.1))
    · show (f.text ++ t).size ≤ 20000; omega
    · show f.kept ≤ ((f.text ++ t).size : Int); have := hok.2.2.2; omega
  · rename_i hc
    refine doA_no fun o _ e hd => hc ?_
    rw [ho] at e
    cases e
    have := (hd.ok _ (mem_putF.2 (.inl rfl))).2.1
    simp only at this
    omega
theorem doA_add_new {fs : List FM} {n t : ByteArray} (h : DOk fs) (hf : fileOf fs n = none) : doA fs ⟨1, n, t, ⟨#[]⟩⟩ = if (1 ≤ n.size ∧ n.size ≤ 8) ∧ fs.length < 30 ∧ t.size ≤ 20000 then some (putF ⟨n, t, 0⟩ fs) else none := by
  have ho : outA fs ⟨1, n, t, ⟨#[]⟩⟩ = some (putF ⟨n, t, 0⟩ fs) := by unfold outA; simp [hf, empty_app]
  have hl : (putF ⟨n, t, 0⟩ fs).length = fs.length + 1 := by rw [put_len h.up, without_none (fileOf_none hf)]
  split
  · rename_i hc
    exact doA_of h ⟨hc.1, fun _ => rfl, fun h => absurd rfl h⟩ ho (ok_put h _ ⟨hc.1, hc.2.2, Int.le_refl _, by simp⟩ (by omega))
  · rename_i hc
    refine doA_no fun o ha e hd => hc ?_
    rw [ho] at e
    cases e
    have h1 := (hd.ok _ (mem_putF.2 (.inl rfl))).2.1
    have h2 := hd.1
    exact ⟨ha.1, by omega, h1⟩
theorem doA_keep {fs : List FM} {n : ByteArray} (h : DOk fs) : doA fs ⟨2, n, ⟨#[]⟩, ⟨#[]⟩⟩ = (fileOf fs n).map fun f => putF ⟨n, f.text, (f.text.size : Int)⟩ fs := by
  cases hf : fileOf fs n with
  | none => exact doA_no fun o _ e => by unfold outA at e; simp [hf] at e
  | some f =>
    obtain ⟨hm, rfl⟩ := fileOf_some hf
    have hok := h.ok f hm
    exact doA_of h ⟨hok.1, fun _ => rfl, fun _ => rfl⟩ (by unfold outA; simp [hf]) (ok_put h _ ⟨hok.1, hok.2.1, by simp, Int.le_refl _⟩ (by rw [len_put_there h.up hm ⟨f.name, f.text, (f.text.size : Int)⟩ rfl]; exact h.1))
theorem doA_drop {fs : List FM} {n : ByteArray} (h : DOk fs) : doA fs ⟨4, n, ⟨#[]⟩, ⟨#[]⟩⟩ = (fileOf fs n).map fun _ => withoutF n fs := by
  cases hf : fileOf fs n with
  | none => exact doA_no fun o _ e => by unfold outA at e; simp [hf] at e
  | some f =>
    obtain ⟨hm, rfl⟩ := fileOf_some hf
    exact doA_of h ⟨(h.ok f hm).1, fun _ => rfl, fun _ => rfl⟩ (by unfold outA; simp [hf]) (ok_without h _)
theorem doA_move {fs : List FM} {n t : ByteArray} (h : DOk fs) : doA fs ⟨3, n, ⟨#[]⟩, t⟩ = (fileOf fs n).bind fun f => if f.kept = (f.text.size : Int) ∧ t ≠ n ∧ (1 ≤ t.size ∧ t.size ≤ 8) then some (putF ⟨t, f.text, f.kept⟩ (withoutF n fs)) else none := by
  cases hf : fileOf fs n with
  | none => exact doA_no fun o _ e => by unfold outA at e; simp [hf] at e
  | some f =>
    obtain ⟨hm, rfl⟩ := fileOf_some hf
    have hok := h.ok f hm
    have hle := hok.2.2.2
    simp only [Option.bind_some]
    split
    · rename_i hc
      have hl : (putF ⟨t, f.text, f.kept⟩ (withoutF f.name fs)).length ≤ 30 := by
        rw [put_len (h.up.without _)]
        have h1 := without_len t (withoutF f.name fs)
        have h2 := without_some h.up hm
        have h3 := h.1
        show (withoutF t (withoutF f.name fs)).length + 1 ≤ 30
        omega
      refine doA_of h ⟨hok.1, fun h => absurd rfl h, fun _ => rfl⟩ ?_ (ok_put (ok_without h _) _ ⟨hc.2.2, hok.2.1, hok.2.2.1, hok.2.2.2⟩ hl)
      unfold outA
      simp [hf]
      exact ⟨by omega, hc.2.1, hc.2.2⟩
    · rename_i hc
      refine doA_no fun o _ e => ?_
      exfalso
      apply hc
      unfold outA at e
      simp only [hf] at e
      simp at e
      exact ⟨by have := e.1.1; omega, e.1.2.1, e.1.2.2⟩
theorem doA_wrong {fs : List FM} {a : AM} (h : (a.kind ≠ 1 ∧ a.text ≠ ⟨#[]⟩) ∨ (a.kind ≠ 3 ∧ a.to ≠ ⟨#[]⟩)) : doA fs a = none := by
  refine doA_no fun o ha _ => ?_
  exfalso
  rcases h with ⟨h1, h2⟩ | ⟨h1, h2⟩
  · exact h2 (ha.2.2 h1)
  · exact h2 (ha.2.1 h1)
theorem doA_kind {fs : List FM} {a : AM} (h : a.kind ≠ 1 ∧ a.kind ≠ 2 ∧ a.kind ≠ 3 ∧ a.kind ≠ 4) : doA fs a = none := by
  refine doA_no fun o _ e => ?_
  exfalso
  unfold outA at e
  rw [if_neg h.1] at e
  cases hf : fileOf fs a.name with
  | none => simp [hf] at e
  | some f => simp [hf, h.2.1, h.2.2.1, h.2.2.2] at e
theorem doAs_bad {fs : List FM} (h : ¬ DOk fs) (xs : List AM) : doAs fs xs = (fs, 0) := by
  cases xs with
  | nil => rfl
  | cons a xs =>
    have : doA fs a = none := by unfold doA; rw [if_neg (fun hc => h hc.1)]
    simp [doAs, this]
/-- So far all acts were true, and this is the disk. -/
def Ran (fs : List FM) (xs : List AM) (k : Nat) (o : List FM) : Prop := doAs fs xs = ((doAs o (xs.drop k)).1, (doAs o (xs.drop k)).2 + k)
theorem Ran.start (fs : List FM) (xs : List AM) : Ran fs xs 0 fs := by unfold Ran; simp
theorem Ran.step {fs : List FM} {xs : List AM} {k : Nat} {o o' : List FM} (h : Ran fs xs k o) (hk : k < xs.length) (e : doA o xs[k] = some o') : Ran fs xs (k + 1) o' := by
  unfold Ran at *
  rw [h, List.drop_eq_getElem_cons hk]
  simp only [doAs, e]
  congr 1
  omega
theorem Ran.stop {fs : List FM} {xs : List AM} {k : Nat} {o : List FM} (h : Ran fs xs k o) (hk : k < xs.length) (e : doA o xs[k] = none) : doAs fs xs = (o, k) := by
  unfold Ran at h
  rw [h, List.drop_eq_getElem_cons hk]
  simp [doAs, e]
theorem Ran.all {fs : List FM} {xs : List AM} {o : List FM} (h : Ran fs xs xs.length o) : doAs fs xs = (o, xs.length) := by
  unfold Ran at h
  rw [h, List.drop_length]
  simp [doAs]
end Go.Proofs.Ytonffkdlnhjjfaa
