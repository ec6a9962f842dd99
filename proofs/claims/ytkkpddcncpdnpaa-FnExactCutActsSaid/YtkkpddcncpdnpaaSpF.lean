/- The model's walk: acts, one behind the other. -/
import Derived.Test.YtkkpddcncpdnpaaSpE
import Derived.Test.YtkkpddcncpdnpaaImD
import Derived.Deep.CutRange
import Derived.Deep.Cut
namespace Go.Proofs.Ytkkpddcncpdnpaa
open Go.RowKit
attribute [local go_sem ↓] Go.wp_at_zero Go.wp_at_succ

theorem one_fcs (fs : List FM) : ∀ u ∈ fcs fs, u.oneCell' = true := by
  intro u hu
  obtain ⟨f, _, h⟩ := List.mem_flatMap.1 hu
  simp [fcells] at h
  rcases h with rfl | rfl | rfl <;> rfl
/-- Through the call of an act. -/
def SA (w0 w : World) (q : Nat) (v : Value) (b o1 o2 o3 o4 : Nat) (x : AM) (L : List (Nat × List Value)) (R : List (Option Addr × List Value × Nat × Nat)) : Prop :=
  w.cell? ⟨q, 0, none⟩ = some v ∧ w.cell? ⟨b, o1, none⟩ = some (.int .i64 x.kind) ∧ w.cell? ⟨b, o2, none⟩ = some (.string x.name) ∧ w.cell? ⟨b, o3, none⟩ = some (.string x.text) ∧ w.cell? ⟨b, o4, none⟩ = some (.string x.to) ∧ Shut (Mem w0 w L R)
theorem SA.below {w0 w w' : World} {q : Nat} {v : Value} {b o1 o2 o3 o4 : Nat} {x : AM} {L : List (Nat × List Value)} {R : List (Option Addr × List Value × Nat × Nat)} (h : SA w0 w q v b o1 o2 o3 o4 x L R) (hb : Below w.heap.size w w') : SA w0 w' q v b o1 o2 o3 o4 x L R :=
  ⟨(hb.cell (p := ⟨q, 0, none⟩) (cell_lt h.1)).trans h.1, (hb.cell (p := ⟨b, o1, none⟩) (cell_lt h.2.1)).trans h.2.1, (hb.cell (p := ⟨b, o2, none⟩) (cell_lt h.2.2.1)).trans h.2.2.1, (hb.cell (p := ⟨b, o3, none⟩) (cell_lt h.2.2.2.1)).trans h.2.2.2.1, (hb.cell (p := ⟨b, o4, none⟩) (cell_lt h.2.2.2.2.1)).trans h.2.2.2.2.1, ⟨h.2.2.2.2.2.out.below hb⟩⟩
theorem SA.alloc {w0 w : World} {q : Nat} {v : Value} {b o1 o2 o3 o4 : Nat} {x : AM} {L : List (Nat × List Value)} {R : List (Option Addr × List Value × Nat × Nat)} (h : SA w0 w q v b o1 o2 o3 o4 x L R) (o : Obj) : SA w0 (w.alloc o) q v b o1 o2 o3 o4 x L R := h.below ((Below.refl _ _).alloc (Nat.le_refl _) o)
theorem Mem.setNew {w0 w : World} {L : List (Nat × List Value)} {R : List (Option Addr × List Value × Nat × Nat)} (M : Mem w0 w L R) (a : Addr) (u : Value) (h0 : w0.heap.size ≤ a.block) (hL : ∀ p ∈ L, p.1 ≠ a.block) (hR : ∀ r ∈ R, a.block < r.2.2.1 ∨ r.2.2.2 ≤ a.block) : Mem w0 (w.setCell a u) L R := by
  refine ⟨fun p hp => (M.cells p hp).other _ _ (hL p hp), fun r hr => ?_, M.low.setCell h0 u⟩
  rcases M.rows r hr with h | ⟨g, h1, h2, h3, h4⟩
  · exact .inl h
  · exact .inr ⟨g, h1, h2, h3, h4.other _ _ (by rcases hR r hr with h | h <;> omega)⟩
theorem SA.set {w0 w : World} {q : Nat} {v : Value} {b o1 o2 o3 o4 : Nat} {x : AM} {L : List (Nat × List Value)} {R : List (Option Addr × List Value × Nat × Nat)} {a : Addr} (h : SA w0 w q v b o1 o2 o3 o4 x L R) (u : Value) (h0 : w0.heap.size ≤ a.block) (h1 : a.block ≠ q) (h2 : a.block ≠ b) (hL : ∀ p ∈ L, p.1 ≠ a.block) (hR : ∀ r ∈ R, a.block < r.2.2.1 ∨ r.2.2.2 ≤ a.block) : SA w0 (w.setCell a u) q v b o1 o2 o3 o4 x L R := by
  have oth : ∀ c : Addr, a.block ≠ c.block → (w.setCell a u).cell? c = w.cell? c := fun c hc => World.cell?_of_block (Below.heap_setCell w a u c.block (fun e => hc e.symm))
  exact ⟨(oth _ h1).trans h.1, (oth _ h2).trans h.2.1, (oth _ h2).trans h.2.2.1, (oth _ h2).trans h.2.2.2.1, (oth _ h2).trans h.2.2.2.2.1, ⟨h.2.2.2.2.2.out.setNew a u h0 hL hR⟩⟩
theorem FRw.wide {w : World} {va : Option Addr} {X : List Value} {lo lo' hi : Nat} (h : FRw w va X lo hi) (hl : lo' ≤ lo) : FRw w va X lo' hi := by
  rcases h with h | ⟨g, h1, h2, h3, h4⟩
  · exact .inl h
  · exact .inr ⟨g, h1, by omega, h3, h4⟩
theorem Mem.wide {w0 w : World} {L : List (Nat × List Value)} {R : List (Option Addr × List Value × Nat × Nat)} {va : Option Addr} {X : List Value} {lo lo' hi : Nat} (M : Mem w0 w L ((va, X, lo, hi) :: R)) (hl : lo' ≤ lo) : Mem w0 w L ((va, X, lo', hi) :: R) := by
  refine ⟨M.cells, fun r hr => ?_, M.low⟩
  rcases List.mem_cons.1 hr with rfl | h
  · exact M.at0.wide hl
  · exact M.rows r (List.mem_cons_of_mem _ h)
theorem Mem.setBox {w0 w : World} {L : List (Nat × List Value)} {R : List (Option Addr × List Value × Nat × Nat)} (M : Mem w0 w L R) {g : Nat} {u : Value} (hg : WCells w g [u]) (v : Value) (h0 : w0.heap.size ≤ g) (hL : ∀ p ∈ L, p.1 ≠ g) (hR : ∀ r ∈ R, g < r.2.2.1 ∨ r.2.2.2 ≤ g) : Mem w0 (w.setCell ⟨g, 0, none⟩ v) ((g, [v]) :: L) R := by
  have M' := M.setNew ⟨g, 0, none⟩ v h0 hL hR
  refine ⟨fun p hp => ?_, M'.rows, M'.low⟩
  rcases List.mem_cons.1 hp with rfl | h
  · exact hg.set 0 v (by simp)
  · exact M'.cells p h
theorem SA.drew {w0 w : World} {q : Nat} {v : Value} {b o1 o2 o3 o4 : Nat} {x : AM} {L : List (Nat × List Value)} {R : List (Option Addr × List Value × Nat × Nat)} (h : SA w0 w q v b o1 o2 o3 o4 x L R) : SA w0 w.drew q v b o1 o2 o3 o4 x L R := ⟨h.1, h.2.1, h.2.2.1, h.2.2.2.1, h.2.2.2.2.1, ⟨h.2.2.2.2.2.out.drew⟩⟩
theorem SA.row {w0 w : World} {q : Nat} {v : Value} {b o1 o2 o3 o4 : Nat} {x : AM} {L : List (Nat × List Value)} {R : List (Option Addr × List Value × Nat × Nat)} {va : Option Addr} {X : List Value} {lo hi : Nat} (h : SA w0 w q v b o1 o2 o3 o4 x L ((va, X, lo, hi) :: R)) : CRow w va X := h.2.2.2.2.2.out.at0.crow
theorem specDoActR {fs : List FM} {x : AM} {r : Option (List FM)} (hr' : doA fs x = r) (a : Option Addr) (cap : Nat) (w : World) (hr : FRow w a fs) (hf : FFit fs) (hl : fs.length ≤ 1048576) (hn : x.name.size ≤ 9223372036854775807) (ht : x.text.size ≤ 1048576) (ho : x.to.size ≤ 9223372036854775807) :
    Calls Try.prog 18 #[.agg #[.slice a fs.length cap], av x] w fun e w' => DiskPost (r.getD []) (.bool r.isSome) w e w' := hr' ▸ specDoAct a fs x cap w hr hf hl hn ht ho
theorem fit_cur {fs cur : List FM} (hf : FFit fs) (hl : fs.length ≤ 1048576) (h : cur = fs ∨ DOk cur) : FFit cur ∧ cur.length ≤ 1048576 := by
  rcases h with rfl | h
  · exact ⟨hf, hl⟩
  · exact ⟨h.fit, by have := h.1; omega⟩
set_option maxHeartbeats 2000000 in
set_option maxRecDepth 100000 in
theorem specDoActs (g : Nat) (c : Option Addr) (fs : List FM) (xs : List AM) (cap capx : Nat) (w : World) (hg : WCells w g (fcs fs)) (hf : FFit fs) (hl : fs.length ≤ 1048576) (hx : ARow w c xs) (hxg : AGood xs) (hxl : xs.length ≤ 1048576) :
    Calls Try.prog 24 #[.agg #[.slice (some ⟨g, 0, none⟩) fs.length cap], .slice c xs.length capx] w fun e w' => DiskPost (doAs fs xs).1 (.int .i64 ((doAs fs xs).2 : Nat)) w e w' := by
  obtain ⟨i0, hi, hz0, hz1, hz2⟩ := info_parts infoFile
  have HF : Hid (FFit fs) := hf
  have HXR : Hid (ARow w c xs) := hx
  have HXG : Hid (AGood xs) := hxg
  have hgl := hg.1
  have m0 : Mem w w [] [] := ⟨by simp, by simp, Below.refl _ _⟩
  have m1 := (m0.box #[.slice (some ⟨g, 0, none⟩) fs.length cap] 29).box #[.slice none 0 0] 29
  have m2 := m1.alloc (.cells #[] 64)
  simp only [World.size_alloc] at m2
  have M2 : Shut (Mem w (((w.alloc (.cells #[.slice (some ⟨g, 0, none⟩) fs.length cap] 29)).alloc (.cells #[.slice none 0 0] 29)).alloc (.cells #[] 64)) [(w.heap.size + 1, [.slice none 0 0]), (w.heap.size, [.slice (some ⟨g, 0, none⟩) fs.length cap])] []) := ⟨m2⟩
  have hown0 : (((w.alloc (.cells #[.slice (some ⟨g, 0, none⟩) fs.length cap] 29)).alloc (.cells #[.slice none 0 0] 29)).alloc (.cells #[] 64)).ownsRow (w.heap.size + 2) 64 3 (.slice (some ⟨w.heap.size + 1 + 1, 0, none⟩) 0 0) 0 [] := by
    have := World.ownsRow_made (base := w.heap.size + 2) (e := 64) (size := 3) ((w.alloc (.cells #[.slice (some ⟨g, 0, none⟩) fs.length cap] 29)).alloc (.cells #[.slice none 0 0] 29)) #[] 0 (by simp) (by unfold maxLen; omega) (by simp)
    simpa using this
  have hsrc : ∀ j u, (fcs fs)[j]? = some u → (((w.alloc (.cells #[.slice (some ⟨g, 0, none⟩) fs.length cap] 29)).alloc (.cells #[.slice none 0 0] 29)).alloc (.cells #[] 64)).cell? ((⟨g, 0, none⟩ : Addr).add j) = some u := by
    intro j u hu
    have e : (⟨g, 0, none⟩ : Addr).add j = ⟨g, j, none⟩ := by cases j <;> simp [Addr.add]
    rw [e]
    exact ((((hg.alloc _).alloc _).alloc _).2 j u hu).1
  generalize hrr : doAs fs xs = rr
  have HRR : Hid (doAs fs xs = rr) := hrr
  clear hf hx hxg m0 m1 m2 hrr hg
  go_enter Try.func24, Try.ntmps24
  go_wp2_with (at_builtin; refine wpList_append_own _ rfl _ _ 27 rfl (w.heap.size + 2) 64 i0 _ 3 40 Try.underlying27 hi hz0 hz1 hz2 rfl (by decide) _ _ _ rfl hown0 ⟨g, 0, none⟩ fs.length cap (fcs fs) rfl (fcs_len fs) hsrc (one_fcs fs) (by unfold maxLen; omega) (by omega) (by simp) ?_; intro v3 w3 hown3 hg3 hn3; have hown4 : w3.ownsRow (w.heap.size + 2) 64 3 v3 fs.length (fcs fs) := (by simpa using hown3); obtain ⟨va3, vc3, rfl⟩ := own_form hown4; clear hown3)
  have hm3 : Mem w w3 [(w.heap.size + 1, [.slice none 0 0])] [(va3, fcs fs, w.heap.size + 2, w3.heap.size)] := by
    have h1 : Mem w w3 [(w.heap.size + 1, [.slice none 0 0])] [] := ((M2.out.less (L' := [(w.heap.size + 1, [.slice none 0 0])]) (R' := []) (by simp) (by simp)).grown hg3 (fun p hp g' e => by have := (hown0.lt g' e).1; simp at hp; subst hp; simp; omega) (by simp) (fun g' e => by have := (hown0.lt g' e).1; omega))
    refine h1.row ?_
    rcases (FRw.of_own hown4).1 with h | ⟨g', e1, e2, e3, e4⟩
    · exact .inl h
    · exact .inr ⟨g', e1, by omega, e3, e4⟩
  have hs3 : w.heap.size + 1 < w3.heap.size := hm3.lt0
  have hvc3 : fs.length ≤ vc3 := (FRw.of_own hown4).2
  have hm4 := hm3.box #[.slice va3 fs.length vc3] 29
  have HM4 : Shut (Mem w (w3.alloc (.cells #[.slice va3 fs.length vc3] 29)) [(w3.heap.size, [.slice va3 fs.length vc3]), (w.heap.size + 1, [.slice none 0 0])] [(va3, fcs fs, w.heap.size + 2, w3.heap.size)]) := ⟨hm4⟩
  clear hm3 hm4 hown4 hg3 M2 hown0 hsrc hn3
  go_loopw [7] (fun v wr => ∃ (k hi vc : Nat) (va : Option Addr) (cur : List FM), v = .int .i64 k ∧ k ≤ xs.length ∧ Shut (Ran fs xs k cur ∧ (cur = fs ∨ DOk cur)) ∧ cur.length ≤ vc ∧ hi ≤ wr.heap.size ∧ Shut (Mem w wr [(w3.heap.size, [.slice va cur.length vc]), (w.heap.size + 1, [.slice none 0 0])] [(va, fcs cur, w.heap.size + 2, hi)])) (fun v _ => xs.length - (intOf v).toNat)
  case atStart => exact ⟨0, w3.heap.size, vc3, va3, fs, rfl, Nat.zero_le _, ⟨Ran.start fs xs, .inl rfl⟩, hvc3, by simp, HM4⟩
  case round =>
    clear HM4 hvc3
    obtain ⟨k, hi', vc, va, cur, rfl, hk, hran, hvc, hhi, HM⟩ := hrel
    obtain ⟨hfit, hcl⟩ := fit_cur HF.out hl hran.out.2
    have HFC : Hid (FFit cur) := hfit
    clear hfit
    by_cases hlt : k < xs.length
    · obtain ⟨bx, off, rfl, lb, hc⟩ := ARow.at (HXR.out.stays HM.out.low) (by omega)
      have lb0 : bx < w.heap.size := by
        obtain ⟨b', o', e', l', _⟩ := ARow.at HXR.out (by omega)
        simp at e'; omega
      obtain ⟨d0, d1, d2, d3⟩ := hc k hlt
      have hgood := HXG.out xs[k] (List.getElem_mem hlt)
      have HST : Hid (∀ o, doA cur xs[k] = some o → Ran fs xs (k + 1) o) := fun o ho => hran.out.1.step hlt ho
      have HSP : Hid (doA cur xs[k] = none → doAs fs xs = (cur, k)) := fun ho => hran.out.1.stop hlt ho
      obtain ⟨x, hxe⟩ : ∃ x, x = xs[k] := ⟨_, rfl⟩
      rw [← hxe] at d0 d1 d2 d3 hgood HST HSP
      obtain ⟨g1, g2, g3⟩ := hgood
      have x0 := HM.out.cell0
      have hSA : Shut (SA w wr w3.heap.size (.slice va cur.length vc) bx (off + k * 4) (off + k * 4 + 1) (off + k * 4 + 2) (off + k * 4 + 3) x [(w3.heap.size, [.slice va cur.length vc]), (w.heap.size + 1, [.slice none 0 0])] [(va, fcs cur, w.heap.size + 2, hi')]) := ⟨⟨x0, d0, d1, d2, d3, HM⟩⟩
      have k0 : (0 : Int) ≤ (k : Int) := by omega
      have k1 : (k : Int) < (xs.length : Int) := by omega
      have hw3 := HM.out.lt0
      clear hxe hc hran HM
      generalize hre : doA cur x = r at HST HSP
      have HRE : Hid (doA cur x = r) := hre
      clear hre
      go_upto_region 5 with fail
      go_cut [8, 9] from 15 to 34 (fun u8 u9 wx => ∃ (nb hi2 vc' : Nat) (va' : Option Addr), u8 = .pointer (some ⟨nb, 0, none⟩) ∧ u9 = .bool r.isSome ∧ (r.getD []).length ≤ vc' ∧ hi2 ≤ wx.heap.size ∧ hi' ≤ wx.heap.size ∧ nb ≠ w3.heap.size ∧ Shut (Mem w wx [(nb, [.slice va' (r.getD []).length vc']), (w3.heap.size, [.slice va cur.length vc]), (w.heap.size + 1, [.slice none 0 0])] [(va', fcs (r.getD []), w3.heap.size + 1, hi2), (va, fcs cur, w.heap.size + 2, hi')]))
      case first =>
        go_region_held3 (fun w' => w'.cell? ⟨w3.heap.size, 0, none⟩ = some (.slice va cur.length vc) ∧ w'.cell? ⟨bx, off + k * 4, none⟩ = some (.int .i64 x.kind) ∧ w'.cell? ⟨bx, off + k * 4 + 1, none⟩ = some (.string x.name) ∧ w'.cell? ⟨bx, off + k * 4 + 2, none⟩ = some (.string x.text) ∧ w'.cell? ⟨bx, off + k * 4 + 3, none⟩ = some (.string x.to) ∧ Shut (Mem w w' [(w3.heap.size, [.slice va cur.length vc]), (w.heap.size + 1, [.slice none 0 0])] [(va, fcs cur, w.heap.size + 2, hi')]))
          (first | assumption | (exact SA.below (x := x) (by assumption) hb6) | (exact SA.alloc (x := x) hS6.out _) | (exact SA.alloc (x := x) (by assumption) _) | (exact hSA.out.drew) | (exact SA.set (x := x) hS6.out _ (by simp; omega) (by simp; omega) (by simp; omega) (by simp; omega) (by simp; omega)))
          (first
            | (go_at_call 18; refine (specDoActR (r := r) HRE.out va vc _ (SA.row (x := x) (by assumption)) HFC.out hcl g1 g2 g3).mono ?_; rintro e w6 ⟨va6, vc6, rfl, hf6, hc6, hb6⟩; have hS6 : Shut (SA w w6 w3.heap.size (.slice va cur.length vc) bx (off + k * 4) (off + k * 4 + 1) (off + k * 4 + 2) (off + k * 4 + 3) x [(w3.heap.size, [.slice va cur.length vc]), (w.heap.size + 1, [.slice none 0 0])] [(va, fcs cur, w.heap.size + 2, hi')]) := ⟨SA.below (x := x) (by assumption) hb6⟩; (try (have hz : w6.cell? ⟨wr.heap.size, 0, none⟩ = some (.slice none 0 0) ∧ w6.frozen? ⟨wr.heap.size, 0, none⟩ = false := (WCells.grow (w := wr.drew.alloc (.cells #[.slice none 0 0] 29)) (wcells_new wr.drew #[.slice none 0 0] 29) hb6).2 0 _ rfl; obtain ⟨z0, z1⟩ := hz; have hZ : Shut (WCells w6 wr.heap.size [.slice none 0 0]) := ⟨WCells.grow (w := wr.drew.alloc (.cells #[.slice none 0 0] 29)) (wcells_new wr.drew #[.slice none 0 0] 29) hb6⟩))))
        all_goals
          have hs6 := hb6.size
          simp at hs6
          go_wp2_with fail
          go_meet
        all_goals
          first
            | exact ⟨w6.heap.size, w6.heap.size, vc6, va6, rfl, rfl, hc6, by simp, by simp; omega, by omega, ⟨(hS6.out.2.2.2.2.2.out.row (hf6.wide (by simp; omega))).box #[.slice va6 (r.getD []).length vc6] 29⟩⟩
            | exact ⟨wr.heap.size, w6.heap.size, vc6, va6, rfl, rfl, hc6, by simp [World.setCell], by simp [World.setCell]; omega, by omega, ⟨((hS6.out.2.2.2.2.2.out.row hf6).setBox hZ.out _ (by omega) (by simp; omega) (by simp; omega)).wide (by simp; omega)⟩⟩
      case rest =>
        obtain ⟨nb, hi2, vc', va', rfl, rfl, hvc', hhi2, hhi3, hnb, HM⟩ := hcut
        have x9 := HM.out.cell0
        have y9 := HM.out.cells _ (List.mem_cons_of_mem _ (List.mem_cons_self ..))
        obtain ⟨y0, y1⟩ := y9.2 0 _ rfl
        have z9 := HM.out.cells _ (List.mem_cons_of_mem _ (List.mem_cons_of_mem _ (List.mem_cons_self ..)))
        obtain ⟨z0, z1⟩ := z9.2 0 _ rfl
        have hs9 := HM.out.lt1
        clear hSA x0 d0 d1 d2 d3 y9 z9
        cases r with
        | none =>
          have HEQ : Hid (rr = (cur, k)) := HRR.out.symm.trans (HSP.out rfl)
          have HM' : Shut (Mem w wc [(w3.heap.size, [.slice va cur.length vc]), (w.heap.size + 1, [.slice none 0 0])] [(va, fcs cur, w.heap.size + 2, hi')]) := ⟨HM.out.less (fun _ h => List.mem_cons_of_mem _ h) (fun _ h => List.mem_cons_of_mem _ h)⟩
          clear HM x9 y0 y1 z0 z1
          have HM := HM'
          clear HM'
          obtain ⟨qc, qf⟩ := (HM.out.cells _ (List.mem_cons_self ..)).2 0 _ rfl
          obtain ⟨yc, yf⟩ := (HM.out.cells _ (List.mem_cons_of_mem _ (List.mem_cons_self ..))).2 0 _ rfl
          go_wp2_with fail
          show bodyPost Try.prog Try.f24 _ Exit.ret _ _
          refine bodyPost_ret (v := .tuple #[.agg #[.slice va cur.length vc], .int .i64 (k : Nat)]) (by simp [results, Try.results24, go_sem, yc]) rfl ?_
          rw [HEQ.out]
          refine ⟨va, vc, rfl, ?_, hvc, HM.out.low.setCell (by simp) _⟩
          rcases HM.out.at0 with h | ⟨g', e1, e2, e3, e4⟩
          · exact .inl h
          · exact .inr ⟨g', e1, by omega, by have := e4.1; simp [World.setCell]; omega, e4.other _ _ (by simp; omega)⟩
        | some o =>
          have HOO : Shut (Ran fs xs (k + 1) o ∧ (o = fs ∨ DOk o)) := ⟨HST.out o rfl, .inr (doA_ok HRE.out)⟩
          have HM' : Shut (Mem w (wc.setCell ⟨w3.heap.size, 0, none⟩ (.slice va' o.length vc')) [(w3.heap.size, [.slice va' o.length vc']), (w.heap.size + 1, [.slice none 0 0])] [(va', fcs o, w.heap.size + 2, hi2)]) := ⟨(HM.out.less (L' := [(w.heap.size + 1, [.slice none 0 0])]) (R' := [(va', fcs o, w3.heap.size + 1, hi2)]) (by simp) (by simp)).setBox (HM.out.cells _ (List.mem_cons_of_mem _ (List.mem_cons_self ..))) _ (by omega) (by simp; omega) (by simp) |>.wide (by omega)⟩
          clear HM
          go_wp2_with fail
          go_roundw
          case rel => exact ⟨k + 1, hi2, vc', va', o, by go_num, by omega, HOO, hvc', by simpa [World.setCell] using hhi2, HM'⟩
          case measure => simp [intOf]; omega
    · have e : k = xs.length := by omega
      subst e
      have HEQ : Hid (rr = (cur, xs.length)) := HRR.out.symm.trans hran.out.1.all
      clear hran
      obtain ⟨qc, qf⟩ := (HM.out.cells _ (List.mem_cons_self ..)).2 0 _ rfl
      obtain ⟨yc, yf⟩ := (HM.out.cells _ (List.mem_cons_of_mem _ (List.mem_cons_self ..))).2 0 _ rfl
      go_wp2_with fail
      show bodyPost Try.prog Try.f24 _ Exit.ret _ _
      refine bodyPost_ret (v := .tuple #[.agg #[.slice va cur.length vc], .int .i64 (xs.length : Nat)]) (by simp [results, Try.results24, go_sem, yc]) rfl ?_
      rw [HEQ.out]
      refine ⟨va, vc, rfl, ?_, hvc, HM.out.low.setCell (by simp) _⟩
      rcases HM.out.at0 with h | ⟨g', e1, e2, e3, e4⟩
      · exact .inl h
      · exact .inr ⟨g', e1, by omega, by have := e4.1; simp [World.setCell]; omega, e4.other _ _ (by simp; omega)⟩
end Go.Proofs.Ytkkpddcncpdnpaa
