/- Texts of ours, laid one behind the other: LawFnd. -/
import Derived.Test.YthfmjjaollekiaaGreatPf8
import Derived.Test.YthfmjjaollekiaaGreatPf3
import Derived.Test.YthfmjjaollekiaaGreatPf9
import Derived.Test.YthfmjjaollekiaaGreatPf5
import Derived.Test.YthfmjjaollekiaaGreatPf10
import Derived.Test.YthfmjjaollekiaaGreatPf11
import Derived.Test.YthfmjjaollekiaaGreatPf4
/- LawFnd: The walk of the law FnFinds: each node of a drawn tree is found by its path; kids ascend; who is below it has its path ahead (written by gen/mklawfnd.py). -/
namespace Go.Proofs.YthfmjjaollekiaaGreat
set_option maxRecDepth 100000
open Go.RowKit
attribute [local go_sem ↓] Go.wp_at_zero Go.wp_at_succ

theorem wf_small {x : Int} (h : 0 ≤ x ∧ x ≤ 1000000) : (Lit.int .i64 x).wf = true := by
  have h1 : IntKind.i64.min ≤ 0 := by decide
  have h2 : 1000000 ≤ IntKind.i64.max := by decide
  unfold Lit.wf
  simp
  omega
theorem tree_int {T : TM} (h : treeOk T = true) : NInt T.nodes := by
  have hp := TP.of h
  have hid : ∀ n ∈ T.nodes, 0 ≤ n.id ∧ n.id ≤ 1000000 := fun n hn => by have := hp.pos hn; have := hp.lt n hn; have := hp.nx; omega
  intro n hn
  refine ⟨wf_small (hid n hn), ?_⟩
  by_cases e : n.id = 1
  · rw [hp.one hn e]; exact wf_small (by omega)
  · obtain ⟨_, ⟨p, hpm, ep, _⟩, _⟩ := hp.rest n hn e
    rw [← ep]
    exact wf_small (hid p hpm)
theorem MB.less {w0 w : World} {p : Nat × List Value} {L : List (Nat × List Value)} (h : MB w0 w (p :: L)) : MB w0 w L := ⟨fun q hq => h.box q (List.mem_cons_of_mem _ hq), (List.pairwise_cons.1 h.dist).2, h.bel⟩
theorem newX_int : NInt newX.nodes := by
  intro n hn
  rw [List.mem_singleton.1 hn]
  exact ⟨wf_small (by decide), wf_small (by decide)⟩
theorem path_size9 {T : TM} (h : treeOk T = true) {n : NM} (hn : n ∈ T.nodes) : (pathX T n.id).size ≤ 1000 := by
  have hp := TP.of h
  obtain ⟨L, hL, hl⟩ := hp.way4 hn
  rw [path_is h hL hl]
  have e := congrArg Prod.snd (splitB_join (hp.way_names hL) (by simpa using hl))
  have := split_size (p := lb (joinB (L.map NM.name))) e
  have h9 : (lb (joinB (L.map NM.name))).length = (joinB (L.map NM.name)).size := rfl
  omega
theorem rise_at {L : List ByteArray} (h : Rise L) {j : Nat} (h1 : 1 ≤ j) (hj : j < L.length) : Op.bytesLess (L.getD (j - 1) ⟨#[]⟩).toList (L.getD j ⟨#[]⟩).toList = true := by
  have e1 : L.getD (j - 1) ⟨#[]⟩ = L[j - 1] := by simp [List.getD, show j - 1 < L.length by omega]
  have e2 : L.getD j ⟨#[]⟩ = L[j] := by simp [List.getD, hj]
  rw [Go.Proofs.bytesLess_eq, Go.ByteArray.toList_eq, Go.ByteArray.toList_eq, e1, e2, decide_eq_true_eq]
  exact List.pairwise_iff_getElem.1 h (j - 1) j (by omega) hj (by omega)
theorem inside_b {T : TM} (h : treeOk T = true) {n x : NM} (hn : n ∈ T.nodes) (hx : x ∈ T.nodes) : (belowX T x.id).contains n.id = ((pathX T n.id).toList == (pathX T x.id).toList || ((pathX T x.id).toList == [47] || decide (lb (pathX T x.id ++ ⟨#[47]⟩) <+: lb (pathX T n.id)))) := by
  have h1 := inside_is h hn hx
  have e : lb (pathX T x.id ++ ⟨#[47]⟩) = lb (pathX T x.id) ++ [47] := by simp [lb]
  rw [Bool.eq_iff_iff, e]
  simp only [List.contains_iff_mem, Bool.or_eq_true, decide_eq_true_eq, beq_iff_eq, Go.ByteArray.toList_eq]
  exact h1
theorem kids_bound (T : TM) : ∀ ns : List NM, 0 ≤ sm (fun x => ((kidsX T x.id).length : Int)) ns ∧ sm (fun x => ((kidsX T x.id).length : Int)) ns ≤ 14 * ns.length
  | [] => by simp [sm]
  | k :: ns => by
    have h1 := kids_bound T ns
    have h2 := kidsX_len T k.id
    simp only [sm, List.length_cons]
    push_cast
    omega
attribute [local irreducible] nodeOk treeOk atI belowX kidsX pathX findX sm
set_option maxRecDepth 100000 in
set_option maxHeartbeats 8000000 in
theorem finds_walk (a : Option Addr) (len cap : Nat) (w : World) (hcode : CodeAt w w.heap.size a len) :
    Calls Tryz.prog 3 #[.slice a len cap] w fun e w' => e = .returned (.bool true) ∧ Below w.heap.size w w' := by
  have hbig : decide ((1048576 : Int) < (len : Int)) = false := by have := hcode.1; simp; omega
  have HC : Hid (CodeAt w w.heap.size a len) := hcode
  clear hcode
  go_enter Tryz.func3, Tryz.ntmps3
  go_wp2_with fail
  refine (big_any a len cap _).mono ?_
  rintro e w1 ⟨rfl, hw1⟩
  obtain rfl : w = w1 := hw1.symm
  clear hw1
  rw [hbig]
  go_wp2_with fail
  refine (drawRightTree_any _ a len cap HC.out).mono ?_
  rintro e w1 ⟨v, es, rfl, hes, hpl, hta, hb1⟩
  have hok := drawn_ok es
  have hlow := drawn_low es hes
  have hnz := drawn_nz hpl
  generalize (allX newX es 1).1 = T at hta hok hlow hnz
  clear hpl hes hbig
  obtain ⟨a0, cp, rs, rfl, hr, hcp, hm⟩ := hta.see_form
  have hlen : rs.length = T.nodes.length := by rw [← hr, nds_len]
  have hpos : 0 < rs.length := by have := (tree_len hok).1; omega
  obtain ⟨b, off, rfl, lb, hnat⟩ := hm.nat hpos
  have hn14 : rs.length ≤ 14 := by have := (tree_len hok).2.1; omega
  have htree : ∀ W, Below w1.heap.size w1 W → TSee W (.agg #[.slice (some ⟨b, off, none⟩) rs.length cp, .int .i64 T.next]) T w.heap.size w1.heap.size := fun W hb => hta.see.below hb
  have hnode : ∀ j (hj : j < rs.length) (h2 : j < T.nodes.length), T.nodes[j] = rs[j].nd := fun j hj h2 => by
    have : (nds rs)[j]'(by rw [nds_len]; exact hj) = rs[j].nd := by simp [nds]
    rw [← this]
    congr 1
    exact hr.symm
  have HT := Shut.mk htree
  have HOK := Shut.mk hok
  have HLOW := Shut.mk hlow
  have HNZ := Shut.mk hnz
  have HND := Shut.mk hnode
  have HNAT := Shut.mk hnat
  have HB1 := Shut.mk hb1
  have HLEN := Shut.mk hlen
  obtain ⟨n, hn⟩ : ∃ n, n = rs.length := ⟨_, rfl⟩
  obtain ⟨nx, hnx⟩ : ∃ nx, nx = T.next := ⟨_, rfl⟩
  have HN := Shut.mk hn
  rw [← hn] at hn14 hpos HT HLEN ⊢
  rw [← hnx] at HT ⊢
  clear htree hok hlow hnz hnode hnat hb1 hlen hn hm hta hr hnx hcp
  have HFIT := Shut.mk (tree_fit HOK.out)
  have HINT := Shut.mk (tree_int HOK.out)
  have HZ := Shut.mk (TP.of HOK.out).nz
  have HTOK : Shut (∀ W, Below w1.heap.size w1 W → Calls Tryz.prog 14 #[.agg #[.slice (some ⟨b, off, none⟩) n cp, .int .i64 nx]] W fun e w' => e = .returned (.bool true) ∧ Below W.heap.size W w') := ⟨fun W hb => by have := implTreeOk W _ T _ _ (HT.out W hb) HFIT.out HINT.out; rw [HOK.out] at this; exact this⟩
  have HPTH : Shut (∀ W, Below w1.heap.size w1 W → ∀ c : Int, (0 ≤ c ∧ c ≤ 1000000) → Calls Tryz.prog 15 #[.agg #[.slice (some ⟨b, off, none⟩) n cp, .int .i64 nx], .int .i64 c] W fun e w' => e = .returned (.string (pathX T c)) ∧ Below W.heap.size W w') := ⟨fun W hb c hc => implPathOf W _ T _ _ c (HT.out W hb) HFIT.out HINT.out (wf_small hc)⟩
  have HPTS : Shut (∀ W, Below w1.heap.size w1 W → ∀ c : Int, Calls Tryz.prog 19 #[.agg #[.slice (some ⟨b, off, none⟩) n cp, .int .i64 nx], .int .i64 c] W fun e w' => e = .returned (.string (pathX T c)) ∧ Below W.heap.size W w') := ⟨fun W hb c => specPathOf c (HT.out W hb) HFIT.out⟩
  have HFND : Shut (∀ W, Below w1.heap.size w1 W → ∀ p : ByteArray, p.size ≤ 1048576 → Calls Tryz.prog 16 #[.agg #[.slice (some ⟨b, off, none⟩) n cp, .int .i64 nx], .string p] W fun e w' => e = .returned (.int .i64 (findX T p)) ∧ Below W.heap.size W w') := ⟨fun W hb p hp => implFindPath W _ T _ _ p (HT.out W hb) HFIT.out HINT.out HZ.out hp⟩
  have HKID : Shut (∀ W, Below w1.heap.size w1 W → ∀ c : Int, (0 ≤ c ∧ c ≤ 1000000) → Calls Tryz.prog 17 #[.agg #[.slice (some ⟨b, off, none⟩) n cp, .int .i64 nx], .int .i64 c] W fun e w' => SPost9 (kidsX T c) W e w') := ⟨fun W hb c hc => implKidsOf W _ T _ _ c (HT.out W hb) HFIT.out HINT.out (wf_small hc)⟩
  have HBLW : Shut (∀ W, Below w1.heap.size w1 W → ∀ c : Int, Calls Tryz.prog 18 #[.agg #[.slice (some ⟨b, off, none⟩) n cp, .int .i64 nx], .int .i64 c] W fun e w' => IPost (belowX T c) W e w') := ⟨fun W hb c => implBelowOf W _ T _ _ c (HT.out W hb) HFIT.out HINT.out⟩
  unfold SPost9 at HKID
  unfold IPost at HBLW
  go_upto_region 4 with fail
  obtain ⟨tb, htb⟩ : ∃ tb, tb = w1.heap.size := ⟨_, rfl⟩
  have HTB := Shut.mk htb
  refine wp_shade (fun W => MB w1 W [(tb, [.slice (some ⟨b, off, none⟩) n cp, .int .i64 nx])]) (by rw [htb]; exact (MB.nil w1).new #[.slice (some ⟨b, off, none⟩) n cp, .int .i64 nx] 26) ?_
  intro W2 hW2
  have HM := Shut.mk hW2
  have x0 := ((HM.out.at 0 rfl).1.2 0 _ rfl).1
  have x1 := ((HM.out.at 0 rfl).1.2 1 _ rfl).1
  rw [← htb]
  clear hW2 htb HC
  go_wp2_with (go_at_call 14; refine (HTOK.out _ HM.out.bel).mono ?_; rintro e w5 ⟨rfl, hb5⟩; replace HM := Shut.mk (HM.out.below hb5); clear hb5 x0 x1)
  go_loopw [4, 5] (fun kv iv wr => ∃ (k : Nat) (s : Int), kv = .int .i64 s ∧ iv = .int .i64 k ∧ k ≤ n ∧ Shut (s = sm (fun x => ((kidsX T x.id).length : Int)) (T.nodes.take k)) ∧ Shut (MB w1 wr [(tb, [.slice (some ⟨b, off, none⟩) n cp, .int .i64 nx])])) (fun _ iv _ => n - (intOf iv).toNat)
  case atStart => exact ⟨0, 0, rfl, rfl, Nat.zero_le _, ⟨by rw [List.take_zero]; unfold sm; rfl⟩, HM⟩
  case round =>
    clear HM
    obtain ⟨k, ks, rfl, rfl, hk, HKS, HM⟩ := hrel
    have x0 := ((HM.out.at 0 rfl).1.2 0 _ rfl).1
    have x1 := ((HM.out.at 0 rfl).1.2 1 _ rfl).1
    by_cases hlt : k < n
    case neg =>
      have k1 : ¬ (k : Int) < (n : Int) := by omega
      have hall : T.nodes.take k = T.nodes := List.take_of_length_le (by have := HLEN.out; omega)
      have hks : ks = (n : Int) - 1 := by rw [HKS.out, hall, kids_all HOK.out, ← HLEN.out]
      have hw9 : IntKind.i64.wrap ((n : Int) - 1) = (n : Int) - 1 := IntWalk.i64_in _ ⟨by omega, by omega⟩
      have hks' : (ks == (n : Int) - 1) = true := by simp [hks]
      have HF0 := Shut.mk (fun W hb => HFND.out W hb ⟨#[47, 122, 122]⟩ (by decide))
      rw [find_zz HOK.out HNZ.out] at HF0
      have HP0 := Shut.mk (fun W hb => HPTH.out W hb 99999 (by omega))
      rw [path_none (T := T) (id := 99999) (by omega) (fun m hm => by have := HLOW.out m hm; omega)] at HP0
      have hn0 : ((⟨#[]⟩ : ByteArray).toList == []) = true := by rw [Go.ByteArray.toList_eq]; rfl
      clear hks hall
      go_upto_region 30 with (go_at_call 22; refine (implTreeNew _).mono ?_; rintro e w6 hp6; obtain ⟨v6, rfl, hta6, hb6⟩ := hp6; obtain ⟨a6, c6, rs6, rfl, hr6, _, hm6⟩ := hta6.see_form; have HT6 : Shut (∀ W, Below w6.heap.size w6 W → TSee W (.agg #[.slice a6 rs6.length c6, .int .i64 newX.next]) newX _ _) := ⟨fun W hb => hta6.see.below hb⟩; replace HM := Shut.mk (HM.out.below hb6); have l6 : rs6.length = 1 := (by rw [← nds_len, hr6]; rfl); clear hb6 x0 x1 hta6 hm6 hr6)
      rw [l6] at HT6
      obtain ⟨nb, hnb⟩ : ∃ nb, nb = w6.heap.size := ⟨_, rfl⟩
      refine wp_shade (fun W => MB w1 W [(nb, [.slice a6 1 c6, .int .i64 newX.next]), (tb, [.slice (some ⟨b, off, none⟩) n cp, .int .i64 nx])] ∧ Below w6.heap.size w6 W) ⟨by rw [hnb]; exact HM.out.new #[.slice a6 1 c6, .int .i64 newX.next] 26, (Below.refl _ _).alloc (Nat.le_refl _) _⟩ ?_
      rintro W7 ⟨hM7, hb7⟩
      replace HM := Shut.mk hM7
      have HB7 := Shut.mk hb7
      rw [← hnb]
      clear hM7 hb7 hnb
      have x0 := ((HM.out.at 1 rfl).1.2 0 _ rfl).1
      have x1 := ((HM.out.at 1 rfl).1.2 1 _ rfl).1
      go_wp2_with (first
        | (go_at_call 16; refine (HF0.out _ HM.out.bel).mono ?_; rintro e w8 ⟨rfl, hb8⟩; replace HM := Shut.mk (HM.out.below hb8); replace HB7 := Shut.mk (HB7.out.trans (hb8.mono HB7.out.size)); clear hb8 x0 x1; have x0 := ((HM.out.at 1 rfl).1.2 0 _ rfl).1; have x1 := ((HM.out.at 1 rfl).1.2 1 _ rfl).1)
        | (go_at_call 15; refine (HP0.out _ HM.out.bel).mono ?_; rintro e w8 ⟨rfl, hb8⟩; replace HM := Shut.mk (HM.out.below hb8); replace HB7 := Shut.mk (HB7.out.trans (hb8.mono HB7.out.size)); clear hb8 x0 x1; have x0 := ((HM.out.at 0 rfl).1.2 0 _ rfl).1; have x1 := ((HM.out.at 0 rfl).1.2 1 _ rfl).1)
        | (go_at_call 14; refine (implTreeOk _ _ newX _ _ (HT6.out _ HB7.out) newX_fits newX_int).mono ?_; rintro e w8 ⟨rfl, hb8⟩; rw [newX_ok9]; replace HM := Shut.mk (HM.out.below hb8); clear hb8 x0 x1; have x0 := ((HM.out.at 0 rfl).1.2 0 _ rfl).1))
      go_ret
      exact ⟨rfl, HB1.out.trans (HM.out.bel.mono HB1.out.size)⟩
    case pos =>
    have hkr : k < rs.length := by have := HN.out; omega
    have k0 : (0 : Int) ≤ (k : Int) := by omega
    have k1 : (k : Int) < (n : Int) := by omega
    have hkT : k < T.nodes.length := by have := HLEN.out; omega
    have hnk := (HNAT.out k hkr).below HM.out.bel lb
    have hmem : rs[k].nd ∈ T.nodes := by rw [← HND.out k hkr hkT]; exact List.getElem_mem _
    have hst := sm_take (fun x => ((kidsX T x.id).length : Int)) T.nodes k hkT
    rw [HND.out k hkr hkT, ← HKS.out] at hst
    have hkb := kids_bound T (T.nodes.take k)
    rw [← HKS.out] at hkb
    have htl : (T.nodes.take k).length ≤ 14 := by rw [List.length_take]; omega
    obtain ⟨r, hrk⟩ : ∃ r, r = rs[k] := ⟨_, rfl⟩
    rw [← hrk] at hnk hmem hst
    obtain ⟨c0, c1, c2, c3, c4, c5, c6, c7, c8⟩ := hnk
    have hid : 0 ≤ r.nd.id ∧ r.nd.id ≤ 1000000 := by have := HLOW.out _ hmem; have := (TP.of HOK.out).pos hmem; omega
    have HIN := Shut.mk (fun q hq => inside_b (n := q) HOK.out hq hmem)
    have hfp := find_path HOK.out hmem
    have hps := path_size9 HOK.out hmem
    have HRI := Shut.mk (kids_rise HOK.out r.nd.id)
    have HP1 := Shut.mk (fun W hb => HPTH.out W hb r.nd.id hid)
    have HK1 := Shut.mk (fun W hb => HKID.out W hb r.nd.id hid)
    have HB2 := Shut.mk (fun W hb => HBLW.out W hb r.nd.id)
    have hkl := kidsX_len T r.nd.id
    have hbl := belowX_len T r.nd.id
    obtain ⟨K, hK⟩ : ∃ K, K = kidsX T r.nd.id := ⟨_, rfl⟩
    obtain ⟨Bw, hBw⟩ : ∃ Bw, Bw = belowX T r.nd.id := ⟨_, rfl⟩
    obtain ⟨p, hp⟩ : ∃ p, p = pathX T r.nd.id := ⟨_, rfl⟩
    rw [← hK] at HRI HK1 hkl hst
    rw [← hBw] at HB2 HIN hbl
    rw [← hp] at HP1 HIN hfp hps
    have HF1 := Shut.mk (fun W hb => HFND.out W hb p (by omega))
    rw [hfp] at HF1
    have HST := Shut.mk hst
    clear hmem hrk hst hK hBw hp hfp HKS
    obtain ⟨⟨id, parent, name, dir, schema, quota, ln, pieces, writer⟩, loc, pc⟩ := r
    dsimp only at *
    obtain ⟨pl, hpl⟩ : ∃ q, q = pieces.length := ⟨_, rfl⟩
    rw [← hpl] at c7
    clear hpl
    have e43 : (id != id) = false := by simp
    go_upto_region 11 with fail
    obtain ⟨xb, hxb⟩ : ∃ xb, xb = wr.heap.size := ⟨_, rfl⟩
    have HXB := Shut.mk hxb
    refine wp_shade (fun W => MB w1 W [(xb, [.int .i64 id, .int .i64 parent, .string name, .bool dir, .int .i64 schema, .int .i64 quota, .int .i64 ln, .slice loc pl pc, .int .i64 writer]), (tb, [.slice (some ⟨b, off, none⟩) n cp, .int .i64 nx])]) (by rw [hxb]; exact HM.out.new #[.int .i64 id, .int .i64 parent, .string name, .bool dir, .int .i64 schema, .int .i64 quota, .int .i64 ln, .slice loc pl pc, .int .i64 writer] 31) ?_
    intro W3 hW3
    have HM2 := Shut.mk hW3
    rw [← hxb]
    clear hW3 hxb x0 x1 c0 c1 c2 c3 c4 c5 c6 c7 c8 HM
    have x0 := ((HM2.out.at 1 rfl).1.2 0 _ rfl).1
    have x1 := ((HM2.out.at 1 rfl).1.2 1 _ rfl).1
    have y0 := ((HM2.out.at 0 rfl).1.2 0 _ rfl).1
    go_upto_region 12 with (go_at_call 15; refine (HP1.out _ HM2.out.bel).mono ?_; rintro e w5 ⟨rfl, hb5⟩; replace HM2 := Shut.mk (HM2.out.below hb5); clear hb5 x0 x1 y0)
    have HLE : Shut (∀ x, Later w5.drew x → x.cell? ⟨tb, 0, none⟩ = some (.slice (some ⟨b, off, none⟩) n cp) ∧ x.cell? ⟨tb, 1, none⟩ = some (.int .i64 nx) ∧ x.cell? ⟨xb, 0, none⟩ = some (.int .i64 id)) := ⟨fun x hx => by
      have M := HM2.out.below (Below.trans (Below.drew (Below.refl _ _)) hx)
      exact ⟨((M.at 1 rfl).1.2 0 _ rfl).1, ((M.at 1 rfl).1.2 1 _ rfl).1, ((M.at 0 rfl).1.2 0 _ rfl).1⟩⟩
    have HBX : Shut (∀ x, Later w5.drew x → Below w1.heap.size w1 x) := ⟨fun x hx => (HM2.out.below (Below.trans (Below.drew (Below.refl _ _)) hx)).bel⟩
    refine wp_region_later (by kernel_rfl) ?_
    refine wpL_val (i := 0) (v := ?va0) rfl (by kernel_rfl) (by kernel_rfl) (by kernel_rfl) (fun _ _ _ h => h) (by rfl) ?hya0 ?resta0
    case hya0 => (intro x hx; obtain ⟨d0, d1, d2⟩ := HLE.out x hx; go_simp; try with_reducible rfl)
    try simp only [Act.put, List.setIfInBounds_toArray, List.set_cons_zero, List.set_cons_succ]
    refine wpL_val (i := 1) (v := ?va1) rfl (by kernel_rfl) (by kernel_rfl) (by kernel_rfl) (fun _ _ _ h => h) (by rfl) ?hya1 ?resta1
    case hya1 => (intro x hx; obtain ⟨d0, d1, d2⟩ := HLE.out x hx; go_simp; try with_reducible rfl)
    try simp only [Act.put, List.setIfInBounds_toArray, List.set_cons_zero, List.set_cons_succ]
    refine wpL_call (i := 2) (v := .int .i64 id) (f := 16) (args := #[.agg #[.slice (some ⟨b, off, none⟩) n cp, .int .i64 nx], .string p]) rfl (by kernel_rfl) (by kernel_rfl) (by kernel_rfl) (fun _ _ _ h => h) (by rfl) ?hya2 (fun x hx => HF1.out x (HBX.out x hx)) ?resta2
    case hya2 => (intro x hx; obtain ⟨d0, d1, d2⟩ := HLE.out x hx; go_simp; try with_reducible rfl)
    try simp only [Act.put, List.setIfInBounds_toArray, List.set_cons_zero, List.set_cons_succ]
    refine wpL_val (i := 3) (v := ?va3) rfl (by kernel_rfl) (by kernel_rfl) (by kernel_rfl) (fun _ _ _ h => h) (by rfl) ?hya3 ?resta3
    case hya3 => (intro x hx; obtain ⟨d0, d1, d2⟩ := HLE.out x hx; go_simp; try with_reducible rfl)
    try simp only [Act.put, List.setIfInBounds_toArray, List.set_cons_zero, List.set_cons_succ]
    refine wpL_val (i := 4) (v := ?va4) rfl (by kernel_rfl) (by kernel_rfl) (by kernel_rfl) (fun _ _ _ h => h) (by rfl) ?hya4 ?resta4
    case hya4 => (intro x hx; obtain ⟨d0, d1, d2⟩ := HLE.out x hx; go_simp; try with_reducible rfl)
    try simp only [Act.put, List.setIfInBounds_toArray, List.set_cons_zero, List.set_cons_succ]
    refine wpL_val (i := 5) (v := ?va5) rfl (by kernel_rfl) (by kernel_rfl) (by kernel_rfl) (fun _ _ _ h => h) (by rfl) ?hya5 ?resta5
    case hya5 => (intro x hx; obtain ⟨d0, d1, d2⟩ := HLE.out x hx; go_simp; try with_reducible rfl)
    try simp only [Act.put, List.setIfInBounds_toArray, List.set_cons_zero, List.set_cons_succ]
    refine wpL_done (by kernel_rfl) ?_ _
    intro w6 hy
    replace HM2 := Shut.mk (HM2.out.below (Below.trans (Below.drew (Below.refl _ _)) hy))
    clear hy HLE HBX
    have x0 := ((HM2.out.at 1 rfl).1.2 0 _ rfl).1
    have x1 := ((HM2.out.at 1 rfl).1.2 1 _ rfl).1
    have y0 := ((HM2.out.at 0 rfl).1.2 0 _ rfl).1
    go_upto_region 15 with (go_at_call 17; refine (HK1.out _ HM2.out.bel).mono ?_; rintro e w7 ⟨kv, rfl, hka, hb7⟩; replace HM2 := Shut.mk (HM2.out.below hb7); have HKA := Shut.mk hka; clear hb7 hka x0 x1 y0)
    obtain ⟨ka, kc, rfl, hkc, hkrow⟩ := HKA.out
    have HKR := Shut.mk hkrow
    obtain ⟨m, hm⟩ : ∃ m, m = K.length := ⟨_, rfl⟩
    have HML := Shut.mk hm
    rw [← hm] at hkl HST ⊢
    clear hm hkrow HKA hkc HK1 HP1 HF1
    go_wp2_with fail
    go_loopw [9] (fun iv wr => ∃ j : Nat, iv = .int .i64 j ∧ 1 ≤ j ∧ j ≤ 1 + m ∧ Shut (Below w7.heap.size w7 wr)) (fun iv _ => 1 + m - (intOf iv).toNat)
    case atStart => exact ⟨1, rfl, Nat.le_refl _, by omega, ⟨Below.refl _ _⟩⟩
    case round =>
      obtain ⟨j, rfl, hj1, hj2, HW⟩ := hrel
      by_cases hjm : j < m
      case pos =>
        have hjK : j < K.length := by have := HML.out; omega
        have j0 : (0 : Int) ≤ (j : Int) := by omega
        have j1 : (j : Int) < (m : Int) := by omega
        have hw8 : IntKind.i64.wrap ((j : Int) - 1) = ((j - 1 : Nat) : Int) := by rw [IntWalk.i64_in _ ⟨by omega, by omega⟩]; omega
        have j3 : (0 : Int) ≤ ((j - 1 : Nat) : Int) := by omega
        have j4 : ((j - 1 : Nat) : Int) < (m : Int) := by omega
        have hlt2 := rise_at HRI.out hj1 hjK
        obtain ⟨g, rfl, lg1, lg2, hcl⟩ := HKR.out.resolve_left (fun e => by rw [e] at hjK; simp at hjK)
        have hcl2 := hcl.grow HW.out
        have d1 := (hcl2.2 j (.string (K.getD j ⟨#[]⟩)) (by simp [tv, List.getD, hjK])).1
        have d2 := (hcl2.2 (j - 1) (.string (K.getD (j - 1) ⟨#[]⟩)) (by simp [tv, List.getD, show j - 1 < K.length by omega])).1
        generalize K.getD (j - 1) ⟨#[]⟩ = s1 at d2 hlt2
        generalize K.getD j ⟨#[]⟩ = s2 at d1 hlt2
        clear hcl hcl2
        go_wp2_with fail
        go_quiet (fail)
        have HBQ : Shut (Below w7.heap.size w7 (wr.drewN nq)) := ⟨HW.out.trans ((Below.mono (B := (wr.drewN nq).heap.size) ⟨rfl, rfl, rfl, Nat.le_refl _, fun _ _ => rfl⟩ (Nat.le_refl _) : Below wr.heap.size wr (wr.drewN nq)).mono HW.out.size)⟩
        go_wp2_with fail
        go_roundw
        case rel => exact ⟨j + 1, by go_num, by omega, by omega, HBQ⟩
        case measure => simp [intOf]; omega
      case neg =>
      have j1 : ¬ (j : Int) < (m : Int) := by omega
      replace HM2 := Shut.mk (HM2.out.below HW.out)
      have x0 := ((HM2.out.at 1 rfl).1.2 0 _ rfl).1
      have x1 := ((HM2.out.at 1 rfl).1.2 1 _ rfl).1
      have y0 := ((HM2.out.at 0 rfl).1.2 0 _ rfl).1
      have hw7 : IntKind.i64.wrap (ks + (m : Int)) = ks + (m : Int) := IntWalk.i64_in _ ⟨by omega, by omega⟩
      clear HW HKR HRI
      go_upto_region 22 with (go_at_call 18; refine (HB2.out _ HM2.out.bel).mono ?_; rintro e w8 ⟨bv, rfl, hba, hb8⟩; replace HM2 := Shut.mk (HM2.out.below hb8); have HBA := Shut.mk hba; clear hb8 hba x0 x1 y0)
      obtain ⟨ba9, bc, rfl, hcr⟩ := HBA.out.crow
      clear hcr
      have HBC : Shut (∀ W, Below w8.heap.size w8 W → CRow W ba9 (ics Bw)) := ⟨fun W hb => by
        obtain ⟨a', c', e, h⟩ := (HBA.out.below hb).crow
        simp only [Value.slice.injEq] at e
        rw [e.1]
        exact h⟩
      obtain ⟨bm, hbm⟩ : ∃ bm, bm = Bw.length := ⟨_, rfl⟩
      have HBM := Shut.mk hbm
      rw [← hbm]
      clear hbm HBA HB2
      go_wp2_with fail
      go_loopw [11] (fun iv wr => ∃ j : Nat, iv = .int .i64 j ∧ j ≤ n ∧ Shut (MB w1 wr [(xb, [.int .i64 id, .int .i64 parent, .string name, .bool dir, .int .i64 schema, .int .i64 quota, .int .i64 ln, .slice loc pl pc, .int .i64 writer]), (tb, [.slice (some ⟨b, off, none⟩) n cp, .int .i64 nx])]) ∧ Shut (Below w8.heap.size w8 wr)) (fun iv _ => n - (intOf iv).toNat)
      case atStart => exact ⟨0, rfl, Nat.zero_le _, HM2, ⟨Below.refl _ _⟩⟩
      case round =>
        clear HM2
        obtain ⟨j, rfl, hj, HM2, HW⟩ := hrel
        have x0 := ((HM2.out.at 1 rfl).1.2 0 _ rfl).1
        have x1 := ((HM2.out.at 1 rfl).1.2 1 _ rfl).1
        by_cases hjn : j < n
        case neg =>
          have j1 : ¬ (j : Int) < (n : Int) := by omega
          go_wp2_with fail
          go_roundw
          case rel => exact ⟨k + 1, ks + m, by go_num, by go_num, by omega, ⟨by rw [HST.out]⟩, ⟨HM2.out.less⟩⟩
          case measure => simp [intOf]; omega
        case pos =>
        have hjr : j < rs.length := by have := HN.out; omega
        have j0 : (0 : Int) ≤ (j : Int) := by omega
        have j1 : (j : Int) < (n : Int) := by omega
        have hjT : j < T.nodes.length := by have := HLEN.out; omega
        have hmj : rs[j].nd ∈ T.nodes := by rw [← HND.out j hjr hjT]; exact List.getElem_mem _
        have hin := HIN.out _ hmj
        have HNJ := Shut.mk (fun W hb => (HNAT.out j hjr).below (w' := W) hb lb)
        obtain ⟨qi, hqi⟩ : ∃ qi, qi = rs[j].nd.id := ⟨_, rfl⟩
        have HQI := Shut.mk hqi
        have HPQ := Shut.mk (fun W hb => HPTS.out W hb qi)
        rw [← hqi] at hin
        obtain ⟨q, hq⟩ : ∃ q, q = pathX T qi := ⟨_, rfl⟩
        rw [← hq] at hin HPQ
        have HINB := Shut.mk hin
        clear hmj hin hqi hq
        go_upto_region 25 with fail
        have HLE : Shut (∀ x, Later wr.drew x → x.cell? ⟨tb, 0, none⟩ = some (.slice (some ⟨b, off, none⟩) n cp) ∧ x.cell? ⟨tb, 1, none⟩ = some (.int .i64 nx) ∧ x.cell? ⟨b, off + j * 9, none⟩ = some (.int .i64 qi)) := ⟨fun x hx => by
          have M := HM2.out.below (Below.trans (Below.drew (Below.refl _ _)) hx)
          have c := HNJ.out x M.bel
          exact ⟨((M.at 1 rfl).1.2 0 _ rfl).1, ((M.at 1 rfl).1.2 1 _ rfl).1, by rw [HQI.out]; exact c.1⟩⟩
        have HBX : Shut (∀ x, Later wr.drew x → Below w1.heap.size w1 x) := ⟨fun x hx => (HM2.out.below (Below.trans (Below.drew (Below.refl _ _)) hx)).bel⟩
        refine wp_region_later (by kernel_rfl) ?_
        refine wpL_val (i := 0) (v := ?vb0) rfl (by kernel_rfl) (by kernel_rfl) (by kernel_rfl) (fun _ _ _ h => h) (by rfl) ?hyb0 ?restb0
        case hyb0 => (intro x hx; obtain ⟨d0, d1, d2⟩ := HLE.out x hx; go_simp; try with_reducible rfl)
        try simp only [Act.put, List.setIfInBounds_toArray, List.set_cons_zero, List.set_cons_succ]
        refine wpL_val (i := 1) (v := ?vb1) rfl (by kernel_rfl) (by kernel_rfl) (by kernel_rfl) (fun _ _ _ h => h) (by rfl) ?hyb1 ?restb1
        case hyb1 => (intro x hx; obtain ⟨d0, d1, d2⟩ := HLE.out x hx; go_simp; try with_reducible rfl)
        try simp only [Act.put, List.setIfInBounds_toArray, List.set_cons_zero, List.set_cons_succ]
        refine wpL_val (i := 2) (v := ?vb2) rfl (by kernel_rfl) (by kernel_rfl) (by kernel_rfl) (fun _ _ _ h => h) (by rfl) ?hyb2 ?restb2
        case hyb2 => (intro x hx; obtain ⟨d0, d1, d2⟩ := HLE.out x hx; go_simp; try with_reducible rfl)
        try simp only [Act.put, List.setIfInBounds_toArray, List.set_cons_zero, List.set_cons_succ]
        refine wpL_val (i := 3) (v := ?vb3) rfl (by kernel_rfl) (by kernel_rfl) (by kernel_rfl) (fun _ _ _ h => h) (by rfl) ?hyb3 ?restb3
        case hyb3 => (intro x hx; obtain ⟨d0, d1, d2⟩ := HLE.out x hx; go_simp; try with_reducible rfl)
        try simp only [Act.put, List.setIfInBounds_toArray, List.set_cons_zero, List.set_cons_succ]
        refine wpL_val (i := 4) (v := ?vb4) rfl (by kernel_rfl) (by kernel_rfl) (by kernel_rfl) (fun _ _ _ h => h) (by rfl) ?hyb4 ?restb4
        case hyb4 => (intro x hx; obtain ⟨d0, d1, d2⟩ := HLE.out x hx; go_simp; try with_reducible rfl)
        try simp only [Act.put, List.setIfInBounds_toArray, List.set_cons_zero, List.set_cons_succ]
        refine wpL_val (i := 5) (v := ?vb5) rfl (by kernel_rfl) (by kernel_rfl) (by kernel_rfl) (fun _ _ _ h => h) (by rfl) ?hyb5 ?restb5
        case hyb5 => (intro x hx; obtain ⟨d0, d1, d2⟩ := HLE.out x hx; go_simp; try with_reducible rfl)
        try simp only [Act.put, List.setIfInBounds_toArray, List.set_cons_zero, List.set_cons_succ]
        refine wpL_val (i := 6) (v := ?vb6) rfl (by kernel_rfl) (by kernel_rfl) (by kernel_rfl) (fun _ _ _ h => h) (by rfl) ?hyb6 ?restb6
        case hyb6 => (intro x hx; obtain ⟨d0, d1, d2⟩ := HLE.out x hx; go_simp; try with_reducible rfl)
        try simp only [Act.put, List.setIfInBounds_toArray, List.set_cons_zero, List.set_cons_succ]
        refine wpL_call (i := 7) (v := .string q) (f := 19) (args := #[.agg #[.slice (some ⟨b, off, none⟩) n cp, .int .i64 nx], .int .i64 qi]) rfl (by kernel_rfl) (by kernel_rfl) (by kernel_rfl) (fun _ _ _ h => h) (by rfl) ?hyb7 (fun x hx => HPQ.out x (HBX.out x hx)) ?restb7
        case hyb7 => (intro x hx; obtain ⟨d0, d1, d2⟩ := HLE.out x hx; go_simp; try with_reducible rfl)
        try simp only [Act.put, List.setIfInBounds_toArray, List.set_cons_zero, List.set_cons_succ]
        refine wpL_val (i := 8) (v := ?vb8) rfl (by kernel_rfl) (by kernel_rfl) (by kernel_rfl) (fun _ _ _ h => h) (by rfl) ?hyb8 ?restb8
        case hyb8 => (intro x hx; obtain ⟨d0, d1, d2⟩ := HLE.out x hx; go_simp; try with_reducible rfl)
        try simp only [Act.put, List.setIfInBounds_toArray, List.set_cons_zero, List.set_cons_succ]
        refine wpL_done (by kernel_rfl) ?_ _
        intro w9 hy
        replace HW := Shut.mk (HW.out.trans ((Below.trans (Below.drew (Below.refl _ _)) hy : Below wr.heap.size wr w9).mono HW.out.size))
        replace HM2 := Shut.mk (HM2.out.below (Below.trans (Below.drew (Below.refl _ _)) hy))
        clear hy HLE HBX x0 x1
        have x0 := ((HM2.out.at 1 rfl).1.2 0 _ rfl).1
        have x1 := ((HM2.out.at 1 rfl).1.2 1 _ rfl).1
        have c0 := (HNJ.out w9 HM2.out.bel).1
        rw [← HQI.out] at c0
        have HIA := Shut.mk (in_any bc qi (HBC.out w9 HW.out) (by omega))
        rw [← HBM.out] at HIA
        have HBG := Shut.mk (fun W => begins_any (p ++ ⟨#[47]⟩) q W (by rw [ByteArray.size_append]; show p.size + 1 ≤ _; omega))
        obtain ⟨bb, hbb⟩ : ∃ bb, bb = decide (Go.Proofs.YthfmjjaollekiaaGreat.lb (p ++ ⟨#[47]⟩) <+: Go.Proofs.YthfmjjaollekiaaGreat.lb q) := ⟨_, rfl⟩
        obtain ⟨ii, hii⟩ : ∃ ii, ii = Bw.contains qi := ⟨_, rfl⟩
        have hall := HINB.out
        rw [← hbb, ← hii] at hall
        rw [← hbb] at HBG
        rw [← hii] at HIA
        clear hbb hii HINB
        cases e1 : (q.toList == p.toList) with
        | true =>
          rw [e1, Bool.true_or] at hall
          subst hall
          go_wp2_with (go_at_call 21; refine HIA.out.mono ?_; rintro e w10 ⟨rfl, hw10⟩; obtain rfl : w9 = w10 := hw10.symm; clear hw10)
          go_roundw
          case rel => exact ⟨j + 1, by go_num, by omega, HM2, HW⟩
          case measure => simp [intOf]; omega
        | false =>
          rw [e1, Bool.false_or] at hall
          cases e2 : (p.toList == [47]) with
          | true =>
            rw [e2, Bool.true_or] at hall
            subst hall
            go_wp2_with (go_at_call 21; refine HIA.out.mono ?_; rintro e w10 ⟨rfl, hw10⟩; obtain rfl : w9 = w10 := hw10.symm; clear hw10)
            go_roundw
            case rel => exact ⟨j + 1, by go_num, by omega, HM2, HW⟩
            case measure => simp [intOf]; omega
          | false =>
            rw [e2, Bool.false_or] at hall
            subst hall
            have e9 : (ii != ii) = false := by cases ii <;> rfl
            go_wp2_with (first
              | (go_at_call 20; refine (HBG.out _).mono ?_; rintro e w10 ⟨rfl, hw10⟩; obtain rfl : w9 = w10 := hw10.symm; clear hw10)
              | (go_at_call 21; refine HIA.out.mono ?_; rintro e w10 ⟨rfl, hw10⟩; obtain rfl : w9 = w10 := hw10.symm; clear hw10))
            go_roundw
            case rel => exact ⟨j + 1, by go_num, by omega, HM2, HW⟩
            case measure => simp [intOf]; omega
end Go.Proofs.YthfmjjaollekiaaGreat
