/- Texts of ours, laid one behind the other: LawUse. -/
import Derived.Test.YthfmjjaollekiaaPu7
import Derived.Test.YthfmjjaollekiaaPu8
import Derived.Test.YthfmjjaollekiaaPu9
import Derived.Test.YthfmjjaollekiaaPu4
/- LawUse: The walk of the law FnUses: what is used below a node of a drawn tree is the sum of what its kids use and its own; a schema is its own or that of its parent (written by gen/mklawuse.py). -/
namespace Go.Proofs.Ythfmjjaollekiaa
set_option maxRecDepth 100000
open Go.RowKit
attribute [local go_sem ↓] Go.wp_at_zero Go.wp_at_succ

theorem wf_small {x : Int} (h : 0 ≤ x ∧ x ≤ 1000000) : (Lit.int .i64 x).wf = true := by
  have h1 : IntKind.i64.min ≤ 0 := by decide
  have h2 : 1000000 ≤ IntKind.i64.max := by decide
  unfold Lit.wf
  simp
  omega
theorem tree_int {T : TM} (h : treeOk T = true) : NInt T.nodes := by
  have hp := TP.of h
  have hid : ∀ n ∈ T.nodes, 0 ≤ n.id ∧ n.id ≤ 1000000 := fun n hn => by have := hp.pos hn; have := hp.lt n hn; have := hp.nx; omega
  intro n hn
  refine ⟨wf_small (hid n hn), ?_⟩
  by_cases e : n.id = 1
  · rw [hp.one hn e]; exact wf_small (by omega)
  · obtain ⟨_, ⟨p, hpm, ep, _⟩, _⟩ := hp.rest n hn e
    rw [← ep]
    exact wf_small (hid p hpm)
theorem MB.less {w0 w : World} {p : Nat × List Value} {L : List (Nat × List Value)} (h : MB w0 w (p :: L)) : MB w0 w L := ⟨fun q hq => h.box q (List.mem_cons_of_mem _ hq), (List.pairwise_cons.1 h.dist).2, h.bel⟩
/-- A sum of what kids use is small. -/
theorem kids_small (T : TM) (x : Int) : ∀ ns : List NM, 0 ≤ sm (fun k => if k.parent = x then usedX T k.id else 0) ns ∧ sm (fun k => if k.parent = x then usedX T k.id else 0) ns ≤ 14000 * ns.length
  | [] => by simp [sm]
  | k :: ns => by
    have h1 := kids_small T x ns
    have h2 := usedX_le T k.id
    simp only [sm, List.length_cons]
    push_cast
    split <;> omega
attribute [local irreducible] nodeOk treeOk atI belowX usedX roomX schemaAtX sm
set_option maxRecDepth 100000 in
set_option maxHeartbeats 8000000 in
theorem uses_walk (a : Option Addr) (len cap : Nat) (w : World) (hcode : CodeAt w w.heap.size a len) :
    Calls Try.prog 3 #[.slice a len cap] w fun e w' => e = .returned (.bool true) ∧ Below w.heap.size w w' := by
  have hbig : decide ((1048576 : Int) < (len : Int)) = false := by have := hcode.1; simp; omega
  have HC : Hid (CodeAt w w.heap.size a len) := hcode
  clear hcode
  go_enter Try.func3, Try.ntmps3
  go_wp2_with fail
  refine (big_any a len cap _).mono ?_
  rintro e w1 ⟨rfl, hw1⟩
  obtain rfl : w = w1 := hw1.symm
  clear hw1
  rw [hbig]
  go_wp2_with fail
  refine (drawRightTree_any _ a len cap HC.out).mono ?_
  rintro e w1 ⟨v, es, rfl, hes, hpl, hta, hb1⟩
  have hok := drawn_ok es
  have hlow := drawn_low es hes
  generalize (allX newX es 1).1 = T at hta hok hlow
  clear hpl hes hbig
  obtain ⟨a0, cp, rs, rfl, hr, hcp, hm⟩ := hta.see_form
  have hlen : rs.length = T.nodes.length := by rw [← hr, nds_len]
  have hpos : 0 < rs.length := by have := (tree_len hok).1; omega
  obtain ⟨b, off, rfl, lb, hnat⟩ := hm.nat hpos
  have hn14 : rs.length ≤ 14 := by have := (tree_len hok).2.1; omega
  have htree : ∀ W, Below w1.heap.size w1 W → TSee W (.agg #[.slice (some ⟨b, off, none⟩) rs.length cp, .int .i64 T.next]) T w.heap.size w1.heap.size := fun W hb => hta.see.below hb
  have hnode : ∀ j (hj : j < rs.length) (h2 : j < T.nodes.length), T.nodes[j] = rs[j].nd := fun j hj h2 => by
    have : (nds rs)[j]'(by rw [nds_len]; exact hj) = rs[j].nd := by simp [nds]
    rw [← this]
    congr 1
    exact hr.symm
  have HT := Shut.mk htree
  have HOK := Shut.mk hok
  have HLOW := Shut.mk hlow
  have HND := Shut.mk hnode
  have HNAT := Shut.mk hnat
  have HB1 := Shut.mk hb1
  have HLEN := Shut.mk hlen
  obtain ⟨n, hn⟩ : ∃ n, n = rs.length := ⟨_, rfl⟩
  obtain ⟨nx, hnx⟩ : ∃ nx, nx = T.next := ⟨_, rfl⟩
  have HN := Shut.mk hn
  rw [← hn] at hn14 hpos HT HLEN ⊢
  rw [← hnx] at HT ⊢
  clear htree hok hlow hnode hnat hb1 hlen hn hm hta hr hnx hcp
  have HFIT := Shut.mk (tree_fit HOK.out)
  have HINT := Shut.mk (tree_int HOK.out)
  have HUSE : Shut (∀ W, Below w1.heap.size w1 W → ∀ c : Int, Calls Try.prog 7 #[.agg #[.slice (some ⟨b, off, none⟩) n cp, .int .i64 nx], .int .i64 c] W fun e w' => e = .returned (.int .i64 (usedX T c)) ∧ Below W.heap.size W w') := ⟨fun W hb c => implUsedBelow W _ T _ _ c (HT.out W hb) HFIT.out HINT.out⟩
  have HSCH : Shut (∀ W, Below w1.heap.size w1 W → ∀ c : Int, (0 ≤ c ∧ c ≤ 1000000) → Calls Try.prog 8 #[.agg #[.slice (some ⟨b, off, none⟩) n cp, .int .i64 nx], .int .i64 c] W fun e w' => e = .returned (.int .i64 (schemaAtX T c)) ∧ Below W.heap.size W w') := ⟨fun W hb c hc => implSchemaAt W _ T _ _ c (HT.out W hb) HFIT.out HINT.out (wf_small hc)⟩
  have HROM : Shut (∀ W, Below w1.heap.size w1 W → ∀ c m : Int, (0 ≤ c ∧ c ≤ 1000000) → (0 ≤ m ∧ m ≤ 1000000) → Calls Try.prog 10 #[.agg #[.slice (some ⟨b, off, none⟩) n cp, .int .i64 nx], .int .i64 c, .int .i64 m] W fun e w' => e = .returned (.bool (roomX T c m)) ∧ Below W.heap.size W w') := ⟨fun W hb c m hc hm => implRoomFor W _ T _ _ c m (HT.out W hb) HFIT.out HINT.out (wf_small hc)⟩
  have HROS : Shut (∀ W, Below w1.heap.size w1 W → ∀ c m : Int, Calls Try.prog 11 #[.agg #[.slice (some ⟨b, off, none⟩) n cp, .int .i64 nx], .int .i64 c, .int .i64 m] W fun e w' => e = .returned (.bool (roomX T c m)) ∧ Below W.heap.size W w') := ⟨fun W hb c m => specRoomFor c m (HT.out W hb) HFIT.out⟩
  have HC1 : Hid (CodeAt w1 w.heap.size a len) := HC.out.below HB1.out (Nat.le_refl _)
  go_upto_region 4 with fail
  obtain ⟨tb, htb⟩ : ∃ tb, tb = w1.heap.size := ⟨_, rfl⟩
  have HTB := Shut.mk htb
  refine wp_shade (fun W => MB w1 W [(tb, [.slice (some ⟨b, off, none⟩) n cp, .int .i64 nx])]) (by rw [htb]; exact (MB.nil w1).new #[.slice (some ⟨b, off, none⟩) n cp, .int .i64 nx] 26) ?_
  intro W2 hW2
  have HM := Shut.mk hW2
  rw [← htb]
  clear hW2 htb HC
  go_wp2_with fail
  go_loopw [4] (fun iv wr => ∃ k : Nat, iv = .int .i64 k ∧ k ≤ n ∧ Shut (MB w1 wr [(tb, [.slice (some ⟨b, off, none⟩) n cp, .int .i64 nx])])) (fun iv _ => n - (intOf iv).toNat)
  case atStart => exact ⟨0, rfl, Nat.zero_le _, HM⟩
  case round =>
    clear HM
    obtain ⟨k, rfl, hk, HM⟩ := hrel
    have x0 := ((HM.out.at 0 rfl).1.2 0 _ rfl).1
    have x1 := ((HM.out.at 0 rfl).1.2 1 _ rfl).1
    by_cases hlt : k < n
    case neg =>
      have k1 : ¬ (k : Int) < (n : Int) := by omega
      have s1 := schema_root HOK.out
      have HS1 := Shut.mk (fun W hb => HSCH.out W hb 1 (by omega))
      have u0 := used_none (T := T) (id := 99999) (fun m hm => by have := HLOW.out m hm; omega)
      have HU0 := Shut.mk (fun W hb => HUSE.out W hb 99999)
      have r0 := room_none (T := T) (id := 99999) (m := 0) (fun m hm => by have := HLOW.out m hm; omega)
      have HR0 := Shut.mk (fun W hb => HROM.out W hb 99999 0 (by omega) (by omega))
      rw [u0] at HU0
      rw [r0] at HR0
      obtain ⟨sc, hsc⟩ : ∃ q, q = schemaAtX T 1 := ⟨_, rfl⟩
      rw [← hsc] at HS1 s1
      clear hsc u0 r0
      go_wp2_with (first
        | (go_at_call 8; refine (HS1.out _ HM.out.bel).mono ?_; rintro e w5 ⟨rfl, hb5⟩; replace HM := Shut.mk (HM.out.below hb5); clear hb5 x0 x1; have x0 := ((HM.out.at 0 rfl).1.2 0 _ rfl).1; have x1 := ((HM.out.at 0 rfl).1.2 1 _ rfl).1)
        | (go_at_call 7; refine (HU0.out _ HM.out.bel).mono ?_; rintro e w6 ⟨rfl, hb6⟩; replace HM := Shut.mk (HM.out.below hb6); clear hb6 x0 x1; have x0 := ((HM.out.at 0 rfl).1.2 0 _ rfl).1; have x1 := ((HM.out.at 0 rfl).1.2 1 _ rfl).1)
        | (go_at_call 10; refine (HR0.out _ HM.out.bel).mono ?_; rintro e w7 ⟨rfl, hb7⟩; replace HM := Shut.mk (HM.out.below hb7); clear hb7 x0 x1))
      go_ret
      exact ⟨rfl, HB1.out.trans (HM.out.bel.mono HB1.out.size)⟩
    case pos =>
    have hkr : k < rs.length := by have := HN.out; omega
    have k0 : (0 : Int) ≤ (k : Int) := by omega
    have k1 : (k : Int) < (n : Int) := by omega
    have hnk := (HNAT.out k hkr).below HM.out.bel lb
    have hmem : rs[k].nd ∈ T.nodes := by rw [← HND.out k hkr (by have := HLEN.out; omega)]; exact List.getElem_mem _
    obtain ⟨r, hrk⟩ : ∃ r, r = rs[k] := ⟨_, rfl⟩
    rw [← hrk] at hnk hmem
    obtain ⟨c0, c1, c2, c3, c4, c5, c6, c7, c8⟩ := hnk
    have hid : 0 ≤ r.nd.id ∧ r.nd.id ≤ 1000000 := by have := HLOW.out _ hmem; have := (TP.of HOK.out).pos hmem; omega
    have hpar : 0 ≤ r.nd.parent ∧ r.nd.parent ≤ 1000000 := by
      have hp := TP.of HOK.out
      by_cases e : r.nd.id = 1
      · rw [hp.one hmem e]; omega
      · obtain ⟨_, ⟨p, hpm, ep, _⟩, _⟩ := hp.rest _ hmem e
        rw [← ep]
        have := HLOW.out p hpm; have := hp.pos hpm; omega
    have hquo : 0 ≤ r.nd.quota ∧ r.nd.quota ≤ 1000 ∧ 0 ≤ r.nd.len ∧ r.nd.len ≤ 1000 := by
      have hkd := (TP.of HOK.out).kind _ hmem
      split at hkd
      · unfold dirOk at hkd
        simp only [Bool.and_eq_true, inI_iff, beq_iff_eq] at hkd
        omega
      · have := fileOk_len hkd
        unfold fileOk at hkd
        simp only [Bool.and_eq_true, beq_iff_eq] at hkd
        omega
    have HSUM := Shut.mk (used_kids HOK.out hmem)
    have HOWN := Shut.mk (fun q => schema_own HOK.out hmem q)
    have HUP := Shut.mk (fun q => schema_up HOK.out hmem q)
    have HOV := Shut.mk (fun q => room_over HOK.out hmem q)
    have HRS : Shut (rs[k] = r) := ⟨hrk.symm⟩
    clear hmem hrk
    obtain ⟨⟨id, parent, name, dir, schema, quota, ln, pieces, writer⟩, loc, pc⟩ := r
    dsimp only at *
    obtain ⟨pl, hpl⟩ : ∃ q, q = pieces.length := ⟨_, rfl⟩
    rw [← hpl] at c7
    clear hpl
    go_upto_region 9 with fail
    obtain ⟨xb, hxb⟩ : ∃ xb, xb = wr.heap.size := ⟨_, rfl⟩
    have HXB := Shut.mk hxb
    refine wp_shade (fun W => MB w1 W [(xb, [.int .i64 id, .int .i64 parent, .string name, .bool dir, .int .i64 schema, .int .i64 quota, .int .i64 ln, .slice loc pl pc, .int .i64 writer]), (tb, [.slice (some ⟨b, off, none⟩) n cp, .int .i64 nx])]) (by rw [hxb]; exact HM.out.new #[.int .i64 id, .int .i64 parent, .string name, .bool dir, .int .i64 schema, .int .i64 quota, .int .i64 ln, .slice loc pl pc, .int .i64 writer] 30) ?_
    intro W3 hW3
    have HM2 := Shut.mk hW3
    rw [← hxb]
    clear hW3 hxb x0 x1 c0 c1 c2 c3 c4 c5 c6 c7 c8 HM
    go_wp2_with fail
    go_loopw [6, 7] (fun nv iv wx => ∃ (j : Nat) (s : Int), nv = .int .i64 s ∧ iv = .int .i64 j ∧ j ≤ n ∧ Shut (s = ln + sm (fun q => if q.parent = id then usedX T q.id else 0) (T.nodes.take j)) ∧ Shut (MB w1 wx [(xb, [.int .i64 id, .int .i64 parent, .string name, .bool dir, .int .i64 schema, .int .i64 quota, .int .i64 ln, .slice loc pl pc, .int .i64 writer]), (tb, [.slice (some ⟨b, off, none⟩) n cp, .int .i64 nx])])) (fun _ iv _ => n - (intOf iv).toNat)
    case atStart => exact ⟨0, ln, rfl, rfl, Nat.zero_le _, ⟨by rw [List.take_zero]; unfold sm; omega⟩, HM2⟩
    case round =>
      clear HM2
      obtain ⟨j, s, rfl, rfl, hj, HS, HM2⟩ := hrel
      have x0 := ((HM2.out.at 1 rfl).1.2 0 _ rfl).1
      have x1 := ((HM2.out.at 1 rfl).1.2 1 _ rfl).1
      have y0 := ((HM2.out.at 0 rfl).1.2 0 _ rfl).1
      by_cases hjlt : j < n
      case pos =>
        have hjr : j < rs.length := by have := HN.out; omega
        have j0 : (0 : Int) ≤ (j : Int) := by omega
        have j1 : (j : Int) < (n : Int) := by omega
        have hnj := (HNAT.out j hjr).below HM2.out.bel lb
        have hjT : j < T.nodes.length := by have := HLEN.out; omega
        have hst := sm_take (fun q => if q.parent = id then usedX T q.id else 0) T.nodes j hjT
        rw [HND.out j hjr hjT] at hst
        have hsm := kids_small T id (T.nodes.take j)
        have htl : (T.nodes.take j).length ≤ 14 := by rw [List.length_take]; omega
        have hs0 : 0 ≤ s ∧ s ≤ 1000000 := by rw [HS.out]; omega
        obtain ⟨d0, d1, -, -, -, -, -, -, -⟩ := hnj
        obtain ⟨q, hq⟩ : ∃ q, q = rs[j].nd := ⟨_, rfl⟩
        rw [← hq] at d0 d1 hst
        have HQ := Shut.mk hq
        have HST := Shut.mk hst
        clear hq hst hsm htl
        obtain ⟨qi, hqi⟩ : ∃ qi, qi = q.id := ⟨_, rfl⟩
        obtain ⟨qp, hqp⟩ : ∃ qp, qp = q.parent := ⟨_, rfl⟩
        have HQI : Shut (qi = rs[j].nd.id) := ⟨by rw [hqi, HQ.out]⟩
        rw [← hqi] at d0 HST
        rw [← hqp] at d1 HST
        clear hqi hqp
        by_cases hpe : qp = id
        case neg =>
          have hpe' : (qp == id) = false := by simp [hpe]
          have HS' : Shut (s = ln + sm (fun q => if q.parent = id then usedX T q.id else 0) (T.nodes.take (j + 1))) := ⟨by rw [HST.out, if_neg hpe, HS.out]; omega⟩
          go_wp2_with fail
          go_quiet (fail)
          have hbq : Below wr.heap.size wr (wr.drewN nq) := Below.mono (B := (wr.drewN nq).heap.size) ⟨rfl, rfl, rfl, Nat.le_refl _, fun _ _ => rfl⟩ (Nat.le_refl _)
          have HMQ := Shut.mk (HM2.out.below hbq)
          clear hbq
          go_wp2_with fail
          go_roundw
          case rel => exact ⟨j + 1, s, rfl, by go_num, by omega, HS', HMQ⟩
          case measure => simp [intOf]; omega
        case pos =>
          have hpe' : (qp == id) = true := by simp [hpe]
          obtain ⟨us, hus⟩ : ∃ us, us = usedX T qi := ⟨_, rfl⟩
          have HUS := Shut.mk (fun W hb => HUSE.out W hb qi)
          have hub := usedX_le T qi
          rw [← hus] at HUS HST hub
          have HS' : Shut (s + us = ln + sm (fun q => if q.parent = id then usedX T q.id else 0) (T.nodes.take (j + 1))) := ⟨by rw [HST.out, if_pos hpe, HS.out]; omega⟩
          have hw1 : IntKind.i64.wrap (s + us) = s + us := IntWalk.i64_in _ ⟨by omega, by omega⟩
          clear hus
          go_wp2_with fail
          go_quiet (fail)
          go_upto_region 13 with fail
          have hbq : Below wr.heap.size wr (wr.drewN nq) := Below.mono (B := (wr.drewN nq).heap.size) ⟨rfl, rfl, rfl, Nat.le_refl _, fun _ _ => rfl⟩ (Nat.le_refl _)
          have HMQ := Shut.mk (HM2.out.below hbq)
          generalize wr.drewN nq = wy at HMQ ⊢
          clear hbq x0 x1 y0 d0 d1
          have HLE : Shut (∀ x, Later wy.drew x → x.cell? ⟨tb, 0, none⟩ = some (.slice (some ⟨b, off, none⟩) n cp) ∧ x.cell? ⟨tb, 1, none⟩ = some (.int .i64 nx) ∧ x.cell? ⟨b, off + j * 9, none⟩ = some (.int .i64 qi)) := ⟨fun x hx => by
            have M := HMQ.out.below (Below.trans (Below.drew (Below.refl _ _)) hx)
            have c := (HNAT.out j hjr).below M.bel lb
            exact ⟨((M.at 1 rfl).1.2 0 _ rfl).1, ((M.at 1 rfl).1.2 1 _ rfl).1, by rw [HQI.out]; exact c.1⟩⟩
          have HBX : Shut (∀ x, Later wy.drew x → Below w1.heap.size w1 x) := ⟨fun x hx => (HMQ.out.below (Below.trans (Below.drew (Below.refl _ _)) hx)).bel⟩
          refine wp_region_later (by kernel_rfl) ?_
          refine wpL_val (i := 0) (v := ?va0) rfl (by kernel_rfl) (by kernel_rfl) (by kernel_rfl) (fun _ _ _ h => h) (by rfl) ?hya0 ?resta0
          case hya0 => (intro x hx; obtain ⟨d0, d1, d2⟩ := HLE.out x hx; go_simp; try with_reducible rfl)
          try simp only [Act.put, List.setIfInBounds_toArray, List.set_cons_zero, List.set_cons_succ]
          refine wpL_val (i := 1) (v := ?va1) rfl (by kernel_rfl) (by kernel_rfl) (by kernel_rfl) (fun _ _ _ h => h) (by rfl) ?hya1 ?resta1
          case hya1 => (intro x hx; obtain ⟨d0, d1, d2⟩ := HLE.out x hx; go_simp; try with_reducible rfl)
          try simp only [Act.put, List.setIfInBounds_toArray, List.set_cons_zero, List.set_cons_succ]
          refine wpL_val (i := 2) (v := ?va2) rfl (by kernel_rfl) (by kernel_rfl) (by kernel_rfl) (fun _ _ _ h => h) (by rfl) ?hya2 ?resta2
          case hya2 => (intro x hx; obtain ⟨d0, d1, d2⟩ := HLE.out x hx; go_simp; try with_reducible rfl)
          try simp only [Act.put, List.setIfInBounds_toArray, List.set_cons_zero, List.set_cons_succ]
          refine wpL_val (i := 3) (v := ?va3) rfl (by kernel_rfl) (by kernel_rfl) (by kernel_rfl) (fun _ _ _ h => h) (by rfl) ?hya3 ?resta3
          case hya3 => (intro x hx; obtain ⟨d0, d1, d2⟩ := HLE.out x hx; go_simp; try with_reducible rfl)
          try simp only [Act.put, List.setIfInBounds_toArray, List.set_cons_zero, List.set_cons_succ]
          refine wpL_val (i := 4) (v := ?va4) rfl (by kernel_rfl) (by kernel_rfl) (by kernel_rfl) (fun _ _ _ h => h) (by rfl) ?hya4 ?resta4
          case hya4 => (intro x hx; obtain ⟨d0, d1, d2⟩ := HLE.out x hx; go_simp; try with_reducible rfl)
          try simp only [Act.put, List.setIfInBounds_toArray, List.set_cons_zero, List.set_cons_succ]
          refine wpL_val (i := 5) (v := ?va5) rfl (by kernel_rfl) (by kernel_rfl) (by kernel_rfl) (fun _ _ _ h => h) (by rfl) ?hya5 ?resta5
          case hya5 => (intro x hx; obtain ⟨d0, d1, d2⟩ := HLE.out x hx; go_simp; try with_reducible rfl)
          try simp only [Act.put, List.setIfInBounds_toArray, List.set_cons_zero, List.set_cons_succ]
          refine wpL_val (i := 6) (v := ?va6) rfl (by kernel_rfl) (by kernel_rfl) (by kernel_rfl) (fun _ _ _ h => h) (by rfl) ?hya6 ?resta6
          case hya6 => (intro x hx; obtain ⟨d0, d1, d2⟩ := HLE.out x hx; go_simp; try with_reducible rfl)
          try simp only [Act.put, List.setIfInBounds_toArray, List.set_cons_zero, List.set_cons_succ]
          refine wpL_val (i := 7) (v := ?va7) rfl (by kernel_rfl) (by kernel_rfl) (by kernel_rfl) (fun _ _ _ h => h) (by rfl) ?hya7 ?resta7
          case hya7 => (intro x hx; obtain ⟨d0, d1, d2⟩ := HLE.out x hx; go_simp; try with_reducible rfl)
          try simp only [Act.put, List.setIfInBounds_toArray, List.set_cons_zero, List.set_cons_succ]
          refine wpL_call (i := 8) (v := .int .i64 us) (f := 7) (args := #[.agg #[.slice (some ⟨b, off, none⟩) n cp, .int .i64 nx], .int .i64 qi]) rfl (by kernel_rfl) (by kernel_rfl) (by kernel_rfl) (fun _ _ _ h => h) (by rfl) ?hya8 (fun x hx => HUS.out x (HBX.out x hx)) ?resta8
          case hya8 => (intro x hx; obtain ⟨d0, d1, d2⟩ := HLE.out x hx; go_simp; try with_reducible rfl)
          try simp only [Act.put, List.setIfInBounds_toArray, List.set_cons_zero, List.set_cons_succ]
          refine wpL_val (i := 9) (v := ?va9) rfl (by kernel_rfl) (by kernel_rfl) (by kernel_rfl) (fun _ _ _ h => h) (by rfl) ?hya9 ?resta9
          case hya9 => (intro x hx; obtain ⟨d0, d1, d2⟩ := HLE.out x hx; go_simp; try with_reducible rfl)
          try simp only [Act.put, List.setIfInBounds_toArray, List.set_cons_zero, List.set_cons_succ]
          refine wpL_val (i := 10) (v := ?va10) rfl (by kernel_rfl) (by kernel_rfl) (by kernel_rfl) (fun _ _ _ h => h) (by rfl) ?hya10 ?resta10
          case hya10 => (intro x hx; obtain ⟨d0, d1, d2⟩ := HLE.out x hx; go_simp; try with_reducible rfl)
          try simp only [Act.put, List.setIfInBounds_toArray, List.set_cons_zero, List.set_cons_succ]
          refine wpL_done (by kernel_rfl) ?_ _
          intro wz hy
          replace HMQ := Shut.mk (HMQ.out.below (Below.trans (Below.drew (Below.refl _ _)) hy))
          clear hy HLE HBX
          go_wp2_with fail
          go_roundw
          case rel => exact ⟨j + 1, s + us, rfl, by go_num, by omega, HS', HMQ⟩
          case measure => simp [intOf]; omega
      case neg =>
      have j1 : ¬ (j : Int) < (n : Int) := by omega
      have hall : T.nodes.take j = T.nodes := List.take_of_length_le (by have := HLEN.out; omega)
      have hsu : s = usedX T id := by rw [HS.out, hall]; exact HSUM.out
      have HUS := Shut.mk (fun W hb => HUSE.out W hb id)
      rw [← hsu] at HUS
      have e58 : (s != s) = false := by simp
      have HSI := Shut.mk (fun W hb => HSCH.out W hb id hid)
      have HSP := Shut.mk (fun W hb => HSCH.out W hb parent hpar)
      clear hall hsu HSUM HS
      go_upto_region 14 with fail
      have HLE : Shut (∀ x, Later wr.drew x → x.cell? ⟨tb, 0, none⟩ = some (.slice (some ⟨b, off, none⟩) n cp) ∧ x.cell? ⟨tb, 1, none⟩ = some (.int .i64 nx) ∧ x.cell? ⟨xb, 0, none⟩ = some (.int .i64 id) ∧ x.cell? ⟨xb, 1, none⟩ = some (.int .i64 parent) ∧ x.cell? ⟨xb, 4, none⟩ = some (.int .i64 schema)) := ⟨fun x hx => by
        have M := HM2.out.below (Below.trans (Below.drew (Below.refl _ _)) hx)
        exact ⟨((M.at 1 rfl).1.2 0 _ rfl).1, ((M.at 1 rfl).1.2 1 _ rfl).1, ((M.at 0 rfl).1.2 0 _ rfl).1, ((M.at 0 rfl).1.2 1 _ rfl).1, ((M.at 0 rfl).1.2 4 _ rfl).1⟩⟩
      have HBX : Shut (∀ x, Later wr.drew x → Below w1.heap.size w1 x) := ⟨fun x hx => (HM2.out.below (Below.trans (Below.drew (Below.refl _ _)) hx)).bel⟩
      go_cut [88] from 53 to 88 (fun bq wq => bq = .bool false ∧ Shut (MB w1 wq [(xb, [.int .i64 id, .int .i64 parent, .string name, .bool dir, .int .i64 schema, .int .i64 quota, .int .i64 ln, .slice loc pl pc, .int .i64 writer]), (tb, [.slice (some ⟨b, off, none⟩) n cp, .int .i64 nx])]))
      case first =>
        by_cases hs : schema = 0
        · have hs1 : (schema != 0) = false := by simp [hs]
          have hs2 : (schema == 0) = true := by simp [hs]
          have hup := HUP.out hs
          obtain ⟨sp, hsp⟩ : ∃ sp, sp = schemaAtX T parent := ⟨_, rfl⟩
          rw [hup, ← hsp] at HSI
          rw [← hsp] at HSP
          have e86 : (sp != sp) = false := by simp
          clear hup hsp hs
          refine wp_region_later (by kernel_rfl) ?_
          refine wpL_val (i := 0) (v := ?vb0) rfl (by kernel_rfl) (by kernel_rfl) (by kernel_rfl) (fun _ _ _ h => h) (by rfl) ?hyb0 ?restb0
          case hyb0 => (intro x hx; obtain ⟨d0, d1, d2, d3, d4⟩ := HLE.out x hx; go_simp; try with_reducible rfl)
          try simp only [Act.put, List.setIfInBounds_toArray, List.set_cons_zero, List.set_cons_succ]
          refine wpL_val (i := 1) (v := ?vb1) rfl (by kernel_rfl) (by kernel_rfl) (by kernel_rfl) (fun _ _ _ h => h) (by rfl) ?hyb1 ?restb1
          case hyb1 => (intro x hx; obtain ⟨d0, d1, d2, d3, d4⟩ := HLE.out x hx; go_simp; try with_reducible rfl)
          try simp only [Act.put, List.setIfInBounds_toArray, List.set_cons_zero, List.set_cons_succ]
          refine wpL_val (i := 2) (v := ?vb2) rfl (by kernel_rfl) (by kernel_rfl) (by kernel_rfl) (fun _ _ _ h => h) (by rfl) ?hyb2 ?restb2
          case hyb2 => (intro x hx; obtain ⟨d0, d1, d2, d3, d4⟩ := HLE.out x hx; go_simp; try with_reducible rfl)
          try simp only [Act.put, List.setIfInBounds_toArray, List.set_cons_zero, List.set_cons_succ]
          refine wpL_val (i := 3) (v := ?vb3) rfl (by kernel_rfl) (by kernel_rfl) (by kernel_rfl) (fun _ _ _ h => h) (by rfl) ?hyb3 ?restb3
          case hyb3 => (intro x hx; obtain ⟨d0, d1, d2, d3, d4⟩ := HLE.out x hx; go_simp; try with_reducible rfl)
          try simp only [Act.put, List.setIfInBounds_toArray, List.set_cons_zero, List.set_cons_succ]
          refine wpL_call (i := 4) (v := .int .i64 s) (f := 7) (args := #[.agg #[.slice (some ⟨b, off, none⟩) n cp, .int .i64 nx], .int .i64 id]) rfl (by kernel_rfl) (by kernel_rfl) (by kernel_rfl) (fun _ _ _ h => h) (by rfl) ?hyb4 (fun x hx => HUS.out x (HBX.out x hx)) ?restb4
          case hyb4 => (intro x hx; obtain ⟨d0, d1, d2, d3, d4⟩ := HLE.out x hx; go_simp; try with_reducible rfl)
          try simp only [Act.put, List.setIfInBounds_toArray, List.set_cons_zero, List.set_cons_succ]
          refine wpL_val (i := 5) (v := ?vb5) rfl (by kernel_rfl) (by kernel_rfl) (by kernel_rfl) (fun _ _ _ h => h) (by rfl) ?hyb5 ?restb5
          case hyb5 => (intro x hx; obtain ⟨d0, d1, d2, d3, d4⟩ := HLE.out x hx; go_simp; try with_reducible rfl)
          try simp only [Act.put, List.setIfInBounds_toArray, List.set_cons_zero, List.set_cons_succ]
          refine wpL_val (i := 6) (v := ?vb6) rfl (by kernel_rfl) (by kernel_rfl) (by kernel_rfl) (fun _ _ _ h => h) (by rfl) ?hyb6 ?restb6
          case hyb6 => (intro x hx; obtain ⟨d0, d1, d2, d3, d4⟩ := HLE.out x hx; go_simp; try with_reducible rfl)
          try simp only [Act.put, List.setIfInBounds_toArray, List.set_cons_zero, List.set_cons_succ]
          refine wpL_val (i := 7) (v := ?vb7) rfl (by kernel_rfl) (by kernel_rfl) (by kernel_rfl) (fun _ _ _ h => h) (by rfl) ?hyb7 ?restb7
          case hyb7 => (intro x hx; obtain ⟨d0, d1, d2, d3, d4⟩ := HLE.out x hx; go_simp; try with_reducible rfl)
          try simp only [Act.put, List.setIfInBounds_toArray, List.set_cons_zero, List.set_cons_succ]
          refine wpL_val (i := 8) (v := ?vb8) rfl (by kernel_rfl) (by kernel_rfl) (by kernel_rfl) (fun _ _ _ h => h) (by rfl) ?hyb8 ?restb8
          case hyb8 => (intro x hx; obtain ⟨d0, d1, d2, d3, d4⟩ := HLE.out x hx; go_simp; try with_reducible rfl)
          try simp only [Act.put, List.setIfInBounds_toArray, List.set_cons_zero, List.set_cons_succ]
          refine wpL_val (i := 9) (v := ?vb9) rfl (by kernel_rfl) (by kernel_rfl) (by kernel_rfl) (fun _ _ _ h => h) (by rfl) ?hyb9 ?restb9
          case hyb9 => (intro x hx; obtain ⟨d0, d1, d2, d3, d4⟩ := HLE.out x hx; go_simp; try with_reducible rfl)
          try simp only [Act.put, List.setIfInBounds_toArray, List.set_cons_zero, List.set_cons_succ]
          refine wpL_val (i := 10) (v := ?vb10) rfl (by kernel_rfl) (by kernel_rfl) (by kernel_rfl) (fun _ _ _ h => h) (by rfl) ?hyb10 ?restb10
          case hyb10 => (intro x hx; obtain ⟨d0, d1, d2, d3, d4⟩ := HLE.out x hx; go_simp; try with_reducible rfl)
          try simp only [Act.put, List.setIfInBounds_toArray, List.set_cons_zero, List.set_cons_succ]
          refine wpL_skip (i := 11) rfl (by kernel_rfl) (by kernel_rfl) (by kernel_rfl) (fun _ _ _ h => h) (by rfl) ?_
          try simp only [Act.put, List.setIfInBounds_toArray, List.set_cons_zero, List.set_cons_succ]
          refine wpL_skip (i := 12) rfl (by kernel_rfl) (by kernel_rfl) (by kernel_rfl) (fun _ _ _ h => h) (by rfl) ?_
          try simp only [Act.put, List.setIfInBounds_toArray, List.set_cons_zero, List.set_cons_succ]
          refine wpL_skip (i := 13) rfl (by kernel_rfl) (by kernel_rfl) (by kernel_rfl) (fun _ _ _ h => h) (by rfl) ?_
          try simp only [Act.put, List.setIfInBounds_toArray, List.set_cons_zero, List.set_cons_succ]
          refine wpL_skip (i := 14) rfl (by kernel_rfl) (by kernel_rfl) (by kernel_rfl) (fun _ _ _ h => h) (by rfl) ?_
          try simp only [Act.put, List.setIfInBounds_toArray, List.set_cons_zero, List.set_cons_succ]
          refine wpL_skip (i := 15) rfl (by kernel_rfl) (by kernel_rfl) (by kernel_rfl) (fun _ _ _ h => h) (by rfl) ?_
          try simp only [Act.put, List.setIfInBounds_toArray, List.set_cons_zero, List.set_cons_succ]
          refine wpL_skip (i := 16) rfl (by kernel_rfl) (by kernel_rfl) (by kernel_rfl) (fun _ _ _ h => h) (by rfl) ?_
          try simp only [Act.put, List.setIfInBounds_toArray, List.set_cons_zero, List.set_cons_succ]
          refine wpL_skip (i := 17) rfl (by kernel_rfl) (by kernel_rfl) (by kernel_rfl) (fun _ _ _ h => h) (by rfl) ?_
          try simp only [Act.put, List.setIfInBounds_toArray, List.set_cons_zero, List.set_cons_succ]
          refine wpL_val (i := 18) (v := ?vb18) rfl (by kernel_rfl) (by kernel_rfl) (by kernel_rfl) (fun _ _ _ h => h) (by rfl) ?hyb18 ?restb18
          case hyb18 => (intro x hx; obtain ⟨d0, d1, d2, d3, d4⟩ := HLE.out x hx; go_simp; try with_reducible rfl)
          try simp only [Act.put, List.setIfInBounds_toArray, List.set_cons_zero, List.set_cons_succ]
          refine wpL_val (i := 19) (v := ?vb19) rfl (by kernel_rfl) (by kernel_rfl) (by kernel_rfl) (fun _ _ _ h => h) (by rfl) ?hyb19 ?restb19
          case hyb19 => (intro x hx; obtain ⟨d0, d1, d2, d3, d4⟩ := HLE.out x hx; go_simp; try with_reducible rfl)
          try simp only [Act.put, List.setIfInBounds_toArray, List.set_cons_zero, List.set_cons_succ]
          refine wpL_val (i := 20) (v := ?vb20) rfl (by kernel_rfl) (by kernel_rfl) (by kernel_rfl) (fun _ _ _ h => h) (by rfl) ?hyb20 ?restb20
          case hyb20 => (intro x hx; obtain ⟨d0, d1, d2, d3, d4⟩ := HLE.out x hx; go_simp; try with_reducible rfl)
          try simp only [Act.put, List.setIfInBounds_toArray, List.set_cons_zero, List.set_cons_succ]
          refine wpL_val (i := 21) (v := ?vb21) rfl (by kernel_rfl) (by kernel_rfl) (by kernel_rfl) (fun _ _ _ h => h) (by rfl) ?hyb21 ?restb21
          case hyb21 => (intro x hx; obtain ⟨d0, d1, d2, d3, d4⟩ := HLE.out x hx; go_simp; try with_reducible rfl)
          try simp only [Act.put, List.setIfInBounds_toArray, List.set_cons_zero, List.set_cons_succ]
          refine wpL_val (i := 22) (v := ?vb22) rfl (by kernel_rfl) (by kernel_rfl) (by kernel_rfl) (fun _ _ _ h => h) (by rfl) ?hyb22 ?restb22
          case hyb22 => (intro x hx; obtain ⟨d0, d1, d2, d3, d4⟩ := HLE.out x hx; go_simp; try with_reducible rfl)
          try simp only [Act.put, List.setIfInBounds_toArray, List.set_cons_zero, List.set_cons_succ]
          refine wpL_val (i := 23) (v := ?vb23) rfl (by kernel_rfl) (by kernel_rfl) (by kernel_rfl) (fun _ _ _ h => h) (by rfl) ?hyb23 ?restb23
          case hyb23 => (intro x hx; obtain ⟨d0, d1, d2, d3, d4⟩ := HLE.out x hx; go_simp; try with_reducible rfl)
          try simp only [Act.put, List.setIfInBounds_toArray, List.set_cons_zero, List.set_cons_succ]
          refine wpL_val (i := 24) (v := ?vb24) rfl (by kernel_rfl) (by kernel_rfl) (by kernel_rfl) (fun _ _ _ h => h) (by rfl) ?hyb24 ?restb24
          case hyb24 => (intro x hx; obtain ⟨d0, d1, d2, d3, d4⟩ := HLE.out x hx; go_simp; try with_reducible rfl)
          try simp only [Act.put, List.setIfInBounds_toArray, List.set_cons_zero, List.set_cons_succ]
          refine wpL_val (i := 25) (v := ?vb25) rfl (by kernel_rfl) (by kernel_rfl) (by kernel_rfl) (fun _ _ _ h => h) (by rfl) ?hyb25 ?restb25
          case hyb25 => (intro x hx; obtain ⟨d0, d1, d2, d3, d4⟩ := HLE.out x hx; go_simp; try with_reducible rfl)
          try simp only [Act.put, List.setIfInBounds_toArray, List.set_cons_zero, List.set_cons_succ]
          refine wpL_val (i := 26) (v := ?vb26) rfl (by kernel_rfl) (by kernel_rfl) (by kernel_rfl) (fun _ _ _ h => h) (by rfl) ?hyb26 ?restb26
          case hyb26 => (intro x hx; obtain ⟨d0, d1, d2, d3, d4⟩ := HLE.out x hx; go_simp; try with_reducible rfl)
          try simp only [Act.put, List.setIfInBounds_toArray, List.set_cons_zero, List.set_cons_succ]
          refine wpL_val (i := 27) (v := ?vb27) rfl (by kernel_rfl) (by kernel_rfl) (by kernel_rfl) (fun _ _ _ h => h) (by rfl) ?hyb27 ?restb27
          case hyb27 => (intro x hx; obtain ⟨d0, d1, d2, d3, d4⟩ := HLE.out x hx; go_simp; try with_reducible rfl)
          try simp only [Act.put, List.setIfInBounds_toArray, List.set_cons_zero, List.set_cons_succ]
          refine wpL_call (i := 28) (v := .int .i64 sp) (f := 8) (args := #[.agg #[.slice (some ⟨b, off, none⟩) n cp, .int .i64 nx], .int .i64 id]) rfl (by kernel_rfl) (by kernel_rfl) (by kernel_rfl) (fun _ _ _ h => h) (by rfl) ?hyb28 (fun x hx => HSI.out x (HBX.out x hx)) ?restb28
          case hyb28 => (intro x hx; obtain ⟨d0, d1, d2, d3, d4⟩ := HLE.out x hx; go_simp; try with_reducible rfl)
          try simp only [Act.put, List.setIfInBounds_toArray, List.set_cons_zero, List.set_cons_succ]
          refine wpL_val (i := 29) (v := ?vb29) rfl (by kernel_rfl) (by kernel_rfl) (by kernel_rfl) (fun _ _ _ h => h) (by rfl) ?hyb29 ?restb29
          case hyb29 => (intro x hx; obtain ⟨d0, d1, d2, d3, d4⟩ := HLE.out x hx; go_simp; try with_reducible rfl)
          try simp only [Act.put, List.setIfInBounds_toArray, List.set_cons_zero, List.set_cons_succ]
          refine wpL_val (i := 30) (v := ?vb30) rfl (by kernel_rfl) (by kernel_rfl) (by kernel_rfl) (fun _ _ _ h => h) (by rfl) ?hyb30 ?restb30
          case hyb30 => (intro x hx; obtain ⟨d0, d1, d2, d3, d4⟩ := HLE.out x hx; go_simp; try with_reducible rfl)
          try simp only [Act.put, List.setIfInBounds_toArray, List.set_cons_zero, List.set_cons_succ]
          refine wpL_val (i := 31) (v := ?vb31) rfl (by kernel_rfl) (by kernel_rfl) (by kernel_rfl) (fun _ _ _ h => h) (by rfl) ?hyb31 ?restb31
          case hyb31 => (intro x hx; obtain ⟨d0, d1, d2, d3, d4⟩ := HLE.out x hx; go_simp; try with_reducible rfl)
          try simp only [Act.put, List.setIfInBounds_toArray, List.set_cons_zero, List.set_cons_succ]
          refine wpL_call (i := 32) (v := .int .i64 sp) (f := 8) (args := #[.agg #[.slice (some ⟨b, off, none⟩) n cp, .int .i64 nx], .int .i64 parent]) rfl (by kernel_rfl) (by kernel_rfl) (by kernel_rfl) (fun _ _ _ h => h) (by rfl) ?hyb32 (fun x hx => HSP.out x (HBX.out x hx)) ?restb32
          case hyb32 => (intro x hx; obtain ⟨d0, d1, d2, d3, d4⟩ := HLE.out x hx; go_simp; try with_reducible rfl)
          try simp only [Act.put, List.setIfInBounds_toArray, List.set_cons_zero, List.set_cons_succ]
          refine wpL_val (i := 33) (v := ?vb33) rfl (by kernel_rfl) (by kernel_rfl) (by kernel_rfl) (fun _ _ _ h => h) (by rfl) ?hyb33 ?restb33
          case hyb33 => (intro x hx; obtain ⟨d0, d1, d2, d3, d4⟩ := HLE.out x hx; go_simp; try with_reducible rfl)
          try simp only [Act.put, List.setIfInBounds_toArray, List.set_cons_zero, List.set_cons_succ]
          refine wpL_val (i := 34) (v := ?vb34) rfl (by kernel_rfl) (by kernel_rfl) (by kernel_rfl) (fun _ _ _ h => h) (by rfl) ?hyb34 ?restb34
          case hyb34 => (intro x hx; obtain ⟨d0, d1, d2, d3, d4⟩ := HLE.out x hx; go_simp; try with_reducible rfl)
          try simp only [Act.put, List.setIfInBounds_toArray, List.set_cons_zero, List.set_cons_succ]
          refine wpL_val (i := 35) (v := ?vb35) rfl (by kernel_rfl) (by kernel_rfl) (by kernel_rfl) (fun _ _ _ h => h) (by rfl) ?hyb35 ?restb35
          case hyb35 => (intro x hx; obtain ⟨d0, d1, d2, d3, d4⟩ := HLE.out x hx; go_simp; try with_reducible rfl)
          try simp only [Act.put, List.setIfInBounds_toArray, List.set_cons_zero, List.set_cons_succ]
          refine wpL_done (by kernel_rfl) ?_ _
          intro wz hy
          have HMZ := Shut.mk (HM2.out.below (Below.trans (Below.drew (Below.refl _ _)) hy))
          go_wp2_with fail
          go_meet
          case rel => exact ⟨rfl, HMZ⟩
        · have hs1 : (schema != 0) = true := by simp [hs]
          have hs2 : (schema == 0) = false := by simp [hs]
          have hown := HOWN.out hs
          rw [hown] at HSI
          have e70 : (schema != schema) = false := by simp
          clear hown hs
          refine wp_region_later (by kernel_rfl) ?_
          refine wpL_val (i := 0) (v := ?vc0) rfl (by kernel_rfl) (by kernel_rfl) (by kernel_rfl) (fun _ _ _ h => h) (by rfl) ?hyc0 ?restc0
          case hyc0 => (intro x hx; obtain ⟨d0, d1, d2, d3, d4⟩ := HLE.out x hx; go_simp; try with_reducible rfl)
          try simp only [Act.put, List.setIfInBounds_toArray, List.set_cons_zero, List.set_cons_succ]
          refine wpL_val (i := 1) (v := ?vc1) rfl (by kernel_rfl) (by kernel_rfl) (by kernel_rfl) (fun _ _ _ h => h) (by rfl) ?hyc1 ?restc1
          case hyc1 => (intro x hx; obtain ⟨d0, d1, d2, d3, d4⟩ := HLE.out x hx; go_simp; try with_reducible rfl)
          try simp only [Act.put, List.setIfInBounds_toArray, List.set_cons_zero, List.set_cons_succ]
          refine wpL_val (i := 2) (v := ?vc2) rfl (by kernel_rfl) (by kernel_rfl) (by kernel_rfl) (fun _ _ _ h => h) (by rfl) ?hyc2 ?restc2
          case hyc2 => (intro x hx; obtain ⟨d0, d1, d2, d3, d4⟩ := HLE.out x hx; go_simp; try with_reducible rfl)
          try simp only [Act.put, List.setIfInBounds_toArray, List.set_cons_zero, List.set_cons_succ]
          refine wpL_val (i := 3) (v := ?vc3) rfl (by kernel_rfl) (by kernel_rfl) (by kernel_rfl) (fun _ _ _ h => h) (by rfl) ?hyc3 ?restc3
          case hyc3 => (intro x hx; obtain ⟨d0, d1, d2, d3, d4⟩ := HLE.out x hx; go_simp; try with_reducible rfl)
          try simp only [Act.put, List.setIfInBounds_toArray, List.set_cons_zero, List.set_cons_succ]
          refine wpL_call (i := 4) (v := .int .i64 s) (f := 7) (args := #[.agg #[.slice (some ⟨b, off, none⟩) n cp, .int .i64 nx], .int .i64 id]) rfl (by kernel_rfl) (by kernel_rfl) (by kernel_rfl) (fun _ _ _ h => h) (by rfl) ?hyc4 (fun x hx => HUS.out x (HBX.out x hx)) ?restc4
          case hyc4 => (intro x hx; obtain ⟨d0, d1, d2, d3, d4⟩ := HLE.out x hx; go_simp; try with_reducible rfl)
          try simp only [Act.put, List.setIfInBounds_toArray, List.set_cons_zero, List.set_cons_succ]
          refine wpL_val (i := 5) (v := ?vc5) rfl (by kernel_rfl) (by kernel_rfl) (by kernel_rfl) (fun _ _ _ h => h) (by rfl) ?hyc5 ?restc5
          case hyc5 => (intro x hx; obtain ⟨d0, d1, d2, d3, d4⟩ := HLE.out x hx; go_simp; try with_reducible rfl)
          try simp only [Act.put, List.setIfInBounds_toArray, List.set_cons_zero, List.set_cons_succ]
          refine wpL_val (i := 6) (v := ?vc6) rfl (by kernel_rfl) (by kernel_rfl) (by kernel_rfl) (fun _ _ _ h => h) (by rfl) ?hyc6 ?restc6
          case hyc6 => (intro x hx; obtain ⟨d0, d1, d2, d3, d4⟩ := HLE.out x hx; go_simp; try with_reducible rfl)
          try simp only [Act.put, List.setIfInBounds_toArray, List.set_cons_zero, List.set_cons_succ]
          refine wpL_val (i := 7) (v := ?vc7) rfl (by kernel_rfl) (by kernel_rfl) (by kernel_rfl) (fun _ _ _ h => h) (by rfl) ?hyc7 ?restc7
          case hyc7 => (intro x hx; obtain ⟨d0, d1, d2, d3, d4⟩ := HLE.out x hx; go_simp; try with_reducible rfl)
          try simp only [Act.put, List.setIfInBounds_toArray, List.set_cons_zero, List.set_cons_succ]
          refine wpL_val (i := 8) (v := ?vc8) rfl (by kernel_rfl) (by kernel_rfl) (by kernel_rfl) (fun _ _ _ h => h) (by rfl) ?hyc8 ?restc8
          case hyc8 => (intro x hx; obtain ⟨d0, d1, d2, d3, d4⟩ := HLE.out x hx; go_simp; try with_reducible rfl)
          try simp only [Act.put, List.setIfInBounds_toArray, List.set_cons_zero, List.set_cons_succ]
          refine wpL_val (i := 9) (v := ?vc9) rfl (by kernel_rfl) (by kernel_rfl) (by kernel_rfl) (fun _ _ _ h => h) (by rfl) ?hyc9 ?restc9
          case hyc9 => (intro x hx; obtain ⟨d0, d1, d2, d3, d4⟩ := HLE.out x hx; go_simp; try with_reducible rfl)
          try simp only [Act.put, List.setIfInBounds_toArray, List.set_cons_zero, List.set_cons_succ]
          refine wpL_val (i := 10) (v := ?vc10) rfl (by kernel_rfl) (by kernel_rfl) (by kernel_rfl) (fun _ _ _ h => h) (by rfl) ?hyc10 ?restc10
          case hyc10 => (intro x hx; obtain ⟨d0, d1, d2, d3, d4⟩ := HLE.out x hx; go_simp; try with_reducible rfl)
          try simp only [Act.put, List.setIfInBounds_toArray, List.set_cons_zero, List.set_cons_succ]
          refine wpL_val (i := 11) (v := ?vc11) rfl (by kernel_rfl) (by kernel_rfl) (by kernel_rfl) (fun _ _ _ h => h) (by rfl) ?hyc11 ?restc11
          case hyc11 => (intro x hx; obtain ⟨d0, d1, d2, d3, d4⟩ := HLE.out x hx; go_simp; try with_reducible rfl)
          try simp only [Act.put, List.setIfInBounds_toArray, List.set_cons_zero, List.set_cons_succ]
          refine wpL_val (i := 12) (v := ?vc12) rfl (by kernel_rfl) (by kernel_rfl) (by kernel_rfl) (fun _ _ _ h => h) (by rfl) ?hyc12 ?restc12
          case hyc12 => (intro x hx; obtain ⟨d0, d1, d2, d3, d4⟩ := HLE.out x hx; go_simp; try with_reducible rfl)
          try simp only [Act.put, List.setIfInBounds_toArray, List.set_cons_zero, List.set_cons_succ]
          refine wpL_val (i := 13) (v := ?vc13) rfl (by kernel_rfl) (by kernel_rfl) (by kernel_rfl) (fun _ _ _ h => h) (by rfl) ?hyc13 ?restc13
          case hyc13 => (intro x hx; obtain ⟨d0, d1, d2, d3, d4⟩ := HLE.out x hx; go_simp; try with_reducible rfl)
          try simp only [Act.put, List.setIfInBounds_toArray, List.set_cons_zero, List.set_cons_succ]
          refine wpL_call (i := 14) (v := .int .i64 schema) (f := 8) (args := #[.agg #[.slice (some ⟨b, off, none⟩) n cp, .int .i64 nx], .int .i64 id]) rfl (by kernel_rfl) (by kernel_rfl) (by kernel_rfl) (fun _ _ _ h => h) (by rfl) ?hyc14 (fun x hx => HSI.out x (HBX.out x hx)) ?restc14
          case hyc14 => (intro x hx; obtain ⟨d0, d1, d2, d3, d4⟩ := HLE.out x hx; go_simp; try with_reducible rfl)
          try simp only [Act.put, List.setIfInBounds_toArray, List.set_cons_zero, List.set_cons_succ]
          refine wpL_val (i := 15) (v := ?vc15) rfl (by kernel_rfl) (by kernel_rfl) (by kernel_rfl) (fun _ _ _ h => h) (by rfl) ?hyc15 ?restc15
          case hyc15 => (intro x hx; obtain ⟨d0, d1, d2, d3, d4⟩ := HLE.out x hx; go_simp; try with_reducible rfl)
          try simp only [Act.put, List.setIfInBounds_toArray, List.set_cons_zero, List.set_cons_succ]
          refine wpL_val (i := 16) (v := ?vc16) rfl (by kernel_rfl) (by kernel_rfl) (by kernel_rfl) (fun _ _ _ h => h) (by rfl) ?hyc16 ?restc16
          case hyc16 => (intro x hx; obtain ⟨d0, d1, d2, d3, d4⟩ := HLE.out x hx; go_simp; try with_reducible rfl)
          try simp only [Act.put, List.setIfInBounds_toArray, List.set_cons_zero, List.set_cons_succ]
          refine wpL_val (i := 17) (v := ?vc17) rfl (by kernel_rfl) (by kernel_rfl) (by kernel_rfl) (fun _ _ _ h => h) (by rfl) ?hyc17 ?restc17
          case hyc17 => (intro x hx; obtain ⟨d0, d1, d2, d3, d4⟩ := HLE.out x hx; go_simp; try with_reducible rfl)
          try simp only [Act.put, List.setIfInBounds_toArray, List.set_cons_zero, List.set_cons_succ]
          refine wpL_val (i := 18) (v := ?vc18) rfl (by kernel_rfl) (by kernel_rfl) (by kernel_rfl) (fun _ _ _ h => h) (by rfl) ?hyc18 ?restc18
          case hyc18 => (intro x hx; obtain ⟨d0, d1, d2, d3, d4⟩ := HLE.out x hx; go_simp; try with_reducible rfl)
          try simp only [Act.put, List.setIfInBounds_toArray, List.set_cons_zero, List.set_cons_succ]
          refine wpL_val (i := 19) (v := ?vc19) rfl (by kernel_rfl) (by kernel_rfl) (by kernel_rfl) (fun _ _ _ h => h) (by rfl) ?hyc19 ?restc19
          case hyc19 => (intro x hx; obtain ⟨d0, d1, d2, d3, d4⟩ := HLE.out x hx; go_simp; try with_reducible rfl)
          try simp only [Act.put, List.setIfInBounds_toArray, List.set_cons_zero, List.set_cons_succ]
          refine wpL_val (i := 20) (v := ?vc20) rfl (by kernel_rfl) (by kernel_rfl) (by kernel_rfl) (fun _ _ _ h => h) (by rfl) ?hyc20 ?restc20
          case hyc20 => (intro x hx; obtain ⟨d0, d1, d2, d3, d4⟩ := HLE.out x hx; go_simp; try with_reducible rfl)
          try simp only [Act.put, List.setIfInBounds_toArray, List.set_cons_zero, List.set_cons_succ]
          refine wpL_val (i := 21) (v := ?vc21) rfl (by kernel_rfl) (by kernel_rfl) (by kernel_rfl) (fun _ _ _ h => h) (by rfl) ?hyc21 ?restc21
          case hyc21 => (intro x hx; obtain ⟨d0, d1, d2, d3, d4⟩ := HLE.out x hx; go_simp; try with_reducible rfl)
          try simp only [Act.put, List.setIfInBounds_toArray, List.set_cons_zero, List.set_cons_succ]
          refine wpL_val (i := 22) (v := ?vc22) rfl (by kernel_rfl) (by kernel_rfl) (by kernel_rfl) (fun _ _ _ h => h) (by rfl) ?hyc22 ?restc22
          case hyc22 => (intro x hx; obtain ⟨d0, d1, d2, d3, d4⟩ := HLE.out x hx; go_simp; try with_reducible rfl)
          try simp only [Act.put, List.setIfInBounds_toArray, List.set_cons_zero, List.set_cons_succ]
          refine wpL_val (i := 23) (v := ?vc23) rfl (by kernel_rfl) (by kernel_rfl) (by kernel_rfl) (fun _ _ _ h => h) (by rfl) ?hyc23 ?restc23
          case hyc23 => (intro x hx; obtain ⟨d0, d1, d2, d3, d4⟩ := HLE.out x hx; go_simp; try with_reducible rfl)
          try simp only [Act.put, List.setIfInBounds_toArray, List.set_cons_zero, List.set_cons_succ]
          refine wpL_val (i := 24) (v := ?vc24) rfl (by kernel_rfl) (by kernel_rfl) (by kernel_rfl) (fun _ _ _ h => h) (by rfl) ?hyc24 ?restc24
          case hyc24 => (intro x hx; obtain ⟨d0, d1, d2, d3, d4⟩ := HLE.out x hx; go_simp; try with_reducible rfl)
          try simp only [Act.put, List.setIfInBounds_toArray, List.set_cons_zero, List.set_cons_succ]
          refine wpL_skip (i := 25) rfl (by kernel_rfl) (by kernel_rfl) (by kernel_rfl) (fun _ _ _ h => h) (by rfl) ?_
          try simp only [Act.put, List.setIfInBounds_toArray, List.set_cons_zero, List.set_cons_succ]
          refine wpL_skip (i := 26) rfl (by kernel_rfl) (by kernel_rfl) (by kernel_rfl) (fun _ _ _ h => h) (by rfl) ?_
          try simp only [Act.put, List.setIfInBounds_toArray, List.set_cons_zero, List.set_cons_succ]
          refine wpL_skip (i := 27) rfl (by kernel_rfl) (by kernel_rfl) (by kernel_rfl) (fun _ _ _ h => h) (by rfl) ?_
          try simp only [Act.put, List.setIfInBounds_toArray, List.set_cons_zero, List.set_cons_succ]
          refine wpL_skip (i := 28) rfl (by kernel_rfl) (by kernel_rfl) (by kernel_rfl) (fun _ _ _ h => h) (by rfl) ?_
          try simp only [Act.put, List.setIfInBounds_toArray, List.set_cons_zero, List.set_cons_succ]
          refine wpL_skip (i := 29) rfl (by kernel_rfl) (by kernel_rfl) (by kernel_rfl) (fun _ _ _ h => h) (by rfl) ?_
          try simp only [Act.put, List.setIfInBounds_toArray, List.set_cons_zero, List.set_cons_succ]
          refine wpL_skip (i := 30) rfl (by kernel_rfl) (by kernel_rfl) (by kernel_rfl) (fun _ _ _ h => h) (by rfl) ?_
          try simp only [Act.put, List.setIfInBounds_toArray, List.set_cons_zero, List.set_cons_succ]
          refine wpL_skip (i := 31) rfl (by kernel_rfl) (by kernel_rfl) (by kernel_rfl) (fun _ _ _ h => h) (by rfl) ?_
          try simp only [Act.put, List.setIfInBounds_toArray, List.set_cons_zero, List.set_cons_succ]
          refine wpL_skip (i := 32) rfl (by kernel_rfl) (by kernel_rfl) (by kernel_rfl) (fun _ _ _ h => h) (by rfl) ?_
          try simp only [Act.put, List.setIfInBounds_toArray, List.set_cons_zero, List.set_cons_succ]
          refine wpL_skip (i := 33) rfl (by kernel_rfl) (by kernel_rfl) (by kernel_rfl) (fun _ _ _ h => h) (by rfl) ?_
          try simp only [Act.put, List.setIfInBounds_toArray, List.set_cons_zero, List.set_cons_succ]
          refine wpL_val (i := 34) (v := ?vc34) rfl (by kernel_rfl) (by kernel_rfl) (by kernel_rfl) (fun _ _ _ h => h) (by rfl) ?hyc34 ?restc34
          case hyc34 => (intro x hx; obtain ⟨d0, d1, d2, d3, d4⟩ := HLE.out x hx; go_simp; try with_reducible rfl)
          try simp only [Act.put, List.setIfInBounds_toArray, List.set_cons_zero, List.set_cons_succ]
          refine wpL_val (i := 35) (v := ?vc35) rfl (by kernel_rfl) (by kernel_rfl) (by kernel_rfl) (fun _ _ _ h => h) (by rfl) ?hyc35 ?restc35
          case hyc35 => (intro x hx; obtain ⟨d0, d1, d2, d3, d4⟩ := HLE.out x hx; go_simp; try with_reducible rfl)
          try simp only [Act.put, List.setIfInBounds_toArray, List.set_cons_zero, List.set_cons_succ]
          refine wpL_done (by kernel_rfl) ?_ _
          intro wz hy
          have HMZ := Shut.mk (HM2.out.below (Below.trans (Below.drew (Below.refl _ _)) hy))
          go_wp2_with fail
          go_meet
          case rel => exact ⟨rfl, HMZ⟩
      case rest =>
        obtain ⟨rfl, HM3⟩ := hcut
        clear HLE HBX HM2 x0 x1 y0 HSI HSP HUS HOWN HUP e58
        have HC2 : Hid (CodeAt wc wc.heap.size a len) := ⟨HC1.out.1, fun h => by obtain ⟨b, off, e1, e2, e3⟩ := (HC1.out.below HM3.out.bel (by have := HB1.out.size; omega)).2 h; exact ⟨b, off, e1, by have := HB1.out.size; have := HM3.out.bel.size; omega, e3⟩⟩
        go_wp2_with fail
        refine (drawPlaces_any _ a len cap HC2.out).mono ?_
        rintro e w4 ⟨gp, pcap, l, rfl, hgp, hgp2, hll, hlx, hcell, hb4⟩
        replace HM3 := Shut.mk (HM3.out.below hb4)
        have z0 := hcell 0 (by omega)
        have q0 := hlx (l.getD 0 0) (by simp [List.getD, show 0 < l.length by omega])
        generalize l.getD 0 0 = p at z0 q0
        obtain ⟨pn, rfl⟩ := Int.eq_ofNat_of_zero_le q0.1
        obtain ⟨pm, hpm⟩ : ∃ pm : Nat, pm = pn % 200 := ⟨_, rfl⟩
        have htmod : (pn : Int).tmod 200 = (pm : Int) := by rw [Int.tmod_eq_emod_of_nonneg (by omega), hpm]; push_cast; rfl
        have hpm2 : pm < 200 := by omega
        have HRI := Shut.mk (fun W hb => HROM.out W hb id pm hid (by omega))
        have HRP := Shut.mk (fun W hb => HROS.out W hb id pm)
        obtain ⟨rm, hrm⟩ : ∃ rm, rm = roomX T id pm := ⟨_, rfl⟩
        rw [← hrm] at HRI HRP
        have e104 : (rm != rm) = false := by cases rm <;> rfl
        clear hrm hpm HC2 hb4 hgp hgp2 hll hlx hcell
        go_upto_region 17 with fail
        clear z0 htmod
        have HLE : Shut (∀ x, Later w4.drew x → x.cell? ⟨tb, 0, none⟩ = some (.slice (some ⟨b, off, none⟩) n cp) ∧ x.cell? ⟨tb, 1, none⟩ = some (.int .i64 nx) ∧ x.cell? ⟨xb, 0, none⟩ = some (.int .i64 id) ∧ x.cell? ⟨xb, 5, none⟩ = some (.int .i64 quota)) := ⟨fun x hx => by
          have M := HM3.out.below (Below.trans (Below.drew (Below.refl _ _)) hx)
          exact ⟨((M.at 1 rfl).1.2 0 _ rfl).1, ((M.at 1 rfl).1.2 1 _ rfl).1, ((M.at 0 rfl).1.2 0 _ rfl).1, ((M.at 0 rfl).1.2 5 _ rfl).1⟩⟩
        have HBX : Shut (∀ x, Later w4.drew x → Below w1.heap.size w1 x) := ⟨fun x hx => (HM3.out.below (Below.trans (Below.drew (Below.refl _ _)) hx)).bel⟩
        go_cut [118] from 94 to 118 (fun bq wq => bq = .bool false ∧ Shut (MB w1 wq [(xb, [.int .i64 id, .int .i64 parent, .string name, .bool dir, .int .i64 schema, .int .i64 quota, .int .i64 ln, .slice loc pl pc, .int .i64 writer]), (tb, [.slice (some ⟨b, off, none⟩) n cp, .int .i64 nx])]))
        case first =>
          by_cases hq : 0 < quota
          · have hq1 : decide (0 < quota) = true := by simp [hq]
            have hov := HOV.out hq
            have HRO := Shut.mk (fun W hb => HROM.out W hb id (quota + 1) hid (by omega))
            rw [hov] at HRO
            have hw1 : IntKind.i64.wrap (quota + 1) = quota + 1 := IntWalk.i64_in _ ⟨by omega, by omega⟩
            clear hov
            refine wp_region_later (by kernel_rfl) ?_
            refine wpL_val (i := 0) (v := ?vd0) rfl (by kernel_rfl) (by kernel_rfl) (by kernel_rfl) (fun _ _ _ h => h) (by rfl) ?hyd0 ?restd0
            case hyd0 => (intro x hx; obtain ⟨d0, d1, d2, d3⟩ := HLE.out x hx; go_simp; try with_reducible rfl)
            try simp only [Act.put, List.setIfInBounds_toArray, List.set_cons_zero, List.set_cons_succ]
            refine wpL_val (i := 1) (v := ?vd1) rfl (by kernel_rfl) (by kernel_rfl) (by kernel_rfl) (fun _ _ _ h => h) (by rfl) ?hyd1 ?restd1
            case hyd1 => (intro x hx; obtain ⟨d0, d1, d2, d3⟩ := HLE.out x hx; go_simp; try with_reducible rfl)
            try simp only [Act.put, List.setIfInBounds_toArray, List.set_cons_zero, List.set_cons_succ]
            refine wpL_val (i := 2) (v := ?vd2) rfl (by kernel_rfl) (by kernel_rfl) (by kernel_rfl) (fun _ _ _ h => h) (by rfl) ?hyd2 ?restd2
            case hyd2 => (intro x hx; obtain ⟨d0, d1, d2, d3⟩ := HLE.out x hx; go_simp; try with_reducible rfl)
            try simp only [Act.put, List.setIfInBounds_toArray, List.set_cons_zero, List.set_cons_succ]
            refine wpL_val (i := 3) (v := ?vd3) rfl (by kernel_rfl) (by kernel_rfl) (by kernel_rfl) (fun _ _ _ h => h) (by rfl) ?hyd3 ?restd3
            case hyd3 => (intro x hx; obtain ⟨d0, d1, d2, d3⟩ := HLE.out x hx; go_simp; try with_reducible rfl)
            try simp only [Act.put, List.setIfInBounds_toArray, List.set_cons_zero, List.set_cons_succ]
            refine wpL_call (i := 4) (v := .bool rm) (f := 10) (args := #[.agg #[.slice (some ⟨b, off, none⟩) n cp, .int .i64 nx], .int .i64 id, .int .i64 (pm : Nat)]) rfl (by kernel_rfl) (by kernel_rfl) (by kernel_rfl) (fun _ _ _ h => h) (by rfl) ?hyd4 (fun x hx => HRI.out x (HBX.out x hx)) ?restd4
            case hyd4 => (intro x hx; obtain ⟨d0, d1, d2, d3⟩ := HLE.out x hx; go_simp; try with_reducible rfl)
            try simp only [Act.put, List.setIfInBounds_toArray, List.set_cons_zero, List.set_cons_succ]
            refine wpL_val (i := 5) (v := ?vd5) rfl (by kernel_rfl) (by kernel_rfl) (by kernel_rfl) (fun _ _ _ h => h) (by rfl) ?hyd5 ?restd5
            case hyd5 => (intro x hx; obtain ⟨d0, d1, d2, d3⟩ := HLE.out x hx; go_simp; try with_reducible rfl)
            try simp only [Act.put, List.setIfInBounds_toArray, List.set_cons_zero, List.set_cons_succ]
            refine wpL_val (i := 6) (v := ?vd6) rfl (by kernel_rfl) (by kernel_rfl) (by kernel_rfl) (fun _ _ _ h => h) (by rfl) ?hyd6 ?restd6
            case hyd6 => (intro x hx; obtain ⟨d0, d1, d2, d3⟩ := HLE.out x hx; go_simp; try with_reducible rfl)
            try simp only [Act.put, List.setIfInBounds_toArray, List.set_cons_zero, List.set_cons_succ]
            refine wpL_val (i := 7) (v := ?vd7) rfl (by kernel_rfl) (by kernel_rfl) (by kernel_rfl) (fun _ _ _ h => h) (by rfl) ?hyd7 ?restd7
            case hyd7 => (intro x hx; obtain ⟨d0, d1, d2, d3⟩ := HLE.out x hx; go_simp; try with_reducible rfl)
            try simp only [Act.put, List.setIfInBounds_toArray, List.set_cons_zero, List.set_cons_succ]
            refine wpL_val (i := 8) (v := ?vd8) rfl (by kernel_rfl) (by kernel_rfl) (by kernel_rfl) (fun _ _ _ h => h) (by rfl) ?hyd8 ?restd8
            case hyd8 => (intro x hx; obtain ⟨d0, d1, d2, d3⟩ := HLE.out x hx; go_simp; try with_reducible rfl)
            try simp only [Act.put, List.setIfInBounds_toArray, List.set_cons_zero, List.set_cons_succ]
            refine wpL_call (i := 9) (v := .bool rm) (f := 11) (args := #[.agg #[.slice (some ⟨b, off, none⟩) n cp, .int .i64 nx], .int .i64 id, .int .i64 (pm : Nat)]) rfl (by kernel_rfl) (by kernel_rfl) (by kernel_rfl) (fun _ _ _ h => h) (by rfl) ?hyd9 (fun x hx => HRP.out x (HBX.out x hx)) ?restd9
            case hyd9 => (intro x hx; obtain ⟨d0, d1, d2, d3⟩ := HLE.out x hx; go_simp; try with_reducible rfl)
            try simp only [Act.put, List.setIfInBounds_toArray, List.set_cons_zero, List.set_cons_succ]
            refine wpL_val (i := 10) (v := ?vd10) rfl (by kernel_rfl) (by kernel_rfl) (by kernel_rfl) (fun _ _ _ h => h) (by rfl) ?hyd10 ?restd10
            case hyd10 => (intro x hx; obtain ⟨d0, d1, d2, d3⟩ := HLE.out x hx; go_simp; try with_reducible rfl)
            try simp only [Act.put, List.setIfInBounds_toArray, List.set_cons_zero, List.set_cons_succ]
            refine wpL_val (i := 11) (v := ?vd11) rfl (by kernel_rfl) (by kernel_rfl) (by kernel_rfl) (fun _ _ _ h => h) (by rfl) ?hyd11 ?restd11
            case hyd11 => (intro x hx; obtain ⟨d0, d1, d2, d3⟩ := HLE.out x hx; go_simp; try with_reducible rfl)
            try simp only [Act.put, List.setIfInBounds_toArray, List.set_cons_zero, List.set_cons_succ]
            refine wpL_val (i := 12) (v := ?vd12) rfl (by kernel_rfl) (by kernel_rfl) (by kernel_rfl) (fun _ _ _ h => h) (by rfl) ?hyd12 ?restd12
            case hyd12 => (intro x hx; obtain ⟨d0, d1, d2, d3⟩ := HLE.out x hx; go_simp; try with_reducible rfl)
            try simp only [Act.put, List.setIfInBounds_toArray, List.set_cons_zero, List.set_cons_succ]
            refine wpL_val (i := 13) (v := ?vd13) rfl (by kernel_rfl) (by kernel_rfl) (by kernel_rfl) (fun _ _ _ h => h) (by rfl) ?hyd13 ?restd13
            case hyd13 => (intro x hx; obtain ⟨d0, d1, d2, d3⟩ := HLE.out x hx; go_simp; try with_reducible rfl)
            try simp only [Act.put, List.setIfInBounds_toArray, List.set_cons_zero, List.set_cons_succ]
            refine wpL_val (i := 14) (v := ?vd14) rfl (by kernel_rfl) (by kernel_rfl) (by kernel_rfl) (fun _ _ _ h => h) (by rfl) ?hyd14 ?restd14
            case hyd14 => (intro x hx; obtain ⟨d0, d1, d2, d3⟩ := HLE.out x hx; go_simp; try with_reducible rfl)
            try simp only [Act.put, List.setIfInBounds_toArray, List.set_cons_zero, List.set_cons_succ]
            refine wpL_val (i := 15) (v := ?vd15) rfl (by kernel_rfl) (by kernel_rfl) (by kernel_rfl) (fun _ _ _ h => h) (by rfl) ?hyd15 ?restd15
            case hyd15 => (intro x hx; obtain ⟨d0, d1, d2, d3⟩ := HLE.out x hx; go_simp; try with_reducible rfl)
            try simp only [Act.put, List.setIfInBounds_toArray, List.set_cons_zero, List.set_cons_succ]
            refine wpL_val (i := 16) (v := ?vd16) rfl (by kernel_rfl) (by kernel_rfl) (by kernel_rfl) (fun _ _ _ h => h) (by rfl) ?hyd16 ?restd16
            case hyd16 => (intro x hx; obtain ⟨d0, d1, d2, d3⟩ := HLE.out x hx; go_simp; try with_reducible rfl)
            try simp only [Act.put, List.setIfInBounds_toArray, List.set_cons_zero, List.set_cons_succ]
            refine wpL_val (i := 17) (v := ?vd17) rfl (by kernel_rfl) (by kernel_rfl) (by kernel_rfl) (fun _ _ _ h => h) (by rfl) ?hyd17 ?restd17
            case hyd17 => (intro x hx; obtain ⟨d0, d1, d2, d3⟩ := HLE.out x hx; go_simp; try with_reducible rfl)
            try simp only [Act.put, List.setIfInBounds_toArray, List.set_cons_zero, List.set_cons_succ]
            refine wpL_val (i := 18) (v := ?vd18) rfl (by kernel_rfl) (by kernel_rfl) (by kernel_rfl) (fun _ _ _ h => h) (by rfl) ?hyd18 ?restd18
            case hyd18 => (intro x hx; obtain ⟨d0, d1, d2, d3⟩ := HLE.out x hx; go_simp; try with_reducible rfl)
            try simp only [Act.put, List.setIfInBounds_toArray, List.set_cons_zero, List.set_cons_succ]
            refine wpL_val (i := 19) (v := ?vd19) rfl (by kernel_rfl) (by kernel_rfl) (by kernel_rfl) (fun _ _ _ h => h) (by rfl) ?hyd19 ?restd19
            case hyd19 => (intro x hx; obtain ⟨d0, d1, d2, d3⟩ := HLE.out x hx; go_simp; try with_reducible rfl)
            try simp only [Act.put, List.setIfInBounds_toArray, List.set_cons_zero, List.set_cons_succ]
            refine wpL_val (i := 20) (v := ?vd20) rfl (by kernel_rfl) (by kernel_rfl) (by kernel_rfl) (fun _ _ _ h => h) (by rfl) ?hyd20 ?restd20
            case hyd20 => (intro x hx; obtain ⟨d0, d1, d2, d3⟩ := HLE.out x hx; go_simp; try with_reducible rfl)
            try simp only [Act.put, List.setIfInBounds_toArray, List.set_cons_zero, List.set_cons_succ]
            refine wpL_val (i := 21) (v := ?vd21) rfl (by kernel_rfl) (by kernel_rfl) (by kernel_rfl) (fun _ _ _ h => h) (by rfl) ?hyd21 ?restd21
            case hyd21 => (intro x hx; obtain ⟨d0, d1, d2, d3⟩ := HLE.out x hx; go_simp; try with_reducible rfl)
            try simp only [Act.put, List.setIfInBounds_toArray, List.set_cons_zero, List.set_cons_succ]
            refine wpL_call (i := 22) (v := .bool false) (f := 10) (args := #[.agg #[.slice (some ⟨b, off, none⟩) n cp, .int .i64 nx], .int .i64 id, .int .i64 (quota + 1)]) rfl (by kernel_rfl) (by kernel_rfl) (by kernel_rfl) (fun _ _ _ h => h) (by rfl) ?hyd22 (fun x hx => HRO.out x (HBX.out x hx)) ?restd22
            case hyd22 => (intro x hx; obtain ⟨d0, d1, d2, d3⟩ := HLE.out x hx; go_simp; try with_reducible rfl)
            try simp only [Act.put, List.setIfInBounds_toArray, List.set_cons_zero, List.set_cons_succ]
            refine wpL_val (i := 23) (v := ?vd23) rfl (by kernel_rfl) (by kernel_rfl) (by kernel_rfl) (fun _ _ _ h => h) (by rfl) ?hyd23 ?restd23
            case hyd23 => (intro x hx; obtain ⟨d0, d1, d2, d3⟩ := HLE.out x hx; go_simp; try with_reducible rfl)
            try simp only [Act.put, List.setIfInBounds_toArray, List.set_cons_zero, List.set_cons_succ]
            refine wpL_val (i := 24) (v := ?vd24) rfl (by kernel_rfl) (by kernel_rfl) (by kernel_rfl) (fun _ _ _ h => h) (by rfl) ?hyd24 ?restd24
            case hyd24 => (intro x hx; obtain ⟨d0, d1, d2, d3⟩ := HLE.out x hx; go_simp; try with_reducible rfl)
            try simp only [Act.put, List.setIfInBounds_toArray, List.set_cons_zero, List.set_cons_succ]
            refine wpL_done (by kernel_rfl) ?_ _
            intro wz hy
            have HMZ := Shut.mk (HM3.out.below (Below.trans (Below.drew (Below.refl _ _)) hy))
            go_wp2_with fail
            go_meet
            case rel => exact ⟨rfl, HMZ⟩
          · have hq1 : decide (0 < quota) = false := by simp [hq]
            refine wp_region_later (by kernel_rfl) ?_
            refine wpL_val (i := 0) (v := ?ve0) rfl (by kernel_rfl) (by kernel_rfl) (by kernel_rfl) (fun _ _ _ h => h) (by rfl) ?hye0 ?reste0
            case hye0 => (intro x hx; obtain ⟨d0, d1, d2, d3⟩ := HLE.out x hx; go_simp; try with_reducible rfl)
            try simp only [Act.put, List.setIfInBounds_toArray, List.set_cons_zero, List.set_cons_succ]
            refine wpL_val (i := 1) (v := ?ve1) rfl (by kernel_rfl) (by kernel_rfl) (by kernel_rfl) (fun _ _ _ h => h) (by rfl) ?hye1 ?reste1
            case hye1 => (intro x hx; obtain ⟨d0, d1, d2, d3⟩ := HLE.out x hx; go_simp; try with_reducible rfl)
            try simp only [Act.put, List.setIfInBounds_toArray, List.set_cons_zero, List.set_cons_succ]
            refine wpL_val (i := 2) (v := ?ve2) rfl (by kernel_rfl) (by kernel_rfl) (by kernel_rfl) (fun _ _ _ h => h) (by rfl) ?hye2 ?reste2
            case hye2 => (intro x hx; obtain ⟨d0, d1, d2, d3⟩ := HLE.out x hx; go_simp; try with_reducible rfl)
            try simp only [Act.put, List.setIfInBounds_toArray, List.set_cons_zero, List.set_cons_succ]
            refine wpL_val (i := 3) (v := ?ve3) rfl (by kernel_rfl) (by kernel_rfl) (by kernel_rfl) (fun _ _ _ h => h) (by rfl) ?hye3 ?reste3
            case hye3 => (intro x hx; obtain ⟨d0, d1, d2, d3⟩ := HLE.out x hx; go_simp; try with_reducible rfl)
            try simp only [Act.put, List.setIfInBounds_toArray, List.set_cons_zero, List.set_cons_succ]
            refine wpL_call (i := 4) (v := .bool rm) (f := 10) (args := #[.agg #[.slice (some ⟨b, off, none⟩) n cp, .int .i64 nx], .int .i64 id, .int .i64 (pm : Nat)]) rfl (by kernel_rfl) (by kernel_rfl) (by kernel_rfl) (fun _ _ _ h => h) (by rfl) ?hye4 (fun x hx => HRI.out x (HBX.out x hx)) ?reste4
            case hye4 => (intro x hx; obtain ⟨d0, d1, d2, d3⟩ := HLE.out x hx; go_simp; try with_reducible rfl)
            try simp only [Act.put, List.setIfInBounds_toArray, List.set_cons_zero, List.set_cons_succ]
            refine wpL_val (i := 5) (v := ?ve5) rfl (by kernel_rfl) (by kernel_rfl) (by kernel_rfl) (fun _ _ _ h => h) (by rfl) ?hye5 ?reste5
            case hye5 => (intro x hx; obtain ⟨d0, d1, d2, d3⟩ := HLE.out x hx; go_simp; try with_reducible rfl)
            try simp only [Act.put, List.setIfInBounds_toArray, List.set_cons_zero, List.set_cons_succ]
            refine wpL_val (i := 6) (v := ?ve6) rfl (by kernel_rfl) (by kernel_rfl) (by kernel_rfl) (fun _ _ _ h => h) (by rfl) ?hye6 ?reste6
            case hye6 => (intro x hx; obtain ⟨d0, d1, d2, d3⟩ := HLE.out x hx; go_simp; try with_reducible rfl)
            try simp only [Act.put, List.setIfInBounds_toArray, List.set_cons_zero, List.set_cons_succ]
            refine wpL_val (i := 7) (v := ?ve7) rfl (by kernel_rfl) (by kernel_rfl) (by kernel_rfl) (fun _ _ _ h => h) (by rfl) ?hye7 ?reste7
            case hye7 => (intro x hx; obtain ⟨d0, d1, d2, d3⟩ := HLE.out x hx; go_simp; try with_reducible rfl)
            try simp only [Act.put, List.setIfInBounds_toArray, List.set_cons_zero, List.set_cons_succ]
            refine wpL_val (i := 8) (v := ?ve8) rfl (by kernel_rfl) (by kernel_rfl) (by kernel_rfl) (fun _ _ _ h => h) (by rfl) ?hye8 ?reste8
            case hye8 => (intro x hx; obtain ⟨d0, d1, d2, d3⟩ := HLE.out x hx; go_simp; try with_reducible rfl)
            try simp only [Act.put, List.setIfInBounds_toArray, List.set_cons_zero, List.set_cons_succ]
            refine wpL_call (i := 9) (v := .bool rm) (f := 11) (args := #[.agg #[.slice (some ⟨b, off, none⟩) n cp, .int .i64 nx], .int .i64 id, .int .i64 (pm : Nat)]) rfl (by kernel_rfl) (by kernel_rfl) (by kernel_rfl) (fun _ _ _ h => h) (by rfl) ?hye9 (fun x hx => HRP.out x (HBX.out x hx)) ?reste9
            case hye9 => (intro x hx; obtain ⟨d0, d1, d2, d3⟩ := HLE.out x hx; go_simp; try with_reducible rfl)
            try simp only [Act.put, List.setIfInBounds_toArray, List.set_cons_zero, List.set_cons_succ]
            refine wpL_val (i := 10) (v := ?ve10) rfl (by kernel_rfl) (by kernel_rfl) (by kernel_rfl) (fun _ _ _ h => h) (by rfl) ?hye10 ?reste10
            case hye10 => (intro x hx; obtain ⟨d0, d1, d2, d3⟩ := HLE.out x hx; go_simp; try with_reducible rfl)
            try simp only [Act.put, List.setIfInBounds_toArray, List.set_cons_zero, List.set_cons_succ]
            refine wpL_val (i := 11) (v := ?ve11) rfl (by kernel_rfl) (by kernel_rfl) (by kernel_rfl) (fun _ _ _ h => h) (by rfl) ?hye11 ?reste11
            case hye11 => (intro x hx; obtain ⟨d0, d1, d2, d3⟩ := HLE.out x hx; go_simp; try with_reducible rfl)
            try simp only [Act.put, List.setIfInBounds_toArray, List.set_cons_zero, List.set_cons_succ]
            refine wpL_val (i := 12) (v := ?ve12) rfl (by kernel_rfl) (by kernel_rfl) (by kernel_rfl) (fun _ _ _ h => h) (by rfl) ?hye12 ?reste12
            case hye12 => (intro x hx; obtain ⟨d0, d1, d2, d3⟩ := HLE.out x hx; go_simp; try with_reducible rfl)
            try simp only [Act.put, List.setIfInBounds_toArray, List.set_cons_zero, List.set_cons_succ]
            refine wpL_val (i := 13) (v := ?ve13) rfl (by kernel_rfl) (by kernel_rfl) (by kernel_rfl) (fun _ _ _ h => h) (by rfl) ?hye13 ?reste13
            case hye13 => (intro x hx; obtain ⟨d0, d1, d2, d3⟩ := HLE.out x hx; go_simp; try with_reducible rfl)
            try simp only [Act.put, List.setIfInBounds_toArray, List.set_cons_zero, List.set_cons_succ]
            refine wpL_val (i := 14) (v := ?ve14) rfl (by kernel_rfl) (by kernel_rfl) (by kernel_rfl) (fun _ _ _ h => h) (by rfl) ?hye14 ?reste14
            case hye14 => (intro x hx; obtain ⟨d0, d1, d2, d3⟩ := HLE.out x hx; go_simp; try with_reducible rfl)
            try simp only [Act.put, List.setIfInBounds_toArray, List.set_cons_zero, List.set_cons_succ]
            refine wpL_val (i := 15) (v := ?ve15) rfl (by kernel_rfl) (by kernel_rfl) (by kernel_rfl) (fun _ _ _ h => h) (by rfl) ?hye15 ?reste15
            case hye15 => (intro x hx; obtain ⟨d0, d1, d2, d3⟩ := HLE.out x hx; go_simp; try with_reducible rfl)
            try simp only [Act.put, List.setIfInBounds_toArray, List.set_cons_zero, List.set_cons_succ]
            refine wpL_skip (i := 16) rfl (by kernel_rfl) (by kernel_rfl) (by kernel_rfl) (fun _ _ _ h => h) (by rfl) ?_
            try simp only [Act.put, List.setIfInBounds_toArray, List.set_cons_zero, List.set_cons_succ]
            refine wpL_skip (i := 17) rfl (by kernel_rfl) (by kernel_rfl) (by kernel_rfl) (fun _ _ _ h => h) (by rfl) ?_
            try simp only [Act.put, List.setIfInBounds_toArray, List.set_cons_zero, List.set_cons_succ]
            refine wpL_skip (i := 18) rfl (by kernel_rfl) (by kernel_rfl) (by kernel_rfl) (fun _ _ _ h => h) (by rfl) ?_
            try simp only [Act.put, List.setIfInBounds_toArray, List.set_cons_zero, List.set_cons_succ]
            refine wpL_skip (i := 19) rfl (by kernel_rfl) (by kernel_rfl) (by kernel_rfl) (fun _ _ _ h => h) (by rfl) ?_
            try simp only [Act.put, List.setIfInBounds_toArray, List.set_cons_zero, List.set_cons_succ]
            refine wpL_skip (i := 20) rfl (by kernel_rfl) (by kernel_rfl) (by kernel_rfl) (fun _ _ _ h => h) (by rfl) ?_
            try simp only [Act.put, List.setIfInBounds_toArray, List.set_cons_zero, List.set_cons_succ]
            refine wpL_skip (i := 21) rfl (by kernel_rfl) (by kernel_rfl) (by kernel_rfl) (fun _ _ _ h => h) (by rfl) ?_
            try simp only [Act.put, List.setIfInBounds_toArray, List.set_cons_zero, List.set_cons_succ]
            refine wpL_skip (i := 22) rfl (by kernel_rfl) (by kernel_rfl) (by kernel_rfl) (fun _ _ _ h => h) (by rfl) ?_
            try simp only [Act.put, List.setIfInBounds_toArray, List.set_cons_zero, List.set_cons_succ]
            refine wpL_val (i := 23) (v := ?ve23) rfl (by kernel_rfl) (by kernel_rfl) (by kernel_rfl) (fun _ _ _ h => h) (by rfl) ?hye23 ?reste23
            case hye23 => (intro x hx; obtain ⟨d0, d1, d2, d3⟩ := HLE.out x hx; go_simp; try with_reducible rfl)
            try simp only [Act.put, List.setIfInBounds_toArray, List.set_cons_zero, List.set_cons_succ]
            refine wpL_val (i := 24) (v := ?ve24) rfl (by kernel_rfl) (by kernel_rfl) (by kernel_rfl) (fun _ _ _ h => h) (by rfl) ?hye24 ?reste24
            case hye24 => (intro x hx; obtain ⟨d0, d1, d2, d3⟩ := HLE.out x hx; go_simp; try with_reducible rfl)
            try simp only [Act.put, List.setIfInBounds_toArray, List.set_cons_zero, List.set_cons_succ]
            refine wpL_done (by kernel_rfl) ?_ _
            intro wz hy
            have HMZ := Shut.mk (HM3.out.below (Below.trans (Below.drew (Below.refl _ _)) hy))
            go_wp2_with fail
            go_meet
            case rel => exact ⟨rfl, HMZ⟩
        case rest =>
          obtain ⟨rfl, HM4⟩ := hcut
          clear HLE HBX HM3
          go_wp2_with fail
          go_roundw
          case rel => exact ⟨k + 1, by go_num, by omega, ⟨HM4.out.less⟩⟩
          case measure => simp [intOf]; omega
end Go.Proofs.Ythfmjjaollekiaa
