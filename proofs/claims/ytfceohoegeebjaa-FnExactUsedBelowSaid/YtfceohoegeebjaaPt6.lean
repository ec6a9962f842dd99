/- Texts of ours, laid one behind the other: LkD, LkQ, LkE, GrwA, PaI, LkF, StI, LkR, LkG, LkH. -/
import Derived.Test.YtfceohoegeebjaaPt5
import Derived.Deep.LoopGhost
import Derived.BigQuiet
import Derived.WalkSmall
import Derived.Laws.RangeAny
/- LkD: The nodes of a tree are linked: the walk. -/
namespace Go.Proofs.Ytfceohoegeebjaa
open Go.RowKit Go.Maps
attribute [local go_sem ↓] Go.wp_at_zero Go.wp_at_succ

/-- What lies in memory while nodes are linked. -/
structure Lw (w W : World) (rs : List NR) (G : Nat → Nat) (C : Int → Nat) (A : Nat → Option Nat) : Prop where
  lk : Lk W w.heap.size (w.heap.size + 1) (w.heap.size + 1 + 1) rs G C A
  bx : WCells W w.heap.size [.map none, .map none]
  vr : WCells W (w.heap.size + 1 + 1 + 1) [.map (some (w.heap.size + 1)), .map (some (w.heap.size + 1 + 1))]
  bl : Below w.heap.size w W
set_option maxHeartbeats 2000000 in
set_option maxRecDepth 100000 in
theorem linkNodes_any {w : World} {a : Option Addr} {rs : List NR} {cap lo hi : Nat} (hm : TR w a rs lo hi) (hl : rs.length ≤ 1048576) (hI : NInt (nds rs)) (hS : ∀ n ∈ nds rs, n.name.size ≤ maxLen) :
    Calls Try.prog 61 #[.slice a rs.length cap] w fun e w' => ∃ b1 b2 G C, e = .returned (.agg #[.map (some b1), .map (some b2)]) ∧ Lk w' w.heap.size b1 b2 rs G C (Ab (nds rs) fun _ => false) ∧ Below w.heap.size w w' := by
  have HM := Shut.mk hm
  have HI := Shut.mk hI
  have HS := Shut.mk hS
  have hmm := @run_makeMap Try.prog
  clear hm hI hS
  go_enter Try.func61, Try.ntmps61
  go_upto_region 2 with fail
  refine wp_shade (fun W => Lw w W [] (fun _ => 0) (fun _ => 0) fun _ => none) ?_ ?_
  · have m1 := World.ownsMap_made (w.alloc (.cells #[.map none, .map none] 77)) Try.prog 3 ptrE
    have m2 := World.ownsMap_made ((w.alloc (.cells #[.map none, .map none] 77)).alloc (.map #[] 0)) Try.prog 3 mapE
    have z1 : ∀ o : Obj, (w.alloc o).heap.size = w.heap.size + 1 := fun o => by simp
    have z2 : ∀ o o' : Obj, ((w.alloc o).alloc o').heap.size = w.heap.size + 1 + 1 := fun o o' => by simp
    rw [z1] at m1
    rw [z2] at m2
    refine ⟨Lk.start ((m1.alloc _).alloc _) (m2.alloc _) ⟨by omega, by omega, by omega⟩, (((wcells_new w #[.map none, .map none] 77).alloc _).alloc _).alloc _, ?_, ((((Below.refl _ _).alloc (Nat.le_refl _) _).alloc (by simp) _).alloc (by simp; omega) _).alloc (by simp; omega) _⟩
    have := wcells_new (((w.alloc (.cells #[.map none, .map none] 77)).alloc (.map #[] 0)).alloc (.map #[] 0)) #[.map (some (w.heap.size + 1)), .map (some (w.heap.size + 1 + 1))] 77
    simpa using this
  intro W hW
  have HW := Shut.mk hW
  clear hW
  go_wp2_with fail
  go_loopw [13] (fun i wr => ∃ (k : Nat) (G : Nat → Nat) (C : Int → Nat), i = .int .i64 k ∧ k ≤ rs.length ∧ Shut (Lw w wr (rs.take k) G C fun _ => none)) (fun i _ => rs.length - (intOf i).toNat)
  case atStart => exact ⟨0, _, _, rfl, Nat.zero_le _, by simpa using HW⟩
  case round =>
    clear HW
    obtain ⟨k, G, C, rfl, hk, hW⟩ := hrel
    have v0 := (hW.out.vr.2 0 _ rfl).1
    have v1 := (hW.out.vr.2 1 _ rfl).1
    have lv := hW.out.vr.1
    by_cases hlt : k < rs.length
    · obtain ⟨b, off, rfl, lb, hc⟩ := TR.nat HM.out (by omega)
      have hn := (hc k hlt).below hW.out.bl lb
      obtain ⟨r, hr⟩ : ∃ r, r = rs[k] := ⟨_, rfl⟩
      rw [← hr] at hn
      have hstep : rs.take (k + 1) = rs.take k ++ [r] := by rw [hr]; exact List.take_succ_eq_append_getElem hlt
      have hmem : r.nd ∈ nds rs := by rw [hr]; exact List.mem_map.2 ⟨_, List.getElem_mem hlt, rfl⟩
      have f1 := (HI.out _ hmem).1
      have f2 := (HI.out _ hmem).2
      have f3 := HS.out _ hmem
      have hlk : (rs.take k).length = k := by simp; omega
      have HCALL : Shut (∀ W, W = (wr.alloc (.cells #[.int .i64 r.nd.id, .int .i64 r.nd.parent, .string r.nd.name, .bool r.nd.dir, .int .i64 r.nd.schema, .int .i64 r.nd.quota, .int .i64 r.nd.len, .slice r.loc r.nd.pieces.length r.cap, .int .i64 r.nd.writer] 30)).alloc (.cells #[.int .i64 r.nd.id, .int .i64 r.nd.parent, .string r.nd.name, .bool r.nd.dir, .int .i64 r.nd.schema, .int .i64 r.nd.quota, .int .i64 r.nd.len, .slice r.loc r.nd.pieces.length r.cap, .int .i64 r.nd.writer, .pointer none] 64) →
          Calls Try.prog 85 #[.agg #[.map (some (w.heap.size + 1)), .map (some (w.heap.size + 1 + 1))], .pointer (some ⟨wr.heap.size + 1, 0, none⟩)] W fun e w' => e = .returned (.tuple #[]) ∧ ∃ G' C', Shut (Lw w w' (rs.take (k + 1)) G' C' fun _ => none)) := ⟨fun W hWe => by
        have hb1 : Below wr.heap.size wr W := by rw [hWe]; exact ((Below.refl _ _).alloc (Nat.le_refl _) _).alloc (by simp) _
        have hnew : WCells W (wr.heap.size + 1) (lcells r (.pointer none)) := by
          have := wcells_new (wr.alloc (.cells #[.int .i64 r.nd.id, .int .i64 r.nd.parent, .string r.nd.name, .bool r.nd.dir, .int .i64 r.nd.schema, .int .i64 r.nd.quota, .int .i64 r.nd.len, .slice r.loc r.nd.pieces.length r.cap, .int .i64 r.nd.writer] 30)) #[.int .i64 r.nd.id, .int .i64 r.nd.parent, .string r.nd.name, .bool r.nd.dir, .int .i64 r.nd.schema, .int .i64 r.nd.quota, .int .i64 r.nd.len, .slice r.loc r.nd.pieces.length r.cap, .int .i64 r.nd.writer, .pointer none] 64
          rw [← hWe] at this
          simpa [lcells] using this
        have hbs := hW.out.bl.size
        refine (add_any (hW.out.lk.below hb1) hnew (fun i hi => by have := hW.out.lk.lt.2.2.1 i hi; omega) (by omega) (by have := hb1.size; omega) (by rw [hlk]; omega) f1 f2 f3).mono ?_
        rintro e w' ⟨rfl, ⟨C', hL⟩, hK, hB⟩
        exact ⟨rfl, _, C', ⟨by rw [hstep]; exact hL, hK _ _ (hW.out.bx.grow hb1), hK _ _ (hW.out.vr.grow hb1), hW.out.bl.trans ((hb1.mono hbs).trans hB)⟩⟩⟩
      obtain ⟨c0, c1, c2, c3, c4, c5, c6, c7, c8⟩ := hn
      have lb' : b < wr.heap.size := Nat.lt_of_lt_of_le lb hW.out.bl.size
      have k0 : (0 : Int) ≤ (k : Int) := by omega
      have k1 : (k : Int) < (rs.length : Int) := by omega
      clear hc hr hstep hmem f1 f2 f3 hlk hmm
      go_wp2_with fail
      refine (HCALL.out _ rfl).mono ?_
      rintro e w2 ⟨rfl, G', C', hW'⟩
      go_wp2_with fail
      go_roundw
      case rel => exact ⟨k + 1, G', C', by go_num, by omega, hW'⟩
      case measure => simp [intOf]; omega
    · have hkn : ¬ (k : Int) < (rs.length : Int) := by omega
      obtain rfl : k = rs.length := by omega
      rw [List.take_length] at hW
      obtain ⟨wo, rfl⟩ : ∃ wo, wo = wr := ⟨_, rfl⟩
      obtain ⟨D, o1, t1⟩ := hW.out.lk.m1
      have T1 := Shut.mk t1
      obtain ⟨l1, l2, l3, l4⟩ := hW.out.lk.lt
      have L3 := Shut.mk l3
      have L4 := Shut.mk l4
      clear t1 l3 l4 hmm hlt hk
      go_wp2_with (first
        | (at_range; refine wpList_range_own _ rfl _ 74 rfl 3 61 keyI Try.underlying74 ptrE (w.heap.size + 1) rs.length D rfl o1 ?_; intro w0 hrg0 hg0 hs0))
      have hbr : Below wo.heap.size wo w0 := (Below.refl _ _).grown hg0 (Nat.le_refl _) (fun j hj => by cases hj)
      have HW0 : Shut (Lw w w0 rs G C fun _ => none) := ⟨hW.out.lk.below hbr, hW.out.bx.grow hbr, hW.out.vr.grow hbr, hW.out.bl.trans (hbr.mono hW.out.bl.size)⟩
      have hlv : w.heap.size < wo.heap.size := by omega
      go_loopw [7] (fun _ wx => ∃ (left : Lit → Bool) (cnt : Nat), wx.ranges Try.prog 3 ptrE (w.heap.size + 1) wo.heap.size rs.length D left cnt ∧ Shut (Lw w wx rs G C (Ab (nds rs) left))) (fun _ wx => wx.rangeLeft (w.heap.size + 1) wo.heap.size)
      case atStart =>
        refine ⟨_, _, hrg0, ⟨HW0.out.lk.same fun j hj => ?_, HW0.out.bx, HW0.out.vr, HW0.out.bl⟩⟩
        unfold Ab
        by_cases hf : fid (nds rs) ((nds rs).getD j default).id = some j
        · have := (T1.out ((nds rs).getD j default).id).has
          rw [hf] at this
          rw [if_neg (fun hc => by rw [hc.2] at this; cases this)]
        · rw [if_neg (fun hc => hf hc.1)]
      case round =>
        clear hrg0 HW0 hbr hg0 hs0 hW o1
        obtain ⟨left, cnt, hrg, hW⟩ := hrel
        go_wp2_with (first
          | (at_next; refine wpList_next_ranges _ rfl _ rfl 3 keyI ptrE (Value.int .i64) ptrV (fun key kl hk => by obtain ⟨x, hx, _⟩ := Maps.keyOf_int_inv Try.underlying3 hk; exact ⟨x, hx⟩) (fun v y hv => ptrE_form hv) (w.heap.size + 1) wo.heap.size rs.length _ _ _ rfl hrg ?_ ?_))
        · intro hc0 hl0
          have HA : Ab (nds rs) left = Ab (nds rs) fun _ => false := by
            have : left = fun _ => false := funext hl0
            rw [this]
          rw [HA] at hW
          have v0' := (hW.out.vr.2 0 _ rfl).1
          have v1' := (hW.out.vr.2 1 _ rfl).1
          have y0 := hW.out.bx.2 0 _ rfl
          have y1 := hW.out.bx.2 1 _ rfl
          obtain ⟨y0, z0⟩ := y0
          obtain ⟨y1, z1⟩ := y1
          have lw := hW.out.bx.1
          clear hrg hl0 HA
          go_wp2_with fail
          refine bodyPost_ret (v := .agg #[.map (some (w.heap.size + 1)), .map (some (w.heap.size + 1 + 1))]) (by simp [results, Try.results61, go_sem, y0, y1]) rfl ?_
          refine ⟨_, _, G, C, rfl, ?_, (hW.out.bl.setCell (Nat.le_refl _) _).setCell (Nat.le_refl _) _⟩
          have hne : ∀ i, i < rs.length → G i ≠ w.heap.size := fun i hi e => by
            have h2 := ((hW.out.lk.cells i hi).1.2 0 _ rfl).1
            rw [e, y0] at h2
            cases h2
          refine (hW.out.lk.side ⟨w.heap.size, 0, none⟩ _ hW.out.bx (by simp) hne).side ⟨w.heap.size, 1, none⟩ _ (hW.out.bx.set 0 _ (by simp)) (by simp) hne
        · intro x c kl d ps w1 cnt1 hkey hlk hv hat hrg1 hlt hg1 hs1 hen
          obtain ⟨x', ex, rfl, hwx⟩ := Maps.keyOf_int_inv Try.underlying3 hkey
          cases ex
          have htx := T1.out x
          cases hf : fid (nds rs) x with
          | none =>
            rw [hf] at htx
            have q1 := Maps.atKey_of_not_has htx .nil
            have q2 := Maps.atKey_of_not_has htx (.lit (.int .i64 0))
            rw [hat] at q1 q2
            rw [q1] at q2
            cases q2
          | some i =>
            rw [hf] at htx
            have q1 := hat .nil
            rw [htx.at] at q1
            have hce : ptrV c = ptrV (some (G i)) := ptrE_some (by rw [hv, ← q1])
            have HF := Shut.mk hf
            obtain ⟨hil, hie⟩ := fid_lt hf
            rw [nds_len] at hil
            have hr1 : Lw w w1 rs G C (Ab (nds rs) left) := by
              refine ⟨hW.out.lk.grown hg1 (by omega) (by omega) (fun p hp => by have := L4.out p hp; omega) (fun j hj => by have := L3.out j hj; omega), wc_grown9 hW.out.bx hg1 (by omega), wc_grown9 hW.out.vr hg1 (by omega), hW.out.bl.grown hg1 (by have := hW.out.bl.size; omega) (fun j hj => by cases hj; omega)⟩
            have HR := Shut.mk hr1
            obtain ⟨cc, _⟩ := hr1.lk.cells i hil
            obtain ⟨r, hr⟩ : ∃ r, r = rs[i] := ⟨_, rfl⟩
            rw [← hr] at cc
            have c1 := (cc.2 1 _ rfl).1
            obtain ⟨c9, z9⟩ := cc.2 9 _ rfl
            have v0' := (hr1.vr.2 0 _ rfl).1
            have hmem : r.nd ∈ nds rs := by rw [hr]; exact List.mem_map.2 ⟨_, List.getElem_mem hil, rfl⟩
            have f2 := (HI.out _ hmem).2
            have hlook := look_ptr keyI Try.underlying74 zeroLp hrg1.owns (key_int f2) (T1.out r.nd.parent)
            obtain ⟨pv, hpv⟩ := ptrV_is ((fid (nds rs) r.nd.parent).map G)
            rw [hpv] at hlook
            have HPV := Shut.mk hpv
            have HRG := Shut.mk hrg1
            have HR9 := Shut.mk hr
            obtain ⟨g, hg⟩ : ∃ g, g = G i := ⟨_, rfl⟩
            have HGI := Shut.mk hg
            rw [← hg] at c1 c9 z9 hce
            rw [hce] at hen ⊢
            unfold ptrV at hen
            have HRG0 := Shut.mk hrg
            have HLT := Shut.mk hlt
            clear hlt hr1 hv hat hkey hlk htx q1 hce hf hie cc hmem f2 hpv hrg1 hr hg hW hrg
            unfold ptrV
            go_wp2_with fail
            have hl1 : (Instr.lookup 74 (.map (some (w.heap.size + 1))) (.int .i64 r.nd.parent) false).run Try.prog w1.drew = .ok (.pointer pv) w1.drew := hlook 1
            clear hlook
            go_region
            all_goals
              go_wp2_with fail
              go_roundw
              case rel =>
                obtain ⟨hA1, hA2⟩ := ab_step (left := left) HF.out
                have hil' : i < (nds rs).length := by rw [nds_len]; exact hil
                have hne1 : w.heap.size + 1 ≠ g := own_ne HRG.out.owns (by rw [HGI.out]; exact (HR.out.lk.cells i hil).1) (by simp [lcells])
                have hne2 : wo.heap.size ≠ g := by have := L3.out i hil; rw [HGI.out]; omega
                have hpe : (fid (nds rs) ((nds rs).getD i default).parent).map G = (fid (nds rs) r.nd.parent).map G := by
                  rw [HR9.out, getD_in hil']
                  simp [nds]
                have hset := HR.out.lk.tell hil (A' := Ab (nds rs) fun z => left z && !z.sameKey (ki x)) (fun j hj hne => hA1 j (by rw [nds_len]; exact hj) hne)
                rw [hA2, hpe, HPV.out, ← HGI.out] at hset
                have hB9 : w.heap.size ≤ g := by rw [HGI.out]; exact (HR.out.lk.cells i hil).2
                have hn0 : w.heap.size ≠ g := fun e => by
                  have h1 := (HR.out.bx.2 0 _ rfl).1
                  have h2 := ((HR.out.lk.cells i hil).1.2 0 _ rfl).1
                  rw [← HGI.out, ← e, h1] at h2
                  cases h2
                have hn3 : w.heap.size + 1 + 1 + 1 ≠ g := fun e => by
                  have h1 := (HR.out.vr.2 0 _ rfl).1
                  have h2 := ((HR.out.lk.cells i hil).1.2 0 _ rfl).1
                  rw [← HGI.out, ← e, h1] at h2
                  cases h2
                have hgr : w1.grownBy (w1.setCell ⟨g, 9, none⟩ (.pointer pv)) (some g) := grown_setCell w1 ⟨g, 9, none⟩ _
                have hbd : Below (w1.setCell ⟨g, 9, none⟩ (.pointer pv)).heap.size (w1.setCell ⟨g, 9, none⟩ (.pointer pv)) (w1.setCell ⟨g, 9, none⟩ (.pointer pv)).drew := Below.drew (Below.refl _ _)
                have hrn := HRG.out.kept hgr (by simpa using hne1) (by simpa using hne2)
                have hrd : (w1.setCell ⟨g, 9, none⟩ (.pointer pv)).drew.ranges Try.prog 3 ptrE (w.heap.size + 1) wo.heap.size rs.length D (fun z => left z && !z.sameKey (ki x)) cnt1 := hrn
                exact ⟨_, _, hrd, hset.below hbd, (HR.out.bx.other ⟨g, 9, none⟩ _ hn0).grow hbd, (HR.out.vr.other ⟨g, 9, none⟩ _ hn3).grow hbd, (HR.out.bl.setCell hB9 _).trans (hbd.mono (by simpa [World.setCell] using HR.out.bl.size))⟩
              case measure =>
                have hne1 : w.heap.size + 1 ≠ g := own_ne HRG.out.owns (by rw [HGI.out]; exact (HR.out.lk.cells i hil).1) (by simp [lcells])
                have hne2 : wo.heap.size ≠ g := by have := L3.out i hil; rw [HGI.out]; omega
                have hgr : w1.grownBy (w1.setCell ⟨g, 9, none⟩ (.pointer pv)) (some g) := grown_setCell w1 ⟨g, 9, none⟩ _
                have hrn := HRG.out.kept hgr (by simpa using hne1) (by simpa using hne2)
                have e1 := hrn.left_eq
                have e2 := HRG0.out.left_eq
                have e3 : (w1.setCell ⟨g, 9, none⟩ (.pointer pv)).drew.rangeLeft (w.heap.size + 1) wo.heap.size = (w1.setCell ⟨g, 9, none⟩ (.pointer pv)).rangeLeft (w.heap.size + 1) wo.heap.size := rfl
                rw [e3, e1, e2]
                exact HLT.out
end Go.Proofs.Ytfceohoegeebjaa
/- LkQ: Right trees, plain: so many steps up; what the program asks of a tree is what the document asks. -/
namespace Go.Proofs.Ytfceohoegeebjaa

/-- Up to so many steps up: is it the first one? -/
def clm (ns : List NM) : Nat → Nat → Bool
  | 0, j => (ns.getD j default).id == 1
  | f + 1, j => match fid ns (ns.getD j default).parent with
    | none => (ns.getD j default).id == 1
    | some k => clm ns f k
theorem clm_none {ns : List NM} {f j : Nat} (h : fid ns (ns.getD j default).parent = none) : clm ns f j = ((ns.getD j default).id == 1) := by
  cases f with
  | zero => rfl
  | succ f => conv => lhs; unfold clm
              rw [h]
theorem clm_some {ns : List NM} {f j k : Nat} (h : fid ns (ns.getD j default).parent = some k) : clm ns (f + 1) j = clm ns f k := by
  conv => lhs; unfold clm
  rw [h]
theorem Asc.id_one {ns : List NM} (h : Asc ns) {j : Nat} (hj : j < ns.length) : ((ns.getD j default).id == 1) = decide (j = 0) := by
  rw [getD_in hj]
  by_cases e : j = 0
  · subst e
    have := h.2.2.1
    rw [getD_in hj] at this
    simp [this]
  · have := h.lt j hj 0 (by omega)
    rw [h.2.2.1] at this
    have h2 : ¬ ns[j].id = 1 := by omega
    simp [h2, e]
theorem clm_ups {ns : List NM} (h : Asc ns) : ∀ f j, j < ns.length → clm ns f j = true → ∃ d, d ≤ f ∧ Ups ns j d := by
  intro f
  induction f with
  | zero =>
    intro j hj hc
    unfold clm at hc
    rw [h.id_one hj] at hc
    obtain rfl := of_decide_eq_true hc
    exact ⟨0, Nat.le_refl _, .root⟩
  | succ f ih =>
    intro j hj hc
    cases hp : fid ns (ns.getD j default).parent with
    | none =>
      rw [clm_none hp, h.id_one hj] at hc
      obtain rfl := of_decide_eq_true hc
      exact ⟨0, Nat.zero_le _, .root⟩
    | some k =>
      rw [clm_some hp] at hc
      obtain ⟨d, hd, hu⟩ := ih k (fid_lt hp).1 hc
      refine ⟨d + 1, by omega, .step hj (fun e => ?_) hp hu⟩
      subst e
      rw [h.2.2.2, h.zero] at hp
      cases hp
theorem ups_clm {ns : List NM} (h : Asc ns) {j d : Nat} (hu : Ups ns j d) : ∀ f, d ≤ f → clm ns f j = true := by
  induction hu with
  | root =>
    intro f _
    rw [clm_none (by rw [h.2.2.2]; exact h.zero), h.id_one h.2.1]
    rfl
  | step hj h0 hp _ ih =>
    intro f hf
    cases f with
    | zero => omega
    | succ f => rw [clm_some hp]; exact ih f (by omega)
theorem clm_climbs {ns : List NM} (h : Asc ns) {j : Nat} (hj : j < ns.length) (h0 : j ≠ 0) : clm ns 4 j = climbs ns 4 (ns.getD j default).id := by
  have hf := h.fid hj
  rw [← getD_in hj] at hf
  cases hc : climbs ns 4 (ns.getD j default).id with
  | true =>
    obtain ⟨d, hd, hu⟩ := climbs_ups h 4 _ j hc hf h0
    exact ups_clm h hu 4 hd
  | false =>
    refine Bool.eq_false_iff.2 fun hm => ?_
    obtain ⟨d, hd, hu⟩ := clm_ups h 4 j hj hm
    rw [ups_climbs h 4 j d hu h0 hd] at hc
    cases hc
/-- Below another one, or it, on the way up: of an Id that is none. -/
theorem belowF_no {ns : List NM} (h : Asc ns) {top : Int} (hn : fid ns top = none) (h0 : top ≠ 0) {i d : Nat} (hu : Ups ns i d) : ∀ f, belowF ns f (ns.getD i default).id top = false := by
  have hne : ∀ j, j < ns.length → (ns.getD j default).id ≠ top := fun j hj e => fid_none hn _ (by rw [getD_in hj] at e; exact List.getElem_mem hj) (by rw [getD_in hj] at e; exact e)
  induction hu with
  | root =>
    intro f
    cases f with
    | zero => rfl
    | succ f =>
      rw [belowF_some (i := 0) (hne 0 h.2.1) (by rw [h.2.2.1]; exact h.one), h.2.2.2]
      cases f with
      | zero => rfl
      | succ f => exact belowF_none (fun e => h0 e.symm) h.zero
  | @step i k d hi _ hk _ ih =>
    intro f
    cases f with
    | zero => rfl
    | succ f =>
      have hf := h.fid hi
      rw [← getD_in hi] at hf
      rw [belowF_some (hne i hi) hf]
      obtain ⟨hkl, ek⟩ := fid_lt hk
      rw [← ek, ← getD_in hkl]
      exact ih f
/-- What the program asks: below an Id that is a node's. -/
def blw (ns : List NM) (i : Nat) (top : Int) : Bool := decide (top ≠ 0) && belowF ns 15 (ns.getD i default).id top
/-- It is the first one of its Parent and Name. -/
def firstB (ns : List NM) (i : Nat) : Bool := match fnm ns (ns.getD i default).parent (ns.getD i default).name with
  | some k => (ns.getD k default).id == (ns.getD i default).id
  | none => false
theorem firstB_some {ns : List NM} {i k : Nat} (h : fnm ns (ns.getD i default).parent (ns.getD i default).name = some k) : firstB ns i = ((ns.getD k default).id == (ns.getD i default).id) := by
  unfold firstB
  rw [h]
/-- There is a directory of this Id. -/
def dirB (ns : List NM) (p : Int) : Bool := match fid ns p with
  | some k => (ns.getD k default).dir
  | none => false
theorem dirB_some {ns : List NM} {p : Int} {k : Nat} (h : fid ns p = some k) : dirB ns p = (ns.getD k default).dir := by
  unfold dirB
  rw [h]
theorem dirB_none {ns : List NM} {p : Int} (h : fid ns p = none) : dirB ns p = false := by
  unfold dirB
  rw [h]
/-- What is asked of a node's place. -/
def placeB (ns : List NM) (i : Nat) : Bool := nameB (ns.getD i default).name && firstB ns i && dirB ns (ns.getD i default).parent && clm ns 4 i
/-- Each node of a right tree has its way up. -/
def Tall (ns : List NM) : Prop := Asc ns ∧ ∀ i, i < ns.length → ∃ d, d ≤ 4 ∧ Ups ns i d
end Go.Proofs.Ytfceohoegeebjaa
/- LkE: On the way up from a node: does it reach the root, is it below another one? -/
namespace Go.Proofs.Ytfceohoegeebjaa
open Go.RowKit Go.Maps
attribute [local go_sem ↓] Go.wp_at_zero Go.wp_at_succ

/-- Nodes behind pointers, each with the one above it. -/
structure Nd (w : World) (ns : List NM) (G : Nat → Nat) : Prop where
  cells : ∀ i (hi : i < ns.length), w.cell? ⟨G i, 0, none⟩ = some (.int .i64 ns[i].id) ∧ w.cell? ⟨G i, 1, none⟩ = some (.int .i64 ns[i].parent) ∧ w.cell? ⟨G i, 2, none⟩ = some (.string ns[i].name) ∧ w.cell? ⟨G i, 3, none⟩ = some (.bool ns[i].dir) ∧ w.cell? ⟨G i, 4, none⟩ = some (.int .i64 ns[i].schema) ∧ w.cell? ⟨G i, 5, none⟩ = some (.int .i64 ns[i].quota) ∧ G i < w.heap.size
  above : ∀ i (hi : i < ns.length), fid ns ns[i].id = some i → w.cell? ⟨G i, 9, none⟩ = some (ptrV ((fid ns ns[i].parent).map G))
theorem Lk.nd {w : World} {B b1 b2 : Nat} {rs : List NR} {G : Nat → Nat} {C : Int → Nat} (h : Lk w B b1 b2 rs G C (Ab (nds rs) fun _ => false)) : Nd w (nds rs) G := by
  refine ⟨fun i hi => ?_, fun i hi hf => ?_⟩
  · have hi' : i < rs.length := by rwa [nds_len] at hi
    have hc := (h.cells i hi').1
    have e : (nds rs)[i] = rs[i].nd := by simp [nds]
    rw [e]
    exact ⟨(hc.2 0 _ rfl).1, (hc.2 1 _ rfl).1, (hc.2 2 _ rfl).1, (hc.2 3 _ rfl).1, (hc.2 4 _ rfl).1, (hc.2 5 _ rfl).1, hc.1⟩
  · have hi' : i < rs.length := by rwa [nds_len] at hi
    have hc := ((h.cells i hi').1.2 9 _ rfl).1
    have : Ab (nds rs) (fun _ => false) i = fid (nds rs) (nds rs)[i].parent := by
      unfold Ab
      rw [getD_in hi, if_pos ⟨hf, rfl⟩]
    rw [this] at hc
    exact hc
theorem Nd.below {w w' : World} {ns : List NM} {G : Nat → Nat} (h : Nd w ns G) (hb : Below w.heap.size w w') : Nd w' ns G := by
  refine ⟨fun i hi => ?_, fun i hi hf => ?_⟩
  · obtain ⟨c0, c1, c2, c3, c4, c5, hl⟩ := h.cells i hi
    exact ⟨(hb.cell hl).trans c0, (hb.cell hl).trans c1, (hb.cell hl).trans c2, (hb.cell hl).trans c3, (hb.cell hl).trans c4, (hb.cell hl).trans c5, Nat.lt_of_lt_of_le hl hb.size⟩
  · exact (hb.cell (h.cells i hi).2.2.2.2.2.2).trans (h.above i hi hf)
theorem ptr_some (g : Nat) : ptrV (some g) = .pointer (some ⟨g, 0, none⟩) := rfl
theorem ptr_none : ptrV none = .pointer none := rfl
set_option maxHeartbeats 1000000 in
set_option maxRecDepth 100000 in
theorem reaches_any {w : World} {ns : List NM} {G : Nat → Nat} (h : Nd w ns G) (ha : Asc ns) {i : Nat} (hi : i < ns.length) :
    Calls Try.prog 89 #[.pointer (some ⟨G i, 0, none⟩)] w fun e w' => e = .returned (.bool (clm ns 4 i)) ∧ w' = w := by
  have HN := Shut.mk h
  have HA := Shut.mk ha
  clear h ha
  obtain ⟨R, hR⟩ : ∃ R, R = clm ns 4 i := ⟨_, rfl⟩
  rw [← hR]
  have HR := Shut.mk hR
  clear hR
  go_enter Try.func89, Try.ntmps89
  go_wp2_with fail
  go_loopw [0, 3] (fun p c wr => ∃ (k j : Nat), p = .pointer (some ⟨G j, 0, none⟩) ∧ c = .int .i64 k ∧ k ≤ 4 ∧ j < ns.length ∧ Shut (clm ns (4 - k) j = R) ∧ wr = w) (fun _ c _ => 4 - (intOf c).toNat)
  case atStart => exact ⟨0, i, rfl, rfl, by omega, hi, ⟨HR.out.symm⟩, rfl⟩
  case round =>
    obtain ⟨k, j, rfl, rfl, hk, hj, hc, rfl⟩ := hrel
    obtain ⟨c0, _, _, _, _, _, hl⟩ := HN.out.cells j hj
    have c9 := HN.out.above j hj (HA.out.fid hj)
    have hid := HA.out.id_one hj
    have hge := getD_in hj
    obtain ⟨x, hx⟩ : ∃ x, x = ns[j] := ⟨_, rfl⟩
    rw [← hx] at c0 c9 hge
    rw [hge] at hid
    have HGE := Shut.mk hge
    have HID := Shut.mk hid
    clear hx hge hid
    obtain ⟨o, ho⟩ : ∃ o, o = fid ns x.parent := ⟨_, rfl⟩
    rw [← ho] at c9
    have HO := Shut.mk ho
    clear ho
    by_cases h4 : k < 4
    · have h4' : (k : Int) < 4 := by omega
      cases o with
      | none =>
        simp only [Option.map_none, ptr_none] at c9
        go_wp2_with fail
        go_ret
        refine ⟨?_, rfl⟩
        have := hc.out
        rw [clm_none (by rw [HGE.out, ← HO.out]), HGE.out] at this
        rw [← this]
        rfl
      | some m =>
        simp only [Option.map_some, ptr_some] at c9
        go_wp2_with fail
        go_roundw
        case rel =>
          have h5 := hc.out
          have e : 4 - k = (4 - (k + 1)) + 1 := by omega
          rw [e, clm_some (k := m) (by rw [HGE.out, ← HO.out])] at h5
          exact ⟨k + 1, m, rfl, by go_num, by omega, (fid_lt HO.out.symm).1, ⟨h5⟩, trivial⟩
        case measure => simp [intOf]; omega
    · have h4' : ¬ (k : Int) < 4 := by omega
      go_wp2_with fail
      go_ret
      refine ⟨?_, rfl⟩
      have := hc.out
      obtain rfl : k = 4 := by omega
      have e4 : clm ns (4 - 4) j = ((ns.getD j default).id == 1) := rfl
      rw [e4, HGE.out] at this
      rw [← this]
      rfl
set_option maxHeartbeats 1000000 in
set_option maxRecDepth 100000 in
theorem isBelow_any {w : World} {ns : List NM} {G : Nat → Nat} (h : Nd w ns G) (ht : Tall ns) {i : Nat} (hi : i < ns.length) (top : Int) :
    Calls Try.prog 73 #[.pointer (some ⟨G i, 0, none⟩), .int .i64 top] w fun e w' => e = .returned (.bool (blw ns i top)) ∧ w' = w := by
  have HN := Shut.mk h
  have HA := Shut.mk ht.1
  obtain ⟨d0, hd0, hu0⟩ := ht.2 i hi
  have HU := Shut.mk hu0
  obtain ⟨R, hR⟩ : ∃ R, R = blw ns i top := ⟨_, rfl⟩
  rw [← hR]
  have HR := Shut.mk hR
  clear hR h ht hu0
  go_enter Try.func73, Try.ntmps73
  go_wp2_with fail
  go_loopg [0] (d0 + 1) (fun m p wr => (Shut (p = .pointer none ∧ R = false) ∨ Shut (∃ (j d r : Nat), p = .pointer (some ⟨G j, 0, none⟩) ∧ m = d + 1 ∧ j < ns.length ∧ Ups ns j d ∧ (top ≠ 0 → belowF ns (d + 2 + r) (ns.getD j default).id top = R) ∧ (top = 0 → R = false))) ∧ wr = w)
  case atStart =>
    refine ⟨.inr ⟨i, d0, 13 - d0, rfl, rfl, hi, HU.out, fun h0 => ?_, fun h0 => ?_⟩, rfl⟩
    · rw [HR.out]
      unfold blw
      rw [show d0 + 2 + (13 - d0) = 15 by omega]
      simp [h0]
    · rw [HR.out]
      unfold blw
      simp [h0]
  case round =>
    obtain ⟨hrel, rfl⟩ := hrel
    rcases hrel with ⟨rfl, rfl⟩ | ⟨j, d, r, rfl, rfl, hj, hu, h1, h2⟩
    · go_wp2_with fail
      go_ret
      exact ⟨rfl, rfl⟩
    · obtain ⟨c0, _, _, _, _, _, hl⟩ := HN.out.cells j hj
      have hf := HA.out.fid hj
      have c9 := HN.out.above j hj hf
      have hge := getD_in hj
      have hpos := HA.out.pos hj
      obtain ⟨x, hx⟩ : ∃ x, x = ns[j] := ⟨_, rfl⟩
      rw [← hx] at c0 c9 hge hpos hf
      rw [hge] at h1
      have HH := Shut.mk (And.intro h1 (And.intro h2 (And.intro hu (And.intro hge hf))))
      obtain ⟨o, ho⟩ : ∃ o, o = fid ns x.parent := ⟨_, rfl⟩
      rw [← ho] at c9
      have HO := Shut.mk ho
      clear ho h1 h2 hu hge hf hx
      by_cases ht : x.id = top
      · have HT := Shut.mk hpos
        clear hpos
        subst ht
        go_wp2_with fail
        go_ret
        refine ⟨?_, rfl⟩
        have h1 := HH.out.1 (by have := HT.out; omega)
        rw [show d + 2 + r = (d + 1 + r) + 1 by omega, belowF_same rfl] at h1
        rw [← h1]
        rfl
      · cases o with
        | none =>
          simp only [Option.map_none, ptr_none] at c9
          go_wp2_with fail
          go_roundg 0
          case measure => omega
          case rel =>
            obtain ⟨h1, h2, hu, hge, hf⟩ := HH.out
            refine ⟨.inl ⟨⟨rfl, ?_⟩⟩, rfl⟩
            by_cases h0 : top = 0
            · exact h2 h0
            · have h3 := h1 h0
              rw [show d + 2 + r = ((d + r) + 1) + 1 by omega, belowF_some ht hf, hge] at h3
              rw [← h3]
              cases hu with
              | root =>
                have e0 := HA.out.2.2.2
                rw [hge] at e0
                rw [e0]
                exact belowF_none (fun e => h0 e.symm) HA.out.zero
              | step _ _ hk _ =>
                rw [hge, ← HO.out] at hk
                cases hk
        | some k =>
          simp only [Option.map_some, ptr_some] at c9
          go_wp2_with fail
          go_roundg d
          case measure => omega
          case rel =>
            obtain ⟨h1, h2, hu, hge, hf⟩ := HH.out
            refine ⟨.inr ⟨?_⟩, rfl⟩
            cases hu with
            | root =>
              have e0 := HA.out.2.2.2
              have h4 := HO.out
              rw [hge] at e0
              rw [e0, HA.out.zero] at h4
              cases h4
            | @step _ k' d' _ _ hk hu' =>
              rw [hge, ← HO.out] at hk
              cases hk
              obtain ⟨hkl, ek⟩ := fid_lt HO.out.symm
              refine ⟨k, d', r, rfl, rfl, hkl, hu', fun h0 => ?_, h2⟩
              have h3 := h1 h0
              rw [show d' + 1 + 2 + r = (d' + 2 + r) + 1 by omega, belowF_some ht hf, hge, ← ek, ← getD_in hkl] at h3
              exact h3
end Go.Proofs.Ytfceohoegeebjaa
/- GrwA: A region that draws its order, whose operations only read and whose callees make new memory alone and answer one value wherever they are called: one walk, in the text's order. -/
namespace Go.Proofs.Ytfceohoegeebjaa
open Go.RowKit

/-- A world with more memory. -/
structure Grow (w : World) where
  val : World
  bel : Below w.heap.size w val
instance {w : World} : Nonempty (Grow w) := ⟨⟨w, Below.refl _ _⟩⟩
theorem wp_region_grow {P : Program} {id : Nat} {Q : Exit → Act → World → Prop} {a : Act} {w : World} {l : List Oper} (hm : P.follows .mixedOrders = true) (hB : Region.lexB .any l.toArray = true)
    (h : wpQuiet P l.toArray (fun W => ∃ X : Grow w, W = X.val) (fun a' => ∀ w', (∃ X : Grow w, w' = X.val) → Q .normal a' w') l a) : (Code.region id l.toArray true).wp P Q a w :=
  wp_region_quiet (C := fun W => ∃ X : Grow w, W = X.val) hm hB ⟨⟨w.drew, Below.drew (Below.refl _ _)⟩, rfl⟩ (by simpa using h)
theorem Grow.cell {w : World} (X : Grow w) {p : Addr} {v : Value} (h : w.cell? p = some v) (hl : p.block < w.heap.size) : X.val.cell? p = some v := (X.bel.cell hl).trans h
theorem calls_grow {P : Program} {f : FuncId} {args : Array Value} {w : World} {v : Value} (h : ∀ W, Below w.heap.size w W → Calls P f args W fun e w' => e = .returned v ∧ Below W.heap.size W w') (X : Grow w) :
    Calls P f args X.val fun e w'' => e = .returned v ∧ ∃ Y : Grow w, w'' = Y.val :=
  (h X.val X.bel).mono fun _ w'' ⟨he, hb⟩ => ⟨he, ⟨w'', X.bel.trans (hb.mono X.bel.size)⟩, rfl⟩
theorem calls_same {P : Program} {f : FuncId} {args : Array Value} {w : World} {v : Value} (h : ∀ W, Below w.heap.size w W → Calls P f args W fun e w' => e = .returned v ∧ w' = W) (X : Grow w) :
    Calls P f args X.val fun e w'' => e = .returned v ∧ ∃ Y : Grow w, w'' = Y.val :=
  (h X.val X.bel).mono fun _ _ ⟨he, hb⟩ => ⟨he, X, hb⟩
end Go.Proofs.Ytfceohoegeebjaa
/- PaI: The program's own NameOk: its text is gone through rune by rune. -/
namespace Go.Proofs.Ytfceohoegeebjaa
open Go.RowKit
open Go.PlainAid (bt)
attribute [local go_sem ↓] Go.wp_at_zero Go.wp_at_succ

theorem get_bt9 (s : ByteArray) (j : Nat) (h : j < s.size) : bt s j = ((s.get! j).toNat : Int) := by
  unfold bt
  rw [dif_pos h]
  simp [ByteArray.get!, getElem!_pos, h]
  rfl
/-- A rune that is no byte below 128 goes over bytes from 128 on alone, and not past the end. -/
theorem decode_far (s : ByteArray) (pos : Nat) (h : pos < s.size) (ha : 128 ≤ bt s pos) : pos + (Utf8.decode s pos).2 ≤ s.size ∧ (Utf8.decode s pos).2 ≤ 4 ∧ ∀ d, d < (Utf8.decode s pos).2 → 128 ≤ bt s (pos + d) := by
  have hg := fun d (q : pos + d < s.size) => get_bt9 s (pos + d) q
  have g0 := hg 0 (by omega)
  simp only [Nat.add_zero] at g0
  have g1 := hg 1
  have g2 := hg 2
  have g3 := hg 3
  clear hg
  have hn : ¬ (s.get! (pos + 0)).toNat < 128 := by simp only [Nat.add_zero]; omega
  simp only [Utf8.decode, hn, if_false]
  have hone : pos + 1 ≤ s.size ∧ 1 ≤ 4 ∧ ∀ d, d < 1 → 128 ≤ bt s (pos + d) := ⟨by omega, by omega, fun d hd => by
    have : d = 0 := by omega
    subst this; exact ha⟩
  split
  · rename_i q
    simp only [Bool.and_eq_true, decide_eq_true_eq, beq_iff_eq] at q
    split
    · refine ⟨by simp only; omega, by simp only; omega, fun d hd => ?_⟩
      have h1 := g1 q.2.1
      rcases (show d = 0 ∨ d = 1 from by simp only at hd; omega) with rfl | rfl
      · exact ha
      · rw [h1]; omega
    · exact hone
  · split
    · rename_i q
      simp only [Bool.and_eq_true, decide_eq_true_eq, beq_iff_eq] at q
      split
      · refine ⟨by simp only; omega, by simp only; omega, fun d hd => ?_⟩
        have h1 := g1 q.1.2.1
        have h2 := g2 q.2.1
        rcases (show d = 0 ∨ d = 1 ∨ d = 2 from by simp only at hd; omega) with rfl | rfl | rfl
        · exact ha
        · rw [h1]; omega
        · rw [h2]; omega
      · exact hone
    · split
      · rename_i q
        simp only [Bool.and_eq_true, decide_eq_true_eq, beq_iff_eq] at q
        split
        · refine ⟨by simp only; omega, by simp only; omega, fun d hd => ?_⟩
          have h1 := g1 q.1.1.2.1
          have h2 := g2 q.1.2.1
          have h3 := g3 q.2.1
          rcases (show d = 0 ∨ d = 1 ∨ d = 2 ∨ d = 3 from by simp only at hd; omega) with rfl | rfl | rfl | rfl
          · exact ha
          · rw [h1]; omega
          · rw [h2]; omega
          · rw [h3]; omega
        · exact hone
      · exact hone
theorem rune_low (s : ByteArray) (pos : Nat) (h : pos < s.size) (ha : bt s pos < 128) : ((Utf8.decode s pos).1 : Int) = bt s pos ∧ (Utf8.decode s pos).2 = 1 := by
  have e : bt s pos = ((s[pos]'h).toNat : Int) := by unfold bt; rw [dif_pos h]
  rw [decode_ascii s pos h (by omega), e]
  exact ⟨rfl, rfl⟩
theorem rune_high (s : ByteArray) (pos : Nat) (h : pos < s.size) (ha : 128 ≤ bt s pos) : (128 : Int) ≤ ((Utf8.decode s pos).1 : Int) ∧ 1 ≤ (Utf8.decode s pos).2 := by
  have e : bt s pos = ((s[pos]'h).toNat : Int) := by unfold bt; rw [dif_pos h]
  have := decode_high s pos h (by omega)
  omega
theorem implNameRune (r : Int) (b : Bool) (hb : b = true ↔ nameN r) (w : World) : Calls Try.prog 107 #[.int .i32 r] w fun e w' => e = .returned (.bool b) ∧ w' = w := by
  have HB := Shut.mk hb
  clear hb
  unfold nameN at HB
  by_cases c1 : 97 ≤ r
  · by_cases c2 : r ≤ 122
    · have hb : b = true := HB.out.2 (by omega)
      subst hb
      go_enter Try.func107, Try.ntmps107
      go_wp2_with fail
      go_ret
      exact ⟨rfl, rfl⟩
    · have c3 : 48 ≤ r := by omega
      have c4 : ¬ r ≤ 57 := by omega
      have hb : b = false := by cases b with | false => rfl | true => exact absurd (HB.out.1 rfl) (by omega)
      subst hb
      go_enter Try.func107, Try.ntmps107
      go_wp2_with fail
      go_ret
      exact ⟨rfl, rfl⟩
  · by_cases c3 : 48 ≤ r
    · by_cases c4 : r ≤ 57
      · have hb : b = true := HB.out.2 (by omega)
        subst hb
        go_enter Try.func107, Try.ntmps107
        go_wp2_with fail
        go_ret
        exact ⟨rfl, rfl⟩
      · have hb : b = false := by cases b with | false => rfl | true => exact absurd (HB.out.1 rfl) (by omega)
        subst hb
        go_enter Try.func107, Try.ntmps107
        go_wp2_with fail
        go_ret
        exact ⟨rfl, rfl⟩
    · have hb : b = false := by cases b with | false => rfl | true => exact absurd (HB.out.1 rfl) (by omega)
      subst hb
      go_enter Try.func107, Try.ntmps107
      go_wp2_with fail
      go_ret
      exact ⟨rfl, rfl⟩
theorem iter_below (w : World) (s : ByteArray) (pos : Nat) : Below w.heap.size w (w.iter s pos) := (Below.refl _ _).alloc (Nat.le_refl _) _
set_option maxRecDepth 100000 in
set_option maxHeartbeats 1000000 in
theorem implNameOk (s : ByteArray) (w : World) (hs : s.size ≤ 1048576) : Calls Try.prog 88 #[.string s] w fun e w' => e = .returned (.bool (nameB s)) ∧ Below w.heap.size w w' := by
  obtain ⟨r, hre⟩ : ∃ r, r = nameB s := ⟨_, rfl⟩
  have HRE := Shut.mk hre
  rw [← hre]
  clear hre
  have hnot (q : ¬ (1 ≤ s.size ∧ s.size ≤ 8)) : r = false := by
    rw [HRE.out]
    cases e : nameB s with
    | false => rfl
    | true => exact absurd ((nameB_iff s).1 e).2 q
  by_cases h1 : s.size < 1
  · have hr := hnot (by omega)
    subst hr
    have h1' : (s.size : Int) < 1 := by omega
    go_enter Try.func88, Try.ntmps88
    go_wp2_with fail
    go_ret
    exact ⟨rfl, Below.refl _ _⟩
  have h1' : ¬ (s.size : Int) < 1 := by omega
  by_cases h8 : 8 < s.size
  · have hr := hnot (by omega)
    subst hr
    have h8' : (8 : Int) < (s.size : Int) := by omega
    go_enter Try.func88, Try.ntmps88
    go_wp2_with fail
    go_ret
    exact ⟨rfl, Below.refl _ _⟩
  have h8' : ¬ (8 : Int) < (s.size : Int) := by omega
  clear hnot
  go_enter Try.func88, Try.ntmps88
  go_wp2_with fail
  go_loopw [2] (fun v wr => ∃ (pos : Nat), v = .bool false ∧ wr = w.iter s pos ∧ pos ≤ s.size ∧ Shut (∀ j, j < pos → nameN (bt s j))) (fun _ wr => s.size - wr.iterPos w.heap.size)
  case atStart => exact ⟨0, rfl, rfl, Nat.zero_le _, ⟨fun j hj => by omega⟩⟩
  case round =>
    obtain ⟨pos, rfl, rfl, hp, hall⟩ := hrel
    by_cases hlt : pos < s.size
    · have hnx : ∀ ty, (Instr.next (.pointer (some ⟨w.heap.size, 0, none⟩)) true ty).run Try.prog (w.iter s pos) = _ := fun ty => run_next_any w s pos ty hlt
      have hlow := rune_low s pos hlt
      have hhigh := rune_high s pos hlt
      generalize Utf8.decode s pos = D at *
      obtain ⟨rn, wd⟩ := D
      simp only at hlow hhigh hnx
      by_cases hn : nameN (bt s pos)
      · have hl : bt s pos < 128 := by unfold nameN at hn; omega
        obtain ⟨e1, rfl⟩ := hlow hl
        have HN := Shut.mk (fun W => implNameRune (rn : Int) true (by rw [e1]; exact ⟨fun _ => hn, fun _ => rfl⟩) W)
        have HA : Shut (∀ j, j < pos + 1 → nameN (bt s j)) := ⟨fun j hj => by
          by_cases e : j = pos
          · subst e; exact hn
          · exact hall.out j (by omega)⟩
        clear hn hlow hhigh e1 hl hall
        go_wp2_with fail
        refine (HN.out _).mono ?_
        rintro e w1 ⟨rfl, hw⟩
        subst hw
        go_wp2_with fail
        go_roundw
        case rel => exact ⟨pos + 1, rfl, rfl, by omega, HA⟩
        case measure => simp; omega
      · have hr : r = false := HRE.out.trans (nameB_no hlt hn)
        have HN := Shut.mk (fun W => implNameRune (rn : Int) false (by
          refine ⟨fun q => (Bool.noConfusion q), fun q => ?_⟩
          exfalso
          by_cases hl : bt s pos < 128
          · rw [(hlow hl).1] at q; exact hn q
          · have := (hhigh (by omega)).1
            unfold nameN at q
            omega) W)
        subst hr
        clear hn hlow hhigh hall
        go_wp2_with fail
        refine (HN.out _).mono ?_
        rintro e w1 ⟨rfl, hw⟩
        subst hw
        go_wp2_with fail
        go_ret
        exact ⟨rfl, iter_below _ _ _⟩
    · have hnx : ∀ ty, (Instr.next (.pointer (some ⟨w.heap.size, 0, none⟩)) true ty).run Try.prog (w.iter s pos) = _ := fun ty => run_next_end w s pos ty hlt
      have hr : r = true := HRE.out.trans ((nameB_iff s).2 ⟨fun j hj => hall.out j (by omega), by omega, by omega⟩)
      subst hr
      go_wp2_with fail
      go_ret
      exact ⟨rfl, iter_below _ _ _⟩
end Go.Proofs.Ytfceohoegeebjaa
/- LkF: Does a node stand where it may? -/
namespace Go.Proofs.Ytfceohoegeebjaa
open Go.RowKit Go.Maps BigFrame
attribute [local go_sem ↓] Go.wp_at_zero Go.wp_at_succ

set_option maxHeartbeats 2000000 in
set_option maxRecDepth 100000 in
theorem placeOk_any {w : World} {B b1 b2 : Nat} {rs : List NR} {G : Nat → Nat} {C : Int → Nat} (h : Lk w B b1 b2 rs G C (Ab (nds rs) fun _ => false)) (ha : Asc (nds rs)) (hI : NInt (nds rs)) (hS : ∀ n ∈ nds rs, n.name.size ≤ 1048576) {i : Nat} (hi : i < rs.length) :
    Calls Try.prog 63 #[.agg #[.map (some b1), .map (some b2)], nv rs[i]] w fun e w' => e = .returned (.bool (placeB (nds rs) i)) ∧ Below w.heap.size w w' := by
  have hi' : i < (nds rs).length := by rw [nds_len]; exact hi
  have he : (nds rs).getD i default = rs[i].nd := by rw [getD_in hi']; simp [nds]
  have hmem : rs[i].nd ∈ nds rs := List.mem_map.2 ⟨_, List.getElem_mem hi, rfl⟩
  have f1 := (hI _ hmem).1
  have f2 := (hI _ hmem).2
  have f3 := hS _ hmem
  have hfi := ha.fid hi'
  rw [← getD_in hi', he] at hfi
  obtain ⟨r, hr⟩ : ∃ r, r = rs[i] := ⟨_, rfl⟩
  rw [← hr] at he f1 f2 f3 hfi ⊢
  obtain ⟨R, hR⟩ : ∃ R, R = placeB (nds rs) i := ⟨_, rfl⟩
  rw [← hR]
  have HR := Shut.mk hR
  have HE := Shut.mk he
  have HL := Shut.mk h
  have HA := Shut.mk ha
  have HF := Shut.mk hfi
  clear hR he h ha hI hS hmem hr hfi
  go_enter Try.func63, Try.ntmps63
  go_upto_region 1 with fail
  refine wp_shade (fun W => Below w.heap.size w W ∧ WCells W w.heap.size [.map (some b1), .map (some b2)] ∧ WCells W (w.heap.size + 1) (ncells r)) ?_ ?_
  · refine ⟨((Below.refl _ _).alloc (Nat.le_refl _) _).alloc (by simp) _, (wcells_new w #[.map (some b1), .map (some b2)] 77).alloc _, ?_⟩
    have := wcells_new (w.alloc (.cells #[.map (some b1), .map (some b2)] 77)) #[.int .i64 r.nd.id, .int .i64 r.nd.parent, .string r.nd.name, .bool r.nd.dir, .int .i64 r.nd.schema, .int .i64 r.nd.quota, .int .i64 r.nd.len, .slice r.loc r.nd.pieces.length r.cap, .int .i64 r.nd.writer] 30
    simpa [ncells] using this
  intro W hW
  obtain ⟨hb, hx, hn⟩ := hW
  have HB := Shut.mk hb
  have b0 := (hx.2 0 _ rfl).1
  have b1' := (hx.2 1 _ rfl).1
  have n0 := (hn.2 0 _ rfl).1
  have n1 := (hn.2 1 _ rfl).1
  have n2 := (hn.2 2 _ rfl).1
  have HX := Shut.mk hn
  have hL := HL.out.below hb
  have HLW := Shut.mk hL
  have hpar : Par (nds rs) r.nd.parent := ⟨_, List.getElem_mem hi', by rw [← getD_in hi', HE.out]⟩
  obtain ⟨k, hk⟩ : ∃ k, fnm (nds rs) r.nd.parent r.nd.name = some k := by
    cases hf : fnm (nds rs) r.nd.parent r.nd.name with
    | some k => exact ⟨k, rfl⟩
    | none => exact absurd (by rw [← getD_in hi', HE.out]) (fnm_none hf _ (List.getElem_mem hi') (by rw [← getD_in hi', HE.out]))
  obtain ⟨D1, o1, t1⟩ := hL.m1
  have k1 := look_ptr keyI Try.underlying74 zeroLp o1 (key_int f1) (t1 r.nd.id)
  rw [HF.out] at k1
  obtain ⟨D2, o2, t2⟩ := hL.m2
  have k2 := look_map keyI Try.underlying75 zeroLm o2 (key_int f2) ((t2 r.nd.parent).1 hpar)
  obtain ⟨d1, d2, d3, D3, o3, t3⟩ := hL.m3 r.nd.parent hpar
  have k3 := look_ptr keyS Try.underlying81 zeroLp o3 (key_str (by unfold maxLen; omega)) (t3 r.nd.name)
  rw [hk] at k3
  simp only [Option.map_some, ptr_some] at k1 k3
  have em : ∀ g, mapV (some g) = .map (some g) := fun _ => rfl
  rw [em] at k2
  have HK := Shut.mk hk
  have HP := Shut.mk hpar
  clear hb hx hn hL hpar hk o1 t1 o2 t2 o3 t3 em d1 d2 d3
  go_quiet (fail)
  go_upto_region 2 with fail
  refine wp_shade (fun W2 => Below W.heap.size W W2) (Below.mono (B := (W.drewN nq).heap.size) ⟨rfl, rfl, rfl, Nat.le_refl _, fun _ _ => rfl⟩ (Nat.le_refl _)) ?_
  intro V hV
  have HV := Shut.mk hV
  have hnd := (HLW.out.below hV).nd
  have HND := Shut.mk hnd
  have hn := HX.out.grow hV
  have hln := hn.1
  have hkl := (fnm_lt HK.out).1
  have ck0 := (hnd.cells k hkl).1
  have lk := (hnd.cells k hkl).2.2.2.2.2.2
  have ci9 := hnd.above i hi' (HA.out.fid hi')
  have li := (hnd.cells i hi').2.2.2.2.2.2
  have hei : (nds rs)[i] = r.nd := by rw [← getD_in hi', HE.out]
  rw [hei] at ci9
  have g0 : ∀ X : Grow V, X.val.cell? ⟨w.heap.size + 1, 0, none⟩ = some (.int .i64 r.nd.id) := fun X => X.cell (hn.2 0 _ rfl).1 hln
  have g2 : ∀ X : Grow V, X.val.cell? ⟨w.heap.size + 1, 2, none⟩ = some (.string r.nd.name) := fun X => X.cell (hn.2 2 _ rfl).1 hln
  have gk : ∀ X : Grow V, X.val.cell? ⟨G k, 0, none⟩ = some (.int .i64 (nds rs)[k].id) := fun X => X.cell ck0 lk
  have gi : ∀ X : Grow V, X.val.cell? ⟨G i, 9, none⟩ = some (ptrV ((fid (nds rs) r.nd.parent).map G)) := fun X => X.cell ci9 li
  have hnm := fun X => calls_grow (w := V) (fun W' (_ : Below V.heap.size V W') => implNameOk r.nd.name W' f3) X
  have hre := fun X => calls_same (w := V) (fun W' (hb' : Below V.heap.size V W') => reaches_any (HND.out.below hb') HA.out hi') X
  have hRR : R = (nameB r.nd.name && ((nds rs)[k].id == r.nd.id) && dirB (nds rs) r.nd.parent && clm (nds rs) 4 i) := by
    rw [HR.out]
    unfold placeB
    rw [firstB_some (k := k) (by rw [HE.out]; exact HK.out), HE.out, getD_in hkl]
  have HRR := Shut.mk hRR
  have HNM := Shut.mk hnm
  have HRE := Shut.mk hre
  obtain ⟨xid, hxid⟩ : ∃ x, x = (nds rs)[k].id := ⟨_, rfl⟩
  rw [← hxid] at gk HRR
  obtain ⟨o, ho⟩ : ∃ o, o = fid (nds rs) r.nd.parent := ⟨_, rfl⟩
  rw [← ho] at gi
  have HO := Shut.mk ho
  have HEND : Shut (∀ X : Grow V, Below w.heap.size w X.val) := ⟨fun X => HB.out.trans ((HV.out.trans (X.bel.mono HV.out.size)).mono HB.out.size)⟩
  have HDIR : Shut (∀ m, o = some m → ∀ X : Grow V, X.val.cell? ⟨G m, 3, none⟩ = some (.bool ((nds rs).getD m default).dir)) := ⟨fun m hm X => by
    rw [hm] at ho
    obtain ⟨hml, _⟩ := fid_lt ho.symm
    obtain ⟨_, _, _, cm3, _, _, lm⟩ := hnd.cells m hml
    rw [getD_in hml]
    exact X.cell cm3 lm⟩
  generalize clm (nds rs) 4 i = cl at HRR HRE
  clear hnm hre hRR hxid ho hnd hn hln ck0 ci9 hei hkl li lk k1 k2 k3 b0 b1' n0 n1 n2 hV
  cases hN : nameB r.nd.name with
  | false =>
    rw [hN] at HNM HRR
    refine wp_region_grow (by kernel_rfl) (by kernel_rfl) ?_
    repeat (go_big_quiet_step (first | (go_at_call 88; exact HNM.out _) | (go_at_call 89; exact HRE.out _)))
    refine wpQuiet_nil ?_
    rintro _ ⟨X, rfl⟩
    go_wp2_with fail
    go_ret
    refine ⟨?_, HEND.out X⟩
    rw [HRR.out]
    rfl
  | true =>
    rw [hN] at HNM HRR
    by_cases hx : xid = r.nd.id
    · cases o with
      | none =>
        simp only [Option.map_none, ptr_none] at gi
        have he2 : (xid == r.nd.id) = true := by simp [hx]
        rw [dirB_none HO.out.symm] at HRR
        refine wp_region_grow (by kernel_rfl) (by kernel_rfl) ?_
        repeat (go_big_quiet_step (first | (go_at_call 88; exact HNM.out _) | (go_at_call 89; exact HRE.out _)))
        refine wpQuiet_nil ?_
        rintro _ ⟨X, rfl⟩
        go_wp2_with fail
        go_ret
        refine ⟨?_, HEND.out X⟩
        rw [HRR.out]
        simp
      | some m =>
        simp only [Option.map_some, ptr_some] at gi
        have gd := HDIR.out m rfl
        rw [dirB_some HO.out.symm] at HRR
        have he2 : (xid == r.nd.id) = true := by simp [hx]
        cases hd : ((nds rs).getD m default).dir with
        | false =>
          rw [hd] at gd
          refine wp_region_grow (by kernel_rfl) (by kernel_rfl) ?_
          repeat (go_big_quiet_step (first | (go_at_call 88; exact HNM.out _) | (go_at_call 89; exact HRE.out _)))
          refine wpQuiet_nil ?_
          rintro _ ⟨X, rfl⟩
          go_wp2_with fail
          go_ret
          refine ⟨?_, HEND.out X⟩
          rw [HRR.out]
          rw [hd]
          simp
        | true =>
          rw [hd] at gd
          refine wp_region_grow (by kernel_rfl) (by kernel_rfl) ?_
          repeat (go_big_quiet_step (first | (go_at_call 88; exact HNM.out _) | (go_at_call 89; exact HRE.out _)))
          refine wpQuiet_nil ?_
          rintro _ ⟨X, rfl⟩
          go_wp2_with fail
          go_ret
          refine ⟨?_, HEND.out X⟩
          rw [HRR.out]
          rw [hd, he2]
          simp
    · have he2 : (xid == r.nd.id) = false := by simp [hx]
      refine wp_region_grow (by kernel_rfl) (by kernel_rfl) ?_
      repeat (go_big_quiet_step (first | (go_at_call 88; exact HNM.out _) | (go_at_call 89; exact HRE.out _)))
      refine wpQuiet_nil ?_
      rintro _ ⟨X, rfl⟩
      go_wp2_with fail
      go_ret
      refine ⟨?_, HEND.out X⟩
      rw [HRR.out]
      simp [hx]
end Go.Proofs.Ytfceohoegeebjaa
/- StI: The program's own SchemaOf, GroupSize, PlaceOf, OffsetOf and Spans. -/
namespace Go.Proofs.Ytfceohoegeebjaa
open Go.RowKit
attribute [local go_sem ↓] Go.wp_at_zero Go.wp_at_succ

theorem implSch (s : Int) (w : World) : Calls Try.prog 105 #[.int .i64 s] w fun e w' => SchPost s w e w' := by
  cases h : schOk s with
  | true =>
    obtain rfl | rfl | rfl := sch_cases h
    all_goals
      clear h
      go_enter Try.func105, Try.ntmps105
      go_wp2_with fail
      go_ret3
      exact ⟨rfl, rfl⟩
  | false =>
    obtain ⟨h1, h2, h3⟩ := sch_no h
    obtain ⟨e1, e2⟩ := sch_zero h
    unfold SchPost
    rw [e1, e2, h]
    clear h e1 e2
    go_enter Try.func105, Try.ntmps105
    go_wp2_with fail
    go_ret3
    exact ⟨rfl, rfl⟩
theorem implSize (s : Int) (w : World) : Calls Try.prog 106 #[.int .i64 s] w fun e w' => e = .returned (.int .i64 (groupN s : Nat)) ∧ w' = w := by
  have HS := Shut.mk (fun W => implSch s W)
  unfold SchPost at HS
  have hk : schK s ≤ 4 := by
    cases h : schOk s with
    | true => exact (sch_bounds h).2.1
    | false => rw [(sch_zero h).1]; omega
  have hg : ((groupN s : Nat) : Int) = (schK s : Int) * 4 * 2 := by unfold groupN; push_cast; omega
  generalize schOk s = ok at *
  generalize schM s = m at *
  generalize schK s = k at *
  have HG := Shut.mk hg
  clear hg
  go_enter Try.func106, Try.ntmps106
  go_wp2_with fail
  refine (HS.out _).mono ?_
  rintro e w1 ⟨rfl, rfl⟩
  go_wp2_with fail
  go_ret
  exact ⟨by rw [HG.out]; first | rfl | (simp; done) | (congr 2; omega), rfl⟩
theorem implGroupSize (s : Int) (w : World) : Calls Try.prog 106 #[.int .i64 s] w fun e w' => e = .returned (.int .i64 (groupN s : Nat)) ∧ Below w.heap.size w w' :=
  (implSize s w).mono (fun _ _ h => ⟨h.1, by rw [h.2]; exact Below.refl _ _⟩)
theorem span_one {S n j : Nat} (h1 : j * S < n) (h2 : n ≤ j * S + S) (hS : 0 < S) : spanL S n = List.replicate j (S : Int) ++ [((n - j * S : Nat) : Int)] := by
  unfold spanL
  rw [span_last hS h1 h2]
end Go.Proofs.Ytfceohoegeebjaa
/- LkR: Right trees, plain: what the program asks of a tree is what the document asks. -/
namespace Go.Proofs.Ytfceohoegeebjaa

/-- Ids ascend, and lie below Next. -/
def idsB (T : TM) : Bool := decide (T.next ≤ 100000) && (List.range T.nodes.length).all fun i => decide ((T.nodes.getD i default).id < T.next) && (decide (i = 0) || decide ((T.nodes.getD (i - 1) default).id < (T.nodes.getD i default).id))
/-- The root. -/
def rootB (n : NM) : Bool := (n.id == 1) && (n.parent == 0) && decide (n.name = ⟨#[]⟩) && n.dir && inI n.schema 1 3
def kindB (n : NM) : Bool := if n.dir then dirOk n else fileOk n
theorem fnm_self {ns : List NM} {i : Nat} (hi : i < ns.length) : ∃ k, fnm ns ns[i].parent ns[i].name = some k ∧ k ≤ i := by
  cases hf : fnm ns ns[i].parent ns[i].name with
  | none => exact absurd rfl (fnm_none hf _ (List.getElem_mem hi) rfl)
  | some k =>
    refine ⟨k, rfl, Nat.le_of_not_lt fun hlt => ?_⟩
    exact fnm_first hf i hlt hi rfl rfl
theorem place_eq {ns : List NM} (h : Asc ns) {i : Nat} (hi : i < ns.length) (h0 : i ≠ 0) : placeB ns i = (nameB (ns.getD i default).name && decide (0 ≤ atI ns (ns.getD i default).parent) && (ns.getD (atI ns (ns.getD i default).parent).toNat default).dir &&
    (List.range i).all (fun j => ! (((ns.getD j default).parent == (ns.getD i default).parent) && decide ((ns.getD j default).name = (ns.getD i default).name))) && climbs ns 4 (ns.getD i default).id) := by
  unfold placeB
  rw [clm_climbs h hi h0]
  have e1 : firstB ns i = (List.range i).all (fun j => ! (((ns.getD j default).parent == (ns.getD i default).parent) && decide ((ns.getD j default).name = (ns.getD i default).name))) := by
    obtain ⟨k, hk, hki⟩ := fnm_self hi
    rw [firstB_some (k := k) (by rw [getD_in hi]; exact hk), getD_in hi]
    obtain ⟨hkl, kp, kn⟩ := fnm_lt hk
    rw [getD_in hkl]
    by_cases e : k = i
    · subst e
      simp only [beq_self_eq_true]
      refine (List.all_eq_true.2 fun j hj => ?_).symm
      have hj' : j < k := by simpa using hj
      have := fnm_first hk j hj' (by omega)
      rw [getD_in (by omega : j < ns.length)]
      by_cases hp : ns[j].parent = ns[k].parent
      · simp [hp, this hp]
      · simp [hp]
    · have hlt := h.lt i hi k (by omega)
      rw [getD_in hkl] at hlt
      have hne : (ns[k].id == ns[i].id) = false := by simp; omega
      rw [hne]
      symm
      refine Bool.eq_false_iff.2 fun hall => ?_
      have := List.all_eq_true.1 hall k (by simp; omega)
      rw [getD_in hkl] at this
      simp [kp, kn] at this
  have e2 : dirB ns (ns.getD i default).parent = (decide (0 ≤ atI ns (ns.getD i default).parent) && (ns.getD (atI ns (ns.getD i default).parent).toNat default).dir) := by
    rw [at_fid]
    cases hf : fid ns (ns.getD i default).parent with
    | none => rw [dirB_none hf]; simp
    | some k => rw [dirB_some hf]; simp
  rw [e1, e2]
  cases nameB (ns.getD i default).name <;> cases decide (0 ≤ atI ns (ns.getD i default).parent) <;> cases (ns.getD (atI ns (ns.getD i default).parent).toNat default).dir <;> cases climbs ns 4 (ns.getD i default).id <;> simp
theorem ids_asc {T : TM} (h : idsB T = true) (hr : rootB (T.nodes.getD 0 default) = true) (hl : 0 < T.nodes.length) : Asc T.nodes := by
  unfold idsB at h
  simp only [Bool.and_eq_true, decide_eq_true_eq, List.all_eq_true, List.mem_range, Bool.or_eq_true] at h
  unfold rootB at hr
  simp only [Bool.and_eq_true, beq_iff_eq, decide_eq_true_eq] at hr
  refine ⟨fun i hi h0 => ?_, hl, hr.1.1.1.1, hr.1.1.1.2⟩
  rcases (h.2 i hi).2 with e | e
  · omega
  · rw [getD_in hi] at e; exact e
/-- What the program asks. -/
def progB (T : TM) : Bool := inI (T.nodes.length : Int) 1 14 && idsB T && rootB (T.nodes.getD 0 default) && (List.range T.nodes.length).all fun i => kindB (T.nodes.getD i default) && (decide (i = 0) || placeB T.nodes i)
theorem prog_tree (T : TM) : progB T = treeOk T := by
  rw [Bool.eq_iff_iff]
  constructor
  · intro h
    unfold progB at h
    simp only [Bool.and_eq_true, List.all_eq_true, List.mem_range, Bool.or_eq_true, decide_eq_true_eq] at h
    obtain ⟨⟨⟨h1, h2⟩, h3⟩, h4⟩ := h
    have hl := inI_iff.1 h1
    have ha := ids_asc h2 h3 (by omega)
    have h2' := h2
    unfold idsB at h2'
    simp only [Bool.and_eq_true, decide_eq_true_eq, List.all_eq_true, List.mem_range, Bool.or_eq_true] at h2'
    refine treeOk_yes h1 h2'.1 fun i hi => ?_
    obtain ⟨k1, k2⟩ := h4 i hi
    unfold nodeOk
    rw [decide_eq_true (h2'.2 i hi).1]
    by_cases e : i = 0
    · subst e
      have h3' := h3
      unfold rootB at h3'
      simp only [Bool.and_eq_true, beq_iff_eq, decide_eq_true_eq] at h3'
      have hs := inI_iff.1 h3'.2
      unfold kindB at k1
      rw [if_pos h3'.1.2] at k1
      unfold firstOk
      rw [if_pos rfl, if_pos h3'.1.2, k1, h3'.1.1.1.1, h3'.1.1.1.2, h3'.1.1.2, h3'.1.2]
      have : ((T.nodes.getD 0 default).schema != 0) = true := by rw [bne_iff_ne]; omega
      rw [this]
      rfl
    · rw [if_neg e]
      have h5 := (h2'.2 i hi).2.resolve_left e
      rw [decide_eq_true h5]
      unfold kindB at k1
      rw [k1, ← place_eq ha hi e]
      simp [k2.resolve_left e]
  · intro h
    have h14 := treeOk_14 h
    obtain ⟨hl, he, _⟩ := treeOk_first h
    have hn : ∀ i, i < T.nodes.length → nodeOk T i = true := fun i hi => treeOk_node h hi
    have hnx : T.next ≤ 100000 := by
      unfold treeOk at h
      simp only [Bool.and_eq_true, decide_eq_true_eq] at h
      exact h.1.2
    have h0 := hn 0 hl
    unfold nodeOk at h0
    rw [if_pos rfl] at h0
    simp only [Bool.and_eq_true, decide_eq_true_eq] at h0
    obtain ⟨⟨⟨_, hf⟩, hk0⟩, _⟩ := h0
    unfold firstOk at hf
    simp only [Bool.and_eq_true, beq_iff_eq, decide_eq_true_eq, bne_iff_ne] at hf
    have hr : rootB (T.nodes.getD 0 default) = true := by
      unfold rootB
      rw [hf.1.1.1.1, hf.1.1.1.2, hf.1.1.2, hf.1.2]
      rw [if_pos hf.1.2] at hk0
      unfold dirOk at hk0
      simp only [Bool.and_eq_true] at hk0
      have := inI_iff.1 hk0.1.1.1.1
      have : inI (T.nodes.getD 0 default).schema 1 3 = true := inI_iff.2 ⟨by omega, by omega⟩
      rw [this]
      rfl
    have hids : idsB T = true := by
      unfold idsB
      rw [decide_eq_true hnx]
      simp only [Bool.true_and]
      refine List.all_eq_true.2 fun i hi => ?_
      have hi' : i < T.nodes.length := by simpa using hi
      have h1 := hn i hi'
      unfold nodeOk at h1
      simp only [Bool.and_eq_true] at h1
      rw [h1.1.1.1]
      by_cases e : i = 0
      · simp [e]
      · have h2 := h1.1.1.2
        rw [if_neg e] at h2
        rw [h2]
        simp
    have ha := ids_asc hids hr hl
    unfold progB
    rw [hids, hr, inI_iff.2 ⟨by omega, by omega⟩]
    simp only [Bool.true_and]
    refine List.all_eq_true.2 fun i hi => ?_
    have hi' : i < T.nodes.length := by simpa using hi
    have h1 := hn i hi'
    unfold nodeOk at h1
    simp only [Bool.and_eq_true, Bool.or_eq_true] at h1
    unfold kindB
    rw [h1.1.2]
    by_cases e : i = 0
    · simp [e]
    · have h2 := h1.2.resolve_left (by simp [e])
      rw [place_eq ha hi' e]
      simp only [Bool.true_and, Bool.or_eq_true]
      right
      simp only [Bool.and_eq_true]
      exact h2
theorem tree_tall {T : TM} (h : treeOk T = true) : Tall T.nodes := by
  rw [← prog_tree] at h
  unfold progB at h
  simp only [Bool.and_eq_true, List.all_eq_true, List.mem_range, Bool.or_eq_true, decide_eq_true_eq] at h
  obtain ⟨⟨⟨h1, h2⟩, h3⟩, h4⟩ := h
  have hl := inI_iff.1 h1
  have ha := ids_asc h2 h3 (by omega)
  refine ⟨ha, fun i hi => ?_⟩
  by_cases e : i = 0
  · subst e; exact ⟨0, by omega, .root⟩
  · have := (h4 i hi).2.resolve_left e
    unfold placeB at this
    simp only [Bool.and_eq_true] at this
    exact clm_ups ha 4 i hi this.2
end Go.Proofs.Ytfceohoegeebjaa
/- LkG: The program's own tests of a node: schemas, the root, directories, files. -/
namespace Go.Proofs.Ytfceohoegeebjaa
open Go.RowKit Go.Maps BigFrame
attribute [local go_sem ↓] Go.wp_at_zero Go.wp_at_succ

theorem sch_in (s : Int) : schOk s = inI s 1 3 := by
  cases h : schOk s with
  | true =>
    obtain rfl | rfl | rfl := sch_cases h <;> rfl
  | false =>
    obtain ⟨h1, h2, h3⟩ := sch_no h
    symm
    refine Bool.eq_false_iff.2 fun hc => ?_
    have := inI_iff.1 hc
    omega
theorem implSchemaOk (s : Int) (w : World) : Calls Try.prog 84 #[.int .i64 s] w fun e w' => e = .returned (.bool (inI s 1 3)) ∧ w' = w := by
  have HS := Shut.mk (fun W => implSch s W)
  unfold SchPost at HS
  rw [sch_in] at HS
  generalize inI s 1 3 = ok at *
  generalize schM s = m at *
  generalize schK s = k at *
  go_enter Try.func84, Try.ntmps84
  go_wp2_with fail
  refine (HS.out _).mono ?_
  rintro e w1 ⟨rfl, rfl⟩
  go_wp2_with fail
  go_ret
  exact ⟨rfl, rfl⟩
set_option maxRecDepth 100000 in
set_option maxHeartbeats 1000000 in
theorem implRootOk (id parent : Int) (name : ByteArray) (dir : Bool) (schema quota len writer : Int) (loc : Option Addr) (n cap : Nat) (w : World) : Calls Try.prog 60 #[.agg #[.int .i64 id, .int .i64 parent, .string name, .bool dir, .int .i64 schema, .int .i64 quota, .int .i64 len, .slice loc n cap, .int .i64 writer]] w fun e w' => e = .returned (.bool ((id == 1) && (parent == 0) && (name.toList == []) && dir && inI schema 1 3)) ∧ Below w.heap.size w w' := by
  obtain ⟨R, hR⟩ : ∃ R, R = ((id == 1) && (parent == 0) && (name.toList == []) && dir && inI schema 1 3) := ⟨_, rfl⟩
  have HR := Shut.mk hR
  rw [← hR]
  clear hR
  go_enter Try.func60, Try.ntmps60
  go_wp2_with (go_at_call 84; refine (implSchemaOk _ _).mono ?_; rintro e w1 ⟨rfl, rfl⟩)
  all_goals
    go_ret
    exact ⟨by rw [HR.out]; simp [*], (Below.refl _ _).alloc (Nat.le_refl _) _⟩
set_option maxRecDepth 100000 in
set_option maxHeartbeats 1000000 in
theorem implDirOk (id parent : Int) (name : ByteArray) (dir : Bool) (schema quota len writer : Int) (loc : Option Addr) (n cap : Nat) (w : World) : Calls Try.prog 86 #[.agg #[.int .i64 id, .int .i64 parent, .string name, .bool dir, .int .i64 schema, .int .i64 quota, .int .i64 len, .slice loc n cap, .int .i64 writer]] w fun e w' => e = .returned (.bool (((schema == 0) || inI schema 1 3) && decide (0 ≤ quota) && decide (quota ≤ 1000) && (len == 0) && ((n : Int) == 0) && (writer == 0))) ∧ Below w.heap.size w w' := by
  obtain ⟨R, hR⟩ : ∃ R, R = (((schema == 0) || inI schema 1 3) && decide (0 ≤ quota) && decide (quota ≤ 1000) && (len == 0) && ((n : Int) == 0) && (writer == 0)) := ⟨_, rfl⟩
  have HR := Shut.mk hR
  rw [← hR]
  clear hR
  go_enter Try.func86, Try.ntmps86
  go_wp2_with (go_at_call 84; refine (implSchemaOk _ _).mono ?_; rintro e w1 ⟨rfl, rfl⟩)
  all_goals
    go_ret
    exact ⟨by rw [HR.out]; first | (simp [*]; done) | (simp [*]; omega), (Below.refl _ _).alloc (Nat.le_refl _) _⟩
/-- What the program asks of a file. -/
def fileQ (schema quota len writer : Int) (ps : List PM) : Bool := inI schema 1 3 && (quota == 0) && inI writer 0 9 && decide (ps.length ≤ 40) && ps.all (pieceOk schema) && (sumP ps == len) && decide (sumP ps ≤ 1000)
theorem fileQ_piece {schema quota len writer : Int} {ps : List PM} {k : Nat} (hk : k < ps.length) (h : pieceOk schema ps[k] = false) : fileQ schema quota len writer ps = false := by
  unfold fileQ
  have : ps.all (pieceOk schema) = false := Bool.eq_false_iff.2 fun hc => by rw [List.all_eq_true.1 hc _ (List.getElem_mem hk)] at h; cases h
  rw [this]
  simp
set_option maxRecDepth 100000 in
set_option maxHeartbeats 2000000 in
theorem implFileOk (id parent : Int) (name : ByteArray) (dir : Bool) (schema quota len writer : Int) (loc : Option Addr) (ps : List PM) (cap : Nat) (w : World) {lo hi : Nat} (hp : RRow w loc (pcs ps) lo hi) (hl : ps.length ≤ 1048576) :
    Calls Try.prog 87 #[.agg #[.int .i64 id, .int .i64 parent, .string name, .bool dir, .int .i64 schema, .int .i64 quota, .int .i64 len, .slice loc ps.length cap, .int .i64 writer]] w fun e w' => e = .returned (.bool (fileQ schema quota len writer ps)) ∧ Below w.heap.size w w' := by
  obtain ⟨R, hR⟩ : ∃ R, R = fileQ schema quota len writer ps := ⟨_, rfl⟩
  have HR := Shut.mk hR
  rw [← hR]
  obtain ⟨n, hn⟩ : ∃ n, n = ps.length := ⟨_, rfl⟩
  rw [← hn] at hl ⊢
  have HN := Shut.mk hn
  have HP := Shut.mk hp
  clear hR hn hp
  by_cases hh : inI schema 1 3 = true ∧ quota = 0 ∧ 0 ≤ writer ∧ writer ≤ 9 ∧ n ≤ 40
  · obtain ⟨h1, rfl, h3, h4, h5⟩ := hh
    have h5' : ¬ (40 : Int) < (n : Int) := by omega
    go_enter Try.func87, Try.ntmps87
    go_upto_region 3 with (go_at_call 84; refine (implSchemaOk _ _).mono ?_; rintro e w1 ⟨rfl, rfl⟩)
    refine wp_shade (fun W => Below w.heap.size w W ∧ WCells W w.heap.size [.int .i64 id, .int .i64 parent, .string name, .bool dir, .int .i64 schema, .int .i64 0, .int .i64 len, .slice loc n cap, .int .i64 writer]) ⟨(Below.refl _ _).alloc (Nat.le_refl _) _, wcells_new w #[.int .i64 id, .int .i64 parent, .string name, .bool dir, .int .i64 schema, .int .i64 0, .int .i64 len, .slice loc n cap, .int .i64 writer] 30⟩ ?_
    intro W hW
    have HW := Shut.mk hW
    have c7 := (hW.2.2 7 _ rfl).1
    clear hW
    go_wp2_with fail
    go_loopw [3, 34] (fun sm i wr => ∃ (k : Nat), sm = .int .i64 (sumP (ps.take k)) ∧ i = .int .i64 k ∧ k ≤ n ∧ Shut (∀ j (hj : j < ps.length), j < k → pieceOk schema ps[j] = true) ∧ Shut (Below w.heap.size w wr ∧ WCells wr w.heap.size [.int .i64 id, .int .i64 parent, .string name, .bool dir, .int .i64 schema, .int .i64 0, .int .i64 len, .slice loc n cap, .int .i64 writer])) (fun _ i _ => n - (intOf i).toNat)
    case atStart => exact ⟨0, rfl, rfl, Nat.zero_le _, ⟨fun _ _ h => absurd h (Nat.not_lt_zero _)⟩, HW⟩
    case round =>
      clear HW c7
      obtain ⟨k, rfl, rfl, hk, hall, hW⟩ := hrel
      have hsum : 0 ≤ sumP (ps.take k) ∧ sumP (ps.take k) ≤ 32 * 40 := by
        have := sumP_ok (s := schema) (ps := ps.take k) (fun p hp => by
          obtain ⟨j, hj, rfl⟩ := List.mem_iff_getElem.1 hp
          simp only [List.getElem_take]
          simp only [List.length_take] at hj
          exact hall.out j (by omega) (by omega))
        have hlt : (ps.take k).length ≤ 40 := by simp; omega
        omega
      have c4 := (hW.out.2.2 4 _ rfl).1
      have c6 := (hW.out.2.2 6 _ rfl).1
      have lw := hW.out.2.1
      by_cases hlt : k < n
      · have hkp : k < ps.length := by rw [← HN.out]; exact hlt
        obtain ⟨b, off, rfl, lb, hc⟩ := pcs_at HP.out (by omega)
        obtain ⟨p0, p1⟩ := hc k hkp
        rw [← hW.out.1.cell (p := ⟨b, off + k * 2, none⟩) lb] at p0
        rw [← hW.out.1.cell (p := ⟨b, off + k * 2 + 1, none⟩) lb] at p1
        have hst := sumP_take ps k hkp
        obtain ⟨q, hq⟩ : ∃ q, q = ps[k] := ⟨_, rfl⟩
        rw [← hq] at p0 p1 hst
        have HQ := Shut.mk hq
        have HST := Shut.mk hst
        have lb' : b < wr.heap.size := Nat.lt_of_lt_of_le lb hW.out.1.size
        have k0 : (0 : Int) ≤ (k : Int) := by omega
        have k1 : (k : Int) < (n : Int) := by omega
        have HSZ := Shut.mk (fun W => implSize schema W)
        have hgb := groupN_bounds schema
        obtain ⟨sm, hsm⟩ : ∃ sm, sm = sumP (ps.take k) := ⟨_, rfl⟩
        rw [← hsm] at hsum HST ⊢
        have HSM := Shut.mk hsm
        have hpk : pieceOk schema q = (decide (1 ≤ q.group) && decide (q.group ≤ 100000) && (decide (1 ≤ q.len) && decide (q.len ≤ (groupN schema : Nat)))) := rfl
        have HPK := Shut.mk hpk
        obtain ⟨gn, hgn⟩ : ∃ gn, gn = groupN schema := ⟨_, rfl⟩
        rw [← hgn] at HSZ HPK hgb
        obtain ⟨gr, ln⟩ := q
        have HBW : Shut (∀ W, Below wr.heap.size wr W → Below w.heap.size w W) := ⟨fun W hb => hW.out.1.trans (hb.mono hW.out.1.size)⟩
        clear hc hq hst hsm hpk hgn
        have HNO : Shut (pieceOk schema ⟨gr, ln⟩ = false → Ending.returned (.bool false) = .returned (.bool R)) := ⟨fun h => by rw [HR.out, fileQ_piece hkp (by rw [← HQ.out]; exact h)]⟩
        dsimp only at p0 p1 HST HPK
        have HQQ := HQ
        go_upto_region 7 with fail
        by_cases a1 : gr < 1
        · go_quiet (first | (go_at_call 106; exact Calls.quiet_of_same (HSZ.out _)))
          go_wp2_with fail
          go_ret
          exact ⟨HNO.out (by rw [HPK.out]; simp; omega), HBW.out _ (((Below.refl _ _).alloc (Nat.le_refl _) _).trans (Below.mono (B := wr.heap.size) ⟨rfl, rfl, rfl, Nat.le_refl _, fun _ _ => rfl⟩ (Nat.le_refl _)))⟩
        · by_cases a2 : 100000 < gr
          · go_quiet (first | (go_at_call 106; exact Calls.quiet_of_same (HSZ.out _)))
            go_wp2_with fail
            go_ret
            exact ⟨HNO.out (by rw [HPK.out]; simp; omega), HBW.out _ (((Below.refl _ _).alloc (Nat.le_refl _) _).trans (Below.mono (B := wr.heap.size) ⟨rfl, rfl, rfl, Nat.le_refl _, fun _ _ => rfl⟩ (Nat.le_refl _)))⟩
          · by_cases a3 : ln < 1
            · go_quiet (first | (go_at_call 106; exact Calls.quiet_of_same (HSZ.out _)))
              go_wp2_with fail
              go_ret
              exact ⟨HNO.out (by rw [HPK.out]; simp; omega), HBW.out _ (((Below.refl _ _).alloc (Nat.le_refl _) _).trans (Below.mono (B := wr.heap.size) ⟨rfl, rfl, rfl, Nat.le_refl _, fun _ _ => rfl⟩ (Nat.le_refl _)))⟩
            · by_cases a4 : (gn : Int) < ln
              · go_quiet (first | (go_at_call 106; exact Calls.quiet_of_same (HSZ.out _)))
                go_wp2_with fail
                go_ret
                exact ⟨HNO.out (by rw [HPK.out]; simp; omega), HBW.out _ (((Below.refl _ _).alloc (Nat.le_refl _) _).trans (Below.mono (B := wr.heap.size) ⟨rfl, rfl, rfl, Nat.le_refl _, fun _ _ => rfl⟩ (Nat.le_refl _)))⟩
              · go_quiet (first | (go_at_call 106; exact Calls.quiet_of_same (HSZ.out _)))
                go_wp2_with fail
                go_roundw
                case rel =>
                  have hpo : pieceOk schema ⟨gr, ln⟩ = true := by rw [HPK.out]; simp; omega
                  have hbn : Below wr.heap.size wr ((wr.alloc (.cells #[.int .i64 gr, .int .i64 ln] 117)).drewN nq) := ((Below.refl _ _).alloc (Nat.le_refl _) _).trans (Below.mono (B := wr.heap.size) ⟨rfl, rfl, rfl, Nat.le_refl _, fun _ _ => rfl⟩ (Nat.le_refl _))
                  refine ⟨k + 1, ?_, by go_num, by omega, ⟨fun j hj hjk => ?_⟩, ⟨HBW.out _ hbn, hW.out.2.grow hbn⟩⟩
                  · rw [HST.out]
                  · rcases Nat.lt_succ_iff_lt_or_eq.1 hjk with h | h
                    · exact hall.out j hj h
                    · subst h
                      rw [← HQ.out]
                      exact hpo
                case measure => simp [intOf]; omega
      · have hlt' : ¬ (k : Int) < (n : Int) := by omega
        obtain rfl : k = n := by omega
        have hts : sumP (ps.take k) = sumP ps := by rw [HN.out, List.take_length]
        have hallp : ps.all (pieceOk schema) = true := List.all_eq_true.2 fun p hp => by
          obtain ⟨j, hj, rfl⟩ := List.mem_iff_getElem.1 hp
          exact hall.out j hj (by rw [HN.out]; exact hj)
        have hRR : R = ((sumP ps == len) && decide (sumP ps ≤ 1000)) := by
          rw [HR.out]
          unfold fileQ
          rw [hallp, h1, show inI writer 0 9 = true from inI_iff.2 ⟨h3, h4⟩, decide_eq_true (by rw [← HN.out]; exact h5)]
          simp
        have HRR := Shut.mk hRR
        rw [hts] at hsum ⊢
        generalize sumP ps = sm at *
        clear hallp hRR hts
        go_wp2_with fail
        all_goals
          go_ret
          refine ⟨?_, hW.out.1⟩
          rw [HRR.out]
          first | (simp [*]; done) | (simp [*]; intros; omega)
  · have HH := Shut.mk hh
    have hRF : R = false := by
      rw [HR.out]
      refine Bool.eq_false_iff.2 fun hc => hh ?_
      unfold fileQ at hc
      simp only [Bool.and_eq_true, beq_iff_eq, decide_eq_true_eq] at hc
      obtain ⟨⟨⟨⟨⟨⟨a1, a2⟩, a3⟩, a4⟩, _⟩, _⟩, _⟩ := hc
      exact ⟨a1, a2, (inI_iff.1 a3).1, (inI_iff.1 a3).2, by rw [HN.out]; exact a4⟩
    rw [hRF]
    clear hh hRF
    go_enter Try.func87, Try.ntmps87
    go_upto_region 3 with (go_at_call 84; refine (implSchemaOk _ _).mono ?_; rintro e w1 ⟨rfl, rfl⟩)
    all_goals first
      | (go_ret; exact ⟨rfl, (Below.refl _ _).alloc (Nat.le_refl _) _⟩)
      | exact absurd ⟨by assumption, by omega, by omega, by omega, by omega⟩ HH.out
end Go.Proofs.Ytfceohoegeebjaa
/- LkH: The program's own tests of a node, and of the Ids of a tree. -/
namespace Go.Proofs.Ytfceohoegeebjaa
open Go.RowKit Go.Maps BigFrame
attribute [local go_sem ↓] Go.wp_at_zero Go.wp_at_succ

theorem dirQ_is (n : NM) : (((n.schema == 0) || inI n.schema 1 3) && decide (0 ≤ n.quota) && decide (n.quota ≤ 1000) && (n.len == 0) && ((n.pieces.length : Int) == 0) && (n.writer == 0)) = dirOk n := by
  unfold dirOk
  have e1 : ((n.schema == 0) || inI n.schema 1 3) = inI n.schema 0 3 := by
    unfold inI
    rw [Bool.eq_iff_iff]
    simp
    omega
  have e2 : inI n.quota 0 1000 = (decide (0 ≤ n.quota) && decide (n.quota ≤ 1000)) := rfl
  have e3 : ((n.pieces.length : Int) == 0) = decide (n.pieces.length = 0) := by
    rw [Bool.eq_iff_iff]
    simp
  rw [e1, e2, e3]
  cases inI n.schema 0 3 <;> cases decide (0 ≤ n.quota) <;> cases decide (n.quota ≤ 1000) <;> rfl
theorem fileQ_is (n : NM) : fileQ n.schema n.quota n.len n.writer n.pieces = fileOk n := by
  unfold fileQ fileOk
  cases inI n.schema 1 3 <;> cases (n.quota == 0) <;> cases inI n.writer 0 9 <;> cases decide (n.pieces.length ≤ 40) <;> rfl
theorem rootQ_is (n : NM) : ((n.id == 1) && (n.parent == 0) && (n.name.toList == []) && n.dir && inI n.schema 1 3) = rootB n := by
  unfold rootB
  have : (n.name.toList == []) = decide (n.name = ⟨#[]⟩) := by
    rw [Bool.eq_iff_iff]
    simp only [beq_iff_eq, decide_eq_true_eq]
    constructor
    · intro h
      rw [Go.ByteArray.toList_eq] at h
      exact ByteArray.ext (Array.toList_inj.1 h)
    · intro h
      rw [h, Go.ByteArray.toList_eq]
  rw [this]
set_option maxRecDepth 100000 in
set_option maxHeartbeats 1000000 in
theorem implNodeOk_any (id parent : Int) (name : ByteArray) (dir : Bool) (schema quota len writer : Int) (loc : Option Addr) (ps : List PM) (cap : Nat) (w : World) {lo hi : Nat} (hp : RRow w loc (pcs ps) lo hi) (hl : ps.length ≤ 1048576) :
    Calls Try.prog 62 #[.agg #[.int .i64 id, .int .i64 parent, .string name, .bool dir, .int .i64 schema, .int .i64 quota, .int .i64 len, .slice loc ps.length cap, .int .i64 writer]] w fun e w' => e = .returned (.bool (if dir then dirOk ⟨id, parent, name, dir, schema, quota, len, ps, writer⟩ else fileOk ⟨id, parent, name, dir, schema, quota, len, ps, writer⟩)) ∧ Below w.heap.size w w' := by
  have h1 := fun W => implDirOk id parent name dir schema quota len writer loc ps.length cap W
  have h2 := fun W (hb : Below w.heap.size w W) => implFileOk id parent name dir schema quota len writer loc ps cap W (hp.below hb) hl
  rw [← dirQ_is, ← fileQ_is]
  dsimp only
  generalize fileQ schema quota len writer ps = f at *
  obtain ⟨n, hn⟩ : ∃ n, n = ps.length := ⟨_, rfl⟩
  rw [← hn] at h1 h2 ⊢
  generalize ((schema == 0 || inI schema 1 3) && decide (0 ≤ quota) && decide (quota ≤ 1000) && len == 0 && (n : Int) == 0 && writer == 0) = d at *
  have H1 := Shut.mk h1
  have H2 := Shut.mk h2
  clear h1 h2 hn hp hl
  cases dir with
  | true =>
    go_enter Try.func62, Try.ntmps62
    go_wp2_with fail
    refine (H1.out _).mono ?_
    rintro e w1 ⟨rfl, hb⟩
    go_wp2_with fail
    go_ret
    exact ⟨rfl, ((Below.refl _ _).alloc (Nat.le_refl _) _).trans (hb.mono (by simp))⟩
  | false =>
    go_enter Try.func62, Try.ntmps62
    go_wp2_with fail
    refine (H2.out _ ((Below.refl _ _).alloc (Nat.le_refl _) _)).mono ?_
    rintro e w1 ⟨rfl, hb⟩
    go_wp2_with fail
    go_ret
    exact ⟨rfl, ((Below.refl _ _).alloc (Nat.le_refl _) _).trans (hb.mono (by simp))⟩
theorem implNodeOk (r : NR) (w : World) {lo hi : Nat} (hp : RRow w r.loc (pcs r.nd.pieces) lo hi) (hl : r.nd.pieces.length ≤ 1048576) : Calls Try.prog 62 #[nv r] w fun e w' => e = .returned (.bool (kindB r.nd)) ∧ Below w.heap.size w w' :=
  implNodeOk_any r.nd.id r.nd.parent r.nd.name r.nd.dir r.nd.schema r.nd.quota r.nd.len r.nd.writer r.loc r.nd.pieces r.cap w hp hl
/-- Up to here Ids are as they should be. -/
def IdsTo (T : TM) (k : Nat) : Prop := ∀ j, j < k → (T.nodes.getD j default).id < T.next ∧ (j = 0 ∨ (T.nodes.getD (j - 1) default).id < (T.nodes.getD j default).id)
theorem ids_yes {T : TM} (h : T.next ≤ 100000) (hk : IdsTo T T.nodes.length) : idsB T = true := by
  unfold idsB
  rw [decide_eq_true h]
  simp only [Bool.true_and]
  refine List.all_eq_true.2 fun i hi => ?_
  obtain ⟨h1, h2⟩ := hk i (by simpa using hi)
  rw [decide_eq_true h1]
  rcases h2 with e | e
  · simp [e]
  · rw [decide_eq_true e]; simp
theorem ids_no {T : TM} {k : Nat} (hk : k < T.nodes.length) (h : ¬ ((T.nodes.getD k default).id < T.next ∧ (k = 0 ∨ (T.nodes.getD (k - 1) default).id < (T.nodes.getD k default).id))) : idsB T = false := by
  refine Bool.eq_false_iff.2 fun hc => h ?_
  unfold idsB at hc
  simp only [Bool.and_eq_true, List.all_eq_true, List.mem_range, Bool.or_eq_true, decide_eq_true_eq] at hc
  exact hc.2 k hk
theorem ids_next {T : TM} (h : ¬ T.next ≤ 100000) : idsB T = false := by
  unfold idsB
  rw [decide_eq_false h]
  simp
set_option maxRecDepth 100000 in
set_option maxHeartbeats 2000000 in
theorem implIdsOk {w : World} {v : Value} {T : TM} {lo hi : Nat} (h : TSee w v T lo hi) (hf : NFit T) : Calls Try.prog 59 #[v] w fun e w' => e = .returned (.bool (idsB T)) ∧ Below w.heap.size w w' := by
  obtain ⟨a, cap, rs, rfl, hr, hm⟩ := h
  have hl : rs.length ≤ 1048576 := by unfold NFit at hf; rw [← hr, nds_len] at hf; omega
  obtain ⟨R, hR⟩ : ∃ R, R = idsB T := ⟨_, rfl⟩
  rw [← hR]
  have HR := Shut.mk hR
  have hlen : rs.length = T.nodes.length := by rw [← hr, nds_len]
  have hget : ∀ j (hj : j < rs.length), T.nodes.getD j default = rs[j].nd := fun j hj => by
    rw [← hr, getD_in (by rw [nds_len]; exact hj)]
    simp [nds]
  have HG := Shut.mk hget
  obtain ⟨n, hn⟩ : ∃ n, n = rs.length := ⟨_, rfl⟩
  rw [← hn] at hl hlen ⊢
  have HL := Shut.mk hlen
  have HN := Shut.mk hn
  have HM := Shut.mk hm
  obtain ⟨nx, hnx⟩ : ∃ nx, nx = T.next := ⟨_, rfl⟩
  rw [← hnx]
  have HX := Shut.mk hnx
  clear hR hr hm hf hlen hget hn hnx
  by_cases h1 : nx ≤ 100000
  · go_enter Try.func59, Try.ntmps59
    go_upto_region 3 with fail
    refine wp_shade (fun W => BX w W a n cap nx) (BX.new w a n cap nx 26) ?_
    intro W hg
    have HW := Shut.mk hg
    have x0 := (hg.box.2 0 _ rfl).1
    clear hg
    go_wp2_with fail
    go_loopw [11] (fun i wr => ∃ (k : Nat), i = .int .i64 k ∧ k ≤ n ∧ Shut (IdsTo T k) ∧ Shut (BX w wr a n cap nx)) (fun i _ => n - (intOf i).toNat)
    case atStart => exact ⟨0, rfl, Nat.zero_le _, ⟨fun _ h => absurd h (Nat.not_lt_zero _)⟩, HW⟩
    case round =>
      clear HW x0
      obtain ⟨k, rfl, hk, hto, hW⟩ := hrel
      have x0 := (hW.out.box.2 0 _ rfl).1
      have x1 := (hW.out.box.2 1 _ rfl).1
      have lw := hW.out.box.1
      by_cases hlt : k < n
      · have hkr : k < rs.length := by rw [← HN.out]; exact hlt
        obtain ⟨b, off, rfl, lb, hc⟩ := TR.nat HM.out (by omega)
        have hnk := (hc k hkr).below hW.out.bel lb
        have hge := HG.out k hkr
        obtain ⟨r, hr⟩ : ∃ r, r = rs[k] := ⟨_, rfl⟩
        rw [← hr] at hnk hge
        have HGE := Shut.mk hge
        obtain ⟨c0, c1, c2, c3, c4, c5, c6, c7, c8⟩ := hnk
        have lb' : b < wr.heap.size := Nat.lt_of_lt_of_le lb hW.out.bel.size
        have k0 : (0 : Int) ≤ (k : Int) := by omega
        have k1 : (k : Int) < (n : Int) := by omega
        have HBN : Shut (∀ q, BX w ((wr.alloc (.cells #[.int .i64 r.nd.id, .int .i64 r.nd.parent, .string r.nd.name, .bool r.nd.dir, .int .i64 r.nd.schema, .int .i64 r.nd.quota, .int .i64 r.nd.len, .slice r.loc r.nd.pieces.length r.cap, .int .i64 r.nd.writer] 30)).drewN q) (some ⟨b, off, none⟩) n cap nx) := ⟨fun q => hW.out.below (((Below.refl _ _).alloc (Nat.le_refl _) _).trans (Below.mono (B := wr.heap.size) ⟨rfl, rfl, rfl, Nat.le_refl _, fun _ _ => rfl⟩ (Nat.le_refl _)))⟩
        have hpr : ∀ (hkp : 0 < k), wr.cell? ⟨b, off + (k - 1) * 9, none⟩ = some (.int .i64 (T.nodes.getD (k - 1) default).id) := fun hkp => by
          rw [HG.out (k - 1) (by omega)]
          exact ((hc (k - 1) (by omega)).below hW.out.bel lb).1
        have HPR := Shut.mk hpr
        clear hc hr hge hpr
        obtain ⟨pid, hpid⟩ : ∃ p, p = (T.nodes.getD (k - 1) default).id := ⟨_, rfl⟩
        rw [← hpid] at HPR
        have HPI := Shut.mk hpid
        clear hpid
        obtain ⟨id, hid⟩ : ∃ p, p = r.nd.id := ⟨_, rfl⟩
        rw [← hid] at c0 HBN
        have HID := Shut.mk hid
        clear hid
        by_cases a1 : nx ≤ id
        · have HF : Shut (R = false) := ⟨by rw [HR.out]; exact ids_no (by rw [← HL.out]; exact hlt) (fun hc => by rw [HGE.out, ← HID.out, ← HX.out] at hc; omega)⟩
          go_upto_region 6 with fail
          go_quiet (fail)
          go_wp2_with fail
          go_ret
          exact ⟨by rw [HF.out]; rfl, (HBN.out _).bel⟩
        · by_cases a2 : 0 < k
          · have cp := HPR.out a2
            have hk1 : (k : Int) - 1 = ((k - 1 : Nat) : Int) := by omega
            have hk2 : (0 : Int) ≤ ((k - 1 : Nat) : Int) := by omega
            have hk3 : ((k - 1 : Nat) : Int) < (n : Int) := by omega
            have hkp : (0 : Int) < (k : Int) := by omega
            by_cases a3 : id ≤ pid
            · have HF : Shut (R = false) := ⟨by rw [HR.out]; exact ids_no (by rw [← HL.out]; exact hlt) (fun hc => by rw [HGE.out, ← HID.out, ← HPI.out] at hc; omega)⟩
              go_upto_region 6 with fail
              go_quiet (fail)
              go_wp2_with fail
              go_ret
              exact ⟨by rw [HF.out]; rfl, (HBN.out _).bel⟩
            · go_upto_region 6 with fail
              go_quiet (fail)
              go_wp2_with fail
              go_roundw
              case rel =>
                refine ⟨k + 1, by go_num, by omega, ⟨fun j hj => ?_⟩, ⟨HBN.out _⟩⟩
                rcases Nat.lt_succ_iff_lt_or_eq.1 hj with h | h
                · exact hto.out j h
                · subst h
                  rw [HGE.out, ← HID.out, ← HPI.out, ← HX.out]
                  exact ⟨by omega, .inr (by omega)⟩
              case measure => simp [intOf]; omega
          · have hkn : decide ((0 : Int) < (k : Int)) = false := by simp; omega
            have hkn' : ¬ (0 : Int) < (k : Int) := by omega
            go_upto_region 6 with fail
            go_quiet (fail)
            go_wp2_with fail
            go_roundw
            case rel =>
              refine ⟨k + 1, by go_num, by omega, ⟨fun j hj => ?_⟩, ⟨HBN.out _⟩⟩
              rcases Nat.lt_succ_iff_lt_or_eq.1 hj with h | h
              · exact hto.out j h
              · subst h
                rw [HGE.out, ← HID.out, ← HX.out]
                exact ⟨by omega, .inl (by omega)⟩
            case measure => simp [intOf]; omega
      · have hlt' : ¬ (k : Int) < (n : Int) := by omega
        obtain rfl : k = n := by omega
        have HT : Shut (R = true) := ⟨by rw [HR.out]; exact ids_yes (by rw [← HX.out]; exact h1) (by rw [← HL.out]; exact hto.out)⟩
        go_wp2_with fail
        go_ret
        exact ⟨by rw [HT.out]; rfl, hW.out.bel⟩
  · have HF : Shut (R = false) := ⟨by rw [HR.out]; exact ids_next (by rw [← HX.out]; exact h1)⟩
    go_enter Try.func59, Try.ntmps59
    go_wp2_with fail
    go_ret
    exact ⟨by rw [HF.out]; rfl, (Below.refl _ _).alloc (Nat.le_refl _) _⟩
end Go.Proofs.Ytfceohoegeebjaa
