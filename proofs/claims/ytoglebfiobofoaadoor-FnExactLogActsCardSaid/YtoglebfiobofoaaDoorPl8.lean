/- Texts of ours, laid one behind the other: LogI, LogJ, EsA, EsM, LawLog, VarBack, EdX, ActA, LogA, ActB. -/
import Derived.Test.YtoglebfiobofoaaDoorPl7
import Derived.RangeFuncCalls
import Derived.RegionIn
import Derived.BigRegionIn
import Derived.Tactics2
import Derived.PlainAid
import Derived.OwnWalk
import Derived.Deep.RegionHeld3
import Derived.Deep.DrawnRows
/- LogI: The program's own reader of a log: a range over the bound reader of frames that breaks off at what is no record. -/
namespace Go.Proofs.YtoglebfiobofoaaDoor
set_option maxRecDepth 100000
open Go.RowKit Go.Shelf
attribute [local go_sem] Oper.semAt_some

theorem own_isCells {w : World} {B n sz t r : Nat} {v : Value} {L : List Value} {o : Obj} (h : w.ownsRow B t sz v n L) (hr : w.heap[r]? = some o) (ho : o.isCells = false) : v.ownBlock ≠ some r := by
  intro e
  obtain ⟨h1, ⟨rfl, _⟩ | ⟨g, cap, cur, rfl, b, c, _⟩⟩ := h
  · cases e
  · simp [Value.ownBlock] at e
    subst e
    rw [c] at hr
    cases hr
    cases ho
theorem keeps_below {W W' : World} (h : Below W.heap.size W W') : KeepsOthers W W' := ⟨h.size, fun k _ hk _ => (h.block k (Array.getElem?_eq_some_iff.1 hk).1).trans hk⟩
theorem cut_log (s : ByteArray) (k : Nat) (h : k ≤ s.size) (w : World) : (Instr.slice 9 (.string s) none (some (.int .i64 (k : Int))) none).run Tryd.prog w = .ok (.string (s.extract 0 k)) w := by
  rw [run_slice_string_h (ht := Tryd.underlying9) (kh := .i64) (h0 := by omega) (h2 := by omega), Int.toNat_natCast]
theorem own_low {w : World} {B C n sz t : Nat} {v : Value} {L : List Value} (h : w.ownsRow B t sz v n L) (hB : C ≤ B) : w.ownsRow C t sz v n L := by
  obtain ⟨h1, h2 | ⟨g, cap, cur, a, b, c⟩⟩ := h
  · exact ⟨h1, .inl h2⟩
  · exact ⟨h1, .inr ⟨g, cap, cur, a, Nat.le_trans hB b, c⟩⟩
/-- While the program reads a log: its three boxes, and the row of records. -/
structure RI (w : World) (s : ByteArray) (pre : List (ByteArray × Nat)) (X : World) : Prop where
  good : ∀ x ∈ pre, isRec x = true
  log : ∃ v, WCells X (w.heap.size + 1 + 1) [v, .string (s.extract 0 (W.endOf pre))] ∧ X.ownsRow (w.heap.size + 1 + 1 + 1) 28 5 v pre.length (ecs (recE pre))
  file : WCells X w.heap.size [.string s]
  res : WCells X (w.heap.size + 1) [.slice none 0 0, .string ⟨#[]⟩]
  bel : Below w.heap.size w X
  siz : w.heap.size + 1 + 1 + 1 ≤ X.heap.size
def RX (w : World) (s : ByteArray) (all : List (ByteArray × Nat)) (X : World) : Prop := ∃ pre x, all = pre ++ [x] ∧ isRec x = false ∧ (∃ post, W.framesOf s = pre ++ x :: post) ∧ RI w s pre X
theorem RI.turn {w X Y : World} {s : ByteArray} {pre : List (ByteArray × Nat)} {row : Option Nat} (h : RI w s pre X) (hg : X.grownBy Y row) (hr : ∀ r, row = some r → w.heap.size + 1 + 1 + 1 ≤ r ∧ ∃ o : Obj, X.heap[r]? = some o ∧ o.isCells = false) : RI w s pre Y := by
  obtain ⟨v, h1, h2⟩ := h.log
  have hc : ∀ {b : Nat} {L : List Value}, b < w.heap.size + 1 + 1 + 1 → WCells X b L → WCells Y b L := fun hb hw => by
    refine wc_grown hw hg fun e => ?_
    have := (hr _ e).1
    omega
  refine ⟨h.good, ⟨v, hc (by omega) h1, h2.kept hg ?_⟩, hc (by omega) h.file, hc (by omega) h.res, h.bel.grown hg h.bel.size fun k e => by have := (hr k e).1; omega, Nat.le_trans h.siz hg.size⟩
  cases e : row with
  | none => exact Classical.em _
  | some r => obtain ⟨-, o, h3, h4⟩ := hr r e; exact .inr (own_isCells h2 h3 h4)
theorem RI.below {w X Y : World} {s : ByteArray} {pre : List (ByteArray × Nat)} (h : RI w s pre X) (hb : Below X.heap.size X Y) : RI w s pre Y := h.turn (grown_of hb) fun r e => by cases e
/-- A record more. -/
theorem RI.more {w X Xa Y : World} {s : ByteArray} {pre : List (ByteArray × Nat)} {x : ByteArray × Nat} {v v' : Value} (h : RI w s pre X) (hx : isRec x = true) (ha : Below X.heap.size X Xa) (hc : X.cell? ⟨w.heap.size + 1 + 1, 0, none⟩ = some v)
    (ho : Y.ownsRow (w.heap.size + 1 + 1 + 1) 28 5 v' (pre.length + 1) (ecs (recE pre) ++ ecells (readE x.1).1)) (hg : Xa.grownBy Y v.ownBlock) :
    (∀ b L, b < w.heap.size + 1 + 1 + 1 → WCells X b L → WCells Y b L) ∧ KeepsOthers Xa Y ∧ Below w.heap.size Xa Y ∧ RI w s (pre ++ [x]) ((Y.setCell ⟨w.heap.size + 1 + 1, 0, none⟩ v').setCell ⟨w.heap.size + 1 + 1, 1, none⟩ (.string (s.extract 0 x.2))) := by
  have h2 := h.below ha
  obtain ⟨v0, h3, h4⟩ := h2.log
  obtain ⟨v1, h3', h4'⟩ := h.log
  have e1 : v1 = v := Option.some.inj (((h3'.2 0 _ rfl).1).symm.trans hc)
  have e0 : v0 = v := by
    have := (h3.2 0 _ rfl).1
    rw [ha.cell (p := ⟨w.heap.size + 1 + 1, 0, none⟩) (cell_ltE hc), hc] at this
    exact (Option.some.inj this).symm
  subst e0
  have hlt : ∀ q, v0.ownBlock = some q → w.heap.size + 1 + 1 + 1 ≤ q := fun q e => (h4.lt q e).1
  have hcl : ∀ b L, b < w.heap.size + 1 + 1 + 1 → WCells X b L → WCells Y b L := fun b L hb hw => wc_grown (hw.grow ha) hg fun e => by have := hlt b e; omega
  have hB : Below w.heap.size Xa Y := (Below.refl _ _).grown hg (Nat.le_trans (by have := h2.siz; omega) (Nat.le_refl _)) fun k e => by have := hlt k e; omega
  refine ⟨hcl, ⟨hg.size, fun k o hk ho' => (hg.block k (Array.getElem?_eq_some_iff.1 hk).1 fun e => own_isCells h4 hk ho' e.symm).trans hk⟩, hB, ?_⟩
  have hne : ∀ q, v'.ownBlock = some q → q ≠ w.heap.size + 1 + 1 := fun q e => by have := (ho.lt q e).1; omega
  have hk : ∀ (Z : World) (i : Nat) (y : Value), Z.ownsRow (w.heap.size + 1 + 1 + 1) 28 5 v' (pre.length + 1) (ecs (recE pre) ++ ecells (readE x.1).1) → (Z.setCell ⟨w.heap.size + 1 + 1, i, none⟩ y).ownsRow (w.heap.size + 1 + 1 + 1) 28 5 v' (pre.length + 1) (ecs (recE pre) ++ ecells (readE x.1).1) := fun Z i y h => h.kept (grownBy_setCell Z (w.heap.size + 1 + 1) i y) (.inr fun e => hne _ e rfl)
  refine ⟨fun y hy => ?_, ⟨v', ?_, ?_⟩, ?_, ?_, ?_, ?_⟩
  · rcases List.mem_append.1 hy with hy | hy
    · exact h.good y hy
    · rw [List.mem_singleton.1 hy]; exact hx
  · rw [W.endOf_snoc]
    exact ((hcl _ _ (by omega) h3').set 0 v' (by simp)).set 1 (.string (s.extract 0 x.2)) (by simp)
  · rw [recE_snoc, ← ecs_snoc, List.length_append]
    exact hk _ _ _ (hk _ _ _ ho)
  · exact ((hcl _ _ (by omega) h.file).other ⟨w.heap.size + 1 + 1, 0, none⟩ _ (by simp; omega)).other ⟨w.heap.size + 1 + 1, 1, none⟩ _ (by simp; omega)
  · exact ((hcl _ _ (by omega) h.res).other ⟨w.heap.size + 1 + 1, 0, none⟩ _ (by simp)).other ⟨w.heap.size + 1 + 1, 1, none⟩ _ (by simp)
  · exact ((h2.bel.trans hB).setCell (p := ⟨w.heap.size + 1 + 1, 0, none⟩) (by simp; omega) _).setCell (p := ⟨w.heap.size + 1 + 1, 1, none⟩) (by simp; omega) _
  · have := h2.siz; have := hg.size; simp; omega
/-- The end of the reading: the answer is laid, and the mark of the range is taken. -/
theorem RI.fin {w X : World} {s T : ByteArray} {va : Option Addr} {vn vc D : Nat} (h : RI w s (logL s) X) (hl : X.ownsRow (w.heap.size + 1 + 1 + 1) 28 5 (.slice va vn vc) (logL s).length (ecs (recE (logL s)))) (hD : w.heap.size + 1 + 1 + 1 ≤ D) (hK : X.heap[D]? = some (.deferred (some []))) :
    ((X.setCell ⟨w.heap.size + 1, 0, none⟩ (.slice va vn vc)).setCell ⟨w.heap.size + 1, 1, none⟩ (.string T)).heap[D]? = some (.deferred (some [])) ∧
    WCells (((X.setCell ⟨w.heap.size + 1, 0, none⟩ (.slice va vn vc)).setCell ⟨w.heap.size + 1, 1, none⟩ (.string T)).putObj D (.deferred none)) (w.heap.size + 1) [.slice va vn vc, .string T] ∧
    (((X.setCell ⟨w.heap.size + 1, 0, none⟩ (.slice va vn vc)).setCell ⟨w.heap.size + 1, 1, none⟩ (.string T)).putObj D (.deferred none)).ownsRow w.heap.size 28 5 (.slice va vn vc) (logE s).length (ecs (logE s)) ∧
    Below w.heap.size w (((X.setCell ⟨w.heap.size + 1, 0, none⟩ (.slice va vn vc)).setCell ⟨w.heap.size + 1, 1, none⟩ (.string T)).putObj D (.deferred none)) := by
  have hlt := (Array.getElem?_eq_some_iff.1 hK).1
  obtain ⟨Y, hY⟩ : ∃ Y, Y = X.setCell ⟨w.heap.size + 1, 0, none⟩ (.slice va vn vc) := ⟨_, rfl⟩
  obtain ⟨Z, hZ⟩ : ∃ Z, Z = Y.setCell ⟨w.heap.size + 1, 1, none⟩ (.string T) := ⟨_, rfl⟩
  rw [← hY, ← hZ]
  have g1 : X.grownBy Y (some (w.heap.size + 1)) := by rw [hY]; exact grownBy_setCell X _ _ _
  have g2 : Y.grownBy Z (some (w.heap.size + 1)) := by rw [hZ]; exact grownBy_setCell Y _ _ _
  have g3 : Z.grownBy (Z.putObj D (.deferred none)) (some D) := grownBy_putObj' Z D _
  have d1 := (g1.block D hlt (by simp; omega)).trans hK
  have d2 := (g2.block D (Nat.lt_of_lt_of_le hlt g1.size) (by simp; omega)).trans d1
  have hb : ∀ q, (Value.slice va vn vc).ownBlock = some q → w.heap.size + 1 + 1 + 1 ≤ q := fun q e => (hl.lt q e).1
  have n1 : (Value.slice va vn vc).ownBlock ≠ some (w.heap.size + 1) := fun e => by have := hb _ e; omega
  have o2 := (hl.kept g1 (.inr n1)).kept g2 (.inr n1)
  have c0 : WCells Z (w.heap.size + 1) [.slice va vn vc, .string T] := by
    rw [hZ, hY]
    exact (h.res.set 0 (.slice va vn vc) (by simp)).set 1 (.string T) (by simp)
  refine ⟨d2, wc_grown c0 g3 (by simp; omega), ?_, ?_⟩
  · have := own_low (o2.kept g3 (.inr (own_isCells o2 d2 rfl))) (C := w.heap.size) (by omega)
    unfold logE
    rw [recE_len]
    exact this
  · exact ((h.bel.grown g1 h.bel.size (fun k e => by cases e; omega)).grown g2 (Nat.le_trans h.bel.size g1.size) (fun k e => by cases e; omega)).grown g3 (Nat.le_trans h.bel.size (Nat.le_trans g1.size g2.size)) (fun k e => by cases e; omega)
theorem RI.own (w : World) (s : ByteArray) : OwnFrom (w.heap.size + 1 + 1 + 1) (RI w s) := fun _ _ _ _ h hg hr => h.turn hg hr
theorem RX.own (w : World) (s : ByteArray) : OwnFrom (w.heap.size + 1 + 1 + 1) (RX w s) := fun _ _ _ _ ⟨p, x, h1, h2, h3, h4⟩ hg hr => ⟨p, x, h1, h2, h3, h4.turn hg hr⟩
theorem RI.start (w : World) (s : ByteArray) (t1 t2 : TypeId) : RI w s [] (((w.alloc (.cells #[.string s] t1)).alloc (.cells #[.slice none 0 0, .string ⟨#[]⟩] t2)).alloc (.cells #[.slice none 0 0, .string ⟨#[]⟩] t2)) := by
  have h1 := wcells_new w #[.string s] t1
  have h2 := wcells_new (w.alloc (.cells #[.string s] t1)) #[.slice none 0 0, .string ⟨#[]⟩] t2
  have h3 := wcells_new ((w.alloc (.cells #[.string s] t1)).alloc (.cells #[.slice none 0 0, .string ⟨#[]⟩] t2)) #[.slice none 0 0, .string ⟨#[]⟩] t2
  simp only [World.size_alloc] at h2 h3
  have e0 : s.extract 0 (W.endOf []) = ⟨#[]⟩ := by rw [W.endOf_nil]; apply ByteArray.ext; simp
  exact ⟨by simp, ⟨.slice none 0 0, by rw [e0]; exact h3, World.ownsRow_nil _ _ _ _⟩, (h1.alloc _).alloc _, h2.alloc _, (((Below.refl _ w).alloc (Nat.le_refl _) _).alloc (by simp) _).alloc (by simp; omega) _, by simp⟩
/-- What is wrong where a log is read. -/
def faultV (s : ByteArray) : Value := if logAt s < s.size then .iface 74 (.agg #[.int .i64 2]) else .nilIface
def RecPost (s : ByteArray) (w : World) (e : Ending) (w' : World) : Prop :=
  ∃ v, e = .returned (.tuple #[.agg #[v, .string (s.extract 0 (logAt s))], faultV s]) ∧ w'.ownsRow w.heap.size 28 5 v (logE s).length (ecs (logE s)) ∧ Below w.heap.size w w'

set_option maxRecDepth 100000 in
set_option maxHeartbeats 2000000 in
theorem implReadRecords (s : ByteArray) (w : World) (ht : SumTab w) : Calls Tryd.prog 25 #[.string s] w fun e w' => RecPost s w e w' := by
  have HT : Shut (SumTab w) := ⟨ht⟩
  clear ht
  obtain ⟨i0, hi, hz0, hz1, hz2⟩ := info_parts infoEditL
  have HS := Shut.mk (RI.start w s)
  refine (callsIn_wide (n := 4)).1 ?_
  refine callsIn_of_wp_marks Tryd.func25 rfl trivial ?_ rfl
  simp only [Tryd.ntmps25, List.size_toArray, List.length_cons, List.length_nil, Nat.reduceAdd, Nat.reduceSub, Array.replicate_succ, Array.replicate_zero, List.push_toArray, List.append_toArray, List.nil_append, List.cons_append]
  gi_wp2
  have hB0 : Below w.heap.size w (((w.alloc (.cells #[.string s] 9)).alloc (.cells #[.slice none 0 0, .string ⟨#[]⟩] 52)).alloc (.cells #[.slice none 0 0, .string ⟨#[]⟩] 52)) := (HS.out _ _).bel
  refine range_or (id := 0) (gf := 39) (r := .string s) (encs := frEnc) (B := w.heap.size) (W.framesOf s) rfl (enters_of Tryd.func39 (by kernel_rfl) rfl) (fun _ => rfl) (by simp; omega)
    (RI w s) (RX w s) (by simpa using RI.own w s) (by simpa using RX.own w s) (HS.out _ _)
    (fun x => { tmps := #[.string s, .pointer (some ⟨w.heap.size, 0, none⟩), .pointer (some ⟨w.heap.size + 1, 0, none⟩), .nilIface, .pointer (some ⟨w.heap.size + 1 + 1, 0, none⟩), .string x.1, .int .i64 (x.2 : Int), undef, undef, .string s, .func (.func 39) #[.string s] #[], .string x.1, .int .i64 (x.2 : Int), undef, undef, undef, undef, undef, undef, undef, undef, undef, undef, undef, undef, undef, undef, undef, undef, undef, undef, undef, undef, undef, undef, undef, undef, undef, undef, undef], defers := [] }) ?assign ?body ?seq ?done ?stop
  case assign =>
    intro l x X K hK
    dsimp only [frEnc]
    gi_wp2
    exact hK
  case seq =>
    intro l J Jx X hX hJ hR h0
    exact frames_or s w HT.out _ l J Jx hJ hR X (hB0.trans (hX.mono hB0.size)) h0
  case body =>
    rintro l pre x post X hxs hI
    have hxr := framesOf_rec (s := s) (x := x) (by rw [hxs]; simp)
    have hpl : pre.length < 20000 := by have := W.framesOf_len s; rw [hxs] at this; simp at this; omega
    obtain ⟨r, b⟩ := x
    dsimp only at hxr ⊢
    obtain ⟨hr1, hr2, hr3⟩ := hxr
    have HI := Shut.mk hI
    have HXS := Shut.mk hxs
    have hre := implReadEdit r
    generalize hrq : readE r = re at hre
    have HRE := Shut.mk hrq
    obtain ⟨X1, ok⟩ := re
    dsimp only at hre
    have HRD := Shut.mk hre
    clear hI hxs hrq hre HS hB0
    cases ok with
    | false =>
      gi_wp2_with (refine ⟨trivial, ?_⟩; gi_at_call 40; refine (CallsIn.inRound l (callsIn_wide.2 (HRD.out _ (by omega)))).mono ?_; rintro e w2 ⟨rfl, hb2⟩)
      have hb3 := hb2.alloc hb2.size (.cells #[.int .i64 X1.kind, .string X1.path, .string X1.dest, .int .i64 X1.num, .int .i64 X1.who] 28)
      exact ⟨keeps_below hb3, hb3.mono HI.out.bel.size, .inr ⟨rfl, pre, (r, b), rfl, by unfold isRec; rw [HRE.out], ⟨post, HXS.out⟩, HI.out.below hb3⟩⟩
    | true =>
      have HSL := Shut.mk (cut_log s b hr3)
      gi_wp2_with (first
        | (refine ⟨trivial, ?_⟩; gi_at_call 40; refine (CallsIn.inRound l (callsIn_wide.2 (HRD.out _ (by omega)))).mono ?_; rintro e w2 ⟨rfl, hb2⟩; have hb3 := hb2.alloc hb2.size (.cells #[.int .i64 X1.kind, .string X1.path, .string X1.dest, .int .i64 X1.num, .int .i64 X1.who] 28); have HI3 := Shut.mk (HI.out.below hb3); have HB3 := Shut.mk hb3; obtain ⟨v, hlc, hlo⟩ := HI3.out.log; have c0 := (hlc.2 0 _ rfl).1; have hbx : WCells (w2.alloc (.cells #[.int .i64 X1.kind, .string X1.path, .string X1.dest, .int .i64 X1.num, .int .i64 X1.who] 28)) w2.heap.size (ecells X1) := wcells_new w2 _ _; have b0 := (hbx.2 0 _ rfl).1; have b1 := (hbx.2 1 _ rfl).1; have b2 := (hbx.2 2 _ rfl).1; have b3 := (hbx.2 3 _ rfl).1; have b4 := (hbx.2 4 _ rfl).1; have hz3 := HI3.out.siz; clear hlc hbx hb3 hb2)
        | (gi_at_builtin; refine wpListIn_append_own _ rfl _ _ 33 rfl (w.heap.size + 1 + 1 + 1) 28 i0 _ 5 56 Tryd.underlying33 hi hz0 hz1 hz2 rfl (by decide) _ _ _ rfl (hlo.alloc _) ⟨w2.heap.size + 1, 0, none⟩ 1 1 [.int .i64 X1.kind, .string X1.path, .string X1.dest, .int .i64 X1.num, .int .i64 X1.who] rfl rfl ?c1 ?c2 ?c3 ?c4 ?c5 ?_))
      case c1 => exact World.news_of_block (cs := #[.int .i64 X1.kind, .string X1.path, .string X1.dest, .int .i64 X1.num, .int .i64 X1.who]) (t := 28) (fr := (0, 0)) (by simpa using heap_alloc_new (w2.alloc (.cells #[.int .i64 X1.kind, .string X1.path, .string X1.dest, .int .i64 X1.num, .int .i64 X1.who] 28)) _)
      case c2 => simp [Value.oneCell']
      case c3 => unfold maxLen; omega
      case c4 => omega
      case c5 => simp at hz3 ⊢; omega
      intro v5 w5 hown5 hgrow5 _
      have HM := HI3.out.more (x := (r, b)) (by unfold isRec; rw [HRE.out]) ((Below.refl _ _).alloc (Nat.le_refl _) _) c0 (by rw [show (readE (r, b).1).1 = X1 by rw [HRE.out]]; exact hown5) hgrow5
      obtain ⟨hcl, hko, hbw, hRI⟩ := HM
      obtain ⟨g5, cap5, rfl⟩ := ownsRow_succ hown5
      obtain ⟨v9, hlc, -⟩ := HI3.out.log
      have hw4 := hcl _ _ (by omega) hlc
      have hw0 := hcl _ _ (by omega) HI3.out.file
      have q0 := (hw4.2 0 _ rfl).1
      have f0 := (hw4.2 0 _ rfl).2
      have q1 := (hw4.2 1 _ rfl).1
      have f1 := (hw4.2 1 _ rfl).2
      have p0 := (hw0.2 0 _ rfl).1
      have HK := Shut.mk (((keeps_below HB3.out).trans (keeps_below ((Below.refl _ _).alloc (Nat.le_refl _) _))).trans hko)
      have HB := Shut.mk (((HB3.out.mono HI.out.bel.size).trans ((Below.refl _ _).alloc (by have := HI3.out.bel.size; omega) _)).trans hbw)
      have HR := Shut.mk hRI
      have hsl := HSL.out
      clear hcl hko hbw hRI hlc hw4 hw0 hown5 hgrow5 c0 b0 b1 b2 b3 b4 hlo
      gi_wp2
      exact ⟨(HK.out.trans (KeepsOthers.setCell _ _ _)).trans (KeepsOthers.setCell _ _ _), (HB.out.setCell (p := ⟨w.heap.size + 1 + 1, 0, none⟩) (by simp; omega) _).setCell (p := ⟨w.heap.size + 1 + 1, 1, none⟩) (by simp; omega) _, .inl ⟨rfl, HR.out⟩⟩
  case done =>
    rintro D X hD hI hK
    have hpl : W.framesOf s = logL s := (while_all hI.good).symm
    rw [hpl] at hI
    obtain ⟨v, hlc, hlo⟩ := hI.log
    have hle := logAt_le s
    obtain ⟨T, hT⟩ : ∃ T, T = s.extract 0 (logAt s) := ⟨_, rfl⟩
    have hTs : T.size = logAt s := by rw [hT]; simp; omega
    have HTT := Shut.mk hT
    rw [show s.extract 0 (W.endOf (logL s)) = T from hT.symm] at hlc
    have HLO := Shut.mk hlo
    obtain ⟨va, vn, vc, rfl⟩ : ∃ a n c, v = .slice a n c := by
      obtain ⟨_, ⟨rfl, _⟩ | ⟨g, cap, cur, rfl, _⟩⟩ := hlo
      · exact ⟨_, _, _, rfl⟩
      · exact ⟨_, _, _, rfl⟩
    have q0 := (hlc.2 0 _ rfl).1
    have q1 := (hlc.2 1 _ rfl).1
    have p0 := (hI.file.2 0 _ rfl).1
    have r0 := hI.res.2 0 _ rfl
    have r1 := hI.res.2 1 _ rfl
    obtain ⟨r0, r0'⟩ := r0
    obtain ⟨r1, r1'⟩ := r1
    have HI := Shut.mk hI
    have HK := Shut.mk hK
    have HD := Shut.mk hD
    clear hlc hlo hI hK hT hD
    by_cases hlt : logAt s < s.size
    · have hf : Shut (faultV s = .iface 74 (.agg #[.int .i64 2])) := ⟨if_pos hlt⟩
      have h1 : (T.size : Int) < (s.size : Int) := by omega
      clear hlt
      gi_wp2
      obtain ⟨k1, k2, k3, k4⟩ := HI.out.fin (T := T) HLO.out (by simpa using HD.out) HK.out
      have c0 := (k2.2 0 _ rfl).1
      have c1 := (k2.2 1 _ rfl).1
      refine ⟨by simp, .inl ⟨_, _, rfl, run_takeDeferred k1, ?_⟩⟩
      refine ⟨.tuple #[.agg #[.slice va vn vc, .string T], .iface 74 (.agg #[.int .i64 2])], by simp [results, Tryd.results25, go_sem, c0, c1], ?_⟩
      exact ⟨_, by rw [hf.out, ← HTT.out], k3, k4⟩
    · have hf : Shut (faultV s = .nilIface) := ⟨if_neg hlt⟩
      have h1 : ¬ (T.size : Int) < (s.size : Int) := by omega
      clear hlt
      gi_wp2
      obtain ⟨k1, k2, k3, k4⟩ := HI.out.fin (T := T) HLO.out (by simpa using HD.out) HK.out
      have c0 := (k2.2 0 _ rfl).1
      have c1 := (k2.2 1 _ rfl).1
      refine ⟨by simp, .inl ⟨_, _, rfl, run_takeDeferred k1, ?_⟩⟩
      refine ⟨.tuple #[.agg #[.slice va vn vc, .string T], .nilIface], by simp [results, Tryd.results25, go_sem, c0, c1], ?_⟩
      exact ⟨_, by rw [hf.out, ← HTT.out], k3, k4⟩
  case stop =>
    rintro D pre X hD ⟨q, x, rfl, hx, ⟨post, hxs⟩, hI⟩ hK
    have hpl : q = logL s := by unfold logL; rw [hxs, while_stop hI.good hx]
    rw [hpl] at hI
    obtain ⟨v, hlc, hlo⟩ := hI.log
    have hle := logAt_le s
    obtain ⟨T, hT⟩ : ∃ T, T = s.extract 0 (logAt s) := ⟨_, rfl⟩
    have hTs : T.size = logAt s := by rw [hT]; simp; omega
    have HTT := Shut.mk hT
    rw [show s.extract 0 (W.endOf (logL s)) = T from hT.symm] at hlc
    have HLO := Shut.mk hlo
    obtain ⟨va, vn, vc, rfl⟩ : ∃ a n c, v = .slice a n c := by
      obtain ⟨_, ⟨rfl, _⟩ | ⟨g, cap, cur, rfl, _⟩⟩ := hlo
      · exact ⟨_, _, _, rfl⟩
      · exact ⟨_, _, _, rfl⟩
    have q0 := (hlc.2 0 _ rfl).1
    have q1 := (hlc.2 1 _ rfl).1
    have p0 := (hI.file.2 0 _ rfl).1
    have r0 := hI.res.2 0 _ rfl
    have r1 := hI.res.2 1 _ rfl
    obtain ⟨r0, r0'⟩ := r0
    obtain ⟨r1, r1'⟩ := r1
    have HI := Shut.mk hI
    have HK := Shut.mk hK
    have HD := Shut.mk hD
    clear hlc hlo hI hK hT hD
    by_cases hlt : logAt s < s.size
    · have hf : Shut (faultV s = .iface 74 (.agg #[.int .i64 2])) := ⟨if_pos hlt⟩
      have h1 : (T.size : Int) < (s.size : Int) := by omega
      clear hlt
      gi_wp2
      obtain ⟨k1, k2, k3, k4⟩ := HI.out.fin (T := T) HLO.out (by simpa using HD.out) HK.out
      have c0 := (k2.2 0 _ rfl).1
      have c1 := (k2.2 1 _ rfl).1
      refine ⟨by simp, .inl ⟨_, _, rfl, run_takeDeferred k1, ?_⟩⟩
      refine ⟨.tuple #[.agg #[.slice va vn vc, .string T], .iface 74 (.agg #[.int .i64 2])], by simp [results, Tryd.results25, go_sem, c0, c1], ?_⟩
      exact ⟨_, by rw [hf.out, ← HTT.out], k3, k4⟩
    · have hf : Shut (faultV s = .nilIface) := ⟨if_neg hlt⟩
      have h1 : ¬ (T.size : Int) < (s.size : Int) := by omega
      clear hlt
      gi_wp2
      obtain ⟨k1, k2, k3, k4⟩ := HI.out.fin (T := T) HLO.out (by simpa using HD.out) HK.out
      have c0 := (k2.2 0 _ rfl).1
      have c1 := (k2.2 1 _ rfl).1
      refine ⟨by simp, .inl ⟨_, _, rfl, run_takeDeferred k1, ?_⟩⟩
      refine ⟨.tuple #[.agg #[.slice va vn vc, .string T], .nilIface], by simp [results, Tryd.results25, go_sem, c0, c1], ?_⟩
      exact ⟨_, by rw [hf.out, ← HTT.out], k3, k4⟩
end Go.Proofs.YtoglebfiobofoaaDoor
/- LogJ: The program's own ReadLog. -/
namespace Go.Proofs.YtoglebfiobofoaaDoor
set_option maxRecDepth 100000
open Go.RowKit
attribute [local go_sem ↓] Go.wp_at_zero Go.wp_at_succ

theorem own_form {w : World} {B n sz t : Nat} {v : Value} {L : List Value} (h : w.ownsRow B t sz v n L) : ∃ a c, v = .slice a n c := by
  obtain ⟨_, ⟨rfl, rfl⟩ | ⟨g, cap, cur, rfl, _⟩⟩ := h
  · exact ⟨_, _, rfl⟩
  · exact ⟨_, _, rfl⟩
set_option maxHeartbeats 1000000 in
theorem implReadLog (s : ByteArray) (w : World) (ht : SumTab w) : Calls Tryd.prog 13 #[.string s] w fun e w' => LogPost s w e w' := by
  have HC := Shut.mk (implReadRecords s w ht)
  have hle := logAt_le s
  obtain ⟨T, hT⟩ : ∃ T, T = s.extract 0 (logAt s) := ⟨_, rfl⟩
  have hTs : T.size = logAt s := by rw [hT]; simp; omega
  unfold RecPost at HC
  rw [← hT] at HC
  clear ht hT
  go_enter Tryd.func13, Tryd.ntmps13
  go_wp2_with fail
  refine HC.out.mono ?_
  rintro e w1 ⟨v, rfl, ho, hb⟩
  have HO := Shut.mk ho
  have HB := Shut.mk hb
  obtain ⟨va, vc, rfl⟩ := own_form ho
  clear ho hb HC
  go_wp2_with fail
  go_region
  all_goals go_wp2_with fail
  all_goals
    go_ret2
    have hb3 : Below w1.heap.size w1 ((w1.alloc (.cells #[.slice va (logE s).length vc, .string T] 52)).drew) := ((Below.refl _ _).alloc (Nat.le_refl _) _).drew
    exact ⟨_, rfl, HO.out.kept (row := none) ⟨hb3.os, hb3.tape, hb3.output, hb3.size, fun k hk _ => hb3.block k hk⟩ (Classical.em _), HB.out.trans (hb3.mono HB.out.size)⟩
end Go.Proofs.YtoglebfiobofoaaDoor
/- EsA: Rows of records in the laws: their sizes, their copies, two that are the same, marks that are laid into one (written by gen/mkesa.py). -/
namespace Go.Proofs.YtoglebfiobofoaaDoor
set_option maxRecDepth 100000
open Go.RowKit
attribute [local go_sem ↓] Go.wp_at_zero Go.wp_at_succ
/-- A row of records in memory. -/
abbrev ERow (w : World) (a : Option Addr) (fs : List EM) : Prop := CRow w a (ecs fs)
theorem ERow.at {w : World} {a : Option Addr} {fs : List EM} (h : ERow w a fs) (hp : 0 < fs.length) :
    ∃ b off, a = some ⟨b, off, none⟩ ∧ b < w.heap.size ∧ ∀ j (h : j < fs.length), w.cell? ⟨b, off + j * 5, none⟩ = some (.int .i64 fs[j].kind) ∧ w.cell? ⟨b, off + j * 5 + 1, none⟩ = some (.string fs[j].path) ∧ w.cell? ⟨b, off + j * 5 + 2, none⟩ = some (.string fs[j].dest) ∧ w.cell? ⟨b, off + j * 5 + 3, none⟩ = some (.int .i64 fs[j].num) ∧ w.cell? ⟨b, off + j * 5 + 4, none⟩ = some (.int .i64 fs[j].who) := by
  obtain ⟨b, off, e, hb, hc⟩ := h (by rw [ecs_len]; omega)
  exact ⟨b, off, e, hb, fun j hj => ⟨hc (j * 5) _ (flat_get ecells_len fs j hj 0 (by omega)), hc (j * 5 + 1) _ (flat_get ecells_len fs j hj 1 (by omega)), hc (j * 5 + 2) _ (flat_get ecells_len fs j hj 2 (by omega)), hc (j * 5 + 3) _ (flat_get ecells_len fs j hj 3 (by omega)), hc (j * 5 + 4) _ (flat_get ecells_len fs j hj 4 (by omega))⟩⟩
/-- What is in the records: their texts fit a machine. -/
def ESFit (fs : List EM) : Prop := fs.length ≤ 9223372036854775807 ∧ ∀ f ∈ fs, EdFit f
/-- How many bytes they have. -/
def esum : List EM → Nat
  | [] => 0
  | f :: fs => f.path.size + f.dest.size + esum fs
theorem esum_take (fs : List EM) (k : Nat) (h : k < fs.length) : esum (fs.take (k + 1)) = esum (fs.take k) + (fs[k].path.size + fs[k].dest.size) := by
  induction fs generalizing k with
  | nil => simp at h
  | cons f fs ih =>
    cases k with
    | zero => simp [esum]
    | succ k =>
      have := ih k (by simpa using h)
      simp only [List.take_succ_cons, esum, List.getElem_cons_succ]
      omega
theorem esum_mem {fs : List EM} {f : EM} (h : f ∈ fs) : f.path.size + f.dest.size ≤ esum fs := by
  induction fs with
  | nil => cases h
  | cons g fs ih =>
    rcases List.mem_cons.1 h with rfl | q
    · simp only [esum]; omega
    · have := ih q
      simp only [esum]; omega
def SzPostE (left : Int) (n : Nat) (w : World) (e : Ending) (w' : World) : Prop := ∃ r : Int, e = .returned (.int .i64 r) ∧ -1 ≤ r ∧ (0 ≤ r → r + n = left) ∧ Below w.heap.size w w'
/-- A copy of the records, in a block of its own. -/
def ToPostE (fs : List EM) (w : World) (e : Ending) (w' : World) : Prop := ∃ g, e = .returned (.slice (some ⟨g, 0, none⟩) fs.length fs.length) ∧ w.heap.size ≤ g ∧ WCells w' g (ecs fs) ∧ Below w.heap.size w w'
theorem infoEditE : (Tryd.prog.info? 28).map (fun i => (i.zero, i.size, i.bytes)) = some (some (.agg #[.int .i64 0, .string ⟨#[]⟩, .string ⟨#[]⟩, .int .i64 0, .int .i64 0]), 5, 56) := by kernel_rfl
set_option maxHeartbeats 1000000 in
theorem eqEditS_same (a b : Option Addr) (fs : List EM) (ca cb : Nat) (w : World) (ha : ERow w a fs) (hb : ERow w b fs) (hl : fs.length ≤ 1048576) :
    Calls Tryd.prog 14 #[.slice a fs.length ca, .slice b fs.length cb] w fun e w' => e = .returned (.bool true) ∧ Below w.heap.size w w' := by
  have HA : Hid (ERow w a fs) := ha
  have HB : Hid (ERow w b fs) := hb
  clear ha hb
  go_enter Tryd.func14, Tryd.ntmps14
  go_wp2_with fail
  go_loopw [5] (fun i wr => ∃ (k : Nat), i = .int .i64 k ∧ k ≤ fs.length ∧ Below w.heap.size w wr) (fun i _ => fs.length - (intOf i).toNat)
  case atStart => exact ⟨0, rfl, Nat.zero_le _, Below.refl _ _⟩
  case round =>
    obtain ⟨k, rfl, hk, hbl⟩ := hrel
    by_cases hlt : k < fs.length
    · obtain ⟨b1, o1, rfl, l1, hc1⟩ := ERow.at (HA.out.stays hbl) (by omega)
      obtain ⟨b2, o2, rfl, l2, hc2⟩ := ERow.at (HB.out.stays hbl) (by omega)
      obtain ⟨d0, d1, d2, d3, d4⟩ := hc1 k hlt
      obtain ⟨e0, e1, e2, e3, e4⟩ := hc2 k hlt
      obtain ⟨f, hfe⟩ : ∃ f, f = fs[k] := ⟨_, rfl⟩
      rw [← hfe] at d0 d1 d2 d3 d4 e0 e1 e2 e3 e4
      have HS : Hid (Below w.heap.size w wr) := hbl
      have k0 : (0 : Int) ≤ (k : Int) := by omega
      have k1 : (k : Int) < (fs.length : Int) := by omega
      clear hc1 hc2 hfe hbl
      go_wp2_with fail
      go_region_held3 (fun w' => w'.cell? ⟨b1, o1 + k * 5, none⟩ = some (.int .i64 f.kind) ∧ w'.cell? ⟨b1, o1 + k * 5 + 1, none⟩ = some (.string f.path) ∧ w'.cell? ⟨b1, o1 + k * 5 + 2, none⟩ = some (.string f.dest) ∧ w'.cell? ⟨b1, o1 + k * 5 + 3, none⟩ = some (.int .i64 f.num) ∧ w'.cell? ⟨b1, o1 + k * 5 + 4, none⟩ = some (.int .i64 f.who) ∧ w'.cell? ⟨b2, o2 + k * 5, none⟩ = some (.int .i64 f.kind) ∧ w'.cell? ⟨b2, o2 + k * 5 + 1, none⟩ = some (.string f.path) ∧ w'.cell? ⟨b2, o2 + k * 5 + 2, none⟩ = some (.string f.dest) ∧ w'.cell? ⟨b2, o2 + k * 5 + 3, none⟩ = some (.int .i64 f.num) ∧ w'.cell? ⟨b2, o2 + k * 5 + 4, none⟩ = some (.int .i64 f.who))
        (first | go_keep | (refine ⟨?_, ?_, ?_, ?_, ?_, ?_, ?_, ?_, ?_, ?_⟩ <;> first | (rw [hb2.cell (by exact l1)]; simp [*]) | (rw [hb2.cell (by exact l2)]; simp [*])))
        ((go_at_call 26; refine (eqEdit_same f _).mono ?_; rintro e w2 ⟨rfl, hb2⟩))
      all_goals go_wp2_with fail
      all_goals
        have hb3 : Below w.heap.size w w2 := HS.out.trans ((Below.drew (Below.refl _ _)).trans (hb2.mono HS.out.size))
        exact ⟨⟨k + 1, by go_num, by omega, hb3⟩, by simp [intOf]; omega⟩
    · have e : k = fs.length := by omega
      subst e
      go_wp2_with fail
      go_ret
      exact ⟨rfl, hbl⟩
theorem ecs_five (ys : List EM) (j : Nat) (hj : j < ys.length) (f : EM) : (((((ecs ys).set (j * 5) (.int .i64 f.kind)).set (j * 5 + 1) (.string f.path)).set (j * 5 + 2) (.string f.dest)).set (j * 5 + 3) (.int .i64 f.num)).set (j * 5 + 4) (.int .i64 f.who) = ecs (ys.set j f) :=
  flat_setL ecells_len ys j hj f
def MarkEds (g k n : Nat) (w : World) (e : Ending) (w' : World) : Prop := e = .returned (.int .i64 (k + 5 * n : Nat)) ∧ w.grownBy w' (some g)
set_option maxHeartbeats 1000000 in
theorem markEditS_any (g : Nat) (xs : List EM) (k ca : Nat) (w : World) (ha : WCells w g (ecs xs)) (hk : 0 < k) (hn : k + 5 * xs.length ≤ 1000000000) (hca : xs.length ≤ ca) :
    Calls Tryd.prog 15 #[.slice (some ⟨g, 0, none⟩) xs.length ca, .int .i64 k] w fun e w' => MarkEds g k xs.length w e w' := by
  obtain ⟨n, hnx⟩ : ∃ n, n = xs.length := ⟨_, rfl⟩
  have HN : Hid (n = xs.length) := hnx
  rw [← hnx]
  rw [← hnx] at hn hca
  clear hnx
  have HA : Shut (WCells w g (ecs xs)) := ⟨ha⟩
  clear ha
  go_enter Tryd.func15, Tryd.ntmps15
  go_wp2_with fail
  go_loopw [1, 5] (fun c i wr => ∃ (j : Nat) (ys : List EM), i = .int .i64 j ∧ c = .int .i64 (k + 5 * j : Nat) ∧ j ≤ n ∧ ys.length = n ∧ Shut (WCells wr g (ecs ys)) ∧ w.grownBy wr (some g)) (fun _ i _ => n - (intOf i).toNat)
  case atStart => exact ⟨0, xs, rfl, rfl, Nat.zero_le _, HN.out.symm, HA, grownBy_below (Below.refl _ _)⟩
  case round =>
    obtain ⟨j, ys, rfl, rfl, hj, hyl, hw, hgr⟩ := hrel
    have HL : Hid (ys.length = n) := hyl
    have HGR : Hid (w.grownBy wr (some g)) := hgr
    by_cases hlt : j < n
    · have j0 : (0 : Int) ≤ (j : Int) := by omega
      have j1 : (j : Int) < (n : Int) := by omega
      have hly : (ecs ys).length = n * 5 := by rw [ecs_len, hyl]
      have Q1 : Shut (∀ W : World, Calls Tryd.prog 22 #[.int .i64 ((k : Int) + 5 * (j : Int) + 1)] W fun e w' => e = .returned (.string (mt (k + 5 * j + 1))) ∧ Below W.heap.size W w') := ⟨fun W => by
        have q := markText_any (k + 5 * j + 1) W (by omega) (by omega)
        rwa [show ((k + 5 * j + 1 : Nat) : Int) = (k : Int) + 5 * (j : Int) + 1 by push_cast; omega] at q⟩
      have Q2 : Shut (∀ W : World, Calls Tryd.prog 22 #[.int .i64 ((k : Int) + 5 * (j : Int) + 1 + 1)] W fun e w' => e = .returned (.string (mt (k + 5 * j + 2))) ∧ Below W.heap.size W w') := ⟨fun W => by
        have q := markText_any (k + 5 * j + 2) W (by omega) (by omega)
        rwa [show ((k + 5 * j + 2 : Nat) : Int) = (k : Int) + 5 * (j : Int) + 1 + 1 by push_cast; omega] at q⟩
      have hw0 := hw.out
      obtain ⟨c0, z0⟩ := hw0.2 (j * 5) _ (List.getElem?_eq_getElem (by first | omega | (simp only [List.length_set]; omega)))
      have HS0 : Shut (WCells (wr.setCell ⟨g, j * 5, none⟩ (.int .i64 ((k : Int) + 5 * (j : Int)))) g ((ecs ys).set (j * 5) (.int .i64 ((k : Int) + 5 * (j : Int))))) := ⟨hw0.set (j * 5) (.int .i64 ((k : Int) + 5 * (j : Int))) (by first | omega | (simp only [List.length_set]; omega))⟩
      have HG0 : Hid (w.grownBy (wr.setCell ⟨g, j * 5, none⟩ (.int .i64 ((k : Int) + 5 * (j : Int)))) (some g)) := grownBy_two hgr (grownBy_setCell wr g _ _)
      go_wp2_with fail
      refine (Q1.out _).mono ?_
      rintro e w1 ⟨rfl, hb1⟩
      have hw1 := HS0.out.grow hb1
      obtain ⟨c1, z1⟩ := hw1.2 (j * 5 + 1) _ (List.getElem?_eq_getElem (by first | omega | (simp only [List.length_set]; omega)))
      have HS1 : Shut (WCells (w1.setCell ⟨g, j * 5 + 1, none⟩ (.string (mt (k + 5 * j + 1)))) g (((ecs ys).set (j * 5) (.int .i64 ((k : Int) + 5 * (j : Int)))).set (j * 5 + 1) (.string (mt (k + 5 * j + 1))))) := ⟨hw1.set (j * 5 + 1) (.string (mt (k + 5 * j + 1))) (by first | omega | (simp only [List.length_set]; omega))⟩
      have HG1 : Hid (w.grownBy (w1.setCell ⟨g, j * 5 + 1, none⟩ (.string (mt (k + 5 * j + 1)))) (some g)) := grownBy_two HG0.out (grownBy_two (grownBy_below hb1) (grownBy_setCell w1 g _ _))
      go_wp2_with fail
      refine (Q2.out _).mono ?_
      rintro e w2 ⟨rfl, hb2⟩
      have hw2 := HS1.out.grow hb2
      obtain ⟨c2, z2⟩ := hw2.2 (j * 5 + 2) _ (List.getElem?_eq_getElem (by first | omega | (simp only [List.length_set]; omega)))
      have HS2 : Shut (WCells (w2.setCell ⟨g, j * 5 + 2, none⟩ (.string (mt (k + 5 * j + 2)))) g ((((ecs ys).set (j * 5) (.int .i64 ((k : Int) + 5 * (j : Int)))).set (j * 5 + 1) (.string (mt (k + 5 * j + 1)))).set (j * 5 + 2) (.string (mt (k + 5 * j + 2))))) := ⟨hw2.set (j * 5 + 2) (.string (mt (k + 5 * j + 2))) (by first | omega | (simp only [List.length_set]; omega))⟩
      have HG2 : Hid (w.grownBy (w2.setCell ⟨g, j * 5 + 2, none⟩ (.string (mt (k + 5 * j + 2)))) (some g)) := grownBy_two HG1.out (grownBy_two (grownBy_below hb2) (grownBy_setCell w2 g _ _))
      have hw3 := HS2.out
      obtain ⟨c3, z3⟩ := hw3.2 (j * 5 + 3) _ (List.getElem?_eq_getElem (by first | omega | (simp only [List.length_set]; omega)))
      have HS3 : Shut (WCells ((w2.setCell ⟨g, j * 5 + 2, none⟩ (.string (mt (k + 5 * j + 2)))).setCell ⟨g, j * 5 + 3, none⟩ (.int .i64 ((k : Int) + 5 * (j : Int) + 1 + 1 + 1))) g (((((ecs ys).set (j * 5) (.int .i64 ((k : Int) + 5 * (j : Int)))).set (j * 5 + 1) (.string (mt (k + 5 * j + 1)))).set (j * 5 + 2) (.string (mt (k + 5 * j + 2)))).set (j * 5 + 3) (.int .i64 ((k : Int) + 5 * (j : Int) + 1 + 1 + 1)))) := ⟨hw3.set (j * 5 + 3) (.int .i64 ((k : Int) + 5 * (j : Int) + 1 + 1 + 1)) (by first | omega | (simp only [List.length_set]; omega))⟩
      have HG3 : Hid (w.grownBy ((w2.setCell ⟨g, j * 5 + 2, none⟩ (.string (mt (k + 5 * j + 2)))).setCell ⟨g, j * 5 + 3, none⟩ (.int .i64 ((k : Int) + 5 * (j : Int) + 1 + 1 + 1))) (some g)) := grownBy_two HG2.out (grownBy_setCell _ g _ _)
      have hw4 := HS3.out
      obtain ⟨c4, z4⟩ := hw4.2 (j * 5 + 4) _ (List.getElem?_eq_getElem (by first | omega | (simp only [List.length_set]; omega)))
      have HS4 : Shut (WCells (((w2.setCell ⟨g, j * 5 + 2, none⟩ (.string (mt (k + 5 * j + 2)))).setCell ⟨g, j * 5 + 3, none⟩ (.int .i64 ((k : Int) + 5 * (j : Int) + 1 + 1 + 1))).setCell ⟨g, j * 5 + 4, none⟩ (.int .i64 ((k : Int) + 5 * (j : Int) + 1 + 1 + 1 + 1))) g ((((((ecs ys).set (j * 5) (.int .i64 ((k : Int) + 5 * (j : Int)))).set (j * 5 + 1) (.string (mt (k + 5 * j + 1)))).set (j * 5 + 2) (.string (mt (k + 5 * j + 2)))).set (j * 5 + 3) (.int .i64 ((k : Int) + 5 * (j : Int) + 1 + 1 + 1))).set (j * 5 + 4) (.int .i64 ((k : Int) + 5 * (j : Int) + 1 + 1 + 1 + 1)))) := ⟨hw4.set (j * 5 + 4) (.int .i64 ((k : Int) + 5 * (j : Int) + 1 + 1 + 1 + 1)) (by first | omega | (simp only [List.length_set]; omega))⟩
      have HG4 : Hid (w.grownBy (((w2.setCell ⟨g, j * 5 + 2, none⟩ (.string (mt (k + 5 * j + 2)))).setCell ⟨g, j * 5 + 3, none⟩ (.int .i64 ((k : Int) + 5 * (j : Int) + 1 + 1 + 1))).setCell ⟨g, j * 5 + 4, none⟩ (.int .i64 ((k : Int) + 5 * (j : Int) + 1 + 1 + 1 + 1))) (some g)) := grownBy_two HG3.out (grownBy_setCell _ g _ _)
      have HF : Shut (WCells (((w2.setCell ⟨g, j * 5 + 2, none⟩ (.string (mt (k + 5 * j + 2)))).setCell ⟨g, j * 5 + 3, none⟩ (.int .i64 ((k : Int) + 5 * (j : Int) + 1 + 1 + 1))).setCell ⟨g, j * 5 + 4, none⟩ (.int .i64 ((k : Int) + 5 * (j : Int) + 1 + 1 + 1 + 1))) g (ecs (ys.set j ⟨(k : Int) + 5 * (j : Int), mt (k + 5 * j + 1), mt (k + 5 * j + 2), (k : Int) + 5 * (j : Int) + 1 + 1 + 1, (k : Int) + 5 * (j : Int) + 1 + 1 + 1 + 1⟩))) := ⟨by
        have hfin := ecs_five ys j (by have := HL.out; omega) ⟨(k : Int) + 5 * (j : Int), mt (k + 5 * j + 1), mt (k + 5 * j + 2), (k : Int) + 5 * (j : Int) + 1 + 1 + 1, (k : Int) + 5 * (j : Int) + 1 + 1 + 1 + 1⟩
        have q := HS4.out
        dsimp only at hfin
        rw [hfin] at q
        exact q⟩
      clear HS0 HS1 HS2 HS3 HS4 hw0 hw1 hw2 hw3 hw4 hb1 hb2 HG0 HG1 HG2 HG3
      go_wp2_with fail
      go_roundw
      case rel => exact ⟨j + 1, _, by go_num, congrArg (Value.int .i64) (by omega), by omega, by rw [List.length_set]; exact HL.out, HF, HG4.out⟩
      case measure => simp [intOf]; omega
    · have e : j = n := by omega
      subst e
      go_wp2_with fail
      go_ret
      exact ⟨rfl, hgr⟩
end Go.Proofs.YtoglebfiobofoaaDoor
/- EsM: Rows of Edits: marks that are laid into one, and found again (written by gen/mkflat.py). -/
namespace Go.Proofs.YtoglebfiobofoaaDoor
set_option maxRecDepth 100000
open Go.RowKit
attribute [local go_sem ↓] Go.wp_at_zero Go.wp_at_succ

def markE (k : Nat) : EM := ⟨((k : Nat) : Int), mt (k + 1), mt (k + 2), ((k + 3 : Nat) : Int), ((k + 4 : Nat) : Int)⟩
def marksE (k n : Nat) : List EM := (List.range n).map fun j => markE (k + 5 * j)
theorem marksE_len (k n : Nat) : (marksE k n).length = n := by simp [marksE]
theorem marksE_at (k n j : Nat) (h : j < (marksE k n).length) : (marksE k n)[j] = markE (k + 5 * j) := by simp [marksE]
theorem marksE_all {k n : Nat} {ys : List EM} (hl : ys.length = n) (h : ∀ t, t < n → ys[t]? = some (markE (k + 5 * t))) : ys = marksE k n := by
  apply List.ext_getElem
  · rw [hl, marksE_len]
  · intro i h1 h2
    rw [marksE_at]
    have := h i (by omega)
    rw [List.getElem?_eq_getElem h1] at this
    exact Option.some.inj this
theorem markEditS_zero (a : Option Addr) (k ca : Nat) (w : World) :
    Calls Tryd.prog 15 #[.slice a 0 ca, .int .i64 k] w fun e w' => e = .returned (.int .i64 k) ∧ w' = w := by
  go_enter Tryd.func15, Tryd.ntmps15
  go_wp2_with fail
  go_rounds 1
  go_ret
  exact ⟨rfl, rfl⟩
set_option maxHeartbeats 1000000 in
theorem markEditS_all (g : Nat) (xs : List EM) (k ca : Nat) (w : World) (ha : WCells w g (ecs xs)) (hk : 0 < k) (hn : k + 5 * xs.length ≤ 1000000000) (hca : xs.length ≤ ca) :
    Calls Tryd.prog 15 #[.slice (some ⟨g, 0, none⟩) xs.length ca, .int .i64 k] w fun e w' => e = .returned (.int .i64 (k + 5 * xs.length : Nat)) ∧ WCells w' g (ecs (marksE k xs.length)) ∧ w.grownBy w' (some g) := by
  obtain ⟨n, hnx⟩ : ∃ n, n = xs.length := ⟨_, rfl⟩
  have HN := Shut.mk hnx
  rw [← hnx]
  rw [← hnx] at hn hca
  clear hnx
  have HA := Shut.mk ha
  clear ha
  go_enter Tryd.func15, Tryd.ntmps15
  go_wp2_with fail
  go_loopw [1, 5] (fun c i wr => ∃ (j : Nat) (ys : List EM), i = .int .i64 j ∧ c = .int .i64 (k + 5 * j : Nat) ∧ j ≤ n ∧ Shut (ys.length = n ∧ (∀ t, t < j → ys[t]? = some (markE (k + 5 * t))) ∧ WCells wr g (ecs ys) ∧ w.grownBy wr (some g))) (fun _ i _ => n - (intOf i).toNat)
  case atStart => exact ⟨0, xs, rfl, rfl, Nat.zero_le _, ⟨HN.out.symm, fun t ht => by omega, HA.out, grownBy_below (Below.refl _ _)⟩⟩
  case round =>
    obtain ⟨j, ys, rfl, rfl, hj, HH⟩ := hrel
    by_cases hlt : j < n
    · have j0 : (0 : Int) ≤ (j : Int) := by omega
      have j1 : (j : Int) < (n : Int) := by omega
      have hly : (ecs ys).length = n * 5 := by rw [ecs_len, HH.out.1]
      have hw0 := HH.out.2.2.1
      have Q1 : Shut (∀ W : World, Calls Tryd.prog 22 #[.int .i64 ((k : Int) + 5 * (j : Int) + 1)] W fun e w' => e = .returned (.string (mt (k + 5 * j + 1))) ∧ Below W.heap.size W w') := ⟨fun W => by
        have q := markText_any (k + 5 * j + 1) W (by omega) (by omega)
        rwa [show ((k + 5 * j + 1 : Nat) : Int) = (k : Int) + 5 * (j : Int) + 1 by push_cast; omega] at q⟩
      have Q2 : Shut (∀ W : World, Calls Tryd.prog 22 #[.int .i64 ((k : Int) + 5 * (j : Int) + 1 + 1)] W fun e w' => e = .returned (.string (mt (k + 5 * j + 2))) ∧ Below W.heap.size W w') := ⟨fun W => by
        have q := markText_any (k + 5 * j + 2) W (by omega) (by omega)
        rwa [show ((k + 5 * j + 2 : Nat) : Int) = (k : Int) + 5 * (j : Int) + 1 + 1 by push_cast; omega] at q⟩
      obtain ⟨c0, z0⟩ := hw0.2 (j * 5) _ (List.getElem?_eq_getElem (by first | omega | (simp only [List.length_set]; omega)))
      have HS0 : Shut (WCells (wr.setCell ⟨g, j * 5, none⟩ (.int .i64 ((k : Int) + 5 * (j : Int)))) g ((ecs ys).set (j * 5) (.int .i64 ((k : Int) + 5 * (j : Int))))) := ⟨hw0.set (j * 5) _ (by first | omega | (simp only [List.length_set]; omega))⟩
      have HG0 : Shut (w.grownBy (wr.setCell ⟨g, j * 5, none⟩ (.int .i64 ((k : Int) + 5 * (j : Int)))) (some g)) := ⟨(grownBy_two HH.out.2.2.2 (grownBy_setCell _ g _ _))⟩
      go_wp2_with fail
      refine (Q1.out _).mono ?_
      rintro e w1 ⟨rfl, hb1⟩
      have hv1 := HS0.out.grow hb1
      obtain ⟨c1, z1⟩ := hv1.2 (j * 5 + 1) _ (List.getElem?_eq_getElem (by first | omega | (simp only [List.length_set]; omega)))
      have HS1 : Shut (WCells (w1.setCell ⟨g, j * 5 + 1, none⟩ (.string (mt (k + 5 * j + 1)))) g (((ecs ys).set (j * 5) (.int .i64 ((k : Int) + 5 * (j : Int)))).set (j * 5 + 1) (.string (mt (k + 5 * j + 1))))) := ⟨hv1.set (j * 5 + 1) _ (by first | omega | (simp only [List.length_set]; omega))⟩
      have HG1 : Shut (w.grownBy (w1.setCell ⟨g, j * 5 + 1, none⟩ (.string (mt (k + 5 * j + 1)))) (some g)) := ⟨(grownBy_two (grownBy_two HG0.out (grownBy_below hb1)) (grownBy_setCell _ g _ _))⟩
      go_wp2_with fail
      refine (Q2.out _).mono ?_
      rintro e w2 ⟨rfl, hb2⟩
      have hv2 := HS1.out.grow hb2
      obtain ⟨c2, z2⟩ := hv2.2 (j * 5 + 2) _ (List.getElem?_eq_getElem (by first | omega | (simp only [List.length_set]; omega)))
      have HS2 : Shut (WCells (w2.setCell ⟨g, j * 5 + 2, none⟩ (.string (mt (k + 5 * j + 2)))) g ((((ecs ys).set (j * 5) (.int .i64 ((k : Int) + 5 * (j : Int)))).set (j * 5 + 1) (.string (mt (k + 5 * j + 1)))).set (j * 5 + 2) (.string (mt (k + 5 * j + 2))))) := ⟨hv2.set (j * 5 + 2) _ (by first | omega | (simp only [List.length_set]; omega))⟩
      have HG2 : Shut (w.grownBy (w2.setCell ⟨g, j * 5 + 2, none⟩ (.string (mt (k + 5 * j + 2)))) (some g)) := ⟨(grownBy_two (grownBy_two HG1.out (grownBy_below hb2)) (grownBy_setCell _ g _ _))⟩
      obtain ⟨c3, z3⟩ := HS2.out.2 (j * 5 + 3) _ (List.getElem?_eq_getElem (by first | omega | (simp only [List.length_set]; omega)))
      have HS3 : Shut (WCells ((w2.setCell ⟨g, j * 5 + 2, none⟩ (.string (mt (k + 5 * j + 2)))).setCell ⟨g, j * 5 + 3, none⟩ (.int .i64 ((k : Int) + 5 * (j : Int) + 1 + 1 + 1))) g (((((ecs ys).set (j * 5) (.int .i64 ((k : Int) + 5 * (j : Int)))).set (j * 5 + 1) (.string (mt (k + 5 * j + 1)))).set (j * 5 + 2) (.string (mt (k + 5 * j + 2)))).set (j * 5 + 3) (.int .i64 ((k : Int) + 5 * (j : Int) + 1 + 1 + 1)))) := ⟨HS2.out.set (j * 5 + 3) _ (by first | omega | (simp only [List.length_set]; omega))⟩
      have HG3 : Shut (w.grownBy ((w2.setCell ⟨g, j * 5 + 2, none⟩ (.string (mt (k + 5 * j + 2)))).setCell ⟨g, j * 5 + 3, none⟩ (.int .i64 ((k : Int) + 5 * (j : Int) + 1 + 1 + 1))) (some g)) := ⟨(grownBy_two HG2.out (grownBy_setCell _ g _ _))⟩
      obtain ⟨c4, z4⟩ := HS3.out.2 (j * 5 + 4) _ (List.getElem?_eq_getElem (by first | omega | (simp only [List.length_set]; omega)))
      have HS4 : Shut (WCells (((w2.setCell ⟨g, j * 5 + 2, none⟩ (.string (mt (k + 5 * j + 2)))).setCell ⟨g, j * 5 + 3, none⟩ (.int .i64 ((k : Int) + 5 * (j : Int) + 1 + 1 + 1))).setCell ⟨g, j * 5 + 4, none⟩ (.int .i64 ((k : Int) + 5 * (j : Int) + 1 + 1 + 1 + 1))) g ((((((ecs ys).set (j * 5) (.int .i64 ((k : Int) + 5 * (j : Int)))).set (j * 5 + 1) (.string (mt (k + 5 * j + 1)))).set (j * 5 + 2) (.string (mt (k + 5 * j + 2)))).set (j * 5 + 3) (.int .i64 ((k : Int) + 5 * (j : Int) + 1 + 1 + 1))).set (j * 5 + 4) (.int .i64 ((k : Int) + 5 * (j : Int) + 1 + 1 + 1 + 1)))) := ⟨HS3.out.set (j * 5 + 4) _ (by first | omega | (simp only [List.length_set]; omega))⟩
      have HG4 : Shut (w.grownBy (((w2.setCell ⟨g, j * 5 + 2, none⟩ (.string (mt (k + 5 * j + 2)))).setCell ⟨g, j * 5 + 3, none⟩ (.int .i64 ((k : Int) + 5 * (j : Int) + 1 + 1 + 1))).setCell ⟨g, j * 5 + 4, none⟩ (.int .i64 ((k : Int) + 5 * (j : Int) + 1 + 1 + 1 + 1))) (some g)) := ⟨(grownBy_two HG3.out (grownBy_setCell _ g _ _))⟩
      have hE : (⟨(k : Int) + 5 * (j : Int), mt (k + 5 * j + 1), mt (k + 5 * j + 2), (k : Int) + 5 * (j : Int) + 1 + 1 + 1, (k : Int) + 5 * (j : Int) + 1 + 1 + 1 + 1⟩ : EM) = markE (k + 5 * j) := by
        unfold markE
        congr 1 <;> (push_cast; omega)
      have HF : Shut (WCells (((w2.setCell ⟨g, j * 5 + 2, none⟩ (.string (mt (k + 5 * j + 2)))).setCell ⟨g, j * 5 + 3, none⟩ (.int .i64 ((k : Int) + 5 * (j : Int) + 1 + 1 + 1))).setCell ⟨g, j * 5 + 4, none⟩ (.int .i64 ((k : Int) + 5 * (j : Int) + 1 + 1 + 1 + 1))) g (ecs (ys.set j ⟨(k : Int) + 5 * (j : Int), mt (k + 5 * j + 1), mt (k + 5 * j + 2), (k : Int) + 5 * (j : Int) + 1 + 1 + 1, (k : Int) + 5 * (j : Int) + 1 + 1 + 1 + 1⟩))) := ⟨by
        have hfin : ((((((ecs ys).set (j * 5) (.int .i64 ((k : Int) + 5 * (j : Int)))).set (j * 5 + 1) (.string (mt (k + 5 * j + 1)))).set (j * 5 + 2) (.string (mt (k + 5 * j + 2)))).set (j * 5 + 3) (.int .i64 ((k : Int) + 5 * (j : Int) + 1 + 1 + 1))).set (j * 5 + 4) (.int .i64 ((k : Int) + 5 * (j : Int) + 1 + 1 + 1 + 1))) = ecs (ys.set j ⟨(k : Int) + 5 * (j : Int), mt (k + 5 * j + 1), mt (k + 5 * j + 2), (k : Int) + 5 * (j : Int) + 1 + 1 + 1, (k : Int) + 5 * (j : Int) + 1 + 1 + 1 + 1⟩) := flat_setL ecells_len ys j (by have := HH.out.1; omega) (⟨(k : Int) + 5 * (j : Int), mt (k + 5 * j + 1), mt (k + 5 * j + 2), (k : Int) + 5 * (j : Int) + 1 + 1 + 1, (k : Int) + 5 * (j : Int) + 1 + 1 + 1 + 1⟩ : EM)
        have q := HS4.out
        rw [hfin] at q
        exact q⟩
      rw [hE] at HF
      clear HS0 HS1 HS2 HS3 HS4 HG0 HG1 HG2 HG3 hw0 hb1 hv1 hb2 hv2 hE
      go_wp2_with fail
      go_roundw
      case rel =>
        refine ⟨j + 1, ys.set j (markE (k + 5 * j)), by go_num, congrArg (Value.int .i64) (by omega), by omega, ⟨by rw [List.length_set]; exact HH.out.1, fun t ht => ?_, ?_, ?_⟩⟩
        rotate_left
        · exact HF.out
        · exact HG4.out
        by_cases hjt : t = j
        · subst hjt
          rw [List.getElem?_set_self (by have := HH.out.1; omega)]
        · rw [List.getElem?_set_ne (Ne.symm hjt)]
          exact HH.out.2.1 t (by omega)
      case measure => simp [intOf]; omega
    · have e : j = n := by omega
      subst e
      have hfin := marksE_all HH.out.1 HH.out.2.1
      subst hfin
      go_wp2_with fail
      go_ret
      exact ⟨rfl, HH.out.2.2.1, HH.out.2.2.2⟩
/-- Marks in a row between two places, or in none. -/
theorem markEditS_row (va : Option Addr) (xs : List EM) (k ca lo hi : Nat) (w : World) (h : FRw w va (ecs xs) lo hi) (hk : 0 < k) (hn : k + 5 * xs.length ≤ 1000000000) (hca : xs.length ≤ ca) :
    Calls Tryd.prog 15 #[.slice va xs.length ca, .int .i64 k] w fun e w' => e = .returned (.int .i64 (k + 5 * xs.length : Nat)) ∧ FRw w' va (ecs (marksE k xs.length)) lo hi ∧ ∃ row, w.grownBy w' row ∧ ∀ g, row = some g → lo ≤ g ∧ g < hi := by
  rcases h with ⟨rfl, hX⟩ | ⟨g, rfl, h1, h2, h3⟩
  · have e : xs = [] := by
      have := congrArg List.length hX
      rw [ecs_len] at this
      exact List.eq_nil_of_length_eq_zero (by simp at this; omega)
    subst e
    refine (markEditS_zero none k ca w).mono ?_
    rintro e w' ⟨rfl, rfl⟩
    exact ⟨by simp, .inl ⟨rfl, by simp [marksE, ecs]⟩, none, ⟨rfl, rfl, rfl, Nat.le_refl _, fun _ _ _ => rfl⟩, by simp⟩
  · refine (markEditS_all g xs k ca w h3 hk hn hca).mono ?_
    rintro e w' ⟨rfl, h4, h5⟩
    exact ⟨rfl, .inr ⟨g, rfl, h1, h2, h4⟩, some g, h5, fun g' e => by simp at e; omega⟩
set_option maxHeartbeats 1000000 in
theorem heldEditS_any (a : Option Addr) (k n ca : Nat) (w : World) (ha : ERow w a (marksE k n)) (hk : 0 < k) (hn : k + 5 * n ≤ 1000000000) :
    Calls Tryd.prog 16 #[.slice a n ca, .int .i64 k] w fun e w' => e = .returned (.int .i64 (k + 5 * n : Nat)) ∧ Below w.heap.size w w' := by
  have HA := Shut.mk ha
  clear ha
  go_enter Tryd.func16, Tryd.ntmps16
  go_wp2_with fail
  go_loopw [1, 5] (fun c i wr => ∃ (j : Nat), i = .int .i64 j ∧ c = .int .i64 (k + 5 * j : Nat) ∧ j ≤ n ∧ Below w.heap.size w wr) (fun _ i _ => n - (intOf i).toNat)
  case atStart => exact ⟨0, rfl, rfl, Nat.zero_le _, Below.refl _ _⟩
  case round =>
    obtain ⟨j, rfl, rfl, hj, hb⟩ := hrel
    have HB := Shut.mk hb
    by_cases hlt : j < n
    · obtain ⟨b, off, rfl, lb, hc⟩ := ERow.at (HA.out.stays hb) (by rw [marksE_len]; omega)
      obtain ⟨d0, d1, d2, d3, d4⟩ := hc j (by rw [marksE_len]; omega)
      rw [marksE_at] at d0 d1 d2 d3 d4
      rw [show (markE (k + 5 * j)).kind = (k : Int) + 5 * (j : Int) by show ((k + 5 * j : Nat) : Int) = _; push_cast; omega] at d0
      rw [show (markE (k + 5 * j)).path = mt (k + 5 * j + 1) from rfl] at d1
      rw [show (markE (k + 5 * j)).dest = mt (k + 5 * j + 2) from rfl] at d2
      rw [show (markE (k + 5 * j)).num = (k : Int) + 5 * (j : Int) + 1 + 1 + 1 by show ((k + 5 * j + 3 : Nat) : Int) = _; push_cast; omega] at d3
      rw [show (markE (k + 5 * j)).who = (k : Int) + 5 * (j : Int) + 1 + 1 + 1 + 1 by show ((k + 5 * j + 4 : Nat) : Int) = _; push_cast; omega] at d4
      have j0 : (0 : Int) ≤ (j : Int) := by omega
      have j1 : (j : Int) < (n : Int) := by omega
      have Q1 : Shut (∀ W : World, Calls Tryd.prog 22 #[.int .i64 ((k : Int) + 5 * (j : Int) + 1)] W fun e w' => e = .returned (.string (mt (k + 5 * j + 1))) ∧ Below W.heap.size W w') := ⟨fun W => by
        have q := markText_any (k + 5 * j + 1) W (by omega) (by omega)
        rwa [show ((k + 5 * j + 1 : Nat) : Int) = (k : Int) + 5 * (j : Int) + 1 by push_cast; omega] at q⟩
      have hs1 : ((mt (k + 5 * j + 1)).toList == (mt (k + 5 * j + 1)).toList) = true := by simp
      have Q2 : Shut (∀ W : World, Calls Tryd.prog 22 #[.int .i64 ((k : Int) + 5 * (j : Int) + 1 + 1)] W fun e w' => e = .returned (.string (mt (k + 5 * j + 2))) ∧ Below W.heap.size W w') := ⟨fun W => by
        have q := markText_any (k + 5 * j + 2) W (by omega) (by omega)
        rwa [show ((k + 5 * j + 2 : Nat) : Int) = (k : Int) + 5 * (j : Int) + 1 + 1 by push_cast; omega] at q⟩
      have hs2 : ((mt (k + 5 * j + 2)).toList == (mt (k + 5 * j + 2)).toList) = true := by simp
      clear hc hb
      go_wp2_with fail
      go_region_held3 (fun w' => w'.cell? ⟨b, off + j * 5 + 1, none⟩ = some (.string (mt (k + 5 * j + 1)))) (first | go_keep | (rw [hb1.cell (p := ⟨b, off + j * 5 + 1, none⟩) (by exact lb)]; assumption)) ((go_at_call 22; refine (Q1.out _).mono ?_; rintro e w1 ⟨rfl, hb1⟩))
      all_goals
        have lb1 : b < w1.heap.size := Nat.lt_of_lt_of_le lb hb1.size
        replace d2 := (hb1.cell (p := ⟨b, off + j * 5 + 2, none⟩) lb).trans d2
        replace d3 := (hb1.cell (p := ⟨b, off + j * 5 + 3, none⟩) lb).trans d3
        replace d4 := (hb1.cell (p := ⟨b, off + j * 5 + 4, none⟩) lb).trans d4
        have HB1 : Shut (Below w.heap.size w w1) := ⟨HB.out.trans ((Below.drew (Below.refl _ _)).trans (hb1.mono HB.out.size))⟩
        clear hb1 d0 d1
        go_wp2_with fail
        go_region_held3 (fun w' => w'.cell? ⟨b, off + j * 5 + 2, none⟩ = some (.string (mt (k + 5 * j + 2)))) (first | go_keep | (rw [hb2.cell (p := ⟨b, off + j * 5 + 2, none⟩) (by exact lb1)]; assumption)) ((go_at_call 22; refine (Q2.out _).mono ?_; rintro e w2 ⟨rfl, hb2⟩))
        all_goals
          have lb2 : b < w2.heap.size := Nat.lt_of_lt_of_le lb1 hb2.size
          replace d3 := (hb2.cell (p := ⟨b, off + j * 5 + 3, none⟩) lb1).trans d3
          replace d4 := (hb2.cell (p := ⟨b, off + j * 5 + 4, none⟩) lb1).trans d4
          have HB2 : Shut (Below w.heap.size w w2) := ⟨HB1.out.trans ((Below.drew (Below.refl _ _)).trans (hb2.mono HB1.out.size))⟩
          clear hb2 d2
          go_wp2_with fail
          exact ⟨⟨j + 1, by go_num, congrArg (Value.int .i64) (by omega), by omega, HB2.out⟩, by simp [intOf]; omega⟩
    · have e : j = n := by omega
      subst e
      go_wp2_with fail
      go_ret
      exact ⟨rfl, hb⟩
end Go.Proofs.YtoglebfiobofoaaDoor
/- LawLog: The exact law of ReadLog. -/
namespace Go.Proofs.YtoglebfiobofoaaDoor
set_option maxRecDepth 100000
open Go.RowKit
attribute [local go_sem ↓] Go.wp_at_zero Go.wp_at_succ

set_option maxHeartbeats 1000000 in
theorem lawReadLog (s : ByteArray) (w : World) (ht : SumTab w) : Calls Tryd.prog 4 #[.string s] w fun e w' => e = .returned (.bool true) ∧ Below w.heap.size w w' := by
  by_cases hs : 1048576 < s.size
  · clear ht
    go_enter Tryd.func4, Tryd.ntmps4
    go_wp2_with fail
    go_ret
    exact ⟨rfl, Below.refl _ _⟩
  · have HSP := Shut.mk (fun W0 => specReadLog s W0 (by omega))
    have HIM := Shut.mk (fun (W0 : World) (hb : Below w.heap.size w W0) => implReadLog s W0 (ht.stays hb))
    have hl := logE_len s
    unfold LogPost at HSP HIM
    generalize logE s = L at *
    generalize ((logAt s : Nat) : Int) = q at *
    obtain ⟨n, hn⟩ : ∃ n, n = L.length := ⟨_, rfl⟩
    have HN := Shut.mk hn
    rw [← hn] at HSP HIM hl
    clear ht hn
    go_enter Tryd.func4, Tryd.ntmps4
    go_wp2_with fail
    refine (HSP.out _).mono ?_
    rintro e w1 ⟨v1, rfl, ho1, hb1⟩
    obtain ⟨a1, c1, rfl⟩ := own_form ho1
    have M1 : Shut (Mem w w1 [] [(a1, ecs L, w.heap.size, w1.heap.size)]) := ⟨(⟨by simp, by simp, hb1⟩ : Mem w w1 [] []).row (FRw.of_own ho1).1⟩
    clear ho1 hb1
    go_wp2_with fail
    refine (HIM.out _ M1.out.low).mono ?_
    rintro e w2 ⟨v2, rfl, ho2, hb2⟩
    obtain ⟨a2, c2, rfl⟩ := own_form ho2
    have M2 : Shut (Mem w w2 [] [(a2, ecs L, w1.heap.size, w2.heap.size), (a1, ecs L, w.heap.size, w1.heap.size)]) := ⟨(M1.out.below hb2).row (FRw.of_own ho2).1⟩
    have hc2 := (FRw.of_own ho2).2
    have hs1 := M1.out.low.size
    have hs2 := hb2.size
    clear ho2 hb2 M1
    have HEQ : Shut (∀ (a b : Option Addr) (ca cb : Nat) (W0 : World), ERow W0 a L → ERow W0 b L → Calls Tryd.prog 14 #[.slice a n ca, .slice b n cb] W0 fun e w' => e = .returned (.bool true) ∧ Below W0.heap.size W0 w') := ⟨fun a b ca cb W0 h1 h2 => by
      have := eqEditS_same a b L ca cb W0 h1 h2 (by have := HN.out; omega)
      rw [← HN.out] at this
      exact this⟩
    go_wp2_with fail
    refine (HEQ.out a2 a1 c2 c1 _ M2.out.at0.crow M2.out.at1.crow).mono ?_
    rintro e w3 ⟨rfl, hb3⟩
    have M3 := Shut.mk (M2.out.below hb3)
    clear hb3 M2
    have HMK := Shut.mk (markEditS_row a2 L 1 c2 w1.heap.size w2.heap.size w3 M3.out.at0 (by omega) (by have := HN.out; omega) (by have := HN.out; omega))
    rw [← HN.out] at HMK
    go_wp2_with fail
    refine HMK.out.mono ?_
    rintro e w4 ⟨rfl, hf4, row, hg4, hr4⟩
    have M4 : Shut (Mem w w4 [] [(a2, ecs (marksE 1 n), w1.heap.size, w2.heap.size), (a1, ecs L, w.heap.size, w1.heap.size)]) := ⟨((M3.out.less (L' := []) (R' := [(a1, ecs L, w.heap.size, w1.heap.size)]) (by simp) (by simp)).grown hg4 (by simp) (fun r hr g e => by simp at hr; subst hr; have := hr4 g e; simp; omega) (fun g e => by have := hr4 g e; omega)).row hf4⟩
    clear hf4 hg4 hr4 HMK M3
    have HHD : Shut (∀ (W0 : World), ERow W0 a2 (marksE 1 n) → Calls Tryd.prog 16 #[.slice a2 n c2, .int .i64 1] W0 fun e w' => e = .returned (.int .i64 (1 + 5 * n : Nat)) ∧ Below W0.heap.size W0 w') := ⟨fun W0 h => heldEditS_any a2 1 n c2 W0 h (by omega) (by omega)⟩
    go_wp2_with fail
    refine (HHD.out _ M4.out.at0.crow).mono ?_
    rintro e w5 ⟨rfl, hb5⟩
    have M5 := Shut.mk (M4.out.below hb5)
    clear hb5 M4
    go_wp2_with fail
    refine (HIM.out _ M5.out.low).mono ?_
    rintro e w6 ⟨v6, rfl, ho6, hb6⟩
    obtain ⟨a6, c6, rfl⟩ := own_form ho6
    have M6 : Shut (Mem w w6 [] [(a6, ecs L, w5.heap.size, w6.heap.size), (a2, ecs (marksE 1 n), w1.heap.size, w2.heap.size), (a1, ecs L, w.heap.size, w1.heap.size)]) := ⟨(M5.out.below hb6).row (FRw.of_own ho6).1⟩
    clear ho6 hb6 M5
    go_wp2_with fail
    refine (HEQ.out a6 a1 c6 c1 _ M6.out.at0.crow M6.out.at2.crow).mono ?_
    rintro e w7 ⟨rfl, hb7⟩
    have M7 := Shut.mk (M6.out.below hb7)
    clear hb7 M6
    go_wp2_with fail
    refine (HHD.out _ M7.out.at1.crow).mono ?_
    rintro e w8 ⟨rfl, hb8⟩
    have M8 := Shut.mk (M7.out.below hb8)
    clear hb8 M7
    go_wp2_with fail
    go_ret
    exact ⟨rfl, M8.out.low⟩
end Go.Proofs.YtoglebfiobofoaaDoor
/- VarBack: Plain facts: the bytes of a number are read back, whatever stands behind them. -/
namespace Go.Proofs.YtoglebfiobofoaaDoor.W

theorem rv_back (r : List UInt8) : ∀ (f m acc w : Nat) (first : Bool) (p : Nat), m ≤ f → (first = true ∨ 0 < m) → acc + m * w ≤ 1000000000 → 0 < w → w ≤ 1000000000 → rv acc w first (vtF f m ++ r) p = some (acc + m * w, p + (vtF f m).length)
  | 0, m, acc, w, first, p, hm, hf, hs, hw, hw2 => by
    have : m = 0 := by omega
    subst this
    have e : first = true := hf.elim id (fun h => by omega)
    subst e
    have eb : (UInt8.ofNat 0).toNat = 0 := rfl
    show rv acc w true (UInt8.ofNat 0 :: r) p = _
    rw [rv_done acc w true _ r p hw2 (by rw [eb]; omega) (.inr rfl) (by rw [eb]; omega), eb]
    simp [vtF]
  | f + 1, m, acc, w, first, p, hm, hf, hs, hw, hw2 => by
    by_cases hb : 127 < m
    · have e : vtF (f + 1) m = UInt8.ofNat (m % 128 + 128) :: vtF f (m / 128) := by rw [vtF, if_pos hb]
      have eb : (UInt8.ofNat (m % 128 + 128)).toNat = m % 128 + 128 := by simp; omega
      have hsplit : m * w = (m % 128) * w + (m / 128) * (w * 128) := by
        have h1 : m / 128 * (w * 128) = 128 * (m / 128) * w := by rw [Nat.mul_comm w 128, ← Nat.mul_assoc, Nat.mul_comm (m / 128) 128]
        rw [h1, ← Nat.add_mul]
        congr 1
        omega
      have hpos : 0 < m / 128 := by omega
      have hw3 : w * 128 ≤ (m / 128) * (w * 128) := Nat.le_mul_of_pos_left _ hpos
      rw [e, List.cons_append, rv_head acc w first _ _ p hw2 (by rw [eb]; omega), eb, Nat.add_sub_cancel, rv_back r f (m / 128) _ _ false (p + 1) (by omega) (.inr hpos) (by omega) (by omega) (by omega)]
      simp only [List.length_cons]
      congr 2
      · omega
      · omega
    · have e : vtF (f + 1) m = [UInt8.ofNat m] := by rw [vtF, if_neg hb]
      have eb : (UInt8.ofNat m).toNat = m := by simp; omega
      rw [e, List.singleton_append, rv_done acc w first _ _ p hw2 (by rw [eb]; omega) (by rw [eb]; exact hf.elim .inr (fun h => .inl (by omega))) (by rw [eb]; omega), eb]
      simp
theorem readVar_back (s : ByteArray) (a n : Nat) (r : List UInt8) (hn : n ≤ 1000000000) (h : s.data.toList.drop a = vt n ++ r) : readVar s a = some (n, a + (vt n).length) := by
  unfold readVar rvs
  rw [h]
  have := rv_back r n n 0 1 true a (Nat.le_refl _) (.inl rfl) (by omega) (by omega) (by omega)
  simpa [val, vt] using this
end Go.Proofs.YtoglebfiobofoaaDoor.W
/- EdX: Plain: a right record comes back from its text; what is read is the record of the text. -/
namespace Go.Proofs.YtoglebfiobofoaaDoor
set_option maxRecDepth 100000
open Go.RowKit
open Go.PlainAid (bt)

theorem lb_app (a b : ByteArray) : lb (a ++ b) = lb a ++ lb b := ByteArray.toList_data_append
theorem lb_vb (n : Nat) : lb (vb n) = W.vt n := by simp [vb, lb]
theorem lb_size (s : ByteArray) : (lb s).length = s.size := rfl
/-- A number that stands in a text. -/
theorem var_at {s : ByteArray} {a n : Nat} {r : List UInt8} (hn : n ≤ 1000000000) (h : (lb s).drop a = W.vt n ++ r) (ha : a ≤ s.size) : readVarI s (a : Nat) = some (n, a + (W.vt n).length) := by
  unfold readVarI
  rw [if_pos ⟨by omega, by omega⟩, Int.toNat_natCast]
  exact W.readVar_back s a n r hn h
/-- A short text that stands in a text. -/
theorem short_at {s t : ByteArray} {a : Nat} {r : List UInt8} (hn : t.size ≤ 20000) (h : (lb s).drop a = W.vt t.size ++ (lb t ++ r)) (ha : a ≤ s.size) : readShortI s (a : Nat) = some (t, a + (W.vt t.size).length + t.size) := by
  have hl := congrArg List.length h
  simp only [List.length_drop, List.length_append, lb_size] at hl
  unfold readShortI
  rw [var_at (by omega) h ha]
  dsimp only
  rw [if_pos ⟨hn, by omega⟩]
  have e : s.extract (a + (W.vt t.size).length) (a + (W.vt t.size).length + t.size) = t := by
    apply ByteArray.ext
    apply Array.toList_inj.1
    show lb _ = lb t
    rw [ext_list, ← List.drop_drop, h, List.drop_left' rfl]
    have : a + (W.vt t.size).length + t.size - (a + (W.vt t.size).length) = (lb t).length := by rw [lb_size]; omega
    rw [this, List.take_left' rfl]
  rw [e]
theorem lb_editT (e : EM) : lb (editT e) = UInt8.ofNat e.kind.toNat :: UInt8.ofNat e.who.toNat :: (W.vt e.path.size ++ (lb e.path ++ (W.vt e.dest.size ++ (lb e.dest ++ W.vt e.num.toNat)))) := by
  unfold editT
  rw [lb_app, lb_app, lb_app, lb_app, lb_app, lb_vb, lb_vb, lb_vb]
  show [UInt8.ofNat e.kind.toNat, UInt8.ofNat e.who.toNat] ++ _ ++ _ ++ _ ++ _ ++ _ = _
  simp only [List.append_assoc, List.cons_append, List.nil_append]
theorem read_back {e : EM} (h : editOk e = true) : readE (editT e) = (e, true) := by
  obtain ⟨n1, n2, n3, n4, n5, n6⟩ := edit_nums h
  obtain ⟨s1, s2⟩ := edit_small h
  have hl := lb_editT e
  have hs := congrArg List.length hl
  simp only [List.length_cons, List.length_append, lb_size] at hs
  have hsz : 2 ≤ (editT e).size := by omega
  have b0 : bt (editT e) 0 = e.kind := by
    rw [bt_at (by omega)]
    have : (lb (editT e))[0]'(by rw [lb_size]; omega) = UInt8.ofNat e.kind.toNat := by simp only [hl, List.getElem_cons_zero]
    rw [this]
    simp
    omega
  have b1 : bt (editT e) 1 = e.who := by
    rw [bt_at (by omega)]
    have : (lb (editT e))[1]'(by rw [lb_size]; omega) = UInt8.ofNat e.who.toNat := by simp only [hl, List.getElem_cons_succ, List.getElem_cons_zero]
    rw [this]
    simp
    omega
  have r1 := short_at (s := editT e) (t := e.path) (a := 2) (r := W.vt e.dest.size ++ (lb e.dest ++ W.vt e.num.toNat)) (by omega) (by rw [hl]; rfl) hsz
  have d1 : (lb (editT e)).drop (2 + (W.vt e.path.size).length + e.path.size) = W.vt e.dest.size ++ (lb e.dest ++ W.vt e.num.toNat) := by
    rw [hl, Nat.add_assoc, ← List.drop_drop]
    show List.drop _ (W.vt e.path.size ++ _) = _
    rw [← List.drop_drop, List.drop_left' rfl, ← lb_size, List.drop_left' rfl]
  have r2 := short_at (s := editT e) (t := e.dest) (r := W.vt e.num.toNat) (by omega) d1 (by omega)
  have d2 : (lb (editT e)).drop (2 + (W.vt e.path.size).length + e.path.size + (W.vt e.dest.size).length + e.dest.size) = W.vt e.num.toNat ++ [] := by
    rw [Nat.add_assoc, ← List.drop_drop, d1, ← List.drop_drop, List.drop_left' rfl, ← lb_size, List.drop_left' rfl, List.append_nil]
  have r3 := var_at (s := editT e) (by omega) d2 (by omega)
  have he : (⟨bt (editT e) 0, e.path, e.dest, ((e.num.toNat : Nat) : Int), bt (editT e) 1⟩ : EM) = e := by
    rw [b0, b1, Int.toNat_of_nonneg n5]
  rw [readE_prog]
  have : progE (editT e) = some e := by
    unfold progE
    rw [if_pos hsz]
    have r1' : readShortI (editT e) 2 = some (e.path, 2 + (W.vt e.path.size).length + e.path.size) := r1
    rw [r1']
    dsimp only
    rw [r2]
    dsimp only
    rw [r3]
    dsimp only
    rw [he, if_pos ⟨by omega, h⟩]
  rw [this]
theorem read_is {s : ByteArray} (h : (readE s).2 = true) : editOk (readE s).1 = true ∧ editT (readE s).1 = s := by
  unfold readE at h ⊢
  split at h
  · rename_i hc
    rw [if_pos hc]
    unfold isE at hc
    simp only [Bool.and_eq_true, decide_eq_true_eq] at hc
    exact ⟨hc.1.2, hc.2⟩
  · cases h
theorem editT_size {e : EM} (h : editOk e = true) : (editT e).size ≤ 100000 := by
  obtain ⟨n1, n2, n3, n4, n5, n6⟩ := edit_nums h
  obtain ⟨s1, s2⟩ := edit_small h
  have hs := congrArg List.length (lb_editT e)
  simp only [List.length_cons, List.length_append, lb_size] at hs
  have v1 := W.vt_len e.path.size
  have v2 := W.vt_len e.dest.size
  have v3 := W.vt_len e.num.toNat
  omega
end Go.Proofs.YtoglebfiobofoaaDoor
/- ActA: Rows of acts, as the model holds them: their sizes, their copies. -/
namespace Go.Proofs.YtoglebfiobofoaaDoor
set_option maxRecDepth 100000
open Go.RowKit
attribute [local go_sem ↓] Go.wp_at_zero Go.wp_at_succ

/-- An act. -/
structure AM where
  kind : Int
  name : ByteArray
  text : ByteArray
  dst : ByteArray
instance : Inhabited AM := ⟨⟨0, ⟨#[]⟩, ⟨#[]⟩, ⟨#[]⟩⟩⟩
abbrev av (f : AM) : Value := .agg #[.int .i64 f.kind, .string f.name, .string f.text, .string f.dst]
def acells (f : AM) : List Value := [.int .i64 f.kind, .string f.name, .string f.text, .string f.dst]
theorem acells_len (f : AM) : (acells f).length = 4 := rfl
def acs (fs : List AM) : List Value := fs.flatMap acells
theorem acs_len (fs : List AM) : (acs fs).length = fs.length * 4 := flat_len acells_len fs
/-- A row of files in memory. -/
abbrev ARow (w : World) (a : Option Addr) (fs : List AM) : Prop := CRow w a (acs fs)
theorem ARow.at {w : World} {a : Option Addr} {fs : List AM} (h : ARow w a fs) (hp : 0 < fs.length) :
    ∃ b off, a = some ⟨b, off, none⟩ ∧ b < w.heap.size ∧ ∀ j (h : j < fs.length), w.cell? ⟨b, off + j * 4, none⟩ = some (.int .i64 fs[j].kind) ∧ w.cell? ⟨b, off + j * 4 + 1, none⟩ = some (.string fs[j].name) ∧ w.cell? ⟨b, off + j * 4 + 2, none⟩ = some (.string fs[j].text) ∧ w.cell? ⟨b, off + j * 4 + 3, none⟩ = some (.string fs[j].dst) := by
  obtain ⟨b, off, e, hb, hc⟩ := h (by rw [acs_len]; omega)
  exact ⟨b, off, e, hb, fun j hj => ⟨hc (j * 4) _ (flat_get acells_len fs j hj 0 (by omega)), hc (j * 4 + 1) _ (flat_get acells_len fs j hj 1 (by omega)), hc (j * 4 + 2) _ (flat_get acells_len fs j hj 2 (by omega)), hc (j * 4 + 3) _ (flat_get acells_len fs j hj 3 (by omega))⟩⟩
/-- What is in the acts: their texts fit a machine. -/
def AFit (fs : List AM) : Prop := fs.length ≤ 9223372036854775807 ∧ ∀ f ∈ fs, f.name.size ≤ 9223372036854775807 ∧ f.text.size ≤ 9223372036854775807 ∧ f.dst.size ≤ 9223372036854775807 ∧ -9223372036854775808 ≤ f.kind ∧ f.kind ≤ 9223372036854775807
/-- How many bytes they have. -/
def asum : List AM → Nat
  | [] => 0
  | f :: fs => f.name.size + f.text.size + f.dst.size + asum fs
theorem asum_take (fs : List AM) (k : Nat) (h : k < fs.length) : asum (fs.take (k + 1)) = asum (fs.take k) + (fs[k].name.size + fs[k].text.size + fs[k].dst.size) := by
  induction fs generalizing k with
  | nil => simp at h
  | cons f fs ih =>
    cases k with
    | zero => simp [asum]
    | succ k =>
      have := ih k (by simpa using h)
      simp only [List.take_succ_cons, asum, List.getElem_cons_succ]
      omega

def SzPostA (left : Int) (n : Nat) (w : World) (e : Ending) (w' : World) : Prop := ∃ r : Int, e = .returned (.int .i64 r) ∧ -1 ≤ r ∧ (0 ≤ r → r + n = left) ∧ Below w.heap.size w w'
/-- A copy of the files, in a block of its own. -/
def ToPostA (fs : List AM) (w : World) (e : Ending) (w' : World) : Prop := ∃ g, e = .returned (.slice (some ⟨g, 0, none⟩) fs.length fs.length) ∧ w.heap.size ≤ g ∧ WCells w' g (acs fs) ∧ Below w.heap.size w w'
theorem infoAct : (Tryd.prog.info? 43).map (fun i => (i.zero, i.size, i.bytes)) = some (some (.agg #[.int .i64 0, .string ⟨#[]⟩, .string ⟨#[]⟩, .string ⟨#[]⟩]), 4, 56) := by kernel_rfl
end Go.Proofs.YtoglebfiobofoaaDoor
/- LogA: LogActs, both: the acts that put a record into the log. -/
namespace Go.Proofs.YtoglebfiobofoaaDoor
set_option maxRecDepth 100000
open Go.RowKit
attribute [local go_sem ↓] Go.wp_at_zero Go.wp_at_succ

def nmLog : ByteArray := ⟨#[108, 111, 103]⟩
/-- The acts of a record. -/
def logA (e : EM) : List AM := if editOk e then [⟨1, nmLog, frameB (editT e), ⟨#[]⟩⟩, ⟨2, nmLog, ⟨#[]⟩, ⟨#[]⟩⟩] else []
theorem editT_frame {e : EM} (h : editOk e = true) : 1 ≤ (editT e).size ∧ (editT e).size ≤ 9000 := by
  obtain ⟨n1, n2, n3, n4, n5, n6⟩ := edit_nums h
  obtain ⟨s1, s2⟩ := edit_small h
  have hs := congrArg List.length (lb_editT e)
  simp only [List.length_cons, List.length_append, lb_size] at hs
  have v1 := W.vt_len e.path.size
  have v2 := W.vt_len e.dest.size
  have v3 := W.vt_len e.num.toNat
  omega
def LgaPost (e : EM) (w : World) (r : Ending) (w' : World) : Prop :=
  ∃ v, r = .returned (.tuple #[v, .bool (editOk e)]) ∧ w'.ownsRow w.heap.size 43 4 v (logA e).length (acs (logA e)) ∧ Below w.heap.size w w'
theorem own_lit {w : World} {B t sz n : Nat} (cs : Array Value) (hb : B ≤ w.heap.size) (hm : n ≤ maxLen) (hs : cs.size = n * sz) : (w.alloc (.cells cs t)).ownsRow B t sz (.slice (some ⟨w.heap.size, 0, none⟩) n n) n cs.toList :=
  ⟨by simpa using hs, .inr ⟨w.heap.size, n, cs, rfl, hb, heap_alloc_new w _, Nat.le_refl _, hm, hs, List.take_of_length_le (by simp [hs])⟩⟩
theorem LgaPost.yes {e : EM} {w w1 : World} (h : editOk e = true) (hb : Below w.heap.size w w1) (F : ByteArray) (hF : F = frameB (editT e)) :
    LgaPost e w (.returned (.tuple #[.slice (some ⟨w1.heap.size, 0, none⟩) 2 2, .bool true])) (w1.alloc (.cells #[.int .i64 1, .string ⟨#[108, 111, 103]⟩, .string F, .string ⟨#[]⟩, .int .i64 2, .string ⟨#[108, 111, 103]⟩, .string ⟨#[]⟩, .string ⟨#[]⟩] 43)) := by
  have e1 : logA e = [⟨1, nmLog, F, ⟨#[]⟩⟩, ⟨2, nmLog, ⟨#[]⟩, ⟨#[]⟩⟩] := by unfold logA; rw [if_pos h, hF]
  refine ⟨_, by rw [h], ?_, hb.alloc hb.size _⟩
  rw [e1]
  exact own_lit (t := 43) (sz := 4) #[.int .i64 1, .string ⟨#[108, 111, 103]⟩, .string F, .string ⟨#[]⟩, .int .i64 2, .string ⟨#[108, 111, 103]⟩, .string ⟨#[]⟩, .string ⟨#[]⟩] hb.size (by decide) rfl
theorem LgaPost.no {e : EM} {w w1 : World} {v : Value} (h : editOk e = false) (hb : Below w.heap.size w w1) (ho : w1.ownsRow w.heap.size 43 4 v 0 []) : LgaPost e w (.returned (.tuple #[v, .bool false])) w1 := by
  have e1 : logA e = [] := by unfold logA; rw [if_neg (by simp [h])]
  exact ⟨_, by rw [h], by rw [e1]; exact ho, hb⟩
theorem frV_nil : frV ⟨#[]⟩ = .tuple #[.string ⟨#[]⟩, .bool false] := frV_no (by decide)
set_option maxHeartbeats 1000000 in
theorem specLogActs (e : EM) (w : World) (hf : EFit e) : Calls Tryd.prog 6 #[ev e] w fun r w' => LgaPost e w r w' := by
  have HC := Shut.mk (fun W0 => specEditText e W0 hf)
  cases hok : editOk e with
  | false =>
    have HF := Shut.mk (fun W0 => specFrame ⟨#[]⟩ W0)
    rw [frV_nil] at HF
    simp only [hok, Bool.false_eq_true, if_false] at HC
    have HOK := Shut.mk hok
    clear hok hf
    obtain ⟨kind, path, dest, num, who⟩ := e
    dsimp only [ev] at *
    go_enter Tryd.func6, Tryd.ntmps6
    go_wp2_with (first | (go_at_call 17; refine (HC.out _).mono ?_; rintro r w1 ⟨rfl, hb1⟩) | (go_at_call 18; refine (HF.out _).mono ?_; rintro r w2 ⟨rfl, hb2⟩))
    go_ret2
    have b0 := (Below.refl w.heap.size w).alloc (Nat.le_refl _) (.cells #[.int .i64 kind, .string path, .string dest, .int .i64 num, .int .i64 who] 28)
    have b1 := b0.trans (hb1.mono b0.size)
    have b2 := b1.trans (hb2.mono b1.size)
    exact LgaPost.no HOK.out (b2.alloc b2.size _) (World.ownsRow_made w2 #[] 0 b2.size (by decide) rfl)
  | true =>
    have HF := Shut.mk (fun W0 => specFrame (editT e) W0)
    rw [frV_yes (editT_frame hok)] at HF
    simp only [hok, if_true] at HC
    have HOK := Shut.mk hok
    obtain ⟨E, hE⟩ : ∃ E, E = editT e := ⟨_, rfl⟩
    obtain ⟨F, hF⟩ : ∃ F, F = frameB E := ⟨_, rfl⟩
    rw [← hE] at HC HF
    rw [← hF] at HF
    have HFE : Shut (F = frameB (editT e)) := ⟨by rw [hF, hE]⟩
    clear hok hf hE hF
    obtain ⟨kind, path, dest, num, who⟩ := e
    dsimp only [ev] at *
    go_enter Tryd.func6, Tryd.ntmps6
    go_wp2_with (first | (go_at_call 17; refine (HC.out _).mono ?_; rintro r w1 ⟨rfl, hb1⟩) | (go_at_call 18; refine (HF.out _).mono ?_; rintro r w2 ⟨rfl, hb2⟩))
    go_ret2
    have b0 := (Below.refl w.heap.size w).alloc (Nat.le_refl _) (.cells #[.int .i64 kind, .string path, .string dest, .int .i64 num, .int .i64 who] 28)
    have b1 := b0.trans (hb1.mono b0.size)
    have b2 := b1.trans (hb2.mono b1.size)
    exact LgaPost.yes HOK.out b2 F HFE.out
set_option maxHeartbeats 1000000 in
theorem implLogActs (e : EM) (w : World) (ht : SumTab w) (hf : EFit e) : Calls Tryd.prog 8 #[ev e] w fun r w' => LgaPost e w r w' := by
  have HC := Shut.mk (fun W0 => implEditText e W0 hf)
  have HT := Shut.mk ht
  cases hok : editOk e with
  | false =>
    simp only [hok, Bool.false_eq_true, if_false] at HC
    have HOK := Shut.mk hok
    clear hok hf ht
    obtain ⟨kind, path, dest, num, who⟩ := e
    dsimp only [ev] at *
    go_enter Tryd.func8, Tryd.ntmps8
    go_wp2_with (go_at_call 19; refine (HC.out _).mono ?_; rintro r w1 ⟨rfl, hb1⟩)
    go_ret2
    have b0 := (Below.refl w.heap.size w).alloc (Nat.le_refl _) (.cells #[.int .i64 kind, .string path, .string dest, .int .i64 num, .int .i64 who] 28)
    exact LgaPost.no HOK.out (b0.trans (hb1.mono b0.size)) (World.ownsRow_nil _ _ _ _)
  | true =>
    have HF := Shut.mk (fun (W0 : World) (hb : Below w.heap.size w W0) => implFrame (editT e) W0 (HT.out.stays hb))
    rw [frV_yes (editT_frame hok)] at HF
    simp only [hok, if_true] at HC
    have HOK := Shut.mk hok
    obtain ⟨E, hE⟩ : ∃ E, E = editT e := ⟨_, rfl⟩
    obtain ⟨F, hF⟩ : ∃ F, F = frameB E := ⟨_, rfl⟩
    rw [← hE] at HC HF
    rw [← hF] at HF
    have HFE : Shut (F = frameB (editT e)) := ⟨by rw [hF, hE]⟩
    clear hok hf hE hF ht HT
    obtain ⟨kind, path, dest, num, who⟩ := e
    dsimp only [ev] at *
    have HB0 := Shut.mk ((Below.refl w.heap.size w).alloc (Nat.le_refl _) (.cells #[.int .i64 kind, .string path, .string dest, .int .i64 num, .int .i64 who] 28))
    go_enter Tryd.func8, Tryd.ntmps8
    go_wp2_with (first | (go_at_call 19; refine (HC.out _).mono ?_; rintro r w1 ⟨rfl, hb1⟩; have HB1 := Shut.mk (HB0.out.trans (hb1.mono HB0.out.size))) | (go_at_call 20; refine (HF.out _ HB1.out).mono ?_; rintro r w2 ⟨rfl, hb2⟩))
    go_ret2
    exact LgaPost.yes HOK.out (HB1.out.trans (hb2.mono HB1.out.size)) F HFE.out
end Go.Proofs.YtoglebfiobofoaaDoor
/- ActB: Rows of acts: two that are the same are told so; marks that are laid into one. -/
namespace Go.Proofs.YtoglebfiobofoaaDoor
set_option maxRecDepth 100000
open Go.RowKit
attribute [local go_sem ↓] Go.wp_at_zero Go.wp_at_succ

theorem eqAct_same (f : AM) (w : World) :
    Calls Tryd.prog 21 #[av f, av f] w fun e w' => e = .returned (.bool true) ∧ Below w.heap.size w w' := by
  go_enter Tryd.func21, Tryd.ntmps21
  go_wp2_with fail
  go_ret
  exact ⟨rfl, ((Below.refl _ _).alloc (Nat.le_refl _) _).alloc (by simp) _⟩
set_option maxHeartbeats 1000000 in
theorem eqActS_same (a b : Option Addr) (fs : List AM) (ca cb : Nat) (w : World) (ha : ARow w a fs) (hb : ARow w b fs) (hl : fs.length ≤ 1048576) :
    Calls Tryd.prog 9 #[.slice a fs.length ca, .slice b fs.length cb] w fun e w' => e = .returned (.bool true) ∧ Below w.heap.size w w' := by
  have HA : Hid (ARow w a fs) := ha
  have HB : Hid (ARow w b fs) := hb
  clear ha hb
  go_enter Tryd.func9, Tryd.ntmps9
  go_wp2_with fail
  go_loopw [5] (fun i wr => ∃ (k : Nat), i = .int .i64 k ∧ k ≤ fs.length ∧ Below w.heap.size w wr) (fun i _ => fs.length - (intOf i).toNat)
  case atStart => exact ⟨0, rfl, Nat.zero_le _, Below.refl _ _⟩
  case round =>
    obtain ⟨k, rfl, hk, hbl⟩ := hrel
    by_cases hlt : k < fs.length
    · obtain ⟨b1, o1, rfl, l1, hc1⟩ := ARow.at (HA.out.stays hbl) (by omega)
      obtain ⟨b2, o2, rfl, l2, hc2⟩ := ARow.at (HB.out.stays hbl) (by omega)
      obtain ⟨d0, d1, d2, d3⟩ := hc1 k hlt
      obtain ⟨e0, e1, e2, e3⟩ := hc2 k hlt
      obtain ⟨f, hfe⟩ : ∃ f, f = fs[k] := ⟨_, rfl⟩
      rw [← hfe] at d0 d1 d2 d3 e0 e1 e2 e3
      have HS : Hid (Below w.heap.size w wr) := hbl
      have k0 : (0 : Int) ≤ (k : Int) := by omega
      have k1 : (k : Int) < (fs.length : Int) := by omega
      clear hc1 hc2 hfe hbl
      go_wp2_with fail
      go_region_held3 (fun w' => w'.cell? ⟨b1, o1 + k * 4, none⟩ = some (.int .i64 f.kind) ∧ w'.cell? ⟨b1, o1 + k * 4 + 1, none⟩ = some (.string f.name) ∧ w'.cell? ⟨b1, o1 + k * 4 + 2, none⟩ = some (.string f.text) ∧ w'.cell? ⟨b1, o1 + k * 4 + 3, none⟩ = some (.string f.dst) ∧ w'.cell? ⟨b2, o2 + k * 4, none⟩ = some (.int .i64 f.kind) ∧ w'.cell? ⟨b2, o2 + k * 4 + 1, none⟩ = some (.string f.name) ∧ w'.cell? ⟨b2, o2 + k * 4 + 2, none⟩ = some (.string f.text) ∧ w'.cell? ⟨b2, o2 + k * 4 + 3, none⟩ = some (.string f.dst))
        (first | go_keep | (refine ⟨?_, ?_, ?_, ?_, ?_, ?_, ?_, ?_⟩ <;> first | (rw [hb2.cell (by exact l1)]; simp [*]) | (rw [hb2.cell (by exact l2)]; simp [*])))
        ((go_at_call 21; refine (eqAct_same f _).mono ?_; rintro e w2 ⟨rfl, hb2⟩))
      all_goals go_wp2_with fail
      all_goals
        have hb3 : Below w.heap.size w w2 := HS.out.trans ((Below.drew (Below.refl _ _)).trans (hb2.mono HS.out.size))
        exact ⟨⟨k + 1, by go_num, by omega, hb3⟩, by simp [intOf]; omega⟩
    · have e : k = fs.length := by omega
      subst e
      go_wp2_with fail
      go_ret
      exact ⟨rfl, hbl⟩
theorem markActS_none (a : Option Addr) (k ca : Nat) (w : World) :
    Calls Tryd.prog 10 #[.slice a 0 ca, .int .i64 k] w fun e w' => e = .returned (.int .i64 k) ∧ w' = w := by
  go_enter Tryd.func10, Tryd.ntmps10
  go_wp2_with fail
  go_rounds 1
  go_ret
  exact ⟨rfl, rfl⟩
def MarkActs (g k n : Nat) (w : World) (e : Ending) (w' : World) : Prop := e = .returned (.int .i64 (k + 4 * n : Nat)) ∧ (∃ ys : List AM, ys.length = n ∧ WCells w' g (acs ys)) ∧ w.grownBy w' (some g)
theorem acs_four (ys : List AM) (j : Nat) (hj : j < ys.length) (f : AM) : ((((acs ys).set (j * 4) (.int .i64 f.kind)).set (j * 4 + 1) (.string f.name)).set (j * 4 + 2) (.string f.text)).set (j * 4 + 3) (.string f.dst) = acs (ys.set j f) :=
  flat_setL acells_len ys j hj f
set_option maxHeartbeats 1000000 in
theorem markActS_any (g : Nat) (xs : List AM) (k ca : Nat) (w : World) (ha : WCells w g (acs xs)) (hk : 0 < k) (hn : k + 4 * xs.length ≤ 1000000000) (hca : xs.length ≤ ca) :
    Calls Tryd.prog 10 #[.slice (some ⟨g, 0, none⟩) xs.length ca, .int .i64 k] w fun e w' => MarkActs g k xs.length w e w' := by
  obtain ⟨n, hnx⟩ : ∃ n, n = xs.length := ⟨_, rfl⟩
  have HN : Hid (n = xs.length) := hnx
  rw [← hnx]
  rw [← hnx] at hn hca
  clear hnx
  have HA : Shut (WCells w g (acs xs)) := ⟨ha⟩
  clear ha
  go_enter Tryd.func10, Tryd.ntmps10
  go_wp2_with fail
  go_loopw [1, 5] (fun c i wr => ∃ (j : Nat) (ys : List AM), i = .int .i64 j ∧ c = .int .i64 (k + 4 * j : Nat) ∧ j ≤ n ∧ ys.length = n ∧ Shut (WCells wr g (acs ys)) ∧ w.grownBy wr (some g)) (fun _ i _ => n - (intOf i).toNat)
  case atStart => exact ⟨0, xs, rfl, rfl, Nat.zero_le _, HN.out.symm, HA, grownBy_below (Below.refl _ _)⟩
  case round =>
    obtain ⟨j, ys, rfl, rfl, hj, hyl, hw, hgr⟩ := hrel
    have HL : Hid (ys.length = n) := hyl
    have HGR : Hid (w.grownBy wr (some g)) := hgr
    by_cases hlt : j < n
    · have j0 : (0 : Int) ≤ (j : Int) := by omega
      have j1 : (j : Int) < (n : Int) := by omega
      have hly : (acs ys).length = n * 4 := by rw [acs_len, hyl]
      have Q1 : Shut (∀ W : World, Calls Tryd.prog 22 #[.int .i64 ((k : Int) + 4 * (j : Int) + 1)] W fun e w' => e = .returned (.string (mt (k + 4 * j + 1))) ∧ Below W.heap.size W w') := ⟨fun W => by
        have q := markText_any (k + 4 * j + 1) W (by omega) (by omega)
        rwa [show ((k + 4 * j + 1 : Nat) : Int) = (k : Int) + 4 * (j : Int) + 1 by push_cast; omega] at q⟩
      have Q2 : Shut (∀ W : World, Calls Tryd.prog 22 #[.int .i64 ((k : Int) + 4 * (j : Int) + 1 + 1)] W fun e w' => e = .returned (.string (mt (k + 4 * j + 2))) ∧ Below W.heap.size W w') := ⟨fun W => by
        have q := markText_any (k + 4 * j + 2) W (by omega) (by omega)
        rwa [show ((k + 4 * j + 2 : Nat) : Int) = (k : Int) + 4 * (j : Int) + 1 + 1 by push_cast; omega] at q⟩
      have Q3 : Shut (∀ W : World, Calls Tryd.prog 22 #[.int .i64 ((k : Int) + 4 * (j : Int) + 1 + 1 + 1)] W fun e w' => e = .returned (.string (mt (k + 4 * j + 3))) ∧ Below W.heap.size W w') := ⟨fun W => by
        have q := markText_any (k + 4 * j + 3) W (by omega) (by omega)
        rwa [show ((k + 4 * j + 3 : Nat) : Int) = (k : Int) + 4 * (j : Int) + 1 + 1 + 1 by push_cast; omega] at q⟩
      obtain ⟨c0, z0⟩ := hw.out.2 (j * 4) _ (List.getElem?_eq_getElem (by omega))
      have hs0 := hw.out.set (j * 4) (.int .i64 ((k : Int) + 4 * (j : Int))) (by omega)
      have HS0 : Shut (WCells (wr.setCell ⟨g, j * 4, none⟩ (.int .i64 ((k : Int) + 4 * (j : Int)))) g ((acs ys).set (j * 4) (.int .i64 ((k : Int) + 4 * (j : Int))))) := ⟨hs0⟩
      have HG0 : Hid (w.grownBy (wr.setCell ⟨g, j * 4, none⟩ (.int .i64 ((k : Int) + 4 * (j : Int)))) (some g)) := grownBy_two hgr (grownBy_setCell wr g _ _)
      clear hs0 hgr hw
      go_wp2_with fail
      refine (Q1.out _).mono ?_
      rintro e w1 ⟨rfl, hb1⟩
      have hw1 := HS0.out.grow hb1
      obtain ⟨c1, z1⟩ := hw1.2 (j * 4 + 1) _ (List.getElem?_eq_getElem (by simp only [List.length_set]; omega))
      have hs1 := hw1.set (j * 4 + 1) (.string (mt (k + 4 * j + 1))) (by simp only [List.length_set]; omega)
      have HS1 : Shut (WCells (w1.setCell ⟨g, j * 4 + 1, none⟩ (.string (mt (k + 4 * j + 1)))) g (((acs ys).set (j * 4) (.int .i64 ((k : Int) + 4 * (j : Int)))).set (j * 4 + 1) (.string (mt (k + 4 * j + 1))))) := ⟨hs1⟩
      have HG1 : Hid (w.grownBy (w1.setCell ⟨g, j * 4 + 1, none⟩ (.string (mt (k + 4 * j + 1)))) (some g)) := grownBy_two HG0.out (grownBy_two (grownBy_below hb1) (grownBy_setCell w1 g _ _))
      clear hb1 hw1 hs1 HS0 HG0
      go_wp2_with fail
      refine (Q2.out _).mono ?_
      rintro e w2 ⟨rfl, hb2⟩
      have hw2 := HS1.out.grow hb2
      obtain ⟨c2, z2⟩ := hw2.2 (j * 4 + 2) _ (List.getElem?_eq_getElem (by simp only [List.length_set]; omega))
      have hs2 := hw2.set (j * 4 + 2) (.string (mt (k + 4 * j + 2))) (by simp only [List.length_set]; omega)
      have HS2 : Shut (WCells (w2.setCell ⟨g, j * 4 + 2, none⟩ (.string (mt (k + 4 * j + 2)))) g ((((acs ys).set (j * 4) (.int .i64 ((k : Int) + 4 * (j : Int)))).set (j * 4 + 1) (.string (mt (k + 4 * j + 1)))).set (j * 4 + 2) (.string (mt (k + 4 * j + 2))))) := ⟨hs2⟩
      have HG2 : Hid (w.grownBy (w2.setCell ⟨g, j * 4 + 2, none⟩ (.string (mt (k + 4 * j + 2)))) (some g)) := grownBy_two HG1.out (grownBy_two (grownBy_below hb2) (grownBy_setCell w2 g _ _))
      clear hb2 hw2 hs2 HS1 HG1
      go_wp2_with fail
      refine (Q3.out _).mono ?_
      rintro e w3 ⟨rfl, hb3⟩
      have hw3 := HS2.out.grow hb3
      obtain ⟨c3, z3⟩ := hw3.2 (j * 4 + 3) _ (List.getElem?_eq_getElem (by simp only [List.length_set]; omega))
      have hs3 := hw3.set (j * 4 + 3) (.string (mt (k + 4 * j + 3))) (by simp only [List.length_set]; omega)
      have hfin := acs_four ys j (by have := HL.out; omega) ⟨(k : Int) + 4 * (j : Int), mt (k + 4 * j + 1), mt (k + 4 * j + 2), mt (k + 4 * j + 3)⟩
      rw [hfin] at hs3
      have HS3 : Shut (WCells (w3.setCell ⟨g, j * 4 + 3, none⟩ (.string (mt (k + 4 * j + 3)))) g (acs (ys.set j ⟨(k : Int) + 4 * (j : Int), mt (k + 4 * j + 1), mt (k + 4 * j + 2), mt (k + 4 * j + 3)⟩))) := ⟨hs3⟩
      have HG3 : Hid (w.grownBy (w3.setCell ⟨g, j * 4 + 3, none⟩ (.string (mt (k + 4 * j + 3)))) (some g)) := grownBy_two HG2.out (grownBy_two (grownBy_below hb3) (grownBy_setCell w3 g _ _))
      clear hb3 hw3 hs3 HS2 HG2
      clear hfin
      go_wp2_with fail
      go_roundw
      case rel => exact ⟨j + 1, _, by go_num, congrArg (Value.int .i64) (by omega), by omega, by rw [List.length_set]; exact HL.out, HS3, HG3.out⟩
      case measure => simp [intOf]; omega
    · have e : j = n := by omega
      subst e
      go_wp2_with fail
      go_ret
      exact ⟨rfl, ⟨ys, hyl, hw.out⟩, hgr⟩
end Go.Proofs.YtoglebfiobofoaaDoor
