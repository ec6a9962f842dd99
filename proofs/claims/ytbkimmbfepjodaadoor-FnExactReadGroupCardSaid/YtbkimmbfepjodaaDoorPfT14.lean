/- Texts of ours, laid one behind the other: TSumS, TUnM, TUoM, TMemA, TUnRm, TSlG, THoA, THsM, TUoA, TTreC, TTreD, TTreE, TTreP, TTreQ, TGrwA, TSpH, TOwS. -/
import Derived.Test.YtbkimmbfepjodaaDoorPfT13
import Derived.Deep.RegionHeld3
import Derived.Deep.DrawnRows
import Derived.Deep.AppendLies
import Derived.OwnWalk
import Derived.Lib.LaidTab
import Derived.Lib.SmallJoins
import Derived.Deep.CutRange
import Derived.BigQuiet
import Derived.Maps.AppendAt
set_option linter.unusedVariables false
set_option linter.unusedSimpArgs false
/- The walks of the sums over bytes. -/
namespace Go.Proofs.YtbkimmbfepjodaaDoorT
set_option maxRecDepth 100000
open Go.RowKit
open W (B32)
open Go.PlainAid (bt)
attribute [local go_sem ↓] Go.wp_at_zero Go.wp_at_succ

def sumTab : List Int := [0, 1166650509, 2333301018, 3466261911, 3189058079, 4221339282, 889615109, 1888477064, 3558460437, 2442158232, 1594529039, 444807554, 1779230218, 797264519, 3776954128, 2761298845]
/-- The table of the sums holds what the program's text lays. -/
abbrev SumTab (w : World) : Prop := Lib.TabIs Tw.prog w "loop.example/g00197/impl.sumSteps" .u32 sumTab
theorem gSum : Tw.prog.globalNamed "loop.example/g00197/impl.sumSteps" = some 0 := by kernel_rfl
theorem SumTab.stays {w w' : World} (h : SumTab w) (hb : Below w.heap.size w w') : SumTab w' := Joins.tab_stays gSum h hb (Nat.le_refl _)
theorem sum_cell {w : World} (h : SumTab w) (x : B32) : w.cell? ⟨0, (x &&& 15#32).toNat, none⟩ = some (u32 (W.st4 (x &&& 15#32))) := by
  have hn : (x &&& 15#32).toNat < 16 := by
    rw [BitVec.toNat_and]; exact Nat.lt_of_le_of_lt Nat.and_le_right (by decide)
  have hc := World.var?_cell gSum h (x &&& 15#32).toNat
  have e : W.tab (x &&& 15#32).toNat = (W.st4 (x &&& 15#32)).toNat := by
    unfold W.tab; rw [BitVec.ofNat_toNat]; simp
  have ht := congrArg (·[(x &&& 15#32).toNat]?) W.tab_all
  simp only [List.getElem?_map, List.getElem?_range hn, Option.map_some] at ht
  rw [hc, show u32 (W.st4 (x &&& 15#32)) = .int .u32 ((W.tab (x &&& 15#32).toNat : Nat) : Int) by rw [e]]
  generalize (x &&& 15#32).toNat = n at hn ht
  generalize W.tab n = m at ht
  match n, hn with
  | 0, _ | 1, _ | 2, _ | 3, _ | 4, _ | 5, _ | 6, _ | 7, _ | 8, _ | 9, _ | 10, _ | 11, _ | 12, _ | 13, _ | 14, _ | 15, _ => simp at ht; subst ht; rfl

theorem fourSteps_plain (a q v r : Int) (n : Nat) (w : World) (h1 : bits BinOp.and IntKind.u32 a 15 = (n : Int)) (h2 : a / 16 = q) (hn : (n : Int) < 16) (hc : w.cell? ⟨0, n, none⟩ = some (.int .u32 v))
    (h3 : bits BinOp.xor IntKind.u32 q v = r) : Calls Tw.prog 95 #[.int .u32 a] w fun e w' => e = .returned (.int .u32 r) ∧ w' = w := by
  have hn0 : (0 : Int) ≤ (n : Int) := by omega
  go_enter Tw.func95, Tw.ntmps95
  go_wp2_with fail
  go_ret
  exact ⟨rfl, rfl⟩
theorem fourSteps (x : B32) (w : World) (h : SumTab w) :
    Calls Tw.prog 95 #[u32 x] w fun e w' => e = .returned (u32 (W.st4 x)) ∧ w' = w := by
  have hx := u32_xor (x >>> 4) (W.st4 (x &&& 15#32))
  rw [← W.st4_low] at hx
  have hn : ((x &&& 15#32).toNat : Int) < 16 := by
    have : (x &&& 15#32).toNat < 16 := by
      rw [BitVec.toNat_and]; exact Nat.lt_of_le_of_lt Nat.and_le_right (by decide)
    omega
  exact fourSteps_plain _ _ _ _ _ w (u32_and x 15#32) (u32_shr x 4) hn (sum_cell h x) hx
set_option maxHeartbeats 1000000 in
theorem sumMore (x : B32) (s : ByteArray) (w : World) (h : SumTab w) (hs : s.size ≤ 1048576) :
    Calls Tw.prog 94 #[u32 x, .string s] w fun e w' => e = .returned (u32 (W.crc x s.data.toList)) ∧ w' = w := by
  have HT : Hid (SumTab w) := h
  clear h
  go_enter Tw.func94, Tw.ntmps94
  go_wp2_with fail
  go_loop [0, 8] (fun v i => ∃ (k : Nat) (y : B32), v = u32 y ∧ i = .int .i64 k ∧ k ≤ s.size ∧ y = W.crc x (W.firstK s k)) (fun _ i => s.size - (intOf i).toNat)
  case atStart => exact ⟨0, x, rfl, rfl, Nat.zero_le _, by simp [W.firstK, W.crc]⟩
  case round =>
    obtain ⟨k, y, rfl, rfl, hk, hy⟩ := hrel
    have HY : Hid (y = W.crc x (W.firstK s k)) := hy
    clear hy
    by_cases hlt : k < s.size
    · obtain ⟨b, hb, hbt⟩ := W.firstK_step s k hlt
      have k0 : (0 : Int) ≤ (k : Int) := by omega
      have k1 : (k : Int) < (s.size : Int) := by omega
      have hix := index_str s k hlt
      rw [hbt] at hix
      have hbw : IntKind.u32.wrap (b.toNat : Int) = (b.toNat : Int) := by
        have := b.toNat_lt
        simp [IntKind.wrap, IntKind.bits, IntKind.signed]; omega
      obtain ⟨z, hz⟩ : ∃ z, z = y ^^^ W.by32 b := ⟨_, rfl⟩
      have hxor := u32_byte y b
      rw [← hz] at hxor
      have HB : Hid (W.firstK s (k + 1) = W.firstK s k ++ [b]) := hb
      have HZ : Hid (z = y ^^^ W.by32 b) := hz
      clear hb hz hbt
      go_wp2_with fail
      refine (fourSteps z _ HT.out).mono ?_
      rintro e w1 ⟨rfl, rfl⟩
      go_wp2_with fail
      refine (fourSteps _ _ HT.out).mono ?_
      rintro e w2 ⟨rfl, rfl⟩
      go_wp2_with fail
      go_round
      case rel => exact ⟨k + 1, W.st8 z, rfl, by go_num, by omega, by rw [HB.out, W.crc_snoc, HZ.out, HY.out]⟩
      case measure => simp [intOf]; omega
    · obtain rfl : y = W.crc x s.data.toList := by rw [HY.out, W.firstK_all s k (by omega)]
      go_wp2_with fail
      go_ret
      exact ⟨rfl, rfl⟩
set_option maxHeartbeats 1000000 in
theorem specMore (x : B32) (s : ByteArray) (w : World) (hs : s.size ≤ 1048576) :
    Calls Tw.prog 78 #[u32 x, .string s] w fun e w' => e = .returned (u32 (W.crc x s.data.toList)) ∧ w' = w := by
  go_enter Tw.func78, Tw.ntmps78
  go_wp2_with fail
  go_loop [0, 5] (fun v i => ∃ (k : Nat) (y : B32), v = u32 y ∧ i = .int .i64 k ∧ k ≤ s.size ∧ y = W.crc x (W.firstK s k)) (fun _ i => s.size - (intOf i).toNat)
  case atStart => exact ⟨0, x, rfl, rfl, Nat.zero_le _, by simp [W.firstK, W.crc]⟩
  case round =>
    obtain ⟨k, y, rfl, rfl, hk, hy⟩ := hrel
    have HY : Hid (y = W.crc x (W.firstK s k)) := hy
    clear hy
    by_cases hlt : k < s.size
    · obtain ⟨b, hb, hbt⟩ := W.firstK_step s k hlt
      have k0 : (0 : Int) ≤ (k : Int) := by omega
      have k1 : (k : Int) < (s.size : Int) := by omega
      have hix := index_str s k hlt
      rw [hbt] at hix
      have hbw : IntKind.u32.wrap (b.toNat : Int) = (b.toNat : Int) := by
        have := b.toNat_lt
        simp [IntKind.wrap, IntKind.bits, IntKind.signed]; omega
      obtain ⟨z, hz⟩ : ∃ z, z = y ^^^ W.by32 b := ⟨_, rfl⟩
      have hxor := u32_byte y b
      rw [← hz] at hxor
      have HB : Hid (W.firstK s (k + 1) = W.firstK s k ++ [b]) := hb
      have HZ : Hid (z = y ^^^ W.by32 b) := hz
      clear hb hz hbt
      go_wp2_with fail
      go_loop [0, 6] (fun v i => ∃ (j : Nat) (y : B32), v = u32 y ∧ i = .int .i64 j ∧ j ≤ 8 ∧ y = W.stN j z) (fun _ i => 8 - (intOf i).toNat)
      case atStart => exact ⟨0, z, rfl, rfl, Nat.zero_le _, rfl⟩
      case round =>
        obtain ⟨j, y1, rfl, rfl, hj, hy1⟩ := hrel
        have HY1 : Hid (y1 = W.stN j z) := hy1
        clear hy1
        by_cases hj8 : j < 8
        · have hhalf := u32_half y1
          have hodd := u32_odd y1
          have hpoly := u32_poly y1
          obtain ⟨z1, hz1⟩ : ∃ z1, z1 = y1 >>> 1 := ⟨_, rfl⟩
          rw [← hz1] at hhalf hpoly
          have j8 : (j : Int) < 8 := by omega
          have w1 := u32_wrap z1
          by_cases ho : y1.getLsbD 0 = true
          · rw [if_pos ho] at hodd
            have e : W.st y1 = z1 ^^^ W.poly := by unfold W.st; rw [if_pos ho, hz1]
            rw [← e] at hpoly
            have HE : Hid _ := e
            have HZ1 : Hid _ := hz1
            clear e hz1 ho
            go_wp2_with fail
            go_round
            case rel => exact ⟨j + 1, W.st y1, rfl, by go_num, by omega, by rw [HY1.out]; rfl⟩
            case measure => simp [intOf]; omega
          · rw [if_neg ho] at hodd
            have e : W.st y1 = z1 := by unfold W.st; rw [if_neg ho, hz1]; simp
            have HE : Hid _ := e
            have HZ1 : Hid _ := hz1
            clear e hz1 ho hpoly
            go_wp2_with fail
            go_round
            case rel => exact ⟨j + 1, z1, rfl, by go_num, by omega, by rw [← HE.out, HY1.out]; rfl⟩
            case measure => simp [intOf]; omega
        · obtain rfl : j = 8 := by omega
          go_wp2_with fail
          go_round
          case rel => exact ⟨k + 1, y1, rfl, by go_num, by omega, by rw [HB.out, W.crc_snoc, HY1.out, HZ.out, HY.out, W.st8_N]⟩
          case measure => simp [intOf]; omega
    · obtain rfl : y = W.crc x s.data.toList := by rw [HY.out, W.firstK_all s k (by omega)]
      go_wp2_with fail
      go_ret
      exact ⟨rfl, rfl⟩
theorem implSumMore (x : B32) (s : ByteArray) (w : World) (h : SumTab w) (hs : s.size ≤ 1048576) :
    Calls Tw.prog 93 #[u32 x, .string s] w fun e w' => e = .returned (u32 (W.crc x s.data.toList)) ∧ w' = w := by
  have HT : Hid (SumTab w) := h
  clear h
  have hw := u32_wrap x
  go_enter Tw.func93, Tw.ntmps93
  go_wp2_with fail
  refine (sumMore x s _ HT.out hs).mono ?_
  rintro e w1 ⟨rfl, rfl⟩
  go_wp2_with fail
  go_ret
  exact ⟨rfl, rfl⟩
def _root_.Go.Proofs.YtbkimmbfepjodaaDoorT.W.sumOf (s : ByteArray) : B32 := W.crc 4294967295#32 s.data.toList
theorem implSumOf (s : ByteArray) (w : World) (h : SumTab w) (hs : s.size ≤ 1048576) :
    Calls Tw.prog 92 #[.string s] w fun e w' => e = .returned (u32 (W.sumOf s)) ∧ w' = w := by
  have HT : Hid (SumTab w) := h
  clear h
  go_enter Tw.func92, Tw.ntmps92
  go_wp2_with fail
  refine (implSumMore 4294967295#32 s _ HT.out hs).mono ?_
  rintro e w1 ⟨rfl, rfl⟩
  go_wp2_with fail
  go_ret
  exact ⟨rfl, rfl⟩
theorem specSumOf (s : ByteArray) (w : World) (hs : s.size ≤ 1048576) :
    Calls Tw.prog 62 #[.string s] w fun e w' => e = .returned (u32 (W.sumOf s)) ∧ w' = w := by
  go_enter Tw.func62, Tw.ntmps62
  go_wp2_with fail
  refine (specMore 4294967295#32 s _ hs).mono ?_
  rintro e w1 ⟨rfl, rfl⟩
  go_wp2_with fail
  go_ret
  exact ⟨rfl, rfl⟩
end Go.Proofs.YtbkimmbfepjodaaDoorT
/- Hosts and units, plain: what each function of the chapter answers. -/
namespace Go.Proofs.YtbkimmbfepjodaaDoorT
set_option maxRecDepth 100000
open Go.RowKit

/-- A host. -/
structure HM where
  id : Int
  up : Bool
  us : List UnM
instance : Inhabited HM := ⟨⟨0, false, []⟩⟩
/-- The sum of a text, as a number. -/
def sumN (t : ByteArray) : Int := ((W.sumOf t).toNat : Int)
def unIdx (L : List UnM) (g i : Int) : Nat := L.findIdx fun u => u.group == g && u.index == i
def summed (u : UnM) : UnM := ⟨u.group, u.index, u.text, sumN u.text⟩
def unSound (u : UnM) : Bool := u.sum == sumN u.text
def getX (h : HM) (g i : Int) : ByteArray × Bool :=
  if h.up && decide (unIdx h.us g i < h.us.length) && unSound (h.us.getD (unIdx h.us g i) default) then ((h.us.getD (unIdx h.us g i) default).text, true) else (⟨#[]⟩, false)
end Go.Proofs.YtbkimmbfepjodaaDoorT
/- The units of a group, plain: of each index the first host's that has it. -/
namespace Go.Proofs.YtbkimmbfepjodaaDoorT
set_option maxRecDepth 100000
open Go.RowKit

def firstU (hs : List HM) (g i : Int) : ByteArray × Bool :=
  match hs with
  | [] => (⟨#[]⟩, false)
  | h :: hs => if (getX h g i).2 = true then getX h g i else firstU hs g i
theorem getX_none {h : HM} {g i : Int} (e : (getX h g i).2 = false) : getX h g i = (⟨#[]⟩, false) := by
  unfold getX at e ⊢
  split
  · rename_i c; rw [if_pos c] at e; cases e
  · rfl
theorem firstU_none {hs : List HM} {g i : Int} (e : (firstU hs g i).2 = false) : firstU hs g i = (⟨#[]⟩, false) := by
  induction hs with
  | nil => rfl
  | cons h hs ih =>
    unfold firstU at e ⊢
    split
    · rename_i c; rw [if_pos c, c] at e; cases e
    · rename_i c; rw [if_neg c] at e; exact ih e
theorem firstU_append (hs ks : List HM) (g i : Int) : firstU (hs ++ ks) g i = if (firstU hs g i).2 = true then firstU hs g i else firstU ks g i := by
  induction hs with
  | nil => simp [firstU]
  | cons h hs ih =>
    rw [List.cons_append, firstU, firstU]
    split
    · rename_i c; first | rfl | rw [if_pos c]
    · exact ih
theorem firstU_one (h : HM) (g i : Int) : firstU [h] g i = getX h g i := by
  unfold firstU
  split
  · rfl
  · rename_i c; rw [getX_none (by simpa using c)]; rfl
/-- One host more is asked. -/
theorem firstU_take {hs : List HM} {k : Nat} (hk : k < hs.length) (g i : Int) (e : (firstU (hs.take k) g i).2 = false) : firstU (hs.take (k + 1)) g i = getX hs[k] g i := by
  rw [List.take_succ_eq_append_getElem hk, firstU_append, e, if_neg (by simp), firstU_one]
theorem firstU_stop {hs : List HM} {k : Nat} (g i : Int) (e : (firstU (hs.take k) g i).2 = true) : firstU hs g i = firstU (hs.take k) g i := by
  conv => lhs; rw [← List.take_append_drop k hs]
  rw [firstU_append, if_pos e]
theorem firstU_mem {hs : List HM} {g i : Int} (e : (firstU hs g i).2 = true) : ∃ h ∈ hs, firstU hs g i = getX h g i ∧ (getX h g i).2 = true := by
  induction hs with
  | nil => simp [firstU] at e
  | cons h hs ih =>
    unfold firstU at e ⊢
    split
    · rename_i c; exact ⟨h, List.mem_cons_self .., rfl, c⟩
    · rename_i c
      rw [if_neg c] at e
      obtain ⟨k, hk, e1, e2⟩ := ih e
      exact ⟨k, List.mem_cons_of_mem _ hk, e1, e2⟩
/-- So many units and sums. -/
def schN (s : Int) : Nat := schK s + schM s
theorem schN_le (s : Int) : schN s ≤ 6 := by unfold schN schK schM; split <;> (try split) <;> (try split) <;> omega
def unitsL (hs : List HM) (g : Int) (n : Nat) : List (ByteArray × Bool) := (List.range n).map fun (i : Nat) => firstU hs g (i : Int)
theorem unitsL_len (hs : List HM) (g : Int) (n : Nat) : (unitsL hs g n).length = n := by simp [unitsL]
def unitsT (hs : List HM) (s g : Int) : List ByteArray := (unitsL hs g (schN s)).map Prod.fst
def unitsB (hs : List HM) (s g : Int) : List Bool := (unitsL hs g (schN s)).map Prod.snd
theorem unitsT_len (hs : List HM) (s g : Int) : (unitsT hs s g).length = schN s := by simp [unitsT, unitsL_len]
theorem unitsB_len (hs : List HM) (s g : Int) : (unitsB hs s g).length = schN s := by simp [unitsB, unitsL_len]
theorem firstU_size {hs : List HM} {g i : Int} {B : Nat} (h : ∀ x ∈ hs, unSum x.us ≤ B) : (firstU hs g i).1.size ≤ B := by
  cases e : (firstU hs g i).2 with
  | false => rw [firstU_none e]; exact Nat.zero_le _
  | true =>
    obtain ⟨x, hx, e1, e2⟩ := firstU_mem e
    rw [e1]
    have q := h x hx
    unfold getX at e2 ⊢
    split
    · rename_i c
      simp only [Bool.and_eq_true, decide_eq_true_eq] at c
      have l := c.1.2
      refine Nat.le_trans ?_ q
      exact unSum_mem (by simp [List.getD, l])
    · rename_i c; rw [if_neg c] at e2; cases e2
end Go.Proofs.YtbkimmbfepjodaaDoorT
/- What lies in memory through a law: boxes, and rows of their own. -/
namespace Go.Proofs.YtbkimmbfepjodaaDoorT
set_option maxRecDepth 100000
open Go.RowKit

/-- A row of its own between two places, or none. -/
def FRw (w : World) (va : Option Addr) (X : List Value) (lo hi : Nat) : Prop := (va = none ∧ X = []) ∨ ∃ g, va = some ⟨g, 0, none⟩ ∧ lo ≤ g ∧ g < hi ∧ WCells w g X
theorem FRw.of_wcells {w : World} {g lo hi : Nat} {X : List Value} (h : WCells w g X) (h1 : lo ≤ g) (h2 : g < hi) : FRw w (some ⟨g, 0, none⟩) X lo hi := .inr ⟨g, rfl, h1, h2, h⟩
theorem FRw.of_own {w : World} {B n c t sz : Nat} {va : Option Addr} {X : List Value} (h : w.ownsRow B t sz (.slice va n c) n X) : FRw w va X B w.heap.size ∧ n ≤ c := by
  have h' := h
  rcases h.2 with ⟨h0, hX⟩ | ⟨g, cap, cur, he, hB, hcur, hn, _, _, _⟩
  · simp only [Value.slice.injEq] at h0
    obtain ⟨rfl, h1, rfl⟩ := h0
    refine ⟨.inl ⟨rfl, ?_⟩, by omega⟩
    have hl := h'.1
    rw [hX, Nat.zero_mul] at hl
    exact List.eq_nil_of_length_eq_zero hl
  · simp only [Value.slice.injEq] at he
    obtain ⟨rfl, _, rfl⟩ := he
    exact ⟨.inr ⟨g, rfl, hB, (Array.getElem?_eq_some_iff.1 hcur).1, own_wcells h'⟩, hn⟩
/-- Boxes and rows that lie in a world; what was there at the start is as it was. -/
structure Mem (w0 w : World) (L : List (Nat × List Value)) (R : List (Option Addr × List Value × Nat × Nat)) : Prop where
  cells : ∀ p ∈ L, WCells w p.1 p.2
  rows : ∀ r ∈ R, FRw w r.1 r.2.1 r.2.2.1 r.2.2.2
  low : Below w0.heap.size w0 w
theorem Mem.cell {w0 w : World} {L : List (Nat × List Value)} {R : List (Option Addr × List Value × Nat × Nat)} (M : Mem w0 w L R) {g : Nat} {v : Value} (h : (g, [v]) ∈ L) : w.cell? ⟨g, 0, none⟩ = some v := ((M.cells _ h).2 0 _ rfl).1
end Go.Proofs.YtbkimmbfepjodaaDoorT
/- Rows of Units: marks that are laid into one, and found again (written by gen/mkflat.py). -/
namespace Go.Proofs.YtbkimmbfepjodaaDoorT
set_option maxRecDepth 100000
open Go.RowKit
attribute [local go_sem ↓] Go.wp_at_zero Go.wp_at_succ

end Go.Proofs.YtbkimmbfepjodaaDoorT
/- Stretches of memory: what lies in each, all apart; what is put into one leaves the others as they are. -/
namespace Go.Proofs.YtbkimmbfepjodaaDoorT
set_option maxRecDepth 100000
open Go.RowKit

/-- Something that lies in the blocks from lo to hi. -/
structure Str where
  p : World → Prop
  lo : Nat
  hi : Nat
def Str.Loc (s : Str) : Prop := ∀ W W' l h, s.p W → Turned W W' l h → (s.hi ≤ l ∨ h ≤ s.lo) → s.p W'
/-- A box. -/
abbrev bxS (b : Nat) (X : List Value) : Str := ⟨fun W => WCells W b X, b, b + 1⟩
/-- A row. -/
abbrev rwS (va : Option Addr) (X : List Value) (lo hi : Nat) : Str := ⟨fun W => FRw W va X lo hi, lo, hi⟩
theorem bxS.loc (b : Nat) (X : List Value) : (bxS b X).Loc := fun _ _ _ _ h t hd => h.turned t (by rcases hd with h | h <;> (dsimp only [bxS] at h; omega))
theorem rwS.loc (va : Option Addr) (X : List Value) (lo hi : Nat) : (rwS va X lo hi).Loc := fun _ _ l h hp t hd => by
  rcases hp with e | ⟨g, h1, h2, h3, h4⟩
  · exact .inl e
  · exact .inr ⟨g, h1, h2, h3, h4.turned t (by rcases hd with e | e <;> (dsimp only [rwS] at e; omega))⟩
structure SL (w0 W : World) (S : List Str) : Prop where
  bel : Below w0.heap.size w0 W
  is : ∀ s ∈ S, s.p W ∧ s.Loc ∧ w0.heap.size ≤ s.lo ∧ s.hi ≤ W.heap.size
  apart : S.Pairwise fun s t => s.hi ≤ t.lo ∨ t.hi ≤ s.lo
section
variable {w0 W W' : World} {S : List Str} {s t : Str}
theorem SL.start (w : World) : SL w w [] := ⟨Below.refl _ _, fun _ h => (by cases h), .nil⟩
theorem SL.below (h : SL w0 W S) (hb : Below W.heap.size W W') : SL w0 W' S :=
  ⟨h.bel.trans (hb.mono h.bel.size), fun s hs => ⟨(h.is s hs).2.1 W W' W'.heap.size W'.heap.size (h.is s hs).1 (Turned.of_below hb _ _) (.inl (Nat.le_trans (h.is s hs).2.2.2 hb.size)), (h.is s hs).2.1, (h.is s hs).2.2.1, Nat.le_trans (h.is s hs).2.2.2 hb.size⟩, h.apart⟩
/-- What a call has made. -/
theorem SL.add (h : SL w0 W S) (hb : Below W.heap.size W W') (hp : s.p W') (hl : s.Loc) (h1 : W.heap.size ≤ s.lo) (h2 : s.hi ≤ W'.heap.size) : SL w0 W' (s :: S) := by
  have k := h.below hb
  refine ⟨k.bel, fun x hx => ?_, List.pairwise_cons.2 ⟨fun x hx => .inr (Nat.le_trans (h.is x hx).2.2.2 h1), h.apart⟩⟩
  rcases List.mem_cons.1 hx with rfl | hx
  · exact ⟨hp, hl, Nat.le_trans h.bel.size h1, h2⟩
  · exact k.is x hx
theorem SL.new (h : SL w0 W S) (cs : Array Value) (ty : TypeId) : SL w0 (W.alloc (.cells cs ty)) (bxS W.heap.size cs.toList :: S) :=
  h.add ((Below.refl _ _).alloc (Nat.le_refl _) _) (wcells_new W cs ty) (bxS.loc _ _) (Nat.le_refl _) (by simp)
theorem SL.at (h : SL w0 W S) (i : Nat) (hs : S[i]? = some s) : s.p W := (h.is _ (List.mem_of_getElem? hs)).1
theorem SL.bx (h : SL w0 W S) (i : Nat) {b : Nat} {X : List Value} (hs : S[i]? = some (bxS b X)) (j : Nat) (v : Value) (hv : X[j]? = some v) : W.cell? ⟨b, j, none⟩ = some v ∧ W.frozen? ⟨b, j, none⟩ = false := (show WCells W b X from h.at i hs).2 j v hv
/-- What lies in one stretch is turned. -/
theorem SL.turn (h : SL w0 W S) (i : Nat) (hs : S[i]? = some s) (tu : Turned W W' s.lo s.hi) {q : World → Prop} (hq : q W') (hl : Str.Loc ⟨q, s.lo, s.hi⟩) : SL w0 W' (S.set i ⟨q, s.lo, s.hi⟩) := by
  have hm := h.is s (List.mem_of_getElem? hs)
  obtain ⟨hi, hie⟩ := List.getElem?_eq_some_iff.1 hs
  have hap : ∀ j (hj : j < S.length), j ≠ i → S[j].hi ≤ s.lo ∨ s.hi ≤ S[j].lo := fun j hj hne => by
    have := List.pairwise_iff_getElem.1 h.apart
    rcases Nat.lt_or_gt_of_ne hne with e | e
    · have := this j i hj hi e; rw [hie] at this; exact this
    · have := this i j hi hj e; rw [hie] at this; exact this.symm
  refine ⟨⟨h.bel.os ▸ tu.base.os ▸ rfl, ?_, ?_, ?_, ?_⟩, fun x hx => ?_, ?_⟩
  · exact tu.base.tape.trans h.bel.tape
  · exact tu.base.output.trans h.bel.output
  · exact Nat.le_trans h.bel.size tu.base.size
  · intro k hk
    exact (tu.block k (Nat.lt_of_lt_of_le hk h.bel.size) (by omega)).trans (h.bel.block k hk)
  · obtain ⟨j, hj, rfl⟩ := List.getElem_of_mem hx
    rw [List.length_set] at hj
    by_cases e : j = i
    · subst e
      rw [List.getElem_set_self]
      exact ⟨hq, hl, hm.2.2.1, Nat.le_trans hm.2.2.2 tu.base.size⟩
    · rw [List.getElem_set_ne (Ne.symm e)]
      have k := h.is _ (List.getElem_mem hj)
      exact ⟨k.2.1 W W' _ _ k.1 tu (hap j hj e), k.2.1, k.2.2.1, Nat.le_trans k.2.2.2 tu.base.size⟩
  · rw [List.pairwise_iff_getElem] at *
    intro a b ha hb hab
    rw [List.length_set] at ha hb
    have := List.pairwise_iff_getElem.1 h.apart a b ha hb hab
    rw [List.getElem_set, List.getElem_set]
    split <;> split
    · omega
    · rename_i e1 e2; subst e1; rw [hie] at this; exact this
    · rename_i e1 e2; subst e2; rw [hie] at this; exact this
    · exact this
theorem SL.put (h : SL w0 W S) (i : Nat) {b : Nat} {X : List Value} (hs : S[i]? = some (bxS b X)) (j : Nat) (v : Value) (hj : j < X.length) : SL w0 (W.setCell ⟨b, j, none⟩ v) (S.set i (bxS b (X.set j v))) :=
  h.turn i hs (Turned.of_grown (gb_set' W b j v) (Nat.le_refl _) (Nat.lt_succ_self _)) ((show WCells W b X from h.at i hs).set j v hj) (bxS.loc _ _)
end
end Go.Proofs.YtbkimmbfepjodaaDoorT
/- Hosts in memory, and in the laws: sizes, copies, two that are the same, marks. -/
namespace Go.Proofs.YtbkimmbfepjodaaDoorT
set_option maxRecDepth 100000
open Go.RowKit
attribute [local go_sem ↓] Go.wp_at_zero Go.wp_at_succ

/-- A host's value: its units in a row. -/
abbrev hov (H : HM) (a : Option Addr) (cap : Nat) : Value := .agg #[.int .i64 H.id, .bool H.up, .slice a H.us.length cap]
def HoPost (H : HM) (w : World) (e : Ending) (w' : World) : Prop := ∃ a cap, e = .returned (hov H a cap) ∧ FRw w' a (unS H.us) w.heap.size w'.heap.size ∧ H.us.length ≤ cap ∧ Below w.heap.size w w'
theorem szHost_any (H : HM) (a : Option Addr) (cap : Nat) (left : Int) (w : World) (hr : UnRow w a H.us) (hf : UnFits H.us) (h0 : 0 ≤ left) (h1 : left ≤ 1048576) :
    Calls Tw.prog 9 #[hov H a cap, .int .i64 left] w fun e w' => SzPostUn left (H.us.length + unSum H.us) w e w' := by
  have HB0 := Shut.mk (show Below w.heap.size w (w.alloc (.cells #[.int .i64 H.id, .bool H.up, .slice a H.us.length cap] 33)) from (Below.refl _ _).alloc (Nat.le_refl _) _)
  have HR := Shut.mk (hr.stays HB0.out)
  have HF := Shut.mk hf
  clear hr hf
  go_enter Tw.func9, Tw.ntmps9
  go_wp2_with fail
  refine (szUnitS_any a H.us cap left _ HR.out HF.out h0 h1).mono ?_
  rintro e w2 ⟨r, rfl, hr1, hr2, hb2⟩
  have HB2 := Shut.mk (HB0.out.trans (hb2.mono HB0.out.size))
  have HR2 := Shut.mk hr2
  clear hb2 hr2
  by_cases hr : r < 0
  · go_wp2_with fail
    go_ret
    exact ⟨-1, rfl, by omega, by omega, HB2.out⟩
  · go_wp2_with fail
    go_ret
    exact ⟨r, rfl, hr1, HR2.out, HB2.out⟩
theorem toHost_any (H : HM) (a : Option Addr) (cap : Nat) (w : World) (hr : UnRow w a H.us) (hl : H.us.length ≤ 1048576) :
    Calls Tw.prog 13 #[hov H a cap] w fun e w' => HoPost H w e w' := by
  have HS0 := Shut.mk ((((SL.start w).new #[.int .i64 H.id, .bool H.up, .slice a H.us.length cap] 33).new #[.int .i64 0, .bool false, .slice none 0 0] 43).new #[.int .i64 H.id, .bool H.up, .slice none 0 0] 43)
  simp only [World.size_alloc] at HS0
  have HR := Shut.mk hr
  clear hr
  obtain ⟨id, up, us⟩ := H
  dsimp only at *
  obtain ⟨n, hn⟩ : ∃ n, n = us.length := ⟨_, rfl⟩
  have HN := Shut.mk hn
  show Calls Tw.prog 13 #[.agg #[.int .i64 id, .bool up, .slice a us.length cap]] w fun e w' => HoPost ⟨id, up, us⟩ w e w'
  rw [← hn] at HS0 hl ⊢
  clear hn
  go_enter Tw.func13, Tw.ntmps13
  go_upto_region 4 with fail
  refine wp_shade (fun W => SL w W [bxS (w.heap.size + 1 + 1) [.int .i64 id, .bool up, .slice none 0 0], bxS (w.heap.size + 1) [.int .i64 0, .bool false, .slice none 0 0], bxS w.heap.size [.int .i64 id, .bool up, .slice a n cap]]) HS0.out ?_
  intro W hW
  have HW := Shut.mk hW
  have HW0 := Shut.mk hW.bel.size
  clear HS0 hW
  have x2 := (HW.out.bx 2 rfl 2 _ rfl).1
  go_upto_region 5 with (go_at_call 27; rw [HN.out]; refine (toUnitS_any a us cap W (HR.out.stays HW.out.bel) (by have := HN.out; omega)).mono ?_; rintro e w2 ⟨g, rfl, hg, hw, hb⟩; have HS := Shut.mk (HW.out.add (s := rwS (some ⟨g, 0, none⟩) (unS us) W.heap.size w2.heap.size) hb (FRw.of_wcells hw hg hw.1) (rwS.loc _ _ _ _) (Nat.le_refl _) (Nat.le_refl _)); rw [← HN.out]; have y2 := HS.out.bx 1 rfl 2 _ rfl; clear hb hw hg x2 HW; obtain ⟨y2, y2z⟩ := y2)
  have HP := Shut.mk (HS.out.put 1 rfl 2 (.slice (some ⟨g, 0, none⟩) n n) (by simp))
  simp only [List.set_cons_zero, List.set_cons_succ] at HP
  refine wp_shade (fun W' => SL w W' [rwS (some ⟨g, 0, none⟩) (unS us) W.heap.size w2.heap.size, bxS (w.heap.size + 1 + 1) [.int .i64 id, .bool up, .slice (some ⟨g, 0, none⟩) n n], bxS (w.heap.size + 1) [.int .i64 0, .bool false, .slice none 0 0], bxS w.heap.size [.int .i64 id, .bool up, .slice a n cap]] ∧ W'.heap.size = w2.heap.size) ⟨HP.out, by simp [World.setCell]⟩ ?_
  intro W3 h3
  have H3 := Shut.mk h3.1
  have HZ := Shut.mk h3.2
  have hlt : W.heap.size ≤ w2.heap.size := by have := HS.out.is _ (List.mem_cons_self ..); have h1 := this.2.2.2; have := HS.out.at 0 rfl; rcases this with ⟨e, _⟩ | ⟨q, _, h4, h5, _⟩; cases e; dsimp only at h1; omega
  have HL := Shut.mk (And.intro hlt HW0.out)
  have z0 := (H3.out.bx 1 rfl 0 _ rfl).1
  have z1 := (H3.out.bx 1 rfl 1 _ rfl).1
  have z2 := (H3.out.bx 1 rfl 2 _ rfl).1
  obtain ⟨r0, r0z⟩ := H3.out.bx 2 rfl 0 _ rfl
  obtain ⟨r1, r1z⟩ := H3.out.bx 2 rfl 1 _ rfl
  obtain ⟨r2, r2z⟩ := H3.out.bx 2 rfl 2 _ rfl
  clear h3 HS HP y2 y2z hlt HW0
  go_wp2_with fail
  have HE := Shut.mk ((((H3.out.put 2 rfl 0 (.int .i64 id) (by simp)).put 2 rfl 1 (.bool up) (by simp)).put 2 rfl 2 (.slice (some ⟨g, 0, none⟩) n n) (by simp)))
  refine bodyPost_ret (v := .agg #[.int .i64 id, .bool up, .slice (some ⟨g, 0, none⟩) n n]) (by simp [results, Tw.results13, go_sem, r0, r1, r2]) rfl ⟨some ⟨g, 0, none⟩, n, by rw [HN.out], ?_, by have := HN.out; show us.length ≤ n; omega, HE.out.bel⟩
  have hq : FRw _ (some ⟨g, 0, none⟩) (unS us) W.heap.size w2.heap.size := HE.out.at 0 rfl
  rcases hq with ⟨e, _⟩ | ⟨q, e, h4, h5, h6⟩
  · cases e
  · exact .inr ⟨q, e, by have := HL.out.2; omega, by have := HZ.out; simp [World.setCell]; omega, h6⟩
theorem eqHost_same (H : HM) (a b : Option Addr) (ca cb : Nat) (w : World) (ha : UnRow w a H.us) (hb : UnRow w b H.us) (hl : H.us.length ≤ 9000000) :
    Calls Tw.prog 17 #[hov H a ca, hov H b cb] w fun e w' => e = .returned (.bool true) ∧ Below w.heap.size w w' := by
  have hb0 : Below w.heap.size w ((w.alloc (.cells #[.int .i64 H.id, .bool H.up, .slice a H.us.length ca] 43)).alloc (.cells #[.int .i64 H.id, .bool H.up, .slice b H.us.length cb] 43)) := ((Below.refl _ _).alloc (Nat.le_refl _) _).alloc (by simp) _
  have HA := Shut.mk (ha.stays hb0)
  have HB := Shut.mk (hb.stays hb0)
  have HB0 := Shut.mk hb0
  have hu : (H.up != H.up) = false := by simp
  clear ha hb hb0
  go_enter Tw.func17, Tw.ntmps17
  go_wp2_with fail
  refine (eqUnitS_same a b H.us ca cb _ HA.out HB.out hl).mono ?_
  rintro e w2 ⟨rfl, hb2⟩
  have HB2 := Shut.mk (HB0.out.trans (hb2.mono HB0.out.size))
  clear hb2
  go_wp2_with fail
  go_ret
  exact ⟨rfl, HB2.out⟩
end Go.Proofs.YtbkimmbfepjodaaDoorT
/- Rows of hosts in memory: one that is read, one that may be written. -/
namespace Go.Proofs.YtbkimmbfepjodaaDoorT
set_option maxRecDepth 100000
open Go.RowKit

/-- A host, and where its units lie. -/
structure HoR where
  h : HM
  loc : Option Addr
  cap : Nat
instance : Inhabited HoR := ⟨⟨default, none, 0⟩⟩
def hC (r : HoR) : List Value := [.int .i64 r.h.id, .bool r.h.up, .slice r.loc r.h.us.length r.cap]
theorem hC_len (r : HoR) : (hC r).length = 3 := rfl
def HK : NK HoR := ⟨hC, 3, hC_len, HoR.loc, fun r => unS r.h.us⟩
def hS (rs : List HoR) : List Value := HK.cells rs
theorem hS_len (rs : List HoR) : (hS rs).length = rs.length * 3 := HK.cells_len rs
def hms (rs : List HoR) : List HM := rs.map HoR.h
theorem hms_len (rs : List HoR) : (hms rs).length = rs.length := by simp [hms]
/-- A row of hosts, as it is read. -/
def HsRow (w : World) (a : Option Addr) (rs : List HoR) : Prop := CRow w a (hS rs) ∧ ∀ r ∈ rs, UnRow w r.loc r.h.us
theorem HsRow.stays {w w' : World} {a : Option Addr} {rs : List HoR} (h : HsRow w a rs) (hb : Below w.heap.size w w') : HsRow w' a rs := ⟨h.1.stays hb, fun r hr => (h.2 r hr).stays hb⟩
theorem HsRow.at {w : World} {a : Option Addr} {rs : List HoR} (h : HsRow w a rs) (hp : 0 < rs.length) : ∃ b off, a = some ⟨b, off, none⟩ ∧ b < w.heap.size ∧ ∀ k (hk : k < rs.length), w.cell? ⟨b, off + k * 3, none⟩ = some (.int .i64 rs[k].h.id) ∧ w.cell? ⟨b, off + k * 3 + 1, none⟩ = some (.bool rs[k].h.up) ∧ w.cell? ⟨b, off + k * 3 + 2, none⟩ = some (.slice rs[k].loc rs[k].h.us.length rs[k].cap) ∧ UnRow w rs[k].loc rs[k].h.us := by
  obtain ⟨b, off, e, lb, hc⟩ := h.1 (by rw [hS_len]; omega)
  refine ⟨b, off, e, lb, fun k hk => ?_⟩
  have q : ∀ i v, i < 3 → (hC rs[k])[i]? = some v → w.cell? ⟨b, off + (k * 3 + i), none⟩ = some v := fun i v hi hv => hc _ v (by
    have := HK.cells_get rs k hk i hi
    exact this.trans hv)
  have q0 := q 0 _ (by omega) rfl
  have q1 := q 1 _ (by omega) rfl
  have q2 := q 2 _ (by omega) rfl
  rw [Nat.add_zero] at q0
  rw [← Nat.add_assoc] at q1 q2
  exact ⟨q0, q1, q2, h.2 _ (List.getElem_mem hk)⟩
/-- A host of a row, in every later world. -/
theorem hs_at {w W : World} {a : Option Addr} {rs : List HoR} (hr : HsRow w a rs) (hb : Below w.heap.size w W) {k : Nat} (hk : k < rs.length) : ∃ b off r, a = some ⟨b, off, none⟩ ∧ r = rs[k] ∧ b < w.heap.size ∧ ∀ X, Below W.heap.size W X → X.cell? ⟨b, off + k * 3, none⟩ = some (.int .i64 r.h.id) ∧ X.cell? ⟨b, off + k * 3 + 1, none⟩ = some (.bool r.h.up) ∧ X.cell? ⟨b, off + k * 3 + 2, none⟩ = some (.slice r.loc r.h.us.length r.cap) ∧ UnRow X r.loc r.h.us := by
  obtain ⟨b, off, e, lb, _⟩ := hr.at (by omega)
  refine ⟨b, off, rs[k], e, rfl, lb, fun X hX => ?_⟩
  obtain ⟨b', off', e', _, hc⟩ := (hr.stays (hb.trans (hX.mono hb.size))).at (by omega)
  rw [e] at e'
  simp only [Option.some.injEq, Addr.mk.injEq, and_true] at e'
  obtain ⟨rfl, rfl⟩ := e'
  exact hc k hk
/-- A row of hosts that may be written: all in a range. -/
def HsW (w : World) (va : Option Addr) (rs : List HoR) (lo hi : Nat) : Prop := (∀ r ∈ rs, r.h.us.length ≤ r.cap) ∧ ((va = none ∧ rs = []) ∨ ∃ g, va = some ⟨g, 0, none⟩ ∧ GW HK w g rs lo hi)
theorem HsW.row {w : World} {va : Option Addr} {rs : List HoR} {lo hi : Nat} (h : HsW w va rs lo hi) : HsRow w va rs := by
  rcases h.2 with ⟨rfl, rfl⟩ | ⟨g, rfl, hg⟩
  · exact ⟨fun hp => by rw [hS_len] at hp; simp at hp, fun r hr => by cases hr⟩
  · exact ⟨hg.gr.1.crow, fun r hr => (hg.gr.2 r hr).crow⟩
theorem HsW.turned {w w' : World} {va : Option Addr} {rs : List HoR} {lo hi lo' hi' : Nat} (h : HsW w va rs lo hi) (t : Turned w w' lo' hi') (hd : hi ≤ lo' ∨ hi' ≤ lo) : HsW w' va rs lo hi :=
  ⟨h.1, h.2.imp id fun ⟨g, e, hg⟩ => ⟨g, e, hg.turned t hd⟩⟩
/-- A row of hosts as a stretch. -/
abbrev hsS (va : Option Addr) (rs : List HoR) (lo hi : Nat) : Str := ⟨fun W => HsW W va rs lo hi, lo, hi⟩
theorem hsS.loc (va : Option Addr) (rs : List HoR) (lo hi : Nat) : (hsS va rs lo hi).Loc := fun _ _ _ _ h t hd => HsW.turned h t hd
/-- The answer: hosts in rows of the call's own. -/
def HsPost (hs : List HM) (w : World) (e : Ending) (w' : World) : Prop := ∃ va cap rs, e = .returned (.slice va rs.length cap) ∧ hms rs = hs ∧ HsW w' va rs w.heap.size w'.heap.size ∧ rs.length ≤ cap ∧ Below w.heap.size w w'
/-- How much hosts hold. -/
def hsSum : List HM → Nat
  | [] => 0
  | h :: hs => (h.us.length + unSum h.us) + hsSum hs
theorem hsSum_take (hs : List HM) (k : Nat) (h : k < hs.length) : hsSum (hs.take (k + 1)) = hsSum (hs.take k) + (hs[k].us.length + unSum hs[k].us) := by
  induction hs generalizing k with
  | nil => simp at h
  | cons a hs ih =>
    cases k with
    | zero => simp [hsSum]
    | succ k =>
      have := ih k (by simpa using h)
      simp only [List.take_succ_cons, hsSum, List.getElem_cons_succ] at this ⊢
      omega
theorem hsSum_mem {hs : List HM} {h : HM} (hm : h ∈ hs) : h.us.length + unSum h.us ≤ hsSum hs := by
  induction hs with
  | nil => cases hm
  | cons a hs ih =>
    simp only [hsSum]
    rcases List.mem_cons.1 hm with rfl | hm
    · omega
    · have := ih hm; omega
def HsFits (hs : List HM) : Prop := hs.length ≤ 9223372036854775807 ∧ ∀ h ∈ hs, UnFits h.us ∧ -9223372036854775808 ≤ h.id ∧ h.id ≤ 9223372036854775807
/-- A host is laid anew into such a row. -/
theorem GW.host {w w2 : World} {g lo : Nat} {rs : List HoR} (h : GW HK w g rs lo w.heap.size) (hb : Below w.heap.size w w2) (j : Nat) (hj : j < rs.length) (H : HM) (a : Option Addr) (cap : Nat) (hF : FRw w2 a (unS H.us) w.heap.size w2.heap.size) (hlo : lo ≤ w.heap.size) :
    GW HK (setW w2 g (j * 3) (hC ⟨H, a, cap⟩)) g (rs.set j ⟨H, a, cap⟩) lo w2.heap.size := by
  have k := (h.below hb).wide (Nat.le_refl _) hb.size
  refine k.put j hj ⟨H, a, cap⟩ ?_ fun s hs h1 h2 e => ?_
  · rcases hF with ⟨_, e⟩ | ⟨q, e, q1, q2, q3⟩
    · exact .inl e
    · exact .inr ⟨q, e, by omega, q2, by have := h.ghi; omega, q3⟩
  · rcases h.rows s hs with q | ⟨b, e1, q1, q2, q3, q4⟩
    · exact h1 q
    · rcases hF with ⟨_, q⟩ | ⟨q, e2, p1, p2, p3⟩
      · exact h2 q
      · have : some (⟨b, 0, none⟩ : Addr) = some ⟨q, 0, none⟩ := by rw [← e1, ← e2]; exact e
        simp only [Option.some.injEq, Addr.mk.injEq, and_true] at this
        omega
theorem setW3 (w : World) (g o : Nat) (v0 v1 v2 : Value) : setW w g o [v0, v1, v2] = ((w.setCell ⟨g, o, none⟩ v0).setCell ⟨g, o + 1, none⟩ v1).setCell ⟨g, o + 2, none⟩ v2 := rfl
theorem setW_sz (w : World) (g off : Nat) (vs : List Value) : (setW w g off vs).heap.size = w.heap.size := by
  induction vs generalizing w off with
  | nil => rfl
  | cons v vs ih => show (setW _ g (off + 1) vs).heap.size = _; rw [ih]; simp [World.setCell]
end Go.Proofs.YtbkimmbfepjodaaDoorT
/- Units of a group as two lists that are answered. -/
namespace Go.Proofs.YtbkimmbfepjodaaDoorT
set_option maxRecDepth 100000
open Go.RowKit

/-- Two lists, each in memory of its own. -/
def UPost (T : List ByteArray) (Bs : List Bool) (w : World) (e : Ending) (w' : World) : Prop :=
  ∃ v u l1 h1 l2 h2, e = .returned (.tuple #[v, u]) ∧ SAns w' v T l1 h1 ∧ BAns w' u Bs l2 h2 ∧ w.heap.size ≤ l1 ∧ h1 ≤ w'.heap.size ∧ w.heap.size ≤ l2 ∧ h2 ≤ w'.heap.size ∧ (h1 ≤ l2 ∨ h2 ≤ l1) ∧ Below w.heap.size w w'
theorem upost_mk {T : List ByteArray} {Bs : List Bool} {w w' : World} {a b : Option Addr} {n c d : Nat} (hT : T.length = n) (hB : Bs.length = n) (hc : n ≤ c) (hb : Below w.heap.size w w')
    (h : n = 0 ∨ ∃ g q, a = some ⟨g, 0, none⟩ ∧ b = some ⟨q, 0, none⟩ ∧ g ≠ q ∧ w.heap.size ≤ g ∧ w.heap.size ≤ q ∧ WCells w' g (tv T) ∧ WCells w' q (bcs Bs)) : UPost T Bs w (.returned (.tuple #[.slice a n c, .slice b n d])) w' := by
  rcases h with rfl | ⟨g, q, rfl, rfl, hne, h1, h2, h3, h4⟩
  · obtain rfl := List.length_eq_zero_iff.1 hT
    obtain rfl := List.length_eq_zero_iff.1 hB
    exact ⟨_, _, w'.heap.size, w'.heap.size, w'.heap.size, w'.heap.size, rfl, ⟨a, c, rfl, Nat.zero_le _, .inl rfl⟩, ⟨b, d, rfl, .inl rfl⟩, hb.size, Nat.le_refl _, hb.size, Nat.le_refl _, .inl (Nat.le_refl _), hb⟩
  · exact ⟨_, _, g, g + 1, q, q + 1, rfl, ⟨_, c, by rw [hT], by rw [hT]; exact hc, .inr ⟨g, rfl, Nat.le_refl _, Nat.lt_succ_self _, h3⟩⟩, ⟨_, d, by rw [hB], .inr ⟨q, rfl, Nat.le_refl _, Nat.lt_succ_self _, h4⟩⟩, h1, h3.1, h2, h4.1, by omega, hb⟩
/-- A list of which a beginning is filled, and the next one under way. -/
def filT (T : List ByteArray) (k n : Nat) : List ByteArray := T.take k ++ List.replicate (n - k) ⟨#[]⟩
def filB (T : List Bool) (k n : Nat) : List Bool := T.take k ++ List.replicate (n - k) false
theorem filT_len {T : List ByteArray} {k n : Nat} (h : T.length = n) (hk : k ≤ n) : (filT T k n).length = n := by simp [filT]; omega
theorem filB_len {T : List Bool} {k n : Nat} (h : T.length = n) (hk : k ≤ n) : (filB T k n).length = n := by simp [filB]; omega
theorem fil_next {α : Type} (T : List α) (z x : α) (k n : Nat) (hk : k < n) (hT : T.length = n) (hx : T[k]? = some x) : (T.take k ++ List.replicate (n - k) z).set k x = T.take (k + 1) ++ List.replicate (n - (k + 1)) z := by
  obtain ⟨hk2, e⟩ := List.getElem?_eq_some_iff.1 hx
  obtain ⟨r, hr⟩ : ∃ r, n - k = r + 1 := ⟨n - k - 1, by omega⟩
  rw [hr, List.replicate_succ, List.take_succ_eq_append_getElem hk2, e, show n - (k + 1) = r by omega]
  rw [List.set_append_right _ _ (by rw [List.length_take]; omega)]
  rw [show k - (T.take k).length = 0 by rw [List.length_take]; omega]
  simp
theorem fil_same {α : Type} (T : List α) (z : α) (k n : Nat) (hk : k < n) (hT : T.length = n) : (T.take k ++ List.replicate (n - k) z).set k z = T.take k ++ List.replicate (n - k) z := by
  obtain ⟨r, hr⟩ : ∃ r, n - k = r + 1 := ⟨n - k - 1, by omega⟩
  rw [hr, List.replicate_succ, List.set_append_right _ _ (by rw [List.length_take]; omega), show k - (T.take k).length = 0 by rw [List.length_take]; omega]
  simp
end Go.Proofs.YtbkimmbfepjodaaDoorT
/- Copies of trees. -/
namespace Go.Proofs.YtbkimmbfepjodaaDoorT
set_option maxRecDepth 100000
open Go.RowKit
attribute [local go_sem ↓] Go.wp_at_zero Go.wp_at_succ

end Go.Proofs.YtbkimmbfepjodaaDoorT
/- Copies of rows of nodes, and of trees. -/
namespace Go.Proofs.YtbkimmbfepjodaaDoorT
set_option maxRecDepth 100000
open Go.RowKit
attribute [local go_sem ↓] Go.wp_at_zero Go.wp_at_succ

end Go.Proofs.YtbkimmbfepjodaaDoorT
/- Copies of trees. -/
namespace Go.Proofs.YtbkimmbfepjodaaDoorT
set_option maxRecDepth 100000
open Go.RowKit
attribute [local go_sem ↓] Go.wp_at_zero Go.wp_at_succ

end Go.Proofs.YtbkimmbfepjodaaDoorT
/- The walks of the models' TreeNew, l10At, l10File. -/
namespace Go.Proofs.YtbkimmbfepjodaaDoorT
set_option maxRecDepth 100000
open Go.RowKit
attribute [local go_sem ↓] Go.wp_at_zero Go.wp_at_succ

end Go.Proofs.YtbkimmbfepjodaaDoorT
/- The walk of the model's l10File. -/
namespace Go.Proofs.YtbkimmbfepjodaaDoorT
set_option maxRecDepth 100000
open Go.RowKit
attribute [local go_sem ↓] Go.wp_at_zero Go.wp_at_succ

end Go.Proofs.YtbkimmbfepjodaaDoorT
/- A region that draws its order, whose operations only read and whose callees make new memory alone and answer one value wherever they are called: one walk, in the text's order. -/
namespace Go.Proofs.YtbkimmbfepjodaaDoorT
set_option maxRecDepth 100000
open Go.RowKit

/-- A world with more memory. -/
structure Grow (w : World) where
  val : World
  bel : Below w.heap.size w val
instance {w : World} : Nonempty (Grow w) := ⟨⟨w, Below.refl _ _⟩⟩
theorem wp_region_grow {P : Program} {id : Nat} {Q : Exit → Act → World → Prop} {a : Act} {w : World} {l : List Oper} (hm : P.follows .mixedOrders = true) (hB : Region.lexB .any l.toArray = true)
    (h : wpQuiet P l.toArray (fun W => ∃ X : Grow w, W = X.val) (fun a' => ∀ w', (∃ X : Grow w, w' = X.val) → Q .normal a' w') l a) : (Code.region id l.toArray true).wp P Q a w :=
  wp_region_quiet (C := fun W => ∃ X : Grow w, W = X.val) hm hB ⟨⟨w.drew, Below.drew (Below.refl _ _)⟩, rfl⟩ (by simpa using h)
theorem Grow.cell {w : World} (X : Grow w) {p : Addr} {v : Value} (h : w.cell? p = some v) (hl : p.block < w.heap.size) : X.val.cell? p = some v := (X.bel.cell hl).trans h
theorem calls_grow {P : Program} {f : FuncId} {args : Array Value} {w : World} {v : Value} (h : ∀ W, Below w.heap.size w W → Calls P f args W fun e w' => e = .returned v ∧ Below W.heap.size W w') (X : Grow w) :
    Calls P f args X.val fun e w'' => e = .returned v ∧ ∃ Y : Grow w, w'' = Y.val :=
  (h X.val X.bel).mono fun _ w'' ⟨he, hb⟩ => ⟨he, ⟨w'', X.bel.trans (hb.mono X.bel.size)⟩, rfl⟩
theorem calls_same {P : Program} {f : FuncId} {args : Array Value} {w : World} {v : Value} (h : ∀ W, Below w.heap.size w W → Calls P f args W fun e w' => e = .returned v ∧ w' = W) (X : Grow w) :
    Calls P f args X.val fun e w'' => e = .returned v ∧ ∃ Y : Grow w, w'' = Y.val :=
  (h X.val X.bel).mono fun _ _ ⟨he, hb⟩ => ⟨he, X, hb⟩
end Go.Proofs.YtbkimmbfepjodaaDoorT
/- The models' SumText, l14Ahead, HostOk, l14At, GetUnit. -/
namespace Go.Proofs.YtbkimmbfepjodaaDoorT
set_option maxRecDepth 100000
open Go.RowKit BigFrame
attribute [local go_sem ↓] Go.wp_at_zero Go.wp_at_succ

theorem sumN_low (t : ByteArray) : 0 ≤ sumN t ∧ sumN t ≤ 4294967295 := by
  unfold sumN
  have := (W.sumOf t).isLt
  omega
theorem specSumText (t : ByteArray) (w : World) (hs : t.size ≤ 1048576) : Calls Tw.prog 41 #[.string t] w fun e w' => e = .returned (.int .i64 (sumN t)) ∧ w' = w := by
  have h := sumN_low t
  have HP := Shut.mk (specSumOf t w hs)
  unfold u32 at HP
  rw [show (((W.sumOf t).toNat : Nat) : Int) = sumN t from rfl] at HP
  generalize sumN t = q at *
  go_enter Tw.func41, Tw.ntmps41
  go_wp2_with fail
  refine HP.out.mono ?_
  rintro e w1 ⟨rfl, rfl⟩
  go_wp2_with fail
  go_ret
  exact ⟨rfl, rfl⟩
theorem getD_un (L : List UnM) (k : Nat) (h : k < L.length) : L.getD k default = L[k] := by simp [List.getD, h]
end Go.Proofs.YtbkimmbfepjodaaDoorT
/- A row of one's own that is made longer, beside stretches of memory. -/
namespace Go.Proofs.YtbkimmbfepjodaaDoorT
set_option maxRecDepth 100000
open Go.RowKit

section
variable {w0 W W' : World} {S : List Str} {s : Str} {ty sz n : Nat} {v : Value} {L : List Value}
end
end Go.Proofs.YtbkimmbfepjodaaDoorT
