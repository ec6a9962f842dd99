/- Texts of ours, laid one behind the other: Words, VarL, SpnA, PathM, TreM, UnR, SumM, HexM, SumS, UnM, UnRm, HoA. -/
import Derived.Test.YtendbipfmgnjkaaPw3
import Derived.BigQuiet
import Derived.PlainAid
import Derived.OwnWalk
import Derived.Deep.RegionHeld3
import Derived.Deep.DrawnRows
import Derived.Deep.AppendLies
import Derived.Lib.LaidTab
import Derived.Lib.SmallJoins
import Derived.Deep.CutRange
/- Words: Plain facts on the bytes of numbers: the bytes of a number by sevens of bits are told by 'vt', the number that bytes begin by 'rv'; nothing of the program is read here. -/
namespace Go.Proofs.Ytendbipfmgnjkaa.W
/-- The bytes of a number, by sevens of bits, with fuel. -/
def vtF : Nat → Nat → List UInt8
  | 0, n => [UInt8.ofNat n]
  | f + 1, n => if 127 < n then UInt8.ofNat (n % 128 + 128) :: vtF f (n / 128) else [UInt8.ofNat n]
def vt (n : Nat) : List UInt8 := vtF n n
theorem vtF_enough : ∀ (f g n : Nat), n ≤ f → n ≤ g → vtF f n = vtF g n
  | 0, 0, n, _, _ => rfl
  | 0, g + 1, n, h, _ => by have : n = 0 := (by omega); subst this; simp [vtF]
  | f + 1, 0, n, _, h => by have : n = 0 := (by omega); subst this; simp [vtF]
  | f + 1, g + 1, n, h1, h2 => by
    unfold vtF
    by_cases h : 127 < n
    · rw [if_pos h, if_pos h, vtF_enough f g (n / 128) (by omega) (by omega)]
    · rw [if_neg h, if_neg h]
theorem vt_big (n : Nat) (h : 127 < n) : vt n = UInt8.ofNat (n % 128 + 128) :: vt (n / 128) := by
  unfold vt
  match n, h with
  | k + 1, h =>
    rw [vtF, if_pos h, vtF_enough k ((k + 1) / 128) ((k + 1) / 128) (by omega) (by omega)]
theorem vt_small (n : Nat) (h : n ≤ 127) : vt n = [UInt8.ofNat n] := by
  unfold vt
  match n with
  | 0 => rfl
  | k + 1 => rw [vtF, if_neg (by omega)]
theorem vt_len (n : Nat) : (vt n).length ≤ n + 1 := by
  suffices h : ∀ f m, (vtF f m).length ≤ f + 1 from h n n
  intro f
  induction f with
  | zero => intro m; simp [vtF]
  | succ f ih =>
    intro m
    unfold vtF
    split
    · have := ih (m / 128); simp; omega
    · simp

/-- The number of bytes by sevens: each with its high bit left off. -/
def val : List UInt8 → Nat
  | [] => 0
  | b :: l => b.toNat % 128 + 128 * val l

/-- All but the last are 128 or more. -/
def heads (l : List UInt8) : Prop := ∀ b ∈ l, 128 ≤ b.toNat

theorem ofNat_self (b : UInt8) : UInt8.ofNat b.toNat = b := by simp

theorem vt_one (b : UInt8) (h : b.toNat < 128) : vt b.toNat = [b] := by
  rw [vt_small _ (by omega)]; simp

theorem val_pos : ∀ (l : List UInt8) (b : UInt8), b.toNat < 128 → b ≠ 0 → 0 < val (l ++ [b])
  | [], b, h, h0 => by
    have : b.toNat ≠ 0 := fun e => h0 (by have := UInt8.toNat_inj (a := b) (b := 0); simp at this; exact this.1 e)
    simp [val]; omega
  | c :: l, b, h, h0 => by
    have := val_pos l b h h0
    simp [val]; omega

/-- The bytes of the number of some bytes are those bytes, where they have no needless nought at the end. -/
theorem vt_val : ∀ (l : List UInt8) (b : UInt8), heads l → b.toNat < 128 → (l = [] ∨ b ≠ 0) → vt (val (l ++ [b])) = l ++ [b]
  | [], b, _, hb, _ => by
    have : val ([] ++ [b]) = b.toNat := by simp [val]; omega
    rw [this]; exact vt_one b hb
  | c :: l, b, hl, hb, h0 => by
    have h0 : b ≠ 0 := by rcases h0 with h | h; cases h; exact h
    have hc : 128 ≤ c.toNat := hl c (by simp)
    have ih := vt_val l b (fun x hx => hl x (by simp [hx])) hb (.inr h0)
    have hp := val_pos l b hb h0
    have hlt := c.toNat_lt
    have e : val (c :: l ++ [b]) = c.toNat % 128 + 128 * val (l ++ [b]) := rfl
    rw [e, vt_big _ (by omega)]
    have e1 : (c.toNat % 128 + 128 * val (l ++ [b])) % 128 + 128 = c.toNat := by omega
    have e2 : (c.toNat % 128 + 128 * val (l ++ [b])) / 128 = val (l ++ [b]) := by omega
    rw [e1, e2, ih]; simp

/-- With a needless nought at the end they are not. -/
theorem vt_last : ∀ (f n : Nat), n ≤ f → 0 < n → (vtF f n).getLast? ≠ some 0
  | 0, n, h, h' => by omega
  | f + 1, n, h, h' => by
    unfold vtF
    by_cases hb : 127 < n
    · rw [if_pos hb]
      have ih := vt_last f (n / 128) (by omega) (by omega)
      have hne : vtF f (n / 128) ≠ [] := by cases f <;> simp [vtF] <;> split <;> simp
      rw [List.getLast?_cons_of_ne_nil hne]
      exact ih
    · rw [if_neg hb]
      simp
      intro e
      have := congrArg UInt8.toNat e
      simp at this
      omega
theorem vt_not (l : List UInt8) (hl : l ≠ []) : vt (val (l ++ [0])) ≠ l ++ [0] := by
  intro e
  by_cases h : val (l ++ [0]) = 0
  · rw [h] at e
    have := congrArg List.length e
    simp [vt, vtF] at this
    exact hl this
  · have := vt_last _ _ (Nat.le_refl (val (l ++ [0]))) (by omega)
    unfold vt at e
    rw [e] at this
    simp at this

/-- What stands behind some bytes: the number that they begin, its weight, whether none has come yet, the bytes that are left, their place. -/
def rv : Nat → Nat → Bool → List UInt8 → Nat → Option (Nat × Nat)
  | _, _, _, [], _ => none
  | n, w, first, b :: l, p =>
    if 1000000000 < w then none
    else if 127 < b.toNat then rv (n + (b.toNat - 128) * w) (w * 128) false l (p + 1)
    else if b.toNat = 0 ∧ first = false then none
    else if 1000000000 < n + b.toNat * w then none
    else some (n + b.toNat * w, p + 1)

theorem val_snoc : ∀ (l : List UInt8) (b : UInt8), val (l ++ [b]) = val l + b.toNat % 128 * 128 ^ l.length
  | [], b => by simp [val]
  | c :: l, b => by
    have ih := val_snoc l b
    show c.toNat % 128 + 128 * val (l ++ [b]) = _
    rw [ih]
    simp only [val, List.length_cons, Nat.pow_succ, Nat.mul_add]
    rw [← Nat.mul_assoc (b.toNat % 128), Nat.mul_comm 128 (b.toNat % 128 * 128 ^ l.length)]
    omega
theorem val_lt : ∀ (l : List UInt8), val l < 128 ^ l.length
  | [] => by simp [val]
  | c :: l => by
    have := val_lt l
    simp only [val, List.length_cons, Nat.pow_succ]
    omega
theorem rv_nil (n w : Nat) (f : Bool) (p : Nat) : rv n w f [] p = none := rfl
theorem rv_great (n w : Nat) (f : Bool) (l : List UInt8) (p : Nat) (h : 1000000000 < w) : rv n w f l p = none := by
  cases l
  · rfl
  · rw [rv, if_pos h]
theorem rv_head (n w : Nat) (f : Bool) (b : UInt8) (l : List UInt8) (p : Nat) (h : w ≤ 1000000000) (hb : 127 < b.toNat) : rv n w f (b :: l) p = rv (n + (b.toNat - 128) * w) (w * 128) false l (p + 1) := by
  rw [rv, if_neg (by omega), if_pos hb]
theorem rv_nought (n w : Nat) (b : UInt8) (l : List UInt8) (p : Nat) (hb : b.toNat = 0) : rv n w false (b :: l) p = none := by
  rw [rv]; split
  · rfl
  · rw [if_neg (by omega), if_pos ⟨hb, rfl⟩]
theorem rv_far (n w : Nat) (f : Bool) (b : UInt8) (l : List UInt8) (p : Nat) (hb : b.toNat ≤ 127) (h : 1000000000 < n + b.toNat * w) : rv n w f (b :: l) p = none := by
  rw [rv]; split
  · rfl
  · rw [if_neg (by omega)]; split
    · rfl
    · rfl
theorem rv_done (n w : Nat) (f : Bool) (b : UInt8) (l : List UInt8) (p : Nat) (h : w ≤ 1000000000) (hb : b.toNat ≤ 127) (h0 : b.toNat ≠ 0 ∨ f = true) (hm : n + b.toNat * w ≤ 1000000000) :
    rv n w f (b :: l) p = some (n + b.toNat * w, p + 1) := by
  rw [rv, if_neg (by omega), if_neg (by omega), if_neg (by rcases h0 with h | h <;> simp [h]), if_neg (by omega)]

/-- As the bytes so far tell it. -/
def rvs (hd : List UInt8) (l : List UInt8) (p : Nat) : Option (Nat × Nat) := rv (val hd) (128 ^ hd.length) (decide (hd.length = 0)) l p
theorem rvs_step (hd : List UInt8) (b : UInt8) (l : List UInt8) (p : Nat) (hk : hd.length ≤ 4) (hb : 127 < b.toNat) : rvs hd (b :: l) p = rvs (hd ++ [b]) l (p + 1) := by
  have hw : 128 ^ hd.length ≤ 128 ^ 4 := Nat.pow_le_pow_right (by omega) hk
  have hlt := b.toNat_lt
  unfold rvs
  rw [rv_head _ _ _ _ _ _ (by omega) hb, val_snoc, List.length_append, List.length_singleton, Nat.pow_succ, decide_eq_false (p := hd.length + 1 = 0) (by omega)]
  have : b.toNat % 128 = b.toNat - 128 := by omega
  rw [this]
theorem rvs_five (hd : List UInt8) (l : List UInt8) (p : Nat) (hk : 5 ≤ hd.length) : rvs hd l p = none := by
  have hw : 128 ^ 5 ≤ 128 ^ hd.length := Nat.pow_le_pow_right (by omega) hk
  exact rv_great _ _ _ _ _ (by omega)
/-- The test by the bytes of the number says the same as the test for a needless nought. -/
theorem rvs_end (hd : List UInt8) (b : UInt8) (l : List UInt8) (p : Nat) (hk : hd.length ≤ 4) (hh : heads hd) (hb : b.toNat ≤ 127) :
    rvs hd (b :: l) p = if val (hd ++ [b]) ≤ 1000000000 ∧ vt (val (hd ++ [b])) = hd ++ [b] then some (val (hd ++ [b]), p + 1) else none := by
  have hw : 128 ^ hd.length ≤ 128 ^ 4 := Nat.pow_le_pow_right (by omega) hk
  have ev : val (hd ++ [b]) = val hd + b.toNat * 128 ^ hd.length := by rw [val_snoc]; congr 2; omega
  by_cases h0 : b.toNat = 0 ∧ hd ≠ []
  · have eb : b = 0 := by have := UInt8.toNat_inj (a := b) (b := 0); simp at this; exact this.1 h0.1
    rw [if_neg (by rw [eb]; exact fun h => vt_not hd h0.2 h.2)]
    unfold rvs
    rw [decide_eq_false (by simpa using h0.2), rv_nought _ _ _ _ _ h0.1]
  · have hv : vt (val (hd ++ [b])) = hd ++ [b] := vt_val hd b hh (by omega) (by
      by_cases e : hd = []
      · exact .inl e
      · right; intro eb; exact h0 ⟨by rw [eb]; rfl, e⟩)
    by_cases hm : val (hd ++ [b]) ≤ 1000000000
    · rw [if_pos ⟨hm, hv⟩]
      unfold rvs
      rw [rv_done _ _ _ _ _ _ (by omega) hb (by
        by_cases e : hd = []
        · right; simp [e]
        · left; exact fun eb => h0 ⟨eb, e⟩) (by omega), ev]
    · rw [if_neg (fun h => hm h.1)]
      exact rv_far _ _ _ _ _ _ hb (by omega)
end Go.Proofs.Ytendbipfmgnjkaa.W
/- VarL: The walks of l01Var and l01In. -/
namespace Go.Proofs.Ytendbipfmgnjkaa
set_option maxRecDepth 100000
open Go.RowKit

/-- What one round of the loop does to the row of bytes. -/
theorem step_byte {B n m : Nat} {l : List UInt8} {w wr w1 : World} {v v' : Value} {o : Obj} {x : Int} (hB : B ≤ wr.heap.size) (hx : x = (m % 128 + 128 : Nat))
    (hm : 127 < m) (hl : l.length + m ≤ n) (ht : l ++ W.vt m = W.vt n)
    (hown : wr.ownsRow B 5 1 v l.length (bv l)) (hb : Below B w wr)
    (hown' : w1.ownsRow B 5 1 v' (l.length + 1) (bv l ++ [.int .u8 x])) (hg : (wr.alloc o).grownBy w1 v.ownBlock) :
    ∃ l', l'.length + m / 128 ≤ n ∧ l' ++ W.vt (m / 128) = W.vt n ∧ w1.ownsRow B 5 1 v' l'.length (bv l') ∧ Below B w w1 := by
  refine ⟨l ++ [UInt8.ofNat (m % 128 + 128)], by simp; omega, by rw [← ht, W.vt_big m hm]; simp, ?_, ?_⟩
  · have e := byte_of x (by omega) (by omega)
    rw [e, bv_snoc] at hown'
    have : UInt8.ofNat x.toNat = UInt8.ofNat (m % 128 + 128) := by rw [hx]; rfl
    rw [this] at hown'
    simpa using hown'
  · exact (hb.alloc hB o).grown hg (by simp; omega) (fun j hj => by have := (hown.lt j hj).1; omega)
theorem last_byte {B n m : Nat} {l : List UInt8} {w wr w1 : World} {v v' : Value} {o : Obj} {x : Int} (hB : B ≤ wr.heap.size) (hx : x = m)
    (hm : m ≤ 127) (ht : l ++ W.vt m = W.vt n)
    (hown : wr.ownsRow B 5 1 v l.length (bv l)) (hb : Below B w wr)
    (hown' : w1.ownsRow B 5 1 v' (l.length + 1) (bv l ++ [.int .u8 x])) (hg : (wr.alloc o).grownBy w1 v.ownBlock) :
    (convert 119 9 v').run Try.prog w1 = .ok (.string ⟨(W.vt n).toArray⟩) w1 ∧ Below B w w1 := by
  refine ⟨?_, (hb.alloc hB o).grown hg (by simp; omega) (fun j hj => by have := (hown.lt j hj).1; omega)⟩
  have e := byte_of x (by omega) (by omega)
  rw [e, bv_snoc] at hown'
  have : UInt8.ofNat x.toNat = UInt8.ofNat m := by rw [hx]; rfl
  rw [this] at hown'
  have hn : W.vt n = l ++ [UInt8.ofNat m] := by rw [← ht, W.vt_small m hm]
  rw [hn]
  exact own_string (by simpa using hown')

theorem l01In_any (x a b : Int) (w : World) :
    Calls Try.prog 24 #[.int .i64 x, .int .i64 a, .int .i64 b] w fun e w' => e = .returned (.bool (decide (a ≤ x) && decide (x ≤ b))) ∧ w' = w := by
  by_cases h : a ≤ x
  · by_cases h' : x ≤ b
    · go_enter Try.func24, Try.ntmps24
      go_wp2
      go_ret
      exact ⟨by simp [h, h'], rfl⟩
    · go_enter Try.func24, Try.ntmps24
      go_wp2
      go_ret
      exact ⟨by simp [h'], rfl⟩
  · go_enter Try.func24, Try.ntmps24
    go_wp2
    go_ret
    exact ⟨by simp; omega, rfl⟩
end Go.Proofs.Ytendbipfmgnjkaa
/- SpnA: Stripes: the walks of the models' GroupSize, PlaceOf, OffsetOf and Spans. -/
namespace Go.Proofs.Ytendbipfmgnjkaa
set_option maxRecDepth 100000
open Go.RowKit
attribute [local go_sem ↓] Go.wp_at_zero Go.wp_at_succ

theorem isIn (x a b : Int) (w : World) (r : Bool) (h : (decide (a ≤ x) && decide (x ≤ b)) = r) : Calls Try.prog 24 #[.int .i64 x, .int .i64 a, .int .i64 b] w fun e w' => e = .returned (.bool r) ∧ w' = w := by
  rw [← h]; exact l01In_any x a b w
/-- How many bytes a group has. -/
def groupN (s : Int) : Nat := schK s * 8
theorem groupN_bounds (s : Int) : groupN s ≤ 32 := by
  unfold groupN
  cases h : schOk s with
  | true => have := (sch_bounds h).2.1; omega
  | false => rw [(sch_zero h).1]; omega
/-- Where a byte is, plain: group, unit, place. -/
def unitAt (k o : Nat) : Nat := o % (k * 8) / 4 % k
def placeIn (k o : Nat) : Nat := o % (k * 8) / 4 / k * 4 + o % (k * 8) % 4
def placeX (s off : Int) : Nat × Nat × Nat := if schOk s = true ∧ 0 ≤ off ∧ off ≤ 100000 then (off.toNat / (schK s * 8), unitAt (schK s) off.toNat, placeIn (schK s) off.toNat) else (0, 0, 0)
def PlacePost (s off : Int) (w : World) (e : Ending) (w' : World) : Prop := e = .returned (.tuple #[.int .i64 ((placeX s off).1 : Nat), .int .i64 ((placeX s off).2.1 : Nat), .int .i64 ((placeX s off).2.2 : Nat)]) ∧ Below w.heap.size w w'
/-- The byte that has this place. -/
def offX (s g u a : Int) : Int := if schOk s = true ∧ (0 ≤ g ∧ g ≤ 100000) ∧ (0 ≤ u ∧ u ≤ (schK s : Int) - 1) ∧ (0 ≤ a ∧ a ≤ 7) then (if 100000 < g * (schK s * 8 : Nat) + (a / 4 * (schK s : Int) + u) * 4 + a % 4 then -1 else g * (schK s * 8 : Nat) + (a / 4 * (schK s : Int) + u) * 4 + a % 4) else -1
theorem offX_no {s g u a : Int} (h : ¬ (schOk s = true ∧ (0 ≤ g ∧ g ≤ 100000) ∧ (0 ≤ u ∧ u ≤ (schK s : Int) - 1) ∧ (0 ≤ a ∧ a ≤ 7))) : offX s g u a = -1 := if_neg h
theorem in_bool {a x b : Int} {r : Bool} (h : (decide (a ≤ x) && decide (x ≤ b)) = r) : r = true ↔ a ≤ x ∧ x ≤ b := by rw [← h]; simp
end Go.Proofs.Ytendbipfmgnjkaa
/- PathM: Paths, plain: names, what lies between slashes, paths and their names. Nothing of the program is read here. -/
namespace Go.Proofs.Ytendbipfmgnjkaa
set_option maxRecDepth 100000
open Go.PlainAid (bt)

def nameC (c : UInt8) : Bool := (decide (97 ≤ c.toNat) && decide (c.toNat ≤ 122)) || (decide (48 ≤ c.toNat) && decide (c.toNat ≤ 57))
def nameL (l : List UInt8) : Bool := l.all nameC && (decide (1 ≤ l.length) && decide (l.length ≤ 8))
theorem nameC_slash {c : UInt8} (h : nameC c = true) : c ≠ 47 := by
  intro e; subst e; exact absurd h (by decide)
theorem nameL_slash {l : List UInt8} (h : nameL l = true) : ∀ c ∈ l, c ≠ 47 := fun c hc => by
  unfold nameL at h
  rw [Bool.and_eq_true, List.all_eq_true] at h
  exact nameC_slash (h.1 c hc)
theorem nameL_pos {l : List UInt8} (h : nameL l = true) : 1 ≤ l.length ∧ l.length ≤ 8 := by
  unfold nameL at h
  simp only [Bool.and_eq_true, decide_eq_true_eq] at h
  exact h.2
/-- What lies between slashes. -/
def segs : List UInt8 → List (List UInt8)
  | [] => [[]]
  | c :: r => if c = 47 then [] :: segs r else match segs r with
    | [] => [[c]]
    | h :: t => (c :: h) :: t
theorem segs_ne : ∀ l, segs l ≠ []
  | [] => by simp [segs]
  | c :: r => by
    unfold segs
    split
    · simp
    · split <;> simp
theorem segs_none : ∀ (l : List UInt8), (∀ c ∈ l, c ≠ 47) → segs l = [l]
  | [], _ => rfl
  | c :: r, h => by
    unfold segs
    rw [if_neg (h c (by simp)), segs_none r (fun x hx => h x (by simp [hx]))]
theorem segs_cons {c : UInt8} {r x : List UInt8} {t : List (List UInt8)} (h : c ≠ 47) (e : segs r = x :: t) : segs (c :: r) = (c :: x) :: t := by
  unfold segs
  rw [if_neg h, e]
theorem segs_cut : ∀ (a r : List UInt8), (∀ c ∈ a, c ≠ 47) → segs (a ++ 47 :: r) = a :: segs r
  | [], r, _ => by simp [segs]
  | c :: a, r, h => by
    exact segs_cons (h c (by simp)) (segs_cut a r (fun x hx => h x (by simp [hx])))
theorem segs_back : ∀ (l : List UInt8), ((segs l).map (47 :: ·)).flatten = 47 :: l
  | [] => rfl
  | c :: r => by
    have ih := segs_back r
    unfold segs
    split
    · rename_i e; subst e
      simp only [List.map_cons, List.flatten_cons, ih]; rfl
    · cases h : segs r with
      | nil => exact absurd h (segs_ne r)
      | cons x t =>
        rw [h] at ih
        simp only [List.map_cons, List.flatten_cons, List.cons_append] at ih ⊢
        rw [List.cons.injEq] at ih
        rw [ih.2]
/-- A path's names. -/
def splitP : List UInt8 → List (List UInt8) × Bool
  | [] => ([], false)
  | c :: r => if c = 47 then (if r = [] then ([], true) else if (segs r).all nameL = true ∧ (segs r).length ≤ 4 then (segs r, true) else ([], false)) else ([], false)
def joinP (L : List (List UInt8)) : List UInt8 := if L = [] then [47] else (L.map (47 :: ·)).flatten
theorem join_split {p : List UInt8} (h : (splitP p).2 = true) : joinP (splitP p).1 = p := by
  unfold splitP at h ⊢
  cases p with
  | nil => cases h
  | cons c r =>
    simp only at h ⊢
    by_cases hc : c = 47
    · subst hc
      rw [if_pos rfl] at h ⊢
      by_cases hr : r = []
      · subst hr; rfl
      · rw [if_neg hr] at h ⊢
        by_cases hq : (segs r).all nameL = true ∧ (segs r).length ≤ 4
        · rw [if_pos hq]
          show joinP (segs r) = 47 :: r
          unfold joinP
          rw [if_neg (segs_ne r), segs_back]
        · rw [if_neg hq] at h; cases h
    · rw [if_neg hc] at h; cases h
theorem segs_join : ∀ (x : List UInt8) (L : List (List UInt8)), (∀ l ∈ x :: L, nameL l = true) → segs (x ++ (L.map (47 :: ·)).flatten) = x :: L
  | x, [], h => by
    rw [List.map_nil, List.flatten_nil, List.append_nil]
    exact segs_none x (nameL_slash (h x (by simp)))
  | x, y :: L, h => by
    rw [List.map_cons, List.flatten_cons, List.cons_append, segs_cut x _ (nameL_slash (h x (by simp))), segs_join y L (fun l hl => h l (by simp at hl ⊢; exact .inr hl))]
theorem split_join {L : List (List UInt8)} (h : ∀ l ∈ L, nameL l = true) (h4 : L.length ≤ 4) : splitP (joinP L) = (L, true) := by
  cases L with
  | nil => rfl
  | cons x L =>
    have e : joinP (x :: L) = 47 :: (x ++ (L.map (47 :: ·)).flatten) := by unfold joinP; rw [if_neg (by simp)]; rfl
    rw [e]
    unfold splitP
    have hx := (nameL_pos (h x (by simp))).1
    have hne : x ++ (L.map (47 :: ·)).flatten ≠ [] := fun e => by
      have := congrArg List.length e
      rw [List.length_append] at this
      simp at this
      rw [this.1] at hx
      simp at hx
    simp only
    rw [if_pos trivial, if_neg hne, segs_join x L h, if_pos ⟨by rw [List.all_eq_true]; exact h, h4⟩]
theorem split_names {p : List UInt8} : (∀ l ∈ (splitP p).1, nameL l = true) ∧ (splitP p).1.length ≤ 4 := by
  unfold splitP
  cases p with
  | nil => exact ⟨by simp, by simp⟩
  | cons c r =>
    simp only
    split
    · split
      · exact ⟨by simp, by simp⟩
      · split
        · rename_i q
          rw [List.all_eq_true] at q
          exact q
        · exact ⟨by simp, by simp⟩
    · exact ⟨by simp, by simp⟩
/-- The same of texts. -/
abbrev ba (l : List UInt8) : ByteArray := ⟨l.toArray⟩
abbrev lb (s : ByteArray) : List UInt8 := s.data.toList
theorem ba_lb (s : ByteArray) : ba (lb s) = s := rfl
theorem lb_ba (l : List UInt8) : lb (ba l) = l := by simp [lb]
def nameB (s : ByteArray) : Bool := nameL (lb s)
def splitB (p : ByteArray) : List ByteArray × Bool := ((splitP (lb p)).1.map ba, (splitP (lb p)).2)
def joinB (L : List ByteArray) : ByteArray := ba (joinP (L.map lb))
def parentB (p : ByteArray) : ByteArray × ByteArray × Bool := if (splitB p).2 = true ∧ (splitB p).1 ≠ [] then (joinB (splitB p).1.dropLast, (splitB p).1.getLastD ⟨#[]⟩, true) else (⟨#[]⟩, ⟨#[]⟩, false)
theorem map_lb_ba (L : List (List UInt8)) : (L.map ba).map lb = L := by
  rw [List.map_map]
  exact List.map_id'' (fun l => lb_ba l) L
theorem map_ba_lb (L : List ByteArray) : (L.map lb).map ba = L := by
  rw [List.map_map]
  exact List.map_id'' (fun s => ba_lb s) L
theorem joinB_split {p : ByteArray} (h : (splitB p).2 = true) : joinB (splitB p).1 = p := by
  unfold joinB splitB
  simp only
  rw [map_lb_ba, join_split h]
theorem splitB_join {L : List ByteArray} (h : ∀ s ∈ L, nameB s = true) (h4 : L.length ≤ 4) : splitB (joinB L) = (L, true) := by
  unfold splitB joinB
  rw [lb_ba, split_join (L := L.map lb) (fun l hl => by obtain ⟨s, hs, rfl⟩ := List.mem_map.1 hl; exact h s hs) (by rw [List.length_map]; exact h4)]
  simp only
  rw [map_ba_lb]
theorem splitB_names (p : ByteArray) : (∀ s ∈ (splitB p).1, nameB s = true) ∧ (splitB p).1.length ≤ 4 := by
  have h := split_names (p := lb p)
  refine ⟨fun s hs => ?_, ?_⟩
  · obtain ⟨l, hl, rfl⟩ := List.mem_map.1 hs
    unfold nameB
    rw [lb_ba]
    exact h.1 l hl
  · show ((splitP (lb p)).1.map ba).length ≤ 4
    rw [List.length_map]; exact h.2
/-- Where the way through a path stands. -/
structure PaRel (p : ByteArray) (i bg : Nat) (done : List ByteArray) : Prop where
  le : bg ≤ i
  pos : 1 ≤ bg
  clean : ∀ j, bg ≤ j → j < i → bt p j ≠ 47
  sofar : (segs ((lb p).drop 1)).map ba = done ++ (segs ((lb p).drop bg)).map ba
  names : ∀ s ∈ done, nameB s = true
theorem ext_list (s : ByteArray) (a b : Nat) : lb (s.extract a b) = ((lb s).drop a).take (b - a) := by simp [lb, ByteArray.data_extract]
theorem bt_at {s : ByteArray} {j : Nat} (h : j < s.size) : bt s j = ((lb s)[j]'h).toNat := by
  unfold bt; rw [dif_pos h]; rfl
theorem clean_list {p : ByteArray} {i bg : Nat} (hi : i ≤ p.size) (h : ∀ j, bg ≤ j → j < i → bt p j ≠ 47) : ∀ c ∈ ((lb p).drop bg).take (i - bg), c ≠ 47 := fun c hc e => by
  subst e
  obtain ⟨j, hj, e2⟩ := List.mem_iff_getElem.1 hc
  rw [List.length_take, List.length_drop] at hj
  have hl : (lb p).length = p.size := rfl
  rw [List.getElem_take, List.getElem_drop] at e2
  have := h (bg + j) (by omega) (by omega)
  rw [bt_at (by omega)] at this
  simp only [e2] at this
  exact this (by decide)
theorem PaRel.start {p : ByteArray} : PaRel p 1 1 [] := ⟨Nat.le_refl _, Nat.le_refl _, fun j h1 h2 => by omega, rfl, by simp⟩
theorem PaRel.step {p : ByteArray} {i bg : Nat} {done : List ByteArray} (h : PaRel p i bg done) (hc : bt p i ≠ 47) : PaRel p (i + 1) bg done :=
  ⟨by have := h.le; omega, h.pos, fun j h1 h2 => by
    by_cases e : j = i
    · subst e; exact hc
    · exact h.clean j h1 (by omega), h.sofar, h.names⟩
theorem PaRel.split {p : ByteArray} {i bg : Nat} {done : List ByteArray} (h : PaRel p i bg done) (hi : i < p.size) (hc : bt p i = 47) : (segs ((lb p).drop 1)).map ba = (done ++ [p.extract bg i]) ++ (segs ((lb p).drop (i + 1))).map ba := by
  have hl : (lb p).length = p.size := rfl
  have e : (lb p).drop bg = ((lb p).drop bg).take (i - bg) ++ 47 :: (lb p).drop (i + 1) := by
    have h1 : ((lb p).drop bg).drop (i - bg) = 47 :: (lb p).drop (i + 1) := by
      rw [List.drop_drop, show bg + (i - bg) = i from by have := h.le; omega, List.drop_eq_getElem_cons (by omega)]
      congr 1
      have := bt_at hi
      rw [hc] at this
      have h2 : ((lb p)[i]'(by omega)).toNat = 47 := by omega
      exact UInt8.toNat_inj.1 h2
    rw [← h1, List.take_append_drop]
  rw [h.sofar, e, segs_cut _ _ (clean_list (by omega) h.clean), List.map_cons, List.append_assoc]
  congr 1
  rw [← ext_list, ba_lb]; rfl
theorem PaRel.fin {p : ByteArray} {i bg : Nat} {done : List ByteArray} (h : PaRel p i bg done) (hi : i = p.size) : (segs ((lb p).drop 1)).map ba = done ++ [p.extract bg i] := by
  have hl : (lb p).length = p.size := rfl
  have e : (lb p).drop bg = ((lb p).drop bg).take (i - bg) := by rw [List.take_of_length_le (by rw [List.length_drop]; omega)]
  rw [h.sofar, e, segs_none _ (clean_list (by omega) h.clean), List.map_cons, List.map_nil, ← ext_list, ba_lb]
theorem PaRel.next {p : ByteArray} {i bg : Nat} {done : List ByteArray} (h : PaRel p i bg done) (hi : i < p.size) (hc : bt p i = 47) (hn : nameB (p.extract bg i) = true) : PaRel p (i + 1) (i + 1) (done ++ [p.extract bg i]) :=
  ⟨Nat.le_refl _, by omega, fun j h1 h2 => by omega, h.split hi hc, fun s hs => by
    rcases List.mem_append.1 hs with q | q
    · exact h.names s q
    · simp at q; subst q; exact hn⟩
theorem splitB_rest {p : ByteArray} (h1 : 1 < p.size) (h0 : bt p 0 = 47) : splitB p = if (∀ s ∈ (segs ((lb p).drop 1)).map ba, nameB s = true) ∧ ((segs ((lb p).drop 1)).map ba).length ≤ 4 then ((segs ((lb p).drop 1)).map ba, true) else ([], false) := by
  have hl : (lb p).length = p.size := rfl
  unfold splitB
  have e : lb p = 47 :: (lb p).drop 1 := by
    have := List.drop_eq_getElem_cons (l := lb p) (i := 0) (by omega)
    rw [List.drop_zero] at this
    rw [this]
    congr 1
    have h2 := bt_at (s := p) (j := 0) (by omega)
    rw [h0] at h2
    have h3 : ((lb p)[0]'(by omega)).toNat = 47 := by omega
    exact UInt8.toNat_inj.1 h3
  have hne : (lb p).drop 1 ≠ [] := fun e => by have := congrArg List.length e; rw [List.length_drop] at this; simp at this; omega
  generalize (lb p).drop 1 = r at *
  rw [e]
  unfold splitP
  simp only
  rw [if_pos trivial, if_neg hne, List.length_map]
  have hall : ((segs r).all nameL = true) ↔ ∀ s ∈ (segs r).map ba, nameB s = true := by
    rw [List.all_eq_true]
    constructor
    · intro h s hs
      obtain ⟨l, hl, rfl⟩ := List.mem_map.1 hs
      unfold nameB; rw [lb_ba]; exact h l hl
    · intro h l hl
      have := h (ba l) (List.mem_map.2 ⟨l, hl, rfl⟩)
      unfold nameB at this; rw [lb_ba] at this; exact this
  by_cases hq : (segs r).all nameL = true ∧ (segs r).length ≤ 4
  · rw [if_pos hq, if_pos ⟨hall.1 hq.1, hq.2⟩]
  · rw [if_neg hq, if_neg (fun k => hq ⟨hall.2 k.1, k.2⟩)]; rfl
end Go.Proofs.Ytendbipfmgnjkaa
/- TreM: Trees, plain: where a node is, right files, right directories, right trees. Nothing of the program is read here. -/
namespace Go.Proofs.Ytendbipfmgnjkaa
set_option maxRecDepth 100000

/-- The place of a node, -1 without one. -/
def atI (ns : List NM) (id : Int) : Int := match ns.findIdx? (fun n => n.id == id) with
  | some i => (i : Int)
  | none => -1
theorem atI_none {ns : List NM} {id : Int} (h : ∀ n ∈ ns, n.id ≠ id) : atI ns id = -1 := by
  unfold atI
  rw [List.findIdx?_eq_none_iff.2 (fun n hn => by simpa using h n hn)]
theorem atI_some {ns : List NM} {id : Int} {i : Nat} (hi : i < ns.length) (h : ns[i].id = id) (hl : ∀ j, j < i → ∀ hj : j < ns.length, ns[j].id ≠ id) : atI ns id = (i : Int) := by
  unfold atI
  have : ns.findIdx? (fun n => n.id == id) = some i := by
    rw [List.findIdx?_eq_some_iff_getElem]
    exact ⟨hi, by simpa using h, fun j hj => by simpa using hl j hj (by omega)⟩
  rw [this]
theorem atI_cases (ns : List NM) (id : Int) : (atI ns id = -1 ∧ ∀ n ∈ ns, n.id ≠ id) ∨ ∃ i, ∃ hi : i < ns.length, atI ns id = (i : Int) ∧ ns[i].id = id := by
  unfold atI
  cases h : ns.findIdx? (fun n => n.id == id) with
  | none =>
    left
    exact ⟨rfl, fun n hn => by have := List.findIdx?_eq_none_iff.1 h n hn; simpa using this⟩
  | some i =>
    right
    obtain ⟨hi, h1, _⟩ := List.findIdx?_eq_some_iff_getElem.1 h
    exact ⟨i, hi, rfl, by simpa using h1⟩
def inI (x a b : Int) : Bool := decide (a ≤ x) && decide (x ≤ b)
theorem inI_iff {x a b : Int} : inI x a b = true ↔ a ≤ x ∧ x ≤ b := by unfold inI; simp
def pieceOk (s : Int) (p : PM) : Bool := inI p.group 1 100000 && inI p.len 1 (groupN s : Nat)
/-- How many bytes pieces have. -/
def sumP : List PM → Int
  | [] => 0
  | p :: ps => p.len + sumP ps
theorem sumP_append (a b : List PM) : sumP (a ++ b) = sumP a + sumP b := by
  induction a with
  | nil => simp [sumP]
  | cons p a ih => simp only [List.cons_append, sumP, ih]; omega
theorem sumP_take (ps : List PM) (k : Nat) (h : k < ps.length) : sumP (ps.take (k + 1)) = sumP (ps.take k) + ps[k].len := by
  rw [List.take_succ_eq_append_getElem h, sumP_append]
  simp [sumP]
theorem sumP_ok {s : Int} {ps : List PM} (h : ∀ p ∈ ps, pieceOk s p = true) : 0 ≤ sumP ps ∧ sumP ps ≤ 32 * ps.length := by
  induction ps with
  | nil => simp [sumP]
  | cons p ps ih =>
    have h1 := ih (fun q hq => h q (by simp [hq]))
    have h2 := h p (by simp)
    unfold pieceOk at h2
    rw [Bool.and_eq_true, inI_iff, inI_iff] at h2
    have h3 := groupN_bounds s
    simp only [sumP, List.length_cons]
    push_cast
    omega
/-- Right for a file. -/
def fileOk (n : NM) : Bool := inI n.schema 1 3 && (n.quota == 0) && decide (n.pieces.length ≤ 40) && inI n.writer 0 9 && n.pieces.all (pieceOk n.schema) && (sumP n.pieces == n.len) && decide (sumP n.pieces ≤ 1000)
/-- Right for a directory. -/
def dirOk (n : NM) : Bool := inI n.schema 0 3 && inI n.quota 0 1000 && (n.len == 0) && decide (n.pieces.length = 0) && (n.writer == 0)
/-- Right for the node that comes first. -/
def firstOk (n : NM) : Bool := (n.id == 1) && (n.parent == 0) && decide (n.name = ⟨#[]⟩) && n.dir && (n.schema != 0)
/-- So many steps up, and the first node is there. -/
def climbs (ns : List NM) : Nat → Int → Bool
  | 0, _ => false
  | f + 1, id => match ns.findIdx? (fun n => n.id == id) with
    | none => false
    | some k => if (ns.getD k default).parent = 1 then true else climbs ns f (ns.getD k default).parent
/-- Right at its place. -/
def nodeOk (T : TM) (i : Nat) : Bool :=
  decide ((T.nodes.getD i default).id < T.next) && (if i = 0 then firstOk (T.nodes.getD i default) else decide ((T.nodes.getD (i - 1) default).id < (T.nodes.getD i default).id)) &&
  (if (T.nodes.getD i default).dir then dirOk (T.nodes.getD i default) else fileOk (T.nodes.getD i default)) &&
  (decide (i = 0) || (nameB (T.nodes.getD i default).name && decide (0 ≤ atI T.nodes (T.nodes.getD i default).parent) && (T.nodes.getD (atI T.nodes (T.nodes.getD i default).parent).toNat default).dir &&
    (List.range i).all (fun j => ! (((T.nodes.getD j default).parent == (T.nodes.getD i default).parent) && decide ((T.nodes.getD j default).name = (T.nodes.getD i default).name))) && climbs T.nodes 4 (T.nodes.getD i default).id))
def treeOk (T : TM) : Bool := decide (1 ≤ T.nodes.length) && decide (T.nodes.length ≤ 14) && decide (T.next ≤ 100000) && (List.range T.nodes.length).all (nodeOk T)
end Go.Proofs.Ytendbipfmgnjkaa
/- UnR: Rows of Units in the laws: their sizes, their copies, two that are the same (written by gen/mkrow.py). -/
namespace Go.Proofs.Ytendbipfmgnjkaa
set_option maxRecDepth 100000
open Go.RowKit
attribute [local go_sem ↓] Go.wp_at_zero Go.wp_at_succ

structure UnM where
  group : Int
  index : Int
  text : ByteArray
  sum : Int
instance : Inhabited UnM := ⟨⟨0, 0, ⟨#[]⟩, 0⟩⟩
abbrev unv (f : UnM) : Value := .agg #[.int .i64 f.group, .int .i64 f.index, .string f.text, .int .i64 f.sum]
def unC (f : UnM) : List Value := [.int .i64 f.group, .int .i64 f.index, .string f.text, .int .i64 f.sum]
theorem unC_len (f : UnM) : (unC f).length = 4 := rfl
def unS (fs : List UnM) : List Value := fs.flatMap unC
theorem unS_len (fs : List UnM) : (unS fs).length = fs.length * 4 := flat_len unC_len fs
/-- A row in memory. -/
abbrev UnRow (w : World) (a : Option Addr) (fs : List UnM) : Prop := CRow w a (unS fs)
theorem UnRow.at {w : World} {a : Option Addr} {fs : List UnM} (h : UnRow w a fs) (hp : 0 < fs.length) :
    ∃ b off, a = some ⟨b, off, none⟩ ∧ b < w.heap.size ∧ ∀ j (h : j < fs.length), w.cell? ⟨b, off + j * 4, none⟩ = some (.int .i64 fs[j].group) ∧ w.cell? ⟨b, off + j * 4 + 1, none⟩ = some (.int .i64 fs[j].index) ∧ w.cell? ⟨b, off + j * 4 + 2, none⟩ = some (.string fs[j].text) ∧ w.cell? ⟨b, off + j * 4 + 3, none⟩ = some (.int .i64 fs[j].sum) := by
  obtain ⟨b, off, e, hb, hc⟩ := h (by rw [unS_len]; omega)
  exact ⟨b, off, e, hb, fun j hj => ⟨hc (j * 4) _ (flat_get unC_len fs j hj 0 (by omega)), hc (j * 4 + 1) _ (flat_get unC_len fs j hj 1 (by omega)), hc (j * 4 + 2) _ (flat_get unC_len fs j hj 2 (by omega)), hc (j * 4 + 3) _ (flat_get unC_len fs j hj 3 (by omega))⟩⟩
def UnFit (f : UnM) : Prop := f.text.size ≤ 9223372036854775807 ∧ (-9223372036854775808 ≤ f.group ∧ f.group ≤ 9223372036854775807) ∧ (-9223372036854775808 ≤ f.index ∧ f.index ≤ 9223372036854775807) ∧ (-9223372036854775808 ≤ f.sum ∧ f.sum ≤ 9223372036854775807)
def UnFits (fs : List UnM) : Prop := fs.length ≤ 9223372036854775807 ∧ ∀ f ∈ fs, UnFit f
def unSum : List UnM → Nat
  | [] => 0
  | f :: fs => f.text.size + unSum fs
theorem unSum_take (fs : List UnM) (k : Nat) (h : k < fs.length) : unSum (fs.take (k + 1)) = unSum (fs.take k) + (fs[k].text.size) := by
  induction fs generalizing k with
  | nil => simp at h
  | cons f fs ih =>
    cases k with
    | zero => simp [unSum]
    | succ k =>
      have := ih k (by simpa using h)
      simp only [List.take_succ_cons, unSum, List.getElem_cons_succ]
      omega
theorem unSum_mem {fs : List UnM} {f : UnM} (h : f ∈ fs) : f.text.size ≤ unSum fs := by
  induction fs with
  | nil => cases h
  | cons g fs ih =>
    rcases List.mem_cons.1 h with rfl | q
    · simp only [unSum]; omega
    · have := ih q
      simp only [unSum]; omega
def SzPostUn (left : Int) (n : Nat) (w : World) (e : Ending) (w' : World) : Prop := ∃ r : Int, e = .returned (.int .i64 r) ∧ -1 ≤ r ∧ (0 ≤ r → r + n = left) ∧ Below w.heap.size w w'
/-- A copy, in a block of its own. -/
def ToPostUn (fs : List UnM) (w : World) (e : Ending) (w' : World) : Prop := ∃ g, e = .returned (.slice (some ⟨g, 0, none⟩) fs.length fs.length) ∧ w.heap.size ≤ g ∧ WCells w' g (unS fs) ∧ Below w.heap.size w w'
theorem infoUnit : (Try.prog.info? 118).map (fun i => (i.zero, i.size, i.bytes)) = some (some (.agg #[.int .i64 0, .int .i64 0, .string ⟨#[]⟩, .int .i64 0]), 4, 40) := by kernel_rfl
theorem eqUnit_same (f : UnM) (w : World) :
    Calls Try.prog 96 #[unv f, unv f] w fun e w' => e = .returned (.bool true) ∧ Below w.heap.size w w' := by
  go_enter Try.func96, Try.ntmps96
  go_wp2_with fail
  go_ret
  exact ⟨rfl, ((Below.refl _ _).alloc (Nat.le_refl _) _).alloc (by simp) _⟩
set_option maxHeartbeats 1000000 in
theorem eqUnitS_same (a b : Option Addr) (fs : List UnM) (ca cb : Nat) (w : World) (ha : UnRow w a fs) (hb : UnRow w b fs) (hl : fs.length ≤ 9000000) :
    Calls Try.prog 81 #[.slice a fs.length ca, .slice b fs.length cb] w fun e w' => e = .returned (.bool true) ∧ Below w.heap.size w w' := by
  have HA : Hid (UnRow w a fs) := ha
  have HB : Hid (UnRow w b fs) := hb
  clear ha hb
  go_enter Try.func81, Try.ntmps81
  go_wp2_with fail
  go_loopw [5] (fun i wr => ∃ (k : Nat), i = .int .i64 k ∧ k ≤ fs.length ∧ Below w.heap.size w wr) (fun i _ => fs.length - (intOf i).toNat)
  case atStart => exact ⟨0, rfl, Nat.zero_le _, Below.refl _ _⟩
  case round =>
    obtain ⟨k, rfl, hk, hbl⟩ := hrel
    by_cases hlt : k < fs.length
    · obtain ⟨b1, o1, rfl, l1, hc1⟩ := UnRow.at (HA.out.stays hbl) (by omega)
      obtain ⟨b2, o2, rfl, l2, hc2⟩ := UnRow.at (HB.out.stays hbl) (by omega)
      obtain ⟨d0, d1, d2, d3⟩ := hc1 k hlt
      obtain ⟨e0, e1, e2, e3⟩ := hc2 k hlt
      obtain ⟨f, hfe⟩ : ∃ f, f = fs[k] := ⟨_, rfl⟩
      rw [← hfe] at d0 d1 d2 d3 e0 e1 e2 e3
      have HS : Hid (Below w.heap.size w wr) := hbl
      have k0 : (0 : Int) ≤ (k : Int) := by omega
      have k1 : (k : Int) < (fs.length : Int) := by omega
      clear hc1 hc2 hfe hbl
      go_wp2_with fail
      go_region_held3 (fun w' => w'.cell? ⟨b1, o1 + k * 4, none⟩ = some (.int .i64 f.group) ∧ w'.cell? ⟨b1, o1 + k * 4 + 1, none⟩ = some (.int .i64 f.index) ∧ w'.cell? ⟨b1, o1 + k * 4 + 2, none⟩ = some (.string f.text) ∧ w'.cell? ⟨b1, o1 + k * 4 + 3, none⟩ = some (.int .i64 f.sum) ∧ w'.cell? ⟨b2, o2 + k * 4, none⟩ = some (.int .i64 f.group) ∧ w'.cell? ⟨b2, o2 + k * 4 + 1, none⟩ = some (.int .i64 f.index) ∧ w'.cell? ⟨b2, o2 + k * 4 + 2, none⟩ = some (.string f.text) ∧ w'.cell? ⟨b2, o2 + k * 4 + 3, none⟩ = some (.int .i64 f.sum))
        (first | go_keep | (refine ⟨?_, ?_, ?_, ?_, ?_, ?_, ?_, ?_⟩ <;> first | (rw [hb2.cell (by exact l1)]; simp [*]) | (rw [hb2.cell (by exact l2)]; simp [*])))
        ((go_at_call 96; refine (eqUnit_same f _).mono ?_; rintro e w2 ⟨rfl, hb2⟩))
      all_goals go_wp2_with fail
      all_goals
        have hb3 : Below w.heap.size w w2 := HS.out.trans ((Below.drew (Below.refl _ _)).trans (hb2.mono HS.out.size))
        exact ⟨⟨k + 1, by go_num, by omega, hb3⟩, by simp [intOf]; omega⟩
    · have e : k = fs.length := by omega
      subst e
      go_wp2_with fail
      go_ret
      exact ⟨rfl, hbl⟩
end Go.Proofs.Ytendbipfmgnjkaa
/- SumM: Plain facts on check sums of 32 bits: one step of the sum is told by 'st', a sum over bytes by 'crc', its four bytes by 'four'; nothing of the program is read here. -/
namespace Go.Proofs.Ytendbipfmgnjkaa.W
abbrev B32 := BitVec 32
def poly : B32 := 3558460437#32
/-- One step: half of it, and the number when it was odd. -/
def st (x : B32) : B32 := (x >>> 1) ^^^ (if x.getLsbD 0 then poly else 0#32)
def st4 (x : B32) : B32 := st (st (st (st x)))
def st8 (x : B32) : B32 := st4 (st4 x)
theorem st_xor (x y : B32) : st (x ^^^ y) = st x ^^^ st y := by
  unfold st
  rw [BitVec.getLsbD_xor, BitVec.ushiftRight_xor_distrib]
  generalize x >>> 1 = a
  generalize y >>> 1 = b
  generalize poly = p
  cases x.getLsbD 0 <;> cases y.getLsbD 0 <;> (ext i hi; simp; try (cases a[i] <;> cases b[i] <;> cases p[i] <;> rfl))
theorem st4_xor (x y : B32) : st4 (x ^^^ y) = st4 x ^^^ st4 y := by unfold st4; rw [st_xor, st_xor, st_xor, st_xor]
theorem st8_xor (x y : B32) : st8 (x ^^^ y) = st8 x ^^^ st8 y := by unfold st8; rw [st4_xor, st4_xor]
theorem st_even (x : B32) (h : x.getLsbD 0 = false) : st x = x >>> 1 := by unfold st; rw [h]; simp
theorem st4_high (x : B32) (h0 : x.getLsbD 0 = false) (h1 : x.getLsbD 1 = false) (h2 : x.getLsbD 2 = false) (h3 : x.getLsbD 3 = false) : st4 x = x >>> 4 := by
  unfold st4
  rw [st_even x h0, st_even (x >>> 1) (by simpa using h1), st_even (x >>> 1 >>> 1) (by simpa [BitVec.getLsbD_ushiftRight] using h2), st_even (x >>> 1 >>> 1 >>> 1) (by simpa [BitVec.getLsbD_ushiftRight] using h3)]
  simp [← BitVec.shiftRight_add]
def tab (n : Nat) : Nat := (st4 (BitVec.ofNat 32 n)).toNat
theorem tab_all : (List.range 16).map tab = [0, 1166650509, 2333301018, 3466261911, 3189058079, 4221339282, 889615109, 1888477064, 3558460437, 2442158232, 1594529039, 444807554, 1779230218, 797264519, 3776954128, 2761298845] := by decide +kernel
/-- Four steps at once: the lowest four bits tell all that is added, the others only move. -/
theorem st4_low (x : B32) : st4 x = (x >>> 4) ^^^ st4 (x &&& 15#32) := by
  have e : x = (x &&& ~~~(15#32)) ^^^ (x &&& 15#32) := by
    ext i hi; simp only [BitVec.getElem_xor, BitVec.getElem_and, BitVec.getElem_not]
    cases x[i] <;> cases (15#32)[i] <;> rfl
  have h : st4 (x &&& ~~~(15#32)) = x >>> 4 := by
    rw [st4_high]
    · ext i hi
      simp only [BitVec.getElem_ushiftRight, BitVec.getLsbD_and, BitVec.getLsbD_not]
      by_cases h : 4 + i < 32
      · have : (15#32).getLsbD (4 + i) = false := by
          have : i < 28 := by omega
          have hall : ∀ j : Fin 28, (15#32).getLsbD (4 + j.val) = false := by decide
          exact hall ⟨i, this⟩
        simp only [this, h]; simp [BitVec.getLsbD_eq_getElem h]
      · simp [BitVec.getLsbD_of_ge x (4 + i) (by omega)]
    all_goals simp
  have h2 := st4_xor (x &&& ~~~(15#32)) (x &&& 15#32)
  rw [h] at h2
  rw [← e] at h2
  exact h2
def stN : Nat → B32 → B32
  | 0, z => z
  | j + 1, z => st (stN j z)
theorem st8_N (z : B32) : stN 8 z = st8 z := rfl
/-- A sum over bytes. -/
def by32 (b : UInt8) : B32 := BitVec.ofNat 32 b.toNat
def crc (s : B32) (l : List UInt8) : B32 := l.foldl (fun s b => st8 (s ^^^ by32 b)) s
theorem crc_snoc (s : B32) (l : List UInt8) (b : UInt8) : crc s (l ++ [b]) = st8 (crc s l ^^^ by32 b) := by simp [crc]
theorem crc_app (s : B32) (l m : List UInt8) : crc s (l ++ m) = crc (crc s l) m := by simp [crc]
/-- The four bytes of a sum, the highest first. -/
def four (x : B32) : List UInt8 := [UInt8.ofNat (x.toNat / 16777216), UInt8.ofNat (x.toNat / 65536), UInt8.ofNat (x.toNat / 256), UInt8.ofNat x.toNat]
theorem four_len (x : B32) : (four x).length = 4 := rfl
theorem four_inj (x y : B32) (h : four x = four y) : x = y := by
  unfold four at h
  simp only [List.cons.injEq, and_true] at h
  obtain ⟨h1, h2, h3, h4⟩ := h
  have g1 := congrArg UInt8.toNat h1
  have g2 := congrArg UInt8.toNat h2
  have g3 := congrArg UInt8.toNat h3
  have g4 := congrArg UInt8.toNat h4
  simp at g1 g2 g3 g4
  have lx := x.isLt
  have ly := y.isLt
  apply BitVec.eq_of_toNat_eq
  omega
theorem st_inj (x y : B32) (h : st x = st y) : x = y := by
  have hz : ∀ z : B32, st z = 0#32 → z = 0#32 := by
    intro z hz
    unfold st at hz
    by_cases h0 : z.getLsbD 0 = true
    · rw [if_pos h0] at hz
      have := congrArg (fun v => BitVec.getLsbD v 31) hz
      simp [poly] at this
    · rw [if_neg h0] at hz
      simp only [BitVec.xor_zero] at hz
      ext i hi
      by_cases hi0 : i = 0
      · subst hi0; simpa using h0
      · have := congrArg (fun v => BitVec.getLsbD v (i - 1)) hz
        simp only [BitVec.getLsbD_ushiftRight] at this
        rw [show 1 + (i - 1) = i by omega] at this
        rw [← BitVec.getLsbD_eq_getElem hi, this]; simp
  have h2 : st (x ^^^ y) = 0#32 := by rw [st_xor, h]; simp
  have h3 := hz _ h2
  exact BitVec.xor_eq_zero_iff.1 h3
theorem st8_inj (x y : B32) (h : st8 x = st8 y) : x = y := by
  unfold st8 st4 at h
  iterate 8 replace h := st_inj _ _ h
  exact h
theorem crc_inj : ∀ (l : List UInt8) (x y : B32), crc x l = crc y l → x = y
  | [], x, y, h => h
  | b :: l, x, y, h => by
    have h1 := st8_inj _ _ (crc_inj l _ _ h)
    have h2 := congrArg (· ^^^ by32 b) h1
    simpa [BitVec.xor_assoc] using h2
theorem by32_inj (a b : UInt8) (h : by32 a = by32 b) : a = b := by
  have := congrArg BitVec.toNat h
  have la := a.toNat_lt
  have lb := b.toNat_lt
  simp [by32] at this
  apply UInt8.toNat_inj.1
  omega
/-- A byte that is another makes another sum. -/
theorem crc_turned (s : B32) (l m : List UInt8) (a b : UInt8) (h : crc s (l ++ a :: m) = crc s (l ++ b :: m)) : a = b := by
  rw [crc_app, crc_app] at h
  have h1 := st8_inj _ _ (crc_inj m _ _ h)
  have h2 := congrArg (crc s l ^^^ ·) h1
  simp [← BitVec.xor_assoc] at h2
  exact by32_inj _ _ h2
end Go.Proofs.Ytendbipfmgnjkaa.W
namespace Go.Proofs.Ytendbipfmgnjkaa
set_option maxRecDepth 100000
open Go.RowKit
open W (B32)
/-- A sum as the model holds it. -/
abbrev u32 (x : B32) : Value := .int .u32 (x.toNat : Int)
theorem u32_of (a : Int) (h0 : 0 ≤ a) (h1 : a < 4294967296) : ∃ x : B32, a = (x.toNat : Int) := by
  refine ⟨BitVec.ofNat 32 a.toNat, ?_⟩
  simp; omega
theorem u32_lt (x : B32) : (0 : Int) ≤ (x.toNat : Int) ∧ (x.toNat : Int) < 4294967296 := ⟨by omega, by have := x.isLt; omega⟩
theorem u32_wrap (x : B32) : IntKind.u32.wrap (x.toNat : Int) = (x.toNat : Int) := by
  have := x.isLt
  simp [IntKind.wrap, IntKind.bits, IntKind.signed]; omega
theorem u32_back (x : B32) : BitVec.ofInt IntKind.u32.bits (x.toNat : Int) = x := by
  show BitVec.ofInt 32 (x.toNat : Int) = x
  simp
theorem u32_xor (x y : B32) : bits .xor .u32 (x.toNat : Int) (y.toNat : Int) = ((x ^^^ y).toNat : Int) := by
  unfold bits
  simp only [u32_back]
  exact u32_wrap (x ^^^ y)
theorem u32_and (x y : B32) : bits .and .u32 (x.toNat : Int) (y.toNat : Int) = ((x &&& y).toNat : Int) := by
  unfold bits
  simp only [u32_back]
  exact u32_wrap (x &&& y)
theorem u32_shr (x : B32) (n : Nat) : (x.toNat : Int) / 2 ^ n = ((x >>> n).toNat : Int) := by
  rw [BitVec.toNat_ushiftRight, Nat.shiftRight_eq_div_pow]
  norm_cast
theorem u32_byte (y : B32) (b : UInt8) : bits .xor .u32 (y.toNat : Int) (b.toNat : Int) = ((y ^^^ W.by32 b).toNat : Int) := by
  have h := u32_xor y (W.by32 b)
  have e : (W.by32 b).toNat = b.toNat := by have := b.toNat_lt; simp [W.by32]
  rw [e] at h
  exact h
theorem u32_odd (y : B32) : (y.toNat : Int).tmod 2 = if y.getLsbD 0 then 1 else 0 := by
  rw [Int.tmod_eq_emod_of_nonneg (by omega)]
  have e : y.getLsbD 0 = decide (y.toNat % 2 = 1) := by
    rw [BitVec.getLsbD, Nat.testBit_zero]
  rw [e]
  by_cases h : y.toNat % 2 = 1 <;> simp [h] <;> omega
theorem u32_half (y : B32) : (y.toNat : Int).tdiv 2 = ((y >>> 1).toNat : Int) := by
  rw [Int.tdiv_eq_ediv_of_nonneg (by omega)]
  exact u32_shr y 1
theorem u32_poly (y : B32) : bits .xor .u32 ((y >>> 1).toNat : Int) 3558460437 = (((y >>> 1) ^^^ W.poly).toNat : Int) := u32_xor (y >>> 1) W.poly
end Go.Proofs.Ytendbipfmgnjkaa
/- HexM: Plain facts on hexadecimal figures. -/
namespace Go.Proofs.Ytendbipfmgnjkaa.W
open Go.PlainAid (bt)

/-- The figure of a number below 16. -/
def hfI (x : Int) : Int := if x < 10 then 48 + x else 87 + x
theorem hfI_bd (x : Int) (h0 : 0 ≤ x) (h1 : x < 16) : 0 ≤ hfI x ∧ hfI x < 256 := by unfold hfI; split <;> omega
def hf (n : Nat) : UInt8 := UInt8.ofNat (hfI n).toNat
theorem hf_toNat (n : Nat) (h : n < 16) : ((hf n).toNat : Int) = hfI n := by
  have := hfI_bd n (by omega) (by omega)
  unfold hf; simp; omega
def hexL (l : List UInt8) : List UInt8 := l.flatMap fun b => [hf (b.toNat / 16), hf (b.toNat % 16)]
theorem hexL_len (l : List UInt8) : (hexL l).length = 2 * l.length := by
  induction l with
  | nil => rfl
  | cons b l ih => simp [hexL] at ih ⊢; omega
theorem hexL_snoc (l : List UInt8) (b : UInt8) : hexL (l ++ [b]) = hexL l ++ [hf (b.toNat / 16), hf (b.toNat % 16)] := by simp [hexL]

/-- The first k bytes of a text. -/
def firstK (s : ByteArray) (k : Nat) : List UInt8 := s.data.toList.take k
theorem firstK_len (s : ByteArray) (k : Nat) (h : k ≤ s.size) : (firstK s k).length = k := by
  have e : s.data.size = s.size := rfl
  simp [firstK]; omega
theorem firstK_all (s : ByteArray) (k : Nat) (h : s.size ≤ k) : firstK s k = s.data.toList := by
  have e : s.data.size = s.size := rfl
  unfold firstK; exact List.take_of_length_le (by simp; omega)
theorem firstK_step (s : ByteArray) (k : Nat) (h : k < s.size) : ∃ b : UInt8, firstK s (k + 1) = firstK s k ++ [b] ∧ bt s k = (b.toNat : Int) := by
  refine ⟨s[k], ?_, ?_⟩
  · unfold firstK; rw [List.take_succ_eq_append_getElem (by simpa using h)]; rfl
  · unfold bt; rw [dif_pos h]
end Go.Proofs.Ytendbipfmgnjkaa.W
namespace Go.Proofs.Ytendbipfmgnjkaa
set_option maxRecDepth 100000
open Go.RowKit
open Go.PlainAid (bt)
theorem bt_words (s : ByteArray) (k : Nat) : IntKind.i64.wrap (bt s k) = bt s k ∧ (bt s k).tdiv 16 = bt s k / 16 ∧ IntKind.i64.wrap (bt s k / 16) = bt s k / 16 ∧ (bt s k).tmod 16 = bt s k % 16 ∧ IntKind.i64.wrap (bt s k % 16) = bt s k % 16 := by
  have b0 := Go.PlainAid.bt_nonneg s k
  have b1 := Go.PlainAid.bt_le s k
  refine ⟨IntWalk.i64_in _ ⟨by omega, by omega⟩, Int.tdiv_eq_ediv_of_nonneg b0, IntWalk.i64_in _ ⟨by omega, by omega⟩, Int.tmod_eq_emod_of_nonneg b0, IntWalk.i64_in _ ⟨by omega, by omega⟩⟩
theorem bt_words8 (s : ByteArray) (k : Nat) : IntKind.u8.wrap (bt s k / 16) = bt s k / 16 ∧ IntKind.u8.wrap (bt s k % 16) = bt s k % 16 := by
  have b0 := Go.PlainAid.bt_nonneg s k
  have b1 := Go.PlainAid.bt_le s k
  exact ⟨IntWalk.u8_in _ ⟨by omega, by omega⟩, IntWalk.u8_in _ ⟨by omega, by omega⟩⟩
/-- A byte of a string. -/
theorem index_str (s : ByteArray) (k : Nat) (h : k < s.size) (w : World) :
    (Instr.index 9 (.string s) (.int .i64 (k : Int))).run Try.prog w = .ok (.int .u8 (bt s k)) w := by
  have hb := Go.PlainAid.get_bt s k h
  rw [run_index_string _ 9 s .i64 k Try.underlying9, dif_pos ⟨by omega, by omega⟩, ← hb]
  rfl
/-- Behind the two figures of byte k. -/
theorem hex_own {B k : Nat} {s : ByteArray} {w1 : World} {v' : Value} {x y : Int} (hk : k < s.size) (hx : x = W.hfI (bt s k / 16)) (hy : y = W.hfI (bt s k % 16))
    (h : w1.ownsRow B 5 1 v' (2 * k + 2) (bv (W.hexL (W.firstK s k)) ++ [.int .u8 x, .int .u8 y])) :
    w1.ownsRow B 5 1 v' (2 * (k + 1)) (bv (W.hexL (W.firstK s (k + 1)))) := by
  obtain ⟨b, hb, e⟩ := W.firstK_step s k hk
  have hlt := b.toNat_lt
  have e1 : Value.int .u8 x = .int .u8 ((W.hf (b.toNat / 16)).toNat : Int) := by
    rw [W.hf_toNat _ (by omega), hx, e]; congr 2
  have e2 : Value.int .u8 y = .int .u8 ((W.hf (b.toNat % 16)).toNat : Int) := by
    rw [W.hf_toNat _ (by omega), hy, e]; congr 2
  have e3 : bv (W.hexL (W.firstK s k)) ++ [.int .u8 x, .int .u8 y] = bv (W.hexL (W.firstK s (k + 1))) := by
    rw [hb, W.hexL_snoc, e1, e2]; simp [bv]
  rw [e3] at h
  exact h
end Go.Proofs.Ytendbipfmgnjkaa
/- SumS: The walks of the sums over bytes. -/
namespace Go.Proofs.Ytendbipfmgnjkaa
set_option maxRecDepth 100000
open Go.RowKit
open W (B32)
open Go.PlainAid (bt)
attribute [local go_sem ↓] Go.wp_at_zero Go.wp_at_succ

def sumTab : List Int := [0, 1166650509, 2333301018, 3466261911, 3189058079, 4221339282, 889615109, 1888477064, 3558460437, 2442158232, 1594529039, 444807554, 1779230218, 797264519, 3776954128, 2761298845]
/-- The table of the sums holds what the program's text lays. -/
abbrev SumTab (w : World) : Prop := Lib.TabIs Try.prog w "loop.example/g00197/impl.sumSteps" .u32 sumTab
/-- The sum of a text. -/
def _root_.Go.Proofs.Ytendbipfmgnjkaa.W.sumOf (s : ByteArray) : B32 := W.crc 4294967295#32 s.data.toList
end Go.Proofs.Ytendbipfmgnjkaa
/- UnM: Hosts and units, plain: what each function of the chapter answers. -/
namespace Go.Proofs.Ytendbipfmgnjkaa
set_option maxRecDepth 100000
open Go.RowKit

/-- A host. -/
structure HM where
  id : Int
  up : Bool
  us : List UnM
instance : Inhabited HM := ⟨⟨0, false, []⟩⟩
/-- The sum of a text, as a number. -/
def sumN (t : ByteArray) : Int := ((W.sumOf t).toNat : Int)
/-- One unit ahead of another. -/
def unLt (a b : UnM) : Bool := decide (a.group < b.group) || (a.group == b.group && decide (a.index < b.index))
def unOne (u : UnM) : Bool := inI u.group 1 100000 && inI u.index 0 5 && decide (u.text.size ≤ 200) && inI u.sum 0 4294967295
def unAt (L : List UnM) (k : Nat) : Bool := unOne (L.getD k default) && (decide (k = 0) || unLt (L.getD (k - 1) default) (L.getD k default))
def unitsOk (L : List UnM) : Bool := (List.range L.length).all (unAt L)
def hostOk (h : HM) : Bool := unitsOk h.us && inI h.id 1 7
def unIdx (L : List UnM) (g i : Int) : Nat := L.findIdx fun u => u.group == g && u.index == i
def putL (L : List UnM) (u : UnM) : List UnM := L.filter (unLt · u) ++ [u] ++ L.filter (unLt u ·)
def summed (u : UnM) : UnM := ⟨u.group, u.index, u.text, sumN u.text⟩
def putX (h : HM) (u : UnM) : HM × Bool :=
  if hostOk h && h.up && hostOk ⟨h.id, h.up, putL h.us (summed u)⟩ then (⟨h.id, h.up, putL h.us (summed u)⟩, true) else (h, false)
def unSound (u : UnM) : Bool := u.sum == sumN u.text
def getX (h : HM) (g i : Int) : ByteArray × Bool :=
  if h.up && decide (unIdx h.us g i < h.us.length) && unSound (h.us.getD (unIdx h.us g i) default) then ((h.us.getD (unIdx h.us g i) default).text, true) else (⟨#[]⟩, false)
def dropU (h : HM) (g i : Int) : HM × Bool :=
  if unIdx h.us g i < h.us.length then (⟨h.id, h.up, h.us.take (unIdx h.us g i) ++ h.us.drop (unIdx h.us g i + 1)⟩, true) else (h, false)
/-- A text with one byte turned. -/
def turnAt (t : ByteArray) (i : Nat) : ByteArray := ⟨(t.data.toList.set i ((t.data.toList.getD i 0) ^^^ 1)).toArray⟩
def spoilX (h : HM) (g i at9 : Int) : HM × Bool :=
  if decide (unIdx h.us g i < h.us.length) && decide (0 ≤ at9) && !((h.us.getD (unIdx h.us g i) default).text.toList == []) && unSound (h.us.getD (unIdx h.us g i) default) then
    (⟨h.id, h.up, h.us.set (unIdx h.us g i) ⟨(h.us.getD (unIdx h.us g i) default).group, (h.us.getD (unIdx h.us g i) default).index, turnAt (h.us.getD (unIdx h.us g i) default).text (at9.toNat % (h.us.getD (unIdx h.us g i) default).text.size), (h.us.getD (unIdx h.us g i) default).sum⟩⟩, true)
  else (h, false)
end Go.Proofs.Ytendbipfmgnjkaa
/- UnRm: Rows of Units: marks that are laid into one, and found again (written by gen/mkflat.py). -/
namespace Go.Proofs.Ytendbipfmgnjkaa
set_option maxRecDepth 100000
open Go.RowKit
attribute [local go_sem ↓] Go.wp_at_zero Go.wp_at_succ

def markU (k : Nat) : UnM := ⟨((k : Nat) : Int), ((k + 1 : Nat) : Int), mt (k + 2), ((k + 3 : Nat) : Int)⟩
def marksU (k n : Nat) : List UnM := (List.range n).map fun j => markU (k + 4 * j)
theorem marksU_len (k n : Nat) : (marksU k n).length = n := by simp [marksU]
theorem marksU_at (k n j : Nat) (h : j < (marksU k n).length) : (marksU k n)[j] = markU (k + 4 * j) := by simp [marksU]
theorem marksU_all {k n : Nat} {ys : List UnM} (hl : ys.length = n) (h : ∀ t, t < n → ys[t]? = some (markU (k + 4 * t))) : ys = marksU k n := by
  apply List.ext_getElem
  · rw [hl, marksU_len]
  · intro i h1 h2
    rw [marksU_at]
    have := h i (by omega)
    rw [List.getElem?_eq_getElem h1] at this
    exact Option.some.inj this
theorem markUnitS_zero (a : Option Addr) (k ca : Nat) (w : World) :
    Calls Try.prog 66 #[.slice a 0 ca, .int .i64 k] w fun e w' => e = .returned (.int .i64 k) ∧ w' = w := by
  go_enter Try.func66, Try.ntmps66
  go_wp2_with fail
  go_rounds 1
  go_ret
  exact ⟨rfl, rfl⟩
set_option maxHeartbeats 1000000 in
theorem markUnitS_all (g : Nat) (xs : List UnM) (k ca : Nat) (w : World) (ha : WCells w g (unS xs)) (hk : 0 < k) (hn : k + 4 * xs.length ≤ 1000000000) (hca : xs.length ≤ ca) :
    Calls Try.prog 66 #[.slice (some ⟨g, 0, none⟩) xs.length ca, .int .i64 k] w fun e w' => e = .returned (.int .i64 (k + 4 * xs.length : Nat)) ∧ WCells w' g (unS (marksU k xs.length)) ∧ w.grownBy w' (some g) := by
  obtain ⟨n, hnx⟩ : ∃ n, n = xs.length := ⟨_, rfl⟩
  have HN := Shut.mk hnx
  rw [← hnx]
  rw [← hnx] at hn hca
  clear hnx
  have HA := Shut.mk ha
  clear ha
  go_enter Try.func66, Try.ntmps66
  go_wp2_with fail
  go_loopw [1, 5] (fun c i wr => ∃ (j : Nat) (ys : List UnM), i = .int .i64 j ∧ c = .int .i64 (k + 4 * j : Nat) ∧ j ≤ n ∧ Shut (ys.length = n ∧ (∀ t, t < j → ys[t]? = some (markU (k + 4 * t))) ∧ WCells wr g (unS ys) ∧ w.grownBy wr (some g))) (fun _ i _ => n - (intOf i).toNat)
  case atStart => exact ⟨0, xs, rfl, rfl, Nat.zero_le _, ⟨HN.out.symm, fun t ht => by omega, HA.out, grownBy_below (Below.refl _ _)⟩⟩
  case round =>
    obtain ⟨j, ys, rfl, rfl, hj, HH⟩ := hrel
    by_cases hlt : j < n
    · have j0 : (0 : Int) ≤ (j : Int) := by omega
      have j1 : (j : Int) < (n : Int) := by omega
      have hly : (unS ys).length = n * 4 := by rw [unS_len, HH.out.1]
      have hw0 := HH.out.2.2.1
      have Q2 : Shut (∀ W : World, Calls Try.prog 67 #[.int .i64 ((k : Int) + 4 * (j : Int) + 1 + 1)] W fun e w' => e = .returned (.string (mt (k + 4 * j + 2))) ∧ Below W.heap.size W w') := ⟨fun W => by
        have q := markText_any (k + 4 * j + 2) W (by omega) (by omega)
        rwa [show ((k + 4 * j + 2 : Nat) : Int) = (k : Int) + 4 * (j : Int) + 1 + 1 by push_cast; omega] at q⟩
      obtain ⟨c0, z0⟩ := hw0.2 (j * 4) _ (List.getElem?_eq_getElem (by first | omega | (simp only [List.length_set]; omega)))
      have HS0 : Shut (WCells (wr.setCell ⟨g, j * 4, none⟩ (.int .i64 ((k : Int) + 4 * (j : Int)))) g ((unS ys).set (j * 4) (.int .i64 ((k : Int) + 4 * (j : Int))))) := ⟨hw0.set (j * 4) _ (by first | omega | (simp only [List.length_set]; omega))⟩
      have HG0 : Shut (w.grownBy (wr.setCell ⟨g, j * 4, none⟩ (.int .i64 ((k : Int) + 4 * (j : Int)))) (some g)) := ⟨(grownBy_two HH.out.2.2.2 (grownBy_setCell _ g _ _))⟩
      obtain ⟨c1, z1⟩ := HS0.out.2 (j * 4 + 1) _ (List.getElem?_eq_getElem (by first | omega | (simp only [List.length_set]; omega)))
      have HS1 : Shut (WCells ((wr.setCell ⟨g, j * 4, none⟩ (.int .i64 ((k : Int) + 4 * (j : Int)))).setCell ⟨g, j * 4 + 1, none⟩ (.int .i64 ((k : Int) + 4 * (j : Int) + 1))) g (((unS ys).set (j * 4) (.int .i64 ((k : Int) + 4 * (j : Int)))).set (j * 4 + 1) (.int .i64 ((k : Int) + 4 * (j : Int) + 1)))) := ⟨HS0.out.set (j * 4 + 1) _ (by first | omega | (simp only [List.length_set]; omega))⟩
      have HG1 : Shut (w.grownBy ((wr.setCell ⟨g, j * 4, none⟩ (.int .i64 ((k : Int) + 4 * (j : Int)))).setCell ⟨g, j * 4 + 1, none⟩ (.int .i64 ((k : Int) + 4 * (j : Int) + 1))) (some g)) := ⟨(grownBy_two HG0.out (grownBy_setCell _ g _ _))⟩
      go_wp2_with fail
      refine (Q2.out _).mono ?_
      rintro e w2 ⟨rfl, hb2⟩
      have hv2 := HS1.out.grow hb2
      obtain ⟨c2, z2⟩ := hv2.2 (j * 4 + 2) _ (List.getElem?_eq_getElem (by first | omega | (simp only [List.length_set]; omega)))
      have HS2 : Shut (WCells (w2.setCell ⟨g, j * 4 + 2, none⟩ (.string (mt (k + 4 * j + 2)))) g ((((unS ys).set (j * 4) (.int .i64 ((k : Int) + 4 * (j : Int)))).set (j * 4 + 1) (.int .i64 ((k : Int) + 4 * (j : Int) + 1))).set (j * 4 + 2) (.string (mt (k + 4 * j + 2))))) := ⟨hv2.set (j * 4 + 2) _ (by first | omega | (simp only [List.length_set]; omega))⟩
      have HG2 : Shut (w.grownBy (w2.setCell ⟨g, j * 4 + 2, none⟩ (.string (mt (k + 4 * j + 2)))) (some g)) := ⟨(grownBy_two (grownBy_two HG1.out (grownBy_below hb2)) (grownBy_setCell _ g _ _))⟩
      obtain ⟨c3, z3⟩ := HS2.out.2 (j * 4 + 3) _ (List.getElem?_eq_getElem (by first | omega | (simp only [List.length_set]; omega)))
      have HS3 : Shut (WCells ((w2.setCell ⟨g, j * 4 + 2, none⟩ (.string (mt (k + 4 * j + 2)))).setCell ⟨g, j * 4 + 3, none⟩ (.int .i64 ((k : Int) + 4 * (j : Int) + 1 + 1 + 1))) g (((((unS ys).set (j * 4) (.int .i64 ((k : Int) + 4 * (j : Int)))).set (j * 4 + 1) (.int .i64 ((k : Int) + 4 * (j : Int) + 1))).set (j * 4 + 2) (.string (mt (k + 4 * j + 2)))).set (j * 4 + 3) (.int .i64 ((k : Int) + 4 * (j : Int) + 1 + 1 + 1)))) := ⟨HS2.out.set (j * 4 + 3) _ (by first | omega | (simp only [List.length_set]; omega))⟩
      have HG3 : Shut (w.grownBy ((w2.setCell ⟨g, j * 4 + 2, none⟩ (.string (mt (k + 4 * j + 2)))).setCell ⟨g, j * 4 + 3, none⟩ (.int .i64 ((k : Int) + 4 * (j : Int) + 1 + 1 + 1))) (some g)) := ⟨(grownBy_two HG2.out (grownBy_setCell _ g _ _))⟩
      have hE : (⟨(k : Int) + 4 * (j : Int), (k : Int) + 4 * (j : Int) + 1, mt (k + 4 * j + 2), (k : Int) + 4 * (j : Int) + 1 + 1 + 1⟩ : UnM) = markU (k + 4 * j) := by
        unfold markU
        congr 1 <;> (push_cast; omega)
      have HF : Shut (WCells ((w2.setCell ⟨g, j * 4 + 2, none⟩ (.string (mt (k + 4 * j + 2)))).setCell ⟨g, j * 4 + 3, none⟩ (.int .i64 ((k : Int) + 4 * (j : Int) + 1 + 1 + 1))) g (unS (ys.set j ⟨(k : Int) + 4 * (j : Int), (k : Int) + 4 * (j : Int) + 1, mt (k + 4 * j + 2), (k : Int) + 4 * (j : Int) + 1 + 1 + 1⟩))) := ⟨by
        have hfin : (((((unS ys).set (j * 4) (.int .i64 ((k : Int) + 4 * (j : Int)))).set (j * 4 + 1) (.int .i64 ((k : Int) + 4 * (j : Int) + 1))).set (j * 4 + 2) (.string (mt (k + 4 * j + 2)))).set (j * 4 + 3) (.int .i64 ((k : Int) + 4 * (j : Int) + 1 + 1 + 1))) = unS (ys.set j ⟨(k : Int) + 4 * (j : Int), (k : Int) + 4 * (j : Int) + 1, mt (k + 4 * j + 2), (k : Int) + 4 * (j : Int) + 1 + 1 + 1⟩) := flat_setL unC_len ys j (by have := HH.out.1; omega) (⟨(k : Int) + 4 * (j : Int), (k : Int) + 4 * (j : Int) + 1, mt (k + 4 * j + 2), (k : Int) + 4 * (j : Int) + 1 + 1 + 1⟩ : UnM)
        have q := HS3.out
        rw [hfin] at q
        exact q⟩
      rw [hE] at HF
      clear HS0 HS1 HS2 HS3 HG0 HG1 HG2 hw0 hb2 hv2 hE
      go_wp2_with fail
      go_roundw
      case rel =>
        refine ⟨j + 1, ys.set j (markU (k + 4 * j)), by go_num, congrArg (Value.int .i64) (by omega), by omega, ⟨by rw [List.length_set]; exact HH.out.1, fun t ht => ?_, ?_, ?_⟩⟩
        rotate_left
        · exact HF.out
        · exact HG3.out
        by_cases hjt : t = j
        · subst hjt
          rw [List.getElem?_set_self (by have := HH.out.1; omega)]
        · rw [List.getElem?_set_ne (Ne.symm hjt)]
          exact HH.out.2.1 t (by omega)
      case measure => simp [intOf]; omega
    · have e : j = n := by omega
      subst e
      have hfin := marksU_all HH.out.1 HH.out.2.1
      subst hfin
      go_wp2_with fail
      go_ret
      exact ⟨rfl, HH.out.2.2.1, HH.out.2.2.2⟩
/-- Marks in a row between two places, or in none. -/
theorem markUnitS_row (va : Option Addr) (xs : List UnM) (k ca lo hi : Nat) (w : World) (h : FRw w va (unS xs) lo hi) (hk : 0 < k) (hn : k + 4 * xs.length ≤ 1000000000) (hca : xs.length ≤ ca) :
    Calls Try.prog 66 #[.slice va xs.length ca, .int .i64 k] w fun e w' => e = .returned (.int .i64 (k + 4 * xs.length : Nat)) ∧ FRw w' va (unS (marksU k xs.length)) lo hi ∧ ∃ row, w.grownBy w' row ∧ ∀ g, row = some g → lo ≤ g ∧ g < hi := by
  rcases h with ⟨rfl, hX⟩ | ⟨g, rfl, h1, h2, h3⟩
  · have e : xs = [] := by
      have := congrArg List.length hX
      rw [unS_len] at this
      exact List.eq_nil_of_length_eq_zero (by simp at this; omega)
    subst e
    refine (markUnitS_zero none k ca w).mono ?_
    rintro e w' ⟨rfl, rfl⟩
    exact ⟨by simp, .inl ⟨rfl, by simp [marksU, unS]⟩, none, ⟨rfl, rfl, rfl, Nat.le_refl _, fun _ _ _ => rfl⟩, by simp⟩
  · refine (markUnitS_all g xs k ca w h3 hk hn hca).mono ?_
    rintro e w' ⟨rfl, h4, h5⟩
    exact ⟨rfl, .inr ⟨g, rfl, h1, h2, h4⟩, some g, h5, fun g' e => by simp at e; omega⟩
set_option maxHeartbeats 1000000 in
theorem heldUnitS_any (a : Option Addr) (k n ca : Nat) (w : World) (ha : UnRow w a (marksU k n)) (hk : 0 < k) (hn : k + 4 * n ≤ 1000000000) :
    Calls Try.prog 71 #[.slice a n ca, .int .i64 k] w fun e w' => e = .returned (.int .i64 (k + 4 * n : Nat)) ∧ Below w.heap.size w w' := by
  have HA := Shut.mk ha
  clear ha
  go_enter Try.func71, Try.ntmps71
  go_wp2_with fail
  go_loopw [1, 5] (fun c i wr => ∃ (j : Nat), i = .int .i64 j ∧ c = .int .i64 (k + 4 * j : Nat) ∧ j ≤ n ∧ Below w.heap.size w wr) (fun _ i _ => n - (intOf i).toNat)
  case atStart => exact ⟨0, rfl, rfl, Nat.zero_le _, Below.refl _ _⟩
  case round =>
    obtain ⟨j, rfl, rfl, hj, hb⟩ := hrel
    have HB := Shut.mk hb
    by_cases hlt : j < n
    · obtain ⟨b, off, rfl, lb, hc⟩ := UnRow.at (HA.out.stays hb) (by rw [marksU_len]; omega)
      obtain ⟨d0, d1, d2, d3⟩ := hc j (by rw [marksU_len]; omega)
      rw [marksU_at] at d0 d1 d2 d3
      rw [show (markU (k + 4 * j)).group = (k : Int) + 4 * (j : Int) by show ((k + 4 * j : Nat) : Int) = _; push_cast; omega] at d0
      rw [show (markU (k + 4 * j)).index = (k : Int) + 4 * (j : Int) + 1 by show ((k + 4 * j + 1 : Nat) : Int) = _; push_cast; omega] at d1
      rw [show (markU (k + 4 * j)).text = mt (k + 4 * j + 2) from rfl] at d2
      rw [show (markU (k + 4 * j)).sum = (k : Int) + 4 * (j : Int) + 1 + 1 + 1 by show ((k + 4 * j + 3 : Nat) : Int) = _; push_cast; omega] at d3
      have j0 : (0 : Int) ≤ (j : Int) := by omega
      have j1 : (j : Int) < (n : Int) := by omega
      have Q2 : Shut (∀ W : World, Calls Try.prog 67 #[.int .i64 ((k : Int) + 4 * (j : Int) + 1 + 1)] W fun e w' => e = .returned (.string (mt (k + 4 * j + 2))) ∧ Below W.heap.size W w') := ⟨fun W => by
        have q := markText_any (k + 4 * j + 2) W (by omega) (by omega)
        rwa [show ((k + 4 * j + 2 : Nat) : Int) = (k : Int) + 4 * (j : Int) + 1 + 1 by push_cast; omega] at q⟩
      have hs2 : ((mt (k + 4 * j + 2)).toList == (mt (k + 4 * j + 2)).toList) = true := by simp
      clear hc hb
      go_wp2_with fail
      go_region_held3 (fun w' => w'.cell? ⟨b, off + j * 4 + 2, none⟩ = some (.string (mt (k + 4 * j + 2)))) (first | go_keep | (rw [hb2.cell (p := ⟨b, off + j * 4 + 2, none⟩) (by exact lb)]; assumption)) ((go_at_call 67; refine (Q2.out _).mono ?_; rintro e w2 ⟨rfl, hb2⟩))
      all_goals
        have lb2 : b < w2.heap.size := Nat.lt_of_lt_of_le lb hb2.size
        replace d3 := (hb2.cell (p := ⟨b, off + j * 4 + 3, none⟩) lb).trans d3
        have HB2 : Shut (Below w.heap.size w w2) := ⟨HB.out.trans ((Below.drew (Below.refl _ _)).trans (hb2.mono HB.out.size))⟩
        clear hb2 d0 d1 d2
        go_wp2_with fail
        exact ⟨⟨j + 1, by go_num, congrArg (Value.int .i64) (by omega), by omega, HB2.out⟩, by simp [intOf]; omega⟩
    · have e : j = n := by omega
      subst e
      go_wp2_with fail
      go_ret
      exact ⟨rfl, hb⟩
end Go.Proofs.Ytendbipfmgnjkaa
/- HoA: Hosts in memory, and in the laws: sizes, copies, two that are the same, marks. -/
namespace Go.Proofs.Ytendbipfmgnjkaa
set_option maxRecDepth 100000
open Go.RowKit
attribute [local go_sem ↓] Go.wp_at_zero Go.wp_at_succ

/-- A host's value: its units in a row. -/
abbrev hov (H : HM) (a : Option Addr) (cap : Nat) : Value := .agg #[.int .i64 H.id, .bool H.up, .slice a H.us.length cap]
/-- A host whose row is its own, in a stretch. -/
def HAns (w : World) (v : Value) (H : HM) (lo hi : Nat) : Prop := ∃ a cap, v = hov H a cap ∧ FRw w a (unS H.us) lo hi ∧ H.us.length ≤ cap
def HoPost (H : HM) (w : World) (e : Ending) (w' : World) : Prop := ∃ a cap, e = .returned (hov H a cap) ∧ FRw w' a (unS H.us) w.heap.size w'.heap.size ∧ H.us.length ≤ cap ∧ Below w.heap.size w w'
theorem turned_rw {W W' : World} {lo hi : Nat} {row : Option Nat} (hg : W.grownBy W' row) (hr : ∀ g, row = some g → lo ≤ g ∧ g < hi) : Turned W W' lo hi := by
  cases row with
  | none => exact Turned.of_below ⟨hg.os, hg.tape, hg.output, hg.size, fun k hk => hg.block k hk (by simp)⟩ _ _
  | some g => exact Turned.of_grown hg (hr g rfl).1 (hr g rfl).2
theorem eqHost_same (H : HM) (a b : Option Addr) (ca cb : Nat) (w : World) (ha : UnRow w a H.us) (hb : UnRow w b H.us) (hl : H.us.length ≤ 9000000) :
    Calls Try.prog 62 #[hov H a ca, hov H b cb] w fun e w' => e = .returned (.bool true) ∧ Below w.heap.size w w' := by
  have hb0 : Below w.heap.size w ((w.alloc (.cells #[.int .i64 H.id, .bool H.up, .slice a H.us.length ca] 73)).alloc (.cells #[.int .i64 H.id, .bool H.up, .slice b H.us.length cb] 73)) := ((Below.refl _ _).alloc (Nat.le_refl _) _).alloc (by simp) _
  have HA := Shut.mk (ha.stays hb0)
  have HB := Shut.mk (hb.stays hb0)
  have HB0 := Shut.mk hb0
  have hu : (H.up != H.up) = false := by simp
  clear ha hb hb0
  go_enter Try.func62, Try.ntmps62
  go_wp2_with fail
  refine (eqUnitS_same a b H.us ca cb _ HA.out HB.out hl).mono ?_
  rintro e w2 ⟨rfl, hb2⟩
  have HB2 := Shut.mk (HB0.out.trans (hb2.mono HB0.out.size))
  clear hb2
  go_wp2_with fail
  go_ret
  exact ⟨rfl, HB2.out⟩
/-- The host whose units are marks. -/
def markH (H : HM) (k : Nat) : HM := ⟨H.id, H.up, marksU k H.us.length⟩
end Go.Proofs.Ytendbipfmgnjkaa
