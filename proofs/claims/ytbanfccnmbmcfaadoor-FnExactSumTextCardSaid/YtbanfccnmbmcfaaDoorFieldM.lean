/- Plain facts on the field of bytes: products of polynomials over bits, modulo the one of the number 285; nothing of the program is read here. -/
namespace Go.Proofs.YtbanfccnmbmcfaaDoor.W
abbrev B8 := BitVec 8

/-- Twice a number. -/
def xt (a : B8) : B8 := if a.msb then (a <<< 1) ^^^ 29#8 else a <<< 1
def gb (b : B8) (i : Nat) (x : B8) : B8 := if b.getLsbD i then x else 0#8
def gm (a b : B8) : B8 :=
  gb b 0 a ^^^ (gb b 1 (xt a) ^^^ (gb b 2 (xt (xt a)) ^^^ (gb b 3 (xt (xt (xt a))) ^^^ (gb b 4 (xt (xt (xt (xt a)))) ^^^ (gb b 5 (xt (xt (xt (xt (xt a))))) ^^^ (gb b 6 (xt (xt (xt (xt (xt (xt a)))))) ^^^ gb b 7 (xt (xt (xt (xt (xt (xt (xt a)))))))))))))
theorem xor_swap (a b c d : B8) : (a ^^^ b) ^^^ (c ^^^ d) = (a ^^^ c) ^^^ (b ^^^ d) := by
  rw [BitVec.xor_assoc, BitVec.xor_assoc, ← BitVec.xor_assoc b c d, BitVec.xor_comm b c, BitVec.xor_assoc c b d]
theorem xor_two (a b : B8) {A B C : B8} (h : A ^^^ B = C) : (a ^^^ A) ^^^ (b ^^^ B) = (a ^^^ b) ^^^ C := by rw [xor_swap, h]
theorem xt_add (a b : B8) : xt (a ^^^ b) = xt a ^^^ xt b := by
  unfold xt
  rw [BitVec.msb_xor, BitVec.shiftLeft_xor_distrib]
  cases a.msb <;> cases b.msb <;> simp
  · rw [BitVec.xor_assoc]
  · rw [BitVec.xor_assoc, BitVec.xor_assoc, BitVec.xor_comm (b <<< 1)]
  · rw [xor_swap, BitVec.xor_self, BitVec.xor_zero]
theorem gb_add (b : B8) (i : Nat) (x y : B8) : gb b i (x ^^^ y) = gb b i x ^^^ gb b i y := by
  unfold gb; cases b.getLsbD i <;> simp
theorem gb_bits (b c : B8) (i : Nat) (x : B8) : gb (b ^^^ c) i x = gb b i x ^^^ gb c i x := by
  unfold gb
  rw [BitVec.getLsbD_xor]
  cases b.getLsbD i <;> cases c.getLsbD i <;> simp
theorem gm_left (a b c : B8) : gm (a ^^^ b) c = gm a c ^^^ gm b c := by
  unfold gm
  simp only [xt_add, gb_add]
  exact (xor_two _ _ (xor_two _ _ (xor_two _ _ (xor_two _ _ (xor_two _ _ (xor_two _ _ (xor_two _ _ rfl))))))).symm
theorem gm_right (a b c : B8) : gm a (b ^^^ c) = gm a b ^^^ gm a c := by
  unfold gm
  simp only [gb_bits]
  exact (xor_two _ _ (xor_two _ _ (xor_two _ _ (xor_two _ _ (xor_two _ _ (xor_two _ _ (xor_two _ _ rfl))))))).symm
theorem xt_zero : xt 0#8 = 0#8 := by decide
theorem gb_zero (b : B8) (i : Nat) : gb b i 0#8 = 0#8 := by unfold gb; simp
theorem gm_zero (a : B8) : gm a 0#8 = 0#8 := by unfold gm gb; simp
theorem zero_gm (a : B8) : gm 0#8 a = 0#8 := by unfold gm; simp only [xt_zero, gb_zero]; simp
/-- One round of the product: the lowest bit, and the rest of them with twice the number. -/
theorem gm_step (a b : B8) : gm a b = gb b 0 a ^^^ gm (xt a) (b >>> 1) := by
  have e : ∀ (i : Nat) (x : B8), gb (b >>> 1) i x = gb b (i + 1) x := fun i x => by unfold gb; rw [BitVec.getLsbD_ushiftRight, Nat.add_comm]
  have h8 : ∀ x : B8, gb b 8 x = 0#8 := fun x => by unfold gb; rw [BitVec.getLsbD_of_ge b 8 (by decide)]; rfl
  unfold gm
  simp only [e]
  rw [show 7 + 1 = 8 from rfl, h8]
  simp
/-- The bits of a number. -/
theorem bits_of : ∀ x : B8, x = gb x 0 1#8 ^^^ (gb x 1 2#8 ^^^ (gb x 2 4#8 ^^^ (gb x 3 8#8 ^^^ (gb x 4 16#8 ^^^ (gb x 5 32#8 ^^^ (gb x 6 64#8 ^^^ gb x 7 128#8)))))) := by decide +kernel
def adds (f : B8 → B8) : Prop := ∀ x y, f (x ^^^ y) = f x ^^^ f y
theorem adds.zero {f : B8 → B8} (h : adds f) : f 0#8 = 0#8 := by
  have := h 0#8 0#8
  rw [BitVec.xor_self, BitVec.xor_self] at this
  exact this
theorem adds.bit {f : B8 → B8} (h : adds f) (x : B8) (i : Nat) (y : B8) : f (gb x i y) = gb x i (f y) := by
  unfold gb; cases x.getLsbD i
  · simp [h.zero]
  · simp
/-- What goes through sums is told by its answers at the eight bits. -/
theorem adds.ext {f g : B8 → B8} (hf : adds f) (hg : adds g) (h : ∀ e ∈ [1#8, 2#8, 4#8, 8#8, 16#8, 32#8, 64#8, 128#8], f e = g e) (x : B8) : f x = g x := by
  have key : ∀ {f : B8 → B8}, adds f → f x = gb x 0 (f 1#8) ^^^ (gb x 1 (f 2#8) ^^^ (gb x 2 (f 4#8) ^^^ (gb x 3 (f 8#8) ^^^ (gb x 4 (f 16#8) ^^^ (gb x 5 (f 32#8) ^^^ (gb x 6 (f 64#8) ^^^ gb x 7 (f 128#8))))))) := fun {f} hf => by
    conv => lhs; rw [bits_of x]
    rw [hf, hf, hf, hf, hf, hf, hf]
    simp only [hf.bit]
  rw [key hf, key hg]
  rw [h 1#8 (by simp), h 2#8 (by simp), h 4#8 (by simp), h 8#8 (by simp), h 16#8 (by simp), h 32#8 (by simp), h 64#8 (by simp), h 128#8 (by simp)]
def eightB : List B8 := [1#8, 2#8, 4#8, 8#8, 16#8, 32#8, 64#8, 128#8]
theorem gm_comm_bits : ∀ x ∈ eightB, ∀ y ∈ eightB, gm x y = gm y x := by decide +kernel
theorem gm_comm (a b : B8) : gm a b = gm b a := by
  refine adds.ext (f := fun x => gm x b) (g := fun x => gm b x) (fun x y => gm_left x y b) (fun x y => gm_right b x y) (fun e he => ?_) a
  exact adds.ext (f := fun y => gm e y) (g := fun y => gm y e) (fun x y => gm_right e x y) (fun x y => gm_left x y e) (fun d hd => gm_comm_bits e he d hd) b
theorem gm_assoc_bits : ∀ x ∈ eightB, ∀ y ∈ eightB, ∀ z ∈ eightB, gm (gm x y) z = gm x (gm y z) := by decide +kernel
theorem gm_assoc (a b c : B8) : gm (gm a b) c = gm a (gm b c) := by
  refine adds.ext (f := fun x => gm (gm x b) c) (g := fun x => gm x (gm b c)) (fun x y => by simp only [gm_left]) (fun x y => gm_left x y _) (fun e he => ?_) a
  refine adds.ext (f := fun y => gm (gm e y) c) (g := fun y => gm e (gm y c)) (fun x y => by simp only [gm_right, gm_left]) (fun x y => by simp only [gm_left, gm_right]) (fun d hd => ?_) b
  exact adds.ext (f := fun z => gm (gm e d) z) (g := fun z => gm e (gm d z)) (fun x y => gm_right _ x y) (fun x y => by simp only [gm_right]) (fun g hg => gm_assoc_bits e he d hd g hg) c
theorem gm_one (a : B8) : gm a 1#8 = a := by
  unfold gm gb; simp
theorem one_gm (a : B8) : gm 1#8 a = a := by rw [gm_comm, gm_one]
/-- Powers. -/
def gp (a : B8) : Nat → B8
  | 0 => 1#8
  | n + 1 => gm (gp a n) a
theorem gp_0 (a : B8) : gp a 0 = 1#8 := rfl
theorem gp_succ (a : B8) (n : Nat) : gp a (n + 1) = gm (gp a n) a := rfl
theorem gp_add (a : B8) (n : Nat) : ∀ m, gm (gp a n) (gp a m) = gp a (n + m)
  | 0 => gm_one _
  | m + 1 => by rw [gp, ← gm_assoc, gp_add a n m]; rfl
theorem gp_two (a : B8) (n : Nat) : gp a (n + n) = gm (gp a n) (gp a n) := (gp_add a n n).symm
theorem gp_one (a : B8) : gp a 1 = a := one_gm a
/-- The product of the powers by 1, 2, 4 .. 128. -/
def round (a : B8) : B8 :=
  let b := gm a a; let c := gm b b; let d := gm c c; let e := gm d d; let f := gm e e; let g := gm f f; let h := gm g g
  gm a (gm b (gm c (gm d (gm e (gm f (gm g h))))))
theorem gp_round (a : B8) : gp a 255 = round a := by
  have h2 : gp a 2 = gm a a := by rw [show 2 = 1 + 1 from rfl, gp_two, gp_one]
  have h4 : gp a 4 = gm (gp a 2) (gp a 2) := gp_two a 2
  have h8 : gp a 8 = gm (gp a 4) (gp a 4) := gp_two a 4
  have h16 : gp a 16 = gm (gp a 8) (gp a 8) := gp_two a 8
  have h32 : gp a 32 = gm (gp a 16) (gp a 16) := gp_two a 16
  have h64 : gp a 64 = gm (gp a 32) (gp a 32) := gp_two a 32
  have h128 : gp a 128 = gm (gp a 64) (gp a 64) := gp_two a 64
  have s7 : gm (gp a 64) (gp a 128) = gp a 192 := gp_add a 64 128
  have s6 : gm (gp a 32) (gp a 192) = gp a 224 := gp_add a 32 192
  have s5 : gm (gp a 16) (gp a 224) = gp a 240 := gp_add a 16 224
  have s4 : gm (gp a 8) (gp a 240) = gp a 248 := gp_add a 8 240
  have s3 : gm (gp a 4) (gp a 248) = gp a 252 := gp_add a 4 248
  have s2 : gm (gp a 2) (gp a 252) = gp a 254 := gp_add a 2 252
  have s1 : gm (gp a 1) (gp a 254) = gp a 255 := gp_add a 1 254
  rw [← s1, ← s2, ← s3, ← s4, ← s5, ← s6, ← s7, h128, h64, h32, h16, h8, h4, h2, gp_one]
  rfl
theorem round_all : ∀ a : B8, a ≠ 0#8 → round a = 1#8 := by decide +kernel
theorem gp_255 (a : B8) (h : a ≠ 0#8) : gp a 255 = 1#8 := by rw [gp_round, round_all a h]
/-- The number with which one is 1. -/
def gi (a : B8) : B8 := if a = 0#8 then 0#8 else gp a 254
theorem gi_zero : gi 0#8 = 0#8 := if_pos rfl
theorem gm_gi (a : B8) (h : a ≠ 0#8) : gm a (gi a) = 1#8 := by
  unfold gi
  rw [if_neg h, gm_comm, ← gp_255 a h]
  rfl
theorem gi_only {a b : B8} (h : gm a b = 1#8) : b = gi a := by
  have h0 : a ≠ 0#8 := by
    intro e; subst e
    rw [zero_gm] at h
    exact absurd h (by decide)
  rw [← gm_one b, ← gm_gi a h0, ← gm_assoc, gm_comm b a, h, one_gm]
end Go.Proofs.YtbanfccnmbmcfaaDoor.W
