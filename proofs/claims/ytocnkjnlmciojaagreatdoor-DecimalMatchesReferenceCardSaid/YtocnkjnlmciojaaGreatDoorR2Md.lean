/-
  The reference's products and quotients, in plain numbers.
-/
import Derived.Test.YtocnkjnlmciojaaGreatDoorDecPqMath
namespace Go.Proofs.YtocnkjnlmciojaaGreatDoor.De

theorem mul_parts (x y : Nat) : x * y / 1000000 = x * (y / 1000000) + x / 1000000 * (y % 1000000) + x % 1000000 * (y % 1000000) / 1000000 ∧ x * y % 1000000 = x % 1000000 * (y % 1000000) % 1000000 := by
  have hx := Nat.div_add_mod x 1000000
  have hy := Nat.div_add_mod y 1000000
  obtain ⟨p, hp⟩ : ∃ p, x / 1000000 = p := ⟨_, rfl⟩
  obtain ⟨q, hq⟩ : ∃ q, x % 1000000 = q := ⟨_, rfl⟩
  obtain ⟨r, hr⟩ : ∃ r, y / 1000000 = r := ⟨_, rfl⟩
  obtain ⟨s, hs⟩ : ∃ s, y % 1000000 = s := ⟨_, rfl⟩
  rw [hp, hq] at hx
  rw [hr, hs] at hy
  rw [hp, hq, hr, hs]
  have e : x * y = 1000000 * (x * r + p * s) + q * s := by
    have e1 : x * y = x * (1000000 * r) + x * s := by rw [← hy, Nat.mul_add]
    have e2 : x * s = 1000000 * p * s + q * s := by rw [← hx, Nat.add_mul]
    rw [e1, e2, Nat.mul_add, Nat.mul_left_comm, Nat.mul_assoc]
    omega
  rw [e]
  constructor
  · rw [Nat.mul_add_div (by decide)]
  · rw [Nat.mul_add_mod]

/-- What the reference multiplies, part by part. -/
structure MulParts (x y p q r s A B C T R W : Nat) : Prop where
  mp : x / 1000000 = p
  mq : x % 1000000 = q
  mr : y / 1000000 = r
  ms : y % 1000000 = s
  mA : x * r = A
  mB : p * s = B
  mT : q * s = T
  mC : T / 1000000 = C
  mR : T % 1000000 = R
  mW : x * y / 1000000 = W
  sum : A + B + C = W
  rest : x * y % 1000000 = R
  bB : B ≤ 1000000000000000
  bT : T ≤ 1000000000000
  bR : R < 1000000
  bp : p ≤ 1000000000
  bq : q < 1000000
  br : r ≤ 1000000000
  bs : s < 1000000
theorem mulParts {x y : Nat} (hx : x ≤ 1000000000000000) (hy : y ≤ 1000000000000000) : ∃ p q r s A B C T R W, MulParts x y p q r s A B C T R W := by
  obtain ⟨h1, h2⟩ := mul_parts x y
  have bp : x / 1000000 ≤ 1000000000 := by omega
  have bq : x % 1000000 < 1000000 := by omega
  have br : y / 1000000 ≤ 1000000000 := by omega
  have bs : y % 1000000 < 1000000 := by omega
  have b1 : x / 1000000 * (y % 1000000) ≤ 1000000000 * 1000000 := Nat.mul_le_mul bp (Nat.le_of_lt bs)
  have b2 : x % 1000000 * (y % 1000000) ≤ 1000000 * 1000000 := Nat.mul_le_mul (Nat.le_of_lt bq) (Nat.le_of_lt bs)
  exact ⟨_, _, _, _, _, _, _, _, _, _, rfl, rfl, rfl, rfl, rfl, rfl, rfl, rfl, rfl, rfl, h1.symm, h2, b1, b2, Nat.mod_lt _ (by decide), bp, bq, br, bs⟩

/-- Too great a factor. -/
theorem mul_great {x r : Nat} (hr : 0 < r) (h : 1000000000000000 / r < x) : 1000000000000000 < x * r := (Nat.div_lt_iff_lt_mul hr).1 h
theorem mul_small {x r : Nat} (hr : 0 < r) (h : x ≤ 1000000000000000 / r) : x * r ≤ 1000000000000000 := (Nat.le_div_iff_mul_le hr).1 h

theorem mulS_valid {a b : Int} (ha : validB a = true) (hb : validB b = true) : mulS a b = mulDivS a b 1000000 := by unfold mulS; rw [ha, hb]; rfl
theorem mulDiv_big {a b c : Int} {w : Nat} (h : a.natAbs * b.natAbs / c.natAbs = w) (hw : 1000000000000000 < w) : mulDivS a b c = (0, 2) := by unfold mulDivS; rw [h, if_pos hw]
theorem chk_big {s : Bool} {w : Nat} (hw : 1000000000000000 < w) : chk (sgn s w) = (0, 2) := by
  unfold chk sgn
  rw [validB_no (by cases s <;> simp <;> omega)]; rfl
/-- The size need not be looked at ahead: what is too great is found not to be valid. -/
theorem mulDiv_chk {a b c : Int} {w r : Nat} (h : a.natAbs * b.natAbs / c.natAbs = w) (hr : a.natAbs * b.natAbs % c.natAbs = r) : mulDivS a b c = chk (sgn (negB a b c) (evenN w r c.natAbs)) := by
  unfold mulDivS
  rw [h, hr]
  by_cases hw : 1000000000000000 < w
  · rw [if_pos hw, chk_big (Nat.lt_of_lt_of_le hw (evenN_ge _ _ _))]
  · rw [if_neg hw]

/-- The sign of the product of two numbers. -/
def sigB (a b : Int) : Bool := decide (a < 0) != decide (b < 0)
theorem sig_mul (a b : Int) : negB a b 1000000 = sigB a b := by
  unfold negB sigB
  rw [show decide ((1000000 : Int) < 0) = false from rfl, Bool.bne_false]
theorem sig_div (a b : Int) : negB a 1000000 b = sigB a b := by
  unfold negB sigB
  rw [show decide ((1000000 : Int) < 0) = false from rfl, Bool.bne_false]

/-- One more place. -/
theorem place_step (x y n rest k : Nat) (hy : 0 < y) (hn : x * 10 ^ k / y = n) (hr : x * 10 ^ k % y = rest) :
    x * 10 ^ (k + 1) / y = 10 * n + 10 * rest / y ∧ x * 10 ^ (k + 1) % y = 10 * rest % y := by
  have h := Nat.div_add_mod (x * 10 ^ k) y
  rw [hn, hr] at h
  have e : x * 10 ^ (k + 1) = y * (10 * n) + 10 * rest := by
    rw [Nat.pow_succ, ← Nat.mul_assoc, ← h, Nat.add_mul, Nat.mul_comm rest 10, Nat.mul_assoc, Nat.mul_comm n 10]
  rw [e]
  constructor
  · rw [Nat.mul_add_div hy]
  · rw [Nat.mul_add_mod]
theorem whole_big {x y n : Nat} (hy : 0 < y) (hn : x / y = n) (h : 1000000000 < n) : 1000000000000000 < x * 1000000 / y := by
  have h1 : (1000000000 + 1) * y ≤ x := (Nat.le_div_iff_mul_le hy).1 (by omega)
  have h2 : (1000000000 + 1) * 1000000 ≤ x * 1000000 / y := by
    rw [Nat.le_div_iff_mul_le hy]
    calc (1000000000 + 1) * 1000000 * y = (1000000000 + 1) * y * 1000000 := by rw [Nat.mul_right_comm]
      _ ≤ x * 1000000 := Nat.mul_le_mul_right _ h1
  omega
theorem place_small {x y n k : Nat} (hy : 0 < y) (hk : k ≤ 6) (h : x / y ≤ 1000000000) (hn : x * 10 ^ k / y = n) : n ≤ 1000000001000000 := by
  have h1 : x < (1000000000 + 1) * y := (Nat.div_lt_iff_lt_mul hy).1 (by omega)
  have h2 : x * 10 ^ k ≤ x * 1000000 := Nat.mul_le_mul_left _ (Nat.pow_le_pow_right (by decide) hk (n := 10))
  have h3 : x * 10 ^ k < (1000000000 + 1) * 1000000 * y := by
    calc x * 10 ^ k ≤ x * 1000000 := h2
      _ < (1000000000 + 1) * y * 1000000 := Nat.mul_lt_mul_of_pos_right h1 (by decide)
      _ = (1000000000 + 1) * 1000000 * y := by rw [Nat.mul_right_comm]
  have h4 := (Nat.div_lt_iff_lt_mul hy).2 h3
  omega
theorem divS_valid {a b : Int} (ha : validB a = true) (hb : validB b = true) (h0 : b ≠ 0) : divS a b = mulDivS a 1000000 b := by unfold divS; rw [ha, hb, if_neg h0]; rfl

end Go.Proofs.YtocnkjnlmciojaaGreatDoor.De
