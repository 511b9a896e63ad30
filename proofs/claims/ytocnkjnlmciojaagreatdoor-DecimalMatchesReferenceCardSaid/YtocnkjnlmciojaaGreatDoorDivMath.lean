/-
  Division of a number of two words by one word, digit by digit (base 2^32): the mathematics. Plain numbers alone.
-/
namespace Go.Proofs.YtocnkjnlmciojaaGreatDoor.De.DivMath

/-- One state of the search for a digit: the digit is not too small, and the rest belongs to it. -/
structure Inv (u v1 v0 u1 q r : Nat) : Prop where
  rest : u = q * v1 + r
  big : (u * 4294967296 + u1) / (v1 * 4294967296 + v0) ≤ q
  top : q ≤ 4294967297

def tooBig (v0 u1 q r : Nat) : Bool := decide (4294967296 ≤ q) || decide (4294967296 * r + u1 < q * v0)

theorem digit_lt {u v1 v0 u1 : Nat} (hu : u < v1 * 4294967296 + v0) (h1 : u1 < 4294967296) : (u * 4294967296 + u1) / (v1 * 4294967296 + v0) < 4294967296 := by
  rw [Nat.div_lt_iff_lt_mul (by omega)]
  have : (u + 1) * 4294967296 ≤ (v1 * 4294967296 + v0) * 4294967296 := Nat.mul_le_mul_right _ hu
  rw [Nat.mul_comm (4294967296 : Nat)]
  omega

theorem Inv.start {u v1 v0 u1 : Nat} (hv1 : 2147483648 ≤ v1) (hv0 : v0 < 4294967296) (hu : u < v1 * 4294967296 + v0) (h1 : u1 < 4294967296) : Inv u v1 v0 u1 (u / v1) (u - u / v1 * v1) := by
  have hm : u / v1 * v1 ≤ u := Nat.div_mul_le_self _ _
  refine ⟨by omega, ?_, ?_⟩
  · rw [Nat.div_le_iff_le_mul_add_pred (by omega)]
    have hr : u < (u / v1 + 1) * v1 := by
      have := Nat.lt_mul_div_succ u (show 0 < v1 by omega)
      rw [Nat.mul_comm]; exact this
    have e1 : (u / v1 + 1) * v1 = u / v1 * v1 + v1 := Nat.succ_mul _ _
    have e2 : (v1 * 4294967296 + v0) * (u / v1) = u / v1 * v1 * 4294967296 + v0 * (u / v1) := by
      rw [Nat.add_mul, Nat.mul_right_comm, Nat.mul_comm v1]
    rw [e2]
    have e3 : 0 ≤ v0 * (u / v1) := Nat.zero_le _
    omega
  · have h2 : u < 4294967298 * v1 := by omega
    have := (Nat.div_lt_iff_lt_mul (show 0 < v1 by omega)).2 h2
    omega

/-- The test says that the digit is not too big: it is the digit. -/
theorem Inv.done {u v1 v0 u1 q r : Nat} (h : Inv u v1 v0 u1 q r) (hv : 0 < v1 * 4294967296 + v0) (ht : q * v0 ≤ 4294967296 * r + u1) : q = (u * 4294967296 + u1) / (v1 * 4294967296 + v0) := by
  have hb := h.big
  have : q ≤ (u * 4294967296 + u1) / (v1 * 4294967296 + v0) := by
    rw [Nat.le_div_iff_mul_le hv, Nat.mul_add, ← Nat.mul_assoc]
    have := h.rest
    omega
  omega

/-- The test says that it is too big: one less, with its rest. -/
theorem Inv.less {u v1 v0 u1 q r : Nat} (h : Inv u v1 v0 u1 q r) (hu : u < v1 * 4294967296 + v0) (h1 : u1 < 4294967296) (ht : 4294967296 ≤ q ∨ 4294967296 * r + u1 < q * v0) :
    Inv u v1 v0 u1 (q - 1) (r + v1) ∧ 1 ≤ q ∧ q - 1 ≤ 4294967296 := by
  have hd := digit_lt (u := u) (v1 := v1) (v0 := v0) (u1 := u1) hu h1
  have htop := h.top
  have hr := h.rest
  have hlt : (u * 4294967296 + u1) / (v1 * 4294967296 + v0) < q := by
    rcases ht with ht | ht
    · omega
    · rw [Nat.div_lt_iff_lt_mul (by omega), Nat.mul_add, ← Nat.mul_assoc]
      omega
  have hq : 1 ≤ q := Nat.lt_of_le_of_lt (Nat.zero_le _) hlt
  refine ⟨⟨?_, Nat.le_sub_one_of_lt hlt, by omega⟩, hq, by omega⟩
  obtain ⟨p, rfl⟩ : ∃ p, q = p + 1 := ⟨q - 1, by omega⟩
  rw [Nat.succ_mul] at hr
  show u = p * v1 + (r + v1)
  omega

/-- The rest has become so big that the test would say no. -/
theorem Inv.far {u v1 v0 u1 q r : Nat} (h : Inv u v1 v0 u1 q r) (hv : 0 < v1 * 4294967296 + v0) (hv0 : v0 < 4294967296) (hq : q ≤ 4294967296) (hr : 4294967296 ≤ r) : q = (u * 4294967296 + u1) / (v1 * 4294967296 + v0) := by
  apply h.done hv
  have : q * v0 ≤ 4294967296 * v0 := Nat.mul_le_mul_right _ hq
  omega

/-- The two digits make the quotient, the second rest the remainder. -/
theorem two_digits (hi lo y s : Nat) (hy : y ≠ 0) (Y U32 U10 un21 q1 q0 : Nat) (hY : Y = y * 2 ^ s) (hU : U32 * 18446744073709551616 + U10 = (hi * 18446744073709551616 + lo) * 2 ^ s)
    (h1 : q1 = (U32 * 4294967296 + U10 / 4294967296) / Y) (h2 : un21 = (U32 * 4294967296 + U10 / 4294967296) % Y) (h3 : q0 = (un21 * 4294967296 + U10 % 4294967296) / Y) :
    q1 * 4294967296 + q0 = (hi * 18446744073709551616 + lo) / y ∧ (un21 * 4294967296 + U10 % 4294967296) % Y = (hi * 18446744073709551616 + lo) % y * 2 ^ s := by
  have hs : 0 < 2 ^ s := Nat.pow_pos (by decide)
  have hY0 : 0 < Y := by rw [hY]; exact Nat.mul_pos (by omega) hs
  obtain ⟨A, hA⟩ : ∃ A, A = U32 * 4294967296 + U10 / 4294967296 := ⟨_, rfl⟩
  rw [← hA] at h1 h2
  have d1 : Y * q1 + un21 = A := by rw [h1, h2]; exact Nat.div_add_mod _ _
  obtain ⟨B, hB⟩ : ∃ B, B = un21 * 4294967296 + U10 % 4294967296 := ⟨_, rfl⟩
  rw [← hB] at h3 ⊢
  have d2 : Y * q0 + B % Y = B := by rw [h3]; exact Nat.div_add_mod _ _
  have hrest : B % Y < Y := Nat.mod_lt _ hY0
  have hT : U32 * 18446744073709551616 + U10 = Y * (q1 * 4294967296 + q0) + B % Y := by
    rw [Nat.mul_add, ← Nat.mul_assoc]
    omega
  have hQ : (U32 * 18446744073709551616 + U10) / Y = q1 * 4294967296 + q0 := by
    rw [hT, Nat.mul_add_div hY0, Nat.div_eq_of_lt hrest, Nat.add_zero]
  have hR : (U32 * 18446744073709551616 + U10) % Y = B % Y := by
    rw [hT, Nat.mul_add_mod, Nat.mod_eq_of_lt hrest]
  rw [hU, hY, Nat.mul_div_mul_right _ _ hs] at hQ
  rw [hU, hY, Nat.mul_mod_mul_right] at hR
  rw [hY]
  exact ⟨hQ.symm, hR.symm⟩

end Go.Proofs.YtocnkjnlmciojaaGreatDoor.De.DivMath
