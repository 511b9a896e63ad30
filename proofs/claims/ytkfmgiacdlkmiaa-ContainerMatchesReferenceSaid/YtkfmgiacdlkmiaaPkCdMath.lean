/-
  Codes of variable length: how long they are, and that they are read back.
-/
import Derived.Test.YtkfmgiacdlkmiaaPkSpec
namespace Go.Proofs.Ytkfmgiacdlkmiaa
open Go.RowKit

def widthN (u : Nat) : Nat := if u = 0 then 0 else widthN (u / 2) + 1
termination_by u

theorem widthN_zero : widthN 0 = 0 := by rw [widthN, if_pos rfl]
theorem widthN_pos {u : Nat} (h : u ≠ 0) : widthN u = widthN (u / 2) + 1 := by rw [widthN, if_neg h]
theorem widthN_le : ∀ (k u : Nat), u < 2 ^ k → widthN u ≤ k := by
  intro k
  induction k with
  | zero => intro u h; obtain rfl : u = 0 := by omega
            rw [widthN_zero]; omega
  | succ k ih =>
    intro u h
    by_cases h0 : u = 0
    · rw [h0, widthN_zero]; omega
    · rw [widthN_pos h0]
      have := ih (u / 2) (by rw [Nat.pow_succ] at h; omega)
      omega
theorem widthN_shift : ∀ (k u : Nat), 0 < u / 2 ^ k → widthN u = widthN (u / 2 ^ k) + k := by
  intro k
  induction k with
  | zero => intro u _; simp
  | succ k ih =>
    intro u h
    have e : u / 2 ^ (k + 1) = (u / 2) / 2 ^ k := by rw [Nat.div_div_eq_div_mul, Nat.pow_succ, Nat.mul_comm]
    have h0 : u ≠ 0 := fun h0 => by rw [h0] at h; simp at h
    rw [widthN_pos h0, ih (u / 2) (by rw [← e]; exact h), ← e]
    omega

theorem var_width : ∀ (f u : Nat), u < f → (varN u).length = max 1 ((widthN u + 6) / 7) := by
  intro f
  induction f with
  | zero => intro u h; omega
  | succ f ih =>
    intro u h
    by_cases h0 : u < 128
    · have := widthN_le 7 u h0
      rw [varN_lo h0, List.length_singleton]; omega
    · have h1 := widthN_shift 7 u (by show 0 < u / 128; omega)
      have h2 := ih (u / 128) (by omega)
      have h3 : widthN (u / 128) ≠ 0 := by rw [widthN_pos (by omega)]; omega
      rw [varN_hi h0, List.length_cons, h2, h1]
      show max 1 ((widthN (u / 128) + 6) / 7) + 1 = max 1 ((widthN (u / 128) + 7 + 6) / 7)
      omega

theorem rdF_var (r : List Int) : ∀ (k i u : Nat) (a : Int), i + k = 9 → u < 2 ^ (7 * k + 1) → (i = 0 ∨ 0 < u) → rdF i a (varN u ++ r) = (a + u * 2 ^ (7 * i), i + (varN u).length, 0) := by
  intro k
  induction k with
  | zero =>
    intro i u a hi hu h0
    obtain rfl : i = 9 := by omega
    obtain rfl : u = 1 := by omega
    rw [varN_lo (by decide)]
    rfl
  | succ k ih =>
    intro i u a hi hu h0
    by_cases h1 : u < 128
    · rw [varN_lo h1]
      have he : ends i (u : Int) = true := by
        unfold ends
        rw [if_neg (by omega)]
        rcases h0 with h0 | h0
        · simp [h0]
        · simp; omega
      show rdF i a ((u : Int) :: ([] ++ r)) = _
      rw [rdF, if_neg (by omega), if_neg (by omega), if_pos he]
      rfl
    · rw [varN_hi h1, List.cons_append, rdF, if_neg (by omega), if_pos (by omega)]
      have hu2 : u / 128 < 2 ^ (7 * k + 1) := by
        rw [Nat.div_lt_iff_lt_mul (by decide)]
        rw [show 7 * (k + 1) + 1 = 7 * k + 1 + 7 by omega, Nat.pow_add] at hu
        exact hu
      rw [ih (i + 1) (u / 128) _ (by omega) hu2 (.inr (by omega)), List.length_cons]
      refine Prod.ext ?_ (Prod.ext ?_ rfl)
      · show a + (((u % 128 : Nat) : Int) + 128 - 128) * 2 ^ (7 * i) + ((u / 128 : Nat) : Int) * 2 ^ (7 * (i + 1)) = a + (u : Int) * 2 ^ (7 * i)
        rw [show 7 * (i + 1) = 7 * i + 7 by omega, Int.pow_add]
        generalize (2 : Int) ^ (7 * i) = P
        have hd : (u : Int) = ((u % 128 : Nat) : Int) + ((u / 128 : Nat) : Int) * 128 := by omega
        rw [show ((2 : Int) ^ 7) = 128 from rfl, show ((u % 128 : Nat) : Int) + 128 - 128 = ((u % 128 : Nat) : Int) by omega]
        conv => rhs; rw [hd]
        rw [Int.add_mul, Int.mul_assoc, Int.mul_comm P 128, Int.add_assoc]
      · show i + 1 + (varN (u / 128)).length = i + ((varN (u / 128)).length + 1)
        omega

theorem rdS_var (u : Nat) (hu : u < 18446744073709551616) (r : List Int) : rdS (varN u ++ r) = ((u : Int), (varN u).length, 0) := by
  have := rdF_var r 9 0 u 0 rfl hu (.inl rfl)
  unfold rdS
  rw [this]
  simp

theorem zz_inj {n m : Int} (h : zz n = zz m) : n = m := by
  have := congrArg uz h
  rwa [uz_zz, uz_zz] at this

end Go.Proofs.Ytkfmgiacdlkmiaa
