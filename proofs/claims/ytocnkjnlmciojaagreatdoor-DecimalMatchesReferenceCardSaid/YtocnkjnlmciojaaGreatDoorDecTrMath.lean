/-
  Truncation: the mathematics.
-/
import Derived.Test.YtocnkjnlmciojaaGreatDoorDecSpec
namespace Go.Proofs.YtocnkjnlmciojaaGreatDoor.De

/-- n, rounded toward zero to a multiple of u. -/
def trN (n : Int) (u : Nat) : Int := sgn (decide (n < 0)) (n.natAbs / u) * (u : Int)

theorem trN_pos (n : Int) (u : Nat) (h : 0 ≤ n) : trN n u = ((n.natAbs / u * u : Nat) : Int) := by
  unfold trN sgn
  rw [decide_eq_false (by omega)]
  exact (Int.natCast_mul _ _).symm
theorem trN_neg (n : Int) (u : Nat) (h : n < 0) : trN n u = -((n.natAbs / u * u : Nat) : Int) := by
  unfold trN sgn
  rw [decide_eq_true h, Int.natCast_mul]
  show -_ * _ = _
  rw [Int.neg_mul]

theorem div_rest (A u : Nat) (hu : 0 < u) : A / u * u ≤ A ∧ A - A / u * u < u := by
  have h1 := Nat.div_add_mod A u
  have h2 := Nat.mod_lt A hu
  rw [Nat.mul_comm] at h1
  omega

theorem trN_near (n : Int) (u : Nat) (hu : 0 < u) : (0 ≤ n → 0 ≤ trN n u ∧ trN n u ≤ n ∧ n - trN n u < u) ∧ (n < 0 → trN n u ≤ 0 ∧ n ≤ trN n u ∧ trN n u - n < u) := by
  have h := div_rest n.natAbs u hu
  constructor
  · intro h0
    rw [trN_pos n u h0]
    generalize n.natAbs / u * u = M at h
    omega
  · intro h0
    rw [trN_neg n u h0]
    generalize n.natAbs / u * u = M at h
    omega

theorem trN_abs (n : Int) (u : Nat) : (trN n u).natAbs = n.natAbs / u * u := by
  by_cases h : 0 ≤ n
  · rw [trN_pos n u h, Int.natAbs_natCast]
  · rw [trN_neg n u (by omega), Int.natAbs_neg, Int.natAbs_natCast]

theorem trN_dvd (n : Int) (u : Nat) : (u : Int) ∣ trN n u := ⟨_, Int.mul_comm _ _⟩
theorem trN_tmod (n : Int) (u : Nat) : (trN n u).tmod (u : Int) = 0 := Int.tmod_eq_zero_of_dvd (trN_dvd n u)
theorem trN_emod (n : Int) (u : Nat) : trN n u % (u : Int) = 0 := Int.emod_eq_zero_of_dvd (trN_dvd n u)

/-- What a truncated number is: the number itself exactly if it is a multiple. -/
theorem trN_eq (n : Int) (u : Nat) (hu : 0 < u) : trN n u = n ↔ n.tmod (u : Int) = 0 := by
  constructor
  · intro h; rw [← h]; exact trN_tmod n u
  · intro h
    obtain ⟨q, hq⟩ := Int.dvd_of_tmod_eq_zero h
    have hA : n.natAbs = u * q.natAbs := by rw [hq, Int.natAbs_mul, Int.natAbs_natCast]
    have hd : n.natAbs / u * u = n.natAbs := by rw [hA, Nat.mul_div_cancel_left _ hu, Nat.mul_comm]
    by_cases h0 : 0 ≤ n
    · rw [trN_pos n u h0, hd]; omega
    · rw [trN_neg n u (by omega), hd]; omega

theorem trN_mono (a b : Int) (u : Nat) (hu : 0 < u) (h : a ≤ b) : trN a u ≤ trN b u := by
  by_cases ha : 0 ≤ a
  · rw [trN_pos a u ha, trN_pos b u (by omega)]
    exact Int.ofNat_le.2 (Nat.mul_le_mul_right _ (Nat.div_le_div_right (by omega)))
  · by_cases hb : 0 ≤ b
    · have h1 := (trN_near a u hu).2 (by omega)
      have h2 := (trN_near b u hu).1 hb
      omega
    · rw [trN_neg a u (by omega), trN_neg b u (by omega)]
      have : b.natAbs / u * u ≤ a.natAbs / u * u := Nat.mul_le_mul_right _ (Nat.div_le_div_right (by omega))
      omega

/-- Truncating a multiple of a coarser step: nothing is lost. -/
theorem trN_fine (n : Int) (u m : Nat) (hu : 0 < u) : trN (trN n (m * u)) u = trN n (m * u) := by
  rw [trN_eq _ _ hu]
  exact Int.tmod_eq_zero_of_dvd (Int.dvd_trans ⟨(m : Int), by rw [Int.natCast_mul, Int.mul_comm]⟩ (trN_dvd n (m * u)))

theorem trN_sign (n : Int) (u : Nat) (hu : 0 < u) : n < 0 → trN n u ≤ 0 := fun h => ((trN_near n u hu).2 h).1

/-- Truncating twice, to the coarser step. -/
theorem trN_coarse (n : Int) (u m : Nat) (hu : 0 < u) : trN (trN n u) (u * m) = trN n (u * m) := by
  have hA : (trN n u).natAbs / (u * m) * (u * m) = n.natAbs / (u * m) * (u * m) := by
    rw [trN_abs, Nat.mul_comm (n.natAbs / u) u, Nat.mul_div_mul_left _ _ hu, Nat.div_div_eq_div_mul]
  have hp := fun h => ((trN_near n u hu).1 h).1
  have hm := fun h => ((trN_near n u hu).2 h).1
  generalize trN n u = X at hA hp hm
  by_cases h : 0 ≤ n
  · rw [trN_pos n _ h, trN_pos X _ (hp h), hA]
  · have hn : n < 0 := by omega
    rw [trN_neg n _ hn]
    by_cases h2 : X < 0
    · rw [trN_neg X _ h2, hA]
    · have h3 := hm hn
      rw [trN_pos X _ (by omega)]
      have h4 : X.natAbs = 0 := by omega
      rw [h4, Nat.zero_div, Nat.zero_mul] at hA
      rw [h4, Nat.zero_div, Nat.zero_mul, ← hA]
      rfl

theorem unitN_split (s t : Nat) (h : s ≤ t) (h6 : t ≤ 6) : unitN s = unitN t * 10 ^ (t - s) := by
  unfold unitN
  rw [← Nat.pow_add, show 6 - t + (t - s) = 6 - s by omega]

theorem trN_twice (n : Int) (s t : Nat) (hs : s ≤ 6) (ht : t ≤ 6) : trN (trN n (unitN s)) (unitN t) = trN n (unitN (min s t)) := by
  by_cases h : s ≤ t
  · rw [Nat.min_eq_left h, unitN_split s t h ht, Nat.mul_comm]
    exact trN_fine n (unitN t) _ (unitN_pos t)
  · rw [Nat.min_eq_right (by omega), unitN_split t s (by omega) hs]
    exact trN_coarse n (unitN s) _ (unitN_pos s)

theorem truncS_in (n : Int) (s : Nat) (h : s ≤ 6) : truncS n (s : Int) = trN n (unitN s) := by
  unfold truncS
  rw [show scaleB (s : Int) = true from decide_eq_true (by omega), if_pos rfl, Int.toNat_natCast]
  rfl
theorem fitsB_in (n : Int) (s : Nat) (h : s ≤ 6) : fitsB n (s : Int) = decide (n.tmod (unitN s : Int) = 0) := by
  unfold fitsB
  rw [show scaleB (s : Int) = true from decide_eq_true (by omega), Int.toNat_natCast]
  rfl

theorem unitN_step (i : Nat) (h : i < 6) : unitN i = 10 * unitN (i + 1) := by
  rw [unitN_split i (i + 1) (by omega) (by omega), show i + 1 - i = 1 by omega, Nat.mul_comm]

end Go.Proofs.YtocnkjnlmciojaaGreatDoor.De
