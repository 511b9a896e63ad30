/-
  Products and quotients: the mathematics of rounding half to even.
-/
import Derived.Test.YtocnkjnlmciojaaGreatDoorDecSpec
namespace Go.Proofs.YtocnkjnlmciojaaGreatDoor.De

/-- What half to even comes to: at most half a unit away; and even if just half. -/
theorem even_near (w r c : Nat) (hr : r < c) :
    2 * ((w * c + r : Nat) : Int) - 2 * ((evenN w r c * c : Nat) : Int) ≤ c ∧ -(c : Int) ≤ 2 * ((w * c + r : Nat) : Int) - 2 * ((evenN w r c * c : Nat) : Int) ∧
      (2 * ((w * c + r : Nat) : Int) - 2 * ((evenN w r c * c : Nat) : Int) = c ∨ 2 * ((w * c + r : Nat) : Int) - 2 * ((evenN w r c * c : Nat) : Int) = -(c : Int) → evenN w r c % 2 = 0) := by
  unfold evenN
  split
  · rename_i h
    rw [Nat.succ_mul]
    generalize w * c = P
    omega
  · rename_i h
    generalize w * c = P
    omega

theorem sgn_mul (a b c : Int) (hc : 0 < c) : a * b = sgn (negB a b c) (a.natAbs * b.natAbs) := by
  have hc' : decide (c < 0) = false := decide_eq_false (by omega)
  unfold sgn negB
  rw [hc', Int.natCast_mul]
  by_cases ha : a < 0 <;> by_cases hb : b < 0
  · rw [decide_eq_true ha, decide_eq_true hb, show (a.natAbs : Int) = -a by omega, show (b.natAbs : Int) = -b by omega]
    simp [Int.neg_mul, Int.mul_neg]
  · rw [decide_eq_true ha, decide_eq_false hb, show (a.natAbs : Int) = -a by omega, show (b.natAbs : Int) = b by omega]
    simp [Int.neg_mul]
  · rw [decide_eq_false ha, decide_eq_true hb, show (a.natAbs : Int) = a by omega, show (b.natAbs : Int) = -b by omega]
    simp [Int.mul_neg]
  · rw [decide_eq_false ha, decide_eq_false hb, show (a.natAbs : Int) = a by omega, show (b.natAbs : Int) = b by omega]
    simp

theorem sgn_abs (n : Bool) (m : Nat) : (sgn n m).natAbs = m := by unfold sgn; cases n <;> simp
theorem sgn_zero (n : Bool) : sgn n 0 = 0 := by unfold sgn; cases n <;> rfl
theorem sgn_not (n : Bool) (m : Nat) : sgn (!n) m = -sgn n m := by unfold sgn; cases n <;> simp
theorem sgn_scale (n : Bool) (m k : Nat) : sgn n (m * k) = sgn n m * (k : Int) := by
  unfold sgn; cases n
  · simp [Int.natCast_mul]
  · simp [Int.natCast_mul, Int.neg_mul]

theorem negB_comm (a b c : Int) : negB a b c = negB b a c := by
  unfold negB; cases decide (a < 0) <;> cases decide (b < 0) <;> rfl
theorem negB_neg (a b c : Int) (ha : a ≠ 0) : negB (-a) b c = !negB a b c := by
  have : decide (-a < 0) = !decide (a < 0) := by
    by_cases h : a < 0
    · rw [decide_eq_true h, decide_eq_false (by omega)]; rfl
    · rw [decide_eq_false h, decide_eq_true (by omega)]; rfl
  unfold negB
  rw [this]
  cases decide (a < 0) <;> cases decide (b < 0) <;> cases decide (c < 0) <;> rfl

theorem mulDivS_comm (a b c : Int) : mulDivS a b c = mulDivS b a c := by
  unfold mulDivS
  rw [Nat.mul_comm, negB_comm]

theorem chk_neg (n : Int) : (chk (-n)).2 = (chk n).2 ∧ (chk (-n)).1 = -(chk n).1 := by
  unfold chk
  by_cases h : validB n = true
  · have h2 := validB_true h
    rw [if_pos h, if_pos (validB_mk (by omega) (by omega))]
    exact ⟨rfl, rfl⟩
  · have h2 := validB_false (by simpa using h)
    rw [if_neg h, if_neg (by rw [validB_no (by omega)]; decide)]
    exact ⟨rfl, rfl⟩

theorem mulDivS_neg (a b c : Int) : (mulDivS (-a) b c).2 = (mulDivS a b c).2 ∧ (mulDivS (-a) b c).1 = -(mulDivS a b c).1 := by
  by_cases ha : a = 0
  · subst ha
    have : mulDivS 0 b c = (0, 0) := by
      unfold mulDivS
      simp only [Int.natAbs_zero, Nat.zero_mul, Nat.zero_div, Nat.zero_mod]
      rw [if_neg (by omega)]
      have e : evenN 0 0 c.natAbs = 0 := by unfold evenN; rw [if_neg (by omega)]
      rw [e, sgn_zero]
      rfl
    rw [show -(0 : Int) = 0 from rfl, this]
    exact ⟨rfl, rfl⟩
  · unfold mulDivS
    rw [Int.natAbs_neg, negB_neg a b c ha, sgn_not]
    split
    · exact ⟨rfl, rfl⟩
    · exact chk_neg _

/-- Where the rounded number is valid, it is what comes out. -/
theorem mulDivS_ok (a b c : Int) (h : evenN (a.natAbs * b.natAbs / c.natAbs) (a.natAbs * b.natAbs % c.natAbs) c.natAbs ≤ 1000000000000000) :
    mulDivS a b c = (sgn (negB a b c) (evenN (a.natAbs * b.natAbs / c.natAbs) (a.natAbs * b.natAbs % c.natAbs) c.natAbs), 0) := by
  have hge := evenN_ge (a.natAbs * b.natAbs / c.natAbs) (a.natAbs * b.natAbs % c.natAbs) c.natAbs
  unfold mulDivS
  rw [if_neg (by omega)]
  generalize evenN (a.natAbs * b.natAbs / c.natAbs) (a.natAbs * b.natAbs % c.natAbs) c.natAbs = E at h ⊢
  unfold chk
  have hs := sgn_abs (negB a b c) E
  rw [if_pos (validB_mk (by omega) (by omega))]

theorem mulDivS_bad (a b c : Int) (h : 1000000000000000 < evenN (a.natAbs * b.natAbs / c.natAbs) (a.natAbs * b.natAbs % c.natAbs) c.natAbs) : mulDivS a b c = (0, 2) := by
  unfold mulDivS
  split
  · rfl
  · generalize evenN (a.natAbs * b.natAbs / c.natAbs) (a.natAbs * b.natAbs % c.natAbs) c.natAbs = E at h ⊢
    unfold chk
    have hs := sgn_abs (negB a b c) E
    rw [if_neg (by rw [validB_no (by omega)]; decide)]

/-- An exact division. -/
theorem even_exact (w c : Nat) (hc : 0 < c) : evenN (w * c / c) (w * c % c) c = w := by
  rw [Nat.mul_div_cancel _ hc, Nat.mul_mod_left]
  unfold evenN
  rw [if_neg (by omega)]

theorem mulDivS_exact (a b c : Int) (w : Nat) (hc : c ≠ 0) (hw : w ≤ 1000000000000000) (h : a.natAbs * b.natAbs = w * c.natAbs) : mulDivS a b c = (sgn (negB a b c) w, 0) := by
  have e := even_exact w c.natAbs (by omega)
  rw [← h] at e
  rw [mulDivS_ok a b c (by rw [e]; exact hw), e]

theorem tmod_even (E : Nat) (h : E % 2 = 0) : (E : Int).tmod 2 = 0 ∧ (-(E : Int)).tmod 2 = 0 :=
  ⟨Int.tmod_eq_zero_of_dvd (by omega), Int.tmod_eq_zero_of_dvd (by omega)⟩

/-- The error of a rounded product or quotient, where it is valid: 'c' is positive. -/
theorem mulDivS_near (a b : Int) (c : Nat) (hc : 0 < c) (hw : a.natAbs * b.natAbs / c < 1000000000000000) :
    (mulDivS a b c).2 = 0 ∧ 2 * (a * b - (mulDivS a b c).1 * c) ≤ c ∧ -(c : Int) ≤ 2 * (a * b - (mulDivS a b c).1 * c) ∧
      (2 * (a * b - (mulDivS a b c).1 * c) = c ∨ 2 * (a * b - (mulDivS a b c).1 * c) = -(c : Int) → (mulDivS a b c).1.tmod 2 = 0) ∧ (mulDivS a b c).1.natAbs ≤ a.natAbs * b.natAbs / c + 1 := by
  have hle := evenN_le (a.natAbs * b.natAbs / c) (a.natAbs * b.natAbs % c) c
  have hdm := Nat.div_add_mod (a.natAbs * b.natAbs) c
  have hml := Nat.mod_lt (a.natAbs * b.natAbs) hc
  have hn := even_near (a.natAbs * b.natAbs / c) (a.natAbs * b.natAbs % c) c hml
  rw [show a.natAbs * b.natAbs / c * c + a.natAbs * b.natAbs % c = a.natAbs * b.natAbs by rw [Nat.mul_comm]; exact hdm] at hn
  have ho := mulDivS_ok a b c (by rw [Int.natAbs_natCast]; omega)
  rw [Int.natAbs_natCast] at ho
  rw [ho, sgn_mul a b c (by omega)]
  generalize a.natAbs * b.natAbs / c = w at *
  generalize evenN w (a.natAbs * b.natAbs % c) c = E at *
  generalize a.natAbs * b.natAbs = m at *
  rw [← sgn_scale]
  simp only []
  rw [sgn_abs]
  refine ⟨trivial, ?_⟩
  cases negB a b c
  · show 2 * ((m : Int) - ((E * c : Nat) : Int)) ≤ c ∧ -(c : Int) ≤ 2 * ((m : Int) - ((E * c : Nat) : Int)) ∧ (2 * ((m : Int) - ((E * c : Nat) : Int)) = c ∨ 2 * ((m : Int) - ((E * c : Nat) : Int)) = -(c : Int) → (E : Int).tmod 2 = 0) ∧ _
    generalize E * c = P at *
    refine ⟨by omega, by omega, fun h => ?_, hle⟩
    exact (tmod_even E (hn.2.2 (by omega))).1
  · show 2 * (-(m : Int) - -((E * c : Nat) : Int)) ≤ c ∧ -(c : Int) ≤ 2 * (-(m : Int) - -((E * c : Nat) : Int)) ∧ (2 * (-(m : Int) - -((E * c : Nat) : Int)) = c ∨ 2 * (-(m : Int) - -((E * c : Nat) : Int)) = -(c : Int) → (-(E : Int)).tmod 2 = 0) ∧ _
    generalize E * c = P at *
    refine ⟨by omega, by omega, fun h => ?_, hle⟩
    exact (tmod_even E (hn.2.2 (by omega))).2

/-- The error of a rounded product or quotient, where it is valid: 'c' is positive. -/
theorem mulDivS_near2 (a b : Int) (c : Nat) (hc : 0 < c) (hE : evenN (a.natAbs * b.natAbs / c) (a.natAbs * b.natAbs % c) c ≤ 1000000000000000) :
    (mulDivS a b c).2 = 0 ∧ 2 * (a * b - (mulDivS a b c).1 * c) ≤ c ∧ -(c : Int) ≤ 2 * (a * b - (mulDivS a b c).1 * c) ∧
      (2 * (a * b - (mulDivS a b c).1 * c) = c ∨ 2 * (a * b - (mulDivS a b c).1 * c) = -(c : Int) → (mulDivS a b c).1.tmod 2 = 0) := by
  have hdm := Nat.div_add_mod (a.natAbs * b.natAbs) c
  have hml := Nat.mod_lt (a.natAbs * b.natAbs) hc
  have hn := even_near (a.natAbs * b.natAbs / c) (a.natAbs * b.natAbs % c) c hml
  rw [show a.natAbs * b.natAbs / c * c + a.natAbs * b.natAbs % c = a.natAbs * b.natAbs by rw [Nat.mul_comm]; exact hdm] at hn
  have ho := mulDivS_ok a b c (by rw [Int.natAbs_natCast]; exact hE)
  rw [Int.natAbs_natCast] at ho
  rw [ho, sgn_mul a b c (by omega)]
  generalize a.natAbs * b.natAbs / c = w at *
  generalize evenN w (a.natAbs * b.natAbs % c) c = E at *
  generalize a.natAbs * b.natAbs = m at *
  rw [← sgn_scale]
  simp only []
  refine ⟨trivial, ?_⟩
  cases negB a b c
  · show 2 * ((m : Int) - ((E * c : Nat) : Int)) ≤ c ∧ -(c : Int) ≤ 2 * ((m : Int) - ((E * c : Nat) : Int)) ∧ (2 * ((m : Int) - ((E * c : Nat) : Int)) = c ∨ 2 * ((m : Int) - ((E * c : Nat) : Int)) = -(c : Int) → (E : Int).tmod 2 = 0)
    generalize E * c = P at *
    refine ⟨by omega, by omega, fun h => ?_⟩
    exact (tmod_even E (hn.2.2 (by omega))).1
  · show 2 * (-(m : Int) - -((E * c : Nat) : Int)) ≤ c ∧ -(c : Int) ≤ 2 * (-(m : Int) - -((E * c : Nat) : Int)) ∧ (2 * (-(m : Int) - -((E * c : Nat) : Int)) = c ∨ 2 * (-(m : Int) - -((E * c : Nat) : Int)) = -(c : Int) → (-(E : Int)).tmod 2 = 0)
    generalize E * c = P at *
    refine ⟨by omega, by omega, fun h => ?_⟩
    exact (tmod_even E (hn.2.2 (by omega))).2

theorem mulDivS_two (a b c : Int) : (mulDivS a b c).2 = 0 ∨ mulDivS a b c = (0, 2) := by
  by_cases h : evenN (a.natAbs * b.natAbs / c.natAbs) (a.natAbs * b.natAbs % c.natAbs) c.natAbs ≤ 1000000000000000
  · left; rw [mulDivS_ok a b c h]
  · right; exact mulDivS_bad a b c (by omega)

theorem negB_negc (a b c : Int) (hc : c ≠ 0) : negB a b (-c) = !negB a b c := by
  have : decide (-c < 0) = !decide (c < 0) := by
    by_cases h : c < 0
    · rw [decide_eq_true h, decide_eq_false (by omega)]; rfl
    · rw [decide_eq_false h, decide_eq_true (by omega)]; rfl
  unfold negB
  rw [this]
  cases decide (a < 0) <;> cases decide (b < 0) <;> cases decide (c < 0) <;> rfl

/-- A division without a rest. -/
theorem mulDivS_is (a b c w : Int) (hc : c ≠ 0) (hw : w.natAbs ≤ 1000000000000000) (h : a * b = w * c) : mulDivS a b c = (w, 0) := by
  have hn : a.natAbs * b.natAbs = w.natAbs * c.natAbs := by rw [← Int.natAbs_mul, h, Int.natAbs_mul]
  rw [mulDivS_exact a b c w.natAbs hc hw hn]
  congr 1
  by_cases hp : 0 < c
  · have h1 := sgn_mul a b c hp
    rw [hn, sgn_scale, h, show (c.natAbs : Int) = c by omega] at h1
    exact (Int.eq_of_mul_eq_mul_right hc h1).symm
  · have h1 := sgn_mul a b (-c) (by omega)
    rw [hn, sgn_scale, h, show (c.natAbs : Int) = -c by omega, negB_negc a b c hc, sgn_not, Int.neg_mul_neg] at h1
    exact (Int.eq_of_mul_eq_mul_right hc h1).symm

theorem mulDivS_negc (a b c : Int) (hc : c ≠ 0) : (mulDivS a b (-c)).2 = (mulDivS a b c).2 ∧ (mulDivS a b (-c)).1 = -(mulDivS a b c).1 := by
  unfold mulDivS
  rw [Int.natAbs_neg, negB_negc a b c hc, sgn_not]
  split
  · exact ⟨rfl, rfl⟩
  · exact chk_neg _

/-- The quotient of x by y. -/
theorem quot_math (x y : Int) (hy0 : y ≠ 0) (hy : y.natAbs ≤ 1000000000000000) :
    (∃ q1, mulDivS x 1000000 y = (q1, 0) ∧ 2 * (x * 1000000 - q1 * y) ≤ y.natAbs ∧ -(y.natAbs : Int) ≤ 2 * (x * 1000000 - q1 * y) ∧ (2 * (x * 1000000 - q1 * y) = y.natAbs ∨ 2 * (x * 1000000 - q1 * y) = -(y.natAbs : Int) → q1.tmod 2 = 0)) ∨
      (mulDivS x 1000000 y = (0, 2) ∧ 1000000000 ≤ x.natAbs / y.natAbs) := by
  by_cases hE : evenN (x.natAbs * (1000000 : Int).natAbs / y.natAbs) (x.natAbs * (1000000 : Int).natAbs % y.natAbs) y.natAbs ≤ 1000000000000000
  · left
    have hN := mulDivS_near2 x 1000000 y.natAbs (by omega) hE
    by_cases hp : 0 < y
    · rw [show (y.natAbs : Int) = y by omega] at hN ⊢
      exact ⟨_, Prod.ext rfl hN.1, hN.2.1, hN.2.2.1, hN.2.2.2⟩
    · have hg := mulDivS_negc x 1000000 y hy0
      rw [show (y.natAbs : Int) = -y by omega] at hN ⊢
      rw [hg.1, hg.2, Int.neg_mul_neg] at hN
      refine ⟨_, Prod.ext rfl hN.1, hN.2.1, hN.2.2.1, fun h => ?_⟩
      have h3 := hN.2.2.2 h
      rw [Int.neg_tmod] at h3
      exact Int.neg_eq_zero.1 h3
  · right
    refine ⟨mulDivS_bad x 1000000 y (by omega), ?_⟩
    have hle := evenN_le (x.natAbs * (1000000 : Int).natAbs / y.natAbs) (x.natAbs * (1000000 : Int).natAbs % y.natAbs) y.natAbs
    have hw : 1000000000000000 ≤ x.natAbs * 1000000 / y.natAbs := by
      have e : (1000000 : Int).natAbs = 1000000 := rfl
      rw [e] at hle hE
      omega
    rw [Nat.le_div_iff_mul_le (by omega)] at hw ⊢
    omega

end Go.Proofs.YtocnkjnlmciojaaGreatDoor.De
