/-
  What the functions of package decimal answer, as plain functions on integers, and the mathematics of rounding. Nothing of the program.
-/
namespace Go.Proofs.YtocnkjnlmciojaaGreatDoor.De

def validB (n : Int) : Bool := decide (-1000000000000000 ≤ n ∧ n ≤ 1000000000000000)
def withinB (n m : Int) : Bool := decide (-m ≤ n ∧ n ≤ m)
def scaleB (s : Int) : Bool := decide (0 ≤ s ∧ s ≤ 6)

theorem validB_true {n : Int} (h : validB n = true) : -1000000000000000 ≤ n ∧ n ≤ 1000000000000000 := of_decide_eq_true h
theorem validB_false {n : Int} (h : validB n = false) : n < -1000000000000000 ∨ 1000000000000000 < n := by
  have := of_decide_eq_false h; omega
theorem validB_mk {n : Int} (h0 : -1000000000000000 ≤ n) (h1 : n ≤ 1000000000000000) : validB n = true := decide_eq_true ⟨h0, h1⟩
theorem validB_no {n : Int} (h : n < -1000000000000000 ∨ 1000000000000000 < n) : validB n = false := decide_eq_false (by omega)
theorem scaleB_true {n : Int} (h : scaleB n = true) : 0 ≤ n ∧ n ≤ 6 := of_decide_eq_true h
theorem scaleB_false {n : Int} (h : scaleB n = false) : n < 0 ∨ 6 < n := by have := of_decide_eq_false h; omega

/-- A number, with the error ErrBig in its place if it is not valid. -/
def chk (n : Int) : Int × Int := if validB n then (n, 0) else (0, 2)
def addS (a b : Int) : Int × Int := if validB a && validB b then chk (a + b) else (0, 2)
def subS (a b : Int) : Int × Int := if validB a && validB b then chk (a - b) else (0, 2)

/-- Half to even. -/
def evenN (whole rest by_ : Nat) : Nat := if by_ - rest < rest ∨ rest = by_ - rest ∧ whole % 2 = 1 then whole + 1 else whole
def negB (a b c : Int) : Bool := (decide (a < 0) != decide (b < 0)) != decide (c < 0)
def sgn (neg : Bool) (n : Nat) : Int := if neg then -(n : Int) else n
def mulDivS (a b c : Int) : Int × Int :=
  if 1000000000000000 < a.natAbs * b.natAbs / c.natAbs then (0, 2)
  else chk (sgn (negB a b c) (evenN (a.natAbs * b.natAbs / c.natAbs) (a.natAbs * b.natAbs % c.natAbs) c.natAbs))
def mulS (a b : Int) : Int × Int := if validB a && validB b then mulDivS a b 1000000 else (0, 2)
def divS (a b : Int) : Int × Int := if validB a && validB b then (if b = 0 then (0, 3) else mulDivS a 1000000 b) else (0, 2)

/-- A unit of the last place of a scale. -/
def unitN (s : Nat) : Nat := 10 ^ (6 - s)
def truncS (n s : Int) : Int := if scaleB s then sgn (decide (n < 0)) (n.natAbs / unitN s.toNat) * unitN s.toNat else n
def fitsB (n s : Int) : Bool := scaleB s && decide (n.tmod (unitN s.toNat) = 0)

def sumOf (l : List Int) : Int := l.foldl (· + ·) 0
def smallB (n : Int) : Bool := decide (-4000000000000000000 ≤ n ∧ n ≤ 4000000000000000000)
def sumS (l : List Int) : Int × Int := if l.all smallB && smallB (sumOf l) then (sumOf l, 0) else (0, 2)

theorem evenN_le (w r b : Nat) : evenN w r b ≤ w + 1 := by unfold evenN; split <;> omega
theorem evenN_ge (w r b : Nat) : w ≤ evenN w r b := by unfold evenN; split <;> omega

theorem unitN_pos (s : Nat) : 0 < unitN s := Nat.pow_pos (by decide)
theorem unitN_le (s : Nat) : unitN s ≤ 1000000 := by
  have : unitN s ≤ 10 ^ 6 := Nat.pow_le_pow_right (by decide) (by omega)
  simpa using this

end Go.Proofs.YtocnkjnlmciojaaGreatDoor.De
