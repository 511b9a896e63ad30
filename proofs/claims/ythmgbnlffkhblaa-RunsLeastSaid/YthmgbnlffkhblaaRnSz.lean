/-
  Sizes that can be reckoned; the values of the fixed examples.
-/
import Derived.Test.YthmgbnlffkhblaaRnDec
namespace Go.Proofs.Ythmgbnlffkhblaa
open Go.RowKit

def vL : Nat → Nat → Nat
  | 0, _ => 1
  | f + 1, u => if u < 128 then 1 else 1 + vL f (u / 128)
theorem vlen_eq : ∀ (f u : Nat), u < 128 ^ (f + 1) → (varN u).length = vL f u
  | 0, u, h => by rw [varN_lo (by omega)]; rfl
  | f + 1, u, h => by
    unfold vL
    by_cases h0 : u < 128
    · rw [if_pos h0, varN_lo h0]; rfl
    · rw [if_neg h0, varN_hi h0, List.length_cons, vlen_eq f (u / 128) (by rw [Nat.div_lt_iff_lt_mul (by decide)]; rw [Nat.pow_succ] at h; exact h)]
      omega
theorem vlen9 {u : Nat} (h : u < 18446744073709551616) : (varN u).length = vL 9 u := vlen_eq 9 u (Nat.lt_trans h (by decide))

/-- The size of a packed form, reckoned. -/
def sizeC (zs : List Int) : Nat := if zs = [] then 1 else vL 9 zs.length + vL 9 (zz (minS zs)).toNat + 1 + spaceS zs
theorem size_C {zs : List Int} (hz : Smalls zs) (hl : zs.length ≤ 140737488351232) : sizeS zs = sizeC zs := by
  unfold sizeS sizeC headS
  by_cases h : zs = []
  · rw [if_pos h, if_pos h, vlen9 (by decide)]
    subst h
    rfl
  · have h2 := zz_u64 (hz _ (min_mem zs h))
    rw [if_neg h, if_neg h, List.length_append, List.length_append, List.length_singleton, vlen9 (by omega), vlen9 (by have := h2.1; have := h2.2; omega)]
def szC (k : Nat) (zs : List Int) : Nat := ((partsS k zs).map sizeC).sum
theorem sz_C {zs : List Int} (hz : Smalls zs) (hl : zs.length ≤ 1099511627776) (k : Nat) : szS k zs = szC k zs := by
  unfold szS szC sumS
  congr 1
  exact List.map_congr_left fun ps hps => by
    have := parts_fair hz hl k ps hps
    exact size_C this.1 (by omega)
def kindC (zs : List Int) : Nat := kd (szC 0 zs) (szC 1 zs) (szC 2 zs) (szC 3 zs)
theorem kind_C {zs : List Int} (hz : Smalls zs) (hl : zs.length ≤ 1099511627776) : kindS zs = kindC zs := by
  unfold kindS kindC
  rw [sz_C hz hl, sz_C hz hl, sz_C hz hl, sz_C hz hl]

/-- The numbers from 1 on. -/
def stepsL (k : Nat) : List Int := (List.range k).map fun i : Nat => (i : Int) + 1
theorem steps_length (k : Nat) : (stepsL k).length = k := by simp [stepsL]
theorem steps_succ (k : Nat) : stepsL (k + 1) = stepsL k ++ [(k : Int) + 1] := by simp [stepsL, List.range_succ]

theorem smalls_of4 (zs : List Int) (h : (zs.all fun z => decide (-9223372036854775808 ≤ z) && decide (z ≤ 9223372036854775807)) = true) : Smalls zs := fun z hz => by
  have := List.all_eq_true.1 h z hz
  rw [Bool.and_eq_true] at this
  exact ⟨of_decide_eq_true this.1, of_decide_eq_true this.2⟩
theorem oct_of4 (zs : List Int) (h : (zs.all fun z => decide (0 ≤ z) && decide (z < 256)) = true) : Oct zs := fun z hz => by
  have := List.all_eq_true.1 h z hz
  rw [Bool.and_eq_true] at this
  exact ⟨of_decide_eq_true this.1, of_decide_eq_true this.2⟩

theorem xK100 : kindS (stepsL 100) = 2 := by
  rw [kind_C (smalls_of4 _ (by decide +kernel)) (by rw [steps_length]; decide)]
  decide +kernel
theorem xEn0 : enS [] = [0, 0] := by
  have h : kindS [] = 0 := by rw [kind_C (smalls_of4 _ (by decide)) (by decide)]; decide +kernel
  have hp : packS [] = [0] := exP2
  unfold enS
  rw [h]
  show (0 : Int) :: ([packS []].flatMap id) = _
  rw [hp]; rfl
theorem xV : vals [7, 7, 7, 2] = [7, 2] := by decide +kernel
theorem xN : lens [7, 7, 7, 2] = [3, 1] := by decide +kernel
theorem xX1 : xpS [7, 2] [3, 1] = ([7, 7, 7, 2], 0) := by decide +kernel
theorem xX2 : xpS [1, 1] [1, 1] = ([], 1) := by decide +kernel
theorem xD : dfS [7, 7, 7, 2] = [7, 0, 0, -5] := by decide +kernel
theorem xS : smS [7, 0, 0, -5] = [7, 7, 7, 2] := by decide +kernel
theorem xDe0 : (deS []).2.2 = 7 := rfl
theorem xDe4 : (deS [4]).2.2 = 5 := by
  unfold deS
  rw [if_neg (by decide), if_pos (by decide)]

end Go.Proofs.Ythmgbnlffkhblaa
