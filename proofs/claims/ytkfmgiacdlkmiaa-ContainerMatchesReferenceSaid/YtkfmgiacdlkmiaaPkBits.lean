/-
  Bits into bytes, as functions on lists.
-/
import Derived.Test.YtkfmgiacdlkmiaaPkSpec
namespace Go.Proofs.Ytkfmgiacdlkmiaa
open Go.RowKit

/-- All of a list are 0 or 1. -/
def Bin (l : List Int) : Prop := ∀ x ∈ l, x = 0 ∨ x = 1

/-- The number with these bits, the lowest first. -/
def numB : List Int → Int
  | [] => 0
  | x :: r => x + 2 * numB r

theorem numB_range : ∀ {l : List Int}, Bin l → 0 ≤ numB l ∧ numB l < 2 ^ l.length
  | [], _ => by simp [numB]
  | x :: r, h => by
    have ih := numB_range (l := r) fun y hy => h y (List.mem_cons_of_mem _ hy)
    have hx := h x (List.mem_cons_self ..)
    rw [List.length_cons, Int.pow_succ]
    simp only [numB]
    omega
theorem numB_snoc (l : List Int) (x : Int) : numB (l ++ [x]) = numB l + x * 2 ^ l.length := by
  induction l with
  | nil => simp [numB]
  | cons y r ih =>
    rw [List.cons_append, numB, ih, numB, List.length_cons, Int.pow_succ, Int.mul_add, ← Int.mul_assoc, Int.mul_comm 2 x, Int.mul_assoc x 2, Int.mul_comm 2 (2 ^ r.length)]
    omega

/-- What size bytes hold when the first k bits are in. -/
def gB (bl : List Int) (k size : Nat) : List Int := (List.range size).map fun j => numB ((bl.drop (8 * j)).take (min 8 (k - 8 * j)))
def gatherS (bl : List Int) (size : Nat) : List Int := gB bl bl.length size

theorem gB_length (bl : List Int) (k size : Nat) : (gB bl k size).length = size := by simp [gB]
theorem gB_at (bl : List Int) (k size j : Nat) (hj : j < size) : (gB bl k size)[j]? = some (numB ((bl.drop (8 * j)).take (min 8 (k - 8 * j)))) := by
  unfold gB; rw [List.getElem?_map, List.getElem?_range hj]; rfl
theorem gB_zero (bl : List Int) (size : Nat) : gB bl 0 size = List.replicate size 0 := by
  apply List.ext_getElem?
  intro j
  by_cases hj : j < size
  · rw [gB_at bl 0 size j hj, List.getElem?_replicate, if_pos hj]; simp [numB]
  · rw [List.getElem?_eq_none (by rw [gB_length]; omega), List.getElem?_eq_none (by rw [List.length_replicate]; omega)]

theorem gB_here (bl : List Int) (k size : Nat) (hk : k < bl.length) (hs : bl.length ≤ 8 * size) : (gB bl k size)[k / 8]?.getD 0 = numB ((bl.drop (8 * (k / 8))).take (k % 8)) := by
  rw [gB_at bl k size (k / 8) (by omega), Option.getD_some, show min 8 (k - 8 * (k / 8)) = k % 8 by omega]

theorem Bin.part {bl : List Int} (h : Bin bl) (a b : Nat) : Bin ((bl.drop a).take b) := fun x hx => h x (List.mem_of_mem_drop (List.mem_of_mem_take hx))

theorem gB_lt (bl : List Int) (h : Bin bl) (k size : Nat) (hk : k < bl.length) (hs : bl.length ≤ 8 * size) : 0 ≤ (gB bl k size)[k / 8]?.getD 0 ∧ (gB bl k size)[k / 8]?.getD 0 < 2 ^ (k % 8) := by
  rw [gB_here bl k size hk hs]
  have h1 := numB_range (h.part (8 * (k / 8)) (k % 8))
  rwa [show ((bl.drop (8 * (k / 8))).take (k % 8)).length = k % 8 by rw [List.length_take, List.length_drop]; omega] at h1

theorem gB_step (bl : List Int) (k size : Nat) (hk : k < bl.length) (hs : bl.length ≤ 8 * size) :
    gB bl (k + 1) size = (gB bl k size).set (k / 8) ((gB bl k size)[k / 8]?.getD 0 + bl[k]?.getD 0 * 2 ^ (k % 8)) := by
  apply List.ext_getElem?
  intro j
  by_cases hj : j < size
  · rw [gB_at bl (k + 1) size j hj, List.getElem?_set]
    by_cases hjk : k / 8 = j
    · rw [if_pos hjk, if_pos (by rw [gB_length]; omega), gB_here bl k size hk hs]
      subst hjk
      have hlen : ((bl.drop (8 * (k / 8))).take (k % 8)).length = k % 8 := by rw [List.length_take, List.length_drop]; omega
      have hx : (bl.drop (8 * (k / 8)))[k % 8]'(by rw [List.length_drop]; omega) = bl[k]?.getD 0 := by
        rw [List.getElem_drop, List.getElem?_eq_getElem hk, Option.getD_some]
        congr 1
        omega
      rw [show min 8 (k + 1 - 8 * (k / 8)) = k % 8 + 1 by omega, List.take_succ_eq_append_getElem (by rw [List.length_drop]; omega), numB_snoc, hlen, hx]
    · rw [if_neg hjk, gB_at bl k size j hj]
      congr 3
      omega
  · rw [List.getElem?_eq_none (by rw [gB_length]; omega), List.getElem?_eq_none (by rw [List.length_set, gB_length]; omega)]

theorem gather_oct (bl : List Int) (h : Bin bl) (size : Nat) : Oct (gatherS bl size) := by
  intro x hx
  unfold gatherS gB at hx
  obtain ⟨j, _, rfl⟩ := List.mem_map.1 hx
  have h1 := numB_range (h.part (8 * j) (min 8 (bl.length - 8 * j)))
  refine ⟨h1.1, Int.lt_of_lt_of_le h1.2 ?_⟩
  have : (2 : Int) ^ ((bl.drop (8 * j)).take (min 8 (bl.length - 8 * j))).length ≤ 2 ^ 8 := by
    have : (2 : Nat) ^ ((bl.drop (8 * j)).take (min 8 (bl.length - 8 * j))).length ≤ 2 ^ 8 := Nat.pow_le_pow_right (by decide) (by rw [List.length_take]; omega)
    exact_mod_cast this
  exact this

theorem or_u8 (a x : Int) (m : Nat) (hm : m < 8) (ha : 0 ≤ a ∧ a < 2 ^ m) (hx : x = 0 ∨ x = 1) : bits BinOp.or IntKind.u8 a (IntKind.u8.wrap (x * 2 ^ m)) = a + x * 2 ^ m := by
  have h : ∀ (m : Fin 8) (a : Fin 128) (x : Fin 2), (a.val : Int) < 2 ^ m.val → bits BinOp.or IntKind.u8 (a.val : Int) (IntKind.u8.wrap ((x.val : Int) * 2 ^ m.val)) = (a.val : Int) + x.val * 2 ^ m.val := by decide +kernel
  have h2 : (2 : Int) ^ m ≤ 2 ^ 7 := by
    have : (2 : Nat) ^ m ≤ 2 ^ 7 := Nat.pow_le_pow_right (by decide) (by omega)
    exact_mod_cast this
  have h3 : a < 128 := Int.lt_of_lt_of_le ha.2 h2
  have := h ⟨m, hm⟩ ⟨a.toNat, by omega⟩ ⟨x.toNat, by omega⟩
  rw [show (((⟨a.toNat, by omega⟩ : Fin 128).val : Nat) : Int) = a by simp; omega, show (((⟨x.toNat, by omega⟩ : Fin 2).val : Nat) : Int) = x by simp; omega] at this
  exact this ha.2

end Go.Proofs.Ytkfmgiacdlkmiaa
