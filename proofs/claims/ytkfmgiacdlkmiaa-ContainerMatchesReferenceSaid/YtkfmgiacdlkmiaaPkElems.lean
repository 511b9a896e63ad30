/-
  Bits into elements, as functions on lists.
-/
import Derived.Test.YtkfmgiacdlkmiaaPkBits
namespace Go.Proofs.Ytkfmgiacdlkmiaa
open Go.RowKit

/-- The e-th element when the first k bits are in. -/
def elV (b : Int) (bl : List Int) (W k e : Nat) : Int := wrap64 (b + numB ((bl.drop (W * e)).take (min W (k - W * e))))
def elB (b : Int) (bl : List Int) (W k n : Nat) : List Int := (List.range n).map (elV b bl W k)

theorem elB_length (b : Int) (bl : List Int) (W k n : Nat) : (elB b bl W k n).length = n := by simp [elB]
theorem elB_at (b : Int) (bl : List Int) (W k n e : Nat) (he : e < n) : (elB b bl W k n)[e]?.getD 0 = elV b bl W k e := by
  unfold elB; rw [List.getElem?_map, List.getElem?_range he]; rfl
theorem elB_zero (b : Int) (hb : I64 b) (bl : List Int) (W n : Nat) : elB b bl W 0 n = List.replicate n b := by
  apply List.ext_getElem?
  intro e
  by_cases he : e < n
  · unfold elB; rw [List.getElem?_map, List.getElem?_range he, List.getElem?_replicate, if_pos he]
    unfold I64 at hb
    simp [elV, numB, wrap64]
    omega
  · rw [List.getElem?_eq_none (by rw [elB_length]; omega), List.getElem?_eq_none (by rw [List.length_replicate]; omega)]

theorem wrap64_sum (a c x : Int) : IntKind.i64.wrap (wrap64 a + IntKind.i64.wrap (IntKind.u64.wrap x)) = wrap64 (a + c) ↔ wrap64 (a + x) = wrap64 (a + c) := by
  rw [IntKind.wrap_i64, IntKind.wrap_i64, IntKind.wrap_u64]
  unfold wrap64
  omega

theorem div_lt_of {k W n : Nat} (h : k < n * W) : k / W < n := Nat.div_lt_of_lt_mul (by rw [Nat.mul_comm]; exact h)

theorem elV_here (b : Int) (bl : List Int) (W k n : Nat) (hk : k < bl.length) (hn : k < n * W) :
    IntKind.i64.wrap (elV b bl W k (k / W) + IntKind.i64.wrap (IntKind.u64.wrap (bl[k]?.getD 0 * 2 ^ (k % W)))) = elV b bl W (k + 1) (k / W) := by
  have hW : 0 < W := by rcases Nat.eq_zero_or_pos W with h | h; · subst h; omega
                        · exact h
  have h1 := Nat.div_add_mod k W
  have h2 := Nat.mod_lt k hW
  generalize k / W = e at *
  generalize k % W = p at *
  have hl : ((bl.drop (W * e)).take p).length = p := by rw [List.length_take, List.length_drop]; omega
  have hx : (bl.drop (W * e))[p]'(by rw [List.length_drop]; omega) = bl[k]?.getD 0 := by
    rw [List.getElem_drop, List.getElem?_eq_getElem hk, Option.getD_some]
    congr 1
  unfold elV
  rw [show min W (k - W * e) = p by omega, show min W (k + 1 - W * e) = p + 1 by omega, List.take_succ_eq_append_getElem (by rw [List.length_drop]; omega), numB_snoc, hl, hx, ← Int.add_assoc, wrap64_sum]

theorem elB_step (b : Int) (bl : List Int) (W k n : Nat) (hn : k < n * W) : elB b bl W (k + 1) n = (elB b bl W k n).set (k / W) (elV b bl W (k + 1) (k / W)) := by
  have hW : 0 < W := by rcases Nat.eq_zero_or_pos W with h | h; · subst h; omega
                        · exact h
  apply List.ext_getElem?
  intro e
  by_cases he : e < n
  · rw [List.getElem?_set]
    by_cases hek : k / W = e
    · rw [if_pos hek, if_pos (by rw [elB_length]; exact div_lt_of hn)]
      unfold elB; rw [List.getElem?_map, List.getElem?_range he, hek]; rfl
    · rw [if_neg hek]
      unfold elB; rw [List.getElem?_map, List.getElem?_map, List.getElem?_range he]
      show some (elV _ _ _ _ _) = some (elV _ _ _ _ _)
      congr 1
      unfold elV
      have h1 := Nat.div_add_mod k W
      have h2 := Nat.mod_lt k hW
      have hor : W * e + W ≤ k ∨ k < W * e := by
        rcases Nat.lt_or_gt_of_ne hek with h | h
        · right
          have : W * (k / W + 1) ≤ W * e := Nat.mul_le_mul_left _ h
          rw [Nat.mul_succ] at this
          omega
        · left
          have : W * (e + 1) ≤ W * (k / W) := Nat.mul_le_mul_left _ h
          rw [Nat.mul_succ] at this
          omega
      rcases hor with h | h
      · rw [show min W (k + 1 - W * e) = min W (k - W * e) by omega]
      · rw [show min W (k + 1 - W * e) = min W (k - W * e) by omega]
  · rw [List.getElem?_eq_none (by rw [elB_length]; omega), List.getElem?_eq_none (by rw [List.length_set, elB_length]; omega)]

theorem elB_late (b : Int) (bl : List Int) (W k n : Nat) (hn : n * W ≤ k) : elB b bl W (k + 1) n = elB b bl W k n := by
  unfold elB
  apply List.map_congr_left
  intro e he
  have he : e < n := List.mem_range.1 he
  unfold elV
  have : W * e + W ≤ n * W := by
    have : W * (e + 1) ≤ W * n := Nat.mul_le_mul_left _ he
    rw [Nat.mul_succ, Nat.mul_comm W n] at this
    exact this
  rw [show min W (k + 1 - W * e) = min W (k - W * e) by omega]

/-- Where the next bit goes: the element, the place. -/
def elI (W n k : Nat) : Nat := if k < n * W ∨ k = 0 then k / W else n
def elP (W n k : Nat) : Nat := if k < n * W ∨ k = 0 then k % W else 0
theorem elI_zero (W n : Nat) : elI W n 0 = 0 ∧ elP W n 0 = 0 := by
  unfold elI elP; rw [if_pos (.inr rfl), if_pos (.inr rfl)]; exact ⟨Nat.zero_div _, Nat.zero_mod _⟩
theorem elI_here (W n k : Nat) (h : k < n * W) : elI W n k = k / W ∧ elP W n k = k % W := by
  unfold elI elP; rw [if_pos (.inl h), if_pos (.inl h)]; exact ⟨rfl, rfl⟩
theorem elI_late (W n k : Nat) (h : n * W ≤ k) (h0 : k ≠ 0) : elI W n k = n ∧ elP W n k = 0 := by
  unfold elI elP; rw [if_neg (by omega), if_neg (by omega)]; exact ⟨rfl, rfl⟩

theorem elI_next (W n k : Nat) (hn : k < n * W) : elI W n (k + 1) = (if k % W + 1 = W then k / W + 1 else k / W) ∧ elP W n (k + 1) = (if k % W + 1 = W then 0 else k % W + 1) := by
  have hW : 0 < W := by rcases Nat.eq_zero_or_pos W with h | h; · subst h; omega
                        · exact h
  have h1 := Nat.div_add_mod k W
  have h2 := Nat.mod_lt k hW
  have h3 := div_lt_of hn
  unfold elI elP
  by_cases h : k % W + 1 = W
  · have hk1 : k + 1 = W * (k / W + 1) := by rw [Nat.mul_succ]; omega
    rw [if_pos h, if_pos h]
    by_cases h4 : k + 1 < n * W
    · rw [if_pos (.inl h4), if_pos (.inl h4), hk1, Nat.mul_div_cancel_left _ hW, Nat.mul_mod_right]; exact ⟨rfl, rfl⟩
    · rw [if_neg (by omega), if_neg (by omega)]
      refine ⟨?_, rfl⟩
      have : n * W ≤ W * (k / W + 1) := by omega
      rw [Nat.mul_comm n W] at this
      have := Nat.le_of_mul_le_mul_left this hW
      omega
  · have hk1 : k + 1 = W * (k / W) + (k % W + 1) := by omega
    have hlt : k % W + 1 < W := by omega
    have h4 : k + 1 < n * W := by
      have : W * (k / W + 1) ≤ W * n := Nat.mul_le_mul_left _ h3
      rw [Nat.mul_succ, Nat.mul_comm W n] at this
      omega
    rw [if_neg h, if_neg h, if_pos (.inl h4), if_pos (.inl h4)]
    refine ⟨?_, ?_⟩
    · rw [hk1, Nat.mul_add_div hW, Nat.div_eq_of_lt hlt]; omega
    · rw [hk1, Nat.mul_add_mod, Nat.mod_eq_of_lt hlt]

end Go.Proofs.Ytkfmgiacdlkmiaa
