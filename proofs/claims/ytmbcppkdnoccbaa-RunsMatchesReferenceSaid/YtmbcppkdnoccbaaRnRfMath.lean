/-
  The runs of a list with one more element.
-/
import Derived.Test.YtmbcppkdnoccbaaRnMath
namespace Go.Proofs.Ytmbcppkdnoccbaa
open Go.RowKit

theorem rl_sing (x : Int) : rl [x] = [(x, 1)] := rfl
theorem rl_step (y : Int) (r : List Int) {z : Int} {n : Nat} {s : List (Int × Nat)} (h : rl r = (z, n) :: s) : rl (y :: r) = if y = z then (y, n + 1) :: s else (y, 1) :: (z, n) :: s := by
  rw [rl, h]
  by_cases e : y = z
  · subst e; rfl
  · simp [e]

theorem rl_diff : ∀ (l : List Int) (x : Int), l.getLast? ≠ some x → rl (l ++ [x]) = rl l ++ [(x, 1)]
  | [], x, _ => rfl
  | [y], x, h => by
    have hyx : y ≠ x := fun e => h (by rw [e]; rfl)
    show rl [y, x] = rl [y] ++ [(x, 1)]
    rw [rl_step y [x] (rl_sing x), if_neg hyx]; rfl
  | y :: a :: r, x, h => by
    have ih := rl_diff (a :: r) x (by rw [List.getLast?_cons_cons] at h; exact h)
    obtain ⟨p, s, hp⟩ : ∃ p s, rl (a :: r) = p :: s := by
      cases e : rl (a :: r) with
      | nil => exact absurd e rl_ne
      | cons p s => exact ⟨p, s, rfl⟩
    obtain ⟨z, n⟩ := p
    have ih' : rl (a :: r ++ [x]) = (z, n) :: (s ++ [(x, 1)]) := by rw [ih, hp]; rfl
    show rl (y :: (a :: r ++ [x])) = _
    rw [rl_step y _ ih', rl_step y _ hp]
    split <;> rfl

theorem rl_same : ∀ (l : List Int) (x : Int), l.getLast? = some x → ∃ qs n, rl l = qs ++ [(x, n)] ∧ rl (l ++ [x]) = qs ++ [(x, n + 1)]
  | [], x, h => by cases h
  | [y], x, h => by
    obtain rfl : y = x := by simpa using h
    refine ⟨[], 1, rfl, ?_⟩
    show rl [y, y] = _
    rw [rl_step y [y] (rl_sing y), if_pos rfl]; rfl
  | y :: a :: r, x, h => by
    obtain ⟨qs, n, h1, h2⟩ := rl_same (a :: r) x (by rw [List.getLast?_cons_cons] at h; exact h)
    cases qs with
    | nil =>
      rw [List.nil_append] at h1 h2
      by_cases e : y = x
      · subst e
        exact ⟨[], n + 1, by rw [rl_step y _ h1, if_pos rfl]; rfl, by show rl (y :: (a :: r ++ [y])) = _; rw [rl_step y _ h2, if_pos rfl]; rfl⟩
      · exact ⟨[(y, 1)], n, by rw [rl_step y _ h1, if_neg e]; rfl, by show rl (y :: (a :: r ++ [x])) = _; rw [rl_step y _ h2, if_neg e]; rfl⟩
    | cons p qs =>
      obtain ⟨z, m⟩ := p
      have h1 : rl (a :: r) = (z, m) :: (qs ++ [(x, n)]) := h1
      have h2 : rl (a :: r ++ [x]) = (z, m) :: (qs ++ [(x, n + 1)]) := h2
      by_cases e : y = z
      · subst e
        exact ⟨(y, m + 1) :: qs, n, by rw [rl_step y _ h1, if_pos rfl]; rfl, by show rl (y :: (a :: r ++ [x])) = _; rw [rl_step y _ h2, if_pos rfl]; rfl⟩
      · exact ⟨(y, 1) :: (z, m) :: qs, n, by rw [rl_step y _ h1, if_neg e]; rfl, by show rl (y :: (a :: r ++ [x])) = _; rw [rl_step y _ h2, if_neg e]; rfl⟩

/-- One more element that is as the one before. -/
theorem runs_same (zs : List Int) (k : Nat) (hk : 0 < k) (hl : k < zs.length) (h : zs[k]?.getD 0 = zs[k - 1]?.getD 0) :
    vals (zs.take (k + 1)) = vals (zs.take k) ∧ ∃ m : Nat, (rl (zs.take k)).length = m + 1 ∧ (rl (zs.take (k + 1))).length = m + 1 ∧ 1 ≤ (lens (zs.take k))[m]?.getD 0 ∧
      lens (zs.take (k + 1)) = (lens (zs.take k)).set m ((lens (zs.take k))[m]?.getD 0 + 1) := by
  have hs : zs.take (k + 1) = zs.take k ++ [zs[k]?.getD 0] := take_getD_snoc zs k hl
  have hlast : (zs.take k).getLast? = some (zs[k]?.getD 0) := by
    rw [List.getLast?_eq_getElem?, List.length_take, Nat.min_eq_left (by omega), List.getElem?_take_of_lt (by omega), h, List.getElem?_eq_getElem (show k - 1 < zs.length by omega)]; rfl
  obtain ⟨qs, n, h1, h2⟩ := rl_same _ _ hlast
  rw [hs]
  have hok := ok_rl (zs.take k)
  unfold vals lens
  rw [h1] at hok ⊢
  rw [h2]
  refine ⟨by simp, qs.length, by simp, by simp, ?_, ?_⟩
  · have : ∀ (l : List (Int × Nat)) (x : Int) (n : Nat), okR (l ++ [(x, n)]) → 1 ≤ n := by
      intro l
      induction l with
      | nil => intro x n h; exact h
      | cons p l ih =>
        intro x n h
        cases l with
        | nil => exact h.2.2
        | cons q l => exact ih x n h.2.2
    have := this _ _ _ hok
    simp; omega
  · simp
theorem runs_diff (zs : List Int) (k : Nat) (hl : k < zs.length) (h : k = 0 ∨ zs[k]?.getD 0 ≠ zs[k - 1]?.getD 0) :
    vals (zs.take (k + 1)) = vals (zs.take k) ++ [zs[k]?.getD 0] ∧ lens (zs.take (k + 1)) = lens (zs.take k) ++ [1] ∧ (rl (zs.take (k + 1))).length = (rl (zs.take k)).length + 1 := by
  have hs : zs.take (k + 1) = zs.take k ++ [zs[k]?.getD 0] := take_getD_snoc zs k hl
  have hlast : (zs.take k).getLast? ≠ some (zs[k]?.getD 0) := by
    rcases Nat.eq_zero_or_pos k with h0 | h0
    · rw [h0]; intro e; cases e
    · rw [List.getLast?_eq_getElem?, List.length_take, Nat.min_eq_left (by omega), List.getElem?_take_of_lt (by omega), List.getElem?_eq_getElem (show k - 1 < zs.length by omega)]
      intro e
      rcases h with h | h
      · omega
      · have e := Option.some.inj e
        rw [← e, List.getElem?_eq_getElem (show k - 1 < zs.length by omega)] at h
        exact h rfl
  have := rl_diff _ _ hlast
  rw [hs]
  unfold vals lens
  rw [this]
  exact ⟨by simp, by simp, by simp⟩
theorem rl_le (zs : List Int) : (rl zs).length ≤ zs.length := by
  induction zs with
  | nil => simp [rl]
  | cons x r ih =>
    rw [rl]
    split
    · simp
    · rename_i y n s h
      rw [h] at ih
      split
      · simp at ih ⊢; omega
      · simp at ih ⊢; omega

end Go.Proofs.Ytmbcppkdnoccbaa
