/-
  The mathematics of sums: the order of a list does not count, nor a zero; a list's sum is the sum of its parts' sums.
-/
import Derived.Test.YtnhffkgbnlnliaaDoorDecSpec
namespace Go.Proofs.YtnhffkgbnlnliaaDoor.De

theorem foldl_add (l : List Int) : ∀ a : Int, l.foldl (· + ·) a = a + l.foldl (· + ·) 0 := by
  induction l with
  | nil => intro a; simp
  | cons x r ih =>
    intro a
    rw [List.foldl_cons, List.foldl_cons, ih (a + x), ih (0 + x)]
    omega

theorem sumOf_append (a b : List Int) : sumOf (a ++ b) = sumOf a + sumOf b := by
  unfold sumOf
  rw [List.foldl_append, foldl_add]

theorem sumOf_cons (x : Int) (r : List Int) : sumOf (x :: r) = x + sumOf r := by
  have := sumOf_append [x] r
  rw [show sumOf [x] = x by unfold sumOf; simp] at this
  exact this

theorem sumOf_reverse (l : List Int) : sumOf l.reverse = sumOf l := by
  induction l with
  | nil => rfl
  | cons x r ih =>
    have e : sumOf [x] = x := by unfold sumOf; simp
    rw [List.reverse_cons, sumOf_append, ih, sumOf_cons x r, e]
    omega

theorem sumS_reverse (l : List Int) : sumS l.reverse = sumS l := by
  unfold sumS
  rw [sumOf_reverse, List.all_reverse]

theorem sumS_zero (l : List Int) : sumS (l ++ [0]) = sumS l := by
  unfold sumS
  rw [sumOf_append, show sumOf [0] = 0 from rfl, Int.add_zero, List.all_append, show [(0 : Int)].all smallB = true from rfl, Bool.and_true]

theorem sumS_bad (l : List Int) (h : (sumS l).2 ≠ 0) : sumS l = (0, 2) := by
  unfold sumS at h ⊢
  split at h
  · exact absurd rfl h
  · rw [if_neg (by assumption)]

theorem sumS_good {l : List Int} (h : (sumS l).2 = 0) : l.all smallB = true ∧ smallB (sumOf l) = true ∧ (sumS l).1 = sumOf l := by
  unfold sumS at h ⊢
  split at h
  · rename_i h2
    rw [Bool.and_eq_true] at h2
    refine ⟨h2.1, h2.2, ?_⟩
    rw [if_pos (by rw [h2.1, h2.2]; rfl)]
  · exact absurd h (by decide)

theorem sumS_parts (a b : List Int) (ha : (sumS a).2 = 0) (hb : (sumS b).2 = 0) : sumS [(sumS a).1, (sumS b).1] = sumS (a ++ b) := by
  obtain ⟨a1, a2, a3⟩ := sumS_good ha
  obtain ⟨b1, b2, b3⟩ := sumS_good hb
  rw [a3, b3]
  have e1 : ([sumOf a, sumOf b].all smallB) = true := by simp [a2, b2]
  have e2 : sumOf [sumOf a, sumOf b] = sumOf (a ++ b) := by rw [sumOf_append, sumOf_cons, sumOf_cons]; unfold sumOf; simp
  have e3 : ((a ++ b).all smallB) = true := by rw [List.all_append, a1, b1]; rfl
  unfold sumS
  rw [e1, e2, e3]

theorem small_range {n : Int} (h : smallB n = true) : -4000000000000000000 ≤ n ∧ n ≤ 4000000000000000000 := of_decide_eq_true h

theorem sumS_range (l : List Int) : -4000000000000000000 ≤ (sumS l).1 ∧ (sumS l).1 ≤ 4000000000000000000 := by
  unfold sumS
  split
  · rename_i h
    rw [Bool.and_eq_true] at h
    exact small_range h.2
  · exact ⟨by decide, by decide⟩

end Go.Proofs.YtnhffkgbnlnliaaDoor.De
