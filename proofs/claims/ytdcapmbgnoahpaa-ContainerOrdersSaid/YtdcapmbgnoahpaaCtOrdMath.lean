/-
  The order of identities is total.
-/
import Derived.Test.YtdcapmbgnoahpaaCtRaw
namespace Go.Proofs.Ytdcapmbgnoahpaa

theorem cmpN_lex : ∀ (a b : List Int), (cmpN a b = -1 ∨ cmpN a b = 0 ∨ cmpN a b = 1) ∧ cmpN b a = -cmpN a b
  | [], [] => by simp [cmpN]
  | [], _ :: _ => by simp [cmpN]
  | _ :: _, [] => by simp [cmpN]
  | x :: xs, y :: ys => by
    obtain ⟨h1, h2⟩ := cmpN_lex xs ys
    simp only [cmpN]
    by_cases c1 : x < y
    · rw [if_pos c1, if_neg (by omega), if_pos c1]; simp
    · by_cases c2 : y < x
      · rw [if_neg c1, if_pos c2, if_pos c2]; simp
      · rw [if_neg c1, if_neg c2, if_neg c2, if_neg c1]; exact ⟨h1, h2⟩
theorem cmpN_trans : ∀ (a b c : List Int), cmpN a b ≤ 0 → cmpN b c ≤ 0 → cmpN a c ≤ 0 ∧ (cmpN a b < 0 → cmpN a c < 0)
  | [], [], [] => by simp [cmpN]
  | [], [], _ :: _ => by simp [cmpN]
  | [], _ :: _, [] => by simp [cmpN]
  | [], _ :: _, _ :: _ => by simp [cmpN]
  | _ :: _, [], _ => by simp [cmpN]
  | _ :: _, _ :: _, [] => by simp [cmpN]
  | x :: xs, y :: ys, z :: zs => by
    have ih := cmpN_trans xs ys zs
    simp only [cmpN]
    by_cases c1 : x < y
    · by_cases c2 : y < z
      · rw [if_pos c1, if_pos c2, if_pos (by omega)]; intros; constructor <;> intros <;> decide
      · by_cases c3 : z < y
        · rw [if_neg c2, if_pos c3]; intro _ h; exact absurd h (by decide)
        · obtain rfl : y = z := by omega
          simp only [c1, if_true]; intros; constructor <;> intros <;> decide
    · by_cases c2 : y < x
      · rw [if_neg c1, if_pos c2]; intro h; exact absurd h (by decide)
      · obtain rfl : x = y := by omega
        by_cases c3 : x < z
        · simp only [c3, if_true]; intros; constructor <;> intros <;> decide
        · by_cases c4 : z < x
          · rw [if_neg c3, if_pos c4]; intro _ h; exact absurd h (by decide)
          · obtain rfl : x = z := by omega
            simp only [Int.lt_irrefl, if_false]
            exact ih

variable {k k' k2 : Int} {i i' i2 : List Int}
theorem cmpF_lex : (cmpF k i k' i' = -1 ∨ cmpF k i k' i' = 0 ∨ cmpF k i k' i' = 1) ∧ cmpF k' i' k i = -cmpF k i k' i' := by
  rw [← cmpF_cons, ← cmpF_cons]; exact cmpN_lex _ _
theorem cmpF_trans (h1 : cmpF k i k' i' ≤ 0) (h2 : cmpF k' i' k2 i2 ≤ 0) : cmpF k i k2 i2 ≤ 0 ∧ (cmpF k i k' i' < 0 → cmpF k i k2 i2 < 0) := by
  rw [← cmpF_cons] at h1 h2 ⊢
  rw [← cmpF_cons]
  exact cmpN_trans _ _ _ h1 h2
theorem cmpF_self : cmpF k i k i = 0 := cmpF_zero.2 ⟨rfl, rfl⟩

end Go.Proofs.Ytdcapmbgnoahpaa
