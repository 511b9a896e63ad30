/-
  What the reference's reading back comes to, as functions on lists.
-/
import Derived.Test.YthmgbnlffkhblaaPkRef6
import Derived.Test.YthmgbnlffkhblaaPkCanMath
namespace Go.Proofs.Ythmgbnlffkhblaa
open Go.RowKit

theorem allBits_take (bs : List Int) (s : Nat) (hs : s ≤ bs.length) : allBits 8 (bs.take s) = (allBits 8 bs).take (8 * s) := by
  have h : allBits 8 bs = allBits 8 (bs.take s) ++ allBits 8 (bs.drop s) := by
    unfold allBits
    rw [← List.flatMap_append, List.take_append_drop]
  rw [h, List.take_left' (by rw [allBits_length, List.length_take]; omega)]

theorem up_at (b : Int) (wd n : Nat) (bs : List Int) (hs : (n * wd + 7) / 8 ≤ bs.length) (i : Nat) (hi : i < n) : (upList b wd n bs)[i]?.getD 0 = wrap64 (b + bitN bs (i * wd) wd) := by
  have hle : i * wd + wd ≤ n * wd := by
    have : (i + 1) * wd ≤ n * wd := Nat.mul_le_mul hi (Nat.le_refl _)
    rw [Nat.succ_mul] at this
    exact this
  unfold upList
  rw [elB_at _ _ _ _ _ _ hi]
  unfold elV bitN upBits
  have hlen : (allBits 8 (bs.take ((n * wd + 7) / 8))).length = (n * wd + 7) / 8 * 8 := by rw [allBits_length, List.length_take]; omega
  rw [hlen, Nat.mul_comm wd i, show min wd ((n * wd + 7) / 8 * 8 - i * wd) = wd by omega, allBits_take _ _ hs, List.drop_take, List.take_take, show min wd (8 * ((n * wd + 7) / 8) - i * wd) = wd by omega]

theorem up_len (b : Int) (wd n : Nat) (bs : List Int) : (upList b wd n bs).length = n := by unfold upList; exact elB_length ..
theorem up_small (b : Int) (wd n : Nat) (bs : List Int) : Smalls (upList b wd n bs) := by
  intro x hx
  unfold upList elB at hx
  obtain ⟨e, _, rfl⟩ := List.mem_map.1 hx
  unfold elV I64 wrap64
  omega

/-- The head of what is read back: how many, the base, the width. -/
structure HdS (bs : List Int) (n : Nat) (b : Int) (wd c1 c2 : Nat) : Prop where
  rd : rdS bs = ((n : Int), c1, 0)
  pos : 1 ≤ n
  le : n ≤ 4096
  fr : frS (bs.drop c1) = ((b, (wd : Int)), c2, 0)

theorem HdS.un {bs : List Int} {n : Nat} {b : Int} {wd c1 c2 : Nat} (h : HdS bs n b wd c1 c2) :
    unS bs = if (upS b wd n ((bs.drop c1).drop c2)).2.2 ≠ 0 then ([], 0, (upS b wd n ((bs.drop c1).drop c2)).2.2) else ((upS b wd n ((bs.drop c1).drop c2)).1, c1 + (c2 + (upS b wd n ((bs.drop c1).drop c2)).2.1), 0) := by
  have h1 := h.pos
  have h2 := h.le
  unfold unS
  rw [h.rd]
  simp only []
  rw [if_neg (by simp), if_neg (by omega), if_neg (by omega), h.fr]
  simp only [Int.toNat_natCast]
  rw [if_neg (by simp)]
theorem HdS.short {bs : List Int} {n : Nat} {b : Int} {wd c1 c2 : Nat} (h : HdS bs n b wd c1 c2) (hs : ((bs.drop c1).drop c2).length < (n * wd + 7) / 8) : (unS bs).2.2 = 7 := by
  rw [h.un]
  have : upS b wd n ((bs.drop c1).drop c2) = ([], 0, 7) := by unfold upS; rw [if_pos hs]
  rw [this]; rfl
theorem HdS.wrong {bs : List Int} {n : Nat} {b : Int} {wd c1 c2 : Nat} (h : HdS bs n b wd c1 c2) (hs : (n * wd + 7) / 8 ≤ ((bs.drop c1).drop c2).length) (ho : upOk b wd n ((bs.drop c1).drop c2) = false) : (unS bs).2.2 = 5 := by
  rw [h.un]
  have : upS b wd n ((bs.drop c1).drop c2) = ([], 0, 5) := by unfold upS; rw [if_neg (by omega), ho]; rfl
  rw [this]; rfl
theorem HdS.low {bs : List Int} {n : Nat} {b : Int} {wd c1 c2 : Nat} (h : HdS bs n b wd c1 c2) (hs : (n * wd + 7) / 8 ≤ ((bs.drop c1).drop c2).length) (i : Nat) (hi : i < n) (hlo : wrap64 (b + bitN ((bs.drop c1).drop c2) (i * wd) wd) < b) : (unS bs).2.2 = 5 := by
  refine h.wrong hs ?_
  have h1 := up_at b wd n _ hs i hi
  have hil : i < (upList b wd n ((bs.drop c1).drop c2)).length := by rw [up_len]; exact hi
  rw [List.getElem?_eq_getElem hil, Option.getD_some] at h1
  have h2 := min_le _ _ (List.getElem_mem hil)
  rw [h1] at h2
  unfold upOk
  have : (minS (upList b wd n ((bs.drop c1).drop c2)) == b) = false := by rw [beq_eq_false_iff_ne]; omega
  rw [this]; simp
theorem HdS.good {bs : List Int} {n : Nat} {b : Int} {wd c1 c2 : Nat} (h : HdS bs n b wd c1 c2) (hs : (n * wd + 7) / 8 ≤ ((bs.drop c1).drop c2).length)
    (he : packS (upList b wd n ((bs.drop c1).drop c2)) = bs.take (c1 + c2 + (n * wd + 7) / 8)) : unS bs = (upList b wd n ((bs.drop c1).drop c2), c1 + c2 + (n * wd + 7) / 8, 0) := by
  have hl : (packS (upList b wd n ((bs.drop c1).drop c2))).length = c1 + c2 + (n * wd + 7) / 8 := by
    rw [he, List.length_take]
    simp only [List.length_drop] at hs
    have := h.rd
    have hp := h.pos
    by_cases hz : (n * wd + 7) / 8 = 0
    · have hf := h.fr
      unfold frS at hf
      split at hf
      · rename_i hne; simp only [Prod.mk.injEq] at hf; exact absurd hf.2.2 hne
      · split at hf
        · simp at hf
        · split at hf
          · simp at hf
          · rename_i _ h3 _
            simp only [Prod.mk.injEq] at hf
            obtain ⟨_, h4, _⟩ := hf
            simp only [List.length_drop] at h3
            omega
    · omega
  have hb : bs = packS (upList b wd n ((bs.drop c1).drop c2)) ++ bs.drop (c1 + c2 + (n * wd + 7) / 8) := by
    rw [he]; exact (List.take_append_drop _ _).symm
  have h2 := un_pack (up_small b wd n ((bs.drop c1).drop c2)) (by rw [up_len]; exact h.le) (bs.drop (c1 + c2 + (n * wd + 7) / 8))
  rw [← hb, hl] at h2
  exact h2
theorem HdS.bad {bs : List Int} (ho : Oct bs) {n : Nat} {b : Int} {wd c1 c2 : Nat} (h : HdS bs n b wd c1 c2) (hs : (n * wd + 7) / 8 ≤ ((bs.drop c1).drop c2).length)
    (he : packS (upList b wd n ((bs.drop c1).drop c2)) ≠ bs.take (c1 + c2 + (n * wd + 7) / 8)) : (unS bs).2.2 = 5 := by
  cases hk : upOk b wd n ((bs.drop c1).drop c2) with
  | false => exact h.wrong hs hk
  | true =>
    exfalso
    have hu : upS b wd n ((bs.drop c1).drop c2) = (upList b wd n ((bs.drop c1).drop c2), (n * wd + 7) / 8, 0) := by unfold upS; rw [if_neg (by omega), hk]; rfl
    have hx := h.un
    rw [hu] at hx
    simp only [ne_eq, not_true_eq_false, if_false] at hx
    obtain ⟨_, h2, h3⟩ := un_canon ho hx
    refine he ?_
    have h4 : c1 + c2 + (n * wd + 7) / 8 = c1 + (c2 + (n * wd + 7) / 8) := by omega
    rw [h4]
    conv => rhs; rw [h3]
    rw [List.take_left' h2.symm]

end Go.Proofs.Ythmgbnlffkhblaa
