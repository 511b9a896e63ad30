/-
  A proper beginning of a packed form is too short, as functions on lists.
-/
import Derived.Test.YtdcapmbgnoahpaaPkInvMath
namespace Go.Proofs.Ytdcapmbgnoahpaa
open Go.RowKit

theorem rdF_short : ∀ (k i u : Nat) (a : Int) (m : Nat), i + k = 9 → u < 2 ^ (7 * k + 1) → m < (varN u).length → (rdF i a ((varN u).take m)).2.2 = 7
  | k, i, u, a, 0, hk, _, _ => by rw [List.take_zero]; unfold rdF; rw [if_pos (by omega)]
  | 0, i, u, a, m + 1, hk, hu, hm => by
    rw [varN_lo (by omega)] at hm
    simp at hm
  | k + 1, i, u, a, m + 1, hk, hu, hm => by
    by_cases h0 : u < 128
    · rw [varN_lo h0] at hm; simp at hm
    · rw [varN_hi h0, List.length_cons] at hm
      rw [varN_hi h0, List.take_succ_cons]
      unfold rdF
      rw [if_neg (by omega), if_pos (by omega)]
      exact rdF_short k (i + 1) (u / 128) _ m (by omega) (by rw [Nat.div_lt_iff_lt_mul (by decide)]; rw [show 7 * (k + 1) + 1 = (7 * k + 1) + 7 by omega, Nat.pow_add] at hu; exact hu) (by omega)

theorem rdS_short (u : Nat) (hu : u < 18446744073709551616) (m : Nat) (hm : m < (varN u).length) : (rdS ((varN u).take m)).2.2 = 7 :=
  rdF_short 9 0 u 0 m rfl hu hm

theorem fr_short {b : Int} (hb : I64 b) (w : Int) (rest : List Int) (m : Nat) (hm : m < (varN (zz b).toNat).length + 1) : (frS ((varN (zz b).toNat ++ (w :: rest)).take m)).2.2 = 7 := by
  have hu := zz_u64 hb
  unfold U64 at hu
  by_cases h : m < (varN (zz b).toNat).length
  · have h1 := rdS_short (zz b).toNat (by omega) m h
    rw [List.take_append_of_le_length (by omega)]
    unfold frS
    rw [if_pos (by rw [h1]; decide)]
    exact h1
  · have hmm : m = (varN (zz b).toNat).length := by omega
    subst hmm
    rw [List.take_left' rfl]
    have h1 := rdS_var (zz b).toNat (by omega) []
    rw [List.append_nil] at h1
    unfold frS
    rw [h1, if_neg (by simp), if_pos (Nat.le_refl _)]

/-- A proper beginning of a packed form is too short. -/
theorem un_short {zs : List Int} (hz : Smalls zs) (hl : zs.length ≤ 4096) (m : Nat) (hm : m < (packS zs).length) : (unS ((packS zs).take m)).2.2 = 7 := by
  by_cases h0 : zs = []
  · subst h0
    have e : packS [] = [0] := exP2
    rw [e] at hm ⊢
    simp at hm
    subst hm
    rfl
  · have hne : 0 < zs.length := List.length_pos_iff.2 h0
    have hgl : (gatherS (bitsS zs) (spaceS zs)).length = spaceS zs := gB_length _ _ _
    have eh : packS zs = varN zs.length ++ (varN (zz (minS zs)).toNat ++ ((widthS zs : Int) :: gatherS (bitsS zs) (spaceS zs))) := by
      unfold packS headS
      rw [if_neg h0]
      simp
    have el : (packS zs).length = (varN zs.length).length + ((varN (zz (minS zs)).toNat).length + 1 + spaceS zs) := by
      rw [eh]
      simp [hgl]
      omega
    rw [el] at hm
    rw [eh]
    by_cases h1 : m < (varN zs.length).length
    · have h2 := rdS_short zs.length (by omega) m h1
      rw [List.take_append_of_le_length (by omega)]
      unfold unS
      rw [if_pos (by rw [h2]; decide)]
      exact h2
    · obtain ⟨q, rfl⟩ : ∃ q, m = (varN zs.length).length + q := ⟨m - (varN zs.length).length, by omega⟩
      rw [List.take_length_add_append]
      have h3 := rdS_var zs.length (by omega) ((varN (zz (minS zs)).toNat ++ ((widthS zs : Int) :: gatherS (bitsS zs) (spaceS zs))).take q)
      unfold unS
      rw [h3]
      simp only [List.drop_left']
      by_cases h4 : q < (varN (zz (minS zs)).toNat).length + 1
      · have h5 := fr_short (hz _ (min_mem zs h0)) (widthS zs) (gatherS (bitsS zs) (spaceS zs)) q h4
        rw [if_neg (by simp), if_neg (by omega), if_neg (by omega), if_pos (by rw [h5]; decide)]
        exact h5
      · obtain ⟨r, rfl⟩ : ∃ r, q = (varN (zz (minS zs)).toNat).length + 1 + r := ⟨q - ((varN (zz (minS zs)).toNat).length + 1), by omega⟩
        have e1 : (varN (zz (minS zs)).toNat ++ ((widthS zs : Int) :: gatherS (bitsS zs) (spaceS zs))).take ((varN (zz (minS zs)).toNat).length + 1 + r) = varN (zz (minS zs)).toNat ++ ((widthS zs : Int) :: (gatherS (bitsS zs) (spaceS zs)).take r) := by
          rw [Nat.add_assoc, List.take_length_add_append, Nat.add_comm 1 r, List.take_succ_cons]
        have h5 := fr_pack (hz _ (min_mem zs h0)) (widthS zs) (width_le zs) ((gatherS (bitsS zs) (spaceS zs)).take r)
        have e3 : (varN (zz (minS zs)).toNat ++ ((widthS zs : Int) :: (gatherS (bitsS zs) (spaceS zs)).take r)).drop ((varN (zz (minS zs)).toNat).length + 1) = (gatherS (bitsS zs) (spaceS zs)).take r := by
          rw [← List.drop_drop, List.drop_left]; rfl
        have hw : wideS zs = widthS zs := if_neg h0
        have h6 : upS (minS zs) (widthS zs) zs.length ((gatherS (bitsS zs) (spaceS zs)).take r) = ([], 0, 7) := by
          unfold upS
          rw [if_pos (by rw [List.length_take, hgl]; unfold spaceS at hm ⊢; rw [hw] at hm ⊢; omega)]
        rw [e1, h5]
        simp only [e3, Int.toNat_natCast, h6]
        rw [if_neg (by simp), if_neg (by omega), if_neg (by omega), if_neg (by simp), if_pos (by decide)]

end Go.Proofs.Ytdcapmbgnoahpaa
