/-
  What was packed is read back, as functions on lists.
-/
import Derived.Test.YtdcapmbgnoahpaaPkCdMath
import Derived.Test.YtdcapmbgnoahpaaPkHere
namespace Go.Proofs.Ytdcapmbgnoahpaa
open Go.RowKit

/-! ### Bits and numbers -/

theorem numB_digit : ∀ (l : List Int), Bin l → ∀ p : Nat, numB l / 2 ^ p % 2 = l[p]?.getD 0
  | [], _, p => by simp [numB]
  | x :: r, h, 0 => by
    have hx := h x (List.mem_cons_self ..)
    simp only [numB, Int.pow_zero, Int.ediv_one, List.getElem?_cons_zero, Option.getD_some]
    omega
  | x :: r, h, p + 1 => by
    have hx := h x (List.mem_cons_self ..)
    have ih := numB_digit r (fun y hy => h y (List.mem_cons_of_mem _ hy)) p
    rw [List.getElem?_cons_succ, ← ih, numB, Int.pow_succ, Int.mul_comm (2 ^ p) 2, ← Int.ediv_ediv_of_nonneg (by omega), show (x + 2 * numB r) / 2 = numB r by omega]

theorem numB_bits : ∀ (w : Nat) (d : Int), 0 ≤ d → d < 2 ^ w → numB (bitsN w d) = d
  | 0, d, h0, h1 => by
    have : d = 0 := by rw [Int.pow_zero] at h1; omega
    subst this; rfl
  | w + 1, d, h0, h1 => by
    have ih := numB_bits w (d / 2) (by omega) (by rw [Int.pow_succ] at h1; omega)
    have e : bitsN (w + 1) d = d % 2 :: bitsN w (d / 2) := by
      unfold bitsN
      rw [List.range_succ_eq_map, List.map_cons, List.map_map]
      congr 1
      · simp
      · apply List.map_congr_left
        intro p _
        show d / 2 ^ (p + 1) % 2 = d / 2 / 2 ^ p % 2
        rw [Int.pow_succ, Int.mul_comm (2 ^ p) 2, Int.ediv_ediv_of_nonneg (by omega)]
    rw [e, numB, ih]
    omega

theorem gather_bits_at (bl : List Int) (hb : Bin bl) (size : Nat) (j : Nat) (hj : j < 8 * size) : (allBits 8 (gatherS bl size))[j]?.getD 0 = bl[j]?.getD 0 := by
  have h := allBits_at 8 (gatherS bl size) (j / 8) (j % 8) (by unfold gatherS; rw [gB_length]; omega) (by omega)
  rw [show j / 8 * 8 + j % 8 = j by omega] at h
  rw [h, Option.getD_some]
  unfold gatherS
  rw [gB_at bl bl.length size (j / 8) (by omega), Option.getD_some, numB_digit _ (hb.part _ _), List.getElem?_take]
  by_cases h8 : j % 8 < min 8 (bl.length - 8 * (j / 8))
  · rw [if_pos h8, List.getElem?_drop, show 8 * (j / 8) + j % 8 = j by omega]
  · rw [if_neg h8, List.getElem?_eq_none (by omega)]

theorem lt_bitLen (x : Nat) (h : x < 2 ^ 64) : x < 2 ^ Lib.bitLen x := by
  by_cases h0 : x = 0
  · subst h0; exact Nat.two_pow_pos _
  · rw [Lib.bitLen_half x h0 h]
    have ih := lt_bitLen (x / 2) (by omega)
    rw [Nat.add_comm, Nat.pow_succ]
    omega
termination_by x
decreasing_by omega

theorem diff_lt {zs : List Int} (hz : Smalls zs) {z : Int} (h : z ∈ zs) : 0 ≤ diffS (minS zs) z ∧ diffS (minS zs) z < 2 ^ widthS zs := by
  have h0 : zs ≠ [] := fun e => by rw [e] at h; cases h
  have h1 := min_le zs z h
  have h2 := le_max zs z h
  have h3 := hz _ (min_mem zs h0)
  have h4 := hz _ (max_mem zs h0)
  have hz' := hz z h
  unfold I64 at h3 h4 hz'
  have hm := diff_u64 (minS zs) (maxS zs)
  unfold U64 at hm
  have h5 := lt_bitLen (diffS (minS zs) (maxS zs)).toNat (by omega)
  have h6 : (diffS (minS zs) (maxS zs)) < 2 ^ widthS zs := by
    unfold widthS
    generalize Lib.bitLen _ = k at *
    have : ((diffS (minS zs) (maxS zs)).toNat : Int) < ((2 ^ k : Nat) : Int) := by omega
    push_cast at this
    rwa [Int.toNat_of_nonneg hm.1] at this
  refine ⟨by unfold diffS; omega, Int.lt_of_le_of_lt ?_ h6⟩
  unfold diffS
  omega

theorem wrap_diff {b z : Int} (hz : I64 z) : wrap64 (b + diffS b z) = z := by
  unfold I64 at hz; unfold wrap64 diffS; omega

/-! ### The elements -/

/-- The packed differences are taken back, whatever follows. -/
theorem up_pack {zs : List Int} (hz : Smalls zs) (h0 : zs ≠ []) (rest : List Int) :
    upS (minS zs) (widthS zs) zs.length (gatherS (bitsS zs) (spaceS zs) ++ rest) = (zs, spaceS zs, 0) := by
  have hw : wideS zs = widthS zs := if_neg h0
  have hbase : baseS zs = minS zs := if_neg h0
  have hsp : (zs.length * widthS zs + 7) / 8 = spaceS zs := by unfold spaceS; rw [hw]
  have hgl : (gatherS (bitsS zs) (spaceS zs)).length = spaceS zs := gB_length _ _ _
  have hbl : (bitsS zs).length = zs.length * widthS zs := by rw [bitsS_length, hw]
  have hfit : (bitsS zs).length ≤ 8 * spaceS zs := by rw [hbl, ← hsp]; omega
  have hup : upBits (widthS zs) zs.length (gatherS (bitsS zs) (spaceS zs) ++ rest) = allBits 8 (gatherS (bitsS zs) (spaceS zs)) := by
    unfold upBits
    rw [hsp, List.take_append_of_le_length (by omega), List.take_of_length_le (by omega)]
  have hupl : (allBits 8 (gatherS (bitsS zs) (spaceS zs))).length = spaceS zs * 8 := by rw [allBits_length, hgl]
  have hlist : upList (minS zs) (widthS zs) zs.length (gatherS (bitsS zs) (spaceS zs) ++ rest) = zs := by
    unfold upList
    rw [hup, hupl]
    apply List.ext_getElem?
    intro e
    by_cases he : e < zs.length
    · unfold elB
      rw [List.getElem?_map, List.getElem?_range he, List.getElem?_eq_getElem he, Option.map_some]
      congr 1
      have hin : zs[e] ∈ zs := List.getElem_mem he
      obtain ⟨hd0, hd1⟩ := diff_lt hz hin
      have hle : widthS zs * e + widthS zs ≤ zs.length * widthS zs := by
        have : widthS zs * (e + 1) ≤ widthS zs * zs.length := Nat.mul_le_mul_left _ he
        rw [Nat.mul_succ, Nat.mul_comm (widthS zs) zs.length] at this
        exact this
      unfold elV
      rw [show min (widthS zs) (spaceS zs * 8 - widthS zs * e) = widthS zs by omega]
      have hbits : ((allBits 8 (gatherS (bitsS zs) (spaceS zs))).drop (widthS zs * e)).take (widthS zs) = bitsN (widthS zs) (diffS (minS zs) zs[e]) := by
        apply List.ext_getElem?
        intro p
        by_cases hp : p < widthS zs
        · have hj : widthS zs * e + p < 8 * spaceS zs := by omega
          have h1 := gather_bits_at (bitsS zs) (bitsS_bin zs) (spaceS zs) (widthS zs * e + p) hj
          rw [List.getElem?_take, if_pos hp, List.getElem?_drop, bitsN_at _ _ _ hp]
          rw [List.getElem?_eq_getElem (by rw [hupl]; omega), Option.getD_some] at h1
          rw [List.getElem?_eq_getElem (by rw [hupl]; omega), h1]
          congr 1
          have h2 := allBits_at (widthS zs) (diffs (minS zs) zs) e p (by unfold diffs; rw [List.length_map]; exact he) hp
          unfold bitsS
          rw [hw, hbase, Nat.mul_comm, h2, Option.getD_some]
          unfold diffs
          rw [List.getElem?_map, List.getElem?_eq_getElem he]
          rfl
        · rw [List.getElem?_eq_none (by rw [List.length_take]; omega), List.getElem?_eq_none (by rw [bitsN_length]; omega)]
      rw [hbits, numB_bits _ _ hd0 hd1]
      exact wrap_diff (hz _ hin)
    · rw [List.getElem?_eq_none (by rw [elB_length]; omega), List.getElem?_eq_none (by omega)]
  have hz0 : zerosB ((upBits (widthS zs) zs.length (gatherS (bitsS zs) (spaceS zs) ++ rest)).drop (zs.length * widthS zs)) = true := by
    rw [zerosB_iff, hup]
    intro j h1 h2
    rw [hupl] at h2
    rw [gather_bits_at (bitsS zs) (bitsS_bin zs) (spaceS zs) j (by omega), List.getElem?_eq_none (by omega)]
    rfl
  have hok : upOk (minS zs) (widthS zs) zs.length (gatherS (bitsS zs) (spaceS zs) ++ rest) = true := by
    unfold upOk
    rw [hz0, hlist]
    simp
  unfold upS
  rw [hsp, if_neg (by rw [List.length_append]; omega), if_pos hok, hlist]

theorem fr_pack {b : Int} (hb : I64 b) (w : Nat) (hw : w ≤ 64) (rest : List Int) : frS (varN (zz b).toNat ++ ((w : Int) :: rest)) = ((b, (w : Int)), (varN (zz b).toNat).length + 1, 0) := by
  have hu := zz_u64 hb
  unfold U64 at hu
  have h := rdS_var (zz b).toNat (by omega) ((w : Int) :: rest)
  have e : ((zz b).toNat : Int) = zz b := Int.toNat_of_nonneg hu.1
  unfold frS
  rw [h]
  simp only [e, uz_zz]
  rw [if_neg (by simp), if_neg (by rw [List.length_append, List.length_cons]; omega), List.getElem?_append_right (Nat.le_refl _), Nat.sub_self, List.getElem?_cons_zero, Option.getD_some, if_neg (by omega)]

/-- What was packed is read back, whatever follows. -/
theorem un_pack {zs : List Int} (hz : Smalls zs) (hl : zs.length ≤ 4096) (rest : List Int) : unS (packS zs ++ rest) = (zs, (packS zs).length, 0) := by
  by_cases h0 : zs = []
  · subst h0
    have e : packS [] = [0] := exP2
    have h := rdS_var 0 (by decide) rest
    rw [varN_lo (by decide)] at h
    have h : rdS ([0] ++ rest) = (0, 1, 0) := h
    rw [e]
    unfold unS
    rw [h]
    simp
  · have hne : 0 < zs.length := List.length_pos_iff.2 h0
    have eh : packS zs ++ rest = varN zs.length ++ (varN (zz (minS zs)).toNat ++ ((widthS zs : Int) :: (gatherS (bitsS zs) (spaceS zs) ++ rest))) := by
      unfold packS headS
      rw [if_neg h0]
      simp
    have el : (packS zs).length = (varN zs.length).length + ((varN (zz (minS zs)).toNat).length + 1 + spaceS zs) := by
      unfold packS headS
      rw [if_neg h0]
      have hgl : (gatherS (bitsS zs) (spaceS zs)).length = spaceS zs := gB_length _ _ _
      simp [hgl]
      omega
    have h1 := rdS_var zs.length (by omega) (varN (zz (minS zs)).toNat ++ ((widthS zs : Int) :: (gatherS (bitsS zs) (spaceS zs) ++ rest)))
    have h2 := fr_pack (hz _ (min_mem zs h0)) (widthS zs) (width_le zs) (gatherS (bitsS zs) (spaceS zs) ++ rest)
    have h3 := up_pack hz h0 rest
    rw [eh, el]
    unfold unS
    rw [h1]
    simp only [List.drop_left']
    rw [h2]
    have e3 : (varN (zz (minS zs)).toNat ++ ((widthS zs : Int) :: (gatherS (bitsS zs) (spaceS zs) ++ rest))).drop ((varN (zz (minS zs)).toNat).length + 1) = gatherS (bitsS zs) (spaceS zs) ++ rest := by
      rw [← List.drop_drop, List.drop_left]; rfl
    simp only [e3, Int.toNat_natCast, h3]
    rw [if_neg (by simp), if_neg (by omega), if_neg (by omega), if_neg (by simp), if_neg (by simp)]

end Go.Proofs.Ytdcapmbgnoahpaa
