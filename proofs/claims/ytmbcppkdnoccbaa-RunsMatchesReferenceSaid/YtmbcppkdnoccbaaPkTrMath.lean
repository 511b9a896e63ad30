/-
  The same number added to all elements: what lies behind the base stays, as functions on lists.
-/
import Derived.Test.YtmbcppkdnoccbaaPkInvMath
namespace Go.Proofs.Ytmbcppkdnoccbaa
open Go.RowKit

def plus (by_ : Int) (zs : List Int) : List Int := zs.map (· + by_)

theorem plus_ne {y : Int} {zs : List Int} (h : zs ≠ []) : plus y zs ≠ [] := fun e => h (List.map_eq_nil_iff.1 e)
theorem plus_min {y : Int} {zs : List Int} (h : zs ≠ []) : minS (plus y zs) = minS zs + y := by
  have h1 := min_mem (plus y zs) (plus_ne h)
  obtain ⟨z, hz, e⟩ := List.mem_map.1 h1
  have h2 := min_le zs z hz
  have h3 := min_le (plus y zs) (minS zs + y) (List.mem_map.2 ⟨_, min_mem zs h, rfl⟩)
  have e : z + y = _ := e
  omega
theorem plus_max {y : Int} {zs : List Int} (h : zs ≠ []) : maxS (plus y zs) = maxS zs + y := by
  have h1 := max_mem (plus y zs) (plus_ne h)
  obtain ⟨z, hz, e⟩ := List.mem_map.1 h1
  have h2 := le_max zs z hz
  have h3 := le_max (plus y zs) (maxS zs + y) (List.mem_map.2 ⟨_, max_mem zs h, rfl⟩)
  have e : z + y = _ := e
  omega
theorem plus_diff (b z y : Int) : diffS (b + y) (z + y) = diffS b z := by
  unfold diffS
  rw [show z + y - (b + y) = z - b by omega]
theorem plus_width {y : Int} {zs : List Int} (h : zs ≠ []) : widthS (plus y zs) = widthS zs := by
  unfold widthS
  rw [plus_min h, plus_max h, plus_diff]
theorem plus_bits {y : Int} {zs : List Int} (h : zs ≠ []) : bitsS (plus y zs) = bitsS zs := by
  have e1 : wideS zs = widthS zs := if_neg h
  have e2 : wideS (plus y zs) = widthS (plus y zs) := if_neg (plus_ne h)
  have e3 : baseS zs = minS zs := if_neg h
  have e4 : baseS (plus y zs) = minS (plus y zs) := if_neg (plus_ne h)
  unfold bitsS
  rw [e1, e2, e3, e4, plus_width h, plus_min h]
  congr 1
  unfold diffs plus
  rw [List.map_map]
  exact List.map_congr_left fun z _ => plus_diff _ _ _
theorem plus_space {y : Int} {zs : List Int} (h : zs ≠ []) : spaceS (plus y zs) = spaceS zs := by
  have e1 : wideS zs = widthS zs := if_neg h
  have e2 : wideS (plus y zs) = widthS (plus y zs) := if_neg (plus_ne h)
  unfold spaceS
  rw [e1, e2, plus_width h, show (plus y zs).length = zs.length from List.length_map _]

/-- What is packed behind the base. -/
def backS (zs : List Int) : List Int := (widthS zs : Int) :: gatherS (bitsS zs) (spaceS zs)
theorem pack_parts {zs : List Int} (h : zs ≠ []) : packS zs = (varN zs.length ++ varN (zz (minS zs)).toNat) ++ backS zs := by
  unfold packS headS backS
  rw [if_neg h]
  simp
theorem plus_back {y : Int} {zs : List Int} (h : zs ≠ []) : backS (plus y zs) = backS zs := by
  unfold backS
  rw [plus_width h, plus_bits h, plus_space h]

/-- Behind the base the packed forms agree. -/
theorem plus_pack {y : Int} {zs : List Int} (h : zs ≠ []) :
    (packS zs).drop ((varN zs.length).length + (varN (zz (minS zs)).toNat).length) = (packS (plus y zs)).drop ((varN zs.length).length + (varN (zz (minS zs + y)).toNat).length) := by
  rw [pack_parts h, pack_parts (plus_ne h), plus_min h, plus_back h, show (plus y zs).length = zs.length from List.length_map _, ← List.length_append, ← List.length_append, List.drop_left, List.drop_left]

end Go.Proofs.Ytmbcppkdnoccbaa
