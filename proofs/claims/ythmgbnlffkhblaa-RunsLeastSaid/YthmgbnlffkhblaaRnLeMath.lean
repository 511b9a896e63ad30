/-
  The kind is the first of the least forms; equal elements and equal steps are encoded in few bytes: as functions on lists.
-/
import Derived.Test.YthmgbnlffkhblaaRnDeMath
import Derived.Test.YthmgbnlffkhblaaRnSz
import Derived.Test.YthmgbnlffkhblaaPkInvMath
namespace Go.Proofs.Ythmgbnlffkhblaa
open Go.RowKit

theorem pack_size4 (zs : List Int) : (packS zs).length = sizeS zs := by
  have hgl : (gatherS (bitsS zs) (spaceS zs)).length = spaceS zs := gB_length _ _ _
  unfold sizeS packS
  rw [List.length_append, hgl]
theorem packs_sum : ∀ pss : List (List Int), (pss.flatMap packS).length = (pss.map sizeS).sum
  | [] => rfl
  | ps :: r => by rw [List.flatMap_cons, List.length_append, packs_sum r, List.map_cons, List.sum_cons, pack_size4]
theorem en_size (zs : List Int) : (enS zs).length = 1 + szS (kindS zs) zs := by
  unfold enS formS szS sumS
  rw [List.length_cons, packs_sum, Nat.add_comm]

theorem kd_key (f : Nat → Nat) (i : Nat) (hi : i < 4) : f (kd (f 0) (f 1) (f 2) (f 3)) ≤ f i ∧ (i < kd (f 0) (f 1) (f 2) (f 3) → f (kd (f 0) (f 1) (f 2) (f 3)) < f i) := by
  unfold kd
  have h4 : i = 0 ∨ i = 1 ∨ i = 2 ∨ i = 3 := by omega
  split
  · rcases h4 with rfl | rfl | rfl | rfl <;> omega
  · split
    · rcases h4 with rfl | rfl | rfl | rfl <;> omega
    · split
      · rcases h4 with rfl | rfl | rfl | rfl <;> omega
      · rcases h4 with rfl | rfl | rfl | rfl <;> omega
theorem kind_least (zs : List Int) (i : Nat) (hi : i < 4) : szS (kindS zs) zs ≤ szS i zs ∧ (i < kindS zs → szS (kindS zs) zs < szS i zs) := kd_key (fun k => szS k zs) i hi

theorem vL_le : ∀ f u, vL f u ≤ f + 1
  | 0, _ => by simp [vL]
  | f + 1, u => by
    have := vL_le f (u / 128)
    unfold vL
    split <;> omega
theorem vL_two {u : Nat} (h : u < 16384) : vL 9 u ≤ 2 := by
  show vL (7 + 1 + 1) u ≤ 2
  unfold vL
  split
  · omega
  · unfold vL
    rw [if_pos (by omega)]
    omega
theorem vL_one {u : Nat} (h : u < 128) : vL 9 u = 1 := by
  show vL (8 + 1) u = 1
  unfold vL
  rw [if_pos h]

theorem sizeC_any (zs : List Int) (h : zs ≠ []) (hl : zs.length ≤ 2) : sizeC zs ≤ 28 := by
  have h1 := vL_one (u := zs.length) (by omega)
  have h2 := vL_le 9 (zz (minS zs)).toNat
  have h3 := wide_le zs
  have h4 : spaceS zs ≤ 16 := by
    unfold spaceS
    have : zs.length * wideS zs ≤ 2 * 64 := Nat.mul_le_mul hl h3
    omega
  unfold sizeC
  rw [if_neg h]
  omega
theorem sizeC_small (zs : List Int) (h : zs ≠ []) (hl : zs.length ≤ 2) (hb : ∀ x ∈ zs, 1 ≤ x ∧ x ≤ 4096) : sizeC zs ≤ 7 := by
  have h1 := vL_one (u := zs.length) (by omega)
  have hm := hb _ (min_mem zs h)
  have hM := hb _ (max_mem zs h)
  have h2 : vL 9 (zz (minS zs)).toNat ≤ 2 := vL_two (by unfold zz; rw [if_pos (by omega)]; omega)
  have h3 : wideS zs ≤ 12 := by
    unfold wideS widthS
    rw [if_neg h]
    refine Lib.bitLen_le _ 12 (by decide) ?_
    unfold diffS
    have : (2 : Nat) ^ 12 = 4096 := rfl
    have hmM := min_le zs _ (max_mem zs h)
    omega
  have h4 : spaceS zs ≤ 3 := by
    unfold spaceS
    have : zs.length * wideS zs ≤ 2 * 12 := Nat.mul_le_mul hl h3
    omega
  unfold sizeC
  rw [if_neg h]
  omega
theorem sizeC_nil : sizeC [] = 1 := rfl

theorem rl_same (x : Int) : ∀ n, rl (List.replicate (n + 1) x) = [(x, n + 1)]
  | 0 => rfl
  | n + 1 => by rw [List.replicate_succ, rl, rl_same x n]; simp
theorem rl_step (x y : Int) (h : x ≠ y) (n : Nat) : rl (x :: List.replicate (n + 1) y) = [(x, 1), (y, n + 1)] := by
  rw [rl, rl_same y n]; simp [h]

/-- Form 1 or 3 of a list whose runs are few. -/
theorem runs_small (zs : List Int) (hn : (rl zs).length ≤ 2) (hl : zs.length ≤ 4096) : sizeC (vals zs) + sizeC (lens zs) ≤ 35 := by
  by_cases h : rl zs = []
  · unfold vals lens
    rw [h]
    decide
  · have hv : vals zs ≠ [] := fun e => h (List.map_eq_nil_iff.1 e)
    have hw : lens zs ≠ [] := fun e => h (List.map_eq_nil_iff.1 e)
    have h1 := sizeC_any (vals zs) hv (by rw [vals_length]; exact hn)
    have h2 := sizeC_small (lens zs) hw (by rw [lens_length]; exact hn) fun x hx => by
      have := lens_le zs x hx
      omega
    omega
theorem same_len (v : Int) (hv : I64 v) (n : Nat) (hn : n ≤ 4096) : (enS (List.replicate n v)).length ≤ 40 := by
  have hz : Smalls (List.replicate n v) := fun x hx => by rw [(List.mem_replicate.1 hx).2]; exact hv
  have h := (kind_least (List.replicate n v) 1 (by decide)).1
  rw [sz_C hz (by rw [List.length_replicate]; omega) 1] at h
  have h2 := runs_small (List.replicate n v) (by
    cases n with
    | zero => simp [rl]
    | succ n => rw [rl_same]; simp) (by rw [List.length_replicate]; exact hn)
  have h3 : szC 1 (List.replicate n v) = sizeC (vals (List.replicate n v)) + sizeC (lens (List.replicate n v)) := by
    unfold szC
    show ([vals (List.replicate n v), lens (List.replicate n v)].map sizeC).sum = _
    simp
  rw [en_size]
  omega

/-- The numbers from v on, by steps. -/
def stS (v s : Int) (n : Nat) : List Int := (List.range n).map fun i : Nat => w64 (v + i * s)
theorem st_length (v s : Int) (n : Nat) : (stS v s n).length = n := by simp [stS]
theorem st_succ (v s : Int) (n : Nat) : stS v s (n + 1) = stS v s n ++ [w64 (v + n * s)] := by simp [stS, List.range_succ]
theorem st_smalls (v s : Int) (n : Nat) : Smalls (stS v s n) := fun x hx => by
  obtain ⟨i, _, rfl⟩ := List.mem_map.1 hx
  exact w64_i64 _
theorem st_diff (v s : Int) : ∀ (n : Nat) (p : Int), dfF (w64 p) ((List.range n).map fun i : Nat => w64 (p + ((i : Int) + 1) * s)) = List.replicate n (w64 s)
  | 0, _ => rfl
  | n + 1, p => by
    have ih := st_diff v s n (p + s)
    rw [List.range_succ_eq_map, List.map_cons, List.replicate_succ, dfF, List.map_map]
    have e0 : p + (((0 : Nat) : Int) + 1) * s = p + s := by simp
    rw [e0]
    have e1 : w64 (w64 (p + s) - w64 p) = w64 s := by unfold w64; omega
    rw [e1, ← ih]
    congr 2
    apply List.map_congr_left
    intro i _
    show w64 (p + (((i + 1 : Nat) : Int) + 1) * s) = w64 (p + s + ((i : Int) + 1) * s)
    congr 1
    rw [Int.add_mul, Int.add_mul, show ((i + 1 : Nat) : Int) = (i : Int) + 1 from rfl, Int.add_mul]
    omega
theorem st_diffs (v s : Int) (n : Nat) : dfS (stS v s (n + 1)) = w64 v :: List.replicate n (w64 s) := by
  have h := st_diff v s n v
  unfold stS
  rw [List.range_succ_eq_map, List.map_cons, List.map_map, dfS]
  have e0 : v + (((0 : Nat) : Int)) * s = v := by simp
  rw [e0, ← h]
  congr 2
theorem steps_len (v s : Int) (n : Nat) (hn : n ≤ 4096) : (enS (stS v s n)).length ≤ 40 := by
  have hz := st_smalls v s n
  have h := (kind_least (stS v s n) 3 (by decide)).1
  rw [sz_C hz (by rw [st_length]; omega) 3] at h
  have h2 := runs_small (dfS (stS v s n)) (by
    cases n with
    | zero => simp [stS, dfS, rl]
    | succ n =>
      rw [st_diffs]
      cases n with
      | zero => simp [rl]
      | succ n =>
        by_cases e : w64 v = w64 s
        · rw [e, show w64 s :: List.replicate (n + 1) (w64 s) = List.replicate (n + 1 + 1) (w64 s) from rfl, rl_same]; simp
        · rw [rl_step _ _ e]; simp) (by rw [df_length, st_length]; exact hn)
  have h3 : szC 3 (stS v s n) = sizeC (vals (dfS (stS v s n))) + sizeC (lens (dfS (stS v s n))) := by
    unfold szC
    show ([vals (dfS (stS v s n)), lens (dfS (stS v s n))].map sizeC).sum = _
    simp
  rw [en_size]
  omega

end Go.Proofs.Ythmgbnlffkhblaa
