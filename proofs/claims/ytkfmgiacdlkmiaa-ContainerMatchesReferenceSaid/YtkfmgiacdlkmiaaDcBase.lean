/-
  Lists of strings in memory.
-/
import Derived.Test.YtkfmgiacdlkmiaaDcRd
import Derived.Sort.KeysCollected
import Derived.Lib.SlicesCompact
import Derived.Lib.OwnBridge
import Derived.Test.YtkfmgiacdlkmiaaPkSame1
import Derived.WalkLawsBesides
import Derived.WalkSpells
namespace Go.Proofs.Ytkfmgiacdlkmiaa
open Go Go.RowKit

/-! ### The order of strings -/

theorem sle_trans {a b c : List UInt8} (h1 : a ≤ b) (h2 : b ≤ c) : a ≤ c := List.le_trans h1 h2
theorem slt_irrefl (a : List UInt8) : ¬ a < a := List.lt_irrefl a
theorem slt_of_le {a b : List UInt8} (h : a ≤ b) (hne : a ≠ b) : a < b := by
  rcases Decidable.em (a < b) with h1 | h1
  · exact h1
  · exact absurd (List.le_antisymm h (List.not_lt.1 h1)) hne
theorem sle_of_lt {a b : List UInt8} (h : a < b) : a ≤ b := List.le_of_lt h
theorem slt_of_lt_of_le {a b c : List UInt8} (h1 : a < b) (h2 : b ≤ c) : a < c := by
  refine slt_of_le (sle_trans (sle_of_lt h1) h2) fun e => ?_
  subst e
  exact (List.not_le.2 h1) h2
theorem slt_of_le_of_lt {a b c : List UInt8} (h1 : a ≤ b) (h2 : b < c) : a < c := by
  refine slt_of_le (sle_trans h1 (sle_of_lt h2)) fun e => ?_
  subst e
  exact (List.not_le.2 h2) h1
theorem slt_trans {a b c : List UInt8} (h1 : a < b) (h2 : b < c) : a < c := slt_of_lt_of_le h1 (sle_of_lt h2)
theorem slt_asymm {a b : List UInt8} (h1 : a < b) : ¬ b < a := fun h2 => slt_irrefl a (slt_trans h1 h2)

/-! ### Dictionaries -/

/-- Strictly increasing. -/
def Inc (d : List (List UInt8)) : Prop := d.Pairwise (· < ·)

theorem inc_at {d : List (List UInt8)} (h : Inc d) {i j : Nat} (hij : i < j) (hj : j < d.length) : d[i]?.getD [] < d[j]?.getD [] := by
  rw [List.getElem?_eq_getElem (by omega), List.getElem?_eq_getElem hj]
  exact List.pairwise_iff_getElem.1 h i j (by omega) hj hij

theorem inc_of {d : List (List UInt8)} (h : ∀ k, 0 < k → k < d.length → d[k - 1]?.getD [] < d[k]?.getD []) : Inc d := by
  refine List.pairwise_iff_getElem.2 fun i j hi hj hij => ?_
  have : ∀ n i, i + n + 1 < d.length → d[i]?.getD [] < d[i + n + 1]?.getD [] := by
    intro n
    induction n with
    | zero => intro i hi; have := h (i + 1) (by omega) (by omega); simpa using this
    | succ n ih => intro i hi; exact slt_trans (ih i (by omega)) (by have := h (i + (n + 1) + 1) (by omega) (by omega); rw [show i + (n + 1) + 1 - 1 = i + n + 1 by omega] at this; exact this)
  have := this (j - i - 1) i (by omega)
  rw [show i + (j - i - 1) + 1 = j by omega, List.getElem?_eq_getElem hi, List.getElem?_eq_getElem hj] at this
  exact this

theorem inc_nodup {d : List (List UInt8)} (h : Inc d) : d.Nodup := by
  have h : d.Pairwise (· < ·) := h
  show d.Pairwise (· ≠ ·)
  refine h.imp ?_
  intro a b hab e
  rw [← e] at hab
  exact slt_irrefl a hab

theorem inc_ext {a b : List (List UInt8)} (ha : Inc a) (hb : Inc b) (h : ∀ x, x ∈ a ↔ x ∈ b) : a = b := by
  have hp : a.Perm b := (List.perm_ext_iff_of_nodup (inc_nodup ha) (inc_nodup hb)).2 h
  exact List.Perm.eq_of_pairwise (le := (· < ·)) (fun x y _ _ h1 h2 => absurd h2 (slt_asymm h1)) ha hb hp

/-- The different strings of a list in increasing order. -/
def ofS (l : List (List UInt8)) : List (List UInt8) := Lib.compact (l.mergeSort fun x y => decide (x ≤ y))

theorem sorted_le (l : List (List UInt8)) : (l.mergeSort fun x y => decide (x ≤ y)).Pairwise (· ≤ ·) := by
  have := List.pairwise_mergeSort (le := fun x y : List UInt8 => decide (x ≤ y)) (fun a b c h1 h2 => by simp only [decide_eq_true_eq] at *; exact sle_trans h1 h2) (fun a b => by simp only [Bool.or_eq_true, decide_eq_true_eq]; exact List.le_total a b) l
  exact this.imp fun h => by simpa using h

theorem compact_inc {zs : List (List UInt8)} (h : zs.Pairwise (· ≤ ·)) : Inc (Lib.compact zs) := by
  unfold Inc Lib.compact Lib.compactUpTo
  rw [List.pairwise_map]
  refine List.Pairwise.imp_of_mem (R := (· < ·)) (fun {i j} hi hj hij => ?_) (List.Pairwise.filter _ List.pairwise_lt_range)
  have hjr : j < zs.length := by simpa using (List.mem_filter.1 hj).1
  have hk := (List.mem_filter.1 hj).2
  unfold Lib.keeps at hk
  have hne : zs.toArray[j]! ≠ zs.toArray[j - 1]! := by
    have := of_decide_eq_true hk
    rcases this with h0 | h0
    · omega
    · exact h0
  have hle : ∀ a b, a ≤ b → b < zs.length → zs.toArray[a]! ≤ zs.toArray[b]! := by
    intro a b hab hb
    rcases Nat.eq_or_lt_of_le hab with rfl | hlt
    · exact List.le_refl _
    · have := List.pairwise_iff_getElem.1 h a b (by omega) hb hlt
      simpa [getElem!_pos, hb, show a < zs.length by omega] using this
  exact slt_of_le_of_lt (hle i (j - 1) (by omega) (by omega)) (slt_of_le (hle (j - 1) j (by omega) hjr) (Ne.symm hne))

theorem mem_compact {zs : List (List UInt8)} (x : List UInt8) : x ∈ Lib.compact zs ↔ x ∈ zs := by
  unfold Lib.compact Lib.compactUpTo
  rw [List.mem_map]
  constructor
  · rintro ⟨i, hi, rfl⟩
    have hi' : i < zs.length := by simpa using (List.mem_filter.1 hi).1
    simp [getElem!_pos, hi']
  · intro hx
    obtain ⟨i, hi, e⟩ := List.getElem_of_mem hx
    have : ∀ n i, i ≤ n → (hi : i < zs.length) → zs[i] = x → ∃ a, a ∈ List.filter (Lib.keeps zs.toArray) (List.range zs.length) ∧ zs.toArray[a]! = x := by
      intro n
      induction n with
      | zero =>
        intro i hin hi e
        obtain rfl : i = 0 := by omega
        exact ⟨0, List.mem_filter.2 ⟨by simpa using hi, by simp [Lib.keeps]⟩, by simp [getElem!_pos, hi, e]⟩
      | succ n ih =>
        intro i hin hi e
        by_cases hk : Lib.keeps zs.toArray i = true
        · exact ⟨i, List.mem_filter.2 ⟨by simpa using hi, hk⟩, by simp [getElem!_pos, hi, e]⟩
        · unfold Lib.keeps at hk
          have h2 : ¬ (i = 0 ∨ zs.toArray[i]! ≠ zs.toArray[i - 1]!) := fun h => hk (decide_eq_true h)
          have h3 : i ≠ 0 := fun h => h2 (.inl h)
          have h4 : zs.toArray[i]! = zs.toArray[i - 1]! := Decidable.of_not_not fun h => h2 (.inr h)
          have h5 : i - 1 < zs.length := by omega
          refine ih (i - 1) (by omega) h5 ?_
          simp [getElem!_pos, hi, h5] at h4
          rw [← h4, e]
    exact this i i (Nat.le_refl _) hi e

theorem of_inc (l : List (List UInt8)) : Inc (ofS l) := compact_inc (sorted_le l)
theorem mem_of (l : List (List UInt8)) (x : List UInt8) : x ∈ ofS l ↔ x ∈ l := by
  unfold ofS
  rw [mem_compact, (List.mergeSort_perm l _).mem_iff]
theorem of_ext {l m : List (List UInt8)} (h : ∀ x, x ∈ l ↔ x ∈ m) : ofS l = ofS m := inc_ext (of_inc l) (of_inc m) fun x => by rw [mem_of, mem_of, h]
theorem of_self {d : List (List UInt8)} (h : Inc d) : ofS d = d := inc_ext (of_inc d) h fun x => mem_of d x
theorem of_len (l : List (List UInt8)) : (ofS l).length ≤ l.length := by
  have := Lib.compact_length_le (l.mergeSort fun x y => decide (x ≤ y))
  rw [List.length_mergeSort] at this
  exact this

instance (d : List (List UInt8)) : Decidable (Inc d) := inferInstanceAs (Decidable (d.Pairwise (· < ·)))
/-- Is a list a dictionary? -/
def vlB (d : List (List UInt8)) : Bool := decide (d.length ≤ 4096 ∧ (∀ s ∈ d, s.length ≤ 255) ∧ Inc d)
theorem vl_iff {d : List (List UInt8)} : vlB d = true ↔ d.length ≤ 4096 ∧ (∀ s ∈ d, s.length ≤ 255) ∧ Inc d := by unfold vlB; exact decide_eq_true_iff
theorem vl_long {d : List (List UInt8)} (h : 4096 < d.length) : vlB d = false := by
  unfold vlB; exact decide_eq_false fun h2 => by omega
theorem vl_bad {d : List (List UInt8)} {k : Nat} (hk : k < d.length) (h : 255 < (d[k]?.getD []).length ∨ (0 < k ∧ d[k]?.getD [] ≤ d[k - 1]?.getD [])) : vlB d = false := by
  unfold vlB
  refine decide_eq_false fun hh => ?_
  obtain ⟨_, h2, h3⟩ := hh
  rcases h with h | ⟨h0, h⟩
  · rw [List.getElem?_eq_getElem hk] at h
    have := h2 _ (List.getElem_mem hk)
    simp at h; omega
  · exact (List.not_lt.2 h) (inc_at h3 (by omega) hk)
theorem vl_good {d : List (List UInt8)} (hl : d.length ≤ 4096) (h1 : ∀ k, k < d.length → (d[k]?.getD []).length ≤ 255) (h2 : ∀ k, 0 < k → k < d.length → d[k - 1]?.getD [] < d[k]?.getD []) : vlB d = true := by
  refine vl_iff.2 ⟨hl, fun s hs => ?_, inc_of h2⟩
  obtain ⟨i, hi, e⟩ := List.getElem_of_mem hs
  have := h1 i hi
  rw [List.getElem?_eq_getElem hi] at this
  rw [← e]; simpa using this

/-! ### Bytes of strings -/

def strI (s : List UInt8) : List Int := s.map fun b => (b.toNat : Int)
def strU (l : List Int) : List UInt8 := l.map fun x => UInt8.ofNat x.toNat

theorem strI_len (s : List UInt8) : (strI s).length = s.length := List.length_map _
theorem strU_len (s : List Int) : (strU s).length = s.length := List.length_map _
theorem strI_oct (s : List UInt8) : Oct (strI s) := by
  intro x hx
  obtain ⟨b, _, rfl⟩ := List.mem_map.1 hx
  have := b.toNat_lt
  omega
theorem strU_strI (s : List UInt8) : strU (strI s) = s := by
  unfold strU strI
  rw [List.map_map]
  refine (List.map_congr_left fun b _ => ?_).trans (List.map_id s)
  simp
theorem strI_strU {l : List Int} (h : Oct l) : strI (strU l) = l := by
  unfold strU strI
  rw [List.map_map]
  refine (List.map_congr_left fun x hx => ?_).trans (List.map_id l)
  have := h x hx
  simp
  omega

/-! ### What two strings share at their beginnings -/

def shN : List UInt8 → List UInt8 → Nat
  | a :: s, b :: t => if a = b then shN s t + 1 else 0
  | _, _ => 0

theorem sh_nil (t : List UInt8) : shN [] t = 0 := by unfold shN; rfl
theorem sh_nil' (t : List UInt8) : shN t [] = 0 := by cases t <;> (unfold shN; rfl)
theorem sh_le : ∀ (s t : List UInt8), shN s t ≤ s.length ∧ shN s t ≤ t.length
  | [], t => by rw [sh_nil]; omega
  | a :: s, [] => by rw [sh_nil']; omega
  | a :: s, b :: t => by
    unfold shN
    have := sh_le s t
    split <;> simp <;> omega
theorem sh_take : ∀ (s t : List UInt8), s.take (shN s t) = t.take (shN s t)
  | [], t => by rw [sh_nil]; simp
  | a :: s, [] => by rw [sh_nil']; simp
  | a :: s, b :: t => by
    unfold shN
    split
    · rename_i e; rw [List.take_succ_cons, List.take_succ_cons, e, sh_take s t]
    · simp
/-- The number of equal bytes, as a loop finds it. -/
theorem sh_at : ∀ (n : Nat) (s t : List UInt8), n ≤ s.length → n ≤ t.length → (∀ j, j < n → s[j]?.getD 0 = t[j]?.getD 0) → (n < s.length → n < t.length → s[n]?.getD 0 ≠ t[n]?.getD 0) → shN s t = n
  | 0, [], t, _, _, _, _ => sh_nil t
  | 0, a :: s, [], _, _, _, _ => sh_nil' _
  | 0, a :: s, b :: t, _, _, _, h => by
    unfold shN
    rw [if_neg (by simpa using h (by simp) (by simp))]
  | n + 1, [], t, h, _, _, _ => by simp at h
  | n + 1, a :: s, [], _, h, _, _ => by simp at h
  | n + 1, a :: s, b :: t, h1, h2, h3, h4 => by
    unfold shN
    have h0 : a = b := by simpa using h3 0 (by omega)
    rw [if_pos h0, sh_at n s t (by simpa using h1) (by simpa using h2) (fun j hj => by simpa using h3 (j + 1) (by omega)) (fun ha hb => by simpa using h4 (by simpa using ha) (by simpa using hb))]

/-! ### The packed form -/

/-- What the packed form has of one string. -/
def stP (before s : List UInt8) : List Int := varN (shN before s) ++ (varN (s.length - shN before s) ++ strI (s.drop (shN before s)))
def ptP : List UInt8 → List (List UInt8) → List Int
  | _, [] => []
  | b, s :: r => stP b s ++ ptP s r
def pkD (d : List (List UInt8)) : List Int := varN d.length ++ ptP [] d

theorem st_oct (b s : List UInt8) : Oct (stP b s) := (var_oct _).append ((var_oct _).append (strI_oct _))
theorem pt_oct : ∀ (d : List (List UInt8)) (b : List UInt8), Oct (ptP b d)
  | [], _ => Oct.nil
  | s :: r, b => (st_oct b s).append (pt_oct r s)
theorem pk_oct (d : List (List UInt8)) : Oct (pkD d) := (var_oct _).append (pt_oct d [])

theorem var_two {u : Nat} (h : u ≤ 255) : (varN u).length ≤ 2 := varN_len 1 u (by omega)
theorem st_len (b s : List UInt8) (h : s.length ≤ 255) : 2 ≤ (stP b s).length ∧ (stP b s).length ≤ 259 := by
  unfold stP
  have h0 := (sh_le b s).2
  have h1 := var_two (u := shN b s) (by omega)
  have h2 := var_two (u := s.length - shN b s) (by omega)
  have h3 := var_pos (shN b s)
  have h4 := var_pos (s.length - shN b s)
  simp only [List.length_append, strI_len, List.length_drop]
  omega
theorem pt_len : ∀ (d : List (List UInt8)) (b : List UInt8), (∀ s ∈ d, s.length ≤ 255) → (ptP b d).length ≤ 259 * d.length
  | [], _, _ => by simp [ptP]
  | s :: r, b, h => by
    have h1 := (st_len b s (h s (List.mem_cons_self ..))).2
    have h2 := pt_len r s (fun t ht => h t (List.mem_cons_of_mem _ ht))
    simp only [ptP, List.length_append, List.length_cons]
    omega
theorem pk_len {d : List (List UInt8)} (h : vlB d = true) : 1 ≤ (pkD d).length ∧ (pkD d).length ≤ 1060900 := by
  obtain ⟨h1, h2, _⟩ := vl_iff.1 h
  have h3 := var_pos d.length
  have h4 : (varN d.length).length ≤ 2 := varN_len 1 _ (by omega)
  have h5 := pt_len d [] h2
  unfold pkD
  rw [List.length_append]
  omega
theorem pt_snoc : ∀ (d : List (List UInt8)) (b s : List UInt8), ptP b (d ++ [s]) = ptP b d ++ stP ((b :: d)[d.length]?.getD []) s
  | [], b, s => by simp [ptP]
  | t :: r, b, s => by
    have := pt_snoc r t s
    simp only [List.cons_append, ptP, this, List.append_assoc, List.length_cons]
    congr 2

/-! ### What is read of a packed form -/

/-- What is read of one string, behind one with so many bytes: how many it shares, its other bytes; how many bytes it took; the error. -/
def rpS (bs : List Int) (size : Nat) : (Nat × List Int) × Nat × Int :=
  if (rdS bs).2.2 ≠ 0 then ((0, []), 0, (rdS bs).2.2) else
  if (rdS (bs.drop (rdS bs).2.1)).2.2 ≠ 0 then ((0, []), 0, (rdS (bs.drop (rdS bs).2.1)).2.2) else
  if (size : Int) < (rdS bs).1 ∨ 255 - (rdS bs).1 < (rdS (bs.drop (rdS bs).2.1)).1 then ((0, []), 0, 5) else
  if (((bs.drop (rdS bs).2.1).drop (rdS (bs.drop (rdS bs).2.1)).2.1).length : Int) < (rdS (bs.drop (rdS bs).2.1)).1 then ((0, []), 0, 7) else
  (((rdS bs).1.toNat, ((bs.drop (rdS bs).2.1).drop (rdS (bs.drop (rdS bs).2.1)).2.1).take (rdS (bs.drop (rdS bs).2.1)).1.toNat), (rdS bs).2.1 + ((rdS (bs.drop (rdS bs).2.1)).2.1 + (rdS (bs.drop (rdS bs).2.1)).1.toNat), 0)

/-- The string of such a part, behind the strings d. -/
def sbS (d : List (List UInt8)) (shared : Nat) (other : List Int) : List UInt8 := if d = [] then strU other else (d.getLastD []).take shared ++ strU other
/-- May it follow them? -/
def sbB (d : List (List UInt8)) (shared : Nat) (other : List Int) : Bool :=
  decide (d = []) || (decide (d.getLastD [] < sbS d shared other) && (shN (d.getLastD []) (sbS d shared other) == shared))

def unF : Nat → List (List UInt8) → List Int → List (List UInt8) × Nat × Int
  | 0, d, _ => (d, 0, 0)
  | n + 1, d, bs =>
    if (rpS bs (d.getLastD []).length).2.2 ≠ 0 then ([], 0, (rpS bs (d.getLastD []).length).2.2) else
    if sbB d (rpS bs (d.getLastD []).length).1.1 (rpS bs (d.getLastD []).length).1.2 = false then ([], 0, 5) else
    if (unF n (d ++ [sbS d (rpS bs (d.getLastD []).length).1.1 (rpS bs (d.getLastD []).length).1.2]) (bs.drop (rpS bs (d.getLastD []).length).2.1)).2.2 ≠ 0 then
      ([], 0, (unF n (d ++ [sbS d (rpS bs (d.getLastD []).length).1.1 (rpS bs (d.getLastD []).length).1.2]) (bs.drop (rpS bs (d.getLastD []).length).2.1)).2.2) else
    ((unF n (d ++ [sbS d (rpS bs (d.getLastD []).length).1.1 (rpS bs (d.getLastD []).length).1.2]) (bs.drop (rpS bs (d.getLastD []).length).2.1)).1,
      (rpS bs (d.getLastD []).length).2.1 + (unF n (d ++ [sbS d (rpS bs (d.getLastD []).length).1.1 (rpS bs (d.getLastD []).length).1.2]) (bs.drop (rpS bs (d.getLastD []).length).2.1)).2.1, 0)

/-- The dictionary that bytes begin with; how many bytes it took; the error. -/
def unD (bs : List Int) : List (List UInt8) × Nat × Int :=
  if (rdS bs).2.2 ≠ 0 then ([], 0, (rdS bs).2.2) else if 4096 < (rdS bs).1 then ([], 0, 5) else
  if (unF (rdS bs).1.toNat [] (bs.drop (rdS bs).2.1)).2.2 ≠ 0 then ([], 0, (unF (rdS bs).1.toNat [] (bs.drop (rdS bs).2.1)).2.2) else
  ((unF (rdS bs).1.toNat [] (bs.drop (rdS bs).2.1)).1, (rdS bs).2.1 + (unF (rdS bs).1.toNat [] (bs.drop (rdS bs).2.1)).2.1, 0)

end Go.Proofs.Ytkfmgiacdlkmiaa

namespace Go.Proofs.Ytkfmgiacdlkmiaa
open Go Go.RowKit Go.Shelf Go.ChangeShapes Go.WideShapes Go.ChangeAt

theorem less_eq : ∀ (x y : List UInt8), Op.bytesLess x y = decide (x < y)
  | [], [] => by simp [Op.bytesLess]
  | [], b :: y => by simp [Op.bytesLess]
  | a :: x, [] => by simp [Op.bytesLess]
  | a :: x, b :: y => by
    rw [Op.bytesLess, less_eq x y, Bool.eq_iff_iff]
    simp [List.cons_lt_cons_iff]

/-- The bytes of a string. -/
def bsOf (l : List UInt8) : ByteArray := ⟨l.toArray⟩
theorem bs_list (l : List UInt8) : (bsOf l).toList = l := by rw [ByteArray.toList_eq]; simp [bsOf]
theorem bs_size (l : List UInt8) : (bsOf l).size = l.length := by simp [bsOf, ByteArray.size]
theorem bs_data (l : List UInt8) : (bsOf l).data.toList = l := by simp [bsOf]
theorem bs_of (s : ByteArray) : bsOf s.data.toList = s := by simp [bsOf]
theorem bs_less (a b : List UInt8) : Op.bytesLess (bsOf a).toList (bsOf b).toList = decide (a < b) := by rw [bs_list, bs_list]; exact less_eq a b
theorem bs_same (a b : List UInt8) : ((bsOf a).toList == (bsOf b).toList) = decide (a = b) := by rw [bs_list, bs_list]; exact Bool.beq_eq_decide_eq a b
theorem bs_inj {a b : List UInt8} (h : bsOf a = bsOf b) : a = b := by rw [← bs_list a, h, bs_list]

/-- The slice at a, of len elements and capacity cap, reads as the strings ss, in one block that K names. -/
structure RdS (K : Nat → Prop) (W : World) (a : Option Addr) (len cap : Nat) (ss : List (List UInt8)) : Prop where
  hl : len = ss.length
  fit : len ≤ cap
  top : cap ≤ 9223372036854775807
  small : len ≤ 8796093021952
  wide : ∀ s ∈ ss, s.length ≤ maxLen
  cells : 0 < len → ∃ b off, a = some ⟨b, off, none⟩ ∧ K b ∧ b < W.heap.size ∧ ∀ j, j < len → W.cell? ⟨b, off + j, none⟩ = some (.string (bsOf (ss[j]?.getD [])))

theorem RdS.kept {K : Nat → Prop} {A B : World} {a : Option Addr} {len cap : Nat} {ss : List (List UInt8)} (h : RdS K A a len cap ss) (hk : Kept K A B) : RdS K B a len cap ss :=
  ⟨h.hl, h.fit, h.top, h.small, h.wide, fun h0 => by
    obtain ⟨b, off, e, hb, hlt, hc⟩ := h.cells h0
    exact ⟨b, off, e, hb, Nat.lt_of_lt_of_le hlt hk.size, fun j hj => (World.cell?_of_block (w := A) (hk.block b hlt hb)).trans (hc j hj)⟩⟩
theorem RdS.below {K : Nat → Prop} {A B : World} {a : Option Addr} {len cap : Nat} {ss : List (List UInt8)} (h : RdS K A a len cap ss) (hk : Below A.heap.size A B) : RdS K B a len cap ss :=
  ⟨h.hl, h.fit, h.top, h.small, h.wide, fun h0 => by
    obtain ⟨b, off, e, hb, hlt, hc⟩ := h.cells h0
    exact ⟨b, off, e, hb, Nat.lt_of_lt_of_le hlt hk.size, fun j hj => (World.cell?_of_block (w := A) (hk.block b hlt)).trans (hc j hj)⟩⟩
theorem RdS.mono {K K' : Nat → Prop} {A : World} {a : Option Addr} {len cap : Nat} {ss : List (List UInt8)} (h : RdS K A a len cap ss) (hk : ∀ b, b < A.heap.size → K b → K' b) : RdS K' A a len cap ss :=
  ⟨h.hl, h.fit, h.top, h.small, h.wide, fun h0 => by
    obtain ⟨b, off, e, hb, hlt, hc⟩ := h.cells h0
    exact ⟨b, off, e, hk b hlt hb, hlt, hc⟩⟩
theorem RdS.heap {K : Nat → Prop} {A B : World} {a : Option Addr} {len cap : Nat} {ss : List (List UInt8)} (h : RdS K A a len cap ss) (hk : B.heap = A.heap) : RdS K B a len cap ss :=
  ⟨h.hl, h.fit, h.top, h.small, h.wide, fun h0 => by
    obtain ⟨b, off, e, hb, hlt, hc⟩ := h.cells h0
    exact ⟨b, off, e, hb, by rw [hk]; exact hlt, fun j hj => (World.cell?_of_block (w := A) (by rw [hk])).trans (hc j hj)⟩⟩
theorem RdS.empty {K : Nat → Prop} {A : World} {a : Option Addr} : RdS K A a 0 0 [] := ⟨rfl, Nat.le_refl _, by decide, by decide, (fun s hs => by cases hs), fun h => absurd h (by decide)⟩
theorem RdS.wideAt {K : Nat → Prop} {A : World} {a : Option Addr} {len cap : Nat} {ss : List (List UInt8)} (h : RdS K A a len cap ss) (j : Nat) : (ss[j]?.getD []).length ≤ maxLen := by
  by_cases hj : j < ss.length
  · rw [List.getElem?_eq_getElem hj]; exact h.wide _ (List.getElem_mem hj)
  · rw [List.getElem?_eq_none (by omega)]; exact Nat.zero_le _

end Go.Proofs.Ytkfmgiacdlkmiaa
