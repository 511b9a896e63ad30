/-
  Lists of strings in memory.
-/
import Derived.Test.YtnhffkgbnlnliaaGreatDoorPkSame1
import Derived.Test.YtnhffkgbnlnliaaGreatDoorDcMath
import Derived.WalkLawsBesides
import Derived.WalkSpells
namespace Go.Proofs.YtnhffkgbnlnliaaGreatDoor
open Go Go.RowKit Go.Shelf Go.ChangeShapes Go.WideShapes Go.ChangeAt

theorem less_eq : ∀ (x y : List UInt8), Op.bytesLess x y = decide (x < y)
  | [], [] => by simp [Op.bytesLess]
  | [], b :: y => by simp [Op.bytesLess]
  | a :: x, [] => by simp [Op.bytesLess]
  | a :: x, b :: y => by
    rw [Op.bytesLess, less_eq x y, Bool.eq_iff_iff]
    simp [List.cons_lt_cons_iff]

/-- The bytes of a string. -/
def bsOf (l : List UInt8) : ByteArray := ⟨l.toArray⟩
theorem bs_list (l : List UInt8) : (bsOf l).toList = l := by rw [ByteArray.toList_eq]; simp [bsOf]
theorem bs_size (l : List UInt8) : (bsOf l).size = l.length := by simp [bsOf, ByteArray.size]
theorem bs_data (l : List UInt8) : (bsOf l).data.toList = l := by simp [bsOf]
theorem bs_of (s : ByteArray) : bsOf s.data.toList = s := by simp [bsOf]
theorem bs_less (a b : List UInt8) : Op.bytesLess (bsOf a).toList (bsOf b).toList = decide (a < b) := by rw [bs_list, bs_list]; exact less_eq a b
theorem bs_same (a b : List UInt8) : ((bsOf a).toList == (bsOf b).toList) = decide (a = b) := by rw [bs_list, bs_list]; exact Bool.beq_eq_decide_eq a b
theorem bs_inj {a b : List UInt8} (h : bsOf a = bsOf b) : a = b := by rw [← bs_list a, h, bs_list]

/-- The slice at a, of len elements and capacity cap, reads as the strings ss, in one block that K names. -/
structure RdS (K : Nat → Prop) (W : World) (a : Option Addr) (len cap : Nat) (ss : List (List UInt8)) : Prop where
  hl : len = ss.length
  fit : len ≤ cap
  top : cap ≤ 9223372036854775807
  small : len ≤ 8796093021952
  wide : ∀ s ∈ ss, s.length ≤ maxLen
  cells : 0 < len → ∃ b off, a = some ⟨b, off, none⟩ ∧ K b ∧ b < W.heap.size ∧ ∀ j, j < len → W.cell? ⟨b, off + j, none⟩ = some (.string (bsOf (ss[j]?.getD [])))

theorem RdS.kept {K : Nat → Prop} {A B : World} {a : Option Addr} {len cap : Nat} {ss : List (List UInt8)} (h : RdS K A a len cap ss) (hk : Kept K A B) : RdS K B a len cap ss :=
  ⟨h.hl, h.fit, h.top, h.small, h.wide, fun h0 => by
    obtain ⟨b, off, e, hb, hlt, hc⟩ := h.cells h0
    exact ⟨b, off, e, hb, Nat.lt_of_lt_of_le hlt hk.size, fun j hj => (World.cell?_of_block (w := A) (hk.block b hlt hb)).trans (hc j hj)⟩⟩
theorem RdS.below {K : Nat → Prop} {A B : World} {a : Option Addr} {len cap : Nat} {ss : List (List UInt8)} (h : RdS K A a len cap ss) (hk : Below A.heap.size A B) : RdS K B a len cap ss :=
  ⟨h.hl, h.fit, h.top, h.small, h.wide, fun h0 => by
    obtain ⟨b, off, e, hb, hlt, hc⟩ := h.cells h0
    exact ⟨b, off, e, hb, Nat.lt_of_lt_of_le hlt hk.size, fun j hj => (World.cell?_of_block (w := A) (hk.block b hlt)).trans (hc j hj)⟩⟩
theorem RdS.mono {K K' : Nat → Prop} {A : World} {a : Option Addr} {len cap : Nat} {ss : List (List UInt8)} (h : RdS K A a len cap ss) (hk : ∀ b, b < A.heap.size → K b → K' b) : RdS K' A a len cap ss :=
  ⟨h.hl, h.fit, h.top, h.small, h.wide, fun h0 => by
    obtain ⟨b, off, e, hb, hlt, hc⟩ := h.cells h0
    exact ⟨b, off, e, hk b hlt hb, hlt, hc⟩⟩
theorem RdS.heap {K : Nat → Prop} {A B : World} {a : Option Addr} {len cap : Nat} {ss : List (List UInt8)} (h : RdS K A a len cap ss) (hk : B.heap = A.heap) : RdS K B a len cap ss :=
  ⟨h.hl, h.fit, h.top, h.small, h.wide, fun h0 => by
    obtain ⟨b, off, e, hb, hlt, hc⟩ := h.cells h0
    exact ⟨b, off, e, hb, by rw [hk]; exact hlt, fun j hj => (World.cell?_of_block (w := A) (by rw [hk])).trans (hc j hj)⟩⟩
theorem RdS.empty {K : Nat → Prop} {A : World} {a : Option Addr} : RdS K A a 0 0 [] := ⟨rfl, Nat.le_refl _, by decide, by decide, (fun s hs => by cases hs), fun h => absurd h (by decide)⟩
theorem RdS.wideAt {K : Nat → Prop} {A : World} {a : Option Addr} {len cap : Nat} {ss : List (List UInt8)} (h : RdS K A a len cap ss) (j : Nat) : (ss[j]?.getD []).length ≤ maxLen := by
  by_cases hj : j < ss.length
  · rw [List.getElem?_eq_getElem hj]; exact h.wide _ (List.getElem_mem hj)
  · rw [List.getElem?_eq_none (by omega)]; exact Nat.zero_le _

end Go.Proofs.YtnhffkgbnlnliaaGreatDoor
