/-
  Four cells in a block; a row that is laid, read.
-/
import Derived.Test.YtdcapmbgnoahpaaPkSame1
namespace Go.Proofs.Ytdcapmbgnoahpaa
open Go.RowKit Go.Shelf Go.ChangeShapes Go.WideShapes Go.ChangeAt

/-- Four cells in a block of their own. -/
def Quad (W : World) (B : Nat) (t : TypeId) (a b c d : Value) : Prop := W.heap[B]? = some (.cells #[a, b, c, d] t (0, 0))
theorem Quad.cell {W : World} {B : Nat} {t : TypeId} {a b c d : Value} (h : Quad W B t a b c d) : W.cell? ⟨B, 0, none⟩ = some a ∧ W.cell? ⟨B, 1, none⟩ = some b ∧ W.cell? ⟨B, 2, none⟩ = some c ∧ W.cell? ⟨B, 3, none⟩ = some d := by
  have h : W.heap[B]? = _ := h
  simp [World.cell?, h]
theorem Quad.f {W : World} {B : Nat} {t : TypeId} {a b c d : Value} (h : Quad W B t a b c d) (o : Nat) : W.frozen? ⟨B, o, none⟩ = false := by simp [World.frozen?, show W.heap[B]? = _ from h]
theorem Quad.lt {W : World} {B : Nat} {t : TypeId} {a b c d : Value} (h : Quad W B t a b c d) : B < W.heap.size := (Array.getElem?_eq_some_iff.1 h).1
theorem Quad.new (W : World) (t : TypeId) (a b c d : Value) : Quad (W.alloc (.cells #[a, b, c, d] t)) W.heap.size t a b c d := World.alloc_heap_new W _
theorem Quad.below {W V : World} {B n : Nat} {t : TypeId} {a b c d : Value} (h : Quad W B t a b c d) (hb : Below n W V) (hn : B < n) : Quad V B t a b c d := (hb.block B hn).trans h

theorem Rd.new (W : World) (k : IntKind) (t : TypeId) (zs : List Int) (n : Nat) (hn : n = zs.length) (hs : n ≤ 140737488351232) : Rd (fun b => W.heap.size ≤ b) (W.alloc (.cells (zs.map (Value.int k)).toArray t)) k (some ⟨W.heap.size, 0, none⟩) n n zs :=
  ⟨hn, Nat.le_refl _, by omega, hs, fun _ => ⟨W.heap.size, 0, rfl, Nat.le_refl _, by simp, fun j hj => by
    have h0 := World.alloc_heap_new W (.cells (zs.map (Value.int k)).toArray t)
    unfold World.cell?
    rw [h0]
    simp [List.getElem?_map, List.getElem?_eq_getElem (show j < zs.length by omega)]⟩⟩

end Go.Proofs.Ytdcapmbgnoahpaa
