/-
  Steps of regions that draw their order, and what lies in a block of its own.
-/
import Derived.Test.YtllpnhegelddlaaDcPart
namespace Go.Proofs.Ytllpnhegelddlaa
open Go Go.RowKit Go.Shelf Go.ChangeShapes Go.WideShapes Go.ChangeAt

/-- A call that is wanted, some of whose result is not named, as a step of a region that draws its order. -/
theorem step5_some {P : Program} {ops : Array Oper} {o : Oper} {a : Act} {w : World} {K : Act → World → Prop} {Q : Exit → Act → World → Prop} {E : Prop} (hw : Region.wanted o (yielded ops a.tmps) = true) (f : FuncId) (args : Array Operand) (ts : Array TypeId)
    (ho : o.op = .call { callee := .value (.func f), args := args, argTypes := ts }) (vals : Array Value) (hs : args.map a.eval = vals) (eg : (callFunc f vals).run P w = .ok (.enter f vals) w)
    (R : Value → World → Prop) (hc : Calls P f vals w fun e w' => ∃ v, e = .returned v ∧ R v w') (hK : ∀ v w', R v w' → K (a.put o.dst v) w') : if Region.wanted o (yielded ops a.tmps) = true then Oper.wp P o a w K Q else E := by
  rw [if_pos hw]
  unfold Oper.wp
  simp [execOp, ho, resolve, invoke, hs, eg, go_sem]
  exact hc.mono fun e w' ⟨v, he, hr⟩ => by subst he; exact hK v w' hr

/-- A call that is wanted, whose contract is known, as a step of a region that draws its order. -/
theorem step5_want {P : Program} {ops : Array Oper} {o : Oper} {a : Act} {w : World} {K : Act → World → Prop} {Q : Exit → Act → World → Prop} {E : Prop} (hw : Region.wanted o (yielded ops a.tmps) = true) (f : FuncId) (args : Array Operand) (ts : Array TypeId)
    (ho : o.op = .call { callee := .value (.func f), args := args, argTypes := ts }) (vals : Array Value) (hs : args.map a.eval = vals) (eg : (callFunc f vals).run P w = .ok (.enter f vals) w)
    (v : Value) (R : World → Prop) (hc : Calls P f vals w fun e w' => e = .returned v ∧ R w') (hK : ∀ w', R w' → K (a.put o.dst v) w') : if Region.wanted o (yielded ops a.tmps) = true then Oper.wp P o a w K Q else E := by
  rw [if_pos hw]
  unfold Oper.wp
  simp [execOp, ho, resolve, invoke, hs, eg, go_sem]
  exact hc.mono fun e w' ⟨he, hr⟩ => by subst he; exact hK w' hr

/-- An append that is wanted, whose run is known, as a step of a region that draws its order. -/
theorem step5_append {P : Program} {ops : Array Oper} {o : Oper} {a : Act} {w : World} {K : Act → World → Prop} {Q : Exit → Act → World → Prop} {E : Prop} (hw : Region.wanted o (yielded ops a.tmps) = true) (s x : Operand) (t tn : TypeId)
    (ho : o.op = .call { callee := .builtin .append, args := #[s, x], argTypes := #[t, tn] }) (vs vx : Value) (hs : a.eval s = vs) (hx : a.eval x = vx)
    (v' : Value) (w' : World) (hr : (Builtin.append_ #[t, tn] o.type #[vs, vx]).run P w = .ok v' w') (hK : K (a.put o.dst v') w') : if Region.wanted o (yielded ops a.tmps) = true then Oper.wp P o a w K Q else E := by
  rw [if_pos hw]
  unfold Oper.wp
  simp [execOp, ho, resolve, invoke, builtin, hs, hx, hr, Result.andThen]
  exact hK

/-- A struct of two cells in a block of its own. -/
def Pair5 (W : World) (B : Nat) (t : TypeId) (a b : Value) : Prop := W.heap[B]? = some (.cells #[a, b] t (0, 0))
theorem Pair5.lt {W : World} {B : Nat} {t : TypeId} {a b : Value} (h : Pair5 W B t a b) : B < W.heap.size := (Array.getElem?_eq_some_iff.1 h).1
theorem Pair5.c0 {W : World} {B : Nat} {t : TypeId} {a b : Value} (h : Pair5 W B t a b) : W.cell? ⟨B, 0, none⟩ = some a := by simp [World.cell?, show W.heap[B]? = _ from h]
theorem Pair5.c1 {W : World} {B : Nat} {t : TypeId} {a b : Value} (h : Pair5 W B t a b) : W.cell? ⟨B, 1, none⟩ = some b := by simp [World.cell?, show W.heap[B]? = _ from h]
theorem Pair5.f {W : World} {B : Nat} {t : TypeId} {a b : Value} (h : Pair5 W B t a b) (o : Nat) : W.frozen? ⟨B, o, none⟩ = false := by simp [World.frozen?, show W.heap[B]? = _ from h]
theorem Pair5.new (W : World) (t : TypeId) (a b : Value) : Pair5 (W.alloc (.cells #[a, b] t)) W.heap.size t a b := World.alloc_heap_new W _
theorem Pair5.below {W V : World} {B n : Nat} {t : TypeId} {a b : Value} (h : Pair5 W B t a b) (hb : Below n W V) (hn : B < n) : Pair5 V B t a b := (hb.block B hn).trans h

/-- What was made ahead of a call lies there behind it. -/
theorem Tri5.over {V W3 : World} {t : TypeId} {a b c : Value} (h : Below (V.alloc (.cells #[a, b, c] t)).drew.heap.size (V.alloc (.cells #[a, b, c] t)).drew W3) : Tri5 W3 V.heap.size t a b c :=
  (h.block V.heap.size (by show V.heap.size < (V.alloc _).heap.size; simp)).trans (World.alloc_heap_new V _)
theorem below_over5 {V W3 w : World} {o : Obj} (hb : Below w.heap.size w V) (h : Below (V.alloc o).drew.heap.size (V.alloc o).drew W3) : Below w.heap.size w W3 :=
  have h1 : Below w.heap.size w (V.alloc o).drew := below_drew5 (hb.alloc hb.size _)
  h1.trans (h.mono h1.size)

/-- Laid into it, cell by cell. -/
theorem Tri5.put {W : World} {B : Nat} {t : TypeId} {a b c a' b' c' : Value} (h : Tri5 W B t a b c) : Tri5 (((W.setCell ⟨B, 0, none⟩ a').setCell ⟨B, 1, none⟩ b').setCell ⟨B, 2, none⟩ c') B t a' b' c' := by
  have h : W.heap[B]? = _ := h
  unfold Tri5 World.setCell
  simp only []
  rw [Array.getElem?_modify, if_pos rfl, Array.getElem?_modify, if_pos rfl, Array.getElem?_modify, if_pos rfl, h]
  rfl

end Go.Proofs.Ytllpnhegelddlaa
