/-
  The forms of a list: what they store, how their sizes are summed.
-/
import Derived.Test.YtmbcppkdnoccbaaRnDiff
import Derived.Test.YtmbcppkdnoccbaaRnExpand
import Derived.Test.YtmbcppkdnoccbaaPkUnp3
import Derived.Laws.EntriesVeiled
namespace Go.Proofs.Ytmbcppkdnoccbaa
open Go.RowKit Go.Shelf Go.ChangeShapes Go.WideShapes Go.ChangeAt

/-- A call that is wanted, some of whose result is not named, as a step of a region that draws its order. -/
theorem step_call_some {P : Program} {ops : Array Oper} {o : Oper} {a : Act} {w : World} {K : Act → World → Prop} {Q : Exit → Act → World → Prop} {E : Prop} (hw : Region.wanted o (yielded ops a.tmps) = true) (f : FuncId) (args : Array Operand) (ts : Array TypeId)
    (ho : o.op = .call { callee := .value (.func f), args := args, argTypes := ts }) (vals : Array Value) (hs : args.map a.eval = vals) (eg : (callFunc f vals).run P w = .ok (.enter f vals) w)
    (R : Value → World → Prop) (hc : Calls P f vals w fun e w' => ∃ v, e = .returned v ∧ R v w') (hK : ∀ v w', R v w' → K (a.put o.dst v) w') : if Region.wanted o (yielded ops a.tmps) = true then Oper.wp P o a w K Q else E := by
  rw [if_pos hw]
  unfold Oper.wp
  simp [execOp, ho, resolve, invoke, hs, eg, go_sem]
  exact hc.mono fun e w' ⟨v, he, hr⟩ => by subst he; exact hK v w' hr

/-- The same, where the callee is the value of an operand. -/
theorem step_call_val {P : Program} {ops : Array Oper} {o : Oper} {a : Act} {w : World} {K : Act → World → Prop} {Q : Exit → Act → World → Prop} {E : Prop} (hw : Region.wanted o (yielded ops a.tmps) = true) (t : Nat) (f : FuncId) (lb : Array Value) (args : Array Operand) (ts : Array TypeId)
    (ho : o.op = .call { callee := .value (.tmp t), args := args, argTypes := ts }) (ht : a.tmps[t]?.getD undef = .func (.func f) #[] lb) (vals : Array Value) (hs : args.map a.eval = vals) (eg : (callFunc f (vals ++ lb)).run P w = .ok (.enter f (vals ++ lb)) w)
    (R : Value → World → Prop) (hc : Calls P f (vals ++ lb) w fun e w' => ∃ v, e = .returned v ∧ R v w') (hK : ∀ v w', R v w' → K (a.put o.dst v) w') : if Region.wanted o (yielded ops a.tmps) = true then Oper.wp P o a w K Q else E := by
  rw [if_pos hw]
  unfold Oper.wp
  simp [execOp, ho, resolve, invoke, hs, ht, eg, go_sem]
  exact hc.mono fun e w' ⟨v, he, hr⟩ => by subst he; exact hK v w' hr

/-- An append that is wanted, whose run is known, as a step of a region that draws its order. -/
theorem step_append_want {P : Program} {ops : Array Oper} {o : Oper} {a : Act} {w : World} {K : Act → World → Prop} {Q : Exit → Act → World → Prop} {E : Prop} (hw : Region.wanted o (yielded ops a.tmps) = true) (s x : Operand) (t tn : TypeId)
    (ho : o.op = .call { callee := .builtin .append, args := #[s, x], argTypes := #[t, tn] }) (vs vx : Value) (hs : a.eval s = vs) (hx : a.eval x = vx)
    (v' : Value) (w' : World) (hr : (Builtin.append_ #[t, tn] o.type #[vs, vx]).run P w = .ok v' w') (hK : K (a.put o.dst v') w') : if Region.wanted o (yielded ops a.tmps) = true then Oper.wp P o a w K Q else E := by
  rw [if_pos hw]
  unfold Oper.wp
  simp [execOp, ho, resolve, invoke, builtin, hs, hx, hr, Result.andThen]
  exact hK

/-! ### What is stored -/

/-- The lists that are packed for a list, by the number of the form. -/
def partsS (k : Nat) (zs : List Int) : List (List Int) :=
  match k with
  | 0 => [zs]
  | 1 => [vals zs, lens zs]
  | 2 => [dfS zs]
  | _ => [vals (dfS zs), lens (dfS zs)]

/-- Slices of integers that lie one behind the other in the block g. -/
structure PartsAt (W : World) (g : Nat) (pss : List (List Int)) : Prop where
  lt : g < W.heap.size
  part : ∀ i ps, pss[i]? = some ps → ∃ a n c, W.cell? ⟨g, 0 + i, none⟩ = some (.slice a n c) ∧ Rd (fun _ => True) W .i64 a n c ps

theorem PartsAt.below {A B : World} {g : Nat} {pss : List (List Int)} (h : PartsAt A g pss) (hb : Below A.heap.size A B) : PartsAt B g pss :=
  ⟨Nat.lt_of_lt_of_le h.lt hb.size, fun i ps hi => by
    obtain ⟨a, n, c, h1, h2⟩ := h.part i ps hi
    exact ⟨a, n, c, (hb.cell (p := ⟨g, 0 + i, none⟩) h.lt).trans h1, h2.below hb⟩⟩

/-- What a function that makes parts gives back. -/
def PartsPost (w : World) (pss : List (List Int)) (e : Ending) (W' : World) : Prop :=
  ∃ g m, e = .returned (.slice (some ⟨g, 0, none⟩) m m) ∧ m = pss.length ∧ PartsAt W' g pss ∧ Below w.heap.size w W'

theorem whole_any {K : Nat → Prop} {a : Option Addr} {len cap : Nat} {zs : List Int} {W : World} (hR : Rd K W .i64 a len cap zs) :
    Calls Try.prog 74 #[.slice a len cap] W (PartsPost W [zs]) := by
  have HR := Lib.hid (hR.mono (K' := fun _ => True) fun _ _ _ => trivial)
  clear hR
  go_enter Try.func74, Try.ntmps74
  go_wp2
  go_ret
  have hb := (Below.refl W.heap.size W).alloc (Nat.le_refl _) (.cells #[.slice a len cap] 22)
  refine ⟨_, 1, rfl, rfl, ⟨by simp, fun i ps hi => ?_⟩, hb⟩
  have : i = 0 := by
    have := (List.getElem?_eq_some_iff.1 hi).1
    simpa using this
  subst this
  obtain rfl : zs = ps := by simpa using hi
  exact ⟨a, len, cap, (Boxed.new W 22 _).cell, HR.out.below hb⟩

theorem both_any {K : Nat → Prop} {a : Option Addr} {len cap : Nat} {zs : List Int} {W : World} (hR : Rd K W .i64 a len cap zs) (hl40 : len ≤ 1099511627776) :
    Calls Try.prog 76 #[.slice a len cap] W (PartsPost W [vals zs, lens zs]) := by
  have HRU := Lib.hid (runs_any hR hl40)
  clear hR
  go_enter Try.func76, Try.ntmps76
  go_wp2_with fail
  refine HRU.out.mono ?_
  rintro e w1 ⟨a1, n1, c1, a2, n2, c2, rfl, hr1, hr2, hb1⟩
  have HR1 := Lib.hid (hr1.mono (K' := fun _ => True) fun _ _ _ => trivial)
  have HR2 := Lib.hid (hr2.mono (K' := fun _ => True) fun _ _ _ => trivial)
  have HB1 := Lib.hid hb1
  clear hr1 hr2 hb1
  go_wp2
  go_ret
  have hb := (Below.refl w1.heap.size w1).alloc (Nat.le_refl _) (.cells #[.slice a1 n1 c1, .slice a2 n2 c2] 22)
  have hP := Pair.new w1 22 (.slice a1 n1 c1) (.slice a2 n2 c2)
  refine ⟨_, 2, rfl, rfl, ⟨by simp, fun i ps hi => ?_⟩, HB1.out.trans (hb.mono HB1.out.size)⟩
  have hi2 := (List.getElem?_eq_some_iff.1 hi).1
  simp at hi2
  rcases (by omega : i = 0 ∨ i = 1) with rfl | rfl
  · obtain rfl : vals zs = ps := by simpa using hi
    exact ⟨a1, n1, c1, hP.c0, HR1.out.below hb⟩
  · obtain rfl : lens zs = ps := by simpa using hi
    exact ⟨a2, n2, c2, hP.c1, HR2.out.below hb⟩

theorem ofd_any (f1 f2 : Value) (w : World) :
    Calls Try.prog 78 #[.agg #[f1, f2]] w fun e w' =>
      (∃ B, e = .returned (.agg #[.func (.func 99) #[] #[.pointer (some ⟨B, 0, none⟩)], .func (.func 100) #[] #[.pointer (some ⟨B, 0, none⟩)]]) ∧ w.heap.size ≤ B ∧ Pair w' B 84 f1 f2) ∧ Below w.heap.size w w' := by
  go_enter Try.func78, Try.ntmps78
  go_wp2
  refine bodyPost_ret (v := .agg #[.func (.func 99) #[] #[.pointer (some ⟨w.heap.size, 0, none⟩)], .func (.func 100) #[] #[.pointer (some ⟨w.heap.size, 0, none⟩)]])
    (by simp [results, Try.results78, go_sem]) rfl ⟨⟨w.heap.size, rfl, Nat.le_refl _, ?_⟩, ?_⟩
  · exact (Pair.new w 84 f1 f2).alloc _
  · exact ((Below.refl _ _).alloc (Nat.le_refl _) _).alloc (by simp) _

theorem ofd_some (f1 f2 : Value) (w : World) :
    Calls Try.prog 78 #[.agg #[f1, f2]] w fun e w' => ∃ v, e = .returned v ∧ ((∃ B, v = .agg #[.func (.func 99) #[] #[.pointer (some ⟨B, 0, none⟩)], .func (.func 100) #[] #[.pointer (some ⟨B, 0, none⟩)]] ∧ w.heap.size ≤ B ∧ Pair w' B 84 f1 f2) ∧ Below w.heap.size w w') :=
  (ofd_any f1 f2 w).mono fun _ _ ⟨⟨B, he, h⟩, hb⟩ => ⟨_, he, ⟨B, rfl, h⟩, hb⟩

/-- The two forms of a list itself lie in the blocks B and B + 1. -/
structure FM (w : World) (B : Nat) (V : World) : Prop where
  p : Pair V B 84 (.func (.func 74) #[] #[]) (.func (.func 75) #[] #[])
  q : Pair V (B + 1) 84 (.func (.func 76) #[] #[]) (.func (.func 77) #[] #[])
  b : Below w.heap.size w V
theorem FM.later {w V U : World} {B : Nat} (h : FM w B V) (hb : Below V.heap.size V U) : FM w B U :=
  ⟨(hb.block _ h.p.lt).trans h.p, (hb.block _ h.q.lt).trans h.q, h.b.trans (hb.mono h.b.size)⟩
theorem FM.drew {w V : World} {B : Nat} (h : FM w B V) : FM w B V.drew := ⟨h.p, h.q, below_drew h.b⟩

/-- The forms. -/
def formsV (p q : Nat) : Value := .agg #[.func (.func 74) #[] #[], .func (.func 75) #[] #[], .func (.func 76) #[] #[], .func (.func 77) #[] #[],
  .func (.func 99) #[] #[.pointer (some ⟨p, 0, none⟩)], .func (.func 100) #[] #[.pointer (some ⟨p, 0, none⟩)],
  .func (.func 99) #[] #[.pointer (some ⟨q, 0, none⟩)], .func (.func 100) #[] #[.pointer (some ⟨q, 0, none⟩)]]

theorem eight {V : World} {B : Nat} {t : TypeId} (h : V.heap[B]? = some (.cells #[.nilFunc, .nilFunc, .nilFunc, .nilFunc, .nilFunc, .nilFunc, .nilFunc, .nilFunc] t (0, 0))) :
    (V.cell? ⟨B, 0, none⟩ = some .nilFunc ∧ V.cell? ⟨B, 1, none⟩ = some .nilFunc ∧ V.cell? ⟨B, 2, none⟩ = some .nilFunc ∧ V.cell? ⟨B, 3, none⟩ = some .nilFunc ∧ V.cell? ⟨B, 4, none⟩ = some .nilFunc ∧ V.cell? ⟨B, 5, none⟩ = some .nilFunc ∧ V.cell? ⟨B, 6, none⟩ = some .nilFunc ∧ V.cell? ⟨B, 7, none⟩ = some .nilFunc) ∧
    ∀ o, V.frozen? ⟨B, o, none⟩ = false := by
  simp [World.cell?, World.frozen?, h]

def FormsPost (w : World) (e : Ending) (W' : World) : Prop :=
  ∃ p q, e = .returned (formsV p q) ∧ Pair W' p 84 (.func (.func 74) #[] #[]) (.func (.func 75) #[] #[]) ∧
    Pair W' q 84 (.func (.func 76) #[] #[]) (.func (.func 77) #[] #[]) ∧ Below w.heap.size w W'

end Go.Proofs.Ytmbcppkdnoccbaa
