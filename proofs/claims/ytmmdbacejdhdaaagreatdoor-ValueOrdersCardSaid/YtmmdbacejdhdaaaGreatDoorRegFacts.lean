/-
  A region that draws its order: a fact on what each operation yields, which stands as memory grows, from the facts on those that it waits for.
-/
import Derived.Test.YtmmdbacejdhdaaaGreatDoorRegInv
import Derived.Below
import Derived.Shelf.Abstract
import Derived.WalkKit
namespace Go.Proofs.YtmmdbacejdhdaaaGreatDoor
open Go Go.RowKit Go.Shelf

/-- A fact on a value, in a world. -/
abbrev Fact := Value → World → Prop
def Fact.no : Fact := fun _ _ => True
/-- The value is just this. -/
def Fact.is (u : Value) : Fact := fun v _ => v = u
/-- It stands as memory grows. -/
def Fact.Stable (φ : Fact) : Prop := ∀ v W W', φ v W → Below W.heap.size W W' → φ v W'
theorem Fact.no_stable : Fact.no.Stable := fun _ _ _ _ _ => trivial
theorem Fact.is_stable (u : Value) : (Fact.is u).Stable := fun _ _ _ h _ => h
def AllStable : List Fact → Prop
  | [] => True
  | φ :: r => φ.Stable ∧ AllStable r
theorem AllStable.at {l : List Fact} (h : AllStable l) (i : Nat) : (l.getD i Fact.no).Stable := by
  induction l generalizing i with
  | nil => exact Fact.no_stable
  | cons φ r ih =>
    cases i with
    | zero => exact h.1
    | succ i => exact ih h.2 i

/-- Where the region writes nothing, all is as it was. -/
structure Agree (ops : Array Oper) (a0 a : Act) : Prop where
  size : a.tmps.size = a0.tmps.size
  defers : a.defers = a0.defers
  other : ∀ t, (∀ i : Nat, (ops[i]?).bind (·.dst) ≠ some t) → a.eval (.tmp t) = a0.eval (.tmp t)

/-- Each operation writes a slot of its own, which there is. -/
def outB (ops : Array Oper) (n : Nat) : Bool :=
  (List.range ops.size).all fun i => match (ops[i]?).bind (·.dst) with
    | some t => decide (t < n) && (List.range ops.size).all fun j => j == i || (ops[j]?).bind (·.dst) != some t
    | none => true
theorem outB_lt {ops : Array Oper} {n i t : Nat} (h : outB ops n = true) (hi : (ops[i]?).bind (·.dst) = some t) : t < n := by
  unfold outB at h
  rw [List.all_eq_true] at h
  have hlt : i < ops.size := by
    rcases Nat.lt_or_ge i ops.size with h' | h'
    · exact h'
    · rw [Array.getElem?_eq_none h'] at hi; cases hi
  have h1 := h i (List.mem_range.2 hlt)
  rw [hi] at h1
  simp at h1
  exact h1.1
theorem outB_ne {ops : Array Oper} {n i j t : Nat} (h : outB ops n = true) (hi : (ops[i]?).bind (·.dst) = some t) (hj : (ops[j]?).bind (·.dst) = some t) : j = i := by
  unfold outB at h
  rw [List.all_eq_true] at h
  have hlt : ∀ {k : Nat}, (ops[k]?).bind (·.dst) = some t → k < ops.size := fun {k} hk => by
    rcases Nat.lt_or_ge k ops.size with h' | h'
    · exact h'
    · rw [Array.getElem?_eq_none h'] at hk; cases hk
  have h1 := h i (List.mem_range.2 (hlt hi))
  rw [hi] at h1
  simp only [Bool.and_eq_true, List.all_eq_true] at h1
  have h2 := h1.2 j (List.mem_range.2 (hlt hj))
  rw [hj] at h2
  simpa using h2

theorem eval_put_self {a : Act} {t : Nat} (h : t < a.tmps.size) (v : Value) : (a.put (some t) v).eval (.tmp t) = v := by
  simp [Act.eval, Act.put, Array.getD_eq_getD_getElem?, h]
theorem eval_put_ne {a : Act} {t s : Nat} (h : s ≠ t) (v : Value) : (a.put (some s) v).eval (.tmp t) = a.eval (.tmp t) := by
  simp [Act.eval, Act.put, Array.getD_eq_getD_getElem?, Array.getElem?_setIfInBounds_ne h]

/-- What an operation may take for granted of those that it waits for. -/
def Waits (fs : List Fact) (ops : Array Oper) (a : Act) (W : World) : List Edge → Prop
  | [] => True
  | e :: r => (if Region.binds .any e then match (ops[e.on]?).bind (·.dst) with
      | some t => (fs.getD e.on Fact.no) (a.eval (.tmp t)) W
      | none => True else True) ∧ Waits fs ops a W r
/-- An operation yields a value of which the fact stands. -/
def StepOk (P : Program) (ops : Array Oper) (Q : Exit → Act → World → Prop) (φ : Fact) (o : Oper) (a : Act) (W : World) : Prop :=
  if Region.wanted o (yielded ops a.tmps) then o.wp P a W (fun a' W' => ∃ v, a' = a.put o.dst v ∧ Below W.heap.size W W' ∧ φ v W') Q else φ undef W
def Steps (P : Program) (ops : Array Oper) (Q : Exit → Act → World → Prop) (a0 : Act) (w0 : World) (fs : List Fact) : Nat → List Oper → Prop
  | _, [] => True
  | k, o :: r => (∀ a W, Agree ops a0 a → Below w0.heap.size w0 W → Waits fs ops a W o.after.toList → StepOk P ops Q (fs.getD k Fact.no) o a W) ∧ Steps P ops Q a0 w0 fs (k + 1) r
def Ends (fs : List Fact) (a : Act) (W : World) : Nat → List Oper → Prop
  | _, [] => True
  | k, o :: r => (match o.dst with
      | some t => (fs.getD k Fact.no) (a.eval (.tmp t)) W
      | none => True) ∧ Ends fs a W (k + 1) r

section
variable {P : Program} {ops : Array Oper} {Q : Exit → Act → World → Prop} {a0 : Act} {w0 : World} {fs : List Fact}

theorem Steps.at : ∀ {l : List Oper} {k : Nat}, Steps P ops Q a0 w0 fs k l → ∀ {i : Nat} {o : Oper}, l[i]? = some o → ∀ a W, Agree ops a0 a → Below w0.heap.size w0 W → Waits fs ops a W o.after.toList → StepOk P ops Q (fs.getD (k + i) Fact.no) o a W
  | [], _, _, i, o, hi => by simp at hi
  | o' :: r, k, h, 0, o, hi => by
    obtain rfl : o' = o := by simpa using hi
    exact h.1
  | o' :: r, k, h, i + 1, o, hi => by
    have := Steps.at h.2 (i := i) (o := o) (by simpa using hi)
    rwa [show k + 1 + i = k + (i + 1) by omega] at this
theorem Ends.of {a : Act} {W : World} : ∀ (l : List Oper) (k : Nat), (∀ i o t, l[i]? = some o → o.dst = some t → (fs.getD (k + i) Fact.no) (a.eval (.tmp t)) W) → Ends fs a W k l
  | [], _, _ => trivial
  | o :: r, k, h => by
    refine ⟨?_, Ends.of r (k + 1) fun i o' t hi ht => ?_⟩
    · cases hd : o.dst with
      | none => trivial
      | some t => exact h 0 o t rfl hd
    · have := h (i + 1) o' t (by simpa using hi) ht
      rwa [show k + (i + 1) = k + 1 + i by omega] at this
theorem Waits.of {a : Act} {W : World} : ∀ (l : List Edge), (∀ e ∈ l, Region.binds .any e = true → ∀ t, (ops[e.on]?).bind (·.dst) = some t → (fs.getD e.on Fact.no) (a.eval (.tmp t)) W) → Waits fs ops a W l
  | [], _ => trivial
  | e :: r, h => by
    refine ⟨?_, Waits.of r fun e' he => h e' (List.mem_cons_of_mem _ he)⟩
    split
    · rename_i hb
      cases hd : (ops[e.on]?).bind (·.dst) with
      | none => trivial
      | some t => exact h e (List.mem_cons_self ..) hb t hd
    · trivial

theorem wp_region_facts {id : Nat} (hm : P.follows .mixedOrders = true) (hlow : lowB .any ops = true) (hout : outB ops a0.tmps.size = true) (hst : AllStable fs)
    (hstep : Steps P ops Q a0 w0 fs 0 ops.toList) (hend : ∀ a W, Agree ops a0 a → Below w0.heap.size w0 W → Ends fs a W 0 ops.toList → Q .normal a W) : (Code.region id ops true).wp P Q a0 w0 := by
  refine wp_region_inv (I := fun d a W => Agree ops a0 a ∧ Below w0.heap.size w0 W ∧ ∀ i t, d i = true → (ops[i]?).bind (·.dst) = some t → (fs.getD i Fact.no) (a.eval (.tmp t)) W) hm hlow ?_ ?_ ?_
  · exact ⟨⟨rfl, rfl, fun _ _ => rfl⟩, ⟨rfl, rfl, rfl, Nat.le_refl _, fun _ _ => rfl⟩, fun i t h => by cases h⟩
  · intro i o d a W hi hdi hdep ⟨hA, hB, hF⟩
    have hs := Steps.at hstep (i := i) (o := o) (by simpa using hi) a W hA hB (Waits.of _ fun e he hb t ht => hF e.on t (hdep e (by simpa using he) hb) ht)
    rw [Nat.zero_add] at hs
    -- what stands behind the operation
    have hafter : ∀ v W', Below W.heap.size W W' → (fs.getD i Fact.no) v W' → Agree ops a0 (a.put o.dst v) ∧ Below w0.heap.size w0 W' ∧ ∀ j t, (if j = i then true else d j) = true → (ops[j]?).bind (·.dst) = some t → (fs.getD j Fact.no) ((a.put o.dst v).eval (.tmp t)) W' := by
      intro v W' hb hv
      have hio : (ops[i]?).bind (·.dst) = o.dst := by rw [hi]; rfl
      refine ⟨?_, hB.trans (hb.mono hB.size), fun j t hj ht => ?_⟩
      · cases hd : o.dst with
        | none => exact ⟨hA.size, hA.defers, hA.other⟩
        | some s =>
          refine ⟨by simp [Act.put, hA.size], by simp [Act.put, hA.defers], fun t ht => ?_⟩
          rw [eval_put_ne (fun e => ht i (by rw [hio, hd, e]))]
          exact hA.other t ht
      · by_cases hji : j = i
        · subst hji
          rw [hio] at ht
          rw [ht, eval_put_self (by rw [hA.size]; exact outB_lt hout (by rw [hio]; exact ht))]
          exact hv
        · rw [if_neg hji] at hj
          have h1 := hst.at j _ _ _ (hF j t hj ht) hb
          cases hd : o.dst with
          | none => exact h1
          | some s =>
            rw [eval_put_ne (fun e => hji (outB_ne hout (hio.trans (hd.trans (by rw [e]))) ht))]
            exact h1
    unfold wpOp
    simp only [hi]
    unfold StepOk at hs
    split
    · rename_i hw
      rw [if_pos hw] at hs
      exact .inl (Oper.wp_mono (fun a' W' ⟨v, e, hb, hv⟩ => by subst e; exact hafter v W' hb hv) hs)
    · rename_i hw
      rw [if_neg hw] at hs
      exact hafter undef W ⟨rfl, rfl, rfl, Nat.le_refl _, fun _ _ => rfl⟩ hs
  · intro d a W hall ⟨hA, hB, hF⟩
    refine hend a W hA hB (Ends.of _ _ fun i o t hi ht => ?_)
    rw [Nat.zero_add]
    have hi' : ops[i]? = some o := by simpa using hi
    exact hF i t (hall i (Array.getElem?_eq_some_iff.1 hi').1) (by rw [hi']; exact ht)

/-! ### The steps -/

theorem Below.self (W : World) : Below W.heap.size W W := ⟨rfl, rfl, rfl, Nat.le_refl _, fun _ _ => rfl⟩

/-- An operation that leaves memory alone. -/
theorem step_pure {φ : Fact} {o : Oper} {a : Act} {W : World} (hw : Region.wanted o (yielded ops a.tmps) = true) (v : Value) (hr : (execOp a.eval o).run P W = .ok (.value v) W) (hv : φ v W) : StepOk P ops Q φ o a W := by
  unfold StepOk
  rw [if_pos hw]
  unfold Oper.wp
  rw [hr]
  exact ⟨v, rfl, Below.self W, hv⟩
/-- An operation that lays memory. -/
theorem step_lays {φ : Fact} {o : Oper} {a : Act} {W : World} (hw : Region.wanted o (yielded ops a.tmps) = true) (v : Value) (W' : World) (hr : (execOp a.eval o).run P W = .ok (.value v) W') (hb : Below W.heap.size W W') (hv : φ v W') : StepOk P ops Q φ o a W := by
  unfold StepOk
  rw [if_pos hw]
  unfold Oper.wp
  rw [hr]
  exact ⟨v, rfl, hb, hv⟩
/-- A call. -/
theorem step_calls {φ : Fact} {o : Oper} {a : Act} {W : World} (hw : Region.wanted o (yielded ops a.tmps) = true) {f : FuncId} {args : Array Operand} {ts : Array TypeId}
    (ho : o.op = .call { callee := .value (.func f), args := args, argTypes := ts }) {vals : Array Value} (hs : args.map a.eval = vals) (eg : Enters P f)
    (hc : Calls P f vals W fun e W' => ∃ v, e = .returned v ∧ φ v W' ∧ Below W.heap.size W W') : StepOk P ops Q φ o a W := by
  unfold StepOk
  rw [if_pos hw]
  unfold Oper.wp
  simp [execOp, ho, resolve, invoke, hs, eg vals W, go_sem]
  exact hc.mono fun e w' ⟨v, he, hv, hb⟩ => by subst he; exact ⟨v, rfl, hb, hv⟩
/-- One that is passed over. -/
theorem step_not {φ : Fact} {o : Oper} {a : Act} {W : World} (hw : Region.wanted o (yielded ops a.tmps) = false) (hv : φ undef W) : StepOk P ops Q φ o a W := by
  unfold StepOk
  rw [if_neg (by rw [hw]; simp)]
  exact hv

theorem wanted_none {o : Oper} {tmps : Array Value} (h : o.guard = none) : Region.wanted o (yielded ops tmps) = true := by simp [Region.wanted, h]
theorem wanted_guard {o : Oper} {a : Act} {g : Nat} {p b : Bool} (h : o.guard = some (g, p)) (t : Nat) (hg : (ops[g]?).bind (·.dst) = some t) (hv : a.eval (.tmp t) = .bool b) : Region.wanted o (yielded ops a.tmps) = (b == p) := by
  have e : a.tmps[t]? = some (.bool b) := by
    simp only [Act.eval, Array.getD_eq_getD_getElem?] at hv
    cases h' : a.tmps[t]? with
    | none => rw [h'] at hv; simp [undef] at hv
    | some u => rw [h'] at hv; simp at hv; rw [hv]
  simp [Region.wanted, h, yielded, hg, e]

end

end Go.Proofs.YtmmdbacejdhdaaaGreatDoor
