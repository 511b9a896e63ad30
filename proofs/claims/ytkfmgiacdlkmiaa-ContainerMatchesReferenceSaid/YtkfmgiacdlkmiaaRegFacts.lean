/-
  A region that draws its order: a fact on what each operation yields, which stands as memory grows, from the facts on those that it waits for.
-/
import Derived.Orders
import Derived.Calls
import Derived.Below
import Derived.Shelf.Abstract
import Derived.WalkKit
namespace Go.Proofs.Ytkfmgiacdlkmiaa
open Go

/-- Which operations have come up: as a function. -/
def lit (listed : Array Bool) (i : Nat) : Bool := listed.getD i false
theorem lit_set {listed : Array Bool} {i j : Nat} (hi : i < listed.size) : lit (listed.setIfInBounds i true) j = (if j = i then true else lit listed j) := by
  unfold lit
  by_cases h : j = i
  · subst h; simp [hi]
  · rw [if_neg h]
    simp [Array.getD_eq_getD_getElem?, Ne.symm h]

/-- How many have not come up. -/
def left : Nat → Array Bool → Nat
  | 0, _ => 0
  | n + 1, listed => left n listed + (if lit listed n then 0 else 1)
theorem left_none : ∀ (n : Nat) {listed : Array Bool}, left n listed = 0 → ∀ i, i < n → lit listed i = true
  | 0, _, _, i, h => absurd h (Nat.not_lt_zero i)
  | n + 1, listed, h0, i, h => by
    unfold left at h0
    by_cases hn : lit listed n
    · by_cases e : i = n
      · rw [e]; exact hn
      · exact left_none n (by omega) i (by omega)
    · rw [if_neg hn] at h0; omega
theorem left_same {listed : Array Bool} {j : Nat} (hj : j < listed.size) : ∀ n, n ≤ j → left n (listed.setIfInBounds j true) = left n listed
  | 0, _ => rfl
  | n + 1, h => by
    unfold left
    rw [left_same hj n (by omega), lit_set hj, if_neg (show ¬ n = j by omega)]
theorem left_set {listed : Array Bool} {j : Nat} (hj : j < listed.size) (hf : lit listed j = false) : ∀ n, j < n → left n (listed.setIfInBounds j true) + 1 = left n listed
  | 0, h => absurd h (Nat.not_lt_zero j)
  | n + 1, h => by
    unfold left
    by_cases e : j = n
    · subst e
      rw [left_same hj j (Nat.le_refl _), lit_set hj, if_pos (show j = j from rfl), hf]; simp
    · rw [lit_set hj, if_neg (show ¬ n = j by omega)]
      have := left_set hj hf n (by omega)
      omega
theorem left_start : ∀ (n m : Nat), n ≤ m → left n (Array.replicate m false) = n
  | 0, _, _ => rfl
  | n + 1, m, h => by
    unfold left
    have e : lit (Array.replicate m false) n = false := by
      unfold lit; simp [Array.getD_eq_getD_getElem?, show n < m by omega]
    rw [left_start n m (by omega), e]; simp

/-- Each operation waits for earlier ones alone. -/
def lowB (md : Region.Mode) (ops : Array Oper) : Bool := (List.range ops.size).all fun i => ((ops[i]?).map fun o => o.after.all fun e => !Region.binds md e || decide (e.on < i)).getD true
theorem ready_some {md : Region.Mode} {ops : Array Oper} (hlow : lowB md ops = true) {listed : Array Bool} (hs : listed.size = ops.size) (hr : Region.ready md ops listed = []) : ∀ n i, i < n → i < ops.size → lit listed i = true := by
  intro n
  induction n with
  | zero => intro i h; omega
  | succ n ih =>
    intro i h hi
    by_cases hl : lit listed i = true
    · exact hl
    exfalso
    have hm : i ∈ Region.ready md ops listed := by
      rw [mem_ready]
      have hf : lit listed i = false := by simpa using hl
      refine ⟨?_, ops[i], Array.getElem?_eq_getElem hi, fun e he hb => ?_⟩
      · unfold lit at hf
        rw [Array.getD_eq_getD_getElem?, Array.getElem?_eq_getElem (by omega)] at hf ⊢
        exact hf
      · unfold lowB at hlow
        rw [List.all_eq_true] at hlow
        have h1 := hlow i (List.mem_range.2 hi)
        rw [Array.getElem?_eq_getElem hi] at h1
        simp only [Option.map_some, Option.getD_some] at h1
        rw [Array.all_eq_true_iff_forall_mem] at h1
        have h2 := h1 e he
        simp [hb] at h2
        exact ih e.on (by omega) (by omega)
    rw [hr] at hm; cases hm

variable {P : Program} {ops : Array Oper} {Q : Exit → Act → World → Prop} {md : Region.Mode}
theorem wpAny_inv {I : (Nat → Bool) → Act → World → Prop} (hlow : lowB md ops = true)
    (hstep : ∀ i o d a w, ops[i]? = some o → d i = false → (∀ e ∈ o.after, Region.binds md e = true → d e.on = true) → I d a w → wpOp P ops Q i (fun a' w' => I (fun j => if j = i then true else d j) a' w') a w)
    (hend : ∀ d a w, (∀ i, i < ops.size → d i = true) → I d a w → Q .normal a w) :
    ∀ fuel listed a w, listed.size = ops.size → left ops.size listed ≤ fuel → I (lit listed) a w → wpAny P md ops Q fuel listed a w := by
  intro fuel
  induction fuel with
  | zero =>
    intro listed a w hs hf hI
    have hall := left_none ops.size (Nat.le_zero.1 hf)
    refine ⟨?_, hend _ a w hall hI⟩
    apply List.eq_nil_iff_forall_not_mem.2
    intro i hi
    rw [mem_ready] at hi
    obtain ⟨h1, o, ho, _⟩ := hi
    have h2 := hall i (Array.getElem?_eq_some_iff.1 ho).1
    unfold lit at h2
    have h3 := (Array.getElem?_eq_some_iff.1 ho).1
    rw [Array.getD_eq_getD_getElem?, Array.getElem?_eq_getElem (by omega)] at h1 h2
    simp at h1 h2
    rw [h1] at h2; cases h2
  | succ fuel ih =>
    intro listed a w hs hf hI
    refine ⟨fun hr => hend _ a w (fun i hi => ready_some hlow hs hr (i + 1) i (Nat.lt_succ_self i) hi) hI, fun i hi => ?_⟩
    rw [mem_ready] at hi
    obtain ⟨h1, o, ho, hdep⟩ := hi
    have hlt := (Array.getElem?_eq_some_iff.1 ho).1
    have hf' : lit listed i = false := by
      unfold lit
      rw [Array.getD_eq_getD_getElem?, Array.getElem?_eq_getElem (by omega)] at h1 ⊢
      exact h1
    refine wpOp_mono (fun a' w' h => ?_) (hstep i o (lit listed) a w ho hf' hdep hI)
    refine ih _ a' w' (by simpa using hs) (by have := left_set (by omega) hf' ops.size hlt; omega) ?_
    have e : lit (listed.setIfInBounds i true) = fun j => if j = i then true else lit listed j := funext fun j => lit_set (by omega)
    rw [e]; exact h

/-- The beginning. -/
theorem wp_region_inv {I : (Nat → Bool) → Act → World → Prop} {id : Nat} {a : Act} {w : World} (hm : P.follows .mixedOrders = true) (hlow : lowB .any ops = true) (h0 : I (fun _ => false) a { w with drawn := w.drawn + 1 })
    (hstep : ∀ i o d a w, ops[i]? = some o → d i = false → (∀ e ∈ o.after, Region.binds .any e = true → d e.on = true) → I d a w → wpOp P ops Q i (fun a' w' => I (fun j => if j = i then true else d j) a' w') a w)
    (hend : ∀ d a w, (∀ i, i < ops.size → d i = true) → I d a w → Q .normal a w) : (Code.region id ops true).wp P Q a w := by
  refine wp_region_any hm ?_
  refine wpAny_inv (I := I) hlow hstep hend _ _ _ _ (by simp) (by rw [left_start _ _ (Nat.le_refl _)]; exact Nat.le_refl _) ?_
  have e : lit (Array.replicate ops.size false) = fun _ => false := funext fun j => by
    unfold lit; rw [Array.getD_eq_getD_getElem?]
    by_cases h : j < ops.size
    · simp [h]
    · simp [h]
  rw [e]; exact h0

end Go.Proofs.Ytkfmgiacdlkmiaa

namespace Go.Proofs.Ytkfmgiacdlkmiaa
open Go Go.RowKit Go.Shelf

/-- A fact on a value, in a world. -/
abbrev Fact := Value → World → Prop
def Fact.no : Fact := fun _ _ => True
/-- The value is just this. -/
def Fact.is (u : Value) : Fact := fun v _ => v = u
/-- It stands as memory grows. -/
def Fact.Stable (φ : Fact) : Prop := ∀ v W W', φ v W → Below W.heap.size W W' → φ v W'
theorem Fact.no_stable : Fact.no.Stable := fun _ _ _ _ _ => trivial
theorem Fact.is_stable (u : Value) : (Fact.is u).Stable := fun _ _ _ h _ => h
def AllStable : List Fact → Prop
  | [] => True
  | φ :: r => φ.Stable ∧ AllStable r
theorem AllStable.at {l : List Fact} (h : AllStable l) (i : Nat) : (l.getD i Fact.no).Stable := by
  induction l generalizing i with
  | nil => exact Fact.no_stable
  | cons φ r ih =>
    cases i with
    | zero => exact h.1
    | succ i => exact ih h.2 i

/-- Where the region writes nothing, all is as it was. -/
structure Agree (ops : Array Oper) (a0 a : Act) : Prop where
  size : a.tmps.size = a0.tmps.size
  defers : a.defers = a0.defers
  other : ∀ t, (∀ i : Nat, (ops[i]?).bind (·.dst) ≠ some t) → a.eval (.tmp t) = a0.eval (.tmp t)

/-- Each operation writes a slot of its own, which there is. -/
def outB (ops : Array Oper) (n : Nat) : Bool :=
  (List.range ops.size).all fun i => match (ops[i]?).bind (·.dst) with
    | some t => decide (t < n) && (List.range ops.size).all fun j => j == i || (ops[j]?).bind (·.dst) != some t
    | none => true
theorem outB_lt {ops : Array Oper} {n i t : Nat} (h : outB ops n = true) (hi : (ops[i]?).bind (·.dst) = some t) : t < n := by
  unfold outB at h
  rw [List.all_eq_true] at h
  have hlt : i < ops.size := by
    rcases Nat.lt_or_ge i ops.size with h' | h'
    · exact h'
    · rw [Array.getElem?_eq_none h'] at hi; cases hi
  have h1 := h i (List.mem_range.2 hlt)
  rw [hi] at h1
  simp at h1
  exact h1.1
theorem outB_ne {ops : Array Oper} {n i j t : Nat} (h : outB ops n = true) (hi : (ops[i]?).bind (·.dst) = some t) (hj : (ops[j]?).bind (·.dst) = some t) : j = i := by
  unfold outB at h
  rw [List.all_eq_true] at h
  have hlt : ∀ {k : Nat}, (ops[k]?).bind (·.dst) = some t → k < ops.size := fun {k} hk => by
    rcases Nat.lt_or_ge k ops.size with h' | h'
    · exact h'
    · rw [Array.getElem?_eq_none h'] at hk; cases hk
  have h1 := h i (List.mem_range.2 (hlt hi))
  rw [hi] at h1
  simp only [Bool.and_eq_true, List.all_eq_true] at h1
  have h2 := h1.2 j (List.mem_range.2 (hlt hj))
  rw [hj] at h2
  simpa using h2

theorem eval_put_self {a : Act} {t : Nat} (h : t < a.tmps.size) (v : Value) : (a.put (some t) v).eval (.tmp t) = v := by
  simp [Act.eval, Act.put, Array.getD_eq_getD_getElem?, h]
theorem eval_put_ne {a : Act} {t s : Nat} (h : s ≠ t) (v : Value) : (a.put (some s) v).eval (.tmp t) = a.eval (.tmp t) := by
  simp [Act.eval, Act.put, Array.getD_eq_getD_getElem?, Array.getElem?_setIfInBounds_ne h]

/-- What an operation may take for granted of those that it waits for. -/
def Waits (fs : List Fact) (ops : Array Oper) (a : Act) (W : World) : List Edge → Prop
  | [] => True
  | e :: r => (if Region.binds .any e then match (ops[e.on]?).bind (·.dst) with
      | some t => (fs.getD e.on Fact.no) (a.eval (.tmp t)) W
      | none => True else True) ∧ Waits fs ops a W r
/-- An operation yields a value of which the fact stands. -/
def StepOk (P : Program) (ops : Array Oper) (Q : Exit → Act → World → Prop) (φ : Fact) (o : Oper) (a : Act) (W : World) : Prop :=
  if Region.wanted o (yielded ops a.tmps) then o.wp P a W (fun a' W' => ∃ v, a' = a.put o.dst v ∧ Below W.heap.size W W' ∧ φ v W') Q else φ undef W
def Steps (P : Program) (ops : Array Oper) (Q : Exit → Act → World → Prop) (a0 : Act) (w0 : World) (fs : List Fact) : Nat → List Oper → Prop
  | _, [] => True
  | k, o :: r => (∀ a W, Agree ops a0 a → Below w0.heap.size w0 W → Waits fs ops a W o.after.toList → StepOk P ops Q (fs.getD k Fact.no) o a W) ∧ Steps P ops Q a0 w0 fs (k + 1) r
def Ends (fs : List Fact) (a : Act) (W : World) : Nat → List Oper → Prop
  | _, [] => True
  | k, o :: r => (match o.dst with
      | some t => (fs.getD k Fact.no) (a.eval (.tmp t)) W
      | none => True) ∧ Ends fs a W (k + 1) r

section
variable {P : Program} {ops : Array Oper} {Q : Exit → Act → World → Prop} {a0 : Act} {w0 : World} {fs : List Fact}

theorem Steps.at : ∀ {l : List Oper} {k : Nat}, Steps P ops Q a0 w0 fs k l → ∀ {i : Nat} {o : Oper}, l[i]? = some o → ∀ a W, Agree ops a0 a → Below w0.heap.size w0 W → Waits fs ops a W o.after.toList → StepOk P ops Q (fs.getD (k + i) Fact.no) o a W
  | [], _, _, i, o, hi => by simp at hi
  | o' :: r, k, h, 0, o, hi => by
    obtain rfl : o' = o := by simpa using hi
    exact h.1
  | o' :: r, k, h, i + 1, o, hi => by
    have := Steps.at h.2 (i := i) (o := o) (by simpa using hi)
    rwa [show k + 1 + i = k + (i + 1) by omega] at this
theorem Ends.of {a : Act} {W : World} : ∀ (l : List Oper) (k : Nat), (∀ i o t, l[i]? = some o → o.dst = some t → (fs.getD (k + i) Fact.no) (a.eval (.tmp t)) W) → Ends fs a W k l
  | [], _, _ => trivial
  | o :: r, k, h => by
    refine ⟨?_, Ends.of r (k + 1) fun i o' t hi ht => ?_⟩
    · cases hd : o.dst with
      | none => trivial
      | some t => exact h 0 o t rfl hd
    · have := h (i + 1) o' t (by simpa using hi) ht
      rwa [show k + (i + 1) = k + 1 + i by omega] at this
theorem Waits.of {a : Act} {W : World} : ∀ (l : List Edge), (∀ e ∈ l, Region.binds .any e = true → ∀ t, (ops[e.on]?).bind (·.dst) = some t → (fs.getD e.on Fact.no) (a.eval (.tmp t)) W) → Waits fs ops a W l
  | [], _ => trivial
  | e :: r, h => by
    refine ⟨?_, Waits.of r fun e' he => h e' (List.mem_cons_of_mem _ he)⟩
    split
    · rename_i hb
      cases hd : (ops[e.on]?).bind (·.dst) with
      | none => trivial
      | some t => exact h e (List.mem_cons_self ..) hb t hd
    · trivial

theorem wp_region_facts {id : Nat} (hm : P.follows .mixedOrders = true) (hlow : lowB .any ops = true) (hout : outB ops a0.tmps.size = true) (hst : AllStable fs)
    (hstep : Steps P ops Q a0 w0 fs 0 ops.toList) (hend : ∀ a W, Agree ops a0 a → Below w0.heap.size w0 W → Ends fs a W 0 ops.toList → Q .normal a W) : (Code.region id ops true).wp P Q a0 w0 := by
  refine wp_region_inv (I := fun d a W => Agree ops a0 a ∧ Below w0.heap.size w0 W ∧ ∀ i t, d i = true → (ops[i]?).bind (·.dst) = some t → (fs.getD i Fact.no) (a.eval (.tmp t)) W) hm hlow ?_ ?_ ?_
  · exact ⟨⟨rfl, rfl, fun _ _ => rfl⟩, ⟨rfl, rfl, rfl, Nat.le_refl _, fun _ _ => rfl⟩, fun i t h => by cases h⟩
  · intro i o d a W hi hdi hdep ⟨hA, hB, hF⟩
    have hs := Steps.at hstep (i := i) (o := o) (by simpa using hi) a W hA hB (Waits.of _ fun e he hb t ht => hF e.on t (hdep e (by simpa using he) hb) ht)
    rw [Nat.zero_add] at hs
    -- what stands behind the operation
    have hafter : ∀ v W', Below W.heap.size W W' → (fs.getD i Fact.no) v W' → Agree ops a0 (a.put o.dst v) ∧ Below w0.heap.size w0 W' ∧ ∀ j t, (if j = i then true else d j) = true → (ops[j]?).bind (·.dst) = some t → (fs.getD j Fact.no) ((a.put o.dst v).eval (.tmp t)) W' := by
      intro v W' hb hv
      have hio : (ops[i]?).bind (·.dst) = o.dst := by rw [hi]; rfl
      refine ⟨?_, hB.trans (hb.mono hB.size), fun j t hj ht => ?_⟩
      · cases hd : o.dst with
        | none => exact ⟨hA.size, hA.defers, hA.other⟩
        | some s =>
          refine ⟨by simp [Act.put, hA.size], by simp [Act.put, hA.defers], fun t ht => ?_⟩
          rw [eval_put_ne (fun e => ht i (by rw [hio, hd, e]))]
          exact hA.other t ht
      · by_cases hji : j = i
        · subst hji
          rw [hio] at ht
          rw [ht, eval_put_self (by rw [hA.size]; exact outB_lt hout (by rw [hio]; exact ht))]
          exact hv
        · rw [if_neg hji] at hj
          have h1 := hst.at j _ _ _ (hF j t hj ht) hb
          cases hd : o.dst with
          | none => exact h1
          | some s =>
            rw [eval_put_ne (fun e => hji (outB_ne hout (hio.trans (hd.trans (by rw [e]))) ht))]
            exact h1
    unfold wpOp
    simp only [hi]
    unfold StepOk at hs
    split
    · rename_i hw
      rw [if_pos hw] at hs
      exact .inl (Oper.wp_mono (fun a' W' ⟨v, e, hb, hv⟩ => by subst e; exact hafter v W' hb hv) hs)
    · rename_i hw
      rw [if_neg hw] at hs
      exact hafter undef W ⟨rfl, rfl, rfl, Nat.le_refl _, fun _ _ => rfl⟩ hs
  · intro d a W hall ⟨hA, hB, hF⟩
    refine hend a W hA hB (Ends.of _ _ fun i o t hi ht => ?_)
    rw [Nat.zero_add]
    have hi' : ops[i]? = some o := by simpa using hi
    exact hF i t (hall i (Array.getElem?_eq_some_iff.1 hi').1) (by rw [hi']; exact ht)

/-! ### The steps -/

theorem Below.self (W : World) : Below W.heap.size W W := ⟨rfl, rfl, rfl, Nat.le_refl _, fun _ _ => rfl⟩

/-- An operation that leaves memory alone. -/
theorem step_pure {φ : Fact} {o : Oper} {a : Act} {W : World} (hw : Region.wanted o (yielded ops a.tmps) = true) (v : Value) (hr : (execOp a.eval o).run P W = .ok (.value v) W) (hv : φ v W) : StepOk P ops Q φ o a W := by
  unfold StepOk
  rw [if_pos hw]
  unfold Oper.wp
  rw [hr]
  exact ⟨v, rfl, Below.self W, hv⟩
/-- An operation that lays memory. -/
theorem step_lays {φ : Fact} {o : Oper} {a : Act} {W : World} (hw : Region.wanted o (yielded ops a.tmps) = true) (v : Value) (W' : World) (hr : (execOp a.eval o).run P W = .ok (.value v) W') (hb : Below W.heap.size W W') (hv : φ v W') : StepOk P ops Q φ o a W := by
  unfold StepOk
  rw [if_pos hw]
  unfold Oper.wp
  rw [hr]
  exact ⟨v, rfl, hb, hv⟩
/-- A call. -/
theorem step_calls {φ : Fact} {o : Oper} {a : Act} {W : World} (hw : Region.wanted o (yielded ops a.tmps) = true) {f : FuncId} {args : Array Operand} {ts : Array TypeId}
    (ho : o.op = .call { callee := .value (.func f), args := args, argTypes := ts }) {vals : Array Value} (hs : args.map a.eval = vals) (eg : Enters P f)
    (hc : Calls P f vals W fun e W' => ∃ v, e = .returned v ∧ φ v W' ∧ Below W.heap.size W W') : StepOk P ops Q φ o a W := by
  unfold StepOk
  rw [if_pos hw]
  unfold Oper.wp
  simp [execOp, ho, resolve, invoke, hs, eg vals W, go_sem]
  exact hc.mono fun e w' ⟨v, he, hv, hb⟩ => by subst he; exact ⟨v, rfl, hb, hv⟩
/-- One that is passed over. -/
theorem step_not {φ : Fact} {o : Oper} {a : Act} {W : World} (hw : Region.wanted o (yielded ops a.tmps) = false) (hv : φ undef W) : StepOk P ops Q φ o a W := by
  unfold StepOk
  rw [if_neg (by rw [hw]; simp)]
  exact hv

theorem wanted_none {o : Oper} {tmps : Array Value} (h : o.guard = none) : Region.wanted o (yielded ops tmps) = true := by simp [Region.wanted, h]
theorem wanted_guard {o : Oper} {a : Act} {g : Nat} {p b : Bool} (h : o.guard = some (g, p)) (t : Nat) (hg : (ops[g]?).bind (·.dst) = some t) (hv : a.eval (.tmp t) = .bool b) : Region.wanted o (yielded ops a.tmps) = (b == p) := by
  have e : a.tmps[t]? = some (.bool b) := by
    simp only [Act.eval, Array.getD_eq_getD_getElem?] at hv
    cases h' : a.tmps[t]? with
    | none => rw [h'] at hv; simp [undef] at hv
    | some u => rw [h'] at hv; simp at hv; rw [hv]
  simp [Region.wanted, h, yielded, hg, e]

end

end Go.Proofs.Ytkfmgiacdlkmiaa

namespace Go.Proofs.Ytkfmgiacdlkmiaa
open Go Go.RowKit Go.Shelf

/-- It stands whatever becomes of memory from base on. -/
def Fact.Firm (base : Nat) (φ : Fact) : Prop := ∀ v W W', φ v W → Below base W W' → φ v W'
theorem Fact.is_firm (base : Nat) (u : Value) : (Fact.is u).Firm base := fun _ _ _ h _ => h
theorem Fact.no_firm (base : Nat) : Fact.no.Firm base := fun _ _ _ _ _ => trivial
def AllFirm (base : Nat) : List Fact → List Bool → Prop
  | φ :: r, b :: s => (b = true → φ.Firm base) ∧ AllFirm base r s
  | _, _ => True
theorem AllFirm.at {base : Nat} : ∀ {fs : List Fact} {bs : List Bool}, AllFirm base fs bs → ∀ i, bs.getD i false = true → (fs.getD i Fact.no).Firm base
  | [], _, _, _, _ => Fact.no_firm base
  | _ :: _, [], _, _, h => by simp at h
  | φ :: r, b :: s, h, 0, hb => h.1 hb
  | φ :: r, b :: s, h, i + 1, hb => AllFirm.at h.2 i hb

/-- j waits for k, by way of others. -/
def waitsB (ops : Array Oper) : Nat → Nat → Nat → Bool
  | 0, _, _ => false
  | f + 1, j, k => match ops[j]? with
    | some o => o.after.toList.any fun e => Region.binds .any e && (e.on == k || waitsB ops f e.on k)
    | none => false
def ClosedD (ops : Array Oper) (d : Nat → Bool) : Prop := ∀ j o, ops[j]? = some o → d j = true → ∀ e ∈ o.after, Region.binds .any e = true → d e.on = true
theorem waits_done {ops : Array Oper} {d : Nat → Bool} (hcl : ClosedD ops d) : ∀ f j k, waitsB ops f j k = true → d j = true → d k = true
  | 0, _, _, h, _ => by simp [waitsB] at h
  | f + 1, j, k, h, hj => by
    unfold waitsB at h
    cases ho : ops[j]? with
    | none => rw [ho] at h; cases h
    | some o =>
      rw [ho] at h
      simp only [List.any_eq_true, Bool.and_eq_true, Bool.or_eq_true, beq_iff_eq] at h
      obtain ⟨e, he, hb, hk⟩ := h
      have hd := hcl j o ho hj e (by simpa using he) hb
      rcases hk with rfl | hk
      · exact hd
      · exact waits_done hcl f e.on k hk hd
theorem waits_deps {ops : Array Oper} {d : Nat → Bool} (hcl : ClosedD ops d) {f i k : Nat} {o : Oper} (ho : ops[i]? = some o) (hdep : ∀ e ∈ o.after, Region.binds .any e = true → d e.on = true) (h : waitsB ops f i k = true) : d k = true := by
  cases f with
  | zero => simp [waitsB] at h
  | succ f =>
    unfold waitsB at h
    rw [ho] at h
    simp only [List.any_eq_true, Bool.and_eq_true, Bool.or_eq_true, beq_iff_eq] at h
    obtain ⟨e, he, hb, hk⟩ := h
    have hd := hdep e (by simpa using he) hb
    rcases hk with rfl | hk
    · exact hd
    · exact waits_done hcl f e.on k hk hd

/-- Each write meets no fact that it may end. -/
def writesB (ops : Array Oper) (us : List (Option Nat)) (bs : List Bool) (ws : List Nat) (f : Nat) : Bool :=
  ws.all fun k => (List.range ops.size).all fun j => j == k || us.getD j none == some k || bs.getD j false || waitsB ops f j k || (match us.getD j none with | some k' => waitsB ops f k k' | none => false)

/-- What an operation may take for granted of those that it waits for. -/
def Waits2 (us : List (Option Nat)) (fs : List Fact) (ops : Array Oper) (i : Nat) (a : Act) (W : World) : List Edge → Prop
  | [] => True
  | e :: r => (if (Region.binds .any e && (us.getD e.on none == none || us.getD e.on none == some i)) = true then match (ops[e.on]?).bind (·.dst) with
      | some t => (fs.getD e.on Fact.no) (a.eval (.tmp t)) W
      | none => True else True) ∧ Waits2 us fs ops i a W r
def StepOk2 (P : Program) (ops : Array Oper) (Q : Exit → Act → World → Prop) (base : Nat) (wr : Bool) (φ : Fact) (o : Oper) (a : Act) (W : World) : Prop :=
  if Region.wanted o (yielded ops a.tmps) then o.wp P a W (fun a' W' => ∃ v, a' = a.put o.dst v ∧ Below (if wr then base else W.heap.size) W W' ∧ φ v W') Q else φ undef W
def Steps2 (P : Program) (ops : Array Oper) (Q : Exit → Act → World → Prop) (a0 : Act) (w0 : World) (base : Nat) (us : List (Option Nat)) (ws : List Nat) (fs : List Fact) : Nat → List Oper → Prop
  | _, [] => True
  | k, o :: r => (∀ a W, Agree ops a0 a → Below base w0 W → Waits2 us fs ops k a W o.after.toList → StepOk2 P ops Q base (ws.contains k) (fs.getD k Fact.no) o a W) ∧ Steps2 P ops Q a0 w0 base us ws fs (k + 1) r
def Ends2 (us : List (Option Nat)) (fs : List Fact) (a : Act) (W : World) : Nat → List Oper → Prop
  | _, [] => True
  | k, o :: r => (match us.getD k none with
      | some _ => True
      | none => match o.dst with
        | some t => (fs.getD k Fact.no) (a.eval (.tmp t)) W
        | none => True) ∧ Ends2 us fs a W (k + 1) r

section
variable {P : Program} {ops : Array Oper} {Q : Exit → Act → World → Prop} {a0 : Act} {w0 : World} {base : Nat} {us : List (Option Nat)} {ws : List Nat} {fs : List Fact}

theorem Steps2.at : ∀ {l : List Oper} {k : Nat}, Steps2 P ops Q a0 w0 base us ws fs k l → ∀ {i : Nat} {o : Oper}, l[i]? = some o → ∀ a W, Agree ops a0 a → Below base w0 W → Waits2 us fs ops (k + i) a W o.after.toList → StepOk2 P ops Q base (ws.contains (k + i)) (fs.getD (k + i) Fact.no) o a W
  | [], _, _, i, o, hi => by simp at hi
  | o' :: r, k, h, 0, o, hi => by
    obtain rfl : o' = o := by simpa using hi
    exact h.1
  | o' :: r, k, h, i + 1, o, hi => by
    have := Steps2.at h.2 (i := i) (o := o) (by simpa using hi)
    rwa [show k + 1 + i = k + (i + 1) by omega] at this
theorem Ends2.of {a : Act} {W : World} : ∀ (l : List Oper) (k : Nat), (∀ i o t, l[i]? = some o → us.getD (k + i) none = none → o.dst = some t → (fs.getD (k + i) Fact.no) (a.eval (.tmp t)) W) → Ends2 us fs a W k l
  | [], _, _ => trivial
  | o :: r, k, h => by
    refine ⟨?_, Ends2.of r (k + 1) fun i o' t hi hu ht => ?_⟩
    · cases hu : us.getD k none with
      | some _ => trivial
      | none =>
        cases hd : o.dst with
        | none => trivial
        | some t => exact h 0 o t rfl hu hd
    · rw [show k + 1 + i = k + (i + 1) by omega] at hu ⊢
      exact h (i + 1) o' t (by simpa using hi) hu ht
theorem Waits2.of {i : Nat} {a : Act} {W : World} : ∀ (l : List Edge), (∀ e ∈ l, Region.binds .any e = true → (us.getD e.on none = none ∨ us.getD e.on none = some i) → ∀ t, (ops[e.on]?).bind (·.dst) = some t → (fs.getD e.on Fact.no) (a.eval (.tmp t)) W) → Waits2 us fs ops i a W l
  | [], _ => trivial
  | e :: r, h => by
    refine ⟨?_, Waits2.of r fun e' he => h e' (List.mem_cons_of_mem _ he)⟩
    split
    · rename_i hb
      rw [Bool.and_eq_true, Bool.or_eq_true] at hb
      cases hd : (ops[e.on]?).bind (·.dst) with
      | none => trivial
      | some t => exact h e (List.mem_cons_self ..) hb.1 (by simpa using hb.2) t hd
    · trivial

theorem wp_region_writes {id : Nat} {bs : List Bool} (f : Nat) (hm : P.follows .mixedOrders = true) (hlow : lowB .any ops = true) (hout : outB ops a0.tmps.size = true) (hwr : writesB ops us bs ws f = true) (hbase : base ≤ w0.heap.size)
    (hst : AllStable fs) (hfi : AllFirm base fs bs)
    (hstep : Steps2 P ops Q a0 w0 base us ws fs 0 ops.toList) (hend : ∀ a W, Agree ops a0 a → Below base w0 W → Ends2 us fs a W 0 ops.toList → Q .normal a W) : (Code.region id ops true).wp P Q a0 w0 := by
  refine wp_region_inv (I := fun d a W => Agree ops a0 a ∧ Below base w0 W ∧ ClosedD ops d ∧ ∀ i t, d i = true → (∀ k, us.getD i none = some k → d k = false) → (ops[i]?).bind (·.dst) = some t → (fs.getD i Fact.no) (a.eval (.tmp t)) W) hm hlow ?_ ?_ ?_
  · exact ⟨⟨rfl, rfl, fun _ _ => rfl⟩, ⟨rfl, rfl, rfl, Nat.le_refl _, fun _ _ => rfl⟩, fun _ _ (_ : _) (h : false = true) => (by cases h), fun i t (h : false = true) => (by cases h)⟩
  · intro i o d a W hi hdi hdep ⟨hA, hB, hC, hF⟩
    have hs := Steps2.at hstep (i := i) (o := o) (by simpa using hi) a W hA hB (Waits2.of _ fun e he hb hu t ht => by
      rw [Nat.zero_add] at hu
      refine hF e.on t (hdep e (by simpa using he) hb) (fun k hk => ?_) ht
      rcases hu with hu | hu
      · rw [hu] at hk; cases hk
      · rw [hu] at hk; cases hk; exact hdi)
    rw [Nat.zero_add] at hs
    have hiW : base ≤ W.heap.size := Nat.le_trans hbase hB.size
    have hafter : ∀ v W', Below (if ws.contains i then base else W.heap.size) W W' → (fs.getD i Fact.no) v W' → Agree ops a0 (a.put o.dst v) ∧ Below base w0 W' ∧ ClosedD ops (fun j => if j = i then true else d j) ∧ ∀ j t, (if j = i then true else d j) = true → (∀ k, us.getD j none = some k → (if k = i then true else d k) = false) → (ops[j]?).bind (·.dst) = some t → (fs.getD j Fact.no) ((a.put o.dst v).eval (.tmp t)) W' := by
      intro v W' hb hv
      have hio : (ops[i]?).bind (·.dst) = o.dst := by rw [hi]; rfl
      have hb0 : Below base W W' := by
        by_cases hw : ws.contains i = true
        · rw [if_pos hw] at hb; exact hb
        · rw [if_neg hw] at hb; exact hb.mono hiW
      refine ⟨?_, hB.trans hb0, fun j o' hj hdj e he hbe => ?_, fun j t hj hl ht => ?_⟩
      · cases hd : o.dst with
        | none => exact ⟨hA.size, hA.defers, hA.other⟩
        | some s =>
          refine ⟨by simp [Act.put, hA.size], by simp [Act.put, hA.defers], fun t ht => ?_⟩
          rw [eval_put_ne (fun e => ht i (by rw [hio, hd, e]))]
          exact hA.other t ht
      · by_cases hji : j = i
        · subst hji
          rw [hi] at hj
          cases hj
          show (if e.on = j then true else d e.on) = true
          by_cases h : e.on = j
          · rw [if_pos h]
          · rw [if_neg h]; exact hdep e he hbe
        · have hdj : (if j = i then true else d j) = true := hdj
          rw [if_neg hji] at hdj
          have := hC j o' hj hdj e he hbe
          show (if e.on = i then true else d e.on) = true
          by_cases h : e.on = i
          · rw [if_pos h]
          · rw [if_neg h]; exact this
      · by_cases hji : j = i
        · subst hji
          rw [hio] at ht
          rw [ht, eval_put_self (by rw [hA.size]; exact outB_lt hout (by rw [hio]; exact ht))]
          exact hv
        · rw [if_neg hji] at hj
          have hl' : ∀ k, us.getD j none = some k → d k = false := fun k hk => by
            have := hl k hk
            by_cases h : k = i
            · rw [if_pos h] at this; cases this
            · rwa [if_neg h] at this
          have h0 := hF j t hj hl' ht
          have h1 : (fs.getD j Fact.no) (a.eval (.tmp t)) W' := by
            by_cases hw : ws.contains i = true
            · rw [if_pos hw] at hb
              unfold writesB at hwr
              rw [List.all_eq_true] at hwr
              have h2 := hwr i (by simpa using hw)
              rw [List.all_eq_true] at h2
              have hjl : j < ops.size := by
                rcases Nat.lt_or_ge j ops.size with h' | h'
                · exact h'
                · rw [Array.getElem?_eq_none h'] at ht; cases ht
              have h3 := h2 j (List.mem_range.2 hjl)
              simp only [Bool.or_eq_true, beq_iff_eq] at h3
              rcases h3 with (((h3 | h3) | h3) | h3) | h3
              · exact absurd h3 hji
              · have := hl i h3
                rw [if_pos rfl] at this; cases this
              · exact hfi.at j h3 _ _ _ h0 hb
              · have := waits_done hC _ _ _ h3 hj
                rw [hdi] at this; cases this
              · cases hu : us.getD j none with
                | none => rw [hu] at h3; cases h3
                | some k' =>
                  rw [hu] at h3
                  have := waits_deps hC hi hdep h3
                  rw [hl' k' hu] at this; cases this
            · rw [if_neg hw] at hb
              exact hst.at j _ _ _ h0 hb
          cases hd : o.dst with
          | none => exact h1
          | some s =>
            rw [eval_put_ne (fun e => hji (outB_ne hout (hio.trans (hd.trans (by rw [e]))) ht))]
            exact h1
    unfold wpOp
    simp only [hi]
    unfold StepOk2 at hs
    split
    · rename_i hw
      rw [if_pos hw] at hs
      exact .inl (Oper.wp_mono (fun a' W' ⟨v, e, hb, hv⟩ => by subst e; exact hafter v W' hb hv) hs)
    · rename_i hw
      rw [if_neg hw] at hs
      exact hafter undef W ⟨rfl, rfl, rfl, Nat.le_refl _, fun _ _ => rfl⟩ hs
  · intro d a W hall ⟨hA, hB, hC, hF⟩
    refine hend a W hA hB (Ends2.of _ _ fun i o t hi hu ht => ?_)
    rw [Nat.zero_add] at hu ⊢
    have hi' : ops[i]? = some o := by simpa using hi
    exact hF i t (hall i (Array.getElem?_eq_some_iff.1 hi').1) (fun k hk => by rw [hu] at hk; cases hk) (by rw [hi']; exact ht)

/-! ### The steps -/

theorem StepOk2.below {W : World} {wr : Bool} (hb : base ≤ W.heap.size) {W' : World} (h : Below W.heap.size W W') : Below (if wr then base else W.heap.size) W W' := by
  cases wr with
  | true => exact h.mono hb
  | false => exact h
/-- One that writes nothing that was there is as in RegFacts. -/
theorem step2_of {φ : Fact} {o : Oper} {a : Act} {W : World} (h : StepOk P ops Q φ o a W) : StepOk2 P ops Q base false φ o a W := h
/-- An operation that writes from the base on. -/
theorem step2_writes {φ : Fact} {o : Oper} {a : Act} {W : World} (hw : Region.wanted o (yielded ops a.tmps) = true) (v : Value) (W' : World) (hr : (execOp a.eval o).run P W = .ok (.value v) W') (hb : Below base W W') (hv : φ v W') : StepOk2 P ops Q base true φ o a W := by
  unfold StepOk2
  rw [if_pos hw]
  unfold Oper.wp
  rw [hr]
  exact ⟨v, rfl, hb, hv⟩

end

/-- An operation whose guard was itself passed over. -/
theorem wanted_undef {ops : Array Oper} {o : Oper} {a : Act} {g : Nat} {p : Bool} (h : o.guard = some (g, p)) (t : Nat) (hg : (ops[g]?).bind (·.dst) = some t) (hv : a.eval (.tmp t) = undef) : Region.wanted o (yielded ops a.tmps) = false := by
  simp only [Act.eval, Array.getD_eq_getD_getElem?] at hv
  cases h' : a.tmps[t]? with
  | none => simp [Region.wanted, h, yielded, hg, h']
  | some u =>
    rw [h'] at hv
    simp at hv
    subst hv
    simp [Region.wanted, h, yielded, hg, h', undef]
/-- An append whose run is known, which may write from the base on. -/
theorem step2_append {P : Program} {ops : Array Oper} {Q : Exit → Act → World → Prop} {base : Nat} {φ : Fact} {o : Oper} {a : Act} {W : World} (hw : Region.wanted o (yielded ops a.tmps) = true) (s x : Operand) (t tn : TypeId)
    (ho : o.op = .call { callee := .builtin .append, args := #[s, x], argTypes := #[t, tn] }) {vs vx : Value} (hs : a.eval s = vs) (hx : a.eval x = vx)
    {v' : Value} {w' : World} (hr : (Builtin.append_ #[t, tn] o.type #[vs, vx]).run P W = .ok v' w') (hb : Below base W w') (hv : φ v' w') : StepOk2 P ops Q base true φ o a W := by
  unfold StepOk2
  rw [if_pos hw]
  unfold Oper.wp
  simp [execOp, ho, resolve, invoke, builtin, hs, hx, hr, Result.andThen]
  exact ⟨v', rfl, hb, hv⟩

/-! ### Behind the region: what it wrote, put one after the other -/

theorem lit_act (a : Act) (n : Nat) (h : a.tmps.size = n) : a = ⟨((List.range n).map fun t => a.eval (.tmp t)).toArray, a.defers⟩ := by
  obtain ⟨tm, ds⟩ := a
  subst h
  congr 1
  apply Array.ext
  · simp
  · intro i h1 h2
    simp only [Act.eval, List.getElem_toArray, List.getElem_map, List.getElem_range]
    rw [Array.getD_eq_getD_getElem?, Array.getElem?_eq_getElem h1]; rfl
theorem same_act {a b : Act} (hs : a.tmps.size = b.tmps.size) (hd : a.defers = b.defers) (h : ∀ t, t < b.tmps.size → a.eval (.tmp t) = b.eval (.tmp t)) : a = b := by
  have e : (List.range b.tmps.size).map (fun t => a.eval (.tmp t)) = (List.range b.tmps.size).map (fun t => b.eval (.tmp t)) := List.map_congr_left fun t ht => h t (List.mem_range.1 ht)
  have ea := lit_act a b.tmps.size hs
  have eb := lit_act b b.tmps.size rfl
  rw [e, hd] at ea
  exact ea.trans eb.symm
def putAll (f : Nat → Value) : List Nat → Act → Act
  | [], a => a
  | t :: r, a => putAll f r (a.put (some t) (f t))
theorem putAll_size (f : Nat → Value) : ∀ (D : List Nat) (a : Act), (putAll f D a).tmps.size = a.tmps.size
  | [], _ => rfl
  | t :: r, a => by rw [putAll, putAll_size f r]; simp [Act.put]
theorem putAll_defers (f : Nat → Value) : ∀ (D : List Nat) (a : Act), (putAll f D a).defers = a.defers
  | [], _ => rfl
  | t :: r, a => by rw [putAll, putAll_defers f r]; simp [Act.put]
theorem putAll_at (f : Nat → Value) : ∀ (D : List Nat) (a : Act) (i : Nat), i < a.tmps.size → (putAll f D a).eval (.tmp i) = if i ∈ D then f i else a.eval (.tmp i)
  | [], a, i, _ => by simp [putAll]
  | t :: r, a, i, hi => by
    rw [putAll, putAll_at f r _ i (by simpa [Act.put] using hi)]
    by_cases hr : i ∈ r
    · rw [if_pos hr, if_pos (List.mem_cons_of_mem _ hr)]
    · rw [if_neg hr]
      by_cases ht : t = i
      · subst ht
        rw [eval_put_self hi, if_pos (List.mem_cons_self ..)]
      · rw [eval_put_ne ht, if_neg]
        intro h
        rcases List.mem_cons.1 h with h | h
        · exact ht h.symm
        · exact hr h
/-- All that the region writes is among these slots. -/
def amongB (ops : Array Oper) (D : List Nat) : Bool := (List.range ops.size).all fun i => match (ops[i]?).bind (·.dst) with
  | some t => D.contains t
  | none => true
theorem Agree.puts {ops : Array Oper} {a0 a : Act} (h : Agree ops a0 a) (D : List Nat) (hD : amongB ops D = true) : a = putAll (fun t => a.eval (.tmp t)) D a0 := by
  refine same_act (by rw [putAll_size]; exact h.size) (by rw [putAll_defers]; exact h.defers) fun t ht => ?_
  rw [putAll_size] at ht
  rw [putAll_at _ _ _ _ ht]
  by_cases hm : t ∈ D
  · rw [if_pos hm]
  · rw [if_neg hm]
    refine h.other t fun i hi => hm ?_
    unfold amongB at hD
    rw [List.all_eq_true] at hD
    have hlt : i < ops.size := by
      rcases Nat.lt_or_ge i ops.size with h' | h'
      · exact h'
      · rw [Array.getElem?_eq_none h'] at hi; cases hi
    have := hD i (List.mem_range.2 hlt)
    rw [hi] at this
    simpa using this

/-! ### What is read in a region -/

theorem eval_const (a : Act) (v : Value) : a.eval (.const v) = v := rfl
theorem tm {a : Act} {t : Nat} {v : Value} (h : a.eval (.tmp t) = v) : a.tmps[t]?.getD undef = v := by rw [← h]; simp [Act.eval, Array.getD_eq_getD_getElem?]
/-- The region writes nothing there. -/
def freeB (ops : Array Oper) (t : Nat) : Bool := (List.range ops.size).all fun i => (ops[i]?).bind (·.dst) != some t
theorem Agree.at {ops : Array Oper} {a0 a : Act} (h : Agree ops a0 a) (t : Nat) (hf : freeB ops t = true) : a.eval (.tmp t) = a0.eval (.tmp t) := by
  refine h.other t fun i hi => ?_
  unfold freeB at hf
  rw [List.all_eq_true] at hf
  have hlt : i < ops.size := by
    rcases Nat.lt_or_ge i ops.size with h' | h'
    · exact h'
    · rw [Array.getElem?_eq_none h'] at hi; cases hi
  have := hf i (List.mem_range.2 hlt)
  rw [hi] at this
  simp at this

end Go.Proofs.Ytkfmgiacdlkmiaa
