/-
  A drawn region that appends in place to rows of bytes of its own: facts on blocks of any other kind stand all the same.
-/
import Derived.Test.YtohobiglnebocaaRegFacts
namespace Go.Proofs.Ytohobiglnebocaa
open Go Go.RowKit Go.Shelf

/-- Of what there was, only rows of bytes from base on may turn. -/
structure Near (base : Nat) (W W' : World) : Prop where
  os : W'.os = W.os
  tape : W'.tape = W.tape
  output : W'.output = W.output
  size : W.heap.size ≤ W'.heap.size
  block : ∀ k, k < W.heap.size → (k < base ∨ ¬ ∃ cs fr, W.heap[k]? = some (.cells cs 5 fr)) → W'.heap[k]? = W.heap[k]?
theorem Near.below {base : Nat} {W W' : World} (h : Near base W W') (hb : base ≤ W.heap.size) : Below base W W' := ⟨h.os, h.tape, h.output, h.size, fun k hk => h.block k (Nat.lt_of_lt_of_le hk hb) (.inl hk)⟩
theorem Near.of_below {base : Nat} {W W' : World} (h : Below W.heap.size W W') : Near base W W' := ⟨h.os, h.tape, h.output, h.size, fun k hk _ => h.block k hk⟩
/-- A row of bytes is written, or new memory is laid. -/
theorem Near.grown {base : Nat} {W W' : World} {r : Option Nat} (h : W.grownBy W' r) (hr : ∀ k, r = some k → base ≤ k ∧ ∃ cs fr, W.heap[k]? = some (.cells cs 5 fr)) : Near base W W' :=
  ⟨h.os, h.tape, h.output, h.size, fun k hk hc => h.block k hk (fun e => by
    obtain ⟨h1, h2⟩ := hr k e.symm
    rcases hc with hc | hc
    · omega
    · exact hc h2)⟩
def ChgN (wr : Bool) (base : Nat) (W W' : World) : Prop := if wr then Near base W W' else Below W.heap.size W W'
theorem ChgN.refl (wr : Bool) (base : Nat) (W : World) : ChgN wr base W W := by
  unfold ChgN
  split
  · exact Near.of_below ⟨rfl, rfl, rfl, Nat.le_refl _, fun _ _ => rfl⟩
  · exact ⟨rfl, rfl, rfl, Nat.le_refl _, fun _ _ => rfl⟩

/-- It stands whatever becomes of memory from base on. -/
def Fact.FirmN (base : Nat) (φ : Fact) : Prop := ∀ v W W', φ v W → Near base W W' → φ v W'
theorem Fact.is_firmN (base : Nat) (u : Value) : (Fact.is u).FirmN base := fun _ _ _ h _ => h
theorem Fact.no_firmN (base : Nat) : Fact.no.FirmN base := fun _ _ _ _ _ => trivial
def AllFirmN (base : Nat) : List Fact → List Bool → Prop
  | φ :: r, b :: s => (b = true → φ.FirmN base) ∧ AllFirmN base r s
  | _, _ => True
theorem AllFirmN.at {base : Nat} : ∀ {fs : List Fact} {bs : List Bool}, AllFirmN base fs bs → ∀ i, bs.getD i false = true → (fs.getD i Fact.no).FirmN base
  | [], _, _, _, _ => Fact.no_firmN base
  | _ :: _, [], _, _, h => by simp at h
  | φ :: r, b :: s, h, 0, hb => h.1 hb
  | φ :: r, b :: s, h, i + 1, hb => AllFirmN.at h.2 i hb

def StepOkN (P : Program) (ops : Array Oper) (Q : Exit → Act → World → Prop) (base : Nat) (wr : Bool) (φ : Fact) (o : Oper) (a : Act) (W : World) : Prop :=
  if Region.wanted o (yielded ops a.tmps) then o.wp P a W (fun a' W' => ∃ v, a' = a.put o.dst v ∧ ChgN wr base W W' ∧ φ v W') Q else φ undef W
def StepsN (P : Program) (ops : Array Oper) (Q : Exit → Act → World → Prop) (a0 : Act) (w0 : World) (base : Nat) (us : List (Option Nat)) (ws : List Nat) (fs : List Fact) : Nat → List Oper → Prop
  | _, [] => True
  | k, o :: r => (∀ a W, Agree ops a0 a → Below base w0 W → Waits2 us fs ops k a W o.after.toList → StepOkN P ops Q base (ws.contains k) (fs.getD k Fact.no) o a W) ∧ StepsN P ops Q a0 w0 base us ws fs (k + 1) r
section
variable {P : Program} {ops : Array Oper} {Q : Exit → Act → World → Prop} {a0 : Act} {w0 : World} {base : Nat} {us : List (Option Nat)} {ws : List Nat} {fs : List Fact}

theorem StepsN.at : ∀ {l : List Oper} {k : Nat}, StepsN P ops Q a0 w0 base us ws fs k l → ∀ {i : Nat} {o : Oper}, l[i]? = some o → ∀ a W, Agree ops a0 a → Below base w0 W → Waits2 us fs ops (k + i) a W o.after.toList → StepOkN P ops Q base (ws.contains (k + i)) (fs.getD (k + i) Fact.no) o a W
  | [], _, _, i, o, hi => by simp at hi
  | o' :: r, k, h, 0, o, hi => by
    obtain rfl : o' = o := by simpa using hi
    exact h.1
  | o' :: r, k, h, i + 1, o, hi => by
    have := StepsN.at h.2 (i := i) (o := o) (by simpa using hi)
    rwa [show k + 1 + i = k + (i + 1) by omega] at this
theorem wp_region_near {id : Nat} {bs : List Bool} (f : Nat) (hm : P.follows .mixedOrders = true) (hlow : lowB .any ops = true) (hout : outB ops a0.tmps.size = true) (hwr : writesB ops us bs ws f = true) (hbase : base ≤ w0.heap.size)
    (hst : AllStable fs) (hfi : AllFirmN base fs bs)
    (hstep : StepsN P ops Q a0 w0 base us ws fs 0 ops.toList) (hend : ∀ a W, Agree ops a0 a → Below base w0 W → Ends2 us fs a W 0 ops.toList → Q .normal a W) : (Code.region id ops true).wp P Q a0 w0 := by
  refine wp_region_inv (I := fun d a W => Agree ops a0 a ∧ Below base w0 W ∧ ClosedD ops d ∧ ∀ i t, d i = true → (∀ k, us.getD i none = some k → d k = false) → (ops[i]?).bind (·.dst) = some t → (fs.getD i Fact.no) (a.eval (.tmp t)) W) hm hlow ?_ ?_ ?_
  · exact ⟨⟨rfl, rfl, fun _ _ => rfl⟩, ⟨rfl, rfl, rfl, Nat.le_refl _, fun _ _ => rfl⟩, fun _ _ (_ : _) (h : false = true) => (by cases h), fun i t (h : false = true) => (by cases h)⟩
  · intro i o d a W hi hdi hdep ⟨hA, hB, hC, hF⟩
    have hs := StepsN.at hstep (i := i) (o := o) (by simpa using hi) a W hA hB (Waits2.of _ fun e he hb hu t ht => by
      rw [Nat.zero_add] at hu
      refine hF e.on t (hdep e (by simpa using he) hb) (fun k hk => ?_) ht
      rcases hu with hu | hu
      · rw [hu] at hk; cases hk
      · rw [hu] at hk; cases hk; exact hdi)
    rw [Nat.zero_add] at hs
    have hiW : base ≤ W.heap.size := Nat.le_trans hbase hB.size
    have hafter : ∀ v W', ChgN (ws.contains i) base W W' → (fs.getD i Fact.no) v W' → Agree ops a0 (a.put o.dst v) ∧ Below base w0 W' ∧ ClosedD ops (fun j => if j = i then true else d j) ∧ ∀ j t, (if j = i then true else d j) = true → (∀ k, us.getD j none = some k → (if k = i then true else d k) = false) → (ops[j]?).bind (·.dst) = some t → (fs.getD j Fact.no) ((a.put o.dst v).eval (.tmp t)) W' := by
      intro v W' hb hv
      have hio : (ops[i]?).bind (·.dst) = o.dst := by rw [hi]; rfl
      have hb0 : Below base W W' := by
        by_cases hw : ws.contains i = true
        · unfold ChgN at hb; rw [if_pos hw] at hb; exact hb.below hiW
        · unfold ChgN at hb; rw [if_neg hw] at hb; exact hb.mono hiW
      refine ⟨?_, hB.trans hb0, fun j o' hj hdj e he hbe => ?_, fun j t hj hl ht => ?_⟩
      · cases hd : o.dst with
        | none => exact ⟨hA.size, hA.defers, hA.other⟩
        | some s =>
          refine ⟨by simp [Act.put, hA.size], by simp [Act.put, hA.defers], fun t ht => ?_⟩
          rw [eval_put_ne (fun e => ht i (by rw [hio, hd, e]))]
          exact hA.other t ht
      · by_cases hji : j = i
        · subst hji
          rw [hi] at hj
          cases hj
          show (if e.on = j then true else d e.on) = true
          by_cases h : e.on = j
          · rw [if_pos h]
          · rw [if_neg h]; exact hdep e he hbe
        · have hdj : (if j = i then true else d j) = true := hdj
          rw [if_neg hji] at hdj
          have := hC j o' hj hdj e he hbe
          show (if e.on = i then true else d e.on) = true
          by_cases h : e.on = i
          · rw [if_pos h]
          · rw [if_neg h]; exact this
      · by_cases hji : j = i
        · subst hji
          rw [hio] at ht
          rw [ht, eval_put_self (by rw [hA.size]; exact outB_lt hout (by rw [hio]; exact ht))]
          exact hv
        · rw [if_neg hji] at hj
          have hl' : ∀ k, us.getD j none = some k → d k = false := fun k hk => by
            have := hl k hk
            by_cases h : k = i
            · rw [if_pos h] at this; cases this
            · rwa [if_neg h] at this
          have h0 := hF j t hj hl' ht
          have h1 : (fs.getD j Fact.no) (a.eval (.tmp t)) W' := by
            by_cases hw : ws.contains i = true
            · unfold ChgN at hb
              rw [if_pos hw] at hb
              unfold writesB at hwr
              rw [List.all_eq_true] at hwr
              have h2 := hwr i (by simpa using hw)
              rw [List.all_eq_true] at h2
              have hjl : j < ops.size := by
                rcases Nat.lt_or_ge j ops.size with h' | h'
                · exact h'
                · rw [Array.getElem?_eq_none h'] at ht; cases ht
              have h3 := h2 j (List.mem_range.2 hjl)
              simp only [Bool.or_eq_true, beq_iff_eq] at h3
              rcases h3 with (((h3 | h3) | h3) | h3) | h3
              · exact absurd h3 hji
              · have := hl i h3
                rw [if_pos rfl] at this; cases this
              · exact hfi.at j h3 _ _ _ h0 hb
              · have := waits_done hC _ _ _ h3 hj
                rw [hdi] at this; cases this
              · cases hu : us.getD j none with
                | none => rw [hu] at h3; cases h3
                | some k' =>
                  rw [hu] at h3
                  have := waits_deps hC hi hdep h3
                  rw [hl' k' hu] at this; cases this
            · unfold ChgN at hb
              rw [if_neg hw] at hb
              exact hst.at j _ _ _ h0 hb
          cases hd : o.dst with
          | none => exact h1
          | some s =>
            rw [eval_put_ne (fun e => hji (outB_ne hout (hio.trans (hd.trans (by rw [e]))) ht))]
            exact h1
    unfold wpOp
    simp only [hi]
    unfold StepOkN at hs
    split
    · rename_i hw
      rw [if_pos hw] at hs
      exact .inl (Oper.wp_mono (fun a' W' ⟨v, e, hb, hv⟩ => by subst e; exact hafter v W' hb hv) hs)
    · rename_i hw
      rw [if_neg hw] at hs
      exact hafter undef W (ChgN.refl _ _ _) hs
  · intro d a W hall ⟨hA, hB, hC, hF⟩
    refine hend a W hA hB (Ends2.of _ _ fun i o t hi hu ht => ?_)
    rw [Nat.zero_add] at hu ⊢
    have hi' : ops[i]? = some o := by simpa using hi
    exact hF i t (hall i (Array.getElem?_eq_some_iff.1 hi').1) (fun k hk => by rw [hu] at hk; cases hk) (by rw [hi']; exact ht)

/-- The last operation waits for all others: what it does is shown by itself. -/
theorem wp_region_last {id : Nat} {bs : List Bool} (f L : Nat) (oL : Oper) (hL : ops[L]? = some oL) (hLs : L + 1 = ops.size) (hLw : ((List.range ops.size).all fun j => j == L || waitsB ops f L j) = true) (hLg : oL.guard = none) (hm : P.follows .mixedOrders = true) (hlow : lowB .any ops = true) (hout : outB ops a0.tmps.size = true) (hwr : writesB ops us bs ws f = true) (hbase : base ≤ w0.heap.size)
    (hst : AllStable fs) (hfi : AllFirmN base fs bs)
    (hstep : StepsN P ops Q a0 w0 base us ws fs 0 (ops.toList.take L)) (hend : ∀ a W, Agree ops a0 a → Below base w0 W → Ends2 us fs a W 0 (ops.toList.take L) → oL.wp P a W (fun a' W' => Q .normal a' W') Q) : (Code.region id ops true).wp P Q a0 w0 := by
  refine wp_region_inv (I := fun d a W => ClosedD ops d ∧ (d L = true → Q .normal a W) ∧ (d L = false → Agree ops a0 a ∧ Below base w0 W ∧ ∀ i t, d i = true → (∀ k, us.getD i none = some k → d k = false) → (ops[i]?).bind (·.dst) = some t → (fs.getD i Fact.no) (a.eval (.tmp t)) W)) hm hlow ?_ ?_ ?_
  · exact ⟨fun _ _ (_ : _) (h : false = true) => (by cases h), fun (h : false = true) => (by cases h), fun _ => ⟨⟨rfl, rfl, fun _ _ => rfl⟩, ⟨rfl, rfl, rfl, Nat.le_refl _, fun _ _ => rfl⟩, fun i t (h : false = true) => (by cases h)⟩⟩
  · intro i o d a W hi hdi hdep ⟨hC, hQ, hI⟩
    have hcl : ClosedD ops (fun j => if j = i then true else d j) := fun j o' hj hdj e he hbe => by
      by_cases hji : j = i
      · subst hji
        rw [hi] at hj
        cases hj
        show (if e.on = j then true else d e.on) = true
        by_cases h : e.on = j
        · rw [if_pos h]
        · rw [if_neg h]; exact hdep e he hbe
      · have hdj : (if j = i then true else d j) = true := hdj
        rw [if_neg hji] at hdj
        have := hC j o' hj hdj e he hbe
        show (if e.on = i then true else d e.on) = true
        by_cases h : e.on = i
        · rw [if_pos h]
        · rw [if_neg h]; exact this
    have hilt : i < ops.size := by
      rcases Nat.lt_or_ge i ops.size with h' | h'
      · exact h'
      · rw [Array.getElem?_eq_none h'] at hi; cases hi
    by_cases hiL' : i = L
    · subst hiL'
      rw [hL] at hi
      cases hi
      obtain ⟨hA, hB, hF⟩ := hI hdi
      rw [List.all_eq_true] at hLw
      have hend' := hend a W hA hB (Ends2.of _ _ fun j o' t hj hu ht => by
        rw [Nat.zero_add] at hu ⊢
        have hjl : j < i := by
          have := (List.getElem?_eq_some_iff.1 hj).1
          rw [List.length_take] at this
          omega
        rw [List.getElem?_take_of_lt hjl] at hj
        have hj' : ops[j]? = some o' := by simpa using hj
        have h2 := hLw j (List.mem_range.2 (by omega))
        simp only [Bool.or_eq_true, beq_iff_eq] at h2
        have h3 : waitsB ops f i j = true := h2.resolve_left (by omega)
        exact hF j t (waits_deps hC hL hdep h3) (fun k hk => by rw [hu] at hk; cases hk) (by rw [hj']; exact ht))
      unfold wpOp
      simp only [hL]
      split
      · exact .inl (Oper.wp_mono (fun a' W' hq => ⟨hcl, fun _ => hq, fun h => by simp at h⟩) hend')
      · rename_i hw
        exact absurd (wanted_none hLg) hw
    · have hiL : i < L := by omega
      have hdL : d L = false := by
        rw [List.all_eq_true] at hLw
        cases hx : d L with
        | false => rfl
        | true =>
          have h2 := hLw i (List.mem_range.2 hilt)
          simp only [Bool.or_eq_true, beq_iff_eq] at h2
          have h3 : waitsB ops f L i = true := h2.resolve_left hiL'
          rw [waits_done hC _ _ _ h3 hx] at hdi
          cases hdi
      obtain ⟨hA, hB, hF⟩ := hI hdL
      have hs := StepsN.at hstep (i := i) (o := o) (by rw [List.getElem?_take_of_lt hiL]; simpa using hi) a W hA hB (Waits2.of _ fun e he hb hu t ht => by
        rw [Nat.zero_add] at hu
        refine hF e.on t (hdep e (by simpa using he) hb) (fun k hk => ?_) ht
        rcases hu with hu | hu
        · rw [hu] at hk; cases hk
        · rw [hu] at hk; cases hk; exact hdi)
      rw [Nat.zero_add] at hs
      have hiW : base ≤ W.heap.size := Nat.le_trans hbase hB.size
      have hafter : ∀ v W', ChgN (ws.contains i) base W W' → (fs.getD i Fact.no) v W' → Agree ops a0 (a.put o.dst v) ∧ Below base w0 W' ∧ ∀ j t, (if j = i then true else d j) = true → (∀ k, us.getD j none = some k → (if k = i then true else d k) = false) → (ops[j]?).bind (·.dst) = some t → (fs.getD j Fact.no) ((a.put o.dst v).eval (.tmp t)) W' := by
        intro v W' hb hv
        have hio : (ops[i]?).bind (·.dst) = o.dst := by rw [hi]; rfl
        have hb0 : Below base W W' := by
          by_cases hw : ws.contains i = true
          · unfold ChgN at hb; rw [if_pos hw] at hb; exact hb.below hiW
          · unfold ChgN at hb; rw [if_neg hw] at hb; exact hb.mono hiW
        refine ⟨?_, hB.trans hb0, fun j t hj hl ht => ?_⟩
        · cases hd : o.dst with
          | none => exact ⟨hA.size, hA.defers, hA.other⟩
          | some s =>
            refine ⟨by simp [Act.put, hA.size], by simp [Act.put, hA.defers], fun t ht => ?_⟩
            rw [eval_put_ne (fun e => ht i (by rw [hio, hd, e]))]
            exact hA.other t ht
        · by_cases hji : j = i
          · subst hji
            rw [hio] at ht
            rw [ht, eval_put_self (by rw [hA.size]; exact outB_lt hout (by rw [hio]; exact ht))]
            exact hv
          · rw [if_neg hji] at hj
            have hl' : ∀ k, us.getD j none = some k → d k = false := fun k hk => by
              have := hl k hk
              by_cases h : k = i
              · rw [if_pos h] at this; cases this
              · rwa [if_neg h] at this
            have h0 := hF j t hj hl' ht
            have h1 : (fs.getD j Fact.no) (a.eval (.tmp t)) W' := by
              by_cases hw : ws.contains i = true
              · unfold ChgN at hb
                rw [if_pos hw] at hb
                unfold writesB at hwr
                rw [List.all_eq_true] at hwr
                have h2 := hwr i (by simpa using hw)
                rw [List.all_eq_true] at h2
                have hjl : j < ops.size := by
                  rcases Nat.lt_or_ge j ops.size with h' | h'
                  · exact h'
                  · rw [Array.getElem?_eq_none h'] at ht; cases ht
                have h3 := h2 j (List.mem_range.2 hjl)
                simp only [Bool.or_eq_true, beq_iff_eq] at h3
                rcases h3 with (((h3 | h3) | h3) | h3) | h3
                · exact absurd h3 hji
                · have := hl i h3
                  rw [if_pos rfl] at this; cases this
                · exact hfi.at j h3 _ _ _ h0 hb
                · have := waits_done hC _ _ _ h3 hj
                  rw [hdi] at this; cases this
                · cases hu : us.getD j none with
                  | none => rw [hu] at h3; cases h3
                  | some k' =>
                    rw [hu] at h3
                    have := waits_deps hC hi hdep h3
                    rw [hl' k' hu] at this; cases this
              · unfold ChgN at hb
                rw [if_neg hw] at hb
                exact hst.at j _ _ _ h0 hb
            cases hd : o.dst with
            | none => exact h1
            | some s =>
              rw [eval_put_ne (fun e => hji (outB_ne hout (hio.trans (hd.trans (by rw [e]))) ht))]
              exact h1
      have hnew : ∀ v W', ChgN (ws.contains i) base W W' → (fs.getD i Fact.no) v W' → ClosedD ops (fun j => if j = i then true else d j) ∧ ((if L = i then true else d L) = true → Q .normal (a.put o.dst v) W') ∧ ((if L = i then true else d L) = false → Agree ops a0 (a.put o.dst v) ∧ Below base w0 W' ∧ ∀ j t, (if j = i then true else d j) = true → (∀ k, us.getD j none = some k → (if k = i then true else d k) = false) → (ops[j]?).bind (·.dst) = some t → (fs.getD j Fact.no) ((a.put o.dst v).eval (.tmp t)) W') := fun v W' hb hv =>
        ⟨hcl, fun h => (by rw [if_neg (fun e => hiL' e.symm), hdL] at h; cases h), fun _ => hafter v W' hb hv⟩
      unfold wpOp
      simp only [hi]
      unfold StepOkN at hs
      split
      · rename_i hw
        rw [if_pos hw] at hs
        exact .inl (Oper.wp_mono (fun a' W' ⟨v, e, hb, hv⟩ => by subst e; exact hnew v W' hb hv) hs)
      · rename_i hw
        rw [if_neg hw] at hs
        exact hnew undef W (ChgN.refl _ _ _) hs
  · intro d a W hall ⟨hC, hQ, hI⟩
    exact hQ (hall L (by omega))

/-! ### The steps -/

theorem stepN_of {φ : Fact} {o : Oper} {a : Act} {W : World} (h : StepOk P ops Q φ o a W) : StepOkN P ops Q base false φ o a W := h

end

/-- An append whose run is known, which may write rows of bytes from the base on. -/
theorem stepN_append {P : Program} {ops : Array Oper} {Q : Exit → Act → World → Prop} {base : Nat} {φ : Fact} {o : Oper} {a : Act} {W : World} (hw : Region.wanted o (yielded ops a.tmps) = true) (s x : Operand) (t tn : TypeId)
    (ho : o.op = .call { callee := .builtin .append, args := #[s, x], argTypes := #[t, tn] }) {vs vx : Value} (hs : a.eval s = vs) (hx : a.eval x = vx)
    {v' : Value} {w' : World} (hr : (Builtin.append_ #[t, tn] o.type #[vs, vx]).run P W = .ok v' w') (hb : Near base W w') (hv : φ v' w') : StepOkN P ops Q base true φ o a W := by
  unfold StepOkN
  rw [if_pos hw]
  unfold Oper.wp
  simp [execOp, ho, resolve, invoke, builtin, hs, hx, hr, Result.andThen]
  exact ⟨v', rfl, hb, hv⟩

end Go.Proofs.Ytohobiglnebocaa
