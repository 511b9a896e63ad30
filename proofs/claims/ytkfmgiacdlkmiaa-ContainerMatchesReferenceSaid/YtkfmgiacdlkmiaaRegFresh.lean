/-
  A region that draws its order and writes (wp_region_writes), with one more thing that each operation may take for granted: a slot whose operation waits for it is as it was.
-/
import Derived.Test.YtkfmgiacdlkmiaaRegFacts
namespace Go.Proofs.Ytkfmgiacdlkmiaa
open Go Go.RowKit Go.Shelf

def Steps4 (P : Program) (ops : Array Oper) (Q : Exit → Act → World → Prop) (a0 : Act) (w0 : World) (base : Nat) (us : List (Option Nat)) (ws : List Nat) (fs : List Fact) (f : Nat) : Nat → List Oper → Prop
  | _, [] => True
  | k, o :: r => (∀ a W, Agree ops a0 a → Below base w0 W → Waits2 us fs ops k a W o.after.toList → (∀ j t, (ops[j]?).bind (·.dst) = some t → waitsB ops f j k = true → a.eval (.tmp t) = a0.eval (.tmp t)) → StepOk2 P ops Q base (ws.contains k) (fs.getD k Fact.no) o a W) ∧ Steps4 P ops Q a0 w0 base us ws fs f (k + 1) r
section
variable {P : Program} {ops : Array Oper} {Q : Exit → Act → World → Prop} {a0 : Act} {w0 : World} {base : Nat} {us : List (Option Nat)} {ws : List Nat} {fs : List Fact}
theorem Steps4.at  {f : Nat} : ∀ {l : List Oper} {k : Nat}, Steps4 P ops Q a0 w0 base us ws fs f k l → ∀ {i : Nat} {o : Oper}, l[i]? = some o → ∀ a W, Agree ops a0 a → Below base w0 W → Waits2 us fs ops (k + i) a W o.after.toList → (∀ j t, (ops[j]?).bind (·.dst) = some t → waitsB ops f j (k + i) = true → a.eval (.tmp t) = a0.eval (.tmp t)) → StepOk2 P ops Q base (ws.contains (k + i)) (fs.getD (k + i) Fact.no) o a W
  | [], _, _, i, o, hi => by simp at hi
  | o' :: r, k, h, 0, o, hi => by
    obtain rfl : o' = o := by simpa using hi
    exact h.1
  | o' :: r, k, h, i + 1, o, hi => by
    have := Steps4.at h.2 (i := i) (o := o) (by simpa using hi)
    rwa [show k + 1 + i = k + (i + 1) by omega] at this

theorem wp_region_fresh {id : Nat} {bs : List Bool} (f : Nat) (hm : P.follows .mixedOrders = true) (hlow : lowB .any ops = true) (hout : outB ops a0.tmps.size = true) (hwr : writesB ops us bs ws f = true) (hbase : base ≤ w0.heap.size)
    (hst : AllStable fs) (hfi : AllFirm base fs bs)
    (hstep : Steps4 P ops Q a0 w0 base us ws fs f 0 ops.toList) (hend : ∀ a W, Agree ops a0 a → Below base w0 W → Ends2 us fs a W 0 ops.toList → Q .normal a W) : (Code.region id ops true).wp P Q a0 w0 := by
  refine wp_region_inv (I := fun d a W => Agree ops a0 a ∧ Below base w0 W ∧ ClosedD ops d ∧ (∀ i t, d i = false → (ops[i]?).bind (·.dst) = some t → a.eval (.tmp t) = a0.eval (.tmp t)) ∧ ∀ i t, d i = true → (∀ k, us.getD i none = some k → d k = false) → (ops[i]?).bind (·.dst) = some t → (fs.getD i Fact.no) (a.eval (.tmp t)) W) hm hlow ?_ ?_ ?_
  · exact ⟨⟨rfl, rfl, fun _ _ => rfl⟩, ⟨rfl, rfl, rfl, Nat.le_refl _, fun _ _ => rfl⟩, fun _ _ (_ : _) (h : false = true) => (by cases h), fun _ _ _ _ => rfl, fun i t (h : false = true) => (by cases h)⟩
  · intro i o d a W hi hdi hdep ⟨hA, hB, hC, hN, hF⟩
    have hs := Steps4.at hstep (i := i) (o := o) (by simpa using hi) a W hA hB (Waits2.of _ fun e he hb hu t ht => by
      rw [Nat.zero_add] at hu
      refine hF e.on t (hdep e (by simpa using he) hb) (fun k hk => ?_) ht
      rcases hu with hu | hu
      · rw [hu] at hk; cases hk
      · rw [hu] at hk; cases hk; exact hdi) (fun j t ht hw => hN j t (by
        rw [Nat.zero_add] at hw
        cases hj : d j with
        | false => rfl
        | true => have := waits_done hC _ _ _ hw hj; rw [hdi] at this; cases this) ht)
    rw [Nat.zero_add] at hs
    have hiW : base ≤ W.heap.size := Nat.le_trans hbase hB.size
    have hafter : ∀ v W', Below (if ws.contains i then base else W.heap.size) W W' → (fs.getD i Fact.no) v W' → Agree ops a0 (a.put o.dst v) ∧ Below base w0 W' ∧ ClosedD ops (fun j => if j = i then true else d j) ∧ (∀ j t, (if j = i then true else d j) = false → (ops[j]?).bind (·.dst) = some t → (a.put o.dst v).eval (.tmp t) = a0.eval (.tmp t)) ∧ ∀ j t, (if j = i then true else d j) = true → (∀ k, us.getD j none = some k → (if k = i then true else d k) = false) → (ops[j]?).bind (·.dst) = some t → (fs.getD j Fact.no) ((a.put o.dst v).eval (.tmp t)) W' := by
      intro v W' hb hv
      have hio : (ops[i]?).bind (·.dst) = o.dst := by rw [hi]; rfl
      have hb0 : Below base W W' := by
        by_cases hw : ws.contains i = true
        · rw [if_pos hw] at hb; exact hb
        · rw [if_neg hw] at hb; exact hb.mono hiW
      refine ⟨?_, hB.trans hb0, fun j o' hj hdj e he hbe => ?_, fun j t hj ht => ?_, fun j t hj hl ht => ?_⟩
      · cases hd : o.dst with
        | none => exact ⟨hA.size, hA.defers, hA.other⟩
        | some s =>
          refine ⟨by simp [Act.put, hA.size], by simp [Act.put, hA.defers], fun t ht => ?_⟩
          rw [eval_put_ne (fun e => ht i (by rw [hio, hd, e]))]
          exact hA.other t ht
      · by_cases hji : j = i
        · subst hji
          rw [hi] at hj
          cases hj
          show (if e.on = j then true else d e.on) = true
          by_cases h : e.on = j
          · rw [if_pos h]
          · rw [if_neg h]; exact hdep e he hbe
        · have hdj : (if j = i then true else d j) = true := hdj
          rw [if_neg hji] at hdj
          have := hC j o' hj hdj e he hbe
          show (if e.on = i then true else d e.on) = true
          by_cases h : e.on = i
          · rw [if_pos h]
          · rw [if_neg h]; exact this
      · by_cases hji : j = i
        · rw [if_pos hji] at hj; cases hj
        · rw [if_neg hji] at hj
          cases hd : o.dst with
          | none => exact hN j t hj ht
          | some s =>
            rw [eval_put_ne (fun e => hji (outB_ne hout (hio.trans (hd.trans (by rw [e]))) ht))]
            exact hN j t hj ht
      · by_cases hji : j = i
        · subst hji
          rw [hio] at ht
          rw [ht, eval_put_self (by rw [hA.size]; exact outB_lt hout (by rw [hio]; exact ht))]
          exact hv
        · rw [if_neg hji] at hj
          have hl' : ∀ k, us.getD j none = some k → d k = false := fun k hk => by
            have := hl k hk
            by_cases h : k = i
            · rw [if_pos h] at this; cases this
            · rwa [if_neg h] at this
          have h0 := hF j t hj hl' ht
          have h1 : (fs.getD j Fact.no) (a.eval (.tmp t)) W' := by
            by_cases hw : ws.contains i = true
            · rw [if_pos hw] at hb
              unfold writesB at hwr
              rw [List.all_eq_true] at hwr
              have h2 := hwr i (by simpa using hw)
              rw [List.all_eq_true] at h2
              have hjl : j < ops.size := by
                rcases Nat.lt_or_ge j ops.size with h' | h'
                · exact h'
                · rw [Array.getElem?_eq_none h'] at ht; cases ht
              have h3 := h2 j (List.mem_range.2 hjl)
              simp only [Bool.or_eq_true, beq_iff_eq] at h3
              rcases h3 with (((h3 | h3) | h3) | h3) | h3
              · exact absurd h3 hji
              · have := hl i h3
                rw [if_pos rfl] at this; cases this
              · exact hfi.at j h3 _ _ _ h0 hb
              · have := waits_done hC _ _ _ h3 hj
                rw [hdi] at this; cases this
              · cases hu : us.getD j none with
                | none => rw [hu] at h3; cases h3
                | some k' =>
                  rw [hu] at h3
                  have := waits_deps hC hi hdep h3
                  rw [hl' k' hu] at this; cases this
            · rw [if_neg hw] at hb
              exact hst.at j _ _ _ h0 hb
          cases hd : o.dst with
          | none => exact h1
          | some s =>
            rw [eval_put_ne (fun e => hji (outB_ne hout (hio.trans (hd.trans (by rw [e]))) ht))]
            exact h1
    unfold wpOp
    simp only [hi]
    unfold StepOk2 at hs
    split
    · rename_i hw
      rw [if_pos hw] at hs
      exact .inl (Oper.wp_mono (fun a' W' ⟨v, e, hb, hv⟩ => by subst e; exact hafter v W' hb hv) hs)
    · rename_i hw
      rw [if_neg hw] at hs
      exact hafter undef W ⟨rfl, rfl, rfl, Nat.le_refl _, fun _ _ => rfl⟩ hs
  · intro d a W hall ⟨hA, hB, hC, hN, hF⟩
    refine hend a W hA hB (Ends2.of _ _ fun i o t hi hu ht => ?_)
    rw [Nat.zero_add] at hu ⊢
    have hi' : ops[i]? = some o := by simpa using hi
    exact hF i t (hall i (Array.getElem?_eq_some_iff.1 hi').1) (fun k hk => by rw [hu] at hk; cases hk) (by rw [hi']; exact ht)
end

end Go.Proofs.Ytkfmgiacdlkmiaa
