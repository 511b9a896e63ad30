/-
  A range over a function, where a round may leave by a return: the iterator's contract, and the statement's law over it.
-/
import Derived.Test.YtkfmgiacdlkmiaaRangeAll
namespace Go.Proofs.Ytkfmgiacdlkmiaa
open Go.RowKit

/-- THE ITERATOR's CONTRACT: it yields the elements of xs in order, until all have come, or a round says that no more are wanted. -/
def Gives {α : Type} (F : Fence) (n : Nat) (P : Program) (g : Nat) (lb : Array Value) (encs : α → Array Value) (K : Nat → Prop) (xs : List α) (w : World) : Prop :=
  ∀ (l : Nat) (J : Nat → World → Prop) (Jx : World → Prop) (W : World), Below w.heap.size w W → OwnFrom W.heap.size J →
    (∀ k x W1, xs[k]? = some x → J k W1 → W.heap.size ≤ W1.heap.size → YieldAt F (n - 1) P l (encs x) W1 fun e W2 =>
      (e = .returned (.bool true) ∧ J (k + 1) W2 ∧ Kept (fun b => K b ∨ W.heap.size ≤ b) W1 W2) ∨ (e = .returned (.bool false) ∧ Jx W2 ∧ W.heap.size ≤ W2.heap.size)) →
    J 0 W → CallsIn F n P g (#[.func (.yield l) #[] #[]] ++ lb) W fun e W' => (∃ v, e = .returned v) ∧ (J xs.length W' ∨ Jx W') ∧ W.heap.size ≤ W'.heap.size

theorem Gives.all {α : Type} {F : Fence} {n : Nat} {P : Program} {g : Nat} {lb : Array Value} {encs : α → Array Value} {K : Nat → Prop} {xs : List α} {w : World} (h : Gives F n P g lb encs K xs w) :
    GivesAll F n P g lb encs K xs w := fun l J W hW hJ hY h0 =>
  (h l J (fun _ => False) W hW hJ (fun k x W1 hx hj hz => by
    obtain ⟨fn, tmps, assign, body, hy, hR⟩ := hY k x W1 hx hj hz
    exact ⟨fn, tmps, assign, body, hy, hR.mono fun e W2 h => .inl h⟩) h0).mono fun e W' ⟨h1, h2, h3⟩ => ⟨h1, h2.elim id (fun h => h.elim), h3⟩

/-- How a round's body is left: it goes on, or it returns. -/
def stopPost (K : Nat → Prop) (I : World → Prop) (Ix : World → Prop) (B : Nat) (W : World) : Exit → Act → World → Prop
  | .normal, _, W' => Kept K W W' ∧ I W'
  | .ret, _, W' => Kept (fun b => B ≤ b ∧ b ≤ B + 1) W W' ∧ Ix W'
  | _, _, _ => False

variable {F : Fence} {n : Nat} {P : Program}

theorem wpIn_rangeStops {α : Type} {g : Operand} {ps : Array Tmp} {assign body : Code} {Q : Exit → Act → World → Prop} {a : Act} {w : World}
    (hro : F.round = none) (h1 : 1 ≤ n) {gf : Nat} {lb : Array Value} (hg : a.eval g = .func (.func gf) #[] lb) (hFg : F.fn gf) (eg : ∀ args w, (callFunc gf args).run P w = .ok (.enter gf args) w)
    {encs : α → Array Value} {K : Nat → Prop} {xs : List α} (hseq : Gives F (n - 1) P gf lb encs K xs w) (hps : ∀ x, (encs x).size = ps.size)
    (I : Nat → World → Prop) (hI : OwnFrom w.heap.size I) (Ix : World → Prop) (hIx : OwnFrom w.heap.size (fun _ : Unit => Ix)) (h0 : I 0 w) (a₁ : α → Act)
    (hassign : ∀ (l : Nat) (x : α) (W : World) (R : Act → World → Prop), R (a₁ x) W →
      assign.wpIn (F.inRound l) (n - 1 - 1) P (Exit.then R (fun _ _ _ => False)) { tmps := (ps.zip (encs x)).foldl (fun t (p, v) => t.setIfInBounds p v) a.tmps, defers := [] } W)
    (hbody : ∀ (l k : Nat) (x : α) (W : World), xs[k]? = some x → I k W → w.heap.size ≤ W.heap.size → body.wpIn (F.inRound l) (n - 1 - 1) P (stopPost (fun b => K b ∨ w.heap.size ≤ b) (I (k + 1)) Ix w.heap.size W) (a₁ x) W)
    (hdone : ∀ (D : Nat) (W : World), w.heap.size ≤ D → w.heap.size ≤ W.heap.size → I xs.length W → W.heap[D]? = some (.deferred (some [])) → Q .normal { a with defers := { target := .collected D, args := #[] } :: a.defers } W)
    (hstop : ∀ (D : Nat) (W : World), w.heap.size ≤ D → w.heap.size ≤ W.heap.size → Ix W → W.heap[D]? = some (.deferred (some [])) → Code.ret.wpIn F n P Q { a with defers := { target := .collected D, args := #[] } :: a.defers } W) :
    (Code.rangeFunc g ps assign body).wpIn F n P Q a w := by
  refine wpIn_rangeFunc fun fn hfn => ?_
  rw [hro]
  -- the record, in its states
  let L : LoopState → Option Code → Obj := fun st pe => .loop { state := st, pending := pe, fn, tmps := a.tmps, params := ps, assign, body, defers := w.heap.size }
  let W1 : World := (w.alloc (.deferred (some []))).alloc (L .ready none)
  have hs1 : W1.heap.size = w.heap.size + 1 + 1 := by simp [W1]
  have hd1 : W1.heap[w.heap.size]? = some (.deferred (some [])) := (Below.heap_alloc _ _ _ (by simp)).trans (World.alloc_heap_new w _)
  have hl1 : W1.heap[w.heap.size + 1]? = some (L .ready none) := by
    have := World.alloc_heap_new (w.alloc (.deferred (some []))) (L .ready none)
    rwa [World.size_alloc] at this
  let J : Nat → World → Prop := fun k W => I k W ∧ W.heap[w.heap.size + 1]? = some (L .ready none) ∧ W.heap[w.heap.size]? = some (.deferred (some []))
  let Jx : World → Prop := fun W => Ix W ∧ W.heap[w.heap.size + 1]? = some (L .done (some .ret)) ∧ W.heap[w.heap.size]? = some (.deferred (some []))
  have hJ : OwnFrom W1.heap.size J := by
    rintro k A B row ⟨hi, hl, hd⟩ hgr hr
    have hz := (Array.getElem?_eq_some_iff.1 hl).1
    refine ⟨hI k A B row hi hgr (fun r e => ⟨by have := (hr r e).1; omega, (hr r e).2⟩), (hgr.block _ hz ?_).trans hl, (hgr.block _ (by omega) ?_).trans hd⟩
    · intro e; have := (hr _ e.symm).1; omega
    · intro e; have := (hr _ e.symm).1; omega
  have hJ0 : J 0 W1 := ⟨hI.alloc _ (hI.alloc _ h0), hl1, hd1⟩
  have hb1 : Below w.heap.size w W1 := ((Below.refl _ w).alloc (Nat.le_refl _) _).alloc (by simp) _
  refine ⟨w.heap.size + 1, [{ target := .collected w.heap.size, args := #[] }], W1, { target := .fn (.func gf) lb, args := #[.func (.yield (w.heap.size + 1)) #[] #[]] }, W1, gf,
    #[.func (.yield (w.heap.size + 1)) #[] #[]] ++ lb, W1, run_enterLoop_outer _ _ _ _ _, ?_, ?_, ?_, fun _ => h1, ?_⟩
  · simp only [resolve, hg]; simp [go_sem]
  · intro f' hf'; simp [Target.leads] at hf'; subst hf'; exact hFg
  · simp [invoke, go_sem, eg]
  refine (hseq (w.heap.size + 1) J Jx W1 hb1 hJ ?_ hJ0).mono ?_
  · -- one round
    rintro k x W hx ⟨hi, hl, hd⟩ hsz
    have hz : w.heap.size + 1 < W.heap.size := by omega
    refine ⟨fn, _, assign, body, run_yield hl (hps x), roundIn_of_wpIn hfn (hassign _ x W _ ⟨_, run_beginRound hl rfl, ?_⟩)⟩
    have hgB := grownBy_putObj' W (w.heap.size + 1) (L .busy none)
    have hlB : (W.putObj (w.heap.size + 1) (L .busy none)).heap[w.heap.size + 1]? = some (L .busy none) := World.putObj_heap_same hz
    have hdB : (W.putObj (w.heap.size + 1) (L .busy none)).heap[w.heap.size]? = some (.deferred (some [])) := (World.putObj_heap_other (by omega)).trans hd
    refine wpIn_mono (hbody _ k x _ hx (hI.putObj _ hi (by omega) hl rfl) (by simp; omega)) ?_
    rintro e a' W3 hp
    cases e with
    | normal =>
      obtain ⟨hk, hi3⟩ := hp
      have hl3 := (hk.block _ (by simp; omega) (.inr (by omega))).trans hlB
      have hd3 := (hk.block _ (by simp; omega) (.inr (Nat.le_refl _))).trans hdB
      have hz3 := (Array.getElem?_eq_some_iff.1 hl3).1
      refine ⟨_, _, run_endRound none hl3, .inl ⟨rfl, ⟨hI.putObj _ hi3 (by omega) hl3 rfl, World.putObj_heap_same hz3, (World.putObj_heap_other (by omega)).trans hd3⟩, ?_⟩⟩
      have hgE := grownBy_putObj' W3 (w.heap.size + 1) (L .ready none)
      refine ⟨(hgE.os.trans hk.os).trans hgB.os, (hgE.tape.trans hk.tape).trans hgB.tape, (hgE.output.trans hk.output).trans hgB.output, Nat.le_trans hgB.size (Nat.le_trans hk.size hgE.size), fun i hi' hki => ?_⟩
      by_cases ei : i = w.heap.size + 1
      · subst ei
        exact (World.putObj_heap_same hz3).trans hl.symm
      · refine (World.putObj_heap_other ei).trans ((hk.block i (by simpa using hi') ?_).trans (World.putObj_heap_other ei))
        exact hki.imp id (fun h => by omega)
    | ret =>
      obtain ⟨hk, hi3⟩ := hp
      have hl3 := (hk.block _ (by simp; omega) ⟨by omega, by omega⟩).trans hlB
      have hd3 := (hk.block _ (by simp; omega) ⟨Nat.le_refl _, by omega⟩).trans hdB
      have hz3 := (Array.getElem?_eq_some_iff.1 hl3).1
      refine ⟨_, _, run_endRound (some .ret) hl3, .inr ⟨rfl, ⟨hIx.putObj (s := ()) _ hi3 (by omega) hl3 rfl, World.putObj_heap_same hz3, (World.putObj_heap_other (by omega)).trans hd3⟩, ?_⟩⟩
      have := hk.size; simp at this ⊢; omega
    | exit id => exact hp.elim
    | goto t => exact hp.elim
    | panic ch => exact hp.elim
    | outgrown => exact hp.elim
  · -- behind the iterator
    rintro e W2 ⟨⟨v, rfl⟩, (⟨hi, hl, hd⟩ | ⟨hi, hl, hd⟩), hsz⟩
    · exact ⟨none, _, run_endLoop hl (by simp), hdone _ _ (Nat.le_refl _) (by simp; omega) (hI.putObj _ hi (by omega) hl rfl) ((World.putObj_heap_other (by omega)).trans hd)⟩
    · exact ⟨some .ret, _, run_endLoop hl (by simp), hstop _ _ (Nat.le_refl _) (by simp; omega) (hIx.putObj (s := ()) _ hi (by omega) hl rfl) ((World.putObj_heap_other (by omega)).trans hd)⟩

end Go.Proofs.Ytkfmgiacdlkmiaa
