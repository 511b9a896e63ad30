/-
  A range over a function whose elements are known up to what they read as, where a round may leave by a return.
-/
import Derived.Test.YtdcapmbgnoahpaaRangeAll
namespace Go.Proofs.Ytdcapmbgnoahpaa
open Go.RowKit

theorem putObj_size5 (W : World) (l : Nat) (b : Obj) : (W.putObj l b).heap.size = W.heap.size := by simp [World.putObj]
theorem alloc_putObj5 (W : World) (l : Nat) (o b : Obj) (h : l < W.heap.size) : (W.alloc o).putObj l b = (W.putObj l b).alloc o := by
  unfold World.putObj World.alloc
  simp only [World.mk.injEq, and_true]
  apply Array.ext_getElem?
  intro i
  rw [Array.getElem?_setIfInBounds, Array.getElem?_push, Array.getElem?_push, Array.getElem?_setIfInBounds]
  simp only [Array.size_setIfInBounds, Array.size_push]
  by_cases h1 : l = i
  · subst h1
    simp [h, Nat.lt_succ_of_lt h, Nat.ne_of_lt h]
  · simp [h1]

/-- THE ITERATOR's CONTRACT: it yields N elements in order, of each of which X says what it is, until all have come, or a round says that no more are wanted. -/
def GivesX {α : Type} (F : Fence) (n : Nat) (P : Program) (g : Nat) (lb : Array Value) (encs : α → Array Value) (K : Nat → Prop) (N : Nat) (X : Nat → α → Prop) (w : World) : Prop :=
  ∀ (l : Nat) (J : Nat → World → Prop) (Jx : World → Prop) (W : World), Below w.heap.size w W → OwnFrom W.heap.size J →
    (∀ k x W1, X k x → J k W1 → W.heap.size ≤ W1.heap.size → YieldAt F (n - 1) P l (encs x) W1 fun e W2 =>
      (e = .returned (.bool true) ∧ J (k + 1) W2 ∧ Kept (fun b => K b ∨ W.heap.size ≤ b) W1 W2) ∨ (e = .returned (.bool false) ∧ Jx W2 ∧ W.heap.size ≤ W2.heap.size)) →
    J 0 W → CallsIn F n P g (#[.func (.yield l) #[] #[]] ++ lb) W fun e W' => (∃ v, e = .returned v) ∧ (J N W' ∨ Jx W') ∧ W.heap.size ≤ W'.heap.size

/-- How a round's body is left: it goes on, or it returns. -/
def stopPostX (K : Nat → Prop) (I : World → Prop) (Ix : World → Prop) (B : Nat) (W : World) : Exit → Act → World → Prop
  | .normal, _, W' => Kept K W W' ∧ I W'
  | .ret, _, W' => Kept (fun b => B ≤ b ∧ b ≤ B + 1) W W' ∧ Ix W'
  | _, _, _ => False

variable {F : Fence} {n : Nat} {P : Program}

theorem wpIn_rangeXo {α : Type} {g : Operand} {ps : Array Tmp} {assign body : Code} {Q : Exit → Act → World → Prop} {a : Act} {w : World}
    (hro : F.round = none) (h1 : 1 ≤ n) {gf : Nat} {lb : Array Value} (hg : a.eval g = .func (.func gf) #[] lb) (hFg : F.fn gf) (eg : ∀ args w, (callFunc gf args).run P w = .ok (.enter gf args) w)
    {encs : α → Array Value} {K : Nat → Prop} {N : Nat} {X : Nat → α → Prop} (hseq : GivesX F (n - 1) P gf lb encs K N X w) (hps : ∀ x, (encs x).size = ps.size)
    (I : Nat → World → Prop) (hI : OwnFrom w.heap.size I) (Ix : World → Prop) (hIx : OwnFrom w.heap.size (fun _ : Unit => Ix)) (h0 : I 0 w) (a₁ : α → Nat → Act) (o : α → Obj)
    (hassign : ∀ (l : Nat) (x : α) (W : World) (R : Act → World → Prop), R (a₁ x W.heap.size) (W.alloc (o x)) →
      assign.wpIn (F.inRound l) (n - 1 - 1) P (Exit.then R (fun _ _ _ => False)) { tmps := (ps.zip (encs x)).foldl (fun t (p, v) => t.setIfInBounds p v) a.tmps, defers := [] } W)
    (hbody : ∀ (l k : Nat) (x : α) (W : World), X k x → I k W → w.heap.size ≤ W.heap.size → body.wpIn (F.inRound l) (n - 1 - 1) P (stopPostX (fun b => K b ∨ w.heap.size ≤ b) (I (k + 1)) Ix w.heap.size W) (a₁ x W.heap.size) (W.alloc (o x)))
    (hdone : ∀ (D : Nat) (W : World), w.heap.size ≤ D → w.heap.size ≤ W.heap.size → I N W → W.heap[D]? = some (.deferred (some [])) → Q .normal { a with defers := { target := .collected D, args := #[] } :: a.defers } W)
    (hstop : ∀ (D : Nat) (W : World), w.heap.size ≤ D → w.heap.size ≤ W.heap.size → Ix W → W.heap[D]? = some (.deferred (some [])) → Code.ret.wpIn F n P Q { a with defers := { target := .collected D, args := #[] } :: a.defers } W) :
    (Code.rangeFunc g ps assign body).wpIn F n P Q a w := by
  refine wpIn_rangeFunc fun fn hfn => ?_
  rw [hro]
  -- the record, in its states
  let L : LoopState → Option Code → Obj := fun st pe => .loop { state := st, pending := pe, fn, tmps := a.tmps, params := ps, assign, body, defers := w.heap.size }
  let W1 : World := (w.alloc (.deferred (some []))).alloc (L .ready none)
  have hs1 : W1.heap.size = w.heap.size + 1 + 1 := by simp [W1]
  have hd1 : W1.heap[w.heap.size]? = some (.deferred (some [])) := (Below.heap_alloc _ _ _ (by simp)).trans (World.alloc_heap_new w _)
  have hl1 : W1.heap[w.heap.size + 1]? = some (L .ready none) := by
    have := World.alloc_heap_new (w.alloc (.deferred (some []))) (L .ready none)
    rwa [World.size_alloc] at this
  let J : Nat → World → Prop := fun k W => I k W ∧ W.heap[w.heap.size + 1]? = some (L .ready none) ∧ W.heap[w.heap.size]? = some (.deferred (some []))
  let Jx : World → Prop := fun W => Ix W ∧ W.heap[w.heap.size + 1]? = some (L .done (some .ret)) ∧ W.heap[w.heap.size]? = some (.deferred (some []))
  have hJ : OwnFrom W1.heap.size J := by
    rintro k A B row ⟨hi, hl, hd⟩ hgr hr
    have hz := (Array.getElem?_eq_some_iff.1 hl).1
    refine ⟨hI k A B row hi hgr (fun r e => ⟨by have := (hr r e).1; omega, (hr r e).2⟩), (hgr.block _ hz ?_).trans hl, (hgr.block _ (by omega) ?_).trans hd⟩
    · intro e; have := (hr _ e.symm).1; omega
    · intro e; have := (hr _ e.symm).1; omega
  have hJ0 : J 0 W1 := ⟨hI.alloc _ (hI.alloc _ h0), hl1, hd1⟩
  have hb1 : Below w.heap.size w W1 := ((Below.refl _ w).alloc (Nat.le_refl _) _).alloc (by simp) _
  refine ⟨w.heap.size + 1, [{ target := .collected w.heap.size, args := #[] }], W1, { target := .fn (.func gf) lb, args := #[.func (.yield (w.heap.size + 1)) #[] #[]] }, W1, gf,
    #[.func (.yield (w.heap.size + 1)) #[] #[]] ++ lb, W1, run_enterLoop_outer _ _ _ _ _, ?_, ?_, ?_, fun _ => h1, ?_⟩
  · simp only [resolve, hg]; simp [go_sem]
  · intro f' hf'; simp [Target.leads] at hf'; subst hf'; exact hFg
  · simp [invoke, go_sem, eg]
  refine (hseq (w.heap.size + 1) J Jx W1 hb1 hJ ?_ hJ0).mono ?_
  · -- one round
    rintro k x W hx ⟨hi, hl, hd⟩ hsz
    have hz : w.heap.size + 1 < W.heap.size := by omega
    refine ⟨fn, _, assign, body, run_yield hl (hps x), roundIn_of_wpIn hfn (hassign _ x W _ ⟨_, run_beginRound ((Below.heap_alloc _ _ _ hz).trans hl) rfl, ?_⟩)⟩
    have hgB := grownBy_putObj' W (w.heap.size + 1) (L .busy none)
    have hlB : (W.putObj (w.heap.size + 1) (L .busy none)).heap[w.heap.size + 1]? = some (L .busy none) := World.putObj_heap_same hz
    have hdB : (W.putObj (w.heap.size + 1) (L .busy none)).heap[w.heap.size]? = some (.deferred (some [])) := (World.putObj_heap_other (by omega)).trans hd
    have hB := hbody (w.heap.size + 1) k x _ hx (hI.putObj (L .busy none) hi (by omega) hl rfl) (by simp; omega)
    rw [putObj_size5, ← alloc_putObj5 _ _ _ _ hz] at hB
    refine wpIn_mono hB ?_
    rintro e a' W3 hp
    cases e with
    | normal =>
      obtain ⟨hk, hi3⟩ := hp
      have hl3 := (hk.block _ (by simp; omega) (.inr (by omega))).trans hlB
      have hd3 := (hk.block _ (by simp; omega) (.inr (Nat.le_refl _))).trans hdB
      have hz3 := (Array.getElem?_eq_some_iff.1 hl3).1
      refine ⟨_, _, run_endRound none hl3, .inl ⟨rfl, ⟨hI.putObj _ hi3 (by omega) hl3 rfl, World.putObj_heap_same hz3, (World.putObj_heap_other (by omega)).trans hd3⟩, ?_⟩⟩
      have hgE := grownBy_putObj' W3 (w.heap.size + 1) (L .ready none)
      refine ⟨(hgE.os.trans hk.os).trans hgB.os, (hgE.tape.trans hk.tape).trans hgB.tape, (hgE.output.trans hk.output).trans hgB.output, Nat.le_trans hgB.size (Nat.le_trans hk.size hgE.size), fun i hi' hki => ?_⟩
      by_cases ei : i = w.heap.size + 1
      · subst ei
        exact (World.putObj_heap_same hz3).trans hl.symm
      · refine (World.putObj_heap_other ei).trans ((hk.block i (by simpa using hi') ?_).trans (World.putObj_heap_other ei))
        exact hki.imp id (fun h => by omega)
    | ret =>
      obtain ⟨hk, hi3⟩ := hp
      have hl3 := (hk.block _ (by simp; omega) ⟨by omega, by omega⟩).trans hlB
      have hd3 := (hk.block _ (by simp; omega) ⟨Nat.le_refl _, by omega⟩).trans hdB
      have hz3 := (Array.getElem?_eq_some_iff.1 hl3).1
      refine ⟨_, _, run_endRound (some .ret) hl3, .inr ⟨rfl, ⟨hIx.putObj (s := ()) _ hi3 (by omega) hl3 rfl, World.putObj_heap_same hz3, (World.putObj_heap_other (by omega)).trans hd3⟩, ?_⟩⟩
      have := hk.size; simp at this ⊢; omega
    | exit id => exact hp.elim
    | goto t => exact hp.elim
    | panic ch => exact hp.elim
    | outgrown => exact hp.elim
  · -- behind the iterator
    rintro e W2 ⟨⟨v, rfl⟩, (⟨hi, hl, hd⟩ | ⟨hi, hl, hd⟩), hsz⟩
    · exact ⟨none, _, run_endLoop hl (by simp), hdone _ _ (Nat.le_refl _) (by simp; omega) (hI.putObj _ hi (by omega) hl rfl) ((World.putObj_heap_other (by omega)).trans hd)⟩
    · exact ⟨some .ret, _, run_endLoop hl (by simp), hstop _ _ (Nat.le_refl _) (by simp; omega) (hIx.putObj (s := ()) _ hi (by omega) hl rfl) ((World.putObj_heap_other (by omega)).trans hd)⟩

end Go.Proofs.Ytdcapmbgnoahpaa
