/-
  A region that draws its order: one condition on what has come up so far, kept by each operation, whatever the order.
-/
import Derived.Orders
import Derived.Calls
namespace Go.Proofs.YtmmdbacejdhdaaaGreatDoor
open Go

/-- Which operations have come up: as a function. -/
def lit (listed : Array Bool) (i : Nat) : Bool := listed.getD i false
theorem lit_set {listed : Array Bool} {i j : Nat} (hi : i < listed.size) : lit (listed.setIfInBounds i true) j = (if j = i then true else lit listed j) := by
  unfold lit
  by_cases h : j = i
  · subst h; simp [hi]
  · rw [if_neg h]
    simp [Array.getD_eq_getD_getElem?, Ne.symm h]

/-- How many have not come up. -/
def left : Nat → Array Bool → Nat
  | 0, _ => 0
  | n + 1, listed => left n listed + (if lit listed n then 0 else 1)
theorem left_none : ∀ (n : Nat) {listed : Array Bool}, left n listed = 0 → ∀ i, i < n → lit listed i = true
  | 0, _, _, i, h => absurd h (Nat.not_lt_zero i)
  | n + 1, listed, h0, i, h => by
    unfold left at h0
    by_cases hn : lit listed n
    · by_cases e : i = n
      · rw [e]; exact hn
      · exact left_none n (by omega) i (by omega)
    · rw [if_neg hn] at h0; omega
theorem left_same {listed : Array Bool} {j : Nat} (hj : j < listed.size) : ∀ n, n ≤ j → left n (listed.setIfInBounds j true) = left n listed
  | 0, _ => rfl
  | n + 1, h => by
    unfold left
    rw [left_same hj n (by omega), lit_set hj, if_neg (show ¬ n = j by omega)]
theorem left_set {listed : Array Bool} {j : Nat} (hj : j < listed.size) (hf : lit listed j = false) : ∀ n, j < n → left n (listed.setIfInBounds j true) + 1 = left n listed
  | 0, h => absurd h (Nat.not_lt_zero j)
  | n + 1, h => by
    unfold left
    by_cases e : j = n
    · subst e
      rw [left_same hj j (Nat.le_refl _), lit_set hj, if_pos (show j = j from rfl), hf]; simp
    · rw [lit_set hj, if_neg (show ¬ n = j by omega)]
      have := left_set hj hf n (by omega)
      omega
theorem left_start : ∀ (n m : Nat), n ≤ m → left n (Array.replicate m false) = n
  | 0, _, _ => rfl
  | n + 1, m, h => by
    unfold left
    have e : lit (Array.replicate m false) n = false := by
      unfold lit; simp [Array.getD_eq_getD_getElem?, show n < m by omega]
    rw [left_start n m (by omega), e]; simp

/-- Each operation waits for earlier ones alone. -/
def lowB (md : Region.Mode) (ops : Array Oper) : Bool := (List.range ops.size).all fun i => ((ops[i]?).map fun o => o.after.all fun e => !Region.binds md e || decide (e.on < i)).getD true
theorem ready_some {md : Region.Mode} {ops : Array Oper} (hlow : lowB md ops = true) {listed : Array Bool} (hs : listed.size = ops.size) (hr : Region.ready md ops listed = []) : ∀ n i, i < n → i < ops.size → lit listed i = true := by
  intro n
  induction n with
  | zero => intro i h; omega
  | succ n ih =>
    intro i h hi
    by_cases hl : lit listed i = true
    · exact hl
    exfalso
    have hm : i ∈ Region.ready md ops listed := by
      rw [mem_ready]
      have hf : lit listed i = false := by simpa using hl
      refine ⟨?_, ops[i], Array.getElem?_eq_getElem hi, fun e he hb => ?_⟩
      · unfold lit at hf
        rw [Array.getD_eq_getD_getElem?, Array.getElem?_eq_getElem (by omega)] at hf ⊢
        exact hf
      · unfold lowB at hlow
        rw [List.all_eq_true] at hlow
        have h1 := hlow i (List.mem_range.2 hi)
        rw [Array.getElem?_eq_getElem hi] at h1
        simp only [Option.map_some, Option.getD_some] at h1
        rw [Array.all_eq_true_iff_forall_mem] at h1
        have h2 := h1 e he
        simp [hb] at h2
        exact ih e.on (by omega) (by omega)
    rw [hr] at hm; cases hm

variable {P : Program} {ops : Array Oper} {Q : Exit → Act → World → Prop} {md : Region.Mode}
theorem wpAny_inv {I : (Nat → Bool) → Act → World → Prop} (hlow : lowB md ops = true)
    (hstep : ∀ i o d a w, ops[i]? = some o → d i = false → (∀ e ∈ o.after, Region.binds md e = true → d e.on = true) → I d a w → wpOp P ops Q i (fun a' w' => I (fun j => if j = i then true else d j) a' w') a w)
    (hend : ∀ d a w, (∀ i, i < ops.size → d i = true) → I d a w → Q .normal a w) :
    ∀ fuel listed a w, listed.size = ops.size → left ops.size listed ≤ fuel → I (lit listed) a w → wpAny P md ops Q fuel listed a w := by
  intro fuel
  induction fuel with
  | zero =>
    intro listed a w hs hf hI
    have hall := left_none ops.size (Nat.le_zero.1 hf)
    refine ⟨?_, hend _ a w hall hI⟩
    apply List.eq_nil_iff_forall_not_mem.2
    intro i hi
    rw [mem_ready] at hi
    obtain ⟨h1, o, ho, _⟩ := hi
    have h2 := hall i (Array.getElem?_eq_some_iff.1 ho).1
    unfold lit at h2
    have h3 := (Array.getElem?_eq_some_iff.1 ho).1
    rw [Array.getD_eq_getD_getElem?, Array.getElem?_eq_getElem (by omega)] at h1 h2
    simp at h1 h2
    rw [h1] at h2; cases h2
  | succ fuel ih =>
    intro listed a w hs hf hI
    refine ⟨fun hr => hend _ a w (fun i hi => ready_some hlow hs hr (i + 1) i (Nat.lt_succ_self i) hi) hI, fun i hi => ?_⟩
    rw [mem_ready] at hi
    obtain ⟨h1, o, ho, hdep⟩ := hi
    have hlt := (Array.getElem?_eq_some_iff.1 ho).1
    have hf' : lit listed i = false := by
      unfold lit
      rw [Array.getD_eq_getD_getElem?, Array.getElem?_eq_getElem (by omega)] at h1 ⊢
      exact h1
    refine wpOp_mono (fun a' w' h => ?_) (hstep i o (lit listed) a w ho hf' hdep hI)
    refine ih _ a' w' (by simpa using hs) (by have := left_set (by omega) hf' ops.size hlt; omega) ?_
    have e : lit (listed.setIfInBounds i true) = fun j => if j = i then true else lit listed j := funext fun j => lit_set (by omega)
    rw [e]; exact h

/-- The beginning. -/
theorem wp_region_inv {I : (Nat → Bool) → Act → World → Prop} {id : Nat} {a : Act} {w : World} (hm : P.follows .mixedOrders = true) (hlow : lowB .any ops = true) (h0 : I (fun _ => false) a { w with drawn := w.drawn + 1 })
    (hstep : ∀ i o d a w, ops[i]? = some o → d i = false → (∀ e ∈ o.after, Region.binds .any e = true → d e.on = true) → I d a w → wpOp P ops Q i (fun a' w' => I (fun j => if j = i then true else d j) a' w') a w)
    (hend : ∀ d a w, (∀ i, i < ops.size → d i = true) → I d a w → Q .normal a w) : (Code.region id ops true).wp P Q a w := by
  refine wp_region_any hm ?_
  refine wpAny_inv (I := I) hlow hstep hend _ _ _ _ (by simp) (by rw [left_start _ _ (Nat.le_refl _)]; exact Nat.le_refl _) ?_
  have e : lit (Array.replicate ops.size false) = fun _ => false := funext fun j => by
    unfold lit; rw [Array.getD_eq_getD_getElem?]
    by_cases h : j < ops.size
    · simp [h]
    · simp [h]
  rw [e]; exact h0

end Go.Proofs.YtmmdbacejdhdaaaGreatDoor
