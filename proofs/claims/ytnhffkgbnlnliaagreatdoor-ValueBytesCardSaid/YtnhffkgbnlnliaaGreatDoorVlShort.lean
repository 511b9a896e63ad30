/-
  Which lists the laws take: at most 60 values, none with a text of more than 100 bytes.
-/
import Derived.Test.YtnhffkgbnlnliaaGreatDoorVlOpen
namespace Go.Proofs.YtnhffkgbnlnliaaGreatDoor
open Go Go.ChangeShapes Go.WideShapes Go.ChangeAt Go.RowKit

theorem Fit.at {vs : List Vl} (h : ∀ v ∈ vs, v.Fit) (k : Nat) : (vs[k]?.getD Vl.null).Fit := by
  by_cases hk : k < vs.length
  · rw [List.getElem?_eq_getElem hk]; exact h _ (List.getElem_mem hk)
  · rw [List.getElem?_eq_none (by omega)]; exact Vl.Fit.null
def shortB (vs : List Vl) : Bool := decide (vs.length ≤ 60) && vs.all fun v => decide (v.s.length ≤ 100)
theorem short_long {vs : List Vl} {k : Nat} (hk : k < vs.length) (h : 100 < (vs[k]?.getD Vl.null).s.length) : shortB vs = false := by
  have : (vs.all fun v => decide (v.s.length ≤ 100)) = false := by
    rw [List.all_eq_false]
    refine ⟨vs[k], List.getElem_mem hk, ?_⟩
    rw [List.getElem?_eq_getElem hk] at h
    have h : 100 < vs[k].s.length := h
    simp; omega
  unfold shortB; rw [this, Bool.and_false]
theorem short_end {vs : List Vl} (h : ∀ j, j < vs.length → (vs[j]?.getD Vl.null).s.length ≤ 100) : shortB vs = decide (vs.length ≤ 60) := by
  have : (vs.all fun v => decide (v.s.length ≤ 100)) = true := by
    rw [List.all_eq_true]
    intro v hv
    obtain ⟨j, hj, rfl⟩ := List.getElem_of_mem hv
    have := h j hj
    rw [List.getElem?_eq_getElem hj] at this
    exact decide_eq_true this
  unfold shortB; rw [this, Bool.and_true]
theorem short_parts {vs : List Vl} (h : shortB vs = true) : vs.length ≤ 60 ∧ Short vs := by
  unfold shortB at h
  rw [Bool.and_eq_true] at h
  refine ⟨of_decide_eq_true h.1, fun v hv => ?_⟩
  have := of_decide_eq_true (List.all_eq_true.1 h.2 v hv)
  omega

set_option maxRecDepth 100000 in
set_option maxHeartbeats 1000000 in
theorem short_any {K : Nat → Prop} {a : Option Addr} {len cap : Nat} {x : List Vl} {w : World} (hR : RdW K w a len cap x) (hF : ∀ v ∈ x, v.Fit) :
    Calls Tryz.prog 7 #[.slice a len cap] w fun e w' => e = .returned (.bool (shortB x)) ∧ w' = w := by
  have hfit := hR.fit
  have htop := hR.top
  have HL := Lib.hid hR.hl
  have H := Lib.hid hR
  have HM : Hid (∀ j : Nat, (x[j]?.getD Vl.null).s.length ≤ 9223372036854775807) := fun j => (Fit.at hF j).s
  clear hR hF
  have HE : Hid (∀ z, z = shortB x → Ending.returned (.bool z) = .returned (.bool (shortB x))) := fun z h => by rw [h]
  go_enter Tryz.func7, Tryz.ntmps7
  go_wp2
  go_loopw [3] (fun i wr => ∃ k : Nat, k ≤ len ∧ i = .int .i64 k ∧ wr = w ∧ Hid (∀ j, j < k → (x[j]?.getD Vl.null).s.length ≤ 100)) (fun i _ => len - (intOf i).toNat)
  case atStart => exact ⟨0, Nat.zero_le _, rfl, rfl, fun j hj => absurd hj (Nat.not_lt_zero _)⟩
  case round =>
    obtain ⟨k, hk, rfl, rfl, HI⟩ := hrel
    by_cases hlt : k < len
    · obtain ⟨b, off, rfl, _, hb, hc⟩ := H.out.cells (by omega)
      obtain ⟨c0, c1, c2⟩ := hc k hlt
      have hm := HM.out k
      have hsz := bs_size (x[k]?.getD Vl.null).s
      have HB := Lib.hid (@short_long x k (by rw [← HL.out]; exact hlt))
      have HG : Hid ((x[k]?.getD Vl.null).s.length ≤ 100 → ∀ j, j < k + 1 → (x[j]?.getD Vl.null).s.length ≤ 100) := fun h j hj => by
        by_cases e : j = k
        · subst e; exact h
        · exact HI.out j (by omega)
      clear hc c0 c1
      generalize x[k]?.getD Vl.null = p at *
      have hkI : (k : Int) < (len : Int) := by omega
      by_cases h100 : 100 < p.s.length
      · have HRR := HE.out false (HB.out h100).symm
        go_wp2
        go_ret
        exact ⟨HRR, rfl⟩
      · have HST := Lib.hid (HG.out (by omega))
        go_wp2
        go_roundw
        case rel => exact ⟨k + 1, by omega, by go_num, trivial, HST.out⟩
        case measure => simp [intOf]; omega
    · obtain rfl : k = len := by omega
      have hd2 : ¬ ((k : Int) < (k : Int)) := Int.lt_irrefl _
      have HRR := Lib.hid (HE.out (decide ((k : Int) ≤ 60)) (by
        rw [short_end (fun j hj => HI.out j (by rw [HL.out]; exact hj)), ← HL.out]
        exact decide_eq_decide.2 (by omega)))
      go_wp2
      go_ret
      exact ⟨HRR.out, rfl⟩

end Go.Proofs.YtnhffkgbnlnliaaGreatDoor
