/-
  The contracts of the step, of its twin in the reference, and of the pair's digest in the reference: in any fence.
-/
import Derived.Test.YtjlihkllgajkkaaProg
import Derived.Test.YtjlihkllgajkkaaDigMath
import Derived.RangeFuncNested
import Derived.RangeFuncLeaves
import Derived.Shelf.Abstract
import Derived.Shelf.RegionOpen
import Derived.WalkKit
import Derived.ProofKit
import Derived.OwnWalkIn
import Derived.TacticsInMore
import Derived.LoopNIn
import Derived.LoopIn
import Derived.Lib.Hide
import Derived.BigFrameIn
namespace Go.Proofs.Ytjlihkllgajkkaa
open Go.RowKit Go.Shelf

theorem ret_int {k : IntKind} {a b : Int} (h : a = b) : Ending.returned (.int k a) = .returned (.int k b) := by rw [h]

/-- A fence that lets every function in. -/
structure Lets (F : Fence) : Prop where
  fn : ∀ f, F.fn f
  round : F.round = none
  depth : F.depth = none

theorem lets_wide : Lets Fence.wide := ⟨fun _ => trivial, rfl, rfl⟩

theorem step_in (F : Fence) (n : Nat) (hF : Lets F) (h c : Int) (hh : 0 ≤ h ∧ h < 18446744073709551616) (hc : 0 ≤ c ∧ c < 18446744073709551616) (w : World) :
    CallsIn F n Try.prog 12 #[.int .u64 h, .int .u64 c] w fun e w' => e = .returned (.int .u64 (stepI h c)) ∧ w = w' := by
  have ht := stepI_text h c hh hc
  have HT := Lib.hid ht
  clear ht hh hc
  have hro := hF.round
  refine callsIn_of_wp Try.func12 rfl (hF.fn _) ?_ hF.round
  simp only [Try.ntmps12, List.size_toArray, List.length_cons, List.length_nil, Nat.reduceAdd, Nat.reduceSub, Array.replicate_succ, Array.replicate_zero, List.push_toArray, List.append_toArray, List.nil_append, List.cons_append]
  gi_wp2
  go_ret
  exact ⟨ret_int HT.out, rfl⟩

theorem rstep_in (F : Fence) (n : Nat) (hF : Lets F) (h c : Int) (hh : 0 ≤ h ∧ h < 18446744073709551616) (hc : 0 ≤ c ∧ c < 18446744073709551616) (w : World) :
    CallsIn F n Try.prog 13 #[.int .u64 h, .int .u64 c] w fun e w' => e = .returned (.int .u64 (stepI h c)) ∧ w = w' := by
  have ht := stepI_text h c hh hc
  have HT := Lib.hid ht
  clear ht hh hc
  have hro := hF.round
  refine callsIn_of_wp Try.func13 rfl (hF.fn _) ?_ hF.round
  simp only [Try.ntmps13, List.size_toArray, List.length_cons, List.length_nil, Nat.reduceAdd, Nat.reduceSub, Array.replicate_succ, Array.replicate_zero, List.push_toArray, List.append_toArray, List.nil_append, List.cons_append]
  gi_wp2
  go_ret
  exact ⟨ret_int HT.out, rfl⟩

theorem step_any (h c : Int) (hh : 0 ≤ h ∧ h < 18446744073709551616) (hc : 0 ≤ c ∧ c < 18446744073709551616) (w : World) :
    Calls Try.prog 12 #[.int .u64 h, .int .u64 c] w fun e w' => e = .returned (.int .u64 (stepI h c)) ∧ w = w' :=
  (callsIn_wide (n := 3)).1 (step_in Fence.wide 3 lets_wide h c hh hc w)
theorem rstep_any (h c : Int) (hh : 0 ≤ h ∧ h < 18446744073709551616) (hc : 0 ≤ c ∧ c < 18446744073709551616) (w : World) :
    Calls Try.prog 13 #[.int .u64 h, .int .u64 c] w fun e w' => e = .returned (.int .u64 (stepI h c)) ∧ w = w' :=
  (callsIn_wide (n := 3)).1 (rstep_in Fence.wide 3 lets_wide h c hh hc w)

theorem rjoin_any (a b : Int) (ha : 0 ≤ a ∧ a < 18446744073709551616) (hb : 0 ≤ b ∧ b < 18446744073709551616) (w : World) :
    Calls Try.prog 15 #[.int .u64 a, .int .u64 b] w fun e w' => e = .returned (.int .u64 (stepI (stepI 1852793957 a) b)) ∧ w = w' := by
  go_enter Try.func15, Try.ntmps15
  go_wp2_with (first
    | (go_at_call 13; with_reducible refine (rstep_any 1852793957 a (by omega) ha _).mono ?_; rintro e w' ⟨rfl, rfl⟩)
    | (go_at_call 13; refine (rstep_any (stepI 1852793957 a) b ⟨stepI_lo _ _, stepI_hi _ _⟩ hb _).mono ?_; rintro e w' ⟨rfl, rfl⟩))
  go_ret
  exact ⟨rfl, rfl⟩

end Go.Proofs.Ytjlihkllgajkkaa
