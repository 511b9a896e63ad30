/-
  What is accepted is the packed form of a dictionary, and the rest: the law returns true for all arguments, and changes nothing. No condition.
-/
import Derived.Test.YtllpnhegelddlaaDcLawCan
import Derived.Test.YtllpnhegelddlaaRnOpen
namespace Go.Proofs.Ytllpnhegelddlaa.dictionaryCanonical
open Go.ChangeShapes Go.WideShapes Go.ChangeAt Go.RowKit
open Go.Proofs.Ytllpnhegelddlaa

set_option maxRecDepth 100000 in
set_option maxHeartbeats 1000000 in
theorem walk_long (a1 : Option Addr) (n1 c1 : Nat) (hlen : 400 < n1) (hmax : n1 ≤ 9223372036854775807) (w : World) :
    Calls Try.prog 5 #[.slice a1 n1 c1] w fun e w' => e = .returned (.bool true) ∧ Below w.heap.size w w' := by
  go_enter Try.func5, Try.ntmps5
  go_wp2_with fail
  refine (examples5_any _).mono ?_
  rintro e w1 ⟨rfl, hb1⟩
  go_wp2
  go_ret
  exact ⟨rfl, hb1⟩
set_option maxRecDepth 100000 in
theorem lifted (os : Os) (started : os.Started) (H : Type) (enc : TypeId × Value → H) :
    ReturnsInHanded {} Try.checked os 5 .any (Rows.dictionaryCanonicalSpec.pre6 enc Try.prog Try.f5 Rows.dictionaryCanonicalRow.domain false) (Rows.dictionaryCanonicalSpec.post enc Try.prog Try.f5 false true false false) := by
  refine returnsInHanded_of_change (C := Try.checked) own4 started (by kernel_rfl) Try.func5
    (ChangeSpec.witness6 (enc := enc) (C := Try.checked) false ⟨#[], #[.slice none 0 0], []⟩ 8 (by kernel_rfl) (by kernel_rfl) (by kernel_rfl) (by kernel_rfl)) ?_
  intro W base args ds gs before hval0 hW hcnd _
  have hval : ∀ (j : Nat) t v, Try.f5.params[j]? = some t → args[j]? = some v → Value.okWide Try.prog W .any base t v := hval0
  have hW' := hW
  obtain ⟨p, q, hA0, hV, rfl, hfz, hnd⟩ := hW
  have hA : DataW.TrodAll enc Try.prog W 0 (fun _ => true) true Try.f5.params.toList args.toList ds p := hA0
  rw [Try.params5] at hA hval
  obtain ⟨v0, d0, rfl, rfl, h0⟩ := trodAll_one hA
  obtain ⟨rfl, rfl⟩ := trodVars_none hV
  obtain ⟨a0, n0, c0, zs0, rfl, hmax0, hR0, hwf0⟩ := open_rd4 Try.underlying22 Try.underlying5 cellsB4 (hval 0 22 v0 rfl rfl) h0
  clear hA0 hval0
  simp only [List.append_nil] at hW'
  have hlt0 : ∀ x ∈ p, x.block < W.heap.size := fun x hx => by simpa using hW'.lt x (by simp [hx])
  have hz0 : Oct zs0 := fun x hx => by
    have := hwf0 x hx
    simp [Lit.wf, IntKind.min, IntKind.max, IntKind.signed, IntKind.bits] at this; omega
  have fin : Calls Try.prog 5 #[.slice a0 n0 c0] W fun e w' => e = .returned (.bool true) ∧ Below W.heap.size W w' := by
    by_cases q : 400 < n0
    · exact walk_long a0 n0 c0 q hmax0 W
    · rcases un_errs zs0 with h | h | h
      · exact walk_good hz0 (by omega) W (hR0 (by omega)) (unD zs0).1 (unD zs0).2.1 (by rw [← h])
      · exact walk_bad hz0 (by omega) W (hR0 (by omega)) 5 (.inl rfl) h
      · exact walk_bad hz0 (by omega) W (hR0 (by omega)) 7 (.inr rfl) h
  refine fin.mono fun e W' ⟨he, hg⟩ => ?_
  subst he
  exact ⟨_, rfl, ⟨_, _, _, [], p, [], hW', trodAll_mk1 (shut_bool Try.underlying4 _), trodAll_mk1 (Below.trod laidOut4 (by kernel_rfl) (of_decide_eq_true (by kernel_rfl)) h0 hg hlt0), rfl, hg.frame _, fun h => by cases h⟩⟩

theorem over : Rows.dictionaryCanonicalRow.holds Try.pinned (OpenSpec.ofChange Rows.dictionaryCanonicalSpec) :=
  OpenClaim.holds_of_wide 5 Try.f5 rfl rfl rfl rfl rfl rfl rfl ⟨rfl, rfl, rfl, rfl, rfl⟩ rfl rfl rfl rfl rfl (by kernel_rfl) Try.func5 (by kernel_rfl)
    (of_decide_eq_true (by kernel_rfl)) (by unfold Func.isWrapper; first | (rw [if_pos (by decide +kernel)]; kernel_rfl) | (rw [if_neg (by decide +kernel)]; exact ⟨rfl, rfl⟩))
    (fun os started H enc _ => lifted os started H enc)

/-- The statement. -/
theorem proved : Rows.DictionaryCanonicalSaid := over
#print axioms proved

end Go.Proofs.Ytllpnhegelddlaa.dictionaryCanonical
