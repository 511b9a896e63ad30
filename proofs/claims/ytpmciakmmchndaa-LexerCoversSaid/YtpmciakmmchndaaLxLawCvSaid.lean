/-
  The tokens of a well-formed source are valid and cover it but for white space: the law returns true for all arguments, and changes nothing. No condition.
-/
import Derived.Test.YtpmciakmmchndaaRows
import Derived.Test.YtpmciakmmchndaaLxLawCv
import Derived.HandedShaped
import Derived.OpenShut
namespace Go.Proofs.Ytpmciakmmchndaa.lexerCovers
open Go.ChangeShapes Go.WideShapes Go.ChangeAt Go.RowKit
open Go.ChangeMaps (open_string shut_string)
open Go.Proofs.Ytpmciakmmchndaa Go.Proofs.Ytpmciakmmchndaa.Lx

theorem ownX : ownKnob Try.prog.godebug = none := by kernel_rfl
theorem laidOutX : laidOutB Try.prog = true := by kernel_rfl
theorem vars_of {W : World} (hsh : W.ShapedOpen Try.prog) : Vars W := ⟨Try.laysM145.s1_3 W hsh⟩

set_option maxRecDepth 100000 in
theorem lifted (os : Os) (started : os.Started) (H : Type) (enc : TypeId × Value → H) :
    ReturnsInHanded {} Try.checked os 4 .any (Rows.lexerCoversSpec.pre6 enc Try.prog Try.f4 Rows.lexerCoversRow.domain false) (Rows.lexerCoversSpec.post enc Try.prog Try.f4 false true false false) := by
  refine returnsInHanded_of_change_shaped (C := Try.checked) ownX started (by kernel_rfl) Try.func4
    (ChangeSpec.witness6 (enc := enc) (C := Try.checked) false ⟨#[], #[.string ⟨#[]⟩], []⟩ 8 (by kernel_rfl) (by kernel_rfl) (by kernel_rfl) (by kernel_rfl)) ?_
  intro W base args ds gs before hval0 hW hcnd _ hsh _
  have hVV := vars_of hsh
  have hval : ∀ (j : Nat) t v, Try.f4.params[j]? = some t → args[j]? = some v → Value.okWide Try.prog W .any base t v := hval0
  have hW' := hW
  obtain ⟨p, q, hA0, hV, rfl, hfz, hnd⟩ := hW
  have hA : DataW.TrodAll enc Try.prog W 0 (fun _ => true) true Try.f4.params.toList args.toList ds p := hA0
  rw [Try.params4] at hA hval
  obtain ⟨v0, d0, rfl, rfl, h0⟩ := trodAll_one hA
  obtain ⟨rfl, rfl⟩ := trodVars_none hV
  obtain ⟨s0, rfl, rfl, rfl, w0⟩ := open_string Try.underlying9 (hval 0 9 v0 rfl rfl) h0
  clear hA0 hval0
  simp only [List.append_nil] at hW'
  have hs0 : s0.data.toList.length ≤ 9223372036854775807 := by have := w0; unfold maxLen at this; simpa using this
  have fin : Calls Try.prog 4 #[.string s0] W fun e w' => e = .returned (.bool true) ∧ Below W.heap.size W w' := by
    have h := walk (s := s0.data.toList) (w := W) hs0 hVV
    rw [bs_of] at h
    exact h
  refine fin.mono fun e W' ⟨he, hg⟩ => ?_
  subst he
  exact ⟨_, rfl, ⟨_, _, _, [], _, [], hW', trodAll_mk1 (shut_bool Try.underlying4 _), trodAll_mk1 (shut_string Try.underlying9 w0), rfl, hg.frame _, fun h => by cases h⟩⟩

theorem over : Rows.lexerCoversRow.holds Try.pinned (OpenSpec.ofChange Rows.lexerCoversSpec) :=
  OpenClaim.holds_of_wide 4 Try.f4 rfl rfl rfl rfl rfl rfl rfl ⟨rfl, rfl, rfl, rfl, rfl⟩ rfl rfl rfl rfl rfl (by kernel_rfl) Try.func4 (by kernel_rfl)
    (of_decide_eq_true (by kernel_rfl)) (by unfold Func.isWrapper; first | (rw [if_pos (by decide +kernel)]; kernel_rfl) | (rw [if_neg (by decide +kernel)]; exact ⟨rfl, rfl⟩))
    (fun os started H enc _ => lifted os started H enc)

/-- The statement. -/
theorem proved : Rows.LexerCoversSaid := over
#print axioms proved

end Go.Proofs.Ytpmciakmmchndaa.lexerCovers
