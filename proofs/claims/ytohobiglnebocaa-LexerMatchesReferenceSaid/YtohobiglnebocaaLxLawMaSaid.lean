/-
  The lexer and the reference agree, for any sources and tokens: the law returns true for all arguments, and changes nothing. No condition.
-/
import Derived.Test.YtohobiglnebocaaRows
import Derived.Test.YtohobiglnebocaaLxLawMa
import Derived.HandedShaped
import Derived.OpenShut
namespace Go.Proofs.Ytohobiglnebocaa.lexerMatchesReference
open Go.ChangeShapes Go.WideShapes Go.ChangeAt Go.RowKit
open Go.ChangeMaps (open_string shut_string)
open Go.Proofs.Ytohobiglnebocaa Go.Proofs.Ytohobiglnebocaa.Lx

theorem ownX : ownKnob Try.prog.godebug = none := by kernel_rfl
theorem laidOutX : laidOutB Try.prog = true := by kernel_rfl
theorem vars_of {W : World} (hsh : W.ShapedOpen Try.prog) : Vars W := ⟨Try.laysM145.s1_3 W hsh⟩

set_option maxRecDepth 100000 in
theorem lifted (os : Os) (started : os.Started) (H : Type) (enc : TypeId × Value → H) :
    ReturnsInHanded {} Try.checked os 3 .any (Rows.lexerMatchesReferenceSpec.pre6 enc Try.prog Try.f3 Rows.lexerMatchesReferenceRow.domain false) (Rows.lexerMatchesReferenceSpec.post enc Try.prog Try.f3 false true false false) := by
  refine returnsInHanded_of_change_shaped (C := Try.checked) ownX started (by kernel_rfl) Try.func3
    (ChangeSpec.witness6 (enc := enc) (C := Try.checked) false ⟨#[], #[.string ⟨#[]⟩, .slice none 0 0, .int .i64 0], []⟩ 8 (by kernel_rfl) (by kernel_rfl) (by kernel_rfl) (by kernel_rfl)) ?_
  intro W base args ds gs before hval0 hW hcnd hsz hsh _
  have hVV := vars_of hsh
  have hval : ∀ (j : Nat) t v, Try.f3.params[j]? = some t → args[j]? = some v → Value.okWide Try.prog W .any base t v := hval0
  have hW' := hW
  obtain ⟨p, q, hA0, hV, rfl, hfz, hnd⟩ := hW
  have hA : DataW.TrodAll enc Try.prog W 0 (fun _ => true) true Try.f3.params.toList args.toList ds p := hA0
  rw [Try.params3] at hA hval
  obtain ⟨v0, v1, v2, d0, d1, d2, p0, p1, p2, rfl, rfl, rfl, h0, h1, h2⟩ := trodAll_three hA
  obtain ⟨rfl, rfl⟩ := trodVars_none hV
  obtain ⟨s0, rfl, rfl, rfl, w0⟩ := open_string Try.underlying9 (hval 0 9 v0 rfl rfl) h0
  obtain ⟨a1, n1, c1, ts1, rfl, hR1, hF1⟩ := open_toks (hval 1 22 v1 rfl rfl) h1 (fun n hn => by simpa using List.all_eq_true.1 hsz _ (DataW.weights_mem_each (j := 1) (by kernel_rfl) rfl n hn))
  obtain ⟨x2, rfl, rfl, rfl, w2⟩ := open_int Try.underlying3 (hval 2 3 v2 rfl rfl) h2
  clear hA0 hval0
  simp only [List.append_nil] at hW'
  have hs0 : s0.data.toList.length ≤ 9223372036854775807 := by have := w0; unfold maxLen at this; simpa using this
  have hlt1 : ∀ x ∈ p1, x.block < W.heap.size := fun x hx => by simpa using hW'.lt x (by simp [hx])
  have fin : Calls Try.prog 3 #[.string s0, .slice a1 n1 c1, .int .i64 x2] W fun e w' => e = .returned (.bool true) ∧ Below W.heap.size W w' := by
    have hb0 : s0.data.toList.length ≤ 140737488351232 := by
      have := sized_string hsz (j := 0) (t := 9) (by kernel_rfl) rfl
      unfold reachBytes at this
      exact this
    have h := walk_ma (s := s0.data.toList) (z := x2) (w := W) hb0 hR1 hF1 hVV
    rw [bs_of] at h
    exact h
  refine fin.mono fun e W' ⟨he, hg⟩ => ?_
  subst he
  exact ⟨_, rfl, ⟨_, _, _, [], _, [], hW', trodAll_mk1 (shut_bool Try.underlying4 _), trodAll_mk3 (shut_string Try.underlying9 w0) (Below.trod laidOutX (by kernel_rfl) (of_decide_eq_true (by kernel_rfl)) h1 hg hlt1) (shut_int Try.underlying3 w2), rfl, hg.frame _, fun h => by cases h⟩⟩

theorem over : Rows.lexerMatchesReferenceRow.holds Try.pinned (OpenSpec.ofChange Rows.lexerMatchesReferenceSpec) :=
  OpenClaim.holds_of_wide 3 Try.f3 rfl rfl rfl rfl rfl rfl rfl ⟨rfl, rfl, rfl, rfl, rfl⟩ rfl rfl rfl rfl rfl (by kernel_rfl) Try.func3 (by kernel_rfl)
    (of_decide_eq_true (by kernel_rfl)) (by unfold Func.isWrapper; first | (rw [if_pos (by decide +kernel)]; kernel_rfl) | (rw [if_neg (by decide +kernel)]; exact ⟨rfl, rfl⟩))
    (fun os started H enc _ => lifted os started H enc)

/-- The statement. -/
theorem proved : Rows.LexerMatchesReferenceSaid := over
#print axioms proved

end Go.Proofs.Ytohobiglnebocaa.lexerMatchesReference
