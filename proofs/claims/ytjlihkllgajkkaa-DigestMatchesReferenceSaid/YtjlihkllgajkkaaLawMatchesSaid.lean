/-
  The reference: for all lists, byte sequences and words, the law returns true and changes nothing. No condition.
-/
import Derived.Test.YtjlihkllgajkkaaLawMatches
import Derived.Test.YtjlihkllgajkkaaOpenArr
namespace Go.Proofs.Ytjlihkllgajkkaa.digestMatchesReference
open Go.ChangeShapes Go.WideShapes Go.ChangeAt Go.RowKit
open Go.Proofs.Ytjlihkllgajkkaa

set_option maxRecDepth 100000 in
set_option maxHeartbeats 1000000 in
theorem walk_long1 (a a2 : Option Addr) (len cap len2 cap2 : Nat) (z0 z1 z2 : Int) (hlen : 200 < len) (hmax : len ≤ 9223372036854775807) (w : World) :
    Calls Try.prog 3 #[.slice a len cap, .slice a2 len2 cap2, .agg #[.int .u64 z0, .int .u64 z1, .int .u64 z2]] w fun e w' => e = .returned (.bool true) ∧ Below w.heap.size w w' := by
  go_enter Try.func3, Try.ntmps3
  go_wp2_with (go_at_call 9; refine (examples_any _).mono ?_; rintro e w1 ⟨rfl, hb1⟩)
  go_ret
  exact ⟨rfl, (((Below.refl _ w).alloc (Nat.le_refl _) _).trans (hb1.mono (by simp)))⟩

set_option maxRecDepth 100000 in
set_option maxHeartbeats 1000000 in
theorem walk_long2 (a a2 : Option Addr) (len cap len2 cap2 : Nat) (z0 z1 z2 : Int) (hlen : len ≤ 200) (hlen2 : 200 < len2) (hmax : len2 ≤ 9223372036854775807) (w : World) :
    Calls Try.prog 3 #[.slice a len cap, .slice a2 len2 cap2, .agg #[.int .u64 z0, .int .u64 z1, .int .u64 z2]] w fun e w' => e = .returned (.bool true) ∧ Below w.heap.size w w' := by
  go_enter Try.func3, Try.ntmps3
  go_wp2_with (go_at_call 9; refine (examples_any _).mono ?_; rintro e w1 ⟨rfl, hb1⟩)
  go_ret
  exact ⟨rfl, (((Below.refl _ w).alloc (Nat.le_refl _) _).trans (hb1.mono (by simp)))⟩

theorem own : ownKnob Try.prog.godebug = none := by kernel_rfl
theorem laidOut : laidOutB Try.prog = true := by kernel_rfl
theorem cells : Try.prog.cellsOf 3 = 1 := by kernel_rfl
theorem cellsB : Try.prog.cellsOf 5 = 1 := by kernel_rfl
theorem cellsW : Try.prog.cellsOf 24 = 1 := by kernel_rfl
theorem cellsZ : Try.prog.cellsOf 25 = 3 := by kernel_rfl

set_option maxRecDepth 100000 in
theorem lifted (os : Os) (started : os.Started) (H : Type) (enc : TypeId × Value → H) :
    ReturnsInHanded {} Try.checked os 3 .any (Rows.digestMatchesReferenceSpec.pre6 enc Try.prog Try.f3 Rows.digestMatchesReferenceRow.domain false) (Rows.digestMatchesReferenceSpec.post enc Try.prog Try.f3 false true false false) := by
  refine returnsInHanded_of_change (C := Try.checked) own started (by kernel_rfl) Try.func3
    (ChangeSpec.witness6 (enc := enc) (C := Try.checked) false ⟨#[], #[.slice none 0 0, .slice none 0 0, .agg #[.int .u64 0, .int .u64 0, .int .u64 0]], []⟩ 8 (by kernel_rfl) (by kernel_rfl) (by kernel_rfl) (by kernel_rfl)) ?_
  intro W base args ds gs before hval0 hW hcnd _
  have hval : ∀ (j : Nat) t v, Try.f3.params[j]? = some t → args[j]? = some v → Value.okWide Try.prog W .any base t v := hval0
  have hW' := hW
  obtain ⟨p, q, hA0, hV, rfl, hfz, hnd⟩ := hW
  have hA : DataW.TrodAll enc Try.prog W 0 (fun _ => true) true Try.f3.params.toList args.toList ds p := hA0
  rw [Try.params3] at hA hval
  obtain ⟨v0, v1, v2, d0, d1, d2, p0, p1, p2, rfl, rfl, rfl, h0, h1, h2⟩ := trodAll_three hA
  obtain ⟨rfl, rfl⟩ := trodVars_none hV
  obtain ⟨a, len, cap, zs, rfl, hlen, hfit, hmax, hR, hwf⟩ := open_reads Try.underlying22 Try.underlying3 cells (hval 0 22 v0 rfl rfl) h0
  obtain ⟨a2, len2, cap2, bs, rfl, hlen2, hfit2, hmax2, hR2, hwf2⟩ := open_reads Try.underlying23 Try.underlying5 cellsB (hval 1 23 v1 rfl rfl) h1
  obtain ⟨z0, z1, z2, rfl, y0, y1, y2⟩ := open_array3 Try.underlying25 Try.underlying24 cellsW cellsZ (hval 2 25 v2 rfl rfl) h2
  clear hA0 hval0
  simp only [List.append_nil] at hW'
  have hlt : ∀ x ∈ p0, x.block < W.heap.size := fun x hx => by simpa using hW'.lt x (by simp [hx])
  have hlt2 : ∀ x ∈ p1, x.block < W.heap.size := fun x hx => by simpa using hW'.lt x (by simp [hx])
  have hlt3 : ∀ x ∈ p2, x.block < W.heap.size := fun x hx => by simpa using hW'.lt x (by simp [hx])
  have hbs : Octets bs := fun x hx => by
    have := hwf2 x hx
    simp [Lit.wf, IntKind.min, IntKind.max, IntKind.signed, IntKind.bits] at this; omega
  have fin : Calls Try.prog 3 #[.slice a len cap, .slice a2 len2 cap2, .agg #[.int .u64 z0, .int .u64 z1, .int .u64 z2]] W fun e w' => e = .returned (.bool true) ∧ Below W.heap.size W w' := by
    by_cases q1 : 200 < len
    · exact walk_long1 a a2 len cap len2 cap2 z0 z1 z2 q1 hmax W
    · by_cases q2 : 200 < len2
      · exact walk_long2 a a2 len cap len2 cap2 z0 z1 z2 (by omega) q2 hmax2 W
      · exact walk a a2 len cap len2 cap2 z0 z1 z2 zs bs hlen hlen2 hfit2 hbs (by omega) (by omega) y0 y1 W hR hR2
  refine fin.mono fun e W' ⟨he, hg⟩ => ?_
  subst he
  exact ⟨_, rfl, ⟨_, _, _, [], p0 ++ (p1 ++ p2), [], hW', trodAll_mk1 (shut_bool Try.underlying4 _), trodAll_mk3 (Below.trod laidOut (by kernel_rfl) (of_decide_eq_true (by kernel_rfl)) h0 hg hlt) (Below.trod laidOut (by kernel_rfl) (of_decide_eq_true (by kernel_rfl)) h1 hg hlt2) (Below.trod laidOut (by kernel_rfl) (of_decide_eq_true (by kernel_rfl)) h2 hg hlt3), rfl, hg.frame _, fun h => by cases h⟩⟩

theorem over : Rows.digestMatchesReferenceRow.holds Try.pinned (OpenSpec.ofChange Rows.digestMatchesReferenceSpec) :=
  OpenClaim.holds_of_wide 3 Try.f3 rfl rfl rfl rfl rfl rfl rfl ⟨rfl, rfl, rfl, rfl, rfl⟩ rfl rfl rfl rfl rfl (by kernel_rfl) Try.func3 (by kernel_rfl)
    (of_decide_eq_true (by kernel_rfl)) (by unfold Func.isWrapper; first | (rw [if_pos (by decide +kernel)]; kernel_rfl) | (rw [if_neg (by decide +kernel)]; exact ⟨rfl, rfl⟩))
    (fun os started H enc _ => lifted os started H enc)

/-- The statement. -/
theorem proved : Rows.DigestMatchesReferenceSaid := over
#print axioms proved

end Go.Proofs.Ytjlihkllgajkkaa.digestMatchesReference
