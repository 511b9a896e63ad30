/-
  Packing and reading back are as in the reference: the law returns true for all arguments, and changes nothing. No condition.
-/
import Derived.Test.YthmgbnlffkhblaaPkLawMa
import Derived.Test.YthmgbnlffkhblaaRnOpen
namespace Go.Proofs.Ythmgbnlffkhblaa.bitpackMatchesReference
open Go.ChangeShapes Go.WideShapes Go.ChangeAt Go.RowKit
open Go.Proofs.Ythmgbnlffkhblaa

set_option maxRecDepth 100000 in
set_option maxHeartbeats 1000000 in
theorem walk_long1 (a a2 : Option Addr) (len cap len2 cap2 : Nat) (y : Int) (hlen : 300 < len) (hmax : len ≤ 9223372036854775807) (w : World) :
    Calls Try.prog 3 #[.slice a len cap, .slice a2 len2 cap2, .int .u64 y] w fun e w' => e = .returned (.bool true) ∧ Below w.heap.size w w' := by
  go_enter Try.func3, Try.ntmps3
  go_wp2_with fail
  refine (examples_any _).mono ?_
  rintro e w1 ⟨rfl, hb1⟩
  go_wp2
  go_ret
  exact ⟨rfl, hb1⟩

set_option maxRecDepth 100000 in
set_option maxHeartbeats 1000000 in
theorem walk_long2 (a a2 : Option Addr) (len cap len2 cap2 : Nat) (y : Int) (hlen : len ≤ 300) (hlen2 : 300 < len2) (hmax2 : len2 ≤ 9223372036854775807) (w : World) :
    Calls Try.prog 3 #[.slice a len cap, .slice a2 len2 cap2, .int .u64 y] w fun e w' => e = .returned (.bool true) ∧ Below w.heap.size w w' := by
  go_enter Try.func3, Try.ntmps3
  go_wp2_with fail
  refine (examples_any _).mono ?_
  rintro e w1 ⟨rfl, hb1⟩
  go_wp2
  go_ret
  exact ⟨rfl, hb1⟩

set_option maxRecDepth 100000 in
theorem lifted (os : Os) (started : os.Started) (H : Type) (enc : TypeId × Value → H) :
    ReturnsInHanded {} Try.checked os 3 .any (Rows.bitpackMatchesReferenceSpec.pre6 enc Try.prog Try.f3 Rows.bitpackMatchesReferenceRow.domain false) (Rows.bitpackMatchesReferenceSpec.post enc Try.prog Try.f3 false true false false) := by
  refine returnsInHanded_of_change (C := Try.checked) own4 started (by kernel_rfl) Try.func3
    (ChangeSpec.witness6 (enc := enc) (C := Try.checked) false ⟨#[], #[.slice none 0 0, .slice none 0 0, .int .u64 0], []⟩ 8 (by kernel_rfl) (by kernel_rfl) (by kernel_rfl) (by kernel_rfl)) ?_
  intro W base args ds gs before hval0 hW hcnd _
  have hval : ∀ (j : Nat) t v, Try.f3.params[j]? = some t → args[j]? = some v → Value.okWide Try.prog W .any base t v := hval0
  have hW' := hW
  obtain ⟨p, q, hA0, hV, rfl, hfz, hnd⟩ := hW
  have hA : DataW.TrodAll enc Try.prog W 0 (fun _ => true) true Try.f3.params.toList args.toList ds p := hA0
  rw [Try.params3] at hA hval
  obtain ⟨v0, v1, v2, d0, d1, d2, p0, p1, p2, rfl, rfl, rfl, h0, h1, h2⟩ := trodAll_three hA
  obtain ⟨rfl, rfl⟩ := trodVars_none hV
  obtain ⟨a0, n0, c0, zs0, rfl, hmax0, hR0, hwf0⟩ := open_rd4 Try.underlying22 Try.underlying3 cellsN4 (hval 0 22 v0 rfl rfl) h0
  obtain ⟨a1, n1, c1, zs1, rfl, hmax1, hR1, hwf1⟩ := open_rd4 Try.underlying23 Try.underlying5 cellsB4 (hval 1 23 v1 rfl rfl) h1
  obtain ⟨x2, rfl, rfl, rfl, w2⟩ := open_int Try.underlying24 (hval 2 24 v2 rfl rfl) h2
  clear hA0 hval0
  simp only [List.append_nil] at hW'
  have hlt0 : ∀ x ∈ p0, x.block < W.heap.size := fun x hx => by simpa using hW'.lt x (by simp [hx])
  have hlt1 : ∀ x ∈ p1, x.block < W.heap.size := fun x hx => by simpa using hW'.lt x (by simp [hx])
  have hz0 : Smalls zs0 := fun x hx => by
    have := hwf0 x hx
    simp [Lit.wf, IntKind.min, IntKind.max, IntKind.signed, IntKind.bits] at this
    unfold I64; omega
  have hz1 : Oct zs1 := fun x hx => by
    have := hwf1 x hx
    simp [Lit.wf, IntKind.min, IntKind.max, IntKind.signed, IntKind.bits] at this; omega
  have hx2 : U64 x2 := by
    have := w2
    simp [Lit.wf, IntKind.min, IntKind.max, IntKind.signed, IntKind.bits] at this
    unfold U64; omega
  have fin : Calls Try.prog 3 #[.slice a0 n0 c0, .slice a1 n1 c1, .int .u64 x2] W fun e w' => e = .returned (.bool true) ∧ Below W.heap.size W w' := by
    obtain ⟨m2, rfl⟩ := Int.eq_ofNat_of_zero_le hx2.1
    have hm2 : m2 < 18446744073709551616 := by have := hx2.2; omega
    by_cases q1 : 300 < n0
    · exact walk_long1 a0 a1 n0 c0 n1 c1 _ q1 hmax0 W
    · by_cases q2 : 300 < n1
      · exact walk_long2 a0 a1 n0 c0 n1 c1 _ (by omega) q2 hmax1 W
      · exact walk hz0 hz1 m2 hm2 (by omega) (by omega) W (hR0 (by omega)) (hR1 (by omega))
  refine fin.mono fun e W' ⟨he, hg⟩ => ?_
  subst he
  exact ⟨_, rfl, ⟨_, _, _, [], p0 ++ (p1 ++ []), [], hW', trodAll_mk1 (shut_bool Try.underlying4 _), trodAll_mk3 (Below.trod laidOut4 (by kernel_rfl) (of_decide_eq_true (by kernel_rfl)) h0 hg hlt0) (Below.trod laidOut4 (by kernel_rfl) (of_decide_eq_true (by kernel_rfl)) h1 hg hlt1) (shut_int Try.underlying24 w2), rfl, hg.frame _, fun h => by cases h⟩⟩

theorem over : Rows.bitpackMatchesReferenceRow.holds Try.pinned (OpenSpec.ofChange Rows.bitpackMatchesReferenceSpec) :=
  OpenClaim.holds_of_wide 3 Try.f3 rfl rfl rfl rfl rfl rfl rfl ⟨rfl, rfl, rfl, rfl, rfl⟩ rfl rfl rfl rfl rfl (by kernel_rfl) Try.func3 (by kernel_rfl)
    (of_decide_eq_true (by kernel_rfl)) (by unfold Func.isWrapper; first | (rw [if_pos (by decide +kernel)]; kernel_rfl) | (rw [if_neg (by decide +kernel)]; exact ⟨rfl, rfl⟩))
    (fun os started H enc _ => lifted os started H enc)

/-- The statement. -/
theorem proved : Rows.BitpackMatchesReferenceSaid := over
#print axioms proved

end Go.Proofs.Ythmgbnlffkhblaa.bitpackMatchesReference
