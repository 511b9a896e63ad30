/-
  The comparison is a total order of identities, in which the contents do not matter: the law returns true for all arguments, and changes nothing. No condition.
-/
import Derived.Test.YtdcapmbgnoahpaaCtLawOrders
namespace Go.Proofs.Ytdcapmbgnoahpaa.containerOrders
open Go.ChangeShapes Go.WideShapes Go.ChangeAt Go.RowKit
open Go.Proofs.Ytdcapmbgnoahpaa

set_option maxRecDepth 100000 in
theorem lifted (os : Os) (started : os.Started) (H : Type) (enc : TypeId × Value → H) :
    ReturnsInHanded {} Try.checked os 9 .any (Rows.containerOrdersSpec.pre6 enc Try.prog Try.f9 Rows.containerOrdersRow.domain false) (Rows.containerOrdersSpec.post enc Try.prog Try.f9 false true false false) := by
  refine returnsInHanded_of_change (C := Try.checked) own4 started (by kernel_rfl) Try.func9
    (ChangeSpec.witness6 (enc := enc) (C := Try.checked) false ⟨#[], #[.agg #[.int .i64 0, .slice none 0 0, .slice none 0 0], .agg #[.int .i64 0, .slice none 0 0, .slice none 0 0], .agg #[.int .i64 0, .slice none 0 0, .slice none 0 0]], []⟩ 8 (by kernel_rfl) (by kernel_rfl) (by kernel_rfl) (by kernel_rfl)) ?_
  intro W base args ds gs before hval0 hW hcnd _
  have hval : ∀ (j : Nat) t v, Try.f9.params[j]? = some t → args[j]? = some v → Value.okWide Try.prog W .any base t v := hval0
  have hW' := hW
  obtain ⟨p, q, hA0, hV, rfl, hfz, hnd⟩ := hW
  have hA : DataW.TrodAll enc Try.prog W 0 (fun _ => true) true Try.f9.params.toList args.toList ds p := hA0
  rw [Try.params9] at hA hval
  obtain ⟨v0, v1, v2, d0, d1, d2, p0, p1, p2, rfl, rfl, rfl, h0, h1, h2⟩ := trodAll_three hA
  obtain ⟨rfl, rfl⟩ := trodVars_none hV
  obtain ⟨k0, a0, n0, c0, id0, b0, m0, e0, da0, rfl, hk0, hI0, hD0, hz0, ho0⟩ := open_file9 (hval 0 52 v0 rfl rfl) h0
  obtain ⟨k1, a1, n1, c1, id1, b1, m1, e1, da1, rfl, hk1, hI1, hD1, hz1, ho1⟩ := open_file9 (hval 1 52 v1 rfl rfl) h1
  obtain ⟨k2, a2, n2, c2, id2, b2, m2, e2, da2, rfl, hk2, hI2, hD2, hz2, ho2⟩ := open_file9 (hval 2 52 v2 rfl rfl) h2
  clear hA0 hval0
  simp only [List.append_nil] at hW'
  have hlt0 : ∀ x ∈ p0, x.block < W.heap.size := fun x hx => by simpa using hW'.lt x (by simp [hx])
  have hlt1 : ∀ x ∈ p1, x.block < W.heap.size := fun x hx => by simpa using hW'.lt x (by simp [hx])
  have hlt2 : ∀ x ∈ p2, x.block < W.heap.size := fun x hx => by simpa using hW'.lt x (by simp [hx])
  have fin : Calls Try.prog 9 #[.agg #[.int .i64 k0, .slice a0 n0 c0, .slice b0 m0 e0], .agg #[.int .i64 k1, .slice a1 n1 c1, .slice b1 m1 e1], .agg #[.int .i64 k2, .slice a2 n2 c2, .slice b2 m2 e2]] W fun e w' => e = .returned (.bool true) ∧ Below W.heap.size W w' := by
    by_cases hl : 60 < n0 ∨ 60 < n1 ∨ 60 < n2
    · exact walk_long hl
    · exact walk (by omega) (by omega) (by omega) (hI0.whole (by omega)) (hI1.whole (by omega)) (hI2.whole (by omega))
  refine fin.mono fun e W' ⟨he, hg⟩ => ?_
  subst he
  exact ⟨_, rfl, ⟨_, _, _, [], p0 ++ (p1 ++ p2), [], hW', trodAll_mk1 (shut_bool Try.underlying4 _), trodAll_mk3 (Below.trod laidOut4 (by kernel_rfl) (of_decide_eq_true (by kernel_rfl)) h0 hg hlt0) (Below.trod laidOut4 (by kernel_rfl) (of_decide_eq_true (by kernel_rfl)) h1 hg hlt1) (Below.trod laidOut4 (by kernel_rfl) (of_decide_eq_true (by kernel_rfl)) h2 hg hlt2), rfl, hg.frame _, fun h => by cases h⟩⟩

theorem over : Rows.containerOrdersRow.holds Try.pinned (OpenSpec.ofChange Rows.containerOrdersSpec) :=
  OpenClaim.holds_of_wide 9 Try.f9 rfl rfl rfl rfl rfl rfl rfl ⟨rfl, rfl, rfl, rfl, rfl⟩ rfl rfl rfl rfl rfl (by kernel_rfl) Try.func9 (by kernel_rfl)
    (of_decide_eq_true (by kernel_rfl)) (by unfold Func.isWrapper; first | (rw [if_pos (by decide +kernel)]; kernel_rfl) | (rw [if_neg (by decide +kernel)]; exact ⟨rfl, rfl⟩))
    (fun os started H enc _ => lifted os started H enc)

/-- The statement. -/
theorem proved : Rows.ContainerOrdersSaid := over
#print axioms proved

end Go.Proofs.Ytdcapmbgnoahpaa.containerOrders
