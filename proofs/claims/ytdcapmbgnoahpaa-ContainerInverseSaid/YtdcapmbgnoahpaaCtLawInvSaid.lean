/-
  Opening returns the file that was sealed, and accepts sealed forms alone: the law returns true for all arguments, and changes nothing. No condition.
-/
import Derived.Test.YtdcapmbgnoahpaaCtLawInv
namespace Go.Proofs.Ytdcapmbgnoahpaa.containerInverse
open Go.ChangeShapes Go.WideShapes Go.ChangeAt Go.RowKit
open Go.Proofs.Ytdcapmbgnoahpaa

set_option maxRecDepth 100000 in
set_option maxHeartbeats 4000000 in
theorem walk_long {k : Nat} {a1 a2 ab : Option Addr} {n1 t1 n2 t2 nb cb : Nat} {w : World} (hb4 : 400 < nb) :
    Calls Try.prog 5 #[.agg #[.int .u8 (k : Int), .slice a1 n1 t1, .slice a2 n2 t2], .slice ab nb cb] w fun e V => e = .returned (.bool true) ∧ Below w.heap.size w V := by
  have hb0 : Below w.heap.size w (w.alloc (.cells #[.int .u8 (k : Int), .slice a1 n1 t1, .slice a2 n2 t2] 54)) := (Below.refl _ _).alloc (Nat.le_refl _) _
  have HB := Lib.hid hb0
  have hnb : (nb : Int) > 400 := by omega
  clear hb0
  go_enter Try.func5, Try.ntmps5
  go_upto_region 1 with fail
  generalize w.alloc (.cells #[.int .u8 (k : Int), .slice a1 n1 t1, .slice a2 n2 t2] 54) = V0 at *
  go_wp2_with fail
  refine (examples9_any _).mono ?_
  rintro e w1 ⟨rfl, hb1⟩
  replace HB : Hid (Below w.heap.size w w1) := HB.out.trans (hb1.mono HB.out.size)
  clear hb1
  go_wp2
  go_ret
  exact ⟨rfl, HB.out⟩

set_option maxRecDepth 100000 in
theorem lifted (os : Os) (started : os.Started) (H : Type) (enc : TypeId × Value → H) :
    ReturnsInHanded {} Try.checked os 5 .any (Rows.containerInverseSpec.pre6 enc Try.prog Try.f5 Rows.containerInverseRow.domain false) (Rows.containerInverseSpec.post enc Try.prog Try.f5 false true false false) := by
  refine returnsInHanded_of_change (C := Try.checked) own4 started (by kernel_rfl) Try.func5
    (ChangeSpec.witness6 (enc := enc) (C := Try.checked) false ⟨#[], #[.agg #[.int .u8 0, .slice none 0 0, .slice none 0 0], .slice none 0 0], []⟩ 8 (by kernel_rfl) (by kernel_rfl) (by kernel_rfl) (by kernel_rfl)) ?_
  intro W base args ds gs before hval0 hW hcnd _
  have hval : ∀ (j : Nat) t v, Try.f5.params[j]? = some t → args[j]? = some v → Value.okWide Try.prog W .any base t v := hval0
  have hW' := hW
  obtain ⟨p, q, hA0, hV, rfl, hfz, hnd⟩ := hW
  have hA : DataW.TrodAll enc Try.prog W 0 (fun _ => true) true Try.f5.params.toList args.toList ds p := hA0
  rw [Try.params5] at hA hval
  obtain ⟨v0, v1, d0, d1, p0, p1, rfl, rfl, rfl, h0, h1⟩ := trodAll_two hA
  obtain ⟨rfl, rfl⟩ := trodVars_none hV
  obtain ⟨k0, a0, n0, c0, id0, b0, m0, e0, da0, rfl, hk0, hI0, hD0, hz0, ho0⟩ := open_raw9 (hval 0 54 v0 rfl rfl) h0
  obtain ⟨a1, n1, c1, zs1, rfl, hR1, hw1⟩ := open_rdm_val Try.underlying22 Try.underlying5 cellsB4 (hval 1 22 v1 rfl rfl) h1
  clear hA0 hval0
  simp only [List.append_nil] at hW'
  have hlt0 : ∀ x ∈ p0, x.block < W.heap.size := fun x hx => by simpa using hW'.lt x (by simp [hx])
  have hlt1 : ∀ x ∈ p1, x.block < W.heap.size := fun x hx => by simpa using hW'.lt x (by simp [hx])
  have fin : Calls Try.prog 5 #[.agg #[.int .u8 (k0 : Int), .slice a0 n0 c0, .slice b0 m0 e0], .slice a1 n1 c1] W fun e w' => e = .returned (.bool true) ∧ Below W.heap.size W w' := by
    by_cases hl : 400 < n1
    · exact walk_long hl
    · exact walk hk0 hI0 hD0 hz0 ho0 (hR1.whole (by omega)) (oct_wf hw1) (by omega)
  refine fin.mono fun e W' ⟨he, hg⟩ => ?_
  subst he
  exact ⟨_, rfl, ⟨_, _, _, [], p0 ++ p1, [], hW', trodAll_mk1 (shut_bool Try.underlying4 _), trodAll_mk2 (Below.trod laidOut4 (by kernel_rfl) (of_decide_eq_true (by kernel_rfl)) h0 hg hlt0) (Below.trod laidOut4 (by kernel_rfl) (of_decide_eq_true (by kernel_rfl)) h1 hg hlt1), rfl, hg.frame _, fun h => by cases h⟩⟩

theorem over : Rows.containerInverseRow.holds Try.pinned (OpenSpec.ofChange Rows.containerInverseSpec) :=
  OpenClaim.holds_of_wide 5 Try.f5 rfl rfl rfl rfl rfl rfl rfl ⟨rfl, rfl, rfl, rfl, rfl⟩ rfl rfl rfl rfl rfl (by kernel_rfl) Try.func5 (by kernel_rfl)
    (of_decide_eq_true (by kernel_rfl)) (by unfold Func.isWrapper; first | (rw [if_pos (by decide +kernel)]; kernel_rfl) | (rw [if_neg (by decide +kernel)]; exact ⟨rfl, rfl⟩))
    (fun os started H enc _ => lifted os started H enc)

/-- The statement. -/
theorem proved : Rows.ContainerInverseSaid := over
#print axioms proved

end Go.Proofs.Ytdcapmbgnoahpaa.containerInverse
