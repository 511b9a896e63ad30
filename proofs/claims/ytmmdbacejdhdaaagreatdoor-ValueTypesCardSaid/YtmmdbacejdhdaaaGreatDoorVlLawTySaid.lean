/-
  Types and values are what the document promises of them: for all arguments, the law returns true and changes nothing. The tables that the program reads hold what its text lays in them (the card ties them).
-/
import Derived.Test.YtmmdbacejdhdaaaGreatDoorVlLawTy
import Derived.Lib.SmallJoins
import Derived.Test.YtmmdbacejdhdaaaGreatDoorDecFrame
import Derived.Test.YtmmdbacejdhdaaaGreatDoorCards
import Derived.Test.YtmmdbacejdhdaaaGreatDoorTie
import Derived.SevenTiedAt
namespace Go.Proofs.YtmmdbacejdhdaaaGreatDoor.valueTypes
open Go.ChangeMaps (open_string shut_string)
open Go.ChangeShapes Go.WideShapes Go.ChangeAt Go.RowKit
open Go.Proofs.YtmmdbacejdhdaaaGreatDoor Go.Joins
open Go.Proofs.YtmmdbacejdhdaaaGreatDoor.De (lifted_by ownK laidL laidOutK door_laid Vars)

theorem i64_of_wf {n : Int} (h : (Lit.int .i64 n).wf = true) : I64 n := by
  simp [Lit.wf, IntKind.min, IntKind.max, IntKind.signed, IntKind.bits] at h
  exact ⟨by omega, by omega⟩
theorem cellsT : Tryz.prog.cellsOf 41 = 3 := by kernel_rfl
theorem cellsV : Tryz.prog.cellsOf 45 = 3 := by kernel_rfl

set_option maxRecDepth 100000 in
theorem lifted (os : Os) (started : os.Started) (H : Type) (enc : TypeId × Value → H) :
    ReturnsInHanded {} Tryz.checked os 6 .any (fun w args => (Rows.valueTypesSpec.pre enc Tryz.checked.prog Tryz.f6 [] false w args ∧ laidMetH Tryz.checked.prog laidL w) ∧ sizedMet enc Tryz.checked.prog Tryz.f6 (OpenSpec.ofChange Rows.valueTypesSpec) false w args) (Rows.valueTypesSpec.post enc Tryz.checked.prog Tryz.f6 false true false false) := by
  refine lifted_by started ownK (by kernel_rfl) Tryz.func6
    (ChangeSpec.witness_shaped (enc := enc) (C := Tryz.checked) (os := os) (X := fun w _ => laidMetH Tryz.prog laidL w) false (World.laidAll Tryz.prog os laidL) #[.agg #[.int .i64 0, .int .i64 0, .bool false], .agg #[.int .i64 0, .int .i64 0, .string ByteArray.empty], .int .i64 0] 8 (World.laidAll_os _ _ _)
      (World.shaped_of_ZipB (by kernel_rfl) (by kernel_rfl)) (by kernel_rfl) (by kernel_rfl) (by kernel_rfl) (door_laid os _)) ?_
  intro W base args ds gs before hval0 hW hV
  have hval : ∀ (j : Nat) t v, Tryz.f6.params[j]? = some t → args[j]? = some v → Value.okWide Tryz.prog W .any base t v := hval0
  have hW' := hW
  obtain ⟨p, q, hA0, hVs, rfl, hfz, hnd⟩ := hW
  have hA : DataW.TrodAll enc Tryz.prog W 0 (fun _ => true) true Tryz.f6.params.toList args.toList ds p := hA0
  rw [Tryz.params6] at hA hval
  obtain ⟨v0, v1, v2, d0, d1, d2, p0, p1, p2, rfl, rfl, rfl, h0, h1, h2⟩ := trodAll_three hA
  obtain ⟨rfl, rfl⟩ := trodVars_none hVs
  obtain ⟨c0, c1, c2, y0, y1, y2, m, rfl, rfl, rfl, hy0, hy1, hy2⟩ := open_agg3 Tryz.underlying41 (by kernel_rfl) cellsT (hval 0 41 v0 rfl rfl) h0
  obtain ⟨tk, e0, rfl, w0⟩ := DataW.trod_int Tryz.underlying3 hy0
  obtain ⟨sc, e1, rfl, w1⟩ := DataW.trod_int Tryz.underlying3 hy1
  obtain ⟨nl, e2, rfl⟩ := DataW.trod_bool Tryz.underlying4 hy2
  obtain ⟨g0, g1, g2, z0, z1, z2, m', rfl, rfl, rfl, hz0, hz1, hz2⟩ := open_agg3 Tryz.underlying45 (by kernel_rfl) cellsV (hval 1 45 v1 rfl rfl) h1
  obtain ⟨k, q0, rfl, x0⟩ := DataW.trod_int Tryz.underlying3 hz0
  obtain ⟨i, q1, rfl, x1⟩ := DataW.trod_int Tryz.underlying3 hz1
  obtain ⟨s, q2, rfl, x2⟩ := DataW.trod_string Tryz.underlying9 hz2
  obtain ⟨s2, rfl, rfl, rfl, w2⟩ := open_int Tryz.underlying3 (hval 2 3 v2 rfl rfl) h2
  simp at e0 e1 e2 q0 q1 q2
  subst e0 e1 e2 q0 q1 q2
  clear hA0 hval0
  simp only [List.append_nil] at hW'
  have hs : bsOf s.data.toList = s := by unfold bsOf; simp
  have hfin : Calls Tryz.prog 6 #[encT ⟨tk, sc, nl⟩, encV ⟨k, i, s.data.toList⟩, .int .i64 s2] W fun e w' => e = .returned (.bool true) ∧ Below W.heap.size W w' := by
    have hlen : s.data.toList.length = s.size := by simp
    by_cases h : s.data.toList.length ≤ 100
    · exact walk ⟨tk, sc, nl⟩ ⟨k, i, s.data.toList⟩ s2 ⟨i64_of_wf w0, i64_of_wf w1⟩ ⟨i64_of_wf x0, i64_of_wf x1, by show s.data.toList.length ≤ 1048576; omega⟩ h (i64_of_wf w2) W hV
    · exact walk_long ⟨tk, sc, nl⟩ ⟨k, i, s.data.toList⟩ s2 (by show 100 < s.data.toList.length; omega) (by have h2 : s.size ≤ 9223372036854775807 := (by simpa [maxLen] using x2); show s.data.toList.length ≤ _; omega) W hV
  unfold encT encV at hfin
  dsimp only at hfin
  rw [hs] at hfin
  refine hfin.mono fun e W' ⟨he, hg⟩ => ?_
  subst he
  exact ⟨_, rfl, ⟨_, _, _, [], _, [], hW', trodAll_mk1 (shut_bool Tryz.underlying4 _), trodAll_mk3
    (shut_agg3 (y0 := (.lit (.int .i64 tk), [])) (y1 := (.lit (.int .i64 sc), [])) (y2 := (.lit (.bool nl), [])) Tryz.underlying41 (by kernel_rfl) cellsT ⟨1, by simp [DataW.trod, Tryz.underlying3, w0]⟩ ⟨1, by simp [DataW.trod, Tryz.underlying3, w1]⟩ ⟨1, by simp [DataW.trod, Tryz.underlying4]⟩)
    (shut_agg3 (y0 := (.lit (.int .i64 k), [])) (y1 := (.lit (.int .i64 i), [])) (y2 := (.lit (.string s.data.toList), [])) Tryz.underlying45 (by kernel_rfl) cellsV ⟨1, by simp [DataW.trod, Tryz.underlying3, x0]⟩ ⟨1, by simp [DataW.trod, Tryz.underlying3, x1]⟩ ⟨1, by simp [DataW.trod, Tryz.underlying9, x2]⟩)
    (shut_int Tryz.underlying3 w2), rfl, hg.frame _, fun h => by cases h⟩⟩

theorem over : Rows.valueTypesRow.holds Tryz.pinned (OpenSpec.ofChange Rows.valueTypesSpec) :=
  OpenClaim.holds_of_wide 6 Tryz.f6 rfl rfl rfl rfl rfl rfl rfl ⟨rfl, rfl, rfl, rfl, rfl⟩ rfl rfl rfl rfl rfl (by kernel_rfl) Tryz.func6 (by kernel_rfl)
    (of_decide_eq_true (by kernel_rfl)) (by unfold Func.isWrapper; first | (rw [if_pos (by decide +kernel)]; kernel_rfl) | (rw [if_neg (by decide +kernel)]; exact ⟨rfl, rfl⟩))
    (fun os started H enc _ => lifted os started H enc)

/-- The statement: the card. -/
theorem proved : Rows.ValueTypesCardSaid :=
  Claim7.holds_tied_plain_at .later [] [.data, .data, .data, .data, .data, .pinned] true Rows.valueTypesCard.stood.harness false
    over (fun _ h => by cases h) (by kernel_rfl) (fun _ h => by cases h) valueTypes_row_tie rfl ⟨rfl, rfl⟩ (by kernel_rfl) rfl
    (fun f fn hf hfn => by
      obtain rfl : f = 6 := Option.some.inj ((show Tryz.prog.funcNamed "chapman/chapmanlaw06.ValueTypes" = some 6 by kernel_rfl).symm.trans hf) |>.symm
      obtain rfl : fn = Tryz.f6 := (Option.some.inj (Tryz.func6.symm.trans hfn)).symm
      exact ⟨by kernel_rfl, fun j t ht => by
        rw [Tryz.params6] at ht
        have hm : t ∈ [41, 45, 3] := by simpa using Array.mem_of_getElem? ht
        have hall : ([41, 45, 3].all fun u => !Tryz.prog.wantsStandIn u) = true := by kernel_rfl
        exact (show Tryz.prog.wantsStandIn t = false by simpa using List.all_eq_true.1 hall t hm)⟩)
    (by kernel_rfl)
#print axioms proved

end Go.Proofs.YtmmdbacejdhdaaaGreatDoor.valueTypes
