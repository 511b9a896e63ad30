/-
  Texts of values are what the document promises of them: for all arguments, the law returns true and changes nothing. The tables that the program reads hold what its text lays in them (the card ties them).
-/
import Derived.Test.YtmmdbacejdhdaaaGreatDoorVlLawTx
import Derived.Lib.SmallJoins
import Derived.Test.YtmmdbacejdhdaaaGreatDoorDecFrame
import Derived.Test.YtmmdbacejdhdaaaGreatDoorCards
import Derived.Test.YtmmdbacejdhdaaaGreatDoorTie
import Derived.SevenTiedAt
namespace Go.Proofs.YtmmdbacejdhdaaaGreatDoor.valueTexts
open Go.ChangeMaps (open_string shut_string)
open Go.ChangeShapes Go.WideShapes Go.ChangeAt Go.RowKit
open Go.Proofs.YtmmdbacejdhdaaaGreatDoor Go.Joins
open Go.Proofs.YtmmdbacejdhdaaaGreatDoor.De (lifted_by ownK laidL laidOutK door_laid Vars)

theorem i64_of_wf {n : Int} (h : (Lit.int .i64 n).wf = true) : I64 n := by
  simp [Lit.wf, IntKind.min, IntKind.max, IntKind.signed, IntKind.bits] at h
  exact ⟨by omega, by omega⟩
theorem cellsV : Tryz.prog.cellsOf 45 = 3 := by kernel_rfl

set_option maxRecDepth 100000 in
theorem lifted (os : Os) (started : os.Started) (H : Type) (enc : TypeId × Value → H) :
    ReturnsInHanded {} Tryz.checked os 7 .any (fun w args => (Rows.valueTextsSpec.pre enc Tryz.checked.prog Tryz.f7 [] false w args ∧ laidMetH Tryz.checked.prog laidL w) ∧ sizedMet enc Tryz.checked.prog Tryz.f7 (OpenSpec.ofChange Rows.valueTextsSpec) false w args) (Rows.valueTextsSpec.post enc Tryz.checked.prog Tryz.f7 false true false false) := by
  refine lifted_by started ownK (by kernel_rfl) Tryz.func7
    (ChangeSpec.witness_shaped (enc := enc) (C := Tryz.checked) (os := os) (X := fun w _ => laidMetH Tryz.prog laidL w) false (World.laidAll Tryz.prog os laidL) #[.agg #[.int .i64 0, .int .i64 0, .string ByteArray.empty], .string ByteArray.empty] 8 (World.laidAll_os _ _ _)
      (World.shaped_of_ZipB (by kernel_rfl) (by kernel_rfl)) (by kernel_rfl) (by kernel_rfl) (by kernel_rfl) (door_laid os _)) ?_
  intro W base args ds gs before hval0 hW hV
  have hval : ∀ (j : Nat) t v, Tryz.f7.params[j]? = some t → args[j]? = some v → Value.okWide Tryz.prog W .any base t v := hval0
  have hW' := hW
  obtain ⟨p, q, hA0, hVs, rfl, hfz, hnd⟩ := hW
  have hA : DataW.TrodAll enc Tryz.prog W 0 (fun _ => true) true Tryz.f7.params.toList args.toList ds p := hA0
  rw [Tryz.params7] at hA hval
  obtain ⟨v0, v1, d0, d1, p0, p1, rfl, rfl, rfl, h0, h1⟩ := trodAll_two hA
  obtain ⟨rfl, rfl⟩ := trodVars_none hVs
  obtain ⟨g0, g1, g2, z0, z1, z2, m', rfl, rfl, rfl, hz0, hz1, hz2⟩ := open_agg3 Tryz.underlying45 (by kernel_rfl) cellsV (hval 0 45 v0 rfl rfl) h0
  obtain ⟨k, q0, rfl, x0⟩ := DataW.trod_int Tryz.underlying3 hz0
  obtain ⟨i, q1, rfl, x1⟩ := DataW.trod_int Tryz.underlying3 hz1
  obtain ⟨s, q2, rfl, x2⟩ := DataW.trod_string Tryz.underlying9 hz2
  obtain ⟨u, rfl, rfl, rfl, w2⟩ := open_string Tryz.underlying9 (hval 1 9 v1 rfl rfl) h1
  simp at q0 q1 q2
  subst q0 q1 q2
  clear hA0 hval0
  simp only [List.append_nil] at hW'
  have hs : bsOf s.data.toList = s := by unfold bsOf; simp
  have hu : bsOf u.data.toList = u := by unfold bsOf; simp
  have hfin : Calls Tryz.prog 7 #[encV ⟨k, i, s.data.toList⟩, .string (bsOf u.data.toList)] W fun e w' => e = .returned (.bool true) ∧ Below W.heap.size W w' := by
    have hlen : s.data.toList.length = s.size := by simp
    have hlenu : u.data.toList.length = u.size := by simp
    by_cases h : s.data.toList.length ≤ 100
    · by_cases h' : u.data.toList.length ≤ 100
      · exact walk ⟨k, i, s.data.toList⟩ u.data.toList ⟨i64_of_wf x0, i64_of_wf x1, by show s.data.toList.length ≤ 1048576; omega⟩ h h' W hV
      · exact walk_long2 ⟨k, i, s.data.toList⟩ u.data.toList h (by omega) (by have h2 : u.size ≤ 9223372036854775807 := (by simpa [maxLen] using w2); omega) W hV
    · exact walk_long1 ⟨k, i, s.data.toList⟩ u.data.toList (by show 100 < s.data.toList.length; omega) (by have h2 : s.size ≤ 9223372036854775807 := (by simpa [maxLen] using x2); show s.data.toList.length ≤ _; omega) W hV
  unfold encV at hfin
  dsimp only at hfin
  rw [hs, hu] at hfin
  refine hfin.mono fun e W' ⟨he, hg⟩ => ?_
  subst he
  exact ⟨_, rfl, ⟨_, _, _, [], _, [], hW', trodAll_mk1 (shut_bool Tryz.underlying4 _), trodAll_mk2
    (shut_agg3 (y0 := (.lit (.int .i64 k), [])) (y1 := (.lit (.int .i64 i), [])) (y2 := (.lit (.string s.data.toList), [])) Tryz.underlying45 (by kernel_rfl) cellsV ⟨1, by simp [DataW.trod, Tryz.underlying3, x0]⟩ ⟨1, by simp [DataW.trod, Tryz.underlying3, x1]⟩ ⟨1, by simp [DataW.trod, Tryz.underlying9, x2]⟩)
    (shut_string Tryz.underlying9 w2), rfl, hg.frame _, fun h => by cases h⟩⟩

theorem over : Rows.valueTextsRow.holds Tryz.pinned (OpenSpec.ofChange Rows.valueTextsSpec) :=
  OpenClaim.holds_of_wide 7 Tryz.f7 rfl rfl rfl rfl rfl rfl rfl ⟨rfl, rfl, rfl, rfl, rfl⟩ rfl rfl rfl rfl rfl (by kernel_rfl) Tryz.func7 (by kernel_rfl)
    (of_decide_eq_true (by kernel_rfl)) (by unfold Func.isWrapper; first | (rw [if_pos (by decide +kernel)]; kernel_rfl) | (rw [if_neg (by decide +kernel)]; exact ⟨rfl, rfl⟩))
    (fun os started H enc _ => lifted os started H enc)

/-- The statement: the card. -/
theorem proved : Rows.ValueTextsCardSaid :=
  Claim7.holds_tied_plain_at .later [] [.data, .data, .data, .data, .data, .pinned] true Rows.valueTextsCard.stood.harness false
    over (fun _ h => by cases h) (by kernel_rfl) (fun _ h => by cases h) valueTexts_row_tie rfl ⟨rfl, rfl⟩ (by kernel_rfl) rfl
    (fun f fn hf hfn => by
      obtain rfl : f = 7 := Option.some.inj ((show Tryz.prog.funcNamed "chapman/chapmanlaw06.ValueTexts" = some 7 by kernel_rfl).symm.trans hf) |>.symm
      obtain rfl : fn = Tryz.f7 := (Option.some.inj (Tryz.func7.symm.trans hfn)).symm
      exact ⟨by kernel_rfl, fun j t ht => by
        rw [Tryz.params7] at ht
        have hm : t ∈ [45, 9] := by simpa using Array.mem_of_getElem? ht
        have hall : ([45, 9].all fun u => !Tryz.prog.wantsStandIn u) = true := by kernel_rfl
        exact (show Tryz.prog.wantsStandIn t = false by simpa using List.all_eq_true.1 hall t hm)⟩)
    (by kernel_rfl)
#print axioms proved

end Go.Proofs.YtmmdbacejdhdaaaGreatDoor.valueTexts
