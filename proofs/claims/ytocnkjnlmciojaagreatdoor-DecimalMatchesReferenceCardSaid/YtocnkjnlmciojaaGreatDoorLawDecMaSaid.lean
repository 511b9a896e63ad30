/-
  Numbers match the reference: texts, which strings are parsed, sums, differences, products, quotients, truncations and comparisons; for all numbers, strings, scales and lists the law returns true and changes nothing. The tables that the program reads hold what its text lays in them (the card ties them).
-/
import Derived.Test.YtocnkjnlmciojaaGreatDoorLawDecMa
import Derived.Lib.SmallJoins
import Derived.Test.YtocnkjnlmciojaaGreatDoorDecFrame
import Derived.Test.YtocnkjnlmciojaaGreatDoorDecArr
import Derived.Test.YtocnkjnlmciojaaGreatDoorCards
import Derived.Test.YtocnkjnlmciojaaGreatDoorTie
import Derived.SevenTiedAt
namespace Go.Proofs.YtocnkjnlmciojaaGreatDoor.De.decimalMatches
open Go.ChangeMaps (open_string shut_string)
open Go.ChangeShapes Go.WideShapes Go.ChangeAt Go.RowKit
open Go.Proofs.YtocnkjnlmciojaaGreatDoor Go.Joins
open Go.Proofs.YtocnkjnlmciojaaGreatDoor.De

/-- A list of integers that came in as a field. -/
theorem open_rdF {H : Type} {enc : TypeId × Value → H} {P : Program} {W : World} {n : Nat} {t e : TypeId} {k : IntKind} {v : Value} {y : DataW H × List MemPlace}
    (ht : P.underlying t = some (.slice e)) (he : P.underlying e = some (.int k)) (hc : P.cellsOf e = 1) (hf : DataW.trod enc P W 0 (fun _ => true) true n t [v] = some y) :
    ∃ a len cap zs, v = .slice a len cap ∧ len ≤ 9223372036854775807 ∧ (len ≤ 140737488351232 → Rd (fun b => b < W.heap.size) W k a len cap zs) ∧ (∀ n ∈ zs, (Lit.int k n).wf = true) := by
  rcases open_ints ht he hc hf with ⟨hcs, hx⟩ | ⟨a, len', cap', zs, hcs, _, hl, hm, hz, hx, hcell, hwz⟩
  · simp at hcs
    subst hcs
    exact ⟨none, 0, 0, [], rfl, by decide, fun _ => Rd.empty, fun n hn => by cases hn⟩
  · simp at hcs
    subst hcs
    simp only [if_true] at hz
    have hm' : cap' ≤ 9223372036854775807 := by unfold maxLen at hm; omega
    refine ⟨some a, len', cap', zs.take len', rfl, by omega, fun hs => ⟨by simp; omega, hl, hm', hs, fun h0 => ?_⟩, fun n hn => hwz n (List.mem_of_mem_take hn)⟩
    obtain ⟨b, off, spot⟩ := a
    have hspot : spot = none := by simpa [Addr.add] using World.cell?_spot (hcell 0 (by omega))
    subst hspot
    refine ⟨b, off, rfl, ?_, ?_, fun j hj => ?_⟩
    · obtain ⟨o, ho, _⟩ := cells_of_cell (hcell 0 (by omega))
      exact (Array.getElem?_eq_some_iff.1 ho).1
    · obtain ⟨o, ho, _⟩ := cells_of_cell (hcell 0 (by omega))
      exact (Array.getElem?_eq_some_iff.1 ho).1
    · have := hcell j (by omega)
      rw [add_plain] at this
      rw [this, List.getElem?_take_of_lt hj, List.getD_eq_getElem?_getD]

set_option maxRecDepth 100000 in
set_option maxHeartbeats 1000000 in
theorem walk_long {a b sc : Int} {S : List UInt8} {p : Option Addr} {len cap : Nat} {w : World} (hl : 60 < S.length ∨ 60 < len) (hV : Vars w) :
    Calls Tryz.prog 3 #[.int .i64 a, .int .i64 b, .agg #[.string (bsOf S), .int .i64 sc, .slice p len cap]] w fun e w' => e = .returned (.bool true) ∧ Below w.heap.size w w' := by
  have HT0 := Lib.hid (Trio.new w 24 (.string (bsOf S)) (.int .i64 sc) (.slice p len cap))
  have hb0 : Below w.heap.size w (w.alloc (.cells #[.string (bsOf S), .int .i64 sc, .slice p len cap] 24)) := (Below.self w).alloc (Nat.le_refl _) _
  have HB0 := Lib.hid hb0
  have HV := Lib.hid (fun W (h : Below w.heap.size w W) => hV.below h)
  have hSs := bs_size S
  clear hb0 hV
  go_enter Tryz.func3, Tryz.ntmps3
  go_wp2_with fail
  obtain ⟨B0, hB0⟩ : ∃ B, w.heap.size = B := ⟨_, rfl⟩
  rw [hB0] at HT0 ⊢
  have HZ0 := Lib.hid hB0
  clear hB0
  generalize w.alloc (.cells #[.string (bsOf S), .int .i64 sc, .slice p len cap] 24) = W0 at *
  refine (examples_any W0 (HV.out _ HB0.out)).mono ?_
  rintro e w1 ⟨rfl, hbx⟩
  have HB1 : Hid (Below w.heap.size w w1) := HB0.out.trans (hbx.mono HB0.out.size)
  have HT1 := Lib.hid (HT0.out.below hbx HT0.out.lt)
  clear hbx HT0 HB0 HZ0 HV
  have c0 := HT1.out.c0
  have c1 := HT1.out.c1
  have c2 := HT1.out.c2
  by_cases h : 60 < S.length
  · have d1 : decide ((60 : Int) < (S.length : Int)) = true := decide_eq_true (by omega)
    clear hl
    go_wp2
    go_ret
    exact ⟨rfl, HB1.out⟩
  · have d1 : decide ((60 : Int) < (S.length : Int)) = false := decide_eq_false (by omega)
    have d2 : decide ((60 : Int) < (len : Int)) = true := decide_eq_true (by omega)
    clear hl
    go_wp2
    go_ret
    exact ⟨rfl, HB1.out⟩
theorem i64_of {n : Int} (h : (Lit.int .i64 n).wf = true) : I64 n := by
  simp [Lit.wf, IntKind.min, IntKind.max, IntKind.signed, IntKind.bits] at h
  exact ⟨by omega, by omega⟩
theorem cellsO : Tryz.prog.cellsOf 24 = 3 := by kernel_rfl
theorem cellsI : Tryz.prog.cellsOf 3 = 1 := by kernel_rfl

set_option maxRecDepth 100000 in
theorem lifted (os : Os) (started : os.Started) (H : Type) (enc : TypeId × Value → H) :
    ReturnsInHanded {} Tryz.checked os 3 .any (fun w args => (Rows.decimalMatchesReferenceSpec.pre enc Tryz.checked.prog Tryz.f3 [] false w args ∧ laidMetH Tryz.checked.prog laidL w) ∧ sizedMet enc Tryz.checked.prog Tryz.f3 (OpenSpec.ofChange Rows.decimalMatchesReferenceSpec) false w args) (Rows.decimalMatchesReferenceSpec.post enc Tryz.checked.prog Tryz.f3 false true false false) := by
  refine lifted_by started ownK (by kernel_rfl) Tryz.func3
    (ChangeSpec.witness_shaped (enc := enc) (C := Tryz.checked) (os := os) (X := fun w _ => laidMetH Tryz.prog laidL w) false (World.laidAll Tryz.prog os laidL) #[.int .i64 0, .int .i64 0, .agg #[.string ByteArray.empty, .int .i64 0, .slice none 0 0]] 8 (World.laidAll_os _ _ _)
      (World.shaped_of_ZipB (by kernel_rfl) (by kernel_rfl)) (by kernel_rfl) (by kernel_rfl) (by kernel_rfl) (door_laid os _)) ?_
  intro W base args ds gs before hval0 hW hV
  have hval : ∀ (j : Nat) t v, Tryz.f3.params[j]? = some t → args[j]? = some v → Value.okWide Tryz.prog W .any base t v := hval0
  have hW' := hW
  obtain ⟨p, q, hA0, hVs, rfl, hfz, hnd⟩ := hW
  have hA : DataW.TrodAll enc Tryz.prog W 0 (fun _ => true) true Tryz.f3.params.toList args.toList ds p := hA0
  rw [Tryz.params3] at hA hval
  obtain ⟨v0, v1, v2, d0, d1, d2, p0, p1, p2, rfl, rfl, rfl, h0, h1, h2⟩ := trodAll_three hA
  obtain ⟨rfl, rfl⟩ := trodVars_none hVs
  obtain ⟨a0, rfl, rfl, rfl, w0⟩ := open_int Tryz.underlying3 (hval 0 3 v0 rfl rfl) h0
  obtain ⟨a1, rfl, rfl, rfl, w1⟩ := open_int Tryz.underlying3 (hval 1 3 v1 rfl rfl) h1
  obtain ⟨g0, g1, g2, y0, y1, y2, m, rfl, rfl, hpp, hy0, hy1, hy2⟩ := open_agg3 Tryz.underlying24 (by kernel_rfl) cellsO (hval 2 24 v2 rfl rfl) h2
  obtain ⟨s, q0, rfl, x0⟩ := DataW.trod_string Tryz.underlying9 hy0
  obtain ⟨sc, q1, rfl, x1⟩ := DataW.trod_int Tryz.underlying3 hy1
  obtain ⟨p, len, cap, zs, rfl, hmax, hR, hwf⟩ := open_rdF Tryz.underlying22 Tryz.underlying3 cellsI hy2
  simp at q0 q1
  subst q0 q1
  clear hA0 hval0
  simp only [List.append_nil] at hW'
  have hlt2 : ∀ x ∈ p2, x.block < W.heap.size := fun x hx => by simpa using hW'.lt x (by simp [hx])
  have hs : bsOf s.data.toList = s := by unfold bsOf; simp
  have hfin : Calls Tryz.prog 3 #[.int .i64 a0, .int .i64 a1, .agg #[.string s, .int .i64 sc, .slice p len cap]] W fun e w' => e = .returned (.bool true) ∧ Below W.heap.size W w' := by
    have h : Calls Tryz.prog 3 #[.int .i64 a0, .int .i64 a1, .agg #[.string (bsOf s.data.toList), .int .i64 sc, .slice p len cap]] W fun e w' => e = .returned (.bool true) ∧ Below W.heap.size W w' := by
      by_cases hl : 60 < s.data.toList.length ∨ 60 < len
      · exact walk_long hl hV
      · exact walk (i64_of w0) (i64_of w1) (i64_of x1) (by omega) (hR (by omega)) (by omega) (fun z hz => i64_of (hwf z hz)) hV
    rw [hs] at h
    exact h
  refine hfin.mono fun e W' ⟨he, hg⟩ => ?_
  subst he
  exact ⟨_, rfl, ⟨_, _, _, [], _, [], hW', trodAll_mk1 (shut_bool Tryz.underlying4 _), trodAll_mk3 (shut_int Tryz.underlying3 w0) (shut_int Tryz.underlying3 w1) (Below.trod laidOutK (by kernel_rfl) (of_decide_eq_true (by kernel_rfl)) h2 hg hlt2), rfl, hg.frame _, fun h => by cases h⟩⟩

theorem over : Rows.decimalMatchesReferenceRow.holds Tryz.pinned (OpenSpec.ofChange Rows.decimalMatchesReferenceSpec) :=
  OpenClaim.holds_of_wide 3 Tryz.f3 rfl rfl rfl rfl rfl rfl rfl ⟨rfl, rfl, rfl, rfl, rfl⟩ rfl rfl rfl rfl rfl (by kernel_rfl) Tryz.func3 (by kernel_rfl)
    (of_decide_eq_true (by kernel_rfl)) (by unfold Func.isWrapper; first | (rw [if_pos (by decide +kernel)]; kernel_rfl) | (rw [if_neg (by decide +kernel)]; exact ⟨rfl, rfl⟩))
    (fun os started H enc _ => lifted os started H enc)

/-- The statement: the card. -/
theorem proved : Rows.DecimalMatchesReferenceCardSaid :=
  Claim7.holds_tied_plain_at .later [] [.data, .data, .data, .data, .data, .pinned] true Rows.decimalMatchesReferenceCard.stood.harness false
    over (fun _ h => by cases h) (by kernel_rfl) (fun _ h => by cases h) decimalMatchesReference_row_tie rfl ⟨rfl, rfl⟩ (by kernel_rfl) rfl
    (fun f fn hf hfn => by
      obtain rfl : f = 3 := Option.some.inj ((show Tryz.prog.funcNamed "chapman/chapmanlaw02.DecimalMatchesReference" = some 3 by kernel_rfl).symm.trans hf) |>.symm
      obtain rfl : fn = Tryz.f3 := (Option.some.inj (Tryz.func3.symm.trans hfn)).symm
      exact ⟨by kernel_rfl, fun j t ht => by
        rw [Tryz.params3] at ht
        have hm : t ∈ [3, 3, 24] := by simpa using Array.mem_of_getElem? ht
        have hall : ([3, 3, 24].all fun u => !Tryz.prog.wantsStandIn u) = true := by kernel_rfl
        exact (show Tryz.prog.wantsStandIn t = false by simpa using List.all_eq_true.1 hall t hm)⟩)
    (by kernel_rfl)
#print axioms proved

end Go.Proofs.YtocnkjnlmciojaaGreatDoor.De.decimalMatches
