/-
  Values match the reference: which values are valid and which types have them, orders, text forms and byte forms; for all lists of values, types and byte sequences the law returns true and changes nothing. The tables that the program reads hold what its text lays in them (the card ties them).
-/
import Derived.Test.YtocnkjnlmciojaaGreatDoorVlLawMa
import Derived.Test.YtocnkjnlmciojaaGreatDoorDecFrame
import Derived.Lib.SmallJoins
import Derived.Test.YtocnkjnlmciojaaGreatDoorCards
import Derived.Test.YtocnkjnlmciojaaGreatDoorTie
import Derived.SevenTiedAt
namespace Go.Proofs.YtocnkjnlmciojaaGreatDoor.valueMatches
open Go.ChangeMaps (open_string shut_string)
open Go.ChangeShapes Go.WideShapes Go.ChangeAt Go.RowKit
open Go.Proofs.YtocnkjnlmciojaaGreatDoor Go.Joins
open Go.Proofs.YtocnkjnlmciojaaGreatDoor.De (lifted_by ownK laidL laidOutK door_laid Vars)

/-- A list of integers that came in. -/
theorem open_rd {H : Type} {enc : TypeId × Value → H} {P : Program} {W : World} {r : Reach} {b0 : Nat} {t e : TypeId} {k : IntKind} {v : Value} {d : DataW H} {ps : List MemPlace}
    (ht : P.underlying t = some (.slice e)) (he : P.underlying e = some (.int k)) (hc : P.cellsOf e = 1) (hval : Value.okWide P W r b0 t v) (hd : DataW.Trod enc P W 0 (fun _ => true) true t v d ps) :
    ∃ a len cap zs, v = .slice a len cap ∧ len ≤ 9223372036854775807 ∧ (len ≤ 140737488351232 → Rd (fun b => b < W.heap.size) W k a len cap zs) ∧ (∀ n ∈ zs, (Lit.int k n).wf = true) := by
  obtain ⟨a0, len, cap, rfl⟩ := okWide_slice ht hval
  obtain ⟨fuel, hf⟩ := hd
  rcases open_ints ht he hc hf with ⟨hcs, hx⟩ | ⟨a, len', cap', zs, hcs, _, hl, hm, hz, hx, hcell, hwz⟩
  · simp [Value.cells] at hcs
    obtain ⟨rfl, rfl, rfl⟩ := hcs
    exact ⟨none, 0, 0, [], rfl, by decide, fun _ => Rd.empty, fun n hn => by cases hn⟩
  · simp [Value.cells] at hcs
    obtain ⟨rfl, rfl, rfl⟩ := hcs
    simp only [if_true] at hz
    have hm' : cap ≤ 9223372036854775807 := by unfold maxLen at hm; omega
    refine ⟨some a, len, cap, zs.take len, rfl, by omega, fun hs => ⟨by simp; omega, hl, hm', hs, fun h0 => ?_⟩, fun n hn => hwz n (List.mem_of_mem_take hn)⟩
    obtain ⟨b, off, spot⟩ := a
    have hspot : spot = none := by simpa [Addr.add] using World.cell?_spot (hcell 0 (by omega))
    subst hspot
    refine ⟨b, off, rfl, ?_, ?_, fun j hj => ?_⟩
    · obtain ⟨o, ho, _⟩ := cells_of_cell (hcell 0 (by omega))
      exact (Array.getElem?_eq_some_iff.1 ho).1
    · obtain ⟨o, ho, _⟩ := cells_of_cell (hcell 0 (by omega))
      exact (Array.getElem?_eq_some_iff.1 ho).1
    · have := hcell j (by omega)
      rw [add_plain] at this
      rw [this, List.getElem?_take_of_lt hj, List.getD_eq_getElem?_getD]

set_option maxRecDepth 100000 in
set_option maxHeartbeats 1000000 in
theorem walk_long {K : Nat → Prop} {a : Option Addr} {la ca : Nat} {x : List Vl} {t : Ty} {ab : Option Addr} {nb cb : Nat} {w : World} (hX : RdW K w a la ca x) (fX : ∀ v ∈ x, v.Fit) (hnb : 100 < nb) (hmax : nb ≤ 9223372036854775807) (hV : De.Vars w) :
    Calls Tryz.prog 4 #[.slice a la ca, encT t, .slice ab nb cb] w fun e w' => e = .returned (.bool true) ∧ Below w.heap.size w w' := by
  obtain ⟨tk, sc, nl⟩ := t
  unfold encT
  dsimp only
  have hb0 : Below w.heap.size w (w.alloc (.cells #[.int .i64 tk, .int .i64 sc, .bool nl] 41)) := (Below.self w).alloc (Nat.le_refl _) _
  have HB0 := Lib.hid hb0
  have HX := Lib.hid hX
  have FX := Lib.hid fX
  have HV0 := Lib.hid (hV.below hb0)
  clear hX fX hV hb0
  go_enter Tryz.func4, Tryz.ntmps4
  go_wp2_with fail
  generalize w.alloc (.cells #[.int .i64 tk, .int .i64 sc, .bool nl] 41) = W0 at *
  refine (examples6_any W0 HV0.out).mono ?_
  rintro e w1 ⟨rfl, hb⟩
  have HB1 : Hid (Below w.heap.size w w1) := HB0.out.trans (hb.mono HB0.out.size)
  have H1 := Lib.hid (HX.out.below HB1.out)
  clear hb HV0 HB0 HX
  go_wp2_with fail
  refine (short_any H1.out FX.out).mono ?_
  rintro e wq ⟨rfl, rfl⟩
  cases hsx : shortB x with
  | false =>
    go_wp2_with fail
    go_ret
    exact ⟨rfl, HB1.out⟩
  | true =>
    have hnI : (nb : Int) > 100 := by omega
    clear hsx H1 FX
    go_wp2_with fail
    go_ret
    exact ⟨rfl, HB1.out⟩

theorem i64_of_wf {n : Int} (h : (Lit.int .i64 n).wf = true) : I64 n := by
  simp [Lit.wf, IntKind.min, IntKind.max, IntKind.signed, IntKind.bits] at h
  exact ⟨by omega, by omega⟩
theorem cellsT : Tryz.prog.cellsOf 41 = 3 := by kernel_rfl
theorem cellsV : Tryz.prog.cellsOf 45 = 3 := by kernel_rfl
theorem cellsB : Tryz.prog.cellsOf 5 = 1 := by kernel_rfl

set_option maxRecDepth 100000 in
theorem lifted (os : Os) (started : os.Started) (H : Type) (enc : TypeId × Value → H) :
    ReturnsInHanded {} Tryz.checked os 4 .any (fun w args => (Rows.valueMatchesReferenceSpec.pre enc Tryz.checked.prog Tryz.f4 [] false w args ∧ laidMetH Tryz.checked.prog laidL w) ∧ sizedMet enc Tryz.checked.prog Tryz.f4 (OpenSpec.ofChange Rows.valueMatchesReferenceSpec) false w args) (Rows.valueMatchesReferenceSpec.post enc Tryz.checked.prog Tryz.f4 false true false false) := by
  refine lifted_by started ownK (by kernel_rfl) Tryz.func4
    (ChangeSpec.witness_shaped (enc := enc) (C := Tryz.checked) (os := os) (X := fun w _ => laidMetH Tryz.prog laidL w) false (World.laidAll Tryz.prog os laidL) #[.slice none 0 0, .agg #[.int .i64 0, .int .i64 0, .bool false], .slice none 0 0] 8 (World.laidAll_os _ _ _)
      (World.shaped_of_ZipB (by kernel_rfl) (by kernel_rfl)) (by kernel_rfl) (by kernel_rfl) (by kernel_rfl) (door_laid os _)) ?_
  intro W base args ds gs before hval0 hW hV
  have hval : ∀ (j : Nat) t v, Tryz.f4.params[j]? = some t → args[j]? = some v → Value.okWide Tryz.prog W .any base t v := hval0
  have hW' := hW
  obtain ⟨p, q, hA0, hVs, rfl, hfz, hnd⟩ := hW
  have hA : DataW.TrodAll enc Tryz.prog W 0 (fun _ => true) true Tryz.f4.params.toList args.toList ds p := hA0
  rw [Tryz.params4] at hA hval
  obtain ⟨v0, v2, v1, d0, d2, d1, p0, p2, p1, rfl, rfl, rfl, h0, h2, h1⟩ := trodAll_three hA
  obtain ⟨rfl, rfl⟩ := trodVars_none hVs
  obtain ⟨a0, n0, c0, l0, rfl, R0, F0⟩ := open_rdw Tryz.underlying39 Tryz.underlying45 cellsV rfl rfl rfl (by kernel_rfl) (by kernel_rfl) (by kernel_rfl) Tryz.underlying3 Tryz.underlying3 Tryz.underlying9 (hval 0 39 v0 rfl rfl) h0
  obtain ⟨e0, e1, e2, y0, y1, y2, m, rfl, rfl, rfl, hy0, hy1, hy2⟩ := open_agg3 Tryz.underlying41 (by kernel_rfl) cellsT (hval 1 41 v2 rfl rfl) h2
  obtain ⟨tk, q0, rfl, w0⟩ := DataW.trod_int Tryz.underlying3 hy0
  obtain ⟨sc, q1, rfl, w1⟩ := DataW.trod_int Tryz.underlying3 hy1
  obtain ⟨nl, q2, rfl⟩ := DataW.trod_bool Tryz.underlying4 hy2
  obtain ⟨a1, n1, c1, zs, rfl, hmax, hR1, hwf⟩ := open_rd Tryz.underlying42 Tryz.underlying5 cellsB (hval 2 42 v1 rfl rfl) h1
  simp at q0 q1 q2
  subst q0 q1 q2
  clear hA0 hval0
  simp only [List.append_nil] at hW'
  have hlt0 : ∀ x ∈ p0, x.block < W.heap.size := fun x hx => by simpa using hW'.lt x (by simp [hx])
  have hlt1 : ∀ x ∈ p1, x.block < W.heap.size := fun x hx => by simpa using hW'.lt x (by simp [hx])
  have hoct : Oct zs := fun x hx => by
    have := hwf x hx
    simp [Lit.wf, IntKind.min, IntKind.max, IntKind.signed, IntKind.bits] at this
    omega
  have hfin : Calls Tryz.prog 4 #[.slice a0 n0 c0, encT ⟨tk, sc, nl⟩, .slice a1 n1 c1] W fun e w' => e = .returned (.bool true) ∧ Below W.heap.size W w' := by
    by_cases h : n1 ≤ 100
    · exact walk R0 F0 ⟨i64_of_wf w0, i64_of_wf w1⟩ (hR1 (by omega)) hoct h hV
    · exact walk_long R0 F0 (by omega) hmax hV
  unfold encT at hfin
  dsimp only at hfin
  refine hfin.mono fun e W' ⟨he, hg⟩ => ?_
  subst he
  exact ⟨_, rfl, ⟨_, _, _, [], _, [], hW', trodAll_mk1 (shut_bool Tryz.underlying4 _), trodAll_mk3
    (Below.trod laidOutK (by kernel_rfl) (of_decide_eq_true (by kernel_rfl)) h0 hg hlt0)
    (shut_agg3 (y0 := (.lit (.int .i64 tk), [])) (y1 := (.lit (.int .i64 sc), [])) (y2 := (.lit (.bool nl), [])) Tryz.underlying41 (by kernel_rfl) cellsT ⟨1, by simp [DataW.trod, Tryz.underlying3, w0]⟩ ⟨1, by simp [DataW.trod, Tryz.underlying3, w1]⟩ ⟨1, by simp [DataW.trod, Tryz.underlying4]⟩)
    (Below.trod laidOutK (by kernel_rfl) (of_decide_eq_true (by kernel_rfl)) h1 hg hlt1), rfl, hg.frame _, fun h => by cases h⟩⟩

theorem over : Rows.valueMatchesReferenceRow.holds Tryz.pinned (OpenSpec.ofChange Rows.valueMatchesReferenceSpec) :=
  OpenClaim.holds_of_wide 4 Tryz.f4 rfl rfl rfl rfl rfl rfl rfl ⟨rfl, rfl, rfl, rfl, rfl⟩ rfl rfl rfl rfl rfl (by kernel_rfl) Tryz.func4 (by kernel_rfl)
    (of_decide_eq_true (by kernel_rfl)) (by unfold Func.isWrapper; first | (rw [if_pos (by decide +kernel)]; kernel_rfl) | (rw [if_neg (by decide +kernel)]; exact ⟨rfl, rfl⟩))
    (fun os started H enc _ => lifted os started H enc)

/-- The statement: the card. -/
theorem proved : Rows.ValueMatchesReferenceCardSaid :=
  Claim7.holds_tied_plain_at .later [] [.data, .data, .data, .data, .data, .pinned] true Rows.valueMatchesReferenceCard.stood.harness false
    over (fun _ h => by cases h) (by kernel_rfl) (fun _ h => by cases h) valueMatchesReference_row_tie rfl ⟨rfl, rfl⟩ (by kernel_rfl) rfl
    (fun f fn hf hfn => by
      obtain rfl : f = 4 := Option.some.inj ((show Tryz.prog.funcNamed "chapman/chapmanlaw06.ValueMatchesReference" = some 4 by kernel_rfl).symm.trans hf) |>.symm
      obtain rfl : fn = Tryz.f4 := (Option.some.inj (Tryz.func4.symm.trans hfn)).symm
      exact ⟨by kernel_rfl, fun j t ht => by
        rw [Tryz.params4] at ht
        have hm : t ∈ [39, 41, 42] := by simpa using Array.mem_of_getElem? ht
        have hall : ([39, 41, 42].all fun u => !Tryz.prog.wantsStandIn u) = true := by kernel_rfl
        exact (show Tryz.prog.wantsStandIn t = false by simpa using List.all_eq_true.1 hall t hm)⟩)
    (by kernel_rfl)
#print axioms proved

end Go.Proofs.YtocnkjnlmciojaaGreatDoor.valueMatches
