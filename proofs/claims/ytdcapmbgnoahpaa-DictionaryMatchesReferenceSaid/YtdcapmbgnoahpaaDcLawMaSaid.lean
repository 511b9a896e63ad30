/-
  Dictionaries of lists, which are valid, codes, strings, packed forms and what is unpacked are as in the reference: the law returns true for all arguments, and changes nothing. No condition.
-/
import Derived.Test.YtdcapmbgnoahpaaDcLawMa
import Derived.Test.YtdcapmbgnoahpaaDcOdd
namespace Go.Proofs.Ytdcapmbgnoahpaa.dictionaryMatches
open Go.ChangeShapes Go.WideShapes Go.ChangeAt Go.RowKit
open Go.Proofs.Ytdcapmbgnoahpaa

set_option maxRecDepth 100000 in
set_option maxHeartbeats 4000000 in
theorem walk_long {K : Nat → Prop} {ax al ac ab : Option Addr} {nx cx nl cl nc cc nb cb : Nat} {lL : List (List UInt8)} {k0 k1 k2 : Nat} {w : World} (hL0 : RdLS K w al nl cl lL) (hl : shortD lL = false ∨ 40 < nc ∨ 2000 < nb) :
    Calls Try.prog 3 #[.slice ax nx cx, .agg #[.slice al nl cl, .slice ac nc cc, .slice ab nb cb, .int .u8 (k0 : Int), .int .u8 (k1 : Int), .int .u8 (k2 : Int)]] w fun e w' => e = .returned (.bool true) ∧ Below w.heap.size w w' := by
  have HX1 := Lib.hid (Hex.new w 27 (.slice al nl cl) (.slice ac nc cc) (.slice ab nb cb) (.int .u8 (k0 : Int)) (.int .u8 (k1 : Int)) (.int .u8 (k2 : Int)))
  have hb0 : Below w.heap.size w (w.alloc (.cells #[.slice al nl cl, .slice ac nc cc, .slice ab nb cb, .int .u8 (k0 : Int), .int .u8 (k1 : Int), .int .u8 (k2 : Int)] 27)) := (Below.refl _ _).alloc (Nat.le_refl _) _
  have HB := Lib.hid hb0
  have HL0 := Lib.hid hL0
  have HH := Lib.hid hl
  clear hL0 hb0 hl
  go_enter Try.func3, Try.ntmps3
  go_upto_region 1 with fail
  obtain ⟨B0, hB0⟩ : ∃ B, w.heap.size = B := ⟨_, rfl⟩
  rw [hB0] at HX1 ⊢
  have HZB := Lib.hid hB0
  clear hB0
  generalize w.alloc (.cells #[.slice al nl cl, .slice ac nc cc, .slice ab nb cb, .int .u8 (k0 : Int), .int .u8 (k1 : Int), .int .u8 (k2 : Int)] 27) = V0 at *
  go_wp2_with fail
  refine (examples5_any _).mono ?_
  rintro e w1 ⟨rfl, hb1⟩
  replace HB : Hid (Below w.heap.size w w1) := HB.out.trans (hb1.mono HB.out.size)
  have HX := Lib.hid (HX1.out.below hb1 HX1.out.lt)
  clear hb1 HX1
  have c0 := HX.out.c0
  have c1 := HX.out.c1
  have c2 := HX.out.c2
  go_wp2_with fail
  refine (short5l_any (HL0.out.below HB.out)).mono ?_
  rintro e w2 ⟨rfl, hb2⟩
  replace HB : Hid (Below w.heap.size w w2) := HB.out.trans (hb2.mono HB.out.size)
  replace HX := Lib.hid (HX.out.below hb2 HX.out.lt)
  clear hb2 c0 c1 c2
  have c0 := HX.out.c0
  have c1 := HX.out.c1
  have c2 := HX.out.c2
  obtain ⟨s, hs⟩ : ∃ s, shortD lL = s := ⟨_, rfl⟩
  rw [hs] at HH ⊢
  clear hs
  cases s
  · go_wp2
    go_ret
    exact ⟨rfl, HB.out⟩
  · by_cases q1 : 40 < nc
    · have d1 : (nc : Int) > 40 := by omega
      go_wp2
      go_ret
      exact ⟨rfl, HB.out⟩
    · have d1 : ¬ (nc : Int) > 40 := by omega
      have q2 : 2000 < nb := by
        rcases HH.out with h | h | h
        · cases h
        · exact absurd h q1
        · exact h
      have d2 : (nb : Int) > 2000 := by omega
      go_wp2
      go_ret
      exact ⟨rfl, HB.out⟩

set_option maxRecDepth 100000 in
theorem lifted (os : Os) (started : os.Started) (H : Type) (enc : TypeId × Value → H) :
    ReturnsInHanded {} Try.checked os 3 .any (Rows.dictionaryMatchesReferenceSpec.pre6 enc Try.prog Try.f3 Rows.dictionaryMatchesReferenceRow.domain false) (Rows.dictionaryMatchesReferenceSpec.post enc Try.prog Try.f3 false true false false) := by
  refine returnsInHanded_of_change (C := Try.checked) own4 started (by kernel_rfl) Try.func3
    (ChangeSpec.witness6 (enc := enc) (C := Try.checked) false ⟨#[], #[.slice none 0 0, .agg #[.slice none 0 0, .slice none 0 0, .slice none 0 0, .int .u8 0, .int .u8 0, .int .u8 0]], []⟩ 8 (by kernel_rfl) (by kernel_rfl) (by kernel_rfl) (by kernel_rfl)) ?_
  intro W base args ds gs before hval0 hW hcnd _
  have hval : ∀ (j : Nat) t v, Try.f3.params[j]? = some t → args[j]? = some v → Value.okWide Try.prog W .any base t v := hval0
  have hW' := hW
  obtain ⟨p, q, hA0, hV, rfl, hfz, hnd⟩ := hW
  have hA : DataW.TrodAll enc Try.prog W 0 (fun _ => true) true Try.f3.params.toList args.toList ds p := hA0
  rw [Try.params3] at hA hval
  obtain ⟨v0, v1, d0, d1, p0, p1, rfl, rfl, rfl, h0, h1⟩ := trodAll_two hA
  obtain ⟨rfl, rfl⟩ := trodVars_none hV
  obtain ⟨a0, n0, c0, zs0, rfl, hmax0, hR0, hwf0⟩ := open_rdl Try.underlying22 Try.underlying5 cellsB4 (hval 0 22 v0 rfl rfl) h0
  obtain ⟨a1, n1, c1, ss, a2, n2, c2, ns, a3, n3, c3, bs, k0, k1, k2, rfl, ⟨hm1, hm2, hm3⟩, hR1, hR2, hR3, hw3, hk0, hk1, hk2⟩ := open_odd5 (hval 1 27 v1 rfl rfl) h1
  clear hA0 hval0
  simp only [List.append_nil] at hW'
  have hlt0 : ∀ x ∈ p0, x.block < W.heap.size := fun x hx => by simpa using hW'.lt x (by simp [hx])
  have hlt1 : ∀ x ∈ p1, x.block < W.heap.size := fun x hx => by simpa using hW'.lt x (by simp [hx])
  have hz0 : Oct zs0 := fun x hx => by
    have := hwf0 x hx
    simp [Lit.wf, IntKind.min, IntKind.max, IntKind.signed, IntKind.bits] at this; omega
  have hz3 : Oct bs := fun x hx => by
    have := hw3 x hx
    simp [Lit.wf, IntKind.min, IntKind.max, IntKind.signed, IntKind.bits] at this; omega
  have fin : Calls Try.prog 3 #[.slice a0 n0 c0, .agg #[.slice a1 n1 c1, .slice a2 n2 c2, .slice a3 n3 c3, .int .u8 (k0 : Int), .int .u8 (k1 : Int), .int .u8 (k2 : Int)]] W fun e w' => e = .returned (.bool true) ∧ Below W.heap.size W w' := by
    by_cases hl : shortD ss = false ∨ 40 < n2 ∨ 2000 < n3
    · exact walk_long hR1 hl
    · have hs : shortD ss = true := by
        cases h : shortD ss
        · exact absurd (Or.inl h) hl
        · rfl
      have hsl := shortD_parts hs
      exact walk hz0 hz3 hR0 (hR1.few (by rw [hR1.hl]; omega)) (hR2 (by omega)) (hR3 (by omega)) hk0 hk1 hk2 hs (by omega) (by omega)
  refine fin.mono fun e W' ⟨he, hg⟩ => ?_
  subst he
  exact ⟨_, rfl, ⟨_, _, _, [], p0 ++ p1, [], hW', trodAll_mk1 (shut_bool Try.underlying4 _), trodAll_mk2 (Below.trod laidOut4 (by kernel_rfl) (of_decide_eq_true (by kernel_rfl)) h0 hg hlt0) (Below.trod laidOut4 (by kernel_rfl) (of_decide_eq_true (by kernel_rfl)) h1 hg hlt1), rfl, hg.frame _, fun h => by cases h⟩⟩

theorem over : Rows.dictionaryMatchesReferenceRow.holds Try.pinned (OpenSpec.ofChange Rows.dictionaryMatchesReferenceSpec) :=
  OpenClaim.holds_of_wide 3 Try.f3 rfl rfl rfl rfl rfl rfl rfl ⟨rfl, rfl, rfl, rfl, rfl⟩ rfl rfl rfl rfl rfl (by kernel_rfl) Try.func3 (by kernel_rfl)
    (of_decide_eq_true (by kernel_rfl)) (by unfold Func.isWrapper; first | (rw [if_pos (by decide +kernel)]; kernel_rfl) | (rw [if_neg (by decide +kernel)]; exact ⟨rfl, rfl⟩))
    (fun os started H enc _ => lifted os started H enc)

/-- The statement. -/
theorem proved : Rows.DictionaryMatchesReferenceSaid := over
#print axioms proved

end Go.Proofs.Ytdcapmbgnoahpaa.dictionaryMatches
