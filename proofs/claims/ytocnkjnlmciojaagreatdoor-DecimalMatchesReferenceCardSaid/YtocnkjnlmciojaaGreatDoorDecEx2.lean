/-
  The fixed examples come out true.
-/
import Derived.Test.YtocnkjnlmciojaaGreatDoorDecEx
namespace Go.Proofs.YtocnkjnlmciojaaGreatDoor.De
open Go.RowKit Go.Shelf

theorem decDigits_seven (p : Nat) (h : p < 1000000) : Lib.decDigits (1000000 + p) = (List.range 7).map fun t => Lib.dg (1000000 + p) (7 - 1 - t) := by
  rw [Lib.decDigits_eq, nDigits_seven p h]

theorem exT1 : textL (-500000) = [45, 48, 46, 53] := by
  unfold textL placesL
  rw [show (-500000 : Int).natAbs / 1000000 = 0 from rfl, show (-500000 : Int).natAbs % 1000000 = 500000 from rfl, Lib.decDigits_one (by decide), decDigits_seven _ (by decide)]
  decide +kernel
theorem exT2 : textL 12000000 = [49, 50] := by
  unfold textL placesL
  rw [show (12000000 : Int).natAbs / 1000000 = 12 from rfl, show (12000000 : Int).natAbs % 1000000 = 0 from rfl, Lib.decDigits_two (by decide) (by decide), if_pos rfl]
  decide +kernel
theorem exT3 : textL 1 = [48, 46, 48, 48, 48, 48, 48, 49] := by
  unfold textL placesL
  rw [show (1 : Int).natAbs / 1000000 = 0 from rfl, show (1 : Int).natAbs % 1000000 = 1 from rfl, Lib.decDigits_one (by decide), decDigits_seven _ (by decide)]
  decide +kernel
theorem exP1 : parseS [45, 48, 46, 53] 1 = (-500000, 0) := by decide +kernel
theorem exP2 : parseS [48, 46, 49, 48] 2 = (0, 5) := by decide +kernel
theorem exP3 : parseS [48, 49] 0 = (0, 5) := by decide +kernel
theorem exP4 : parseS [49, 46, 53] 0 = (0, 5) := by decide +kernel
theorem exP5 : parseS [49] 7 = (0, 1) := by decide +kernel
theorem exP6 : parseS [49, 48, 48, 48, 48, 48, 48, 48, 48, 49] 0 = (0, 2) := by decide +kernel
theorem exM1 : mulS 1500000 1 = (2, 0) := by decide +kernel
theorem exM2 : mulS 2500000 1 = (2, 0) := by decide +kernel
theorem exM3 : mulS (-1500000) 1 = (-2, 0) := by decide +kernel
theorem exM4 : mulS 1000000000000000 2000000 = (0, 2) := by decide +kernel
theorem exD1 : divS 1000000 3000000 = (333333, 0) := by decide +kernel
theorem exD2 : divS 1 0 = (0, 3) := by decide +kernel
theorem exA1 : addS 1000000000000000 1 = (0, 2) := by decide +kernel
theorem exA2 : subS 5 7 = (-2, 0) := by decide +kernel
theorem exC1 : truncS (-1999999) 0 = -1000000 := by decide +kernel
theorem exC2 : fitsB 500000 1 = true := by decide +kernel
theorem exC3 : fitsB 500000 0 = false := by decide +kernel
theorem exC4 : validB (-1000000000000000) = true := by decide +kernel
theorem exC5 : validB 1000000000000001 = false := by decide +kernel
theorem exS1 : sumS [4000000000000000000, 4000000000000000000, 4000000000000000000, -4000000000000000000, -4000000000000000000] = (4000000000000000000, 0) := by decide +kernel
theorem exS2 : sumS [4000000000000000000, 1] = (0, 2) := by decide +kernel

def Gives (f : FuncId) (args : Array Value) (v : Value) (w : World) : Prop := Calls Tryz.prog f args w fun e w' => e = .returned v ∧ Below w.heap.size w w'

theorem six (n : Int) (h : -9223372036854775808 ≤ n) (h2 : n ≤ 9223372036854775807) : I64 n := ⟨h, h2⟩

theorem gT1 (w : World) (hV : Vars w) : Calls Tryz.prog 19 #[.int .i64 (-500000)] w fun e w' => e = .returned (.string ⟨#[45, 48, 46, 53]⟩) ∧ Below w.heap.size w w' := by
  have := text_any (-500000) (six _ (by decide) (by decide)) w hV
  rwa [exT1] at this
theorem gT2 (w : World) (hV : Vars w) : Calls Tryz.prog 19 #[.int .i64 12000000] w fun e w' => e = .returned (.string ⟨#[49, 50]⟩) ∧ Below w.heap.size w w' := by
  have := text_any 12000000 (six _ (by decide) (by decide)) w hV
  rwa [exT2] at this
theorem gT3 (w : World) (hV : Vars w) : Calls Tryz.prog 19 #[.int .i64 1] w fun e w' => e = .returned (.string ⟨#[48, 46, 48, 48, 48, 48, 48, 49]⟩) ∧ Below w.heap.size w w' := by
  have := text_any 1 (six _ (by decide) (by decide)) w hV
  rwa [exT3] at this

theorem gP {s : ByteArray} {k n e0 : Int} (l : List UInt8) (hl : s.data.toList = l) (hk : I64 k) (hs : s.size < 4294967281) (hr : parseS l k = (n, e0)) (w : World) (hV : Vars w) :
    Calls Tryz.prog 20 #[.string s, .int .i64 k] w fun e w' => e = .returned (.agg #[.int .i64 n, .int .i64 e0]) ∧ Below w.heap.size w w' := by
  have := parsed_any s k hk hs w hV
  rwa [hl, hr] at this
theorem gM {a b n e0 : Int} (ha : I64 a) (hb : I64 b) (hr : mulS a b = (n, e0)) (w : World) :
    Calls Tryz.prog 10 #[.int .i64 a, .int .i64 b] w fun e w' => e = .returned (.agg #[.int .i64 n, .int .i64 e0]) ∧ Below w.heap.size w w' := by
  have := product_any a b ha hb w
  rwa [hr] at this
theorem gD {a b n e0 : Int} (ha : I64 a) (hb : I64 b) (hr : divS a b = (n, e0)) (w : World) :
    Calls Tryz.prog 12 #[.int .i64 a, .int .i64 b] w fun e w' => e = .returned (.agg #[.int .i64 n, .int .i64 e0]) ∧ Below w.heap.size w w' := by
  have := quotient_any a b ha hb w
  rwa [hr] at this
theorem gA {a b n e0 : Int} (ha : I64 a) (hb : I64 b) (hr : addS a b = (n, e0)) (w : World) :
    Calls Tryz.prog 6 #[.int .i64 a, .int .i64 b] w fun e w' => e = .returned (.agg #[.int .i64 n, .int .i64 e0]) ∧ Below w.heap.size w w' := by
  have := added_any a b ha hb w
  rwa [hr] at this
theorem gL {a b n e0 : Int} (ha : I64 a) (hb : I64 b) (hr : subS a b = (n, e0)) (w : World) :
    Calls Tryz.prog 8 #[.int .i64 a, .int .i64 b] w fun e w' => e = .returned (.agg #[.int .i64 n, .int .i64 e0]) ∧ Below w.heap.size w w' := by
  have := less_any a b ha hb w
  rwa [hr] at this

/-- A row of written numbers that the call has just laid. -/
theorem reads_new (W : World) (zs : List Int) (t : TypeId) : ReadsK (fun b => b < (W.alloc (.cells (zs.map (Value.int .i64)).toArray t)).heap.size) (W.alloc (.cells (zs.map (Value.int .i64)).toArray t)) .i64 (.slice (some ⟨W.heap.size, 0, none⟩) zs.length zs.length) zs := by
  refine .inr ⟨W.heap.size, 0, zs.length, rfl, by simp, by simp, fun j hj => ?_⟩
  rw [World.cell?_alloc_new, Nat.zero_add]
  simp [List.getElem?_eq_getElem hj]

theorem gS1 (w : World) : Calls Tryz.prog 26 #[.slice (some ⟨w.heap.size, 0, none⟩) 5 5] (w.alloc (.cells #[.int .i64 4000000000000000000, .int .i64 4000000000000000000, .int .i64 4000000000000000000, .int .i64 (-4000000000000000000), .int .i64 (-4000000000000000000)] 3)) fun e w' => e = .returned (.agg #[.int .i64 4000000000000000000, .int .i64 0]) ∧ Below w.heap.size w w' := by
  have hz : ∀ z ∈ [(4000000000000000000 : Int), 4000000000000000000, 4000000000000000000, -4000000000000000000, -4000000000000000000], I64 z := by
    intro z hz
    simp only [List.mem_cons, List.mem_nil_iff, or_false] at hz
    unfold I64
    omega
  have h := lsum_any _ _ (by decide) hz _ (reads_new w [4000000000000000000, 4000000000000000000, 4000000000000000000, -4000000000000000000, -4000000000000000000] 3)
  rw [exS1] at h
  exact h.mono fun e w' ⟨he, hb⟩ => ⟨he, ((Below.refl w.heap.size w).alloc (Nat.le_refl _) _).trans (hb.mono (by simp))⟩
theorem gS2 (w : World) : Calls Tryz.prog 26 #[.slice (some ⟨w.heap.size, 0, none⟩) 2 2] (w.alloc (.cells #[.int .i64 4000000000000000000, .int .i64 1] 3)) fun e w' => e = .returned (.agg #[.int .i64 0, .int .i64 2]) ∧ Below w.heap.size w w' := by
  have hz : ∀ z ∈ [(4000000000000000000 : Int), 1], I64 z := by
    intro z hz
    simp only [List.mem_cons, List.mem_nil_iff, or_false] at hz
    unfold I64
    omega
  have h := lsum_any _ _ (by decide) hz _ (reads_new w [4000000000000000000, 1] 3)
  rw [exS2] at h
  exact h.mono fun e w' ⟨he, hb⟩ => ⟨he, ((Below.refl w.heap.size w).alloc (Nat.le_refl _) _).trans (hb.mono (by simp))⟩

theorem gTr (w : World) (hV : Vars w) : Calls Tryz.prog 22 #[.int .i64 (-1999999), .int .i64 0] w fun e w' => e = .returned (.int .i64 (-1000000)) ∧ Below w.heap.size w w' := by
  have := trunc_any (-1999999) 0 (six _ (by decide) (by decide)) (six _ (by decide) (by decide)) w hV
  rwa [exC1] at this
theorem gF1 (w : World) (hV : Vars w) : Calls Tryz.prog 24 #[.int .i64 500000, .int .i64 1] w fun e w' => e = .returned (.bool true) ∧ w = w' := by
  have := fits_any 500000 1 (six _ (by decide) (by decide)) (six _ (by decide) (by decide)) w hV
  rwa [exC2] at this
theorem gF2 (w : World) (hV : Vars w) : Calls Tryz.prog 24 #[.int .i64 500000, .int .i64 0] w fun e w' => e = .returned (.bool false) ∧ w = w' := by
  have := fits_any 500000 0 (six _ (by decide) (by decide)) (six _ (by decide) (by decide)) w hV
  rwa [exC3] at this
theorem gV1 (w : World) : Calls Tryz.prog 16 #[.int .i64 (-1000000000000000)] w fun e w' => e = .returned (.bool true) ∧ w = w' := by
  have := valid_any (-1000000000000000) (six _ (by decide) (by decide)) w
  rwa [exC4] at this
theorem gV2 (w : World) : Calls Tryz.prog 16 #[.int .i64 1000000000000001] w fun e w' => e = .returned (.bool false) ∧ w = w' := by
  have := valid_any 1000000000000001 (six _ (by decide) (by decide)) w
  rwa [exC5] at this

theorem field0 (a b : Int) (W : World) : (Instr.field 30 (.agg #[.int .i64 a, .int .i64 b]) 0).run Tryz.prog W = .ok (.int .i64 a) W := by kernel_rfl
theorem field1 (a b : Int) (W : World) : (Instr.field 30 (.agg #[.int .i64 a, .int .i64 b]) 1).run Tryz.prog W = .ok (.int .i64 b) W := by kernel_rfl

set_option maxRecDepth 100000 in
set_option maxHeartbeats 4000000 in
theorem examples_any (w : World) (hV : Vars w) : Calls Tryz.prog 5 #[] w fun e W' => e = .returned (.bool true) ∧ Below w.heap.size w W' := by
  have hb := Below.refl w.heap.size w
  have HV := Lib.hid (fun W (h : Below w.heap.size w W) => hV.below h)
  have hf0 := field0
  have hf1 := field1
  clear hV
  go_enter Tryz.func5, Tryz.ntmps5
  go_wp2_with (first
    | (go_at_call 19; ((with_reducible refine (gT1 _ (HV.out _ hb)).mono ?_); rintro e w1 ⟨rfl, hb1⟩; replace hb := hb.trans (hb1.mono hb.size); clear hb1))
    | (go_at_call 19; ((with_reducible refine (gT2 _ (HV.out _ hb)).mono ?_); rintro e w1 ⟨rfl, hb1⟩; replace hb := hb.trans (hb1.mono hb.size); clear hb1))
    | (go_at_call 19; ((with_reducible refine (gT3 _ (HV.out _ hb)).mono ?_); rintro e w1 ⟨rfl, hb1⟩; replace hb := hb.trans (hb1.mono hb.size); clear hb1))
    | (go_at_call 20; ((first
        | (with_reducible refine (gP [45, 48, 46, 53] rfl (six _ (by decide) (by decide)) (by decide) exP1 _ (HV.out _ hb)).mono ?_)
        | (with_reducible refine (gP [48, 46, 49, 48] rfl (six _ (by decide) (by decide)) (by decide) exP2 _ (HV.out _ hb)).mono ?_)
        | (with_reducible refine (gP [48, 49] rfl (six _ (by decide) (by decide)) (by decide) exP3 _ (HV.out _ hb)).mono ?_)
        | (with_reducible refine (gP [49, 46, 53] rfl (six _ (by decide) (by decide)) (by decide) exP4 _ (HV.out _ hb)).mono ?_)
        | (with_reducible refine (gP [49] rfl (six _ (by decide) (by decide)) (by decide) exP5 _ (HV.out _ hb)).mono ?_)
        | (with_reducible refine (gP [49, 48, 48, 48, 48, 48, 48, 48, 48, 49] rfl (six _ (by decide) (by decide)) (by decide) exP6 _ (HV.out _ hb)).mono ?_)); rintro e w1 ⟨rfl, hb1⟩; replace hb := hb.trans (hb1.mono hb.size); clear hb1))
    | (go_at_call 10; ((first
        | (with_reducible refine (gM (six _ (by decide) (by decide)) (six _ (by decide) (by decide)) exM1 _).mono ?_)
        | (with_reducible refine (gM (six _ (by decide) (by decide)) (six _ (by decide) (by decide)) exM2 _).mono ?_)
        | (with_reducible refine (gM (six _ (by decide) (by decide)) (six _ (by decide) (by decide)) exM3 _).mono ?_)
        | (with_reducible refine (gM (six _ (by decide) (by decide)) (six _ (by decide) (by decide)) exM4 _).mono ?_)); rintro e w1 ⟨rfl, hb1⟩; replace hb := hb.trans (hb1.mono hb.size); clear hb1))
    | (go_at_call 12; ((first
        | (with_reducible refine (gD (six _ (by decide) (by decide)) (six _ (by decide) (by decide)) exD1 _).mono ?_)
        | (with_reducible refine (gD (six _ (by decide) (by decide)) (six _ (by decide) (by decide)) exD2 _).mono ?_)); rintro e w1 ⟨rfl, hb1⟩; replace hb := hb.trans (hb1.mono hb.size); clear hb1))
    | (go_at_call 6; ((with_reducible refine (gA (six _ (by decide) (by decide)) (six _ (by decide) (by decide)) exA1 _).mono ?_); rintro e w1 ⟨rfl, hb1⟩; replace hb := hb.trans (hb1.mono hb.size); clear hb1))
    | (go_at_call 8; ((with_reducible refine (gL (six _ (by decide) (by decide)) (six _ (by decide) (by decide)) exA2 _).mono ?_); rintro e w1 ⟨rfl, hb1⟩; replace hb := hb.trans (hb1.mono hb.size); clear hb1))
    | (go_at_call 22; ((with_reducible refine (gTr _ (HV.out _ hb)).mono ?_); rintro e w1 ⟨rfl, hb1⟩; replace hb := hb.trans (hb1.mono hb.size); clear hb1))
    | (go_at_call 14; ((with_reducible refine (cmp_any 1 2 _).mono ?_); rintro e w' ⟨rfl, rfl⟩))
    | (go_at_call 24; ((with_reducible refine (gF1 _ (HV.out _ hb)).mono ?_); rintro e w' ⟨rfl, rfl⟩))
    | (go_at_call 24; ((with_reducible refine (gF2 _ (HV.out _ hb)).mono ?_); rintro e w' ⟨rfl, rfl⟩))
    | (go_at_call 16; ((with_reducible refine (gV1 _).mono ?_); rintro e w' ⟨rfl, rfl⟩))
    | (go_at_call 16; ((with_reducible refine (gV2 _).mono ?_); rintro e w' ⟨rfl, rfl⟩))
    | (go_at_call 26; ((with_reducible refine (gS1 _).mono ?_); rintro e w1 ⟨rfl, hb1⟩; replace hb := hb.trans (hb1.mono hb.size); clear hb1))
    | (go_at_call 26; ((with_reducible refine (gS2 _).mono ?_); rintro e w1 ⟨rfl, hb1⟩; replace hb := hb.trans (hb1.mono hb.size); clear hb1)))
  go_ret
  exact ⟨rfl, hb⟩

end Go.Proofs.YtocnkjnlmciojaaGreatDoor.De
