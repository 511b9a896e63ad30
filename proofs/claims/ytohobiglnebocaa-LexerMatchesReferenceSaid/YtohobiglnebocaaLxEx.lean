/-
  The examples of the law.
-/
import Derived.Test.YtohobiglnebocaaLxWrap
import Derived.ChangeKeysEq
namespace Go.Proofs.Ytohobiglnebocaa.Lx
open Go Go.RowKit Go.Shelf Go.Sort Go.ChangeShapes Go.WideShapes Go.ChangeAt
open Go.Proofs.Ytohobiglnebocaa

theorem RdK.new (W : World) (t : TypeId) (ts : List Tk) (hs : ts.length ≤ 1000000) : RdK (W.alloc (.cells (cellsK ts).toArray t)) (some ⟨W.heap.size, 0, none⟩) ts.length ts.length ts :=
  ⟨rfl, Nat.le_refl _, by omega, by omega, fun _ => ⟨W.heap.size, 0, rfl, by simp, fun j hj => by
    have h0 := World.alloc_heap_new W (.cells (cellsK ts).toArray t)
    have h3 := cellsK_at ts j hj
    have get : ∀ m u, (cellsK ts)[m]? = some u → (W.alloc (.cells (cellsK ts).toArray t)).cell? ⟨W.heap.size, m, none⟩ = some u := fun m u h => by
      simp only [World.cell?, h0]
      simpa using h
    rw [Nat.zero_add]
    exact ⟨get _ _ h3.1, get _ _ h3.2.1, get _ _ h3.2.2⟩⟩⟩
def exT : List Tk := [⟨1, [115, 101, 116], 0⟩, ⟨1, [116], 4⟩, ⟨4, [40], 5⟩, ⟨2, [49], 6⟩, ⟨4, [41], 7⟩, ⟨4, [61], 9⟩, ⟨3, [97, 34, 98], 11⟩, ⟨4, [59], 17⟩]
theorem info_int : ∃ i, Try.prog.info? 3 = some i := by
  cases h : Try.prog.info? 3 with
  | none =>
    have : (Try.prog.info? 3).isSome = true := by kernel_rfl
    rw [h] at this; cases this
  | some i => exact ⟨i, rfl⟩
/-- Pairs of numbers are compared. -/
theorem eq_two (a b c d : Int) (w : World) : (Op.equalIn 10000 40 (.agg #[.int .i64 a, .int .i64 b]) (.agg #[.int .i64 c, .int .i64 d])).run Try.prog w = .ok (a == c && b == d) w := by
  obtain ⟨i, hi⟩ := info_int
  have hc : Try.prog.cellsOf 3 = 1 := by kernel_rfl
  have ha := run_equalIn_array (P := Try.prog) w 9999 #[.int .i64 a, .int .i64 b] #[.int .i64 c, .int .i64 d] Try.underlying40 hi
  rw [hc, show List.range 2 = [0, 1] from rfl] at ha
  have e1 : ∀ (x y : Int), (Op.equalIn 9999 3 (.int .i64 x) (.int .i64 y)).run Try.prog w = .ok (x == y) w := fun x y => Go.run_equalIn_int w 9998 3 .i64 .i64 x y Try.underlying3
  rw [show (10000 : Nat) = 9999 + 1 from rfl, ha]
  cases h1 : (a == c) <;> cases h2 : (b == d) <;> simp [Op.eqItems, part, isAgg, run_underlying Try.underlying3, e1, h1, h2]

set_option maxRecDepth 100000 in
set_option maxHeartbeats 8000000 in
theorem examples10_any (w : World) (hV : Vars w) : Calls Try.prog 4 #[] w fun e V => e = .returned (.bool true) ∧ Below w.heap.size w V := by
  have HV := Lib.hid hV
  clear hV
  go_enter Try.func4, Try.ntmps4
  have HC1 := Lib.hid (lexed_any [115, 101, 116, 32, 116, 40, 49, 41, 32, 61, 32, 34, 97, 92, 34, 98, 34, 59] (by decide) w HV.out)
  rw [show lexS [115, 101, 116, 32, 116, 40, 49, 41, 32, 61, 32, 34, 97, 92, 34, 98, 34, 59] = (exT, 0, 0) from by decide +kernel, show bsOf [115, 101, 116, 32, 116, 40, 49, 41, 32, 61, 32, 34, 97, 92, 34, 98, 34, 59] = ⟨#[115, 101, 116, 32, 116, 40, 49, 41, 32, 61, 32, 34, 97, 92, 34, 98, 34, 59]⟩ from rfl] at HC1
  go_wp2_with fail
  refine HC1.out.mono ?_
  rintro e w1 ⟨a1, c1, rfl, hr, hb, -⟩
  rw [show exT.length = 8 from rfl] at hr ⊢
  dsimp only [List.length_nil] at hr ⊢
  have HR1 := Lib.hid hr
  have HB1 := Lib.hid hb
  clear hr hb HC1
  rw [show ((0 : Nat) : Int) = 0 from rfl]
  have hb2 := (Below.refl w1.heap.size w1).alloc (Nat.le_refl _) (.cells #[.slice a1 8 c1, .int .i64 0, .int .i64 0] 37)
  have hb3 := hb2.alloc (by simp) (.cells #[.int .i64 1, .string ⟨#[115, 101, 116]⟩, .int .i64 0, .int .i64 1, .string ⟨#[116]⟩, .int .i64 4, .int .i64 4, .string ⟨#[40]⟩, .int .i64 5, .int .i64 2, .string ⟨#[49]⟩, .int .i64 6, .int .i64 4, .string ⟨#[41]⟩, .int .i64 7, .int .i64 4, .string ⟨#[61]⟩, .int .i64 9, .int .i64 3, .string ⟨#[97, 34, 98]⟩, .int .i64 11, .int .i64 4, .string ⟨#[59]⟩, .int .i64 17] 29)
  have hu := (Trio.new w1 37 (.slice a1 8 c1) (.int .i64 0) (.int .i64 0)).below (V := (w1.alloc (.cells #[.slice a1 8 c1, .int .i64 0, .int .i64 0] 37)).alloc (.cells #[.int .i64 1, .string ⟨#[115, 101, 116]⟩, .int .i64 0, .int .i64 1, .string ⟨#[116]⟩, .int .i64 4, .int .i64 4, .string ⟨#[40]⟩, .int .i64 5, .int .i64 2, .string ⟨#[49]⟩, .int .i64 6, .int .i64 4, .string ⟨#[41]⟩, .int .i64 7, .int .i64 4, .string ⟨#[61]⟩, .int .i64 9, .int .i64 3, .string ⟨#[97, 34, 98]⟩, .int .i64 11, .int .i64 4, .string ⟨#[59]⟩, .int .i64 17] 29)) ((Below.refl (w1.alloc (.cells #[.slice a1 8 c1, .int .i64 0, .int .i64 0] 37)).heap.size _).alloc (Nat.le_refl _) _) (by simp)
  have hr3 := RdK.new (w1.alloc (.cells #[.slice a1 8 c1, .int .i64 0, .int .i64 0] 37)) 29 exT (by decide)
  change RdK ((w1.alloc (.cells #[.slice a1 8 c1, .int .i64 0, .int .i64 0] 37)).alloc (.cells #[.int .i64 1, .string ⟨#[115, 101, 116]⟩, .int .i64 0, .int .i64 1, .string ⟨#[116]⟩, .int .i64 4, .int .i64 4, .string ⟨#[40]⟩, .int .i64 5, .int .i64 2, .string ⟨#[49]⟩, .int .i64 6, .int .i64 4, .string ⟨#[41]⟩, .int .i64 7, .int .i64 4, .string ⟨#[61]⟩, .int .i64 9, .int .i64 3, .string ⟨#[97, 34, 98]⟩, .int .i64 11, .int .i64 4, .string ⟨#[59]⟩, .int .i64 17] 29)) _ 8 8 exT at hr3
  rw [World.size_alloc] at hr3
  have HR3 := Lib.hid hr3
  have HU3 := Lib.hid hu
  have HR1b := Lib.hid (HR1.out.below hb3)
  have HB3 := Lib.hid (HB1.out.trans (hb3.mono HB1.out.size))
  clear hb2 hb3 hu hr3
  go_upto_region 3 with fail
  obtain ⟨w3, hw3⟩ : ∃ w3, (w1.alloc (.cells #[.slice a1 8 c1, .int .i64 0, .int .i64 0] 37)).alloc (.cells #[.int .i64 1, .string ⟨#[115, 101, 116]⟩, .int .i64 0, .int .i64 1, .string ⟨#[116]⟩, .int .i64 4, .int .i64 4, .string ⟨#[40]⟩, .int .i64 5, .int .i64 2, .string ⟨#[49]⟩, .int .i64 6, .int .i64 4, .string ⟨#[41]⟩, .int .i64 7, .int .i64 4, .string ⟨#[61]⟩, .int .i64 9, .int .i64 3, .string ⟨#[97, 34, 98]⟩, .int .i64 11, .int .i64 4, .string ⟨#[59]⟩, .int .i64 17] 29) = w3 := ⟨_, rfl⟩
  rw [hw3] at HR3 HU3 HR1b HB3 ⊢
  clear hw3 HR1
  generalize w1.heap.size = U at *
  have d0 := HU3.out.c0
  have d1 := HU3.out.c1
  have d2 := HU3.out.c2
  have HS3 := Lib.hid (sameL_any (p := 0) (q := 0) (e := 0) (f := 0) HR1b.out HR3.out)
  rw [show (decide ((0 : Int) = 0) && decide ((0 : Int) = 0) && decide (exT = exT)) = true from by decide] at HS3
  go_wp2_with fail
  refine HS3.out.mono ?_
  rintro e w4 ⟨rfl, hb⟩
  have HB4 := Lib.hid (HB3.out.trans (hb.mono HB3.out.size))
  have HR4 := Lib.hid (HR3.out.below hb)
  clear hb HS3 HR1b HR3 HU3 d0 d1 d2
  have HC18 := Lib.hid (lexed_any [97, 32, 36] (by decide) w4 (HV.out.below HB4.out))
  rw [show lexS [97, 32, 36] = ([], 2, 5) from by decide +kernel, show bsOf [97, 32, 36] = ⟨#[97, 32, 36]⟩ from rfl] at HC18
  go_wp2_with fail
  refine HC18.out.mono ?_
  rintro e w5 ⟨a18, c18, rfl, hr, hb, -⟩
  skip
  dsimp only [List.length_nil] at hr ⊢
  rw [show ((2 : Nat) : Int) = 2 from rfl]
  have HB5 := Lib.hid (HB4.out.trans (hb.mono HB4.out.size))
  have HR5 := Lib.hid (HR4.out.below hb)
  have HS := Lib.hid (sameL_any (p := 2) (q := 2) (e := 5) (f := 5) hr (RdK.empty (A := w5) (a := none) (c := 0) (by decide)))
  rw [show (decide ((5 : Int) = 5) && decide ((2 : Int) = 2) && decide (([] : List Tk) = [])) = true from by decide] at HS
  clear hr hb HC18
  go_wp2_with fail
  refine HS.out.mono ?_
  rintro e w6 ⟨rfl, hb⟩
  have HB6 := Lib.hid (HB5.out.trans (hb.mono HB5.out.size))
  have HR6 := Lib.hid (HR5.out.below hb)
  clear hb HS HR4 HR5
  have HC23 := Lib.hid (lexed_any [49, 32, 34, 120] (by decide) w6 (HV.out.below HB6.out))
  rw [show lexS [49, 32, 34, 120] = ([], 2, 5) from by decide +kernel, show bsOf [49, 32, 34, 120] = ⟨#[49, 32, 34, 120]⟩ from rfl] at HC23
  go_wp2_with fail
  refine HC23.out.mono ?_
  rintro e w7 ⟨a23, c23, rfl, hr, hb, -⟩
  skip
  dsimp only [List.length_nil] at hr ⊢
  rw [show ((2 : Nat) : Int) = 2 from rfl]
  have HB7 := Lib.hid (HB6.out.trans (hb.mono HB6.out.size))
  have HR7 := Lib.hid (HR6.out.below hb)
  have HS := Lib.hid (sameL_any (p := 2) (q := 2) (e := 5) (f := 5) hr (RdK.empty (A := w7) (a := none) (c := 0) (by decide)))
  rw [show (decide ((5 : Int) = 5) && decide ((2 : Int) = 2) && decide (([] : List Tk) = [])) = true from by decide] at HS
  clear hr hb HC23
  go_wp2_with fail
  refine HS.out.mono ?_
  rintro e w8 ⟨rfl, hb⟩
  have HB8 := Lib.hid (HB7.out.trans (hb.mono HB7.out.size))
  have HR8 := Lib.hid (HR7.out.below hb)
  clear hb HS HR6 HR7
  have HC28 := Lib.hid (lexed_any [32, 35, 32, 97] (by decide) w8 (HV.out.below HB8.out))
  rw [show lexS [32, 35, 32, 97] = ([], 0, 0) from by decide +kernel, show bsOf [32, 35, 32, 97] = ⟨#[32, 35, 32, 97]⟩ from rfl] at HC28
  go_wp2_with fail
  refine HC28.out.mono ?_
  rintro e w9 ⟨a28, c28, rfl, hr, hb, -⟩
  skip
  dsimp only [List.length_nil] at hr ⊢
  rw [show ((0 : Nat) : Int) = 0 from rfl]
  have HB9 := Lib.hid (HB8.out.trans (hb.mono HB8.out.size))
  have HR9 := Lib.hid (HR8.out.below hb)
  have HS := Lib.hid (sameL_any (p := 0) (q := 0) (e := 0) (f := 0) hr (RdK.empty (A := w9) (a := none) (c := 0) (by decide)))
  rw [show (decide ((0 : Int) = 0) && decide ((0 : Int) = 0) && decide (([] : List Tk) = [])) = true from by decide] at HS
  clear hr hb HC28
  go_wp2_with fail
  refine HS.out.mono ?_
  rintro e w10 ⟨rfl, hb⟩
  have HB10 := Lib.hid (HB9.out.trans (hb.mono HB9.out.size))
  have HR10 := Lib.hid (HR9.out.below hb)
  clear hb HS HR8 HR9
  have HS := Lib.hid (valid_any 1 0 [97, 49] (by decide) w10 (HV.out.below HB10.out))
  unfold encK at HS
  rw [show vld 1 [97, 49] = true from by decide, show bsOf [97, 49] = ⟨#[97, 49]⟩ from rfl] at HS
  go_wp2_with fail
  refine HS.out.mono ?_
  rintro e w11 ⟨rfl, hb⟩
  have HB11 := Lib.hid (HB10.out.trans (hb.mono HB10.out.size))
  have HR11 := Lib.hid (HR10.out.below hb)
  clear hb HS HR10
  have HS := Lib.hid (valid_any 1 0 [49, 97] (by decide) w11 (HV.out.below HB11.out))
  unfold encK at HS
  rw [show vld 1 [49, 97] = false from by decide, show bsOf [49, 97] = ⟨#[49, 97]⟩ from rfl] at HS
  go_wp2_with fail
  refine HS.out.mono ?_
  rintro e w12 ⟨rfl, hb⟩
  have HB12 := Lib.hid (HB11.out.trans (hb.mono HB11.out.size))
  have HR12 := Lib.hid (HR11.out.below hb)
  clear hb HS HR11
  have HS := Lib.hid (spell_any 3 0 [92] (by decide) w12 (HV.out.below HB12.out))
  unfold encK at HS
  rw [show spl 3 [92] = [34, 92, 92, 34] from by decide, show bsOf [92] = ⟨#[92]⟩ from rfl] at HS
  have hsp : ((bsOf [34, 92, 92, 34]).toList == [34, 92, 92, 34]) = true := by rw [bs_eqs]; decide
  go_wp2_with fail
  refine HS.out.mono ?_
  rintro e w13 ⟨rfl, hb⟩
  have HB13 := Lib.hid (HB12.out.trans (hb.mono HB12.out.size))
  have HR13 := Lib.hid (HR12.out.below hb)
  clear hb HS HR12
  have HS := Lib.hid (joined_any (HR13.out.first 3 (by decide)) (by decide) (by decide) (HV.out.below HB13.out))
  rw [show joinS (exT.take 3) = [115, 101, 116, 32, 116, 32, 40] from by decide] at HS
  have hjn : ((bsOf [115, 101, 116, 32, 116, 32, 40]).toList == [115, 101, 116, 32, 116, 32, 40]) = true := by rw [bs_eqs]; decide
  go_wp2_with fail
  refine HS.out.mono ?_
  rintro e w14 ⟨rfl, hb⟩
  have HB14 := Lib.hid (HB13.out.trans (hb.mono HB13.out.size))
  have HR14 := Lib.hid (HR13.out.below hb)
  clear hb HS HR13
  have eq1 : ∀ w, (Op.equalIn 10000 40 (.agg #[.int .i64 2, .int .i64 1]) (.agg #[.int .i64 2, .int .i64 1])).run Try.prog w = .ok true w := fun w => eq_two 2 1 2 1 w
  have eq2 : ∀ w, (Op.equalIn 10000 40 (.agg #[.int .i64 1, .int .i64 1]) (.agg #[.int .i64 1, .int .i64 1])).run Try.prog w = .ok true w := fun w => eq_two 1 1 1 1 w
  have HS := Lib.hid (line_any [97, 10, 98] 2 (by decide) w14)
  rw [show lineS [97, 10, 98] 2 = (2, 1) from by decide, show bsOf [97, 10, 98] = ⟨#[97, 10, 98]⟩ from rfl] at HS
  dsimp only at HS
  rw [show ((2 : Nat) : Int) = 2 from rfl, show ((1 : Nat) : Int) = 1 from rfl] at HS
  go_wp2_with fail
  refine HS.out.mono ?_
  rintro e w15 ⟨rfl, hb⟩
  have HB15 := Lib.hid (HB14.out.trans (hb.mono HB14.out.size))
  have HR15 := Lib.hid (HR14.out.below hb)
  clear hb HS HR14
  have HS := Lib.hid (line_any [] 5 (by decide) w15)
  rw [show lineS [] 5 = (1, 1) from by decide, show bsOf [] = ⟨#[]⟩ from rfl] at HS
  dsimp only at HS
  rw [show ((1 : Nat) : Int) = 1 from rfl] at HS
  go_wp2_with fail
  refine HS.out.mono ?_
  rintro e w16 ⟨rfl, hb⟩
  have HB16 := Lib.hid (HB15.out.trans (hb.mono HB15.out.size))
  have HR16 := Lib.hid (HR15.out.below hb)
  clear hb HS HR15
  go_wp2
  go_ret
  exact ⟨rfl, HB16.out⟩

end Go.Proofs.Ytohobiglnebocaa.Lx
