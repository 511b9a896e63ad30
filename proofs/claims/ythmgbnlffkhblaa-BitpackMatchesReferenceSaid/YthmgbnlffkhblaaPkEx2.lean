/-
  The fixed examples come out true.
-/
import Derived.Test.YthmgbnlffkhblaaPkEx
namespace Go.Proofs.Ythmgbnlffkhblaa
open Go.RowKit Go.Shelf Go.ChangeShapes Go.WideShapes Go.ChangeAt

/-- What a call on a literal gives back that makes a row of bytes. -/
def PK (w : World) (zs : List Int) (e : Ending) (W' : World) : Prop :=
  ∃ g c : Nat, e = .returned (.agg #[.slice (some ⟨g, 0, none⟩) zs.length c, .int .i64 0]) ∧ Rd (fun _ => True) W' .u8 (some ⟨g, 0, none⟩) zs.length c zs ∧ Below w.heap.size w W'

theorem smalls_of (zs : List Int) (h : (zs.all fun z => decide (-9223372036854775808 ≤ z) && decide (z ≤ 9223372036854775807)) = true) : Smalls zs := fun z hz => by
  have := List.all_eq_true.1 h z hz
  rw [Bool.and_eq_true] at this
  exact ⟨of_decide_eq_true this.1, of_decide_eq_true this.2⟩
theorem oct_of (zs : List Int) (h : (zs.all fun z => decide (0 ≤ z) && decide (z < 256)) = true) : Oct zs := fun z hz => by
  have := List.all_eq_true.1 h z hz
  rw [Bool.and_eq_true] at this
  exact ⟨of_decide_eq_true this.1, of_decide_eq_true this.2⟩

theorem pk536 (w : World) : Calls Try.prog 12 #[.slice (some ⟨w.heap.size, 0, none⟩) 3 3] (w.alloc (.cells #[.int .i64 5, .int .i64 3, .int .i64 6] 3)) (PK w [3, 6, 2, 50]) :=
  (packed_any (smalls_of [5, 3, 6] (by decide)) (by decide) (Rd.new w .i64 3 [5, 3, 6] 3 rfl (by decide))).mono fun e W' ⟨g, c, he, hR, hb⟩ => by
    rw [exP1] at he hR
    exact ⟨g, c, he, hR.mono (fun _ _ _ => trivial), ((Below.refl _ w).alloc (Nat.le_refl _) _).trans (hb.mono (by simp))⟩
theorem pk77 (w : World) : Calls Try.prog 12 #[.slice (some ⟨w.heap.size, 0, none⟩) 2 2] (w.alloc (.cells #[.int .i64 7, .int .i64 7] 3)) (PK w [2, 14, 0]) :=
  (packed_any (smalls_of [7, 7] (by decide)) (by decide) (Rd.new w .i64 3 [7, 7] 2 rfl (by decide))).mono fun e W' ⟨g, c, he, hR, hb⟩ => by
    rw [exP3] at he hR
    exact ⟨g, c, he, hR.mono (fun _ _ _ => trivial), ((Below.refl _ w).alloc (Nat.le_refl _) _).trans (hb.mono (by simp))⟩
theorem pk0 (w : World) : Calls Try.prog 12 #[.slice none 0 0] w (PK w [0]) :=
  (packed_any (smalls_of [] (by decide)) (by decide) (Rd.empty (K := fun _ => True))).mono fun e W' ⟨g, c, he, hR, hb⟩ => by
    rw [exP2] at he hR
    exact ⟨g, c, he, hR.mono (fun _ _ _ => trivial), hb⟩
def VK (w : World) (zs : List Int) (e : Ending) (W' : World) : Prop :=
  ∃ g c : Nat, e = .returned (.slice (some ⟨g, 0, none⟩) zs.length c) ∧ Rd (fun _ => True) W' .u8 (some ⟨g, 0, none⟩) zs.length c zs ∧ Below w.heap.size w W'
theorem vr300 (w : World) : Calls Try.prog 21 #[.slice none 0 0, .int .u64 300] w (VK w [172, 2]) :=
  (varint_nil 300 (by decide) w).mono fun e W' ⟨g, c, he, hf, hr, hb⟩ => by
    rw [exV] at he hf hr
    exact ⟨g, c, he, (Rd.of_row rfl hf (by decide) hr).mono (fun _ _ _ => trivial), hb⟩
theorem sz77 (w : World) : Calls Try.prog 15 #[.slice (some ⟨w.heap.size, 0, none⟩) 2 2] (w.alloc (.cells #[.int .i64 7, .int .i64 7] 3)) fun e W' => e = .returned (.int .i64 3) ∧ Below w.heap.size w W' :=
  (size_any (smalls_of [7, 7] (by decide)) (by decide) (Rd.new w .i64 3 [7, 7] 2 rfl (by decide))).mono fun e W' ⟨he, hb⟩ => by
    rw [exS] at he
    exact ⟨he, ((Below.refl _ w).alloc (Nat.le_refl _) _).trans (hb.mono (by simp))⟩
theorem same_3_6_2_50 {K : Nat → Prop} {V : World} {a : Option Addr} {cap : Nat} (h : Rd K V .u8 a 4 cap [3, 6, 2, 50]) (W : World) (hW : Below V.heap.size V W) (B : Nat) (hB : W.heap.size = B) :
    Calls Try.prog 14 #[.slice a 4 cap, .slice (some ⟨B, 0, none⟩) 4 4] (W.alloc (.cells #[.int .u8 3, .int .u8 6, .int .u8 2, .int .u8 50] 5)) fun e w' => e = .returned (.bool true) ∧ Below W.heap.size W w' := by
  subst hB
  exact (same_any (h.below (hW.alloc hW.size _)) (Rd.new W .u8 5 [3, 6, 2, 50] 4 rfl (by decide))).mono fun e w' ⟨he, hb⟩ => by
    rw [sameB_true rfl] at he
    exact ⟨he, ((Below.refl _ W).alloc (Nat.le_refl _) _).trans (hb.mono (by simp))⟩
theorem same_0 {K : Nat → Prop} {V : World} {a : Option Addr} {cap : Nat} (h : Rd K V .u8 a 1 cap [0]) (W : World) (hW : Below V.heap.size V W) :
    Calls Try.prog 14 #[.slice a 1 cap, .slice (some ⟨W.heap.size, 0, none⟩) 1 1] (W.alloc (.cells #[.int .u8 0] 5)) fun e w' => e = .returned (.bool true) ∧ Below W.heap.size W w' :=
  (same_any (h.below (hW.alloc hW.size _)) (Rd.new W .u8 5 [0] 1 rfl (by decide))).mono fun e w' ⟨he, hb⟩ => by
    rw [sameB_true rfl] at he
    exact ⟨he, ((Below.refl _ W).alloc (Nat.le_refl _) _).trans (hb.mono (by simp))⟩
theorem same_2_14_0 {K : Nat → Prop} {V : World} {a : Option Addr} {cap : Nat} (h : Rd K V .u8 a 3 cap [2, 14, 0]) (W : World) (hW : Below V.heap.size V W) :
    Calls Try.prog 14 #[.slice a 3 cap, .slice (some ⟨W.heap.size, 0, none⟩) 3 3] (W.alloc (.cells #[.int .u8 2, .int .u8 14, .int .u8 0] 5)) fun e w' => e = .returned (.bool true) ∧ Below W.heap.size W w' :=
  (same_any (h.below (hW.alloc hW.size _)) (Rd.new W .u8 5 [2, 14, 0] 3 rfl (by decide))).mono fun e w' ⟨he, hb⟩ => by
    rw [sameB_true rfl] at he
    exact ⟨he, ((Below.refl _ W).alloc (Nat.le_refl _) _).trans (hb.mono (by simp))⟩
theorem same_172_2 {K : Nat → Prop} {V : World} {a : Option Addr} {cap : Nat} (h : Rd K V .u8 a 2 cap [172, 2]) (W : World) (hW : Below V.heap.size V W) :
    Calls Try.prog 14 #[.slice a 2 cap, .slice (some ⟨W.heap.size, 0, none⟩) 2 2] (W.alloc (.cells #[.int .u8 172, .int .u8 2] 5)) fun e w' => e = .returned (.bool true) ∧ Below W.heap.size W w' :=
  (same_any (h.below (hW.alloc hW.size _)) (Rd.new W .u8 5 [172, 2] 2 rfl (by decide))).mono fun e w' ⟨he, hb⟩ => by
    rw [sameB_true rfl] at he
    exact ⟨he, ((Below.refl _ W).alloc (Nat.le_refl _) _).trans (hb.mono (by simp))⟩
theorem un114 (w : World) : Calls Try.prog 26 #[.slice (some ⟨w.heap.size, 0, none⟩) 4 4] (w.alloc (.cells #[.int .u8 3, .int .u8 6, .int .u8 2, .int .u8 114] 5)) fun e W' => e = .returned (.agg #[.int .u64 0, .slice none 0 0, .slice none 0 0, .int .i64 5]) ∧ Below w.heap.size w W' :=
  (unpacked_bad (oct_of [3, 6, 2, 114] (by decide)) (Rd.new w .u8 5 [3, 6, 2, 114] 4 rfl (by decide)) (by decide) exU2).mono fun e W' ⟨he, hb⟩ => ⟨he, ((Below.refl _ w).alloc (Nat.le_refl _) _).trans (hb.mono (by simp))⟩
theorem un362 (w : World) : Calls Try.prog 26 #[.slice (some ⟨w.heap.size, 0, none⟩) 3 3] (w.alloc (.cells #[.int .u8 3, .int .u8 6, .int .u8 2] 5)) fun e W' => e = .returned (.agg #[.int .u64 0, .slice none 0 0, .slice none 0 0, .int .i64 7]) ∧ Below w.heap.size w W' :=
  (unpacked_bad (oct_of [3, 6, 2] (by decide)) (Rd.new w .u8 5 [3, 6, 2] 3 rfl (by decide)) (by decide) exU3).mono fun e W' ⟨he, hb⟩ => ⟨he, ((Below.refl _ w).alloc (Nat.le_refl _) _).trans (hb.mono (by simp))⟩
theorem rd1280 (w : World) : Calls Try.prog 24 #[.slice (some ⟨w.heap.size, 0, none⟩) 2 2] (w.alloc (.cells #[.int .u8 128, .int .u8 0] 5)) fun e W' => e = .returned (.agg #[.int .u64 0, .slice none 0 0, .slice none 0 0, .int .i64 5]) ∧ Below w.heap.size w W' :=
  (lread_bad (oct_of [128, 0] (by decide)) (Rd.new w .u8 5 [128, 0] 2 rfl (by decide)) (by decide) exR1).mono fun e W' ⟨he, hb⟩ => ⟨he, ((Below.refl _ w).alloc (Nat.le_refl _) _).trans (hb.mono (by simp))⟩
theorem rd128 (w : World) : Calls Try.prog 24 #[.slice (some ⟨w.heap.size, 0, none⟩) 1 1] (w.alloc (.cells #[.int .u8 128] 5)) fun e W' => e = .returned (.agg #[.int .u64 0, .slice none 0 0, .slice none 0 0, .int .i64 7]) ∧ Below w.heap.size w W' :=
  (lread_bad (oct_of [128] (by decide)) (Rd.new w .u8 5 [128] 1 rfl (by decide)) (by decide) exR2).mono fun e W' ⟨he, hb⟩ => ⟨he, ((Below.refl _ w).alloc (Nat.le_refl _) _).trans (hb.mono (by simp))⟩
def UK (w : World) (e : Ending) (W' : World) : Prop :=
  ∃ a1 n1 a2 m, e = .returned (.agg #[.int .u64 0, .slice a1 n1 n1, .slice a2 m m, .int .i64 0]) ∧ Rd (fun _ => True) W' .i64 a1 n1 n1 [5, 3, 6] ∧ Rd (fun _ => True) W' .u8 a2 m m [9] ∧ Below w.heap.size w W'
theorem un50 (w : World) : Calls Try.prog 26 #[.slice (some ⟨w.heap.size, 0, none⟩) 5 5] (w.alloc (.cells #[.int .u8 3, .int .u8 6, .int .u8 2, .int .u8 50, .int .u8 9] 5)) (UK w) :=
  (unpacked_good (oct_of [3, 6, 2, 50, 9] (by decide)) (Rd.new w .u8 5 [3, 6, 2, 50, 9] 5 rfl (by decide)) exU1).mono fun e W' ⟨hb, a1, n1, a2, m, he, hR1, hR2⟩ =>
    ⟨a1, n1, a2, m, he, hR1.mono (fun _ _ _ => trivial), (hR2.below hb).mono (fun _ _ _ => trivial), ((Below.refl _ w).alloc (Nat.le_refl _) _).trans (hb.mono (by simp))⟩
theorem eq_lit {V : World} {a1 a2 : Option Addr} {n1 m : Nat} (h1 : Rd (fun _ => True) V .i64 a1 n1 n1 [5, 3, 6]) (h2 : Rd (fun _ => True) V .u8 a2 m m [9]) :
    Calls Try.prog 23 #[.agg #[.int .u64 0, .slice a1 n1 n1, .slice a2 m m, .int .i64 0], .agg #[.int .u64 0, .slice (some ⟨V.heap.size, 0, none⟩) 3 3, .slice (some ⟨V.heap.size + 1, 0, none⟩) 1 1, .int .i64 0]]
      ((V.alloc (.cells #[.int .i64 5, .int .i64 3, .int .i64 6] 3)).alloc (.cells #[.int .u8 9] 5)) fun e w' => e = .returned (.bool true) ∧ Below V.heap.size V w' := by
  have hb : Below V.heap.size V ((V.alloc (.cells #[.int .i64 5, .int .i64 3, .int .i64 6] 3)).alloc (.cells #[.int .u8 9] 5)) := ((Below.refl _ V).alloc (Nat.le_refl _) _).alloc (by simp) _
  have h3 := (Rd.new V .i64 3 [5, 3, 6] 3 rfl (by decide)).below ((Below.refl _ _).alloc (Nat.le_refl _) (.cells #[.int .u8 9] 5))
  have h4 := Rd.new (V.alloc (.cells #[.int .i64 5, .int .i64 3, .int .i64 6] 3)) .u8 5 [9] 1 rfl (by decide)
  simp only [World.size_alloc] at h4
  exact (equal_true 0 0 (h1.below hb) (h2.below hb) h3 h4).mono fun e w' ⟨he, hb2⟩ => ⟨he, hb.trans (hb2.mono hb.size)⟩

theorem fieldB (v e : Value) (W : World) : (Instr.field 28 (.agg #[v, e]) 0).run Try.prog W = .ok v W := by kernel_rfl
theorem fieldE (v e : Value) (W : World) : (Instr.field 28 (.agg #[v, e]) 1).run Try.prog W = .ok e W := by kernel_rfl
theorem fieldG (u l r e : Value) (W : World) : (Instr.field 37 (.agg #[u, l, r, e]) 3).run Try.prog W = .ok e W := by kernel_rfl

set_option maxRecDepth 100000 in
set_option maxHeartbeats 4000000 in
theorem examples_any (w : World) : Calls Try.prog 11 #[] w fun e W' => e = .returned (.bool true) ∧ Below w.heap.size w W' := by
  obtain ⟨i0, hi, hz0, hz1, hz2⟩ := info_parts Try.infoI
  have HB0 : Hid (Below w.heap.size w w) := Below.refl _ _
  have fB := fieldB
  have fE := fieldE
  have fG := fieldG
  go_enter Try.func11, Try.ntmps11
  go_wp2_with fail
  refine (pk536 _).mono ?_
  rintro e w1 ⟨g1, c1, rfl, hR1, hb1⟩
  have HR1 := Lib.hid hR1
  have HB1 : Hid (Below w.heap.size w w1) := by first | exact HB0.out.trans (hb1.mono HB0.out.size) | exact (HB0.out.alloc HB0.out.size _).trans (hb1.mono (by have := HB0.out.size; simp; omega))
  clear hR1 hb1
  go_wp2_with fail
  refine (same_3_6_2_50 HR1.out _ ((Below.refl _ _).alloc (Nat.le_refl _) _) _ (by simp)).mono ?_
  rintro e w2 ⟨rfl, hb2⟩
  have HB2 : Hid (Below w.heap.size w w2) := by first | exact HB1.out.trans (hb2.mono HB1.out.size) | exact (HB1.out.alloc HB1.out.size _).trans (hb2.mono (by have := HB1.out.size; simp; omega))
  clear hb2
  go_wp2_with fail
  refine (pk0 _).mono ?_
  rintro e w3 ⟨g3, c3, rfl, hR3, hb3⟩
  have HR3 := Lib.hid hR3
  have HB3 : Hid (Below w.heap.size w w3) := by first | exact HB2.out.trans (hb3.mono HB2.out.size) | exact (HB2.out.alloc HB2.out.size _).trans (hb3.mono (by have := HB2.out.size; simp; omega))
  clear hR3 hb3
  go_wp2_with fail
  refine (same_0 HR3.out _ (Below.refl _ _)).mono ?_
  rintro e w4 ⟨rfl, hb4⟩
  have HB4 : Hid (Below w.heap.size w w4) := by first | exact HB3.out.trans (hb4.mono HB3.out.size) | exact (HB3.out.alloc HB3.out.size _).trans (hb4.mono (by have := HB3.out.size; simp; omega))
  clear hb4
  go_wp2_with fail
  refine (pk77 _).mono ?_
  rintro e w5 ⟨g5, c5, rfl, hR5, hb5⟩
  have HR5 := Lib.hid hR5
  have HB5 : Hid (Below w.heap.size w w5) := by first | exact HB4.out.trans (hb5.mono HB4.out.size) | exact (HB4.out.alloc HB4.out.size _).trans (hb5.mono (by have := HB4.out.size; simp; omega))
  clear hR5 hb5
  go_wp2_with fail
  refine (same_2_14_0 HR5.out _ (Below.refl _ _)).mono ?_
  rintro e w6 ⟨rfl, hb6⟩
  have HB6 : Hid (Below w.heap.size w w6) := by first | exact HB5.out.trans (hb6.mono HB5.out.size) | exact (HB5.out.alloc HB5.out.size _).trans (hb6.mono (by have := HB5.out.size; simp; omega))
  clear hb6
  go_wp2_with fail
  refine (vr300 _).mono ?_
  rintro e w7 ⟨g7, c7, rfl, hR7, hb7⟩
  have HR7 := Lib.hid hR7
  have HB7 : Hid (Below w.heap.size w w7) := by first | exact HB6.out.trans (hb7.mono HB6.out.size) | exact (HB6.out.alloc HB6.out.size _).trans (hb7.mono (by have := HB6.out.size; simp; omega))
  clear hR7 hb7
  go_wp2_with fail
  refine (same_172_2 HR7.out _ (Below.refl _ _)).mono ?_
  rintro e w8 ⟨rfl, hb8⟩
  have HB8 : Hid (Below w.heap.size w w8) := by first | exact HB7.out.trans (hb8.mono HB7.out.size) | exact (HB7.out.alloc HB7.out.size _).trans (hb8.mono (by have := HB7.out.size; simp; omega))
  clear hb8
  go_wp2_with fail
  refine (zigzag_any (-1) (by constructor <;> decide) _).mono ?_
  rintro e w' ⟨rfl, rfl⟩
  rw [show zz (-1) = 1 from rfl]
  go_wp2_with fail
  refine (zigzag_any 1 (by constructor <;> decide) _).mono ?_
  rintro e w' ⟨rfl, rfl⟩
  rw [show zz (1) = 2 from rfl]
  go_wp2_with fail
  refine (zigzag_any (-64) (by constructor <;> decide) _).mono ?_
  rintro e w' ⟨rfl, rfl⟩
  rw [show zz (-64) = 127 from rfl]
  go_wp2_with fail
  refine (unzigzag_any 127 (by constructor <;> decide) _).mono ?_
  rintro e w' ⟨rfl, rfl⟩
  rw [show uz 127 = -64 from rfl]
  go_wp2_with fail
  refine (sz77 _).mono ?_
  rintro e w9 ⟨rfl, hb9⟩
  have HB9 : Hid (Below w.heap.size w w9) := HB8.out.trans (hb9.mono HB8.out.size)
  clear hb9
  go_wp2_with fail
  refine (un50 _).mono ?_
  rintro e w10 ⟨a1, n1, a2, m, rfl, hRl, hRr, hb10⟩
  have HRl := Lib.hid hRl
  have HRr := Lib.hid hRr
  have HB10 : Hid (Below w.heap.size w w10) := HB9.out.trans (hb10.mono HB9.out.size)
  clear hb10 hRl hRr
  go_wp2_with fail
  refine (eq_lit HRl.out HRr.out).mono ?_
  rintro e w11 ⟨rfl, hb11⟩
  have HB11 : Hid (Below w.heap.size w w11) := HB10.out.trans (hb11.mono HB10.out.size)
  clear hb11
  go_wp2_with fail
  refine (un114 _).mono ?_
  rintro e w12 ⟨rfl, hb12⟩
  have HB12 : Hid (Below w.heap.size w w12) := HB11.out.trans (hb12.mono HB11.out.size)
  clear hb12
  go_wp2_with fail
  refine (un362 _).mono ?_
  rintro e w13 ⟨rfl, hb13⟩
  have HB13 : Hid (Below w.heap.size w w13) := HB12.out.trans (hb13.mono HB12.out.size)
  clear hb13
  go_wp2_with fail
  refine (rd1280 _).mono ?_
  rintro e w14 ⟨rfl, hb14⟩
  have HB14 : Hid (Below w.heap.size w w14) := HB13.out.trans (hb14.mono HB13.out.size)
  clear hb14
  go_wp2_with fail
  refine (rd128 _).mono ?_
  rintro e w15 ⟨rfl, hb15⟩
  have HB15 : Hid (Below w.heap.size w w15) := HB14.out.trans (hb15.mono HB14.out.size)
  clear hb15
  have hmk : (Instr.makeSlice 22 (.int .i64 4097) (.int .i64 4097)).run Try.prog w15 = .ok (.slice (some ⟨w15.heap.size, 0, none⟩) 4097 4097) (w15.alloc (.cells (madeCells (Value.int .i64 0).cells (4097 * 1)) 3)) := by
    have := run_make (P := Try.prog) w15 22 3 i0 _ Try.underlying22 hi hz0 .i64 .i64 4097 4097 (by omega) (by omega) (by rw [hz2]; omega) (by omega)
    rw [hz1] at this
    exact this
  generalize madeCells (Value.int .i64 0).cells (4097 * 1) = mc at *
  go_wp2_with fail
  refine (packed_long _ 4097 _ (by decide) (by decide) _).mono ?_
  rintro e wz ⟨rfl, hbz⟩
  have HBz : Hid (Below w.heap.size w wz) := (HB15.out.alloc HB15.out.size _).trans (hbz.mono (by have := HB15.out.size; simp; omega))
  clear hbz
  go_wp2
  go_ret
  exact ⟨rfl, HBz.out⟩

end Go.Proofs.Ythmgbnlffkhblaa
