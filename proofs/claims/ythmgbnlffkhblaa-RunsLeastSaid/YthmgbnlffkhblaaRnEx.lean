/-
  The fixed examples come out true.
-/
import Derived.Test.YthmgbnlffkhblaaRnWrap
import Derived.Test.YthmgbnlffkhblaaRnSz
namespace Go.Proofs.Ythmgbnlffkhblaa
open Go.RowKit Go.Shelf Go.ChangeShapes Go.WideShapes Go.ChangeAt

theorem xenc (w : World) : Calls Try.prog 29 #[.slice none 0 0] w fun e W' => ∃ g c, e = .returned (.agg #[.slice (some ⟨g, 0, none⟩) 2 c, .int .i64 0]) ∧ Rd (fun _ => True) W' .u8 (some ⟨g, 0, none⟩) 2 c [0, 0] ∧ Below w.heap.size w W' :=
  (encoded_any (smalls_of4 [] (by decide)) (by decide) (Rd.empty (K := fun _ => True))).mono fun e W' ⟨g, n, c, he, hR, hb⟩ => by
    rw [xEn0] at hR
    obtain rfl : n = 2 := hR.hl
    exact ⟨g, c, he, hR.mono (fun _ _ _ => trivial), hb⟩
theorem xexp (w : World) (B : Nat) (hB : w.heap.size = B) : Calls Try.prog 31 #[.agg #[.slice (some ⟨B, 0, none⟩) 2 2, .slice (some ⟨B + 1, 0, none⟩) 2 2]] ((w.alloc (.cells #[.int .i64 7, .int .i64 2] 3)).alloc (.cells #[.int .i64 3, .int .i64 1] 3)) fun e W' =>
    ∃ a c, e = .returned (.agg #[.slice a 4 c, .int .i64 0]) ∧ Rd (fun _ => True) W' .i64 a 4 c [7, 7, 7, 2] ∧ Below w.heap.size w W' := by
  subst hB
  have h1 := (Rd.new w .i64 3 [7, 2] 2 rfl (by decide)).below ((Below.refl _ _).alloc (Nat.le_refl _) (.cells #[.int .i64 3, .int .i64 1] 3))
  have h2 := Rd.new (w.alloc (.cells #[.int .i64 7, .int .i64 2] 3)) .i64 3 [3, 1] 2 rfl (by decide)
  simp only [World.size_alloc] at h2
  have hb : Below w.heap.size w ((w.alloc (.cells #[.int .i64 7, .int .i64 2] 3)).alloc (.cells #[.int .i64 3, .int .i64 1] 3)) := ((Below.refl _ _).alloc (Nat.le_refl _) _).alloc (by simp) _
  refine (expanded_any (smalls_of4 [3, 1] (by decide)) h1 h2).mono ?_
  rintro e W' ⟨a, n, c, he, hR, hb2⟩
  rw [xX1] at he hR
  obtain rfl : n = 4 := hR.hl
  exact ⟨a, c, he, hR.mono (fun _ _ _ => trivial), hb.trans (hb2.mono hb.size)⟩
theorem xexp2 (w : World) (B : Nat) (hB : w.heap.size = B) : Calls Try.prog 31 #[.agg #[.slice (some ⟨B, 0, none⟩) 2 2, .slice (some ⟨B + 1, 0, none⟩) 2 2]] ((w.alloc (.cells #[.int .i64 1, .int .i64 1] 3)).alloc (.cells #[.int .i64 1, .int .i64 1] 3)) fun e W' =>
    ∃ a n c, e = .returned (.agg #[.slice a n c, .int .i64 1]) ∧ Below w.heap.size w W' := by
  subst hB
  have h1 := (Rd.new w .i64 3 [1, 1] 2 rfl (by decide)).below ((Below.refl _ _).alloc (Nat.le_refl _) (.cells #[.int .i64 1, .int .i64 1] 3))
  have h2 := Rd.new (w.alloc (.cells #[.int .i64 1, .int .i64 1] 3)) .i64 3 [1, 1] 2 rfl (by decide)
  simp only [World.size_alloc] at h2
  have hb : Below w.heap.size w ((w.alloc (.cells #[.int .i64 1, .int .i64 1] 3)).alloc (.cells #[.int .i64 1, .int .i64 1] 3)) := ((Below.refl _ _).alloc (Nat.le_refl _) _).alloc (by simp) _
  refine (expanded_any (smalls_of4 [1, 1] (by decide)) h1 h2).mono ?_
  rintro e W' ⟨a, n, c, he, hR, hb2⟩
  rw [xX2] at he
  exact ⟨a, n, c, he, hb.trans (hb2.mono hb.size)⟩
theorem xde0 (w : World) : Calls Try.prog 44 #[.slice none 0 0] w fun e W' => e = .returned (.agg #[.slice none 0 0, .slice none 0 0, .int .i64 7]) ∧ Below w.heap.size w W' :=
  decoded_bad (oct_of4 [] (by decide)) (Rd.empty (K := fun _ => True)) (by decide) xDe0
theorem xde4 (w : World) : Calls Try.prog 44 #[.slice (some ⟨w.heap.size, 0, none⟩) 1 1] (w.alloc (.cells #[.int .u8 4] 5)) fun e W' => e = .returned (.agg #[.slice none 0 0, .slice none 0 0, .int .i64 5]) ∧ Below w.heap.size w W' :=
  (decoded_bad (oct_of4 [4] (by decide)) (Rd.new w .u8 5 [4] 1 rfl (by decide)) (by decide) xDe4).mono fun e W' ⟨he, hb⟩ => ⟨he, ((Below.refl _ w).alloc (Nat.le_refl _) _).trans (hb.mono (by simp))⟩
theorem fieldL (a e : Value) (W : World) : (Instr.field 50 (.agg #[a, e]) 1).run Try.prog W = .ok e W := by kernel_rfl
theorem fieldG4 (l r e : Value) (W : World) : (Instr.field 58 (.agg #[l, r, e]) 2).run Try.prog W = .ok e W := by kernel_rfl

set_option maxRecDepth 100000 in
set_option maxHeartbeats 4000000 in
theorem examples4_any (w : World) : Calls Try.prog 28 #[] w fun e W' => e = .returned (.bool true) ∧ Below w.heap.size w W' := by
  obtain ⟨i0, hi, hz0, hz1, hz2⟩ := info_parts Try.infoN
  have fL := fieldL
  have fG := fieldG4
  go_enter Try.func28, Try.ntmps28
  go_wp2_with fail
  have HL := Lib.hid (Rd.new w .i64 3 [7, 7, 7, 2] 4 rfl (by decide))
  refine (xenc _).mono ?_
  rintro e w1 ⟨g1, c1, rfl, hR1, hb1⟩
  have HR1 := Lib.hid hR1
  have HL1 := Lib.hid (HL.out.below hb1)
  have HB1 : Hid (Below w.heap.size w w1) := ((Below.refl _ w).alloc (Nat.le_refl _) _).trans (hb1.mono (by simp))
  clear hR1 hb1 HL
  go_wp2
  have hE := Pair.new w1 47 (.slice (some ⟨g1, 0, none⟩) 2 c1) (.int .i64 0)
  have hsz : (w1.alloc (.cells #[.slice (some ⟨g1, 0, none⟩) 2 c1, .int .i64 0] 47)).heap.size = w1.heap.size + 1 := by simp
  have hbE : Below w1.heap.size w1 (w1.alloc (.cells #[.slice (some ⟨g1, 0, none⟩) 2 c1, .int .i64 0] 47)) := (Below.refl _ _).alloc (Nat.le_refl _) _
  have HR1 := Lib.hid (HR1.out.below hbE)
  have HL1 := Lib.hid (HL1.out.below hbE)
  have HB1 : Hid (Below w.heap.size w _) := HB1.out.trans (hbE.mono HB1.out.size)
  generalize w1.alloc (.cells #[.slice (some ⟨g1, 0, none⟩) 2 c1, .int .i64 0] 47) = V at *
  clear hbE
  have hrow0 := World.ownsRow_made V (base := V.heap.size) (e := 3) (size := 1) #[] 0 (Nat.le_refl _) (by decide) rfl
  obtain ⟨E, hEe⟩ : ∃ E, w1.heap.size = E := ⟨_, rfl⟩
  rw [hEe] at hE hsz ⊢
  rw [hsz] at hrow0
  have HE := Lib.hid hE
  have HROW := Lib.hid hrow0
  have HSZ := Lib.hid hsz
  clear hE hrow0 hEe hsz
  go_loopw [3, 4] (fun s i wr => ∃ k g c : Nat, k ≤ 100 ∧ i = .int .i64 ((k : Int) + 1) ∧ s = .slice (some ⟨g, 0, none⟩) k c ∧ Hid (wr.ownsRow (E + 1) 3 1 (.slice (some ⟨g, 0, none⟩) k c) k ((stepsL k).map (Value.int .i64))) ∧ Hid (Below V.heap.size V wr)) (fun _ i _ => 101 - (intOf i).toNat)
  case atStart => exact ⟨0, E + 1, 0, Nat.zero_le _, rfl, rfl, HROW, (Below.refl _ _).alloc (Nat.le_refl _) _⟩
  case round =>
    obtain ⟨k, g, c, hk, rfl, rfl, HRW, HBW⟩ := hrel
    by_cases hlt : k < 100
    · have hEs : E + 1 ≤ wr.heap.size := by have := HBW.out.size; rw [HSZ.out] at this; exact this
      obtain ⟨g2, c2, w2, hr2, hrow2, hg2, _, _⟩ := run_append_one (P := Try.prog) wr (E + 1) 22 22 3 i0 _ 8 .i64 Try.underlying22 hi hz0 hz1 hz2 rfl g k c _ HRW.out ((k : Int) + 1) 3 (by unfold maxLen; omega) (by omega) hEs
      have HR2 := Lib.hid hr2
      have HROW2 : Hid (w2.ownsRow (E + 1) 3 1 (.slice (some ⟨g2, 0, none⟩) (k + 1) c2) (k + 1) ((stepsL (k + 1)).map (Value.int .i64))) := by
        show w2.ownsRow _ _ _ _ _ _
        rw [steps_succ, List.map_append]
        exact hrow2
      have HB2 : Hid (Below V.heap.size V w2) := (HBW.out.alloc HBW.out.size _).grown hg2 (HBW.out.alloc HBW.out.size _).size (fun r e => by cases e; have := row_base HRW.out; rw [HSZ.out]; exact this)
      clear hr2 hrow2 hg2
      go_wp2_with (at_builtin; refine wpList_append_want (o := ⟨some 16, _, _, _, _, _⟩) _ rfl _ _ _ _ rfl _ _ rfl rfl _ _ HR2.out ?_)
      go_roundw
      case rel => exact ⟨k + 1, g2, c2, by omega, by go_num, rfl, HROW2, HB2⟩
      case measure => simp [intOf]; omega
    · obtain rfl : k = 100 := by omega
      have HST := Lib.hid (Rd.of_row (steps_length 100).symm (by obtain ⟨cur, _, h, _⟩ := row_block HRW.out; exact h) (by decide) HRW.out)
      have HE2 := Lib.hid (HE.out.below HBW.out HE.out.lt)
      have HR1 := Lib.hid (HR1.out.below HBW.out)
      have HL1 := Lib.hid (HL1.out.below HBW.out)
      have HB1 : Hid (Below w.heap.size w wr) := HB1.out.trans (HBW.out.mono HB1.out.size)
      clear HRW HBW HE
      go_wp2_with fail
      refine (xexp wr _ rfl).mono ?_
      rintro e w2 ⟨a2, c2, rfl, hR2, hb2⟩
      have HX := Lib.hid hR2
      have HST := Lib.hid (HST.out.below hb2)
      have HR1 := Lib.hid (HR1.out.below hb2)
      have HL1 := Lib.hid (HL1.out.below hb2)
      have HE2 := Lib.hid (HE2.out.below hb2 HE2.out.lt)
      have HB1 : Hid (Below w.heap.size w w2) := HB1.out.trans (hb2.mono HB1.out.size)
      clear hR2 hb2
      go_wp2_with fail
      have hbF : Below w2.heap.size w2 (w2.alloc (.cells #[.slice a2 4 c2, .int .i64 0] 50)) := (Below.refl _ _).alloc (Nat.le_refl _) _
      have HF := Lib.hid (Pair.new w2 50 (.slice a2 4 c2) (.int .i64 0))
      have HST := Lib.hid (HST.out.below hbF)
      have HR1 := Lib.hid (HR1.out.below hbF)
      have HL1 := Lib.hid (HL1.out.below hbF)
      have HX := Lib.hid (HX.out.below hbF)
      have HE2 := Lib.hid (HE2.out.below hbF HE2.out.lt)
      have HB1 : Hid (Below w.heap.size w _) := HB1.out.trans (hbF.mono HB1.out.size)
      obtain ⟨F, hFe⟩ : ∃ F, w2.heap.size = F := ⟨_, rfl⟩
      rw [hFe] at HF ⊢
      clear hbF hFe
      generalize w2.alloc (.cells #[.slice a2 4 c2, .int .i64 0] 50) = V2 at *
      refine (runsOf_any HL1.out (by decide)).mono ?_
      rintro e w3 ⟨a3, n3, c3, a4, n4, c4, rfl, hR3, hR4, hb3⟩
      rw [xV] at hR3
      rw [xN] at hR4
      have HV3 := Lib.hid hR3
      have HN3 := Lib.hid hR4
      have HST := Lib.hid (HST.out.below hb3)
      have HR1 := Lib.hid (HR1.out.below hb3)
      have HL1 := Lib.hid (HL1.out.below hb3)
      have HX := Lib.hid (HX.out.below hb3)
      have HE2 := Lib.hid (HE2.out.below hb3 HE2.out.lt)
      have HF := Lib.hid (HF.out.below hb3 HF.out.lt)
      have HB1 : Hid (Below w.heap.size w w3) := HB1.out.trans (hb3.mono HB1.out.size)
      clear hR3 hR4 hb3
      go_wp2_with fail
      have hbG : Below w3.heap.size w3 ((w3.alloc (.cells #[.int .i64 7, .int .i64 2] 3)).alloc (.cells #[.int .i64 3, .int .i64 1] 3)) := ((Below.refl _ _).alloc (Nat.le_refl _) _).alloc (by simp) _
      have g1' := (Rd.new w3 .i64 3 [7, 2] 2 rfl (by decide)).below ((Below.refl _ _).alloc (Nat.le_refl _) (.cells #[.int .i64 3, .int .i64 1] 3))
      have g2' := Rd.new (w3.alloc (.cells #[.int .i64 7, .int .i64 2] 3)) .i64 3 [3, 1] 2 rfl (by decide)
      simp only [World.size_alloc] at g2'
      refine (samePair_true (HV3.out.below hbG) (HN3.out.below hbG) g1' g2').mono ?_
      rintro e w4 ⟨rfl, hb4⟩
      have hb4' := hbG.trans (hb4.mono hbG.size)
      have HST := Lib.hid (HST.out.below hb4')
      have HR1 := Lib.hid (HR1.out.below hb4')
      have HL1 := Lib.hid (HL1.out.below hb4')
      have HX := Lib.hid (HX.out.below hb4')
      have HE2 := Lib.hid (HE2.out.below hb4' HE2.out.lt)
      have HF := Lib.hid (HF.out.below hb4' HF.out.lt)
      have HB1 : Hid (Below w.heap.size w w4) := HB1.out.trans (hb4'.mono HB1.out.size)
      have f0 := HF.out.c0
      have f1 := HF.out.c1
      clear hb4 hb4' hbG g1' g2' HV3 HN3
      go_wp2_with fail
      clear f0 f1
      refine (ints_any HX.out HL1.out).mono ?_
      rw [sameB_true rfl]
      rintro e w5 ⟨rfl, hb5⟩
      have HST := Lib.hid (HST.out.below hb5)
      have HR1 := Lib.hid (HR1.out.below hb5)
      have HL1 := Lib.hid (HL1.out.below hb5)
      have HE2 := Lib.hid (HE2.out.below hb5 HE2.out.lt)
      have HB1 : Hid (Below w.heap.size w w5) := HB1.out.trans (hb5.mono HB1.out.size)
      clear hb5 HX HF
      go_wp2_with fail
      refine (diff_any (smalls_of4 [7, 7, 7, 2] (by decide)) (by decide) HL1.out).mono ?_
      rintro e w6 ⟨a6, n6, c6, rfl, hR6, hb6⟩
      rw [xD] at hR6
      have HD6 := Lib.hid hR6
      have HST := Lib.hid (HST.out.below hb6)
      have HR1 := Lib.hid (HR1.out.below hb6)
      have HL1 := Lib.hid (HL1.out.below hb6)
      have HE2 := Lib.hid (HE2.out.below hb6 HE2.out.lt)
      have HB1 : Hid (Below w.heap.size w w6) := HB1.out.trans (hb6.mono HB1.out.size)
      clear hR6 hb6
      go_wp2_with fail
      have hbH : Below w6.heap.size w6 (w6.alloc (.cells #[.int .i64 7, .int .i64 0, .int .i64 0, .int .i64 (-5)] 3)) := (Below.refl _ _).alloc (Nat.le_refl _) _
      refine (ints_any (HD6.out.below hbH) (Rd.new w6 .i64 3 [7, 0, 0, -5] 4 rfl (by decide))).mono ?_
      rw [sameB_true rfl]
      rintro e w7 ⟨rfl, hb7⟩
      have hb7' := hbH.trans (hb7.mono hbH.size)
      have HST := Lib.hid (HST.out.below hb7')
      have HR1 := Lib.hid (HR1.out.below hb7')
      have HL1 := Lib.hid (HL1.out.below hb7')
      have HE2 := Lib.hid (HE2.out.below hb7' HE2.out.lt)
      have HB1 : Hid (Below w.heap.size w w7) := HB1.out.trans (hb7'.mono HB1.out.size)
      clear hb7 hb7' hbH HD6
      go_wp2_with fail
      have hbI : Below w7.heap.size w7 (w7.alloc (.cells #[.int .i64 7, .int .i64 0, .int .i64 0, .int .i64 (-5)] 3)) := (Below.refl _ _).alloc (Nat.le_refl _) _
      refine (sums_any (smalls_of4 [7, 0, 0, -5] (by decide)) (by decide) (Rd.new w7 .i64 3 [7, 0, 0, -5] 4 rfl (by decide))).mono ?_
      rintro e w8 ⟨a8, n8, c8, rfl, hR8, hb8⟩
      rw [xS] at hR8
      have HS8 := Lib.hid hR8
      have hb8' := hbI.trans (hb8.mono hbI.size)
      have HST := Lib.hid (HST.out.below hb8')
      have HR1 := Lib.hid (HR1.out.below hb8')
      have HL1 := Lib.hid (HL1.out.below hb8')
      have HE2 := Lib.hid (HE2.out.below hb8' HE2.out.lt)
      have HB1 : Hid (Below w.heap.size w w8) := HB1.out.trans (hb8'.mono HB1.out.size)
      clear hR8 hb8 hb8' hbI
      go_wp2_with fail
      refine (ints_any HS8.out HL1.out).mono ?_
      rw [sameB_true rfl]
      rintro e w9 ⟨rfl, hb9⟩
      have HST := Lib.hid (HST.out.below hb9)
      have HR1 := Lib.hid (HR1.out.below hb9)
      have HE2 := Lib.hid (HE2.out.below hb9 HE2.out.lt)
      have HB1 : Hid (Below w.heap.size w w9) := HB1.out.trans (hb9.mono HB1.out.size)
      have e0 := HE2.out.c0
      have e1 := HE2.out.c1
      clear hb9 HS8 HL1
      go_wp2_with fail
      clear e0 e1
      have hbJ : Below w9.heap.size w9 (w9.alloc (.cells #[.int .u8 0, .int .u8 0] 5)) := (Below.refl _ _).alloc (Nat.le_refl _) _
      refine (same_any (HR1.out.below hbJ) (Rd.new w9 .u8 5 [0, 0] 2 rfl (by decide))).mono ?_
      rw [sameB_true rfl]
      rintro e w10 ⟨rfl, hb10⟩
      have hb10' := hbJ.trans (hb10.mono hbJ.size)
      have HST := Lib.hid (HST.out.below hb10')
      have HB1 : Hid (Below w.heap.size w w10) := HB1.out.trans (hb10'.mono HB1.out.size)
      clear hb10 hb10' hbJ HR1 HE2
      go_wp2_with fail
      refine (kind_any (smalls_of4 _ (by decide +kernel)) (by decide) HST.out).mono ?_
      rw [xK100]
      rintro e w11 ⟨rfl, hb11⟩
      have HB1 : Hid (Below w.heap.size w w11) := HB1.out.trans (hb11.mono HB1.out.size)
      clear hb11 HST
      go_wp2_with fail
      refine (xexp2 w11 _ rfl).mono ?_
      rintro e w12 ⟨a12, n12, c12, rfl, hb12⟩
      have HB1 : Hid (Below w.heap.size w w12) := HB1.out.trans (hb12.mono HB1.out.size)
      clear hb12
      go_wp2_with fail
      refine (xde0 _).mono ?_
      rintro e w13 ⟨rfl, hb13⟩
      have HB1 : Hid (Below w.heap.size w w13) := HB1.out.trans (hb13.mono HB1.out.size)
      clear hb13
      go_wp2_with fail
      refine (xde4 _).mono ?_
      rintro e w14 ⟨rfl, hb14⟩
      have HB1 : Hid (Below w.heap.size w w14) := HB1.out.trans (hb14.mono HB1.out.size)
      clear hb14
      go_wp2
      go_ret
      exact ⟨rfl, HB1.out⟩

end Go.Proofs.Ythmgbnlffkhblaa
