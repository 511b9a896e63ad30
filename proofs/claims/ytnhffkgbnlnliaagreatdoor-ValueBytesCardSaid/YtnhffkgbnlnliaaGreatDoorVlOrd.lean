/-
  The order of values, and of lists of values.
-/
import Derived.Test.YtnhffkgbnlnliaaGreatDoorVlCmp
namespace Go.Proofs.YtnhffkgbnlnliaaGreatDoor
open Go Go.RowKit Go.Shelf Go.ChangeShapes Go.WideShapes Go.ChangeAt

set_option maxRecDepth 100000 in
set_option maxHeartbeats 1000000 in
theorem cmp_any (a b : Vl) (w : World) : Calls Tryz.prog 14 #[encV a, encV b] w fun e w' => e = .returned (.int .i64 (cmpV a b)) ∧ Below w.heap.size w w' := by
  obtain ⟨k, i, s⟩ := a
  obtain ⟨k', i', s'⟩ := b
  unfold encV
  dsimp only
  have HR : Hid (∀ z, z = cmpV ⟨k, i, s⟩ ⟨k', i', s'⟩ → Ending.returned (.int .i64 z) = .returned (.int .i64 (cmpV ⟨k, i, s⟩ ⟨k', i', s'⟩))) := fun z h => by rw [h]
  have hT := Trio.new w 29 (.int .i64 k) (.int .i64 i) (.string (bsOf s))
  have hb1 := (Below.refl w.heap.size w).alloc (Nat.le_refl _) (.cells #[.int .i64 k, .int .i64 i, .string (bsOf s)] 29)
  have hT1 := hT.below (V := (w.alloc (.cells #[.int .i64 k, .int .i64 i, .string (bsOf s)] 29)).alloc (.cells #[.int .i64 k', .int .i64 i', .string (bsOf s')] 29)) ((Below.refl (w.alloc (.cells #[.int .i64 k, .int .i64 i, .string (bsOf s)] 29)).heap.size _).alloc (Nat.le_refl _) _) hT.lt
  have hb2 := hb1.alloc (by simp) (.cells #[.int .i64 k', .int .i64 i', .string (bsOf s')] 29)
  have hT2 := Trio.new (w.alloc (.cells #[.int .i64 k, .int .i64 i, .string (bsOf s)] 29)) 29 (.int .i64 k') (.int .i64 i') (.string (bsOf s'))
  rw [World.size_alloc] at hT2
  have HT1 := Lib.hid hT1
  have HT2 := Lib.hid hT2
  have HB0 := Lib.hid hb2
  clear hT hT1 hT2 hb1 hb2
  go_enter Tryz.func14, Tryz.ntmps14
  go_wp2_with fail
  obtain ⟨S, hS⟩ : ∃ S, w.heap.size = S := ⟨_, rfl⟩
  rw [hS] at HT1 HT2 ⊢
  have HZ := Lib.hid hS
  clear hS
  generalize (w.alloc (.cells #[.int .i64 k, .int .i64 i, .string (bsOf s)] 29)).alloc (.cells #[.int .i64 k', .int .i64 i', .string (bsOf s')] 29) = V at *
  refine (by_int 49 V).mono ?_
  rintro e w1 ⟨rfl, hx, hb, hz⟩
  have HB1 := Lib.hid hb
  have HX1 := Lib.hid hx
  clear hb hx
  obtain ⟨S0, hS0⟩ : ∃ S, V.heap.size = S := ⟨_, rfl⟩
  rw [hS0] at HX1 hz ⊢
  go_wp2_with fail
  refine (by_int 50 w1).mono ?_
  rintro e w2 ⟨rfl, hx, hb, hz2⟩
  have HB2 : Hid (Below V.heap.size V w2) := HB1.out.trans (hb.mono HB1.out.size)
  have HX2 := Lib.hid hx
  have HX1 : Hid (Boxed w2 S0 _ _) := (hb.block _ HX1.out.lt).trans HX1.out
  clear hb hx HB1
  rw [hz] at HX2 hz2 ⊢
  go_wp2_with fail
  refine (by_string 52 w2).mono ?_
  rintro e w3 ⟨rfl, hx, hb, hz3⟩
  have HB3 : Hid (Below V.heap.size V w3) := HB2.out.trans (hb.mono HB2.out.size)
  have HX3 := Lib.hid hx
  have HX1 : Hid (Boxed w3 S0 _ _) := (hb.block _ HX1.out.lt).trans HX1.out
  have HX2 : Hid (Boxed w3 (S0 + 1) _ _) := (hb.block _ HX2.out.lt).trans HX2.out
  clear hb hx HB2
  rw [hz2] at HX3 ⊢
  clear hz hz2 hz3 hS0
  go_wp2_with fail
  have f0 : ∀ W, (Instr.index 61 (.agg #[Value.func (.func 76) #[] #[.pointer (some ⟨S0, 0, none⟩)], Value.func (.func 76) #[] #[.pointer (some ⟨S0 + 1, 0, none⟩)], Value.func (.func 78) #[] #[.pointer (some ⟨S0 + 1 + 1, 0, none⟩)]]) (.int .i64 0)).run Tryz.prog W = .ok (Value.func (.func 76) #[] #[.pointer (some ⟨S0, 0, none⟩)]) W := fun W => by kernel_rfl
  have f1 : ∀ W, (Instr.index 61 (.agg #[Value.func (.func 76) #[] #[.pointer (some ⟨S0, 0, none⟩)], Value.func (.func 76) #[] #[.pointer (some ⟨S0 + 1, 0, none⟩)], Value.func (.func 78) #[] #[.pointer (some ⟨S0 + 1 + 1, 0, none⟩)]]) (.int .i64 1)).run Tryz.prog W = .ok (Value.func (.func 76) #[] #[.pointer (some ⟨S0 + 1, 0, none⟩)]) W := fun W => by kernel_rfl
  have f2 : ∀ W, (Instr.index 61 (.agg #[Value.func (.func 76) #[] #[.pointer (some ⟨S0, 0, none⟩)], Value.func (.func 76) #[] #[.pointer (some ⟨S0 + 1, 0, none⟩)], Value.func (.func 78) #[] #[.pointer (some ⟨S0 + 1 + 1, 0, none⟩)]]) (.int .i64 2)).run Tryz.prog W = .ok (Value.func (.func 78) #[] #[.pointer (some ⟨S0 + 1 + 1, 0, none⟩)]) W := fun W => by kernel_rfl
  go_loopw [12] (fun j wr => ∃ m : Nat, m ≤ 3 ∧ j = .int .i64 m ∧ Hid (Below V.heap.size V wr ∧ (m ≥ 1 → sgI k k' = 0) ∧ (m ≥ 2 → sgI i i' = 0) ∧ (m ≥ 3 → sgS s s' = 0) ∧ Boxed wr S0 59 (.func (.func 49) #[] #[]) ∧ Boxed wr (S0 + 1) 59 (.func (.func 50) #[] #[]) ∧ Boxed wr (S0 + 1 + 1) 33 (.func (.func 52) #[] #[]))) (fun j _ => 3 - (intOf j).toNat)
  case atStart => exact ⟨0, by decide, rfl, HB3.out, fun h => absurd h (by decide), fun h => absurd h (by decide), fun h => absurd h (by decide), HX1.out, HX2.out, HX3.out⟩
  case round =>
    obtain ⟨m, hm, rfl, HI⟩ := hrel
    have q1 := HT1.out.below HI.out.1 HT1.out.lt
    have q2 := HT2.out.below HI.out.1 HT2.out.lt
    have c0 := q1.c0
    have c1 := q1.c1
    have c2 := q1.c2
    have d0 := q2.c0
    have d1 := q2.c1
    have d2 := q2.c2
    clear q1 q2
    rcases (by omega : m = 0 ∨ m = 1 ∨ m = 2 ∨ m = 3) with rfl | rfl | rfl | rfl
    · go_wp2_with fail
      refine (byK_any S0 k i k' i' s s' _ HI.out.2.2.2.2.1).mono ?_
      rintro e w4 ⟨rfl, hb⟩
      have HB4 : Hid (Below V.heap.size V w4) := HI.out.1.trans (hb.mono HI.out.1.size)
      have HX : Hid (Boxed w4 S0 _ _ ∧ Boxed w4 (S0 + 1) _ _ ∧ Boxed w4 (S0 + 1 + 1) _ _) := ⟨(hb.block _ HI.out.2.2.2.2.1.lt).trans HI.out.2.2.2.2.1, (hb.block _ HI.out.2.2.2.2.2.1.lt).trans HI.out.2.2.2.2.2.1, (hb.block _ HI.out.2.2.2.2.2.2.lt).trans HI.out.2.2.2.2.2.2⟩
      clear hb
      by_cases hz : sgI k k' = 0
      · have HZ0 := Lib.hid hz
        rw [hz]
        go_wp2
        go_roundw
        case rel => exact ⟨1, by decide, by go_num, HB4.out, fun _ => HZ0.out, fun h => absurd h (by decide), fun h => absurd h (by decide), HX.out⟩
        case measure => simp [intOf]
      · have HRR := HR.out (sgI k k') (by unfold cmpV; rw [if_pos hz])
        have hne : (sgI k k' != 0) = true := by simpa using hz
        generalize sgI k k' = z at *
        go_wp2
        go_ret
        exact ⟨HRR, HB0.out.trans (HB4.out.mono HB0.out.size)⟩
    · go_wp2_with fail
      refine (byN_any (S0 + 1) k i k' i' s s' _ HI.out.2.2.2.2.2.1).mono ?_
      rintro e w4 ⟨rfl, hb⟩
      have HB4 : Hid (Below V.heap.size V w4) := HI.out.1.trans (hb.mono HI.out.1.size)
      have HX : Hid (Boxed w4 S0 _ _ ∧ Boxed w4 (S0 + 1) _ _ ∧ Boxed w4 (S0 + 1 + 1) _ _) := ⟨(hb.block _ HI.out.2.2.2.2.1.lt).trans HI.out.2.2.2.2.1, (hb.block _ HI.out.2.2.2.2.2.1.lt).trans HI.out.2.2.2.2.2.1, (hb.block _ HI.out.2.2.2.2.2.2.lt).trans HI.out.2.2.2.2.2.2⟩
      have HK := Lib.hid (HI.out.2.1 (by decide))
      clear hb
      by_cases hz : sgI i i' = 0
      · have HZ0 := Lib.hid hz
        rw [hz]
        go_wp2
        go_roundw
        case rel => exact ⟨2, by decide, by go_num, HB4.out, fun _ => HK.out, fun _ => HZ0.out, fun h => absurd h (by decide), HX.out⟩
        case measure => simp [intOf]
      · have HRR := HR.out (sgI i i') (by unfold cmpV; rw [if_neg (by simp [HK.out]), if_pos hz])
        have hne : (sgI i i' != 0) = true := by simpa using hz
        generalize sgI i i' = z at *
        go_wp2
        go_ret
        exact ⟨HRR, HB0.out.trans (HB4.out.mono HB0.out.size)⟩
    · go_wp2_with fail
      refine (byS_any (S0 + 1 + 1) k i k' i' s s' _ HI.out.2.2.2.2.2.2).mono ?_
      rintro e w4 ⟨rfl, hb⟩
      have HB4 : Hid (Below V.heap.size V w4) := HI.out.1.trans (hb.mono HI.out.1.size)
      have HX : Hid (Boxed w4 S0 _ _ ∧ Boxed w4 (S0 + 1) _ _ ∧ Boxed w4 (S0 + 1 + 1) _ _) := ⟨(hb.block _ HI.out.2.2.2.2.1.lt).trans HI.out.2.2.2.2.1, (hb.block _ HI.out.2.2.2.2.2.1.lt).trans HI.out.2.2.2.2.2.1, (hb.block _ HI.out.2.2.2.2.2.2.lt).trans HI.out.2.2.2.2.2.2⟩
      have HK := Lib.hid (HI.out.2.1 (by decide))
      have HN := Lib.hid (HI.out.2.2.1 (by decide))
      clear hb
      by_cases hz : sgS s s' = 0
      · have HZ0 := Lib.hid hz
        rw [hz]
        go_wp2
        go_roundw
        case rel => exact ⟨3, by decide, by go_num, HB4.out, fun _ => HK.out, fun _ => HN.out, fun _ => HZ0.out, HX.out⟩
        case measure => simp [intOf]
      · have HRR := HR.out (sgS s s') (by unfold cmpV; rw [if_neg (by simp [HK.out]), if_neg (by simp [HN.out])])
        have hne : (sgS s s' != 0) = true := by simpa using hz
        generalize sgS s s' = z at *
        go_wp2
        go_ret
        exact ⟨HRR, HB0.out.trans (HB4.out.mono HB0.out.size)⟩
    · have HRR := HR.out 0 (by unfold cmpV; rw [if_neg (by simp [HI.out.2.1 (by decide)]), if_neg (by simp [HI.out.2.2.1 (by decide)]), HI.out.2.2.2.1 (by decide)])
      go_wp2
      go_ret
      exact ⟨HRR, HB0.out.trans (HI.out.1.mono HB0.out.size)⟩

end Go.Proofs.YtnhffkgbnlnliaaGreatDoor
