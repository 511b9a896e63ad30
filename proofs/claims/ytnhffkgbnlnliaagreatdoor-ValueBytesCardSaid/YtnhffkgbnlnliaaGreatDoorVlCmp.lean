/-
  The order of values.
-/
import Derived.Test.YtnhffkgbnlnliaaGreatDoorVlBase
namespace Go.Proofs.YtnhffkgbnlnliaaGreatDoor
open Go Go.RowKit Go.Shelf Go.ChangeShapes Go.WideShapes Go.ChangeAt

def sgI (a b : Int) : Int := if a < b then -1 else if b < a then 1 else 0
def sgS (a b : List UInt8) : Int := if a < b then -1 else if b < a then 1 else 0
def cmpV (a b : Vl) : Int := if sgI a.k b.k ≠ 0 then sgI a.k b.k else if sgI a.i b.i ≠ 0 then sgI a.i b.i else sgS a.s b.s

theorem cmpI_any (x y : Int) (w : World) : Calls Tryz.prog 77 #[.int .i64 x, .int .i64 y] w fun e w' => e = .returned (.int .i64 (sgI x y)) ∧ Below w.heap.size w w' :=
  (Tryz.cmp_Compare_int x y w).mono fun e w' ⟨he, hw⟩ => by
    refine ⟨?_, by rw [hw]; exact Below.self w⟩
    rw [he]; rfl

theorem nanS_any (s : ByteArray) (w : World) : Calls Tryz.prog 100 #[.string s] w fun e w' => e = .returned (.bool false) ∧ w = w' := by
  go_enter Tryz.func100, Tryz.ntmps100
  go_wp2
  go_ret
  exact ⟨rfl, rfl⟩
theorem cmpS_any (x y : List UInt8) (w : World) : Calls Tryz.prog 79 #[.string (bsOf x), .string (bsOf y)] w fun e w' => e = .returned (.int .i64 (sgS x y)) ∧ Below w.heap.size w w' := by
  have h1 := bs_less x y
  have h2 := bs_less y x
  have h3 := bs_same x y
  have HN := Lib.hid (fun (s : ByteArray) (w : World) => nanS_any s w)
  by_cases hl : x < y
  · have HS : Hid (sgS x y = -1) := if_pos hl
    rw [decide_eq_true hl] at h1
    generalize bsOf x = X at *
    generalize bsOf y = Y at *
    clear hl
    go_enter Tryz.func79, Tryz.ntmps79
    go_wp2_with (go_at_call 100; refine (HN.out _ _).mono ?_; rintro e w' ⟨rfl, rfl⟩)
    go_ret
    exact ⟨ret_int HS.out.symm, Below.self _⟩
  · rw [decide_eq_false hl] at h1
    by_cases hg : y < x
    · have HS : Hid (sgS x y = 1) := (if_neg hl).trans (if_pos hg)
      rw [decide_eq_true hg] at h2
      rw [decide_eq_false (fun e => hl (by subst e; exact hg))] at h3
      generalize bsOf x = X at *
      generalize bsOf y = Y at *
      clear hl hg
      go_enter Tryz.func79, Tryz.ntmps79
      go_wp2_with (go_at_call 100; refine (HN.out _ _).mono ?_; rintro e w' ⟨rfl, rfl⟩)
      go_ret
      exact ⟨ret_int HS.out.symm, Below.self _⟩
    · have HS : Hid (sgS x y = 0) := (if_neg hl).trans (if_neg hg)
      obtain rfl : x = y := List.le_antisymm (List.not_lt.1 hg) (List.not_lt.1 hl)
      clear h1 h2 h3
      have h2 := bs_less x x
      rw [decide_eq_false hg] at h2
      generalize bsOf x = X at *
      clear hl hg
      go_enter Tryz.func79, Tryz.ntmps79
      go_wp2_with (go_at_call 100; refine (HN.out _ _).mono ?_; rintro e w' ⟨rfl, rfl⟩)
      go_ret
      exact ⟨ret_int HS.out.symm, Below.self _⟩

theorem kindOf_any (k i : Int) (s : ByteArray) (w : World) : Calls Tryz.prog 49 #[.agg #[.int .i64 k, .int .i64 i, .string s]] w fun e w' => e = .returned (.int .i64 k) ∧ Below w.heap.size w w' := by
  go_enter Tryz.func49, Tryz.ntmps49
  go_wp2
  go_ret
  exact ⟨rfl, (Below.refl _ _).alloc (Nat.le_refl _) _⟩
theorem numberOf_any (k i : Int) (s : ByteArray) (w : World) : Calls Tryz.prog 50 #[.agg #[.int .i64 k, .int .i64 i, .string s]] w fun e w' => e = .returned (.int .i64 i) ∧ Below w.heap.size w w' := by
  go_enter Tryz.func50, Tryz.ntmps50
  go_wp2
  go_ret
  exact ⟨rfl, (Below.refl _ _).alloc (Nat.le_refl _) _⟩
theorem stringOf_any (k i : Int) (s : ByteArray) (w : World) : Calls Tryz.prog 52 #[.agg #[.int .i64 k, .int .i64 i, .string s]] w fun e w' => e = .returned (.string s) ∧ Below w.heap.size w w' := by
  go_enter Tryz.func52, Tryz.ntmps52
  go_wp2
  go_ret
  exact ⟨rfl, (Below.refl _ _).alloc (Nat.le_refl _) _⟩

theorem by_int (f : FuncId) (w : World) : Calls Tryz.prog 48 #[.func (.func f) #[] #[]] w fun e w' => e = .returned (.func (.func 76) #[] #[.pointer (some ⟨w.heap.size, 0, none⟩)]) ∧ (Boxed w' w.heap.size 59 (.func (.func f) #[] #[]) ∧ Below w.heap.size w w' ∧ w'.heap.size = w.heap.size + 1) := by
  go_enter Tryz.func48, Tryz.ntmps48
  go_wp2
  go_ret
  exact ⟨rfl, Boxed.new w _ _, (Below.refl _ _).alloc (Nat.le_refl _) _, by simp⟩
theorem by_string (f : FuncId) (w : World) : Calls Tryz.prog 51 #[.func (.func f) #[] #[]] w fun e w' => e = .returned (.func (.func 78) #[] #[.pointer (some ⟨w.heap.size, 0, none⟩)]) ∧ (Boxed w' w.heap.size 33 (.func (.func f) #[] #[]) ∧ Below w.heap.size w w' ∧ w'.heap.size = w.heap.size + 1) := by
  go_enter Tryz.func51, Tryz.ntmps51
  go_wp2
  go_ret
  exact ⟨rfl, Boxed.new w _ _, (Below.refl _ _).alloc (Nat.le_refl _) _, by simp⟩

set_option maxRecDepth 100000 in
set_option maxHeartbeats 1000000 in
theorem byK_any (B : Nat) (k i k' i' : Int) (s s' : List UInt8) (w : World) (hB : Boxed w B 59 (.func (.func 49) #[] #[])) :
    Calls Tryz.prog 76 #[.agg #[.int .i64 k, .int .i64 i, .string (bsOf s)], .agg #[.int .i64 k', .int .i64 i', .string (bsOf s')], .pointer (some ⟨B, 0, none⟩)] w fun e w' => e = .returned (.int .i64 (sgI k k')) ∧ Below w.heap.size w w' := by
  have hT := Trio.new w 29 (.int .i64 k) (.int .i64 i) (.string (bsOf s))
  have hb1 := (Below.refl w.heap.size w).alloc (Nat.le_refl _) (.cells #[.int .i64 k, .int .i64 i, .string (bsOf s)] 29)
  have hT1 := hT.below (V := (w.alloc (.cells #[.int .i64 k, .int .i64 i, .string (bsOf s)] 29)).alloc (.cells #[.int .i64 k', .int .i64 i', .string (bsOf s')] 29)) ((Below.refl (w.alloc (.cells #[.int .i64 k, .int .i64 i, .string (bsOf s)] 29)).heap.size _).alloc (Nat.le_refl _) _) hT.lt
  have hb2 := hb1.alloc (by simp) (.cells #[.int .i64 k', .int .i64 i', .string (bsOf s')] 29)
  have hT2 := Trio.new (w.alloc (.cells #[.int .i64 k, .int .i64 i, .string (bsOf s)] 29)) 29 (.int .i64 k') (.int .i64 i') (.string (bsOf s'))
  rw [World.size_alloc] at hT2
  have HX : Hid (Boxed _ B 59 (.func (.func 49) #[] #[])) := (hb2.block B hB.lt).trans hB
  have HT1 := Lib.hid hT1
  have HT2 := Lib.hid hT2
  have HB0 := Lib.hid hb2
  clear hT hT1 hT2 hb1 hb2 hB
  have HA : Hid (∀ (k i : Int) (s : ByteArray) (W : World), Calls Tryz.prog 49 #[.agg #[.int .i64 k, .int .i64 i, .string s]] W fun e w' => e = .returned (.int .i64 k) ∧ Below W.heap.size W w') := fun k i s W => kindOf_any k i s W
  have HC : Hid (∀ (W : World), Calls Tryz.prog 77 #[.int .i64 k, .int .i64 k'] W fun e w' => e = .returned (.int .i64 (sgI k k')) ∧ Below W.heap.size W w') := fun W => cmpI_any k k' W
  go_enter Tryz.func76, Tryz.ntmps76
  go_upto_region 1 with fail
  obtain ⟨S, hS⟩ : ∃ S, w.heap.size = S := ⟨_, rfl⟩
  rw [hS] at HT1 HT2 ⊢
  have HZ := Lib.hid hS
  clear hS
  generalize (w.alloc (.cells #[.int .i64 k, .int .i64 i, .string (bsOf s)] 29)).alloc (.cells #[.int .i64 k', .int .i64 i', .string (bsOf s')] 29) = V at *
  have K0 := fun d os => cell_regrown HT1.out.c0 d os
  have K1 := fun d os => cell_regrown HT1.out.c1 d os
  have K2 := fun d os => cell_regrown HT1.out.c2 d os
  have K3 := fun d os => cell_regrown HT2.out.c0 d os
  have K4 := fun d os => cell_regrown HT2.out.c1 d os
  have K5 := fun d os => cell_regrown HT2.out.c2 d os
  have K6 := fun d os => cell_regrown HX.out.cell d os
  rw [← HZ.out] at *
  refine wp_region_quiet_below (by kernel_rfl) (by kernel_rfl) ?_
  repeat (go_big_quiet_step (first
    | (go_at_call 49; with_reducible exact Calls.regrown_of (HA.out _ _ _ _))
    | (go_at_call 77; with_reducible exact Calls.regrown_of (HC.out _))))
  refine wpQuiet_nil ?_
  intro _ hw'
  obtain ⟨⟨dq, osq⟩, hw''⟩ := hw'
  subst hw''
  have HBQ : Hid (Below w.heap.size w (Go.Sort.grow (redrawn V dq) osq)) := HB0.out.trans ((below_regrown V dq osq).mono HB0.out.size)
  generalize Go.Sort.grow (redrawn V dq) osq = WQ at *
  go_wp2
  go_ret
  exact ⟨rfl, HBQ.out⟩

set_option maxRecDepth 100000 in
set_option maxHeartbeats 1000000 in
theorem byN_any (B : Nat) (k i k' i' : Int) (s s' : List UInt8) (w : World) (hB : Boxed w B 59 (.func (.func 50) #[] #[])) :
    Calls Tryz.prog 76 #[.agg #[.int .i64 k, .int .i64 i, .string (bsOf s)], .agg #[.int .i64 k', .int .i64 i', .string (bsOf s')], .pointer (some ⟨B, 0, none⟩)] w fun e w' => e = .returned (.int .i64 (sgI i i')) ∧ Below w.heap.size w w' := by
  have hT := Trio.new w 29 (.int .i64 k) (.int .i64 i) (.string (bsOf s))
  have hb1 := (Below.refl w.heap.size w).alloc (Nat.le_refl _) (.cells #[.int .i64 k, .int .i64 i, .string (bsOf s)] 29)
  have hT1 := hT.below (V := (w.alloc (.cells #[.int .i64 k, .int .i64 i, .string (bsOf s)] 29)).alloc (.cells #[.int .i64 k', .int .i64 i', .string (bsOf s')] 29)) ((Below.refl (w.alloc (.cells #[.int .i64 k, .int .i64 i, .string (bsOf s)] 29)).heap.size _).alloc (Nat.le_refl _) _) hT.lt
  have hb2 := hb1.alloc (by simp) (.cells #[.int .i64 k', .int .i64 i', .string (bsOf s')] 29)
  have hT2 := Trio.new (w.alloc (.cells #[.int .i64 k, .int .i64 i, .string (bsOf s)] 29)) 29 (.int .i64 k') (.int .i64 i') (.string (bsOf s'))
  rw [World.size_alloc] at hT2
  have HX : Hid (Boxed _ B 59 (.func (.func 50) #[] #[])) := (hb2.block B hB.lt).trans hB
  have HT1 := Lib.hid hT1
  have HT2 := Lib.hid hT2
  have HB0 := Lib.hid hb2
  clear hT hT1 hT2 hb1 hb2 hB
  have HA : Hid (∀ (k i : Int) (s : ByteArray) (W : World), Calls Tryz.prog 50 #[.agg #[.int .i64 k, .int .i64 i, .string s]] W fun e w' => e = .returned (.int .i64 i) ∧ Below W.heap.size W w') := fun k i s W => numberOf_any k i s W
  have HC : Hid (∀ (W : World), Calls Tryz.prog 77 #[.int .i64 i, .int .i64 i'] W fun e w' => e = .returned (.int .i64 (sgI i i')) ∧ Below W.heap.size W w') := fun W => cmpI_any i i' W
  go_enter Tryz.func76, Tryz.ntmps76
  go_upto_region 1 with fail
  obtain ⟨S, hS⟩ : ∃ S, w.heap.size = S := ⟨_, rfl⟩
  rw [hS] at HT1 HT2 ⊢
  have HZ := Lib.hid hS
  clear hS
  generalize (w.alloc (.cells #[.int .i64 k, .int .i64 i, .string (bsOf s)] 29)).alloc (.cells #[.int .i64 k', .int .i64 i', .string (bsOf s')] 29) = V at *
  have K0 := fun d os => cell_regrown HT1.out.c0 d os
  have K1 := fun d os => cell_regrown HT1.out.c1 d os
  have K2 := fun d os => cell_regrown HT1.out.c2 d os
  have K3 := fun d os => cell_regrown HT2.out.c0 d os
  have K4 := fun d os => cell_regrown HT2.out.c1 d os
  have K5 := fun d os => cell_regrown HT2.out.c2 d os
  have K6 := fun d os => cell_regrown HX.out.cell d os
  rw [← HZ.out] at *
  refine wp_region_quiet_below (by kernel_rfl) (by kernel_rfl) ?_
  repeat (go_big_quiet_step (first
    | (go_at_call 50; with_reducible exact Calls.regrown_of (HA.out _ _ _ _))
    | (go_at_call 77; with_reducible exact Calls.regrown_of (HC.out _))))
  refine wpQuiet_nil ?_
  intro _ hw'
  obtain ⟨⟨dq, osq⟩, hw''⟩ := hw'
  subst hw''
  have HBQ : Hid (Below w.heap.size w (Go.Sort.grow (redrawn V dq) osq)) := HB0.out.trans ((below_regrown V dq osq).mono HB0.out.size)
  generalize Go.Sort.grow (redrawn V dq) osq = WQ at *
  go_wp2
  go_ret
  exact ⟨rfl, HBQ.out⟩

set_option maxRecDepth 100000 in
set_option maxHeartbeats 1000000 in
theorem byS_any (B : Nat) (k i k' i' : Int) (s s' : List UInt8) (w : World) (hB : Boxed w B 33 (.func (.func 52) #[] #[])) :
    Calls Tryz.prog 78 #[.agg #[.int .i64 k, .int .i64 i, .string (bsOf s)], .agg #[.int .i64 k', .int .i64 i', .string (bsOf s')], .pointer (some ⟨B, 0, none⟩)] w fun e w' => e = .returned (.int .i64 (sgS s s')) ∧ Below w.heap.size w w' := by
  have hT := Trio.new w 29 (.int .i64 k) (.int .i64 i) (.string (bsOf s))
  have hb1 := (Below.refl w.heap.size w).alloc (Nat.le_refl _) (.cells #[.int .i64 k, .int .i64 i, .string (bsOf s)] 29)
  have hT1 := hT.below (V := (w.alloc (.cells #[.int .i64 k, .int .i64 i, .string (bsOf s)] 29)).alloc (.cells #[.int .i64 k', .int .i64 i', .string (bsOf s')] 29)) ((Below.refl (w.alloc (.cells #[.int .i64 k, .int .i64 i, .string (bsOf s)] 29)).heap.size _).alloc (Nat.le_refl _) _) hT.lt
  have hb2 := hb1.alloc (by simp) (.cells #[.int .i64 k', .int .i64 i', .string (bsOf s')] 29)
  have hT2 := Trio.new (w.alloc (.cells #[.int .i64 k, .int .i64 i, .string (bsOf s)] 29)) 29 (.int .i64 k') (.int .i64 i') (.string (bsOf s'))
  rw [World.size_alloc] at hT2
  have HX : Hid (Boxed _ B 33 (.func (.func 52) #[] #[])) := (hb2.block B hB.lt).trans hB
  have HT1 := Lib.hid hT1
  have HT2 := Lib.hid hT2
  have HB0 := Lib.hid hb2
  clear hT hT1 hT2 hb1 hb2 hB
  have HA : Hid (∀ (k i : Int) (s : ByteArray) (W : World), Calls Tryz.prog 52 #[.agg #[.int .i64 k, .int .i64 i, .string s]] W fun e w' => e = .returned (.string s) ∧ Below W.heap.size W w') := fun k i s W => stringOf_any k i s W
  have HC : Hid (∀ (W : World), Calls Tryz.prog 79 #[.string (bsOf s), .string (bsOf s')] W fun e w' => e = .returned (.int .i64 (sgS s s')) ∧ Below W.heap.size W w') := fun W => cmpS_any s s' W
  go_enter Tryz.func78, Tryz.ntmps78
  go_upto_region 1 with fail
  obtain ⟨S, hS⟩ : ∃ S, w.heap.size = S := ⟨_, rfl⟩
  rw [hS] at HT1 HT2 ⊢
  have HZ := Lib.hid hS
  clear hS
  generalize (w.alloc (.cells #[.int .i64 k, .int .i64 i, .string (bsOf s)] 29)).alloc (.cells #[.int .i64 k', .int .i64 i', .string (bsOf s')] 29) = V at *
  have K0 := fun d os => cell_regrown HT1.out.c0 d os
  have K1 := fun d os => cell_regrown HT1.out.c1 d os
  have K2 := fun d os => cell_regrown HT1.out.c2 d os
  have K3 := fun d os => cell_regrown HT2.out.c0 d os
  have K4 := fun d os => cell_regrown HT2.out.c1 d os
  have K5 := fun d os => cell_regrown HT2.out.c2 d os
  have K6 := fun d os => cell_regrown HX.out.cell d os
  rw [← HZ.out] at *
  refine wp_region_quiet_below (by kernel_rfl) (by kernel_rfl) ?_
  repeat (go_big_quiet_step (first
    | (go_at_call 52; with_reducible exact Calls.regrown_of (HA.out _ _ _ _))
    | (go_at_call 79; with_reducible exact Calls.regrown_of (HC.out _))))
  refine wpQuiet_nil ?_
  intro _ hw'
  obtain ⟨⟨dq, osq⟩, hw''⟩ := hw'
  subst hw''
  have HBQ : Hid (Below w.heap.size w (Go.Sort.grow (redrawn V dq) osq)) := HB0.out.trans ((below_regrown V dq osq).mono HB0.out.size)
  generalize Go.Sort.grow (redrawn V dq) osq = WQ at *
  go_wp2
  go_ret
  exact ⟨rfl, HBQ.out⟩

end Go.Proofs.YtnhffkgbnlnliaaGreatDoor
