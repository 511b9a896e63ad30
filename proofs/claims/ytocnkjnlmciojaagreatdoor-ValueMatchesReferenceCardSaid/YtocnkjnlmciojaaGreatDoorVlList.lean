/-
  Lists of values in memory; their order.
-/
import Derived.Test.YtocnkjnlmciojaaGreatDoorVlBase
namespace Go.Proofs.YtocnkjnlmciojaaGreatDoor
open Go Go.RowKit Go.Shelf Go.ChangeShapes Go.WideShapes Go.ChangeAt

def sgI (a b : Int) : Int := if a < b then -1 else if b < a then 1 else 0
def sgS (a b : List UInt8) : Int := if a < b then -1 else if b < a then 1 else 0
def cmpV (a b : Vl) : Int := if sgI a.k b.k ≠ 0 then sgI a.k b.k else if sgI a.i b.i ≠ 0 then sgI a.i b.i else sgS a.s b.s

theorem cmpI_any (x y : Int) (w : World) : Calls Tryz.prog 64 #[.int .i64 x, .int .i64 y] w fun e w' => e = .returned (.int .i64 (sgI x y)) ∧ Below w.heap.size w w' :=
  (Tryz.cmp_Compare_int x y w).mono fun e w' ⟨he, hw⟩ => by
    refine ⟨?_, by rw [hw]; exact Below.self w⟩
    rw [he]; rfl

theorem nanS_any (s : ByteArray) (w : World) : Calls Tryz.prog 155 #[.string s] w fun e w' => e = .returned (.bool false) ∧ w = w' := by
  go_enter Tryz.func155, Tryz.ntmps155
  go_wp2
  go_ret
  exact ⟨rfl, rfl⟩
theorem cmpS_any (x y : List UInt8) (w : World) : Calls Tryz.prog 132 #[.string (bsOf x), .string (bsOf y)] w fun e w' => e = .returned (.int .i64 (sgS x y)) ∧ Below w.heap.size w w' := by
  have h1 := bs_less x y
  have h2 := bs_less y x
  have h3 := bs_same x y
  have HN := Lib.hid (fun (s : ByteArray) (w : World) => nanS_any s w)
  by_cases hl : x < y
  · have HS : Hid (sgS x y = -1) := if_pos hl
    rw [decide_eq_true hl] at h1
    generalize bsOf x = X at *
    generalize bsOf y = Y at *
    clear hl
    go_enter Tryz.func132, Tryz.ntmps132
    go_wp2_with (go_at_call 155; refine (HN.out _ _).mono ?_; rintro e w' ⟨rfl, rfl⟩)
    go_ret
    exact ⟨ret_int HS.out.symm, Below.self _⟩
  · rw [decide_eq_false hl] at h1
    by_cases hg : y < x
    · have HS : Hid (sgS x y = 1) := (if_neg hl).trans (if_pos hg)
      rw [decide_eq_true hg] at h2
      rw [decide_eq_false (fun e => hl (by subst e; exact hg))] at h3
      generalize bsOf x = X at *
      generalize bsOf y = Y at *
      clear hl hg
      go_enter Tryz.func132, Tryz.ntmps132
      go_wp2_with (go_at_call 155; refine (HN.out _ _).mono ?_; rintro e w' ⟨rfl, rfl⟩)
      go_ret
      exact ⟨ret_int HS.out.symm, Below.self _⟩
    · have HS : Hid (sgS x y = 0) := (if_neg hl).trans (if_neg hg)
      obtain rfl : x = y := List.le_antisymm (List.not_lt.1 hg) (List.not_lt.1 hl)
      clear h1 h2 h3
      have h2 := bs_less x x
      rw [decide_eq_false hg] at h2
      generalize bsOf x = X at *
      clear hl hg
      go_enter Tryz.func132, Tryz.ntmps132
      go_wp2_with (go_at_call 155; refine (HN.out _ _).mono ?_; rintro e w' ⟨rfl, rfl⟩)
      go_ret
      exact ⟨ret_int HS.out.symm, Below.self _⟩

theorem kindOf_any (k i : Int) (s : ByteArray) (w : World) : Calls Tryz.prog 93 #[.agg #[.int .i64 k, .int .i64 i, .string s]] w fun e w' => e = .returned (.int .i64 k) ∧ Below w.heap.size w w' := by
  go_enter Tryz.func93, Tryz.ntmps93
  go_wp2
  go_ret
  exact ⟨rfl, (Below.refl _ _).alloc (Nat.le_refl _) _⟩
theorem numberOf_any (k i : Int) (s : ByteArray) (w : World) : Calls Tryz.prog 94 #[.agg #[.int .i64 k, .int .i64 i, .string s]] w fun e w' => e = .returned (.int .i64 i) ∧ Below w.heap.size w w' := by
  go_enter Tryz.func94, Tryz.ntmps94
  go_wp2
  go_ret
  exact ⟨rfl, (Below.refl _ _).alloc (Nat.le_refl _) _⟩
theorem stringOf_any (k i : Int) (s : ByteArray) (w : World) : Calls Tryz.prog 96 #[.agg #[.int .i64 k, .int .i64 i, .string s]] w fun e w' => e = .returned (.string s) ∧ Below w.heap.size w w' := by
  go_enter Tryz.func96, Tryz.ntmps96
  go_wp2
  go_ret
  exact ⟨rfl, (Below.refl _ _).alloc (Nat.le_refl _) _⟩

theorem by_int (f : FuncId) (w : World) : Calls Tryz.prog 92 #[.func (.func f) #[] #[]] w fun e w' => e = .returned (.func (.func 130) #[] #[.pointer (some ⟨w.heap.size, 0, none⟩)]) ∧ (Boxed w' w.heap.size 87 (.func (.func f) #[] #[]) ∧ Below w.heap.size w w' ∧ w'.heap.size = w.heap.size + 1) := by
  go_enter Tryz.func92, Tryz.ntmps92
  go_wp2
  go_ret
  exact ⟨rfl, Boxed.new w _ _, (Below.refl _ _).alloc (Nat.le_refl _) _, by simp⟩
theorem by_string (f : FuncId) (w : World) : Calls Tryz.prog 95 #[.func (.func f) #[] #[]] w fun e w' => e = .returned (.func (.func 131) #[] #[.pointer (some ⟨w.heap.size, 0, none⟩)]) ∧ (Boxed w' w.heap.size 49 (.func (.func f) #[] #[]) ∧ Below w.heap.size w w' ∧ w'.heap.size = w.heap.size + 1) := by
  go_enter Tryz.func95, Tryz.ntmps95
  go_wp2
  go_ret
  exact ⟨rfl, Boxed.new w _ _, (Below.refl _ _).alloc (Nat.le_refl _) _, by simp⟩

set_option maxRecDepth 100000 in
set_option maxHeartbeats 1000000 in
theorem byK_any (B : Nat) (k i k' i' : Int) (s s' : List UInt8) (w : World) (hB : Boxed w B 87 (.func (.func 93) #[] #[])) :
    Calls Tryz.prog 130 #[.agg #[.int .i64 k, .int .i64 i, .string (bsOf s)], .agg #[.int .i64 k', .int .i64 i', .string (bsOf s')], .pointer (some ⟨B, 0, none⟩)] w fun e w' => e = .returned (.int .i64 (sgI k k')) ∧ Below w.heap.size w w' := by
  have hT := Trio.new w 45 (.int .i64 k) (.int .i64 i) (.string (bsOf s))
  have hb1 := (Below.refl w.heap.size w).alloc (Nat.le_refl _) (.cells #[.int .i64 k, .int .i64 i, .string (bsOf s)] 45)
  have hT1 := hT.below (V := (w.alloc (.cells #[.int .i64 k, .int .i64 i, .string (bsOf s)] 45)).alloc (.cells #[.int .i64 k', .int .i64 i', .string (bsOf s')] 45)) ((Below.refl (w.alloc (.cells #[.int .i64 k, .int .i64 i, .string (bsOf s)] 45)).heap.size _).alloc (Nat.le_refl _) _) hT.lt
  have hb2 := hb1.alloc (by simp) (.cells #[.int .i64 k', .int .i64 i', .string (bsOf s')] 45)
  have hT2 := Trio.new (w.alloc (.cells #[.int .i64 k, .int .i64 i, .string (bsOf s)] 45)) 45 (.int .i64 k') (.int .i64 i') (.string (bsOf s'))
  rw [World.size_alloc] at hT2
  have HX : Hid (Boxed _ B 87 (.func (.func 93) #[] #[])) := (hb2.block B hB.lt).trans hB
  have HT1 := Lib.hid hT1
  have HT2 := Lib.hid hT2
  have HB0 := Lib.hid hb2
  clear hT hT1 hT2 hb1 hb2 hB
  have HA : Hid (∀ (k i : Int) (s : ByteArray) (W : World), Calls Tryz.prog 93 #[.agg #[.int .i64 k, .int .i64 i, .string s]] W fun e w' => e = .returned (.int .i64 k) ∧ Below W.heap.size W w') := fun k i s W => kindOf_any k i s W
  have HC : Hid (∀ (W : World), Calls Tryz.prog 64 #[.int .i64 k, .int .i64 k'] W fun e w' => e = .returned (.int .i64 (sgI k k')) ∧ Below W.heap.size W w') := fun W => cmpI_any k k' W
  go_enter Tryz.func130, Tryz.ntmps130
  go_upto_region 1 with fail
  obtain ⟨S, hS⟩ : ∃ S, w.heap.size = S := ⟨_, rfl⟩
  rw [hS] at HT1 HT2 ⊢
  have HZ := Lib.hid hS
  clear hS
  generalize (w.alloc (.cells #[.int .i64 k, .int .i64 i, .string (bsOf s)] 45)).alloc (.cells #[.int .i64 k', .int .i64 i', .string (bsOf s')] 45) = V at *
  have K0 := fun d os => cell_regrown HT1.out.c0 d os
  have K1 := fun d os => cell_regrown HT1.out.c1 d os
  have K2 := fun d os => cell_regrown HT1.out.c2 d os
  have K3 := fun d os => cell_regrown HT2.out.c0 d os
  have K4 := fun d os => cell_regrown HT2.out.c1 d os
  have K5 := fun d os => cell_regrown HT2.out.c2 d os
  have K6 := fun d os => cell_regrown HX.out.cell d os
  rw [← HZ.out] at *
  refine wp_region_quiet_below (by kernel_rfl) (by kernel_rfl) ?_
  repeat (go_big_quiet_step (first
    | (go_at_call 93; with_reducible exact Calls.regrown_of (HA.out _ _ _ _))
    | (go_at_call 64; with_reducible exact Calls.regrown_of (HC.out _))))
  refine wpQuiet_nil ?_
  intro _ hw'
  obtain ⟨⟨dq, osq⟩, hw''⟩ := hw'
  subst hw''
  have HBQ : Hid (Below w.heap.size w (Go.Sort.grow (redrawn V dq) osq)) := HB0.out.trans ((below_regrown V dq osq).mono HB0.out.size)
  generalize Go.Sort.grow (redrawn V dq) osq = WQ at *
  go_wp2
  go_ret
  exact ⟨rfl, HBQ.out⟩

set_option maxRecDepth 100000 in
set_option maxHeartbeats 1000000 in
theorem byN_any (B : Nat) (k i k' i' : Int) (s s' : List UInt8) (w : World) (hB : Boxed w B 87 (.func (.func 94) #[] #[])) :
    Calls Tryz.prog 130 #[.agg #[.int .i64 k, .int .i64 i, .string (bsOf s)], .agg #[.int .i64 k', .int .i64 i', .string (bsOf s')], .pointer (some ⟨B, 0, none⟩)] w fun e w' => e = .returned (.int .i64 (sgI i i')) ∧ Below w.heap.size w w' := by
  have hT := Trio.new w 45 (.int .i64 k) (.int .i64 i) (.string (bsOf s))
  have hb1 := (Below.refl w.heap.size w).alloc (Nat.le_refl _) (.cells #[.int .i64 k, .int .i64 i, .string (bsOf s)] 45)
  have hT1 := hT.below (V := (w.alloc (.cells #[.int .i64 k, .int .i64 i, .string (bsOf s)] 45)).alloc (.cells #[.int .i64 k', .int .i64 i', .string (bsOf s')] 45)) ((Below.refl (w.alloc (.cells #[.int .i64 k, .int .i64 i, .string (bsOf s)] 45)).heap.size _).alloc (Nat.le_refl _) _) hT.lt
  have hb2 := hb1.alloc (by simp) (.cells #[.int .i64 k', .int .i64 i', .string (bsOf s')] 45)
  have hT2 := Trio.new (w.alloc (.cells #[.int .i64 k, .int .i64 i, .string (bsOf s)] 45)) 45 (.int .i64 k') (.int .i64 i') (.string (bsOf s'))
  rw [World.size_alloc] at hT2
  have HX : Hid (Boxed _ B 87 (.func (.func 94) #[] #[])) := (hb2.block B hB.lt).trans hB
  have HT1 := Lib.hid hT1
  have HT2 := Lib.hid hT2
  have HB0 := Lib.hid hb2
  clear hT hT1 hT2 hb1 hb2 hB
  have HA : Hid (∀ (k i : Int) (s : ByteArray) (W : World), Calls Tryz.prog 94 #[.agg #[.int .i64 k, .int .i64 i, .string s]] W fun e w' => e = .returned (.int .i64 i) ∧ Below W.heap.size W w') := fun k i s W => numberOf_any k i s W
  have HC : Hid (∀ (W : World), Calls Tryz.prog 64 #[.int .i64 i, .int .i64 i'] W fun e w' => e = .returned (.int .i64 (sgI i i')) ∧ Below W.heap.size W w') := fun W => cmpI_any i i' W
  go_enter Tryz.func130, Tryz.ntmps130
  go_upto_region 1 with fail
  obtain ⟨S, hS⟩ : ∃ S, w.heap.size = S := ⟨_, rfl⟩
  rw [hS] at HT1 HT2 ⊢
  have HZ := Lib.hid hS
  clear hS
  generalize (w.alloc (.cells #[.int .i64 k, .int .i64 i, .string (bsOf s)] 45)).alloc (.cells #[.int .i64 k', .int .i64 i', .string (bsOf s')] 45) = V at *
  have K0 := fun d os => cell_regrown HT1.out.c0 d os
  have K1 := fun d os => cell_regrown HT1.out.c1 d os
  have K2 := fun d os => cell_regrown HT1.out.c2 d os
  have K3 := fun d os => cell_regrown HT2.out.c0 d os
  have K4 := fun d os => cell_regrown HT2.out.c1 d os
  have K5 := fun d os => cell_regrown HT2.out.c2 d os
  have K6 := fun d os => cell_regrown HX.out.cell d os
  rw [← HZ.out] at *
  refine wp_region_quiet_below (by kernel_rfl) (by kernel_rfl) ?_
  repeat (go_big_quiet_step (first
    | (go_at_call 94; with_reducible exact Calls.regrown_of (HA.out _ _ _ _))
    | (go_at_call 64; with_reducible exact Calls.regrown_of (HC.out _))))
  refine wpQuiet_nil ?_
  intro _ hw'
  obtain ⟨⟨dq, osq⟩, hw''⟩ := hw'
  subst hw''
  have HBQ : Hid (Below w.heap.size w (Go.Sort.grow (redrawn V dq) osq)) := HB0.out.trans ((below_regrown V dq osq).mono HB0.out.size)
  generalize Go.Sort.grow (redrawn V dq) osq = WQ at *
  go_wp2
  go_ret
  exact ⟨rfl, HBQ.out⟩

set_option maxRecDepth 100000 in
set_option maxHeartbeats 1000000 in
theorem byS_any (B : Nat) (k i k' i' : Int) (s s' : List UInt8) (w : World) (hB : Boxed w B 49 (.func (.func 96) #[] #[])) :
    Calls Tryz.prog 131 #[.agg #[.int .i64 k, .int .i64 i, .string (bsOf s)], .agg #[.int .i64 k', .int .i64 i', .string (bsOf s')], .pointer (some ⟨B, 0, none⟩)] w fun e w' => e = .returned (.int .i64 (sgS s s')) ∧ Below w.heap.size w w' := by
  have hT := Trio.new w 45 (.int .i64 k) (.int .i64 i) (.string (bsOf s))
  have hb1 := (Below.refl w.heap.size w).alloc (Nat.le_refl _) (.cells #[.int .i64 k, .int .i64 i, .string (bsOf s)] 45)
  have hT1 := hT.below (V := (w.alloc (.cells #[.int .i64 k, .int .i64 i, .string (bsOf s)] 45)).alloc (.cells #[.int .i64 k', .int .i64 i', .string (bsOf s')] 45)) ((Below.refl (w.alloc (.cells #[.int .i64 k, .int .i64 i, .string (bsOf s)] 45)).heap.size _).alloc (Nat.le_refl _) _) hT.lt
  have hb2 := hb1.alloc (by simp) (.cells #[.int .i64 k', .int .i64 i', .string (bsOf s')] 45)
  have hT2 := Trio.new (w.alloc (.cells #[.int .i64 k, .int .i64 i, .string (bsOf s)] 45)) 45 (.int .i64 k') (.int .i64 i') (.string (bsOf s'))
  rw [World.size_alloc] at hT2
  have HX : Hid (Boxed _ B 49 (.func (.func 96) #[] #[])) := (hb2.block B hB.lt).trans hB
  have HT1 := Lib.hid hT1
  have HT2 := Lib.hid hT2
  have HB0 := Lib.hid hb2
  clear hT hT1 hT2 hb1 hb2 hB
  have HA : Hid (∀ (k i : Int) (s : ByteArray) (W : World), Calls Tryz.prog 96 #[.agg #[.int .i64 k, .int .i64 i, .string s]] W fun e w' => e = .returned (.string s) ∧ Below W.heap.size W w') := fun k i s W => stringOf_any k i s W
  have HC : Hid (∀ (W : World), Calls Tryz.prog 132 #[.string (bsOf s), .string (bsOf s')] W fun e w' => e = .returned (.int .i64 (sgS s s')) ∧ Below W.heap.size W w') := fun W => cmpS_any s s' W
  go_enter Tryz.func131, Tryz.ntmps131
  go_upto_region 1 with fail
  obtain ⟨S, hS⟩ : ∃ S, w.heap.size = S := ⟨_, rfl⟩
  rw [hS] at HT1 HT2 ⊢
  have HZ := Lib.hid hS
  clear hS
  generalize (w.alloc (.cells #[.int .i64 k, .int .i64 i, .string (bsOf s)] 45)).alloc (.cells #[.int .i64 k', .int .i64 i', .string (bsOf s')] 45) = V at *
  have K0 := fun d os => cell_regrown HT1.out.c0 d os
  have K1 := fun d os => cell_regrown HT1.out.c1 d os
  have K2 := fun d os => cell_regrown HT1.out.c2 d os
  have K3 := fun d os => cell_regrown HT2.out.c0 d os
  have K4 := fun d os => cell_regrown HT2.out.c1 d os
  have K5 := fun d os => cell_regrown HT2.out.c2 d os
  have K6 := fun d os => cell_regrown HX.out.cell d os
  rw [← HZ.out] at *
  refine wp_region_quiet_below (by kernel_rfl) (by kernel_rfl) ?_
  repeat (go_big_quiet_step (first
    | (go_at_call 96; with_reducible exact Calls.regrown_of (HA.out _ _ _ _))
    | (go_at_call 132; with_reducible exact Calls.regrown_of (HC.out _))))
  refine wpQuiet_nil ?_
  intro _ hw'
  obtain ⟨⟨dq, osq⟩, hw''⟩ := hw'
  subst hw''
  have HBQ : Hid (Below w.heap.size w (Go.Sort.grow (redrawn V dq) osq)) := HB0.out.trans ((below_regrown V dq osq).mono HB0.out.size)
  generalize Go.Sort.grow (redrawn V dq) osq = WQ at *
  go_wp2
  go_ret
  exact ⟨rfl, HBQ.out⟩

end Go.Proofs.YtocnkjnlmciojaaGreatDoor

namespace Go.Proofs.YtocnkjnlmciojaaGreatDoor
open Go Go.RowKit Go.Shelf Go.ChangeShapes Go.WideShapes Go.ChangeAt

set_option maxRecDepth 100000 in
set_option maxHeartbeats 1000000 in
theorem cmp_any (a b : Vl) (w : World) : Calls Tryz.prog 36 #[encV a, encV b] w fun e w' => e = .returned (.int .i64 (cmpV a b)) ∧ Below w.heap.size w w' := by
  obtain ⟨k, i, s⟩ := a
  obtain ⟨k', i', s'⟩ := b
  unfold encV
  dsimp only
  have HR : Hid (∀ z, z = cmpV ⟨k, i, s⟩ ⟨k', i', s'⟩ → Ending.returned (.int .i64 z) = .returned (.int .i64 (cmpV ⟨k, i, s⟩ ⟨k', i', s'⟩))) := fun z h => by rw [h]
  have hT := Trio.new w 45 (.int .i64 k) (.int .i64 i) (.string (bsOf s))
  have hb1 := (Below.refl w.heap.size w).alloc (Nat.le_refl _) (.cells #[.int .i64 k, .int .i64 i, .string (bsOf s)] 45)
  have hT1 := hT.below (V := (w.alloc (.cells #[.int .i64 k, .int .i64 i, .string (bsOf s)] 45)).alloc (.cells #[.int .i64 k', .int .i64 i', .string (bsOf s')] 45)) ((Below.refl (w.alloc (.cells #[.int .i64 k, .int .i64 i, .string (bsOf s)] 45)).heap.size _).alloc (Nat.le_refl _) _) hT.lt
  have hb2 := hb1.alloc (by simp) (.cells #[.int .i64 k', .int .i64 i', .string (bsOf s')] 45)
  have hT2 := Trio.new (w.alloc (.cells #[.int .i64 k, .int .i64 i, .string (bsOf s)] 45)) 45 (.int .i64 k') (.int .i64 i') (.string (bsOf s'))
  rw [World.size_alloc] at hT2
  have HT1 := Lib.hid hT1
  have HT2 := Lib.hid hT2
  have HB0 := Lib.hid hb2
  clear hT hT1 hT2 hb1 hb2
  go_enter Tryz.func36, Tryz.ntmps36
  go_wp2_with fail
  obtain ⟨S, hS⟩ : ∃ S, w.heap.size = S := ⟨_, rfl⟩
  rw [hS] at HT1 HT2 ⊢
  have HZ := Lib.hid hS
  clear hS
  generalize (w.alloc (.cells #[.int .i64 k, .int .i64 i, .string (bsOf s)] 45)).alloc (.cells #[.int .i64 k', .int .i64 i', .string (bsOf s')] 45) = V at *
  refine (by_int 93 V).mono ?_
  rintro e w1 ⟨rfl, hx, hb, hz⟩
  have HB1 := Lib.hid hb
  have HX1 := Lib.hid hx
  clear hb hx
  obtain ⟨S0, hS0⟩ : ∃ S, V.heap.size = S := ⟨_, rfl⟩
  rw [hS0] at HX1 hz ⊢
  go_wp2_with fail
  refine (by_int 94 w1).mono ?_
  rintro e w2 ⟨rfl, hx, hb, hz2⟩
  have HB2 : Hid (Below V.heap.size V w2) := HB1.out.trans (hb.mono HB1.out.size)
  have HX2 := Lib.hid hx
  have HX1 : Hid (Boxed w2 S0 _ _) := (hb.block _ HX1.out.lt).trans HX1.out
  clear hb hx HB1
  rw [hz] at HX2 hz2 ⊢
  go_wp2_with fail
  refine (by_string 96 w2).mono ?_
  rintro e w3 ⟨rfl, hx, hb, hz3⟩
  have HB3 : Hid (Below V.heap.size V w3) := HB2.out.trans (hb.mono HB2.out.size)
  have HX3 := Lib.hid hx
  have HX1 : Hid (Boxed w3 S0 _ _) := (hb.block _ HX1.out.lt).trans HX1.out
  have HX2 : Hid (Boxed w3 (S0 + 1) _ _) := (hb.block _ HX2.out.lt).trans HX2.out
  clear hb hx HB2
  rw [hz2] at HX3 ⊢
  clear hz hz2 hz3 hS0
  go_wp2_with fail
  have f0 : ∀ W, (Instr.index 89 (.agg #[Value.func (.func 130) #[] #[.pointer (some ⟨S0, 0, none⟩)], Value.func (.func 130) #[] #[.pointer (some ⟨S0 + 1, 0, none⟩)], Value.func (.func 131) #[] #[.pointer (some ⟨S0 + 1 + 1, 0, none⟩)]]) (.int .i64 0)).run Tryz.prog W = .ok (Value.func (.func 130) #[] #[.pointer (some ⟨S0, 0, none⟩)]) W := fun W => by kernel_rfl
  have f1 : ∀ W, (Instr.index 89 (.agg #[Value.func (.func 130) #[] #[.pointer (some ⟨S0, 0, none⟩)], Value.func (.func 130) #[] #[.pointer (some ⟨S0 + 1, 0, none⟩)], Value.func (.func 131) #[] #[.pointer (some ⟨S0 + 1 + 1, 0, none⟩)]]) (.int .i64 1)).run Tryz.prog W = .ok (Value.func (.func 130) #[] #[.pointer (some ⟨S0 + 1, 0, none⟩)]) W := fun W => by kernel_rfl
  have f2 : ∀ W, (Instr.index 89 (.agg #[Value.func (.func 130) #[] #[.pointer (some ⟨S0, 0, none⟩)], Value.func (.func 130) #[] #[.pointer (some ⟨S0 + 1, 0, none⟩)], Value.func (.func 131) #[] #[.pointer (some ⟨S0 + 1 + 1, 0, none⟩)]]) (.int .i64 2)).run Tryz.prog W = .ok (Value.func (.func 131) #[] #[.pointer (some ⟨S0 + 1 + 1, 0, none⟩)]) W := fun W => by kernel_rfl
  go_loopw [12] (fun j wr => ∃ m : Nat, m ≤ 3 ∧ j = .int .i64 m ∧ Hid (Below V.heap.size V wr ∧ (m ≥ 1 → sgI k k' = 0) ∧ (m ≥ 2 → sgI i i' = 0) ∧ (m ≥ 3 → sgS s s' = 0) ∧ Boxed wr S0 87 (.func (.func 93) #[] #[]) ∧ Boxed wr (S0 + 1) 87 (.func (.func 94) #[] #[]) ∧ Boxed wr (S0 + 1 + 1) 49 (.func (.func 96) #[] #[]))) (fun j _ => 3 - (intOf j).toNat)
  case atStart => exact ⟨0, by decide, rfl, HB3.out, fun h => absurd h (by decide), fun h => absurd h (by decide), fun h => absurd h (by decide), HX1.out, HX2.out, HX3.out⟩
  case round =>
    obtain ⟨m, hm, rfl, HI⟩ := hrel
    have q1 := HT1.out.below HI.out.1 HT1.out.lt
    have q2 := HT2.out.below HI.out.1 HT2.out.lt
    have c0 := q1.c0
    have c1 := q1.c1
    have c2 := q1.c2
    have d0 := q2.c0
    have d1 := q2.c1
    have d2 := q2.c2
    clear q1 q2
    rcases (by omega : m = 0 ∨ m = 1 ∨ m = 2 ∨ m = 3) with rfl | rfl | rfl | rfl
    · go_wp2_with fail
      refine (byK_any S0 k i k' i' s s' _ HI.out.2.2.2.2.1).mono ?_
      rintro e w4 ⟨rfl, hb⟩
      have HB4 : Hid (Below V.heap.size V w4) := HI.out.1.trans (hb.mono HI.out.1.size)
      have HX : Hid (Boxed w4 S0 _ _ ∧ Boxed w4 (S0 + 1) _ _ ∧ Boxed w4 (S0 + 1 + 1) _ _) := ⟨(hb.block _ HI.out.2.2.2.2.1.lt).trans HI.out.2.2.2.2.1, (hb.block _ HI.out.2.2.2.2.2.1.lt).trans HI.out.2.2.2.2.2.1, (hb.block _ HI.out.2.2.2.2.2.2.lt).trans HI.out.2.2.2.2.2.2⟩
      clear hb
      by_cases hz : sgI k k' = 0
      · have HZ0 := Lib.hid hz
        rw [hz]
        go_wp2
        go_roundw
        case rel => exact ⟨1, by decide, by go_num, HB4.out, fun _ => HZ0.out, fun h => absurd h (by decide), fun h => absurd h (by decide), HX.out⟩
        case measure => simp [intOf]
      · have HRR := HR.out (sgI k k') (by unfold cmpV; rw [if_pos hz])
        have hne : (sgI k k' != 0) = true := by simpa using hz
        generalize sgI k k' = z at *
        go_wp2
        go_ret
        exact ⟨HRR, HB0.out.trans (HB4.out.mono HB0.out.size)⟩
    · go_wp2_with fail
      refine (byN_any (S0 + 1) k i k' i' s s' _ HI.out.2.2.2.2.2.1).mono ?_
      rintro e w4 ⟨rfl, hb⟩
      have HB4 : Hid (Below V.heap.size V w4) := HI.out.1.trans (hb.mono HI.out.1.size)
      have HX : Hid (Boxed w4 S0 _ _ ∧ Boxed w4 (S0 + 1) _ _ ∧ Boxed w4 (S0 + 1 + 1) _ _) := ⟨(hb.block _ HI.out.2.2.2.2.1.lt).trans HI.out.2.2.2.2.1, (hb.block _ HI.out.2.2.2.2.2.1.lt).trans HI.out.2.2.2.2.2.1, (hb.block _ HI.out.2.2.2.2.2.2.lt).trans HI.out.2.2.2.2.2.2⟩
      have HK := Lib.hid (HI.out.2.1 (by decide))
      clear hb
      by_cases hz : sgI i i' = 0
      · have HZ0 := Lib.hid hz
        rw [hz]
        go_wp2
        go_roundw
        case rel => exact ⟨2, by decide, by go_num, HB4.out, fun _ => HK.out, fun _ => HZ0.out, fun h => absurd h (by decide), HX.out⟩
        case measure => simp [intOf]
      · have HRR := HR.out (sgI i i') (by unfold cmpV; rw [if_neg (by simp [HK.out]), if_pos hz])
        have hne : (sgI i i' != 0) = true := by simpa using hz
        generalize sgI i i' = z at *
        go_wp2
        go_ret
        exact ⟨HRR, HB0.out.trans (HB4.out.mono HB0.out.size)⟩
    · go_wp2_with fail
      refine (byS_any (S0 + 1 + 1) k i k' i' s s' _ HI.out.2.2.2.2.2.2).mono ?_
      rintro e w4 ⟨rfl, hb⟩
      have HB4 : Hid (Below V.heap.size V w4) := HI.out.1.trans (hb.mono HI.out.1.size)
      have HX : Hid (Boxed w4 S0 _ _ ∧ Boxed w4 (S0 + 1) _ _ ∧ Boxed w4 (S0 + 1 + 1) _ _) := ⟨(hb.block _ HI.out.2.2.2.2.1.lt).trans HI.out.2.2.2.2.1, (hb.block _ HI.out.2.2.2.2.2.1.lt).trans HI.out.2.2.2.2.2.1, (hb.block _ HI.out.2.2.2.2.2.2.lt).trans HI.out.2.2.2.2.2.2⟩
      have HK := Lib.hid (HI.out.2.1 (by decide))
      have HN := Lib.hid (HI.out.2.2.1 (by decide))
      clear hb
      by_cases hz : sgS s s' = 0
      · have HZ0 := Lib.hid hz
        rw [hz]
        go_wp2
        go_roundw
        case rel => exact ⟨3, by decide, by go_num, HB4.out, fun _ => HK.out, fun _ => HN.out, fun _ => HZ0.out, HX.out⟩
        case measure => simp [intOf]
      · have HRR := HR.out (sgS s s') (by unfold cmpV; rw [if_neg (by simp [HK.out]), if_neg (by simp [HN.out])])
        have hne : (sgS s s' != 0) = true := by simpa using hz
        generalize sgS s s' = z at *
        go_wp2
        go_ret
        exact ⟨HRR, HB0.out.trans (HB4.out.mono HB0.out.size)⟩
    · have HRR := HR.out 0 (by unfold cmpV; rw [if_neg (by simp [HI.out.2.1 (by decide)]), if_neg (by simp [HI.out.2.2.1 (by decide)]), HI.out.2.2.2.1 (by decide)])
      go_wp2
      go_ret
      exact ⟨HRR, HB0.out.trans (HI.out.1.mono HB0.out.size)⟩

end Go.Proofs.YtocnkjnlmciojaaGreatDoor

namespace Go.Proofs.YtocnkjnlmciojaaGreatDoor
open Go Go.RowKit Go.Shelf Go.ChangeShapes Go.WideShapes Go.ChangeAt

/-- The slice at a, of len elements and capacity cap, reads as the values vs, in one block that K names. -/
structure RdV (K : Nat → Prop) (W : World) (a : Option Addr) (len cap : Nat) (vs : List Vl) : Prop where
  hl : len = vs.length
  fit : len ≤ cap
  top : cap ≤ 9223372036854775807
  small : len ≤ 1099511627776
  cells : 0 < len → ∃ b off, a = some ⟨b, off, none⟩ ∧ K b ∧ b < W.heap.size ∧ ∀ j, j < len → W.cell? ⟨b, off + j * 3, none⟩ = some (.int .i64 (vs[j]?.getD Vl.null).k) ∧ W.cell? ⟨b, off + j * 3 + 1, none⟩ = some (.int .i64 (vs[j]?.getD Vl.null).i) ∧ W.cell? ⟨b, off + j * 3 + 2, none⟩ = some (.string (bsOf (vs[j]?.getD Vl.null).s))

theorem RdV.below {K : Nat → Prop} {A B : World} {a : Option Addr} {len cap : Nat} {vs : List Vl} (h : RdV K A a len cap vs) (hk : Below A.heap.size A B) : RdV K B a len cap vs :=
  ⟨h.hl, h.fit, h.top, h.small, fun h0 => by
    obtain ⟨b, off, e, hb, hlt, hc⟩ := h.cells h0
    exact ⟨b, off, e, hb, Nat.lt_of_lt_of_le hlt hk.size, fun j hj => ⟨(World.cell?_of_block (w := A) (hk.block b hlt)).trans (hc j hj).1, (World.cell?_of_block (w := A) (hk.block b hlt)).trans (hc j hj).2.1, (World.cell?_of_block (w := A) (hk.block b hlt)).trans (hc j hj).2.2⟩⟩⟩
theorem RdV.mono {K K' : Nat → Prop} {A : World} {a : Option Addr} {len cap : Nat} {vs : List Vl} (h : RdV K A a len cap vs) (hk : ∀ b, b < A.heap.size → K b → K' b) : RdV K' A a len cap vs :=
  ⟨h.hl, h.fit, h.top, h.small, fun h0 => by
    obtain ⟨b, off, e, hb, hlt, hc⟩ := h.cells h0
    exact ⟨b, off, e, hk b hlt hb, hlt, hc⟩⟩
theorem RdV.empty {K : Nat → Prop} {A : World} {a : Option Addr} : RdV K A a 0 0 [] := ⟨rfl, Nat.le_refl _, by decide, by decide, fun h => absurd h (by decide)⟩

/-! ### The order of lists -/

def cmpL : List Vl → List Vl → Int
  | [], [] => 0
  | [], _ :: _ => -1
  | _ :: _, [] => 1
  | a :: x, b :: y => if cmpV a b ≠ 0 then cmpV a b else cmpL x y

theorem drop_cons {vs : List Vl} {k : Nat} (h : k < vs.length) : vs.drop k = vs[k]?.getD Vl.null :: vs.drop (k + 1) := by
  rw [List.drop_eq_getElem_cons h, List.getElem?_eq_getElem h]; rfl
theorem cmpL_step {x y : List Vl} {k : Nat} (hx : k < x.length) (hy : k < y.length) (h : cmpV (x[k]?.getD Vl.null) (y[k]?.getD Vl.null) = 0) : cmpL (x.drop k) (y.drop k) = cmpL (x.drop (k + 1)) (y.drop (k + 1)) := by
  rw [drop_cons hx, drop_cons hy, cmpL, if_neg (by simp [h])]
theorem cmpL_ne {x y : List Vl} {k : Nat} (hx : k < x.length) (hy : k < y.length) (h : cmpV (x[k]?.getD Vl.null) (y[k]?.getD Vl.null) ≠ 0) : cmpL (x.drop k) (y.drop k) = cmpV (x[k]?.getD Vl.null) (y[k]?.getD Vl.null) := by
  rw [drop_cons hx, drop_cons hy, cmpL, if_pos h]
theorem cmpL_right {x y : List Vl} {k : Nat} (hx : k < x.length) (hy : y.length ≤ k) : cmpL (x.drop k) (y.drop k) = 1 := by
  rw [drop_cons hx, List.drop_eq_nil_of_le hy]; rfl
theorem cmpL_left {x y : List Vl} {k : Nat} (hx : x.length ≤ k) (hy : k < y.length) : cmpL (x.drop k) (y.drop k) = -1 := by
  rw [drop_cons hy, List.drop_eq_nil_of_le hx]; rfl
theorem cmpL_both {x y : List Vl} {k : Nat} (hx : x.length ≤ k) (hy : y.length ≤ k) : cmpL (x.drop k) (y.drop k) = 0 := by
  rw [List.drop_eq_nil_of_le hx, List.drop_eq_nil_of_le hy]; rfl

set_option maxRecDepth 100000 in
set_option maxHeartbeats 2000000 in
theorem compareFunc_any {K K' : Nat → Prop} {a a' : Option Addr} {len cap len' cap' : Nat} {x y : List Vl} {w : World} (hR : RdV K w a len cap x) (hR' : RdV K' w a' len' cap' y) :
    Calls Tryz.prog 108 #[.slice a len cap, .slice a' len' cap', .func (.func 36) #[] #[]] w fun e w' => e = .returned (.int .i64 (cmpL x y)) ∧ Below w.heap.size w w' := by
  have hfit := hR.fit
  have hsm := hR.small
  have hfit' := hR'.fit
  have hsm' := hR'.small
  have HL := Lib.hid hR.hl
  have HL' := Lib.hid hR'.hl
  have H := Lib.hid hR
  have H' := Lib.hid hR'
  clear hR hR'
  have HE : Hid (∀ z, z = cmpL x y → Ending.returned (.int .i64 z) = .returned (.int .i64 (cmpL x y))) := fun z h => by rw [h]
  go_enter Tryz.func108, Tryz.ntmps108
  go_wp2
  go_loopw [13] (fun i wr => ∃ k : Nat, k ≤ len ∧ i = .int .i64 k ∧ Hid (k ≤ len' ∧ cmpL x y = cmpL (x.drop k) (y.drop k) ∧ Below w.heap.size w wr)) (fun i _ => len - (intOf i).toNat)
  case atStart => exact ⟨0, Nat.zero_le _, rfl, Nat.zero_le _, rfl, Below.self w⟩
  case round =>
    obtain ⟨k, hk, rfl, HI⟩ := hrel
    by_cases hlt : k < len
    · obtain ⟨b, off, rfl, _, hb, hc⟩ := H.out.cells (by omega)
      obtain ⟨c0, c1, c2⟩ := hc k hlt
      have c0 := (HI.out.2.2.cell (p := ⟨b, off + k * 3, none⟩) hb).trans c0
      have c1 := (HI.out.2.2.cell (p := ⟨b, off + k * 3 + 1, none⟩) hb).trans c1
      have c2 := (HI.out.2.2.cell (p := ⟨b, off + k * 3 + 2, none⟩) hb).trans c2
      have hbr : b < wr.heap.size := Nat.lt_of_lt_of_le hb HI.out.2.2.size
      clear hc
      by_cases hlt' : k < len'
      · obtain ⟨b', off', rfl, _, hb', hc'⟩ := H'.out.cells (by omega)
        obtain ⟨d0, d1, d2⟩ := hc' k hlt'
        have d0 := (HI.out.2.2.cell (p := ⟨b', off' + k * 3, none⟩) hb').trans d0
        have d1 := (HI.out.2.2.cell (p := ⟨b', off' + k * 3 + 1, none⟩) hb').trans d1
        have d2 := (HI.out.2.2.cell (p := ⟨b', off' + k * 3 + 2, none⟩) hb').trans d2
        have hbr' : b' < wr.heap.size := Nat.lt_of_lt_of_le hb' HI.out.2.2.size
        clear hc'
        have HS : Hid (cmpV (x[k]?.getD Vl.null) (y[k]?.getD Vl.null) = 0 → cmpL (x.drop k) (y.drop k) = cmpL (x.drop (k + 1)) (y.drop (k + 1))) := cmpL_step (by rw [← HL.out]; exact hlt) (by rw [← HL'.out]; exact hlt')
        have HN : Hid (cmpV (x[k]?.getD Vl.null) (y[k]?.getD Vl.null) ≠ 0 → cmpL (x.drop k) (y.drop k) = cmpV (x[k]?.getD Vl.null) (y[k]?.getD Vl.null)) := cmpL_ne (by rw [← HL.out]; exact hlt) (by rw [← HL'.out]; exact hlt')
        generalize x[k]?.getD Vl.null = p at *
        generalize y[k]?.getD Vl.null = q at *
        have HC : Hid (∀ W, Calls Tryz.prog 36 #[.agg #[.int .i64 p.k, .int .i64 p.i, .string (bsOf p.s)], .agg #[.int .i64 q.k, .int .i64 q.i, .string (bsOf q.s)]] W fun e w' => e = .returned (.int .i64 (cmpV p q)) ∧ Below W.heap.size W w') := fun W => cmp_any p q W
        have hbA : Below wr.heap.size wr (wr.alloc (.cells #[.int .i64 p.k, .int .i64 p.i, .string (bsOf p.s)] 45)) := (Below.self wr).alloc (Nat.le_refl _) _
        have HBA : Hid (Below wr.heap.size wr ((wr.alloc (.cells #[.int .i64 p.k, .int .i64 p.i, .string (bsOf p.s)] 45)).alloc (.cells #[.int .i64 q.k, .int .i64 q.i, .string (bsOf q.s)] 45))) := hbA.alloc (by simp) _
        clear hbA
        go_wp2_with fail
        refine (HC.out _).mono ?_
        rintro e w4 ⟨rfl, hb4⟩
        have HB4 : Hid (Below w.heap.size w w4) := HI.out.2.2.trans ((HBA.out.trans (hb4.mono HBA.out.size)).mono HI.out.2.2.size)
        clear hb4 c0 c1 c2 d0 d1 d2 hbr hbr'
        by_cases hz : cmpV p q = 0
        · have HST := Lib.hid (HS.out hz)
          rw [hz]
          clear hz
          go_wp2
          go_roundw
          case rel => exact ⟨k + 1, by omega, by go_num, by omega, HI.out.2.1.trans HST.out, HB4.out⟩
          case measure => simp [intOf]; omega
        · have HRR := HE.out (cmpV p q) ((HI.out.2.1.trans (HN.out hz)).symm)
          have hne : (cmpV p q != 0) = true := by simpa using hz
          generalize cmpV p q = z at *
          go_wp2
          go_ret
          exact ⟨HRR, HB4.out⟩
      · have HRR := HE.out 1 ((HI.out.2.1.trans (cmpL_right (by rw [← HL.out]; exact hlt) (by rw [← HL'.out]; omega))).symm)
        have HBA : Hid (Below w.heap.size w (wr.alloc (.cells #[.int .i64 (x[k]?.getD Vl.null).k, .int .i64 (x[k]?.getD Vl.null).i, .string (bsOf (x[k]?.getD Vl.null).s)] 45))) := HI.out.2.2.alloc HI.out.2.2.size _
        generalize x[k]?.getD Vl.null = p at *
        go_wp2
        go_ret
        exact ⟨HRR, HBA.out⟩
    · obtain rfl : k = len := by omega
      by_cases hlt' : k < len'
      · have HRR := HE.out (-1) ((HI.out.2.1.trans (cmpL_left (by rw [← HL.out]; exact Nat.le_refl _) (by rw [← HL'.out]; exact hlt'))).symm)
        go_wp2
        go_ret
        exact ⟨HRR, HI.out.2.2⟩
      · have HRR := HE.out 0 ((HI.out.2.1.trans (cmpL_both (by rw [← HL.out]; exact Nat.le_refl _) (by rw [← HL'.out]; omega))).symm)
        go_wp2
        go_ret
        exact ⟨HRR, HI.out.2.2⟩

theorem cmpList_any {K K' : Nat → Prop} {a a' : Option Addr} {len cap len' cap' : Nat} {x y : List Vl} {w : World} (hR : RdV K w a len cap x) (hR' : RdV K' w a' len' cap' y) :
    Calls Tryz.prog 48 #[.slice a len cap, .slice a' len' cap'] w fun e w' => e = .returned (.int .i64 (cmpL x y)) ∧ Below w.heap.size w w' := by
  have HC := Lib.hid (compareFunc_any hR hR')
  clear hR hR'
  go_enter Tryz.func48, Tryz.ntmps48
  go_wp2_with fail
  refine HC.out.mono ?_
  rintro e w1 ⟨rfl, hb⟩
  go_wp2
  go_ret
  exact ⟨rfl, hb⟩

end Go.Proofs.YtocnkjnlmciojaaGreatDoor
