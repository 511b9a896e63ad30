/-
  Valid and wide values.
-/
import Derived.Test.YtnhffkgbnlnliaaGreatDoorVlText
namespace Go.Proofs.YtnhffkgbnlnliaaGreatDoor
open Go Go.RowKit Go.Shelf Go.ChangeShapes Go.WideShapes Go.ChangeAt

theorem vld0 (i : Int) (s : List UInt8) : vldV ⟨0, i, s⟩ = decide (i = 0 ∧ s = []) := rfl
theorem vld1 (i : Int) (s : List UInt8) : vldV ⟨1, i, s⟩ = decide ((i = 0 ∨ i = 1) ∧ s = []) := rfl
theorem vld2 (i : Int) (s : List UInt8) : vldV ⟨2, i, s⟩ = (decide (s = []) && numB 1000000000000000 i) := rfl
theorem vld3 (i : Int) (s : List UInt8) : vldV ⟨3, i, s⟩ = (decide (i = 0) && txtB s) := rfl
theorem vld9 {k : Int} (i : Int) (s : List UInt8) (h0 : k ≠ 0) (h1 : k ≠ 1) (h2 : k ≠ 2) (h3 : k ≠ 3) : vldV ⟨k, i, s⟩ = false := by simp [vldV, h0, h1, h2, h3]

set_option maxRecDepth 100000 in
set_option maxHeartbeats 1000000 in
theorem valid0 (i : Int) (s : List UInt8) (w : World) : Calls Tryz.prog 8 #[.agg #[.int .i64 0, .int .i64 i, .string (bsOf s)]] w fun e w' => e = .returned (.bool (vldV ⟨0, i, s⟩)) ∧ Below w.heap.size w w' := by
  have hbl := bs_list s
  have hb0 : (⟨#[]⟩ : ByteArray).toList = [] := bs_list []
  by_cases h0 : i = 0
  · subst h0
    rcases s with _ | ⟨c, r⟩
    · go_enter Tryz.func8, Tryz.ntmps8
      go_wp2
      go_ret
      exact ⟨rfl, (Below.refl _ _).alloc (Nat.le_refl _) _⟩
    · have HV : Hid (vldV ⟨0, 0, c :: r⟩ = false) := by show _ = _; rw [vld0]; simp
      go_enter Tryz.func8, Tryz.ntmps8
      go_wp2
      go_ret
      exact ⟨ret_bool HV.out.symm, (Below.refl _ _).alloc (Nat.le_refl _) _⟩
  · have HV : Hid (vldV ⟨0, i, s⟩ = false) := by show _ = _; rw [vld0]; simp [h0]
    have hi : (i == 0) = false := by simpa using h0
    go_enter Tryz.func8, Tryz.ntmps8
    go_wp2
    go_ret
    exact ⟨ret_bool HV.out.symm, (Below.refl _ _).alloc (Nat.le_refl _) _⟩


set_option maxRecDepth 100000 in
set_option maxHeartbeats 1000000 in
theorem valid1 (i : Int) (s : List UInt8) (w : World) : Calls Tryz.prog 8 #[.agg #[.int .i64 1, .int .i64 i, .string (bsOf s)]] w fun e w' => e = .returned (.bool (vldV ⟨1, i, s⟩)) ∧ Below w.heap.size w w' := by
  have hbl := bs_list s
  have hb0 : (⟨#[]⟩ : ByteArray).toList = [] := bs_list []
  have HV : Hid (vldV ⟨1, i, s⟩ = decide ((i = 0 ∨ i = 1) ∧ s = [])) := vld1 i s
  have HB0 := Lib.hid ((Below.refl w.heap.size w).alloc (Nat.le_refl _) (.cells #[.int .i64 1, .int .i64 i, .string (bsOf s)] 29))
  have HT := Lib.hid (Trio.new w 29 (.int .i64 1) (.int .i64 i) (.string (bsOf s)))
  have HC : Hid (∀ (n : Int) (W : World), Calls Tryz.prog 39 #[.int .i64 n] W fun e w' => e = .returned (.agg #[.int .i64 1, .int .i64 n, .string ⟨#[]⟩]) ∧ Below W.heap.size W w') := fun n W => bool_any n W
  go_enter Tryz.func8, Tryz.ntmps8
  go_upto_region 5 with fail
  obtain ⟨B, hB⟩ : ∃ B, w.heap.size = B := ⟨_, rfl⟩
  rw [hB] at HT ⊢
  have HZ := Lib.hid hB
  clear hB
  generalize w.alloc (.cells #[.int .i64 1, .int .i64 i, .string (bsOf s)] 29) = V at *
  have K0 := fun d os => cell_regrown HT.out.c0 d os
  have K1 := fun d os => cell_regrown HT.out.c1 d os
  have K2 := fun d os => cell_regrown HT.out.c2 d os
  have hi01 : i = 0 ∨ i = 1 ∨ (i ≠ 0 ∧ i ≠ 1) := by omega
  have fin : ∀ (x : Bool) (W : World), Below V.heap.size V W → x = decide ((i = 0 ∨ i = 1) ∧ s = []) → Ending.returned (.bool x) = .returned (.bool (vldV ⟨1, i, s⟩)) ∧ Below w.heap.size w W := fun x W hb hx => ⟨by rw [HV.out, hx], HB0.out.trans (hb.mono HB0.out.size)⟩
  have HF := Lib.hid fin
  clear fin HB0 HV
  rw [← HZ.out] at *
  rcases hi01 with h | h | ⟨h, h'⟩
  · subst h
    rcases s with _ | ⟨c, r⟩
    all_goals
      refine wp_region_quiet_below (by kernel_rfl) (by kernel_rfl) ?_
      repeat (go_big_quiet_step (first
        | (go_at_call 39; with_reducible exact Calls.regrown_of (HC.out _ _))))
      refine wpQuiet_nil ?_
      intro _ hw'
      obtain ⟨⟨dq, osq⟩, hw''⟩ := hw'
      subst hw''
      have HBQ := Lib.hid (below_regrown V dq osq)
      generalize Go.Sort.grow (redrawn V dq) osq = WQ at *
      go_wp2
      go_ret
      exact HF.out _ _ HBQ.out (by simp)
  · subst h
    rcases s with _ | ⟨c, r⟩
    all_goals
      refine wp_region_quiet_below (by kernel_rfl) (by kernel_rfl) ?_
      repeat (go_big_quiet_step (first
        | (go_at_call 39; with_reducible exact Calls.regrown_of (HC.out _ _))))
      refine wpQuiet_nil ?_
      intro _ hw'
      obtain ⟨⟨dq, osq⟩, hw''⟩ := hw'
      subst hw''
      have HBQ := Lib.hid (below_regrown V dq osq)
      generalize Go.Sort.grow (redrawn V dq) osq = WQ at *
      go_wp2
      go_ret
      exact HF.out _ _ HBQ.out (by simp)
  · have h0 : (i == 0) = false := by simpa using h
    have h1 : (i == 1) = false := by simpa using h'
    refine wp_region_quiet_below (by kernel_rfl) (by kernel_rfl) ?_
    repeat (go_big_quiet_step (first
      | (go_at_call 39; with_reducible exact Calls.regrown_of (HC.out _ _))))
    refine wpQuiet_nil ?_
    intro _ hw'
    obtain ⟨⟨dq, osq⟩, hw''⟩ := hw'
    subst hw''
    have HBQ := Lib.hid (below_regrown V dq osq)
    generalize Go.Sort.grow (redrawn V dq) osq = WQ at *
    go_wp2
    go_ret
    exact HF.out _ _ HBQ.out (by simp [h, h'])


set_option maxRecDepth 100000 in
set_option maxHeartbeats 1000000 in
theorem valid2 (i : Int) (s : List UInt8) (hi : I64 i) (hs : s.length ≤ 1048576) (w : World) : Calls Tryz.prog 8 #[.agg #[.int .i64 2, .int .i64 i, .string (bsOf s)]] w fun e w' => e = .returned (.bool (vldV ⟨2, i, s⟩)) ∧ Below w.heap.size w w' := by
  have hbl := bs_list s
  have hb0 : (⟨#[]⟩ : ByteArray).toList = [] := bs_list []
  have HV : Hid (vldV ⟨2, i, s⟩ = (decide (s = []) && numB 1000000000000000 i)) := vld2 i s
  have HB0 := Lib.hid ((Below.refl w.heap.size w).alloc (Nat.le_refl _) (.cells #[.int .i64 2, .int .i64 i, .string (bsOf s)] 29))
  have HT := Lib.hid (Trio.new w 29 (.int .i64 2) (.int .i64 i) (.string (bsOf s)))
  have HC : Hid (∀ (n : Int) (W : World), Calls Tryz.prog 40 #[.int .i64 n] W fun e w' => e = .returned (.agg #[.int .i64 2, .int .i64 n, .string ⟨#[]⟩]) ∧ Below W.heap.size W w') := fun n W => num_any n W
  have HD : Hid (∀ (W : World), Calls Tryz.prog 41 #[.int .i64 i] W fun e w' => e = .returned (.bool (numB 1000000000000000 i)) ∧ Below W.heap.size W w') := fun W => (De.valid_any i hi W).mono fun e w' ⟨he, hw⟩ => ⟨he, by rw [← hw]; exact Below.self W⟩
  go_enter Tryz.func8, Tryz.ntmps8
  go_upto_region 7 with fail
  obtain ⟨B, hB⟩ : ∃ B, w.heap.size = B := ⟨_, rfl⟩
  rw [hB] at HT ⊢
  have HZ := Lib.hid hB
  clear hB
  generalize w.alloc (.cells #[.int .i64 2, .int .i64 i, .string (bsOf s)] 29) = V at *
  have K0 := fun d os => cell_regrown HT.out.c0 d os
  have K1 := fun d os => cell_regrown HT.out.c1 d os
  have K2 := fun d os => cell_regrown HT.out.c2 d os
  have fin : ∀ (x : Bool) (W : World), Below V.heap.size V W → x = (decide (s = []) && numB 1000000000000000 i) → Ending.returned (.bool x) = .returned (.bool (vldV ⟨2, i, s⟩)) ∧ Below w.heap.size w W := fun x W hb hx => ⟨by rw [HV.out, hx], HB0.out.trans (hb.mono HB0.out.size)⟩
  have HF := Lib.hid fin
  clear fin HB0 HV
  rw [← HZ.out] at *
  rcases s with _ | ⟨c, r⟩
  · refine wp_region_quiet_below (by kernel_rfl) (by kernel_rfl) ?_
    repeat (go_big_quiet_step (first
      | (go_at_call 40; with_reducible exact Calls.regrown_of (HC.out _ _))
      | (go_at_call 41; with_reducible exact Calls.regrown_of (HD.out _))))
    refine wpQuiet_nil ?_
    intro _ hw'
    obtain ⟨⟨dq, osq⟩, hw''⟩ := hw'
    subst hw''
    have HBQ := Lib.hid (below_regrown V dq osq)
    generalize Go.Sort.grow (redrawn V dq) osq = WQ at *
    go_wp2
    go_ret
    exact HF.out _ _ HBQ.out (by simp)
  · refine wp_region_quiet_below (by kernel_rfl) (by kernel_rfl) ?_
    repeat (go_big_quiet_step (first
      | (go_at_call 40; with_reducible exact Calls.regrown_of (HC.out _ _))
      | (go_at_call 41; with_reducible exact Calls.regrown_of (HD.out _))))
    refine wpQuiet_nil ?_
    intro _ hw'
    obtain ⟨⟨dq, osq⟩, hw''⟩ := hw'
    subst hw''
    have HBQ := Lib.hid (below_regrown V dq osq)
    generalize Go.Sort.grow (redrawn V dq) osq = WQ at *
    go_wp2
    go_ret
    exact HF.out _ _ HBQ.out (by simp)

set_option maxRecDepth 100000 in
set_option maxHeartbeats 1000000 in
theorem valid3 (i : Int) (s : List UInt8) (hi : I64 i) (hs : s.length ≤ 1048576) (w : World) : Calls Tryz.prog 8 #[.agg #[.int .i64 3, .int .i64 i, .string (bsOf s)]] w fun e w' => e = .returned (.bool (vldV ⟨3, i, s⟩)) ∧ Below w.heap.size w w' := by
  have hbl := bs_list s
  have hb0 : (⟨#[]⟩ : ByteArray).toList = [] := bs_list []
  have HV : Hid (vldV ⟨3, i, s⟩ = (decide (i = 0) && txtB s)) := vld3 i s
  have HB0 := Lib.hid ((Below.refl w.heap.size w).alloc (Nat.le_refl _) (.cells #[.int .i64 3, .int .i64 i, .string (bsOf s)] 29))
  have HT := Lib.hid (Trio.new w 29 (.int .i64 3) (.int .i64 i) (.string (bsOf s)))
  have HC : Hid (∀ (W : World), Calls Tryz.prog 42 #[.string (bsOf s)] W fun e w' => e = .returned (.agg #[.int .i64 3, .int .i64 0, .string (bsOf s)]) ∧ Below W.heap.size W w') := fun W => txt_any s W
  have HD : Hid (∀ (W : World), Calls Tryz.prog 43 #[.string (bsOf s)] W fun e w' => e = .returned (.bool (txtB s)) ∧ Below W.heap.size W w') := fun W => isText_any s hs W
  go_enter Tryz.func8, Tryz.ntmps8
  go_upto_region 9 with fail
  obtain ⟨B, hB⟩ : ∃ B, w.heap.size = B := ⟨_, rfl⟩
  rw [hB] at HT ⊢
  have HZ := Lib.hid hB
  clear hB
  generalize w.alloc (.cells #[.int .i64 3, .int .i64 i, .string (bsOf s)] 29) = V at *
  have K0 := fun d os => cell_regrown HT.out.c0 d os
  have K1 := fun d os => cell_regrown HT.out.c1 d os
  have K2 := fun d os => cell_regrown HT.out.c2 d os
  have fin : ∀ (x : Bool) (W : World), Below V.heap.size V W → x = (decide (i = 0) && txtB s) → Ending.returned (.bool x) = .returned (.bool (vldV ⟨3, i, s⟩)) ∧ Below w.heap.size w W := fun x W hb hx => ⟨by rw [HV.out, hx], HB0.out.trans (hb.mono HB0.out.size)⟩
  have HF := Lib.hid fin
  clear fin HB0 HV
  rw [← HZ.out] at *
  by_cases h0 : i = 0
  · subst h0
    refine wp_region_quiet_below (by kernel_rfl) (by kernel_rfl) ?_
    repeat (go_big_quiet_step (first
      | (go_at_call 42; with_reducible exact Calls.regrown_of (HC.out _))
      | (go_at_call 43; with_reducible exact Calls.regrown_of (HD.out _))))
    refine wpQuiet_nil ?_
    intro _ hw'
    obtain ⟨⟨dq, osq⟩, hw''⟩ := hw'
    subst hw''
    have HBQ := Lib.hid (below_regrown V dq osq)
    generalize Go.Sort.grow (redrawn V dq) osq = WQ at *
    go_wp2
    go_ret
    exact HF.out _ _ HBQ.out (by simp)
  · have h1 : (i == 0) = false := by simpa using h0
    refine wp_region_quiet_below (by kernel_rfl) (by kernel_rfl) ?_
    repeat (go_big_quiet_step (first
      | (go_at_call 42; with_reducible exact Calls.regrown_of (HC.out _))
      | (go_at_call 43; with_reducible exact Calls.regrown_of (HD.out _))))
    refine wpQuiet_nil ?_
    intro _ hw'
    obtain ⟨⟨dq, osq⟩, hw''⟩ := hw'
    subst hw''
    have HBQ := Lib.hid (below_regrown V dq osq)
    generalize Go.Sort.grow (redrawn V dq) osq = WQ at *
    go_wp2
    go_ret
    exact HF.out _ _ HBQ.out (by simp [h0])

set_option maxRecDepth 100000 in
set_option maxHeartbeats 1000000 in
theorem valid9 (k i : Int) (s : List UInt8) (h0 : k ≠ 0) (h1 : k ≠ 1) (h2 : k ≠ 2) (h3 : k ≠ 3) (w : World) : Calls Tryz.prog 8 #[.agg #[.int .i64 k, .int .i64 i, .string (bsOf s)]] w fun e w' => e = .returned (.bool (vldV ⟨k, i, s⟩)) ∧ Below w.heap.size w w' := by
  have HV := Lib.hid (vld9 i s h0 h1 h2 h3)
  have e0 : (k == 0) = false := by simpa using h0
  have e1 : (k == 1) = false := by simpa using h1
  have e2 : (k == 2) = false := by simpa using h2
  have e3 : (k == 3) = false := by simpa using h3
  go_enter Tryz.func8, Tryz.ntmps8
  go_wp2
  go_ret
  exact ⟨ret_bool HV.out.symm, (Below.refl _ _).alloc (Nat.le_refl _) _⟩

theorem valid_any (v : Vl) (hv : v.Ok) (w : World) : Calls Tryz.prog 8 #[encV v] w fun e w' => e = .returned (.bool (vldV v)) ∧ Below w.heap.size w w' := by
  obtain ⟨k, i, s⟩ := v
  by_cases h0 : k = 0
  · subst h0; exact valid0 i s w
  · by_cases h1 : k = 1
    · subst h1; exact valid1 i s w
    · by_cases h2 : k = 2
      · subst h2; exact valid2 i s hv.i hv.s w
      · by_cases h3 : k = 3
        · subst h3; exact valid3 i s hv.i hv.s w
        · exact valid9 k i s h0 h1 h2 h3 w

end Go.Proofs.YtnhffkgbnlnliaaGreatDoor
