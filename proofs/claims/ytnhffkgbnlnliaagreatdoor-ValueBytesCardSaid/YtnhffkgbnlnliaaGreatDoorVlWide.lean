/-
  Wide values, valid types, which values a type has.
-/
import Derived.Test.YtnhffkgbnlnliaaGreatDoorVlValid
namespace Go.Proofs.YtnhffkgbnlnliaaGreatDoor
open Go Go.RowKit Go.Shelf Go.ChangeShapes Go.WideShapes Go.ChangeAt

theorem wid_k {k : Int} (i : Int) (s : List UInt8) (h : k ≠ 2) : widV ⟨k, i, s⟩ = vldV ⟨k, i, s⟩ := by simp [widV, h]
theorem wid_2 (i : Int) (s : List UInt8) : widV ⟨2, i, s⟩ = (decide (s = []) && numB 4000000000000000000 i) := by
  unfold widV
  rw [vld2]
  by_cases hs : s = []
  · subst hs
    simp [numB]
    omega
  · simp [hs]
theorem wid_of {v : Vl} (h : vldV v = true) : widV v = true := by unfold widV; rw [h]; rfl
theorem numB_true {m n : Int} (h1 : -m ≤ n) (h2 : n ≤ m) : numB m n = true := decide_eq_true ⟨h1, h2⟩
theorem numB_lo {m n : Int} (h1 : ¬ -m ≤ n) : numB m n = false := decide_eq_false fun h => h1 h.1
theorem numB_hi {m n : Int} (h1 : ¬ n ≤ m) : numB m n = false := decide_eq_false fun h => h1 h.2

set_option maxRecDepth 100000 in
set_option maxHeartbeats 1000000 in
theorem wide_any (v : Vl) (hv : v.Ok) (w : World) : Calls Tryz.prog 10 #[encV v] w fun e w' => e = .returned (.bool (widV v)) ∧ Below w.heap.size w w' := by
  have HA : Hid (∀ W : World, Calls Tryz.prog 8 #[encV v] W fun e w' => e = .returned (.bool (vldV v)) ∧ Below W.heap.size W w') := fun W => valid_any v hv W
  obtain ⟨k, i, s⟩ := v
  have hi : I64 i := hv.i
  clear hv
  unfold encV at HA ⊢
  dsimp only at HA ⊢
  obtain ⟨bv, hbv⟩ : ∃ b, vldV ⟨k, i, s⟩ = b := ⟨_, rfl⟩
  rw [hbv] at HA
  have HBV := Lib.hid hbv
  clear hbv
  have HD := HA
  clear HA
  have hbl := bs_list s
  have hb0 : (⟨#[]⟩ : ByteArray).toList = [] := bs_list []
  have HB0 := Lib.hid ((Below.refl w.heap.size w).alloc (Nat.le_refl _) (.cells #[.int .i64 k, .int .i64 i, .string (bsOf s)] 29))
  have HT := Lib.hid (Trio.new w 29 (.int .i64 k) (.int .i64 i) (.string (bsOf s)))
  have HC : Hid (∀ (n : Int) (W : World), Calls Tryz.prog 40 #[.int .i64 n] W fun e w' => e = .returned (.agg #[.int .i64 2, .int .i64 n, .string ⟨#[]⟩]) ∧ Below W.heap.size W w') := fun n W => num_any n W
  go_enter Tryz.func10, Tryz.ntmps10
  go_upto_region 1 with fail
  obtain ⟨B, hB⟩ : ∃ B, w.heap.size = B := ⟨_, rfl⟩
  rw [hB] at HT ⊢
  have HZ := Lib.hid hB
  clear hB
  generalize w.alloc (.cells #[.int .i64 k, .int .i64 i, .string (bsOf s)] 29) = V at *
  have K0 := fun d os => cell_regrown HT.out.c0 d os
  have K1 := fun d os => cell_regrown HT.out.c1 d os
  have K2 := fun d os => cell_regrown HT.out.c2 d os
  have fin : ∀ (x : Bool) (W : World), Below V.heap.size V W → x = widV ⟨k, i, s⟩ → Ending.returned (.bool x) = .returned (.bool (widV ⟨k, i, s⟩)) ∧ Below w.heap.size w W := fun x W hb hx => ⟨by rw [hx], HB0.out.trans (hb.mono HB0.out.size)⟩
  have HF := Lib.hid fin
  clear fin HB0
  rw [← HZ.out] at *
  cases bv with
  | true =>
    have HW := Lib.hid (wid_of HBV.out)
    clear HBV hi
    refine wp_region_quiet_below (by kernel_rfl) (by kernel_rfl) ?_
    repeat (go_big_quiet_step (first
      | (go_at_call 40; with_reducible exact Calls.regrown_of (HC.out _ _))
      | (go_at_call 8; with_reducible exact Calls.regrown_of (HD.out _))))
    refine wpQuiet_nil ?_
    intro _ hw'
    obtain ⟨⟨dq, osq⟩, hw''⟩ := hw'
    subst hw''
    have HBQ := Lib.hid (below_regrown V dq osq)
    generalize Go.Sort.grow (redrawn V dq) osq = WQ at *
    go_wp2
    go_ret
    exact HF.out _ _ HBQ.out (HW.out.symm)
  | false =>
    by_cases h2 : k = 2
    · subst h2
      have HW := Lib.hid (wid_2 i s)
      clear HBV
      rcases s with _ | ⟨c, r⟩
      · by_cases hl : -4000000000000000000 ≤ i
        · by_cases hh : i ≤ 4000000000000000000
          · have HN := Lib.hid (numB_true (m := 4000000000000000000) hl hh)
            refine wp_region_quiet_below (by kernel_rfl) (by kernel_rfl) ?_
            repeat (go_big_quiet_step (first
              | (go_at_call 40; with_reducible exact Calls.regrown_of (HC.out _ _))
              | (go_at_call 8; with_reducible exact Calls.regrown_of (HD.out _))))
            refine wpQuiet_nil ?_
            intro _ hw'
            obtain ⟨⟨dq, osq⟩, hw''⟩ := hw'
            subst hw''
            have HBQ := Lib.hid (below_regrown V dq osq)
            generalize Go.Sort.grow (redrawn V dq) osq = WQ at *
            go_wp2
            go_ret
            exact HF.out _ _ HBQ.out (by rw [HW.out, HN.out]; rfl)
          · have HN := Lib.hid (numB_hi (m := 4000000000000000000) hh)
            refine wp_region_quiet_below (by kernel_rfl) (by kernel_rfl) ?_
            repeat (go_big_quiet_step (first
              | (go_at_call 40; with_reducible exact Calls.regrown_of (HC.out _ _))
              | (go_at_call 8; with_reducible exact Calls.regrown_of (HD.out _))))
            refine wpQuiet_nil ?_
            intro _ hw'
            obtain ⟨⟨dq, osq⟩, hw''⟩ := hw'
            subst hw''
            have HBQ := Lib.hid (below_regrown V dq osq)
            generalize Go.Sort.grow (redrawn V dq) osq = WQ at *
            go_wp2
            go_ret
            exact HF.out _ _ HBQ.out (by rw [HW.out, HN.out]; rfl)
        · have HN := Lib.hid (numB_lo (m := 4000000000000000000) hl)
          refine wp_region_quiet_below (by kernel_rfl) (by kernel_rfl) ?_
          repeat (go_big_quiet_step (first
            | (go_at_call 40; with_reducible exact Calls.regrown_of (HC.out _ _))
            | (go_at_call 8; with_reducible exact Calls.regrown_of (HD.out _))))
          refine wpQuiet_nil ?_
          intro _ hw'
          obtain ⟨⟨dq, osq⟩, hw''⟩ := hw'
          subst hw''
          have HBQ := Lib.hid (below_regrown V dq osq)
          generalize Go.Sort.grow (redrawn V dq) osq = WQ at *
          go_wp2
          go_ret
          exact HF.out _ _ HBQ.out (by rw [HW.out, HN.out]; rfl)
      · have HN : Hid (widV ⟨2, i, c :: r⟩ = false) := by show _ = _; rw [HW.out]; simp
        refine wp_region_quiet_below (by kernel_rfl) (by kernel_rfl) ?_
        repeat (go_big_quiet_step (first
          | (go_at_call 40; with_reducible exact Calls.regrown_of (HC.out _ _))
          | (go_at_call 8; with_reducible exact Calls.regrown_of (HD.out _))))
        refine wpQuiet_nil ?_
        intro _ hw'
        obtain ⟨⟨dq, osq⟩, hw''⟩ := hw'
        subst hw''
        have HBQ := Lib.hid (below_regrown V dq osq)
        generalize Go.Sort.grow (redrawn V dq) osq = WQ at *
        go_wp2
        go_ret
        exact HF.out _ _ HBQ.out (HN.out.symm)
    · have e2 : (k == 2) = false := by simpa using h2
      have HW : Hid (widV ⟨k, i, s⟩ = false) := (wid_k i s h2).trans HBV.out
      refine wp_region_quiet_below (by kernel_rfl) (by kernel_rfl) ?_
      repeat (go_big_quiet_step (first
        | (go_at_call 40; with_reducible exact Calls.regrown_of (HC.out _ _))
        | (go_at_call 8; with_reducible exact Calls.regrown_of (HD.out _))))
      refine wpQuiet_nil ?_
      intro _ hw'
      obtain ⟨⟨dq, osq⟩, hw''⟩ := hw'
      subst hw''
      have HBQ := Lib.hid (below_regrown V dq osq)
      generalize Go.Sort.grow (redrawn V dq) osq = WQ at *
      go_wp2
      go_ret
      exact HF.out _ _ HBQ.out (HW.out.symm)

set_option maxHeartbeats 1000000 in
theorem validType_any (t : Ty) (w : World) : Calls Tryz.prog 24 #[encT t] w fun e w' => e = .returned (.bool (vldT t)) ∧ Below w.heap.size w w' := by
  obtain ⟨k, sc, nl⟩ := t
  unfold encT
  dsimp only
  obtain ⟨b, hb⟩ : ∃ b, vldT ⟨k, sc, nl⟩ = b := ⟨_, rfl⟩
  rw [hb]
  by_cases h1 : k = 1
  · subst h1
    have hb : decide (sc = 0) = b := hb
    have hb : (sc == 0) = b := by rw [← hb]; by_cases h : sc = 0 <;> simp [h]
    go_enter Tryz.func24, Tryz.ntmps24
    go_wp2
    go_ret
    exact ⟨rfl, (Below.refl _ _).alloc (Nat.le_refl _) _⟩
  · by_cases h3 : k = 3
    · subst h3
      have hb : decide (sc = 0) = b := hb
      have hb : (sc == 0) = b := by rw [← hb]; by_cases h : sc = 0 <;> simp [h]
      go_enter Tryz.func24, Tryz.ntmps24
      go_wp2
      go_ret
      exact ⟨rfl, (Below.refl _ _).alloc (Nat.le_refl _) _⟩
    · by_cases h2 : k = 2
      · subst h2
        have hb : decide (0 ≤ sc ∧ sc ≤ 6) = b := hb
        by_cases hl : 0 ≤ sc
        · by_cases hh : sc ≤ 6
          · have HE : Hid (b = true) := by show _ = _; rw [← hb]; exact decide_eq_true ⟨hl, hh⟩
            go_enter Tryz.func24, Tryz.ntmps24
            go_wp2
            go_ret
            exact ⟨ret_bool HE.out.symm, (Below.refl _ _).alloc (Nat.le_refl _) _⟩
          · have HE : Hid (b = false) := by show _ = _; rw [← hb]; exact decide_eq_false fun h => hh h.2
            go_enter Tryz.func24, Tryz.ntmps24
            go_wp2
            go_ret
            exact ⟨ret_bool HE.out.symm, (Below.refl _ _).alloc (Nat.le_refl _) _⟩
        · have HE : Hid (b = false) := by show _ = _; rw [← hb]; exact decide_eq_false fun h => hl h.1
          go_enter Tryz.func24, Tryz.ntmps24
          go_wp2
          go_ret
          exact ⟨ret_bool HE.out.symm, (Below.refl _ _).alloc (Nat.le_refl _) _⟩
      · have HE : Hid (b = false) := by show _ = _; rw [← hb]; simp [vldT, h1, h2, h3]
        have e1 : (k == 1) = false := by simpa using h1
        have e2 : (k == 2) = false := by simpa using h2
        have e3 : (k == 3) = false := by simpa using h3
        go_enter Tryz.func24, Tryz.ntmps24
        go_wp2
        go_ret
        exact ⟨ret_bool HE.out.symm, (Below.refl _ _).alloc (Nat.le_refl _) _⟩

end Go.Proofs.YtnhffkgbnlnliaaGreatDoor
