/-
  Wide values, valid types, which values a type has.
-/
import Derived.Test.YtocnkjnlmciojaaGreatDoorVlBase
namespace Go.Proofs.YtocnkjnlmciojaaGreatDoor
open Go Go.RowKit Go.Shelf Go.ChangeShapes Go.WideShapes Go.ChangeAt

theorem bool_any (n : Int) (w : World) : Calls Tryz.prog 85 #[.int .i64 n] w fun e w' => e = .returned (encV ⟨1, n, []⟩) ∧ Below w.heap.size w w' := by
  go_enter Tryz.func85, Tryz.ntmps85
  go_wp2
  exact bodyPost_ret (v := .agg #[.int .i64 1, .int .i64 n, .string ⟨#[]⟩]) (by simp [results, Tryz.results85, go_sem]) rfl ⟨rfl, (Below.refl _ _).alloc (Nat.le_refl _) _⟩
theorem num_any (n : Int) (w : World) : Calls Tryz.prog 86 #[.int .i64 n] w fun e w' => e = .returned (encV ⟨2, n, []⟩) ∧ Below w.heap.size w w' := by
  go_enter Tryz.func86, Tryz.ntmps86
  go_wp2
  exact bodyPost_ret (v := .agg #[.int .i64 2, .int .i64 n, .string ⟨#[]⟩]) (by simp [results, Tryz.results86, go_sem]) rfl ⟨rfl, (Below.refl _ _).alloc (Nat.le_refl _) _⟩
theorem txt_any (s : List UInt8) (w : World) : Calls Tryz.prog 87 #[.string (bsOf s)] w fun e w' => e = .returned (encV ⟨3, 0, s⟩) ∧ Below w.heap.size w w' := by
  go_enter Tryz.func87, Tryz.ntmps87
  go_wp2
  exact bodyPost_ret (v := .agg #[.int .i64 3, .int .i64 0, .string (bsOf s)]) (by simp [results, Tryz.results87, go_sem]) rfl ⟨rfl, (Below.refl _ _).alloc (Nat.le_refl _) _⟩

theorem graph_all {s : List UInt8} (h : ∀ j, j < s.length → 32 ≤ (s[j]?.getD 0).toNat ∧ (s[j]?.getD 0).toNat ≤ 126) : graphB s = true := by
  unfold graphB
  rw [List.all_eq_true]
  intro x hx
  obtain ⟨i, hi, rfl⟩ := List.getElem_of_mem hx
  have := h i hi
  rw [List.getElem?_eq_getElem hi] at this
  simpa using this
theorem graph_not {s : List UInt8} {j : Nat} (hj : j < s.length) (h : ¬ (32 ≤ (s[j]?.getD 0).toNat ∧ (s[j]?.getD 0).toNat ≤ 126)) : graphB s = false := by
  unfold graphB
  rw [List.all_eq_false]
  refine ⟨s[j], List.getElem_mem hj, ?_⟩
  rw [List.getElem?_eq_getElem hj] at h
  simpa using h
theorem txt_true {s : List UInt8} (h : s.length ≤ 40) (h2 : graphB s = true) : txtB s = true := by simp [txtB, h, h2]
theorem txt_bad {s : List UInt8} (h2 : graphB s = false) : txtB s = false := by simp [txtB, h2]
theorem txt_long {s : List UInt8} (h : 40 < s.length) : txtB s = false := by simp [txtB, show ¬ s.length ≤ 40 by omega]

set_option maxRecDepth 100000 in
set_option maxHeartbeats 1000000 in
theorem isText_any (s : List UInt8) (hs : s.length ≤ 1048576) (w : World) : Calls Tryz.prog 88 #[.string (bsOf s)] w fun e w' => e = .returned (.bool (txtB s)) ∧ Below w.heap.size w w' := by
  have hz := bs_size s
  by_cases h40 : 40 < s.length
  · have HT := Lib.hid (txt_long h40)
    go_enter Tryz.func88, Tryz.ntmps88
    go_wp2
    go_ret
    exact ⟨ret_bool HT.out.symm, Below.refl _ _⟩
  · have HL : Hid (s.length ≤ 40) := Nat.not_lt.1 h40
    obtain ⟨V, cap, kc, hcap, hcm, hb, hsz, hc⟩ := conv_str s hs w
    have HB := Lib.hid hb
    have HC := Lib.hid hc
    clear hb hc
    obtain ⟨len, hlen⟩ : ∃ len, s.length = len := ⟨_, rfl⟩
    have HLen := Lib.hid hlen
    rw [hlen] at h40 kc hz hcap hs HC
    clear hlen
    go_enter Tryz.func88, Tryz.ntmps88
    go_wp2
    go_loop [11] (fun i => ∃ k : Nat, k ≤ len ∧ i = .int .i64 k ∧ Hid (∀ j, j < k → 32 ≤ (s[j]?.getD 0).toNat ∧ (s[j]?.getD 0).toNat ≤ 126)) (fun i => len - (intOf i).toNat)
    case atStart => exact ⟨0, Nat.zero_le _, rfl, fun j h => by omega⟩
    case round =>
      obtain ⟨k, hk, rfl, HE⟩ := hrel
      by_cases hlt : k < len
      · have hcx := HC.out k hlt
        by_cases he : 32 ≤ (s[k]?.getD 0).toNat ∧ (s[k]?.getD 0).toNat ≤ 126
        · have HE2 : Hid (∀ j, j < k + 1 → 32 ≤ (s[j]?.getD 0).toNat ∧ (s[j]?.getD 0).toNat ≤ 126) := fun j hj => by
            by_cases h : j = k
            · rw [h]; exact he
            · exact HE.out j (by omega)
          obtain ⟨he1, he2⟩ := he
          generalize (s[k]?.getD 0).toNat = x at *
          go_wp2
          go_round
          case rel => exact ⟨k + 1, by omega, by go_num, HE2⟩
          case measure => simp [intOf]; omega
        · have HT := Lib.hid (txt_bad (graph_not (by rw [HLen.out]; exact hlt) he))
          generalize (s[k]?.getD 0).toNat = x at *
          by_cases he1 : 32 ≤ x
          · have he2 : 126 < x := by omega
            clear he
            go_wp2
            go_ret
            exact ⟨ret_bool HT.out.symm, HB.out⟩
          · clear he
            go_wp2
            go_ret
            exact ⟨ret_bool HT.out.symm, HB.out⟩
      · obtain rfl : k = len := by omega
        have HT := Lib.hid (txt_true HL.out (graph_all (by rw [HLen.out]; exact HE.out)))
        go_wp2
        go_ret
        exact ⟨ret_bool HT.out.symm, HB.out⟩

end Go.Proofs.YtocnkjnlmciojaaGreatDoor

namespace Go.Proofs.YtocnkjnlmciojaaGreatDoor
open Go Go.RowKit Go.Shelf Go.ChangeShapes Go.WideShapes Go.ChangeAt

theorem vld0 (i : Int) (s : List UInt8) : vldV ⟨0, i, s⟩ = decide (i = 0 ∧ s = []) := rfl
theorem vld1 (i : Int) (s : List UInt8) : vldV ⟨1, i, s⟩ = decide ((i = 0 ∨ i = 1) ∧ s = []) := rfl
theorem vld2 (i : Int) (s : List UInt8) : vldV ⟨2, i, s⟩ = (decide (s = []) && numB 1000000000000000 i) := rfl
theorem vld3 (i : Int) (s : List UInt8) : vldV ⟨3, i, s⟩ = (decide (i = 0) && txtB s) := rfl
theorem vld9 {k : Int} (i : Int) (s : List UInt8) (h0 : k ≠ 0) (h1 : k ≠ 1) (h2 : k ≠ 2) (h3 : k ≠ 3) : vldV ⟨k, i, s⟩ = false := by simp [vldV, h0, h1, h2, h3]

set_option maxRecDepth 100000 in
set_option maxHeartbeats 1000000 in
theorem valid0 (i : Int) (s : List UInt8) (w : World) : Calls Tryz.prog 30 #[.agg #[.int .i64 0, .int .i64 i, .string (bsOf s)]] w fun e w' => e = .returned (.bool (vldV ⟨0, i, s⟩)) ∧ Below w.heap.size w w' := by
  have hbl := bs_list s
  have hb0 : (⟨#[]⟩ : ByteArray).toList = [] := bs_list []
  by_cases h0 : i = 0
  · subst h0
    rcases s with _ | ⟨c, r⟩
    · go_enter Tryz.func30, Tryz.ntmps30
      go_wp2
      go_ret
      exact ⟨rfl, (Below.refl _ _).alloc (Nat.le_refl _) _⟩
    · have HV : Hid (vldV ⟨0, 0, c :: r⟩ = false) := by show _ = _; rw [vld0]; simp
      go_enter Tryz.func30, Tryz.ntmps30
      go_wp2
      go_ret
      exact ⟨ret_bool HV.out.symm, (Below.refl _ _).alloc (Nat.le_refl _) _⟩
  · have HV : Hid (vldV ⟨0, i, s⟩ = false) := by show _ = _; rw [vld0]; simp [h0]
    have hi : (i == 0) = false := by simpa using h0
    go_enter Tryz.func30, Tryz.ntmps30
    go_wp2
    go_ret
    exact ⟨ret_bool HV.out.symm, (Below.refl _ _).alloc (Nat.le_refl _) _⟩


set_option maxRecDepth 100000 in
set_option maxHeartbeats 1000000 in
theorem valid1 (i : Int) (s : List UInt8) (w : World) : Calls Tryz.prog 30 #[.agg #[.int .i64 1, .int .i64 i, .string (bsOf s)]] w fun e w' => e = .returned (.bool (vldV ⟨1, i, s⟩)) ∧ Below w.heap.size w w' := by
  have hbl := bs_list s
  have hb0 : (⟨#[]⟩ : ByteArray).toList = [] := bs_list []
  have HV : Hid (vldV ⟨1, i, s⟩ = decide ((i = 0 ∨ i = 1) ∧ s = [])) := vld1 i s
  have HB0 := Lib.hid ((Below.refl w.heap.size w).alloc (Nat.le_refl _) (.cells #[.int .i64 1, .int .i64 i, .string (bsOf s)] 45))
  have HT := Lib.hid (Trio.new w 45 (.int .i64 1) (.int .i64 i) (.string (bsOf s)))
  have HC : Hid (∀ (n : Int) (W : World), Calls Tryz.prog 85 #[.int .i64 n] W fun e w' => e = .returned (.agg #[.int .i64 1, .int .i64 n, .string ⟨#[]⟩]) ∧ Below W.heap.size W w') := fun n W => bool_any n W
  go_enter Tryz.func30, Tryz.ntmps30
  go_upto_region 5 with fail
  obtain ⟨B, hB⟩ : ∃ B, w.heap.size = B := ⟨_, rfl⟩
  rw [hB] at HT ⊢
  have HZ := Lib.hid hB
  clear hB
  generalize w.alloc (.cells #[.int .i64 1, .int .i64 i, .string (bsOf s)] 45) = V at *
  have K0 := fun d os => cell_regrown HT.out.c0 d os
  have K1 := fun d os => cell_regrown HT.out.c1 d os
  have K2 := fun d os => cell_regrown HT.out.c2 d os
  have hi01 : i = 0 ∨ i = 1 ∨ (i ≠ 0 ∧ i ≠ 1) := by omega
  have fin : ∀ (x : Bool) (W : World), Below V.heap.size V W → x = decide ((i = 0 ∨ i = 1) ∧ s = []) → Ending.returned (.bool x) = .returned (.bool (vldV ⟨1, i, s⟩)) ∧ Below w.heap.size w W := fun x W hb hx => ⟨by rw [HV.out, hx], HB0.out.trans (hb.mono HB0.out.size)⟩
  have HF := Lib.hid fin
  clear fin HB0 HV
  rw [← HZ.out] at *
  rcases hi01 with h | h | ⟨h, h'⟩
  · subst h
    rcases s with _ | ⟨c, r⟩
    all_goals
      refine wp_region_quiet_below (by kernel_rfl) (by kernel_rfl) ?_
      repeat (go_big_quiet_step (first
        | (go_at_call 85; with_reducible exact Calls.regrown_of (HC.out _ _))))
      refine wpQuiet_nil ?_
      intro _ hw'
      obtain ⟨⟨dq, osq⟩, hw''⟩ := hw'
      subst hw''
      have HBQ := Lib.hid (below_regrown V dq osq)
      generalize Go.Sort.grow (redrawn V dq) osq = WQ at *
      go_wp2
      go_ret
      exact HF.out _ _ HBQ.out (by simp)
  · subst h
    rcases s with _ | ⟨c, r⟩
    all_goals
      refine wp_region_quiet_below (by kernel_rfl) (by kernel_rfl) ?_
      repeat (go_big_quiet_step (first
        | (go_at_call 85; with_reducible exact Calls.regrown_of (HC.out _ _))))
      refine wpQuiet_nil ?_
      intro _ hw'
      obtain ⟨⟨dq, osq⟩, hw''⟩ := hw'
      subst hw''
      have HBQ := Lib.hid (below_regrown V dq osq)
      generalize Go.Sort.grow (redrawn V dq) osq = WQ at *
      go_wp2
      go_ret
      exact HF.out _ _ HBQ.out (by simp)
  · have h0 : (i == 0) = false := by simpa using h
    have h1 : (i == 1) = false := by simpa using h'
    refine wp_region_quiet_below (by kernel_rfl) (by kernel_rfl) ?_
    repeat (go_big_quiet_step (first
      | (go_at_call 85; with_reducible exact Calls.regrown_of (HC.out _ _))))
    refine wpQuiet_nil ?_
    intro _ hw'
    obtain ⟨⟨dq, osq⟩, hw''⟩ := hw'
    subst hw''
    have HBQ := Lib.hid (below_regrown V dq osq)
    generalize Go.Sort.grow (redrawn V dq) osq = WQ at *
    go_wp2
    go_ret
    exact HF.out _ _ HBQ.out (by simp [h, h'])


set_option maxRecDepth 100000 in
set_option maxHeartbeats 1000000 in
theorem valid2 (i : Int) (s : List UInt8) (hi : I64 i) (hs : s.length ≤ 1048576) (w : World) : Calls Tryz.prog 30 #[.agg #[.int .i64 2, .int .i64 i, .string (bsOf s)]] w fun e w' => e = .returned (.bool (vldV ⟨2, i, s⟩)) ∧ Below w.heap.size w w' := by
  have hbl := bs_list s
  have hb0 : (⟨#[]⟩ : ByteArray).toList = [] := bs_list []
  have HV : Hid (vldV ⟨2, i, s⟩ = (decide (s = []) && numB 1000000000000000 i)) := vld2 i s
  have HB0 := Lib.hid ((Below.refl w.heap.size w).alloc (Nat.le_refl _) (.cells #[.int .i64 2, .int .i64 i, .string (bsOf s)] 45))
  have HT := Lib.hid (Trio.new w 45 (.int .i64 2) (.int .i64 i) (.string (bsOf s)))
  have HC : Hid (∀ (n : Int) (W : World), Calls Tryz.prog 86 #[.int .i64 n] W fun e w' => e = .returned (.agg #[.int .i64 2, .int .i64 n, .string ⟨#[]⟩]) ∧ Below W.heap.size W w') := fun n W => num_any n W
  have HD : Hid (∀ (W : World), Calls Tryz.prog 16 #[.int .i64 i] W fun e w' => e = .returned (.bool (numB 1000000000000000 i)) ∧ Below W.heap.size W w') := fun W => (De.valid_any i hi W).mono fun e w' ⟨he, hw⟩ => ⟨he, by rw [← hw]; exact Below.self W⟩
  go_enter Tryz.func30, Tryz.ntmps30
  go_upto_region 7 with fail
  obtain ⟨B, hB⟩ : ∃ B, w.heap.size = B := ⟨_, rfl⟩
  rw [hB] at HT ⊢
  have HZ := Lib.hid hB
  clear hB
  generalize w.alloc (.cells #[.int .i64 2, .int .i64 i, .string (bsOf s)] 45) = V at *
  have K0 := fun d os => cell_regrown HT.out.c0 d os
  have K1 := fun d os => cell_regrown HT.out.c1 d os
  have K2 := fun d os => cell_regrown HT.out.c2 d os
  have fin : ∀ (x : Bool) (W : World), Below V.heap.size V W → x = (decide (s = []) && numB 1000000000000000 i) → Ending.returned (.bool x) = .returned (.bool (vldV ⟨2, i, s⟩)) ∧ Below w.heap.size w W := fun x W hb hx => ⟨by rw [HV.out, hx], HB0.out.trans (hb.mono HB0.out.size)⟩
  have HF := Lib.hid fin
  clear fin HB0 HV
  rw [← HZ.out] at *
  rcases s with _ | ⟨c, r⟩
  · refine wp_region_quiet_below (by kernel_rfl) (by kernel_rfl) ?_
    repeat (go_big_quiet_step (first
      | (go_at_call 86; with_reducible exact Calls.regrown_of (HC.out _ _))
      | (go_at_call 16; with_reducible exact Calls.regrown_of (HD.out _))))
    refine wpQuiet_nil ?_
    intro _ hw'
    obtain ⟨⟨dq, osq⟩, hw''⟩ := hw'
    subst hw''
    have HBQ := Lib.hid (below_regrown V dq osq)
    generalize Go.Sort.grow (redrawn V dq) osq = WQ at *
    go_wp2
    go_ret
    exact HF.out _ _ HBQ.out (by simp)
  · refine wp_region_quiet_below (by kernel_rfl) (by kernel_rfl) ?_
    repeat (go_big_quiet_step (first
      | (go_at_call 86; with_reducible exact Calls.regrown_of (HC.out _ _))
      | (go_at_call 16; with_reducible exact Calls.regrown_of (HD.out _))))
    refine wpQuiet_nil ?_
    intro _ hw'
    obtain ⟨⟨dq, osq⟩, hw''⟩ := hw'
    subst hw''
    have HBQ := Lib.hid (below_regrown V dq osq)
    generalize Go.Sort.grow (redrawn V dq) osq = WQ at *
    go_wp2
    go_ret
    exact HF.out _ _ HBQ.out (by simp)

set_option maxRecDepth 100000 in
set_option maxHeartbeats 1000000 in
theorem valid3 (i : Int) (s : List UInt8) (hi : I64 i) (hs : s.length ≤ 1048576) (w : World) : Calls Tryz.prog 30 #[.agg #[.int .i64 3, .int .i64 i, .string (bsOf s)]] w fun e w' => e = .returned (.bool (vldV ⟨3, i, s⟩)) ∧ Below w.heap.size w w' := by
  have hbl := bs_list s
  have hb0 : (⟨#[]⟩ : ByteArray).toList = [] := bs_list []
  have HV : Hid (vldV ⟨3, i, s⟩ = (decide (i = 0) && txtB s)) := vld3 i s
  have HB0 := Lib.hid ((Below.refl w.heap.size w).alloc (Nat.le_refl _) (.cells #[.int .i64 3, .int .i64 i, .string (bsOf s)] 45))
  have HT := Lib.hid (Trio.new w 45 (.int .i64 3) (.int .i64 i) (.string (bsOf s)))
  have HC : Hid (∀ (W : World), Calls Tryz.prog 87 #[.string (bsOf s)] W fun e w' => e = .returned (.agg #[.int .i64 3, .int .i64 0, .string (bsOf s)]) ∧ Below W.heap.size W w') := fun W => txt_any s W
  have HD : Hid (∀ (W : World), Calls Tryz.prog 88 #[.string (bsOf s)] W fun e w' => e = .returned (.bool (txtB s)) ∧ Below W.heap.size W w') := fun W => isText_any s hs W
  go_enter Tryz.func30, Tryz.ntmps30
  go_upto_region 9 with fail
  obtain ⟨B, hB⟩ : ∃ B, w.heap.size = B := ⟨_, rfl⟩
  rw [hB] at HT ⊢
  have HZ := Lib.hid hB
  clear hB
  generalize w.alloc (.cells #[.int .i64 3, .int .i64 i, .string (bsOf s)] 45) = V at *
  have K0 := fun d os => cell_regrown HT.out.c0 d os
  have K1 := fun d os => cell_regrown HT.out.c1 d os
  have K2 := fun d os => cell_regrown HT.out.c2 d os
  have fin : ∀ (x : Bool) (W : World), Below V.heap.size V W → x = (decide (i = 0) && txtB s) → Ending.returned (.bool x) = .returned (.bool (vldV ⟨3, i, s⟩)) ∧ Below w.heap.size w W := fun x W hb hx => ⟨by rw [HV.out, hx], HB0.out.trans (hb.mono HB0.out.size)⟩
  have HF := Lib.hid fin
  clear fin HB0 HV
  rw [← HZ.out] at *
  by_cases h0 : i = 0
  · subst h0
    refine wp_region_quiet_below (by kernel_rfl) (by kernel_rfl) ?_
    repeat (go_big_quiet_step (first
      | (go_at_call 87; with_reducible exact Calls.regrown_of (HC.out _))
      | (go_at_call 88; with_reducible exact Calls.regrown_of (HD.out _))))
    refine wpQuiet_nil ?_
    intro _ hw'
    obtain ⟨⟨dq, osq⟩, hw''⟩ := hw'
    subst hw''
    have HBQ := Lib.hid (below_regrown V dq osq)
    generalize Go.Sort.grow (redrawn V dq) osq = WQ at *
    go_wp2
    go_ret
    exact HF.out _ _ HBQ.out (by simp)
  · have h1 : (i == 0) = false := by simpa using h0
    refine wp_region_quiet_below (by kernel_rfl) (by kernel_rfl) ?_
    repeat (go_big_quiet_step (first
      | (go_at_call 87; with_reducible exact Calls.regrown_of (HC.out _))
      | (go_at_call 88; with_reducible exact Calls.regrown_of (HD.out _))))
    refine wpQuiet_nil ?_
    intro _ hw'
    obtain ⟨⟨dq, osq⟩, hw''⟩ := hw'
    subst hw''
    have HBQ := Lib.hid (below_regrown V dq osq)
    generalize Go.Sort.grow (redrawn V dq) osq = WQ at *
    go_wp2
    go_ret
    exact HF.out _ _ HBQ.out (by simp [h0])

set_option maxRecDepth 100000 in
set_option maxHeartbeats 1000000 in
theorem valid9 (k i : Int) (s : List UInt8) (h0 : k ≠ 0) (h1 : k ≠ 1) (h2 : k ≠ 2) (h3 : k ≠ 3) (w : World) : Calls Tryz.prog 30 #[.agg #[.int .i64 k, .int .i64 i, .string (bsOf s)]] w fun e w' => e = .returned (.bool (vldV ⟨k, i, s⟩)) ∧ Below w.heap.size w w' := by
  have HV := Lib.hid (vld9 i s h0 h1 h2 h3)
  have e0 : (k == 0) = false := by simpa using h0
  have e1 : (k == 1) = false := by simpa using h1
  have e2 : (k == 2) = false := by simpa using h2
  have e3 : (k == 3) = false := by simpa using h3
  go_enter Tryz.func30, Tryz.ntmps30
  go_wp2
  go_ret
  exact ⟨ret_bool HV.out.symm, (Below.refl _ _).alloc (Nat.le_refl _) _⟩

theorem valid_any (v : Vl) (hv : v.Ok) (w : World) : Calls Tryz.prog 30 #[encV v] w fun e w' => e = .returned (.bool (vldV v)) ∧ Below w.heap.size w w' := by
  obtain ⟨k, i, s⟩ := v
  by_cases h0 : k = 0
  · subst h0; exact valid0 i s w
  · by_cases h1 : k = 1
    · subst h1; exact valid1 i s w
    · by_cases h2 : k = 2
      · subst h2; exact valid2 i s hv.i hv.s w
      · by_cases h3 : k = 3
        · subst h3; exact valid3 i s hv.i hv.s w
        · exact valid9 k i s h0 h1 h2 h3 w

end Go.Proofs.YtocnkjnlmciojaaGreatDoor

namespace Go.Proofs.YtocnkjnlmciojaaGreatDoor
open Go Go.RowKit Go.Shelf Go.ChangeShapes Go.WideShapes Go.ChangeAt

theorem wid_k {k : Int} (i : Int) (s : List UInt8) (h : k ≠ 2) : widV ⟨k, i, s⟩ = vldV ⟨k, i, s⟩ := by simp [widV, h]
theorem wid_2 (i : Int) (s : List UInt8) : widV ⟨2, i, s⟩ = (decide (s = []) && numB 4000000000000000000 i) := by
  unfold widV
  rw [vld2]
  by_cases hs : s = []
  · subst hs
    simp [numB]
    omega
  · simp [hs]
theorem wid_of {v : Vl} (h : vldV v = true) : widV v = true := by unfold widV; rw [h]; rfl
theorem numB_true {m n : Int} (h1 : -m ≤ n) (h2 : n ≤ m) : numB m n = true := decide_eq_true ⟨h1, h2⟩
theorem numB_lo {m n : Int} (h1 : ¬ -m ≤ n) : numB m n = false := decide_eq_false fun h => h1 h.1
theorem numB_hi {m n : Int} (h1 : ¬ n ≤ m) : numB m n = false := decide_eq_false fun h => h1 h.2

set_option maxRecDepth 100000 in
set_option maxHeartbeats 1000000 in
theorem wide_any (v : Vl) (hv : v.Ok) (w : World) : Calls Tryz.prog 32 #[encV v] w fun e w' => e = .returned (.bool (widV v)) ∧ Below w.heap.size w w' := by
  have HA : Hid (∀ W : World, Calls Tryz.prog 30 #[encV v] W fun e w' => e = .returned (.bool (vldV v)) ∧ Below W.heap.size W w') := fun W => valid_any v hv W
  obtain ⟨k, i, s⟩ := v
  have hi : I64 i := hv.i
  clear hv
  unfold encV at HA ⊢
  dsimp only at HA ⊢
  obtain ⟨bv, hbv⟩ : ∃ b, vldV ⟨k, i, s⟩ = b := ⟨_, rfl⟩
  rw [hbv] at HA
  have HBV := Lib.hid hbv
  clear hbv
  have HD := HA
  clear HA
  have hbl := bs_list s
  have hb0 : (⟨#[]⟩ : ByteArray).toList = [] := bs_list []
  have HB0 := Lib.hid ((Below.refl w.heap.size w).alloc (Nat.le_refl _) (.cells #[.int .i64 k, .int .i64 i, .string (bsOf s)] 45))
  have HT := Lib.hid (Trio.new w 45 (.int .i64 k) (.int .i64 i) (.string (bsOf s)))
  have HC : Hid (∀ (n : Int) (W : World), Calls Tryz.prog 86 #[.int .i64 n] W fun e w' => e = .returned (.agg #[.int .i64 2, .int .i64 n, .string ⟨#[]⟩]) ∧ Below W.heap.size W w') := fun n W => num_any n W
  go_enter Tryz.func32, Tryz.ntmps32
  go_upto_region 1 with fail
  obtain ⟨B, hB⟩ : ∃ B, w.heap.size = B := ⟨_, rfl⟩
  rw [hB] at HT ⊢
  have HZ := Lib.hid hB
  clear hB
  generalize w.alloc (.cells #[.int .i64 k, .int .i64 i, .string (bsOf s)] 45) = V at *
  have K0 := fun d os => cell_regrown HT.out.c0 d os
  have K1 := fun d os => cell_regrown HT.out.c1 d os
  have K2 := fun d os => cell_regrown HT.out.c2 d os
  have fin : ∀ (x : Bool) (W : World), Below V.heap.size V W → x = widV ⟨k, i, s⟩ → Ending.returned (.bool x) = .returned (.bool (widV ⟨k, i, s⟩)) ∧ Below w.heap.size w W := fun x W hb hx => ⟨by rw [hx], HB0.out.trans (hb.mono HB0.out.size)⟩
  have HF := Lib.hid fin
  clear fin HB0
  rw [← HZ.out] at *
  cases bv with
  | true =>
    have HW := Lib.hid (wid_of HBV.out)
    clear HBV hi
    refine wp_region_quiet_below (by kernel_rfl) (by kernel_rfl) ?_
    repeat (go_big_quiet_step (first
      | (go_at_call 86; with_reducible exact Calls.regrown_of (HC.out _ _))
      | (go_at_call 30; with_reducible exact Calls.regrown_of (HD.out _))))
    refine wpQuiet_nil ?_
    intro _ hw'
    obtain ⟨⟨dq, osq⟩, hw''⟩ := hw'
    subst hw''
    have HBQ := Lib.hid (below_regrown V dq osq)
    generalize Go.Sort.grow (redrawn V dq) osq = WQ at *
    go_wp2
    go_ret
    exact HF.out _ _ HBQ.out (HW.out.symm)
  | false =>
    by_cases h2 : k = 2
    · subst h2
      have HW := Lib.hid (wid_2 i s)
      clear HBV
      rcases s with _ | ⟨c, r⟩
      · by_cases hl : -4000000000000000000 ≤ i
        · by_cases hh : i ≤ 4000000000000000000
          · have HN := Lib.hid (numB_true (m := 4000000000000000000) hl hh)
            refine wp_region_quiet_below (by kernel_rfl) (by kernel_rfl) ?_
            repeat (go_big_quiet_step (first
              | (go_at_call 86; with_reducible exact Calls.regrown_of (HC.out _ _))
              | (go_at_call 30; with_reducible exact Calls.regrown_of (HD.out _))))
            refine wpQuiet_nil ?_
            intro _ hw'
            obtain ⟨⟨dq, osq⟩, hw''⟩ := hw'
            subst hw''
            have HBQ := Lib.hid (below_regrown V dq osq)
            generalize Go.Sort.grow (redrawn V dq) osq = WQ at *
            go_wp2
            go_ret
            exact HF.out _ _ HBQ.out (by rw [HW.out, HN.out]; rfl)
          · have HN := Lib.hid (numB_hi (m := 4000000000000000000) hh)
            refine wp_region_quiet_below (by kernel_rfl) (by kernel_rfl) ?_
            repeat (go_big_quiet_step (first
              | (go_at_call 86; with_reducible exact Calls.regrown_of (HC.out _ _))
              | (go_at_call 30; with_reducible exact Calls.regrown_of (HD.out _))))
            refine wpQuiet_nil ?_
            intro _ hw'
            obtain ⟨⟨dq, osq⟩, hw''⟩ := hw'
            subst hw''
            have HBQ := Lib.hid (below_regrown V dq osq)
            generalize Go.Sort.grow (redrawn V dq) osq = WQ at *
            go_wp2
            go_ret
            exact HF.out _ _ HBQ.out (by rw [HW.out, HN.out]; rfl)
        · have HN := Lib.hid (numB_lo (m := 4000000000000000000) hl)
          refine wp_region_quiet_below (by kernel_rfl) (by kernel_rfl) ?_
          repeat (go_big_quiet_step (first
            | (go_at_call 86; with_reducible exact Calls.regrown_of (HC.out _ _))
            | (go_at_call 30; with_reducible exact Calls.regrown_of (HD.out _))))
          refine wpQuiet_nil ?_
          intro _ hw'
          obtain ⟨⟨dq, osq⟩, hw''⟩ := hw'
          subst hw''
          have HBQ := Lib.hid (below_regrown V dq osq)
          generalize Go.Sort.grow (redrawn V dq) osq = WQ at *
          go_wp2
          go_ret
          exact HF.out _ _ HBQ.out (by rw [HW.out, HN.out]; rfl)
      · have HN : Hid (widV ⟨2, i, c :: r⟩ = false) := by show _ = _; rw [HW.out]; simp
        refine wp_region_quiet_below (by kernel_rfl) (by kernel_rfl) ?_
        repeat (go_big_quiet_step (first
          | (go_at_call 86; with_reducible exact Calls.regrown_of (HC.out _ _))
          | (go_at_call 30; with_reducible exact Calls.regrown_of (HD.out _))))
        refine wpQuiet_nil ?_
        intro _ hw'
        obtain ⟨⟨dq, osq⟩, hw''⟩ := hw'
        subst hw''
        have HBQ := Lib.hid (below_regrown V dq osq)
        generalize Go.Sort.grow (redrawn V dq) osq = WQ at *
        go_wp2
        go_ret
        exact HF.out _ _ HBQ.out (HN.out.symm)
    · have e2 : (k == 2) = false := by simpa using h2
      have HW : Hid (widV ⟨k, i, s⟩ = false) := (wid_k i s h2).trans HBV.out
      refine wp_region_quiet_below (by kernel_rfl) (by kernel_rfl) ?_
      repeat (go_big_quiet_step (first
        | (go_at_call 86; with_reducible exact Calls.regrown_of (HC.out _ _))
        | (go_at_call 30; with_reducible exact Calls.regrown_of (HD.out _))))
      refine wpQuiet_nil ?_
      intro _ hw'
      obtain ⟨⟨dq, osq⟩, hw''⟩ := hw'
      subst hw''
      have HBQ := Lib.hid (below_regrown V dq osq)
      generalize Go.Sort.grow (redrawn V dq) osq = WQ at *
      go_wp2
      go_ret
      exact HF.out _ _ HBQ.out (HW.out.symm)

set_option maxHeartbeats 1000000 in
theorem validType_any (t : Ty) (w : World) : Calls Tryz.prog 46 #[encT t] w fun e w' => e = .returned (.bool (vldT t)) ∧ Below w.heap.size w w' := by
  obtain ⟨k, sc, nl⟩ := t
  unfold encT
  dsimp only
  obtain ⟨b, hb⟩ : ∃ b, vldT ⟨k, sc, nl⟩ = b := ⟨_, rfl⟩
  rw [hb]
  by_cases h1 : k = 1
  · subst h1
    have hb : decide (sc = 0) = b := hb
    have hb : (sc == 0) = b := by rw [← hb]; by_cases h : sc = 0 <;> simp [h]
    go_enter Tryz.func46, Tryz.ntmps46
    go_wp2
    go_ret
    exact ⟨rfl, (Below.refl _ _).alloc (Nat.le_refl _) _⟩
  · by_cases h3 : k = 3
    · subst h3
      have hb : decide (sc = 0) = b := hb
      have hb : (sc == 0) = b := by rw [← hb]; by_cases h : sc = 0 <;> simp [h]
      go_enter Tryz.func46, Tryz.ntmps46
      go_wp2
      go_ret
      exact ⟨rfl, (Below.refl _ _).alloc (Nat.le_refl _) _⟩
    · by_cases h2 : k = 2
      · subst h2
        have hb : decide (0 ≤ sc ∧ sc ≤ 6) = b := hb
        by_cases hl : 0 ≤ sc
        · by_cases hh : sc ≤ 6
          · have HE : Hid (b = true) := by show _ = _; rw [← hb]; exact decide_eq_true ⟨hl, hh⟩
            go_enter Tryz.func46, Tryz.ntmps46
            go_wp2
            go_ret
            exact ⟨ret_bool HE.out.symm, (Below.refl _ _).alloc (Nat.le_refl _) _⟩
          · have HE : Hid (b = false) := by show _ = _; rw [← hb]; exact decide_eq_false fun h => hh h.2
            go_enter Tryz.func46, Tryz.ntmps46
            go_wp2
            go_ret
            exact ⟨ret_bool HE.out.symm, (Below.refl _ _).alloc (Nat.le_refl _) _⟩
        · have HE : Hid (b = false) := by show _ = _; rw [← hb]; exact decide_eq_false fun h => hl h.1
          go_enter Tryz.func46, Tryz.ntmps46
          go_wp2
          go_ret
          exact ⟨ret_bool HE.out.symm, (Below.refl _ _).alloc (Nat.le_refl _) _⟩
      · have HE : Hid (b = false) := by show _ = _; rw [← hb]; simp [vldT, h1, h2, h3]
        have e1 : (k == 1) = false := by simpa using h1
        have e2 : (k == 2) = false := by simpa using h2
        have e3 : (k == 3) = false := by simpa using h3
        go_enter Tryz.func46, Tryz.ntmps46
        go_wp2
        go_ret
        exact ⟨ret_bool HE.out.symm, (Below.refl _ _).alloc (Nat.le_refl _) _⟩

end Go.Proofs.YtocnkjnlmciojaaGreatDoor
