/-
  Which types are valid, and which values they have, for the reference.
-/
import Derived.Test.YtocnkjnlmciojaaGreatDoorVlRWide
import Derived.Test.YtocnkjnlmciojaaGreatDoorVlHas
import Derived.Lib.QuietBelow
import Derived.BigQuiet
namespace Go.Proofs.YtocnkjnlmciojaaGreatDoor
open Go Go.RowKit Go.Shelf Go.ChangeShapes Go.WideShapes Go.ChangeAt

set_option maxRecDepth 100000 in
set_option maxHeartbeats 1000000 in
theorem rvalidType_any (t : Ty) (w : World) : Calls Tryz.prog 47 #[encT t] w fun e w' => e = .returned (.bool (vldT t)) ∧ Below w.heap.size w w' := by
  obtain ⟨k, sc, nl⟩ := t
  unfold encT
  dsimp only
  have HB0 := Lib.hid ((Below.refl w.heap.size w).alloc (Nat.le_refl _) (.cells #[.int .i64 k, .int .i64 sc, .bool nl] 41))
  by_cases h2 : k = 2
  · subst h2
    by_cases hl : 0 ≤ sc
    · have HV : Hid (vldT ⟨2, sc, nl⟩ = decide (sc ≤ 6)) := by show _ = _; unfold vldT; simp [hl]
      go_enter Tryz.func47, Tryz.ntmps47
      go_wp2
      go_ret
      exact ⟨ret_bool HV.out.symm, HB0.out⟩
    · have HV : Hid (vldT ⟨2, sc, nl⟩ = false) := by show _ = _; unfold vldT; simp [hl]
      go_enter Tryz.func47, Tryz.ntmps47
      go_wp2
      go_ret
      exact ⟨ret_bool HV.out.symm, HB0.out⟩
  · have e2 : (k == 2) = false := by simpa using h2
    by_cases h1 : k = 1
    · subst h1
      have HV : Hid (vldT ⟨1, sc, nl⟩ = (sc == 0)) := by show _ = _; unfold vldT; by_cases h : sc = 0 <;> simp [h]
      go_enter Tryz.func47, Tryz.ntmps47
      go_wp2
      go_ret
      exact ⟨ret_bool HV.out.symm, HB0.out⟩
    · have e1 : (k == 1) = false := by simpa using h1
      by_cases h3 : k = 3
      · subst h3
        have HV : Hid (vldT ⟨3, sc, nl⟩ = (sc == 0)) := by show _ = _; unfold vldT; by_cases h : sc = 0 <;> simp [h]
        go_enter Tryz.func47, Tryz.ntmps47
        go_wp2
        go_ret
        exact ⟨ret_bool HV.out.symm, HB0.out⟩
      · have e3 : (k == 3) = false := by simpa using h3
        have HV : Hid (vldT ⟨k, sc, nl⟩ = false) := by show _ = _; unfold vldT; simp [h1, h2, h3]
        go_enter Tryz.func47, Tryz.ntmps47
        go_wp2
        go_ret
        exact ⟨ret_bool HV.out.symm, HB0.out⟩

set_option maxRecDepth 100000 in
set_option maxHeartbeats 1000000 in
theorem rstep6_any (s : Nat) (h6 : s ≤ 6) (w : World) : Calls Tryz.prog 91 #[.int .i64 (s : Int)] w fun e w' => e = .returned (.int .i64 (De.unitN s : Int)) ∧ w' = w := by
  go_enter Tryz.func91, Tryz.ntmps91
  go_wp2
  go_loop [3, 4] (fun n i => ∃ k : Nat, k ≤ s ∧ i = .int .i64 (k : Int) ∧ n = .int .i64 (De.unitN k : Int)) (fun _ i => (s - (intOf i).toNat))
  case atStart => exact ⟨0, by omega, by go_num, by rfl⟩
  case round =>
    obtain ⟨k, hk, rfl, rfl⟩ := hrel
    by_cases hlt : k < s
    · have hkI : (k : Int) < (s : Int) := by omega
      obtain ⟨u, hu⟩ : ∃ u : Int, (De.unitN k : Int) = u := ⟨_, rfl⟩
      have HU2 : Hid ((De.unitN (k + 1) : Int) = u.tdiv 10 ∧ (De.unitN (k + 1) : Int) = u / 10 ∧ wrap64 (u.tdiv 10) = u / 10 ∧ IntKind.i64.wrap (u.tdiv 10) = u / 10) := by
        show _ ∧ _
        rw [← hu]
        have : k = 0 ∨ k = 1 ∨ k = 2 ∨ k = 3 ∨ k = 4 ∨ k = 5 := by omega
        rcases this with rfl | rfl | rfl | rfl | rfl | rfl <;> exact ⟨by decide, by decide, by kernel_rfl, by kernel_rfl⟩
      rw [hu]
      have hw1 := HU2.out.2.2.1
      have hw2 := HU2.out.2.2.2
      clear hu
      go_wp2
      go_round
      case rel => exact ⟨k + 1, by omega, by go_num, by rw [HU2.out.2.1]⟩
      case measure => simp [intOf]; omega
    · obtain rfl : k = s := by omega
      go_wp2
      go_ret
      exact ⟨rfl, rfl⟩

set_option maxRecDepth 100000 in
set_option maxHeartbeats 1000000 in
theorem rhas_any (t : Ty) (v : Vl) (ht : t.Ok) (hv : v.Ok) (w : World) (hV : De.Vars w) : Calls Tryz.prog 35 #[encT t, encV v] w fun e w' => e = .returned (.bool (hasV t v)) ∧ Below w.heap.size w w' := by
  have HA : Hid (∀ W : World, Calls Tryz.prog 31 #[encV v] W fun e w' => e = .returned (.bool (vldV v)) ∧ Below W.heap.size W w') := fun W => rvalid_any v hv W
  have HB : Hid (∀ W : World, Calls Tryz.prog 47 #[encT t] W fun e w' => e = .returned (.bool (vldT t)) ∧ Below W.heap.size W w') := fun W => rvalidType_any t W
  have HG := Lib.hid (@has_good t v)
  have HN := Lib.hid (@has_bad t v)
  obtain ⟨res, hres⟩ : ∃ b, hasV t v = b := ⟨_, rfl⟩
  rw [hres] at HG HN ⊢
  obtain ⟨bv, hbv⟩ : ∃ b, vldV v = b := ⟨_, rfl⟩
  obtain ⟨bt, hbt⟩ : ∃ b, vldT t = b := ⟨_, rfl⟩
  rw [hbv] at HA HG HN
  rw [hbt] at HB HG HN
  have HVT : Hid (vldT t = bt) := hbt
  clear hbv hbt hres
  obtain ⟨tk, sc, nl⟩ := t
  obtain ⟨k, i, s⟩ := v
  have hi : I64 i := hv.i
  have hsc : I64 sc := ht.scale
  clear hv ht
  unfold encV at HA ⊢
  unfold encT at HB ⊢
  dsimp only at HA HB HG HN ⊢
  have hT := Trio.new w 41 (.int .i64 tk) (.int .i64 sc) (.bool nl)
  have hb1 := (Below.refl w.heap.size w).alloc (Nat.le_refl _) (.cells #[.int .i64 tk, .int .i64 sc, .bool nl] 41)
  have hT1 := hT.below (V := (w.alloc (.cells #[.int .i64 tk, .int .i64 sc, .bool nl] 41)).alloc (.cells #[.int .i64 k, .int .i64 i, .string (bsOf s)] 45)) ((Below.refl (w.alloc (.cells #[.int .i64 tk, .int .i64 sc, .bool nl] 41)).heap.size _).alloc (Nat.le_refl _) _) hT.lt
  have HB0 := Lib.hid (hb1.alloc (by simp) (.cells #[.int .i64 k, .int .i64 i, .string (bsOf s)] 45))
  have hT2 := Trio.new (w.alloc (.cells #[.int .i64 tk, .int .i64 sc, .bool nl] 41)) 45 (.int .i64 k) (.int .i64 i) (.string (bsOf s))
  rw [World.size_alloc] at hT2
  have HT1 := Lib.hid hT1
  have HT2 := Lib.hid hT2
  have HVA := Lib.hid hV
  clear hT hT1 hT2 hb1 hV
  go_enter Tryz.func35, Tryz.ntmps35
  go_wp2_with fail
  obtain ⟨B, hB⟩ : ∃ B, w.heap.size = B := ⟨_, rfl⟩
  rw [hB] at HT1 HT2 ⊢
  have HZ := Lib.hid hB
  clear hB
  generalize (w.alloc (.cells #[.int .i64 tk, .int .i64 sc, .bool nl] 41)).alloc (.cells #[.int .i64 k, .int .i64 i, .string (bsOf s)] 45) = V at *
  rw [← HZ.out]
  refine (HB.out _).mono ?_
  rintro e w1 ⟨rfl, hb⟩
  have HB1 : Hid (Below w.heap.size w w1) := HB0.out.trans (hb.mono HB0.out.size)
  have ht1 := HT1.out.below hb HT1.out.lt
  have ht2 := HT2.out.below hb HT2.out.lt
  have HW1 := Lib.hid (HVA.out.below HB1.out)
  clear hb HB0 HT1 HT2 HVA
  have HT1 := Lib.hid ht1
  have HT2 := Lib.hid ht2
  have c0 := ht1.c0
  have c1 := ht1.c1
  have c2 := ht1.c2
  have d0 := ht2.c0
  have d1 := ht2.c1
  have d2 := ht2.c2
  clear ht1 ht2
  rw [HZ.out]
  cases bt with
  | false =>
    have HE := Lib.hid (HN.out (.inl rfl))
    go_wp2
    go_ret
    exact ⟨ret_bool HE.out.symm, HB1.out⟩
  | true =>
    go_wp2_with fail
    refine (HA.out _).mono ?_
    rintro e w2 ⟨rfl, hb⟩
    have HB2 : Hid (Below w.heap.size w w2) := HB1.out.trans (hb.mono HB1.out.size)
    have ht1 := HT1.out.below hb HT1.out.lt
    have ht2 := HT2.out.below hb HT2.out.lt
    have HW2 := Lib.hid (HW1.out.below hb)
    clear hb HB1 HW1 HT1 HT2 c0 c1 c2 d0 d1 d2
    have HT1 := Lib.hid ht1
    have HT2 := Lib.hid ht2
    have c0 := ht1.c0
    have c1 := ht1.c1
    have c2 := ht1.c2
    have d0 := ht2.c0
    have d1 := ht2.c1
    have d2 := ht2.c2
    clear ht1 ht2
    cases bv with
    | false =>
      have HE := Lib.hid (HN.out (.inr rfl))
      go_wp2
      go_ret
      exact ⟨ret_bool HE.out.symm, HB2.out⟩
    | true =>
      have HE := Lib.hid (HG.out (by simp) (by simp))
      clear HG HN
      by_cases h0 : k = 0
      · subst h0
        go_wp2
        go_ret
        exact ⟨ret_bool (by rw [HE.out]; simp), HB2.out⟩
      · have e0 : (k == 0) = false := by simpa using h0
        by_cases hkt : k = tk
        · subst hkt
          by_cases h2 : k = 2
          · subst h2
            have HSC : Hid (0 ≤ sc ∧ sc ≤ 6) := by
              have := HVT.out
              unfold vldT at this
              simp at this
              exact this
            obtain ⟨sn, rfl⟩ : ∃ sn : Nat, sc = (sn : Int) := ⟨sc.toNat, by have := HSC.out; omega⟩
            have hs6 : sn ≤ 6 := by have := HSC.out.2; omega
            have hup := De.unitN_pos sn
            have HST : Hid (∀ W : World, Calls Tryz.prog 91 #[.int .i64 (sn : Int)] W fun e w' => e = .returned (.int .i64 (De.unitN sn : Int)) ∧ Below W.heap.size W w') := fun W => (rstep6_any sn hs6 W).mono fun e w' ⟨he, hw⟩ => ⟨he, by rw [hw]; exact Below.self W⟩
            have HF : Hid (De.fitsB i (sn : Int) = decide (i.tmod (De.unitN sn : Int) = 0)) := by
              show _ = _
              unfold De.fitsB De.scaleB
              simp
              intro h; omega
            have hu0 : ¬ ((De.unitN sn : Int) = 0) := by omega
            have hu6 := De.unitN_le sn
            clear HSC HVT hsc
            generalize De.unitN sn = u at *
            have hun : (u : Int) ≠ -1 := by omega
            by_cases hm : i.tmod (u : Int) = 0
            all_goals
              have HR : Hid (res = decide (i.tmod (u : Int) = 0)) := by show _ = _; rw [HE.out, HF.out]; simp
              have hmB : (i.tmod (u : Int) == 0) = decide (i.tmod (u : Int) = 0) := by simp [hm]
              go_upto_region 5 with fail
              clear c0 c1 c2 d0 d1 d2
              have K0 := fun d os => cell_regrown HT1.out.c0 d os
              have K1 := fun d os => cell_regrown HT1.out.c1 d os
              have M0 := fun d os => cell_regrown HT2.out.c0 d os
              have M1 := fun d os => cell_regrown HT2.out.c1 d os
              refine wp_region_quiet_below (by kernel_rfl) (by kernel_rfl) ?_
              repeat (go_big_quiet_step (first | (go_at_call 91; with_reducible exact Calls.regrown_of (HST.out _))))
              refine wpQuiet_nil ?_
              intro _ hw'
              obtain ⟨⟨dq, osq⟩, hw''⟩ := hw'
              subst hw''
              have HBQ : Hid (Below w.heap.size w (Go.Sort.grow (redrawn w2 dq) osq)) := HB2.out.trans ((below_regrown w2 dq osq).mono HB2.out.size)
              generalize Go.Sort.grow (redrawn w2 dq) osq = WQ at *
              go_wp2
              go_ret
              exact ⟨ret_bool (by rw [HR.out]; simp [hm]), HBQ.out⟩
          · have e2 : (k == 2) = false := by simpa using h2
            have e2n : (k != 2) = true := by simpa using h2
            have HR : Hid (res = true) := by show _ = _; rw [HE.out, if_neg h0, if_neg h2]; simp
            have HST : Hid (∀ W : World, Calls Tryz.prog 91 #[.int .i64 (0 : Nat)] W fun e w' => e = .returned (.int .i64 (De.unitN 0 : Int)) ∧ Below W.heap.size W w') := fun W => (rstep6_any 0 (by decide) W).mono fun e w' ⟨he, hw⟩ => ⟨he, by rw [hw]; exact Below.self W⟩
            go_upto_region 5 with fail
            clear c0 c1 c2 d0 d1 d2
            have K0 := fun d os => cell_regrown HT1.out.c0 d os
            have K1 := fun d os => cell_regrown HT1.out.c1 d os
            have M0 := fun d os => cell_regrown HT2.out.c0 d os
            have M1 := fun d os => cell_regrown HT2.out.c1 d os
            refine wp_region_quiet_below (by kernel_rfl) (by kernel_rfl) ?_
            repeat (go_big_quiet_step (first | (go_at_call 91; with_reducible exact Calls.regrown_of (HST.out _))))
            refine wpQuiet_nil ?_
            intro _ hw'
            obtain ⟨⟨dq, osq⟩, hw''⟩ := hw'
            subst hw''
            have HBQ : Hid (Below w.heap.size w (Go.Sort.grow (redrawn w2 dq) osq)) := HB2.out.trans ((below_regrown w2 dq osq).mono HB2.out.size)
            generalize Go.Sort.grow (redrawn w2 dq) osq = WQ at *
            go_wp2
            go_ret
            exact ⟨ret_bool HR.out.symm, HBQ.out⟩
        · have ekt : (k == tk) = false := by simpa using hkt
          have HR : Hid (res = false) := by
            show _ = _
            rw [HE.out, if_neg h0]
            have h1 : ¬ tk = k := fun e => hkt e.symm
            by_cases h2 : k = 2
            · rw [if_pos h2]
              have : ¬ tk = 2 := fun e => hkt (h2.trans e.symm)
              simp [this]
            · rw [if_neg h2]; simp [h1]
          have HST : Hid (∀ W : World, Calls Tryz.prog 91 #[.int .i64 (0 : Nat)] W fun e w' => e = .returned (.int .i64 (De.unitN 0 : Int)) ∧ Below W.heap.size W w') := fun W => (rstep6_any 0 (by decide) W).mono fun e w' ⟨he, hw⟩ => ⟨he, by rw [hw]; exact Below.self W⟩
          go_upto_region 5 with fail
          clear c0 c1 c2 d0 d1 d2
          have K0 := fun d os => cell_regrown HT1.out.c0 d os
          have K1 := fun d os => cell_regrown HT1.out.c1 d os
          have M0 := fun d os => cell_regrown HT2.out.c0 d os
          have M1 := fun d os => cell_regrown HT2.out.c1 d os
          refine wp_region_quiet_below (by kernel_rfl) (by kernel_rfl) ?_
          repeat (go_big_quiet_step (first | (go_at_call 91; with_reducible exact Calls.regrown_of (HST.out _))))
          refine wpQuiet_nil ?_
          intro _ hw'
          obtain ⟨⟨dq, osq⟩, hw''⟩ := hw'
          subst hw''
          have HBQ : Hid (Below w.heap.size w (Go.Sort.grow (redrawn w2 dq) osq)) := HB2.out.trans ((below_regrown w2 dq osq).mono HB2.out.size)
          generalize Go.Sort.grow (redrawn w2 dq) osq = WQ at *
          go_wp2
          go_ret
          exact ⟨ret_bool HR.out.symm, HBQ.out⟩

end Go.Proofs.YtocnkjnlmciojaaGreatDoor
