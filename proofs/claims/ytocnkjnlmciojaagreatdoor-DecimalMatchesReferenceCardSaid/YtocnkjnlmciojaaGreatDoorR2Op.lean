/-
  The reference's operations on numbers: absolute values, rounding, signs, sums, differences, products, quotients, truncations, comparisons.
-/
import Derived.Test.YtocnkjnlmciojaaGreatDoorR2Parse
import Derived.Test.YtocnkjnlmciojaaGreatDoorR2Md
import Derived.Test.YtocnkjnlmciojaaGreatDoorDecSum
namespace Go.Proofs.YtocnkjnlmciojaaGreatDoor.De
open Go Go.RowKit Go.Shelf

theorem rabs_any (n : Int) (hn : validB n = true) (w : World) : Calls Tryz.prog 60 #[.int .i64 n] w fun e w' => e = .returned (.int .i64 (n.natAbs : Int)) ∧ w' = w := by
  have h := validB_true hn
  by_cases h0 : n < 0
  · have e1 : wrap64 (-n) = -n := by unfold wrap64; omega
    have e2 : IntKind.i64.wrap (-n) = -n := by rw [wrap_i64]; omega
    have HE : Hid (-n = (n.natAbs : Int)) := by show _ = _; omega
    clear h hn
    go_enter Tryz.func60, Tryz.ntmps60
    go_wp2
    go_ret
    exact ⟨ret_int HE.out, rfl⟩
  · have HE : Hid (n = (n.natAbs : Int)) := by show _ = _; omega
    clear h hn
    go_enter Tryz.func60, Tryz.ntmps60
    go_wp2
    go_ret
    exact ⟨ret_int HE.out, rfl⟩

theorem reven_any (Q R B : Nat) (hQ : Q ≤ 9000000000000000) (w : World) : Calls Tryz.prog 61 #[.int .i64 (Q : Int), .int .i64 ((2 * R : Nat) : Int), .int .i64 (B : Int)] w fun e w' => e = .returned (.int .i64 (evenN Q R B : Int)) ∧ w' = w := by
  have e1 : wrap64 ((Q : Int) + 1) = (Q : Int) + 1 := by unfold wrap64; omega
  have e2 : IntKind.i64.wrap ((Q : Int) + 1) = (Q : Int) + 1 := by rw [wrap_i64]; omega
  obtain ⟨T, hT⟩ : ∃ T, 2 * R = T := ⟨_, rfl⟩
  rw [hT]
  by_cases h1 : B < T
  · have HG : Hid ((Q : Int) + 1 = (evenN Q R B : Int)) := by show _ = _; unfold evenN; rw [if_pos (.inl (by omega))]; omega
    clear hT hQ
    go_enter Tryz.func61, Tryz.ntmps61
    go_wp2
    go_ret
    exact ⟨ret_int HG.out, rfl⟩
  · by_cases h2 : T = B
    · by_cases h3 : Q % 2 = 1
      · have HG : Hid ((Q : Int) + 1 = (evenN Q R B : Int)) := by show _ = _; unfold evenN; rw [if_pos (.inr ⟨by omega, h3⟩)]; omega
        have h4 : (Q : Int).tmod 2 = 1 := by rw [Int.tmod_eq_emod_of_nonneg (by omega)]; omega
        subst h2
        clear hT hQ h3
        go_enter Tryz.func61, Tryz.ntmps61
        go_wp2
        go_ret
        exact ⟨ret_int HG.out, rfl⟩
      · have HG : Hid ((Q : Int) = (evenN Q R B : Int)) := by show _ = _; unfold evenN; rw [if_neg (by omega)]
        have h4 : (Q : Int).tmod 2 = 0 := by rw [Int.tmod_eq_emod_of_nonneg (by omega)]; omega
        subst h2
        clear hT hQ h3
        go_enter Tryz.func61, Tryz.ntmps61
        go_wp2
        go_ret
        exact ⟨ret_int HG.out, rfl⟩
    · have HG : Hid ((Q : Int) = (evenN Q R B : Int)) := by show _ = _; unfold evenN; rw [if_neg (by omega)]
      have h5 : ((T : Int) == (B : Int)) = false := by simp; omega
      clear hT hQ
      go_enter Tryz.func61, Tryz.ntmps61
      go_wp2
      go_ret
      exact ⟨ret_int HG.out, rfl⟩

theorem rsigned_any (n : Nat) (hn : n ≤ 9000000000000000000) (a b : Int) (w : World) : Calls Tryz.prog 62 #[.int .i64 (n : Int), .int .i64 a, .int .i64 b] w fun e w' => e = .returned (.int .i64 (sgn (sigB a b) n)) ∧ w' = w := by
  have e1 : wrap64 (-(n : Int)) = -(n : Int) := by unfold wrap64; omega
  have e2 : IntKind.i64.wrap (-(n : Int)) = -(n : Int) := by rw [wrap_i64]; omega
  unfold sgn sigB
  clear hn
  by_cases h0 : a < 0
  · by_cases h1 : b < 0
    · rw [decide_eq_true h0, decide_eq_true h1]
      go_enter Tryz.func62, Tryz.ntmps62
      go_wp2
      go_ret
      exact ⟨rfl, rfl⟩
    · rw [decide_eq_true h0, decide_eq_false h1]
      go_enter Tryz.func62, Tryz.ntmps62
      go_wp2
      go_ret
      exact ⟨rfl, rfl⟩
  · by_cases h1 : b < 0
    · rw [decide_eq_false h0, decide_eq_true h1]
      go_enter Tryz.func62, Tryz.ntmps62
      go_wp2
      go_ret
      exact ⟨rfl, rfl⟩
    · rw [decide_eq_false h0, decide_eq_false h1]
      go_enter Tryz.func62, Tryz.ntmps62
      go_wp2
      go_ret
      exact ⟨rfl, rfl⟩

theorem rchecked_any (n : Int) (w : World) : Calls Tryz.prog 57 #[.int .i64 n] w fun e w' => e = .returned (.agg #[.int .i64 (chk n).1, .int .i64 (chk n).2]) ∧ Below w.heap.size w w' := by
  have HVA := Lib.hid (rvalid2_any n)
  cases hv : validB n with
  | true =>
    rw [hv] at HVA
    rw [show chk n = (n, 0) by unfold chk; rw [hv]; rfl]
    clear hv
    go_enter Tryz.func57, Tryz.ntmps57
    go_wp2_with (go_at_call 17; (with_reducible refine (HVA.out _).mono ?_); rintro e w1 ⟨rfl, rfl⟩)
    exact bodyPost_ret (v := .agg #[.int .i64 n, .int .i64 0]) (by simp [results, Tryz.results57, go_sem]) rfl ⟨rfl, (Below.self w).alloc (Nat.le_refl _) _⟩
  | false =>
    rw [hv] at HVA
    rw [show chk n = (0, 2) by unfold chk; rw [hv]; rfl]
    clear hv
    go_enter Tryz.func57, Tryz.ntmps57
    go_wp2_with (go_at_call 17; (with_reducible refine (HVA.out _).mono ?_); rintro e w1 ⟨rfl, rfl⟩)
    exact bodyPost_ret (v := .agg #[.int .i64 0, .int .i64 2]) (by simp [results, Tryz.results57, go_sem]) rfl ⟨rfl, (Below.self w).alloc (Nat.le_refl _) _⟩

theorem raddin_any (a b : Int) (w : World) : Calls Tryz.prog 7 #[.int .i64 a, .int .i64 b] w fun e w' => e = .returned (.agg #[.int .i64 (addS a b).1, .int .i64 (addS a b).2]) ∧ Below w.heap.size w w' := by
  have HB0 : Hid (Below w.heap.size w (w.alloc (.cells #[.int .i64 0, .int .i64 0] 30))) := (Below.self w).alloc (Nat.le_refl _) _
  have HK0 := Lib.hid (Two.new w 30 (.int .i64 0) (.int .i64 0))
  have HVA := Lib.hid (rvalid2_any a)
  have HVB := Lib.hid (rvalid2_any b)
  cases hv : validB a with
  | false =>
    rw [hv] at HVA
    rw [show addS a b = (0, 2) by unfold addS; rw [hv]; rfl]
    clear hv
    go_enter Tryz.func7, Tryz.ntmps7
    go_wp2_with (go_at_call 17; (with_reducible refine (HVA.out _).mono ?_); rintro e w1 ⟨rfl, rfl⟩)
    exact bodyPost_ret (v := .agg #[.int .i64 0, .int .i64 2]) (by simp [results, Tryz.results7, go_sem]) rfl ⟨rfl, (Below.self w).alloc (Nat.le_refl _) _⟩
  | true =>
    rw [hv] at HVA
    cases hu : validB b with
    | false =>
      rw [hu] at HVB
      rw [show addS a b = (0, 2) by unfold addS; rw [hv, hu]; rfl]
      clear hv hu
      go_enter Tryz.func7, Tryz.ntmps7
      go_wp2_with (first | (go_at_call 17; (with_reducible refine (HVA.out _).mono ?_); rintro e w1 ⟨rfl, rfl⟩) | (go_at_call 17; (with_reducible refine (HVB.out _).mono ?_); rintro e w1 ⟨rfl, rfl⟩))
      exact bodyPost_ret (v := .agg #[.int .i64 0, .int .i64 2]) (by simp [results, Tryz.results7, go_sem]) rfl ⟨rfl, (Below.self w).alloc (Nat.le_refl _) _⟩
    | true =>
      rw [hu] at HVB
      rw [show addS a b = chk (a + b) by unfold addS; rw [hv, hu]; rfl]
      have h1 := validB_true hv
      have h2 := validB_true hu
      have e1 : wrap64 (a + b) = a + b := by unfold wrap64; omega
      have e2 : IntKind.i64.wrap (a + b) = a + b := by rw [wrap_i64]; omega
      have HC := Lib.hid (rchecked_any (a + b))
      generalize chk (a + b) = r at HC ⊢
      obtain ⟨r1, r2⟩ := r
      clear hv hu h1 h2
      go_enter Tryz.func7, Tryz.ntmps7
      go_wp2_with (first | (go_at_call 17; (with_reducible refine (HVA.out _).mono ?_); rintro e w1 ⟨rfl, rfl⟩) | (go_at_call 17; (with_reducible refine (HVB.out _).mono ?_); rintro e w1 ⟨rfl, rfl⟩) | (go_at_call 57; (with_reducible refine (HC.out _).mono ?_); rintro e w1 ⟨rfl, hb1⟩; have hb2 := HB0.out.trans (hb1.mono HB0.out.size); have hK1 := HK0.out.below hb1 HK0.out.lt; have z0 := hK1.c0; have z1 := hK1.c1; have g0 := hK1.f 0; have g1 := hK1.f 1))
      exact bodyPost_ret (v := .agg #[.int .i64 r1, .int .i64 r2]) (by simp [results, Tryz.results7, go_sem, z0, z1]) rfl ⟨rfl, below_put2 hb2 (Nat.le_refl _) _ _⟩

theorem rsubin_any (a b : Int) (w : World) : Calls Tryz.prog 9 #[.int .i64 a, .int .i64 b] w fun e w' => e = .returned (.agg #[.int .i64 (subS a b).1, .int .i64 (subS a b).2]) ∧ Below w.heap.size w w' := by
  have HB0 : Hid (Below w.heap.size w (w.alloc (.cells #[.int .i64 0, .int .i64 0] 30))) := (Below.self w).alloc (Nat.le_refl _) _
  have HK0 := Lib.hid (Two.new w 30 (.int .i64 0) (.int .i64 0))
  have HVA := Lib.hid (rvalid2_any a)
  have HVB := Lib.hid (rvalid2_any b)
  cases hv : validB a with
  | false =>
    rw [hv] at HVA
    rw [show subS a b = (0, 2) by unfold subS; rw [hv]; rfl]
    clear hv
    go_enter Tryz.func9, Tryz.ntmps9
    go_wp2_with (go_at_call 17; (with_reducible refine (HVA.out _).mono ?_); rintro e w1 ⟨rfl, rfl⟩)
    exact bodyPost_ret (v := .agg #[.int .i64 0, .int .i64 2]) (by simp [results, Tryz.results9, go_sem]) rfl ⟨rfl, (Below.self w).alloc (Nat.le_refl _) _⟩
  | true =>
    rw [hv] at HVA
    cases hu : validB b with
    | false =>
      rw [hu] at HVB
      rw [show subS a b = (0, 2) by unfold subS; rw [hv, hu]; rfl]
      clear hv hu
      go_enter Tryz.func9, Tryz.ntmps9
      go_wp2_with (first | (go_at_call 17; (with_reducible refine (HVA.out _).mono ?_); rintro e w1 ⟨rfl, rfl⟩) | (go_at_call 17; (with_reducible refine (HVB.out _).mono ?_); rintro e w1 ⟨rfl, rfl⟩))
      exact bodyPost_ret (v := .agg #[.int .i64 0, .int .i64 2]) (by simp [results, Tryz.results9, go_sem]) rfl ⟨rfl, (Below.self w).alloc (Nat.le_refl _) _⟩
    | true =>
      rw [hu] at HVB
      rw [show subS a b = chk (a - b) by unfold subS; rw [hv, hu]; rfl]
      have h1 := validB_true hv
      have h2 := validB_true hu
      have e1 : wrap64 (a - b) = a - b := by unfold wrap64; omega
      have e2 : IntKind.i64.wrap (a - b) = a - b := by rw [wrap_i64]; omega
      have HC := Lib.hid (rchecked_any (a - b))
      generalize chk (a - b) = r at HC ⊢
      obtain ⟨r1, r2⟩ := r
      clear hv hu h1 h2
      go_enter Tryz.func9, Tryz.ntmps9
      go_wp2_with (first | (go_at_call 17; (with_reducible refine (HVA.out _).mono ?_); rintro e w1 ⟨rfl, rfl⟩) | (go_at_call 17; (with_reducible refine (HVB.out _).mono ?_); rintro e w1 ⟨rfl, rfl⟩) | (go_at_call 57; (with_reducible refine (HC.out _).mono ?_); rintro e w1 ⟨rfl, hb1⟩; have hb2 := HB0.out.trans (hb1.mono HB0.out.size); have hK1 := HK0.out.below hb1 HK0.out.lt; have z0 := hK1.c0; have z1 := hK1.c1; have g0 := hK1.f 0; have g1 := hK1.f 1))
      exact bodyPost_ret (v := .agg #[.int .i64 r1, .int .i64 r2]) (by simp [results, Tryz.results9, go_sem, z0, z1]) rfl ⟨rfl, below_put2 hb2 (Nat.le_refl _) _ _⟩

theorem rcmpi_any (a b : Int) (w : World) : Calls Tryz.prog 15 #[.int .i64 a, .int .i64 b] w fun e w' => e = .returned (.int .i64 (Lib.compareInt a b)) ∧ w' = w := by
  by_cases h0 : a < b
  · have HR : Hid ((-1 : Int) = Lib.compareInt a b) := by show _ = _; unfold Lib.compareInt; rw [if_pos h0]
    go_enter Tryz.func15, Tryz.ntmps15
    go_wp2
    go_ret
    exact ⟨ret_int HR.out, rfl⟩
  · by_cases h1 : b < a
    · have HR : Hid ((1 : Int) = Lib.compareInt a b) := by show _ = _; unfold Lib.compareInt; rw [if_neg h0, if_pos h1]
      go_enter Tryz.func15, Tryz.ntmps15
      go_wp2
      go_ret
      exact ⟨ret_int HR.out, rfl⟩
    · have HR : Hid ((0 : Int) = Lib.compareInt a b) := by show _ = _; unfold Lib.compareInt; rw [if_neg h0, if_neg h1]
      go_enter Tryz.func15, Tryz.ntmps15
      go_wp2
      go_ret
      exact ⟨ret_int HR.out, rfl⟩

theorem trunc_sub (n : Int) (k : Nat) : n - n.tmod (unitN k : Int) = sgn (decide (n < 0)) (n.natAbs / unitN k) * (unitN k : Int) := by
  obtain ⟨u, hu⟩ : ∃ u, unitN k = u := ⟨_, rfl⟩
  rw [hu]
  have h1 : n - n.tmod (u : Int) = n.tdiv (u : Int) * (u : Int) := by
    have h := Int.mul_tdiv_add_tmod n (u : Int)
    rw [Int.mul_comm] at h
    omega
  rw [h1]
  by_cases h0 : n < 0
  · obtain ⟨m, rfl⟩ : ∃ m : Nat, n = -(m : Int) := ⟨n.natAbs, by omega⟩
    rw [decide_eq_true h0, Int.neg_tdiv, Int.natAbs_neg, Int.natAbs_natCast]
    rfl
  · obtain ⟨m, rfl⟩ : ∃ m : Nat, n = (m : Int) := ⟨n.natAbs, by omega⟩
    rw [decide_eq_false h0, Int.natAbs_natCast]
    rfl
theorem rtrunc_any (n s : Int) (hn : I64 n) (w : World) : Calls Tryz.prog 23 #[.int .i64 n, .int .i64 s] w fun e w' => e = .returned (.int .i64 (truncS n s)) ∧ w' = w := by
  have HSC := Lib.hid (rscaled_any s)
  cases hs : scaleB s with
  | false =>
    rw [hs] at HSC
    rw [show truncS n s = n by unfold truncS; rw [hs]; rfl]
    clear hs
    go_enter Tryz.func23, Tryz.ntmps23
    go_wp2_with (go_at_call 72; (with_reducible refine (HSC.out _).mono ?_); rintro e w1 ⟨rfl, rfl⟩)
    go_ret
    exact ⟨rfl, rfl⟩
  | true =>
    rw [hs] at HSC
    have h6 := scaleB_true hs
    rw [show truncS n s = sgn (decide (n < 0)) (n.natAbs / unitN s.toNat) * unitN s.toNat by unfold truncS; rw [hs]; rfl, ← trunc_sub]
    obtain ⟨k, rfl⟩ : ∃ k : Nat, s = (k : Int) := ⟨s.toNat, by omega⟩
    have HST := Lib.hid (rstep2_any k (by omega))
    rw [Int.toNat_natCast]
    have hup := unitN_pos k
    have hul := unitN_le k
    clear hs h6
    generalize unitN k = u at *
    have hu0 : ¬ (u : Int) = 0 := by omega
    have hq : ∃ t, n.tmod (u : Int) = t := ⟨_, rfl⟩
    obtain ⟨t, ht⟩ := hq
    have hn1 := hn.1
    have hn2 := hn.2
    have hb1 : n.tmod (u : Int) < (u : Int) := Int.tmod_lt_of_pos _ (by omega)
    have hb2 : -(u : Int) < n.tmod (u : Int) := Int.lt_tmod_of_pos _ (by omega)
    have hb3 : (0 ≤ n → 0 ≤ n.tmod (u : Int)) := fun h => Int.tmod_nonneg _ h
    have hb4 : (n ≤ 0 → n.tmod (u : Int) ≤ 0) := fun h => by
      obtain ⟨m, rfl⟩ : ∃ m : Nat, n = -(m : Int) := ⟨n.natAbs, by omega⟩
      rw [Int.neg_tmod]
      have := Int.tmod_nonneg (a := (m : Int)) (u : Int) (by omega)
      omega
    rw [ht] at hb1 hb2 hb3 hb4 ⊢
    have e1 : wrap64 t = t := by unfold wrap64; omega
    have e2 : IntKind.i64.wrap t = t := by rw [wrap_i64]; omega
    have e3 : wrap64 (n - t) = n - t := by unfold wrap64; by_cases h : 0 ≤ n <;> omega
    have e4 : IntKind.i64.wrap (n - t) = n - t := by rw [wrap_i64]; by_cases h : 0 ≤ n <;> omega
    clear hn hn1 hn2 hb1 hb2 hb3 hb4 hup hul
    go_enter Tryz.func23, Tryz.ntmps23
    go_wp2_with (first | (go_at_call 72; (with_reducible refine (HSC.out _).mono ?_); rintro e w1 ⟨rfl, rfl⟩) | (go_at_call 75; (with_reducible refine (HST.out _).mono ?_); rintro e w1 ⟨rfl, rfl⟩))
    go_ret
    exact ⟨rfl, rfl⟩

theorem rfits2_any (n s : Int) (w : World) : Calls Tryz.prog 25 #[.int .i64 n, .int .i64 s] w fun e w' => e = .returned (.bool (fitsB n s)) ∧ w' = w := by
  have HSC := Lib.hid (rscaled_any s)
  cases hs : scaleB s with
  | false =>
    rw [hs] at HSC
    rw [show fitsB n s = false by unfold fitsB; rw [hs]; rfl]
    clear hs
    go_enter Tryz.func25, Tryz.ntmps25
    go_wp2_with (go_at_call 72; (with_reducible refine (HSC.out _).mono ?_); rintro e w1 ⟨rfl, rfl⟩)
    go_ret
    exact ⟨rfl, rfl⟩
  | true =>
    rw [hs] at HSC
    have h6 := scaleB_true hs
    rw [show fitsB n s = decide (n.tmod (unitN s.toNat) = 0) by unfold fitsB; rw [hs]; rfl]
    obtain ⟨k, rfl⟩ : ∃ k : Nat, s = (k : Int) := ⟨s.toNat, by omega⟩
    have HST := Lib.hid (rstep2_any k (by omega))
    rw [Int.toNat_natCast]
    have hup := unitN_pos k
    have hul := unitN_le k
    clear hs h6
    generalize unitN k = u at *
    have hu0 : ¬ (u : Int) = 0 := by omega
    have hb1 : n.tmod (u : Int) < (u : Int) := Int.tmod_lt_of_pos _ (by omega)
    have hb2 : -(u : Int) < n.tmod (u : Int) := Int.lt_tmod_of_pos _ (by omega)
    obtain ⟨t, ht⟩ : ∃ t, n.tmod (u : Int) = t := ⟨_, rfl⟩
    rw [ht] at hb1 hb2 ⊢
    have e1 : wrap64 t = t := by unfold wrap64; omega
    have e2 : IntKind.i64.wrap t = t := by rw [wrap_i64]; omega
    clear hb1 hb2 hup hul
    by_cases h0 : t = 0
    · subst h0
      go_enter Tryz.func25, Tryz.ntmps25
      go_wp2_with (first | (go_at_call 72; (with_reducible refine (HSC.out _).mono ?_); rintro e w1 ⟨rfl, rfl⟩) | (go_at_call 75; (with_reducible refine (HST.out _).mono ?_); rintro e w1 ⟨rfl, rfl⟩))
      go_ret
      exact ⟨rfl, rfl⟩
    · rw [decide_eq_false h0]
      have h5 : (t == 0) = false := by simpa using h0
      go_enter Tryz.func25, Tryz.ntmps25
      go_wp2_with (first | (go_at_call 72; (with_reducible refine (HSC.out _).mono ?_); rintro e w1 ⟨rfl, rfl⟩) | (go_at_call 75; (with_reducible refine (HST.out _).mono ?_); rintro e w1 ⟨rfl, rfl⟩))
      go_ret
      exact ⟨rfl, rfl⟩

end Go.Proofs.YtocnkjnlmciojaaGreatDoor.De
