/-
  The reference's products, quotients and sums.
-/
import Derived.Test.YtocnkjnlmciojaaGreatDoorR2Op
namespace Go.Proofs.YtocnkjnlmciojaaGreatDoor.De
open Go Go.RowKit Go.Shelf

theorem i64w {n : Int} (h1 : -9000000000000000000 ≤ n) (h2 : n ≤ 9000000000000000000) : wrap64 n = n ∧ IntKind.i64.wrap n = n := ⟨by unfold wrap64; omega, by rw [wrap_i64]; omega⟩
theorem i64m {a b c : Nat} (h : a * b = c) (hc : c ≤ 9000000000000000000) : wrap64 ((a : Int) * (b : Int)) = (c : Int) ∧ IntKind.i64.wrap ((a : Int) * (b : Int)) = (c : Int) := by
  rw [← Int.natCast_mul, h]; exact i64w (by omega) (by omega)
theorem i64a {a b c : Nat} (h : a + b = c) (hc : c ≤ 9000000000000000000) : wrap64 ((a : Int) + (b : Int)) = (c : Int) ∧ IntKind.i64.wrap ((a : Int) + (b : Int)) = (c : Int) := by
  rw [← Int.natCast_add, h]; exact i64w (by omega) (by omega)
theorem i64q {a b c : Nat} (h : a / b = c) (hc : c ≤ 9000000000000000000) : (a : Int).tdiv (b : Int) = (c : Int) ∧ wrap64 (c : Int) = (c : Int) ∧ IntKind.i64.wrap (c : Int) = (c : Int) := by
  refine ⟨?_, i64w (by omega) (by omega)⟩
  rw [← h]; rfl
theorem i64r {a b c : Nat} (h : a % b = c) (hc : c ≤ 9000000000000000000) : (a : Int).tmod (b : Int) = (c : Int) ∧ wrap64 (c : Int) = (c : Int) ∧ IntKind.i64.wrap (c : Int) = (c : Int) := by
  refine ⟨?_, i64w (by omega) (by omega)⟩
  rw [← h]; rfl

set_option maxRecDepth 100000 in
set_option maxHeartbeats 4000000 in
theorem rmulin_any (a b : Int) (w : World) : Calls Tryz.prog 11 #[.int .i64 a, .int .i64 b] w fun e w' => e = .returned (.agg #[.int .i64 (mulS a b).1, .int .i64 (mulS a b).2]) ∧ Below w.heap.size w w' := by
  have HB0 : Hid (Below w.heap.size w (w.alloc (.cells #[.int .i64 0, .int .i64 0] 30))) := (Below.self w).alloc (Nat.le_refl _) _
  have HK0 := Lib.hid (Two.new w 30 (.int .i64 0) (.int .i64 0))
  have HVA := Lib.hid (rvalid2_any a)
  have HVB := Lib.hid (rvalid2_any b)
  cases hv : validB a with
  | false =>
    rw [hv] at HVA
    rw [show mulS a b = (0, 2) by unfold mulS; rw [hv]; rfl]
    clear hv
    go_enter Tryz.func11, Tryz.ntmps11
    go_wp2_with (go_at_call 17; (with_reducible refine (HVA.out _).mono ?_); rintro e w1 ⟨rfl, rfl⟩)
    exact bodyPost_ret (v := .agg #[.int .i64 0, .int .i64 2]) (by simp [results, Tryz.results11, go_sem]) rfl ⟨rfl, (Below.self w).alloc (Nat.le_refl _) _⟩
  | true =>
    rw [hv] at HVA
    cases hu : validB b with
    | false =>
      rw [hu] at HVB
      rw [show mulS a b = (0, 2) by unfold mulS; rw [hv, hu]; rfl]
      clear hv hu
      go_enter Tryz.func11, Tryz.ntmps11
      go_wp2_with (first | (go_at_call 17; (with_reducible refine (HVA.out _).mono ?_); rintro e w1 ⟨rfl, rfl⟩) | (go_at_call 17; (with_reducible refine (HVB.out _).mono ?_); rintro e w1 ⟨rfl, rfl⟩))
      exact bodyPost_ret (v := .agg #[.int .i64 0, .int .i64 2]) (by simp [results, Tryz.results11, go_sem]) rfl ⟨rfl, (Below.self w).alloc (Nat.le_refl _) _⟩
    | true =>
      rw [hu] at HVB
      rw [mulS_valid hv hu]
      have h1 := validB_true hv
      have h2 := validB_true hu
      have HAA := Lib.hid (rabs_any a hv)
      have HAB := Lib.hid (rabs_any b hu)
      obtain ⟨p, q, r, s, A, B, C, T, R, W, M⟩ := mulParts (x := a.natAbs) (y := b.natAbs) (by omega) (by omega)
      have HBIG : Hid (1000000000000000 < W → mulDivS a b 1000000 = (0, 2)) := fun h => mulDiv_big M.mW h
      have HCHK : Hid (mulDivS a b 1000000 = chk (sgn (sigB a b) (evenN W R 1000000))) := by
        have := mulDiv_chk (a := a) (b := b) (c := 1000000) M.mW M.rest
        rw [sig_mul] at this
        exact this
      have HGR := Lib.hid (@mul_great a.natAbs r)
      have HSM := Lib.hid (@mul_small a.natAbs r)
      clear hv hu h1 h2
      obtain ⟨mp, mq, mr, ms, mA, mB, mT, mC, mR, mW, sum, rest, bB, bT, bR, bp, bq, br, bs⟩ := M
      have hxM : a.natAbs * r = A := mA
      rw [hxM] at HGR HSM
      have hr0 : r = 0 → A = 0 := fun h => by rw [← mA, h]; rfl
      clear mW rest
      generalize a.natAbs = x at *
      generalize b.natAbs = y at *
      have K1 : Hid ((x : Int).tdiv 1000000 = (p : Int) ∧ wrap64 (p : Int) = (p : Int) ∧ IntKind.i64.wrap (p : Int) = (p : Int)) := i64q mp (by omega)
      have K2 : Hid ((x : Int).tmod 1000000 = (q : Int) ∧ wrap64 (q : Int) = (q : Int) ∧ IntKind.i64.wrap (q : Int) = (q : Int)) := i64r mq (by omega)
      have K3 : Hid ((y : Int).tdiv 1000000 = (r : Int) ∧ wrap64 (r : Int) = (r : Int) ∧ IntKind.i64.wrap (r : Int) = (r : Int)) := i64q mr (by omega)
      have K4 : Hid ((y : Int).tmod 1000000 = (s : Int) ∧ wrap64 (s : Int) = (s : Int) ∧ IntKind.i64.wrap (s : Int) = (s : Int)) := i64r ms (by omega)
      have K6 := Lib.hid (i64m mB (by omega))
      have K7 := Lib.hid (i64m mT (by omega))
      have K8 : Hid ((T : Int).tdiv 1000000 = (C : Int) ∧ wrap64 (C : Int) = (C : Int) ∧ IntKind.i64.wrap (C : Int) = (C : Int)) := i64q mC (by omega)
      have K9 : Hid ((T : Int).tmod 1000000 = (R : Int) ∧ wrap64 (R : Int) = (R : Int) ∧ IntKind.i64.wrap (R : Int) = (R : Int)) := i64r mR (by omega)
      obtain ⟨V, hV⟩ : ∃ V, 2 * R = V := ⟨_, rfl⟩
      have K10 : Hid (wrap64 (2 * (R : Int)) = (V : Int) ∧ IntKind.i64.wrap (2 * (R : Int)) = (V : Int)) := i64m (a := 2) hV (by omega)
      have HT : Hid (1000000000000000 < A → mulDivS a b 1000000 = (0, 2)) := fun h => HBIG.out (by omega)
      have HF : Hid (A ≤ 1000000000000000 → W ≤ 8000000000000000 ∧ ∃ E, evenN W R 1000000 = E ∧ E ≤ 9000000000000000000 ∧ mulDivS a b 1000000 = chk (sgn (sigB a b) E)) := fun h => by
        have := evenN_le W R 1000000
        exact ⟨by omega, _, rfl, by omega, HCHK.out⟩
      have HNN : Hid (∀ D, 1000000000000000 / r = D → 0 < r → (D < x → mulDivS a b 1000000 = (0, 2)) ∧ (¬ D < x → A ≤ 1000000000000000)) := fun D hD h0 => by
        subst hD
        exact ⟨fun h => HT.out (HGR.out h0 h), fun h => HSM.out h0 (by omega)⟩
      have HEV0 : Hid (W ≤ 9000000000000000 → ∀ w, Calls Tryz.prog 61 #[.int .i64 (W : Int), .int .i64 (V : Int), .int .i64 1000000] w fun e w' => e = .returned (.int .i64 (evenN W R 1000000 : Int)) ∧ w' = w) := fun h w => by rw [← hV]; exact reven_any W R 1000000 h w
      have HSG0 := Lib.hid (fun E h => rsigned_any E h a b)
      have HA0 : Hid (∀ h : A ≤ 1000000000000000, (wrap64 ((x : Int) * (r : Int)) = (A : Int) ∧ IntKind.i64.wrap ((x : Int) * (r : Int)) = (A : Int)) ∧ ∃ U, A + B = U ∧ (wrap64 ((A : Int) + (B : Int)) = (U : Int) ∧ IntKind.i64.wrap ((A : Int) + (B : Int)) = (U : Int)) ∧ (wrap64 ((U : Int) + (C : Int)) = (W : Int) ∧ IntKind.i64.wrap ((U : Int) + (C : Int)) = (W : Int))) := fun h => ⟨i64m hxM (by omega), _, rfl, i64a rfl (by omega), i64a sum (by omega)⟩
      clear mA mB mC mT mR sum bB bT bR bp bq bs HBIG HGR HSM HT HCHK hxM hV mp mq mr ms
      by_cases h0 : 0 < r
      · have h0I : (r : Int) > 0 := by omega
        have hrn : ¬ (r : Int) = 0 := by omega
        obtain ⟨D, hD⟩ : ∃ D, 1000000000000000 / r = D := ⟨_, rfl⟩
        have K5 : Hid ((1000000000000000 : Int).tdiv (r : Int) = (D : Int) ∧ wrap64 (D : Int) = (D : Int) ∧ IntKind.i64.wrap (D : Int) = (D : Int)) := i64q (a := 1000000000000000) hD (by
          have := Nat.div_le_self 1000000000000000 r
          omega)
        obtain ⟨j1, j2⟩ := HNN.out D hD h0
        clear hD HNN
        by_cases hb : D < x
        · have hbI : (x : Int) > (D : Int) := by omega
          rw [j1 hb]
          clear j1 j2 HA0 HF h0 hr0
          obtain ⟨k1, k1a, k1b⟩ := K1.out
          obtain ⟨k2, k2a, k2b⟩ := K2.out
          obtain ⟨k3, k3a, k3b⟩ := K3.out
          obtain ⟨k4, k4a, k4b⟩ := K4.out
          go_enter Tryz.func11, Tryz.ntmps11
          go_upto_region 5 with (first | (go_at_call 17; (with_reducible refine (HVA.out _).mono ?_); rintro e w1 ⟨rfl, rfl⟩) | (go_at_call 17; (with_reducible refine (HVB.out _).mono ?_); rintro e w1 ⟨rfl, rfl⟩) | (go_at_call 60; (with_reducible refine (HAA.out _).mono ?_); rintro e w1 ⟨rfl, rfl⟩) | (go_at_call 60; (with_reducible refine (HAB.out _).mono ?_); rintro e w1 ⟨rfl, rfl⟩))
          clear k1 k1a k1b K1 k2 k2a k2b K2 k3 k3a k3b K3 k4 k4a k4b K4
          obtain ⟨k5, k5a, k5b⟩ := K5.out
          clear HAA HAB
          go_wp2_with fail
          exact bodyPost_ret (v := .agg #[.int .i64 0, .int .i64 2]) (by simp [results, Tryz.results11, go_sem]) rfl ⟨rfl, (Below.self w).alloc (Nat.le_refl _) _⟩
        · have hbI : ¬ (x : Int) > (D : Int) := by omega
          have hA := j2 hb
          obtain ⟨hW, E, hE, hE9, hres⟩ := HF.out hA
          have HA1 := Lib.hid (HA0.out hA)
          rw [hres]
          have HEV := Lib.hid (fun w => HEV0.out (by omega) w)
          rw [hE] at HEV
          have HSG := Lib.hid (HSG0.out E hE9)
          clear j1 j2 HF h0 hr0 hA hres hE hE9 hW HEV0 HSG0 HA0
          generalize sgn (sigB a b) E = z at *
          have HC := Lib.hid (rchecked_any z)
          generalize chk z = rr at HC ⊢
          obtain ⟨r1, r2⟩ := rr
          obtain ⟨k1, k1a, k1b⟩ := K1.out
          obtain ⟨k2, k2a, k2b⟩ := K2.out
          obtain ⟨k3, k3a, k3b⟩ := K3.out
          obtain ⟨k4, k4a, k4b⟩ := K4.out
          go_enter Tryz.func11, Tryz.ntmps11
          go_upto_region 5 with (first | (go_at_call 17; (with_reducible refine (HVA.out _).mono ?_); rintro e w1 ⟨rfl, rfl⟩) | (go_at_call 17; (with_reducible refine (HVB.out _).mono ?_); rintro e w1 ⟨rfl, rfl⟩) | (go_at_call 60; (with_reducible refine (HAA.out _).mono ?_); rintro e w1 ⟨rfl, rfl⟩) | (go_at_call 60; (with_reducible refine (HAB.out _).mono ?_); rintro e w1 ⟨rfl, rfl⟩))
          clear k1 k1a k1b K1 k2 k2a k2b K2 k3 k3a k3b K3 k4 k4a k4b K4
          obtain ⟨k5, k5a, k5b⟩ := K5.out
          go_upto_region 7 with fail
          clear k5 k5a k5b K5
          obtain ⟨⟨k11, k11a⟩, U, -, ⟨k12, k12a⟩, k13, k13a⟩ := HA1.out
          obtain ⟨k6, k6a⟩ := K6.out
          obtain ⟨k7, k7a⟩ := K7.out
          obtain ⟨k8, k8a, k8b⟩ := K8.out
          obtain ⟨k9, k9a, k9b⟩ := K9.out
          obtain ⟨k10, k10a⟩ := K10.out
          clear HA1 K6 K7 K8 K9 K10 HAA HAB HVA HVB
          go_wp2_with (first | (go_at_call 61; (with_reducible refine (HEV.out _).mono ?_); rintro e w1 ⟨rfl, rfl⟩) | (go_at_call 62; (with_reducible refine (HSG.out _).mono ?_); rintro e w1 ⟨rfl, rfl⟩) | (go_at_call 57; (with_reducible refine (HC.out _).mono ?_); rintro e w1 ⟨rfl, hb1⟩; have hb2 := HB0.out.trans (hb1.mono HB0.out.size); have hK1 := HK0.out.below hb1 HK0.out.lt; have z0 := hK1.c0; have z1 := hK1.c1; have g0 := hK1.f 0; have g1 := hK1.f 1))
          exact bodyPost_ret (v := .agg #[.int .i64 r1, .int .i64 r2]) (by simp [results, Tryz.results11, go_sem, z0, z1]) rfl ⟨rfl, below_put2 hb2 (Nat.le_refl _) _ _⟩
      · have h0I : ¬ (r : Int) > 0 := by omega
        have hA : A ≤ 1000000000000000 := by rw [hr0 (by omega)]; decide
        obtain ⟨hW, E, hE, hE9, hres⟩ := HF.out hA
        have HA1 := Lib.hid (HA0.out hA)
        rw [hres]
        have HEV := Lib.hid (fun w => HEV0.out (by omega) w)
        rw [hE] at HEV
        have HSG := Lib.hid (HSG0.out E hE9)
        clear HF h0 hr0 hA hres hE hE9 hW HEV0 HSG0 HA0 HNN
        generalize sgn (sigB a b) E = z at *
        have HC := Lib.hid (rchecked_any z)
        generalize chk z = rr at HC ⊢
        obtain ⟨r1, r2⟩ := rr
        obtain ⟨k1, k1a, k1b⟩ := K1.out
        obtain ⟨k2, k2a, k2b⟩ := K2.out
        obtain ⟨k3, k3a, k3b⟩ := K3.out
        obtain ⟨k4, k4a, k4b⟩ := K4.out
        go_enter Tryz.func11, Tryz.ntmps11
        go_upto_region 5 with (first | (go_at_call 17; (with_reducible refine (HVA.out _).mono ?_); rintro e w1 ⟨rfl, rfl⟩) | (go_at_call 17; (with_reducible refine (HVB.out _).mono ?_); rintro e w1 ⟨rfl, rfl⟩) | (go_at_call 60; (with_reducible refine (HAA.out _).mono ?_); rintro e w1 ⟨rfl, rfl⟩) | (go_at_call 60; (with_reducible refine (HAB.out _).mono ?_); rintro e w1 ⟨rfl, rfl⟩))
        clear k1 k1a k1b K1 k2 k2a k2b K2 k3 k3a k3b K3 k4 k4a k4b K4
        go_upto_region 7 with fail
        obtain ⟨⟨k11, k11a⟩, U, -, ⟨k12, k12a⟩, k13, k13a⟩ := HA1.out
        obtain ⟨k6, k6a⟩ := K6.out
        obtain ⟨k7, k7a⟩ := K7.out
        obtain ⟨k8, k8a, k8b⟩ := K8.out
        obtain ⟨k9, k9a, k9b⟩ := K9.out
        obtain ⟨k10, k10a⟩ := K10.out
        clear HA1 K6 K7 K8 K9 K10 HAA HAB HVA HVB
        go_wp2_with (first | (go_at_call 61; (with_reducible refine (HEV.out _).mono ?_); rintro e w1 ⟨rfl, rfl⟩) | (go_at_call 62; (with_reducible refine (HSG.out _).mono ?_); rintro e w1 ⟨rfl, rfl⟩) | (go_at_call 57; (with_reducible refine (HC.out _).mono ?_); rintro e w1 ⟨rfl, hb1⟩; have hb2 := HB0.out.trans (hb1.mono HB0.out.size); have hK1 := HK0.out.below hb1 HK0.out.lt; have z0 := hK1.c0; have z1 := hK1.c1; have g0 := hK1.f 0; have g1 := hK1.f 1))
        exact bodyPost_ret (v := .agg #[.int .i64 r1, .int .i64 r2]) (by simp [results, Tryz.results11, go_sem, z0, z1]) rfl ⟨rfl, below_put2 hb2 (Nat.le_refl _) _ _⟩

end Go.Proofs.YtocnkjnlmciojaaGreatDoor.De
