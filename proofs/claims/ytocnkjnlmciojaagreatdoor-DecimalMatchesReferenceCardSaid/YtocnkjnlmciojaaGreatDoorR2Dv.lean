/-
  The reference's quotients.
-/
import Derived.Test.YtocnkjnlmciojaaGreatDoorR2Mul
namespace Go.Proofs.YtocnkjnlmciojaaGreatDoor.De
open Go Go.RowKit Go.Shelf

theorem div_facts {a b : Int} {x y : Nat} (hx : a.natAbs = x) (hy : b.natAbs = y) (h0 : 0 < y) :
    (1000000000 < x / y → mulDivS a 1000000 b = (0, 2)) ∧ mulDivS a 1000000 b = chk (sgn (sigB a b) (evenN (x * 10 ^ 6 / y) (x * 10 ^ 6 % y) y)) := by
  have e1 : a.natAbs * (1000000 : Int).natAbs / b.natAbs = x * 10 ^ 6 / y := by rw [hx, hy]; rfl
  have e2 : a.natAbs * (1000000 : Int).natAbs % b.natAbs = x * 10 ^ 6 % y := by rw [hx, hy]; rfl
  refine ⟨fun h => mulDiv_big e1 (whole_big h0 rfl h), ?_⟩
  have := mulDiv_chk e1 e2
  rw [sig_div, hy] at this
  exact this
theorem place_facts {x y n rest k : Nat} (h0 : 0 < y) (hy : y ≤ 1000000000000000) (hk : k < 6) (hq : x / y ≤ 1000000000) (hn : n = x * 10 ^ k / y) (hr : rest = x * 10 ^ k % y) :
    ∃ N S Q n2 r2 : Nat, Hid (wrap64 (10 * (n : Int)) = (N : Int) ∧ IntKind.i64.wrap (10 * (n : Int)) = (N : Int)) ∧ Hid (wrap64 (10 * (rest : Int)) = (S : Int) ∧ IntKind.i64.wrap (10 * (rest : Int)) = (S : Int)) ∧
      Hid ((S : Int).tdiv (y : Int) = (Q : Int) ∧ wrap64 (Q : Int) = (Q : Int) ∧ IntKind.i64.wrap (Q : Int) = (Q : Int)) ∧ Hid ((S : Int).tmod (y : Int) = (r2 : Int) ∧ wrap64 (r2 : Int) = (r2 : Int) ∧ IntKind.i64.wrap (r2 : Int) = (r2 : Int)) ∧
      Hid (wrap64 ((N : Int) + (Q : Int)) = (n2 : Int) ∧ IntKind.i64.wrap ((N : Int) + (Q : Int)) = (n2 : Int)) ∧ n2 = x * 10 ^ (k + 1) / y ∧ r2 = x * 10 ^ (k + 1) % y := by
  have h1 := place_step x y n rest k h0 hn.symm hr.symm
  have h2 := place_small h0 (by omega) hq hn.symm
  have h3 : rest < y := by rw [hr]; exact Nat.mod_lt _ h0
  have h4 := place_small (k := k + 1) h0 (by omega) hq h1.1
  have h5 : 10 * rest % y < y := Nat.mod_lt _ h0
  have h6 := Nat.div_le_self (10 * rest) y
  exact ⟨10 * n, 10 * rest, 10 * rest / y, 10 * n + 10 * rest / y, 10 * rest % y, i64m (a := 10) rfl (by omega), i64m (a := 10) rfl (by omega), i64q rfl (by omega), i64r rfl (by omega), i64a rfl (by omega), h1.1.symm, h1.2.symm⟩

set_option maxRecDepth 100000 in
set_option maxHeartbeats 4000000 in
theorem rdivin_any (a b : Int) (w : World) : Calls Tryz.prog 13 #[.int .i64 a, .int .i64 b] w fun e w' => e = .returned (.agg #[.int .i64 (divS a b).1, .int .i64 (divS a b).2]) ∧ Below w.heap.size w w' := by
  have HB0 : Hid (Below w.heap.size w (w.alloc (.cells #[.int .i64 0, .int .i64 0] 30))) := (Below.self w).alloc (Nat.le_refl _) _
  have HK0 := Lib.hid (Two.new w 30 (.int .i64 0) (.int .i64 0))
  have HVA := Lib.hid (rvalid2_any a)
  have HVB := Lib.hid (rvalid2_any b)
  cases hv : validB a with
  | false =>
    rw [hv] at HVA
    rw [show divS a b = (0, 2) by unfold divS; rw [hv]; rfl]
    clear hv
    go_enter Tryz.func13, Tryz.ntmps13
    go_wp2_with (go_at_call 17; (with_reducible refine (HVA.out _).mono ?_); rintro e w1 ⟨rfl, rfl⟩)
    exact bodyPost_ret (v := .agg #[.int .i64 0, .int .i64 2]) (by simp [results, Tryz.results13, go_sem]) rfl ⟨rfl, (Below.self w).alloc (Nat.le_refl _) _⟩
  | true =>
    rw [hv] at HVA
    cases hu : validB b with
    | false =>
      rw [hu] at HVB
      rw [show divS a b = (0, 2) by unfold divS; rw [hv, hu]; rfl]
      clear hv hu
      go_enter Tryz.func13, Tryz.ntmps13
      go_wp2_with (first | (go_at_call 17; (with_reducible refine (HVA.out _).mono ?_); rintro e w1 ⟨rfl, rfl⟩) | (go_at_call 17; (with_reducible refine (HVB.out _).mono ?_); rintro e w1 ⟨rfl, rfl⟩))
      exact bodyPost_ret (v := .agg #[.int .i64 0, .int .i64 2]) (by simp [results, Tryz.results13, go_sem]) rfl ⟨rfl, (Below.self w).alloc (Nat.le_refl _) _⟩
    | true =>
      rw [hu] at HVB
      by_cases hb0 : b = 0
      · subst hb0
        rw [show divS a 0 = (0, 3) by unfold divS; rw [hv, hu]; rfl]
        clear hv hu
        go_enter Tryz.func13, Tryz.ntmps13
        go_wp2_with (first | (go_at_call 17; (with_reducible refine (HVA.out _).mono ?_); rintro e w1 ⟨rfl, rfl⟩) | (go_at_call 17; (with_reducible refine (HVB.out _).mono ?_); rintro e w1 ⟨rfl, rfl⟩))
        exact bodyPost_ret (v := .agg #[.int .i64 0, .int .i64 3]) (by simp [results, Tryz.results13, go_sem]) rfl ⟨rfl, (Below.self w).alloc (Nat.le_refl _) _⟩
      · rw [divS_valid hv hu hb0]
        have h1 := validB_true hv
        have h2 := validB_true hu
        have HAA := Lib.hid (rabs_any a hv)
        have HAB := Lib.hid (rabs_any b hu)
        have hbB : (b == 0) = false := by simpa using hb0
        have hx : a.natAbs ≤ 1000000000000000 := by omega
        have hy : b.natAbs ≤ 1000000000000000 := by omega
        have hy0 : 0 < b.natAbs := by omega
        obtain ⟨hbig, hres⟩ := div_facts (a := a) (b := b) rfl rfl hy0
        generalize a.natAbs = x at *
        generalize b.natAbs = y at *
        clear hv hu h1 h2
        obtain ⟨n0, hn0⟩ : ∃ n, x / y = n := ⟨_, rfl⟩
        obtain ⟨s0, hs0⟩ : ∃ n, x % y = n := ⟨_, rfl⟩
        have hyn : ¬ (y : Int) = 0 := by omega
        have K1 := Lib.hid (i64q hn0 (by have := Nat.div_le_self x y; omega))
        have K2 := Lib.hid (i64r hs0 (by have := Nat.mod_lt x hy0; omega))
        by_cases hq : 1000000000 < n0
        · have hqI : (n0 : Int) > 1000000000 := by omega
          rw [hbig (by rw [hn0]; exact hq)]
          clear hbig hres hn0 hs0
          obtain ⟨k1, k1a, k1b⟩ := K1.out
          obtain ⟨k2, k2a, k2b⟩ := K2.out
          go_enter Tryz.func13, Tryz.ntmps13
          go_upto_region 6 with (first | (go_at_call 17; (with_reducible refine (HVA.out _).mono ?_); rintro e w1 ⟨rfl, rfl⟩) | (go_at_call 17; (with_reducible refine (HVB.out _).mono ?_); rintro e w1 ⟨rfl, rfl⟩) | (go_at_call 60; (with_reducible refine (HAA.out _).mono ?_); rintro e w1 ⟨rfl, rfl⟩) | (go_at_call 60; (with_reducible refine (HAB.out _).mono ?_); rintro e w1 ⟨rfl, rfl⟩))
          go_region
          clear k1 k1a k1b K1 k2 k2a k2b K2 HVA HVB HAA HAB
          replace HB0 : Hid (Below w.heap.size w (w.alloc (.cells #[.int .i64 0, .int .i64 0] 30)).drew) := HB0.out.trans ⟨rfl, rfl, rfl, Nat.le_refl _, fun _ _ => rfl⟩
          replace HK0 : Hid (Two (w.alloc (.cells #[.int .i64 0, .int .i64 0] 30)).drew w.heap.size 30 (.int .i64 0) (.int .i64 0)) := HK0
          generalize (w.alloc (.cells #[.int .i64 0, .int .i64 0] 30)).drew = W0 at *
          have z0 := HK0.out.c0
          have z1 := HK0.out.c1
          have g0 := HK0.out.f 0
          have g1 := HK0.out.f 1
          go_wp2_with fail
          exact bodyPost_ret (v := .agg #[.int .i64 0, .int .i64 2]) (by simp [results, Tryz.results13, go_sem, z0, z1]) rfl ⟨rfl, below_put2 HB0.out (Nat.le_refl _) _ _⟩
        · have hqI : ¬ (n0 : Int) > 1000000000 := by omega
          rw [hres]
          clear hbig hres
          have hrr : ∃ rr, chk (sgn (sigB a b) (evenN (x * 10 ^ 6 / y) (x * 10 ^ 6 % y) y)) = rr := ⟨_, rfl⟩
          obtain ⟨⟨r1, r2⟩, hrr⟩ := hrr
          rw [hrr]
          have HRR := Lib.hid hrr
          clear hrr
          obtain ⟨k1, k1a, k1b⟩ := K1.out
          obtain ⟨k2, k2a, k2b⟩ := K2.out
          go_enter Tryz.func13, Tryz.ntmps13
          go_upto_region 6 with (first | (go_at_call 17; (with_reducible refine (HVA.out _).mono ?_); rintro e w1 ⟨rfl, rfl⟩) | (go_at_call 17; (with_reducible refine (HVB.out _).mono ?_); rintro e w1 ⟨rfl, rfl⟩) | (go_at_call 60; (with_reducible refine (HAA.out _).mono ?_); rintro e w1 ⟨rfl, rfl⟩) | (go_at_call 60; (with_reducible refine (HAB.out _).mono ?_); rintro e w1 ⟨rfl, rfl⟩))
          go_region
          clear k1 k1a k1b K1 k2 k2a k2b K2 HVA HVB HAA HAB
          replace HB0 : Hid (Below w.heap.size w (w.alloc (.cells #[.int .i64 0, .int .i64 0] 30)).drew) := HB0.out.trans ⟨rfl, rfl, rfl, Nat.le_refl _, fun _ _ => rfl⟩
          replace HK0 : Hid (Two (w.alloc (.cells #[.int .i64 0, .int .i64 0] 30)).drew w.heap.size 30 (.int .i64 0) (.int .i64 0)) := HK0
          generalize (w.alloc (.cells #[.int .i64 0, .int .i64 0] 30)).drew = W0 at *
          go_wp2_with fail
          go_loop [7, 8, 9] (fun n r i => ∃ k n' r' : Nat, k ≤ 6 ∧ i = .int .i64 (k : Int) ∧ n = .int .i64 (n' : Int) ∧ r = .int .i64 (r' : Int) ∧ n' = x * 10 ^ k / y ∧ r' = x * 10 ^ k % y) (fun _ _ i => (6 - intOf i).toNat)
          case atStart => exact ⟨0, n0, s0, by omega, rfl, rfl, rfl, by rw [← hn0]; simp, by rw [← hs0]; simp⟩
          case round =>
            obtain ⟨k, n', r', hk, rfl, rfl, rfl, hn', hr'⟩ := hrel
            by_cases hlt : k < 6
            · have hltI : (k : Int) < 6 := by omega
              obtain ⟨N, S, Q, n2, r2, K1, K2, K3, K4, K5, hn2, hr2⟩ := place_facts hy0 hy hlt (by omega) hn' hr'
              have HN2 := Lib.hid hn2
              have HR2 := Lib.hid hr2
              clear hn' hr' hn0 hs0 hq hqI hn2 hr2
              obtain ⟨k1, k1a⟩ := K1.out
              obtain ⟨k2, k2a⟩ := K2.out
              obtain ⟨k3, k3a, k3b⟩ := K3.out
              obtain ⟨k4, k4a, k4b⟩ := K4.out
              obtain ⟨k5, k5a⟩ := K5.out
              clear K1 K2 K3 K4 K5
              go_wp2_with fail
              go_round
              case rel => exact ⟨k + 1, n2, r2, by omega, by go_num, by go_num, by go_num, HN2.out, HR2.out⟩
              case measure => clear k1 k1a k2 k2a k3 k3a k3b k4 k4a k4b k5 k5a; simp [intOf]; omega
            · obtain rfl : k = 6 := by omega
              have hr6 : r' < y := by rw [hr']; exact Nat.mod_lt _ hy0
              have hn6 := place_small (k := 6) hy0 (by omega) (by omega) hn'.symm
              have HRR2 : Hid (chk (sgn (sigB a b) (evenN n' r' y)) = (r1, r2)) := by show _ = _; rw [hn', hr']; exact HRR.out
              clear hn' hr' hn0 hs0 hq hqI
              obtain ⟨V, hV⟩ : ∃ V, 2 * r' = V := ⟨_, rfl⟩
              have K1 : Hid (wrap64 (2 * (r' : Int)) = (V : Int) ∧ IntKind.i64.wrap (2 * (r' : Int)) = (V : Int)) := i64m (a := 2) hV (by omega)
              have HEV := Lib.hid (reven_any n' r' y (by omega))
              rw [hV] at HEV
              have he := evenN_le n' r' y
              have HSG := Lib.hid (rsigned_any (evenN n' r' y) (by omega) a b)
              generalize evenN n' r' y = E at *
              generalize sgn (sigB a b) E = z at *
              have HC : Hid (∀ w, Calls Tryz.prog 57 #[.int .i64 z] w fun e w' => e = .returned (.agg #[.int .i64 r1, .int .i64 r2]) ∧ Below w.heap.size w w') := fun w => by have h := rchecked_any z w; rw [HRR2.out] at h; exact h
              clear HRR HRR2 he hV hr6 hn6 hk hlt hx hy
              obtain ⟨k1, k1a⟩ := K1.out
              clear K1
              go_wp2_with (first | (go_at_call 61; (with_reducible refine (HEV.out _).mono ?_); rintro e w1 ⟨rfl, rfl⟩) | (go_at_call 62; (with_reducible refine (HSG.out _).mono ?_); rintro e w1 ⟨rfl, rfl⟩) | (go_at_call 57; (with_reducible refine (HC.out _).mono ?_); rintro e w1 ⟨rfl, hb1⟩; have hb2 := HB0.out.trans (hb1.mono HB0.out.size); have hK1 := HK0.out.below hb1 HK0.out.lt; have z0 := hK1.c0; have z1 := hK1.c1; have g0 := hK1.f 0; have g1 := hK1.f 1))
              exact bodyPost_ret (v := .agg #[.int .i64 r1, .int .i64 r2]) (by simp [results, Tryz.results13, go_sem, z0, z1]) rfl ⟨rfl, below_put2 hb2 (Nat.le_refl _) _ _⟩

end Go.Proofs.YtocnkjnlmciojaaGreatDoor.De
