/-
  The reference's sums.
-/
import Derived.Test.YtocnkjnlmciojaaGreatDoorR2Mul
import Derived.Test.YtocnkjnlmciojaaGreatDoorDcRd
namespace Go.Proofs.YtocnkjnlmciojaaGreatDoor.De
open Go Go.RowKit Go.Shelf

theorem td_parts (x : Int) : ∃ q r : Int, x.tdiv 1000000000 = q ∧ x.tmod 1000000000 = r ∧ x = 1000000000 * q + r ∧ -1000000000 < r ∧ r < 1000000000 ∧ (0 ≤ x → 0 ≤ r) ∧ (x ≤ 0 → r ≤ 0) := by
  refine ⟨_, _, rfl, rfl, ?_, Int.lt_tmod_of_pos _ (by decide), Int.tmod_lt_of_pos _ (by decide), fun h => Int.tmod_nonneg _ h, fun h => ?_⟩
  · have := Int.mul_tdiv_add_tmod x 1000000000
    omega
  · obtain ⟨m, rfl⟩ : ∃ m : Nat, x = -(m : Int) := ⟨x.natAbs, by omega⟩
    rw [Int.neg_tmod]
    have := Int.tmod_nonneg (a := (m : Int)) (1000000000 : Int) (by omega)
    omega
def W2 (n : Int) : Prop := wrap64 n = n ∧ IntKind.i64.wrap n = n
theorem sum_round {h l x S : Int} {k : Nat} (hx : smallB x = true) (hs : 1000000000 * h + l = S) (hl1 : -1000000000 < l) (hl2 : l < 1000000000) (hh1 : -5000000000 * (k : Int) ≤ h) (hh2 : h ≤ 5000000000 * (k : Int)) (hk : k ≤ 1000000) :
    ∃ q r h1 l1 q2 r2 h2 : Int, Hid (x.tdiv 1000000000 = q) ∧ Hid (x.tmod 1000000000 = r) ∧ Hid (wrap64 q = q ∧ IntKind.i64.wrap q = q) ∧ Hid (wrap64 r = r ∧ IntKind.i64.wrap r = r) ∧
      Hid (wrap64 (h + q) = h1 ∧ IntKind.i64.wrap (h + q) = h1) ∧ Hid (wrap64 (l + r) = l1 ∧ IntKind.i64.wrap (l + r) = l1) ∧
      Hid (l1.tdiv 1000000000 = q2) ∧ Hid (l1.tmod 1000000000 = r2) ∧ Hid (wrap64 q2 = q2 ∧ IntKind.i64.wrap q2 = q2) ∧ Hid (wrap64 r2 = r2 ∧ IntKind.i64.wrap r2 = r2) ∧
      Hid (wrap64 (h1 + q2) = h2 ∧ IntKind.i64.wrap (h1 + q2) = h2) ∧
      Hid (1000000000 * h2 + r2 = S + x) ∧ Hid (-1000000000 < r2 ∧ r2 < 1000000000) ∧ Hid (-5000000000 * ((k + 1 : Nat) : Int) ≤ h2 ∧ h2 ≤ 5000000000 * ((k + 1 : Nat) : Int)) := by
  have hx := of_decide_eq_true hx
  obtain ⟨q, r, e1, e2, e3, b1, b2, b3, b4⟩ := td_parts x
  obtain ⟨q2, r2, f1, f2, f3, c1, c2, c3, c4⟩ := td_parts (l + r)
  exact ⟨q, r, h + q, l + r, q2, r2, h + q + q2, e1, e2, i64w (by omega) (by omega), i64w (by omega) (by omega), i64w (by omega) (by omega), i64w (by omega) (by omega), f1, f2, i64w (by omega) (by omega), i64w (by omega) (by omega), i64w (by omega) (by omega), by show _ = _; omega, ⟨c1, c2⟩, by constructor <;> omega⟩

set_option maxRecDepth 100000 in
set_option maxHeartbeats 4000000 in
theorem rsumin_any {K : Nat → Prop} {a : Option Addr} {len cap : Nat} {zs : List Int} {w : World} (hR : Rd K w .i64 a len cap zs) (hl : len ≤ 1000000) : Calls Tryz.prog 27 #[.slice a len cap] w fun e w' => e = .returned (.agg #[.int .i64 (sumS zs).1, .int .i64 (sumS zs).2]) ∧ Below w.heap.size w w' := by
  have HB0 : Hid (Below w.heap.size w (w.alloc (.cells #[.int .i64 0, .int .i64 0] 30))) := (Below.self w).alloc (Nat.le_refl _) _
  have HK0 := Lib.hid (Two.new w 30 (.int .i64 0) (.int .i64 0))
  have HR := Lib.hid hR
  have HL := Lib.hid hR.hl
  have hres : ∃ r, sumS zs = r := ⟨_, rfl⟩
  obtain ⟨⟨r1, r2⟩, hres⟩ := hres
  have HRES : Hid (∀ n x, sumS zs = (n, x) → Ending.returned (.agg #[.int .i64 n, .int .i64 x]) = .returned (.agg #[.int .i64 r1, .int .i64 r2])) := fun n x h => by rw [hres] at h; injection h with h1 h2; rw [h1, h2]
  rw [hres]
  clear hres hR
  go_enter Tryz.func27, Tryz.ntmps27
  go_wp2
  go_loop [3, 4, 5] (fun vh vl vi => ∃ (k : Nat) (h l : Int), k ≤ len ∧ vi = .int .i64 (k : Int) ∧ vh = .int .i64 h ∧ vl = .int .i64 l ∧ Hid ((zs.take k).all smallB = true ∧ 1000000000 * h + l = sumOf (zs.take k) ∧ (-1000000000 < l ∧ l < 1000000000) ∧ -5000000000 * (k : Int) ≤ h ∧ h ≤ 5000000000 * (k : Int))) (fun _ _ i => (len - intOf i).toNat)
  case atStart => exact ⟨0, 0, 0, Nat.zero_le _, rfl, rfl, rfl, ⟨rfl, rfl, by decide, by decide, by decide⟩⟩
  case round =>
    obtain ⟨k, h, l, hk, rfl, rfl, rfl, HI⟩ := hrel
    have z0 := HK0.out.c0
    have z1 := HK0.out.c1
    have g0 := HK0.out.f 0
    have g1 := HK0.out.f 1
    by_cases hlt : k < len
    · have hltI : (k : Int) < (len : Int) := by omega
      obtain ⟨b, off, rfl, hbK, hblt, hcell⟩ := HR.out.cells (by omega)
      have hx := (HB0.out.cell (p := ⟨b, off + k, none⟩) hblt).trans (hcell k hlt)
      have hk1 : (off : Int) + (k : Int) = ((off + k : Nat) : Int) := by omega
      have hkl : k < zs.length := by rw [← HL.out]; exact hlt
      obtain ⟨x, hxe⟩ : ∃ x, zs[k]?.getD 0 = x := ⟨_, rfl⟩
      rw [hxe] at hx

      cases hs : smallB x with
      | false =>
        have HE := Lib.hid (HRES.out 0 2 (by unfold sumS; rw [all_bad zs k hkl (by rw [hxe]; exact hs)]; rfl))
        have hs := of_decide_eq_false hs
        by_cases hlo : x < -4000000000000000000
        · clear hs hxe hcell hk hkl
          go_wp2_with fail
          exact bodyPost_ret (v := .agg #[.int .i64 0, .int .i64 2]) (by simp [results, Tryz.results27, go_sem]) rfl ⟨HE.out, (Below.self w).alloc (Nat.le_refl _) _⟩
        · have hhi : x > 4000000000000000000 := by omega
          clear hs hxe hcell hk hkl
          go_wp2_with fail
          exact bodyPost_ret (v := .agg #[.int .i64 0, .int .i64 2]) (by simp [results, Tryz.results27, go_sem]) rfl ⟨HE.out, (Below.self w).alloc (Nat.le_refl _) _⟩
      | true =>
        have HALL := Lib.hid (all_step zs k hkl HI.out.1 (by rw [hxe]; exact hs))
        have HST := Lib.hid (sumOf_step zs k hkl)
        rw [hxe] at HST
        obtain ⟨q, r, h1, l1, q2, r2, h2, K1, K2, K3, K4, K5, K6, K7, K8, K9, K10, K11, K12, K13, K14⟩ := sum_round hs HI.out.2.1 HI.out.2.2.1.1 HI.out.2.2.1.2 HI.out.2.2.2.1 HI.out.2.2.2.2 (by omega)
        have hs := of_decide_eq_true hs
        have hlo : ¬ x < -4000000000000000000 := by omega
        have hhi : ¬ x > 4000000000000000000 := by omega
        clear hs hxe hcell hkl z0 z1 g0 g1
        obtain ⟨k3, k3a⟩ := K3.out
        obtain ⟨k4, k4a⟩ := K4.out
        obtain ⟨k5, k5a⟩ := K5.out
        obtain ⟨k6, k6a⟩ := K6.out
        obtain ⟨k9, k9a⟩ := K9.out
        obtain ⟨k10, k10a⟩ := K10.out
        obtain ⟨k11, k11a⟩ := K11.out
        have k1 := K1.out
        have k2 := K2.out
        have k7 := K7.out
        have k8 := K8.out
        clear K1 K2 K3 K4 K5 K6 K7 K8 K9 K10 K11
        go_wp2_with fail
        go_round
        case rel =>
          clear k1 k2 k3 k3a k4 k4a k5 k5a k6 k6a k7 k8 k9 k9a k10 k10a k11 k11a
          exact ⟨k + 1, h2, r2, by omega, by go_num, by go_num, by go_num, ⟨HALL.out, by rw [HST.out]; exact K12.out, K13.out, K14.out.1, K14.out.2⟩⟩
        case measure => clear k1 k2 k3 k3a k4 k4a k5 k5a k6 k6a k7 k8 k9 k9a k10 k10a k11 k11a; simp [intOf]; omega
    · obtain rfl : k = len := by omega
      have hmI : ¬ ((k : Int) < (k : Int)) := Int.lt_irrefl _
      have hT : zs.take k = zs := by rw [HL.out, List.take_length]
      rw [hT] at HI
      have hS : Hid (∀ n, n = sumOf zs → sumS zs = if smallB n then (n, 0) else (0, 2)) := fun n hn => by subst hn; unfold sumS; rw [HI.out.1]; rfl
      obtain ⟨hall, hsum, ⟨hl1, hl2⟩, hh1, hh2⟩ := HI.out
      clear HI hall hh1 hh2 hT
      by_cases hA : h > 5000000000
      · have HE := Lib.hid (HRES.out 0 2 (by rw [hS.out _ hsum, show smallB (1000000000 * h + l) = false from decide_eq_false (by omega)]; rfl))
        clear hsum hl1 hl2 hk hlt
        go_wp2_with fail
        exact bodyPost_ret (v := .agg #[.int .i64 0, .int .i64 2]) (by simp [results, Tryz.results27, go_sem]) rfl ⟨HE.out, (Below.self w).alloc (Nat.le_refl _) _⟩
      · by_cases hB : h < -5000000000
        · have HE := Lib.hid (HRES.out 0 2 (by rw [hS.out _ hsum, show smallB (1000000000 * h + l) = false from decide_eq_false (by omega)]; rfl))
          clear hsum hl1 hl2 hk hlt
          go_wp2_with fail
          exact bodyPost_ret (v := .agg #[.int .i64 0, .int .i64 2]) (by simp [results, Tryz.results27, go_sem]) rfl ⟨HE.out, (Below.self w).alloc (Nat.le_refl _) _⟩
        · obtain ⟨m, hm⟩ : ∃ m, h * 1000000000 = m := ⟨_, rfl⟩
          obtain ⟨n, hn⟩ : ∃ n, m + l = n := ⟨_, rfl⟩
          have hnS : n = sumOf zs := by omega
          have K1 : Hid (wrap64 (h * 1000000000) = m ∧ IntKind.i64.wrap (h * 1000000000) = m) := by rw [hm]; exact i64w (by omega) (by omega)
          have K2 : Hid (wrap64 (m + l) = n ∧ IntKind.i64.wrap (m + l) = n) := by rw [hn]; exact i64w (by omega) (by omega)
          have HSS := Lib.hid (hS.out n hnS)
          clear hsum hl1 hl2 hk hlt hm hn hnS
          by_cases hC : n < -4000000000000000000
          · have HE := Lib.hid (HRES.out 0 2 (by rw [HSS.out, show smallB n = false from decide_eq_false (by omega)]; rfl))
            obtain ⟨k1, k1a⟩ := K1.out
            obtain ⟨k2, k2a⟩ := K2.out
            clear K1 K2 HSS
            go_wp2_with fail
            exact bodyPost_ret (v := .agg #[.int .i64 0, .int .i64 2]) (by simp [results, Tryz.results27, go_sem]) rfl ⟨HE.out, (Below.self w).alloc (Nat.le_refl _) _⟩
          · by_cases hD : n > 4000000000000000000
            · have HE := Lib.hid (HRES.out 0 2 (by rw [HSS.out, show smallB n = false from decide_eq_false (by omega)]; rfl))
              obtain ⟨k1, k1a⟩ := K1.out
              obtain ⟨k2, k2a⟩ := K2.out
              clear K1 K2 HSS
              go_wp2_with fail
              exact bodyPost_ret (v := .agg #[.int .i64 0, .int .i64 2]) (by simp [results, Tryz.results27, go_sem]) rfl ⟨HE.out, (Below.self w).alloc (Nat.le_refl _) _⟩
            · have HE := Lib.hid (HRES.out n 0 (by rw [HSS.out, show smallB n = true from decide_eq_true (by omega)]; rfl))
              obtain ⟨k1, k1a⟩ := K1.out
              obtain ⟨k2, k2a⟩ := K2.out
              clear K1 K2 HSS
              go_wp2_with fail
              exact bodyPost_ret (v := .agg #[.int .i64 n, .int .i64 0]) (by simp [results, Tryz.results27, go_sem]) rfl ⟨HE.out, (Below.self w).alloc (Nat.le_refl _) _⟩

end Go.Proofs.YtocnkjnlmciojaaGreatDoor.De
