/-
  math/bits.Div64 where it does not panic: the quotient and the remainder.
-/
import Derived.Test.YtocnkjnlmciojaaGreatDoorDecCore
import Derived.Test.YtocnkjnlmciojaaGreatDoorDivMath
import Derived.WalkKit
import Derived.ProofKit
import Derived.BigQuiet
import Derived.Deep.QuietTactic
import Derived.Lib.Hide
import Derived.Outline
import Derived.Lib.ItoaNum
import Derived.Deep.DeepCutAuto
import Derived.Deep.CutBlock
namespace Go.Proofs.YtocnkjnlmciojaaGreatDoor.De
open Go.RowKit Go.Shelf DivMath

set_option maxHeartbeats 1000000 in
theorem div64_zero (lo y : Nat) (hy0 : 0 < y) (hy : y < 18446744073709551616) (hlo : lo < 18446744073709551616) (w : World) :
    Calls Tryz.prog 161 #[.int .u64 0, .int .u64 lo, .int .u64 y] w fun e w' => e = .returned (.tuple #[.int .u64 ((lo / y : Nat) : Int), .int .u64 ((lo % y : Nat) : Int)]) ∧ ∃ n, w' = w.drewN n := by
  have h1 : (1 : Int) ≤ y := by omega
  have h0 : (0 : Int) ≤ lo := by omega
  have hb : ((y : Int) == 0) = false := by simp; omega
  have hq : IntKind.u64.wrap ((lo : Int) / (y : Int)) = ((lo / y : Nat) : Int) := by
    have : lo / y ≤ lo := Nat.div_le_self _ _
    rw [← Int.natCast_ediv, IntKind.wrap_u64]
    exact Int.emod_eq_of_lt (Int.natCast_nonneg _) (by omega)
  go_enter Tryz.func161, Tryz.ntmps161
  go_wp2
  go_quiet (fail)
  go_wp2
  go_ret2
  exact ⟨ret_two (Int.natCast_ediv _ _).symm (Int.natCast_emod _ _).symm, _, rfl⟩

/-- What the first part of the function computes. -/
structure Norm (hi lo y L Y U32 U10 v1 v0 u1 u0 : Nat) : Prop where
  n_y : IntKind.u64.wrap ((y : Int) * 2 ^ L) = (Y : Int)
  n_or : bits BinOp.or IntKind.u64 (IntKind.u64.wrap ((hi : Int) * 2 ^ L)) ((lo : Int) / 2 ^ (64 - L)) = (U32 : Int)
  n_lo : IntKind.u64.wrap ((lo : Int) * 2 ^ L) = (U10 : Int)
  n_v1 : (Y : Int) / 4294967296 = (v1 : Int)
  n_v0 : bits BinOp.and IntKind.u64 (Y : Int) 4294967295 = (v0 : Int)
  n_u1 : (U10 : Int) / 4294967296 = (u1 : Int)
  n_u0 : bits BinOp.and IntKind.u64 (U10 : Int) 4294967295 = (u0 : Int)
  n_v1lo : 2147483648 ≤ v1
  n_v1hi : v1 < 4294967296
  n_v0hi : v0 < 4294967296
  n_u1hi : u1 < 4294967296
  n_u0hi : u0 < 4294967296
  n_Yhi : Y < 18446744073709551616
  n_Yis : Y = v1 * 4294967296 + v0
  n_U32hi : U32 < Y
  n_U10is : U10 = u1 * 4294967296 + u0
  n_Ysh : Y = y * 2 ^ L
  n_Ush : U32 * 18446744073709551616 + U10 = (hi * 18446744073709551616 + lo) * 2 ^ L

theorem norm (hi lo y L : Nat) (hlt : hi < y) (hy : y < 18446744073709551616) (hlo : lo < 18446744073709551616) (hL : Lib.bitLen y = 64 - L) (hL2 : L ≤ 63) :
    ∃ Y U32 U10 v1 v0 u1 u0, Norm hi lo y L Y U32 U10 v1 v0 u1 u0 := by
  have hb := Lib.bitLenAux_bounds 64 y (by simpa using hy) (by omega)
  have hb' : Lib.bitLenAux 64 y = 64 - L := hL
  rw [hb'] at hb
  obtain ⟨_, hb1, hb2⟩ := hb
  have hp : 2 ^ (64 - L) * 2 ^ L = 18446744073709551616 := by rw [← Nat.pow_add, show 64 - L + L = 64 by omega]
  have hp1 : 2 ^ (64 - L - 1) * 2 ^ L = 9223372036854775808 := by rw [← Nat.pow_add, show 64 - L - 1 + L = 63 by omega]
  have hp0 : 0 < 2 ^ L := Nat.pow_pos (by decide)
  have hY1 : 9223372036854775808 ≤ y * 2 ^ L := by rw [← hp1]; exact Nat.mul_le_mul_right _ hb1
  have hY2 : y * 2 ^ L < 18446744073709551616 := by rw [← hp]; exact Nat.mul_lt_mul_of_pos_right hb2 hp0
  have hc : (2 : Int) ^ L = ((2 ^ L : Nat) : Int) := by rw [Int.natCast_pow]; rfl
  have hc2 : (2 : Int) ^ (64 - L) = ((2 ^ (64 - L) : Nat) : Int) := by rw [Int.natCast_pow]; rfl
  have hH : (hi + 1) * 2 ^ L ≤ y * 2 ^ L := Nat.mul_le_mul_right _ hlt
  rw [Nat.succ_mul] at hH
  have hl : lo / 2 ^ (64 - L) < 2 ^ L := by
    rw [Nat.div_lt_iff_lt_mul (Nat.pow_pos (by decide)), Nat.mul_comm, hp]; exact hlo
  have hll : lo * 2 ^ L / 18446744073709551616 = lo / 2 ^ (64 - L) := by
    rw [← hp, Nat.mul_div_mul_right _ _ hp0]
  have hsp := Nat.div_add_mod (lo * 2 ^ L) 18446744073709551616
  have hUeq : (hi * 18446744073709551616 + lo) * 2 ^ L = hi * 2 ^ L * 18446744073709551616 + lo * 2 ^ L := by
    rw [Nat.add_mul, Nat.mul_right_comm]
  generalize hA : y * 2 ^ L = A at *
  generalize hB : hi * 2 ^ L = B at *
  generalize hC : lo * 2 ^ L = C at *
  refine ⟨A, B + lo / 2 ^ (64 - L), C % 18446744073709551616, A / 4294967296, A % 4294967296, C % 18446744073709551616 / 4294967296, C % 18446744073709551616 % 4294967296, ?_⟩
  refine ⟨?_, ?_, ?_, by omega, and_low _ _ (by omega) rfl, by omega, and_low _ _ (by omega) rfl, by omega, by omega, by omega, by omega, by omega, by omega, by omega, by omega, by omega, hA.symm, ?_⟩
  · rw [hc, ← Int.natCast_mul, hA, wrap_nat _ hY2]
  · rw [hc, hc2, ← Int.natCast_mul, hB, wrap_nat _ (by omega), ← Int.natCast_ediv, bits_or_u64_nat B _ (by omega) (by omega)]
    rw [nat_join L B _ (by rw [← hB]; exact Nat.mul_mod_left _ _) hl]
  · rw [hc, ← Int.natCast_mul, hC, wrap_mod]
  · rw [hUeq]; omega

theorem sub_mod (a b Y m : Nat) (A : Int) (hb : b = a / Y) (hm : m = a % Y) (hY : Y < 18446744073709551616) (hY0 : 0 < Y) (hA : A % 18446744073709551616 = (a : Int) % 18446744073709551616) :
    IntKind.u64.wrap (A - IntKind.u64.wrap ((b : Int) * (Y : Int))) = (m : Int) := by
  have h := Nat.div_add_mod a Y
  have hlt := Nat.mod_lt a hY0
  rw [← hb, ← hm] at h
  rw [← hm] at hlt
  have e : (b : Int) * (Y : Int) = ((Y * b : Nat) : Int) := by rw [Int.natCast_mul, Int.mul_comm]
  rw [e, IntKind.wrap_u64, IntKind.wrap_u64]
  omega

set_option maxRecDepth 100000 in
set_option maxHeartbeats 2000000 in
theorem div64_big (hi lo y L : Nat) (hhi : 0 < hi) (hlt : hi < y) (hy : y < 18446744073709551616) (hlo : lo < 18446744073709551616) (hL : Hid (Lib.bitLen y = 64 - L)) (hL2 : L ≤ 63) (w : World) :
    Calls Tryz.prog 161 #[.int .u64 hi, .int .u64 lo, .int .u64 y] w fun e w' => e = .returned (.tuple #[.int .u64 (((hi * 18446744073709551616 + lo) / y : Nat) : Int), .int .u64 (((hi * 18446744073709551616 + lo) % y : Nat) : Int)]) ∧ ∃ n, w' = w.drewN n := by
  have hb : ((y : Int) == 0) = false := by simp; omega
  have hb2 : ((hi : Int) == 0) = false := by simp; omega
  have hz : (64 - (Lib.bitLen ((y : Int).toNat) : Int)) = (L : Int) := by rw [Int.toNat_natCast, hL.out]; omega
  have HZ := Lib.hid hz
  clear hz
  obtain ⟨Y, U32, U10, v1, v0, u1, u0, N⟩ := norm hi lo y L hlt hy hlo hL.out hL2
  have n1 := N.n_y
  have n2 := N.n_or
  have n3 := N.n_lo
  have n4 := N.n_v1
  have n5 := N.n_v0
  have n6 := N.n_u1
  have n7 := N.n_u0
  have b1 := N.n_v1lo
  have b2 := N.n_v1hi
  have b3 := N.n_v0hi
  have b4 := N.n_u1hi
  have b5 := N.n_u0hi
  have b6 := N.n_Yhi
  have b7 := N.n_U32hi
  have bU : U32 < v1 * 4294967296 + v0 := by rw [← N.n_Yis]; exact b7
  have hv : 0 < v1 * 4294967296 + v0 := by omega
  have hY0 : 0 < Y := by omega
  obtain ⟨q0, hq0⟩ : ∃ q0, q0 = U32 / v1 := ⟨_, rfl⟩
  obtain ⟨m0, hm0⟩ : ∃ m0, m0 = q0 * v1 := ⟨_, rfl⟩
  have I0 := Inv.start (u := U32) (u1 := u1) b1 b3 bU b4
  rw [← hq0, ← hm0] at I0
  have hm0le : m0 ≤ U32 := by rw [hm0, hq0]; exact Nat.div_mul_le_self _ _
  have hr0 : U32 - m0 < 4294967296 := by
    have := Nat.mod_lt U32 (show 0 < v1 by omega)
    have h2 := Nat.div_add_mod U32 v1
    rw [← hq0, Nat.mul_comm, ← hm0] at h2
    omega
  have x1 : (U32 : Int) / (v1 : Int) = (q0 : Int) := by rw [hq0]; exact (Int.natCast_ediv _ _).symm
  have x2 : IntKind.u64.wrap ((q0 : Int) * (v1 : Int)) = (m0 : Int) := wrap_mul _ _ _ hm0.symm (by omega)
  obtain ⟨D1, hD1⟩ : ∃ D1, D1 = (U32 * 4294967296 + u1) / Y := ⟨_, rfl⟩
  obtain ⟨M1, hM1⟩ : ∃ M1, M1 = (U32 * 4294967296 + u1) % Y := ⟨_, rfl⟩
  have hD1' : D1 = (U32 * 4294967296 + u1) / (v1 * 4294967296 + v0) := by rw [hD1, N.n_Yis]
  have HD1 := Lib.hid hD1'
  have hq0b : q0 ≤ 4294967297 := I0.top
  have hD1lt : D1 < 4294967296 := by rw [hD1']; exact digit_lt bU b4
  have HN := Lib.hid N
  have HI := Lib.hid I0
  have hv1 : ¬ v1 = 0 := by omega
  have hv1' : ((v1 : Int) == 0) = false := by simp; omega
  have hc0 : ((U32 - m0 : Nat) : Int) = (U32 : Int) - (m0 : Int) := by omega
  have HC0 := Lib.hid hc0
  clear N I0 hD1' hq0 hm0 hc0
  have HDM : Hid (D1 = (U32 * 4294967296 + u1) / Y ∧ M1 = (U32 * 4294967296 + u1) % Y) := ⟨hD1, hM1⟩
  clear hD1 hM1
  go_enter Tryz.func161, Tryz.ntmps161
  go_upto_block 0 with (go_at_call 172; refine (Tryz.bits_LeadingZeros64 y _ (by omega) (by omega)).mono ?_; rintro e w' ⟨rfl, rfl⟩; rw [HZ.out])
  clear n1 n2 n3 n4 n5 n6 n7 x1 x2
  go_cut [15, 16] (fun a b wx => wx = w' ∧ a = .int .u64 (D1 : Int))
  case first =>
    go_wp2_with fail
    go_loop [15, 16] (fun a b => ∃ q r : Nat, a = .int .u64 (q : Int) ∧ b = .int .u64 (r : Int) ∧ r < 4294967296 ∧ Inv U32 v1 v0 u1 q r) (fun a _ => (intOf a).toNat)
    case atStart => exact ⟨q0, U32 - m0, rfl, by rw [HC0.out], hr0, HI.out⟩
    case round =>
      obtain ⟨q, r, rfl, rfl, hr, hI⟩ := hrel
      obtain ⟨P, hP⟩ : ∃ P, P = q * v0 := ⟨_, rfl⟩
      have hqt := hI.top
      have hPb : P < 18446744073709551616 := by
        have h1 : q * v0 ≤ 4294967297 * v0 := Nat.mul_le_mul_right _ hqt
        omega
      have x3 : IntKind.u64.wrap ((q : Int) * (v0 : Int)) = (P : Int) := wrap_mul _ _ _ hP.symm hPb
      have HInv := Lib.hid hI
      have HP := Lib.hid hP
      clear hI hP
      have hPb' : (P : Int) < 18446744073709551616 := by omega
      have hqt' : (q : Int) ≤ 4294967297 := by omega
      have hr' : (r : Int) < 4294967296 := by omega
      clear hPb
      by_cases ht : (4294967296 : Int) ≤ (q : Int) ∨ 4294967296 * (r : Int) + (u1 : Int) < (P : Int)
      · have hl := HInv.out.less bU b4 (by rw [← HP.out]; omega)
        have hq1 := hl.2.1
        have hq2 := hl.2.2
        have HL := Lib.hid hl.1
        have hcq : ((q - 1 : Nat) : Int) = (q : Int) - 1 := by omega
        have HCQ := Lib.hid hcq
        clear hl hcq
        have ht' : (4294967296 : Int) ≤ (q : Int) ∨ (¬ (4294967296 : Int) ≤ (q : Int) ∧ 4294967296 * (r : Int) + (u1 : Int) < (P : Int)) := by omega
        clear ht
        rcases ht' with ht | ⟨hn, ht⟩
        all_goals
          by_cases hf : (4294967296 : Int) ≤ (r : Int) + (v1 : Int)
          · have HF := Lib.hid (HL.out.far hv b3 hq2 (by omega))
            have hq1' : (1 : Int) ≤ (q : Int) := by omega
            have b2' : (v1 : Int) < 4294967296 := by omega
            have b4' : (u1 : Int) < 4294967296 := by omega
            have HB := Lib.hid (And.intro hqt (And.intro hr (And.intro hq1 hq2)))
            clear hqt hr hq1 hq2 hy hlo b1 b2 b3 b4 b5 b6 b7 bU hD1lt hq0b hr0 hm0le hlt hhi hL2 hv hY0
            go_wp2
            go_meet
            exact ⟨rfl, by rw [HD1.out, ← HF.out, HCQ.out]⟩
          · go_wp2
            go_round
            case rel => exact ⟨q - 1, r + v1, by rw [HCQ.out], by go_num, by omega, HL.out⟩
            case measure => simp [intOf]; omega
      · have hd := HInv.out.done hv (by rw [← HP.out]; omega)
        have HDD := Lib.hid hd
        clear hd
        have ht1 : ¬ (4294967296 : Int) ≤ (q : Int) := by omega
        have ht2 : ¬ 4294967296 * (r : Int) + (u1 : Int) < (P : Int) := by omega
        clear ht
        go_wp2
        go_meet
        exact ⟨rfl, by rw [HD1.out, ← HDD.out]⟩
  case rest =>
    obtain ⟨rfl, rfl⟩ := hcut
    have N := HN.out
    obtain ⟨eD1, eM1⟩ := HDM.out
    have hM1lt : M1 < Y := by rw [eM1]; exact Nat.mod_lt _ hY0
    have bM : M1 < v1 * 4294967296 + v0 := by rw [← N.n_Yis]; exact hM1lt
    have y1 : IntKind.u64.wrap (IntKind.u64.wrap (IntKind.u64.wrap ((U32 : Int) * 4294967296) + (u1 : Int)) - IntKind.u64.wrap ((D1 : Int) * (Y : Int))) = (M1 : Int) :=
      sub_mod _ _ _ _ _ eD1 eM1 b6 hY0 (by simp only [IntKind.wrap_u64]; omega)
    obtain ⟨q1, hq1⟩ : ∃ q1, q1 = M1 / v1 := ⟨_, rfl⟩
    obtain ⟨m1, hm1⟩ : ∃ m1, m1 = q1 * v1 := ⟨_, rfl⟩
    have I1 := Inv.start (u := M1) (u1 := u0) b1 b3 bM b5
    rw [← hq1, ← hm1] at I1
    have hm1le : m1 ≤ M1 := by rw [hm1, hq1]; exact Nat.div_mul_le_self _ _
    have hr1 : M1 - m1 < 4294967296 := by
      have := Nat.mod_lt M1 (show 0 < v1 by omega)
      have h2 := Nat.div_add_mod M1 v1
      rw [← hq1, Nat.mul_comm, ← hm1] at h2
      omega
    have x1 : (M1 : Int) / (v1 : Int) = (q1 : Int) := by rw [hq1]; exact (Int.natCast_ediv _ _).symm
    have x2 : IntKind.u64.wrap ((q1 : Int) * (v1 : Int)) = (m1 : Int) := wrap_mul _ _ _ hm1.symm (by omega)
    obtain ⟨D0, hD0⟩ : ∃ D0, D0 = (M1 * 4294967296 + u0) / Y := ⟨_, rfl⟩
    obtain ⟨M0, hM0⟩ : ∃ M0, M0 = (M1 * 4294967296 + u0) % Y := ⟨_, rfl⟩
    have hD0' : D0 = (M1 * 4294967296 + u0) / (v1 * 4294967296 + v0) := by rw [hD0, N.n_Yis]
    have HD0 := Lib.hid hD0'
    have hq1b : q1 ≤ 4294967297 := I1.top
    have hD0lt : D0 < 4294967296 := by rw [hD0']; exact digit_lt bM b5
    have HI1 := Lib.hid I1
    have hc1 : ((M1 - m1 : Nat) : Int) = (M1 : Int) - (m1 : Int) := by omega
    have HC1 := Lib.hid hc1
    have y0 : IntKind.u64.wrap (IntKind.u64.wrap (IntKind.u64.wrap ((M1 : Int) * 4294967296) + (u0 : Int)) - IntKind.u64.wrap ((D0 : Int) * (Y : Int))) = (M0 : Int) :=
      sub_mod _ _ _ _ _ hD0 hM0 b6 hY0 (by simp only [IntKind.wrap_u64]; omega)
    have HFIN : Hid (D1 * 4294967296 + D0 = (hi * 18446744073709551616 + lo) / y ∧ M0 = (hi * 18446744073709551616 + lo) % y * 2 ^ L) := by
      have := two_digits hi lo y L (by omega) Y U32 U10 M1 D1 D0 N.n_Ysh N.n_Ush (by rw [eD1, N.n_U10is]; congr 2; omega) (by rw [eM1, N.n_U10is]; congr 2; omega) (by rw [hD0, N.n_U10is]; congr 2; omega)
      have e : U10 % 4294967296 = u0 := by rw [N.n_U10is]; omega
      rw [e, ← hM0] at this
      exact this
    have HY0 := Lib.hid y0
    clear N eD1 eM1 I1 hq1 hm1 hD0 hM0 hD0' hc1 y0
    go_upto_block 2 with fail
    clear y1 x1 x2
    go_cut [16, 18] (fun b a wx => wx = wc ∧ a = .int .u64 (D0 : Int))
    case first =>
      go_wp2_with fail
      go_loop [18, 16] (fun a b => ∃ q r : Nat, a = .int .u64 (q : Int) ∧ b = .int .u64 (r : Int) ∧ r < 4294967296 ∧ Inv M1 v1 v0 u0 q r) (fun a _ => (intOf a).toNat)
      case atStart => exact ⟨q1, M1 - m1, rfl, by rw [HC1.out], hr1, HI1.out⟩
      case round =>
        obtain ⟨q, r, rfl, rfl, hr, hI⟩ := hrel
        obtain ⟨P, hP⟩ : ∃ P, P = q * v0 := ⟨_, rfl⟩
        have hqt := hI.top
        have hPb : P < 18446744073709551616 := by
          have h1 : q * v0 ≤ 4294967297 * v0 := Nat.mul_le_mul_right _ hqt
          omega
        have x3 : IntKind.u64.wrap ((q : Int) * (v0 : Int)) = (P : Int) := wrap_mul _ _ _ hP.symm hPb
        have HInv := Lib.hid hI
        have HP := Lib.hid hP
        clear hI hP
        have hPb' : (P : Int) < 18446744073709551616 := by omega
        have hqt' : (q : Int) ≤ 4294967297 := by omega
        have hr' : (r : Int) < 4294967296 := by omega
        clear hPb
        by_cases ht : (4294967296 : Int) ≤ (q : Int) ∨ 4294967296 * (r : Int) + (u0 : Int) < (P : Int)
        · have hl := HInv.out.less bM b5 (by rw [← HP.out]; omega)
          have hq1 := hl.2.1
          have hq2 := hl.2.2
          have HL := Lib.hid hl.1
          have hcq : ((q - 1 : Nat) : Int) = (q : Int) - 1 := by omega
          have HCQ := Lib.hid hcq
          clear hl hcq
          have ht' : (4294967296 : Int) ≤ (q : Int) ∨ (¬ (4294967296 : Int) ≤ (q : Int) ∧ 4294967296 * (r : Int) + (u0 : Int) < (P : Int)) := by omega
          clear ht
          rcases ht' with ht | ⟨hn, ht⟩
          all_goals
            by_cases hf : (4294967296 : Int) ≤ (r : Int) + (v1 : Int)
            · have HF := Lib.hid (HL.out.far hv b3 hq2 (by omega))
              have hq1' : (1 : Int) ≤ (q : Int) := by omega
              have b2' : (v1 : Int) < 4294967296 := by omega
              have b5' : (u0 : Int) < 4294967296 := by omega
              have HB := Lib.hid (And.intro hqt (And.intro hr (And.intro hq1 hq2)))
              clear hqt hr hq1 hq2 hy hlo b1 b2 b3 b4 b5 b6 b7 bU bM hD1lt hD0lt hq0b hr0 hq1b hr1 hm0le hm1le hlt hhi hL2 hv hY0
              go_wp2
              go_meet
              exact ⟨rfl, by rw [HD0.out, ← HF.out, HCQ.out]⟩
            · go_wp2
              go_round
              case rel => exact ⟨q - 1, r + v1, by rw [HCQ.out], by go_num, by omega, HL.out⟩
              case measure => simp [intOf]; omega
        · have hd := HInv.out.done hv (by rw [← HP.out]; omega)
          have HDD := Lib.hid hd
          clear hd
          have ht1 : ¬ (4294967296 : Int) ≤ (q : Int) := by omega
          have ht2 : ¬ 4294967296 * (r : Int) + (u0 : Int) < (P : Int) := by omega
          clear ht
          go_wp2
          go_meet
          exact ⟨rfl, by rw [HD0.out, ← HDD.out]⟩
    case rest =>
      obtain ⟨rfl, rfl⟩ := hcut
      have y0 := HY0.out
      go_wp2
      go_ret2
      refine ⟨ret_two ?_ ?_, 0, rfl⟩
      · rw [← HFIN.out.1]; omega
      · rw [HFIN.out.2, Int.natCast_mul, Int.natCast_pow]
        exact Int.mul_ediv_cancel _ (Int.pow_ne_zero (by decide))

/-- Div64: no panic where the high word is less than the divisor. -/
theorem div64_any (hi lo y : Nat) (hlt : hi < y) (hy : y < 18446744073709551616) (hlo : lo < 18446744073709551616) (w : World) :
    Calls Tryz.prog 161 #[.int .u64 hi, .int .u64 lo, .int .u64 y] w fun e w' => e = .returned (.tuple #[.int .u64 (((hi * 18446744073709551616 + lo) / y : Nat) : Int), .int .u64 (((hi * 18446744073709551616 + lo) % y : Nat) : Int)]) ∧ ∃ n, w' = w.drewN n := by
  by_cases h : hi = 0
  · subst h
    rw [Nat.zero_mul, Nat.zero_add]
    exact div64_zero lo y hlt hy hlo w
  · have hb := Lib.bitLenAux_bounds 64 y (by simpa using hy) (by omega)
    have hb2 : Lib.bitLen y ≤ 64 := Lib.bitLen_le y 64 (Nat.le_refl _) (by simpa using hy)
    exact div64_big hi lo y (64 - Lib.bitLen y) (by omega) hlt hy hlo (by show _ = _; omega) (by have : 1 ≤ Lib.bitLen y := hb.1; omega) w

end Go.Proofs.YtocnkjnlmciojaaGreatDoor.De
