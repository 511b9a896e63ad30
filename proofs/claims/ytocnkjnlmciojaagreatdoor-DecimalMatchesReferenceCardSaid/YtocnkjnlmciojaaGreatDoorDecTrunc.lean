/-
  The contracts of Trunc and Fits, which read the table of units; what a world must hold for them and for texts.
-/
import Derived.Test.YtocnkjnlmciojaaGreatDoorDecMul
import Derived.Lib.SmallJoins
import Derived.Lib.ItoaMem
namespace Go.Proofs.YtocnkjnlmciojaaGreatDoor.De
open Go.RowKit Go.Shelf

theorem trunc_no (n s : Int) (hs : I64 s) (h : scaleB s = false) (w : World) :
    Calls Tryz.prog 22 #[.int .i64 n, .int .i64 s] w fun e w' => e = .returned (.int .i64 n) ∧ w = w' := by
  have HS := Lib.hid (isScale_any s hs)
  rw [h] at HS
  go_enter Tryz.func22, Tryz.ntmps22
  go_wp2_with (go_at_call 76; ((with_reducible refine (HS.out _).mono ?_); rintro e w' ⟨rfl, rfl⟩))
  go_ret
  exact ⟨rfl, rfl⟩

set_option maxHeartbeats 1000000 in
theorem trunc_yes (n : Int) (k : Nat) (hn : I64 n) (hk : k < 7) (w : World) (hV : Vars w) :
    Calls Tryz.prog 22 #[.int .i64 n, .int .i64 (k : Int)] w fun e w' => e = .returned (.int .i64 (sgn (decide (n < 0)) (n.natAbs / unitN k) * (unitN k : Int))) ∧ Below w.heap.size w w' := by
  have HS := Lib.hid (isScale_any (k : Int) ⟨by omega, by omega⟩)
  rw [show scaleB (k : Int) = true from decide_eq_true (by omega)] at HS
  have hu := hV.units k hk
  have hp := unitN_pos k
  have hle := unitN_le k
  obtain ⟨U, hU⟩ : ∃ U, U = unitN k := ⟨_, rfl⟩
  rw [← hU] at hu hp hle ⊢
  clear hU hV
  have hn0 := hn.1
  have hn1 := hn.2
  have HA := Lib.hid (size_any n hn)
  have HU := Lib.hid (size_any (U : Int) ⟨by omega, by omega⟩)
  rw [Int.natAbs_natCast] at HU
  obtain ⟨A, hA⟩ : ∃ A, A = n.natAbs := ⟨_, rfl⟩
  obtain ⟨neg, hneg⟩ : ∃ neg, neg = decide (n < 0) := ⟨_, rfl⟩
  have hA2 : A ≤ 9223372036854775808 := by omega
  rw [← hA] at HA ⊢
  obtain ⟨Q, hQ⟩ : ∃ Q, Q = A / U := ⟨_, rfl⟩
  obtain ⟨R, hR⟩ : ∃ R, R = A % U := ⟨_, rfl⟩
  have hdm := Nat.div_add_mod A U
  rw [← hQ, ← hR, Nat.mul_comm] at hdm
  have hQA : Q ≤ A := by rw [hQ]; exact Nat.div_le_self _ _
  have hQU : Q * U ≤ A := by omega
  have e1 : (A : Int) / (U : Int) = (Q : Int) := by rw [hQ]; exact (Int.natCast_ediv _ _).symm
  have e2 : (A : Int) % (U : Int) = (R : Int) := by rw [hR]; exact (Int.natCast_emod _ _).symm
  have e3 : IntKind.u64.wrap ((A : Int) / (U : Int)) = (Q : Int) := by rw [e1]; exact wrap_nat _ (by omega)
  have e4 : IntKind.u64.wrap ((A : Int) % (U : Int)) = (R : Int) := by rw [e2]; exact wrap_nat _ (by have := Nat.mod_le A U; omega)
  have HSZ := Lib.hid (signed_zero neg Q R U (by
    by_cases h : n < 0
    · by_cases h2 : Q = 9223372036854775808
      · right; exact ⟨h2, by rw [hneg]; exact decide_eq_true h⟩
      · left; omega
    · left; omega))
  have hw : wrap64 (sgn neg Q * (U : Int)) = sgn neg Q * (U : Int) := by
    have hc : (Q : Int) * (U : Int) = ((Q * U : Nat) : Int) := (Int.natCast_mul _ _).symm
    by_cases h : n < 0
    · have : neg = true := by rw [hneg]; exact decide_eq_true h
      rw [this]
      show wrap64 (-(Q : Int) * (U : Int)) = -(Q : Int) * (U : Int)
      rw [Int.neg_mul, hc]
      unfold wrap64
      omega
    · have : neg = false := by rw [hneg]; exact decide_eq_false h
      rw [this]
      show wrap64 ((Q : Int) * (U : Int)) = (Q : Int) * (U : Int)
      rw [hc]
      unfold wrap64
      omega
  rw [← hneg, ← hQ]
  have HNEG := Lib.hid hneg.symm
  have HW := Lib.hid hw
  generalize sgn neg Q = S at HSZ HW ⊢
  have hU0 : ¬ (U : Int) = 0 := by omega
  have hU0' : ((U : Int) == 0) = false := by simp; omega
  have hU1 : (1 : Int) ≤ (U : Int) := by omega
  have hUn : ¬ U = 0 := by omega
  have e5 : IntKind.u64.wrap (Q : Int) = (Q : Int) := wrap_nat _ (by omega)
  have e6 : IntKind.u64.wrap (R : Int) = (R : Int) := by rw [← e2]; exact e4.trans e2.symm
  have e7 : (A : Int).tmod (U : Int) = (R : Int) := by rw [Int.tmod_eq_emod_of_nonneg (by omega)]; exact e2
  have e8 : (A : Int).tdiv (U : Int) = (Q : Int) := by rw [Int.tdiv_eq_ediv_of_nonneg (by omega)]; exact e1
  have hA0 : (0 : Int) ≤ (A : Int) := by omega
  have hb := Below.refl w.heap.size w
  clear hQ hR hdm hA hneg hw
  go_enter Tryz.func22, Tryz.ntmps22
  go_upto_region 4 with (go_at_call 76; ((with_reducible refine (HS.out _).mono ?_); rintro e w' ⟨rfl, rfl⟩))
  go_region_held3 (fun W => Below w.heap.size w W) (first | exact hb.drew | assumption | exact hb | exact (hb.alloc hb.size _).drew | exact hb.drew.alloc hb.size _)
    (first
      | (go_at_call 68; ((with_reducible refine (HA.out _).mono ?_); rintro e w1 ⟨rfl, rfl⟩))
      | (go_at_call 68; ((with_reducible refine (HU.out _).mono ?_); rintro e w1 ⟨rfl, rfl⟩)))
  all_goals
    rename_i hH
    go_wp2_with (go_at_call 77; rw [HNEG.out]; ((with_reducible refine (HSZ.out _).mono ?_); rintro e w1 ⟨rfl, hb1⟩))
    go_ret
    exact ⟨ret_int HW.out, hH.trans (hb1.mono hH.size)⟩

theorem trunc_any (n s : Int) (hn : I64 n) (hs : I64 s) (w : World) (hV : Vars w) :
    Calls Tryz.prog 22 #[.int .i64 n, .int .i64 s] w fun e w' => e = .returned (.int .i64 (truncS n s)) ∧ Below w.heap.size w w' := by
  unfold truncS
  by_cases h : scaleB s = true
  · obtain ⟨h0, h6⟩ := scaleB_true h
    obtain ⟨k, rfl⟩ := Int.eq_ofNat_of_zero_le h0
    rw [if_pos h, Int.toNat_natCast]
    exact trunc_yes n k hn (by omega) w hV
  · rw [if_neg h]
    exact (trunc_no n s hs (by simpa using h) w).mono fun e w' ⟨he, hw⟩ => ⟨he, by rw [← hw]; exact Below.refl _ _⟩

end Go.Proofs.YtocnkjnlmciojaaGreatDoor.De
