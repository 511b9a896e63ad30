/-
  The contracts of package decimal's products, quotients and truncations.
-/
import Derived.Test.YtocnkjnlmciojaaGreatDoorDecNum
namespace Go.Proofs.YtocnkjnlmciojaaGreatDoor.De
open Go.RowKit Go.Shelf

theorem towardZero_any (W R B : Nat) (w : World) :
    Calls Tryz.prog 78 #[.agg #[.int .u64 (W : Int), .int .u64 (R : Int), .int .u64 (B : Int)]] w fun e w' => e = .returned (.int .u64 (W : Int)) ∧ Below w.heap.size w w' := by
  go_enter Tryz.func78, Tryz.ntmps78
  go_wp2
  go_ret
  exact ⟨rfl, (Below.refl _ _).alloc (Nat.le_refl _) _⟩

theorem halfToEven_any (W R B : Nat) (hR : R < B) (hB : B < 18446744073709551616) (hW : W < 9223372036854775808) (w : World) :
    Calls Tryz.prog 143 #[.agg #[.int .u64 (W : Int), .int .u64 (R : Int), .int .u64 (B : Int)]] w fun e w' => e = .returned (.int .u64 (evenN W R B : Int)) ∧ Below w.heap.size w w' := by
  obtain ⟨U, hU⟩ : ∃ U, U = B - R := ⟨_, rfl⟩
  have e0 : ((B : Int) - (R : Int)) = (U : Int) := by omega
  have HE : Hid (evenN W R B = if U < R ∨ R = U ∧ W % 2 = 1 then W + 1 else W) := by show _ = _; rw [hU]; rfl
  have hb := Below.refl w.heap.size w
  have hbA := hb.alloc hb.size (.cells #[.int .u64 (W : Int), .int .u64 (R : Int), .int .u64 (B : Int)] 77)
  clear hU hb
  by_cases h1 : U < R
  · have HG : Hid ((evenN W R B : Int) = (W : Int) + 1) := by show _ = _; rw [HE.out, if_pos (.inl h1)]; omega
    go_enter Tryz.func143, Tryz.ntmps143
    go_wp2
    go_quiet (fail)
    go_wp2
    go_ret
    exact ⟨ret_int HG.out.symm, below_drewN hbA _⟩
  · by_cases h2 : R = U
    · subst h2
      by_cases h3 : W % 2 = 1
      · have HG : Hid ((evenN W R B : Int) = (W : Int) + 1) := by show _ = _; rw [HE.out, if_pos (.inr ⟨rfl, h3⟩)]; omega
        have h4 : ((W : Int) % 2 == 1) = true := by simp; omega
        clear h3
        go_enter Tryz.func143, Tryz.ntmps143
        go_wp2
        go_quiet (fail)
        go_wp2
        go_ret
        exact ⟨ret_int HG.out.symm, below_drewN hbA _⟩
      · have HG : Hid ((evenN W R B : Int) = (W : Int)) := by show _ = _; rw [HE.out, if_neg (by omega)]
        have h4 : ((W : Int) % 2 == 1) = false := by simp; omega
        clear h3
        go_enter Tryz.func143, Tryz.ntmps143
        go_wp2
        go_quiet (fail)
        go_wp2
        go_ret
        exact ⟨ret_int HG.out.symm, below_drewN hbA _⟩
    · have HG : Hid ((evenN W R B : Int) = (W : Int)) := by show _ = _; rw [HE.out, if_neg (by omega)]
      have h4 : (R == U) = false := by simpa using h2
      have h5 : ((R : Int) == (U : Int)) = false := by simp; omega
      go_enter Tryz.func143, Tryz.ntmps143
      go_wp2
      go_quiet (fail)
      go_wp2
      go_ret
      exact ⟨ret_int HG.out.symm, below_drewN hbA _⟩

theorem signed_even (neg : Bool) (W R B : Nat) (hR : R < B) (hB : B < 18446744073709551616) (hW : W < 9000000000000000000) (w : World) :
    Calls Tryz.prog 77 #[.bool neg, .func (.func 143) #[.agg #[.int .u64 (W : Int), .int .u64 (R : Int), .int .u64 (B : Int)]] #[]] w fun e w' => e = .returned (.int .i64 (sgn neg (evenN W R B))) ∧ Below w.heap.size w w' := by
  have hle := evenN_le W R B
  have HC := Lib.hid (halfToEven_any W R B hR hB (by omega))
  generalize evenN W R B = E at hle HC
  unfold sgn
  cases neg
  all_goals
    go_enter Tryz.func77, Tryz.ntmps77
    go_wp2_with (go_at_call 143; ((with_reducible refine (HC.out _).mono ?_); rintro e w1 ⟨rfl, hb1⟩))
    go_ret
    exact ⟨rfl, hb1⟩

theorem signed_zero (neg : Bool) (W R B : Nat) (hW : W < 9223372036854775808 ∨ W = 9223372036854775808 ∧ neg = true) (w : World) :
    Calls Tryz.prog 77 #[.bool neg, .func (.func 78) #[.agg #[.int .u64 (W : Int), .int .u64 (R : Int), .int .u64 (B : Int)]] #[]] w fun e w' => e = .returned (.int .i64 (sgn neg W)) ∧ Below w.heap.size w w' := by
  have HC := Lib.hid (towardZero_any W R B)
  unfold sgn
  cases neg
  · have hw2 : W < 9223372036854775808 := by rcases hW with h | ⟨_, h⟩; exact h; cases h
    have HW := Lib.hid (show wrap64 (W : Int) = (W : Int) by unfold wrap64; omega)
    clear hW hw2
    go_enter Tryz.func77, Tryz.ntmps77
    go_wp2_with (go_at_call 78; ((with_reducible refine (HC.out _).mono ?_); rintro e w1 ⟨rfl, hb1⟩))
    go_ret
    exact ⟨ret_int HW.out, hb1⟩
  · have hw2 : W ≤ 9223372036854775808 := by omega
    have HW := Lib.hid (show wrap64 (-wrap64 (W : Int)) = -(W : Int) by unfold wrap64; omega)
    clear hW hw2
    go_enter Tryz.func77, Tryz.ntmps77
    go_wp2_with (go_at_call 78; ((with_reducible refine (HC.out _).mono ?_); rintro e w1 ⟨rfl, hb1⟩))
    go_ret
    exact ⟨ret_int HW.out, hb1⟩

/-- divide where 64 bits hold the whole part. -/
theorem divide_fits (a b c : Nat) (ha : a < 18446744073709551616) (hb : b < 18446744073709551616) (hc : c < 18446744073709551616) (h : a * b / 18446744073709551616 < c) (w : World) :
    Calls Tryz.prog 142 #[.int .u64 (a : Int), .int .u64 (b : Int), .int .u64 (c : Int)] w fun e w' => e = .returned (.tuple #[.agg #[.int .u64 ((a * b / c : Nat) : Int), .int .u64 ((a * b % c : Nat) : Int), .int .u64 (c : Int)], .bool true]) ∧ Below w.heap.size w w' := by
  have hdm := Nat.div_add_mod (a * b) 18446744073709551616
  have hml := Nat.mod_lt (a * b) (show 0 < 18446744073709551616 by decide)
  have HM := Lib.hid (Tryz.bits_Mul64 a b ha hb)
  have HD := Lib.hid (div64_any (a * b / 18446744073709551616) (a * b % 18446744073709551616) c h hc hml)
  rw [show a * b / 18446744073709551616 * 18446744073709551616 + a * b % 18446744073709551616 = a * b by omega] at HD
  generalize a * b / 18446744073709551616 = H at h HM HD
  generalize a * b % 18446744073709551616 = L at hml HM HD
  generalize a * b / c = Q at HD
  generalize a * b % c = R at HD
  clear hdm hml
  have hb0 := (Below.refl w.heap.size w).alloc (Nat.le_refl _) (.cells #[.int .u64 0, .int .u64 0, .int .u64 0] 77)
  go_enter Tryz.func142, Tryz.ntmps142
  go_wp2_with (first
    | (go_at_call 160; ((with_reducible refine (HM.out _).mono ?_); rintro e w1 ⟨rfl, rfl⟩))
    | (go_at_call 161; ((with_reducible refine (HD.out _).mono ?_); rintro e w1 ⟨rfl, nd, rfl⟩)))
  exact bodyPost_ret (v := .tuple #[.agg #[.int .u64 (Q : Int), .int .u64 (R : Int), .int .u64 (c : Int)], .bool true]) (by simp [results, Tryz.results142, go_sem]) rfl ⟨rfl, (((below_drewN hb0 nd).setCell (by simp) _).setCell (by simp) _).setCell (by simp) _⟩

/-- divide where they do not. -/
theorem divide_big (a b c : Nat) (ha : a < 18446744073709551616) (hb : b < 18446744073709551616) (h : c ≤ a * b / 18446744073709551616) (w : World) :
    Calls Tryz.prog 142 #[.int .u64 (a : Int), .int .u64 (b : Int), .int .u64 (c : Int)] w fun e w' => e = .returned (.tuple #[.agg #[.int .u64 0, .int .u64 0, .int .u64 0], .bool false]) ∧ Below w.heap.size w w' := by
  have HM := Lib.hid (Tryz.bits_Mul64 a b ha hb)
  generalize a * b / 18446744073709551616 = H at h HM
  generalize a * b % 18446744073709551616 = L at HM
  have hb0 := (Below.refl w.heap.size w).alloc (Nat.le_refl _) (.cells #[.int .u64 0, .int .u64 0, .int .u64 0] 77)
  go_enter Tryz.func142, Tryz.ntmps142
  go_wp2_with (go_at_call 160; ((with_reducible refine (HM.out _).mono ?_); rintro e w1 ⟨rfl, rfl⟩))
  exact bodyPost_ret (v := .tuple #[.agg #[.int .u64 0, .int .u64 0, .int .u64 0], .bool false]) (by simp [results, Tryz.results142, go_sem]) rfl ⟨rfl, hb0⟩

set_option maxHeartbeats 1000000 in
/-- mulDiv: c is not 0. -/
theorem mulDiv_any (a b c : Int) (ha : I64 a) (hb : I64 b) (hc : I64 c) (hc0 : c ≠ 0) (w : World) :
    Calls Tryz.prog 116 #[.int .i64 a, .int .i64 b, .int .i64 c] w fun e w' => e = .returned (.tuple #[.int .i64 (mulDivS a b c).1, .int .i64 (mulDivS a b c).2]) ∧ Below w.heap.size w w' := by
  have hna : a.natAbs < 18446744073709551616 := by have := ha.1; have := ha.2; omega
  have hnb : b.natAbs < 18446744073709551616 := by have := hb.1; have := hb.2; omega
  have hnc : c.natAbs < 18446744073709551616 := by have := hc.1; have := hc.2; omega
  have hpos : 0 < c.natAbs := by omega
  have HSA := Lib.hid (size_any a ha)
  have HSB := Lib.hid (size_any b hb)
  have HSC := Lib.hid (size_any c hc)
  have hneg := neg_spelled a b c ha hb hc
  obtain ⟨neg, hn⟩ : ∃ neg, neg = negB a b c := ⟨_, rfl⟩
  rw [← hn] at hneg
  have HNEG := Lib.hid hneg
  clear hneg
  by_cases hd : c.natAbs ≤ a.natAbs * b.natAbs / 18446744073709551616
  · have hq : 18446744073709551616 ≤ a.natAbs * b.natAbs / c.natAbs := by
      rw [Nat.le_div_iff_mul_le hpos, Nat.mul_comm]
      exact (Nat.le_div_iff_mul_le (by decide)).1 hd
    have HQ := Lib.hid (show mulDivS a b c = (0, 2) by unfold mulDivS; rw [if_pos (by omega)])
    have HDV := Lib.hid (divide_big _ _ _ hna hnb hd)
    clear hd hq
    generalize a.natAbs = A at HSA HDV
    generalize b.natAbs = B at HSB HDV
    generalize c.natAbs = C at HSC HDV hpos
    go_enter Tryz.func116, Tryz.ntmps116
    go_wp2_with (first
      | (go_at_call 68; ((with_reducible refine (HSA.out _).mono ?_); rintro e w1 ⟨rfl, rfl⟩))
      | (go_at_call 68; ((with_reducible refine (HSB.out _).mono ?_); rintro e w1 ⟨rfl, rfl⟩))
      | (go_at_call 68; ((with_reducible refine (HSC.out _).mono ?_); rintro e w1 ⟨rfl, rfl⟩))
      | (go_at_call 142; ((with_reducible refine (HDV.out _).mono ?_); rintro e w2 ⟨rfl, hb2⟩)))
    go_ret2
    exact ⟨by rw [HQ.out]; rfl, hb2.alloc hb2.size _⟩
  · have hd' : a.natAbs * b.natAbs / 18446744073709551616 < c.natAbs := by omega
    have HDV := Lib.hid (divide_fits _ _ _ hna hnb hnc hd')
    have hR := Nat.mod_lt (a.natAbs * b.natAbs) hpos
    by_cases hw : 1000000000000000 < a.natAbs * b.natAbs / c.natAbs
    · have HQ := Lib.hid (show mulDivS a b c = (0, 2) by unfold mulDivS; rw [if_pos hw])
      clear hd hd'
      generalize a.natAbs * b.natAbs / c.natAbs = Q at HDV hw
      generalize a.natAbs * b.natAbs % c.natAbs = R at HDV hR
      generalize a.natAbs = A at HSA HDV
      generalize b.natAbs = B at HSB HDV
      generalize c.natAbs = C at HSC HDV hpos hR hnc
      go_enter Tryz.func116, Tryz.ntmps116
      go_wp2_with (first
        | (go_at_call 68; ((with_reducible refine (HSA.out _).mono ?_); rintro e w1 ⟨rfl, rfl⟩))
        | (go_at_call 68; ((with_reducible refine (HSB.out _).mono ?_); rintro e w1 ⟨rfl, rfl⟩))
        | (go_at_call 68; ((with_reducible refine (HSC.out _).mono ?_); rintro e w1 ⟨rfl, rfl⟩))
        | (go_at_call 142; ((with_reducible refine (HDV.out _).mono ?_); rintro e w2 ⟨rfl, hb2⟩)))
      go_ret2
      exact ⟨by rw [HQ.out]; rfl, hb2.alloc hb2.size _⟩
    · have HQ := Lib.hid (show mulDivS a b c = chk (sgn neg (evenN (a.natAbs * b.natAbs / c.natAbs) (a.natAbs * b.natAbs % c.natAbs) c.natAbs)) by unfold mulDivS; rw [if_neg hw, hn])
      clear hd hd' hn
      generalize a.natAbs * b.natAbs / c.natAbs = Q at HDV hw HQ
      generalize a.natAbs * b.natAbs % c.natAbs = R at HDV hR HQ
      generalize a.natAbs = A at HSA HDV
      generalize b.natAbs = B at HSB HDV
      generalize c.natAbs = C at HSC HDV hpos hR hnc HQ
      have HSG := Lib.hid (signed_even neg Q R C hR hnc (by omega))
      have hle := evenN_le Q R C
      have hI : I64 (sgn neg (evenN Q R C)) := by unfold sgn I64; split <;> omega
      have HCK := Lib.hid (checked_any _ hI)
      generalize sgn neg (evenN Q R C) = S at HSG HCK HQ
      clear hle hI
      go_enter Tryz.func116, Tryz.ntmps116
      go_wp2_with (first
        | (go_at_call 68; ((with_reducible refine (HSA.out _).mono ?_); rintro e w1 ⟨rfl, rfl⟩))
        | (go_at_call 68; ((with_reducible refine (HSB.out _).mono ?_); rintro e w1 ⟨rfl, rfl⟩))
        | (go_at_call 68; ((with_reducible refine (HSC.out _).mono ?_); rintro e w1 ⟨rfl, rfl⟩))
        | (go_at_call 142; ((with_reducible refine (HDV.out _).mono ?_); rintro e w2 ⟨rfl, hb2⟩))
        | (go_at_call 77; rw [HNEG.out]; ((with_reducible refine (HSG.out _).mono ?_); rintro e w3 ⟨rfl, hb3⟩))
        | (go_at_call 115; ((with_reducible refine (HCK.out _).mono ?_); rintro e w4 ⟨rfl, rfl⟩)))
      go_ret2
      exact ⟨by rw [HQ.out]; rfl, (hb2.alloc hb2.size _).trans (hb3.mono (hb2.alloc hb2.size _).size)⟩

theorem mul_any (a b : Int) (ha : I64 a) (hb : I64 b) (w : World) :
    Calls Tryz.prog 59 #[.int .i64 a, .int .i64 b] w fun e w' => e = .returned (.tuple #[.int .i64 (mulS a b).1, .int .i64 (mulS a b).2]) ∧ Below w.heap.size w w' := by
  unfold mulS
  have HU := Lib.hid (mulDiv_any a b 1000000 ha hb ⟨by omega, by omega⟩ (by omega))
  have hb0 := Below.refl w.heap.size w
  cases hv : validB a
  · go_enter Tryz.func59, Tryz.ntmps59
    go_wp2_with (go_at_call 16; (with_reducible refine (valid_any a ha _).mono ?_); rintro e w' ⟨rfl, rfl⟩; rw [hv])
    go_ret2
    exact ⟨rfl, hb0⟩
  · cases hu : validB b
    · go_enter Tryz.func59, Tryz.ntmps59
      go_wp2_with (first
        | (go_at_call 16; (with_reducible refine (valid_any a ha _).mono ?_); rintro e w' ⟨rfl, rfl⟩; rw [hv])
        | (go_at_call 16; (with_reducible refine (valid_any b hb _).mono ?_); rintro e w' ⟨rfl, rfl⟩; rw [hu]))
      go_ret2
      exact ⟨rfl, hb0⟩
    · go_enter Tryz.func59, Tryz.ntmps59
      go_wp2_with (first
        | (go_at_call 16; (with_reducible refine (valid_any a ha _).mono ?_); rintro e w' ⟨rfl, rfl⟩; rw [hv])
        | (go_at_call 16; (with_reducible refine (valid_any b hb _).mono ?_); rintro e w' ⟨rfl, rfl⟩; rw [hu])
        | (go_at_call 116; ((with_reducible refine (HU.out _).mono ?_); rintro e w' ⟨rfl, hb1⟩)))
      go_ret2
      exact ⟨rfl, hb1⟩

theorem div_any (a b : Int) (ha : I64 a) (hb : I64 b) (w : World) :
    Calls Tryz.prog 63 #[.int .i64 a, .int .i64 b] w fun e w' => e = .returned (.tuple #[.int .i64 (divS a b).1, .int .i64 (divS a b).2]) ∧ Below w.heap.size w w' := by
  unfold divS
  have hb0 := Below.refl w.heap.size w
  cases hv : validB a
  · go_enter Tryz.func63, Tryz.ntmps63
    go_wp2_with (go_at_call 16; (with_reducible refine (valid_any a ha _).mono ?_); rintro e w' ⟨rfl, rfl⟩; rw [hv])
    go_ret2
    exact ⟨rfl, hb0⟩
  · cases hu : validB b
    · go_enter Tryz.func63, Tryz.ntmps63
      go_wp2_with (first
        | (go_at_call 16; (with_reducible refine (valid_any a ha _).mono ?_); rintro e w' ⟨rfl, rfl⟩; rw [hv])
        | (go_at_call 16; (with_reducible refine (valid_any b hb _).mono ?_); rintro e w' ⟨rfl, rfl⟩; rw [hu]))
      go_ret2
      exact ⟨rfl, hb0⟩
    · by_cases h0 : b = 0
      · subst h0
        go_enter Tryz.func63, Tryz.ntmps63
        go_wp2_with (first
          | (go_at_call 16; (with_reducible refine (valid_any a ha _).mono ?_); rintro e w' ⟨rfl, rfl⟩; rw [hv])
          | (go_at_call 16; (with_reducible refine (valid_any 0 hb _).mono ?_); rintro e w' ⟨rfl, rfl⟩; rw [hu]))
        go_ret2
        exact ⟨rfl, hb0⟩
      · have HU := Lib.hid (mulDiv_any a 1000000 b ha ⟨by omega, by omega⟩ hb h0)
        have hb0' : (b == 0) = false := by simpa using h0
        go_enter Tryz.func63, Tryz.ntmps63
        go_wp2_with (first
          | (go_at_call 16; (with_reducible refine (valid_any a ha _).mono ?_); rintro e w' ⟨rfl, rfl⟩; rw [hv])
          | (go_at_call 16; (with_reducible refine (valid_any b hb _).mono ?_); rintro e w' ⟨rfl, rfl⟩; rw [hu])
          | (go_at_call 116; ((with_reducible refine (HU.out _).mono ?_); rintro e w' ⟨rfl, hb1⟩)))
        go_ret2
        exact ⟨rfl, hb1⟩

end Go.Proofs.YtocnkjnlmciojaaGreatDoor.De
