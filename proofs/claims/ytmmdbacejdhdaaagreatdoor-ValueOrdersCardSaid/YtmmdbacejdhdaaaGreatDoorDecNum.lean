/-
  The contracts of package decimal's functions on numbers (no memory is read but the table of units).
-/
import Derived.Test.YtmmdbacejdhdaaaGreatDoorDecDiv
import Derived.Test.YtmmdbacejdhdaaaGreatDoorDecSpec
import Derived.OpenShut
import Derived.Deep.RegionHeld3
import Derived.StillTailTactics
namespace Go.Proofs.YtmmdbacejdhdaaaGreatDoor.De
open Go.RowKit Go.Shelf

/-- The numbers of 64 bits. -/
def I64 (n : Int) : Prop := -9223372036854775808 ≤ n ∧ n ≤ 9223372036854775807

theorem wrap_i64 (n : Int) : IntKind.i64.wrap n = (n + 9223372036854775808) % 18446744073709551616 - 9223372036854775808 := by
  simp [IntKind.wrap, IntKind.bits, IntKind.signed]
  split <;> omega

theorem xor_neg (x y : Int) (hx : I64 x) (hy : I64 y) : decide (bits BinOp.xor IntKind.i64 x y < 0) = (decide (x < 0) != decide (y < 0)) ∧ I64 (bits BinOp.xor IntKind.i64 x y) := by
  have e : bits BinOp.xor IntKind.i64 x y = (BitVec.ofInt 64 x ^^^ BitVec.ofInt 64 y).toInt := by
    show IntKind.i64.wrap ((BitVec.ofInt 64 x ^^^ BitVec.ofInt 64 y).toNat : Int) = _
    rw [wrap_i64, BitVec.toInt_eq_toNat_cond]
    have := (BitVec.ofInt 64 x ^^^ BitVec.ofInt 64 y).isLt
    split <;> omega
  have hb : ∀ z : Int, I64 z → (BitVec.ofInt 64 z).toInt = z := fun z hz => by
    rw [BitVec.toInt_ofInt, Int.bmod_def]
    have h0 := hz.1
    have h1 := hz.2
    split <;> omega
  refine ⟨?_, ?_⟩
  · rw [e, ← BitVec.msb_eq_toInt, BitVec.msb_xor, BitVec.msb_eq_toInt, BitVec.msb_eq_toInt, hb x hx, hb y hy]
  · rw [e]
    have h0 := BitVec.le_toInt (BitVec.ofInt 64 x ^^^ BitVec.ofInt 64 y)
    have h1 := BitVec.toInt_le (x := BitVec.ofInt 64 x ^^^ BitVec.ofInt 64 y)
    unfold I64
    constructor <;> omega

theorem neg_spelled (a b c : Int) (ha : I64 a) (hb : I64 b) (hc : I64 c) : decide (bits BinOp.xor IntKind.i64 (bits BinOp.xor IntKind.i64 a b) c < 0) = negB a b c := by
  obtain ⟨h1, h2⟩ := xor_neg a b ha hb
  rw [(xor_neg _ c h2 hc).1, h1]
  rfl

theorem within_any (n m : Int) (hn : I64 n) (hm : 0 ≤ m ∧ m ≤ 9223372036854775807) (w : World) :
    Calls Tryz.prog 70 #[.int .i64 n, .int .i64 m] w fun e w' => e = .returned (.bool (withinB n m)) ∧ w = w' := by
  obtain ⟨h0, h1⟩ := hn
  obtain ⟨h2, h3⟩ := hm
  by_cases ha : -m ≤ n
  · by_cases hb : n ≤ m
    · have e : withinB n m = true := decide_eq_true ⟨ha, hb⟩
      rw [e]
      go_enter Tryz.func70, Tryz.ntmps70
      go_wp2
      go_ret
      exact ⟨rfl, rfl⟩
    · have e : withinB n m = false := decide_eq_false (by omega)
      rw [e]
      go_enter Tryz.func70, Tryz.ntmps70
      go_wp2
      go_ret
      exact ⟨rfl, rfl⟩
  · have e : withinB n m = false := decide_eq_false (by omega)
    rw [e]
    go_enter Tryz.func70, Tryz.ntmps70
    go_wp2
    go_ret
    exact ⟨rfl, rfl⟩

theorem valid_any (n : Int) (hn : I64 n) (w : World) :
    Calls Tryz.prog 21 #[.int .i64 n] w fun e w' => e = .returned (.bool (validB n)) ∧ w = w' := by
  have e : withinB n 1000000000000000 = validB n := rfl
  have HE := Lib.hid e
  clear e
  go_enter Tryz.func21, Tryz.ntmps21
  go_wp2_with (go_at_call 70; refine (within_any n 1000000000000000 hn (by omega) _).mono ?_; rintro e w' ⟨rfl, rfl⟩; rw [HE.out])
  go_ret
  exact ⟨rfl, rfl⟩

theorem isScale_any (n : Int) (hn : I64 n) (w : World) :
    Calls Tryz.prog 81 #[.int .i64 n] w fun e w' => e = .returned (.bool (scaleB n)) ∧ w = w' := by
  obtain ⟨h0, h1⟩ := hn
  by_cases ha : 0 ≤ n
  · by_cases hb : n ≤ 6
    · have e : scaleB n = true := decide_eq_true ⟨ha, hb⟩
      rw [e]
      go_enter Tryz.func81, Tryz.ntmps81
      go_wp2
      go_ret
      exact ⟨rfl, rfl⟩
    · have e : scaleB n = false := decide_eq_false (by omega)
      rw [e]
      go_enter Tryz.func81, Tryz.ntmps81
      go_wp2
      go_ret
      exact ⟨rfl, rfl⟩
  · have e : scaleB n = false := decide_eq_false (by omega)
    rw [e]
    go_enter Tryz.func81, Tryz.ntmps81
    go_wp2
    go_ret
    exact ⟨rfl, rfl⟩

theorem checked_any (n : Int) (hn : I64 n) (w : World) :
    Calls Tryz.prog 120 #[.int .i64 n] w fun e w' => e = .returned (.tuple #[.int .i64 (chk n).1, .int .i64 (chk n).2]) ∧ w = w' := by
  unfold chk
  cases hv : validB n
  all_goals
    go_enter Tryz.func120, Tryz.ntmps120
    go_wp2_with (go_at_call 21; refine (valid_any n hn _).mono ?_; rintro e w' ⟨rfl, rfl⟩; rw [hv])
    go_ret2
    exact ⟨rfl, rfl⟩

theorem add_any (a b : Int) (ha : I64 a) (hb : I64 b) (w : World) :
    Calls Tryz.prog 61 #[.int .i64 a, .int .i64 b] w fun e w' => e = .returned (.tuple #[.int .i64 (addS a b).1, .int .i64 (addS a b).2]) ∧ w = w' := by
  unfold addS
  cases hv : validB a
  · go_enter Tryz.func61, Tryz.ntmps61
    go_wp2_with (go_at_call 21; (with_reducible refine (valid_any a ha _).mono ?_); rintro e w' ⟨rfl, rfl⟩; rw [hv])
    go_ret2
    exact ⟨rfl, rfl⟩
  · cases hu : validB b
    · go_enter Tryz.func61, Tryz.ntmps61
      go_wp2_with (first
        | (go_at_call 21; (with_reducible refine (valid_any a ha _).mono ?_); rintro e w' ⟨rfl, rfl⟩; rw [hv])
        | (go_at_call 21; (with_reducible refine (valid_any b hb _).mono ?_); rintro e w' ⟨rfl, rfl⟩; rw [hu]))
      go_ret2
      exact ⟨rfl, rfl⟩
    · have h1 := validB_true hv
      have h2 := validB_true hu
      have h3 : I64 (a + b) := ⟨by omega, by omega⟩
      go_enter Tryz.func61, Tryz.ntmps61
      go_wp2_with (first
        | (go_at_call 21; (with_reducible refine (valid_any a ha _).mono ?_); rintro e w' ⟨rfl, rfl⟩; rw [hv])
        | (go_at_call 21; (with_reducible refine (valid_any b hb _).mono ?_); rintro e w' ⟨rfl, rfl⟩; rw [hu])
        | (go_at_call 120; (with_reducible refine (checked_any (a + b) h3 _).mono ?_); rintro e w' ⟨rfl, rfl⟩))
      go_ret2
      exact ⟨rfl, rfl⟩

theorem sub_any (a b : Int) (ha : I64 a) (hb : I64 b) (w : World) :
    Calls Tryz.prog 63 #[.int .i64 a, .int .i64 b] w fun e w' => e = .returned (.tuple #[.int .i64 (subS a b).1, .int .i64 (subS a b).2]) ∧ w = w' := by
  unfold subS
  cases hv : validB a
  · go_enter Tryz.func63, Tryz.ntmps63
    go_wp2_with (go_at_call 21; (with_reducible refine (valid_any a ha _).mono ?_); rintro e w' ⟨rfl, rfl⟩; rw [hv])
    go_ret2
    exact ⟨rfl, rfl⟩
  · cases hu : validB b
    · go_enter Tryz.func63, Tryz.ntmps63
      go_wp2_with (first
        | (go_at_call 21; (with_reducible refine (valid_any a ha _).mono ?_); rintro e w' ⟨rfl, rfl⟩; rw [hv])
        | (go_at_call 21; (with_reducible refine (valid_any b hb _).mono ?_); rintro e w' ⟨rfl, rfl⟩; rw [hu]))
      go_ret2
      exact ⟨rfl, rfl⟩
    · have h1 := validB_true hv
      have h2 := validB_true hu
      have h3 : I64 (a - b) := ⟨by omega, by omega⟩
      go_enter Tryz.func63, Tryz.ntmps63
      go_wp2_with (first
        | (go_at_call 21; (with_reducible refine (valid_any a ha _).mono ?_); rintro e w' ⟨rfl, rfl⟩; rw [hv])
        | (go_at_call 21; (with_reducible refine (valid_any b hb _).mono ?_); rintro e w' ⟨rfl, rfl⟩; rw [hu])
        | (go_at_call 120; (with_reducible refine (checked_any (a - b) h3 _).mono ?_); rintro e w' ⟨rfl, rfl⟩))
      go_ret2
      exact ⟨rfl, rfl⟩

theorem size_any (n : Int) (hn : I64 n) (w : World) :
    Calls Tryz.prog 73 #[.int .i64 n] w fun e w' => e = .returned (.int .u64 (n.natAbs : Int)) ∧ w = w' := by
  obtain ⟨h0, h1⟩ := hn
  by_cases h : n < 0
  · have e : IntKind.u64.wrap (-IntKind.u64.wrap n) = (n.natAbs : Int) := by rw [IntKind.wrap_u64, IntKind.wrap_u64]; omega
    have HE := Lib.hid e
    clear e
    go_enter Tryz.func73, Tryz.ntmps73
    go_wp2
    go_ret
    exact ⟨ret_int HE.out, rfl⟩
  · have e : n = (n.natAbs : Int) := by omega
    have HE := Lib.hid e
    clear e
    go_enter Tryz.func73, Tryz.ntmps73
    go_wp2
    go_ret
    exact ⟨ret_int HE.out, rfl⟩

theorem cmp_any (a b : Int) (w : World) :
    Calls Tryz.prog 19 #[.int .i64 a, .int .i64 b] w fun e w' => e = .returned (.int .i64 (Lib.compareInt a b)) ∧ w = w' := by
  go_enter Tryz.func19, Tryz.ntmps19
  go_wp2_with (go_at_call 69; refine (Tryz.cmp_Compare_int a b _).mono ?_; rintro e w' ⟨rfl, rfl⟩)
  go_ret
  exact ⟨rfl, rfl⟩

end Go.Proofs.YtmmdbacejdhdaaaGreatDoor.De
