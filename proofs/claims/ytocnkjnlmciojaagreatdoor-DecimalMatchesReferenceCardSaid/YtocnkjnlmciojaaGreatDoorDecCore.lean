/-
  The contracts of package decimal's functions on numbers that texts and values want; what a world must hold for them.
-/
import Derived.Test.YtocnkjnlmciojaaGreatDoorShelf
import Derived.Test.YtocnkjnlmciojaaGreatDoorDecSpec
import Derived.WalkKit
import Derived.ProofKit
import Derived.BigQuiet
import Derived.Deep.QuietTactic
import Derived.Lib.Hide
import Derived.Outline
import Derived.Lib.ItoaNum
import Derived.Deep.DeepCutAuto
import Derived.Deep.CutBlock
import Derived.OpenShut
import Derived.Deep.RegionHeld3
import Derived.StillTailTactics
import Derived.Lib.SmallJoins
import Derived.Lib.ItoaMem
namespace Go.Proofs.YtocnkjnlmciojaaGreatDoor.De
open Go.RowKit Go.Shelf

theorem ret_int {k : IntKind} {a b : Int} (h : a = b) : Ending.returned (.int k a) = .returned (.int k b) := by rw [h]

theorem ret_two {k : IntKind} {a b c d : Int} (h : a = b) (h2 : c = d) : Ending.returned (.tuple #[.int k a, .int k c]) = .returned (.tuple #[.int k b, .int k d]) := by rw [h, h2]

theorem wrap_nat (a : Nat) (h : a < 18446744073709551616) : IntKind.u64.wrap (a : Int) = (a : Int) := by
  rw [IntKind.wrap_u64]; exact Int.emod_eq_of_lt (Int.natCast_nonneg _) (by omega)
theorem wrap_mod (a : Nat) : IntKind.u64.wrap (a : Int) = ((a % 18446744073709551616 : Nat) : Int) := by
  rw [IntKind.wrap_u64]; omega
theorem wrap_mul (a b c : Nat) (h : a * b = c) (hc : c < 18446744073709551616) : IntKind.u64.wrap ((a : Int) * (b : Int)) = (c : Int) := by
  rw [← Int.natCast_mul, h, wrap_nat _ hc]
theorem and_low (a b : Nat) (ha : a < 18446744073709551616) (h : a % 4294967296 = b) : bits BinOp.and IntKind.u64 (a : Int) 4294967295 = (b : Int) := by
  have h' := bits_and_u64_nat a 4294967295 ha (by omega)
  have e : a &&& 4294967295 = a % 4294967296 := Nat.and_two_pow_sub_one_eq_mod a 32
  rw [e, h] at h'
  exact h'

/-- The numbers of 64 bits. -/
def I64 (n : Int) : Prop := -9223372036854775808 ≤ n ∧ n ≤ 9223372036854775807

theorem wrap_i64 (n : Int) : IntKind.i64.wrap n = (n + 9223372036854775808) % 18446744073709551616 - 9223372036854775808 := by
  simp [IntKind.wrap, IntKind.bits, IntKind.signed]
  split <;> omega

theorem xor_neg (x y : Int) (hx : I64 x) (hy : I64 y) : decide (bits BinOp.xor IntKind.i64 x y < 0) = (decide (x < 0) != decide (y < 0)) ∧ I64 (bits BinOp.xor IntKind.i64 x y) := by
  have e : bits BinOp.xor IntKind.i64 x y = (BitVec.ofInt 64 x ^^^ BitVec.ofInt 64 y).toInt := by
    show IntKind.i64.wrap ((BitVec.ofInt 64 x ^^^ BitVec.ofInt 64 y).toNat : Int) = _
    rw [wrap_i64, BitVec.toInt_eq_toNat_cond]
    have := (BitVec.ofInt 64 x ^^^ BitVec.ofInt 64 y).isLt
    split <;> omega
  have hb : ∀ z : Int, I64 z → (BitVec.ofInt 64 z).toInt = z := fun z hz => by
    rw [BitVec.toInt_ofInt, Int.bmod_def]
    have h0 := hz.1
    have h1 := hz.2
    split <;> omega
  refine ⟨?_, ?_⟩
  · rw [e, ← BitVec.msb_eq_toInt, BitVec.msb_xor, BitVec.msb_eq_toInt, BitVec.msb_eq_toInt, hb x hx, hb y hy]
  · rw [e]
    have h0 := BitVec.le_toInt (BitVec.ofInt 64 x ^^^ BitVec.ofInt 64 y)
    have h1 := BitVec.toInt_le (x := BitVec.ofInt 64 x ^^^ BitVec.ofInt 64 y)
    unfold I64
    constructor <;> omega

theorem neg_spelled (a b c : Int) (ha : I64 a) (hb : I64 b) (hc : I64 c) : decide (bits BinOp.xor IntKind.i64 (bits BinOp.xor IntKind.i64 a b) c < 0) = negB a b c := by
  obtain ⟨h1, h2⟩ := xor_neg a b ha hb
  rw [(xor_neg _ c h2 hc).1, h1]
  rfl

theorem within_any (n m : Int) (hn : I64 n) (hm : 0 ≤ m ∧ m ≤ 9223372036854775807) (w : World) :
    Calls Tryz.prog 65 #[.int .i64 n, .int .i64 m] w fun e w' => e = .returned (.bool (withinB n m)) ∧ w = w' := by
  obtain ⟨h0, h1⟩ := hn
  obtain ⟨h2, h3⟩ := hm
  by_cases ha : -m ≤ n
  · by_cases hb : n ≤ m
    · have e : withinB n m = true := decide_eq_true ⟨ha, hb⟩
      rw [e]
      go_enter Tryz.func65, Tryz.ntmps65
      go_wp2
      go_ret
      exact ⟨rfl, rfl⟩
    · have e : withinB n m = false := decide_eq_false (by omega)
      rw [e]
      go_enter Tryz.func65, Tryz.ntmps65
      go_wp2
      go_ret
      exact ⟨rfl, rfl⟩
  · have e : withinB n m = false := decide_eq_false (by omega)
    rw [e]
    go_enter Tryz.func65, Tryz.ntmps65
    go_wp2
    go_ret
    exact ⟨rfl, rfl⟩

theorem valid_any (n : Int) (hn : I64 n) (w : World) :
    Calls Tryz.prog 16 #[.int .i64 n] w fun e w' => e = .returned (.bool (validB n)) ∧ w = w' := by
  have e : withinB n 1000000000000000 = validB n := rfl
  have HE := Lib.hid e
  clear e
  go_enter Tryz.func16, Tryz.ntmps16
  go_wp2_with (go_at_call 65; refine (within_any n 1000000000000000 hn (by omega) _).mono ?_; rintro e w' ⟨rfl, rfl⟩; rw [HE.out])
  go_ret
  exact ⟨rfl, rfl⟩

theorem isScale_any (n : Int) (hn : I64 n) (w : World) :
    Calls Tryz.prog 76 #[.int .i64 n] w fun e w' => e = .returned (.bool (scaleB n)) ∧ w = w' := by
  obtain ⟨h0, h1⟩ := hn
  by_cases ha : 0 ≤ n
  · by_cases hb : n ≤ 6
    · have e : scaleB n = true := decide_eq_true ⟨ha, hb⟩
      rw [e]
      go_enter Tryz.func76, Tryz.ntmps76
      go_wp2
      go_ret
      exact ⟨rfl, rfl⟩
    · have e : scaleB n = false := decide_eq_false (by omega)
      rw [e]
      go_enter Tryz.func76, Tryz.ntmps76
      go_wp2
      go_ret
      exact ⟨rfl, rfl⟩
  · have e : scaleB n = false := decide_eq_false (by omega)
    rw [e]
    go_enter Tryz.func76, Tryz.ntmps76
    go_wp2
    go_ret
    exact ⟨rfl, rfl⟩

theorem checked_any (n : Int) (hn : I64 n) (w : World) :
    Calls Tryz.prog 115 #[.int .i64 n] w fun e w' => e = .returned (.tuple #[.int .i64 (chk n).1, .int .i64 (chk n).2]) ∧ w = w' := by
  unfold chk
  cases hv : validB n
  all_goals
    go_enter Tryz.func115, Tryz.ntmps115
    go_wp2_with (go_at_call 16; refine (valid_any n hn _).mono ?_; rintro e w' ⟨rfl, rfl⟩; rw [hv])
    go_ret2
    exact ⟨rfl, rfl⟩

theorem size_any (n : Int) (hn : I64 n) (w : World) :
    Calls Tryz.prog 68 #[.int .i64 n] w fun e w' => e = .returned (.int .u64 (n.natAbs : Int)) ∧ w = w' := by
  obtain ⟨h0, h1⟩ := hn
  by_cases h : n < 0
  · have e : IntKind.u64.wrap (-IntKind.u64.wrap n) = (n.natAbs : Int) := by rw [IntKind.wrap_u64, IntKind.wrap_u64]; omega
    have HE := Lib.hid e
    clear e
    go_enter Tryz.func68, Tryz.ntmps68
    go_wp2
    go_ret
    exact ⟨ret_int HE.out, rfl⟩
  · have e : n = (n.natAbs : Int) := by omega
    have HE := Lib.hid e
    clear e
    go_enter Tryz.func68, Tryz.ntmps68
    go_wp2
    go_ret
    exact ⟨ret_int HE.out, rfl⟩

theorem below_on {n₀ : Nat} {A B C : World} (h : Below n₀ A B) (h' : Below B.heap.size B C) (hn : n₀ ≤ A.heap.size := by exact Nat.le_refl _) : Below n₀ A C := h.trans (h'.mono (Nat.le_trans hn h.size))

theorem below_drewN {B : Nat} {a w : World} (h : Below B a w) (n : Nat) : Below B a (w.drewN n) := h.trans ⟨rfl, rfl, rfl, Nat.le_refl _, fun _ _ => rfl⟩

theorem ret_pair {k : IntKind} {a b c d : Int} (h : a = b) (h2 : c = d) : Ending.returned (.tuple #[.int k a, .int k c]) = .returned (.tuple #[.int k b, .int k d]) := by rw [h, h2]

/-- What the package-level variables hold. -/
structure Vars (w : World) : Prop where
  units : ∀ k, k < 7 → w.cell? ⟨0, k, none⟩ = some (.int .i64 (unitN k : Int))
  maxLen : ∃ m, w.cell? ⟨4, 0, none⟩ = some (.int .i64 m)
  pow : Lib.TabIs Tryz.prog w "internal/strconv.uint64pow10" .u64 Lib.pow10Tab
  size : 0 < w.heap.size ∧ 4 < w.heap.size

theorem Vars.below {w w' : World} (h : Vars w) (hb : Below w.heap.size w w') : Vars w' where
  units k hk := (hb.cell (p := ⟨0, k, none⟩) h.size.1).trans (h.units k hk)
  maxLen := by
    obtain ⟨m, hm⟩ := h.maxLen
    exact ⟨m, (hb.cell (p := ⟨4, 0, none⟩) h.size.2).trans hm⟩
  pow := Joins.tab_stays (show Tryz.prog.globalNamed "internal/strconv.uint64pow10" = some 1 by kernel_rfl) h.pow hb (Nat.le_refl _)
  size := ⟨Nat.lt_of_lt_of_le h.size.1 hb.size, Nat.lt_of_lt_of_le h.size.2 hb.size⟩

theorem fits_any (n s : Int) (hn : I64 n) (hs : I64 s) (w : World) (hV : Vars w) :
    Calls Tryz.prog 24 #[.int .i64 n, .int .i64 s] w fun e w' => e = .returned (.bool (fitsB n s)) ∧ w = w' := by
  unfold fitsB
  have HS := Lib.hid (isScale_any s hs)
  cases h : scaleB s
  · rw [h] at HS
    go_enter Tryz.func24, Tryz.ntmps24
    go_wp2_with (go_at_call 76; ((with_reducible refine (HS.out _).mono ?_); rintro e w' ⟨rfl, rfl⟩))
    go_ret
    exact ⟨rfl, rfl⟩
  · rw [h] at HS
    obtain ⟨h0, h6⟩ := scaleB_true h
    obtain ⟨k, rfl⟩ := Int.eq_ofNat_of_zero_le h0
    have hu := hV.units k (by omega)
    have hp := unitN_pos k
    have hk7 : k < 7 := by omega
    have hk0 : (0 : Int) ≤ (k : Int) := by omega
    obtain ⟨U, hU⟩ : ∃ U, U = unitN k := ⟨_, rfl⟩
    rw [← hU] at hu hp
    have HB := Lib.hid (show (true && decide (n.tmod (unitN ((k : Int)).toNat) = 0)) = decide (n.tmod (U : Int) = 0) by rw [Int.toNat_natCast, hU]; rfl)
    have hU0 : ¬ (U : Int) = 0 := by omega
    have hU0' : ((U : Int) == 0) = false := by simp; omega
    obtain ⟨h1, h2⟩ := hn
    clear hU
    by_cases hz : n.tmod (U : Int) = 0
    · have hz' : (n.tmod (U : Int) == 0) = true := by simpa using hz
      go_enter Tryz.func24, Tryz.ntmps24
      go_wp2_with (go_at_call 76; ((with_reducible refine (HS.out _).mono ?_); rintro e w' ⟨rfl, rfl⟩))
      go_ret
      exact ⟨by rw [HB.out, decide_eq_true hz]; rfl, rfl⟩
    · have hz' : (n.tmod (U : Int) == 0) = false := by simpa using hz
      go_enter Tryz.func24, Tryz.ntmps24
      go_wp2_with (go_at_call 76; ((with_reducible refine (HS.out _).mono ?_); rintro e w' ⟨rfl, rfl⟩))
      go_ret
      exact ⟨by rw [HB.out, decide_eq_false hz]; rfl, rfl⟩

end Go.Proofs.YtocnkjnlmciojaaGreatDoor.De
