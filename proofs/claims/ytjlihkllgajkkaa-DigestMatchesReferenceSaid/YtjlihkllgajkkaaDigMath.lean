/-
  The plain mathematics of a digest: a step is a bijection in each half, and commutative; lists, bytes in groups of eight; no program is named here.
-/
import Derived.WalkKit
namespace Go.Proofs.Ytjlihkllgajkkaa
open Go.RowKit

/-- The step, on words of 64 bits. -/
def stepB (h w : BitVec 64) : BitVec 64 :=
  (((h ^^^ w) * 0xd6e8feb86659fd93#64) ^^^ (((h ^^^ w) * 0xd6e8feb86659fd93#64) >>> 32)) * 0xa0761d6478bd642f#64

/-- What was xored, out of a step's result. -/
def backB (r : BitVec 64) : BitVec 64 :=
  ((r * 0x939c72e4af1e62cf#64) ^^^ ((r * 0x939c72e4af1e62cf#64) >>> 32)) * 0xcfee444d8b59a89b#64

theorem fold_fold (b : BitVec 64) : (b ^^^ b >>> 32) ^^^ ((b ^^^ b >>> 32) >>> 32) = b := by
  have h64 : b >>> 32 >>> 32 = 0#64 := by
    rw [← BitVec.shiftRight_add]; exact BitVec.ushiftRight_eq_zero (by decide)
  rw [BitVec.ushiftRight_xor_distrib, h64, BitVec.xor_zero, BitVec.xor_assoc, BitVec.xor_self, BitVec.xor_zero]

theorem back_step (h w : BitVec 64) : backB (stepB h w) = h ^^^ w := by
  unfold backB stepB
  rw [BitVec.mul_assoc _ 0xa0761d6478bd642f#64, show 0xa0761d6478bd642f#64 * 0x939c72e4af1e62cf#64 = 1#64 by decide +kernel, BitVec.mul_one, fold_fold, BitVec.mul_assoc,
    show 0xd6e8feb86659fd93#64 * 0xcfee444d8b59a89b#64 = 1#64 by decide +kernel, BitVec.mul_one]

theorem stepB_comm (h w : BitVec 64) : stepB h w = stepB w h := by unfold stepB; rw [BitVec.xor_comm h w]

theorem stepB_right {h a b : BitVec 64} (e : stepB h a = stepB h b) : a = b := by
  have := congrArg backB e
  rw [back_step, back_step] at this
  have h2 := congrArg (h ^^^ ·) this
  simpa [← BitVec.xor_assoc] using h2

/-! ### On the model's integers -/

/-- The step, on integers: each counts by its lowest 64 bits. -/
def stepI (h c : Int) : Int := ((stepB (BitVec.ofInt 64 h) (BitVec.ofInt 64 c)).toNat : Int)

theorem stepI_lo (h c : Int) : 0 ≤ stepI h c := by unfold stepI; omega
theorem stepI_hi (h c : Int) : stepI h c < 18446744073709551616 := by unfold stepI; have := (stepB (BitVec.ofInt 64 h) (BitVec.ofInt 64 c)).isLt; omega
theorem stepI_comm (h c : Int) : stepI h c = stepI c h := by unfold stepI; rw [stepB_comm]

theorem ofInt_eq {a b : Int} (h : BitVec.ofInt 64 a = BitVec.ofInt 64 b) : a % 18446744073709551616 = b % 18446744073709551616 := by
  have := congrArg BitVec.toNat h
  simp only [BitVec.toNat_ofInt] at this
  omega

theorem ofInt_mod (a : Int) : BitVec.ofInt 64 (a % 18446744073709551616) = BitVec.ofInt 64 a := by
  apply BitVec.eq_of_toNat_eq
  simp only [BitVec.toNat_ofInt]
  omega

theorem stepI_mod (h c : Int) : stepI h (c % 18446744073709551616) = stepI h c := by unfold stepI; rw [ofInt_mod]

theorem stepI_right {h a b : Int} (e : stepI h a = stepI h b) : a % 18446744073709551616 = b % 18446744073709551616 := by
  unfold stepI at e
  have e' : stepB (BitVec.ofInt 64 h) (BitVec.ofInt 64 a) = stepB (BitVec.ofInt 64 h) (BitVec.ofInt 64 b) := BitVec.eq_of_toNat_eq (by omega)
  exact ofInt_eq (stepB_right e')
theorem stepI_left {a b c : Int} (e : stepI a c = stepI b c) : a % 18446744073709551616 = b % 18446744073709551616 := by
  rw [stepI_comm a, stepI_comm b] at e; exact stepI_right e
theorem stepI_right' {h a b : Int} (e : stepI h a = stepI h b) (ha : 0 ≤ a ∧ a < 18446744073709551616) (hb : 0 ≤ b ∧ b < 18446744073709551616) : a = b := by
  have := stepI_right e; omega
theorem stepI_left' {a b c : Int} (e : stepI a c = stepI b c) (ha : 0 ≤ a ∧ a < 18446744073709551616) (hb : 0 ≤ b ∧ b < 18446744073709551616) : a = b := by
  have := stepI_left e; omega

theorem stepB_nat (h w : BitVec 64) : (stepB h w).toNat =
    ((h.toNat ^^^ w.toNat) * 15485907386658061715 % 18446744073709551616 ^^^ (h.toNat ^^^ w.toNat) * 15485907386658061715 % 18446744073709551616 / 4294967296) * 11562461410679940143 % 18446744073709551616 := by
  unfold stepB
  rw [BitVec.toNat_mul, BitVec.toNat_xor, BitVec.toNat_ushiftRight, BitVec.toNat_mul, BitVec.toNat_xor, Nat.shiftRight_eq_div_pow]
  rfl

/-- What the program's text computes, on integers in range. -/
theorem stepI_text (h c : Int) (hh : 0 ≤ h ∧ h < 18446744073709551616) (hc : 0 ≤ c ∧ c < 18446744073709551616) :
    IntKind.u64.wrap (bits BinOp.xor IntKind.u64 (IntKind.u64.wrap (bits BinOp.xor IntKind.u64 h c * 15485907386658061715))
      (IntKind.u64.wrap (bits BinOp.xor IntKind.u64 h c * 15485907386658061715) / 4294967296) * 11562461410679940143) = stepI h c := by
  obtain ⟨a, rfl⟩ := Int.eq_ofNat_of_zero_le hh.1
  obtain ⟨b, rfl⟩ := Int.eq_ofNat_of_zero_le hc.1
  have ha : a < 18446744073709551616 := by omega
  have hb : b < 18446744073709551616 := by omega
  rw [bits_xor_u64_nat a b ha hb]
  have e1 : IntKind.u64.wrap (((a ^^^ b : Nat) : Int) * 15485907386658061715) = (((a ^^^ b) * 15485907386658061715 % 18446744073709551616 : Nat) : Int) := by
    rw [IntKind.wrap_u64]; omega
  rw [e1]
  generalize hX : (a ^^^ b) * 15485907386658061715 % 18446744073709551616 = X
  have hXlt : X < 18446744073709551616 := by rw [← hX]; exact Nat.mod_lt _ (by decide)
  have e2 : ((X : Nat) : Int) / 4294967296 = ((X / 4294967296 : Nat) : Int) := by omega
  rw [e2, bits_xor_u64_nat X (X / 4294967296) hXlt (by omega)]
  have e3 : IntKind.u64.wrap (((X ^^^ X / 4294967296 : Nat) : Int) * 11562461410679940143) = (((X ^^^ X / 4294967296) * 11562461410679940143 % 18446744073709551616 : Nat) : Int) := by
    rw [IntKind.wrap_u64]; omega
  rw [e3]
  have hoa : (BitVec.ofInt 64 (a : Int)).toNat = a := ofInt_u64 a ha
  have hob : (BitVec.ofInt 64 (b : Int)).toNat = b := ofInt_u64 b hb
  have e4 := stepB_nat (BitVec.ofInt 64 (a : Int)) (BitVec.ofInt 64 (b : Int))
  rw [hoa, hob, hX] at e4
  unfold stepI
  rw [e4]

end Go.Proofs.Ytjlihkllgajkkaa
