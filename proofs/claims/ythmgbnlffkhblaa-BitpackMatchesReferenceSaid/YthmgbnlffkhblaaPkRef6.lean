/-
  The reference's number out of bits.
-/
import Derived.Test.YthmgbnlffkhblaaPkRef5
namespace Go.Proofs.Ythmgbnlffkhblaa
open Go.RowKit Go.ChangeShapes Go.WideShapes Go.ChangeAt

theorem or_one (a : Int) (k : Nat) (ha : 0 ≤ a ∧ a < 2 ^ k) (hk : k < 64) : bits BinOp.or IntKind.u64 a (IntKind.u64.wrap (2 ^ k)) = a + 2 ^ k ∧ IntKind.u64.wrap ((2 : Int) ^ k) = 2 ^ k := by
  obtain ⟨m, rfl⟩ := Int.eq_ofNat_of_zero_le ha.1
  have hm : m < 2 ^ k := by have := ha.2; exact_mod_cast this
  have h63 : (2 : Nat) ^ k ≤ 2 ^ 63 := Nat.pow_le_pow_right (by decide) (by omega)
  have h64 : (2 : Nat) ^ 63 = 9223372036854775808 := rfl
  have e2 : ((2 : Int) ^ k) = ((2 ^ k : Nat) : Int) := by push_cast; rfl
  have e4 := Nat.shiftLeft_add_eq_or_of_lt hm 1
  rw [Nat.shiftLeft_eq, Nat.one_mul] at e4
  obtain ⟨P, hP⟩ : ∃ P : Nat, 2 ^ k = P := ⟨_, rfl⟩
  rw [hP] at hm h63 e4
  rw [e2, hP]
  have e3 : IntKind.u64.wrap ((P : Nat) : Int) = (P : Int) := by rw [IntKind.wrap_u64]; omega
  rw [e3, bits_or_u64_nat _ _ (by omega) (by omega), Nat.or_comm, ← e4]
  exact ⟨by omega, rfl⟩

set_option maxRecDepth 100000 in
set_option maxHeartbeats 4000000 in
theorem bitsR_any {K : Nat → Prop} {a : Option Addr} {len cap : Nat} {bs : List Int} (ho : Oct bs) {W : World} (hR : Rd K W .u8 a len cap bs) (at_ w : Nat) (hw : w ≤ 64) (hat : at_ + w ≤ 8 * len) :
    Calls Try.prog 54 #[.slice a len cap, .int .i64 at_, .int .i64 w] W fun e W' => e = .returned (.int .u64 (bitN bs at_ w)) ∧ W = W' := by
  have HR := Lib.hid hR
  have hfit := hR.fit
  have htop := hR.top
  have hsmall := hR.small
  have HL : Hid (len = bs.length) := hR.hl
  clear hR
  go_enter Try.func54, Try.ntmps54
  go_wp2
  go_loop [7, 8] (fun d i => ∃ k : Nat, k ≤ w ∧ i = .int .i64 k ∧ d = .int .u64 (bitN bs at_ k)) (fun _ i => w - (intOf i).toNat)
  case atStart => exact ⟨0, Nat.zero_le _, rfl, by rw [bitN_zero]⟩
  case round =>
    obtain ⟨k, hk, rfl, rfl⟩ := hrel
    by_cases hlt : k < w
    · have hkI : (k : Int) < (w : Int) := by omega
      obtain ⟨b, off, rfl, _, _, hcs⟩ := HR.out.cells (by omega)
      have hj : (at_ + k) / 8 < len := by omega
      have hcx := hcs _ hj
      have hx := ho.getD ((at_ + k) / 8)
      have hsc := bitN_succ bs at_ k (by have := HL.out; omega)
      have hrg := bitN_range (bs := bs) at_ k
      have hand := and1_u8 _ ((at_ + k) % 8) hx
      obtain ⟨hor, hwr⟩ := or_one _ k hrg (by omega)
      have hb01 : bs[(at_ + k) / 8]?.getD 0 / 2 ^ ((at_ + k) % 8) % 2 = 0 ∨ bs[(at_ + k) / 8]?.getD 0 / 2 ^ ((at_ + k) % 8) % 2 = 1 := by omega
      obtain ⟨x, hxe⟩ : ∃ x, bs[(at_ + k) / 8]?.getD 0 = x := ⟨_, rfl⟩
      rw [hxe] at hcx hx hsc hand hb01
      obtain ⟨p, hp⟩ : ∃ p, at_ + k = p := ⟨_, rfl⟩
      have hpI : (at_ : Int) + (k : Int) = (p : Int) := by omega
      rw [hp] at hcx hsc hand hb01 hj
      have hd8 : (p : Int) / 8 = ((p / 8 : Nat) : Int) := by omega
      have hm8 : (p : Int) % 8 = ((p % 8 : Nat) : Int) := by omega
      have hm8' : p % 8 < 8 := Nat.mod_lt _ (by decide)
      obtain ⟨p8, hp8e⟩ : ∃ z, p / 8 = z := ⟨_, rfl⟩
      obtain ⟨pm, hpme⟩ : ∃ z, p % 8 = z := ⟨_, rfl⟩
      rw [hp8e] at hd8 hcx hj
      rw [hpme] at hm8 hm8' hand hb01 hsc
      obtain ⟨hx1, hx2⟩ := hx
      obtain ⟨d, hd⟩ : ∃ d, bitN bs at_ k = d := ⟨_, rfl⟩
      rw [hd] at hsc hrg hor ⊢
      obtain ⟨hr1, hr2⟩ := hrg
      have hpb : p ≤ 8 * 140737488351232 := by omega
      rcases hb01 with hb | hb
      · rw [hb] at hsc hand
        rw [Int.zero_mul, Int.add_zero] at hsc
        have HSC := Lib.hid hsc
        clear hsc hb hcs hxe hp hp8e hpme hd
        go_wp2
        go_round
        case rel => exact ⟨k + 1, by omega, by go_num, by rw [HSC.out]⟩
        case measure => simp [intOf]; omega
      · rw [hb] at hsc hand
        rw [Int.one_mul] at hsc
        have HSC := Lib.hid hsc
        clear hsc hb hcs hxe hp hp8e hpme hd
        rw [hwr] at hor
        go_wp2
        go_round
        case rel => exact ⟨k + 1, by omega, by go_num, by rw [HSC.out]⟩
        case measure => simp [intOf]; omega
    · obtain rfl : k = w := by omega
      have hkI : ¬ (k : Int) < (k : Int) := by omega
      go_wp2
      go_ret
      exact ⟨rfl, rfl⟩

end Go.Proofs.Ythmgbnlffkhblaa
