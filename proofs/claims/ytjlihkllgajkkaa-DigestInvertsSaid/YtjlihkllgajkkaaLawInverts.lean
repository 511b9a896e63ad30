/-
  Undoing a step: for all words, the law returns true and changes nothing. No condition.
-/
import Derived.Test.YtjlihkllgajkkaaRows
import Derived.Test.YtjlihkllgajkkaaDigEx
import Derived.OpenShut
namespace Go.Proofs.Ytjlihkllgajkkaa.digestInverts
open Go.ChangeShapes Go.WideShapes Go.ChangeAt Go.RowKit
open Go.Proofs.Ytjlihkllgajkkaa

/-- The inverse after k rounds, as the text computes it. -/
def invN (x : Int) : Nat → Int
  | 0 => x
  | k + 1 => IntKind.u64.wrap (invN x k * IntKind.u64.wrap (2 - IntKind.u64.wrap (x * invN x k)))

set_option maxHeartbeats 1000000 in
theorem inverse_any (x : Int) (w : World) : Calls Try.prog 22 #[.int .u64 x] w fun e w' => e = .returned (.int .u64 (invN x 6)) ∧ w = w' := by
  go_enter Try.func22, Try.ntmps22
  go_wp2
  go_loop [3, 4] (fun v i => ∃ k : Nat, k ≤ 6 ∧ i = .int .i64 k ∧ v = .int .u64 (invN x k)) (fun _ i => 6 - (intOf i).toNat)
  case atStart => exact ⟨0, Nat.zero_le _, rfl, rfl⟩
  case round =>
    obtain ⟨k, hk, rfl, rfl⟩ := hrel
    by_cases hlt : k < 6
    · go_wp2
      go_round
      case rel => exact ⟨k + 1, by omega, by go_num, rfl⟩
      case measure => simp [intOf]; omega
    · obtain rfl : k = 6 := by omega
      go_wp2
      go_ret
      exact ⟨rfl, rfl⟩

theorem inv1 : invN 15485907386658061715 6 = 14982988110149298331 := by decide +kernel
theorem inv2 : invN 11562461410679940143 6 = 10636502746458383055 := by decide +kernel
theorem inverse1 (w : World) : Calls Try.prog 22 #[.int .u64 15485907386658061715] w fun e w' => e = .returned (.int .u64 14982988110149298331) ∧ w = w' := by
  have := inverse_any 15485907386658061715 w
  rwa [inv1] at this
theorem inverse2 (w : World) : Calls Try.prog 22 #[.int .u64 11562461410679940143] w fun e w' => e = .returned (.int .u64 10636502746458383055) ∧ w = w' := by
  have := inverse_any 11562461410679940143 w
  rwa [inv2] at this

theorem backB_nat (r : BitVec 64) : (backB r).toNat =
    ((r.toNat * 10636502746458383055 % 18446744073709551616) ^^^ (r.toNat * 10636502746458383055 % 18446744073709551616 / 4294967296)) * 14982988110149298331 % 18446744073709551616 := by
  unfold backB
  rw [BitVec.toNat_mul, BitVec.toNat_xor, BitVec.toNat_ushiftRight, BitVec.toNat_mul, Nat.shiftRight_eq_div_pow]
  rfl

theorem back_nat (r y X : Nat) (hX : r * 10636502746458383055 % 18446744073709551616 = X) (hk : y = (X ^^^ (X / 4294967296)) * 14982988110149298331 % 18446744073709551616) :
    IntKind.u64.wrap (bits BinOp.xor IntKind.u64 (IntKind.u64.wrap ((r : Int) * 10636502746458383055))
      (IntKind.u64.wrap ((r : Int) * 10636502746458383055) / 4294967296) * 14982988110149298331) = (y : Int) := by
  have e1 : IntKind.u64.wrap ((r : Int) * 10636502746458383055) = ((r * 10636502746458383055 % 18446744073709551616 : Nat) : Int) := by
    rw [IntKind.wrap_u64]; omega
  rw [e1, hX]
  have hXlt : X < 18446744073709551616 := by rw [← hX]; exact Nat.mod_lt _ (by decide)
  have e2 : ((X : Nat) : Int) / 4294967296 = ((X / 4294967296 : Nat) : Int) := by omega
  rw [e2, bits_xor_u64_nat X (X / 4294967296) hXlt (by omega)]
  have e3 : IntKind.u64.wrap (((X ^^^ X / 4294967296 : Nat) : Int) * 14982988110149298331) = (((X ^^^ X / 4294967296) * 14982988110149298331 % 18446744073709551616 : Nat) : Int) := by
    rw [IntKind.wrap_u64]; omega
  rw [e3, hk]

/-- What the law's text computes out of a step's result: what was xored. -/
theorem back_text (a b : Nat) (ha : a < 18446744073709551616) (hb : b < 18446744073709551616) :
    IntKind.u64.wrap (bits BinOp.xor IntKind.u64 (IntKind.u64.wrap (stepI a b * 10636502746458383055))
      (IntKind.u64.wrap (stepI a b * 10636502746458383055) / 4294967296) * 14982988110149298331) = ((a ^^^ b : Nat) : Int) := by
  have hoa : (BitVec.ofInt 64 (a : Int)).toNat = a := ofInt_u64 a ha
  have hob : (BitVec.ofInt 64 (b : Int)).toNat = b := ofInt_u64 b hb
  have hk := backB_nat (stepB (BitVec.ofInt 64 (a : Int)) (BitVec.ofInt 64 (b : Int)))
  rw [back_step, BitVec.toNat_xor, hoa, hob] at hk
  have hs : stepI a b = ((stepB (BitVec.ofInt 64 (a : Int)) (BitVec.ofInt 64 (b : Int))).toNat : Int) := rfl
  rw [hs]
  exact back_nat _ _ _ rfl hk

theorem back_left (h c : Int) (hh : 0 ≤ h ∧ h < 18446744073709551616) (hc : 0 ≤ c ∧ c < 18446744073709551616) :
    bits BinOp.xor IntKind.u64 (IntKind.u64.wrap (bits BinOp.xor IntKind.u64 (IntKind.u64.wrap (stepI h c * 10636502746458383055))
      (IntKind.u64.wrap (stepI h c * 10636502746458383055) / 4294967296) * 14982988110149298331)) c = h := by
  obtain ⟨a, rfl⟩ := Int.eq_ofNat_of_zero_le hh.1
  obtain ⟨b, rfl⟩ := Int.eq_ofNat_of_zero_le hc.1
  have ha : a < 18446744073709551616 := by omega
  have hb : b < 18446744073709551616 := by omega
  have hx : a ^^^ b < 18446744073709551616 := Nat.xor_lt_two_pow (n := 64) ha hb
  rw [back_text a b ha hb, bits_xor_u64_nat _ _ hx hb, Nat.xor_assoc, Nat.xor_self, Nat.xor_zero]
theorem back_right (h c : Int) (hh : 0 ≤ h ∧ h < 18446744073709551616) (hc : 0 ≤ c ∧ c < 18446744073709551616) :
    bits BinOp.xor IntKind.u64 (IntKind.u64.wrap (bits BinOp.xor IntKind.u64 (IntKind.u64.wrap (stepI h c * 10636502746458383055))
      (IntKind.u64.wrap (stepI h c * 10636502746458383055) / 4294967296) * 14982988110149298331)) h = c := by
  have := back_left c h hc hh
  rwa [stepI_comm] at this

theorem walk (h c : Int) (hh : 0 ≤ h ∧ h < 18446744073709551616) (hc : 0 ≤ c ∧ c < 18446744073709551616) (w : World) :
    Calls Try.prog 5 #[.int .u64 h, .int .u64 c] w fun e w' => e = .returned (.bool true) ∧ Below w.heap.size w w' := by
  have HS : Hid (∀ W, Calls Try.prog 12 #[.int .u64 h, .int .u64 c] W fun e w' => e = .returned (.int .u64 (stepI h c)) ∧ W = w') := fun W => step_any h c hh hc W
  have HS' : Hid (∀ W, Calls Try.prog 12 #[.int .u64 c, .int .u64 h] W fun e w' => e = .returned (.int .u64 (stepI h c)) ∧ W = w') := fun W => by
    have := step_any c h hc hh W
    rwa [stepI_comm] at this
  have hl := back_left h c hh hc
  have hr := back_right h c hh hc
  clear hh hc
  go_enter Try.func5, Try.ntmps5
  go_wp2_with (first
    | (go_at_call 9; refine (examples_any _).mono ?_; rintro e w1 ⟨rfl, hb1⟩)
    | (go_at_call 12; ((with_reducible refine (HS.out _).mono ?_); rintro e w' ⟨rfl, rfl⟩))
    | (go_at_call 12; ((with_reducible refine (HS'.out _).mono ?_); rintro e w' ⟨rfl, rfl⟩))
    | (go_at_call 22; ((with_reducible refine (inverse1 _).mono ?_); rintro e w' ⟨rfl, rfl⟩))
    | (go_at_call 22; ((with_reducible refine (inverse2 _).mono ?_); rintro e w' ⟨rfl, rfl⟩)))
  go_ret
  exact ⟨rfl, hb1⟩

theorem own : ownKnob Try.prog.godebug = none := by kernel_rfl
theorem laidOut : laidOutB Try.prog = true := by kernel_rfl

set_option maxRecDepth 100000 in
theorem lifted (os : Os) (started : os.Started) (H : Type) (enc : TypeId × Value → H) :
    ReturnsInHanded {} Try.checked os 5 .any (Rows.digestInvertsSpec.pre6 enc Try.prog Try.f5 Rows.digestInvertsRow.domain false) (Rows.digestInvertsSpec.post enc Try.prog Try.f5 false true false false) := by
  refine returnsInHanded_of_change (C := Try.checked) own started (by kernel_rfl) Try.func5
    (ChangeSpec.witness6 (enc := enc) (C := Try.checked) false ⟨#[], #[.int .u64 0, .int .u64 0], []⟩ 8 (by kernel_rfl) (by kernel_rfl) (by kernel_rfl) (by kernel_rfl)) ?_
  intro W base args ds gs before hval0 hW hcnd _
  have hval : ∀ (j : Nat) t v, Try.f5.params[j]? = some t → args[j]? = some v → Value.okWide Try.prog W .any base t v := hval0
  have hW' := hW
  obtain ⟨p, q, hA0, hV, rfl, hfz, hnd⟩ := hW
  have hA : DataW.TrodAll enc Try.prog W 0 (fun _ => true) true Try.f5.params.toList args.toList ds p := hA0
  rw [Try.params5] at hA hval
  obtain ⟨v0, vs0, d0, ds0, p0, q0, hargs, rfl, rfl, h0, r0⟩ := trodAll_cons hA
  obtain ⟨v1, vs1, d1, ds1, p1, q1, rfl, rfl, rfl, h1, r1⟩ := trodAll_cons r0
  obtain ⟨rfl, rfl, rfl⟩ := trodAll_nil r1
  obtain rfl : args = #[v0, v1] := by cases args; simp_all
  obtain ⟨rfl, rfl⟩ := trodVars_none hV
  obtain ⟨a0, rfl, rfl, rfl, w0⟩ := open_int Try.underlying24 (hval 0 24 v0 rfl rfl) h0
  obtain ⟨a1, rfl, rfl, rfl, w1⟩ := open_int Try.underlying24 (hval 1 24 v1 rfl rfl) h1
  clear hA0 hval0
  simp only [List.append_nil] at hW'
  have k0 : 0 ≤ a0 ∧ a0 < 18446744073709551616 := by simp [Lit.wf, IntKind.min, IntKind.max, IntKind.signed, IntKind.bits] at w0; omega
  have k1 : 0 ≤ a1 ∧ a1 < 18446744073709551616 := by simp [Lit.wf, IntKind.min, IntKind.max, IntKind.signed, IntKind.bits] at w1; omega
  refine (walk a0 a1 k0 k1 W).mono fun e W' ⟨he, hg⟩ => ?_
  subst he
  exact ⟨_, rfl, ⟨_, _, _, [], [], [], hW', trodAll_mk1 (shut_bool Try.underlying4 _), trodAll_mk2 (shut_int Try.underlying24 w0) (shut_int Try.underlying24 w1), rfl, hg.frame _, fun h => by cases h⟩⟩

theorem over : Rows.digestInvertsRow.holds Try.pinned (OpenSpec.ofChange Rows.digestInvertsSpec) :=
  OpenClaim.holds_of_wide 5 Try.f5 rfl rfl rfl rfl rfl rfl rfl ⟨rfl, rfl, rfl, rfl, rfl⟩ rfl rfl rfl rfl rfl (by kernel_rfl) Try.func5 (by kernel_rfl)
    (of_decide_eq_true (by kernel_rfl)) (by unfold Func.isWrapper; first | (rw [if_pos (by decide +kernel)]; kernel_rfl) | (rw [if_neg (by decide +kernel)]; exact ⟨rfl, rfl⟩))
    (fun os started H enc _ => lifted os started H enc)

/-- The statement. -/
theorem proved : Rows.DigestInvertsSaid := over
#print axioms proved

end Go.Proofs.Ytjlihkllgajkkaa.digestInverts
