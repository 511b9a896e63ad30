/-
  Packed lists, as functions on integers and lists: the zigzag code, the code of variable length, bits and bytes; no program is named here.
-/
import Derived.WalkKit
import Derived.Laws.Bits64b
namespace Go.Proofs.Ytkfmgiacdlkmiaa
open Go.RowKit

def I64 (n : Int) : Prop := -9223372036854775808 ≤ n ∧ n ≤ 9223372036854775807
def U64 (n : Int) : Prop := 0 ≤ n ∧ n < 18446744073709551616
def Oct (bs : List Int) : Prop := ∀ x ∈ bs, 0 ≤ x ∧ x < 256
def Smalls (zs : List Int) : Prop := ∀ x ∈ zs, I64 x

theorem Oct.getD {bs : List Int} (h : Oct bs) (k : Nat) : 0 ≤ bs[k]?.getD 0 ∧ bs[k]?.getD 0 < 256 := by
  by_cases hk : k < bs.length
  · rw [List.getElem?_eq_getElem hk]; exact h _ (List.getElem_mem hk)
  · rw [List.getElem?_eq_none (by omega)]; simp
theorem Smalls.getD {zs : List Int} (h : Smalls zs) (k : Nat) : I64 (zs[k]?.getD 0) := by
  by_cases hk : k < zs.length
  · rw [List.getElem?_eq_getElem hk]; exact h _ (List.getElem_mem hk)
  · rw [List.getElem?_eq_none (by omega)]; exact ⟨by decide, by decide⟩
theorem Oct.append {a b : List Int} (ha : Oct a) (hb : Oct b) : Oct (a ++ b) := fun x hx => (List.mem_append.1 hx).elim (ha x) (hb x)
theorem Oct.drop {a : List Int} (ha : Oct a) (k : Nat) : Oct (a.drop k) := fun x hx => ha x (List.mem_of_mem_drop hx)
theorem Oct.take {a : List Int} (ha : Oct a) (k : Nat) : Oct (a.take k) := fun x hx => ha x (List.mem_of_mem_take hx)
theorem Oct.nil : Oct [] := fun x hx => by cases hx

theorem take_getD_snoc (ws : List Int) (k : Nat) (hk : k < ws.length) : ws.take (k + 1) = ws.take k ++ [ws[k]?.getD 0] := by
  rw [List.take_succ_eq_append_getElem hk, List.getElem?_eq_getElem hk]; rfl
theorem drop_getD_cons (ws : List Int) (k : Nat) (hk : k < ws.length) : ws.drop k = ws[k]?.getD 0 :: ws.drop (k + 1) := by
  rw [List.drop_eq_getElem_cons hk, List.getElem?_eq_getElem hk]; rfl

/-! ### The zigzag code -/

def zz (n : Int) : Int := if 0 ≤ n then 2 * n else -2 * n - 1
def uz (u : Int) : Int := if u % 2 = 0 then u / 2 else -(u / 2) - 1

theorem zz_u64 {n : Int} (h : I64 n) : U64 (zz n) := by
  unfold I64 at h; unfold U64 zz; split <;> omega
theorem uz_i64 {u : Int} (h : U64 u) : I64 (uz u) := by
  unfold U64 at h; unfold I64 uz; split <;> omega
theorem uz_zz (n : Int) : uz (zz n) = n := by
  unfold uz zz; by_cases h0 : 0 ≤ n
  · rw [if_pos h0, if_pos (by omega)]; omega
  · rw [if_neg h0, if_neg (by omega)]; omega
theorem zz_uz {u : Int} (h : U64 u) : zz (uz u) = u := by
  unfold U64 at h; unfold uz zz; by_cases h0 : u % 2 = 0
  · rw [if_pos h0, if_pos (by omega)]; omega
  · rw [if_neg h0, if_neg (by omega)]; omega

theorem xor_ones (a : Nat) (_h : a < 18446744073709551616) : a ^^^ 18446744073709551615 = 18446744073709551615 - a := by
  have e : (BitVec.ofNat 64 a ^^^ BitVec.allOnes 64).toNat = (~~~ (BitVec.ofNat 64 a)).toNat := by rw [BitVec.xor_allOnes]
  rw [BitVec.toNat_xor, BitVec.toNat_not, BitVec.toNat_allOnes, BitVec.toNat_ofNat, Nat.mod_eq_of_lt (by omega)] at e
  exact e

theorem zz_text (n : Int) (h : I64 n) : bits BinOp.xor IntKind.u64 (IntKind.u64.wrap (IntKind.u64.wrap n * 2)) (IntKind.u64.wrap (n / 9223372036854775808)) = zz n := by
  unfold I64 at h
  unfold zz
  by_cases h0 : 0 ≤ n
  · obtain ⟨a, rfl⟩ := Int.eq_ofNat_of_zero_le h0
    have e1 : IntKind.u64.wrap (IntKind.u64.wrap (a : Int) * 2) = ((2 * a : Nat) : Int) := by rw [IntKind.wrap_u64, IntKind.wrap_u64]; omega
    have e2 : IntKind.u64.wrap ((a : Int) / 9223372036854775808) = ((0 : Nat) : Int) := by rw [IntKind.wrap_u64]; omega
    rw [if_pos h0, e1, e2, bits_xor_u64_nat _ _ (by omega) (by omega), Nat.xor_zero]; omega
  · have e1 : IntKind.u64.wrap (IntKind.u64.wrap n * 2) = (((2 * n + 18446744073709551616).toNat : Nat) : Int) := by rw [IntKind.wrap_u64, IntKind.wrap_u64]; omega
    have e2 : IntKind.u64.wrap (n / 9223372036854775808) = ((18446744073709551615 : Nat) : Int) := by rw [IntKind.wrap_u64]; omega
    rw [if_neg h0, e1, e2, bits_xor_u64_nat _ _ (by omega) (by omega), xor_ones _ (by omega)]; omega

theorem uz_text (u : Int) (h : U64 u) : wrap64 (bits BinOp.xor IntKind.u64 (u / 2) (IntKind.u64.wrap (-bits BinOp.and IntKind.u64 u 1))) = uz u := by
  unfold U64 at h
  obtain ⟨a, rfl⟩ := Int.eq_ofNat_of_zero_le h.1
  have ha : a < 18446744073709551616 := by omega
  have e0 : bits BinOp.and IntKind.u64 (a : Int) 1 = ((a % 2 : Nat) : Int) := by
    have := bits_and_u64_nat a 1 ha (by omega)
    rw [Nat.and_one_is_mod] at this
    exact this
  rw [e0]
  unfold uz
  have e3 : ((a : Int) / 2) = ((a / 2 : Nat) : Int) := by omega
  by_cases h0 : a % 2 = 0
  · have e2 : IntKind.u64.wrap (-((a % 2 : Nat) : Int)) = ((0 : Nat) : Int) := by rw [IntKind.wrap_u64]; omega
    rw [if_pos (by omega), e2, e3, bits_xor_u64_nat _ _ (by omega) (by omega), Nat.xor_zero]
    unfold wrap64; omega
  · have e2 : IntKind.u64.wrap (-((a % 2 : Nat) : Int)) = ((18446744073709551615 : Nat) : Int) := by rw [IntKind.wrap_u64]; omega
    rw [if_neg (by omega), e2, e3, bits_xor_u64_nat _ _ (by omega) (by omega), xor_ones _ (by omega)]
    unfold wrap64; omega

/-! ### The code of variable length -/

def varN (u : Nat) : List Int := if u < 128 then [(u : Int)] else ((u % 128 : Nat) + 128 : Int) :: varN (u / 128)
termination_by u

theorem varN_lo {u : Nat} (h : u < 128) : varN u = [(u : Int)] := by rw [varN, if_pos h]
theorem varN_hi {u : Nat} (h : ¬ u < 128) : varN u = ((u % 128 : Nat) + 128 : Int) :: varN (u / 128) := by rw [varN, if_neg h]

theorem varN_oct : ∀ (f u : Nat), u < f → Oct (varN u) := by
  intro f
  induction f with
  | zero => intro u h; omega
  | succ f ih =>
    intro u h x hx
    by_cases h0 : u < 128
    · rw [varN_lo h0] at hx; simp at hx; omega
    · rw [varN_hi h0, List.mem_cons] at hx
      rcases hx with rfl | hx
      · omega
      · exact ih (u / 128) (by omega) x hx

theorem var_oct (u : Nat) : Oct (varN u) := varN_oct (u + 1) u (by omega)

theorem varN_len : ∀ (j u : Nat), u < 128 ^ (j + 1) → (varN u).length ≤ j + 1 := by
  intro j
  induction j with
  | zero => intro u h; rw [varN_lo (by omega)]; simp
  | succ j ih =>
    intro u h
    by_cases h0 : u < 128
    · rw [varN_lo h0]; simp
    · rw [varN_hi h0, List.length_cons]
      have := ih (u / 128) (by rw [Nat.div_lt_iff_lt_mul (by decide)]; rw [Nat.pow_succ] at h; exact h)
      omega
theorem var_len {u : Nat} (h : u < 18446744073709551616) : (varN u).length ≤ 10 :=
  varN_len 9 u (Nat.lt_trans h (by decide))
theorem var_pos (u : Nat) : 1 ≤ (varN u).length := by
  by_cases h0 : u < 128
  · rw [varN_lo h0]; simp
  · rw [varN_hi h0]; simp

/-- May a code end with x, behind i bytes? -/
def ends (i : Nat) (x : Int) : Bool := if i = 9 then x == 1 else (i == 0 || x != 0)

def rdF : Nat → Int → List Int → Int × Nat × Int
  | i, _, [] => if i < 10 then (0, 0, 7) else (0, 0, 5)
  | i, a, x :: r => if 10 ≤ i then (0, 0, 5) else if 128 ≤ x then rdF (i + 1) (a + (x - 128) * 2 ^ (7 * i)) r else if ends i x then (a + x * 2 ^ (7 * i), i + 1, 0) else (0, 0, 5)

/-- What is read: the number, how many bytes it took, the error. -/
def rdS (bs : List Int) : Int × Nat × Int := rdF 0 0 bs

theorem rdF_ten (a : Int) (l : List Int) : rdF 10 a l = (0, 0, 5) := by cases l <;> simp [rdF]

theorem or_text (a y : Int) (k : Nat) (ha : 0 ≤ a ∧ a < 2 ^ (7 * k)) (hy : 0 ≤ y ∧ y < 128) (hk : k < 9 ∨ (k = 9 ∧ y ≤ 1)) :
    bits BinOp.or IntKind.u64 a (IntKind.u64.wrap (y * 2 ^ (7 * k))) = a + y * 2 ^ (7 * k) := by
  obtain ⟨m, rfl⟩ := Int.eq_ofNat_of_zero_le ha.1
  obtain ⟨n, rfl⟩ := Int.eq_ofNat_of_zero_le hy.1
  have hm : m < 2 ^ (7 * k) := by have := ha.2; exact_mod_cast this
  have hn : n < 128 := by omega
  have hle : n * 2 ^ (7 * k) < 18446744073709551616 := by
    rcases hk with hk | ⟨rfl, h1⟩
    · have : 2 ^ (7 * k) ≤ 2 ^ 56 := Nat.pow_le_pow_right (by decide) (by omega)
      calc n * 2 ^ (7 * k) ≤ 127 * 2 ^ 56 := Nat.mul_le_mul (by omega) this
        _ < _ := by decide
    · calc n * 2 ^ (7 * 9) ≤ 1 * 2 ^ 63 := Nat.mul_le_mul (by omega) (by decide)
        _ < _ := by decide
  have hm2 : m < 18446744073709551616 := by
    have : 2 ^ (7 * k) ≤ 2 ^ 63 := Nat.pow_le_pow_right (by decide) (by omega)
    exact Nat.lt_of_lt_of_le hm (Nat.le_trans this (by decide))
  have e2 : ((n : Int) * 2 ^ (7 * k)) = ((n * 2 ^ (7 * k) : Nat) : Int) := by push_cast; rfl
  have e3 : IntKind.u64.wrap ((n * 2 ^ (7 * k) : Nat) : Int) = ((n * 2 ^ (7 * k) : Nat) : Int) := by rw [IntKind.wrap_u64]; omega
  rw [e2, e3, bits_or_u64_nat _ _ hm2 hle, Nat.or_comm]
  have e4 := Nat.shiftLeft_add_eq_or_of_lt hm n
  rw [Nat.shiftLeft_eq] at e4
  rw [← e4]
  omega

theorem and128 (x : Int) (hx : 0 ≤ x ∧ x < 256) : (bits BinOp.and IntKind.u8 x 128 != 0) = decide (128 ≤ x) := by
  have h : ∀ n : Fin 256, (bits BinOp.and IntKind.u8 (n.val : Int) 128 != 0) = decide (128 ≤ (n.val : Int)) := by decide +kernel
  have := h ⟨x.toNat, by omega⟩
  rw [show (((⟨x.toNat, by omega⟩ : Fin 256).val : Nat) : Int) = x by simp; omega] at this
  exact this
theorem andNot128 (x : Int) (hx : 0 ≤ x ∧ x < 256) : bits BinOp.andNot IntKind.u8 x 128 = if 128 ≤ x then x - 128 else x := by
  have h : ∀ n : Fin 256, bits BinOp.andNot IntKind.u8 (n.val : Int) 128 = if 128 ≤ (n.val : Int) then (n.val : Int) - 128 else n.val := by decide +kernel
  have := h ⟨x.toNat, by omega⟩
  rw [show (((⟨x.toNat, by omega⟩ : Fin 256).val : Nat) : Int) = x by simp; omega] at this
  exact this
theorem or128 (u : Nat) : bits BinOp.or IntKind.u8 ((u : Int) % 256) 128 = ((u % 128 : Nat) : Int) + 128 := by
  have h : ∀ n : Fin 256, bits BinOp.or IntKind.u8 (n.val : Int) 128 = ((n.val % 128 : Nat) : Int) + 128 := by decide +kernel
  have h2 : ((u : Int) % 256) = ((u % 256 : Nat) : Int) := by omega
  have := h ⟨u % 256, by omega⟩
  rw [h2]
  simp only at this
  rw [this]
  omega

end Go.Proofs.Ytkfmgiacdlkmiaa
