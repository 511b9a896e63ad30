/-
  A group of bytes as a word, and the iterator over the groups of a byte sequence.
-/
import Derived.Test.YtjlihkllgajkkaaDigJoin
import Derived.BigQuiet
import Derived.Deep.QuietTactic
namespace Go.Proofs.Ytjlihkllgajkkaa
open Go.RowKit Go.Shelf
attribute [local go_sem] Oper.semAt_some

/-- The word of a group of bytes: the first one is the lowest. -/
def wordOf : List Int → Int
  | [] => 0
  | b :: r => b + 256 * wordOf r

def Octets (bs : List Int) : Prop := ∀ x ∈ bs, 0 ≤ x ∧ x < 256
theorem Octets.getD {bs : List Int} (h : Octets bs) (k : Nat) : 0 ≤ bs[k]?.getD 0 ∧ bs[k]?.getD 0 < 256 := by
  by_cases hk : k < bs.length
  · rw [List.getElem?_eq_getElem hk]; exact h _ (List.getElem_mem hk)
  · rw [List.getElem?_eq_none (by omega)]; simp

theorem wordOf_range : ∀ bs : List Int, Octets bs → 0 ≤ wordOf bs ∧ wordOf bs < 256 ^ bs.length
  | [], _ => by simp [wordOf]
  | b :: r, h => by
    have ih := wordOf_range r (fun x hx => h x (List.mem_cons_of_mem _ hx))
    have hb := h b (List.mem_cons_self)
    simp only [wordOf, List.length_cons, Int.pow_succ]
    omega

theorem wordOf_snoc : ∀ (bs : List Int) (x : Int), wordOf (bs ++ [x]) = wordOf bs + x * 256 ^ bs.length
  | [], x => by simp [wordOf]
  | b :: r, x => by
    simp only [List.cons_append, wordOf, wordOf_snoc r x, List.length_cons, Int.pow_succ, Int.mul_add]
    have e : x * (256 ^ r.length * 256) = 256 * (x * 256 ^ r.length) := by
      rw [← Int.mul_assoc, Int.mul_comm]
    omega

theorem or_word (v x : Int) (k : Nat) (hk : k ≤ 7) (h0 : 0 ≤ v) (h1 : v < 256 ^ k) (hx0 : 0 ≤ x) (hx1 : x < 256) :
    bits BinOp.or IntKind.u64 v (IntKind.u64.wrap (x * 2 ^ (8 * k))) = v + x * 256 ^ k := by
  obtain ⟨V, rfl⟩ := Int.eq_ofNat_of_zero_le h0
  obtain ⟨X, rfl⟩ := Int.eq_ofNat_of_zero_le hx0
  have e1 : (2 : Int) ^ (8 * k) = 256 ^ k := by rw [Int.pow_mul]; rfl
  have ep : ((256 : Int) ^ k) = ((256 ^ k : Nat) : Int) := by rw [Int.natCast_pow]; rfl
  have hV : V < 256 ^ k := by rw [ep] at h1; omega
  have hX : X < 256 := by omega
  have hp : (256 : Nat) ^ k ≤ 256 ^ 7 := Nat.pow_le_pow_right (by decide) hk
  have hXp : X * 256 ^ k ≤ 255 * 256 ^ k := Nat.mul_le_mul_right _ (by omega)
  have hlt : X * 256 ^ k < 18446744073709551616 := by
    have : (256 : Nat) ^ 7 = 72057594037927936 := by decide
    omega
  have hVlt : V < 18446744073709551616 := by
    have : (256 : Nat) ^ 7 = 72057594037927936 := by decide
    omega
  have e2 : IntKind.u64.wrap ((X : Int) * 2 ^ (8 * k)) = ((X * 256 ^ k : Nat) : Int) := by
    rw [e1, IntKind.wrap_u64]
    have : ((X : Int) * 256 ^ k) = ((X * 256 ^ k : Nat) : Int) := by rw [ep, Int.natCast_mul]
    rw [this]
    omega
  rw [e2, bits_or_u64_nat V (X * 256 ^ k) hVlt hlt, Nat.or_comm]
  have e3 : (256 : Nat) ^ k = 2 ^ (8 * k) := by rw [Nat.pow_mul]
  rw [nat_join (8 * k) (X * 256 ^ k) V (by rw [← e3]; exact Nat.mul_mod_left _ _) (by rw [← e3]; exact hV)]
  rw [ep, ← Int.natCast_mul]
  omega

theorem wordOf_take (bs : List Int) (hw : Octets bs) (k : Nat) (hk : k < bs.length) (h7 : k ≤ 7) :
    bits BinOp.or IntKind.u64 (wordOf (bs.take k)) (IntKind.u64.wrap (bs[k]?.getD 0 * 2 ^ (8 * k))) = wordOf (bs.take (k + 1)) := by
  have hr := wordOf_range (bs.take k) (fun x hx => hw x (List.mem_of_mem_take hx))
  have hl : (bs.take k).length = k := by simp; omega
  have hx := hw.getD k
  rw [hl] at hr
  rw [or_word _ _ k h7 hr.1 hr.2 hx.1 hx.2, take_getD_snoc bs k hk, wordOf_snoc, hl]

set_option maxRecDepth 100000 in
set_option maxHeartbeats 1000000 in
theorem word_some_in (F : Fence) (n : Nat) (hF : Lets F) (b off len cap : Nat) (bs : List Int) (hlen : Hid (len = bs.length)) (h8 : len ≤ 8) (hw : Octets bs) (W : World)
    (hc : ∀ j, j < len → W.cell? ⟨b, off + j, none⟩ = some (.int .u8 (bs[j]?.getD 0))) :
    CallsIn F n Try.prog 34 #[.slice (some ⟨b, off, none⟩) len cap] W fun e W' => e = .returned (.int .u64 (wordOf bs)) ∧ W = W' := by
  have hro := hF.round
  refine callsIn_of_wp Try.func34 rfl (hF.fn _) ?_ hF.round
  simp only [Try.ntmps34, List.size_toArray, List.length_cons, List.length_nil, Nat.reduceAdd, Nat.reduceSub, Array.replicate_succ, Array.replicate_zero, List.push_toArray, List.append_toArray, List.nil_append, List.cons_append]
  gi_wp2
  gi_loop [3, 8] (fun v i => ∃ k : Nat, k ≤ len ∧ i = .int .i64 k ∧ v = .int .u64 (wordOf (bs.take k)))
    (fun _ i => len - (intOf i).toNat)
  case atStart => exact ⟨0, Nat.zero_le _, rfl, by simp [wordOf]⟩
  case round =>
    obtain ⟨k, hk, rfl, rfl⟩ := hrel
    by_cases hlt : k < len
    · have hcx := hc k hlt
      have hx := hw.getD k
      have hx0 := hx.1
      have hx1 := hx.2
      have HW := Lib.hid (wordOf_take bs hw k (by rw [← hlen.out]; exact hlt) (by omega))
      clear hx hc
      gi_wp2
      go_round
      case rel => exact ⟨k + 1, by omega, by go_num, by rw [HW.out]⟩
      case measure => simp [intOf]; omega
    · obtain rfl : k = len := by omega
      gi_wp2
      go_ret
      exact ⟨ret_int (by rw [hlen.out, List.take_length]), rfl⟩

end Go.Proofs.Ytjlihkllgajkkaa
