/-
  The plain mathematics of a digest: a step is a bijection in each half, and commutative; lists, bytes in groups of eight; no program is named here. The contracts of the step, of its twin in the reference, and of the pair's digest in the reference: in any fence. The contract of the method that takes any number of words: it goes on by a step for each, in the chain's own cell, and nothing else turns. The iterators over a list of numbers and over a list of digests yield each element, as a word, in order. Taking words in batches is taking them one after the other: whatever the iterator is, as long as it keeps its contract. A digest that is counted: from a seed on, a step for each word that an iterator yields, and one for the count. Words, List, Join, Bucket. Contracts of Join, Bucket, and of the buckets of the law and of the reference. A group of bytes as a word, and the iterator over the groups of a byte sequence. The library's iterator over the groups of a byte sequence, as it is called here: with groups of eight bytes. The iterator over the words of a byte sequence, and the digest of bytes. The digest of bytes: one changed byte; the contracts that a caller of Bytes wants.
-/
import Derived.WalkKit
import Derived.Test.YtkfmgiacdlkmiaaProg
import Derived.RangeFuncNested
import Derived.RangeFuncLeaves
import Derived.Shelf.Abstract
import Derived.Shelf.RegionOpen
import Derived.ProofKit
import Derived.OwnWalkIn
import Derived.TacticsInMore
import Derived.LoopNIn
import Derived.LoopIn
import Derived.Lib.Hide
import Derived.BigFrameIn
import Derived.Maps.AppendAt
import Derived.Test.YtkfmgiacdlkmiaaRangeAll
import Derived.Test.YtkfmgiacdlkmiaaPkCodes
import Derived.BigQuiet
import Derived.Deep.QuietTactic
import Derived.BigRegionIn
namespace Go.Proofs.Ytkfmgiacdlkmiaa.Dg
open Go.RowKit

/-- The step, on words of 64 bits. -/
def stepB (h w : BitVec 64) : BitVec 64 :=
  (((h ^^^ w) * 0xd6e8feb86659fd93#64) ^^^ (((h ^^^ w) * 0xd6e8feb86659fd93#64) >>> 32)) * 0xa0761d6478bd642f#64

/-- What was xored, out of a step's result. -/
def backB (r : BitVec 64) : BitVec 64 :=
  ((r * 0x939c72e4af1e62cf#64) ^^^ ((r * 0x939c72e4af1e62cf#64) >>> 32)) * 0xcfee444d8b59a89b#64

theorem fold_fold (b : BitVec 64) : (b ^^^ b >>> 32) ^^^ ((b ^^^ b >>> 32) >>> 32) = b := by
  have h64 : b >>> 32 >>> 32 = 0#64 := by
    rw [← BitVec.shiftRight_add]; exact BitVec.ushiftRight_eq_zero (by decide)
  rw [BitVec.ushiftRight_xor_distrib, h64, BitVec.xor_zero, BitVec.xor_assoc, BitVec.xor_self, BitVec.xor_zero]

theorem back_step (h w : BitVec 64) : backB (stepB h w) = h ^^^ w := by
  unfold backB stepB
  rw [BitVec.mul_assoc _ 0xa0761d6478bd642f#64, show 0xa0761d6478bd642f#64 * 0x939c72e4af1e62cf#64 = 1#64 by decide +kernel, BitVec.mul_one, fold_fold, BitVec.mul_assoc,
    show 0xd6e8feb86659fd93#64 * 0xcfee444d8b59a89b#64 = 1#64 by decide +kernel, BitVec.mul_one]

theorem stepB_comm (h w : BitVec 64) : stepB h w = stepB w h := by unfold stepB; rw [BitVec.xor_comm h w]

theorem stepB_right {h a b : BitVec 64} (e : stepB h a = stepB h b) : a = b := by
  have := congrArg backB e
  rw [back_step, back_step] at this
  have h2 := congrArg (h ^^^ ·) this
  simpa [← BitVec.xor_assoc] using h2

/-! ### On the model's integers -/

/-- The step, on integers: each counts by its lowest 64 bits. -/
def stepI (h c : Int) : Int := ((stepB (BitVec.ofInt 64 h) (BitVec.ofInt 64 c)).toNat : Int)

theorem stepI_lo (h c : Int) : 0 ≤ stepI h c := by unfold stepI; omega
theorem stepI_hi (h c : Int) : stepI h c < 18446744073709551616 := by unfold stepI; have := (stepB (BitVec.ofInt 64 h) (BitVec.ofInt 64 c)).isLt; omega
theorem stepI_comm (h c : Int) : stepI h c = stepI c h := by unfold stepI; rw [stepB_comm]

theorem ofInt_eq {a b : Int} (h : BitVec.ofInt 64 a = BitVec.ofInt 64 b) : a % 18446744073709551616 = b % 18446744073709551616 := by
  have := congrArg BitVec.toNat h
  simp only [BitVec.toNat_ofInt] at this
  omega

theorem ofInt_mod (a : Int) : BitVec.ofInt 64 (a % 18446744073709551616) = BitVec.ofInt 64 a := by
  apply BitVec.eq_of_toNat_eq
  simp only [BitVec.toNat_ofInt]
  omega

theorem stepI_mod (h c : Int) : stepI h (c % 18446744073709551616) = stepI h c := by unfold stepI; rw [ofInt_mod]

theorem stepI_right {h a b : Int} (e : stepI h a = stepI h b) : a % 18446744073709551616 = b % 18446744073709551616 := by
  unfold stepI at e
  have e' : stepB (BitVec.ofInt 64 h) (BitVec.ofInt 64 a) = stepB (BitVec.ofInt 64 h) (BitVec.ofInt 64 b) := BitVec.eq_of_toNat_eq (by omega)
  exact ofInt_eq (stepB_right e')
theorem stepI_left {a b c : Int} (e : stepI a c = stepI b c) : a % 18446744073709551616 = b % 18446744073709551616 := by
  rw [stepI_comm a, stepI_comm b] at e; exact stepI_right e
theorem stepI_right' {h a b : Int} (e : stepI h a = stepI h b) (ha : 0 ≤ a ∧ a < 18446744073709551616) (hb : 0 ≤ b ∧ b < 18446744073709551616) : a = b := by
  have := stepI_right e; omega
theorem stepI_left' {a b c : Int} (e : stepI a c = stepI b c) (ha : 0 ≤ a ∧ a < 18446744073709551616) (hb : 0 ≤ b ∧ b < 18446744073709551616) : a = b := by
  have := stepI_left e; omega

theorem stepB_nat (h w : BitVec 64) : (stepB h w).toNat =
    ((h.toNat ^^^ w.toNat) * 15485907386658061715 % 18446744073709551616 ^^^ (h.toNat ^^^ w.toNat) * 15485907386658061715 % 18446744073709551616 / 4294967296) * 11562461410679940143 % 18446744073709551616 := by
  unfold stepB
  rw [BitVec.toNat_mul, BitVec.toNat_xor, BitVec.toNat_ushiftRight, BitVec.toNat_mul, BitVec.toNat_xor, Nat.shiftRight_eq_div_pow]
  rfl

/-- What the program's text computes, on integers in range. -/
theorem stepI_text (h c : Int) (hh : 0 ≤ h ∧ h < 18446744073709551616) (hc : 0 ≤ c ∧ c < 18446744073709551616) :
    IntKind.u64.wrap (bits BinOp.xor IntKind.u64 (IntKind.u64.wrap (bits BinOp.xor IntKind.u64 h c * 15485907386658061715))
      (IntKind.u64.wrap (bits BinOp.xor IntKind.u64 h c * 15485907386658061715) / 4294967296) * 11562461410679940143) = stepI h c := by
  obtain ⟨a, rfl⟩ := Int.eq_ofNat_of_zero_le hh.1
  obtain ⟨b, rfl⟩ := Int.eq_ofNat_of_zero_le hc.1
  have ha : a < 18446744073709551616 := by omega
  have hb : b < 18446744073709551616 := by omega
  rw [bits_xor_u64_nat a b ha hb]
  have e1 : IntKind.u64.wrap (((a ^^^ b : Nat) : Int) * 15485907386658061715) = (((a ^^^ b) * 15485907386658061715 % 18446744073709551616 : Nat) : Int) := by
    rw [IntKind.wrap_u64]; omega
  rw [e1]
  generalize hX : (a ^^^ b) * 15485907386658061715 % 18446744073709551616 = X
  have hXlt : X < 18446744073709551616 := by rw [← hX]; exact Nat.mod_lt _ (by decide)
  have e2 : ((X : Nat) : Int) / 4294967296 = ((X / 4294967296 : Nat) : Int) := by omega
  rw [e2, bits_xor_u64_nat X (X / 4294967296) hXlt (by omega)]
  have e3 : IntKind.u64.wrap (((X ^^^ X / 4294967296 : Nat) : Int) * 11562461410679940143) = (((X ^^^ X / 4294967296) * 11562461410679940143 % 18446744073709551616 : Nat) : Int) := by
    rw [IntKind.wrap_u64]; omega
  rw [e3]
  have hoa : (BitVec.ofInt 64 (a : Int)).toNat = a := ofInt_u64 a ha
  have hob : (BitVec.ofInt 64 (b : Int)).toNat = b := ofInt_u64 b hb
  have e4 := stepB_nat (BitVec.ofInt 64 (a : Int)) (BitVec.ofInt 64 (b : Int))
  rw [hoa, hob, hX] at e4
  unfold stepI
  rw [e4]

end Go.Proofs.Ytkfmgiacdlkmiaa.Dg

namespace Go.Proofs.Ytkfmgiacdlkmiaa.Dg
open Go.RowKit Go.Shelf

theorem ret_int {k : IntKind} {a b : Int} (h : a = b) : Ending.returned (.int k a) = .returned (.int k b) := by rw [h]

/-- A fence that lets every function in. -/
structure Lets (F : Fence) : Prop where
  fn : ∀ f, F.fn f
  round : F.round = none
  depth : F.depth = none

theorem lets_wide : Lets Fence.wide := ⟨fun _ => trivial, rfl, rfl⟩

theorem step_in (F : Fence) (n : Nat) (hF : Lets F) (h c : Int) (hh : 0 ≤ h ∧ h < 18446744073709551616) (hc : 0 ≤ c ∧ c < 18446744073709551616) (w : World) :
    CallsIn F n Try.prog 85 #[.int .u64 h, .int .u64 c] w fun e w' => e = .returned (.int .u64 (stepI h c)) ∧ w = w' := by
  have ht := stepI_text h c hh hc
  have HT := Lib.hid ht
  clear ht hh hc
  have hro := hF.round
  refine callsIn_of_wp Try.func85 rfl (hF.fn _) ?_ hF.round
  simp only [Try.ntmps85, List.size_toArray, List.length_cons, List.length_nil, Nat.reduceAdd, Nat.reduceSub, Array.replicate_succ, Array.replicate_zero, List.push_toArray, List.append_toArray, List.nil_append, List.cons_append]
  gi_wp2
  go_ret
  exact ⟨ret_int HT.out, rfl⟩

theorem rstep_in (F : Fence) (n : Nat) (hF : Lets F) (h c : Int) (hh : 0 ≤ h ∧ h < 18446744073709551616) (hc : 0 ≤ c ∧ c < 18446744073709551616) (w : World) :
    CallsIn F n Try.prog 66 #[.int .u64 h, .int .u64 c] w fun e w' => e = .returned (.int .u64 (stepI h c)) ∧ w = w' := by
  have ht := stepI_text h c hh hc
  have HT := Lib.hid ht
  clear ht hh hc
  have hro := hF.round
  refine callsIn_of_wp Try.func66 rfl (hF.fn _) ?_ hF.round
  simp only [Try.ntmps66, List.size_toArray, List.length_cons, List.length_nil, Nat.reduceAdd, Nat.reduceSub, Array.replicate_succ, Array.replicate_zero, List.push_toArray, List.append_toArray, List.nil_append, List.cons_append]
  gi_wp2
  go_ret
  exact ⟨ret_int HT.out, rfl⟩

theorem step_any (h c : Int) (hh : 0 ≤ h ∧ h < 18446744073709551616) (hc : 0 ≤ c ∧ c < 18446744073709551616) (w : World) :
    Calls Try.prog 85 #[.int .u64 h, .int .u64 c] w fun e w' => e = .returned (.int .u64 (stepI h c)) ∧ w = w' :=
  (callsIn_wide (n := 3)).1 (step_in Fence.wide 3 lets_wide h c hh hc w)
theorem rstep_any (h c : Int) (hh : 0 ≤ h ∧ h < 18446744073709551616) (hc : 0 ≤ c ∧ c < 18446744073709551616) (w : World) :
    Calls Try.prog 66 #[.int .u64 h, .int .u64 c] w fun e w' => e = .returned (.int .u64 (stepI h c)) ∧ w = w' :=
  (callsIn_wide (n := 3)).1 (rstep_in Fence.wide 3 lets_wide h c hh hc w)

end Go.Proofs.Ytkfmgiacdlkmiaa.Dg

namespace Go.Proofs.Ytkfmgiacdlkmiaa.Dg
open Go.RowKit Go.Shelf

/-- The slice value sv reads as the integers zs of kind k, in block b alone; or it is nil, and there are none. -/
def Reads (W : World) (k : IntKind) (sv : Value) (zs : List Int) : Prop :=
  (sv = .slice none 0 0 ∧ zs = []) ∨ ∃ b off cap, sv = .slice (some ⟨b, off, none⟩) zs.length cap ∧ b < W.heap.size ∧ ∀ j, j < zs.length → W.cell? ⟨b, off + j, none⟩ = some (.int k (zs[j]?.getD 0))

/-- All of a list are words. -/
def Words (ws : List Int) : Prop := ∀ x ∈ ws, 0 ≤ x ∧ x < 18446744073709551616

theorem Words.getD {ws : List Int} (h : Words ws) (k : Nat) : 0 ≤ ws[k]?.getD 0 ∧ ws[k]?.getD 0 < 18446744073709551616 := by
  by_cases hk : k < ws.length
  · rw [List.getElem?_eq_getElem hk]; exact h _ (List.getElem_mem hk)
  · rw [List.getElem?_eq_none (by omega)]; simp

theorem foldI_range (h : Int) (hh : 0 ≤ h ∧ h < 18446744073709551616) : ∀ ws : List Int, 0 ≤ ws.foldl stepI h ∧ ws.foldl stepI h < 18446744073709551616 := by
  intro ws
  induction ws generalizing h with
  | nil => exact hh
  | cons x r ih => exact ih _ ⟨stepI_lo _ _, stepI_hi _ _⟩

theorem take_getD_snoc (ws : List Int) (k : Nat) (hk : k < ws.length) : ws.take (k + 1) = ws.take k ++ [ws[k]?.getD 0] := by
  rw [List.take_succ_eq_append_getElem hk, List.getElem?_eq_getElem hk]; rfl

theorem foldI_snoc (h : Int) (ws : List Int) (k : Nat) (hk : k < ws.length) : (ws.take (k + 1)).foldl stepI h = stepI ((ws.take k).foldl stepI h) (ws[k]?.getD 0) := by
  rw [take_getD_snoc ws k hk, List.foldl_append]; rfl

set_option maxRecDepth 100000 in
set_option maxHeartbeats 1000000 in
theorem take_some_in (F : Fence) (n : Nat) (hF : Lets F) (hn : 1 ≤ n) (B b off len cap : Nat) (h : Int) (hh : 0 ≤ h ∧ h < 18446744073709551616) (ws : List Int) (hlen : Hid (len = ws.length)) (hmax : len ≤ 140737488351232) (hw : Words ws) (hne : b ≠ B) (W : World)
    (hB : Boxed W B 109 (.int .u64 h)) (hb : b < W.heap.size) (hc : ∀ j, j < len → W.cell? ⟨b, off + j, none⟩ = some (.int .u64 (ws[j]?.getD 0))) :
    CallsIn F n Try.prog 78 #[.pointer (some ⟨B, 0, none⟩), .slice (some ⟨b, off, none⟩) len cap] W fun e W' =>
      (∃ v, e = .returned v) ∧ Boxed W' B 109 (.int .u64 (ws.foldl stepI h)) ∧ W.grownBy W' (some B) := by
  have hro := hF.round
  have hf := hF.fn 85
  refine callsIn_of_wp Try.func78 rfl (hF.fn _) ?_ hF.round
  simp only [Try.ntmps78, List.size_toArray, List.length_cons, List.length_nil, Nat.reduceAdd, Nat.reduceSub, Array.replicate_succ, Array.replicate_zero, List.push_toArray, List.append_toArray, List.nil_append, List.cons_append]
  gi_wp2
  gi_loopw [8] (fun i wr => ∃ k : Nat, k ≤ len ∧ i = .int .i64 k ∧ Boxed wr B 109 (.int .u64 ((ws.take k).foldl stepI h)) ∧ W.grownBy wr (some B))
    (fun i _ => len - (intOf i).toNat)
  case atStart => exact ⟨0, Nat.zero_le _, rfl, hB, World.grownBy.refl _ _⟩
  case round =>
    obtain ⟨k, hk, rfl, hBx, hg⟩ := hrel
    have hcB := hBx.cell
    have hfB := hBx.frozen
    by_cases hlt : k < len
    · have hcx : wr.cell? ⟨b, off + k, none⟩ = some (.int .u64 (ws[k]?.getD 0)) := (World.cell?_of_block (w := W) (hg.block b hb (fun e => hne (by cases e; rfl)))).trans (hc k hlt)
      have hr := foldI_range h hh (ws.take k)
      have hx := hw.getD k
      have HS := Lib.hid (foldI_snoc h ws k (by rw [← hlen.out]; exact hlt))
      gi_wp2_with (gi_at_call 85; refine (step_in F (n - 1) hF _ _ hr hx _).mono ?_; rintro e w' ⟨rfl, rfl⟩)
      go_roundw
      case rel => exact ⟨k + 1, by omega, by simp, by rw [HS.out]; exact hBx.set _, hg.trans (grownBy_setCell' _ _ _)⟩
      case measure => simp [intOf]; omega
    · obtain rfl : k = len := by omega
      gi_wp2
      go_end0
      exact ⟨⟨_, rfl⟩, by rw [hlen.out, List.take_length] at hBx; exact hBx, hg⟩

end Go.Proofs.Ytkfmgiacdlkmiaa.Dg

namespace Go.Proofs.Ytkfmgiacdlkmiaa.Dg
open Go.RowKit Go.Shelf
attribute [local go_sem] Oper.semAt_some

/-- The slice value sv reads as the integers zs of kind k, in one block that K names; or it is empty, wherever it points. -/
def ReadsK (K : Nat → Prop) (W : World) (k : IntKind) (sv : Value) (zs : List Int) : Prop :=
  (∃ a cap, sv = .slice a 0 cap ∧ zs = []) ∨ ∃ b off cap, sv = .slice (some ⟨b, off, none⟩) zs.length cap ∧ K b ∧ b < W.heap.size ∧ ∀ j, j < zs.length → W.cell? ⟨b, off + j, none⟩ = some (.int k (zs[j]?.getD 0))

theorem ReadsK.kept {K : Nat → Prop} {A B : World} {k : IntKind} {sv : Value} {zs : List Int} (h : ReadsK K A k sv zs) (hk : Kept K A B) : ReadsK K B k sv zs := by
  rcases h with h | ⟨b, off, cap, e, hb, hlt, hc⟩
  · exact .inl h
  · exact .inr ⟨b, off, cap, e, hb, Nat.lt_of_lt_of_le hlt hk.size, fun j hj => (World.cell?_of_block (w := A) (hk.block b hlt hb)).trans (hc j hj)⟩
theorem ReadsK.below {K : Nat → Prop} {A B : World} {k : IntKind} {sv : Value} {zs : List Int} (h : ReadsK K A k sv zs) (hk : Below A.heap.size A B) : ReadsK K B k sv zs := by
  rcases h with h | ⟨b, off, cap, e, hb, hlt, hc⟩
  · exact .inl h
  · exact .inr ⟨b, off, cap, e, hb, Nat.lt_of_lt_of_le hlt hk.size, fun j hj => (World.cell?_of_block (w := A) (hk.block b hlt)).trans (hc j hj)⟩
theorem ReadsK.mono {K K' : Nat → Prop} {A : World} {k : IntKind} {sv : Value} {zs : List Int} (h : ReadsK K A k sv zs) (hk : ∀ b, b < A.heap.size → K b → K' b) : ReadsK K' A k sv zs := by
  rcases h with h | ⟨b, off, cap, e, hb, hlt, hc⟩
  · exact .inl h
  · exact .inr ⟨b, off, cap, e, hk b hlt hb, hlt, hc⟩

def asWords (zs : List Int) : List Int := zs.map IntKind.u64.wrap

end Go.Proofs.Ytkfmgiacdlkmiaa.Dg

namespace Go.Proofs.Ytkfmgiacdlkmiaa.Dg
open Go.RowKit Go.Shelf
attribute [local go_sem] Oper.semAt_some

theorem Try.infoW : (Try.prog.info? 60).map (fun i => (i.zero, i.size, i.bytes)) = some (some (.int .u64 0), 1, 8) := by kernel_rfl

theorem row_lt {A : World} {base : Nat} {e : TypeId} {size k : Nat} {g len cap : Nat} {xs : List Value}
    (hr : A.ownsRow base e size (.slice (some ⟨g, 0, none⟩) len cap) k xs) : g < A.heap.size := by
  obtain ⟨h1, ⟨e0, _⟩ | ⟨g', cap', cur, e1, h2, h3, h4⟩⟩ := hr
  · cases e0
  · have hg : g = g' := by cases e1; rfl
    subst hg
    exact (Array.getElem?_eq_some_iff.1 h3).1
theorem row_cells {A : World} {base : Nat} {e : TypeId} {k : IntKind} {n g len cap : Nat} {zs : List Int}
    (hr : A.ownsRow base e 1 (.slice (some ⟨g, 0, none⟩) len cap) n (zs.map (Value.int k))) : ∀ j, j < zs.length → A.cell? ⟨g, 0 + j, none⟩ = some (.int k (zs[j]?.getD 0)) := by
  intro j hj
  obtain ⟨h1, ⟨e0, _⟩ | ⟨g', cap', cur, e1, h2, h3, h4, h5, h6, h7⟩⟩ := hr
  · cases e0
  · have hg : g = g' := by cases e1; rfl
    subst hg
    have e2 : cur.toList[j]? = some (.int k (zs[j]?.getD 0)) := by
      have e3 : (cur.toList.take (n * 1))[j]? = some (.int k (zs[j]?.getD 0)) := by
        rw [h7, List.getElem?_map, List.getElem?_eq_getElem hj]; rfl
      rw [List.getElem?_take] at e3
      split at e3
      · exact e3
      · cases e3
    rw [Array.getElem?_toList] at e2
    simp [World.cell?, h3, e2]

/-- Between two words: some have been taken, some lie in the batch. -/
def batchI (w : World) (B : Nat) (h : Int) (ws : List Int) (k : Nat) (W : World) : Prop :=
  ∃ (done pend : List Int) (p : Nat), Hid (ws.take k = done ++ pend ∧ pend.length = p) ∧ p < 64 ∧ Boxed W B 109 (.int .u64 (done.foldl stepI h)) ∧
    Boxed W w.heap.size 111 (.func (.func 78) #[.pointer (some ⟨B, 0, none⟩)] #[]) ∧
    Boxed W (w.heap.size + 1 + 1) 119 (.slice (some ⟨w.heap.size + 1, 0, none⟩) p 64) ∧
    W.ownsRow w.heap.size 60 1 (.slice (some ⟨w.heap.size + 1, 0, none⟩) p 64) p (pend.map (Value.int .u64)) ∧
    Kept (fun b => b < w.heap.size ∧ b ≠ B) w W

theorem batchI_kept {w W W' : World} {B : Nat} {h : Int} {ws : List Int} {k : Nat} (hB : B < w.heap.size) (hi : batchI w B h ws k W) (hk : Kept (fun b => b < w.heap.size + 3) W W') : batchI w B h ws k W' := by
  obtain ⟨done, pend, p, h1, h2, h3, h4, h5, h6, h7⟩ := hi
  exact ⟨done, pend, p, h1, h2, hk.boxed h3 (by omega), hk.boxed h4 (by omega), hk.boxed h5 (by omega), hk.row h6 (by omega), h7.trans (hk.mono fun b hb => by omega)⟩

theorem batchI_own {w : World} {B : Nat} {h : Int} {ws : List Int} (hB : B < w.heap.size) : OwnFrom (w.heap.size + 3) (batchI w B h ws) :=
  fun k W W' row hi hg hr => batchI_kept hB hi (Kept.of_grownBy hg (fun r e hlt => by have := (hr r e).1; omega))

/-- An append within the batch's room, and the store of the longer slice: only the batch's own two blocks turn. -/
theorem batch_kept {w W w1 : World} {x : Int} {v : Value} {K : Nat → Prop} (hg : (W.alloc (.cells #[.int .u64 x] 60)).grownBy w1 (some (w.heap.size + 1))) (h1 : ¬ K (w.heap.size + 1)) (h2 : ¬ K (w.heap.size + 1 + 1)) :
    Kept K W (w1.setCell ⟨w.heap.size + 1 + 1, 0, none⟩ v) :=
  ((Kept.of_grownBy (World.grownBy_alloc W _ none) (by simp)).trans (Kept.of_grownBy hg (fun r e => by cases e; exact h1))).trans (Kept.of_grownBy (grownBy_setCell' _ _ _) (fun r e => by cases e; exact h2))

theorem row_set {W : World} {base : Nat} {e : TypeId} {size k : Nat} {g len cap : Nat} {xs : List Value} {b : Nat} {v : Value}
    (hr : W.ownsRow base e size (.slice (some ⟨g, 0, none⟩) len cap) k xs) (hne : g ≠ b) : (W.setCell ⟨b, 0, none⟩ v).ownsRow base e size (.slice (some ⟨g, 0, none⟩) len cap) k xs :=
  Kept.row (Kept.of_grownBy (K := fun i => i ≠ b) (grownBy_setCell' W b v) (fun r e => by cases e; simp)) hr hne

theorem row_empty {W : World} {base : Nat} {e : TypeId} {size k : Nat} {g len cap : Nat} {xs : List Value}
    (hr : W.ownsRow base e size (.slice (some ⟨g, 0, none⟩) len cap) k xs) : W.ownsRow base e size (.slice (some ⟨g, 0, none⟩) 0 cap) 0 [] := by
  obtain ⟨h1, ⟨e0, _⟩ | ⟨g', cap', cur, e1, h2, h3, h4, h5, h6, h7⟩⟩ := hr
  · cases e0
  · obtain ⟨rfl, rfl⟩ : g = g' ∧ cap = cap' := by cases e1; exact ⟨rfl, rfl⟩
    exact ⟨by simp, .inr ⟨g, cap, cur, rfl, h2, h3, Nat.zero_le _, h5, h6, by simp⟩⟩

set_option maxRecDepth 100000 in
set_option maxHeartbeats 4000000 in
theorem batches_in (F : Fence) (n : Nat) (hF : Lets F) (hn : 4 ≤ n) (gf : Nat) (lb : Array Value) (eg : ∀ args w, (callFunc gf args).run Try.prog w = .ok (.enter gf args) w)
    (B : Nat) (h : Int) (hh : 0 ≤ h ∧ h < 18446744073709551616) (ws : List Int) (hw : Words ws) (w : World)
    (hB : Boxed w B 109 (.int .u64 h)) (hseq : ∀ w', Below w.heap.size w w' → GivesAll F (n - 1) Try.prog gf lb (fun x : Int => #[Value.int .u64 x]) (fun b => b < w.heap.size ∧ b ≠ B) ws w') :
    CallsIn F n Try.prog 77 #[.func (.func gf) #[] lb, .func (.func 78) #[.pointer (some ⟨B, 0, none⟩)] #[]] w fun e W' =>
      (∃ v, e = .returned v) ∧ Boxed W' B 109 (.int .u64 (ws.foldl stepI h)) ∧ Kept (fun b => b < w.heap.size ∧ b ≠ B) w W' := by
  have hro := hF.round
  have hBlt := hB.lt
  have hf := hF.fn 78
  have h1 : 1 ≤ n := by omega
  obtain ⟨i0, hi, hz0, hz1, hz2⟩ := info_parts Try.infoW
  refine callsIn_of_wp_marks Try.func77 rfl (hF.fn _) ?_ hF.round
  simp only [Try.ntmps77, List.size_toArray, List.length_cons, List.length_nil, Nat.reduceAdd, Nat.reduceSub, Array.replicate_succ, Array.replicate_zero, List.push_toArray, List.append_toArray, List.nil_append, List.cons_append]
  have hmk : ∀ W : World, (Instr.makeSlice 119 (.int .i64 0) (.int .i64 64)).run Try.prog W = .ok (.slice (some ⟨W.heap.size, 0, none⟩) 0 64) (W.alloc (.cells (madeCells (Value.int .u64 0).cells (64 * 1)) 60)) := by
    intro W
    have := run_make (P := Try.prog) W 119 60 i0 _ Try.underlying119 hi hz0 .i64 .i64 0 64 (by omega) (by omega) (by rw [hz2]; decide) (by omega)
    rw [hz1] at this
    exact this
  obtain ⟨mc, hmc⟩ : ∃ mc, madeCells (Value.int .u64 0).cells (64 * 1) = mc := ⟨_, rfl⟩
  have hmcs : mc.size = 64 * 1 := by rw [← hmc]; exact size_madeCells _ _
  rw [hmc] at hmk
  clear hmc
  have HM := Lib.hid hmcs
  clear hmcs
  gi_wp2
  clear hmk
  have bT := Boxed.new w 111 (.func (.func 78) #[.pointer (some ⟨B, 0, none⟩)] #[])
  have rM := World.ownsRow_made (w.alloc (.cells #[.func (.func 78) #[.pointer (some ⟨B, 0, none⟩)] #[]] 111)) (base := w.heap.size) (e := 60) (size := 1) mc 64 (by simp) (by decide) HM.out
  have bN := Boxed.new ((w.alloc (.cells #[.func (.func 78) #[.pointer (some ⟨B, 0, none⟩)] #[]] 111)).alloc (.cells mc 60)) 119 (.slice (some ⟨w.heap.size + 1, 0, none⟩) 0 64)
  simp only [World.size_alloc] at rM bN
  have hW0 : Below w.heap.size w (((w.alloc (.cells #[.func (.func 78) #[.pointer (some ⟨B, 0, none⟩)] #[]] 111)).alloc (.cells mc 60)).alloc (.cells #[.slice (some ⟨w.heap.size + 1, 0, none⟩) 0 64] 119)) := (((Below.refl _ w).alloc (Nat.le_refl _) _).alloc (by simp) _).alloc (by simp; omega) _
  have hsz : (((w.alloc (.cells #[.func (.func 78) #[.pointer (some ⟨B, 0, none⟩)] #[]] 111)).alloc (.cells mc 60)).alloc (.cells #[.slice (some ⟨w.heap.size + 1, 0, none⟩) 0 64] 119)).heap.size = w.heap.size + 3 := by simp
  have hI0 : batchI w B h ws 0 (((w.alloc (.cells #[.func (.func 78) #[.pointer (some ⟨B, 0, none⟩)] #[]] 111)).alloc (.cells mc 60)).alloc (.cells #[.slice (some ⟨w.heap.size + 1, 0, none⟩) 0 64] 119)) :=
    ⟨[], [], 0, ⟨rfl, rfl⟩, by decide, (((hB.alloc _).alloc _).alloc _), (bT.alloc _).alloc _, bN, rM.alloc _,
      ⟨hW0.os, hW0.tape, hW0.output, hW0.size, fun k hk _ => hW0.block k hk⟩⟩
  have hG := hseq _ hW0
  generalize hW0' : ((w.alloc (.cells #[.func (.func 78) #[.pointer (some ⟨B, 0, none⟩)] #[]] 111)).alloc (.cells mc 60)).alloc (.cells #[.slice (some ⟨w.heap.size + 1, 0, none⟩) 0 64] 119) = W0 at *
  clear hW0' bT rM bN HM
  refine wpIn_rangeAll hro h1 (gf := gf) (lb := lb) rfl (hF.fn _) eg hG (fun _ => rfl) (batchI w B h ws) (by rw [hsz]; exact batchI_own hBlt) hI0
    (fun x => { tmps := #[.func (.func gf) #[] lb, .func (.func 78) #[.pointer (some ⟨B, 0, none⟩)] #[], undef, .pointer (some ⟨w.heap.size, 0, none⟩), .pointer (some ⟨w.heap.size + 1 + 1, 0, none⟩), .int .u64 x,
      .slice (some ⟨w.heap.size + 1, 0, none⟩) 0 64, .func (.func gf) #[] lb, .int .u64 x, undef, undef, undef, undef, undef, undef, undef, undef, undef, undef, undef, undef, undef, undef, undef], defers := [] }) ?assign ?body ?done
  case assign =>
    intro l x W R hR
    gi_wp2
    exact hR
  case body =>
    rintro l k x W hx ⟨done, pend, p, hp, hp64, hBx, hTx, hNx, hRx, hKx⟩ hWz
    rw [hsz] at hWz
    have hx2 : 0 ≤ x ∧ x < 18446744073709551616 := hw x (List.mem_of_getElem? hx)
    have hx0 := hx2.1
    have hx1 := hx2.2
    have h1' : 1 ≤ n - 1 - 1 := by omega
    have hcT := hTx.cell
    have hcN := hNx.cell
    have hfN := hNx.frozen
    have HTK : Hid (ws.take (k + 1) = done ++ (pend ++ [x]) ∧ (pend ++ [x]).length = p + 1) := by
      have hk : k < ws.length := (List.getElem?_eq_some_iff.1 hx).1
      refine ⟨?_, by simp [hp.out.2]⟩
      rw [List.take_succ_eq_append_getElem hk, hp.out.1, List.append_assoc, (List.getElem?_eq_some_iff.1 hx).2]
    clear hx hx2
    by_cases hfull : p = 63
    · subst hfull
      have hfo := foldI_range h hh done
      have hwp : Words (pend ++ [x]) := by
        intro y hy
        have : y ∈ ws := List.mem_of_mem_take (by rw [HTK.out.1]; exact List.mem_append_right _ hy)
        exact hw y this
      have HL : Hid (64 = (pend ++ [x]).length) := HTK.out.2.symm
      gi_wp2_with (first
        | (gi_at_builtin; refine wpListIn_append_fits _ rfl _ _ 119 rfl w.heap.size 60 i0 1 Try.underlying119 hi hz1 (w.heap.size + 1) 63 64 (pend.map (Value.int .u64)) rfl (hRx.alloc _) ⟨W.heap.size, 0, none⟩ 1 1 [.int .u64 x] rfl rfl (cell_one_new _ _ _) (by simp [Value.oneCell']) (by omega) ?_; intro w1 hown1 hgrow1; have hcN1 := hgrow1.cell (hNx.alloc _).cell (by simp); have hN1 := (hNx.alloc _).kept hgrow1 (by simp); have hfN1 := hN1.frozen; have bN1 := hN1.set (.slice (some ⟨w.heap.size + 1, 0, none⟩) 64 64); have bB1 := (batch_kept (v := .slice (some ⟨w.heap.size + 1, 0, none⟩) 64 64) (K := fun b => b = B) hgrow1 (by omega) (by omega)).boxed hBx rfl; have bT1 := (batch_kept (v := .slice (some ⟨w.heap.size + 1, 0, none⟩) 64 64) (K := fun b => b = w.heap.size) hgrow1 (by omega) (by omega)).boxed hTx rfl; have rR1 := row_set (v := .slice (some ⟨w.heap.size + 1, 0, none⟩) 64 64) (b := w.heap.size + 1 + 1) hown1 (by omega); have cT1 := bT1.cell; have cN1 := bN1.cell)
        | (gi_at_call 78; refine (CallsIn.inRound l (take_some_in F (n - 1 - 1 - 1) hF (by omega) B (w.heap.size + 1) 0 64 64 (done.foldl stepI h) hfo (pend ++ [x]) HL (by omega) hwp (by omega) _ bB1 (row_lt rR1) (fun j hj => row_cells (zs := pend ++ [x]) (by rw [List.map_append]; exact rR1) j (by rw [← HL.out]; exact hj)))).mono ?_; rintro e W3 ⟨⟨v, rfl⟩, bB3, hg3⟩; have bN3 := bN1.kept hg3 (by simp; omega); have cN3 := bN3.cell; have fN3 := bN3.frozen))
      have hk0 : ∀ K : Nat → Prop, ¬ K (w.heap.size + 1) → ¬ K (w.heap.size + 1 + 1) → ¬ K B → Kept K W (W3.setCell ⟨w.heap.size + 1 + 1, 0, none⟩ (.slice (some ⟨w.heap.size + 1, 0, none⟩) 0 64)) := fun K k1 k2 k3 =>
        ((batch_kept hgrow1 k1 k2).trans (Kept.of_grownBy hg3 (fun r e => by cases e; exact k3))).trans (Kept.of_grownBy (grownBy_setCell' _ _ _) (fun r e => by cases e; exact k2))
      have rR3 := Kept.row (Kept.of_grownBy (K := fun b => b ≠ B) hg3 (fun r e => by cases e; simp)) rR1 (by omega)
      refine ⟨hk0 _ (by omega) (by omega) (by omega), ws.take (k + 1), [], 0, ⟨by simp, rfl⟩, by decide, ?_, (hk0 (fun b => b = w.heap.size) (by omega) (by omega) (by omega)).boxed hTx rfl, bN3.set _,
        row_set (row_empty rR3) (by omega), hKx.trans (hk0 _ (by omega) (by omega) (by simp))⟩
      rw [HTK.out.1, List.foldl_append]
      exact bB3.other (by omega) _
    · have hp2 : p < 63 := by omega
      clear hfull
      gi_wp2_with (gi_at_builtin; refine wpListIn_append_fits _ rfl _ _ 119 rfl w.heap.size 60 i0 1 Try.underlying119 hi hz1 (w.heap.size + 1) p 64 (pend.map (Value.int .u64)) rfl (hRx.alloc _) ⟨W.heap.size, 0, none⟩ 1 1 [.int .u64 x] rfl rfl (cell_one_new _ _ _) (by simp [Value.oneCell']) (by omega) ?_; intro w1 hown1 hgrow1; have hcN1 := hgrow1.cell (hNx.alloc _).cell (by simp); have hfN1 : w1.frozen? ⟨w.heap.size + 1 + 1, 0, none⟩ = false := ((hNx.alloc _).kept hgrow1 (by simp)).frozen)
      have hN1 := (hNx.alloc _).kept hgrow1 (by simp)
      refine ⟨batch_kept hgrow1 (by omega) (by omega), done, pend ++ [x], p + 1, HTK, by omega, (batch_kept (K := fun b => b = B) hgrow1 (by omega) (by omega)).boxed hBx rfl, (batch_kept (K := fun b => b = w.heap.size) hgrow1 (by omega) (by omega)).boxed hTx rfl, hN1.set _,
        row_set (by rw [List.map_append]; exact hown1) (by omega), hKx.trans (batch_kept hgrow1 (by omega) (by omega))⟩
  case done =>
    rintro D W hD hWz ⟨done, pend, p, hp, hp64, hBx, hTx, hNx, hRx, hKx⟩ hDx
    rw [hsz] at hWz hD
    have hcT := hTx.cell
    have hcN := hNx.cell
    have hfo := foldI_range h hh done
    have hwp : Words pend := by
      intro y hy
      have : y ∈ ws := by have := hp.out.1; rw [List.take_length] at this; rw [this]; exact List.mem_append_right _ hy
      exact hw y this
    have HL : Hid (p = pend.length) := hp.out.2.symm
    gi_wp2_with (gi_at_call 78; refine (take_some_in F (n - 1) hF (by omega) B (w.heap.size + 1) 0 p 64 (done.foldl stepI h) hfo pend HL (by omega) hwp (by omega) _ hBx (row_lt hRx) (fun j hj => row_cells (zs := pend) hRx j (by rw [← HL.out]; exact hj))).mono ?_; rintro e W3 ⟨⟨v, rfl⟩, bB3, hg3⟩)
    have hD3 : W3.heap[D]? = some (.deferred (some [])) := (hg3.block D (Array.getElem?_eq_some_iff.1 hDx).1 (by simp; omega)).trans hDx
    refine ⟨by simp, .inl ⟨_, _, rfl, run_takeDeferred hD3, ?_⟩⟩
    refine ⟨_, results_none rfl _ _ _, ⟨_, rfl⟩, ?_, (hKx.trans (Kept.of_grownBy hg3 (fun r e => by cases e; simp))).trans (Kept.of_grownBy (grownBy_putObj' _ _ _) (fun r e => by cases e; omega))⟩
    have e1 : ws = done ++ pend := by have := hp.out.1; rwa [List.take_length] at this
    rw [e1, List.foldl_append]
    exact Kept.boxed (Kept.of_grownBy (K := fun b => b = B) (grownBy_putObj' _ _ _) (fun r e => by cases e; omega)) bB3 rfl

end Go.Proofs.Ytkfmgiacdlkmiaa.Dg

namespace Go.Proofs.Ytkfmgiacdlkmiaa.Dg
open Go.RowKit Go.Shelf
attribute [local go_sem] Oper.semAt_some

theorem Below.of_kept {K : Nat → Prop} {n₀ : Nat} {A B : World} (h : Kept K A B) (hk : ∀ b, b < n₀ → K b) (hn : n₀ ≤ A.heap.size) : Below n₀ A B := h.below hk hn

theorem one_cell (W : World) (k : IntKind) (x : Int) (t : TypeId) : ∀ j, j < 1 → (W.alloc (.cells #[.int k x] t)).cell? ⟨W.heap.size, 0 + j, none⟩ = some (.int k ([x][j]?.getD 0)) := by
  intro j hj
  obtain rfl : j = 0 := by omega
  exact (Boxed.new W t (.int k x)).cell

set_option maxRecDepth 100000 in
set_option maxHeartbeats 4000000 in
theorem counted_in (F : Fence) (n : Nat) (hF : Lets F) (hn : 8 ≤ n) (gf : Nat) (lb : Array Value) (eg : ∀ args w, (callFunc gf args).run Try.prog w = .ok (.enter gf args) w)
    (h : Int) (hh : 0 ≤ h ∧ h < 18446744073709551616) (ws : List Int) (hw : Words ws) (N : Nat) (hN : N ≤ 140737488351232) (w : World)
    (hseq : ∀ K w', Below w.heap.size w w' → (∀ b, b < w.heap.size → K b) → GivesAll F (n - 1 - 1) Try.prog gf lb (fun x : Int => #[Value.int .u64 x]) K ws w') :
    CallsIn F n Try.prog 61 #[.int .u64 h, .func (.func gf) #[] lb, .int .i64 N] w fun e W' =>
      e = .returned (.int .u64 (stepI (ws.foldl stepI h) N)) ∧ Below w.heap.size w W' := by
  have hro := hF.round
  have hf := hF.fn 78
  have hf2 := hF.fn 77
  have h1 : 1 ≤ n := by omega
  have hB := Boxed.new w 109 (.int .u64 h)
  have hS : ∀ w', Below (w.alloc (.cells #[.int .u64 h] 109)).heap.size (w.alloc (.cells #[.int .u64 h] 109)) w' →
      GivesAll F (n - 1 - 1) Try.prog gf lb (fun x : Int => #[Value.int .u64 x]) (fun b => b < (w.alloc (.cells #[.int .u64 h] 109)).heap.size ∧ b ≠ w.heap.size) ws w' := by
    intro w' hb
    refine hseq _ w' (((Below.refl _ w).alloc (Nat.le_refl _) _).trans (hb.mono (by simp))) ?_
    intro b hb; simp; omega
  have hfo := foldI_range h hh ws
  have hc := batches_in F (n - 1) hF (by omega) gf lb eg w.heap.size h hh ws hw _ hB hS
  have HC := Lib.hid hc
  clear hc hS hB
  refine callsIn_of_wp Try.func61 rfl (hF.fn _) ?_ hF.round
  simp only [Try.ntmps61, List.size_toArray, List.length_cons, List.length_nil, Nat.reduceAdd, Nat.reduceSub, Array.replicate_succ, Array.replicate_zero, List.push_toArray, List.append_toArray, List.nil_append, List.cons_append]
  gi_wp2_with (first
    | (gi_at_call 77; refine HC.out.mono ?_; rintro e W1 ⟨⟨v1, rfl⟩, bB1, hk1⟩)
    | (gi_at_call 78; refine (take_some_in F (n - 1) hF (by omega) w.heap.size W1.heap.size 0 1 1 (ws.foldl stepI h) hfo [(N : Int)] rfl (by omega) (by intro x hx; simp at hx; omega) (by have := bB1.lt; omega) _ (bB1.alloc _) (by simp) (one_cell _ _ _ _)).mono ?_; rintro e W2 ⟨⟨v2, rfl⟩, bB2, hg2⟩; have cB2 := bB2.cell))
  go_ret
  refine ⟨rfl, ?_⟩
  have b1 : Below w.heap.size w (w.alloc (.cells #[.int .u64 h] 109)) := (Below.refl _ w).alloc (Nat.le_refl _) _
  have b2 := b1.trans (hk1.below (n₀ := w.heap.size) (fun k hk => ⟨by simp; omega, by omega⟩) (by simp))
  exact (b2.alloc b2.size _).grown hg2 (by have := b2.size; simp; omega) (fun k e => by cases e; exact Nat.le_refl _)

theorem asWords_words (zs : List Int) : Words (asWords zs) := by
  intro x hx
  obtain ⟨z, _, rfl⟩ := List.mem_map.1 hx
  rw [IntKind.wrap_u64]; omega

/-- The digest of a list of numbers; of digests. -/
def wordsD (zs : List Int) : Int := stepI ((asWords zs).foldl stepI 512970876019) zs.length
def listD (zs : List Int) : Int := stepI (zs.foldl stepI 1818850164) zs.length

end Go.Proofs.Ytkfmgiacdlkmiaa.Dg

namespace Go.Proofs.Ytkfmgiacdlkmiaa.Dg
open Go.RowKit Go.Shelf
attribute [local go_sem] Oper.semAt_some

theorem two_cells (W : World) (k : IntKind) (x y : Int) (t : TypeId) : ∀ j, j < 2 → (W.alloc (.cells #[.int k x, .int k y] t)).cell? ⟨W.heap.size, 0 + j, none⟩ = some (.int k ([x, y][j]?.getD 0)) := by
  intro j hj
  have h0 := World.alloc_heap_new W (.cells #[.int k x, .int k y] t)
  obtain rfl | rfl : j = 0 ∨ j = 1 := by omega
  · unfold World.cell?; rw [h0]; rfl
  · unfold World.cell?; rw [h0]; rfl

def joinD (a b : Int) : Int := stepI (stepI 1852793957 a) b

theorem ret2_int {k k' : IntKind} {a b c d : Int} (h : a = b) (h' : c = d) : Ending.returned (.tuple #[.int k a, .int k' c]) = .returned (.tuple #[.int k b, .int k' d]) := by rw [h, h']

/-- Which of n buckets a digest belongs to, with the error: what Bucket and the reference say. -/
def bucketN (d n : Int) : Int := if n < 1 ∨ 1000000 < n then 0 else d / 4294967296 % n
def bucketE (n : Int) : Int := if n < 1 ∨ 1000000 < n then 1 else 0

theorem bucketN_bad {d n : Int} (h : n < 1 ∨ 1000000 < n) : bucketN d n = 0 := by unfold bucketN; rw [if_pos h]
theorem bucketE_bad {n : Int} (h : n < 1 ∨ 1000000 < n) : bucketE n = 1 := by unfold bucketE; rw [if_pos h]
theorem bucketN_good {d n : Int} (h : 1 ≤ n) (h2 : n ≤ 1000000) : bucketN d n = d / 4294967296 % n := by unfold bucketN; rw [if_neg (by omega)]
theorem bucketE_good {n : Int} (h : 1 ≤ n) (h2 : n ≤ 1000000) : bucketE n = 0 := by unfold bucketE; rw [if_neg (by omega)]

theorem bucket_range (d m : Int) (hm : 1 ≤ m) (hm2 : m ≤ 1000000) : -9223372036854775808 ≤ d / 4294967296 % m ∧ d / 4294967296 % m ≤ 9223372036854775807 := by
  have a := Int.emod_nonneg (d / 4294967296) (show m ≠ 0 by omega)
  have b := Int.emod_lt_of_pos (d / 4294967296) (show 0 < m by omega)
  omega

theorem ret_agg2 {k k' : IntKind} {a b c d : Int} (h : a = b) (h' : c = d) : Ending.returned (.agg #[.int k a, .int k' c]) = .returned (.agg #[.int k b, .int k' d]) := by rw [h, h']

end Go.Proofs.Ytkfmgiacdlkmiaa.Dg

namespace Go.Proofs.Ytkfmgiacdlkmiaa.Dg
open Go.RowKit Go.Shelf
attribute [local go_sem] Oper.semAt_some

/-- The word of a group of bytes: the first one is the lowest. -/
def wordOf : List Int → Int
  | [] => 0
  | b :: r => b + 256 * wordOf r

def Octets (bs : List Int) : Prop := ∀ x ∈ bs, 0 ≤ x ∧ x < 256
theorem Octets.getD {bs : List Int} (h : Octets bs) (k : Nat) : 0 ≤ bs[k]?.getD 0 ∧ bs[k]?.getD 0 < 256 := by
  by_cases hk : k < bs.length
  · rw [List.getElem?_eq_getElem hk]; exact h _ (List.getElem_mem hk)
  · rw [List.getElem?_eq_none (by omega)]; simp

theorem wordOf_range : ∀ bs : List Int, Octets bs → 0 ≤ wordOf bs ∧ wordOf bs < 256 ^ bs.length
  | [], _ => by simp [wordOf]
  | b :: r, h => by
    have ih := wordOf_range r (fun x hx => h x (List.mem_cons_of_mem _ hx))
    have hb := h b (List.mem_cons_self)
    simp only [wordOf, List.length_cons, Int.pow_succ]
    omega

theorem wordOf_snoc : ∀ (bs : List Int) (x : Int), wordOf (bs ++ [x]) = wordOf bs + x * 256 ^ bs.length
  | [], x => by simp [wordOf]
  | b :: r, x => by
    simp only [List.cons_append, wordOf, wordOf_snoc r x, List.length_cons, Int.pow_succ, Int.mul_add]
    have e : x * (256 ^ r.length * 256) = 256 * (x * 256 ^ r.length) := by
      rw [← Int.mul_assoc, Int.mul_comm]
    omega

theorem or_word (v x : Int) (k : Nat) (hk : k ≤ 7) (h0 : 0 ≤ v) (h1 : v < 256 ^ k) (hx0 : 0 ≤ x) (hx1 : x < 256) :
    bits BinOp.or IntKind.u64 v (IntKind.u64.wrap (x * 2 ^ (8 * k))) = v + x * 256 ^ k := by
  obtain ⟨V, rfl⟩ := Int.eq_ofNat_of_zero_le h0
  obtain ⟨X, rfl⟩ := Int.eq_ofNat_of_zero_le hx0
  have e1 : (2 : Int) ^ (8 * k) = 256 ^ k := by rw [Int.pow_mul]; rfl
  have ep : ((256 : Int) ^ k) = ((256 ^ k : Nat) : Int) := by rw [Int.natCast_pow]; rfl
  have hV : V < 256 ^ k := by rw [ep] at h1; omega
  have hX : X < 256 := by omega
  have hp : (256 : Nat) ^ k ≤ 256 ^ 7 := Nat.pow_le_pow_right (by decide) hk
  have hXp : X * 256 ^ k ≤ 255 * 256 ^ k := Nat.mul_le_mul_right _ (by omega)
  have hlt : X * 256 ^ k < 18446744073709551616 := by
    have : (256 : Nat) ^ 7 = 72057594037927936 := by decide
    omega
  have hVlt : V < 18446744073709551616 := by
    have : (256 : Nat) ^ 7 = 72057594037927936 := by decide
    omega
  have e2 : IntKind.u64.wrap ((X : Int) * 2 ^ (8 * k)) = ((X * 256 ^ k : Nat) : Int) := by
    rw [e1, IntKind.wrap_u64]
    have : ((X : Int) * 256 ^ k) = ((X * 256 ^ k : Nat) : Int) := by rw [ep, Int.natCast_mul]
    rw [this]
    omega
  rw [e2, bits_or_u64_nat V (X * 256 ^ k) hVlt hlt, Nat.or_comm]
  have e3 : (256 : Nat) ^ k = 2 ^ (8 * k) := by rw [Nat.pow_mul]
  rw [nat_join (8 * k) (X * 256 ^ k) V (by rw [← e3]; exact Nat.mul_mod_left _ _) (by rw [← e3]; exact hV)]
  rw [ep, ← Int.natCast_mul]
  omega

theorem wordOf_take (bs : List Int) (hw : Octets bs) (k : Nat) (hk : k < bs.length) (h7 : k ≤ 7) :
    bits BinOp.or IntKind.u64 (wordOf (bs.take k)) (IntKind.u64.wrap (bs[k]?.getD 0 * 2 ^ (8 * k))) = wordOf (bs.take (k + 1)) := by
  have hr := wordOf_range (bs.take k) (fun x hx => hw x (List.mem_of_mem_take hx))
  have hl : (bs.take k).length = k := by simp; omega
  have hx := hw.getD k
  rw [hl] at hr
  rw [or_word _ _ k h7 hr.1 hr.2 hx.1 hx.2, take_getD_snoc bs k hk, wordOf_snoc, hl]

set_option maxRecDepth 100000 in
set_option maxHeartbeats 1000000 in
theorem word_some_in (F : Fence) (n : Nat) (hF : Lets F) (b off len cap : Nat) (bs : List Int) (hlen : Hid (len = bs.length)) (h8 : len ≤ 8) (hw : Octets bs) (W : World)
    (hc : ∀ j, j < len → W.cell? ⟨b, off + j, none⟩ = some (.int .u8 (bs[j]?.getD 0))) :
    CallsIn F n Try.prog 81 #[.slice (some ⟨b, off, none⟩) len cap] W fun e W' => e = .returned (.int .u64 (wordOf bs)) ∧ W = W' := by
  have hro := hF.round
  refine callsIn_of_wp Try.func81 rfl (hF.fn _) ?_ hF.round
  simp only [Try.ntmps81, List.size_toArray, List.length_cons, List.length_nil, Nat.reduceAdd, Nat.reduceSub, Array.replicate_succ, Array.replicate_zero, List.push_toArray, List.append_toArray, List.nil_append, List.cons_append]
  gi_wp2
  gi_loop [3, 8] (fun v i => ∃ k : Nat, k ≤ len ∧ i = .int .i64 k ∧ v = .int .u64 (wordOf (bs.take k)))
    (fun _ i => len - (intOf i).toNat)
  case atStart => exact ⟨0, Nat.zero_le _, rfl, by simp [wordOf]⟩
  case round =>
    obtain ⟨k, hk, rfl, rfl⟩ := hrel
    by_cases hlt : k < len
    · have hcx := hc k hlt
      have hx := hw.getD k
      have hx0 := hx.1
      have hx1 := hx.2
      have HW := Lib.hid (wordOf_take bs hw k (by rw [← hlen.out]; exact hlt) (by omega))
      clear hx hc
      gi_wp2
      go_round
      case rel => exact ⟨k + 1, by omega, by go_num, by rw [HW.out]⟩
      case measure => simp [intOf]; omega
    · obtain rfl : k = len := by omega
      gi_wp2
      go_ret
      exact ⟨ret_int (by rw [hlen.out, List.take_length]), rfl⟩

end Go.Proofs.Ytkfmgiacdlkmiaa.Dg

namespace Go.Proofs.Ytkfmgiacdlkmiaa.Dg
open Go.RowKit Go.Shelf
attribute [local go_sem] Oper.semAt_some

set_option maxHeartbeats 1000000 in
theorem chunk_in (F : Fence) (n : Nat) (hF : Lets F) (a : Option Addr) (len cap : Nat) (w : World) :
    CallsIn F n Try.prog 80 #[.slice a len cap, .int .i64 8] w fun e w' => e = .returned (.func (.func 86) #[] #[.pointer (some ⟨w.heap.size, 0, none⟩), .pointer (some ⟨w.heap.size + 1, 0, none⟩)]) ∧
      w' = (w.alloc (.cells #[.slice a len cap] 23)).alloc (.cells #[.int .i64 8] 3) := by
  have hro := hF.round
  refine callsIn_of_wp Try.func80 rfl (hF.fn _) ?_ hF.round
  simp only [Try.ntmps80, List.size_toArray, List.length_cons, List.length_nil, Nat.reduceAdd, Nat.reduceSub, Array.replicate_succ, Array.replicate_zero, List.push_toArray, List.append_toArray, List.nil_append, List.cons_append]
  gi_wp2
  go_ret
  exact ⟨rfl, rfl⟩

/-- The group number k, as a slice of the bytes. -/
def groupLen (len k : Nat) : Nat := if 8 ≤ len - 8 * k then 8 else len - 8 * k
def groupAt (b off len k : Nat) : Value := .slice (some ⟨b, off + 8 * k, none⟩) (groupLen len k) (groupLen len k)

set_option maxRecDepth 100000 in
set_option maxHeartbeats 4000000 in
theorem chunk1_in (F : Fence) (n : Nat) (hF : Lets F) (hn : 1 ≤ n) (l Bs Bn b off len cap G : Nat) (K : Nat → Prop) (hG : Hid (G = (len + 7) / 8)) (hcap : len ≤ cap) (hmax : len ≤ 140737488351232)
    (J : Nat → World → Prop) (W : World) (hKs : K Bs) (hKn : K Bn) (hbs : Bs < W.heap.size) (hbn : Bn < W.heap.size) (hJ : OwnFrom W.heap.size J)
    (hY : ∀ k x W1, (List.range G)[k]? = some x → J k W1 → W.heap.size ≤ W1.heap.size → YieldAt F (n - 1) Try.prog l #[groupAt b off len x] W1 fun e W2 => e = .returned (.bool true) ∧ J (k + 1) W2 ∧ Kept (fun b => K b ∨ W.heap.size ≤ b) W1 W2)
    (hBs : W.cell? ⟨Bs, 0, none⟩ = some (.slice (some ⟨b, off, none⟩) len cap)) (hBn : W.cell? ⟨Bn, 0, none⟩ = some (.int .i64 8)) (h0 : J 0 W) :
    CallsIn F n Try.prog 86 #[.func (.yield l) #[] #[], .pointer (some ⟨Bs, 0, none⟩), .pointer (some ⟨Bn, 0, none⟩)] W fun e W' => (∃ v, e = .returned v) ∧ J G W' ∧ W.heap.size ≤ W'.heap.size := by
  obtain ⟨Ffn, Fd, Fa, Fr⟩ := F
  obtain rfl : Fr = none := hF.round
  have hro : Fence.round { fn := Ffn, depth := Fd, alive := Fa, round := none } = none := rfl
  refine callsIn_of_wp Try.func86 rfl (hF.fn _) ?_ hF.round
  simp only [Try.ntmps86, List.size_toArray, List.length_cons, List.length_nil, Nat.reduceAdd, Nat.reduceSub, Array.replicate_succ, Array.replicate_zero, List.push_toArray, List.append_toArray, List.nil_append, List.cons_append]
  gi_wp2
  gi_loopw [4] (fun i wr => ∃ k m : Nat, k ≤ G ∧ Hid (m = 8 * k) ∧ i = .int .i64 m ∧ J k wr ∧ Kept K W wr)
    (fun i _ => len + 8 - (intOf i).toNat)
  case atStart => exact ⟨0, 0, Nat.zero_le _, rfl, rfl, h0, Kept.refl _ _⟩
  case round =>
    obtain ⟨k, m, hk, hm, rfl, hJs, hnx⟩ := hrel
    have hcs : wr.cell? ⟨Bs, 0, none⟩ = some (.slice (some ⟨b, off, none⟩) len cap) := (World.cell?_of_block (w := W) (hnx.block Bs hbs hKs)).trans hBs
    have hcn : wr.cell? ⟨Bn, 0, none⟩ = some (.int .i64 8) := (World.cell?_of_block (w := W) (hnx.block Bn hbn hKn)).trans hBn
    by_cases hlt : m < len
    · by_cases hfull : m + 8 ≤ len
      · have hcm : ¬ cap = m := by omega
        have hge : ¬ ((len - m : Nat) : Int) < 8 := by omega
        have hkG : k < G := by have := hm.out; have := hG.out; omega
        have hgr : groupAt b off len k = .slice (some ⟨b, off + m, none⟩) 8 8 := by
          have := hm.out
          unfold groupAt groupLen; rw [if_pos (by omega), ← this]
        obtain ⟨fn, tmps, assign, body, hy, hR⟩ := hY k k wr.drew (by rw [List.getElem?_range hkG]) (hJ k wr wr.drew none hJs ⟨rfl, rfl, rfl, Nat.le_refl _, fun _ _ _ => rfl⟩ (fun r e => by cases e)) hnx.size
        rw [hgr] at hy
        clear hgr hJs
        gi_wp2
        gi_big_region
        gi_wp2
        refine hR.mono ?_
        rintro e W3 ⟨rfl, hJ3, hk3⟩
        have hcn3 : W3.cell? ⟨Bn, 0, none⟩ = some (.int .i64 8) := (World.cell?_of_block (w := wr.drew) (hk3.block Bn (Nat.lt_of_lt_of_le hbn hnx.size) (.inl hKn))).trans hcn
        gi_wp2
        go_roundw
        case rel => exact ⟨k + 1, m + 8, by omega, by have := hm.out; show _ = _; omega, by simp, hJ3, hnx.drew.trans (hk3.mono fun _ h => .inl h)⟩
        case measure => simp [intOf]; omega
      · obtain ⟨r, rfl⟩ : ∃ r, len = m + r := ⟨len - m, by omega⟩
        have hr8 : r < 8 := by omega
        have hr0 : 0 < r := by omega
        clear hfull
        have hcm : ¬ cap = m := by omega
        have hkG : k < G := by have := hm.out; have := hG.out; omega
        have hgr : groupAt b off (m + r) k = .slice (some ⟨b, off + m, none⟩) r r := by
          have := hm.out
          unfold groupAt groupLen; rw [if_neg (by omega), ← this, Nat.add_sub_cancel_left]
        obtain ⟨fn, tmps, assign, body, hy, hR⟩ := hY k k wr.drew (by rw [List.getElem?_range hkG]) (hJ k wr wr.drew none hJs ⟨rfl, rfl, rfl, Nat.le_refl _, fun _ _ _ => rfl⟩ (fun r e => by cases e)) hnx.size
        rw [hgr] at hy
        clear hgr hJs
        gi_wp2
        gi_big_region
        gi_wp2
        refine hR.mono ?_
        rintro e W3 ⟨rfl, hJ3, hk3⟩
        have hcn3 : W3.cell? ⟨Bn, 0, none⟩ = some (.int .i64 8) := (World.cell?_of_block (w := wr.drew) (hk3.block Bn (Nat.lt_of_lt_of_le hbn hnx.size) (.inl hKn))).trans hcn
        gi_wp2
        go_roundw
        case rel => exact ⟨k + 1, m + 8, by omega, by have := hm.out; show _ = _; omega, by simp, hJ3, hnx.drew.trans (hk3.mono fun _ h => .inl h)⟩
        case measure => simp [intOf]; omega
    · have hkG : k = G := by have := hm.out; have := hG.out; omega
      clear hk hcn
      subst hkG
      gi_wp2
      go_end0
      exact ⟨⟨_, rfl⟩, hJs, hnx.size⟩

end Go.Proofs.Ytkfmgiacdlkmiaa.Dg

namespace Go.Proofs.Ytkfmgiacdlkmiaa.Dg
open Go.RowKit Go.Shelf
attribute [local go_sem] Oper.semAt_some

theorem room_none {F : Fence} (hd : F.depth = none) (k : Nat) : F.room k := fun d h => by rw [hd] at h; cases h
theorem RoundIn.depths {F : Fence} (hd : F.depth = none) {m m' : Nat} {P : Program} {l : Nat} {f : FuncId} {tmps : Array Value} {assign body : Code} {w : World} {R : Ending → World → Prop}
    (h : RoundIn F m P l f tmps assign body w R) : RoundIn F m' P l f tmps assign body w R := ⟨h.1, fun c cs _ => h.2 c cs (room_none hd _)⟩

set_option maxRecDepth 100000 in
set_option maxHeartbeats 1000000 in
theorem chunk1_nil_in (F : Fence) (n : Nat) (hF : Lets F) (l Bs Bn : Nat) (a : Option Addr) (cap : Nat) (J : Nat → World → Prop) (W : World) (hBs : W.cell? ⟨Bs, 0, none⟩ = some (.slice a 0 cap)) (h0 : J 0 W) :
    CallsIn F n Try.prog 86 #[.func (.yield l) #[] #[], .pointer (some ⟨Bs, 0, none⟩), .pointer (some ⟨Bn, 0, none⟩)] W fun e W' => (∃ v, e = .returned v) ∧ J 0 W' ∧ W.heap.size ≤ W'.heap.size := by
  have hro := hF.round
  refine callsIn_of_wp Try.func86 rfl (hF.fn _) ?_ hF.round
  simp only [Try.ntmps86, List.size_toArray, List.length_cons, List.length_nil, Nat.reduceAdd, Nat.reduceSub, Array.replicate_succ, Array.replicate_zero, List.push_toArray, List.append_toArray, List.nil_append, List.cons_append]
  gi_wp2
  gi_loopw [4] (fun i wr => i = .int .i64 0 ∧ wr = W) (fun _ _ => 0)
  case atStart => exact ⟨rfl, rfl⟩
  case round =>
    obtain ⟨rfl, rfl⟩ := hrel
    gi_wp2
    go_end0
    exact ⟨⟨_, rfl⟩, h0, Nat.le_refl _⟩

/-- The slice of a byte sequence that lies in one block that K names; or nil. -/
theorem chunk_gives (F : Fence) (n : Nat) (hF : Lets F) (hn : 1 ≤ n) (Bs Bn b off len cap : Nat) (K : Nat → Prop) (hcap : len ≤ cap) (hmax : len ≤ 140737488351232) (w : World) (hKs : K Bs) (hKn : K Bn) (hbs : Bs < w.heap.size) (hbn : Bn < w.heap.size)
    (hBs : w.cell? ⟨Bs, 0, none⟩ = some (.slice (some ⟨b, off, none⟩) len cap)) (hBn : w.cell? ⟨Bn, 0, none⟩ = some (.int .i64 8)) :
    GivesAll F n Try.prog 86 #[.pointer (some ⟨Bs, 0, none⟩), .pointer (some ⟨Bn, 0, none⟩)] (fun k : Nat => #[groupAt b off len k]) K (List.range ((len + 7) / 8)) w := by
  intro l J W hW hJ hY h0
  have := chunk1_in F n hF hn l Bs Bn b off len cap ((len + 7) / 8) K rfl hcap hmax J W hKs hKn (Nat.lt_of_lt_of_le hbs hW.size) (Nat.lt_of_lt_of_le hbn hW.size) hJ hY
    ((hW.cell (p := ⟨Bs, 0, none⟩) hbs).trans hBs) ((hW.cell (p := ⟨Bn, 0, none⟩) hbn).trans hBn) h0
  rwa [List.length_range]
theorem chunk_gives_nil (F : Fence) (n : Nat) (hF : Lets F) (Bs Bn : Nat) (a : Option Addr) (cap : Nat) (K : Nat → Prop) (w : World) (hbs : Bs < w.heap.size)
    (hBs : w.cell? ⟨Bs, 0, none⟩ = some (.slice a 0 cap)) :
    GivesAll F n Try.prog 86 #[.pointer (some ⟨Bs, 0, none⟩), .pointer (some ⟨Bn, 0, none⟩)] (fun v : Value => #[v]) K [] w := by
  intro l J W hW hJ hY h0
  exact chunk1_nil_in F n hF l Bs Bn a cap J W ((hW.cell (p := ⟨Bs, 0, none⟩) hbs).trans hBs) h0

/-- The words of a byte sequence. -/
def group (bs : List Int) (k : Nat) : List Int := (bs.drop (8 * k)).take 8
def groupsOf (bs : List Int) : List Int := (List.range ((bs.length + 7) / 8)).map fun k => wordOf (group bs k)

theorem groupsOf_at (bs : List Int) (k : Nat) (hk : k < (bs.length + 7) / 8) : (groupsOf bs)[k]? = some (wordOf (group bs k)) := by
  unfold groupsOf; rw [List.getElem?_map, List.getElem?_range hk]; rfl
theorem group_length (bs : List Int) (k : Nat) : (group bs k).length = groupLen bs.length k := by
  unfold group groupLen
  rw [List.length_take, List.length_drop]
  split <;> omega
theorem group_getD (bs : List Int) (k j : Nat) (hj : j < groupLen bs.length k) : (group bs k)[j]?.getD 0 = bs[8 * k + j]?.getD 0 := by
  unfold groupLen at hj
  unfold group
  rw [List.getElem?_take_of_lt (by split at hj <;> omega), List.getElem?_drop]
theorem group_octets {bs : List Int} (h : Octets bs) (k : Nat) : Octets (group bs k) := fun x hx => h x (List.mem_of_mem_drop (List.mem_of_mem_take hx))

set_option maxRecDepth 100000 in
set_option maxHeartbeats 4000000 in
theorem groups1_in (F : Fence) (n : Nat) (hF : Lets F) (hn : 6 ≤ n) (l Bs b off len cap : Nat) (K : Nat → Prop) (bs : List Int) (hlen : Hid (len = bs.length)) (hcap : len ≤ cap) (hmax : len ≤ 140737488351232) (hw : Octets bs)
    (J : Nat → World → Prop) (W : World) (hKb : K b) (hb : b < W.heap.size) (hJ : OwnFrom W.heap.size J)
    (hY : ∀ k x W1, (groupsOf bs)[k]? = some x → J k W1 → W.heap.size ≤ W1.heap.size → YieldAt F (n - 1) Try.prog l #[.int .u64 x] W1 fun e W2 => e = .returned (.bool true) ∧ J (k + 1) W2 ∧ Kept (fun b => K b ∨ W.heap.size ≤ b) W1 W2)
    (hBs : W.cell? ⟨Bs, 0, none⟩ = some (.slice (some ⟨b, off, none⟩) len cap)) (hc : ∀ j, j < len → W.cell? ⟨b, off + j, none⟩ = some (.int .u8 (bs[j]?.getD 0))) (h0 : J 0 W) :
    CallsIn F n Try.prog 79 #[.func (.yield l) #[] #[], .pointer (some ⟨Bs, 0, none⟩)] W fun e W' => (∃ v, e = .returned v) ∧ J ((len + 7) / 8) W' ∧ W.heap.size ≤ W'.heap.size := by
  have hro := hF.round
  have h1 : 1 ≤ n := by omega
  have hf := hF.fn 80
  have hf2 := hF.fn 81
  refine callsIn_of_wp_marks Try.func79 rfl (hF.fn _) ?_ hF.round
  simp only [Try.ntmps79, List.size_toArray, List.length_cons, List.length_nil, Nat.reduceAdd, Nat.reduceSub, Array.replicate_succ, Array.replicate_zero, List.push_toArray, List.append_toArray, List.nil_append, List.cons_append]
  have hBs' : (W.alloc (.cells #[.func (.yield l) #[] #[]] 94)).cell? ⟨Bs, 0, none⟩ = some (.slice (some ⟨b, off, none⟩) len cap) := (World.grownBy_alloc W _ none).cell hBs (by simp)
  clear hBs
  gi_wp2_with (gi_at_call 80; refine (chunk_in F (n - 1) hF _ _ _ _).mono ?_; rintro e w' ⟨rfl, rfl⟩)
  have bY := ((Boxed.new W 94 (.func (.yield l) #[] #[])).alloc (.cells #[.slice (some ⟨b, off, none⟩) len cap] 23)).alloc (.cells #[.int .i64 8] 3)
  have bS := (Boxed.new (W.alloc (.cells #[.func (.yield l) #[] #[]] 94)) 23 (.slice (some ⟨b, off, none⟩) len cap)).alloc (.cells #[.int .i64 8] 3)
  have bE := Boxed.new ((W.alloc (.cells #[.func (.yield l) #[] #[]] 94)).alloc (.cells #[.slice (some ⟨b, off, none⟩) len cap] 23)) 3 (.int .i64 8)
  simp only [World.size_alloc] at bS bE
  have hW0 : Below W.heap.size W (((W.alloc (.cells #[.func (.yield l) #[] #[]] 94)).alloc (.cells #[.slice (some ⟨b, off, none⟩) len cap] 23)).alloc (.cells #[.int .i64 8] 3)) :=
    (((Below.refl _ W).alloc (Nat.le_refl _) _).alloc (by simp) _).alloc (by simp; omega) _
  have hsz : (((W.alloc (.cells #[.func (.yield l) #[] #[]] 94)).alloc (.cells #[.slice (some ⟨b, off, none⟩) len cap] 23)).alloc (.cells #[.int .i64 8] 3)).heap.size = W.heap.size + 3 := by simp
  have hJ0 : J 0 (((W.alloc (.cells #[.func (.yield l) #[] #[]] 94)).alloc (.cells #[.slice (some ⟨b, off, none⟩) len cap] 23)).alloc (.cells #[.int .i64 8] 3)) := hJ.alloc _ (hJ.alloc _ (hJ.alloc _ h0))
  generalize hW0' : ((W.alloc (.cells #[.func (.yield l) #[] #[]] 94)).alloc (.cells #[.slice (some ⟨b, off, none⟩) len cap] 23)).alloc (.cells #[.int .i64 8] 3) = W0 at *
  clear hW0'
  have hG := chunk_gives F (n - 1) hF (by omega) (W.heap.size + 1) (W.heap.size + 1 + 1) b off len cap (fun i => K i ∨ W.heap.size ≤ i) hcap hmax W0 (.inr (by omega)) (.inr (by omega)) (by omega) (by omega) bS.cell bE.cell
  refine wpIn_rangeAll hro h1 (gf := 86) (lb := #[.pointer (some ⟨W.heap.size + 1, 0, none⟩), .pointer (some ⟨W.heap.size + 1 + 1, 0, none⟩)]) rfl (hF.fn _) (enters_of Try.func86 (by kernel_rfl) rfl) hG (fun _ => rfl)
    (fun k W' => J k W' ∧ Kept (fun i => K i ∨ W.heap.size ≤ i) W0 W') ?own ⟨hJ0, Kept.refl _ _⟩
    (fun k => { tmps := #[.func (.yield l) #[] #[], .pointer (some ⟨Bs, 0, none⟩), .pointer (some ⟨W.heap.size, 0, none⟩), groupAt b off len k, .slice (some ⟨b, off, none⟩) len cap,
      .func (.func 86) #[] #[.pointer (some ⟨W.heap.size + 1, 0, none⟩), .pointer (some ⟨W.heap.size + 1 + 1, 0, none⟩)], groupAt b off len k, undef, undef, undef, undef, undef], defers := [] }) ?assign ?body ?done
  case own =>
    rintro k A B row ⟨hj, hk⟩ hg hr
    have hs := hk.size
    refine ⟨hJ k A B row hj hg (fun r e => ⟨by have := (hr r e).1; omega, (hr r e).2⟩), ⟨hg.os.trans hk.os, hg.tape.trans hk.tape, hg.output.trans hk.output, Nat.le_trans hk.size hg.size, fun i hi hki => ?_⟩⟩
    refine (hg.block i (by omega) (fun e => ?_)).trans (hk.block i hi hki)
    have := (hr i e.symm).1
    omega
  case assign =>
    intro l2 k W' R hR
    gi_wp2
    exact hR
  case body =>
    rintro l2 k x W' hx ⟨hj, hkp⟩ hz
    have hk : k < (len + 7) / 8 := by
      have := (List.getElem?_eq_some_iff.1 hx).1
      rwa [List.length_range] at this
    obtain rfl : k = x := by rw [List.getElem?_range hk] at hx; exact Option.some.inj hx
    have hcY := (hkp.boxed bY (.inr (Nat.le_refl _))).cell
    have HC : Hid (∀ j, j < len → W'.cell? ⟨b, off + j, none⟩ = some (.int .u8 (bs[j]?.getD 0))) := fun j hj =>
      (World.cell?_of_block (w := W0) (hkp.block b (by omega) (.inl hKb))).trans ((World.cell?_of_block (w := W) (hW0.block b hb)).trans (hc j hj))
    obtain ⟨g, hg⟩ : ∃ g, g = groupLen len k := ⟨_, rfl⟩
    obtain ⟨o, ho⟩ : ∃ o, o = off + 8 * k := ⟨_, rfl⟩
    have hga : groupAt b off len k = .slice (some ⟨b, o, none⟩) g g := by rw [hg, ho]; rfl
    have hg8 : g ≤ 8 := by rw [hg]; unfold groupLen; split <;> omega
    have hgl : 8 * k + g ≤ len := by rw [hg]; unfold groupLen; split <;> omega
    have HW : ∀ V : World, (∀ a, V.cell? a = W'.cell? a) → Hid (CallsIn F (n - 1 - 1 - 1) Try.prog 81 #[.slice (some ⟨b, o, none⟩) g g] V fun e V' => e = .returned (.int .u64 (wordOf (group bs k))) ∧ V = V') := by
      intro V hV
      refine word_some_in F (n - 1 - 1 - 1) hF b o g g (group bs k) ?_ hg8 (group_octets hw k) V ?_
      · show g = _; rw [group_length, hg, hlen.out]
      · intro j hj
        rw [hV, ho, group_getD bs k j (by rw [← hlen.out, ← hg]; exact hj), Nat.add_assoc]
        exact HC.out (8 * k + j) (by omega)
    have HW1 := HW W'.drew (fun _ => rfl)
    obtain ⟨fn, tmps, assign, body, hy, hR⟩ := hY k _ W'.drew (groupsOf_at bs k (by rw [← hlen.out]; exact hk)) (hJ k W' W'.drew none hj ⟨rfl, rfl, rfl, Nat.le_refl _, fun _ _ _ => rfl⟩ (fun r e => by cases e)) (by simpa using by omega)
    rw [hga]
    have hmix : Try.prog.follows .mixedOrders = true := by kernel_rfl
    have h1' : 1 ≤ n - 1 - 1 := by omega
    clear hga HW hg ho hg8 hgl hx hc
    gi_wp2
    gi_region_with_o (first
      | (gi_at_call 81; refine (CallsIn.inRound l2 HW1.out).mono ?_; rintro e w' ⟨rfl, rfl⟩)
      | (refine (RoundIn.depths hF.depth hR).mono ?_; rintro e W3 ⟨rfl, hJ3, hk3⟩))
    all_goals
      gi_wp2
      have hk4 : Kept (fun i => K i ∨ W.heap.size ≤ i) W' W3 := ⟨hk3.os, hk3.tape, hk3.output, hk3.size, hk3.block⟩
      exact ⟨hk4.mono fun i h => h.elim id (fun h => .inr (by omega)), hJ3, hkp.trans hk4⟩
  case done =>
    rintro D W' hD hz ⟨hj, hkp⟩ hDx
    rw [List.length_range] at hj
    gi_wp2
    refine ⟨by simp, .inl ⟨_, _, rfl, run_takeDeferred hDx, ?_⟩⟩
    exact ⟨_, results_none rfl _ _ _, ⟨_, rfl⟩, hJ.putObj _ hj (by omega) hDx rfl, by simp; omega⟩

set_option maxRecDepth 100000 in
set_option maxHeartbeats 4000000 in
theorem groups1_nil_in (F : Fence) (n : Nat) (hF : Lets F) (hn : 6 ≤ n) (l Bs : Nat) (a : Option Addr) (cap : Nat)
    (J : Nat → World → Prop) (W : World) (hJ : OwnFrom W.heap.size J) (hBs : W.cell? ⟨Bs, 0, none⟩ = some (.slice a 0 cap)) (h0 : J 0 W) :
    CallsIn F n Try.prog 79 #[.func (.yield l) #[] #[], .pointer (some ⟨Bs, 0, none⟩)] W fun e W' => (∃ v, e = .returned v) ∧ J 0 W' ∧ W.heap.size ≤ W'.heap.size := by
  have hro := hF.round
  have h1 : 1 ≤ n := by omega
  have hf := hF.fn 80
  refine callsIn_of_wp_marks Try.func79 rfl (hF.fn _) ?_ hF.round
  simp only [Try.ntmps79, List.size_toArray, List.length_cons, List.length_nil, Nat.reduceAdd, Nat.reduceSub, Array.replicate_succ, Array.replicate_zero, List.push_toArray, List.append_toArray, List.nil_append, List.cons_append]
  have hBs' : (W.alloc (.cells #[.func (.yield l) #[] #[]] 94)).cell? ⟨Bs, 0, none⟩ = some (.slice a 0 cap) := (World.grownBy_alloc W _ none).cell hBs (by simp)
  clear hBs
  gi_wp2_with (gi_at_call 80; refine (chunk_in F (n - 1) hF _ _ _ _).mono ?_; rintro e w' ⟨rfl, rfl⟩)
  have bS := (Boxed.new (W.alloc (.cells #[.func (.yield l) #[] #[]] 94)) 23 (.slice a 0 cap)).alloc (.cells #[.int .i64 8] 3)
  simp only [World.size_alloc] at bS
  have hsz : (((W.alloc (.cells #[.func (.yield l) #[] #[]] 94)).alloc (.cells #[.slice a 0 cap] 23)).alloc (.cells #[.int .i64 8] 3)).heap.size = W.heap.size + 3 := by simp
  have hJ0 : J 0 (((W.alloc (.cells #[.func (.yield l) #[] #[]] 94)).alloc (.cells #[.slice a 0 cap] 23)).alloc (.cells #[.int .i64 8] 3)) := hJ.alloc _ (hJ.alloc _ (hJ.alloc _ h0))
  generalize hW0' : ((W.alloc (.cells #[.func (.yield l) #[] #[]] 94)).alloc (.cells #[.slice a 0 cap] 23)).alloc (.cells #[.int .i64 8] 3) = W0 at *
  clear hW0'
  have hG := chunk_gives_nil F (n - 1) hF (W.heap.size + 1) (W.heap.size + 1 + 1) a cap (fun _ => True) W0 (by omega) bS.cell
  refine wpIn_rangeAll hro h1 (gf := 86) (lb := #[.pointer (some ⟨W.heap.size + 1, 0, none⟩), .pointer (some ⟨W.heap.size + 1 + 1, 0, none⟩)]) rfl (hF.fn _) (enters_of Try.func86 (by kernel_rfl) rfl) hG (fun _ => rfl)
    J (fun k A B row hj hg hr => hJ k A B row hj hg (fun r e => ⟨by have := (hr r e).1; omega, (hr r e).2⟩)) hJ0
    (fun v => { tmps := #[.func (.yield l) #[] #[], .pointer (some ⟨Bs, 0, none⟩), .pointer (some ⟨W.heap.size, 0, none⟩), v, .slice a 0 cap,
      .func (.func 86) #[] #[.pointer (some ⟨W.heap.size + 1, 0, none⟩), .pointer (some ⟨W.heap.size + 1 + 1, 0, none⟩)], v, undef, undef, undef, undef, undef], defers := [] }) ?assign ?body ?done
  case assign =>
    intro l2 v W' R hR
    gi_wp2
    exact hR
  case body =>
    rintro l2 k x W' hx _ _
    cases hx
  case done =>
    rintro D W' hD hz hj hDx
    gi_wp2
    refine ⟨by simp, .inl ⟨_, _, rfl, run_takeDeferred hDx, ?_⟩⟩
    exact ⟨_, results_none rfl _ _ _, ⟨_, rfl⟩, hJ.putObj _ hj (by omega) hDx rfl, by simp; omega⟩

set_option maxHeartbeats 1000000 in
theorem groups_in (F : Fence) (n : Nat) (hF : Lets F) (a : Option Addr) (len cap : Nat) (w : World) :
    CallsIn F n Try.prog 62 #[.slice a len cap] w fun e w' => e = .returned (.func (.func 79) #[] #[.pointer (some ⟨w.heap.size, 0, none⟩)]) ∧ w' = w.alloc (.cells #[.slice a len cap] 23) := by
  have hro := hF.round
  refine callsIn_of_wp Try.func62 rfl (hF.fn _) ?_ hF.round
  simp only [Try.ntmps62, List.size_toArray, List.length_cons, List.length_nil, Nat.reduceAdd, Nat.reduceSub, Array.replicate_succ, Array.replicate_zero, List.push_toArray, List.append_toArray, List.nil_append, List.cons_append]
  gi_wp2
  go_ret
  exact ⟨rfl, rfl⟩

/-- A slice's length is within its capacity. -/
def Fits : Value → Prop
  | .slice _ len cap => len ≤ cap
  | _ => True

theorem groups_gives (F : Fence) (n : Nat) (hF : Lets F) (hn : 6 ≤ n) (Bs : Nat) (K : Nat → Prop) (sv : Value) (bs : List Int) (hmax : bs.length ≤ 140737488351232) (hfit : Fits sv) (hw : Octets bs) (w : World) (hbs : Bs < w.heap.size)
    (hBs : w.cell? ⟨Bs, 0, none⟩ = some sv) (hR : ReadsK K w .u8 sv bs) :
    GivesAll F n Try.prog 79 #[.pointer (some ⟨Bs, 0, none⟩)] (fun x : Int => #[Value.int .u64 x]) K (groupsOf bs) w := by
  intro l J W hW hJ hY h0
  have hBs' := (hW.cell (p := ⟨Bs, 0, none⟩) hbs).trans hBs
  rcases hR.below hW with ⟨a, cap, rfl, rfl⟩ | ⟨b, off, cap, rfl, hb, hlt, hc⟩
  · exact groups1_nil_in F n hF hn l Bs a cap J W hJ hBs' h0
  · have := groups1_in F n hF hn l Bs b off bs.length cap K bs rfl hfit hmax hw J W hb hlt hJ hY hBs' hc h0
    rwa [show (groupsOf bs).length = (bs.length + 7) / 8 by simp [groupsOf]]

theorem groupsOf_words {bs : List Int} (h : Octets bs) : Words (groupsOf bs) := by
  intro x hx
  obtain ⟨k, _, rfl⟩ := List.mem_map.1 hx
  have hr := wordOf_range _ (group_octets h k)
  have hl : (group bs k).length ≤ 8 := by rw [group_length]; unfold groupLen; split <;> omega
  have hp : (256 : Int) ^ (group bs k).length ≤ 256 ^ 8 := by
    have := Nat.pow_le_pow_right (n := 256) (by decide) hl
    have e1 : ((256 : Int) ^ (group bs k).length) = ((256 ^ (group bs k).length : Nat) : Int) := by rw [Int.natCast_pow]; rfl
    rw [e1]
    have e2 : (256 : Int) ^ 8 = ((256 ^ 8 : Nat) : Int) := by decide
    rw [e2]
    exact Int.ofNat_le.2 this
  have e8 : (256 : Int) ^ 8 = 18446744073709551616 := by decide
  omega

/-- The digest of a byte sequence. -/
def bytesD (bs : List Int) : Int := stepI ((groupsOf bs).foldl stepI 422944466291) bs.length

set_option maxRecDepth 100000 in
set_option maxHeartbeats 2000000 in
theorem bytes_in (F : Fence) (n : Nat) (hF : Lets F) (hn : 12 ≤ n) (a : Option Addr) (len cap : Nat) (bs : List Int) (hlen : len = bs.length) (hmax : bs.length ≤ 140737488351232) (hfit : len ≤ cap) (hw : Octets bs) (w : World)
    (hR : ReadsK (fun b => b < w.heap.size) w .u8 (.slice a len cap) bs) :
    CallsIn F n Try.prog 46 #[.slice a len cap] w fun e W' =>
      e = .returned (.int .u64 (bytesD bs)) ∧ Below w.heap.size w W' := by
  have hro := hF.round
  have hf := hF.fn 62
  have hf2 := hF.fn 61
  have h1 : 1 ≤ n := by omega
  have hmax' : len ≤ 140737488351232 := by omega
  have HC : Hid (CallsIn F (n - 1) Try.prog 61 #[.int .u64 422944466291, .func (.func 79) #[] #[.pointer (some ⟨w.heap.size, 0, none⟩)], .int .i64 len] (w.alloc (.cells #[.slice a len cap] 23)) fun e W' =>
      e = .returned (.int .u64 (stepI ((groupsOf bs).foldl stepI 422944466291) len)) ∧ Below (w.alloc (.cells #[.slice a len cap] 23)).heap.size (w.alloc (.cells #[.slice a len cap] 23)) W') := by
    refine counted_in F (n - 1) hF (by omega) 79 _ (enters_of Try.func79 (by kernel_rfl) rfl) 422944466291 (by omega) (groupsOf bs) (groupsOf_words hw) len hmax' _ ?_
    intro K w' hb hK
    have hB := Boxed.new w 23 (.slice a len cap)
    refine groups_gives F (n - 1 - 1 - 1) hF (by omega) w.heap.size K (.slice a len cap) bs hmax hfit hw w' (Nat.lt_of_lt_of_le hB.lt hb.size) ((hb.cell (p := ⟨w.heap.size, 0, none⟩) hB.lt).trans hB.cell) ?_
    have hbw : Below w.heap.size w w' := ((Below.refl _ w).alloc (Nat.le_refl _) _).trans (hb.mono (by simp))
    refine (hR.below hbw).mono ?_
    intro b _ hb2
    exact hK b (by simp; omega)
  have HE : Hid (stepI ((groupsOf bs).foldl stepI 422944466291) len = bytesD bs) := by subst hlen; rfl
  clear hlen hR
  refine callsIn_of_wp Try.func46 rfl (hF.fn _) ?_ hF.round
  simp only [Try.ntmps46, List.size_toArray, List.length_cons, List.length_nil, Nat.reduceAdd, Nat.reduceSub, Array.replicate_succ, Array.replicate_zero, List.push_toArray, List.append_toArray, List.nil_append, List.cons_append]
  gi_wp2_with (first
    | (gi_at_call 62; refine (groups_in F (n - 1) hF a len cap _).mono ?_; rintro e W1 ⟨rfl, rfl⟩)
    | (gi_at_call 61; refine HC.out.mono ?_; rintro e W2 ⟨rfl, hb2⟩))
  go_ret
  exact ⟨ret_int HE.out, ((Below.refl _ w).alloc (Nat.le_refl _) _).trans (hb2.mono (by simp))⟩

end Go.Proofs.Ytkfmgiacdlkmiaa.Dg

namespace Go.Proofs.Ytkfmgiacdlkmiaa.Dg
open Go.RowKit

theorem fold_inj : ∀ (ws : List Int) (a b : Int), (0 ≤ a ∧ a < 18446744073709551616) → (0 ≤ b ∧ b < 18446744073709551616) → ws.foldl stepI a = ws.foldl stepI b → a = b
  | [], _, _, _, _, h => h
  | _ :: r, _, _, ha, hb, h => stepI_left' (fold_inj r _ _ ⟨stepI_lo _ _, stepI_hi _ _⟩ ⟨stepI_lo _ _, stepI_hi _ _⟩ h) ha hb

theorem fold_set (h : Int) (ws : List Int) (hw : Words ws) (i : Nat) (hi : i < ws.length) (x : Int) (hx : 0 ≤ x ∧ x < 18446744073709551616) :
    ws.foldl stepI h = (ws.set i x).foldl stepI h ↔ ws[i]?.getD 0 = x := by
  have e1 : ws = ws.take i ++ ws[i] :: ws.drop (i + 1) := by rw [List.getElem_cons_drop, List.take_append_drop]
  have e2 : ws.set i x = ws.take i ++ x :: ws.drop (i + 1) := List.set_eq_take_append_cons_drop.trans (if_pos hi)
  have e3 : ws[i]?.getD 0 = ws[i] := by rw [List.getElem?_eq_getElem hi]; rfl
  rw [e3, e2]
  constructor
  · intro he
    have he2 : (ws.take i ++ ws[i] :: ws.drop (i + 1)).foldl stepI h = (ws.take i ++ x :: ws.drop (i + 1)).foldl stepI h := by rw [← e1]; exact he
    rw [List.foldl_append, List.foldl_append] at he2
    simp only [List.foldl_cons] at he2
    have h2 := fold_inj _ _ _ ⟨stepI_lo _ _, stepI_hi _ _⟩ ⟨stepI_lo _ _, stepI_hi _ _⟩ he2
    exact stepI_right' h2 (hw _ (List.getElem_mem hi)) hx
  · intro he
    rw [← he, ← e1]

theorem digest_set (seed : Int) (hs : 0 ≤ seed ∧ seed < 18446744073709551616) (ws : List Int) (hw : Words ws) (i : Nat) (hi : i < ws.length) (x : Int) (hx : 0 ≤ x ∧ x < 18446744073709551616) (n : Int) :
    (stepI (ws.foldl stepI seed) n == stepI ((ws.set i x).foldl stepI seed) n) = (ws[i]?.getD 0 == x) := by
  have hr1 := foldI_range seed hs ws
  have hr2 := foldI_range seed hs (ws.set i x)
  by_cases h : ws[i]?.getD 0 = x
  · rw [← (fold_set seed ws hw i hi x hx).2 h, h]; simp
  · have : ¬ stepI (ws.foldl stepI seed) n = stepI ((ws.set i x).foldl stepI seed) n := fun e => h ((fold_set seed ws hw i hi x hx).1 (stepI_left' e hr1 hr2))
    rw [beq_false_of_ne this, beq_false_of_ne h]

theorem wordOf_set : ∀ (l : List Int) (i : Nat), i < l.length → ∀ x : Int, wordOf (l.set i x) - wordOf l = (x - l[i]?.getD 0) * 256 ^ i
  | [], _, h, _ => by simp at h
  | b :: r, 0, _, x => by
    simp [wordOf]
    omega
  | b :: r, i + 1, h, x => by
    have ih := wordOf_set r i (by simpa using h) x
    simp only [List.set_cons_succ, wordOf, List.getElem?_cons_succ, Int.pow_succ]
    have e : (x - r[i]?.getD 0) * (256 ^ i * 256) = 256 * ((x - r[i]?.getD 0) * 256 ^ i) := by
      rw [← Int.mul_assoc, Int.mul_comm]
    rw [e, ← ih]
    omega

theorem wordOf_set_eq (l : List Int) (i : Nat) (hi : i < l.length) (x : Int) : wordOf l = wordOf (l.set i x) ↔ l[i]?.getD 0 = x := by
  have h := wordOf_set l i hi x
  have hp : (256 : Int) ^ i ≠ 0 := by
    have : (0 : Int) < 256 ^ i := Int.pow_pos (by decide)
    omega
  constructor
  · intro e
    rw [← e, Int.sub_self] at h
    rcases Int.mul_eq_zero.1 h.symm with h0 | h0
    · omega
    · exact absurd h0 hp
  · intro e
    rw [e, Int.sub_self, Int.zero_mul] at h
    omega

theorem group_set_same (bs : List Int) (i : Nat) (x : Int) : group (bs.set i x) (i / 8) = (group bs (i / 8)).set (i % 8) x := by
  unfold group
  rw [List.drop_set, if_neg (by omega), List.take_set]
  congr 1
  omega

theorem group_set_other (bs : List Int) (i k : Nat) (x : Int) (h : k ≠ i / 8) : group (bs.set i x) k = group bs k := by
  unfold group
  rw [List.drop_set]
  split
  · rfl
  · rw [List.take_set, List.set_eq_of_length_le (by simp; omega)]

theorem groups_set (bs : List Int) (i : Nat) (hi : i < bs.length) (x : Int) : groupsOf (bs.set i x) = (groupsOf bs).set (i / 8) (wordOf ((group bs (i / 8)).set (i % 8) x)) := by
  apply List.ext_getElem?
  intro k
  unfold groupsOf
  rw [List.length_set, List.getElem?_map, List.getElem?_set]
  by_cases hk : k < (bs.length + 7) / 8
  · rw [List.getElem?_range hk]
    split
    · next h =>
      subst h
      rw [if_pos (by simp; omega), Option.map_some, group_set_same]
    · next h =>
      rw [List.getElem?_map, List.getElem?_range hk, Option.map_some, Option.map_some, group_set_other bs i k x (fun e => h e.symm)]
  · rw [List.getElem?_eq_none (by simp; omega)]
    split
    · next h => subst h; omega
    · rw [List.getElem?_map, List.getElem?_eq_none (by simp; omega)]; rfl

theorem bytes_one (bs : List Int) (hb : Octets bs) (i : Nat) (hi : i < bs.length) (x : Int) (hx : 0 ≤ x ∧ x < 256) : (bytesD bs == bytesD (bs.set i x)) = (bs[i]?.getD 0 == x) := by
  unfold bytesD
  have hg : i / 8 < (groupsOf bs).length := by simp [groupsOf]; omega
  have hlen : (group bs (i / 8)).length = groupLen bs.length (i / 8) := group_length bs (i / 8)
  have hl8 : i % 8 < groupLen bs.length (i / 8) := by unfold groupLen; split <;> omega
  have hoct : Octets (bs.set i x) := fun y hy => by
    rcases List.mem_or_eq_of_mem_set hy with h | h
    · exact hb y h
    · rw [h]; exact hx
  have hww : 0 ≤ wordOf ((group bs (i / 8)).set (i % 8) x) ∧ wordOf ((group bs (i / 8)).set (i % 8) x) < 18446744073709551616 := by
    have := groupsOf_words hoct
    rw [groups_set bs i hi x] at this
    exact this _ (List.mem_set hg _)
  rw [groups_set bs i hi x, List.length_set, digest_set _ (by omega) (groupsOf bs) (groupsOf_words hb) (i / 8) hg _ hww, groupsOf_at bs (i / 8) (by simpa [groupsOf] using hg)]
  have hq := wordOf_set_eq (group bs (i / 8)) (i % 8) (by omega) x
  have hgd : (group bs (i / 8))[i % 8]?.getD 0 = bs[i]?.getD 0 := by rw [group_getD bs (i / 8) (i % 8) hl8, show 8 * (i / 8) + i % 8 = i by omega]
  rw [hgd] at hq
  show (wordOf (group bs (i / 8)) == _) = _
  by_cases h : bs[i]?.getD 0 = x
  · rw [← hq.2 h, h]; simp
  · rw [beq_false_of_ne h, beq_false_of_ne (fun e => h (hq.1 e))]


theorem bytes_any (a : Option Addr) (len cap : Nat) (zs : List Int) (hlen : len = zs.length) (hmax : zs.length ≤ 140737488351232) (hfit : len ≤ cap) (hw : Octets zs) (w : World) (hR : ReadsK (fun b => b < w.heap.size) w .u8 (.slice a len cap) zs) :
    Calls Try.prog 46 #[.slice a len cap] w fun e W' => e = .returned (.int .u64 (bytesD zs)) ∧ Below w.heap.size w W' :=
  (callsIn_wide (n := 20)).1 (bytes_in Fence.wide 20 lets_wide (by decide) a len cap zs hlen hmax hfit hw w hR)

end Go.Proofs.Ytkfmgiacdlkmiaa.Dg
