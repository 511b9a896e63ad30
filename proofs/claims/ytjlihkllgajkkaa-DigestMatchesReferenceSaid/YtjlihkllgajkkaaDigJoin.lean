/-
  Contracts of Join, Bucket, and of the buckets of the law and of the reference.
-/
import Derived.Test.YtjlihkllgajkkaaDigCounted
namespace Go.Proofs.Ytjlihkllgajkkaa
open Go.RowKit Go.Shelf
attribute [local go_sem] Oper.semAt_some

theorem two_cells (W : World) (k : IntKind) (x y : Int) (t : TypeId) : ∀ j, j < 2 → (W.alloc (.cells #[.int k x, .int k y] t)).cell? ⟨W.heap.size, 0 + j, none⟩ = some (.int k ([x, y][j]?.getD 0)) := by
  intro j hj
  have h0 := World.alloc_heap_new W (.cells #[.int k x, .int k y] t)
  obtain rfl | rfl : j = 0 ∨ j = 1 := by omega
  · unfold World.cell?; rw [h0]; rfl
  · unfold World.cell?; rw [h0]; rfl

def joinD (a b : Int) : Int := stepI (stepI 1852793957 a) b

set_option maxRecDepth 100000 in
set_option maxHeartbeats 2000000 in
theorem join_in (F : Fence) (n : Nat) (hF : Lets F) (hn : 9 ≤ n) (a b : Int) (ha : 0 ≤ a ∧ a < 18446744073709551616) (hb : 0 ≤ b ∧ b < 18446744073709551616) (w : World) :
    CallsIn F n Try.prog 14 #[.int .u64 a, .int .u64 b] w fun e W' =>
      e = .returned (.int .u64 (joinD a b)) ∧ Below w.heap.size w W' := by
  have hro := hF.round
  have hf := hF.fn 25
  have h1 : 1 ≤ n := by omega
  have hB := Boxed.new w 50 (.int .u64 1852793957)
  have hW : Words [a, b] := by intro x hx; simp at hx; omega
  have HC : Hid (CallsIn F (n - 1) Try.prog 25 #[.pointer (some ⟨w.heap.size, 0, none⟩), .slice (some ⟨w.heap.size + 1, 0, none⟩) 2 2] ((w.alloc (.cells #[.int .u64 1852793957] 50)).alloc (.cells #[.int .u64 a, .int .u64 b] 24)) fun e W' =>
      (∃ v, e = .returned v) ∧ Boxed W' w.heap.size 50 (.int .u64 (joinD a b)) ∧ ((w.alloc (.cells #[.int .u64 1852793957] 50)).alloc (.cells #[.int .u64 a, .int .u64 b] 24)).grownBy W' (some w.heap.size)) := by
    have hc := two_cells (w.alloc (.cells #[.int .u64 1852793957] 50)) .u64 a b 24
    rw [World.size_alloc] at hc
    exact take_some_in F (n - 1) hF (by omega) w.heap.size (w.heap.size + 1) 0 2 2 1852793957 (by omega) [a, b] rfl (by omega) hW (by omega) _ (hB.alloc _) (by simp) hc
  clear hB hW
  refine callsIn_of_wp Try.func14 rfl (hF.fn _) ?_ hF.round
  simp only [Try.ntmps14, List.size_toArray, List.length_cons, List.length_nil, Nat.reduceAdd, Nat.reduceSub, Array.replicate_succ, Array.replicate_zero, List.push_toArray, List.append_toArray, List.nil_append, List.cons_append]
  gi_wp2_with (gi_at_call 25; refine HC.out.mono ?_; rintro e W2 ⟨⟨v2, rfl⟩, bB2, hg2⟩; have cB2 := bB2.cell)
  go_ret
  refine ⟨rfl, ?_⟩
  exact (((Below.refl _ w).alloc (Nat.le_refl _) _).alloc (by simp) _).grown hg2 (by simp; omega) (fun k e => by cases e; exact Nat.le_refl _)

theorem ret2_int {k k' : IntKind} {a b c d : Int} (h : a = b) (h' : c = d) : Ending.returned (.tuple #[.int k a, .int k' c]) = .returned (.tuple #[.int k b, .int k' d]) := by rw [h, h']

/-- Which of n buckets a digest belongs to, with the error: what Bucket and the reference say. -/
def bucketN (d n : Int) : Int := if n < 1 ∨ 1000000 < n then 0 else d / 4294967296 % n
def bucketE (n : Int) : Int := if n < 1 ∨ 1000000 < n then 1 else 0

theorem bucketN_bad {d n : Int} (h : n < 1 ∨ 1000000 < n) : bucketN d n = 0 := by unfold bucketN; rw [if_pos h]
theorem bucketE_bad {n : Int} (h : n < 1 ∨ 1000000 < n) : bucketE n = 1 := by unfold bucketE; rw [if_pos h]
theorem bucketN_good {d n : Int} (h : 1 ≤ n) (h2 : n ≤ 1000000) : bucketN d n = d / 4294967296 % n := by unfold bucketN; rw [if_neg (by omega)]
theorem bucketE_good {n : Int} (h : 1 ≤ n) (h2 : n ≤ 1000000) : bucketE n = 0 := by unfold bucketE; rw [if_neg (by omega)]

theorem bucket_range (d m : Int) (hm : 1 ≤ m) (hm2 : m ≤ 1000000) : -9223372036854775808 ≤ d / 4294967296 % m ∧ d / 4294967296 % m ≤ 9223372036854775807 := by
  have a := Int.emod_nonneg (d / 4294967296) (show m ≠ 0 by omega)
  have b := Int.emod_lt_of_pos (d / 4294967296) (show 0 < m by omega)
  omega

set_option maxHeartbeats 1000000 in
theorem bucket_in (F : Fence) (n : Nat) (hF : Lets F) (d m : Int) (hd : 0 ≤ d ∧ d < 18446744073709551616) (w : World) :
    CallsIn F n Try.prog 28 #[.int .u64 d, .int .i64 m] w fun e w' => e = .returned (.tuple #[.int .i64 (bucketN d m), .int .i64 (bucketE m)]) ∧ w = w' := by
  have hro := hF.round
  by_cases h1 : m < 1
  · have HN := Lib.hid (bucketN_bad (d := d) (n := m) (.inl h1))
    have HE := Lib.hid (bucketE_bad (n := m) (.inl h1))
    refine callsIn_of_wp Try.func28 rfl (hF.fn _) ?_ hF.round
    simp only [Try.ntmps28, List.size_toArray, List.length_cons, List.length_nil, Nat.reduceAdd, Nat.reduceSub, Array.replicate_succ, Array.replicate_zero, List.push_toArray, List.append_toArray, List.nil_append, List.cons_append]
    gi_wp2
    go_ret2
    exact ⟨ret2_int HN.out.symm HE.out.symm, rfl⟩
  · by_cases h2 : 1000000 < m
    · have HN := Lib.hid (bucketN_bad (d := d) (n := m) (.inr h2))
      have HE := Lib.hid (bucketE_bad (n := m) (.inr h2))
      refine callsIn_of_wp Try.func28 rfl (hF.fn _) ?_ hF.round
      simp only [Try.ntmps28, List.size_toArray, List.length_cons, List.length_nil, Nat.reduceAdd, Nat.reduceSub, Array.replicate_succ, Array.replicate_zero, List.push_toArray, List.append_toArray, List.nil_append, List.cons_append]
      gi_wp2
      go_ret2
      exact ⟨ret2_int HN.out.symm HE.out.symm, rfl⟩
    · have HN := Lib.hid (bucketN_good (d := d) (n := m) (by omega) (by omega))
      have HE := Lib.hid (bucketE_good (n := m) (by omega) (by omega))
      obtain ⟨hd0, hd1⟩ := hd
      have h1' : 1 ≤ m := by omega
      have h2' : m ≤ 1000000 := by omega
      clear h1 h2
      refine callsIn_of_wp Try.func28 rfl (hF.fn _) ?_ hF.round
      simp only [Try.ntmps28, List.size_toArray, List.length_cons, List.length_nil, Nat.reduceAdd, Nat.reduceSub, Array.replicate_succ, Array.replicate_zero, List.push_toArray, List.append_toArray, List.nil_append, List.cons_append]
      gi_wp2
      go_ret2
      exact ⟨ret2_int (by rw [IntWalk.wrap64_in _ (bucket_range d m h1' h2'), HN.out]) HE.out.symm, rfl⟩

theorem ret_agg2 {k k' : IntKind} {a b c d : Int} (h : a = b) (h' : c = d) : Ending.returned (.agg #[.int k a, .int k' c]) = .returned (.agg #[.int k b, .int k' d]) := by rw [h, h']

set_option maxHeartbeats 1000000 in
theorem lbucket_in (F : Fence) (n : Nat) (hF : Lets F) (hn : 2 ≤ n) (d m : Int) (hd : 0 ≤ d ∧ d < 18446744073709551616) (w : World) :
    CallsIn F n Try.prog 20 #[.int .u64 d, .int .i64 m] w fun e w' => e = .returned (.agg #[.int .i64 (bucketN d m), .int .i64 (bucketE m)]) ∧ Below w.heap.size w w' := by
  have hro := hF.round
  have hf := hF.fn 28
  have h1 : 1 ≤ n := by omega
  refine callsIn_of_wp Try.func20 rfl (hF.fn _) ?_ hF.round
  simp only [Try.ntmps20, List.size_toArray, List.length_cons, List.length_nil, Nat.reduceAdd, Nat.reduceSub, Array.replicate_succ, Array.replicate_zero, List.push_toArray, List.append_toArray, List.nil_append, List.cons_append]
  gi_wp2_with (gi_at_call 28; refine (bucket_in F (n - 1) hF d m hd _).mono ?_; rintro e w' ⟨rfl, rfl⟩)
  refine bodyPost_ret (v := .agg #[.int .i64 (bucketN d m), .int .i64 (bucketE m)]) (by simp [results, Try.results20, go_sem]) rfl ⟨rfl, (Below.refl _ _).alloc (Nat.le_refl _) _⟩

set_option maxHeartbeats 1000000 in
theorem rbucket_in (F : Fence) (n : Nat) (hF : Lets F) (d m : Int) (hd : 0 ≤ d ∧ d < 18446744073709551616) (w : World) :
    CallsIn F n Try.prog 21 #[.int .u64 d, .int .i64 m] w fun e w' => e = .returned (.agg #[.int .i64 (bucketN d m), .int .i64 (bucketE m)]) ∧ Below w.heap.size w w' := by
  have hro := hF.round
  by_cases h1 : m < 1
  · have HN := Lib.hid (bucketN_bad (d := d) (n := m) (.inl h1))
    have HE := Lib.hid (bucketE_bad (n := m) (.inl h1))
    refine callsIn_of_wp Try.func21 rfl (hF.fn _) ?_ hF.round
    simp only [Try.ntmps21, List.size_toArray, List.length_cons, List.length_nil, Nat.reduceAdd, Nat.reduceSub, Array.replicate_succ, Array.replicate_zero, List.push_toArray, List.append_toArray, List.nil_append, List.cons_append]
    gi_wp2
    exact bodyPost_ret (v := .agg #[.int .i64 0, .int .i64 1]) (by simp [results, Try.results21, go_sem]) rfl ⟨ret_agg2 HN.out.symm HE.out.symm, (Below.refl _ _).alloc (Nat.le_refl _) _⟩
  · by_cases h2 : 1000000 < m
    · have HN := Lib.hid (bucketN_bad (d := d) (n := m) (.inr h2))
      have HE := Lib.hid (bucketE_bad (n := m) (.inr h2))
      refine callsIn_of_wp Try.func21 rfl (hF.fn _) ?_ hF.round
      simp only [Try.ntmps21, List.size_toArray, List.length_cons, List.length_nil, Nat.reduceAdd, Nat.reduceSub, Array.replicate_succ, Array.replicate_zero, List.push_toArray, List.append_toArray, List.nil_append, List.cons_append]
      gi_wp2
      exact bodyPost_ret (v := .agg #[.int .i64 0, .int .i64 1]) (by simp [results, Try.results21, go_sem]) rfl ⟨ret_agg2 HN.out.symm HE.out.symm, (Below.refl _ _).alloc (Nat.le_refl _) _⟩
    · have HN := Lib.hid (bucketN_good (d := d) (n := m) (by omega) (by omega))
      have HE := Lib.hid (bucketE_good (n := m) (by omega) (by omega))
      obtain ⟨hd0, hd1⟩ := hd
      have h1' : 1 ≤ m := by omega
      have h2' : m ≤ 1000000 := by omega
      clear h1 h2
      have hdw : wrap64 (d / 4294967296) = d / 4294967296 := IntWalk.wrap64_in _ (by omega)
      refine callsIn_of_wp Try.func21 rfl (hF.fn _) ?_ hF.round
      simp only [Try.ntmps21, List.size_toArray, List.length_cons, List.length_nil, Nat.reduceAdd, Nat.reduceSub, Array.replicate_succ, Array.replicate_zero, List.push_toArray, List.append_toArray, List.nil_append, List.cons_append]
      gi_wp2
      exact bodyPost_ret (v := .agg #[.int .i64 (d / 4294967296 % m), .int .i64 0]) (by simp [results, Try.results21, go_sem]) rfl ⟨ret_agg2 HN.out.symm HE.out.symm, (Below.refl _ _).alloc (Nat.le_refl _) _⟩

end Go.Proofs.Ytjlihkllgajkkaa
