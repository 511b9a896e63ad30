/-
  The contracts without a fence; the fixed examples that each law begins with.
-/
import Derived.Test.YtjlihkllgajkkaaDigRefBytes
namespace Go.Proofs.Ytjlihkllgajkkaa
open Go.RowKit Go.Shelf

theorem join_any (a b : Int) (ha : 0 ≤ a ∧ a < 18446744073709551616) (hb : 0 ≤ b ∧ b < 18446744073709551616) (w : World) :
    Calls Try.prog 14 #[.int .u64 a, .int .u64 b] w fun e W' => e = .returned (.int .u64 (joinD a b)) ∧ Below w.heap.size w W' :=
  (callsIn_wide (n := 20)).1 (join_in Fence.wide 20 lets_wide (by decide) a b ha hb w)
theorem words_any (a : Option Addr) (len cap : Nat) (zs : List Int) (hlen : len = zs.length) (hmax : zs.length ≤ 140737488351232) (w : World) (hR : ReadsK (fun b => b < w.heap.size) w .i64 (.slice a len cap) zs) :
    Calls Try.prog 16 #[.slice a len cap] w fun e W' => e = .returned (.int .u64 (wordsD zs)) ∧ Below w.heap.size w W' :=
  (callsIn_wide (n := 20)).1 (words_in Fence.wide 20 lets_wide (by decide) a len cap zs hlen hmax w hR)
theorem list_any (a : Option Addr) (len cap : Nat) (zs : List Int) (hlen : len = zs.length) (hmax : zs.length ≤ 140737488351232) (hw : Words zs) (w : World) (hR : ReadsK (fun b => b < w.heap.size) w .u64 (.slice a len cap) zs) :
    Calls Try.prog 10 #[.slice a len cap] w fun e W' => e = .returned (.int .u64 (listD zs)) ∧ Below w.heap.size w W' :=
  (callsIn_wide (n := 20)).1 (list_in Fence.wide 20 lets_wide (by decide) a len cap zs hlen hmax hw w hR)
theorem bytes_any (a : Option Addr) (len cap : Nat) (zs : List Int) (hlen : len = zs.length) (hmax : zs.length ≤ 140737488351232) (hfit : len ≤ cap) (hw : Octets zs) (w : World) (hR : ReadsK (fun b => b < w.heap.size) w .u8 (.slice a len cap) zs) :
    Calls Try.prog 18 #[.slice a len cap] w fun e W' => e = .returned (.int .u64 (bytesD zs)) ∧ Below w.heap.size w W' :=
  (callsIn_wide (n := 20)).1 (bytes_in Fence.wide 20 lets_wide (by decide) a len cap zs hlen hmax hfit hw w hR)
theorem rwords_any {K : Nat → Prop} (sv : Value) (zs : List Int) (hmax : zs.length ≤ 140737488351232) (W : World) (hR : ReadsK K W .i64 sv zs) :
    Calls Try.prog 17 #[sv] W fun e W' => e = .returned (.int .u64 (wordsD zs)) ∧ W = W' :=
  (callsIn_wide (n := 20)).1 (rwords_in Fence.wide 20 lets_wide (by decide) K sv zs hmax W hR)
theorem rlist_any {K : Nat → Prop} (sv : Value) (zs : List Int) (hmax : zs.length ≤ 140737488351232) (hw : Words zs) (W : World) (hR : ReadsK K W .u64 sv zs) :
    Calls Try.prog 11 #[sv] W fun e W' => e = .returned (.int .u64 (listD zs)) ∧ W = W' :=
  (callsIn_wide (n := 20)).1 (rlist_in Fence.wide 20 lets_wide (by decide) K sv zs hmax hw W hR)
theorem rbytes_any {K : Nat → Prop} (sv : Value) (zs : List Int) (hmax : zs.length ≤ 140737488351232) (hw : Octets zs) (W : World) (hR : ReadsK K W .u8 sv zs) :
    Calls Try.prog 19 #[sv] W fun e W' => e = .returned (.int .u64 (bytesD zs)) ∧ W = W' :=
  (callsIn_wide (n := 20)).1 (rbytes_in Fence.wide 20 lets_wide (by decide) K sv zs hmax hw W hR)
theorem lbucket_any (d m : Int) (hd : 0 ≤ d ∧ d < 18446744073709551616) (w : World) :
    Calls Try.prog 20 #[.int .u64 d, .int .i64 m] w fun e w' => e = .returned (.agg #[.int .i64 (bucketN d m), .int .i64 (bucketE m)]) ∧ Below w.heap.size w w' :=
  (callsIn_wide (n := 20)).1 (lbucket_in Fence.wide 20 lets_wide (by decide) d m hd w)
theorem rbucket_any (d m : Int) (hd : 0 ≤ d ∧ d < 18446744073709551616) (w : World) :
    Calls Try.prog 21 #[.int .u64 d, .int .i64 m] w fun e w' => e = .returned (.agg #[.int .i64 (bucketN d m), .int .i64 (bucketE m)]) ∧ Below w.heap.size w w' :=
  (callsIn_wide (n := 20)).1 (rbucket_in Fence.wide 20 lets_wide d m hd w)

theorem reads_nil {K : Nat → Prop} (W : World) (k : IntKind) : ReadsK K W k (.slice none 0 0) [] := .inl ⟨none, 0, rfl, rfl⟩
theorem reads_one (W : World) (k : IntKind) (x : Int) (t : TypeId) : ReadsK (fun b => b < (W.alloc (.cells #[.int k x] t)).heap.size) (W.alloc (.cells #[.int k x] t)) k (.slice (some ⟨W.heap.size, 0, none⟩) 1 1) [x] :=
  .inr ⟨W.heap.size, 0, 1, rfl, by simp, by simp, one_cell W k x t⟩

theorem reads_bytes97 (W : World) : ReadsK (fun b => b < (W.alloc (.cells #[.int .u8 97] 5 (1, 2))).heap.size) (W.alloc (.cells #[.int .u8 97] 5 (1, 2))) .u8 (.slice (some ⟨W.heap.size, 0, none⟩) 1 1) [97] := by
  refine .inr ⟨W.heap.size, 0, 1, rfl, by simp, by simp, fun j hj => ?_⟩
  obtain rfl : j = 0 := by simpa using hj
  have h0 := World.alloc_heap_new W (.cells #[.int .u8 97] 5 (1, 2))
  unfold World.cell?; rw [h0]; rfl

/-! The examples' values, under names that a walk does not look behind. -/
def exA : Int := stepI (stepI 422944466291 97) 1
def exB : Int := stepI 512970876019 0

theorem ex_words (w : World) : Calls Try.prog 16 #[.slice none 0 0] w fun e W' => e = .returned (.int .u64 exB) ∧ Below w.heap.size w W' :=
  words_any none 0 0 [] rfl (by decide) w (reads_nil _ _)
theorem ex_list0 (w : World) : Calls Try.prog 10 #[.slice none 0 0] w fun e W' => e = .returned (.int .u64 (listD [])) ∧ Below w.heap.size w W' :=
  list_any none 0 0 [] rfl (by decide) (fun x hx => by cases hx) w (reads_nil _ _)
theorem ex_list1 (w : World) : Calls Try.prog 10 #[.slice (some ⟨w.heap.size, 0, none⟩) 1 1] (w.alloc (.cells #[.int .u64 0] 24)) fun e W' => e = .returned (.int .u64 (listD [0])) ∧ Below (w.alloc (.cells #[.int .u64 0] 24)).heap.size (w.alloc (.cells #[.int .u64 0] 24)) W' :=
  list_any _ 1 1 [0] rfl (by decide) (fun x hx => by simp at hx; omega) _ (reads_one w .u64 0 _)
theorem bytes97 : bytesD [97] = exA := by decide +kernel
theorem ex_bytes (w : World) : Calls Try.prog 18 #[.slice (some ⟨w.heap.size, 0, none⟩) 1 1] (w.alloc (.cells #[.int .u8 97] 5 (1, 2))) fun e W' => e = .returned (.int .u64 exA) ∧ Below (w.alloc (.cells #[.int .u8 97] 5 (1, 2))).heap.size (w.alloc (.cells #[.int .u8 97] 5 (1, 2))) W' := by
  have := bytes_any _ 1 1 [97] rfl (by decide) (by decide) (fun x hx => by simp at hx; omega) _ (reads_bytes97 w)
  rwa [bytes97] at this
theorem ex_rbytes (w : World) : Calls Try.prog 19 #[.slice (some ⟨w.heap.size, 0, none⟩) 1 1] (w.alloc (.cells #[.int .u8 97] 5 (1, 2))) fun e W' => e = .returned (.int .u64 exA) ∧ w.alloc (.cells #[.int .u8 97] 5 (1, 2)) = W' := by
  have := rbytes_any _ [97] (by decide) (fun x hx => by simp at hx; omega) _ (reads_bytes97 w)
  rwa [bytes97] at this
theorem ex_bucket1 (w : World) : Calls Try.prog 20 #[.int .u64 8589934599, .int .i64 2] w fun e w' => e = .returned (.agg #[.int .i64 0, .int .i64 0]) ∧ Below w.heap.size w w' :=
  lbucket_any 8589934599 2 (by omega) w
theorem ex_bucket2 (w : World) : Calls Try.prog 20 #[.int .u64 4294967296, .int .i64 2] w fun e w' => e = .returned (.agg #[.int .i64 1, .int .i64 0]) ∧ Below w.heap.size w w' :=
  lbucket_any 4294967296 2 (by omega) w
theorem ex_bucket3 (w : World) : Calls Try.prog 20 #[.int .u64 5, .int .i64 0] w fun e w' => e = .returned (.agg #[.int .i64 0, .int .i64 1]) ∧ Below w.heap.size w w' :=
  lbucket_any 5 0 (by omega) w
theorem ex_join2 (w : World) : Calls Try.prog 14 #[.int .u64 1, .int .u64 2] w fun e W' => e = .returned (.int .u64 (joinD 1 2)) ∧ Below w.heap.size w W' := join_any 1 2 (by omega) (by omega) w
theorem ex_join3 (w : World) : Calls Try.prog 14 #[.int .u64 1, .int .u64 3] w fun e W' => e = .returned (.int .u64 (joinD 1 3)) ∧ Below w.heap.size w W' := join_any 1 3 (by omega) (by omega) w
theorem ex_step1 (w : World) : Calls Try.prog 12 #[.int .u64 422944466291, .int .u64 97] w fun e W' => e = .returned (.int .u64 (stepI 422944466291 97)) ∧ w = W' := step_any _ _ (by omega) (by omega) w
theorem ex_step2 (w : World) : Calls Try.prog 12 #[.int .u64 (stepI 422944466291 97), .int .u64 1] w fun e W' => e = .returned (.int .u64 exA) ∧ w = W' := step_any _ _ ⟨stepI_lo _ _, stepI_hi _ _⟩ (by omega) w
theorem ex_step3 (w : World) : Calls Try.prog 12 #[.int .u64 512970876019, .int .u64 0] w fun e W' => e = .returned (.int .u64 exB) ∧ w = W' := step_any _ _ (by omega) (by omega) w
theorem ex_rstep (w : World) : Calls Try.prog 13 #[.int .u64 512970876019, .int .u64 0] w fun e W' => e = .returned (.int .u64 exB) ∧ w = W' := rstep_any _ _ (by omega) (by omega) w

theorem ex_joins : (joinD 1 2 == joinD 1 3) = false := by decide +kernel
theorem ex_lists : (listD [] == listD [0]) = false := by decide +kernel

end Go.Proofs.Ytjlihkllgajkkaa
