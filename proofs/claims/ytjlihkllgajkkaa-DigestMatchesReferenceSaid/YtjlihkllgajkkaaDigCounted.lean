/-
  A digest that is counted: from a seed on, a step for each word that an iterator yields, and one for the count. Words, List, Join, Bucket.
-/
import Derived.Test.YtjlihkllgajkkaaDigBatch
namespace Go.Proofs.Ytjlihkllgajkkaa
open Go.RowKit Go.Shelf
attribute [local go_sem] Oper.semAt_some

theorem Below.of_kept {K : Nat → Prop} {n₀ : Nat} {A B : World} (h : Kept K A B) (hk : ∀ b, b < n₀ → K b) (hn : n₀ ≤ A.heap.size) : Below n₀ A B := h.below hk hn

theorem one_cell (W : World) (k : IntKind) (x : Int) (t : TypeId) : ∀ j, j < 1 → (W.alloc (.cells #[.int k x] t)).cell? ⟨W.heap.size, 0 + j, none⟩ = some (.int k ([x][j]?.getD 0)) := by
  intro j hj
  obtain rfl : j = 0 := by omega
  exact (Boxed.new W t (.int k x)).cell

set_option maxRecDepth 100000 in
set_option maxHeartbeats 4000000 in
theorem counted_in (F : Fence) (n : Nat) (hF : Lets F) (hn : 8 ≤ n) (gf : Nat) (lb : Array Value) (eg : ∀ args w, (callFunc gf args).run Try.prog w = .ok (.enter gf args) w)
    (h : Int) (hh : 0 ≤ h ∧ h < 18446744073709551616) (ws : List Int) (hw : Words ws) (N : Nat) (hN : N ≤ 140737488351232) (w : World)
    (hseq : ∀ K w', Below w.heap.size w w' → (∀ b, b < w.heap.size → K b) → GivesAll F (n - 1 - 1) Try.prog gf lb (fun x : Int => #[Value.int .u64 x]) K ws w') :
    CallsIn F n Try.prog 23 #[.int .u64 h, .func (.func gf) #[] lb, .int .i64 N] w fun e W' =>
      e = .returned (.int .u64 (stepI (ws.foldl stepI h) N)) ∧ Below w.heap.size w W' := by
  have hro := hF.round
  have hf := hF.fn 25
  have hf2 := hF.fn 29
  have h1 : 1 ≤ n := by omega
  have hB := Boxed.new w 50 (.int .u64 h)
  have hS : ∀ w', Below (w.alloc (.cells #[.int .u64 h] 50)).heap.size (w.alloc (.cells #[.int .u64 h] 50)) w' →
      GivesAll F (n - 1 - 1) Try.prog gf lb (fun x : Int => #[Value.int .u64 x]) (fun b => b < (w.alloc (.cells #[.int .u64 h] 50)).heap.size ∧ b ≠ w.heap.size) ws w' := by
    intro w' hb
    refine hseq _ w' (((Below.refl _ w).alloc (Nat.le_refl _) _).trans (hb.mono (by simp))) ?_
    intro b hb; simp; omega
  have hfo := foldI_range h hh ws
  have hc := batches_in F (n - 1) hF (by omega) gf lb eg w.heap.size h hh ws hw _ hB hS
  have HC := Lib.hid hc
  clear hc hS hB
  refine callsIn_of_wp Try.func23 rfl (hF.fn _) ?_ hF.round
  simp only [Try.ntmps23, List.size_toArray, List.length_cons, List.length_nil, Nat.reduceAdd, Nat.reduceSub, Array.replicate_succ, Array.replicate_zero, List.push_toArray, List.append_toArray, List.nil_append, List.cons_append]
  gi_wp2_with (first
    | (gi_at_call 29; refine HC.out.mono ?_; rintro e W1 ⟨⟨v1, rfl⟩, bB1, hk1⟩)
    | (gi_at_call 25; refine (take_some_in F (n - 1) hF (by omega) w.heap.size W1.heap.size 0 1 1 (ws.foldl stepI h) hfo [(N : Int)] rfl (by omega) (by intro x hx; simp at hx; omega) (by have := bB1.lt; omega) _ (bB1.alloc _) (by simp) (one_cell _ _ _ _)).mono ?_; rintro e W2 ⟨⟨v2, rfl⟩, bB2, hg2⟩; have cB2 := bB2.cell))
  go_ret
  refine ⟨rfl, ?_⟩
  have b1 : Below w.heap.size w (w.alloc (.cells #[.int .u64 h] 50)) := (Below.refl _ w).alloc (Nat.le_refl _) _
  have b2 := b1.trans (hk1.below (n₀ := w.heap.size) (fun k hk => ⟨by simp; omega, by omega⟩) (by simp))
  exact (b2.alloc b2.size _).grown hg2 (by have := b2.size; simp; omega) (fun k e => by cases e; exact Nat.le_refl _)

theorem asWords_words (zs : List Int) : Words (asWords zs) := by
  intro x hx
  obtain ⟨z, _, rfl⟩ := List.mem_map.1 hx
  rw [IntKind.wrap_u64]; omega

/-- The digest of a list of numbers; of digests. -/
def wordsD (zs : List Int) : Int := stepI ((asWords zs).foldl stepI 512970876019) zs.length
def listD (zs : List Int) : Int := stepI (zs.foldl stepI 1818850164) zs.length

set_option maxRecDepth 100000 in
set_option maxHeartbeats 2000000 in
theorem words_in (F : Fence) (n : Nat) (hF : Lets F) (hn : 9 ≤ n) (a : Option Addr) (len cap : Nat) (zs : List Int) (hlen : len = zs.length) (hmax : zs.length ≤ 140737488351232) (w : World)
    (hR : ReadsK (fun b => b < w.heap.size) w .i64 (.slice a len cap) zs) :
    CallsIn F n Try.prog 16 #[.slice a len cap] w fun e W' =>
      e = .returned (.int .u64 (wordsD zs)) ∧ Below w.heap.size w W' := by
  have hro := hF.round
  have hf := hF.fn 26
  have hf2 := hF.fn 23
  have h1 : 1 ≤ n := by omega
  have hmax' : len ≤ 140737488351232 := by omega
  have HC : Hid (CallsIn F (n - 1) Try.prog 23 #[.int .u64 512970876019, .func (.func 31) #[] #[.pointer (some ⟨w.heap.size, 0, none⟩)], .int .i64 len] (w.alloc (.cells #[.slice a len cap] 22)) fun e W' =>
      e = .returned (.int .u64 (stepI ((asWords zs).foldl stepI 512970876019) len)) ∧ Below (w.alloc (.cells #[.slice a len cap] 22)).heap.size (w.alloc (.cells #[.slice a len cap] 22)) W') := by
    refine counted_in F (n - 1) hF (by omega) 31 _ (enters_of Try.func31 (by kernel_rfl) rfl) 512970876019 (by omega) (asWords zs) (asWords_words zs) len hmax' _ ?_
    intro K w' hb hK
    have hB := Boxed.new w 22 (.slice a len cap)
    refine numbers_gives F (n - 1 - 1 - 1) hF (by omega) w.heap.size K (.slice a len cap) zs hmax w' (Nat.lt_of_lt_of_le hB.lt hb.size) ((hb.cell (p := ⟨w.heap.size, 0, none⟩) hB.lt).trans hB.cell) ?_
    have hbw : Below w.heap.size w w' := ((Below.refl _ w).alloc (Nat.le_refl _) _).trans (hb.mono (by simp))
    refine (hR.below hbw).mono ?_
    intro b _ hb2
    exact hK b (by simp; omega)
  have HE : Hid (stepI ((asWords zs).foldl stepI 512970876019) len = wordsD zs) := by subst hlen; rfl
  clear hlen hR
  refine callsIn_of_wp Try.func16 rfl (hF.fn _) ?_ hF.round
  simp only [Try.ntmps16, List.size_toArray, List.length_cons, List.length_nil, Nat.reduceAdd, Nat.reduceSub, Array.replicate_succ, Array.replicate_zero, List.push_toArray, List.append_toArray, List.nil_append, List.cons_append]
  gi_wp2_with (first
    | (gi_at_call 26; refine (numbers_in F (n - 1) hF a len cap _).mono ?_; rintro e W1 ⟨rfl, rfl⟩)
    | (gi_at_call 23; refine HC.out.mono ?_; rintro e W2 ⟨rfl, hb2⟩))
  go_ret
  exact ⟨ret_int HE.out, ((Below.refl _ w).alloc (Nat.le_refl _) _).trans (hb2.mono (by simp))⟩

set_option maxRecDepth 100000 in
set_option maxHeartbeats 2000000 in
theorem list_in (F : Fence) (n : Nat) (hF : Lets F) (hn : 9 ≤ n) (a : Option Addr) (len cap : Nat) (zs : List Int) (hlen : len = zs.length) (hmax : zs.length ≤ 140737488351232) (hw : Words zs) (w : World)
    (hR : ReadsK (fun b => b < w.heap.size) w .u64 (.slice a len cap) zs) :
    CallsIn F n Try.prog 10 #[.slice a len cap] w fun e W' =>
      e = .returned (.int .u64 (listD zs)) ∧ Below w.heap.size w W' := by
  have hro := hF.round
  have hf := hF.fn 24
  have hf2 := hF.fn 23
  have h1 : 1 ≤ n := by omega
  have hmax' : len ≤ 140737488351232 := by omega
  have HC : Hid (CallsIn F (n - 1) Try.prog 23 #[.int .u64 1818850164, .func (.func 30) #[] #[.pointer (some ⟨w.heap.size, 0, none⟩)], .int .i64 len] (w.alloc (.cells #[.slice a len cap] 27)) fun e W' =>
      e = .returned (.int .u64 (stepI ((zs).foldl stepI 1818850164) len)) ∧ Below (w.alloc (.cells #[.slice a len cap] 27)).heap.size (w.alloc (.cells #[.slice a len cap] 27)) W') := by
    refine counted_in F (n - 1) hF (by omega) 30 _ (enters_of Try.func30 (by kernel_rfl) rfl) 1818850164 (by omega) (zs) hw len hmax' _ ?_
    intro K w' hb hK
    have hB := Boxed.new w 27 (.slice a len cap)
    refine values_gives F (n - 1 - 1 - 1) hF (by omega) w.heap.size K (.slice a len cap) zs hmax w' (Nat.lt_of_lt_of_le hB.lt hb.size) ((hb.cell (p := ⟨w.heap.size, 0, none⟩) hB.lt).trans hB.cell) ?_
    have hbw : Below w.heap.size w w' := ((Below.refl _ w).alloc (Nat.le_refl _) _).trans (hb.mono (by simp))
    refine (hR.below hbw).mono ?_
    intro b _ hb2
    exact hK b (by simp; omega)
  have HE : Hid (stepI ((zs).foldl stepI 1818850164) len = listD zs) := by subst hlen; rfl
  clear hlen hR
  refine callsIn_of_wp Try.func10 rfl (hF.fn _) ?_ hF.round
  simp only [Try.ntmps10, List.size_toArray, List.length_cons, List.length_nil, Nat.reduceAdd, Nat.reduceSub, Array.replicate_succ, Array.replicate_zero, List.push_toArray, List.append_toArray, List.nil_append, List.cons_append]
  gi_wp2_with (first
    | (gi_at_call 24; refine (values_in F (n - 1) hF a len cap _).mono ?_; rintro e W1 ⟨rfl, rfl⟩)
    | (gi_at_call 23; refine HC.out.mono ?_; rintro e W2 ⟨rfl, hb2⟩))
  go_ret
  exact ⟨ret_int HE.out, ((Below.refl _ w).alloc (Nat.le_refl _) _).trans (hb2.mono (by simp))⟩

end Go.Proofs.Ytjlihkllgajkkaa
