/-
  The iterators over a list of numbers and over a list of digests yield each element, as a word, in order.
-/
import Derived.Test.YtjlihkllgajkkaaDigTake
import Derived.Test.YtjlihkllgajkkaaRangeAll
namespace Go.Proofs.Ytjlihkllgajkkaa
open Go.RowKit Go.Shelf
attribute [local go_sem] Oper.semAt_some

/-- The slice value sv reads as the integers zs of kind k, in one block that K names; or it is empty, wherever it points. -/
def ReadsK (K : Nat → Prop) (W : World) (k : IntKind) (sv : Value) (zs : List Int) : Prop :=
  (∃ a cap, sv = .slice a 0 cap ∧ zs = []) ∨ ∃ b off cap, sv = .slice (some ⟨b, off, none⟩) zs.length cap ∧ K b ∧ b < W.heap.size ∧ ∀ j, j < zs.length → W.cell? ⟨b, off + j, none⟩ = some (.int k (zs[j]?.getD 0))

theorem ReadsK.kept {K : Nat → Prop} {A B : World} {k : IntKind} {sv : Value} {zs : List Int} (h : ReadsK K A k sv zs) (hk : Kept K A B) : ReadsK K B k sv zs := by
  rcases h with h | ⟨b, off, cap, e, hb, hlt, hc⟩
  · exact .inl h
  · exact .inr ⟨b, off, cap, e, hb, Nat.lt_of_lt_of_le hlt hk.size, fun j hj => (World.cell?_of_block (w := A) (hk.block b hlt hb)).trans (hc j hj)⟩
theorem ReadsK.below {K : Nat → Prop} {A B : World} {k : IntKind} {sv : Value} {zs : List Int} (h : ReadsK K A k sv zs) (hk : Below A.heap.size A B) : ReadsK K B k sv zs := by
  rcases h with h | ⟨b, off, cap, e, hb, hlt, hc⟩
  · exact .inl h
  · exact .inr ⟨b, off, cap, e, hb, Nat.lt_of_lt_of_le hlt hk.size, fun j hj => (World.cell?_of_block (w := A) (hk.block b hlt)).trans (hc j hj)⟩
theorem ReadsK.mono {K K' : Nat → Prop} {A : World} {k : IntKind} {sv : Value} {zs : List Int} (h : ReadsK K A k sv zs) (hk : ∀ b, b < A.heap.size → K b → K' b) : ReadsK K' A k sv zs := by
  rcases h with h | ⟨b, off, cap, e, hb, hlt, hc⟩
  · exact .inl h
  · exact .inr ⟨b, off, cap, e, hk b hlt hb, hlt, hc⟩

def asWords (zs : List Int) : List Int := zs.map IntKind.u64.wrap

set_option maxRecDepth 100000 in
set_option maxHeartbeats 2000000 in
theorem numbers1_in (F : Fence) (n : Nat) (hF : Lets F) (hn : 1 ≤ n) (l Bs b off len cap : Nat) (K : Nat → Prop) (zs : List Int) (hlen : Hid (len = zs.length)) (hmax : len ≤ 140737488351232)
    (J : Nat → World → Prop) (W : World) (hKb : K b) (hb : b < W.heap.size)
    (hY : ∀ k x W1, (asWords zs)[k]? = some x → J k W1 → W.heap.size ≤ W1.heap.size → YieldAt F (n - 1) Try.prog l #[.int .u64 x] W1 fun e W2 => e = .returned (.bool true) ∧ J (k + 1) W2 ∧ Kept (fun b => K b ∨ W.heap.size ≤ b) W1 W2)
    (hBs : W.cell? ⟨Bs, 0, none⟩ = some (.slice (some ⟨b, off, none⟩) len cap)) (hc : ∀ j, j < len → W.cell? ⟨b, off + j, none⟩ = some (.int .i64 (zs[j]?.getD 0))) (h0 : J 0 W) :
    CallsIn F n Try.prog 31 #[.func (.yield l) #[] #[], .pointer (some ⟨Bs, 0, none⟩)] W fun e W' => (∃ v, e = .returned v) ∧ J len W' ∧ W.heap.size ≤ W'.heap.size := by
  have hro := hF.round
  refine callsIn_of_wp Try.func31 rfl (hF.fn _) ?_ hF.round
  simp only [Try.ntmps31, List.size_toArray, List.length_cons, List.length_nil, Nat.reduceAdd, Nat.reduceSub, Array.replicate_succ, Array.replicate_zero, List.push_toArray, List.append_toArray, List.nil_append, List.cons_append]
  gi_wp2
  gi_loopw [7] (fun i wr => ∃ k : Nat, k ≤ len ∧ i = .int .i64 k ∧ J k wr ∧ Kept K W wr)
    (fun i _ => len - (intOf i).toNat)
  case atStart => exact ⟨0, Nat.zero_le _, rfl, h0, Kept.refl _ _⟩
  case round =>
    obtain ⟨k, hk, rfl, hJs, hnx⟩ := hrel
    have hcx : k < len → wr.cell? ⟨b, off + k, none⟩ = some (.int .i64 (zs[k]?.getD 0)) := fun h => (World.cell?_of_block (w := W) (hnx.block b hb hKb)).trans (hc k h)
    by_cases hlt : k < len
    · have hxk : (asWords zs)[k]? = some (IntKind.u64.wrap (zs[k]?.getD 0)) := by
        have := hlen.out
        unfold asWords; rw [List.getElem?_map, List.getElem?_eq_getElem (by omega)]; rfl
      obtain ⟨fn, tmps, assign, body, hy, hR⟩ := hY k _ wr hxk hJs hnx.size
      have hcx' := hcx hlt
      clear hxk
      gi_wp2
      refine hR.mono ?_
      rintro e W3 ⟨rfl, hJ3, hk3⟩
      gi_wp2
      go_roundw
      case rel => exact ⟨k + 1, by omega, by simp, hJ3, hnx.trans (hk3.mono fun _ h => .inl h)⟩
      case measure => simp [intOf]; omega
    · obtain rfl : k = len := by omega
      gi_wp2
      go_end0
      exact ⟨⟨_, rfl⟩, hJs, hnx.size⟩

set_option maxRecDepth 100000 in
set_option maxHeartbeats 1000000 in
theorem numbers1_nil_in (F : Fence) (n : Nat) (hF : Lets F) (l Bs : Nat) (a : Option Addr) (cap : Nat) (J : Nat → World → Prop) (W : World) (hBs : W.cell? ⟨Bs, 0, none⟩ = some (.slice a 0 cap)) (h0 : J 0 W) :
    CallsIn F n Try.prog 31 #[.func (.yield l) #[] #[], .pointer (some ⟨Bs, 0, none⟩)] W fun e W' => (∃ v, e = .returned v) ∧ J 0 W' ∧ W.heap.size ≤ W'.heap.size := by
  have hro := hF.round
  refine callsIn_of_wp Try.func31 rfl (hF.fn _) ?_ hF.round
  simp only [Try.ntmps31, List.size_toArray, List.length_cons, List.length_nil, Nat.reduceAdd, Nat.reduceSub, Array.replicate_succ, Array.replicate_zero, List.push_toArray, List.append_toArray, List.nil_append, List.cons_append]
  gi_wp2
  gi_loopw [7] (fun i wr => i = .int .i64 0 ∧ J 0 wr ∧ W.heap.size ≤ wr.heap.size) (fun _ _ => 0)
  case atStart => exact ⟨rfl, h0, Nat.le_refl _⟩
  case round =>
    obtain ⟨rfl, hJs, hz⟩ := hrel
    gi_wp2
    go_end0
    exact ⟨⟨_, rfl⟩, hJs, hz⟩

set_option maxHeartbeats 1000000 in
theorem numbers_in (F : Fence) (n : Nat) (hF : Lets F) (a : Option Addr) (len cap : Nat) (w : World) :
    CallsIn F n Try.prog 26 #[.slice a len cap] w fun e w' => e = .returned (.func (.func 31) #[] #[.pointer (some ⟨w.heap.size, 0, none⟩)]) ∧ w' = w.alloc (.cells #[.slice a len cap] 22) := by
  have hro := hF.round
  refine callsIn_of_wp Try.func26 rfl (hF.fn _) ?_ hF.round
  simp only [Try.ntmps26, List.size_toArray, List.length_cons, List.length_nil, Nat.reduceAdd, Nat.reduceSub, Array.replicate_succ, Array.replicate_zero, List.push_toArray, List.append_toArray, List.nil_append, List.cons_append]
  gi_wp2
  go_ret
  exact ⟨rfl, rfl⟩

theorem numbers_gives (F : Fence) (n : Nat) (hF : Lets F) (hn : 1 ≤ n) (Bs : Nat) (K : Nat → Prop) (sv : Value) (zs : List Int) (hmax : zs.length ≤ 140737488351232) (w : World) (hbs : Bs < w.heap.size)
    (hBs : w.cell? ⟨Bs, 0, none⟩ = some sv) (hR : ReadsK K w .i64 sv zs) :
    GivesAll F n Try.prog 31 #[.pointer (some ⟨Bs, 0, none⟩)] (fun x : Int => #[Value.int .u64 x]) K (asWords zs) w := by
  intro l J W hW _ hY h0
  have hBs' := (hW.cell (p := ⟨Bs, 0, none⟩) hbs).trans hBs
  rcases hR.below hW with ⟨a, cap, rfl, rfl⟩ | ⟨b, off, cap, rfl, hb, hlt, hc⟩
  · exact numbers1_nil_in F n hF l Bs a cap J W hBs' h0
  · have := numbers1_in F n hF hn l Bs b off zs.length cap K zs rfl hmax J W hb hlt hY hBs' hc h0
    rwa [show (asWords zs).length = zs.length by simp [asWords]]

set_option maxRecDepth 100000 in
set_option maxHeartbeats 2000000 in
theorem values1_in (F : Fence) (n : Nat) (hF : Lets F) (hn : 1 ≤ n) (l Bs b off len cap : Nat) (K : Nat → Prop) (zs : List Int) (hlen : Hid (len = zs.length)) (hmax : len ≤ 140737488351232)
    (J : Nat → World → Prop) (W : World) (hKb : K b) (hb : b < W.heap.size)
    (hY : ∀ k x W1, (zs)[k]? = some x → J k W1 → W.heap.size ≤ W1.heap.size → YieldAt F (n - 1) Try.prog l #[.int .u64 x] W1 fun e W2 => e = .returned (.bool true) ∧ J (k + 1) W2 ∧ Kept (fun b => K b ∨ W.heap.size ≤ b) W1 W2)
    (hBs : W.cell? ⟨Bs, 0, none⟩ = some (.slice (some ⟨b, off, none⟩) len cap)) (hc : ∀ j, j < len → W.cell? ⟨b, off + j, none⟩ = some (.int .u64 (zs[j]?.getD 0))) (h0 : J 0 W) :
    CallsIn F n Try.prog 30 #[.func (.yield l) #[] #[], .pointer (some ⟨Bs, 0, none⟩)] W fun e W' => (∃ v, e = .returned v) ∧ J len W' ∧ W.heap.size ≤ W'.heap.size := by
  have hro := hF.round
  refine callsIn_of_wp Try.func30 rfl (hF.fn _) ?_ hF.round
  simp only [Try.ntmps30, List.size_toArray, List.length_cons, List.length_nil, Nat.reduceAdd, Nat.reduceSub, Array.replicate_succ, Array.replicate_zero, List.push_toArray, List.append_toArray, List.nil_append, List.cons_append]
  gi_wp2
  gi_loopw [7] (fun i wr => ∃ k : Nat, k ≤ len ∧ i = .int .i64 k ∧ J k wr ∧ Kept K W wr)
    (fun i _ => len - (intOf i).toNat)
  case atStart => exact ⟨0, Nat.zero_le _, rfl, h0, Kept.refl _ _⟩
  case round =>
    obtain ⟨k, hk, rfl, hJs, hnx⟩ := hrel
    have hcx : k < len → wr.cell? ⟨b, off + k, none⟩ = some (.int .u64 (zs[k]?.getD 0)) := fun h => (World.cell?_of_block (w := W) (hnx.block b hb hKb)).trans (hc k h)
    by_cases hlt : k < len
    · have hxk : (zs)[k]? = some (zs[k]?.getD 0) := by
        have := hlen.out
        rw [List.getElem?_eq_getElem (by omega)]; rfl
      obtain ⟨fn, tmps, assign, body, hy, hR⟩ := hY k _ wr hxk hJs hnx.size
      have hcx' := hcx hlt
      clear hxk
      gi_wp2
      refine hR.mono ?_
      rintro e W3 ⟨rfl, hJ3, hk3⟩
      gi_wp2
      go_roundw
      case rel => exact ⟨k + 1, by omega, by simp, hJ3, hnx.trans (hk3.mono fun _ h => .inl h)⟩
      case measure => simp [intOf]; omega
    · obtain rfl : k = len := by omega
      gi_wp2
      go_end0
      exact ⟨⟨_, rfl⟩, hJs, hnx.size⟩

set_option maxRecDepth 100000 in
set_option maxHeartbeats 1000000 in
theorem values1_nil_in (F : Fence) (n : Nat) (hF : Lets F) (l Bs : Nat) (a : Option Addr) (cap : Nat) (J : Nat → World → Prop) (W : World) (hBs : W.cell? ⟨Bs, 0, none⟩ = some (.slice a 0 cap)) (h0 : J 0 W) :
    CallsIn F n Try.prog 30 #[.func (.yield l) #[] #[], .pointer (some ⟨Bs, 0, none⟩)] W fun e W' => (∃ v, e = .returned v) ∧ J 0 W' ∧ W.heap.size ≤ W'.heap.size := by
  have hro := hF.round
  refine callsIn_of_wp Try.func30 rfl (hF.fn _) ?_ hF.round
  simp only [Try.ntmps30, List.size_toArray, List.length_cons, List.length_nil, Nat.reduceAdd, Nat.reduceSub, Array.replicate_succ, Array.replicate_zero, List.push_toArray, List.append_toArray, List.nil_append, List.cons_append]
  gi_wp2
  gi_loopw [7] (fun i wr => i = .int .i64 0 ∧ J 0 wr ∧ W.heap.size ≤ wr.heap.size) (fun _ _ => 0)
  case atStart => exact ⟨rfl, h0, Nat.le_refl _⟩
  case round =>
    obtain ⟨rfl, hJs, hz⟩ := hrel
    gi_wp2
    go_end0
    exact ⟨⟨_, rfl⟩, hJs, hz⟩

set_option maxHeartbeats 1000000 in
theorem values_in (F : Fence) (n : Nat) (hF : Lets F) (a : Option Addr) (len cap : Nat) (w : World) :
    CallsIn F n Try.prog 24 #[.slice a len cap] w fun e w' => e = .returned (.func (.func 30) #[] #[.pointer (some ⟨w.heap.size, 0, none⟩)]) ∧ w' = w.alloc (.cells #[.slice a len cap] 27) := by
  have hro := hF.round
  refine callsIn_of_wp Try.func24 rfl (hF.fn _) ?_ hF.round
  simp only [Try.ntmps24, List.size_toArray, List.length_cons, List.length_nil, Nat.reduceAdd, Nat.reduceSub, Array.replicate_succ, Array.replicate_zero, List.push_toArray, List.append_toArray, List.nil_append, List.cons_append]
  gi_wp2
  go_ret
  exact ⟨rfl, rfl⟩

theorem values_gives (F : Fence) (n : Nat) (hF : Lets F) (hn : 1 ≤ n) (Bs : Nat) (K : Nat → Prop) (sv : Value) (zs : List Int) (hmax : zs.length ≤ 140737488351232) (w : World) (hbs : Bs < w.heap.size)
    (hBs : w.cell? ⟨Bs, 0, none⟩ = some sv) (hR : ReadsK K w .u64 sv zs) :
    GivesAll F n Try.prog 30 #[.pointer (some ⟨Bs, 0, none⟩)] (fun x : Int => #[Value.int .u64 x]) K (zs) w := by
  intro l J W hW _ hY h0
  have hBs' := (hW.cell (p := ⟨Bs, 0, none⟩) hbs).trans hBs
  rcases hR.below hW with ⟨a, cap, rfl, rfl⟩ | ⟨b, off, cap, rfl, hb, hlt, hc⟩
  · exact values1_nil_in F n hF l Bs a cap J W hBs' h0
  · have := values1_in F n hF hn l Bs b off zs.length cap K zs rfl hmax J W hb hlt hY hBs' hc h0
    exact this

end Go.Proofs.Ytjlihkllgajkkaa
