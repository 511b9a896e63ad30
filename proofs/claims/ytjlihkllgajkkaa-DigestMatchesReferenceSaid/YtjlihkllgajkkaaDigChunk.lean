/-
  The library's iterator over the groups of a byte sequence, as it is called here: with groups of eight bytes.
-/
import Derived.Test.YtjlihkllgajkkaaDigWord
import Derived.BigRegionIn
namespace Go.Proofs.Ytjlihkllgajkkaa
open Go.RowKit Go.Shelf
attribute [local go_sem] Oper.semAt_some

set_option maxHeartbeats 1000000 in
theorem chunk_in (F : Fence) (n : Nat) (hF : Lets F) (a : Option Addr) (len cap : Nat) (w : World) :
    CallsIn F n Try.prog 33 #[.slice a len cap, .int .i64 8] w fun e w' => e = .returned (.func (.func 35) #[] #[.pointer (some ⟨w.heap.size, 0, none⟩), .pointer (some ⟨w.heap.size + 1, 0, none⟩)]) ∧
      w' = (w.alloc (.cells #[.slice a len cap] 23)).alloc (.cells #[.int .i64 8] 3) := by
  have hro := hF.round
  refine callsIn_of_wp Try.func33 rfl (hF.fn _) ?_ hF.round
  simp only [Try.ntmps33, List.size_toArray, List.length_cons, List.length_nil, Nat.reduceAdd, Nat.reduceSub, Array.replicate_succ, Array.replicate_zero, List.push_toArray, List.append_toArray, List.nil_append, List.cons_append]
  gi_wp2
  go_ret
  exact ⟨rfl, rfl⟩

/-- The group number k, as a slice of the bytes. -/
def groupLen (len k : Nat) : Nat := if 8 ≤ len - 8 * k then 8 else len - 8 * k
def groupAt (b off len k : Nat) : Value := .slice (some ⟨b, off + 8 * k, none⟩) (groupLen len k) (groupLen len k)

set_option maxRecDepth 100000 in
set_option maxHeartbeats 4000000 in
theorem chunk1_in (F : Fence) (n : Nat) (hF : Lets F) (hn : 1 ≤ n) (l Bs Bn b off len cap G : Nat) (K : Nat → Prop) (hG : Hid (G = (len + 7) / 8)) (hcap : len ≤ cap) (hmax : len ≤ 140737488351232)
    (J : Nat → World → Prop) (W : World) (hKs : K Bs) (hKn : K Bn) (hbs : Bs < W.heap.size) (hbn : Bn < W.heap.size) (hJ : OwnFrom W.heap.size J)
    (hY : ∀ k x W1, (List.range G)[k]? = some x → J k W1 → W.heap.size ≤ W1.heap.size → YieldAt F (n - 1) Try.prog l #[groupAt b off len x] W1 fun e W2 => e = .returned (.bool true) ∧ J (k + 1) W2 ∧ Kept (fun b => K b ∨ W.heap.size ≤ b) W1 W2)
    (hBs : W.cell? ⟨Bs, 0, none⟩ = some (.slice (some ⟨b, off, none⟩) len cap)) (hBn : W.cell? ⟨Bn, 0, none⟩ = some (.int .i64 8)) (h0 : J 0 W) :
    CallsIn F n Try.prog 35 #[.func (.yield l) #[] #[], .pointer (some ⟨Bs, 0, none⟩), .pointer (some ⟨Bn, 0, none⟩)] W fun e W' => (∃ v, e = .returned v) ∧ J G W' ∧ W.heap.size ≤ W'.heap.size := by
  obtain ⟨Ffn, Fd, Fa, Fr⟩ := F
  obtain rfl : Fr = none := hF.round
  have hro : Fence.round { fn := Ffn, depth := Fd, alive := Fa, round := none } = none := rfl
  refine callsIn_of_wp Try.func35 rfl (hF.fn _) ?_ hF.round
  simp only [Try.ntmps35, List.size_toArray, List.length_cons, List.length_nil, Nat.reduceAdd, Nat.reduceSub, Array.replicate_succ, Array.replicate_zero, List.push_toArray, List.append_toArray, List.nil_append, List.cons_append]
  gi_wp2
  gi_loopw [4] (fun i wr => ∃ k m : Nat, k ≤ G ∧ Hid (m = 8 * k) ∧ i = .int .i64 m ∧ J k wr ∧ Kept K W wr)
    (fun i _ => len + 8 - (intOf i).toNat)
  case atStart => exact ⟨0, 0, Nat.zero_le _, rfl, rfl, h0, Kept.refl _ _⟩
  case round =>
    obtain ⟨k, m, hk, hm, rfl, hJs, hnx⟩ := hrel
    have hcs : wr.cell? ⟨Bs, 0, none⟩ = some (.slice (some ⟨b, off, none⟩) len cap) := (World.cell?_of_block (w := W) (hnx.block Bs hbs hKs)).trans hBs
    have hcn : wr.cell? ⟨Bn, 0, none⟩ = some (.int .i64 8) := (World.cell?_of_block (w := W) (hnx.block Bn hbn hKn)).trans hBn
    by_cases hlt : m < len
    · by_cases hfull : m + 8 ≤ len
      · have hcm : ¬ cap = m := by omega
        have hge : ¬ ((len - m : Nat) : Int) < 8 := by omega
        have hkG : k < G := by have := hm.out; have := hG.out; omega
        have hgr : groupAt b off len k = .slice (some ⟨b, off + m, none⟩) 8 8 := by
          have := hm.out
          unfold groupAt groupLen; rw [if_pos (by omega), ← this]
        obtain ⟨fn, tmps, assign, body, hy, hR⟩ := hY k k wr.drew (by rw [List.getElem?_range hkG]) (hJ k wr wr.drew none hJs ⟨rfl, rfl, rfl, Nat.le_refl _, fun _ _ _ => rfl⟩ (fun r e => by cases e)) hnx.size
        rw [hgr] at hy
        clear hgr hJs
        gi_wp2
        gi_big_region
        gi_wp2
        refine hR.mono ?_
        rintro e W3 ⟨rfl, hJ3, hk3⟩
        have hcn3 : W3.cell? ⟨Bn, 0, none⟩ = some (.int .i64 8) := (World.cell?_of_block (w := wr.drew) (hk3.block Bn (Nat.lt_of_lt_of_le hbn hnx.size) (.inl hKn))).trans hcn
        gi_wp2
        go_roundw
        case rel => exact ⟨k + 1, m + 8, by omega, by have := hm.out; show _ = _; omega, by simp, hJ3, hnx.drew.trans (hk3.mono fun _ h => .inl h)⟩
        case measure => simp [intOf]; omega
      · obtain ⟨r, rfl⟩ : ∃ r, len = m + r := ⟨len - m, by omega⟩
        have hr8 : r < 8 := by omega
        have hr0 : 0 < r := by omega
        clear hfull
        have hcm : ¬ cap = m := by omega
        have hkG : k < G := by have := hm.out; have := hG.out; omega
        have hgr : groupAt b off (m + r) k = .slice (some ⟨b, off + m, none⟩) r r := by
          have := hm.out
          unfold groupAt groupLen; rw [if_neg (by omega), ← this, Nat.add_sub_cancel_left]
        obtain ⟨fn, tmps, assign, body, hy, hR⟩ := hY k k wr.drew (by rw [List.getElem?_range hkG]) (hJ k wr wr.drew none hJs ⟨rfl, rfl, rfl, Nat.le_refl _, fun _ _ _ => rfl⟩ (fun r e => by cases e)) hnx.size
        rw [hgr] at hy
        clear hgr hJs
        gi_wp2
        gi_big_region
        gi_wp2
        refine hR.mono ?_
        rintro e W3 ⟨rfl, hJ3, hk3⟩
        have hcn3 : W3.cell? ⟨Bn, 0, none⟩ = some (.int .i64 8) := (World.cell?_of_block (w := wr.drew) (hk3.block Bn (Nat.lt_of_lt_of_le hbn hnx.size) (.inl hKn))).trans hcn
        gi_wp2
        go_roundw
        case rel => exact ⟨k + 1, m + 8, by omega, by have := hm.out; show _ = _; omega, by simp, hJ3, hnx.drew.trans (hk3.mono fun _ h => .inl h)⟩
        case measure => simp [intOf]; omega
    · have hkG : k = G := by have := hm.out; have := hG.out; omega
      clear hk hcn
      subst hkG
      gi_wp2
      go_end0
      exact ⟨⟨_, rfl⟩, hJs, hnx.size⟩

end Go.Proofs.Ytjlihkllgajkkaa
