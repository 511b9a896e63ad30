/-
  The iterators over bits: of bytes, and of the differences of a list.
-/
import Derived.Test.YtkfmgiacdlkmiaaPkFrame
import Derived.Test.YtkfmgiacdlkmiaaRangeStops
namespace Go.Proofs.Ytkfmgiacdlkmiaa
open Go.RowKit Go.Shelf Go.ChangeShapes Go.WideShapes Go.ChangeAt
attribute [local go_sem] Oper.semAt_some

/-- The w lowest bits of a number, the lowest first. -/
def bitsN (w : Nat) (d : Int) : List Int := (List.range w).map fun p => d / 2 ^ p % 2
theorem bitsN_length (w : Nat) (d : Int) : (bitsN w d).length = w := by simp [bitsN]
theorem bitsN_at (w : Nat) (d : Int) (p : Nat) (hp : p < w) : (bitsN w d)[p]? = some (d / 2 ^ p % 2) := by
  unfold bitsN; rw [List.getElem?_map, List.getElem?_range hp]; rfl

/-- The bits of all numbers of a list. -/
def allBits (w : Nat) (ds : List Int) : List Int := ds.flatMap (bitsN w)
theorem allBits_length (w : Nat) (ds : List Int) : (allBits w ds).length = ds.length * w := by
  unfold allBits
  induction ds with
  | nil => simp
  | cons d r ih => rw [List.flatMap_cons, List.length_append, bitsN_length, ih, List.length_cons, Nat.succ_mul]; omega
theorem allBits_at (w : Nat) : ∀ (ds : List Int) (i p : Nat), i < ds.length → p < w → (allBits w ds)[i * w + p]? = some (ds[i]?.getD 0 / 2 ^ p % 2)
  | [], i, p, hi, _ => by simp at hi
  | d :: r, 0, p, _, hp => by
    unfold allBits
    rw [List.flatMap_cons, Nat.zero_mul, Nat.zero_add, List.getElem?_append_left (by rw [bitsN_length]; exact hp), bitsN_at w d p hp]; rfl
  | d :: r, i + 1, p, hi, hp => by
    have := allBits_at w r i p (by simp at hi; omega) hp
    unfold allBits at this ⊢
    rw [List.flatMap_cons, List.getElem?_append_right (by rw [bitsN_length, Nat.succ_mul]; omega), bitsN_length,
      show (i + 1) * w + p - w = i * w + p by rw [Nat.succ_mul]; omega, this]
    simp

theorem and1_u8 (x : Int) (p : Nat) (hx : 0 ≤ x ∧ x < 256) : bits BinOp.and IntKind.u8 (x / 2 ^ p) 1 = x / 2 ^ p % 2 := by
  have h : ∀ n : Fin 256, bits BinOp.and IntKind.u8 (n.val : Int) 1 = (n.val : Int) % 2 := by decide +kernel
  have h0 : 0 ≤ x / 2 ^ p := Int.ediv_nonneg hx.1 (Int.le_of_lt (Int.pow_pos (by decide)))
  have h1 : x / 2 ^ p ≤ x := Int.ediv_le_self _ hx.1
  generalize x / 2 ^ p = y at *
  have := h ⟨y.toNat, by omega⟩
  rw [show (((⟨y.toNat, by omega⟩ : Fin 256).val : Nat) : Int) = y by simp; omega] at this
  exact this

set_option maxRecDepth 100000 in
set_option maxHeartbeats 4000000 in
theorem bitsOf1_some (n : Nat) (hn : 1 ≤ n) (l Bs b off len cap : Nat) (K : Nat → Prop) (bs : List Int) (hlen : Hid (len = bs.length)) (hmax : len ≤ 140737488351232) (ho : Oct bs)
    (J : Nat → World → Prop) (Jx : World → Prop) (W : World) (hKb : K b) (hb : b < W.heap.size)
    (hY : Hid (∀ k x W1, (allBits 8 bs)[k]? = some x → J k W1 → W.heap.size ≤ W1.heap.size → YieldAt Fence.wide (n - 1) Try.prog l #[.int .u64 x] W1 fun e W2 =>
      (e = .returned (.bool true) ∧ J (k + 1) W2 ∧ Kept (fun b => K b ∨ W.heap.size ≤ b) W1 W2) ∨ (e = .returned (.bool false) ∧ Jx W2 ∧ W.heap.size ≤ W2.heap.size)))
    (hBs : W.cell? ⟨Bs, 0, none⟩ = some (.slice (some ⟨b, off, none⟩) len cap)) (hc : Hid (∀ j, j < len → W.cell? ⟨b, off + j, none⟩ = some (.int .u8 (bs[j]?.getD 0)))) (h0 : J 0 W) :
    CallsIn Fence.wide n Try.prog 91 #[.func (.yield l) #[] #[], .pointer (some ⟨Bs, 0, none⟩)] W fun e W' => (∃ v, e = .returned v) ∧ (J (len * 8) W' ∨ Jx W') ∧ W.heap.size ≤ W'.heap.size := by
  have hro : Fence.wide.round = none := rfl
  refine callsIn_of_wp Try.func91 rfl trivial ?_ rfl
  simp only [Try.ntmps91, List.size_toArray, List.length_cons, List.length_nil, Nat.reduceAdd, Nat.reduceSub, Array.replicate_succ, Array.replicate_zero, List.push_toArray, List.append_toArray, List.nil_append, List.cons_append]
  gi_wp2
  gi_loopw [8] (fun i wr => ∃ k : Nat, k ≤ len ∧ i = .int .i64 k ∧ Hid (J (k * 8) wr) ∧ Hid (Kept K W wr))
    (fun i _ => len - (intOf i).toNat)
  case atStart => exact ⟨0, Nat.zero_le _, rfl, by rw [Nat.zero_mul]; exact h0, Kept.refl _ _⟩
  case round =>
    obtain ⟨k, hk, rfl, hJs, hnx⟩ := hrel
    by_cases hlt : k < len
    · have hcx : wr.cell? ⟨b, off + k, none⟩ = some (.int .u8 (bs[k]?.getD 0)) := (World.cell?_of_block (w := W) (hnx.out.block b hb hKb)).trans (hc.out k hlt)
      obtain ⟨hx1, hx2⟩ := ho.getD k
      have HX : Hid (∀ p, p < 8 → (allBits 8 bs)[k * 8 + p]? = some (bs[k]?.getD 0 / 2 ^ p % 2)) := fun p hp => allBits_at 8 bs k p (by rw [← hlen.out]; exact hlt) hp
      generalize bs[k]?.getD 0 = x at *
      gi_wp2
      obtain ⟨wa, hwa⟩ : ∃ wa : World, wa = wr := ⟨_, rfl⟩
      rw [← hwa] at hJs hnx hcx ⊢
      clear hwa
      gi_loopw [12] (fun i wr => ∃ p : Nat, p ≤ 8 ∧ i = .int .i64 p ∧ Hid (J (k * 8 + p) wr) ∧ Hid (Kept K W wr)) (fun i _ => 8 - (intOf i).toNat)
      case atStart => exact ⟨0, by decide, rfl, hJs, hnx⟩
      case round =>
        obtain ⟨p, hp, rfl, hJp, hkp⟩ := hrel
        by_cases hp8 : p < 8
        · have hbit := and1_u8 x p ⟨hx1, hx2⟩
          obtain ⟨fn, tmps, assign, body, hy, hR⟩ := hY.out (k * 8 + p) _ wr (HX.out p hp8) hJp.out hkp.out.size
          have hv1 : 0 ≤ x / 2 ^ p % 2 := by omega
          have hv2 : x / 2 ^ p % 2 < 2 := by omega
          generalize x / 2 ^ p % 2 = v at *
          gi_wp2
          refine hR.mono ?_
          clear hR hy
          rintro e W3 (⟨rfl, hJ3, hk3⟩ | ⟨rfl, hJx, hz⟩)
          · have HJ3 := Lib.hid hJ3
            have HK3 : Hid (Kept K W W3) := hkp.out.trans (hk3.mono fun _ h => .inl h)
            clear hJ3 hk3
            gi_wp2
            go_roundw
            case rel => exact ⟨p + 1, by omega, by go_num, HJ3, HK3⟩
            case measure => simp [intOf]; omega
          · have HJx := Lib.hid hJx
            clear hJx
            gi_wp2
            exact bodyPost_ret (results_none rfl _ _ _) rfl ⟨⟨_, rfl⟩, .inr HJx.out, hz⟩
        · obtain rfl : p = 8 := by omega
          gi_wp2
          go_roundw
          case rel => exact ⟨k + 1, by omega, by go_num, by rw [Nat.succ_mul]; exact hJp, hkp⟩
          case measure => simp [intOf]; omega
    · obtain rfl : k = len := by omega
      gi_wp2
      go_end0
      exact ⟨⟨_, rfl⟩, .inl hJs.out, hnx.out.size⟩

set_option maxRecDepth 100000 in
set_option maxHeartbeats 1000000 in
theorem bitsOf1_none (n : Nat) (l Bs : Nat) (a : Option Addr) (cap : Nat) (J : Nat → World → Prop) (Jx : World → Prop) (W : World) (hBs : W.cell? ⟨Bs, 0, none⟩ = some (.slice a 0 cap)) (h0 : J 0 W) :
    CallsIn Fence.wide n Try.prog 91 #[.func (.yield l) #[] #[], .pointer (some ⟨Bs, 0, none⟩)] W fun e W' => (∃ v, e = .returned v) ∧ (J 0 W' ∨ Jx W') ∧ W.heap.size ≤ W'.heap.size := by
  have hro : Fence.wide.round = none := rfl
  refine callsIn_of_wp Try.func91 rfl trivial ?_ rfl
  simp only [Try.ntmps91, List.size_toArray, List.length_cons, List.length_nil, Nat.reduceAdd, Nat.reduceSub, Array.replicate_succ, Array.replicate_zero, List.push_toArray, List.append_toArray, List.nil_append, List.cons_append]
  gi_wp2
  gi_loopw [8] (fun i wr => i = .int .i64 0 ∧ J 0 wr ∧ W.heap.size ≤ wr.heap.size) (fun _ _ => 0)
  case atStart => exact ⟨rfl, h0, Nat.le_refl _⟩
  case round =>
    obtain ⟨rfl, hJs, hz⟩ := hrel
    gi_wp2
    go_end0
    exact ⟨⟨_, rfl⟩, .inl hJs, hz⟩

theorem bitsOf_gives (n : Nat) (hn : 1 ≤ n) (Bs : Nat) (K : Nat → Prop) (a : Option Addr) (len cap : Nat) (bs : List Int) (ho : Oct bs) (w : World) (hbs : Bs < w.heap.size)
    (hBs : w.cell? ⟨Bs, 0, none⟩ = some (.slice a len cap)) (hR : Rd K w .u8 a len cap bs) :
    Gives Fence.wide n Try.prog 91 #[.pointer (some ⟨Bs, 0, none⟩)] (fun x : Int => #[Value.int .u64 x]) K (allBits 8 bs) w := by
  intro l J Jx W hW _ hY h0
  have hBs' := (hW.cell (p := ⟨Bs, 0, none⟩) hbs).trans hBs
  have hR' := hR.below hW
  have hl := hR'.hl
  by_cases h0' : 0 < len
  · obtain ⟨b, off, rfl, hKb, hb, hc⟩ := hR'.cells h0'
    have := bitsOf1_some n hn l Bs b off len cap K bs hl hR.small ho J Jx W hKb hb hY hBs' hc h0
    rwa [show (allBits 8 bs).length = len * 8 by rw [allBits_length, hl]]
  · obtain rfl : len = 0 := by omega
    obtain rfl : bs = [] := List.eq_nil_of_length_eq_zero hl.symm
    exact bitsOf1_none n l Bs a cap J Jx W hBs' h0

/-- The differences of a list from a base. -/
def diffs (b : Int) (zs : List Int) : List Int := zs.map (diffS b)
theorem diffs_at (b : Int) (zs : List Int) (k : Nat) (hk : k < zs.length) : (diffs b zs)[k]?.getD 0 = diffS b (zs[k]?.getD 0) := by
  unfold diffs; rw [List.getElem?_map, List.getElem?_eq_getElem hk]; rfl

theorem and1_u64 (x : Int) (p : Nat) (hx : U64 x) : bits BinOp.and IntKind.u64 (x / 2 ^ p) 1 = x / 2 ^ p % 2 := by
  have h0 : 0 ≤ x / 2 ^ p := Int.ediv_nonneg hx.1 (Int.le_of_lt (Int.pow_pos (by decide)))
  have h1 : x / 2 ^ p ≤ x := Int.ediv_le_self _ hx.1
  have h2 := hx.2
  generalize x / 2 ^ p = y at *
  obtain ⟨m, rfl⟩ := Int.eq_ofNat_of_zero_le h0
  have := bits_and_u64_nat m 1 (by omega) (by omega)
  rw [Nat.and_one_is_mod] at this
  rw [show (1 : Int) = ((1 : Nat) : Int) from rfl, this]; omega

set_option maxRecDepth 100000 in
set_option maxHeartbeats 4000000 in
theorem bits1_some (n : Nat) (hn : 1 ≤ n) (l Bs Bf b off len cap : Nat) (bs : Int) (wd : Nat) (K : Nat → Prop) (zs : List Int) (hlen : Hid (len = zs.length)) (hmax : len ≤ 140737488351232) (hwd : wd ≤ 64)
    (J : Nat → World → Prop) (Jx : World → Prop) (W : World) (hJo : Hid (OwnFrom W.heap.size J)) (hKb : K b) (hb : b < W.heap.size) (hKf : K Bf) (hf : Bf < W.heap.size)
    (hY : Hid (∀ k x W1, (allBits wd (diffs bs zs))[k]? = some x → J k W1 → W.heap.size ≤ W1.heap.size → YieldAt Fence.wide (n - 1) Try.prog l #[.int .u64 x] W1 fun e W2 =>
      (e = .returned (.bool true) ∧ J (k + 1) W2 ∧ Kept (fun b => K b ∨ W.heap.size ≤ b) W1 W2) ∨ (e = .returned (.bool false) ∧ Jx W2 ∧ W.heap.size ≤ W2.heap.size)))
    (hBs : W.cell? ⟨Bs, 0, none⟩ = some (.slice (some ⟨b, off, none⟩) len cap)) (hBf : Hid (W.cell? ⟨Bf, 0, none⟩ = some (.int .i64 bs) ∧ W.cell? ⟨Bf, 1, none⟩ = some (.int .i64 wd)))
    (hc : Hid (∀ j, j < len → W.cell? ⟨b, off + j, none⟩ = some (.int .i64 (zs[j]?.getD 0)))) (h0 : J 0 W) :
    CallsIn Fence.wide n Try.prog 59 #[.func (.yield l) #[] #[], .pointer (some ⟨Bs, 0, none⟩), .pointer (some ⟨Bf, 0, none⟩)] W fun e W' => (∃ v, e = .returned v) ∧ (J (len * wd) W' ∨ Jx W') ∧ W.heap.size ≤ W'.heap.size := by
  have hro : Fence.wide.round = none := rfl
  refine callsIn_of_wp Try.func59 rfl trivial ?_ rfl
  simp only [Try.ntmps59, List.size_toArray, List.length_cons, List.length_nil, Nat.reduceAdd, Nat.reduceSub, Array.replicate_succ, Array.replicate_zero, List.push_toArray, List.append_toArray, List.nil_append, List.cons_append]
  gi_wp2
  gi_loopw [10] (fun i wr => ∃ k : Nat, k ≤ len ∧ i = .int .i64 k ∧ Hid (J (k * wd) wr) ∧ Hid (Kept K W wr))
    (fun i _ => len - (intOf i).toNat)
  case atStart => exact ⟨0, Nat.zero_le _, rfl, by rw [Nat.zero_mul]; exact h0, Kept.refl _ _⟩
  case round =>
    obtain ⟨k, hk, rfl, hJs, hnx⟩ := hrel
    by_cases hlt : k < len
    · have hcx : wr.cell? ⟨b, off + k, none⟩ = some (.int .i64 (zs[k]?.getD 0)) := (World.cell?_of_block (w := W) (hnx.out.block b hb hKb)).trans (hc.out k hlt)
      have hf0 : wr.cell? ⟨Bf, 0, none⟩ = some (.int .i64 bs) := (World.cell?_of_block (w := W) (hnx.out.block Bf hf hKf)).trans hBf.out.1
      have hf1 : wr.cell? ⟨Bf, 1, none⟩ = some (.int .i64 wd) := (World.cell?_of_block (w := W) (hnx.out.block Bf hf hKf)).trans hBf.out.2
      have HX : Hid (∀ p, p < wd → (allBits wd (diffs bs zs))[k * wd + p]? = some (diffS bs (zs[k]?.getD 0) / 2 ^ p % 2)) := fun p hp => by
        have := allBits_at wd (diffs bs zs) k p (by unfold diffs; rw [List.length_map, ← hlen.out]; exact hlt) hp
        rwa [diffs_at bs zs k (by rw [← hlen.out]; exact hlt)] at this
      generalize zs[k]?.getD 0 = x at *
      have hWr : W.heap.size ≤ wr.heap.size := hnx.out.size
      have hfd : Fence.wide.fn 60 := trivial
      gi_wp2_with (gi_at_call 60; refine (callsIn_wide.2 (difference_any bs wd x _)).mono ?_; rintro e w1 ⟨rfl, hb1⟩; have hf1' : w1.cell? ⟨Bf, 1, none⟩ = some (.int .i64 wd) := (hb1.cell (p := ⟨Bf, 1, none⟩) (by show Bf < _; omega)).trans hf1)
      have HJ1 : Hid (J (k * wd) w1) := hJo.out _ wr w1 none hJs.out ⟨hb1.os, hb1.tape, hb1.output, hb1.size, fun i hi _ => hb1.block i hi⟩ (fun r e => by cases e)
      have HK1 : Hid (Kept K W w1) := hnx.out.trans ((Kept.of_below hb1).mono' fun i hi _ => hi)
      have hdu := diff_u64 bs x
      generalize diffS bs x = d at *
      clear hb1
      gi_loopw [19] (fun i wr => ∃ p : Nat, p ≤ wd ∧ i = .int .i64 p ∧ Hid (J (k * wd + p) wr) ∧ Hid (Kept K W wr)) (fun i _ => wd - (intOf i).toNat)
      case atStart => exact ⟨0, Nat.zero_le _, rfl, HJ1, HK1⟩
      case round =>
        obtain ⟨p, hp, rfl, hJp, hkp⟩ := hrel
        by_cases hp8 : p < wd
        · have hbit := and1_u64 d p hdu
          obtain ⟨fn, tmps, assign, body, hy, hR⟩ := hY.out (k * wd + p) _ wr (HX.out p hp8) hJp.out hkp.out.size
          have hv1 : 0 ≤ d / 2 ^ p % 2 := by omega
          have hv2 : d / 2 ^ p % 2 < 2 := by omega
          obtain ⟨hd1, hd2⟩ := hdu
          generalize d / 2 ^ p % 2 = v at *
          gi_wp2
          refine hR.mono ?_
          clear hR hy
          rintro e W3 (⟨rfl, hJ3, hk3⟩ | ⟨rfl, hJx, hz⟩)
          · have HJ3 := Lib.hid hJ3
            have HK3 : Hid (Kept K W W3) := hkp.out.trans (hk3.mono fun _ h => .inl h)
            clear hJ3 hk3
            gi_wp2
            go_roundw
            case rel => exact ⟨p + 1, by omega, by go_num, HJ3, HK3⟩
            case measure => simp [intOf]; omega
          · have HJx := Lib.hid hJx
            clear hJx
            gi_wp2
            exact bodyPost_ret (results_none rfl _ _ _) rfl ⟨⟨_, rfl⟩, .inr HJx.out, hz⟩
        · obtain rfl : p = wd := by omega
          gi_wp2
          go_roundw
          case rel => exact ⟨k + 1, by omega, by go_num, by rw [Nat.succ_mul]; exact hJp, hkp⟩
          case measure => simp [intOf]; omega
    · obtain rfl : k = len := by omega
      gi_wp2
      go_end0
      exact ⟨⟨_, rfl⟩, .inl hJs.out, hnx.out.size⟩

set_option maxRecDepth 100000 in
set_option maxHeartbeats 1000000 in
theorem bits1_none (n : Nat) (l Bs Bf : Nat) (a : Option Addr) (cap : Nat) (J : Nat → World → Prop) (Jx : World → Prop) (W : World) (hBs : W.cell? ⟨Bs, 0, none⟩ = some (.slice a 0 cap)) (h0 : J 0 W) :
    CallsIn Fence.wide n Try.prog 59 #[.func (.yield l) #[] #[], .pointer (some ⟨Bs, 0, none⟩), .pointer (some ⟨Bf, 0, none⟩)] W fun e W' => (∃ v, e = .returned v) ∧ (J 0 W' ∨ Jx W') ∧ W.heap.size ≤ W'.heap.size := by
  have hro : Fence.wide.round = none := rfl
  refine callsIn_of_wp Try.func59 rfl trivial ?_ rfl
  simp only [Try.ntmps59, List.size_toArray, List.length_cons, List.length_nil, Nat.reduceAdd, Nat.reduceSub, Array.replicate_succ, Array.replicate_zero, List.push_toArray, List.append_toArray, List.nil_append, List.cons_append]
  gi_wp2
  gi_loopw [10] (fun i wr => i = .int .i64 0 ∧ J 0 wr ∧ W.heap.size ≤ wr.heap.size) (fun _ _ => 0)
  case atStart => exact ⟨rfl, h0, Nat.le_refl _⟩
  case round =>
    obtain ⟨rfl, hJs, hz⟩ := hrel
    gi_wp2
    go_end0
    exact ⟨⟨_, rfl⟩, .inl hJs, hz⟩

theorem bits_gives (n : Nat) (hn : 1 ≤ n) (Bs Bf : Nat) (K : Nat → Prop) (bs : Int) (wd : Nat) (hwd : wd ≤ 64) (a : Option Addr) (len cap : Nat) (zs : List Int) (w : World) (hbs : Bs < w.heap.size) (hKf : K Bf) (hf : Bf < w.heap.size)
    (hBs : w.cell? ⟨Bs, 0, none⟩ = some (.slice a len cap)) (hB0 : w.cell? ⟨Bf, 0, none⟩ = some (.int .i64 bs)) (hB1 : w.cell? ⟨Bf, 1, none⟩ = some (.int .i64 wd)) (hR : Rd K w .i64 a len cap zs) :
    Gives Fence.wide n Try.prog 59 #[.pointer (some ⟨Bs, 0, none⟩), .pointer (some ⟨Bf, 0, none⟩)] (fun x : Int => #[Value.int .u64 x]) K (allBits wd (diffs bs zs)) w := by
  intro l J Jx W hW hJo hY h0
  have hBs' := (hW.cell (p := ⟨Bs, 0, none⟩) hbs).trans hBs
  have hR' := hR.below hW
  have hl := hR'.hl
  by_cases h0' : 0 < len
  · obtain ⟨b, off, rfl, hKb, hb, hc⟩ := hR'.cells h0'
    have := bits1_some n hn l Bs Bf b off len cap bs wd K zs hl hR.small hwd J Jx W hJo hKb hb hKf (Nat.lt_of_lt_of_le hf hW.size) hY hBs'
      ⟨(hW.cell (p := ⟨Bf, 0, none⟩) hf).trans hB0, (hW.cell (p := ⟨Bf, 1, none⟩) hf).trans hB1⟩ hc h0
    rwa [show (allBits wd (diffs bs zs)).length = len * wd by rw [allBits_length, diffs, List.length_map, hl]]
  · obtain rfl : len = 0 := by omega
    obtain rfl : zs = [] := List.eq_nil_of_length_eq_zero hl.symm
    exact bits1_none n l Bs Bf a cap J Jx W hBs' h0

end Go.Proofs.Ytkfmgiacdlkmiaa
