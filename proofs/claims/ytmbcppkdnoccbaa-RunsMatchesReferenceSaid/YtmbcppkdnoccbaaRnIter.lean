/-
  The iterator over the runs of a list.
-/
import Derived.Test.YtmbcppkdnoccbaaRnFirst
import Derived.Test.YtmbcppkdnoccbaaRangeKeeps
namespace Go.Proofs.Ytmbcppkdnoccbaa
open Go.RowKit Go.Shelf Go.ChangeShapes Go.WideShapes Go.ChangeAt
attribute [local go_sem] Oper.semAt_some

/-- The values that a round of the iterator is handed. -/
def encR (p : Int × Nat) : Array Value := #[.int .i64 p.1, .int .i64 p.2]

theorem drop_run {zs : List Int} {k m : Nat} (h : (rl zs).drop k = rl (zs.drop m)) (hm : m < zs.length) :
    (rl zs)[k]? = some (zs[m]?.getD 0, fr1 (zs.drop m)) ∧ (rl zs).drop (k + 1) = rl (zs.drop (m + fr1 (zs.drop m))) := by
  have e := drop_getD_cons zs m hm
  have h2 := rl_cons (zs.drop (m + 1)) (zs[m]?.getD 0)
  rw [← e] at h2
  rw [h2, List.drop_drop] at h
  constructor
  · have : (rl zs)[k]? = ((rl zs).drop k)[0]? := by rw [List.getElem?_drop, Nat.add_zero]
    rw [this, h]; rfl
  · have : (rl zs).drop (k + 1) = ((rl zs).drop k).drop 1 := by rw [List.drop_drop]
    rw [this, h]; rfl

set_option maxRecDepth 100000 in
set_option maxHeartbeats 4000000 in
theorem eachRun1_some (n : Nat) (hn : 1 ≤ n) (l Bs b off len cap : Nat) (K : Nat → Prop) (zs : List Int) (hfit : len ≤ cap) (hcap : cap ≤ 9223372036854775807) (hmax : len ≤ 140737488351232)
    (J : Nat → World → Prop) (Jx : World → Prop) (W : World) (hJo : Hid (OwnFrom W.heap.size J)) (hKs : K Bs) (hBl : Bs < W.heap.size) (hR : Hid (Rd K W .i64 (some ⟨b, off, none⟩) len cap zs))
    (hY : Hid (∀ k x W1, (rl zs)[k]? = some x → J k W1 → W.heap.size ≤ W1.heap.size → YieldAt Fence.wide (n - 1) Try.prog l (encR x) W1 fun e W2 =>
      (e = .returned (.bool true) ∧ J (k + 1) W2 ∧ Kept K W1 W2) ∨ (e = .returned (.bool false) ∧ Jx W2 ∧ W.heap.size ≤ W2.heap.size)))
    (hBs : Hid (W.cell? ⟨Bs, 0, none⟩ = some (.slice (some ⟨b, off, none⟩) len cap))) (h0 : J 0 W) :
    CallsIn Fence.wide n Try.prog 95 #[.func (.yield l) #[] #[], .pointer (some ⟨Bs, 0, none⟩)] W fun e W' => (∃ v, e = .returned v) ∧ (J (rl zs).length W' ∨ Jx W') ∧ W.heap.size ≤ W'.heap.size := by
  have hro : Fence.wide.round = none := rfl
  have hfd : Fence.wide.fn 96 := trivial
  refine callsIn_of_wp Try.func95 rfl trivial ?_ rfl
  simp only [Try.ntmps95, List.size_toArray, List.length_cons, List.length_nil, Nat.reduceAdd, Nat.reduceSub, Array.replicate_succ, Array.replicate_zero, List.push_toArray, List.append_toArray, List.nil_append, List.cons_append]
  gi_wp2
  gi_loopw [3, 4] (fun i _ wr => ∃ k m : Nat, m ≤ len ∧ i = .int .i64 m ∧ Hid ((rl zs).drop k = rl (zs.drop m) ∧ k ≤ (rl zs).length) ∧ Hid (J k wr) ∧ Hid (Kept K W wr)) (fun i _ _ => len - (intOf i).toNat)
  case atStart => exact ⟨0, 0, Nat.zero_le _, rfl, ⟨rfl, Nat.zero_le _⟩, h0, Kept.refl _ _⟩
  case round =>
    obtain ⟨k, m, hm, rfl, HD, hJs, hnx⟩ := hrel
    have hcs : wr.cell? ⟨Bs, 0, none⟩ = some (.slice (some ⟨b, off, none⟩) len cap) := (World.cell?_of_block (w := W) (hnx.out.block Bs hBl hKs)).trans hBs.out
    by_cases hlt : m < len
    · have hRr := hR.out.kept hnx.out
      have hl := hR.out.hl
      obtain ⟨hk1, hk2⟩ := drop_run HD.out.1 (by omega)
      have hx : wr.cell? ⟨b, off + m, none⟩ = some (.int .i64 (zs[m]?.getD 0)) := by
        obtain ⟨b', off', e, _, _, hc⟩ := hRr.cells (by omega)
        cases e
        exact hc m hlt
      have hrest := hRr.rest m hm (cap - m) (by omega) (by omega) (some ⟨b, off + m, none⟩) (fun _ => rfl)
      have hf1 : 1 ≤ fr1 (zs.drop m) := fr1_pos fun e => by have := congrArg List.length e; rw [List.length_drop] at this; simp at this; omega
      have hf2 : fr1 (zs.drop m) ≤ len - m := by have := fr1_le (zs.drop m); rw [List.length_drop] at this; omega
      have HREST := Lib.hid hrest
      have HK1 := Lib.hid hk1
      have HK2 := Lib.hid hk2
      have hklt : k < (rl zs).length := (List.getElem?_eq_some_iff.1 hk1).1
      have HKL : Hid (k + 1 ≤ (rl zs).length) := hklt
      have HFR : Hid (∀ V : World, Rd K V .i64 (some ⟨b, off + m, none⟩) (len - m) (cap - m) (zs.drop m) → Calls Try.prog 96 #[.slice (some ⟨b, off + m, none⟩) (len - m) (cap - m)] V fun e w' => e = .returned (.int .i64 (fr1 (zs.drop m))) ∧ Below V.heap.size V w') := fun V h => firstRun_any h (by omega)
      clear hRr hrest hk1 hk2 hl hklt
      generalize fr1 (zs.drop m) = f at *
      generalize zs[m]?.getD 0 = x at *
      have hmc : m < cap := by omega
      gi_wp2_with fail
      refine (callsIn_wide.2 (HFR.out _ HREST.out)).mono ?_
      rintro e w1 ⟨rfl, hb1⟩
      have HJ1 : Hid (J k w1) := hJo.out _ wr w1 none hJs.out ⟨hb1.os, hb1.tape, hb1.output, hb1.size, fun i hi _ => hb1.block i hi⟩ (fun r e => by cases e)
      have HKK1 : Hid (Kept K W w1) := hnx.out.trans ((Kept.of_below hb1).mono' fun i hi _ => hi)
      have hcs1 : w1.cell? ⟨Bs, 0, none⟩ = some (.slice (some ⟨b, off, none⟩) len cap) := (World.cell?_of_block (w := W) (HKK1.out.block Bs hBl hKs)).trans hBs.out
      have hlt1 : (⟨b, off + m, none⟩ : Addr).block < wr.heap.size := by
        obtain ⟨b', off', e, _, h, _⟩ := HREST.out.cells (by omega)
        cases e; exact h
      have hx1 : w1.cell? ⟨b, off + m, none⟩ = some (.int .i64 x) := (hb1.cell hlt1).trans hx
      obtain ⟨fn, tmps, assign, body, hy, hRR⟩ := hY.out k _ w1 HK1.out HJ1.out HKK1.out.size
      clear hb1 hcs hx hlt1
      simp only [encR] at hy
      gi_wp2
      refine hRR.mono ?_
      clear hRR hy
      rintro e W3 (⟨rfl, hJ3, hk3⟩ | ⟨rfl, hJx, hz⟩)
      · have HJ3 := Lib.hid hJ3
        have HK3 : Hid (Kept K W W3) := HKK1.out.trans hk3
        clear hJ3 hk3
        gi_wp2
        go_roundw
        case rel => exact ⟨k + 1, m + f, by omega, by go_num, ⟨HK2.out, HKL.out⟩, HJ3, HK3⟩
        case measure => simp [intOf]; omega
      · have HJx := Lib.hid hJx
        clear hJx
        gi_wp2
        exact bodyPost_ret (results_none rfl _ _ _) rfl ⟨⟨_, rfl⟩, .inr HJx.out, hz⟩
    · obtain rfl : m = len := by omega
      have HE : Hid (k = (rl zs).length) := by
        have h1 := HD.out.1
        have h2 := HD.out.2
        rw [hR.out.hl, List.drop_length] at h1
        have h3 := congrArg List.length h1
        rw [List.length_drop] at h3
        simp [rl] at h3
        show _ = _
        omega
      gi_wp2
      go_end0
      exact ⟨⟨_, rfl⟩, .inl (by rw [← HE.out]; exact hJs.out), hnx.out.size⟩

set_option maxRecDepth 100000 in
set_option maxHeartbeats 1000000 in
theorem eachRun1_none (n : Nat) (l Bs : Nat) (a : Option Addr) (cap : Nat) (J : Nat → World → Prop) (Jx : World → Prop) (W : World) (hBs : W.cell? ⟨Bs, 0, none⟩ = some (.slice a 0 cap)) (h0 : J 0 W) :
    CallsIn Fence.wide n Try.prog 95 #[.func (.yield l) #[] #[], .pointer (some ⟨Bs, 0, none⟩)] W fun e W' => (∃ v, e = .returned v) ∧ (J 0 W' ∨ Jx W') ∧ W.heap.size ≤ W'.heap.size := by
  have hro : Fence.wide.round = none := rfl
  refine callsIn_of_wp Try.func95 rfl trivial ?_ rfl
  simp only [Try.ntmps95, List.size_toArray, List.length_cons, List.length_nil, Nat.reduceAdd, Nat.reduceSub, Array.replicate_succ, Array.replicate_zero, List.push_toArray, List.append_toArray, List.nil_append, List.cons_append]
  gi_wp2
  gi_loopw [3, 4] (fun i _ wr => i = .int .i64 0 ∧ W = wr) (fun _ _ _ => 0)
  case atStart => exact ⟨rfl, rfl⟩
  case round =>
    obtain ⟨rfl, rfl⟩ := hrel
    gi_wp2
    go_end0
    exact ⟨⟨_, rfl⟩, .inl h0, Nat.le_refl _⟩

theorem eachRun_gives (n : Nat) (hn : 1 ≤ n) (Bs : Nat) (K : Nat → Prop) (a : Option Addr) (len cap : Nat) (zs : List Int) (w : World) (hKs : K Bs) (hbs : Bs < w.heap.size) (hBs : w.cell? ⟨Bs, 0, none⟩ = some (.slice a len cap)) (hR : Rd K w .i64 a len cap zs) :
    GivesK Fence.wide n Try.prog 95 #[.pointer (some ⟨Bs, 0, none⟩)] encR K (rl zs) w := by
  intro l J Jx W hW hJo hY h0
  have hBs' := (hW.cell (p := ⟨Bs, 0, none⟩) hbs).trans hBs
  have hR' := hR.below hW
  by_cases h0' : 0 < len
  · obtain ⟨b, off, rfl, _⟩ := hR'.cells h0'
    exact eachRun1_some n hn l Bs b off len cap K zs hR.fit hR.top hR.small J Jx W hJo hKs (Nat.lt_of_lt_of_le hbs hW.size) hR' hY hBs' h0
  · obtain rfl : len = 0 := by omega
    obtain rfl : zs = [] := List.eq_nil_of_length_eq_zero hR.hl.symm
    exact eachRun1_none n l Bs a cap J Jx W hBs' h0

theorem eachRun_any (a : Option Addr) (len cap : Nat) (w : World) :
    Calls Try.prog 73 #[.slice a len cap] w fun e w' =>
      e = .returned (.func (.func 95) #[] #[.pointer (some ⟨w.heap.size, 0, none⟩)]) ∧ w' = w.alloc (.cells #[.slice a len cap] 22) := by
  go_enter Try.func73, Try.ntmps73
  go_wp2
  go_ret
  exact ⟨rfl, rfl⟩

end Go.Proofs.Ytmbcppkdnoccbaa
