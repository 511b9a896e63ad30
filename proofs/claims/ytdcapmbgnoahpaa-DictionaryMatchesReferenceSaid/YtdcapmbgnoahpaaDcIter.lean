/-
  The iterator over the parts of a packed form.
-/
import Derived.Test.YtdcapmbgnoahpaaRangeX
import Derived.Test.YtdcapmbgnoahpaaDcPart
import Derived.Sort.QuietIn
namespace Go.Proofs.Ytdcapmbgnoahpaa
open Go Go.RowKit Go.Shelf Go.ChangeShapes Go.WideShapes Go.ChangeAt
attribute [local go_sem] Oper.semAt_some

/-- Where the parts are read: the place, and the length of the string before. -/
def ptL (bs : List Int) : Nat → Nat → Nat → List (Nat × Nat)
  | 0, _, _ => []
  | n + 1, pos, size => (pos, size) :: (if (rpS (bs.drop pos) size).2.2 ≠ 0 then [] else ptL bs n (pos + (rpS (bs.drop pos) size).2.1) ((rpS (bs.drop pos) size).1.1 + (rpS (bs.drop pos) size).1.2.length))

theorem rp_size {bs : List Int} (ho : Oct bs) (size : Nat) : (rpS bs size).1.1 + (rpS bs size).1.2.length ≤ 255 := by
  have h1 := (rdS_u645 ho).1
  have h2 := (rdS_u645 (ho.drop (rdS bs).2.1)).1
  unfold rpS
  split
  · simp
  · split
    · simp
    · split
      · simp
      · split
        · simp
        · simp only [List.length_take]
          omega

/-- What lies in blocks that were there before, and are as they were, can be read in the world before. -/
theorem Rd.back6 {K : Nat → Prop} {w V : World} {k : IntKind} {a : Option Addr} {len cap : Nat} {zs : List Int} (h : Rd (fun b => K b ∧ b < w.heap.size) V k a len cap zs) (hb : ∀ b, K b → b < w.heap.size → V.heap[b]? = w.heap[b]?) : Rd K w k a len cap zs :=
  ⟨h.hl, h.fit, h.top, h.small, fun h0 => by
    obtain ⟨b, off, e, hk, hlt, hc⟩ := h.cells h0
    exact ⟨b, off, e, hk.1, hk.2, fun j hj => (World.cell?_of_block (w := w) (hb b hk.1 hk.2)).symm.trans (hc j hj)⟩⟩

/-- What a round of the iterator is handed: how many bytes are shared, the others, what is behind; the error. -/
structure PartV where
  sh : Int
  a1 : Option Addr
  n1 : Nat
  c1 : Nat
  a2 : Option Addr
  m : Nat
  e : Int
def encP (x : PartV) : Array Value := #[.agg #[.int .i64 x.sh, .slice x.a1 x.n1 x.c1, .slice x.a2 x.m x.m], .int .i64 x.e]

def PartAt (K : Nat → Prop) (w : World) (bs : List Int) (pos size : Nat) (x : PartV) : Prop :=
  ((rpS (bs.drop pos) size).2.2 = 0 ∧ ∃ a1 n1 c1 a2 m, x = ⟨((rpS (bs.drop pos) size).1.1 : Int), a1, n1, c1, a2, m, 0⟩ ∧ Rd K w .u8 a1 n1 c1 (rpS (bs.drop pos) size).1.2 ∧ Rd K w .u8 a2 m m (bs.drop (pos + (rpS (bs.drop pos) size).2.1))) ∨
  ((rpS (bs.drop pos) size).2.2 ≠ 0 ∧ x = ⟨0, none, 0, 0, none, 0, (rpS (bs.drop pos) size).2.2⟩)

/-- The k-th part. -/
def PartX (K : Nat → Prop) (w : World) (bs : List Int) (n : Nat) (k : Nat) (x : PartV) : Prop :=
  ∃ pos size, (ptL bs n 0 0)[k]? = some (pos, size) ∧ size ≤ 255 ∧ PartAt K w bs pos size x

theorem drop_part {bs : List Int} {n k m pos size : Nat} (h : (ptL bs n 0 0).drop k = ptL bs (m + 1) pos size) :
    (ptL bs n 0 0)[k]? = some (pos, size) ∧ (ptL bs n 0 0).drop (k + 1) = (if (rpS (bs.drop pos) size).2.2 ≠ 0 then [] else ptL bs m (pos + (rpS (bs.drop pos) size).2.1) ((rpS (bs.drop pos) size).1.1 + (rpS (bs.drop pos) size).1.2.length)) := by
  constructor
  · have : (ptL bs n 0 0)[k]? = ((ptL bs n 0 0).drop k)[0]? := by rw [List.getElem?_drop, Nat.add_zero]
    rw [this, h]; rfl
  · have : (ptL bs n 0 0).drop (k + 1) = ((ptL bs n 0 0).drop k).drop 1 := by rw [List.drop_drop]
    rw [this, h]; rfl

set_option maxRecDepth 100000 in
set_option maxHeartbeats 4000000 in
theorem parts1_any (n : Nat) (hn : 1 ≤ n) (l Bs Bn : Nat) (a : Option Addr) (len cap N : Nat) (hN : N ≤ 4096) (K : Nat → Prop) (bs : List Int) (ho : Oct bs)
    (J : Nat → World → Prop) (Jx : World → Prop) (w W : World) (hw : Below w.heap.size w W) (hJo : Hid (OwnFrom W.heap.size J)) (hR : Hid (Rd K w .u8 a len cap bs))
    (hY : Hid (∀ k x W1, PartX K w bs N k x → J k W1 → W.heap.size ≤ W1.heap.size → YieldAt Fence.wide (n - 1) Try.prog l (encP x) W1 fun e W2 =>
      (e = .returned (.bool true) ∧ J (k + 1) W2 ∧ Kept (fun b => K b ∨ W.heap.size ≤ b) W1 W2) ∨ (e = .returned (.bool false) ∧ Jx W2 ∧ W.heap.size ≤ W2.heap.size)))
    (hBs : W.cell? ⟨Bs, 0, none⟩ = some (.slice a len cap)) (hBn : W.cell? ⟨Bn, 0, none⟩ = some (.int .i64 N)) (h0 : J 0 W) :
    CallsIn Fence.wide n Try.prog 93 #[.func (.yield l) #[] #[], .pointer (some ⟨Bs, 0, none⟩), .pointer (some ⟨Bn, 0, none⟩)] W fun e W' => (∃ v, e = .returned v) ∧ (J (ptL bs N 0 0).length W' ∨ Jx W') ∧ W.heap.size ≤ W'.heap.size := by
  have hro : Fence.wide.round = none := rfl
  have hfd : Fence.wide.fn 94 := trivial
  have HW := Lib.hid hw
  clear hw
  refine callsIn_of_wp Try.func93 rfl trivial ?_ rfl
  simp only [Try.ntmps93, List.size_toArray, List.length_cons, List.length_nil, Nat.reduceAdd, Nat.reduceSub, Array.replicate_succ, Array.replicate_zero, List.push_toArray, List.append_toArray, List.nil_append, List.cons_append]
  gi_wp2
  gi_loopw [4, 5, 10] (fun v s i wr => ∃ k pos size : Nat, ∃ a m c, k ≤ N ∧ i = .int .i64 k ∧ s = .int .i64 size ∧ size ≤ 255 ∧ v = .slice a m c ∧ Hid ((ptL bs N 0 0).drop k = ptL bs (N - k) pos size ∧ k ≤ (ptL bs N 0 0).length) ∧
    Hid (Rd K w .u8 a m c (bs.drop pos)) ∧ Hid (J k wr) ∧ Hid (Kept K W wr)) (fun _ _ i _ => N - (intOf i).toNat)
  case atStart => exact ⟨0, 0, 0, a, len, cap, Nat.zero_le _, rfl, rfl, by decide, rfl, ⟨rfl, Nat.zero_le _⟩, hR, h0, Kept.refl _ _⟩
  case round =>
    obtain ⟨k, pos, size, a, m, c, hk, rfl, rfl, hsz, rfl, HD, HRd, HJ, HK⟩ := hrel
    by_cases hlt : k < N
    · obtain ⟨N', hN'⟩ : ∃ N', N - k = N' + 1 := ⟨N - k - 1, by omega⟩
      have hd := HD.out.1
      rw [hN'] at hd
      obtain ⟨hk1, hk2⟩ := drop_part hd
      have hrs := rp_size (ho.drop pos) size
      have hklt : k < (ptL bs N 0 0).length := (List.getElem?_eq_some_iff.1 hk1).1
      have hN2 : N - (k + 1) = N' := by omega
      have HK1 := Lib.hid hk1
      have HK2 := Lib.hid hk2
      have HN2 := Lib.hid hN2
      have HRP := Lib.hid (readPart_any (ho.drop pos) size hsz (((HRd.out.mono (K' := fun b => K b ∧ b < w.heap.size) fun b h1 h2 => ⟨h2, h1⟩).below HW.out).kept (HK.out.mono fun b h => h.1)))
      have HBK : Hid (∀ b, K b → b < w.heap.size → wr.heap[b]? = w.heap[b]?) := fun b h1 h2 => (HK.out.block b (Nat.lt_of_lt_of_le h2 HW.out.size) h1).trans (HW.out.block b h2)
      have HRS := Lib.hid hrs
      clear hd hN' hN2 hk1 hk2 hrs
      have HKL : Hid (k + 1 ≤ (ptL bs N 0 0).length) := hklt
      clear hklt
      gi_wp2_with fail
      refine (callsIn_wide.2 HRP.out).mono ?_
      rintro e w1 ⟨hb1, hp⟩
      have HB1 := Lib.hid hb1
      have HJ1 : Hid (J k w1) := hJo.out _ wr w1 none HJ.out ⟨hb1.os, hb1.tape, hb1.output, hb1.size, fun i hi _ => hb1.block i hi⟩ (fun r e => by cases e)
      have HKK1 : Hid (Kept K W w1) := HK.out.trans ((Kept.of_below hb1).mono' fun i hi _ => hi)
      clear hb1
      rcases hp with ⟨he0, a1, n1, c1, a2, m2, rfl, hr1, hr2⟩ | ⟨he0, rfl⟩
      · have HX : Hid (PartX K w bs N k ⟨((rpS (bs.drop pos) size).1.1 : Int), a1, n1, c1, a2, m2, 0⟩) :=
          ⟨pos, size, HK1.out, hsz, .inl ⟨he0, a1, n1, c1, a2, m2, rfl, hr1.back6 HBK.out, by rw [← List.drop_drop]; exact hr2.back6 HBK.out⟩⟩
        have HR2 : Hid (Rd K w .u8 a2 m2 m2 (bs.drop (pos + (rpS (bs.drop pos) size).2.1))) := by rw [← List.drop_drop]; exact Lib.hid (hr2.back6 HBK.out)
        have HKD : Hid ((ptL bs N 0 0).drop (k + 1) = ptL bs N' (pos + (rpS (bs.drop pos) size).2.1) ((rpS (bs.drop pos) size).1.1 + n1)) := by
          have := HK2.out
          rw [if_neg (by rw [he0]; simp), ← hr1.hl] at this
          exact this
        have hs1 := HRS.out
        rw [← hr1.hl] at hs1
        generalize (rpS (bs.drop pos) size).1.1 = sh at *
        generalize (rpS (bs.drop pos) size).2.1 = cc at *
        clear he0 hr1 hr2 HRP HRS HK2
        have HT := Lib.hid (Tri5.new w1 114 (.int .i64 sh) (.slice a1 n1 c1) (.slice a2 m2 m2))
        have HJV : Hid (J k (w1.alloc (.cells #[.int .i64 sh, .slice a1 n1 c1, .slice a2 m2 m2] 114))) := hJo.out.alloc _ HJ1.out
        have HKV : Hid (Kept K W (w1.alloc (.cells #[.int .i64 sh, .slice a1 n1 c1, .slice a2 m2 m2] 114))) := HKK1.out.trans ((Kept.of_below ((Below.refl _ w1).alloc (Nat.le_refl _) _)).mono' fun i hi _ => hi)
        obtain ⟨fn, tmps, assign, body, hy, hRR⟩ := hY.out k _ (w1.alloc (.cells #[.int .i64 sh, .slice a1 n1 c1, .slice a2 m2 m2] 114)) HX.out HJV.out HKV.out.size
        simp only [encP] at hy
        gi_wp2
        refine hRR.mono ?_
        clear hRR hy
        rintro e W3 (⟨rfl, hJ3, hk3⟩ | ⟨rfl, hJx, hz⟩)
        · have HJ3 := Lib.hid hJ3
          have HK3 : Hid (Kept K W W3) := HKV.out.trans (hk3.mono fun _ h => .inl h)
          have hT3 : Tri5 W3 w1.heap.size 114 (.int .i64 sh) (.slice a1 n1 c1) (.slice a2 m2 m2) := (hk3.block w1.heap.size HT.out.lt (.inr HKK1.out.size)).trans HT.out
          obtain ⟨q0, q1, q2⟩ := hT3.cell
          have hsum : IntKind.i64.wrap ((sh : Int) + (n1 : Int)) = ((sh + n1 : Nat) : Int) := by rw [IntKind.wrap_i64]; omega
          clear hJ3 hk3 hT3
          gi_wp2
          gi_quiet (fail)
          gi_wp2
          go_roundw
          case rel => exact ⟨k + 1, pos + cc, sh + n1, a2, m2, m2, by omega, by go_num, by go_num, hs1, rfl, ⟨by rw [HN2.out]; exact HKD.out, HKL.out⟩, HR2, hJo.out _ W3 _ none HJ3.out ⟨rfl, rfl, rfl, Nat.le_refl _, fun _ _ _ => rfl⟩ (fun r e => by cases e), HK3.out.trans ⟨rfl, rfl, rfl, Nat.le_refl _, fun _ _ _ => rfl⟩⟩
          case measure => simp [intOf]; omega
        · have HJx := Lib.hid hJx
          clear hJx
          gi_wp2
          exact bodyPost_ret (results_none rfl _ _ _) rfl ⟨⟨_, rfl⟩, .inr HJx.out, hz⟩
      · have HX : Hid (PartX K w bs N k ⟨0, none, 0, 0, none, 0, (rpS (bs.drop pos) size).2.2⟩) :=
          ⟨pos, size, HK1.out, hsz, .inr ⟨he0, rfl⟩⟩
        have HEND : Hid (k + 1 = (ptL bs N 0 0).length) := by
          have h1 := HK2.out
          rw [if_pos he0] at h1
          have h2 := congrArg List.length h1
          rw [List.length_drop] at h2
          have h3 := HKL.out
          show _ = _
          simp only [List.length_nil] at h2
          omega
        have hxb : ((rpS (bs.drop pos) size).2.2 != 0) = true := by simpa using he0
        generalize (rpS (bs.drop pos) size).2.2 = x at *
        clear he0 HRP HRS HK2
        have HJV : Hid (J k (w1.alloc (.cells #[.int .i64 0, .slice none 0 0, .slice none 0 0] 114))) := hJo.out.alloc _ HJ1.out
        have HKV : Hid (Kept K W (w1.alloc (.cells #[.int .i64 0, .slice none 0 0, .slice none 0 0] 114))) := HKK1.out.trans ((Kept.of_below ((Below.refl _ w1).alloc (Nat.le_refl _) _)).mono' fun i hi _ => hi)
        obtain ⟨fn, tmps, assign, body, hy, hRR⟩ := hY.out k _ (w1.alloc (.cells #[.int .i64 0, .slice none 0 0, .slice none 0 0] 114)) HX.out HJV.out HKV.out.size
        simp only [encP] at hy
        gi_wp2
        refine hRR.mono ?_
        clear hRR hy
        rintro e W3 (⟨rfl, hJ3, hk3⟩ | ⟨rfl, hJx, hz⟩)
        · have HJ3 := Lib.hid hJ3
          have HK3 : Hid (Kept K W W3) := HKV.out.trans (hk3.mono fun _ h => .inl h)
          clear hJ3 hk3
          gi_wp2
          exact bodyPost_ret (results_none rfl _ _ _) rfl ⟨⟨_, rfl⟩, .inl (by rw [← HEND.out]; exact HJ3.out), HK3.out.size⟩
        · have HJx := Lib.hid hJx
          clear hJx
          gi_wp2
          exact bodyPost_ret (results_none rfl _ _ _) rfl ⟨⟨_, rfl⟩, .inr HJx.out, hz⟩
    · obtain rfl : k = N := by omega
      have HE : Hid (k = (ptL bs k 0 0).length) := by
        have h1 := HD.out.1
        have h2 := HD.out.2
        rw [Nat.sub_self] at h1
        have h3 := congrArg List.length h1
        rw [List.length_drop] at h3
        simp [ptL] at h3
        show _ = _
        omega
      gi_wp2
      go_end0
      exact ⟨⟨_, rfl⟩, .inl (by rw [← HE.out]; exact HJ.out), HK.out.size⟩

theorem parts_gives (n : Nat) (hn : 1 ≤ n) (Bs Bn : Nat) (a : Option Addr) (len cap N : Nat) (hN : N ≤ 4096) (K : Nat → Prop) (bs : List Int) (ho : Oct bs) (w : World) (hR : Rd K w .u8 a len cap bs)
    (hl1 : Bs < w.heap.size) (hl2 : Bn < w.heap.size) (hBs : w.cell? ⟨Bs, 0, none⟩ = some (.slice a len cap)) (hBn : w.cell? ⟨Bn, 0, none⟩ = some (.int .i64 N)) :
    GivesX Fence.wide n Try.prog 93 #[.pointer (some ⟨Bs, 0, none⟩), .pointer (some ⟨Bn, 0, none⟩)] encP K (ptL bs N 0 0).length (PartX K w bs N) w := by
  intro l J Jx W hW hJo hY h0
  exact parts1_any n hn l Bs Bn a len cap N hN K bs ho J Jx w W hW hJo hR (fun k x W1 hx hj hz => hY k x W1 hx hj hz) ((hW.cell (p := ⟨Bs, 0, none⟩) hl1).trans hBs) ((hW.cell (p := ⟨Bn, 0, none⟩) hl2).trans hBn) h0

theorem parts_any (a : Option Addr) (len cap N : Nat) (W : World) :
    Calls Try.prog 67 #[.slice a len cap, .int .i64 N] W fun e W' => e = .returned (.func (.func 93) #[] #[.pointer (some ⟨W.heap.size, 0, none⟩), .pointer (some ⟨W.heap.size + 1, 0, none⟩)]) ∧ W' = (W.alloc (.cells #[.slice a len cap] 22)).alloc (.cells #[.int .i64 N] 3) := by
  go_enter Try.func67, Try.ntmps67
  go_wp2
  go_ret
  exact ⟨rfl, rfl⟩

end Go.Proofs.Ytdcapmbgnoahpaa
