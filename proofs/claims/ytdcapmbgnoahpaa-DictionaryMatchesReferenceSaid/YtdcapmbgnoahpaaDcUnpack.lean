/-
  What is read of a packed dictionary.
-/
import Derived.Test.YtdcapmbgnoahpaaDcUnMath
import Derived.Test.YtdcapmbgnoahpaaDcBehind
import Derived.Test.YtdcapmbgnoahpaaDcStrings
import Derived.OwnWalkIn
namespace Go.Proofs.Ytdcapmbgnoahpaa
open Go Go.RowKit Go.Shelf Go.ChangeShapes Go.WideShapes Go.ChangeAt
attribute [local go_sem] Oper.semAt_some

/-- What reading comes to. -/
def UDPost (K : Nat → Prop) (bs : List Int) (W : World) (e : Ending) (W' : World) : Prop :=
  Below W.heap.size W W' ∧ (((unD bs).2.2 = 0 ∧ ∃ a1 n1 c1 a2 m, e = .returned (.tuple #[.slice a1 n1 c1, .slice a2 m m, .int .i64 0]) ∧ RdS (fun b => W.heap.size ≤ b) W' a1 n1 c1 (unD bs).1 ∧ Rd K W .u8 a2 m m (bs.drop (unD bs).2.1)) ∨
    ((unD bs).2.2 ≠ 0 ∧ e = .returned (.tuple #[.slice none 0 0, .slice none 0 0, .int .i64 (unD bs).2.2])))

theorem UDPost.bad {K : Nat → Prop} {bs : List Int} {W W' : World} {e : Ending} {x : Int} (h : unD bs = ([], 0, x)) (hx : x ≠ 0) (hb : Below W.heap.size W W') (he : e = .returned (.tuple #[.slice none 0 0, .slice none 0 0, .int .i64 x])) : UDPost K bs W e W' :=
  ⟨hb, .inr ⟨by rw [h]; exact hx, by rw [h]; exact he⟩⟩
theorem UDPost.good {K : Nat → Prop} {bs : List Int} {W W' : World} {e : Ending} {l : List (List UInt8)} {c : Nat} {a1 a2 : Option Addr} {n1 c1 m : Nat} (h : unD bs = (l, c, 0)) (hb : Below W.heap.size W W') (he : e = .returned (.tuple #[.slice a1 n1 c1, .slice a2 m m, .int .i64 0]))
    (hR : RdS (fun b => W.heap.size ≤ b) W' a1 n1 c1 l) (hR2 : Rd K W .u8 a2 m m (bs.drop c)) : UDPost K bs W e W' :=
  ⟨hb, .inl ⟨by rw [h], a1, n1, c1, a2, m, he, by rw [h]; exact hR, by rw [h]; exact hR2⟩⟩

/-- The call's own first four blocks. -/
structure Four (w V : World) (b r0 r1 : Value) (x : Int) : Prop where
  hb : Boxed V w.heap.size 22 b
  h0 : Boxed V (w.heap.size + 1) 23 r0
  h1 : Boxed V (w.heap.size + 2) 22 r1
  h2 : Boxed V (w.heap.size + 3) 33 (.int .i64 x)
  bl : Below w.heap.size w V

theorem Four.new (w : World) (b : Value) : Four w ((((w.alloc (.cells #[b] 22)).alloc (.cells #[.slice none 0 0] 23)).alloc (.cells #[.slice none 0 0] 22)).alloc (.cells #[.int .i64 0] 33)) b (.slice none 0 0) (.slice none 0 0) 0 := by
  have B0 := (((Boxed.new w 22 b).alloc (.cells #[.slice none 0 0] 23)).alloc (.cells #[.slice none 0 0] 22)).alloc (.cells #[.int .i64 0] 33)
  have B1 := ((Boxed.new (w.alloc (.cells #[b] 22)) 23 (.slice none 0 0)).alloc (.cells #[.slice none 0 0] 22)).alloc (.cells #[.int .i64 0] 33)
  have B2 := (Boxed.new ((w.alloc (.cells #[b] 22)).alloc (.cells #[.slice none 0 0] 23)) 22 (.slice none 0 0)).alloc (.cells #[.int .i64 0] 33)
  have B3 := Boxed.new (((w.alloc (.cells #[b] 22)).alloc (.cells #[.slice none 0 0] 23)).alloc (.cells #[.slice none 0 0] 22)) 33 (.int .i64 0)
  simp only [World.size_alloc] at B1 B2 B3
  exact ⟨B0, B1, B2, B3, ((((Below.refl _ w).alloc (Nat.le_refl _) _).alloc (by simp) _).alloc (by simp; omega) _).alloc (by simp; omega) _⟩

set_option maxRecDepth 100000 in
set_option maxHeartbeats 4000000 in
theorem unpack_err {K : Nat → Prop} {a : Option Addr} {len cap : Nat} {bs : List Int} (ho : Oct bs) {w : World} (hR : Rd K w .u8 a len cap bs) (he : (rdS bs).2.2 ≠ 0) :
    Calls Try.prog 50 #[.slice a len cap] w (UDPost K bs w) := by
  have hun : unD bs = ([], 0, (rdS bs).2.2) := by unfold unD; rw [if_pos he]
  have hF := Four.new w (.slice a len cap)
  have hrb := read_bad ho (hR.below hF.bl) he rfl
  have hxb : ((rdS bs).2.2 != 0) = true := by simpa using he
  have HX := Lib.hid he
  have HF := Lib.hid hF
  have HRB := Lib.hid hrb
  clear he hR hF hrb
  generalize (rdS bs).2.2 = x at *
  have HUN := Lib.hid hun
  clear hun
  go_enter Try.func50, Try.ntmps50
  go_wp2_with fail
  generalize (((w.alloc (.cells #[.slice a len cap] 22)).alloc (.cells #[.slice none 0 0] 23)).alloc (.cells #[.slice none 0 0] 22)).alloc (.cells #[.int .i64 0] 33) = V at *
  refine HRB.out.mono ?_
  rintro e w' ⟨rfl, rfl⟩
  have q0 := HF.out.hb.cell
  have q1 := HF.out.h0.cell
  have q2 := HF.out.h1.cell
  have q3 := HF.out.h2.cell
  have f0 := HF.out.hb.frozen
  have f1 := HF.out.h0.frozen
  have f2 := HF.out.h1.frozen
  have f3 := HF.out.h2.frozen
  go_wp2
  exact bodyPost_ret (v := .tuple #[.slice none 0 0, .slice none 0 0, .int .i64 x]) (by simp [results, Try.results50, go_sem, q1, q2, q3]) rfl
    (UDPost.bad HUN.out HX.out ((((HF.out.bl.setCell (Nat.le_refl _) _).setCell (by simp) _).setCell (by simp; omega) _).setCell (by simp; omega) _) rfl)

set_option maxRecDepth 100000 in
set_option maxHeartbeats 4000000 in
theorem unpack_much {K : Nat → Prop} {a : Option Addr} {len cap : Nat} {bs : List Int} (ho : Oct bs) {w : World} (hR : Rd K w .u8 a len cap bs) {N c : Nat} (he : rdS bs = ((N : Int), c, 0)) (hN : 4096 < N) :
    Calls Try.prog 50 #[.slice a len cap] w (UDPost K bs w) := by
  have hun : unD bs = ([], 0, 5) := by unfold unD; rw [he, if_neg (by simp), if_pos (by show (4096 : Int) < (N : Int); omega)]
  have hF := Four.new w (.slice a len cap)
  have hrb := read_good ho (hR.below hF.bl) he
  have HF := Lib.hid hF
  have HRB := Lib.hid hrb
  clear he hR hF hrb
  have HUN := Lib.hid hun
  clear hun
  go_enter Try.func50, Try.ntmps50
  go_wp2_with fail
  generalize (((w.alloc (.cells #[.slice a len cap] 22)).alloc (.cells #[.slice none 0 0] 23)).alloc (.cells #[.slice none 0 0] 22)).alloc (.cells #[.int .i64 0] 33) = V at *
  refine HRB.out.mono ?_
  rintro e w' ⟨rfl, a1, m1, rfl, hR1⟩
  clear hR1
  have q0 := HF.out.hb.cell
  have q1 := HF.out.h0.cell
  have q2 := HF.out.h1.cell
  have q3 := HF.out.h2.cell
  have f0 := HF.out.hb.frozen
  have f1 := HF.out.h0.frozen
  have f2 := HF.out.h1.frozen
  have f3 := HF.out.h2.frozen
  go_wp2
  exact bodyPost_ret (v := .tuple #[.slice none 0 0, .slice none 0 0, .int .i64 5]) (by simp [results, Try.results50, go_sem, q1, q2, q3]) rfl
    (UDPost.bad HUN.out (by decide) ((((HF.out.bl.setCell (Nat.le_refl _) _).setCell (by simp) _).setCell (by simp; omega) _).setCell (by simp; omega) _) rfl)

theorem Rd.below_of {K : Nat → Prop} {w V : World} {k : IntKind} {a : Option Addr} {len cap : Nat} {zs : List Int} (h : Rd K w k a len cap zs) (hb : Below w.heap.size w V) : Rd K V k a len cap zs := h.below hb

/-- Between two parts. -/
def unI (w : World) (K : Nat → Prop) (bs : List Int) (N k : Nat) (V : World) : Prop :=
  ∃ d pos a m, Hid (UnAt bs N k d pos) ∧ Hid (Rd K w .u8 a m m (bs.drop pos)) ∧ Four w V (.slice a m m) (.slice none 0 0) (.slice none 0 0) 0 ∧ Boxed V (w.heap.size + 5) 23 (.slice (some ⟨w.heap.size + 4, 0, none⟩) k N) ∧
    V.ownsRow (w.heap.size + 4) 9 1 (.slice (some ⟨w.heap.size + 4, 0, none⟩) k N) k (d.map encStr)

theorem Four.kept {w V U : World} {b r0 r1 : Value} {x : Int} (h : Four w V b r0 r1 x) (hk : Kept (fun i => i < w.heap.size + 4) V U) : Four w U b r0 r1 x :=
  ⟨hk.boxed h.hb (by omega), hk.boxed h.h0 (by omega), hk.boxed h.h1 (by omega), hk.boxed h.h2 (by omega), h.bl.trans ⟨hk.os, hk.tape, hk.output, hk.size, fun i hi => hk.block i (by have := h.bl.size; omega) (by omega)⟩⟩

theorem unI_own {w : World} {K : Nat → Prop} {bs : List Int} {N : Nat} : OwnFrom (w.heap.size + 8) (unI w K bs N) := by
  rintro k V V' row ⟨d, pos, a, m, h1, h2, h3, h4, h5⟩ hg hr
  have hk : Kept (fun b => b < w.heap.size + 8) V V' := Kept.of_grownBy hg (fun r e hlt => by have := (hr r e).1; omega)
  exact ⟨d, pos, a, m, h1, h2, h3.kept (hk.mono fun b h => by omega), hk.boxed h4 (by omega), hk.row h5 (by omega)⟩

/-- A round has said that something is wrong. -/
def unX (w : World) (bs : List Int) (N : Nat) (V : World) : Prop :=
  ∃ x bv, Hid (unF N [] bs = ([], 0, x) ∧ x ≠ 0) ∧ Four w V bv (.slice none 0 0) (.slice none 0 0) x

theorem unX_own {w : World} {bs : List Int} {N : Nat} : OwnFrom (w.heap.size + 8) (fun _ : Unit => unX w bs N) := by
  rintro _ V V' row ⟨x, bv, h1, h2⟩ hg hr
  have hk : Kept (fun b => b < w.heap.size + 8) V V' := Kept.of_grownBy hg (fun r e hlt => by have := (hr r e).1; omega)
  exact ⟨x, bv, h1, h2.kept (hk.mono fun b h => by omega)⟩

theorem own_made0 (w : World) (base : Nat) (e : TypeId) (z : Value) (n : Nat) (hn : n ≤ maxLen) (hb : base ≤ w.heap.size) :
    (w.alloc (.cells (madeCells #[z] n) e)).ownsRow base e 1 (.slice (some ⟨w.heap.size, 0, none⟩) 0 n) 0 [] :=
  ⟨rfl, .inr ⟨w.heap.size, n, madeCells #[z] n, rfl, hb, World.alloc_heap_new w _, Nat.zero_le _, hn, by simp [size_madeCells], by simp⟩⟩

/-- What lies there when the parts begin. -/
theorem un_start {w V VV : World} {K : Nat → Prop} {b : Value} {bs : List Int} {a : Option Addr} {m N : Nat} (hF : Four w V b (.slice none 0 0) (.slice none 0 0) 0) (hz : V.heap.size = w.heap.size + 4) (hR : Rd K w .u8 a m m bs) (hN : N ≤ 4096)
    (hVV : VV = ((((V.setCell ⟨w.heap.size, 0, none⟩ (.slice a m m)).alloc (.cells (madeCells #[.string ⟨#[]⟩] N) 9)).alloc (.cells #[.slice (some ⟨w.heap.size + 4, 0, none⟩) 0 N] 23)).alloc (.cells #[.slice a m m] 22)).alloc (.cells #[.int .i64 N] 3)) :
    unI w K bs N 0 VV ∧ VV.heap.size = w.heap.size + 8 ∧ VV.cell? ⟨w.heap.size + 6, 0, none⟩ = some (.slice a m m) ∧ VV.cell? ⟨w.heap.size + 7, 0, none⟩ = some (.int .i64 N) ∧ Below w.heap.size w VV := by
  obtain ⟨hb, h0, h1, h2, hbl⟩ := hF
  have hs1 : (V.setCell ⟨w.heap.size, 0, none⟩ (.slice a m m)).heap.size = w.heap.size + 4 := by rw [World.size_setCell]; exact hz
  have e0 := hb.set (.slice a m m)
  have e1 := h0.other (B' := w.heap.size) (by omega) (.slice a m m)
  have e2 := h1.other (B' := w.heap.size) (by omega) (.slice a m m)
  have e3 := h2.other (B' := w.heap.size) (by omega) (.slice a m m)
  have eb := hbl.setCell (p := ⟨w.heap.size, 0, none⟩) (Nat.le_refl _) (.slice a m m)
  generalize V.setCell ⟨w.heap.size, 0, none⟩ (.slice a m m) = V1 at *
  have r4 := own_made0 V1 (w.heap.size + 4) 9 (.string ⟨#[]⟩) N (by unfold maxLen; omega) (by omega)
  rw [hs1] at r4
  have hs2 : (V1.alloc (.cells (madeCells #[.string ⟨#[]⟩] N) 9)).heap.size = w.heap.size + 5 := by rw [World.size_alloc, hs1]
  have r5 := (((Boxed.new (V1.alloc (.cells (madeCells #[.string ⟨#[]⟩] N) 9)) 23 (.slice (some ⟨w.heap.size + 4, 0, none⟩) 0 N)).alloc (.cells #[.slice a m m] 22)).alloc (.cells #[.int .i64 N] 3))
  rw [hs2] at r5
  have r6 := (Boxed.new ((V1.alloc (.cells (madeCells #[.string ⟨#[]⟩] N) 9)).alloc (.cells #[.slice (some ⟨w.heap.size + 4, 0, none⟩) 0 N] 23)) 22 (.slice a m m)).alloc (.cells #[.int .i64 N] 3)
  rw [World.size_alloc, hs2] at r6
  have r7 := Boxed.new (((V1.alloc (.cells (madeCells #[.string ⟨#[]⟩] N) 9)).alloc (.cells #[.slice (some ⟨w.heap.size + 4, 0, none⟩) 0 N] 23)).alloc (.cells #[.slice a m m] 22)) 3 (.int .i64 N)
  rw [World.size_alloc, World.size_alloc, hs2] at r7
  have hbv : Below w.heap.size w ((((V1.alloc (.cells (madeCells #[.string ⟨#[]⟩] N) 9)).alloc (.cells #[.slice (some ⟨w.heap.size + 4, 0, none⟩) 0 N] 23)).alloc (.cells #[.slice a m m] 22)).alloc (.cells #[.int .i64 N] 3)) :=
    (((eb.alloc eb.size _).alloc (by rw [World.size_alloc]; omega) _).alloc (by rw [World.size_alloc, World.size_alloc]; omega) _).alloc (by rw [World.size_alloc, World.size_alloc, World.size_alloc]; omega) _
  subst hVV
  refine ⟨⟨[], 0, a, m, UnAt.start bs N, by rw [List.drop_zero]; exact hR, ⟨(((e0.alloc _).alloc _).alloc _).alloc _, (((e1.alloc _).alloc _).alloc _).alloc _, (((e2.alloc _).alloc _).alloc _).alloc _, (((e3.alloc _).alloc _).alloc _).alloc _, hbv⟩, r5, ((r4.alloc _).alloc _).alloc _⟩, ?_, r6.cell, r7.cell, hbv⟩
  rw [World.size_alloc, World.size_alloc, World.size_alloc, hs2]

theorem grownBy_set5 (W : World) (p : Addr) (v : Value) : W.grownBy (W.setCell p v) (some p.block) :=
  ⟨rfl, rfl, rfl, (KeepsWalks.setCell W _ v).size, fun k _ hk => Below.heap_setCell _ _ _ k (fun e => hk (by rw [e]))⟩

theorem Four.put {w W : World} {b r0 r1 : Value} {x0 : Int} (h : Four w W b r0 r1 x0) (s0 s1 : Value) (x : Int) :
    Four w (((W.setCell ⟨w.heap.size + 1, 0, none⟩ s0).setCell ⟨w.heap.size + 1 + 1, 0, none⟩ s1).setCell ⟨w.heap.size + 1 + 1 + 1, 0, none⟩ (.int .i64 x)) b s0 s1 x ∧
    ∀ K : Nat → Prop, (∀ k, K k → ¬ (w.heap.size + 1 ≤ k ∧ k ≤ w.heap.size + 3)) → Kept K W (((W.setCell ⟨w.heap.size + 1, 0, none⟩ s0).setCell ⟨w.heap.size + 1 + 1, 0, none⟩ s1).setCell ⟨w.heap.size + 1 + 1 + 1, 0, none⟩ (.int .i64 x)) := by
  obtain ⟨hb, h0, h1, h2, hbl⟩ := h
  refine ⟨⟨((hb.other (B' := w.heap.size + 1) (by omega) _).other (B' := w.heap.size + 1 + 1) (by omega) _).other (B' := w.heap.size + 1 + 1 + 1) (by omega) _, ((h0.set _).other (B' := w.heap.size + 1 + 1) (by omega) _).other (B' := w.heap.size + 1 + 1 + 1) (by omega) _,
    ((h1.other (B' := w.heap.size + 1) (by omega) _).set _).other (B' := w.heap.size + 1 + 1 + 1) (by omega) _, ((h2.other (B' := w.heap.size + 1) (by omega) _).other (B' := w.heap.size + 1 + 1) (by omega) _).set _,
    ((hbl.setCell (p := ⟨w.heap.size + 1, 0, none⟩) (by simp) _).setCell (p := ⟨w.heap.size + 1 + 1, 0, none⟩) (by simp; omega) _).setCell (p := ⟨w.heap.size + 1 + 1 + 1, 0, none⟩) (by simp; omega) _⟩, fun K hK => ?_⟩
  exact ((Kept.of_grownBy (grownBy_set5 W _ _) (fun r e h => by cases e; have h : K (w.heap.size + 1) := h; have := hK _ h; omega)).trans (Kept.of_grownBy (grownBy_set5 _ _ _) (fun r e h => by cases e; have h : K (w.heap.size + 1 + 1) := h; have := hK _ h; omega))).trans
    (Kept.of_grownBy (grownBy_set5 _ _ _) (fun r e h => by cases e; have h : K (w.heap.size + 1 + 1 + 1) := h; have := hK _ h; omega))

theorem Four.err {w W : World} {b : Value} (h : Four w W b (.slice none 0 0) (.slice none 0 0) 0) (x : Int) :
    Four w (((W.setCell ⟨w.heap.size + 1, 0, none⟩ (.slice none 0 0)).setCell ⟨w.heap.size + 1 + 1, 0, none⟩ (.slice none 0 0)).setCell ⟨w.heap.size + 1 + 1 + 1, 0, none⟩ (.int .i64 x)) b (.slice none 0 0) (.slice none 0 0) x ∧
    ∀ K : Nat → Prop, (∀ k, K k → ¬ (w.heap.size + 1 ≤ k ∧ k ≤ w.heap.size + 3)) → Kept K W (((W.setCell ⟨w.heap.size + 1, 0, none⟩ (.slice none 0 0)).setCell ⟨w.heap.size + 1 + 1, 0, none⟩ (.slice none 0 0)).setCell ⟨w.heap.size + 1 + 1 + 1, 0, none⟩ (.int .i64 x)) :=
  h.put _ _ x

set_option maxRecDepth 100000 in
set_option maxHeartbeats 4000000 in
theorem unpack_in (n : Nat) (hn : 4 ≤ n) {K : Nat → Prop} {a : Option Addr} {len cap : Nat} {bs : List Int} (ho : Oct bs) {w : World} (hR : Rd K w .u8 a len cap bs) {N c : Nat} (he : rdS bs = ((N : Int), c, 0)) (hN : N ≤ 4096) :
    CallsIn Fence.wide n Try.prog 50 #[.slice a len cap] w (UDPost K bs w) := by
  have hro : Fence.wide.round = none := rfl
  have h1 : 1 ≤ n := by omega
  have hfp : Fence.wide.fn 67 := trivial
  have hfr : Fence.wide.fn 66 := trivial
  have hfb : Fence.wide.fn 68 := trivial
  obtain ⟨i0, hi, hz0, hz1, hz2⟩ := info_parts Try.infoS5
  have HUN : Hid (unD bs = wrapU c (unF N [] (bs.drop c))) := by
    show _ = _
    unfold unD wrapU
    rw [he, if_neg (by simp), if_neg (by show ¬ (4096 : Int) < (N : Int); omega)]
    rfl
  have hF := Four.new w (.slice a len cap)
  have hrb := read_good ho ((hR.mono (K' := fun b => K b ∧ b < w.heap.size) fun b h1 h2 => ⟨h2, h1⟩).below hF.bl) he
  have hz4 : ((((w.alloc (.cells #[.slice a len cap] 22)).alloc (.cells #[.slice none 0 0] 23)).alloc (.cells #[.slice none 0 0] 22)).alloc (.cells #[.int .i64 0] 33)).heap.size = w.heap.size + 4 := by simp
  have HF := Lib.hid hF
  have HRB := Lib.hid hrb
  have HZ4 := Lib.hid hz4
  have hod := ho.drop c
  clear he hR hF hrb hz4
  refine callsIn_of_wp_marks Try.func50 rfl trivial ?_ rfl
  simp only [Try.ntmps50, List.size_toArray, List.length_cons, List.length_nil, Nat.reduceAdd, Nat.reduceSub, Array.replicate_succ, Array.replicate_zero, List.push_toArray, List.append_toArray, List.nil_append, List.cons_append]
  gi_wp2_with fail
  generalize (((w.alloc (.cells #[.slice a len cap] 22)).alloc (.cells #[.slice none 0 0] 23)).alloc (.cells #[.slice none 0 0] 22)).alloc (.cells #[.int .i64 0] 33) = V at *
  refine (callsIn_wide.2 HRB.out).mono ?_
  rintro e w' ⟨rfl, a1, m1, rfl, hR1⟩
  have HR1 := Lib.hid (hR1.back5 HF.out.bl)
  clear hR1
  have q0 := HF.out.hb.cell
  have f0 := HF.out.hb.frozen
  have hz := HZ4.out
  have hmk : (Instr.makeSlice 23 (.int .i64 0) (.int .u64 N)).run Try.prog (V.setCell ⟨w.heap.size, 0, none⟩ (.slice a1 m1 m1)) = .ok (.slice (some ⟨w.heap.size + 4, 0, none⟩) 0 N) ((V.setCell ⟨w.heap.size, 0, none⟩ (.slice a1 m1 m1)).alloc (.cells (madeCells #[.string ⟨#[]⟩] N) 9)) := by
    have := run_make (P := Try.prog) (V.setCell ⟨w.heap.size, 0, none⟩ (.slice a1 m1 m1)) 23 9 i0 _ Try.underlying23 hi hz0 .i64 .u64 0 N (by omega) (by omega) (by rw [hz2]; omega) (by omega)
    rw [hz1, Nat.mul_one, Int.toNat_natCast, Int.toNat_zero, World.size_setCell, hz] at this
    exact this
  have HZ1 := Lib.hid hz1
  clear hz1
  gi_wp2_with fail
  refine (callsIn_wide.2 (parts_any a1 m1 m1 N _)).mono ?_
  rintro e w' ⟨rfl, rfl⟩
  gi_wp2
  obtain ⟨hI0, hsz, h6, h7, hBVV⟩ := un_start (K := fun b => K b ∧ b < w.heap.size) HF.out hz (HR1.out.mono fun b h1 h2 => ⟨h2, h1⟩) hN rfl
  have hG := parts_gives (n - 1) (by omega) (w.heap.size + 6) (w.heap.size + 7) a1 m1 m1 N hN (fun b => K b ∧ b < w.heap.size) (bs.drop c) hod _ ((HR1.out.mono (K' := fun b => K b ∧ b < w.heap.size) fun b h1 h2 => ⟨h2, h1⟩).below hBVV) (by rw [hsz]; omega) (by rw [hsz]; omega) h6 h7
  clear hmk q0 f0 HRB h6 h7
  generalize ((((V.setCell ⟨w.heap.size, 0, none⟩ (.slice a1 m1 m1)).alloc (.cells (madeCells #[.string ⟨#[]⟩] N) 9)).alloc (.cells #[.slice (some ⟨w.heap.size + 4, 0, none⟩) 0 N] 23)).alloc (.cells #[.slice a1 m1 m1] 22)).alloc (.cells #[.int .i64 N] 3) = VV at *
  clear hz HF HZ4
  have HBVV := Lib.hid hBVV
  clear hBVV
  refine wpIn_rangeXo hro h1 (gf := 93) (lb := #[.pointer (some ⟨w.heap.size + 4 + 1 + 1, 0, none⟩), .pointer (some ⟨w.heap.size + 4 + 1 + 1 + 1, 0, none⟩)]) rfl trivial (enters_of Try.func93 (by kernel_rfl) rfl) hG (fun _ => rfl)
    (unI w (fun b => K b ∧ b < w.heap.size) (bs.drop c) N) (by rw [hsz]; exact unI_own) (unX w (bs.drop c) N) (by rw [hsz]; exact unX_own) hI0
    (fun x sz => { tmps := #[.slice a len cap, .pointer (some ⟨w.heap.size, 0, none⟩), .pointer (some ⟨w.heap.size + 1, 0, none⟩), .pointer (some ⟨w.heap.size + 1 + 1, 0, none⟩), .pointer (some ⟨w.heap.size + 1 + 1 + 1, 0, none⟩), .int .u64 N, .int .i64 0, .pointer (some ⟨w.heap.size + 4 + 1, 0, none⟩),
      .pointer (some ⟨sz, 0, none⟩), .int .i64 x.e, undef, undef, .tuple #[.int .u64 N, .slice a1 m1 m1, .int .i64 0], .slice a len cap, .tuple #[.int .u64 N, .slice a1 m1 m1, .int .i64 0], .int .u64 N, .slice a1 m1 m1, .int .i64 0, .int .i64 0, .bool false, undef, .int .u64 N, .bool (decide ((4096 : Int) < (N : Int))), .int .u64 N,
      .slice (some ⟨w.heap.size + 4, 0, none⟩) 0 N, .slice a1 m1 m1, .int .u64 N, .int .i64 N, .func (.func 93) #[] #[.pointer (some ⟨w.heap.size + 4 + 1 + 1, 0, none⟩), .pointer (some ⟨w.heap.size + 4 + 1 + 1 + 1, 0, none⟩)],
      .agg #[.int .i64 x.sh, .slice x.a1 x.n1 x.c1, .slice x.a2 x.m x.m], .int .i64 x.e, undef, undef, undef, undef, undef, undef, undef, undef, undef, undef, undef, undef, undef, undef, undef, undef, undef, undef, undef], defers := [] })
    (fun x => .cells #[.int .i64 x.sh, .slice x.a1 x.n1 x.c1, .slice x.a2 x.m x.m] 114) ?assign ?body ?done ?stop
  case assign =>
    intro l x W R hR
    simp only [encP]
    gi_wp2
    exact hR
  case body =>
    rintro l k x W ⟨pos', size', hix, hs255, hpa⟩ ⟨d, pos, ab, mb, HU, HRd, hF4, hB5, hrow⟩ hWz
    rw [hsz] at hWz
    have h3 := HU.out.2.2.2.1
    have hkN : k < N := by
      rcases Nat.lt_or_ge k N with h | h
      · exact h
      · have : (ptL (bs.drop c) N 0 0)[k]? = ((ptL (bs.drop c) N 0 0).drop k)[0]? := by rw [List.getElem?_drop, Nat.add_zero]
        rw [this, h3, show N - k = 0 by omega] at hix
        cases hix
    obtain ⟨N', hN'⟩ : ∃ N', N - k = N' + 1 := ⟨N - k - 1, by omega⟩
    rw [hN'] at h3
    have hix2 := (drop_part h3).1
    rw [hix] at hix2
    obtain ⟨rfl, rfl⟩ : pos' = pos ∧ size' = (d.getLastD []).length := by cases hix2; exact ⟨rfl, rfl⟩
    have h1' : 1 ≤ n - 1 - 1 := by omega
    have HB5 := Lib.hid hB5
    have HROW := Lib.hid hrow
    have HF4 := Lib.hid hF4
    have c1 := (hF4.h0.alloc (.cells #[.int .i64 x.sh, .slice x.a1 x.n1 x.c1, .slice x.a2 x.m x.m] 114)).cell
    have c2 := (hF4.h1.alloc (.cells #[.int .i64 x.sh, .slice x.a1 x.n1 x.c1, .slice x.a2 x.m x.m] 114)).cell
    have c3 := (hF4.h2.alloc (.cells #[.int .i64 x.sh, .slice x.a1 x.n1 x.c1, .slice x.a2 x.m x.m] 114)).cell
    have f1 := (hF4.h0.alloc (.cells #[.int .i64 x.sh, .slice x.a1 x.n1 x.c1, .slice x.a2 x.m x.m] 114)).frozen
    have f2 := (hF4.h1.alloc (.cells #[.int .i64 x.sh, .slice x.a1 x.n1 x.c1, .slice x.a2 x.m x.m] 114)).frozen
    have f3 := (hF4.h2.alloc (.cells #[.int .i64 x.sh, .slice x.a1 x.n1 x.c1, .slice x.a2 x.m x.m] 114)).frozen
    have hT := Tri5.new W 114 (.int .i64 x.sh) (.slice x.a1 x.n1 x.c1) (.slice x.a2 x.m x.m)
    have HFA : Hid (Four w (W.alloc (.cells #[.int .i64 x.sh, .slice x.a1 x.n1 x.c1, .slice x.a2 x.m x.m] 114)) (.slice ab mb mb) (.slice none 0 0) (.slice none 0 0) 0) :=
      hF4.kept ((Kept.of_below ((Below.refl _ W).alloc (Nat.le_refl _) _)).mono' fun i hi _ => hi)
    have HKA : Hid (∀ K : Nat → Prop, Kept K W (W.alloc (.cells #[.int .i64 x.sh, .slice x.a1 x.n1 x.c1, .slice x.a2 x.m x.m] 114))) := fun K => (Kept.of_below ((Below.refl _ W).alloc (Nat.le_refl _) _)).mono' fun i hi _ => hi
    clear hB5 hrow hF4 h3 hN' hix hix2
    rcases hpa with ⟨he0, a1', n1', c1', a2', m', rfl, hro1, hro2⟩ | ⟨he0, rfl⟩
    · have hU1 := HU.out.1
      have hU2 := HU.out.2.1
      have hU3 := HU.out.2.2.1
      have hsh := rp_shared (hod.drop pos') (d.getLastD []).length
      have hsz2 := rp_size (hod.drop pos') (d.getLastD []).length
      have HWR : Hid (unF N [] (bs.drop c) = ([], 0, 5) ∨ sbB d (rpS ((bs.drop c).drop pos') (d.getLastD []).length).1.1 (rpS ((bs.drop c).drop pos') (d.getLastD []).length).1.2 = true) := by
        cases hsb : sbB d (rpS ((bs.drop c).drop pos') (d.getLastD []).length).1.1 (rpS ((bs.drop c).drop pos') (d.getLastD []).length).1.2 with
        | true => exact .inr rfl
        | false => exact .inl (HU.out.wrong hkN he0 hsb)
      have HMO := Lib.hid (HU.out.more hod hkN he0)
      have hn1 := hro1.hl
      have hw1 := (hro1.back5 HBVV.out)
      have hw2 := (hro2.back5 HBVV.out)
      have hDS : RdS (fun b => w.heap.size + 4 ≤ b) W (some ⟨w.heap.size + 4, 0, none⟩) k N d := RdS.of_row hU2.symm (by omega) (fun s hs => by have := hU3 s hs; unfold maxLen; omega) HROW.out
      have hsl : (sbS d (rpS ((bs.drop c).drop pos') (d.getLastD []).length).1.1 (rpS ((bs.drop c).drop pos') (d.getLastD []).length).1.2).length ≤ 255 := by rw [sb_len (hod.drop pos')]; exact hsz2
      generalize (rpS ((bs.drop c).drop pos') (d.getLastD []).length).1.1 = sh at *
      generalize (rpS ((bs.drop c).drop pos') (d.getLastD []).length).1.2 = o at *
      generalize (rpS ((bs.drop c).drop pos') (d.getLastD []).length).2.1 = cc at *
      simp only [] at c1 c2 c3 f1 f2 f3 hT HFA HKA
      have HDA : Hid (RdS (fun b => w.heap.size + 4 ≤ b) (W.alloc (.cells #[.int .i64 (sh : Int), .slice a1' n1' c1', .slice a2' m' m'] 114)) (some ⟨w.heap.size + 4, 0, none⟩) k N d) := hDS.kept (HKA.out _)
      have HRA : Hid ((W.alloc (.cells #[.int .i64 (sh : Int), .slice a1' n1' c1', .slice a2' m' m'] 114)).ownsRow (w.heap.size + 4) 9 1 (.slice (some ⟨w.heap.size + 4, 0, none⟩) k N) k (d.map encStr)) := HROW.out.alloc _
      have HBA : Hid (Boxed (W.alloc (.cells #[.int .i64 (sh : Int), .slice a1' n1' c1', .slice a2' m' m'] 114)) (w.heap.size + 5) 23 (.slice (some ⟨w.heap.size + 4, 0, none⟩) k N)) := HB5.out.alloc _
      have hWB : W.heap.size < (W.alloc (.cells #[.int .i64 (sh : Int), .slice a1' n1' c1', .slice a2' m' m'] 114)).heap.size := by simp
      have hpc : (fun b => K b ∧ b < w.heap.size) = (fun b => K b ∧ b < w.heap.size) := rfl
      clear hDS hro1 hro2 he0 hpc
      generalize W.alloc (.cells #[.int .i64 (sh : Int), .slice a1' n1' c1', .slice a2' m' m'] 114) = WA at *
      have HOA : Hid (Rd K WA .u8 a1' n1' c1' o) := hw1.below_of HFA.out.bl
      have HSB : Hid (Calls Try.prog 68 #[.agg #[.int .i64 (sh : Int), .slice a1' n1' c1', .slice a2' m' m'], .slice (some ⟨w.heap.size + 4, 0, none⟩) k N] WA fun e W' =>
          e = .returned (.tuple #[.string (bsOf (sbS d sh o)), .bool (sbB d sh o)]) ∧ Below WA.heap.size WA W') := by
        rcases Nat.eq_zero_or_pos k with hk0 | hk0
        · subst hk0
          obtain rfl : d = [] := List.eq_nil_of_length_eq_zero hU2
          rw [(sb_nil sh o).1, (sb_nil sh o).2]
          exact behind_none HOA.out sh _
        · exact behind_some HDA.out hk0 HOA.out sh hsh (last_le hU3) (by rw [hn1]; omega) _
      have HSL := Lib.hid hsl
      have HN1 := Lib.hid hn1
      have HU2 := Lib.hid hU2
      have HT := Lib.hid hT
      have HW2 : Hid (Rd K w .u8 a2' m' m' ((bs.drop c).drop (pos' + cc))) := hw2
      clear hsh hsz2 hw1 hw2 hU3 hU2 hn1 hsl hT
      generalize sbS d sh o = ss at *
      generalize hbb : sbB d sh o = bb at *
      obtain ⟨SS, hSS⟩ : ∃ SS, bsOf ss = SS := ⟨_, rfl⟩
      rw [hSS] at HSB
      have HSS := Lib.hid hSS
      have d5 := HBA.out.cell
      have d5' : WA.cell? ⟨w.heap.size + 4 + 1, 0, none⟩ = some (.slice (some ⟨w.heap.size + 4, 0, none⟩) k N) := d5
      obtain ⟨t0, t1, t2⟩ := HT.out.cell
      clear hSS hbb
      gi_wp2_with fail
      refine (CallsIn.inRound l (callsIn_wide.2 HSB.out)).mono ?_
      rintro e w3 ⟨rfl, hb3⟩
      have hK3 : Kept (fun i => i < WA.heap.size) WA w3 := Kept.of_below hb3
      have HF3 : Hid (Four w w3 (.slice ab mb mb) (.slice none 0 0) (.slice none 0 0) 0) := HFA.out.kept (hK3.mono' fun i hi _ => hi)
      have HBB3 : Hid (Boxed w3 (w.heap.size + 5) 23 (.slice (some ⟨w.heap.size + 4, 0, none⟩) k N)) := (hK3.mono' (K' := fun _ => True) fun i hi _ => hi).boxed HBA.out trivial
      have HR3 : Hid (w3.ownsRow (w.heap.size + 4) 9 1 (.slice (some ⟨w.heap.size + 4, 0, none⟩) k N) k (d.map encStr)) := (hK3.mono' (K' := fun _ => True) fun i hi _ => hi).row HRA.out trivial
      have HT3 : Hid (Tri5 w3 W.heap.size 114 (.int .i64 sh) (.slice a1' n1' c1') (.slice a2' m' m')) := HT.out.below hb3 hWB
      have HK3 : Hid (∀ K : Nat → Prop, Kept K W w3) := fun K => (HKA.out K).trans (hK3.mono' fun i hi _ => hi)
      have h3s : WA.heap.size ≤ w3.heap.size := hb3.size
      clear hb3 hK3 c1 c2 c3 f1 f2 f3 d5 d5' t0 t1 t2
      have c1 := HF3.out.h0.cell
      have c2 := HF3.out.h1.cell
      have c3 := HF3.out.h2.cell
      have f1 := HF3.out.h0.frozen
      have f2 := HF3.out.h1.frozen
      have f3 := HF3.out.h2.frozen
      cases bb with
      | false =>
        have HBAD : Hid (unF N [] (bs.drop c) = ([], 0, 5)) := HWR.out.resolve_right (by decide)
        gi_wp2
        obtain ⟨g1, g2⟩ := HF3.out.err 5
        exact ⟨(HK3.out _).trans (g2 _ fun k h => by rw [hsz] at h; omega), 5, _, ⟨HBAD.out, by decide⟩, g1⟩
      | true =>
        have d5 := HBB3.out.cell
        have d5' : w3.cell? ⟨w.heap.size + 4 + 1, 0, none⟩ = some (.slice (some ⟨w.heap.size + 4, 0, none⟩) k N) := d5
        gi_wp2_with (gi_at_builtin; refine wpListIn_append_fits _ rfl _ _ 23 rfl (w.heap.size + 4) 9 i0 1 Try.underlying23 hi HZ1.out (w.heap.size + 4) k N _ rfl (HR3.out.alloc _) ⟨w3.heap.size, 0, none⟩ 1 1 [.string SS] rfl rfl (cell_one_new _ _ _) (fun u hu => by rw [List.mem_singleton.1 hu]; rfl) (by omega) ?_; intro w4 hown4 hgr4; have HK4 : Hid (∀ K : Nat → Prop, (∀ i, K i → i ≠ w.heap.size + 4) → Kept K w3 w4) := (fun K hK => ((Kept.of_below ((Below.refl _ w3).alloc (Nat.le_refl _) (.cells #[.string SS] 9))).mono' fun i hi _ => hi).trans (Kept.of_grownBy hgr4 (fun r e h => by cases e; exact hK _ h rfl))); have HO4 := Lib.hid hown4; clear hgr4 hown4; have HF4b : Hid (Four w w4 (.slice ab mb mb) (.slice none 0 0) (.slice none 0 0) 0) := HF3.out.kept (HK4.out _ fun i h => by omega); have HB4b : Hid (Boxed w4 (w.heap.size + 5) 23 (.slice (some ⟨w.heap.size + 4, 0, none⟩) k N)) := (HK4.out (fun i => i = w.heap.size + 5) (fun i h => by omega)).boxed HBB3.out rfl; have HT4 : Hid (Tri5 w4 W.heap.size 114 (.int .i64 sh) (.slice a1' n1' c1') (.slice a2' m' m')) := ((HK4.out (fun i => i = W.heap.size) (fun i h => by omega)).block W.heap.size HT3.out.lt rfl).trans HT3.out; obtain ⟨t0, t1, t2⟩ := HT4.out.cell; have b5 := HB4b.out.cell; have b5' : w4.cell? ⟨w.heap.size + 4 + 1, 0, none⟩ = some (.slice (some ⟨w.heap.size + 4, 0, none⟩) k N) := b5; have g5 := HB4b.out.frozen; have g5' : w4.frozen? ⟨w.heap.size + 4 + 1, 0, none⟩ = false := g5; have b0 := HF4b.out.hb.cell; have g0 := HF4b.out.hb.frozen; have nn : ¬ W.heap.size = w.heap.size + 4 + 1 := by omega)
        have hk5 : ∀ K : Nat → Prop, (∀ i, K i → i ≠ w.heap.size ∧ i ≠ w.heap.size + 5) → Kept K w4 ((w4.setCell ⟨w.heap.size + 4 + 1, 0, none⟩ (.slice (some ⟨w.heap.size + 4, 0, none⟩) (k + 1) N)).setCell ⟨w.heap.size, 0, none⟩ (.slice a2' m' m')) := fun K hK =>
          (Kept.of_grownBy (grownBy_set5 w4 _ _) (fun r e h => by cases e; exact (hK _ h).2 rfl)).trans (Kept.of_grownBy (grownBy_set5 _ _ _) (fun r e h => by cases e; exact (hK _ h).1 rfl))
        refine ⟨((HK3.out _).trans (HK4.out _ ?_)).trans (hk5 _ ?_), d ++ [ss], pos' + cc, a2', m', HMO.out trivial, HW2.out.mono (fun b h1 h2 => ⟨h2, h1⟩), ?_, ?_, ?_⟩
        · intro i h; rw [hsz] at h; omega
        · intro i h; rw [hsz] at h; omega
        · obtain ⟨e0, e1, e2, e3, eb⟩ := HF4b.out
          exact ⟨(e0.other (B' := w.heap.size + 4 + 1) (by omega) _).set _, (e1.other (B' := w.heap.size + 4 + 1) (by omega) _).other (B' := w.heap.size) (by omega) _, (e2.other (B' := w.heap.size + 4 + 1) (by omega) _).other (B' := w.heap.size) (by omega) _,
            (e3.other (B' := w.heap.size + 4 + 1) (by omega) _).other (B' := w.heap.size) (by omega) _, (eb.setCell (p := ⟨w.heap.size + 4 + 1, 0, none⟩) (by simp; omega) _).setCell (p := ⟨w.heap.size, 0, none⟩) (Nat.le_refl _) _⟩
        · exact ((HB4b.out.set (.slice (some ⟨w.heap.size + 4, 0, none⟩) (k + 1) N)).other (B' := w.heap.size) (by omega) _)
        · have hr := HO4.out
          have e1 : d.map encStr ++ [.string SS] = (d ++ [ss]).map encStr := by
            rw [List.map_append, ← HSS.out]; rfl
          rw [e1] at hr
          exact (hk5 (fun i => i = w.heap.size + 4) (fun i h => by omega)).row hr rfl
    · have HBAD := Lib.hid (HU.out.bad hkN he0)
      have HX := Lib.hid he0
      have hxb : ((rpS ((bs.drop c).drop pos') (d.getLastD []).length).2.2 != 0) = true := by simpa using he0
      clear he0
      generalize (rpS ((bs.drop c).drop pos') (d.getLastD []).length).2.2 = x at *
      simp only [] at c1 c2 c3 f1 f2 f3 hT HFA HKA
      generalize W.alloc (.cells #[.int .i64 0, .slice none 0 0, .slice none 0 0] 114) = WA at *
      gi_wp2
      obtain ⟨g1, g2⟩ := HFA.out.err x
      exact ⟨(HKA.out _).trans (g2 _ fun k h => by rw [hsz] at h; omega), x, _, ⟨HBAD.out, HX.out⟩, g1⟩
  case done =>
    rintro D W hD hWz ⟨d, pos, ab, mb, HU, HRd, hF4, hB5, hrow⟩ hDx
    rw [hsz] at hWz hD
    obtain ⟨hkN, hunf⟩ := HU.out.done rfl
    rw [hkN] at hB5 hrow
    have hU2 := HU.out.2.1
    have hU3 := HU.out.2.2.1
    rw [hkN] at hU2
    have HUD : Hid (unD bs = (d, c + pos, 0)) := by rw [hunf] at HUN; exact HUN
    have b0 := hF4.hb.cell
    have c1 := hF4.h0.cell
    have c2 := hF4.h1.cell
    have c3 := hF4.h2.cell
    have f1 := hF4.h0.frozen
    have f2 := hF4.h1.frozen
    have f3 := hF4.h2.frozen
    have b5 := hB5.cell
    have b5' : W.cell? ⟨w.heap.size + 4 + 1, 0, none⟩ = some (.slice (some ⟨w.heap.size + 4, 0, none⟩) N N) := b5
    have HROW := Lib.hid hrow
    have HF4 := Lib.hid hF4
    have HDX := Lib.hid hDx
    clear hrow hF4 hB5 hDx hunf hkN
    gi_wp2
    gi_big_region
    obtain ⟨g1, g2⟩ := HF4.out.put (.slice (some ⟨w.heap.size + 4, 0, none⟩) N N) (.slice ab mb mb) 0
    have G1 := Lib.hid (g1.kept ((Kept.refl (fun i => i < w.heap.size + 4) _).drew))
    have GR : Hid ((((W.setCell ⟨w.heap.size + 1, 0, none⟩ (.slice (some ⟨w.heap.size + 4, 0, none⟩) N N)).setCell ⟨w.heap.size + 1 + 1, 0, none⟩ (.slice ab mb mb)).setCell ⟨w.heap.size + 1 + 1 + 1, 0, none⟩ (.int .i64 0)).drew.ownsRow (w.heap.size + 4) 9 1 (.slice (some ⟨w.heap.size + 4, 0, none⟩) N N) N (d.map encStr)) :=
      (g2 (fun i => i = w.heap.size + 4) (fun i h => by omega)).drew.row HROW.out rfl
    have hDx2 : (((W.setCell ⟨w.heap.size + 1, 0, none⟩ (.slice (some ⟨w.heap.size + 4, 0, none⟩) N N)).setCell ⟨w.heap.size + 1 + 1, 0, none⟩ (.slice ab mb mb)).setCell ⟨w.heap.size + 1 + 1 + 1, 0, none⟩ (.int .i64 0)).drew.heap[D]? = some (.deferred (some [])) :=
      ((g2 (fun i => i = D) (fun i h => by omega)).drew.block D (Array.getElem?_eq_some_iff.1 HDX.out).1 rfl).trans HDX.out
    have HDX2 := Lib.hid hDx2
    clear g1 g2 hDx2 b0 c1 c2 c3 f1 f2 f3 b5 b5'
    generalize (((W.setCell ⟨w.heap.size + 1, 0, none⟩ (.slice (some ⟨w.heap.size + 4, 0, none⟩) N N)).setCell ⟨w.heap.size + 1 + 1, 0, none⟩ (.slice ab mb mb)).setCell ⟨w.heap.size + 1 + 1 + 1, 0, none⟩ (.int .i64 0)).drew = WF at *
    gi_wp2
    refine ⟨by simp, .inl ⟨_, _, rfl, run_takeDeferred HDX2.out, ?_⟩⟩
    have hq1 : (WF.putObj D (.deferred none)).cell? ⟨w.heap.size + 1, 0, none⟩ = some (.slice (some ⟨w.heap.size + 4, 0, none⟩) N N) := (World.cell?_of_block (w := WF) (World.putObj_heap_other (by show w.heap.size + 1 ≠ D; omega))).trans G1.out.h0.cell
    have hq2 : (WF.putObj D (.deferred none)).cell? ⟨w.heap.size + 2, 0, none⟩ = some (.slice ab mb mb) := (World.cell?_of_block (w := WF) (World.putObj_heap_other (by show w.heap.size + 2 ≠ D; omega))).trans G1.out.h1.cell
    have hq3 : (WF.putObj D (.deferred none)).cell? ⟨w.heap.size + 3, 0, none⟩ = some (.int .i64 0) := (World.cell?_of_block (w := WF) (World.putObj_heap_other (by show w.heap.size + 3 ≠ D; omega))).trans G1.out.h2.cell
    refine ⟨.tuple #[.slice (some ⟨w.heap.size + 4, 0, none⟩) N N, .slice ab mb mb, .int .i64 0], by simp [results, Try.results50, go_sem, hq1, hq2, hq3], ?_⟩
    have hgp : WF.grownBy (WF.putObj D (.deferred none)) (some D) := grownBy_putObj' _ _ _
    refine UDPost.good HUD.out (G1.out.bl.grown hgp G1.out.bl.size (fun r e => by cases e; omega)) rfl ?_ ?_
    · have hr := (Kept.of_grownBy (K := fun i => i = w.heap.size + 4) hgp (fun r e h => by cases e; omega)).row GR.out rfl
      exact (RdS.of_row hU2.symm (by omega) (fun s hs => by have := hU3 s hs; unfold maxLen; omega) hr).mono fun b _ h => by omega
    · have := HRd.out.mono (K' := K) fun b _ h => h.1
      rwa [List.drop_drop] at this
  case stop =>
    rintro D W hD hWz ⟨x, bv, HX, hF4⟩ hDx
    rw [hsz] at hWz hD
    have HUD : Hid (unD bs = ([], 0, x)) := by
      have := HUN.out
      rw [HX.out.1] at this
      show _ = _
      rw [this]; unfold wrapU; rw [if_pos HX.out.2]
    have c1 := hF4.h0.cell
    have c2 := hF4.h1.cell
    have c3 := hF4.h2.cell
    gi_wp2
    refine ⟨by simp, .inl ⟨_, _, rfl, run_takeDeferred hDx, ?_⟩⟩
    have hq1 : (W.putObj D (.deferred none)).cell? ⟨w.heap.size + 1, 0, none⟩ = some (.slice none 0 0) := (World.cell?_of_block (w := W) (World.putObj_heap_other (by show w.heap.size + 1 ≠ D; omega))).trans c1
    have hq2 : (W.putObj D (.deferred none)).cell? ⟨w.heap.size + 2, 0, none⟩ = some (.slice none 0 0) := (World.cell?_of_block (w := W) (World.putObj_heap_other (by show w.heap.size + 2 ≠ D; omega))).trans c2
    have hq3 : (W.putObj D (.deferred none)).cell? ⟨w.heap.size + 3, 0, none⟩ = some (.int .i64 x) := (World.cell?_of_block (w := W) (World.putObj_heap_other (by show w.heap.size + 3 ≠ D; omega))).trans c3
    refine ⟨.tuple #[.slice none 0 0, .slice none 0 0, .int .i64 x], by simp [results, Try.results50, go_sem, hq1, hq2, hq3], ?_⟩
    exact UDPost.bad HUD.out HX.out.2 (hF4.bl.grown (grownBy_putObj' _ _ _) hF4.bl.size (fun r e => by cases e; omega)) rfl

theorem unpack_dict {K : Nat → Prop} {a : Option Addr} {len cap : Nat} {bs : List Int} (ho : Oct bs) {w : World} (hR : Rd K w .u8 a len cap bs) :
    Calls Try.prog 50 #[.slice a len cap] w (UDPost K bs w) := by
  by_cases he : (rdS bs).2.2 = 0
  · obtain ⟨N, hN⟩ := Int.eq_ofNat_of_zero_le (rdS_u645 ho).1
    have hrd : rdS bs = ((N : Int), (rdS bs).2.1, 0) := by rw [← hN, ← he]
    by_cases h : N ≤ 4096
    · exact callsIn_wide.1 (unpack_in 8 (by decide) ho hR hrd h)
    · exact unpack_much ho hR hrd (by omega)
  · exact unpack_err ho hR he

end Go.Proofs.Ytdcapmbgnoahpaa
