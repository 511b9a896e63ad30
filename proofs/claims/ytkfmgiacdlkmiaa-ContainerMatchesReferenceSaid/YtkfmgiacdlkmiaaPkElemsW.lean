/-
  Bits into elements: the contract of what gathers them, whatever the iterator is.
-/
import Derived.Test.YtkfmgiacdlkmiaaPkRepeat
import Derived.Test.YtkfmgiacdlkmiaaPkElems
namespace Go.Proofs.Ytkfmgiacdlkmiaa
open Go.RowKit Go.Shelf Go.ChangeShapes Go.WideShapes Go.ChangeAt
attribute [local go_sem] Oper.semAt_some

/-- Between two bits: k of them are in. N is where the call's own variables begin, behind the row. -/
def elemsI (w : World) (N : Nat) (b : Int) (wd n : Nat) (bl : List Int) (k : Nat) (V : World) : Prop :=
  V.heap[w.heap.size]? = some (.cells #[.int .i64 b, .int .i64 wd] 72 (0, 0)) ∧ Boxed V (w.heap.size + 1) 3 (.int .i64 n) ∧
  Boxed V (w.heap.size + 2) 22 (.slice none 0 0) ∧ Boxed V (w.heap.size + 3) 4 (.bool false) ∧
  Boxed V N 22 (.slice (some ⟨w.heap.size + 5, 0, none⟩) n n) ∧ Boxed V (N + 1) 3 (.int .i64 (elI wd n k)) ∧ Boxed V (N + 2) 3 (.int .i64 (elP wd n k)) ∧
  V.ownsRow (w.heap.size + 5) 3 1 (.slice (some ⟨w.heap.size + 5, 0, none⟩) n n) n ((elB b bl wd k n).map (Value.int .i64)) ∧ Below w.heap.size w V ∧
  Hid (∀ j, n * wd ≤ j → j < k → bl[j]?.getD 0 = 0)

theorem elemsI_kept {w V V' : World} {N : Nat} {b : Int} {wd n k : Nat} {bl : List Int} (hN : w.heap.size + 6 ≤ N) (hi : elemsI w N b wd n bl k V) (hk : Kept (fun b => b < N + 3) V V') : elemsI w N b wd n bl k V' := by
  obtain ⟨h1, h2, h3, h4, h5, h6, h7, h8, h9, h10⟩ := hi
  have hs := h9.size
  refine ⟨(hk.block _ (Array.getElem?_eq_some_iff.1 h1).1 (by omega)).trans h1, hk.boxed h2 (by omega), hk.boxed h3 (by omega), hk.boxed h4 (by omega), hk.boxed h5 (by omega), hk.boxed h6 (by omega), hk.boxed h7 (by omega), hk.row h8 (by omega),
    h9.trans ⟨hk.os, hk.tape, hk.output, hk.size, fun i hi => hk.block i (by omega) (by omega)⟩, h10⟩

theorem elemsI_own {w : World} {N : Nat} {b : Int} {wd n : Nat} {bl : List Int} (hN : w.heap.size + 6 ≤ N) : OwnFrom (N + 3) (elemsI w N b wd n bl) :=
  fun k V V' row hi hg hr => elemsI_kept hN hi (Kept.of_grownBy hg (fun r e hlt => by have := (hr r e).1; omega))

/-- A round has said that there is a bit too much. -/
def elemsX (w : World) (wd n : Nat) (bl : List Int) (V : World) : Prop :=
  Boxed V (w.heap.size + 2) 22 (.slice none 0 0) ∧ Boxed V (w.heap.size + 3) 4 (.bool false) ∧ Below w.heap.size w V ∧ w.heap.size + 3 < V.heap.size ∧ Hid (∃ j, n * wd ≤ j ∧ j < bl.length ∧ bl[j]?.getD 0 ≠ 0)

theorem elemsX_kept {w V V' : World} {N : Nat} {wd n : Nat} {bl : List Int} (hN : w.heap.size + 6 ≤ N) (hi : elemsX w wd n bl V) (hk : Kept (fun b => b < N + 3) V V') : elemsX w wd n bl V' := by
  obtain ⟨h1, h2, h3, h4, h5⟩ := hi
  have hs := h3.size
  exact ⟨hk.boxed h1 (by omega), hk.boxed h2 (by omega), h3.trans ⟨hk.os, hk.tape, hk.output, hk.size, fun i hi => hk.block i (by omega) (by omega)⟩, Nat.lt_of_lt_of_le h4 hk.size, h5⟩

theorem elemsX_own {w : World} {N : Nat} {wd n : Nat} {bl : List Int} (hN : w.heap.size + 6 ≤ N) : OwnFrom (N + 3) (fun _ : Unit => elemsX w wd n bl) :=
  fun _ V V' row hi hg hr => elemsX_kept hN hi (Kept.of_grownBy hg (fun r e hlt => by have := (hr r e).1; omega))

/-- What the elements come to. -/
def ElemsPost (w : World) (b : Int) (wd n : Nat) (bl : List Int) (e : Ending) (V : World) : Prop :=
  Below w.heap.size w V ∧
  ((Hid (∀ j, n * wd ≤ j → j < bl.length → bl[j]?.getD 0 = 0) ∧ e = .returned (.tuple #[.slice (some ⟨w.heap.size + 5, 0, none⟩) n n, .bool true]) ∧
      V.ownsRow (w.heap.size + 5) 3 1 (.slice (some ⟨w.heap.size + 5, 0, none⟩) n n) n ((elB b bl wd bl.length n).map (Value.int .i64))) ∨
   (Hid (∃ j, n * wd ≤ j ∧ j < bl.length ∧ bl[j]?.getD 0 ≠ 0) ∧ e = .returned (.tuple #[.slice none 0 0, .bool false])))

set_option maxRecDepth 100000 in
set_option maxHeartbeats 4000000 in
theorem elements_in (m : Nat) (hm : 4 ≤ m) (gf : Nat) (lb : Array Value) (eg : ∀ args w, (callFunc gf args).run Try.prog w = .ok (.enter gf args) w)
    (b : Int) (hb64 : I64 b) (wd n : Nat) (hwd : wd ≤ 64) (hn1 : 1 ≤ n) (hn : n ≤ 1099511627776) (bl : List Int) (hbl : Bin bl) (h0w : wd = 0 → bl = []) (w : World)
    (hseq : ∀ w', Below w.heap.size w w' → Gives Fence.wide (m - 1) Try.prog gf lb (fun x : Int => #[Value.int .u64 x]) (fun b => b < w.heap.size) bl w') :
    CallsIn Fence.wide m Try.prog 88 #[.agg #[.int .i64 b, .int .i64 wd], .int .i64 n, .func (.func gf) #[] lb] w (ElemsPost w b wd n bl) := by
  have hro : Fence.wide.round = none := rfl
  have h1 : 1 ≤ m := by omega
  have hfr : Fence.wide.fn 90 := trivial
  refine callsIn_of_wp_marks Try.func88 rfl trivial ?_ rfl
  simp only [Try.ntmps88, List.size_toArray, List.length_cons, List.length_nil, Nat.reduceAdd, Nat.reduceSub, Array.replicate_succ, Array.replicate_zero, List.push_toArray, List.append_toArray, List.nil_append, List.cons_append]
  gi_wp2
  refine (callsIn_wide.2 (repeat_any (w.heap.size + 1 + 1 + 1 + 1) 0 1 b n hn1 hn _ (by simp) (by simp [go_sem]))).mono ?_
  rintro e w1 ⟨rfl, hrow, hb1⟩
  have F0 : ((((((w.alloc (.cells #[.int .i64 b, .int .i64 wd] 72)).alloc (.cells #[.int .i64 n] 3)).alloc (.cells #[.slice none 0 0] 22)).alloc (.cells #[.bool false] 4)).alloc (.cells #[.int .i64 b] 3)).heap[w.heap.size]?) = some (.cells #[.int .i64 b, .int .i64 wd] 72 (0, 0)) := by
    rw [Below.heap_alloc _ _ _ (by simp; omega), Below.heap_alloc _ _ _ (by simp; omega), Below.heap_alloc _ _ _ (by simp; omega), Below.heap_alloc _ _ _ (by simp), World.alloc_heap_new]
  have F1 := ((((Boxed.new (w.alloc (.cells #[.int .i64 b, .int .i64 wd] 72)) 3 (.int .i64 n))).alloc (.cells #[.slice none 0 0] 22)).alloc (.cells #[.bool false] 4)).alloc (.cells #[.int .i64 b] 3)
  have F2 := ((Boxed.new ((w.alloc (.cells #[.int .i64 b, .int .i64 wd] 72)).alloc (.cells #[.int .i64 n] 3)) 22 (.slice none 0 0)).alloc (.cells #[.bool false] 4)).alloc (.cells #[.int .i64 b] 3)
  have F3 := (Boxed.new (((w.alloc (.cells #[.int .i64 b, .int .i64 wd] 72)).alloc (.cells #[.int .i64 n] 3)).alloc (.cells #[.slice none 0 0] 22)) 4 (.bool false)).alloc (.cells #[.int .i64 b] 3)
  have hb0 : Below w.heap.size w (((((w.alloc (.cells #[.int .i64 b, .int .i64 wd] 72)).alloc (.cells #[.int .i64 n] 3)).alloc (.cells #[.slice none 0 0] 22)).alloc (.cells #[.bool false] 4)).alloc (.cells #[.int .i64 b] 3)) :=
    (((((Below.refl _ w).alloc (Nat.le_refl _) _).alloc (by simp) _).alloc (by simp; omega) _).alloc (by simp; omega) _).alloc (by simp; omega) _
  have hz5 : (((((w.alloc (.cells #[.int .i64 b, .int .i64 wd] 72)).alloc (.cells #[.int .i64 n] 3)).alloc (.cells #[.slice none 0 0] 22)).alloc (.cells #[.bool false] 4)).alloc (.cells #[.int .i64 b] 3)).heap.size = w.heap.size + 5 := by simp
  simp only [World.size_alloc] at F1 F2 F3
  generalize ((((w.alloc (.cells #[.int .i64 b, .int .i64 wd] 72)).alloc (.cells #[.int .i64 n] 3)).alloc (.cells #[.slice none 0 0] 22)).alloc (.cells #[.bool false] 4)).alloc (.cells #[.int .i64 b] 3) = w5 at *
  rw [hz5] at hrow hb1 ⊢
  have hK5 : Kept (fun i => i < w.heap.size + 5) w5 w1 := Kept.of_below hb1
  have G0 := (hK5.block w.heap.size (by omega) (by omega)).trans F0
  have G1 := hK5.boxed F1 (by omega)
  have G2 := hK5.boxed F2 (by omega)
  have G3 := hK5.boxed F3 (by omega)
  have hbw : Below w.heap.size w w1 := hb0.trans (hb1.mono (by omega))
  have hN : w.heap.size + 6 ≤ w1.heap.size := by have := row_lt hrow; omega
  rw [← elB_zero b hb64 bl wd n] at hrow
  clear F0 F1 F2 F3 hb0 hz5 hK5 hb1
  obtain ⟨N, hNe⟩ : ∃ N, N = w1.heap.size := ⟨_, rfl⟩
  have G0' := Lib.hid G0
  have G1' := Lib.hid G1
  have G2' := Lib.hid G2
  have G3' := Lib.hid G3
  have GR := Lib.hid hrow
  clear G0 G1 G2 G3 hrow
  gi_wp2
  have hsz : (((w1.alloc (.cells #[.slice (some ⟨w.heap.size + 5, 0, none⟩) n n] 22)).alloc (.cells #[.int .i64 0] 3)).alloc (.cells #[.int .i64 0] 3)).heap.size = N + 3 := by simp [hNe]
  have hI0 : elemsI w N b wd n bl 0 (((w1.alloc (.cells #[.slice (some ⟨w.heap.size + 5, 0, none⟩) n n] 22)).alloc (.cells #[.int .i64 0] 3)).alloc (.cells #[.int .i64 0] 3)) := by
    have B1 := ((Boxed.new w1 22 (.slice (some ⟨w.heap.size + 5, 0, none⟩) n n)).alloc (.cells #[.int .i64 0] 3)).alloc (.cells #[.int .i64 0] 3)
    have B2 := (Boxed.new (w1.alloc (.cells #[.slice (some ⟨w.heap.size + 5, 0, none⟩) n n] 22)) 3 (.int .i64 0)).alloc (.cells #[.int .i64 0] 3)
    have B3 := Boxed.new ((w1.alloc (.cells #[.slice (some ⟨w.heap.size + 5, 0, none⟩) n n] 22)).alloc (.cells #[.int .i64 0] 3)) 3 (.int .i64 0)
    simp only [World.size_alloc] at B2 B3
    rw [← hNe] at B1 B2 B3
    have h0 := elI_zero wd n
    refine ⟨?_, ((G1'.out.alloc _).alloc _).alloc _, ((G2'.out.alloc _).alloc _).alloc _, ((G3'.out.alloc _).alloc _).alloc _, B1, ?_, ?_, ((GR.out.alloc _).alloc _).alloc _, ?_, fun j h1 h2 => by omega⟩
    · rw [Below.heap_alloc _ _ _ (by simp; omega), Below.heap_alloc _ _ _ (by simp; omega), Below.heap_alloc _ _ _ (by omega)]; exact G0'.out
    · rw [h0.1]; exact B2
    · rw [h0.2]; exact B3
    · exact ((hbw.alloc hbw.size _).alloc (by simp; omega) _).alloc (by simp; omega) _
  have hG := hseq (((w1.alloc (.cells #[.slice (some ⟨w.heap.size + 5, 0, none⟩) n n] 22)).alloc (.cells #[.int .i64 0] 3)).alloc (.cells #[.int .i64 0] 3)) (((hbw.alloc hbw.size _).alloc (by simp; omega) _).alloc (by simp; omega) _)
  rw [← hNe] at hN
  generalize ((w1.alloc (.cells #[.slice (some ⟨w.heap.size + 5, 0, none⟩) n n] 22)).alloc (.cells #[.int .i64 0] 3)).alloc (.cells #[.int .i64 0] 3) = VV at *
  rw [← hNe]
  clear hNe G0' G1' G2' G3' GR hbw hseq
  refine wpIn_rangeStops hro h1 (gf := gf) (lb := lb) rfl trivial eg hG (fun _ => rfl) (elemsI w N b wd n bl) (by rw [hsz]; exact elemsI_own hN) (elemsX w wd n bl) (by rw [hsz]; exact elemsX_own hN) hI0
    (fun x => { tmps := #[.agg #[.int .i64 b, .int .i64 wd], .int .i64 n, .func (.func gf) #[] lb, .pointer (some ⟨w.heap.size, 0, none⟩), .pointer (some ⟨w.heap.size + 1, 0, none⟩), undef, .pointer (some ⟨w.heap.size + 2, 0, none⟩), .pointer (some ⟨w.heap.size + 3, 0, none⟩),
      .pointer (some ⟨N, 0, none⟩), .pointer (some ⟨N + 1, 0, none⟩), .pointer (some ⟨N + 2, 0, none⟩), .int .u64 x, .pointer (some ⟨w.heap.size, 0, none⟩), .int .i64 b, .slice (some ⟨w.heap.size + 4, 0, none⟩) 1 1, .int .i64 n, .slice (some ⟨w.heap.size + 5, 0, none⟩) n n,
      .func (.func gf) #[] lb, .int .u64 x, undef, undef, undef, undef, undef, undef, undef, undef, undef, undef, undef, undef, undef, undef, undef, undef, undef, undef, undef, undef, undef, undef, undef, undef], defers := [] }) ?assign ?body ?done ?stop
  case assign =>
    intro l x W R hR
    gi_wp2
    exact hR
  case body =>
    rintro l k x W hx ⟨hF, hn', hR1, hR2, hL, hI, hP, hRow, hWW, hZ⟩ hWz
    rw [hsz] at hWz
    have hkl : k < bl.length := (List.getElem?_eq_some_iff.1 hx).1
    have hxk : bl[k]?.getD 0 = x := by rw [hx]; rfl
    have hx01 : x = 0 ∨ x = 1 := hbl x (List.mem_of_getElem? hx)
    have hwd0 : 0 < wd := by
      rcases Nat.eq_zero_or_pos wd with h | h
      · rw [h0w h] at hkl; simp at hkl
      · exact h
    have h1' : 1 ≤ m - 1 - 1 := by omega
    have hcn := hn'.cell
    have hcI := hI.cell
    have hcP := hP.cell
    have hcL := hL.cell
    have hfI := hI.frozen
    have hfP := hP.frozen
    have hs := hWW.size
    by_cases hlt : k < n * wd
    · obtain ⟨e1, e2⟩ := elI_here wd n k hlt
      have he := div_lt_of hlt
      have hp : k % wd < wd := Nat.mod_lt _ hwd0
      obtain ⟨n1, n2⟩ := elI_next wd n k hlt
      have HST := Lib.hid (elB_step b bl wd k n hlt)
      have hV := elV_here b bl wd k n hkl hlt
      rw [hxk] at hV
      have hcR : W.cell? ⟨w.heap.size + 5, 0 + k / wd, none⟩ = some (.int .i64 ((elB b bl wd k n)[k / wd]?.getD 0)) := row_cells hRow (k / wd) (by rw [elB_length]; exact he)
      rw [Nat.zero_add, elB_at b bl wd k n _ he] at hcR
      have hfR := row_unfrozen (j := k / wd) hRow
      have hcw : W.cell? ⟨w.heap.size, 1, none⟩ = some (.int .i64 wd) := by simp [World.cell?, hF]
      rw [e1] at hcI
      rw [e2] at hcP
      have HI := Lib.hid hI
      have HP := Lib.hid hP
      have HRow := Lib.hid hRow
      have HF := Lib.hid hF
      have Hn' := Lib.hid hn'
      have HR1 := Lib.hid hR1
      have HR2 := Lib.hid hR2
      have HL := Lib.hid hL
      have HZ : Hid (∀ j, n * wd ≤ j → j < k + 1 → bl[j]?.getD 0 = 0) := fun j h1 h2 => by omega
      have N1 := Lib.hid n1
      have N2 := Lib.hid n2
      have HN : Hid (VV.heap.size = N + 3) := hsz
      have He1 := Lib.hid e1
      clear hRow hF hn' hR1 hR2 hL hI hP e1 e2 n1 n2 hx hxk hkl hlt hZ
      have hxw : U64 x := by rcases hx01 with rfl | rfl <;> exact ⟨by decide, by decide⟩
      generalize elV b bl wd k (k / wd) = y at *
      generalize elV b bl wd (k + 1) (k / wd) = y2 at *
      generalize k / wd = e at *
      generalize k % wd = p at *
      have hne : ((e : Int) == (n : Int)) = false := by rw [beq_eq_false_iff_ne]; omega
      have hw1 : IntKind.i64.wrap ((p : Int) + 1) = ((p + 1 : Nat) : Int) := by rw [IntKind.wrap_i64]; omega
      have hw2 : IntKind.i64.wrap ((e : Int) + 1) = ((e + 1 : Nat) : Int) := by rw [IntKind.wrap_i64]; omega
      have hmix : Try.prog.follows .mixedOrders = true := by kernel_rfl
      clear hx01 hsz
      gi_wp2
      refine wpIn_region_still_tail_round 10 (by kernel_rfl) (by kernel_rfl) (by kernel_rfl) (by rintro ⟨_, _, h⟩; exact h) ?_
      simp only [List.take_succ_cons, List.take_zero, List.drop_succ_cons, List.drop_zero]
      repeat still_step
      try refine wpStill_nil ?_
      change wpList _ _ _ _ _ W.drew
      have d1 : ¬ w.heap.size + 5 = N := by omega
      have d2 : ¬ w.heap.size + 5 = N + 1 := by omega
      have d3 : ¬ w.heap.size + 5 = N + 2 := by omega
      have d4 : ¬ w.heap.size = N + 2 := by omega
      have d5 : ¬ w.heap.size = N + 1 := by omega
      clear hw1 hw2 hmix hV
      by_cases hpw : p + 1 = wd
      · have hbp : (((p : Int) + 1) == (wd : Int)) = true := by rw [beq_iff_eq]; omega
        have N1' : Hid (elI wd n (k + 1) = e + 1) := by rw [N1.out, if_pos hpw]; exact rfl
        have N2' : Hid (elP wd n (k + 1) = 0) := by rw [N2.out, if_pos hpw]; exact rfl
        clear hpw
        go_wp2
        gi_wp2
        have hk : ∀ K : Nat → Prop, ¬ K (w.heap.size + 5) → ¬ K (N + 1) → ¬ K (N + 2) → Kept K W (((((W.setCell ⟨w.heap.size + 5, e, none⟩ (.int .i64 y2)).setCell ⟨N + 2, 0, none⟩ (.int .i64 ((p : Int) + 1))).setCell ⟨N + 1, 0, none⟩ (.int .i64 ((e : Int) + 1))).setCell ⟨N + 2, 0, none⟩ (.int .i64 0)).drew) := fun K k1 k2 k3 =>
          ((((Kept.of_grownBy (grownBy_set W _ _) (fun r e => by cases e; exact k1)).trans (Kept.of_grownBy (grownBy_set _ _ _) (fun r e => by cases e; exact k3))).trans (Kept.of_grownBy (grownBy_set _ _ _) (fun r e => by cases e; exact k2))).trans (Kept.of_grownBy (grownBy_set _ _ _) (fun r e => by cases e; exact k3))).drew
        have b1 : Boxed (W.setCell ⟨w.heap.size + 5, e, none⟩ (.int .i64 y2)) (N + 1) 3 (.int .i64 (elI wd n k)) := (Kept.of_grownBy (K := fun b => b = N + 1) (grownBy_set W _ _) (fun r e => by cases e; exact d2)).boxed HI.out rfl
        have b2 : Boxed (W.setCell ⟨w.heap.size + 5, e, none⟩ (.int .i64 y2)) (N + 2) 3 (.int .i64 (elP wd n k)) := (Kept.of_grownBy (K := fun b => b = N + 2) (grownBy_set W _ _) (fun r e => by cases e; exact d3)).boxed HP.out rfl
        have r1 := row_store (j := e) HRow.out (.int .i64 y2)
        rw [← List.map_set, ← HST.out] at r1
        have hV := HN.out
        refine ⟨hk _ (by omega) (by omega) (by omega), (hk (fun b => b = w.heap.size) (by omega) (by omega) (by omega)).block _ (Array.getElem?_eq_some_iff.1 HF.out).1 rfl |>.trans HF.out, (hk (fun b => b = w.heap.size + 1) (by omega) (by omega) (by omega)).boxed Hn'.out rfl,
          (hk (fun b => b = w.heap.size + 2) (by omega) (by omega) (by omega)).boxed HR1.out rfl, (hk (fun b => b = w.heap.size + 3) (by omega) (by omega) (by omega)).boxed HR2.out rfl, (hk (fun b => b = N) (by omega) (by omega) (by omega)).boxed HL.out rfl, ?_, ?_, ?_, ?_, HZ⟩
        · rw [N1'.out]; exact (Kept.refl (fun _ => True) _).drew.boxed ((((b1.other (by omega) _).set _).other (by omega) _)) trivial
        · rw [N2'.out]; exact (Kept.refl (fun _ => True) _).drew.boxed ((((b2.set _).other (by omega) _).set _)) trivial
        · exact ((((Kept.of_grownBy (K := fun b => b = w.heap.size + 5) (grownBy_set _ ⟨N + 2, 0, none⟩ (.int .i64 ((p : Int) + 1))) (fun r e => by cases e; exact fun h => d3 h.symm)).trans (Kept.of_grownBy (grownBy_set _ ⟨N + 1, 0, none⟩ (.int .i64 ((e : Int) + 1))) (fun r e => by cases e; exact fun h => d2 h.symm))).trans (Kept.of_grownBy (grownBy_set _ ⟨N + 2, 0, none⟩ (.int .i64 0)) (fun r e => by cases e; exact fun h => d3 h.symm))).drew).row r1 rfl
        · exact ((((hWW.setCell (p := ⟨w.heap.size + 5, e, none⟩) (by simp) _).setCell (p := ⟨N + 2, 0, none⟩) (by simp; omega) _).setCell (p := ⟨N + 1, 0, none⟩) (by simp; omega) _).setCell (p := ⟨N + 2, 0, none⟩) (by simp; omega) _).drew
      · have hbp : (((p : Int) + 1) == (wd : Int)) = false := by rw [beq_eq_false_iff_ne]; omega
        have N1' : Hid (elI wd n (k + 1) = e) := by rw [N1.out, if_neg hpw]; exact rfl
        have N2' : Hid (elP wd n (k + 1) = p + 1) := by rw [N2.out, if_neg hpw]; exact rfl
        clear hpw
        go_wp2
        gi_wp2
        have hk : ∀ K : Nat → Prop, ¬ K (w.heap.size + 5) → ¬ K (N + 2) → Kept K W (((W.setCell ⟨w.heap.size + 5, e, none⟩ (.int .i64 y2)).setCell ⟨N + 2, 0, none⟩ (.int .i64 ((p : Int) + 1))).drew) := fun K k1 k3 =>
          ((Kept.of_grownBy (grownBy_set W _ _) (fun r e => by cases e; exact k1)).trans (Kept.of_grownBy (grownBy_set _ _ _) (fun r e => by cases e; exact k3))).drew
        have b2 : Boxed (W.setCell ⟨w.heap.size + 5, e, none⟩ (.int .i64 y2)) (N + 2) 3 (.int .i64 (elP wd n k)) := (Kept.of_grownBy (K := fun b => b = N + 2) (grownBy_set W _ _) (fun r e => by cases e; exact d3)).boxed HP.out rfl
        have r1 := row_store (j := e) HRow.out (.int .i64 y2)
        rw [← List.map_set, ← HST.out] at r1
        have hV := HN.out
        have HI2 : Boxed W (N + 1) 3 (.int .i64 (elI wd n (k + 1))) := by rw [N1'.out, ← He1.out]; exact HI.out
        refine ⟨hk _ (by omega) (by omega), (hk (fun b => b = w.heap.size) (by omega) (by omega)).block _ (Array.getElem?_eq_some_iff.1 HF.out).1 rfl |>.trans HF.out, (hk (fun b => b = w.heap.size + 1) (by omega) (by omega)).boxed Hn'.out rfl,
          (hk (fun b => b = w.heap.size + 2) (by omega) (by omega)).boxed HR1.out rfl, (hk (fun b => b = w.heap.size + 3) (by omega) (by omega)).boxed HR2.out rfl, (hk (fun b => b = N) (by omega) (by omega)).boxed HL.out rfl, (hk (fun b => b = N + 1) (by omega) (by omega)).boxed HI2 rfl, ?_, ?_, ?_, HZ⟩
        · rw [N2'.out]; exact (Kept.refl (fun _ => True) _).drew.boxed (b2.set _) trivial
        · exact ((Kept.of_grownBy (K := fun b => b = w.heap.size + 5) (grownBy_set _ ⟨N + 2, 0, none⟩ (.int .i64 ((p : Int) + 1))) (fun r e => by cases e; exact fun h => d3 h.symm)).drew).row r1 rfl
        · exact ((hWW.setCell (p := ⟨w.heap.size + 5, e, none⟩) (by simp) _).setCell (p := ⟨N + 2, 0, none⟩) (by simp; omega) _).drew
    · have hnw : 0 < n * wd := Nat.mul_pos hn1 hwd0
      obtain ⟨e1, e2⟩ := elI_late wd n k (by omega) (by omega)
      obtain ⟨e3, e4⟩ := elI_late wd n (k + 1) (by omega) (by omega)
      rw [e1] at hcI
      by_cases hx0 : x = 0
      · have HZ : Hid (∀ j, n * wd ≤ j → j < k + 1 → bl[j]?.getD 0 = 0) := fun j h1 h2 => by
          by_cases h : j = k
          · rw [h, hxk, hx0]
          · exact hZ.out j h1 (by omega)
        have HI : Hid (elemsI w N b wd n bl (k + 1) W) := by
          refine ⟨hF, hn', hR1, hR2, hL, ?_, ?_, ?_, hWW, HZ⟩
          · rw [e3, ← e1]; exact hI
          · rw [e4, ← e2]; exact hP
          · rw [elB_late b bl wd k n (by omega)]; exact hRow
        subst hx0
        gi_wp2
        exact ⟨Kept.refl _ _, HI.out⟩
      · have hxb : (x != 0) = true := by simpa using hx0
        have hr1 := hR1.cell
        have hr2 := hR2.cell
        have hr1f := hR1.frozen
        have hr2f := hR2.frozen
        have HX : Hid (∃ j, n * wd ≤ j ∧ j < bl.length ∧ bl[j]?.getD 0 ≠ 0) := ⟨k, by omega, hkl, by rw [hxk]; exact hx0⟩
        gi_wp2
        refine ⟨(Kept.of_grownBy (grownBy_set W _ _) (fun r e => by cases e; simp; omega)).trans (Kept.of_grownBy (grownBy_set _ _ _) (fun r e => by cases e; simp; omega)), (hR1.set _).other (by omega) _, ?_, ?_, ?_, HX⟩
        · exact (hR2.other (by omega) _).set _
        · exact (hWW.setCell (p := ⟨w.heap.size + 2, 0, none⟩) (by simp) _).setCell (p := ⟨w.heap.size + 3, 0, none⟩) (by simp) _
        · simp; omega
  case done =>
    rintro D W hD hWz ⟨hF, hn', hR1, hR2, hL, hI, hP, hRow, hWW, hZ⟩ hDx
    rw [hsz] at hWz hD
    have hcL := hL.cell
    have hr1 := hR1.cell
    have hr2 := hR2.cell
    have hr1f := hR1.frozen
    have hr2f := hR2.frozen
    gi_wp2
    have hDx' : ((W.setCell ⟨w.heap.size + 1 + 1, 0, none⟩ (.slice (some ⟨w.heap.size + 5, 0, none⟩) n n)).setCell ⟨w.heap.size + 1 + 1 + 1, 0, none⟩ (.bool true)).heap[D]? = some (.deferred (some [])) := by
      rw [Below.heap_setCell _ _ _ _ (by simp; omega), Below.heap_setCell _ _ _ _ (by simp; omega)]; exact hDx
    refine ⟨by simp, .inl ⟨_, _, rfl, run_takeDeferred hDx', ?_⟩⟩
    have hq1 : (((W.setCell ⟨w.heap.size + 1 + 1, 0, none⟩ (.slice (some ⟨w.heap.size + 5, 0, none⟩) n n)).setCell ⟨w.heap.size + 1 + 1 + 1, 0, none⟩ (.bool true)).putObj D (.deferred none)).cell? ⟨w.heap.size + 2, 0, none⟩ = some (.slice (some ⟨w.heap.size + 5, 0, none⟩) n n) :=
      (World.cell?_of_block (World.putObj_heap_other (by show w.heap.size + 2 ≠ D; omega))).trans (((hR1.set (.slice (some ⟨w.heap.size + 5, 0, none⟩) n n)).other (B' := w.heap.size + 3) (by omega) (.bool true)).cell)
    have hq2 : (((W.setCell ⟨w.heap.size + 1 + 1, 0, none⟩ (.slice (some ⟨w.heap.size + 5, 0, none⟩) n n)).setCell ⟨w.heap.size + 1 + 1 + 1, 0, none⟩ (.bool true)).putObj D (.deferred none)).cell? ⟨w.heap.size + 3, 0, none⟩ = some (.bool true) :=
      (World.cell?_of_block (World.putObj_heap_other (by show w.heap.size + 3 ≠ D; omega))).trans (((hR2.other (B' := w.heap.size + 2) (by omega) (.slice (some ⟨w.heap.size + 5, 0, none⟩) n n)).set (.bool true)).cell)
    refine ⟨.tuple #[.slice (some ⟨w.heap.size + 5, 0, none⟩) n n, .bool true], by simp [results, Try.results88, go_sem, hq1, hq2], ?_⟩
    refine ⟨((hWW.setCell (p := ⟨w.heap.size + 2, 0, none⟩) (by simp) _).setCell (p := ⟨w.heap.size + 3, 0, none⟩) (by simp) _).grown (grownBy_putObj' _ _ _) (by simp; omega) (fun r e => by cases e; omega), .inl ⟨hZ, rfl, ?_⟩⟩
    exact ((((Kept.of_grownBy (K := fun b => b = w.heap.size + 5) (grownBy_set W ⟨w.heap.size + 2, 0, none⟩ (.slice (some ⟨w.heap.size + 5, 0, none⟩) n n)) (fun r e => by cases e; simp)).trans (Kept.of_grownBy (grownBy_set _ ⟨w.heap.size + 3, 0, none⟩ (.bool true)) (fun r e => by cases e; simp))).trans (Kept.of_grownBy (grownBy_putObj' _ _ _) (fun r e => by cases e; omega)))).row hRow rfl
  case stop =>
    rintro D W hD hWz ⟨hR1, hR2, hWW, hz, hX⟩ hDx
    rw [hsz] at hWz hD
    have hr1 := hR1.cell
    have hr2 := hR2.cell
    gi_wp2
    refine ⟨by simp, .inl ⟨_, _, rfl, run_takeDeferred hDx, ?_⟩⟩
    have hq1 : (W.putObj D (.deferred none)).cell? ⟨w.heap.size + 2, 0, none⟩ = some (.slice none 0 0) := (World.cell?_of_block (w := W) (World.putObj_heap_other (by show w.heap.size + 2 ≠ D; omega))).trans hr1
    have hq2 : (W.putObj D (.deferred none)).cell? ⟨w.heap.size + 3, 0, none⟩ = some (.bool false) := (World.cell?_of_block (w := W) (World.putObj_heap_other (by show w.heap.size + 3 ≠ D; omega))).trans hr2
    refine ⟨.tuple #[.slice none 0 0, .bool false], by simp [results, Try.results88, go_sem, hq1, hq2], ?_⟩
    exact ⟨hWW.grown (grownBy_putObj' _ _ _) hWW.size (fun r e => by cases e; omega), .inr ⟨hX, rfl⟩⟩

end Go.Proofs.Ytkfmgiacdlkmiaa
