/-
  Lists of values in memory; their order.
-/
import Derived.Test.YtnhffkgbnlnliaaGreatDoorVlOrd
namespace Go.Proofs.YtnhffkgbnlnliaaGreatDoor
open Go Go.RowKit Go.Shelf Go.ChangeShapes Go.WideShapes Go.ChangeAt

/-- The slice at a, of len elements and capacity cap, reads as the values vs, in one block that K names. -/
structure RdV (K : Nat → Prop) (W : World) (a : Option Addr) (len cap : Nat) (vs : List Vl) : Prop where
  hl : len = vs.length
  fit : len ≤ cap
  top : cap ≤ 9223372036854775807
  small : len ≤ 1099511627776
  cells : 0 < len → ∃ b off, a = some ⟨b, off, none⟩ ∧ K b ∧ b < W.heap.size ∧ ∀ j, j < len → W.cell? ⟨b, off + j * 3, none⟩ = some (.int .i64 (vs[j]?.getD Vl.null).k) ∧ W.cell? ⟨b, off + j * 3 + 1, none⟩ = some (.int .i64 (vs[j]?.getD Vl.null).i) ∧ W.cell? ⟨b, off + j * 3 + 2, none⟩ = some (.string (bsOf (vs[j]?.getD Vl.null).s))

theorem RdV.below {K : Nat → Prop} {A B : World} {a : Option Addr} {len cap : Nat} {vs : List Vl} (h : RdV K A a len cap vs) (hk : Below A.heap.size A B) : RdV K B a len cap vs :=
  ⟨h.hl, h.fit, h.top, h.small, fun h0 => by
    obtain ⟨b, off, e, hb, hlt, hc⟩ := h.cells h0
    exact ⟨b, off, e, hb, Nat.lt_of_lt_of_le hlt hk.size, fun j hj => ⟨(World.cell?_of_block (w := A) (hk.block b hlt)).trans (hc j hj).1, (World.cell?_of_block (w := A) (hk.block b hlt)).trans (hc j hj).2.1, (World.cell?_of_block (w := A) (hk.block b hlt)).trans (hc j hj).2.2⟩⟩⟩
theorem RdV.mono {K K' : Nat → Prop} {A : World} {a : Option Addr} {len cap : Nat} {vs : List Vl} (h : RdV K A a len cap vs) (hk : ∀ b, b < A.heap.size → K b → K' b) : RdV K' A a len cap vs :=
  ⟨h.hl, h.fit, h.top, h.small, fun h0 => by
    obtain ⟨b, off, e, hb, hlt, hc⟩ := h.cells h0
    exact ⟨b, off, e, hk b hlt hb, hlt, hc⟩⟩
theorem RdV.empty {K : Nat → Prop} {A : World} {a : Option Addr} : RdV K A a 0 0 [] := ⟨rfl, Nat.le_refl _, by decide, by decide, fun h => absurd h (by decide)⟩

/-! ### The order of lists -/

def cmpL : List Vl → List Vl → Int
  | [], [] => 0
  | [], _ :: _ => -1
  | _ :: _, [] => 1
  | a :: x, b :: y => if cmpV a b ≠ 0 then cmpV a b else cmpL x y

theorem drop_cons {vs : List Vl} {k : Nat} (h : k < vs.length) : vs.drop k = vs[k]?.getD Vl.null :: vs.drop (k + 1) := by
  rw [List.drop_eq_getElem_cons h, List.getElem?_eq_getElem h]; rfl
theorem cmpL_step {x y : List Vl} {k : Nat} (hx : k < x.length) (hy : k < y.length) (h : cmpV (x[k]?.getD Vl.null) (y[k]?.getD Vl.null) = 0) : cmpL (x.drop k) (y.drop k) = cmpL (x.drop (k + 1)) (y.drop (k + 1)) := by
  rw [drop_cons hx, drop_cons hy, cmpL, if_neg (by simp [h])]
theorem cmpL_ne {x y : List Vl} {k : Nat} (hx : k < x.length) (hy : k < y.length) (h : cmpV (x[k]?.getD Vl.null) (y[k]?.getD Vl.null) ≠ 0) : cmpL (x.drop k) (y.drop k) = cmpV (x[k]?.getD Vl.null) (y[k]?.getD Vl.null) := by
  rw [drop_cons hx, drop_cons hy, cmpL, if_pos h]
theorem cmpL_right {x y : List Vl} {k : Nat} (hx : k < x.length) (hy : y.length ≤ k) : cmpL (x.drop k) (y.drop k) = 1 := by
  rw [drop_cons hx, List.drop_eq_nil_of_le hy]; rfl
theorem cmpL_left {x y : List Vl} {k : Nat} (hx : x.length ≤ k) (hy : k < y.length) : cmpL (x.drop k) (y.drop k) = -1 := by
  rw [drop_cons hy, List.drop_eq_nil_of_le hx]; rfl
theorem cmpL_both {x y : List Vl} {k : Nat} (hx : x.length ≤ k) (hy : y.length ≤ k) : cmpL (x.drop k) (y.drop k) = 0 := by
  rw [List.drop_eq_nil_of_le hx, List.drop_eq_nil_of_le hy]; rfl

set_option maxRecDepth 100000 in
set_option maxHeartbeats 2000000 in
theorem compareFunc_any {K K' : Nat → Prop} {a a' : Option Addr} {len cap len' cap' : Nat} {x y : List Vl} {w : World} (hR : RdV K w a len cap x) (hR' : RdV K' w a' len' cap' y) :
    Calls Tryz.prog 67 #[.slice a len cap, .slice a' len' cap', .func (.func 14) #[] #[]] w fun e w' => e = .returned (.int .i64 (cmpL x y)) ∧ Below w.heap.size w w' := by
  have hfit := hR.fit
  have hsm := hR.small
  have hfit' := hR'.fit
  have hsm' := hR'.small
  have HL := Lib.hid hR.hl
  have HL' := Lib.hid hR'.hl
  have H := Lib.hid hR
  have H' := Lib.hid hR'
  clear hR hR'
  have HE : Hid (∀ z, z = cmpL x y → Ending.returned (.int .i64 z) = .returned (.int .i64 (cmpL x y))) := fun z h => by rw [h]
  go_enter Tryz.func67, Tryz.ntmps67
  go_wp2
  go_loopw [13] (fun i wr => ∃ k : Nat, k ≤ len ∧ i = .int .i64 k ∧ Hid (k ≤ len' ∧ cmpL x y = cmpL (x.drop k) (y.drop k) ∧ Below w.heap.size w wr)) (fun i _ => len - (intOf i).toNat)
  case atStart => exact ⟨0, Nat.zero_le _, rfl, Nat.zero_le _, rfl, Below.self w⟩
  case round =>
    obtain ⟨k, hk, rfl, HI⟩ := hrel
    by_cases hlt : k < len
    · obtain ⟨b, off, rfl, _, hb, hc⟩ := H.out.cells (by omega)
      obtain ⟨c0, c1, c2⟩ := hc k hlt
      have c0 := (HI.out.2.2.cell (p := ⟨b, off + k * 3, none⟩) hb).trans c0
      have c1 := (HI.out.2.2.cell (p := ⟨b, off + k * 3 + 1, none⟩) hb).trans c1
      have c2 := (HI.out.2.2.cell (p := ⟨b, off + k * 3 + 2, none⟩) hb).trans c2
      have hbr : b < wr.heap.size := Nat.lt_of_lt_of_le hb HI.out.2.2.size
      clear hc
      by_cases hlt' : k < len'
      · obtain ⟨b', off', rfl, _, hb', hc'⟩ := H'.out.cells (by omega)
        obtain ⟨d0, d1, d2⟩ := hc' k hlt'
        have d0 := (HI.out.2.2.cell (p := ⟨b', off' + k * 3, none⟩) hb').trans d0
        have d1 := (HI.out.2.2.cell (p := ⟨b', off' + k * 3 + 1, none⟩) hb').trans d1
        have d2 := (HI.out.2.2.cell (p := ⟨b', off' + k * 3 + 2, none⟩) hb').trans d2
        have hbr' : b' < wr.heap.size := Nat.lt_of_lt_of_le hb' HI.out.2.2.size
        clear hc'
        have HS : Hid (cmpV (x[k]?.getD Vl.null) (y[k]?.getD Vl.null) = 0 → cmpL (x.drop k) (y.drop k) = cmpL (x.drop (k + 1)) (y.drop (k + 1))) := cmpL_step (by rw [← HL.out]; exact hlt) (by rw [← HL'.out]; exact hlt')
        have HN : Hid (cmpV (x[k]?.getD Vl.null) (y[k]?.getD Vl.null) ≠ 0 → cmpL (x.drop k) (y.drop k) = cmpV (x[k]?.getD Vl.null) (y[k]?.getD Vl.null)) := cmpL_ne (by rw [← HL.out]; exact hlt) (by rw [← HL'.out]; exact hlt')
        generalize x[k]?.getD Vl.null = p at *
        generalize y[k]?.getD Vl.null = q at *
        have HC : Hid (∀ W, Calls Tryz.prog 14 #[.agg #[.int .i64 p.k, .int .i64 p.i, .string (bsOf p.s)], .agg #[.int .i64 q.k, .int .i64 q.i, .string (bsOf q.s)]] W fun e w' => e = .returned (.int .i64 (cmpV p q)) ∧ Below W.heap.size W w') := fun W => cmp_any p q W
        have hbA : Below wr.heap.size wr (wr.alloc (.cells #[.int .i64 p.k, .int .i64 p.i, .string (bsOf p.s)] 29)) := (Below.self wr).alloc (Nat.le_refl _) _
        have HBA : Hid (Below wr.heap.size wr ((wr.alloc (.cells #[.int .i64 p.k, .int .i64 p.i, .string (bsOf p.s)] 29)).alloc (.cells #[.int .i64 q.k, .int .i64 q.i, .string (bsOf q.s)] 29))) := hbA.alloc (by simp) _
        clear hbA
        go_wp2_with fail
        refine (HC.out _).mono ?_
        rintro e w4 ⟨rfl, hb4⟩
        have HB4 : Hid (Below w.heap.size w w4) := HI.out.2.2.trans ((HBA.out.trans (hb4.mono HBA.out.size)).mono HI.out.2.2.size)
        clear hb4 c0 c1 c2 d0 d1 d2 hbr hbr'
        by_cases hz : cmpV p q = 0
        · have HST := Lib.hid (HS.out hz)
          rw [hz]
          clear hz
          go_wp2
          go_roundw
          case rel => exact ⟨k + 1, by omega, by go_num, by omega, HI.out.2.1.trans HST.out, HB4.out⟩
          case measure => simp [intOf]; omega
        · have HRR := HE.out (cmpV p q) ((HI.out.2.1.trans (HN.out hz)).symm)
          have hne : (cmpV p q != 0) = true := by simpa using hz
          generalize cmpV p q = z at *
          go_wp2
          go_ret
          exact ⟨HRR, HB4.out⟩
      · have HRR := HE.out 1 ((HI.out.2.1.trans (cmpL_right (by rw [← HL.out]; exact hlt) (by rw [← HL'.out]; omega))).symm)
        have HBA : Hid (Below w.heap.size w (wr.alloc (.cells #[.int .i64 (x[k]?.getD Vl.null).k, .int .i64 (x[k]?.getD Vl.null).i, .string (bsOf (x[k]?.getD Vl.null).s)] 29))) := HI.out.2.2.alloc HI.out.2.2.size _
        generalize x[k]?.getD Vl.null = p at *
        go_wp2
        go_ret
        exact ⟨HRR, HBA.out⟩
    · obtain rfl : k = len := by omega
      by_cases hlt' : k < len'
      · have HRR := HE.out (-1) ((HI.out.2.1.trans (cmpL_left (by rw [← HL.out]; exact Nat.le_refl _) (by rw [← HL'.out]; exact hlt'))).symm)
        go_wp2
        go_ret
        exact ⟨HRR, HI.out.2.2⟩
      · have HRR := HE.out 0 ((HI.out.2.1.trans (cmpL_both (by rw [← HL.out]; exact Nat.le_refl _) (by rw [← HL'.out]; omega))).symm)
        go_wp2
        go_ret
        exact ⟨HRR, HI.out.2.2⟩

theorem cmpList_any {K K' : Nat → Prop} {a a' : Option Addr} {len cap len' cap' : Nat} {x y : List Vl} {w : World} (hR : RdV K w a len cap x) (hR' : RdV K' w a' len' cap' y) :
    Calls Tryz.prog 26 #[.slice a len cap, .slice a' len' cap'] w fun e w' => e = .returned (.int .i64 (cmpL x y)) ∧ Below w.heap.size w w' := by
  have HC := Lib.hid (compareFunc_any hR hR')
  clear hR hR'
  go_enter Tryz.func26, Tryz.ntmps26
  go_wp2_with fail
  refine HC.out.mono ?_
  rintro e w1 ⟨rfl, hb⟩
  go_wp2
  go_ret
  exact ⟨rfl, hb⟩

end Go.Proofs.YtnhffkgbnlnliaaGreatDoor
