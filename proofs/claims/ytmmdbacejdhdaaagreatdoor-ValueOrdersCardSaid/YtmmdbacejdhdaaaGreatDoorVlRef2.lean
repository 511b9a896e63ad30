/-
  The reference's order: values, lists; equal lists.
-/
import Derived.Test.YtmmdbacejdhdaaaGreatDoorVlRef
namespace Go.Proofs.YtmmdbacejdhdaaaGreatDoor
open Go Go.RowKit Go.Shelf Go.ChangeShapes Go.WideShapes Go.ChangeAt

theorem sgI_zero {a b : Int} (h : sgI a b = 0) : a = b := by
  unfold sgI at h
  split at h
  · cases h
  · split at h
    · cases h
    · omega
theorem sgI_self (a : Int) : sgI a a = 0 := by unfold sgI; rw [if_neg (Int.lt_irrefl _), if_neg (Int.lt_irrefl _)]

set_option maxRecDepth 100000 in
set_option maxHeartbeats 2000000 in
theorem rcmp_any (a b : Vl) (ha : a.s.length ≤ 1048576) (hb : b.s.length ≤ 1048576) (w : World) : Calls Tryz.prog 42 #[encV a, encV b] w fun e w' => e = .returned (.int .i64 (cmpV a b)) ∧ Below w.heap.size w w' := by
  obtain ⟨k, i, s⟩ := a
  obtain ⟨k', i', s'⟩ := b
  unfold encV
  dsimp only
  have HSG : Hid (∀ (a b : Int) (W : World), Calls Tryz.prog 102 #[.int .i64 a, .int .i64 b] W fun e w' => e = .returned (.int .i64 (sgI a b)) ∧ Below W.heap.size W w') := fun a b W => sign_any a b W
  have HST : Hid (∀ (W : World), Calls Tryz.prog 103 #[.string (bsOf s), .string (bsOf s')] W fun e w' => e = .returned (.int .i64 (sgS s s')) ∧ Below W.heap.size W w') := fun W => strings_any s s' ha hb W
  have HB0 : Hid (Below w.heap.size w ((w.alloc (.cells #[.int .i64 k, .int .i64 i, .string (bsOf s)] 45)).alloc (.cells #[.int .i64 k', .int .i64 i', .string (bsOf s')] 45))) := ((Below.self w).alloc (Nat.le_refl _) _).alloc (by simp) _
  have hc : ∀ x y : Int, x ≠ y → sgI x y ≠ 0 := fun x y h e => h (sgI_zero e)
  have hs : ∀ x : Int, sgI x x = 0 := sgI_self
  by_cases h1 : k = k'
  · subst h1
    by_cases h2 : i = i'
    · subst h2
      have HR : Hid (cmpV ⟨k, i, s⟩ ⟨k, i, s'⟩ = sgS s s') := by show _ = _; unfold cmpV; rw [if_neg (by simp [hs]), if_neg (by simp [hs])]
      clear hc hs
      go_enter Tryz.func42, Tryz.ntmps42
      go_wp2_with fail
      refine (HST.out _).mono ?_
      rintro e w1 ⟨rfl, hbb⟩
      have HB1 : Hid (Below w.heap.size w w1) := HB0.out.trans (hbb.mono HB0.out.size)
      clear hbb
      go_wp2
      go_ret
      exact ⟨ret_int HR.out.symm, HB1.out⟩
    · have HR : Hid (cmpV ⟨k, i, s⟩ ⟨k, i', s'⟩ = sgI i i') := by show _ = _; unfold cmpV; rw [if_neg (by simp [hs]), if_pos (hc _ _ h2)]
      have hne : (i == i') = false := by simpa using h2
      clear hc hs h2
      go_enter Tryz.func42, Tryz.ntmps42
      go_wp2_with fail
      refine (HSG.out _ _ _).mono ?_
      rintro e w1 ⟨rfl, hbb⟩
      have HB1 : Hid (Below w.heap.size w w1) := HB0.out.trans (hbb.mono HB0.out.size)
      clear hbb
      go_wp2
      go_ret
      exact ⟨ret_int HR.out.symm, HB1.out⟩
  · have HR : Hid (cmpV ⟨k, i, s⟩ ⟨k', i', s'⟩ = sgI k k') := by show _ = _; unfold cmpV; rw [if_pos (hc _ _ h1)]
    have hne : (k == k') = false := by simpa using h1
    clear hc hs h1
    go_enter Tryz.func42, Tryz.ntmps42
    go_wp2_with fail
    refine (HSG.out _ _ _).mono ?_
    rintro e w1 ⟨rfl, hbb⟩
    have HB1 : Hid (Below w.heap.size w w1) := HB0.out.trans (hbb.mono HB0.out.size)
    clear hbb
    go_wp2
    go_ret
    exact ⟨ret_int HR.out.symm, HB1.out⟩

/-- None of the texts is long. -/
def Short (vs : List Vl) : Prop := ∀ v ∈ vs, v.s.length ≤ 1048576
theorem Short.at {vs : List Vl} (h : Short vs) (k : Nat) : (vs[k]?.getD Vl.null).s.length ≤ 1048576 := by
  by_cases hk : k < vs.length
  · rw [List.getElem?_eq_getElem hk]; exact h _ (List.getElem_mem hk)
  · rw [List.getElem?_eq_none (by omega)]; exact Nat.zero_le _

set_option maxRecDepth 100000 in
set_option maxHeartbeats 2000000 in
theorem rcmpList_any {K K' : Nat → Prop} {a a' : Option Addr} {len cap len' cap' : Nat} {x y : List Vl} {w : World} (hR : RdV K w a len cap x) (hR' : RdV K' w a' len' cap' y) (hx : Short x) (hy : Short y) :
    Calls Tryz.prog 54 #[.slice a len cap, .slice a' len' cap'] w fun e w' => e = .returned (.int .i64 (cmpL x y)) ∧ Below w.heap.size w w' := by
  have hfit := hR.fit
  have hsm := hR.small
  have hfit' := hR'.fit
  have hsm' := hR'.small
  have HL := Lib.hid hR.hl
  have HL' := Lib.hid hR'.hl
  have H := Lib.hid hR
  have H' := Lib.hid hR'
  have HX := Lib.hid hx
  have HY := Lib.hid hy
  clear hR hR' hx hy
  have HE : Hid (∀ z, z = cmpL x y → Ending.returned (.int .i64 z) = .returned (.int .i64 (cmpL x y))) := fun z h => by rw [h]
  have HSG : Hid (∀ (a b : Int) (W : World), Calls Tryz.prog 102 #[.int .i64 a, .int .i64 b] W fun e w' => e = .returned (.int .i64 (sgI a b)) ∧ Below W.heap.size W w') := fun a b W => sign_any a b W
  go_enter Tryz.func54, Tryz.ntmps54
  go_wp2
  go_loopw [5] (fun i wr => ∃ k : Nat, k ≤ len ∧ k ≤ len' ∧ i = .int .i64 k ∧ Hid (cmpL x y = cmpL (x.drop k) (y.drop k) ∧ Below w.heap.size w wr)) (fun i _ => len - (intOf i).toNat)
  case atStart => exact ⟨0, Nat.zero_le _, Nat.zero_le _, rfl, rfl, Below.self w⟩
  case round =>
    obtain ⟨k, hk, hk', rfl, HI⟩ := hrel
    by_cases hlt : k < len
    · by_cases hlt' : k < len'
      · obtain ⟨b, off, rfl, _, hb, hc⟩ := H.out.cells (by omega)
        obtain ⟨c0, c1, c2⟩ := hc k hlt
        have C0 := fun d os => cell_regrown ((HI.out.2.cell (p := ⟨b, off + k * 3, none⟩) hb).trans c0) d os
        have C1 := fun d os => cell_regrown ((HI.out.2.cell (p := ⟨b, off + k * 3 + 1, none⟩) hb).trans c1) d os
        have C2 := fun d os => cell_regrown ((HI.out.2.cell (p := ⟨b, off + k * 3 + 2, none⟩) hb).trans c2) d os
        obtain ⟨b', off', rfl, _, hb', hc'⟩ := H'.out.cells (by omega)
        obtain ⟨d0, d1, d2⟩ := hc' k hlt'
        have D0 := fun d os => cell_regrown ((HI.out.2.cell (p := ⟨b', off' + k * 3, none⟩) hb').trans d0) d os
        have D1 := fun d os => cell_regrown ((HI.out.2.cell (p := ⟨b', off' + k * 3 + 1, none⟩) hb').trans d1) d os
        have D2 := fun d os => cell_regrown ((HI.out.2.cell (p := ⟨b', off' + k * 3 + 2, none⟩) hb').trans d2) d os
        have HC : Hid (∀ W, Calls Tryz.prog 42 #[.agg #[.int .i64 (x[k]?.getD Vl.null).k, .int .i64 (x[k]?.getD Vl.null).i, .string (bsOf (x[k]?.getD Vl.null).s)], .agg #[.int .i64 (y[k]?.getD Vl.null).k, .int .i64 (y[k]?.getD Vl.null).i, .string (bsOf (y[k]?.getD Vl.null).s)]] W fun e w' => e = .returned (.int .i64 (cmpV (x[k]?.getD Vl.null) (y[k]?.getD Vl.null))) ∧ Below W.heap.size W w') := fun W => rcmp_any _ _ (HX.out.at k) (HY.out.at k) W
        have HS : Hid (cmpV (x[k]?.getD Vl.null) (y[k]?.getD Vl.null) = 0 → cmpL (x.drop k) (y.drop k) = cmpL (x.drop (k + 1)) (y.drop (k + 1))) := cmpL_step (by rw [← HL.out]; exact hlt) (by rw [← HL'.out]; exact hlt')
        have HN : Hid (cmpV (x[k]?.getD Vl.null) (y[k]?.getD Vl.null) ≠ 0 → cmpL (x.drop k) (y.drop k) = cmpV (x[k]?.getD Vl.null) (y[k]?.getD Vl.null)) := cmpL_ne (by rw [← HL.out]; exact hlt) (by rw [← HL'.out]; exact hlt')
        clear hc hc' c0 c1 c2 d0 d1 d2
        generalize x[k]?.getD Vl.null = p at *
        generalize y[k]?.getD Vl.null = q at *
        have hkI : (k : Int) < (len : Int) := by omega
        have hkI' : (k : Int) < (len' : Int) := by omega
        go_upto_region 4 with fail
        refine wp_region_quiet_below (by kernel_rfl) (by kernel_rfl) ?_
        repeat (go_big_quiet_step (first
          | (go_at_call 42; with_reducible exact Calls.regrown_of (HC.out _))))
        refine wpQuiet_nil ?_
        intro _ hw'
        obtain ⟨⟨dq, osq⟩, hw''⟩ := hw'
        subst hw''
        have HBQ : Hid (Below w.heap.size w (Go.Sort.grow (redrawn wr dq) osq)) := HI.out.2.trans ((below_regrown wr dq osq).mono HI.out.2.size)
        clear C0 C1 C2 D0 D1 D2
        generalize Go.Sort.grow (redrawn wr dq) osq = WQ at *
        by_cases hz : cmpV p q = 0
        · have HST := Lib.hid (HS.out hz)
          rw [hz]
          clear hz
          go_wp2
          go_roundw
          case rel => exact ⟨k + 1, by omega, by omega, by go_num, HI.out.1.trans HST.out, HBQ.out⟩
          case measure => simp [intOf]; omega
        · have HRR := HE.out (cmpV p q) ((HI.out.1.trans (HN.out hz)).symm)
          have hne : (cmpV p q != 0) = true := by simpa using hz
          generalize cmpV p q = z at *
          go_wp2
          go_ret
          exact ⟨HRR, HBQ.out⟩
      · obtain rfl : k = len' := by omega
        have HRR : Hid (Ending.returned (.int .i64 (sgI len k)) = .returned (.int .i64 (cmpL x y))) := HE.out _ (by
          rw [HI.out.1, cmpL_right (by rw [← HL.out]; exact hlt) (by rw [← HL'.out]; exact Nat.le_refl _)]
          unfold sgI
          rw [if_neg (by omega), if_pos (by omega)])
        have hd2 : ¬ ((k : Int) < (k : Int)) := Int.lt_irrefl _
        go_wp2_with fail
        refine (HSG.out _ _ _).mono ?_
        rintro e w1 ⟨rfl, hbb⟩
        have HB1 : Hid (Below w.heap.size w w1) := HI.out.2.trans (hbb.mono HI.out.2.size)
        clear hbb
        go_wp2
        go_ret
        exact ⟨HRR.out, HB1.out⟩
    · obtain rfl : k = len := by omega
      have HRR : Hid (Ending.returned (.int .i64 (sgI k len')) = .returned (.int .i64 (cmpL x y))) := HE.out _ (by
        rw [HI.out.1]
        by_cases h : k < len'
        · rw [cmpL_left (by rw [← HL.out]; exact Nat.le_refl _) (by rw [← HL'.out]; exact h)]
          unfold sgI
          rw [if_pos (by omega)]
        · rw [cmpL_both (by rw [← HL.out]; exact Nat.le_refl _) (by rw [← HL'.out]; omega)]
          unfold sgI
          rw [if_neg (by omega), if_neg (by omega)])
      go_wp2_with fail
      refine (HSG.out _ _ _).mono ?_
      rintro e w1 ⟨rfl, hbb⟩
      have HB1 : Hid (Below w.heap.size w w1) := HI.out.2.trans (hbb.mono HI.out.2.size)
      clear hbb
      go_wp2
      go_ret
      exact ⟨HRR.out, HB1.out⟩

/-! ### Equal lists -/

theorem sgS_zero {a b : List UInt8} (h : sgS a b = 0) : a = b := by
  unfold sgS at h
  split at h
  · cases h
  · split at h
    · cases h
    · rename_i h1 h2
      exact List.le_antisymm (List.not_lt.1 h2) (List.not_lt.1 h1)
theorem sgS_self (a : List UInt8) : sgS a a = 0 := by unfold sgS; rw [if_neg (List.lt_irrefl _), if_neg (List.lt_irrefl _)]
theorem cmpV_zero {a b : Vl} (h : cmpV a b = 0) : a = b := by
  unfold cmpV at h
  split at h
  · rename_i h1; exact absurd h h1
  · split at h
    · rename_i h1; exact absurd h h1
    · rename_i h1 h2
      exact Vl.ext (sgI_zero (by omega)) (sgI_zero (by omega)) (sgS_zero h)
theorem cmpV_self (a : Vl) : cmpV a a = 0 := by unfold cmpV; rw [if_neg (by simp [sgI_self]), if_neg (by simp [sgI_self]), sgS_self]
theorem cmpL_zero : ∀ {x y : List Vl}, cmpL x y = 0 → x = y
  | [], [], _ => rfl
  | [], _ :: _, h => by cases h
  | _ :: _, [], h => by cases h
  | a :: x, b :: y, h => by
    unfold cmpL at h
    split at h
    · rename_i h1; exact absurd h h1
    · rename_i h1
      rw [cmpV_zero (show cmpV a b = 0 by omega), cmpL_zero h]
theorem cmpL_self : ∀ (x : List Vl), cmpL x x = 0
  | [] => rfl
  | a :: x => by unfold cmpL; rw [if_neg (by simp [cmpV_self]), cmpL_self x]

/-- Are the lists equal? -/
def sameL (x y : List Vl) : Bool := cmpL x y == 0
theorem sameL_self (x : List Vl) : sameL x x = true := by unfold sameL; rw [cmpL_self]; rfl
theorem sameL_iff {x y : List Vl} : sameL x y = true ↔ x = y := by
  unfold sameL
  rw [beq_iff_eq]
  exact ⟨cmpL_zero, fun h => by rw [h, cmpL_self]⟩

theorem rsame_any {K K' : Nat → Prop} {a a' : Option Addr} {len cap len' cap' : Nat} {x y : List Vl} {w : World} (hR : RdV K w a len cap x) (hR' : RdV K' w a' len' cap' y) (hx : Short x) (hy : Short y) :
    Calls Tryz.prog 110 #[.slice a len cap, .slice a' len' cap'] w fun e w' => e = .returned (.bool (sameL x y)) ∧ Below w.heap.size w w' := by
  have HC := Lib.hid (rcmpList_any hR hR' hx hy)
  unfold sameL
  clear hR hR' hx hy
  go_enter Tryz.func110, Tryz.ntmps110
  go_wp2_with fail
  refine HC.out.mono ?_
  rintro e w1 ⟨rfl, hb⟩
  go_wp2
  go_ret
  exact ⟨rfl, hb⟩

end Go.Proofs.YtmmdbacejdhdaaaGreatDoor
