/-
  The reference's order: values, lists; equal lists.
-/
import Derived.Test.YtocnkjnlmciojaaGreatDoorVlList
namespace Go.Proofs.YtocnkjnlmciojaaGreatDoor
open Go Go.RowKit Go.Shelf Go.ChangeShapes Go.WideShapes Go.ChangeAt

theorem bs_get (l : List UInt8) (k : Nat) (h : k < (bsOf l).size) : (bsOf l)[k]'h = l[k]?.getD 0 := by
  have h2 : k < l.length := by rw [← bs_size l]; exact h
  rw [List.getElem?_eq_getElem h2]
  rfl

theorem sign_any (a b : Int) (w : World) : Calls Tryz.prog 97 #[.int .i64 a, .int .i64 b] w fun e w' => e = .returned (.int .i64 (sgI a b)) ∧ Below w.heap.size w w' := by
  by_cases h1 : a < b
  · have HS : Hid (sgI a b = -1) := if_pos h1
    go_enter Tryz.func97, Tryz.ntmps97
    go_wp2
    go_ret
    exact ⟨ret_int HS.out.symm, Below.self _⟩
  · by_cases h2 : b < a
    · have HS : Hid (sgI a b = 1) := (if_neg h1).trans (if_pos h2)
      go_enter Tryz.func97, Tryz.ntmps97
      go_wp2
      go_ret
      exact ⟨ret_int HS.out.symm, Below.self _⟩
    · have HS : Hid (sgI a b = 0) := (if_neg h1).trans (if_neg h2)
      go_enter Tryz.func97, Tryz.ntmps97
      go_wp2
      go_ret
      exact ⟨ret_int HS.out.symm, Below.self _⟩

theorem sgS_cons (a b : UInt8) (x y : List UInt8) : sgS (a :: x) (b :: y) = if a = b then sgS x y else sgI a.toNat b.toNat := by
  unfold sgS sgI
  by_cases h : a = b
  · subst h
    rw [if_pos rfl]
    have e1 : (a :: x < a :: y) ↔ x < y := by rw [List.cons_lt_cons_iff]; simp
    have e2 : (a :: y < a :: x) ↔ y < x := by rw [List.cons_lt_cons_iff]; simp
    simp only [e1, e2]
  · rw [if_neg h]
    have e1 : (a :: x < b :: y) ↔ (a.toNat : Int) < (b.toNat : Int) := by rw [List.cons_lt_cons_iff]; simp [h, UInt8.lt_iff_toNat_lt]
    have e2 : (b :: y < a :: x) ↔ (b.toNat : Int) < (a.toNat : Int) := by rw [List.cons_lt_cons_iff]; simp [Ne.symm h, UInt8.lt_iff_toNat_lt]
    simp only [e1, e2]
theorem sgS_nil (y : List UInt8) : sgS [] y = sgI 0 y.length := by
  unfold sgS sgI
  cases y with
  | nil => rfl
  | cons b r => simp
theorem sgS_nil' (x : List UInt8) : sgS x [] = sgI x.length 0 := by
  unfold sgS sgI
  cases x with
  | nil => rfl
  | cons b r => simp; omega
theorem sgI_sub (a b c : Int) : sgI (a + c) (b + c) = sgI a b := by
  unfold sgI
  simp only [Int.add_lt_add_iff_right]
theorem drop8r {s : List UInt8} {k : Nat} (hk : k < s.length) : s.drop k = s[k]?.getD 0 :: s.drop (k + 1) := by
  rw [List.drop_eq_getElem_cons hk, List.getElem?_eq_getElem hk]; rfl
theorem sgS_same {x y : List UInt8} {k : Nat} (hx : k < x.length) (hy : k < y.length) (h : x[k]?.getD 0 = y[k]?.getD 0) : sgS (x.drop k) (y.drop k) = sgS (x.drop (k + 1)) (y.drop (k + 1)) := by
  rw [drop8r hx, drop8r hy, sgS_cons, if_pos h]
theorem sgS_other {x y : List UInt8} {k : Nat} (hx : k < x.length) (hy : k < y.length) (h : ¬ x[k]?.getD 0 = y[k]?.getD 0) : sgS (x.drop k) (y.drop k) = sgI (x[k]?.getD 0).toNat (y[k]?.getD 0).toNat := by
  rw [drop8r hx, drop8r hy, sgS_cons, if_neg h]
theorem sgS_over {x y : List UInt8} {k : Nat} (hx : k ≤ x.length) (hy : k ≤ y.length) (h : k = x.length ∨ k = y.length) : sgS (x.drop k) (y.drop k) = sgI x.length y.length := by
  rcases h with h | h
  · have e : x.drop k = [] := List.drop_eq_nil_of_le (by omega)
    rw [e, sgS_nil, List.length_drop, ← sgI_sub 0 _ (k : Int)]
    congr 1 <;> omega
  · have e : y.drop k = [] := List.drop_eq_nil_of_le (by omega)
    rw [e, sgS_nil', List.length_drop, ← sgI_sub _ 0 (k : Int)]
    congr 1 <;> omega

set_option maxRecDepth 100000 in
set_option maxHeartbeats 2000000 in
theorem strings_any (s t : List UInt8) (hs : s.length ≤ 1048576) (ht : t.length ≤ 1048576) (W : World) :
    Calls Tryz.prog 98 #[.string (bsOf s), .string (bsOf t)] W fun e w' => e = .returned (.int .i64 (sgS s t)) ∧ Below W.heap.size W w' := by
  have HS := Lib.hid (bs_size s)
  have HT := Lib.hid (bs_size t)
  have HAS := Lib.hid (bs_get s)
  have HAT := Lib.hid (bs_get t)
  have HE0 : Hid (∀ z, z = sgS s t → Ending.returned (.int .i64 z) = .returned (.int .i64 (sgS s t))) := fun z h => by rw [h]
  have HSG : Hid (∀ (a b : Int) (W : World), Calls Tryz.prog 97 #[.int .i64 a, .int .i64 b] W fun e w' => e = .returned (.int .i64 (sgI a b)) ∧ Below W.heap.size W w') := fun a b W => sign_any a b W
  obtain ⟨S, hS⟩ : ∃ S, bsOf s = S := ⟨_, rfl⟩
  obtain ⟨T, hT⟩ : ∃ T, bsOf t = T := ⟨_, rfl⟩
  rw [hS] at HS HAS
  rw [hT] at HT HAT
  rw [hS, hT]
  have hs1 : S.size ≤ 1048576 := by rw [HS.out]; exact hs
  have ht1 : T.size ≤ 1048576 := by rw [HT.out]; exact ht
  clear hS hT hs ht
  go_enter Tryz.func98, Tryz.ntmps98
  go_wp2
  go_loopw [5] (fun i wr => ∃ k : Nat, k ≤ S.size ∧ k ≤ T.size ∧ i = .int .i64 k ∧ Hid (sgS s t = sgS (s.drop k) (t.drop k)) ∧ Hid (Below W.heap.size W wr)) (fun i _ => S.size - (intOf i).toNat)
  case atStart => exact ⟨0, Nat.zero_le _, Nat.zero_le _, rfl, rfl, Below.self W⟩
  case round =>
    obtain ⟨k, hk, hk', rfl, HE, HB⟩ := hrel
    by_cases hlt : k < S.size
    · by_cases hlt' : k < T.size
      · have hx := HAS.out k hlt
        have hy := HAT.out k hlt'
        have hkI : (k : Int) < (S.size : Int) := by omega
        have hkI' : (k : Int) < (T.size : Int) := by omega
        by_cases he : s[k]?.getD 0 = t[k]?.getD 0
        · have HE2 : Hid (sgS s t = sgS (s.drop (k + 1)) (t.drop (k + 1))) := HE.out.trans (sgS_same (by rw [← HS.out]; exact hlt) (by rw [← HT.out]; exact hlt') he)
          rw [← he] at hy
          clear he
          generalize s[k]?.getD 0 = x at *
          go_wp2
          go_quiet (fail)
          go_wp2
          go_roundw
          case rel => exact ⟨k + 1, by omega, by omega, by go_num, HE2, below_drewN HB.out _⟩
          case measure => simp [intOf]; omega
        · have HR := Lib.hid (HE0.out _ (HE.out.trans (sgS_other (by rw [← HS.out]; exact hlt) (by rw [← HT.out]; exact hlt') he)).symm)
          have hne2 : (((s[k]?.getD 0).toNat : Int) == ((t[k]?.getD 0).toNat : Int)) = false := by
            rw [beq_eq_false_iff_ne]; exact fun h => he (UInt8.toNat_inj.1 (by omega))
          have hne : ((s[k]?.getD 0).toNat == (t[k]?.getD 0).toNat) = false := by
            rw [beq_eq_false_iff_ne]; exact fun h => he (UInt8.toNat_inj.1 h)
          clear he
          generalize s[k]?.getD 0 = x at *
          generalize t[k]?.getD 0 = y at *
          go_wp2
          go_quiet (fail)
          have hwx : IntKind.i64.wrap (x.toNat : Int) = (x.toNat : Int) := by have := x.toNat_lt; rw [IntKind.wrap_i64]; omega
          have hwy : IntKind.i64.wrap (y.toNat : Int) = (y.toNat : Int) := by have := y.toNat_lt; rw [IntKind.wrap_i64]; omega
          go_upto_region 5 with fail
          have HBN : Hid (Below W.heap.size W (wr.drewN nq)) := below_drewN HB.out nq
          generalize wr.drewN nq = V at *
          refine wp_region_quiet_below (by kernel_rfl) (by kernel_rfl) ?_
          repeat (go_big_quiet_step (first
            | (go_at_call 97; with_reducible exact Calls.regrown_of (HSG.out _ _ _))))
          refine wpQuiet_nil ?_
          intro _ hw'
          obtain ⟨⟨dq, osq⟩, hw''⟩ := hw'
          subst hw''
          have HBQ : Hid (Below W.heap.size W (Go.Sort.grow (redrawn V dq) osq)) := HBN.out.trans ((below_regrown V dq osq).mono HBN.out.size)
          generalize Go.Sort.grow (redrawn V dq) osq = WQ at *
          go_wp2
          go_ret
          exact ⟨HR.out, HBQ.out⟩
      · obtain rfl : k = T.size := by omega
        have HR := Lib.hid (HE0.out _ (HE.out.trans (sgS_over (by rw [← HS.out]; exact hk) (by rw [← HT.out]; exact hk') (.inr HT.out))).symm)
        rw [← HS.out, ← HT.out] at HR
        have hm : ¬ ((T.size : Int) < (T.size : Int)) := Int.lt_irrefl _
        go_wp2_with fail
        refine (HSG.out _ _ _).mono ?_
        rintro e w1 ⟨rfl, hb⟩
        have HB1 : Hid (Below W.heap.size W w1) := HB.out.trans (hb.mono HB.out.size)
        clear hb
        go_wp2
        go_ret
        exact ⟨HR.out, HB1.out⟩
    · obtain rfl : k = S.size := by omega
      have HR := Lib.hid (HE0.out _ (HE.out.trans (sgS_over (by rw [← HS.out]; exact hk) (by rw [← HT.out]; exact hk') (.inl HS.out))).symm)
      rw [← HS.out, ← HT.out] at HR
      go_wp2_with fail
      refine (HSG.out _ _ _).mono ?_
      rintro e w1 ⟨rfl, hb⟩
      have HB1 : Hid (Below W.heap.size W w1) := HB.out.trans (hb.mono HB.out.size)
      clear hb
      go_wp2
      go_ret
      exact ⟨HR.out, HB1.out⟩

end Go.Proofs.YtocnkjnlmciojaaGreatDoor

namespace Go.Proofs.YtocnkjnlmciojaaGreatDoor
open Go Go.RowKit Go.Shelf Go.ChangeShapes Go.WideShapes Go.ChangeAt

theorem sgI_zero {a b : Int} (h : sgI a b = 0) : a = b := by
  unfold sgI at h
  split at h
  · cases h
  · split at h
    · cases h
    · omega
theorem sgI_self (a : Int) : sgI a a = 0 := by unfold sgI; rw [if_neg (Int.lt_irrefl _), if_neg (Int.lt_irrefl _)]

set_option maxRecDepth 100000 in
set_option maxHeartbeats 2000000 in
theorem rcmp_any (a b : Vl) (ha : a.s.length ≤ 1048576) (hb : b.s.length ≤ 1048576) (w : World) : Calls Tryz.prog 37 #[encV a, encV b] w fun e w' => e = .returned (.int .i64 (cmpV a b)) ∧ Below w.heap.size w w' := by
  obtain ⟨k, i, s⟩ := a
  obtain ⟨k', i', s'⟩ := b
  unfold encV
  dsimp only
  have HSG : Hid (∀ (a b : Int) (W : World), Calls Tryz.prog 97 #[.int .i64 a, .int .i64 b] W fun e w' => e = .returned (.int .i64 (sgI a b)) ∧ Below W.heap.size W w') := fun a b W => sign_any a b W
  have HST : Hid (∀ (W : World), Calls Tryz.prog 98 #[.string (bsOf s), .string (bsOf s')] W fun e w' => e = .returned (.int .i64 (sgS s s')) ∧ Below W.heap.size W w') := fun W => strings_any s s' ha hb W
  have HB0 : Hid (Below w.heap.size w ((w.alloc (.cells #[.int .i64 k, .int .i64 i, .string (bsOf s)] 45)).alloc (.cells #[.int .i64 k', .int .i64 i', .string (bsOf s')] 45))) := ((Below.self w).alloc (Nat.le_refl _) _).alloc (by simp) _
  have hc : ∀ x y : Int, x ≠ y → sgI x y ≠ 0 := fun x y h e => h (sgI_zero e)
  have hs : ∀ x : Int, sgI x x = 0 := sgI_self
  by_cases h1 : k = k'
  · subst h1
    by_cases h2 : i = i'
    · subst h2
      have HR : Hid (cmpV ⟨k, i, s⟩ ⟨k, i, s'⟩ = sgS s s') := by show _ = _; unfold cmpV; rw [if_neg (by simp [hs]), if_neg (by simp [hs])]
      clear hc hs
      go_enter Tryz.func37, Tryz.ntmps37
      go_wp2_with fail
      refine (HST.out _).mono ?_
      rintro e w1 ⟨rfl, hbb⟩
      have HB1 : Hid (Below w.heap.size w w1) := HB0.out.trans (hbb.mono HB0.out.size)
      clear hbb
      go_wp2
      go_ret
      exact ⟨ret_int HR.out.symm, HB1.out⟩
    · have HR : Hid (cmpV ⟨k, i, s⟩ ⟨k, i', s'⟩ = sgI i i') := by show _ = _; unfold cmpV; rw [if_neg (by simp [hs]), if_pos (hc _ _ h2)]
      have hne : (i == i') = false := by simpa using h2
      clear hc hs h2
      go_enter Tryz.func37, Tryz.ntmps37
      go_wp2_with fail
      refine (HSG.out _ _ _).mono ?_
      rintro e w1 ⟨rfl, hbb⟩
      have HB1 : Hid (Below w.heap.size w w1) := HB0.out.trans (hbb.mono HB0.out.size)
      clear hbb
      go_wp2
      go_ret
      exact ⟨ret_int HR.out.symm, HB1.out⟩
  · have HR : Hid (cmpV ⟨k, i, s⟩ ⟨k', i', s'⟩ = sgI k k') := by show _ = _; unfold cmpV; rw [if_pos (hc _ _ h1)]
    have hne : (k == k') = false := by simpa using h1
    clear hc hs h1
    go_enter Tryz.func37, Tryz.ntmps37
    go_wp2_with fail
    refine (HSG.out _ _ _).mono ?_
    rintro e w1 ⟨rfl, hbb⟩
    have HB1 : Hid (Below w.heap.size w w1) := HB0.out.trans (hbb.mono HB0.out.size)
    clear hbb
    go_wp2
    go_ret
    exact ⟨ret_int HR.out.symm, HB1.out⟩

/-- None of the texts is long. -/
def Short (vs : List Vl) : Prop := ∀ v ∈ vs, v.s.length ≤ 1048576
theorem Short.at {vs : List Vl} (h : Short vs) (k : Nat) : (vs[k]?.getD Vl.null).s.length ≤ 1048576 := by
  by_cases hk : k < vs.length
  · rw [List.getElem?_eq_getElem hk]; exact h _ (List.getElem_mem hk)
  · rw [List.getElem?_eq_none (by omega)]; exact Nat.zero_le _

set_option maxRecDepth 100000 in
set_option maxHeartbeats 2000000 in
theorem rcmpList_any {K K' : Nat → Prop} {a a' : Option Addr} {len cap len' cap' : Nat} {x y : List Vl} {w : World} (hR : RdV K w a len cap x) (hR' : RdV K' w a' len' cap' y) (hx : Short x) (hy : Short y) :
    Calls Tryz.prog 49 #[.slice a len cap, .slice a' len' cap'] w fun e w' => e = .returned (.int .i64 (cmpL x y)) ∧ Below w.heap.size w w' := by
  have hfit := hR.fit
  have hsm := hR.small
  have hfit' := hR'.fit
  have hsm' := hR'.small
  have HL := Lib.hid hR.hl
  have HL' := Lib.hid hR'.hl
  have H := Lib.hid hR
  have H' := Lib.hid hR'
  have HX := Lib.hid hx
  have HY := Lib.hid hy
  clear hR hR' hx hy
  have HE : Hid (∀ z, z = cmpL x y → Ending.returned (.int .i64 z) = .returned (.int .i64 (cmpL x y))) := fun z h => by rw [h]
  have HSG : Hid (∀ (a b : Int) (W : World), Calls Tryz.prog 97 #[.int .i64 a, .int .i64 b] W fun e w' => e = .returned (.int .i64 (sgI a b)) ∧ Below W.heap.size W w') := fun a b W => sign_any a b W
  go_enter Tryz.func49, Tryz.ntmps49
  go_wp2
  go_loopw [5] (fun i wr => ∃ k : Nat, k ≤ len ∧ k ≤ len' ∧ i = .int .i64 k ∧ Hid (cmpL x y = cmpL (x.drop k) (y.drop k) ∧ Below w.heap.size w wr)) (fun i _ => len - (intOf i).toNat)
  case atStart => exact ⟨0, Nat.zero_le _, Nat.zero_le _, rfl, rfl, Below.self w⟩
  case round =>
    obtain ⟨k, hk, hk', rfl, HI⟩ := hrel
    by_cases hlt : k < len
    · by_cases hlt' : k < len'
      · obtain ⟨b, off, rfl, _, hb, hc⟩ := H.out.cells (by omega)
        obtain ⟨c0, c1, c2⟩ := hc k hlt
        have C0 := fun d os => cell_regrown ((HI.out.2.cell (p := ⟨b, off + k * 3, none⟩) hb).trans c0) d os
        have C1 := fun d os => cell_regrown ((HI.out.2.cell (p := ⟨b, off + k * 3 + 1, none⟩) hb).trans c1) d os
        have C2 := fun d os => cell_regrown ((HI.out.2.cell (p := ⟨b, off + k * 3 + 2, none⟩) hb).trans c2) d os
        obtain ⟨b', off', rfl, _, hb', hc'⟩ := H'.out.cells (by omega)
        obtain ⟨d0, d1, d2⟩ := hc' k hlt'
        have D0 := fun d os => cell_regrown ((HI.out.2.cell (p := ⟨b', off' + k * 3, none⟩) hb').trans d0) d os
        have D1 := fun d os => cell_regrown ((HI.out.2.cell (p := ⟨b', off' + k * 3 + 1, none⟩) hb').trans d1) d os
        have D2 := fun d os => cell_regrown ((HI.out.2.cell (p := ⟨b', off' + k * 3 + 2, none⟩) hb').trans d2) d os
        have HC : Hid (∀ W, Calls Tryz.prog 37 #[.agg #[.int .i64 (x[k]?.getD Vl.null).k, .int .i64 (x[k]?.getD Vl.null).i, .string (bsOf (x[k]?.getD Vl.null).s)], .agg #[.int .i64 (y[k]?.getD Vl.null).k, .int .i64 (y[k]?.getD Vl.null).i, .string (bsOf (y[k]?.getD Vl.null).s)]] W fun e w' => e = .returned (.int .i64 (cmpV (x[k]?.getD Vl.null) (y[k]?.getD Vl.null))) ∧ Below W.heap.size W w') := fun W => rcmp_any _ _ (HX.out.at k) (HY.out.at k) W
        have HS : Hid (cmpV (x[k]?.getD Vl.null) (y[k]?.getD Vl.null) = 0 → cmpL (x.drop k) (y.drop k) = cmpL (x.drop (k + 1)) (y.drop (k + 1))) := cmpL_step (by rw [← HL.out]; exact hlt) (by rw [← HL'.out]; exact hlt')
        have HN : Hid (cmpV (x[k]?.getD Vl.null) (y[k]?.getD Vl.null) ≠ 0 → cmpL (x.drop k) (y.drop k) = cmpV (x[k]?.getD Vl.null) (y[k]?.getD Vl.null)) := cmpL_ne (by rw [← HL.out]; exact hlt) (by rw [← HL'.out]; exact hlt')
        clear hc hc' c0 c1 c2 d0 d1 d2
        generalize x[k]?.getD Vl.null = p at *
        generalize y[k]?.getD Vl.null = q at *
        have hkI : (k : Int) < (len : Int) := by omega
        have hkI' : (k : Int) < (len' : Int) := by omega
        go_upto_region 4 with fail
        refine wp_region_quiet_below (by kernel_rfl) (by kernel_rfl) ?_
        repeat (go_big_quiet_step (first
          | (go_at_call 37; with_reducible exact Calls.regrown_of (HC.out _))))
        refine wpQuiet_nil ?_
        intro _ hw'
        obtain ⟨⟨dq, osq⟩, hw''⟩ := hw'
        subst hw''
        have HBQ : Hid (Below w.heap.size w (Go.Sort.grow (redrawn wr dq) osq)) := HI.out.2.trans ((below_regrown wr dq osq).mono HI.out.2.size)
        clear C0 C1 C2 D0 D1 D2
        generalize Go.Sort.grow (redrawn wr dq) osq = WQ at *
        by_cases hz : cmpV p q = 0
        · have HST := Lib.hid (HS.out hz)
          rw [hz]
          clear hz
          go_wp2
          go_roundw
          case rel => exact ⟨k + 1, by omega, by omega, by go_num, HI.out.1.trans HST.out, HBQ.out⟩
          case measure => simp [intOf]; omega
        · have HRR := HE.out (cmpV p q) ((HI.out.1.trans (HN.out hz)).symm)
          have hne : (cmpV p q != 0) = true := by simpa using hz
          generalize cmpV p q = z at *
          go_wp2
          go_ret
          exact ⟨HRR, HBQ.out⟩
      · obtain rfl : k = len' := by omega
        have HRR : Hid (Ending.returned (.int .i64 (sgI len k)) = .returned (.int .i64 (cmpL x y))) := HE.out _ (by
          rw [HI.out.1, cmpL_right (by rw [← HL.out]; exact hlt) (by rw [← HL'.out]; exact Nat.le_refl _)]
          unfold sgI
          rw [if_neg (by omega), if_pos (by omega)])
        have hd2 : ¬ ((k : Int) < (k : Int)) := Int.lt_irrefl _
        go_wp2_with fail
        refine (HSG.out _ _ _).mono ?_
        rintro e w1 ⟨rfl, hbb⟩
        have HB1 : Hid (Below w.heap.size w w1) := HI.out.2.trans (hbb.mono HI.out.2.size)
        clear hbb
        go_wp2
        go_ret
        exact ⟨HRR.out, HB1.out⟩
    · obtain rfl : k = len := by omega
      have HRR : Hid (Ending.returned (.int .i64 (sgI k len')) = .returned (.int .i64 (cmpL x y))) := HE.out _ (by
        rw [HI.out.1]
        by_cases h : k < len'
        · rw [cmpL_left (by rw [← HL.out]; exact Nat.le_refl _) (by rw [← HL'.out]; exact h)]
          unfold sgI
          rw [if_pos (by omega)]
        · rw [cmpL_both (by rw [← HL.out]; exact Nat.le_refl _) (by rw [← HL'.out]; omega)]
          unfold sgI
          rw [if_neg (by omega), if_neg (by omega)])
      go_wp2_with fail
      refine (HSG.out _ _ _).mono ?_
      rintro e w1 ⟨rfl, hbb⟩
      have HB1 : Hid (Below w.heap.size w w1) := HI.out.2.trans (hbb.mono HI.out.2.size)
      clear hbb
      go_wp2
      go_ret
      exact ⟨HRR.out, HB1.out⟩

/-! ### Equal lists -/

theorem sgS_zero {a b : List UInt8} (h : sgS a b = 0) : a = b := by
  unfold sgS at h
  split at h
  · cases h
  · split at h
    · cases h
    · rename_i h1 h2
      exact List.le_antisymm (List.not_lt.1 h2) (List.not_lt.1 h1)
theorem sgS_self (a : List UInt8) : sgS a a = 0 := by unfold sgS; rw [if_neg (List.lt_irrefl _), if_neg (List.lt_irrefl _)]
theorem cmpV_zero {a b : Vl} (h : cmpV a b = 0) : a = b := by
  unfold cmpV at h
  split at h
  · rename_i h1; exact absurd h h1
  · split at h
    · rename_i h1; exact absurd h h1
    · rename_i h1 h2
      exact Vl.ext (sgI_zero (by omega)) (sgI_zero (by omega)) (sgS_zero h)
theorem cmpV_self (a : Vl) : cmpV a a = 0 := by unfold cmpV; rw [if_neg (by simp [sgI_self]), if_neg (by simp [sgI_self]), sgS_self]
theorem cmpL_zero : ∀ {x y : List Vl}, cmpL x y = 0 → x = y
  | [], [], _ => rfl
  | [], _ :: _, h => by cases h
  | _ :: _, [], h => by cases h
  | a :: x, b :: y, h => by
    unfold cmpL at h
    split at h
    · rename_i h1; exact absurd h h1
    · rename_i h1
      rw [cmpV_zero (show cmpV a b = 0 by omega), cmpL_zero h]
theorem cmpL_self : ∀ (x : List Vl), cmpL x x = 0
  | [] => rfl
  | a :: x => by unfold cmpL; rw [if_neg (by simp [cmpV_self]), cmpL_self x]

/-- Are the lists equal? -/
def sameL (x y : List Vl) : Bool := cmpL x y == 0
theorem sameL_self (x : List Vl) : sameL x x = true := by unfold sameL; rw [cmpL_self]; rfl
theorem sameL_iff {x y : List Vl} : sameL x y = true ↔ x = y := by
  unfold sameL
  rw [beq_iff_eq]
  exact ⟨cmpL_zero, fun h => by rw [h, cmpL_self]⟩

theorem rsame_any {K K' : Nat → Prop} {a a' : Option Addr} {len cap len' cap' : Nat} {x y : List Vl} {w : World} (hR : RdV K w a len cap x) (hR' : RdV K' w a' len' cap' y) (hx : Short x) (hy : Short y) :
    Calls Tryz.prog 105 #[.slice a len cap, .slice a' len' cap'] w fun e w' => e = .returned (.bool (sameL x y)) ∧ Below w.heap.size w w' := by
  have HC := Lib.hid (rcmpList_any hR hR' hx hy)
  unfold sameL
  clear hR hR' hx hy
  go_enter Tryz.func105, Tryz.ntmps105
  go_wp2_with fail
  refine HC.out.mono ?_
  rintro e w1 ⟨rfl, hb⟩
  go_wp2
  go_ret
  exact ⟨rfl, hb⟩

end Go.Proofs.YtocnkjnlmciojaaGreatDoor
