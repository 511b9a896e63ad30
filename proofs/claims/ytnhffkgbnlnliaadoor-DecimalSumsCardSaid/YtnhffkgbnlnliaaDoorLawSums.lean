/-
  Sums: for all numbers and lists, the law returns true and changes nothing.
-/
import Derived.Test.YtnhffkgbnlnliaaDoorDecEx2
import Derived.Test.YtnhffkgbnlnliaaDoorDecSumRow
import Derived.Lib.QuietBelow
import Derived.BigQuiet
import Derived.Outline
namespace Go.Proofs.YtnhffkgbnlnliaaDoor.De.decimalSums
open Go Go.RowKit Go.Shelf Go.Sort Go.ChangeShapes Go.WideShapes Go.ChangeAt
open Go.Proofs.YtnhffkgbnlnliaaDoor.De

structure Facts (a b x y t d1 d2 : Int) : Prop where
  f_x : a.tmod 1000000000000001 = x
  f_y : b.tmod 1000000000000001 = y
  f_x0 : -1000000000000000 ≤ x
  f_x1 : x ≤ 1000000000000000
  f_y0 : -1000000000000000 ≤ y
  f_y1 : y ≤ 1000000000000000
  f_t : wrap64 (x + y) = t
  f_t2 : x + y = t
  f_t0 : -2000000000000000 ≤ t
  f_t1 : t ≤ 2000000000000000
  f_p : addS x y = chk t
  f_c : addS y x = chk t
  f_m : subS x y = (d1, d2)
  f_n : addS x (-y) = (d1, d2)
  f_d0 : -1000000000000000 ≤ d1
  f_d1 : d1 ≤ 1000000000000000
  f_l : validB t = true → subS t y = (x, 0)

theorem tmod_range (a m : Int) (hm : 0 < m) : -m < a.tmod m ∧ a.tmod m < m := by
  have h1 := Int.tmod_lt_of_pos a hm
  have h2 := Int.lt_tmod_of_pos a hm
  omega

theorem chk_range (n : Int) : -1000000000000000 ≤ (chk n).1 ∧ (chk n).1 ≤ 1000000000000000 := by
  unfold chk
  by_cases h : validB n = true
  · rw [if_pos h]; exact validB_true h
  · rw [if_neg h]; exact ⟨by decide, by decide⟩

theorem facts (a b : Int) : ∃ x y t d1 d2, Facts a b x y t d1 d2 := by
  have tx := tmod_range a 1000000000000001 (by decide)
  have ty := tmod_range b 1000000000000001 (by decide)
  generalize hx : a.tmod 1000000000000001 = x at tx
  generalize hy : b.tmod 1000000000000001 = y at ty
  have vx : validB x = true := validB_mk (by omega) (by omega)
  have vy : validB y = true := validB_mk (by omega) (by omega)
  have vny : validB (-y) = true := validB_mk (by omega) (by omega)
  have hr := chk_range (x - y)
  refine ⟨x, y, x + y, (chk (x - y)).1, (chk (x - y)).2, ?_⟩
  exact
    { f_x := hx, f_y := hy
      f_x0 := by omega, f_x1 := by omega, f_y0 := by omega, f_y1 := by omega
      f_t := by unfold wrap64; omega
      f_t2 := rfl
      f_t0 := by omega, f_t1 := by omega
      f_p := by unfold addS; rw [vx, vy]; rfl
      f_c := by unfold addS; rw [vx, vy, Int.add_comm y x]; rfl
      f_m := by unfold subS; rw [vx, vy]; rfl
      f_n := by unfold addS; rw [vx, vny, ← Int.sub_eq_add_neg]; rfl
      f_d0 := hr.1, f_d1 := hr.2
      f_l := fun h => by
        unfold subS
        rw [h, vy, show x + y - y = x by omega]
        unfold chk
        rw [vx]; rfl }

theorem reads_at {k : IntKind} {a : Option Addr} {len cap j : Nat} {zs : List Int} {w0 W : World} (h : ReadsK (fun b => b < w0.heap.size) w0 k (.slice a len cap) zs) (hlen : len = zs.length) (hj : j < len) (hb : Below w0.heap.size w0 W) :
    ∃ b off, a = some ⟨b, off, none⟩ ∧ b < w0.heap.size ∧ W.cell? ⟨b, off + j, none⟩ = some (.int k (zs[j]?.getD 0)) := by
  rcases h with ⟨a', cap', e, rfl⟩ | ⟨b, off, cap', e, hbl, _, hc⟩
  · simp at hlen; omega
  · obtain rfl : a = some ⟨b, off, none⟩ := by cases e; rfl
    exact ⟨b, off, rfl, hbl, (hb.cell (p := ⟨b, off + j, none⟩) hbl).trans (hc j (by omega))⟩

theorem rev_step (zs : List Int) (k : Nat) (h : k < zs.length) : zs.reverse.take (k + 1) = zs.reverse.take k ++ [zs[zs.length - 1 - k]?.getD 0] := by
  rw [List.take_add_one, List.getElem?_reverse h, List.getElem?_eq_getElem (by omega)]
  rfl


theorem chk_cases (t : Int) (r1 r2 : Int) (h : chk t = (r1, r2)) : (r1 = t ∧ r2 = 0 ∧ validB t = true) ∨ (r1 = 0 ∧ r2 = 2 ∧ ¬ t ≤ 1000000000000000) ∨ (r1 = 0 ∧ r2 = 2 ∧ t ≤ 1000000000000000 ∧ ¬ -1000000000000000 ≤ t) := by
  unfold chk at h
  by_cases hv : validB t = true
  · rw [if_pos hv] at h
    cases h
    exact .inl ⟨rfl, rfl, hv⟩
  · rw [if_neg hv] at h
    cases h
    by_cases h1 : t ≤ 1000000000000000
    · by_cases h2 : -1000000000000000 ≤ t
      · exact absurd (validB_mk h2 h1) hv
      · exact .inr (.inr ⟨rfl, rfl, h1, h2⟩)
    · exact .inr (.inl ⟨rfl, rfl, h1⟩)
theorem sum_cases (l : List Int) (a b : Int) (h : sumS l = (a, b)) : (b = 0 ∧ a = a) ∨ (b = 2 ∧ a = 0) := by
  by_cases h0 : b = 0
  · exact .inl ⟨h0, rfl⟩
  · have := sumS_bad l (by rw [h]; exact h0)
    rw [h] at this
    cases this
    exact .inr ⟨rfl, rfl⟩

set_option maxRecDepth 100000 in
set_option maxHeartbeats 4000000 in
theorem walk (a b : Int) (zs : List Int) (len cap : Nat) (p : Option Addr) (hlen : Hid (len = zs.length)) (hcap : len ≤ cap) (hl63 : len ≤ 60) (hz : ∀ z ∈ zs, I64 z) (w : World) (hV : Vars w) (hR : ReadsK (fun b => b < w.heap.size) w .i64 (.slice p len cap) zs) :
    Calls Tryd.prog 3 #[.int .i64 a, .int .i64 b, .slice p len cap] w fun e w' => e = .returned (.bool true) ∧ Below w.heap.size w w' := by
  obtain ⟨x, y, t, d1, d2, F⟩ := facts a b
  obtain ⟨r1, r2, hr12⟩ : ∃ r1 r2, chk t = (r1, r2) := ⟨_, _, rfl⟩
  have hxI : I64 x := ⟨by have := F.f_x0; omega, by have := F.f_x1; omega⟩
  have hyI : I64 y := ⟨by have := F.f_y0; omega, by have := F.f_y1; omega⟩
  have hnI : I64 (-y) := ⟨by have := F.f_y1; omega, by have := F.f_y0; omega⟩
  have htI : I64 t := ⟨by have := F.f_t0; omega, by have := F.f_t1; omega⟩
  have HR := Lib.hid hR
  have HZ := Lib.hid hz
  have HCP := Lib.hid hcap
  have HM := Lib.hid (gL hxI hyI F.f_m)
  have HN := Lib.hid (gA hxI hnI F.f_n)
  have HP := Lib.hid (gA hxI hyI (F.f_p.trans hr12))
  have HC := Lib.hid (gA hyI hxI (F.f_c.trans hr12))
  have HL := Lib.hid (fun h => gL htI hyI (F.f_l h))
  have H12 := Lib.hid (chk_cases t r1 r2 hr12)
  have f1 := F.f_x
  have f2 := F.f_y
  have HY : Hid (-1000000000000000 ≤ y ∧ y ≤ 1000000000000000 ∧ -2000000000000000 ≤ t ∧ t ≤ 2000000000000000 ∧ x + y = t) := ⟨F.f_y0, F.f_y1, F.f_t0, F.f_t1, F.f_t2⟩
  have HEX := Lib.hid (examples_any _ hV)
  have hb := Below.refl w.heap.size w
  obtain ⟨i0, hi, hz0, hz1, hz2⟩ := info_parts Tryd.infoI
  have hf0 := field0
  have hf1 := field1
  have hlI : (len : Int) ≤ 60 := by omega
  clear F hV hxI hnI hyI htI hz hR hr12 hcap
  go_enter Tryd.func3, Tryd.ntmps3
  go_upto_region 6 with (first
    | (go_at_call 4; ((with_reducible refine HEX.out.mono ?_); rintro e w1 ⟨rfl, hb1⟩; replace hb := hb.trans (hb1.mono hb.size); clear hb1))
    | (go_at_call 5; ((with_reducible refine (HP.out _).mono ?_); rintro e w2 ⟨rfl, hb2⟩; replace hb := hb.trans (hb2.mono hb.size); clear hb2)))
  have hk8 : (w2.alloc (.cells #[.int .i64 r1, .int .i64 r2] 26)).heap[w2.heap.size]? = some (.cells #[.int .i64 r1, .int .i64 r2] 26 (0, 0)) := World.alloc_heap_new w2 _
  have hbA := hb.alloc hb.size (.cells #[.int .i64 r1, .int .i64 r2] 26)
  generalize w2.alloc (.cells #[.int .i64 r1, .int .i64 r2] 26) = W at hk8 hbA ⊢
  have hs8 : w2.heap.size < W.heap.size := (Array.getElem?_eq_some_iff.1 hk8).1
  generalize w2.heap.size = B8 at hk8 hs8 ⊢
  clear hb
  refine through [33, 34, 35, 36, 37, 38, 39, 40, 41, 42, 43, 44, 45, 46, 47, 48, 49, 50, 51, 52, 53, 54, 55, 56, 57, 58, 59, 60, 61, 62, 63, 64, 65, 66, 67, 68, 69, 70, 71, 72, 73, 74, 75, 76, 77, 78, 79, 80, 81, 82, 83, 84, 85, 86, 87, 88, 89, 90, 91] 91 (.bool false) ?_ ?_
  · have c80 := Joins.cell_of_block hk8 0
    have c81 := Joins.cell_of_block hk8 1
    simp only [List.getElem?_toArray, List.getElem?_cons_zero] at c80
    simp only [List.getElem?_toArray, List.getElem?_cons_zero, List.getElem?_cons_succ] at c81
    obtain ⟨b3, b4, b5, b6, g2⟩ := HY.out
    have n1 : wrap64 (-y) = -y := by unfold wrap64; omega
    have n2 : IntKind.i64.wrap (-y) = -y := by rw [wrap_i64]; omega
    have n3 : IntKind.i64.wrap t = t := by rw [wrap_i64]; omega
    have n4 : wrap64 t = t := by unfold wrap64; omega
    have n5 : IntKind.i64.wrap (x + y) = t := by rw [wrap_i64]; omega
    have n6 : wrap64 (x + y) = t := by unfold wrap64; omega
    clear b3 b4 b5 b6 hk8 hbA hs8
    rcases H12.out with ⟨rfl, rfl, hv⟩ | ⟨rfl, rfl, hv1⟩ | ⟨rfl, rfl, hv1, hv2⟩
    · have HLv := Lib.hid (HL.out hv)
      clear hv HY H12
      have K0 := fun d os => cell_regrown c80 d os
      have K1 := fun d os => cell_regrown c81 d os
      refine wp_region_quiet_below (by kernel_rfl) (by kernel_rfl) ?_
      repeat (go_big_quiet_step (first
        | (go_at_call 5; with_reducible exact Calls.regrown_of (HC.out _))
        | (go_at_call 5; with_reducible exact Calls.regrown_of (HN.out _))
        | (go_at_call 6; with_reducible exact Calls.regrown_of (HLv.out _))
        | (go_at_call 6; with_reducible exact Calls.regrown_of (HM.out _))))
      refine wpQuiet_nil ?_
      intro _ hw'
      obtain ⟨⟨dq, osq⟩, hw''⟩ := hw'
      subst hw''
      exact shown (below_regrown _ _ _) rfl (by kernel_rfl)
    · have hd1 : decide (t ≤ 1000000000000000) = false := by simp [hv1]
      clear HY H12 HL
      have K0 := fun d os => cell_regrown c80 d os
      have K1 := fun d os => cell_regrown c81 d os
      refine wp_region_quiet_below (by kernel_rfl) (by kernel_rfl) ?_
      repeat (go_big_quiet_step (first
        | (go_at_call 5; with_reducible exact Calls.regrown_of (HC.out _))
        | (go_at_call 5; with_reducible exact Calls.regrown_of (HN.out _))
        | (go_at_call 6; with_reducible exact Calls.regrown_of (HM.out _))))
      refine wpQuiet_nil ?_
      intro _ hw'
      obtain ⟨⟨dq, osq⟩, hw''⟩ := hw'
      subst hw''
      exact shown (below_regrown _ _ _) rfl (by kernel_rfl)
    · have hd1 : decide (t ≤ 1000000000000000) = true := by simp [hv1]
      have hd2 : decide (-1000000000000000 ≤ t) = false := by simp [hv2]
      clear HY H12 HL
      have K0 := fun d os => cell_regrown c80 d os
      have K1 := fun d os => cell_regrown c81 d os
      refine wp_region_quiet_below (by kernel_rfl) (by kernel_rfl) ?_
      repeat (go_big_quiet_step (first
        | (go_at_call 5; with_reducible exact Calls.regrown_of (HC.out _))
        | (go_at_call 5; with_reducible exact Calls.regrown_of (HN.out _))
        | (go_at_call 6; with_reducible exact Calls.regrown_of (HM.out _))))
      refine wpQuiet_nil ?_
      intro _ hw'
      obtain ⟨⟨dq, osq⟩, hw''⟩ := hw'
      subst hw''
      exact shown (below_regrown _ _ _) rfl (by kernel_rfl)
  · intro ev6 V6 hev6 hB6
    simp only [putAll, hev6]
    clear hev6
    have HB6 := Lib.hid (hbA.trans (hB6.mono hbA.size))
    clear hB6 hbA hk8 hs8 HC HN HL HM HP H12 HY HEX f1 f2
    simp [Act.put]
    go_wp2_with (fail)
    have hown := World.ownsRow_made V6 (base := w.heap.size) (e := 3) (size := 1) #[] 0 HB6.out.size (by decide) rfl
    have HI0 := Lib.hid (And.intro (HB6.out.alloc HB6.out.size (.cells #[] 3)) hown)
    clear hown
    go_loopw [11, 12] (fun bk i wr => ∃ k g c : Nat, k ≤ len ∧ bk = .slice (some ⟨g, 0, none⟩) k c ∧ i = .int .i64 ((len : Int) - 1 - (k : Int)) ∧ Below w.heap.size w wr ∧ wr.ownsRow w.heap.size 3 1 (.slice (some ⟨g, 0, none⟩) k c) k ((zs.reverse.take k).map (Value.int .i64))) (fun _ i _ => (intOf i + 1).toNat)
    case atStart => exact ⟨0, _, _, by omega, rfl, by go_num, HI0.out.1, HI0.out.2⟩
    case round =>
      obtain ⟨k, g, c, hk, rfl, rfl, hb, hX⟩ := hrel
      by_cases hlt : k < len
      · obtain ⟨j, hj⟩ : ∃ j : Nat, (len : Int) - 1 - (k : Int) = (j : Int) := ⟨len - 1 - k, by omega⟩
        have hjl : j < len := by omega
        obtain ⟨b, off, rfl, hbl, hcl⟩ := reads_at (j := j) HR.out hlen.out hjl hb
        have HV := Lib.hid (rev_step zs k (by rw [← hlen.out]; exact hlt))
        have e1 : zs.length - 1 - k = j := by rw [← hlen.out]; omega
        rw [e1] at HV
        have HJ := Lib.hid hj
        rw [hj]
        have hjl2 : (j : Int) < (len : Int) := by omega
        have hbg : w.heap.size ≤ g := by rcases row_form hX (by simp) with ⟨g', c', e, _, h⟩; cases e; exact h
        clear e1 hj
        go_wp2_with (at_builtin; obtain ⟨gX, cX, wX, hr, hX', hg, hcX, hbX⟩ := run_append_one _ w.heap.size 22 22 3 i0 _ 8 .i64 Tryd.underlying22 hi hz0 hz1 hz2 rfl g k c _ hX (zs[j]?.getD 0) 3 (by unfold maxLen; omega) (by omega) hb.size; refine wpList_append_want (o := ⟨some 106, _, _, _, _, _⟩) _ rfl _ _ _ _ rfl _ _ rfl rfl _ _ hr ?_; replace hb := (hb.alloc hb.size (.cells #[.int .i64 (zs[j]?.getD 0)] 3)).grown hg (hb.alloc hb.size _).size (fun r e => by cases e; exact hbg); clear hr hg hX)
        go_roundw
        case rel => exact ⟨k + 1, gX, cX, by omega, rfl, by have := HJ.out; go_num, hb, by rw [HV.out, List.map_append]; exact hX'⟩
        case measure => simp [intOf]
      · obtain rfl : k = len := by omega
        have HBK : Hid (ReadsK (fun b => b < wr.heap.size) wr .i64 (.slice (some ⟨g, 0, none⟩) k c) zs.reverse) := by
          have e : zs.reverse.take k = zs.reverse := List.take_of_length_le (by rw [List.length_reverse, ← hlen.out]; exact Nat.le_refl _)
          rw [e] at hX
          exact row_reads (by rw [List.length_reverse]; exact hlen.out) hX
        have HRL : Hid (ReadsK (fun b => b < wr.heap.size) wr .i64 (.slice p k cap) zs) := (HR.out.below hb).mono fun b h _ => h
        have HB := Lib.hid hb
        clear hX hb HR HI0 HB6 hk hlt i0 hi hz0 hz1 hz2
        go_upto_region 14 with (fail)
        obtain ⟨m, hm⟩ : ∃ m : Nat, (k : Int) / 2 = (m : Int) := ⟨k / 2, by omega⟩
        have hmk : m ≤ k := by omega
        rw [hm]
        clear hm
        obtain ⟨pa, c1, hc1, hr1⟩ := cut_low (P := Tryd.prog) 22 (by kernel_rfl) (fun _ => by kernel_rfl) HRL.out hlen.out HCP.out m hmk
        obtain ⟨pb, c2, hc2, hr2⟩ := cut_high (P := Tryd.prog) 22 (by kernel_rfl) (fun _ => by kernel_rfl) HRL.out hlen.out HCP.out m hmk
        have HC1 := Lib.hid hc1
        have HC2 := Lib.hid hc2
        have HR1 := Lib.hid hr1
        have HR2 := Lib.hid hr2
        clear hc1 hc2 hr1 hr2
        have HL : Hid (zs.length ≤ 1000000) := by have := hlen.out; show _ ≤ _; omega
        have HL1 : Hid ((zs.take m).length ≤ 1000000) := by have := hlen.out; show _ ≤ _; rw [List.length_take]; omega
        have HL2 : Hid ((zs.drop m).length ≤ 1000000) := by have := hlen.out; show _ ≤ _; rw [List.length_drop]; omega
        have HZ1 : Hid (∀ z ∈ zs.take m, I64 z) := fun z hz => HZ.out z (List.mem_of_mem_take hz)
        have HZ2 : Hid (∀ z ∈ zs.drop m, I64 z) := fun z hz => HZ.out z (List.mem_of_mem_drop hz)
        obtain ⟨u1, u2, hu⟩ : ∃ u1 u2, sumS zs = (u1, u2) := ⟨_, _, rfl⟩
        obtain ⟨v1, v2, hv⟩ : ∃ v1 v2, sumS (zs.take m) = (v1, v2) := ⟨_, _, rfl⟩
        obtain ⟨w1, w2, hw⟩ : ∃ w1 w2, sumS (zs.drop m) = (w1, w2) := ⟨_, _, rfl⟩
        have HU := Lib.hid hu
        have HV := Lib.hid hv
        have HW := Lib.hid hw
        clear hu hv hw
        refine wp_region_vars (base := wr.heap.size) (fs := [Fact.is (.slice p k cap), Fact.is (.agg #[.int .i64 u1, .int .i64 u2]), Fact.is (.slice p k cap), Fact.is (.int .i64 (m : Int)), Fact.is (.slice pa m c1), Fact.is (.agg #[.int .i64 v1, .int .i64 v2]), Fact.is (.slice p k cap), Fact.is (.int .i64 (m : Int)), Fact.is (.slice pb (k - m) c2), Fact.is (.agg #[.int .i64 w1, .int .i64 w2]), Fact.no, Fact.no, Fact.no, Fact.no, Fact.no, Fact.no]) (bs := [false, false, false, false, false, false, false, false, false, false, true, true, true, false, false, false]) (vs := [⟨10, 13, 14, 26, #[.int .i64 0, .int .i64 0], #[.int .i64 u1, .int .i64 u2]⟩, ⟨11, 14, 15, 26, #[.int .i64 0, .int .i64 0], #[.int .i64 v1, .int .i64 v2]⟩, ⟨12, 15, 16, 26, #[.int .i64 0, .int .i64 0], #[.int .i64 w1, .int .i64 w2]⟩]) (by kernel_rfl) (by kernel_rfl) (by kernel_rfl) (by kernel_rfl) (by simp [Apart]) rfl ⟨(fun h => by cases h), (fun h => by cases h), (fun h => by cases h), (fun h => by cases h), (fun h => by cases h), (fun h => by cases h), (fun h => by cases h), (fun h => by cases h), (fun h => by cases h), (fun h => by cases h), fun _ => rfl, fun _ => rfl, fun _ => rfl, (fun h => by cases h), (fun h => by cases h), (fun h => by cases h), trivial⟩ ⟨Fact.is_firm _ _, Fact.is_firm _ _, Fact.is_firm _ _, Fact.is_firm _ _, Fact.is_firm _ _, Fact.is_firm _ _, Fact.is_firm _ _, Fact.is_firm _ _, Fact.is_firm _ _, Fact.is_firm _ _, Fact.no_firm _, Fact.no_firm _, Fact.no_firm _, Fact.no_firm _, Fact.no_firm _, Fact.no_firm _, trivial⟩ ?_ ?_
        · exact ⟨step3_other rfl rfl (by
              intro a W hA hB hd
              have hB := Lib.hid hB
              have p2 : a.eval (.tmp 2) = .slice p k cap := hA.at 2 (by kernel_rfl)
              have p13 : a.eval (.tmp 13) = .int .i64 (m : Int) := hA.at 13 (by kernel_rfl)
              exact step_pure (wanted_none rfl) (.slice p k cap) (by simp [execOp, go_sem, tm p2]) rfl),
            step3_other rfl rfl (by
              intro a W hA hB hd
              obtain ⟨q0, -⟩ := hd
              have h110 : a.eval (.tmp 110) = .slice p k cap := q0
              have hB := Lib.hid hB
              have p2 : a.eval (.tmp 2) = .slice p k cap := hA.at 2 (by kernel_rfl)
              have p13 : a.eval (.tmp 13) = .int .i64 (m : Int) := hA.at 13 (by kernel_rfl)
              exact step_calls (wanted_none rfl) rfl (vals := #[.slice p k cap]) (by simp [h110]) (enters_of Tryd.func7 (by kernel_rfl) rfl) (sum_at HRL.out hB.out HL.out HZ.out HU.out)),
            step3_other rfl rfl (by
              intro a W hA hB hd
              have hB := Lib.hid hB
              have p2 : a.eval (.tmp 2) = .slice p k cap := hA.at 2 (by kernel_rfl)
              have p13 : a.eval (.tmp 13) = .int .i64 (m : Int) := hA.at 13 (by kernel_rfl)
              exact step_pure (wanted_none rfl) (.slice p k cap) (by simp [execOp, go_sem, tm p2]) rfl),
            step3_other rfl rfl (by
              intro a W hA hB hd
              have hB := Lib.hid hB
              have p2 : a.eval (.tmp 2) = .slice p k cap := hA.at 2 (by kernel_rfl)
              have p13 : a.eval (.tmp 13) = .int .i64 (m : Int) := hA.at 13 (by kernel_rfl)
              exact step_pure (wanted_none rfl) (.int .i64 (m : Int)) (by simp [execOp, go_sem, tm p13]) rfl),
            step3_other rfl rfl (by
              intro a W hA hB hd
              obtain ⟨q0, q1, -⟩ := hd
              have h112 : a.eval (.tmp 112) = .slice p k cap := q0
              have h113 : a.eval (.tmp 113) = .int .i64 (m : Int) := q1
              have hB := Lib.hid hB
              have p2 : a.eval (.tmp 2) = .slice p k cap := hA.at 2 (by kernel_rfl)
              have p13 : a.eval (.tmp 13) = .int .i64 (m : Int) := hA.at 13 (by kernel_rfl)
              exact step_pure (wanted_none rfl) (.slice pa m c1) (by simp [execOp, h112, h113, HC1.out]) rfl),
            step3_other rfl rfl (by
              intro a W hA hB hd
              obtain ⟨q0, q1, -⟩ := hd
              have h114 : a.eval (.tmp 114) = .slice pa m c1 := q0
              have h111 : a.eval (.tmp 111) = .agg #[.int .i64 u1, .int .i64 u2] := q1
              have hB := Lib.hid hB
              have p2 : a.eval (.tmp 2) = .slice p k cap := hA.at 2 (by kernel_rfl)
              have p13 : a.eval (.tmp 13) = .int .i64 (m : Int) := hA.at 13 (by kernel_rfl)
              exact step_calls (wanted_none rfl) rfl (vals := #[.slice pa m c1]) (by simp [h114]) (enters_of Tryd.func7 (by kernel_rfl) rfl) (sum_at HR1.out hB.out HL1.out HZ1.out HV.out)),
            step3_other rfl rfl (by
              intro a W hA hB hd
              have hB := Lib.hid hB
              have p2 : a.eval (.tmp 2) = .slice p k cap := hA.at 2 (by kernel_rfl)
              have p13 : a.eval (.tmp 13) = .int .i64 (m : Int) := hA.at 13 (by kernel_rfl)
              exact step_pure (wanted_none rfl) (.slice p k cap) (by simp [execOp, go_sem, tm p2]) rfl),
            step3_other rfl rfl (by
              intro a W hA hB hd
              have hB := Lib.hid hB
              have p2 : a.eval (.tmp 2) = .slice p k cap := hA.at 2 (by kernel_rfl)
              have p13 : a.eval (.tmp 13) = .int .i64 (m : Int) := hA.at 13 (by kernel_rfl)
              exact step_pure (wanted_none rfl) (.int .i64 (m : Int)) (by simp [execOp, go_sem, tm p13]) rfl),
            step3_other rfl rfl (by
              intro a W hA hB hd
              obtain ⟨q0, q1, -⟩ := hd
              have h116 : a.eval (.tmp 116) = .slice p k cap := q0
              have h117 : a.eval (.tmp 117) = .int .i64 (m : Int) := q1
              have hB := Lib.hid hB
              have p2 : a.eval (.tmp 2) = .slice p k cap := hA.at 2 (by kernel_rfl)
              have p13 : a.eval (.tmp 13) = .int .i64 (m : Int) := hA.at 13 (by kernel_rfl)
              exact step_pure (wanted_none rfl) (.slice pb (k - m) c2) (by simp [execOp, h116, h117, HC2.out]) rfl),
            step3_other rfl rfl (by
              intro a W hA hB hd
              obtain ⟨q0, q1, -⟩ := hd
              have h118 : a.eval (.tmp 118) = .slice pb (k - m) c2 := q0
              have h115 : a.eval (.tmp 115) = .agg #[.int .i64 v1, .int .i64 v2] := q1
              have hB := Lib.hid hB
              have p2 : a.eval (.tmp 2) = .slice p k cap := hA.at 2 (by kernel_rfl)
              have p13 : a.eval (.tmp 13) = .int .i64 (m : Int) := hA.at 13 (by kernel_rfl)
              exact step_calls (wanted_none rfl) rfl (vals := #[.slice pb (k - m) c2]) (by simp [h118]) (enters_of Tryd.func7 (by kernel_rfl) rfl) (sum_at HR2.out hB.out HL2.out HZ2.out HW.out)),
            step3_al (⟨10, 13, 14, 26, #[.int .i64 0, .int .i64 0], #[.int .i64 u1, .int .i64 u2]⟩) rfl rfl (fun a W => by simp [execOp, go_sem]),
            step3_al (⟨11, 14, 15, 26, #[.int .i64 0, .int .i64 0], #[.int .i64 v1, .int .i64 v2]⟩) rfl rfl (fun a W => by simp [execOp, go_sem]),
            step3_al (⟨12, 15, 16, 26, #[.int .i64 0, .int .i64 0], #[.int .i64 w1, .int .i64 w2]⟩) rfl rfl (fun a W => by simp [execOp, go_sem]),
            step3_st (⟨10, 13, 14, 26, #[.int .i64 0, .int .i64 0], #[.int .i64 u1, .int .i64 u2]⟩) rfl rfl rfl (by kernel_rfl) (by
              intro a W B hA hB hd hp hk
              obtain ⟨-, q1, -⟩ := hd
              have hp : a.eval (.tmp 14) = .pointer (some ⟨B, 0, none⟩) := hp
              have h111 : a.eval (.tmp 111) = .agg #[.int .i64 u1, .int .i64 u2] := q1
              exact store_two (ty := 26) rfl rfl hp h111 hk),
            step3_st (⟨11, 14, 15, 26, #[.int .i64 0, .int .i64 0], #[.int .i64 v1, .int .i64 v2]⟩) rfl rfl rfl (by kernel_rfl) (by
              intro a W B hA hB hd hp hk
              obtain ⟨-, q1, -⟩ := hd
              have hp : a.eval (.tmp 15) = .pointer (some ⟨B, 0, none⟩) := hp
              have h115 : a.eval (.tmp 115) = .agg #[.int .i64 v1, .int .i64 v2] := q1
              exact store_two (ty := 26) rfl rfl hp h115 hk),
            step3_st (⟨12, 15, 16, 26, #[.int .i64 0, .int .i64 0], #[.int .i64 w1, .int .i64 w2]⟩) rfl rfl rfl (by kernel_rfl) (by
              intro a W B hA hB hd hp hk
              obtain ⟨-, q1, -⟩ := hd
              have hp : a.eval (.tmp 16) = .pointer (some ⟨B, 0, none⟩) := hp
              have h119 : a.eval (.tmp 119) = .agg #[.int .i64 w1, .int .i64 w2] := q1
              exact store_two (ty := 26) rfl rfl hp h119 hk), trivial⟩
        · intro ax V hA hB hE
          obtain ⟨hl, -⟩ := hE
          obtain ⟨B14, e14, -, s14, k14⟩ := hl (⟨10, 13, 14, 26, #[.int .i64 0, .int .i64 0], #[.int .i64 u1, .int .i64 u2]⟩) (by simp)
          replace e14 : ax.eval (.tmp 14) = .pointer (some ⟨B14, 0, none⟩) := e14
          replace k14 : V.heap[B14]? = some (.cells #[.int .i64 u1, .int .i64 u2] 26 (0, 0)) := k14
          obtain ⟨B15, e15, -, s15, k15⟩ := hl (⟨11, 14, 15, 26, #[.int .i64 0, .int .i64 0], #[.int .i64 v1, .int .i64 v2]⟩) (by simp)
          replace e15 : ax.eval (.tmp 15) = .pointer (some ⟨B15, 0, none⟩) := e15
          replace k15 : V.heap[B15]? = some (.cells #[.int .i64 v1, .int .i64 v2] 26 (0, 0)) := k15
          obtain ⟨B16, e16, -, s16, k16⟩ := hl (⟨12, 15, 16, 26, #[.int .i64 0, .int .i64 0], #[.int .i64 w1, .int .i64 w2]⟩) (by simp)
          replace e16 : ax.eval (.tmp 16) = .pointer (some ⟨B16, 0, none⟩) := e16
          replace k16 : V.heap[B16]? = some (.cells #[.int .i64 w1, .int .i64 w2] 26 (0, 0)) := k16
          have hp := hA.puts [110, 111, 112, 113, 114, 115, 116, 117, 118, 119, 14, 15, 16] (by kernel_rfl)
          clear hA hl
          simp only [putAll, e14, e15, e16] at hp
          clear e14 e15 e16
          generalize ax.eval = ev14 at hp
          subst hp
          have d14 := Joins.cell_of_block k14 0
          have e14 := Joins.cell_of_block k14 1
          simp only [List.getElem?_toArray, List.getElem?_cons_zero] at d14
          simp only [List.getElem?_toArray, List.getElem?_cons_zero, List.getElem?_cons_succ] at e14
          have d15 := Joins.cell_of_block k15 0
          have e15 := Joins.cell_of_block k15 1
          simp only [List.getElem?_toArray, List.getElem?_cons_zero] at d15
          simp only [List.getElem?_toArray, List.getElem?_cons_zero, List.getElem?_cons_succ] at e15
          have d16 := Joins.cell_of_block k16 0
          have e16 := Joins.cell_of_block k16 1
          simp only [List.getElem?_toArray, List.getElem?_cons_zero] at d16
          simp only [List.getElem?_toArray, List.getElem?_cons_zero, List.getElem?_cons_succ] at e16
          have HB14 := Lib.hid (HB.out.trans (hB.mono HB.out.size))
          have HRL14 : Hid (ReadsK (fun b => b < V.heap.size) V .i64 (.slice p k cap) zs) := (HRL.out.below hB).mono fun _ h _ => h
          have HBK14 : Hid (ReadsK (fun b => b < V.heap.size) V .i64 (.slice (some ⟨g, 0, none⟩) k c) zs.reverse) := (HBK.out.below hB).mono fun _ h _ => h
          have HLR : Hid (zs.reverse.length ≤ 1000000) := by show _ ≤ _; rw [List.length_reverse]; exact HL.out
          have HZR : Hid (∀ z ∈ zs.reverse, I64 z) := fun z hz => HZ.out z (List.mem_reverse.1 hz)
          have HUR : Hid (sumS zs.reverse = (u1, u2)) := (sumS_reverse zs).trans HU.out
          clear hB HB HRL HBK HC1 HC2 HR1 HR2 k14 k15 k16
          simp [Act.put]
          go_upto_region 15 with (fail)
          refine through [120, 121, 122, 123, 124, 125, 126, 127, 128, 129, 130, 131, 132, 133] 133 (.bool false) ?_ ?_
          · clear d15 e15 d16 e16
            have K0 := fun d os => cell_regrown d14 d os
            have K1 := fun d os => cell_regrown e14 d os
            have HSB := Lib.hid (sum_grown HBK14.out HLR.out HZR.out HUR.out)
            rcases sum_cases zs u1 u2 HU.out with ⟨rfl, -⟩ | ⟨rfl, rfl⟩
            · refine wp_region_quiet_below (by kernel_rfl) (by kernel_rfl) ?_
              repeat (go_big_quiet_step (first | (go_at_call 7; with_reducible exact Calls.regrown_of (HSB.out _ _))))
              refine wpQuiet_nil ?_
              intro _ hw'
              obtain ⟨⟨dq, osq⟩, hw''⟩ := hw'
              subst hw''
              exact shown (below_regrown _ _ _) rfl (by kernel_rfl)
            · refine wp_region_quiet_below (by kernel_rfl) (by kernel_rfl) ?_
              repeat (go_big_quiet_step (first | (go_at_call 7; with_reducible exact Calls.regrown_of (HSB.out _ _))))
              refine wpQuiet_nil ?_
              intro _ hw'
              obtain ⟨⟨dq, osq⟩, hw''⟩ := hw'
              subst hw''
              exact shown (below_regrown _ _ _) rfl (by kernel_rfl)
          · intro ev15 V15 hev15 hB15
            simp only [putAll, hev15]
            clear hev15
            have D14 := Lib.hid ((hB15.cell (p := ⟨B14, 0, none⟩) s14).trans d14)
            have E14 := Lib.hid ((hB15.cell (p := ⟨B14, 1, none⟩) s14).trans e14)
            have D15 := Lib.hid ((hB15.cell (p := ⟨B15, 0, none⟩) s15).trans d15)
            have E15 := Lib.hid ((hB15.cell (p := ⟨B15, 1, none⟩) s15).trans e15)
            have D16 := Lib.hid ((hB15.cell (p := ⟨B16, 0, none⟩) s16).trans d16)
            have E16 := Lib.hid ((hB15.cell (p := ⟨B16, 1, none⟩) s16).trans e16)
            have hs14 := Nat.lt_of_lt_of_le s14 hB15.size
            have hs15 := Nat.lt_of_lt_of_le s15 hB15.size
            have hs16 := Nat.lt_of_lt_of_le s16 hB15.size
            have HB15 := Lib.hid (HB14.out.trans (hB15.mono HB14.out.size))
            have HRL15 : Hid (ReadsK (fun b => b < V15.heap.size) V15 .i64 (.slice p k cap) zs) := (HRL14.out.below hB15).mono fun _ h _ => h
            clear hB15 HB14 HRL14 HBK14 HLR HZR HUR d14 e14 d15 e15 d16 e16 s14 s15 s16
            simp [Act.put]
            go_upto_region 17 with (fail)
            refine through [134, 135, 136, 137, 138, 139, 140, 141, 142, 143, 144, 145, 146, 147, 148, 149, 150, 151] 151 (.bool false) ?_ ?_
            · rcases sum_cases (zs.take m) v1 v2 HV.out with ⟨rfl, -⟩ | ⟨rfl, rfl⟩
              · rcases sum_cases (zs.drop m) w1 w2 HW.out with ⟨rfl, -⟩ | ⟨rfl, rfl⟩
                · have HPT : Hid (sumS [v1, w1] = (u1, u2)) := by
                    have := sumS_parts (zs.take m) (zs.drop m) (by rw [HV.out]) (by rw [HW.out])
                    rw [HV.out, HW.out, List.take_append_drop, HU.out] at this
                    exact this
                  have HZP : Hid (∀ z ∈ [v1, w1], I64 z) := fun z hz => by
                    have h1 := sumS_range (zs.take m)
                    have h2 := sumS_range (zs.drop m)
                    rw [HV.out] at h1
                    rw [HW.out] at h2
                    simp only [List.mem_cons, List.mem_nil_iff, or_false] at hz
                    rcases hz with rfl | rfl
                    · exact ⟨by omega, by omega⟩
                    · exact ⟨by omega, by omega⟩
                  clear HRL15 HZ HU HV HW HL HL1 HL2 HZ1 HZ2 HB15
                  refine wp_region_writes (base := V15.heap.size) (us := [none, none, none, none, none, none, none, none, none, none, none, none, none, some 14, none, none, none, none]) (ws := []) (bs := [true, true, true, true, true, true, true, true, true, true, true, true, true, false, true, true, true, true]) (fs := [Fact.is (.pointer (some ⟨B15, 1, none⟩)), Fact.is (.int .i64 0), Fact.is (.bool true), Fact.is (.bool true), Fact.is (.pointer (some ⟨B16, 1, none⟩)), Fact.is (.int .i64 0), Fact.is (.bool true), Fact.is (.bool true), Fact.is (.bool true), Fact.is (.pointer (some ⟨B15, 0, none⟩)), Fact.is (.int .i64 v1), Fact.is (.pointer (some ⟨B16, 0, none⟩)), Fact.is (.int .i64 w1), RdI [v1, w1], Fact.is (.agg #[.int .i64 u1, .int .i64 u2]), Fact.is (.agg #[.int .i64 u1, .int .i64 u2]), Fact.is (.bool false), Fact.is (.bool false)]) 8 (by kernel_rfl) (by kernel_rfl) (by kernel_rfl) (by kernel_rfl) (Nat.le_refl _) ⟨Fact.is_stable _, Fact.is_stable _, Fact.is_stable _, Fact.is_stable _, Fact.is_stable _, Fact.is_stable _, Fact.is_stable _, Fact.is_stable _, Fact.is_stable _, Fact.is_stable _, Fact.is_stable _, Fact.is_stable _, Fact.is_stable _, rdI_stable _, Fact.is_stable _, Fact.is_stable _, Fact.is_stable _, Fact.is_stable _, trivial⟩ ⟨(fun _ => Fact.is_firm _ _), (fun _ => Fact.is_firm _ _), (fun _ => Fact.is_firm _ _), (fun _ => Fact.is_firm _ _), (fun _ => Fact.is_firm _ _), (fun _ => Fact.is_firm _ _), (fun _ => Fact.is_firm _ _), (fun _ => Fact.is_firm _ _), (fun _ => Fact.is_firm _ _), (fun _ => Fact.is_firm _ _), (fun _ => Fact.is_firm _ _), (fun _ => Fact.is_firm _ _), (fun _ => Fact.is_firm _ _), (fun h => by cases h), (fun _ => Fact.is_firm _ _), (fun _ => Fact.is_firm _ _), (fun _ => Fact.is_firm _ _), (fun _ => Fact.is_firm _ _), trivial⟩ ?_ ?_
                  · exact ⟨by
                        intro a W hA hB hd
                        have hB := Lib.hid hB
                        have p14 : a.eval (.tmp 14) = .pointer (some ⟨B14, 0, none⟩) := hA.at 14 (by kernel_rfl)
                        have p15 : a.eval (.tmp 15) = .pointer (some ⟨B15, 0, none⟩) := hA.at 15 (by kernel_rfl)
                        have p16 : a.eval (.tmp 16) = .pointer (some ⟨B16, 0, none⟩) := hA.at 16 (by kernel_rfl)
                        exact step2_of (step_pure (wanted_none rfl) (.pointer (some ⟨B15, 1, none⟩)) (by simp [execOp, go_sem, tm p15]) rfl),
                      by
                        intro a W hA hB hd
                        obtain ⟨q0, -⟩ := hd
                        have h134 : a.eval (.tmp 134) = .pointer (some ⟨B15, 1, none⟩) := q0
                        have hB := Lib.hid hB
                        have p14 : a.eval (.tmp 14) = .pointer (some ⟨B14, 0, none⟩) := hA.at 14 (by kernel_rfl)
                        have p15 : a.eval (.tmp 15) = .pointer (some ⟨B15, 0, none⟩) := hA.at 15 (by kernel_rfl)
                        have p16 : a.eval (.tmp 16) = .pointer (some ⟨B16, 0, none⟩) := hA.at 16 (by kernel_rfl)
                        have g1 := (hB.out.cell (p := ⟨B15, 0, none⟩) hs15).trans D15.out
                        have g2 := (hB.out.cell (p := ⟨B15, 1, none⟩) hs15).trans E15.out
                        have g3 := (hB.out.cell (p := ⟨B16, 0, none⟩) hs16).trans D16.out
                        have g4 := (hB.out.cell (p := ⟨B16, 1, none⟩) hs16).trans E16.out
                        have g5 := (hB.out.cell (p := ⟨B14, 0, none⟩) hs14).trans D14.out
                        have g6 := (hB.out.cell (p := ⟨B14, 1, none⟩) hs14).trans E14.out
                        exact step2_of (step_pure (wanted_none rfl) (.int .i64 0) (by simp [execOp, go_sem, tm h134, g2]) rfl),
                      by
                        intro a W hA hB hd
                        obtain ⟨q0, -⟩ := hd
                        have h135 : a.eval (.tmp 135) = .int .i64 0 := q0
                        have hB := Lib.hid hB
                        have p14 : a.eval (.tmp 14) = .pointer (some ⟨B14, 0, none⟩) := hA.at 14 (by kernel_rfl)
                        have p15 : a.eval (.tmp 15) = .pointer (some ⟨B15, 0, none⟩) := hA.at 15 (by kernel_rfl)
                        have p16 : a.eval (.tmp 16) = .pointer (some ⟨B16, 0, none⟩) := hA.at 16 (by kernel_rfl)
                        exact step2_of (step_pure (wanted_none rfl) (.bool true) (by simp [execOp, go_sem, tm h135]) rfl),
                      by
                        intro a W hA hB hd
                        obtain ⟨q0, -⟩ := hd
                        have h136 : a.eval (.tmp 136) = .bool true := q0
                        have hB := Lib.hid hB
                        have p14 : a.eval (.tmp 14) = .pointer (some ⟨B14, 0, none⟩) := hA.at 14 (by kernel_rfl)
                        have p15 : a.eval (.tmp 15) = .pointer (some ⟨B15, 0, none⟩) := hA.at 15 (by kernel_rfl)
                        have p16 : a.eval (.tmp 16) = .pointer (some ⟨B16, 0, none⟩) := hA.at 16 (by kernel_rfl)
                        exact step2_of (step_pure (wanted_none rfl) (.bool true) (by simp [execOp, go_sem, tm h136]) rfl),
                      by
                        intro a W hA hB hd
                        obtain ⟨q0, -⟩ := hd
                        have h137 : a.eval (.tmp 137) = .bool true := q0
                        have hB := Lib.hid hB
                        have p14 : a.eval (.tmp 14) = .pointer (some ⟨B14, 0, none⟩) := hA.at 14 (by kernel_rfl)
                        have p15 : a.eval (.tmp 15) = .pointer (some ⟨B15, 0, none⟩) := hA.at 15 (by kernel_rfl)
                        have p16 : a.eval (.tmp 16) = .pointer (some ⟨B16, 0, none⟩) := hA.at 16 (by kernel_rfl)
                        exact step2_of (step_pure ((wanted_guard rfl 137 rfl h137).trans rfl) (.pointer (some ⟨B16, 1, none⟩)) (by simp [execOp, go_sem, tm p16]) rfl),
                      by
                        intro a W hA hB hd
                        obtain ⟨q0, q1, -⟩ := hd
                        have h138 : a.eval (.tmp 138) = .pointer (some ⟨B16, 1, none⟩) := q0
                        have h137 : a.eval (.tmp 137) = .bool true := q1
                        have hB := Lib.hid hB
                        have p14 : a.eval (.tmp 14) = .pointer (some ⟨B14, 0, none⟩) := hA.at 14 (by kernel_rfl)
                        have p15 : a.eval (.tmp 15) = .pointer (some ⟨B15, 0, none⟩) := hA.at 15 (by kernel_rfl)
                        have p16 : a.eval (.tmp 16) = .pointer (some ⟨B16, 0, none⟩) := hA.at 16 (by kernel_rfl)
                        have g1 := (hB.out.cell (p := ⟨B15, 0, none⟩) hs15).trans D15.out
                        have g2 := (hB.out.cell (p := ⟨B15, 1, none⟩) hs15).trans E15.out
                        have g3 := (hB.out.cell (p := ⟨B16, 0, none⟩) hs16).trans D16.out
                        have g4 := (hB.out.cell (p := ⟨B16, 1, none⟩) hs16).trans E16.out
                        have g5 := (hB.out.cell (p := ⟨B14, 0, none⟩) hs14).trans D14.out
                        have g6 := (hB.out.cell (p := ⟨B14, 1, none⟩) hs14).trans E14.out
                        exact step2_of (step_pure ((wanted_guard rfl 137 rfl h137).trans rfl) (.int .i64 0) (by simp [execOp, go_sem, tm h138, g4]) rfl),
                      by
                        intro a W hA hB hd
                        obtain ⟨q0, q1, -⟩ := hd
                        have h139 : a.eval (.tmp 139) = .int .i64 0 := q0
                        have h137 : a.eval (.tmp 137) = .bool true := q1
                        have hB := Lib.hid hB
                        have p14 : a.eval (.tmp 14) = .pointer (some ⟨B14, 0, none⟩) := hA.at 14 (by kernel_rfl)
                        have p15 : a.eval (.tmp 15) = .pointer (some ⟨B15, 0, none⟩) := hA.at 15 (by kernel_rfl)
                        have p16 : a.eval (.tmp 16) = .pointer (some ⟨B16, 0, none⟩) := hA.at 16 (by kernel_rfl)
                        exact step2_of (step_pure ((wanted_guard rfl 137 rfl h137).trans rfl) (.bool true) (by simp [execOp, go_sem, tm h139]) rfl),
                      by
                        intro a W hA hB hd
                        obtain ⟨q0, q1, -⟩ := hd
                        have h137 : a.eval (.tmp 137) = .bool true := q0
                        have h140 : a.eval (.tmp 140) = .bool true := q1
                        have hB := Lib.hid hB
                        have p14 : a.eval (.tmp 14) = .pointer (some ⟨B14, 0, none⟩) := hA.at 14 (by kernel_rfl)
                        have p15 : a.eval (.tmp 15) = .pointer (some ⟨B15, 0, none⟩) := hA.at 15 (by kernel_rfl)
                        have p16 : a.eval (.tmp 16) = .pointer (some ⟨B16, 0, none⟩) := hA.at 16 (by kernel_rfl)
                        exact step2_of (step_pure (wanted_none rfl) (.bool true) (by simp [execOp, go_sem, tm h137, tm h140]) rfl),
                      by
                        intro a W hA hB hd
                        obtain ⟨q0, q1, -⟩ := hd
                        have h141 : a.eval (.tmp 141) = .bool true := q0
                        have h137 : a.eval (.tmp 137) = .bool true := q1
                        have hB := Lib.hid hB
                        have p14 : a.eval (.tmp 14) = .pointer (some ⟨B14, 0, none⟩) := hA.at 14 (by kernel_rfl)
                        have p15 : a.eval (.tmp 15) = .pointer (some ⟨B15, 0, none⟩) := hA.at 15 (by kernel_rfl)
                        have p16 : a.eval (.tmp 16) = .pointer (some ⟨B16, 0, none⟩) := hA.at 16 (by kernel_rfl)
                        exact step2_of (step_pure (wanted_none rfl) (.bool true) (by simp [execOp, go_sem, tm h141]) rfl),
                      by
                        intro a W hA hB hd
                        obtain ⟨q0, -⟩ := hd
                        have h142 : a.eval (.tmp 142) = .bool true := q0
                        have hB := Lib.hid hB
                        have p14 : a.eval (.tmp 14) = .pointer (some ⟨B14, 0, none⟩) := hA.at 14 (by kernel_rfl)
                        have p15 : a.eval (.tmp 15) = .pointer (some ⟨B15, 0, none⟩) := hA.at 15 (by kernel_rfl)
                        have p16 : a.eval (.tmp 16) = .pointer (some ⟨B16, 0, none⟩) := hA.at 16 (by kernel_rfl)
                        exact step2_of (step_pure ((wanted_guard rfl 142 rfl h142).trans rfl) (.pointer (some ⟨B15, 0, none⟩)) (by simp [execOp, go_sem, tm p15]) rfl),
                      by
                        intro a W hA hB hd
                        obtain ⟨q0, q1, -⟩ := hd
                        have h143 : a.eval (.tmp 143) = .pointer (some ⟨B15, 0, none⟩) := q0
                        have h142 : a.eval (.tmp 142) = .bool true := q1
                        have hB := Lib.hid hB
                        have p14 : a.eval (.tmp 14) = .pointer (some ⟨B14, 0, none⟩) := hA.at 14 (by kernel_rfl)
                        have p15 : a.eval (.tmp 15) = .pointer (some ⟨B15, 0, none⟩) := hA.at 15 (by kernel_rfl)
                        have p16 : a.eval (.tmp 16) = .pointer (some ⟨B16, 0, none⟩) := hA.at 16 (by kernel_rfl)
                        have g1 := (hB.out.cell (p := ⟨B15, 0, none⟩) hs15).trans D15.out
                        have g2 := (hB.out.cell (p := ⟨B15, 1, none⟩) hs15).trans E15.out
                        have g3 := (hB.out.cell (p := ⟨B16, 0, none⟩) hs16).trans D16.out
                        have g4 := (hB.out.cell (p := ⟨B16, 1, none⟩) hs16).trans E16.out
                        have g5 := (hB.out.cell (p := ⟨B14, 0, none⟩) hs14).trans D14.out
                        have g6 := (hB.out.cell (p := ⟨B14, 1, none⟩) hs14).trans E14.out
                        exact step2_of (step_pure ((wanted_guard rfl 142 rfl h142).trans rfl) (.int .i64 v1) (by simp [execOp, go_sem, tm h143, g1]) rfl),
                      by
                        intro a W hA hB hd
                        obtain ⟨q0, -⟩ := hd
                        have h142 : a.eval (.tmp 142) = .bool true := q0
                        have hB := Lib.hid hB
                        have p14 : a.eval (.tmp 14) = .pointer (some ⟨B14, 0, none⟩) := hA.at 14 (by kernel_rfl)
                        have p15 : a.eval (.tmp 15) = .pointer (some ⟨B15, 0, none⟩) := hA.at 15 (by kernel_rfl)
                        have p16 : a.eval (.tmp 16) = .pointer (some ⟨B16, 0, none⟩) := hA.at 16 (by kernel_rfl)
                        exact step2_of (step_pure ((wanted_guard rfl 142 rfl h142).trans rfl) (.pointer (some ⟨B16, 0, none⟩)) (by simp [execOp, go_sem, tm p16]) rfl),
                      by
                        intro a W hA hB hd
                        obtain ⟨q0, q1, -⟩ := hd
                        have h145 : a.eval (.tmp 145) = .pointer (some ⟨B16, 0, none⟩) := q0
                        have h142 : a.eval (.tmp 142) = .bool true := q1
                        have hB := Lib.hid hB
                        have p14 : a.eval (.tmp 14) = .pointer (some ⟨B14, 0, none⟩) := hA.at 14 (by kernel_rfl)
                        have p15 : a.eval (.tmp 15) = .pointer (some ⟨B15, 0, none⟩) := hA.at 15 (by kernel_rfl)
                        have p16 : a.eval (.tmp 16) = .pointer (some ⟨B16, 0, none⟩) := hA.at 16 (by kernel_rfl)
                        have g1 := (hB.out.cell (p := ⟨B15, 0, none⟩) hs15).trans D15.out
                        have g2 := (hB.out.cell (p := ⟨B15, 1, none⟩) hs15).trans E15.out
                        have g3 := (hB.out.cell (p := ⟨B16, 0, none⟩) hs16).trans D16.out
                        have g4 := (hB.out.cell (p := ⟨B16, 1, none⟩) hs16).trans E16.out
                        have g5 := (hB.out.cell (p := ⟨B14, 0, none⟩) hs14).trans D14.out
                        have g6 := (hB.out.cell (p := ⟨B14, 1, none⟩) hs14).trans E14.out
                        exact step2_of (step_pure ((wanted_guard rfl 142 rfl h142).trans rfl) (.int .i64 w1) (by simp [execOp, go_sem, tm h145, g3]) rfl),
                      by
                        intro a W hA hB hd
                        obtain ⟨q0, q1, q2, -⟩ := hd
                        have h144 : a.eval (.tmp 144) = .int .i64 v1 := q0
                        have h146 : a.eval (.tmp 146) = .int .i64 w1 := q1
                        have h142 : a.eval (.tmp 142) = .bool true := q2
                        have hB := Lib.hid hB
                        have p14 : a.eval (.tmp 14) = .pointer (some ⟨B14, 0, none⟩) := hA.at 14 (by kernel_rfl)
                        have p15 : a.eval (.tmp 15) = .pointer (some ⟨B15, 0, none⟩) := hA.at 15 (by kernel_rfl)
                        have p16 : a.eval (.tmp 16) = .pointer (some ⟨B16, 0, none⟩) := hA.at 16 (by kernel_rfl)
                        exact step2_of (step_lays ((wanted_guard rfl 142 rfl h142).trans rfl) (.slice (some ⟨W.heap.size, 0, none⟩) 2 2) (W.alloc (.cells #[.int .i64 v1, .int .i64 w1] 3)) (by simp [execOp, go_sem, tm h144, tm h146]) ((Below.refl _ W).alloc (Nat.le_refl _) _) (rdI_new W [v1, w1])),
                      by
                        intro a W hA hB hd
                        obtain ⟨q0, q1, q2, -⟩ := hd
                        have h147 : (RdI [v1, w1]) (a.eval (.tmp 147)) W := q0
                        have h142 : a.eval (.tmp 142) = .bool true := q1
                        have hB := Lib.hid hB
                        have p14 : a.eval (.tmp 14) = .pointer (some ⟨B14, 0, none⟩) := hA.at 14 (by kernel_rfl)
                        have p15 : a.eval (.tmp 15) = .pointer (some ⟨B15, 0, none⟩) := hA.at 15 (by kernel_rfl)
                        have p16 : a.eval (.tmp 16) = .pointer (some ⟨B16, 0, none⟩) := hA.at 16 (by kernel_rfl)
                        obtain ⟨gq, nq, cq, e147, r147⟩ := h147
                        exact step2_of (step_calls ((wanted_guard rfl 142 rfl h142).trans rfl) rfl (vals := #[.slice (some ⟨gq, 0, none⟩) nq cq]) (by simp [e147]) (enters_of Tryd.func7 (by kernel_rfl) rfl) (sum_at r147 (Below.refl _ _) (by simp) HZP.out HPT.out)),
                      by
                        intro a W hA hB hd
                        obtain ⟨q0, -⟩ := hd
                        have h142 : a.eval (.tmp 142) = .bool true := q0
                        have hB := Lib.hid hB
                        have p14 : a.eval (.tmp 14) = .pointer (some ⟨B14, 0, none⟩) := hA.at 14 (by kernel_rfl)
                        have p15 : a.eval (.tmp 15) = .pointer (some ⟨B15, 0, none⟩) := hA.at 15 (by kernel_rfl)
                        have p16 : a.eval (.tmp 16) = .pointer (some ⟨B16, 0, none⟩) := hA.at 16 (by kernel_rfl)
                        have g1 := (hB.out.cell (p := ⟨B15, 0, none⟩) hs15).trans D15.out
                        have g2 := (hB.out.cell (p := ⟨B15, 1, none⟩) hs15).trans E15.out
                        have g3 := (hB.out.cell (p := ⟨B16, 0, none⟩) hs16).trans D16.out
                        have g4 := (hB.out.cell (p := ⟨B16, 1, none⟩) hs16).trans E16.out
                        have g5 := (hB.out.cell (p := ⟨B14, 0, none⟩) hs14).trans D14.out
                        have g6 := (hB.out.cell (p := ⟨B14, 1, none⟩) hs14).trans E14.out
                        exact step2_of (step_pure ((wanted_guard rfl 142 rfl h142).trans rfl) (.agg #[.int .i64 u1, .int .i64 u2]) (by simp [execOp, go_sem, tm p14, g5, g6]) rfl),
                      by
                        intro a W hA hB hd
                        obtain ⟨q0, q1, q2, -⟩ := hd
                        have h148 : a.eval (.tmp 148) = .agg #[.int .i64 u1, .int .i64 u2] := q0
                        have h149 : a.eval (.tmp 149) = .agg #[.int .i64 u1, .int .i64 u2] := q1
                        have h142 : a.eval (.tmp 142) = .bool true := q2
                        have hB := Lib.hid hB
                        have p14 : a.eval (.tmp 14) = .pointer (some ⟨B14, 0, none⟩) := hA.at 14 (by kernel_rfl)
                        have p15 : a.eval (.tmp 15) = .pointer (some ⟨B15, 0, none⟩) := hA.at 15 (by kernel_rfl)
                        have p16 : a.eval (.tmp 16) = .pointer (some ⟨B16, 0, none⟩) := hA.at 16 (by kernel_rfl)
                        exact step2_of (step_pure ((wanted_guard rfl 142 rfl h142).trans rfl) (.bool false) (by simp [execOp, go_sem, tm h148, tm h149]) rfl),
                      by
                        intro a W hA hB hd
                        obtain ⟨q0, q1, -⟩ := hd
                        have h142 : a.eval (.tmp 142) = .bool true := q0
                        have h150 : a.eval (.tmp 150) = .bool false := q1
                        have hB := Lib.hid hB
                        have p14 : a.eval (.tmp 14) = .pointer (some ⟨B14, 0, none⟩) := hA.at 14 (by kernel_rfl)
                        have p15 : a.eval (.tmp 15) = .pointer (some ⟨B15, 0, none⟩) := hA.at 15 (by kernel_rfl)
                        have p16 : a.eval (.tmp 16) = .pointer (some ⟨B16, 0, none⟩) := hA.at 16 (by kernel_rfl)
                        exact step2_of (step_pure (wanted_none rfl) (.bool false) (by simp [execOp, go_sem, tm h142, tm h150]) rfl), trivial⟩
                  · intro ax W hA hB hE
                    exact shown hB hE.2.2.2.2.2.2.2.2.2.2.2.2.2.2.2.2.2.1 (hA.puts [134, 135, 136, 137, 138, 139, 140, 141, 142, 143, 144, 145, 146, 147, 148, 149, 150, 151] (by kernel_rfl))
                · have K0 := fun d os => cell_regrown E15.out d os
                  have K1 := fun d os => cell_regrown E16.out d os
                  refine wp_region_quiet_below (by kernel_rfl) (by kernel_rfl) ?_
                  repeat (go_big_quiet_step (fail))
                  refine wpQuiet_nil ?_
                  intro _ hw'
                  obtain ⟨⟨dq, osq⟩, hw''⟩ := hw'
                  subst hw''
                  exact shown (below_regrown _ _ _) rfl (by kernel_rfl)
              · have K0 := fun d os => cell_regrown E15.out d os
                refine wp_region_quiet_below (by kernel_rfl) (by kernel_rfl) ?_
                repeat (go_big_quiet_step (fail))
                refine wpQuiet_nil ?_
                intro _ hw'
                obtain ⟨⟨dq, osq⟩, hw''⟩ := hw'
                subst hw''
                exact shown (below_regrown _ _ _) rfl (by kernel_rfl)
            · intro ev17 V17 hev17 hB17
              simp only [putAll, hev17]
              clear hev17
              have D14b := Lib.hid ((hB17.cell (p := ⟨B14, 0, none⟩) hs14).trans D14.out)
              have E14b := Lib.hid ((hB17.cell (p := ⟨B14, 1, none⟩) hs14).trans E14.out)
              have hs14b := Nat.lt_of_lt_of_le hs14 hB17.size
              have HB17 := Lib.hid (HB15.out.trans (hB17.mono HB15.out.size))
              have HRL17 : Hid (ReadsK (fun b => b < V17.heap.size) V17 .i64 (.slice p k cap) zs) := (HRL15.out.below hB17).mono fun _ h _ => h
              have HL8 : Hid (zs.length ≤ 100000000) := by have := HL.out; show _ ≤ _; omega
              have HL9 : Hid (zs.length + ([0] : List Int).length ≤ 100000000) := by have := HL.out; have := hlen.out; show _ ≤ _; simp; omega
              have HL0 : Hid ((zs ++ [0]).length ≤ 1000000) := by have := hlen.out; show _ ≤ _; simp; omega
              have HZ0 : Hid (∀ z ∈ zs ++ [0], I64 z) := fun z hz => by
                rcases List.mem_append.1 hz with h | h
                · exact HZ.out z h
                · rw [List.mem_singleton.1 h]; exact ⟨by decide, by decide⟩
              have HU0 : Hid (sumS (zs ++ [0]) = (u1, u2)) := (sumS_zero zs).trans HU.out
              clear hB17 HB15 HRL15 D14 E14 D15 E15 D16 E16 hs14 hs15 hs16 HZ HU HV HW HL HL1 HL2 HZ1 HZ2
              simp [Act.put]
              go_upto_region 19 with (fail)
              refine wp_region_writes (base := V17.heap.size) (us := [some 2, none, some 4, some 4, none, none, none, none, none, none, none, none]) (ws := [4]) (bs := [false, true, false, false, false, true, true, true, true, true, true, true]) (fs := [Row0 V17.heap.size, Fact.is (.slice p k cap), RowI V17.heap.size zs, RdI [0], RowI V17.heap.size (zs ++ [0]), Fact.is (.agg #[.int .i64 u1, .int .i64 u2]), Fact.is (.agg #[.int .i64 u1, .int .i64 u2]), Fact.is (.bool true), Fact.is (.bool true), Fact.is (.bool true), Fact.is (.bool true), Fact.is (.bool true)]) 8 (by kernel_rfl) (by kernel_rfl) (by kernel_rfl) (by kernel_rfl) (Nat.le_refl _) ⟨row0_stable _, Fact.is_stable _, rowI_stable _ _, rdI_stable _, rowI_stable _ _, Fact.is_stable _, Fact.is_stable _, Fact.is_stable _, Fact.is_stable _, Fact.is_stable _, Fact.is_stable _, Fact.is_stable _, trivial⟩ ⟨(fun h => by cases h), (fun _ => Fact.is_firm _ _), (fun h => by cases h), (fun h => by cases h), (fun h => by cases h), (fun _ => Fact.is_firm _ _), (fun _ => Fact.is_firm _ _), (fun _ => Fact.is_firm _ _), (fun _ => Fact.is_firm _ _), (fun _ => Fact.is_firm _ _), (fun _ => Fact.is_firm _ _), (fun _ => Fact.is_firm _ _), trivial⟩ ?_ ?_
              · exact ⟨by
                    intro a W hA hB hd
                    have hB := Lib.hid hB
                    have p2 : a.eval (.tmp 2) = .slice p k cap := hA.at 2 (by kernel_rfl)
                    have p7 : a.eval (.tmp 7) = .bool true := hA.at 7 (by kernel_rfl)
                    have p14 : a.eval (.tmp 14) = .pointer (some ⟨B14, 0, none⟩) := hA.at 14 (by kernel_rfl)
                    exact step2_of (step_lays (wanted_none rfl) (.slice (some ⟨W.heap.size, 0, none⟩) 0 0) (W.alloc (.cells #[] 3)) (by simp [execOp, go_sem]) ((Below.refl _ W).alloc (Nat.le_refl _) _) (row0_new W _ hB.out.size)),
                  by
                    intro a W hA hB hd
                    have hB := Lib.hid hB
                    have p2 : a.eval (.tmp 2) = .slice p k cap := hA.at 2 (by kernel_rfl)
                    have p7 : a.eval (.tmp 7) = .bool true := hA.at 7 (by kernel_rfl)
                    have p14 : a.eval (.tmp 14) = .pointer (some ⟨B14, 0, none⟩) := hA.at 14 (by kernel_rfl)
                    exact step2_of (step_pure (wanted_none rfl) (.slice p k cap) (by simp [execOp, go_sem, tm p2]) rfl),
                  by
                    intro a W hA hB hd
                    obtain ⟨q0, q1, -⟩ := hd
                    have h152 : (Row0 V17.heap.size) (a.eval (.tmp 152)) W := q0
                    have h153 : a.eval (.tmp 153) = .slice p k cap := q1
                    have hB := Lib.hid hB
                    have p2 : a.eval (.tmp 2) = .slice p k cap := hA.at 2 (by kernel_rfl)
                    have p7 : a.eval (.tmp 7) = .bool true := hA.at 7 (by kernel_rfl)
                    have p14 : a.eval (.tmp 14) = .pointer (some ⟨B14, 0, none⟩) := hA.at 14 (by kernel_rfl)
                    obtain ⟨v', w', hr, h1, h2⟩ := row0_append h152 (HRL17.out.below hB.out) hB.out.size HL8.out
                    exact step2_of (step_append (wanted_none rfl) (.tmp 152) (.tmp 153) 22 22 rfl rfl h153 hr h2 h1),
                  by
                    intro a W hA hB hd
                    have hB := Lib.hid hB
                    have p2 : a.eval (.tmp 2) = .slice p k cap := hA.at 2 (by kernel_rfl)
                    have p7 : a.eval (.tmp 7) = .bool true := hA.at 7 (by kernel_rfl)
                    have p14 : a.eval (.tmp 14) = .pointer (some ⟨B14, 0, none⟩) := hA.at 14 (by kernel_rfl)
                    exact step2_of (step_lays (wanted_none rfl) (.slice (some ⟨W.heap.size, 0, none⟩) 1 1) (W.alloc (.cells #[.int .i64 0] 3)) (by simp [execOp, go_sem]) ((Below.refl _ W).alloc (Nat.le_refl _) _) (rdI_new W [0])),
                  by
                    intro a W hA hB hd
                    obtain ⟨q0, q1, q2, -⟩ := hd
                    have h154 : (RowI V17.heap.size zs) (a.eval (.tmp 154)) W := q0
                    have h155 : (RdI [0]) (a.eval (.tmp 155)) W := q1
                    have hB := Lib.hid hB
                    have p2 : a.eval (.tmp 2) = .slice p k cap := hA.at 2 (by kernel_rfl)
                    have p7 : a.eval (.tmp 7) = .bool true := hA.at 7 (by kernel_rfl)
                    have p14 : a.eval (.tmp 14) = .pointer (some ⟨B14, 0, none⟩) := hA.at 14 (by kernel_rfl)
                    obtain ⟨gq, nq, cq, e155, r155⟩ := h155
                    obtain ⟨v', w', hr, h1, h2⟩ := rowI_append h154 r155 hB.out.size HL9.out
                    exact step2_append (wanted_none rfl) (.tmp 154) (.tmp 155) 22 22 rfl rfl e155 hr h2 h1,
                  by
                    intro a W hA hB hd
                    obtain ⟨q0, q1, -⟩ := hd
                    have h156 : (RowI V17.heap.size (zs ++ [0])) (a.eval (.tmp 156)) W := q0
                    have hB := Lib.hid hB
                    have p2 : a.eval (.tmp 2) = .slice p k cap := hA.at 2 (by kernel_rfl)
                    have p7 : a.eval (.tmp 7) = .bool true := hA.at 7 (by kernel_rfl)
                    have p14 : a.eval (.tmp 14) = .pointer (some ⟨B14, 0, none⟩) := hA.at 14 (by kernel_rfl)
                    obtain ⟨gq, cq, e156, r156⟩ := rowI_reads h156
                    exact step2_of (step_calls (wanted_none rfl) rfl (vals := #[.slice (some ⟨gq, 0, none⟩) (zs ++ [0]).length cq]) (by simp [e156]) (enters_of Tryd.func7 (by kernel_rfl) rfl) (sum_at r156 (Below.refl _ _) HL0.out HZ0.out HU0.out)),
                  by
                    intro a W hA hB hd
                    have hB := Lib.hid hB
                    have p2 : a.eval (.tmp 2) = .slice p k cap := hA.at 2 (by kernel_rfl)
                    have p7 : a.eval (.tmp 7) = .bool true := hA.at 7 (by kernel_rfl)
                    have p14 : a.eval (.tmp 14) = .pointer (some ⟨B14, 0, none⟩) := hA.at 14 (by kernel_rfl)
                    have g5 := (hB.out.cell (p := ⟨B14, 0, none⟩) hs14b).trans D14b.out
                    have g6 := (hB.out.cell (p := ⟨B14, 1, none⟩) hs14b).trans E14b.out
                    exact step2_of (step_pure (wanted_none rfl) (.agg #[.int .i64 u1, .int .i64 u2]) (by simp [execOp, go_sem, tm p14, g5, g6]) rfl),
                  by
                    intro a W hA hB hd
                    obtain ⟨q0, q1, -⟩ := hd
                    have h157 : a.eval (.tmp 157) = .agg #[.int .i64 u1, .int .i64 u2] := q0
                    have h158 : a.eval (.tmp 158) = .agg #[.int .i64 u1, .int .i64 u2] := q1
                    have hB := Lib.hid hB
                    have p2 : a.eval (.tmp 2) = .slice p k cap := hA.at 2 (by kernel_rfl)
                    have p7 : a.eval (.tmp 7) = .bool true := hA.at 7 (by kernel_rfl)
                    have p14 : a.eval (.tmp 14) = .pointer (some ⟨B14, 0, none⟩) := hA.at 14 (by kernel_rfl)
                    exact step2_of (step_pure (wanted_none rfl) (.bool true) (by simp [execOp, go_sem, tm h157, tm h158]) rfl),
                  by
                    intro a W hA hB hd
                    obtain ⟨q0, q1, -⟩ := hd
                    have h159 : a.eval (.tmp 159) = .bool true := q0
                    have h157 : a.eval (.tmp 157) = .agg #[.int .i64 u1, .int .i64 u2] := q1
                    have hB := Lib.hid hB
                    have p2 : a.eval (.tmp 2) = .slice p k cap := hA.at 2 (by kernel_rfl)
                    have p7 : a.eval (.tmp 7) = .bool true := hA.at 7 (by kernel_rfl)
                    have p14 : a.eval (.tmp 14) = .pointer (some ⟨B14, 0, none⟩) := hA.at 14 (by kernel_rfl)
                    exact step2_of (step_pure (wanted_none rfl) (.bool true) (by simp [execOp, go_sem, tm h159]) rfl),
                  by
                    intro a W hA hB hd
                    obtain ⟨q0, -⟩ := hd
                    have h160 : a.eval (.tmp 160) = .bool true := q0
                    have hB := Lib.hid hB
                    have p2 : a.eval (.tmp 2) = .slice p k cap := hA.at 2 (by kernel_rfl)
                    have p7 : a.eval (.tmp 7) = .bool true := hA.at 7 (by kernel_rfl)
                    have p14 : a.eval (.tmp 14) = .pointer (some ⟨B14, 0, none⟩) := hA.at 14 (by kernel_rfl)
                    exact step2_of (step_pure ((wanted_guard rfl 160 rfl h160).trans rfl) (.bool true) (by simp [execOp, go_sem, tm p7]) rfl),
                  by
                    intro a W hA hB hd
                    obtain ⟨q0, q1, -⟩ := hd
                    have h160 : a.eval (.tmp 160) = .bool true := q0
                    have h161 : a.eval (.tmp 161) = .bool true := q1
                    have hB := Lib.hid hB
                    have p2 : a.eval (.tmp 2) = .slice p k cap := hA.at 2 (by kernel_rfl)
                    have p7 : a.eval (.tmp 7) = .bool true := hA.at 7 (by kernel_rfl)
                    have p14 : a.eval (.tmp 14) = .pointer (some ⟨B14, 0, none⟩) := hA.at 14 (by kernel_rfl)
                    exact step2_of (step_pure (wanted_none rfl) (.bool true) (by simp [execOp, go_sem, tm h160, tm h161]) rfl),
                  by
                    intro a W hA hB hd
                    obtain ⟨q0, -⟩ := hd
                    have h162 : a.eval (.tmp 162) = .bool true := q0
                    have hB := Lib.hid hB
                    have p2 : a.eval (.tmp 2) = .slice p k cap := hA.at 2 (by kernel_rfl)
                    have p7 : a.eval (.tmp 7) = .bool true := hA.at 7 (by kernel_rfl)
                    have p14 : a.eval (.tmp 14) = .pointer (some ⟨B14, 0, none⟩) := hA.at 14 (by kernel_rfl)
                    exact step2_of (step_pure (wanted_none rfl) (.bool true) (by simp [execOp, go_sem, tm h162]) rfl), trivial⟩
              · intro ax W hA hB hE
                have h6 : ax.eval (.tmp 6) = .bool true := hE.2.2.2.2.2.2.2.2.2.2.2.1
                have hp := hA.puts [152, 153, 154, 155, 156, 157, 158, 159, 160, 161, 162, 6] (by kernel_rfl)
                clear hA hE
                simp only [putAll, h6] at hp
                clear h6
                generalize ax.eval = ev at hp
                subst hp
                have HB19 := Lib.hid (HB17.out.trans (hB.mono HB17.out.size))
                clear hB HB17 HRL17
                simp [Act.put]
                go_wp2_with fail
                go_ret
                exact ⟨rfl, HB19.out⟩

end Go.Proofs.YtnhffkgbnlnliaaDoor.De.decimalSums
