/-
  The orders are total: for all three lists of which none has more than 60 values, or a text of more than 100 bytes, the law returns true and changes nothing.
-/
import Derived.Test.YtmmdbacejdhdaaaGreatDoorVlEx
import Derived.Test.YtmmdbacejdhdaaaGreatDoorVlShort
import Derived.Test.YtmmdbacejdhdaaaGreatDoorVlOrMath
import Derived.Deep.DeepCutAuto
import Derived.BigRegion
namespace Go.Proofs.YtmmdbacejdhdaaaGreatDoor.valueOrders
open Go Go.ChangeShapes Go.WideShapes Go.ChangeAt Go.RowKit Go.Shelf
open Go.Proofs.YtmmdbacejdhdaaaGreatDoor

theorem ne_parts {p q : Vl} (h : p ≠ q) : (p.k ≠ q.k) ∨ (p.k = q.k ∧ p.i ≠ q.i) ∨ (p.k = q.k ∧ p.i = q.i ∧ p.s ≠ q.s) := by
  obtain ⟨k, i, s⟩ := p
  obtain ⟨k', i', s'⟩ := q
  by_cases h1 : k = k'
  · by_cases h2 : i = i'
    · exact .inr (.inr ⟨h1, h2, fun h3 => h (by rw [h1, h2, show s = s' from h3])⟩)
    · exact .inr (.inl ⟨h1, h2⟩)
  · exact .inl h1
theorem bd3 {n : Int} (h : -1 ≤ n ∧ n ≤ 1) : n = -1 ∨ n = 0 ∨ n = 1 := by omega
theorem tr_ok {X Y Z : Int} (h : Tr X Y Z) : ((X ≤ 0 → Y ≤ 0 → ¬ 0 < Z) ∧ (X < 0 → Y ≤ 0 → ¬ 0 ≤ Z)) := by
  obtain ⟨a, b, _⟩ := h
  exact ⟨fun x y => by have := a x y; omega, fun x y => by have := b x y; omega⟩

set_option maxRecDepth 100000 in
set_option maxHeartbeats 8000000 in
theorem walk {Ka Kb Kc : Nat → Prop} {a b c : Option Addr} {la ca lb cb lc cc : Nat} {x y z : List Vl} {w : World} (hX : RdW Ka w a la ca x) (hY : RdW Kb w b lb cb y) (hZ : RdW Kc w c lc cc z)
    (fX : ∀ v ∈ x, v.Fit) (fY : ∀ v ∈ y, v.Fit) (fZ : ∀ v ∈ z, v.Fit) (hV : De.Vars w) :
    Calls Tryz.prog 5 #[.slice a la ca, .slice b lb cb, .slice c lc cc] w fun e w' => e = .returned (.bool true) ∧ Below w.heap.size w w' := by
  have HX := Lib.hid hX
  have HY := Lib.hid hY
  have HZ := Lib.hid hZ
  have FX := Lib.hid fX
  have FY := Lib.hid fY
  have FZ := Lib.hid fZ
  have HV := Lib.hid hV
  clear hX hY hZ fX fY fZ hV
  go_enter Tryz.func5, Tryz.ntmps5
  go_wp2_with fail
  refine (examples6_any w HV.out).mono ?_
  rintro e w1 ⟨rfl, hb⟩
  have H1 := Lib.hid (HX.out.below hb)
  have H2 := Lib.hid (HY.out.below hb)
  have H3 := Lib.hid (HZ.out.below hb)
  have HB1 := Lib.hid hb
  clear hb HX HY HZ HV
  go_wp2_with fail
  refine (short_any H1.out FX.out).mono ?_
  rintro e wq ⟨rfl, rfl⟩
  cases hsx : shortB x with
  | false =>
    go_wp2_with fail
    go_ret
    exact ⟨rfl, HB1.out⟩
  | true =>
    have SX := Lib.hid (short_parts hsx)
    clear hsx
    go_wp2_with fail
    refine (short_any H2.out FY.out).mono ?_
    rintro e wr ⟨rfl, rfl⟩
    cases hsy : shortB y with
    | false =>
      go_wp2_with fail
      go_ret
      exact ⟨rfl, HB1.out⟩
    | true =>
      have SY := Lib.hid (short_parts hsy)
      clear hsy
      go_wp2_with fail
      refine (short_any H3.out FZ.out).mono ?_
      rintro e ws ⟨rfl, rfl⟩
      cases hsz : shortB z with
      | false =>
        go_wp2_with fail
        go_ret
        exact ⟨rfl, HB1.out⟩
      | true =>
        have SZ := Lib.hid (short_parts hsz)
        clear hsz
        have R1 := Lib.hid (H1.out.small (by have := SX.out.1; omega))
        have R2 := Lib.hid (H2.out.small (by have := SY.out.1; omega))
        have R3 := Lib.hid (H3.out.small (by have := SZ.out.1; omega))
        clear H1 H2 H3 FX FY FZ SX SY SZ
        go_wp2_with fail
        refine (cmpList_any R1.out R2.out).mono ?_
        rintro e w2 ⟨rfl, hb⟩
        have Q1 := Lib.hid (R1.out.below hb)
        have Q2 := Lib.hid (R2.out.below hb)
        have Q3 := Lib.hid (R3.out.below hb)
        have HB2 := Lib.hid (HB1.out.trans (hb.mono HB1.out.size))
        clear hb R1 R2 R3 HB1
        go_wp2_with fail
        refine (cmpList_any Q2.out Q3.out).mono ?_
        rintro e w3 ⟨rfl, hb⟩
        have R1 := Lib.hid (Q1.out.below hb)
        have R2 := Lib.hid (Q2.out.below hb)
        have R3 := Lib.hid (Q3.out.below hb)
        have HB3 := Lib.hid (HB2.out.trans (hb.mono HB2.out.size))
        clear hb Q1 Q2 Q3 HB2
        go_wp2_with fail
        refine (cmpList_any R1.out R3.out).mono ?_
        rintro e w4 ⟨rfl, hb⟩
        have Q1 := Lib.hid (R1.out.below hb)
        have Q2 := Lib.hid (R2.out.below hb)
        have HB4 := Lib.hid (HB3.out.trans (hb.mono HB3.out.size))
        clear hb R1 R2 R3 HB3
        have HT := Lib.hid (tr_ok (cmpL_tr x y z))
        have HL := Lib.hid (@cmpL_zero_len x y)
        have HN : Hid (cmpL y x = -cmpL x y) := cmpL_neg y x
        have HS : Hid (cmpL x x = 0) := cmpL_self x
        have bX := bd3 (cmpL_bd x y)
        have bY := bd3 (cmpL_bd y z)
        have bZ := bd3 (cmpL_bd x z)
        have HC1 := Lib.hid (@cmpList_any Kb Ka b a lb cb la ca y x w4 Q2.out Q1.out)
        have lX := Q1.out.hl
        have lY := Q2.out.hl
        have HLL : Hid (cmpL x y = 0 → la = lb) := fun h => by rw [lX, lY]; exact cmpL_zero_len h
        have HCC : Hid (∀ V : World, Below w4.heap.size w4 V → Calls Tryz.prog 53 #[.slice a la ca, .slice a la ca] V fun e w' => e = .returned (.int .i64 0) ∧ Below V.heap.size V w') := fun V hb => by
          have := cmpList_any (Q1.out.below hb) (Q1.out.below hb)
          rw [cmpL_self] at this
          exact this
        rw [HN.out] at HC1
        have HD : Hid (∀ k, k < la → k < lb → True) := fun _ _ _ => trivial
        have HX0 : Hid (cmpL x y = cmpL (x.drop 0) (y.drop 0)) := rfl
        generalize hXX : cmpL x y = X at *
        clear HD lX lY HL HS HN
        generalize cmpL y z = Y at *
        generalize cmpL x z = Z at *
        go_upto_region 7 with fail
        go_cut [85] (fun t wx => t = .bool false ∧ Hid (Below w4.heap.size w4 wx))
        case first =>
          rcases bX with rfl | rfl | rfl
          · rcases bY with rfl | rfl | rfl
            · rcases bZ with rfl | rfl | rfl
              · go_wp2_with fail
                refine HC1.out.mono ?_
                rintro e w5 ⟨rfl, hb5⟩
                have HB5 := Lib.hid hb5
                clear hb5
                go_wp2_with fail
                refine (HCC.out _ HB5.out).mono ?_
                rintro e w6 ⟨rfl, hb6⟩
                have HB6 := Lib.hid (HB5.out.trans (hb6.mono HB5.out.size))
                clear hb6 HB5
                go_wp2_with fail
                go_meet
                exact ⟨rfl, HB6⟩
              · exact absurd HT.out (by decide)
              · exact absurd HT.out (by decide)
            · rcases bZ with rfl | rfl | rfl
              · go_wp2_with fail
                refine HC1.out.mono ?_
                rintro e w5 ⟨rfl, hb5⟩
                have HB5 := Lib.hid hb5
                clear hb5
                go_wp2_with fail
                refine (HCC.out _ HB5.out).mono ?_
                rintro e w6 ⟨rfl, hb6⟩
                have HB6 := Lib.hid (HB5.out.trans (hb6.mono HB5.out.size))
                clear hb6 HB5
                go_wp2_with fail
                go_meet
                exact ⟨rfl, HB6⟩
              · exact absurd HT.out (by decide)
              · exact absurd HT.out (by decide)
            · go_wp2_with fail
              refine HC1.out.mono ?_
              rintro e w5 ⟨rfl, hb5⟩
              have HB5 := Lib.hid hb5
              clear hb5
              go_wp2_with fail
              refine (HCC.out _ HB5.out).mono ?_
              rintro e w6 ⟨rfl, hb6⟩
              have HB6 := Lib.hid (HB5.out.trans (hb6.mono HB5.out.size))
              clear hb6 HB5
              go_wp2_with fail
              go_meet
              exact ⟨rfl, HB6⟩
          · rcases bY with rfl | rfl | rfl
            · rcases bZ with rfl | rfl | rfl
              · obtain rfl : la = lb := HLL.out rfl
                go_wp2_with fail
                refine HC1.out.mono ?_
                rintro e w5 ⟨rfl, hb5⟩
                have HB5 := Lib.hid hb5
                clear hb5
                go_wp2_with fail
                refine (HCC.out _ HB5.out).mono ?_
                rintro e w6 ⟨rfl, hb6⟩
                have HB6 := Lib.hid (HB5.out.trans (hb6.mono HB5.out.size))
                clear hb6 HB5
                go_wp2_with fail
                go_meet
                exact ⟨rfl, HB6⟩
              · obtain rfl : la = lb := HLL.out rfl
                go_wp2_with fail
                refine HC1.out.mono ?_
                rintro e w5 ⟨rfl, hb5⟩
                have HB5 := Lib.hid hb5
                clear hb5
                go_wp2_with fail
                refine (HCC.out _ HB5.out).mono ?_
                rintro e w6 ⟨rfl, hb6⟩
                have HB6 := Lib.hid (HB5.out.trans (hb6.mono HB5.out.size))
                clear hb6 HB5
                go_wp2_with fail
                go_meet
                exact ⟨rfl, HB6⟩
              · exact absurd HT.out (by decide)
            · rcases bZ with rfl | rfl | rfl
              · obtain rfl : la = lb := HLL.out rfl
                go_wp2_with fail
                refine HC1.out.mono ?_
                rintro e w5 ⟨rfl, hb5⟩
                have HB5 := Lib.hid hb5
                clear hb5
                go_wp2_with fail
                refine (HCC.out _ HB5.out).mono ?_
                rintro e w6 ⟨rfl, hb6⟩
                have HB6 := Lib.hid (HB5.out.trans (hb6.mono HB5.out.size))
                clear hb6 HB5
                go_wp2_with fail
                go_meet
                exact ⟨rfl, HB6⟩
              · obtain rfl : la = lb := HLL.out rfl
                go_wp2_with fail
                refine HC1.out.mono ?_
                rintro e w5 ⟨rfl, hb5⟩
                have HB5 := Lib.hid hb5
                clear hb5
                go_wp2_with fail
                refine (HCC.out _ HB5.out).mono ?_
                rintro e w6 ⟨rfl, hb6⟩
                have HB6 := Lib.hid (HB5.out.trans (hb6.mono HB5.out.size))
                clear hb6 HB5
                go_wp2_with fail
                go_meet
                exact ⟨rfl, HB6⟩
              · exact absurd HT.out (by decide)
            · obtain rfl : la = lb := HLL.out rfl
              go_wp2_with fail
              refine HC1.out.mono ?_
              rintro e w5 ⟨rfl, hb5⟩
              have HB5 := Lib.hid hb5
              clear hb5
              go_wp2_with fail
              refine (HCC.out _ HB5.out).mono ?_
              rintro e w6 ⟨rfl, hb6⟩
              have HB6 := Lib.hid (HB5.out.trans (hb6.mono HB5.out.size))
              clear hb6 HB5
              go_wp2_with fail
              go_meet
              exact ⟨rfl, HB6⟩
          · go_wp2_with fail
            refine HC1.out.mono ?_
            rintro e w5 ⟨rfl, hb5⟩
            have HB5 := Lib.hid hb5
            clear hb5
            go_wp2_with fail
            refine (HCC.out _ HB5.out).mono ?_
            rintro e w6 ⟨rfl, hb6⟩
            have HB6 := Lib.hid (HB5.out.trans (hb6.mono HB5.out.size))
            clear hb6 HB5
            go_wp2_with fail
            go_meet
            exact ⟨rfl, HB6⟩
        case rest =>
          obtain ⟨rfl, HW⟩ := hcut
          clear HC1 HCC HT bX bY bZ HLL hXX
          have fa := Q1.out.fit
          have sa := Q1.out.small
          have fb := Q2.out.fit
          have sb := Q2.out.small
          have LA := Lib.hid Q1.out.hl
          have LB := Lib.hid Q2.out.hl
          go_wp2_with fail
          go_loopw [11] (fun i wr => ∃ k : Nat, k ≤ la ∧ k ≤ lb ∧ i = .int .i64 k ∧ Hid (X = cmpL (x.drop k) (y.drop k) ∧ Below w4.heap.size w4 wr)) (fun i _ => la - (intOf i).toNat)
          case atStart => exact ⟨0, Nat.zero_le _, Nat.zero_le _, rfl, HX0.out, HW.out⟩
          case round =>
            obtain ⟨k, hk, hk', rfl, HI⟩ := hrel
            by_cases hlt : k < la
            · by_cases hlt' : k < lb
              · obtain ⟨pb, po, rfl, _, hpb, hpc⟩ := Q1.out.cells (by omega)
                obtain ⟨qb, qo, rfl, _, hqb, hqc⟩ := Q2.out.cells (by omega)
                obtain ⟨c0, c1, c2⟩ := hpc k hlt
                obtain ⟨d0, d1, d2⟩ := hqc k hlt'
                have HCV : Hid (∀ W, Calls Tryz.prog 41 #[.agg #[.int .i64 (x[k]?.getD Vl.null).k, .int .i64 (x[k]?.getD Vl.null).i, .string (bsOf (x[k]?.getD Vl.null).s)], .agg #[.int .i64 (y[k]?.getD Vl.null).k, .int .i64 (y[k]?.getD Vl.null).i, .string (bsOf (y[k]?.getD Vl.null).s)]] W fun e w' => e = .returned (.int .i64 (cmpV (x[k]?.getD Vl.null) (y[k]?.getD Vl.null))) ∧ Below W.heap.size W w') := fun W => cmp_any _ _ W
                have HCR : Hid (∀ W, Calls Tryz.prog 41 #[.agg #[.int .i64 (y[k]?.getD Vl.null).k, .int .i64 (y[k]?.getD Vl.null).i, .string (bsOf (y[k]?.getD Vl.null).s)], .agg #[.int .i64 (x[k]?.getD Vl.null).k, .int .i64 (x[k]?.getD Vl.null).i, .string (bsOf (x[k]?.getD Vl.null).s)]] W fun e w' => e = .returned (.int .i64 (cmpV (y[k]?.getD Vl.null) (x[k]?.getD Vl.null))) ∧ Below W.heap.size W w') := fun W => cmp_any _ _ W
                have HST : Hid (cmpV (x[k]?.getD Vl.null) (y[k]?.getD Vl.null) = 0 → X = cmpL (x.drop (k + 1)) (y.drop (k + 1))) := fun h => HI.out.1.trans (cmpL_step (by rw [← LA.out]; exact hlt) (by rw [← LB.out]; exact hlt') h)
                have HNE : Hid (cmpV (x[k]?.getD Vl.null) (y[k]?.getD Vl.null) ≠ 0 → cmpL (x.drop k) (y.drop k) = cmpV (x[k]?.getD Vl.null) (y[k]?.getD Vl.null)) := cmpL_ne (by rw [← LA.out]; exact hlt) (by rw [← LB.out]; exact hlt')
                clear hpc hqc
                generalize x[k]?.getD Vl.null = p at *
                generalize y[k]?.getD Vl.null = q at *
                obtain ⟨pk, pi, ps⟩ := p
                obtain ⟨qk, qi, qs⟩ := q
                dsimp only at c0 c1 c2 d0 d1 d2 HCV HCR
                have hkI : (k : Int) < (la : Int) := by omega
                have hkI' : (k : Int) < (lb : Int) := by omega
                have hbp := bs_list ps
                have hbq := bs_list qs
                rcases bd3 (cmpV_bd ⟨pk, pi, ps⟩ ⟨qk, qi, qs⟩) with hv | hv | hv
                · have hne : (⟨pk, pi, ps⟩ : Vl) ≠ ⟨qk, qi, qs⟩ := fun h => by rw [h, cmpV_self] at hv; exact absurd hv (by decide)
                  have hXv : X = -1 := HI.out.1.trans ((HNE.out (by rw [hv]; decide)).trans hv)
                  rw [hv] at HCV
                  have hvr : cmpV ⟨qk, qi, qs⟩ ⟨pk, pi, ps⟩ = 1 := by rw [cmpV_neg, hv]; try rfl
                  rw [hvr] at HCR
                  clear hvr hv HST HNE
                  subst hXv
                  rcases ne_parts hne with h1 | ⟨h1, h2⟩ | ⟨h1, h2, h3⟩
                  · clear hne
                    have e1 : (pk == qk) = false := by simpa using h1
                    clear h1
                    have C0 := fun d os => cell_regrown ((HI.out.2.cell (p := ⟨pb, po + k * 3, none⟩) hpb).trans c0) d os
                    have C1 := fun d os => cell_regrown ((HI.out.2.cell (p := ⟨pb, po + k * 3 + 1, none⟩) hpb).trans c1) d os
                    have C2 := fun d os => cell_regrown ((HI.out.2.cell (p := ⟨pb, po + k * 3 + 2, none⟩) hpb).trans c2) d os
                    have D0 := fun d os => cell_regrown ((HI.out.2.cell (p := ⟨qb, qo + k * 3, none⟩) hqb).trans d0) d os
                    have D1 := fun d os => cell_regrown ((HI.out.2.cell (p := ⟨qb, qo + k * 3 + 1, none⟩) hqb).trans d1) d os
                    have D2 := fun d os => cell_regrown ((HI.out.2.cell (p := ⟨qb, qo + k * 3 + 2, none⟩) hqb).trans d2) d os
                    go_upto_region 12 with fail
                    refine wp_region_quiet_below (by kernel_rfl) (by kernel_rfl) ?_
                    repeat (go_big_quiet_step (first
                      | (go_at_call 41; with_reducible exact Calls.regrown_of (HCV.out _))))
                    refine wpQuiet_nil ?_
                    intro _ hw'
                    obtain ⟨⟨dq, osq⟩, hw''⟩ := hw'
                    subst hw''
                    have HBP : Hid (Below w4.heap.size w4 (Go.Sort.grow (redrawn wr dq) osq)) := HI.out.2.trans ((below_regrown wr dq osq).mono HI.out.2.size)
                    clear C0 C1 C2 D0 D1 D2
                    generalize Go.Sort.grow (redrawn wr dq) osq = WP at *
                    have C0 := fun d os => cell_regrown ((HBP.out.cell (p := ⟨pb, po + k * 3, none⟩) hpb).trans c0) d os
                    have C1 := fun d os => cell_regrown ((HBP.out.cell (p := ⟨pb, po + k * 3 + 1, none⟩) hpb).trans c1) d os
                    have C2 := fun d os => cell_regrown ((HBP.out.cell (p := ⟨pb, po + k * 3 + 2, none⟩) hpb).trans c2) d os
                    have D0 := fun d os => cell_regrown ((HBP.out.cell (p := ⟨qb, qo + k * 3, none⟩) hqb).trans d0) d os
                    have D1 := fun d os => cell_regrown ((HBP.out.cell (p := ⟨qb, qo + k * 3 + 1, none⟩) hqb).trans d1) d os
                    have D2 := fun d os => cell_regrown ((HBP.out.cell (p := ⟨qb, qo + k * 3 + 2, none⟩) hqb).trans d2) d os
                    go_upto_region 13 with fail
                    refine wp_region_quiet_below (by kernel_rfl) (by kernel_rfl) ?_
                    repeat (go_big_quiet_step (first
                      | (go_at_call 41; with_reducible exact Calls.regrown_of (HCR.out _))))
                    refine wpQuiet_nil ?_
                    intro _ hw'
                    obtain ⟨⟨dq, osq⟩, hw''⟩ := hw'
                    subst hw''
                    have HBQ : Hid (Below w4.heap.size w4 (Go.Sort.grow (redrawn WP dq) osq)) := HBP.out.trans ((below_regrown WP dq osq).mono HBP.out.size)
                    clear C0 C1 C2 D0 D1 D2
                    generalize Go.Sort.grow (redrawn WP dq) osq = WQ at *
                    go_wp2_with fail
                    go_ret
                    exact ⟨rfl, HB4.out.trans (HBQ.out.mono HB4.out.size)⟩
                  · clear hne
                    obtain rfl : pk = qk := h1
                    have e2 : (pi == qi) = false := by simpa using h2
                    clear h2
                    have C0 := fun d os => cell_regrown ((HI.out.2.cell (p := ⟨pb, po + k * 3, none⟩) hpb).trans c0) d os
                    have C1 := fun d os => cell_regrown ((HI.out.2.cell (p := ⟨pb, po + k * 3 + 1, none⟩) hpb).trans c1) d os
                    have C2 := fun d os => cell_regrown ((HI.out.2.cell (p := ⟨pb, po + k * 3 + 2, none⟩) hpb).trans c2) d os
                    have D0 := fun d os => cell_regrown ((HI.out.2.cell (p := ⟨qb, qo + k * 3, none⟩) hqb).trans d0) d os
                    have D1 := fun d os => cell_regrown ((HI.out.2.cell (p := ⟨qb, qo + k * 3 + 1, none⟩) hqb).trans d1) d os
                    have D2 := fun d os => cell_regrown ((HI.out.2.cell (p := ⟨qb, qo + k * 3 + 2, none⟩) hqb).trans d2) d os
                    go_upto_region 12 with fail
                    refine wp_region_quiet_below (by kernel_rfl) (by kernel_rfl) ?_
                    repeat (go_big_quiet_step (first
                      | (go_at_call 41; with_reducible exact Calls.regrown_of (HCV.out _))))
                    refine wpQuiet_nil ?_
                    intro _ hw'
                    obtain ⟨⟨dq, osq⟩, hw''⟩ := hw'
                    subst hw''
                    have HBP : Hid (Below w4.heap.size w4 (Go.Sort.grow (redrawn wr dq) osq)) := HI.out.2.trans ((below_regrown wr dq osq).mono HI.out.2.size)
                    clear C0 C1 C2 D0 D1 D2
                    generalize Go.Sort.grow (redrawn wr dq) osq = WP at *
                    have C0 := fun d os => cell_regrown ((HBP.out.cell (p := ⟨pb, po + k * 3, none⟩) hpb).trans c0) d os
                    have C1 := fun d os => cell_regrown ((HBP.out.cell (p := ⟨pb, po + k * 3 + 1, none⟩) hpb).trans c1) d os
                    have C2 := fun d os => cell_regrown ((HBP.out.cell (p := ⟨pb, po + k * 3 + 2, none⟩) hpb).trans c2) d os
                    have D0 := fun d os => cell_regrown ((HBP.out.cell (p := ⟨qb, qo + k * 3, none⟩) hqb).trans d0) d os
                    have D1 := fun d os => cell_regrown ((HBP.out.cell (p := ⟨qb, qo + k * 3 + 1, none⟩) hqb).trans d1) d os
                    have D2 := fun d os => cell_regrown ((HBP.out.cell (p := ⟨qb, qo + k * 3 + 2, none⟩) hqb).trans d2) d os
                    go_upto_region 13 with fail
                    refine wp_region_quiet_below (by kernel_rfl) (by kernel_rfl) ?_
                    repeat (go_big_quiet_step (first
                      | (go_at_call 41; with_reducible exact Calls.regrown_of (HCR.out _))))
                    refine wpQuiet_nil ?_
                    intro _ hw'
                    obtain ⟨⟨dq, osq⟩, hw''⟩ := hw'
                    subst hw''
                    have HBQ : Hid (Below w4.heap.size w4 (Go.Sort.grow (redrawn WP dq) osq)) := HBP.out.trans ((below_regrown WP dq osq).mono HBP.out.size)
                    clear C0 C1 C2 D0 D1 D2
                    generalize Go.Sort.grow (redrawn WP dq) osq = WQ at *
                    go_wp2_with fail
                    go_ret
                    exact ⟨rfl, HB4.out.trans (HBQ.out.mono HB4.out.size)⟩
                  · clear hne
                    obtain rfl : pk = qk := h1
                    obtain rfl : pi = qi := h2
                    have e3 : (ps == qs) = false := by simpa using h3
                    clear h3
                    have C0 := fun d os => cell_regrown ((HI.out.2.cell (p := ⟨pb, po + k * 3, none⟩) hpb).trans c0) d os
                    have C1 := fun d os => cell_regrown ((HI.out.2.cell (p := ⟨pb, po + k * 3 + 1, none⟩) hpb).trans c1) d os
                    have C2 := fun d os => cell_regrown ((HI.out.2.cell (p := ⟨pb, po + k * 3 + 2, none⟩) hpb).trans c2) d os
                    have D0 := fun d os => cell_regrown ((HI.out.2.cell (p := ⟨qb, qo + k * 3, none⟩) hqb).trans d0) d os
                    have D1 := fun d os => cell_regrown ((HI.out.2.cell (p := ⟨qb, qo + k * 3 + 1, none⟩) hqb).trans d1) d os
                    have D2 := fun d os => cell_regrown ((HI.out.2.cell (p := ⟨qb, qo + k * 3 + 2, none⟩) hqb).trans d2) d os
                    go_upto_region 12 with fail
                    refine wp_region_quiet_below (by kernel_rfl) (by kernel_rfl) ?_
                    repeat (go_big_quiet_step (first
                      | (go_at_call 41; with_reducible exact Calls.regrown_of (HCV.out _))))
                    refine wpQuiet_nil ?_
                    intro _ hw'
                    obtain ⟨⟨dq, osq⟩, hw''⟩ := hw'
                    subst hw''
                    have HBP : Hid (Below w4.heap.size w4 (Go.Sort.grow (redrawn wr dq) osq)) := HI.out.2.trans ((below_regrown wr dq osq).mono HI.out.2.size)
                    clear C0 C1 C2 D0 D1 D2
                    generalize Go.Sort.grow (redrawn wr dq) osq = WP at *
                    have C0 := fun d os => cell_regrown ((HBP.out.cell (p := ⟨pb, po + k * 3, none⟩) hpb).trans c0) d os
                    have C1 := fun d os => cell_regrown ((HBP.out.cell (p := ⟨pb, po + k * 3 + 1, none⟩) hpb).trans c1) d os
                    have C2 := fun d os => cell_regrown ((HBP.out.cell (p := ⟨pb, po + k * 3 + 2, none⟩) hpb).trans c2) d os
                    have D0 := fun d os => cell_regrown ((HBP.out.cell (p := ⟨qb, qo + k * 3, none⟩) hqb).trans d0) d os
                    have D1 := fun d os => cell_regrown ((HBP.out.cell (p := ⟨qb, qo + k * 3 + 1, none⟩) hqb).trans d1) d os
                    have D2 := fun d os => cell_regrown ((HBP.out.cell (p := ⟨qb, qo + k * 3 + 2, none⟩) hqb).trans d2) d os
                    go_upto_region 13 with fail
                    refine wp_region_quiet_below (by kernel_rfl) (by kernel_rfl) ?_
                    repeat (go_big_quiet_step (first
                      | (go_at_call 41; with_reducible exact Calls.regrown_of (HCR.out _))))
                    refine wpQuiet_nil ?_
                    intro _ hw'
                    obtain ⟨⟨dq, osq⟩, hw''⟩ := hw'
                    subst hw''
                    have HBQ : Hid (Below w4.heap.size w4 (Go.Sort.grow (redrawn WP dq) osq)) := HBP.out.trans ((below_regrown WP dq osq).mono HBP.out.size)
                    clear C0 C1 C2 D0 D1 D2
                    generalize Go.Sort.grow (redrawn WP dq) osq = WQ at *
                    go_wp2_with fail
                    go_ret
                    exact ⟨rfl, HB4.out.trans (HBQ.out.mono HB4.out.size)⟩
                · have HST' := Lib.hid (HST.out hv)
                  clear HST HNE
                  have HST := HST'
                  clear HST'
                  have hpq := cmpV_zero hv
                  injection hpq with z1 z2 z3
                  subst z1 z2 z3
                  rw [hv] at HCV HCR
                  clear hv
                  by_cases hX0 : X = 0
                  · subst hX0
                    have C0 := fun d os => cell_regrown ((HI.out.2.cell (p := ⟨pb, po + k * 3, none⟩) hpb).trans c0) d os
                    have C1 := fun d os => cell_regrown ((HI.out.2.cell (p := ⟨pb, po + k * 3 + 1, none⟩) hpb).trans c1) d os
                    have C2 := fun d os => cell_regrown ((HI.out.2.cell (p := ⟨pb, po + k * 3 + 2, none⟩) hpb).trans c2) d os
                    have D0 := fun d os => cell_regrown ((HI.out.2.cell (p := ⟨qb, qo + k * 3, none⟩) hqb).trans d0) d os
                    have D1 := fun d os => cell_regrown ((HI.out.2.cell (p := ⟨qb, qo + k * 3 + 1, none⟩) hqb).trans d1) d os
                    have D2 := fun d os => cell_regrown ((HI.out.2.cell (p := ⟨qb, qo + k * 3 + 2, none⟩) hqb).trans d2) d os
                    go_upto_region 12 with fail
                    refine wp_region_quiet_below (by kernel_rfl) (by kernel_rfl) ?_
                    repeat (go_big_quiet_step (first
                      | (go_at_call 41; with_reducible exact Calls.regrown_of (HCV.out _))))
                    refine wpQuiet_nil ?_
                    intro _ hw'
                    obtain ⟨⟨dq, osq⟩, hw''⟩ := hw'
                    subst hw''
                    have HBP : Hid (Below w4.heap.size w4 (Go.Sort.grow (redrawn wr dq) osq)) := HI.out.2.trans ((below_regrown wr dq osq).mono HI.out.2.size)
                    clear C0 C1 C2 D0 D1 D2
                    generalize Go.Sort.grow (redrawn wr dq) osq = WP at *
                    have C0 := fun d os => cell_regrown ((HBP.out.cell (p := ⟨pb, po + k * 3, none⟩) hpb).trans c0) d os
                    have C1 := fun d os => cell_regrown ((HBP.out.cell (p := ⟨pb, po + k * 3 + 1, none⟩) hpb).trans c1) d os
                    have C2 := fun d os => cell_regrown ((HBP.out.cell (p := ⟨pb, po + k * 3 + 2, none⟩) hpb).trans c2) d os
                    have D0 := fun d os => cell_regrown ((HBP.out.cell (p := ⟨qb, qo + k * 3, none⟩) hqb).trans d0) d os
                    have D1 := fun d os => cell_regrown ((HBP.out.cell (p := ⟨qb, qo + k * 3 + 1, none⟩) hqb).trans d1) d os
                    have D2 := fun d os => cell_regrown ((HBP.out.cell (p := ⟨qb, qo + k * 3 + 2, none⟩) hqb).trans d2) d os
                    go_upto_region 13 with fail
                    refine wp_region_quiet_below (by kernel_rfl) (by kernel_rfl) ?_
                    repeat (go_big_quiet_step (first
                      | (go_at_call 41; with_reducible exact Calls.regrown_of (HCR.out _))))
                    refine wpQuiet_nil ?_
                    intro _ hw'
                    obtain ⟨⟨dq, osq⟩, hw''⟩ := hw'
                    subst hw''
                    have HBQ : Hid (Below w4.heap.size w4 (Go.Sort.grow (redrawn WP dq) osq)) := HBP.out.trans ((below_regrown WP dq osq).mono HBP.out.size)
                    clear C0 C1 C2 D0 D1 D2
                    generalize Go.Sort.grow (redrawn WP dq) osq = WQ at *
                    go_wp2_with fail
                    go_roundw
                    case rel => exact ⟨k + 1, by omega, by omega, by go_num, HST.out, HBQ.out⟩
                    case measure => simp [intOf]; omega
                  · have eX : (X == 0) = false := by simpa using hX0
                    clear hX0
                    have C0 := fun d os => cell_regrown ((HI.out.2.cell (p := ⟨pb, po + k * 3, none⟩) hpb).trans c0) d os
                    have C1 := fun d os => cell_regrown ((HI.out.2.cell (p := ⟨pb, po + k * 3 + 1, none⟩) hpb).trans c1) d os
                    have C2 := fun d os => cell_regrown ((HI.out.2.cell (p := ⟨pb, po + k * 3 + 2, none⟩) hpb).trans c2) d os
                    have D0 := fun d os => cell_regrown ((HI.out.2.cell (p := ⟨qb, qo + k * 3, none⟩) hqb).trans d0) d os
                    have D1 := fun d os => cell_regrown ((HI.out.2.cell (p := ⟨qb, qo + k * 3 + 1, none⟩) hqb).trans d1) d os
                    have D2 := fun d os => cell_regrown ((HI.out.2.cell (p := ⟨qb, qo + k * 3 + 2, none⟩) hqb).trans d2) d os
                    go_upto_region 12 with fail
                    refine wp_region_quiet_below (by kernel_rfl) (by kernel_rfl) ?_
                    repeat (go_big_quiet_step (first
                      | (go_at_call 41; with_reducible exact Calls.regrown_of (HCV.out _))))
                    refine wpQuiet_nil ?_
                    intro _ hw'
                    obtain ⟨⟨dq, osq⟩, hw''⟩ := hw'
                    subst hw''
                    have HBP : Hid (Below w4.heap.size w4 (Go.Sort.grow (redrawn wr dq) osq)) := HI.out.2.trans ((below_regrown wr dq osq).mono HI.out.2.size)
                    clear C0 C1 C2 D0 D1 D2
                    generalize Go.Sort.grow (redrawn wr dq) osq = WP at *
                    have C0 := fun d os => cell_regrown ((HBP.out.cell (p := ⟨pb, po + k * 3, none⟩) hpb).trans c0) d os
                    have C1 := fun d os => cell_regrown ((HBP.out.cell (p := ⟨pb, po + k * 3 + 1, none⟩) hpb).trans c1) d os
                    have C2 := fun d os => cell_regrown ((HBP.out.cell (p := ⟨pb, po + k * 3 + 2, none⟩) hpb).trans c2) d os
                    have D0 := fun d os => cell_regrown ((HBP.out.cell (p := ⟨qb, qo + k * 3, none⟩) hqb).trans d0) d os
                    have D1 := fun d os => cell_regrown ((HBP.out.cell (p := ⟨qb, qo + k * 3 + 1, none⟩) hqb).trans d1) d os
                    have D2 := fun d os => cell_regrown ((HBP.out.cell (p := ⟨qb, qo + k * 3 + 2, none⟩) hqb).trans d2) d os
                    go_upto_region 13 with fail
                    refine wp_region_quiet_below (by kernel_rfl) (by kernel_rfl) ?_
                    repeat (go_big_quiet_step (first
                      | (go_at_call 41; with_reducible exact Calls.regrown_of (HCR.out _))))
                    refine wpQuiet_nil ?_
                    intro _ hw'
                    obtain ⟨⟨dq, osq⟩, hw''⟩ := hw'
                    subst hw''
                    have HBQ : Hid (Below w4.heap.size w4 (Go.Sort.grow (redrawn WP dq) osq)) := HBP.out.trans ((below_regrown WP dq osq).mono HBP.out.size)
                    clear C0 C1 C2 D0 D1 D2
                    generalize Go.Sort.grow (redrawn WP dq) osq = WQ at *
                    go_wp2_with fail
                    go_roundw
                    case rel => exact ⟨k + 1, by omega, by omega, by go_num, HST.out, HBQ.out⟩
                    case measure => simp [intOf]; omega
                · have hne : (⟨pk, pi, ps⟩ : Vl) ≠ ⟨qk, qi, qs⟩ := fun h => by rw [h, cmpV_self] at hv; exact absurd hv (by decide)
                  have hXv : X = 1 := HI.out.1.trans ((HNE.out (by rw [hv]; decide)).trans hv)
                  rw [hv] at HCV
                  have hvr : cmpV ⟨qk, qi, qs⟩ ⟨pk, pi, ps⟩ = -1 := by rw [cmpV_neg, hv]; try rfl
                  rw [hvr] at HCR
                  clear hvr hv HST HNE
                  subst hXv
                  rcases ne_parts hne with h1 | ⟨h1, h2⟩ | ⟨h1, h2, h3⟩
                  · clear hne
                    have e1 : (pk == qk) = false := by simpa using h1
                    clear h1
                    have C0 := fun d os => cell_regrown ((HI.out.2.cell (p := ⟨pb, po + k * 3, none⟩) hpb).trans c0) d os
                    have C1 := fun d os => cell_regrown ((HI.out.2.cell (p := ⟨pb, po + k * 3 + 1, none⟩) hpb).trans c1) d os
                    have C2 := fun d os => cell_regrown ((HI.out.2.cell (p := ⟨pb, po + k * 3 + 2, none⟩) hpb).trans c2) d os
                    have D0 := fun d os => cell_regrown ((HI.out.2.cell (p := ⟨qb, qo + k * 3, none⟩) hqb).trans d0) d os
                    have D1 := fun d os => cell_regrown ((HI.out.2.cell (p := ⟨qb, qo + k * 3 + 1, none⟩) hqb).trans d1) d os
                    have D2 := fun d os => cell_regrown ((HI.out.2.cell (p := ⟨qb, qo + k * 3 + 2, none⟩) hqb).trans d2) d os
                    go_upto_region 12 with fail
                    refine wp_region_quiet_below (by kernel_rfl) (by kernel_rfl) ?_
                    repeat (go_big_quiet_step (first
                      | (go_at_call 41; with_reducible exact Calls.regrown_of (HCV.out _))))
                    refine wpQuiet_nil ?_
                    intro _ hw'
                    obtain ⟨⟨dq, osq⟩, hw''⟩ := hw'
                    subst hw''
                    have HBP : Hid (Below w4.heap.size w4 (Go.Sort.grow (redrawn wr dq) osq)) := HI.out.2.trans ((below_regrown wr dq osq).mono HI.out.2.size)
                    clear C0 C1 C2 D0 D1 D2
                    generalize Go.Sort.grow (redrawn wr dq) osq = WP at *
                    have C0 := fun d os => cell_regrown ((HBP.out.cell (p := ⟨pb, po + k * 3, none⟩) hpb).trans c0) d os
                    have C1 := fun d os => cell_regrown ((HBP.out.cell (p := ⟨pb, po + k * 3 + 1, none⟩) hpb).trans c1) d os
                    have C2 := fun d os => cell_regrown ((HBP.out.cell (p := ⟨pb, po + k * 3 + 2, none⟩) hpb).trans c2) d os
                    have D0 := fun d os => cell_regrown ((HBP.out.cell (p := ⟨qb, qo + k * 3, none⟩) hqb).trans d0) d os
                    have D1 := fun d os => cell_regrown ((HBP.out.cell (p := ⟨qb, qo + k * 3 + 1, none⟩) hqb).trans d1) d os
                    have D2 := fun d os => cell_regrown ((HBP.out.cell (p := ⟨qb, qo + k * 3 + 2, none⟩) hqb).trans d2) d os
                    go_upto_region 13 with fail
                    refine wp_region_quiet_below (by kernel_rfl) (by kernel_rfl) ?_
                    repeat (go_big_quiet_step (first
                      | (go_at_call 41; with_reducible exact Calls.regrown_of (HCR.out _))))
                    refine wpQuiet_nil ?_
                    intro _ hw'
                    obtain ⟨⟨dq, osq⟩, hw''⟩ := hw'
                    subst hw''
                    have HBQ : Hid (Below w4.heap.size w4 (Go.Sort.grow (redrawn WP dq) osq)) := HBP.out.trans ((below_regrown WP dq osq).mono HBP.out.size)
                    clear C0 C1 C2 D0 D1 D2
                    generalize Go.Sort.grow (redrawn WP dq) osq = WQ at *
                    go_wp2_with fail
                    go_ret
                    exact ⟨rfl, HB4.out.trans (HBQ.out.mono HB4.out.size)⟩
                  · clear hne
                    obtain rfl : pk = qk := h1
                    have e2 : (pi == qi) = false := by simpa using h2
                    clear h2
                    have C0 := fun d os => cell_regrown ((HI.out.2.cell (p := ⟨pb, po + k * 3, none⟩) hpb).trans c0) d os
                    have C1 := fun d os => cell_regrown ((HI.out.2.cell (p := ⟨pb, po + k * 3 + 1, none⟩) hpb).trans c1) d os
                    have C2 := fun d os => cell_regrown ((HI.out.2.cell (p := ⟨pb, po + k * 3 + 2, none⟩) hpb).trans c2) d os
                    have D0 := fun d os => cell_regrown ((HI.out.2.cell (p := ⟨qb, qo + k * 3, none⟩) hqb).trans d0) d os
                    have D1 := fun d os => cell_regrown ((HI.out.2.cell (p := ⟨qb, qo + k * 3 + 1, none⟩) hqb).trans d1) d os
                    have D2 := fun d os => cell_regrown ((HI.out.2.cell (p := ⟨qb, qo + k * 3 + 2, none⟩) hqb).trans d2) d os
                    go_upto_region 12 with fail
                    refine wp_region_quiet_below (by kernel_rfl) (by kernel_rfl) ?_
                    repeat (go_big_quiet_step (first
                      | (go_at_call 41; with_reducible exact Calls.regrown_of (HCV.out _))))
                    refine wpQuiet_nil ?_
                    intro _ hw'
                    obtain ⟨⟨dq, osq⟩, hw''⟩ := hw'
                    subst hw''
                    have HBP : Hid (Below w4.heap.size w4 (Go.Sort.grow (redrawn wr dq) osq)) := HI.out.2.trans ((below_regrown wr dq osq).mono HI.out.2.size)
                    clear C0 C1 C2 D0 D1 D2
                    generalize Go.Sort.grow (redrawn wr dq) osq = WP at *
                    have C0 := fun d os => cell_regrown ((HBP.out.cell (p := ⟨pb, po + k * 3, none⟩) hpb).trans c0) d os
                    have C1 := fun d os => cell_regrown ((HBP.out.cell (p := ⟨pb, po + k * 3 + 1, none⟩) hpb).trans c1) d os
                    have C2 := fun d os => cell_regrown ((HBP.out.cell (p := ⟨pb, po + k * 3 + 2, none⟩) hpb).trans c2) d os
                    have D0 := fun d os => cell_regrown ((HBP.out.cell (p := ⟨qb, qo + k * 3, none⟩) hqb).trans d0) d os
                    have D1 := fun d os => cell_regrown ((HBP.out.cell (p := ⟨qb, qo + k * 3 + 1, none⟩) hqb).trans d1) d os
                    have D2 := fun d os => cell_regrown ((HBP.out.cell (p := ⟨qb, qo + k * 3 + 2, none⟩) hqb).trans d2) d os
                    go_upto_region 13 with fail
                    refine wp_region_quiet_below (by kernel_rfl) (by kernel_rfl) ?_
                    repeat (go_big_quiet_step (first
                      | (go_at_call 41; with_reducible exact Calls.regrown_of (HCR.out _))))
                    refine wpQuiet_nil ?_
                    intro _ hw'
                    obtain ⟨⟨dq, osq⟩, hw''⟩ := hw'
                    subst hw''
                    have HBQ : Hid (Below w4.heap.size w4 (Go.Sort.grow (redrawn WP dq) osq)) := HBP.out.trans ((below_regrown WP dq osq).mono HBP.out.size)
                    clear C0 C1 C2 D0 D1 D2
                    generalize Go.Sort.grow (redrawn WP dq) osq = WQ at *
                    go_wp2_with fail
                    go_ret
                    exact ⟨rfl, HB4.out.trans (HBQ.out.mono HB4.out.size)⟩
                  · clear hne
                    obtain rfl : pk = qk := h1
                    obtain rfl : pi = qi := h2
                    have e3 : (ps == qs) = false := by simpa using h3
                    clear h3
                    have C0 := fun d os => cell_regrown ((HI.out.2.cell (p := ⟨pb, po + k * 3, none⟩) hpb).trans c0) d os
                    have C1 := fun d os => cell_regrown ((HI.out.2.cell (p := ⟨pb, po + k * 3 + 1, none⟩) hpb).trans c1) d os
                    have C2 := fun d os => cell_regrown ((HI.out.2.cell (p := ⟨pb, po + k * 3 + 2, none⟩) hpb).trans c2) d os
                    have D0 := fun d os => cell_regrown ((HI.out.2.cell (p := ⟨qb, qo + k * 3, none⟩) hqb).trans d0) d os
                    have D1 := fun d os => cell_regrown ((HI.out.2.cell (p := ⟨qb, qo + k * 3 + 1, none⟩) hqb).trans d1) d os
                    have D2 := fun d os => cell_regrown ((HI.out.2.cell (p := ⟨qb, qo + k * 3 + 2, none⟩) hqb).trans d2) d os
                    go_upto_region 12 with fail
                    refine wp_region_quiet_below (by kernel_rfl) (by kernel_rfl) ?_
                    repeat (go_big_quiet_step (first
                      | (go_at_call 41; with_reducible exact Calls.regrown_of (HCV.out _))))
                    refine wpQuiet_nil ?_
                    intro _ hw'
                    obtain ⟨⟨dq, osq⟩, hw''⟩ := hw'
                    subst hw''
                    have HBP : Hid (Below w4.heap.size w4 (Go.Sort.grow (redrawn wr dq) osq)) := HI.out.2.trans ((below_regrown wr dq osq).mono HI.out.2.size)
                    clear C0 C1 C2 D0 D1 D2
                    generalize Go.Sort.grow (redrawn wr dq) osq = WP at *
                    have C0 := fun d os => cell_regrown ((HBP.out.cell (p := ⟨pb, po + k * 3, none⟩) hpb).trans c0) d os
                    have C1 := fun d os => cell_regrown ((HBP.out.cell (p := ⟨pb, po + k * 3 + 1, none⟩) hpb).trans c1) d os
                    have C2 := fun d os => cell_regrown ((HBP.out.cell (p := ⟨pb, po + k * 3 + 2, none⟩) hpb).trans c2) d os
                    have D0 := fun d os => cell_regrown ((HBP.out.cell (p := ⟨qb, qo + k * 3, none⟩) hqb).trans d0) d os
                    have D1 := fun d os => cell_regrown ((HBP.out.cell (p := ⟨qb, qo + k * 3 + 1, none⟩) hqb).trans d1) d os
                    have D2 := fun d os => cell_regrown ((HBP.out.cell (p := ⟨qb, qo + k * 3 + 2, none⟩) hqb).trans d2) d os
                    go_upto_region 13 with fail
                    refine wp_region_quiet_below (by kernel_rfl) (by kernel_rfl) ?_
                    repeat (go_big_quiet_step (first
                      | (go_at_call 41; with_reducible exact Calls.regrown_of (HCR.out _))))
                    refine wpQuiet_nil ?_
                    intro _ hw'
                    obtain ⟨⟨dq, osq⟩, hw''⟩ := hw'
                    subst hw''
                    have HBQ : Hid (Below w4.heap.size w4 (Go.Sort.grow (redrawn WP dq) osq)) := HBP.out.trans ((below_regrown WP dq osq).mono HBP.out.size)
                    clear C0 C1 C2 D0 D1 D2
                    generalize Go.Sort.grow (redrawn WP dq) osq = WQ at *
                    go_wp2_with fail
                    go_ret
                    exact ⟨rfl, HB4.out.trans (HBQ.out.mono HB4.out.size)⟩
              · obtain rfl : k = lb := by omega
                have hd2 : ¬ ((k : Int) < (k : Int)) := Int.lt_irrefl _
                have hkI : (k : Int) < (la : Int) := by omega
                go_wp2_with fail
                go_ret
                exact ⟨rfl, HB4.out.trans (HI.out.2.mono HB4.out.size)⟩
            · obtain rfl : k = la := by omega
              have hd2 : ¬ ((k : Int) < (k : Int)) := Int.lt_irrefl _
              go_wp2_with fail
              go_ret
              exact ⟨rfl, HB4.out.trans (HI.out.2.mono HB4.out.size)⟩

end Go.Proofs.YtmmdbacejdhdaaaGreatDoor.valueOrders
