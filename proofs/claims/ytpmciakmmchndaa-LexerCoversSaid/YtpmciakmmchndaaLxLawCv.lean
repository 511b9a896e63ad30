/-
  The tokens of a source stand in it: the walk.
-/
import Derived.Test.YtpmciakmmchndaaLxRefB
import Derived.Test.YtpmciakmmchndaaLxLawEr
namespace Go.Proofs.Ytpmciakmmchndaa.lexerCovers
open Go Go.RowKit Go.Shelf Go.Sort Go.ChangeShapes Go.WideShapes Go.ChangeAt
open Go.Proofs.Ytpmciakmmchndaa Go.Proofs.Ytpmciakmmchndaa.Lx Go.Proofs.Ytpmciakmmchndaa.lexerErrors

theorem cov_step {s : List UInt8} {e : Nat} {t : Tk} {ts : List Tk} (h : lxY (s.drop e) e = (t :: ts, 0, true)) :
    ∃ p n : Nat, e ≤ p ∧ t.a = (p : Int) ∧ p + n ≤ s.length ∧ 0 < n ∧ vld t.k t.s = true ∧ (s.drop p).take n = spl t.k t.s ∧ (spl t.k t.s).length = n ∧ ws ((s.drop e).take (p - e)) = ((s.drop e).take (p - e)).length ∧ lxY (s.drop (p + n)) (p + n) = (ts, 0, true) := by
  have hwl : ws (s.drop e) ≤ (s.drop e).length := ws_le false _
  have hwc : ws ((s.drop e).take (ws (s.drop e))) = ws (s.drop e) := ws_cut false _ _ (Nat.le_refl _) hwl
  rw [List.length_drop] at hwl
  have e1 : lxY (s.drop e) e = lxX ((s.drop e).drop (ws (s.drop e))) (e + ws (s.drop e)) := rfl
  rw [e1, List.drop_drop] at h
  obtain ⟨g, hg⟩ : ∃ g, ws (s.drop e) = g := ⟨_, rfl⟩
  rw [hg] at h hwl hwc
  obtain ⟨l, hl⟩ : ∃ l, s.drop (e + g) = l := ⟨_, rfl⟩
  have hlen : l.length = s.length - (e + g) := by rw [← hl, List.length_drop]
  rw [hl] at h
  by_cases hne : l = []
  · rw [hne, x_nil] at h; cases h
  · obtain ⟨k, c, m, ht⟩ : ∃ k c m, tkR l = (k, c, m) := ⟨_, _, _, rfl⟩
    have hpos : 0 < m := by have := tk_pos hne; rw [ht] at this; exact this
    have hmle : m ≤ l.length := by have := tk_le hne; rw [ht] at this; exact this
    cases hor : okR l
    · rw [x_bad _ hne hor] at h; cases h
    · obtain ⟨f1, f2, f3, _⟩ := fwd hne ht hor
      rw [x_good _ hne ht hor] at h
      cases hy : (lxY (l.drop m) (e + g + m)).2.2
      · rw [comb_no _ hy] at h; cases h
      · have h2 := h
        rw [comb_yes _ hy] at h2
        have h3 : (⟨k, c, ((e + g : Nat) : Int)⟩ : Tk) :: (lxY (l.drop m) (e + g + m)).1 = t :: ts := congrArg Prod.fst h2
        obtain ⟨rfl, h4⟩ := List.cons.inj h3
        refine ⟨e + g, m, by omega, rfl, by omega, hpos, f1, ?_, f3.symm, ?_, ?_⟩
        · rw [hl]
          have : l.take m = spl k c := by
            conv => lhs; rw [f2, f3]
            exact List.take_left
          exact this
        · rw [Nat.add_sub_cancel_left, hwc, List.length_take, List.length_drop]; omega
        · rw [← List.drop_drop, hl, y_yes hy, h4]
theorem cov_end {s : List UInt8} {e : Nat} (h : lxY (s.drop e) e = ([], 0, true)) : ws (s.drop e) = (s.drop e).length := by
  have hwl : ws (s.drop e) ≤ (s.drop e).length := ws_le false _
  have e1 : lxY (s.drop e) e = lxX ((s.drop e).drop (ws (s.drop e))) (e + ws (s.drop e)) := rfl
  rw [e1] at h
  by_cases hne : (s.drop e).drop (ws (s.drop e)) = []
  · have := congrArg List.length hne
    rw [List.length_drop] at this
    simp at this hwl ⊢
    omega
  · exfalso
    obtain ⟨k, c, m, ht⟩ : ∃ k c m, tkR ((s.drop e).drop (ws (s.drop e))) = (k, c, m) := ⟨_, _, _, rfl⟩
    cases hor : okR ((s.drop e).drop (ws (s.drop e)))
    · rw [x_bad _ hne hor] at h; exact Bool.noConfusion (congrArg (fun r => r.2.2) h)
    · rw [x_good _ hne ht hor] at h
      cases hy : (lxY (((s.drop e).drop (ws (s.drop e))).drop m) (e + ws (s.drop e) + m)).2.2
      · rw [comb_no _ hy] at h; exact Bool.noConfusion (congrArg (fun r => r.2.2) h)
      · rw [comb_yes _ hy] at h
        have := congrArg Prod.fst h
        cases this

set_option maxRecDepth 100000 in
set_option maxHeartbeats 8000000 in
theorem walk {s : List UInt8} {w : World} (hs : s.length ≤ 9223372036854775807) (hV : Vars w) :
    Calls Try.prog 4 #[.string (bsOf s)] w fun e V => e = .returned (.bool true) ∧ Below w.heap.size w V := by
  have HZ := Lib.hid (bs_size s)
  have HX := Lib.hid (examples10_any w hV)
  have HSM := Lib.hid (fun w => small_nil (bsOf s) (by rw [bs_size]; omega) w)
  have HV := Lib.hid hV
  have HL := Lib.hid (fun w hV => lexed_any s hs w hV)
  have HCUT := Lib.hid (fun p q => bs_cut s p q)
  obtain ⟨S, hS⟩ : ∃ S, bsOf s = S := ⟨_, rfl⟩
  rw [hS] at HZ HSM HL HCUT ⊢
  have hsz : S.size ≤ 9223372036854775807 := by rw [HZ.out]; exact hs
  clear hS hs hV
  go_enter Try.func4, Try.ntmps4
  go_wp2_with fail
  refine HX.out.mono ?_
  rintro e w1 ⟨rfl, hb1⟩
  have HB1 := Lib.hid hb1
  clear hb1 HX
  go_wp2_with fail
  refine (HSM.out _).mono ?_
  rintro e w2 ⟨rfl, rfl⟩
  by_cases h2 : S.size ≤ 2000
  · have HZ2 : Hid (s.length ≤ 2000) := by have := HZ.out; show _ ≤ _; omega
    rw [decide_eq_true h2]
    have HC := Lib.hid (HL.out w1 (HV.out.below HB1.out))
    clear HL
    cases hok : (lxY s 0).2.2
    · have hp := (lex_ahead (by have := HZ2.out; omega) hok).1
      have hx := lex_err (by have := HZ2.out; omega) hok
      clear hok
      obtain ⟨p, hpp⟩ : ∃ p, (lxY s 0).2.1 = p := ⟨_, rfl⟩
      rw [hpp] at hp hx
      rw [hx] at HC
      have hpS : p < S.size := by rw [HZ.out]; exact hp
      clear hpp hx hp
      go_wp2_with fail
      refine HC.out.mono ?_
      rintro e w3 ⟨a1, c1, rfl, -, hb, -⟩
      dsimp only [List.length_nil]
      have hB3 := HB1.out.trans (hb.mono HB1.out.size)
      have HB4 := Lib.hid (hB3.alloc hB3.size (.cells #[.slice a1 0 c1, .int .i64 (p : Int), .int .i64 5] 37))
      have HU4 := Lib.hid (Trio.new w3 37 (.slice a1 0 c1) (.int .i64 (p : Int)) (.int .i64 5))
      clear hb hB3 HC
      go_upto_region 7 with fail
      obtain ⟨w4, hw4⟩ : ∃ w4, w3.alloc (.cells #[.slice a1 0 c1, .int .i64 (p : Int), .int .i64 5] 37) = w4 := ⟨_, rfl⟩
      rw [hw4] at HB4 HU4 ⊢
      clear hw4
      generalize w3.heap.size = U at *
      have d0 := HU4.out.c0
      have d1 := HU4.out.c1
      have d2 := HU4.out.c2
      have hp0 : ¬ (p : Int) < 0 := by omega
      have hp1 : (p : Int) < (S.size : Int) := by omega
      go_wp2
      go_ret
      exact ⟨rfl, HB4.out⟩
    · have hx := lex_ok (by have := HZ2.out; omega) hok
      have hy := y_yes hok
      rw [hx] at HC
      clear hx hok
      obtain ⟨ts, hts⟩ : ∃ ts, (lxY s 0).1 = ts := ⟨_, rfl⟩
      rw [hts] at HC hy
      have HY := Lib.hid hy
      clear hy hts
      go_wp2_with fail
      refine HC.out.mono ?_
      rintro e w3 ⟨a1, c1, rfl, hr, hb, hl⟩
      dsimp only at hr hl ⊢
      have hB3 := HB1.out.trans (hb.mono HB1.out.size)
      have hb4 := (Below.refl w3.heap.size w3).alloc (Nat.le_refl _) (.cells #[.slice a1 ts.length c1, .int .i64 0, .int .i64 0] 37)
      have HB4 := Lib.hid (hB3.trans (hb4.mono hB3.size))
      have HU4 := Lib.hid (Trio.new w3 37 (.slice a1 ts.length c1) (.int .i64 0) (.int .i64 0))
      have HR4 := Lib.hid (hr.below hb4)
      have hq : ts.length ≤ 20000 := hl
      have hfit := hr.fit
      have htop := hr.top
      clear hb hB3 HC hb4 hr hl
      rw [show ((0 : Nat) : Int) = 0 from rfl]
      go_upto_region 7 with fail
      obtain ⟨w4, hw4⟩ : ∃ w4, w3.alloc (.cells #[.slice a1 ts.length c1, .int .i64 0, .int .i64 0] 37) = w4 := ⟨_, rfl⟩
      rw [hw4] at HB4 HU4 HR4 ⊢
      clear hw4
      generalize w3.heap.size = U at *
      have d2 := HU4.out.c2
      obtain ⟨q, hq2⟩ : ∃ q, ts.length = q := ⟨_, rfl⟩
      have HQ := Lib.hid hq2
      rw [hq2] at HU4 HR4 hq hfit
      clear hq2
      go_wp2
      clear d2
      go_loopw [5, 6] (fun ev i wr => ∃ e' i' : Nat, ev = .int .i64 (e' : Int) ∧ i = .int .i64 (i' : Int) ∧ i' ≤ q ∧ e' ≤ S.size ∧ Hid (Below w4.heap.size w4 wr ∧ lxY (s.drop e') e' = (ts.drop i', 0, true))) (fun _ i _ => q - (intOf i).toNat)
      case atStart => exact ⟨0, 0, rfl, rfl, Nat.zero_le _, Nat.zero_le _, Below.self _, HY.out⟩
      case round =>
        obtain ⟨en, i, rfl, rfl, hi, hen, HI⟩ := hrel
        have HBI := Lib.hid HI.out.1
        have HUI := Lib.hid (HU4.out.below HI.out.1 HU4.out.lt)
        have d0 := HUI.out.c0
        have d1 := HUI.out.c1
        by_cases hlt : i < q
        · have hst : ∃ t ts', ts.drop i = t :: ts' ∧ ts[i]?.getD Tk.null = t ∧ ts.drop (i + 1) = ts' := by
            have hil : i < ts.length := by rw [HQ.out]; exact hlt
            refine ⟨ts[i], ts.drop (i + 1), List.drop_eq_getElem_cons hil, ?_, rfl⟩
            rw [List.getElem?_eq_getElem hil]; rfl
          obtain ⟨t, ts', ht1, ht2, ht3⟩ := hst
          have hy := HI.out.2
          rw [ht1] at hy
          obtain ⟨p, n, hep, hta, hpn, hn0, hvd, hsp, hsl, hwb, hnx⟩ := cov_step hy
          rw [← ht3] at hnx
          obtain ⟨b, off, rfl, hlb, hc⟩ := HR4.out.cells (by omega)
          have h0 := hc i hlt
          rw [ht2] at h0
          clear ht1 ht2 ht3 hy hc HI
          obtain ⟨tk, tt, ta⟩ := t
          dsimp only at h0 hta hvd hsp hsl
          subst hta
          obtain ⟨h0, h1, h2'⟩ := h0
          have g0 := (HBI.out.cell (p := ⟨b, off + i * 3, none⟩) hlb).trans h0
          have g1 := (HBI.out.cell (p := ⟨b, off + i * 3 + 1, none⟩) hlb).trans h1
          have g2 := (HBI.out.cell (p := ⟨b, off + i * 3 + 2, none⟩) hlb).trans h2'
          have htl := vld_len hvd
          have hcut := HCUT.out p (p + n)
          rw [Nat.add_sub_cancel_left, hsp] at hcut
          have hcutb := HCUT.out en p
          have HXZ : Hid ((bsOf (spl tk tt)).size = n) := by show _ = _; rw [bs_size, hsl]
          have hBK := fun w => blank_any ((s.drop en).take (p - en)) (by rw [List.length_take, List.length_drop]; have := HZ2.out; omega) w
          rw [hwb, decide_eq_true rfl] at hBK
          have HBK := Lib.hid hBK
          have hVR := fun w => validR_any tk (p : Int) tt (by omega) w
          have hVL := fun w hV => valid_any tk (p : Int) tt (by omega) w hV
          rw [hvd] at hVR hVL
          have HVR0 := Lib.hid hVR
          have HVL0 := Lib.hid hVL
          have HSP0 := Lib.hid (fun w hV => spell_any tk (p : Int) tt (by omega) w hV)
          have HTK0 := Lib.hid (fun w => token_law tk (p : Int) (bsOf tt) w)
          have HNX := Lib.hid hnx
          have hpS : p + n ≤ S.size := by rw [HZ.out]; exact hpn
          clear h0 h1 h2' hBK hVR hVL hnx hvd hsp hsl hwb htl hpn
          unfold encK at HVR0 HVL0 HSP0 HTK0
          obtain ⟨TT, hTT⟩ : ∃ TT, bsOf tt = TT := ⟨_, rfl⟩
          rw [hTT] at HVR0 HVL0 HSP0 HTK0 g1
          clear hTT
          obtain ⟨XS, hXS⟩ : ∃ XS, bsOf (spl tk tt) = XS := ⟨_, rfl⟩
          rw [hXS] at HSP0 HXZ hcut
          clear hXS
          obtain ⟨BS, hBS⟩ : ∃ BS, bsOf ((s.drop en).take (p - en)) = BS := ⟨_, rfl⟩
          rw [hBS] at HBK hcutb
          clear hBS
          obtain ⟨m, hm⟩ : ∃ m, p + n = m := ⟨_, rfl⟩
          have hXM : XS.size = n := HXZ.out
          rw [hm] at HNX hcut hpS
          have hmn : (p : Int) + (XS.size : Int) = (m : Int) := by omega
          have hpm : p < m := by omega
          have hXle : XS.size ≤ m := by omega
          have hX0 : ((XS.size : Int) == 0) = false := beq_false_of_ne (by omega)
          have hX1 : ¬ (S.size : Int) - (XS.size : Int) < (p : Int) := by omega
          have hX2 : ¬ (p : Int) < (en : Int) := by omega
          have hX1d : decide ((S.size : Int) - (XS.size : Int) < (p : Int)) = false := decide_eq_false hX1
          have hX2d : decide ((p : Int) < (en : Int)) = false := decide_eq_false hX2
          have hX2n : decide (p < en) = false := decide_eq_false (by omega)
          have HN0 := Lib.hid hn0
          have HMN := Lib.hid hm
          clear hm hXM HXZ hn0
          have hb6 := (Below.refl wr.heap.size wr).alloc (Nat.le_refl _) (.cells #[.int .i64 tk, .string TT, .int .i64 (p : Int)] 29)
          have HB6 := Lib.hid (HBI.out.trans (hb6.mono HBI.out.size))
          have HT6 := Lib.hid (Trio.new wr 29 (.int .i64 tk) (.string TT) (.int .i64 (p : Int)))
          clear hb6
          go_upto_region 14 with fail
          obtain ⟨w6, hw6⟩ : ∃ w6, wr.alloc (.cells #[.int .i64 tk, .string TT, .int .i64 (p : Int)] 29) = w6 := ⟨_, rfl⟩
          rw [hw6] at HB6 HT6 ⊢
          clear hw6
          generalize wr.heap.size = UT at *
          clear g0 g1 g2 d0 d1
          have t0 := HT6.out.c0
          have t1 := HT6.out.c1
          have t2 := HT6.out.c2
          go_wp2_with fail
          refine (HTK0.out _).mono ?_
          rintro e w7 ⟨rfl, hb7⟩
          have HB7 := Lib.hid (HB6.out.trans (hb7.mono HB6.out.size))
          have HT7 := Lib.hid (HT6.out.below hb7 HT6.out.lt)
          clear hb7 t0 t1 t2
          have HS7 := Lib.hid (HSP0.out w7 (HV.out.below (HB4.out.trans (HB7.out.mono HB4.out.size))))
          go_wp2_with fail
          refine HS7.out.mono ?_
          rintro e w8 ⟨rfl, hb8⟩
          have HB8 := Lib.hid (HB7.out.trans (hb8.mono HB7.out.size))
          have HT8 := Lib.hid (HT7.out.below hb8 HT7.out.lt)
          clear hb8 HS7
          have t0 := HT8.out.c0
          have t1 := HT8.out.c1
          have t2 := HT8.out.c2
          have K0 := fun d os => cell_regrown t0 d os
          have K1 := fun d os => cell_regrown t1 d os
          have K2 := fun d os => cell_regrown t2 d os
          have HV8 := Lib.hid (HV.out.below (HB4.out.trans (HB8.out.mono HB4.out.size)))
          have HVR := Lib.hid (fun d os => HVR0.out (grow (redrawn w8 d) os))
          have HTK := Lib.hid (fun d os => HTK0.out (grow (redrawn w8 d) os))
          have HVL := Lib.hid (fun d os => HVL0.out (grow (redrawn w8 d) os) (HV8.out.below (below_regrown w8 d os)))
          have HSPL := Lib.hid (fun d os => HSP0.out (grow (redrawn w8 d) os) (HV8.out.below (below_regrown w8 d os)))
          have HBLK := Lib.hid (fun d os => (HBK.out (grow (redrawn w8 d) os)).mono fun e w' (h : e = .returned (.bool true) ∧ grow (redrawn w8 d) os = w') => (⟨h.1, h.2 ▸ Below.self _⟩ : e = .returned (.bool true) ∧ Below (grow (redrawn w8 d) os).heap.size (grow (redrawn w8 d) os) w'))
          have hcmp2 : (XS.toList != XS.toList) = false := by simp
          go_upto_region 15 with fail
          refine wp_region_quiet_below (by kernel_rfl) (by kernel_rfl) ?_
          repeat (go_big_quiet_step ((first | (go_at_call 14; with_reducible exact Calls.regrown_of (HVR.out _ _)) | (go_at_call 13; with_reducible exact Calls.regrown_of (HTK.out _ _)) | (go_at_call 12; with_reducible exact Calls.regrown_of (HVL.out _ _)) | (go_at_call 15; with_reducible exact Calls.regrown_of (HSPL.out _ _)) | (go_at_call 24; with_reducible exact Calls.regrown_of (HBLK.out _ _)))))
          refine wpQuiet_nil ?_
          intro _ hw'
          obtain ⟨⟨dq, osq⟩, hw''⟩ := hw'
          subst hw''
          have HBQ : Hid (Below w8.heap.size w8 (grow (redrawn w8 dq) osq)) := below_regrown w8 dq osq
          generalize grow (redrawn w8 dq) osq = WQ at *
          have HBX : Hid (Below w4.heap.size w4 WQ) := HB8.out.trans (HBQ.out.mono HB8.out.size)
          have HTQ := Lib.hid (HT8.out.below HBQ.out HT8.out.lt)
          clear K0 K1 K2 t0 t1 t2 HVR HTK HVL HSPL HBLK
          have t2 := HTQ.out.c2
          go_wp2
          go_roundw
          case rel => exact ⟨m, i + 1, by rw [← hmn], by go_num, by omega, hpS, HBX.out, HNX.out⟩
          case measure => simp [intOf]; omega
        · obtain rfl : i = q := by omega
          have hy := HI.out.2
          rw [show ts.drop i = [] from List.drop_eq_nil_of_le (by rw [HQ.out]; exact Nat.le_refl _)] at hy
          have hBK := fun w => blank_any (s.drop en) (by rw [List.length_drop]; have := HZ2.out; omega) w
          rw [cov_end hy, decide_eq_true rfl] at hBK
          have HBK := Lib.hid hBK
          have hcut := HCUT.out en S.size
          rw [List.take_of_length_le (by rw [List.length_drop, HZ.out]; omega)] at hcut
          obtain ⟨BS, hBS⟩ : ∃ BS, bsOf (s.drop en) = BS := ⟨_, rfl⟩
          rw [hBS] at HBK hcut
          clear hBS hy hBK HI hlt
          go_wp2_with (go_at_call 24; ((with_reducible refine (HBK.out _).mono ?_); rintro e w' ⟨rfl, rfl⟩))
          go_ret
          exact ⟨rfl, HB4.out.trans (HBI.out.mono HB4.out.size)⟩
  · rw [decide_eq_false h2]
    clear h2
    go_wp2
    go_ret
    exact ⟨rfl, HB1.out⟩

end Go.Proofs.Ytpmciakmmchndaa.lexerCovers
