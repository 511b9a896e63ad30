/-
  The tokens of a source.
-/
import Derived.Test.YtohobiglnebocaaLxRow
namespace Go.Proofs.Ytohobiglnebocaa.Lx
open Go Go.RowKit Go.Shelf Go.Sort Go.ChangeShapes Go.WideShapes Go.ChangeAt
open Go.Proofs.Ytohobiglnebocaa

def comb (acc : List Tk) (r : List Tk × Nat × Bool) : List Tk × Nat × Bool := if r.2.2 then (acc ++ r.1, 0, true) else ([], r.2.1, false)
theorem lx_form : ∀ (f : Nat) (l : List UInt8) (o : Nat), comb [] (lxF f l o) = lxF f l o
  | 0, _, _ => rfl
  | f + 1, l, o => by
    unfold lxF
    split
    · rfl
    · split
      · split <;> rfl
      · rfl
theorem lx_end (f o : Nat) : lxF (f + 1) [] o = ([], 0, true) := by unfold lxF; rw [if_pos rfl]
theorem lx_bad {l : List UInt8} (f o : Nat) (hl : l ≠ []) (h : okR l = false) : lxF (f + 1) l o = ([], o, false) := by unfold lxF; rw [if_neg hl, if_neg (by rw [h]; decide)]
theorem lx_good {l : List UInt8} (f o : Nat) (acc : List Tk) (hl : l ≠ []) (h : okR l = true) :
    comb acc (lxF (f + 1) l o) = comb (acc ++ [⟨(tkR l).1, (tkR l).2.1, o⟩]) (lxF f ((l.drop (tkR l).2.2).drop (ws (l.drop (tkR l).2.2))) (o + (tkR l).2.2 + ws (l.drop (tkR l).2.2))) := by
  rw [lxF, if_neg hl, if_pos h]
  generalize lxF f ((l.drop (tkR l).2.2).drop (ws (l.drop (tkR l).2.2))) (o + (tkR l).2.2 + ws (l.drop (tkR l).2.2)) = r
  unfold comb
  cases h2 : r.2.2 <;> simp
theorem ok_iff {l : List UInt8} {k : Int} {t : List UInt8} {n : Nat} (h : tkR l = (k, t, n)) : okR l = decide (spl k t = l.take n) := by unfold okR; rw [h]
theorem rdT_small (l : List UInt8) : (rdT l).1.length ≤ l.length := by have := rdT_le l; omega
theorem tk_small {l : List UInt8} (_ : l ≠ []) : (tkR l).2.1.length ≤ l.length := by
  rcases kd_cases (hd l) with hk | hk | hk | hk
  · rw [tk_word hk]; exact List.length_take_le' _ _
  · rw [tk_num hk]; exact List.length_take_le' _ _
  · rw [tk_text hk]
    have := rdT_small (l.drop 1)
    rw [List.length_drop] at this
    show (rdT (l.drop 1)).1.length ≤ _; omega
  · rw [tk_sign hk]; exact List.length_take_le' _ _

def LexPost (r : List Tk × Nat × Int) (W : World) (e : Ending) (V : World) : Prop :=
  ∃ a c, e = .returned (.tuple #[.slice a r.1.length c, .int .i64 (r.2.1 : Int), .int .i64 r.2.2]) ∧ RdK V a r.1.length c r.1 ∧ Below W.heap.size W V ∧ r.1.length ≤ 20000
theorem lex_big {s : List UInt8} (h : 20000 < s.length) : lexS s = ([], 0, 2) := by unfold lexS; rw [if_pos h]
theorem lex_no {s : List UInt8} {k : Nat} (h : ¬ 20000 < s.length) (h2 : lxS s = ([], k, false)) : lexS s = ([], k, 5) := by unfold lexS; rw [if_neg h, h2]; rfl
theorem lex_yes {s : List UInt8} {acc : List Tk} (h : ¬ 20000 < s.length) (h2 : lxS s = (acc, 0, true)) : lexS s = (acc, 0, 0) := by unfold lexS; rw [if_neg h, h2]; rfl

set_option maxRecDepth 100000 in
set_option maxHeartbeats 4000000 in
theorem lex_any (s : List UInt8) (hsm : s.length ≤ 9223372036854775807) (w : World) (hV : Vars w) : Calls Try.prog 28 #[.string (bsOf s)] w (LexPost (lexS s) w) := by
  obtain ⟨i0, hi, hz0, hz1, hz2⟩ := info_K
  have hz := bs_size s
  by_cases hbig : 20000 < s.length
  · have HE := Lib.hid (lex_big hbig)
    have h1 : 20000 < (bsOf s).size := by omega
    clear hz hbig
    obtain ⟨r, hr⟩ : ∃ r, lexS s = r := ⟨_, rfl⟩
    rw [hr] at HE ⊢
    clear hr
    generalize bsOf s = S at *
    go_enter Try.func28, Try.ntmps28
    go_wp2
    go_ret3
    exact ⟨none, 0, by rw [HE.out]; rfl, by rw [HE.out]; exact RdK.empty (by decide), Below.self _, by rw [HE.out]; decide⟩
  · have hs : s.length ≤ 20000 := Nat.not_lt.1 hbig
    have HBG := Lib.hid hbig
    have HS1 : Hid (s.length ≤ 1048576) := Nat.le_trans hs (by decide)
    have HZ := Lib.hid hz
    have h1 : ¬ 20000 < (bsOf s).size := by omega
    have h2 : (bsOf s).size ≤ 20000 := by omega
    have hb0 := (Below.refl w.heap.size w).alloc (Nat.le_refl _) (.cells #[.string (bsOf s), .int .i64 0] 64)
    have ht0 : Two (w.alloc (.cells #[.string (bsOf s), .int .i64 0] 64)) w.heap.size (bsOf s) 0 := Two.new w (bsOf s) 0
    have HC0 := Lib.hid (skipSpace_any ht0 (Nat.zero_le _) HS1.out)
    rw [List.drop_zero, Nat.zero_add] at HC0
    have HB0 := Lib.hid hb0
    have HT0 := Lib.hid ht0
    have HWL := Lib.hid (ws_le false s)
    have HV := Lib.hid hV
    clear hb0 ht0 hz hbig hs hV
    obtain ⟨V0, hV0⟩ : ∃ V0, w.alloc (.cells #[.string (bsOf s), .int .i64 0] 64) = V0 := ⟨_, rfl⟩
    rw [hV0] at HB0 HT0 HC0
    obtain ⟨B, hB⟩ : ∃ B, w.heap.size = B := ⟨_, rfl⟩
    rw [hB] at HT0 HC0
    have HBB := Lib.hid hB
    obtain ⟨r, hr⟩ : ∃ r, lexS s = r := ⟨_, rfl⟩
    have HR := Lib.hid hr
    rw [hr]
    clear hr
    obtain ⟨S, hS⟩ : ∃ S, bsOf s = S := ⟨_, rfl⟩
    have HSS := Lib.hid hS
    rw [hS] at HZ HT0 HC0 hV0 h1 h2 ⊢
    clear hS
    go_enter Try.func28, Try.ntmps28
    go_wp2_with fail
    clear hV0 hB
    refine HC0.out.mono ?_
    rintro e w1 ⟨rfl, ht1, hk1⟩
    have HT1 := Lib.hid ht1
    have hB1 : Below w.heap.size w w1 := HB0.out.trans (hk1.below (fun k hk => by have := HBB.out; omega) HB0.out.size)
    have HB1 := Lib.hid hB1
    clear ht1 hk1 HC0 hB1
    go_wp2
    go_loopw [5] (fun v wr => ∃ (k : Nat) (acc : List Tk) (f : Nat), Hid (Two wr B S k ∧ k ≤ S.size ∧ wr.ownsRow (B + 1) 27 3 v acc.length (cellsK acc) ∧ acc.length ≤ k ∧ s.length - k < f ∧ comb acc (lxF f (s.drop k) k) = lxS s ∧ Below w.heap.size w wr)) (fun _ wr => S.size - (intOf ((wr.cell? ⟨B, 1, none⟩).getD undef)).toNat)
    case atStart => exact ⟨ws s, [], s.length + 1, HT1.out, by rw [HZ.out]; exact HWL.out, ⟨rfl, .inl ⟨rfl, rfl⟩⟩, Nat.zero_le _, by omega, lx_form _ _ _, HB1.out⟩
    case round =>
      obtain ⟨k, acc, f, HI⟩ := hrel
      have hk := HI.out.2.1
      have c1 := HI.out.1.c1
      by_cases hlt : k < S.size
      · have HLT : Hid (k < s.length) := by show _ < _; rw [← HZ.out]; exact hlt
        have HNE : Hid (s.drop k ≠ []) := fun e => by have := congrArg List.length e; rw [List.length_drop] at this; have h3 := HLT.out; simp at this; omega
        obtain ⟨g, rfl⟩ : ∃ g, f = g + 1 := ⟨f - 1, by have := HI.out.2.2.2.2.1; omega⟩
        have HC := Lib.hid (token_any (s := s) (a := k) (B := B) (w := wr) (by rw [HSS.out]; exact HI.out.1) HLT.out HS1.out)
        rw [HSS.out] at HC
        have HTL := Lib.hid (tk_le HNE.out)
        have HTP := Lib.hid (tk_pos HNE.out)
        have HTS := Lib.hid (tk_small HNE.out)
        have HG := Lib.hid (lx_good g k acc HNE.out)
        have HBD := Lib.hid (lx_bad g k HNE.out)
        obtain ⟨T, hT⟩ : ∃ T, tkR (s.drop k) = T := ⟨_, rfl⟩
        obtain ⟨tk, tt, tn⟩ := T
        have HOK := Lib.hid (ok_iff hT)
        rw [hT] at HC HTL HTP HTS HG
        clear hT
        simp only at HC HTL HTP HTS HG
        unfold encK at HC
        go_wp2_with fail
        refine HC.out.mono ?_
        rintro e w3 ⟨rfl, ht3, hk3⟩
        have hB3 : Below w.heap.size w w3 := HI.out.2.2.2.2.2.2.trans (hk3.below (fun k hk => by have := HBB.out; omega) HI.out.2.2.2.2.2.2.size)
        have hX3 := row_kept HI.out.2.2.1 hk3 (Nat.lt_succ_self _)
        have hb4 := (Below.refl w3.heap.size w3).alloc (Nat.le_refl _) (.cells #[.int .i64 tk, .string (bsOf tt), .int .i64 (k : Int)] 27)
        have HB4 := Lib.hid (hB3.trans (hb4.mono hB3.size))
        have HT4 := Lib.hid (ht3.below hb4 ht3.lt)
        have HX4 := Lib.hid (row_below hX3 hb4)
        have HU4 := Lib.hid (Trio.new w3 27 (.int .i64 tk) (.string (bsOf tt)) (.int .i64 (k : Int)))
        clear ht3 hk3 HC hB3 hX3 hb4 c1
        go_upto_region 9 with fail
        obtain ⟨w4, hw4⟩ : ∃ w4, w3.alloc (.cells #[.int .i64 tk, .string (bsOf tt), .int .i64 (k : Int)] 27) = w4 := ⟨_, rfl⟩
        rw [hw4] at HB4 HT4 HX4 HU4 ⊢
        clear hw4
        generalize w3.heap.size = U at *
        have c0 := HT4.out.c0
        have c1 := HT4.out.c1
        have d0 := HU4.out.c0
        have d1 := HU4.out.c1
        have d2 := HU4.out.c2
        have K0 := fun d os => cell_regrown c0 d os
        have K1 := fun d os => cell_regrown c1 d os
        have K2 := fun d os => cell_regrown d0 d os
        have K3 := fun d os => cell_regrown d1 d os
        have K4 := fun d os => cell_regrown d2 d os
        have HSP : Hid (∀ d os, Calls Try.prog 9 #[.agg #[.int .i64 tk, .string (bsOf tt), .int .i64 (k : Int)]] (grow (redrawn w4 d) os) fun e w' => e = .returned (.string (bsOf (spl tk tt))) ∧ Below (grow (redrawn w4 d) os).heap.size (grow (redrawn w4 d) os) w') := fun d os =>
          spell_any tk k tt (by have h3 := HTS.out; rw [List.length_drop] at h3; have h4 := HS1.out; omega) _ ((HV.out.below HB4.out).below (below_regrown w4 d os))
        have hcut := bs_cut s k (k + tn)
        rw [HSS.out, Nat.add_sub_cancel_left] at hcut
        obtain ⟨b, hb⟩ : ∃ b, k + tn = b := ⟨_, rfl⟩
        have HBK := Lib.hid hb
        rw [hb] at hcut c1 K1 HT4
        have hkb : k ≤ b := by omega
        have hbs : b ≤ S.size := by have h3 := HTL.out; rw [List.length_drop] at h3; have h4 := HZ.out; have h5 := HLT.out; omega
        have hlk : k < b := by have h3 := HTP.out; omega
        clear hb
        have hcmp : ((bsOf (spl tk tt)).toList == (bsOf ((s.drop k).take tn)).toList) = okR (s.drop k) := by rw [HOK.out, bs_list, bs_list]; exact Bool.beq_eq_decide_eq _ _
        have hcmp2 : ((bsOf (spl tk tt)).toList != (bsOf ((s.drop k).take tn)).toList) = !okR (s.drop k) := by unfold bne; rw [hcmp]
        generalize bsOf (spl tk tt) = XS at *
        obtain ⟨XT, hXT⟩ : ∃ XT, bsOf ((s.drop k).take tn) = XT := ⟨_, rfl⟩
        rw [hXT] at hcut hcmp hcmp2
        clear hXT
        cases hok : okR (s.drop k)
        · have HE := Lib.hid (HBD.out hok)
          rw [hok] at hcmp hcmp2
          clear hok
          refine wp_region_quiet_below (by kernel_rfl) (by kernel_rfl) ?_
          repeat (go_big_quiet_step (((go_at_call 9; with_reducible exact Calls.regrown_of (HSP.out _ _)))))
          refine wpQuiet_nil ?_
          intro _ hw'
          obtain ⟨⟨dq, osq⟩, hw''⟩ := hw'
          subst hw''
          have HBQ : Hid (Below w4.heap.size w4 (grow (redrawn w4 dq) osq)) := below_regrown w4 dq osq
          generalize grow (redrawn w4 dq) osq = WQ at *
          have HBX : Hid (Below w.heap.size w WQ) := HB4.out.trans (HBQ.out.mono HB4.out.size)
          have hu := HU4.out.below HBQ.out HU4.out.lt
          clear K0 K1 K2 K3 K4 c0 c1 d0 d1 d2 HSP hcut hcmp hcmp2
          have d2 := hu.c2
          have K4 := fun d os => cell_regrown d2 d os
          clear hu
          have HRE : Hid (r = ([], k, 5)) := HR.out.symm.trans (lex_no HBG.out (by rw [← HI.out.2.2.2.2.2.1, HE.out]; rfl))
          go_upto_region 10 with fail
          refine wp_region_quiet_below (by kernel_rfl) (by kernel_rfl) ?_
          repeat (go_big_quiet_step (fail))
          refine wpQuiet_nil ?_
          intro _ hw'
          obtain ⟨⟨dq, osq⟩, hw''⟩ := hw'
          subst hw''
          have HBQ : Hid (Below WQ.heap.size WQ (grow (redrawn WQ dq) osq)) := below_regrown WQ dq osq
          generalize grow (redrawn WQ dq) osq = WP at *
          have HBP : Hid (Below w.heap.size w WP) := HBX.out.trans (HBQ.out.mono HBX.out.size)
          clear d2 K4
          go_wp2
          go_ret3
          exact ⟨none, 0, by rw [HRE.out]; rfl, by rw [HRE.out]; exact RdK.empty (by decide), HBP.out, by rw [HRE.out]; exact Nat.zero_le _⟩
        · have HE := Lib.hid (HG.out hok)
          rw [hok] at hcmp hcmp2
          clear hok
          refine wp_region_quiet_below (by kernel_rfl) (by kernel_rfl) ?_
          repeat (go_big_quiet_step (((go_at_call 9; with_reducible exact Calls.regrown_of (HSP.out _ _)))))
          refine wpQuiet_nil ?_
          intro _ hw'
          obtain ⟨⟨dq, osq⟩, hw''⟩ := hw'
          subst hw''
          have HBQ : Hid (Below w4.heap.size w4 (grow (redrawn w4 dq) osq)) := below_regrown w4 dq osq
          generalize grow (redrawn w4 dq) osq = WQ at *
          have HBX : Hid (Below w.heap.size w WQ) := HB4.out.trans (HBQ.out.mono HB4.out.size)
          have HTX : Hid (Two WQ B S b) := HT4.out.below HBQ.out HT4.out.lt
          have HXX : Hid (WQ.ownsRow (B + 1) 27 3 u5 acc.length (cellsK acc)) := row_below HX4.out HBQ.out
          have hu := HU4.out.below HBQ.out HU4.out.lt
          clear K0 K1 K2 K3 K4 c0 c1 d0 d1 d2 HSP hcut hcmp hcmp2
          have d0 := hu.c0
          have d1 := hu.c1
          have d2 := hu.c2
          clear hu
          have hal : acc.length ≤ 20000 := by have := HI.out.2.2.2.1; omega
          have HBS : Hid (B < WQ.heap.size) := HTX.out.lt
          obtain ⟨v5, w5, hr5, hX5, hB5, hG5⟩ := append_tok (P := Try.prog) WQ (B + 1) 46 46 27 27 i0 _ Try.underlying46 hi hz0 hz1 hz2 rfl u5 acc.length acc HXX.out ⟨tk, tt, (k : Int)⟩ (by omega) (by have := HBS.out; omega)
          have HT5 := Lib.hid (two_grown HTX.out ((Below.refl _ _).alloc (Nat.le_refl _) _) hG5 (fun e => by have := own_base HXX.out B e.symm; omega))
          have HB5 : Hid (Below w.heap.size w w5) := HBX.out.trans (hB5.mono (by have := HBB.out; omega))
          have HX5 : Hid (w5.ownsRow (B + 1) 27 3 v5 (acc ++ [(⟨tk, tt, (k : Int)⟩ : Tk)]).length (cellsK (acc ++ [⟨tk, tt, (k : Int)⟩]))) := by
            rw [List.length_append]; exact hX5
          have HR5 := Lib.hid hr5
          clear hr5 hX5 hB5 hG5
          have HC7 := Lib.hid (skipSpace_any (s := s) (a := b) (B := B) (w := w5) (by rw [HSS.out]; exact HT5.out) (by rw [← HZ.out]; exact hbs) HS1.out)
          have HWB := Lib.hid (ws_le false (s.drop b))
          rw [HSS.out] at HC7
          go_wp2_with (at_builtin; refine wpList_append_want (o := ⟨some 43, _, _, _, _, _⟩) _ rfl _ _ _ _ rfl _ _ rfl rfl _ _ HR5.out ?_)
          refine HC7.out.mono ?_
          rintro e w6 ⟨rfl, ht6, hk6⟩
          have HT6 := Lib.hid ht6
          have HX6 := Lib.hid (row_kept HX5.out hk6 (Nat.lt_succ_self _))
          have HB6 : Hid (Below w.heap.size w w6) := HB5.out.trans (hk6.below (fun k hk => by have := HBB.out; omega) HB5.out.size)
          clear ht6 hk6 HC7 d0 d1 d2
          go_wp2
          go_roundw
          case rel =>
            refine ⟨b + ws (s.drop b), acc ++ [⟨tk, tt, (k : Int)⟩], g, HT6.out, ?_, HX6.out, ?_, ?_, ?_, HB6.out⟩
            · have h3 := HWB.out; have h4 := HZ.out; rw [List.length_drop] at h3; show b + wsN false _ ≤ _; omega
            · rw [List.length_append]; have h3 := HI.out.2.2.2.1; show acc.length + 1 ≤ _; omega
            · have h3 := HI.out.2.2.2.2.1; have h4 := HLT.out; omega
            · have h3 := HE.out
              have h4 := HBK.out
              have e1 : (s.drop k).drop tn = s.drop b := by rw [List.drop_drop, h4]
              rw [e1, h4, List.drop_drop] at h3
              rw [← HI.out.2.2.2.2.2.1, h3]
          case measure =>
            rw [HT6.out.c1, HI.out.1.c1]
            have h3 := HWB.out; have h4 := HZ.out
            rw [List.length_drop] at h3
            simp [intOf]; omega
      · obtain ⟨g, rfl⟩ : ∃ g, f = g + 1 := ⟨f - 1, by have := HI.out.2.2.2.2.1; omega⟩
        have HE : Hid (r = (acc, 0, 0)) := HR.out.symm.trans (lex_yes HBG.out (by
          rw [← HI.out.2.2.2.2.2.1, List.drop_eq_nil_of_le (by have := HZ.out; omega), lx_end]
          unfold comb
          simp))
        have hal : acc.length ≤ 20000 := by have := HI.out.2.2.2.1; omega
        obtain ⟨a3, c3, rfl, hr3⟩ := RdK.of_row HI.out.2.2.1 (by omega)
        have HR3 := Lib.hid hr3
        clear hr3
        go_wp2
        go_ret3
        exact ⟨a3, c3, by rw [HE.out]; rfl, by rw [HE.out]; exact HR3.out, HI.out.2.2.2.2.2.2, by rw [HE.out]; exact hal⟩

end Go.Proofs.Ytohobiglnebocaa.Lx
