/-
  The reference's tokens of a source.
-/
import Derived.Test.YtohobiglnebocaaLxRefF
import Derived.Test.YtohobiglnebocaaLxLawEr
namespace Go.Proofs.Ytohobiglnebocaa.Lx
open Go Go.RowKit Go.Shelf Go.Sort Go.ChangeShapes Go.WideShapes Go.ChangeAt
open Go.Proofs.Ytohobiglnebocaa

theorem Trio.set0 {W : World} {B : Nat} {t : TypeId} {a b c : Value} (h : Trio W B t a b c) (a' : Value) : Trio (W.setCell ⟨B, 0, none⟩ a') B t a' b c := by
  have h : W.heap[B]? = _ := h
  show (W.setCell ⟨B, 0, none⟩ a').heap[B]? = _
  simp [World.setCell, Array.getElem?_modify, h]
theorem Trio.far {W : World} {B N : Nat} {t : TypeId} {a b c : Value} (h : Trio W B t a b c) (o : Nat) (v : Value) (hn : B ≠ N) : Trio (W.setCell ⟨N, o, none⟩ v) B t a b c :=
  ((kept_set W N o v).block B h.lt hn).trans h
theorem Trio.grown {A A' C : World} {B : Nat} {t : TypeId} {a b c : Value} {r : Option Nat} (h : Trio A B t a b c) (ha : Below A.heap.size A A') (hg : A'.grownBy C r) (hr : some B ≠ r) : Trio C B t a b c :=
  ((hg.block B (Nat.lt_of_lt_of_le h.lt ha.size) hr).trans (ha.block B h.lt)).trans h

theorem three_below {n B : Nat} (W : World) (h : n ≤ B) (a b c : Value) : Below n W (((W.setCell ⟨B, 0, none⟩ a).setCell ⟨B, 1, none⟩ b).setCell ⟨B, 2, none⟩ c) :=
  (((Below.refl n W).setCell h _).setCell h _).setCell h _

theorem own_top {A : World} {base : Nat} {e : TypeId} {size : Nat} {v : Value} {n : Nat} {xs : List Value} (h : A.ownsRow base e size v n xs) : ∀ k, v.ownBlock = some k → k < A.heap.size := by
  intro k hk
  rcases h.2 with ⟨rfl, _⟩ | ⟨g, cap, cur, rfl, hb, hg, _⟩
  · cases hk
  · cases hk; exact (Array.getElem?_eq_some_iff.1 hg).1
theorem Five.grown {A A' C : World} {B : Nat} {t : TypeId} {a b c d e : Value} {r : Option Nat} (h : Five A B t a b c d e) (ha : Below A.heap.size A A') (hg : A'.grownBy C r) (hr : some B ≠ r) : Five C B t a b c d e :=
  ((hg.block B (Nat.lt_of_lt_of_le h.lt ha.size) hr).trans (ha.block B h.lt)).trans h
theorem lexS_bad {s : List UInt8} (h : s.length ≤ 20000) {p : Nat} (h2 : lxY s 0 = ([], p, false)) : lexS s = ([], p, 5) := by
  unfold lexS
  rw [if_neg (by omega), lxS_eq, h2]; rfl
theorem lexS_good {s : List UInt8} (h : s.length ≤ 20000) {ts : List Tk} (h2 : lxY s 0 = (ts, 0, true)) : lexS s = (ts, 0, 0) := by
  unfold lexS
  rw [if_neg (by omega), lxS_eq, h2]; rfl

set_option maxRecDepth 100000 in
set_option maxHeartbeats 8000000 in
theorem lexIn_any (s : List UInt8) (hs : s.length ≤ 1048576) (w : World) : Calls Try.prog 13 #[.string (bsOf s)] w (LexedPost (lexS s) w) := by
  have hz := bs_size s
  have hb0 := (Below.refl w.heap.size w).alloc (Nat.le_refl _) (.cells #[.slice none 0 0, .int .i64 0, .int .i64 0] 37)
  by_cases hbig : 20000 < s.length
  · have HE := Lib.hid (lex_big hbig)
    have h1 : 20000 < (bsOf s).size := by omega
    have h3 : (bsOf s).size ≤ 1048576 := by omega
    have HB0 := Lib.hid hb0
    clear hz hbig hb0
    obtain ⟨r, hr⟩ : ∃ r, lexS s = r := ⟨_, rfl⟩
    rw [hr] at HE ⊢
    clear hr hs
    generalize bsOf s = S at *
    go_enter Try.func13, Try.ntmps13
    go_wp2
    exact bodyPost_ret (v := .agg #[.slice none 0 0, .int .i64 0, .int .i64 2]) (by simp [results, Try.results13, go_sem]) rfl
      ⟨none, 0, by rw [HE.out]; rfl, by rw [HE.out]; exact RdK.empty (by decide), (Below.refl w.heap.size w).alloc (Nat.le_refl _) _, by rw [HE.out]; decide⟩
  · obtain ⟨i0, hi, hz0, hz1, hz2⟩ := info_R
    have hs2 : s.length ≤ 20000 := Nat.not_lt.1 hbig
    have HS2 := Lib.hid hs2
    have HZ := Lib.hid hz
    have h1 : ¬ 20000 < (bsOf s).size := by omega
    have h2 : (bsOf s).size ≤ 20000 := by omega
    have HNX := Lib.hid (fun (k : Nat) (hk : k < s.length) => nextR_any s k hs hk)
    have HSK := Lib.hid (fun (k : Nat) (hk : k ≤ s.length) => skipR_any s k hs hk)
    have HBAD := Lib.hid (fun p h => @lexS_bad s hs2 p h)
    have HGOOD := Lib.hid (fun ts h => @lexS_good s hs2 ts h)
    have HSK0 := Lib.hid (skipR_any s 0 hs (Nat.zero_le _))
    rw [List.drop_zero, Nat.zero_add] at HSK0
    have HW0 : Hid (ws s ≤ s.length) := ws_le false s
    have hb1 := hb0.alloc (by simp) (.cells #[.slice none 0 0, .int .i64 0, .int .i64 0] 37)
    have HB1 := Lib.hid hb1
    have HR1 := Lib.hid ((Trio.new w 37 (.slice none 0 0) (.int .i64 0) (.int .i64 0)).below ((Below.refl _ _).alloc (Nat.le_refl _) (.cells #[.slice none 0 0, .int .i64 0, .int .i64 0] 37)) (by simp))
    have hO := Trio.new (w.alloc (.cells #[.slice none 0 0, .int .i64 0, .int .i64 0] 37)) 37 (.slice none 0 0) (.int .i64 0) (.int .i64 0)
    rw [World.size_alloc] at hO
    have HO1 := Lib.hid hO
    clear hb0 hb1 hO hz hbig hs2
    obtain ⟨r, hr⟩ : ∃ r, lexS s = r := ⟨_, rfl⟩
    rw [hr] at HBAD HGOOD ⊢
    clear hr
    obtain ⟨S, hS⟩ : ∃ S, bsOf s = S := ⟨_, rfl⟩
    rw [hS] at HZ h1 h2 HNX HSK HSK0 ⊢
    clear hS hs
    obtain ⟨N, hN⟩ : ∃ N, w.heap.size = N := ⟨_, rfl⟩
    have HN := Lib.hid hN
    go_enter Try.func13, Try.ntmps13
    go_upto_region 4 with fail
    obtain ⟨w1, hw1⟩ : ∃ w1, (w.alloc (.cells #[.slice none 0 0, .int .i64 0, .int .i64 0] 37)).alloc (.cells #[.slice none 0 0, .int .i64 0, .int .i64 0] 37) = w1 := ⟨_, rfl⟩
    rw [hw1] at HB1 HR1 HO1 ⊢
    clear hw1
    rw [hN] at HR1 HO1
    clear hN
    have HB1 : Hid (Below N w w1) := by rw [← HN.out]; exact HB1
    have HN1 : Hid (N + 1 < w1.heap.size) := HO1.out.lt
    rw [show ((0 : Nat) : Int) = 0 from rfl] at HSK0
    go_wp2_with fail
    refine (HSK0.out _).mono ?_
    rintro e w' ⟨rfl, rfl⟩
    go_wp2
    go_loopw [4] (fun av wr => ∃ (k : Nat) (acc : List Tk) (v : Value), av = .int .i64 (k : Int) ∧ k ≤ S.size ∧ Hid (Trio wr N 37 (.slice none 0 0) (.int .i64 0) (.int .i64 0) ∧ Trio wr (N + 1) 37 v (.int .i64 0) (.int .i64 0) ∧ wr.ownsRow (N + 2) 29 3 v acc.length (cellsK acc) ∧ acc.length ≤ k ∧ comb acc (lxX (s.drop k) k) = lxY s 0 ∧ Below N w wr)) (fun av _ => S.size - (intOf av).toNat)
    case atStart => exact ⟨ws s, [], .slice none 0 0, rfl, by rw [HZ.out]; exact HW0.out, HR1.out, HO1.out, ⟨rfl, .inl ⟨rfl, rfl⟩⟩, Nat.zero_le _, by
      show comb [] (lxX (s.drop (ws s)) (ws s)) = lxX (s.drop (ws s)) (0 + ws s)
      rw [Nat.zero_add]
      exact lx_form _ _ _, HB1.out⟩
    case round =>
      obtain ⟨k, acc, v, rfl, hk, HI⟩ := hrel
      by_cases hlt : k < S.size
      · have HKL : Hid (k < s.length) := by show _ < _; rw [← HZ.out]; exact hlt
        have HC := Lib.hid (HNX.out k HKL.out)
        have HNE : Hid (s.drop k ≠ []) := fun e => by have := congrArg List.length e; rw [List.length_drop] at this; have h3 := HKL.out; simp at this; omega
        have HTP := Lib.hid (tk_pos HNE.out)
        have HTL := Lib.hid (tk_le HNE.out)
        go_wp2_with fail
        refine (HC.out _).mono ?_
        rintro e w2 ⟨fk, fS, ft, fn, fb, rfl, hb2, hok, himp⟩
        have HOK := Lib.hid hok
        have HIM := Lib.hid himp
        have hb3 := (Below.refl w2.heap.size w2).alloc (Nat.le_refl _) (.cells #[.int .i64 fk, .string fS, .int .i64 ft, .int .i64 fn, .bool fb] 52)
        have HF3 := Lib.hid (Five.new w2 52 (.int .i64 fk) (.string fS) (.int .i64 ft) (.int .i64 fn) (.bool fb))
        have hbb := hb2.trans (hb3.mono hb2.size)
        have HR3 := Lib.hid (HI.out.1.below hbb HI.out.1.lt)
        have HO3 := Lib.hid (HI.out.2.1.below hbb HI.out.2.1.lt)
        have HX3 := Lib.hid (row_below HI.out.2.2.1 hbb)
        have HB3 := Lib.hid (HI.out.2.2.2.2.2.trans (hbb.mono (Nat.le_trans (by have := HI.out.1.lt; omega) (Nat.le_refl _))))
        have HLT3 : Hid (N + 1 < w2.heap.size) := Nat.lt_of_lt_of_le HI.out.2.1.lt hb2.size
        have HUW : Hid (wr.heap.size ≤ w2.heap.size) := hb2.size
        clear hb2 hok himp hb3 hbb HC
        go_upto_region 7 with fail
        obtain ⟨w3, hw3⟩ : ∃ w3, w2.alloc (.cells #[.int .i64 fk, .string fS, .int .i64 ft, .int .i64 fn, .bool fb] 52) = w3 := ⟨_, rfl⟩
        rw [hw3] at HF3 HR3 HO3 HX3 HB3 ⊢
        clear hw3
        generalize w2.heap.size = U at *
        have f0 := HF3.out.c0
        have f1 := HF3.out.c1
        have f2 := HF3.out.c2
        have f3 := HF3.out.c3
        have f4 := HF3.out.c4
        cases fb
        · have HRE : Hid (r = ([], k, 5)) := (HBAD.out k (by rw [← HI.out.2.2.2.2.1, x_bad k HNE.out HOK.out.symm]; rfl))
          have r0 := HR3.out.c0
          have r1 := HR3.out.c1
          have r2 := HR3.out.c2
          have rf0 := HR3.out.f 0
          have rf1 := HR3.out.f 1
          have rf2 := HR3.out.f 2
          go_wp2
          have hst := HR3.out.stored (a' := .slice none 0 0) (b' := .int .i64 (k : Int)) (c' := .int .i64 5)
          have g0 := hst.c0
          have g1 := hst.c1
          have g2 := hst.c2
          have hbS := three_below w3 (Nat.le_refl N) (.slice none 0 0) (.int .i64 (k : Int)) (.int .i64 5)
          exact bodyPost_ret (v := .agg #[.slice none 0 0, .int .i64 (k : Int), .int .i64 5]) (by simp [results, Try.results13, go_sem, g0, g1, g2]) rfl
            ⟨none, 0, by rw [HRE.out]; rfl, by rw [HRE.out]; exact RdK.empty (by decide), by rw [HN.out]; exact HB3.out.trans hbS, by rw [HRE.out]; exact Nat.zero_le _⟩
        · obtain ⟨T, hT⟩ : ∃ T, tkR (s.drop k) = T := ⟨_, rfl⟩
          obtain ⟨tk, tt, tn⟩ := T
          have HY := Lib.hid (x_good k HNE.out hT HOK.out.symm)
          have him := HIM.out rfl
          rw [hT] at HTP HTL him
          clear hT HIM
          dsimp only at HTP HTL him
          obtain ⟨e1, rfl, rfl, rfl⟩ := him
          obtain rfl : tk = fk := e1.symm
          obtain ⟨b, hb⟩ : ∃ b, k + tn = b := ⟨_, rfl⟩
          have HBK := Lib.hid hb
          rw [hb] at HY HF3 ⊢
          clear f0 f1 f2 f3 f4
          have f0 := HF3.out.c0
          have f1 := HF3.out.c1
          have f2 := HF3.out.c2
          have f3 := HF3.out.c3
          have f4 := HF3.out.c4
          have hkb : k < b := by have := HTP.out; omega
          have hbs : b ≤ S.size := by have h3 := HTL.out; rw [List.length_drop] at h3; have h4 := HZ.out; have h5 := HKL.out; omega
          clear hb
          have HSB := Lib.hid (HSK.out b (by rw [← HZ.out]; exact hbs))
          have HWB := Lib.hid (ws_le false (s.drop b))
          have hal : acc.length ≤ 20000 := by have := HI.out.2.2.2.1; omega
          have o0 := HO3.out.c0
          have o1 := HO3.out.c1
          have o2 := HO3.out.c2
          obtain ⟨v5, w5, hr5, hX5, hB5, hG5⟩ := append_tok (P := Try.prog) w3 (N + 2) 22 22 29 29 i0 _ Try.underlying22 hi hz0 hz1 hz2 rfl v acc.length acc HX3.out ⟨tk, tt, (k : Int)⟩ (by omega) (by have := HO3.out.lt; omega)
          obtain ⟨x1, x2, x3, rfl⟩ : ∃ x1 x2 x3, v5 = .slice x1 x2 x3 := by rcases hX5.2 with ⟨h, _⟩ | ⟨g, cap, cur, h, _⟩ <;> exact ⟨_, _, _, h⟩
          have HRR5 := Lib.hid hr5
          have HX5 : Hid (w5.ownsRow (N + 2) 29 3 (.slice x1 x2 x3) (acc ++ [(⟨tk, tt, (k : Int)⟩ : Tk)]).length (cellsK (acc ++ [⟨tk, tt, (k : Int)⟩]))) := by
            rw [List.length_append]; exact hX5
          have hba := (Below.refl w3.heap.size w3).alloc (Nat.le_refl _) (.cells #[.int .i64 tk, .string (bsOf tt), .int .i64 (k : Int)] 29)
          have HR5 := Lib.hid (HR3.out.grown hba hG5 (fun e => by have := own_base HX3.out N e.symm; omega))
          have HO5 := Lib.hid (HO3.out.grown hba hG5 (fun e => by have := own_base HX3.out (N + 1) e.symm; omega))
          have HB5 : Hid (Below N w w5) := HB3.out.trans (hB5.mono (by omega))
          have HF5 := Lib.hid (HF3.out.grown hba hG5 (fun e => by have h1 := own_top HI.out.2.2.1 U e.symm; have h2 := HUW.out; omega))
          have hb6 := (Below.refl N w5).setCell (p := ⟨N + 1, 0, none⟩) (Nat.le_succ N) (.slice x1 x2 x3)
          have HB6 := Lib.hid (HB5.out.trans hb6)
          have HR6 := Lib.hid (HR5.out.far (N := N + 1) 0 (.slice x1 x2 x3) (by omega))
          have HO6 := Lib.hid (HO5.out.set0 (.slice x1 x2 x3))
          have HX6 := Lib.hid (row_kept HX5.out (kept_set w5 (N + 1) 0 (.slice x1 x2 x3)) (by omega))
          have q0 := HO5.out.c0
          have qf := HO5.out.f 0
          have s1 := HF5.out.c3
          have hF6 : Five (w5.setCell ⟨N + 1, 0, none⟩ (.slice x1 x2 x3)) U 52 (.int .i64 tk) (.string (bsOf tt)) (.int .i64 (k : Int)) (.int .i64 (b : Int)) (.bool true) := ((kept_set w5 (N + 1) 0 (.slice x1 x2 x3)).block U HF5.out.lt (show U ≠ N + 1 by have := HLT3.out; omega)).trans HF5.out
          have s2 := hF6.c3
          clear hF6
          clear hr5 hX5 hB5 hba hb6 hG5
          go_wp2_with (at_builtin; refine wpList_append_want (o := ⟨some 30, _, _, _, _, _⟩) _ rfl _ _ _ _ rfl _ _ rfl rfl _ _ HRR5.out ?_)
          refine (HSB.out _).mono ?_
          rintro e w' ⟨rfl, rfl⟩
          go_wp2
          go_roundw
          case rel =>
            refine ⟨b + ws (s.drop b), acc ++ [⟨tk, tt, (k : Int)⟩], .slice x1 x2 x3, rfl, ?_, HR6.out, HO6.out, HX6.out, ?_, ?_, HB6.out⟩
            · have h3 := HWB.out; have h4 := HZ.out; rw [List.length_drop] at h3; show b + wsN false _ ≤ _; omega
            · rw [List.length_append]; have h3 := HI.out.2.2.2.1; show acc.length + 1 ≤ _; omega
            · have h3 := HI.out.2.2.2.2.1
              rw [HY.out, comb_comb, List.drop_drop, HBK.out] at h3
              rw [← h3]
              show _ = comb _ (lxX ((s.drop b).drop (ws (s.drop b))) (b + ws (s.drop b)))
              rw [List.drop_drop]
          case measure =>
            have h3 := HWB.out; have h4 := HZ.out
            rw [List.length_drop] at h3
            simp [intOf]; omega
      · obtain rfl : k = S.size := by omega
        have HE : Hid (r = (acc, 0, 0)) := HGOOD.out acc (by
          rw [← HI.out.2.2.2.2.1, show s.drop S.size = [] from List.drop_eq_nil_of_le (by rw [HZ.out]; exact Nat.le_refl _), x_nil]
          unfold comb; rw [if_pos rfl, List.append_nil])
        obtain ⟨a3, c3, rfl, hr3⟩ := RdK.of_row HI.out.2.2.1 (by have := HI.out.2.2.2.1; omega)
        have HR3 := Lib.hid hr3
        have HAL : Hid (acc.length ≤ 20000) := by have := HI.out.2.2.2.1; show _ ≤ _; omega
        have r0 := HI.out.1.c0
        have r1 := HI.out.1.c1
        have r2 := HI.out.1.c2
        have rf0 := HI.out.1.f 0
        have rf1 := HI.out.1.f 1
        have rf2 := HI.out.1.f 2
        have o0 := HI.out.2.1.c0
        have o1 := HI.out.2.1.c1
        have o2 := HI.out.2.1.c2
        clear hr3
        generalize hln : acc.length = ln at *
        have HLN := Lib.hid hln
        clear hln
        go_wp2
        have hst := HI.out.1.stored (a' := .slice a3 ln c3) (b' := .int .i64 0) (c' := .int .i64 0)
        have g0 := hst.c0
        have g1 := hst.c1
        have g2 := hst.c2
        have hbS := three_below wr (Nat.le_refl N) (.slice a3 ln c3) (.int .i64 0) (.int .i64 0)
        exact bodyPost_ret (v := .agg #[.slice a3 ln c3, .int .i64 0, .int .i64 0]) (by simp [results, Try.results13, go_sem, g0, g1, g2]) rfl
          ⟨a3, c3, by rw [HE.out]; show _ = Ending.returned (.agg #[.slice a3 acc.length c3, _, _]); rw [HLN.out]; rfl, by rw [HE.out]; show RdK _ a3 acc.length c3 acc; rw [HLN.out]; exact HR3.out.stored HI.out.1, by rw [HN.out]; exact HI.out.2.2.2.2.2.trans hbS, by rw [HE.out]; show acc.length ≤ 20000; rw [HLN.out]; exact HAL.out⟩

end Go.Proofs.Ytohobiglnebocaa.Lx
