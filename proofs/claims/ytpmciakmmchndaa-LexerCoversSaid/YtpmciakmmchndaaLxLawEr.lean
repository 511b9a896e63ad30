/-
  What is ahead of an error offset is well-formed; a blank ahead shifts it: the walk.
-/
import Derived.Test.YtpmciakmmchndaaLxEx
import Derived.Test.YtpmciakmmchndaaLxRun
namespace Go.Proofs.Ytpmciakmmchndaa.lexerErrors
open Go Go.RowKit Go.Shelf Go.Sort Go.ChangeShapes Go.WideShapes Go.ChangeAt
open Go.Proofs.Ytpmciakmmchndaa Go.Proofs.Ytpmciakmmchndaa.Lx

theorem bs_cons (b : UInt8) (s : List UInt8) : (⟨#[b]⟩ : ByteArray) ++ bsOf s = bsOf (b :: s) := by
  apply ByteArray.ext
  rw [ByteArray.data_append]
  show #[b] ++ s.toArray = (b :: s).toArray
  simp
theorem lex_ok {s : List UInt8} (h : s.length ≤ 20000) (h2 : (lxY s 0).2.2 = true) : lexS s = ((lxY s 0).1, 0, 0) := by
  unfold lexS
  rw [if_neg (by omega), lxS_eq, y_yes h2]; rfl
theorem lex_err {s : List UInt8} (h : s.length ≤ 20000) (h2 : (lxY s 0).2.2 = false) : lexS s = ([], (lxY s 0).2.1, 5) := by
  unfold lexS
  rw [if_neg (by omega), lxS_eq, y_no h2]; rfl
theorem lex_shift {s : List UInt8} (h : s.length ≤ 19999) (h2 : (lxY s 0).2.2 = false) : lexS (32 :: s) = ([], (lxY s 0).2.1 + 1, 5) := by
  have e : lxY (32 :: s) 0 = ([], (lxY s 0).2.1 + 1, false) := by
    rw [y_blank, y_shift, shR, if_neg (by rw [h2]; decide)]
  rw [lex_err (by simp; omega) (by rw [e]), e]
theorem lex_ahead {s : List UInt8} (h : s.length ≤ 20000) (h2 : (lxY s 0).2.2 = false) : (lxY s 0).2.1 < s.length ∧ ∃ ts, lexS (s.take (lxY s 0).2.1) = (ts, 0, 0) := by
  obtain ⟨_, h3, h4⟩ := y_ahead s.length s 0 (Nat.le_refl _) h2
  exact ⟨by omega, _, lex_ok (by rw [List.length_take]; omega) h4⟩

set_option maxRecDepth 100000 in
set_option maxHeartbeats 4000000 in
theorem walk {s : List UInt8} {m : Nat} {w : World} (hs : s.length ≤ 9223372036854775807) (hV : Vars w) :
    Calls Try.prog 8 #[.string (bsOf s), .int .u16 (m : Int)] w fun e V => e = .returned (.bool true) ∧ Below w.heap.size w V := by
  have HZ := Lib.hid (bs_size s)
  have HX := Lib.hid (examples10_any w hV)
  have HSM := Lib.hid (fun w => small_nil (bsOf s) (by rw [bs_size]; omega) w)
  have HV := Lib.hid hV
  have HL := Lib.hid (fun w hV => lexed_any s hs w hV)
  have HCAT := Lib.hid (bs_cons 32 s)
  have HCUT := Lib.hid (fun p => bs_cut s 0 p)
  obtain ⟨S, hS⟩ : ∃ S, bsOf s = S := ⟨_, rfl⟩
  rw [hS] at HZ HSM HL HCAT HCUT ⊢
  have hsz : S.size ≤ 9223372036854775807 := by rw [HZ.out]; exact hs
  clear hS hs hV
  go_enter Try.func8, Try.ntmps8
  go_wp2_with fail
  refine HX.out.mono ?_
  rintro e w1 ⟨rfl, hb1⟩
  have HB1 := Lib.hid hb1
  clear hb1 HX
  go_wp2_with fail
  refine (HSM.out _).mono ?_
  rintro e w2 ⟨rfl, rfl⟩
  by_cases h2 : S.size ≤ 2000
  · have HZ2 : Hid (s.length ≤ 2000) := by have := HZ.out; show _ ≤ _; omega
    rw [decide_eq_true h2]
    have HC := Lib.hid (HL.out w1 (HV.out.below HB1.out))
    clear HL
    cases hok : (lxY s 0).2.2
    · obtain ⟨hp, ts, hy⟩ := lex_ahead (by have := HZ2.out; omega) hok
      have hz := lex_shift (by have := HZ2.out; omega) hok
      have hx := lex_err (by have := HZ2.out; omega) hok
      clear hok
      obtain ⟨p, hpp⟩ : ∃ p, (lxY s 0).2.1 = p := ⟨_, rfl⟩
      rw [hpp] at hp hy hz hx
      rw [hx] at HC
      have HY := Lib.hid hy
      have HZZ := Lib.hid hz
      have hpS : p < S.size := by rw [HZ.out]; exact hp
      clear hpp hx hy hz hp
      have hcut := HCUT.out p
      rw [List.drop_zero, Nat.sub_zero] at hcut
      have hcat := HCAT.out
      have HC2 := Lib.hid (fun w hV => lexed_any (s.take p) (by rw [List.length_take]; have := HZ2.out; omega) w hV)
      have HC3 := Lib.hid (fun w hV => lexed_any (32 :: s) (by simp; have := HZ2.out; omega) w hV)
      rw [HY.out] at HC2
      rw [HZZ.out] at HC3
      obtain ⟨A, hA⟩ : ∃ A, bsOf (s.take p) = A := ⟨_, rfl⟩
      obtain ⟨C, hC⟩ : ∃ C, bsOf (32 :: s) = C := ⟨_, rfl⟩
      rw [hA] at HC2 hcut
      rw [hC] at HC3 hcat
      clear hA hC
      go_wp2_with fail
      refine HC.out.mono ?_
      rintro e w3 ⟨a1, c1, rfl, -, hb, -⟩
      dsimp only [List.length_nil]
      have hB3 := HB1.out.trans (hb.mono HB1.out.size)
      have HB4 := Lib.hid (hB3.alloc hB3.size (.cells #[.slice a1 0 c1, .int .i64 (p : Int), .int .i64 5] 37))
      have HU4 := Lib.hid (Trio.new w3 37 (.slice a1 0 c1) (.int .i64 (p : Int)) (.int .i64 5))
      clear hb hB3 HC
      go_upto_region 7 with fail
      obtain ⟨w4, hw4⟩ : ∃ w4, w3.alloc (.cells #[.slice a1 0 c1, .int .i64 (p : Int), .int .i64 5] 37) = w4 := ⟨_, rfl⟩
      rw [hw4] at HB4 HU4 ⊢
      clear hw4
      generalize w3.heap.size = U at *
      have d0 := HU4.out.c0
      have d1 := HU4.out.c1
      have d2 := HU4.out.c2
      have hp0 : ¬ (p : Int) < 0 := by omega
      have hp1 : ¬ (S.size : Int) ≤ (p : Int) := by omega
      go_wp2_with fail
      refine (HC2.out w4 (HV.out.below HB4.out)).mono ?_
      rintro e w5 ⟨a2, c2, rfl, -, hb, -⟩
      have HB5 := Lib.hid (HB4.out.trans (hb.mono HB4.out.size))
      have HU5 := Lib.hid (HU4.out.below hb HU4.out.lt)
      clear hb HC2
      dsimp only
      generalize ts.length = tn at *
      rw [show ((0 : Nat) : Int) = 0 from rfl]
      go_wp2_with fail
      refine (HC3.out w5 (HV.out.below HB5.out)).mono ?_
      rintro e w6 ⟨a3, c3, rfl, -, hb, -⟩
      dsimp only [List.length_nil]
      have hB6 := HB5.out.trans (hb.mono HB5.out.size)
      have hU6 := HU5.out.below hb HU5.out.lt
      clear hb HC3 d0 d1 d2
      rw [show ((p + 1 : Nat) : Int) = (p : Int) + 1 by omega]
      have hb7 := (Below.refl w6.heap.size w6).alloc (Nat.le_refl _) (.cells #[.slice a2 tn c2, .int .i64 0, .int .i64 0] 37)
      have hb8 := hb7.alloc (by simp) (.cells #[.slice a3 0 c3, .int .i64 ((p : Int) + 1), .int .i64 5] 37)
      have hY := (Trio.new w6 37 (.slice a2 tn c2) (.int .i64 0) (.int .i64 0)).below (V := (w6.alloc (.cells #[.slice a2 tn c2, .int .i64 0, .int .i64 0] 37)).alloc (.cells #[.slice a3 0 c3, .int .i64 ((p : Int) + 1), .int .i64 5] 37)) ((Below.refl (w6.alloc (.cells #[.slice a2 tn c2, .int .i64 0, .int .i64 0] 37)).heap.size _).alloc (Nat.le_refl _) _) (by simp)
      have hZ := Trio.new (w6.alloc (.cells #[.slice a2 tn c2, .int .i64 0, .int .i64 0] 37)) 37 (.slice a3 0 c3) (.int .i64 ((p : Int) + 1)) (.int .i64 5)
      rw [World.size_alloc] at hZ
      have HY8 := Lib.hid hY
      have HZ8 := Lib.hid hZ
      have HU8 := Lib.hid (hU6.below hb8 hU6.lt)
      have HB8 := Lib.hid (hB6.trans (hb8.mono hB6.size))
      clear hb7 hb8 hY hZ hU6 hB6
      go_upto_region 12 with fail
      obtain ⟨w8, hw8⟩ : ∃ w8, (w6.alloc (.cells #[.slice a2 tn c2, .int .i64 0, .int .i64 0] 37)).alloc (.cells #[.slice a3 0 c3, .int .i64 ((p : Int) + 1), .int .i64 5] 37) = w8 := ⟨_, rfl⟩
      rw [hw8] at HY8 HZ8 HU8 HB8 ⊢
      clear hw8
      generalize w6.heap.size = U2 at *
      have d1 := HU8.out.c1
      have e2 := HY8.out.c2
      have g1 := HZ8.out.c1
      have g2 := HZ8.out.c2
      go_wp2
      go_ret
      exact ⟨rfl, HB8.out⟩
    · have hx := lex_ok (by have := HZ2.out; omega) hok
      rw [hx] at HC
      clear hx hok
      go_wp2_with fail
      refine HC.out.mono ?_
      rintro e w3 ⟨a1, c1, rfl, -, hb, -⟩
      have HB3 := Lib.hid (HB1.out.trans (hb.mono HB1.out.size))
      clear hb HC
      dsimp only
      generalize (lxY s 0).1.length = tn at *
      go_wp2
      go_ret
      exact ⟨rfl, HB3.out.alloc HB3.out.size _⟩
  · rw [decide_eq_false h2]
    clear h2
    go_wp2
    go_ret
    exact ⟨rfl, HB1.out⟩

end Go.Proofs.Ytpmciakmmchndaa.lexerErrors
