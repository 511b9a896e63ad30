/-
  Parse, and the law's wrapper of it.
-/
import Derived.Test.YtocnkjnlmciojaaGreatDoorVlGuess
namespace Go.Proofs.YtocnkjnlmciojaaGreatDoor
open Go Go.RowKit Go.Shelf Go.ChangeShapes Go.WideShapes Go.ChangeAt

theorem parseS_i64 (s : List UInt8) : I64 (De.parseS s 6).1 := by
  by_cases h : (De.parseS s 6).2 = 0
  · have := (De.parse_back s 6 (by decide) h).2.2
    unfold De.validB at this
    have h2 := of_decide_eq_true this
    have h3 : ((6 : Nat) : Int) = 6 := rfl
    rw [h3] at h2
    exact ⟨by omega, by omega⟩
  · rw [De.parse_err s 6 h]; exact ⟨by decide, by decide⟩
theorem i64_lit {n : Int} (h : decide (-9223372036854775808 ≤ n ∧ n ≤ 9223372036854775807) = true) : I64 n := (of_decide_eq_true h : _ ∧ _)
theorem guess_ok (s : List UInt8) (hs : s.length ≤ 1048576) : (guessV s).Ok := by
  unfold guessV
  split
  · exact ⟨⟨by decide, by decide⟩, ⟨by decide, by decide⟩, by decide⟩
  · split
    · exact ⟨⟨by decide, by decide⟩, ⟨by decide, by decide⟩, by decide⟩
    · split
      · exact ⟨⟨by decide, by decide⟩, ⟨by decide, by decide⟩, by decide⟩
      · split
        · exact ⟨i64_lit (n := 3) rfl, i64_lit (n := 0) rfl, Nat.le_trans (unqE_len false s) hs⟩
        · exact ⟨i64_lit (n := 2) rfl, parseS_i64 s, Nat.zero_le _⟩

/-- What reading a text form comes to. -/
def parsedV (s : List UInt8) : Vl × Int := if goodP s then (guessV s, 0) else (Vl.null, 5)
theorem parsed_good {s : List UInt8} (h1 : vldV (guessV s) = true) (h2 : textV (guessV s) = s) : parsedV s = (guessV s, 0) := by
  unfold parsedV goodP; rw [h1, decide_eq_true h2]; rfl
theorem parsed_bad1 {s : List UInt8} (h1 : vldV (guessV s) = false) : parsedV s = (Vl.null, 5) := by
  unfold parsedV goodP; rw [h1]; rfl
theorem parsed_bad2 {s : List UInt8} (h2 : textV (guessV s) ≠ s) : parsedV s = (Vl.null, 5) := by
  unfold parsedV goodP; rw [decide_eq_false h2, Bool.and_false]; rfl

set_option maxRecDepth 100000 in
set_option maxHeartbeats 2000000 in
theorem parse_any (s : List UInt8) (hs : s.length ≤ 1048576) (w : World) (hV : De.Vars w) : Calls Tryz.prog 106 #[.string (bsOf s)] w fun e w' => e = .returned (.tuple #[encV (parsedV s).1, .int .i64 (parsedV s).2]) ∧ Below w.heap.size w w' := by
  have hb0 : Below w.heap.size w (w.alloc (.cells #[.int .i64 0, .int .i64 0, .string ⟨#[]⟩] 45)) := (Below.self w).alloc (Nat.le_refl _) _
  have HT := Lib.hid (Trio.new w 45 (.int .i64 0) (.int .i64 0) (.string ⟨#[]⟩))
  have HG : Hid (∀ W, De.Vars W → Calls Tryz.prog 136 #[.string (bsOf s)] W fun e w' => e = .returned (encV (guessV s)) ∧ Below W.heap.size W w') := fun W hW => guess_any s hs W hW
  have hok := guess_ok s hs
  have HVL : Hid (∀ W : World, Calls Tryz.prog 30 #[encV (guessV s)] W fun e w' => e = .returned (.bool (vldV (guessV s))) ∧ Below W.heap.size W w') := fun W => valid_any _ hok W
  have HTX : Hid (∀ W, De.Vars W → Calls Tryz.prog 38 #[encV (guessV s)] W fun e w' => e = .returned (.string (bsOf (textV (guessV s)))) ∧ Below W.heap.size W w') := fun W hW => text_any _ hok W hW
  have HGD := Lib.hid (@parsed_good s)
  have HB1 := Lib.hid (@parsed_bad1 s)
  have HB2 := Lib.hid (@parsed_bad2 s)
  have hst := bs_same (textV (guessV s)) s
  have HVA := Lib.hid hV
  have HB0 := Lib.hid hb0
  clear hV hb0 hok
  generalize parsedV s = res at *
  generalize textV (guessV s) = tx at *
  generalize vldV (guessV s) = bv at *
  generalize guessV s = v at *
  obtain ⟨k, i, t⟩ := v
  unfold encV at HG HVL HTX ⊢
  dsimp only at HG HVL HTX ⊢
  generalize bsOf s = S at *
  generalize bsOf tx = TX at *
  have HE : Hid (∀ W, Below w.heap.size w W → ∀ u n, res = (u, n) → Ending.returned (.tuple #[.agg #[.int .i64 u.k, .int .i64 u.i, .string (bsOf u.s)], .int .i64 n]) = .returned (.tuple #[.agg #[.int .i64 res.1.k, .int .i64 res.1.i, .string (bsOf res.1.s)], .int .i64 res.2]) ∧ Below w.heap.size w W) := fun W hb u n h => ⟨by rw [h], hb⟩
  go_enter Tryz.func106, Tryz.ntmps106
  go_wp2_with fail
  refine (HG.out _ (HVA.out.below HB0.out)).mono ?_
  rintro e w1 ⟨rfl, hb⟩
  have HB3 : Hid (Below w.heap.size w w1) := HB0.out.trans (hb.mono HB0.out.size)
  have HT1 := Lib.hid (HT.out.below hb HT.out.lt)
  clear hb HT HB0
  have hbA : Below w1.heap.size w1 (w1.alloc (.cells #[.int .i64 k, .int .i64 i, .string (bsOf t)] 45)) := (Below.self w1).alloc (Nat.le_refl _) _
  have HTN := Lib.hid (Trio.new w1 45 (.int .i64 k) (.int .i64 i) (.string (bsOf t)))
  have HB4 : Hid (Below w.heap.size w (w1.alloc (.cells #[.int .i64 k, .int .i64 i, .string (bsOf t)] 45))) := HB3.out.trans (hbA.mono HB3.out.size)
  have HT2 := Lib.hid (HT1.out.below hbA HT1.out.lt)
  clear hbA HT1 HB3
  go_wp2_with fail
  obtain ⟨B, hB⟩ : ∃ B, w1.heap.size = B := ⟨_, rfl⟩
  rw [hB] at HTN ⊢
  clear hB
  generalize w1.alloc (.cells #[.int .i64 k, .int .i64 i, .string (bsOf t)] 45) = V at *
  refine (HVL.out _).mono ?_
  rintro e w2 ⟨rfl, hb⟩
  have HB5 : Hid (Below w.heap.size w w2) := HB4.out.trans (hb.mono HB4.out.size)
  have HT3 := Lib.hid (HT2.out.below hb HT2.out.lt)
  have HN3 := Lib.hid (HTN.out.below hb HTN.out.lt)
  clear hb HT2 HTN HB4
  cases bv with
  | false =>
    have HR := HB1.out rfl
    have c0 := HT3.out.c0
    have c1 := HT3.out.c1
    have c2 := HT3.out.c2
    have f0 := HT3.out.f 0
    have f1 := HT3.out.f 1
    have f2 := HT3.out.f 2
    have plt := HT3.out.lt
    have HRR := Lib.hid (HE.out _ (below_put3 HB5.out (Nat.le_refl _) (.int .i64 0) (.int .i64 0) (.string ⟨#[]⟩)) _ _ HR)
    clear HR HE
    go_wp2
    exact bodyPost_ret (v := .tuple #[.agg #[.int .i64 0, .int .i64 0, .string ⟨#[]⟩], .int .i64 5]) (by simp [results, Tryz.results106, go_sem, c0, c1, c2]) rfl HRR.out
  | true =>
    have d0 := HN3.out.c0
    have d1 := HN3.out.c1
    have d2 := HN3.out.c2
    go_wp2_with fail
    refine (HTX.out _ (HVA.out.below HB5.out)).mono ?_
    rintro e w3 ⟨rfl, hb⟩
    have HB6 : Hid (Below w.heap.size w w3) := HB5.out.trans (hb.mono HB5.out.size)
    have HT4 := Lib.hid (HT3.out.below hb HT3.out.lt)
    have HN4 := Lib.hid (HN3.out.below hb HN3.out.lt)
    clear hb HT3 HN3 HB5 d0 d1 d2
    have c0 := HT4.out.c0
    have c1 := HT4.out.c1
    have c2 := HT4.out.c2
    have f0 := HT4.out.f 0
    have f1 := HT4.out.f 1
    have f2 := HT4.out.f 2
    have plt := HT4.out.lt
    have d0 := HN4.out.c0
    have d1 := HN4.out.c1
    have d2 := HN4.out.c2
    by_cases hts : tx = s
    · have HR := HGD.out (by simp) hts
      rw [decide_eq_true hts] at hst
      have HRR := Lib.hid (HE.out _ (below_put3 HB6.out (Nat.le_refl _) (.int .i64 k) (.int .i64 i) (.string (bsOf t))) _ _ HR)
      clear HR HE hts HGD HB1 HB2
      go_wp2
      exact bodyPost_ret (v := .tuple #[.agg #[.int .i64 k, .int .i64 i, .string (bsOf t)], .int .i64 0]) (by simp [results, Tryz.results106, go_sem, c0, c1, c2]) rfl HRR.out
    · have HR := HB2.out hts
      rw [decide_eq_false hts] at hst
      have HRR := Lib.hid (HE.out _ (below_put3 HB6.out (Nat.le_refl _) (.int .i64 0) (.int .i64 0) (.string ⟨#[]⟩)) _ _ HR)
      clear HR HE hts HGD HB1 HB2
      go_wp2
      exact bodyPost_ret (v := .tuple #[.agg #[.int .i64 0, .int .i64 0, .string ⟨#[]⟩], .int .i64 5]) (by simp [results, Tryz.results106, go_sem, c0, c1, c2]) rfl HRR.out

end Go.Proofs.YtocnkjnlmciojaaGreatDoor
