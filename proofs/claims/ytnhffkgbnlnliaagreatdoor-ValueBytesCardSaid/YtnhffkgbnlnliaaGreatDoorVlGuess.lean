/-
  A text form, read back: the value.
-/
import Derived.Test.YtnhffkgbnlnliaaGreatDoorVlParse
namespace Go.Proofs.YtnhffkgbnlnliaaGreatDoor
open Go Go.RowKit Go.Shelf Go.ChangeShapes Go.WideShapes Go.ChangeAt

theorem set_block {W : World} {B i : Nat} {cs : Array Value} {t : TypeId} {fz : Nat × Nat} (h : W.heap[B]? = some (.cells cs t fz)) (v : Value) : (W.setCell ⟨B, i, none⟩ v).heap[B]? = some (.cells (cs.setIfInBounds i v) t fz) := by
  obtain ⟨hlt, hk⟩ := Array.getElem?_eq_some_iff.1 h
  show (W.heap.modify B _)[B]? = _
  rw [Array.getElem?_eq_getElem (by rw [Array.size_modify]; exact hlt), Array.getElem_modify_self, hk]
  rfl
theorem put3 {W : World} {B : Nat} {t : TypeId} {a b c : Value} (h : Trio W B t a b c) (x y z : Value) : Trio (((W.setCell ⟨B, 0, none⟩ x).setCell ⟨B, 1, none⟩ y).setCell ⟨B, 2, none⟩ z) B t x y z := by
  have h1 := set_block (i := 0) h x
  have h2 := set_block (i := 1) h1 y
  exact set_block (i := 2) h2 z
theorem below_put3 {W w : World} {B : Nat} (h : Below w.heap.size w W) (hB : w.heap.size ≤ B) (x y z : Value) : Below w.heap.size w (((W.setCell ⟨B, 0, none⟩ x).setCell ⟨B, 1, none⟩ y).setCell ⟨B, 2, none⟩ z) :=
  ((h.setCell hB x).setCell hB y).setCell hB z

theorem pre34 (s : List UInt8) (w : World) : Calls Tryz.prog 106 #[.string (bsOf s), .string ⟨#[34]⟩] w fun e w' => e = .returned (.bool (Lib.hasPrefix s [34])) ∧ Below w.heap.size w w' :=
  (Tryz.strings_HasPrefix (bsOf s) ⟨#[34]⟩ w).mono fun e w' ⟨he, hw⟩ => by
    rw [bs_data] at he
    exact ⟨he, by rw [hw]; exact Below.self w⟩

theorem str_in (s t : List UInt8) : ((bsOf s).toList == t) = decide (s = t) := by rw [bs_list]; exact Bool.beq_eq_decide_eq s t

set_option maxRecDepth 100000 in
set_option maxHeartbeats 2000000 in
theorem guess_any (s : List UInt8) (hs : s.length ≤ 1048576) (w : World) (hV : De.Vars w) : Calls Tryz.prog 88 #[.string (bsOf s)] w fun e w' => e = .returned (encV (guessV s)) ∧ Below w.heap.size w w' := by
  have hn : ((bsOf s).toList == [110, 117, 108, 108]) = decide (s = nullL) := str_in s nullL
  have hf : ((bsOf s).toList == [102, 97, 108, 115, 101]) = decide (s = falseL) := str_in s falseL
  have ht : ((bsOf s).toList == [116, 114, 117, 101]) = decide (s = trueL) := str_in s trueL
  have hb0 : Below w.heap.size w (w.alloc (.cells #[.int .i64 0, .int .i64 0, .string ⟨#[]⟩] 29)) := (Below.self w).alloc (Nat.le_refl _) _
  have HT := Lib.hid (Trio.new w 29 (.int .i64 0) (.int .i64 0) (.string ⟨#[]⟩))
  have HF : Hid (∀ (W : World), Calls Tryz.prog 55 #[.bool false] W fun e w' => e = .returned (.string ⟨#[102, 97, 108, 115, 101]⟩) ∧ Below W.heap.size W w') := fun W => formatBool_any false W
  have HTR : Hid (∀ (W : World), Calls Tryz.prog 55 #[.bool true] W fun e w' => e = .returned (.string ⟨#[116, 114, 117, 101]⟩) ∧ Below W.heap.size W w') := fun W => formatBool_any true W
  have HBO : Hid (∀ (n : Int) (W : World), Calls Tryz.prog 39 #[.int .i64 n] W fun e w' => e = .returned (.agg #[.int .i64 1, .int .i64 n, .string ⟨#[]⟩]) ∧ Below W.heap.size W w') := fun n W => bool_any n W
  have HBN : Hid (∀ (n : Int) (W : World), Calls Tryz.prog 40 #[.int .i64 n] W fun e w' => e = .returned (.agg #[.int .i64 2, .int .i64 n, .string ⟨#[]⟩]) ∧ Below W.heap.size W w') := fun n W => num_any n W
  have HPR := Lib.hid (pre34 s)
  have HUQ := Lib.hid (unquoted_any s hs)
  have HTX := Lib.hid (txt_any (unqE false s))
  have HDP : Hid (∀ W, De.Vars W → Calls Tryz.prog 108 #[.string (bsOf s), .int .i64 6] W fun e w' => e = .returned (.tuple #[.int .i64 (De.parseS s 6).1, .int .i64 (De.parseS s 6).2]) ∧ Below W.heap.size W w') := fun W hW => by
    have := De.parse_any (bsOf s) 6 ⟨by decide, by decide⟩ (by rw [bs_size]; omega) W hW
    rwa [bs_data] at this
  have HVA := Lib.hid hV
  have HB0 := Lib.hid hb0
  have HE : Hid (∀ v, guessV s = v → ∀ W, Below w.heap.size w W → Ending.returned (encV v) = .returned (encV (guessV s)) ∧ Below w.heap.size w W) := fun v h W hb => ⟨by rw [h], hb⟩
  obtain ⟨h5, hh5⟩ : ∃ b, Lib.hasPrefix s [34] = b := ⟨_, rfl⟩
  have HGU : Hid (guessV s = if s = nullL then Vl.null else if s = falseL then ⟨1, 0, []⟩ else if s = trueL then ⟨1, 1, []⟩ else if h5 = true then ⟨3, 0, unqE false s⟩ else ⟨2, (De.parseS s 6).1, []⟩) := by show _ = _; rw [← hh5]; rfl
  rw [hh5] at HPR
  clear hb0 hV hh5
  generalize De.parseS s 6 = pr at *
  obtain ⟨pn, pe⟩ := pr
  generalize unqE false s = us at *
  by_cases h1 : s = nullL
  · have HR := Lib.hid (HE.out Vl.null (by rw [HGU.out, if_pos h1]))
    rw [decide_eq_true h1] at hn
    clear h1 hf ht HE HGU
    generalize bsOf s = S at *
    go_enter Tryz.func88, Tryz.ntmps88
    go_wp2
    exact bodyPost_ret (v := encV Vl.null) (by simp [results, Tryz.results88, go_sem, encV, Vl.null, bsOf]) rfl (HR.out _ HB0.out)
  · by_cases h2 : s = falseL
    · have HR := Lib.hid (HE.out ⟨1, 0, []⟩ (by rw [HGU.out, if_neg h1, if_pos h2]))
      rw [decide_eq_false h1] at hn
      rw [decide_eq_true h2] at hf
      clear h1 h2 ht HE HGU
      generalize bsOf s = S at *
      go_enter Tryz.func88, Tryz.ntmps88
      go_wp2_with fail
      refine (HF.out _).mono ?_
      rintro e w1 ⟨rfl, hb⟩
      have HB1 : Hid (Below w.heap.size w w1) := HB0.out.trans (hb.mono HB0.out.size)
      have HT1 := Lib.hid (HT.out.below hb HT.out.lt)
      clear hb HT
      go_wp2_with fail
      refine (HBO.out _ _).mono ?_
      rintro e w2 ⟨rfl, hb⟩
      have HB2 : Hid (Below w.heap.size w w2) := HB1.out.trans (hb.mono HB1.out.size)
      have HT2 := Lib.hid (HT1.out.below hb HT1.out.lt)
      have c0 := HT2.out.c0
      have c1 := HT2.out.c1
      have c2 := HT2.out.c2
      have f0 := HT2.out.f 0
      have f1 := HT2.out.f 1
      have f2 := HT2.out.f 2
      have plt := HT2.out.lt
      clear hb HT1 HB1
      go_wp2
      exact bodyPost_ret (v := .agg #[.int .i64 1, .int .i64 0, .string ⟨#[]⟩]) (by simp [results, Tryz.results88, go_sem, c0, c1, c2]) rfl (HR.out _ (below_put3 HB2.out (Nat.le_refl _) _ _ _))
    · by_cases h3 : s = trueL
      · have HR := Lib.hid (HE.out ⟨1, 1, []⟩ (by rw [HGU.out, if_neg h1, if_neg h2, if_pos h3]))
        rw [decide_eq_false h1] at hn
        rw [decide_eq_false h2] at hf
        rw [decide_eq_true h3] at ht
        clear h1 h2 h3 HE HGU
        generalize bsOf s = S at *
        go_enter Tryz.func88, Tryz.ntmps88
        go_wp2_with fail
        refine (HF.out _).mono ?_
        rintro e w1 ⟨rfl, hb⟩
        have HB1 : Hid (Below w.heap.size w w1) := HB0.out.trans (hb.mono HB0.out.size)
        have HT1 := Lib.hid (HT.out.below hb HT.out.lt)
        clear hb HT
        go_wp2_with fail
        refine (HTR.out _).mono ?_
        rintro e w1' ⟨rfl, hb⟩
        have HB1' : Hid (Below w.heap.size w w1') := HB1.out.trans (hb.mono HB1.out.size)
        have HT1' := Lib.hid (HT1.out.below hb HT1.out.lt)
        clear hb HT1 HB1
        go_wp2_with fail
        refine (HBO.out _ _).mono ?_
        rintro e w2 ⟨rfl, hb⟩
        have HB2 : Hid (Below w.heap.size w w2) := HB1'.out.trans (hb.mono HB1'.out.size)
        have HT2 := Lib.hid (HT1'.out.below hb HT1'.out.lt)
        have c0 := HT2.out.c0
        have c1 := HT2.out.c1
        have c2 := HT2.out.c2
        have f0 := HT2.out.f 0
        have f1 := HT2.out.f 1
        have f2 := HT2.out.f 2
        have plt := HT2.out.lt
        clear hb HT1' HB1'
        go_wp2
        exact bodyPost_ret (v := .agg #[.int .i64 1, .int .i64 1, .string ⟨#[]⟩]) (by simp [results, Tryz.results88, go_sem, c0, c1, c2]) rfl (HR.out _ (below_put3 HB2.out (Nat.le_refl _) _ _ _))
      · have HR : Hid (∀ v, v = (if h5 = true then (⟨3, 0, us⟩ : Vl) else ⟨2, pn, []⟩) → ∀ W, Below w.heap.size w W → Ending.returned (encV v) = .returned (encV (guessV s)) ∧ Below w.heap.size w W) := fun v hv => HE.out v (by rw [HGU.out, if_neg h1, if_neg h2, if_neg h3, hv])
        rw [decide_eq_false h1] at hn
        rw [decide_eq_false h2] at hf
        rw [decide_eq_false h3] at ht
        clear h1 h2 h3 HE HGU
        generalize bsOf s = S at *
        go_enter Tryz.func88, Tryz.ntmps88
        go_wp2_with fail
        refine (HF.out _).mono ?_
        rintro e w1 ⟨rfl, hb⟩
        have HB1 : Hid (Below w.heap.size w w1) := HB0.out.trans (hb.mono HB0.out.size)
        have HT1 := Lib.hid (HT.out.below hb HT.out.lt)
        clear hb HT
        go_wp2_with fail
        refine (HTR.out _).mono ?_
        rintro e w1' ⟨rfl, hb⟩
        have HB1' : Hid (Below w.heap.size w w1') := HB1.out.trans (hb.mono HB1.out.size)
        have HT1' := Lib.hid (HT1.out.below hb HT1.out.lt)
        clear hb HT1 HB1
        go_wp2_with fail
        refine (HPR.out _).mono ?_
        rintro e w3 ⟨rfl, hb⟩
        have HB3 : Hid (Below w.heap.size w w3) := HB1'.out.trans (hb.mono HB1'.out.size)
        have HT3 := Lib.hid (HT1'.out.below hb HT1'.out.lt)
        clear hb HT1' HB1'
        cases h5 with
        | true =>
          go_wp2_with fail
          refine (HUQ.out _).mono ?_
          rintro e w4 ⟨rfl, hb⟩
          have HB4 : Hid (Below w.heap.size w w4) := HB3.out.trans (hb.mono HB3.out.size)
          have HT4 := Lib.hid (HT3.out.below hb HT3.out.lt)
          clear hb HT3 HB3
          go_wp2_with fail
          refine (HTX.out _).mono ?_
          rintro e w2 ⟨rfl, hb⟩
          have HB2 : Hid (Below w.heap.size w w2) := HB4.out.trans (hb.mono HB4.out.size)
          have HT2 := Lib.hid (HT4.out.below hb HT4.out.lt)
          have c0 := HT2.out.c0
          have c1 := HT2.out.c1
          have c2 := HT2.out.c2
          have f0 := HT2.out.f 0
          have f1 := HT2.out.f 1
          have f2 := HT2.out.f 2
          have plt := HT2.out.lt
          clear hb HT4 HB4
          unfold encV
          dsimp only
          go_wp2
          exact bodyPost_ret (v := .agg #[.int .i64 3, .int .i64 0, .string (bsOf us)]) (by simp [results, Tryz.results88, go_sem, c0, c1, c2]) rfl (HR.out ⟨3, 0, us⟩ rfl _ (below_put3 HB2.out (Nat.le_refl _) _ _ _))
        | false =>
          go_wp2_with fail
          refine (HDP.out _ (HVA.out.below HB3.out)).mono ?_
          rintro e w4 ⟨rfl, hb⟩
          have HB4 : Hid (Below w.heap.size w w4) := HB3.out.trans (hb.mono HB3.out.size)
          have HT4 := Lib.hid (HT3.out.below hb HT3.out.lt)
          clear hb HT3 HB3
          dsimp only
          go_wp2_with fail
          refine (HBN.out _ _).mono ?_
          rintro e w2 ⟨rfl, hb⟩
          have HB2 : Hid (Below w.heap.size w w2) := HB4.out.trans (hb.mono HB4.out.size)
          have HT2 := Lib.hid (HT4.out.below hb HT4.out.lt)
          have c0 := HT2.out.c0
          have c1 := HT2.out.c1
          have c2 := HT2.out.c2
          have f0 := HT2.out.f 0
          have f1 := HT2.out.f 1
          have f2 := HT2.out.f 2
          have plt := HT2.out.lt
          clear hb HT4 HB4
          go_wp2
          exact bodyPost_ret (v := .agg #[.int .i64 2, .int .i64 pn, .string ⟨#[]⟩]) (by simp [results, Tryz.results88, go_sem, c0, c1, c2]) rfl (HR.out ⟨2, pn, []⟩ rfl _ (below_put3 HB2.out (Nat.le_refl _) _ _ _))

end Go.Proofs.YtnhffkgbnlnliaaGreatDoor
