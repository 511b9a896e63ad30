/-
  The text form of a value.
-/
import Derived.Test.YtnhffkgbnlnliaaGreatDoorVlQuote
import Derived.Test.YtnhffkgbnlnliaaGreatDoorVlWide
namespace Go.Proofs.YtnhffkgbnlnliaaGreatDoor
open Go Go.RowKit Go.Shelf Go.ChangeShapes Go.WideShapes Go.ChangeAt

def nullL : List UInt8 := [110, 117, 108, 108]
def trueL : List UInt8 := [116, 114, 117, 101]
def falseL : List UInt8 := [102, 97, 108, 115, 101]
def boolL (b : Bool) : List UInt8 := if b then trueL else falseL
def textV (v : Vl) : List UInt8 :=
  if widV v = false then [] else if v.k = 1 then boolL (decide (v.i = 1)) else if v.k = 2 then De.textL v.i else if v.k = 3 then quoteL v.s else nullL

theorem wid_parts {v : Vl} (h : widV v = true) : (v.k = 0 ∧ v.i = 0 ∧ v.s = []) ∨ (v.k = 1 ∧ (v.i = 0 ∨ v.i = 1) ∧ v.s = []) ∨ (v.k = 2 ∧ v.s = []) ∨ (v.k = 3 ∧ v.i = 0 ∧ txtB v.s = true) := by
  obtain ⟨k, i, s⟩ := v
  by_cases h0 : k = 0
  · subst h0
    rw [wid_k _ _ (by decide), vld0] at h
    exact .inl ⟨rfl, of_decide_eq_true h⟩
  · by_cases h1 : k = 1
    · subst h1
      rw [wid_k _ _ (by decide), vld1] at h
      exact .inr (.inl ⟨rfl, of_decide_eq_true h⟩)
    · by_cases h2 : k = 2
      · subst h2
        rw [wid_2] at h
        refine .inr (.inr (.inl ⟨rfl, ?_⟩))
        simp at h
        exact h.1
      · by_cases h3 : k = 3
        · subst h3
          rw [wid_k _ _ (by decide), vld3] at h
          simp at h
          exact .inr (.inr (.inr ⟨rfl, h⟩))
        · rw [wid_k _ _ h2, vld9 i s h0 h1 h2 h3] at h
          cases h

theorem formatBool_any (b : Bool) (w : World) : Calls Tryz.prog 55 #[.bool b] w fun e w' => e = .returned (.string (bsOf (boolL b))) ∧ Below w.heap.size w w' :=
  (Tryz.strconv_FormatBool b w).mono fun e w' ⟨he, hw⟩ => by
    refine ⟨?_, by rw [hw]; exact Below.self w⟩
    rw [he]
    cases b <;> rfl

set_option maxRecDepth 100000 in
set_option maxHeartbeats 1000000 in
theorem text_any (v : Vl) (hv : v.Ok) (w : World) (hV : De.Vars w) : Calls Tryz.prog 16 #[encV v] w fun e w' => e = .returned (.string (bsOf (textV v))) ∧ Below w.heap.size w w' := by
  have HA : Hid (∀ W : World, Calls Tryz.prog 10 #[encV v] W fun e w' => e = .returned (.bool (widV v)) ∧ Below W.heap.size W w') := fun W => wide_any v hv W
  have HP := Lib.hid (@wid_parts v)
  have HTX : Hid (∀ z, z = textV v → Ending.returned (.string (bsOf z)) = .returned (.string (bsOf (textV v)))) := fun z h => by rw [h]
  have HTV : Hid (textV v = if widV v = false then [] else if v.k = 1 then boolL (decide (v.i = 1)) else if v.k = 2 then De.textL v.i else if v.k = 3 then quoteL v.s else nullL) := rfl
  generalize textV v = tv at *
  generalize widV v = bv at *
  obtain ⟨k, i, s⟩ := v
  have hi : I64 i := hv.i
  have hs : s.length ≤ 1048576 := hv.s
  clear hv
  unfold encV at HA ⊢
  dsimp only at HA HP HTV ⊢
  have HT := Lib.hid (Trio.new w 29 (.int .i64 k) (.int .i64 i) (.string (bsOf s)))
  have HB0 := Lib.hid ((Below.refl w.heap.size w).alloc (Nat.le_refl _) (.cells #[.int .i64 k, .int .i64 i, .string (bsOf s)] 29))
  have HVA := Lib.hid hV
  clear hV
  go_enter Tryz.func16, Tryz.ntmps16
  go_wp2_with fail
  obtain ⟨B, hB⟩ : ∃ B, w.heap.size = B := ⟨_, rfl⟩
  rw [hB] at HT ⊢
  have HZ := Lib.hid hB
  clear hB
  generalize w.alloc (.cells #[.int .i64 k, .int .i64 i, .string (bsOf s)] 29) = V at *
  rw [← HZ.out]
  refine (HA.out _).mono ?_
  rintro e w1 ⟨rfl, hb⟩
  have HB1 : Hid (Below w.heap.size w w1) := HB0.out.trans (hb.mono HB0.out.size)
  have ht1 := HT.out.below hb HT.out.lt
  have HW1 := Lib.hid (HVA.out.below HB1.out)
  clear hb HB0 HT HVA
  have HT := Lib.hid ht1
  rw [HZ.out]
  have c0 := ht1.c0
  have c1 := ht1.c1
  have c2 := ht1.c2
  clear ht1
  cases bv with
  | false =>
    have HR := HTX.out [] (by rw [HTV.out]; rfl)
    go_wp2
    go_ret
    exact ⟨HR, HB1.out⟩
  | true =>
    rcases HP.out rfl with ⟨rfl, rfl, rfl⟩ | ⟨rfl, h1, rfl⟩ | ⟨rfl, rfl⟩ | ⟨rfl, rfl, _⟩
    · have HR := HTX.out nullL (by rw [HTV.out]; rfl)
      go_wp2
      go_ret
      exact ⟨HR, HB1.out⟩
    · have hbl := bs_list []
      have hb0 : (⟨#[]⟩ : ByteArray).toList = [] := bs_list []
      have HCB : Hid (∀ (n : Int) (W : World), Calls Tryz.prog 39 #[.int .i64 n] W fun e w' => e = .returned (.agg #[.int .i64 1, .int .i64 n, .string ⟨#[]⟩]) ∧ Below W.heap.size W w') := fun n W => bool_any n W
      have HCF : Hid (∀ (b : Bool) (W : World), Calls Tryz.prog 55 #[.bool b] W fun e w' => e = .returned (.string (bsOf (boolL b))) ∧ Below W.heap.size W w') := fun b W => formatBool_any b W
      have HR := Lib.hid (HTX.out (boolL (decide (i = 1))) (by rw [HTV.out]; rfl))
      clear HA HP HTX HTV
      go_upto_region 5 with fail
      clear c0 c1 c2
      have K0 := fun d os => cell_regrown HT.out.c0 d os
      have K1 := fun d os => cell_regrown HT.out.c1 d os
      have K2 := fun d os => cell_regrown HT.out.c2 d os
      rcases h1 with rfl | rfl
      all_goals
        refine wp_region_quiet_below (by kernel_rfl) (by kernel_rfl) ?_
        repeat (go_big_quiet_step (first
          | (go_at_call 39; with_reducible exact Calls.regrown_of (HCB.out _ _))
          | (go_at_call 55; with_reducible exact Calls.regrown_of (HCF.out _ _))))
        refine wpQuiet_nil ?_
        intro _ hw'
        obtain ⟨⟨dq, osq⟩, hw''⟩ := hw'
        subst hw''
        have HBQ : Hid (Below w.heap.size w (Go.Sort.grow (redrawn w1 dq) osq)) := HB1.out.trans ((below_regrown w1 dq osq).mono HB1.out.size)
        generalize Go.Sort.grow (redrawn w1 dq) osq = WQ at *
        go_wp2
        go_ret
        exact ⟨HR.out, HBQ.out⟩
    · have HR := Lib.hid (HTX.out (De.textL i) (by rw [HTV.out]; rfl))
      have HCT := Lib.hid (De.text_any i hi w1 HW1.out)
      clear HA HP HTX HTV
      go_wp2_with fail
      refine HCT.out.mono ?_
      rintro e w2 ⟨rfl, hb⟩
      have HB2 : Hid (Below w.heap.size w w2) := HB1.out.trans (hb.mono HB1.out.size)
      clear hb
      go_wp2
      go_ret
      exact ⟨HR.out, HB2.out⟩
    · have HR := Lib.hid (HTX.out (quoteL s) (by rw [HTV.out]; rfl))
      have HCT := Lib.hid (quoted_any s hs w1)
      clear HA HP HTX HTV
      go_wp2_with fail
      refine HCT.out.mono ?_
      rintro e w2 ⟨rfl, hb⟩
      have HB2 : Hid (Below w.heap.size w w2) := HB1.out.trans (hb.mono HB1.out.size)
      clear hb
      go_wp2
      go_ret
      exact ⟨HR.out, HB2.out⟩

end Go.Proofs.YtnhffkgbnlnliaaGreatDoor
