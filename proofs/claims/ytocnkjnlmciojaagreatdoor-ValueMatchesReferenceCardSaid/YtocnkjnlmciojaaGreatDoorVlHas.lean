/-
  Which values a type has.
-/
import Derived.Test.YtocnkjnlmciojaaGreatDoorVlWide
namespace Go.Proofs.YtocnkjnlmciojaaGreatDoor
open Go Go.RowKit Go.Shelf Go.ChangeShapes Go.WideShapes Go.ChangeAt

theorem has_bad {t : Ty} {v : Vl} (h : vldT t = false ∨ vldV v = false) : hasV t v = false := by
  unfold hasV
  rcases h with h | h <;> simp [h]
theorem has_good {t : Ty} {v : Vl} (h : vldT t = true) (h' : vldV v = true) : hasV t v = (if v.k = 0 then t.null else if v.k = 2 then decide (t.k = 2) && De.fitsB v.i t.scale else decide (t.k = v.k)) := by
  unfold hasV
  rw [h, h']; rfl

set_option maxRecDepth 100000 in
set_option maxHeartbeats 1000000 in
theorem has_any (t : Ty) (v : Vl) (ht : t.Ok) (hv : v.Ok) (w : World) (hV : De.Vars w) : Calls Tryz.prog 34 #[encT t, encV v] w fun e w' => e = .returned (.bool (hasV t v)) ∧ Below w.heap.size w w' := by
  have HA : Hid (∀ W : World, Calls Tryz.prog 30 #[encV v] W fun e w' => e = .returned (.bool (vldV v)) ∧ Below W.heap.size W w') := fun W => valid_any v hv W
  have HB : Hid (∀ W : World, Calls Tryz.prog 46 #[encT t] W fun e w' => e = .returned (.bool (vldT t)) ∧ Below W.heap.size W w') := fun W => validType_any t W
  have HG := Lib.hid (@has_good t v)
  have HN := Lib.hid (@has_bad t v)
  obtain ⟨res, hres⟩ : ∃ b, hasV t v = b := ⟨_, rfl⟩
  rw [hres] at HG HN ⊢
  obtain ⟨bv, hbv⟩ : ∃ b, vldV v = b := ⟨_, rfl⟩
  obtain ⟨bt, hbt⟩ : ∃ b, vldT t = b := ⟨_, rfl⟩
  rw [hbv] at HA HG HN
  rw [hbt] at HB HG HN
  clear hbv hbt hres
  obtain ⟨tk, sc, nl⟩ := t
  obtain ⟨k, i, s⟩ := v
  have hi : I64 i := hv.i
  have hsc : I64 sc := ht.scale
  clear hv ht
  unfold encV at HA ⊢
  unfold encT at HB ⊢
  dsimp only at HA HB HG HN ⊢
  have hT := Trio.new w 41 (.int .i64 tk) (.int .i64 sc) (.bool nl)
  have hb1 := (Below.refl w.heap.size w).alloc (Nat.le_refl _) (.cells #[.int .i64 tk, .int .i64 sc, .bool nl] 41)
  have hT1 := hT.below (V := (w.alloc (.cells #[.int .i64 tk, .int .i64 sc, .bool nl] 41)).alloc (.cells #[.int .i64 k, .int .i64 i, .string (bsOf s)] 45)) ((Below.refl (w.alloc (.cells #[.int .i64 tk, .int .i64 sc, .bool nl] 41)).heap.size _).alloc (Nat.le_refl _) _) hT.lt
  have HB0 := Lib.hid (hb1.alloc (by simp) (.cells #[.int .i64 k, .int .i64 i, .string (bsOf s)] 45))
  have hT2 := Trio.new (w.alloc (.cells #[.int .i64 tk, .int .i64 sc, .bool nl] 41)) 45 (.int .i64 k) (.int .i64 i) (.string (bsOf s))
  rw [World.size_alloc] at hT2
  have HT1 := Lib.hid hT1
  have HT2 := Lib.hid hT2
  have HVA := Lib.hid hV
  clear hT hT1 hT2 hb1 hV
  go_enter Tryz.func34, Tryz.ntmps34
  go_wp2_with fail
  obtain ⟨B, hB⟩ : ∃ B, w.heap.size = B := ⟨_, rfl⟩
  rw [hB] at HT1 HT2 ⊢
  have HZ := Lib.hid hB
  clear hB
  generalize (w.alloc (.cells #[.int .i64 tk, .int .i64 sc, .bool nl] 41)).alloc (.cells #[.int .i64 k, .int .i64 i, .string (bsOf s)] 45) = V at *
  rw [← HZ.out]
  refine (HB.out _).mono ?_
  rintro e w1 ⟨rfl, hb⟩
  have HB1 : Hid (Below w.heap.size w w1) := HB0.out.trans (hb.mono HB0.out.size)
  have ht1 := HT1.out.below hb HT1.out.lt
  have ht2 := HT2.out.below hb HT2.out.lt
  have HW1 := Lib.hid (HVA.out.below HB1.out)
  clear hb HB0 HT1 HT2 HVA
  have HT1 := Lib.hid ht1
  have HT2 := Lib.hid ht2
  have c0 := ht1.c0
  have c1 := ht1.c1
  have c2 := ht1.c2
  have d0 := ht2.c0
  have d1 := ht2.c1
  have d2 := ht2.c2
  clear ht1 ht2
  rw [HZ.out]
  cases bt with
  | false =>
    have HE := Lib.hid (HN.out (.inl rfl))
    go_wp2
    go_ret
    exact ⟨ret_bool HE.out.symm, HB1.out⟩
  | true =>
    go_wp2_with fail
    refine (HA.out _).mono ?_
    rintro e w2 ⟨rfl, hb⟩
    have HB2 : Hid (Below w.heap.size w w2) := HB1.out.trans (hb.mono HB1.out.size)
    have ht1 := HT1.out.below hb HT1.out.lt
    have ht2 := HT2.out.below hb HT2.out.lt
    have HW2 := Lib.hid (HW1.out.below hb)
    clear hb HB1 HW1 HT1 HT2 c0 c1 c2 d0 d1 d2
    have c0 := ht1.c0
    have c1 := ht1.c1
    have c2 := ht1.c2
    have d0 := ht2.c0
    have d1 := ht2.c1
    have d2 := ht2.c2
    clear ht1 ht2
    cases bv with
    | false =>
      have HE := Lib.hid (HN.out (.inr rfl))
      go_wp2
      go_ret
      exact ⟨ret_bool HE.out.symm, HB2.out⟩
    | true =>
      have HE := Lib.hid (HG.out (by simp) (by simp))
      clear HG HN
      by_cases h0 : k = 0
      · subst h0
        go_wp2
        go_ret
        exact ⟨ret_bool (by rw [HE.out]; simp), HB2.out⟩
      · have e0 : (k == 0) = false := by simpa using h0
        by_cases h2 : k = 2
        · subst h2
          by_cases ht : tk = 2
          · subst ht
            have HFT := Lib.hid (De.fits_any i sc hi hsc w2 HW2.out)
            go_wp2_with fail
            refine HFT.out.mono ?_
            rintro e w3 ⟨rfl, hw3⟩
            subst hw3
            go_wp2
            go_ret
            exact ⟨ret_bool HE.out.symm, HB2.out⟩
          · have et : (tk == 2) = false := by simpa using ht
            have HE2 : Hid (res = false) := by show _ = _; rw [HE.out]; simp [ht]
            go_wp2
            go_ret
            exact ⟨ret_bool HE2.out.symm, HB2.out⟩
        · have e2 : (k == 2) = false := by simpa using h2
          have HE2 : Hid ((tk == k) = res) := by show _ = _; rw [HE.out, if_neg h0, if_neg h2]; by_cases h : tk = k <;> simp [h]
          clear HE
          generalize hx : (tk == k) = x at *
          go_wp2
          go_ret
          exact ⟨ret_bool HE2.out, HB2.out⟩

end Go.Proofs.YtocnkjnlmciojaaGreatDoor
