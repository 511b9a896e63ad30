/-
  Values that a type has are valid; a type with a greater scale, or with null, has all values that it has otherwise: for all arguments whose string has at most 100 bytes the law returns true and changes nothing.
-/
import Derived.Test.YtmmdbacejdhdaaaGreatDoorVlEx
import Derived.Deep.DeepCutAuto
import Derived.BigRegion
namespace Go.Proofs.YtmmdbacejdhdaaaGreatDoor.valueTypes
open Go Go.ChangeShapes Go.WideShapes Go.ChangeAt Go.RowKit Go.Shelf
open Go.Proofs.YtmmdbacejdhdaaaGreatDoor

theorem vldT_null (k sc : Int) (n m : Bool) : vldT ⟨k, sc, n⟩ = vldT ⟨k, sc, m⟩ := rfl
theorem has_null (k sc : Int) (n : Bool) : hasV ⟨k, sc, true⟩ Vl.null = vldT ⟨k, sc, n⟩ := by
  unfold hasV
  rw [vldT_null k sc true n, show vldV Vl.null = true from rfl]
  simp [Vl.null]
theorem has_not {t : Ty} {v : Vl} (h : hasV t v = false) : vldT t = false ∨ v.k ≠ 0 ∨ t.null = false ∨ vldV v = false := by
  cases h1 : vldT t with
  | false => exact .inl rfl
  | true =>
    cases h2 : vldV v with
    | false => exact .inr (.inr (.inr rfl))
    | true =>
      rw [has_good h1 h2] at h
      by_cases h3 : v.k = 0
      · rw [if_pos h3] at h; exact .inr (.inr (.inl h))
      · exact .inr (.inl h3)
theorem has_parts {t : Ty} {v : Vl} (h : hasV t v = true) : vldT t = true ∧ vldV v = true := by
  unfold hasV at h
  simp only [Bool.and_eq_true] at h
  exact h.1
theorem has_with {k sc : Int} {n : Bool} {v : Vl} (h : hasV ⟨k, sc, n⟩ v = true) : hasV ⟨k, sc, true⟩ v = true := by
  have hp := has_parts h
  rw [has_good hp.1 hp.2] at h
  rw [has_good (by rw [vldT_null k sc true n]; exact hp.1) hp.2]
  by_cases h0 : v.k = 0
  · rw [if_pos h0]
  · rw [if_neg h0] at h ⊢; exact h
theorem fits_more {n a b : Int} (h : De.fitsB n a = true) (h1 : a < b) (h2 : b ≤ 6) : De.fitsB n b = true := by
  unfold De.fitsB at h ⊢
  simp only [Bool.and_eq_true, decide_eq_true_eq] at h ⊢
  have hs := of_decide_eq_true (show decide (0 ≤ a ∧ a ≤ 6) = true from h.1)
  refine ⟨decide_eq_true (by omega), ?_⟩
  have hd : (De.unitN b.toNat : Int) ∣ (De.unitN a.toNat : Int) := by
    unfold De.unitN
    exact Int.natCast_dvd_natCast.2 (Nat.pow_dvd_pow 10 (by omega))
  exact Int.tmod_eq_zero_of_dvd (Int.dvd_trans hd (Int.dvd_of_tmod_eq_zero h.2))
theorem has_more {sc s2 : Int} {n : Bool} {v : Vl} (h : hasV ⟨2, sc, n⟩ v = true) (h1 : sc < s2) (h2 : s2 ≤ 6) : hasV ⟨2, s2, n⟩ v = true := by
  have hp := has_parts h
  have hsc : 0 ≤ sc ∧ sc ≤ 6 := of_decide_eq_true (show decide (0 ≤ sc ∧ sc ≤ 6) = true from hp.1)
  have hv2 : vldT ⟨2, s2, n⟩ = true := by show decide (0 ≤ s2 ∧ s2 ≤ 6) = true; exact decide_eq_true (by omega)
  rw [has_good hp.1 hp.2] at h
  rw [has_good hv2 hp.2]
  by_cases h0 : v.k = 0
  · rw [if_pos h0] at h ⊢; exact h
  · rw [if_neg h0] at h ⊢
    by_cases h2' : v.k = 2
    · rw [if_pos h2'] at h ⊢
      have hf : De.fitsB v.i sc = true := by simpa using h
      have := fits_more hf h1 h2
      simpa using this
    · rw [if_neg h2'] at h ⊢; exact h
/-- Has the value the type's kind, or is it null? -/
theorem has_kind {t : Ty} {v : Vl} (h : hasV t v = true) : v.k = t.k ∨ v = Vl.null := by
  have hp := has_parts h
  rw [has_good hp.1 hp.2] at h
  by_cases h0 : v.k = 0
  · right
    obtain ⟨k, i, s⟩ := v
    have h0 : k = 0 := h0
    subst h0
    have := hp.2
    rw [vld0] at this
    obtain ⟨h1, h2⟩ := of_decide_eq_true this
    subst h1 h2; rfl
  · left
    rw [if_neg h0] at h
    by_cases h2 : v.k = 2
    · rw [if_pos h2] at h
      simp at h
      rw [h2, h.1]
    · rw [if_neg h2] at h
      exact (of_decide_eq_true h).symm

/-- The second type's scale. -/
def moreS (tk sc s2 : Int) : Int := if sc < s2 ∧ s2 ≤ 6 ∧ tk = 2 then s2 else sc
theorem has_moreS {tk sc s2 : Int} {n : Bool} {v : Vl} (h : hasV ⟨tk, sc, n⟩ v = true) : hasV ⟨tk, moreS tk sc s2, n⟩ v = true := by
  unfold moreS
  split
  · rename_i hh
    obtain ⟨h1, h2, rfl⟩ := hh
    exact has_more h h1 h2
  · exact h

/-- What stays while the law asks. -/
def Four (w : World) (B N M : Nat) (tk sc : Int) (nl : Bool) (ms k i : Int) (s : List UInt8) (W : World) : Prop :=
  De.Vars W ∧ Trio W B 41 (.int .i64 tk) (.int .i64 sc) (.bool nl) ∧ Trio W (B + 1) 45 (.int .i64 k) (.int .i64 i) (.string (bsOf s)) ∧ Trio W N 41 (.int .i64 tk) (.int .i64 sc) (.bool true) ∧ Trio W M 41 (.int .i64 tk) (.int .i64 ms) (.bool nl) ∧ Below w.heap.size w W
theorem Four.below {w W V : World} {B N M : Nat} {tk sc : Int} {nl : Bool} {ms k i : Int} {s : List UInt8} (h : Four w B N M tk sc nl ms k i s W) (hb : Below W.heap.size W V) : Four w B N M tk sc nl ms k i s V :=
  ⟨h.1.below hb, h.2.1.below hb h.2.1.lt, h.2.2.1.below hb h.2.2.1.lt, h.2.2.2.1.below hb h.2.2.2.1.lt, h.2.2.2.2.1.below hb h.2.2.2.2.1.lt, h.2.2.2.2.2.trans (hb.mono h.2.2.2.2.2.size)⟩
theorem i64_moreS {tk sc s2 : Int} (h : I64 sc) (h2 : I64 s2) : I64 (moreS tk sc s2) := by
  unfold moreS; split <;> assumption
theorem has_lit (tk sc : Int) (nl : Bool) (k i : Int) (s : List UInt8) (ht : (⟨tk, sc, nl⟩ : Ty).Ok) (hv : (⟨k, i, s⟩ : Vl).Ok) (w : World) (hV : De.Vars w) :
    Calls Tryz.prog 39 #[.agg #[.int .i64 tk, .int .i64 sc, .bool nl], .agg #[.int .i64 k, .int .i64 i, .string (bsOf s)]] w fun e w' => e = .returned (.bool (hasV ⟨tk, sc, nl⟩ ⟨k, i, s⟩)) ∧ Below w.heap.size w w' := has_any ⟨tk, sc, nl⟩ ⟨k, i, s⟩ ht hv w hV
theorem hasNull_lit (tk sc : Int) (nl : Bool) (ht : (⟨tk, sc, true⟩ : Ty).Ok) (w : World) (hV : De.Vars w) :
    Calls Tryz.prog 39 #[.agg #[.int .i64 tk, .int .i64 sc, .bool true], .agg #[.int .i64 0, .int .i64 0, .string ⟨#[]⟩]] w fun e w' => e = .returned (.bool (vldT ⟨tk, sc, nl⟩)) ∧ Below w.heap.size w w' := by
  have h := has_any ⟨tk, sc, true⟩ Vl.null ht ⟨⟨by decide, by decide⟩, ⟨by decide, by decide⟩, by decide⟩ w hV
  rw [has_null tk sc nl] at h
  exact h
theorem valid_lit (k i : Int) (s : List UInt8) (hv : (⟨k, i, s⟩ : Vl).Ok) (w : World) :
    Calls Tryz.prog 35 #[.agg #[.int .i64 k, .int .i64 i, .string (bsOf s)]] w fun e w' => e = .returned (.bool (vldV ⟨k, i, s⟩)) ∧ Below w.heap.size w w' := valid_any ⟨k, i, s⟩ hv w
theorem wide_lit (k i : Int) (s : List UInt8) (hv : (⟨k, i, s⟩ : Vl).Ok) (w : World) :
    Calls Tryz.prog 37 #[.agg #[.int .i64 k, .int .i64 i, .string (bsOf s)]] w fun e w' => e = .returned (.bool (widV ⟨k, i, s⟩)) ∧ Below w.heap.size w w' := wide_any ⟨k, i, s⟩ hv w
theorem validType_lit (tk sc : Int) (nl : Bool) (w : World) :
    Calls Tryz.prog 51 #[.agg #[.int .i64 tk, .int .i64 sc, .bool nl]] w fun e w' => e = .returned (.bool (vldT ⟨tk, sc, nl⟩)) ∧ Below w.heap.size w w' := validType_any ⟨tk, sc, nl⟩ w

set_option maxRecDepth 100000 in
set_option maxHeartbeats 4000000 in
theorem walk (t : Ty) (v : Vl) (s2 : Int) (ht : t.Ok) (hv : v.Ok) (h100 : v.s.length ≤ 100) (hs2 : I64 s2) (w : World) (hV : De.Vars w) :
    Calls Tryz.prog 6 #[encT t, encV v, .int .i64 s2] w fun e w' => e = .returned (.bool true) ∧ Below w.heap.size w w' := by
  obtain ⟨tk, sc, nl⟩ := t
  obtain ⟨k, i, s⟩ := v
  have hVV := hv
  have hTT := ht
  have h100 : s.length ≤ 100 := h100
  unfold encT encV
  dsimp only
  have hsz := bs_size s
  have hT := Trio.new w 41 (.int .i64 tk) (.int .i64 sc) (.bool nl)
  have hb1 := (Below.refl w.heap.size w).alloc (Nat.le_refl _) (.cells #[.int .i64 tk, .int .i64 sc, .bool nl] 41)
  have hT1 := hT.below (V := (w.alloc (.cells #[.int .i64 tk, .int .i64 sc, .bool nl] 41)).alloc (.cells #[.int .i64 k, .int .i64 i, .string (bsOf s)] 45)) ((Below.refl (w.alloc (.cells #[.int .i64 tk, .int .i64 sc, .bool nl] 41)).heap.size _).alloc (Nat.le_refl _) _) hT.lt
  have hb2 := hb1.alloc (by simp) (.cells #[.int .i64 k, .int .i64 i, .string (bsOf s)] 45)
  have hT2 := Trio.new (w.alloc (.cells #[.int .i64 tk, .int .i64 sc, .bool nl] 41)) 45 (.int .i64 k) (.int .i64 i) (.string (bsOf s))
  rw [World.size_alloc] at hT2
  have HT1 := Lib.hid hT1
  have HT2 := Lib.hid hT2
  have HB0 := Lib.hid hb2
  have HVA := Lib.hid (hV.below hb2)
  clear hT hb1 hT1 hb2 hT2 hV
  go_enter Tryz.func6, Tryz.ntmps6
  go_wp2_with fail
  obtain ⟨B, hB⟩ : ∃ B, w.heap.size = B := ⟨_, rfl⟩
  rw [hB] at HT1 HT2 ⊢
  have HZ := Lib.hid hB
  clear hB
  generalize (w.alloc (.cells #[.int .i64 tk, .int .i64 sc, .bool nl] 41)).alloc (.cells #[.int .i64 k, .int .i64 i, .string (bsOf s)] 45) = V at *
  refine (examples6_any V HVA.out).mono ?_
  rintro e w1 ⟨rfl, hb⟩
  have hq1 := HT1.out.below hb HT1.out.lt
  have hq2 := HT2.out.below hb HT2.out.lt
  have HB1 : Hid (Below w.heap.size w w1) := HB0.out.trans (hb.mono HB0.out.size)
  have HW1 := Lib.hid (HVA.out.below hb)
  clear hb HT1 HT2 HB0 HVA
  have HT1 := Lib.hid hq1
  have HT2 := Lib.hid hq2
  have c0 := hq1.c0
  have c1 := hq1.c1
  have c2 := hq1.c2
  have d0 := hq2.c0
  have d1 := hq2.c1
  have d2 := hq2.c2
  have plt := hq1.lt
  have qlt := hq2.lt
  clear hq1 hq2
  go_upto_region 6 with fail
  go_cut [8, 9] (fun p q wx => ∃ N M : Nat, p = .pointer (some ⟨N, 0, none⟩) ∧ q = .pointer (some ⟨M, 0, none⟩) ∧ Hid (N ≠ M ∧ Trio wx N 41 (.int .i64 tk) (.int .i64 sc) (.bool nl) ∧ Trio wx M 41 (.int .i64 tk) (.int .i64 sc) (.bool nl) ∧ w1.heap.size ≤ N ∧ w1.heap.size ≤ M ∧ Below w1.heap.size w1 wx))
  case first =>
    go_region
    all_goals (go_wp2_with fail; go_meet)
    · refine ⟨_, _, rfl, rfl, ?_⟩
      refine ⟨by omega, ?_, ?_, Nat.le_refl _, by omega, ?_⟩
      · exact (Below.heap_alloc _ _ _ (by simp)).trans (Trio.new w1 _ _ _ _)
      · have := Trio.new (w1.alloc (.cells #[.int .i64 tk, .int .i64 sc, .bool nl] 41)) 41 (.int .i64 tk) (.int .i64 sc) (.bool nl)
        rw [World.size_alloc] at this
        exact this
      · exact below_drewN (((Below.self w1).alloc (Nat.le_refl _) _).alloc (by simp) _) 1
    · refine ⟨_, _, rfl, rfl, ?_⟩
      refine ⟨by omega, ?_, ?_, by omega, Nat.le_refl _, ?_⟩
      · have := Trio.new (w1.alloc (.cells #[.int .i64 tk, .int .i64 sc, .bool nl] 41)) 41 (.int .i64 tk) (.int .i64 sc) (.bool nl)
        rw [World.size_alloc] at this
        exact this
      · exact (Below.heap_alloc _ _ _ (by simp)).trans (Trio.new w1 _ _ _ _)
      · exact below_drewN (((Below.self w1).alloc (Nat.le_refl _) _).alloc (by simp) _) 1
  case rest =>
    obtain ⟨N, M, rfl, rfl, HC⟩ := hcut
    have hNM := HC.out.1
    have n0 := HC.out.2.1.c0
    have n1 := HC.out.2.1.c1
    have n2 := HC.out.2.1.c2
    have nf := HC.out.2.1.f 2
    have nlt := HC.out.2.1.lt
    -- the world behind the first store
    have HD : Hid (Trio (wc.setCell ⟨N, 2, none⟩ (.bool true)) N 41 (.int .i64 tk) (.int .i64 sc) (.bool true) ∧ Trio (wc.setCell ⟨N, 2, none⟩ (.bool true)) M 41 (.int .i64 tk) (.int .i64 sc) (.bool nl) ∧ Below w1.heap.size w1 (wc.setCell ⟨N, 2, none⟩ (.bool true))) :=
      ⟨set_block (i := 2) HC.out.2.1 (.bool true), (by
        have hb : (wc.setCell ⟨N, 2, none⟩ (.bool true)).heap[M]? = wc.heap[M]? := by simp [World.setCell, Array.getElem?_modify, hNM]
        exact hb.trans HC.out.2.2.1), HC.out.2.2.2.2.2.setCell HC.out.2.2.2.1 _⟩
    have HMB : Hid (w1.heap.size ≤ M) := HC.out.2.2.2.2.1
    have HNM := Lib.hid hNM
    go_upto_region 8 with fail
    clear n0 n1 n2 nf nlt hNM HC c0 c1 c2 d0 d1 d2 plt qlt
    generalize wc.setCell ⟨N, 2, none⟩ (.bool true) = U at *
    have hB3 : Below w1.heap.size w1 U := HD.out.2.2
    have hq1 := HT1.out.below hB3 HT1.out.lt
    have c0 := hq1.c0
    have c1 := hq1.c1
    have c2 := hq1.c2
    clear hB3 hq1
    have m0 := HD.out.2.1.c0
    have m1 := HD.out.2.1.c1
    have m2 := HD.out.2.1.c2
    have mf := HD.out.2.1.f 1
    have mlt := HD.out.2.1.lt
    go_cut [33] (fun b wx => wx = U ∧ b = .bool (decide (sc < s2 ∧ s2 ≤ 6 ∧ tk = 2)))
    case first =>
      by_cases h1 : sc < s2
      · by_cases h2 : s2 ≤ 6
        · by_cases h3 : tk = 2
          · have e3 : (tk == 2) = true := by simpa using h3
            have hd := Lib.hid (show decide (sc < s2 ∧ s2 ≤ 6 ∧ tk = 2) = true from decide_eq_true ⟨h1, h2, h3⟩)
            clear h3
            go_wp2_with fail
            go_meet
            exact ⟨rfl, by rw [hd.out]⟩
          · have e3 : (tk == 2) = false := by simpa using h3
            have hd := Lib.hid (show decide (sc < s2 ∧ s2 ≤ 6 ∧ tk = 2) = false from decide_eq_false fun h => h3 h.2.2)
            clear h3
            go_wp2_with fail
            go_meet
            exact ⟨rfl, by rw [hd.out]⟩
        · have hd := Lib.hid (show decide (sc < s2 ∧ s2 ≤ 6 ∧ tk = 2) = false from decide_eq_false fun h => h2 h.2.1)
          go_wp2_with fail
          go_meet
          exact ⟨rfl, by rw [hd.out]⟩
      · have hd := Lib.hid (show decide (sc < s2 ∧ s2 ≤ 6 ∧ tk = 2) = false from decide_eq_false fun h => h1 h.1)
        go_wp2_with fail
        go_meet
        exact ⟨rfl, by rw [hd.out]⟩
    case rest =>
      obtain ⟨rfl, rfl⟩ := hcut
      obtain ⟨ms, hms⟩ : ∃ ms, Hid (ms = moreS tk sc s2) := ⟨_, Lib.hid rfl⟩
      have hTN : (⟨tk, sc, true⟩ : Ty).Ok := ⟨hTT.k, hTT.scale⟩
      have hTM : (⟨tk, ms, nl⟩ : Ty).Ok := ⟨hTT.k, by rw [hms.out]; exact i64_moreS hTT.scale hs2⟩
      by_cases hc : sc < s2 ∧ s2 ≤ 6 ∧ tk = 2
      · have hd : decide (sc < s2 ∧ s2 ≤ 6 ∧ tk = 2) = true := decide_eq_true hc
        have hm2 : ms = s2 := hms.out.trans (if_pos hc)
        rw [hd]
        clear hd hc
        have HF0 : Hid (Four w B N M tk sc nl ms k i s (wc.setCell ⟨M, 1, none⟩ (.int .i64 s2))) := by
          have hb9 : Below w1.heap.size w1 (wc.setCell ⟨M, 1, none⟩ (.int .i64 s2)) := HD.out.2.2.setCell HMB.out _
          refine Lib.hid ⟨HW1.out.below hb9, HT1.out.below hb9 HT1.out.lt, HT2.out.below hb9 HT2.out.lt, ?_, ?_, HB1.out.trans (hb9.mono HB1.out.size)⟩
          · have hb : (wc.setCell ⟨M, 1, none⟩ (.int .i64 s2)).heap[N]? = wc.heap[N]? := by simp [World.setCell, Array.getElem?_modify, Ne.symm HNM.out]
            exact hb.trans HD.out.1
          · rw [hm2]; exact set_block (i := 1) HD.out.2.1 (.int .i64 s2)
        go_upto_region 10 with fail
        clear c0 c1 c2 m0 m1 m2 mf mlt HD HT1 HT2 HW1 HB1 hm2
        generalize wc.setCell ⟨M, 1, none⟩ (.int .i64 s2) = U at *
        have b0 := HF0.out.2.1.c0
        have b1 := HF0.out.2.1.c1
        have b2 := HF0.out.2.1.c2
        have v0 := HF0.out.2.2.1.c0
        have v1 := HF0.out.2.2.1.c1
        have v2 := HF0.out.2.2.1.c2
        have n0 := HF0.out.2.2.2.1.c0
        have n1 := HF0.out.2.2.2.1.c1
        have n2 := HF0.out.2.2.2.1.c2
        have m0 := HF0.out.2.2.2.2.1.c0
        have m1 := HF0.out.2.2.2.2.1.c1
        have m2 := HF0.out.2.2.2.2.1.c2
        go_wp2_with fail
        refine (has_lit tk sc nl k i s hTT hVV _ HF0.out.1).mono ?_
        rintro e wx1 ⟨rfl, hb⟩
        have HF1 := Lib.hid (HF0.out.below hb)
        clear hb HF0 b0 b1 b2 v0 v1 v2 n0 n1 n2 m0 m1 m2
        obtain ⟨bh, hbh⟩ : ∃ x, hasV ⟨tk, sc, nl⟩ ⟨k, i, s⟩ = x := ⟨_, rfl⟩
        rw [hbh]
        cases bh with
        | true =>
          have e1 := (has_parts hbh).1
          have e2 := (has_parts hbh).2
          have e3 := wid_of e2
          have e4 := has_with hbh
          have e5 : hasV ⟨tk, ms, nl⟩ ⟨k, i, s⟩ = true := hms.out ▸ has_moreS (s2 := s2) hbh
          have e6 := Lib.hid (has_kind hbh)
          have E1 := Lib.hid e1
          have E2 := Lib.hid e2
          have E3 := Lib.hid e3
          have E4 := Lib.hid e4
          have E5 := Lib.hid e5
          clear e1 e2 e3 e4 e5 hbh
          have b0 := HF1.out.2.1.c0
          have b1 := HF1.out.2.1.c1
          have b2 := HF1.out.2.1.c2
          have v0 := HF1.out.2.2.1.c0
          have v1 := HF1.out.2.2.1.c1
          have v2 := HF1.out.2.2.1.c2
          have n0 := HF1.out.2.2.2.1.c0
          have n1 := HF1.out.2.2.2.1.c1
          have n2 := HF1.out.2.2.2.1.c2
          have m0 := HF1.out.2.2.2.2.1.c0
          have m1 := HF1.out.2.2.2.2.1.c1
          have m2 := HF1.out.2.2.2.2.1.c2
          go_wp2_with fail
          refine (valid_lit k i s hVV _).mono ?_
          rintro e wx2 ⟨rfl, hb⟩
          have HF2 := Lib.hid (HF1.out.below hb)
          clear hb HF1 b0 b1 b2 v0 v1 v2 n0 n1 n2 m0 m1 m2
          have b0 := HF2.out.2.1.c0
          have b1 := HF2.out.2.1.c1
          have b2 := HF2.out.2.1.c2
          have v0 := HF2.out.2.2.1.c0
          have v1 := HF2.out.2.2.1.c1
          have v2 := HF2.out.2.2.1.c2
          have n0 := HF2.out.2.2.2.1.c0
          have n1 := HF2.out.2.2.2.1.c1
          have n2 := HF2.out.2.2.2.1.c2
          have m0 := HF2.out.2.2.2.2.1.c0
          have m1 := HF2.out.2.2.2.2.1.c1
          have m2 := HF2.out.2.2.2.2.1.c2
          rw [E2.out]
          go_wp2_with fail
          refine (wide_lit k i s hVV _).mono ?_
          rintro e wx3 ⟨rfl, hb⟩
          have HF3 := Lib.hid (HF2.out.below hb)
          clear hb HF2 b0 b1 b2 v0 v1 v2 n0 n1 n2 m0 m1 m2
          have b0 := HF3.out.2.1.c0
          have b1 := HF3.out.2.1.c1
          have b2 := HF3.out.2.1.c2
          have v0 := HF3.out.2.2.1.c0
          have v1 := HF3.out.2.2.1.c1
          have v2 := HF3.out.2.2.1.c2
          have n0 := HF3.out.2.2.2.1.c0
          have n1 := HF3.out.2.2.2.1.c1
          have n2 := HF3.out.2.2.2.1.c2
          have m0 := HF3.out.2.2.2.2.1.c0
          have m1 := HF3.out.2.2.2.2.1.c1
          have m2 := HF3.out.2.2.2.2.1.c2
          rw [E3.out]
          go_wp2_with fail
          refine (validType_lit tk sc nl _).mono ?_
          rintro e wx4 ⟨rfl, hb⟩
          have HF4 := Lib.hid (HF3.out.below hb)
          clear hb HF3 b0 b1 b2 v0 v1 v2 n0 n1 n2 m0 m1 m2
          have b0 := HF4.out.2.1.c0
          have b1 := HF4.out.2.1.c1
          have b2 := HF4.out.2.1.c2
          have v0 := HF4.out.2.2.1.c0
          have v1 := HF4.out.2.2.1.c1
          have v2 := HF4.out.2.2.1.c2
          have n0 := HF4.out.2.2.2.1.c0
          have n1 := HF4.out.2.2.2.1.c1
          have n2 := HF4.out.2.2.2.1.c2
          have m0 := HF4.out.2.2.2.2.1.c0
          have m1 := HF4.out.2.2.2.2.1.c1
          have m2 := HF4.out.2.2.2.2.1.c2
          rw [E1.out]
          go_wp2_with fail
          refine (has_lit tk sc true k i s hTN hVV _ HF4.out.1).mono ?_
          rintro e wx5 ⟨rfl, hb⟩
          have HF5 := Lib.hid (HF4.out.below hb)
          clear hb HF4 b0 b1 b2 v0 v1 v2 n0 n1 n2 m0 m1 m2
          have b0 := HF5.out.2.1.c0
          have b1 := HF5.out.2.1.c1
          have b2 := HF5.out.2.1.c2
          have v0 := HF5.out.2.2.1.c0
          have v1 := HF5.out.2.2.1.c1
          have v2 := HF5.out.2.2.1.c2
          have n0 := HF5.out.2.2.2.1.c0
          have n1 := HF5.out.2.2.2.1.c1
          have n2 := HF5.out.2.2.2.1.c2
          have m0 := HF5.out.2.2.2.2.1.c0
          have m1 := HF5.out.2.2.2.2.1.c1
          have m2 := HF5.out.2.2.2.2.1.c2
          rw [E4.out]
          go_wp2_with fail
          refine (has_lit tk ms nl k i s hTM hVV _ HF5.out.1).mono ?_
          rintro e wx6 ⟨rfl, hb⟩
          have HF6 := Lib.hid (HF5.out.below hb)
          clear hb HF5 b0 b1 b2 v0 v1 v2 n0 n1 n2 m0 m1 m2
          have b0 := HF6.out.2.1.c0
          have b1 := HF6.out.2.1.c1
          have b2 := HF6.out.2.1.c2
          have v0 := HF6.out.2.2.1.c0
          have v1 := HF6.out.2.2.1.c1
          have v2 := HF6.out.2.2.1.c2
          have n0 := HF6.out.2.2.2.1.c0
          have n1 := HF6.out.2.2.2.1.c1
          have n2 := HF6.out.2.2.2.1.c2
          have m0 := HF6.out.2.2.2.2.1.c0
          have m1 := HF6.out.2.2.2.2.1.c1
          have m2 := HF6.out.2.2.2.2.1.c2
          rw [E5.out]
          have HFIN := Lib.hid HF6.out.2.2.2.2.2
          clear HF6
          by_cases hk : k = tk
          · subst hk
            go_wp2_with fail
            go_ret
            exact ⟨rfl, HFIN.out⟩
          · have ek : (k == tk) = false := by simpa using hk
            have hz := e6.out.resolve_left hk
            injection hz with z1 z2 z3
            subst z1 z2 z3
            rw [show bsOf [] = (⟨#[]⟩ : ByteArray) from rfl] at v2
            have l0 : (⟨#[]⟩ : ByteArray).toList = [] := bs_list []
            go_wp2_with fail
            go_ret
            exact ⟨rfl, HFIN.out⟩
        | false =>
          have hno := has_not hbh
          clear hbh
          have b0 := fun d os => cell_regrown HF1.out.2.1.c0 d os
          have b1 := fun d os => cell_regrown HF1.out.2.1.c1 d os
          have b2 := fun d os => cell_regrown HF1.out.2.1.c2 d os
          have v0 := fun d os => cell_regrown HF1.out.2.2.1.c0 d os
          have v1 := fun d os => cell_regrown HF1.out.2.2.1.c1 d os
          have v2 := fun d os => cell_regrown HF1.out.2.2.1.c2 d os
          have n0 := fun d os => cell_regrown HF1.out.2.2.2.1.c0 d os
          have n1 := fun d os => cell_regrown HF1.out.2.2.2.1.c1 d os
          have n2 := fun d os => cell_regrown HF1.out.2.2.2.1.c2 d os
          have HA : Hid (∀ d os, Calls Tryz.prog 51 #[.agg #[.int .i64 tk, .int .i64 sc, .bool nl]] (Go.Sort.grow (redrawn wx1 d) os) fun e w' => e = .returned (.bool (vldT ⟨tk, sc, nl⟩)) ∧ Below (Go.Sort.grow (redrawn wx1 d) os).heap.size (Go.Sort.grow (redrawn wx1 d) os) w') := fun d os => validType_lit tk sc nl _
          have HB : Hid (∀ d os, Calls Tryz.prog 35 #[.agg #[.int .i64 k, .int .i64 i, .string (bsOf s)]] (Go.Sort.grow (redrawn wx1 d) os) fun e w' => e = .returned (.bool (vldV ⟨k, i, s⟩)) ∧ Below (Go.Sort.grow (redrawn wx1 d) os).heap.size (Go.Sort.grow (redrawn wx1 d) os) w') := fun d os => valid_lit k i s hVV _
          have HH : Hid (∀ d os, Calls Tryz.prog 39 #[.agg #[.int .i64 tk, .int .i64 sc, .bool true], .agg #[.int .i64 0, .int .i64 0, .string ⟨#[]⟩]] (Go.Sort.grow (redrawn wx1 d) os) fun e w' => e = .returned (.bool (vldT ⟨tk, sc, nl⟩)) ∧ Below (Go.Sort.grow (redrawn wx1 d) os).heap.size (Go.Sort.grow (redrawn wx1 d) os) w') := fun d os => hasNull_lit tk sc nl hTN _ (HF1.out.1.below (below_regrown wx1 d os))
          have HFB := Lib.hid HF1.out.2.2.2.2.2
          clear HF1
          obtain ⟨bt, hbt⟩ : ∃ x, vldT ⟨tk, sc, nl⟩ = x := ⟨_, rfl⟩
          obtain ⟨bv, hbv⟩ : ∃ x, vldV ⟨k, i, s⟩ = x := ⟨_, rfl⟩
          rw [hbt] at HA HH hno
          rw [hbv] at HB hno
          clear hbt hbv
          cases bt with
          | false =>
            clear hno
            go_upto_region 11 with fail
            refine wp_region_quiet_below (by kernel_rfl) (by kernel_rfl) ?_
            repeat (go_big_quiet_step (first
              | (go_at_call 51; with_reducible exact Calls.regrown_of (HA.out _ _))
              | (go_at_call 35; with_reducible exact Calls.regrown_of (HB.out _ _))
              | (go_at_call 39; with_reducible exact Calls.regrown_of (HH.out _ _))))
            refine wpQuiet_nil ?_
            intro _ hw'
            obtain ⟨⟨dq, osq⟩, hw''⟩ := hw'
            subst hw''
            have HBQ := Lib.hid (HFB.out.trans ((below_regrown wx1 dq osq).mono HFB.out.size))
            clear b0 b1 b2 v0 v1 v2 n0 n1 n2
            generalize Go.Sort.grow (redrawn wx1 dq) osq = WQ at *
            go_wp2_with fail
            go_ret
            exact ⟨rfl, HBQ.out⟩
          | true =>
            by_cases hk : k = 0
            · cases nl with
              | false =>
                clear hno
                have ek : (k != 0) = false := by simpa using hk
                subst hk
                go_upto_region 11 with fail
                refine wp_region_quiet_below (by kernel_rfl) (by kernel_rfl) ?_
                repeat (go_big_quiet_step (first
                  | (go_at_call 51; with_reducible exact Calls.regrown_of (HA.out _ _))
                  | (go_at_call 35; with_reducible exact Calls.regrown_of (HB.out _ _))
                  | (go_at_call 39; with_reducible exact Calls.regrown_of (HH.out _ _))))
                refine wpQuiet_nil ?_
                intro _ hw'
                obtain ⟨⟨dq, osq⟩, hw''⟩ := hw'
                subst hw''
                have HBQ := Lib.hid (HFB.out.trans ((below_regrown wx1 dq osq).mono HFB.out.size))
                clear b0 b1 b2 v0 v1 v2 n0 n1 n2
                generalize Go.Sort.grow (redrawn wx1 dq) osq = WQ at *
                go_wp2_with fail
                go_ret
                exact ⟨rfl, HBQ.out⟩
              | true =>
                obtain rfl : bv = false := by rcases hno with h | h | h | h <;> first | exact h | exact absurd hk h | exact absurd h (by simp)
                clear hno
                subst hk
                go_upto_region 11 with fail
                refine wp_region_quiet_below (by kernel_rfl) (by kernel_rfl) ?_
                repeat (go_big_quiet_step (first
                  | (go_at_call 51; with_reducible exact Calls.regrown_of (HA.out _ _))
                  | (go_at_call 35; with_reducible exact Calls.regrown_of (HB.out _ _))
                  | (go_at_call 39; with_reducible exact Calls.regrown_of (HH.out _ _))))
                refine wpQuiet_nil ?_
                intro _ hw'
                obtain ⟨⟨dq, osq⟩, hw''⟩ := hw'
                subst hw''
                have HBQ := Lib.hid (HFB.out.trans ((below_regrown wx1 dq osq).mono HFB.out.size))
                clear b0 b1 b2 v0 v1 v2 n0 n1 n2
                generalize Go.Sort.grow (redrawn wx1 dq) osq = WQ at *
                go_wp2_with fail
                go_ret
                exact ⟨rfl, HBQ.out⟩
            · clear hno
              have ek : (k != 0) = true := by simpa using hk
              go_upto_region 11 with fail
              refine wp_region_quiet_below (by kernel_rfl) (by kernel_rfl) ?_
              repeat (go_big_quiet_step (first
                | (go_at_call 51; with_reducible exact Calls.regrown_of (HA.out _ _))
                | (go_at_call 35; with_reducible exact Calls.regrown_of (HB.out _ _))
                | (go_at_call 39; with_reducible exact Calls.regrown_of (HH.out _ _))))
              refine wpQuiet_nil ?_
              intro _ hw'
              obtain ⟨⟨dq, osq⟩, hw''⟩ := hw'
              subst hw''
              have HBQ := Lib.hid (HFB.out.trans ((below_regrown wx1 dq osq).mono HFB.out.size))
              clear b0 b1 b2 v0 v1 v2 n0 n1 n2
              generalize Go.Sort.grow (redrawn wx1 dq) osq = WQ at *
              go_wp2_with fail
              go_ret
              exact ⟨rfl, HBQ.out⟩
      · have hd : decide (sc < s2 ∧ s2 ≤ 6 ∧ tk = 2) = false := decide_eq_false hc
        have hm2 : ms = sc := hms.out.trans (if_neg hc)
        rw [hd]
        clear hd hc
        have HF0 : Hid (Four w B N M tk sc nl ms k i s wc) := by
          have hb9 := HD.out.2.2
          exact Lib.hid ⟨HW1.out.below hb9, HT1.out.below hb9 HT1.out.lt, HT2.out.below hb9 HT2.out.lt, HD.out.1, by rw [hm2]; exact HD.out.2.1, HB1.out.trans (hb9.mono HB1.out.size)⟩
        clear c0 c1 c2 m0 m1 m2 mf mlt HD HT1 HT2 HW1 HB1 hm2
        have b0 := HF0.out.2.1.c0
        have b1 := HF0.out.2.1.c1
        have b2 := HF0.out.2.1.c2
        have v0 := HF0.out.2.2.1.c0
        have v1 := HF0.out.2.2.1.c1
        have v2 := HF0.out.2.2.1.c2
        have n0 := HF0.out.2.2.2.1.c0
        have n1 := HF0.out.2.2.2.1.c1
        have n2 := HF0.out.2.2.2.1.c2
        have m0 := HF0.out.2.2.2.2.1.c0
        have m1 := HF0.out.2.2.2.2.1.c1
        have m2 := HF0.out.2.2.2.2.1.c2
        go_wp2_with fail
        refine (has_lit tk sc nl k i s hTT hVV _ HF0.out.1).mono ?_
        rintro e wx1 ⟨rfl, hb⟩
        have HF1 := Lib.hid (HF0.out.below hb)
        clear hb HF0 b0 b1 b2 v0 v1 v2 n0 n1 n2 m0 m1 m2
        obtain ⟨bh, hbh⟩ : ∃ x, hasV ⟨tk, sc, nl⟩ ⟨k, i, s⟩ = x := ⟨_, rfl⟩
        rw [hbh]
        cases bh with
        | true =>
          have e1 := (has_parts hbh).1
          have e2 := (has_parts hbh).2
          have e3 := wid_of e2
          have e4 := has_with hbh
          have e5 : hasV ⟨tk, ms, nl⟩ ⟨k, i, s⟩ = true := hms.out ▸ has_moreS (s2 := s2) hbh
          have e6 := Lib.hid (has_kind hbh)
          have E1 := Lib.hid e1
          have E2 := Lib.hid e2
          have E3 := Lib.hid e3
          have E4 := Lib.hid e4
          have E5 := Lib.hid e5
          clear e1 e2 e3 e4 e5 hbh
          have b0 := HF1.out.2.1.c0
          have b1 := HF1.out.2.1.c1
          have b2 := HF1.out.2.1.c2
          have v0 := HF1.out.2.2.1.c0
          have v1 := HF1.out.2.2.1.c1
          have v2 := HF1.out.2.2.1.c2
          have n0 := HF1.out.2.2.2.1.c0
          have n1 := HF1.out.2.2.2.1.c1
          have n2 := HF1.out.2.2.2.1.c2
          have m0 := HF1.out.2.2.2.2.1.c0
          have m1 := HF1.out.2.2.2.2.1.c1
          have m2 := HF1.out.2.2.2.2.1.c2
          go_wp2_with fail
          refine (valid_lit k i s hVV _).mono ?_
          rintro e wx2 ⟨rfl, hb⟩
          have HF2 := Lib.hid (HF1.out.below hb)
          clear hb HF1 b0 b1 b2 v0 v1 v2 n0 n1 n2 m0 m1 m2
          have b0 := HF2.out.2.1.c0
          have b1 := HF2.out.2.1.c1
          have b2 := HF2.out.2.1.c2
          have v0 := HF2.out.2.2.1.c0
          have v1 := HF2.out.2.2.1.c1
          have v2 := HF2.out.2.2.1.c2
          have n0 := HF2.out.2.2.2.1.c0
          have n1 := HF2.out.2.2.2.1.c1
          have n2 := HF2.out.2.2.2.1.c2
          have m0 := HF2.out.2.2.2.2.1.c0
          have m1 := HF2.out.2.2.2.2.1.c1
          have m2 := HF2.out.2.2.2.2.1.c2
          rw [E2.out]
          go_wp2_with fail
          refine (wide_lit k i s hVV _).mono ?_
          rintro e wx3 ⟨rfl, hb⟩
          have HF3 := Lib.hid (HF2.out.below hb)
          clear hb HF2 b0 b1 b2 v0 v1 v2 n0 n1 n2 m0 m1 m2
          have b0 := HF3.out.2.1.c0
          have b1 := HF3.out.2.1.c1
          have b2 := HF3.out.2.1.c2
          have v0 := HF3.out.2.2.1.c0
          have v1 := HF3.out.2.2.1.c1
          have v2 := HF3.out.2.2.1.c2
          have n0 := HF3.out.2.2.2.1.c0
          have n1 := HF3.out.2.2.2.1.c1
          have n2 := HF3.out.2.2.2.1.c2
          have m0 := HF3.out.2.2.2.2.1.c0
          have m1 := HF3.out.2.2.2.2.1.c1
          have m2 := HF3.out.2.2.2.2.1.c2
          rw [E3.out]
          go_wp2_with fail
          refine (validType_lit tk sc nl _).mono ?_
          rintro e wx4 ⟨rfl, hb⟩
          have HF4 := Lib.hid (HF3.out.below hb)
          clear hb HF3 b0 b1 b2 v0 v1 v2 n0 n1 n2 m0 m1 m2
          have b0 := HF4.out.2.1.c0
          have b1 := HF4.out.2.1.c1
          have b2 := HF4.out.2.1.c2
          have v0 := HF4.out.2.2.1.c0
          have v1 := HF4.out.2.2.1.c1
          have v2 := HF4.out.2.2.1.c2
          have n0 := HF4.out.2.2.2.1.c0
          have n1 := HF4.out.2.2.2.1.c1
          have n2 := HF4.out.2.2.2.1.c2
          have m0 := HF4.out.2.2.2.2.1.c0
          have m1 := HF4.out.2.2.2.2.1.c1
          have m2 := HF4.out.2.2.2.2.1.c2
          rw [E1.out]
          go_wp2_with fail
          refine (has_lit tk sc true k i s hTN hVV _ HF4.out.1).mono ?_
          rintro e wx5 ⟨rfl, hb⟩
          have HF5 := Lib.hid (HF4.out.below hb)
          clear hb HF4 b0 b1 b2 v0 v1 v2 n0 n1 n2 m0 m1 m2
          have b0 := HF5.out.2.1.c0
          have b1 := HF5.out.2.1.c1
          have b2 := HF5.out.2.1.c2
          have v0 := HF5.out.2.2.1.c0
          have v1 := HF5.out.2.2.1.c1
          have v2 := HF5.out.2.2.1.c2
          have n0 := HF5.out.2.2.2.1.c0
          have n1 := HF5.out.2.2.2.1.c1
          have n2 := HF5.out.2.2.2.1.c2
          have m0 := HF5.out.2.2.2.2.1.c0
          have m1 := HF5.out.2.2.2.2.1.c1
          have m2 := HF5.out.2.2.2.2.1.c2
          rw [E4.out]
          go_wp2_with fail
          refine (has_lit tk ms nl k i s hTM hVV _ HF5.out.1).mono ?_
          rintro e wx6 ⟨rfl, hb⟩
          have HF6 := Lib.hid (HF5.out.below hb)
          clear hb HF5 b0 b1 b2 v0 v1 v2 n0 n1 n2 m0 m1 m2
          have b0 := HF6.out.2.1.c0
          have b1 := HF6.out.2.1.c1
          have b2 := HF6.out.2.1.c2
          have v0 := HF6.out.2.2.1.c0
          have v1 := HF6.out.2.2.1.c1
          have v2 := HF6.out.2.2.1.c2
          have n0 := HF6.out.2.2.2.1.c0
          have n1 := HF6.out.2.2.2.1.c1
          have n2 := HF6.out.2.2.2.1.c2
          have m0 := HF6.out.2.2.2.2.1.c0
          have m1 := HF6.out.2.2.2.2.1.c1
          have m2 := HF6.out.2.2.2.2.1.c2
          rw [E5.out]
          have HFIN := Lib.hid HF6.out.2.2.2.2.2
          clear HF6
          by_cases hk : k = tk
          · subst hk
            go_wp2_with fail
            go_ret
            exact ⟨rfl, HFIN.out⟩
          · have ek : (k == tk) = false := by simpa using hk
            have hz := e6.out.resolve_left hk
            injection hz with z1 z2 z3
            subst z1 z2 z3
            rw [show bsOf [] = (⟨#[]⟩ : ByteArray) from rfl] at v2
            have l0 : (⟨#[]⟩ : ByteArray).toList = [] := bs_list []
            go_wp2_with fail
            go_ret
            exact ⟨rfl, HFIN.out⟩
        | false =>
          have hno := has_not hbh
          clear hbh
          have b0 := fun d os => cell_regrown HF1.out.2.1.c0 d os
          have b1 := fun d os => cell_regrown HF1.out.2.1.c1 d os
          have b2 := fun d os => cell_regrown HF1.out.2.1.c2 d os
          have v0 := fun d os => cell_regrown HF1.out.2.2.1.c0 d os
          have v1 := fun d os => cell_regrown HF1.out.2.2.1.c1 d os
          have v2 := fun d os => cell_regrown HF1.out.2.2.1.c2 d os
          have n0 := fun d os => cell_regrown HF1.out.2.2.2.1.c0 d os
          have n1 := fun d os => cell_regrown HF1.out.2.2.2.1.c1 d os
          have n2 := fun d os => cell_regrown HF1.out.2.2.2.1.c2 d os
          have HA : Hid (∀ d os, Calls Tryz.prog 51 #[.agg #[.int .i64 tk, .int .i64 sc, .bool nl]] (Go.Sort.grow (redrawn wx1 d) os) fun e w' => e = .returned (.bool (vldT ⟨tk, sc, nl⟩)) ∧ Below (Go.Sort.grow (redrawn wx1 d) os).heap.size (Go.Sort.grow (redrawn wx1 d) os) w') := fun d os => validType_lit tk sc nl _
          have HB : Hid (∀ d os, Calls Tryz.prog 35 #[.agg #[.int .i64 k, .int .i64 i, .string (bsOf s)]] (Go.Sort.grow (redrawn wx1 d) os) fun e w' => e = .returned (.bool (vldV ⟨k, i, s⟩)) ∧ Below (Go.Sort.grow (redrawn wx1 d) os).heap.size (Go.Sort.grow (redrawn wx1 d) os) w') := fun d os => valid_lit k i s hVV _
          have HH : Hid (∀ d os, Calls Tryz.prog 39 #[.agg #[.int .i64 tk, .int .i64 sc, .bool true], .agg #[.int .i64 0, .int .i64 0, .string ⟨#[]⟩]] (Go.Sort.grow (redrawn wx1 d) os) fun e w' => e = .returned (.bool (vldT ⟨tk, sc, nl⟩)) ∧ Below (Go.Sort.grow (redrawn wx1 d) os).heap.size (Go.Sort.grow (redrawn wx1 d) os) w') := fun d os => hasNull_lit tk sc nl hTN _ (HF1.out.1.below (below_regrown wx1 d os))
          have HFB := Lib.hid HF1.out.2.2.2.2.2
          clear HF1
          obtain ⟨bt, hbt⟩ : ∃ x, vldT ⟨tk, sc, nl⟩ = x := ⟨_, rfl⟩
          obtain ⟨bv, hbv⟩ : ∃ x, vldV ⟨k, i, s⟩ = x := ⟨_, rfl⟩
          rw [hbt] at HA HH hno
          rw [hbv] at HB hno
          clear hbt hbv
          cases bt with
          | false =>
            clear hno
            go_upto_region 11 with fail
            refine wp_region_quiet_below (by kernel_rfl) (by kernel_rfl) ?_
            repeat (go_big_quiet_step (first
              | (go_at_call 51; with_reducible exact Calls.regrown_of (HA.out _ _))
              | (go_at_call 35; with_reducible exact Calls.regrown_of (HB.out _ _))
              | (go_at_call 39; with_reducible exact Calls.regrown_of (HH.out _ _))))
            refine wpQuiet_nil ?_
            intro _ hw'
            obtain ⟨⟨dq, osq⟩, hw''⟩ := hw'
            subst hw''
            have HBQ := Lib.hid (HFB.out.trans ((below_regrown wx1 dq osq).mono HFB.out.size))
            clear b0 b1 b2 v0 v1 v2 n0 n1 n2
            generalize Go.Sort.grow (redrawn wx1 dq) osq = WQ at *
            go_wp2_with fail
            go_ret
            exact ⟨rfl, HBQ.out⟩
          | true =>
            by_cases hk : k = 0
            · cases nl with
              | false =>
                clear hno
                have ek : (k != 0) = false := by simpa using hk
                subst hk
                go_upto_region 11 with fail
                refine wp_region_quiet_below (by kernel_rfl) (by kernel_rfl) ?_
                repeat (go_big_quiet_step (first
                  | (go_at_call 51; with_reducible exact Calls.regrown_of (HA.out _ _))
                  | (go_at_call 35; with_reducible exact Calls.regrown_of (HB.out _ _))
                  | (go_at_call 39; with_reducible exact Calls.regrown_of (HH.out _ _))))
                refine wpQuiet_nil ?_
                intro _ hw'
                obtain ⟨⟨dq, osq⟩, hw''⟩ := hw'
                subst hw''
                have HBQ := Lib.hid (HFB.out.trans ((below_regrown wx1 dq osq).mono HFB.out.size))
                clear b0 b1 b2 v0 v1 v2 n0 n1 n2
                generalize Go.Sort.grow (redrawn wx1 dq) osq = WQ at *
                go_wp2_with fail
                go_ret
                exact ⟨rfl, HBQ.out⟩
              | true =>
                obtain rfl : bv = false := by rcases hno with h | h | h | h <;> first | exact h | exact absurd hk h | exact absurd h (by simp)
                clear hno
                subst hk
                go_upto_region 11 with fail
                refine wp_region_quiet_below (by kernel_rfl) (by kernel_rfl) ?_
                repeat (go_big_quiet_step (first
                  | (go_at_call 51; with_reducible exact Calls.regrown_of (HA.out _ _))
                  | (go_at_call 35; with_reducible exact Calls.regrown_of (HB.out _ _))
                  | (go_at_call 39; with_reducible exact Calls.regrown_of (HH.out _ _))))
                refine wpQuiet_nil ?_
                intro _ hw'
                obtain ⟨⟨dq, osq⟩, hw''⟩ := hw'
                subst hw''
                have HBQ := Lib.hid (HFB.out.trans ((below_regrown wx1 dq osq).mono HFB.out.size))
                clear b0 b1 b2 v0 v1 v2 n0 n1 n2
                generalize Go.Sort.grow (redrawn wx1 dq) osq = WQ at *
                go_wp2_with fail
                go_ret
                exact ⟨rfl, HBQ.out⟩
            · clear hno
              have ek : (k != 0) = true := by simpa using hk
              go_upto_region 11 with fail
              refine wp_region_quiet_below (by kernel_rfl) (by kernel_rfl) ?_
              repeat (go_big_quiet_step (first
                | (go_at_call 51; with_reducible exact Calls.regrown_of (HA.out _ _))
                | (go_at_call 35; with_reducible exact Calls.regrown_of (HB.out _ _))
                | (go_at_call 39; with_reducible exact Calls.regrown_of (HH.out _ _))))
              refine wpQuiet_nil ?_
              intro _ hw'
              obtain ⟨⟨dq, osq⟩, hw''⟩ := hw'
              subst hw''
              have HBQ := Lib.hid (HFB.out.trans ((below_regrown wx1 dq osq).mono HFB.out.size))
              clear b0 b1 b2 v0 v1 v2 n0 n1 n2
              generalize Go.Sort.grow (redrawn wx1 dq) osq = WQ at *
              go_wp2_with fail
              go_ret
              exact ⟨rfl, HBQ.out⟩

set_option maxRecDepth 100000 in
set_option maxHeartbeats 1000000 in
theorem walk_long (t : Ty) (v : Vl) (s2 : Int) (h100 : 100 < v.s.length) (hml : v.s.length ≤ 9223372036854775807) (w : World) (hV : De.Vars w) :
    Calls Tryz.prog 6 #[encT t, encV v, .int .i64 s2] w fun e w' => e = .returned (.bool true) ∧ Below w.heap.size w w' := by
  obtain ⟨tk, sc, nl⟩ := t
  obtain ⟨k, i, s⟩ := v
  have h100 : 100 < s.length := h100
  have hml : s.length ≤ 9223372036854775807 := hml
  unfold encT encV
  dsimp only
  have hsz := bs_size s
  have hT := Trio.new w 41 (.int .i64 tk) (.int .i64 sc) (.bool nl)
  have hb1 := (Below.refl w.heap.size w).alloc (Nat.le_refl _) (.cells #[.int .i64 tk, .int .i64 sc, .bool nl] 41)
  have hT1 := hT.below (V := (w.alloc (.cells #[.int .i64 tk, .int .i64 sc, .bool nl] 41)).alloc (.cells #[.int .i64 k, .int .i64 i, .string (bsOf s)] 45)) ((Below.refl (w.alloc (.cells #[.int .i64 tk, .int .i64 sc, .bool nl] 41)).heap.size _).alloc (Nat.le_refl _) _) hT.lt
  have hb2 := hb1.alloc (by simp) (.cells #[.int .i64 k, .int .i64 i, .string (bsOf s)] 45)
  have hT2 := Trio.new (w.alloc (.cells #[.int .i64 tk, .int .i64 sc, .bool nl] 41)) 45 (.int .i64 k) (.int .i64 i) (.string (bsOf s))
  rw [World.size_alloc] at hT2
  have HT1 := Lib.hid hT1
  have HT2 := Lib.hid hT2
  have HB0 := Lib.hid hb2
  have HVA := Lib.hid (hV.below hb2)
  clear hT hb1 hT1 hb2 hT2 hV
  go_enter Tryz.func6, Tryz.ntmps6
  go_wp2_with fail
  obtain ⟨B, hB⟩ : ∃ B, w.heap.size = B := ⟨_, rfl⟩
  rw [hB] at HT1 HT2 ⊢
  have HZ := Lib.hid hB
  clear hB
  generalize (w.alloc (.cells #[.int .i64 tk, .int .i64 sc, .bool nl] 41)).alloc (.cells #[.int .i64 k, .int .i64 i, .string (bsOf s)] 45) = V at *
  refine (examples6_any V HVA.out).mono ?_
  rintro e w1 ⟨rfl, hb⟩
  have hq2 := HT2.out.below hb HT2.out.lt
  have HB1 : Hid (Below w.heap.size w w1) := HB0.out.trans (hb.mono HB0.out.size)
  clear hb HT1 HT2 HB0 HVA
  have d2 := hq2.c2
  clear hq2
  go_wp2_with fail
  go_ret
  exact ⟨rfl, HB1.out⟩

end Go.Proofs.YtmmdbacejdhdaaaGreatDoor.valueTypes
