/-
  A value's text reads back as the value, where the value is valid; where it is not, its text does not read back; a string that reads as a value is that value's text: for all arguments whose strings have at most 100 bytes the law returns true and changes nothing.
-/
import Derived.Test.YtmmdbacejdhdaaaGreatDoorVlEx
import Derived.Test.YtmmdbacejdhdaaaGreatDoorVlTxMath
import Derived.Deep.DeepCutAuto
import Derived.BigRegion
namespace Go.Proofs.YtmmdbacejdhdaaaGreatDoor.valueTexts
open Go Go.ChangeShapes Go.WideShapes Go.ChangeAt Go.RowKit Go.Shelf
open Go.Proofs.YtmmdbacejdhdaaaGreatDoor

theorem valid_lit (k i : Int) (s : List UInt8) (hv : (⟨k, i, s⟩ : Vl).Ok) (w : World) :
    Calls Tryz.prog 35 #[.agg #[.int .i64 k, .int .i64 i, .string (bsOf s)]] w fun e w' => e = .returned (.bool (vldV ⟨k, i, s⟩)) ∧ Below w.heap.size w w' := valid_any ⟨k, i, s⟩ hv w
theorem text_lit (k i : Int) (s : List UInt8) (hv : (⟨k, i, s⟩ : Vl).Ok) (w : World) (hV : De.Vars w) :
    Calls Tryz.prog 43 #[.agg #[.int .i64 k, .int .i64 i, .string (bsOf s)]] w fun e w' => e = .returned (.string (bsOf (textV ⟨k, i, s⟩))) ∧ Below w.heap.size w w' := text_any ⟨k, i, s⟩ hv w hV
theorem got_ok (u : List UInt8) (hu : u.length ≤ 1048576) : (parsedV u).1.Ok := by
  unfold parsedV
  split
  · exact guess_ok u hu
  · exact ⟨⟨by decide, by decide⟩, ⟨by decide, by decide⟩, by decide⟩

set_option maxRecDepth 100000 in
set_option maxHeartbeats 4000000 in
theorem walk (v : Vl) (u : List UInt8) (hv : v.Ok) (h100 : v.s.length ≤ 100) (hu : u.length ≤ 100) (w : World) (hV : De.Vars w) :
    Calls Tryz.prog 7 #[encV v, .string (bsOf u)] w fun e w' => e = .returned (.bool true) ∧ Below w.heap.size w w' := by
  have HTL := Lib.hid (textV_len hv.i h100)
  obtain ⟨k, i, s⟩ := v
  have hVV := hv
  have h100 : s.length ≤ 100 := h100
  unfold encV
  dsimp only
  have hsz := bs_size s
  have huz := bs_size u
  have hT := Trio.new w 45 (.int .i64 k) (.int .i64 i) (.string (bsOf s))
  have hb1 := (Below.refl w.heap.size w).alloc (Nat.le_refl _) (.cells #[.int .i64 k, .int .i64 i, .string (bsOf s)] 45)
  have HT := Lib.hid hT
  have HB0 := Lib.hid hb1
  have HVA := Lib.hid (hV.below hb1)
  clear hT hb1 hV
  go_enter Tryz.func7, Tryz.ntmps7
  go_wp2_with fail
  obtain ⟨B, hB⟩ : ∃ B, w.heap.size = B := ⟨_, rfl⟩
  rw [hB] at HT ⊢
  have HZ := Lib.hid hB
  clear hB
  generalize w.alloc (.cells #[.int .i64 k, .int .i64 i, .string (bsOf s)] 45) = V at *
  refine (examples6_any V HVA.out).mono ?_
  rintro e w1 ⟨rfl, hb⟩
  have HB1 : Hid (Below w.heap.size w w1) := HB0.out.trans (hb.mono HB0.out.size)
  have HT1 := Lib.hid (HT.out.below hb HT.out.lt)
  have HW1 := Lib.hid (HVA.out.below hb)
  clear hb HT HB0 HVA
  have d0 := HT1.out.c0
  have d1 := HT1.out.c1
  have d2 := HT1.out.c2
  go_wp2_with fail
  -- the value's text
  refine (text_lit k i s hVV _ HW1.out).mono ?_
  rintro e w2 ⟨rfl, hb⟩
  have HB2 : Hid (Below w.heap.size w w2) := HB1.out.trans (hb.mono HB1.out.size)
  have HT2 := Lib.hid (HT1.out.below hb HT1.out.lt)
  have HW2 := Lib.hid (HW1.out.below hb)
  clear hb HB1 HT1 HW1 d0 d1 d2
  go_wp2_with fail
  refine (parsedW_any (textV ⟨k, i, s⟩) HTL.out _ HW2.out).mono ?_
  rintro e w3 ⟨rfl, hb⟩
  have HB3 : Hid (Below w.heap.size w w3) := HB2.out.trans (hb.mono HB2.out.size)
  have HT3 := Lib.hid (HT2.out.below hb HT2.out.lt)
  have HW3 := Lib.hid (HW2.out.below hb)
  clear hb HB2 HT2 HW2
  go_wp2_with fail
  refine (parsedW_any u (by omega) _ HW3.out).mono ?_
  rintro e w4 ⟨rfl, hb⟩
  have HB4 : Hid (Below w.heap.size w w4) := HB3.out.trans (hb.mono HB3.out.size)
  have HT4 := Lib.hid (HT3.out.below hb HT3.out.lt)
  have HW4 := Lib.hid (HW3.out.below hb)
  clear hb HB3 HT3 HW3
  unfold encG
  have hbl := bs_list s
  have hb0 : (⟨#[]⟩ : ByteArray).toList = [] := bs_list []
  cases hbv : vldV ⟨k, i, s⟩ with
  | true =>
    rw [parse_valid hbv]
    dsimp only
    rcases parsed_any u with hq | ⟨⟨gk, gi, gs⟩, hq, hqv, hqt⟩
    · rw [hq]
      clear hq
      dsimp only [Vl.null]
      rw [show bsOf [] = (⟨#[]⟩ : ByteArray) from rfl]
      have hP0 := Six.new w4 54 (.int .i64 k) (.int .i64 i) (.string (bsOf s)) (.slice none 0 0) (.slice none 0 0) (.int .i64 0)
      have hP := hP0.below (V := (w4.alloc (.cells #[.int .i64 k, .int .i64 i, .string (bsOf s), .slice none 0 0, .slice none 0 0, .int .i64 0] 54)).alloc (.cells #[.int .i64 0, .int .i64 0, .string ⟨#[]⟩, .slice none 0 0, .slice none 0 0, .int .i64 5] 54)) ((Below.self _).alloc (Nat.le_refl _) _) hP0.lt
      have hQ := Six.new (w4.alloc (.cells #[.int .i64 k, .int .i64 i, .string (bsOf s), .slice none 0 0, .slice none 0 0, .int .i64 0] 54)) 54 (.int .i64 0) (.int .i64 0) (.string ⟨#[]⟩) (.slice none 0 0) (.slice none 0 0) (.int .i64 5)
      rw [World.size_alloc] at hQ
      have hbA : Below w4.heap.size w4 ((w4.alloc (.cells #[.int .i64 k, .int .i64 i, .string (bsOf s), .slice none 0 0, .slice none 0 0, .int .i64 0] 54)).alloc (.cells #[.int .i64 0, .int .i64 0, .string ⟨#[]⟩, .slice none 0 0, .slice none 0 0, .int .i64 5] 54)) := ((Below.self w4).alloc (Nat.le_refl _) _).alloc (by simp) _
      have HP := Lib.hid hP
      have HQ := Lib.hid hQ
      have HTU := Lib.hid (HT4.out.below hbA HT4.out.lt)
      have HWU := Lib.hid (HW4.out.below hbA)
      have HBU := Lib.hid (HB4.out.trans (hbA.mono HB4.out.size))
      clear hP0 hP hQ hbA HT4 HW4 HB4
      go_upto_region 7 with fail
      obtain ⟨D, hD⟩ : ∃ D, w4.heap.size = D := ⟨_, rfl⟩
      rw [hD] at HP HQ ⊢
      clear hD
      generalize (w4.alloc (.cells #[.int .i64 k, .int .i64 i, .string (bsOf s), .slice none 0 0, .slice none 0 0, .int .i64 0] 54)).alloc (.cells #[.int .i64 0, .int .i64 0, .string ⟨#[]⟩, .slice none 0 0, .slice none 0 0, .int .i64 5] 54) = U at *
      have v0 := fun d os => cell_regrown HTU.out.c0 d os
      have v1 := fun d os => cell_regrown HTU.out.c1 d os
      have v2 := fun d os => cell_regrown HTU.out.c2 d os
      have p0 := fun d os => cell_regrown HP.out.c0 d os
      have p1 := fun d os => cell_regrown HP.out.c1 d os
      have p2 := fun d os => cell_regrown HP.out.c2 d os
      have p5 := fun d os => cell_regrown HP.out.c5 d os
      have HA : Hid (∀ d os, Calls Tryz.prog 35 #[.agg #[.int .i64 k, .int .i64 i, .string (bsOf s)]] (Go.Sort.grow (redrawn U d) os) fun e w' => e = .returned (.bool true) ∧ Below (Go.Sort.grow (redrawn U d) os).heap.size (Go.Sort.grow (redrawn U d) os) w') := fun d os => by
        have h := valid_lit k i s hVV (Go.Sort.grow (redrawn U d) os)
        rw [hbv] at h
        exact h
      refine wp_region_quiet_below (by kernel_rfl) (by kernel_rfl) ?_
      repeat (go_big_quiet_step (first
        | (go_at_call 35; with_reducible exact Calls.regrown_of (HA.out _ _))))
      refine wpQuiet_nil ?_
      intro _ hw'
      obtain ⟨⟨dq, osq⟩, hw''⟩ := hw'
      subst hw''
      have hbq := below_regrown U dq osq
      have HBQ := Lib.hid (HBU.out.trans (hbq.mono HBU.out.size))
      have HWQ := Lib.hid (HWU.out.below hbq)
      have HQQ := Lib.hid (HQ.out.below hbq HQ.out.lt)
      clear v0 v1 v2 p0 p1 p2 p5 hbq HBU HWU HQ HP HTU HA
      generalize Go.Sort.grow (redrawn U dq) osq = WQ at *
      have q0 := HQQ.out.c0
      have q1 := HQQ.out.c1
      have q2 := HQQ.out.c2
      have q5 := HQQ.out.c5
      go_wp2_with fail
      go_ret
      exact ⟨rfl, HBQ.out⟩
    · have HGK : Hid ((⟨gk, gi, gs⟩ : Vl).Ok) := Lib.hid (by have h := got_ok u (by omega); rw [hq] at h; exact h)
      have HGV := Lib.hid hqv
      have HGT := Lib.hid hqt
      rw [hq]
      clear hq hqv hqt
      dsimp only
      have hgl := bs_list gs
      have hP0 := Six.new w4 54 (.int .i64 k) (.int .i64 i) (.string (bsOf s)) (.slice none 0 0) (.slice none 0 0) (.int .i64 0)
      have hP := hP0.below (V := (w4.alloc (.cells #[.int .i64 k, .int .i64 i, .string (bsOf s), .slice none 0 0, .slice none 0 0, .int .i64 0] 54)).alloc (.cells #[.int .i64 gk, .int .i64 gi, .string (bsOf gs), .slice none 0 0, .slice none 0 0, .int .i64 0] 54)) ((Below.self _).alloc (Nat.le_refl _) _) hP0.lt
      have hQ := Six.new (w4.alloc (.cells #[.int .i64 k, .int .i64 i, .string (bsOf s), .slice none 0 0, .slice none 0 0, .int .i64 0] 54)) 54 (.int .i64 gk) (.int .i64 gi) (.string (bsOf gs)) (.slice none 0 0) (.slice none 0 0) (.int .i64 0)
      rw [World.size_alloc] at hQ
      have hbA : Below w4.heap.size w4 ((w4.alloc (.cells #[.int .i64 k, .int .i64 i, .string (bsOf s), .slice none 0 0, .slice none 0 0, .int .i64 0] 54)).alloc (.cells #[.int .i64 gk, .int .i64 gi, .string (bsOf gs), .slice none 0 0, .slice none 0 0, .int .i64 0] 54)) := ((Below.self w4).alloc (Nat.le_refl _) _).alloc (by simp) _
      have HP := Lib.hid hP
      have HQ := Lib.hid hQ
      have HTU := Lib.hid (HT4.out.below hbA HT4.out.lt)
      have HWU := Lib.hid (HW4.out.below hbA)
      have HBU := Lib.hid (HB4.out.trans (hbA.mono HB4.out.size))
      clear hP0 hP hQ hbA HT4 HW4 HB4
      go_upto_region 7 with fail
      obtain ⟨D, hD⟩ : ∃ D, w4.heap.size = D := ⟨_, rfl⟩
      rw [hD] at HP HQ ⊢
      clear hD
      generalize (w4.alloc (.cells #[.int .i64 k, .int .i64 i, .string (bsOf s), .slice none 0 0, .slice none 0 0, .int .i64 0] 54)).alloc (.cells #[.int .i64 gk, .int .i64 gi, .string (bsOf gs), .slice none 0 0, .slice none 0 0, .int .i64 0] 54) = U at *
      have v0 := fun d os => cell_regrown HTU.out.c0 d os
      have v1 := fun d os => cell_regrown HTU.out.c1 d os
      have v2 := fun d os => cell_regrown HTU.out.c2 d os
      have p0 := fun d os => cell_regrown HP.out.c0 d os
      have p1 := fun d os => cell_regrown HP.out.c1 d os
      have p2 := fun d os => cell_regrown HP.out.c2 d os
      have p5 := fun d os => cell_regrown HP.out.c5 d os
      have HA : Hid (∀ d os, Calls Tryz.prog 35 #[.agg #[.int .i64 k, .int .i64 i, .string (bsOf s)]] (Go.Sort.grow (redrawn U d) os) fun e w' => e = .returned (.bool true) ∧ Below (Go.Sort.grow (redrawn U d) os).heap.size (Go.Sort.grow (redrawn U d) os) w') := fun d os => by
        have h := valid_lit k i s hVV (Go.Sort.grow (redrawn U d) os)
        rw [hbv] at h
        exact h
      refine wp_region_quiet_below (by kernel_rfl) (by kernel_rfl) ?_
      repeat (go_big_quiet_step (first
        | (go_at_call 35; with_reducible exact Calls.regrown_of (HA.out _ _))))
      refine wpQuiet_nil ?_
      intro _ hw'
      obtain ⟨⟨dq, osq⟩, hw''⟩ := hw'
      subst hw''
      have hbq := below_regrown U dq osq
      have HBQ := Lib.hid (HBU.out.trans (hbq.mono HBU.out.size))
      have HWQ := Lib.hid (HWU.out.below hbq)
      have HQQ := Lib.hid (HQ.out.below hbq HQ.out.lt)
      clear v0 v1 v2 p0 p1 p2 p5 hbq HBU HWU HQ HP HTU HA
      generalize Go.Sort.grow (redrawn U dq) osq = WQ at *
      have q0 := HQQ.out.c0
      have q1 := HQQ.out.c1
      have q2 := HQQ.out.c2
      have q5 := HQQ.out.c5
      go_wp2_with fail
      refine (valid_lit gk gi gs HGK.out _).mono ?_
      rintro e wy ⟨rfl, hb⟩
      rw [HGV.out]
      have HBR := Lib.hid (HBQ.out.trans (hb.mono HBQ.out.size))
      have HWR := Lib.hid (HWQ.out.below hb)
      have HQR := Lib.hid (HQQ.out.below hb HQQ.out.lt)
      clear hb HBQ HWQ HQQ q0 q1 q2 q5
      have q0 := HQR.out.c0
      have q1 := HQR.out.c1
      have q2 := HQR.out.c2
      have q5 := HQR.out.c5
      go_wp2_with fail
      refine (text_lit gk gi gs HGK.out _ HWR.out).mono ?_
      rintro e wz ⟨rfl, hb⟩
      rw [HGT.out]
      have HBS := Lib.hid (HBR.out.trans (hb.mono HBR.out.size))
      clear hb HBR HWR HQR q0 q1 q2 q5
      go_wp2_with fail
      go_ret
      exact ⟨rfl, HBS.out⟩
  | false =>
    rw [parse_invalid hbv]
    dsimp only [Vl.null]
    rw [show bsOf [] = (⟨#[]⟩ : ByteArray) from rfl]
    rcases parsed_any u with hq | ⟨⟨gk, gi, gs⟩, hq, hqv, hqt⟩
    · rw [hq]
      clear hq
      dsimp only [Vl.null]
      rw [show bsOf [] = (⟨#[]⟩ : ByteArray) from rfl]
      have hP0 := Six.new w4 54 (.int .i64 0) (.int .i64 0) (.string ⟨#[]⟩) (.slice none 0 0) (.slice none 0 0) (.int .i64 5)
      have hP := hP0.below (V := (w4.alloc (.cells #[.int .i64 0, .int .i64 0, .string ⟨#[]⟩, .slice none 0 0, .slice none 0 0, .int .i64 5] 54)).alloc (.cells #[.int .i64 0, .int .i64 0, .string ⟨#[]⟩, .slice none 0 0, .slice none 0 0, .int .i64 5] 54)) ((Below.self _).alloc (Nat.le_refl _) _) hP0.lt
      have hQ := Six.new (w4.alloc (.cells #[.int .i64 0, .int .i64 0, .string ⟨#[]⟩, .slice none 0 0, .slice none 0 0, .int .i64 5] 54)) 54 (.int .i64 0) (.int .i64 0) (.string ⟨#[]⟩) (.slice none 0 0) (.slice none 0 0) (.int .i64 5)
      rw [World.size_alloc] at hQ
      have hbA : Below w4.heap.size w4 ((w4.alloc (.cells #[.int .i64 0, .int .i64 0, .string ⟨#[]⟩, .slice none 0 0, .slice none 0 0, .int .i64 5] 54)).alloc (.cells #[.int .i64 0, .int .i64 0, .string ⟨#[]⟩, .slice none 0 0, .slice none 0 0, .int .i64 5] 54)) := ((Below.self w4).alloc (Nat.le_refl _) _).alloc (by simp) _
      have HP := Lib.hid hP
      have HQ := Lib.hid hQ
      have HTU := Lib.hid (HT4.out.below hbA HT4.out.lt)
      have HWU := Lib.hid (HW4.out.below hbA)
      have HBU := Lib.hid (HB4.out.trans (hbA.mono HB4.out.size))
      clear hP0 hP hQ hbA HT4 HW4 HB4
      go_upto_region 7 with fail
      obtain ⟨D, hD⟩ : ∃ D, w4.heap.size = D := ⟨_, rfl⟩
      rw [hD] at HP HQ ⊢
      clear hD
      generalize (w4.alloc (.cells #[.int .i64 0, .int .i64 0, .string ⟨#[]⟩, .slice none 0 0, .slice none 0 0, .int .i64 5] 54)).alloc (.cells #[.int .i64 0, .int .i64 0, .string ⟨#[]⟩, .slice none 0 0, .slice none 0 0, .int .i64 5] 54) = U at *
      have v0 := fun d os => cell_regrown HTU.out.c0 d os
      have v1 := fun d os => cell_regrown HTU.out.c1 d os
      have v2 := fun d os => cell_regrown HTU.out.c2 d os
      have p0 := fun d os => cell_regrown HP.out.c0 d os
      have p1 := fun d os => cell_regrown HP.out.c1 d os
      have p2 := fun d os => cell_regrown HP.out.c2 d os
      have p5 := fun d os => cell_regrown HP.out.c5 d os
      have HA : Hid (∀ d os, Calls Tryz.prog 35 #[.agg #[.int .i64 k, .int .i64 i, .string (bsOf s)]] (Go.Sort.grow (redrawn U d) os) fun e w' => e = .returned (.bool false) ∧ Below (Go.Sort.grow (redrawn U d) os).heap.size (Go.Sort.grow (redrawn U d) os) w') := fun d os => by
        have h := valid_lit k i s hVV (Go.Sort.grow (redrawn U d) os)
        rw [hbv] at h
        exact h
      refine wp_region_quiet_below (by kernel_rfl) (by kernel_rfl) ?_
      repeat (go_big_quiet_step (first
        | (go_at_call 35; with_reducible exact Calls.regrown_of (HA.out _ _))))
      refine wpQuiet_nil ?_
      intro _ hw'
      obtain ⟨⟨dq, osq⟩, hw''⟩ := hw'
      subst hw''
      have hbq := below_regrown U dq osq
      have HBQ := Lib.hid (HBU.out.trans (hbq.mono HBU.out.size))
      have HWQ := Lib.hid (HWU.out.below hbq)
      have HQQ := Lib.hid (HQ.out.below hbq HQ.out.lt)
      clear v0 v1 v2 p0 p1 p2 p5 hbq HBU HWU HQ HP HTU HA
      generalize Go.Sort.grow (redrawn U dq) osq = WQ at *
      have q0 := HQQ.out.c0
      have q1 := HQQ.out.c1
      have q2 := HQQ.out.c2
      have q5 := HQQ.out.c5
      go_wp2_with fail
      go_ret
      exact ⟨rfl, HBQ.out⟩
    · have HGK : Hid ((⟨gk, gi, gs⟩ : Vl).Ok) := Lib.hid (by have h := got_ok u (by omega); rw [hq] at h; exact h)
      have HGV := Lib.hid hqv
      have HGT := Lib.hid hqt
      rw [hq]
      clear hq hqv hqt
      dsimp only
      have hgl := bs_list gs
      have hP0 := Six.new w4 54 (.int .i64 0) (.int .i64 0) (.string ⟨#[]⟩) (.slice none 0 0) (.slice none 0 0) (.int .i64 5)
      have hP := hP0.below (V := (w4.alloc (.cells #[.int .i64 0, .int .i64 0, .string ⟨#[]⟩, .slice none 0 0, .slice none 0 0, .int .i64 5] 54)).alloc (.cells #[.int .i64 gk, .int .i64 gi, .string (bsOf gs), .slice none 0 0, .slice none 0 0, .int .i64 0] 54)) ((Below.self _).alloc (Nat.le_refl _) _) hP0.lt
      have hQ := Six.new (w4.alloc (.cells #[.int .i64 0, .int .i64 0, .string ⟨#[]⟩, .slice none 0 0, .slice none 0 0, .int .i64 5] 54)) 54 (.int .i64 gk) (.int .i64 gi) (.string (bsOf gs)) (.slice none 0 0) (.slice none 0 0) (.int .i64 0)
      rw [World.size_alloc] at hQ
      have hbA : Below w4.heap.size w4 ((w4.alloc (.cells #[.int .i64 0, .int .i64 0, .string ⟨#[]⟩, .slice none 0 0, .slice none 0 0, .int .i64 5] 54)).alloc (.cells #[.int .i64 gk, .int .i64 gi, .string (bsOf gs), .slice none 0 0, .slice none 0 0, .int .i64 0] 54)) := ((Below.self w4).alloc (Nat.le_refl _) _).alloc (by simp) _
      have HP := Lib.hid hP
      have HQ := Lib.hid hQ
      have HTU := Lib.hid (HT4.out.below hbA HT4.out.lt)
      have HWU := Lib.hid (HW4.out.below hbA)
      have HBU := Lib.hid (HB4.out.trans (hbA.mono HB4.out.size))
      clear hP0 hP hQ hbA HT4 HW4 HB4
      go_upto_region 7 with fail
      obtain ⟨D, hD⟩ : ∃ D, w4.heap.size = D := ⟨_, rfl⟩
      rw [hD] at HP HQ ⊢
      clear hD
      generalize (w4.alloc (.cells #[.int .i64 0, .int .i64 0, .string ⟨#[]⟩, .slice none 0 0, .slice none 0 0, .int .i64 5] 54)).alloc (.cells #[.int .i64 gk, .int .i64 gi, .string (bsOf gs), .slice none 0 0, .slice none 0 0, .int .i64 0] 54) = U at *
      have v0 := fun d os => cell_regrown HTU.out.c0 d os
      have v1 := fun d os => cell_regrown HTU.out.c1 d os
      have v2 := fun d os => cell_regrown HTU.out.c2 d os
      have p0 := fun d os => cell_regrown HP.out.c0 d os
      have p1 := fun d os => cell_regrown HP.out.c1 d os
      have p2 := fun d os => cell_regrown HP.out.c2 d os
      have p5 := fun d os => cell_regrown HP.out.c5 d os
      have HA : Hid (∀ d os, Calls Tryz.prog 35 #[.agg #[.int .i64 k, .int .i64 i, .string (bsOf s)]] (Go.Sort.grow (redrawn U d) os) fun e w' => e = .returned (.bool false) ∧ Below (Go.Sort.grow (redrawn U d) os).heap.size (Go.Sort.grow (redrawn U d) os) w') := fun d os => by
        have h := valid_lit k i s hVV (Go.Sort.grow (redrawn U d) os)
        rw [hbv] at h
        exact h
      refine wp_region_quiet_below (by kernel_rfl) (by kernel_rfl) ?_
      repeat (go_big_quiet_step (first
        | (go_at_call 35; with_reducible exact Calls.regrown_of (HA.out _ _))))
      refine wpQuiet_nil ?_
      intro _ hw'
      obtain ⟨⟨dq, osq⟩, hw''⟩ := hw'
      subst hw''
      have hbq := below_regrown U dq osq
      have HBQ := Lib.hid (HBU.out.trans (hbq.mono HBU.out.size))
      have HWQ := Lib.hid (HWU.out.below hbq)
      have HQQ := Lib.hid (HQ.out.below hbq HQ.out.lt)
      clear v0 v1 v2 p0 p1 p2 p5 hbq HBU HWU HQ HP HTU HA
      generalize Go.Sort.grow (redrawn U dq) osq = WQ at *
      have q0 := HQQ.out.c0
      have q1 := HQQ.out.c1
      have q2 := HQQ.out.c2
      have q5 := HQQ.out.c5
      go_wp2_with fail
      refine (valid_lit gk gi gs HGK.out _).mono ?_
      rintro e wy ⟨rfl, hb⟩
      rw [HGV.out]
      have HBR := Lib.hid (HBQ.out.trans (hb.mono HBQ.out.size))
      have HWR := Lib.hid (HWQ.out.below hb)
      have HQR := Lib.hid (HQQ.out.below hb HQQ.out.lt)
      clear hb HBQ HWQ HQQ q0 q1 q2 q5
      have q0 := HQR.out.c0
      have q1 := HQR.out.c1
      have q2 := HQR.out.c2
      have q5 := HQR.out.c5
      go_wp2_with fail
      refine (text_lit gk gi gs HGK.out _ HWR.out).mono ?_
      rintro e wz ⟨rfl, hb⟩
      rw [HGT.out]
      have HBS := Lib.hid (HBR.out.trans (hb.mono HBR.out.size))
      clear hb HBR HWR HQR q0 q1 q2 q5
      go_wp2_with fail
      go_ret
      exact ⟨rfl, HBS.out⟩

set_option maxRecDepth 100000 in
set_option maxHeartbeats 1000000 in
theorem walk_long1 (v : Vl) (u : List UInt8) (h100 : 100 < v.s.length) (hml : v.s.length ≤ 9223372036854775807) (w : World) (hV : De.Vars w) :
    Calls Tryz.prog 7 #[encV v, .string (bsOf u)] w fun e w' => e = .returned (.bool true) ∧ Below w.heap.size w w' := by
  obtain ⟨k, i, s⟩ := v
  have h100 : 100 < s.length := h100
  have hml : s.length ≤ 9223372036854775807 := hml
  unfold encV
  dsimp only
  have hsz := bs_size s
  have hT := Trio.new w 45 (.int .i64 k) (.int .i64 i) (.string (bsOf s))
  have hb1 := (Below.refl w.heap.size w).alloc (Nat.le_refl _) (.cells #[.int .i64 k, .int .i64 i, .string (bsOf s)] 45)
  have HT := Lib.hid hT
  have HB0 := Lib.hid hb1
  have HVA := Lib.hid (hV.below hb1)
  clear hT hb1 hV
  go_enter Tryz.func7, Tryz.ntmps7
  go_wp2_with fail
  obtain ⟨B, hB⟩ : ∃ B, w.heap.size = B := ⟨_, rfl⟩
  rw [hB] at HT ⊢
  have HZ := Lib.hid hB
  clear hB
  generalize w.alloc (.cells #[.int .i64 k, .int .i64 i, .string (bsOf s)] 45) = V at *
  refine (examples6_any V HVA.out).mono ?_
  rintro e w1 ⟨rfl, hb⟩
  have HB1 : Hid (Below w.heap.size w w1) := HB0.out.trans (hb.mono HB0.out.size)
  have HT1 := Lib.hid (HT.out.below hb HT.out.lt)
  clear hb HT HB0 HVA
  have d2 := HT1.out.c2
  clear HT1
  go_wp2_with fail
  go_ret
  exact ⟨rfl, HB1.out⟩

set_option maxRecDepth 100000 in
set_option maxHeartbeats 1000000 in
theorem walk_long2 (v : Vl) (u : List UInt8) (h100 : v.s.length ≤ 100) (hu : 100 < u.length) (hml : u.length ≤ 9223372036854775807) (w : World) (hV : De.Vars w) :
    Calls Tryz.prog 7 #[encV v, .string (bsOf u)] w fun e w' => e = .returned (.bool true) ∧ Below w.heap.size w w' := by
  obtain ⟨k, i, s⟩ := v
  have h100 : s.length ≤ 100 := h100
  unfold encV
  dsimp only
  have hsz := bs_size s
  have huz := bs_size u
  have hT := Trio.new w 45 (.int .i64 k) (.int .i64 i) (.string (bsOf s))
  have hb1 := (Below.refl w.heap.size w).alloc (Nat.le_refl _) (.cells #[.int .i64 k, .int .i64 i, .string (bsOf s)] 45)
  have HT := Lib.hid hT
  have HB0 := Lib.hid hb1
  have HVA := Lib.hid (hV.below hb1)
  clear hT hb1 hV
  go_enter Tryz.func7, Tryz.ntmps7
  go_wp2_with fail
  obtain ⟨B, hB⟩ : ∃ B, w.heap.size = B := ⟨_, rfl⟩
  rw [hB] at HT ⊢
  have HZ := Lib.hid hB
  clear hB
  generalize w.alloc (.cells #[.int .i64 k, .int .i64 i, .string (bsOf s)] 45) = V at *
  refine (examples6_any V HVA.out).mono ?_
  rintro e w1 ⟨rfl, hb⟩
  have HB1 : Hid (Below w.heap.size w w1) := HB0.out.trans (hb.mono HB0.out.size)
  have HT1 := Lib.hid (HT.out.below hb HT.out.lt)
  clear hb HT HB0 HVA
  have d2 := HT1.out.c2
  clear HT1
  go_wp2_with fail
  go_ret
  exact ⟨rfl, HB1.out⟩

end Go.Proofs.YtmmdbacejdhdaaaGreatDoor.valueTexts
