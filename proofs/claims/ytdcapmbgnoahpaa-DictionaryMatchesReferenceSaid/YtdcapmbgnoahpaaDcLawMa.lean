/-
  Dictionaries match the reference: the walk.
-/
import Derived.Test.YtdcapmbgnoahpaaDcMaA
namespace Go.Proofs.Ytdcapmbgnoahpaa.dictionaryMatches
open Go Go.RowKit Go.Shelf Go.Sort Go.ChangeShapes Go.WideShapes Go.ChangeAt
open Go.Proofs.Ytdcapmbgnoahpaa

theorem below_drewD {n : Nat} {A B : World} (h : Below n A B) : Below n A B.drew := h.trans ⟨rfl, rfl, rfl, Nat.le_refl _, fun _ _ => rfl⟩
theorem pkL_len (l : List (List UInt8)) : (pkL l).length ≤ 1060900 := by
  unfold pkL
  split
  · exact (pk_len (by assumption)).2
  · exact Nat.zero_le _
theorem pkL_oct (l : List (List UInt8)) : Oct (pkL l) := by
  unfold pkL
  split
  · exact pk_oct l
  · intro x hx; cases hx
theorem num4 {k : Nat} : Value.int .i64 ((k : Int) + 1) = .int .i64 ((k + 1 : Nat) : Int) := rfl
theorem measure4 {k : Nat} (h : k < 4) : 4 - (intOf (.int .i64 ((k : Int) + 1))).toNat < 4 - (intOf (.int .i64 (k : Int))).toNat := by simp [intOf]; omega
theorem act_lit (a : Act) (n : Nat) (h : a.tmps.size = n) : a = ⟨((List.range n).map fun t => a.eval (.tmp t)).toArray, a.defers⟩ := by
  obtain ⟨tm, ds⟩ := a
  subst h
  congr 1
  apply Array.ext
  · simp
  · intro i h1 h2
    simp only [Act.eval, List.getElem_toArray, List.getElem_map, List.getElem_range]
    rw [Array.getD_eq_getD_getElem?, Array.getElem?_eq_getElem h1]; rfl
set_option maxRecDepth 100000 in
set_option maxHeartbeats 16000000 in
theorem walk {K1 K2 K3 K4 : Nat → Prop} {ax al ac ab : Option Addr} {nx cx nl cl nc cc nb cb : Nat} {xs cL bL : List Int} {lL : List (List UInt8)} {k0 k1 k2 : Nat} {w : World} (hox : Oct xs) (hob : Oct bL) (hX0 : RdL K1 w .u8 ax nx cx xs) (hL0 : RdS K2 w al nl cl lL) (hC0 : Rd K3 w .i64 ac nc cc cL) (hB0 : Rd K4 w .u8 ab nb cb bL)
    (hk0 : k0 < 256) (hk1 : k1 < 256) (hk2 : k2 < 256) (hsh : shortD lL = true) (hnc : nc ≤ 40) (hnb : nb ≤ 2000) :
    Calls Try.prog 3 #[.slice ax nx cx, .agg #[.slice al nl cl, .slice ac nc cc, .slice ab nb cb, .int .u8 (k0 : Int), .int .u8 (k1 : Int), .int .u8 (k2 : Int)]] w fun e w' => e = .returned (.bool true) ∧ Below w.heap.size w w' := by
  have HOX := Lib.hid hox
  have HOB := Lib.hid hob
  have HX1 := Lib.hid (Hex.new w 27 (.slice al nl cl) (.slice ac nc cc) (.slice ab nb cb) (.int .u8 (k0 : Int)) (.int .u8 (k1 : Int)) (.int .u8 (k2 : Int)))
  have hb0 : Below w.heap.size w (w.alloc (.cells #[.slice al nl cl, .slice ac nc cc, .slice ab nb cb, .int .u8 (k0 : Int), .int .u8 (k1 : Int), .int .u8 (k2 : Int)] 27)) := (Below.refl _ _).alloc (Nat.le_refl _) _
  have HB := Lib.hid hb0
  have HXL := Lib.hid hX0
  have HL0 := Lib.hid hL0
  have HC0 := Lib.hid hC0
  have HBy0 := Lib.hid hB0
  have HSH := Lib.hid hsh
  have HNC : Hid (nc ≤ 1000) := by show _ ≤ _; omega
  have HK0 : Hid (k0 < 256 ∧ k1 < 256 ∧ k2 < 256) := ⟨hk0, hk1, hk2⟩
  have hncI : ¬ (nc : Int) > 40 := by omega
  have hnbI : ¬ (nb : Int) > 2000 := by omega
  clear hX0 hL0 hC0 hB0 hb0 hox hob hk0 hk1 hk2 hnc hsh
  go_enter Try.func3, Try.ntmps3
  go_upto_region 1 with fail
  obtain ⟨B0, hB0⟩ : ∃ B, w.heap.size = B := ⟨_, rfl⟩
  rw [hB0] at HX1 ⊢
  have HZB := Lib.hid hB0
  clear hB0
  generalize w.alloc (.cells #[.slice al nl cl, .slice ac nc cc, .slice ab nb cb, .int .u8 (k0 : Int), .int .u8 (k1 : Int), .int .u8 (k2 : Int)] 27) = V0 at *
  go_wp2_with fail
  refine (examples5_any _).mono ?_
  rintro e w1 ⟨rfl, hb1⟩
  replace HB : Hid (Below w.heap.size w w1) := HB.out.trans (hb1.mono HB.out.size)
  have HX := Lib.hid (HX1.out.below hb1 HX1.out.lt)
  clear hb1 HX1
  have c0 := HX.out.c0
  have c1 := HX.out.c1
  have c2 := HX.out.c2
  go_wp2_with fail
  refine (short5_any (HL0.out.below HB.out)).mono ?_
  rintro e w2 ⟨rfl, hb2⟩
  rw [HSH.out]
  replace HB : Hid (Below w.heap.size w w2) := HB.out.trans (hb2.mono HB.out.size)
  replace HX := Lib.hid (HX.out.below hb2 HX.out.lt)
  clear hb2 c0 c1 c2
  have c0 := HX.out.c0
  have c1 := HX.out.c1
  have c2 := HX.out.c2
  go_wp2_with fail
  clear c0 c1 c2
  refine (words_any HOX.out (HXL.out.below HB.out)).mono ?_
  rintro e w3 ⟨gw, nw, cw, rfl, hw, -, hb3⟩
  replace HB : Hid (Below w.heap.size w w3) := HB.out.trans (hb3.mono HB.out.size)
  replace HX := Lib.hid (HX.out.below hb3 HX.out.lt)
  have hwl := words_len xs
  have hww := words_wide xs
  obtain ⟨wL, hwL⟩ : ∃ l, wordsD xs = l := ⟨_, rfl⟩
  rw [hwL] at hw hwl hww
  have HW : Hid (RdS (fun _ => True) w3 (some ⟨gw, 0, none⟩) nw cw wL) := hw.mono fun _ _ _ => trivial
  obtain ⟨aw, haw⟩ : ∃ a, (some ⟨gw, 0, none⟩ : Option Addr) = a := ⟨_, rfl⟩
  rw [haw] at HW ⊢
  have HL : Hid (RdS (fun _ => True) w3 al nl cl lL) := (HL0.out.below HB.out).mono fun _ _ _ => trivial
  have HC : Hid (Rd (fun _ => True) w3 .i64 ac nc cc cL) := (HC0.out.below HB.out).mono fun _ _ _ => trivial
  have HBy : Hid (Rd (fun _ => True) w3 .u8 ab nb cb bL) := (HBy0.out.below HB.out).mono fun _ _ _ => trivial
  have hll := shortD_parts HSH.out
  have hnw : nw ≤ 20 := by rw [HW.out.hl]; exact hwl
  have hnl : nl ≤ 30 := by rw [HL.out.hl]; exact hll
  have HDW : Hid (∀ s ∈ wL ++ lL, s.length ≤ maxLen) := fun s hs => by
    rcases List.mem_append.1 hs with h | h
    · exact HW.out.wide s h
    · exact HL.out.wide s h
  have HWLL : Hid ((wL ++ lL).length ≤ 50) := by show _ ≤ _; rw [List.length_append]; omega
  have HN1 : Hid (nw ≤ 100000000) := by show _ ≤ _; omega
  have HN2 : Hid (wL.length + nl ≤ 100000000) := by show _ ≤ _; omega
  clear hw hb3 hww hwL haw HXL HL0 HC0 HBy0 HSH HOX
  go_upto_region 5 with fail
  refine wp_region_writes (base := w3.heap.size) (us := [some 2, none, some 5, none, none, none, none, none]) (ws := [5]) (bs := [false, true, false, true, true, false, false, false]) (fs := [Row0S w3.heap.size, Fact.is (.slice aw nw cw), RowS w3.heap.size wL, Fact.is (.pointer (some ⟨B0, 0, none⟩)), Fact.is (.slice al nl cl), RowS w3.heap.size (wL ++ lL), AnyS (ofS (wL ++ lL)), AnyS (ofS (wL ++ lL))]) 8 (by kernel_rfl) (by kernel_rfl) (by kernel_rfl) (by kernel_rfl) (Nat.le_refl _) ⟨row0S_stable _, Fact.is_stable _, rowS_stable _ _, Fact.is_stable _, Fact.is_stable _, rowS_stable _ _, anyS_stable _, anyS_stable _, trivial⟩ ⟨(fun h => by cases h), (fun _ => Fact.is_firm _ _), (fun h => by cases h), (fun _ => Fact.is_firm _ _), (fun _ => Fact.is_firm _ _), (fun h => by cases h), (fun h => by cases h), (fun h => by cases h), trivial⟩ ?_ ?_
  · exact ⟨by
        intro a W hA hB hd
        have hB := Lib.hid hB
        exact step2_of (step_lays (wanted_none rfl) (.slice (some ⟨W.heap.size, 0, none⟩) 0 0) (W.alloc (.cells #[] 9)) (by simp [execOp, go_sem]) ((Below.refl _ W).alloc (Nat.le_refl _) _) (row0S_new W _ hB.out.size)),
      by
        intro a W hA hB hd
        have hB := Lib.hid hB
        have p6 : a.eval (.tmp 6) = .slice aw nw cw := hA.at 6 (by kernel_rfl)
        exact step2_of (step_pure (wanted_none rfl) (.slice aw nw cw) (by simp [execOp, go_sem, tm p6]) rfl),
      by
        intro a W hA hB hd
        obtain ⟨q0, q1, -⟩ := hd
        have h43 : (Row0S w3.heap.size) (a.eval (.tmp 43)) W := q0
        have h44 : a.eval (.tmp 44) = .slice aw nw cw := q1
        have hB := Lib.hid hB
        obtain ⟨v', w', hr, h1, h2⟩ := row0S_append h43 (HW.out.below hB.out) hB.out.size HN1.out
        exact step2_of (step_appendS (wanted_none rfl) (.tmp 43) (.tmp 44) 23 23 rfl rfl h44 hr h2 h1),
      by
        intro a W hA hB hd
        have hB := Lib.hid hB
        have p3 : a.eval (.tmp 3) = .pointer (some ⟨B0, 0, none⟩) := hA.at 3 (by kernel_rfl)
        exact step2_of (step_pure (wanted_none rfl) (.pointer (some ⟨B0, 0, none⟩)) (by simp [execOp, go_sem, tm p3]) rfl),
      by
        intro a W hA hB hd
        obtain ⟨q0, -⟩ := hd
        have h46 : a.eval (.tmp 46) = .pointer (some ⟨B0, 0, none⟩) := q0
        have hB := Lib.hid hB
        have c0 := (HX.out.below hB.out HX.out.lt).c0
        exact step2_of (step_pure (wanted_none rfl) (.slice al nl cl) (by simp [execOp, go_sem, tm h46, c0]) rfl),
      by
        intro a W hA hB hd
        obtain ⟨q0, q1, q2, -⟩ := hd
        have h45 : (RowS w3.heap.size wL) (a.eval (.tmp 45)) W := q0
        have h47 : a.eval (.tmp 47) = .slice al nl cl := q1
        have hB := Lib.hid hB
        obtain ⟨v', w', hr, h1, h2⟩ := rowS_append h45 (HL.out.below hB.out) hB.out.size HN2.out
        exact step2_append (wanted_none rfl) (.tmp 45) (.tmp 47) 23 23 rfl rfl h47 hr h2 h1,
      by
        intro a W hA hB hd
        obtain ⟨q0, q1, -⟩ := hd
        have h48 : (RowS w3.heap.size (wL ++ lL)) (a.eval (.tmp 48)) W := q0
        have hB := Lib.hid hB
        obtain ⟨gq, cq, e48, r48⟩ := rowS_rd h48 HDW.out (Nat.le_trans HWLL.out (by decide))
        exact step2_of (step_calls (wanted_none rfl) rfl (vals := #[.slice (some ⟨gq, 0, none⟩) (wL ++ lL).length cq]) (by simp [e48]) (enters_of Try.func13 (by kernel_rfl) rfl) (ofR_f r48 (Nat.le_trans HWLL.out (by decide)))),
      by
        intro a W hA hB hd
        obtain ⟨q0, q1, -⟩ := hd
        have h49 : (AnyS (ofS (wL ++ lL))) (a.eval (.tmp 49)) W := q0
        have hB := Lib.hid hB
        exact step2_of (step_pure (wanted_none rfl) (a.eval (.tmp 49)) (by simp [execOp, go_sem]) h49), trivial⟩
  · intro zx V5 hA hB5 hE
    have f7 : (AnyS (ofS (wL ++ lL))) (zx.eval (.tmp 7)) V5 := hE.2.2.2.2.2.2.2.1
    obtain ⟨ad, nd, cd, e7, hd⟩ := f7
    have hp := hA.puts [43, 44, 45, 46, 47, 48, 49, 7] (by kernel_rfl)
    clear hA hE
    simp only [putAll, e7] at hp
    clear e7
    generalize zx.eval = ev5 at hp
    subst hp
    have HD := Lib.hid hd
    have hdl : (ofS (wL ++ lL)).length ≤ 50 := Nat.le_trans (of_len _) HWLL.out
    obtain ⟨dL, hdL⟩ : ∃ l, ofS (wL ++ lL) = l := ⟨_, rfl⟩
    rw [hdL] at HD hdl
    have hnd : nd ≤ 50 := by rw [HD.out.hl]; exact hdl
    clear hdL hd hdl
    replace HB : Hid (Below w.heap.size w V5) := HB.out.trans (hB5.mono HB.out.size)
    replace HX := Lib.hid (HX.out.below hB5 HX.out.lt)
    replace HW := Lib.hid (HW.out.below hB5)
    replace HL := Lib.hid (HL.out.below hB5)
    replace HC := Lib.hid (HC.out.below hB5)
    replace HBy := Lib.hid (HBy.out.below hB5)
    clear hB5 HDW HWLL HN1 HN2
    simp [Act.put]
    go_upto_region 6 with fail
    have HNW : Hid (nw ≤ 1000000) := by show _ ≤ _; omega
    refine wp_region_writes (base := V5.heap.size) (us := [none, none, none, none, none, none, none, none]) (ws := []) (bs := [true, true, true, true, true, false, false, false]) (fs := [Fact.is (.slice aw nw cw), Fact.is (.slice ad nd cd), Fact.is (.pointer (some ⟨B0, 0, none⟩)), Fact.is (.slice al nl cl), Fact.is (.slice aw nw cw), AnyS (ofS wL), AllF (.slice aw nw cw) (.slice ad nd cd) (.slice al nl cl) (ofS wL), AllF (.slice aw nw cw) (.slice ad nd cd) (.slice al nl cl) (ofS wL)]) 8 (by kernel_rfl) (by kernel_rfl) (by kernel_rfl) (by kernel_rfl) (Nat.le_refl _) ⟨Fact.is_stable _, Fact.is_stable _, Fact.is_stable _, Fact.is_stable _, Fact.is_stable _, anyS_stable _, allF_stable _ _ _ _, allF_stable _ _ _ _, trivial⟩ ⟨(fun _ => Fact.is_firm _ _), (fun _ => Fact.is_firm _ _), (fun _ => Fact.is_firm _ _), (fun _ => Fact.is_firm _ _), (fun _ => Fact.is_firm _ _), (fun h => by cases h), (fun h => by cases h), (fun h => by cases h), trivial⟩ ?_ ?_
    · exact ⟨by
          intro a W hA hB hd
          have hB := Lib.hid hB
          have p6 : a.eval (.tmp 6) = .slice aw nw cw := hA.at 6 (by kernel_rfl)
          exact step2_of (step_pure (wanted_none rfl) (.slice aw nw cw) (by simp [execOp, go_sem, tm p6]) rfl),
        by
          intro a W hA hB hd
          have hB := Lib.hid hB
          have p7 : a.eval (.tmp 7) = .slice ad nd cd := hA.at 7 (by kernel_rfl)
          exact step2_of (step_pure (wanted_none rfl) (.slice ad nd cd) (by simp [execOp, go_sem, tm p7]) rfl),
        by
          intro a W hA hB hd
          have hB := Lib.hid hB
          have p3 : a.eval (.tmp 3) = .pointer (some ⟨B0, 0, none⟩) := hA.at 3 (by kernel_rfl)
          exact step2_of (step_pure (wanted_none rfl) (.pointer (some ⟨B0, 0, none⟩)) (by simp [execOp, go_sem, tm p3]) rfl),
        by
          intro a W hA hB hd
          obtain ⟨q0, -⟩ := hd
          have h52 : a.eval (.tmp 52) = .pointer (some ⟨B0, 0, none⟩) := q0
          have hB := Lib.hid hB
          have c0 := (HX.out.below hB.out HX.out.lt).c0
          exact step2_of (step_pure (wanted_none rfl) (.slice al nl cl) (by simp [execOp, go_sem, tm h52, c0]) rfl),
        by
          intro a W hA hB hd
          have hB := Lib.hid hB
          have p6 : a.eval (.tmp 6) = .slice aw nw cw := hA.at 6 (by kernel_rfl)
          exact step2_of (step_pure (wanted_none rfl) (.slice aw nw cw) (by simp [execOp, go_sem, tm p6]) rfl),
        by
          intro a W hA hB hd
          obtain ⟨q0, -⟩ := hd
          have h54 : a.eval (.tmp 54) = .slice aw nw cw := q0
          have hB := Lib.hid hB
          exact step2_of (step_calls (wanted_none rfl) rfl (vals := #[.slice aw nw cw]) (by simp [h54]) (enters_of Try.func13 (by kernel_rfl) rfl) (ofR_f (HW.out.below hB.out) HNW.out)),
        by
          intro a W hA hB hd
          obtain ⟨q0, q1, q2, q3, -⟩ := hd
          have h50 : a.eval (.tmp 50) = .slice aw nw cw := q0
          have h51 : a.eval (.tmp 51) = .slice ad nd cd := q1
          have h53 : a.eval (.tmp 53) = .slice al nl cl := q2
          have h55 : (AnyS (ofS wL)) (a.eval (.tmp 55)) W := q3
          have hB := Lib.hid hB
          obtain ⟨ao, no, co, e55, r55⟩ := h55
          exact step2_of (step_lays (wanted_none rfl) (.slice (some ⟨W.heap.size, 0, none⟩) 4 4) (W.alloc (.cells #[.slice aw nw cw, .slice ad nd cd, .slice al nl cl, .slice ao no co] 23)) (by simp [execOp, go_sem, tm h50, tm h51, tm h53, tm e55]) ((Below.refl _ W).alloc (Nat.le_refl _) _) ⟨_, ao, no, co, rfl, Quad.new W 23 _ _ _ _, r55.below ((Below.refl _ W).alloc (Nat.le_refl _) _)⟩),
        by
          intro a W hA hB hd
          obtain ⟨q0, q1, -⟩ := hd
          have h56 : (AllF (.slice aw nw cw) (.slice ad nd cd) (.slice al nl cl) (ofS wL)) (a.eval (.tmp 56)) W := q0
          have h55 : (AnyS (ofS wL)) (a.eval (.tmp 55)) W := q1
          have hB := Lib.hid hB
          exact step2_of (step_pure (wanted_none rfl) (a.eval (.tmp 56)) (by simp [execOp, go_sem]) h56), trivial⟩
    · intro zx V6 hA hB6 hE
      have f8 : (AllF (.slice aw nw cw) (.slice ad nd cd) (.slice al nl cl) (ofS wL)) (zx.eval (.tmp 8)) V6 := hE.2.2.2.2.2.2.2.1
      obtain ⟨B8, ao, no, co, e8, hq8, hro⟩ := f8
      have p3 : zx.eval (.tmp 3) = .pointer (some ⟨B0, 0, none⟩) := hA.at 3 (by kernel_rfl)
      have p5 : zx.eval (.tmp 5) = .bool true := hA.at 5 (by kernel_rfl)
      have p6 : zx.eval (.tmp 6) = .slice aw nw cw := hA.at 6 (by kernel_rfl)
      have p7 : zx.eval (.tmp 7) = .slice ad nd cd := hA.at 7 (by kernel_rfl)
      have hds : zx.defers = [] := hA.defers
      have hsz : zx.tmps.size = 265 := hA.size
      clear hA hE
      have ha := act_lit zx 265 hsz
      rw [show List.range 265 = [0, 1, 2, 3, 4, 5, 6, 7, 8, 9, 10, 11, 12, 13, 14, 15, 16, 17, 18, 19, 20, 21, 22, 23, 24, 25, 26, 27, 28, 29, 30, 31, 32, 33, 34, 35, 36, 37, 38, 39, 40, 41, 42, 43, 44, 45, 46, 47, 48, 49, 50, 51, 52, 53, 54, 55, 56, 57, 58, 59, 60, 61, 62, 63, 64, 65, 66, 67, 68, 69, 70, 71, 72, 73, 74, 75, 76, 77, 78, 79, 80, 81, 82, 83, 84, 85, 86, 87, 88, 89, 90, 91, 92, 93, 94, 95, 96, 97, 98, 99, 100, 101, 102, 103, 104, 105, 106, 107, 108, 109, 110, 111, 112, 113, 114, 115, 116, 117, 118, 119, 120, 121, 122, 123, 124, 125, 126, 127, 128, 129, 130, 131, 132, 133, 134, 135, 136, 137, 138, 139, 140, 141, 142, 143, 144, 145, 146, 147, 148, 149, 150, 151, 152, 153, 154, 155, 156, 157, 158, 159, 160, 161, 162, 163, 164, 165, 166, 167, 168, 169, 170, 171, 172, 173, 174, 175, 176, 177, 178, 179, 180, 181, 182, 183, 184, 185, 186, 187, 188, 189, 190, 191, 192, 193, 194, 195, 196, 197, 198, 199, 200, 201, 202, 203, 204, 205, 206, 207, 208, 209, 210, 211, 212, 213, 214, 215, 216, 217, 218, 219, 220, 221, 222, 223, 224, 225, 226, 227, 228, 229, 230, 231, 232, 233, 234, 235, 236, 237, 238, 239, 240, 241, 242, 243, 244, 245, 246, 247, 248, 249, 250, 251, 252, 253, 254, 255, 256, 257, 258, 259, 260, 261, 262, 263, 264] from rfl] at ha
      simp only [List.map_cons, List.map_nil, hds, e8, p3, p5, p6, p7] at ha
      rw [ha]
      clear ha hds hsz e8 p3 p5 p6 p7
      generalize zx.eval = ev6
      have HQ8 := Lib.hid hq8
      have HO := Lib.hid hro
      have hol : (ofS wL).length ≤ 20 := Nat.le_trans (of_len _) hwl
      obtain ⟨oL, hoL⟩ : ∃ l, ofS wL = l := ⟨_, rfl⟩
      rw [hoL] at HO hol
      have hno : no ≤ 20 := by rw [HO.out.hl]; exact hol
      clear hoL hq8 hro hol hwl HNW
      replace HB : Hid (Below w.heap.size w V6) := HB.out.trans (hB6.mono HB.out.size)
      replace HX := Lib.hid (HX.out.below hB6 HX.out.lt)
      replace HW := Lib.hid (HW.out.below hB6)
      replace HL := Lib.hid (HL.out.below hB6)
      replace HC := Lib.hid (HC.out.below hB6)
      replace HBy := Lib.hid (HBy.out.below hB6)
      replace HD := Lib.hid (HD.out.below hB6)
      clear hB6
      go_wp2_with fail
      go_loopw [9] (fun i wr => ∃ k : Nat, k ≤ 4 ∧ i = .int .i64 (k : Int) ∧ Hid (Below w.heap.size w wr) ∧ Hid (Hex wr B0 27 (.slice al nl cl) (.slice ac nc cc) (.slice ab nb cb) (.int .u8 (k0 : Int)) (.int .u8 (k1 : Int)) (.int .u8 (k2 : Int))) ∧ Hid (Quad wr B8 23 (.slice aw nw cw) (.slice ad nd cd) (.slice al nl cl) (.slice ao no co)) ∧ Hid (RdS (fun _ => True) wr aw nw cw wL) ∧ Hid (RdS (fun _ => True) wr ad nd cd dL) ∧ Hid (RdS (fun _ => True) wr al nl cl lL) ∧ Hid (RdS (fun _ => True) wr ao no co oL) ∧ Hid (Rd (fun _ => True) wr .i64 ac nc cc cL) ∧ Hid (Rd (fun _ => True) wr .u8 ab nb cb bL)) (fun i _ => 4 - (intOf i).toNat)
      case atStart => exact ⟨0, by omega, rfl, HB, HX, HQ8, HW, HD, HL, HO, HC, HBy⟩
      case round =>
        obtain ⟨k, hk, rfl, jB, jX, jQ8, jW, jD, jL, jO, jC, jBy⟩ := hrel
        clear HB HX HQ8 HW HD HL HO HC HBy
        have HB := jB
        have HX := jX
        have HQ8 := jQ8
        have HW := jW
        have HD := jD
        have HL := jL
        have HO := jO
        have HC := jC
        have HBy := jBy
        clear jB jX jQ8 jW jD jL jO jC jBy
        by_cases hlt : k < 4
        · have hltI : (k : Int) < 4 := by omega
          have HLI : Hid (∃ ai ni ci li, wr.cell? ⟨B8, k, none⟩ = some (.slice ai ni ci) ∧ RdS (fun _ => True) wr ai ni ci li ∧ ni ≤ 50) := by
            obtain ⟨y0, y1, y2, y3⟩ := HQ8.out.cell
            rcases (show k = 0 ∨ k = 1 ∨ k = 2 ∨ k = 3 by omega) with rfl | rfl | rfl | rfl
            · exact ⟨_, _, _, _, y0, HW.out, by omega⟩
            · exact ⟨_, _, _, _, y1, HD.out, by omega⟩
            · exact ⟨_, _, _, _, y2, HL.out, by omega⟩
            · exact ⟨_, _, _, _, y3, HO.out, by omega⟩
          obtain ⟨ai, ni, ci, li, hci, hri, hni⟩ := HLI.out
          have HI8 := Lib.hid hci
          have HI := Lib.hid hri
          have HB8 := Lib.hid HQ8.out.lt
          have hkL := hlt
          have HK4 : Hid (¬ (4:Int) ≤ (k:Int)) := by show ¬ _; omega
          clear HLI hci hri
          go_upto_region 10 with fail
          refine wp_region_srcs (base := wr.heap.size) (fs := [Fact.is (.slice ad nd cd), Fact.is (.slice (some ⟨B8, 0, none⟩) 4 4), Fact.is (.int .i64 (k : Int)), Fact.is (.pointer (some ⟨B8, k, none⟩)), Fact.is (.slice ai ni ci), CdF dL li, Fact.is (.slice ad nd cd), Fact.is (.slice (some ⟨B8, 0, none⟩) 4 4), Fact.is (.int .i64 (k : Int)), Fact.is (.pointer (some ⟨B8, k, none⟩)), Fact.is (.slice ai ni ci), CdF dL li, Fact.no, Fact.no, Fact.no, Fact.no]) (bs := [false, false, false, false, false, false, false, false, false, false, false, false, true, true, false, false]) (vs := [⟨12, 14, 5, 10, 68, 35, #[.slice none 0 0, .int .i64 0]⟩, ⟨13, 15, 11, 11, 74, 35, #[.slice none 0 0, .int .i64 0]⟩]) (by kernel_rfl) (by kernel_rfl) (by kernel_rfl) (by kernel_rfl) (by simp [ApartS]) rfl ⟨(fun h => by cases h), (fun h => by cases h), (fun h => by cases h), (fun h => by cases h), (fun h => by cases h), (fun h => by cases h), (fun h => by cases h), (fun h => by cases h), (fun h => by cases h), (fun h => by cases h), (fun h => by cases h), (fun h => by cases h), fun _ => rfl, fun _ => rfl, (fun h => by cases h), (fun h => by cases h), trivial⟩ ⟨Fact.is_stable _, Fact.is_stable _, Fact.is_stable _, Fact.is_stable _, Fact.is_stable _, cdF_stable _ _, Fact.is_stable _, Fact.is_stable _, Fact.is_stable _, Fact.is_stable _, Fact.is_stable _, cdF_stable _ _, Fact.no_stable, Fact.no_stable, Fact.no_stable, Fact.no_stable, trivial⟩ ⟨Fact.is_putS _ _, Fact.is_putS _ _, Fact.is_putS _ _, Fact.is_putS _ _, Fact.is_putS _ _, cdF_putS (by intro v hv; simp at hv; rcases hv with rfl | rfl <;> rfl) _ _, Fact.is_putS _ _, Fact.is_putS _ _, Fact.is_putS _ _, Fact.is_putS _ _, Fact.is_putS _ _, cdF_putS (by intro v hv; simp at hv; rcases hv with rfl | rfl <;> rfl) _ _, Fact.no_putS _, Fact.no_putS _, Fact.no_putS _, Fact.no_putS _, trivial⟩ ?_ ?_
          · exact ⟨stepS_other rfl rfl (by
                intro a W hA hB hd
                have hB := Lib.hid hB
                have p3 : a.eval (.tmp 3) = .pointer (some ⟨B0, 0, none⟩) := hA.at 3 (by kernel_rfl)
                have p6 : a.eval (.tmp 6) = .slice aw nw cw := hA.at 6 (by kernel_rfl)
                have p7 : a.eval (.tmp 7) = .slice ad nd cd := hA.at 7 (by kernel_rfl)
                have p8 : a.eval (.tmp 8) = .slice (some ⟨B8, 0, none⟩) 4 4 := hA.at 8 (by kernel_rfl)
                have p9 : a.eval (.tmp 9) = .int .i64 (k : Int) := hA.at 9 (by kernel_rfl)
                exact (step_pure (wanted_none rfl) (.slice ad nd cd) (by simp [execOp, go_sem, tm p7]) rfl)),
              stepS_other rfl rfl (by
                intro a W hA hB hd
                have hB := Lib.hid hB
                have p3 : a.eval (.tmp 3) = .pointer (some ⟨B0, 0, none⟩) := hA.at 3 (by kernel_rfl)
                have p6 : a.eval (.tmp 6) = .slice aw nw cw := hA.at 6 (by kernel_rfl)
                have p7 : a.eval (.tmp 7) = .slice ad nd cd := hA.at 7 (by kernel_rfl)
                have p8 : a.eval (.tmp 8) = .slice (some ⟨B8, 0, none⟩) 4 4 := hA.at 8 (by kernel_rfl)
                have p9 : a.eval (.tmp 9) = .int .i64 (k : Int) := hA.at 9 (by kernel_rfl)
                exact (step_pure (wanted_none rfl) (.slice (some ⟨B8, 0, none⟩) 4 4) (by simp [execOp, go_sem, tm p8]) rfl)),
              stepS_other rfl rfl (by
                intro a W hA hB hd
                have hB := Lib.hid hB
                have p3 : a.eval (.tmp 3) = .pointer (some ⟨B0, 0, none⟩) := hA.at 3 (by kernel_rfl)
                have p6 : a.eval (.tmp 6) = .slice aw nw cw := hA.at 6 (by kernel_rfl)
                have p7 : a.eval (.tmp 7) = .slice ad nd cd := hA.at 7 (by kernel_rfl)
                have p8 : a.eval (.tmp 8) = .slice (some ⟨B8, 0, none⟩) 4 4 := hA.at 8 (by kernel_rfl)
                have p9 : a.eval (.tmp 9) = .int .i64 (k : Int) := hA.at 9 (by kernel_rfl)
                exact (step_pure (wanted_none rfl) (.int .i64 (k : Int)) (by simp [execOp, go_sem, tm p9]) rfl)),
              stepS_other rfl rfl (by
                intro a W hA hB hd
                obtain ⟨q0, q1, -⟩ := hd
                have h64 : a.eval (.tmp 64) = .slice (some ⟨B8, 0, none⟩) 4 4 := q0
                have h65 : a.eval (.tmp 65) = .int .i64 (k : Int) := q1
                have hB := Lib.hid hB
                have p3 : a.eval (.tmp 3) = .pointer (some ⟨B0, 0, none⟩) := hA.at 3 (by kernel_rfl)
                have p6 : a.eval (.tmp 6) = .slice aw nw cw := hA.at 6 (by kernel_rfl)
                have p7 : a.eval (.tmp 7) = .slice ad nd cd := hA.at 7 (by kernel_rfl)
                have p8 : a.eval (.tmp 8) = .slice (some ⟨B8, 0, none⟩) 4 4 := hA.at 8 (by kernel_rfl)
                have p9 : a.eval (.tmp 9) = .int .i64 (k : Int) := hA.at 9 (by kernel_rfl)
                exact (step_pure (wanted_none rfl) (.pointer (some ⟨B8, k, none⟩)) (by simp [execOp, go_sem, tm h64, tm h65, HK4.out]) rfl)),
              stepS_other rfl rfl (by
                intro a W hA hB hd
                obtain ⟨q0, -⟩ := hd
                have h66 : a.eval (.tmp 66) = .pointer (some ⟨B8, k, none⟩) := q0
                have hB := Lib.hid hB
                have p3 : a.eval (.tmp 3) = .pointer (some ⟨B0, 0, none⟩) := hA.at 3 (by kernel_rfl)
                have p6 : a.eval (.tmp 6) = .slice aw nw cw := hA.at 6 (by kernel_rfl)
                have p7 : a.eval (.tmp 7) = .slice ad nd cd := hA.at 7 (by kernel_rfl)
                have p8 : a.eval (.tmp 8) = .slice (some ⟨B8, 0, none⟩) 4 4 := hA.at 8 (by kernel_rfl)
                have p9 : a.eval (.tmp 9) = .int .i64 (k : Int) := hA.at 9 (by kernel_rfl)
                have c0 := (hB.out.cell (p := ⟨B8, k, none⟩) HB8.out).trans HI8.out
                exact (step_pure (wanted_none rfl) (.slice ai ni ci) (by simp [execOp, go_sem, tm h66, c0]) rfl)),
              stepS_other rfl rfl (by
                intro a W hA hB hd
                obtain ⟨q0, q1, -⟩ := hd
                have h63 : a.eval (.tmp 63) = .slice ad nd cd := q0
                have h67 : a.eval (.tmp 67) = .slice ai ni ci := q1
                have hB := Lib.hid hB
                have p3 : a.eval (.tmp 3) = .pointer (some ⟨B0, 0, none⟩) := hA.at 3 (by kernel_rfl)
                have p6 : a.eval (.tmp 6) = .slice aw nw cw := hA.at 6 (by kernel_rfl)
                have p7 : a.eval (.tmp 7) = .slice ad nd cd := hA.at 7 (by kernel_rfl)
                have p8 : a.eval (.tmp 8) = .slice (some ⟨B8, 0, none⟩) 4 4 := hA.at 8 (by kernel_rfl)
                have p9 : a.eval (.tmp 9) = .int .i64 (k : Int) := hA.at 9 (by kernel_rfl)
                exact (step_calls (wanted_none rfl) rfl (vals := #[.slice ad nd cd, .slice ai ni ci]) (by simp [h63, h67]) (enters_of Try.func14 (by kernel_rfl) rfl) (codesW_f (HD.out.below hB.out) (HI.out.below hB.out)))),
              stepS_other rfl rfl (by
                intro a W hA hB hd
                have hB := Lib.hid hB
                have p3 : a.eval (.tmp 3) = .pointer (some ⟨B0, 0, none⟩) := hA.at 3 (by kernel_rfl)
                have p6 : a.eval (.tmp 6) = .slice aw nw cw := hA.at 6 (by kernel_rfl)
                have p7 : a.eval (.tmp 7) = .slice ad nd cd := hA.at 7 (by kernel_rfl)
                have p8 : a.eval (.tmp 8) = .slice (some ⟨B8, 0, none⟩) 4 4 := hA.at 8 (by kernel_rfl)
                have p9 : a.eval (.tmp 9) = .int .i64 (k : Int) := hA.at 9 (by kernel_rfl)
                exact (step_pure (wanted_none rfl) (.slice ad nd cd) (by simp [execOp, go_sem, tm p7]) rfl)),
              stepS_other rfl rfl (by
                intro a W hA hB hd
                have hB := Lib.hid hB
                have p3 : a.eval (.tmp 3) = .pointer (some ⟨B0, 0, none⟩) := hA.at 3 (by kernel_rfl)
                have p6 : a.eval (.tmp 6) = .slice aw nw cw := hA.at 6 (by kernel_rfl)
                have p7 : a.eval (.tmp 7) = .slice ad nd cd := hA.at 7 (by kernel_rfl)
                have p8 : a.eval (.tmp 8) = .slice (some ⟨B8, 0, none⟩) 4 4 := hA.at 8 (by kernel_rfl)
                have p9 : a.eval (.tmp 9) = .int .i64 (k : Int) := hA.at 9 (by kernel_rfl)
                exact (step_pure (wanted_none rfl) (.slice (some ⟨B8, 0, none⟩) 4 4) (by simp [execOp, go_sem, tm p8]) rfl)),
              stepS_other rfl rfl (by
                intro a W hA hB hd
                have hB := Lib.hid hB
                have p3 : a.eval (.tmp 3) = .pointer (some ⟨B0, 0, none⟩) := hA.at 3 (by kernel_rfl)
                have p6 : a.eval (.tmp 6) = .slice aw nw cw := hA.at 6 (by kernel_rfl)
                have p7 : a.eval (.tmp 7) = .slice ad nd cd := hA.at 7 (by kernel_rfl)
                have p8 : a.eval (.tmp 8) = .slice (some ⟨B8, 0, none⟩) 4 4 := hA.at 8 (by kernel_rfl)
                have p9 : a.eval (.tmp 9) = .int .i64 (k : Int) := hA.at 9 (by kernel_rfl)
                exact (step_pure (wanted_none rfl) (.int .i64 (k : Int)) (by simp [execOp, go_sem, tm p9]) rfl)),
              stepS_other rfl rfl (by
                intro a W hA hB hd
                obtain ⟨q0, q1, -⟩ := hd
                have h70 : a.eval (.tmp 70) = .slice (some ⟨B8, 0, none⟩) 4 4 := q0
                have h71 : a.eval (.tmp 71) = .int .i64 (k : Int) := q1
                have hB := Lib.hid hB
                have p3 : a.eval (.tmp 3) = .pointer (some ⟨B0, 0, none⟩) := hA.at 3 (by kernel_rfl)
                have p6 : a.eval (.tmp 6) = .slice aw nw cw := hA.at 6 (by kernel_rfl)
                have p7 : a.eval (.tmp 7) = .slice ad nd cd := hA.at 7 (by kernel_rfl)
                have p8 : a.eval (.tmp 8) = .slice (some ⟨B8, 0, none⟩) 4 4 := hA.at 8 (by kernel_rfl)
                have p9 : a.eval (.tmp 9) = .int .i64 (k : Int) := hA.at 9 (by kernel_rfl)
                exact (step_pure (wanted_none rfl) (.pointer (some ⟨B8, k, none⟩)) (by simp [execOp, go_sem, tm h70, tm h71, HK4.out]) rfl)),
              stepS_other rfl rfl (by
                intro a W hA hB hd
                obtain ⟨q0, -⟩ := hd
                have h72 : a.eval (.tmp 72) = .pointer (some ⟨B8, k, none⟩) := q0
                have hB := Lib.hid hB
                have p3 : a.eval (.tmp 3) = .pointer (some ⟨B0, 0, none⟩) := hA.at 3 (by kernel_rfl)
                have p6 : a.eval (.tmp 6) = .slice aw nw cw := hA.at 6 (by kernel_rfl)
                have p7 : a.eval (.tmp 7) = .slice ad nd cd := hA.at 7 (by kernel_rfl)
                have p8 : a.eval (.tmp 8) = .slice (some ⟨B8, 0, none⟩) 4 4 := hA.at 8 (by kernel_rfl)
                have p9 : a.eval (.tmp 9) = .int .i64 (k : Int) := hA.at 9 (by kernel_rfl)
                have c0 := (hB.out.cell (p := ⟨B8, k, none⟩) HB8.out).trans HI8.out
                exact (step_pure (wanted_none rfl) (.slice ai ni ci) (by simp [execOp, go_sem, tm h72, c0]) rfl)),
              stepS_other rfl rfl (by
                intro a W hA hB hd
                obtain ⟨q0, q1, q2, -⟩ := hd
                have h69 : a.eval (.tmp 69) = .slice ad nd cd := q0
                have h73 : a.eval (.tmp 73) = .slice ai ni ci := q1
                have h68 : (CdF dL li) (a.eval (.tmp 68)) W := q2
                have hB := Lib.hid hB
                have p3 : a.eval (.tmp 3) = .pointer (some ⟨B0, 0, none⟩) := hA.at 3 (by kernel_rfl)
                have p6 : a.eval (.tmp 6) = .slice aw nw cw := hA.at 6 (by kernel_rfl)
                have p7 : a.eval (.tmp 7) = .slice ad nd cd := hA.at 7 (by kernel_rfl)
                have p8 : a.eval (.tmp 8) = .slice (some ⟨B8, 0, none⟩) 4 4 := hA.at 8 (by kernel_rfl)
                have p9 : a.eval (.tmp 9) = .int .i64 (k : Int) := hA.at 9 (by kernel_rfl)
                exact (step_calls (wanted_none rfl) rfl (vals := #[.slice ad nd cd, .slice ai ni ci]) (by simp [h69, h73]) (enters_of Try.func15 (by kernel_rfl) rfl) (codesR_f (HD.out.below hB.out) (HI.out.below hB.out)))),
              stepS_al (⟨12, 14, 5, 10, 68, 35, #[.slice none 0 0, .int .i64 0]⟩) rfl rfl (fun a W => by simp [execOp, go_sem]),
              stepS_al (⟨13, 15, 11, 11, 74, 35, #[.slice none 0 0, .int .i64 0]⟩) rfl rfl (fun a W => by simp [execOp, go_sem]),
              stepS_st (⟨12, 14, 5, 10, 68, 35, #[.slice none 0 0, .int .i64 0]⟩) rfl rfl rfl (by kernel_rfl) (by kernel_rfl) (by
                intro a W B hA hB hd hp hk
                obtain ⟨-, q1, -⟩ := hd
                have hp : a.eval (.tmp 10) = .pointer (some ⟨B, 0, none⟩) := hp
                have q1 : (CdF dL li) (a.eval (.tmp 68)) W := q1
                obtain ⟨xa, xn, xc, ex, -⟩ := q1
                exact store_cd rfl rfl hp ex hk),
              stepS_st (⟨13, 15, 11, 11, 74, 35, #[.slice none 0 0, .int .i64 0]⟩) rfl rfl rfl (by kernel_rfl) (by kernel_rfl) (by
                intro a W B hA hB hd hp hk
                obtain ⟨-, q1, -⟩ := hd
                have hp : a.eval (.tmp 11) = .pointer (some ⟨B, 0, none⟩) := hp
                have q1 : (CdF dL li) (a.eval (.tmp 74)) W := q1
                obtain ⟨xa, xn, xc, ex, -⟩ := q1
                exact store_cd rfl rfl hp ex hk), trivial⟩
          · intro ax V10 hA hB hE hF
            obtain ⟨hl, -⟩ := hE
            obtain ⟨B10, e10, g10, s10, k10⟩ := hl (⟨12, 14, 5, 10, 68, 35, #[.slice none 0 0, .int .i64 0]⟩) (by simp)
            have e10 : ax.eval (.tmp 10) = .pointer (some ⟨B10, 0, none⟩) := e10
            obtain ⟨cs10, c10, k10⟩ := (k10 : ∃ cs, ax.eval (.tmp 68) = .agg cs ∧ _)
            have f68 : (CdF dL li) (ax.eval (.tmp 68)) V10 := hF 5 68 (by kernel_rfl)
            obtain ⟨a10, n10, d10, u10, r10⟩ := f68
            rw [u10] at c10
            injection c10 with c10
            subst c10
            obtain ⟨B11, e11, g11, s11, k11⟩ := hl (⟨13, 15, 11, 11, 74, 35, #[.slice none 0 0, .int .i64 0]⟩) (by simp)
            have e11 : ax.eval (.tmp 11) = .pointer (some ⟨B11, 0, none⟩) := e11
            obtain ⟨cs11, c11, k11⟩ := (k11 : ∃ cs, ax.eval (.tmp 74) = .agg cs ∧ _)
            have f74 : (CdF dL li) (ax.eval (.tmp 74)) V10 := hF 11 74 (by kernel_rfl)
            obtain ⟨a11, n11, d11, u11, r11⟩ := f74
            rw [u11] at c11
            injection c11 with c11
            subst c11
            have hp := hA.puts [63, 64, 65, 66, 67, 68, 69, 70, 71, 72, 73, 74, 10, 11] (by kernel_rfl)
            clear hA hl hF u10 u11
            simp only [putAll, e10, e11] at hp
            clear e10 e11
            generalize ax.eval = ev10 at hp
            subst hp
            have D10 : Hid (Duo V10 B10 35 (.slice a10 n10 d10) (.int .i64 (cdE dL li))) := k10
            have F10 := Lib.hid r10.1
            have D11 : Hid (Duo V10 B11 35 (.slice a11 n11 d11) (.int .i64 (cdE dL li))) := k11
            have F11 := Lib.hid r11.1
            replace HB : Hid (Below w.heap.size w V10) := HB.out.trans (hB.mono HB.out.size)
            replace HI8 : Hid (V10.cell? ⟨B8, k, none⟩ = some (.slice ai ni ci)) := (hB.cell (p := ⟨B8, k, none⟩) HB8.out).trans HI8.out
            replace HB8 : Hid (B8 < V10.heap.size) := Nat.lt_of_lt_of_le HB8.out hB.size
            replace HX := Lib.hid (HX.out.below hB HX.out.lt)
            replace HQ8 := Lib.hid (HQ8.out.below hB HQ8.out.lt)
            replace HW := Lib.hid (HW.out.below hB)
            replace HD := Lib.hid (HD.out.below hB)
            replace HL := Lib.hid (HL.out.below hB)
            replace HO := Lib.hid (HO.out.below hB)
            replace HC := Lib.hid (HC.out.below hB)
            replace HBy := Lib.hid (HBy.out.below hB)
            replace HI := Lib.hid (HI.out.below hB)
            clear hB k10 k11 r10 r11 g10 g11 s10 s11 e10 e11
            simp [Act.put]
            go_upto_region 11 with fail
            refine wp_region_srcs (base := V10.heap.size) (fs := [Fact.is (.slice (some ⟨B8, 0, none⟩) 4 4), Fact.is (.int .i64 (k : Int)), Fact.is (.pointer (some ⟨B8, k, none⟩)), Fact.is (.slice ai ni ci), Fact.is (.slice aw nw cw), CdF li wL, Fact.is (.slice (some ⟨B8, 0, none⟩) 4 4), Fact.is (.int .i64 (k : Int)), Fact.is (.pointer (some ⟨B8, k, none⟩)), Fact.is (.slice ai ni ci), Fact.is (.slice aw nw cw), CdF li wL, Fact.no, Fact.no, Fact.no, Fact.no]) (bs := [false, false, false, false, false, false, false, false, false, false, false, false, true, true, false, false]) (vs := [⟨12, 14, 5, 12, 80, 35, #[.slice none 0 0, .int .i64 0]⟩, ⟨13, 15, 11, 13, 86, 35, #[.slice none 0 0, .int .i64 0]⟩]) (by kernel_rfl) (by kernel_rfl) (by kernel_rfl) (by kernel_rfl) (by simp [ApartS]) rfl ⟨(fun h => by cases h), (fun h => by cases h), (fun h => by cases h), (fun h => by cases h), (fun h => by cases h), (fun h => by cases h), (fun h => by cases h), (fun h => by cases h), (fun h => by cases h), (fun h => by cases h), (fun h => by cases h), (fun h => by cases h), fun _ => rfl, fun _ => rfl, (fun h => by cases h), (fun h => by cases h), trivial⟩ ⟨Fact.is_stable _, Fact.is_stable _, Fact.is_stable _, Fact.is_stable _, Fact.is_stable _, cdF_stable _ _, Fact.is_stable _, Fact.is_stable _, Fact.is_stable _, Fact.is_stable _, Fact.is_stable _, cdF_stable _ _, Fact.no_stable, Fact.no_stable, Fact.no_stable, Fact.no_stable, trivial⟩ ⟨Fact.is_putS _ _, Fact.is_putS _ _, Fact.is_putS _ _, Fact.is_putS _ _, Fact.is_putS _ _, cdF_putS (by intro v hv; simp at hv; rcases hv with rfl | rfl <;> rfl) _ _, Fact.is_putS _ _, Fact.is_putS _ _, Fact.is_putS _ _, Fact.is_putS _ _, Fact.is_putS _ _, cdF_putS (by intro v hv; simp at hv; rcases hv with rfl | rfl <;> rfl) _ _, Fact.no_putS _, Fact.no_putS _, Fact.no_putS _, Fact.no_putS _, trivial⟩ ?_ ?_
            · exact ⟨stepS_other rfl rfl (by
                  intro a W hA hB hd
                  have hB := Lib.hid hB
                  have p3 : a.eval (.tmp 3) = .pointer (some ⟨B0, 0, none⟩) := hA.at 3 (by kernel_rfl)
                  have p6 : a.eval (.tmp 6) = .slice aw nw cw := hA.at 6 (by kernel_rfl)
                  have p7 : a.eval (.tmp 7) = .slice ad nd cd := hA.at 7 (by kernel_rfl)
                  have p8 : a.eval (.tmp 8) = .slice (some ⟨B8, 0, none⟩) 4 4 := hA.at 8 (by kernel_rfl)
                  have p9 : a.eval (.tmp 9) = .int .i64 (k : Int) := hA.at 9 (by kernel_rfl)
                  exact (step_pure (wanted_none rfl) (.slice (some ⟨B8, 0, none⟩) 4 4) (by simp [execOp, go_sem, tm p8]) rfl)),
                stepS_other rfl rfl (by
                  intro a W hA hB hd
                  have hB := Lib.hid hB
                  have p3 : a.eval (.tmp 3) = .pointer (some ⟨B0, 0, none⟩) := hA.at 3 (by kernel_rfl)
                  have p6 : a.eval (.tmp 6) = .slice aw nw cw := hA.at 6 (by kernel_rfl)
                  have p7 : a.eval (.tmp 7) = .slice ad nd cd := hA.at 7 (by kernel_rfl)
                  have p8 : a.eval (.tmp 8) = .slice (some ⟨B8, 0, none⟩) 4 4 := hA.at 8 (by kernel_rfl)
                  have p9 : a.eval (.tmp 9) = .int .i64 (k : Int) := hA.at 9 (by kernel_rfl)
                  exact (step_pure (wanted_none rfl) (.int .i64 (k : Int)) (by simp [execOp, go_sem, tm p9]) rfl)),
                stepS_other rfl rfl (by
                  intro a W hA hB hd
                  obtain ⟨q0, q1, -⟩ := hd
                  have h75 : a.eval (.tmp 75) = .slice (some ⟨B8, 0, none⟩) 4 4 := q0
                  have h76 : a.eval (.tmp 76) = .int .i64 (k : Int) := q1
                  have hB := Lib.hid hB
                  have p3 : a.eval (.tmp 3) = .pointer (some ⟨B0, 0, none⟩) := hA.at 3 (by kernel_rfl)
                  have p6 : a.eval (.tmp 6) = .slice aw nw cw := hA.at 6 (by kernel_rfl)
                  have p7 : a.eval (.tmp 7) = .slice ad nd cd := hA.at 7 (by kernel_rfl)
                  have p8 : a.eval (.tmp 8) = .slice (some ⟨B8, 0, none⟩) 4 4 := hA.at 8 (by kernel_rfl)
                  have p9 : a.eval (.tmp 9) = .int .i64 (k : Int) := hA.at 9 (by kernel_rfl)
                  exact (step_pure (wanted_none rfl) (.pointer (some ⟨B8, k, none⟩)) (by simp [execOp, go_sem, tm h75, tm h76, HK4.out]) rfl)),
                stepS_other rfl rfl (by
                  intro a W hA hB hd
                  obtain ⟨q0, -⟩ := hd
                  have h77 : a.eval (.tmp 77) = .pointer (some ⟨B8, k, none⟩) := q0
                  have hB := Lib.hid hB
                  have p3 : a.eval (.tmp 3) = .pointer (some ⟨B0, 0, none⟩) := hA.at 3 (by kernel_rfl)
                  have p6 : a.eval (.tmp 6) = .slice aw nw cw := hA.at 6 (by kernel_rfl)
                  have p7 : a.eval (.tmp 7) = .slice ad nd cd := hA.at 7 (by kernel_rfl)
                  have p8 : a.eval (.tmp 8) = .slice (some ⟨B8, 0, none⟩) 4 4 := hA.at 8 (by kernel_rfl)
                  have p9 : a.eval (.tmp 9) = .int .i64 (k : Int) := hA.at 9 (by kernel_rfl)
                  have c0 := (hB.out.cell (p := ⟨B8, k, none⟩) HB8.out).trans HI8.out
                  exact (step_pure (wanted_none rfl) (.slice ai ni ci) (by simp [execOp, go_sem, tm h77, c0]) rfl)),
                stepS_other rfl rfl (by
                  intro a W hA hB hd
                  have hB := Lib.hid hB
                  have p3 : a.eval (.tmp 3) = .pointer (some ⟨B0, 0, none⟩) := hA.at 3 (by kernel_rfl)
                  have p6 : a.eval (.tmp 6) = .slice aw nw cw := hA.at 6 (by kernel_rfl)
                  have p7 : a.eval (.tmp 7) = .slice ad nd cd := hA.at 7 (by kernel_rfl)
                  have p8 : a.eval (.tmp 8) = .slice (some ⟨B8, 0, none⟩) 4 4 := hA.at 8 (by kernel_rfl)
                  have p9 : a.eval (.tmp 9) = .int .i64 (k : Int) := hA.at 9 (by kernel_rfl)
                  exact (step_pure (wanted_none rfl) (.slice aw nw cw) (by simp [execOp, go_sem, tm p6]) rfl)),
                stepS_other rfl rfl (by
                  intro a W hA hB hd
                  obtain ⟨q0, q1, -⟩ := hd
                  have h78 : a.eval (.tmp 78) = .slice ai ni ci := q0
                  have h79 : a.eval (.tmp 79) = .slice aw nw cw := q1
                  have hB := Lib.hid hB
                  have p3 : a.eval (.tmp 3) = .pointer (some ⟨B0, 0, none⟩) := hA.at 3 (by kernel_rfl)
                  have p6 : a.eval (.tmp 6) = .slice aw nw cw := hA.at 6 (by kernel_rfl)
                  have p7 : a.eval (.tmp 7) = .slice ad nd cd := hA.at 7 (by kernel_rfl)
                  have p8 : a.eval (.tmp 8) = .slice (some ⟨B8, 0, none⟩) 4 4 := hA.at 8 (by kernel_rfl)
                  have p9 : a.eval (.tmp 9) = .int .i64 (k : Int) := hA.at 9 (by kernel_rfl)
                  exact (step_calls (wanted_none rfl) rfl (vals := #[.slice ai ni ci, .slice aw nw cw]) (by simp [h78, h79]) (enters_of Try.func14 (by kernel_rfl) rfl) (codesW_f (HI.out.below hB.out) (HW.out.below hB.out)))),
                stepS_other rfl rfl (by
                  intro a W hA hB hd
                  have hB := Lib.hid hB
                  have p3 : a.eval (.tmp 3) = .pointer (some ⟨B0, 0, none⟩) := hA.at 3 (by kernel_rfl)
                  have p6 : a.eval (.tmp 6) = .slice aw nw cw := hA.at 6 (by kernel_rfl)
                  have p7 : a.eval (.tmp 7) = .slice ad nd cd := hA.at 7 (by kernel_rfl)
                  have p8 : a.eval (.tmp 8) = .slice (some ⟨B8, 0, none⟩) 4 4 := hA.at 8 (by kernel_rfl)
                  have p9 : a.eval (.tmp 9) = .int .i64 (k : Int) := hA.at 9 (by kernel_rfl)
                  exact (step_pure (wanted_none rfl) (.slice (some ⟨B8, 0, none⟩) 4 4) (by simp [execOp, go_sem, tm p8]) rfl)),
                stepS_other rfl rfl (by
                  intro a W hA hB hd
                  have hB := Lib.hid hB
                  have p3 : a.eval (.tmp 3) = .pointer (some ⟨B0, 0, none⟩) := hA.at 3 (by kernel_rfl)
                  have p6 : a.eval (.tmp 6) = .slice aw nw cw := hA.at 6 (by kernel_rfl)
                  have p7 : a.eval (.tmp 7) = .slice ad nd cd := hA.at 7 (by kernel_rfl)
                  have p8 : a.eval (.tmp 8) = .slice (some ⟨B8, 0, none⟩) 4 4 := hA.at 8 (by kernel_rfl)
                  have p9 : a.eval (.tmp 9) = .int .i64 (k : Int) := hA.at 9 (by kernel_rfl)
                  exact (step_pure (wanted_none rfl) (.int .i64 (k : Int)) (by simp [execOp, go_sem, tm p9]) rfl)),
                stepS_other rfl rfl (by
                  intro a W hA hB hd
                  obtain ⟨q0, q1, -⟩ := hd
                  have h81 : a.eval (.tmp 81) = .slice (some ⟨B8, 0, none⟩) 4 4 := q0
                  have h82 : a.eval (.tmp 82) = .int .i64 (k : Int) := q1
                  have hB := Lib.hid hB
                  have p3 : a.eval (.tmp 3) = .pointer (some ⟨B0, 0, none⟩) := hA.at 3 (by kernel_rfl)
                  have p6 : a.eval (.tmp 6) = .slice aw nw cw := hA.at 6 (by kernel_rfl)
                  have p7 : a.eval (.tmp 7) = .slice ad nd cd := hA.at 7 (by kernel_rfl)
                  have p8 : a.eval (.tmp 8) = .slice (some ⟨B8, 0, none⟩) 4 4 := hA.at 8 (by kernel_rfl)
                  have p9 : a.eval (.tmp 9) = .int .i64 (k : Int) := hA.at 9 (by kernel_rfl)
                  exact (step_pure (wanted_none rfl) (.pointer (some ⟨B8, k, none⟩)) (by simp [execOp, go_sem, tm h81, tm h82, HK4.out]) rfl)),
                stepS_other rfl rfl (by
                  intro a W hA hB hd
                  obtain ⟨q0, -⟩ := hd
                  have h83 : a.eval (.tmp 83) = .pointer (some ⟨B8, k, none⟩) := q0
                  have hB := Lib.hid hB
                  have p3 : a.eval (.tmp 3) = .pointer (some ⟨B0, 0, none⟩) := hA.at 3 (by kernel_rfl)
                  have p6 : a.eval (.tmp 6) = .slice aw nw cw := hA.at 6 (by kernel_rfl)
                  have p7 : a.eval (.tmp 7) = .slice ad nd cd := hA.at 7 (by kernel_rfl)
                  have p8 : a.eval (.tmp 8) = .slice (some ⟨B8, 0, none⟩) 4 4 := hA.at 8 (by kernel_rfl)
                  have p9 : a.eval (.tmp 9) = .int .i64 (k : Int) := hA.at 9 (by kernel_rfl)
                  have c0 := (hB.out.cell (p := ⟨B8, k, none⟩) HB8.out).trans HI8.out
                  exact (step_pure (wanted_none rfl) (.slice ai ni ci) (by simp [execOp, go_sem, tm h83, c0]) rfl)),
                stepS_other rfl rfl (by
                  intro a W hA hB hd
                  have hB := Lib.hid hB
                  have p3 : a.eval (.tmp 3) = .pointer (some ⟨B0, 0, none⟩) := hA.at 3 (by kernel_rfl)
                  have p6 : a.eval (.tmp 6) = .slice aw nw cw := hA.at 6 (by kernel_rfl)
                  have p7 : a.eval (.tmp 7) = .slice ad nd cd := hA.at 7 (by kernel_rfl)
                  have p8 : a.eval (.tmp 8) = .slice (some ⟨B8, 0, none⟩) 4 4 := hA.at 8 (by kernel_rfl)
                  have p9 : a.eval (.tmp 9) = .int .i64 (k : Int) := hA.at 9 (by kernel_rfl)
                  exact (step_pure (wanted_none rfl) (.slice aw nw cw) (by simp [execOp, go_sem, tm p6]) rfl)),
                stepS_other rfl rfl (by
                  intro a W hA hB hd
                  obtain ⟨q0, q1, q2, -⟩ := hd
                  have h84 : a.eval (.tmp 84) = .slice ai ni ci := q0
                  have h85 : a.eval (.tmp 85) = .slice aw nw cw := q1
                  have h80 : (CdF li wL) (a.eval (.tmp 80)) W := q2
                  have hB := Lib.hid hB
                  have p3 : a.eval (.tmp 3) = .pointer (some ⟨B0, 0, none⟩) := hA.at 3 (by kernel_rfl)
                  have p6 : a.eval (.tmp 6) = .slice aw nw cw := hA.at 6 (by kernel_rfl)
                  have p7 : a.eval (.tmp 7) = .slice ad nd cd := hA.at 7 (by kernel_rfl)
                  have p8 : a.eval (.tmp 8) = .slice (some ⟨B8, 0, none⟩) 4 4 := hA.at 8 (by kernel_rfl)
                  have p9 : a.eval (.tmp 9) = .int .i64 (k : Int) := hA.at 9 (by kernel_rfl)
                  exact (step_calls (wanted_none rfl) rfl (vals := #[.slice ai ni ci, .slice aw nw cw]) (by simp [h84, h85]) (enters_of Try.func15 (by kernel_rfl) rfl) (codesR_f (HI.out.below hB.out) (HW.out.below hB.out)))),
                stepS_al (⟨12, 14, 5, 12, 80, 35, #[.slice none 0 0, .int .i64 0]⟩) rfl rfl (fun a W => by simp [execOp, go_sem]),
                stepS_al (⟨13, 15, 11, 13, 86, 35, #[.slice none 0 0, .int .i64 0]⟩) rfl rfl (fun a W => by simp [execOp, go_sem]),
                stepS_st (⟨12, 14, 5, 12, 80, 35, #[.slice none 0 0, .int .i64 0]⟩) rfl rfl rfl (by kernel_rfl) (by kernel_rfl) (by
                  intro a W B hA hB hd hp hk
                  obtain ⟨-, q1, -⟩ := hd
                  have hp : a.eval (.tmp 12) = .pointer (some ⟨B, 0, none⟩) := hp
                  have q1 : (CdF li wL) (a.eval (.tmp 80)) W := q1
                  obtain ⟨xa, xn, xc, ex, -⟩ := q1
                  exact store_cd rfl rfl hp ex hk),
                stepS_st (⟨13, 15, 11, 13, 86, 35, #[.slice none 0 0, .int .i64 0]⟩) rfl rfl rfl (by kernel_rfl) (by kernel_rfl) (by
                  intro a W B hA hB hd hp hk
                  obtain ⟨-, q1, -⟩ := hd
                  have hp : a.eval (.tmp 13) = .pointer (some ⟨B, 0, none⟩) := hp
                  have q1 : (CdF li wL) (a.eval (.tmp 86)) W := q1
                  obtain ⟨xa, xn, xc, ex, -⟩ := q1
                  exact store_cd rfl rfl hp ex hk), trivial⟩
            · intro ax V11 hA hB hE hF
              obtain ⟨hl, -⟩ := hE
              obtain ⟨B12, e12, g12, s12, k12⟩ := hl (⟨12, 14, 5, 12, 80, 35, #[.slice none 0 0, .int .i64 0]⟩) (by simp)
              have e12 : ax.eval (.tmp 12) = .pointer (some ⟨B12, 0, none⟩) := e12
              obtain ⟨cs12, c12, k12⟩ := (k12 : ∃ cs, ax.eval (.tmp 80) = .agg cs ∧ _)
              have f80 : (CdF li wL) (ax.eval (.tmp 80)) V11 := hF 5 80 (by kernel_rfl)
              obtain ⟨a12, n12, d12, u12, r12⟩ := f80
              rw [u12] at c12
              injection c12 with c12
              subst c12
              obtain ⟨B13, e13, g13, s13, k13⟩ := hl (⟨13, 15, 11, 13, 86, 35, #[.slice none 0 0, .int .i64 0]⟩) (by simp)
              have e13 : ax.eval (.tmp 13) = .pointer (some ⟨B13, 0, none⟩) := e13
              obtain ⟨cs13, c13, k13⟩ := (k13 : ∃ cs, ax.eval (.tmp 86) = .agg cs ∧ _)
              have f86 : (CdF li wL) (ax.eval (.tmp 86)) V11 := hF 11 86 (by kernel_rfl)
              obtain ⟨a13, n13, d13, u13, r13⟩ := f86
              rw [u13] at c13
              injection c13 with c13
              subst c13
              have hp := hA.puts [75, 76, 77, 78, 79, 80, 81, 82, 83, 84, 85, 86, 12, 13] (by kernel_rfl)
              clear hA hl hF u12 u13
              simp only [putAll, e12, e13] at hp
              clear e12 e13
              generalize ax.eval = ev11 at hp
              subst hp
              have D12 : Hid (Duo V11 B12 35 (.slice a12 n12 d12) (.int .i64 (cdE li wL))) := k12
              have F12 := Lib.hid r12.1
              have D13 : Hid (Duo V11 B13 35 (.slice a13 n13 d13) (.int .i64 (cdE li wL))) := k13
              have F13 := Lib.hid r13.1
              replace HB : Hid (Below w.heap.size w V11) := HB.out.trans (hB.mono HB.out.size)
              replace HI8 : Hid (V11.cell? ⟨B8, k, none⟩ = some (.slice ai ni ci)) := (hB.cell (p := ⟨B8, k, none⟩) HB8.out).trans HI8.out
              replace HB8 : Hid (B8 < V11.heap.size) := Nat.lt_of_lt_of_le HB8.out hB.size
              replace HX := Lib.hid (HX.out.below hB HX.out.lt)
              replace HQ8 := Lib.hid (HQ8.out.below hB HQ8.out.lt)
              replace HW := Lib.hid (HW.out.below hB)
              replace HD := Lib.hid (HD.out.below hB)
              replace HL := Lib.hid (HL.out.below hB)
              replace HO := Lib.hid (HO.out.below hB)
              replace HC := Lib.hid (HC.out.below hB)
              replace HBy := Lib.hid (HBy.out.below hB)
              replace HI := Lib.hid (HI.out.below hB)
              replace D10 := Lib.hid (D10.out.below hB D10.out.lt)
              replace F10 := Lib.hid (F10.out.below hB)
              replace D11 := Lib.hid (D11.out.below hB D11.out.lt)
              replace F11 := Lib.hid (F11.out.below hB)
              clear hB k12 k13 r12 r13 g12 g13 s12 s13 e12 e13
              simp [Act.put]
              go_upto_region 12 with fail
              refine wp_region_srcs (base := V11.heap.size) (fs := [Fact.is (.slice (some ⟨B8, 0, none⟩) 4 4), Fact.is (.int .i64 (k : Int)), Fact.is (.pointer (some ⟨B8, k, none⟩)), Fact.is (.slice ai ni ci), Fact.is (.pointer (some ⟨B0, 1, none⟩)), Fact.is (.slice ac nc cc), StF li cL, Fact.is (.slice (some ⟨B8, 0, none⟩) 4 4), Fact.is (.int .i64 (k : Int)), Fact.is (.pointer (some ⟨B8, k, none⟩)), Fact.is (.slice ai ni ci), Fact.is (.pointer (some ⟨B0, 1, none⟩)), Fact.is (.slice ac nc cc), StF li cL, Fact.no, Fact.no, Fact.no, Fact.no]) (bs := [false, false, false, false, false, false, false, false, false, false, false, false, false, false, true, true, false, false]) (vs := [⟨14, 16, 6, 14, 93, 38, #[.slice none 0 0, .int .i64 0]⟩, ⟨15, 17, 13, 15, 100, 38, #[.slice none 0 0, .int .i64 0]⟩]) (by kernel_rfl) (by kernel_rfl) (by kernel_rfl) (by kernel_rfl) (by simp [ApartS]) rfl ⟨(fun h => by cases h), (fun h => by cases h), (fun h => by cases h), (fun h => by cases h), (fun h => by cases h), (fun h => by cases h), (fun h => by cases h), (fun h => by cases h), (fun h => by cases h), (fun h => by cases h), (fun h => by cases h), (fun h => by cases h), (fun h => by cases h), (fun h => by cases h), fun _ => rfl, fun _ => rfl, (fun h => by cases h), (fun h => by cases h), trivial⟩ ⟨Fact.is_stable _, Fact.is_stable _, Fact.is_stable _, Fact.is_stable _, Fact.is_stable _, Fact.is_stable _, stF_stable _ _, Fact.is_stable _, Fact.is_stable _, Fact.is_stable _, Fact.is_stable _, Fact.is_stable _, Fact.is_stable _, stF_stable _ _, Fact.no_stable, Fact.no_stable, Fact.no_stable, Fact.no_stable, trivial⟩ ⟨Fact.is_putS _ _, Fact.is_putS _ _, Fact.is_putS _ _, Fact.is_putS _ _, Fact.is_putS _ _, Fact.is_putS _ _, stF_putS (by intro v hv; simp at hv; rcases hv with rfl | rfl <;> rfl) _ _, Fact.is_putS _ _, Fact.is_putS _ _, Fact.is_putS _ _, Fact.is_putS _ _, Fact.is_putS _ _, Fact.is_putS _ _, stF_putS (by intro v hv; simp at hv; rcases hv with rfl | rfl <;> rfl) _ _, Fact.no_putS _, Fact.no_putS _, Fact.no_putS _, Fact.no_putS _, trivial⟩ ?_ ?_
              · exact ⟨stepS_other rfl rfl (by
                    intro a W hA hB hd
                    have hB := Lib.hid hB
                    have p3 : a.eval (.tmp 3) = .pointer (some ⟨B0, 0, none⟩) := hA.at 3 (by kernel_rfl)
                    have p6 : a.eval (.tmp 6) = .slice aw nw cw := hA.at 6 (by kernel_rfl)
                    have p7 : a.eval (.tmp 7) = .slice ad nd cd := hA.at 7 (by kernel_rfl)
                    have p8 : a.eval (.tmp 8) = .slice (some ⟨B8, 0, none⟩) 4 4 := hA.at 8 (by kernel_rfl)
                    have p9 : a.eval (.tmp 9) = .int .i64 (k : Int) := hA.at 9 (by kernel_rfl)
                    exact (step_pure (wanted_none rfl) (.slice (some ⟨B8, 0, none⟩) 4 4) (by simp [execOp, go_sem, tm p8]) rfl)),
                  stepS_other rfl rfl (by
                    intro a W hA hB hd
                    have hB := Lib.hid hB
                    have p3 : a.eval (.tmp 3) = .pointer (some ⟨B0, 0, none⟩) := hA.at 3 (by kernel_rfl)
                    have p6 : a.eval (.tmp 6) = .slice aw nw cw := hA.at 6 (by kernel_rfl)
                    have p7 : a.eval (.tmp 7) = .slice ad nd cd := hA.at 7 (by kernel_rfl)
                    have p8 : a.eval (.tmp 8) = .slice (some ⟨B8, 0, none⟩) 4 4 := hA.at 8 (by kernel_rfl)
                    have p9 : a.eval (.tmp 9) = .int .i64 (k : Int) := hA.at 9 (by kernel_rfl)
                    exact (step_pure (wanted_none rfl) (.int .i64 (k : Int)) (by simp [execOp, go_sem, tm p9]) rfl)),
                  stepS_other rfl rfl (by
                    intro a W hA hB hd
                    obtain ⟨q0, q1, -⟩ := hd
                    have h87 : a.eval (.tmp 87) = .slice (some ⟨B8, 0, none⟩) 4 4 := q0
                    have h88 : a.eval (.tmp 88) = .int .i64 (k : Int) := q1
                    have hB := Lib.hid hB
                    have p3 : a.eval (.tmp 3) = .pointer (some ⟨B0, 0, none⟩) := hA.at 3 (by kernel_rfl)
                    have p6 : a.eval (.tmp 6) = .slice aw nw cw := hA.at 6 (by kernel_rfl)
                    have p7 : a.eval (.tmp 7) = .slice ad nd cd := hA.at 7 (by kernel_rfl)
                    have p8 : a.eval (.tmp 8) = .slice (some ⟨B8, 0, none⟩) 4 4 := hA.at 8 (by kernel_rfl)
                    have p9 : a.eval (.tmp 9) = .int .i64 (k : Int) := hA.at 9 (by kernel_rfl)
                    exact (step_pure (wanted_none rfl) (.pointer (some ⟨B8, k, none⟩)) (by simp [execOp, go_sem, tm h87, tm h88, HK4.out]) rfl)),
                  stepS_other rfl rfl (by
                    intro a W hA hB hd
                    obtain ⟨q0, -⟩ := hd
                    have h89 : a.eval (.tmp 89) = .pointer (some ⟨B8, k, none⟩) := q0
                    have hB := Lib.hid hB
                    have p3 : a.eval (.tmp 3) = .pointer (some ⟨B0, 0, none⟩) := hA.at 3 (by kernel_rfl)
                    have p6 : a.eval (.tmp 6) = .slice aw nw cw := hA.at 6 (by kernel_rfl)
                    have p7 : a.eval (.tmp 7) = .slice ad nd cd := hA.at 7 (by kernel_rfl)
                    have p8 : a.eval (.tmp 8) = .slice (some ⟨B8, 0, none⟩) 4 4 := hA.at 8 (by kernel_rfl)
                    have p9 : a.eval (.tmp 9) = .int .i64 (k : Int) := hA.at 9 (by kernel_rfl)
                    have c0 := (hB.out.cell (p := ⟨B8, k, none⟩) HB8.out).trans HI8.out
                    exact (step_pure (wanted_none rfl) (.slice ai ni ci) (by simp [execOp, go_sem, tm h89, c0]) rfl)),
                  stepS_other rfl rfl (by
                    intro a W hA hB hd
                    have hB := Lib.hid hB
                    have p3 : a.eval (.tmp 3) = .pointer (some ⟨B0, 0, none⟩) := hA.at 3 (by kernel_rfl)
                    have p6 : a.eval (.tmp 6) = .slice aw nw cw := hA.at 6 (by kernel_rfl)
                    have p7 : a.eval (.tmp 7) = .slice ad nd cd := hA.at 7 (by kernel_rfl)
                    have p8 : a.eval (.tmp 8) = .slice (some ⟨B8, 0, none⟩) 4 4 := hA.at 8 (by kernel_rfl)
                    have p9 : a.eval (.tmp 9) = .int .i64 (k : Int) := hA.at 9 (by kernel_rfl)
                    exact (step_pure (wanted_none rfl) (.pointer (some ⟨B0, 1, none⟩)) (by simp [execOp, go_sem, tm p3]) rfl)),
                  stepS_other rfl rfl (by
                    intro a W hA hB hd
                    obtain ⟨q0, -⟩ := hd
                    have h91 : a.eval (.tmp 91) = .pointer (some ⟨B0, 1, none⟩) := q0
                    have hB := Lib.hid hB
                    have p3 : a.eval (.tmp 3) = .pointer (some ⟨B0, 0, none⟩) := hA.at 3 (by kernel_rfl)
                    have p6 : a.eval (.tmp 6) = .slice aw nw cw := hA.at 6 (by kernel_rfl)
                    have p7 : a.eval (.tmp 7) = .slice ad nd cd := hA.at 7 (by kernel_rfl)
                    have p8 : a.eval (.tmp 8) = .slice (some ⟨B8, 0, none⟩) 4 4 := hA.at 8 (by kernel_rfl)
                    have p9 : a.eval (.tmp 9) = .int .i64 (k : Int) := hA.at 9 (by kernel_rfl)
                    have c0 := (HX.out.below hB.out HX.out.lt).c1
                    exact (step_pure (wanted_none rfl) (.slice ac nc cc) (by simp [execOp, go_sem, tm h91, c0]) rfl)),
                  stepS_other rfl rfl (by
                    intro a W hA hB hd
                    obtain ⟨q0, q1, -⟩ := hd
                    have h90 : a.eval (.tmp 90) = .slice ai ni ci := q0
                    have h92 : a.eval (.tmp 92) = .slice ac nc cc := q1
                    have hB := Lib.hid hB
                    have p3 : a.eval (.tmp 3) = .pointer (some ⟨B0, 0, none⟩) := hA.at 3 (by kernel_rfl)
                    have p6 : a.eval (.tmp 6) = .slice aw nw cw := hA.at 6 (by kernel_rfl)
                    have p7 : a.eval (.tmp 7) = .slice ad nd cd := hA.at 7 (by kernel_rfl)
                    have p8 : a.eval (.tmp 8) = .slice (some ⟨B8, 0, none⟩) 4 4 := hA.at 8 (by kernel_rfl)
                    have p9 : a.eval (.tmp 9) = .int .i64 (k : Int) := hA.at 9 (by kernel_rfl)
                    exact (step_calls (wanted_none rfl) rfl (vals := #[.slice ai ni ci, .slice ac nc cc]) (by simp [h90, h92]) (enters_of Try.func16 (by kernel_rfl) rfl) (stringsW_f (HI.out.below hB.out) (HC.out.below hB.out) HNC.out))),
                  stepS_other rfl rfl (by
                    intro a W hA hB hd
                    have hB := Lib.hid hB
                    have p3 : a.eval (.tmp 3) = .pointer (some ⟨B0, 0, none⟩) := hA.at 3 (by kernel_rfl)
                    have p6 : a.eval (.tmp 6) = .slice aw nw cw := hA.at 6 (by kernel_rfl)
                    have p7 : a.eval (.tmp 7) = .slice ad nd cd := hA.at 7 (by kernel_rfl)
                    have p8 : a.eval (.tmp 8) = .slice (some ⟨B8, 0, none⟩) 4 4 := hA.at 8 (by kernel_rfl)
                    have p9 : a.eval (.tmp 9) = .int .i64 (k : Int) := hA.at 9 (by kernel_rfl)
                    exact (step_pure (wanted_none rfl) (.slice (some ⟨B8, 0, none⟩) 4 4) (by simp [execOp, go_sem, tm p8]) rfl)),
                  stepS_other rfl rfl (by
                    intro a W hA hB hd
                    have hB := Lib.hid hB
                    have p3 : a.eval (.tmp 3) = .pointer (some ⟨B0, 0, none⟩) := hA.at 3 (by kernel_rfl)
                    have p6 : a.eval (.tmp 6) = .slice aw nw cw := hA.at 6 (by kernel_rfl)
                    have p7 : a.eval (.tmp 7) = .slice ad nd cd := hA.at 7 (by kernel_rfl)
                    have p8 : a.eval (.tmp 8) = .slice (some ⟨B8, 0, none⟩) 4 4 := hA.at 8 (by kernel_rfl)
                    have p9 : a.eval (.tmp 9) = .int .i64 (k : Int) := hA.at 9 (by kernel_rfl)
                    exact (step_pure (wanted_none rfl) (.int .i64 (k : Int)) (by simp [execOp, go_sem, tm p9]) rfl)),
                  stepS_other rfl rfl (by
                    intro a W hA hB hd
                    obtain ⟨q0, q1, -⟩ := hd
                    have h94 : a.eval (.tmp 94) = .slice (some ⟨B8, 0, none⟩) 4 4 := q0
                    have h95 : a.eval (.tmp 95) = .int .i64 (k : Int) := q1
                    have hB := Lib.hid hB
                    have p3 : a.eval (.tmp 3) = .pointer (some ⟨B0, 0, none⟩) := hA.at 3 (by kernel_rfl)
                    have p6 : a.eval (.tmp 6) = .slice aw nw cw := hA.at 6 (by kernel_rfl)
                    have p7 : a.eval (.tmp 7) = .slice ad nd cd := hA.at 7 (by kernel_rfl)
                    have p8 : a.eval (.tmp 8) = .slice (some ⟨B8, 0, none⟩) 4 4 := hA.at 8 (by kernel_rfl)
                    have p9 : a.eval (.tmp 9) = .int .i64 (k : Int) := hA.at 9 (by kernel_rfl)
                    exact (step_pure (wanted_none rfl) (.pointer (some ⟨B8, k, none⟩)) (by simp [execOp, go_sem, tm h94, tm h95, HK4.out]) rfl)),
                  stepS_other rfl rfl (by
                    intro a W hA hB hd
                    obtain ⟨q0, -⟩ := hd
                    have h96 : a.eval (.tmp 96) = .pointer (some ⟨B8, k, none⟩) := q0
                    have hB := Lib.hid hB
                    have p3 : a.eval (.tmp 3) = .pointer (some ⟨B0, 0, none⟩) := hA.at 3 (by kernel_rfl)
                    have p6 : a.eval (.tmp 6) = .slice aw nw cw := hA.at 6 (by kernel_rfl)
                    have p7 : a.eval (.tmp 7) = .slice ad nd cd := hA.at 7 (by kernel_rfl)
                    have p8 : a.eval (.tmp 8) = .slice (some ⟨B8, 0, none⟩) 4 4 := hA.at 8 (by kernel_rfl)
                    have p9 : a.eval (.tmp 9) = .int .i64 (k : Int) := hA.at 9 (by kernel_rfl)
                    have c0 := (hB.out.cell (p := ⟨B8, k, none⟩) HB8.out).trans HI8.out
                    exact (step_pure (wanted_none rfl) (.slice ai ni ci) (by simp [execOp, go_sem, tm h96, c0]) rfl)),
                  stepS_other rfl rfl (by
                    intro a W hA hB hd
                    have hB := Lib.hid hB
                    have p3 : a.eval (.tmp 3) = .pointer (some ⟨B0, 0, none⟩) := hA.at 3 (by kernel_rfl)
                    have p6 : a.eval (.tmp 6) = .slice aw nw cw := hA.at 6 (by kernel_rfl)
                    have p7 : a.eval (.tmp 7) = .slice ad nd cd := hA.at 7 (by kernel_rfl)
                    have p8 : a.eval (.tmp 8) = .slice (some ⟨B8, 0, none⟩) 4 4 := hA.at 8 (by kernel_rfl)
                    have p9 : a.eval (.tmp 9) = .int .i64 (k : Int) := hA.at 9 (by kernel_rfl)
                    exact (step_pure (wanted_none rfl) (.pointer (some ⟨B0, 1, none⟩)) (by simp [execOp, go_sem, tm p3]) rfl)),
                  stepS_other rfl rfl (by
                    intro a W hA hB hd
                    obtain ⟨q0, -⟩ := hd
                    have h98 : a.eval (.tmp 98) = .pointer (some ⟨B0, 1, none⟩) := q0
                    have hB := Lib.hid hB
                    have p3 : a.eval (.tmp 3) = .pointer (some ⟨B0, 0, none⟩) := hA.at 3 (by kernel_rfl)
                    have p6 : a.eval (.tmp 6) = .slice aw nw cw := hA.at 6 (by kernel_rfl)
                    have p7 : a.eval (.tmp 7) = .slice ad nd cd := hA.at 7 (by kernel_rfl)
                    have p8 : a.eval (.tmp 8) = .slice (some ⟨B8, 0, none⟩) 4 4 := hA.at 8 (by kernel_rfl)
                    have p9 : a.eval (.tmp 9) = .int .i64 (k : Int) := hA.at 9 (by kernel_rfl)
                    have c0 := (HX.out.below hB.out HX.out.lt).c1
                    exact (step_pure (wanted_none rfl) (.slice ac nc cc) (by simp [execOp, go_sem, tm h98, c0]) rfl)),
                  stepS_other rfl rfl (by
                    intro a W hA hB hd
                    obtain ⟨q0, q1, q2, -⟩ := hd
                    have h97 : a.eval (.tmp 97) = .slice ai ni ci := q0
                    have h99 : a.eval (.tmp 99) = .slice ac nc cc := q1
                    have h93 : (StF li cL) (a.eval (.tmp 93)) W := q2
                    have hB := Lib.hid hB
                    have p3 : a.eval (.tmp 3) = .pointer (some ⟨B0, 0, none⟩) := hA.at 3 (by kernel_rfl)
                    have p6 : a.eval (.tmp 6) = .slice aw nw cw := hA.at 6 (by kernel_rfl)
                    have p7 : a.eval (.tmp 7) = .slice ad nd cd := hA.at 7 (by kernel_rfl)
                    have p8 : a.eval (.tmp 8) = .slice (some ⟨B8, 0, none⟩) 4 4 := hA.at 8 (by kernel_rfl)
                    have p9 : a.eval (.tmp 9) = .int .i64 (k : Int) := hA.at 9 (by kernel_rfl)
                    exact (step_calls (wanted_none rfl) rfl (vals := #[.slice ai ni ci, .slice ac nc cc]) (by simp [h97, h99]) (enters_of Try.func17 (by kernel_rfl) rfl) (stringsR_f (HI.out.below hB.out) (HC.out.below hB.out) HNC.out))),
                  stepS_al (⟨14, 16, 6, 14, 93, 38, #[.slice none 0 0, .int .i64 0]⟩) rfl rfl (fun a W => by simp [execOp, go_sem]),
                  stepS_al (⟨15, 17, 13, 15, 100, 38, #[.slice none 0 0, .int .i64 0]⟩) rfl rfl (fun a W => by simp [execOp, go_sem]),
                  stepS_st (⟨14, 16, 6, 14, 93, 38, #[.slice none 0 0, .int .i64 0]⟩) rfl rfl rfl (by kernel_rfl) (by kernel_rfl) (by
                    intro a W B hA hB hd hp hk
                    obtain ⟨-, q1, -⟩ := hd
                    have hp : a.eval (.tmp 14) = .pointer (some ⟨B, 0, none⟩) := hp
                    have q1 : (StF li cL) (a.eval (.tmp 93)) W := q1
                    obtain ⟨xa, xn, xc, ex, -⟩ := q1
                    exact store_li rfl rfl hp ex hk),
                  stepS_st (⟨15, 17, 13, 15, 100, 38, #[.slice none 0 0, .int .i64 0]⟩) rfl rfl rfl (by kernel_rfl) (by kernel_rfl) (by
                    intro a W B hA hB hd hp hk
                    obtain ⟨-, q1, -⟩ := hd
                    have hp : a.eval (.tmp 15) = .pointer (some ⟨B, 0, none⟩) := hp
                    have q1 : (StF li cL) (a.eval (.tmp 100)) W := q1
                    obtain ⟨xa, xn, xc, ex, -⟩ := q1
                    exact store_li rfl rfl hp ex hk), trivial⟩
              · intro ax V12 hA hB hE hF
                obtain ⟨hl, -⟩ := hE
                obtain ⟨B14, e14, g14, s14, k14⟩ := hl (⟨14, 16, 6, 14, 93, 38, #[.slice none 0 0, .int .i64 0]⟩) (by simp)
                have e14 : ax.eval (.tmp 14) = .pointer (some ⟨B14, 0, none⟩) := e14
                obtain ⟨cs14, c14, k14⟩ := (k14 : ∃ cs, ax.eval (.tmp 93) = .agg cs ∧ _)
                have f93 : (StF li cL) (ax.eval (.tmp 93)) V12 := hF 6 93 (by kernel_rfl)
                obtain ⟨a14, n14, d14, u14, r14⟩ := f93
                rw [u14] at c14
                injection c14 with c14
                subst c14
                obtain ⟨B15, e15, g15, s15, k15⟩ := hl (⟨15, 17, 13, 15, 100, 38, #[.slice none 0 0, .int .i64 0]⟩) (by simp)
                have e15 : ax.eval (.tmp 15) = .pointer (some ⟨B15, 0, none⟩) := e15
                obtain ⟨cs15, c15, k15⟩ := (k15 : ∃ cs, ax.eval (.tmp 100) = .agg cs ∧ _)
                have f100 : (StF li cL) (ax.eval (.tmp 100)) V12 := hF 13 100 (by kernel_rfl)
                obtain ⟨a15, n15, d15, u15, r15⟩ := f100
                rw [u15] at c15
                injection c15 with c15
                subst c15
                have hp := hA.puts [87, 88, 89, 90, 91, 92, 93, 94, 95, 96, 97, 98, 99, 100, 14, 15] (by kernel_rfl)
                clear hA hl hF u14 u15
                simp only [putAll, e14, e15] at hp
                clear e14 e15
                generalize ax.eval = ev12 at hp
                subst hp
                have D14 : Hid (Duo V12 B14 38 (.slice a14 n14 d14) (.int .i64 (stE li cL))) := k14
                have F14 := Lib.hid r14
                have D15 : Hid (Duo V12 B15 38 (.slice a15 n15 d15) (.int .i64 (stE li cL))) := k15
                have F15 := Lib.hid r15
                replace HB : Hid (Below w.heap.size w V12) := HB.out.trans (hB.mono HB.out.size)
                replace HI8 : Hid (V12.cell? ⟨B8, k, none⟩ = some (.slice ai ni ci)) := (hB.cell (p := ⟨B8, k, none⟩) HB8.out).trans HI8.out
                replace HB8 : Hid (B8 < V12.heap.size) := Nat.lt_of_lt_of_le HB8.out hB.size
                replace HX := Lib.hid (HX.out.below hB HX.out.lt)
                replace HQ8 := Lib.hid (HQ8.out.below hB HQ8.out.lt)
                replace HW := Lib.hid (HW.out.below hB)
                replace HD := Lib.hid (HD.out.below hB)
                replace HL := Lib.hid (HL.out.below hB)
                replace HO := Lib.hid (HO.out.below hB)
                replace HC := Lib.hid (HC.out.below hB)
                replace HBy := Lib.hid (HBy.out.below hB)
                replace HI := Lib.hid (HI.out.below hB)
                replace D10 := Lib.hid (D10.out.below hB D10.out.lt)
                replace F10 := Lib.hid (F10.out.below hB)
                replace D11 := Lib.hid (D11.out.below hB D11.out.lt)
                replace F11 := Lib.hid (F11.out.below hB)
                replace D12 := Lib.hid (D12.out.below hB D12.out.lt)
                replace F12 := Lib.hid (F12.out.below hB)
                replace D13 := Lib.hid (D13.out.below hB D13.out.lt)
                replace F13 := Lib.hid (F13.out.below hB)
                clear hB k14 k15 r14 r15 g14 g15 s14 s15 e14 e15
                simp [Act.put]
                go_upto_region 13 with fail
                refine wp_region_srcs (base := V12.heap.size) (fs := [Fact.is (.slice (some ⟨B8, 0, none⟩) 4 4), Fact.is (.int .i64 (k : Int)), Fact.is (.pointer (some ⟨B8, k, none⟩)), Fact.is (.slice ai ni ci), PkF li, Fact.is (.slice (some ⟨B8, 0, none⟩) 4 4), Fact.is (.int .i64 (k : Int)), Fact.is (.pointer (some ⟨B8, k, none⟩)), Fact.is (.slice ai ni ci), PkF li, Fact.no, Fact.no, Fact.no, Fact.no]) (bs := [false, false, false, false, false, false, false, false, false, false, true, true, false, false]) (vs := [⟨10, 12, 4, 16, 105, 41, #[.slice none 0 0, .int .i64 0]⟩, ⟨11, 13, 9, 17, 110, 41, #[.slice none 0 0, .int .i64 0]⟩]) (by kernel_rfl) (by kernel_rfl) (by kernel_rfl) (by kernel_rfl) (by simp [ApartS]) rfl ⟨(fun h => by cases h), (fun h => by cases h), (fun h => by cases h), (fun h => by cases h), (fun h => by cases h), (fun h => by cases h), (fun h => by cases h), (fun h => by cases h), (fun h => by cases h), (fun h => by cases h), fun _ => rfl, fun _ => rfl, (fun h => by cases h), (fun h => by cases h), trivial⟩ ⟨Fact.is_stable _, Fact.is_stable _, Fact.is_stable _, Fact.is_stable _, pkF_stable _, Fact.is_stable _, Fact.is_stable _, Fact.is_stable _, Fact.is_stable _, pkF_stable _, Fact.no_stable, Fact.no_stable, Fact.no_stable, Fact.no_stable, trivial⟩ ⟨Fact.is_putS _ _, Fact.is_putS _ _, Fact.is_putS _ _, Fact.is_putS _ _, pkF_putS (by intro v hv; simp at hv; rcases hv with rfl | rfl <;> rfl) _, Fact.is_putS _ _, Fact.is_putS _ _, Fact.is_putS _ _, Fact.is_putS _ _, pkF_putS (by intro v hv; simp at hv; rcases hv with rfl | rfl <;> rfl) _, Fact.no_putS _, Fact.no_putS _, Fact.no_putS _, Fact.no_putS _, trivial⟩ ?_ ?_
                · exact ⟨stepS_other rfl rfl (by
                      intro a W hA hB hd
                      have hB := Lib.hid hB
                      have p3 : a.eval (.tmp 3) = .pointer (some ⟨B0, 0, none⟩) := hA.at 3 (by kernel_rfl)
                      have p6 : a.eval (.tmp 6) = .slice aw nw cw := hA.at 6 (by kernel_rfl)
                      have p7 : a.eval (.tmp 7) = .slice ad nd cd := hA.at 7 (by kernel_rfl)
                      have p8 : a.eval (.tmp 8) = .slice (some ⟨B8, 0, none⟩) 4 4 := hA.at 8 (by kernel_rfl)
                      have p9 : a.eval (.tmp 9) = .int .i64 (k : Int) := hA.at 9 (by kernel_rfl)
                      exact (step_pure (wanted_none rfl) (.slice (some ⟨B8, 0, none⟩) 4 4) (by simp [execOp, go_sem, tm p8]) rfl)),
                    stepS_other rfl rfl (by
                      intro a W hA hB hd
                      have hB := Lib.hid hB
                      have p3 : a.eval (.tmp 3) = .pointer (some ⟨B0, 0, none⟩) := hA.at 3 (by kernel_rfl)
                      have p6 : a.eval (.tmp 6) = .slice aw nw cw := hA.at 6 (by kernel_rfl)
                      have p7 : a.eval (.tmp 7) = .slice ad nd cd := hA.at 7 (by kernel_rfl)
                      have p8 : a.eval (.tmp 8) = .slice (some ⟨B8, 0, none⟩) 4 4 := hA.at 8 (by kernel_rfl)
                      have p9 : a.eval (.tmp 9) = .int .i64 (k : Int) := hA.at 9 (by kernel_rfl)
                      exact (step_pure (wanted_none rfl) (.int .i64 (k : Int)) (by simp [execOp, go_sem, tm p9]) rfl)),
                    stepS_other rfl rfl (by
                      intro a W hA hB hd
                      obtain ⟨q0, q1, -⟩ := hd
                      have h101 : a.eval (.tmp 101) = .slice (some ⟨B8, 0, none⟩) 4 4 := q0
                      have h102 : a.eval (.tmp 102) = .int .i64 (k : Int) := q1
                      have hB := Lib.hid hB
                      have p3 : a.eval (.tmp 3) = .pointer (some ⟨B0, 0, none⟩) := hA.at 3 (by kernel_rfl)
                      have p6 : a.eval (.tmp 6) = .slice aw nw cw := hA.at 6 (by kernel_rfl)
                      have p7 : a.eval (.tmp 7) = .slice ad nd cd := hA.at 7 (by kernel_rfl)
                      have p8 : a.eval (.tmp 8) = .slice (some ⟨B8, 0, none⟩) 4 4 := hA.at 8 (by kernel_rfl)
                      have p9 : a.eval (.tmp 9) = .int .i64 (k : Int) := hA.at 9 (by kernel_rfl)
                      exact (step_pure (wanted_none rfl) (.pointer (some ⟨B8, k, none⟩)) (by simp [execOp, go_sem, tm h101, tm h102, HK4.out]) rfl)),
                    stepS_other rfl rfl (by
                      intro a W hA hB hd
                      obtain ⟨q0, -⟩ := hd
                      have h103 : a.eval (.tmp 103) = .pointer (some ⟨B8, k, none⟩) := q0
                      have hB := Lib.hid hB
                      have p3 : a.eval (.tmp 3) = .pointer (some ⟨B0, 0, none⟩) := hA.at 3 (by kernel_rfl)
                      have p6 : a.eval (.tmp 6) = .slice aw nw cw := hA.at 6 (by kernel_rfl)
                      have p7 : a.eval (.tmp 7) = .slice ad nd cd := hA.at 7 (by kernel_rfl)
                      have p8 : a.eval (.tmp 8) = .slice (some ⟨B8, 0, none⟩) 4 4 := hA.at 8 (by kernel_rfl)
                      have p9 : a.eval (.tmp 9) = .int .i64 (k : Int) := hA.at 9 (by kernel_rfl)
                      have c0 := (hB.out.cell (p := ⟨B8, k, none⟩) HB8.out).trans HI8.out
                      exact (step_pure (wanted_none rfl) (.slice ai ni ci) (by simp [execOp, go_sem, tm h103, c0]) rfl)),
                    stepS_other rfl rfl (by
                      intro a W hA hB hd
                      obtain ⟨q0, -⟩ := hd
                      have h104 : a.eval (.tmp 104) = .slice ai ni ci := q0
                      have hB := Lib.hid hB
                      have p3 : a.eval (.tmp 3) = .pointer (some ⟨B0, 0, none⟩) := hA.at 3 (by kernel_rfl)
                      have p6 : a.eval (.tmp 6) = .slice aw nw cw := hA.at 6 (by kernel_rfl)
                      have p7 : a.eval (.tmp 7) = .slice ad nd cd := hA.at 7 (by kernel_rfl)
                      have p8 : a.eval (.tmp 8) = .slice (some ⟨B8, 0, none⟩) 4 4 := hA.at 8 (by kernel_rfl)
                      have p9 : a.eval (.tmp 9) = .int .i64 (k : Int) := hA.at 9 (by kernel_rfl)
                      exact (step_calls (wanted_none rfl) rfl (vals := #[.slice ai ni ci]) (by simp [h104]) (enters_of Try.func18 (by kernel_rfl) rfl) (packedW_f (HI.out.below hB.out)))),
                    stepS_other rfl rfl (by
                      intro a W hA hB hd
                      have hB := Lib.hid hB
                      have p3 : a.eval (.tmp 3) = .pointer (some ⟨B0, 0, none⟩) := hA.at 3 (by kernel_rfl)
                      have p6 : a.eval (.tmp 6) = .slice aw nw cw := hA.at 6 (by kernel_rfl)
                      have p7 : a.eval (.tmp 7) = .slice ad nd cd := hA.at 7 (by kernel_rfl)
                      have p8 : a.eval (.tmp 8) = .slice (some ⟨B8, 0, none⟩) 4 4 := hA.at 8 (by kernel_rfl)
                      have p9 : a.eval (.tmp 9) = .int .i64 (k : Int) := hA.at 9 (by kernel_rfl)
                      exact (step_pure (wanted_none rfl) (.slice (some ⟨B8, 0, none⟩) 4 4) (by simp [execOp, go_sem, tm p8]) rfl)),
                    stepS_other rfl rfl (by
                      intro a W hA hB hd
                      have hB := Lib.hid hB
                      have p3 : a.eval (.tmp 3) = .pointer (some ⟨B0, 0, none⟩) := hA.at 3 (by kernel_rfl)
                      have p6 : a.eval (.tmp 6) = .slice aw nw cw := hA.at 6 (by kernel_rfl)
                      have p7 : a.eval (.tmp 7) = .slice ad nd cd := hA.at 7 (by kernel_rfl)
                      have p8 : a.eval (.tmp 8) = .slice (some ⟨B8, 0, none⟩) 4 4 := hA.at 8 (by kernel_rfl)
                      have p9 : a.eval (.tmp 9) = .int .i64 (k : Int) := hA.at 9 (by kernel_rfl)
                      exact (step_pure (wanted_none rfl) (.int .i64 (k : Int)) (by simp [execOp, go_sem, tm p9]) rfl)),
                    stepS_other rfl rfl (by
                      intro a W hA hB hd
                      obtain ⟨q0, q1, -⟩ := hd
                      have h106 : a.eval (.tmp 106) = .slice (some ⟨B8, 0, none⟩) 4 4 := q0
                      have h107 : a.eval (.tmp 107) = .int .i64 (k : Int) := q1
                      have hB := Lib.hid hB
                      have p3 : a.eval (.tmp 3) = .pointer (some ⟨B0, 0, none⟩) := hA.at 3 (by kernel_rfl)
                      have p6 : a.eval (.tmp 6) = .slice aw nw cw := hA.at 6 (by kernel_rfl)
                      have p7 : a.eval (.tmp 7) = .slice ad nd cd := hA.at 7 (by kernel_rfl)
                      have p8 : a.eval (.tmp 8) = .slice (some ⟨B8, 0, none⟩) 4 4 := hA.at 8 (by kernel_rfl)
                      have p9 : a.eval (.tmp 9) = .int .i64 (k : Int) := hA.at 9 (by kernel_rfl)
                      exact (step_pure (wanted_none rfl) (.pointer (some ⟨B8, k, none⟩)) (by simp [execOp, go_sem, tm h106, tm h107, HK4.out]) rfl)),
                    stepS_other rfl rfl (by
                      intro a W hA hB hd
                      obtain ⟨q0, -⟩ := hd
                      have h108 : a.eval (.tmp 108) = .pointer (some ⟨B8, k, none⟩) := q0
                      have hB := Lib.hid hB
                      have p3 : a.eval (.tmp 3) = .pointer (some ⟨B0, 0, none⟩) := hA.at 3 (by kernel_rfl)
                      have p6 : a.eval (.tmp 6) = .slice aw nw cw := hA.at 6 (by kernel_rfl)
                      have p7 : a.eval (.tmp 7) = .slice ad nd cd := hA.at 7 (by kernel_rfl)
                      have p8 : a.eval (.tmp 8) = .slice (some ⟨B8, 0, none⟩) 4 4 := hA.at 8 (by kernel_rfl)
                      have p9 : a.eval (.tmp 9) = .int .i64 (k : Int) := hA.at 9 (by kernel_rfl)
                      have c0 := (hB.out.cell (p := ⟨B8, k, none⟩) HB8.out).trans HI8.out
                      exact (step_pure (wanted_none rfl) (.slice ai ni ci) (by simp [execOp, go_sem, tm h108, c0]) rfl)),
                    stepS_other rfl rfl (by
                      intro a W hA hB hd
                      obtain ⟨q0, q1, -⟩ := hd
                      have h109 : a.eval (.tmp 109) = .slice ai ni ci := q0
                      have h105 : (PkF li) (a.eval (.tmp 105)) W := q1
                      have hB := Lib.hid hB
                      have p3 : a.eval (.tmp 3) = .pointer (some ⟨B0, 0, none⟩) := hA.at 3 (by kernel_rfl)
                      have p6 : a.eval (.tmp 6) = .slice aw nw cw := hA.at 6 (by kernel_rfl)
                      have p7 : a.eval (.tmp 7) = .slice ad nd cd := hA.at 7 (by kernel_rfl)
                      have p8 : a.eval (.tmp 8) = .slice (some ⟨B8, 0, none⟩) 4 4 := hA.at 8 (by kernel_rfl)
                      have p9 : a.eval (.tmp 9) = .int .i64 (k : Int) := hA.at 9 (by kernel_rfl)
                      exact (step_calls (wanted_none rfl) rfl (vals := #[.slice ai ni ci]) (by simp [h109]) (enters_of Try.func19 (by kernel_rfl) rfl) (packR_f (HI.out.below hB.out)))),
                    stepS_al (⟨10, 12, 4, 16, 105, 41, #[.slice none 0 0, .int .i64 0]⟩) rfl rfl (fun a W => by simp [execOp, go_sem]),
                    stepS_al (⟨11, 13, 9, 17, 110, 41, #[.slice none 0 0, .int .i64 0]⟩) rfl rfl (fun a W => by simp [execOp, go_sem]),
                    stepS_st (⟨10, 12, 4, 16, 105, 41, #[.slice none 0 0, .int .i64 0]⟩) rfl rfl rfl (by kernel_rfl) (by kernel_rfl) (by
                      intro a W B hA hB hd hp hk
                      obtain ⟨-, q1, -⟩ := hd
                      have hp : a.eval (.tmp 16) = .pointer (some ⟨B, 0, none⟩) := hp
                      have q1 : (PkF li) (a.eval (.tmp 105)) W := q1
                      obtain ⟨xa, xn, xc, ex, -⟩ := q1
                      exact store_by rfl rfl hp ex hk),
                    stepS_st (⟨11, 13, 9, 17, 110, 41, #[.slice none 0 0, .int .i64 0]⟩) rfl rfl rfl (by kernel_rfl) (by kernel_rfl) (by
                      intro a W B hA hB hd hp hk
                      obtain ⟨-, q1, -⟩ := hd
                      have hp : a.eval (.tmp 17) = .pointer (some ⟨B, 0, none⟩) := hp
                      have q1 : (PkF li) (a.eval (.tmp 110)) W := q1
                      obtain ⟨xa, xn, xc, ex, -⟩ := q1
                      exact store_by rfl rfl hp ex hk), trivial⟩
                · intro ax V13 hA hB hE hF
                  obtain ⟨hl, -⟩ := hE
                  obtain ⟨B16, e16, g16, s16, k16⟩ := hl (⟨10, 12, 4, 16, 105, 41, #[.slice none 0 0, .int .i64 0]⟩) (by simp)
                  have e16 : ax.eval (.tmp 16) = .pointer (some ⟨B16, 0, none⟩) := e16
                  obtain ⟨cs16, c16, k16⟩ := (k16 : ∃ cs, ax.eval (.tmp 105) = .agg cs ∧ _)
                  have f105 : (PkF li) (ax.eval (.tmp 105)) V13 := hF 4 105 (by kernel_rfl)
                  obtain ⟨a16, n16, d16, u16, r16⟩ := f105
                  rw [u16] at c16
                  injection c16 with c16
                  subst c16
                  obtain ⟨B17, e17, g17, s17, k17⟩ := hl (⟨11, 13, 9, 17, 110, 41, #[.slice none 0 0, .int .i64 0]⟩) (by simp)
                  have e17 : ax.eval (.tmp 17) = .pointer (some ⟨B17, 0, none⟩) := e17
                  obtain ⟨cs17, c17, k17⟩ := (k17 : ∃ cs, ax.eval (.tmp 110) = .agg cs ∧ _)
                  have f110 : (PkF li) (ax.eval (.tmp 110)) V13 := hF 9 110 (by kernel_rfl)
                  obtain ⟨a17, n17, d17, u17, r17⟩ := f110
                  rw [u17] at c17
                  injection c17 with c17
                  subst c17
                  have hp := hA.puts [101, 102, 103, 104, 105, 106, 107, 108, 109, 110, 16, 17] (by kernel_rfl)
                  clear hA hl hF u16 u17
                  simp only [putAll, e16, e17] at hp
                  clear e16 e17
                  generalize ax.eval = ev13 at hp
                  subst hp
                  have D16 : Hid (Duo V13 B16 41 (.slice a16 n16 d16) (.int .i64 (pkE li))) := k16
                  have F16 := Lib.hid r16
                  have D17 : Hid (Duo V13 B17 41 (.slice a17 n17 d17) (.int .i64 (pkE li))) := k17
                  have F17 := Lib.hid r17
                  replace HB : Hid (Below w.heap.size w V13) := HB.out.trans (hB.mono HB.out.size)
                  replace HI8 : Hid (V13.cell? ⟨B8, k, none⟩ = some (.slice ai ni ci)) := (hB.cell (p := ⟨B8, k, none⟩) HB8.out).trans HI8.out
                  replace HB8 : Hid (B8 < V13.heap.size) := Nat.lt_of_lt_of_le HB8.out hB.size
                  replace HX := Lib.hid (HX.out.below hB HX.out.lt)
                  replace HQ8 := Lib.hid (HQ8.out.below hB HQ8.out.lt)
                  replace HW := Lib.hid (HW.out.below hB)
                  replace HD := Lib.hid (HD.out.below hB)
                  replace HL := Lib.hid (HL.out.below hB)
                  replace HO := Lib.hid (HO.out.below hB)
                  replace HC := Lib.hid (HC.out.below hB)
                  replace HBy := Lib.hid (HBy.out.below hB)
                  replace HI := Lib.hid (HI.out.below hB)
                  replace D10 := Lib.hid (D10.out.below hB D10.out.lt)
                  replace F10 := Lib.hid (F10.out.below hB)
                  replace D11 := Lib.hid (D11.out.below hB D11.out.lt)
                  replace F11 := Lib.hid (F11.out.below hB)
                  replace D12 := Lib.hid (D12.out.below hB D12.out.lt)
                  replace F12 := Lib.hid (F12.out.below hB)
                  replace D13 := Lib.hid (D13.out.below hB D13.out.lt)
                  replace F13 := Lib.hid (F13.out.below hB)
                  replace D14 := Lib.hid (D14.out.below hB D14.out.lt)
                  replace F14 := Lib.hid (F14.out.below hB)
                  replace D15 := Lib.hid (D15.out.below hB D15.out.lt)
                  replace F15 := Lib.hid (F15.out.below hB)
                  clear hB k16 k17 r16 r17 g16 g17 s16 s17 e16 e17
                  simp [Act.put]
                  go_upto_region 14 with fail
                  have HNI : Hid (ni ≤ 1000000) := by show _ ≤ _; omega
                  refine wp_region_facts (by kernel_rfl) (fs := [Fact.is (.slice (some ⟨B8, 0, none⟩) 4 4), Fact.is (.int .i64 (k : Int)), Fact.is (.pointer (some ⟨B8, k, none⟩)), Fact.is (.slice ai ni ci), AnyS (ofS li), Fact.is (.slice (some ⟨B8, 0, none⟩) 4 4), Fact.is (.int .i64 (k : Int)), Fact.is (.pointer (some ⟨B8, k, none⟩)), Fact.is (.slice ai ni ci), AnyS (ofS li), Fact.is (.bool true), Fact.is (.bool false), Fact.is (.bool false), Fact.is (.slice (some ⟨B8, 0, none⟩) 4 4), Fact.is (.int .i64 (k : Int)), Fact.is (.pointer (some ⟨B8, k, none⟩)), Fact.is (.slice ai ni ci), Fact.is (.bool (vlB li)), Fact.is (.slice (some ⟨B8, 0, none⟩) 4 4), Fact.is (.int .i64 (k : Int)), Fact.is (.pointer (some ⟨B8, k, none⟩)), Fact.is (.slice ai ni ci), Fact.is (.bool (vlB li)), Fact.is (.bool false), Fact.is (.bool false), Fact.is (.bool false), Fact.is (.pointer (some ⟨B10, 1, none⟩)), Fact.is (.int .i64 (cdE dL li)), Fact.is (.pointer (some ⟨B11, 1, none⟩)), Fact.is (.int .i64 (cdE dL li)), Fact.is (.bool false), Fact.is (.bool false), Fact.is (.bool false), Fact.is (.pointer (some ⟨B10, 0, none⟩)), Fact.is (.slice a10 n10 d10), Fact.is (.pointer (some ⟨B11, 0, none⟩)), Fact.is (.slice a11 n11 d11), Fact.is (.bool true), Fact.is (.bool false), Fact.is (.bool false), Fact.is (.bool false), Fact.is (.pointer (some ⟨B12, 1, none⟩)), Fact.is (.int .i64 (cdE li wL)), Fact.is (.pointer (some ⟨B13, 1, none⟩)), Fact.is (.int .i64 (cdE li wL)), Fact.is (.bool false), Fact.is (.bool false), Fact.is (.bool false), Fact.is (.pointer (some ⟨B12, 0, none⟩)), Fact.is (.slice a12 n12 d12), Fact.is (.pointer (some ⟨B13, 0, none⟩)), Fact.is (.slice a13 n13 d13), Fact.is (.bool true), Fact.is (.bool false), Fact.is (.bool false), Fact.is (.bool false), Fact.is (.pointer (some ⟨B14, 1, none⟩)), Fact.is (.int .i64 (stE li cL)), Fact.is (.pointer (some ⟨B15, 1, none⟩)), Fact.is (.int .i64 (stE li cL)), Fact.is (.bool false), Fact.is (.bool false), Fact.is (.bool false), Fact.is (.pointer (some ⟨B14, 0, none⟩)), Fact.is (.slice a14 n14 d14), Fact.is (.pointer (some ⟨B15, 0, none⟩)), Fact.is (.slice a15 n15 d15), Fact.is (.bool true), Fact.is (.bool false), Fact.is (.bool false), Fact.is (.bool false), Fact.is (.pointer (some ⟨B16, 1, none⟩)), Fact.is (.int .i64 (pkE li)), Fact.is (.pointer (some ⟨B17, 1, none⟩)), Fact.is (.int .i64 (pkE li)), Fact.is (.bool false), Fact.is (.bool false), Fact.is (.bool false), Fact.is (.pointer (some ⟨B16, 0, none⟩)), Fact.is (.slice a16 n16 d16), Fact.is (.pointer (some ⟨B17, 0, none⟩)), Fact.is (.slice a17 n17 d17), Fact.is (.bool true), Fact.is (.bool false), Fact.is (.bool false)]) (by kernel_rfl) (by kernel_rfl) ⟨Fact.is_stable _, Fact.is_stable _, Fact.is_stable _, Fact.is_stable _, anyS_stable _, Fact.is_stable _, Fact.is_stable _, Fact.is_stable _, Fact.is_stable _, anyS_stable _, Fact.is_stable _, Fact.is_stable _, Fact.is_stable _, Fact.is_stable _, Fact.is_stable _, Fact.is_stable _, Fact.is_stable _, Fact.is_stable _, Fact.is_stable _, Fact.is_stable _, Fact.is_stable _, Fact.is_stable _, Fact.is_stable _, Fact.is_stable _, Fact.is_stable _, Fact.is_stable _, Fact.is_stable _, Fact.is_stable _, Fact.is_stable _, Fact.is_stable _, Fact.is_stable _, Fact.is_stable _, Fact.is_stable _, Fact.is_stable _, Fact.is_stable _, Fact.is_stable _, Fact.is_stable _, Fact.is_stable _, Fact.is_stable _, Fact.is_stable _, Fact.is_stable _, Fact.is_stable _, Fact.is_stable _, Fact.is_stable _, Fact.is_stable _, Fact.is_stable _, Fact.is_stable _, Fact.is_stable _, Fact.is_stable _, Fact.is_stable _, Fact.is_stable _, Fact.is_stable _, Fact.is_stable _, Fact.is_stable _, Fact.is_stable _, Fact.is_stable _, Fact.is_stable _, Fact.is_stable _, Fact.is_stable _, Fact.is_stable _, Fact.is_stable _, Fact.is_stable _, Fact.is_stable _, Fact.is_stable _, Fact.is_stable _, Fact.is_stable _, Fact.is_stable _, Fact.is_stable _, Fact.is_stable _, Fact.is_stable _, Fact.is_stable _, Fact.is_stable _, Fact.is_stable _, Fact.is_stable _, Fact.is_stable _, Fact.is_stable _, Fact.is_stable _, Fact.is_stable _, Fact.is_stable _, Fact.is_stable _, Fact.is_stable _, Fact.is_stable _, Fact.is_stable _, Fact.is_stable _, Fact.is_stable _, trivial⟩ ?_ ?_
                  · exact ⟨by
                        intro a W hA hB hd
                        have hB := Lib.hid hB
                        have p8 : a.eval (.tmp 8) = .slice (some ⟨B8, 0, none⟩) 4 4 := hA.at 8 (by kernel_rfl)
                        exact (step_pure (wanted_none rfl) (.slice (some ⟨B8, 0, none⟩) 4 4) (by simp [execOp, go_sem, tm p8]) rfl),
                      by
                        intro a W hA hB hd
                        have hB := Lib.hid hB
                        have p9 : a.eval (.tmp 9) = .int .i64 (k : Int) := hA.at 9 (by kernel_rfl)
                        exact (step_pure (wanted_none rfl) (.int .i64 (k : Int)) (by simp [execOp, go_sem, tm p9]) rfl),
                      by
                        intro a W hA hB hd
                        obtain ⟨q0, q1, -⟩ := hd
                        have h111 : a.eval (.tmp 111) = .slice (some ⟨B8, 0, none⟩) 4 4 := q0
                        have h112 : a.eval (.tmp 112) = .int .i64 (k : Int) := q1
                        have hB := Lib.hid hB
                        exact (step_pure (wanted_none rfl) (.pointer (some ⟨B8, k, none⟩)) (by simp [execOp, go_sem, tm h111, tm h112, HK4.out]) rfl),
                      by
                        intro a W hA hB hd
                        obtain ⟨q0, -⟩ := hd
                        have h113 : a.eval (.tmp 113) = .pointer (some ⟨B8, k, none⟩) := q0
                        have hB := Lib.hid hB
                        have c0 := (hB.out.cell (p := ⟨B8, k, none⟩) HB8.out).trans HI8.out
                        exact (step_pure (wanted_none rfl) (.slice ai ni ci) (by simp [execOp, go_sem, tm h113, c0]) rfl),
                      by
                        intro a W hA hB hd
                        obtain ⟨q0, -⟩ := hd
                        have h114 : a.eval (.tmp 114) = .slice ai ni ci := q0
                        have hB := Lib.hid hB
                        exact (step_calls (wanted_none rfl) rfl (vals := #[.slice ai ni ci]) (by simp [h114]) (enters_of Try.func21 (by kernel_rfl) rfl) (ofW_f (HI.out.below hB.out))),
                      by
                        intro a W hA hB hd
                        have hB := Lib.hid hB
                        have p8 : a.eval (.tmp 8) = .slice (some ⟨B8, 0, none⟩) 4 4 := hA.at 8 (by kernel_rfl)
                        exact (step_pure (wanted_none rfl) (.slice (some ⟨B8, 0, none⟩) 4 4) (by simp [execOp, go_sem, tm p8]) rfl),
                      by
                        intro a W hA hB hd
                        have hB := Lib.hid hB
                        have p9 : a.eval (.tmp 9) = .int .i64 (k : Int) := hA.at 9 (by kernel_rfl)
                        exact (step_pure (wanted_none rfl) (.int .i64 (k : Int)) (by simp [execOp, go_sem, tm p9]) rfl),
                      by
                        intro a W hA hB hd
                        obtain ⟨q0, q1, -⟩ := hd
                        have h116 : a.eval (.tmp 116) = .slice (some ⟨B8, 0, none⟩) 4 4 := q0
                        have h117 : a.eval (.tmp 117) = .int .i64 (k : Int) := q1
                        have hB := Lib.hid hB
                        exact (step_pure (wanted_none rfl) (.pointer (some ⟨B8, k, none⟩)) (by simp [execOp, go_sem, tm h116, tm h117, HK4.out]) rfl),
                      by
                        intro a W hA hB hd
                        obtain ⟨q0, -⟩ := hd
                        have h118 : a.eval (.tmp 118) = .pointer (some ⟨B8, k, none⟩) := q0
                        have hB := Lib.hid hB
                        have c0 := (hB.out.cell (p := ⟨B8, k, none⟩) HB8.out).trans HI8.out
                        exact (step_pure (wanted_none rfl) (.slice ai ni ci) (by simp [execOp, go_sem, tm h118, c0]) rfl),
                      by
                        intro a W hA hB hd
                        obtain ⟨q0, q1, -⟩ := hd
                        have h119 : a.eval (.tmp 119) = .slice ai ni ci := q0
                        have h115 : (AnyS (ofS li)) (a.eval (.tmp 115)) W := q1
                        have hB := Lib.hid hB
                        exact (step_calls (wanted_none rfl) rfl (vals := #[.slice ai ni ci]) (by simp [h119]) (enters_of Try.func13 (by kernel_rfl) rfl) (ofR_f (HI.out.below hB.out) HNI.out)),
                      by
                        intro a W hA hB hd
                        obtain ⟨q0, q1, q2, -⟩ := hd
                        have h115 : (AnyS (ofS li)) (a.eval (.tmp 115)) W := q0
                        have h120 : (AnyS (ofS li)) (a.eval (.tmp 120)) W := q1
                        have hB := Lib.hid hB
                        obtain ⟨x1, y1, z1, e115, r115⟩ := h115
                        obtain ⟨x2, y2, z2, e120, r120⟩ := h120
                        exact (step_calls (wanted_none rfl) rfl (vals := #[.slice x1 y1 z1, .slice x2 y2 z2]) (by simp [e115, e120]) (enters_of Try.func20 (by kernel_rfl) rfl) ((sames_any r115 r120).mono fun e w' ⟨he, hb⟩ => ⟨.bool true, by rw [he, sameS_true rfl], rfl, hb⟩)),
                      by
                        intro a W hA hB hd
                        obtain ⟨q0, -⟩ := hd
                        have h121 : a.eval (.tmp 121) = .bool true := q0
                        have hB := Lib.hid hB
                        exact (step_pure (wanted_none rfl) (.bool false) (by simp [execOp, go_sem, tm h121]) rfl),
                      by
                        intro a W hA hB hd
                        obtain ⟨q0, q1, -⟩ := hd
                        have h122 : a.eval (.tmp 122) = .bool false := q0
                        have h121 : a.eval (.tmp 121) = .bool true := q1
                        have hB := Lib.hid hB
                        exact (step_pure (wanted_none rfl) (.bool false) (by simp [execOp, go_sem, tm h122]) rfl),
                      by
                        intro a W hA hB hd
                        obtain ⟨q0, -⟩ := hd
                        have h123 : a.eval (.tmp 123) = .bool false := q0
                        have hB := Lib.hid hB
                        have p8 : a.eval (.tmp 8) = .slice (some ⟨B8, 0, none⟩) 4 4 := hA.at 8 (by kernel_rfl)
                        exact (step_pure ((wanted_guard rfl 123 rfl h123).trans rfl) (.slice (some ⟨B8, 0, none⟩) 4 4) (by simp [execOp, go_sem, tm p8]) rfl),
                      by
                        intro a W hA hB hd
                        obtain ⟨q0, -⟩ := hd
                        have h123 : a.eval (.tmp 123) = .bool false := q0
                        have hB := Lib.hid hB
                        have p9 : a.eval (.tmp 9) = .int .i64 (k : Int) := hA.at 9 (by kernel_rfl)
                        exact (step_pure ((wanted_guard rfl 123 rfl h123).trans rfl) (.int .i64 (k : Int)) (by simp [execOp, go_sem, tm p9]) rfl),
                      by
                        intro a W hA hB hd
                        obtain ⟨q0, q1, q2, -⟩ := hd
                        have h124 : a.eval (.tmp 124) = .slice (some ⟨B8, 0, none⟩) 4 4 := q0
                        have h125 : a.eval (.tmp 125) = .int .i64 (k : Int) := q1
                        have h123 : a.eval (.tmp 123) = .bool false := q2
                        have hB := Lib.hid hB
                        exact (step_pure ((wanted_guard rfl 123 rfl h123).trans rfl) (.pointer (some ⟨B8, k, none⟩)) (by simp [execOp, go_sem, tm h124, tm h125, HK4.out]) rfl),
                      by
                        intro a W hA hB hd
                        obtain ⟨q0, q1, -⟩ := hd
                        have h126 : a.eval (.tmp 126) = .pointer (some ⟨B8, k, none⟩) := q0
                        have h123 : a.eval (.tmp 123) = .bool false := q1
                        have hB := Lib.hid hB
                        have c0 := (hB.out.cell (p := ⟨B8, k, none⟩) HB8.out).trans HI8.out
                        exact (step_pure ((wanted_guard rfl 123 rfl h123).trans rfl) (.slice ai ni ci) (by simp [execOp, go_sem, tm h126, c0]) rfl),
                      by
                        intro a W hA hB hd
                        obtain ⟨q0, q1, q2, -⟩ := hd
                        have h127 : a.eval (.tmp 127) = .slice ai ni ci := q0
                        have h123 : a.eval (.tmp 123) = .bool false := q1
                        have hB := Lib.hid hB
                        exact (step_calls ((wanted_guard rfl 123 rfl h123).trans rfl) rfl (vals := #[.slice ai ni ci]) (by simp [h127]) (enters_of Try.func22 (by kernel_rfl) rfl) ((valid_any (HI.out.below hB.out)).mono fun e w' ⟨he, hw⟩ => ⟨_, he, rfl, by rw [hw]; exact Below.refl _ _⟩)),
                      by
                        intro a W hA hB hd
                        obtain ⟨q0, -⟩ := hd
                        have h123 : a.eval (.tmp 123) = .bool false := q0
                        have hB := Lib.hid hB
                        have p8 : a.eval (.tmp 8) = .slice (some ⟨B8, 0, none⟩) 4 4 := hA.at 8 (by kernel_rfl)
                        exact (step_pure ((wanted_guard rfl 123 rfl h123).trans rfl) (.slice (some ⟨B8, 0, none⟩) 4 4) (by simp [execOp, go_sem, tm p8]) rfl),
                      by
                        intro a W hA hB hd
                        obtain ⟨q0, -⟩ := hd
                        have h123 : a.eval (.tmp 123) = .bool false := q0
                        have hB := Lib.hid hB
                        have p9 : a.eval (.tmp 9) = .int .i64 (k : Int) := hA.at 9 (by kernel_rfl)
                        exact (step_pure ((wanted_guard rfl 123 rfl h123).trans rfl) (.int .i64 (k : Int)) (by simp [execOp, go_sem, tm p9]) rfl),
                      by
                        intro a W hA hB hd
                        obtain ⟨q0, q1, q2, -⟩ := hd
                        have h129 : a.eval (.tmp 129) = .slice (some ⟨B8, 0, none⟩) 4 4 := q0
                        have h130 : a.eval (.tmp 130) = .int .i64 (k : Int) := q1
                        have h123 : a.eval (.tmp 123) = .bool false := q2
                        have hB := Lib.hid hB
                        exact (step_pure ((wanted_guard rfl 123 rfl h123).trans rfl) (.pointer (some ⟨B8, k, none⟩)) (by simp [execOp, go_sem, tm h129, tm h130, HK4.out]) rfl),
                      by
                        intro a W hA hB hd
                        obtain ⟨q0, q1, -⟩ := hd
                        have h131 : a.eval (.tmp 131) = .pointer (some ⟨B8, k, none⟩) := q0
                        have h123 : a.eval (.tmp 123) = .bool false := q1
                        have hB := Lib.hid hB
                        have c0 := (hB.out.cell (p := ⟨B8, k, none⟩) HB8.out).trans HI8.out
                        exact (step_pure ((wanted_guard rfl 123 rfl h123).trans rfl) (.slice ai ni ci) (by simp [execOp, go_sem, tm h131, c0]) rfl),
                      by
                        intro a W hA hB hd
                        obtain ⟨q0, q1, q2, -⟩ := hd
                        have h132 : a.eval (.tmp 132) = .slice ai ni ci := q0
                        have h128 : a.eval (.tmp 128) = .bool (vlB li) := q1
                        have h123 : a.eval (.tmp 123) = .bool false := q2
                        have hB := Lib.hid hB
                        exact (step_calls ((wanted_guard rfl 123 rfl h123).trans rfl) rfl (vals := #[.slice ai ni ci]) (by simp [h132]) (enters_of Try.func23 (by kernel_rfl) rfl) ((validR_any (HI.out.below hB.out)).mono fun e w' ⟨he, n, hw⟩ => ⟨_, he, rfl, by rw [hw]; exact below_drewN (Below.refl _ _) n⟩)),
                      by
                        intro a W hA hB hd
                        obtain ⟨q0, q1, q2, -⟩ := hd
                        have h128 : a.eval (.tmp 128) = .bool (vlB li) := q0
                        have h133 : a.eval (.tmp 133) = .bool (vlB li) := q1
                        have h123 : a.eval (.tmp 123) = .bool false := q2
                        have hB := Lib.hid hB
                        exact (step_pure ((wanted_guard rfl 123 rfl h123).trans rfl) (.bool false) (by simp [execOp, go_sem, tm h128, tm h133]) rfl),
                      by
                        intro a W hA hB hd
                        obtain ⟨q0, q1, -⟩ := hd
                        have h123 : a.eval (.tmp 123) = .bool false := q0
                        have h134 : a.eval (.tmp 134) = .bool false := q1
                        have hB := Lib.hid hB
                        exact (step_pure (wanted_none rfl) (.bool false) (by simp [execOp, go_sem, tm h123, tm h134]) rfl),
                      by
                        intro a W hA hB hd
                        obtain ⟨q0, q1, -⟩ := hd
                        have h135 : a.eval (.tmp 135) = .bool false := q0
                        have h133 : a.eval (.tmp 133) = .bool (vlB li) := q1
                        have hB := Lib.hid hB
                        exact (step_pure (wanted_none rfl) (.bool false) (by simp [execOp, go_sem, tm h135]) rfl),
                      by
                        intro a W hA hB hd
                        obtain ⟨q0, -⟩ := hd
                        have h136 : a.eval (.tmp 136) = .bool false := q0
                        have hB := Lib.hid hB
                        have p10 : a.eval (.tmp 10) = .pointer (some ⟨B10, 0, none⟩) := hA.at 10 (by kernel_rfl)
                        exact (step_pure ((wanted_guard rfl 136 rfl h136).trans rfl) (.pointer (some ⟨B10, 1, none⟩)) (by simp [execOp, go_sem, tm p10]) rfl),
                      by
                        intro a W hA hB hd
                        obtain ⟨q0, q1, -⟩ := hd
                        have h137 : a.eval (.tmp 137) = .pointer (some ⟨B10, 1, none⟩) := q0
                        have h136 : a.eval (.tmp 136) = .bool false := q1
                        have hB := Lib.hid hB
                        have c0 := (D10.out.below hB.out D10.out.lt).c1
                        exact (step_pure ((wanted_guard rfl 136 rfl h136).trans rfl) (.int .i64 (cdE dL li)) (by simp [execOp, go_sem, tm h137, c0]) rfl),
                      by
                        intro a W hA hB hd
                        obtain ⟨q0, -⟩ := hd
                        have h136 : a.eval (.tmp 136) = .bool false := q0
                        have hB := Lib.hid hB
                        have p11 : a.eval (.tmp 11) = .pointer (some ⟨B11, 0, none⟩) := hA.at 11 (by kernel_rfl)
                        exact (step_pure ((wanted_guard rfl 136 rfl h136).trans rfl) (.pointer (some ⟨B11, 1, none⟩)) (by simp [execOp, go_sem, tm p11]) rfl),
                      by
                        intro a W hA hB hd
                        obtain ⟨q0, q1, -⟩ := hd
                        have h139 : a.eval (.tmp 139) = .pointer (some ⟨B11, 1, none⟩) := q0
                        have h136 : a.eval (.tmp 136) = .bool false := q1
                        have hB := Lib.hid hB
                        have c0 := (D11.out.below hB.out D11.out.lt).c1
                        exact (step_pure ((wanted_guard rfl 136 rfl h136).trans rfl) (.int .i64 (cdE dL li)) (by simp [execOp, go_sem, tm h139, c0]) rfl),
                      by
                        intro a W hA hB hd
                        obtain ⟨q0, q1, q2, -⟩ := hd
                        have h138 : a.eval (.tmp 138) = .int .i64 (cdE dL li) := q0
                        have h140 : a.eval (.tmp 140) = .int .i64 (cdE dL li) := q1
                        have h136 : a.eval (.tmp 136) = .bool false := q2
                        have hB := Lib.hid hB
                        exact (step_pure ((wanted_guard rfl 136 rfl h136).trans rfl) (.bool false) (by simp [execOp, go_sem, tm h138, tm h140]) rfl),
                      by
                        intro a W hA hB hd
                        obtain ⟨q0, q1, -⟩ := hd
                        have h136 : a.eval (.tmp 136) = .bool false := q0
                        have h141 : a.eval (.tmp 141) = .bool false := q1
                        have hB := Lib.hid hB
                        exact (step_pure (wanted_none rfl) (.bool false) (by simp [execOp, go_sem, tm h136, tm h141]) rfl),
                      by
                        intro a W hA hB hd
                        obtain ⟨q0, q1, -⟩ := hd
                        have h142 : a.eval (.tmp 142) = .bool false := q0
                        have h136 : a.eval (.tmp 136) = .bool false := q1
                        have hB := Lib.hid hB
                        exact (step_pure (wanted_none rfl) (.bool false) (by simp [execOp, go_sem, tm h142]) rfl),
                      by
                        intro a W hA hB hd
                        obtain ⟨q0, -⟩ := hd
                        have h143 : a.eval (.tmp 143) = .bool false := q0
                        have hB := Lib.hid hB
                        have p10 : a.eval (.tmp 10) = .pointer (some ⟨B10, 0, none⟩) := hA.at 10 (by kernel_rfl)
                        exact (step_pure ((wanted_guard rfl 143 rfl h143).trans rfl) (.pointer (some ⟨B10, 0, none⟩)) (by simp [execOp, go_sem, tm p10]) rfl),
                      by
                        intro a W hA hB hd
                        obtain ⟨q0, q1, -⟩ := hd
                        have h144 : a.eval (.tmp 144) = .pointer (some ⟨B10, 0, none⟩) := q0
                        have h143 : a.eval (.tmp 143) = .bool false := q1
                        have hB := Lib.hid hB
                        have c0 := (D10.out.below hB.out D10.out.lt).c0
                        exact (step_pure ((wanted_guard rfl 143 rfl h143).trans rfl) (.slice a10 n10 d10) (by simp [execOp, go_sem, tm h144, c0]) rfl),
                      by
                        intro a W hA hB hd
                        obtain ⟨q0, -⟩ := hd
                        have h143 : a.eval (.tmp 143) = .bool false := q0
                        have hB := Lib.hid hB
                        have p11 : a.eval (.tmp 11) = .pointer (some ⟨B11, 0, none⟩) := hA.at 11 (by kernel_rfl)
                        exact (step_pure ((wanted_guard rfl 143 rfl h143).trans rfl) (.pointer (some ⟨B11, 0, none⟩)) (by simp [execOp, go_sem, tm p11]) rfl),
                      by
                        intro a W hA hB hd
                        obtain ⟨q0, q1, -⟩ := hd
                        have h146 : a.eval (.tmp 146) = .pointer (some ⟨B11, 0, none⟩) := q0
                        have h143 : a.eval (.tmp 143) = .bool false := q1
                        have hB := Lib.hid hB
                        have c0 := (D11.out.below hB.out D11.out.lt).c0
                        exact (step_pure ((wanted_guard rfl 143 rfl h143).trans rfl) (.slice a11 n11 d11) (by simp [execOp, go_sem, tm h146, c0]) rfl),
                      by
                        intro a W hA hB hd
                        obtain ⟨q0, q1, q2, q3, -⟩ := hd
                        have h145 : a.eval (.tmp 145) = .slice a10 n10 d10 := q0
                        have h147 : a.eval (.tmp 147) = .slice a11 n11 d11 := q1
                        have h143 : a.eval (.tmp 143) = .bool false := q2
                        have hB := Lib.hid hB
                        exact (step_calls ((wanted_guard rfl 143 rfl h143).trans rfl) rfl (vals := #[.slice a10 n10 d10, .slice a11 n11 d11]) (by simp [h145, h147]) (enters_of Try.func24 (by kernel_rfl) rfl) ((ints_any (F10.out.below hB.out) (F11.out.below hB.out)).mono fun e w' ⟨he, hb⟩ => ⟨.bool true, by rw [he, sameB_true rfl], rfl, hb⟩)),
                      by
                        intro a W hA hB hd
                        obtain ⟨q0, q1, -⟩ := hd
                        have h148 : a.eval (.tmp 148) = .bool true := q0
                        have h143 : a.eval (.tmp 143) = .bool false := q1
                        have hB := Lib.hid hB
                        exact (step_pure ((wanted_guard rfl 143 rfl h143).trans rfl) (.bool false) (by simp [execOp, go_sem, tm h148]) rfl),
                      by
                        intro a W hA hB hd
                        obtain ⟨q0, q1, -⟩ := hd
                        have h143 : a.eval (.tmp 143) = .bool false := q0
                        have h149 : a.eval (.tmp 149) = .bool false := q1
                        have hB := Lib.hid hB
                        exact (step_pure (wanted_none rfl) (.bool false) (by simp [execOp, go_sem, tm h143, tm h149]) rfl),
                      by
                        intro a W hA hB hd
                        obtain ⟨q0, q1, -⟩ := hd
                        have h150 : a.eval (.tmp 150) = .bool false := q0
                        have h148 : a.eval (.tmp 148) = .bool true := q1
                        have hB := Lib.hid hB
                        exact (step_pure (wanted_none rfl) (.bool false) (by simp [execOp, go_sem, tm h150]) rfl),
                      by
                        intro a W hA hB hd
                        obtain ⟨q0, -⟩ := hd
                        have h151 : a.eval (.tmp 151) = .bool false := q0
                        have hB := Lib.hid hB
                        have p12 : a.eval (.tmp 12) = .pointer (some ⟨B12, 0, none⟩) := hA.at 12 (by kernel_rfl)
                        exact (step_pure ((wanted_guard rfl 151 rfl h151).trans rfl) (.pointer (some ⟨B12, 1, none⟩)) (by simp [execOp, go_sem, tm p12]) rfl),
                      by
                        intro a W hA hB hd
                        obtain ⟨q0, q1, -⟩ := hd
                        have h152 : a.eval (.tmp 152) = .pointer (some ⟨B12, 1, none⟩) := q0
                        have h151 : a.eval (.tmp 151) = .bool false := q1
                        have hB := Lib.hid hB
                        have c0 := (D12.out.below hB.out D12.out.lt).c1
                        exact (step_pure ((wanted_guard rfl 151 rfl h151).trans rfl) (.int .i64 (cdE li wL)) (by simp [execOp, go_sem, tm h152, c0]) rfl),
                      by
                        intro a W hA hB hd
                        obtain ⟨q0, -⟩ := hd
                        have h151 : a.eval (.tmp 151) = .bool false := q0
                        have hB := Lib.hid hB
                        have p13 : a.eval (.tmp 13) = .pointer (some ⟨B13, 0, none⟩) := hA.at 13 (by kernel_rfl)
                        exact (step_pure ((wanted_guard rfl 151 rfl h151).trans rfl) (.pointer (some ⟨B13, 1, none⟩)) (by simp [execOp, go_sem, tm p13]) rfl),
                      by
                        intro a W hA hB hd
                        obtain ⟨q0, q1, -⟩ := hd
                        have h154 : a.eval (.tmp 154) = .pointer (some ⟨B13, 1, none⟩) := q0
                        have h151 : a.eval (.tmp 151) = .bool false := q1
                        have hB := Lib.hid hB
                        have c0 := (D13.out.below hB.out D13.out.lt).c1
                        exact (step_pure ((wanted_guard rfl 151 rfl h151).trans rfl) (.int .i64 (cdE li wL)) (by simp [execOp, go_sem, tm h154, c0]) rfl),
                      by
                        intro a W hA hB hd
                        obtain ⟨q0, q1, q2, -⟩ := hd
                        have h153 : a.eval (.tmp 153) = .int .i64 (cdE li wL) := q0
                        have h155 : a.eval (.tmp 155) = .int .i64 (cdE li wL) := q1
                        have h151 : a.eval (.tmp 151) = .bool false := q2
                        have hB := Lib.hid hB
                        exact (step_pure ((wanted_guard rfl 151 rfl h151).trans rfl) (.bool false) (by simp [execOp, go_sem, tm h153, tm h155]) rfl),
                      by
                        intro a W hA hB hd
                        obtain ⟨q0, q1, -⟩ := hd
                        have h151 : a.eval (.tmp 151) = .bool false := q0
                        have h156 : a.eval (.tmp 156) = .bool false := q1
                        have hB := Lib.hid hB
                        exact (step_pure (wanted_none rfl) (.bool false) (by simp [execOp, go_sem, tm h151, tm h156]) rfl),
                      by
                        intro a W hA hB hd
                        obtain ⟨q0, q1, -⟩ := hd
                        have h157 : a.eval (.tmp 157) = .bool false := q0
                        have h151 : a.eval (.tmp 151) = .bool false := q1
                        have hB := Lib.hid hB
                        exact (step_pure (wanted_none rfl) (.bool false) (by simp [execOp, go_sem, tm h157]) rfl),
                      by
                        intro a W hA hB hd
                        obtain ⟨q0, -⟩ := hd
                        have h158 : a.eval (.tmp 158) = .bool false := q0
                        have hB := Lib.hid hB
                        have p12 : a.eval (.tmp 12) = .pointer (some ⟨B12, 0, none⟩) := hA.at 12 (by kernel_rfl)
                        exact (step_pure ((wanted_guard rfl 158 rfl h158).trans rfl) (.pointer (some ⟨B12, 0, none⟩)) (by simp [execOp, go_sem, tm p12]) rfl),
                      by
                        intro a W hA hB hd
                        obtain ⟨q0, q1, -⟩ := hd
                        have h159 : a.eval (.tmp 159) = .pointer (some ⟨B12, 0, none⟩) := q0
                        have h158 : a.eval (.tmp 158) = .bool false := q1
                        have hB := Lib.hid hB
                        have c0 := (D12.out.below hB.out D12.out.lt).c0
                        exact (step_pure ((wanted_guard rfl 158 rfl h158).trans rfl) (.slice a12 n12 d12) (by simp [execOp, go_sem, tm h159, c0]) rfl),
                      by
                        intro a W hA hB hd
                        obtain ⟨q0, -⟩ := hd
                        have h158 : a.eval (.tmp 158) = .bool false := q0
                        have hB := Lib.hid hB
                        have p13 : a.eval (.tmp 13) = .pointer (some ⟨B13, 0, none⟩) := hA.at 13 (by kernel_rfl)
                        exact (step_pure ((wanted_guard rfl 158 rfl h158).trans rfl) (.pointer (some ⟨B13, 0, none⟩)) (by simp [execOp, go_sem, tm p13]) rfl),
                      by
                        intro a W hA hB hd
                        obtain ⟨q0, q1, -⟩ := hd
                        have h161 : a.eval (.tmp 161) = .pointer (some ⟨B13, 0, none⟩) := q0
                        have h158 : a.eval (.tmp 158) = .bool false := q1
                        have hB := Lib.hid hB
                        have c0 := (D13.out.below hB.out D13.out.lt).c0
                        exact (step_pure ((wanted_guard rfl 158 rfl h158).trans rfl) (.slice a13 n13 d13) (by simp [execOp, go_sem, tm h161, c0]) rfl),
                      by
                        intro a W hA hB hd
                        obtain ⟨q0, q1, q2, q3, -⟩ := hd
                        have h160 : a.eval (.tmp 160) = .slice a12 n12 d12 := q0
                        have h162 : a.eval (.tmp 162) = .slice a13 n13 d13 := q1
                        have h158 : a.eval (.tmp 158) = .bool false := q2
                        have hB := Lib.hid hB
                        exact (step_calls ((wanted_guard rfl 158 rfl h158).trans rfl) rfl (vals := #[.slice a12 n12 d12, .slice a13 n13 d13]) (by simp [h160, h162]) (enters_of Try.func24 (by kernel_rfl) rfl) ((ints_any (F12.out.below hB.out) (F13.out.below hB.out)).mono fun e w' ⟨he, hb⟩ => ⟨.bool true, by rw [he, sameB_true rfl], rfl, hb⟩)),
                      by
                        intro a W hA hB hd
                        obtain ⟨q0, q1, -⟩ := hd
                        have h163 : a.eval (.tmp 163) = .bool true := q0
                        have h158 : a.eval (.tmp 158) = .bool false := q1
                        have hB := Lib.hid hB
                        exact (step_pure ((wanted_guard rfl 158 rfl h158).trans rfl) (.bool false) (by simp [execOp, go_sem, tm h163]) rfl),
                      by
                        intro a W hA hB hd
                        obtain ⟨q0, q1, -⟩ := hd
                        have h158 : a.eval (.tmp 158) = .bool false := q0
                        have h164 : a.eval (.tmp 164) = .bool false := q1
                        have hB := Lib.hid hB
                        exact (step_pure (wanted_none rfl) (.bool false) (by simp [execOp, go_sem, tm h158, tm h164]) rfl),
                      by
                        intro a W hA hB hd
                        obtain ⟨q0, q1, -⟩ := hd
                        have h165 : a.eval (.tmp 165) = .bool false := q0
                        have h163 : a.eval (.tmp 163) = .bool true := q1
                        have hB := Lib.hid hB
                        exact (step_pure (wanted_none rfl) (.bool false) (by simp [execOp, go_sem, tm h165]) rfl),
                      by
                        intro a W hA hB hd
                        obtain ⟨q0, -⟩ := hd
                        have h166 : a.eval (.tmp 166) = .bool false := q0
                        have hB := Lib.hid hB
                        have p14 : a.eval (.tmp 14) = .pointer (some ⟨B14, 0, none⟩) := hA.at 14 (by kernel_rfl)
                        exact (step_pure ((wanted_guard rfl 166 rfl h166).trans rfl) (.pointer (some ⟨B14, 1, none⟩)) (by simp [execOp, go_sem, tm p14]) rfl),
                      by
                        intro a W hA hB hd
                        obtain ⟨q0, q1, -⟩ := hd
                        have h167 : a.eval (.tmp 167) = .pointer (some ⟨B14, 1, none⟩) := q0
                        have h166 : a.eval (.tmp 166) = .bool false := q1
                        have hB := Lib.hid hB
                        have c0 := (D14.out.below hB.out D14.out.lt).c1
                        exact (step_pure ((wanted_guard rfl 166 rfl h166).trans rfl) (.int .i64 (stE li cL)) (by simp [execOp, go_sem, tm h167, c0]) rfl),
                      by
                        intro a W hA hB hd
                        obtain ⟨q0, -⟩ := hd
                        have h166 : a.eval (.tmp 166) = .bool false := q0
                        have hB := Lib.hid hB
                        have p15 : a.eval (.tmp 15) = .pointer (some ⟨B15, 0, none⟩) := hA.at 15 (by kernel_rfl)
                        exact (step_pure ((wanted_guard rfl 166 rfl h166).trans rfl) (.pointer (some ⟨B15, 1, none⟩)) (by simp [execOp, go_sem, tm p15]) rfl),
                      by
                        intro a W hA hB hd
                        obtain ⟨q0, q1, -⟩ := hd
                        have h169 : a.eval (.tmp 169) = .pointer (some ⟨B15, 1, none⟩) := q0
                        have h166 : a.eval (.tmp 166) = .bool false := q1
                        have hB := Lib.hid hB
                        have c0 := (D15.out.below hB.out D15.out.lt).c1
                        exact (step_pure ((wanted_guard rfl 166 rfl h166).trans rfl) (.int .i64 (stE li cL)) (by simp [execOp, go_sem, tm h169, c0]) rfl),
                      by
                        intro a W hA hB hd
                        obtain ⟨q0, q1, q2, -⟩ := hd
                        have h168 : a.eval (.tmp 168) = .int .i64 (stE li cL) := q0
                        have h170 : a.eval (.tmp 170) = .int .i64 (stE li cL) := q1
                        have h166 : a.eval (.tmp 166) = .bool false := q2
                        have hB := Lib.hid hB
                        exact (step_pure ((wanted_guard rfl 166 rfl h166).trans rfl) (.bool false) (by simp [execOp, go_sem, tm h168, tm h170]) rfl),
                      by
                        intro a W hA hB hd
                        obtain ⟨q0, q1, -⟩ := hd
                        have h166 : a.eval (.tmp 166) = .bool false := q0
                        have h171 : a.eval (.tmp 171) = .bool false := q1
                        have hB := Lib.hid hB
                        exact (step_pure (wanted_none rfl) (.bool false) (by simp [execOp, go_sem, tm h166, tm h171]) rfl),
                      by
                        intro a W hA hB hd
                        obtain ⟨q0, q1, -⟩ := hd
                        have h172 : a.eval (.tmp 172) = .bool false := q0
                        have h166 : a.eval (.tmp 166) = .bool false := q1
                        have hB := Lib.hid hB
                        exact (step_pure (wanted_none rfl) (.bool false) (by simp [execOp, go_sem, tm h172]) rfl),
                      by
                        intro a W hA hB hd
                        obtain ⟨q0, -⟩ := hd
                        have h173 : a.eval (.tmp 173) = .bool false := q0
                        have hB := Lib.hid hB
                        have p14 : a.eval (.tmp 14) = .pointer (some ⟨B14, 0, none⟩) := hA.at 14 (by kernel_rfl)
                        exact (step_pure ((wanted_guard rfl 173 rfl h173).trans rfl) (.pointer (some ⟨B14, 0, none⟩)) (by simp [execOp, go_sem, tm p14]) rfl),
                      by
                        intro a W hA hB hd
                        obtain ⟨q0, q1, -⟩ := hd
                        have h174 : a.eval (.tmp 174) = .pointer (some ⟨B14, 0, none⟩) := q0
                        have h173 : a.eval (.tmp 173) = .bool false := q1
                        have hB := Lib.hid hB
                        have c0 := (D14.out.below hB.out D14.out.lt).c0
                        exact (step_pure ((wanted_guard rfl 173 rfl h173).trans rfl) (.slice a14 n14 d14) (by simp [execOp, go_sem, tm h174, c0]) rfl),
                      by
                        intro a W hA hB hd
                        obtain ⟨q0, -⟩ := hd
                        have h173 : a.eval (.tmp 173) = .bool false := q0
                        have hB := Lib.hid hB
                        have p15 : a.eval (.tmp 15) = .pointer (some ⟨B15, 0, none⟩) := hA.at 15 (by kernel_rfl)
                        exact (step_pure ((wanted_guard rfl 173 rfl h173).trans rfl) (.pointer (some ⟨B15, 0, none⟩)) (by simp [execOp, go_sem, tm p15]) rfl),
                      by
                        intro a W hA hB hd
                        obtain ⟨q0, q1, -⟩ := hd
                        have h176 : a.eval (.tmp 176) = .pointer (some ⟨B15, 0, none⟩) := q0
                        have h173 : a.eval (.tmp 173) = .bool false := q1
                        have hB := Lib.hid hB
                        have c0 := (D15.out.below hB.out D15.out.lt).c0
                        exact (step_pure ((wanted_guard rfl 173 rfl h173).trans rfl) (.slice a15 n15 d15) (by simp [execOp, go_sem, tm h176, c0]) rfl),
                      by
                        intro a W hA hB hd
                        obtain ⟨q0, q1, q2, q3, -⟩ := hd
                        have h175 : a.eval (.tmp 175) = .slice a14 n14 d14 := q0
                        have h177 : a.eval (.tmp 177) = .slice a15 n15 d15 := q1
                        have h173 : a.eval (.tmp 173) = .bool false := q2
                        have hB := Lib.hid hB
                        exact (step_calls ((wanted_guard rfl 173 rfl h173).trans rfl) rfl (vals := #[.slice a14 n14 d14, .slice a15 n15 d15]) (by simp [h175, h177]) (enters_of Try.func20 (by kernel_rfl) rfl) ((sames_any (F14.out.below hB.out) (F15.out.below hB.out)).mono fun e w' ⟨he, hb⟩ => ⟨.bool true, by rw [he, sameS_true rfl], rfl, hb⟩)),
                      by
                        intro a W hA hB hd
                        obtain ⟨q0, q1, -⟩ := hd
                        have h178 : a.eval (.tmp 178) = .bool true := q0
                        have h173 : a.eval (.tmp 173) = .bool false := q1
                        have hB := Lib.hid hB
                        exact (step_pure ((wanted_guard rfl 173 rfl h173).trans rfl) (.bool false) (by simp [execOp, go_sem, tm h178]) rfl),
                      by
                        intro a W hA hB hd
                        obtain ⟨q0, q1, -⟩ := hd
                        have h173 : a.eval (.tmp 173) = .bool false := q0
                        have h179 : a.eval (.tmp 179) = .bool false := q1
                        have hB := Lib.hid hB
                        exact (step_pure (wanted_none rfl) (.bool false) (by simp [execOp, go_sem, tm h173, tm h179]) rfl),
                      by
                        intro a W hA hB hd
                        obtain ⟨q0, q1, -⟩ := hd
                        have h180 : a.eval (.tmp 180) = .bool false := q0
                        have h178 : a.eval (.tmp 178) = .bool true := q1
                        have hB := Lib.hid hB
                        exact (step_pure (wanted_none rfl) (.bool false) (by simp [execOp, go_sem, tm h180]) rfl),
                      by
                        intro a W hA hB hd
                        obtain ⟨q0, -⟩ := hd
                        have h181 : a.eval (.tmp 181) = .bool false := q0
                        have hB := Lib.hid hB
                        have p16 : a.eval (.tmp 16) = .pointer (some ⟨B16, 0, none⟩) := hA.at 16 (by kernel_rfl)
                        exact (step_pure ((wanted_guard rfl 181 rfl h181).trans rfl) (.pointer (some ⟨B16, 1, none⟩)) (by simp [execOp, go_sem, tm p16]) rfl),
                      by
                        intro a W hA hB hd
                        obtain ⟨q0, q1, -⟩ := hd
                        have h182 : a.eval (.tmp 182) = .pointer (some ⟨B16, 1, none⟩) := q0
                        have h181 : a.eval (.tmp 181) = .bool false := q1
                        have hB := Lib.hid hB
                        have c0 := (D16.out.below hB.out D16.out.lt).c1
                        exact (step_pure ((wanted_guard rfl 181 rfl h181).trans rfl) (.int .i64 (pkE li)) (by simp [execOp, go_sem, tm h182, c0]) rfl),
                      by
                        intro a W hA hB hd
                        obtain ⟨q0, -⟩ := hd
                        have h181 : a.eval (.tmp 181) = .bool false := q0
                        have hB := Lib.hid hB
                        have p17 : a.eval (.tmp 17) = .pointer (some ⟨B17, 0, none⟩) := hA.at 17 (by kernel_rfl)
                        exact (step_pure ((wanted_guard rfl 181 rfl h181).trans rfl) (.pointer (some ⟨B17, 1, none⟩)) (by simp [execOp, go_sem, tm p17]) rfl),
                      by
                        intro a W hA hB hd
                        obtain ⟨q0, q1, -⟩ := hd
                        have h184 : a.eval (.tmp 184) = .pointer (some ⟨B17, 1, none⟩) := q0
                        have h181 : a.eval (.tmp 181) = .bool false := q1
                        have hB := Lib.hid hB
                        have c0 := (D17.out.below hB.out D17.out.lt).c1
                        exact (step_pure ((wanted_guard rfl 181 rfl h181).trans rfl) (.int .i64 (pkE li)) (by simp [execOp, go_sem, tm h184, c0]) rfl),
                      by
                        intro a W hA hB hd
                        obtain ⟨q0, q1, q2, -⟩ := hd
                        have h183 : a.eval (.tmp 183) = .int .i64 (pkE li) := q0
                        have h185 : a.eval (.tmp 185) = .int .i64 (pkE li) := q1
                        have h181 : a.eval (.tmp 181) = .bool false := q2
                        have hB := Lib.hid hB
                        exact (step_pure ((wanted_guard rfl 181 rfl h181).trans rfl) (.bool false) (by simp [execOp, go_sem, tm h183, tm h185]) rfl),
                      by
                        intro a W hA hB hd
                        obtain ⟨q0, q1, -⟩ := hd
                        have h181 : a.eval (.tmp 181) = .bool false := q0
                        have h186 : a.eval (.tmp 186) = .bool false := q1
                        have hB := Lib.hid hB
                        exact (step_pure (wanted_none rfl) (.bool false) (by simp [execOp, go_sem, tm h181, tm h186]) rfl),
                      by
                        intro a W hA hB hd
                        obtain ⟨q0, q1, -⟩ := hd
                        have h187 : a.eval (.tmp 187) = .bool false := q0
                        have h181 : a.eval (.tmp 181) = .bool false := q1
                        have hB := Lib.hid hB
                        exact (step_pure (wanted_none rfl) (.bool false) (by simp [execOp, go_sem, tm h187]) rfl),
                      by
                        intro a W hA hB hd
                        obtain ⟨q0, -⟩ := hd
                        have h188 : a.eval (.tmp 188) = .bool false := q0
                        have hB := Lib.hid hB
                        have p16 : a.eval (.tmp 16) = .pointer (some ⟨B16, 0, none⟩) := hA.at 16 (by kernel_rfl)
                        exact (step_pure ((wanted_guard rfl 188 rfl h188).trans rfl) (.pointer (some ⟨B16, 0, none⟩)) (by simp [execOp, go_sem, tm p16]) rfl),
                      by
                        intro a W hA hB hd
                        obtain ⟨q0, q1, -⟩ := hd
                        have h189 : a.eval (.tmp 189) = .pointer (some ⟨B16, 0, none⟩) := q0
                        have h188 : a.eval (.tmp 188) = .bool false := q1
                        have hB := Lib.hid hB
                        have c0 := (D16.out.below hB.out D16.out.lt).c0
                        exact (step_pure ((wanted_guard rfl 188 rfl h188).trans rfl) (.slice a16 n16 d16) (by simp [execOp, go_sem, tm h189, c0]) rfl),
                      by
                        intro a W hA hB hd
                        obtain ⟨q0, -⟩ := hd
                        have h188 : a.eval (.tmp 188) = .bool false := q0
                        have hB := Lib.hid hB
                        have p17 : a.eval (.tmp 17) = .pointer (some ⟨B17, 0, none⟩) := hA.at 17 (by kernel_rfl)
                        exact (step_pure ((wanted_guard rfl 188 rfl h188).trans rfl) (.pointer (some ⟨B17, 0, none⟩)) (by simp [execOp, go_sem, tm p17]) rfl),
                      by
                        intro a W hA hB hd
                        obtain ⟨q0, q1, -⟩ := hd
                        have h191 : a.eval (.tmp 191) = .pointer (some ⟨B17, 0, none⟩) := q0
                        have h188 : a.eval (.tmp 188) = .bool false := q1
                        have hB := Lib.hid hB
                        have c0 := (D17.out.below hB.out D17.out.lt).c0
                        exact (step_pure ((wanted_guard rfl 188 rfl h188).trans rfl) (.slice a17 n17 d17) (by simp [execOp, go_sem, tm h191, c0]) rfl),
                      by
                        intro a W hA hB hd
                        obtain ⟨q0, q1, q2, q3, -⟩ := hd
                        have h190 : a.eval (.tmp 190) = .slice a16 n16 d16 := q0
                        have h192 : a.eval (.tmp 192) = .slice a17 n17 d17 := q1
                        have h188 : a.eval (.tmp 188) = .bool false := q2
                        have hB := Lib.hid hB
                        exact (step_calls ((wanted_guard rfl 188 rfl h188).trans rfl) rfl (vals := #[.slice a16 n16 d16, .slice a17 n17 d17]) (by simp [h190, h192]) (enters_of Try.func25 (by kernel_rfl) rfl) ((same_any (F16.out.below hB.out) (F17.out.below hB.out)).mono fun e w' ⟨he, hb⟩ => ⟨.bool true, by rw [he, sameB_true rfl], rfl, hb⟩)),
                      by
                        intro a W hA hB hd
                        obtain ⟨q0, q1, -⟩ := hd
                        have h193 : a.eval (.tmp 193) = .bool true := q0
                        have h188 : a.eval (.tmp 188) = .bool false := q1
                        have hB := Lib.hid hB
                        exact (step_pure ((wanted_guard rfl 188 rfl h188).trans rfl) (.bool false) (by simp [execOp, go_sem, tm h193]) rfl),
                      by
                        intro a W hA hB hd
                        obtain ⟨q0, q1, -⟩ := hd
                        have h188 : a.eval (.tmp 188) = .bool false := q0
                        have h194 : a.eval (.tmp 194) = .bool false := q1
                        have hB := Lib.hid hB
                        exact (step_pure (wanted_none rfl) (.bool false) (by simp [execOp, go_sem, tm h188, tm h194]) rfl), trivial⟩
                  · intro zx V14 hA hB hE
                    have f195 : zx.eval (.tmp 195) = .bool false := hE.2.2.2.2.2.2.2.2.2.2.2.2.2.2.2.2.2.2.2.2.2.2.2.2.2.2.2.2.2.2.2.2.2.2.2.2.2.2.2.2.2.2.2.2.2.2.2.2.2.2.2.2.2.2.2.2.2.2.2.2.2.2.2.2.2.2.2.2.2.2.2.2.2.2.2.2.2.2.2.2.2.2.2.2.1
                    have p0 : zx.eval (.tmp 0) = ev6 (.tmp 0) := hA.at 0 (by kernel_rfl)
                    have p1 : zx.eval (.tmp 1) = ev6 (.tmp 1) := hA.at 1 (by kernel_rfl)
                    have p2 : zx.eval (.tmp 2) = ev6 (.tmp 2) := hA.at 2 (by kernel_rfl)
                    have p19 : zx.eval (.tmp 19) = ev6 (.tmp 19) := hA.at 19 (by kernel_rfl)
                    have p20 : zx.eval (.tmp 20) = ev6 (.tmp 20) := hA.at 20 (by kernel_rfl)
                    have p21 : zx.eval (.tmp 21) = ev6 (.tmp 21) := hA.at 21 (by kernel_rfl)
                    have p22 : zx.eval (.tmp 22) = ev6 (.tmp 22) := hA.at 22 (by kernel_rfl)
                    have p23 : zx.eval (.tmp 23) = ev6 (.tmp 23) := hA.at 23 (by kernel_rfl)
                    have p24 : zx.eval (.tmp 24) = ev6 (.tmp 24) := hA.at 24 (by kernel_rfl)
                    have p25 : zx.eval (.tmp 25) = ev6 (.tmp 25) := hA.at 25 (by kernel_rfl)
                    have p26 : zx.eval (.tmp 26) = ev6 (.tmp 26) := hA.at 26 (by kernel_rfl)
                    have p27 : zx.eval (.tmp 27) = ev6 (.tmp 27) := hA.at 27 (by kernel_rfl)
                    have p28 : zx.eval (.tmp 28) = ev6 (.tmp 28) := hA.at 28 (by kernel_rfl)
                    have p29 : zx.eval (.tmp 29) = ev6 (.tmp 29) := hA.at 29 (by kernel_rfl)
                    have p30 : zx.eval (.tmp 30) = ev6 (.tmp 30) := hA.at 30 (by kernel_rfl)
                    have p31 : zx.eval (.tmp 31) = ev6 (.tmp 31) := hA.at 31 (by kernel_rfl)
                    have p32 : zx.eval (.tmp 32) = ev6 (.tmp 32) := hA.at 32 (by kernel_rfl)
                    have p33 : zx.eval (.tmp 33) = ev6 (.tmp 33) := hA.at 33 (by kernel_rfl)
                    have p34 : zx.eval (.tmp 34) = ev6 (.tmp 34) := hA.at 34 (by kernel_rfl)
                    have p35 : zx.eval (.tmp 35) = ev6 (.tmp 35) := hA.at 35 (by kernel_rfl)
                    have p36 : zx.eval (.tmp 36) = ev6 (.tmp 36) := hA.at 36 (by kernel_rfl)
                    have p37 : zx.eval (.tmp 37) = ev6 (.tmp 37) := hA.at 37 (by kernel_rfl)
                    have p38 : zx.eval (.tmp 38) = ev6 (.tmp 38) := hA.at 38 (by kernel_rfl)
                    have p39 : zx.eval (.tmp 39) = ev6 (.tmp 39) := hA.at 39 (by kernel_rfl)
                    have p40 : zx.eval (.tmp 40) = ev6 (.tmp 40) := hA.at 40 (by kernel_rfl)
                    have p41 : zx.eval (.tmp 41) = ev6 (.tmp 41) := hA.at 41 (by kernel_rfl)
                    have p42 : zx.eval (.tmp 42) = ev6 (.tmp 42) := hA.at 42 (by kernel_rfl)
                    have p43 : zx.eval (.tmp 43) = ev6 (.tmp 43) := hA.at 43 (by kernel_rfl)
                    have p44 : zx.eval (.tmp 44) = ev6 (.tmp 44) := hA.at 44 (by kernel_rfl)
                    have p45 : zx.eval (.tmp 45) = ev6 (.tmp 45) := hA.at 45 (by kernel_rfl)
                    have p46 : zx.eval (.tmp 46) = ev6 (.tmp 46) := hA.at 46 (by kernel_rfl)
                    have p47 : zx.eval (.tmp 47) = ev6 (.tmp 47) := hA.at 47 (by kernel_rfl)
                    have p48 : zx.eval (.tmp 48) = ev6 (.tmp 48) := hA.at 48 (by kernel_rfl)
                    have p49 : zx.eval (.tmp 49) = ev6 (.tmp 49) := hA.at 49 (by kernel_rfl)
                    have p50 : zx.eval (.tmp 50) = ev6 (.tmp 50) := hA.at 50 (by kernel_rfl)
                    have p51 : zx.eval (.tmp 51) = ev6 (.tmp 51) := hA.at 51 (by kernel_rfl)
                    have p52 : zx.eval (.tmp 52) = ev6 (.tmp 52) := hA.at 52 (by kernel_rfl)
                    have p53 : zx.eval (.tmp 53) = ev6 (.tmp 53) := hA.at 53 (by kernel_rfl)
                    have p54 : zx.eval (.tmp 54) = ev6 (.tmp 54) := hA.at 54 (by kernel_rfl)
                    have p55 : zx.eval (.tmp 55) = ev6 (.tmp 55) := hA.at 55 (by kernel_rfl)
                    have p56 : zx.eval (.tmp 56) = ev6 (.tmp 56) := hA.at 56 (by kernel_rfl)
                    have p255 : zx.eval (.tmp 255) = ev6 (.tmp 255) := hA.at 255 (by kernel_rfl)
                    have p256 : zx.eval (.tmp 256) = ev6 (.tmp 256) := hA.at 256 (by kernel_rfl)
                    have p257 : zx.eval (.tmp 257) = ev6 (.tmp 257) := hA.at 257 (by kernel_rfl)
                    have p258 : zx.eval (.tmp 258) = ev6 (.tmp 258) := hA.at 258 (by kernel_rfl)
                    have p259 : zx.eval (.tmp 259) = ev6 (.tmp 259) := hA.at 259 (by kernel_rfl)
                    have p260 : zx.eval (.tmp 260) = ev6 (.tmp 260) := hA.at 260 (by kernel_rfl)
                    have p261 : zx.eval (.tmp 261) = ev6 (.tmp 261) := hA.at 261 (by kernel_rfl)
                    have p262 : zx.eval (.tmp 262) = ev6 (.tmp 262) := hA.at 262 (by kernel_rfl)
                    have p263 : zx.eval (.tmp 263) = ev6 (.tmp 263) := hA.at 263 (by kernel_rfl)
                    have p264 : zx.eval (.tmp 264) = ev6 (.tmp 264) := hA.at 264 (by kernel_rfl)
                    have p3 : zx.eval (.tmp 3) = .pointer (some ⟨B0, 0, none⟩) := hA.at 3 (by kernel_rfl)
                    have p5 : zx.eval (.tmp 5) = .bool true := hA.at 5 (by kernel_rfl)
                    have p6 : zx.eval (.tmp 6) = .slice aw nw cw := hA.at 6 (by kernel_rfl)
                    have p7 : zx.eval (.tmp 7) = .slice ad nd cd := hA.at 7 (by kernel_rfl)
                    have p8 : zx.eval (.tmp 8) = .slice (some ⟨B8, 0, none⟩) 4 4 := hA.at 8 (by kernel_rfl)
                    have p9 : zx.eval (.tmp 9) = .int .i64 (k : Int) := hA.at 9 (by kernel_rfl)
                    have p17 : zx.eval (.tmp 17) = .pointer (some ⟨B17, 0, none⟩) := hA.at 17 (by kernel_rfl)
                    have hds : zx.defers = [] := hA.defers
                    have hsz : zx.tmps.size = 265 := hA.size
                    clear hA hE
                    have ha := act_lit zx 265 hsz
                    rw [show List.range 265 = [0, 1, 2, 3, 4, 5, 6, 7, 8, 9, 10, 11, 12, 13, 14, 15, 16, 17, 18, 19, 20, 21, 22, 23, 24, 25, 26, 27, 28, 29, 30, 31, 32, 33, 34, 35, 36, 37, 38, 39, 40, 41, 42, 43, 44, 45, 46, 47, 48, 49, 50, 51, 52, 53, 54, 55, 56, 57, 58, 59, 60, 61, 62, 63, 64, 65, 66, 67, 68, 69, 70, 71, 72, 73, 74, 75, 76, 77, 78, 79, 80, 81, 82, 83, 84, 85, 86, 87, 88, 89, 90, 91, 92, 93, 94, 95, 96, 97, 98, 99, 100, 101, 102, 103, 104, 105, 106, 107, 108, 109, 110, 111, 112, 113, 114, 115, 116, 117, 118, 119, 120, 121, 122, 123, 124, 125, 126, 127, 128, 129, 130, 131, 132, 133, 134, 135, 136, 137, 138, 139, 140, 141, 142, 143, 144, 145, 146, 147, 148, 149, 150, 151, 152, 153, 154, 155, 156, 157, 158, 159, 160, 161, 162, 163, 164, 165, 166, 167, 168, 169, 170, 171, 172, 173, 174, 175, 176, 177, 178, 179, 180, 181, 182, 183, 184, 185, 186, 187, 188, 189, 190, 191, 192, 193, 194, 195, 196, 197, 198, 199, 200, 201, 202, 203, 204, 205, 206, 207, 208, 209, 210, 211, 212, 213, 214, 215, 216, 217, 218, 219, 220, 221, 222, 223, 224, 225, 226, 227, 228, 229, 230, 231, 232, 233, 234, 235, 236, 237, 238, 239, 240, 241, 242, 243, 244, 245, 246, 247, 248, 249, 250, 251, 252, 253, 254, 255, 256, 257, 258, 259, 260, 261, 262, 263, 264] from rfl] at ha
                    simp only [List.map_cons, List.map_nil, hds, f195, p0, p1, p2, p19, p20, p21, p22, p23, p24, p25, p26, p27, p28, p29, p30, p31, p32, p33, p34, p35, p36, p37, p38, p39, p40, p41, p42, p43, p44, p45, p46, p47, p48, p49, p50, p51, p52, p53, p54, p55, p56, p255, p256, p257, p258, p259, p260, p261, p262, p263, p264, p3, p5, p6, p7, p8, p9, p17] at ha
                    rw [ha]
                    clear ha hds hsz f195 p0 p1 p2 p19 p20 p21 p22 p23 p24 p25 p26 p27 p28 p29 p30 p31 p32 p33 p34 p35 p36 p37 p38 p39 p40 p41 p42 p43 p44 p45 p46 p47 p48 p49 p50 p51 p52 p53 p54 p55 p56 p255 p256 p257 p258 p259 p260 p261 p262 p263 p264 p3 p5 p6 p7 p8 p9 p17
                    generalize zx.eval = ev14
                    replace HB : Hid (Below w.heap.size w V14) := HB.out.trans (hB.mono HB.out.size)
                    replace HI8 : Hid (V14.cell? ⟨B8, k, none⟩ = some (.slice ai ni ci)) := (hB.cell (p := ⟨B8, k, none⟩) HB8.out).trans HI8.out
                    replace HB8 : Hid (B8 < V14.heap.size) := Nat.lt_of_lt_of_le HB8.out hB.size
                    replace HX := Lib.hid (HX.out.below hB HX.out.lt)
                    replace HQ8 := Lib.hid (HQ8.out.below hB HQ8.out.lt)
                    replace HW := Lib.hid (HW.out.below hB)
                    replace HD := Lib.hid (HD.out.below hB)
                    replace HL := Lib.hid (HL.out.below hB)
                    replace HO := Lib.hid (HO.out.below hB)
                    replace HC := Lib.hid (HC.out.below hB)
                    replace HBy := Lib.hid (HBy.out.below hB)
                    replace HI := Lib.hid (HI.out.below hB)
                    replace D10 := Lib.hid (D10.out.below hB D10.out.lt)
                    replace F10 := Lib.hid (F10.out.below hB)
                    replace D11 := Lib.hid (D11.out.below hB D11.out.lt)
                    replace F11 := Lib.hid (F11.out.below hB)
                    replace D12 := Lib.hid (D12.out.below hB D12.out.lt)
                    replace F12 := Lib.hid (F12.out.below hB)
                    replace D13 := Lib.hid (D13.out.below hB D13.out.lt)
                    replace F13 := Lib.hid (F13.out.below hB)
                    replace D14 := Lib.hid (D14.out.below hB D14.out.lt)
                    replace F14 := Lib.hid (F14.out.below hB)
                    replace D15 := Lib.hid (D15.out.below hB D15.out.lt)
                    replace F15 := Lib.hid (F15.out.below hB)
                    replace D16 := Lib.hid (D16.out.below hB D16.out.lt)
                    replace F16 := Lib.hid (F16.out.below hB)
                    replace D17 := Lib.hid (D17.out.below hB D17.out.lt)
                    replace F17 := Lib.hid (F17.out.below hB)
                    clear hB
                    go_upto_region 16 with fail
                    have hpkl : (pkL li).length ≤ 1060900 := pkL_len li
                    have hpko : Oct (pkL li) := pkL_oct li
                    obtain ⟨qs, hqs⟩ : ∃ q, pkL li = q := ⟨_, rfl⟩
                    rw [hqs] at F17 hpkl hpko
                    have HOQ := Lib.hid hpko
                    clear hqs hpko
                    have HR0 : Hid (Row0F V14.heap.size (.slice (some ⟨V14.heap.size, 0, none⟩) 0 0) (V14.alloc (.cells #[] 5))) := row0F_new V14 _ (Nat.le_refl _)
                    have HB15 : Hid (Below V14.heap.size V14 (V14.alloc (.cells #[] 5))) := (Below.refl _ V14).alloc (Nat.le_refl _) _
                    obtain ⟨vq, V16, hrun, hrow, hb16⟩ := row0F_append HR0.out (F17.out.below HB15.out) HB15.out.size (by rw [F17.out.hl]; omega)
                    have hB : Below V14.heap.size V14 V16 := HB15.out.trans (hb16.mono HB15.out.size)
                    obtain ⟨gq, cq, rfl, hqc, hqr⟩ := hrow
                    have HRUN := Lib.hid hrun
                    have HROW := Lib.hid hqr
                    obtain ⟨L, hL⟩ : ∃ n, qs.length = n := ⟨_, rfl⟩
                    have HLQ := Lib.hid hL
                    rw [hL] at HRUN HROW hqc hpkl
                    clear hL hb16 hrun hqr HR0
                    have c0 := (D17.out.below HB15.out D17.out.lt).c0
                    go_upto_region 17 with (refine Lib.wpList_append_run _ rfl _ _ _ _ rfl _ _ rfl rfl _ _ HRUN.out ?_)
                    clear c0 HRUN HB15
                    have HB16 := Lib.hid hB
                    clear hB
                    by_cases h0 : 0 < L
                    · have h0I : (0 : Int) < (L : Int) := by omega
                      have hLb : L ≤ 140737488351232 := by omega
                      obtain ⟨ix, hix⟩ : ∃ i, k0 % L = i := ⟨_, rfl⟩
                      have hixl : ix < L := by rw [← hix]; exact Nat.mod_lt _ h0
                      have hmod0 : (k0 : Int).tmod (L : Int) = (ix : Int) := by rw [Int.tmod_eq_emod_of_nonneg (by omega)]; omega
                      have hk0w : IntKind.i64.wrap (k0 : Int) = k0 := by rw [IntKind.wrap_i64]; have := HK0.out.1; omega
                      have hLz : ((L : Int) == 0) = false := by rw [beq_eq_false_iff_ne]; omega
                      have hLn : ¬ L = 0 := by omega
                      have hfr := row_unfrozen (j := ix) HROW.out
                      have hcr := row_cell (j := ix) HROW.out (by rw [HLQ.out]; exact hixl)
                      have hglt := row_lt HROW.out
                      have hlg : V14.heap.size ≤ gq := row_base HROW.out
                      have kc3 := (HX.out.below HB16.out HX.out.lt).c3
                      have kc4 := (HX.out.below HB16.out HX.out.lt).c4
                      have klt := (HX.out.below HB16.out HX.out.lt).lt
                      clear hix
                      go_upto_region 18 with fail
                      go_region
                      clear hcr hfr hglt kc3 kc4 klt hmod0 hk0w
                      have hy0r : 0 ≤ bits BinOp.xor .u8 (qs[ix]?.getD 0) (k1 : Int) ∧ bits BinOp.xor .u8 (qs[ix]?.getD 0) (k1 : Int) < 256 := ⟨bits_lo_u8 _ _ _, by have := bits_hi_u8 BinOp.xor (qs[ix]?.getD 0) (k1 : Int); omega⟩
                      obtain ⟨y0, hy0⟩ : ∃ y, bits BinOp.xor .u8 (qs[ix]?.getD 0) (k1 : Int) = y := ⟨_, rfl⟩
                      rw [hy0] at hy0r ⊢
                      clear hy0
                      have hst := row_store (j := ix) HROW.out (.int .u8 y0)
                      rw [← List.map_set] at hst
                      have HROWY : Hid ((V16.setCell ⟨gq, ix, none⟩ (.int .u8 y0)).drew.ownsRow V14.heap.size 5 1 (.slice (some ⟨gq, 0, none⟩) L cq) L ((qs.set ix y0).map (Value.int .u8))) := hst
                      have HBY : Hid (Below V14.heap.size V14 (V16.setCell ⟨gq, ix, none⟩ (.int .u8 y0)).drew) := below_drewD (HB16.out.setCell hlg _)
                      clear hst
                      generalize (V16.setCell ⟨gq, ix, none⟩ (.int .u8 y0)).drew = VY at *
                      obtain ⟨ys, hys⟩ : ∃ l, qs.set ix y0 = l := ⟨_, rfl⟩
                      have hoy : Oct ys := by
                        intro x hx
                        rw [← hys] at hx
                        rcases List.mem_or_eq_of_mem_set hx with h | h
                        · exact HOQ.out x h
                        · rw [h]; exact hy0r
                      have hly : ys.length = L := by rw [← hys, List.length_set, HLQ.out]
                      rw [hys] at HROWY
                      have hry := Rd.of_row hly.symm hqc hLb HROWY.out
                      clear hys HROWY HROW hy0r hixl HB16
                      obtain ⟨m3, hm3⟩ : ∃ i, k2 % 3 = i := ⟨_, rfl⟩
                      obtain ⟨r3, hr3⟩ : ∃ i, m3 % L = i := ⟨_, rfl⟩
                      have hr3l : r3 < L := by rw [← hr3]; exact Nat.mod_lt _ h0
                      have hmod1 : (k2 : Int).tmod 3 = (m3 : Int) := by rw [Int.tmod_eq_emod_of_nonneg (by omega)]; omega
                      have hmod2 : (m3 : Int).tmod (L : Int) = (r3 : Int) := by rw [Int.tmod_eq_emod_of_nonneg (by omega)]; omega
                      have hk2w : IntKind.i64.wrap (k2 : Int) = k2 := by rw [IntKind.wrap_i64]; have := HK0.out.2.2; omega
                      obtain ⟨ny, hny⟩ : ∃ i, L - r3 = i := ⟨_, rfl⟩
                      have hsub : (L : Int) - (r3 : Int) = (ny : Int) := by omega
                      have hnyL : ny ≤ L := by omega
                      have hnyc : ny ≤ cq := by omega
                      have hnyI : (ny : Int) ≤ (cq : Int) := by omega
                      have kc5 := (HX.out.below HBY.out HX.out.lt).c5
                      have klt := (HX.out.below HBY.out HX.out.lt).lt
                      clear hm3 hr3 hny
                      go_upto_region 20 with fail
                      clear hmod1 hmod2 hk2w hsub hnyI hnyc kc5 klt hLz hLn hr3l
                      have hB := HBY.out
                      replace HB : Hid (Below w.heap.size w VY) := HB.out.trans (hB.mono HB.out.size)
                      replace HI8 : Hid (VY.cell? ⟨B8, k, none⟩ = some (.slice ai ni ci)) := (hB.cell (p := ⟨B8, k, none⟩) HB8.out).trans HI8.out
                      replace HB8 : Hid (B8 < VY.heap.size) := Nat.lt_of_lt_of_le HB8.out hB.size
                      replace HX := Lib.hid (HX.out.below hB HX.out.lt)
                      replace HQ8 := Lib.hid (HQ8.out.below hB HQ8.out.lt)
                      replace HW := Lib.hid (HW.out.below hB)
                      replace HD := Lib.hid (HD.out.below hB)
                      replace HL := Lib.hid (HL.out.below hB)
                      replace HO := Lib.hid (HO.out.below hB)
                      replace HC := Lib.hid (HC.out.below hB)
                      replace HBy := Lib.hid (HBy.out.below hB)
                      replace HI := Lib.hid (HI.out.below hB)
                      replace D10 := Lib.hid (D10.out.below hB D10.out.lt)
                      replace F10 := Lib.hid (F10.out.below hB)
                      replace D11 := Lib.hid (D11.out.below hB D11.out.lt)
                      replace F11 := Lib.hid (F11.out.below hB)
                      replace D12 := Lib.hid (D12.out.below hB D12.out.lt)
                      replace F12 := Lib.hid (F12.out.below hB)
                      replace D13 := Lib.hid (D13.out.below hB D13.out.lt)
                      replace F13 := Lib.hid (F13.out.below hB)
                      replace D14 := Lib.hid (D14.out.below hB D14.out.lt)
                      replace F14 := Lib.hid (F14.out.below hB)
                      replace D15 := Lib.hid (D15.out.below hB D15.out.lt)
                      replace F15 := Lib.hid (F15.out.below hB)
                      replace D16 := Lib.hid (D16.out.below hB D16.out.lt)
                      replace F16 := Lib.hid (F16.out.below hB)
                      replace D17 := Lib.hid (D17.out.below hB D17.out.lt)
                      replace F17 := Lib.hid (F17.out.below hB)
                      have HRQ : Hid (Rd (fun _ => True) VY .u8 (some ⟨gq, 0, none⟩) ny cq (ys.take ny)) := (Rd.first5 hry ny hnyL).mono fun _ _ _ => trivial
                      have HOZ : Hid (Oct (ys.take ny)) := Oct.take hoy ny
                      clear hB HBY hry hoy hly
                      refine wp_region_facts (by kernel_rfl) (fs := [Fact.is (.slice (some ⟨gq, 0, none⟩) ny cq), UnF (ys.take ny), Fact.is (.slice (some ⟨gq, 0, none⟩) ny cq), UnF (ys.take ny), Fact.is (.bool true), Fact.is (.bool false), Fact.is (.bool false), Fact.is (.pointer (some ⟨B17, 0, none⟩)), Fact.is (.slice a17 n17 d17), UnF qs, Fact.is (.pointer (some ⟨B17, 0, none⟩)), Fact.is (.slice a17 n17 d17), UnF qs, Fact.is (.bool true), Fact.is (.bool false), Fact.is (.bool false)]) (by kernel_rfl) (by kernel_rfl) ⟨Fact.is_stable _, unF_stable _, Fact.is_stable _, unF_stable _, Fact.is_stable _, Fact.is_stable _, Fact.is_stable _, Fact.is_stable _, Fact.is_stable _, unF_stable _, Fact.is_stable _, Fact.is_stable _, unF_stable _, Fact.is_stable _, Fact.is_stable _, Fact.is_stable _, trivial⟩ ?_ ?_
                      · exact ⟨by
                            intro a W hA hB hd
                            have hB := Lib.hid hB
                            have p18 : a.eval (.tmp 18) = .slice (some ⟨gq, 0, none⟩) ny cq := hA.at 18 (by kernel_rfl)
                            exact (step_pure (wanted_none rfl) (.slice (some ⟨gq, 0, none⟩) ny cq) (by simp [execOp, go_sem, tm p18]) rfl),
                          by
                            intro a W hA hB hd
                            obtain ⟨q0, -⟩ := hd
                            have h239 : a.eval (.tmp 239) = .slice (some ⟨gq, 0, none⟩) ny cq := q0
                            have hB := Lib.hid hB
                            exact (step_calls (wanted_none rfl) rfl (vals := #[.slice (some ⟨gq, 0, none⟩) ny cq]) (by simp [h239]) (enters_of Try.func27 (by kernel_rfl) rfl) (unpW_f HOZ.out (HRQ.out.below hB.out))),
                          by
                            intro a W hA hB hd
                            have hB := Lib.hid hB
                            have p18 : a.eval (.tmp 18) = .slice (some ⟨gq, 0, none⟩) ny cq := hA.at 18 (by kernel_rfl)
                            exact (step_pure (wanted_none rfl) (.slice (some ⟨gq, 0, none⟩) ny cq) (by simp [execOp, go_sem, tm p18]) rfl),
                          by
                            intro a W hA hB hd
                            obtain ⟨q0, q1, -⟩ := hd
                            have h241 : a.eval (.tmp 241) = .slice (some ⟨gq, 0, none⟩) ny cq := q0
                            have h240 : (UnF (ys.take ny)) (a.eval (.tmp 240)) W := q1
                            have hB := Lib.hid hB
                            exact (step_calls (wanted_none rfl) rfl (vals := #[.slice (some ⟨gq, 0, none⟩) ny cq]) (by simp [h241]) (enters_of Try.func28 (by kernel_rfl) rfl) (unpR_f HOZ.out (HRQ.out.below hB.out))),
                          by
                            intro a W hA hB hd
                            obtain ⟨q0, q1, q2, -⟩ := hd
                            have h240 : (UnF (ys.take ny)) (a.eval (.tmp 240)) W := q0
                            have h242 : (UnF (ys.take ny)) (a.eval (.tmp 242)) W := q1
                            have hB := Lib.hid hB
                            exact (step_calls (wanted_none rfl) rfl (vals := #[a.eval (.tmp 240), a.eval (.tmp 242)]) (by simp) (enters_of Try.func26 (by kernel_rfl) rfl) ((equal_f h240 h242).mono fun e w' ⟨he, hb⟩ => ⟨_, he, rfl, hb⟩)),
                          by
                            intro a W hA hB hd
                            obtain ⟨q0, -⟩ := hd
                            have h243 : a.eval (.tmp 243) = .bool true := q0
                            have hB := Lib.hid hB
                            exact (step_pure (wanted_none rfl) (.bool false) (by simp [execOp, go_sem, tm h243]) rfl),
                          by
                            intro a W hA hB hd
                            obtain ⟨q0, q1, -⟩ := hd
                            have h244 : a.eval (.tmp 244) = .bool false := q0
                            have h243 : a.eval (.tmp 243) = .bool true := q1
                            have hB := Lib.hid hB
                            exact (step_pure (wanted_none rfl) (.bool false) (by simp [execOp, go_sem, tm h244]) rfl),
                          by
                            intro a W hA hB hd
                            obtain ⟨q0, -⟩ := hd
                            have h245 : a.eval (.tmp 245) = .bool false := q0
                            have hB := Lib.hid hB
                            have p17 : a.eval (.tmp 17) = .pointer (some ⟨B17, 0, none⟩) := hA.at 17 (by kernel_rfl)
                            exact (step_pure ((wanted_guard rfl 245 rfl h245).trans rfl) (.pointer (some ⟨B17, 0, none⟩)) (by simp [execOp, go_sem, tm p17]) rfl),
                          by
                            intro a W hA hB hd
                            obtain ⟨q0, q1, -⟩ := hd
                            have h246 : a.eval (.tmp 246) = .pointer (some ⟨B17, 0, none⟩) := q0
                            have h245 : a.eval (.tmp 245) = .bool false := q1
                            have hB := Lib.hid hB
                            have c0 := (D17.out.below hB.out D17.out.lt).c0
                            exact (step_pure ((wanted_guard rfl 245 rfl h245).trans rfl) (.slice a17 n17 d17) (by simp [execOp, go_sem, tm h246, c0]) rfl),
                          by
                            intro a W hA hB hd
                            obtain ⟨q0, q1, q2, -⟩ := hd
                            have h247 : a.eval (.tmp 247) = .slice a17 n17 d17 := q0
                            have h245 : a.eval (.tmp 245) = .bool false := q1
                            have hB := Lib.hid hB
                            exact (step_calls ((wanted_guard rfl 245 rfl h245).trans rfl) rfl (vals := #[.slice a17 n17 d17]) (by simp [h247]) (enters_of Try.func27 (by kernel_rfl) rfl) (unpW_f HOQ.out (F17.out.below hB.out))),
                          by
                            intro a W hA hB hd
                            obtain ⟨q0, -⟩ := hd
                            have h245 : a.eval (.tmp 245) = .bool false := q0
                            have hB := Lib.hid hB
                            have p17 : a.eval (.tmp 17) = .pointer (some ⟨B17, 0, none⟩) := hA.at 17 (by kernel_rfl)
                            exact (step_pure ((wanted_guard rfl 245 rfl h245).trans rfl) (.pointer (some ⟨B17, 0, none⟩)) (by simp [execOp, go_sem, tm p17]) rfl),
                          by
                            intro a W hA hB hd
                            obtain ⟨q0, q1, -⟩ := hd
                            have h249 : a.eval (.tmp 249) = .pointer (some ⟨B17, 0, none⟩) := q0
                            have h245 : a.eval (.tmp 245) = .bool false := q1
                            have hB := Lib.hid hB
                            have c0 := (D17.out.below hB.out D17.out.lt).c0
                            exact (step_pure ((wanted_guard rfl 245 rfl h245).trans rfl) (.slice a17 n17 d17) (by simp [execOp, go_sem, tm h249, c0]) rfl),
                          by
                            intro a W hA hB hd
                            obtain ⟨q0, q1, q2, -⟩ := hd
                            have h250 : a.eval (.tmp 250) = .slice a17 n17 d17 := q0
                            have h248 : (UnF qs) (a.eval (.tmp 248)) W := q1
                            have h245 : a.eval (.tmp 245) = .bool false := q2
                            have hB := Lib.hid hB
                            exact (step_calls ((wanted_guard rfl 245 rfl h245).trans rfl) rfl (vals := #[.slice a17 n17 d17]) (by simp [h250]) (enters_of Try.func28 (by kernel_rfl) rfl) (unpR_f HOQ.out (F17.out.below hB.out))),
                          by
                            intro a W hA hB hd
                            obtain ⟨q0, q1, q2, q3, -⟩ := hd
                            have h248 : (UnF qs) (a.eval (.tmp 248)) W := q0
                            have h251 : (UnF qs) (a.eval (.tmp 251)) W := q1
                            have h245 : a.eval (.tmp 245) = .bool false := q3
                            have hB := Lib.hid hB
                            exact (step_calls ((wanted_guard rfl 245 rfl h245).trans rfl) rfl (vals := #[a.eval (.tmp 248), a.eval (.tmp 251)]) (by simp) (enters_of Try.func26 (by kernel_rfl) rfl) ((equal_f h248 h251).mono fun e w' ⟨he, hb⟩ => ⟨_, he, rfl, hb⟩)),
                          by
                            intro a W hA hB hd
                            obtain ⟨q0, q1, -⟩ := hd
                            have h252 : a.eval (.tmp 252) = .bool true := q0
                            have h245 : a.eval (.tmp 245) = .bool false := q1
                            have hB := Lib.hid hB
                            exact (step_pure ((wanted_guard rfl 245 rfl h245).trans rfl) (.bool false) (by simp [execOp, go_sem, tm h252]) rfl),
                          by
                            intro a W hA hB hd
                            obtain ⟨q0, q1, -⟩ := hd
                            have h245 : a.eval (.tmp 245) = .bool false := q0
                            have h253 : a.eval (.tmp 253) = .bool false := q1
                            have hB := Lib.hid hB
                            exact (step_pure (wanted_none rfl) (.bool false) (by simp [execOp, go_sem, tm h245, tm h253]) rfl), trivial⟩
                      · intro zx V20 hA hB hE
                        have fL : zx.eval (.tmp 254) = .bool false := hE.2.2.2.2.2.2.2.2.2.2.2.2.2.2.2.1
                        have p0 : zx.eval (.tmp 0) = ev6 (.tmp 0) := hA.at 0 (by kernel_rfl)
                        have p1 : zx.eval (.tmp 1) = ev6 (.tmp 1) := hA.at 1 (by kernel_rfl)
                        have p2 : zx.eval (.tmp 2) = ev6 (.tmp 2) := hA.at 2 (by kernel_rfl)
                        have p19 : zx.eval (.tmp 19) = ev6 (.tmp 19) := hA.at 19 (by kernel_rfl)
                        have p20 : zx.eval (.tmp 20) = ev6 (.tmp 20) := hA.at 20 (by kernel_rfl)
                        have p21 : zx.eval (.tmp 21) = ev6 (.tmp 21) := hA.at 21 (by kernel_rfl)
                        have p22 : zx.eval (.tmp 22) = ev6 (.tmp 22) := hA.at 22 (by kernel_rfl)
                        have p23 : zx.eval (.tmp 23) = ev6 (.tmp 23) := hA.at 23 (by kernel_rfl)
                        have p24 : zx.eval (.tmp 24) = ev6 (.tmp 24) := hA.at 24 (by kernel_rfl)
                        have p25 : zx.eval (.tmp 25) = ev6 (.tmp 25) := hA.at 25 (by kernel_rfl)
                        have p26 : zx.eval (.tmp 26) = ev6 (.tmp 26) := hA.at 26 (by kernel_rfl)
                        have p27 : zx.eval (.tmp 27) = ev6 (.tmp 27) := hA.at 27 (by kernel_rfl)
                        have p28 : zx.eval (.tmp 28) = ev6 (.tmp 28) := hA.at 28 (by kernel_rfl)
                        have p29 : zx.eval (.tmp 29) = ev6 (.tmp 29) := hA.at 29 (by kernel_rfl)
                        have p30 : zx.eval (.tmp 30) = ev6 (.tmp 30) := hA.at 30 (by kernel_rfl)
                        have p31 : zx.eval (.tmp 31) = ev6 (.tmp 31) := hA.at 31 (by kernel_rfl)
                        have p32 : zx.eval (.tmp 32) = ev6 (.tmp 32) := hA.at 32 (by kernel_rfl)
                        have p33 : zx.eval (.tmp 33) = ev6 (.tmp 33) := hA.at 33 (by kernel_rfl)
                        have p34 : zx.eval (.tmp 34) = ev6 (.tmp 34) := hA.at 34 (by kernel_rfl)
                        have p35 : zx.eval (.tmp 35) = ev6 (.tmp 35) := hA.at 35 (by kernel_rfl)
                        have p36 : zx.eval (.tmp 36) = ev6 (.tmp 36) := hA.at 36 (by kernel_rfl)
                        have p37 : zx.eval (.tmp 37) = ev6 (.tmp 37) := hA.at 37 (by kernel_rfl)
                        have p38 : zx.eval (.tmp 38) = ev6 (.tmp 38) := hA.at 38 (by kernel_rfl)
                        have p39 : zx.eval (.tmp 39) = ev6 (.tmp 39) := hA.at 39 (by kernel_rfl)
                        have p40 : zx.eval (.tmp 40) = ev6 (.tmp 40) := hA.at 40 (by kernel_rfl)
                        have p41 : zx.eval (.tmp 41) = ev6 (.tmp 41) := hA.at 41 (by kernel_rfl)
                        have p42 : zx.eval (.tmp 42) = ev6 (.tmp 42) := hA.at 42 (by kernel_rfl)
                        have p43 : zx.eval (.tmp 43) = ev6 (.tmp 43) := hA.at 43 (by kernel_rfl)
                        have p44 : zx.eval (.tmp 44) = ev6 (.tmp 44) := hA.at 44 (by kernel_rfl)
                        have p45 : zx.eval (.tmp 45) = ev6 (.tmp 45) := hA.at 45 (by kernel_rfl)
                        have p46 : zx.eval (.tmp 46) = ev6 (.tmp 46) := hA.at 46 (by kernel_rfl)
                        have p47 : zx.eval (.tmp 47) = ev6 (.tmp 47) := hA.at 47 (by kernel_rfl)
                        have p48 : zx.eval (.tmp 48) = ev6 (.tmp 48) := hA.at 48 (by kernel_rfl)
                        have p49 : zx.eval (.tmp 49) = ev6 (.tmp 49) := hA.at 49 (by kernel_rfl)
                        have p50 : zx.eval (.tmp 50) = ev6 (.tmp 50) := hA.at 50 (by kernel_rfl)
                        have p51 : zx.eval (.tmp 51) = ev6 (.tmp 51) := hA.at 51 (by kernel_rfl)
                        have p52 : zx.eval (.tmp 52) = ev6 (.tmp 52) := hA.at 52 (by kernel_rfl)
                        have p53 : zx.eval (.tmp 53) = ev6 (.tmp 53) := hA.at 53 (by kernel_rfl)
                        have p54 : zx.eval (.tmp 54) = ev6 (.tmp 54) := hA.at 54 (by kernel_rfl)
                        have p55 : zx.eval (.tmp 55) = ev6 (.tmp 55) := hA.at 55 (by kernel_rfl)
                        have p56 : zx.eval (.tmp 56) = ev6 (.tmp 56) := hA.at 56 (by kernel_rfl)
                        have p255 : zx.eval (.tmp 255) = ev6 (.tmp 255) := hA.at 255 (by kernel_rfl)
                        have p256 : zx.eval (.tmp 256) = ev6 (.tmp 256) := hA.at 256 (by kernel_rfl)
                        have p257 : zx.eval (.tmp 257) = ev6 (.tmp 257) := hA.at 257 (by kernel_rfl)
                        have p258 : zx.eval (.tmp 258) = ev6 (.tmp 258) := hA.at 258 (by kernel_rfl)
                        have p259 : zx.eval (.tmp 259) = ev6 (.tmp 259) := hA.at 259 (by kernel_rfl)
                        have p260 : zx.eval (.tmp 260) = ev6 (.tmp 260) := hA.at 260 (by kernel_rfl)
                        have p261 : zx.eval (.tmp 261) = ev6 (.tmp 261) := hA.at 261 (by kernel_rfl)
                        have p262 : zx.eval (.tmp 262) = ev6 (.tmp 262) := hA.at 262 (by kernel_rfl)
                        have p263 : zx.eval (.tmp 263) = ev6 (.tmp 263) := hA.at 263 (by kernel_rfl)
                        have p264 : zx.eval (.tmp 264) = ev6 (.tmp 264) := hA.at 264 (by kernel_rfl)
                        have p3 : zx.eval (.tmp 3) = .pointer (some ⟨B0, 0, none⟩) := hA.at 3 (by kernel_rfl)
                        have p5 : zx.eval (.tmp 5) = .bool true := hA.at 5 (by kernel_rfl)
                        have p6 : zx.eval (.tmp 6) = .slice aw nw cw := hA.at 6 (by kernel_rfl)
                        have p7 : zx.eval (.tmp 7) = .slice ad nd cd := hA.at 7 (by kernel_rfl)
                        have p8 : zx.eval (.tmp 8) = .slice (some ⟨B8, 0, none⟩) 4 4 := hA.at 8 (by kernel_rfl)
                        have p9 : zx.eval (.tmp 9) = .int .i64 (k : Int) := hA.at 9 (by kernel_rfl)
                        have hds : zx.defers = [] := hA.defers
                        have hsz : zx.tmps.size = 265 := hA.size
                        clear hA hE
                        have ha := act_lit zx 265 hsz
                        rw [show List.range 265 = [0, 1, 2, 3, 4, 5, 6, 7, 8, 9, 10, 11, 12, 13, 14, 15, 16, 17, 18, 19, 20, 21, 22, 23, 24, 25, 26, 27, 28, 29, 30, 31, 32, 33, 34, 35, 36, 37, 38, 39, 40, 41, 42, 43, 44, 45, 46, 47, 48, 49, 50, 51, 52, 53, 54, 55, 56, 57, 58, 59, 60, 61, 62, 63, 64, 65, 66, 67, 68, 69, 70, 71, 72, 73, 74, 75, 76, 77, 78, 79, 80, 81, 82, 83, 84, 85, 86, 87, 88, 89, 90, 91, 92, 93, 94, 95, 96, 97, 98, 99, 100, 101, 102, 103, 104, 105, 106, 107, 108, 109, 110, 111, 112, 113, 114, 115, 116, 117, 118, 119, 120, 121, 122, 123, 124, 125, 126, 127, 128, 129, 130, 131, 132, 133, 134, 135, 136, 137, 138, 139, 140, 141, 142, 143, 144, 145, 146, 147, 148, 149, 150, 151, 152, 153, 154, 155, 156, 157, 158, 159, 160, 161, 162, 163, 164, 165, 166, 167, 168, 169, 170, 171, 172, 173, 174, 175, 176, 177, 178, 179, 180, 181, 182, 183, 184, 185, 186, 187, 188, 189, 190, 191, 192, 193, 194, 195, 196, 197, 198, 199, 200, 201, 202, 203, 204, 205, 206, 207, 208, 209, 210, 211, 212, 213, 214, 215, 216, 217, 218, 219, 220, 221, 222, 223, 224, 225, 226, 227, 228, 229, 230, 231, 232, 233, 234, 235, 236, 237, 238, 239, 240, 241, 242, 243, 244, 245, 246, 247, 248, 249, 250, 251, 252, 253, 254, 255, 256, 257, 258, 259, 260, 261, 262, 263, 264] from rfl] at ha
                        simp only [List.map_cons, List.map_nil, hds, fL, p0, p1, p2, p19, p20, p21, p22, p23, p24, p25, p26, p27, p28, p29, p30, p31, p32, p33, p34, p35, p36, p37, p38, p39, p40, p41, p42, p43, p44, p45, p46, p47, p48, p49, p50, p51, p52, p53, p54, p55, p56, p255, p256, p257, p258, p259, p260, p261, p262, p263, p264, p3, p5, p6, p7, p8, p9] at ha
                        rw [ha]
                        clear ha hds hsz fL p0 p1 p2 p19 p20 p21 p22 p23 p24 p25 p26 p27 p28 p29 p30 p31 p32 p33 p34 p35 p36 p37 p38 p39 p40 p41 p42 p43 p44 p45 p46 p47 p48 p49 p50 p51 p52 p53 p54 p55 p56 p255 p256 p257 p258 p259 p260 p261 p262 p263 p264 p3 p5 p6 p7 p8 p9
                        generalize zx.eval = evz
                        replace HB : Hid (Below w.heap.size w V20) := HB.out.trans (hB.mono HB.out.size)
                        replace HI8 : Hid (V20.cell? ⟨B8, k, none⟩ = some (.slice ai ni ci)) := (hB.cell (p := ⟨B8, k, none⟩) HB8.out).trans HI8.out
                        replace HB8 : Hid (B8 < V20.heap.size) := Nat.lt_of_lt_of_le HB8.out hB.size
                        replace HX := Lib.hid (HX.out.below hB HX.out.lt)
                        replace HQ8 := Lib.hid (HQ8.out.below hB HQ8.out.lt)
                        replace HW := Lib.hid (HW.out.below hB)
                        replace HD := Lib.hid (HD.out.below hB)
                        replace HL := Lib.hid (HL.out.below hB)
                        replace HO := Lib.hid (HO.out.below hB)
                        replace HC := Lib.hid (HC.out.below hB)
                        replace HBy := Lib.hid (HBy.out.below hB)
                        replace HI := Lib.hid (HI.out.below hB)
                        clear hB
                        go_wp2_with fail
                        go_round
                        case rel =>
                          (repeat apply Exists.intro)
                          refine And.intro ?_ rfl
                          exact ⟨k + 1, hlt, num4, HB, HX, HQ8, HW, HD, HL, HO, HC, HBy⟩
                        case measure => exact measure4 hlt
                    · have h0I : ¬ (0 : Int) < (L : Int) := by omega
                      have hB := HB16.out
                      have hry := Rd.of_row HLQ.out.symm hqc (by omega) HROW.out
                      replace HB : Hid (Below w.heap.size w V16) := HB.out.trans (hB.mono HB.out.size)
                      replace HI8 : Hid (V16.cell? ⟨B8, k, none⟩ = some (.slice ai ni ci)) := (hB.cell (p := ⟨B8, k, none⟩) HB8.out).trans HI8.out
                      replace HB8 : Hid (B8 < V16.heap.size) := Nat.lt_of_lt_of_le HB8.out hB.size
                      replace HX := Lib.hid (HX.out.below hB HX.out.lt)
                      replace HQ8 := Lib.hid (HQ8.out.below hB HQ8.out.lt)
                      replace HW := Lib.hid (HW.out.below hB)
                      replace HD := Lib.hid (HD.out.below hB)
                      replace HL := Lib.hid (HL.out.below hB)
                      replace HO := Lib.hid (HO.out.below hB)
                      replace HC := Lib.hid (HC.out.below hB)
                      replace HBy := Lib.hid (HBy.out.below hB)
                      replace HI := Lib.hid (HI.out.below hB)
                      replace D10 := Lib.hid (D10.out.below hB D10.out.lt)
                      replace F10 := Lib.hid (F10.out.below hB)
                      replace D11 := Lib.hid (D11.out.below hB D11.out.lt)
                      replace F11 := Lib.hid (F11.out.below hB)
                      replace D12 := Lib.hid (D12.out.below hB D12.out.lt)
                      replace F12 := Lib.hid (F12.out.below hB)
                      replace D13 := Lib.hid (D13.out.below hB D13.out.lt)
                      replace F13 := Lib.hid (F13.out.below hB)
                      replace D14 := Lib.hid (D14.out.below hB D14.out.lt)
                      replace F14 := Lib.hid (F14.out.below hB)
                      replace D15 := Lib.hid (D15.out.below hB D15.out.lt)
                      replace F15 := Lib.hid (F15.out.below hB)
                      replace D16 := Lib.hid (D16.out.below hB D16.out.lt)
                      replace F16 := Lib.hid (F16.out.below hB)
                      replace D17 := Lib.hid (D17.out.below hB D17.out.lt)
                      replace F17 := Lib.hid (F17.out.below hB)
                      have HRQ : Hid (Rd (fun _ => True) V16 .u8 (some ⟨gq, 0, none⟩) L cq qs) := hry.mono fun _ _ _ => trivial
                      have HOZ := HOQ
                      clear hB HB16 hry HROW
                      go_upto_region 20 with fail
                      refine wp_region_facts (by kernel_rfl) (fs := [Fact.is (.slice (some ⟨gq, 0, none⟩) L cq), UnF (qs), Fact.is (.slice (some ⟨gq, 0, none⟩) L cq), UnF (qs), Fact.is (.bool true), Fact.is (.bool false), Fact.is (.bool false), Fact.is (.pointer (some ⟨B17, 0, none⟩)), Fact.is (.slice a17 n17 d17), UnF qs, Fact.is (.pointer (some ⟨B17, 0, none⟩)), Fact.is (.slice a17 n17 d17), UnF qs, Fact.is (.bool true), Fact.is (.bool false), Fact.is (.bool false)]) (by kernel_rfl) (by kernel_rfl) ⟨Fact.is_stable _, unF_stable _, Fact.is_stable _, unF_stable _, Fact.is_stable _, Fact.is_stable _, Fact.is_stable _, Fact.is_stable _, Fact.is_stable _, unF_stable _, Fact.is_stable _, Fact.is_stable _, unF_stable _, Fact.is_stable _, Fact.is_stable _, Fact.is_stable _, trivial⟩ ?_ ?_
                      · exact ⟨by
                            intro a W hA hB hd
                            have hB := Lib.hid hB
                            have p18 : a.eval (.tmp 18) = .slice (some ⟨gq, 0, none⟩) L cq := hA.at 18 (by kernel_rfl)
                            exact (step_pure (wanted_none rfl) (.slice (some ⟨gq, 0, none⟩) L cq) (by simp [execOp, go_sem, tm p18]) rfl),
                          by
                            intro a W hA hB hd
                            obtain ⟨q0, -⟩ := hd
                            have h239 : a.eval (.tmp 239) = .slice (some ⟨gq, 0, none⟩) L cq := q0
                            have hB := Lib.hid hB
                            exact (step_calls (wanted_none rfl) rfl (vals := #[.slice (some ⟨gq, 0, none⟩) L cq]) (by simp [h239]) (enters_of Try.func27 (by kernel_rfl) rfl) (unpW_f HOZ.out (HRQ.out.below hB.out))),
                          by
                            intro a W hA hB hd
                            have hB := Lib.hid hB
                            have p18 : a.eval (.tmp 18) = .slice (some ⟨gq, 0, none⟩) L cq := hA.at 18 (by kernel_rfl)
                            exact (step_pure (wanted_none rfl) (.slice (some ⟨gq, 0, none⟩) L cq) (by simp [execOp, go_sem, tm p18]) rfl),
                          by
                            intro a W hA hB hd
                            obtain ⟨q0, q1, -⟩ := hd
                            have h241 : a.eval (.tmp 241) = .slice (some ⟨gq, 0, none⟩) L cq := q0
                            have h240 : (UnF (qs)) (a.eval (.tmp 240)) W := q1
                            have hB := Lib.hid hB
                            exact (step_calls (wanted_none rfl) rfl (vals := #[.slice (some ⟨gq, 0, none⟩) L cq]) (by simp [h241]) (enters_of Try.func28 (by kernel_rfl) rfl) (unpR_f HOZ.out (HRQ.out.below hB.out))),
                          by
                            intro a W hA hB hd
                            obtain ⟨q0, q1, q2, -⟩ := hd
                            have h240 : (UnF (qs)) (a.eval (.tmp 240)) W := q0
                            have h242 : (UnF (qs)) (a.eval (.tmp 242)) W := q1
                            have hB := Lib.hid hB
                            exact (step_calls (wanted_none rfl) rfl (vals := #[a.eval (.tmp 240), a.eval (.tmp 242)]) (by simp) (enters_of Try.func26 (by kernel_rfl) rfl) ((equal_f h240 h242).mono fun e w' ⟨he, hb⟩ => ⟨_, he, rfl, hb⟩)),
                          by
                            intro a W hA hB hd
                            obtain ⟨q0, -⟩ := hd
                            have h243 : a.eval (.tmp 243) = .bool true := q0
                            have hB := Lib.hid hB
                            exact (step_pure (wanted_none rfl) (.bool false) (by simp [execOp, go_sem, tm h243]) rfl),
                          by
                            intro a W hA hB hd
                            obtain ⟨q0, q1, -⟩ := hd
                            have h244 : a.eval (.tmp 244) = .bool false := q0
                            have h243 : a.eval (.tmp 243) = .bool true := q1
                            have hB := Lib.hid hB
                            exact (step_pure (wanted_none rfl) (.bool false) (by simp [execOp, go_sem, tm h244]) rfl),
                          by
                            intro a W hA hB hd
                            obtain ⟨q0, -⟩ := hd
                            have h245 : a.eval (.tmp 245) = .bool false := q0
                            have hB := Lib.hid hB
                            have p17 : a.eval (.tmp 17) = .pointer (some ⟨B17, 0, none⟩) := hA.at 17 (by kernel_rfl)
                            exact (step_pure ((wanted_guard rfl 245 rfl h245).trans rfl) (.pointer (some ⟨B17, 0, none⟩)) (by simp [execOp, go_sem, tm p17]) rfl),
                          by
                            intro a W hA hB hd
                            obtain ⟨q0, q1, -⟩ := hd
                            have h246 : a.eval (.tmp 246) = .pointer (some ⟨B17, 0, none⟩) := q0
                            have h245 : a.eval (.tmp 245) = .bool false := q1
                            have hB := Lib.hid hB
                            have c0 := (D17.out.below hB.out D17.out.lt).c0
                            exact (step_pure ((wanted_guard rfl 245 rfl h245).trans rfl) (.slice a17 n17 d17) (by simp [execOp, go_sem, tm h246, c0]) rfl),
                          by
                            intro a W hA hB hd
                            obtain ⟨q0, q1, q2, -⟩ := hd
                            have h247 : a.eval (.tmp 247) = .slice a17 n17 d17 := q0
                            have h245 : a.eval (.tmp 245) = .bool false := q1
                            have hB := Lib.hid hB
                            exact (step_calls ((wanted_guard rfl 245 rfl h245).trans rfl) rfl (vals := #[.slice a17 n17 d17]) (by simp [h247]) (enters_of Try.func27 (by kernel_rfl) rfl) (unpW_f HOQ.out (F17.out.below hB.out))),
                          by
                            intro a W hA hB hd
                            obtain ⟨q0, -⟩ := hd
                            have h245 : a.eval (.tmp 245) = .bool false := q0
                            have hB := Lib.hid hB
                            have p17 : a.eval (.tmp 17) = .pointer (some ⟨B17, 0, none⟩) := hA.at 17 (by kernel_rfl)
                            exact (step_pure ((wanted_guard rfl 245 rfl h245).trans rfl) (.pointer (some ⟨B17, 0, none⟩)) (by simp [execOp, go_sem, tm p17]) rfl),
                          by
                            intro a W hA hB hd
                            obtain ⟨q0, q1, -⟩ := hd
                            have h249 : a.eval (.tmp 249) = .pointer (some ⟨B17, 0, none⟩) := q0
                            have h245 : a.eval (.tmp 245) = .bool false := q1
                            have hB := Lib.hid hB
                            have c0 := (D17.out.below hB.out D17.out.lt).c0
                            exact (step_pure ((wanted_guard rfl 245 rfl h245).trans rfl) (.slice a17 n17 d17) (by simp [execOp, go_sem, tm h249, c0]) rfl),
                          by
                            intro a W hA hB hd
                            obtain ⟨q0, q1, q2, -⟩ := hd
                            have h250 : a.eval (.tmp 250) = .slice a17 n17 d17 := q0
                            have h248 : (UnF qs) (a.eval (.tmp 248)) W := q1
                            have h245 : a.eval (.tmp 245) = .bool false := q2
                            have hB := Lib.hid hB
                            exact (step_calls ((wanted_guard rfl 245 rfl h245).trans rfl) rfl (vals := #[.slice a17 n17 d17]) (by simp [h250]) (enters_of Try.func28 (by kernel_rfl) rfl) (unpR_f HOQ.out (F17.out.below hB.out))),
                          by
                            intro a W hA hB hd
                            obtain ⟨q0, q1, q2, q3, -⟩ := hd
                            have h248 : (UnF qs) (a.eval (.tmp 248)) W := q0
                            have h251 : (UnF qs) (a.eval (.tmp 251)) W := q1
                            have h245 : a.eval (.tmp 245) = .bool false := q3
                            have hB := Lib.hid hB
                            exact (step_calls ((wanted_guard rfl 245 rfl h245).trans rfl) rfl (vals := #[a.eval (.tmp 248), a.eval (.tmp 251)]) (by simp) (enters_of Try.func26 (by kernel_rfl) rfl) ((equal_f h248 h251).mono fun e w' ⟨he, hb⟩ => ⟨_, he, rfl, hb⟩)),
                          by
                            intro a W hA hB hd
                            obtain ⟨q0, q1, -⟩ := hd
                            have h252 : a.eval (.tmp 252) = .bool true := q0
                            have h245 : a.eval (.tmp 245) = .bool false := q1
                            have hB := Lib.hid hB
                            exact (step_pure ((wanted_guard rfl 245 rfl h245).trans rfl) (.bool false) (by simp [execOp, go_sem, tm h252]) rfl),
                          by
                            intro a W hA hB hd
                            obtain ⟨q0, q1, -⟩ := hd
                            have h245 : a.eval (.tmp 245) = .bool false := q0
                            have h253 : a.eval (.tmp 253) = .bool false := q1
                            have hB := Lib.hid hB
                            exact (step_pure (wanted_none rfl) (.bool false) (by simp [execOp, go_sem, tm h245, tm h253]) rfl), trivial⟩
                      · intro zx V20 hA hB hE
                        have fL : zx.eval (.tmp 254) = .bool false := hE.2.2.2.2.2.2.2.2.2.2.2.2.2.2.2.1
                        have p0 : zx.eval (.tmp 0) = ev6 (.tmp 0) := hA.at 0 (by kernel_rfl)
                        have p1 : zx.eval (.tmp 1) = ev6 (.tmp 1) := hA.at 1 (by kernel_rfl)
                        have p2 : zx.eval (.tmp 2) = ev6 (.tmp 2) := hA.at 2 (by kernel_rfl)
                        have p19 : zx.eval (.tmp 19) = ev6 (.tmp 19) := hA.at 19 (by kernel_rfl)
                        have p20 : zx.eval (.tmp 20) = ev6 (.tmp 20) := hA.at 20 (by kernel_rfl)
                        have p21 : zx.eval (.tmp 21) = ev6 (.tmp 21) := hA.at 21 (by kernel_rfl)
                        have p22 : zx.eval (.tmp 22) = ev6 (.tmp 22) := hA.at 22 (by kernel_rfl)
                        have p23 : zx.eval (.tmp 23) = ev6 (.tmp 23) := hA.at 23 (by kernel_rfl)
                        have p24 : zx.eval (.tmp 24) = ev6 (.tmp 24) := hA.at 24 (by kernel_rfl)
                        have p25 : zx.eval (.tmp 25) = ev6 (.tmp 25) := hA.at 25 (by kernel_rfl)
                        have p26 : zx.eval (.tmp 26) = ev6 (.tmp 26) := hA.at 26 (by kernel_rfl)
                        have p27 : zx.eval (.tmp 27) = ev6 (.tmp 27) := hA.at 27 (by kernel_rfl)
                        have p28 : zx.eval (.tmp 28) = ev6 (.tmp 28) := hA.at 28 (by kernel_rfl)
                        have p29 : zx.eval (.tmp 29) = ev6 (.tmp 29) := hA.at 29 (by kernel_rfl)
                        have p30 : zx.eval (.tmp 30) = ev6 (.tmp 30) := hA.at 30 (by kernel_rfl)
                        have p31 : zx.eval (.tmp 31) = ev6 (.tmp 31) := hA.at 31 (by kernel_rfl)
                        have p32 : zx.eval (.tmp 32) = ev6 (.tmp 32) := hA.at 32 (by kernel_rfl)
                        have p33 : zx.eval (.tmp 33) = ev6 (.tmp 33) := hA.at 33 (by kernel_rfl)
                        have p34 : zx.eval (.tmp 34) = ev6 (.tmp 34) := hA.at 34 (by kernel_rfl)
                        have p35 : zx.eval (.tmp 35) = ev6 (.tmp 35) := hA.at 35 (by kernel_rfl)
                        have p36 : zx.eval (.tmp 36) = ev6 (.tmp 36) := hA.at 36 (by kernel_rfl)
                        have p37 : zx.eval (.tmp 37) = ev6 (.tmp 37) := hA.at 37 (by kernel_rfl)
                        have p38 : zx.eval (.tmp 38) = ev6 (.tmp 38) := hA.at 38 (by kernel_rfl)
                        have p39 : zx.eval (.tmp 39) = ev6 (.tmp 39) := hA.at 39 (by kernel_rfl)
                        have p40 : zx.eval (.tmp 40) = ev6 (.tmp 40) := hA.at 40 (by kernel_rfl)
                        have p41 : zx.eval (.tmp 41) = ev6 (.tmp 41) := hA.at 41 (by kernel_rfl)
                        have p42 : zx.eval (.tmp 42) = ev6 (.tmp 42) := hA.at 42 (by kernel_rfl)
                        have p43 : zx.eval (.tmp 43) = ev6 (.tmp 43) := hA.at 43 (by kernel_rfl)
                        have p44 : zx.eval (.tmp 44) = ev6 (.tmp 44) := hA.at 44 (by kernel_rfl)
                        have p45 : zx.eval (.tmp 45) = ev6 (.tmp 45) := hA.at 45 (by kernel_rfl)
                        have p46 : zx.eval (.tmp 46) = ev6 (.tmp 46) := hA.at 46 (by kernel_rfl)
                        have p47 : zx.eval (.tmp 47) = ev6 (.tmp 47) := hA.at 47 (by kernel_rfl)
                        have p48 : zx.eval (.tmp 48) = ev6 (.tmp 48) := hA.at 48 (by kernel_rfl)
                        have p49 : zx.eval (.tmp 49) = ev6 (.tmp 49) := hA.at 49 (by kernel_rfl)
                        have p50 : zx.eval (.tmp 50) = ev6 (.tmp 50) := hA.at 50 (by kernel_rfl)
                        have p51 : zx.eval (.tmp 51) = ev6 (.tmp 51) := hA.at 51 (by kernel_rfl)
                        have p52 : zx.eval (.tmp 52) = ev6 (.tmp 52) := hA.at 52 (by kernel_rfl)
                        have p53 : zx.eval (.tmp 53) = ev6 (.tmp 53) := hA.at 53 (by kernel_rfl)
                        have p54 : zx.eval (.tmp 54) = ev6 (.tmp 54) := hA.at 54 (by kernel_rfl)
                        have p55 : zx.eval (.tmp 55) = ev6 (.tmp 55) := hA.at 55 (by kernel_rfl)
                        have p56 : zx.eval (.tmp 56) = ev6 (.tmp 56) := hA.at 56 (by kernel_rfl)
                        have p255 : zx.eval (.tmp 255) = ev6 (.tmp 255) := hA.at 255 (by kernel_rfl)
                        have p256 : zx.eval (.tmp 256) = ev6 (.tmp 256) := hA.at 256 (by kernel_rfl)
                        have p257 : zx.eval (.tmp 257) = ev6 (.tmp 257) := hA.at 257 (by kernel_rfl)
                        have p258 : zx.eval (.tmp 258) = ev6 (.tmp 258) := hA.at 258 (by kernel_rfl)
                        have p259 : zx.eval (.tmp 259) = ev6 (.tmp 259) := hA.at 259 (by kernel_rfl)
                        have p260 : zx.eval (.tmp 260) = ev6 (.tmp 260) := hA.at 260 (by kernel_rfl)
                        have p261 : zx.eval (.tmp 261) = ev6 (.tmp 261) := hA.at 261 (by kernel_rfl)
                        have p262 : zx.eval (.tmp 262) = ev6 (.tmp 262) := hA.at 262 (by kernel_rfl)
                        have p263 : zx.eval (.tmp 263) = ev6 (.tmp 263) := hA.at 263 (by kernel_rfl)
                        have p264 : zx.eval (.tmp 264) = ev6 (.tmp 264) := hA.at 264 (by kernel_rfl)
                        have p3 : zx.eval (.tmp 3) = .pointer (some ⟨B0, 0, none⟩) := hA.at 3 (by kernel_rfl)
                        have p5 : zx.eval (.tmp 5) = .bool true := hA.at 5 (by kernel_rfl)
                        have p6 : zx.eval (.tmp 6) = .slice aw nw cw := hA.at 6 (by kernel_rfl)
                        have p7 : zx.eval (.tmp 7) = .slice ad nd cd := hA.at 7 (by kernel_rfl)
                        have p8 : zx.eval (.tmp 8) = .slice (some ⟨B8, 0, none⟩) 4 4 := hA.at 8 (by kernel_rfl)
                        have p9 : zx.eval (.tmp 9) = .int .i64 (k : Int) := hA.at 9 (by kernel_rfl)
                        have hds : zx.defers = [] := hA.defers
                        have hsz : zx.tmps.size = 265 := hA.size
                        clear hA hE
                        have ha := act_lit zx 265 hsz
                        rw [show List.range 265 = [0, 1, 2, 3, 4, 5, 6, 7, 8, 9, 10, 11, 12, 13, 14, 15, 16, 17, 18, 19, 20, 21, 22, 23, 24, 25, 26, 27, 28, 29, 30, 31, 32, 33, 34, 35, 36, 37, 38, 39, 40, 41, 42, 43, 44, 45, 46, 47, 48, 49, 50, 51, 52, 53, 54, 55, 56, 57, 58, 59, 60, 61, 62, 63, 64, 65, 66, 67, 68, 69, 70, 71, 72, 73, 74, 75, 76, 77, 78, 79, 80, 81, 82, 83, 84, 85, 86, 87, 88, 89, 90, 91, 92, 93, 94, 95, 96, 97, 98, 99, 100, 101, 102, 103, 104, 105, 106, 107, 108, 109, 110, 111, 112, 113, 114, 115, 116, 117, 118, 119, 120, 121, 122, 123, 124, 125, 126, 127, 128, 129, 130, 131, 132, 133, 134, 135, 136, 137, 138, 139, 140, 141, 142, 143, 144, 145, 146, 147, 148, 149, 150, 151, 152, 153, 154, 155, 156, 157, 158, 159, 160, 161, 162, 163, 164, 165, 166, 167, 168, 169, 170, 171, 172, 173, 174, 175, 176, 177, 178, 179, 180, 181, 182, 183, 184, 185, 186, 187, 188, 189, 190, 191, 192, 193, 194, 195, 196, 197, 198, 199, 200, 201, 202, 203, 204, 205, 206, 207, 208, 209, 210, 211, 212, 213, 214, 215, 216, 217, 218, 219, 220, 221, 222, 223, 224, 225, 226, 227, 228, 229, 230, 231, 232, 233, 234, 235, 236, 237, 238, 239, 240, 241, 242, 243, 244, 245, 246, 247, 248, 249, 250, 251, 252, 253, 254, 255, 256, 257, 258, 259, 260, 261, 262, 263, 264] from rfl] at ha
                        simp only [List.map_cons, List.map_nil, hds, fL, p0, p1, p2, p19, p20, p21, p22, p23, p24, p25, p26, p27, p28, p29, p30, p31, p32, p33, p34, p35, p36, p37, p38, p39, p40, p41, p42, p43, p44, p45, p46, p47, p48, p49, p50, p51, p52, p53, p54, p55, p56, p255, p256, p257, p258, p259, p260, p261, p262, p263, p264, p3, p5, p6, p7, p8, p9] at ha
                        rw [ha]
                        clear ha hds hsz fL p0 p1 p2 p19 p20 p21 p22 p23 p24 p25 p26 p27 p28 p29 p30 p31 p32 p33 p34 p35 p36 p37 p38 p39 p40 p41 p42 p43 p44 p45 p46 p47 p48 p49 p50 p51 p52 p53 p54 p55 p56 p255 p256 p257 p258 p259 p260 p261 p262 p263 p264 p3 p5 p6 p7 p8 p9
                        generalize zx.eval = evz
                        replace HB : Hid (Below w.heap.size w V20) := HB.out.trans (hB.mono HB.out.size)
                        replace HI8 : Hid (V20.cell? ⟨B8, k, none⟩ = some (.slice ai ni ci)) := (hB.cell (p := ⟨B8, k, none⟩) HB8.out).trans HI8.out
                        replace HB8 : Hid (B8 < V20.heap.size) := Nat.lt_of_lt_of_le HB8.out hB.size
                        replace HX := Lib.hid (HX.out.below hB HX.out.lt)
                        replace HQ8 := Lib.hid (HQ8.out.below hB HQ8.out.lt)
                        replace HW := Lib.hid (HW.out.below hB)
                        replace HD := Lib.hid (HD.out.below hB)
                        replace HL := Lib.hid (HL.out.below hB)
                        replace HO := Lib.hid (HO.out.below hB)
                        replace HC := Lib.hid (HC.out.below hB)
                        replace HBy := Lib.hid (HBy.out.below hB)
                        replace HI := Lib.hid (HI.out.below hB)
                        clear hB
                        go_wp2_with fail
                        go_round
                        case rel =>
                          (repeat apply Exists.intro)
                          refine And.intro ?_ rfl
                          exact ⟨k + 1, hlt, num4, HB, HX, HQ8, HW, HD, HL, HO, HC, HBy⟩
                        case measure => exact measure4 hlt
        · obtain rfl : k = 4 := by omega
          have hltI : ¬ ((4 : Nat) : Int) < 4 := by omega
          go_upto_region 22 with fail
          refine wp_region_facts (by kernel_rfl) (fs := [Fact.is (.pointer (some ⟨B0, 2, none⟩)), Fact.is (.slice ab nb cb), UnF bL, Fact.is (.pointer (some ⟨B0, 2, none⟩)), Fact.is (.slice ab nb cb), UnF bL, Fact.is (.bool true), Fact.is (.bool true), Fact.is (.bool true), Fact.is (.bool true), Fact.is (.bool true)]) (by kernel_rfl) (by kernel_rfl) ⟨Fact.is_stable _, Fact.is_stable _, unF_stable _, Fact.is_stable _, Fact.is_stable _, unF_stable _, Fact.is_stable _, Fact.is_stable _, Fact.is_stable _, Fact.is_stable _, Fact.is_stable _, trivial⟩ ?_ ?_
          · exact ⟨by
                intro a W hA hB hd
                have hB := Lib.hid hB
                have p3 : a.eval (.tmp 3) = .pointer (some ⟨B0, 0, none⟩) := hA.at 3 (by kernel_rfl)
                exact (step_pure (wanted_none rfl) (.pointer (some ⟨B0, 2, none⟩)) (by simp [execOp, go_sem, tm p3]) rfl),
              by
                intro a W hA hB hd
                obtain ⟨q0, -⟩ := hd
                have h255 : a.eval (.tmp 255) = .pointer (some ⟨B0, 2, none⟩) := q0
                have hB := Lib.hid hB
                have c0 := (HX.out.below hB.out HX.out.lt).c2
                exact (step_pure (wanted_none rfl) (.slice ab nb cb) (by simp [execOp, go_sem, tm h255, c0]) rfl),
              by
                intro a W hA hB hd
                obtain ⟨q0, -⟩ := hd
                have h256 : a.eval (.tmp 256) = .slice ab nb cb := q0
                have hB := Lib.hid hB
                exact (step_calls (wanted_none rfl) rfl (vals := #[.slice ab nb cb]) (by simp [h256]) (enters_of Try.func27 (by kernel_rfl) rfl) (unpW_f HOB.out (HBy.out.below hB.out))),
              by
                intro a W hA hB hd
                have hB := Lib.hid hB
                have p3 : a.eval (.tmp 3) = .pointer (some ⟨B0, 0, none⟩) := hA.at 3 (by kernel_rfl)
                exact (step_pure (wanted_none rfl) (.pointer (some ⟨B0, 2, none⟩)) (by simp [execOp, go_sem, tm p3]) rfl),
              by
                intro a W hA hB hd
                obtain ⟨q0, -⟩ := hd
                have h258 : a.eval (.tmp 258) = .pointer (some ⟨B0, 2, none⟩) := q0
                have hB := Lib.hid hB
                have c0 := (HX.out.below hB.out HX.out.lt).c2
                exact (step_pure (wanted_none rfl) (.slice ab nb cb) (by simp [execOp, go_sem, tm h258, c0]) rfl),
              by
                intro a W hA hB hd
                obtain ⟨q0, q1, -⟩ := hd
                have h259 : a.eval (.tmp 259) = .slice ab nb cb := q0
                have h257 : (UnF bL) (a.eval (.tmp 257)) W := q1
                have hB := Lib.hid hB
                exact (step_calls (wanted_none rfl) rfl (vals := #[.slice ab nb cb]) (by simp [h259]) (enters_of Try.func28 (by kernel_rfl) rfl) (unpR_f HOB.out (HBy.out.below hB.out))),
              by
                intro a W hA hB hd
                obtain ⟨q0, q1, q2, -⟩ := hd
                have h257 : (UnF bL) (a.eval (.tmp 257)) W := q0
                have h260 : (UnF bL) (a.eval (.tmp 260)) W := q1
                have hB := Lib.hid hB
                exact (step_calls (wanted_none rfl) rfl (vals := #[a.eval (.tmp 257), a.eval (.tmp 260)]) (by simp) (enters_of Try.func26 (by kernel_rfl) rfl) ((equal_f h257 h260).mono fun e w' ⟨he, hb⟩ => ⟨_, he, rfl, hb⟩)),
              by
                intro a W hA hB hd
                obtain ⟨q0, q1, -⟩ := hd
                have h261 : a.eval (.tmp 261) = .bool true := q0
                have hB := Lib.hid hB
                exact (step_pure (wanted_none rfl) (.bool true) (by simp [execOp, go_sem, tm h261]) rfl),
              by
                intro a W hA hB hd
                obtain ⟨q0, -⟩ := hd
                have h262 : a.eval (.tmp 262) = .bool true := q0
                have hB := Lib.hid hB
                have p5 : a.eval (.tmp 5) = .bool true := hA.at 5 (by kernel_rfl)
                exact (step_pure ((wanted_guard rfl 262 rfl h262).trans rfl) (.bool true) (by simp [execOp, go_sem, tm p5]) rfl),
              by
                intro a W hA hB hd
                obtain ⟨q0, q1, -⟩ := hd
                have h262 : a.eval (.tmp 262) = .bool true := q0
                have h263 : a.eval (.tmp 263) = .bool true := q1
                have hB := Lib.hid hB
                exact (step_pure (wanted_none rfl) (.bool true) (by simp [execOp, go_sem, tm h262, tm h263]) rfl),
              by
                intro a W hA hB hd
                obtain ⟨q0, q1, -⟩ := hd
                have h264 : a.eval (.tmp 264) = .bool true := q0
                have h262 : a.eval (.tmp 262) = .bool true := q1
                have hB := Lib.hid hB
                exact (step_pure (wanted_none rfl) (.bool true) (by simp [execOp, go_sem, tm h264]) rfl), trivial⟩
          · intro zx V22 hA hB hE
            have fL : zx.eval (.tmp 4) = .bool true := hE.2.2.2.2.2.2.2.2.2.2.1
            have hds : zx.defers = [] := hA.defers
            have hsz : zx.tmps.size = 265 := hA.size
            clear hA hE
            have ha := act_lit zx 265 hsz
            rw [show List.range 265 = [0, 1, 2, 3, 4, 5, 6, 7, 8, 9, 10, 11, 12, 13, 14, 15, 16, 17, 18, 19, 20, 21, 22, 23, 24, 25, 26, 27, 28, 29, 30, 31, 32, 33, 34, 35, 36, 37, 38, 39, 40, 41, 42, 43, 44, 45, 46, 47, 48, 49, 50, 51, 52, 53, 54, 55, 56, 57, 58, 59, 60, 61, 62, 63, 64, 65, 66, 67, 68, 69, 70, 71, 72, 73, 74, 75, 76, 77, 78, 79, 80, 81, 82, 83, 84, 85, 86, 87, 88, 89, 90, 91, 92, 93, 94, 95, 96, 97, 98, 99, 100, 101, 102, 103, 104, 105, 106, 107, 108, 109, 110, 111, 112, 113, 114, 115, 116, 117, 118, 119, 120, 121, 122, 123, 124, 125, 126, 127, 128, 129, 130, 131, 132, 133, 134, 135, 136, 137, 138, 139, 140, 141, 142, 143, 144, 145, 146, 147, 148, 149, 150, 151, 152, 153, 154, 155, 156, 157, 158, 159, 160, 161, 162, 163, 164, 165, 166, 167, 168, 169, 170, 171, 172, 173, 174, 175, 176, 177, 178, 179, 180, 181, 182, 183, 184, 185, 186, 187, 188, 189, 190, 191, 192, 193, 194, 195, 196, 197, 198, 199, 200, 201, 202, 203, 204, 205, 206, 207, 208, 209, 210, 211, 212, 213, 214, 215, 216, 217, 218, 219, 220, 221, 222, 223, 224, 225, 226, 227, 228, 229, 230, 231, 232, 233, 234, 235, 236, 237, 238, 239, 240, 241, 242, 243, 244, 245, 246, 247, 248, 249, 250, 251, 252, 253, 254, 255, 256, 257, 258, 259, 260, 261, 262, 263, 264] from rfl] at ha
            simp only [List.map_cons, List.map_nil, hds, fL] at ha
            rw [ha]
            clear ha hds hsz fL 
            generalize zx.eval = evz
            replace HB : Hid (Below w.heap.size w V22) := HB.out.trans (hB.mono HB.out.size)
            clear hB
            go_wp2_with fail
            go_ret
            exact ⟨rfl, HB.out⟩

end Go.Proofs.Ytdcapmbgnoahpaa.dictionaryMatches
