/-
  A dictionary is what its list's strings make, whatever their order and number: for all arguments the law returns true and changes nothing. No condition.
-/
import Derived.Test.YtllpnhegelddlaaDcEx
import Derived.Test.YtllpnhegelddlaaDcWords
import Derived.Test.YtllpnhegelddlaaDcApp
import Derived.Test.YtllpnhegelddlaaDcSame
import Derived.Deep.DeepCutAuto
namespace Go.Proofs.Ytllpnhegelddlaa.dictionarySets
open Go Go.Sort Go.ChangeShapes Go.WideShapes Go.ChangeAt Go.RowKit
open Go.Proofs.Ytllpnhegelddlaa

theorem fd_in {l : List (List UInt8)} {s : List UInt8} (h : s ∈ l) : fdS l s = ((l.idxOf s : Nat) : Int) := by unfold fdS; rw [if_pos h]
theorem at_mem {l : List (List UInt8)} {k : Nat} (h : k < l.length) : l[k]?.getD [] ∈ l := by rw [List.getElem?_eq_getElem h]; exact List.getElem_mem h
theorem drop_more {l : List (List UInt8)} {q : Nat} (h : q < l.length) : (l ++ (l.drop (q + 1)).reverse).map encStr ++ [l[q]?.getD []].map encStr = (l ++ (l.drop q).reverse).map encStr := by
  rw [← List.map_append, List.append_assoc, List.drop_eq_getElem_cons h, List.reverse_cons, List.getElem?_eq_getElem h]; rfl
theorem RdS.behind {K : Nat → Prop} {W : World} {b off len cap : Nat} {ss : List (List UInt8)} (h : RdS K W (some ⟨b, off, none⟩) len cap ss) (m : Nat) (hm : m ≤ len) : RdS K W (some ⟨b, off + m, none⟩) (len - m) (cap - m) (ss.drop m) :=
  ⟨by rw [List.length_drop, ← h.hl], Nat.sub_le_sub_right h.fit m, Nat.le_trans (Nat.sub_le ..) h.top, Nat.le_trans (Nat.sub_le ..) h.small, fun s hs => h.wide s (List.mem_of_mem_drop hs), fun h0 => by
    obtain ⟨b', off', e, hk, hlt, hc⟩ := h.cells (by omega)
    cases e
    refine ⟨b, off + m, rfl, hk, hlt, fun j hj => ?_⟩
    have := hc (m + j) (by omega)
    rw [List.getElem?_drop, Nat.add_assoc]
    exact this⟩

set_option maxRecDepth 100000 in
set_option maxHeartbeats 4000000 in
theorem walk {K1 K2 : Nat → Prop} {a1 a2 : Option Addr} {n1 c1 n2 c2 : Nat} {xs ys : List Int} (ho1 : Oct xs) (ho2 : Oct ys) (w : World) (hR1 : RdL K1 w .u8 a1 n1 c1 xs) (hR2 : RdL K2 w .u8 a2 n2 c2 ys) :
    Calls Try.prog 7 #[.slice a1 n1 c1, .slice a2 n2 c2] w fun e w' => e = .returned (.bool true) ∧ Below w.heap.size w w' := by
  obtain ⟨i0, hi, hz0, hz1, hz2⟩ := info_parts Try.infoS5
  have H1 := Lib.hid hR1
  have H2 := Lib.hid hR2
  clear hR1 hR2
  go_enter Try.func7, Try.ntmps7
  go_wp2_with fail
  refine (examples5_any _).mono ?_
  rintro e w1 ⟨rfl, hb1⟩
  have HB1 := Lib.hid hb1
  clear hb1
  go_wp2_with fail
  refine (words_any ho1 (H1.out.below HB1.out)).mono ?_
  rintro e w2 ⟨gw, nw, cw, rfl, hw, _, hb⟩
  have HW2 := Lib.hid hw
  have HB2 : Hid (Below w.heap.size w w2) := HB1.out.trans (hb.mono HB1.out.size)
  clear hw hb HB1
  go_wp2_with fail
  refine (words_any ho2 (H2.out.below HB2.out)).mono ?_
  rintro e w3 ⟨gv, nv, cv, rfl, hv, _, hb⟩
  have HB3 : Hid (Below w.heap.size w w3) := HB2.out.trans (hb.mono HB2.out.size)
  have HW3 := Lib.hid (HW2.out.below hb)
  have HV3 := Lib.hid hv
  clear hv hb HB2 HW2
  go_wp2_with fail
  refine (of_any HW3.out).mono ?_
  rintro e w4 ⟨ad, nd, cd, rfl, hd, hb⟩
  have HB4 : Hid (Below w.heap.size w w4) := HB3.out.trans (hb.mono HB3.out.size)
  have HW4 := Lib.hid (HW3.out.below hb)
  have HV4 := Lib.hid (HV3.out.below hb)
  have HD4 := Lib.hid hd
  clear hd hb HB3 HW3 HV3
  go_wp2_with fail
  refine (of_any HV4.out).mono ?_
  rintro e w5 ⟨ae, ne, ce, rfl, he, hb⟩
  have HB5 : Hid (Below w.heap.size w w5) := HB4.out.trans (hb.mono HB4.out.size)
  have HW5 := Lib.hid (HW4.out.below hb)
  have HV5 := Lib.hid (HV4.out.below hb)
  have HD5 := Lib.hid (HD4.out.below hb)
  have HE5 := Lib.hid he
  have hnw : nw ≤ 20 := by rw [HW5.out.hl]; exact words_len xs
  have hnv : nv ≤ 20 := by rw [HV5.out.hl]; exact words_len ys
  have hnd : nd ≤ 20 := by rw [HD5.out.hl]; exact Nat.le_trans (of_len _) (words_len xs)
  have hne : ne ≤ 20 := by rw [HE5.out.hl]; exact Nat.le_trans (of_len _) (words_len ys)
  have hwc := HW5.out.fit
  have hvc := HV5.out.fit
  have hdc := HD5.out.fit
  have hec := HE5.out.fit
  clear he hb HB4 HW4 HV4 HD4 ho1 ho2 H1 H2
  have HX : Hid (vlB (ofS (wordsD xs)) = true ∧ Inc (ofS (wordsD xs)) ∧ (∀ s ∈ wordsD xs, s.length ≤ maxLen)) := ⟨words_vl xs, of_inc _, HW5.out.wide⟩
  generalize wordsD xs = L at *
  generalize wordsD ys = M at *
  have hbA : Below w5.heap.size w5 (w5.alloc (.cells #[] 9)) := (Below.refl _ _).alloc (Nat.le_refl _) _
  obtain ⟨gk, ck, w6, hrk, hok, hgk, hck, _⟩ := run_append_strs (P := Try.prog) _ w5.heap.size 23 23 9 i0 _ Try.underlying23 hi hz0 hz1 hz2 (by rfl) _ 0 0 [] (own5_none w5 9 w5.heap.size (Nat.le_refl _)) (some ⟨gw, 0, none⟩) nw cw L (HW5.out.below hbA) (by omega) (by simp)
  have HB6 : Hid (Below w5.heap.size w5 w6) := hbA.grown hgk hbA.size (fun r e => by cases e; exact Nat.le_refl _)
  simp only [Nat.zero_add, List.nil_append] at hrk hok hck
  have HRK := Lib.hid hrk
  have HOK := Lib.hid hok
  have HCW : Hid (∀ j, j < nw → gw < w5.heap.size ∧ w5.cell? ⟨gw, j, none⟩ = some (.string (bsOf (L[j]?.getD [])))) := fun j hj => by
    obtain ⟨b, off, e, _, hlt, hc⟩ := HW5.out.cells (by omega)
    cases e
    have := hc j hj
    rw [Nat.zero_add] at this
    exact ⟨hlt, this⟩
  have hLl : L.length = nw := HW5.out.hl.symm
  clear hrk hok hgk hbA
  go_wp2_with (at_builtin; refine wpList_append_want (o := ⟨some 28, _, _, _, _, _⟩) _ rfl _ _ _ _ rfl _ _ rfl rfl _ _ HRK.out ?_)
  clear HRK
  go_loopw [10, 11] (fun v i wr => ∃ j n g c : Nat, j ≤ nw ∧ i = .int .i64 ((j : Int) - 1) ∧ v = .slice (some ⟨g, 0, none⟩) n c ∧ n = nw + (nw - j) ∧ n ≤ c ∧ w5.heap.size ≤ g ∧ Hid (wr.ownsRow w5.heap.size 9 1 (.slice (some ⟨g, 0, none⟩) n c) n ((L ++ (L.drop j).reverse).map encStr)) ∧ Hid (Below w5.heap.size w5 wr)) (fun _ i _ => (intOf i + 1).toNat)
  case atStart =>
    refine ⟨nw, nw, gk, ck, Nat.le_refl _, by go_num, rfl, by omega, hck, row_base HOK.out, ?_, HB6⟩
    rw [List.drop_of_length_le (by omega)]
    simpa using HOK
  case round =>
    obtain ⟨j, n, g, c, hj, rfl, rfl, hn, hfit, hgb, HO, HBr⟩ := hrel
    rcases j with _ | q
    · rw [show ((0 : Nat) : Int) - 1 = -1 from rfl]
      rw [List.drop_zero] at HO
      have hn2 : n = nw + nw := by omega
      clear hn hj
      subst hn2
      go_wp2_with fail
      go_loop [12] (fun i => ∃ k : Nat, k ≤ nw ∧ i = .int .i64 k) (fun i => nw - (intOf i).toNat)
      case atStart => exact ⟨0, Nat.zero_le _, rfl⟩
      case round =>
        obtain ⟨k, hk, rfl⟩ := hrel
        by_cases hlt : k < nw
        · have hcx := (HBr.out.cell (p := ⟨gw, k, none⟩) (HCW.out k hlt).1).trans (HCW.out k hlt).2
          have HF := Lib.hid (find_any (HD5.out.below HBr.out) (L[k]?.getD []))
          rw [fd_in ((mem_of L _).2 (at_mem (by omega)))] at HF
          generalize ((ofS L).idxOf (L[k]?.getD [])) = m at *
          generalize bsOf (L[k]?.getD []) = X at *
          go_wp2_with fail
          refine HF.out.mono ?_
          rintro e w8 ⟨rfl, rfl⟩
          go_wp2
          go_round
          case rel => exact ⟨k + 1, by omega, by go_num⟩
          case measure => simp [intOf]; omega
        · obtain rfl : k = nw := by omega
          go_wp2_with fail
          go_loop [13] (fun i => ∃ k : Nat, k ≤ nd ∧ i = .int .i64 k) (fun i => nd - (intOf i).toNat)
          case atStart => exact ⟨0, Nat.zero_le _, rfl⟩
          case round =>
            obtain ⟨q, hq, rfl⟩ := hrel
            by_cases hlq : q < nd
            · obtain ⟨b, off, rfl, _, hblt, hc⟩ := HD5.out.cells (by omega)
              have hcx := (HBr.out.cell (p := ⟨b, off + q, none⟩) hblt).trans (hc q hlq)
              have HF := Lib.hid (find_any (HW5.out.below HBr.out) ((ofS L)[q]?.getD []))
              rw [fd_in ((mem_of L _).1 (at_mem (by rw [← HD5.out.hl]; exact hlq)))] at HF
              clear hc
              generalize (L.idxOf ((ofS L)[q]?.getD [])) = m at *
              generalize bsOf ((ofS L)[q]?.getD []) = X at *
              go_wp2_with fail
              refine HF.out.mono ?_
              rintro e w8 ⟨rfl, rfl⟩
              go_wp2
              go_round
              case rel => exact ⟨q + 1, by omega, by go_num⟩
              case measure => simp [intOf]; omega
            · obtain rfl : q = nd := by omega
              have hwL : ∀ s ∈ L ++ L.reverse, s.length ≤ maxLen := fun s hs => by
                rcases List.mem_append.1 hs with h | h
                · exact HX.out.2.2 s h
                · exact HX.out.2.2 s (List.mem_reverse.1 h)
              have HK := Lib.hid (RdS.of_row (ss := L ++ L.reverse) (len := k + k) (by rw [List.length_append, List.length_reverse]; omega) (by omega) hwL HO.out)
              have HDr := Lib.hid (HD5.out.below HBr.out)
              have HEr := Lib.hid (HE5.out.below HBr.out)
              have hLr := HW5.out.below HBr.out
              have hMr := HV5.out.below HBr.out
              have hb0 : Below wr.heap.size wr (wr.alloc (.cells #[] 9)) := (Below.refl _ _).alloc (Nat.le_refl _) _
              obtain ⟨gA, cA, wA, hrA, hoA, hgA, hcA, hgbA⟩ := run_append_strs (P := Try.prog) _ wr.heap.size 23 23 9 i0 _ Try.underlying23 hi hz0 hz1 hz2 (by rfl) _ 0 0 [] (own5_none wr 9 wr.heap.size (Nat.le_refl _)) (some ⟨gw, 0, none⟩) k cw L (hLr.below hb0) (by omega) hb0.size
              simp only [Nat.zero_add, List.nil_append] at hrA hoA hcA
              have hbA : Below wr.heap.size wr wA := hb0.grown hgA hb0.size (fun r e => by cases e; exact Nat.le_refl _)
              obtain ⟨gB, cB, wB, hrB, hoB, hgB, hcB, hgbB⟩ := run_append_strs (P := Try.prog) wA wr.heap.size 23 23 9 i0 _ Try.underlying23 hi hz0 hz1 hz2 (by rfl) gA k cA _ hoA (some ⟨gv, 0, none⟩) nv cv M (hMr.below hbA) (by omega) hbA.size
              have HbB : Hid (Below wr.heap.size wr wB) := hbA.grown hgB hbA.size (fun r e => by cases e; exact hgbA)
              have hwLM : ∀ s ∈ L ++ M, s.length ≤ maxLen := fun s hs => by
                rcases List.mem_append.1 hs with h | h
                · exact HX.out.2.2 s h
                · exact HV5.out.wide s h
              have HALL := Lib.hid (RdS.of_row (A := wB) (base := wr.heap.size) (e := 9) (g := gB) (len := k + nv) (cap := cB) (ss := L ++ M) (by rw [List.length_append, ← HV5.out.hl]; omega) (by omega) hwLM (by rw [List.map_append]; exact hoB))
              have HRA := Lib.hid hrA
              have HRB := Lib.hid hrB
              clear hrA hrB hoA hoB hgA hgB hbA hb0 hLr hMr hwLM hwL
              go_wp2_with (first
                | (at_builtin; refine wpList_append_want (o := ⟨some 71, _, _, _, _, _⟩) _ rfl _ _ _ _ rfl _ _ rfl rfl _ _ HRA.out ?_)
                | (at_builtin; refine wpList_append_want (o := ⟨some 73, _, _, _, _, _⟩) _ rfl _ _ _ _ rfl _ _ rfl rfl _ _ HRB.out ?_))
              refine (of_any HALL.out).mono ?_
              rintro e w8 ⟨ab, nb, cb, rfl, hbo, hb⟩
              have HBO := Lib.hid hbo
              have HB8 : Hid (Below wr.heap.size wr w8) := HbB.out.trans (hb.mono HbB.out.size)
              have hvl := valid_any (HDr.out.below HB8.out)
              rw [HX.out.1] at hvl
              have HVL := Lib.hid hvl
              clear hbo hb HRA HRB HALL HbB hvl
              go_wp2_with fail
              refine HVL.out.mono ?_
              rintro e w9 ⟨rfl, rfl⟩
              go_wp2_with fail
              all_goals first
                | refine (of_any (show RdS (fun _ => True) w8 (some ⟨g, k, none⟩) k (c - k) L.reverse from by
                    have h1 := RdS.behind (HK.out.below HB8.out) k (by omega)
                    rw [Nat.zero_add, Nat.add_sub_cancel, List.drop_left' hLl] at h1
                    exact h1.mono fun _ _ _ => trivial)).mono ?_
                | have hck2 : k = c := by symm; assumption
                  subst hck2
                  refine (of_any (show RdS (fun _ => True) w8 (some ⟨g, 0, none⟩) k 0 L.reverse from by
                    have h0 : k = 0 := by omega
                    have h1 : L = [] := List.eq_nil_of_length_eq_zero (by omega)
                    rw [h0, h1]
                    exact RdS.empty)).mono ?_
              all_goals
                rintro e w9 ⟨ax, nx, cx, rfl, hx, hb⟩
                rw [show ofS L.reverse = ofS L from of_ext fun x => List.mem_reverse] at hx
                have HX9 := Lib.hid hx
                have HB9 : Hid (Below wr.heap.size wr w9) := HB8.out.trans (hb.mono HB8.out.size)
                have HO9 := Lib.hid (HBO.out.below hb)
                clear hx hb HB8 HBO
                go_wp2_with fail
                refine (sames_any HX9.out (HDr.out.below HB9.out)).mono ?_
                rintro e w10 ⟨rfl, hb⟩
                rw [sameS_true rfl]
                have HB10 : Hid (Below wr.heap.size wr w10) := HB9.out.trans (hb.mono HB9.out.size)
                have HO10 := Lib.hid (HO9.out.below hb)
                clear hb HB9 HO9 HX9
                go_wp2_with fail
                refine (of_any (HK.out.below HB10.out)).mono ?_
                rintro e w11 ⟨ax, nx, cx, rfl, hx, hb⟩
                rw [show ofS (L ++ L.reverse) = ofS L from of_ext fun x => by rw [List.mem_append, List.mem_reverse, or_self]] at hx
                have HX11 := Lib.hid hx
                have HB11 : Hid (Below wr.heap.size wr w11) := HB10.out.trans (hb.mono HB10.out.size)
                have HO11 := Lib.hid (HO10.out.below hb)
                clear hx hb HB10 HO10
                go_wp2_with fail
                refine (sames_any HX11.out (HDr.out.below HB11.out)).mono ?_
                rintro e w12 ⟨rfl, hb⟩
                rw [sameS_true rfl]
                have HB12 : Hid (Below wr.heap.size wr w12) := HB11.out.trans (hb.mono HB11.out.size)
                have HO12 := Lib.hid (HO11.out.below hb)
                have hE12 := HEr.out.below HB12.out
                have hD12 := HDr.out.below HB12.out
                clear hb HB11 HO11 HX11
                have hb0 : Below w12.heap.size w12 (w12.alloc (.cells #[] 9)) := (Below.refl _ _).alloc (Nat.le_refl _) _
                obtain ⟨gC, cC, wC, hrC, hoC, hgC, hcC, hgbC⟩ := run_append_strs (P := Try.prog) _ w12.heap.size 23 23 9 i0 _ Try.underlying23 hi hz0 hz1 hz2 (by rfl) _ 0 0 [] (own5_none w12 9 w12.heap.size (Nat.le_refl _)) ae ne ce (ofS M) (hE12.below hb0) (by omega) hb0.size
                simp only [Nat.zero_add, List.nil_append] at hrC hoC hcC
                have hbC : Below w12.heap.size w12 wC := hb0.grown hgC hb0.size (fun r e => by cases e; exact Nat.le_refl _)
                obtain ⟨gF, cF, wF, hrF, hoF, hgF, hcF, hgbF⟩ := run_append_strs (P := Try.prog) wC w12.heap.size 23 23 9 i0 _ Try.underlying23 hi hz0 hz1 hz2 (by rfl) gC ne cC _ hoC ad q cd (ofS L) (hD12.below hbC) (by omega) hbC.size
                have HbF : Hid (Below w12.heap.size w12 wF) := hbC.grown hgF hbC.size (fun r e => by cases e; exact hgbC)
                have hwML : ∀ s ∈ ofS M ++ ofS L, s.length ≤ maxLen := fun s hs => by
                  rcases List.mem_append.1 hs with h | h
                  · exact HE5.out.wide s h
                  · exact HD5.out.wide s h
                have HALL := Lib.hid (RdS.of_row (A := wF) (base := w12.heap.size) (e := 9) (g := gF) (len := ne + q) (cap := cF) (ss := ofS M ++ ofS L) (by rw [List.length_append, ← HE5.out.hl, ← HD5.out.hl]) (by omega) hwML (by rw [List.map_append]; exact hoF))
                have HRC := Lib.hid hrC
                have HRF := Lib.hid hrF
                clear hrC hrF hoC hoF hgC hgF hbC hb0 hE12 hD12 hwML
                go_wp2_with (first
                  | (at_builtin; refine wpList_append_want (o := ⟨some 95, _, _, _, _, _⟩) _ rfl _ _ _ _ rfl _ _ rfl rfl _ _ HRC.out ?_)
                  | (at_builtin; refine wpList_append_want (o := ⟨some 97, _, _, _, _, _⟩) _ rfl _ _ _ _ rfl _ _ rfl rfl _ _ HRF.out ?_))
                refine (of_any HALL.out).mono ?_
                rintro e w13 ⟨ax, nx, cx, rfl, hx, hb⟩
                rw [show ofS (ofS M ++ ofS L) = ofS (L ++ M) from of_ext fun x => by rw [List.mem_append, List.mem_append, mem_of, mem_of]; exact or_comm] at hx
                have HX13 := Lib.hid hx
                have HB13 : Hid (Below wr.heap.size wr w13) := HB12.out.trans ((HbF.out.trans (hb.mono HbF.out.size)).mono HB12.out.size)
                have HO13 := Lib.hid ((HO12.out.below HbF.out).below hb)
                clear hx hb HB12 HO12 HRC HRF HALL HbF
                go_wp2_with fail
                refine (sames_any HX13.out HO13.out).mono ?_
                rintro e w14 ⟨rfl, hb⟩
                rw [sameS_true rfl]
                have HB14 : Hid (Below wr.heap.size wr w14) := HB13.out.trans (hb.mono HB13.out.size)
                clear hb HB13 HO13 HX13
                go_wp2_with fail
                refine (of_any (HDr.out.below HB14.out)).mono ?_
                rintro e w15 ⟨ax, nx, cx, rfl, hx, hb⟩
                rw [of_self HX.out.2.1] at hx
                have HX15 := Lib.hid hx
                have HB15 : Hid (Below wr.heap.size wr w15) := HB14.out.trans (hb.mono HB14.out.size)
                clear hx hb HB14
                go_wp2_with fail
                refine (sames_any HX15.out (HDr.out.below HB15.out)).mono ?_
                rintro e w16 ⟨rfl, hb⟩
                rw [sameS_true rfl]
                have HB16 : Hid (Below wr.heap.size wr w16) := HB15.out.trans (hb.mono HB15.out.size)
                clear hb HB15 HX15
                go_wp2
                go_ret
                exact ⟨rfl, HB5.out.trans ((HBr.out.trans (HB16.out.mono HBr.out.size)).mono HB5.out.size)⟩
    · rw [show ((q + 1 : Nat) : Int) - 1 = (q : Int) by omega]
      have hcx := (HBr.out.cell (p := ⟨gw, q, none⟩) (HCW.out q (by omega)).1).trans (HCW.out q (by omega)).2
      have hbq : Below w5.heap.size w5 (wr.alloc (.cells #[.string (bsOf (L[q]?.getD []))] 9)) := HBr.out.alloc HBr.out.size _
      obtain ⟨G, C, w7, hrun, hown, hgr, hcap, hbase⟩ := run_append_strs (P := Try.prog) (wr.alloc (.cells #[.string (bsOf (L[q]?.getD []))] 9)) w5.heap.size 23 23 9 i0 _ Try.underlying23 hi hz0 hz1 hz2 (by rfl) g n c _ (HO.out.alloc _) (some ⟨wr.heap.size, 0, none⟩) 1 1 [L[q]?.getD []] (RdS.new5 wr 9 [L[q]?.getD []] 1 rfl (by decide) (fun s hs => by rw [List.mem_singleton.1 hs]; exact HW5.out.wideAt q)) (by omega) hbq.size
      have HRUN := Lib.hid hrun
      rw [drop_more (by omega)] at hown
      have HOWN := Lib.hid hown
      have HB7 : Hid (Below w5.heap.size w5 w7) := hbq.grown hgr hbq.size (fun r e => by cases e; exact hgb)
      clear hrun hown hgr hbq
      generalize bsOf (L[q]?.getD []) = X at *
      go_wp2_with (at_builtin; refine wpList_append_want (o := ⟨some 42, _, _, _, _, _⟩) _ rfl _ _ _ _ rfl _ _ rfl rfl _ _ HRUN.out ?_)
      go_roundw
      case rel => exact ⟨q, n + 1, G, C, by omega, by go_num, by first | rfl | rw [hn], by omega, hcap, hbase, HOWN, HB7⟩
      case measure => simp [intOf]

end Go.Proofs.Ytllpnhegelddlaa.dictionarySets
