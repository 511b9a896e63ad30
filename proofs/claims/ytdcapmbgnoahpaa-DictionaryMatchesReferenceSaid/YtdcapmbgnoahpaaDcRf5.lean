/-
  Packed forms of dictionaries, on both sides.
-/
import Derived.Test.YtdcapmbgnoahpaaDcRf4
import Derived.Test.YtdcapmbgnoahpaaByRow
import Derived.Test.YtdcapmbgnoahpaaPkRef2
namespace Go.Proofs.Ytdcapmbgnoahpaa
open Go Go.RowKit Go.Shelf Go.Sort Go.ChangeShapes Go.WideShapes Go.ChangeAt

def pkE (ss : List (List UInt8)) : Int := if vlB ss = true then 0 else 1
def pkL (ss : List (List UInt8)) : List Int := if vlB ss = true then pkD ss else []
def PkP (ss : List (List UInt8)) (W : World) (e : Ending) (W' : World) : Prop :=
  ∃ a n c, e = .returned (.agg #[.slice a n c, .int .i64 (pkE ss)]) ∧ Rd (fun _ => True) W' .u8 a n c (pkL ss) ∧ Below W.heap.size W W'
theorem packedW_p {K : Nat → Prop} {a : Option Addr} {len cap : Nat} {ss : List (List UInt8)} {W : World} (hR : RdS K W a len cap ss) :
    Calls Try.prog 18 #[.slice a len cap] W (PkP ss W) := by
  cases hv : vlB ss with
  | false =>
    refine (packedW_bad hR hv).mono ?_
    rintro e W' ⟨rfl, hb⟩
    exact ⟨none, 0, 0, by unfold pkE; rw [hv]; rfl, by unfold pkL; rw [hv]; exact Rd.empty, hb⟩
  | true =>
    refine (packedW_good hR hv).mono ?_
    rintro e W' ⟨g, n, c, rfl, hr, hb⟩
    exact ⟨_, n, c, by unfold pkE; rw [hv]; rfl, by unfold pkL; rw [hv]; exact hr.mono fun _ _ _ => trivial, hb⟩
theorem bs_drop5 (a : List UInt8) (k : Nat) : (bsOf a).extract k (bsOf a).size = bsOf (a.drop k) := by
  apply ByteArray.ext
  simp [bsOf, ByteArray.extract, ByteArray.copySlice, ByteArray.size]
  exact List.take_of_length_le (by simp)
set_option maxRecDepth 100000 in
set_option maxHeartbeats 4000000 in
theorem packR_any {K : Nat → Prop} {a : Option Addr} {len cap : Nat} {ss : List (List UInt8)} {W : World} (hR : RdS K W a len cap ss) :
    Calls Try.prog 19 #[.slice a len cap] W (PkP ss W) := by
  obtain ⟨i0, hi, hz0, hz1, hz2⟩ := info_parts Try.infoB
  have hb0 : Below W.heap.size W (W.alloc (.cells #[.slice none 0 0, .int .i64 0] 41)) := (Below.refl _ _).alloc (Nat.le_refl _) _
  have HP := Lib.hid (validR_any (hR.below hb0))
  have HD := Lib.hid (Duo.new W 41 (.slice none 0 0) (.int .i64 0))
  have HB0 := Lib.hid hb0
  have H := Lib.hid hR
  have HL := Lib.hid hR.hl
  have hfit := hR.fit
  obtain ⟨R, hRe⟩ : ∃ R, W.heap.size = R := ⟨_, rfl⟩
  have HRE : Hid (W.heap.size ≤ R) := Nat.le_of_eq hRe
  have HRS : Hid ((W.alloc (.cells #[.slice none 0 0, .int .i64 0] 41)).heap.size = R + 1) := by show _ = _; simp [hRe]
  rw [hRe] at HD
  clear hb0 hR
  cases hv : vlB ss with
  | false =>
    rw [hv] at HP
    have HV := Lib.hid hv
    clear hv
    go_enter Try.func19, Try.ntmps19
    go_wp2_with fail
    try rw [hRe]
    clear hRe
    generalize W.alloc (.cells #[.slice none 0 0, .int .i64 0] 41) = V at *
    refine HP.out.mono ?_
    rintro e w1 ⟨rfl, n, hw1⟩
    have HB1 : Hid (Below W.heap.size W w1) := by rw [hw1]; exact below_drewN HB0.out n
    have hd : Duo w1 R 41 (.slice none 0 0) (.int .i64 0) := by rw [hw1]; exact HD.out.drewN n
    have p0 := hd.c0
    have p1 := hd.c1
    have f0 := hd.f 0
    have f1 := hd.f 1
    have plt := hd.lt
    clear hw1 hd
    go_wp2
    exact bodyPost_ret (v := .agg #[.slice none 0 0, .int .i64 1]) (by simp [results, Try.results19, go_sem, p0, p1]) rfl ⟨none, 0, 0, by unfold pkE; rw [HV.out]; rfl, by unfold pkL; rw [HV.out]; exact Rd.empty, below_two HB1.out HRE.out _ _⟩
  | true =>
    rw [hv] at HP
    obtain ⟨hv1, hv2, _⟩ := vl_iff.1 hv
    have HV := Lib.hid hv
    have hlen : len ≤ 4096 := by have := HL.out; omega
    have H255 : Hid (∀ k : Nat, (ss[k]?.getD []).length ≤ 255) := fun k => by
      by_cases hk : k < ss.length
      · rw [List.getElem?_eq_getElem hk]; exact hv2 _ (List.getElem_mem hk)
      · rw [List.getElem?_eq_none (by omega)]; exact Nat.zero_le _
    have H255' : Hid (∀ k : Nat, (([] :: ss)[k]?.getD []).length ≤ 255) := fun k => by
      cases k with
      | zero => exact Nat.zero_le _
      | succ m => rw [List.getElem?_cons_succ]; exact H255.out m
    have HPL : Hid (∀ k : Nat, (varN len ++ ptP [] (ss.take k)).length ≤ 1060900) := fun k => by
      have h4 : (varN len).length ≤ 2 := varN_len 1 _ (by omega)
      have h5 := pt_len (ss.take k) [] (fun s hs => hv2 s (List.mem_of_mem_take hs))
      have h6 : (ss.take k).length ≤ ss.length := by rw [List.length_take]; omega
      have := HL.out
      rw [List.length_append]
      omega
    have HU0 : Hid (IntKind.u64.wrap (len : Int) = (len : Int)) := by show _ = _; rw [IntKind.wrap_u64]; omega
    have e0 : bsOf [] = ⟨#[]⟩ := rfl
    clear hv hv1 hv2
    go_enter Try.func19, Try.ntmps19
    rw [← e0]
    have E0 := Lib.hid e0
    clear e0
    go_wp2_with fail
    try rw [hRe]
    clear hRe
    generalize W.alloc (.cells #[.slice none 0 0, .int .i64 0] 41) = V at *
    refine HP.out.mono ?_
    rintro e w1 ⟨rfl, n, hw1⟩
    have HB1 : Hid (Below W.heap.size W w1) := by rw [hw1]; exact below_drewN HB0.out n
    have HD1 : Hid (Duo w1 R 41 (.slice none 0 0) (.int .i64 0)) := by rw [hw1]; exact HD.out.drewN n
    have HS1 : Hid (w1.heap.size = R + 1) := by show _ = _; rw [hw1]; exact HRS.out
    clear hw1 HB0 HD HP HRS
    have hu0 := HU0.out
    go_wp2_with fail
    refine (varintR_any (fun _ => True) none 0 0 [] len (by omega) _ Rd.empty (by decide)).mono ?_
    rintro e w2 ⟨g, c, rfl, hfit2, hrow, hb2⟩
    rw [List.nil_append] at hfit2 hrow ⊢
    have HB2 : Hid (Below W.heap.size W w2) := HB1.out.trans (hb2.mono HB1.out.size)
    have HD2 := Lib.hid (HD1.out.below hb2 HD1.out.lt)
    have HO2 : Hid (w2.ownsRow (R + 1) 5 1 (.slice (some ⟨g, 0, none⟩) (varN len).length c) (varN len).length ((varN len).map (Value.int .u8))) := by rw [← HS1.out]; exact hrow
    have HZ2 : Hid (R + 1 ≤ w2.heap.size) := by show _ ≤ _; rw [← HS1.out]; exact hb2.size
    obtain ⟨n2, hn2⟩ : ∃ n, (varN len).length = n := ⟨_, rfl⟩
    rw [hn2] at hfit2 HO2 ⊢
    have HN2 := Lib.hid hn2
    clear hn2 hrow hb2 HB1 HD1 HS1 hu0
    go_wp2
    go_loopw [3, 4, 5] (fun v s i wr => ∃ k n g c : Nat, k ≤ len ∧ i = .int .i64 k ∧ s = .string (bsOf (([] :: ss)[k]?.getD [])) ∧ v = .slice (some ⟨g, 0, none⟩) n c ∧ Hid (n = (varN len ++ ptP [] (ss.take k)).length) ∧ n ≤ c ∧
      Hid (wr.ownsRow (R + 1) 5 1 (.slice (some ⟨g, 0, none⟩) n c) n ((varN len ++ ptP [] (ss.take k)).map (Value.int .u8))) ∧ Hid (Below W.heap.size W wr) ∧ Hid (Duo wr R 41 (.slice none 0 0) (.int .i64 0)) ∧ Hid (R + 1 ≤ wr.heap.size)) (fun _ _ i _ => len - (intOf i).toNat)
    case atStart => exact ⟨0, n2, g, c, Nat.zero_le _, rfl, by first | rfl | simp [bsOf], rfl, by show n2 = _; rw [List.take_zero]; simp [ptP, HN2.out], hfit2, by rw [List.take_zero]; exact Lib.hid (by simpa [ptP] using HO2.out), HB2, HD2, HZ2⟩
    case round =>
      obtain ⟨k, n, g, c, hk, rfl, rfl, rfl, HNK, hfk, HRK, HBK, HDK, HZK⟩ := hrel
      by_cases hlt : k < len
      · obtain ⟨b, off, rfl, _, hblt, hc⟩ := H.out.cells (by omega)
        have HBL : Hid (b < wr.heap.size) := Nat.lt_of_lt_of_le hblt HBK.out.size
        have hcx := (HBK.out.cell (p := ⟨b, off + k, none⟩) hblt).trans (hc k hlt)
        have HX8 := Lib.hid hcx
        have HTM := Lib.hid (take_more ss k (by rw [← HL.out]; exact hlt))
        have HST := Lib.hid (st_len (([] :: ss)[k]?.getD []) (ss[k]?.getD []) (H255.out k))
        have HNX : Hid (([] :: ss)[k + 1]?.getD [] = ss[k]?.getD []) := by show _ = _; rw [List.getElem?_cons_succ]
        have hnb : n ≤ 1060900 := by rw [HNK.out]; exact HPL.out k
        have hx255 := H255'.out k
        have hy255 := H255.out k
        have HSTP : Hid (stP (([] :: ss)[k]?.getD []) (ss[k]?.getD []) = varN (shN (([] :: ss)[k]?.getD []) (ss[k]?.getD [])) ++ (varN ((ss[k]?.getD []).length - shN (([] :: ss)[k]?.getD []) (ss[k]?.getD [])) ++ strI ((ss[k]?.getD []).drop (shN (([] :: ss)[k]?.getD []) (ss[k]?.getD []))))) := rfl
        generalize ([] :: ss)[k]?.getD [] = x at *
        generalize ss[k]?.getD [] = y at *
        have hsh := sh_le x y
        have HSH := Lib.hid (fun W => sharedR_any x y (by omega) (by omega) W)
        have HDR := Lib.hid (fun j => bs_drop5 y j)
        have HYS0 := Lib.hid (bs_size y)
        generalize shN x y = q at *
        obtain ⟨zs, hzs⟩ : ∃ zs, varN len ++ ptP [] (ss.take k) = zs := ⟨_, rfl⟩
        rw [hzs] at HNK HRK
        have HZS := Lib.hid hzs
        obtain ⟨Y, hY⟩ : ∃ Y, bsOf y = Y := ⟨_, rfl⟩
        rw [hY] at hcx HX8 HSH HDR HYS0
        have HY := Lib.hid hY
        obtain ⟨ly, hly⟩ : ∃ l, y.length = l := ⟨_, rfl⟩
        rw [hly] at HYS0 HSTP hsh hy255
        have HLY := Lib.hid hly
        have HYS : Hid (Y.size = ly) := HYS0.out
        obtain ⟨m, hm⟩ : ∃ m, ly - q = m := ⟨_, rfl⟩
        rw [hm] at HSTP
        have hmI : (ly : Int) - (q : Int) = (m : Int) := by omega
        have HLM : Hid ((ly : Int) - (q : Int) = (m : Int)) := hmI
        have HWM : Hid (IntKind.i64.wrap (m : Int) = (m : Int)) := by show _ = _; rw [IntKind.wrap_i64]; omega
        have HU1 : Hid (IntKind.u64.wrap (q : Int) = (q : Int)) := by show _ = _; rw [IntKind.wrap_u64]; omega
        have HU2 : Hid (IntKind.u64.wrap (m : Int) = (m : Int)) := by show _ = _; rw [IntKind.wrap_u64]; omega
        have hm255 : m ≤ 255 := by omega
        have HQ64 : Hid (q < 18446744073709551616) := by show _ < _; omega
        have HM64 : Hid (m < 18446744073709551616) := by show _ < _; omega
        have hvq : (varN q).length ≤ 2 := varN_len 1 _ (by omega)
        have hvm : (varN m).length ≤ 2 := varN_len 1 _ (by omega)
        have HN8 : Hid (n ≤ 140737488340000) := by show _ ≤ _; omega
        have hzl : zs.length = n := HNK.out.symm
        have HN9 : Hid ((zs ++ varN q).length ≤ 100000000) := by show _ ≤ _; rw [List.length_append]; omega
        have HN10 : Hid ((zs ++ varN q).length ≤ 140737488340000) := by show _ ≤ _; rw [List.length_append]; omega
        have HN11 : Hid ((zs ++ varN q ++ varN m).length + m ≤ 100000000) := by show _ ≤ _; rw [List.length_append, List.length_append]; omega
        have HDL : Hid ((y.drop q).length = m) := by show _ = _; rw [List.length_drop, HLY.out]; exact hm
        have HCV := Lib.hid (conv_str (y.drop q) (by rw [HDL.out]; omega))
        rw [HDL.out] at HCV
        have HDR2 := Lib.hid (HDR.out q)
        have HR8 : Hid (Rd (fun _ => True) wr .u8 (some ⟨g, 0, none⟩) n c zs) := (Rd.of_row HNK.out hfk (by omega) HRK.out).mono fun _ _ _ => trivial
        have hkL := hlt
        have hq : q ≤ ly := hsh.2
        clear hY hly hzs hsh hm hmI hvq hvm hc HDR HYS0 hzl HR8
        generalize wr = wa at *
        go_wp2_with fail
        refine (HSH.out _).mono ?_
        rintro e w8 ⟨rfl, d8, hw8⟩
        have HB8 : Hid (Below W.heap.size W w8) := by rw [hw8]; exact below_drewN HBK.out d8
        have HD8 : Hid (Duo w8 R 41 (.slice none 0 0) (.int .i64 0)) := by rw [hw8]; exact HDK.out.drewN d8
        have HZ8 : Hid (R + 1 ≤ w8.heap.size) := by show _ ≤ _; rw [hw8]; exact HZK.out
        have HX8 : Hid (w8.cell? ⟨b, off + k, none⟩ = some (.string Y)) := by show _ = _; rw [hw8]; exact HX8.out
        have HBL : Hid (b < w8.heap.size) := by show _ < _; rw [hw8]; exact HBL.out
        have HR8 : Hid (Rd (fun _ => True) w8 .u8 (some ⟨g, 0, none⟩) n c zs) := (Rd.of_row HNK.out hfk (by omega) (show w8.ownsRow (R + 1) 5 1 (.slice (some ⟨g, 0, none⟩) n c) n (zs.map (Value.int .u8)) by rw [hw8]; exact HRK.out)).mono fun _ _ _ => trivial
        clear hw8 HBK HDK HZK HSH hcx HRK
        go_upto_region 9 with fail
        refine wp_region_fresh (base := w8.heap.size) (us := [none, none, none, some 12, none, none, none, none, none, none, none, none, none, none]) (ws := []) (bs := [true, true, true, false, true, true, true, true, true, true, true, true, false, false]) (fs := [Fact.is (.slice (some ⟨g, 0, none⟩) n c), Fact.is (.int .i64 (q : Int)), Fact.is (.int .u64 (q : Int)), RowF w8.heap.size (zs ++ varN q), Fact.is (.slice (some ⟨b, off, none⟩) len cap), Fact.is (.int .i64 (k : Int)), Fact.is (.pointer (some ⟨b, off + k, none⟩)), Fact.is (.string Y), Fact.is (.int .i64 (ly : Int)), Fact.is (.int .i64 (q : Int)), Fact.is (.int .i64 (m : Int)), Fact.is (.int .u64 (m : Int)), RowF w8.heap.size (zs ++ varN q ++ varN m), RowF w8.heap.size (zs ++ varN q ++ varN m)]) 8 (by kernel_rfl) (by kernel_rfl) (by kernel_rfl) (by kernel_rfl) (Nat.le_refl _) ⟨Fact.is_stable _, Fact.is_stable _, Fact.is_stable _, rowF_stable _ _, Fact.is_stable _, Fact.is_stable _, Fact.is_stable _, Fact.is_stable _, Fact.is_stable _, Fact.is_stable _, Fact.is_stable _, Fact.is_stable _, rowF_stable _ _, rowF_stable _ _, trivial⟩ ⟨(fun _ => Fact.is_firm _ _), (fun _ => Fact.is_firm _ _), (fun _ => Fact.is_firm _ _), (fun h => by cases h), (fun _ => Fact.is_firm _ _), (fun _ => Fact.is_firm _ _), (fun _ => Fact.is_firm _ _), (fun _ => Fact.is_firm _ _), (fun _ => Fact.is_firm _ _), (fun _ => Fact.is_firm _ _), (fun _ => Fact.is_firm _ _), (fun _ => Fact.is_firm _ _), (fun h => by cases h), (fun h => by cases h), trivial⟩ ?_ ?_
        · exact ⟨by
              intro a W hA hB hd hFR
              have hB := Lib.hid hB
              have p0 : a.eval (.tmp 0) = .slice (some ⟨b, off, none⟩) len cap := hA.at 0 (by kernel_rfl)
              have p5 : a.eval (.tmp 5) = .int .i64 (k : Int) := hA.at 5 (by kernel_rfl)
              have p6 : a.eval (.tmp 6) = .int .i64 (q : Int) := hA.at 6 (by kernel_rfl)
              have p3 : a.eval (.tmp 3) = .slice (some ⟨g, 0, none⟩) n c := hFR 13 3 rfl (by kernel_rfl)
              exact step2_of (step_pure (wanted_none rfl) (.slice (some ⟨g, 0, none⟩) n c) (by simp [execOp, go_sem, tm p3]) rfl),
            by
              intro a W hA hB hd hFR
              have hB := Lib.hid hB
              have p0 : a.eval (.tmp 0) = .slice (some ⟨b, off, none⟩) len cap := hA.at 0 (by kernel_rfl)
              have p5 : a.eval (.tmp 5) = .int .i64 (k : Int) := hA.at 5 (by kernel_rfl)
              have p6 : a.eval (.tmp 6) = .int .i64 (q : Int) := hA.at 6 (by kernel_rfl)
              exact step2_of (step_pure (wanted_none rfl) (.int .i64 (q : Int)) (by simp [execOp, go_sem, tm p6]) rfl),
            by
              intro a W hA hB hd hFR
              obtain ⟨q0, -⟩ := hd
              have h28 : a.eval (.tmp 28) = .int .i64 (q : Int) := q0
              have hB := Lib.hid hB
              have p0 : a.eval (.tmp 0) = .slice (some ⟨b, off, none⟩) len cap := hA.at 0 (by kernel_rfl)
              have p5 : a.eval (.tmp 5) = .int .i64 (k : Int) := hA.at 5 (by kernel_rfl)
              have p6 : a.eval (.tmp 6) = .int .i64 (q : Int) := hA.at 6 (by kernel_rfl)
              exact step2_of (step_pure (wanted_none rfl) (.int .u64 (q : Int)) (by simp [execOp, go_sem, tm h28, HU1.out]) rfl),
            by
              intro a W hA hB hd hFR
              obtain ⟨q0, q1, -⟩ := hd
              have h27 : a.eval (.tmp 27) = .slice (some ⟨g, 0, none⟩) n c := q0
              have h29 : a.eval (.tmp 29) = .int .u64 (q : Int) := q1
              have hB := Lib.hid hB
              have p0 : a.eval (.tmp 0) = .slice (some ⟨b, off, none⟩) len cap := hA.at 0 (by kernel_rfl)
              have p5 : a.eval (.tmp 5) = .int .i64 (k : Int) := hA.at 5 (by kernel_rfl)
              have p6 : a.eval (.tmp 6) = .int .i64 (q : Int) := hA.at 6 (by kernel_rfl)
              exact step2_of (step_calls (wanted_none rfl) rfl (vals := #[.slice (some ⟨g, 0, none⟩) n c, .int .u64 (q : Int)]) (by simp [h27, h29]) (enters_of Try.func45 (by kernel_rfl) rfl) (makes_row hB.out.size (varintR_any _ _ _ _ _ q HQ64.out W (HR8.out.below hB.out) HN8.out))),
            by
              intro a W hA hB hd hFR
              have hB := Lib.hid hB
              have p0 : a.eval (.tmp 0) = .slice (some ⟨b, off, none⟩) len cap := hA.at 0 (by kernel_rfl)
              have p5 : a.eval (.tmp 5) = .int .i64 (k : Int) := hA.at 5 (by kernel_rfl)
              have p6 : a.eval (.tmp 6) = .int .i64 (q : Int) := hA.at 6 (by kernel_rfl)
              exact step2_of (step_pure (wanted_none rfl) (.slice (some ⟨b, off, none⟩) len cap) (by simp [execOp, go_sem, tm p0]) rfl),
            by
              intro a W hA hB hd hFR
              have hB := Lib.hid hB
              have p0 : a.eval (.tmp 0) = .slice (some ⟨b, off, none⟩) len cap := hA.at 0 (by kernel_rfl)
              have p5 : a.eval (.tmp 5) = .int .i64 (k : Int) := hA.at 5 (by kernel_rfl)
              have p6 : a.eval (.tmp 6) = .int .i64 (q : Int) := hA.at 6 (by kernel_rfl)
              exact step2_of (step_pure (wanted_none rfl) (.int .i64 (k : Int)) (by simp [execOp, go_sem, tm p5]) rfl),
            by
              intro a W hA hB hd hFR
              obtain ⟨q0, q1, -⟩ := hd
              have h31 : a.eval (.tmp 31) = .slice (some ⟨b, off, none⟩) len cap := q0
              have h32 : a.eval (.tmp 32) = .int .i64 (k : Int) := q1
              have hB := Lib.hid hB
              have p0 : a.eval (.tmp 0) = .slice (some ⟨b, off, none⟩) len cap := hA.at 0 (by kernel_rfl)
              have p5 : a.eval (.tmp 5) = .int .i64 (k : Int) := hA.at 5 (by kernel_rfl)
              have p6 : a.eval (.tmp 6) = .int .i64 (q : Int) := hA.at 6 (by kernel_rfl)
              exact step2_of (step_pure (wanted_none rfl) (.pointer (some ⟨b, off + k, none⟩)) (by simp [execOp, go_sem, tm h31, tm h32, hkL]) rfl),
            by
              intro a W hA hB hd hFR
              obtain ⟨q0, -⟩ := hd
              have h33 : a.eval (.tmp 33) = .pointer (some ⟨b, off + k, none⟩) := q0
              have hB := Lib.hid hB
              have p0 : a.eval (.tmp 0) = .slice (some ⟨b, off, none⟩) len cap := hA.at 0 (by kernel_rfl)
              have p5 : a.eval (.tmp 5) = .int .i64 (k : Int) := hA.at 5 (by kernel_rfl)
              have p6 : a.eval (.tmp 6) = .int .i64 (q : Int) := hA.at 6 (by kernel_rfl)
              have c0 := (hB.out.cell (p := ⟨b, off + k, none⟩) HBL.out).trans HX8.out
              exact step2_of (step_pure (wanted_none rfl) (.string Y) (by simp [execOp, go_sem, tm h33, c0]) rfl),
            by
              intro a W hA hB hd hFR
              obtain ⟨q0, -⟩ := hd
              have h34 : a.eval (.tmp 34) = .string Y := q0
              have hB := Lib.hid hB
              have p0 : a.eval (.tmp 0) = .slice (some ⟨b, off, none⟩) len cap := hA.at 0 (by kernel_rfl)
              have p5 : a.eval (.tmp 5) = .int .i64 (k : Int) := hA.at 5 (by kernel_rfl)
              have p6 : a.eval (.tmp 6) = .int .i64 (q : Int) := hA.at 6 (by kernel_rfl)
              exact step2_of (step_pure (wanted_none rfl) (.int .i64 (ly : Int)) (by simp [go_sem, tm h34, HYS.out]) rfl),
            by
              intro a W hA hB hd hFR
              have hB := Lib.hid hB
              have p0 : a.eval (.tmp 0) = .slice (some ⟨b, off, none⟩) len cap := hA.at 0 (by kernel_rfl)
              have p5 : a.eval (.tmp 5) = .int .i64 (k : Int) := hA.at 5 (by kernel_rfl)
              have p6 : a.eval (.tmp 6) = .int .i64 (q : Int) := hA.at 6 (by kernel_rfl)
              exact step2_of (step_pure (wanted_none rfl) (.int .i64 (q : Int)) (by simp [execOp, go_sem, tm p6]) rfl),
            by
              intro a W hA hB hd hFR
              obtain ⟨q0, q1, -⟩ := hd
              have h35 : a.eval (.tmp 35) = .int .i64 (ly : Int) := q0
              have h36 : a.eval (.tmp 36) = .int .i64 (q : Int) := q1
              have hB := Lib.hid hB
              have p0 : a.eval (.tmp 0) = .slice (some ⟨b, off, none⟩) len cap := hA.at 0 (by kernel_rfl)
              have p5 : a.eval (.tmp 5) = .int .i64 (k : Int) := hA.at 5 (by kernel_rfl)
              have p6 : a.eval (.tmp 6) = .int .i64 (q : Int) := hA.at 6 (by kernel_rfl)
              exact step2_of (step_pure (wanted_none rfl) (.int .i64 (m : Int)) (by simp [execOp, go_sem, tm h35, tm h36, HLM.out, HWM.out]) rfl),
            by
              intro a W hA hB hd hFR
              obtain ⟨q0, -⟩ := hd
              have h37 : a.eval (.tmp 37) = .int .i64 (m : Int) := q0
              have hB := Lib.hid hB
              have p0 : a.eval (.tmp 0) = .slice (some ⟨b, off, none⟩) len cap := hA.at 0 (by kernel_rfl)
              have p5 : a.eval (.tmp 5) = .int .i64 (k : Int) := hA.at 5 (by kernel_rfl)
              have p6 : a.eval (.tmp 6) = .int .i64 (q : Int) := hA.at 6 (by kernel_rfl)
              exact step2_of (step_pure (wanted_none rfl) (.int .u64 (m : Int)) (by simp [execOp, go_sem, tm h37, HU2.out]) rfl),
            by
              intro a W hA hB hd hFR
              obtain ⟨q0, q1, -⟩ := hd
              have h30 : (RowF w8.heap.size (zs ++ varN q)) (a.eval (.tmp 30)) W := q0
              have h38 : a.eval (.tmp 38) = .int .u64 (m : Int) := q1
              have hB := Lib.hid hB
              have p0 : a.eval (.tmp 0) = .slice (some ⟨b, off, none⟩) len cap := hA.at 0 (by kernel_rfl)
              have p5 : a.eval (.tmp 5) = .int .i64 (k : Int) := hA.at 5 (by kernel_rfl)
              have p6 : a.eval (.tmp 6) = .int .i64 (q : Int) := hA.at 6 (by kernel_rfl)
              obtain ⟨gq, cq, e30, r30⟩ := rowF_rd h30 HN9.out
              exact step2_of (step_calls (wanted_none rfl) rfl (vals := #[.slice (some ⟨gq, 0, none⟩) (zs ++ varN q).length cq, .int .u64 (m : Int)]) (by simp [e30, h38]) (enters_of Try.func45 (by kernel_rfl) rfl) (makes_row hB.out.size (varintR_any _ _ _ _ _ m HM64.out W r30 HN10.out))),
            by
              intro a W hA hB hd hFR
              obtain ⟨q0, -⟩ := hd
              have h39 : (RowF w8.heap.size (zs ++ varN q ++ varN m)) (a.eval (.tmp 39)) W := q0
              have hB := Lib.hid hB
              have p0 : a.eval (.tmp 0) = .slice (some ⟨b, off, none⟩) len cap := hA.at 0 (by kernel_rfl)
              have p5 : a.eval (.tmp 5) = .int .i64 (k : Int) := hA.at 5 (by kernel_rfl)
              have p6 : a.eval (.tmp 6) = .int .i64 (q : Int) := hA.at 6 (by kernel_rfl)
              exact step2_of (step_pure (wanted_none rfl) (a.eval (.tmp 39)) (by simp [execOp, go_sem]) h39), trivial⟩
        · intro ax V9 hA hB9 hE
          have f3 : (RowF w8.heap.size (zs ++ varN q ++ varN m)) (ax.eval (.tmp 3)) V9 := hE.2.2.2.2.2.2.2.2.2.2.2.2.2.1
          obtain ⟨g9, c9, e3, hc9, ho9⟩ := f3
          have hp := hA.puts [27, 28, 29, 30, 31, 32, 33, 34, 35, 36, 37, 38, 39, 3] (by kernel_rfl)
          clear hA hE
          simp only [putAll, e3] at hp
          clear e3
          generalize ax.eval = ev at hp
          subst hp
          have HB9 : Hid (Below W.heap.size W V9) := HB8.out.trans (hB9.mono HB8.out.size)
          have HD9 := Lib.hid (HD8.out.below hB9 HD8.out.lt)
          have HZ9 : Hid (R + 1 ≤ V9.heap.size) := Nat.le_trans HZ8.out hB9.size
          have HF9 : Hid (RowF (R + 1) (zs ++ varN q ++ varN m) (.slice (some ⟨g9, 0, none⟩) (zs ++ varN q ++ varN m).length c9) V9) := ⟨g9, c9, rfl, hc9, ho9.mono HZ8.out⟩
          have HX9 : Hid (V9.cell? ⟨b, off + k, none⟩ = some (.string Y)) := (hB9.cell (p := ⟨b, off + k, none⟩) HBL.out).trans HX8.out
          have HTT : Hid (varN len ++ ptP [] (ss.take (k + 1)) = zs ++ varN q ++ varN m ++ strI (y.drop q)) := by
            show _ = _
            rw [HTM.out, ← List.append_assoc, HZS.out, HSTP.out, ← List.append_assoc, ← List.append_assoc]
          obtain ⟨z9, hz9⟩ : ∃ z, zs ++ varN q ++ varN m = z := ⟨_, rfl⟩
          rw [hz9] at HF9 HTT HN11 ⊢
          clear hB9 ho9 hc9 HB8 HD8 HZ8 HX8 HBL HR8 HNK HZS HTM HSTP hz9 HN8 HN9 HN10 HU1 HU2 HLM HWM HQ64 HM64 HST
          simp [Act.put]
          obtain ⟨V2, cap2, kc, hcap2, hcm2, hb10, hsz10, hc10⟩ := HCV.out V9
          have hS : SlRd (strI (y.drop q)) (.slice (some ⟨V9.heap.size, 0, none⟩) (y.drop q).length cap2) V2 := slrd_conv (by rw [HDL.out]; exact hcap2) hcm2 (by rw [HDL.out]; omega) (by rw [hsz10]; exact Nat.lt_succ_self _) (fun j hj => hc10 j (by rw [← HDL.out]; exact hj))
          rw [HDL.out] at hS
          obtain ⟨g', n', c', e', hRS⟩ := hS
          cases e'
          obtain ⟨v', w10, hrun, hF10, hbA⟩ := rowF_append (rowF_stable _ _ _ _ _ HF9.out hb10) hRS (Nat.le_trans HZ9.out hb10.size) HN11.out
          obtain ⟨g10, c10, rfl, hfit10, ho10⟩ := hF10
          have HRUN := Lib.hid hrun
          have HB10 : Hid (Below W.heap.size W w10) := (HB9.out.trans (hb10.mono HB9.out.size)).trans (hbA.mono (Nat.le_trans HRE.out (Nat.le_succ R)))
          have HD10 : Hid (Duo w10 R 41 (.slice none 0 0) (.int .i64 0)) := (HD9.out.below hb10 HD9.out.lt).below hbA (Nat.lt_succ_self R)
          have HZ10 : Hid (R + 1 ≤ w10.heap.size) := Nat.le_trans (Nat.le_trans HZ9.out hb10.size) hbA.size
          have x9 := HX9.out
          have hlt9 : b < V9.heap.size := Nat.lt_of_lt_of_le hblt HB9.out.size
          have x10 : w10.cell? ⟨b, off + k, none⟩ = some (.string Y) := (hbA.cell (p := ⟨b, off + k, none⟩) (show b < R + 1 by have := HRE.out; omega)).trans ((hb10.cell (p := ⟨b, off + k, none⟩) hlt9).trans x9)
          have hdr := HDR2.out
          have hqY : q ≤ Y.size := by rw [HYS.out]; exact hq
          have HKC := Lib.hid kc
          have kc' := kc
          rw [← hdr] at kc'
          obtain ⟨l10, hl10⟩ : ∃ l, (z9 ++ strI (y.drop q)).length = l := ⟨_, rfl⟩
          have HLL10 : Hid (l10 = (varN len ++ ptP [] (ss.take (k + 1))).length) := by show _ = _; rw [HTT.out, hl10]
          rw [hl10] at hfit10 HRUN ho10
          rw [← HTT.out] at ho10
          have HO10 := Lib.hid ho10
          clear hrun hbA hb10 hRS hc10 hcap2 hcm2 hsz10 ho10 hl10 HF9 HTT HB9 HD9 HZ9 HX9 HCV kc hdr
          go_wp2_with (refine Lib.wpList_append_run _ rfl _ _ _ _ rfl _ _ rfl rfl _ _ HRUN.out ?_)
          go_roundw
          case rel => exact ⟨k + 1, l10, g10, c10, by omega, by go_num, by rw [HNX.out, HY.out], rfl, HLL10, hfit10, HO10, HB10, HD10, HZ10⟩
          case measure => simp [intOf]; omega
      · obtain rfl : k = len := by omega
        have HTK : Hid (ss.take k = ss) := List.take_of_length_le (by rw [← HL.out]; exact Nat.le_refl _)
        rw [HTK.out] at HNK HRK
        have p0 := HDK.out.c0
        have p1 := HDK.out.c1
        have f0 := HDK.out.f 0
        have f1 := HDK.out.f 1
        have hnb : n ≤ 1060900 := by have := HPL.out k; rw [HTK.out, ← HNK.out] at this; exact this
        have HPK : Hid (varN k ++ ptP [] ss = pkL ss) := by show _ = _; unfold pkL pkD; rw [if_pos HV.out, ← HL.out]
        have HRR : Hid (Rd (fun i => R + 1 ≤ i) wr .u8 (some ⟨g, 0, none⟩) n c (pkL ss)) := by rw [← HPK.out]; exact Rd.of_row HNK.out hfk (by omega) HRK.out
        go_wp2
        refine bodyPost_ret (v := .agg #[.slice (some ⟨g, 0, none⟩) n c, .int .i64 0]) (by simp [results, Try.results19, go_sem, p0, p1]) rfl ⟨_, n, c, by unfold pkE; rw [if_pos HV.out], ?_, below_two HBK.out HRE.out _ _⟩
        exact ((HRR.out.set5 ⟨R, 0, none⟩ _ (fun h => by have h : R + 1 ≤ R := h; omega)).set5 ⟨R, 1, none⟩ _ (fun h => by have h : R + 1 ≤ R := h; omega)).mono fun _ _ _ => trivial

end Go.Proofs.Ytdcapmbgnoahpaa
