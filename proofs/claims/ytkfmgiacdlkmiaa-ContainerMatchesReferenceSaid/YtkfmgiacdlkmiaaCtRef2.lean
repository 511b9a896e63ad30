/-
  The reference's sealed forms.
-/
import Derived.Test.YtkfmgiacdlkmiaaCtRef1
import Derived.Test.YtkfmgiacdlkmiaaCtmE
import Derived.Test.YtkfmgiacdlkmiaaCtmA
namespace Go.Proofs.Ytkfmgiacdlkmiaa
open Go Go.RowKit Go.Shelf Go.ChangeShapes Go.WideShapes Go.ChangeAt

theorem field_pk (a : Option Addr) (n c : Nat) (w : World) : (Instr.field 63 (.agg #[.slice a n c, .int .i64 0]) 0).run Try.prog w = .ok (.slice a n c) w := by kernel_rfl
def PkF9 (zs : List Int) : Fact := fun v W => ∃ g n c : Nat, v = .agg #[.slice (some ⟨g, 0, none⟩) n c, .int .i64 0] ∧ Rd (fun _ => True) W .u8 (some ⟨g, 0, none⟩) n c zs
theorem pkF9_stable (zs : List Int) : (PkF9 zs).Stable := fun _ _ _ ⟨g, n, c, e, r⟩ hb => ⟨g, n, c, e, r.below hb⟩
def BytF (zs : List Int) : Fact := fun v W => ∃ g n c : Nat, v = .slice (some ⟨g, 0, none⟩) n c ∧ Rd (fun _ => True) W .u8 (some ⟨g, 0, none⟩) n c zs
theorem bytF_stable (zs : List Int) : (BytF zs).Stable := fun _ _ _ ⟨g, n, c, e, r⟩ hb => ⟨g, n, c, e, r.below hb⟩
theorem packF9 {f : FuncId} {args : Array Value} {W : World} {zs : List Int} (h : Calls Try.prog f args W (PackedPost W zs)) : Calls Try.prog f args W fun e w' => ∃ v, e = .returned v ∧ PkF9 zs v w' ∧ Below W.heap.size W w' :=
  h.mono fun _ _ ⟨g, c, e1, h1, h2⟩ => ⟨_, e1, ⟨g, _, c, rfl, h1.mono fun _ _ _ => trivial⟩, h2⟩
theorem rowF_new4 {base : Nat} (W : World) (k : Int) (hb : base ≤ W.heap.size) : RowF base (letS ++ [k]) (.slice (some ⟨W.heap.size, 0, none⟩) 4 4) (W.alloc (.cells #[.int .u8 67, .int .u8 72, .int .u8 77, .int .u8 k] 5)) :=
  ⟨W.heap.size, 4, rfl, Nat.le_refl _, own_new W 5 .u8 (letS ++ [k]) 4 base rfl (by decide) hb⟩

set_option maxRecDepth 100000 in
set_option maxHeartbeats 4000000 in
theorem formR9_any {K1 K2 : Nat → Prop} {k : Int} {a1 a2 : Option Addr} {n1 c1 n2 c2 : Nat} {id data : List Int} {W : World} (h1 : Rd K1 W .i64 a1 n1 c1 id) (h2 : Rd K2 W .u8 a2 n2 c2 data) (hz : Smalls id) (ho : Oct data) (hk : 1 ≤ k ∧ k ≤ 9) (hn1 : n1 ≤ 40) (hn2 : n2 ≤ 65536) :
    Calls Try.prog 18 #[.agg #[.int .i64 k, .slice a1 n1 c1, .slice a2 n2 c2]] W fun e V => Makes W e V (sealS k id data) := by
  have hb0 : Below W.heap.size W (W.alloc (.cells #[.int .i64 k, .slice a1 n1 c1, .slice a2 n2 c2] 25)) := (Below.refl _ _).alloc (Nat.le_refl _) _
  have HF0 := Lib.hid (FileB.new W k (.slice a1 n1 c1) (.slice a2 n2 c2))
  have HI0 := Lib.hid (h1.below hb0)
  have HD0 := Lib.hid (h2.below hb0)
  have HB0 := Lib.hid hb0
  have HZ := Lib.hid hz
  have HO := Lib.hid ho
  have HK := Lib.hid hk
  have HN1 : Hid (n1 ≤ 4096) := by show _ ≤ _; omega
  have HL2 := Lib.hid h2.hl
  have HN2 := Lib.hid hn2
  have HKW : Hid (IntKind.u8.wrap k = k) := by show _ = _; rw [IntKind.wrap_u8]; omega
  have HPL : Hid ((packS id).length ≤ 60000) := by have := pack_len id hz (by rw [← h1.hl]; omega); have := h1.hl; show _ ≤ _; omega
  clear h1 h2 hz ho hk hn1 hn2 hb0
  go_enter Try.func18, Try.ntmps18
  go_upto_region 1 with fail
  generalize W.alloc (.cells #[.int .i64 k, .slice a1 n1 c1, .slice a2 n2 c2] 25) = V0 at *
  generalize W.heap.size = F at HF0 ⊢
  refine wp_region_writes (base := V0.heap.size) (us := [none, none, none, some 8, none, none, some 7, some 8, none, none]) (ws := [8]) (bs := [true, true, true, false, true, true, false, false, false, false]) (fs := [Fact.is (.pointer (some ⟨F, 0, none⟩)), Fact.is (.int .i64 k), Fact.is (.int .u8 k), RowF V0.heap.size (letS ++ [k]), Fact.is (.pointer (some ⟨F, 1, none⟩)), Fact.is (.slice a1 n1 c1), PkF9 (packS id), BytF (packS id), RowF V0.heap.size (letS ++ [k] ++ packS id), RowF V0.heap.size (letS ++ [k] ++ packS id)]) 8 (by kernel_rfl) (by kernel_rfl) (by kernel_rfl) (by kernel_rfl) (Nat.le_refl _) ⟨Fact.is_stable _, Fact.is_stable _, Fact.is_stable _, rowF_stable _ _, Fact.is_stable _, Fact.is_stable _, pkF9_stable _, bytF_stable _, rowF_stable _ _, rowF_stable _ _, trivial⟩ ⟨(fun _ => Fact.is_firm _ _), (fun _ => Fact.is_firm _ _), (fun _ => Fact.is_firm _ _), (fun h => by cases h), (fun _ => Fact.is_firm _ _), (fun _ => Fact.is_firm _ _), (fun h => by cases h), (fun h => by cases h), (fun h => by cases h), (fun h => by cases h), trivial⟩ ?_ ?_
  · exact ⟨by
        intro a W hA hB hd
        have hB := Lib.hid hB
        have p1 : a.eval (.tmp 1) = .pointer (some ⟨F, 0, none⟩) := hA.at 1 (by kernel_rfl)
        exact step2_of (step_pure (wanted_none rfl) (.pointer (some ⟨F, 0, none⟩)) (by simp [execOp, go_sem, tm p1]) rfl),
      by
        intro a W hA hB hd
        obtain ⟨q0, -⟩ := hd
        have h4 : a.eval (.tmp 4) = .pointer (some ⟨F, 0, none⟩) := q0
        have hB := Lib.hid hB
        have c0 := (HF0.out.below hB.out HF0.out.lt).c0
        exact step2_of (step_pure (wanted_none rfl) (.int .i64 k) (by simp [execOp, go_sem, tm h4, c0]) rfl),
      by
        intro a W hA hB hd
        obtain ⟨q0, -⟩ := hd
        have h5 : a.eval (.tmp 5) = .int .i64 k := q0
        have hB := Lib.hid hB
        exact step2_of (step_pure (wanted_none rfl) (.int .u8 k) (by simp [execOp, go_sem, tm h5, HKW.out]) rfl),
      by
        intro a W hA hB hd
        obtain ⟨q0, -⟩ := hd
        have h6 : a.eval (.tmp 6) = .int .u8 k := q0
        have hB := Lib.hid hB
        exact step2_of (step_lays (wanted_none rfl) (.slice (some ⟨W.heap.size, 0, none⟩) 4 4) (W.alloc (.cells #[.int .u8 67, .int .u8 72, .int .u8 77, .int .u8 k] 5)) (by simp [execOp, go_sem, tm h6]) ((Below.refl _ W).alloc (Nat.le_refl _) _) (rowF_new4 W k hB.out.size)),
      by
        intro a W hA hB hd
        have hB := Lib.hid hB
        have p1 : a.eval (.tmp 1) = .pointer (some ⟨F, 0, none⟩) := hA.at 1 (by kernel_rfl)
        exact step2_of (step_pure (wanted_none rfl) (.pointer (some ⟨F, 1, none⟩)) (by simp [execOp, go_sem, tm p1]) rfl),
      by
        intro a W hA hB hd
        obtain ⟨q0, -⟩ := hd
        have h8 : a.eval (.tmp 8) = .pointer (some ⟨F, 1, none⟩) := q0
        have hB := Lib.hid hB
        have c0 := (HF0.out.below hB.out HF0.out.lt).c1
        exact step2_of (step_pure (wanted_none rfl) (.slice a1 n1 c1) (by simp [execOp, go_sem, tm h8, c0]) rfl),
      by
        intro a W hA hB hd
        obtain ⟨q0, -⟩ := hd
        have h9 : a.eval (.tmp 9) = .slice a1 n1 c1 := q0
        have hB := Lib.hid hB
        exact step2_of (step_calls (wanted_none rfl) rfl (vals := #[.slice a1 n1 c1]) (by simp [h9]) (enters_of Try.func32 (by kernel_rfl) rfl) (packF9 (packR_any HZ.out HN1.out (HI0.out.below hB.out)))),
      by
        intro a W hA hB hd
        obtain ⟨q0, -⟩ := hd
        have h10 : (PkF9 (packS id)) (a.eval (.tmp 10)) W := q0
        have hB := Lib.hid hB
        obtain ⟨g0, n0, c0, e10, r10⟩ := h10
        exact step2_of (step_pure (wanted_none rfl) (.slice (some ⟨g0, 0, none⟩) n0 c0) (by simp [execOp, go_sem, tm e10, field_pk]) ⟨g0, n0, c0, rfl, r10⟩),
      by
        intro a W hA hB hd
        obtain ⟨q0, q1, q2, -⟩ := hd
        have h7 : (RowF V0.heap.size (letS ++ [k])) (a.eval (.tmp 7)) W := q0
        have h11 : (BytF (packS id)) (a.eval (.tmp 11)) W := q1
        have hB := Lib.hid hB
        obtain ⟨g0, n0, c0, e11, r11⟩ := h11
        obtain ⟨v', w', hr, g1, g2⟩ := rowF_append h7 r11 hB.out.size (by rw [r11.hl]; have := HPL.out; simp [letS]; omega)
        exact step2_append (wanted_none rfl) (.tmp 7) (.tmp 11) 23 23 rfl rfl e11 hr g2 g1,
      by
        intro a W hA hB hd
        obtain ⟨q0, q1, -⟩ := hd
        have h12 : (RowF V0.heap.size (letS ++ [k] ++ packS id)) (a.eval (.tmp 12)) W := q0
        have hB := Lib.hid hB
        exact step2_of (step_pure (wanted_none rfl) (a.eval (.tmp 12)) (by simp [execOp, go_sem]) h12), trivial⟩
  · intro ax V1 hA hB hE
    have f3 : (RowF V0.heap.size (letS ++ [k] ++ packS id)) (ax.eval (.tmp 3)) V1 := hE.2.2.2.2.2.2.2.2.2.1
    obtain ⟨g3, c3, e3, hc3, ho3⟩ := f3
    have hp := hA.puts [4, 5, 6, 7, 8, 9, 10, 11, 12, 3] (by kernel_rfl)
    clear hA hE
    simp only [putAll, e3] at hp
    clear e3
    generalize ax.eval = ev at hp
    subst hp
    have HF1 := Lib.hid (HF0.out.below hB HF0.out.lt)
    have HD1 := Lib.hid (HD0.out.below hB)
    have HB1 : Hid (Below W.heap.size W V1) := HB0.out.trans (hB.mono HB0.out.size)
    have hyl : (letS ++ [k] ++ packS id).length ≤ 60004 := by have := HPL.out; simp [letS]; omega
    have HYO : Hid (Oct (letS ++ [k] ++ packS id)) := ((show Oct (letS ++ [k]) from fun x hx => by have := HK.out; simp [letS] at hx; omega).append (packS_oct9 id))
    have HSA : Hid (letS ++ [k] ++ packS id ++ varN n2 ++ data = sealA k id data) := by show _ = _; unfold sealA; rw [HL2.out]; simp
    obtain ⟨ys, hys⟩ : ∃ ys, letS ++ [k] ++ packS id = ys := ⟨_, rfl⟩
    rw [hys] at hc3 ho3 hyl HYO HSA ⊢
    clear hys HF0 HD0 HB0 HI0 HPL
    have hvl := var_len (u := n2) (by have := HN2.out; omega)
    have HR3 := Lib.hid ((Rd.of_row rfl hc3 (by omega) ho3).mono (K' := fun _ => True) fun _ _ _ => trivial)
    obtain ⟨m3, hm3⟩ : ∃ m, ys.length = m := ⟨_, rfl⟩
    have HM4 : Hid ((ys ++ varN n2).length + n2 ≤ 100000000) := by have := HN2.out; show _ ≤ _; rw [List.length_append]; omega
    rw [hm3] at HR3 ⊢
    have HM3 : Hid (m3 ≤ 140737488340000) := by show _ ≤ _; omega
    have HN64 : Hid (n2 < 18446744073709551616) := by have := HN2.out; show _ < _; omega
    have HNW : Hid (IntKind.u64.wrap (n2 : Int) = n2) := by have := HN2.out; show _ = _; rw [IntKind.wrap_u64]; omega
    have HYL : Hid (ys.length ≤ 60004 ∧ (varN n2).length ≤ 10) := ⟨hyl, hvl⟩
    clear hc3 ho3 hm3 hyl hvl hB
    simp only [Act.put, List.setIfInBounds_toArray, List.set_cons_succ, List.set_cons_zero]
    go_upto_region 2 with fail
    refine wp_region_fresh (base := V1.heap.size) (us := [none, none, none, none, none, some 8, none, none, none, none]) (ws := [8]) (bs := [true, true, true, true, true, false, true, true, false, false]) (fs := [Fact.is (.slice (some ⟨g3, 0, none⟩) m3 c3), Fact.is (.pointer (some ⟨F, 2, none⟩)), Fact.is (.slice a2 n2 c2), Fact.is (.int .i64 (n2 : Int)), Fact.is (.int .u64 (n2 : Int)), RowF V1.heap.size (ys ++ varN n2), Fact.is (.pointer (some ⟨F, 2, none⟩)), Fact.is (.slice a2 n2 c2), RowF V1.heap.size (ys ++ varN n2 ++ data), RowF V1.heap.size (ys ++ varN n2 ++ data)]) 8 (by kernel_rfl) (by kernel_rfl) (by kernel_rfl) (by kernel_rfl) (Nat.le_refl _) ⟨Fact.is_stable _, Fact.is_stable _, Fact.is_stable _, Fact.is_stable _, Fact.is_stable _, rowF_stable _ _, Fact.is_stable _, Fact.is_stable _, rowF_stable _ _, rowF_stable _ _, trivial⟩ ⟨(fun _ => Fact.is_firm _ _), (fun _ => Fact.is_firm _ _), (fun _ => Fact.is_firm _ _), (fun _ => Fact.is_firm _ _), (fun _ => Fact.is_firm _ _), (fun h => by cases h), (fun _ => Fact.is_firm _ _), (fun _ => Fact.is_firm _ _), (fun h => by cases h), (fun h => by cases h), trivial⟩ ?_ ?_
    · exact ⟨by
          intro a W hA hB hd hFR
          have hB := Lib.hid hB
          have p3 : a.eval (.tmp 3) = .slice (some ⟨g3, 0, none⟩) m3 c3 := hFR 9 3 rfl (by kernel_rfl)
          exact step2_of (step_pure (wanted_none rfl) (.slice (some ⟨g3, 0, none⟩) m3 c3) (by simp [execOp, go_sem, tm p3]) rfl),
        by
          intro a W hA hB hd hFR
          have hB := Lib.hid hB
          have p1 : a.eval (.tmp 1) = .pointer (some ⟨F, 0, none⟩) := hA.at 1 (by kernel_rfl)
          exact step2_of (step_pure (wanted_none rfl) (.pointer (some ⟨F, 2, none⟩)) (by simp [execOp, go_sem, tm p1]) rfl),
        by
          intro a W hA hB hd hFR
          obtain ⟨q0, -⟩ := hd
          have h14 : a.eval (.tmp 14) = .pointer (some ⟨F, 2, none⟩) := q0
          have hB := Lib.hid hB
          have c0 := (HF1.out.below hB.out HF1.out.lt).c2
          exact step2_of (step_pure (wanted_none rfl) (.slice a2 n2 c2) (by simp [execOp, go_sem, tm h14, c0]) rfl),
        by
          intro a W hA hB hd hFR
          obtain ⟨q0, -⟩ := hd
          have h15 : a.eval (.tmp 15) = .slice a2 n2 c2 := q0
          have hB := Lib.hid hB
          exact step2_of (step_pure (wanted_none rfl) (.int .i64 (n2 : Int)) (by simp [go_sem, tm h15]) rfl),
        by
          intro a W hA hB hd hFR
          obtain ⟨q0, -⟩ := hd
          have h16 : a.eval (.tmp 16) = .int .i64 (n2 : Int) := q0
          have hB := Lib.hid hB
          exact step2_of (step_pure (wanted_none rfl) (.int .u64 (n2 : Int)) (by simp [execOp, go_sem, tm h16, HNW.out]) rfl),
        by
          intro a W hA hB hd hFR
          obtain ⟨q0, q1, -⟩ := hd
          have h13 : a.eval (.tmp 13) = .slice (some ⟨g3, 0, none⟩) m3 c3 := q0
          have h17 : a.eval (.tmp 17) = .int .u64 (n2 : Int) := q1
          have hB := Lib.hid hB
          exact step2_of (step_calls (wanted_none rfl) rfl (vals := #[.slice (some ⟨g3, 0, none⟩) m3 c3, .int .u64 (n2 : Int)]) (by simp [h13, h17]) (enters_of Try.func33 (by kernel_rfl) rfl) (makes_row hB.out.size (varintR_any _ _ _ _ _ n2 HN64.out W (HR3.out.below hB.out) HM3.out))),
        by
          intro a W hA hB hd hFR
          have hB := Lib.hid hB
          have p1 : a.eval (.tmp 1) = .pointer (some ⟨F, 0, none⟩) := hA.at 1 (by kernel_rfl)
          exact step2_of (step_pure (wanted_none rfl) (.pointer (some ⟨F, 2, none⟩)) (by simp [execOp, go_sem, tm p1]) rfl),
        by
          intro a W hA hB hd hFR
          obtain ⟨q0, -⟩ := hd
          have h19 : a.eval (.tmp 19) = .pointer (some ⟨F, 2, none⟩) := q0
          have hB := Lib.hid hB
          have c0 := (HF1.out.below hB.out HF1.out.lt).c2
          exact step2_of (step_pure (wanted_none rfl) (.slice a2 n2 c2) (by simp [execOp, go_sem, tm h19, c0]) rfl),
        by
          intro a W hA hB hd hFR
          obtain ⟨q0, q1, q2, -⟩ := hd
          have h18 : (RowF V1.heap.size (ys ++ varN n2)) (a.eval (.tmp 18)) W := q0
          have h20 : a.eval (.tmp 20) = .slice a2 n2 c2 := q1
          have hB := Lib.hid hB
          obtain ⟨v', w', hr, g1, g2⟩ := rowF_append h18 (HD1.out.below hB.out) hB.out.size HM4.out
          exact step2_append (wanted_none rfl) (.tmp 18) (.tmp 20) 23 23 rfl rfl h20 hr g2 g1,
        by
          intro a W hA hB hd hFR
          obtain ⟨q0, q1, -⟩ := hd
          have h21 : (RowF V1.heap.size (ys ++ varN n2 ++ data)) (a.eval (.tmp 21)) W := q0
          have hB := Lib.hid hB
          exact step2_of (step_pure (wanted_none rfl) (a.eval (.tmp 21)) (by simp [execOp, go_sem]) h21), trivial⟩
    · intro ax V2 hA hB hE
      have f3 : (RowF V1.heap.size (ys ++ varN n2 ++ data)) (ax.eval (.tmp 3)) V2 := hE.2.2.2.2.2.2.2.2.2.1
      obtain ⟨g4, c4, e3, hc4, ho4⟩ := f3
      have hp := hA.puts [13, 14, 15, 16, 17, 18, 19, 20, 21, 3] (by kernel_rfl)
      clear hA hE
      simp only [putAll, e3] at hp
      clear e3
      generalize ax.eval = ev2 at hp
      subst hp
      have HB2 : Hid (Below W.heap.size W V2) := HB1.out.trans (hB.mono HB1.out.size)
      have HZ1 : Hid (W.heap.size ≤ V1.heap.size) := HB1.out.size
      rw [HSA.out] at hc4 ho4 ⊢
      have hal : (sealA k id data).length ≤ 200000 := by rw [← HSA.out, List.length_append, List.length_append]; have := HYL.out; have := HL2.out; have := HN2.out; omega
      have HAO : Hid (Oct (sealA k id data)) := by rw [← HSA.out]; exact (HYO.out.append (var_oct _)).append HO.out
      have HSS : Hid (sealA k id data ++ sum8 (Dg.bytesD (sealA k id data)) = sealS k id data) := rfl
      have HF4 : Hid (RowF V1.heap.size (sealA k id data) (.slice (some ⟨g4, 0, none⟩) (sealA k id data).length c4) V2) := ⟨g4, c4, rfl, hc4, ho4⟩
      have HR4 := Lib.hid (Rd.of_row rfl hc4 (by omega) ho4)
      clear HSA HYO HYL HR3 HF1 HD1 hc4 ho4
      generalize sealA k id data = zs at *
      have HM5 : Hid (zs.length + 8 ≤ 100000000) := by show _ ≤ _; omega
      have HC := Lib.hid (checkR_any HR4.out HAO.out)
      have hs8 : (sum8 (Dg.bytesD zs)).length = 8 := sum8_len _
      generalize sum8 (Dg.bytesD zs) = s8 at *
      have HZB : Hid (V1.heap.size ≤ V2.heap.size) := hB.size
      simp only [Act.put, List.setIfInBounds_toArray, List.set_cons_succ, List.set_cons_zero]
      obtain ⟨m4, hm4⟩ : ∃ m, zs.length = m := ⟨_, rfl⟩
      have HM6 := Lib.hid hm4
      rw [hm4] at HC HF4 HR4 ⊢
      clear hal hm4 hB
      go_wp2_with fail
      refine HC.out.mono ?_
      rintro e V3 ⟨g5, c5, rfl, hc5, hrow5, hb5⟩
      rw [hs8] at hc5 hrow5 ⊢
      have HR5 := Rd.of_row hs8.symm hc5 (by decide) hrow5
      obtain ⟨v', w', hr, hF, hb6⟩ := rowF_append (rowF_stable _ _ _ _ _ (show RowF V1.heap.size zs (.slice (some ⟨g4, 0, none⟩) m4 c4) V2 from HF4.out) hb5) HR5 (Nat.le_trans HZB.out hb5.size) (by have := HM5.out; omega)
      rw [HSS.out] at hF
      obtain ⟨g6, c6, rfl, hc6, hrow6⟩ := hF
      have HRUN := Lib.hid hr
      have HC6 := Lib.hid hc6
      have HROW6 : Hid (w'.ownsRow W.heap.size 5 1 (.slice (some ⟨g6, 0, none⟩) (sealS k id data).length c6) (sealS k id data).length ((sealS k id data).map (Value.int .u8))) := hrow6.mono HZ1.out
      have HB6 : Hid (Below W.heap.size W w') := (HB2.out.trans (hb5.mono HB2.out.size)).trans (hb6.mono HZ1.out)
      clear hr hc6 hrow6 hb6 HR5 hc5 hrow5 hb5
      go_wp2_with (at_builtin; refine wpList_append_want (o := ⟨some 25, _, _, _, _, _⟩) _ rfl _ _ _ _ rfl _ _ rfl rfl _ _ HRUN.out ?_)
      go_ret
      exact ⟨g6, c6, rfl, HC6.out, HROW6.out, HB6.out⟩

end Go.Proofs.Ytkfmgiacdlkmiaa
