/-
  The codes: for all numbers, the law returns true and changes nothing. No condition.
-/
import Derived.Test.YtdgihmekljeocaaRows
import Derived.Test.YtdgihmekljeocaaPkEx2
import Derived.Test.YtdgihmekljeocaaPkCdMath
import Derived.OpenShut
namespace Go.Proofs.Ytdgihmekljeocaa.bitpackCodes
open Go.ChangeShapes Go.WideShapes Go.ChangeAt Go.RowKit
open Go.Proofs.Ytdgihmekljeocaa

theorem width_any (u : Nat) (hu : u < 18446744073709551616) (w : World) : Calls Try.prog 26 #[.int .u64 u] w fun e w' => e = .returned (.int .i64 (widthN u)) ∧ w = w' := by
  go_enter Try.func26, Try.ntmps26
  go_wp2
  go_loop [0, 3] (fun q c => ∃ (v k : Nat), q = .int .u64 v ∧ c = .int .i64 k ∧ v < 18446744073709551616 ∧ k ≤ 64 ∧ v < 2 ^ (64 - k) ∧ Hid (k + widthN v = widthN u)) (fun q _ => (intOf q).toNat)
  case atStart => exact ⟨u, 0, rfl, rfl, hu, by omega, hu, by show _ = _; omega⟩
  case round =>
    obtain ⟨v, k, rfl, rfl, hv, hk, hv2, HV⟩ := hrel
    by_cases h0 : v = 0
    · subst h0
      have HW : Hid (k = widthN u) := by have := HV.out; rw [widthN_zero] at this; show _ = _; omega
      clear hv2
      go_wp2
      go_ret
      exact ⟨ret_int (by rw [← HW.out]), rfl⟩
    · have hpos : 0 < v := by omega
      have HW : Hid (k + 1 + widthN (v / 2) = widthN u) := by have := HV.out; rw [widthN_pos h0] at this; show _ = _; omega
      have hk2 : k < 64 := by
        rcases Nat.lt_or_ge k 64 with h | h
        · exact h
        · rw [show 64 - k = 0 by omega] at hv2; omega
      have HV2 : Hid (v / 2 < 2 ^ (64 - (k + 1))) := by
        show _ < _
        rw [show 64 - k = 64 - (k + 1) + 1 by omega, Nat.pow_succ] at hv2
        omega
      clear hv2 h0
      go_wp2
      go_round
      case rel => exact ⟨v / 2, k + 1, by go_num, by go_num, by omega, by omega, HV2.out, HW⟩
      case measure => simp [intOf]; omega

set_option maxRecDepth 100000 in
set_option maxHeartbeats 4000000 in
theorem walk (u : Nat) (hu : u < 18446744073709551616) (n m : Int) (hn : I64 n) (hm : I64 m) (w : World) :
    Calls Try.prog 6 #[.int .u64 u, .int .i64 n, .int .i64 m] w fun e w' => e = .returned (.bool true) ∧ Below w.heap.size w w' := by
  obtain ⟨i0, hi, hz0, hz1, hz2⟩ := info_parts Try.infoB
  have hU : U64 (u : Int) := ⟨by omega, by omega⟩
  have Z1 := Lib.hid (zz_uz hU)
  have Z2 := Lib.hid (uz_zz n)
  have hzn := zz_u64 hn
  have hzm := zz_u64 hm
  have hun := uz_i64 hU
  have HEQ : Hid ((zz n == zz m) = (n == m)) := by
    show _ = _
    by_cases h : n = m
    · subst h; simp
    · rw [beq_eq_false_iff_ne.2 h, beq_eq_false_iff_ne.2 fun e => h (zz_inj e)]
  go_enter Try.func6, Try.ntmps6
  go_wp2_with fail
  refine (examples_any _).mono ?_
  rintro e w1 ⟨rfl, hb1⟩
  have HB1 := Lib.hid hb1
  clear hb1
  go_wp2_with fail
  refine (unzigzag_any u hU _).mono ?_
  rintro e w' ⟨rfl, rfl⟩
  go_wp2_with fail
  refine (zigzag_any _ hun _).mono ?_
  rintro e w' ⟨rfl, rfl⟩
  rw [Z1.out]
  go_wp2_with fail
  refine (zigzag_any n hn _).mono ?_
  rintro e w' ⟨rfl, rfl⟩
  go_wp2_with fail
  refine (unzigzag_any _ hzn _).mono ?_
  rintro e w' ⟨rfl, rfl⟩
  rw [Z2.out]
  go_wp2_with fail
  refine (zigzag_any n hn _).mono ?_
  rintro e w' ⟨rfl, rfl⟩
  go_wp2_with fail
  refine (zigzag_any m hm _).mono ?_
  rintro e w' ⟨rfl, rfl⟩
  have heq := HEQ.out
  have hvl := var_len hu
  have hvp := var_pos u
  have hvw := var_width (u + 1) u (by omega)
  obtain ⟨l, hll⟩ : ∃ l, (varN u).length = l := ⟨_, rfl⟩
  obtain ⟨x, hxx⟩ : ∃ x, (widthN u + 6) / 7 = x := ⟨_, rfl⟩
  rw [hll] at hvl hvp hvw
  rw [hxx] at hvw
  have hwb : widthN u ≤ 64 := widthN_le 64 u hu
  have hxi : (((widthN u : Nat) : Int) + 6) / 7 = (x : Int) := by omega
  have HLL := Lib.hid hll
  clear hll hxx
  by_cases hA : 0 ≤ n ∧ 0 ≤ m ∧ n < m
  · obtain ⟨h1, h2, h3⟩ := hA
    have hnn : I64 (-n) := by unfold I64 at *; omega
    have hmm : I64 (-m) := by unfold I64 at *; omega
    have hwn : wrap64 (-n) = -n := by unfold I64 at hn; unfold wrap64; omega
    have hwm : wrap64 (-m) = -m := by unfold I64 at hm; unfold wrap64; omega
    have q1 : ¬ zz m ≤ zz n := by unfold zz; rw [if_pos h1, if_pos h2]; omega
    have q2 : ¬ zz m ≤ zz (-n) := by unfold zz; rw [if_pos h2]; split <;> omega
    have q3 : ¬ zz (-m) ≤ zz n := by unfold zz; rw [if_pos h1, if_neg (by omega)]; omega
    go_wp2_with fail
    refine (zigzag_any n hn _).mono ?_
    rintro e w' ⟨rfl, rfl⟩
    go_wp2_with fail
    refine (zigzag_any m hm _).mono ?_
    rintro e w' ⟨rfl, rfl⟩
    go_wp2_with fail
    refine (zigzag_any (-n) hnn _).mono ?_
    rintro e w' ⟨rfl, rfl⟩
    go_wp2_with fail
    refine (zigzag_any m hm _).mono ?_
    rintro e w' ⟨rfl, rfl⟩
    go_wp2_with fail
    refine (zigzag_any n hn _).mono ?_
    rintro e w' ⟨rfl, rfl⟩
    go_wp2_with fail
    refine (zigzag_any (-m) hmm _).mono ?_
    rintro e w' ⟨rfl, rfl⟩
    go_wp2_with fail
    refine (varint_any (fun b => w1.heap.size ≤ b) _ 2 2 [1, 2] u hu _ (Rd.new w1 .u8 5 [1, 2] 2 rfl (by decide)) (by decide)).mono ?_
    rintro e w2 ⟨g2, c2, rfl, hf2, hr2, hb2⟩
    have HB2 : Hid (Below w.heap.size w w2) := (HB1.out.alloc HB1.out.size _).trans (hb2.mono (by have := HB1.out.size; simp; omega))
    have hL : ([1, 2] ++ varN u).length = l + 2 := by rw [List.length_append, HLL.out]; exact Nat.add_comm _ _
    have k0 : w2.cell? ⟨g2, 0, none⟩ = some (.int .u8 1) := by have := row_cells hr2 0 (by rw [hL]; omega); simpa using this
    have k1 : w2.cell? ⟨g2, 1, none⟩ = some (.int .u8 2) := by have := row_cells hr2 1 (by rw [hL]; omega); simpa using this
    have hg2 : g2 < w2.heap.size := row_lt hr2
    have hRd2 : Rd (fun _ => True) w2 .u8 (some ⟨g2, 2, none⟩) l (c2 - 2) (varN u) := by
      rw [hL] at hf2
      refine ⟨HLL.out.symm, by omega, ?_, by omega, fun _ => ⟨g2, 2, rfl, trivial, hg2, fun j hj => ?_⟩⟩
      · obtain ⟨cur, _, _, h, _⟩ := row_block hr2
        unfold maxLen at h; omega
      · have := row_cells hr2 (2 + j) (by rw [hL]; omega)
        rw [Nat.zero_add] at this
        rw [this, List.getElem?_append_right (by simp)]
        simp
    rw [hL] at hf2 ⊢
    have HR2 := Lib.hid hRd2
    have hc2 : 2 < c2 := by omega
    obtain ⟨g3, c3, w3, hr3, hrow3, hg3, hc3, hbg3⟩ := run_append_copy' (w2.alloc (.cells #[] 5)) w.heap.size 23 23 5 i0 _ 1 .u8 Try.underlying23 hi hz0 hz1 hz2 rfl w2.heap.size 0 (World.ownsRow_made _ #[] 0 HB2.out.size (by decide) rfl) (.slice (some ⟨g2, 2, none⟩) l (c2 - 2)) (varN u) l HLL.out.symm (HR2.out.below ((Below.refl _ _).alloc (Nat.le_refl _) _)).reads (by unfold maxLen; omega) (by omega) (HB2.out.alloc HB2.out.size _).size
    have HB3 : Hid (Below w.heap.size w w3) := (HB2.out.alloc HB2.out.size (.cells #[] 5)).grown hg3 (HB2.out.alloc HB2.out.size _).size (fun k e => by cases e; exact HB2.out.size)
    have hl4 := Rd.new w3 .u8 5 [200, 7] 2 rfl (by decide)
    obtain ⟨v4, w4, hr4, hrow4, hg4, hn4⟩ := run_append_own (P := Try.prog) (w3.alloc (.cells #[.int .u8 200, .int .u8 7] 5)) w.heap.size 23 23 5 i0 _ 1 1 Try.underlying23 hi hz0 hz1 hz2 rfl (by decide) _ l _ (hrow3.alloc _) ⟨w3.heap.size, 0, none⟩ 2 2 ([200, 7].map (Value.int .u8)) rfl
      (fun j u' hu' => by
        obtain ⟨b', off', e', _, _, hc'⟩ := hl4.cells (by decide)
        cases e'
        rw [List.getElem?_map] at hu'
        cases hj : ([200, 7] : List Int)[j]? with
        | none => rw [hj] at hu'; cases hu'
        | some y =>
          rw [hj] at hu'
          have := hc' j (List.getElem?_eq_some_iff.1 hj).1
          rw [hj] at this
          rw [add_plain]
          exact this.trans hu') (by decide) (by unfold maxLen; omega) (by omega) (HB3.out.alloc HB3.out.size _).size
    have hne4 : ¬ v4 = .slice none 0 0 := fun e => by have := (hn4.1 e).2; omega
    obtain ⟨g4, c4, rfl, hf4, hbg4⟩ := row_form hrow4 hne4
    have HB4 : Hid (Below w.heap.size w w4) := (HB3.out.alloc HB3.out.size (.cells #[.int .u8 200, .int .u8 7] 5)).grown hg4 (HB3.out.alloc HB3.out.size _).size (fun k e => by cases e; exact hbg3)
    have HR4 : Hid (Rd (fun b => w.heap.size ≤ b) w4 .u8 (some ⟨g4, 0, none⟩) (l + 2) c4 (varN u ++ [200, 7])) := Rd.of_row (by rw [List.length_append, HLL.out]; rfl) hf4 (by omega) (by rw [List.map_append]; exact hrow4)
    have HO : Hid (Oct (varN u ++ [200, 7])) := (var_oct u).append (oct_of [200, 7] (by decide))
    have HX : Hid ((l = 1 ∧ x = 0) ∨ l = x) := by show _ ∨ _; omega
    clear hr2 hb2 hL hRd2 hrow3 hg3 hl4 hrow4 hg4 hn4 hne4 hvw
    go_wp2_with fail
    refine (width_any u hu _).mono ?_
    rintro e w' ⟨rfl, rfl⟩
    have hxi' := hxi
    rcases HX.out with ⟨rfl, rfl⟩ | rfl
    all_goals
      clear hxi
      go_wp2_with (first
        | (at_builtin; refine wpList_append_want (o := ⟨some 96, _, _, _, _, _⟩) _ rfl _ _ _ _ rfl _ _ rfl rfl _ _ hr3 ?_)
        | (at_builtin; refine wpList_append_want (o := ⟨some 98, _, _, _, _, _⟩) _ rfl _ _ _ _ rfl _ _ rfl rfl _ _ hr4 ?_))
      refine (lread_good HO.out HR4.out (rdS_var u hu [200, 7])).mono ?_
      rintro e w5 ⟨hb5, a5, n5, rfl, hR5⟩
      rw [List.drop_left' rfl] at hR5
      have HB5 : Hid (Below w.heap.size w w5) := HB4.out.trans (hb5.mono HB4.out.size)
      have HR5 := Lib.hid (hR5.below hb5)
      clear hb5 hR5 hr3 hr4
      simp only [gotV]
      go_wp2_with fail
      refine (equal_true (u : Int) 0 (Rd.empty (K := fun _ => True)) (HR5.out.below ((Below.refl _ _).alloc (Nat.le_refl _) _)) (Rd.empty (K := fun _ => True)) (Rd.new w5 .u8 5 [200, 7] 2 rfl (by decide))).mono ?_
      rintro e w6 ⟨rfl, hb6⟩
      have HB6 : Hid (Below w.heap.size w w6) := (HB5.out.alloc HB5.out.size _).trans (hb6.mono (by have := HB5.out.size; simp; omega))
      clear hb6
      go_wp2
      go_ret
      exact ⟨rfl, HB6.out⟩
  · have hcase : n < 0 ∨ m < 0 ∨ m ≤ n := by omega
    clear hA
    have hfin : True := trivial
    rcases hcase with h1 | h1 | h1
    all_goals
      go_wp2_with fail
    all_goals
      refine (varint_any (fun b => w1.heap.size ≤ b) _ 2 2 [1, 2] u hu _ (Rd.new w1 .u8 5 [1, 2] 2 rfl (by decide)) (by decide)).mono ?_
      rintro e w2 ⟨g2, c2, rfl, hf2, hr2, hb2⟩
      have HB2 : Hid (Below w.heap.size w w2) := (HB1.out.alloc HB1.out.size _).trans (hb2.mono (by have := HB1.out.size; simp; omega))
      have hL : ([1, 2] ++ varN u).length = l + 2 := by rw [List.length_append, HLL.out]; exact Nat.add_comm _ _
      have k0 : w2.cell? ⟨g2, 0, none⟩ = some (.int .u8 1) := by have := row_cells hr2 0 (by rw [hL]; omega); simpa using this
      have k1 : w2.cell? ⟨g2, 1, none⟩ = some (.int .u8 2) := by have := row_cells hr2 1 (by rw [hL]; omega); simpa using this
      have hg2 : g2 < w2.heap.size := row_lt hr2
      have hRd2 : Rd (fun _ => True) w2 .u8 (some ⟨g2, 2, none⟩) l (c2 - 2) (varN u) := by
        rw [hL] at hf2
        refine ⟨HLL.out.symm, by omega, ?_, by omega, fun _ => ⟨g2, 2, rfl, trivial, hg2, fun j hj => ?_⟩⟩
        · obtain ⟨cur, _, _, h, _⟩ := row_block hr2
          unfold maxLen at h; omega
        · have := row_cells hr2 (2 + j) (by rw [hL]; omega)
          rw [Nat.zero_add] at this
          rw [this, List.getElem?_append_right (by simp)]
          simp
      rw [hL] at hf2 ⊢
      have HR2 := Lib.hid hRd2
      have hc2 : 2 < c2 := by omega
      obtain ⟨g3, c3, w3, hr3, hrow3, hg3, hc3, hbg3⟩ := run_append_copy' (w2.alloc (.cells #[] 5)) w.heap.size 23 23 5 i0 _ 1 .u8 Try.underlying23 hi hz0 hz1 hz2 rfl w2.heap.size 0 (World.ownsRow_made _ #[] 0 HB2.out.size (by decide) rfl) (.slice (some ⟨g2, 2, none⟩) l (c2 - 2)) (varN u) l HLL.out.symm (HR2.out.below ((Below.refl _ _).alloc (Nat.le_refl _) _)).reads (by unfold maxLen; omega) (by omega) (HB2.out.alloc HB2.out.size _).size
      have HB3 : Hid (Below w.heap.size w w3) := (HB2.out.alloc HB2.out.size (.cells #[] 5)).grown hg3 (HB2.out.alloc HB2.out.size _).size (fun k e => by cases e; exact HB2.out.size)
      have hl4 := Rd.new w3 .u8 5 [200, 7] 2 rfl (by decide)
      obtain ⟨v4, w4, hr4, hrow4, hg4, hn4⟩ := run_append_own (P := Try.prog) (w3.alloc (.cells #[.int .u8 200, .int .u8 7] 5)) w.heap.size 23 23 5 i0 _ 1 1 Try.underlying23 hi hz0 hz1 hz2 rfl (by decide) _ l _ (hrow3.alloc _) ⟨w3.heap.size, 0, none⟩ 2 2 ([200, 7].map (Value.int .u8)) rfl
        (fun j u' hu' => by
          obtain ⟨b', off', e', _, _, hc'⟩ := hl4.cells (by decide)
          cases e'
          rw [List.getElem?_map] at hu'
          cases hj : ([200, 7] : List Int)[j]? with
          | none => rw [hj] at hu'; cases hu'
          | some y =>
            rw [hj] at hu'
            have := hc' j (List.getElem?_eq_some_iff.1 hj).1
            rw [hj] at this
            rw [add_plain]
            exact this.trans hu') (by decide) (by unfold maxLen; omega) (by omega) (HB3.out.alloc HB3.out.size _).size
      have hne4 : ¬ v4 = .slice none 0 0 := fun e => by have := (hn4.1 e).2; omega
      obtain ⟨g4, c4, rfl, hf4, hbg4⟩ := row_form hrow4 hne4
      have HB4 : Hid (Below w.heap.size w w4) := (HB3.out.alloc HB3.out.size (.cells #[.int .u8 200, .int .u8 7] 5)).grown hg4 (HB3.out.alloc HB3.out.size _).size (fun k e => by cases e; exact hbg3)
      have HR4 : Hid (Rd (fun b => w.heap.size ≤ b) w4 .u8 (some ⟨g4, 0, none⟩) (l + 2) c4 (varN u ++ [200, 7])) := Rd.of_row (by rw [List.length_append, HLL.out]; rfl) hf4 (by omega) (by rw [List.map_append]; exact hrow4)
      have HO : Hid (Oct (varN u ++ [200, 7])) := (var_oct u).append (oct_of [200, 7] (by decide))
      have HX : Hid ((l = 1 ∧ x = 0) ∨ l = x) := by show _ ∨ _; omega
      clear hr2 hb2 hL hRd2 hrow3 hg3 hl4 hrow4 hg4 hn4 hne4 hvw
      go_wp2_with fail
      refine (width_any u hu _).mono ?_
      rintro e w' ⟨rfl, rfl⟩
      have hxi' := hxi
      rcases HX.out with ⟨rfl, rfl⟩ | rfl
      all_goals
        clear hxi
        go_wp2_with (first
          | (at_builtin; refine wpList_append_want (o := ⟨some 96, _, _, _, _, _⟩) _ rfl _ _ _ _ rfl _ _ rfl rfl _ _ hr3 ?_)
          | (at_builtin; refine wpList_append_want (o := ⟨some 98, _, _, _, _, _⟩) _ rfl _ _ _ _ rfl _ _ rfl rfl _ _ hr4 ?_))
        refine (lread_good HO.out HR4.out (rdS_var u hu [200, 7])).mono ?_
        rintro e w5 ⟨hb5, a5, n5, rfl, hR5⟩
        rw [List.drop_left' rfl] at hR5
        have HB5 : Hid (Below w.heap.size w w5) := HB4.out.trans (hb5.mono HB4.out.size)
        have HR5 := Lib.hid (hR5.below hb5)
        clear hb5 hR5 hr3 hr4
        simp only [gotV]
        go_wp2_with fail
        refine (equal_true (u : Int) 0 (Rd.empty (K := fun _ => True)) (HR5.out.below ((Below.refl _ _).alloc (Nat.le_refl _) _)) (Rd.empty (K := fun _ => True)) (Rd.new w5 .u8 5 [200, 7] 2 rfl (by decide))).mono ?_
        rintro e w6 ⟨rfl, hb6⟩
        have HB6 : Hid (Below w.heap.size w w6) := (HB5.out.alloc HB5.out.size _).trans (hb6.mono (by have := HB5.out.size; simp; omega))
        clear hb6
        go_wp2
        go_ret
        exact ⟨rfl, HB6.out⟩

end Go.Proofs.Ytdgihmekljeocaa.bitpackCodes
