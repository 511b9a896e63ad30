/-
  The reference's differences and sums.
-/
import Derived.Test.YtmbcppkdnoccbaaRnDiff
import Derived.Test.YtmbcppkdnoccbaaRnExpand
import Derived.Test.YtmbcppkdnoccbaaPkBegin
namespace Go.Proofs.Ytmbcppkdnoccbaa
open Go.RowKit Go.Shelf Go.ChangeShapes Go.WideShapes Go.ChangeAt

theorem own_nilr (W : World) (t : TypeId) (base : Nat) (hb : base ≤ W.heap.size) : (W.alloc (.cells #[] t)).ownsRow base t 1 (.slice (some ⟨W.heap.size, 0, none⟩) 0 0) 0 [] :=
  ⟨rfl, .inr ⟨W.heap.size, 0, #[], rfl, hb, World.alloc_heap_new W _, Nat.le_refl _, by unfold maxLen; omega, rfl, rfl⟩⟩

set_option maxRecDepth 100000 in
set_option maxHeartbeats 2000000 in
theorem diffR_any {K : Nat → Prop} {a : Option Addr} {len cap : Nat} {zs : List Int} (hl40 : len ≤ 1099511627776) {W : World} (hR : Rd K W .i64 a len cap zs) :
    Calls Try.prog 20 #[.slice a len cap] W (MakesL W (dfS zs)) := by
  obtain ⟨i0, hi, hz0, hz1, hz2⟩ := info_parts Try.infoN
  have hfit := hR.fit
  have HL : Hid (len = zs.length) := hR.hl
  have HDL : Hid ((dfS zs).length = zs.length) := df_length zs
  have H := Lib.hid hR
  have HB0 : Hid (Below W.heap.size W (W.alloc (.cells #[] 3))) := (Below.refl _ _).alloc (Nat.le_refl _) _
  have HO0 : Hid ((W.alloc (.cells #[] 3)).ownsRow W.heap.size 3 1 (.slice (some ⟨W.heap.size, 0, none⟩) 0 0) 0 (((dfS zs).take 0).map (Value.int .i64))) := own_nilr W _ _ (Nat.le_refl _)
  clear hR
  go_enter Try.func20, Try.ntmps20
  go_wp2
  go_loopw [3, 4] (fun v i wr => ∃ k g c : Nat, k ≤ len ∧ i = .int .i64 k ∧ v = .slice (some ⟨g, 0, none⟩) k c ∧ k ≤ c ∧ Hid (wr.ownsRow W.heap.size 3 1 (.slice (some ⟨g, 0, none⟩) k c) k (((dfS zs).take k).map (Value.int .i64))) ∧ Hid (Below W.heap.size W wr)) (fun _ i _ => len - (intOf i).toNat)
  case atStart => exact ⟨0, W.heap.size, 0, Nat.zero_le _, rfl, rfl, Nat.le_refl _, HO0, HB0⟩
  case round =>
    obtain ⟨k, g, c, hk, rfl, rfl, hkc, HO, HB⟩ := hrel
    by_cases hlt : k < len
    · have HT : Hid ((dfS zs).take (k + 1) = (dfS zs).take k ++ [(dfS zs)[k]?.getD 0]) := take_getD_snoc _ k (by rw [HDL.out, ← HL.out]; exact hlt)
      have hbs := HB.out.size
      obtain ⟨b, off, rfl, _, hblt, hcs⟩ := (H.out.below HB.out).cells (by omega)
      have hg0 := row_base HO.out
      cases k with
      | zero =>
        have hcx := hcs 0 hlt
        rw [Nat.add_zero] at hcx
        rw [← df_zero] at hcx
        obtain ⟨g2, c2, w2, hr, ho2, hg2, _⟩ := own_append (P := Try.prog) wr W.heap.size 22 22 3 i0 _ 8 .i64 Try.underlying22 hi hz0 hz1 hz2 rfl _ 0 _ HO.out ((dfS zs)[0]?.getD 0) 3 (by decide) (by decide) hbs
        have HB2 : Hid (Below W.heap.size W w2) := (HB.out.alloc hbs _).grown hg2 (by simp; omega) (fun r e => by cases e; exact hg0)
        have HO2 : Hid (w2.ownsRow W.heap.size 3 1 (.slice (some ⟨g2, 0, none⟩) (0 + 1) c2) (0 + 1) (((dfS zs).take (0 + 1)).map (Value.int .i64))) := by
          show w2.ownsRow _ _ _ _ _ _
          rw [HT.out, List.map_append]; exact ho2
        obtain ⟨cur, _, hn2, _⟩ := row_block HO2.out
        simp only [Nat.zero_add] at hr
        have HRUN := Lib.hid hr
        clear hr ho2 hg2 hcs
        generalize (dfS zs)[0]?.getD 0 = d at *
        go_wp2_with (at_builtin; refine wpList_append_want (o := ⟨some 19, _, _, _, _, _⟩) _ rfl _ _ _ _ rfl _ _ rfl rfl _ _ HRUN.out ?_)
        go_roundw
        case rel => exact ⟨0 + 1, g2, c2, by omega, by go_num, rfl, by omega, HO2, HB2⟩
        case measure => simp [intOf]; omega
      | succ j =>
        have hcx := hcs (j + 1) hlt
        have hcy := hcs j (by omega)
        have hw : IntKind.i64.wrap (((j + 1 : Nat) : Int) - 1) = (j : Int) := by rw [IntKind.wrap_i64]; omega
        have hval : IntKind.i64.wrap (zs[j + 1]?.getD 0 - zs[j]?.getD 0) = (dfS zs)[j + 1]?.getD 0 := by
          rw [df_at zs j (by rw [← HL.out]; exact hlt), IntKind.wrap_i64]; unfold w64; omega
        have hz13 : j + 1 + 1 ≤ maxLen := by unfold maxLen; omega
        obtain ⟨g2, c2, w2, hr, ho2, hg2, _⟩ := own_append (P := Try.prog) wr.drew W.heap.size 22 22 3 i0 _ 8 .i64 Try.underlying22 hi hz0 hz1 hz2 rfl _ (j + 1) _ ((Kept.refl (fun _ => True) _).drew.row HO.out trivial) ((dfS zs)[j + 1]?.getD 0) 3 hz13 (by omega) hbs
        have HB2 : Hid (Below W.heap.size W w2) := ((below_drew HB.out).alloc hbs _).grown hg2 (by simp; exact Nat.le_succ_of_le hbs) (fun r e => by cases e; exact hg0)
        have HO2 : Hid (w2.ownsRow W.heap.size 3 1 (.slice (some ⟨g2, 0, none⟩) (j + 1 + 1) c2) (j + 1 + 1) (((dfS zs).take (j + 1 + 1)).map (Value.int .i64))) := by
          show w2.ownsRow _ _ _ _ _ _
          rw [HT.out, List.map_append]; exact ho2
        obtain ⟨cur, _, hn2, _⟩ := row_block HO2.out
        have HRUN := Lib.hid hr
        have hjl : ((j : Nat) : Int) < (len : Int) := by omega
        clear hr ho2 hg2 hcs
        generalize (dfS zs)[j + 1]?.getD 0 = d at *
        generalize zs[j + 1]?.getD 0 = x at *
        generalize zs[j]?.getD 0 = y at *
        obtain ⟨k, hk2⟩ : ∃ k, j + 1 = k := ⟨_, rfl⟩
        have hk0 : ¬ (k : Int) = 0 := by omega
        have hk1 : ((k : Int) == 0) = false := by rw [beq_eq_false_iff_ne]; exact hk0
        rw [hk2] at hw hlt hk hkc hcx HO HO2 HRUN hn2 hz13
        go_wp2_with fail
        go_region_law (refine step_append_run (by rfl) (.tmp 20) (.tmp 31) 22 22 (by rfl) (.slice (some ⟨g, 0, none⟩) k c) (.slice (some ⟨wr.heap.size, 0, none⟩) 1 1) (by go_simp) (by go_simp) _ _ HRUN.out ?_)
        all_goals
          (try simp [Act.put])
          go_wp2
          go_roundw
          case rel => exact ⟨k + 1, g2, c2, by omega, by go_num, rfl, by omega, HO2, HB2⟩
          case measure => simp [intOf]; omega
    · obtain rfl : k = len := by omega
      rw [List.take_of_length_le (by rw [HDL.out, ← HL.out]; exact Nat.le_refl _)] at HO
      go_wp2
      go_ret
      exact ⟨_, _, _, rfl, Rd.of_row (by rw [HDL.out]; exact HL.out) hkc (by omega) HO.out, HB.out⟩

set_option maxRecDepth 100000 in
set_option maxHeartbeats 2000000 in
theorem sumsR_any {K : Nat → Prop} {a : Option Addr} {len cap : Nat} {zs : List Int} (hz : Smalls zs) (hl40 : len ≤ 1099511627776) {W : World} (hR : Rd K W .i64 a len cap zs) :
    Calls Try.prog 22 #[.slice a len cap] W (MakesL W (smS zs)) := by
  obtain ⟨i0, hi, hz0, hz1, hz2⟩ := info_parts Try.infoN
  have hfit := hR.fit
  have HL : Hid (len = zs.length) := hR.hl
  have HZ := Lib.hid hz
  have HDL : Hid ((smS zs).length = zs.length) := sm_length zs
  have H := Lib.hid hR
  have HB0 : Hid (Below W.heap.size W (W.alloc (.cells #[] 3))) := (Below.refl _ _).alloc (Nat.le_refl _) _
  have HO0 : Hid ((W.alloc (.cells #[] 3)).ownsRow W.heap.size 3 1 (.slice (some ⟨W.heap.size, 0, none⟩) 0 0) 0 (((smS zs).take 0).map (Value.int .i64))) := own_nilr W _ _ (Nat.le_refl _)
  clear hR hz
  go_enter Try.func22, Try.ntmps22
  go_wp2
  go_loopw [3, 4, 5] (fun v s i wr => ∃ k g c : Nat, k ≤ len ∧ i = .int .i64 k ∧ s = .int .i64 ((0 :: smS zs)[k]?.getD 0) ∧ v = .slice (some ⟨g, 0, none⟩) k c ∧ k ≤ c ∧ Hid (wr.ownsRow W.heap.size 3 1 (.slice (some ⟨g, 0, none⟩) k c) k (((smS zs).take k).map (Value.int .i64))) ∧ Hid (Below W.heap.size W wr)) (fun _ _ i _ => len - (intOf i).toNat)
  case atStart => exact ⟨0, W.heap.size, 0, Nat.zero_le _, rfl, rfl, rfl, Nat.le_refl _, HO0, HB0⟩
  case round =>
    obtain ⟨k, g, c, hk, rfl, rfl, rfl, hkc, HO, HB⟩ := hrel
    by_cases hlt : k < len
    · have HT : Hid ((smS zs).take (k + 1) = (smS zs).take k ++ [(smS zs)[k]?.getD 0]) := take_getD_snoc _ k (by rw [HDL.out, ← HL.out]; exact hlt)
      have hbs := HB.out.size
      obtain ⟨b, off, rfl, _, hblt, hcs⟩ := (H.out.below HB.out).cells (by omega)
      have hg0 := row_base HO.out
      have hcx := hcs k hlt
      have hval : IntKind.i64.wrap ((0 :: smS zs)[k]?.getD 0 + zs[k]?.getD 0) = (smS zs)[k]?.getD 0 := by
        cases k with
        | zero =>
          rw [sm_zero]
          have hx := HZ.out.getD 0
          show IntKind.i64.wrap (0 + zs[0]?.getD 0) = _
          rw [IntKind.wrap_i64]; unfold I64 at hx; omega
        | succ j =>
          rw [List.getElem?_cons_succ, sm_at zs j (by rw [← HL.out]; exact hlt), IntKind.wrap_i64]; unfold w64; omega
      have HNX : Hid ((0 :: smS zs)[k + 1]?.getD 0 = (smS zs)[k]?.getD 0) := by show _ = _; rw [List.getElem?_cons_succ]
      obtain ⟨g2, c2, w2, hr, ho2, hg2, _⟩ := own_append (P := Try.prog) wr W.heap.size 22 22 3 i0 _ 8 .i64 Try.underlying22 hi hz0 hz1 hz2 rfl _ k _ HO.out ((smS zs)[k]?.getD 0) 3 (by unfold maxLen; omega) (by omega) hbs
      have HB2 : Hid (Below W.heap.size W w2) := (HB.out.alloc hbs _).grown hg2 (by simp; omega) (fun r e => by cases e; exact hg0)
      have HO2 : Hid (w2.ownsRow W.heap.size 3 1 (.slice (some ⟨g2, 0, none⟩) (k + 1) c2) (k + 1) (((smS zs).take (k + 1)).map (Value.int .i64))) := by
        show w2.ownsRow _ _ _ _ _ _
        rw [HT.out, List.map_append]; exact ho2
      obtain ⟨cur, _, hn2, _⟩ := row_block HO2.out
      have HRUN := Lib.hid hr
      clear hr ho2 hg2 hcs
      generalize (smS zs)[k]?.getD 0 = d at *
      generalize (0 :: smS zs)[k]?.getD 0 = y at *
      generalize zs[k]?.getD 0 = x at *
      go_wp2_with (at_builtin; refine wpList_append_want (o := ⟨some 22, _, _, _, _, _⟩) _ rfl _ _ _ _ rfl _ _ rfl rfl _ _ HRUN.out ?_)
      go_roundw
      case rel => exact ⟨k + 1, g2, c2, by omega, by go_num, by rw [HNX.out], rfl, by omega, HO2, HB2⟩
      case measure => simp [intOf]; omega
    · obtain rfl : k = len := by omega
      rw [List.take_of_length_le (by rw [HDL.out, ← HL.out]; exact Nat.le_refl _)] at HO
      go_wp2
      go_ret
      exact ⟨_, _, _, rfl, Rd.of_row (by rw [HDL.out]; exact HL.out) hkc (by omega) HO.out, HB.out⟩

end Go.Proofs.Ytmbcppkdnoccbaa
