/-
  Copies of bytes, equal bytes, checksums.
-/
import Derived.Test.YtkfmgiacdlkmiaaCtMath
import Derived.Test.YtkfmgiacdlkmiaaByRow
import Derived.Test.YtkfmgiacdlkmiaaShelf
import Derived.Test.YtkfmgiacdlkmiaaPkGather
import Derived.Laws.BytesArg
namespace Go.Proofs.Ytkfmgiacdlkmiaa
open Go.RowKit Go.Shelf Go.ChangeShapes Go.WideShapes Go.ChangeAt

/-- Bytes that read, as a string. -/
theorem convC_any {K : Nat → Prop} {W : World} {a : Option Addr} {n c : Nat} {zs : List Int} (hR : Rd K W .u8 a n c zs) (W' : World) (hW : W'.heap = W.heap) :
    (convert 23 9 (.slice a n c)).run Try.prog W' = .ok (.string (bsOf (strU zs))) W' := by
  have hl := hR.hl
  by_cases h0 : 0 < n
  · obtain ⟨b, off, rfl, _, hlt, hc⟩ := hR.cells h0
    exact run_convert_bytes_arg W' 23 5 Try.underlying23 Try.underlying5 b off n c zs hl.symm (fun i hi => by
      rw [World.cell?_of_block (w := W) (by rw [hW]), hc i hi, List.getD_eq_getElem?_getD]) _ Try.underlying9
  · obtain rfl : n = 0 := by omega
    obtain rfl : zs = [] := List.eq_nil_of_length_eq_zero hl.symm
    rw [run_convert_bytes_string W' 23 9 5 _ 0 c Try.underlying23 Try.underlying5 Try.underlying9]
    cases a <;> simp [Conv.bytesToString, loadCells]
    all_goals rfl
theorem strU_inj {a b : List Int} (ha : Oct a) (hb : Oct b) : strU a = strU b ↔ a = b :=
  ⟨fun h => by rw [← strI_strU ha, h, strI_strU hb], fun h => by rw [h]⟩

theorem equal_any {K K' : Nat → Prop} {a a' : Option Addr} {n c n' c' : Nat} {xs ys : List Int} {W : World} (h1 : Rd K W .u8 a n c xs) (h2 : Rd K' W .u8 a' n' c' ys) (ho : Oct xs) (ho' : Oct ys) :
    Calls Try.prog 73 #[.slice a n c, .slice a' n' c'] W fun e V => e = .returned (.bool (decide (xs = ys))) ∧ W = V := by
  have k1 := convC_any h1 W rfl
  have k2 := convC_any h2 W rfl
  have hb := bs_same (strU xs) (strU ys)
  have HD : Hid (decide (strU xs = strU ys) = decide (xs = ys)) := by show _ = _; rw [decide_eq_decide]; exact strU_inj ho ho'
  clear h1 h2 ho ho'
  go_enter Try.func73, Try.ntmps73
  go_wp2
  go_ret
  exact ⟨by rw [← HD.out, ← hb]; rfl, rfl⟩

theorem cloneB_any {K : Nat → Prop} {a : Option Addr} {n c : Nat} {zs : List Int} {W : World} (hR : Rd K W .u8 a n c zs) :
    Calls Try.prog 72 #[.slice a n c] W fun e V => ∃ a1 c1, e = .returned (.slice a1 n c1) ∧ Rd (fun b => W.heap.size ≤ b) V .u8 a1 n c1 zs ∧ Below W.heap.size W V := by
  cases a with
  | none =>
    have hn0 : n = 0 := by
      apply Decidable.byContradiction; intro h
      obtain ⟨b, off, e, _⟩ := hR.cells (by omega)
      cases e
    subst hn0
    obtain rfl : zs = [] := List.eq_nil_of_length_eq_zero hR.hl.symm
    exact (Try.bytes_Clone_nil 0 c W).mono fun e V ⟨he, hw⟩ => ⟨none, 0, he, ⟨rfl, Nat.le_refl _, by decide, by decide, fun h => absurd h (by decide)⟩, by rw [hw]; exact Below.refl _ _⟩
  | some p =>
    refine (Try.bytes_Clone_at p n c zs W hR.hl.symm (by have := hR.small; omega) (fun i hi => ?_)).mono ?_
    · obtain ⟨b, off, e, _, _, hc⟩ := hR.cells (by omega)
      cases e
      rw [add_plain, hc i hi, List.getD_eq_getElem?_getD]
    · rintro e V ⟨v', rfl, h1, h2, h3⟩
      obtain ⟨g, cap, rfl, hn, hg⟩ := row_form h1 h2
      exact ⟨_, cap, rfl, Rd.of_row hR.hl hn hR.small h1, h3⟩

theorem sum8_at (d : Int) (k : Nat) (h : k < 8) : (sum8 d)[k]?.getD 0 = d / 256 ^ k % 256 := by
  rcases (by omega : k = 0 ∨ k = 1 ∨ k = 2 ∨ k = 3 ∨ k = 4 ∨ k = 5 ∨ k = 6 ∨ k = 7) with rfl | rfl | rfl | rfl | rfl | rfl | rfl | rfl <;> simp [sum8]
/-- The first bytes of a checksum, and zeros. -/
def sumK (d : Int) (k : Nat) : List Int := (sum8 d).take k ++ List.replicate (8 - k) 0
theorem sumK_len (d : Int) (k : Nat) (h : k ≤ 8) : (sumK d k).length = 8 := by simp [sumK, sum8_length]; omega
theorem sumK_set (d : Int) (k : Nat) (h : k < 8) : (sumK d k).set k (d / 256 ^ k % 256) = sumK d (k + 1) := by
  rw [← sum8_at d k h]
  rcases (by omega : k = 0 ∨ k = 1 ∨ k = 2 ∨ k = 3 ∨ k = 4 ∨ k = 5 ∨ k = 6 ∨ k = 7) with rfl | rfl | rfl | rfl | rfl | rfl | rfl | rfl <;> rfl

set_option maxRecDepth 100000 in
set_option maxHeartbeats 4000000 in
theorem checksum_any {K : Nat → Prop} {a : Option Addr} {n c : Nat} {zs : List Int} {W : World} (hR : Rd K W .u8 a n c zs) (ho : Oct zs) :
    Calls Try.prog 31 #[.slice a n c] W fun e V => ∃ g, e = .returned (.slice (some ⟨g, 0, none⟩) 8 8) ∧ Rd (fun b => W.heap.size ≤ b) V .u8 (some ⟨g, 0, none⟩) 8 8 (sum8 (Dg.bytesD zs)) ∧ Below W.heap.size W V := by
  have HD := Lib.hid (Dg.bytes_any a n c zs hR.hl (by have := hR.small; have := hR.hl; omega) hR.fit ho W (hR.reads.mono (K' := fun b => b < W.heap.size) (fun b h _ => h)))
  have hD : 0 ≤ Dg.bytesD zs ∧ Dg.bytesD zs < 18446744073709551616 := ⟨Dg.stepI_lo _ _, Dg.stepI_hi _ _⟩
  clear hR ho
  generalize Dg.bytesD zs = D at *
  obtain ⟨i0, hi, hz0, hz1, hz2⟩ := info_parts Try.infoB
  obtain ⟨mc, hmc⟩ : ∃ mc, madeCells (Value.int .u8 0).cells (8 * 1) = mc := ⟨_, rfl⟩
  have HMC := Lib.hid hmc
  have hmk : ∀ w : World, (Instr.makeSlice 23 (.int .i64 8) (.int .i64 8)).run Try.prog w = .ok (.slice (some ⟨w.heap.size, 0, none⟩) 8 8) (w.alloc (.cells mc 5)) := fun w => by
    have := run_make (P := Try.prog) w 23 5 i0 _ Try.underlying23 hi hz0 .i64 .i64 8 8 (by omega) (by omega) (by rw [hz2]; omega) (by omega)
    rw [hz1, show Int.toNat 8 = 8 from rfl, hmc] at this
    exact this
  clear hmc
  go_enter Try.func31, Try.ntmps31
  go_wp2_with (go_at_call 46; refine HD.out.mono ?_; rintro e V ⟨rfl, hb⟩; have HB := Lib.hid hb; clear hb)
  have hrow : (V.alloc (.cells (mc) 5)).ownsRow V.heap.size 5 1 (.slice (some ⟨V.heap.size, 0, none⟩) 8 8) 8 ((sumK D 0).map (Value.int .u8)) := by
    refine ⟨by rw [List.length_map, sumK_len _ _ (by decide)], .inr ⟨V.heap.size, 8, _, rfl, Nat.le_refl _, World.alloc_heap_new V _, Nat.le_refl _, by unfold maxLen; omega, by rw [← HMC.out]; exact size_madeCells _ _, ?_⟩⟩
    rw [← HMC.out, madeCells_one]
    rfl
  have hbA : Below W.heap.size W (V.alloc (.cells (mc) 5)) := HB.out.alloc HB.out.size _
  have HROW := Lib.hid hrow
  have HBA := Lib.hid hbA
  have HSZ : Hid (W.heap.size ≤ V.heap.size) := HB.out.size
  clear hrow hbA hz0 hz1 hz2 hi HD HB hmk
  generalize V.alloc (.cells (mc) 5) = V1 at *
  generalize V.heap.size = g at *
  go_loopw [3, 11] (fun d i wr => ∃ k : Nat, k ≤ 8 ∧ i = .int .i64 (k : Int) ∧ ∃ y : Int, d = .int .u64 y ∧ Hid (y = D / 256 ^ k) ∧ Hid (wr.ownsRow g 5 1 (.slice (some ⟨g, 0, none⟩) 8 8) 8 ((sumK D k).map (Value.int .u8))) ∧ Hid (Below W.heap.size W wr)) (fun _ i _ => 8 - (intOf i).toNat)
  case atStart => exact ⟨0, by decide, rfl, D, rfl, by simp [Hid], HROW.out, HBA.out⟩
  case round =>
    obtain ⟨k, hk, rfl, y, rfl, HY, HRW, HBR⟩ := hrel
    by_cases hlt : k < 8
    · have hy0 : 0 ≤ y ∧ y < 18446744073709551616 := by
        rw [HY.out]
        have h1 : (0 : Int) < 256 ^ k := Int.pow_pos (by decide)
        refine ⟨Int.ediv_nonneg hD.1 (Int.le_of_lt h1), ?_⟩
        have := Int.ediv_le_self (256 ^ k) hD.1
        omega
      have hyw : IntKind.u8.wrap y = y % 256 := by rw [IntKind.wrap_u8]
      have HY2 : Hid (y / 256 = D / 256 ^ (k + 1)) := by
        show _ = _
        rw [HY.out, Int.pow_succ, Int.ediv_ediv_of_nonneg (Int.pow_nonneg (by decide))]
      have hfz := row_unfrozen (j := k) HRW.out
      have hst := row_store (j := k) HRW.out (.int .u8 (y % 256))
      have hkl : k < (sumK D k).length := by rw [sumK_len _ _ hk]; exact hlt
      have hcell := row_cell (j := k) HRW.out hkl
      rw [← List.map_set, HY.out, sumK_set D k hlt, ← HY.out] at hst
      have HST := Lib.hid hst
      have hglt := row_lt HRW.out
      have HGL : Hid (W.heap.size ≤ g) := HSZ.out
      clear hst hkl
      go_wp2
      go_roundw
      case rel => exact ⟨k + 1, by omega, by go_num, y / 256, rfl, HY2.out, HST.out, HBR.out.setCell HGL.out _⟩
      case measure => simp [intOf]; omega
    · obtain rfl : k = 8 := by omega
      have hall : sumK D 8 = sum8 D := by unfold sumK; rfl
      rw [hall] at HRW
      go_wp2
      go_ret
      exact ⟨g, rfl, (Rd.of_row (sum8_length D).symm (Nat.le_refl _) (by decide) HRW.out).mono (fun b hb h => Nat.le_trans HSZ.out h), HBR.out⟩

end Go.Proofs.Ytkfmgiacdlkmiaa
