/-
  The reference's checksum.
-/
import Derived.Test.YtkfmgiacdlkmiaaDgRef
import Derived.Test.YtkfmgiacdlkmiaaCtSum
namespace Go.Proofs.Ytkfmgiacdlkmiaa
open Go Go.RowKit Go.Shelf Go.ChangeShapes Go.WideShapes Go.ChangeAt

theorem rbytes_any {K : Nat → Prop} {a : Option Addr} {n c : Nat} {zs : List Int} {W : World} (hR : Rd K W .u8 a n c zs) (ho : Oct zs) : Calls Try.prog 48 #[.slice a n c] W fun e V => e = .returned (.int .u64 (Dg.bytesD zs)) ∧ W = V :=
  (callsIn_wide (n := 20)).1 (Dg.rbytes_in Fence.wide 20 Dg.lets_wide (by decide) K _ zs (by have := hR.small; have := hR.hl; omega) ho W hR.reads)

theorem sum8_len (d : Int) : (sum8 d).length = 8 := rfl
theorem sum8_atR (d : Int) (k : Nat) (hk : k < 8) : (sum8 d)[k]?.getD 0 = d / 256 ^ k % 256 := by
  rcases (by omega : k = 0 ∨ k = 1 ∨ k = 2 ∨ k = 3 ∨ k = 4 ∨ k = 5 ∨ k = 6 ∨ k = 7) with rfl | rfl | rfl | rfl | rfl | rfl | rfl | rfl <;> simp [sum8]
theorem sum8_snoc (d : Int) (k : Nat) (hk : k < 8) : (sum8 d).take (k + 1) = (sum8 d).take k ++ [d / 256 ^ k % 256] := by
  rw [← sum8_atR d k hk, List.take_add_one, List.getElem?_eq_getElem (by rw [sum8_len]; exact hk)]
  rfl

set_option maxRecDepth 100000 in
set_option maxHeartbeats 2000000 in
theorem checkR_any {K : Nat → Prop} {a : Option Addr} {n c : Nat} {zs : List Int} {W : World} (hR : Rd K W .u8 a n c zs) (ho : Oct zs) :
    Calls Try.prog 34 #[.slice a n c] W fun e V => Makes W e V (sum8 (Dg.bytesD zs)) := by
  have HD := Lib.hid (rbytes_any hR ho)
  have hD : 0 ≤ Dg.bytesD zs ∧ Dg.bytesD zs < 18446744073709551616 := ⟨Dg.stepI_lo _ _, Dg.stepI_hi _ _⟩
  clear hR ho
  generalize Dg.bytesD zs = D at *
  obtain ⟨i0, hi, hz0, hz1, hz2⟩ := info_parts Try.infoB
  have HROW : Hid ((W.alloc (.cells #[] 5)).ownsRow W.heap.size 5 1 (.slice (some ⟨W.heap.size, 0, none⟩) 0 0) 0 (((sum8 D).take 0).map (Value.int .u8))) := World.ownsRow_made W #[] 0 (Nat.le_refl _) (by decide) rfl
  have HB : Hid (Below W.heap.size W (W.alloc (.cells #[] 5))) := (Below.refl _ W).alloc (Nat.le_refl _) _
  go_enter Try.func34, Try.ntmps34
  go_wp2_with (go_at_call 48; refine HD.out.mono ?_; rintro e V ⟨rfl, rfl⟩)
  generalize W.alloc (.cells #[] 5) = V at *
  go_loopw [4, 5] (fun v i wr => ∃ k g c : Nat, k ≤ 8 ∧ i = .int .i64 (k : Int) ∧ v = .slice (some ⟨g, 0, none⟩) k c ∧ Hid (k ≤ c ∧ wr.ownsRow W.heap.size 5 1 (.slice (some ⟨g, 0, none⟩) k c) k (((sum8 D).take k).map (Value.int .u8)) ∧ Below W.heap.size W wr)) (fun _ i _ => 8 - (intOf i).toNat)
  case atStart => exact ⟨0, W.heap.size, 0, by decide, rfl, rfl, Nat.le_refl _, HROW.out, HB.out⟩
  case round =>
    obtain ⟨k, g, c, hk, rfl, rfl, HI⟩ := hrel
    clear HROW HB HD
    by_cases hlt : k < 8
    · have hy0 : 0 ≤ D / 256 ^ k % 256 ∧ D / 256 ^ k % 256 < 256 := by omega
      obtain ⟨g', c', wX, hr, hX', hgX, hcX, _⟩ := run_append_one (P := Try.prog) wr W.heap.size 23 23 5 i0 _ 1 .u8 Try.underlying23 hi hz0 hz1 hz2 rfl g k c _ HI.out.2.1 (D / 256 ^ k % 256) 5 (by unfold maxLen; omega) (by omega) HI.out.2.2.size
      have hw8 : IntKind.u8.wrap (D / 2 ^ (8 * k)) = D / 256 ^ k % 256 := by rw [IntKind.wrap_u8, show (2 : Int) ^ (8 * k) = 256 ^ k by rw [Int.pow_mul]; rfl]
      have HBX : Hid (Below W.heap.size W wX) := (HI.out.2.2.alloc HI.out.2.2.size _).grown hgX (HI.out.2.2.alloc HI.out.2.2.size _).size (fun r e => by cases e; exact row_base HI.out.2.1)
      have HRX := Lib.hid hr
      have HXX : Hid (wX.ownsRow W.heap.size 5 1 (.slice (some ⟨g', 0, none⟩) (k + 1) c') (k + 1) (((sum8 D).take (k + 1)).map (Value.int .u8))) := by
        show wX.ownsRow _ _ _ _ _ _
        rw [sum8_snoc D k hlt, List.map_append]; exact hX'
      have HCX := Lib.hid hcX
      clear hr hX' hgX hcX hy0
      go_wp2_with (at_builtin; refine wpList_append_want (o := ⟨some 21, _, _, _, _, _⟩) _ rfl _ _ _ _ rfl _ _ rfl rfl _ _ HRX.out ?_)
      go_roundw
      case rel => exact ⟨k + 1, g', c', by omega, by go_num, rfl, HCX.out, HXX.out, HBX.out⟩
      case measure => simp [intOf]; omega
    · obtain rfl : k = 8 := by omega
      have hall : (sum8 D).take 8 = sum8 D := rfl
      rw [hall] at HI
      go_wp2
      go_ret
      exact ⟨g, c, rfl, HI.out.1, HI.out.2.1, HI.out.2.2⟩

end Go.Proofs.Ytkfmgiacdlkmiaa
