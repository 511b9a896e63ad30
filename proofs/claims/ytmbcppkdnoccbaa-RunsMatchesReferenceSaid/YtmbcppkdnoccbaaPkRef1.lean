/-
  The reference's codes of single numbers.
-/
import Derived.Test.YtmbcppkdnoccbaaPkHere
namespace Go.Proofs.Ytmbcppkdnoccbaa
open Go.RowKit Go.ChangeShapes Go.WideShapes Go.ChangeAt

theorem zigzagR_any (n : Int) (hn : I64 n) (w : World) :
    Calls Try.prog 103 #[.int .i64 n] w fun e w' => e = .returned (.int .u64 (zz n)) ∧ w = w' := by
  unfold I64 at hn
  by_cases h0 : n < 0
  · have hz : zz n = -2 * n - 1 := if_neg (by omega)
    have HZ := Lib.hid hz
    have e1 : IntKind.i64.wrap (n + 1) = n + 1 := by rw [IntKind.wrap_i64]; omega
    have e2 : IntKind.i64.wrap (-(n + 1)) = -(n + 1) := by rw [IntKind.wrap_i64]; omega
    have e3 : IntKind.u64.wrap (-(n + 1)) = -(n + 1) := by rw [IntKind.wrap_u64]; omega
    clear hz
    go_enter Try.func103, Try.ntmps103
    go_wp2
    go_ret
    exact ⟨ret_int (show 2 * -(n + 1) + 1 = zz n by rw [HZ.out]; omega), rfl⟩
  · have hz : zz n = 2 * n := if_pos (by omega)
    have HZ := Lib.hid hz
    have e3 : IntKind.u64.wrap n = n := by rw [IntKind.wrap_u64]; omega
    clear hz
    go_enter Try.func103, Try.ntmps103
    go_wp2
    go_ret
    exact ⟨ret_int (show 2 * n = zz n by rw [HZ.out]), rfl⟩

theorem unzigzagR_any (u : Int) (hu : U64 u) (w : World) :
    Calls Try.prog 81 #[.int .u64 u] w fun e w' => e = .returned (.int .i64 (uz u)) ∧ w = w' := by
  unfold U64 at hu
  obtain ⟨m, rfl⟩ := Int.eq_ofNat_of_zero_le hu.1
  by_cases h0 : m % 2 = 1
  · have hz : uz m = -((m : Int) / 2) - 1 := if_neg (by omega)
    have HZ := Lib.hid hz
    have e0 : ((m : Int) % 2 == 1) = true := by rw [beq_iff_eq]; omega
    clear hz h0
    go_enter Try.func81, Try.ntmps81
    go_wp2
    go_ret
    exact ⟨ret_int (show -((m : Int) / 2) - 1 = uz m by rw [HZ.out]), rfl⟩
  · have hz : uz m = (m : Int) / 2 := if_pos (by omega)
    have HZ := Lib.hid hz
    have e0 : ((m : Int) % 2 == 1) = false := by rw [beq_eq_false_iff_ne]; omega
    clear hz h0
    go_enter Try.func81, Try.ntmps81
    go_wp2
    go_ret
    exact ⟨ret_int (show (m : Int) / 2 = uz m by rw [HZ.out]), rfl⟩

set_option maxRecDepth 100000 in
set_option maxHeartbeats 1000000 in
theorem varintR_any (K : Nat → Prop) (a : Option Addr) (len cap : Nat) (zs : List Int) (u : Nat) (hu2 : u < 18446744073709551616) (W : World) (hR : Rd K W .u8 a len cap zs) (hm : len ≤ 140737488340000) :
    Calls Try.prog 62 #[.slice a len cap, .int .u64 u] W fun e W' => Makes W e W' (zs ++ varN u) := by
  obtain ⟨i0, hi, hz0, hz1, hz2⟩ := info_parts Try.infoB
  have hvl := var_len hu2
  have HL : Hid (len = zs.length) := hR.hl
  obtain ⟨g5, c5, w5, hr5, hrow5, hg5, hc5, hbg5⟩ := run_append_copy' (P := Try.prog) (W.alloc (.cells #[] 5)) W.heap.size 25 25 5 i0 _ 1 .u8 Try.underlying25 hi hz0 hz1 hz2 rfl W.heap.size 0 (World.ownsRow_made W #[] 0 (Nat.le_refl _) (by decide) rfl) (.slice a len cap) zs len HL.out (hR.below ((Below.refl _ _).alloc (Nat.le_refl _) _)).reads (by unfold maxLen; omega) (by omega) (by simp)
  have HR5 := Lib.hid hr5
  have HROW5 := Lib.hid hrow5
  have HB5 : Below W.heap.size W w5 := ((Below.refl _ W).alloc (Nat.le_refl _) (.cells #[] 5)).grown hg5 (by simp) (fun k e => by cases e; exact Nat.le_refl _)
  have hc5' : Hid (len ≤ c5) := hc5
  clear hR hr5 hrow5 hg5 hbg5 hc5
  go_enter Try.func62, Try.ntmps62
  go_wp2_with (at_builtin; refine wpList_append_want (o := ⟨some 8, _, _, _, _, _⟩) _ rfl _ _ _ _ rfl _ _ rfl rfl _ _ HR5.out ?_)
  go_loopw [1, 5] (fun q v wr => ∃ (m g n c : Nat) (ys : List Int), q = .int .u64 m ∧ v = .slice (some ⟨g, 0, none⟩) n c ∧ m < 18446744073709551616 ∧ Hid (n = ys.length) ∧ Hid (ys ++ varN m = zs ++ varN u) ∧ Hid (wr.ownsRow W.heap.size 5 1 (.slice (some ⟨g, 0, none⟩) n c) n (ys.map (Value.int .u8))) ∧ Below W.heap.size W wr)
    (fun q _ _ => (intOf q).toNat)
  case atStart => exact ⟨u, g5, len, c5, zs, rfl, rfl, hu2, HL, rfl, HROW5, HB5⟩
  case round =>
    obtain ⟨m, g, n, c, ys, rfl, rfl, hm2, HN, HV, HX, hb⟩ := hrel
    have hyl : n + 1 ≤ 140737488350000 := by
      have h1 := congrArg List.length HV.out
      have h2 := HL.out
      have h3 := var_pos m
      have h4 := HN.out
      simp only [List.length_append] at h1
      omega
    by_cases hlt : m < 128
    · have HE : Hid (varN m = [(m : Int)]) := varN_lo hlt
      have hw8 : IntKind.u8.wrap (m : Int) = m := by simp [IntKind.wrap, IntKind.bits, IntKind.signed]; omega
      obtain ⟨g', c', wX, hr, hX', hgX, hcX, _⟩ := run_append_one (P := Try.prog) wr W.heap.size 25 25 5 i0 _ 1 .u8 Try.underlying25 hi hz0 hz1 hz2 rfl g n c _ HX.out m 5 (by unfold maxLen; omega) (by omega) hb.size
      have hdec : ¬ (128 ≤ m) := by omega
      have HBX : Hid (Below W.heap.size W wX) := (hb.alloc hb.size _).grown hgX (hb.alloc hb.size _).size (fun r e => by cases e; exact row_base HX.out)
      have HR := Lib.hid hr
      have HXX := Lib.hid hX'
      have HCX := Lib.hid hcX
      clear hr hX' hgX hcX
      go_wp2_with (at_builtin; refine wpList_append_want (o := ⟨some 24, _, _, _, _, _⟩) _ rfl _ _ _ _ rfl _ _ rfl rfl _ _ HR.out ?_)
      go_ret
      have e1 : n + 1 = (zs ++ varN u).length := by rw [← HV.out, HE.out, HN.out]; simp
      refine ⟨g', c', ?_, ?_, ?_, HBX.out⟩
      · rw [e1]; rfl
      · rw [← e1]; exact HCX.out
      · rw [← e1, ← HV.out, HE.out, List.map_append]; exact HXX.out
    · have HE : Hid (varN m = ((m % 128 : Nat) + 128 : Int) :: varN (m / 128)) := varN_hi hlt
      obtain ⟨g', c', wX, hr, hX', hgX, hcX, _⟩ := run_append_one (P := Try.prog) wr W.heap.size 25 25 5 i0 _ 1 .u8 Try.underlying25 hi hz0 hz1 hz2 rfl g n c _ HX.out ((m % 128 : Nat) + 128 : Int) 5 (by unfold maxLen; omega) (by omega) hb.size
      have hdec : 128 ≤ m := by omega
      have HBX : Below W.heap.size W wX := (hb.alloc hb.size _).grown hgX (hb.alloc hb.size _).size (fun r e => by cases e; exact row_base HX.out)
      have HR := Lib.hid hr
      have HXX : Hid (wX.ownsRow W.heap.size 5 1 (.slice (some ⟨g', 0, none⟩) (n + 1) c') (n + 1) ((ys ++ [((m % 128 : Nat) + 128 : Int)]).map (Value.int .u8))) := by
        show wX.ownsRow _ _ _ _ _ _
        rw [List.map_append]; exact hX'
      have HV2 : Hid ((ys ++ [((m % 128 : Nat) + 128 : Int)]) ++ varN (m / 128) = zs ++ varN u) := by show _ = _; rw [← HV.out, HE.out]; simp
      have HN2 : Hid (n + 1 = (ys ++ [((m % 128 : Nat) + 128 : Int)]).length) := by show _ = _; rw [List.length_append, HN.out]; rfl
      have hw7 : IntKind.u8.wrap ((m : Int) % 128) = ((m % 128 : Nat) : Int) := by simp [IntKind.wrap, IntKind.bits, IntKind.signed]; omega
      have hw9 : IntKind.u8.wrap (((m % 128 : Nat) : Int) + 128) = ((m % 128 : Nat) : Int) + 128 := by simp [IntKind.wrap, IntKind.bits, IntKind.signed]; omega
      clear hr hX' hgX hcX
      go_wp2_with (at_builtin; refine wpList_append_want (o := ⟨some 17, _, _, _, _, _⟩) _ rfl _ _ _ _ rfl _ _ rfl rfl _ _ HR.out ?_)
      go_roundw
      case rel => exact ⟨m / 128, g', n + 1, c', _, by go_num, rfl, by omega, HN2, HV2, HXX, HBX⟩
      case measure => simp [intOf]; omega

end Go.Proofs.Ytmbcppkdnoccbaa
