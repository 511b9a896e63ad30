/-
  Tokens are read: signs.
-/
import Derived.Test.YtohobiglnebocaaLxRead
namespace Go.Proofs.Ytohobiglnebocaa.Lx
open Go Go.RowKit Go.Shelf Go.Sort Go.ChangeShapes Go.WideShapes Go.ChangeAt
open Go.Proofs.Ytohobiglnebocaa

theorem pre_le (l : List UInt8) : Lib.hasPrefix l [60, 61] = decide (l.take 2 = [60, 61]) := by
  unfold Lib.hasPrefix
  rw [Bool.eq_iff_iff, List.isPrefixOf_iff_prefix, decide_eq_true_iff, List.prefix_iff_eq_take]
  exact ⟨fun h => h.symm, fun h => h.symm⟩
theorem sg_if (l : List UInt8) : sgN l = if decide (l.take 2 = [60, 61]) then 2 else 1 := by
  unfold sgN
  by_cases h : l.take 2 = [60, 61]
  · rw [if_pos h, decide_eq_true h]; rfl
  · rw [if_neg h, decide_eq_false h]; rfl

set_option maxRecDepth 100000 in
set_option maxHeartbeats 4000000 in
theorem sign_any {s : List UInt8} {B a : Nat} {w : World} (h : Two w B (bsOf s) a) (ha : a < s.length) (hs : s.length ≤ 1048576) :
    Calls Try.prog 57 #[.pointer (some ⟨B, 0, none⟩)] w fun e V => e = .returned (.string (bsOf ((s.drop a).take (sgN (s.drop a))))) ∧ Two V B (bsOf s) (a + sgN (s.drop a)) ∧ Kept (fun b => b ≠ B) w V := by
  have HZ := Lib.hid (bs_size s)
  have HX0 := Lib.hid (bs_drop s a)
  have HX := Lib.hid (bs_cut s a (a + sgN (s.drop a)))
  have HP := Lib.hid (fun w => Try.strings_HasPrefix (bsOf (s.drop a)) ⟨#[60, 61]⟩ w)
  rw [bs_data, show (⟨#[60, 61]⟩ : ByteArray).data.toList = [60, 61] from rfl, pre_le] at HP
  have hsg := sg_if (s.drop a)
  have hle := sg_le (l := s.drop a) (fun e => by have := congrArg List.length e; rw [List.length_drop] at this; simp at this; omega)
  rw [List.length_drop] at hle
  rw [Nat.add_sub_cancel_left] at HX
  obtain ⟨n, hn⟩ : ∃ n, sgN (s.drop a) = n := ⟨_, rfl⟩
  rw [hn] at HX hsg hle ⊢
  generalize decide ((s.drop a).take 2 = [60, 61]) = q at *
  obtain ⟨S, hS⟩ : ∃ S, bsOf s = S := ⟨_, rfl⟩
  rw [hS] at HZ HX0 HX h ⊢
  have haS : a + n ≤ S.size := by rw [HZ.out]; omega
  have hss : S.size ≤ 1048576 := by rw [HZ.out]; exact hs
  have HT1 := Lib.hid h
  clear hS hs hn h ha hle
  have c0 := HT1.out.c0
  have c1 := HT1.out.c1
  have K0 := fun d os => cell_regrown c0 d os
  have K1 := fun d os => cell_regrown c1 d os
  have hX0 := HX0.out
  have haS0 : a ≤ S.size := by omega
  obtain ⟨b, hb⟩ : ∃ b, a + n = b := ⟨_, rfl⟩
  have HBB := Lib.hid hb
  rw [hb] at HX haS ⊢
  clear hb
  cases q
  · obtain rfl : n = 1 := hsg
    go_enter Try.func57, Try.ntmps57
    go_upto_region 2 with fail
    refine wp_region_quiet_below (by kernel_rfl) (by kernel_rfl) ?_
    repeat (go_big_quiet_step (((go_at_call 69; with_reducible exact Calls.regrown_of ((HP.out _).mono fun e w' ⟨he, hw⟩ => ⟨he, hw ▸ Below.self _⟩)))))
    refine wpQuiet_nil ?_
    intro _ hw'
    obtain ⟨⟨dq, osq⟩, hw''⟩ := hw'
    subst hw''
    have HBQ : Hid (Below w.heap.size w (grow (redrawn w dq) osq)) := below_regrown w dq osq
    generalize grow (redrawn w dq) osq = WQ at *
    have HT : Hid (Two WQ B S a) := HT1.out.below HBQ.out HT1.out.lt
    have HK : Hid (Kept (fun b => b ≠ B) w WQ) := Kept.all HBQ.out
    clear K0 K1 c0 c1 hX0
    have c1 := HT.out.c1
    have hf := HT.out.f 1
    go_upto_region 5 with fail
    have HT2 := Lib.hid (HT.out.set1 (a + 1))
    have HK2 : Hid (Kept (fun b => b ≠ B) w (WQ.setCell ⟨B, 1, none⟩ (.int .i64 ((a + 1 : Nat) : Int)))) := HK.out.trans (kept_set _ _ _ _)
    obtain ⟨W2, hW2⟩ : ∃ W2, WQ.setCell ⟨B, 1, none⟩ (.int .i64 ((a + 1 : Nat) : Int)) = W2 := ⟨_, rfl⟩
    rw [hW2] at HT2 HK2
    have hW3 : WQ.setCell ⟨B, 1, none⟩ (.int .i64 ((a : Int) + 1)) = W2 := hW2
    rw [hW3]
    clear hW2 hW3 hf c1
    have hb := HBB.out
    rw [hb] at HT2
    have hsb : IntKind.i64.wrap ((b : Int) - 1) = (a : Int) := by rw [IntKind.wrap_i64]; omega
    have hab : a ≤ b := by omega
    clear hb
    have c0 := HT2.out.c0
    have c1 := HT2.out.c1
    have K0 := fun d os => cell_regrown c0 d os
    have K1 := fun d os => cell_regrown c1 d os
    refine wp_region_quiet_below (by kernel_rfl) (by kernel_rfl) ?_
    repeat (go_big_quiet_step (fail))
    refine wpQuiet_nil ?_
    intro _ hw'
    obtain ⟨⟨dq, osq⟩, hw''⟩ := hw'
    subst hw''
    have HBQ : Hid (Below W2.heap.size W2 (grow (redrawn W2 dq) osq)) := below_regrown W2 dq osq
    generalize grow (redrawn W2 dq) osq = WZ at *
    have HTZ : Hid (Two WZ B S b) := HT2.out.below HBQ.out HT2.out.lt
    have HKZ : Hid (Kept (fun b => b ≠ B) w WZ) := HK2.out.trans (Kept.all HBQ.out)
    clear K0 K1 c0 c1
    go_wp2
    go_ret
    exact ⟨by rw [← HX.out]; rfl, HTZ.out, HKZ.out⟩
  · obtain rfl : n = 2 := hsg
    go_enter Try.func57, Try.ntmps57
    go_upto_region 2 with fail
    refine wp_region_quiet_below (by kernel_rfl) (by kernel_rfl) ?_
    repeat (go_big_quiet_step (((go_at_call 69; with_reducible exact Calls.regrown_of ((HP.out _).mono fun e w' ⟨he, hw⟩ => ⟨he, hw ▸ Below.self _⟩)))))
    refine wpQuiet_nil ?_
    intro _ hw'
    obtain ⟨⟨dq, osq⟩, hw''⟩ := hw'
    subst hw''
    have HBQ : Hid (Below w.heap.size w (grow (redrawn w dq) osq)) := below_regrown w dq osq
    generalize grow (redrawn w dq) osq = WQ at *
    have HT : Hid (Two WQ B S a) := HT1.out.below HBQ.out HT1.out.lt
    have HK : Hid (Kept (fun b => b ≠ B) w WQ) := Kept.all HBQ.out
    clear K0 K1 c0 c1 hX0
    have c1 := HT.out.c1
    have hf := HT.out.f 1
    go_upto_region 5 with fail
    have HT2 := Lib.hid (HT.out.set1 (a + 2))
    have HK2 : Hid (Kept (fun b => b ≠ B) w (WQ.setCell ⟨B, 1, none⟩ (.int .i64 ((a + 2 : Nat) : Int)))) := HK.out.trans (kept_set _ _ _ _)
    obtain ⟨W2, hW2⟩ : ∃ W2, WQ.setCell ⟨B, 1, none⟩ (.int .i64 ((a + 2 : Nat) : Int)) = W2 := ⟨_, rfl⟩
    rw [hW2] at HT2 HK2
    have hW3 : WQ.setCell ⟨B, 1, none⟩ (.int .i64 ((a : Int) + 2)) = W2 := hW2
    rw [hW3]
    clear hW2 hW3 hf c1
    have hb := HBB.out
    rw [hb] at HT2
    have hsb : IntKind.i64.wrap ((b : Int) - 2) = (a : Int) := by rw [IntKind.wrap_i64]; omega
    have hab : a ≤ b := by omega
    clear hb
    have c0 := HT2.out.c0
    have c1 := HT2.out.c1
    have K0 := fun d os => cell_regrown c0 d os
    have K1 := fun d os => cell_regrown c1 d os
    refine wp_region_quiet_below (by kernel_rfl) (by kernel_rfl) ?_
    repeat (go_big_quiet_step (fail))
    refine wpQuiet_nil ?_
    intro _ hw'
    obtain ⟨⟨dq, osq⟩, hw''⟩ := hw'
    subst hw''
    have HBQ : Hid (Below W2.heap.size W2 (grow (redrawn W2 dq) osq)) := below_regrown W2 dq osq
    generalize grow (redrawn W2 dq) osq = WZ at *
    have HTZ : Hid (Two WZ B S b) := HT2.out.below HBQ.out HT2.out.lt
    have HKZ : Hid (Kept (fun b => b ≠ B) w WZ) := HK2.out.trans (Kept.all HBQ.out)
    clear K0 K1 c0 c1
    go_wp2
    go_ret
    exact ⟨by rw [← HX.out]; rfl, HTZ.out, HKZ.out⟩

end Go.Proofs.Ytohobiglnebocaa.Lx
