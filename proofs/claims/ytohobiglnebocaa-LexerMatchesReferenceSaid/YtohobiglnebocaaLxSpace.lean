/-
  White space is skipped.
-/
import Derived.Test.YtohobiglnebocaaLxScan
namespace Go.Proofs.Ytohobiglnebocaa.Lx
open Go Go.RowKit Go.Shelf Go.Sort Go.ChangeShapes Go.WideShapes Go.ChangeAt
open Go.Proofs.Ytohobiglnebocaa

theorem bl_zero : blB 0 = false := by decide
theorem ws_blank : ∀ l : List UInt8, ws l = spN blB l + ws (l.drop (spN blB l))
  | [] => rfl
  | b :: l => by
    unfold spN
    split
    · rename_i h
      have ih := ws_blank l
      rw [List.drop_succ_cons]
      unfold ws at *
      rw [wsN, if_pos h, ih]; omega
    · rw [List.drop_zero, Nat.zero_add]
theorem ws_line : ∀ l : List UInt8, wsN true l = spN nlB l + ws (l.drop (spN nlB l))
  | [] => rfl
  | b :: l => by
    unfold spN
    by_cases h : b.toNat = 10
    · have h2 : nlB b = false := by unfold nlB; rw [decide_eq_true h]; rfl
      have h3 : blB b = true := by unfold blB; rw [decide_eq_true h]; simp
      rw [h2, if_neg (by decide), List.drop_zero, Nat.zero_add]
      unfold ws
      rw [wsN, if_pos h, wsN, if_pos h3]
    · have h2 : nlB b = true := by unfold nlB; rw [decide_eq_false h]; rfl
      rw [if_pos h2, List.drop_succ_cons, wsN, if_neg h, ws_line l]; omega
theorem ws_hash {l : List UInt8} (hl : l ≠ []) (h : (hd l).toNat = 35) : ws l = spN nlB l + ws (l.drop (spN nlB l)) ∧ 0 < spN nlB l := by
  cases l with
  | nil => exact absurd rfl hl
  | cons b l =>
    rw [hd_cons] at h
    have h1 : blB b = false := by unfold blB; rw [h]; rfl
    have h2 : nlB b = true := by unfold nlB; rw [h]; rfl
    have h3 : spN nlB (b :: l) = spN nlB l + 1 := by rw [spN, if_pos h2]
    rw [h3]
    refine ⟨?_, by omega⟩
    rw [List.drop_succ_cons]
    unfold ws
    rw [wsN, if_neg (by rw [h1]; decide), if_pos h, ws_line l]
    unfold ws; omega
theorem ws_other {l : List UInt8} (h1 : blB (hd l) = false) (h : (hd l).toNat ≠ 35) : ws l = 0 := by
  cases l with
  | nil => rfl
  | cons b l =>
    rw [hd_cons] at h h1
    unfold ws
    rw [wsN, if_neg (by rw [h1]; decide), if_neg h]

theorem skip_at {s : List UInt8} {k : Nat} (hk : k ≤ s.length) (p : UInt8 → Bool) : k + spN p (s.drop k) ≤ s.length := by
  have := sp_le p (s.drop k)
  rw [List.length_drop] at this; omega

set_option maxRecDepth 100000 in
set_option maxHeartbeats 2000000 in
theorem skipSpace_any {s : List UInt8} {B a : Nat} {w : World} (h : Two w B (bsOf s) a) (ha : a ≤ s.length) (hs : s.length ≤ 1048576) :
    Calls Try.prog 42 #[.pointer (some ⟨B, 0, none⟩)] w fun e V => e = .returned (.tuple #[]) ∧ Two V B (bsOf s) (a + ws (s.drop a)) ∧ Kept (fun b => b ≠ B) w V := by
  have HZ := Lib.hid (bs_size s)
  have HAT := Lib.hid (bs_at s)
  have HS := Lib.hid hs
  have H0 := Lib.hid (skip_any isBlank_t h ha hs)
  have HA1 := Lib.hid (skip_at ha blB)
  have HW0 := Lib.hid (ws_blank (s.drop a))
  have HS0 := Lib.hid (sp_stop blB bl_zero (s.drop a))
  obtain ⟨a1, ha1⟩ : ∃ a1, a + spN blB (s.drop a) = a1 := ⟨_, rfl⟩
  have HA2 := Lib.hid ha1
  rw [ha1] at H0 HA1
  obtain ⟨S, hS⟩ : ∃ S, bsOf s = S := ⟨_, rfl⟩
  have HSS := Lib.hid hS
  rw [hS] at HZ HAT H0 ⊢
  have hsz : S.size ≤ 1048576 := by rw [HZ.out]; exact hs
  clear hS hs ha h ha1
  go_enter Try.func42, Try.ntmps42
  go_wp2_with fail
  refine H0.out.mono ?_
  rintro e w1 ⟨rfl, ht1, hk1⟩
  have HT1 := Lib.hid ht1
  have HK1 := Lib.hid hk1
  clear ht1 hk1 H0
  go_wp2
  go_loopw [] (fun wr => ∃ k : Nat, Hid (Two wr B S k ∧ k ≤ S.size ∧ k + ws (s.drop k) = a + ws (s.drop a) ∧ blB (hd (s.drop k)) = false ∧ Kept (fun b => b ≠ B) w wr)) (fun wr => S.size - (intOf ((wr.cell? ⟨B, 1, none⟩).getD undef)).toNat)
  case atStart => exact ⟨a1, HT1.out, by rw [HZ.out]; exact HA1.out, by have h1 := HW0.out; have h2 := HA2.out; rw [List.drop_drop, h2] at h1; omega, by have h1 := HS0.out; rw [List.drop_drop, HA2.out] at h1; exact h1, HK1.out⟩
  case round =>
    obtain ⟨k, HI⟩ := hrel
    have hk := HI.out.2.1
    have c0 := HI.out.1.c0
    have c1 := HI.out.1.c1
    have K0 := fun d os => cell_regrown c0 d os
    have K1 := fun d os => cell_regrown c1 d os
    by_cases hlt : k < S.size
    · have hx := HAT.out k hlt
      have HD := Lib.hid (hd_drop s k)
      by_cases h35 : (s[k]?.getD 0).toNat = 35
      · have HH := Lib.hid (ws_hash (l := s.drop k) (fun e => by have := congrArg List.length e; rw [List.length_drop] at this; have h2 := HZ.out; simp at this; omega) (by rw [hd_drop]; exact h35))
        have e1 : (((s[k]?.getD 0).toNat : Int) == 35) = true := by rw [h35]; rfl
        clear h35
        generalize s[k]?.getD 0 = x at *
        go_upto_region 1 with fail
        refine wp_region_quiet_below (by kernel_rfl) (by kernel_rfl) ?_
        repeat (go_big_quiet_step (fail))
        refine wpQuiet_nil ?_
        intro _ hw'
        obtain ⟨⟨dq, osq⟩, hw''⟩ := hw'
        subst hw''
        have HBQ : Hid (Below wr.heap.size wr (grow (redrawn wr dq) osq)) := below_regrown wr dq osq
        generalize grow (redrawn wr dq) osq = WQ at *
        have HT : Hid (Two WQ B S k) := HI.out.1.below HBQ.out HI.out.1.lt
        have HK : Hid (Kept (fun b => b ≠ B) w WQ) := HI.out.2.2.2.2.trans (Kept.all HBQ.out)
        clear K0 K1 c0 c1 hx
        have HC1 := Lib.hid (skip_any (s := s) (a := k) isNoLF_t (HSS.out ▸ HT.out) (by rw [← HZ.out]; exact hk) HS.out)
        rw [HSS.out] at HC1
        go_wp2_with fail
        refine HC1.out.mono ?_
        rintro e w2 ⟨rfl, ht2, hk2⟩
        have HT2 := Lib.hid ht2
        have HK2 : Hid (Kept (fun b => b ≠ B) w w2) := HK.out.trans hk2
        have HL2 := Lib.hid (skip_at (s := s) (k := k) (by rw [← HZ.out]; exact hk) nlB)
        clear ht2 hk2 HC1
        obtain ⟨k2, hk2⟩ : ∃ k2, k + spN nlB (s.drop k) = k2 := ⟨_, rfl⟩
        have HK22 := Lib.hid hk2
        rw [hk2] at HT2 HL2
        clear hk2
        have HC2 := Lib.hid (skip_any (s := s) (a := k2) isBlank_t (HSS.out ▸ HT2.out) HL2.out HS.out)
        rw [HSS.out] at HC2
        have HW2 := Lib.hid (ws_blank (s.drop k2))
        have HS2 := Lib.hid (sp_stop blB bl_zero (s.drop k2))
        have HL3 := Lib.hid (skip_at HL2.out blB)
        go_wp2_with fail
        refine HC2.out.mono ?_
        rintro e w3 ⟨rfl, ht3, hk3⟩
        have HT3 := Lib.hid ht3
        have HK3 : Hid (Kept (fun b => b ≠ B) w w3) := HK2.out.trans hk3
        clear ht3 hk3 HC2
        obtain ⟨k3, hk3⟩ : ∃ k3, k2 + spN blB (s.drop k2) = k3 := ⟨_, rfl⟩
        have HK33 := Lib.hid hk3
        rw [hk3] at HT3 HL3
        clear hk3
        go_wp2
        go_roundw
        case rel =>
          refine ⟨k3, HT3.out, by rw [HZ.out]; exact HL3.out, ?_, ?_, HK3.out⟩
          · have h1 := HH.out.1; have h2 := HW2.out; have h3 := HK22.out; have h4 := HK33.out; have h5 := HI.out.2.2.1
            rw [List.drop_drop, h3] at h1
            rw [List.drop_drop, h4] at h2
            omega
          · have h1 := HS2.out; rw [List.drop_drop, HK33.out] at h1; exact h1
        case measure =>
          rw [HT3.out.c1, HI.out.1.c1]
          have h1 := HH.out.2; have h3 := HK22.out; have h4 := HK33.out; have h5 := HL3.out; have h6 := HZ.out
          simp [intOf]; omega
      · have HE := Lib.hid (ws_other (l := s.drop k) HI.out.2.2.2.1 (by rw [hd_drop]; exact h35))
        have e1 : (((s[k]?.getD 0).toNat : Int) == 35) = false := by rw [beq_eq_false_iff_ne]; omega
        clear h35
        generalize s[k]?.getD 0 = x at *
        go_upto_region 1 with fail
        refine wp_region_quiet_below (by kernel_rfl) (by kernel_rfl) ?_
        repeat (go_big_quiet_step (fail))
        refine wpQuiet_nil ?_
        intro _ hw'
        obtain ⟨⟨dq, osq⟩, hw''⟩ := hw'
        subst hw''
        have HBQ : Hid (Below wr.heap.size wr (grow (redrawn wr dq) osq)) := below_regrown wr dq osq
        generalize grow (redrawn wr dq) osq = WQ at *
        have HT : Hid (Two WQ B S k) := HI.out.1.below HBQ.out HI.out.1.lt
        have HK : Hid (Kept (fun b => b ≠ B) w WQ) := HI.out.2.2.2.2.trans (Kept.all HBQ.out)
        clear K0 K1 c0 c1 hx
        go_wp2
        go_end0
        exact ⟨rfl, by have := HI.out.2.2.1; have h2 := HE.out; rw [← this, h2]; exact HT.out, HK.out⟩
    · have hke : k = S.size := by omega
      have HE : Hid (ws (s.drop k) = 0) := by
        show _ = _
        rw [List.drop_eq_nil_of_le (by have := HZ.out; omega)]; rfl
      clear hke
      have hd1 : decide ((k : Int) < (S.size : Int)) = false := decide_eq_false (by omega)
      go_upto_region 1 with fail
      refine wp_region_quiet_below (by kernel_rfl) (by kernel_rfl) ?_
      repeat (go_big_quiet_step (fail))
      refine wpQuiet_nil ?_
      intro _ hw'
      obtain ⟨⟨dq, osq⟩, hw''⟩ := hw'
      subst hw''
      have HBQ : Hid (Below wr.heap.size wr (grow (redrawn wr dq) osq)) := below_regrown wr dq osq
      generalize grow (redrawn wr dq) osq = WQ at *
      have HT : Hid (Two WQ B S k) := HI.out.1.below HBQ.out HI.out.1.lt
      have HK : Hid (Kept (fun b => b ≠ B) w WQ) := HI.out.2.2.2.2.trans (Kept.all HBQ.out)
      clear K0 K1 c0 c1
      go_wp2
      go_end0
      exact ⟨rfl, by have := HI.out.2.2.1; have h2 := HE.out; rw [← this, h2]; exact HT.out, HK.out⟩

end Go.Proofs.Ytohobiglnebocaa.Lx
