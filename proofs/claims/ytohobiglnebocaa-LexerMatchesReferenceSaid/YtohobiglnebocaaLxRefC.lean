/-
  Runs, spellings, joined tokens and lines for the reference.
-/
import Derived.Test.YtohobiglnebocaaLxRefB
import Derived.Test.YtohobiglnebocaaLxWrap
namespace Go.Proofs.Ytohobiglnebocaa.Lx
open Go Go.RowKit Go.Shelf Go.Sort Go.ChangeShapes Go.WideShapes Go.ChangeAt
open Go.Proofs.Ytohobiglnebocaa

theorem bs_two (a b : List UInt8) : bsOf a ++ bsOf b = bsOf (a ++ b) := by
  apply ByteArray.ext
  rw [ByteArray.data_append]
  show a.toArray ++ b.toArray = (a ++ b).toArray
  simp

/-! ### Runs -/

def runP (l : Bool) (b : UInt8) : Bool := digB b || (l && letB b)
theorem run_dig : runP false = digB := by funext b; unfold runP; simp
theorem run_ld : runP true = ldB := by funext b; unfold runP ldB; rw [Bool.true_and, Bool.or_comm]

set_option maxRecDepth 100000 in
set_option maxHeartbeats 4000000 in
theorem run_any (s : List UInt8) (a : Nat) (l : Bool) (hs : s.length ≤ 1048576) (ha : a ≤ s.length) (w : World) : Calls Try.prog 45 #[.string (bsOf s), .int .i64 (a : Int), .bool l] w fun e w' => e = .returned (.int .i64 ((a + spN (runP l) (s.drop a) : Nat) : Int)) ∧ w = w' := by
  have HZ := Lib.hid (bs_size s)
  have HAT := Lib.hid (bs_at s)
  obtain ⟨z, hz⟩ : ∃ z, a + spN (runP l) (s.drop a) = z := ⟨_, rfl⟩
  have HZZ := Lib.hid hz
  rw [hz]
  clear hz
  obtain ⟨S, hS⟩ : ∃ S, bsOf s = S := ⟨_, rfl⟩
  rw [hS] at HZ HAT ⊢
  have hss : S.size ≤ 1048576 := by rw [HZ.out]; exact hs
  have has : a ≤ S.size := by rw [HZ.out]; exact ha
  clear hS hs ha
  go_enter Try.func45, Try.ntmps45
  go_wp2
  go_loop [1] (fun i => ∃ k : Nat, k ≤ S.size ∧ i = .int .i64 (k : Int) ∧ Hid (k + spN (runP l) (s.drop k) = z)) (fun i => S.size - (intOf i).toNat)
  case atStart => exact ⟨a, has, rfl, HZZ.out⟩
  case round =>
    obtain ⟨k, hk, rfl, HI⟩ := hrel
    by_cases hlt : k < S.size
    · have hx := HAT.out k hlt
      have HD := Lib.hid (fun w => digit_ref (s[k]?.getD 0) w)
      have HL := Lib.hid (fun w => letter_ref (s[k]?.getD 0) w)
      have HLS : Hid (k < s.length) := by show _ < _; rw [← HZ.out]; exact hlt
      have HST := Lib.hid (sp_step (runP l) HLS.out)
      have HP : Hid (runP l (s[k]?.getD 0) = (digB (s[k]?.getD 0) || (l && letB (s[k]?.getD 0)))) := rfl
      have HYES := Lib.hid (fun (h : runP l (s[k]?.getD 0) = true) => show k + 1 + spN (runP l) (s.drop (k + 1)) = z from by
        have h1 := HST.out
        rw [h, if_pos rfl] at h1
        have h2 := HI.out
        omega)
      have HNOT := Lib.hid (fun (h : runP l (s[k]?.getD 0) = false) => show k = z from by
        have h1 := HST.out
        rw [h, if_neg (by decide)] at h1
        have h2 := HI.out
        omega)
      clear HST
      generalize s[k]?.getD 0 = x at *
      cases hd : digB x
      · rw [hd] at HD HP
        clear hd
        cases l
        · have HF := Lib.hid (HNOT.out (by rw [HP.out]; rfl))
          go_wp2_with (go_at_call 41; ((with_reducible refine (HD.out _).mono ?_); rintro e w' ⟨rfl, rfl⟩))
          go_ret
          exact ⟨by rw [HF.out]; rfl, rfl⟩
        · cases hl : letB x
          · have HF := Lib.hid (HNOT.out (by rw [HP.out, hl]; rfl))
            rw [hl] at HL
            clear hl
            go_wp2_with (first
              | (go_at_call 41; ((with_reducible refine (HD.out _).mono ?_); rintro e w' ⟨rfl, rfl⟩))
              | (go_at_call 40; ((with_reducible refine (HL.out _).mono ?_); rintro e w' ⟨rfl, rfl⟩)))
            go_ret
            exact ⟨by rw [HF.out]; rfl, rfl⟩
          · have HS := Lib.hid (HYES.out (by rw [HP.out, hl]; rfl))
            rw [hl] at HL
            clear hl
            go_wp2_with (first
              | (go_at_call 41; ((with_reducible refine (HD.out _).mono ?_); rintro e w' ⟨rfl, rfl⟩))
              | (go_at_call 40; ((with_reducible refine (HL.out _).mono ?_); rintro e w' ⟨rfl, rfl⟩)))
            go_round
            case rel => exact ⟨k + 1, by omega, by go_num, HS.out⟩
            case measure => simp [intOf]; omega
      · have HS := Lib.hid (HYES.out (by rw [HP.out, hd]; rfl))
        rw [hd] at HD
        clear hd
        go_wp2_with (go_at_call 41; ((with_reducible refine (HD.out _).mono ?_); rintro e w' ⟨rfl, rfl⟩))
        go_round
        case rel => exact ⟨k + 1, by omega, by go_num, HS.out⟩
        case measure => simp [intOf]; omega
    · obtain rfl : k = S.size := by omega
      have HF : Hid (S.size = z) := by
        have h2 := HI.out
        rw [sp_end (runP l) (by rw [← HZ.out]; exact Nat.le_refl _)] at h2
        exact h2
      clear hlt hk
      go_wp2
      go_ret
      exact ⟨by rw [HF.out]; rfl, rfl⟩

/-! ### Spellings -/

set_option maxRecDepth 100000 in
set_option maxHeartbeats 4000000 in
theorem spellR_any (k a : Int) (s : List UInt8) (hs : s.length ≤ 1048576) (w : World) : Calls Try.prog 10 #[encK k (bsOf s) a] w fun e w' => e = .returned (.string (bsOf (spl k s))) ∧ Below w.heap.size w w' := by
  have hb0 : Below w.heap.size w (w.alloc (.cells #[.int .i64 k, .string (bsOf s), .int .i64 a] 29)) := (Below.refl _ _).alloc (Nat.le_refl _) _
  have hT := Trio.new w 29 (.int .i64 k) (.string (bsOf s)) (.int .i64 a)
  have HVA := Lib.hid (validR_any k a s hs (w.alloc (.cells #[.int .i64 k, .string (bsOf s), .int .i64 a] 29)))
  have HB := Lib.hid hb0
  have HT := Lib.hid hT
  have HS1 := Lib.hid hs
  clear hb0 hT hs
  unfold encK at *
  have HL := Lib.hid (quoteL_eq s)
  have HAT := Lib.hid (bs_at s)
  have HZ := Lib.hid (bs_size s)
  have HCUT := Lib.hid (fun p q => bs_cut s p q)
  obtain ⟨V0, hV0⟩ : ∃ V0, w.alloc (.cells #[.int .i64 k, .string (bsOf s), .int .i64 a] 29) = V0 := ⟨_, rfl⟩
  rw [hV0] at HVA HB HT
  obtain ⟨B0, hB0⟩ : ∃ B0, w.heap.size = B0 := ⟨_, rfl⟩
  rw [hB0] at HT
  have q0 := HT.out.c0
  have q1 := HT.out.c1
  have q2 := HT.out.c2
  obtain ⟨z, hz⟩ : ∃ z, vld k s = z := ⟨_, rfl⟩
  have HZ2 := Lib.hid hz
  rw [hz] at HVA
  clear hz
  obtain ⟨y, hy⟩ : ∃ y, spl k s = y := ⟨_, rfl⟩
  have HY := Lib.hid hy
  rw [hy]
  clear hy
  go_enter Try.func10, Try.ntmps10
  go_upto_region 1 with fail
  have HB0 := Lib.hid hB0
  clear hV0 hB0
  obtain ⟨S, hS⟩ : ∃ S, bsOf s = S := ⟨_, rfl⟩
  rw [hS] at HVA HT HAT HZ HCUT q1
  have HSS := Lib.hid hS
  clear hS
  go_wp2_with fail
  refine HVA.out.mono ?_
  rintro e w1 ⟨rfl, hb1⟩
  have HT1 := Lib.hid (HT.out.below hb1 HT.out.lt)
  have HB1 : Hid (Below w.heap.size w w1) := HB.out.trans (hb1.mono HB.out.size)
  clear hb1 q0 q1 q2
  have q0 := HT1.out.c0
  have q1 := HT1.out.c1
  cases z
  · have HE : Hid (y = []) := HY.out.symm.trans (spl_no HZ2.out)
    go_wp2
    go_ret
    exact ⟨by rw [HE.out]; rfl, HB1.out⟩
  · by_cases h3 : k = 3
    · subst h3
      have HE : Hid (quoteL s = y) := HL.out.trans ((spl_3 HZ2.out).symm.trans HY.out)
      have h40 : S.size ≤ 40 := by rw [HZ.out]; exact vld_len HZ2.out
      go_wp2
      go_loop [3, 4] (fun ov iv => ∃ j : Nat, j ≤ S.size ∧ iv = .int .i64 (j : Int) ∧ ov = .string (bsOf (34 :: quB (s.take j)))) (fun _ i => S.size - (intOf i).toNat)
      case atStart => exact ⟨0, Nat.zero_le _, rfl, rfl⟩
      case round =>
        obtain ⟨j, hj, rfl, rfl⟩ := hrel
        have hAS : (bsOf (34 :: quB (s.take j))).size ≤ 81 := by
          rw [bs_size]
          have h1 := quB_len (s.take j)
          have h2 := List.length_take_le j s
          simp; omega
        by_cases hlt : j < S.size
        · have hx := HAT.out j hlt
          obtain ⟨m, hm⟩ : ∃ m, j + 1 = m := ⟨_, rfl⟩
          have hjm : (j : Int) + 1 = (m : Int) := by omega
          have hjl : j < s.length := by rw [← HZ.out]; exact hlt
          have hcut := HCUT.out j m
          rw [show m - j = 1 by omega, List.drop_eq_getElem_cons hjl, show s[j] = s[j]?.getD 0 by rw [List.getElem?_eq_getElem hjl]; rfl] at hcut
          rw [show (s[j]?.getD 0 :: s.drop (j + 1)).take 1 = [s[j]?.getD 0] from rfl] at hcut
          have hts := take_snoc8 s j hjl
          rw [hm] at hts
          have hq : quB (s.take m) = quB (s.take j) ++ quC (s[j]?.getD 0) := by rw [hts, quB_snoc]
          have HM := Lib.hid hm
          clear hts hm
          have hBS : (bsOf [s[j]?.getD 0]).size = 1 := by rw [bs_size]; rfl
          by_cases hqt : (s[j]?.getD 0) = 34 ∨ (s[j]?.getD 0) = 92
          · have hc1 := bs_two (34 :: quB (s.take j)) [92]
            rw [show bsOf [92] = (⟨#[92]⟩ : ByteArray) from rfl] at hc1
            have hc2 := bs_two (34 :: quB (s.take j) ++ [92]) [s[j]?.getD 0]
            have HG : Hid (34 :: quB (s.take j) ++ [92] ++ [s[j]?.getD 0] = 34 :: quB (s.take m)) := by
              show _ = _
              rw [hq, quC, if_pos hqt]; simp
            rw [HG.out] at hc2
            have hA2 : (bsOf (34 :: quB (s.take j) ++ [92])).size ≤ 82 := by
              rw [bs_size, List.length_append]; rw [bs_size] at hAS; simp at hAS ⊢; omega
            have hnn : (s[j]?.getD 0).toNat = 34 ∨ (s[j]?.getD 0).toNat = 92 := by
              rcases hqt with h | h
              · exact .inl (by rw [h]; rfl)
              · exact .inr (by rw [h]; rfl)
            clear hq hqt HG hjl
            generalize bsOf [s[j]?.getD 0] = XB at *
            generalize s[j]?.getD 0 = x at *
            generalize bsOf (34 :: quB (s.take j) ++ [92]) = A2 at *
            generalize bsOf (34 :: quB (s.take j)) = A at *
            generalize hA3 : bsOf (34 :: quB (s.take m)) = A3 at *
            have HA3 := Lib.hid hA3
            clear hA3
            rcases hnn with hn | hn
            all_goals
              go_wp2
              go_round
              case rel => exact ⟨m, by have := HM.out; omega, by rw [← hjm], by rw [HA3.out]⟩
              case measure => have := HM.out; simp [intOf]; omega
          · have hc2 := bs_two (34 :: quB (s.take j)) [s[j]?.getD 0]
            have HG : Hid (34 :: quB (s.take j) ++ [s[j]?.getD 0] = 34 :: quB (s.take m)) := by
              show _ = _
              rw [hq, quC, if_neg hqt]; simp
            rw [HG.out] at hc2
            have hn1 : ¬ (s[j]?.getD 0).toNat = 34 := fun h => hqt (.inl ((byte_nat _ 34 (by decide)).2 h))
            have hn2 : ¬ (s[j]?.getD 0).toNat = 92 := fun h => hqt (.inr ((byte_nat _ 92 (by decide)).2 h))
            have e34 : (((s[j]?.getD 0).toNat : Int) == 34) = false := beq_false_of_ne (by omega)
            have e92 : (((s[j]?.getD 0).toNat : Int) == 92) = false := beq_false_of_ne (by omega)
            clear hq hqt HG hjl hn1 hn2
            generalize bsOf [s[j]?.getD 0] = XB at *
            generalize s[j]?.getD 0 = x at *
            generalize bsOf (34 :: quB (s.take j)) = A at *
            generalize hA3 : bsOf (34 :: quB (s.take m)) = A3 at *
            have HA3 := Lib.hid hA3
            clear hA3
            go_wp2
            go_round
            case rel => exact ⟨m, by have := HM.out; omega, by rw [← hjm], by rw [HA3.out]⟩
            case measure => have := HM.out; simp [intOf]; omega
        · obtain rfl : j = S.size := by omega
          have hc := bs_two (34 :: quB (s.take S.size)) [34]
          rw [show bsOf [34] = (⟨#[34]⟩ : ByteArray) from rfl] at hc
          have HG : Hid (34 :: quB (s.take S.size) ++ [34] = y) := by
            show _ = _
            rw [HZ.out, List.take_length, ← HE.out]; rfl
          rw [HG.out] at hc
          clear HG hlt hj
          generalize bsOf (34 :: quB (s.take S.size)) = A at *
          go_wp2
          go_ret
          exact ⟨rfl, HB1.out⟩
    · have e3 : (k == 3) = false := beq_false_of_ne h3
      have HE : Hid (s = y) := (spl_k HZ2.out h3).symm.trans HY.out
      clear h3
      go_wp2
      go_ret
      exact ⟨by rw [← HE.out, HSS.out]; rfl, HB1.out⟩

end Go.Proofs.Ytohobiglnebocaa.Lx
