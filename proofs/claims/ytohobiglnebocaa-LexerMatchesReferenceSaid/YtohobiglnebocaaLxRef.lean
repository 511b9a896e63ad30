/-
  What is valid for the reference; its white space.
-/
import Derived.Test.YtohobiglnebocaaLxSpace
import Derived.Test.YtohobiglnebocaaLxTok
import Derived.Test.YtohobiglnebocaaLxBack
namespace Go.Proofs.Ytohobiglnebocaa.Lx
open Go Go.RowKit Go.Shelf Go.Sort Go.ChangeShapes Go.WideShapes Go.ChangeAt
open Go.Proofs.Ytohobiglnebocaa

theorem letter_ref : Says 40 letB := by
  intro b w
  have e : letB b = (decide (97 ≤ b.toNat) && decide (b.toNat ≤ 122)) := rfl
  rw [e]; clear e
  generalize b.toNat = n
  go_enter Try.func40, Try.ntmps40
  by_cases h : 97 ≤ n
  · go_wp2
    go_ret
    exact ⟨ret_b (by simp [h]; omega), rfl⟩
  · go_wp2
    go_ret
    exact ⟨ret_b (by simp), rfl⟩
theorem digit_ref : Says 41 digB := by
  intro b w
  have e : digB b = (decide (48 ≤ b.toNat) && decide (b.toNat ≤ 57)) := rfl
  rw [e]; clear e
  generalize b.toNat = n
  go_enter Try.func41, Try.ntmps41
  by_cases h : 48 ≤ n
  · go_wp2
    go_ret
    exact ⟨ret_b (by simp [h]; omega), rfl⟩
  · go_wp2
    go_ret
    exact ⟨ret_b (by simp), rfl⟩

/-! ### Words -/

theorem word_yes {s : List UInt8} (h0 : 1 ≤ s.length) (h16 : s.length ≤ 16) (h : ∀ j, j < s.length → letB (s[j]?.getD 0) = true ∨ (j ≠ 0 ∧ digB (s[j]?.getD 0) = true)) : wordB s = true := by
  have h1 : letB (hd s) = true := by
    rcases h 0 (by omega) with h | h
    · exact h
    · exact absurd rfl h.1
  have h2 : s.all ldB = true := all_of fun j hj => by
    unfold ldB
    rcases h j hj with h | h
    · rw [h]; rfl
    · rw [h.2]; simp
  unfold wordB
  rw [decide_eq_true (by omega), decide_eq_true h16, h1, h2]; rfl
theorem word_size {s : List UInt8} (h : ¬ (1 ≤ s.length ∧ s.length ≤ 16)) : wordB s = false := by
  unfold wordB
  by_cases h0 : 0 < s.length
  · rw [decide_eq_false (p := s.length ≤ 16) (by omega)]; simp
  · rw [decide_eq_false h0]; rfl
theorem word_no {s : List UInt8} {k : Nat} (hk : k < s.length) (h1 : letB (s[k]?.getD 0) = false) (h2 : k = 0 ∨ digB (s[k]?.getD 0) = false) : wordB s = false := by
  cases hw : wordB s
  · rfl
  · unfold wordB at hw
    simp only [Bool.and_eq_true] at hw
    rcases h2 with rfl | h2
    · have : letB (s[0]?.getD 0) = true := hw.1.2
      rw [h1] at this; cases this
    · have := List.all_eq_true.1 hw.2 (s[k]'hk) (List.getElem_mem hk)
      rw [List.getElem?_eq_getElem hk] at h1 h2
      unfold ldB at this
      rw [show letB s[k] = false from h1, show digB s[k] = false from h2] at this
      cases this

set_option maxRecDepth 100000 in
set_option maxHeartbeats 2000000 in
theorem word_ref (s : List UInt8) (hs : s.length ≤ 1048576) (w : World) : Calls Try.prog 22 #[.string (bsOf s)] w fun e w' => e = .returned (.bool (wordB s)) ∧ w = w' := by
  have HZ := Lib.hid (bs_size s)
  have HAT := Lib.hid (bs_at s)
  obtain ⟨z, hz⟩ : ∃ z, wordB s = z := ⟨_, rfl⟩
  have HY := Lib.hid (fun a b c => hz.symm.trans (@word_yes s a b c))
  have HSZ := Lib.hid (fun a => hz.symm.trans (@word_size s a))
  have HNO := Lib.hid (fun k a b c => hz.symm.trans (@word_no s k a b c))
  rw [hz]
  clear hz
  obtain ⟨S, hS⟩ : ∃ S, bsOf s = S := ⟨_, rfl⟩
  rw [hS] at HZ HAT ⊢
  have hss : S.size ≤ 1048576 := by rw [HZ.out]; exact hs
  clear hS hs
  go_enter Try.func22, Try.ntmps22
  go_wp2
  go_loop [3] (fun i => ∃ k : Nat, k ≤ S.size ∧ i = .int .i64 (k : Int) ∧ Hid (∀ j, j < k → letB (s[j]?.getD 0) = true ∨ (j ≠ 0 ∧ digB (s[j]?.getD 0) = true))) (fun i => S.size - (intOf i).toNat)
  case atStart => exact ⟨0, Nat.zero_le _, rfl, fun j h => by omega⟩
  case round =>
    obtain ⟨k, hk, rfl, HI⟩ := hrel
    by_cases hlt : k < S.size
    · have hx := HAT.out k hlt
      have HL := Lib.hid (fun w => letter_ref (s[k]?.getD 0) w)
      have HD := Lib.hid (fun w => digit_ref (s[k]?.getD 0) w)
      have HLS : Hid (k < s.length) := by show _ < _; rw [← HZ.out]; exact hlt
      have HSN := Lib.hid (fun (h : letB (s[k]?.getD 0) = true ∨ (k ≠ 0 ∧ digB (s[k]?.getD 0) = true)) (j : Nat) (hj : j < k + 1) => show letB (s[j]?.getD 0) = true ∨ (j ≠ 0 ∧ digB (s[j]?.getD 0) = true) from by
        by_cases e : j = k
        · rw [e]; exact h
        · exact HI.out j (by omega))
      have HN := Lib.hid (fun a b => HNO.out k HLS.out a b)
      generalize s[k]?.getD 0 = x at *
      cases hl : letB x
      · cases hd : digB x
        · have HF := Lib.hid (HN.out hl (.inr hd))
          rw [hl] at HL
          rw [hd] at HD
          clear hl hd
          by_cases hk0 : k = 0
          · subst hk0
            go_wp2_with (first
              | (go_at_call 40; ((with_reducible refine (HL.out _).mono ?_); rintro e w' ⟨rfl, rfl⟩))
              | (go_at_call 41; ((with_reducible refine (HD.out _).mono ?_); rintro e w' ⟨rfl, rfl⟩)))
            go_ret
            exact ⟨ret_b HF.out.symm, rfl⟩
          · have hk1 : ((k : Int) == 0) = false := beq_false_of_ne (by omega)
            go_wp2_with (first
              | (go_at_call 40; ((with_reducible refine (HL.out _).mono ?_); rintro e w' ⟨rfl, rfl⟩))
              | (go_at_call 41; ((with_reducible refine (HD.out _).mono ?_); rintro e w' ⟨rfl, rfl⟩)))
            go_ret
            exact ⟨ret_b HF.out.symm, rfl⟩
        · by_cases hk0 : k = 0
          · have HF := Lib.hid (HN.out hl (.inl hk0))
            rw [hl] at HL
            rw [hd] at HD
            clear hl hd
            subst hk0
            go_wp2_with (first
              | (go_at_call 40; ((with_reducible refine (HL.out _).mono ?_); rintro e w' ⟨rfl, rfl⟩))
              | (go_at_call 41; ((with_reducible refine (HD.out _).mono ?_); rintro e w' ⟨rfl, rfl⟩)))
            go_ret
            exact ⟨ret_b HF.out.symm, rfl⟩
          · have HS := Lib.hid (HSN.out (.inr ⟨hk0, hd⟩))
            have hk1 : ((k : Int) == 0) = false := beq_false_of_ne (by omega)
            rw [hl] at HL
            rw [hd] at HD
            clear hl hd
            go_wp2_with (first
              | (go_at_call 40; ((with_reducible refine (HL.out _).mono ?_); rintro e w' ⟨rfl, rfl⟩))
              | (go_at_call 41; ((with_reducible refine (HD.out _).mono ?_); rintro e w' ⟨rfl, rfl⟩)))
            go_round
            case rel => exact ⟨k + 1, by omega, by go_num, HS.out⟩
            case measure => simp [intOf]; omega
      · have HS := Lib.hid (HSN.out (.inl hl))
        rw [hl] at HL
        clear hl
        go_wp2_with (go_at_call 40; ((with_reducible refine (HL.out _).mono ?_); rintro e w' ⟨rfl, rfl⟩))
        go_round
        case rel => exact ⟨k + 1, by omega, by go_num, HS.out⟩
        case measure => simp [intOf]; omega
    · obtain rfl : k = S.size := by omega
      have HYY := Lib.hid (fun a b => HY.out a b (by rw [← HZ.out]; exact HI.out))
      clear hlt hk
      by_cases h0 : 1 ≤ S.size
      · by_cases h16 : S.size ≤ 16
        · have HF := Lib.hid (HYY.out (by rw [← HZ.out]; exact h0) (by rw [← HZ.out]; exact h16))
          go_wp2
          go_ret
          exact ⟨ret_b (by rw [HF.out]; simp <;> omega), rfl⟩
        · have HF := Lib.hid (HSZ.out (by have := HZ.out; omega))
          go_wp2
          go_ret
          exact ⟨ret_b (by rw [HF.out]; simp <;> omega), rfl⟩
      · have HF := Lib.hid (HSZ.out (by have := HZ.out; omega))
        go_wp2
        go_ret
        exact ⟨ret_b HF.out.symm, rfl⟩

/-! ### Texts -/

set_option maxRecDepth 100000 in
set_option maxHeartbeats 2000000 in
theorem text_ref (s : List UInt8) (hs : s.length ≤ 1048576) (w : World) : Calls Try.prog 24 #[.string (bsOf s)] w fun e w' => e = .returned (.bool (txtB s)) ∧ w = w' := by
  have HZ := Lib.hid (bs_size s)
  have HAT := Lib.hid (bs_at s)
  obtain ⟨z, hz⟩ : ∃ z, txtB s = z := ⟨_, rfl⟩
  have HE : Hid (z = (decide (s.length ≤ 40) && s.all txB)) := hz.symm
  rw [hz]
  clear hz
  obtain ⟨S, hS⟩ : ∃ S, bsOf s = S := ⟨_, rfl⟩
  rw [hS] at HZ HAT ⊢
  have hss : S.size ≤ 1048576 := by rw [HZ.out]; exact hs
  clear hS hs
  go_enter Try.func24, Try.ntmps24
  go_wp2
  go_loop [3] (fun i => ∃ k : Nat, k ≤ S.size ∧ i = .int .i64 (k : Int) ∧ Hid (∀ j, j < k → txB (s[j]?.getD 0) = true)) (fun i => S.size - (intOf i).toNat)
  case atStart => exact ⟨0, Nat.zero_le _, rfl, fun j h => by omega⟩
  case round =>
    obtain ⟨k, hk, rfl, HI⟩ := hrel
    by_cases hlt : k < S.size
    · have hx := HAT.out k hlt
      have HLS : Hid (k < s.length) := by show _ < _; rw [← HZ.out]; exact hlt
      have HSN := Lib.hid (fun (h : txB (s[k]?.getD 0) = true) (j : Nat) (hj : j < k + 1) => show txB (s[j]?.getD 0) = true from by
        by_cases e : j = k
        · rw [e]; exact h
        · exact HI.out j (by omega))
      have HN := Lib.hid (fun (h : txB (s[k]?.getD 0) = false) => show z = false from by rw [HE.out, not_all HLS.out h]; simp)
      have HB : Hid (txB (s[k]?.getD 0) = (decide (32 ≤ (s[k]?.getD 0).toNat) && decide ((s[k]?.getD 0).toNat ≤ 126))) := rfl
      generalize s[k]?.getD 0 = x at *
      by_cases h32 : x.toNat < 32
      · have HF := Lib.hid (HN.out (by rw [HB.out, decide_eq_false (by omega)]; rfl))
        go_wp2
        go_ret
        exact ⟨ret_b HF.out.symm, rfl⟩
      · by_cases h126 : 126 < x.toNat
        · have HF := Lib.hid (HN.out (by rw [HB.out, decide_eq_false (p := x.toNat ≤ 126) (by omega)]; simp))
          go_wp2
          go_ret
          exact ⟨ret_b HF.out.symm, rfl⟩
        · have HS := Lib.hid (HSN.out (by rw [HB.out, decide_eq_true (by omega), decide_eq_true (by omega)]; rfl))
          go_wp2
          go_round
          case rel => exact ⟨k + 1, by omega, by go_num, HS.out⟩
          case measure => simp [intOf]; omega
    · obtain rfl : k = S.size := by omega
      have HA : Hid (s.all txB = true) := all_of (by rw [← HZ.out]; exact HI.out)
      have HF : Hid (z = decide (S.size ≤ 40)) := by show _ = _; rw [HE.out, HA.out, HZ.out]; simp
      clear hlt hk
      go_wp2
      go_ret
      exact ⟨ret_b (by rw [HF.out]; try simp; try omega), rfl⟩

/-! ### Signs -/

set_option maxRecDepth 100000 in
set_option maxHeartbeats 2000000 in
theorem sign_ref (s : List UInt8) (w : World) : Calls Try.prog 25 #[.string (bsOf s)] w fun e w' => e = .returned (.bool (signB s)) ∧ Below w.heap.size w w' := by
  have hb0 := (Below.refl w.heap.size w).alloc (Nat.le_refl _) (.cells #[.string ⟨#[40]⟩, .string ⟨#[41]⟩, .string ⟨#[44]⟩, .string ⟨#[59]⟩, .string ⟨#[58]⟩, .string ⟨#[46]⟩, .string ⟨#[61]⟩, .string ⟨#[60]⟩, .string ⟨#[60, 61]⟩, .string ⟨#[43]⟩, .string ⟨#[45]⟩, .string ⟨#[42]⟩] 9)
  have hc0 : ∀ j, j < 12 → (w.alloc (.cells #[.string ⟨#[40]⟩, .string ⟨#[41]⟩, .string ⟨#[44]⟩, .string ⟨#[59]⟩, .string ⟨#[58]⟩, .string ⟨#[46]⟩, .string ⟨#[61]⟩, .string ⟨#[60]⟩, .string ⟨#[60, 61]⟩, .string ⟨#[43]⟩, .string ⟨#[45]⟩, .string ⟨#[42]⟩] 9)).cell? ⟨w.heap.size, j, none⟩ = some (.string (bsOf (signs[j]?.getD []))) := fun j hj => by
    have h0 := World.alloc_heap_new w (.cells #[.string ⟨#[40]⟩, .string ⟨#[41]⟩, .string ⟨#[44]⟩, .string ⟨#[59]⟩, .string ⟨#[58]⟩, .string ⟨#[46]⟩, .string ⟨#[61]⟩, .string ⟨#[60]⟩, .string ⟨#[60, 61]⟩, .string ⟨#[43]⟩, .string ⟨#[45]⟩, .string ⟨#[42]⟩] 9)
    simp only [World.cell?, h0]
    rcases (by omega : j = 0 ∨ j = 1 ∨ j = 2 ∨ j = 3 ∨ j = 4 ∨ j = 5 ∨ j = 6 ∨ j = 7 ∨ j = 8 ∨ j = 9 ∨ j = 10 ∨ j = 11) with rfl | rfl | rfl | rfl | rfl | rfl | rfl | rfl | rfl | rfl | rfl | rfl <;> rfl
  have HB := Lib.hid hb0
  have HC := Lib.hid hc0
  have HEQ := Lib.hid (fun (j : Nat) => bs_same (signs[j]?.getD []) s)
  clear hb0 hc0
  obtain ⟨z, hz⟩ : ∃ z, signB s = z := ⟨_, rfl⟩
  have HZ := Lib.hid hz
  rw [hz]
  clear hz
  go_enter Try.func25, Try.ntmps25
  go_upto_region 2 with fail
  obtain ⟨w1, hw1⟩ : ∃ w1, w.alloc (.cells #[.string ⟨#[40]⟩, .string ⟨#[41]⟩, .string ⟨#[44]⟩, .string ⟨#[59]⟩, .string ⟨#[58]⟩, .string ⟨#[46]⟩, .string ⟨#[61]⟩, .string ⟨#[60]⟩, .string ⟨#[60, 61]⟩, .string ⟨#[43]⟩, .string ⟨#[45]⟩, .string ⟨#[42]⟩] 9) = w1 := ⟨_, rfl⟩
  rw [hw1] at HB HC ⊢
  clear hw1
  obtain ⟨S, hS⟩ : ∃ S, bsOf s = S := ⟨_, rfl⟩
  rw [hS] at HEQ ⊢
  clear hS
  go_wp2
  go_loop [4] (fun i => ∃ k : Nat, k ≤ 12 ∧ i = .int .i64 (k : Int) ∧ Hid (∀ j, j < k → signs[j]?.getD [] ≠ s)) (fun i => 12 - (intOf i).toNat)
  case atStart => exact ⟨0, Nat.zero_le _, rfl, fun j h => by omega⟩
  case round =>
    obtain ⟨k, hk, rfl, HI⟩ := hrel
    by_cases hlt : k < 12
    · have hc := HC.out k hlt
      have heq := HEQ.out k
      have HSN := Lib.hid (fun (h : signs[k]?.getD [] ≠ s) (j : Nat) (hj : j < k + 1) => show signs[j]?.getD [] ≠ s from by
        by_cases e : j = k
        · rw [e]; exact h
        · exact HI.out j (by omega))
      have HY := Lib.hid (fun (h : signs[k]?.getD [] = s) => show z = true from by
        rw [← HZ.out]
        refine decide_eq_true ?_
        rw [← h, List.getElem?_eq_getElem (show k < signs.length from hlt)]
        exact List.getElem_mem _)
      by_cases he : signs[k]?.getD [] = s
      · have HF := Lib.hid (HY.out he)
        rw [decide_eq_true he] at heq
        clear he
        generalize bsOf (signs[k]?.getD []) = T at *
        go_wp2
        go_ret
        exact ⟨ret_b HF.out.symm, HB.out⟩
      · have HS := Lib.hid (HSN.out he)
        rw [decide_eq_false he] at heq
        clear he
        generalize bsOf (signs[k]?.getD []) = T at *
        go_wp2
        go_round
        case rel => exact ⟨k + 1, by omega, by go_num, HS.out⟩
        case measure => simp [intOf]; omega
    · obtain rfl : k = 12 := by omega
      have HF : Hid (z = false) := by
        show _ = _
        rw [← HZ.out]
        refine decide_eq_false fun hm => ?_
        obtain ⟨j, hj, e⟩ := List.getElem_of_mem hm
        have := HI.out j (show j < 12 from hj)
        rw [List.getElem?_eq_getElem hj] at this
        exact this e
      go_wp2
      go_ret
      exact ⟨ret_b HF.out.symm, HB.out⟩

end Go.Proofs.Ytohobiglnebocaa.Lx
