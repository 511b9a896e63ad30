/-
  Numbers, valid tokens and white space for the reference.
-/
import Derived.Test.YtohobiglnebocaaLxRef
namespace Go.Proofs.Ytohobiglnebocaa.Lx
open Go Go.RowKit Go.Shelf Go.Sort Go.ChangeShapes Go.WideShapes Go.ChangeAt
open Go.Proofs.Ytohobiglnebocaa

theorem at_mem {l : List UInt8} {j : Nat} (h : j < l.length) : l[j]?.getD 0 ∈ l := by
  rw [List.getElem?_eq_getElem h]; exact List.getElem_mem h
theorem at_all {p : UInt8 → Bool} {l : List UInt8} (ha : l.all p = true) {j : Nat} (h : j < l.length) : p (l[j]?.getD 0) = true := List.all_eq_true.1 ha _ (at_mem h)
theorem at_left {a b : List UInt8} {j : Nat} (h : j < a.length) : (a ++ b)[j]?.getD 0 = a[j]?.getD 0 := by rw [List.getElem?_append_left h]
theorem at_mid {a b : List UInt8} {c : UInt8} : (a ++ c :: b)[a.length]?.getD 0 = c := by
  rw [List.getElem?_append_right (Nat.le_refl _), Nat.sub_self]; rfl
theorem at_right {a b : List UInt8} {c : UInt8} (j : Nat) : (a ++ c :: b)[a.length + 1 + j]?.getD 0 = b[j]?.getD 0 := by
  rw [List.getElem?_append_right (by omega), show a.length + 1 + j - a.length = j + 1 by omega]; rfl

theorem num_no {s : List UInt8} {k : Nat} (hk : k < s.length) (h1 : digB (s[k]?.getD 0) = false) (h2 : ptB (s[k]?.getD 0) = false ∨ k = 0 ∨ s.length ≤ k + 1) : numB s = false := by
  cases hn : numB s
  · rfl
  · rcases num_forms hn with h | ⟨W, P, rfl, hW, hP⟩
    · rw [at_all (areD_iff h).2 hk] at h1; cases h1
    · obtain ⟨w0, w1⟩ := areD_iff hW
      obtain ⟨p0, p1⟩ := areD_iff hP
      have w0 := List.length_pos_iff.2 w0
      have p0 := List.length_pos_iff.2 p0
      rw [List.length_append, List.length_cons] at hk h2
      rcases Nat.lt_trichotomy k W.length with h | h | h
      · rw [at_left h, at_all w1 h] at h1; cases h1
      · subst h
        rw [at_mid] at h2
        rcases h2 with h | h | h
        · exact absurd h (by decide)
        · omega
        · omega
      · obtain ⟨j, rfl⟩ : ∃ j, k = W.length + 1 + j := ⟨k - (W.length + 1), by omega⟩
        rw [at_right, at_all p1 (by omega)] at h1; cases h1
theorem pt_none {l : List UInt8} (h : ∀ a ∈ l, ptB a = false) : l.countP ptB = 0 := List.countP_eq_zero.2 fun a ha => by rw [h a ha]; decide
theorem num_end {s : List UInt8} (h : ∀ j, j < s.length → digB (s[j]?.getD 0) = true ∨ (ptB (s[j]?.getD 0) = true ∧ 0 < j ∧ j + 1 < s.length)) : numB s = (decide (1 ≤ s.length) && decide (s.length ≤ 40) && decide (s.countP ptB ≤ 1)) := by
  cases hany : s.any ptB
  · have hno : ∀ a ∈ s, ptB a = false := fun a ha => by
      have := List.any_eq_false.1 hany a ha
      simpa using this
    have hd : s.all digB = true := all_of fun j hj => by
      rcases h j hj with h | h
      · exact h
      · rw [hno _ (at_mem hj)] at h; exact absurd h.1 (by decide)
    unfold numB areD
    rw [hany, take_no hany, hd, pt_none hno]
    simp only [Bool.and_true, Bool.not_false, Bool.true_or]
    rw [Bool.and_comm, decide_eq_true (show 0 ≤ 1 by decide), Bool.and_true]
    rfl
  · have hsp := split_at hany
    have hnt := no_take (l := s)
    have hE : numB s = (decide (s.length ≤ 40) && areD (s.takeWhile noPt) && (!true || areD ((s.dropWhile noPt).drop 1))) := by unfold numB; rw [hany]
    rw [hE]; clear hE
    generalize s.takeWhile noPt = W at *
    generalize (s.dropWhile noPt).drop 1 = P at *
    clear hany
    subst hsp
    rw [List.length_append, List.length_cons] at h ⊢
    have hm := h W.length (by omega)
    rw [at_mid] at hm
    have hm : 0 < W.length ∧ W.length + 1 < W.length + (P.length + 1) := by
      rcases hm with hm | hm
      · exact absurd hm (by decide)
      · exact hm.2
    have hWn : ∀ a ∈ W, ptB a = false := fun a ha => by
      cases hp : ptB a
      · rfl
      · exact absurd ((pt_byte a).1 hp ▸ ha) hnt
    have hWd : W.all digB = true := all_of fun j hj => by
      have := h j (by omega)
      rw [at_left hj] at this
      rcases this with h | h
      · exact h
      · rw [hWn _ (at_mem hj)] at h; exact absurd h.1 (by decide)
    have hPd : ∀ j, j < P.length → digB (P[j]?.getD 0) = true ∨ ptB (P[j]?.getD 0) = true := fun j hj => by
      have := h (W.length + 1 + j) (by omega)
      rw [at_right] at this
      rcases this with h | h
      · exact .inl h
      · exact .inr h.1
    have hc : (W ++ 46 :: P).countP ptB = 1 + P.countP ptB := by
      rw [List.countP_append, pt_none hWn, List.countP_cons, show ptB 46 = true by decide]
      simp; omega
    rw [hc]
    have hPA : P.all digB = decide (1 + P.countP ptB ≤ 1) := by
      by_cases hz : P.countP ptB = 0
      · rw [hz, decide_eq_true (by decide)]
        exact all_of fun j hj => by
          rcases hPd j hj with h | h
          · exact h
          · exact absurd h (List.countP_eq_zero.1 hz _ (at_mem hj))
      · rw [decide_eq_false (by omega)]
        cases ha : P.all digB
        · rfl
        · exact absurd (pt_none fun a ha' => dig_not_pt (List.all_eq_true.1 ha a ha')) hz
    unfold areD
    rw [hWd, hPA, decide_eq_true hm.1, decide_eq_true (show 0 < P.length by omega), decide_eq_true (show 1 ≤ W.length + (P.length + 1) by omega)]
    simp
theorem pt_step {s : List UInt8} {k : Nat} (h : k < s.length) : (s.take (k + 1)).countP ptB = (s.take k).countP ptB + if ptB (s[k]?.getD 0) then 1 else 0 := by
  rw [List.take_succ_eq_append_getElem h, List.countP_append, List.countP_singleton, List.getElem?_eq_getElem h]; rfl

set_option maxRecDepth 100000 in
set_option maxHeartbeats 4000000 in
theorem number_ref (s : List UInt8) (hs : s.length ≤ 1048576) (w : World) : Calls Try.prog 23 #[.string (bsOf s)] w fun e w' => e = .returned (.bool (numB s)) ∧ w = w' := by
  have HZ := Lib.hid (bs_size s)
  have HAT := Lib.hid (bs_at s)
  obtain ⟨z, hz⟩ : ∃ z, numB s = z := ⟨_, rfl⟩
  have HEND := Lib.hid (fun a => hz.symm.trans (@num_end s a))
  have HNO := Lib.hid (fun k a b c => hz.symm.trans (@num_no s k a b c))
  rw [hz]
  clear hz
  obtain ⟨S, hS⟩ : ∃ S, bsOf s = S := ⟨_, rfl⟩
  rw [hS] at HZ HAT ⊢
  have hss : S.size ≤ 1048576 := by rw [HZ.out]; exact hs
  clear hS hs
  go_enter Try.func23, Try.ntmps23
  go_wp2
  go_loop [3, 4] (fun q i => ∃ k p : Nat, k ≤ S.size ∧ i = .int .i64 (k : Int) ∧ q = .int .i64 (p : Int) ∧ p ≤ k ∧ Hid (p = (s.take k).countP ptB ∧ ∀ j, j < k → digB (s[j]?.getD 0) = true ∨ (ptB (s[j]?.getD 0) = true ∧ 0 < j ∧ j + 1 < s.length))) (fun _ i => S.size - (intOf i).toNat)
  case atStart => exact ⟨0, 0, Nat.zero_le _, rfl, rfl, Nat.le_refl _, rfl, fun j h => by omega⟩
  case round =>
    obtain ⟨k, p, hk, rfl, rfl, hpk, HI⟩ := hrel
    by_cases hlt : k < S.size
    · have hx := HAT.out k hlt
      have HD := Lib.hid (fun w => digit_ref (s[k]?.getD 0) w)
      have HLS : Hid (k < s.length) := by show _ < _; rw [← HZ.out]; exact hlt
      have HSN := Lib.hid (fun (h : digB (s[k]?.getD 0) = true ∨ (ptB (s[k]?.getD 0) = true ∧ 0 < k ∧ k + 1 < s.length)) (j : Nat) (hj : j < k + 1) => show digB (s[j]?.getD 0) = true ∨ (ptB (s[j]?.getD 0) = true ∧ 0 < j ∧ j + 1 < s.length) from by
        by_cases e : j = k
        · rw [e]; exact h
        · exact HI.out.2 j (by omega))
      have HN := Lib.hid (fun a b => HNO.out k HLS.out a b)
      have HST := Lib.hid (pt_step HLS.out)
      have HPB : Hid (ptB (s[k]?.getD 0) = decide ((s[k]?.getD 0).toNat = 46)) := rfl
      have HDP := Lib.hid (@dig_not_pt (s[k]?.getD 0))
      generalize s[k]?.getD 0 = x at *
      by_cases h46 : x.toNat = 46
      · have hpt : ptB x = true := by rw [HPB.out]; exact decide_eq_true h46
        have hdg : digB x = false := by
          cases hd : digB x
          · rfl
          · exact absurd (HDP.out hd) (by rw [hpt]; decide)
        have e46 : ((x.toNat : Int) == 46) = true := by rw [h46]; rfl
        rw [hdg] at HD
        clear h46
        by_cases hmid : 0 < k ∧ k + 1 < S.size
        · have hk0 : 0 < k := hmid.1
          have hk1 : (k : Int) < (S.size : Int) - 1 := by omega
          have HS := Lib.hid (HSN.out (.inr ⟨hpt, hk0, by rw [← HZ.out]; exact hmid.2⟩))
          have HC : Hid (p + 1 = (s.take (k + 1)).countP ptB) := by show _ = _; rw [HST.out, hpt, HI.out.1]; rfl
          clear hpt hdg hmid
          go_wp2
          go_round
          case rel => exact ⟨k + 1, p + 1, by omega, by go_num, by go_num, by omega, HC.out, HS.out⟩
          case measure => simp [intOf]; omega
        · have HF := Lib.hid (HN.out hdg (by have := HZ.out; omega))
          clear hpt hdg
          by_cases hk0 : k = 0
          · subst hk0
            clear hmid
            go_wp2_with (go_at_call 41; ((with_reducible refine (HD.out _).mono ?_); rintro e w' ⟨rfl, rfl⟩))
            go_ret
            exact ⟨ret_b HF.out.symm, rfl⟩
          · have hk1 : ¬ (k : Int) < (S.size : Int) - 1 := by omega
            have hk2 : 0 < k := by omega
            clear hmid hk0
            go_wp2_with (go_at_call 41; ((with_reducible refine (HD.out _).mono ?_); rintro e w' ⟨rfl, rfl⟩))
            go_ret
            exact ⟨ret_b HF.out.symm, rfl⟩
      · have hpt : ptB x = false := by rw [HPB.out]; exact decide_eq_false h46
        have e46 : ((x.toNat : Int) == 46) = false := beq_false_of_ne (by omega)
        clear h46
        cases hdg : digB x
        · have HF := Lib.hid (HN.out hdg (.inl hpt))
          rw [hdg] at HD
          clear hdg hpt
          go_wp2_with (go_at_call 41; ((with_reducible refine (HD.out _).mono ?_); rintro e w' ⟨rfl, rfl⟩))
          go_ret
          exact ⟨ret_b HF.out.symm, rfl⟩
        · have HS := Lib.hid (HSN.out (.inl hdg))
          have HC : Hid (p = (s.take (k + 1)).countP ptB) := by show _ = _; rw [HST.out, hpt, HI.out.1]; rfl
          rw [hdg] at HD
          clear hdg hpt
          go_wp2_with (go_at_call 41; ((with_reducible refine (HD.out _).mono ?_); rintro e w' ⟨rfl, rfl⟩))
          go_round
          case rel => exact ⟨k + 1, p, by omega, by go_num, rfl, by omega, HC.out, HS.out⟩
          case measure => simp [intOf]; omega
    · obtain rfl : k = S.size := by omega
      have HF : Hid (z = (decide (1 ≤ S.size) && decide (S.size ≤ 40) && decide (p ≤ 1))) := by
        show _ = _
        have hc := HI.out.1
        rw [HZ.out, List.take_length] at hc
        rw [HEND.out (by rw [← HZ.out]; exact fun j hj => by rw [HZ.out]; exact HI.out.2 j hj), ← hc, HZ.out]
      clear hlt hk HEND HNO
      by_cases h1 : 1 ≤ S.size
      · by_cases h40 : S.size ≤ 40
        · rw [decide_eq_true h1, decide_eq_true h40] at HF
          go_wp2
          go_ret
          exact ⟨ret_b (by rw [HF.out]; simp; omega), rfl⟩
        · rw [decide_eq_true h1, decide_eq_false h40] at HF
          go_wp2
          go_ret
          exact ⟨ret_b (by rw [HF.out]; simp), rfl⟩
      · rw [decide_eq_false h1] at HF
        go_wp2
        go_ret
        exact ⟨ret_b (by rw [HF.out]; simp), rfl⟩

set_option maxRecDepth 100000 in
set_option maxHeartbeats 1000000 in
theorem validR_any (k a : Int) (s : List UInt8) (hs : s.length ≤ 1048576) (w : World) : Calls Try.prog 8 #[encK k (bsOf s) a] w fun e w' => e = .returned (.bool (vld k s)) ∧ Below w.heap.size w w' := by
  unfold encK
  have hb0 : Below w.heap.size w (w.alloc (.cells #[.int .i64 k, .string (bsOf s), .int .i64 a] 29)) := (Below.refl _ _).alloc (Nat.le_refl _) _
  have hT := Trio.new w 29 (.int .i64 k) (.string (bsOf s)) (.int .i64 a)
  have HB := Lib.hid hb0
  have HT := Lib.hid hT
  clear hb0 hT
  obtain ⟨z, hz⟩ : ∃ z, vld k s = z := ⟨_, rfl⟩
  have HZ := Lib.hid hz
  rw [hz]
  clear hz
  have HW := Lib.hid (fun w => word_ref s hs w)
  have HN := Lib.hid (fun w => number_ref s hs w)
  have HX := Lib.hid (fun w => text_ref s hs w)
  have HS := Lib.hid (fun w => sign_ref s w)
  generalize bsOf s = S at *
  obtain ⟨V0, hV0⟩ : ∃ V0, w.alloc (.cells #[.int .i64 k, .string S, .int .i64 a] 29) = V0 := ⟨_, rfl⟩
  rw [hV0] at HB HT
  obtain ⟨B0, hB0⟩ : ∃ B0, w.heap.size = B0 := ⟨_, rfl⟩
  rw [hB0] at HT
  have q0 := HT.out.c0
  have q1 := HT.out.c1
  go_enter Try.func8, Try.ntmps8
  go_upto_region 1 with fail
  have HB0 := Lib.hid hB0
  clear hV0 hB0
  by_cases h1 : k = 1
  · subst h1
    have HE : Hid (wordB s = z) := HZ.out
    go_wp2_with (go_at_call 22; ((with_reducible refine (HW.out _).mono ?_); rintro e w1 ⟨rfl, rfl⟩))
    go_ret
    exact ⟨ret_b HE.out, HB0.out ▸ HB.out⟩
  · have e1 : (k == 1) = false := beq_false_of_ne h1
    by_cases h2 : k = 2
    · subst h2
      have HE : Hid (numB s = z) := HZ.out
      clear h1
      go_wp2_with (go_at_call 23; ((with_reducible refine (HN.out _).mono ?_); rintro e w1 ⟨rfl, rfl⟩))
      go_ret
      exact ⟨ret_b HE.out, HB0.out ▸ HB.out⟩
    · have e2 : (k == 2) = false := beq_false_of_ne h2
      by_cases h3 : k = 3
      · subst h3
        have HE : Hid (txtB s = z) := HZ.out
        clear h1 h2
        go_wp2_with (go_at_call 24; ((with_reducible refine (HX.out _).mono ?_); rintro e w1 ⟨rfl, rfl⟩))
        go_ret
        exact ⟨ret_b HE.out, HB0.out ▸ HB.out⟩
      · have e3 : (k == 3) = false := beq_false_of_ne h3
        by_cases h4 : k = 4
        · subst h4
          have HE : Hid (signB s = z) := HZ.out
          clear h1 h2 h3
          go_wp2_with (go_at_call 25; ((with_reducible refine (HS.out _).mono ?_); rintro e w1 ⟨rfl, hb1⟩))
          go_ret
          exact ⟨ret_b HE.out, HB0.out ▸ HB.out.trans (hb1.mono HB.out.size)⟩
        · have e4 : (k == 4) = false := beq_false_of_ne h4
          have HE : Hid (false = z) := (vld_9 s h1 h2 h3 h4).symm.trans HZ.out
          clear h1 h2 h3 h4
          go_wp2
          go_ret
          exact ⟨ret_b HE.out, HB0.out ▸ HB.out⟩

/-! ### White space -/

theorem ws_at {s : List UInt8} {k : Nat} (h : k < s.length) (c : Bool) : wsN c (s.drop k) = if c then (if (s[k]?.getD 0).toNat = 10 then 1 + wsN false (s.drop (k + 1)) else 1 + wsN true (s.drop (k + 1))) else (if blB (s[k]?.getD 0) then 1 + wsN false (s.drop (k + 1)) else if (s[k]?.getD 0).toNat = 35 then 1 + wsN true (s.drop (k + 1)) else 0) := by
  rw [List.drop_eq_getElem_cons h, List.getElem?_eq_getElem h]
  cases c <;> rfl
theorem ws_past {s : List UInt8} {k : Nat} (h : s.length ≤ k) (c : Bool) : wsN c (s.drop k) = 0 := by
  rw [List.drop_eq_nil_of_le h]; cases c <;> rfl

set_option maxRecDepth 100000 in
set_option maxHeartbeats 4000000 in
theorem skipR_any (s : List UInt8) (a : Nat) (hs : s.length ≤ 1048576) (ha : a ≤ s.length) (w : World) : Calls Try.prog 30 #[.string (bsOf s), .int .i64 (a : Int)] w fun e w' => e = .returned (.int .i64 ((a + ws (s.drop a) : Nat) : Int)) ∧ w = w' := by
  have HZ := Lib.hid (bs_size s)
  have HAT := Lib.hid (bs_at s)
  obtain ⟨z, hz⟩ : ∃ z, a + wsN false (s.drop a) = z := ⟨_, rfl⟩
  have HZZ := Lib.hid hz
  rw [show a + ws (s.drop a) = z from hz]
  clear hz
  obtain ⟨S, hS⟩ : ∃ S, bsOf s = S := ⟨_, rfl⟩
  rw [hS] at HZ HAT ⊢
  have hss : S.size ≤ 1048576 := by rw [HZ.out]; exact hs
  have has : a ≤ S.size := by rw [HZ.out]; exact ha
  clear hS hs ha
  go_enter Try.func30, Try.ntmps30
  go_wp2
  go_loop [1] (fun i => ∃ k : Nat, k ≤ S.size ∧ i = .int .i64 (k : Int) ∧ Hid (k + wsN false (s.drop k) = z)) (fun i => S.size - (intOf i).toNat)
  case atStart => exact ⟨a, has, rfl, HZZ.out⟩
  case round =>
    obtain ⟨k, hk, rfl, HI⟩ := hrel
    by_cases hlt : k < S.size
    · have hx := HAT.out k hlt
      have HLS : Hid (k < s.length) := by show _ < _; rw [← HZ.out]; exact hlt
      have HW0 := Lib.hid (ws_at HLS.out false)
      have HW1 := Lib.hid (ws_at HLS.out true)
      have HBL : Hid (blB (s[k]?.getD 0) = (decide ((s[k]?.getD 0).toNat = 32) || decide ((s[k]?.getD 0).toNat = 9) || decide ((s[k]?.getD 0).toNat = 10))) := rfl
      by_cases hb : blB (s[k]?.getD 0) = true
      · have HC : Hid (k + 1 + wsN false (s.drop (k + 1)) = z) := by
          have h := HW0.out
          rw [hb] at h
          have h2 := HI.out
          have h3 : wsN false (s.drop k) = 1 + wsN false (s.drop (k + 1)) := h
          show _ = _; omega
        have hcs : (s[k]?.getD 0).toNat = 32 ∨ (s[k]?.getD 0).toNat = 9 ∨ (s[k]?.getD 0).toNat = 10 := by
          have h := HBL.out
          rw [hb] at h
          simpa [or_assoc] using h.symm
        clear HW0 HW1 HBL hb
        generalize s[k]?.getD 0 = x at *
        rcases hcs with h | h | h
        all_goals
          go_wp2
          go_round
          case rel => exact ⟨k + 1, by omega, by go_num, HC.out⟩
          case measure => simp [intOf]; omega
      · have hb : blB (s[k]?.getD 0) = false := by simpa using hb
        have hcs : (s[k]?.getD 0).toNat ≠ 32 ∧ (s[k]?.getD 0).toNat ≠ 9 ∧ (s[k]?.getD 0).toNat ≠ 10 := by
          have h := HBL.out
          rw [hb] at h
          simpa [and_assoc] using h.symm
        have e32 : (((s[k]?.getD 0).toNat : Int) == 32) = false := beq_false_of_ne (by omega)
        have e9 : (((s[k]?.getD 0).toNat : Int) == 9) = false := beq_false_of_ne (by omega)
        have e10 : (((s[k]?.getD 0).toNat : Int) == 10) = false := beq_false_of_ne (by omega)
        by_cases h35 : (s[k]?.getD 0).toNat = 35
        · have HC : Hid (k + wsN true (s.drop k) = z) := by
            have h0 : wsN false (s.drop k) = 1 + wsN true (s.drop (k + 1)) := by
              rw [HW0.out, if_neg (by decide), hb, if_neg (by decide), if_pos h35]
            have h1 : wsN true (s.drop k) = 1 + wsN true (s.drop (k + 1)) := by
              rw [HW1.out, if_pos rfl, if_neg hcs.2.2]
            have h2 := HI.out
            show _ = _; omega
          have e35 : (((s[k]?.getD 0).toNat : Int) == 35) = true := by rw [h35]; rfl
          have h10 : (s[k]?.getD 0).toNat ≠ 10 := hcs.2.2
          clear HW0 HW1 HBL hb hcs h35
          go_wp2
          go_loop [1] (fun i => ∃ j : Nat, k ≤ j ∧ j ≤ S.size ∧ i = .int .i64 (j : Int) ∧ Hid (j + wsN true (s.drop j) = z ∧ (j = k → j < S.size ∧ (s[j]?.getD 0).toNat ≠ 10))) (fun i => S.size - (intOf i).toNat)
          case atStart => exact ⟨k, Nat.le_refl _, hk, rfl, HC.out, fun _ => ⟨hlt, h10⟩⟩
          case round =>
            clear hx e32 e9 e10 e35 h10
            obtain ⟨j, hkj, hj, rfl, HJ⟩ := hrel
            by_cases hjl : j < S.size
            · have hx := HAT.out j hjl
              have HLJ : Hid (j < s.length) := by show _ < _; rw [← HZ.out]; exact hjl
              have HW1 := Lib.hid (ws_at HLJ.out true)
              have HW0 := Lib.hid (ws_at HLJ.out false)
              by_cases h10 : (s[j]?.getD 0).toNat = 10
              · have hjk : j ≠ k := fun e => (HJ.out.2 e).2 h10
                have HC2 : Hid (j + wsN false (s.drop j) = z) := by
                  have h1 : wsN true (s.drop j) = 1 + wsN false (s.drop (j + 1)) := by rw [HW1.out, if_pos rfl, if_pos h10]
                  have h0 : wsN false (s.drop j) = 1 + wsN false (s.drop (j + 1)) := by
                    rw [HW0.out, if_neg (by decide), if_pos (by unfold blB; rw [decide_eq_true h10]; simp)]
                  have h2 := HJ.out.1
                  show _ = _; omega
                have e10 : (((s[j]?.getD 0).toNat : Int) == 10) = true := by rw [h10]; rfl
                clear HW0 HW1 h10
                generalize s[j]?.getD 0 = x at *
                go_wp2
                go_round
                case rel => exact ⟨j, by omega, rfl, HC2.out⟩
                case measure => simp [intOf]; omega
              · have HC2 : Hid (j + 1 + wsN true (s.drop (j + 1)) = z) := by
                  have h1 : wsN true (s.drop j) = 1 + wsN true (s.drop (j + 1)) := by rw [HW1.out, if_pos rfl, if_neg h10]
                  have h2 := HJ.out.1
                  show _ = _; omega
                have e10 : (((s[j]?.getD 0).toNat : Int) == 10) = false := beq_false_of_ne (by omega)
                clear HW0 HW1 h10
                generalize s[j]?.getD 0 = x at *
                go_wp2
                go_round
                case rel => exact ⟨j + 1, by omega, by omega, by go_num, HC2.out, fun e => by omega⟩
                case measure => simp [intOf]; omega
            · obtain rfl : j = S.size := by omega
              have hjk : S.size ≠ k := fun e => absurd (HJ.out.2 e).1 (by omega)
              have HC2 : Hid (S.size + wsN false (s.drop S.size) = z) := by
                have h2 := HJ.out.1
                rw [ws_past (by rw [HZ.out]; exact Nat.le_refl _)] at h2
                show _ = _
                rw [ws_past (by rw [HZ.out]; exact Nat.le_refl _)]
                exact h2
              clear hjl
              go_wp2
              go_round
              case rel => exact ⟨S.size, Nat.le_refl _, rfl, HC2.out⟩
              case measure => simp [intOf]; omega
        · have HF : Hid (k = z) := by
            have h0 : wsN false (s.drop k) = 0 := by
              rw [HW0.out, if_neg (by decide), hb, if_neg (by decide), if_neg h35]
            have h2 := HI.out
            show _ = _; omega
          have e35 : (((s[k]?.getD 0).toNat : Int) == 35) = false := beq_false_of_ne (by omega)
          clear HW0 HW1 HBL hb hcs h35
          generalize s[k]?.getD 0 = x at *
          go_wp2
          go_ret
          exact ⟨by rw [HF.out]; rfl, rfl⟩
    · obtain rfl : k = S.size := by omega
      have HF : Hid (S.size = z) := by
        have h2 := HI.out
        rw [ws_past (by rw [HZ.out]; exact Nat.le_refl _)] at h2
        exact h2
      clear hlt hk
      go_wp2
      go_ret
      exact ⟨by rw [HF.out]; rfl, rfl⟩

end Go.Proofs.Ytohobiglnebocaa.Lx
