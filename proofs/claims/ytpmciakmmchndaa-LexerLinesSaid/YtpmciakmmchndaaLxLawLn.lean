/-
  Line and byte numbers determine the offset: the walk.
-/
import Derived.Test.YtpmciakmmchndaaLxEx
namespace Go.Proofs.Ytpmciakmmchndaa.lexerLines
open Go Go.RowKit Go.Shelf Go.Sort Go.ChangeShapes Go.WideShapes Go.ChangeAt
open Go.Proofs.Ytpmciakmmchndaa Go.Proofs.Ytpmciakmmchndaa.Lx

def lnAt (s : List UInt8) (k : Nat) : Nat × Nat := lnS (s.take k) (1, 1)
theorem ln_step {s : List UInt8} {k : Nat} (hk : k < s.length) : lnAt s (k + 1) = if (s[k]?.getD 0).toNat = 10 then ((lnAt s k).1 + 1, 1) else ((lnAt s k).1, (lnAt s k).2 + 1) := lnS_snoc s k hk (1, 1)
theorem ln_mono (s : List UInt8) : ∀ (d k : Nat), k + d ≤ s.length → (lnAt s k).1 ≤ (lnAt s (k + d)).1
  | 0, k, _ => Nat.le_refl _
  | d + 1, k, h => by
    have ih := ln_mono s d k (by omega)
    have := ln_step (s := s) (k := k + d) (by omega)
    rw [show k + (d + 1) = k + d + 1 by omega, this]
    split
    · show _ ≤ (lnAt s (k + d)).1 + 1; omega
    · exact ih
theorem ln_col (s : List UInt8) : ∀ (d k : Nat), k + d ≤ s.length → (lnAt s k).1 = (lnAt s (k + d)).1 → (lnAt s (k + d)).2 = (lnAt s k).2 + d
  | 0, k, _, _ => rfl
  | d + 1, k, h, he => by
    have hm := ln_mono s d k (by omega)
    have hs := ln_step (s := s) (k := k + d) (by omega)
    rw [show k + (d + 1) = k + d + 1 by omega] at he ⊢
    by_cases h10 : (s[k + d]?.getD 0).toNat = 10
    · rw [hs, if_pos h10] at he
      have he : (lnAt s k).1 = (lnAt s (k + d)).1 + 1 := he
      omega
    · rw [hs, if_neg h10] at he ⊢
      have ih := ln_col s d k (by omega) he
      show (lnAt s (k + d)).2 + 1 = _
      omega
/-- Where the loop ends, the offset is what it should be. -/
theorem ln_end {s : List UInt8} {i k : Nat} (hi : i ≤ s.length) (hk : k ≤ i) (hn : (lnAt s k).1 = (lnAt s i).1) (h0 : k = 0 ∨ (lnAt s (k - 1)).1 < (lnAt s i).1) : k + (lnAt s i).2 = i + 1 := by
  have hc := ln_col s (i - k) k (by omega) (by rw [show k + (i - k) = i by omega]; exact hn)
  rw [show k + (i - k) = i by omega] at hc
  have h1 : (lnAt s k).2 = 1 := by
    rcases h0 with rfl | h0
    · rfl
    · obtain ⟨j, rfl⟩ : ∃ j, k = j + 1 := ⟨k - 1, by
        rcases Nat.eq_zero_or_pos k with rfl | h
        · exact absurd hn (by have : (lnAt s (0 - 1)).1 < (lnAt s i).1 := h0; have e : lnAt s (0 - 1) = lnAt s 0 := rfl; rw [e] at this; omega)
        · omega⟩
      rw [Nat.add_sub_cancel] at h0
      have hs := ln_step (s := s) (k := j) (by omega)
      rw [hs] at hn ⊢
      split
      · rfl
      · rename_i h10
        rw [if_neg h10] at hn
        have hn : (lnAt s j).1 = (lnAt s i).1 := hn
        omega
  omega
theorem ln_ge (s : List UInt8) (k : Nat) : 1 ≤ (lnAt s k).1 ∧ 1 ≤ (lnAt s k).2 := by
  by_cases hk : k ≤ s.length
  · induction k with
    | zero => exact ⟨Nat.le_refl _, Nat.le_refl _⟩
    | succ k ih =>
      have ih := ih (by omega)
      rw [ln_step (by omega)]
      split
      · exact ⟨by show 1 ≤ _ + 1; omega, Nat.le_refl _⟩
      · exact ⟨ih.1, by show 1 ≤ _ + 1; omega⟩
  · have e : lnAt s k = lnAt s s.length := by unfold lnAt; rw [List.take_of_length_le (by omega), List.take_length]
    rw [e]
    have : ∀ k, k ≤ s.length → 1 ≤ (lnAt s k).1 ∧ 1 ≤ (lnAt s k).2 := by
      intro k
      induction k with
      | zero => intro _; exact ⟨Nat.le_refl _, Nat.le_refl _⟩
      | succ k ih =>
        intro h
        have ih := ih (by omega)
        rw [ln_step (by omega)]
        split
        · exact ⟨by show 1 ≤ _ + 1; omega, Nat.le_refl _⟩
        · exact ⟨ih.1, by show 1 ≤ _ + 1; omega⟩
    exact this _ (Nat.le_refl _)
theorem ln_le {s : List UInt8} {i : Nat} {p : Nat × Nat} (hi : i ≤ s.length) (hp : lnAt s i = p) : p.1 ≤ 1 + i ∧ p.2 ≤ 1 + i := by
  subst hp
  induction i with
  | zero => exact ⟨Nat.le_refl _, Nat.le_refl _⟩
  | succ i ih =>
    have ih := ih (by omega)
    rw [ln_step (by omega)]
    split
    · exact ⟨by show (lnAt s i).1 + 1 ≤ _; omega, by show 1 ≤ _; omega⟩
    · exact ⟨by show (lnAt s i).1 ≤ _; omega, by show (lnAt s i).2 + 1 ≤ _; omega⟩
theorem line_at {s : List UInt8} {i : Nat} (hi : i ≤ s.length) : lineS s (i : Int) = lnAt s i := by
  unfold lineS lnAt
  rw [show min (max (i : Int) 0).toNat s.length = i by omega]
theorem line_neg (s : List UInt8) (i : Nat) : lineS s (-1 - (i : Int)) = (1, 1) := by
  unfold lineS
  rw [show min (max (-1 - (i : Int)) 0).toNat s.length = 0 by omega]; rfl
theorem line_far (s : List UInt8) (i : Nat) : lineS s ((s.length : Int) + (i : Int)) = lineS s (s.length : Int) := by
  unfold lineS
  rw [show min (max ((s.length : Int) + (i : Int)) 0).toNat s.length = s.length by omega, show min (max (s.length : Int) 0).toNat s.length = s.length by omega]

/-- Two numbers in a block of their own. -/
def Duo (W : World) (B : Nat) (a b : Value) : Prop := W.heap[B]? = some (.cells #[a, b] 40 (0, 0))
theorem Duo.new (W : World) (a b : Value) : Duo (W.alloc (.cells #[a, b] 40)) W.heap.size a b := World.alloc_heap_new W _
theorem Duo.c0 {W : World} {B : Nat} {a b : Value} (h : Duo W B a b) : W.cell? ⟨B, 0, none⟩ = some a := by simp [World.cell?, show W.heap[B]? = _ from h]
theorem Duo.c1 {W : World} {B : Nat} {a b : Value} (h : Duo W B a b) : W.cell? ⟨B, 1, none⟩ = some b := by simp [World.cell?, show W.heap[B]? = _ from h]

set_option maxRecDepth 100000 in
set_option maxHeartbeats 4000000 in
theorem walk {s : List UInt8} {m : Nat} {w : World} (hs : s.length ≤ 9223372036854775807) (hm : m < 65536) (hV : Vars w) :
    Calls Try.prog 9 #[.string (bsOf s), .int .u16 (m : Int)] w fun e V => e = .returned (.bool true) ∧ Below w.heap.size w V := by
  have HZ := Lib.hid (bs_size s)
  have HX := Lib.hid (examples10_any w hV)
  have HSM := Lib.hid (fun w => small_nil (bsOf s) (by rw [bs_size]; omega) w)
  have HLN0 := Lib.hid (fun (h : s.length ≤ 9223372036854775) (a : Int) w => line_any s a h w)
  have HAT := Lib.hid (bs_at s)
  obtain ⟨S, hS⟩ : ∃ S, bsOf s = S := ⟨_, rfl⟩
  rw [hS] at HZ HSM HLN0 HAT ⊢
  have hsz : S.size ≤ 9223372036854775807 := by rw [HZ.out]; exact hs
  have HM := Lib.hid hm
  clear hS hs hV hm
  go_enter Try.func9, Try.ntmps9
  go_wp2_with fail
  refine HX.out.mono ?_
  rintro e w1 ⟨rfl, hb1⟩
  have HB1 := Lib.hid hb1
  clear hb1 HX
  go_wp2_with fail
  refine (HSM.out _).mono ?_
  rintro e w2 ⟨rfl, rfl⟩
  by_cases h2 : S.size ≤ 2000
  · have HZ2 : Hid (s.length ≤ 2000) := by have := HZ.out; show _ ≤ _; omega
    rw [decide_eq_true h2]
    have HLN := Lib.hid (HLN0.out (by have := HZ2.out; omega))
    clear HLN0
    obtain ⟨i, hmod, hi⟩ : ∃ i : Nat, (m : Int).tmod ((S.size : Int) + 1) = (i : Int) ∧ i ≤ S.size := ⟨m % (S.size + 1), by rw [Int.tmod_eq_emod_of_nonneg (by omega)]; simp, by have := Nat.mod_lt m (show 0 < S.size + 1 by omega); omega⟩
    have hwm : IntKind.i64.wrap (m : Int) = (m : Int) := by have := HM.out; rw [IntKind.wrap_i64]; omega
    have hw1 : ¬ (S.size : Int) + 1 = 0 := by omega
    have HLI := Lib.hid (line_at (s := s) (i := i) (by rw [← HZ.out]; exact hi))
    have HC := Lib.hid (HLN.out (i : Int) w1)
    rw [HLI.out] at HC
    have HGE := Lib.hid (ln_ge s i)
    obtain ⟨q, hq⟩ : ∃ q, lnAt s i = q := ⟨_, rfl⟩
    have HQ := Lib.hid hq
    rw [hq] at HC HGE
    clear hq
    go_wp2_with fail
    refine HC.out.mono ?_
    rintro e w3 ⟨rfl, hb3⟩
    have hB3 := HB1.out.trans (hb3.mono HB1.out.size)
    obtain ⟨L, C⟩ := q
    dsimp only at HGE ⊢
    have HB4 := Lib.hid (hB3.alloc hB3.size (.cells #[.int .i64 (L : Int), .int .i64 (C : Int)] 40))
    have HD := Lib.hid (Duo.new w3 (.int .i64 (L : Int)) (.int .i64 (C : Int)))
    clear hb3 HC hwm hmod hw1 hB3
    go_upto_region 8 with fail
    obtain ⟨w4, hw4⟩ : ∃ w4, w3.alloc (.cells #[.int .i64 (L : Int), .int .i64 (C : Int)] 40) = w4 := ⟨_, rfl⟩
    rw [hw4] at HB4 HD ⊢
    clear hw4
    generalize w3.heap.size = U at *
    have d0 := HD.out.c0
    have d1 := HD.out.c1
    have HL0 : Hid (L ≤ 1 + i ∧ C ≤ 1 + i) := ln_le (by rw [← HZ.out]; exact hi) HQ.out
    have hL1 := HGE.out.1
    have hC1 := HGE.out.2
    have hL2 := HL0.out.1
    have hC2 := HL0.out.2
    go_wp2
    go_loop [8, 9, 10] (fun su n kk => ∃ k : Nat, su = .int .i64 (k : Int) ∧ kk = .int .i64 (k : Int) ∧ n = .int .i64 ((lnAt s k).1 : Int) ∧ k ≤ i ∧ Hid ((lnAt s k).1 ≤ L ∧ (k = 0 ∨ (lnAt s (k - 1)).1 < L))) (fun _ _ kk => S.size - (intOf kk).toNat)
    case atStart => exact ⟨0, rfl, rfl, rfl, Nat.zero_le _, hL1, .inl rfl⟩
    case round =>
      obtain ⟨k, rfl, rfl, rfl, hki, HI⟩ := hrel
      have HST := Lib.hid (fun h => ln_step (s := s) (k := k) h)
      obtain ⟨n, hn⟩ : ∃ n, (lnAt s k).1 = n := ⟨_, rfl⟩
      have HN := Lib.hid hn
      rw [hn]
      have hnL : n ≤ L := by rw [← hn]; exact HI.out.1
      clear hn
      by_cases hlt : n < L
      · have hk : k < S.size := by
          rcases Nat.lt_or_ge k i with h | h
          · omega
          · have e : k = i := by omega
            have h1 := HN.out
            rw [e, HQ.out] at h1
            have h1 : L = n := h1
            omega
        have HST2 := Lib.hid (HST.out (by rw [← HZ.out]; exact hk))
        have hki2 : k + 1 ≤ i := by
          rcases Nat.lt_or_ge k i with h | h
          · exact h
          · have e : k = i := by omega
            have h1 := HN.out
            rw [e, HQ.out] at h1
            have h1 : L = n := h1
            omega
        have hx := HAT.out k hk
        have HLT : Hid ((lnAt s k).1 < L) := by show _ < _; rw [HN.out]; exact hlt
        by_cases h10 : (s[k]?.getD 0).toNat = 10
        · have HE : Hid ((lnAt s (k + 1)).1 = n + 1) := by show _ = _; rw [HST2.out, if_pos h10]; show (lnAt s k).1 + 1 = _; rw [HN.out]
          have e1 : (((s[k]?.getD 0).toNat : Int) == 10) = true := by rw [h10]; rfl
          clear h10
          generalize s[k]?.getD 0 = x at *
          go_wp2
          go_round
          case rel => exact ⟨k + 1, by go_num, by go_num, by rw [HE.out]; go_num, hki2, by rw [HE.out]; omega, .inr HLT.out⟩
          case measure => simp [intOf]; omega
        · have HE : Hid ((lnAt s (k + 1)).1 = n) := by show _ = _; rw [HST2.out, if_neg h10]; exact HN.out
          have e1 : (((s[k]?.getD 0).toNat : Int) == 10) = false := by rw [beq_eq_false_iff_ne]; omega
          clear h10
          generalize s[k]?.getD 0 = x at *
          go_wp2
          go_round
          case rel => exact ⟨k + 1, by go_num, by go_num, by rw [HE.out], hki2, by rw [HE.out]; omega, .inr HLT.out⟩
          case measure => simp [intOf]; omega
      · have hne : n = L := by omega
        subst hne
        have HF := Lib.hid (ln_end (s := s) (i := i) (k := k) (by rw [← HZ.out]; exact hi) hki (by rw [HN.out, HQ.out]) (by rw [HQ.out]; exact HI.out.2))
        rw [HQ.out] at HF
        have hkC : (k : Int) + (C : Int) - 1 = (i : Int) := by have h := HF.out; have h : k + C = i + 1 := h; omega
        have hdd : decide ((n : Int) < (n : Int)) = false := decide_eq_false (by omega)
        have hL3 : (1 : Int) ≤ (n : Int) := by omega
        have hC3 : (1 : Int) ≤ (C : Int) := by omega
        have hneg : IntKind.i64.wrap (-1 - (i : Int)) = -1 - (i : Int) := by rw [IntKind.wrap_i64]; omega
        have hk3 : k ≤ 2000 := by omega
        have HA := Lib.hid (HLN.out (-1 - (i : Int)) w4)
        rw [line_neg] at HA
        have HP := Lib.hid (fun w => HLN.out ((S.size : Int) + (i : Int)) w)
        have HO := Lib.hid (fun w => HLN.out (S.size : Int) w)
        rw [show (S.size : Int) = (s.length : Int) by rw [HZ.out], line_far] at HP
        rw [show (S.size : Int) = (s.length : Int) by rw [HZ.out]] at HO
        generalize lineS s (s.length : Int) = r at *
        rw [show (s.length : Int) = (S.size : Int) by rw [HZ.out]] at HP HO
        obtain ⟨P, Q⟩ := r
        dsimp only at HA HP HO
        rw [show ((1 : Nat) : Int) = 1 from rfl] at HA
        have eq1 : ∀ w, (Op.equalIn 10000 40 (.agg #[.int .i64 1, .int .i64 1]) (.agg #[.int .i64 1, .int .i64 1])).run Try.prog w = .ok true w := fun w => eq_two 1 1 1 1 w
        have eq2 : ∀ w, (Op.equalIn 10000 40 (.agg #[.int .i64 (P : Int), .int .i64 (Q : Int)]) (.agg #[.int .i64 (P : Int), .int .i64 (Q : Int)])).run Try.prog w = .ok true w := fun w => by
          rw [eq_two]; simp
        clear hL1 hC1 hL2 hC2 hnL hlt
        by_cases hks : k < S.size
        all_goals
          go_wp2_with fail
          refine HA.out.mono ?_
          rintro e w5 ⟨rfl, hb5⟩
          have HB5 := Lib.hid (HB4.out.trans (hb5.mono HB4.out.size))
          clear hb5 HA d0 d1
          go_wp2_with fail
          refine (HP.out _).mono ?_
          rintro e w6 ⟨rfl, hb6⟩
          have HB6 := Lib.hid (HB5.out.trans (hb6.mono HB5.out.size))
          clear hb6
          go_wp2_with fail
          refine (HO.out _).mono ?_
          rintro e w7 ⟨rfl, hb7⟩
          have HB7 := Lib.hid (HB6.out.trans (hb7.mono HB6.out.size))
          clear hb7
          go_wp2
          go_ret
          exact ⟨rfl, HB7.out⟩
  · rw [decide_eq_false h2]
    clear h2
    go_wp2
    go_ret
    exact ⟨rfl, HB1.out⟩

end Go.Proofs.Ytpmciakmmchndaa.lexerLines
