/-
  What is read is a spelling; sources with more behind them, and beginnings of sources.
-/
import Derived.Test.YtohobiglnebocaaLxBack
namespace Go.Proofs.Ytohobiglnebocaa.Lx
open Go

theorem sp_none {p : UInt8 → Bool} (h0 : p 0 = false) {r : List UInt8} (h : spN p r = 0) : p (hd r) = false := by
  have := sp_stop p h0 r
  rw [h, List.drop_zero] at this
  exact this
theorem hd_drop_mem {l : List UInt8} {m n : Nat} (h : m < n) (hn : n ≤ l.length) : hd (l.drop m) ∈ l.take n := by
  rw [hd_drop, List.getElem?_eq_getElem (by omega)]
  show l[m] ∈ _
  rw [List.mem_take_iff_getElem]
  exact ⟨m, by omega, rfl⟩

/-- What is read well is a spelling, as far as it goes. -/
theorem fwd {l : List UInt8} {k : Int} {s : List UInt8} {n : Nat} (hl : l ≠ []) (ht : tkR l = (k, s, n)) (hok : okR l = true) :
    vld k s = true ∧ l = spl k s ++ l.drop n ∧ n = (spl k s).length ∧ mun k s (l.drop n) = true := by
  have hle := tk_le hl
  have hpos := tk_pos hl
  rw [ht] at hle hpos
  have hle : n ≤ l.length := hle
  have hpos : 0 < n := hpos
  rw [ok_iff ht] at hok
  have he : spl k s = l.take n := of_decide_eq_true hok
  have hlen : (l.take n).length = n := by rw [List.length_take]; omega
  have hv : vld k s = true := by
    cases hv : vld k s
    · rw [spl_no hv] at he
      rw [← he] at hlen
      simp at hlen; omega
    · rfl
  refine ⟨hv, by rw [he, List.take_append_drop], by rw [he, hlen], ?_⟩
  rcases kd_cases (hd l) with hk | hk | hk | hk
  · rw [tk_word hk] at ht
    cases ht
    rw [mun_1, sp_stop ldB (by decide) l]; rfl
  · rw [tk_num hk] at ht
    cases ht
    have hv : numB (l.take (numN l)) = true := hv
    have h0 : spN letB (l.drop (digN l)) = 0 := by
      rcases Nat.eq_zero_or_pos (spN letB (l.drop (digN l))) with h | h
      · exact h
      · have hmem : hd (l.drop (digN l)) ∈ l.take (numN l) := hd_drop_mem (by unfold numN; omega) hle
        have hlet : letB (hd (l.drop (digN l))) = true := by
          cases hc : letB (hd (l.drop (digN l)))
          · rw [sp_zero letB hc] at h; omega
          · rfl
        rcases num_all hv _ hmem with h2 | h2
        · rw [dig_not_let h2] at hlet; cases hlet
        · rw [h2] at hlet; exact absurd hlet (by decide)
    have hn : numN l = digN l := by unfold numN; omega
    rw [hn] at hv hle ⊢
    have hlet := sp_none (p := letB) (by decide) h0
    have hdig : digB (hd (l.drop (digN l))) = false := by
      unfold digN
      split
      · have := sp_stop digB (by decide) (l.drop (spN digB l + 1))
        rw [List.drop_drop] at this
        exact this
      · exact sp_stop digB (by decide) l
    rw [mun_2, show ldB (hd (l.drop (digN l))) = false by unfold ldB; rw [hlet, hdig]; rfl]
    rw [show (l.drop (digN l)).drop 1 = l.drop (digN l + 1) by rw [List.drop_drop]]
    cases hall : (l.take (digN l)).all digB
    · rfl
    · by_cases hc : (ptB (hd (l.drop (spN digB l))) && digB (hd (l.drop (spN digB l + 1)))) = true
      · have hd2 : digN l = spN digB l + 1 + spN digB (l.drop (spN digB l + 1)) := by unfold digN; rw [if_pos hc]
        have hmem : hd (l.drop (spN digB l)) ∈ l.take (digN l) := hd_drop_mem (by omega) hle
        have h2 := List.all_eq_true.1 hall _ hmem
        rw [Bool.and_eq_true] at hc
        rw [dig_not_pt h2] at hc
        exact absurd hc.1 (by decide)
      · have hd2 : digN l = spN digB l := by unfold digN; rw [if_neg hc]
        rw [hd2]
        cases h1 : ptB (hd (l.drop (spN digB l))) <;> cases h2 : digB (hd (l.drop (spN digB l + 1))) <;> first | rfl | (rw [h1, h2] at hc; exact absurd rfl hc)
  · rw [tk_text hk] at ht
    cases ht
    rfl
  · rw [tk_sign hk] at ht
    cases ht
    rw [mun_4]
    unfold sgN
    split
    · rename_i h2
      rw [h2]; rfl
    · rename_i h2
      cases h1 : decide (l.take 1 = [60])
      · rfl
      · cases h3 : decide (hd (l.drop 1) = 61)
        · rfl
        · exfalso
          have h1 := of_decide_eq_true h1
          have h3 := of_decide_eq_true h3
          cases l with
          | nil => cases h1
          | cons b r =>
            simp at h1
            subst h1
            cases r with
            | nil => exact absurd h3 (by decide)
            | cons c r =>
              have h3 : c = 61 := h3
              subst h3
              exact h2 (by simp)

/-! ### What may follow still -/

theorem mun_of {k : Int} (s : List UInt8) {r : List UInt8} (h1 : ldB (hd r) = false) (h2 : ptB (hd r) = false) (h3 : hd r ≠ 61) : mun k s r = true := by
  unfold mun
  split
  · rw [h1]; rfl
  · split
    · rw [h1, h2]; simp
    · split
      · rfl
      · rw [decide_eq_false h3]; simp
theorem mun_nil {k : Int} (s : List UInt8) : mun k s [] = true := mun_of s (by decide) (by decide) (by decide)
theorem mun_sub {k : Int} {s r r' : List UInt8} (h : mun k s r = true) (h1 : hd r' = hd r ∨ hd r' = 0 ∨ hd r' = 10) (h2 : hd r' = hd r → hd (r'.drop 1) = hd (r.drop 1) ∨ digB (hd (r'.drop 1)) = false) : mun k s r' = true := by
  rcases h1 with h1 | h1 | h1
  · unfold mun at h ⊢
    rw [h1]
    split
    · rename_i hk; rw [if_pos hk] at h; exact h
    · rename_i hk
      rw [if_neg hk] at h
      split
      · rename_i hk2
        rw [if_pos hk2] at h
        rcases h2 h1 with h2 | h2
        · rw [h2]; exact h
        · rw [h2]
          rw [Bool.and_eq_true] at h
          rw [h.1]; simp
      · rename_i hk2
        rw [if_neg hk2] at h
        exact h
  · exact mun_of s (by rw [h1]; decide) (by rw [h1]; decide) (by rw [h1]; decide)
  · exact mun_of s (by rw [h1]; decide) (by rw [h1]; decide) (by rw [h1]; decide)
theorem mun_take {k : Int} {s r : List UInt8} (m : Nat) (h : mun k s r = true) : mun k s (r.take m) = true := by
  rcases m with _ | _ | m
  · rw [List.take_zero]; exact mun_nil s
  · cases r with
    | nil => exact h
    | cons b r => exact mun_sub h (.inl rfl) (fun _ => .inr (by rw [show (List.take (0 + 1) (b :: r)).drop 1 = [] by simp]; decide))
  · cases r with
    | nil => exact h
    | cons b r =>
      refine mun_sub h (.inl rfl) (fun _ => ?_)
      cases r with
      | nil => exact .inl rfl
      | cons c r => exact .inl rfl
theorem mun_more {k : Int} {s r : List UInt8} (x : List UInt8) (h : mun k s r = true) : mun k s (r ++ 10 :: x) = true := by
  cases r with
  | nil => exact mun_sub h (.inr (.inr rfl)) (fun e => absurd e (by rw [hd_nil]; show (10 : UInt8) ≠ 0; decide))
  | cons b r =>
    refine mun_sub h (.inl rfl) (fun _ => ?_)
    cases r with
    | nil => exact .inr (by show digB 10 = false; decide)
    | cons c r => exact .inl rfl

/-! ### White space -/

theorem ws_more : ∀ (c : Bool) (a x : List UInt8), wsN c a < a.length → wsN c (a ++ x) = wsN c a
  | _, [], x, h => absurd h (Nat.not_lt_zero _)
  | true, b :: a, x, h => by
    rw [List.cons_append, wsN, wsN]
    rw [wsN] at h
    split
    · rename_i h10
      rw [if_pos h10] at h
      rw [ws_more false a x (by simp at h; omega)]
    · rename_i h10
      rw [if_neg h10] at h
      rw [ws_more true a x (by simp at h; omega)]
  | false, b :: a, x, h => by
    rw [List.cons_append, wsN, wsN]
    rw [wsN] at h
    split
    · rename_i h10
      rw [if_pos h10] at h
      rw [ws_more false a x (by simp at h; omega)]
    · rename_i h10
      rw [if_neg h10] at h
      split
      · rename_i h35
        rw [if_pos h35] at h
        rw [ws_more true a x (by simp at h; omega)]
      · rfl
theorem ws_whole : ∀ (c : Bool) (a x : List UInt8), wsN c a = a.length → wsN c (a ++ 10 :: x) = a.length + 1 + wsN false x
  | true, [], x, _ => by show (if (10 : UInt8).toNat = 10 then 1 + wsN false x else _) = _; rw [if_pos (by decide)]; simp
  | false, [], x, _ => by show (if blB 10 then 1 + wsN false x else _) = _; rw [if_pos (by decide)]; simp
  | true, b :: a, x, h => by
    rw [List.cons_append, wsN]
    rw [wsN] at h
    split
    · rename_i h10
      rw [if_pos h10] at h
      rw [ws_whole false a x (by simp at h; omega)]; simp; omega
    · rename_i h10
      rw [if_neg h10] at h
      rw [ws_whole true a x (by simp at h; omega)]; simp; omega
  | false, b :: a, x, h => by
    rw [List.cons_append, wsN]
    rw [wsN] at h
    split
    · rename_i h10
      rw [if_pos h10] at h
      rw [ws_whole false a x (by simp at h; omega)]; simp; omega
    · rename_i h10
      rw [if_neg h10] at h
      split
      · rename_i h35
        rw [if_pos h35] at h
        rw [ws_whole true a x (by simp at h; omega)]; simp; omega
      · rename_i h35
        rw [if_neg h35] at h
        simp at h
theorem ws_cut : ∀ (c : Bool) (a : List UInt8) (m : Nat), wsN c a ≤ m → m ≤ a.length → wsN c (a.take m) = wsN c a
  | _, [], m, _, _ => by rw [List.take_nil]
  | true, b :: a, 0, h, _ => by rw [wsN] at h; split at h <;> omega
  | true, b :: a, m + 1, h, hm => by
    rw [List.take_succ_cons, wsN, wsN]
    rw [wsN] at h
    split
    · rename_i h10
      rw [if_pos h10] at h
      rw [ws_cut false a m (by omega) (by simpa using hm)]
    · rename_i h10
      rw [if_neg h10] at h
      rw [ws_cut true a m (by omega) (by simpa using hm)]
  | false, b :: a, 0, h, _ => by
    rw [List.take_zero]
    have : wsN false (b :: a) = 0 := by omega
    rw [this]; rfl
  | false, b :: a, m + 1, h, hm => by
    rw [List.take_succ_cons, wsN, wsN]
    rw [wsN] at h
    split
    · rename_i h10
      rw [if_pos h10] at h
      rw [ws_cut false a m (by omega) (by simpa using hm)]
    · rename_i h10
      rw [if_neg h10] at h
      split
      · rename_i h35
        rw [if_pos h35] at h
        rw [ws_cut true a m (by omega) (by simpa using hm)]
      · rfl

end Go.Proofs.Ytohobiglnebocaa.Lx
