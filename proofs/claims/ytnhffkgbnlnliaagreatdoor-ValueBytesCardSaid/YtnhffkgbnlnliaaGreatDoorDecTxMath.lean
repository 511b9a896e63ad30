/-
  Texts and what is parsed: the mathematics of decimal numerals.
-/
import Derived.Test.YtnhffkgbnlnliaaGreatDoorDecParse
namespace Go.Proofs.YtnhffkgbnlnliaaGreatDoor.De

/-- A numeral without leading zeros. -/
def Canon (l : List UInt8) : Prop := digitsB l = true ∧ l ≠ [] ∧ (l.head? = some 48 → l = [48])

theorem digitsB_append (a b : List UInt8) : digitsB (a ++ b) = (digitsB a && digitsB b) := by unfold digitsB; exact List.all_append
theorem readN_snoc (l : List UInt8) (c : UInt8) : readN (l ++ [c]) = readN l * 10 + (c.toNat - 48) := by unfold readN; rw [List.foldl_append]; rfl
theorem readN_append (a : List UInt8) : ∀ b : List UInt8, readN (a ++ b) = readN a * 10 ^ b.length + readN b := by
  have key : ∀ (b : List UInt8) (x : Nat), b.foldl (fun n c => n * 10 + (c.toNat - 48)) x = x * 10 ^ b.length + b.foldl (fun n c => n * 10 + (c.toNat - 48)) 0 := by
    intro b
    induction b with
    | nil => intro x; simp
    | cons c r ih =>
      intro x
      rw [List.foldl_cons, ih, List.foldl_cons, ih (0 * 10 + (c.toNat - 48)), List.length_cons, Nat.pow_succ, Nat.add_mul, Nat.zero_mul, Nat.zero_add, Nat.mul_assoc, Nat.mul_comm 10 (10 ^ r.length)]
      omega
  intro b
  unfold readN
  rw [List.foldl_append]
  exact key b _

theorem dig_nat (k : Nat) (h : k < 10) : (UInt8.ofNat (48 + k)).toNat = 48 + k := by
  rw [UInt8.toNat_ofNat']; omega
theorem digitB_of (k : Nat) (h : k < 10) : digitB (UInt8.ofNat (48 + k)) = true := by
  unfold digitB; rw [dig_nat k h]; exact decide_eq_true (by omega)
theorem byte_eq {x : UInt8} {k : Nat} (h : x.toNat = k) (hk : k < 256) : x = UInt8.ofNat k := by
  apply UInt8.toNat_inj.1
  rw [UInt8.toNat_ofNat', h]
  omega

theorem decDigits_small {u : Nat} (h : u < 10) : Lib.decDigits u = [UInt8.ofNat (48 + u)] := Lib.decDigits_one h
theorem decDigits_big {u : Nat} (h : ¬ u < 10) : Lib.decDigits u = Lib.decDigits (u / 10) ++ [UInt8.ofNat (48 + u % 10)] := by
  rw [Lib.decDigits, dif_neg h]

/-- The numeral of a number: its digits, and the number again. -/
theorem decDigits_ok (n : Nat) : ∀ u, u ≤ n → digitsB (Lib.decDigits u) = true ∧ readN (Lib.decDigits u) = u ∧ (Lib.decDigits u) ≠ [] ∧ (0 < u → (Lib.decDigits u).head? ≠ some 48) := by
  induction n with
  | zero =>
    intro u hu
    obtain rfl : u = 0 := by omega
    rw [decDigits_small (by decide)]
    decide
  | succ n ih =>
    intro u hu
    by_cases h : u < 10
    · rw [decDigits_small h]
      refine ⟨?_, ?_, by simp, fun h0 => ?_⟩
      · unfold digitsB; rw [List.all_cons, digitB_of u h]; rfl
      · unfold readN; rw [List.foldl_cons, List.foldl_nil, dig_nat u h]; omega
      · rw [List.head?_cons]
        intro e
        have := congrArg UInt8.toNat (Option.some.inj e)
        rw [dig_nat u h] at this
        have h48 : (48 : UInt8).toNat = 48 := rfl
        omega
    · rw [decDigits_big h]
      obtain ⟨i1, i2, i3, i4⟩ := ih (u / 10) (by omega)
      refine ⟨?_, ?_, by simp, fun _ => ?_⟩
      · rw [digitsB_append, i1]; unfold digitsB; rw [List.all_cons, digitB_of _ (by omega)]; rfl
      · rw [readN_snoc, i2, dig_nat _ (by omega)]; omega
      · have := i4 (by omega)
        rw [List.head?_append]
        cases hh : (Lib.decDigits (u / 10)).head? with
        | none => exact absurd (List.head?_eq_none_iff.1 hh) i3
        | some x => rw [hh] at this; exact this

theorem readN_pos : ∀ (l : List UInt8), digitsB l = true → l ≠ [] → l.head? ≠ some 48 → 1 ≤ readN l
  | [], _, h, _ => absurd rfl h
  | x :: r, hd, _, hh => by
    have e : readN (x :: r) = readN ([x] ++ r) := rfl
    rw [e, readN_append]
    unfold digitsB at hd
    rw [List.all_cons, Bool.and_eq_true] at hd
    have hx := of_decide_eq_true hd.1
    have hne : x.toNat ≠ 48 := fun e => hh (by rw [List.head?_cons]; exact congrArg some (UInt8.toNat_inj.1 e))
    have e2 : readN [x] = x.toNat - 48 := by unfold readN; simp
    rw [e2]
    have hp : 0 < 10 ^ r.length := Nat.pow_pos (by decide)
    have : 1 * 10 ^ r.length ≤ (x.toNat - 48) * 10 ^ r.length := Nat.mul_le_mul_right _ (by omega)
    omega

/-- A numeral without leading zeros is that of its number. -/
theorem canon_digits (n : Nat) : ∀ l : List UInt8, l.length ≤ n → Canon l → Lib.decDigits (readN l) = l := by
  induction n with
  | zero => intro l hl hc; exact absurd (List.length_eq_zero_iff.1 (by omega)) hc.2.1
  | succ n ih =>
    intro l hl hc
    obtain ⟨hd, hne, hz⟩ := hc
    obtain ⟨l', c, rfl⟩ : ∃ l' c, l = l' ++ [c] := ⟨l.dropLast, l.getLast hne, (List.dropLast_concat_getLast hne).symm⟩
    rw [digitsB_append, Bool.and_eq_true] at hd
    have hc1 : digitB c = true := by have := hd.2; unfold digitsB at this; simpa using this
    have hc2 := of_decide_eq_true hc1
    rw [readN_snoc]
    by_cases h0 : l' = []
    · subst h0
      rw [show readN [] = 0 from rfl, Nat.zero_mul, Nat.zero_add, decDigits_small (by omega)]
      rw [show 48 + (c.toNat - 48) = c.toNat by omega, ← byte_eq rfl (by have := c.toNat_lt; omega)]
      rfl
    · have hh : l'.head? ≠ some 48 := by
        intro e
        have : (l' ++ [c]).head? = some 48 := by rw [List.head?_append, e]; rfl
        have h2 := hz this
        have h3 := congrArg List.length h2
        rw [List.length_append, List.length_singleton] at h3
        have : l'.length = 0 := by simpa using h3
        exact h0 (List.length_eq_zero_iff.1 this)
      have hp := readN_pos l' hd.1 h0 hh
      have hi := ih l' (by rw [List.length_append, List.length_singleton] at hl; omega) ⟨hd.1, h0, fun e => absurd e hh⟩
      rw [decDigits_big (by omega), show (readN l' * 10 + (c.toNat - 48)) / 10 = readN l' by omega, hi, show (readN l' * 10 + (c.toNat - 48)) % 10 = c.toNat - 48 by omega]
      rw [show 48 + (c.toNat - 48) = c.toNat by omega, ← byte_eq rfl (by have := c.toNat_lt; omega)]

/-! Decimal places. -/

theorem trim_zeros (P : List UInt8) (k : Nat) (hP : P.getLast? ≠ some 48) : Lib.trimRightB (P ++ List.replicate k 48) 48 = P := by
  unfold Lib.trimRightB
  rw [List.reverse_append, List.reverse_replicate]
  have h1 : ∀ (m : Nat) (r : List UInt8), List.dropWhile (· == 48) (List.replicate m 48 ++ r) = List.dropWhile (· == 48) r := by
    intro m
    induction m with
    | zero => intro r; rfl
    | succ m ih => intro r; rw [List.replicate_succ, List.cons_append, List.dropWhile_cons]; simp [ih]
  rw [h1]
  cases hr : P.reverse with
  | nil => rw [List.reverse_eq_nil_iff.1 hr]; rfl
  | cons x r =>
    have hx : P.getLast? = some x := by rw [← List.head?_reverse, hr]; rfl
    rw [hx] at hP
    rw [List.dropWhile_cons, if_neg (by simpa using fun e => hP (congrArg some e)), ← hr, List.reverse_reverse]

theorem trim_split (Z : List UInt8) : ∃ k, Z = Lib.trimRightB Z 48 ++ List.replicate k 48 ∧ (Lib.trimRightB Z 48).getLast? ≠ some 48 := by
  have key : ∀ l : List UInt8, ∃ k, l = List.replicate k 48 ++ l.dropWhile (· == 48) ∧ (l.dropWhile (· == 48)).head? ≠ some 48 := by
    intro l
    induction l with
    | nil => exact ⟨0, rfl, by simp⟩
    | cons x r ih =>
      by_cases hx : x = 48
      · subst hx
        obtain ⟨k, h1, h2⟩ := ih
        refine ⟨k + 1, ?_, ?_⟩
        · rw [List.dropWhile_cons, if_pos (by simp), List.replicate_succ, List.cons_append, ← h1]
        · rw [List.dropWhile_cons, if_pos (by simp)]; exact h2
      · refine ⟨0, ?_, ?_⟩
        · rw [List.dropWhile_cons, if_neg (by simpa using hx)]; rfl
        · rw [List.dropWhile_cons, if_neg (by simpa using hx), List.head?_cons]
          exact fun e => hx (Option.some.inj e)
  obtain ⟨k, h1, h2⟩ := key Z.reverse
  refine ⟨k, ?_, ?_⟩
  · have := congrArg List.reverse h1
    rw [List.reverse_reverse, List.reverse_append, List.reverse_replicate] at this
    exact this
  · unfold Lib.trimRightB
    rw [← List.head?_reverse, List.reverse_reverse]
    exact h2

theorem readN_zeros (k : Nat) : readN (List.replicate k 48) = 0 := by
  induction k with
  | zero => rfl
  | succ k ih =>
    rw [List.replicate_succ']
    rw [readN_snoc, ih]
    rfl

/-- The six digits of a number of millionths. -/
theorem six_digits (p : Nat) (h : p < 1000000) : ∃ Z, Lib.decDigits (1000000 + p) = 49 :: Z ∧ Z.length = 6 ∧ digitsB Z = true ∧ readN Z = p := by
  have e := Lib.decDigits_eq (1000000 + p)
  rw [nDigits_seven p h, List.range_succ_eq_map, List.map_cons] at e
  have e0 : Lib.dg (1000000 + p) (7 - 1 - 0) = 49 := by
    unfold Lib.dg
    rw [show (1000000 + p) / 10 ^ (7 - 1 - 0) % 10 = 1 by show (1000000 + p) / 1000000 % 10 = 1; omega]
    rfl
  rw [e0] at e
  generalize hZ : List.map (fun t => Lib.dg (1000000 + p) (7 - 1 - t)) (List.map Nat.succ (List.range 6)) = Z at e
  obtain ⟨i1, i2, _, _⟩ := decDigits_ok (1000000 + p) _ (Nat.le_refl _)
  rw [e] at i1 i2
  have hl : Z.length = 6 := by rw [← hZ]; simp
  have hd : digitsB Z = true := by
    unfold digitsB at i1 ⊢
    rw [List.all_cons, Bool.and_eq_true] at i1
    exact i1.2
  refine ⟨Z, e, hl, hd, ?_⟩
  have e2 : readN (49 :: Z) = readN ([49] ++ Z) := rfl
  rw [e2, readN_append, hl, show readN [49] = 1 from rfl] at i2
  omega

structure Places (p : Nat) (P : List UInt8) : Prop where
  digits : digitsB P = true
  len : P.length ≤ 6
  last : P.getLast? ≠ some 48
  val : readN P * unitN P.length = p

theorem placesL_ok (p : Nat) (h : p < 1000000) : Places p (placesL p) := by
  obtain ⟨Z, e, hl, hd, hr⟩ := six_digits p h
  unfold placesL
  rw [e, List.drop_succ_cons, List.drop_zero]
  obtain ⟨k, h1, h2⟩ := trim_split Z
  generalize Lib.trimRightB Z 48 = P at h1 h2 ⊢
  have hlen : P.length + k = 6 := by rw [← hl, h1]; simp
  rw [h1, digitsB_append, Bool.and_eq_true] at hd
  rw [h1, readN_append, readN_zeros, Nat.add_zero, List.length_replicate] at hr
  refine ⟨hd.1, by omega, h2, ?_⟩
  unfold unitN
  rw [show 6 - P.length = k by omega]
  exact hr

theorem placesL_is (P : List UInt8) (hd : digitsB P = true) (hl : P.length ≤ 6) (hz : P.getLast? ≠ some 48) : placesL (readN P * unitN P.length) = P := by
  have hc : Canon (49 :: (P ++ List.replicate (6 - P.length) 48)) := by
    refine ⟨?_, by simp, fun e => by rw [List.head?_cons] at e; exact absurd (Option.some.inj e) (by decide)⟩
    have e : (49 :: (P ++ List.replicate (6 - P.length) 48) : List UInt8) = [49] ++ (P ++ List.replicate (6 - P.length) 48) := rfl
    rw [e, digitsB_append, digitsB_append, hd]
    have : digitsB (List.replicate (6 - P.length) 48) = true := by
      unfold digitsB
      rw [List.all_eq_true]
      intro x hx
      rw [List.eq_of_mem_replicate hx]
      rfl
    rw [this]
    rfl
  have h := canon_digits _ _ (Nat.le_refl _) hc
  have e : readN (49 :: (P ++ List.replicate (6 - P.length) 48)) = 1000000 + readN P * unitN P.length := by
    have e2 : (49 :: (P ++ List.replicate (6 - P.length) 48) : List UInt8) = [49] ++ (P ++ List.replicate (6 - P.length) 48) := rfl
    rw [e2, readN_append, readN_append, readN_zeros, List.length_append, List.length_replicate, show P.length + (6 - P.length) = 6 by omega, show readN [49] = 1 from rfl]
    unfold unitN
    omega
  rw [e] at h
  unfold placesL
  rw [h, List.drop_succ_cons, List.drop_zero]
  exact trim_zeros P _ hz

end Go.Proofs.YtnhffkgbnlnliaaGreatDoor.De
