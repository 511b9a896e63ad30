/-
  Parse inverts Text exactly with the scales that a number has; what Parse accepts is the text of its result.
-/
import Derived.Test.YtocnkjnlmciojaaGreatDoorDecParse
import Derived.Test.YtocnkjnlmciojaaGreatDoorDecTrMath
namespace Go.Proofs.YtocnkjnlmciojaaGreatDoor.De

/-- A numeral without leading zeros. -/
def Canon (l : List UInt8) : Prop := digitsB l = true ∧ l ≠ [] ∧ (l.head? = some 48 → l = [48])

theorem digitsB_append (a b : List UInt8) : digitsB (a ++ b) = (digitsB a && digitsB b) := by unfold digitsB; exact List.all_append
theorem readN_snoc (l : List UInt8) (c : UInt8) : readN (l ++ [c]) = readN l * 10 + (c.toNat - 48) := by unfold readN; rw [List.foldl_append]; rfl
theorem readN_append (a : List UInt8) : ∀ b : List UInt8, readN (a ++ b) = readN a * 10 ^ b.length + readN b := by
  have key : ∀ (b : List UInt8) (x : Nat), b.foldl (fun n c => n * 10 + (c.toNat - 48)) x = x * 10 ^ b.length + b.foldl (fun n c => n * 10 + (c.toNat - 48)) 0 := by
    intro b
    induction b with
    | nil => intro x; simp
    | cons c r ih =>
      intro x
      rw [List.foldl_cons, ih, List.foldl_cons, ih (0 * 10 + (c.toNat - 48)), List.length_cons, Nat.pow_succ, Nat.add_mul, Nat.zero_mul, Nat.zero_add, Nat.mul_assoc, Nat.mul_comm 10 (10 ^ r.length)]
      omega
  intro b
  unfold readN
  rw [List.foldl_append]
  exact key b _

theorem dig_nat (k : Nat) (h : k < 10) : (UInt8.ofNat (48 + k)).toNat = 48 + k := by
  rw [UInt8.toNat_ofNat']; omega
theorem digitB_of (k : Nat) (h : k < 10) : digitB (UInt8.ofNat (48 + k)) = true := by
  unfold digitB; rw [dig_nat k h]; exact decide_eq_true (by omega)
theorem byte_eq {x : UInt8} {k : Nat} (h : x.toNat = k) (hk : k < 256) : x = UInt8.ofNat k := by
  apply UInt8.toNat_inj.1
  rw [UInt8.toNat_ofNat', h]
  omega

theorem decDigits_small {u : Nat} (h : u < 10) : Lib.decDigits u = [UInt8.ofNat (48 + u)] := Lib.decDigits_one h
theorem decDigits_big {u : Nat} (h : ¬ u < 10) : Lib.decDigits u = Lib.decDigits (u / 10) ++ [UInt8.ofNat (48 + u % 10)] := by
  rw [Lib.decDigits, dif_neg h]

/-- The numeral of a number: its digits, and the number again. -/
theorem decDigits_ok (n : Nat) : ∀ u, u ≤ n → digitsB (Lib.decDigits u) = true ∧ readN (Lib.decDigits u) = u ∧ (Lib.decDigits u) ≠ [] ∧ (0 < u → (Lib.decDigits u).head? ≠ some 48) := by
  induction n with
  | zero =>
    intro u hu
    obtain rfl : u = 0 := by omega
    rw [decDigits_small (by decide)]
    decide
  | succ n ih =>
    intro u hu
    by_cases h : u < 10
    · rw [decDigits_small h]
      refine ⟨?_, ?_, by simp, fun h0 => ?_⟩
      · unfold digitsB; rw [List.all_cons, digitB_of u h]; rfl
      · unfold readN; rw [List.foldl_cons, List.foldl_nil, dig_nat u h]; omega
      · rw [List.head?_cons]
        intro e
        have := congrArg UInt8.toNat (Option.some.inj e)
        rw [dig_nat u h] at this
        have h48 : (48 : UInt8).toNat = 48 := rfl
        omega
    · rw [decDigits_big h]
      obtain ⟨i1, i2, i3, i4⟩ := ih (u / 10) (by omega)
      refine ⟨?_, ?_, by simp, fun _ => ?_⟩
      · rw [digitsB_append, i1]; unfold digitsB; rw [List.all_cons, digitB_of _ (by omega)]; rfl
      · rw [readN_snoc, i2, dig_nat _ (by omega)]; omega
      · have := i4 (by omega)
        rw [List.head?_append]
        cases hh : (Lib.decDigits (u / 10)).head? with
        | none => exact absurd (List.head?_eq_none_iff.1 hh) i3
        | some x => rw [hh] at this; exact this

theorem readN_pos : ∀ (l : List UInt8), digitsB l = true → l ≠ [] → l.head? ≠ some 48 → 1 ≤ readN l
  | [], _, h, _ => absurd rfl h
  | x :: r, hd, _, hh => by
    have e : readN (x :: r) = readN ([x] ++ r) := rfl
    rw [e, readN_append]
    unfold digitsB at hd
    rw [List.all_cons, Bool.and_eq_true] at hd
    have hx := of_decide_eq_true hd.1
    have hne : x.toNat ≠ 48 := fun e => hh (by rw [List.head?_cons]; exact congrArg some (UInt8.toNat_inj.1 e))
    have e2 : readN [x] = x.toNat - 48 := by unfold readN; simp
    rw [e2]
    have hp : 0 < 10 ^ r.length := Nat.pow_pos (by decide)
    have : 1 * 10 ^ r.length ≤ (x.toNat - 48) * 10 ^ r.length := Nat.mul_le_mul_right _ (by omega)
    omega

/-- A numeral without leading zeros is that of its number. -/
theorem canon_digits (n : Nat) : ∀ l : List UInt8, l.length ≤ n → Canon l → Lib.decDigits (readN l) = l := by
  induction n with
  | zero => intro l hl hc; exact absurd (List.length_eq_zero_iff.1 (by omega)) hc.2.1
  | succ n ih =>
    intro l hl hc
    obtain ⟨hd, hne, hz⟩ := hc
    obtain ⟨l', c, rfl⟩ : ∃ l' c, l = l' ++ [c] := ⟨l.dropLast, l.getLast hne, (List.dropLast_concat_getLast hne).symm⟩
    rw [digitsB_append, Bool.and_eq_true] at hd
    have hc1 : digitB c = true := by have := hd.2; unfold digitsB at this; simpa using this
    have hc2 := of_decide_eq_true hc1
    rw [readN_snoc]
    by_cases h0 : l' = []
    · subst h0
      rw [show readN [] = 0 from rfl, Nat.zero_mul, Nat.zero_add, decDigits_small (by omega)]
      rw [show 48 + (c.toNat - 48) = c.toNat by omega, ← byte_eq rfl (by have := c.toNat_lt; omega)]
      rfl
    · have hh : l'.head? ≠ some 48 := by
        intro e
        have : (l' ++ [c]).head? = some 48 := by rw [List.head?_append, e]; rfl
        have h2 := hz this
        have h3 := congrArg List.length h2
        rw [List.length_append, List.length_singleton] at h3
        have : l'.length = 0 := by simpa using h3
        exact h0 (List.length_eq_zero_iff.1 this)
      have hp := readN_pos l' hd.1 h0 hh
      have hi := ih l' (by rw [List.length_append, List.length_singleton] at hl; omega) ⟨hd.1, h0, fun e => absurd e hh⟩
      rw [decDigits_big (by omega), show (readN l' * 10 + (c.toNat - 48)) / 10 = readN l' by omega, hi, show (readN l' * 10 + (c.toNat - 48)) % 10 = c.toNat - 48 by omega]
      rw [show 48 + (c.toNat - 48) = c.toNat by omega, ← byte_eq rfl (by have := c.toNat_lt; omega)]

/-! Decimal places. -/

theorem trim_zeros (P : List UInt8) (k : Nat) (hP : P.getLast? ≠ some 48) : Lib.trimRightB (P ++ List.replicate k 48) 48 = P := by
  unfold Lib.trimRightB
  rw [List.reverse_append, List.reverse_replicate]
  have h1 : ∀ (m : Nat) (r : List UInt8), List.dropWhile (· == 48) (List.replicate m 48 ++ r) = List.dropWhile (· == 48) r := by
    intro m
    induction m with
    | zero => intro r; rfl
    | succ m ih => intro r; rw [List.replicate_succ, List.cons_append, List.dropWhile_cons]; simp [ih]
  rw [h1]
  cases hr : P.reverse with
  | nil => rw [List.reverse_eq_nil_iff.1 hr]; rfl
  | cons x r =>
    have hx : P.getLast? = some x := by rw [← List.head?_reverse, hr]; rfl
    rw [hx] at hP
    rw [List.dropWhile_cons, if_neg (by simpa using fun e => hP (congrArg some e)), ← hr, List.reverse_reverse]

theorem trim_split (Z : List UInt8) : ∃ k, Z = Lib.trimRightB Z 48 ++ List.replicate k 48 ∧ (Lib.trimRightB Z 48).getLast? ≠ some 48 := by
  have key : ∀ l : List UInt8, ∃ k, l = List.replicate k 48 ++ l.dropWhile (· == 48) ∧ (l.dropWhile (· == 48)).head? ≠ some 48 := by
    intro l
    induction l with
    | nil => exact ⟨0, rfl, by simp⟩
    | cons x r ih =>
      by_cases hx : x = 48
      · subst hx
        obtain ⟨k, h1, h2⟩ := ih
        refine ⟨k + 1, ?_, ?_⟩
        · rw [List.dropWhile_cons, if_pos (by simp), List.replicate_succ, List.cons_append, ← h1]
        · rw [List.dropWhile_cons, if_pos (by simp)]; exact h2
      · refine ⟨0, ?_, ?_⟩
        · rw [List.dropWhile_cons, if_neg (by simpa using hx)]; rfl
        · rw [List.dropWhile_cons, if_neg (by simpa using hx), List.head?_cons]
          exact fun e => hx (Option.some.inj e)
  obtain ⟨k, h1, h2⟩ := key Z.reverse
  refine ⟨k, ?_, ?_⟩
  · have := congrArg List.reverse h1
    rw [List.reverse_reverse, List.reverse_append, List.reverse_replicate] at this
    exact this
  · unfold Lib.trimRightB
    rw [← List.head?_reverse, List.reverse_reverse]
    exact h2

theorem readN_zeros (k : Nat) : readN (List.replicate k 48) = 0 := by
  induction k with
  | zero => rfl
  | succ k ih =>
    rw [List.replicate_succ']
    rw [readN_snoc, ih]
    rfl

/-- The six digits of a number of millionths. -/
theorem six_digits (p : Nat) (h : p < 1000000) : ∃ Z, Lib.decDigits (1000000 + p) = 49 :: Z ∧ Z.length = 6 ∧ digitsB Z = true ∧ readN Z = p := by
  have e := Lib.decDigits_eq (1000000 + p)
  rw [nDigits_seven p h, List.range_succ_eq_map, List.map_cons] at e
  have e0 : Lib.dg (1000000 + p) (7 - 1 - 0) = 49 := by
    unfold Lib.dg
    rw [show (1000000 + p) / 10 ^ (7 - 1 - 0) % 10 = 1 by show (1000000 + p) / 1000000 % 10 = 1; omega]
    rfl
  rw [e0] at e
  generalize hZ : List.map (fun t => Lib.dg (1000000 + p) (7 - 1 - t)) (List.map Nat.succ (List.range 6)) = Z at e
  obtain ⟨i1, i2, _, _⟩ := decDigits_ok (1000000 + p) _ (Nat.le_refl _)
  rw [e] at i1 i2
  have hl : Z.length = 6 := by rw [← hZ]; simp
  have hd : digitsB Z = true := by
    unfold digitsB at i1 ⊢
    rw [List.all_cons, Bool.and_eq_true] at i1
    exact i1.2
  refine ⟨Z, e, hl, hd, ?_⟩
  have e2 : readN (49 :: Z) = readN ([49] ++ Z) := rfl
  rw [e2, readN_append, hl, show readN [49] = 1 from rfl] at i2
  omega

structure Places (p : Nat) (P : List UInt8) : Prop where
  digits : digitsB P = true
  len : P.length ≤ 6
  last : P.getLast? ≠ some 48
  val : readN P * unitN P.length = p

theorem placesL_ok (p : Nat) (h : p < 1000000) : Places p (placesL p) := by
  obtain ⟨Z, e, hl, hd, hr⟩ := six_digits p h
  unfold placesL
  rw [e, List.drop_succ_cons, List.drop_zero]
  obtain ⟨k, h1, h2⟩ := trim_split Z
  generalize Lib.trimRightB Z 48 = P at h1 h2 ⊢
  have hlen : P.length + k = 6 := by rw [← hl, h1]; simp
  rw [h1, digitsB_append, Bool.and_eq_true] at hd
  rw [h1, readN_append, readN_zeros, Nat.add_zero, List.length_replicate] at hr
  refine ⟨hd.1, by omega, h2, ?_⟩
  unfold unitN
  rw [show 6 - P.length = k by omega]
  exact hr

theorem placesL_is (P : List UInt8) (hd : digitsB P = true) (hl : P.length ≤ 6) (hz : P.getLast? ≠ some 48) : placesL (readN P * unitN P.length) = P := by
  have hc : Canon (49 :: (P ++ List.replicate (6 - P.length) 48)) := by
    refine ⟨?_, by simp, fun e => by rw [List.head?_cons] at e; exact absurd (Option.some.inj e) (by decide)⟩
    have e : (49 :: (P ++ List.replicate (6 - P.length) 48) : List UInt8) = [49] ++ (P ++ List.replicate (6 - P.length) 48) := rfl
    rw [e, digitsB_append, digitsB_append, hd]
    have : digitsB (List.replicate (6 - P.length) 48) = true := by
      unfold digitsB
      rw [List.all_eq_true]
      intro x hx
      rw [List.eq_of_mem_replicate hx]
      rfl
    rw [this]
    rfl
  have h := canon_digits _ _ (Nat.le_refl _) hc
  have e : readN (49 :: (P ++ List.replicate (6 - P.length) 48)) = 1000000 + readN P * unitN P.length := by
    have e2 : (49 :: (P ++ List.replicate (6 - P.length) 48) : List UInt8) = [49] ++ (P ++ List.replicate (6 - P.length) 48) := rfl
    rw [e2, readN_append, readN_append, readN_zeros, List.length_append, List.length_replicate, show P.length + (6 - P.length) = 6 by omega, show readN [49] = 1 from rfl]
    unfold unitN
    omega
  rw [e] at h
  unfold placesL
  rw [h, List.drop_succ_cons, List.drop_zero]
  exact trim_zeros P _ hz

end Go.Proofs.YtocnkjnlmciojaaGreatDoor.De

namespace Go.Proofs.YtocnkjnlmciojaaGreatDoor.De

/-- A byte that stands in no numeral. -/
theorem no_in_digits {l : List UInt8} {c : UInt8} (h : digitsB l = true) (hc : digitB c = false) : c ∉ l := by
  intro hm
  unfold digitsB at h
  rw [List.all_eq_true] at h
  rw [h c hm] at hc
  cases hc

theorem pre_ne {c b : UInt8} (l : List UInt8) (h : ¬ c = b) : [c].isPrefixOf (b :: l) = false := by
  show (c == b && List.isPrefixOf [] l) = false
  rw [show (c == b) = false by simpa using h]
  rfl

theorem index_miss (c : UInt8) : ∀ l : List UInt8, c ∉ l → Lib.index l [c] = -1
  | [], _ => rfl
  | b :: l, h => by
    have hb : ¬ (c = b) := fun e => h (e ▸ List.mem_cons_self)
    have ih := index_miss c l (fun hm => h (List.mem_cons_of_mem _ hm))
    show (if [c].isPrefixOf (b :: l) then (0 : Int) else if Lib.index l [c] == -1 then -1 else Lib.index l [c] + 1) = -1
    rw [ih]
    have : [c].isPrefixOf (b :: l) = false := pre_ne _ hb
    rw [this]
    rfl

theorem index_hit (c : UInt8) (r : List UInt8) : ∀ l : List UInt8, c ∉ l → Lib.index (l ++ c :: r) [c] = l.length
  | [], _ => by
    show (if [c].isPrefixOf (c :: r) then (0 : Int) else _) = 0
    have : [c].isPrefixOf (c :: r) = true := by simp
    rw [this]; rfl
  | b :: l, h => by
    have hb : ¬ (c = b) := fun e => h (e ▸ List.mem_cons_self)
    have ih := index_hit c r l (fun hm => h (List.mem_cons_of_mem _ hm))
    show (if [c].isPrefixOf (b :: (l ++ c :: r)) then (0 : Int) else if Lib.index (l ++ c :: r) [c] == -1 then -1 else Lib.index (l ++ c :: r) [c] + 1) = _
    rw [ih]
    have : [c].isPrefixOf (b :: (l ++ c :: r)) = false := pre_ne _ hb
    rw [this]
    have h2 : ((l.length : Int) == -1) = false := by rw [beq_eq_false_iff_ne]; omega
    rw [h2, List.length_cons]
    simp

/-- What an index of a byte says. -/
theorem index_found (c : UInt8) : ∀ l : List UInt8, 0 ≤ Lib.index l [c] → ∃ k : Nat, Lib.index l [c] = k ∧ l = l.take k ++ c :: l.drop (k + 1)
  | [], h => by
    have : Lib.index [] [c] = -1 := rfl
    omega
  | b :: l, h => by
    by_cases hb : c = b
    · subst hb
      refine ⟨0, ?_, rfl⟩
      show (if [c].isPrefixOf (c :: l) then (0 : Int) else _) = 0
      have : [c].isPrefixOf (c :: l) = true := by simp
      rw [this]; rfl
    · have hp : [c].isPrefixOf (b :: l) = false := pre_ne _ hb
      have e : Lib.index (b :: l) [c] = if Lib.index l [c] == -1 then -1 else Lib.index l [c] + 1 := by
        show (if [c].isPrefixOf (b :: l) then (0 : Int) else _) = _
        rw [hp]; rfl
      rw [e] at h ⊢
      by_cases hm : Lib.index l [c] = -1
      · rw [hm] at h; exact absurd h (by decide)
      · have hm' : (Lib.index l [c] == -1) = false := by simpa using hm
        rw [hm'] at h ⊢
        simp only [Bool.false_eq_true, if_false] at h ⊢
        obtain ⟨k, h1, h2⟩ := index_found c l (by omega)
        exact ⟨k + 1, by omega, by rw [List.take_succ_cons, List.drop_succ_cons, List.cons_append, ← h2]⟩

theorem cut_point (D P : List UInt8) (hD : digitsB D = true) : Lib.cut (D ++ 46 :: P) [46] = (D, P, true) := by
  have h := index_hit 46 P D (no_in_digits hD (by decide))
  unfold Lib.cut
  rw [h, if_pos (by omega), Int.toNat_natCast]
  simp
theorem cut_plain (D : List UInt8) (hD : digitsB D = true) : Lib.cut D [46] = (D, [], false) := by
  have h := index_miss 46 D (no_in_digits hD (by decide))
  unfold Lib.cut
  rw [h, if_neg (by decide)]

/-- The parts of a text. -/
structure Parts (l : List UInt8) (neg : Bool) (D P : List UInt8) (pt : Bool) : Prop where
  n : negL l = neg
  w : cutW l = D
  p : cutP l = P
  d : cutD l = pt

theorem sign_parts (neg : Bool) (B : List UInt8) (h : B.head? ≠ some 45) : negL ((if neg then [45] else []) ++ B) = neg ∧ Lib.trimPrefix ((if neg then [45] else []) ++ B) [45] = B := by
  unfold negL Lib.trimPrefix Lib.hasPrefix
  cases neg
  · have : [45].isPrefixOf B = false := by
      cases B with
      | nil => rfl
      | cons x r =>
        rw [List.head?_cons] at h
        have : ¬ (45 : UInt8) = x := fun e => h (congrArg some e.symm)
        exact pre_ne _ this
    simp [this]
  · simp

theorem head_digits {D R : List UInt8} (hD : digitsB D = true) (hne : D ≠ []) : (D ++ R).head? ≠ some 45 := by
  cases D with
  | nil => exact absurd rfl hne
  | cons x r =>
    rw [List.cons_append, List.head?_cons]
    intro e
    have hx : x = 45 := Option.some.inj e
    exact no_in_digits hD (by rw [hx]; decide) List.mem_cons_self

theorem text_parts (a : Int) : Parts (textL a) (decide (a < 0)) (Lib.decDigits (a.natAbs / 1000000)) (if a.natAbs % 1000000 = 0 then [] else placesL (a.natAbs % 1000000)) (!decide (a.natAbs % 1000000 = 0)) := by
  obtain ⟨d1, d2, d3, d4⟩ := decDigits_ok (a.natAbs / 1000000) _ (Nat.le_refl _)
  have hs := sign_parts (decide (a < 0)) (Lib.decDigits (a.natAbs / 1000000) ++ (if a.natAbs % 1000000 = 0 then [] else 46 :: placesL (a.natAbs % 1000000))) (head_digits d1 d3)
  have e : (if decide (a < 0) = true then [45] else []) = (if a < 0 then ([45] : List UInt8) else []) := by
    by_cases h : a < 0
    · rw [decide_eq_true h, if_pos rfl, if_pos h]
    · rw [decide_eq_false h, if_neg (by decide), if_neg h]
  rw [e] at hs
  have hc : Lib.cut (Lib.trimPrefix (textL a) [45]) [46] = (Lib.decDigits (a.natAbs / 1000000), (if a.natAbs % 1000000 = 0 then [] else placesL (a.natAbs % 1000000)), !decide (a.natAbs % 1000000 = 0)) := by
    unfold textL
    rw [hs.2]
    by_cases hp : a.natAbs % 1000000 = 0
    · rw [if_pos hp, if_pos hp, List.append_nil, cut_plain _ d1, decide_eq_true hp]; rfl
    · rw [if_neg hp, if_neg hp, cut_point _ _ d1, decide_eq_false hp]; rfl
  refine ⟨hs.1, ?_, ?_, ?_⟩
  · unfold cutW; rw [hc]
  · unfold cutP; rw [hc]
  · unfold cutD; rw [hc]

theorem text_num (a : Int) : numL (textL a) = a.natAbs := by
  have P := text_parts a
  obtain ⟨d1, d2, d3, d4⟩ := decDigits_ok (a.natAbs / 1000000) _ (Nat.le_refl _)
  unfold numL
  rw [P.w, P.p, d2]
  by_cases hp : a.natAbs % 1000000 = 0
  · rw [if_pos hp]
    show _ + readN [] * _ = _
    rw [show readN [] = 0 from rfl, Nat.zero_mul]
    omega
  · rw [if_neg hp, (placesL_ok (a.natAbs % 1000000) (by omega)).val]
    omega

theorem text_val (a : Int) : sgn (negL (textL a)) (numL (textL a)) = a := by
  rw [(text_parts a).n, text_num]
  unfold sgn
  by_cases h : a < 0
  · rw [decide_eq_true h, if_pos rfl]; omega
  · rw [decide_eq_false h, if_neg (by decide)]; omega

/-- Different numbers have different texts. -/
theorem text_inj (a b : Int) (h : textL a = textL b) : a = b := by
  rw [← text_val a, h, text_val b]

theorem text_not_minus_zero (a : Int) : textL a ≠ [45, 48] := by
  intro h
  have h1 := text_val a
  rw [h] at h1
  have : a = 0 := by rw [← h1]; decide
  rw [this] at h
  have h2 := (text_parts 0).n
  rw [h] at h2
  revert h2
  decide

end Go.Proofs.YtocnkjnlmciojaaGreatDoor.De

namespace Go.Proofs.YtocnkjnlmciojaaGreatDoor.De

/-- The last digit. -/
theorem last_digit {P : List UInt8} (hd : digitsB P = true) (hne : P ≠ []) (hz : P.getLast? ≠ some 48) : readN P % 10 ≠ 0 := by
  obtain ⟨l', c, rfl⟩ : ∃ l' c, P = l' ++ [c] := ⟨P.dropLast, P.getLast hne, (List.dropLast_concat_getLast hne).symm⟩
  rw [digitsB_append, Bool.and_eq_true] at hd
  have hc1 : digitB c = true := by have := hd.2; unfold digitsB at this; simpa using this
  have hc2 := of_decide_eq_true hc1
  have hc3 : c.toNat ≠ 48 := fun e => hz (by
    rw [List.getLast?_append, List.getLast?_singleton]
    exact congrArg some (UInt8.toNat_inj.1 e))
  rw [readN_snoc]
  omega

theorem placesL_ne (p : Nat) (h : p < 1000000) (h0 : p ≠ 0) : placesL p ≠ [] := by
  intro e
  have := (placesL_ok p h).val
  rw [e, show readN [] = 0 from rfl, Nat.zero_mul] at this
  exact h0 this.symm

theorem dvd_places (p s : Nat) (h : p < 1000000) (h0 : p ≠ 0) (hs : s ≤ 6) : unitN s ∣ p ↔ (placesL p).length ≤ s := by
  have O := placesL_ok p h
  have hl := last_digit O.digits (placesL_ne p h h0) O.last
  have hv := O.val
  have h6 := O.len
  generalize placesL p = P at O hl hv h6
  rw [← hv]
  constructor
  · intro hd
    rcases Nat.lt_or_ge s P.length with hlt | hge
    · exfalso
      rw [unitN_split s P.length (by omega) h6, Nat.mul_comm (readN P)] at hd
      have h2 := Nat.dvd_of_mul_dvd_mul_left (unitN_pos P.length) hd
      have h3 : 10 ∣ 10 ^ (P.length - s) := by
        obtain ⟨k, hk⟩ : ∃ k, P.length - s = k + 1 := ⟨P.length - s - 1, by omega⟩
        rw [hk, Nat.pow_succ]
        exact Nat.dvd_mul_left _ _
      have h4 := Nat.dvd_trans h3 h2
      omega
    · exact hge
  · intro hle
    rw [unitN_split P.length s hle hs]
    exact Nat.dvd_trans (Nat.dvd_mul_right (unitN s) (10 ^ (s - P.length))) (Nat.dvd_mul_left _ _)

theorem fits_places (a : Int) (s : Nat) (hs : s ≤ 6) : fitsB a (s : Int) = decide (a.natAbs % 1000000 = 0 ∨ (placesL (a.natAbs % 1000000)).length ≤ s) := by
  rw [fitsB_in a s hs]
  have e : a.tmod (unitN s : Int) = 0 ↔ unitN s ∣ a.natAbs % 1000000 := by
    have hu : unitN s ∣ 1000000 := by
      have := unit_mul s hs
      rw [← this]
      exact Nat.dvd_mul_left _ _
    have h1 : a.tmod (unitN s : Int) = 0 ↔ unitN s ∣ a.natAbs := by
      rw [← Int.ofNat_dvd_left]
      exact ⟨Int.dvd_of_tmod_eq_zero, Int.tmod_eq_zero_of_dvd⟩
    rw [h1]
    have h2 : a.natAbs = a.natAbs / 1000000 * 1000000 + a.natAbs % 1000000 := by omega
    constructor
    · intro h
      rw [h2] at h
      exact (Nat.dvd_add_right (Nat.dvd_trans hu (Nat.dvd_mul_left _ _))).1 h
    · intro h
      rw [h2]
      exact (Nat.dvd_add_right (Nat.dvd_trans hu (Nat.dvd_mul_left _ _))).2 h
  apply decide_eq_decide.2
  rw [e]
  by_cases h0 : a.natAbs % 1000000 = 0
  · rw [h0]; simp
  · rw [dvd_places _ s (by omega) h0 hs]
    constructor
    · exact fun h => .inr h
    · intro h
      rcases h with h | h
      · exact absurd h h0
      · exact h

theorem whole_of {D : List UInt8} (hd : digitsB D = true) (hne : D ≠ []) (hz : D.head? = some 48 → D = [48]) : wholeB D = true := by
  by_cases h : D = [48]
  · exact whole_zero h
  · rw [whole_rest h hne (fun e => h (hz e))]; exact hd

theorem places_of {P : List UInt8} {s : Nat} (hd : digitsB P = true) (hne : P ≠ []) (hz : P.getLast? ≠ some 48) : placesB P (s : Int) = decide (P.length ≤ s) := by
  by_cases h : P.length ≤ s
  · rw [places_rest hne (by omega) hz, hd, decide_eq_true h]
  · rw [places_long (by omega), decide_eq_false h]

theorem nDigits_big (W : Nat) (h : 10 < Lib.nDigits W) : 10000000000 ≤ W := by
  rcases Nat.lt_or_ge W 10000000000 with hl | hl
  · exfalso
    have key : ∀ (k u : Nat), u < 10 ^ k → 1 ≤ k → Lib.nDigits u ≤ k := by
      intro k
      induction k with
      | zero => intro u _ h1; omega
      | succ k ih =>
        intro u hu _
        by_cases h10 : u < 10
        · rw [Lib.nDigits_small h10]; omega
        · rw [Lib.nDigits_big h10]
          rw [Nat.pow_succ] at hu
          have hk : 1 ≤ k := by
            rcases Nat.eq_zero_or_pos k with h0 | h0
            · subst h0; simp at hu; omega
            · exact h0
          have := ih (u / 10) (by omega) hk
          omega
    have := key 10 W (by simpa using hl) (by decide)
    omega
  · exact hl

/-- Parse of a text. -/
theorem parse_text (a : Int) (s : Nat) (hs : s ≤ 6) : parseS (textL a) (s : Int) = if fitsB a (s : Int) then (if validB a then (a, 0) else (0, 2)) else (0, 5) := by
  have P := text_parts a
  obtain ⟨d1, d2, d3, d4⟩ := decDigits_ok (a.natAbs / 1000000) _ (Nat.le_refl _)
  have hW : wholeB (Lib.decDigits (a.natAbs / 1000000)) = true := by
    refine whole_of d1 d3 (fun e => ?_)
    rcases Nat.eq_zero_or_pos (a.natAbs / 1000000) with h0 | h0
    · rw [h0]; rw [decDigits_small (by decide)]; rfl
    · exact absurd e (d4 h0)
  have hform : formB (textL a) (s : Int) = fitsB a (s : Int) := by
    unfold formB
    rw [P.w, P.p, P.d, hW, show (textL a == [45, 48]) = false by simpa using text_not_minus_zero a, fits_places a s hs]
    by_cases h0 : a.natAbs % 1000000 = 0
    · rw [decide_eq_true h0, decide_eq_true (.inl h0)]; rfl
    · rw [decide_eq_false h0, if_neg h0]
      have O := placesL_ok (a.natAbs % 1000000) (by omega)
      rw [places_of O.digits (placesL_ne _ (by omega) h0) O.last]
      by_cases hl : (placesL (a.natAbs % 1000000)).length ≤ s
      · rw [decide_eq_true hl, decide_eq_true (.inr hl)]; rfl
      · rw [decide_eq_false hl, decide_eq_false (by rintro (h | h); exact h0 h; exact hl h)]; rfl
  unfold parseS
  rw [show scaleB (s : Int) = true from decide_eq_true (by omega), if_pos rfl, hform, P.w, Lib.decDigits_length, text_val]
  by_cases hf : fitsB a (s : Int) = true
  · rw [if_pos hf, if_pos hf]
    by_cases hb : 10 < Lib.nDigits (a.natAbs / 1000000)
    · have := nDigits_big _ hb
      rw [if_pos hb, validB_no (n := a) (by omega)]
      rfl
    · rw [if_neg hb]
      rfl
  · rw [if_neg hf, if_neg hf]

theorem cut_back (l : List UInt8) : l = (if negL l then [45] else []) ++ (cutW l ++ (if cutD l then 46 :: cutP l else [])) := by
  have h1 : l = (if negL l then [45] else []) ++ Lib.trimPrefix l [45] := by
    unfold negL Lib.trimPrefix Lib.hasPrefix
    by_cases h : [45].isPrefixOf l = true
    · rw [if_pos h, if_pos h]
      obtain ⟨r, hr⟩ := List.isPrefixOf_iff_prefix.1 h
      rw [← hr]
      rfl
    · rw [if_neg h, if_neg h]; rfl
  have h2 : Lib.trimPrefix l [45] = cutW l ++ (if cutD l then 46 :: cutP l else []) := by
    unfold cutW cutP cutD Lib.cut
    by_cases h : 0 ≤ Lib.index (Lib.trimPrefix l [45]) [46]
    · obtain ⟨k, hk, hs⟩ := index_found 46 _ h
      rw [if_pos h, hk, Int.toNat_natCast]
      simpa using hs
    · rw [if_neg h]; simp
  rw [← h2]
  exact h1

theorem whole_canon {l : List UInt8} (h : wholeB l = true) : Canon l := by
  refine ⟨wholeB_digits h, fun e => (by rw [e] at h; exact absurd h (by decide)), fun e => ?_⟩
  by_cases h1 : l = [48]
  · exact h1
  · rw [whole_lead h1 e] at h; cases h

theorem places_parts {P : List UInt8} {s : Int} (h : placesB P s = true) : P ≠ [] ∧ P.getLast? ≠ some 48 := by
  exact ⟨fun e => (by rw [places_none e] at h; cases h), fun e => (by rw [places_last e] at h; cases h)⟩

theorem parse_err (l : List UInt8) (s : Int) (h : (parseS l s).2 ≠ 0) : (parseS l s).1 = 0 := by
  revert h
  unfold parseS chk
  split
  · split
    · split
      · exact fun _ => rfl
      · split
        · exact fun h => absurd rfl h
        · exact fun _ => rfl
    · exact fun _ => rfl
  · exact fun _ => rfl

/-- What Parse accepts. -/
theorem parse_back (l : List UInt8) (s : Nat) (hs : s ≤ 6) (h : (parseS l (s : Int)).2 = 0) :
    textL (parseS l (s : Int)).1 = l ∧ fitsB (parseS l (s : Int)).1 (s : Int) = true ∧ validB (parseS l (s : Int)).1 = true := by
  have hsc : scaleB (s : Int) = true := decide_eq_true (by omega)
  by_cases hf : formB l (s : Int) = true
  · by_cases hb : 10 < (cutW l).length
    · have e : parseS l (s : Int) = (0, 2) := by unfold parseS; rw [hsc, if_pos rfl, if_pos hf, if_pos hb]
      rw [e] at h; exact absurd h (by decide)
    · by_cases hv : validB (sgn (negL l) (numL l)) = true
      · have e : parseS l (s : Int) = (sgn (negL l) (numL l), 0) := by
          unfold parseS
          rw [hsc, if_pos rfl, if_pos hf, if_neg hb]
          unfold chk
          rw [if_pos hv]
        rw [e]
        have hparts := formB_parts hf (by omega)
        have hf2 := hf
        unfold formB at hf2
        simp only [Bool.and_eq_true, Bool.or_eq_true] at hf2
        obtain ⟨⟨hm, hw⟩, hp⟩ := hf2
        have hm' : l ≠ [45, 48] := by simpa using hm
        have C := whole_canon hw
        have hD := canon_digits _ _ (Nat.le_refl _) C
        have hlt := places_val hparts.2.1 hparts.2.2
        have hback := cut_back l
        have hnum : numL l = readN (cutW l) * 1000000 + readN (cutP l) * unitN (cutP l).length := rfl
        have hP : (if readN (cutP l) * unitN (cutP l).length = 0 then ([] : List UInt8) else 46 :: placesL (readN (cutP l) * unitN (cutP l).length)) = (if cutD l then 46 :: cutP l else []) ∧ (readN (cutP l) * unitN (cutP l).length = 0 → cutD l = false) ∧ (readN (cutP l) * unitN (cutP l).length ≠ 0 → (cutP l).length ≤ s ∧ placesL (readN (cutP l) * unitN (cutP l).length) = cutP l) := by
          by_cases hd : cutD l = true
          · have hp2 : placesB (cutP l) (s : Int) = true := by
              rcases hp with h | h
              · rw [hd] at h; cases h
              · exact h
            obtain ⟨pne, plast⟩ := places_parts hp2
            have hld := last_digit hparts.2.1 pne plast
            have hne : readN (cutP l) * unitN (cutP l).length ≠ 0 := by
              have h1 : 1 ≤ readN (cutP l) := by omega
              have h2 := unitN_pos (cutP l).length
              have h3 : 1 * 1 ≤ readN (cutP l) * unitN (cutP l).length := Nat.mul_le_mul h1 h2
              omega
            have hpl := placesL_is (cutP l) hparts.2.1 hparts.2.2 plast
            refine ⟨by rw [if_neg hne, hpl, hd, if_pos rfl], fun h => absurd h hne, fun _ => ⟨?_, hpl⟩⟩
            have := (placesB_digits hp2).2
            omega
          · have hd' : cutD l = false := by simpa using hd
            have hz : cutP l = [] := cut_none hd'
            have h0 : readN (cutP l) * unitN (cutP l).length = 0 := by rw [hz]; show 0 * _ = 0; simp
            refine ⟨by rw [if_pos h0, hd', if_neg (by decide)], fun _ => hd', fun h => absurd h0 h⟩
        have hneg : (sgn (negL l) (numL l) < 0) ↔ negL l = true := by
          unfold sgn
          cases hn : negL l
          · simp
          · have : numL l ≠ 0 := by
              intro h0
              rw [hnum] at h0
              have hR : readN (cutW l) = 0 := by omega
              have hv0 : readN (cutP l) * unitN (cutP l).length = 0 := by omega
              rw [hR] at hD
              rw [hn, ← hD, hP.2.1 hv0, decDigits_small (by decide)] at hback
              exact hm' hback
            simp
            omega
        have hnat : (sgn (negL l) (numL l)).natAbs = numL l := by unfold sgn; cases negL l <;> simp
        generalize hV : readN (cutP l) * unitN (cutP l).length = V at *
        have q1 : numL l / 1000000 = readN (cutW l) := by omega
        have q2 : numL l % 1000000 = V := by omega
        refine ⟨?_, ?_, hv⟩
        · show textL (sgn (negL l) (numL l)) = l
          unfold textL
          rw [hnat, q1, q2, hD, hP.1]
          have e2 : (if sgn (negL l) (numL l) < 0 then ([45] : List UInt8) else []) = (if negL l = true then [45] else []) := by
            by_cases hn : negL l = true
            · rw [if_pos (hneg.2 hn), if_pos hn]
            · rw [if_neg (fun h => hn (hneg.1 h)), if_neg hn]
          rw [e2]
          exact hback.symm
        · show fitsB (sgn (negL l) (numL l)) (s : Int) = true
          rw [fits_places _ s hs, hnat, q2]
          apply decide_eq_true
          by_cases h0 : V = 0
          · exact .inl h0
          · have := hP.2.2 h0
            exact .inr (by rw [this.2]; exact this.1)
      · have e : parseS l (s : Int) = (0, 2) := by
          unfold parseS
          rw [hsc, if_pos rfl, if_pos hf, if_neg hb]
          unfold chk
          rw [if_neg hv]
        rw [e] at h; exact absurd h (by decide)
  · have e : parseS l (s : Int) = (0, 5) := by unfold parseS; rw [hsc, if_pos rfl, if_neg hf]
    rw [e] at h; exact absurd h (by decide)

end Go.Proofs.YtocnkjnlmciojaaGreatDoor.De
