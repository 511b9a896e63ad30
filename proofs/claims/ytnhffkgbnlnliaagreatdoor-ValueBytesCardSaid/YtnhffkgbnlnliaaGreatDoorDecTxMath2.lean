/-
  Parse inverts Text, and Text Parse: the mathematics.
-/
import Derived.Test.YtnhffkgbnlnliaaGreatDoorDecTxMath
namespace Go.Proofs.YtnhffkgbnlnliaaGreatDoor.De

/-- A byte that stands in no numeral. -/
theorem no_in_digits {l : List UInt8} {c : UInt8} (h : digitsB l = true) (hc : digitB c = false) : c ∉ l := by
  intro hm
  unfold digitsB at h
  rw [List.all_eq_true] at h
  rw [h c hm] at hc
  cases hc

theorem pre_ne {c b : UInt8} (l : List UInt8) (h : ¬ c = b) : [c].isPrefixOf (b :: l) = false := by
  show (c == b && List.isPrefixOf [] l) = false
  rw [show (c == b) = false by simpa using h]
  rfl

theorem index_miss (c : UInt8) : ∀ l : List UInt8, c ∉ l → Lib.index l [c] = -1
  | [], _ => rfl
  | b :: l, h => by
    have hb : ¬ (c = b) := fun e => h (e ▸ List.mem_cons_self)
    have ih := index_miss c l (fun hm => h (List.mem_cons_of_mem _ hm))
    show (if [c].isPrefixOf (b :: l) then (0 : Int) else if Lib.index l [c] == -1 then -1 else Lib.index l [c] + 1) = -1
    rw [ih]
    have : [c].isPrefixOf (b :: l) = false := pre_ne _ hb
    rw [this]
    rfl

theorem index_hit (c : UInt8) (r : List UInt8) : ∀ l : List UInt8, c ∉ l → Lib.index (l ++ c :: r) [c] = l.length
  | [], _ => by
    show (if [c].isPrefixOf (c :: r) then (0 : Int) else _) = 0
    have : [c].isPrefixOf (c :: r) = true := by simp
    rw [this]; rfl
  | b :: l, h => by
    have hb : ¬ (c = b) := fun e => h (e ▸ List.mem_cons_self)
    have ih := index_hit c r l (fun hm => h (List.mem_cons_of_mem _ hm))
    show (if [c].isPrefixOf (b :: (l ++ c :: r)) then (0 : Int) else if Lib.index (l ++ c :: r) [c] == -1 then -1 else Lib.index (l ++ c :: r) [c] + 1) = _
    rw [ih]
    have : [c].isPrefixOf (b :: (l ++ c :: r)) = false := pre_ne _ hb
    rw [this]
    have h2 : ((l.length : Int) == -1) = false := by rw [beq_eq_false_iff_ne]; omega
    rw [h2, List.length_cons]
    simp

/-- What an index of a byte says. -/
theorem index_found (c : UInt8) : ∀ l : List UInt8, 0 ≤ Lib.index l [c] → ∃ k : Nat, Lib.index l [c] = k ∧ l = l.take k ++ c :: l.drop (k + 1)
  | [], h => by
    have : Lib.index [] [c] = -1 := rfl
    omega
  | b :: l, h => by
    by_cases hb : c = b
    · subst hb
      refine ⟨0, ?_, rfl⟩
      show (if [c].isPrefixOf (c :: l) then (0 : Int) else _) = 0
      have : [c].isPrefixOf (c :: l) = true := by simp
      rw [this]; rfl
    · have hp : [c].isPrefixOf (b :: l) = false := pre_ne _ hb
      have e : Lib.index (b :: l) [c] = if Lib.index l [c] == -1 then -1 else Lib.index l [c] + 1 := by
        show (if [c].isPrefixOf (b :: l) then (0 : Int) else _) = _
        rw [hp]; rfl
      rw [e] at h ⊢
      by_cases hm : Lib.index l [c] = -1
      · rw [hm] at h; exact absurd h (by decide)
      · have hm' : (Lib.index l [c] == -1) = false := by simpa using hm
        rw [hm'] at h ⊢
        simp only [Bool.false_eq_true, if_false] at h ⊢
        obtain ⟨k, h1, h2⟩ := index_found c l (by omega)
        exact ⟨k + 1, by omega, by rw [List.take_succ_cons, List.drop_succ_cons, List.cons_append, ← h2]⟩

theorem cut_point (D P : List UInt8) (hD : digitsB D = true) : Lib.cut (D ++ 46 :: P) [46] = (D, P, true) := by
  have h := index_hit 46 P D (no_in_digits hD (by decide))
  unfold Lib.cut
  rw [h, if_pos (by omega), Int.toNat_natCast]
  simp
theorem cut_plain (D : List UInt8) (hD : digitsB D = true) : Lib.cut D [46] = (D, [], false) := by
  have h := index_miss 46 D (no_in_digits hD (by decide))
  unfold Lib.cut
  rw [h, if_neg (by decide)]

/-- The parts of a text. -/
structure Parts (l : List UInt8) (neg : Bool) (D P : List UInt8) (pt : Bool) : Prop where
  n : negL l = neg
  w : cutW l = D
  p : cutP l = P
  d : cutD l = pt

theorem sign_parts (neg : Bool) (B : List UInt8) (h : B.head? ≠ some 45) : negL ((if neg then [45] else []) ++ B) = neg ∧ Lib.trimPrefix ((if neg then [45] else []) ++ B) [45] = B := by
  unfold negL Lib.trimPrefix Lib.hasPrefix
  cases neg
  · have : [45].isPrefixOf B = false := by
      cases B with
      | nil => rfl
      | cons x r =>
        rw [List.head?_cons] at h
        have : ¬ (45 : UInt8) = x := fun e => h (congrArg some e.symm)
        exact pre_ne _ this
    simp [this]
  · simp

theorem head_digits {D R : List UInt8} (hD : digitsB D = true) (hne : D ≠ []) : (D ++ R).head? ≠ some 45 := by
  cases D with
  | nil => exact absurd rfl hne
  | cons x r =>
    rw [List.cons_append, List.head?_cons]
    intro e
    have hx : x = 45 := Option.some.inj e
    exact no_in_digits hD (by rw [hx]; decide) List.mem_cons_self

theorem text_parts (a : Int) : Parts (textL a) (decide (a < 0)) (Lib.decDigits (a.natAbs / 1000000)) (if a.natAbs % 1000000 = 0 then [] else placesL (a.natAbs % 1000000)) (!decide (a.natAbs % 1000000 = 0)) := by
  obtain ⟨d1, d2, d3, d4⟩ := decDigits_ok (a.natAbs / 1000000) _ (Nat.le_refl _)
  have hs := sign_parts (decide (a < 0)) (Lib.decDigits (a.natAbs / 1000000) ++ (if a.natAbs % 1000000 = 0 then [] else 46 :: placesL (a.natAbs % 1000000))) (head_digits d1 d3)
  have e : (if decide (a < 0) = true then [45] else []) = (if a < 0 then ([45] : List UInt8) else []) := by
    by_cases h : a < 0
    · rw [decide_eq_true h, if_pos rfl, if_pos h]
    · rw [decide_eq_false h, if_neg (by decide), if_neg h]
  rw [e] at hs
  have hc : Lib.cut (Lib.trimPrefix (textL a) [45]) [46] = (Lib.decDigits (a.natAbs / 1000000), (if a.natAbs % 1000000 = 0 then [] else placesL (a.natAbs % 1000000)), !decide (a.natAbs % 1000000 = 0)) := by
    unfold textL
    rw [hs.2]
    by_cases hp : a.natAbs % 1000000 = 0
    · rw [if_pos hp, if_pos hp, List.append_nil, cut_plain _ d1, decide_eq_true hp]; rfl
    · rw [if_neg hp, if_neg hp, cut_point _ _ d1, decide_eq_false hp]; rfl
  refine ⟨hs.1, ?_, ?_, ?_⟩
  · unfold cutW; rw [hc]
  · unfold cutP; rw [hc]
  · unfold cutD; rw [hc]

theorem text_num (a : Int) : numL (textL a) = a.natAbs := by
  have P := text_parts a
  obtain ⟨d1, d2, d3, d4⟩ := decDigits_ok (a.natAbs / 1000000) _ (Nat.le_refl _)
  unfold numL
  rw [P.w, P.p, d2]
  by_cases hp : a.natAbs % 1000000 = 0
  · rw [if_pos hp]
    show _ + readN [] * _ = _
    rw [show readN [] = 0 from rfl, Nat.zero_mul]
    omega
  · rw [if_neg hp, (placesL_ok (a.natAbs % 1000000) (by omega)).val]
    omega

theorem text_val (a : Int) : sgn (negL (textL a)) (numL (textL a)) = a := by
  rw [(text_parts a).n, text_num]
  unfold sgn
  by_cases h : a < 0
  · rw [decide_eq_true h, if_pos rfl]; omega
  · rw [decide_eq_false h, if_neg (by decide)]; omega

/-- Different numbers have different texts. -/
theorem text_inj (a b : Int) (h : textL a = textL b) : a = b := by
  rw [← text_val a, h, text_val b]

theorem text_not_minus_zero (a : Int) : textL a ≠ [45, 48] := by
  intro h
  have h1 := text_val a
  rw [h] at h1
  have : a = 0 := by rw [← h1]; decide
  rw [this] at h
  have h2 := (text_parts 0).n
  rw [h] at h2
  revert h2
  decide

end Go.Proofs.YtnhffkgbnlnliaaGreatDoor.De
