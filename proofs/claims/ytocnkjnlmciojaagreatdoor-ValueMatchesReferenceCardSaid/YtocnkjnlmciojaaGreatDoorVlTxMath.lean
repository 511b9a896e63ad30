/-
  Texts of values, mathematically: a valid value's text reads back as the value; no other value has a text that reads back.
-/
import Derived.Test.YtocnkjnlmciojaaGreatDoorVlParsed
import Derived.Lib.ItoaLen
namespace Go.Proofs.YtocnkjnlmciojaaGreatDoor
open Go

theorem fits_six (a : Int) : De.fitsB a 6 = true := by
  unfold De.fitsB
  rw [Bool.and_eq_true]
  refine ⟨by decide, decide_eq_true ?_⟩
  show Int.tmod a ((De.unitN 6 : Nat) : Int) = 0
  rw [show De.unitN 6 = 1 from by decide]
  exact Int.tmod_one a
theorem parse_six (a : Int) : De.parseS (De.textL a) 6 = if De.validB a then (a, 0) else (0, 2) := by
  have h := De.parse_text a 6 (by decide)
  rw [show ((6 : Nat) : Int) = 6 from rfl, fits_six a, if_pos rfl] at h
  exact h
theorem text_head (a : Int) : ∃ c r, De.textL a = c :: r ∧ (c = 45 ∨ (48 ≤ c.toNat ∧ c.toNat ≤ 57)) := by
  unfold De.textL
  by_cases h : a < 0
  · rw [if_pos h]; exact ⟨45, _, rfl, .inl rfl⟩
  · rw [if_neg h]
    obtain ⟨d1, d2, d3, d4⟩ := De.decDigits_ok (a.natAbs / 1000000) _ (Nat.le_refl _)
    generalize Lib.decDigits (a.natAbs / 1000000) = D at *
    cases D with
    | nil => simp at d3
    | cons c r =>
      refine ⟨c, _, rfl, .inr ?_⟩
      have hh := List.all_eq_true.1 d1 c (by simp)
      unfold De.digitB at hh
      simpa using hh
theorem text_ne {a : Int} {c : UInt8} {r : List UInt8} (h : De.textL a = c :: r) : c ≠ 34 ∧ c ≠ 110 ∧ c ≠ 102 ∧ c ≠ 116 := by
  obtain ⟨c', r', h', hc⟩ := text_head a
  rw [h'] at h
  injection h with h1 h2
  subst h1
  rcases hc with rfl | hc
  · decide
  · refine ⟨?_, ?_, ?_, ?_⟩ <;> rintro rfl <;> revert hc <;> decide
theorem text_ne_nil (a : Int) : De.textL a ≠ [] := by
  obtain ⟨c, r, h, _⟩ := text_head a; rw [h]; simp
theorem guess_text (a : Int) : guessV (De.textL a) = ⟨2, (De.parseS (De.textL a) 6).1, []⟩ := by
  obtain ⟨c, r, h, _⟩ := text_head a
  obtain ⟨n1, n2, n3, n4⟩ := text_ne h
  unfold guessV
  rw [if_neg (by rw [h]; unfold nullL; intro e; injection e with e _; exact n2 e), if_neg (by rw [h]; unfold falseL; intro e; injection e with e _; exact n3 e), if_neg (by rw [h]; unfold trueL; intro e; injection e with e _; exact n4 e), if_neg]
  rw [h]
  simp [Lib.hasPrefix, Ne.symm n1]
theorem unq_qu : ∀ (s r : List UInt8), unqE false (quB s ++ r) = s ++ unqE false r
  | [], r => rfl
  | c :: s, r => by
    have ih := unq_qu s r
    unfold quB at ih ⊢
    rw [List.flatMap_cons, List.append_assoc]
    by_cases h : c = 34 ∨ c = 92
    · rw [quC, if_pos h]
      show unqE false (92 :: c :: (s.flatMap quC ++ r)) = _
      rw [unqE, if_pos ⟨rfl, .inr rfl⟩, show decide ((92 : UInt8) = 92) = true from rfl, unqE, if_neg (by simp), ih]; rfl
    · rw [quC, if_neg h]
      show unqE false (c :: (s.flatMap quC ++ r)) = _
      rw [unqE, if_neg (by simp [h]), ih]; rfl
theorem unq_quote (s : List UInt8) : unqE false (quoteL s) = s := by
  unfold quoteL
  rw [unqE, if_pos ⟨rfl, .inl rfl⟩, show decide ((34 : UInt8) = 92) = false from rfl, unq_qu, unqE, if_pos ⟨rfl, .inl rfl⟩, show decide ((34 : UInt8) = 92) = false from rfl]
  simp [unqE]
theorem guess_quote (s : List UInt8) : guessV (quoteL s) = ⟨3, 0, s⟩ := by
  unfold guessV
  rw [if_neg (by unfold quoteL nullL; intro e; injection e with e _; exact absurd e (by decide)), if_neg (by unfold quoteL falseL; intro e; injection e with e _; exact absurd e (by decide)), if_neg (by unfold quoteL trueL; intro e; injection e with e _; exact absurd e (by decide)), if_pos (by unfold quoteL; simp [Lib.hasPrefix]), unq_quote]

theorem text_num_v {k i : Int} {s : List UInt8} (h : widV ⟨k, i, s⟩ = true) (hk : k = 2) : textV ⟨k, i, s⟩ = De.textL i := by
  subst hk
  unfold textV; rw [h]; rfl

/-- A valid value's text reads back. -/
theorem parse_valid {v : Vl} (h : vldV v = true) : parsedV (textV v) = (v, 0) := by
  have hw : widV v = true := by unfold widV; rw [h]; rfl
  have hg : guessV (textV v) = v := by
    obtain ⟨k, i, s⟩ := v
    rcases wid_parts hw with ⟨h0, h1, h2⟩ | ⟨h0, h1, h2⟩ | ⟨h0, h2⟩ | ⟨h0, h1, h2⟩
    · dsimp only at h0 h1 h2; subst h0 h1 h2
      unfold textV; rw [hw]; rfl
    · dsimp only at h0 h1 h2; subst h0 h2
      rcases h1 with rfl | rfl
      · unfold textV; rw [hw]; rfl
      · unfold textV; rw [hw]; rfl
    · dsimp only at h0 h2; subst h0 h2
      rw [text_num_v hw rfl, guess_text, parse_six, if_pos]
      have : vldV ⟨2, i, []⟩ = (decide (([] : List UInt8) = []) && numB 1000000000000000 i) := rfl
      rw [this] at h
      simpa [De.validB, numB] using h
    · dsimp only at h0 h1 h2; subst h0 h1
      have : textV ⟨3, 0, s⟩ = quoteL s := by unfold textV; rw [hw]; rfl
      rw [this, guess_quote]
  have := parsed_good (s := textV v) (by rw [hg]; exact h) (by rw [hg])
  rw [this, hg]

theorem parsed_nil : parsedV [] = (Vl.null, 5) := parsed_bad2 (by
  rw [show guessV [] = ⟨2, 0, []⟩ from rfl, text_num_v (by decide) rfl]
  exact text_ne_nil 0)
/-- A value that is not valid has no text that reads back. -/
theorem parse_invalid {v : Vl} (h : vldV v = false) : parsedV (textV v) = (Vl.null, 5) := by
  cases hw : widV v with
  | false => rw [show textV v = [] from by unfold textV; rw [hw]; rfl]; exact parsed_nil
  | true =>
    obtain ⟨k, i, s⟩ := v
    have hp : k = 2 := by
      rcases wid_parts hw with ⟨h0, h1, h2⟩ | ⟨h0, h1, h2⟩ | ⟨h0, h2⟩ | ⟨h0, h1, h2⟩
      · dsimp only at h0 h1 h2; subst h0 h1 h2; exact absurd h (by decide)
      · dsimp only at h0 h1 h2; subst h0 h2
        rcases h1 with rfl | rfl <;> exact absurd h (by decide)
      · exact h0
      · dsimp only at h0 h1 h2; subst h0 h1
        have : vldV ⟨3, 0, s⟩ = (decide ((0 : Int) = 0) && txtB s) := rfl
        rw [this, h2] at h; exact absurd h (by decide)
    have hs : s = [] := by
      rcases wid_parts hw with ⟨h0, h1, h2⟩ | ⟨h0, h1, h2⟩ | ⟨h0, h2⟩ | ⟨h0, h1, h2⟩
      · exact h2
      · exact h2
      · exact h2
      · exact absurd (hp.symm.trans h0) (by decide)
    rw [text_num_v hw hp]
    subst hp hs
    have hvi : De.validB i = false := by
      have : vldV ⟨2, i, []⟩ = (decide (([] : List UInt8) = []) && numB 1000000000000000 i) := rfl
      rw [this] at h
      simpa [De.validB, numB] using h
    refine parsed_bad2 ?_
    rw [guess_text, parse_six, hvi, if_neg (by decide)]
    intro e
    have : textV ⟨2, 0, []⟩ = De.textL 0 := text_num_v (by decide) rfl
    rw [this] at e
    have := De.text_inj _ _ e
    subst this
    exact absurd hvi (by decide)
/-- What a string reads as. -/
theorem parsed_any (s : List UInt8) : (parsedV s = (Vl.null, 5)) ∨ (∃ v, parsedV s = (v, 0) ∧ vldV v = true ∧ textV v = s) := by
  cases h : goodP s with
  | false => left; unfold parsedV; rw [h]; rfl
  | true =>
    right
    have h' := h
    unfold goodP at h'
    simp only [Bool.and_eq_true, decide_eq_true_eq] at h'
    exact ⟨guessV s, by unfold parsedV; rw [h]; rfl, h'.1, h'.2⟩

/-! ### A text is not long -/
theorem places_len (p : Nat) (h : p < 1000000) : (De.placesL p).length ≤ 6 := by
  obtain ⟨k, hk, _⟩ := De.trim_split ((Lib.decDigits (1000000 + p)).drop 1)
  have hl := congrArg List.length hk
  rw [List.length_append, List.length_drop, Lib.decDigits_length, De.nDigits_seven p h] at hl
  unfold De.placesL
  omega
theorem textL_len {i : Int} (h : I64 i) : (De.textL i).length ≤ 28 := by
  have h1 := Lib.nDigits_le20 (i.natAbs / 1000000) (by unfold I64 at h; omega)
  have h2 := places_len (i.natAbs % 1000000) (by omega)
  have h3 := Lib.decDigits_length (i.natAbs / 1000000)
  unfold De.textL
  rw [List.length_append, List.length_append, h3]
  have h4 : (if i < 0 then ([45] : List UInt8) else []).length ≤ 1 := by split <;> simp
  have h5 : (if i.natAbs % 1000000 = 0 then ([] : List UInt8) else 46 :: De.placesL (i.natAbs % 1000000)).length ≤ 7 := by
    split
    · simp
    · rw [List.length_cons]; omega
  omega
theorem textV_len {v : Vl} (hi : I64 v.i) (h100 : v.s.length ≤ 100) : (textV v).length ≤ 1048576 := by
  have h1 := textL_len hi
  have h2 := quB_len v.s
  unfold textV
  split
  · simp
  · split
    · unfold boolL; split <;> decide
    · split
      · omega
      · split
        · unfold quoteL; rw [List.length_cons, List.length_append]; simp only [List.length_cons, List.length_nil]; omega
        · decide

end Go.Proofs.YtocnkjnlmciojaaGreatDoor
