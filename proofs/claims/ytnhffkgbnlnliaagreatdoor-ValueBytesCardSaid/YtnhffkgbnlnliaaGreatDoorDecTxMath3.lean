/-
  Parse inverts Text exactly with the scales that a number has; what Parse accepts is the text of its result.
-/
import Derived.Test.YtnhffkgbnlnliaaGreatDoorDecTxMath2
import Derived.Test.YtnhffkgbnlnliaaGreatDoorDecTrMath
namespace Go.Proofs.YtnhffkgbnlnliaaGreatDoor.De

/-- The last digit. -/
theorem last_digit {P : List UInt8} (hd : digitsB P = true) (hne : P ≠ []) (hz : P.getLast? ≠ some 48) : readN P % 10 ≠ 0 := by
  obtain ⟨l', c, rfl⟩ : ∃ l' c, P = l' ++ [c] := ⟨P.dropLast, P.getLast hne, (List.dropLast_concat_getLast hne).symm⟩
  rw [digitsB_append, Bool.and_eq_true] at hd
  have hc1 : digitB c = true := by have := hd.2; unfold digitsB at this; simpa using this
  have hc2 := of_decide_eq_true hc1
  have hc3 : c.toNat ≠ 48 := fun e => hz (by
    rw [List.getLast?_append, List.getLast?_singleton]
    exact congrArg some (UInt8.toNat_inj.1 e))
  rw [readN_snoc]
  omega

theorem placesL_ne (p : Nat) (h : p < 1000000) (h0 : p ≠ 0) : placesL p ≠ [] := by
  intro e
  have := (placesL_ok p h).val
  rw [e, show readN [] = 0 from rfl, Nat.zero_mul] at this
  exact h0 this.symm

theorem dvd_places (p s : Nat) (h : p < 1000000) (h0 : p ≠ 0) (hs : s ≤ 6) : unitN s ∣ p ↔ (placesL p).length ≤ s := by
  have O := placesL_ok p h
  have hl := last_digit O.digits (placesL_ne p h h0) O.last
  have hv := O.val
  have h6 := O.len
  generalize placesL p = P at O hl hv h6
  rw [← hv]
  constructor
  · intro hd
    rcases Nat.lt_or_ge s P.length with hlt | hge
    · exfalso
      rw [unitN_split s P.length (by omega) h6, Nat.mul_comm (readN P)] at hd
      have h2 := Nat.dvd_of_mul_dvd_mul_left (unitN_pos P.length) hd
      have h3 : 10 ∣ 10 ^ (P.length - s) := by
        obtain ⟨k, hk⟩ : ∃ k, P.length - s = k + 1 := ⟨P.length - s - 1, by omega⟩
        rw [hk, Nat.pow_succ]
        exact Nat.dvd_mul_left _ _
      have h4 := Nat.dvd_trans h3 h2
      omega
    · exact hge
  · intro hle
    rw [unitN_split P.length s hle hs]
    exact Nat.dvd_trans (Nat.dvd_mul_right (unitN s) (10 ^ (s - P.length))) (Nat.dvd_mul_left _ _)

theorem fits_places (a : Int) (s : Nat) (hs : s ≤ 6) : fitsB a (s : Int) = decide (a.natAbs % 1000000 = 0 ∨ (placesL (a.natAbs % 1000000)).length ≤ s) := by
  rw [fitsB_in a s hs]
  have e : a.tmod (unitN s : Int) = 0 ↔ unitN s ∣ a.natAbs % 1000000 := by
    have hu : unitN s ∣ 1000000 := by
      have := unit_mul s hs
      rw [← this]
      exact Nat.dvd_mul_left _ _
    have h1 : a.tmod (unitN s : Int) = 0 ↔ unitN s ∣ a.natAbs := by
      rw [← Int.ofNat_dvd_left]
      exact ⟨Int.dvd_of_tmod_eq_zero, Int.tmod_eq_zero_of_dvd⟩
    rw [h1]
    have h2 : a.natAbs = a.natAbs / 1000000 * 1000000 + a.natAbs % 1000000 := by omega
    constructor
    · intro h
      rw [h2] at h
      exact (Nat.dvd_add_right (Nat.dvd_trans hu (Nat.dvd_mul_left _ _))).1 h
    · intro h
      rw [h2]
      exact (Nat.dvd_add_right (Nat.dvd_trans hu (Nat.dvd_mul_left _ _))).2 h
  apply decide_eq_decide.2
  rw [e]
  by_cases h0 : a.natAbs % 1000000 = 0
  · rw [h0]; simp
  · rw [dvd_places _ s (by omega) h0 hs]
    constructor
    · exact fun h => .inr h
    · intro h
      rcases h with h | h
      · exact absurd h h0
      · exact h

theorem whole_of {D : List UInt8} (hd : digitsB D = true) (hne : D ≠ []) (hz : D.head? = some 48 → D = [48]) : wholeB D = true := by
  by_cases h : D = [48]
  · exact whole_zero h
  · rw [whole_rest h hne (fun e => h (hz e))]; exact hd

theorem places_of {P : List UInt8} {s : Nat} (hd : digitsB P = true) (hne : P ≠ []) (hz : P.getLast? ≠ some 48) : placesB P (s : Int) = decide (P.length ≤ s) := by
  by_cases h : P.length ≤ s
  · rw [places_rest hne (by omega) hz, hd, decide_eq_true h]
  · rw [places_long (by omega), decide_eq_false h]

theorem nDigits_big (W : Nat) (h : 10 < Lib.nDigits W) : 10000000000 ≤ W := by
  rcases Nat.lt_or_ge W 10000000000 with hl | hl
  · exfalso
    have key : ∀ (k u : Nat), u < 10 ^ k → 1 ≤ k → Lib.nDigits u ≤ k := by
      intro k
      induction k with
      | zero => intro u _ h1; omega
      | succ k ih =>
        intro u hu _
        by_cases h10 : u < 10
        · rw [Lib.nDigits_small h10]; omega
        · rw [Lib.nDigits_big h10]
          rw [Nat.pow_succ] at hu
          have hk : 1 ≤ k := by
            rcases Nat.eq_zero_or_pos k with h0 | h0
            · subst h0; simp at hu; omega
            · exact h0
          have := ih (u / 10) (by omega) hk
          omega
    have := key 10 W (by simpa using hl) (by decide)
    omega
  · exact hl

/-- Parse of a text. -/
theorem parse_text (a : Int) (s : Nat) (hs : s ≤ 6) : parseS (textL a) (s : Int) = if fitsB a (s : Int) then (if validB a then (a, 0) else (0, 2)) else (0, 5) := by
  have P := text_parts a
  obtain ⟨d1, d2, d3, d4⟩ := decDigits_ok (a.natAbs / 1000000) _ (Nat.le_refl _)
  have hW : wholeB (Lib.decDigits (a.natAbs / 1000000)) = true := by
    refine whole_of d1 d3 (fun e => ?_)
    rcases Nat.eq_zero_or_pos (a.natAbs / 1000000) with h0 | h0
    · rw [h0]; rw [decDigits_small (by decide)]; rfl
    · exact absurd e (d4 h0)
  have hform : formB (textL a) (s : Int) = fitsB a (s : Int) := by
    unfold formB
    rw [P.w, P.p, P.d, hW, show (textL a == [45, 48]) = false by simpa using text_not_minus_zero a, fits_places a s hs]
    by_cases h0 : a.natAbs % 1000000 = 0
    · rw [decide_eq_true h0, decide_eq_true (.inl h0)]; rfl
    · rw [decide_eq_false h0, if_neg h0]
      have O := placesL_ok (a.natAbs % 1000000) (by omega)
      rw [places_of O.digits (placesL_ne _ (by omega) h0) O.last]
      by_cases hl : (placesL (a.natAbs % 1000000)).length ≤ s
      · rw [decide_eq_true hl, decide_eq_true (.inr hl)]; rfl
      · rw [decide_eq_false hl, decide_eq_false (by rintro (h | h); exact h0 h; exact hl h)]; rfl
  unfold parseS
  rw [show scaleB (s : Int) = true from decide_eq_true (by omega), if_pos rfl, hform, P.w, Lib.decDigits_length, text_val]
  by_cases hf : fitsB a (s : Int) = true
  · rw [if_pos hf, if_pos hf]
    by_cases hb : 10 < Lib.nDigits (a.natAbs / 1000000)
    · have := nDigits_big _ hb
      rw [if_pos hb, validB_no (n := a) (by omega)]
      rfl
    · rw [if_neg hb]
      rfl
  · rw [if_neg hf, if_neg hf]

theorem cut_back (l : List UInt8) : l = (if negL l then [45] else []) ++ (cutW l ++ (if cutD l then 46 :: cutP l else [])) := by
  have h1 : l = (if negL l then [45] else []) ++ Lib.trimPrefix l [45] := by
    unfold negL Lib.trimPrefix Lib.hasPrefix
    by_cases h : [45].isPrefixOf l = true
    · rw [if_pos h, if_pos h]
      obtain ⟨r, hr⟩ := List.isPrefixOf_iff_prefix.1 h
      rw [← hr]
      rfl
    · rw [if_neg h, if_neg h]; rfl
  have h2 : Lib.trimPrefix l [45] = cutW l ++ (if cutD l then 46 :: cutP l else []) := by
    unfold cutW cutP cutD Lib.cut
    by_cases h : 0 ≤ Lib.index (Lib.trimPrefix l [45]) [46]
    · obtain ⟨k, hk, hs⟩ := index_found 46 _ h
      rw [if_pos h, hk, Int.toNat_natCast]
      simpa using hs
    · rw [if_neg h]; simp
  rw [← h2]
  exact h1

theorem whole_canon {l : List UInt8} (h : wholeB l = true) : Canon l := by
  refine ⟨wholeB_digits h, fun e => (by rw [e] at h; exact absurd h (by decide)), fun e => ?_⟩
  by_cases h1 : l = [48]
  · exact h1
  · rw [whole_lead h1 e] at h; cases h

theorem places_parts {P : List UInt8} {s : Int} (h : placesB P s = true) : P ≠ [] ∧ P.getLast? ≠ some 48 := by
  exact ⟨fun e => (by rw [places_none e] at h; cases h), fun e => (by rw [places_last e] at h; cases h)⟩

theorem parse_err (l : List UInt8) (s : Int) (h : (parseS l s).2 ≠ 0) : (parseS l s).1 = 0 := by
  revert h
  unfold parseS chk
  split
  · split
    · split
      · exact fun _ => rfl
      · split
        · exact fun h => absurd rfl h
        · exact fun _ => rfl
    · exact fun _ => rfl
  · exact fun _ => rfl

/-- What Parse accepts. -/
theorem parse_back (l : List UInt8) (s : Nat) (hs : s ≤ 6) (h : (parseS l (s : Int)).2 = 0) :
    textL (parseS l (s : Int)).1 = l ∧ fitsB (parseS l (s : Int)).1 (s : Int) = true ∧ validB (parseS l (s : Int)).1 = true := by
  have hsc : scaleB (s : Int) = true := decide_eq_true (by omega)
  by_cases hf : formB l (s : Int) = true
  · by_cases hb : 10 < (cutW l).length
    · have e : parseS l (s : Int) = (0, 2) := by unfold parseS; rw [hsc, if_pos rfl, if_pos hf, if_pos hb]
      rw [e] at h; exact absurd h (by decide)
    · by_cases hv : validB (sgn (negL l) (numL l)) = true
      · have e : parseS l (s : Int) = (sgn (negL l) (numL l), 0) := by
          unfold parseS
          rw [hsc, if_pos rfl, if_pos hf, if_neg hb]
          unfold chk
          rw [if_pos hv]
        rw [e]
        have hparts := formB_parts hf (by omega)
        have hf2 := hf
        unfold formB at hf2
        simp only [Bool.and_eq_true, Bool.or_eq_true] at hf2
        obtain ⟨⟨hm, hw⟩, hp⟩ := hf2
        have hm' : l ≠ [45, 48] := by simpa using hm
        have C := whole_canon hw
        have hD := canon_digits _ _ (Nat.le_refl _) C
        have hlt := places_val hparts.2.1 hparts.2.2
        have hback := cut_back l
        have hnum : numL l = readN (cutW l) * 1000000 + readN (cutP l) * unitN (cutP l).length := rfl
        have hP : (if readN (cutP l) * unitN (cutP l).length = 0 then ([] : List UInt8) else 46 :: placesL (readN (cutP l) * unitN (cutP l).length)) = (if cutD l then 46 :: cutP l else []) ∧ (readN (cutP l) * unitN (cutP l).length = 0 → cutD l = false) ∧ (readN (cutP l) * unitN (cutP l).length ≠ 0 → (cutP l).length ≤ s ∧ placesL (readN (cutP l) * unitN (cutP l).length) = cutP l) := by
          by_cases hd : cutD l = true
          · have hp2 : placesB (cutP l) (s : Int) = true := by
              rcases hp with h | h
              · rw [hd] at h; cases h
              · exact h
            obtain ⟨pne, plast⟩ := places_parts hp2
            have hld := last_digit hparts.2.1 pne plast
            have hne : readN (cutP l) * unitN (cutP l).length ≠ 0 := by
              have h1 : 1 ≤ readN (cutP l) := by omega
              have h2 := unitN_pos (cutP l).length
              have h3 : 1 * 1 ≤ readN (cutP l) * unitN (cutP l).length := Nat.mul_le_mul h1 h2
              omega
            have hpl := placesL_is (cutP l) hparts.2.1 hparts.2.2 plast
            refine ⟨by rw [if_neg hne, hpl, hd, if_pos rfl], fun h => absurd h hne, fun _ => ⟨?_, hpl⟩⟩
            have := (placesB_digits hp2).2
            omega
          · have hd' : cutD l = false := by simpa using hd
            have hz : cutP l = [] := cut_none hd'
            have h0 : readN (cutP l) * unitN (cutP l).length = 0 := by rw [hz]; show 0 * _ = 0; simp
            refine ⟨by rw [if_pos h0, hd', if_neg (by decide)], fun _ => hd', fun h => absurd h0 h⟩
        have hneg : (sgn (negL l) (numL l) < 0) ↔ negL l = true := by
          unfold sgn
          cases hn : negL l
          · simp
          · have : numL l ≠ 0 := by
              intro h0
              rw [hnum] at h0
              have hR : readN (cutW l) = 0 := by omega
              have hv0 : readN (cutP l) * unitN (cutP l).length = 0 := by omega
              rw [hR] at hD
              rw [hn, ← hD, hP.2.1 hv0, decDigits_small (by decide)] at hback
              exact hm' hback
            simp
            omega
        have hnat : (sgn (negL l) (numL l)).natAbs = numL l := by unfold sgn; cases negL l <;> simp
        generalize hV : readN (cutP l) * unitN (cutP l).length = V at *
        have q1 : numL l / 1000000 = readN (cutW l) := by omega
        have q2 : numL l % 1000000 = V := by omega
        refine ⟨?_, ?_, hv⟩
        · show textL (sgn (negL l) (numL l)) = l
          unfold textL
          rw [hnat, q1, q2, hD, hP.1]
          have e2 : (if sgn (negL l) (numL l) < 0 then ([45] : List UInt8) else []) = (if negL l = true then [45] else []) := by
            by_cases hn : negL l = true
            · rw [if_pos (hneg.2 hn), if_pos hn]
            · rw [if_neg (fun h => hn (hneg.1 h)), if_neg hn]
          rw [e2]
          exact hback.symm
        · show fitsB (sgn (negL l) (numL l)) (s : Int) = true
          rw [fits_places _ s hs, hnat, q2]
          apply decide_eq_true
          by_cases h0 : V = 0
          · exact .inl h0
          · have := hP.2.2 h0
            exact .inr (by rw [this.2]; exact this.1)
      · have e : parseS l (s : Int) = (0, 2) := by
          unfold parseS
          rw [hsc, if_pos rfl, if_pos hf, if_neg hb]
          unfold chk
          rw [if_neg hv]
        rw [e] at h; exact absurd h (by decide)
  · have e : parseS l (s : Int) = (0, 5) := by unfold parseS; rw [hsc, if_pos rfl, if_neg hf]
    rw [e] at h; exact absurd h (by decide)

end Go.Proofs.YtnhffkgbnlnliaaGreatDoor.De
