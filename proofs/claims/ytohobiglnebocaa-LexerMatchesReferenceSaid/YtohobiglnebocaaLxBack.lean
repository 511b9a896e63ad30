/-
  Spellings are read back; what is read is a spelling.
-/
import Derived.Test.YtohobiglnebocaaLxLex
namespace Go.Proofs.Ytohobiglnebocaa.Lx
open Go

/-- What may follow a token, that it is read so. -/
def mun (k : Int) (s r : List UInt8) : Bool :=
  if k = 1 then !ldB (hd r) else if k = 2 then !ldB (hd r) && !(s.all digB && ptB (hd r) && digB (hd (r.drop 1))) else if k = 3 then true else !(decide (s = [60]) && decide (hd r = 61))
theorem mun_1 (s r : List UInt8) : mun 1 s r = !ldB (hd r) := rfl
theorem mun_2 (s r : List UInt8) : mun 2 s r = (!ldB (hd r) && !(s.all digB && ptB (hd r) && digB (hd (r.drop 1)))) := rfl
theorem mun_3 (s r : List UInt8) : mun 3 s r = true := rfl
theorem mun_4 (s r : List UInt8) : mun 4 s r = !(decide (s = [60]) && decide (hd r = 61)) := rfl

theorem dig_nat {b : UInt8} (h : digB b = true) : 48 ≤ b.toNat ∧ b.toNat ≤ 57 := by unfold digB at h; simpa using h
theorem let_nat {b : UInt8} (h : letB b = true) : 97 ≤ b.toNat ∧ b.toNat ≤ 122 := by unfold letB at h; simpa using h
theorem pt_nat {b : UInt8} (h : ptB b = true) : b.toNat = 46 := by unfold ptB at h; simpa using h
theorem dig_not_let {b : UInt8} (h : digB b = true) : letB b = false := by
  cases hl : letB b
  · rfl
  · have := dig_nat h; have := let_nat hl; omega
theorem dig_not_pt {b : UInt8} (h : digB b = true) : ptB b = false := by
  cases hl : ptB b
  · rfl
  · have := dig_nat h; have := pt_nat hl; omega
theorem kd_let {b : UInt8} (h : letB b = true) : kdS b = 1 := by unfold kdS; rw [if_pos h]
theorem kd_dig {b : UInt8} (h : digB b = true) : kdS b = 2 := by unfold kdS; rw [if_neg (by rw [dig_not_let h]; decide), if_pos h]
theorem hd_append {s : List UInt8} (r : List UInt8) (h : s ≠ []) : hd (s ++ r) = hd s := by
  cases s with
  | nil => exact absurd rfl h
  | cons b l => rfl

theorem areD_iff {s : List UInt8} (h : areD s = true) : s ≠ [] ∧ s.all digB = true := by
  unfold areD at h
  rw [Bool.and_eq_true] at h
  exact ⟨fun e => by rw [e] at h; exact absurd h.1 (by decide), h.2⟩
/-- The two forms of a number. -/
theorem num_forms {s : List UInt8} (h : numB s = true) : areD s = true ∨ ∃ W P, s = W ++ 46 :: P ∧ areD W = true ∧ areD P = true := by
  unfold numB at h
  rw [Bool.and_eq_true, Bool.and_eq_true] at h
  obtain ⟨⟨_, h1⟩, h2⟩ := h
  cases hp : s.any ptB
  · rw [take_no hp] at h1; exact .inl h1
  · rw [hp] at h2
    exact .inr ⟨_, _, split_at hp, h1, by simpa using h2⟩
theorem num_all {s : List UInt8} (h : numB s = true) : ∀ b ∈ s, digB b = true ∨ b = 46 := by
  intro b hb
  rcases num_forms h with h | ⟨W, P, rfl, h1, h2⟩
  · exact .inl (List.all_eq_true.1 (areD_iff h).2 b hb)
  · rw [List.mem_append, List.mem_cons] at hb
    rcases hb with hb | hb | hb
    · exact .inl (List.all_eq_true.1 (areD_iff h1).2 b hb)
    · exact .inr hb
    · exact .inl (List.all_eq_true.1 (areD_iff h2).2 b hb)

theorem hd_mem {s : List UInt8} (h : s ≠ []) : hd s ∈ s := by
  cases s with
  | nil => exact absurd rfl h
  | cons b l => exact List.mem_cons_self ..
theorem not_ld {b : UInt8} (h : ldB b = false) : letB b = false ∧ digB b = false := by unfold ldB at h; simpa using h

theorem read_num {s r : List UInt8} (hv : numB s = true) (hm : mun 2 s r = true) : numN (s ++ r) = s.length ∧ kdS (hd (s ++ r)) = 2 := by
  rw [mun_2, Bool.and_eq_true] at hm
  obtain ⟨hm1, hm2⟩ := hm
  have hld := not_ld (b := hd r) (by simpa using hm1)
  rcases num_forms hv with h | ⟨W, P, rfl, h1, h2⟩
  · obtain ⟨hne, hall⟩ := areD_iff h
    have hsp : spN digB (s ++ r) = s.length := by rw [sp_append digB r hall, sp_zero digB hld.2]; rfl
    rw [hall] at hm2
    have hdr : (s ++ r).drop s.length = r := List.drop_left
    have hdr2 : (s ++ r).drop (s.length + 1) = r.drop 1 := by rw [← List.drop_drop, hdr]
    have hdg : digN (s ++ r) = s.length := by
      unfold digN
      rw [hsp, hdr, hdr2, if_neg (by intro e; rw [Bool.and_eq_true] at e; rw [e.1, e.2] at hm2; exact absurd hm2 (by decide))]
    refine ⟨?_, ?_⟩
    · unfold numN
      rw [hdg, hdr, sp_zero letB hld.1]; rfl
    · rw [hd_append r hne]; exact kd_dig (List.all_eq_true.1 hall _ (hd_mem hne))
  · obtain ⟨n1, a1⟩ := areD_iff h1
    obtain ⟨n2, a2⟩ := areD_iff h2
    have e : W ++ 46 :: P ++ r = W ++ (46 :: (P ++ r)) := by simp
    have hsp : spN digB (W ++ 46 :: P ++ r) = W.length := by
      rw [e, sp_append digB _ a1, sp_zero digB (by rw [hd_cons]; decide)]; rfl
    have hdr : (W ++ 46 :: P ++ r).drop W.length = 46 :: (P ++ r) := by rw [e]; exact List.drop_left
    have hdr2 : (W ++ 46 :: P ++ r).drop (W.length + 1) = P ++ r := by rw [← List.drop_drop, hdr]; rfl
    have hP : digB (hd (P ++ r)) = true := by rw [hd_append r n2]; exact List.all_eq_true.1 a2 _ (hd_mem n2)
    have hdg : digN (W ++ 46 :: P ++ r) = (W ++ 46 :: P).length := by
      unfold digN
      rw [hsp, hdr, hdr2, if_pos (by rw [hP]; rfl), sp_append digB r a2, sp_zero digB hld.2]
      simp; omega
    refine ⟨?_, ?_⟩
    · unfold numN
      rw [hdg, List.drop_left, sp_zero letB hld.1]; rfl
    · rw [List.append_assoc, hd_append _ n1]; exact kd_dig (List.all_eq_true.1 a1 _ (hd_mem n1))
theorem rdT_back (r : List UInt8) : ∀ s : List UInt8, rdT (esc s ++ 34 :: r) = (s, (esc s).length + 1)
  | [] => by
    show rdT (34 :: r) = _
    cases r with
    | nil => rfl
    | cons c l => rfl
  | b :: s => by
    have ih := rdT_back r s
    rw [esc, List.append_assoc]
    by_cases h : b.toNat = 34 ∨ b.toNat = 92
    · rw [esc1, if_pos h]
      show rdT (92 :: b :: (esc s ++ 34 :: r)) = _
      rw [rdT_esc (by decide), ih]; simp; omega
    · rw [esc1, if_neg h]
      show rdT (b :: (esc s ++ 34 :: r)) = _
      rw [rdT_one (fun e => h (.inl e)) (.inl fun e => h (.inr e)), ih]; simp; omega
theorem mem_signs {s : List UInt8} (h : signB s = true) : s = [40] ∨ s = [41] ∨ s = [44] ∨ s = [59] ∨ s = [58] ∨ s = [46] ∨ s = [61] ∨ s = [60] ∨ s = [60, 61] ∨ s = [43] ∨ s = [45] ∨ s = [42] := by
  have hm : s ∈ signs := of_decide_eq_true h
  simpa only [signs, List.mem_cons, List.not_mem_nil, or_false] using hm
theorem take_two_ne {b : UInt8} (r : List UInt8) (h : b ≠ 60) : (b :: r).take 2 ≠ [60, 61] := fun e => by
  cases r with
  | nil => cases e
  | cons c l => simp at e; exact h e.1
theorem read_sign {s r : List UInt8} (hv : signB s = true) (hm : mun 4 s r = true) : sgN (s ++ r) = s.length ∧ kdS (hd (s ++ r)) = 4 := by
  rw [mun_4] at hm
  have one : ∀ b : UInt8, b ≠ 60 → kdS b = 4 → sgN ([b] ++ r) = ([b] : List UInt8).length ∧ kdS (hd ([b] ++ r)) = 4 := fun b h hk => ⟨by
    unfold sgN
    rw [show ([b] : List UInt8) ++ r = b :: r from rfl, if_neg (take_two_ne r h)]; rfl, hk⟩
  rcases mem_signs hv with rfl | rfl | rfl | rfl | rfl | rfl | rfl | rfl | rfl | rfl | rfl | rfl
  · exact one _ (by decide) (by decide)
  · exact one _ (by decide) (by decide)
  · exact one _ (by decide) (by decide)
  · exact one _ (by decide) (by decide)
  · exact one _ (by decide) (by decide)
  · exact one _ (by decide) (by decide)
  · exact one _ (by decide) (by decide)
  · refine ⟨?_, by rw [hd_append r (by decide)]; decide⟩
    unfold sgN
    rw [if_neg]
    · rfl
    · intro e
      cases r with
      | nil => cases e
      | cons c l =>
        simp at e
        subst e
        exact absurd hm (by simp [hd])
  · refine ⟨?_, by rw [hd_append r (by decide)]; decide⟩
    unfold sgN
    rw [if_pos (by simp)]; rfl
  · exact one _ (by decide) (by decide)
  · exact one _ (by decide) (by decide)
  · exact one _ (by decide) (by decide)

/-- A spelling is read back. -/
theorem back {k : Int} {s : List UInt8} (r : List UInt8) (hv : vld k s = true) (hm : mun k s r = true) : tkR (spl k s ++ r) = (k, s, (spl k s).length) := by
  by_cases h1 : k = 1
  · subst h1
    rw [spl_k hv (by decide)]
    have hv : wordB s = true := hv
    unfold wordB at hv
    simp only [Bool.and_eq_true, decide_eq_true_eq] at hv
    obtain ⟨⟨⟨h0, _⟩, hl⟩, ha⟩ := hv
    have hne : s ≠ [] := List.length_pos_iff.1 h0
    have hr : ldB (hd r) = false := by rw [mun_1] at hm; simpa using hm
    have hsp : spN ldB (s ++ r) = s.length := by rw [sp_append ldB r ha, sp_zero ldB hr]; rfl
    rw [tk_word (by rw [hd_append r hne]; exact kd_let hl), hsp, List.take_left]
  · by_cases h2 : k = 2
    · subst h2
      rw [spl_k hv (by decide)]
      obtain ⟨e1, e2⟩ := read_num (show numB s = true from hv) hm
      rw [tk_num e2, e1, List.take_left]
    · by_cases h3 : k = 3
      · subst h3
        rw [spl_3 hv]
        have e : 34 :: (esc s ++ [34]) ++ r = 34 :: (esc s ++ 34 :: r) := by simp
        have hk : kdS (hd (34 :: (esc s ++ 34 :: r))) = 3 := by rw [hd_cons]; decide
        rw [e, tk_text hk, List.drop_succ_cons, List.drop_zero, rdT_back]
        simp; omega
      · by_cases h4 : k = 4
        · subst h4
          rw [spl_k hv (by decide)]
          obtain ⟨e1, e2⟩ := read_sign (show signB s = true from hv) hm
          rw [tk_sign e2, e1, List.take_left]
        · rw [vld_9 s h1 h2 h3 h4] at hv; cases hv
theorem vld_nil {k : Int} (h3 : k ≠ 3) : vld k [] = false := by
  by_cases h1 : k = 1
  · subst h1; rfl
  · by_cases h2 : k = 2
    · subst h2; rfl
    · by_cases h4 : k = 4
      · subst h4; rfl
      · exact vld_9 [] h1 h2 h3 h4
theorem spl_ne {k : Int} {s : List UInt8} (hv : vld k s = true) : spl k s ≠ [] := by
  by_cases h3 : k = 3
  · subst h3; rw [spl_3 hv]; simp
  · rw [spl_k hv h3]
    intro e
    subst e
    rw [vld_nil h3] at hv; cases hv
theorem back_ok {k : Int} {s : List UInt8} (r : List UInt8) (hv : vld k s = true) (hm : mun k s r = true) : okR (spl k s ++ r) = true := by
  rw [ok_iff (back r hv hm), List.take_left]; exact decide_eq_true rfl

end Go.Proofs.Ytohobiglnebocaa.Lx
