/-
  A packed dictionary is read back, what is read was packed so, and a part of a packed form is too short: as functions on lists.
-/
import Derived.Test.YtdcapmbgnoahpaaDcUnMath
namespace Go.Proofs.Ytdcapmbgnoahpaa
open Go Go.RowKit

theorem rp_st (b s : List UInt8) (hb : b.length ≤ 255) (hs : s.length ≤ 255) (r : List Int) :
    rpS (stP b s ++ r) b.length = ((shN b s, strI (s.drop (shN b s))), (stP b s).length, 0) := by
  have h1 := (sh_le b s).1
  have h2 := (sh_le b s).2
  unfold stP
  generalize shN b s = k at *
  have e1 := rdS_var5 k (by omega) ((varN (s.length - k) ++ strI (s.drop k)) ++ r)
  have e2 := rdS_var5 (s.length - k) (by omega) (strI (s.drop k) ++ r)
  have a1 : varN k ++ (varN (s.length - k) ++ strI (s.drop k)) ++ r = varN k ++ ((varN (s.length - k) ++ strI (s.drop k)) ++ r) := List.append_assoc ..
  have a2 : varN (s.length - k) ++ strI (s.drop k) ++ r = varN (s.length - k) ++ (strI (s.drop k) ++ r) := List.append_assoc ..
  have hl : (strI (s.drop k)).length = s.length - k := by rw [strI_len, List.length_drop]
  unfold rpS
  rw [a1, e1]
  simp only []
  rw [List.drop_left, a2, e2]
  simp only []
  rw [List.drop_left, if_neg (by simp), if_neg (by simp), if_neg (by omega), if_neg (by rw [List.length_append, hl]; omega), Int.toNat_natCast, Int.toNat_natCast, ← hl, List.take_left, hl]
  simp only [List.length_append, hl]

theorem sb_st {d : List (List UInt8)} {s : List UInt8} (h : d = [] ∨ d.getLastD [] < s) :
    sbS d (shN (d.getLastD []) s) (strI (s.drop (shN (d.getLastD []) s))) = s ∧ sbB d (shN (d.getLastD []) s) (strI (s.drop (shN (d.getLastD []) s))) = true := by
  by_cases hd : d = []
  · subst hd
    have e : shN (([] : List (List UInt8)).getLastD []) s = 0 := sh_nil s
    rw [e, List.drop_zero]
    refine ⟨?_, (sb_nil5 _ _).2⟩
    rw [(sb_nil5 _ _).1, strU_strI]
  · have h := h.resolve_left hd
    have e : sbS d (shN (d.getLastD []) s) (strI (s.drop (shN (d.getLastD []) s))) = s := by
      unfold sbS
      rw [if_neg hd, strU_strI, sh_take, List.take_append_drop]
    refine ⟨e, ?_⟩
    unfold sbB
    rw [e, decide_eq_false hd, Bool.false_or, decide_eq_true h, Bool.true_and, beq_iff_eq]

theorem inc_next {d e : List (List UInt8)} {s : List UInt8} (h : Inc (d ++ s :: e)) : d = [] ∨ d.getLastD [] < s := by
  by_cases hd : d = []
  · exact .inl hd
  · refine .inr ?_
    have h1 : d.getLastD [] ∈ d := by
      rw [List.getLastD_eq_getLast?, List.getLast?_eq_some_getLast hd]
      exact List.getLast_mem hd
    have h : (d ++ s :: e).Pairwise (· < ·) := h
    exact (List.pairwise_append.1 h).2.2 _ h1 _ (List.mem_cons_self ..)

theorem unF_pack : ∀ (e d : List (List UInt8)) (r : List Int), (∀ s ∈ d, s.length ≤ 255) → (∀ s ∈ e, s.length ≤ 255) → Inc (d ++ e) → unF e.length d (ptP (d.getLastD []) e ++ r) = (d ++ e, (ptP (d.getLastD []) e).length, 0)
  | [], d, r, _, _, _ => by simp [unF, ptP]
  | s :: e, d, r, hd, he, hi => by
    have hl := last_le hd
    have hs := he s (List.mem_cons_self ..)
    have e1 := rp_st (d.getLastD []) s hl hs (ptP s e ++ r)
    obtain ⟨e2, e3⟩ := sb_st (inc_next hi)
    have ih := unF_pack e (d ++ [s]) r (fun t ht => (List.mem_append.1 ht).elim (hd t) fun h => by rw [List.mem_singleton.1 h]; exact hs) (fun t ht => he t (List.mem_cons_of_mem _ ht)) (by rw [List.append_assoc]; exact hi)
    rw [last_snoc] at ih
    have a1 : ptP (d.getLastD []) (s :: e) ++ r = stP (d.getLastD []) s ++ (ptP s e ++ r) := by simp [ptP]
    rw [a1, List.length_cons, unF, e1]
    simp only []
    rw [e2, e3, List.drop_left, ih]
    simp [ptP]

theorem un_pk {d : List (List UInt8)} (hv : vlB d = true) (rest : List Int) : unD (pkD d ++ rest) = (d, (pkD d).length, 0) := by
  obtain ⟨h1, h2, h3⟩ := vl_iff.1 hv
  have e1 := rdS_var5 d.length (by omega) (ptP [] d ++ rest)
  have e2 := unF_pack d [] rest (fun s hs => by cases hs) h2 h3
  have e3 : (([] : List (List UInt8)).getLastD []) = [] := rfl
  rw [e3, List.nil_append] at e2
  unfold pkD unD
  rw [List.append_assoc, e1]
  simp only []
  rw [if_neg (by simp), if_neg (by omega), List.drop_left, Int.toNat_natCast, e2]
  simp

/-! ### What is read was packed so -/

theorem rp_canon {bs : List Int} (ho : Oct bs) {size : Nat} (he : (rpS bs size).2.2 = 0) :
    (rpS bs size).2.1 = (varN (rpS bs size).1.1).length + ((varN (rpS bs size).1.2.length).length + (rpS bs size).1.2.length) ∧
    bs = varN (rpS bs size).1.1 ++ (varN (rpS bs size).1.2.length ++ (rpS bs size).1.2) ++ bs.drop (rpS bs size).2.1 := by
  have hu := rdS_u645 ho
  have hod := ho.drop (rdS bs).2.1
  have hv := rdS_u645 hod
  unfold rpS at he ⊢
  by_cases h1 : (rdS bs).2.2 = 0
  · rw [if_neg (fun h => h h1)] at he ⊢
    have c1 := rdS_canon5 ho (v := (rdS bs).1) (c := (rdS bs).2.1) (by rw [← h1])
    by_cases h2 : (rdS (bs.drop (rdS bs).2.1)).2.2 = 0
    · rw [if_neg (fun h => h h2)] at he ⊢
      have c2 := rdS_canon5 hod (v := (rdS (bs.drop (rdS bs).2.1)).1) (c := (rdS (bs.drop (rdS bs).2.1)).2.1) (by rw [← h2])
      by_cases h3 : (size : Int) < (rdS bs).1 ∨ 255 - (rdS bs).1 < (rdS (bs.drop (rdS bs).2.1)).1
      · rw [if_pos h3] at he; exact absurd he (by decide)
      · rw [if_neg h3] at he ⊢
        by_cases h4 : (((bs.drop (rdS bs).2.1).drop (rdS (bs.drop (rdS bs).2.1)).2.1).length : Int) < (rdS (bs.drop (rdS bs).2.1)).1
        · rw [if_pos h4] at he; exact absurd he (by decide)
        · rw [if_neg h4]
          simp only []
          obtain ⟨_, k1, k2⟩ := c1
          obtain ⟨hv0, k3, k4⟩ := c2
          generalize rdS (bs.drop (rdS bs).2.1) = R2 at *
          generalize rdS bs = R1 at *
          obtain ⟨u, c1, x1⟩ := R1
          obtain ⟨v, c2, x2⟩ := R2
          simp only [] at *
          have hlen : (List.take v.toNat ((bs.drop c1).drop c2)).length = v.toNat := by rw [List.length_take]; omega
          rw [hlen]
          refine ⟨by rw [← k1, ← k3], ?_⟩
          have k5 : bs.drop (c1 + (c2 + v.toNat)) = ((bs.drop c1).drop c2).drop v.toNat := by rw [List.drop_drop, List.drop_drop]
          rw [k5, List.append_assoc, List.append_assoc, List.take_append_drop, ← k4, ← k2]
    · rw [if_pos h2] at he; exact absurd he h2
  · rw [if_pos h1] at he; exact absurd he h1

theorem unF_canon : ∀ (n : Nat) (d : List (List UInt8)) (bs : List Int) (l : List (List UInt8)) (c : Nat), Oct bs → (∀ s ∈ d, s.length ≤ 255) → Inc d → unF n d bs = (l, c, 0) →
    ∃ e, l = d ++ e ∧ e.length = n ∧ (∀ s ∈ e, s.length ≤ 255) ∧ Inc (d ++ e) ∧ c = (ptP (d.getLastD []) e).length ∧ bs = ptP (d.getLastD []) e ++ bs.drop c
  | 0, d, bs, l, c, _, _, hi, h => by
    simp only [unF, Prod.mk.injEq] at h
    obtain ⟨rfl, rfl, _⟩ := h
    exact ⟨[], by simp, rfl, fun s hs => (by cases hs), by simpa using hi, rfl, by simp [ptP]⟩
  | n + 1, d, bs, l, c, ho, hd, hi, h => by
    have hl := last_le hd
    have hsh := rp_shared ho (d.getLastD []).length
    have hsz := rp_size ho (d.getLastD []).length
    have hro := rp_oct ho (d.getLastD []).length
    have hsl := sb_len (d := d) ho
    rw [unF] at h
    by_cases h1 : (rpS bs (d.getLastD []).length).2.2 = 0
    · rw [if_neg (fun h => h h1)] at h
      obtain ⟨k1, k2⟩ := rp_canon ho h1
      have hod := ho.drop (rpS bs (d.getLastD []).length).2.1
      generalize (rpS bs (d.getLastD []).length).2.2 = x1 at *
      generalize (rpS bs (d.getLastD []).length).1.1 = sh at *
      generalize (rpS bs (d.getLastD []).length).1.2 = o at *
      generalize (rpS bs (d.getLastD []).length).2.1 = cc at *
      cases hb : sbB d sh o with
      | false => rw [if_pos hb] at h; simp at h
      | true =>
        rw [if_neg (by rw [hb]; decide)] at h
        -- the string
        have hst : shN (d.getLastD []) (sbS d sh o) = sh ∧ (sbS d sh o).drop sh = strU o ∧ (d = [] ∨ d.getLastD [] < sbS d sh o) := by
          by_cases hd0 : d = []
          · subst hd0
            have h0 : (([] : List (List UInt8)).getLastD []).length = 0 := rfl
            obtain rfl : sh = 0 := by omega
            refine ⟨sh_nil _, ?_, .inl rfl⟩
            rw [(sb_nil5 _ _).1, List.drop_zero]
          · unfold sbB at hb
            rw [decide_eq_false hd0, Bool.false_or, Bool.and_eq_true, decide_eq_true_eq, beq_iff_eq] at hb
            refine ⟨hb.2, ?_, .inr hb.1⟩
            unfold sbS
            rw [if_neg hd0, List.drop_append_of_le_length (by rw [List.length_take]; omega), List.drop_take, Nat.sub_self, List.take_zero, List.nil_append]
        obtain ⟨t1, t2, t3⟩ := hst
        generalize sbS d sh o = s at *
        by_cases h2 : (unF n (d ++ [s]) (bs.drop cc)).2.2 = 0
        · rw [if_neg (fun h => h h2)] at h
          simp only [Prod.mk.injEq] at h
          obtain ⟨q1, q2, _⟩ := h
          have hs255 : s.length ≤ 255 := by rw [hsl]; exact hsz
          have hinc : Inc (d ++ [s]) := by
            have hi' : d.Pairwise (· < ·) := hi
            show (d ++ [s]).Pairwise (· < ·)
            refine List.pairwise_append.2 ⟨hi', List.pairwise_singleton .., fun a ha b hb => ?_⟩
            rw [List.mem_singleton.1 hb]
            rcases t3 with rfl | t3
            · cases ha
            · obtain ⟨i, hi2, e⟩ := List.getElem_of_mem ha
              by_cases hlast : i + 1 = d.length
              · have : d.getLastD [] = a := by
                  rw [List.getLastD_eq_getLast?, List.getLast?_eq_getElem?, show d.length - 1 = i by omega, List.getElem?_eq_getElem hi2, e]; rfl
                rw [← this]; exact t3
              · have h5 := inc_at hi (i := i) (j := d.length - 1) (by omega) (by omega)
                rw [List.getElem?_eq_getElem hi2] at h5
                have h6 : d[d.length - 1]?.getD [] = d.getLastD [] := by rw [List.getLastD_eq_getLast?, List.getLast?_eq_getElem?]
                rw [h6] at h5
                rw [← e]
                exact slt_trans h5 t3
          obtain ⟨e, r1, r2, r3, r4, r5, r6⟩ := unF_canon n (d ++ [s]) (bs.drop cc) (unF n (d ++ [s]) (bs.drop cc)).1 (unF n (d ++ [s]) (bs.drop cc)).2.1 hod
            (fun t ht => (List.mem_append.1 ht).elim (hd t) fun h => by rw [List.mem_singleton.1 h]; exact hs255) hinc (by rw [← h2])
          rw [last_snoc] at r5 r6
          have hstp : stP (d.getLastD []) s = varN sh ++ (varN o.length ++ o) := by
            unfold stP
            rw [t1, t2, strI_strU hro, show s.length - sh = o.length by omega]
          refine ⟨s :: e, ?_, by rw [List.length_cons, r2], fun t ht => ?_, ?_, ?_, ?_⟩
          · rw [← q1, r1, List.append_assoc]; rfl
          · rcases List.mem_cons.1 ht with rfl | ht
            · exact hs255
            · exact r3 t ht
          · rw [List.append_assoc] at r4; exact r4
          · rw [← q2, r5, k1]
            simp only [ptP, hstp, List.length_append]
          · rw [← q2, ← List.drop_drop]
            simp only [ptP, hstp, List.append_assoc]
            rw [← r6]
            simpa [List.append_assoc] using k2
        · rw [if_pos h2] at h
          simp only [Prod.mk.injEq] at h
          exact absurd h.2.2 h2
    · rw [if_pos h1] at h
      simp only [Prod.mk.injEq] at h
      exact absurd h.2.2 h1

theorem un_can {bs : List Int} (ho : Oct bs) {l : List (List UInt8)} {c : Nat} (h : unD bs = (l, c, 0)) : vlB l = true ∧ c = (pkD l).length ∧ bs = pkD l ++ bs.drop c := by
  have hu := rdS_u645 ho
  unfold unD at h
  by_cases h1 : (rdS bs).2.2 = 0
  · rw [if_neg (fun h => h h1)] at h
    obtain ⟨_, k1, k2⟩ := rdS_canon5 ho (v := (rdS bs).1) (c := (rdS bs).2.1) (by rw [← h1])
    by_cases h2 : 4096 < (rdS bs).1
    · rw [if_pos h2] at h; simp at h
    · rw [if_neg h2] at h
      have hod := ho.drop (rdS bs).2.1
      generalize rdS bs = R at *
      obtain ⟨u, c1, x1⟩ := R
      simp only [] at *
      by_cases h3 : (unF u.toNat [] (bs.drop c1)).2.2 = 0
      · rw [if_neg (fun h => h h3)] at h
        simp only [Prod.mk.injEq] at h
        obtain ⟨q1, q2, _⟩ := h
        obtain ⟨e, r1, r2, r3, r4, r5, r6⟩ := unF_canon u.toNat [] (bs.drop c1) (unF u.toNat [] (bs.drop c1)).1 (unF u.toNat [] (bs.drop c1)).2.1 hod (fun s hs => by cases hs) List.Pairwise.nil (by rw [← h3])
        rw [List.nil_append] at r1 r4
        have e0 : (([] : List (List UInt8)).getLastD []) = [] := rfl
        rw [e0] at r5 r6
        rw [q1] at r1
        subst r1
        refine ⟨vl_iff.2 ⟨by omega, r3, r4⟩, ?_, ?_⟩
        · rw [← q2, r5, k1]
          unfold pkD
          rw [List.length_append, r2]
        · unfold pkD
          rw [r2, ← q2, ← List.drop_drop, List.append_assoc, ← r6]
          exact k2
      · rw [if_pos h3] at h
        simp only [Prod.mk.injEq] at h
        exact absurd h.2.2 h3
  · rw [if_pos h1] at h
    simp only [Prod.mk.injEq] at h
    exact absurd h.2.2 h1

/-! ### Errors, and what is cut off -/

theorem rp_err (bs : List Int) (size : Nat) : (rpS bs size).2.2 = 0 ∨ (rpS bs size).2.2 = 5 ∨ (rpS bs size).2.2 = 7 := by
  unfold rpS
  split
  · exact rdS_err5 bs
  · split
    · exact rdS_err5 _
    · split
      · simp
      · split <;> simp
theorem unF_errs : ∀ (n : Nat) (d : List (List UInt8)) (bs : List Int), (unF n d bs).2.2 = 0 ∨ (unF n d bs).2.2 = 5 ∨ (unF n d bs).2.2 = 7
  | 0, _, _ => .inl rfl
  | n + 1, d, bs => by
    unfold unF
    split
    · exact rp_err _ _
    · split
      · simp
      · split
        · exact unF_errs n _ _
        · simp
theorem un_errs (bs : List Int) : (unD bs).2.2 = 0 ∨ (unD bs).2.2 = 5 ∨ (unD bs).2.2 = 7 := by
  unfold unD
  split
  · exact rdS_err5 bs
  · split
    · simp
    · split
      · exact unF_errs _ _ _
      · simp

theorem take_past {α : Type} (a b : List α) (m : Nat) (h : a.length ≤ m) : (a ++ b).take m = a ++ b.take (m - a.length) := by
  rw [List.take_append, List.take_of_length_le h]
theorem take_within {α : Type} (a b : List α) (m : Nat) (h : m ≤ a.length) : (a ++ b).take m = a.take m := by
  rw [List.take_append, Nat.sub_eq_zero_of_le h, List.take_zero, List.append_nil]

theorem rp_short (b s : List UInt8) (hb : b.length ≤ 255) (hs : s.length ≤ 255) (m : Nat) (hm : m < (stP b s).length) : (rpS ((stP b s).take m) b.length).2.2 = 7 := by
  have h1 := (sh_le b s).1
  have h2 := (sh_le b s).2
  unfold stP at hm ⊢
  generalize shN b s = k at *
  have hl : (strI (s.drop k)).length = s.length - k := by rw [strI_len, List.length_drop]
  simp only [List.length_append, hl] at hm
  unfold rpS
  by_cases c1 : m < (varN k).length
  · have := rdS_short5 k (by omega) m c1
    rw [take_within _ _ _ (by omega), if_pos (by rw [this]; decide)]
    exact this
  · rw [take_past _ _ _ (by omega)]
    have e1 := rdS_var5 k (by omega) ((varN (s.length - k) ++ strI (s.drop k)).take (m - (varN k).length))
    rw [e1]
    simp only []
    rw [if_neg (by simp), List.drop_left]
    by_cases c2 : m - (varN k).length < (varN (s.length - k)).length
    · have := rdS_short5 (s.length - k) (by omega) _ c2
      rw [take_within _ _ _ (by omega), if_pos (by rw [this]; decide)]
      exact this
    · rw [take_past _ _ _ (by omega)]
      have e2 := rdS_var5 (s.length - k) (by omega) ((strI (s.drop k)).take (m - (varN k).length - (varN (s.length - k)).length))
      rw [e2]
      simp only []
      rw [if_neg (by simp), if_neg (by omega), if_pos (by rw [List.drop_left, List.length_take, hl]; omega)]

theorem unF_short : ∀ (e d : List (List UInt8)) (m : Nat), (∀ s ∈ d, s.length ≤ 255) → (∀ s ∈ e, s.length ≤ 255) → Inc (d ++ e) → m < (ptP (d.getLastD []) e).length → (unF e.length d ((ptP (d.getLastD []) e).take m)).2.2 = 7
  | [], d, m, _, _, _, hm => by simp [ptP] at hm
  | s :: e, d, m, hd, he, hi, hm => by
    have hl := last_le hd
    have hs := he s (List.mem_cons_self ..)
    rw [ptP, List.length_cons, unF]
    rw [ptP, List.length_append] at hm
    by_cases c1 : m < (stP (d.getLastD []) s).length
    · have := rp_short (d.getLastD []) s hl hs m c1
      rw [take_within _ _ _ (by omega), if_pos (by rw [this]; decide)]
      exact this
    · rw [take_past _ _ _ (by omega)]
      have e1 := rp_st (d.getLastD []) s hl hs ((ptP s e).take (m - (stP (d.getLastD []) s).length))
      obtain ⟨e2, e3⟩ := sb_st (inc_next hi)
      have ih := unF_short e (d ++ [s]) (m - (stP (d.getLastD []) s).length) (fun t ht => (List.mem_append.1 ht).elim (hd t) fun h => by rw [List.mem_singleton.1 h]; exact hs) (fun t ht => he t (List.mem_cons_of_mem _ ht)) (by rw [List.append_assoc]; exact hi) (by rw [last_snoc]; omega)
      rw [last_snoc] at ih
      rw [e1]
      simp only []
      rw [e2, e3, List.drop_left, if_neg (by simp), if_neg (by decide), if_pos (by rw [ih]; decide)]
      exact ih

theorem un_sh {d : List (List UInt8)} (hv : vlB d = true) (m : Nat) (hm : m < (pkD d).length) : unD ((pkD d).take m) = ([], 0, 7) := by
  obtain ⟨h1, h2, h3⟩ := vl_iff.1 hv
  unfold pkD at hm ⊢
  rw [List.length_append] at hm
  unfold unD
  by_cases c1 : m < (varN d.length).length
  · have := rdS_short5 d.length (by omega) m c1
    rw [take_within _ _ _ (by omega), if_pos (by rw [this]; decide), this]
  · rw [take_past _ _ _ (by omega)]
    have e1 := rdS_var5 d.length (by omega) ((ptP [] d).take (m - (varN d.length).length))
    have e2 := unF_short d [] (m - (varN d.length).length) (fun s hs => by cases hs) h2 h3 (by show _ < (ptP [] d).length; omega)
    have e3 : (([] : List (List UInt8)).getLastD []) = [] := rfl
    rw [e3] at e2
    rw [e1]
    simp only []
    rw [if_neg (by simp), if_neg (by omega), List.drop_left, Int.toNat_natCast, if_pos (by rw [e2]; decide), e2]

end Go.Proofs.Ytdcapmbgnoahpaa
