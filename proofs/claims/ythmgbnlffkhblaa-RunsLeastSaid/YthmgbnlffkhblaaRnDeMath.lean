/-
  What was encoded is decoded; what is decoded was encoded so; what is cut off is too short: as functions on lists.
-/
import Derived.Test.YthmgbnlffkhblaaRnDec
import Derived.Test.YthmgbnlffkhblaaPkShortMath
namespace Go.Proofs.Ythmgbnlffkhblaa
open Go.RowKit

theorem ur_pack {zs : List Int} (hz : Smalls zs) (hl : zs.length ≤ 4096) (rest : List Int) :
    urS (packS (vals zs) ++ (packS (lens zs) ++ rest)) = (zs, (packS (vals zs)).length + (packS (lens zs)).length, 0) := by
  have hrl := rl_len zs
  have h1 := un_pack (vals_smalls hz) (by rw [vals_length]; omega) (packS (lens zs) ++ rest)
  have h2 := un_pack (lens_smalls (zs := zs) (by omega)) (by rw [lens_length]; omega) rest
  unfold urS
  rw [h1]
  simp only [List.drop_left]
  rw [h2]
  simp only []
  rw [xpS_runs zs hl, if_neg (by simp), if_neg (by simp), if_neg (by simp)]
theorem upk_pack {zs : List Int} (hz : Smalls zs) (hl : zs.length ≤ 4096) (k : Nat) (rest : List Int) : upkS k (formS k zs ++ rest) = (zs, (formS k zs).length, 0) := by
  have hd := df_smalls hz
  have hdl : (dfS zs).length ≤ 4096 := by rw [df_length]; exact hl
  unfold upkS formS partsS
  split
  · simp only [List.flatMap_cons, List.flatMap_nil, List.append_nil]
    exact un_pack hz hl rest
  · simp only [List.flatMap_cons, List.flatMap_nil, List.append_nil]
    rw [List.append_assoc, ur_pack hz hl rest, List.length_append]
  · simp only [List.flatMap_cons, List.flatMap_nil, List.append_nil]
    rw [un_pack hd hdl rest]
    show (smS (dfS zs), _) = _
    rw [sm_df hz]
  · simp only [List.flatMap_cons, List.flatMap_nil, List.append_nil]
    rw [List.append_assoc, ur_pack hd hdl rest, List.length_append]
    show (smS (dfS zs), _) = _
    rw [sm_df hz]
theorem de_en {zs : List Int} (hz : Smalls zs) (hl : zs.length ≤ 4096) (rest : List Int) : deS (enS zs ++ rest) = (zs, (enS zs).length, 0) := by
  have h := upk_pack hz hl (kindS zs) rest
  have e : (enS zs ++ rest).drop 1 = formS (kindS zs) zs ++ rest := rfl
  have := de_good (bs := enS zs ++ rest) (k := kindS zs) (by simp [enS]) rfl (kind_lt zs) (by rw [e, h]) (by rw [e, h])
  rw [this, e, h]
  simp [enS]

theorem ur_canon {bs : List Int} (ho : Oct bs) {l : List Int} {c : Nat} (h : urS bs = (l, c, 0)) : l.length ≤ 4096 ∧ c = (packS (vals l)).length + (packS (lens l)).length ∧ bs = packS (vals l) ++ (packS (lens l) ++ bs.drop c) := by
  unfold urS at h
  split at h
  · rename_i h1; exact absurd (congrArg (·.2.2) h) h1
  · rename_i h1
    split at h
    · rename_i h2; exact absurd (congrArg (·.2.2) h) h2
    · rename_i h2
      split at h
      · simp at h
      · rename_i h3
        simp at h1 h2 h3
        obtain ⟨vs, hv⟩ : ∃ vs, (unS bs).1 = vs := ⟨_, rfl⟩
        obtain ⟨c1, hc1⟩ : ∃ c1, (unS bs).2.1 = c1 := ⟨_, rfl⟩
        have e1 : unS bs = (vs, c1, 0) := by rw [← hv, ← hc1, ← h1]
        rw [e1] at h h2 h3
        simp only at h h2 h3
        obtain ⟨ns, hn⟩ : ∃ ns, (unS (bs.drop c1)).1 = ns := ⟨_, rfl⟩
        obtain ⟨c2, hc2⟩ : ∃ c2, (unS (bs.drop c1)).2.1 = c2 := ⟨_, rfl⟩
        have e2 : unS (bs.drop c1) = (ns, c2, 0) := by rw [← hn, ← hc2, ← h2]
        rw [e2] at h h3
        simp only at h h3
        obtain ⟨h4, h5⟩ : (xpS vs ns).1 = l ∧ c1 + c2 = c := by simpa using h
        have e3 : xpS vs ns = (l, 0) := by rw [← h4, ← h3]
        obtain ⟨b1, b2, b3⟩ := xpS_back e3
        obtain ⟨_, d1, d2⟩ := un_canon ho e1
        obtain ⟨_, d3, d4⟩ := un_canon (ho.drop c1) e2
        rw [b1, b2]
        refine ⟨b3, by rw [← h5, d1, d3], ?_⟩
        rw [← h5, ← List.drop_drop, ← d4]
        exact d2
theorem upk_canon {k : Nat} {bs : List Int} (ho : Oct bs) {l : List Int} {c : Nat} (h : upkS k bs = (l, c, 0)) : l.length ≤ 4096 ∧ c = (formS k l).length ∧ bs = formS k l ++ bs.drop c := by
  unfold upkS at h
  unfold formS partsS
  split at h
  · obtain ⟨h1, h2, h3⟩ := un_canon ho h
    simp only [List.flatMap_cons, List.flatMap_nil, List.append_nil]
    exact ⟨h1, h2, h3⟩
  · obtain ⟨h1, h2, h3⟩ := ur_canon ho h
    simp only [List.flatMap_cons, List.flatMap_nil, List.append_nil]
    exact ⟨h1, by rw [List.length_append]; exact h2, by rw [List.append_assoc]; exact h3⟩
  · obtain ⟨d, hd⟩ : ∃ d, (unS bs).1 = d := ⟨_, rfl⟩
    have hs := un_smalls4 bs
    have h' : (smS (unS bs).1, (unS bs).2) = (l, c, 0) := h
    rw [hd] at h' hs
    have e1 : smS d = l := congrArg Prod.fst h'
    have e2 : (unS bs).2 = (c, 0) := congrArg Prod.snd h'
    have e3 : unS bs = (d, c, 0) := by rw [← hd, ← e2]
    have e4 : dfS l = d := by rw [← e1, df_sm hs]
    obtain ⟨h1, h2, h3⟩ := un_canon ho e3
    simp only [List.flatMap_cons, List.flatMap_nil, List.append_nil, e4]
    exact ⟨by rw [← e1, sm_length]; exact h1, h2, h3⟩
  · obtain ⟨d, hd⟩ : ∃ d, (urS bs).1 = d := ⟨_, rfl⟩
    have hs := ur_smalls bs
    have h' : (smS (urS bs).1, (urS bs).2) = (l, c, 0) := h
    rw [hd] at h' hs
    have e1 : smS d = l := congrArg Prod.fst h'
    have e2 : (urS bs).2 = (c, 0) := congrArg Prod.snd h'
    have e3 : urS bs = (d, c, 0) := by rw [← hd, ← e2]
    have e4 : dfS l = d := by rw [← e1, df_sm hs]
    obtain ⟨h1, h2, h3⟩ := ur_canon ho e3
    simp only [List.flatMap_cons, List.flatMap_nil, List.append_nil, e4]
    exact ⟨by rw [← e1, sm_length]; exact h1, by rw [List.length_append]; exact h2, by rw [List.append_assoc]; exact h3⟩
theorem de_canon {bs : List Int} (ho : Oct bs) {l : List Int} {c : Nat} (h : deS bs = (l, c, 0)) : l.length ≤ 4096 ∧ Smalls l ∧ c = (enS l).length ∧ bs = enS l ++ bs.drop c := by
  unfold deS at h
  split at h
  · simp at h
  · rename_i hne
    split at h
    · simp at h
    · rename_i h4
      split at h
      · rename_i h1; exact absurd (congrArg (·.2.2) h) h1
      · rename_i h1
        split at h
        · simp at h
        · rename_i h2
          have h1 := Decidable.of_not_not h1
          have h2 := Decidable.of_not_not h2
          have hx := (ho.getD 0).1
          obtain ⟨k, hk⟩ := Int.eq_ofNat_of_zero_le hx
          rw [hk, Int.toNat_natCast] at h h1 h2
          obtain ⟨d, hd⟩ : ∃ d, (upkS k (bs.drop 1)).1 = d := ⟨_, rfl⟩
          obtain ⟨c1, hc1⟩ : ∃ c1, (upkS k (bs.drop 1)).2.1 = c1 := ⟨_, rfl⟩
          have e1 : upkS k (bs.drop 1) = (d, c1, 0) := by rw [← hd, ← hc1, ← h1]
          have hs := upk_smalls k (bs.drop 1)
          rw [e1] at h h2 hs
          simp only at h h2 hs
          obtain ⟨e2, e3⟩ : d = l ∧ c1 + 1 = c := by simpa using h
          obtain ⟨g1, g2, g3⟩ := upk_canon (ho.drop 1) e1
          subst e2
          refine ⟨g1, hs, ?_, ?_⟩
          · rw [← e3, g2]; unfold enS; rw [h2, List.length_cons]
          · have e5 : bs = (k : Int) :: bs.drop 1 := by
              cases bs with
              | nil => exact absurd rfl hne
              | cons x r => simp at hk; rw [← hk]; rfl
            have e6 : bs.drop c = (bs.drop 1).drop c1 := by rw [← e3, List.drop_drop, Nat.add_comm]
            rw [e6]
            unfold enS
            rw [h2, List.cons_append, ← g3]
            exact e5

theorem ur_short {zs : List Int} (hz : Smalls zs) (hl : zs.length ≤ 4096) (m : Nat) (hm : m < (packS (vals zs)).length + (packS (lens zs)).length) : (urS ((packS (vals zs) ++ packS (lens zs)).take m)).2.2 = 7 := by
  have hrl := rl_len zs
  have hv := vals_smalls hz
  have hn := lens_smalls (zs := zs) (by omega)
  by_cases h : m < (packS (vals zs)).length
  · have e := un_short hv (by rw [vals_length]; omega) m h
    rw [List.take_append_of_le_length (Nat.le_of_lt h)]
    unfold urS
    rw [if_pos (by rw [e]; decide)]
    exact e
  · have e0 : (packS (vals zs) ++ packS (lens zs)).take m = packS (vals zs) ++ (packS (lens zs)).take (m - (packS (vals zs)).length) := by
      rw [List.take_append, List.take_of_length_le (by omega)]
    have h1 := un_pack hv (by rw [vals_length]; omega) ((packS (lens zs)).take (m - (packS (vals zs)).length))
    have h2 := un_short hn (by rw [lens_length]; omega) (m - (packS (vals zs)).length) (by omega)
    rw [e0]
    unfold urS
    rw [h1]
    simp only [List.drop_left]
    rw [if_neg (by simp), if_pos (by rw [h2]; decide)]
    exact h2
theorem upk_short {zs : List Int} (hz : Smalls zs) (hl : zs.length ≤ 4096) (k m : Nat) (hm : m < (formS k zs).length) : (upkS k ((formS k zs).take m)).2.2 = 7 := by
  have hd := df_smalls hz
  have hdl : (dfS zs).length ≤ 4096 := by rw [df_length]; exact hl
  unfold upkS
  unfold formS partsS at hm ⊢
  split
  · simp only [List.flatMap_cons, List.flatMap_nil, List.append_nil] at hm ⊢
    exact un_short hz hl m hm
  · simp only [List.flatMap_cons, List.flatMap_nil, List.append_nil, List.length_append] at hm ⊢
    exact ur_short hz hl m hm
  · simp only [List.flatMap_cons, List.flatMap_nil, List.append_nil] at hm ⊢
    exact un_short hd hdl m hm
  · simp only [List.flatMap_cons, List.flatMap_nil, List.append_nil, List.length_append] at hm ⊢
    exact ur_short hd hdl m hm
theorem de_short {zs : List Int} (hz : Smalls zs) (hl : zs.length ≤ 4096) (m : Nat) (hm : m < (enS zs).length) : (deS ((enS zs).take m)).2.2 = 7 := by
  cases m with
  | zero => rfl
  | succ m =>
    have e : (enS zs).take (m + 1) = (kindS zs : Int) :: (formS (kindS zs) zs).take m := rfl
    have h := upk_short hz hl (kindS zs) m (by unfold enS at hm; simpa using hm)
    rw [e, de_bad (bs := (kindS zs : Int) :: (formS (kindS zs) zs).take m) (k := kindS zs) (x := 7) (by simp) rfl (kind_lt zs) h (by decide)]

theorem form_oct (k : Nat) (zs : List Int) (h : ∀ ps, Oct (packS ps)) : Oct (formS k zs) := by
  intro x hx
  unfold formS at hx
  obtain ⟨ps, _, hx⟩ := List.mem_flatMap.1 hx
  exact h ps x hx
theorem pack_oct4 (zs : List Int) : Oct (packS zs) := by
  have hh : Oct (headS zs) := by
    unfold headS
    split
    · exact var_oct 0
    · refine ((var_oct _).append (var_oct _)).append fun x hx => ?_
      rw [List.mem_singleton] at hx
      have := width_le zs
      omega
  unfold packS
  exact Oct.append hh (gather_oct _ (bitsS_bin zs) _)
theorem en_oct (zs : List Int) : Oct (enS zs) := by
  intro x hx
  unfold enS at hx
  rcases List.mem_cons.1 hx with rfl | hx
  · have := kind_lt zs; omega
  · exact form_oct _ _ pack_oct4 x hx
theorem en_len {zs : List Int} (hz : Smalls zs) (hl : zs.length ≤ 4096) : 1 ≤ (enS zs).length ∧ (enS zs).length ≤ 65579 := by
  have hf : ∀ (pss : List (List Int)), pss.length ≤ 2 → (∀ ps ∈ pss, (packS ps).length ≤ 32789) → (pss.flatMap packS).length ≤ 65578 := by
    intro pss h2 h
    match pss, h2, h with
    | [], _, _ => simp
    | [a], _, h => have := h a (by simp); simp; omega
    | [a, b], _, h => have := h a (by simp); have := h b (by simp); simp; omega
  have := hf (partsS (kindS zs) zs) (parts_two _ _) fun ps hps => pack_len ps (parts_fair hz (by omega) _ ps hps).1 (parts_len hl _ ps hps)
  unfold enS formS
  rw [List.length_cons]
  omega

end Go.Proofs.Ythmgbnlffkhblaa
