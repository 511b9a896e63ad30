/-
  What unpacking comes to, step by step, as the reference takes them.
-/
import Derived.Test.YtdcapmbgnoahpaaDcThm
namespace Go.Proofs.Ytdcapmbgnoahpaa

/-- With so many strings left to read of these bytes behind that list, all comes to the same. -/
def Goes (bs : List Int) (m : Nat) (d : List (List UInt8)) (bk : List Int) : Prop :=
  (unD bs).2.2 = (unF m d bk).2.2 ∧ ((unD bs).2.2 = 0 → (unD bs).1 = (unF m d bk).1 ∧ bs.drop (unD bs).2.1 = bk.drop (unF m d bk).2.1)
theorem unD_err {bs : List Int} (h : (rdS bs).2.2 ≠ 0) : (unD bs).2.2 = (rdS bs).2.2 := by unfold unD; rw [if_pos h]
theorem unD_many {bs : List Int} (h : (rdS bs).2.2 = 0) (h2 : 4096 < (rdS bs).1) : (unD bs).2.2 = 5 := by unfold unD; rw [if_neg (by rw [h]; decide), if_pos h2]
theorem goes_start {bs : List Int} {N : Nat} (h : (rdS bs).2.2 = 0) (h2 : (rdS bs).1 = (N : Int)) (h3 : N ≤ 4096) : Goes bs N [] (bs.drop (rdS bs).2.1) := by
  unfold Goes unD
  rw [if_neg (by rw [h]; decide), if_neg (by rw [h2]; omega), h2, Int.toNat_natCast]
  by_cases hx : (unF N [] (bs.drop (rdS bs).2.1)).2.2 = 0
  · rw [if_neg (by rw [hx]; decide)]
    exact ⟨hx.symm, fun _ => ⟨rfl, by rw [← List.drop_drop]⟩⟩
  · rw [if_pos hx]
    exact ⟨rfl, fun h => absurd h hx⟩
theorem goes_end {bs : List Int} {d : List (List UInt8)} {bk : List Int} (h : Goes bs 0 d bk) : (unD bs).2.2 = 0 ∧ (unD bs).1 = d ∧ bs.drop (unD bs).2.1 = bk := by
  obtain ⟨h1, h2⟩ := h
  have h1 : (unD bs).2.2 = 0 := h1
  exact ⟨h1, (h2 h1).1, (h2 h1).2⟩
theorem goes_err {bs : List Int} {m : Nat} {d : List (List UInt8)} {bk : List Int} {x : Int} (h : Goes bs (m + 1) d bk) (hr : (rpS bk (d.getLastD []).length).2.2 = x) (hx : x ≠ 0) : (unD bs).2.2 = x := by
  rw [h.1]
  unfold unF
  rw [if_pos (by rw [hr]; exact hx), hr]
theorem goes_form {bs : List Int} {m : Nat} {d : List (List UInt8)} {bk : List Int} {p : Nat} {o : List Int} {c : Nat} (h : Goes bs (m + 1) d bk) (hr : rpS bk (d.getLastD []).length = ((p, o), c, 0)) (hb : sbB d p o = false) : (unD bs).2.2 = 5 := by
  rw [h.1]
  unfold unF
  rw [hr, if_neg (fun h => h rfl), if_pos hb]
theorem goes_next {bs : List Int} {m : Nat} {d : List (List UInt8)} {bk : List Int} {p : Nat} {o : List Int} {c : Nat} (h : Goes bs (m + 1) d bk) (hr : rpS bk (d.getLastD []).length = ((p, o), c, 0)) (hb : sbB d p o = true) : Goes bs m (d ++ [sbS d p o]) (bk.drop c) := by
  obtain ⟨h1, h2⟩ := h
  have e : unF (m + 1) d bk = if (unF m (d ++ [sbS d p o]) (bk.drop c)).2.2 ≠ 0 then ([], 0, (unF m (d ++ [sbS d p o]) (bk.drop c)).2.2) else ((unF m (d ++ [sbS d p o]) (bk.drop c)).1, c + (unF m (d ++ [sbS d p o]) (bk.drop c)).2.1, 0) := by
    conv => lhs; unfold unF
    rw [hr, if_neg (fun h => h rfl), if_neg (by rw [hb]; decide)]
  rw [e] at h1 h2
  by_cases hx : (unF m (d ++ [sbS d p o]) (bk.drop c)).2.2 = 0
  · rw [if_neg (by rw [hx]; decide)] at h1 h2
    exact ⟨by rw [h1, hx], fun h => ⟨(h2 h).1, by rw [(h2 h).2, ← List.drop_drop]⟩⟩
  · rw [if_pos hx] at h1 h2
    exact ⟨h1, fun h => absurd (h1.symm.trans h) hx⟩

theorem rp_e1 {bk : List Int} {L : Nat} (h : (rdS bk).2.2 ≠ 0) : (rpS bk L).2.2 = (rdS bk).2.2 := by unfold rpS; rw [if_pos h]
theorem rp_e2 {bk : List Int} {L : Nat} (h : (rdS bk).2.2 = 0) (h2 : (rdS (bk.drop (rdS bk).2.1)).2.2 ≠ 0) : (rpS bk L).2.2 = (rdS (bk.drop (rdS bk).2.1)).2.2 := by
  unfold rpS; rw [if_neg (by rw [h]; decide), if_pos h2]
theorem rp_form {bk : List Int} {L : Nat} (h : (rdS bk).2.2 = 0) (h2 : (rdS (bk.drop (rdS bk).2.1)).2.2 = 0) (h3 : (L : Int) < (rdS bk).1 ∨ 255 - (rdS bk).1 < (rdS (bk.drop (rdS bk).2.1)).1) : (rpS bk L).2.2 = 5 := by
  unfold rpS; rw [if_neg (by rw [h]; decide), if_neg (by rw [h2]; decide), if_pos h3]
theorem rp_less {bk : List Int} {L : Nat} (h : (rdS bk).2.2 = 0) (h2 : (rdS (bk.drop (rdS bk).2.1)).2.2 = 0) (h3 : ¬ ((L : Int) < (rdS bk).1 ∨ 255 - (rdS bk).1 < (rdS (bk.drop (rdS bk).2.1)).1))
    (h4 : (((bk.drop (rdS bk).2.1).drop (rdS (bk.drop (rdS bk).2.1)).2.1).length : Int) < (rdS (bk.drop (rdS bk).2.1)).1) : (rpS bk L).2.2 = 7 := by
  unfold rpS; rw [if_neg (by rw [h]; decide), if_neg (by rw [h2]; decide), if_neg h3, if_pos h4]
theorem rp_good {bk : List Int} {L p q c1 c2 : Nat} (h : (rdS bk).2.2 = 0) (h1 : (rdS bk).1 = (p : Int)) (hc1 : (rdS bk).2.1 = c1) (h2 : (rdS (bk.drop c1)).2.2 = 0) (h5 : (rdS (bk.drop c1)).1 = (q : Int)) (hc2 : (rdS (bk.drop c1)).2.1 = c2) (h3 : p ≤ L) (h6 : p + q ≤ 255)
    (h4 : q ≤ ((bk.drop c1).drop c2).length) : rpS bk L = ((p, ((bk.drop c1).drop c2).take q), c1 + (c2 + q), 0) := by
  unfold rpS
  rw [hc1, if_neg (by rw [h]; decide), if_neg (by rw [h2]; decide), h1, h5, hc2, if_neg (by omega), if_neg (by omega), Int.toNat_natCast, Int.toNat_natCast]

end Go.Proofs.Ytdcapmbgnoahpaa
