/-
  A sealed form with one byte changed, or followed by a byte.
-/
import Derived.Test.YtdcapmbgnoahpaaCtRaw
namespace Go.Proofs.Ytdcapmbgnoahpaa
open Go Go.RowKit Go.Shelf Go.ChangeShapes Go.WideShapes Go.ChangeAt

theorem open_whole {bs : List Int} (ho : Oct bs) (h : openE bs = 0) : fstE bs = 0 ∧ fstN bs = bs.length ∧ bs = sealS (fstK bs) (fstI bs) (fstD bs) := by
  unfold openE at h
  by_cases hE : fstE bs = 0
  · rw [if_neg (fun c => c hE)] at h
    have hN : ¬ fstN bs < bs.length := fun c => by rw [if_pos c] at h; cases h
    have hle := fstN_le ho hE
    obtain ⟨_, _, _, _, hb, _⟩ := first_canon ho hE
    have hd : bs.drop (fstN bs) = [] := List.drop_eq_nil_of_le (by omega)
    rw [hd, List.append_nil] at hb
    exact ⟨hE, by omega, hb⟩
  · rw [if_pos hE] at h; exact absurd h hE
theorem open_seal {k : Int} {id da : List Int} (hz : Smalls id) (hl : id.length ≤ 40) (hd : da.length ≤ 65536) (hk : 1 ≤ k ∧ k ≤ 9) : openE (sealS k id da) = 0 ∧ fstK (sealS k id da) = k ∧ fstI (sealS k id da) = id ∧ fstD (sealS k id da) = da := by
  obtain ⟨h1, h2, h3, h4, h5⟩ := seal_first (data := da) hz hl hd hk []
  rw [List.append_nil] at h1 h2 h3 h4 h5
  exact ⟨by unfold openE; rw [if_neg (fun c => c h1), if_neg (by rw [h5]; omega)], h2, h3, h4⟩
theorem open_more {k : Int} {id da : List Int} (hz : Smalls id) (hl : id.length ≤ 40) (hd : da.length ≤ 65536) (hk : 1 ≤ k ∧ k ≤ 9) (x : Int) : openE (sealS k id da ++ [x]) = 8 := by
  obtain ⟨h1, _, _, _, h5⟩ := seal_first (data := da) hz hl hd hk [x]
  unfold openE
  rw [if_neg (fun c => c h1), if_pos (by rw [h5, List.length_append]; simp)]
theorem bytesD_in (bs : List Int) : 0 ≤ Dg.bytesD bs ∧ Dg.bytesD bs < 18446744073709551616 := ⟨Dg.stepI_lo _ _, Dg.stepI_hi _ _⟩
theorem open_of (bs : List Int) : openE bs = 0 ∨ openE bs = 7 ∨ openE bs = 8 := by
  unfold openE
  rcases fstE_of bs with h | h | h
  · rw [if_neg (fun c => c h)]; split <;> simp
  · rw [if_pos (by rw [h]; decide), h]; simp
  · rw [if_pos (by rw [h]; decide), h]; simp

theorem open_damage {k : Int} {id da : List Int} (hz : Smalls id) (ho : Oct da) (hl : id.length ≤ 40) (hd : da.length ≤ 65536) (hk : 1 ≤ k ∧ k ≤ 9) {j : Nat} (hj : j < (sealS k id da).length) {x : Int} (hx : 0 ≤ x ∧ x < 256) :
    openE ((sealS k id da).set j x) = 0 ↔ (sealS k id da)[j]?.getD 0 = x := by
  have hoS : Oct (sealS k id da) := sealS_oct hk ho
  constructor
  · intro h
    have hoO : Oct ((sealS k id da).set j x) := fun y hy => (List.mem_or_eq_of_mem_set hy).elim (hoS y) (fun e => by subst e; exact hx)
    obtain ⟨_, _, hw⟩ := open_whole hoO h
    have hA' : ∃ A' : List Int, (sealS k id da).set j x = A' ++ sum8 (Dg.bytesD A') := ⟨sealA (fstK ((sealS k id da).set j x)) (fstI ((sealS k id da).set j x)) (fstD ((sealS k id da).set j x)), hw⟩
    obtain ⟨A', hA'⟩ := hA'
    have hAo : Oct (sealA k id da) := sealA_oct hk ho
    have hs : sealS k id da = sealA k id da ++ sum8 (Dg.bytesD (sealA k id da)) := rfl
    rw [hs] at hA' hj ⊢
    generalize sealA k id da = A at *
    rw [List.length_append, sum8_length] at hj
    have hlen := congrArg List.length hA'
    rw [List.length_set, List.length_append, List.length_append, sum8_length, sum8_length] at hlen
    by_cases hjA : j < A.length
    · rw [List.set_append_left _ _ hjA] at hA'
      obtain ⟨e1, e2⟩ := List.append_inj hA' (by rw [List.length_set]; omega)
      have e3 := sum8_inj (bytesD_in _) (bytesD_in _) e2
      have h1 := Dg.bytes_one A hAo j hjA x hx
      rw [e1, e3, beq_self_eq_true] at h1
      rw [List.getElem?_append_left hjA]
      exact eq_of_beq h1.symm
    · rw [List.set_append_right _ _ (by omega)] at hA'
      obtain ⟨e1, e2⟩ := List.append_inj hA' (by omega)
      subst e1
      rw [List.getElem?_append_right (by omega)]
      have h1 := congrArg (fun l : List Int => l[j - A.length]?.getD 0) e2
      rw [List.getElem?_set_self (by rw [sum8_length]; omega)] at h1
      exact h1.symm
  · intro h
    have : (sealS k id da).set j x = sealS k id da := by
      rw [← h, List.getElem?_eq_getElem hj]
      exact List.set_getElem_self hj
    rw [this]
    exact (open_seal hz hl hd hk).1

theorem Rd.cell0 {K : Nat → Prop} {W : World} {k : IntKind} {g n c : Nat} {zs : List Int} (h : Rd K W k (some ⟨g, 0, none⟩) n c zs) {j : Nat} (hj : j < n) : W.cell? ⟨g, j, none⟩ = some (.int k (zs[j]?.getD 0)) := by
  obtain ⟨b, off, e, _, _, hc⟩ := h.cells (by omega)
  cases e
  have := hc j hj
  rwa [Nat.zero_add] at this

end Go.Proofs.Ytdcapmbgnoahpaa
