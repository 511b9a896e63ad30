/-
  Where the strings of a dictionary stand, and the dictionary of two lists of words.
-/
import Derived.Test.YtllpnhegelddlaaDcWords
import Derived.Test.YtllpnhegelddlaaDcSame
namespace Go.Proofs.Ytllpnhegelddlaa
open Go Go.RowKit Go.Shelf Go.ChangeShapes Go.WideShapes Go.ChangeAt

theorem idx_in {d : List (List UInt8)} {s : List UInt8} (h : s ∈ d) : d.idxOf s < d.length ∧ d[d.idxOf s]?.getD [] = s := by
  have h1 : d.idxOf s < d.length := List.idxOf_lt_length_of_mem h
  refine ⟨h1, ?_⟩
  rw [List.getElem?_eq_getElem h1]
  exact List.getElem_idxOf h1
theorem idx_less {d : List (List UInt8)} (hi : Inc d) {s t : List UInt8} (hs : s ∈ d) (ht : t ∈ d) (h : s < t) : d.idxOf s < d.idxOf t := by
  obtain ⟨h1, h2⟩ := idx_in hs
  obtain ⟨h3, h4⟩ := idx_in ht
  rcases Nat.lt_trichotomy (d.idxOf s) (d.idxOf t) with h5 | h5 | h5
  · exact h5
  · rw [← h2, ← h4, h5] at h
    exact absurd h (slt_irrefl _)
  · have := inc_at hi h5 h1
    rw [h2, h4] at this
    exact absurd h (slt_asymm this)
theorem idx_same {d : List (List UInt8)} {s t : List UInt8} (hs : s ∈ d) (ht : t ∈ d) (h : d.idxOf s = d.idxOf t) : s = t := by
  rw [← (idx_in hs).2, h, (idx_in ht).2]
theorem idx_self {d : List (List UInt8)} (hi : Inc d) {k : Nat} (hk : k < d.length) : d.idxOf (d[k]?.getD []) = k := by
  have hm : d[k]?.getD [] ∈ d := by rw [List.getElem?_eq_getElem hk]; exact List.getElem_mem hk
  obtain ⟨h1, h2⟩ := idx_in hm
  rcases Nat.lt_trichotomy (d.idxOf (d[k]?.getD [])) k with h5 | h5 | h5
  · have := inc_at hi h5 hk
    rw [h2] at this
    exact absurd this (slt_irrefl _)
  · exact h5
  · have := inc_at hi h5 h1
    rw [h2] at this
    exact absurd this (slt_irrefl _)
theorem s_tri (s t : List UInt8) : s < t ∨ s = t ∨ t < s := by
  by_cases h : s < t
  · exact .inl h
  · by_cases h2 : s = t
    · exact .inr (.inl h2)
    · exact .inr (.inr (slt_of_le (List.not_lt.1 h) fun e => h2 e.symm))
theorem of_idx_map {d l : List (List UInt8)} (h : ∀ s ∈ l, s ∈ d) : (l.map fun s => ((d.idxOf s : Nat) : Int)).map (strD d) = l := by
  rw [List.map_map]
  refine (List.map_congr_left fun s hs => ?_).trans (List.map_id l)
  show strD d _ = s
  unfold strD
  exact (idx_in (h s hs)).2
theorem map_at {α : Type} {l : List (List UInt8)} (f : List UInt8 → α) (z : α) {j : Nat} (h : j < l.length) : (l.map f)[j]?.getD z = f (l[j]?.getD []) := by
  rw [List.getElem?_map, List.getElem?_eq_getElem h]; rfl
theorem idx_ind {d l : List (List UInt8)} (h : ∀ s ∈ l, s ∈ d) : ∀ c ∈ l.map (fun s => ((d.idxOf s : Nat) : Int)), InD d c := fun c hc => by
  obtain ⟨s, hs, rfl⟩ := List.mem_map.1 hc
  have := (idx_in (h s hs)).1
  unfold InD
  omega
theorem words2_vl (xs ys : List Int) : vlB (ofS (wordsD ys ++ wordsD xs)) = true := by
  refine vl_iff.2 ⟨?_, fun s hs => ?_, of_inc _⟩
  · have h1 := of_len (wordsD ys ++ wordsD xs)
    have h2 := words_len xs
    have h3 := words_len ys
    rw [List.length_append] at h1
    omega
  · have h1 := (mem_of _ s).1 hs
    rcases List.mem_append.1 h1 with h | h
    · have := words_wide _ s h; omega
    · have := words_wide _ s h; omega

end Go.Proofs.Ytllpnhegelddlaa
