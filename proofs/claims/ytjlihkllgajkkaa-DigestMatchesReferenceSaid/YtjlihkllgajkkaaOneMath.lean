/-
  One change: lists of words that differ in one place have different digests; so have byte sequences.
-/
import Derived.Test.YtjlihkllgajkkaaOpenInts
namespace Go.Proofs.Ytjlihkllgajkkaa
open Go.RowKit

theorem fold_inj : ∀ (ws : List Int) (a b : Int), (0 ≤ a ∧ a < 18446744073709551616) → (0 ≤ b ∧ b < 18446744073709551616) → ws.foldl stepI a = ws.foldl stepI b → a = b
  | [], _, _, _, _, h => h
  | _ :: r, _, _, ha, hb, h => stepI_left' (fold_inj r _ _ ⟨stepI_lo _ _, stepI_hi _ _⟩ ⟨stepI_lo _ _, stepI_hi _ _⟩ h) ha hb

theorem fold_set (h : Int) (ws : List Int) (hw : Words ws) (i : Nat) (hi : i < ws.length) (x : Int) (hx : 0 ≤ x ∧ x < 18446744073709551616) :
    ws.foldl stepI h = (ws.set i x).foldl stepI h ↔ ws[i]?.getD 0 = x := by
  have e1 : ws = ws.take i ++ ws[i] :: ws.drop (i + 1) := by rw [List.getElem_cons_drop, List.take_append_drop]
  have e2 : ws.set i x = ws.take i ++ x :: ws.drop (i + 1) := List.set_eq_take_append_cons_drop.trans (if_pos hi)
  have e3 : ws[i]?.getD 0 = ws[i] := by rw [List.getElem?_eq_getElem hi]; rfl
  rw [e3, e2]
  constructor
  · intro he
    have he2 : (ws.take i ++ ws[i] :: ws.drop (i + 1)).foldl stepI h = (ws.take i ++ x :: ws.drop (i + 1)).foldl stepI h := by rw [← e1]; exact he
    rw [List.foldl_append, List.foldl_append] at he2
    simp only [List.foldl_cons] at he2
    have h2 := fold_inj _ _ _ ⟨stepI_lo _ _, stepI_hi _ _⟩ ⟨stepI_lo _ _, stepI_hi _ _⟩ he2
    exact stepI_right' h2 (hw _ (List.getElem_mem hi)) hx
  · intro he
    rw [← he, ← e1]

theorem digest_set (seed : Int) (hs : 0 ≤ seed ∧ seed < 18446744073709551616) (ws : List Int) (hw : Words ws) (i : Nat) (hi : i < ws.length) (x : Int) (hx : 0 ≤ x ∧ x < 18446744073709551616) (n : Int) :
    (stepI (ws.foldl stepI seed) n == stepI ((ws.set i x).foldl stepI seed) n) = (ws[i]?.getD 0 == x) := by
  have hr1 := foldI_range seed hs ws
  have hr2 := foldI_range seed hs (ws.set i x)
  by_cases h : ws[i]?.getD 0 = x
  · rw [← (fold_set seed ws hw i hi x hx).2 h, h]; simp
  · have : ¬ stepI (ws.foldl stepI seed) n = stepI ((ws.set i x).foldl stepI seed) n := fun e => h ((fold_set seed ws hw i hi x hx).1 (stepI_left' e hr1 hr2))
    rw [beq_false_of_ne this, beq_false_of_ne h]

theorem wrap64_inj {a b : Int} (ha : -9223372036854775808 ≤ a ∧ a ≤ 9223372036854775807) (hb : -9223372036854775808 ≤ b ∧ b ≤ 9223372036854775807) (h : IntKind.u64.wrap a = IntKind.u64.wrap b) : a = b := by
  rw [IntKind.wrap_u64, IntKind.wrap_u64] at h; omega

theorem asWords_set (zs : List Int) (i : Nat) (x : Int) : asWords (zs.set i x) = (asWords zs).set i (IntKind.u64.wrap x) := by simp [asWords, List.map_set]

def Smalls (zs : List Int) : Prop := ∀ z ∈ zs, -9223372036854775808 ≤ z ∧ z ≤ 9223372036854775807
theorem Smalls.getD {zs : List Int} (h : Smalls zs) (k : Nat) : -9223372036854775808 ≤ zs[k]?.getD 0 ∧ zs[k]?.getD 0 ≤ 9223372036854775807 := by
  by_cases hk : k < zs.length
  · rw [List.getElem?_eq_getElem hk]; exact h _ (List.getElem_mem hk)
  · rw [List.getElem?_eq_none (by omega)]; simp

theorem digest_words (seed : Int) (hs : 0 ≤ seed ∧ seed < 18446744073709551616) (zs : List Int) (hz : Smalls zs) (i : Nat) (hi : i < zs.length) (x : Int) (hx : -9223372036854775808 ≤ x ∧ x ≤ 9223372036854775807) (n : Int) :
    (stepI ((asWords zs).foldl stepI seed) n == stepI ((asWords (zs.set i x)).foldl stepI seed) n) = (zs[i]?.getD 0 == x) := by
  have hwx : 0 ≤ IntKind.u64.wrap x ∧ IntKind.u64.wrap x < 18446744073709551616 := by rw [IntKind.wrap_u64]; omega
  rw [asWords_set, digest_set seed hs (asWords zs) (asWords_words zs) i (by simpa [asWords] using hi) _ hwx, asWords_getD zs i hi]
  by_cases h : zs[i]?.getD 0 = x
  · rw [h]; simp
  · rw [beq_false_of_ne h, beq_false_of_ne (fun e => h (wrap64_inj (hz.getD i) hx e))]

theorem words_one (zs : List Int) (hz : Smalls zs) (i : Nat) (hi : i < zs.length) (x : Int) (hx : -9223372036854775808 ≤ x ∧ x ≤ 9223372036854775807) : (wordsD zs == wordsD (zs.set i x)) = (zs[i]?.getD 0 == x) := by
  unfold wordsD
  rw [List.length_set]
  exact digest_words _ (by omega) zs hz i hi x hx _
theorem list_one (zs : List Int) (hz : Smalls zs) (i : Nat) (hi : i < zs.length) (x : Int) (hx : -9223372036854775808 ≤ x ∧ x ≤ 9223372036854775807) : (listD (asWords zs) == listD (asWords (zs.set i x))) = (zs[i]?.getD 0 == x) := by
  unfold listD
  rw [show (asWords (zs.set i x)).length = (asWords zs).length by simp [asWords]]
  exact digest_words _ (by omega) zs hz i hi x hx _

theorem joins_left (a b c : Int) (ha : 0 ≤ a ∧ a < 18446744073709551616) (hc : 0 ≤ c ∧ c < 18446744073709551616) : (joinD a b == joinD c b) = (a == c) := by
  unfold joinD
  by_cases h : a = c
  · rw [h]; simp
  · rw [beq_false_of_ne h, beq_false_of_ne (fun e => h (stepI_right' (stepI_left' e ⟨stepI_lo _ _, stepI_hi _ _⟩ ⟨stepI_lo _ _, stepI_hi _ _⟩) ha hc))]
theorem joins_right (a b c : Int) (hb : 0 ≤ b ∧ b < 18446744073709551616) (hc : 0 ≤ c ∧ c < 18446744073709551616) : (joinD a b == joinD a c) = (b == c) := by
  unfold joinD
  by_cases h : b = c
  · rw [h]; simp
  · rw [beq_false_of_ne h, beq_false_of_ne (fun e => h (stepI_right' e hb hc))]

theorem wordOf_set : ∀ (l : List Int) (i : Nat), i < l.length → ∀ x : Int, wordOf (l.set i x) - wordOf l = (x - l[i]?.getD 0) * 256 ^ i
  | [], _, h, _ => by simp at h
  | b :: r, 0, _, x => by
    simp [wordOf]
    omega
  | b :: r, i + 1, h, x => by
    have ih := wordOf_set r i (by simpa using h) x
    simp only [List.set_cons_succ, wordOf, List.getElem?_cons_succ, Int.pow_succ]
    have e : (x - r[i]?.getD 0) * (256 ^ i * 256) = 256 * ((x - r[i]?.getD 0) * 256 ^ i) := by
      rw [← Int.mul_assoc, Int.mul_comm]
    rw [e, ← ih]
    omega

theorem wordOf_set_eq (l : List Int) (i : Nat) (hi : i < l.length) (x : Int) : wordOf l = wordOf (l.set i x) ↔ l[i]?.getD 0 = x := by
  have h := wordOf_set l i hi x
  have hp : (256 : Int) ^ i ≠ 0 := by
    have : (0 : Int) < 256 ^ i := Int.pow_pos (by decide)
    omega
  constructor
  · intro e
    rw [← e, Int.sub_self] at h
    rcases Int.mul_eq_zero.1 h.symm with h0 | h0
    · omega
    · exact absurd h0 hp
  · intro e
    rw [e, Int.sub_self, Int.zero_mul] at h
    omega

theorem group_set_same (bs : List Int) (i : Nat) (x : Int) : group (bs.set i x) (i / 8) = (group bs (i / 8)).set (i % 8) x := by
  unfold group
  rw [List.drop_set, if_neg (by omega), List.take_set]
  congr 1
  omega

theorem group_set_other (bs : List Int) (i k : Nat) (x : Int) (h : k ≠ i / 8) : group (bs.set i x) k = group bs k := by
  unfold group
  rw [List.drop_set]
  split
  · rfl
  · rw [List.take_set, List.set_eq_of_length_le (by simp; omega)]

theorem groups_set (bs : List Int) (i : Nat) (hi : i < bs.length) (x : Int) : groupsOf (bs.set i x) = (groupsOf bs).set (i / 8) (wordOf ((group bs (i / 8)).set (i % 8) x)) := by
  apply List.ext_getElem?
  intro k
  unfold groupsOf
  rw [List.length_set, List.getElem?_map, List.getElem?_set]
  by_cases hk : k < (bs.length + 7) / 8
  · rw [List.getElem?_range hk]
    split
    · next h =>
      subst h
      rw [if_pos (by simp; omega), Option.map_some, group_set_same]
    · next h =>
      rw [List.getElem?_map, List.getElem?_range hk, Option.map_some, Option.map_some, group_set_other bs i k x (fun e => h e.symm)]
  · rw [List.getElem?_eq_none (by simp; omega)]
    split
    · next h => subst h; omega
    · rw [List.getElem?_map, List.getElem?_eq_none (by simp; omega)]; rfl

theorem bytes_one (bs : List Int) (hb : Octets bs) (i : Nat) (hi : i < bs.length) (x : Int) (hx : 0 ≤ x ∧ x < 256) : (bytesD bs == bytesD (bs.set i x)) = (bs[i]?.getD 0 == x) := by
  unfold bytesD
  have hg : i / 8 < (groupsOf bs).length := by simp [groupsOf]; omega
  have hlen : (group bs (i / 8)).length = groupLen bs.length (i / 8) := group_length bs (i / 8)
  have hl8 : i % 8 < groupLen bs.length (i / 8) := by unfold groupLen; split <;> omega
  have hoct : Octets (bs.set i x) := fun y hy => by
    rcases List.mem_or_eq_of_mem_set hy with h | h
    · exact hb y h
    · rw [h]; exact hx
  have hww : 0 ≤ wordOf ((group bs (i / 8)).set (i % 8) x) ∧ wordOf ((group bs (i / 8)).set (i % 8) x) < 18446744073709551616 := by
    have := groupsOf_words hoct
    rw [groups_set bs i hi x] at this
    exact this _ (List.mem_set hg _)
  rw [groups_set bs i hi x, List.length_set, digest_set _ (by omega) (groupsOf bs) (groupsOf_words hb) (i / 8) hg _ hww, groupsOf_at bs (i / 8) (by simpa [groupsOf] using hg)]
  have hq := wordOf_set_eq (group bs (i / 8)) (i % 8) (by omega) x
  have hgd : (group bs (i / 8))[i % 8]?.getD 0 = bs[i]?.getD 0 := by rw [group_getD bs (i / 8) (i % 8) hl8, show 8 * (i / 8) + i % 8 = i by omega]
  rw [hgd] at hq
  show (wordOf (group bs (i / 8)) == _) = _
  by_cases h : bs[i]?.getD 0 = x
  · rw [← hq.2 h, h]; simp
  · rw [beq_false_of_ne h, beq_false_of_ne (fun e => h (hq.1 e))]

/-! Rows of the call's own: one more element, one changed element. -/

/-- One more element, behind a row of the call's own: the row's block is the old one, or a new one. -/
theorem run_append_one_at {P : Program} (w : World) (base : Nat) (t ty e : TypeId) (i : TypeInfo) (z : Value) (bytes : Nat) (k : IntKind) (ht : P.underlying t = some (.slice e)) (hi : P.info? e = some i) (hz : i.zero = some z)
    (hsize : i.size = 1) (hby : i.bytes = bytes) (hzs : z.cells.size = 1) (g n cap : Nat) (xs : List Value) (hown : w.ownsRow base e 1 (.slice (some ⟨g, 0, none⟩) n cap) n xs) (x : Int) (te : TypeId)
    (h63 : n + 1 ≤ maxLen) (hbytes : (n + 1) * bytes ≤ 140737488355328) (hbase : base ≤ w.heap.size) :
    ∃ g' cap' w', (Builtin.append_ #[t, t] ty #[.slice (some ⟨g, 0, none⟩) n cap, .slice (some ⟨w.heap.size, 0, none⟩) 1 1]).run P (w.alloc (.cells #[.int k x] te)) = .ok (.slice (some ⟨g', 0, none⟩) (n + 1) cap') w' ∧
      w'.ownsRow base e 1 (.slice (some ⟨g', 0, none⟩) (n + 1) cap') (n + 1) (xs ++ [.int k x]) ∧ (w.alloc (.cells #[.int k x] te)).grownBy w' (some g) ∧ n + 1 ≤ cap' ∧ base ≤ g' ∧ (g' = g ∨ w.heap.size < g') := by
  obtain ⟨v', w', hr, h1, h2, h3, h4⟩ := run_append_own_at (P := P) (w.alloc (.cells #[.int k x] te)) base t ty e i z 1 bytes ht hi hz hsize hby hzs (by decide) _ n xs (hown.alloc _) ⟨w.heap.size, 0, none⟩ 1 1 [.int k x] rfl (cell_one_new _ _ _)
    (fun u hu => by rw [List.mem_singleton.1 hu]; rfl) h63 hbytes (by simp; omega)
  have hne : ¬ v' = .slice none 0 0 := fun e => by have := (h3.1 e).1; cases this
  obtain ⟨g', cap', rfl, hn, hb⟩ := row_form h1 hne
  refine ⟨g', cap', w', hr, h1, h2, hn, hb, ?_⟩
  rcases h4 with e | e
  · simp [Value.ownBlock] at e; exact .inl e
  · simp [Value.ownBlock] at e; exact .inr (by omega)

theorem row_block {W : World} {base : Nat} {e : TypeId} {g n cap : Nat} {xs : List Value} (h : W.ownsRow base e 1 (.slice (some ⟨g, 0, none⟩) n cap) n xs) :
    ∃ cur, W.heap[g]? = some (.cells cur e (0, 0)) ∧ n ≤ cap ∧ cap ≤ maxLen ∧ cur.size = cap ∧ cur.toList.take n = xs ∧ base ≤ g ∧ xs.length = n := by
  obtain ⟨h1, ⟨e0, _⟩ | ⟨g', cap', cur, e1, h2, h3, h4, h5, h6, h7⟩⟩ := h
  · cases e0
  · obtain ⟨rfl, rfl⟩ : g = g' ∧ cap = cap' := by cases e1; exact ⟨rfl, rfl⟩
    exact ⟨cur, h3, h4, h5, by omega, by simpa using h7, h2, by omega⟩

theorem row_unfrozen {W : World} {base : Nat} {e : TypeId} {g n cap j : Nat} {xs : List Value} (h : W.ownsRow base e 1 (.slice (some ⟨g, 0, none⟩) n cap) n xs) : W.frozen? ⟨g, j, none⟩ = false := by
  obtain ⟨cur, hg, _⟩ := row_block h
  simp [World.frozen?, hg]

theorem row_store {W : World} {base : Nat} {e : TypeId} {g n cap j : Nat} {xs : List Value} (h : W.ownsRow base e 1 (.slice (some ⟨g, 0, none⟩) n cap) n xs) (v : Value) :
    (W.setCell ⟨g, j, none⟩ v).ownsRow base e 1 (.slice (some ⟨g, 0, none⟩) n cap) n (xs.set j v) := by
  obtain ⟨cur, hg, hn, hm, hs, ht, hb, hl⟩ := row_block h
  refine ⟨by simp; omega, .inr ⟨g, cap, cur.setIfInBounds j v, rfl, hb, ?_, hn, hm, by simp; omega, ?_⟩⟩
  · obtain ⟨hlt, hk⟩ := Array.getElem?_eq_some_iff.1 hg
    show (W.heap.modify g _)[g]? = _
    rw [Array.getElem?_eq_getElem (by rw [Array.size_modify]; exact hlt), Array.getElem_modify_self, hk]
    rfl
  · rw [Nat.mul_one, Array.toList_setIfInBounds, List.take_set, ht]

theorem row_cell {W : World} {base : Nat} {e : TypeId} {k : IntKind} {g n cap j : Nat} {zs : List Int} (h : W.ownsRow base e 1 (.slice (some ⟨g, 0, none⟩) n cap) n (zs.map (Value.int k))) (hj : j < zs.length) : W.cell? ⟨g, j, none⟩ = some (.int k (zs[j]?.getD 0)) := by
  have := row_cells h j hj
  rwa [Nat.zero_add] at this

theorem row_keep {A B : World} {base : Nat} {e : TypeId} {size k : Nat} {g len cap : Nat} {xs : List Value} {row : Option Nat}
    (hr : A.ownsRow base e size (.slice (some ⟨g, 0, none⟩) len cap) k xs) (hg : A.grownBy B row) (hne : row ≠ some g) : B.ownsRow base e size (.slice (some ⟨g, 0, none⟩) len cap) k xs :=
  Kept.row (Kept.of_grownBy (K := fun i => i = g) hg (fun r e h => hne (by rw [e, h]))) hr rfl

end Go.Proofs.Ytjlihkllgajkkaa
