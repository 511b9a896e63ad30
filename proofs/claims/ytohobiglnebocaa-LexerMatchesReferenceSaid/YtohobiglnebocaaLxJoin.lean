/-
  Tokens are joined.
-/
import Derived.Test.YtohobiglnebocaaLxLine
namespace Go.Proofs.Ytohobiglnebocaa.Lx
open Go Go.RowKit Go.Shelf Go.Sort Go.ChangeShapes Go.WideShapes Go.ChangeAt
open Go.Proofs.Ytohobiglnebocaa

def spellsS (ts : List Tk) : List (List UInt8) := (ts.filter fun t => vld t.k t.s).map fun t => spl t.k t.s
def joinS (ts : List Tk) : List UInt8 := Lib.join (spellsS ts) [32]
theorem spells_append (a b : List Tk) : spellsS (a ++ b) = spellsS a ++ spellsS b := by unfold spellsS; rw [List.filter_append, List.map_append]
theorem spells_yes {t : Tk} (h : vld t.k t.s = true) : spellsS [t] = [spl t.k t.s] := by unfold spellsS; rw [List.filter_cons, if_pos h]; rfl
theorem spells_no {t : Tk} (h : vld t.k t.s = false) : spellsS [t] = [] := by unfold spellsS; rw [List.filter_cons, if_neg (by rw [h]; decide)]; rfl
theorem vld_len {k : Int} {s : List UInt8} (h : vld k s = true) : s.length ≤ 40 := by
  unfold vld at h
  split at h
  · unfold wordB at h; simp at h; omega
  · split at h
    · unfold numB at h; simp at h; omega
    · split at h
      · unfold txtB at h; simp at h; omega
      · split at h
        · have hm : s ∈ signs := of_decide_eq_true h
          simp only [signs, List.mem_cons, List.not_mem_nil, or_false] at hm
          rcases hm with rfl | rfl | rfl | rfl | rfl | rfl | rfl | rfl | rfl | rfl | rfl | rfl <;> decide
        · cases h
theorem spl_len (k : Int) (s : List UInt8) : (spl k s).length ≤ 82 := by
  unfold spl
  cases h : vld k s
  · rw [if_pos rfl]; exact Nat.zero_le _
  · rw [if_neg (by decide)]
    have := vld_len h
    have h2 := esc_len s
    split
    · simp; omega
    · omega
theorem join_len : ∀ (l : List (List UInt8)) (_ : ∀ x ∈ l, x.length ≤ 82), (Lib.join l [32]).length ≤ 83 * l.length
  | [], _ => by unfold Lib.join; simp
  | [x], h => by have := h x (by simp); unfold Lib.join; simp; omega
  | x :: y :: r, h => by
    have h1 := h x (by simp)
    have h2 := join_len (y :: r) (fun z hz => h z (List.mem_cons_of_mem _ hz))
    have e : Lib.join (x :: y :: r) [32] = x ++ [32] ++ Lib.join (y :: r) [32] := by unfold Lib.join; simp [List.intercalate, List.intersperse]
    rw [e, List.length_append, List.length_append]
    simp at h2 ⊢; omega
theorem spells_len (ts : List Tk) : (spellsS ts).length ≤ ts.length ∧ ∀ x ∈ spellsS ts, x.length ≤ 82 := by
  unfold spellsS
  refine ⟨by rw [List.length_map]; exact List.length_filter_le _ _, fun x hx => ?_⟩
  obtain ⟨t, _, rfl⟩ := List.mem_map.1 hx
  exact spl_len _ _
theorem joinS_len (ts : List Tk) : (joinS ts).length ≤ 83 * ts.length := by
  have h := spells_len ts
  have := join_len (spellsS ts) h.2
  unfold joinS; omega

theorem Try.infoS10 : (Try.prog.info? 9).map (fun i => (i.zero, i.size, i.bytes)) = some (some (.string ⟨#[]⟩), 1, 16) := by kernel_rfl
theorem info_S10 : ∃ i, Try.prog.info? 9 = some i ∧ i.zero = some (.string ⟨#[]⟩) ∧ i.size = 1 ∧ i.bytes = 16 := by
  have h := Try.infoS10
  cases hi : Try.prog.info? 9 with
  | none => rw [hi] at h; cases h
  | some i =>
    rw [hi] at h
    simp at h
    exact ⟨i, rfl, h.1, h.2.1, h.2.2⟩
def cellsS (l : List (List UInt8)) : List Value := l.map fun s => .string (bsOf s)
/-- One more string, behind a row of the call's own. -/
theorem append_str {P : Program} (w : World) (base : Nat) (t ty e te : TypeId) (i : TypeInfo) (z : Value) (ht : P.underlying t = some (.slice e)) (hi : P.info? e = some i) (hz : i.zero = some z)
    (hsize : i.size = 1) (hby : i.bytes = 16) (hzs : z.cells.size = 1) (v : Value) (n : Nat) (l : List (List UInt8)) (hown : w.ownsRow base e 1 v n (cellsS l)) (u : List UInt8) (hn : n ≤ 1000000) (hbase : base ≤ w.heap.size) :
    ∃ v' w', (Builtin.append_ #[t, t] ty #[v, .slice (some ⟨w.heap.size, 0, none⟩) 1 1]).run P (w.alloc (.cells #[.string (bsOf u)] te)) = .ok v' w' ∧
      w'.ownsRow base e 1 v' (n + 1) (cellsS (l ++ [u])) ∧ Below base w w' := by
  have hb1 : base ≤ (w.alloc (.cells #[.string (bsOf u)] te)).heap.size := by simp; omega
  have hbb : Below base w (w.alloc (.cells #[.string (bsOf u)] te)) := (Below.refl base w).alloc hbase _
  obtain ⟨v', w', hr, h1, h2, _⟩ := run_append_own (P := P) (w.alloc (.cells #[.string (bsOf u)] te)) base t ty e i z 1 16 ht hi hz hsize hby hzs (by decide) v n (cellsS l) (hown.alloc _) ⟨w.heap.size, 0, none⟩ 1 1 (cellsS [u]) rfl
    (fun j x hx => by
      have h0 := World.alloc_heap_new w (.cells #[.string (bsOf u)] te)
      rw [add_plain]
      have : (#[.string (bsOf u)] : Array Value)[0 + j]? = some x := by rw [Nat.zero_add]; simpa [cellsS] using hx
      simp only [World.cell?, h0]
      exact this)
    (fun x hx => by
      have : x = .string (bsOf u) := by simpa [cellsS] using hx
      rw [this]; rfl) (by unfold maxLen; omega) (by omega) hb1
  have e2 : cellsS l ++ cellsS [u] = cellsS (l ++ [u]) := by unfold cellsS; simp
  rw [e2] at h1
  exact ⟨v', w', hr, h1, hbb.grown h2 hb1 (fun r e => own_base hown r e)⟩
theorem stringsJoin_any {w : World} {base : Nat} {v : Value} {l : List (List UInt8)} (h : w.ownsRow base 9 1 v l.length (cellsS l)) (h82 : ∀ x ∈ l, x.length ≤ 82) (hl : l.length ≤ 1000000) :
    Calls Try.prog 46 #[v, .string ⟨#[32]⟩] w fun e w' => e = .returned (.string (bsOf (Lib.join l [32]))) ∧ Below w.heap.size w w' := by
  rcases h.2 with ⟨rfl, h0⟩ | ⟨g, cap, cur, rfl, hb, hg, hc, hm, hcs, ht⟩
  · obtain rfl : l = [] := List.eq_nil_of_length_eq_zero h0
    exact (Try.strings_Join_none none 0 ⟨#[32]⟩ w).mono fun e w' ⟨he, hw⟩ => ⟨he, hw ▸ Below.refl _ _⟩
  · have hj := Try.strings_Join g 0 cap (l.map bsOf) ⟨#[32]⟩ w (fun j x hx => ?_) (Array.getElem?_eq_some_iff.1 hg).1 (by rw [List.length_map]; omega) (by rw [List.length_map]; omega) ?_
    · rw [List.length_map, List.map_map] at hj
      have e : (ByteArray.data · |>.toList) ∘ bsOf = (id : List UInt8 → List UInt8) := by funext s; exact bs_data s
      have e2 : l.map ((fun x : ByteArray => x.data.toList) ∘ bsOf) = l := by
        conv => rhs; rw [← List.map_id l]
        exact List.map_congr_left fun s _ => bs_data s
      rw [e2] at hj
      exact hj
    · have h3 : (cellsS l)[j]? = some (.string x) := by
        unfold cellsS
        rw [List.getElem?_map] at hx ⊢
        cases hlj : l[j]? with
        | none => rw [hlj] at hx; cases hx
        | some s => rw [hlj] at hx; cases hx; rfl
      rw [← ht, List.getElem?_take] at h3
      split at h3
      · rw [Array.getElem?_toList] at h3
        simp [World.cell?, hg, h3]
      · cases h3
    · rw [List.map_map]
      have e2 : l.map ((fun x : ByteArray => x.data.toList) ∘ bsOf) = l := by
        conv => rhs; rw [← List.map_id l]
        exact List.map_congr_left fun s _ => bs_data s
      rw [e2]
      have := join_len l h82
      show (Lib.join l [32]).length ≤ _
      omega

end Go.Proofs.Ytohobiglnebocaa.Lx
