/-
  A list of strings, appended to a row of the call's own.
-/
import Derived.Test.YtdcapmbgnoahpaaDcStrings
import Derived.Test.YtdcapmbgnoahpaaDcPack
namespace Go.Proofs.Ytdcapmbgnoahpaa
open Go Go.RowKit Go.Shelf Go.Sort Go.ChangeShapes Go.WideShapes Go.ChangeAt

theorem own5_none (W : World) (t : TypeId) (base : Nat) (hb : base ≤ W.heap.size) : (W.alloc (.cells #[] t)).ownsRow base t 1 (.slice (some ⟨W.heap.size, 0, none⟩) 0 0) 0 [] :=
  ⟨rfl, .inr ⟨W.heap.size, 0, #[], rfl, hb, World.alloc_heap_new W _, Nat.le_refl _, by unfold maxLen; omega, rfl, rfl⟩⟩

theorem reads_cellsS {w : World} {b off : Nat} {ss : List (List UInt8)} (hc : ∀ j, j < ss.length → w.cell? ⟨b, off + j, none⟩ = some (.string (bsOf (ss[j]?.getD [])))) : ∀ j u, (ss.map encStr)[j]? = some u → w.cell? ((⟨b, off, none⟩ : Addr).add j) = some u := by
  intro j u hu
  rw [List.getElem?_map] at hu
  cases hj : ss[j]? with
  | none => rw [hj] at hu; cases hu
  | some x =>
    rw [hj] at hu
    have hlt := (List.getElem?_eq_some_iff.1 hj).1
    have := hc j hlt
    rw [hj] at this
    rw [add_plain, this]
    exact hu

/-- A row of the call's own, and a list of strings, appended to it. -/
theorem run_append_strs {P : Program} (w : World) (base : Nat) (t ty e : TypeId) (i : TypeInfo) (z : Value) (ht : P.underlying t = some (.slice e)) (hi : P.info? e = some i) (hz : i.zero = some z)
    (hsize : i.size = 1) (hby : i.bytes = 16) (hzs : z.cells.size = 1) (g0 n cap0 : Nat) (xs : List Value) (hown : w.ownsRow base e 1 (.slice (some ⟨g0, 0, none⟩) n cap0) n xs)
    {K : Nat → Prop} (a : Option Addr) (len cp : Nat) (ss : List (List UInt8)) (hR : RdS K w a len cp ss) (hn : n + len ≤ 8796093021952) (hbase : base ≤ w.heap.size) :
    ∃ g cap w', (Builtin.append_ #[t, t] ty #[.slice (some ⟨g0, 0, none⟩) n cap0, .slice a len cp]).run P w = .ok (.slice (some ⟨g, 0, none⟩) (n + len) cap) w' ∧
      w'.ownsRow base e 1 (.slice (some ⟨g, 0, none⟩) (n + len) cap) (n + len) (xs ++ ss.map encStr) ∧ w.grownBy w' (some g0) ∧ n + len ≤ cap ∧ base ≤ g := by
  have hl := hR.hl
  by_cases h0 : 0 < len
  · obtain ⟨b, off, rfl, _, _, hc⟩ := hR.cells h0
    subst hl
    obtain ⟨v', w', hr, h1, h2, h3⟩ := run_append_own (P := P) w base t ty e i z 1 16 ht hi hz hsize hby hzs (by decide) _ n xs hown ⟨b, off, none⟩ ss.length cp (ss.map encStr) (by simp)
      (reads_cellsS hc)
      (fun u hu => by obtain ⟨x, _, rfl⟩ := List.mem_map.1 hu; rfl) (by unfold maxLen; omega) (by omega) hbase
    have hne : ¬ v' = .slice none 0 0 := fun e => by have := (h3.1 e).2; omega
    obtain ⟨g, cap, rfl, hn, hb⟩ := row_form h1 hne
    exact ⟨g, cap, w', hr, h1, h2, hn, hb⟩
  · obtain rfl : len = 0 := by omega
    obtain rfl : ss = [] := List.eq_nil_of_length_eq_zero hl.symm
    obtain ⟨g, cap, e1, hn, hb⟩ := row_form hown (by simp)
    obtain ⟨rfl, rfl⟩ : g0 = g ∧ cap0 = cap := by cases e1; exact ⟨rfl, rfl⟩
    exact ⟨g0, cap0, w, run_append_empty w t ty e i ht hi _ n cap0 hn a cp, by simpa using hown, ⟨rfl, rfl, rfl, Nat.le_refl _, fun _ _ _ => rfl⟩, hn, hb⟩

end Go.Proofs.Ytdcapmbgnoahpaa
