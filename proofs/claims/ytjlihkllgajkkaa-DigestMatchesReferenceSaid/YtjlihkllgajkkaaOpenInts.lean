/-
  A slice of integers that came in, as the contracts read it; an append of an empty slice; an append of zeros.
-/
import Derived.Test.YtjlihkllgajkkaaDigEx
import Derived.OpenShut
import Derived.ChangeSlices
import Derived.Lib.AppendZerosOnto
namespace Go.Proofs.Ytjlihkllgajkkaa
open Go.RowKit Go.Shelf Go.ChangeShapes Go.WideShapes Go.ChangeAt

theorem open_reads {H : Type} {enc : TypeId × Value → H} {P : Program} {W : World} {r : Reach} {b0 : Nat} {t e : TypeId} {k : IntKind} {v : Value} {d : DataW H} {ps : List MemPlace}
    (ht : P.underlying t = some (.slice e)) (he : P.underlying e = some (.int k)) (hc : P.cellsOf e = 1) (hval : Value.okWide P W r b0 t v) (hd : DataW.Trod enc P W 0 (fun _ => true) true t v d ps) :
    ∃ a len cap zs, v = .slice a len cap ∧ len = zs.length ∧ len ≤ cap ∧ len ≤ 9223372036854775807 ∧ ReadsK (fun b => b < W.heap.size) W k (.slice a len cap) zs ∧ (∀ n ∈ zs, (Lit.int k n).wf = true) := by
  obtain ⟨a0, len, cap, rfl⟩ := okWide_slice ht hval
  obtain ⟨fuel, hf⟩ := hd
  rcases open_ints ht he hc hf with ⟨hcs, hx⟩ | ⟨a, len', cap', zs, hcs, _, hl, hm, hz, hx, hcell, hwz⟩
  · simp [Value.cells] at hcs
    obtain ⟨rfl, rfl, rfl⟩ := hcs
    exact ⟨none, 0, 0, [], rfl, rfl, Nat.le_refl _, by decide, .inl ⟨none, 0, rfl, rfl⟩, fun n hn => by cases hn⟩
  · simp [Value.cells] at hcs
    obtain ⟨rfl, rfl, rfl⟩ := hcs
    simp only [if_true] at hz
    have hm' : cap ≤ 9223372036854775807 := by unfold maxLen at hm; omega
    refine ⟨some a, len, cap, zs.take len, rfl, by simp; omega, hl, by omega, ?_, fun n hn => hwz n (List.mem_of_mem_take hn)⟩
    by_cases hl0 : len = 0
    · subst hl0; exact .inl ⟨some a, cap, rfl, by simp⟩
    · obtain ⟨b, off, spot⟩ := a
      have hspot : spot = none := by simpa [Addr.add] using World.cell?_spot (hcell 0 (by omega))
      subst hspot
      have hlen : (zs.take len).length = len := by simp; omega
      refine .inr ⟨b, off, cap, by rw [hlen], ?_, ?_, ?_⟩
      · obtain ⟨o, ho, _⟩ := cells_of_cell (hcell 0 (by omega))
        exact (Array.getElem?_eq_some_iff.1 ho).1
      · obtain ⟨o, ho, _⟩ := cells_of_cell (hcell 0 (by omega))
        exact (Array.getElem?_eq_some_iff.1 ho).1
      · intro j hj
        rw [hlen] at hj
        have := hcell j (by omega)
        rw [add_plain] at this
        rw [this, List.getElem?_take_of_lt hj, List.getD_eq_getElem?_getD]

section
variable {P : Program} (w : World)

/-- An append of an empty slice, wherever that one points. -/
theorem run_append_empty (t ty e : TypeId) (i : TypeInfo) (ht : P.underlying t = some (.slice e)) (hi : P.info? e = some i) (base : Option Addr) (n cap : Nat) (hn : n ≤ cap) (sa : Option Addr) (c : Nat) :
    (Builtin.append_ #[t, t] ty #[.slice base n cap, .slice sa 0 c]).run P w = .ok (.slice base n cap) w := by
  cases base <;> cases sa <;> simp [Builtin.append_, run_underlying ht, sizeOf, typeInfo, hi, Builtin.lenOf, Builtin.firstCells, loadCells, loadCellsFrom, storeCells, hn]

theorem zeroCells_one (z : Value) (k : Nat) : Builtin.zeroCells #[z] k = (List.replicate k z).toArray := by
  apply Array.ext
  · simp [Builtin.zeroCells]
  · intro j h1 h2
    simp [Builtin.zeroCells, Nat.mod_one]

/-- An append of zeros onto a row of the call's own, of one cell an element: in its room, or into a new row. -/
theorem run_append_zeros_own (base : Nat) (t tn ty e : TypeId) (i : TypeInfo) (z : Value) (bytes : Nat) (kq kn : IntKind) (ht : P.underlying t = some (.slice e)) (htn : P.underlying tn = some (.int kn)) (hi : P.info? e = some i) (hz : i.zero = some z)
    (hsize : i.size = 1) (hby : i.bytes = bytes) (hzc : z.cells = #[z]) (hz1 : z.oneCell' = true)
    (g n cap : Nat) (xs : List Value) (hown : w.ownsRow base e 1 (.slice (some ⟨g, 0, none⟩) n cap) n xs) (k : Nat)
    (h63 : n + k ≤ maxLen) (hbytes : (n + k) * bytes ≤ 140737488355328) (hbase : base ≤ w.heap.size) :
    ∃ g' cap' w', (Builtin.append_ #[t, tn] ty #[.slice (some ⟨g, 0, none⟩) n cap, .int kq k]).run P w = .ok (.slice (some ⟨g', 0, none⟩) (n + k) cap') w' ∧
      w'.ownsRow base e 1 (.slice (some ⟨g', 0, none⟩) (n + k) cap') (n + k) (xs ++ List.replicate k z) ∧ w.grownBy w' (some g) ∧ n + k ≤ cap' := by
  have hsmall : n + k ≤ 9223372036854775807 := by simp only [maxLen] at h63; omega
  have hlen : (xs ++ List.replicate k z).length = (n + k) * 1 := by rw [List.length_append, hown.1, List.length_replicate]; omega
  have hbk : k * bytes ≤ 140737488355328 := Nat.le_trans (Nat.mul_le_mul_right _ (by omega)) hbytes
  rcases hown.2 with ⟨h, _⟩ | ⟨g', cap', cur, h, hbg, hg, hnc, hcm, hcs, htake⟩
  · simp at h
  · simp only [Value.slice.injEq, Option.some.injEq, Addr.mk.injEq, and_true, true_and] at h
    obtain ⟨rfl, rfl⟩ := h
    have hwk : IntKind.i64.wrap (k : Int) = k := by rw [IntKind.wrap_i64]; omega
    have hneg : ¬ ((k : Int) < 0) := by omega
    have h48i : ¬ (281474976710656 < (k : Int) * (i.bytes : Int)) := by rw [← Int.natCast_mul, hby]; omega
    by_cases hroom : n + k ≤ cap
    · have hlr : (List.replicate k z).length = k := List.length_replicate
      have hfit : n + 0 + (List.replicate k z).length ≤ cur.size := by rw [hlr]; omega
      have hst := run_storeCells_at P g n e (List.replicate k z) 0 cur w hg hfit (fun u hu => by rw [List.eq_of_mem_replicate hu]; exact hz1)
      simp only [Nat.add_zero, hlr] at hst
      refine ⟨g, cap, _, ?_, ⟨hlen, .inr ⟨g, cap, _, rfl, hbg, setRow_heap w g cur (cur.toList.take n ++ List.replicate k z ++ cur.toList.drop (n + k)).toArray e _ hg, hroom, hcm, ?_, ?_⟩⟩, ⟨rfl, rfl, rfl, by simp, fun j _ hj => setRow_other w g j _ (fun e => hj (by simp [e]))⟩, hroom⟩
      · by_cases hk0 : k = 0
        · subst hk0
          have e0 : (cur.toList.take n ++ List.replicate 0 z ++ cur.toList.drop (n + 0)).toArray = cur := by simp
          rw [e0, setRow_self w g cur e (0, 0) hg]
          simp [Builtin.append_, run_underlying ht, run_underlying htn, sizeOf, typeInfo, hi, asInt, asIntOf, IntKind.wrap_i64, hnc, storeCells]
        · simp [Builtin.append_, run_underlying ht, run_underlying htn, sizeOf, typeInfo, zeroValue, hi, hz, hsize, asInt, asIntOf, hwk, hneg, h48i, hroom, hk0, hzc, zeroCells_one, Addr.add_lit, hst]
      · simp only [List.size_toArray, List.length_append, List.length_take, List.length_drop, Array.length_toList, List.length_replicate]
        omega
      · have e1 : cur.toList.take n = xs := by simpa using htake
        rw [e1, ← hlen]
        exact List.take_left
    · have hxl : xs.length = n := by simpa using hown.1
      have holds : ∀ j u, xs[j]? = some u → w.cell? ((⟨g, 0, none⟩ : Addr).add j) = some u := hown.cells (g := g) rfl
      have hfo := run_firstCells_some (P := P) w.drew i.size n ⟨g, 0, none⟩ n cap xs (by rw [hsize]; omega) (by simpa using holds)
      have hr := Lib.run_append_grow_zeros (P := P) w t tn ty e i z kq kn ht htn hi hz (some ⟨g, 0, none⟩) n cap xs hfo k (by omega) (by omega) (by omega) (by omega) (by rw [hby]; omega) (growslice_fits (by omega) (by rw [hby]; exact hbytes))
      have hge := grownCap_ge w (n + k) cap e
      have hcm2 : grownCap w (n + k) cap e ≤ maxLen := grownCap_le_maxLen w (n + k) cap e h63
      refine ⟨w.heap.size, _, _, hr, ⟨hlen, .inr ⟨w.heap.size, _, _, rfl, hbase, heap_alloc_new w.drew _, hge, hcm2, ?_, ?_⟩⟩, ⟨rfl, rfl, rfl, by simp, fun _ hj _ => heap_alloc_old w.drew _ hj⟩, hge⟩
      · simp only [Array.size_append, List.size_toArray, size_zeroCells, hzc, hxl]
        simp
        omega
      · rw [hzc, zeroCells_one]
        simp only [Array.toList_append]
        rw [← hlen]
        exact List.take_left

theorem row_form {W : World} {base : Nat} {e : TypeId} {size : Nat} {v : Value} {n : Nat} {xs : List Value} (h : W.ownsRow base e size v n xs) (hne : ¬ v = .slice none 0 0) :
    ∃ g cap, v = .slice (some ⟨g, 0, none⟩) n cap ∧ n ≤ cap ∧ base ≤ g := by
  rcases h.2 with ⟨rfl, _⟩ | ⟨g, cap, cur, rfl, hb, _, hn, _⟩
  · exact absurd rfl hne
  · exact ⟨g, cap, rfl, hn, hb⟩

/-- A fresh empty slice, and a slice that came in, appended to it: a copy of the call's own. -/
theorem run_append_copy (base : Nat) (t ty e : TypeId) (i : TypeInfo) (z : Value) (bytes : Nat) (k : IntKind) (ht : P.underlying t = some (.slice e)) (hi : P.info? e = some i) (hz : i.zero = some z)
    (hsize : i.size = 1) (hby : i.bytes = bytes) (hzs : z.cells.size = 1) (g0 cap0 : Nat) (hown : w.ownsRow base e 1 (.slice (some ⟨g0, 0, none⟩) 0 cap0) 0 [])
    {K : Nat → Prop} (sv : Value) (zs : List Int) (hR : ReadsK K w k sv zs) (h63 : zs.length ≤ maxLen) (hbytes : zs.length * bytes ≤ 140737488355328) (hbase : base ≤ w.heap.size) :
    ∃ g cap w', (Builtin.append_ #[t, t] ty #[.slice (some ⟨g0, 0, none⟩) 0 cap0, sv]).run P w = .ok (.slice (some ⟨g, 0, none⟩) zs.length cap) w' ∧
      w'.ownsRow base e 1 (.slice (some ⟨g, 0, none⟩) zs.length cap) zs.length (zs.map (Value.int k)) ∧ w.grownBy w' (some g0) ∧ zs.length ≤ cap ∧ base ≤ g := by
  rcases hR with ⟨a, c, rfl, rfl⟩ | ⟨b, off, c, rfl, _, _, hc⟩
  · obtain ⟨g, cap, e1, hn, hb⟩ := row_form hown (by simp)
    obtain ⟨rfl, rfl⟩ : g0 = g ∧ cap0 = cap := by cases e1; exact ⟨rfl, rfl⟩
    exact ⟨g0, cap0, w, run_append_empty w t ty e i ht hi _ 0 cap0 (Nat.zero_le _) a c, hown, ⟨rfl, rfl, rfl, Nat.le_refl _, fun _ _ _ => rfl⟩, Nat.zero_le _, hb⟩
  · obtain ⟨v', w', hr, h1, h2, h3⟩ := run_append_own (P := P) w base t ty e i z 1 bytes ht hi hz hsize hby hzs (by decide) _ 0 [] hown ⟨b, off, none⟩ zs.length c (zs.map (Value.int k)) (by simp)
      (fun j u hu => by
        rw [List.getElem?_map] at hu
        cases hj : zs[j]? with
        | none => rw [hj] at hu; cases hu
        | some x =>
          rw [hj] at hu
          have hlt := (List.getElem?_eq_some_iff.1 hj).1
          have := hc j hlt
          rw [hj] at this
          rw [add_plain, this]
          exact hu)
      (fun u hu => by obtain ⟨x, _, rfl⟩ := List.mem_map.1 hu; rfl) (by omega) (by rw [Nat.zero_add]; exact hbytes) hbase
    have hne : ¬ v' = .slice none 0 0 := fun e => by have := (h3.1 e).1; cases this
    rw [Nat.zero_add, List.nil_append] at h1
    obtain ⟨g, cap, rfl, hn, hb⟩ := row_form h1 hne
    exact ⟨g, cap, w', hr, h1, h2, hn, hb⟩

end

/-- An append whose run is known, at an operation that may be guarded. -/
theorem wpList_append_want {P : Program} (w : World) {ops : Array Oper} {rest : List Oper} {o : Oper} {a : Act} {Q : Exit → Act → World → Prop} (hw : Region.wanted o (yielded ops a.tmps) = true) (s x : Operand) (t tn : TypeId)
    (ho : o.op = .call { callee := .builtin .append, args := #[s, x], argTypes := #[t, tn] }) (vs vx : Value) (hs : a.eval s = vs) (hx : a.eval x = vx)
    (v' : Value) (w' : World) (hr : (Builtin.append_ #[t, tn] o.type #[vs, vx]).run P w = .ok v' w') (h : wpList P ops Q rest (a.put o.dst v') w') : wpList P ops Q (o :: rest) a w :=
  BigFrame.wpList_want hw fun _ hK => Lib.wp_append_run w s x t tn ho vs vx hs hx v' w' hr (hK _ _ h)

theorem run_append_copy' {P : Program} (w : World) (base : Nat) (t ty e : TypeId) (i : TypeInfo) (z : Value) (bytes : Nat) (k : IntKind) (ht : P.underlying t = some (.slice e)) (hi : P.info? e = some i) (hz : i.zero = some z)
    (hsize : i.size = 1) (hby : i.bytes = bytes) (hzs : z.cells.size = 1) (g0 cap0 : Nat) (hown : w.ownsRow base e 1 (.slice (some ⟨g0, 0, none⟩) 0 cap0) 0 [])
    {K : Nat → Prop} (sv : Value) (zs : List Int) (len : Nat) (hlen : Hid (len = zs.length)) (hR : ReadsK K w k sv zs) (h63 : len ≤ maxLen) (hbytes : len * bytes ≤ 140737488355328) (hbase : base ≤ w.heap.size) :
    ∃ g cap w', (Builtin.append_ #[t, t] ty #[.slice (some ⟨g0, 0, none⟩) 0 cap0, sv]).run P w = .ok (.slice (some ⟨g, 0, none⟩) len cap) w' ∧
      w'.ownsRow base e 1 (.slice (some ⟨g, 0, none⟩) len cap) len (zs.map (Value.int k)) ∧ w.grownBy w' (some g0) ∧ len ≤ cap ∧ base ≤ g := by
  obtain rfl : len = zs.length := hlen
  exact run_append_copy w base t ty e i z bytes k ht hi hz hsize hby hzs g0 cap0 hown sv zs hR h63 hbytes hbase

/-- One more element, behind a row of the call's own. -/
theorem run_append_one {P : Program} (w : World) (base : Nat) (t ty e : TypeId) (i : TypeInfo) (z : Value) (bytes : Nat) (k : IntKind) (ht : P.underlying t = some (.slice e)) (hi : P.info? e = some i) (hz : i.zero = some z)
    (hsize : i.size = 1) (hby : i.bytes = bytes) (hzs : z.cells.size = 1) (g n cap : Nat) (xs : List Value) (hown : w.ownsRow base e 1 (.slice (some ⟨g, 0, none⟩) n cap) n xs) (x : Int) (te : TypeId)
    (h63 : n + 1 ≤ maxLen) (hbytes : (n + 1) * bytes ≤ 140737488355328) (hbase : base ≤ w.heap.size) :
    ∃ g' cap' w', (Builtin.append_ #[t, t] ty #[.slice (some ⟨g, 0, none⟩) n cap, .slice (some ⟨w.heap.size, 0, none⟩) 1 1]).run P (w.alloc (.cells #[.int k x] te)) = .ok (.slice (some ⟨g', 0, none⟩) (n + 1) cap') w' ∧
      w'.ownsRow base e 1 (.slice (some ⟨g', 0, none⟩) (n + 1) cap') (n + 1) (xs ++ [.int k x]) ∧ (w.alloc (.cells #[.int k x] te)).grownBy w' (some g) ∧ n + 1 ≤ cap' ∧ base ≤ g' := by
  obtain ⟨v', w', hr, h1, h2, h3⟩ := run_append_own (P := P) (w.alloc (.cells #[.int k x] te)) base t ty e i z 1 bytes ht hi hz hsize hby hzs (by decide) _ n xs (hown.alloc _) ⟨w.heap.size, 0, none⟩ 1 1 [.int k x] rfl (cell_one_new _ _ _)
    (fun u hu => by rw [List.mem_singleton.1 hu]; rfl) h63 hbytes (by simp; omega)
  have hne : ¬ v' = .slice none 0 0 := fun e => by have := (h3.1 e).1; cases this
  obtain ⟨g', cap', rfl, hn, hb⟩ := row_form h1 hne
  exact ⟨g', cap', w', hr, h1, h2, hn, hb⟩

theorem row_reads {A : World} {base : Nat} {e : TypeId} {k : IntKind} {g len cap : Nat} {zs : List Int} (hl : len = zs.length)
    (hr : A.ownsRow base e 1 (.slice (some ⟨g, 0, none⟩) len cap) len (zs.map (Value.int k))) : ReadsK (fun b => b < A.heap.size) A k (.slice (some ⟨g, 0, none⟩) len cap) zs :=
  .inr ⟨g, 0, cap, by rw [hl], row_lt hr, row_lt hr, row_cells hr⟩

end Go.Proofs.Ytjlihkllgajkkaa
