/-
  The contracts of the codes of single integers: zigzag, variable length, and what reads them.
-/
import Derived.Test.YtkfmgiacdlkmiaaProg
import Derived.Test.YtkfmgiacdlkmiaaRangeAll
import Derived.RangeFuncNested
import Derived.RangeFuncLeaves
import Derived.RangeFuncBox
import Derived.Shelf.Abstract
import Derived.Shelf.RegionOpen
import Derived.WalkKit
import Derived.ProofKit
import Derived.OwnWalk
import Derived.OwnWalkIn
import Derived.TacticsInMore
import Derived.LoopNIn
import Derived.LoopIn
import Derived.Lib.Hide
import Derived.BigFrameIn
import Derived.OpenShut
import Derived.ChangeSlices
import Derived.Lib.AppendZerosOnto
import Derived.Maps.AppendAt
import Derived.Test.YtkfmgiacdlkmiaaPkSpec
import Derived.ArgAppend
import Derived.Deep.Onto
namespace Go.Proofs.Ytkfmgiacdlkmiaa
open Go.RowKit Go.Shelf Go.ChangeShapes Go.WideShapes Go.ChangeAt

theorem ret_int {k : IntKind} {a b : Int} (h : a = b) : Ending.returned (.int k a) = .returned (.int k b) := by rw [h]
theorem ret_bool {a b : Bool} (h : a = b) : Ending.returned (.bool a) = .returned (.bool b) := by rw [h]

/-- A fence that lets every function in. -/
structure Lets (F : Fence) : Prop where
  fn : ∀ f, F.fn f
  round : F.round = none
  depth : F.depth = none

theorem lets_wide : Lets Fence.wide := ⟨fun _ => trivial, rfl, rfl⟩

theorem Kept.boxed {K : Nat → Prop} {A B : World} {b : Nat} {t : TypeId} {v : Value} (h : Kept K A B) (hb : Boxed A b t v) (hk : K b) : Boxed B b t v := (h.block b hb.lt hk).trans hb
theorem Kept.row {K : Nat → Prop} {A B : World} {base : Nat} {e : TypeId} {size k : Nat} {g len cap : Nat} {xs : List Value} (h : Kept K A B)
    (hr : A.ownsRow base e size (.slice (some ⟨g, 0, none⟩) len cap) k xs) (hk : K g) : B.ownsRow base e size (.slice (some ⟨g, 0, none⟩) len cap) k xs := by
  obtain ⟨h1, ⟨e0, _⟩ | ⟨g', cap', cur, e1, h2, h3, h4⟩⟩ := hr
  · cases e0
  · have hg : g = g' := by cases e1; rfl
    subst hg
    exact ⟨h1, .inr ⟨g, cap', cur, e1, h2, (h.block g (Array.getElem?_eq_some_iff.1 h3).1 hk).trans h3, h4⟩⟩
theorem Kept.mono' {K K' : Nat → Prop} {A B : World} (h : Kept K A B) (hk : ∀ k, k < A.heap.size → K' k → K k) : Kept K' A B := ⟨h.os, h.tape, h.output, h.size, fun i hi k => h.block i hi (hk i hi k)⟩
theorem Kept.of_below {A B : World} {n₀ : Nat} (h : Below n₀ A B) : Kept (fun b => b < n₀) A B := ⟨h.os, h.tape, h.output, h.size, fun k _ hk => h.block k hk⟩

/-- The slice value sv reads as the integers zs of kind k, in one block that K names; or it is empty, wherever it points. -/
def ReadsK (K : Nat → Prop) (W : World) (k : IntKind) (sv : Value) (zs : List Int) : Prop :=
  (∃ a cap, sv = .slice a 0 cap ∧ zs = []) ∨ ∃ b off cap, sv = .slice (some ⟨b, off, none⟩) zs.length cap ∧ K b ∧ b < W.heap.size ∧ ∀ j, j < zs.length → W.cell? ⟨b, off + j, none⟩ = some (.int k (zs[j]?.getD 0))

theorem ReadsK.kept {K : Nat → Prop} {A B : World} {k : IntKind} {sv : Value} {zs : List Int} (h : ReadsK K A k sv zs) (hk : Kept K A B) : ReadsK K B k sv zs := by
  rcases h with h | ⟨b, off, cap, e, hb, hlt, hc⟩
  · exact .inl h
  · exact .inr ⟨b, off, cap, e, hb, Nat.lt_of_lt_of_le hlt hk.size, fun j hj => (World.cell?_of_block (w := A) (hk.block b hlt hb)).trans (hc j hj)⟩
theorem ReadsK.below {K : Nat → Prop} {A B : World} {k : IntKind} {sv : Value} {zs : List Int} (h : ReadsK K A k sv zs) (hk : Below A.heap.size A B) : ReadsK K B k sv zs := by
  rcases h with h | ⟨b, off, cap, e, hb, hlt, hc⟩
  · exact .inl h
  · exact .inr ⟨b, off, cap, e, hb, Nat.lt_of_lt_of_le hlt hk.size, fun j hj => (World.cell?_of_block (w := A) (hk.block b hlt)).trans (hc j hj)⟩
theorem ReadsK.mono {K K' : Nat → Prop} {A : World} {k : IntKind} {sv : Value} {zs : List Int} (h : ReadsK K A k sv zs) (hk : ∀ b, b < A.heap.size → K b → K' b) : ReadsK K' A k sv zs := by
  rcases h with h | ⟨b, off, cap, e, hb, hlt, hc⟩
  · exact .inl h
  · exact .inr ⟨b, off, cap, e, hk b hlt hb, hlt, hc⟩

theorem one_cell (W : World) (k : IntKind) (x : Int) (t : TypeId) : ∀ j, j < 1 → (W.alloc (.cells #[.int k x] t)).cell? ⟨W.heap.size, 0 + j, none⟩ = some (.int k ([x][j]?.getD 0)) := by
  intro j hj
  obtain rfl : j = 0 := by omega
  exact (Boxed.new W t (.int k x)).cell

theorem row_lt {A : World} {base : Nat} {e : TypeId} {size k : Nat} {g len cap : Nat} {xs : List Value}
    (hr : A.ownsRow base e size (.slice (some ⟨g, 0, none⟩) len cap) k xs) : g < A.heap.size := by
  obtain ⟨h1, ⟨e0, _⟩ | ⟨g', cap', cur, e1, h2, h3, h4⟩⟩ := hr
  · cases e0
  · have hg : g = g' := by cases e1; rfl
    subst hg
    exact (Array.getElem?_eq_some_iff.1 h3).1

theorem row_base {A : World} {base : Nat} {e : TypeId} {size k : Nat} {g len cap : Nat} {xs : List Value}
    (hr : A.ownsRow base e size (.slice (some ⟨g, 0, none⟩) len cap) k xs) : base ≤ g := by
  obtain ⟨h1, ⟨e0, _⟩ | ⟨g', cap', cur, e1, h2, h3, h4⟩⟩ := hr
  · cases e0
  · have hg : g = g' := by cases e1; rfl
    subst hg
    exact h2

theorem row_cells {A : World} {base : Nat} {e : TypeId} {k : IntKind} {n g len cap : Nat} {zs : List Int}
    (hr : A.ownsRow base e 1 (.slice (some ⟨g, 0, none⟩) len cap) n (zs.map (Value.int k))) : ∀ j, j < zs.length → A.cell? ⟨g, 0 + j, none⟩ = some (.int k (zs[j]?.getD 0)) := by
  intro j hj
  obtain ⟨h1, ⟨e0, _⟩ | ⟨g', cap', cur, e1, h2, h3, h4, h5, h6, h7⟩⟩ := hr
  · cases e0
  · have hg : g = g' := by cases e1; rfl
    subst hg
    have e2 : cur.toList[j]? = some (.int k (zs[j]?.getD 0)) := by
      have e3 : (cur.toList.take (n * 1))[j]? = some (.int k (zs[j]?.getD 0)) := by
        rw [h7, List.getElem?_map, List.getElem?_eq_getElem hj]; rfl
      rw [List.getElem?_take] at e3
      split at e3
      · exact e3
      · cases e3
    rw [Array.getElem?_toList] at e2
    simp [World.cell?, h3, e2]

theorem open_reads {H : Type} {enc : TypeId × Value → H} {P : Program} {W : World} {r : Reach} {b0 : Nat} {t e : TypeId} {k : IntKind} {v : Value} {d : DataW H} {ps : List MemPlace}
    (ht : P.underlying t = some (.slice e)) (he : P.underlying e = some (.int k)) (hc : P.cellsOf e = 1) (hval : Value.okWide P W r b0 t v) (hd : DataW.Trod enc P W 0 (fun _ => true) true t v d ps) :
    ∃ a len cap zs, v = .slice a len cap ∧ len = zs.length ∧ len ≤ cap ∧ len ≤ 9223372036854775807 ∧ ReadsK (fun b => b < W.heap.size) W k (.slice a len cap) zs ∧ (∀ n ∈ zs, (Lit.int k n).wf = true) := by
  obtain ⟨a0, len, cap, rfl⟩ := okWide_slice ht hval
  obtain ⟨fuel, hf⟩ := hd
  rcases open_ints ht he hc hf with ⟨hcs, hx⟩ | ⟨a, len', cap', zs, hcs, _, hl, hm, hz, hx, hcell, hwz⟩
  · simp [Value.cells] at hcs
    obtain ⟨rfl, rfl, rfl⟩ := hcs
    exact ⟨none, 0, 0, [], rfl, rfl, Nat.le_refl _, by decide, .inl ⟨none, 0, rfl, rfl⟩, fun n hn => by cases hn⟩
  · simp [Value.cells] at hcs
    obtain ⟨rfl, rfl, rfl⟩ := hcs
    simp only [if_true] at hz
    have hm' : cap ≤ 9223372036854775807 := by unfold maxLen at hm; omega
    refine ⟨some a, len, cap, zs.take len, rfl, by simp; omega, hl, by omega, ?_, fun n hn => hwz n (List.mem_of_mem_take hn)⟩
    by_cases hl0 : len = 0
    · subst hl0; exact .inl ⟨some a, cap, rfl, by simp⟩
    · obtain ⟨b, off, spot⟩ := a
      have hspot : spot = none := by simpa [Addr.add] using World.cell?_spot (hcell 0 (by omega))
      subst hspot
      have hlen : (zs.take len).length = len := by simp; omega
      refine .inr ⟨b, off, cap, by rw [hlen], ?_, ?_, ?_⟩
      · obtain ⟨o, ho, _⟩ := cells_of_cell (hcell 0 (by omega))
        exact (Array.getElem?_eq_some_iff.1 ho).1
      · obtain ⟨o, ho, _⟩ := cells_of_cell (hcell 0 (by omega))
        exact (Array.getElem?_eq_some_iff.1 ho).1
      · intro j hj
        rw [hlen] at hj
        have := hcell j (by omega)
        rw [add_plain] at this
        rw [this, List.getElem?_take_of_lt hj, List.getD_eq_getElem?_getD]

section
variable {P : Program} (w : World)

/-- An append of an empty slice, wherever that one points. -/
theorem run_append_empty (t ty e : TypeId) (i : TypeInfo) (ht : P.underlying t = some (.slice e)) (hi : P.info? e = some i) (base : Option Addr) (n cap : Nat) (hn : n ≤ cap) (sa : Option Addr) (c : Nat) :
    (Builtin.append_ #[t, t] ty #[.slice base n cap, .slice sa 0 c]).run P w = .ok (.slice base n cap) w := by
  cases base <;> cases sa <;> simp [Builtin.append_, run_underlying ht, sizeOf, typeInfo, hi, Builtin.lenOf, Builtin.firstCells, loadCells, loadCellsFrom, storeCells, hn]

theorem row_form {W : World} {base : Nat} {e : TypeId} {size : Nat} {v : Value} {n : Nat} {xs : List Value} (h : W.ownsRow base e size v n xs) (hne : ¬ v = .slice none 0 0) :
    ∃ g cap, v = .slice (some ⟨g, 0, none⟩) n cap ∧ n ≤ cap ∧ base ≤ g := by
  rcases h.2 with ⟨rfl, _⟩ | ⟨g, cap, cur, rfl, hb, _, hn, _⟩
  · exact absurd rfl hne
  · exact ⟨g, cap, rfl, hn, hb⟩

/-- A fresh empty slice, and a slice that came in, appended to it: a copy of the call's own. -/
theorem run_append_copy (base : Nat) (t ty e : TypeId) (i : TypeInfo) (z : Value) (bytes : Nat) (k : IntKind) (ht : P.underlying t = some (.slice e)) (hi : P.info? e = some i) (hz : i.zero = some z)
    (hsize : i.size = 1) (hby : i.bytes = bytes) (hzs : z.cells.size = 1) (g0 cap0 : Nat) (hown : w.ownsRow base e 1 (.slice (some ⟨g0, 0, none⟩) 0 cap0) 0 [])
    {K : Nat → Prop} (sv : Value) (zs : List Int) (hR : ReadsK K w k sv zs) (h63 : zs.length ≤ maxLen) (hbytes : zs.length * bytes ≤ 140737488355328) (hbase : base ≤ w.heap.size) :
    ∃ g cap w', (Builtin.append_ #[t, t] ty #[.slice (some ⟨g0, 0, none⟩) 0 cap0, sv]).run P w = .ok (.slice (some ⟨g, 0, none⟩) zs.length cap) w' ∧
      w'.ownsRow base e 1 (.slice (some ⟨g, 0, none⟩) zs.length cap) zs.length (zs.map (Value.int k)) ∧ w.grownBy w' (some g0) ∧ zs.length ≤ cap ∧ base ≤ g := by
  rcases hR with ⟨a, c, rfl, rfl⟩ | ⟨b, off, c, rfl, _, _, hc⟩
  · obtain ⟨g, cap, e1, hn, hb⟩ := row_form hown (by simp)
    obtain ⟨rfl, rfl⟩ : g0 = g ∧ cap0 = cap := by cases e1; exact ⟨rfl, rfl⟩
    exact ⟨g0, cap0, w, run_append_empty w t ty e i ht hi _ 0 cap0 (Nat.zero_le _) a c, hown, ⟨rfl, rfl, rfl, Nat.le_refl _, fun _ _ _ => rfl⟩, Nat.zero_le _, hb⟩
  · obtain ⟨v', w', hr, h1, h2, h3⟩ := run_append_own (P := P) w base t ty e i z 1 bytes ht hi hz hsize hby hzs (by decide) _ 0 [] hown ⟨b, off, none⟩ zs.length c (zs.map (Value.int k)) (by simp)
      (fun j u hu => by
        rw [List.getElem?_map] at hu
        cases hj : zs[j]? with
        | none => rw [hj] at hu; cases hu
        | some x =>
          rw [hj] at hu
          have hlt := (List.getElem?_eq_some_iff.1 hj).1
          have := hc j hlt
          rw [hj] at this
          rw [add_plain, this]
          exact hu)
      (fun u hu => by obtain ⟨x, _, rfl⟩ := List.mem_map.1 hu; rfl) (by omega) (by rw [Nat.zero_add]; exact hbytes) hbase
    have hne : ¬ v' = .slice none 0 0 := fun e => by have := (h3.1 e).1; cases this
    rw [Nat.zero_add, List.nil_append] at h1
    obtain ⟨g, cap, rfl, hn, hb⟩ := row_form h1 hne
    exact ⟨g, cap, w', hr, h1, h2, hn, hb⟩

end

/-- An append whose run is known, at an operation that may be guarded. -/
theorem wpList_append_want {P : Program} (w : World) {ops : Array Oper} {rest : List Oper} {o : Oper} {a : Act} {Q : Exit → Act → World → Prop} (hw : Region.wanted o (yielded ops a.tmps) = true) (s x : Operand) (t tn : TypeId)
    (ho : o.op = .call { callee := .builtin .append, args := #[s, x], argTypes := #[t, tn] }) (vs vx : Value) (hs : a.eval s = vs) (hx : a.eval x = vx)
    (v' : Value) (w' : World) (hr : (Builtin.append_ #[t, tn] o.type #[vs, vx]).run P w = .ok v' w') (h : wpList P ops Q rest (a.put o.dst v') w') : wpList P ops Q (o :: rest) a w :=
  BigFrame.wpList_want hw fun _ hK => Lib.wp_append_run w s x t tn ho vs vx hs hx v' w' hr (hK _ _ h)

theorem run_append_copy' {P : Program} (w : World) (base : Nat) (t ty e : TypeId) (i : TypeInfo) (z : Value) (bytes : Nat) (k : IntKind) (ht : P.underlying t = some (.slice e)) (hi : P.info? e = some i) (hz : i.zero = some z)
    (hsize : i.size = 1) (hby : i.bytes = bytes) (hzs : z.cells.size = 1) (g0 cap0 : Nat) (hown : w.ownsRow base e 1 (.slice (some ⟨g0, 0, none⟩) 0 cap0) 0 [])
    {K : Nat → Prop} (sv : Value) (zs : List Int) (len : Nat) (hlen : Hid (len = zs.length)) (hR : ReadsK K w k sv zs) (h63 : len ≤ maxLen) (hbytes : len * bytes ≤ 140737488355328) (hbase : base ≤ w.heap.size) :
    ∃ g cap w', (Builtin.append_ #[t, t] ty #[.slice (some ⟨g0, 0, none⟩) 0 cap0, sv]).run P w = .ok (.slice (some ⟨g, 0, none⟩) len cap) w' ∧
      w'.ownsRow base e 1 (.slice (some ⟨g, 0, none⟩) len cap) len (zs.map (Value.int k)) ∧ w.grownBy w' (some g0) ∧ len ≤ cap ∧ base ≤ g := by
  obtain rfl : len = zs.length := hlen
  exact run_append_copy w base t ty e i z bytes k ht hi hz hsize hby hzs g0 cap0 hown sv zs hR h63 hbytes hbase

/-- One more element, behind a row of the call's own. -/
theorem run_append_one {P : Program} (w : World) (base : Nat) (t ty e : TypeId) (i : TypeInfo) (z : Value) (bytes : Nat) (k : IntKind) (ht : P.underlying t = some (.slice e)) (hi : P.info? e = some i) (hz : i.zero = some z)
    (hsize : i.size = 1) (hby : i.bytes = bytes) (hzs : z.cells.size = 1) (g n cap : Nat) (xs : List Value) (hown : w.ownsRow base e 1 (.slice (some ⟨g, 0, none⟩) n cap) n xs) (x : Int) (te : TypeId)
    (h63 : n + 1 ≤ maxLen) (hbytes : (n + 1) * bytes ≤ 140737488355328) (hbase : base ≤ w.heap.size) :
    ∃ g' cap' w', (Builtin.append_ #[t, t] ty #[.slice (some ⟨g, 0, none⟩) n cap, .slice (some ⟨w.heap.size, 0, none⟩) 1 1]).run P (w.alloc (.cells #[.int k x] te)) = .ok (.slice (some ⟨g', 0, none⟩) (n + 1) cap') w' ∧
      w'.ownsRow base e 1 (.slice (some ⟨g', 0, none⟩) (n + 1) cap') (n + 1) (xs ++ [.int k x]) ∧ (w.alloc (.cells #[.int k x] te)).grownBy w' (some g) ∧ n + 1 ≤ cap' ∧ base ≤ g' := by
  obtain ⟨v', w', hr, h1, h2, h3⟩ := run_append_own (P := P) (w.alloc (.cells #[.int k x] te)) base t ty e i z 1 bytes ht hi hz hsize hby hzs (by decide) _ n xs (hown.alloc _) ⟨w.heap.size, 0, none⟩ 1 1 [.int k x] rfl (cell_one_new _ _ _)
    (fun u hu => by rw [List.mem_singleton.1 hu]; rfl) h63 hbytes (by simp; omega)
  have hne : ¬ v' = .slice none 0 0 := fun e => by have := (h3.1 e).1; cases this
  obtain ⟨g', cap', rfl, hn, hb⟩ := row_form h1 hne
  exact ⟨g', cap', w', hr, h1, h2, hn, hb⟩

theorem row_reads {A : World} {base : Nat} {e : TypeId} {k : IntKind} {g len cap : Nat} {zs : List Int} (hl : len = zs.length)
    (hr : A.ownsRow base e 1 (.slice (some ⟨g, 0, none⟩) len cap) len (zs.map (Value.int k))) : ReadsK (fun b => b < A.heap.size) A k (.slice (some ⟨g, 0, none⟩) len cap) zs :=
  .inr ⟨g, 0, cap, by rw [hl], row_lt hr, row_lt hr, row_cells hr⟩

theorem row_block {W : World} {base : Nat} {e : TypeId} {g n cap : Nat} {xs : List Value} (h : W.ownsRow base e 1 (.slice (some ⟨g, 0, none⟩) n cap) n xs) :
    ∃ cur, W.heap[g]? = some (.cells cur e (0, 0)) ∧ n ≤ cap ∧ cap ≤ maxLen ∧ cur.size = cap ∧ cur.toList.take n = xs ∧ base ≤ g ∧ xs.length = n := by
  obtain ⟨h1, ⟨e0, _⟩ | ⟨g', cap', cur, e1, h2, h3, h4, h5, h6, h7⟩⟩ := h
  · cases e0
  · obtain ⟨rfl, rfl⟩ : g = g' ∧ cap = cap' := by cases e1; exact ⟨rfl, rfl⟩
    exact ⟨cur, h3, h4, h5, by omega, by simpa using h7, h2, by omega⟩

theorem row_unfrozen {W : World} {base : Nat} {e : TypeId} {g n cap j : Nat} {xs : List Value} (h : W.ownsRow base e 1 (.slice (some ⟨g, 0, none⟩) n cap) n xs) : W.frozen? ⟨g, j, none⟩ = false := by
  obtain ⟨cur, hg, _⟩ := row_block h
  simp [World.frozen?, hg]

theorem row_store {W : World} {base : Nat} {e : TypeId} {g n cap j : Nat} {xs : List Value} (h : W.ownsRow base e 1 (.slice (some ⟨g, 0, none⟩) n cap) n xs) (v : Value) :
    (W.setCell ⟨g, j, none⟩ v).ownsRow base e 1 (.slice (some ⟨g, 0, none⟩) n cap) n (xs.set j v) := by
  obtain ⟨cur, hg, hn, hm, hs, ht, hb, hl⟩ := row_block h
  refine ⟨by simp; omega, .inr ⟨g, cap, cur.setIfInBounds j v, rfl, hb, ?_, hn, hm, by simp; omega, ?_⟩⟩
  · obtain ⟨hlt, hk⟩ := Array.getElem?_eq_some_iff.1 hg
    show (W.heap.modify g _)[g]? = _
    rw [Array.getElem?_eq_getElem (by rw [Array.size_modify]; exact hlt), Array.getElem_modify_self, hk]
    rfl
  · rw [Nat.mul_one, Array.toList_setIfInBounds, List.take_set, ht]

theorem row_cell {W : World} {base : Nat} {e : TypeId} {k : IntKind} {g n cap j : Nat} {zs : List Int} (h : W.ownsRow base e 1 (.slice (some ⟨g, 0, none⟩) n cap) n (zs.map (Value.int k))) (hj : j < zs.length) : W.cell? ⟨g, j, none⟩ = some (.int k (zs[j]?.getD 0)) := by
  have := row_cells h j hj
  rwa [Nat.zero_add] at this

theorem row_keep {A B : World} {base : Nat} {e : TypeId} {size k : Nat} {g len cap : Nat} {xs : List Value} {row : Option Nat}
    (hr : A.ownsRow base e size (.slice (some ⟨g, 0, none⟩) len cap) k xs) (hg : A.grownBy B row) (hne : row ≠ some g) : B.ownsRow base e size (.slice (some ⟨g, 0, none⟩) len cap) k xs :=
  Kept.row (Kept.of_grownBy (K := fun i => i = g) hg (fun r e h => hne (by rw [e, h]))) hr rfl

end Go.Proofs.Ytkfmgiacdlkmiaa

namespace Go.Proofs.Ytkfmgiacdlkmiaa
open Go.RowKit Go.Shelf Go.ChangeShapes Go.WideShapes Go.ChangeAt

/-- The slice at a, of len elements and capacity cap, reads as the integers zs of kind k, in one block that K names. -/
structure Rd (K : Nat → Prop) (W : World) (k : IntKind) (a : Option Addr) (len cap : Nat) (zs : List Int) : Prop where
  hl : len = zs.length
  fit : len ≤ cap
  top : cap ≤ 9223372036854775807
  small : len ≤ 140737488351232
  cells : 0 < len → ∃ b off, a = some ⟨b, off, none⟩ ∧ K b ∧ b < W.heap.size ∧ ∀ j, j < len → W.cell? ⟨b, off + j, none⟩ = some (.int k (zs[j]?.getD 0))

theorem Rd.kept {K : Nat → Prop} {A B : World} {k : IntKind} {a : Option Addr} {len cap : Nat} {zs : List Int} (h : Rd K A k a len cap zs) (hk : Kept K A B) : Rd K B k a len cap zs :=
  ⟨h.hl, h.fit, h.top, h.small, fun h0 => by
    obtain ⟨b, off, e, hb, hlt, hc⟩ := h.cells h0
    exact ⟨b, off, e, hb, Nat.lt_of_lt_of_le hlt hk.size, fun j hj => (World.cell?_of_block (w := A) (hk.block b hlt hb)).trans (hc j hj)⟩⟩
theorem Rd.below {K : Nat → Prop} {A B : World} {k : IntKind} {a : Option Addr} {len cap : Nat} {zs : List Int} (h : Rd K A k a len cap zs) (hk : Below A.heap.size A B) : Rd K B k a len cap zs :=
  ⟨h.hl, h.fit, h.top, h.small, fun h0 => by
    obtain ⟨b, off, e, hb, hlt, hc⟩ := h.cells h0
    exact ⟨b, off, e, hb, Nat.lt_of_lt_of_le hlt hk.size, fun j hj => (World.cell?_of_block (w := A) (hk.block b hlt)).trans (hc j hj)⟩⟩
theorem Rd.mono {K K' : Nat → Prop} {A : World} {k : IntKind} {a : Option Addr} {len cap : Nat} {zs : List Int} (h : Rd K A k a len cap zs) (hk : ∀ b, b < A.heap.size → K b → K' b) : Rd K' A k a len cap zs :=
  ⟨h.hl, h.fit, h.top, h.small, fun h0 => by
    obtain ⟨b, off, e, hb, hlt, hc⟩ := h.cells h0
    exact ⟨b, off, e, hk b hlt hb, hlt, hc⟩⟩
theorem Rd.heap {K : Nat → Prop} {A B : World} {k : IntKind} {a : Option Addr} {len cap : Nat} {zs : List Int} (h : Rd K A k a len cap zs) (hk : B.heap = A.heap) : Rd K B k a len cap zs :=
  ⟨h.hl, h.fit, h.top, h.small, fun h0 => by
    obtain ⟨b, off, e, hb, hlt, hc⟩ := h.cells h0
    exact ⟨b, off, e, hb, by rw [hk]; exact hlt, fun j hj => (World.cell?_of_block (w := A) (by rw [hk])).trans (hc j hj)⟩⟩
theorem Rd.empty {K : Nat → Prop} {A : World} {k : IntKind} {a : Option Addr} : Rd K A k a 0 0 [] := ⟨rfl, Nat.le_refl _, by decide, by decide, fun h => absurd h (by decide)⟩
theorem Rd.of_row {A : World} {base : Nat} {e : TypeId} {k : IntKind} {g len cap : Nat} {zs : List Int} (hl : len = zs.length) (hf : len ≤ cap) (hm : len ≤ 140737488351232)
    (hr : A.ownsRow base e 1 (.slice (some ⟨g, 0, none⟩) len cap) len (zs.map (Value.int k))) : Rd (fun b => base ≤ b) A k (some ⟨g, 0, none⟩) len cap zs :=
  ⟨hl, hf, by obtain ⟨cur, _, _, h, _⟩ := row_block hr; unfold maxLen at h; omega, hm, fun _ => ⟨g, 0, rfl, row_base hr, row_lt hr, fun j hj => row_cells hr j (by omega)⟩⟩
theorem Rd.reads {K : Nat → Prop} {A : World} {k : IntKind} {a : Option Addr} {len cap : Nat} {zs : List Int} (h : Rd K A k a len cap zs) : ReadsK K A k (.slice a len cap) zs := by
  obtain ⟨rfl, h2, h3, _, h4⟩ := h
  by_cases h0 : 0 < zs.length
  · obtain ⟨b, off, rfl, hb, hlt, hc⟩ := h4 h0
    exact .inr ⟨b, off, cap, rfl, hb, hlt, hc⟩
  · obtain rfl : zs = [] := List.eq_nil_of_length_eq_zero (by omega)
    exact .inl ⟨a, cap, rfl, rfl⟩

/-- What a walk is told of the rest of a slice: from its k-th element on. -/
theorem Rd.rest {K : Nat → Prop} {A : World} {k : IntKind} {b off len cap : Nat} {zs : List Int} (h : Rd K A k (some ⟨b, off, none⟩) len cap zs) (m : Nat) (hm : m ≤ len) (c : Nat) (hc : len - m ≤ c) (hc2 : c ≤ cap) (a' : Option Addr) (ha : m < len → a' = some ⟨b, off + m, none⟩) :
    Rd K A k a' (len - m) c (zs.drop m) := by
  have hl := h.hl
  refine ⟨by rw [List.length_drop]; omega, hc, Nat.le_trans hc2 h.top, by have := h.small; omega, fun h0 => ?_⟩
  obtain ⟨b', off', e, hb, hlt, hcs⟩ := h.cells (by omega)
  cases e
  refine ⟨b, off + m, ha (by omega), hb, hlt, fun j hj => ?_⟩
  have := hcs (m + j) (by omega)
  rw [List.getElem?_drop, ← this, Nat.add_assoc]

/-! ### The codes of single integers -/

theorem ends_any (i : Nat) (x : Int) (hi2 : i ≤ 9) (w : World) :
    Calls Try.prog 84 #[.int .i64 i, .int .u8 x] w fun e w' => e = .returned (.bool (ends i x)) ∧ w = w' := by
  by_cases h9 : i = 9
  · subst h9
    go_enter Try.func84, Try.ntmps84
    go_wp2
    go_ret
    exact ⟨rfl, rfl⟩
  · have HE : Hid (ends i x = (((i : Int) == 0) || x != 0)) := by
      show _ = _
      unfold ends
      rw [if_neg h9]
      congr 1
      rw [Bool.eq_iff_iff]; simp
    have h9' : ((i : Int) == 9) = false := by rw [beq_eq_false_iff_ne]; omega
    clear h9
    go_enter Try.func84, Try.ntmps84
    by_cases h0 : i = 0
    · subst h0
      go_wp2
      go_ret
      exact ⟨ret_bool HE.out.symm, rfl⟩
    · have h0' : ((i : Int) == 0) = false := by rw [beq_eq_false_iff_ne]; omega
      rw [h0'] at HE
      clear h0
      go_wp2
      go_ret
      exact ⟨ret_bool HE.out.symm, rfl⟩

theorem clip_any (a : Option Addr) (len cap : Nat) (hc : len ≤ cap) (_hm : cap ≤ 9223372036854775807) (w : World) :
    Calls Try.prog 37 #[.slice a len cap] w fun e w' => e = .returned (.slice a len len) ∧ w = w' := by
  go_enter Try.func37, Try.ntmps37
  go_wp2
  go_ret
  exact ⟨rfl, rfl⟩

end Go.Proofs.Ytkfmgiacdlkmiaa
