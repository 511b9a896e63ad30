/-
  Bits into bytes: the contract of what gathers them, whatever the iterator is.
-/
import Derived.Test.YtkfmgiacdlkmiaaPkIter
import Derived.Test.YtkfmgiacdlkmiaaPkBits
import Derived.Test.YtkfmgiacdlkmiaaRoundStill
namespace Go.Proofs.Ytkfmgiacdlkmiaa
open Go.RowKit Go.Shelf Go.ChangeShapes Go.WideShapes Go.ChangeAt
attribute [local go_sem] Oper.semAt_some

theorem grownBy_set (W : World) (p : Addr) (v : Value) : W.grownBy (W.setCell p v) (some p.block) :=
  ⟨rfl, rfl, rfl, (KeepsWalks.setCell W _ v).size, fun k _ hk => Below.heap_setCell _ _ _ k (fun e => hk (by rw [e]))⟩

theorem madeCells_one (k : IntKind) (z : Int) (n : Nat) : madeCells (Value.int k z).cells n = (List.replicate n (Value.int k z)).toArray := by
  apply Array.ext
  · simp [madeCells]
  · intro j h1 h2
    simp [madeCells, Value.cells, Nat.mod_one]

/-- Between two bits: k of them are in. -/
def gatherI (w : World) (bl : List Int) (size : Nat) (k : Nat) (W : World) : Prop :=
  Boxed W (w.heap.size + 1) 23 (.slice (some ⟨w.heap.size, 0, none⟩) size size) ∧ Boxed W (w.heap.size + 2) 3 (.int .i64 k) ∧
    W.ownsRow w.heap.size 5 1 (.slice (some ⟨w.heap.size, 0, none⟩) size size) size ((gB bl k size).map (Value.int .u8)) ∧ Below w.heap.size w W

theorem gatherI_kept {w W W' : World} {bl : List Int} {size k : Nat} (hi : gatherI w bl size k W) (hk : Kept (fun b => b < w.heap.size + 3) W W') : gatherI w bl size k W' := by
  obtain ⟨h1, h2, h3, h4⟩ := hi
  exact ⟨hk.boxed h1 (by omega), hk.boxed h2 (by omega), hk.row h3 (by omega), h4.trans ⟨hk.os, hk.tape, hk.output, hk.size, fun i hi => hk.block i (by have := h4.size; omega) (by omega)⟩⟩

theorem gatherI_own {w : World} {bl : List Int} {size : Nat} : OwnFrom (w.heap.size + 3) (gatherI w bl size) :=
  fun k W W' row hi hg hr => gatherI_kept hi (Kept.of_grownBy hg (fun r e hlt => by have := (hr r e).1; omega))

set_option maxRecDepth 100000 in
set_option maxHeartbeats 4000000 in
theorem gather_in (n : Nat) (hn : 4 ≤ n) (gf : Nat) (lb : Array Value) (eg : ∀ args w, (callFunc gf args).run Try.prog w = .ok (.enter gf args) w)
    (bl : List Int) (hbl : Bin bl) (size : Nat) (hs : bl.length ≤ 8 * size) (hmax : size ≤ 140737488351232) (w : World) (hbig : bl.length ≤ 1152921504606846976)
    (hseq : ∀ w', Below w.heap.size w w' → Gives Fence.wide (n - 1) Try.prog gf lb (fun x : Int => #[Value.int .u64 x]) (fun b => b < w.heap.size) bl w') :
    CallsIn Fence.wide n Try.prog 42 #[.func (.func gf) #[] lb, .int .i64 size] w fun e W' =>
      e = .returned (.slice (some ⟨w.heap.size, 0, none⟩) size size) ∧ W'.ownsRow w.heap.size 5 1 (.slice (some ⟨w.heap.size, 0, none⟩) size size) size ((gatherS bl size).map (Value.int .u8)) ∧ Below w.heap.size w W' := by
  have hro : Fence.wide.round = none := rfl
  have h1 : 1 ≤ n := by omega
  obtain ⟨i0, hi, hz0, hz1, hz2⟩ := info_parts Try.infoB
  refine callsIn_of_wp_marks Try.func42 rfl trivial ?_ rfl
  simp only [Try.ntmps42, List.size_toArray, List.length_cons, List.length_nil, Nat.reduceAdd, Nat.reduceSub, Array.replicate_succ, Array.replicate_zero, List.push_toArray, List.append_toArray, List.nil_append, List.cons_append]
  have hmk : (Instr.makeSlice 23 (.int .i64 size) (.int .i64 size)).run Try.prog w = .ok (.slice (some ⟨w.heap.size, 0, none⟩) size size) (w.alloc (.cells (madeCells (Value.int .u8 0).cells (size * 1)) 5)) := by
    have := run_make (P := Try.prog) w 23 5 i0 _ Try.underlying23 hi hz0 .i64 .i64 size size (by omega) (by omega) (by rw [hz2]; omega) (by omega)
    rw [hz1] at this
    exact this
  have hrow : (w.alloc (.cells (madeCells (Value.int .u8 0).cells (size * 1)) 5)).ownsRow w.heap.size 5 1 (.slice (some ⟨w.heap.size, 0, none⟩) size size) size ((gB bl 0 size).map (Value.int .u8)) := by
    refine ⟨by rw [List.length_map, gB_length]; omega, .inr ⟨w.heap.size, size, _, rfl, Nat.le_refl _, World.alloc_heap_new w _, Nat.le_refl _, by unfold maxLen; omega, size_madeCells _ _, ?_⟩⟩
    rw [gB_zero, List.map_replicate, madeCells_one]
    simp
  generalize madeCells (Value.int .u8 0).cells (size * 1) = mc at *
  have HROW := Lib.hid hrow
  clear hrow
  gi_wp2
  clear hmk
  have bB := (Boxed.new (w.alloc (.cells mc 5)) 23 (.slice (some ⟨w.heap.size, 0, none⟩) size size)).alloc (.cells #[.int .i64 0] 3)
  have bI := Boxed.new ((w.alloc (.cells mc 5)).alloc (.cells #[.slice (some ⟨w.heap.size, 0, none⟩) size size] 23)) 3 (.int .i64 0)
  have hrow := (HROW.out.alloc (.cells #[.slice (some ⟨w.heap.size, 0, none⟩) size size] 23)).alloc (.cells #[.int .i64 0] 3)
  simp only [World.size_alloc] at bB bI
  have hW0 : Below w.heap.size w (((w.alloc (.cells mc 5)).alloc (.cells #[.slice (some ⟨w.heap.size, 0, none⟩) size size] 23)).alloc (.cells #[.int .i64 0] 3)) := (((Below.refl _ w).alloc (Nat.le_refl _) _).alloc (by simp) _).alloc (by simp; omega) _
  have hsz : (((w.alloc (.cells mc 5)).alloc (.cells #[.slice (some ⟨w.heap.size, 0, none⟩) size size] 23)).alloc (.cells #[.int .i64 0] 3)).heap.size = w.heap.size + 3 := by simp
  have hI0 : gatherI w bl size 0 (((w.alloc (.cells mc 5)).alloc (.cells #[.slice (some ⟨w.heap.size, 0, none⟩) size size] 23)).alloc (.cells #[.int .i64 0] 3)) := ⟨bB, bI, hrow, hW0⟩
  have hG := (hseq _ hW0).all
  generalize hW0' : ((w.alloc (.cells mc 5)).alloc (.cells #[.slice (some ⟨w.heap.size, 0, none⟩) size size] 23)).alloc (.cells #[.int .i64 0] 3) = W0 at *
  clear hW0' bB bI hrow HROW hseq
  refine wpIn_rangeAll hro h1 (gf := gf) (lb := lb) rfl trivial eg hG (fun _ => rfl) (gatherI w bl size) (by rw [hsz]; exact gatherI_own) hI0
    (fun x => { tmps := #[.func (.func gf) #[] lb, .int .i64 size, undef, undef, .slice none 0 0, .pointer (some ⟨w.heap.size + 1, 0, none⟩), .pointer (some ⟨w.heap.size + 2, 0, none⟩), .int .u64 x, .int .i64 size,
      .slice (some ⟨w.heap.size, 0, none⟩) size size, .func (.func gf) #[] lb, .int .u64 x, undef, undef, undef, undef, undef, undef, undef, undef, undef, undef, undef, undef, undef, undef, undef], defers := [] }) ?assign ?body ?done
  case assign =>
    intro l x W R hR
    gi_wp2
    exact hR
  case body =>
    rintro l k x W hx ⟨hB, hI, hR, hWW⟩ hWz
    rw [hsz] at hWz
    have hkl : k < bl.length := (List.getElem?_eq_some_iff.1 hx).1
    have hxk : bl[k]?.getD 0 = x := by rw [hx]; rfl
    have hx01 : x = 0 ∨ x = 1 := hbl x (List.mem_of_getElem? hx)
    have hlt := gB_lt bl hbl k size hkl hs
    have hor := or_u8 _ x (k % 8) (Nat.mod_lt _ (by decide)) hlt hx01
    have HST := Lib.hid (gB_step bl k size hkl hs)
    have hj : k / 8 < size := by omega
    have hcB := hB.cell
    have hcI := hI.cell
    have hfI := hI.frozen
    have hcR : W.cell? ⟨w.heap.size, 0 + k / 8, none⟩ = some (.int .u8 ((gB bl k size)[k / 8]?.getD 0)) := row_cells hR (k / 8) (by rw [gB_length]; exact hj)
    rw [Nat.zero_add] at hcR
    have hfR := row_unfrozen (j := k / 8) hR
    have HHR := Lib.hid hR
    have HB := Lib.hid hB
    have HI := Lib.hid hI
    rw [hxk] at HST
    have hkb : k < 1152921504606846976 := Nat.lt_of_lt_of_le hkl hbig
    have hw8 : IntKind.i64.wrap ((k : Int) / 8) = ((k / 8 : Nat) : Int) := by rw [IntKind.wrap_i64]; omega
    have hm8 : (k : Int).tmod 8 = ((k % 8 : Nat) : Int) := by rw [Int.tmod_eq_emod_of_nonneg (by omega)]; omega
    have hwm : IntKind.i64.wrap ((k % 8 : Nat) : Int) = ((k % 8 : Nat) : Int) := by rw [IntKind.wrap_i64]; omega
    have hm8' : k % 8 < 8 := Nat.mod_lt _ (by decide)
    have hw1 : IntKind.i64.wrap ((k : Int) + 1) = ((k + 1 : Nat) : Int) := by rw [IntKind.wrap_i64]; omega
    generalize (gB bl k size)[k / 8]?.getD 0 = y at *
    clear hR hB hI hx hxk hlt hkl
    generalize k / 8 = j at *
    generalize k % 8 = m at *
    have h1' : 1 ≤ n - 1 - 1 := by omega
    have hxw : IntKind.u8.wrap x = x := by rcases hx01 with rfl | rfl <;> rfl
    clear hx01
    gi_wp2
    refine wpIn_region_still_tail_round 12 (by kernel_rfl) (by kernel_rfl) (by kernel_rfl) (by rintro ⟨_, _, h⟩; exact h) ?_
    simp only [List.take_succ_cons, List.take_zero, List.drop_succ_cons, List.drop_zero]
    repeat still_step
    try refine wpStill_nil ?_
    change wpList _ _ _ _ _ W.drew
    clear hor hw8 hm8 hwm hm8' hxw
    go_wp2
    gi_wp2
    have hk : ∀ K : Nat → Prop, ¬ K w.heap.size → ¬ K (w.heap.size + 2) → Kept K W (((W.setCell ⟨w.heap.size, j, none⟩ (.int .u8 (y + x * 2 ^ m))).setCell ⟨w.heap.size + 2, 0, none⟩ (.int .i64 ((k : Int) + 1))).drew) := fun K h1 h2 =>
      ((Kept.of_grownBy (grownBy_set W _ _) (fun r e => by cases e; exact h1)).trans (Kept.of_grownBy (grownBy_set _ _ _) (fun r e => by cases e; exact h2))).drew
    refine ⟨hk _ (by omega) (by omega), (hk (fun b => b = w.heap.size + 1) (by simp) (by simp)).boxed HB.out rfl, ?_, ?_, ?_⟩
    · have h1 : Boxed (W.setCell ⟨w.heap.size, j, none⟩ (.int .u8 (y + x * 2 ^ m))) (w.heap.size + 2) 3 (.int .i64 k) := (Kept.of_grownBy (K := fun b => b = w.heap.size + 2) (grownBy_set W _ _) (fun r e => by cases e; simp)).boxed HI.out rfl
      exact (Kept.refl (fun _ => True) _).drew.boxed (h1.set _) trivial
    · have h1 := row_store (j := j) HHR.out (.int .u8 (y + x * 2 ^ m))
      rw [← List.map_set, ← HST.out] at h1
      exact ((Kept.of_grownBy (K := fun b => b = w.heap.size) (grownBy_set _ ⟨w.heap.size + 2, 0, none⟩ (.int .i64 ((k : Int) + 1))) (fun r e => by cases e; simp)).drew).row h1 rfl
    · exact ((hWW.setCell (p := ⟨w.heap.size, j, none⟩) (Nat.le_refl _) _).setCell (p := ⟨w.heap.size + 2, 0, none⟩) (by simp) _).drew
  case done =>
    rintro D W hD hWz ⟨hB, hI, hR, hWW⟩ hDx
    rw [hsz] at hWz hD
    have hcB := hB.cell
    gi_wp2
    refine ⟨by simp, .inl ⟨_, _, rfl, run_takeDeferred hDx, ?_⟩⟩
    refine ⟨_, by simp [results, Try.results42, go_sem], rfl, ?_, ?_⟩
    · exact (Kept.of_grownBy (K := fun b => b = w.heap.size) (grownBy_putObj' _ _ _) (fun r e => by cases e; omega)).row hR rfl
    · exact hWW.grown (grownBy_putObj' _ _ _) hWW.size (fun r e => by cases e; omega)

end Go.Proofs.Ytkfmgiacdlkmiaa
