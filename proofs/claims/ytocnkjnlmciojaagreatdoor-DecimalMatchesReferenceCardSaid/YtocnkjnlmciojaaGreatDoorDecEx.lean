/-
  The law's own helpers, and the fixed examples.
-/
import Derived.Test.YtocnkjnlmciojaaGreatDoorDecSum
import Derived.Test.YtocnkjnlmciojaaGreatDoorDecTrunc
namespace Go.Proofs.YtocnkjnlmciojaaGreatDoor.De
open Go.RowKit Go.Shelf

/-- A result, as the laws hold it. -/
def resV (r : Int × Int) : Value := .agg #[.int .i64 r.1, .int .i64 r.2]

theorem parsed_any (s : ByteArray) (k : Int) (hk : I64 k) (hs : s.size < 4294967281) (w : World) (hV : Vars w) :
    Calls Tryz.prog 20 #[.string s, .int .i64 k] w fun e w' => e = .returned (.agg #[.int .i64 (parseS s.data.toList k).1, .int .i64 (parseS s.data.toList k).2]) ∧ Below w.heap.size w w' := by
  have hb0 := (Below.refl w.heap.size w).alloc (Nat.le_refl _) (.cells #[.int .i64 0, .int .i64 0] 30)
  have HP := Lib.hid (parse_any s k hk hs _ (hV.below hb0))
  generalize parseS s.data.toList k = r at HP ⊢
  obtain ⟨r1, r2⟩ := r
  go_enter Tryz.func20, Tryz.ntmps20
  go_wp2_with (go_at_call 71; ((with_reducible refine HP.out.mono ?_); rintro e w1 ⟨rfl, hb1⟩; have hb2 := hb0.trans (hb1.mono hb0.size); have hz1 : w.heap.size < w1.heap.size := Nat.lt_of_lt_of_le (by simp) hb1.size; have hbk := (hb1.block w.heap.size (by simp)).trans (World.alloc_heap_new w _); have d0 := Joins.cell_of_block hbk 0; have d1 := Joins.cell_of_block hbk 1; have g0 := Joins.unfrozen_of_block hbk 0; have g1 := Joins.unfrozen_of_block hbk 1; simp only [List.getElem?_toArray, List.getElem?_cons_zero] at d0; simp only [List.getElem?_toArray, List.getElem?_cons_zero, List.getElem?_cons_succ] at d1))
  exact bodyPost_ret (v := .agg #[.int .i64 r1, .int .i64 r2]) (by simp [results, Tryz.results20, go_sem, d0, d1]) rfl ⟨rfl, (hb2.setCell (Nat.le_refl _) _).setCell (Nat.le_refl _) _⟩

theorem added_any (a b : Int) (ha : I64 a) (hb : I64 b) (w : World) :
    Calls Tryz.prog 6 #[.int .i64 a, .int .i64 b] w fun e w' => e = .returned (.agg #[.int .i64 (addS a b).1, .int .i64 (addS a b).2]) ∧ Below w.heap.size w w' := by
  have hb0 := (Below.refl w.heap.size w).alloc (Nat.le_refl _) (.cells #[.int .i64 0, .int .i64 0] 30)
  have HP := Lib.hid ((show Calls Tryz.prog 56 #[.int .i64 a, .int .i64 b] (w.alloc (.cells #[.int .i64 0, .int .i64 0] 30)) (fun e w' => e = .returned (.tuple #[.int .i64 (addS a b).1, .int .i64 (addS a b).2]) ∧ Below (w.alloc (.cells #[.int .i64 0, .int .i64 0] 30)).heap.size (w.alloc (.cells #[.int .i64 0, .int .i64 0] 30)) w') from (add_any a b ha hb _).mono fun _ _ ⟨he, hw⟩ => ⟨he, by rw [← hw]; exact Below.refl _ _⟩))
  generalize addS a b = r at HP ⊢
  obtain ⟨r1, r2⟩ := r
  go_enter Tryz.func6, Tryz.ntmps6
  go_wp2_with (go_at_call 56; ((with_reducible refine HP.out.mono ?_); rintro e w1 ⟨rfl, hb1⟩; have hb2 := hb0.trans (hb1.mono hb0.size); have hz1 : w.heap.size < w1.heap.size := Nat.lt_of_lt_of_le (by simp) hb1.size; have hbk := (hb1.block w.heap.size (by simp)).trans (World.alloc_heap_new w _); have d0 := Joins.cell_of_block hbk 0; have d1 := Joins.cell_of_block hbk 1; have g0 := Joins.unfrozen_of_block hbk 0; have g1 := Joins.unfrozen_of_block hbk 1; simp only [List.getElem?_toArray, List.getElem?_cons_zero] at d0; simp only [List.getElem?_toArray, List.getElem?_cons_zero, List.getElem?_cons_succ] at d1))
  exact bodyPost_ret (v := .agg #[.int .i64 r1, .int .i64 r2]) (by simp [results, Tryz.results6, go_sem, d0, d1]) rfl ⟨rfl, (hb2.setCell (Nat.le_refl _) _).setCell (Nat.le_refl _) _⟩

theorem less_any (a b : Int) (ha : I64 a) (hb : I64 b) (w : World) :
    Calls Tryz.prog 8 #[.int .i64 a, .int .i64 b] w fun e w' => e = .returned (.agg #[.int .i64 (subS a b).1, .int .i64 (subS a b).2]) ∧ Below w.heap.size w w' := by
  have hb0 := (Below.refl w.heap.size w).alloc (Nat.le_refl _) (.cells #[.int .i64 0, .int .i64 0] 30)
  have HP := Lib.hid ((show Calls Tryz.prog 58 #[.int .i64 a, .int .i64 b] (w.alloc (.cells #[.int .i64 0, .int .i64 0] 30)) (fun e w' => e = .returned (.tuple #[.int .i64 (subS a b).1, .int .i64 (subS a b).2]) ∧ Below (w.alloc (.cells #[.int .i64 0, .int .i64 0] 30)).heap.size (w.alloc (.cells #[.int .i64 0, .int .i64 0] 30)) w') from (sub_any a b ha hb _).mono fun _ _ ⟨he, hw⟩ => ⟨he, by rw [← hw]; exact Below.refl _ _⟩))
  generalize subS a b = r at HP ⊢
  obtain ⟨r1, r2⟩ := r
  go_enter Tryz.func8, Tryz.ntmps8
  go_wp2_with (go_at_call 58; ((with_reducible refine HP.out.mono ?_); rintro e w1 ⟨rfl, hb1⟩; have hb2 := hb0.trans (hb1.mono hb0.size); have hz1 : w.heap.size < w1.heap.size := Nat.lt_of_lt_of_le (by simp) hb1.size; have hbk := (hb1.block w.heap.size (by simp)).trans (World.alloc_heap_new w _); have d0 := Joins.cell_of_block hbk 0; have d1 := Joins.cell_of_block hbk 1; have g0 := Joins.unfrozen_of_block hbk 0; have g1 := Joins.unfrozen_of_block hbk 1; simp only [List.getElem?_toArray, List.getElem?_cons_zero] at d0; simp only [List.getElem?_toArray, List.getElem?_cons_zero, List.getElem?_cons_succ] at d1))
  exact bodyPost_ret (v := .agg #[.int .i64 r1, .int .i64 r2]) (by simp [results, Tryz.results8, go_sem, d0, d1]) rfl ⟨rfl, (hb2.setCell (Nat.le_refl _) _).setCell (Nat.le_refl _) _⟩

theorem product_any (a b : Int) (ha : I64 a) (hb : I64 b) (w : World) :
    Calls Tryz.prog 10 #[.int .i64 a, .int .i64 b] w fun e w' => e = .returned (.agg #[.int .i64 (mulS a b).1, .int .i64 (mulS a b).2]) ∧ Below w.heap.size w w' := by
  have hb0 := (Below.refl w.heap.size w).alloc (Nat.le_refl _) (.cells #[.int .i64 0, .int .i64 0] 30)
  have HP := Lib.hid (mul_any a b ha hb (w.alloc (.cells #[.int .i64 0, .int .i64 0] 30)))
  generalize mulS a b = r at HP ⊢
  obtain ⟨r1, r2⟩ := r
  go_enter Tryz.func10, Tryz.ntmps10
  go_wp2_with (go_at_call 59; ((with_reducible refine HP.out.mono ?_); rintro e w1 ⟨rfl, hb1⟩; have hb2 := hb0.trans (hb1.mono hb0.size); have hz1 : w.heap.size < w1.heap.size := Nat.lt_of_lt_of_le (by simp) hb1.size; have hbk := (hb1.block w.heap.size (by simp)).trans (World.alloc_heap_new w _); have d0 := Joins.cell_of_block hbk 0; have d1 := Joins.cell_of_block hbk 1; have g0 := Joins.unfrozen_of_block hbk 0; have g1 := Joins.unfrozen_of_block hbk 1; simp only [List.getElem?_toArray, List.getElem?_cons_zero] at d0; simp only [List.getElem?_toArray, List.getElem?_cons_zero, List.getElem?_cons_succ] at d1))
  exact bodyPost_ret (v := .agg #[.int .i64 r1, .int .i64 r2]) (by simp [results, Tryz.results10, go_sem, d0, d1]) rfl ⟨rfl, (hb2.setCell (Nat.le_refl _) _).setCell (Nat.le_refl _) _⟩

theorem quotient_any (a b : Int) (ha : I64 a) (hb : I64 b) (w : World) :
    Calls Tryz.prog 12 #[.int .i64 a, .int .i64 b] w fun e w' => e = .returned (.agg #[.int .i64 (divS a b).1, .int .i64 (divS a b).2]) ∧ Below w.heap.size w w' := by
  have hb0 := (Below.refl w.heap.size w).alloc (Nat.le_refl _) (.cells #[.int .i64 0, .int .i64 0] 30)
  have HP := Lib.hid (div_any a b ha hb (w.alloc (.cells #[.int .i64 0, .int .i64 0] 30)))
  generalize divS a b = r at HP ⊢
  obtain ⟨r1, r2⟩ := r
  go_enter Tryz.func12, Tryz.ntmps12
  go_wp2_with (go_at_call 63; ((with_reducible refine HP.out.mono ?_); rintro e w1 ⟨rfl, hb1⟩; have hb2 := hb0.trans (hb1.mono hb0.size); have hz1 : w.heap.size < w1.heap.size := Nat.lt_of_lt_of_le (by simp) hb1.size; have hbk := (hb1.block w.heap.size (by simp)).trans (World.alloc_heap_new w _); have d0 := Joins.cell_of_block hbk 0; have d1 := Joins.cell_of_block hbk 1; have g0 := Joins.unfrozen_of_block hbk 0; have g1 := Joins.unfrozen_of_block hbk 1; simp only [List.getElem?_toArray, List.getElem?_cons_zero] at d0; simp only [List.getElem?_toArray, List.getElem?_cons_zero, List.getElem?_cons_succ] at d1))
  exact bodyPost_ret (v := .agg #[.int .i64 r1, .int .i64 r2]) (by simp [results, Tryz.results12, go_sem, d0, d1]) rfl ⟨rfl, (hb2.setCell (Nat.le_refl _) _).setCell (Nat.le_refl _) _⟩

theorem lsum_any (sv : Value) (zs : List Int) (hl : zs.length ≤ 1000000) (hz : ∀ z ∈ zs, I64 z) (w : World) (hR : ReadsK (fun b => b < w.heap.size) w .i64 sv zs) :
    Calls Tryz.prog 26 #[sv] w fun e w' => e = .returned (.agg #[.int .i64 (sumS zs).1, .int .i64 (sumS zs).2]) ∧ Below w.heap.size w w' := by
  have hb0 := (Below.refl w.heap.size w).alloc (Nat.le_refl _) (.cells #[.int .i64 0, .int .i64 0] 30)
  have HP := Lib.hid (sum_any sv zs hl hz _ ((hR.below hb0).mono (fun b hb _ => hb)))
  generalize sumS zs = r at HP ⊢
  obtain ⟨r1, r2⟩ := r
  go_enter Tryz.func26, Tryz.ntmps26
  go_wp2_with (go_at_call 79; ((with_reducible refine HP.out.mono ?_); rintro e w1 ⟨rfl, hb1⟩; have hb2 := hb0.trans (hb1.mono hb0.size); have hz1 : w.heap.size < w1.heap.size := Nat.lt_of_lt_of_le (by simp) hb1.size; have hbk := (hb1.block w.heap.size (by simp)).trans (World.alloc_heap_new w _); have d0 := Joins.cell_of_block hbk 0; have d1 := Joins.cell_of_block hbk 1; have g0 := Joins.unfrozen_of_block hbk 0; have g1 := Joins.unfrozen_of_block hbk 1; simp only [List.getElem?_toArray, List.getElem?_cons_zero] at d0; simp only [List.getElem?_toArray, List.getElem?_cons_zero, List.getElem?_cons_succ] at d1))
  exact bodyPost_ret (v := .agg #[.int .i64 r1, .int .i64 r2]) (by simp [results, Tryz.results26, go_sem, d0, d1]) rfl ⟨rfl, (hb2.setCell (Nat.le_refl _) _).setCell (Nat.le_refl _) _⟩

end Go.Proofs.YtocnkjnlmciojaaGreatDoor.De
