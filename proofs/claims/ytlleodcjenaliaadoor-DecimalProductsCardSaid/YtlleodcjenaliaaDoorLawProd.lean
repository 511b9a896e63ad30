/-
  Products: for all numbers, the law returns true and changes nothing.
-/
import Derived.Test.YtlleodcjenaliaaDoorDecEx2
import Derived.Test.YtlleodcjenaliaaDoorDecPqMath
namespace Go.Proofs.YtlleodcjenaliaaDoor.decimalProducts
open Go.RowKit Go.Shelf
open Go.Proofs.YtlleodcjenaliaaDoor

structure Facts (a b x y u v p1 p2 r1 uv rest : Int) : Prop where
  f_x : a.tmod 1000000000000001 = x
  f_y : b.tmod 1000000000000001 = y
  f_u : a.tmod 3000000001 = u
  f_v : b.tmod 3000000001 = v
  f_x0 : -1000000000000000 ≤ x
  f_x1 : x ≤ 1000000000000000
  f_y0 : -1000000000000000 ≤ y
  f_y1 : y ≤ 1000000000000000
  f_u0 : -3000000000 ≤ u
  f_u1 : u ≤ 3000000000
  f_v0 : -3000000000 ≤ v
  f_v1 : v ≤ 3000000000
  f_p : mulS x y = (p1, p2)
  f_c : mulS y x = (p1, p2)
  f_n : mulS (-x) y = (-p1, p2)
  f_p0 : -1000000000000000 ≤ p1
  f_p1 : p1 ≤ 1000000000000000
  f_one : mulS x 1000000 = (x, 0)
  f_zero : mulS x 0 = (0, 0)
  f_r : mulS u v = (r1, 0)
  f_uv : wrap64 (u * v) = uv
  f_uv0 : -9000000000000000000 ≤ uv
  f_uv1 : uv ≤ 9000000000000000000
  f_r0 : -9000000000001 ≤ r1
  f_r1 : r1 ≤ 9000000000001
  f_rest : uv - r1 * 1000000 = rest
  f_t0 : 2 * rest ≤ 1000000
  f_t1 : -1000000 ≤ 2 * rest
  f_even : rest = 500000 ∨ rest = -500000 → r1.tmod 2 = 0

theorem chk_range (n : Int) : -1000000000000000 ≤ (chk n).1 ∧ (chk n).1 ≤ 1000000000000000 := by
  unfold chk
  by_cases h : validB n = true
  · rw [if_pos h]; exact validB_true h
  · rw [if_neg h]; exact ⟨by decide, by decide⟩

theorem mulDivS_range (a b c : Int) : -1000000000000000 ≤ (mulDivS a b c).1 ∧ (mulDivS a b c).1 ≤ 1000000000000000 := by
  unfold mulDivS
  split
  · exact ⟨by decide, by decide⟩
  · exact chk_range _

theorem tmod_range (a m : Int) (hm : 0 < m) : -m < a.tmod m ∧ a.tmod m < m := by
  have h1 := Int.tmod_lt_of_pos a hm
  have h2 := Int.lt_tmod_of_pos a hm
  omega

theorem mulS_in {x y : Int} (hx : validB x = true) (hy : validB y = true) : mulS x y = mulDivS x y 1000000 := by
  unfold mulS; rw [hx, hy]; rfl

theorem facts (a b : Int) : ∃ x y u v p1 p2 r1 uv rest, Facts a b x y u v p1 p2 r1 uv rest := by
  have tx := tmod_range a 1000000000000001 (by decide)
  have ty := tmod_range b 1000000000000001 (by decide)
  have tu := tmod_range a 3000000001 (by decide)
  have tv := tmod_range b 3000000001 (by decide)
  generalize hx : a.tmod 1000000000000001 = x at tx
  generalize hy : b.tmod 1000000000000001 = y at ty
  generalize hu : a.tmod 3000000001 = u at tu
  generalize hv : b.tmod 3000000001 = v at tv
  have vx : validB x = true := validB_mk (by omega) (by omega)
  have vnx : validB (-x) = true := validB_mk (by omega) (by omega)
  have vy : validB y = true := validB_mk (by omega) (by omega)
  have vu : validB u = true := validB_mk (by omega) (by omega)
  have vv : validB v = true := validB_mk (by omega) (by omega)
  have hA : u.natAbs * v.natAbs ≤ 3000000000 * 3000000000 := Nat.mul_le_mul (by omega) (by omega)
  have hN := mulDivS_near u v 1000000 (by decide) (by omega)
  rw [show ((1000000 : Nat) : Int) = 1000000 from rfl] at hN
  have hN2 : (mulDivS u v 1000000).1.natAbs ≤ 9000000000001 := by
    have := hN.2.2.2.2
    omega
  have huv : (u * v).natAbs ≤ 9000000000000000000 := by rw [Int.natAbs_mul]; omega
  have hr := mulDivS_range x y 1000000
  have hng := mulDivS_neg x y 1000000
  refine ⟨x, y, u, v, (mulDivS x y 1000000).1, (mulDivS x y 1000000).2, (mulDivS u v 1000000).1, u * v, u * v - (mulDivS u v 1000000).1 * 1000000, ?_⟩
  have hN3 := hN.2.1
  have hN4 := hN.2.2.1
  have hN5 := hN.2.2.2.1
  have hN6 := hN.1
  exact
    { f_x := hx, f_y := hy, f_u := hu, f_v := hv
      f_x0 := by omega, f_x1 := by omega, f_y0 := by omega, f_y1 := by omega, f_u0 := by omega, f_u1 := by omega, f_v0 := by omega, f_v1 := by omega
      f_p := mulS_in vx vy
      f_c := by rw [mulS_in vy vx, mulDivS_comm]
      f_n := by rw [mulS_in vnx vy, ← hng.2, ← hng.1]
      f_p0 := hr.1, f_p1 := hr.2
      f_one := by
        rw [mulS_in vx (by decide), mulDivS_exact x 1000000 1000000 x.natAbs (by decide) (by omega) rfl]
        have h := sgn_mul x 1 1000000 (by decide)
        rw [Int.mul_one, show (1 : Int).natAbs = 1 from rfl, Nat.mul_one] at h
        exact Prod.ext h.symm rfl
      f_zero := by
        rw [mulS_in vx (by decide), mulDivS_exact x 0 1000000 0 (by decide) (by omega) (by simp), sgn_zero]
      f_r := by rw [mulS_in vu vv]; exact Prod.ext rfl hN6
      f_uv := by unfold wrap64; omega
      f_uv0 := by omega, f_uv1 := by omega
      f_r0 := by omega, f_r1 := by omega
      f_rest := rfl
      f_t0 := hN3
      f_t1 := hN4
      f_even := fun h => hN5 (by
        rcases h with h | h
        · left; rw [h]; rfl
        · right; rw [h]; rfl) }

set_option maxRecDepth 100000 in
set_option maxHeartbeats 4000000 in
theorem walk (a b : Int) (w : World) (hV : Vars w) :
    Calls Tryd.prog 5 #[.int .i64 a, .int .i64 b] w fun e w' => e = .returned (.bool true) ∧ Below w.heap.size w w' := by
  obtain ⟨x, y, u, v, p1, p2, r1, uv, rest, F⟩ := facts a b
  have hxI : I64 x := ⟨by have := F.f_x0; omega, by have := F.f_x1; omega⟩
  have hnI : I64 (-x) := ⟨by have := F.f_x1; omega, by have := F.f_x0; omega⟩
  have hyI : I64 y := ⟨by have := F.f_y0; omega, by have := F.f_y1; omega⟩
  have huI : I64 u := ⟨by have := F.f_u0; omega, by have := F.f_u1; omega⟩
  have hvI : I64 v := ⟨by have := F.f_v0; omega, by have := F.f_v1; omega⟩
  have HP := Lib.hid (gM hxI hyI F.f_p)
  have HC := Lib.hid (gM hyI hxI F.f_c)
  have HN := Lib.hid (gM hnI hyI F.f_n)
  have HO := Lib.hid (gM hxI (six _ (by decide) (by decide)) F.f_one)
  have HZ := Lib.hid (gM hxI (six _ (by decide) (by decide)) F.f_zero)
  have HR := Lib.hid (gM huI hvI F.f_r)
  have f1 := F.f_x
  have f2 := F.f_y
  have f3 := F.f_u
  have f4 := F.f_v
  have b1 := F.f_x0
  have b2 := F.f_x1
  have b3 := F.f_p0
  have b4 := F.f_p1
  have b5 := F.f_uv0
  have b6 := F.f_uv1
  have b7 := F.f_r0
  have b8 := F.f_r1
  have g1 := F.f_uv
  have g2 := F.f_rest
  have t0 := F.f_t0
  have t1 := F.f_t1
  have HE := Lib.hid F.f_even
  have HEX := Lib.hid (examples_any _ hV)
  have hb := Below.refl w.heap.size w
  have hf0 := field0
  have hf1 := field1
  clear F hV hxI hnI hyI huI hvI
  go_enter Tryd.func5, Tryd.ntmps5
  go_upto_region 6 with (first
    | (go_at_call 8; ((with_reducible refine HEX.out.mono ?_); rintro e w1 ⟨rfl, hb1⟩; replace hb := hb.trans (hb1.mono hb.size); clear hb1))
    | (go_at_call 16; ((with_reducible refine (HP.out _).mono ?_); rintro e w2 ⟨rfl, hb2⟩; replace hb := hb.trans (hb2.mono hb.size); clear hb2))
    | (go_at_call 16; ((with_reducible refine (HN.out _).mono ?_); rintro e w3 ⟨rfl, hb3⟩; replace hb := hb.trans (hb3.mono hb.size); clear hb3)))
  have hk8 : ((w3.alloc (.cells #[.int .i64 p1, .int .i64 p2] 26)).alloc (.cells #[.int .i64 (-p1), .int .i64 p2] 26)).heap[w3.heap.size]? = some (.cells #[.int .i64 p1, .int .i64 p2] 26 (0, 0)) := (Below.heap_alloc _ _ _ (by simp)).trans (World.alloc_heap_new w3 _)
  have hk9 : ((w3.alloc (.cells #[.int .i64 p1, .int .i64 p2] 26)).alloc (.cells #[.int .i64 (-p1), .int .i64 p2] 26)).heap[w3.heap.size + 1]? = some (.cells #[.int .i64 (-p1), .int .i64 p2] 26 (0, 0)) := by
    have := World.alloc_heap_new (w3.alloc (.cells #[.int .i64 p1, .int .i64 p2] 26)) (.cells #[.int .i64 (-p1), .int .i64 p2] 26)
    rwa [World.size_alloc] at this
  have hbA := (hb.alloc hb.size (.cells #[.int .i64 p1, .int .i64 p2] 26)).alloc (Nat.le_trans hb.size (by simp)) (.cells #[.int .i64 (-p1), .int .i64 p2] 26)
  have hs9 : w3.heap.size + 1 < ((w3.alloc (.cells #[.int .i64 p1, .int .i64 p2] 26)).alloc (.cells #[.int .i64 (-p1), .int .i64 p2] 26)).heap.size := by simp
  generalize (w3.alloc (.cells #[.int .i64 p1, .int .i64 p2] 26)).alloc (.cells #[.int .i64 (-p1), .int .i64 p2] 26) = W at hk8 hk9 hbA hs9 ⊢
  generalize w3.heap.size + 1 = B9 at hk9 hs9 ⊢
  have hs8 : w3.heap.size < W.heap.size := (Array.getElem?_eq_some_iff.1 hk8).1
  generalize w3.heap.size = B8 at hk8 hs8 ⊢
  have c80 := Joins.cell_of_block hk8 0
  have c81 := Joins.cell_of_block hk8 1
  have c90 := Joins.cell_of_block hk9 0
  have c91 := Joins.cell_of_block hk9 1
  simp only [List.getElem?_toArray, List.getElem?_cons_zero] at c80
  simp only [List.getElem?_toArray, List.getElem?_cons_zero, List.getElem?_cons_succ] at c81
  simp only [List.getElem?_toArray, List.getElem?_cons_zero] at c90
  simp only [List.getElem?_toArray, List.getElem?_cons_zero, List.getElem?_cons_succ] at c91
  clear hb hk8 hk9
  have n1 : wrap64 (- -p1) = p1 := by unfold wrap64; omega
  have n2 : IntKind.i64.wrap (- -p1) = p1 := by rw [wrap_i64]; omega
  have n3 : IntKind.i64.wrap p1 = p1 := by rw [wrap_i64]; omega
  have n4 : wrap64 p1 = p1 := by unfold wrap64; omega
  have hS1 : ((W.drew.cell? ⟨B8, 0, none⟩ = some (.int .i64 p1) ∧ W.drew.cell? ⟨B8, 1, none⟩ = some (.int .i64 p2) ∧ W.drew.cell? ⟨B9, 0, none⟩ = some (.int .i64 (-p1)) ∧ W.drew.cell? ⟨B9, 1, none⟩ = some (.int .i64 p2)) ∧ Below w.heap.size w W.drew ∧ B8 < W.drew.heap.size ∧ B9 < W.drew.heap.size) := ⟨⟨c80, c81, c90, c91⟩, hbA.drew, hs8, hs9⟩
  have HK : Hid (∀ V V' : World, Below V.heap.size V V' → ((V.cell? ⟨B8, 0, none⟩ = some (.int .i64 p1) ∧ V.cell? ⟨B8, 1, none⟩ = some (.int .i64 p2) ∧ V.cell? ⟨B9, 0, none⟩ = some (.int .i64 (-p1)) ∧ V.cell? ⟨B9, 1, none⟩ = some (.int .i64 p2)) ∧ Below w.heap.size w V ∧ B8 < V.heap.size ∧ B9 < V.heap.size) → ((V'.cell? ⟨B8, 0, none⟩ = some (.int .i64 p1) ∧ V'.cell? ⟨B8, 1, none⟩ = some (.int .i64 p2) ∧ V'.cell? ⟨B9, 0, none⟩ = some (.int .i64 (-p1)) ∧ V'.cell? ⟨B9, 1, none⟩ = some (.int .i64 p2)) ∧ Below w.heap.size w V' ∧ B8 < V'.heap.size ∧ B9 < V'.heap.size)) := fun V V' h1 h2 =>
    ⟨⟨(h1.cell (p := ⟨B8, 0, none⟩) h2.2.2.1).trans h2.1.1, (h1.cell (p := ⟨B8, 1, none⟩) h2.2.2.1).trans h2.1.2.1, (h1.cell (p := ⟨B9, 0, none⟩) h2.2.2.2).trans h2.1.2.2.1, (h1.cell (p := ⟨B9, 1, none⟩) h2.2.2.2).trans h2.1.2.2.2⟩, h2.2.1.trans (h1.mono h2.2.1.size), Nat.lt_of_lt_of_le h2.2.2.1 h1.size, Nat.lt_of_lt_of_le h2.2.2.2 h1.size⟩
  clear c80 c81 c90 c91 hbA hs8 hs9
  go_region_held3 (fun V => ((V.cell? ⟨B8, 0, none⟩ = some (.int .i64 p1) ∧ V.cell? ⟨B8, 1, none⟩ = some (.int .i64 p2) ∧ V.cell? ⟨B9, 0, none⟩ = some (.int .i64 (-p1)) ∧ V.cell? ⟨B9, 1, none⟩ = some (.int .i64 p2)) ∧ Below w.heap.size w V ∧ B8 < V.heap.size ∧ B9 < V.heap.size))
    (first | exact hS1 | assumption | (refine HK.out _ _ hb4 ?_; assumption) | (refine HK.out _ _ hb4 ?_; exact hS1))
    (first
      | (go_at_call 16; ((with_reducible refine (HC.out _).mono ?_); rintro e w4 ⟨rfl, hb4⟩))
      | (go_at_call 16; ((with_reducible refine (HO.out _).mono ?_); rintro e w4 ⟨rfl, hb4⟩))
      | (go_at_call 16; ((with_reducible refine (HZ.out _).mono ?_); rintro e w4 ⟨rfl, hb4⟩)))
  rename_i hH
  obtain ⟨_, hbW, _, _⟩ := hH
  clear HK hS1 hb4 n1 n2 n3 n4
  by_cases q1 : rest = 500000
  · have e1 := HE.out (.inl q1)
    have e2 : (r1.tmod 2 == 0) = true := by rw [e1]; rfl
    subst q1
    clear e1
    go_wp2_with (go_at_call 16; ((with_reducible refine (HR.out _).mono ?_); rintro e w5 ⟨rfl, hb5⟩; replace hbW := hbW.trans (hb5.mono hbW.size); clear hb5))
    go_ret
    exact ⟨rfl, hbW.alloc hbW.size _⟩
  · by_cases q2 : rest = -500000
    · have e1 := HE.out (.inr q2)
      have e2 : (r1.tmod 2 == 0) = true := by rw [e1]; rfl
      subst q2
      clear e1
      go_wp2_with (go_at_call 16; ((with_reducible refine (HR.out _).mono ?_); rintro e w5 ⟨rfl, hb5⟩; replace hbW := hbW.trans (hb5.mono hbW.size); clear hb5))
      go_ret
      exact ⟨rfl, hbW.alloc hbW.size _⟩
    · have e1 : (2 * rest != 1000000) = true := by simp; omega
      have e2 : (2 * rest != -1000000) = true := by simp; omega
      have e3 : (2 * rest == 1000000) = false := by simp; omega
      have e4 : (2 * rest == -1000000) = false := by simp; omega
      go_wp2_with (go_at_call 16; ((with_reducible refine (HR.out _).mono ?_); rintro e w5 ⟨rfl, hb5⟩; replace hbW := hbW.trans (hb5.mono hbW.size); clear hb5))
      go_ret
      exact ⟨rfl, hbW.alloc hbW.size _⟩

end Go.Proofs.YtlleodcjenaliaaDoor.decimalProducts
