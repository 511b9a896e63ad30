/-
  Quotients: for all numbers, the law returns true and changes nothing.
-/
import Derived.Test.YtlleodcjenaliaaDoorDecEx2
import Derived.Test.YtlleodcjenaliaaDoorDecPqMath
import Derived.WalkLawsBesides
namespace Go.Proofs.YtlleodcjenaliaaDoor.decimalQuotients
open Go.RowKit Go.Shelf
open Go.Proofs.YtlleodcjenaliaaDoor

theorem tmod_range (a m : Int) (hm : 0 < m) : -m < a.tmod m ∧ a.tmod m < m := by
  have h1 := Int.tmod_lt_of_pos a hm
  have h2 := Int.lt_tmod_of_pos a hm
  omega
theorem mulS_in {x y : Int} (hx : validB x = true) (hy : validB y = true) : mulS x y = mulDivS x y 1000000 := by
  unfold mulS; rw [hx, hy]; rfl
theorem divS_in {x y : Int} (hx : validB x = true) (hy : validB y = true) (h0 : y ≠ 0) : divS x y = mulDivS x 1000000 y := by
  unfold divS; rw [hx, hy, if_neg h0]; rfl
theorem divS_zero {x : Int} (hx : validB x = true) : divS x 0 = (0, 3) := by
  unfold divS; rw [hx]; rfl

structure Facts (a b x y u v k1 uv : Int) : Prop where
  f_x : a.tmod 9000000000001 = x
  f_y : b.tmod 1000000000000001 = y
  f_u : a.tmod 3000000001 = u
  f_v : b.tmod 3000000001 = v
  f_x0 : -9000000000000 ≤ x
  f_x1 : x ≤ 9000000000000
  f_y0 : -1000000000000000 ≤ y
  f_y1 : y ≤ 1000000000000000
  f_u0 : -3000000000 ≤ u
  f_u1 : u ≤ 3000000000
  f_v0 : -3000000000 ≤ v
  f_v1 : v ≤ 3000000000
  f_r : mulS u v = (k1, 0)
  f_k0 : -1000000000000000 ≤ k1
  f_k1 : k1 ≤ 1000000000000000
  f_uv : wrap64 (u * v) = uv
  f_ex : v ≠ 0 → uv.tmod 1000000 = 0 → divS k1 v = (u, 0)
  f_one : divS y 1000000 = (y, 0)
  f_neg : divS y (-1000000) = (-y, 0)
  f_zero : divS x 0 = (0, 3)

theorem facts (a b : Int) : ∃ x y u v k1 uv, Facts a b x y u v k1 uv := by
  have tx := tmod_range a 9000000000001 (by decide)
  have ty := tmod_range b 1000000000000001 (by decide)
  have tu := tmod_range a 3000000001 (by decide)
  have tv := tmod_range b 3000000001 (by decide)
  generalize hx : a.tmod 9000000000001 = x at tx
  generalize hy : b.tmod 1000000000000001 = y at ty
  generalize hu : a.tmod 3000000001 = u at tu
  generalize hv : b.tmod 3000000001 = v at tv
  have vx : validB x = true := validB_mk (by omega) (by omega)
  have vy : validB y = true := validB_mk (by omega) (by omega)
  have vu : validB u = true := validB_mk (by omega) (by omega)
  have vv : validB v = true := validB_mk (by omega) (by omega)
  have hA : u.natAbs * v.natAbs ≤ 3000000000 * 3000000000 := Nat.mul_le_mul (by omega) (by omega)
  have hN := mulDivS_near u v 1000000 (by decide) (by omega)
  rw [show ((1000000 : Nat) : Int) = 1000000 from rfl] at hN
  have huv : (u * v).natAbs ≤ 9000000000000000000 := by rw [Int.natAbs_mul]; omega
  generalize hk : (mulDivS u v 1000000).1 = k1 at hN
  have hk2 : k1.natAbs ≤ 9000000000001 := by
    have := hN.2.2.2.2
    omega
  have hN3 := hN.2.1
  have hN4 := hN.2.2.1
  have hN6 := hN.1
  refine ⟨x, y, u, v, k1, u * v, ?_⟩
  exact
    { f_x := hx, f_y := hy, f_u := hu, f_v := hv
      f_x0 := by omega, f_x1 := by omega, f_y0 := by omega, f_y1 := by omega, f_u0 := by omega, f_u1 := by omega, f_v0 := by omega, f_v1 := by omega
      f_r := by rw [mulS_in vu vv]; exact Prod.ext hk hN6
      f_k0 := by omega, f_k1 := by omega
      f_uv := by unfold wrap64; omega
      f_ex := fun h0 h => by
        have vk : validB k1 = true := validB_mk (by omega) (by omega)
        rw [divS_in vk vv h0]
        refine mulDivS_is k1 1000000 v u h0 (by omega) ?_
        obtain ⟨q, hq⟩ := Int.dvd_of_tmod_eq_zero h
        omega
      f_one := by
        rw [divS_in vy (by decide) (by decide)]
        exact mulDivS_is y 1000000 1000000 y (by decide) (by omega) rfl
      f_neg := by
        rw [divS_in vy (by decide) (by decide)]
        exact mulDivS_is y 1000000 (-1000000) (-y) (by decide) (by omega) (by omega)
      f_zero := divS_zero vx }

/-- The first quotient, where the divisor is not 0. -/
structure Fair (x y sz q1 qy rs : Int) : Prop where
  a_q : divS x y = (q1, 0)
  a_qy : wrap64 (q1 * y) = qy
  a_rs : x * 1000000 - qy = rs
  a_0 : 2 * rs ≤ sz
  a_1 : -sz ≤ 2 * rs
  a_t : 2 * rs = sz ∨ 2 * rs = -sz → q1.tmod 2 = 0
  a_b0 : -9223372036854775000 ≤ qy
  a_b1 : qy ≤ 9223372036854775000
  a_c0 : -1000000000000000 ≤ q1
  a_c1 : q1 ≤ 1000000000000000

theorem chk_range (n : Int) : -1000000000000000 ≤ (chk n).1 ∧ (chk n).1 ≤ 1000000000000000 := by
  unfold chk
  by_cases h : validB n = true
  · rw [if_pos h]; exact validB_true h
  · rw [if_neg h]; exact ⟨by decide, by decide⟩
theorem mulDivS_range (a b c : Int) : -1000000000000000 ≤ (mulDivS a b c).1 ∧ (mulDivS a b c).1 ≤ 1000000000000000 := by
  unfold mulDivS
  split
  · exact ⟨by decide, by decide⟩
  · exact chk_range _

theorem first (x y : Int) (hx0 : -9000000000000 ≤ x) (hx1 : x ≤ 9000000000000) (hy0 : -1000000000000000 ≤ y) (hy1 : y ≤ 1000000000000000) (h0 : y ≠ 0) :
    (∃ q1 qy rs, Fair x y (y.natAbs : Int) q1 qy rs) ∨ (divS x y = (0, 2) ∧ ∃ qq : Int, 1000000000 ≤ qq ∧ qq ≤ 9000000000000 ∧ (x.natAbs : Int) / (y.natAbs : Int) = qq) := by
  have hq := quot_math x y h0 (by omega)
  have hr := mulDivS_range x 1000000 y
  rw [← divS_in (validB_mk (by omega) (by omega)) (validB_mk hy0 hy1) h0] at hq hr
  rcases hq with ⟨q1, e, h1, h2, h3⟩ | ⟨e, h1⟩
  · left
    rw [e] at hr
    obtain ⟨P, hP⟩ : ∃ P, q1 * y = P := ⟨_, rfl⟩
    refine ⟨q1, P, x * 1000000 - P, ?_⟩
    rw [hP] at h1 h2 h3
    exact { a_q := e, a_qy := by rw [hP]; unfold wrap64; omega, a_rs := rfl, a_0 := h1, a_1 := h2, a_t := h3, a_b0 := by omega, a_b1 := by omega, a_c0 := hr.1, a_c1 := hr.2 }
  · right
    refine ⟨e, ((x.natAbs / y.natAbs : Nat) : Int), by omega, ?_, (Int.natCast_ediv _ _).symm⟩
    have : x.natAbs / y.natAbs ≤ x.natAbs := Nat.div_le_self _ _
    omega

set_option maxRecDepth 100000 in
set_option maxHeartbeats 8000000 in
theorem walk (a b : Int) (w : World) (hV : Vars w) :
    Calls Tryd.prog 6 #[.int .i64 a, .int .i64 b] w fun e w' => e = .returned (.bool true) ∧ Below w.heap.size w w' := by
  obtain ⟨x, y, u, v, k1, uv, F⟩ := facts a b
  have hxI : I64 x := ⟨by have := F.f_x0; omega, by have := F.f_x1; omega⟩
  have hyI : I64 y := ⟨by have := F.f_y0; omega, by have := F.f_y1; omega⟩
  have huI : I64 u := ⟨by have := F.f_u0; omega, by have := F.f_u1; omega⟩
  have hvI : I64 v := ⟨by have := F.f_v0; omega, by have := F.f_v1; omega⟩
  have hkI : I64 k1 := ⟨by have := F.f_k0; omega, by have := F.f_k1; omega⟩
  have HR := Lib.hid (gM huI hvI F.f_r)
  have HO := Lib.hid (gD hyI (six _ (by decide) (by decide)) F.f_one)
  have HN := Lib.hid (gD hyI (six _ (by decide) (by decide)) F.f_neg)
  have f1 := F.f_x
  have f2 := F.f_y
  have f3 := F.f_u
  have f4 := F.f_v
  have b1 := F.f_x0
  have b2 := F.f_x1
  have b3 := F.f_y0
  have b4 := F.f_y1
  have g1 := F.f_uv
  have HF := Lib.hid F
  have HI := Lib.hid (And.intro huI (And.intro hvI hkI))
  have HEX := Lib.hid (examples_any _ hV)
  have hb := Below.refl w.heap.size w
  have hf0 := field0
  have hf1 := field1
  clear F hV
  by_cases y0 : y = 0
  · subst y0
    have HQ := Lib.hid (gD hxI hyI HF.out.f_zero)
    clear hxI hyI huI hvI hkI
    go_enter Tryd.func6, Tryd.ntmps6
    go_wp2_with (first
      | (go_at_call 8; ((with_reducible refine HEX.out.mono ?_); rintro e w1 ⟨rfl, hb1⟩; replace hb := hb.trans (hb1.mono hb.size); clear hb1))
      | (go_at_call 17; ((with_reducible refine (HQ.out _).mono ?_); rintro e w2 ⟨rfl, hb2⟩; replace hb := hb.trans (hb2.mono hb.size); clear hb2)))
    go_ret
    exact ⟨rfl, hb.alloc hb.size _⟩
  · have y0' : (y == 0) = false := by simpa using y0
    rcases first x y b1 b2 b3 b4 y0 with ⟨q1, qy, rs, A⟩ | ⟨e, qq, hq0, hq1, hqq⟩
    · have HQ := Lib.hid (gD hxI hyI A.a_q)
      have a1 := A.a_qy
      have a2 := A.a_rs
      have a3 := A.a_0
      have a4 := A.a_1
      have a5 := A.a_b0
      have a6 := A.a_b1
      have HT := Lib.hid A.a_t
      have hmx : max y (-y) = (y.natAbs : Int) := by omega
      have hsz : (y.natAbs : Int) ≤ 1000000000000000 := by omega
      have hsz1 : 1 ≤ (y.natAbs : Int) := by omega
      clear A
      generalize (y.natAbs : Int) = sz at *
      clear hxI hyI huI hvI hkI
      go_enter Tryd.func6, Tryd.ntmps6
      go_upto_region 9 with (first
        | (go_at_call 8; ((with_reducible refine HEX.out.mono ?_); rintro e w1 ⟨rfl, hb1⟩; replace hb := hb.trans (hb1.mono hb.size); clear hb1))
        | (go_at_call 17; ((with_reducible refine (HQ.out _).mono ?_); rintro e w2 ⟨rfl, hb2⟩; replace hb := hb.trans (hb2.mono hb.size); clear hb2)))
      by_cases t1 : 2 * rs = sz
      · have e1 : (q1.tmod 2 != 0) = false := by rw [HT.out (.inl t1)]; rfl
        have t2 : (2 * rs == sz) = true := by simpa using t1
        have t3 : ¬ sz < 2 * rs := by omega
        have t4 : ¬ 2 * rs < -sz := by omega
        clear t1
        go_upto_region 13 with fail
        have hbA := hb.alloc hb.size (.cells #[.int .i64 q1, .int .i64 0] 26)
        clear hb
        by_cases v0 : v = 0
        · subst v0
          go_wp2_with (first
            | (go_at_call 16; ((with_reducible refine (HR.out _).mono ?_); rintro e w3 ⟨rfl, hbn⟩; replace hbA := (hbA.trans (hbn.mono hbA.size)).alloc (hbA.trans (hbn.mono hbA.size)).size (.cells #[.int .i64 k1, .int .i64 0] 26); clear hbn))
            | (go_at_call 17; ((with_reducible refine (HO.out _).mono ?_); rintro e w3 ⟨rfl, hbn⟩; replace hbA := hbA.trans (hbn.mono hbA.size); clear hbn))
            | (go_at_call 17; ((with_reducible refine (HN.out _).mono ?_); rintro e w3 ⟨rfl, hbn⟩; replace hbA := hbA.trans (hbn.mono hbA.size); clear hbn)))
          go_ret
          exact ⟨rfl, hbA⟩
        · have v0' : (v == 0) = false := by simpa using v0
          by_cases hd : uv.tmod 1000000 = 0
          · have hd' : (uv.tmod 1000000 == 0) = true := by rw [hd]; rfl
            have HX := Lib.hid (gD HI.out.2.2 HI.out.2.1 (HF.out.f_ex v0 hd))
            clear hd
            go_wp2_with (first
              | (go_at_call 16; ((with_reducible refine (HR.out _).mono ?_); rintro e w3 ⟨rfl, hbn⟩; replace hbA := (hbA.trans (hbn.mono hbA.size)).alloc (hbA.trans (hbn.mono hbA.size)).size (.cells #[.int .i64 k1, .int .i64 0] 26); clear hbn))
              | (go_at_call 17; ((with_reducible refine (HX.out _).mono ?_); rintro e w3 ⟨rfl, hbn⟩; replace hbA := hbA.trans (hbn.mono hbA.size); clear hbn))
              | (go_at_call 17; ((with_reducible refine (HO.out _).mono ?_); rintro e w3 ⟨rfl, hbn⟩; replace hbA := hbA.trans (hbn.mono hbA.size); clear hbn))
              | (go_at_call 17; ((with_reducible refine (HN.out _).mono ?_); rintro e w3 ⟨rfl, hbn⟩; replace hbA := hbA.trans (hbn.mono hbA.size); clear hbn)))
            go_ret
            exact ⟨rfl, hbA⟩
          · have hd' : (uv.tmod 1000000 == 0) = false := by simpa using hd
            clear hd
            go_wp2_with (first
              | (go_at_call 16; ((with_reducible refine (HR.out _).mono ?_); rintro e w3 ⟨rfl, hbn⟩; replace hbA := (hbA.trans (hbn.mono hbA.size)).alloc (hbA.trans (hbn.mono hbA.size)).size (.cells #[.int .i64 k1, .int .i64 0] 26); clear hbn))
              | (go_at_call 17; ((with_reducible refine (HO.out _).mono ?_); rintro e w3 ⟨rfl, hbn⟩; replace hbA := hbA.trans (hbn.mono hbA.size); clear hbn))
              | (go_at_call 17; ((with_reducible refine (HN.out _).mono ?_); rintro e w3 ⟨rfl, hbn⟩; replace hbA := hbA.trans (hbn.mono hbA.size); clear hbn)))
            go_ret
            exact ⟨rfl, hbA⟩
      · by_cases t5 : 2 * rs = -sz
        · have e1 : (q1.tmod 2 != 0) = false := by rw [HT.out (.inr t5)]; rfl
          have t2 : (2 * rs == sz) = false := by simpa using t1
          have t6 : (2 * rs == -sz) = true := by simpa using t5
          have t3 : ¬ sz < 2 * rs := by omega
          have t4 : ¬ 2 * rs < -sz := by omega
          clear t1 t5
          go_upto_region 13 with fail
          have hbA := hb.alloc hb.size (.cells #[.int .i64 q1, .int .i64 0] 26)
          clear hb
          by_cases v0 : v = 0
          · subst v0
            go_wp2_with (first
              | (go_at_call 16; ((with_reducible refine (HR.out _).mono ?_); rintro e w3 ⟨rfl, hbn⟩; replace hbA := (hbA.trans (hbn.mono hbA.size)).alloc (hbA.trans (hbn.mono hbA.size)).size (.cells #[.int .i64 k1, .int .i64 0] 26); clear hbn))
              | (go_at_call 17; ((with_reducible refine (HO.out _).mono ?_); rintro e w3 ⟨rfl, hbn⟩; replace hbA := hbA.trans (hbn.mono hbA.size); clear hbn))
              | (go_at_call 17; ((with_reducible refine (HN.out _).mono ?_); rintro e w3 ⟨rfl, hbn⟩; replace hbA := hbA.trans (hbn.mono hbA.size); clear hbn)))
            go_ret
            exact ⟨rfl, hbA⟩
          · have v0' : (v == 0) = false := by simpa using v0
            by_cases hd : uv.tmod 1000000 = 0
            · have hd' : (uv.tmod 1000000 == 0) = true := by rw [hd]; rfl
              have HX := Lib.hid (gD HI.out.2.2 HI.out.2.1 (HF.out.f_ex v0 hd))
              clear hd
              go_wp2_with (first
                | (go_at_call 16; ((with_reducible refine (HR.out _).mono ?_); rintro e w3 ⟨rfl, hbn⟩; replace hbA := (hbA.trans (hbn.mono hbA.size)).alloc (hbA.trans (hbn.mono hbA.size)).size (.cells #[.int .i64 k1, .int .i64 0] 26); clear hbn))
                | (go_at_call 17; ((with_reducible refine (HX.out _).mono ?_); rintro e w3 ⟨rfl, hbn⟩; replace hbA := hbA.trans (hbn.mono hbA.size); clear hbn))
                | (go_at_call 17; ((with_reducible refine (HO.out _).mono ?_); rintro e w3 ⟨rfl, hbn⟩; replace hbA := hbA.trans (hbn.mono hbA.size); clear hbn))
                | (go_at_call 17; ((with_reducible refine (HN.out _).mono ?_); rintro e w3 ⟨rfl, hbn⟩; replace hbA := hbA.trans (hbn.mono hbA.size); clear hbn)))
              go_ret
              exact ⟨rfl, hbA⟩
            · have hd' : (uv.tmod 1000000 == 0) = false := by simpa using hd
              clear hd
              go_wp2_with (first
                | (go_at_call 16; ((with_reducible refine (HR.out _).mono ?_); rintro e w3 ⟨rfl, hbn⟩; replace hbA := (hbA.trans (hbn.mono hbA.size)).alloc (hbA.trans (hbn.mono hbA.size)).size (.cells #[.int .i64 k1, .int .i64 0] 26); clear hbn))
                | (go_at_call 17; ((with_reducible refine (HO.out _).mono ?_); rintro e w3 ⟨rfl, hbn⟩; replace hbA := hbA.trans (hbn.mono hbA.size); clear hbn))
                | (go_at_call 17; ((with_reducible refine (HN.out _).mono ?_); rintro e w3 ⟨rfl, hbn⟩; replace hbA := hbA.trans (hbn.mono hbA.size); clear hbn)))
              go_ret
              exact ⟨rfl, hbA⟩
        · have t2 : (2 * rs == sz) = false := by simpa using t1
          have t6 : (2 * rs == -sz) = false := by simpa using t5
          have t3 : ¬ sz < 2 * rs := by omega
          have t4 : ¬ 2 * rs < -sz := by omega
          clear t1 t5
          go_upto_region 13 with fail
          have hbA := hb.alloc hb.size (.cells #[.int .i64 q1, .int .i64 0] 26)
          clear hb
          by_cases v0 : v = 0
          · subst v0
            go_wp2_with (first
              | (go_at_call 16; ((with_reducible refine (HR.out _).mono ?_); rintro e w3 ⟨rfl, hbn⟩; replace hbA := (hbA.trans (hbn.mono hbA.size)).alloc (hbA.trans (hbn.mono hbA.size)).size (.cells #[.int .i64 k1, .int .i64 0] 26); clear hbn))
              | (go_at_call 17; ((with_reducible refine (HO.out _).mono ?_); rintro e w3 ⟨rfl, hbn⟩; replace hbA := hbA.trans (hbn.mono hbA.size); clear hbn))
              | (go_at_call 17; ((with_reducible refine (HN.out _).mono ?_); rintro e w3 ⟨rfl, hbn⟩; replace hbA := hbA.trans (hbn.mono hbA.size); clear hbn)))
            go_ret
            exact ⟨rfl, hbA⟩
          · have v0' : (v == 0) = false := by simpa using v0
            by_cases hd : uv.tmod 1000000 = 0
            · have hd' : (uv.tmod 1000000 == 0) = true := by rw [hd]; rfl
              have HX := Lib.hid (gD HI.out.2.2 HI.out.2.1 (HF.out.f_ex v0 hd))
              clear hd
              go_wp2_with (first
                | (go_at_call 16; ((with_reducible refine (HR.out _).mono ?_); rintro e w3 ⟨rfl, hbn⟩; replace hbA := (hbA.trans (hbn.mono hbA.size)).alloc (hbA.trans (hbn.mono hbA.size)).size (.cells #[.int .i64 k1, .int .i64 0] 26); clear hbn))
                | (go_at_call 17; ((with_reducible refine (HX.out _).mono ?_); rintro e w3 ⟨rfl, hbn⟩; replace hbA := hbA.trans (hbn.mono hbA.size); clear hbn))
                | (go_at_call 17; ((with_reducible refine (HO.out _).mono ?_); rintro e w3 ⟨rfl, hbn⟩; replace hbA := hbA.trans (hbn.mono hbA.size); clear hbn))
                | (go_at_call 17; ((with_reducible refine (HN.out _).mono ?_); rintro e w3 ⟨rfl, hbn⟩; replace hbA := hbA.trans (hbn.mono hbA.size); clear hbn)))
              go_ret
              exact ⟨rfl, hbA⟩
            · have hd' : (uv.tmod 1000000 == 0) = false := by simpa using hd
              clear hd
              go_wp2_with (first
                | (go_at_call 16; ((with_reducible refine (HR.out _).mono ?_); rintro e w3 ⟨rfl, hbn⟩; replace hbA := (hbA.trans (hbn.mono hbA.size)).alloc (hbA.trans (hbn.mono hbA.size)).size (.cells #[.int .i64 k1, .int .i64 0] 26); clear hbn))
                | (go_at_call 17; ((with_reducible refine (HO.out _).mono ?_); rintro e w3 ⟨rfl, hbn⟩; replace hbA := hbA.trans (hbn.mono hbA.size); clear hbn))
                | (go_at_call 17; ((with_reducible refine (HN.out _).mono ?_); rintro e w3 ⟨rfl, hbn⟩; replace hbA := hbA.trans (hbn.mono hbA.size); clear hbn)))
              go_ret
              exact ⟨rfl, hbA⟩
    · have HQ := Lib.hid (gD hxI hyI e)
      have hmx : max y (-y) = (y.natAbs : Int) := by omega
      have hmx2 : max x (-x) = (x.natAbs : Int) := by omega
      have hsz : (y.natAbs : Int) ≤ 1000000000000000 := by omega
      have hsz1 : 1 ≤ (y.natAbs : Int) := by omega
      have hm1 : (0 : Int) ≤ (x.natAbs : Int) := by omega
      have hm2 : (x.natAbs : Int) ≤ 9000000000000 := by omega
      have hn0 : ¬ (y.natAbs : Int) = 0 := by omega
      have hqb : ¬ qq < 1000000000 := by omega
      have HQQ := Lib.hid hqq
      clear hqq
      generalize (y.natAbs : Int) = sz at *
      generalize (x.natAbs : Int) = mx at *
      have hqq := HQQ.out
      clear hxI hyI huI hvI hkI e
      go_enter Tryd.func6, Tryd.ntmps6
      go_upto_region 13 with (first
        | (go_at_call 8; ((with_reducible refine HEX.out.mono ?_); rintro e w1 ⟨rfl, hb1⟩; replace hb := hb.trans (hb1.mono hb.size); clear hb1))
        | (go_at_call 17; ((with_reducible refine (HQ.out _).mono ?_); rintro e w2 ⟨rfl, hb2⟩; replace hb := hb.trans (hb2.mono hb.size); clear hb2)))
      have hbA := hb.alloc hb.size (.cells #[.int .i64 0, .int .i64 2] 26)
      clear hb
      by_cases v0 : v = 0
      · subst v0
        go_wp2_with (first
          | (go_at_call 16; ((with_reducible refine (HR.out _).mono ?_); rintro e w3 ⟨rfl, hbn⟩; replace hbA := (hbA.trans (hbn.mono hbA.size)).alloc (hbA.trans (hbn.mono hbA.size)).size (.cells #[.int .i64 k1, .int .i64 0] 26); clear hbn))
          | (go_at_call 17; ((with_reducible refine (HO.out _).mono ?_); rintro e w3 ⟨rfl, hbn⟩; replace hbA := hbA.trans (hbn.mono hbA.size); clear hbn))
          | (go_at_call 17; ((with_reducible refine (HN.out _).mono ?_); rintro e w3 ⟨rfl, hbn⟩; replace hbA := hbA.trans (hbn.mono hbA.size); clear hbn)))
        go_ret
        exact ⟨rfl, hbA⟩
      · have v0' : (v == 0) = false := by simpa using v0
        by_cases hd : uv.tmod 1000000 = 0
        · have hd' : (uv.tmod 1000000 == 0) = true := by rw [hd]; rfl
          have HX := Lib.hid (gD HI.out.2.2 HI.out.2.1 (HF.out.f_ex v0 hd))
          clear hd
          go_wp2_with (first
            | (go_at_call 16; ((with_reducible refine (HR.out _).mono ?_); rintro e w3 ⟨rfl, hbn⟩; replace hbA := (hbA.trans (hbn.mono hbA.size)).alloc (hbA.trans (hbn.mono hbA.size)).size (.cells #[.int .i64 k1, .int .i64 0] 26); clear hbn))
            | (go_at_call 17; ((with_reducible refine (HX.out _).mono ?_); rintro e w3 ⟨rfl, hbn⟩; replace hbA := hbA.trans (hbn.mono hbA.size); clear hbn))
            | (go_at_call 17; ((with_reducible refine (HO.out _).mono ?_); rintro e w3 ⟨rfl, hbn⟩; replace hbA := hbA.trans (hbn.mono hbA.size); clear hbn))
            | (go_at_call 17; ((with_reducible refine (HN.out _).mono ?_); rintro e w3 ⟨rfl, hbn⟩; replace hbA := hbA.trans (hbn.mono hbA.size); clear hbn)))
          go_ret
          exact ⟨rfl, hbA⟩
        · have hd' : (uv.tmod 1000000 == 0) = false := by simpa using hd
          clear hd
          go_wp2_with (first
            | (go_at_call 16; ((with_reducible refine (HR.out _).mono ?_); rintro e w3 ⟨rfl, hbn⟩; replace hbA := (hbA.trans (hbn.mono hbA.size)).alloc (hbA.trans (hbn.mono hbA.size)).size (.cells #[.int .i64 k1, .int .i64 0] 26); clear hbn))
            | (go_at_call 17; ((with_reducible refine (HO.out _).mono ?_); rintro e w3 ⟨rfl, hbn⟩; replace hbA := hbA.trans (hbn.mono hbA.size); clear hbn))
            | (go_at_call 17; ((with_reducible refine (HN.out _).mono ?_); rintro e w3 ⟨rfl, hbn⟩; replace hbA := hbA.trans (hbn.mono hbA.size); clear hbn)))
          go_ret
          exact ⟨rfl, hbA⟩

end Go.Proofs.YtlleodcjenaliaaDoor.decimalQuotients
