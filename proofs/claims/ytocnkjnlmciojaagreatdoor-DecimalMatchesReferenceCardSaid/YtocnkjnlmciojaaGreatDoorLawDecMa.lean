/-
  Numbers match the reference: the walk.
-/
import Derived.Test.YtocnkjnlmciojaaGreatDoorR2Dv
import Derived.Test.YtocnkjnlmciojaaGreatDoorR2Sum
import Derived.Test.YtocnkjnlmciojaaGreatDoorDecEx2
import Derived.Test.YtocnkjnlmciojaaGreatDoorVlBase
import Derived.Test.YtocnkjnlmciojaaGreatDoorRegFacts
import Derived.Lib.QuietBelow
namespace Go.Proofs.YtocnkjnlmciojaaGreatDoor.De.decimalMatches
open Go Go.RowKit Go.Shelf Go.Sort Go.ChangeShapes Go.WideShapes Go.ChangeAt
open Go.Proofs.YtocnkjnlmciojaaGreatDoor Go.Proofs.YtocnkjnlmciojaaGreatDoor.De

/-- Behind a region that is left in the ordinary way: its slots hold whatever they hold, but for one. -/
theorem through {P : Program} {c : Code} {Q : Exit → Act → World → Prop} {a : Act} {w : World} (D : List Nat) (t : Nat) (v : Value)
    (h1 : c.wp P (fun e a' w' => e = .normal ∧ Below w.heap.size w w' ∧ ∃ ev : Nat → Value, ev t = v ∧ a' = putAll ev D a) a w)
    (h2 : ∀ ev w', ev t = v → Below w.heap.size w w' → Q .normal (putAll ev D a) w') : c.wp P Q a w :=
  Code.wp_mono (fun e a' w' ⟨he, hb, ev, h, ha⟩ => by subst he; subst ha; exact h2 ev w' h hb) h1
theorem shown {D : List Nat} {t : Nat} {v : Value} {a a' : Act} {w w' : World} (hb : Below w.heap.size w w') (h1 : a'.eval (.tmp t) = v) (h2 : a' = putAll (fun t => a'.eval (.tmp t)) D a) :
    Exit.normal = .normal ∧ Below w.heap.size w w' ∧ ∃ ev : Nat → Value, ev t = v ∧ a' = putAll ev D a := ⟨rfl, hb, _, h1, h2⟩

/-- A block of integers. -/
def Blk (W : World) (B : Nat) (t : TypeId) (xs : List Int) : Prop := W.heap[B]? = some (.cells (xs.map (Value.int .i64)).toArray t (0, 0))
theorem Blk.below {W V : World} {B n : Nat} {t : TypeId} {xs : List Int} (h : Blk W B t xs) (hb : Below n W V) (hn : B < n) : Blk V B t xs := (hb.block B hn).trans h
theorem Blk.lt {W : World} {B : Nat} {t : TypeId} {xs : List Int} (h : Blk W B t xs) : B < W.heap.size := (Array.getElem?_eq_some_iff.1 h).1
theorem Blk.cell {W : World} {B : Nat} {t : TypeId} {xs : List Int} (h : Blk W B t xs) {j : Nat} (hj : j < xs.length) : W.cell? ⟨B, j, none⟩ = some (.int .i64 (xs[j]?.getD 0)) := by
  simp [World.cell?, show W.heap[B]? = _ from h, List.getElem?_eq_getElem hj]
theorem text_len (a : Int) (ha : I64 a) : (textL a).length ≤ 40 := by
  have h0 := ha.1
  have h1 := ha.2
  have hd := Lib.nDigits_le20 (a.natAbs / 1000000) (by omega)
  have hp := (placesL_ok (a.natAbs % 1000000) (by omega)).len
  unfold textL
  rw [List.length_append, List.length_append, Lib.decDigits_length]
  split <;> split <;> simp <;> omega
theorem mod_i64 {a : Int} {m : Nat} (h0 : 0 < m) (hm : m ≤ 9000000000000000000) : ∃ r, a.tmod (m : Int) = r ∧ I64 r ∧ wrap64 r = r ∧ IntKind.i64.wrap r = r := by
  have h1 : a.tmod (m : Int) < (m : Int) := Int.tmod_lt_of_pos _ (by omega)
  have h2 : -(m : Int) < a.tmod (m : Int) := Int.lt_tmod_of_pos _ (by omega)
  exact ⟨_, rfl, ⟨by omega, by omega⟩, i64w (by omega) (by omega)⟩


set_option maxRecDepth 100000 in
set_option maxHeartbeats 8000000 in
theorem walk {a b sc : Int} {S : List UInt8} {p : Option Addr} {len cap : Nat} {zs : List Int} {w : World} (ha : I64 a) (hb : I64 b) (hsc : I64 sc) (hS : S.length ≤ 60) (hR : Rd (fun b => b < w.heap.size) w .i64 p len cap zs) (hl : len ≤ 60) (hz : ∀ z ∈ zs, I64 z) (hV : Vars w) :
    Calls Tryz.prog 3 #[.int .i64 a, .int .i64 b, .agg #[.string (bsOf S), .int .i64 sc, .slice p len cap]] w fun e w' => e = .returned (.bool true) ∧ Below w.heap.size w w' := by
  have HT0 := Lib.hid (Trio.new w 24 (.string (bsOf S)) (.int .i64 sc) (.slice p len cap))
  have hb0 : Below w.heap.size w (w.alloc (.cells #[.string (bsOf S), .int .i64 sc, .slice p len cap] 24)) := (Below.self w).alloc (Nat.le_refl _) _
  have HB0 := Lib.hid hb0
  have HV := Lib.hid (fun W (h : Below w.heap.size w W) => hV.below h)
  have HR := Lib.hid hR
  have HZ := Lib.hid hz
  have HX : ∃ xs : List Int, xs.length = 8 ∧ (∀ v ∈ xs, I64 v) ∧ ∃ a1 b1 a2 a3 b3, Hid (a.tmod 1000000000000001 = a1 ∧ wrap64 a1 = a1 ∧ IntKind.i64.wrap a1 = a1) ∧ Hid (b.tmod 1000000000000001 = b1 ∧ wrap64 b1 = b1 ∧ IntKind.i64.wrap b1 = b1) ∧
      Hid (a.tmod 1000000 = a2 ∧ wrap64 a2 = a2 ∧ IntKind.i64.wrap a2 = a2) ∧ Hid (a.tmod 1000 = a3 ∧ wrap64 a3 = a3 ∧ IntKind.i64.wrap a3 = a3) ∧ Hid (b.tmod 1000 = b3 ∧ wrap64 b3 = b3 ∧ IntKind.i64.wrap b3 = b3) ∧ Hid ([a, b, a1, b1, a2, b1, a3, b3] = xs) := by
    obtain ⟨a1, e1, i1, u1⟩ := mod_i64 (a := a) (m := 1000000000000001) (by decide) (by decide)
    obtain ⟨b1, e2, i2, u2⟩ := mod_i64 (a := b) (m := 1000000000000001) (by decide) (by decide)
    obtain ⟨a2, e3, i3, u3⟩ := mod_i64 (a := a) (m := 1000000) (by decide) (by decide)
    obtain ⟨a3, e4, i4, u4⟩ := mod_i64 (a := a) (m := 1000) (by decide) (by decide)
    obtain ⟨b3, e5, i5, u5⟩ := mod_i64 (a := b) (m := 1000) (by decide) (by decide)
    refine ⟨[a, b, a1, b1, a2, b1, a3, b3], rfl, fun v hv => ?_, a1, b1, a2, a3, b3, ⟨e1, u1⟩, ⟨e2, u2⟩, ⟨e3, u3⟩, ⟨e4, u4⟩, ⟨e5, u5⟩, rfl⟩
    simp only [List.mem_cons, List.not_mem_nil, or_false] at hv
    rcases hv with rfl | rfl | rfl | rfl | rfl | rfl | rfl | rfl <;> assumption
  obtain ⟨xs, hxl, hxi, a1, b1, a2, a3, b3, K1, K2, K3, K4, K5, HXS⟩ := HX
  have HXI := Lib.hid hxi
  have HXL := Lib.hid hxl
  have hSs := bs_size S
  have hSI : ¬ ((S.length : Int) > 60) := by omega
  have hlI : ¬ ((len : Int) > 60) := by omega
  have HSL := Lib.hid hS
  have HLL := Lib.hid hl
  have HSC := Lib.hid hsc
  clear hb0 hV hR hz hxi hxl hS hl hsc
  go_enter Tryz.func3, Tryz.ntmps3
  go_wp2_with fail
  obtain ⟨B0, hB0⟩ : ∃ B, w.heap.size = B := ⟨_, rfl⟩
  rw [hB0] at HT0 ⊢
  have HZ0 := Lib.hid hB0
  clear hB0
  generalize w.alloc (.cells #[.string (bsOf S), .int .i64 sc, .slice p len cap] 24) = W0 at *
  refine (examples_any W0 (HV.out _ HB0.out)).mono ?_
  rintro e w1 ⟨rfl, hbx⟩
  have HB1 : Hid (Below w.heap.size w w1) := HB0.out.trans (hbx.mono HB0.out.size)
  have HT1 := Lib.hid (HT0.out.below hbx HT0.out.lt)
  clear hbx HT0 HB0
  have c0 := HT1.out.c0
  have c1 := HT1.out.c1
  have c2 := HT1.out.c2
  go_upto_region 4 with fail
  clear c0 c1 c2
  obtain ⟨k1, k1a, k1b⟩ := K1.out
  obtain ⟨k2, k2a, k2b⟩ := K2.out
  obtain ⟨k3, k3a, k3b⟩ := K3.out
  obtain ⟨k4, k4a, k4b⟩ := K4.out
  obtain ⟨k5, k5a, k5b⟩ := K5.out
  go_wp2_with fail
  clear k1 k1a k1b K1 k2 k2a k2b K2 k3 k3a k3b K3 k4 k4a k4b K4 k5 k5a k5b K5
  have HXB : Hid (Blk (w1.alloc (.cells #[.int .i64 a, .int .i64 b, .int .i64 a1, .int .i64 b1, .int .i64 a2, .int .i64 b1, .int .i64 a3, .int .i64 b3] 26)) w1.heap.size 26 xs) := by
    rw [← HXS.out]
    exact World.alloc_heap_new w1 _
  have hb2 : Below w.heap.size w (w1.alloc (.cells #[.int .i64 a, .int .i64 b, .int .i64 a1, .int .i64 b1, .int .i64 a2, .int .i64 b1, .int .i64 a3, .int .i64 b3] 26)) := HB1.out.alloc HB1.out.size _
  have HB2 := Lib.hid hb2
  have HT2 : Hid (Trio (w1.alloc (.cells #[.int .i64 a, .int .i64 b, .int .i64 a1, .int .i64 b1, .int .i64 a2, .int .i64 b1, .int .i64 a3, .int .i64 b3] 26)) B0 24 (.string (bsOf S)) (.int .i64 sc) (.slice p len cap)) := HT1.out.below ((Below.self w1).alloc (Nat.le_refl _) _) HT1.out.lt
  clear hb2 HB1 HT1 HXS
  obtain ⟨B1, hB1⟩ : ∃ B, w1.heap.size = B := ⟨_, rfl⟩
  rw [hB1] at HXB ⊢
  clear hB1
  generalize w1.alloc (.cells #[.int .i64 a, .int .i64 b, .int .i64 a1, .int .i64 b1, .int .i64 a2, .int .i64 b1, .int .i64 a3, .int .i64 b3] 26) = w2 at *
  go_loopw [9] (fun i wr => ∃ k : Nat, k ≤ 4 ∧ i = .int .i64 (k : Int) ∧ Hid (Below w.heap.size w wr ∧ Trio wr B0 24 (.string (bsOf S)) (.int .i64 sc) (.slice p len cap) ∧ Blk wr B1 26 xs)) (fun i _ => 4 - (intOf i).toNat)
  case atStart => exact ⟨0, by omega, rfl, HB2.out, HT2.out, HXB.out⟩
  case round =>
    obtain ⟨k, hk, rfl, HI⟩ := hrel
    clear HB2 HT2 HXB
    by_cases hlt : k < 4
    · have hltI : (k : Int) < 4 := by omega
      obtain ⟨x, hx⟩ : ∃ x, xs[k * 2]?.getD 0 = x := ⟨_, rfl⟩
      obtain ⟨y, hy⟩ : ∃ y, xs[k * 2 + 1]?.getD 0 = y := ⟨_, rfl⟩
      have hxi : I64 x := by
        rw [← hx, List.getElem?_eq_getElem (by rw [HXL.out]; omega)]
        exact HXI.out _ (List.getElem_mem _)
      have hyi : I64 y := by
        rw [← hy, List.getElem?_eq_getElem (by rw [HXL.out]; omega)]
        exact HXI.out _ (List.getElem_mem _)
      have x0 := HI.out.2.2.cell (j := k * 2) (by rw [HXL.out]; omega)
      have x1 := HI.out.2.2.cell (j := k * 2 + 1) (by rw [HXL.out]; omega)
      rw [hx] at x0
      rw [hy] at x1
      clear hx hy
      go_upto_region 8 with fail
      go_region
      have HA1 : Hid (∀ W, Calls Tryz.prog 6 #[.int .i64 x, .int .i64 y] W fun e w' => e = .returned (.agg #[.int .i64 (addS x y).1, .int .i64 (addS x y).2]) ∧ Below W.heap.size W w') := fun W => added_any x y hxi hyi W
      have HR1 : Hid (∀ W, Calls Tryz.prog 7 #[.int .i64 x, .int .i64 y] W fun e w' => e = .returned (.agg #[.int .i64 (addS x y).1, .int .i64 (addS x y).2]) ∧ Below W.heap.size W w') := fun W => raddin_any x y W
      have HA2 : Hid (∀ W, Calls Tryz.prog 8 #[.int .i64 x, .int .i64 y] W fun e w' => e = .returned (.agg #[.int .i64 (subS x y).1, .int .i64 (subS x y).2]) ∧ Below W.heap.size W w') := fun W => less_any x y hxi hyi W
      have HR2 : Hid (∀ W, Calls Tryz.prog 9 #[.int .i64 x, .int .i64 y] W fun e w' => e = .returned (.agg #[.int .i64 (subS x y).1, .int .i64 (subS x y).2]) ∧ Below W.heap.size W w') := fun W => rsubin_any x y W
      have HA3 : Hid (∀ W, Calls Tryz.prog 10 #[.int .i64 x, .int .i64 y] W fun e w' => e = .returned (.agg #[.int .i64 (mulS x y).1, .int .i64 (mulS x y).2]) ∧ Below W.heap.size W w') := fun W => product_any x y hxi hyi W
      have HR3 : Hid (∀ W, Calls Tryz.prog 11 #[.int .i64 x, .int .i64 y] W fun e w' => e = .returned (.agg #[.int .i64 (mulS x y).1, .int .i64 (mulS x y).2]) ∧ Below W.heap.size W w') := fun W => rmulin_any x y W
      have HA4 : Hid (∀ W, Calls Tryz.prog 12 #[.int .i64 x, .int .i64 y] W fun e w' => e = .returned (.agg #[.int .i64 (divS x y).1, .int .i64 (divS x y).2]) ∧ Below W.heap.size W w') := fun W => quotient_any x y hxi hyi W
      have HR4 : Hid (∀ W, Calls Tryz.prog 13 #[.int .i64 x, .int .i64 y] W fun e w' => e = .returned (.agg #[.int .i64 (divS x y).1, .int .i64 (divS x y).2]) ∧ Below W.heap.size W w') := fun W => rdivin_any x y W
      have HA5 : Hid (∀ W, Calls Tryz.prog 14 #[.int .i64 x, .int .i64 y] W fun e w' => e = .returned (.int .i64 (Lib.compareInt x y)) ∧ Below W.heap.size W w') := fun W => (cmp_any x y W).mono fun e w' ⟨he, hw⟩ => ⟨he, by subst hw; exact Below.self _⟩
      have HR5 : Hid (∀ W, Calls Tryz.prog 15 #[.int .i64 x, .int .i64 y] W fun e w' => e = .returned (.int .i64 (Lib.compareInt x y)) ∧ Below W.heap.size W w') := fun W => (rcmpi_any x y W).mono fun e w' ⟨he, hw⟩ => ⟨he, by subst hw; exact Below.self _⟩
      have HA6 : Hid (∀ W, Calls Tryz.prog 16 #[.int .i64 x] W fun e w' => e = .returned (.bool (validB x)) ∧ Below W.heap.size W w') := fun W => (valid_any x hxi W).mono fun e w' ⟨he, hw⟩ => ⟨he, by subst hw; exact Below.self _⟩
      have HR6 : Hid (∀ W, Calls Tryz.prog 17 #[.int .i64 x] W fun e w' => e = .returned (.bool (validB x)) ∧ Below W.heap.size W w') := fun W => (rvalid2_any x W).mono fun e w' ⟨he, hw⟩ => ⟨he, by subst hw; exact Below.self _⟩
      generalize (addS x y).1 = u1 at HA1 HR1
      generalize (addS x y).2 = v1 at HA1 HR1
      generalize (subS x y).1 = u2 at HA2 HR2
      generalize (subS x y).2 = v2 at HA2 HR2
      generalize (mulS x y).1 = u3 at HA3 HR3
      generalize (mulS x y).2 = v3 at HA3 HR3
      generalize (divS x y).1 = u4 at HA4 HR4
      generalize (divS x y).2 = v4 at HA4 HR4
      generalize Lib.compareInt x y = u5 at HA5 HR5
      generalize validB x = u6 at HA6 HR6
      have HTXL := Lib.hid (text_len x hxi)
      have HTX : Hid (∀ W, Calls Tryz.prog 18 #[.int .i64 x] W fun e w' => e = .returned (.string (bsOf (textL x))) ∧ Below W.heap.size W w') := fun W => rtext_any x hxi W
      have HXW := Lib.hid hxi
      have HDR : Hid (Below wr.heap.size wr wr.drew) := ⟨rfl, rfl, rfl, Nat.le_refl _, fun _ _ => rfl⟩
      have HBD := Lib.hid (HI.out.1.trans (HDR.out.mono HI.out.1.size))
      have HTD := Lib.hid (HI.out.2.1.below HDR.out HI.out.2.1.lt)
      have HXD := Lib.hid (HI.out.2.2.below HDR.out HI.out.2.2.lt)
      clear HDR HI x0 x1 hxi hyi
      generalize wr.drew = W0 at *
      have hbw := Below.self W0
      have hf0 := field0
      have hf1 := field1
      obtain ⟨tx, htx⟩ : ∃ tx, textL x = tx := ⟨_, rfl⟩
      rw [htx] at HTXL HTX
      have HTXE := Lib.hid htx
      clear htx
      go_upto_region 12 with (first
        | (go_at_call 6; (with_reducible refine (HA1.out _).mono ?_); rintro e w3 ⟨rfl, hb3⟩; replace hbw := hbw.trans (hb3.mono hbw.size); clear hb3)
        | (go_at_call 8; (with_reducible refine (HA2.out _).mono ?_); rintro e w3 ⟨rfl, hb3⟩; replace hbw := hbw.trans (hb3.mono hbw.size); clear hb3)
        | (go_at_call 10; (with_reducible refine (HA3.out _).mono ?_); rintro e w3 ⟨rfl, hb3⟩; replace hbw := hbw.trans (hb3.mono hbw.size); clear hb3)
        | (go_at_call 12; (with_reducible refine (HA4.out _).mono ?_); rintro e w3 ⟨rfl, hb3⟩; replace hbw := hbw.trans (hb3.mono hbw.size); clear hb3)
        | (go_at_call 7; (with_reducible refine (HR1.out _).mono ?_); rintro e w3 ⟨rfl, hb3⟩; replace hbw := hbw.trans (hb3.mono hbw.size); clear hb3)
        | (go_at_call 9; (with_reducible refine (HR2.out _).mono ?_); rintro e w3 ⟨rfl, hb3⟩; replace hbw := hbw.trans (hb3.mono hbw.size); clear hb3)
        | (go_at_call 11; (with_reducible refine (HR3.out _).mono ?_); rintro e w3 ⟨rfl, hb3⟩; replace hbw := hbw.trans (hb3.mono hbw.size); clear hb3)
        | (go_at_call 13; (with_reducible refine (HR4.out _).mono ?_); rintro e w3 ⟨rfl, hb3⟩; replace hbw := hbw.trans (hb3.mono hbw.size); clear hb3)
        | (go_at_call 14; (with_reducible refine (HA5.out _).mono ?_); rintro e w3 ⟨rfl, hb3⟩; replace hbw := hbw.trans (hb3.mono hbw.size); clear hb3)
        | (go_at_call 15; (with_reducible refine (HR5.out _).mono ?_); rintro e w3 ⟨rfl, hb3⟩; replace hbw := hbw.trans (hb3.mono hbw.size); clear hb3)
        | (go_at_call 16; (with_reducible refine (HA6.out _).mono ?_); rintro e w3 ⟨rfl, hb3⟩; replace hbw := hbw.trans (hb3.mono hbw.size); clear hb3)
        | (go_at_call 17; (with_reducible refine (HR6.out _).mono ?_); rintro e w3 ⟨rfl, hb3⟩; replace hbw := hbw.trans (hb3.mono hbw.size); clear hb3)
        | (go_at_call 18; (with_reducible refine (HTX.out _).mono ?_); rintro e w3 ⟨rfl, hb3⟩; replace hbw := hbw.trans (hb3.mono hbw.size); clear hb3))
      clear HA1 HR1 HA2 HR2 HA3 HR3 HA4 HR4 HA5 HR5 HA6 HR6 hf0 hf1 HTX
      have HB3 := Lib.hid (HBD.out.trans (hbw.mono HBD.out.size))
      have HT3 := Lib.hid (HTD.out.below hbw HTD.out.lt)
      have HX3 := Lib.hid (HXD.out.below hbw HXD.out.lt)
      have HV3 := Lib.hid (HV.out _ HB3.out)
      clear hbw HBD HTD HXD
      have HTS : Hid ((bsOf tx).size < 4294967281) := by show _ < _; rw [bs_size]; have := HTXL.out; omega
      have HSS : Hid ((bsOf S).size < 4294967281) := by show _ < _; rw [bs_size]; have := HSL.out; omega
      have GTa : Hid (∀ d os, Calls Tryz.prog 19 #[.int .i64 x] (grow (redrawn w3 d) os) fun e w' => e = .returned (.string (bsOf tx)) ∧ Below (grow (redrawn w3 d) os).heap.size (grow (redrawn w3 d) os) w') := fun d os => by rw [← HTXE.out]; exact text_any x HXW.out _ (HV3.out.below (below_regrown w3 d os))
      have GPa : Hid (∀ d os, Calls Tryz.prog 20 #[.string (bsOf tx), .int .i64 sc] (grow (redrawn w3 d) os) fun e w' => e = .returned (.agg #[.int .i64 (parseS tx sc).1, .int .i64 (parseS tx sc).2]) ∧ Below (grow (redrawn w3 d) os).heap.size (grow (redrawn w3 d) os) w') := fun d os => by have h := parsed_any (bsOf tx) sc HSC.out HTS.out _ (HV3.out.below (below_regrown w3 d os)); rw [show (bsOf tx).data.toList = tx by unfold bsOf; simp] at h; exact h
      have GPr : Hid (∀ d os, Calls Tryz.prog 21 #[.string (bsOf tx), .int .i64 sc] (grow (redrawn w3 d) os) fun e w' => e = .returned (.agg #[.int .i64 (parseS tx sc).1, .int .i64 (parseS tx sc).2]) ∧ Below (grow (redrawn w3 d) os).heap.size (grow (redrawn w3 d) os) w') := fun d os => rparse_any tx sc (by have := HTXL.out; omega) _
      have GCa : Hid (∀ d os, Calls Tryz.prog 22 #[.int .i64 x, .int .i64 sc] (grow (redrawn w3 d) os) fun e w' => e = .returned (.int .i64 (truncS x sc)) ∧ Below (grow (redrawn w3 d) os).heap.size (grow (redrawn w3 d) os) w') := fun d os => trunc_any x sc HXW.out HSC.out _ (HV3.out.below (below_regrown w3 d os))
      have GCr : Hid (∀ d os, Calls Tryz.prog 23 #[.int .i64 x, .int .i64 sc] (grow (redrawn w3 d) os) fun e w' => e = .returned (.int .i64 (truncS x sc)) ∧ Below (grow (redrawn w3 d) os).heap.size (grow (redrawn w3 d) os) w') := fun d os => (rtrunc_any x sc HXW.out _).mono fun e w' ⟨he, hw⟩ => ⟨he, by subst hw; exact Below.self _⟩
      have GFa : Hid (∀ d os, Calls Tryz.prog 24 #[.int .i64 x, .int .i64 sc] (grow (redrawn w3 d) os) fun e w' => e = .returned (.bool (fitsB x sc)) ∧ Below (grow (redrawn w3 d) os).heap.size (grow (redrawn w3 d) os) w') := fun d os => (fits_any x sc HXW.out HSC.out _ (HV3.out.below (below_regrown w3 d os))).mono fun e w' ⟨he, hw⟩ => ⟨he, by subst hw; exact Below.self _⟩
      have GFr : Hid (∀ d os, Calls Tryz.prog 25 #[.int .i64 x, .int .i64 sc] (grow (redrawn w3 d) os) fun e w' => e = .returned (.bool (fitsB x sc)) ∧ Below (grow (redrawn w3 d) os).heap.size (grow (redrawn w3 d) os) w') := fun d os => (rfits2_any x sc _).mono fun e w' ⟨he, hw⟩ => ⟨he, by subst hw; exact Below.self _⟩
      generalize (parseS tx sc).1 = r1 at GPa GPr
      generalize (parseS tx sc).2 = r2 at GPa GPr
      generalize truncS x sc = r3 at GCa GCr
      generalize fitsB x sc = r4 at GFa GFr
      refine through [117, 118, 119, 120, 121, 122, 123, 124, 125, 126, 127, 128, 129, 130, 131, 132, 133, 134, 135, 136, 137, 138, 139, 140, 141, 142, 143, 144, 145, 146, 147, 148, 149, 150, 151, 152, 153] 153 (.bool false) ?_ ?_
      · have T0 := fun d os => cell_regrown HT3.out.c0 d os
        have T1 := fun d os => cell_regrown HT3.out.c1 d os
        have T2 := fun d os => cell_regrown HT3.out.c2 d os
        have hf0 := field0
        have hf1 := field1
        refine wp_region_quiet_below (by kernel_rfl) (by kernel_rfl) ?_
        repeat (go_big_quiet_step (first
        | (go_at_call 19; with_reducible exact Calls.regrown_of (GTa.out _ _))
        | (go_at_call 20; with_reducible exact Calls.regrown_of (GPa.out _ _))
        | (go_at_call 21; with_reducible exact Calls.regrown_of (GPr.out _ _))
        | (go_at_call 22; with_reducible exact Calls.regrown_of (GCa.out _ _))
        | (go_at_call 23; with_reducible exact Calls.regrown_of (GCr.out _ _))
        | (go_at_call 24; with_reducible exact Calls.regrown_of (GFa.out _ _))
        | (go_at_call 25; with_reducible exact Calls.regrown_of (GFr.out _ _))))
        refine wpQuiet_nil ?_
        intro _ hw'
        obtain ⟨⟨dq, osq⟩, hw''⟩ := hw'
        subst hw''
        exact shown (below_regrown _ _ _) rfl (by kernel_rfl)
      · intro ev11 V11 hev11 hB11
        simp only [putAll, hev11]
        clear hev11
        have HB4 := Lib.hid (HB3.out.trans (hB11.mono HB3.out.size))
        have HT4 := Lib.hid (HT3.out.below hB11 HT3.out.lt)
        have HX4 := Lib.hid (HX3.out.below hB11 HX3.out.lt)
        clear hB11 HB3 HT3 HX3 HV3 GTa GPa GPr GCa GCr GFa GFr
        simp [Act.put]
        generalize wr = w0 at *
        go_wp2_with fail
        go_loopw [13] (fun s wr => ∃ j : Nat, j ≤ 9 ∧ s = .int .i64 ((j : Int) - 1) ∧ Hid (Below w.heap.size w wr ∧ Trio wr B0 24 (.string (bsOf S)) (.int .i64 sc) (.slice p len cap) ∧ Blk wr B1 26 xs)) (fun s _ => (8 - intOf s).toNat)
        case atStart => exact ⟨0, by omega, by simp, HB4.out, HT4.out, HX4.out⟩
        case round =>
          obtain ⟨j, hj, rfl, HJ⟩ := hrel
          clear HB4 HT4 HX4
          obtain ⟨t, ht⟩ : ∃ t : Int, (j : Int) - 1 = t := ⟨_, rfl⟩
          rw [ht]
          by_cases hj9 : j < 9
          · have htI : t ≤ 7 := by omega
            have HTW : Hid (I64 t) := ⟨by omega, by omega⟩
            have HNX : Hid (t + 1 = ((j + 1 : Nat) : Int) - 1) := by show _ = _; omega
            have HJ9 : Hid (j + 1 ≤ 9 ∧ 8 - (t + 1) < 8 - t ∧ t < 8) := by show _ ∧ _; omega
            have K1 : Hid (wrap64 (t + 1) = t + 1 ∧ IntKind.i64.wrap (t + 1) = t + 1) := i64w (by omega) (by omega)
            clear ht
            have HVJ := Lib.hid (HV.out _ HJ.out.1)
            have GPa : Hid (∀ d os, Calls Tryz.prog 20 #[.string (bsOf tx), .int .i64 t] (grow (redrawn wr d) os) fun e w' => e = .returned (.agg #[.int .i64 (parseS tx t).1, .int .i64 (parseS tx t).2]) ∧ Below (grow (redrawn wr d) os).heap.size (grow (redrawn wr d) os) w') := fun d os => by have h := parsed_any (bsOf tx) t HTW.out HTS.out _ (HVJ.out.below (below_regrown wr d os)); rw [show (bsOf tx).data.toList = tx by unfold bsOf; simp] at h; exact h
            have GPr : Hid (∀ d os, Calls Tryz.prog 21 #[.string (bsOf tx), .int .i64 t] (grow (redrawn wr d) os) fun e w' => e = .returned (.agg #[.int .i64 (parseS tx t).1, .int .i64 (parseS tx t).2]) ∧ Below (grow (redrawn wr d) os).heap.size (grow (redrawn wr d) os) w') := fun d os => rparse_any tx t (by have := HTXL.out; omega) _
            have GQa : Hid (∀ d os, Calls Tryz.prog 20 #[.string (bsOf S), .int .i64 t] (grow (redrawn wr d) os) fun e w' => e = .returned (.agg #[.int .i64 (parseS S t).1, .int .i64 (parseS S t).2]) ∧ Below (grow (redrawn wr d) os).heap.size (grow (redrawn wr d) os) w') := fun d os => by have h := parsed_any (bsOf S) t HTW.out HSS.out _ (HVJ.out.below (below_regrown wr d os)); rw [show (bsOf S).data.toList = S by unfold bsOf; simp] at h; exact h
            have GQr : Hid (∀ d os, Calls Tryz.prog 21 #[.string (bsOf S), .int .i64 t] (grow (redrawn wr d) os) fun e w' => e = .returned (.agg #[.int .i64 (parseS S t).1, .int .i64 (parseS S t).2]) ∧ Below (grow (redrawn wr d) os).heap.size (grow (redrawn wr d) os) w') := fun d os => rparse_any S t (by have := HSL.out; omega) _
            have GCa : Hid (∀ d os, Calls Tryz.prog 22 #[.int .i64 x, .int .i64 t] (grow (redrawn wr d) os) fun e w' => e = .returned (.int .i64 (truncS x t)) ∧ Below (grow (redrawn wr d) os).heap.size (grow (redrawn wr d) os) w') := fun d os => trunc_any x t HXW.out HTW.out _ (HVJ.out.below (below_regrown wr d os))
            have GCr : Hid (∀ d os, Calls Tryz.prog 23 #[.int .i64 x, .int .i64 t] (grow (redrawn wr d) os) fun e w' => e = .returned (.int .i64 (truncS x t)) ∧ Below (grow (redrawn wr d) os).heap.size (grow (redrawn wr d) os) w') := fun d os => (rtrunc_any x t HXW.out _).mono fun e w' ⟨he, hw⟩ => ⟨he, by subst hw; exact Below.self _⟩
            have GFa : Hid (∀ d os, Calls Tryz.prog 24 #[.int .i64 x, .int .i64 t] (grow (redrawn wr d) os) fun e w' => e = .returned (.bool (fitsB x t)) ∧ Below (grow (redrawn wr d) os).heap.size (grow (redrawn wr d) os) w') := fun d os => (fits_any x t HXW.out HTW.out _ (HVJ.out.below (below_regrown wr d os))).mono fun e w' ⟨he, hw⟩ => ⟨he, by subst hw; exact Below.self _⟩
            have GFr : Hid (∀ d os, Calls Tryz.prog 25 #[.int .i64 x, .int .i64 t] (grow (redrawn wr d) os) fun e w' => e = .returned (.bool (fitsB x t)) ∧ Below (grow (redrawn wr d) os).heap.size (grow (redrawn wr d) os) w') := fun d os => (rfits2_any x t _).mono fun e w' ⟨he, hw⟩ => ⟨he, by subst hw; exact Below.self _⟩
            generalize (parseS tx t).1 = r1 at GPa GPr
            generalize (parseS tx t).2 = r2 at GPa GPr
            generalize (parseS S t).1 = r5 at GQa GQr
            generalize (parseS S t).2 = r6 at GQa GQr
            generalize truncS x t = r3 at GCa GCr
            generalize fitsB x t = r4 at GFa GFr
            have HTJ := Lib.hid HJ.out.2.1
            go_upto_region 17 with fail
            refine through [158, 159, 160, 161, 162, 163, 164, 165, 166, 167, 168, 169, 170, 171, 172, 173, 174, 175, 176, 177, 178, 179, 180, 181, 182, 183, 184, 185, 186, 187, 188, 189, 190, 191, 192, 193] 193 (.bool false) ?_ ?_
            · have T0 := fun d os => cell_regrown HTJ.out.c0 d os
              have T1 := fun d os => cell_regrown HTJ.out.c1 d os
              have T2 := fun d os => cell_regrown HTJ.out.c2 d os
              have hf0 := field0
              have hf1 := field1
              refine wp_region_quiet_below (by kernel_rfl) (by kernel_rfl) ?_
              repeat (go_big_quiet_step (first
        | (go_at_call 20; with_reducible exact Calls.regrown_of (GPa.out _ _))
        | (go_at_call 21; with_reducible exact Calls.regrown_of (GPr.out _ _))
        | (go_at_call 20; with_reducible exact Calls.regrown_of (GQa.out _ _))
        | (go_at_call 21; with_reducible exact Calls.regrown_of (GQr.out _ _))
        | (go_at_call 22; with_reducible exact Calls.regrown_of (GCa.out _ _))
        | (go_at_call 23; with_reducible exact Calls.regrown_of (GCr.out _ _))
        | (go_at_call 24; with_reducible exact Calls.regrown_of (GFa.out _ _))
        | (go_at_call 25; with_reducible exact Calls.regrown_of (GFr.out _ _))))
              refine wpQuiet_nil ?_
              intro _ hw'
              obtain ⟨⟨dq, osq⟩, hw''⟩ := hw'
              subst hw''
              exact shown (below_regrown _ _ _) rfl (by kernel_rfl)
            · intro ev12 V12 hev12 hB12
              simp only [putAll, hev12]
              clear hev12
              have HI5 : Hid (Below w.heap.size w V12 ∧ Trio V12 B0 24 (.string (bsOf S)) (.int .i64 sc) (.slice p len cap) ∧ Blk V12 B1 26 xs) := ⟨HJ.out.1.trans (hB12.mono HJ.out.1.size), HJ.out.2.1.below hB12 HJ.out.2.1.lt, HJ.out.2.2.below hB12 HJ.out.2.2.lt⟩
              clear hB12 HJ HTJ HVJ GPa GPr GQa GQr GCa GCr GFa GFr
              simp [Act.put]
              obtain ⟨k1, k1a⟩ := K1.out
              clear K1
              go_wp2_with fail
              go_roundw
              case rel => exact ⟨j + 1, HJ9.out.1, by rw [← HNX.out], HI5.out.1, HI5.out.2.1, HI5.out.2.2⟩
              case measure => clear k1 k1a; have := HJ9.out; simp [intOf]; omega
          · have htI : ¬ t ≤ 7 := by omega
            clear ht
            go_wp2_with fail
            go_roundw
            case rel => exact ⟨k + 1, by omega, by go_num, HJ.out.1, HJ.out.2.1, HJ.out.2.2⟩
            case measure => simp [intOf]; omega
    · have hltI : ¬ ((k : Int) < 4) := by omega
      have HB9 := Lib.hid HI.out.1
      have HT9 := Lib.hid HI.out.2.1
      have HV9 := Lib.hid (HV.out _ HB9.out)
      have HSS : Hid ((bsOf S).size < 4294967281) := by show _ < _; rw [bs_size]; have := HSL.out; omega
      clear HI
      have GSa : Hid (∀ d os, Calls Tryz.prog 26 #[.slice p len cap] (grow (redrawn wr d) os) fun e w' => e = .returned (.agg #[.int .i64 (sumS zs).1, .int .i64 (sumS zs).2]) ∧ Below (grow (redrawn wr d) os).heap.size (grow (redrawn wr d) os) w') := fun d os => lsum_any _ zs (by have h1 := HLL.out; have h2 := HR.out.hl; omega) HZ.out _ (((HR.out.below (HB9.out.trans ((below_regrown wr d os).mono HB9.out.size))).mono (K' := fun b => b < (grow (redrawn wr d) os).heap.size) fun b hb _ => hb).reads)
      have GSr : Hid (∀ d os, Calls Tryz.prog 27 #[.slice p len cap] (grow (redrawn wr d) os) fun e w' => e = .returned (.agg #[.int .i64 (sumS zs).1, .int .i64 (sumS zs).2]) ∧ Below (grow (redrawn wr d) os).heap.size (grow (redrawn wr d) os) w') := fun d os => rsumin_any (HR.out.below (HB9.out.trans ((below_regrown wr d os).mono HB9.out.size))) (by have := HLL.out; omega)
      have GQa : Hid (∀ d os, Calls Tryz.prog 20 #[.string (bsOf S), .int .i64 sc] (grow (redrawn wr d) os) fun e w' => e = .returned (.agg #[.int .i64 (parseS S sc).1, .int .i64 (parseS S sc).2]) ∧ Below (grow (redrawn wr d) os).heap.size (grow (redrawn wr d) os) w') := fun d os => by have h := parsed_any (bsOf S) sc HSC.out HSS.out _ (HV9.out.below (below_regrown wr d os)); rw [show (bsOf S).data.toList = S by unfold bsOf; simp] at h; exact h
      have GQr : Hid (∀ d os, Calls Tryz.prog 21 #[.string (bsOf S), .int .i64 sc] (grow (redrawn wr d) os) fun e w' => e = .returned (.agg #[.int .i64 (parseS S sc).1, .int .i64 (parseS S sc).2]) ∧ Below (grow (redrawn wr d) os).heap.size (grow (redrawn wr d) os) w') := fun d os => rparse_any S sc (by have := HSL.out; omega) _
      generalize (sumS zs).1 = r1 at GSa GSr
      generalize (sumS zs).2 = r2 at GSa GSr
      generalize (parseS S sc).1 = r5 at GQa GQr
      generalize (parseS S sc).2 = r6 at GQa GQr
      go_upto_region 19 with fail
      refine through [194, 195, 196, 197, 198, 199, 200, 201, 202, 203, 204, 205, 206, 207, 208, 209, 210, 211, 212, 213, 214, 215, 216, 6] 6 (.bool true) ?_ ?_
      · have T0 := fun d os => cell_regrown HT9.out.c0 d os
        have T1 := fun d os => cell_regrown HT9.out.c1 d os
        have T2 := fun d os => cell_regrown HT9.out.c2 d os
        have hf0 := field0
        have hf1 := field1
        refine wp_region_quiet_below (by kernel_rfl) (by kernel_rfl) ?_
        repeat (go_big_quiet_step (first
        | (go_at_call 26; with_reducible exact Calls.regrown_of (GSa.out _ _))
        | (go_at_call 27; with_reducible exact Calls.regrown_of (GSr.out _ _))
        | (go_at_call 20; with_reducible exact Calls.regrown_of (GQa.out _ _))
        | (go_at_call 21; with_reducible exact Calls.regrown_of (GQr.out _ _))))
        refine wpQuiet_nil ?_
        intro _ hw'
        obtain ⟨⟨dq, osq⟩, hw''⟩ := hw'
        subst hw''
        exact shown (below_regrown _ _ _) rfl (by kernel_rfl)
      · intro ev13 V13 hev13 hB13
        simp only [putAll, hev13]
        clear hev13
        have HBX := Lib.hid (HB9.out.trans (hB13.mono HB9.out.size))
        clear hB13 HB9 HT9 HV9 GSa GSr GQa GQr
        simp [Act.put]
        go_wp2
        go_ret
        exact ⟨rfl, HBX.out⟩

end Go.Proofs.YtocnkjnlmciojaaGreatDoor.De.decimalMatches
