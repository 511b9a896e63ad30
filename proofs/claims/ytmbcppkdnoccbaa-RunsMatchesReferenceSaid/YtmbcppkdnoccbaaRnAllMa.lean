/-
  Runs, expansions, differences, sums, kinds, encodings and what is decoded are as in the reference: for all lists, pairs of lists and bytes the law returns true and changes nothing. No condition. Runs, expansions, differences, sums, kinds, encodings and what is decoded are as in the reference: the law returns true for all arguments, and changes nothing. No condition.
-/
import Derived.Test.YtmbcppkdnoccbaaRows
import Derived.Test.YtmbcppkdnoccbaaRnTop2
import Derived.Test.YtmbcppkdnoccbaaRnTop3
import Derived.OpenShut
import Derived.Deep.DeepCutAuto
import Derived.Deep.RegionHeldLaw
namespace Go.Proofs.Ytmbcppkdnoccbaa.runsMatchesReference
open Go.ChangeShapes Go.WideShapes Go.ChangeAt Go.RowKit
open Go.Proofs.Ytmbcppkdnoccbaa

theorem smalls_nil : Smalls [] := fun x hx => by cases hx

/-- The world behind the examples: the boxes of the arguments, the encodings. -/
structure At6 (w V : World) (Z X Y : Nat) (vz0 vz1 vz2 : Value) (p0 p1 : Value) (q0 q1 : Value) : Prop where
  z : Tri V Z 27 vz0 vz1 vz2
  x : Pair V X 33 p0 p1
  y : Pair V Y 33 q0 q1
  b : Below w.heap.size w V

set_option maxRecDepth 100000 in
set_option maxHeartbeats 20000000 in
theorem walk {K1 K2 K3 K4 : Nat → Prop} {a1 a2 a3 a4 : Option Addr} {n1 c1 n2 c2 n3 c3 n4 c4 : Nat} {zs vs ns bs : List Int} (hz : Smalls zs) (hns : Smalls ns) (ho : Oct bs) (k0 k1 : Nat) (hk0 : k0 < 65536) (_hk1 : k1 < 65536)
    (h1 : n1 ≤ 300) (h2 : n2 ≤ 300) (h3 : n3 ≤ 300) (h4 : n4 ≤ 300) (w : World) (hR1 : Rd K1 w .i64 a1 n1 c1 zs) (hR2 : Rd K2 w .i64 a2 n2 c2 vs) (hR3 : Rd K3 w .i64 a3 n3 c3 ns) (hR4 : Rd K4 w .u8 a4 n4 c4 bs) :
    Calls Try.prog 3 #[.slice a1 n1 c1, .agg #[.slice a2 n2 c2, .slice a3 n3 c3, .slice a4 n4 c4], .agg #[.int .u16 k0, .int .u16 k1]] w fun e w' => e = .returned (.bool true) ∧ Below w.heap.size w w' := by
  obtain ⟨i0, hi, hz0, hz1, hz2⟩ := info_parts Try.infoB
  have HW1 : Hid (Rd (fun b => b < w.heap.size) w .i64 a1 n1 c1 zs) := hR1.mono fun b h _ => h
  have HW2 : Hid (Rd (fun b => b < w.heap.size) w .i64 a2 n2 c2 vs) := hR2.mono fun b h _ => h
  have HW3 : Hid (Rd (fun b => b < w.heap.size) w .i64 a3 n3 c3 ns) := hR3.mono fun b h _ => h
  have HW4 : Hid (Rd (fun b => b < w.heap.size) w .u8 a4 n4 c4 bs) := hR4.mono fun b h _ => h
  have HL1 := Lib.hid hR1.hl
  clear hR1 hR2 hR3 hR4
  have hb0 : Below w.heap.size w ((w.alloc (.cells #[.slice a2 n2 c2, .slice a3 n3 c3, .slice a4 n4 c4] 27)).alloc (.cells #[.int .u16 k0, .int .u16 k1] 29)) := ((Below.refl _ _).alloc (Nat.le_refl _) _).alloc (by simp) _
  have HZ0 : Hid (Tri ((w.alloc (.cells #[.slice a2 n2 c2, .slice a3 n3 c3, .slice a4 n4 c4] 27)).alloc (.cells #[.int .u16 k0, .int .u16 k1] 29)) w.heap.size 27 (.slice a2 n2 c2) (.slice a3 n3 c3) (.slice a4 n4 c4)) :=
    (Below.heap_alloc _ _ _ (by simp)).trans (Tri.new w _ _ _ _)
  have hk0' := Pair.new (w.alloc (.cells #[.slice a2 n2 c2, .slice a3 n3 c3, .slice a4 n4 c4] 27)) 29 (.int .u16 k0) (.int .u16 k1)
  rw [World.size_alloc] at hk0'
  have HK0 := Lib.hid hk0'
  clear hk0'
  have HB0 := Lib.hid hb0
  clear hb0
  obtain ⟨Z, hZ⟩ : ∃ Z, w.heap.size = Z := ⟨_, rfl⟩
  obtain ⟨KB, hKB⟩ : ∃ B, Z + 1 = B := ⟨_, rfl⟩
  rw [hZ] at HZ0 HK0
  rw [hKB] at HK0
  go_enter Try.func3, Try.ntmps3
  go_upto_region 1 with fail
  try rw [hZ]
  try rw [hKB]
  clear hZ hKB
  generalize (w.alloc (.cells #[.slice a2 n2 c2, .slice a3 n3 c3, .slice a4 n4 c4] 27)).alloc (.cells #[.int .u16 k0, .int .u16 k1] 29) = V0 at *
  go_wp2_with fail
  refine (examples4_any _).mono ?_
  rintro e w1 ⟨rfl, hb1⟩
  have HB1 : Hid (Below w.heap.size w w1) := HB0.out.trans (hb1.mono HB0.out.size)
  have HZ1 := Lib.hid (HZ0.out.below hb1 HZ0.out.lt)
  have HK1 := Lib.hid (HK0.out.below hb1 HK0.out.lt)
  obtain ⟨z0, z1, z2⟩ := HZ1.out.cell
  clear hb1 HB0 HZ0 HK0
  go_wp2_with fail
  clear z0 z1 z2
  have hel := en_len hz (by rw [← HL1.out]; omega)
  have HEO := Lib.hid (en_oct zs)
  refine (encoded_any hz (by omega) (HW1.out.below HB1.out)).mono ?_
  rintro e w2 ⟨gx, lx, cx, rfl, hrx, hb2⟩
  have HLX := Lib.hid hrx.hl
  rw [← HLX.out] at hel
  have HX2 := Lib.hid (hrx.mono (K' := fun _ => True) fun _ _ _ => trivial)
  have HB2 : Hid (Below w.heap.size w w2) := HB1.out.trans (hb2.mono HB1.out.size)
  have HZ2 := Lib.hid (HZ1.out.below hb2 HZ1.out.lt)
  have HK2 := Lib.hid (HK1.out.below hb2 HK1.out.lt)
  clear hrx hb2 HB1 HZ1 HK1
  go_wp2_with fail
  refine (encodeR_any hz (by omega) (HW1.out.below HB2.out)).mono ?_
  rintro e w3 ⟨gy, ly, cy, rfl, hry, hb3⟩
  obtain rfl : ly = lx := hry.hl.trans HLX.out.symm
  have HY3 := Lib.hid (hry.mono (K' := fun _ => True) fun _ _ _ => trivial)
  have HX3 := Lib.hid (HX2.out.below hb3)
  have HB3 : Hid (Below w.heap.size w w3) := HB2.out.trans (hb3.mono HB2.out.size)
  have HZ3 := Lib.hid (HZ2.out.below hb3 HZ2.out.lt)
  have HK3 := Lib.hid (HK2.out.below hb3 HK2.out.lt)
  clear hry hb3 HB2 HZ2 HK2 HX2
  go_upto_region 7 with fail
  have hbV : Below w3.heap.size w3 ((w3.alloc (.cells #[.slice (some ⟨gx, 0, none⟩) ly cx, .int .i64 0] 33)).alloc (.cells #[.slice (some ⟨gy, 0, none⟩) ly cy, .int .i64 0] 33)) := ((Below.refl _ _).alloc (Nat.le_refl _) _).alloc (by simp) _
  have hpx := (Pair.new w3 33 (.slice (some ⟨gx, 0, none⟩) ly cx) (.int .i64 0)).alloc (.cells #[.slice (some ⟨gy, 0, none⟩) ly cy, .int .i64 0] 33)
  have hpy := Pair.new (w3.alloc (.cells #[.slice (some ⟨gx, 0, none⟩) ly cx, .int .i64 0] 33)) 33 (.slice (some ⟨gy, 0, none⟩) ly cy) (.int .i64 0)
  rw [World.size_alloc] at hpy
  have HPX := Lib.hid hpx
  have HPY := Lib.hid hpy
  have HX4 := Lib.hid (HX3.out.below hbV)
  have HY4 := Lib.hid (HY3.out.below hbV)
  have HB4 : Hid (Below w.heap.size w ((w3.alloc (.cells #[.slice (some ⟨gx, 0, none⟩) ly cx, .int .i64 0] 33)).alloc (.cells #[.slice (some ⟨gy, 0, none⟩) ly cy, .int .i64 0] 33))) := HB3.out.trans (hbV.mono HB3.out.size)
  have HZ4 := Lib.hid (HZ3.out.below hbV HZ3.out.lt)
  have HK4 := Lib.hid (HK3.out.below hbV HK3.out.lt)
  obtain ⟨X, hX⟩ : ∃ X, w3.heap.size = X := ⟨_, rfl⟩
  obtain ⟨Y, hY⟩ : ∃ Y, X + 1 = Y := ⟨_, rfl⟩
  rw [hX] at HPX HPY ⊢
  rw [hY] at HPY ⊢
  clear hbV hpx hpy hX hY HB3 HZ3 HK3 HX3 HY3
  generalize (w3.alloc (.cells #[.slice (some ⟨gx, 0, none⟩) ly cx, .int .i64 0] 33)).alloc (.cells #[.slice (some ⟨gy, 0, none⟩) ly cy, .int .i64 0] 33) = V at *
  obtain ⟨xl, hxl⟩ : ∃ xl, (xpS vs ns).1 = xl := ⟨_, rfl⟩
  obtain ⟨xe, hxe⟩ : ∃ xe, (xpS vs ns).2 = xe := ⟨_, rfl⟩
  have HE1 : Hid (∀ U, Below w.heap.size w U → Calls Try.prog 13 #[.agg #[.slice a2 n2 c2, .slice a3 n3 c3]] U fun e w' => ∃ v, e = .returned v ∧ ∃ a n c, v = .agg #[.slice a n c, .int .i64 xe] ∧ Rd (fun b => U.heap.size ≤ b) w' .i64 a n c xl ∧ Below U.heap.size U w') := fun U h =>
    (expanded_any hns (HW2.out.below h) (HW3.out.below h)).mono fun _ _ ⟨a, n, c, he, h1, h2⟩ => ⟨_, he, a, n, c, by rw [← hxe], by rw [← hxl]; exact h1, h2⟩
  have HE2 : Hid (∀ U, Below w.heap.size w U → Calls Try.prog 14 #[.agg #[.slice a2 n2 c2, .slice a3 n3 c3]] U fun e w' => ∃ v, e = .returned v ∧ ∃ a n c, v = .agg #[.slice a n c, .int .i64 xe] ∧ Rd (fun b => U.heap.size ≤ b) w' .i64 a n c xl ∧ Below U.heap.size U w') := fun U h =>
    (expandR_any (HW2.out.below h) (HW3.out.below h)).mono fun _ _ ⟨a, n, c, he, h1, h2⟩ => ⟨_, he, a, n, c, by rw [← hxe], by rw [← hxl]; exact h1, h2⟩
  clear hxl hxe
  obtain ⟨z0, z1, z2⟩ := HZ4.out.cell
  have zlt := HZ4.out.lt
  have HEL := Lib.hid hel
  clear hel
  have HVB : Hid (Below w.heap.size w V.drew) := below_drew HB4.out
  have HBZ : Hid (Below V.heap.size V V.drew) := below_drew (Below.refl _ _)
  have HBZ1 : Hid (Below V.heap.size V ((V.alloc (.cells #[.slice none 0 0, .int .i64 0] 36)).drew)) := below_drew ((Below.refl _ _).alloc (Nat.le_refl _) _)
  have HBZ2 : Hid (Below V.heap.size V (((V.alloc (.cells #[.slice none 0 0, .int .i64 0] 36)).alloc (.cells #[.slice none 0 0, .int .i64 0] 36)).drew)) := below_drew (((Below.refl _ _).alloc (Nat.le_refl _) _).alloc (by rw [World.size_alloc]; exact Nat.le_succ _) _)
  go_cut [10, 11] (fun s t wx => ∃ A B, s = .pointer (some ⟨A, 0, none⟩) ∧ t = .pointer (some ⟨B, 0, none⟩) ∧ TwoAt V wx A B xl xe)
  case first =>
    have HS : Hid (∀ U, Below V.heap.size V U → Z < U.heap.size ∧ U.cell? ⟨Z, 0, none⟩ = some (.slice a2 n2 c2) ∧ U.cell? ⟨Z, 1, none⟩ = some (.slice a3 n3 c3)) := fun U h => ⟨(HZ4.out.below h HZ4.out.lt).lt, (HZ4.out.below h HZ4.out.lt).cell.1, (HZ4.out.below h HZ4.out.lt).cell.2.1⟩
    have HS2 : Hid (∀ (U : World) (A : Nat) (x y : Value), Below V.heap.size V U → V.heap.size ≤ A → Z < (((U.setCell ⟨A, 0, none⟩ x).setCell ⟨A, 1, none⟩ y)).heap.size ∧ (((U.setCell ⟨A, 0, none⟩ x).setCell ⟨A, 1, none⟩ y)).cell? ⟨Z, 0, none⟩ = some (.slice a2 n2 c2) ∧ (((U.setCell ⟨A, 0, none⟩ x).setCell ⟨A, 1, none⟩ y)).cell? ⟨Z, 1, none⟩ = some (.slice a3 n3 c3)) := fun U A x y h hA => HS.out _ ((h.setCell (p := ⟨A, 0, none⟩) hA _).setCell (p := ⟨A, 1, none⟩) hA _)
    have HS4 : Hid (∀ (U : World) (A B : Nat) (x y x' y' : Value), Below V.heap.size V U → V.heap.size ≤ A → V.heap.size ≤ B → Z < (((((U.setCell ⟨A, 0, none⟩ x).setCell ⟨A, 1, none⟩ y).setCell ⟨B, 0, none⟩ x').setCell ⟨B, 1, none⟩ y')).heap.size ∧ (((((U.setCell ⟨A, 0, none⟩ x).setCell ⟨A, 1, none⟩ y).setCell ⟨B, 0, none⟩ x').setCell ⟨B, 1, none⟩ y')).cell? ⟨Z, 0, none⟩ = some (.slice a2 n2 c2) ∧ (((((U.setCell ⟨A, 0, none⟩ x).setCell ⟨A, 1, none⟩ y).setCell ⟨B, 0, none⟩ x').setCell ⟨B, 1, none⟩ y')).cell? ⟨Z, 1, none⟩ = some (.slice a3 n3 c3)) := fun U A B x y x' y' h hA hB => HS.out _ ((((h.setCell (p := ⟨A, 0, none⟩) hA _).setCell (p := ⟨A, 1, none⟩) hA _).setCell (p := ⟨B, 0, none⟩) hB _).setCell (p := ⟨B, 1, none⟩) hB _)
    have HS3 : Hid (∀ (U : World) (A : Nat) (x y : Value) (o : Obj), Below V.heap.size V U → V.heap.size ≤ A → Z < (((U.setCell ⟨A, 0, none⟩ x).setCell ⟨A, 1, none⟩ y).alloc o).heap.size ∧ (((U.setCell ⟨A, 0, none⟩ x).setCell ⟨A, 1, none⟩ y).alloc o).cell? ⟨Z, 0, none⟩ = some (.slice a2 n2 c2) ∧ (((U.setCell ⟨A, 0, none⟩ x).setCell ⟨A, 1, none⟩ y).alloc o).cell? ⟨Z, 1, none⟩ = some (.slice a3 n3 c3)) := fun U A x y o h hA => HS.out _ (((h.setCell (p := ⟨A, 0, none⟩) hA _).setCell (p := ⟨A, 1, none⟩) hA _).alloc (by rw [set_size]; exact h.size) _)
    clear hz hns ho hk0 _hk1 h1 h2 h3 h4 hi hz0 hz1 hz2 z0 z1 z2
    go_region_held_law (fun U => Z < U.heap.size ∧ U.cell? ⟨Z, 0, none⟩ = some (.slice a2 n2 c2) ∧ U.cell? ⟨Z, 1, none⟩ = some (.slice a3 n3 c3)) ((first
        | with_reducible exact HS.out _ HBZ.out | with_reducible exact HS.out _ HBZ1.out | with_reducible exact HS.out _ HBZ2.out
        | with_reducible exact HS.out _ HB5.out | with_reducible exact HS.out _ (HB5.out.alloc HB5.out.size _) | with_reducible exact HS.out _ ((HB5.out.alloc HB5.out.size _).alloc (HB5.out.alloc HB5.out.size _).size _)
        | with_reducible exact HS.out _ HB6.out | with_reducible exact HS.out _ (HB6.out.alloc HB6.out.size _) | with_reducible exact HS.out _ ((HB6.out.alloc HB6.out.size _).alloc (HB6.out.alloc HB6.out.size _).size _)
        | (with_reducible refine HS4.out _ _ _ _ _ _ _ HB6.out ?_ ?_) <;> first | exact Nat.le_refl _ | omega
        | (with_reducible refine HS2.out _ _ _ _ HB6.out ?_) <;> first | exact Nat.le_refl _ | omega
        | (with_reducible refine HS3.out _ _ _ _ _ HB6.out ?_) <;> first | exact Nat.le_refl _ | omega
        | (trace_state; fail "KEEP"))) (first
      | (refine step_call_some (by go_simp) 13 #[.tmp 45] #[24] (by rfl) #[.agg #[.slice a2 n2 c2, .slice a3 n3 c3]] (by go_simp) (enters_of Try.func13 (by kernel_rfl) rfl _ _) _ (HE1.out V.drew HVB.out) ?_
         rintro v w5 ⟨a5, n5, c5, rfl, hr5, hb5⟩
         have HR5 : Hid (Rd (fun b => V.heap.size ≤ b ∧ b < w5.heap.size) w5 .i64 a5 n5 c5 xl) := hr5.mono fun b h1 h2 => ⟨h2, h1⟩
         have HB5 : Hid (Below V.heap.size V w5) := HBZ.out.trans hb5
         have s5 : V.heap.size ≤ w5.heap.size := HB5.out.size
         clear hr5 hb5)
      | (refine step_call_some (by go_simp) 13 #[.tmp 45] #[24] (by rfl) #[.agg #[.slice a2 n2 c2, .slice a3 n3 c3]] (by go_simp) (enters_of Try.func13 (by kernel_rfl) rfl _ _) _ (HE1.out ((V.alloc (.cells #[.slice none 0 0, .int .i64 0] 36)).drew) (below_drew (HB4.out.alloc HB4.out.size _))) ?_
         rintro v w5 ⟨a5, n5, c5, rfl, hr5, hb5⟩
         have HR5 : Hid (Rd (fun b => V.heap.size + 1 ≤ b ∧ b < w5.heap.size) w5 .i64 a5 n5 c5 xl) := hr5.mono fun b h1 h2 => ⟨by have h2 : (V.alloc (.cells #[.slice none 0 0, .int .i64 0] 36)).heap.size ≤ b := h2; rw [World.size_alloc] at h2; exact h2, h1⟩
         have HB5 : Hid (Below V.heap.size V w5) := HBZ1.out.trans (hb5.mono HBZ1.out.size)
         have s5 : V.heap.size + 1 ≤ w5.heap.size := by have h2 : (V.alloc (.cells #[.slice none 0 0, .int .i64 0] 36)).heap.size ≤ w5.heap.size := hb5.size; rw [World.size_alloc] at h2; exact h2
         have pa0 := (show Pair ((V.alloc (.cells #[.slice none 0 0, .int .i64 0] 36)).drew) V.heap.size 36 (.slice none 0 0) (.int .i64 0) from Pair.new V 36 (.slice none 0 0) (.int .i64 0)).below hb5 (by show _ < (V.alloc _).heap.size; rw [World.size_alloc]; exact Nat.lt_succ_self _)
         have pa0 : Pair w5 V.heap.size 36 (.slice none 0 0) (.int .i64 0) := pa0
         clear hr5 hb5)
      | (refine step_call_some (by go_simp) 13 #[.tmp 45] #[24] (by rfl) #[.agg #[.slice a2 n2 c2, .slice a3 n3 c3]] (by go_simp) (enters_of Try.func13 (by kernel_rfl) rfl _ _) _ (HE1.out (((V.alloc (.cells #[.slice none 0 0, .int .i64 0] 36)).alloc (.cells #[.slice none 0 0, .int .i64 0] 36)).drew) (below_drew ((HB4.out.alloc HB4.out.size _).alloc (HB4.out.alloc HB4.out.size _).size _))) ?_
         rintro v w5 ⟨a5, n5, c5, rfl, hr5, hb5⟩
         have HR5 : Hid (Rd (fun b => V.heap.size + 2 ≤ b ∧ b < w5.heap.size) w5 .i64 a5 n5 c5 xl) := hr5.mono fun b h1 h2 => ⟨by have h2 : ((V.alloc (.cells #[.slice none 0 0, .int .i64 0] 36)).alloc (.cells #[.slice none 0 0, .int .i64 0] 36)).heap.size ≤ b := h2; rw [World.size_alloc, World.size_alloc] at h2; exact h2, h1⟩
         have HB5 : Hid (Below V.heap.size V w5) := HBZ2.out.trans (hb5.mono HBZ2.out.size)
         have s5 : V.heap.size + 2 ≤ w5.heap.size := by have h2 : ((V.alloc (.cells #[.slice none 0 0, .int .i64 0] 36)).alloc (.cells #[.slice none 0 0, .int .i64 0] 36)).heap.size ≤ w5.heap.size := hb5.size; rw [World.size_alloc, World.size_alloc] at h2; exact h2
         have pa0 := (show Pair (((V.alloc (.cells #[.slice none 0 0, .int .i64 0] 36)).alloc (.cells #[.slice none 0 0, .int .i64 0] 36)).drew) V.heap.size 36 (.slice none 0 0) (.int .i64 0) from (Pair.new V 36 (.slice none 0 0) (.int .i64 0)).alloc (.cells #[.slice none 0 0, .int .i64 0] 36)).below hb5 (by show _ < ((V.alloc _).alloc _).heap.size; rw [World.size_alloc, World.size_alloc]; omega)
         have pa0 : Pair w5 V.heap.size 36 (.slice none 0 0) (.int .i64 0) := pa0
         have pb1 := Pair.new (V.alloc (.cells #[.slice none 0 0, .int .i64 0] 36)) 36 (.slice none 0 0) (.int .i64 0)
         rw [World.size_alloc] at pb1
         have pa1 := (show Pair (((V.alloc (.cells #[.slice none 0 0, .int .i64 0] 36)).alloc (.cells #[.slice none 0 0, .int .i64 0] 36)).drew) (V.heap.size + 1) 36 (.slice none 0 0) (.int .i64 0) from pb1).below hb5 (by show _ < ((V.alloc _).alloc _).heap.size; rw [World.size_alloc, World.size_alloc]; omega)
         clear pb1
         have pa1 : Pair w5 (V.heap.size + 1) 36 (.slice none 0 0) (.int .i64 0) := pa1
         clear hr5 hb5)
      | (refine step_call_some (by go_simp) 14 #[.tmp 48] #[24] (by rfl) #[.agg #[.slice a2 n2 c2, .slice a3 n3 c3]] (by go_simp) (enters_of Try.func14 (by kernel_rfl) rfl _ _) _ (HE2.out w5 (HB4.out.trans (HB5.out.mono HB4.out.size))) ?_
         rintro v w6 ⟨a6, n6, c6, rfl, hr6, hb6⟩
         have HR6 : Hid (Rd (fun b => w5.heap.size ≤ b ∧ b < w6.heap.size) w6 .i64 a6 n6 c6 xl) := hr6.mono fun b h1 h2 => ⟨by have h2 : _ ≤ _ := h2; (try simp only [World.size_alloc] at h2); exact h2, h1⟩
         have HB56 : Hid (Below w5.heap.size w5 w6) := hb6
         have s6 : w5.heap.size ≤ w6.heap.size := by have := hb6.size; (try simp only [World.size_alloc] at this); exact this
         have HB6 : Hid (Below V.heap.size V w6) := HB5.out.trans (HB56.out.mono HB5.out.size)
         have HR5 := Lib.hid (HR5.out.below HB56.out)
         (try (have qa0 := pa0.below HB56.out pa0.lt; have qa1 := qa0.c0; have qa2 := qa0.c1; have qa3 := qa0.f 0; have qa4 := qa0.f 1; have qa5 := qa0.lt; clear pa0))
         (try (have qb0 := pa1.below HB56.out pa1.lt; have qb1 := qb0.c0; have qb2 := qb0.c1; have qb3 := qb0.f 0; have qb4 := qb0.f 1; have qb5 := qb0.lt; clear pa1))
         clear hr6 hb6)
      | (refine step_call_some (by go_simp) 14 #[.tmp 48] #[24] (by rfl) #[.agg #[.slice a2 n2 c2, .slice a3 n3 c3]] (by go_simp) (enters_of Try.func14 (by kernel_rfl) rfl _ _) _ (HE2.out (w5.alloc (.cells #[.slice none 0 0, .int .i64 0] 36)) ((HB4.out.trans (HB5.out.mono HB4.out.size)).alloc (HB4.out.trans (HB5.out.mono HB4.out.size)).size _)) ?_
         rintro v w6 ⟨a6, n6, c6, rfl, hr6, hb6⟩
         have HR6 : Hid (Rd (fun b => w5.heap.size + 1 ≤ b ∧ b < w6.heap.size) w6 .i64 a6 n6 c6 xl) := hr6.mono fun b h1 h2 => ⟨by have h2 : _ ≤ _ := h2; (try simp only [World.size_alloc] at h2); exact h2, h1⟩
         have HB56 : Hid (Below w5.heap.size w5 w6) := ((Below.refl w5.heap.size w5).alloc (Nat.le_refl _) _).trans (hb6.mono (by rw [World.size_alloc]; exact Nat.le_succ _))
         have s6 : w5.heap.size + 1 ≤ w6.heap.size := by have := hb6.size; (try simp only [World.size_alloc] at this); exact this
         have HB6 : Hid (Below V.heap.size V w6) := HB5.out.trans (HB56.out.mono HB5.out.size)
         have HR5 := Lib.hid (HR5.out.below HB56.out)
         have qc0 := (Pair.new w5 36 (.slice none 0 0) (.int .i64 0)).below hb6 (by simp only [World.size_alloc]; omega)
         have qc1 := qc0.c0
         have qc2 := qc0.c1
         have qc3 := qc0.f 0
         have qc4 := qc0.f 1
         have qc5 := qc0.lt
         (try (have qa0 := pa0.below HB56.out pa0.lt; have qa1 := qa0.c0; have qa2 := qa0.c1; have qa3 := qa0.f 0; have qa4 := qa0.f 1; have qa5 := qa0.lt; clear pa0))
         (try (have qb0 := pa1.below HB56.out pa1.lt; have qb1 := qb0.c0; have qb2 := qb0.c1; have qb3 := qb0.f 0; have qb4 := qb0.f 1; have qb5 := qb0.lt; clear pa1))
         clear hr6 hb6)
      | (refine step_call_some (by go_simp) 14 #[.tmp 48] #[24] (by rfl) #[.agg #[.slice a2 n2 c2, .slice a3 n3 c3]] (by go_simp) (enters_of Try.func14 (by kernel_rfl) rfl _ _) _ (HE2.out ((w5.alloc (.cells #[.slice none 0 0, .int .i64 0] 36)).alloc (.cells #[.slice none 0 0, .int .i64 0] 36)) (((HB4.out.trans (HB5.out.mono HB4.out.size)).alloc (HB4.out.trans (HB5.out.mono HB4.out.size)).size _).alloc ((HB4.out.trans (HB5.out.mono HB4.out.size)).alloc (HB4.out.trans (HB5.out.mono HB4.out.size)).size _).size _)) ?_
         rintro v w6 ⟨a6, n6, c6, rfl, hr6, hb6⟩
         have HR6 : Hid (Rd (fun b => w5.heap.size + 2 ≤ b ∧ b < w6.heap.size) w6 .i64 a6 n6 c6 xl) := hr6.mono fun b h1 h2 => ⟨by have h2 : _ ≤ _ := h2; (try simp only [World.size_alloc] at h2); exact h2, h1⟩
         have HB56 : Hid (Below w5.heap.size w5 w6) := (((Below.refl w5.heap.size w5).alloc (Nat.le_refl _) _).alloc (by rw [World.size_alloc]; exact Nat.le_succ _) _).trans (hb6.mono (by rw [World.size_alloc, World.size_alloc]; exact Nat.le_add_right _ 2))
         have s6 : w5.heap.size + 2 ≤ w6.heap.size := by have := hb6.size; (try simp only [World.size_alloc] at this); exact this
         have HB6 : Hid (Below V.heap.size V w6) := HB5.out.trans (HB56.out.mono HB5.out.size)
         have HR5 := Lib.hid (HR5.out.below HB56.out)
         have qc0 := ((Pair.new w5 36 (.slice none 0 0) (.int .i64 0)).alloc (.cells #[.slice none 0 0, .int .i64 0] 36)).below hb6 (by simp only [World.size_alloc]; omega)
         have qc1 := qc0.c0
         have qc2 := qc0.c1
         have qc3 := qc0.f 0
         have qc4 := qc0.f 1
         have qc5 := qc0.lt
         have qd0 := (Pair.new (w5.alloc (.cells #[.slice none 0 0, .int .i64 0] 36)) 36 (.slice none 0 0) (.int .i64 0)).below hb6 (by simp only [World.size_alloc]; omega)
         rw [World.size_alloc] at qd0
         have qd1 := qd0.c0
         have qd2 := qd0.c1
         have qd3 := qd0.f 0
         have qd4 := qd0.f 1
         have qd5 := qd0.lt
         (try (have qa0 := pa0.below HB56.out pa0.lt; have qa1 := qa0.c0; have qa2 := qa0.c1; have qa3 := qa0.f 0; have qa4 := qa0.f 1; have qa5 := qa0.lt; clear pa0))
         (try (have qb0 := pa1.below HB56.out pa1.lt; have qb1 := qb0.c0; have qb2 := qb0.c1; have qb3 := qb0.f 0; have qb4 := qb0.f 1; have qb5 := qb0.lt; clear pa1))
         clear hr6 hb6)
      )
    all_goals (try simp [Act.put])
    all_goals (go_wp2_with fail; go_meet)
    all_goals first
      | exact ⟨_, _, rfl, rfl, two_old HB6.out (by assumption) (by assumption) (by omega) (by omega) (by omega) (HR5.out.mono fun b _ h => by constructor <;> omega) (HR6.out.mono fun b _ h => by constructor <;> omega)⟩
      | exact ⟨_, _, rfl, rfl, two_late HB6.out (by assumption) (by omega) (HR5.out.mono fun b _ h => by omega) (HR6.out.mono fun b _ h => by omega)⟩
      | exact ⟨_, _, rfl, rfl, (two_late HB6.out (by assumption) (by omega) (HR6.out.mono fun b _ h => by omega) (HR5.out.mono fun b _ h => by omega)).swap⟩
      | exact ⟨_, _, rfl, rfl, two_both HB6.out HR5.out HR6.out⟩
      | exact ⟨_, _, rfl, rfl, (two_both HB6.out HR6.out HR5.out).swap⟩
  case rest =>
    obtain ⟨A, B, rfl, rfl, hbW, a5, n5, c5, a6, n6, c6, hA, hB, hr5, hr6⟩ := hcut
    have HA := Lib.hid hA
    have HB := Lib.hid hB
    have HR5 := Lib.hid hr5
    have HR6 := Lib.hid hr6
    have HX := Lib.hid (HX4.out.below hbW)
    have HY := Lib.hid (HY4.out.below hbW)
    have HPX7 := Lib.hid (HPX.out.below hbW HPX.out.lt)
    have HPY7 := Lib.hid (HPY.out.below hbW HPY.out.lt)
    have HZ7 := Lib.hid (HZ4.out.below hbW HZ4.out.lt)
    have HK7 := Lib.hid (HK4.out.below hbW HK4.out.lt)
    have HW : Hid (Below w.heap.size w wc) := HB4.out.trans (hbW.mono HB4.out.size)
    have HC0 : Hid (Below wc.heap.size wc wc) := Below.refl _ _
    clear hA hB hr5 hr6 hbW HX4 HY4 HPX HPY HZ4 HK4 HB4 HVB HBZ HBZ1 HBZ2 HE1 HE2 z0 z1 z2 zlt
    have HWR : Hid (∀ {U : World}, Below wc.heap.size wc U → Rd (fun b => b < w.heap.size) U .i64 a1 n1 c1 zs) := fun h => HW1.out.below (HW.out.trans (h.mono HW.out.size))
    have hxx : (xe != xe) = false := by simp
    obtain ⟨kd, hkd⟩ : ∃ kd, kindS zs = kd := ⟨_, rfl⟩
    have hkk : ((kd : Int) != (kd : Int)) = false := by simp
    have hkk2 : (kd != kd) = false := by simp
    have HKI1 : Hid (∀ U, Below wc.heap.size wc U → Calls Try.prog 23 #[.slice a1 n1 c1] U fun e W' => e = .returned (.int .i64 kd) ∧ Below U.heap.size U W') := fun U h => by
      have := kind_any hz (by omega) (HWR.out h); rwa [hkd] at this
    have HKI2 : Hid (∀ U, Below wc.heap.size wc U → Calls Try.prog 24 #[.slice a1 n1 c1] U fun e W' => e = .returned (.int .i64 kd) ∧ Below U.heap.size U W') := fun U h => by
      have := kindR_any hz (by omega) (HWR.out h); rwa [hkd] at this
    clear hkd
    go_wp2_with fail
    refine (runsOf_any (HWR.out HC0.out) (by omega)).mono ?_
    rintro e w11 ⟨b1, m1, d1, b2, m2, d2, rfl, hq1, hq2, hb⟩
    have HC1 : Hid (Below wc.heap.size wc w11) := hb
    have HQ1 := Lib.hid hq1
    have HQ2 := Lib.hid hq2
    clear hb hq1 hq2 HC0
    go_wp2_with fail
    refine (runsR_any (by omega) (HWR.out HC1.out)).mono ?_
    rintro e w12 ⟨b3, m3, d3, b4, d4, rfl, hq3, hq4, hb⟩
    have HC2 : Hid (Below wc.heap.size wc w12) := HC1.out.trans (hb.mono HC1.out.size)
    have HQ1 := Lib.hid (HQ1.out.below hb)
    have HQ2 := Lib.hid (HQ2.out.below hb)
    have HQ3 := Lib.hid hq3
    have HQ4 := Lib.hid hq4
    clear hb hq3 hq4 HC1
    go_wp2_with fail
    refine (samePair_true HQ1.out HQ2.out HQ3.out HQ4.out).mono ?_
    rintro e w13 ⟨rfl, hb⟩
    have HC3 : Hid (Below wc.heap.size wc w13) := HC2.out.trans (hb.mono HC2.out.size)
    clear hb HC2 HQ1 HQ2 HQ3 HQ4
    have hpA := HA.out.below HC3.out HA.out.lt
    have hpB := HB.out.below HC3.out HB.out.lt
    have pa0 := hpA.c0
    have pa1 := hpA.c1
    have pb0 := hpB.c0
    have pb1 := hpB.c1
    clear hpA hpB
    go_wp2_with fail
    clear pa0 pa1 pb0 pb1
    have hI := ints_any (HR5.out.below HC3.out) (HR6.out.below HC3.out)
    rw [sameB_true rfl] at hI
    refine hI.mono ?_
    rintro e w14 ⟨rfl, hb⟩
    have HC4 : Hid (Below wc.heap.size wc w14) := HC3.out.trans (hb.mono HC3.out.size)
    clear hb HC3 hI
    go_wp2_with fail
    refine (diff_any hz (by omega) (HWR.out HC4.out)).mono ?_
    rintro e w15 ⟨b1, m1, d1, rfl, hq1, hb⟩
    have HC5 : Hid (Below wc.heap.size wc w15) := HC4.out.trans (hb.mono HC4.out.size)
    have HQ1 := Lib.hid hq1
    clear hb hq1 HC4
    go_wp2_with fail
    refine (diffR_any (by omega) (HWR.out HC5.out)).mono ?_
    rintro e w16 ⟨b2, m2, d2, rfl, hq2, hb⟩
    have HC6 : Hid (Below wc.heap.size wc w16) := HC5.out.trans (hb.mono HC5.out.size)
    have HQ1 := Lib.hid (HQ1.out.below hb)
    have HQ2 := Lib.hid hq2
    clear hb hq2 HC5
    go_wp2_with fail
    have hI := ints_any HQ1.out HQ2.out
    rw [sameB_true rfl] at hI
    refine hI.mono ?_
    rintro e w17 ⟨rfl, hb⟩
    have HC7 : Hid (Below wc.heap.size wc w17) := HC6.out.trans (hb.mono HC6.out.size)
    clear hb HC6 hI HQ1 HQ2
    go_wp2_with fail
    refine (sums_any hz (by omega) (HWR.out HC7.out)).mono ?_
    rintro e w18 ⟨b1, m1, d1, rfl, hq1, hb⟩
    have HC8 : Hid (Below wc.heap.size wc w18) := HC7.out.trans (hb.mono HC7.out.size)
    have HQ1 := Lib.hid hq1
    clear hb hq1 HC7
    go_wp2_with fail
    refine (sumsR_any hz (by omega) (HWR.out HC8.out)).mono ?_
    rintro e w19 ⟨b2, m2, d2, rfl, hq2, hb⟩
    have HC9 : Hid (Below wc.heap.size wc w19) := HC8.out.trans (hb.mono HC8.out.size)
    have HQ1 := Lib.hid (HQ1.out.below hb)
    have HQ2 := Lib.hid hq2
    clear hb hq2 HC8
    go_wp2_with fail
    have hI := ints_any HQ1.out HQ2.out
    rw [sameB_true rfl] at hI
    refine hI.mono ?_
    rintro e w20 ⟨rfl, hb⟩
    have HC10 : Hid (Below wc.heap.size wc w20) := HC9.out.trans (hb.mono HC9.out.size)
    clear hb HC9 hI HQ1 HQ2
    go_wp2_with fail
    refine (HKI1.out _ HC10.out).mono ?_
    rintro e w21 ⟨rfl, hb⟩
    have HC11 : Hid (Below wc.heap.size wc w21) := HC10.out.trans (hb.mono HC10.out.size)
    clear hb HC10
    go_wp2_with fail
    refine (HKI2.out _ HC11.out).mono ?_
    rintro e w22 ⟨rfl, hb⟩
    have HC12 : Hid (Below wc.heap.size wc w22) := HC11.out.trans (hb.mono HC11.out.size)
    clear hb HC11
    have hpX := HPX7.out.below HC12.out HPX7.out.lt
    have hpY := HPY7.out.below HC12.out HPY7.out.lt
    have px0 := hpX.c0
    have px1 := hpX.c1
    have py0 := hpY.c0
    have py1 := hpY.c1
    clear hpX hpY
    go_wp2_with fail
    clear px0 px1 py0 py1
    have hI := same_any (HX.out.below HC12.out) (HY.out.below HC12.out)
    rw [sameB_true rfl] at hI
    refine hI.mono ?_
    rintro e w23 ⟨rfl, hb⟩
    have HC13 : Hid (Below wc.heap.size wc w23) := HC12.out.trans (hb.mono HC12.out.size)
    clear hb HC12 hI
    go_upto_region 10 with fail
    have hel1 := HEL.out.1
    have hel2 := HEL.out.2
    have HE0 : Hid ((w23.alloc (.cells #[] 5)).drew.ownsRow wc.heap.size 5 1 (.slice (some ⟨w23.heap.size, 0, none⟩) 0 0) 0 []) := own_nilr w23 5 wc.heap.size HC13.out.size
    have HD0 : Hid (Below wc.heap.size wc w23.drew) := below_drew HC13.out
    have HD1 : Hid (Below wc.heap.size wc (w23.alloc (.cells #[] 5)).drew) := below_drew (HC13.out.alloc HC13.out.size _)
    obtain ⟨gA, cA, wA, hrA, hrowA, hgA, hcA, hgbA⟩ := run_append_reads (P := Try.prog) (w23.alloc (.cells #[] 5)).drew wc.heap.size 25 25 5 i0 _ 1 .u8 Try.underlying25 hi hz0 hz1 hz2 rfl w23.heap.size 0 0 [] HE0.out (.slice (some ⟨gy, 0, none⟩) ly cy) (enS zs) ly HLX (HY.out.below HD1.out).reads (by unfold maxLen; omega) (by omega) HD1.out.size
    rw [Nat.zero_add] at hrA hrowA hcA
    rw [List.nil_append] at hrowA
    have HDA : Hid (Below wc.heap.size wc wA) := HD1.out.grown hgA HD1.out.size (fun r e => by cases e; exact HC13.out.size)
    obtain ⟨gB, cB, wB, hrB, hrowB, hgB, hcB, hgbB⟩ := run_append_reads (P := Try.prog) wA wc.heap.size 25 25 5 i0 _ 1 .u8 Try.underlying25 hi hz0 hz1 hz2 rfl gA ly cA _ hrowA (.slice a4 n4 c4) bs n4 (Lib.hid HW4.out.hl) (HW4.out.below (HW.out.trans (HDA.out.mono HW.out.size))).reads (by unfold maxLen; omega) (by omega) HDA.out.size
    rw [← List.map_append] at hrowB
    have HDB : Hid (Below wc.heap.size wc wB) := HDA.out.grown hgB HDA.out.size (fun r e => by cases e; exact row_base hrowA)
    have HRA := Lib.hid hrA
    have HRB := Lib.hid hrB
    have HROWB := Lib.hid hrowB
    clear hrA hrowA hgA hcA hgbA hrB hrowB hgB hgbB HE0
    have HS : Hid (∀ U, Below wc.heap.size wc U → Y < U.heap.size ∧ U.cell? ⟨Y, 0, none⟩ = some (.slice (some ⟨gy, 0, none⟩) ly cy) ∧ Z < U.heap.size ∧ U.cell? ⟨Z, 2, none⟩ = some (.slice a4 n4 c4)) := fun U h => ⟨(HPY7.out.below h HPY7.out.lt).lt, (HPY7.out.below h HPY7.out.lt).c0, (HZ7.out.below h HZ7.out.lt).lt, (HZ7.out.below h HZ7.out.lt).cell.2.2⟩
    go_region_held_law (fun U => Y < U.heap.size ∧ U.cell? ⟨Y, 0, none⟩ = some (.slice (some ⟨gy, 0, none⟩) ly cy) ∧ Z < U.heap.size ∧ U.cell? ⟨Z, 2, none⟩ = some (.slice a4 n4 c4))
      (first | with_reducible exact HS.out _ HD0.out | with_reducible exact HS.out _ HD1.out | with_reducible exact HS.out _ HDA.out | with_reducible exact HS.out _ HDB.out | (trace_state; fail "KEEP"))
      (first
        | exact step_append_want (by go_simp) (.tmp 109) (.tmp 111) 25 25 (by rfl) (.slice (some ⟨w23.heap.size, 0, none⟩) 0 0) (.slice (some ⟨gy, 0, none⟩) ly cy) (by go_simp) (by go_simp) _ _ HRA.out ?_
        | refine step_append_want (by go_simp) (.tmp 109) (.tmp 111) 25 25 (by rfl) (.slice (some ⟨w23.heap.size, 0, none⟩) 0 0) (.slice (some ⟨gy, 0, none⟩) ly cy) (by go_simp) (by go_simp) _ _ HRA.out ?_
        | refine step_append_want (by go_simp) (.tmp 112) (.tmp 114) 25 25 (by rfl) (.slice (some ⟨gA, 0, none⟩) ly cA) (.slice a4 n4 c4) (by go_simp) (by go_simp) _ _ HRB.out ?_)
    clear HRA HRB HD0 HD1 HDA
    try simp
    have HLO : Hid ((enS zs ++ bs).length = ly + n4) := by show _ = _; rw [List.length_append, ← HLX.out, ← HW4.out.hl]
    have HOO : Hid (Oct (enS zs ++ bs)) := HEO.out.append ho
    obtain ⟨os, hos⟩ : ∃ os, enS zs ++ bs = os := ⟨_, rfl⟩
    obtain ⟨L, hL⟩ : ∃ L, ly + n4 = L := ⟨_, rfl⟩
    rw [hos] at HLO HOO HROWB
    rw [hL] at HLO HROWB hcB
    have hL1 : 1 ≤ L := by rw [← hL]; omega
    have hLb : L ≤ 140737488351232 := by rw [← hL]; omega
    have hsum : (ly : Int) + (n4 : Int) = (L : Int) := by omega
    rw [hL]
    clear hos hL
    have hpK := HK7.out.below HDB.out HK7.out.lt
    have kc0 := hpK.c0
    have kc1 := hpK.c1
    have klt := hpK.lt
    clear hpK
    obtain ⟨ix, hix⟩ : ∃ i, k0 % L = i := ⟨_, rfl⟩
    have hixl : ix < L := by rw [← hix]; exact Nat.mod_lt _ (by omega)
    have hmod2 : (k0 : Int).tmod (L : Int) = (ix : Int) := by rw [Int.tmod_eq_emod_of_nonneg (by omega)]; omega
    have hwk : IntKind.i64.wrap (k0 : Int) = k0 := by rw [IntKind.wrap_i64]; omega
    have hLz : ((L : Int) == 0) = false := by rw [beq_eq_false_iff_ne]; omega
    have hLn : ¬ L = 0 := by omega
    obtain ⟨y0, hy0⟩ : ∃ y, IntKind.u8.wrap (k1 : Int) = y := ⟨_, rfl⟩
    have hy0r : 0 ≤ y0 ∧ y0 < 256 := by rw [← hy0, IntKind.wrap_u8]; omega
    have hfr := row_unfrozen (j := ix) HROWB.out
    have hcr := row_cell (j := ix) HROWB.out (by rw [HLO.out]; exact hixl)
    have hglt := row_lt HROWB.out
    have hst := row_store (j := ix) HROWB.out (.int .u8 y0)
    rw [← List.map_set] at hst
    have hlg : wc.heap.size ≤ gB := row_base HROWB.out
    have HROWY : Hid ((wB.setCell ⟨gB, ix, none⟩ (.int .u8 y0)).drew.ownsRow wc.heap.size 5 1 (.slice (some ⟨gB, 0, none⟩) L cB) L ((os.set ix y0).map (Value.int .u8))) := hst
    have HBY : Hid (Below wc.heap.size wc (wB.setCell ⟨gB, ix, none⟩ (.int .u8 y0)).drew) := below_drew (HDB.out.setCell hlg _)
    clear hst hix hel1 hel2
    go_upto_region 11 with fail
    go_region
    clear hcr hfr hglt kc0 kc1 klt
    generalize (wB.setCell ⟨gB, ix, none⟩ (.int .u8 y0)).drew = wy at *
    obtain ⟨ys, hys⟩ : ∃ l, os.set ix y0 = l := ⟨_, rfl⟩
    have HOY : Hid (Oct ys) := by
      show Oct ys
      rw [← hys]
      intro x hx
      rcases List.mem_or_eq_of_mem_set hx with h | h
      · exact HOO.out x h
      · rw [h]; exact hy0r
    rw [hys] at HROWY
    have HRY := Lib.hid (Rd.of_row (by rw [← hys, List.length_set, HLO.out]) hcB hLb HROWY.out)
    have HBZ : Hid (Below wc.heap.size wc wy.drew) := below_drew HBY.out
    have HSB : Hid (∀ U, Below wc.heap.size wc U → Z < U.heap.size ∧ U.cell? ⟨Z, 2, none⟩ = some (.slice a4 n4 c4)) := fun U h => ⟨(HZ7.out.below h HZ7.out.lt).lt, (HZ7.out.below h HZ7.out.lt).cell.2.2⟩
    have HDS : Hid (∀ {K : Nat → Prop} {a : Option Addr} {len cap : Nat} {zs : List Int} (U : World), Oct zs → Rd K U .u8 a len cap zs → Calls Try.prog 27 #[.slice a len cap] U fun e W' => ∃ v, e = .returned v ∧ (Below U.heap.size U W' ∧ ∃ a1 n1 c1 a2 n2 c2, v = .agg #[.slice a1 n1 c1, .slice a2 n2 c2, .int .i64 (deS zs).2.2] ∧ Rd (fun _ => True) W' .i64 a1 n1 c1 (deS zs).1 ∧ Rd (fun _ => True) W' .u8 a2 n2 c2 (dR zs))) := fun U ho h => (decoded_p ho h).mono fun _ _ ⟨hb, a1, n1, c1, a2, n2, c2, he, h1, h2⟩ => ⟨_, he, hb, a1, n1, c1, a2, n2, c2, rfl, h1, h2⟩
    have HDT : Hid (∀ {K : Nat → Prop} {a : Option Addr} {len cap : Nat} {zs : List Int} (U : World), Oct zs → Rd K U .u8 a len cap zs → Calls Try.prog 28 #[.slice a len cap] U fun e W' => ∃ v, e = .returned v ∧ (Below U.heap.size U W' ∧ ∃ a1 n1 c1 a2 n2 c2, v = .agg #[.slice a1 n1 c1, .slice a2 n2 c2, .int .i64 (deS zs).2.2] ∧ Rd (fun _ => True) W' .i64 a1 n1 c1 (deS zs).1 ∧ Rd (fun _ => True) W' .u8 a2 n2 c2 (dR zs))) := fun U ho h => (decodeR_any ho h).mono fun _ _ ⟨hb, a1, n1, c1, a2, n2, c2, he, h1, h2⟩ => ⟨_, he, hb, a1, n1, c1, a2, n2, c2, rfl, h1, h2⟩
    have HRZ : Hid (Rd (fun b => b < w.heap.size) wc .u8 a4 n4 c4 bs) := HW4.out.below HW.out
    obtain ⟨x1, hx1⟩ : ∃ x, (deS ys).2.2 = x := ⟨_, rfl⟩
    obtain ⟨x2, hx2⟩ : ∃ x, (deS bs).2.2 = x := ⟨_, rfl⟩
    clear hys HROWY HBY HDB HROWB hcB
    clear hz hns h1 h2 h3 h4 hk0 _hk1 hi hz0 hz1 hz2 hL1 hLb hsum hixl hmod2 hwk hLz hLn hy0 hy0r hlg hxx hkk hkk2
    go_upto_region 12 with fail
    go_region_law (first
        | (refine step_call_want (by go_simp) 26 #[.tmp 135, .tmp 138] #[46, 46] (by rfl) #[.agg #[.slice e1 e2 e3, .slice e4 e5 e6, .int .i64 x2], .agg #[.slice f1 f2 f3, .slice f4 f5 f6, .int .i64 x2]] (by go_simp) (enters_of Try.func26 (by kernel_rfl) rfl _ _) _ _ (gotSame_true x2 HQ1.out HQ2.out HQ3.out HQ4.out) ?_
           intro v6 hb
           have HG6 : Hid (Below wc.heap.size wc v6) := HG5.out.trans (hb.mono HG5.out.size)
           clear hb)
        | (refine step_call_some (by go_simp) 28 #[.tmp 137] #[25] (by rfl) #[.slice a4 n4 c4] (by go_simp) (enters_of Try.func28 (by kernel_rfl) rfl _ _) _ (HDT.out _ ho (HRZ.out.below HG4.out)) ?_
           rintro v v5 ⟨hb, f1, f2, f3, f4, f5, f6, rfl, hq3, hq4⟩
           rw [hx2]
           have HG5 : Hid (Below wc.heap.size wc v5) := HG4.out.trans (hb.mono HG4.out.size)
           have HQ1 := Lib.hid (HQ1.out.below hb)
           have HQ2 := Lib.hid (HQ2.out.below hb)
           have HQ3 := Lib.hid hq3
           have HQ4 := Lib.hid hq4
           clear hb hq3 hq4)
        | (refine step_call_some (by go_simp) 27 #[.tmp 134] #[25] (by rfl) #[.slice a4 n4 c4] (by go_simp) (enters_of Try.func27 (by kernel_rfl) rfl _ _) _ (HDS.out _ ho (HRZ.out.below HG3.out)) ?_
           rintro v v4 ⟨hb, e1, e2, e3, e4, e5, e6, rfl, hq1, hq2⟩
           rw [hx2]
           have HG4 : Hid (Below wc.heap.size wc v4) := HG3.out.trans (hb.mono HG3.out.size)
           have z4l := (HSB.out _ HG4.out).1
           have z4 := (HSB.out _ HG4.out).2
           have HQ1 := Lib.hid hq1
           have HQ2 := Lib.hid hq2
           clear hb hq1 hq2)
        | (refine step_call_want (by go_simp) 26 #[.tmp 128, .tmp 130] #[46, 46] (by rfl) #[.agg #[.slice e1 e2 e3, .slice e4 e5 e6, .int .i64 x1], .agg #[.slice f1 f2 f3, .slice f4 f5 f6, .int .i64 x1]] (by go_simp) (enters_of Try.func26 (by kernel_rfl) rfl _ _) _ _ (gotSame_true x1 HQ1.out HQ2.out HQ3.out HQ4.out) ?_
           intro v3 hb
           have HG3 : Hid (Below wc.heap.size wc v3) := HG2.out.trans (hb.mono HG2.out.size)
           have z3l := (HSB.out _ HG3.out).1
           have z3 := (HSB.out _ HG3.out).2
           clear hb HQ1 HQ2 HQ3 HQ4)
        | (refine step_call_some (by go_simp) 28 #[.tmp 129] #[25] (by rfl) #[.slice (some ⟨gB, 0, none⟩) L cB] (by go_simp) (enters_of Try.func28 (by kernel_rfl) rfl _ _) _ (HDT.out _ HOY.out HR1.out) ?_
           rintro v v2 ⟨hb, f1, f2, f3, f4, f5, f6, rfl, hq3, hq4⟩
           rw [hx1]
           have HG2 : Hid (Below wc.heap.size wc v2) := HG1.out.trans (hb.mono HG1.out.size)
           have HQ1 := Lib.hid (HQ1.out.below hb)
           have HQ2 := Lib.hid (HQ2.out.below hb)
           have HQ3 := Lib.hid hq3
           have HQ4 := Lib.hid hq4
           clear hb hq3 hq4)
        | (refine step_call_some (by go_simp) 27 #[.tmp 127] #[25] (by rfl) #[.slice (some ⟨gB, 0, none⟩) L cB] (by go_simp) (enters_of Try.func27 (by kernel_rfl) rfl _ _) _ (HDS.out _ HOY.out (HRY.out.heap (by rfl))) ?_
           rintro v v1 ⟨hb, e1, e2, e3, e4, e5, e6, rfl, hq1, hq2⟩
           rw [hx1]
           have HG1 : Hid (Below wc.heap.size wc v1) := HBZ.out.trans (hb.mono HBZ.out.size)
           have HR1 := Lib.hid (HRY.out.below ((below_drew (Below.refl _ wy)).trans hb))
           have HQ1 := Lib.hid hq1
           have HQ2 := Lib.hid hq2
           clear hb hq1 hq2))
    all_goals
      (try simp [Act.put])
      go_wp2
      go_ret
      exact ⟨rfl, HW.out.trans (HG6.out.mono HW.out.size)⟩

end Go.Proofs.Ytmbcppkdnoccbaa.runsMatchesReference

namespace Go.Proofs.Ytmbcppkdnoccbaa.runsMatchesReference
open Go.ChangeShapes Go.WideShapes Go.ChangeAt Go.RowKit
open Go.Proofs.Ytmbcppkdnoccbaa

set_option maxRecDepth 100000 in
set_option maxHeartbeats 4000000 in
theorem walk_long (a1 a2 a3 a4 : Option Addr) (n1 c1 n2 c2 n3 c3 n4 c4 : Nat) (k0 k1 : Int) (hl : 300 < n1 ∨ 300 < n2 ∨ 300 < n3 ∨ 300 < n4) (w : World) :
    Calls Try.prog 3 #[.slice a1 n1 c1, .agg #[.slice a2 n2 c2, .slice a3 n3 c3, .slice a4 n4 c4], .agg #[.int .u16 k0, .int .u16 k1]] w fun e w' => e = .returned (.bool true) ∧ Below w.heap.size w w' := by
  have hb0 : Below w.heap.size w ((w.alloc (.cells #[.slice a2 n2 c2, .slice a3 n3 c3, .slice a4 n4 c4] 27)).alloc (.cells #[.int .u16 k0, .int .u16 k1] 29)) := ((Below.refl _ _).alloc (Nat.le_refl _) _).alloc (by simp) _
  have HZ0 : Hid (Tri ((w.alloc (.cells #[.slice a2 n2 c2, .slice a3 n3 c3, .slice a4 n4 c4] 27)).alloc (.cells #[.int .u16 k0, .int .u16 k1] 29)) w.heap.size 27 (.slice a2 n2 c2) (.slice a3 n3 c3) (.slice a4 n4 c4)) :=
    (Below.heap_alloc _ _ _ (by simp)).trans (Tri.new w _ _ _ _)
  have HB0 := Lib.hid hb0
  clear hb0
  obtain ⟨Z, hZ⟩ : ∃ Z, w.heap.size = Z := ⟨_, rfl⟩
  rw [hZ] at HZ0
  go_enter Try.func3, Try.ntmps3
  go_upto_region 1 with fail
  try rw [hZ]
  clear hZ
  generalize (w.alloc (.cells #[.slice a2 n2 c2, .slice a3 n3 c3, .slice a4 n4 c4] 27)).alloc (.cells #[.int .u16 k0, .int .u16 k1] 29) = V0 at *
  go_wp2_with fail
  refine (examples4_any _).mono ?_
  rintro e w1 ⟨rfl, hb1⟩
  have HB1 : Hid (Below w.heap.size w w1) := HB0.out.trans (hb1.mono HB0.out.size)
  obtain ⟨z0, z1, z2⟩ := (HZ0.out.below hb1 HZ0.out.lt).cell
  have zlt := (HZ0.out.below hb1 HZ0.out.lt).lt
  clear hb1 HB0 HZ0
  by_cases q1 : 300 < n1
  · have d1 : decide ((300 : Int) < (n1 : Int)) = true := decide_eq_true (by omega)
    clear hl
    go_wp2
    go_ret
    exact ⟨rfl, HB1.out⟩
  · have d1 : decide ((300 : Int) < (n1 : Int)) = false := decide_eq_false (by omega)
    by_cases q2 : 300 < n2
    · have d2 : decide ((300 : Int) < (n2 : Int)) = true := decide_eq_true (by omega)
      clear hl
      go_wp2
      go_ret
      exact ⟨rfl, HB1.out⟩
    · have d2 : decide ((300 : Int) < (n2 : Int)) = false := decide_eq_false (by omega)
      by_cases q3 : 300 < n3
      · have d3 : decide ((300 : Int) < (n3 : Int)) = true := decide_eq_true (by omega)
        clear hl
        go_wp2
        go_ret
        exact ⟨rfl, HB1.out⟩
      · have d3 : decide ((300 : Int) < (n3 : Int)) = false := decide_eq_false (by omega)
        have q4 : 300 < n4 := by omega
        have d4 : decide ((300 : Int) < (n4 : Int)) = true := decide_eq_true (by omega)
        clear hl
        go_wp2
        go_ret
        exact ⟨rfl, HB1.out⟩

theorem two_of (ws : List Int) (h : ws.length = 2) : ∃ a b, ws = [a, b] := by
  rcases ws with _ | ⟨a, _ | ⟨b, _ | ⟨c, r⟩⟩⟩ <;> first | exact ⟨_, _, rfl⟩ | (simp at h)
theorem cellsA2 : Try.prog.cellsOf 29 = 2 := by kernel_rfl
theorem cellsH4 : Try.prog.cellsOf 28 = 1 := by kernel_rfl

set_option maxRecDepth 100000 in
theorem lifted (os : Os) (started : os.Started) (H : Type) (enc : TypeId × Value → H) :
    ReturnsInHanded {} Try.checked os 3 .any (Rows.runsMatchesReferenceSpec.pre6 enc Try.prog Try.f3 Rows.runsMatchesReferenceRow.domain false) (Rows.runsMatchesReferenceSpec.post enc Try.prog Try.f3 false true false false) := by
  refine returnsInHanded_of_change (C := Try.checked) own4 started (by kernel_rfl) Try.func3
    (ChangeSpec.witness6 (enc := enc) (C := Try.checked) false ⟨#[], #[.slice none 0 0, .agg #[.slice none 0 0, .slice none 0 0, .slice none 0 0], .agg #[.int .u16 0, .int .u16 0]], []⟩ 8 (by kernel_rfl) (by kernel_rfl) (by kernel_rfl) (by kernel_rfl)) ?_
  intro W base args ds gs before hval0 hW hcnd _
  have hval : ∀ (j : Nat) t v, Try.f3.params[j]? = some t → args[j]? = some v → Value.okWide Try.prog W .any base t v := hval0
  have hW' := hW
  obtain ⟨p, q, hA0, hV, rfl, hfz, hnd⟩ := hW
  have hA : DataW.TrodAll enc Try.prog W 0 (fun _ => true) true Try.f3.params.toList args.toList ds p := hA0
  rw [Try.params3] at hA hval
  obtain ⟨v0, v1, v2, d0, d1, d2, p0, p1, p2, rfl, rfl, rfl, h0, h1, h2⟩ := trodAll_three hA
  obtain ⟨rfl, rfl⟩ := trodVars_none hV
  obtain ⟨a0, n0, c0, zs0, rfl, hmax0, hR0, hwf0⟩ := open_rd4 Try.underlying22 Try.underlying3 cellsN4 (hval 0 22 v0 rfl rfl) h0
  obtain ⟨a1, n1, c1, vs, a2, n2, c2, ns, a3, n3, c3, bs, rfl, ⟨hm1, hm2, hm3⟩, hR1, hw1, hR2, hw2, hR3, hw3⟩ := open_odd4 (hval 1 27 v1 rfl rfl) h1
  obtain ⟨ks, hks, rfl, hwk⟩ := open_arr4 Try.underlying29 Try.underlying28 cellsH4 cellsA2 (hval 2 29 v2 rfl rfl) h2
  obtain ⟨x0, x1, rfl⟩ := two_of ks hks
  clear hA0 hval0
  simp only [List.append_nil] at hW'
  have hlt0 : ∀ x ∈ p0, x.block < W.heap.size := fun x hx => by simpa using hW'.lt x (by simp [hx])
  have hlt1 : ∀ x ∈ p1, x.block < W.heap.size := fun x hx => by simpa using hW'.lt x (by simp [hx])
  have hlt2 : ∀ x ∈ p2, x.block < W.heap.size := fun x hx => by simpa using hW'.lt x (by simp [hx])
  have hz0 : Smalls zs0 := fun x hx => by
    have := hwf0 x hx
    simp [Lit.wf, IntKind.min, IntKind.max, IntKind.signed, IntKind.bits] at this
    unfold I64; omega
  have hz2 : Smalls ns := fun x hx => by
    have := hw2 x hx
    simp [Lit.wf, IntKind.min, IntKind.max, IntKind.signed, IntKind.bits] at this
    unfold I64; omega
  have hz3 : Oct bs := fun x hx => by
    have := hw3 x hx
    simp [Lit.wf, IntKind.min, IntKind.max, IntKind.signed, IntKind.bits] at this; omega
  have hx0 : 0 ≤ x0 ∧ x0 < 65536 := by
    have := hwk x0 (by simp)
    simp [Lit.wf, IntKind.min, IntKind.max, IntKind.signed, IntKind.bits] at this; omega
  have hx1 : 0 ≤ x1 ∧ x1 < 65536 := by
    have := hwk x1 (by simp)
    simp [Lit.wf, IntKind.min, IntKind.max, IntKind.signed, IntKind.bits] at this; omega
  have fin : Calls Try.prog 3 #[.slice a0 n0 c0, .agg #[.slice a1 n1 c1, .slice a2 n2 c2, .slice a3 n3 c3], .agg #[.int .u16 x0, .int .u16 x1]] W fun e w' => e = .returned (.bool true) ∧ Below W.heap.size W w' := by
    obtain ⟨m0, rfl⟩ := Int.eq_ofNat_of_zero_le hx0.1
    obtain ⟨m1, rfl⟩ := Int.eq_ofNat_of_zero_le hx1.1
    by_cases hl : 300 < n0 ∨ 300 < n1 ∨ 300 < n2 ∨ 300 < n3
    · exact walk_long a0 a1 a2 a3 n0 c0 n1 c1 n2 c2 n3 c3 _ _ hl W
    · exact walk hz0 hz2 hz3 m0 m1 (by omega) (by omega) (by omega) (by omega) (by omega) (by omega) W (hR0 (by omega)) (hR1 (by omega)) (hR2 (by omega)) (hR3 (by omega))
  refine fin.mono fun e W' ⟨he, hg⟩ => ?_
  subst he
  exact ⟨_, rfl, ⟨_, _, _, [], p0 ++ (p1 ++ p2), [], hW', trodAll_mk1 (shut_bool Try.underlying4 _), trodAll_mk3 (Below.trod laidOut4 (by kernel_rfl) (of_decide_eq_true (by kernel_rfl)) h0 hg hlt0) (Below.trod laidOut4 (by kernel_rfl) (of_decide_eq_true (by kernel_rfl)) h1 hg hlt1) (Below.trod laidOut4 (by kernel_rfl) (of_decide_eq_true (by kernel_rfl)) h2 hg hlt2), rfl, hg.frame _, fun h => by cases h⟩⟩

theorem over : Rows.runsMatchesReferenceRow.holds Try.pinned (OpenSpec.ofChange Rows.runsMatchesReferenceSpec) :=
  OpenClaim.holds_of_wide 3 Try.f3 rfl rfl rfl rfl rfl rfl rfl ⟨rfl, rfl, rfl, rfl, rfl⟩ rfl rfl rfl rfl rfl (by kernel_rfl) Try.func3 (by kernel_rfl)
    (of_decide_eq_true (by kernel_rfl)) (by unfold Func.isWrapper; first | (rw [if_pos (by decide +kernel)]; kernel_rfl) | (rw [if_neg (by decide +kernel)]; exact ⟨rfl, rfl⟩))
    (fun os started H enc _ => lifted os started H enc)

/-- The statement. -/
theorem proved : Rows.RunsMatchesReferenceSaid := over
#print axioms proved

end Go.Proofs.Ytmbcppkdnoccbaa.runsMatchesReference
