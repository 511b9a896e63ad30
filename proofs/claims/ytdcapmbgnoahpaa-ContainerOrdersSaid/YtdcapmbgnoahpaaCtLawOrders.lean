/-
  The comparison of identities is a total order, in which contents do not matter: the walk.
-/
import Derived.Test.YtdcapmbgnoahpaaCtOrdMath
namespace Go.Proofs.Ytdcapmbgnoahpaa.containerOrders
open Go Go.RowKit Go.Shelf Go.Sort Go.ChangeShapes Go.WideShapes Go.ChangeAt
open Go.Proofs.Ytdcapmbgnoahpaa

set_option maxRecDepth 100000 in
set_option maxHeartbeats 8000000 in
theorem walk_long {k0 k1 k2 : Int} {a0 a1 a2 b0 b1 b2 : Option Addr} {n0 n1 n2 t0 t1 t2 m0 m1 m2 e0 e1 e2 : Nat} {w : World} (hl : 60 < n0 ∨ 60 < n1 ∨ 60 < n2) :
    Calls Try.prog 9 #[.agg #[.int .i64 k0, .slice a0 n0 t0, .slice b0 m0 e0], .agg #[.int .i64 k1, .slice a1 n1 t1, .slice b1 m1 e1], .agg #[.int .i64 k2, .slice a2 n2 t2, .slice b2 m2 e2]] w fun e V => e = .returned (.bool true) ∧ Below w.heap.size w V := by
  have HL := Lib.hid hl
  clear hl
  have hs0 : (w.alloc (.cells #[.int .i64 k0, .slice a0 n0 t0, .slice b0 m0 e0] 52)).heap.size = w.heap.size + 1 := World.size_alloc ..
  have hs1 : ((w.alloc (.cells #[.int .i64 k0, .slice a0 n0 t0, .slice b0 m0 e0] 52)).alloc (.cells #[.int .i64 k1, .slice a1 n1 t1, .slice b1 m1 e1] 52)).heap.size = w.heap.size + 1 + 1 := by rw [World.size_alloc, hs0]
  have hb0 : Below w.heap.size w (w.alloc (.cells #[.int .i64 k0, .slice a0 n0 t0, .slice b0 m0 e0] 52)) := (Below.refl _ _).alloc (Nat.le_refl _) _
  have hb1 : Below (w.alloc (.cells #[.int .i64 k0, .slice a0 n0 t0, .slice b0 m0 e0] 52)).heap.size (w.alloc (.cells #[.int .i64 k0, .slice a0 n0 t0, .slice b0 m0 e0] 52)) ((w.alloc (.cells #[.int .i64 k0, .slice a0 n0 t0, .slice b0 m0 e0] 52)).alloc (.cells #[.int .i64 k1, .slice a1 n1 t1, .slice b1 m1 e1] 52)) := (Below.refl _ _).alloc (Nat.le_refl _) _
  have hb2 : Below ((w.alloc (.cells #[.int .i64 k0, .slice a0 n0 t0, .slice b0 m0 e0] 52)).alloc (.cells #[.int .i64 k1, .slice a1 n1 t1, .slice b1 m1 e1] 52)).heap.size ((w.alloc (.cells #[.int .i64 k0, .slice a0 n0 t0, .slice b0 m0 e0] 52)).alloc (.cells #[.int .i64 k1, .slice a1 n1 t1, .slice b1 m1 e1] 52)) (((w.alloc (.cells #[.int .i64 k0, .slice a0 n0 t0, .slice b0 m0 e0] 52)).alloc (.cells #[.int .i64 k1, .slice a1 n1 t1, .slice b1 m1 e1] 52)).alloc (.cells #[.int .i64 k2, .slice a2 n2 t2, .slice b2 m2 e2] 52)) := (Below.refl _ _).alloc (Nat.le_refl _) _
  have hf := FileB.new w k0 (.slice a0 n0 t0) (.slice b0 m0 e0)
  have hg := FileB.new (w.alloc (.cells #[.int .i64 k0, .slice a0 n0 t0, .slice b0 m0 e0] 52)) k1 (.slice a1 n1 t1) (.slice b1 m1 e1)
  have HH0 := Lib.hid (FileB.new ((w.alloc (.cells #[.int .i64 k0, .slice a0 n0 t0, .slice b0 m0 e0] 52)).alloc (.cells #[.int .i64 k1, .slice a1 n1 t1, .slice b1 m1 e1] 52)) k2 (.slice a2 n2 t2) (.slice b2 m2 e2))
  have HF0 := Lib.hid ((hf.below hb1 hf.lt).below hb2 (by rw [hs1]; omega))
  have HG0 := Lib.hid (hg.below hb2 hg.lt)
  have HB0 : Hid (Below w.heap.size w (((w.alloc (.cells #[.int .i64 k0, .slice a0 n0 t0, .slice b0 m0 e0] 52)).alloc (.cells #[.int .i64 k1, .slice a1 n1 t1, .slice b1 m1 e1] 52)).alloc (.cells #[.int .i64 k2, .slice a2 n2 t2, .slice b2 m2 e2] 52))) := (hb0.trans (hb1.mono (by omega))).trans (hb2.mono (by omega))
  rw [hs0] at HG0
  rw [hs1] at HH0
  clear hs0 hs1 hb0 hb1 hb2 hf hg
  go_enter Try.func9, Try.ntmps9
  go_upto_region 1 with fail
  generalize ((w.alloc (.cells #[.int .i64 k0, .slice a0 n0 t0, .slice b0 m0 e0] 52)).alloc (.cells #[.int .i64 k1, .slice a1 n1 t1, .slice b1 m1 e1] 52)).alloc (.cells #[.int .i64 k2, .slice a2 n2 t2, .slice b2 m2 e2] 52) = V0 at *
  obtain ⟨B0, hB0⟩ : ∃ B, w.heap.size = B := ⟨_, rfl⟩
  rw [hB0] at HF0 HG0 HH0 ⊢
  have HZB := Lib.hid hB0
  clear hB0
  generalize B0 + 1 + 1 = B2 at *
  generalize B0 + 1 = B1 at *
  go_wp2_with fail
  refine (examples9_any _).mono ?_
  rintro e w1 ⟨rfl, hb1⟩
  have HB : Hid (Below w.heap.size w w1) := HB0.out.trans (hb1.mono HB0.out.size)
  have HF := Lib.hid (HF0.out.below hb1 HF0.out.lt)
  have HG := Lib.hid (HG0.out.below hb1 HG0.out.lt)
  have HH := Lib.hid (HH0.out.below hb1 HH0.out.lt)
  clear hb1 HB0 HF0 HG0 HH0
  have f0 := HF.out.c0
  have f1 := HF.out.c1
  have f2 := HF.out.c2
  have g0 := HG.out.c0
  have g1 := HG.out.c1
  have g2 := HG.out.c2
  have h0 := HH.out.c0
  have h1 := HH.out.c1
  have h2 := HH.out.c2
  by_cases q0 : 60 < n0
  · have d0 : (n0 : Int) > 60 := by omega
    go_wp2
    go_ret
    exact ⟨rfl, HB.out⟩
  · have d0 : ¬ (n0 : Int) > 60 := by omega
    by_cases q1 : 60 < n1
    · have d1 : (n1 : Int) > 60 := by omega
      go_wp2
      go_ret
      exact ⟨rfl, HB.out⟩
    · have d1 : ¬ (n1 : Int) > 60 := by omega
      have q2 : 60 < n2 := by have := HL.out; omega
      have d2 : (n2 : Int) > 60 := by omega
      go_wp2
      go_ret
      exact ⟨rfl, HB.out⟩

set_option maxRecDepth 100000 in
set_option maxHeartbeats 8000000 in
theorem walk {k0 k1 k2 : Int} {a0 a1 a2 b0 b1 b2 : Option Addr} {n0 n1 n2 t0 t1 t2 m0 m1 m2 e0 e1 e2 : Nat} {i0 i1 i2 : List Int} {w : World} (hn0 : n0 ≤ 60) (hn1 : n1 ≤ 60) (hn2 : n2 ≤ 60) (hR0 : Rd (fun _ => True) w .i64 a0 n0 t0 i0) (hR1 : Rd (fun _ => True) w .i64 a1 n1 t1 i1) (hR2 : Rd (fun _ => True) w .i64 a2 n2 t2 i2) :
    Calls Try.prog 9 #[.agg #[.int .i64 k0, .slice a0 n0 t0, .slice b0 m0 e0], .agg #[.int .i64 k1, .slice a1 n1 t1, .slice b1 m1 e1], .agg #[.int .i64 k2, .slice a2 n2 t2, .slice b2 m2 e2]] w fun e V => e = .returned (.bool true) ∧ Below w.heap.size w V := by
  have HR0 := Lib.hid hR0
  have HR1 := Lib.hid hR1
  have HR2 := Lib.hid hR2
  have d0 : ¬ (n0 : Int) > 60 := by omega
  have d1 : ¬ (n1 : Int) > 60 := by omega
  have d2 : ¬ (n2 : Int) > 60 := by omega
  clear hR0 hR1 hR2 hn0 hn1 hn2
  obtain ⟨x, hx⟩ : ∃ x, cmpF k0 i0 k1 i1 = x := ⟨_, rfl⟩
  obtain ⟨y, hy⟩ : ∃ y, cmpF k1 i1 k2 i2 = y := ⟨_, rfl⟩
  obtain ⟨z, hz⟩ : ∃ z, cmpF k0 i0 k2 i2 = z := ⟨_, rfl⟩
  have HX := Lib.hid hx
  have HY := Lib.hid hy
  have HZ := Lib.hid hz
  have HLX : Hid ((x = -1 ∨ x = 0 ∨ x = 1) ∧ cmpF k1 i1 k0 i0 = -x) := by rw [← hx]; exact cmpF_lex
  have HTR : Hid (x ≤ 0 → y ≤ 0 → z ≤ 0 ∧ (x < 0 → z < 0)) := by rw [← hx, ← hy, ← hz]; exact fun h1 h2 => cmpF_trans h1 h2
  have HEQ : Hid (x = 0 ↔ k0 = k1 ∧ i0 = i1) := by rw [← hx]; exact cmpF_zero
  clear hx hy hz
  have hs0 : (w.alloc (.cells #[.int .i64 k0, .slice a0 n0 t0, .slice b0 m0 e0] 52)).heap.size = w.heap.size + 1 := World.size_alloc ..
  have hs1 : ((w.alloc (.cells #[.int .i64 k0, .slice a0 n0 t0, .slice b0 m0 e0] 52)).alloc (.cells #[.int .i64 k1, .slice a1 n1 t1, .slice b1 m1 e1] 52)).heap.size = w.heap.size + 1 + 1 := by rw [World.size_alloc, hs0]
  have hb0 : Below w.heap.size w (w.alloc (.cells #[.int .i64 k0, .slice a0 n0 t0, .slice b0 m0 e0] 52)) := (Below.refl _ _).alloc (Nat.le_refl _) _
  have hb1 : Below (w.alloc (.cells #[.int .i64 k0, .slice a0 n0 t0, .slice b0 m0 e0] 52)).heap.size (w.alloc (.cells #[.int .i64 k0, .slice a0 n0 t0, .slice b0 m0 e0] 52)) ((w.alloc (.cells #[.int .i64 k0, .slice a0 n0 t0, .slice b0 m0 e0] 52)).alloc (.cells #[.int .i64 k1, .slice a1 n1 t1, .slice b1 m1 e1] 52)) := (Below.refl _ _).alloc (Nat.le_refl _) _
  have hb2 : Below ((w.alloc (.cells #[.int .i64 k0, .slice a0 n0 t0, .slice b0 m0 e0] 52)).alloc (.cells #[.int .i64 k1, .slice a1 n1 t1, .slice b1 m1 e1] 52)).heap.size ((w.alloc (.cells #[.int .i64 k0, .slice a0 n0 t0, .slice b0 m0 e0] 52)).alloc (.cells #[.int .i64 k1, .slice a1 n1 t1, .slice b1 m1 e1] 52)) (((w.alloc (.cells #[.int .i64 k0, .slice a0 n0 t0, .slice b0 m0 e0] 52)).alloc (.cells #[.int .i64 k1, .slice a1 n1 t1, .slice b1 m1 e1] 52)).alloc (.cells #[.int .i64 k2, .slice a2 n2 t2, .slice b2 m2 e2] 52)) := (Below.refl _ _).alloc (Nat.le_refl _) _
  have hf := FileB.new w k0 (.slice a0 n0 t0) (.slice b0 m0 e0)
  have hg := FileB.new (w.alloc (.cells #[.int .i64 k0, .slice a0 n0 t0, .slice b0 m0 e0] 52)) k1 (.slice a1 n1 t1) (.slice b1 m1 e1)
  have HH0 := Lib.hid (FileB.new ((w.alloc (.cells #[.int .i64 k0, .slice a0 n0 t0, .slice b0 m0 e0] 52)).alloc (.cells #[.int .i64 k1, .slice a1 n1 t1, .slice b1 m1 e1] 52)) k2 (.slice a2 n2 t2) (.slice b2 m2 e2))
  have HF0 := Lib.hid ((hf.below hb1 hf.lt).below hb2 (by rw [hs1]; omega))
  have HG0 := Lib.hid (hg.below hb2 hg.lt)
  have HB0 : Hid (Below w.heap.size w (((w.alloc (.cells #[.int .i64 k0, .slice a0 n0 t0, .slice b0 m0 e0] 52)).alloc (.cells #[.int .i64 k1, .slice a1 n1 t1, .slice b1 m1 e1] 52)).alloc (.cells #[.int .i64 k2, .slice a2 n2 t2, .slice b2 m2 e2] 52))) := (hb0.trans (hb1.mono (by omega))).trans (hb2.mono (by omega))
  rw [hs0] at HG0
  rw [hs1] at HH0
  clear hs0 hs1 hb0 hb1 hb2 hf hg
  go_enter Try.func9, Try.ntmps9
  go_upto_region 1 with fail
  generalize ((w.alloc (.cells #[.int .i64 k0, .slice a0 n0 t0, .slice b0 m0 e0] 52)).alloc (.cells #[.int .i64 k1, .slice a1 n1 t1, .slice b1 m1 e1] 52)).alloc (.cells #[.int .i64 k2, .slice a2 n2 t2, .slice b2 m2 e2] 52) = V0 at *
  obtain ⟨B0, hB0⟩ : ∃ B, w.heap.size = B := ⟨_, rfl⟩
  rw [hB0] at HF0 HG0 HH0 ⊢
  have HZB := Lib.hid hB0
  clear hB0
  generalize B0 + 1 + 1 = B2 at *
  generalize B0 + 1 = B1 at *
  go_wp2_with fail
  refine (examples9_any _).mono ?_
  rintro e w1 ⟨rfl, hb1⟩
  have HB : Hid (Below w.heap.size w w1) := HB0.out.trans (hb1.mono HB0.out.size)
  have HF := Lib.hid (HF0.out.below hb1 HF0.out.lt)
  have HG := Lib.hid (HG0.out.below hb1 HG0.out.lt)
  have HH := Lib.hid (HH0.out.below hb1 HH0.out.lt)
  clear hb1 HB0 HF0 HG0 HH0
  have f0 := HF.out.c0
  have f1 := HF.out.c1
  have f2 := HF.out.c2
  have g0 := HG.out.c0
  have g1 := HG.out.c1
  have g2 := HG.out.c2
  have h0 := HH.out.c0
  have h1 := HH.out.c1
  have h2 := HH.out.c2
  go_upto_region 6 with fail
  clear f0 f1 f2 g0 g1 g2 h0 h1 h2 d0 d1 d2
  refine wp_region_facts (by kernel_rfl) (fs := [Fact.is (.agg #[.int .i64 k0, .slice a0 n0 t0, .slice b0 m0 e0]), Fact.is (.agg #[.int .i64 k1, .slice a1 n1 t1, .slice b1 m1 e1]), Fact.is (.int .i64 x), Fact.is (.agg #[.int .i64 k1, .slice a1 n1 t1, .slice b1 m1 e1]), Fact.is (.agg #[.int .i64 k2, .slice a2 n2 t2, .slice b2 m2 e2]), Fact.is (.int .i64 y), Fact.is (.agg #[.int .i64 k0, .slice a0 n0 t0, .slice b0 m0 e0]), Fact.is (.agg #[.int .i64 k2, .slice a2 n2 t2, .slice b2 m2 e2]), Fact.is (.int .i64 z), Fact.is (.int .i64 x), Fact.is (.int .i64 y), Fact.is (.int .i64 z)]) (by kernel_rfl) (by kernel_rfl) ⟨Fact.is_stable _, Fact.is_stable _, Fact.is_stable _, Fact.is_stable _, Fact.is_stable _, Fact.is_stable _, Fact.is_stable _, Fact.is_stable _, Fact.is_stable _, Fact.is_stable _, Fact.is_stable _, Fact.is_stable _, trivial⟩ ?_ ?_
  · exact ⟨by
        intro a W hA hB hd
        have hB := Lib.hid hB
        have p3 : a.eval (.tmp 3) = .pointer (some ⟨B0, 0, none⟩) := hA.at 3 (by kernel_rfl)
        have c0 := (HF.out.below hB.out HF.out.lt).c0
        have c1 := (HF.out.below hB.out HF.out.lt).c1
        have c2 := (HF.out.below hB.out HF.out.lt).c2
        exact (step_pure (wanted_none rfl) (.agg #[.int .i64 k0, .slice a0 n0 t0, .slice b0 m0 e0]) (by simp [execOp, go_sem, tm p3, c0, c1, c2]) rfl),
      by
        intro a W hA hB hd
        have hB := Lib.hid hB
        have p4 : a.eval (.tmp 4) = .pointer (some ⟨B1, 0, none⟩) := hA.at 4 (by kernel_rfl)
        have c0 := (HG.out.below hB.out HG.out.lt).c0
        have c1 := (HG.out.below hB.out HG.out.lt).c1
        have c2 := (HG.out.below hB.out HG.out.lt).c2
        exact (step_pure (wanted_none rfl) (.agg #[.int .i64 k1, .slice a1 n1 t1, .slice b1 m1 e1]) (by simp [execOp, go_sem, tm p4, c0, c1, c2]) rfl),
      by
        intro a W hA hB hd
        obtain ⟨q0, q1, -⟩ := hd
        have h33 : a.eval (.tmp 33) = .agg #[.int .i64 k0, .slice a0 n0 t0, .slice b0 m0 e0] := q0
        have h34 : a.eval (.tmp 34) = .agg #[.int .i64 k1, .slice a1 n1 t1, .slice b1 m1 e1] := q1
        have hB := Lib.hid hB
        exact (step_calls (wanted_none rfl) rfl (vals := #[.agg #[.int .i64 k0, .slice a0 n0 t0, .slice b0 m0 e0], .agg #[.int .i64 k1, .slice a1 n1 t1, .slice b1 m1 e1]]) (by simp [h33, h34]) (enters_of Try.func33 (by kernel_rfl) rfl) ((ccmp_any (HR0.out.below (HB.out.trans (hB.out.mono HB.out.size))) (HR1.out.below (HB.out.trans (hB.out.mono HB.out.size))) _ _).mono fun e w' ⟨he, hb⟩ => ⟨_, he, by rw [HX.out]; rfl, hb⟩)),
      by
        intro a W hA hB hd
        have hB := Lib.hid hB
        have p4 : a.eval (.tmp 4) = .pointer (some ⟨B1, 0, none⟩) := hA.at 4 (by kernel_rfl)
        have c0 := (HG.out.below hB.out HG.out.lt).c0
        have c1 := (HG.out.below hB.out HG.out.lt).c1
        have c2 := (HG.out.below hB.out HG.out.lt).c2
        exact (step_pure (wanted_none rfl) (.agg #[.int .i64 k1, .slice a1 n1 t1, .slice b1 m1 e1]) (by simp [execOp, go_sem, tm p4, c0, c1, c2]) rfl),
      by
        intro a W hA hB hd
        have hB := Lib.hid hB
        have p5 : a.eval (.tmp 5) = .pointer (some ⟨B2, 0, none⟩) := hA.at 5 (by kernel_rfl)
        have c0 := (HH.out.below hB.out HH.out.lt).c0
        have c1 := (HH.out.below hB.out HH.out.lt).c1
        have c2 := (HH.out.below hB.out HH.out.lt).c2
        exact (step_pure (wanted_none rfl) (.agg #[.int .i64 k2, .slice a2 n2 t2, .slice b2 m2 e2]) (by simp [execOp, go_sem, tm p5, c0, c1, c2]) rfl),
      by
        intro a W hA hB hd
        obtain ⟨q0, q1, q2, -⟩ := hd
        have h36 : a.eval (.tmp 36) = .agg #[.int .i64 k1, .slice a1 n1 t1, .slice b1 m1 e1] := q0
        have h37 : a.eval (.tmp 37) = .agg #[.int .i64 k2, .slice a2 n2 t2, .slice b2 m2 e2] := q1
        have h35 : a.eval (.tmp 35) = .int .i64 x := q2
        have hB := Lib.hid hB
        exact (step_calls (wanted_none rfl) rfl (vals := #[.agg #[.int .i64 k1, .slice a1 n1 t1, .slice b1 m1 e1], .agg #[.int .i64 k2, .slice a2 n2 t2, .slice b2 m2 e2]]) (by simp [h36, h37]) (enters_of Try.func33 (by kernel_rfl) rfl) ((ccmp_any (HR1.out.below (HB.out.trans (hB.out.mono HB.out.size))) (HR2.out.below (HB.out.trans (hB.out.mono HB.out.size))) _ _).mono fun e w' ⟨he, hb⟩ => ⟨_, he, by rw [HY.out]; rfl, hb⟩)),
      by
        intro a W hA hB hd
        have hB := Lib.hid hB
        have p3 : a.eval (.tmp 3) = .pointer (some ⟨B0, 0, none⟩) := hA.at 3 (by kernel_rfl)
        have c0 := (HF.out.below hB.out HF.out.lt).c0
        have c1 := (HF.out.below hB.out HF.out.lt).c1
        have c2 := (HF.out.below hB.out HF.out.lt).c2
        exact (step_pure (wanted_none rfl) (.agg #[.int .i64 k0, .slice a0 n0 t0, .slice b0 m0 e0]) (by simp [execOp, go_sem, tm p3, c0, c1, c2]) rfl),
      by
        intro a W hA hB hd
        have hB := Lib.hid hB
        have p5 : a.eval (.tmp 5) = .pointer (some ⟨B2, 0, none⟩) := hA.at 5 (by kernel_rfl)
        have c0 := (HH.out.below hB.out HH.out.lt).c0
        have c1 := (HH.out.below hB.out HH.out.lt).c1
        have c2 := (HH.out.below hB.out HH.out.lt).c2
        exact (step_pure (wanted_none rfl) (.agg #[.int .i64 k2, .slice a2 n2 t2, .slice b2 m2 e2]) (by simp [execOp, go_sem, tm p5, c0, c1, c2]) rfl),
      by
        intro a W hA hB hd
        obtain ⟨q0, q1, q2, -⟩ := hd
        have h39 : a.eval (.tmp 39) = .agg #[.int .i64 k0, .slice a0 n0 t0, .slice b0 m0 e0] := q0
        have h40 : a.eval (.tmp 40) = .agg #[.int .i64 k2, .slice a2 n2 t2, .slice b2 m2 e2] := q1
        have h38 : a.eval (.tmp 38) = .int .i64 y := q2
        have hB := Lib.hid hB
        exact (step_calls (wanted_none rfl) rfl (vals := #[.agg #[.int .i64 k0, .slice a0 n0 t0, .slice b0 m0 e0], .agg #[.int .i64 k2, .slice a2 n2 t2, .slice b2 m2 e2]]) (by simp [h39, h40]) (enters_of Try.func33 (by kernel_rfl) rfl) ((ccmp_any (HR0.out.below (HB.out.trans (hB.out.mono HB.out.size))) (HR2.out.below (HB.out.trans (hB.out.mono HB.out.size))) _ _).mono fun e w' ⟨he, hb⟩ => ⟨_, he, by rw [HZ.out]; rfl, hb⟩)),
      by
        intro a W hA hB hd
        obtain ⟨q0, q1, -⟩ := hd
        have h35 : a.eval (.tmp 35) = .int .i64 x := q0
        have h41 : a.eval (.tmp 41) = .int .i64 z := q1
        have hB := Lib.hid hB
        exact (step_pure (wanted_none rfl) (.int .i64 x) (by simp [execOp, go_sem, tm h35]) rfl),
      by
        intro a W hA hB hd
        obtain ⟨q0, q1, -⟩ := hd
        have h38 : a.eval (.tmp 38) = .int .i64 y := q0
        have h8 : a.eval (.tmp 8) = .int .i64 x := q1
        have hB := Lib.hid hB
        exact (step_pure (wanted_none rfl) (.int .i64 y) (by simp [execOp, go_sem, tm h38]) rfl),
      by
        intro a W hA hB hd
        obtain ⟨q0, q1, -⟩ := hd
        have h41 : a.eval (.tmp 41) = .int .i64 z := q0
        have h9 : a.eval (.tmp 9) = .int .i64 y := q1
        have hB := Lib.hid hB
        exact (step_pure (wanted_none rfl) (.int .i64 z) (by simp [execOp, go_sem, tm h41]) rfl), trivial⟩
  · intro zx w2 hA hB hE
    have h8 : zx.eval (.tmp 8) = .int .i64 x := hE.2.2.2.2.2.2.2.2.2.1
    have h9 : zx.eval (.tmp 9) = .int .i64 y := hE.2.2.2.2.2.2.2.2.2.2.1
    have h10 : zx.eval (.tmp 10) = .int .i64 z := hE.2.2.2.2.2.2.2.2.2.2.2.1
    have hp := hA.puts [33, 34, 35, 36, 37, 38, 39, 40, 41, 8, 9, 10] (by kernel_rfl)
    clear hA hE
    simp only [putAll, h8, h9, h10] at hp
    clear h8 h9 h10
    generalize zx.eval = ev6 at hp
    subst hp
    have hB2 := hB
    clear hB
    have HB2 := Lib.hid hB2
    replace HB : Hid (Below w.heap.size w w2) := HB.out.trans (HB2.out.mono HB.out.size)
    replace HF := Lib.hid (HF.out.below hB2 HF.out.lt)
    replace HG := Lib.hid (HG.out.below hB2 HG.out.lt)
    replace HH := Lib.hid (HH.out.below hB2 HH.out.lt)
    clear hB2 HB2
    have f0 := HF.out.c0
    have f1 := HF.out.c1
    have f2 := HF.out.c2
    have g0 := HG.out.c0
    have g1 := HG.out.c1
    have g2 := HG.out.c2
    have h0 := HH.out.c0
    have h1 := HH.out.c1
    have h2 := HH.out.c2
    go_upto_region 7 with fail
    simp only [Act.put, List.setIfInBounds_toArray, List.set_cons_succ, List.set_cons_zero]
    have l1 : ¬ x < -1 := by have := HLX.out.1; omega
    have l2 : ¬ x > 1 := by have := HLX.out.1; omega
    have hwx : IntKind.i64.wrap (-x) = -x := by have := HLX.out.1; rw [IntKind.wrap_i64]; omega
    by_cases x0 : x ≤ 0
    · by_cases y0 : y ≤ 0
      · have z1 : ¬ z > 0 := by have := (HTR.out x0 y0).1; omega
        by_cases xn : x < 0
        · have z2 : ¬ z ≥ 0 := by have := (HTR.out x0 y0).2 xn; omega
          go_upto_region 9 with (go_at_call 33; refine (ccmp_any (HR1.out.below HB.out) (HR0.out.below HB.out) _ _).mono ?_; rintro e w3 ⟨rfl, hb3⟩; rw [HLX.out.2]; replace HB : Hid (Below w.heap.size w w3) := HB.out.trans (hb3.mono HB.out.size); replace HF := Lib.hid (HF.out.below hb3 HF.out.lt); replace HG := Lib.hid (HG.out.below hb3 HG.out.lt); replace HH := Lib.hid (HH.out.below hb3 HH.out.lt); clear hb3 f0 f1 f2 g0 g1 g2 h0 h1 h2; have f0 := HF.out.c0; have f1 := HF.out.c1; have f2 := HF.out.c2; have g0 := HG.out.c0; have g1 := HG.out.c1; have g2 := HG.out.c2; have h0 := HH.out.c0; have h1 := HH.out.c1; have h2 := HH.out.c2)
          have flt := HF.out.lt
          have glt := HG.out.lt
          go_upto_region 10 with fail
          have hb4 : Below w3.heap.size w3 (w3.alloc (.cells #[.int .i64 k0, .slice a0 n0 t0, .slice b0 m0 e0] 52)) := (Below.refl _ _).alloc (Nat.le_refl _) _
          have HO4 := Lib.hid (FileB.new w3 k0 (.slice a0 n0 t0) (.slice b0 m0 e0))
          have HBO : Hid (w.heap.size ≤ w3.heap.size) := HB.out.size
          have HF3 : Hid (B0 < w3.heap.size) := HF.out.lt
          have HG3 : Hid (B1 < w3.heap.size) := HG.out.lt
          have HH3 : Hid (B2 < w3.heap.size) := HH.out.lt
          replace HB : Hid (Below w.heap.size w (w3.alloc (.cells #[.int .i64 k0, .slice a0 n0 t0, .slice b0 m0 e0] 52))) := HB.out.trans (hb4.mono HB.out.size); replace HF := Lib.hid (HF.out.below hb4 HF.out.lt); replace HG := Lib.hid (HG.out.below hb4 HG.out.lt); replace HH := Lib.hid (HH.out.below hb4 HH.out.lt); clear hb4 f0 f1 f2 g0 g1 g2 h0 h1 h2; have f0 := HF.out.c0; have f1 := HF.out.c1; have f2 := HF.out.c2; have g0 := HG.out.c0; have g1 := HG.out.c1; have g2 := HG.out.c2; have h0 := HH.out.c0; have h1 := HH.out.c1; have h2 := HH.out.c2
          clear flt glt
          generalize w3.alloc (.cells #[.int .i64 k0, .slice a0 n0 t0, .slice b0 m0 e0] 52) = w4 at *
          generalize w3.heap.size = O at *
          have o0 := HO4.out.c0
          have o1 := HO4.out.c1
          have o2 := HO4.out.c2
          have of2 := HO4.out.f 2
          have flt := HF.out.lt
          have glt := HG.out.lt
          have olt := HO4.out.lt
          go_upto_region 11 with fail
          clear flt glt olt of2 o0 o1 o2 f0 f1 f2 g0 g1 g2 h0 h1 h2
          have hK : Kept (fun b => b ≠ O) w4 (w4.setCell ⟨O, 2, none⟩ (.slice b1 m1 e1)) := kept_set _ _ _ _
          have HO : Hid (FileB (w4.setCell ⟨O, 2, none⟩ (.slice b1 m1 e1)) O k0 (.slice a0 n0 t0) (.slice b1 m1 e1)) := by
            have h : w4.heap[O]? = _ := HO4.out
            show (w4.setCell ⟨O, 2, none⟩ (.slice b1 m1 e1)).heap[O]? = _
            simp [World.setCell, Array.getElem?_modify, h]
          replace HF : Hid (FileB (w4.setCell ⟨O, 2, none⟩ (.slice b1 m1 e1)) B0 k0 (.slice a0 n0 t0) (.slice b0 m0 e0)) := (hK.block B0 HF.out.lt (by have := HF3.out; show _ ≠ _; omega)).trans HF.out
          replace HG : Hid (FileB (w4.setCell ⟨O, 2, none⟩ (.slice b1 m1 e1)) B1 k1 (.slice a1 n1 t1) (.slice b1 m1 e1)) := (hK.block B1 HG.out.lt (by have := HG3.out; show _ ≠ _; omega)).trans HG.out
          replace HH : Hid (FileB (w4.setCell ⟨O, 2, none⟩ (.slice b1 m1 e1)) B2 k2 (.slice a2 n2 t2) (.slice b2 m2 e2)) := (hK.block B2 HH.out.lt (by have := HH3.out; show _ ≠ _; omega)).trans HH.out
          replace HB : Hid (Below w.heap.size w (w4.setCell ⟨O, 2, none⟩ (.slice b1 m1 e1))) := HB.out.setCell HBO.out _
          clear hK HO4 HF3 HG3 HH3 HBO
          generalize (w4.setCell ⟨O, 2, none⟩ (.slice b1 m1 e1)) = w5 at *
          have f0 := HF.out.c0
          have f1 := HF.out.c1
          have f2 := HF.out.c2
          have g0 := HG.out.c0
          have g1 := HG.out.c1
          have g2 := HG.out.c2
          have h0 := HH.out.c0
          have h1 := HH.out.c1
          have h2 := HH.out.c2
          have o0 := HO.out.c0
          have o1 := HO.out.c1
          have o2 := HO.out.c2
          have hx0 : ¬ x = 0 := by omega
          have hx1 : (x == 0) = false := beq_false_of_ne hx0
          have HT1 : Hid True := trivial
          by_cases hk : k0 = k1
          · subst hk
            have HSB : Hid (sameB i0 i1 = false) := sameB_false (fun h => hx0 (HEQ.out.2 ⟨rfl, h⟩))
            go_wp2_with (first
              | (go_at_call 24; refine (ints_any (HR0.out.below HB.out) (HR1.out.below HB.out)).mono ?_; rintro e w6 ⟨rfl, hb6⟩; rw [HSB.out]; replace HO := Lib.hid (HO.out.below hb6 HO.out.lt); clear o0 o1 o2; replace HB : Hid (Below w.heap.size w w6) := HB.out.trans (hb6.mono HB.out.size); replace HF := Lib.hid (HF.out.below hb6 HF.out.lt); replace HG := Lib.hid (HG.out.below hb6 HG.out.lt); replace HH := Lib.hid (HH.out.below hb6 HH.out.lt); clear hb6 f0 f1 f2 g0 g1 g2 h0 h1 h2; have f0 := HF.out.c0; have f1 := HF.out.c1; have f2 := HF.out.c2; have g0 := HG.out.c0; have g1 := HG.out.c1; have g2 := HG.out.c2; have h0 := HH.out.c0; have h1 := HH.out.c1; have h2 := HH.out.c2; have o0 := HO.out.c0; have o1 := HO.out.c1; have o2 := HO.out.c2)
              | (go_at_call 33; have hT := HT1.out; clear hT HT1; refine (ccmp_any (HR0.out.below HB.out) (HR0.out.below HB.out) _ _).mono ?_; rintro e w7 ⟨rfl, hb7⟩; rw [cmpF_self]; replace HO := Lib.hid (HO.out.below hb7 HO.out.lt); clear o0 o1 o2; replace HB : Hid (Below w.heap.size w w7) := HB.out.trans (hb7.mono HB.out.size); replace HF := Lib.hid (HF.out.below hb7 HF.out.lt); replace HG := Lib.hid (HG.out.below hb7 HG.out.lt); replace HH := Lib.hid (HH.out.below hb7 HH.out.lt); clear hb7 f0 f1 f2 g0 g1 g2 h0 h1 h2; have f0 := HF.out.c0; have f1 := HF.out.c1; have f2 := HF.out.c2; have g0 := HG.out.c0; have g1 := HG.out.c1; have g2 := HG.out.c2; have h0 := HH.out.c0; have h1 := HH.out.c1; have h2 := HH.out.c2; have o0 := HO.out.c0; have o1 := HO.out.c1; have o2 := HO.out.c2)
              | (go_at_call 33; refine (ccmp_any (HR0.out.below HB.out) (HR2.out.below HB.out) _ _).mono ?_; rintro e w8 ⟨rfl, hb8⟩; rw [HZ.out]; replace HO := Lib.hid (HO.out.below hb8 HO.out.lt); clear o0 o1 o2; replace HB : Hid (Below w.heap.size w w8) := HB.out.trans (hb8.mono HB.out.size); replace HF := Lib.hid (HF.out.below hb8 HF.out.lt); replace HG := Lib.hid (HG.out.below hb8 HG.out.lt); replace HH := Lib.hid (HH.out.below hb8 HH.out.lt); clear hb8 f0 f1 f2 g0 g1 g2 h0 h1 h2; have f0 := HF.out.c0; have f1 := HF.out.c1; have f2 := HF.out.c2; have g0 := HG.out.c0; have g1 := HG.out.c1; have g2 := HG.out.c2; have h0 := HH.out.c0; have h1 := HH.out.c1; have h2 := HH.out.c2; have o0 := HO.out.c0; have o1 := HO.out.c1; have o2 := HO.out.c2))
            go_ret
            exact ⟨rfl, HB.out⟩
          · have HSB : Hid True := trivial
            clear HSB
            go_wp2_with (first
              | (go_at_call 24; refine (ints_any (HR0.out.below HB.out) (HR1.out.below HB.out)).mono ?_; rintro e w6 ⟨rfl, hb6⟩; rw [HSB.out]; replace HO := Lib.hid (HO.out.below hb6 HO.out.lt); clear o0 o1 o2; replace HB : Hid (Below w.heap.size w w6) := HB.out.trans (hb6.mono HB.out.size); replace HF := Lib.hid (HF.out.below hb6 HF.out.lt); replace HG := Lib.hid (HG.out.below hb6 HG.out.lt); replace HH := Lib.hid (HH.out.below hb6 HH.out.lt); clear hb6 f0 f1 f2 g0 g1 g2 h0 h1 h2; have f0 := HF.out.c0; have f1 := HF.out.c1; have f2 := HF.out.c2; have g0 := HG.out.c0; have g1 := HG.out.c1; have g2 := HG.out.c2; have h0 := HH.out.c0; have h1 := HH.out.c1; have h2 := HH.out.c2; have o0 := HO.out.c0; have o1 := HO.out.c1; have o2 := HO.out.c2)
              | (go_at_call 33; have hT := HT1.out; clear hT HT1; refine (ccmp_any (HR0.out.below HB.out) (HR0.out.below HB.out) _ _).mono ?_; rintro e w7 ⟨rfl, hb7⟩; rw [cmpF_self]; replace HO := Lib.hid (HO.out.below hb7 HO.out.lt); clear o0 o1 o2; replace HB : Hid (Below w.heap.size w w7) := HB.out.trans (hb7.mono HB.out.size); replace HF := Lib.hid (HF.out.below hb7 HF.out.lt); replace HG := Lib.hid (HG.out.below hb7 HG.out.lt); replace HH := Lib.hid (HH.out.below hb7 HH.out.lt); clear hb7 f0 f1 f2 g0 g1 g2 h0 h1 h2; have f0 := HF.out.c0; have f1 := HF.out.c1; have f2 := HF.out.c2; have g0 := HG.out.c0; have g1 := HG.out.c1; have g2 := HG.out.c2; have h0 := HH.out.c0; have h1 := HH.out.c1; have h2 := HH.out.c2; have o0 := HO.out.c0; have o1 := HO.out.c1; have o2 := HO.out.c2)
              | (go_at_call 33; refine (ccmp_any (HR0.out.below HB.out) (HR2.out.below HB.out) _ _).mono ?_; rintro e w8 ⟨rfl, hb8⟩; rw [HZ.out]; replace HO := Lib.hid (HO.out.below hb8 HO.out.lt); clear o0 o1 o2; replace HB : Hid (Below w.heap.size w w8) := HB.out.trans (hb8.mono HB.out.size); replace HF := Lib.hid (HF.out.below hb8 HF.out.lt); replace HG := Lib.hid (HG.out.below hb8 HG.out.lt); replace HH := Lib.hid (HH.out.below hb8 HH.out.lt); clear hb8 f0 f1 f2 g0 g1 g2 h0 h1 h2; have f0 := HF.out.c0; have f1 := HF.out.c1; have f2 := HF.out.c2; have g0 := HG.out.c0; have g1 := HG.out.c1; have g2 := HG.out.c2; have h0 := HH.out.c0; have h1 := HH.out.c1; have h2 := HH.out.c2; have o0 := HO.out.c0; have o1 := HO.out.c1; have o2 := HO.out.c2))
            go_ret
            exact ⟨rfl, HB.out⟩
        · skip
          obtain rfl : x = 0 := by omega
          obtain ⟨hk, hi⟩ := HEQ.out.1 rfl
          subst hk hi
          go_upto_region 9 with (go_at_call 33; refine (ccmp_any (HR1.out.below HB.out) (HR0.out.below HB.out) _ _).mono ?_; rintro e w3 ⟨rfl, hb3⟩; rw [HLX.out.2]; replace HB : Hid (Below w.heap.size w w3) := HB.out.trans (hb3.mono HB.out.size); replace HF := Lib.hid (HF.out.below hb3 HF.out.lt); replace HG := Lib.hid (HG.out.below hb3 HG.out.lt); replace HH := Lib.hid (HH.out.below hb3 HH.out.lt); clear hb3 f0 f1 f2 g0 g1 g2 h0 h1 h2; have f0 := HF.out.c0; have f1 := HF.out.c1; have f2 := HF.out.c2; have g0 := HG.out.c0; have g1 := HG.out.c1; have g2 := HG.out.c2; have h0 := HH.out.c0; have h1 := HH.out.c1; have h2 := HH.out.c2)
          have flt := HF.out.lt
          have glt := HG.out.lt
          go_upto_region 10 with fail
          have hb4 : Below w3.heap.size w3 (w3.alloc (.cells #[.int .i64 k0, .slice a0 n0 t0, .slice b0 m0 e0] 52)) := (Below.refl _ _).alloc (Nat.le_refl _) _
          have HO4 := Lib.hid (FileB.new w3 k0 (.slice a0 n0 t0) (.slice b0 m0 e0))
          have HBO : Hid (w.heap.size ≤ w3.heap.size) := HB.out.size
          have HF3 : Hid (B0 < w3.heap.size) := HF.out.lt
          have HG3 : Hid (B1 < w3.heap.size) := HG.out.lt
          have HH3 : Hid (B2 < w3.heap.size) := HH.out.lt
          replace HB : Hid (Below w.heap.size w (w3.alloc (.cells #[.int .i64 k0, .slice a0 n0 t0, .slice b0 m0 e0] 52))) := HB.out.trans (hb4.mono HB.out.size); replace HF := Lib.hid (HF.out.below hb4 HF.out.lt); replace HG := Lib.hid (HG.out.below hb4 HG.out.lt); replace HH := Lib.hid (HH.out.below hb4 HH.out.lt); clear hb4 f0 f1 f2 g0 g1 g2 h0 h1 h2; have f0 := HF.out.c0; have f1 := HF.out.c1; have f2 := HF.out.c2; have g0 := HG.out.c0; have g1 := HG.out.c1; have g2 := HG.out.c2; have h0 := HH.out.c0; have h1 := HH.out.c1; have h2 := HH.out.c2
          clear flt glt
          generalize w3.alloc (.cells #[.int .i64 k0, .slice a0 n0 t0, .slice b0 m0 e0] 52) = w4 at *
          generalize w3.heap.size = O at *
          have o0 := HO4.out.c0
          have o1 := HO4.out.c1
          have o2 := HO4.out.c2
          have of2 := HO4.out.f 2
          have flt := HF.out.lt
          have glt := HG.out.lt
          have olt := HO4.out.lt
          go_upto_region 11 with fail
          clear flt glt olt of2 o0 o1 o2 f0 f1 f2 g0 g1 g2 h0 h1 h2
          have hK : Kept (fun b => b ≠ O) w4 (w4.setCell ⟨O, 2, none⟩ (.slice b1 m1 e1)) := kept_set _ _ _ _
          have HO : Hid (FileB (w4.setCell ⟨O, 2, none⟩ (.slice b1 m1 e1)) O k0 (.slice a0 n0 t0) (.slice b1 m1 e1)) := by
            have h : w4.heap[O]? = _ := HO4.out
            show (w4.setCell ⟨O, 2, none⟩ (.slice b1 m1 e1)).heap[O]? = _
            simp [World.setCell, Array.getElem?_modify, h]
          replace HF : Hid (FileB (w4.setCell ⟨O, 2, none⟩ (.slice b1 m1 e1)) B0 k0 (.slice a0 n0 t0) (.slice b0 m0 e0)) := (hK.block B0 HF.out.lt (by have := HF3.out; show _ ≠ _; omega)).trans HF.out
          replace HG : Hid (FileB (w4.setCell ⟨O, 2, none⟩ (.slice b1 m1 e1)) B1 k0 (.slice a1 n1 t1) (.slice b1 m1 e1)) := (hK.block B1 HG.out.lt (by have := HG3.out; show _ ≠ _; omega)).trans HG.out
          replace HH : Hid (FileB (w4.setCell ⟨O, 2, none⟩ (.slice b1 m1 e1)) B2 k2 (.slice a2 n2 t2) (.slice b2 m2 e2)) := (hK.block B2 HH.out.lt (by have := HH3.out; show _ ≠ _; omega)).trans HH.out
          replace HB : Hid (Below w.heap.size w (w4.setCell ⟨O, 2, none⟩ (.slice b1 m1 e1))) := HB.out.setCell HBO.out _
          clear hK HO4 HF3 HG3 HH3 HBO
          generalize (w4.setCell ⟨O, 2, none⟩ (.slice b1 m1 e1)) = w5 at *
          have f0 := HF.out.c0
          have f1 := HF.out.c1
          have f2 := HF.out.c2
          have g0 := HG.out.c0
          have g1 := HG.out.c1
          have g2 := HG.out.c2
          have h0 := HH.out.c0
          have h1 := HH.out.c1
          have h2 := HH.out.c2
          have o0 := HO.out.c0
          have o1 := HO.out.c1
          have o2 := HO.out.c2
          have HSB : Hid (sameB i0 i0 = true) := sameB_true rfl
          have HT1 : Hid True := trivial
          go_wp2_with (first
            | (go_at_call 24; refine (ints_any (HR0.out.below HB.out) (HR1.out.below HB.out)).mono ?_; rintro e w6 ⟨rfl, hb6⟩; rw [HSB.out]; replace HO := Lib.hid (HO.out.below hb6 HO.out.lt); clear o0 o1 o2; replace HB : Hid (Below w.heap.size w w6) := HB.out.trans (hb6.mono HB.out.size); replace HF := Lib.hid (HF.out.below hb6 HF.out.lt); replace HG := Lib.hid (HG.out.below hb6 HG.out.lt); replace HH := Lib.hid (HH.out.below hb6 HH.out.lt); clear hb6 f0 f1 f2 g0 g1 g2 h0 h1 h2; have f0 := HF.out.c0; have f1 := HF.out.c1; have f2 := HF.out.c2; have g0 := HG.out.c0; have g1 := HG.out.c1; have g2 := HG.out.c2; have h0 := HH.out.c0; have h1 := HH.out.c1; have h2 := HH.out.c2; have o0 := HO.out.c0; have o1 := HO.out.c1; have o2 := HO.out.c2)
            | (go_at_call 33; have hT := HT1.out; clear hT HT1; refine (ccmp_any (HR0.out.below HB.out) (HR0.out.below HB.out) _ _).mono ?_; rintro e w7 ⟨rfl, hb7⟩; rw [cmpF_self]; replace HO := Lib.hid (HO.out.below hb7 HO.out.lt); clear o0 o1 o2; replace HB : Hid (Below w.heap.size w w7) := HB.out.trans (hb7.mono HB.out.size); replace HF := Lib.hid (HF.out.below hb7 HF.out.lt); replace HG := Lib.hid (HG.out.below hb7 HG.out.lt); replace HH := Lib.hid (HH.out.below hb7 HH.out.lt); clear hb7 f0 f1 f2 g0 g1 g2 h0 h1 h2; have f0 := HF.out.c0; have f1 := HF.out.c1; have f2 := HF.out.c2; have g0 := HG.out.c0; have g1 := HG.out.c1; have g2 := HG.out.c2; have h0 := HH.out.c0; have h1 := HH.out.c1; have h2 := HH.out.c2; have o0 := HO.out.c0; have o1 := HO.out.c1; have o2 := HO.out.c2)
            | (go_at_call 33; refine (ccmp_any (HR0.out.below HB.out) (HR2.out.below HB.out) _ _).mono ?_; rintro e w8 ⟨rfl, hb8⟩; rw [HZ.out]; replace HO := Lib.hid (HO.out.below hb8 HO.out.lt); clear o0 o1 o2; replace HB : Hid (Below w.heap.size w w8) := HB.out.trans (hb8.mono HB.out.size); replace HF := Lib.hid (HF.out.below hb8 HF.out.lt); replace HG := Lib.hid (HG.out.below hb8 HG.out.lt); replace HH := Lib.hid (HH.out.below hb8 HH.out.lt); clear hb8 f0 f1 f2 g0 g1 g2 h0 h1 h2; have f0 := HF.out.c0; have f1 := HF.out.c1; have f2 := HF.out.c2; have g0 := HG.out.c0; have g1 := HG.out.c1; have g2 := HG.out.c2; have h0 := HH.out.c0; have h1 := HH.out.c1; have h2 := HH.out.c2; have o0 := HO.out.c0; have o1 := HO.out.c1; have o2 := HO.out.c2))
          go_ret
          exact ⟨rfl, HB.out⟩
      · by_cases xn : x < 0
        · skip
          go_upto_region 9 with (go_at_call 33; refine (ccmp_any (HR1.out.below HB.out) (HR0.out.below HB.out) _ _).mono ?_; rintro e w3 ⟨rfl, hb3⟩; rw [HLX.out.2]; replace HB : Hid (Below w.heap.size w w3) := HB.out.trans (hb3.mono HB.out.size); replace HF := Lib.hid (HF.out.below hb3 HF.out.lt); replace HG := Lib.hid (HG.out.below hb3 HG.out.lt); replace HH := Lib.hid (HH.out.below hb3 HH.out.lt); clear hb3 f0 f1 f2 g0 g1 g2 h0 h1 h2; have f0 := HF.out.c0; have f1 := HF.out.c1; have f2 := HF.out.c2; have g0 := HG.out.c0; have g1 := HG.out.c1; have g2 := HG.out.c2; have h0 := HH.out.c0; have h1 := HH.out.c1; have h2 := HH.out.c2)
          have flt := HF.out.lt
          have glt := HG.out.lt
          go_upto_region 10 with fail
          have hb4 : Below w3.heap.size w3 (w3.alloc (.cells #[.int .i64 k0, .slice a0 n0 t0, .slice b0 m0 e0] 52)) := (Below.refl _ _).alloc (Nat.le_refl _) _
          have HO4 := Lib.hid (FileB.new w3 k0 (.slice a0 n0 t0) (.slice b0 m0 e0))
          have HBO : Hid (w.heap.size ≤ w3.heap.size) := HB.out.size
          have HF3 : Hid (B0 < w3.heap.size) := HF.out.lt
          have HG3 : Hid (B1 < w3.heap.size) := HG.out.lt
          have HH3 : Hid (B2 < w3.heap.size) := HH.out.lt
          replace HB : Hid (Below w.heap.size w (w3.alloc (.cells #[.int .i64 k0, .slice a0 n0 t0, .slice b0 m0 e0] 52))) := HB.out.trans (hb4.mono HB.out.size); replace HF := Lib.hid (HF.out.below hb4 HF.out.lt); replace HG := Lib.hid (HG.out.below hb4 HG.out.lt); replace HH := Lib.hid (HH.out.below hb4 HH.out.lt); clear hb4 f0 f1 f2 g0 g1 g2 h0 h1 h2; have f0 := HF.out.c0; have f1 := HF.out.c1; have f2 := HF.out.c2; have g0 := HG.out.c0; have g1 := HG.out.c1; have g2 := HG.out.c2; have h0 := HH.out.c0; have h1 := HH.out.c1; have h2 := HH.out.c2
          clear flt glt
          generalize w3.alloc (.cells #[.int .i64 k0, .slice a0 n0 t0, .slice b0 m0 e0] 52) = w4 at *
          generalize w3.heap.size = O at *
          have o0 := HO4.out.c0
          have o1 := HO4.out.c1
          have o2 := HO4.out.c2
          have of2 := HO4.out.f 2
          have flt := HF.out.lt
          have glt := HG.out.lt
          have olt := HO4.out.lt
          go_upto_region 11 with fail
          clear flt glt olt of2 o0 o1 o2 f0 f1 f2 g0 g1 g2 h0 h1 h2
          have hK : Kept (fun b => b ≠ O) w4 (w4.setCell ⟨O, 2, none⟩ (.slice b1 m1 e1)) := kept_set _ _ _ _
          have HO : Hid (FileB (w4.setCell ⟨O, 2, none⟩ (.slice b1 m1 e1)) O k0 (.slice a0 n0 t0) (.slice b1 m1 e1)) := by
            have h : w4.heap[O]? = _ := HO4.out
            show (w4.setCell ⟨O, 2, none⟩ (.slice b1 m1 e1)).heap[O]? = _
            simp [World.setCell, Array.getElem?_modify, h]
          replace HF : Hid (FileB (w4.setCell ⟨O, 2, none⟩ (.slice b1 m1 e1)) B0 k0 (.slice a0 n0 t0) (.slice b0 m0 e0)) := (hK.block B0 HF.out.lt (by have := HF3.out; show _ ≠ _; omega)).trans HF.out
          replace HG : Hid (FileB (w4.setCell ⟨O, 2, none⟩ (.slice b1 m1 e1)) B1 k1 (.slice a1 n1 t1) (.slice b1 m1 e1)) := (hK.block B1 HG.out.lt (by have := HG3.out; show _ ≠ _; omega)).trans HG.out
          replace HH : Hid (FileB (w4.setCell ⟨O, 2, none⟩ (.slice b1 m1 e1)) B2 k2 (.slice a2 n2 t2) (.slice b2 m2 e2)) := (hK.block B2 HH.out.lt (by have := HH3.out; show _ ≠ _; omega)).trans HH.out
          replace HB : Hid (Below w.heap.size w (w4.setCell ⟨O, 2, none⟩ (.slice b1 m1 e1))) := HB.out.setCell HBO.out _
          clear hK HO4 HF3 HG3 HH3 HBO
          generalize (w4.setCell ⟨O, 2, none⟩ (.slice b1 m1 e1)) = w5 at *
          have f0 := HF.out.c0
          have f1 := HF.out.c1
          have f2 := HF.out.c2
          have g0 := HG.out.c0
          have g1 := HG.out.c1
          have g2 := HG.out.c2
          have h0 := HH.out.c0
          have h1 := HH.out.c1
          have h2 := HH.out.c2
          have o0 := HO.out.c0
          have o1 := HO.out.c1
          have o2 := HO.out.c2
          have hx0 : ¬ x = 0 := by omega
          have hx1 : (x == 0) = false := beq_false_of_ne hx0
          have HT1 : Hid True := trivial
          by_cases hk : k0 = k1
          · subst hk
            have HSB : Hid (sameB i0 i1 = false) := sameB_false (fun h => hx0 (HEQ.out.2 ⟨rfl, h⟩))
            go_wp2_with (first
              | (go_at_call 24; refine (ints_any (HR0.out.below HB.out) (HR1.out.below HB.out)).mono ?_; rintro e w6 ⟨rfl, hb6⟩; rw [HSB.out]; replace HO := Lib.hid (HO.out.below hb6 HO.out.lt); clear o0 o1 o2; replace HB : Hid (Below w.heap.size w w6) := HB.out.trans (hb6.mono HB.out.size); replace HF := Lib.hid (HF.out.below hb6 HF.out.lt); replace HG := Lib.hid (HG.out.below hb6 HG.out.lt); replace HH := Lib.hid (HH.out.below hb6 HH.out.lt); clear hb6 f0 f1 f2 g0 g1 g2 h0 h1 h2; have f0 := HF.out.c0; have f1 := HF.out.c1; have f2 := HF.out.c2; have g0 := HG.out.c0; have g1 := HG.out.c1; have g2 := HG.out.c2; have h0 := HH.out.c0; have h1 := HH.out.c1; have h2 := HH.out.c2; have o0 := HO.out.c0; have o1 := HO.out.c1; have o2 := HO.out.c2)
              | (go_at_call 33; have hT := HT1.out; clear hT HT1; refine (ccmp_any (HR0.out.below HB.out) (HR0.out.below HB.out) _ _).mono ?_; rintro e w7 ⟨rfl, hb7⟩; rw [cmpF_self]; replace HO := Lib.hid (HO.out.below hb7 HO.out.lt); clear o0 o1 o2; replace HB : Hid (Below w.heap.size w w7) := HB.out.trans (hb7.mono HB.out.size); replace HF := Lib.hid (HF.out.below hb7 HF.out.lt); replace HG := Lib.hid (HG.out.below hb7 HG.out.lt); replace HH := Lib.hid (HH.out.below hb7 HH.out.lt); clear hb7 f0 f1 f2 g0 g1 g2 h0 h1 h2; have f0 := HF.out.c0; have f1 := HF.out.c1; have f2 := HF.out.c2; have g0 := HG.out.c0; have g1 := HG.out.c1; have g2 := HG.out.c2; have h0 := HH.out.c0; have h1 := HH.out.c1; have h2 := HH.out.c2; have o0 := HO.out.c0; have o1 := HO.out.c1; have o2 := HO.out.c2)
              | (go_at_call 33; refine (ccmp_any (HR0.out.below HB.out) (HR2.out.below HB.out) _ _).mono ?_; rintro e w8 ⟨rfl, hb8⟩; rw [HZ.out]; replace HO := Lib.hid (HO.out.below hb8 HO.out.lt); clear o0 o1 o2; replace HB : Hid (Below w.heap.size w w8) := HB.out.trans (hb8.mono HB.out.size); replace HF := Lib.hid (HF.out.below hb8 HF.out.lt); replace HG := Lib.hid (HG.out.below hb8 HG.out.lt); replace HH := Lib.hid (HH.out.below hb8 HH.out.lt); clear hb8 f0 f1 f2 g0 g1 g2 h0 h1 h2; have f0 := HF.out.c0; have f1 := HF.out.c1; have f2 := HF.out.c2; have g0 := HG.out.c0; have g1 := HG.out.c1; have g2 := HG.out.c2; have h0 := HH.out.c0; have h1 := HH.out.c1; have h2 := HH.out.c2; have o0 := HO.out.c0; have o1 := HO.out.c1; have o2 := HO.out.c2))
            go_ret
            exact ⟨rfl, HB.out⟩
          · have HSB : Hid True := trivial
            clear HSB
            go_wp2_with (first
              | (go_at_call 24; refine (ints_any (HR0.out.below HB.out) (HR1.out.below HB.out)).mono ?_; rintro e w6 ⟨rfl, hb6⟩; rw [HSB.out]; replace HO := Lib.hid (HO.out.below hb6 HO.out.lt); clear o0 o1 o2; replace HB : Hid (Below w.heap.size w w6) := HB.out.trans (hb6.mono HB.out.size); replace HF := Lib.hid (HF.out.below hb6 HF.out.lt); replace HG := Lib.hid (HG.out.below hb6 HG.out.lt); replace HH := Lib.hid (HH.out.below hb6 HH.out.lt); clear hb6 f0 f1 f2 g0 g1 g2 h0 h1 h2; have f0 := HF.out.c0; have f1 := HF.out.c1; have f2 := HF.out.c2; have g0 := HG.out.c0; have g1 := HG.out.c1; have g2 := HG.out.c2; have h0 := HH.out.c0; have h1 := HH.out.c1; have h2 := HH.out.c2; have o0 := HO.out.c0; have o1 := HO.out.c1; have o2 := HO.out.c2)
              | (go_at_call 33; have hT := HT1.out; clear hT HT1; refine (ccmp_any (HR0.out.below HB.out) (HR0.out.below HB.out) _ _).mono ?_; rintro e w7 ⟨rfl, hb7⟩; rw [cmpF_self]; replace HO := Lib.hid (HO.out.below hb7 HO.out.lt); clear o0 o1 o2; replace HB : Hid (Below w.heap.size w w7) := HB.out.trans (hb7.mono HB.out.size); replace HF := Lib.hid (HF.out.below hb7 HF.out.lt); replace HG := Lib.hid (HG.out.below hb7 HG.out.lt); replace HH := Lib.hid (HH.out.below hb7 HH.out.lt); clear hb7 f0 f1 f2 g0 g1 g2 h0 h1 h2; have f0 := HF.out.c0; have f1 := HF.out.c1; have f2 := HF.out.c2; have g0 := HG.out.c0; have g1 := HG.out.c1; have g2 := HG.out.c2; have h0 := HH.out.c0; have h1 := HH.out.c1; have h2 := HH.out.c2; have o0 := HO.out.c0; have o1 := HO.out.c1; have o2 := HO.out.c2)
              | (go_at_call 33; refine (ccmp_any (HR0.out.below HB.out) (HR2.out.below HB.out) _ _).mono ?_; rintro e w8 ⟨rfl, hb8⟩; rw [HZ.out]; replace HO := Lib.hid (HO.out.below hb8 HO.out.lt); clear o0 o1 o2; replace HB : Hid (Below w.heap.size w w8) := HB.out.trans (hb8.mono HB.out.size); replace HF := Lib.hid (HF.out.below hb8 HF.out.lt); replace HG := Lib.hid (HG.out.below hb8 HG.out.lt); replace HH := Lib.hid (HH.out.below hb8 HH.out.lt); clear hb8 f0 f1 f2 g0 g1 g2 h0 h1 h2; have f0 := HF.out.c0; have f1 := HF.out.c1; have f2 := HF.out.c2; have g0 := HG.out.c0; have g1 := HG.out.c1; have g2 := HG.out.c2; have h0 := HH.out.c0; have h1 := HH.out.c1; have h2 := HH.out.c2; have o0 := HO.out.c0; have o1 := HO.out.c1; have o2 := HO.out.c2))
            go_ret
            exact ⟨rfl, HB.out⟩
        · skip
          obtain rfl : x = 0 := by omega
          obtain ⟨hk, hi⟩ := HEQ.out.1 rfl
          subst hk hi
          go_upto_region 9 with (go_at_call 33; refine (ccmp_any (HR1.out.below HB.out) (HR0.out.below HB.out) _ _).mono ?_; rintro e w3 ⟨rfl, hb3⟩; rw [HLX.out.2]; replace HB : Hid (Below w.heap.size w w3) := HB.out.trans (hb3.mono HB.out.size); replace HF := Lib.hid (HF.out.below hb3 HF.out.lt); replace HG := Lib.hid (HG.out.below hb3 HG.out.lt); replace HH := Lib.hid (HH.out.below hb3 HH.out.lt); clear hb3 f0 f1 f2 g0 g1 g2 h0 h1 h2; have f0 := HF.out.c0; have f1 := HF.out.c1; have f2 := HF.out.c2; have g0 := HG.out.c0; have g1 := HG.out.c1; have g2 := HG.out.c2; have h0 := HH.out.c0; have h1 := HH.out.c1; have h2 := HH.out.c2)
          have flt := HF.out.lt
          have glt := HG.out.lt
          go_upto_region 10 with fail
          have hb4 : Below w3.heap.size w3 (w3.alloc (.cells #[.int .i64 k0, .slice a0 n0 t0, .slice b0 m0 e0] 52)) := (Below.refl _ _).alloc (Nat.le_refl _) _
          have HO4 := Lib.hid (FileB.new w3 k0 (.slice a0 n0 t0) (.slice b0 m0 e0))
          have HBO : Hid (w.heap.size ≤ w3.heap.size) := HB.out.size
          have HF3 : Hid (B0 < w3.heap.size) := HF.out.lt
          have HG3 : Hid (B1 < w3.heap.size) := HG.out.lt
          have HH3 : Hid (B2 < w3.heap.size) := HH.out.lt
          replace HB : Hid (Below w.heap.size w (w3.alloc (.cells #[.int .i64 k0, .slice a0 n0 t0, .slice b0 m0 e0] 52))) := HB.out.trans (hb4.mono HB.out.size); replace HF := Lib.hid (HF.out.below hb4 HF.out.lt); replace HG := Lib.hid (HG.out.below hb4 HG.out.lt); replace HH := Lib.hid (HH.out.below hb4 HH.out.lt); clear hb4 f0 f1 f2 g0 g1 g2 h0 h1 h2; have f0 := HF.out.c0; have f1 := HF.out.c1; have f2 := HF.out.c2; have g0 := HG.out.c0; have g1 := HG.out.c1; have g2 := HG.out.c2; have h0 := HH.out.c0; have h1 := HH.out.c1; have h2 := HH.out.c2
          clear flt glt
          generalize w3.alloc (.cells #[.int .i64 k0, .slice a0 n0 t0, .slice b0 m0 e0] 52) = w4 at *
          generalize w3.heap.size = O at *
          have o0 := HO4.out.c0
          have o1 := HO4.out.c1
          have o2 := HO4.out.c2
          have of2 := HO4.out.f 2
          have flt := HF.out.lt
          have glt := HG.out.lt
          have olt := HO4.out.lt
          go_upto_region 11 with fail
          clear flt glt olt of2 o0 o1 o2 f0 f1 f2 g0 g1 g2 h0 h1 h2
          have hK : Kept (fun b => b ≠ O) w4 (w4.setCell ⟨O, 2, none⟩ (.slice b1 m1 e1)) := kept_set _ _ _ _
          have HO : Hid (FileB (w4.setCell ⟨O, 2, none⟩ (.slice b1 m1 e1)) O k0 (.slice a0 n0 t0) (.slice b1 m1 e1)) := by
            have h : w4.heap[O]? = _ := HO4.out
            show (w4.setCell ⟨O, 2, none⟩ (.slice b1 m1 e1)).heap[O]? = _
            simp [World.setCell, Array.getElem?_modify, h]
          replace HF : Hid (FileB (w4.setCell ⟨O, 2, none⟩ (.slice b1 m1 e1)) B0 k0 (.slice a0 n0 t0) (.slice b0 m0 e0)) := (hK.block B0 HF.out.lt (by have := HF3.out; show _ ≠ _; omega)).trans HF.out
          replace HG : Hid (FileB (w4.setCell ⟨O, 2, none⟩ (.slice b1 m1 e1)) B1 k0 (.slice a1 n1 t1) (.slice b1 m1 e1)) := (hK.block B1 HG.out.lt (by have := HG3.out; show _ ≠ _; omega)).trans HG.out
          replace HH : Hid (FileB (w4.setCell ⟨O, 2, none⟩ (.slice b1 m1 e1)) B2 k2 (.slice a2 n2 t2) (.slice b2 m2 e2)) := (hK.block B2 HH.out.lt (by have := HH3.out; show _ ≠ _; omega)).trans HH.out
          replace HB : Hid (Below w.heap.size w (w4.setCell ⟨O, 2, none⟩ (.slice b1 m1 e1))) := HB.out.setCell HBO.out _
          clear hK HO4 HF3 HG3 HH3 HBO
          generalize (w4.setCell ⟨O, 2, none⟩ (.slice b1 m1 e1)) = w5 at *
          have f0 := HF.out.c0
          have f1 := HF.out.c1
          have f2 := HF.out.c2
          have g0 := HG.out.c0
          have g1 := HG.out.c1
          have g2 := HG.out.c2
          have h0 := HH.out.c0
          have h1 := HH.out.c1
          have h2 := HH.out.c2
          have o0 := HO.out.c0
          have o1 := HO.out.c1
          have o2 := HO.out.c2
          have HSB : Hid (sameB i0 i0 = true) := sameB_true rfl
          have HT1 : Hid True := trivial
          go_wp2_with (first
            | (go_at_call 24; refine (ints_any (HR0.out.below HB.out) (HR1.out.below HB.out)).mono ?_; rintro e w6 ⟨rfl, hb6⟩; rw [HSB.out]; replace HO := Lib.hid (HO.out.below hb6 HO.out.lt); clear o0 o1 o2; replace HB : Hid (Below w.heap.size w w6) := HB.out.trans (hb6.mono HB.out.size); replace HF := Lib.hid (HF.out.below hb6 HF.out.lt); replace HG := Lib.hid (HG.out.below hb6 HG.out.lt); replace HH := Lib.hid (HH.out.below hb6 HH.out.lt); clear hb6 f0 f1 f2 g0 g1 g2 h0 h1 h2; have f0 := HF.out.c0; have f1 := HF.out.c1; have f2 := HF.out.c2; have g0 := HG.out.c0; have g1 := HG.out.c1; have g2 := HG.out.c2; have h0 := HH.out.c0; have h1 := HH.out.c1; have h2 := HH.out.c2; have o0 := HO.out.c0; have o1 := HO.out.c1; have o2 := HO.out.c2)
            | (go_at_call 33; have hT := HT1.out; clear hT HT1; refine (ccmp_any (HR0.out.below HB.out) (HR0.out.below HB.out) _ _).mono ?_; rintro e w7 ⟨rfl, hb7⟩; rw [cmpF_self]; replace HO := Lib.hid (HO.out.below hb7 HO.out.lt); clear o0 o1 o2; replace HB : Hid (Below w.heap.size w w7) := HB.out.trans (hb7.mono HB.out.size); replace HF := Lib.hid (HF.out.below hb7 HF.out.lt); replace HG := Lib.hid (HG.out.below hb7 HG.out.lt); replace HH := Lib.hid (HH.out.below hb7 HH.out.lt); clear hb7 f0 f1 f2 g0 g1 g2 h0 h1 h2; have f0 := HF.out.c0; have f1 := HF.out.c1; have f2 := HF.out.c2; have g0 := HG.out.c0; have g1 := HG.out.c1; have g2 := HG.out.c2; have h0 := HH.out.c0; have h1 := HH.out.c1; have h2 := HH.out.c2; have o0 := HO.out.c0; have o1 := HO.out.c1; have o2 := HO.out.c2)
            | (go_at_call 33; refine (ccmp_any (HR0.out.below HB.out) (HR2.out.below HB.out) _ _).mono ?_; rintro e w8 ⟨rfl, hb8⟩; rw [HZ.out]; replace HO := Lib.hid (HO.out.below hb8 HO.out.lt); clear o0 o1 o2; replace HB : Hid (Below w.heap.size w w8) := HB.out.trans (hb8.mono HB.out.size); replace HF := Lib.hid (HF.out.below hb8 HF.out.lt); replace HG := Lib.hid (HG.out.below hb8 HG.out.lt); replace HH := Lib.hid (HH.out.below hb8 HH.out.lt); clear hb8 f0 f1 f2 g0 g1 g2 h0 h1 h2; have f0 := HF.out.c0; have f1 := HF.out.c1; have f2 := HF.out.c2; have g0 := HG.out.c0; have g1 := HG.out.c1; have g2 := HG.out.c2; have h0 := HH.out.c0; have h1 := HH.out.c1; have h2 := HH.out.c2; have o0 := HO.out.c0; have o1 := HO.out.c1; have o2 := HO.out.c2))
          go_ret
          exact ⟨rfl, HB.out⟩
    · have xn : ¬ x < 0 := by omega
      go_upto_region 9 with (go_at_call 33; refine (ccmp_any (HR1.out.below HB.out) (HR0.out.below HB.out) _ _).mono ?_; rintro e w3 ⟨rfl, hb3⟩; rw [HLX.out.2]; replace HB : Hid (Below w.heap.size w w3) := HB.out.trans (hb3.mono HB.out.size); replace HF := Lib.hid (HF.out.below hb3 HF.out.lt); replace HG := Lib.hid (HG.out.below hb3 HG.out.lt); replace HH := Lib.hid (HH.out.below hb3 HH.out.lt); clear hb3 f0 f1 f2 g0 g1 g2 h0 h1 h2; have f0 := HF.out.c0; have f1 := HF.out.c1; have f2 := HF.out.c2; have g0 := HG.out.c0; have g1 := HG.out.c1; have g2 := HG.out.c2; have h0 := HH.out.c0; have h1 := HH.out.c1; have h2 := HH.out.c2)
      have flt := HF.out.lt
      have glt := HG.out.lt
      go_upto_region 10 with fail
      have hb4 : Below w3.heap.size w3 (w3.alloc (.cells #[.int .i64 k0, .slice a0 n0 t0, .slice b0 m0 e0] 52)) := (Below.refl _ _).alloc (Nat.le_refl _) _
      have HO4 := Lib.hid (FileB.new w3 k0 (.slice a0 n0 t0) (.slice b0 m0 e0))
      have HBO : Hid (w.heap.size ≤ w3.heap.size) := HB.out.size
      have HF3 : Hid (B0 < w3.heap.size) := HF.out.lt
      have HG3 : Hid (B1 < w3.heap.size) := HG.out.lt
      have HH3 : Hid (B2 < w3.heap.size) := HH.out.lt
      replace HB : Hid (Below w.heap.size w (w3.alloc (.cells #[.int .i64 k0, .slice a0 n0 t0, .slice b0 m0 e0] 52))) := HB.out.trans (hb4.mono HB.out.size); replace HF := Lib.hid (HF.out.below hb4 HF.out.lt); replace HG := Lib.hid (HG.out.below hb4 HG.out.lt); replace HH := Lib.hid (HH.out.below hb4 HH.out.lt); clear hb4 f0 f1 f2 g0 g1 g2 h0 h1 h2; have f0 := HF.out.c0; have f1 := HF.out.c1; have f2 := HF.out.c2; have g0 := HG.out.c0; have g1 := HG.out.c1; have g2 := HG.out.c2; have h0 := HH.out.c0; have h1 := HH.out.c1; have h2 := HH.out.c2
      clear flt glt
      generalize w3.alloc (.cells #[.int .i64 k0, .slice a0 n0 t0, .slice b0 m0 e0] 52) = w4 at *
      generalize w3.heap.size = O at *
      have o0 := HO4.out.c0
      have o1 := HO4.out.c1
      have o2 := HO4.out.c2
      have of2 := HO4.out.f 2
      have flt := HF.out.lt
      have glt := HG.out.lt
      have olt := HO4.out.lt
      go_upto_region 11 with fail
      clear flt glt olt of2 o0 o1 o2 f0 f1 f2 g0 g1 g2 h0 h1 h2
      have hK : Kept (fun b => b ≠ O) w4 (w4.setCell ⟨O, 2, none⟩ (.slice b1 m1 e1)) := kept_set _ _ _ _
      have HO : Hid (FileB (w4.setCell ⟨O, 2, none⟩ (.slice b1 m1 e1)) O k0 (.slice a0 n0 t0) (.slice b1 m1 e1)) := by
        have h : w4.heap[O]? = _ := HO4.out
        show (w4.setCell ⟨O, 2, none⟩ (.slice b1 m1 e1)).heap[O]? = _
        simp [World.setCell, Array.getElem?_modify, h]
      replace HF : Hid (FileB (w4.setCell ⟨O, 2, none⟩ (.slice b1 m1 e1)) B0 k0 (.slice a0 n0 t0) (.slice b0 m0 e0)) := (hK.block B0 HF.out.lt (by have := HF3.out; show _ ≠ _; omega)).trans HF.out
      replace HG : Hid (FileB (w4.setCell ⟨O, 2, none⟩ (.slice b1 m1 e1)) B1 k1 (.slice a1 n1 t1) (.slice b1 m1 e1)) := (hK.block B1 HG.out.lt (by have := HG3.out; show _ ≠ _; omega)).trans HG.out
      replace HH : Hid (FileB (w4.setCell ⟨O, 2, none⟩ (.slice b1 m1 e1)) B2 k2 (.slice a2 n2 t2) (.slice b2 m2 e2)) := (hK.block B2 HH.out.lt (by have := HH3.out; show _ ≠ _; omega)).trans HH.out
      replace HB : Hid (Below w.heap.size w (w4.setCell ⟨O, 2, none⟩ (.slice b1 m1 e1))) := HB.out.setCell HBO.out _
      clear hK HO4 HF3 HG3 HH3 HBO
      generalize (w4.setCell ⟨O, 2, none⟩ (.slice b1 m1 e1)) = w5 at *
      have f0 := HF.out.c0
      have f1 := HF.out.c1
      have f2 := HF.out.c2
      have g0 := HG.out.c0
      have g1 := HG.out.c1
      have g2 := HG.out.c2
      have h0 := HH.out.c0
      have h1 := HH.out.c1
      have h2 := HH.out.c2
      have o0 := HO.out.c0
      have o1 := HO.out.c1
      have o2 := HO.out.c2
      have hx0 : ¬ x = 0 := by omega
      have hx1 : (x == 0) = false := beq_false_of_ne hx0
      have HT1 : Hid True := trivial
      by_cases hk : k0 = k1
      · subst hk
        have HSB : Hid (sameB i0 i1 = false) := sameB_false (fun h => hx0 (HEQ.out.2 ⟨rfl, h⟩))
        go_wp2_with (first
          | (go_at_call 24; refine (ints_any (HR0.out.below HB.out) (HR1.out.below HB.out)).mono ?_; rintro e w6 ⟨rfl, hb6⟩; rw [HSB.out]; replace HO := Lib.hid (HO.out.below hb6 HO.out.lt); clear o0 o1 o2; replace HB : Hid (Below w.heap.size w w6) := HB.out.trans (hb6.mono HB.out.size); replace HF := Lib.hid (HF.out.below hb6 HF.out.lt); replace HG := Lib.hid (HG.out.below hb6 HG.out.lt); replace HH := Lib.hid (HH.out.below hb6 HH.out.lt); clear hb6 f0 f1 f2 g0 g1 g2 h0 h1 h2; have f0 := HF.out.c0; have f1 := HF.out.c1; have f2 := HF.out.c2; have g0 := HG.out.c0; have g1 := HG.out.c1; have g2 := HG.out.c2; have h0 := HH.out.c0; have h1 := HH.out.c1; have h2 := HH.out.c2; have o0 := HO.out.c0; have o1 := HO.out.c1; have o2 := HO.out.c2)
          | (go_at_call 33; have hT := HT1.out; clear hT HT1; refine (ccmp_any (HR0.out.below HB.out) (HR0.out.below HB.out) _ _).mono ?_; rintro e w7 ⟨rfl, hb7⟩; rw [cmpF_self]; replace HO := Lib.hid (HO.out.below hb7 HO.out.lt); clear o0 o1 o2; replace HB : Hid (Below w.heap.size w w7) := HB.out.trans (hb7.mono HB.out.size); replace HF := Lib.hid (HF.out.below hb7 HF.out.lt); replace HG := Lib.hid (HG.out.below hb7 HG.out.lt); replace HH := Lib.hid (HH.out.below hb7 HH.out.lt); clear hb7 f0 f1 f2 g0 g1 g2 h0 h1 h2; have f0 := HF.out.c0; have f1 := HF.out.c1; have f2 := HF.out.c2; have g0 := HG.out.c0; have g1 := HG.out.c1; have g2 := HG.out.c2; have h0 := HH.out.c0; have h1 := HH.out.c1; have h2 := HH.out.c2; have o0 := HO.out.c0; have o1 := HO.out.c1; have o2 := HO.out.c2)
          | (go_at_call 33; refine (ccmp_any (HR0.out.below HB.out) (HR2.out.below HB.out) _ _).mono ?_; rintro e w8 ⟨rfl, hb8⟩; rw [HZ.out]; replace HO := Lib.hid (HO.out.below hb8 HO.out.lt); clear o0 o1 o2; replace HB : Hid (Below w.heap.size w w8) := HB.out.trans (hb8.mono HB.out.size); replace HF := Lib.hid (HF.out.below hb8 HF.out.lt); replace HG := Lib.hid (HG.out.below hb8 HG.out.lt); replace HH := Lib.hid (HH.out.below hb8 HH.out.lt); clear hb8 f0 f1 f2 g0 g1 g2 h0 h1 h2; have f0 := HF.out.c0; have f1 := HF.out.c1; have f2 := HF.out.c2; have g0 := HG.out.c0; have g1 := HG.out.c1; have g2 := HG.out.c2; have h0 := HH.out.c0; have h1 := HH.out.c1; have h2 := HH.out.c2; have o0 := HO.out.c0; have o1 := HO.out.c1; have o2 := HO.out.c2))
        go_ret
        exact ⟨rfl, HB.out⟩
      · have HSB : Hid True := trivial
        clear HSB
        go_wp2_with (first
          | (go_at_call 24; refine (ints_any (HR0.out.below HB.out) (HR1.out.below HB.out)).mono ?_; rintro e w6 ⟨rfl, hb6⟩; rw [HSB.out]; replace HO := Lib.hid (HO.out.below hb6 HO.out.lt); clear o0 o1 o2; replace HB : Hid (Below w.heap.size w w6) := HB.out.trans (hb6.mono HB.out.size); replace HF := Lib.hid (HF.out.below hb6 HF.out.lt); replace HG := Lib.hid (HG.out.below hb6 HG.out.lt); replace HH := Lib.hid (HH.out.below hb6 HH.out.lt); clear hb6 f0 f1 f2 g0 g1 g2 h0 h1 h2; have f0 := HF.out.c0; have f1 := HF.out.c1; have f2 := HF.out.c2; have g0 := HG.out.c0; have g1 := HG.out.c1; have g2 := HG.out.c2; have h0 := HH.out.c0; have h1 := HH.out.c1; have h2 := HH.out.c2; have o0 := HO.out.c0; have o1 := HO.out.c1; have o2 := HO.out.c2)
          | (go_at_call 33; have hT := HT1.out; clear hT HT1; refine (ccmp_any (HR0.out.below HB.out) (HR0.out.below HB.out) _ _).mono ?_; rintro e w7 ⟨rfl, hb7⟩; rw [cmpF_self]; replace HO := Lib.hid (HO.out.below hb7 HO.out.lt); clear o0 o1 o2; replace HB : Hid (Below w.heap.size w w7) := HB.out.trans (hb7.mono HB.out.size); replace HF := Lib.hid (HF.out.below hb7 HF.out.lt); replace HG := Lib.hid (HG.out.below hb7 HG.out.lt); replace HH := Lib.hid (HH.out.below hb7 HH.out.lt); clear hb7 f0 f1 f2 g0 g1 g2 h0 h1 h2; have f0 := HF.out.c0; have f1 := HF.out.c1; have f2 := HF.out.c2; have g0 := HG.out.c0; have g1 := HG.out.c1; have g2 := HG.out.c2; have h0 := HH.out.c0; have h1 := HH.out.c1; have h2 := HH.out.c2; have o0 := HO.out.c0; have o1 := HO.out.c1; have o2 := HO.out.c2)
          | (go_at_call 33; refine (ccmp_any (HR0.out.below HB.out) (HR2.out.below HB.out) _ _).mono ?_; rintro e w8 ⟨rfl, hb8⟩; rw [HZ.out]; replace HO := Lib.hid (HO.out.below hb8 HO.out.lt); clear o0 o1 o2; replace HB : Hid (Below w.heap.size w w8) := HB.out.trans (hb8.mono HB.out.size); replace HF := Lib.hid (HF.out.below hb8 HF.out.lt); replace HG := Lib.hid (HG.out.below hb8 HG.out.lt); replace HH := Lib.hid (HH.out.below hb8 HH.out.lt); clear hb8 f0 f1 f2 g0 g1 g2 h0 h1 h2; have f0 := HF.out.c0; have f1 := HF.out.c1; have f2 := HF.out.c2; have g0 := HG.out.c0; have g1 := HG.out.c1; have g2 := HG.out.c2; have h0 := HH.out.c0; have h1 := HH.out.c1; have h2 := HH.out.c2; have o0 := HO.out.c0; have o1 := HO.out.c1; have o2 := HO.out.c2))
        go_ret
        exact ⟨rfl, HB.out⟩

end Go.Proofs.Ytdcapmbgnoahpaa.containerOrders
