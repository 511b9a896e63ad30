/-
  Container and the reference agree: the walk.
-/
import Derived.Test.YtkfmgiacdlkmiaaCtMaA
namespace Go.Proofs.Ytkfmgiacdlkmiaa.containerMatchesReference
open Go Go.RowKit Go.Shelf Go.Sort Go.ChangeShapes Go.WideShapes Go.ChangeAt
open Go.Proofs.Ytkfmgiacdlkmiaa

structure Sel (W : World) (AL i : Nat) (kk : Int) (s1 s2 : Value) : Prop where
  lt : AL < W.heap.size
  c0 : W.cell? ⟨AL, i * 3, none⟩ = some (.int .i64 kk)
  c1 : W.cell? ⟨AL, i * 3 + 1, none⟩ = some s1
  c2 : W.cell? ⟨AL, i * 3 + 2, none⟩ = some s2
theorem Sel.below {W V : World} {AL i : Nat} {kk : Int} {s1 s2 : Value} (h : Sel W AL i kk s1 s2) (hb : Below W.heap.size W V) : Sel V AL i kk s1 s2 :=
  ⟨Nat.lt_of_lt_of_le h.lt hb.size, (hb.cell (p := ⟨AL, i * 3, none⟩) h.lt).trans h.c0, (hb.cell (p := ⟨AL, i * 3 + 1, none⟩) h.lt).trans h.c1, (hb.cell (p := ⟨AL, i * 3 + 2, none⟩) h.lt).trans h.c2⟩

set_option maxRecDepth 100000 in
set_option maxHeartbeats 16000000 in
theorem walk_ma {kf : Int} {a0 b0 : Option Addr} {n0 c0 m0 d0 : Nat} {idf daf : List Int} {k : Nat} {a1 a2 : Option Addr} {n1 k1 n2 k2 : Nat} {id da : List Int} {ab : Option Addr} {nb cb : Nat} {bL : List Int} {w : World}
    (hIf : RdM w .i64 a0 n0 c0 idf) (hDf : RdM w .u8 b0 m0 d0 daf) (hzf : Smalls idf) (hof : Oct daf) (hk : k < 256) (hI : RdM w .i64 a1 n1 k1 id) (hD : RdM w .u8 a2 n2 k2 da) (hz : Smalls id) (ho : Oct da) (hbR : RdM w .u8 ab nb cb bL) (hbO : Oct bL) :
    Calls Try.prog 3 #[.agg #[.int .i64 kf, .slice a0 n0 c0, .slice b0 m0 d0], .agg #[.int .u8 (k : Int), .slice a1 n1 k1, .slice a2 n2 k2], .slice ab nb cb] w fun e V => e = .returned (.bool true) ∧ Below w.heap.size w V := by
  have hb1 : Below w.heap.size w (w.alloc (.cells #[.int .i64 kf, .slice a0 n0 c0, .slice b0 m0 d0] 25)) := (Below.refl _ _).alloc (Nat.le_refl _) _
  have hs1 : (w.alloc (.cells #[.int .i64 kf, .slice a0 n0 c0, .slice b0 m0 d0] 25)).heap.size = w.heap.size + 1 := World.size_alloc ..
  have hb2 : Below (w.alloc (.cells #[.int .i64 kf, .slice a0 n0 c0, .slice b0 m0 d0] 25)).heap.size (w.alloc (.cells #[.int .i64 kf, .slice a0 n0 c0, .slice b0 m0 d0] 25)) ((w.alloc (.cells #[.int .i64 kf, .slice a0 n0 c0, .slice b0 m0 d0] 25)).alloc (.cells #[.int .u8 (k : Int), .slice a1 n1 k1, .slice a2 n2 k2] 27)) := (Below.refl _ _).alloc (Nat.le_refl _) _
  have hf := (FileB.new w kf (.slice a0 n0 c0) (.slice b0 m0 d0)).below hb2 (by rw [hs1]; omega)
  have hr := RawB.new (w.alloc (.cells #[.int .i64 kf, .slice a0 n0 c0, .slice b0 m0 d0] 25)) (k : Int) (.slice a1 n1 k1) (.slice a2 n2 k2)
  rw [hs1] at hr
  have HFF := Lib.hid hf
  have HRW := Lib.hid hr
  have HB0 := Lib.hid (hb1.trans (hb2.mono hb1.size))
  have HIf := Lib.hid hIf
  have HDf := Lib.hid hDf
  have HZf := Lib.hid hzf
  have HOf := Lib.hid hof
  have HK := Lib.hid hk
  have HI0 := Lib.hid hI
  have HD0 := Lib.hid hD
  have HZ := Lib.hid hz
  have HO := Lib.hid ho
  have HBR0 := Lib.hid hbR
  have HBO := Lib.hid hbO
  clear hb1 hs1 hb2 hf hr hIf hDf hzf hof hk hI hD hz ho hbR hbO
  go_enter Try.func3, Try.ntmps3
  go_upto_region 1 with fail
  generalize ((w.alloc (.cells #[.int .i64 kf, .slice a0 n0 c0, .slice b0 m0 d0] 25)).alloc (.cells #[.int .u8 (k : Int), .slice a1 n1 k1, .slice a2 n2 k2] 27)) = V0 at *
  obtain ⟨F, hF⟩ : ∃ F, w.heap.size = F := ⟨_, rfl⟩
  rw [hF] at HFF HRW ⊢
  have HFE := Lib.hid hF
  clear hF
  go_wp2_with fail
  refine (examples9_any _).mono ?_
  rintro e w1 ⟨rfl, hb⟩
  have HB1 : Hid (Below w.heap.size w w1) := HB0.out.trans (hb.mono HB0.out.size)
  replace HFF := Lib.hid (HFF.out.below hb HFF.out.lt)
  replace HRW := Lib.hid (HRW.out.below hb HRW.out.lt)
  clear hb HB0
  have q0 := HFF.out.c0
  have q1 := HFF.out.c1
  have q2 := HFF.out.c2
  obtain ⟨r0, r1, r2⟩ := HRW.out.cell
  by_cases h60 : 60 < n0
  · go_wp2
    go_ret
    exact ⟨rfl, HB1.out⟩
  by_cases h300 : 300 < m0
  · go_wp2
    go_ret
    exact ⟨rfl, HB1.out⟩
  by_cases h400 : 400 < nb
  · go_wp2
    go_ret
    exact ⟨rfl, HB1.out⟩
  go_wp2_with fail
  refine (made_any HK.out HI0.out.fit HD0.out.fit (by have h1 := HI0.out.fit; have h2 := HI0.out.top; omega) (by have h1 := HD0.out.fit; have h2 := HD0.out.top; omega) _).mono ?_
  rintro e w2 ⟨rfl, hb⟩
  have HB2 : Hid (Below w.heap.size w w2) := HB1.out.trans (hb.mono HB1.out.size)
  have HI2 := Lib.hid ((HI0.out.below HB2.out).part (min n1 40) (Nat.min_le_left _ _) (by omega))
  have HD2 := Lib.hid ((HD0.out.below HB2.out).part (min n2 200) (Nat.min_le_left _ _) (by omega))
  have HGZ : Hid (Smalls (id.take (min n1 40))) := smalls_take HZ.out _
  have HGO : Hid (Oct (da.take (min n2 200))) := HO.out.take _
  have HL1 : Hid ((id.take (min n1 40)).length ≤ 40) := by show _ ≤ _; rw [List.length_take]; omega
  have HL2 : Hid ((da.take (min n2 200)).length ≤ 200) := by show _ ≤ _; rw [List.length_take]; omega
  have HIx := Lib.hid ((HIf.out.below HB2.out).whole (by omega))
  have HDx := Lib.hid ((HDf.out.below HB2.out).whole (by omega))
  have HBx := Lib.hid ((HBR0.out.below HB2.out).whole (by omega))
  replace HFF := Lib.hid (HFF.out.below hb HFF.out.lt)
  have HKR : Hid (((1 + k % 9 : Nat) : Int) = kR k) := rfl
  have hkc : 1 + (k : Int) % 9 = kR k := by unfold kR; omega
  obtain ⟨km, hkm⟩ : ∃ km, kR k = km := ⟨_, rfl⟩
  have HKK : Hid (1 ≤ km ∧ km ≤ 9) := by rw [← hkm]; exact kR_ok k
  have HSE : Hid (sealE km (id.take (min n1 40)) (da.take (min n2 200)) = 0) := by rw [← hkm]; exact seal_made HL1.out HL2.out
  rw [HKR.out, hkm]
  clear hkm hkc HKR HI0 HD0 HZ HO HIf HDf HBR0 HRW r0 r1 r2 q0 q1 q2 hb HB1 HK
  obtain ⟨f1, hf1⟩ : ∃ f, min n1 40 = f := ⟨_, rfl⟩
  obtain ⟨f2, hf2⟩ : ∃ f, min n2 200 = f := ⟨_, rfl⟩
  obtain ⟨iL, hiL⟩ : ∃ l, id.take (min n1 40) = l := ⟨_, rfl⟩
  obtain ⟨dL, hdL⟩ : ∃ l, da.take (min n2 200) = l := ⟨_, rfl⟩
  rw [hiL] at HI2 HGZ HL1 HSE
  rw [hdL] at HD2 HGO HL2 HSE
  rw [hf1] at HI2 ⊢
  rw [hf2] at HD2 ⊢
  have HN40 : Hid (f1 ≤ 40 ∧ f2 ≤ 200) := by show _ ∧ _; omega
  clear hiL hdL hf1 hf2
  go_upto_region 7 with fail
  have hb3 : Below w2.heap.size w2 (w2.alloc (.cells #[.int .i64 km, .slice a1 f1 k1, .slice a2 f2 k2] 25)) := (Below.refl _ _).alloc (Nat.le_refl _) _
  have HGF := Lib.hid (FileB.new w2 km (.slice a1 f1 k1) (.slice a2 f2 k2))
  replace HFF := Lib.hid (HFF.out.below hb3 HFF.out.lt)
  have HB3 : Hid (Below w.heap.size w (w2.alloc (.cells #[.int .i64 km, .slice a1 f1 k1, .slice a2 f2 k2] 25))) := HB2.out.trans (hb3.mono HB2.out.size)
  replace HI2 := Lib.hid (HI2.out.below hb3)
  replace HD2 := Lib.hid (HD2.out.below hb3)
  replace HIx := Lib.hid (HIx.out.below hb3)
  replace HDx := Lib.hid (HDx.out.below hb3)
  replace HBx := Lib.hid (HBx.out.below hb3)
  clear hb3 HB2
  generalize w2.alloc (.cells #[.int .i64 km, .slice a1 f1 k1, .slice a2 f2 k2] 25) = w3 at *
  generalize w2.heap.size = G at *
  have q0 := HFF.out.c0
  have q1 := HFF.out.c1
  have q2 := HFF.out.c2
  have g0 := HGF.out.c0
  have g1 := HGF.out.c1
  have g2 := HGF.out.c2
  go_upto_region 8 with fail
  clear q0 q1 q2 g0 g1 g2 HFF
  have hb4 : Below w3.heap.size w3 (w3.alloc (.cells #[.int .i64 kf, .slice a0 n0 c0, .slice b0 m0 d0, .int .i64 km, .slice a1 f1 k1, .slice a2 f2 k2] 25)) := (Below.refl _ _).alloc (Nat.le_refl _) _
  have HAL : Hid ((w3.alloc (.cells #[.int .i64 kf, .slice a0 n0 c0, .slice b0 m0 d0, .int .i64 km, .slice a1 f1 k1, .slice a2 f2 k2] 25)).heap[w3.heap.size]? = some (.cells #[.int .i64 kf, .slice a0 n0 c0, .slice b0 m0 d0, .int .i64 km, .slice a1 f1 k1, .slice a2 f2 k2] 25 (0, 0))) := World.alloc_heap_new w3 _
  have HB4 : Hid (Below w.heap.size w (w3.alloc (.cells #[.int .i64 kf, .slice a0 n0 c0, .slice b0 m0 d0, .int .i64 km, .slice a1 f1 k1, .slice a2 f2 k2] 25))) := HB3.out.trans (hb4.mono HB3.out.size)
  replace HGF := Lib.hid (HGF.out.below hb4 HGF.out.lt)
  have HGI := Lib.hid (HI2.out.below hb4)
  have HGD := Lib.hid (HD2.out.below hb4)
  replace HIx := Lib.hid (HIx.out.below hb4)
  replace HDx := Lib.hid (HDx.out.below hb4)
  have HBR := Lib.hid (HBx.out.below hb4)
  clear hb4 HB3 HI2 HD2 HBx
  generalize w3.alloc (.cells #[.int .i64 kf, .slice a0 n0 c0, .slice b0 m0 d0, .int .i64 km, .slice a1 f1 k1, .slice a2 f2 k2] 25) = w4 at *
  generalize w3.heap.size = AL at *
  go_wp2_with fail
  go_loopw [10] (fun iv wr => ∃ i : Nat, iv = .int .i64 (i : Int) ∧ i ≤ 2 ∧ Hid (Below w4.heap.size w4 wr)) (fun iv _ => 2 - (intOf iv).toNat)
  case atStart => exact ⟨0, rfl, by decide, Below.self _⟩
  case round =>
    obtain ⟨i, rfl, hi, HI⟩ := hrel
    by_cases hlt : i < 2
    · have hsel : ∃ (kk : Int) (aa : Option Addr) (na ca : Nat) (idd : List Int) (bb : Option Addr) (mb db : Nat) (daa : List Int), Sel wr AL i kk (.slice aa na ca) (.slice bb mb db) ∧ Rd (fun _ => True) wr .i64 aa na ca idd ∧ Rd (fun _ => True) wr .u8 bb mb db daa ∧ Smalls idd ∧ Oct daa ∧ na ≤ 60 := by
        have hlt2 : AL < w4.heap.size := (Array.getElem?_eq_some_iff.1 HAL.out).1
        have cell : ∀ o x, (#[.int .i64 kf, .slice a0 n0 c0, .slice b0 m0 d0, .int .i64 km, .slice a1 f1 k1, .slice a2 f2 k2] : Array Value)[o]? = some x → w4.cell? ⟨AL, o, none⟩ = some x := fun o x h => by simp only [World.cell?, HAL.out]; exact h
        rcases (by omega : i = 0 ∨ i = 1) with rfl | rfl
        · exact ⟨kf, a0, n0, c0, idf, b0, m0, d0, daf, Sel.below ⟨hlt2, cell _ _ rfl, cell _ _ rfl, cell _ _ rfl⟩ HI.out, HIx.out.below HI.out, HDx.out.below HI.out, HZf.out, HOf.out, by omega⟩
        · exact ⟨km, a1, f1, k1, iL, a2, f2, k2, dL, Sel.below ⟨hlt2, cell _ _ rfl, cell _ _ rfl, cell _ _ rfl⟩ HI.out, HGI.out.below HI.out, HGD.out.below HI.out, HGZ.out, HGO.out, by have := HN40.out; omega⟩
      obtain ⟨kk, aa, na, ca, idd, bb, mb, db, daa, hS, hXI, hXD, hXZ, hXO, hNA⟩ := hsel
      have HS := Lib.hid hS
      have HXI := Lib.hid hXI
      have HXD := Lib.hid hXD
      have HXZ := Lib.hid hXZ
      have HXO := Lib.hid hXO
      have HNA : Hid (na ≤ 100000000) := by show _ ≤ _; omega
      have HNF : Hid (f1 ≤ 100000000) := by have := HN40.out; show _ ≤ _; omega
      clear hS hXI hXD hXZ hXO hNA
      have hcI0 := Lib.hid (fun W (h : Below wr.heap.size wr W) => (HS.out.below h).c0)
      have hcI1 := Lib.hid (fun W (h : Below wr.heap.size wr W) => (HS.out.below h).c1)
      have hcI2 := Lib.hid (fun W (h : Below wr.heap.size wr W) => (HS.out.below h).c2)
      have hi2 : i < 2 := hlt
      have hi3 : (i : Int) < 2 := by omega
      go_upto_region 11 with fail
      refine wp_region_srcs (base := wr.heap.size) (fs := [Fact.is (.slice (some ⟨AL, 0, none⟩) 2 2), Fact.is (.int .i64 (i : Int)), Fact.is (.pointer (some ⟨AL, i * 3, none⟩)), Fact.is (.agg #[.int .i64 kk, .slice aa na ca, .slice bb mb db]), SealF kk idd daa, Fact.is (.slice (some ⟨AL, 0, none⟩) 2 2), Fact.is (.int .i64 (i : Int)), Fact.is (.pointer (some ⟨AL, i * 3, none⟩)), Fact.is (.agg #[.int .i64 kk, .slice aa na ca, .slice bb mb db]), SealF kk idd daa, Fact.no, Fact.no, Fact.no, Fact.no]) (bs := [false, false, false, false, false, false, false, false, false, false, true, true, false, false]) (vs := [⟨10, 12, 4, 11, 48, 33, #[.slice none 0 0, .int .i64 0]⟩, ⟨11, 13, 9, 12, 53, 33, #[.slice none 0 0, .int .i64 0]⟩]) (by kernel_rfl) (by kernel_rfl) (by kernel_rfl) (by kernel_rfl) (by simp [ApartS]) rfl ⟨(fun h => by cases h), (fun h => by cases h), (fun h => by cases h), (fun h => by cases h), (fun h => by cases h), (fun h => by cases h), (fun h => by cases h), (fun h => by cases h), (fun h => by cases h), (fun h => by cases h), fun _ => rfl, fun _ => rfl, (fun h => by cases h), (fun h => by cases h), trivial⟩ ⟨Fact.is_stable _, Fact.is_stable _, Fact.is_stable _, Fact.is_stable _, sealF_stable _ _ _, Fact.is_stable _, Fact.is_stable _, Fact.is_stable _, Fact.is_stable _, sealF_stable _ _ _, Fact.no_stable, Fact.no_stable, Fact.no_stable, Fact.no_stable, trivial⟩ ⟨Fact.is_putS _ _, Fact.is_putS _ _, Fact.is_putS _ _, Fact.is_putS _ _, sealF_putS (by intro v hv; simp at hv; rcases hv with rfl | rfl <;> rfl) _ _ _, Fact.is_putS _ _, Fact.is_putS _ _, Fact.is_putS _ _, Fact.is_putS _ _, sealF_putS (by intro v hv; simp at hv; rcases hv with rfl | rfl <;> rfl) _ _ _, Fact.no_putS _, Fact.no_putS _, Fact.no_putS _, Fact.no_putS _, trivial⟩ ?_ ?_
      · exact ⟨stepS_other rfl rfl (by
            intro a W hA hB hd
            have hB := Lib.hid hB
            have p9 : a.eval (.tmp 9) = .slice (some ⟨AL, 0, none⟩) 2 2 := hA.at 9 (by kernel_rfl)
            have p10 : a.eval (.tmp 10) = .int .i64 (i : Int) := hA.at 10 (by kernel_rfl)
            exact (step_pure (wanted_none rfl) (.slice (some ⟨AL, 0, none⟩) 2 2) (by simp [execOp, go_sem, tm p9]) rfl)),
          stepS_other rfl rfl (by
            intro a W hA hB hd
            have hB := Lib.hid hB
            have p9 : a.eval (.tmp 9) = .slice (some ⟨AL, 0, none⟩) 2 2 := hA.at 9 (by kernel_rfl)
            have p10 : a.eval (.tmp 10) = .int .i64 (i : Int) := hA.at 10 (by kernel_rfl)
            exact (step_pure (wanted_none rfl) (.int .i64 (i : Int)) (by simp [execOp, go_sem, tm p10]) rfl)),
          stepS_other rfl rfl (by
            intro a W hA hB hd
            obtain ⟨q0, q1, -⟩ := hd
            have h44 : a.eval (.tmp 44) = .slice (some ⟨AL, 0, none⟩) 2 2 := q0
            have h45 : a.eval (.tmp 45) = .int .i64 (i : Int) := q1
            have hB := Lib.hid hB
            have p9 : a.eval (.tmp 9) = .slice (some ⟨AL, 0, none⟩) 2 2 := hA.at 9 (by kernel_rfl)
            have p10 : a.eval (.tmp 10) = .int .i64 (i : Int) := hA.at 10 (by kernel_rfl)
            exact (step_pure (wanted_none rfl) (.pointer (some ⟨AL, i * 3, none⟩)) (by simp [execOp, go_sem, tm h44, tm h45, hi3]) rfl)),
          stepS_other rfl rfl (by
            intro a W hA hB hd
            obtain ⟨q0, -⟩ := hd
            have h46 : a.eval (.tmp 46) = .pointer (some ⟨AL, i * 3, none⟩) := q0
            have hB := Lib.hid hB
            have p9 : a.eval (.tmp 9) = .slice (some ⟨AL, 0, none⟩) 2 2 := hA.at 9 (by kernel_rfl)
            have p10 : a.eval (.tmp 10) = .int .i64 (i : Int) := hA.at 10 (by kernel_rfl)
            have c0 := hcI0.out W hB.out
            have c1 := hcI1.out W hB.out
            have c2 := hcI2.out W hB.out
            exact (step_pure (wanted_none rfl) (.agg #[.int .i64 kk, .slice aa na ca, .slice bb mb db]) (by simp [execOp, go_sem, tm h46, c0, c1, c2]) rfl)),
          stepS_other rfl rfl (by
            intro a W hA hB hd
            obtain ⟨q0, -⟩ := hd
            have h47 : a.eval (.tmp 47) = .agg #[.int .i64 kk, .slice aa na ca, .slice bb mb db] := q0
            have hB := Lib.hid hB
            have p9 : a.eval (.tmp 9) = .slice (some ⟨AL, 0, none⟩) 2 2 := hA.at 9 (by kernel_rfl)
            have p10 : a.eval (.tmp 10) = .int .i64 (i : Int) := hA.at 10 (by kernel_rfl)
            exact (step_calls (wanted_none rfl) rfl (vals := #[.agg #[.int .i64 kk, .slice aa na ca, .slice bb mb db]]) (by simp [h47]) (enters_of Try.func6 (by kernel_rfl) rfl) (sealF_of (sealed_any (HXI.out.below hB.out) (HXD.out.below hB.out) HXZ.out HXO.out)))),
          stepS_other rfl rfl (by
            intro a W hA hB hd
            have hB := Lib.hid hB
            have p9 : a.eval (.tmp 9) = .slice (some ⟨AL, 0, none⟩) 2 2 := hA.at 9 (by kernel_rfl)
            have p10 : a.eval (.tmp 10) = .int .i64 (i : Int) := hA.at 10 (by kernel_rfl)
            exact (step_pure (wanted_none rfl) (.slice (some ⟨AL, 0, none⟩) 2 2) (by simp [execOp, go_sem, tm p9]) rfl)),
          stepS_other rfl rfl (by
            intro a W hA hB hd
            have hB := Lib.hid hB
            have p9 : a.eval (.tmp 9) = .slice (some ⟨AL, 0, none⟩) 2 2 := hA.at 9 (by kernel_rfl)
            have p10 : a.eval (.tmp 10) = .int .i64 (i : Int) := hA.at 10 (by kernel_rfl)
            exact (step_pure (wanted_none rfl) (.int .i64 (i : Int)) (by simp [execOp, go_sem, tm p10]) rfl)),
          stepS_other rfl rfl (by
            intro a W hA hB hd
            obtain ⟨q0, q1, -⟩ := hd
            have h49 : a.eval (.tmp 49) = .slice (some ⟨AL, 0, none⟩) 2 2 := q0
            have h50 : a.eval (.tmp 50) = .int .i64 (i : Int) := q1
            have hB := Lib.hid hB
            have p9 : a.eval (.tmp 9) = .slice (some ⟨AL, 0, none⟩) 2 2 := hA.at 9 (by kernel_rfl)
            have p10 : a.eval (.tmp 10) = .int .i64 (i : Int) := hA.at 10 (by kernel_rfl)
            exact (step_pure (wanted_none rfl) (.pointer (some ⟨AL, i * 3, none⟩)) (by simp [execOp, go_sem, tm h49, tm h50, hi3]) rfl)),
          stepS_other rfl rfl (by
            intro a W hA hB hd
            obtain ⟨q0, -⟩ := hd
            have h51 : a.eval (.tmp 51) = .pointer (some ⟨AL, i * 3, none⟩) := q0
            have hB := Lib.hid hB
            have p9 : a.eval (.tmp 9) = .slice (some ⟨AL, 0, none⟩) 2 2 := hA.at 9 (by kernel_rfl)
            have p10 : a.eval (.tmp 10) = .int .i64 (i : Int) := hA.at 10 (by kernel_rfl)
            have c0 := hcI0.out W hB.out
            have c1 := hcI1.out W hB.out
            have c2 := hcI2.out W hB.out
            exact (step_pure (wanted_none rfl) (.agg #[.int .i64 kk, .slice aa na ca, .slice bb mb db]) (by simp [execOp, go_sem, tm h51, c0, c1, c2]) rfl)),
          stepS_other rfl rfl (by
            intro a W hA hB hd
            obtain ⟨q0, q1, -⟩ := hd
            have h52 : a.eval (.tmp 52) = .agg #[.int .i64 kk, .slice aa na ca, .slice bb mb db] := q0
            have h48 : (SealF kk idd daa) (a.eval (.tmp 48)) W := q1
            have hB := Lib.hid hB
            have p9 : a.eval (.tmp 9) = .slice (some ⟨AL, 0, none⟩) 2 2 := hA.at 9 (by kernel_rfl)
            have p10 : a.eval (.tmp 10) = .int .i64 (i : Int) := hA.at 10 (by kernel_rfl)
            exact (step_calls (wanted_none rfl) rfl (vals := #[.agg #[.int .i64 kk, .slice aa na ca, .slice bb mb db]]) (by simp [h52]) (enters_of Try.func7 (by kernel_rfl) rfl) (sealF_of (sealIn_any (HXI.out.below hB.out) (HXD.out.below hB.out) HXZ.out HXO.out)))),
          stepS_al (⟨10, 12, 4, 11, 48, 33, #[.slice none 0 0, .int .i64 0]⟩) rfl rfl (fun a W => by simp [execOp, go_sem]),
          stepS_al (⟨11, 13, 9, 12, 53, 33, #[.slice none 0 0, .int .i64 0]⟩) rfl rfl (fun a W => by simp [execOp, go_sem]),
          stepS_st (⟨10, 12, 4, 11, 48, 33, #[.slice none 0 0, .int .i64 0]⟩) rfl rfl rfl (by kernel_rfl) (by kernel_rfl) (by
            intro a W B hA hB hd hp hk
            obtain ⟨q0, q1, q2, -⟩ := hd
            have hp : a.eval (.tmp 11) = .pointer (some ⟨B, 0, none⟩) := hp
            have q1 : (SealF kk idd daa) (a.eval (.tmp 48)) W := q1
            obtain ⟨xa, xn, xc, ex, -⟩ := q1
            exact store_sl rfl rfl hp ex hk),
          stepS_st (⟨11, 13, 9, 12, 53, 33, #[.slice none 0 0, .int .i64 0]⟩) rfl rfl rfl (by kernel_rfl) (by kernel_rfl) (by
            intro a W B hA hB hd hp hk
            obtain ⟨q0, q1, q2, -⟩ := hd
            have hp : a.eval (.tmp 12) = .pointer (some ⟨B, 0, none⟩) := hp
            have q1 : (SealF kk idd daa) (a.eval (.tmp 53)) W := q1
            obtain ⟨xa, xn, xc, ex, -⟩ := q1
            exact store_sl rfl rfl hp ex hk), trivial⟩
      · intro ax V11 hA hB hE hF
        obtain ⟨hl, -⟩ := hE
        obtain ⟨B11, e11, g11, s11, k11⟩ := hl (⟨10, 12, 4, 11, 48, 33, #[.slice none 0 0, .int .i64 0]⟩) (by simp)
        have e11 : ax.eval (.tmp 11) = .pointer (some ⟨B11, 0, none⟩) := e11
        obtain ⟨cs11, c11, k11⟩ := (k11 : ∃ cs, ax.eval (.tmp 48) = .agg cs ∧ _)
        have f48 : (SealF kk idd daa) (ax.eval (.tmp 48)) V11 := hF 4 48 (by kernel_rfl)
        obtain ⟨a11, n11, d11, u11, r11⟩ := f48
        rw [u11] at c11
        injection c11 with c11
        subst c11
        obtain ⟨B12, e12, g12, s12, k12⟩ := hl (⟨11, 13, 9, 12, 53, 33, #[.slice none 0 0, .int .i64 0]⟩) (by simp)
        have e12 : ax.eval (.tmp 12) = .pointer (some ⟨B12, 0, none⟩) := e12
        obtain ⟨cs12, c12, k12⟩ := (k12 : ∃ cs, ax.eval (.tmp 53) = .agg cs ∧ _)
        have f53 : (SealF kk idd daa) (ax.eval (.tmp 53)) V11 := hF 9 53 (by kernel_rfl)
        obtain ⟨a12, n12, d12, u12, r12⟩ := f53
        rw [u12] at c12
        injection c12 with c12
        subst c12
        have hp := hA.puts [44, 45, 46, 47, 48, 49, 50, 51, 52, 53, 11, 12] (by kernel_rfl)
        clear hA hl hF u11 u12
        simp only [putAll, e11, e12] at hp
        clear e11 e12
        generalize ax.eval = ev11 at hp
        subst hp
        have HQ11 : Hid (Pair V11 B11 33 (.slice a11 n11 d11) (.int .i64 (sealE kk idd daa))) := k11
        have HQ12 : Hid (Pair V11 B12 33 (.slice a12 n12 d12) (.int .i64 (sealE kk idd daa))) := k12
        have HR11 := Lib.hid r11
        have HR12 := Lib.hid r12
        have HB11 : Hid (Below w4.heap.size w4 V11) := HI.out.trans (hB.mono HI.out.size)
        replace HS := Lib.hid (HS.out.below hB)
        have HXI2 := Lib.hid (HXI.out.below hB)
        have HGFo := Lib.hid HGF.out
        have HGF := Lib.hid (HGF.out.below HB11.out HGF.out.lt)
        have HGI2 := Lib.hid (HGI.out.below HB11.out)
        clear k11 k12 r11 r12 hB hcI0 hcI1 hcI2
        have hcJ0 := Lib.hid (fun W (h : Below V11.heap.size V11 W) => (HS.out.below h).c0)
        have hcJ1 := Lib.hid (fun W (h : Below V11.heap.size V11 W) => (HS.out.below h).c1)
        have hcJ2 := Lib.hid (fun W (h : Below V11.heap.size V11 W) => (HS.out.below h).c2)
        obtain ⟨se, hse⟩ : ∃ se, sealE kk idd daa = se := ⟨_, rfl⟩
        rw [hse] at HQ11 HQ12
        clear hse
        generalize sealL kk idd daa = sl at *
        obtain ⟨cm, hcm⟩ : ∃ cm, cmpF kk idd km iL = cm := ⟨_, rfl⟩
        have HCM := Lib.hid hcm
        clear hcm
        simp only [Act.put, List.setIfInBounds_toArray, List.set_cons_succ, List.set_cons_zero]
        go_upto_region 12 with fail
        refine wp_region_facts (by kernel_rfl) (fs := [Fact.is (.pointer (some ⟨B11, 1, none⟩)), Fact.is (.int .i64 se), Fact.is (.pointer (some ⟨B12, 1, none⟩)), Fact.is (.int .i64 se), Fact.is (.bool false), Fact.is (.bool false), Fact.is (.pointer (some ⟨B11, 0, none⟩)), Fact.is (.slice a11 n11 d11), Fact.is (.pointer (some ⟨B12, 0, none⟩)), Fact.is (.slice a12 n12 d12), Fact.is (.bool true), Fact.is (.bool false), Fact.is (.bool false), Fact.is (.bool false), Fact.is (.slice (some ⟨AL, 0, none⟩) 2 2), Fact.is (.int .i64 (i : Int)), Fact.is (.pointer (some ⟨AL, i * 3, none⟩)), Fact.is (.agg #[.int .i64 kk, .slice aa na ca, .slice bb mb db]), Fact.is (.agg #[.int .i64 km, .slice a1 f1 k1, .slice a2 f2 k2]), Fact.is (.int .i64 cm), Fact.is (.slice (some ⟨AL, 0, none⟩) 2 2), Fact.is (.int .i64 (i : Int)), Fact.is (.pointer (some ⟨AL, i * 3, none⟩)), Fact.is (.agg #[.int .i64 kk, .slice aa na ca, .slice bb mb db]), Fact.is (.agg #[.int .i64 km, .slice a1 f1 k1, .slice a2 f2 k2]), Fact.is (.int .i64 cm), Fact.is (.bool false), Fact.is (.bool false)]) (by kernel_rfl) (by kernel_rfl) ⟨Fact.is_stable _, Fact.is_stable _, Fact.is_stable _, Fact.is_stable _, Fact.is_stable _, Fact.is_stable _, Fact.is_stable _, Fact.is_stable _, Fact.is_stable _, Fact.is_stable _, Fact.is_stable _, Fact.is_stable _, Fact.is_stable _, Fact.is_stable _, Fact.is_stable _, Fact.is_stable _, Fact.is_stable _, Fact.is_stable _, Fact.is_stable _, Fact.is_stable _, Fact.is_stable _, Fact.is_stable _, Fact.is_stable _, Fact.is_stable _, Fact.is_stable _, Fact.is_stable _, Fact.is_stable _, Fact.is_stable _, trivial⟩ ?_ ?_
        · exact ⟨by
              intro a W hA hB hd
              have hB := Lib.hid hB
              have p11 : a.eval (.tmp 11) = .pointer (some ⟨B11, 0, none⟩) := hA.at 11 (by kernel_rfl)
              exact (step_pure (wanted_none rfl) (.pointer (some ⟨B11, 1, none⟩)) (by simp [execOp, go_sem, tm p11]) rfl),
            by
              intro a W hA hB hd
              obtain ⟨q0, -⟩ := hd
              have h54 : a.eval (.tmp 54) = .pointer (some ⟨B11, 1, none⟩) := q0
              have hB := Lib.hid hB
              have c0 := (HQ11.out.below hB.out HQ11.out.lt).c1
              exact (step_pure (wanted_none rfl) (.int .i64 se) (by simp [execOp, go_sem, tm h54, c0]) rfl),
            by
              intro a W hA hB hd
              have hB := Lib.hid hB
              have p12 : a.eval (.tmp 12) = .pointer (some ⟨B12, 0, none⟩) := hA.at 12 (by kernel_rfl)
              exact (step_pure (wanted_none rfl) (.pointer (some ⟨B12, 1, none⟩)) (by simp [execOp, go_sem, tm p12]) rfl),
            by
              intro a W hA hB hd
              obtain ⟨q0, -⟩ := hd
              have h56 : a.eval (.tmp 56) = .pointer (some ⟨B12, 1, none⟩) := q0
              have hB := Lib.hid hB
              have c0 := (HQ12.out.below hB.out HQ12.out.lt).c1
              exact (step_pure (wanted_none rfl) (.int .i64 se) (by simp [execOp, go_sem, tm h56, c0]) rfl),
            by
              intro a W hA hB hd
              obtain ⟨q0, q1, -⟩ := hd
              have h55 : a.eval (.tmp 55) = .int .i64 se := q0
              have h57 : a.eval (.tmp 57) = .int .i64 se := q1
              have hB := Lib.hid hB
              exact (step_pure (wanted_none rfl) (.bool false) (by simp [execOp, go_sem, tm h55, tm h57]) rfl),
            by
              intro a W hA hB hd
              obtain ⟨q0, -⟩ := hd
              have h58 : a.eval (.tmp 58) = .bool false := q0
              have hB := Lib.hid hB
              exact (step_pure (wanted_none rfl) (.bool false) (by simp [execOp, go_sem, tm h58]) rfl),
            by
              intro a W hA hB hd
              obtain ⟨q0, -⟩ := hd
              have h59 : a.eval (.tmp 59) = .bool false := q0
              have hB := Lib.hid hB
              have p11 : a.eval (.tmp 11) = .pointer (some ⟨B11, 0, none⟩) := hA.at 11 (by kernel_rfl)
              exact (step_pure ((wanted_guard rfl 59 rfl h59).trans rfl) (.pointer (some ⟨B11, 0, none⟩)) (by simp [execOp, go_sem, tm p11]) rfl),
            by
              intro a W hA hB hd
              obtain ⟨q0, q1, -⟩ := hd
              have h60 : a.eval (.tmp 60) = .pointer (some ⟨B11, 0, none⟩) := q0
              have h59 : a.eval (.tmp 59) = .bool false := q1
              have hB := Lib.hid hB
              have c0 := (HQ11.out.below hB.out HQ11.out.lt).c0
              exact (step_pure ((wanted_guard rfl 59 rfl h59).trans rfl) (.slice a11 n11 d11) (by simp [execOp, go_sem, tm h60, c0]) rfl),
            by
              intro a W hA hB hd
              obtain ⟨q0, -⟩ := hd
              have h59 : a.eval (.tmp 59) = .bool false := q0
              have hB := Lib.hid hB
              have p12 : a.eval (.tmp 12) = .pointer (some ⟨B12, 0, none⟩) := hA.at 12 (by kernel_rfl)
              exact (step_pure ((wanted_guard rfl 59 rfl h59).trans rfl) (.pointer (some ⟨B12, 0, none⟩)) (by simp [execOp, go_sem, tm p12]) rfl),
            by
              intro a W hA hB hd
              obtain ⟨q0, q1, -⟩ := hd
              have h62 : a.eval (.tmp 62) = .pointer (some ⟨B12, 0, none⟩) := q0
              have h59 : a.eval (.tmp 59) = .bool false := q1
              have hB := Lib.hid hB
              have c0 := (HQ12.out.below hB.out HQ12.out.lt).c0
              exact (step_pure ((wanted_guard rfl 59 rfl h59).trans rfl) (.slice a12 n12 d12) (by simp [execOp, go_sem, tm h62, c0]) rfl),
            by
              intro a W hA hB hd
              obtain ⟨q0, q1, q2, q3, -⟩ := hd
              have h61 : a.eval (.tmp 61) = .slice a11 n11 d11 := q0
              have h63 : a.eval (.tmp 63) = .slice a12 n12 d12 := q1
              have h59 : a.eval (.tmp 59) = .bool false := q2
              have hB := Lib.hid hB
              exact (step_calls ((wanted_guard rfl 59 rfl h59).trans rfl) rfl (vals := #[.slice a11 n11 d11, .slice a12 n12 d12]) (by simp [h61, h63]) (enters_of Try.func8 (by kernel_rfl) rfl) ((same_any (HR11.out.below hB.out) (HR12.out.below hB.out)).mono fun e w' ⟨he, hw⟩ => ⟨_, he, by rw [sameB_true rfl]; rfl, hw⟩)),
            by
              intro a W hA hB hd
              obtain ⟨q0, q1, -⟩ := hd
              have h64 : a.eval (.tmp 64) = .bool true := q0
              have h59 : a.eval (.tmp 59) = .bool false := q1
              have hB := Lib.hid hB
              exact (step_pure ((wanted_guard rfl 59 rfl h59).trans rfl) (.bool false) (by simp [execOp, go_sem, tm h64]) rfl),
            by
              intro a W hA hB hd
              obtain ⟨q0, q1, -⟩ := hd
              have h59 : a.eval (.tmp 59) = .bool false := q0
              have h65 : a.eval (.tmp 65) = .bool false := q1
              have hB := Lib.hid hB
              exact (step_pure (wanted_none rfl) (.bool false) (by simp [execOp, go_sem, tm h59, tm h65]) rfl),
            by
              intro a W hA hB hd
              obtain ⟨q0, q1, -⟩ := hd
              have h66 : a.eval (.tmp 66) = .bool false := q0
              have h64 : a.eval (.tmp 64) = .bool true := q1
              have hB := Lib.hid hB
              exact (step_pure (wanted_none rfl) (.bool false) (by simp [execOp, go_sem, tm h66]) rfl),
            by
              intro a W hA hB hd
              obtain ⟨q0, -⟩ := hd
              have h67 : a.eval (.tmp 67) = .bool false := q0
              have hB := Lib.hid hB
              have p9 : a.eval (.tmp 9) = .slice (some ⟨AL, 0, none⟩) 2 2 := hA.at 9 (by kernel_rfl)
              exact (step_pure ((wanted_guard rfl 67 rfl h67).trans rfl) (.slice (some ⟨AL, 0, none⟩) 2 2) (by simp [execOp, go_sem, tm p9]) rfl),
            by
              intro a W hA hB hd
              obtain ⟨q0, -⟩ := hd
              have h67 : a.eval (.tmp 67) = .bool false := q0
              have hB := Lib.hid hB
              have p10 : a.eval (.tmp 10) = .int .i64 (i : Int) := hA.at 10 (by kernel_rfl)
              exact (step_pure ((wanted_guard rfl 67 rfl h67).trans rfl) (.int .i64 (i : Int)) (by simp [execOp, go_sem, tm p10]) rfl),
            by
              intro a W hA hB hd
              obtain ⟨q0, q1, q2, -⟩ := hd
              have h68 : a.eval (.tmp 68) = .slice (some ⟨AL, 0, none⟩) 2 2 := q0
              have h69 : a.eval (.tmp 69) = .int .i64 (i : Int) := q1
              have h67 : a.eval (.tmp 67) = .bool false := q2
              have hB := Lib.hid hB
              exact (step_pure ((wanted_guard rfl 67 rfl h67).trans rfl) (.pointer (some ⟨AL, i * 3, none⟩)) (by simp [execOp, go_sem, tm h68, tm h69, hi3]) rfl),
            by
              intro a W hA hB hd
              obtain ⟨q0, q1, -⟩ := hd
              have h70 : a.eval (.tmp 70) = .pointer (some ⟨AL, i * 3, none⟩) := q0
              have h67 : a.eval (.tmp 67) = .bool false := q1
              have hB := Lib.hid hB
              have c0 := hcJ0.out W hB.out
              have c1 := hcJ1.out W hB.out
              have c2 := hcJ2.out W hB.out
              exact (step_pure ((wanted_guard rfl 67 rfl h67).trans rfl) (.agg #[.int .i64 kk, .slice aa na ca, .slice bb mb db]) (by simp [execOp, go_sem, tm h70, c0, c1, c2]) rfl),
            by
              intro a W hA hB hd
              obtain ⟨q0, -⟩ := hd
              have h67 : a.eval (.tmp 67) = .bool false := q0
              have hB := Lib.hid hB
              have p8 : a.eval (.tmp 8) = .pointer (some ⟨G, 0, none⟩) := hA.at 8 (by kernel_rfl)
              have c0 := (HGF.out.below hB.out HGF.out.lt).c0
              have c1 := (HGF.out.below hB.out HGF.out.lt).c1
              have c2 := (HGF.out.below hB.out HGF.out.lt).c2
              exact (step_pure ((wanted_guard rfl 67 rfl h67).trans rfl) (.agg #[.int .i64 km, .slice a1 f1 k1, .slice a2 f2 k2]) (by simp [execOp, go_sem, tm p8, c0, c1, c2]) rfl),
            by
              intro a W hA hB hd
              obtain ⟨q0, q1, q2, q3, -⟩ := hd
              have h71 : a.eval (.tmp 71) = .agg #[.int .i64 kk, .slice aa na ca, .slice bb mb db] := q0
              have h72 : a.eval (.tmp 72) = .agg #[.int .i64 km, .slice a1 f1 k1, .slice a2 f2 k2] := q1
              have h67 : a.eval (.tmp 67) = .bool false := q2
              have hB := Lib.hid hB
              exact (step_calls ((wanted_guard rfl 67 rfl h67).trans rfl) rfl (vals := #[.agg #[.int .i64 kk, .slice aa na ca, .slice bb mb db], .agg #[.int .i64 km, .slice a1 f1 k1, .slice a2 f2 k2]]) (by simp [h71, h72]) (enters_of Try.func9 (by kernel_rfl) rfl) ((ccmp_any (k := kk) (k' := km) (HXI2.out.below hB.out) (HGI2.out.below hB.out) _ _).mono fun e w' ⟨he, hw⟩ => ⟨_, he, by rw [HCM.out]; rfl, hw⟩)),
            by
              intro a W hA hB hd
              obtain ⟨q0, -⟩ := hd
              have h67 : a.eval (.tmp 67) = .bool false := q0
              have hB := Lib.hid hB
              have p9 : a.eval (.tmp 9) = .slice (some ⟨AL, 0, none⟩) 2 2 := hA.at 9 (by kernel_rfl)
              exact (step_pure ((wanted_guard rfl 67 rfl h67).trans rfl) (.slice (some ⟨AL, 0, none⟩) 2 2) (by simp [execOp, go_sem, tm p9]) rfl),
            by
              intro a W hA hB hd
              obtain ⟨q0, -⟩ := hd
              have h67 : a.eval (.tmp 67) = .bool false := q0
              have hB := Lib.hid hB
              have p10 : a.eval (.tmp 10) = .int .i64 (i : Int) := hA.at 10 (by kernel_rfl)
              exact (step_pure ((wanted_guard rfl 67 rfl h67).trans rfl) (.int .i64 (i : Int)) (by simp [execOp, go_sem, tm p10]) rfl),
            by
              intro a W hA hB hd
              obtain ⟨q0, q1, q2, -⟩ := hd
              have h74 : a.eval (.tmp 74) = .slice (some ⟨AL, 0, none⟩) 2 2 := q0
              have h75 : a.eval (.tmp 75) = .int .i64 (i : Int) := q1
              have h67 : a.eval (.tmp 67) = .bool false := q2
              have hB := Lib.hid hB
              exact (step_pure ((wanted_guard rfl 67 rfl h67).trans rfl) (.pointer (some ⟨AL, i * 3, none⟩)) (by simp [execOp, go_sem, tm h74, tm h75, hi3]) rfl),
            by
              intro a W hA hB hd
              obtain ⟨q0, q1, -⟩ := hd
              have h76 : a.eval (.tmp 76) = .pointer (some ⟨AL, i * 3, none⟩) := q0
              have h67 : a.eval (.tmp 67) = .bool false := q1
              have hB := Lib.hid hB
              have c0 := hcJ0.out W hB.out
              have c1 := hcJ1.out W hB.out
              have c2 := hcJ2.out W hB.out
              exact (step_pure ((wanted_guard rfl 67 rfl h67).trans rfl) (.agg #[.int .i64 kk, .slice aa na ca, .slice bb mb db]) (by simp [execOp, go_sem, tm h76, c0, c1, c2]) rfl),
            by
              intro a W hA hB hd
              obtain ⟨q0, -⟩ := hd
              have h67 : a.eval (.tmp 67) = .bool false := q0
              have hB := Lib.hid hB
              have p8 : a.eval (.tmp 8) = .pointer (some ⟨G, 0, none⟩) := hA.at 8 (by kernel_rfl)
              have c0 := (HGF.out.below hB.out HGF.out.lt).c0
              have c1 := (HGF.out.below hB.out HGF.out.lt).c1
              have c2 := (HGF.out.below hB.out HGF.out.lt).c2
              exact (step_pure ((wanted_guard rfl 67 rfl h67).trans rfl) (.agg #[.int .i64 km, .slice a1 f1 k1, .slice a2 f2 k2]) (by simp [execOp, go_sem, tm p8, c0, c1, c2]) rfl),
            by
              intro a W hA hB hd
              obtain ⟨q0, q1, q2, q3, -⟩ := hd
              have h77 : a.eval (.tmp 77) = .agg #[.int .i64 kk, .slice aa na ca, .slice bb mb db] := q0
              have h78 : a.eval (.tmp 78) = .agg #[.int .i64 km, .slice a1 f1 k1, .slice a2 f2 k2] := q1
              have h73 : a.eval (.tmp 73) = .int .i64 cm := q2
              have h67 : a.eval (.tmp 67) = .bool false := q3
              have hB := Lib.hid hB
              exact (step_calls ((wanted_guard rfl 67 rfl h67).trans rfl) rfl (vals := #[.agg #[.int .i64 kk, .slice aa na ca, .slice bb mb db], .agg #[.int .i64 km, .slice a1 f1 k1, .slice a2 f2 k2]]) (by simp [h77, h78]) (enters_of Try.func10 (by kernel_rfl) rfl) ((rcmp_any (k := kk) (k' := km) (HXI2.out.below hB.out) (HGI2.out.below hB.out) HNA.out HNF.out _ _).mono fun e w' ⟨he, hw⟩ => ⟨_, he, by rw [HCM.out]; rfl, hw⟩)),
            by
              intro a W hA hB hd
              obtain ⟨q0, q1, q2, -⟩ := hd
              have h73 : a.eval (.tmp 73) = .int .i64 cm := q0
              have h79 : a.eval (.tmp 79) = .int .i64 cm := q1
              have h67 : a.eval (.tmp 67) = .bool false := q2
              have hB := Lib.hid hB
              exact (step_pure ((wanted_guard rfl 67 rfl h67).trans rfl) (.bool false) (by simp [execOp, go_sem, tm h73, tm h79]) rfl),
            by
              intro a W hA hB hd
              obtain ⟨q0, q1, -⟩ := hd
              have h67 : a.eval (.tmp 67) = .bool false := q0
              have h80 : a.eval (.tmp 80) = .bool false := q1
              have hB := Lib.hid hB
              exact (step_pure (wanted_none rfl) (.bool false) (by simp [execOp, go_sem, tm h67, tm h80]) rfl), trivial⟩
        · intro zx V12 hA hB hE
          have h81 : zx.eval (.tmp 81) = .bool false := hE.2.2.2.2.2.2.2.2.2.2.2.2.2.2.2.2.2.2.2.2.2.2.2.2.2.2.2.1
          have hp := hA.puts [54, 55, 56, 57, 58, 59, 60, 61, 62, 63, 64, 65, 66, 67, 68, 69, 70, 71, 72, 73, 74, 75, 76, 77, 78, 79, 80, 81] (by kernel_rfl)
          clear hA hE
          simp only [putAll, h81] at hp
          clear h81
          generalize zx.eval = ev at hp
          subst hp
          have HB12 : Hid (Below w4.heap.size w4 V12) := HB11.out.trans (hB.mono HB11.out.size)
          clear hB
          simp only [Act.put, List.setIfInBounds_toArray, List.set_cons_succ, List.set_cons_zero]
          go_wp2
          go_roundw
          case rel => exact ⟨i + 1, by go_num, by omega, HB12.out⟩
          case measure => simp [intOf]; omega
    · obtain rfl : i = 2 := by omega
      replace HGF := Lib.hid (HGF.out.below HI.out HGF.out.lt)
      replace HGI := Lib.hid (HGI.out.below HI.out)
      replace HGD := Lib.hid (HGD.out.below HI.out)
      replace HBR := Lib.hid (HBR.out.below HI.out)
      have HBW : Hid (Below w.heap.size w wr) := HB4.out.trans (HI.out.mono HB4.out.size)
      clear HI HB4 hlt HAL HIx HDx
      have g0 := HGF.out.c0
      have g1 := HGF.out.c1
      have g2 := HGF.out.c2
      go_wp2_with fail
      refine (sealIn_row HGI.out HGD.out HGZ.out HGO.out HSE.out).mono ?_
      rintro e w5 ⟨_, rfl, ⟨g, c, rfl, hgc, hrow⟩, hb5⟩
      have hlen := seal_len_any (k := km) HGZ.out HL1.out (Nat.le_trans HL2.out (by decide))
      have HSO : Hid (Oct (sealS km iL dL)) := sealS_oct HKK.out HGO.out
      have hpos : 8 ≤ (sealS km iL dL).length := by rw [sealS_len]; omega
      obtain ⟨ss, hss⟩ : ∃ ss, sealS km iL dL = ss := ⟨_, rfl⟩
      have HSS := Lib.hid hss
      rw [hss] at hgc hrow hlen hpos HSO ⊢
      clear hss
      have hfl := fun w => field_sl (some ⟨g, 0, none⟩) ss.length c 0 w
      have HB5w := Lib.hid hb5
      have HWW : Hid (wr.heap.size ≤ g) := row_base hrow
      have HROW := Lib.hid hrow
      have HGC := Lib.hid hgc
      clear hb5 g0 g1 g2 hrow hgc
      have HNBL := Lib.hid HBR.out.hl
      have HBO2 : Hid (Oct (ss ++ bL)) := HSO.out.append HBO.out
      have HID0 : Hid (∀ f ∈ (splS (ss ++ bL)).1, f.id.length ≤ 40) := spl_ids _ _ HBO2.out
      obtain ⟨sp, hsp⟩ : ∃ sp, splS (ss ++ bL) = sp := ⟨_, rfl⟩
      have HSP := Lib.hid hsp
      rw [hsp] at HID0
      clear hsp
      obtain ⟨fsL, rL⟩ := sp
      have HID : Hid (∀ f ∈ fsL, f.id.length ≤ 40) := HID0.out
      have HBN : Hid (ss.length + nb ≤ 100000000) := by show _ ≤ _; omega
      have HBN2 : Hid ((ss ++ bL).length ≤ 100000000) := by have := HNBL.out; show _ ≤ _; rw [List.length_append]; omega
      have HBN3 : Hid ((ss ++ bL).length ≤ 900000) := by have := HNBL.out; show _ ≤ _; rw [List.length_append]; omega
      clear HID0
      replace HSE : Hid (sealE km iL dL = 0 ∧ sealS km iL dL = ss) := ⟨HSE.out, HSS.out⟩
      clear HSS HL1 HL2 HKK
      obtain ⟨m, hm⟩ : ∃ m, ss.length = m := ⟨_, rfl⟩
      have HM := Lib.hid hm
      rw [hm] at hpos hlen HROW HGC hfl ⊢
      clear hm
      have hnb4 : nb ≤ 400 := by omega
      go_upto_region 15 with fail
      by_cases h1b : 1 < nb
      · have HBR5 := Lib.hid (HBR.out.below HB5w.out)
        obtain ⟨bb, ob, rfl, _, hbl, hcs⟩ := HBR5.out.cells (by omega)
        have hc0 := hcs 0 (by omega)
        have hc1 := hcs 1 (by omega)
        rw [Nat.add_zero] at hc0
        have hx0 := HBO.out.getD 0
        have hx1 := HBO.out.getD 1
        obtain ⟨x1, hx1e⟩ : ∃ x, bL[1]?.getD 0 = x := ⟨_, rfl⟩
        obtain ⟨y0, hy0⟩ := Int.eq_ofNat_of_zero_le hx0.1
        rw [hy0] at hc0 hx0
        rw [hx1e] at hc1 hx1
        obtain ⟨j, hj⟩ : ∃ j, y0 % m = j := ⟨_, rfl⟩
        have hjl : j < m := by rw [← hj]; exact Nat.mod_lt _ (by omega)
        have hrem : (y0 : Int).tmod (m : Int) = (j : Int) := by rw [Int.tmod_eq_emod_of_nonneg (by omega), ← hj]; rfl
        have hrem2 : ((y0 : Int) % (m : Int)) = (j : Int) := by rw [← hj]; rfl
        have hwj : IntKind.i64.wrap (j : Int) = j := by rw [IntKind.wrap_i64]; omega
        have hm1 : ¬ m = 0 := by omega
        have hjI : (j : Int) < (m : Int) := by omega
        have hyw : IntKind.i64.wrap (y0 : Int) = y0 := by rw [IntKind.wrap_i64]; omega
        have hm0 : ¬ (m : Int) = 0 := by omega
        have hbD : Below w5.heap.size w5 w5.drew := ⟨rfl, rfl, rfl, Nat.le_refl _, fun _ _ => rfl⟩
        have HRD := Lib.hid (row_below HROW.out hbD)
        have hcell := row_cell (j := j) HRD.out (by rw [HM.out]; exact hjl)
        have hfz := row_unfrozen (j := j) HRD.out
        have hst := row_store (j := j) HRD.out (.int .u8 x1)
        rw [← List.map_set] at hst
        have HST := Lib.hid hst
        have HOO : Hid (Oct (ss.set j x1)) := fun x hx => by
          rcases List.mem_or_eq_of_mem_set hx with h | h
          · exact HSO.out x h
          · rw [h]; exact hx1
        have hbX : Hid (Below wr.heap.size wr (w5.drew.setCell ⟨g, j, none⟩ (.int .u8 x1))) := (HB5w.out.trans (hbD.mono HB5w.out.size)).setCell (p := ⟨g, j, none⟩) HWW.out _
        have hgl := row_lt HRD.out
        clear hst hcs hx0 hx1 hy0 hx1e HBR5
        have hnb0 : (0 : Int) < (nb : Int) := by omega
        have hnb1 : (1 : Int) < (nb : Int) := by omega
        have hnb2 : 0 < nb := by omega
        go_upto_region 16 with fail
        clear hbl hbD
        go_still_tail 11, (by kernel_rfl)
        change wpList _ _ _ _ _ w5.drew
        generalize w5.drew = WD at *
        go_wp2_with fail
        obtain ⟨ab, hab⟩ : ∃ a, (some ⟨bb, ob, none⟩ : Option Addr) = a := ⟨_, rfl⟩
        rw [hab] at HBR ⊢
        have HOR : Hid (Rd (fun _ => True) (WD.setCell ⟨g, j, none⟩ (.int .u8 x1)) .u8 (some ⟨g, 0, none⟩) m c (ss.set j x1)) := (Rd.of_row (by rw [List.length_set]; exact HM.out.symm) HGC.out (by omega) HST.out).mono fun _ _ _ => trivial
        generalize ss.set j x1 = os at *
        clear hab HST HRD hcell hfz hrem hrem2 hyw hm0 hm1 hwj hjI hjl hgl hnb0 hnb1 hnb2 hc0 hc1 h1b HB5w HROW hfl
        generalize WD.setCell ⟨g, j, none⟩ (.int .u8 x1) = V16 at *
        have HBWx : Hid (Below w.heap.size w V16) := HBW.out.trans (hbX.out.mono HBW.out.size)
        replace HGF := Lib.hid (HGF.out.below hbX.out HGF.out.lt)
        replace HGI := Lib.hid (HGI.out.below hbX.out)
        replace HGD := Lib.hid (HGD.out.below hbX.out)
        replace HBR := Lib.hid (HBR.out.below hbX.out)
        replace HBW := HBWx
        clear HBWx hbX HWW
        have hvP : DuoP [⟨12, 14, 5, 14, 105, 38, #[.slice none 0 0, .slice none 0 0]⟩, ⟨13, 15, 11, 15, 111, 38, #[.slice none 0 0, .slice none 0 0]⟩] := by intro v hv; simp at hv; rcases hv with rfl | rfl <;> rfl
        have hvT : TyP [⟨12, 14, 5, 14, 105, 38, #[.slice none 0 0, .slice none 0 0]⟩, ⟨13, 15, 11, 15, 111, 38, #[.slice none 0 0, .slice none 0 0]⟩] := by intro v hv; simp at hv; rcases hv with rfl | rfl <;> decide
        refine wp_region_keep (base := V16.heap.size) (c := 105) (keep := fun k => if k == 10 then [5] else []) (us := [none, some 2, some 4, none, some 5, none, none, some 8, some 10, none, some 11, none, none, none, none, none]) (ws := [4, 10]) (fs := [Fact2.of (Fact.is (.agg #[.int .i64 km, .slice a1 f1 k1, .slice a2 f2 k2])), Fact2.of (RowSF V16.heap.size ss), Fact2.of (RowF V16.heap.size ss), Fact2.of (Fact.is (.slice ab nb cb)), Fact2.of (RowF V16.heap.size (ss ++ bL)), Fact2.of (PrtF fsL rL), Fact2.of (Fact.is (.agg #[.int .i64 km, .slice a1 f1 k1, .slice a2 f2 k2])), (RowSP V16.heap.size ss fsL rL), (RowP V16.heap.size ss fsL rL), Fact2.of (Fact.is (.slice ab nb cb)), Fact2.of (RowF V16.heap.size (ss ++ bL)), Fact2.of (PrtF fsL rL), Fact2.no, Fact2.no, Fact2.no, Fact2.no]) (als := [false, false, false, false, false, false, false, false, false, false, false, false, true, true, false, false]) (bs := [true, false, false, true, false, false, true, false, false, true, false, false, true, true, true, true]) (cs := [false, false, false, false, false, false, false, true, true, false, false, false, false, false, false, false]) (vs := [⟨12, 14, 5, 14, 105, 38, #[.slice none 0 0, .slice none 0 0]⟩, ⟨13, 15, 11, 15, 111, 38, #[.slice none 0 0, .slice none 0 0]⟩]) 9 5 (by kernel_rfl) (by kernel_rfl) (by kernel_rfl) (by kernel_rfl) (by simp [ApartS]) rfl (by kernel_rfl) (by kernel_rfl) (by kernel_rfl) rfl (by intro v hv; simp at hv; rcases hv with rfl | rfl <;> exact ⟨by decide, by decide⟩) (by intro v hv; simp at hv; rcases hv with rfl | rfl <;> rfl) ⟨Fact2.ok_is _ _ _ _, ok_rowSF hvT _ _, ok_rowF hvT _ _, Fact2.ok_is _ _ _ _, ok_rowF hvT _ _, ok_prtF hvP _ _, Fact2.ok_is _ _ _ _, ok_rowSP hvT hvP _ _ _ _, ok_rowP hvT hvP _ _ _ _, Fact2.ok_is _ _ _ _, ok_rowF hvT _ _, ok_prtF hvP _ _, Fact2.ok_no _ _ _, Fact2.ok_no _ _ _, Fact2.ok_no _ _ _, Fact2.ok_no _ _ _, trivial⟩ ?_ ?_
        · exact ⟨stepK_other rfl rfl (by
              intro a W hA hB hd
              have hB := Lib.hid hB
              have p2 : a.eval (.tmp 2) = .slice ab nb cb := hA.at 2 (by kernel_rfl)
              have p8 : a.eval (.tmp 8) = .pointer (some ⟨G, 0, none⟩) := hA.at 8 (by kernel_rfl)
              have c0 := (HGF.out.below hB.out HGF.out.lt).c0
              have c1 := (HGF.out.below hB.out HGF.out.lt).c1
              have c2 := (HGF.out.below hB.out HGF.out.lt).c2
              exact stepK_of (step_pure (wanted_none rfl) (.agg #[.int .i64 km, .slice a1 f1 k1, .slice a2 f2 k2]) (by simp [execOp, go_sem, tm p8, c0, c1, c2]) rfl)),
            stepK_other rfl rfl (by
              intro a W hA hB hd
              obtain ⟨q0, -⟩ := hd
              have h100 : a.eval (.tmp 100) = .agg #[.int .i64 km, .slice a1 f1 k1, .slice a2 f2 k2] := q0
              have hB := Lib.hid hB
              have p2 : a.eval (.tmp 2) = .slice ab nb cb := hA.at 2 (by kernel_rfl)
              have p8 : a.eval (.tmp 8) = .pointer (some ⟨G, 0, none⟩) := hA.at 8 (by kernel_rfl)
              exact stepK_of (step_calls (wanted_none rfl) rfl (vals := #[.agg #[.int .i64 km, .slice a1 f1 k1, .slice a2 f2 k2]]) (by simp [h100]) (enters_of Try.func7 (by kernel_rfl) rfl) (sealS_row (HSE.out.2 ▸ sealIn_row (HGI.out.below hB.out) (HGD.out.below hB.out) HGZ.out HGO.out HSE.out.1) hB.out.size))),
            stepK_other rfl rfl (by
              intro a W hA hB hd
              obtain ⟨q0, -⟩ := hd
              have h101 : (RowSF V16.heap.size ss) (a.eval (.tmp 101)) W := q0
              have hB := Lib.hid hB
              have p2 : a.eval (.tmp 2) = .slice ab nb cb := hA.at 2 (by kernel_rfl)
              have p8 : a.eval (.tmp 8) = .pointer (some ⟨G, 0, none⟩) := hA.at 8 (by kernel_rfl)
              obtain ⟨g0, c0, e0, r0, w0⟩ := h101
              exact stepK_of (φ := RowF V16.heap.size ss) (step_pure (wanted_none rfl) (.slice (some ⟨g0, 0, none⟩) ss.length c0) (by simp [execOp, go_sem, tm e0, field_sl]) ⟨g0, c0, rfl, r0, w0⟩)),
            stepK_other rfl rfl (by
              intro a W hA hB hd
              have hB := Lib.hid hB
              have p2 : a.eval (.tmp 2) = .slice ab nb cb := hA.at 2 (by kernel_rfl)
              have p8 : a.eval (.tmp 8) = .pointer (some ⟨G, 0, none⟩) := hA.at 8 (by kernel_rfl)
              exact stepK_of (step_pure (wanted_none rfl) (.slice ab nb cb) (by simp [execOp, go_sem, tm p2]) rfl)),
            stepK_other rfl rfl (by
              intro a W hA hB hd
              obtain ⟨q0, q1, q2, -⟩ := hd
              have h102 : (RowF V16.heap.size ss) (a.eval (.tmp 102)) W := q0
              have h103 : a.eval (.tmp 103) = .slice ab nb cb := q1
              have hB := Lib.hid hB
              have p2 : a.eval (.tmp 2) = .slice ab nb cb := hA.at 2 (by kernel_rfl)
              have p8 : a.eval (.tmp 8) = .pointer (some ⟨G, 0, none⟩) := hA.at 8 (by kernel_rfl)
              obtain ⟨g0, c0, e0, r0, w0⟩ := h102
              obtain ⟨v', w', hr, t1, t2, t3⟩ := rowF_append_near r0 w0 (HBR.out.below hB.out) hB.out.size HBN.out
              exact stepK_append (wanted_none rfl) (.tmp 102) (.tmp 103) 23 23 rfl e0 h103 hr t2 t1 (fun j hj => by cases hj)),
            stepK_other rfl rfl (by
              intro a W hA hB hd
              obtain ⟨q0, q1, -⟩ := hd
              have h104 : (RowF V16.heap.size (ss ++ bL)) (a.eval (.tmp 104)) W := q0
              have hB := Lib.hid hB
              have p2 : a.eval (.tmp 2) = .slice ab nb cb := hA.at 2 (by kernel_rfl)
              have p8 : a.eval (.tmp 8) = .pointer (some ⟨G, 0, none⟩) := hA.at 8 (by kernel_rfl)
              obtain ⟨g0, c0, e0, r0⟩ := rowF_rd h104 HBN2.out
              exact stepK_of (φ := PrtF fsL rL) (step_calls (wanted_none rfl) rfl (vals := #[.slice (some ⟨g0, 0, none⟩) (ss ++ bL).length c0]) (by simp [e0]) (enters_of Try.func11 (by kernel_rfl) rfl) (by have h := parts_prt (parts_any r0 HBO2.out HBN3.out); rw [HSP.out] at h; exact h))),
            stepK_other rfl rfl (by
              intro a W hA hB hd
              have hB := Lib.hid hB
              have p2 : a.eval (.tmp 2) = .slice ab nb cb := hA.at 2 (by kernel_rfl)
              have p8 : a.eval (.tmp 8) = .pointer (some ⟨G, 0, none⟩) := hA.at 8 (by kernel_rfl)
              have c0 := (HGF.out.below hB.out HGF.out.lt).c0
              have c1 := (HGF.out.below hB.out HGF.out.lt).c1
              have c2 := (HGF.out.below hB.out HGF.out.lt).c2
              exact stepK_of (step_pure (wanted_none rfl) (.agg #[.int .i64 km, .slice a1 f1 k1, .slice a2 f2 k2]) (by simp [execOp, go_sem, tm p8, c0, c1, c2]) rfl)),
            stepK_other rfl rfl (by
              intro a W hA hB hd
              obtain ⟨q0, q1, -⟩ := hd
              have h106 : a.eval (.tmp 106) = .agg #[.int .i64 km, .slice a1 f1 k1, .slice a2 f2 k2] := q0
              have h105 : (PrtF fsL rL) (a.eval (.tmp 105)) W := q1
              have hB := Lib.hid hB
              have p2 : a.eval (.tmp 2) = .slice ab nb cb := hA.at 2 (by kernel_rfl)
              have p8 : a.eval (.tmp 8) = .pointer (some ⟨G, 0, none⟩) := hA.at 8 (by kernel_rfl)
              exact stepK_of2 (φ := RowSP V16.heap.size ss fsL rL) (step_calls (wanted_none rfl) rfl (vals := #[.agg #[.int .i64 km, .slice a1 f1 k1, .slice a2 f2 k2]]) (by simp [h106]) (enters_of Try.func7 (by kernel_rfl) rfl) (sealS_rowP (HSE.out.2 ▸ sealIn_row (HGI.out.below hB.out) (HGD.out.below hB.out) HGZ.out HGO.out HSE.out.1) hB.out.size h105))),
            stepK_other rfl rfl (by
              intro a W hA hB hd
              obtain ⟨q0, -⟩ := hd
              have h107 : (RowSP V16.heap.size ss fsL rL) (a.eval (.tmp 107)) (a.eval (.tmp 105)) W := q0
              have hB := Lib.hid hB
              have p2 : a.eval (.tmp 2) = .slice ab nb cb := hA.at 2 (by kernel_rfl)
              have p8 : a.eval (.tmp 8) = .pointer (some ⟨G, 0, none⟩) := hA.at 8 (by kernel_rfl)
              obtain ⟨g0, c0, e0, r0, w0, y0⟩ := h107
              exact stepK_of2 (φ := RowP V16.heap.size ss fsL rL) (step_pure (wanted_none rfl) (.slice (some ⟨g0, 0, none⟩) ss.length c0) (by simp [execOp, go_sem, tm e0, field_sl]) ⟨g0, c0, rfl, r0, w0, y0⟩)),
            stepK_other rfl rfl (by
              intro a W hA hB hd
              have hB := Lib.hid hB
              have p2 : a.eval (.tmp 2) = .slice ab nb cb := hA.at 2 (by kernel_rfl)
              have p8 : a.eval (.tmp 8) = .pointer (some ⟨G, 0, none⟩) := hA.at 8 (by kernel_rfl)
              exact stepK_of (step_pure (wanted_none rfl) (.slice ab nb cb) (by simp [execOp, go_sem, tm p2]) rfl)),
            stepK_other rfl rfl (by
              intro a W hA hB hd
              obtain ⟨q0, q1, q2, -⟩ := hd
              have h108 : (RowP V16.heap.size ss fsL rL) (a.eval (.tmp 108)) (a.eval (.tmp 105)) W := q0
              have h109 : a.eval (.tmp 109) = .slice ab nb cb := q1
              have hB := Lib.hid hB
              have p2 : a.eval (.tmp 2) = .slice ab nb cb := hA.at 2 (by kernel_rfl)
              have p8 : a.eval (.tmp 8) = .pointer (some ⟨G, 0, none⟩) := hA.at 8 (by kernel_rfl)
              obtain ⟨g0, c0, e0, r0, w0, y0⟩ := h108
              obtain ⟨v', w', hr, t1, t2, t3⟩ := rowF_append_near r0 w0 (HBR.out.below hB.out) hB.out.size HBN.out
              exact stepK_append (wanted_none rfl) (.tmp 108) (.tmp 109) 23 23 rfl e0 h109 hr t2 t1 (fun j hj t ht => by have e : j = 5 := (by simpa using hj); subst e; cases ht; exact prt_kept y0 t3)),
            stepK_other rfl rfl (by
              intro a W hA hB hd
              obtain ⟨q0, q1, -⟩ := hd
              have h110 : (RowF V16.heap.size (ss ++ bL)) (a.eval (.tmp 110)) W := q0
              have hB := Lib.hid hB
              have p2 : a.eval (.tmp 2) = .slice ab nb cb := hA.at 2 (by kernel_rfl)
              have p8 : a.eval (.tmp 8) = .pointer (some ⟨G, 0, none⟩) := hA.at 8 (by kernel_rfl)
              obtain ⟨g0, c0, e0, r0⟩ := rowF_rd h110 HBN2.out
              exact stepK_of (φ := PrtF fsL rL) (step_calls (wanted_none rfl) rfl (vals := #[.slice (some ⟨g0, 0, none⟩) (ss ++ bL).length c0]) (by simp [e0]) (enters_of Try.func12 (by kernel_rfl) rfl) (by have h := splR_prt (splitR_any r0 HBO2.out HBN3.out); rw [HSP.out] at h; exact h))),
            stepK_al (⟨12, 14, 5, 14, 105, 38, #[.slice none 0 0, .slice none 0 0]⟩) rfl rfl (fun a W => by simp [execOp, go_sem]),
            stepK_al (⟨13, 15, 11, 15, 111, 38, #[.slice none 0 0, .slice none 0 0]⟩) rfl rfl (fun a W => by simp [execOp, go_sem]),
            stepK_st (⟨12, 14, 5, 14, 105, 38, #[.slice none 0 0, .slice none 0 0]⟩) rfl rfl rfl (by kernel_rfl) (by kernel_rfl) (by
              intro a W B hA hB hd hp hk
              obtain ⟨q0, q1, q2, -⟩ := hd
              have hp : a.eval (.tmp 14) = .pointer (some ⟨B, 0, none⟩) := hp
              have q1 : (PrtF fsL rL) (a.eval (.tmp 105)) W := q1
              obtain ⟨xa, xn, xc, ya, yn, yc, ex, -⟩ := q1
              exact store_pa rfl rfl hp ex hk),
            stepK_st (⟨13, 15, 11, 15, 111, 38, #[.slice none 0 0, .slice none 0 0]⟩) rfl rfl rfl (by kernel_rfl) (by kernel_rfl) (by
              intro a W B hA hB hd hp hk
              obtain ⟨q0, q1, q2, -⟩ := hd
              have hp : a.eval (.tmp 15) = .pointer (some ⟨B, 0, none⟩) := hp
              have q1 : (PrtF fsL rL) (a.eval (.tmp 111)) W := q1
              obtain ⟨xa, xn, xc, ya, yn, yc, ex, -⟩ := q1
              exact store_pa rfl rfl hp ex hk), trivial⟩
        · intro ax V17 hA hB hE hF
          obtain ⟨hl, -⟩ := hE
          obtain ⟨B14, e14, g14, s14, k14⟩ := hl (⟨12, 14, 5, 14, 105, 38, #[.slice none 0 0, .slice none 0 0]⟩) (by simp)
          have e14 : ax.eval (.tmp 14) = .pointer (some ⟨B14, 0, none⟩) := e14
          obtain ⟨cs14, c14, k14⟩ := (k14 : ∃ cs, ax.eval (.tmp 105) = .agg cs ∧ _)
          have f105 : (PrtF fsL rL) (ax.eval (.tmp 105)) V17 := hF 5 105 rfl (by kernel_rfl)
          obtain ⟨a14, n14, d14, b14, m14, z14, u14, r14⟩ := f105
          rw [u14] at c14
          injection c14 with c14
          subst c14
          obtain ⟨B15, e15, g15, s15, k15⟩ := hl (⟨13, 15, 11, 15, 111, 38, #[.slice none 0 0, .slice none 0 0]⟩) (by simp)
          have e15 : ax.eval (.tmp 15) = .pointer (some ⟨B15, 0, none⟩) := e15
          obtain ⟨cs15, c15, k15⟩ := (k15 : ∃ cs, ax.eval (.tmp 111) = .agg cs ∧ _)
          have f111 : (PrtF fsL rL) (ax.eval (.tmp 111)) V17 := hF 11 111 rfl (by kernel_rfl)
          obtain ⟨a15, n15, d15, b15, m15, z15, u15, r15⟩ := f111
          rw [u15] at c15
          injection c15 with c15
          subst c15
          have hp := hA.puts [100, 101, 102, 103, 104, 105, 106, 107, 108, 109, 110, 111, 14, 15] (by kernel_rfl)
          clear hA hl hF u14 u15
          simp only [putAll, e14, e15] at hp
          clear e14 e15
          generalize ax.eval = ev17 at hp
          subst hp
          have HB17 : Hid (Below w.heap.size w V17) := HBW.out.trans (hB.mono HBW.out.size)
          have HB5 := Lib.hid (HBR.out.below hB)
          have HO5 := Lib.hid (HOR.out.below hB)
          have HP14 : Hid (Pair V17 B14 38 (.slice a14 n14 d14) (.slice b14 m14 z14)) := k14
          have HP15 : Hid (Pair V17 B15 38 (.slice a15 n15 d15) (.slice b15 m15 z15)) := k15
          have HF14 := Lib.hid r14
          have HF15 := Lib.hid r15
          clear k14 k15 r14 r15 hB HBR HOR HBW HGF HGI HGD hvP hvT
          simp only [Act.put, List.setIfInBounds_toArray, List.set_cons_succ, List.set_cons_zero]
          have HBb := Lib.hid HB5.out
          clear HB5
          go_wp2_with fail
          refine (opened_x HBO.out (opened_any HBb.out HBO.out)).mono ?_
          rintro e V18 ⟨v1, rfl, hx, hb⟩
          have HB18 : Hid (Below w.heap.size w V18) := HB17.out.trans (hb.mono HB17.out.size)
          replace HBb := Lib.hid (HBb.out.below hb)
          replace HO5 := Lib.hid (HO5.out.below hb)
          replace HP14 := Lib.hid (HP14.out.below hb HP14.out.lt)
          replace HP15 := Lib.hid (HP15.out.below hb HP15.out.lt)
          replace HF14 := Lib.hid (And.intro (HF14.out.1.below hb) (HF14.out.2.below hb))
          replace HF15 := Lib.hid (And.intro (HF15.out.1.below hb) (HF15.out.2.below hb))
          clear hb
          have HX1 := Lib.hid hx
          clear hx
          go_wp2_with fail
          refine (openR_x HBO.out (openR_any HBb.out HBO.out)).mono ?_
          rintro e V19 ⟨v2, rfl, hx, hb⟩
          have HB19 : Hid (Below w.heap.size w V19) := HB18.out.trans (hb.mono HB18.out.size)
          have HX1b := Lib.hid (opxF_stable _ _ _ _ HX1.out hb)
          replace HBb := Lib.hid (HBb.out.below hb)
          replace HO5 := Lib.hid (HO5.out.below hb)
          replace HP14 := Lib.hid (HP14.out.below hb HP14.out.lt)
          replace HP15 := Lib.hid (HP15.out.below hb HP15.out.lt)
          replace HF14 := Lib.hid (And.intro (HF14.out.1.below hb) (HF14.out.2.below hb))
          replace HF15 := Lib.hid (And.intro (HF15.out.1.below hb) (HF15.out.2.below hb))
          clear hb
          have HX2 := Lib.hid hx
          clear hx HX1
          go_wp2_with fail
          refine (same_opx HX1b.out HX2.out).mono ?_
          rintro e V20 ⟨rfl, hb⟩
          have HB20 : Hid (Below w.heap.size w V20) := HB19.out.trans (hb.mono HB19.out.size)
          replace HO5 := Lib.hid (HO5.out.below hb)
          replace HP14 := Lib.hid (HP14.out.below hb HP14.out.lt)
          replace HP15 := Lib.hid (HP15.out.below hb HP15.out.lt)
          replace HF14 := Lib.hid (And.intro (HF14.out.1.below hb) (HF14.out.2.below hb))
          replace HF15 := Lib.hid (And.intro (HF15.out.1.below hb) (HF15.out.2.below hb))
          clear hb
          clear HX1b HX2 HBb
          go_wp2_with fail
          refine (opened_x HOO.out (opened_any HO5.out HOO.out)).mono ?_
          rintro e V21 ⟨v3, rfl, hx, hb⟩
          have HB21 : Hid (Below w.heap.size w V21) := HB20.out.trans (hb.mono HB20.out.size)
          replace HO5 := Lib.hid (HO5.out.below hb)
          replace HP14 := Lib.hid (HP14.out.below hb HP14.out.lt)
          replace HP15 := Lib.hid (HP15.out.below hb HP15.out.lt)
          replace HF14 := Lib.hid (And.intro (HF14.out.1.below hb) (HF14.out.2.below hb))
          replace HF15 := Lib.hid (And.intro (HF15.out.1.below hb) (HF15.out.2.below hb))
          clear hb
          have HX1 := Lib.hid hx
          clear hx
          go_wp2_with fail
          refine (openR_x HOO.out (openR_any HO5.out HOO.out)).mono ?_
          rintro e V22 ⟨v4, rfl, hx, hb⟩
          have HB22 : Hid (Below w.heap.size w V22) := HB21.out.trans (hb.mono HB21.out.size)
          have HX1b := Lib.hid (opxF_stable _ _ _ _ HX1.out hb)
          replace HP14 := Lib.hid (HP14.out.below hb HP14.out.lt)
          replace HP15 := Lib.hid (HP15.out.below hb HP15.out.lt)
          replace HF14 := Lib.hid (And.intro (HF14.out.1.below hb) (HF14.out.2.below hb))
          replace HF15 := Lib.hid (And.intro (HF15.out.1.below hb) (HF15.out.2.below hb))
          clear hb
          have HX2 := Lib.hid hx
          clear hx HX1 HO5
          go_wp2_with fail
          refine (same_opx HX1b.out HX2.out).mono ?_
          rintro e V23 ⟨rfl, hb⟩
          have HB23 : Hid (Below w.heap.size w V23) := HB22.out.trans (hb.mono HB22.out.size)
          replace HP14 := Lib.hid (HP14.out.below hb HP14.out.lt)
          replace HP15 := Lib.hid (HP15.out.below hb HP15.out.lt)
          replace HF14 := Lib.hid (And.intro (HF14.out.1.below hb) (HF14.out.2.below hb))
          replace HF15 := Lib.hid (And.intro (HF15.out.1.below hb) (HF15.out.2.below hb))
          clear hb
          clear HX1b HX2
          have p0 := HP14.out.c0
          have p1 := HP14.out.c1
          have s0 := HP15.out.c0
          have s1 := HP15.out.c1
          go_wp2_with fail
          refine (same_prt HF14.out.1 HF15.out.1 HID.out).mono ?_
          rintro e V24 ⟨rfl, hb⟩
          have HB24 : Hid (Below w.heap.size w V24) := HB23.out.trans (hb.mono HB23.out.size)
          clear p0 p1 s0 s1
          replace HP14 := Lib.hid (HP14.out.below hb HP14.out.lt)
          replace HP15 := Lib.hid (HP15.out.below hb HP15.out.lt)
          replace HF14 := Lib.hid (And.intro (HF14.out.1.below hb) (HF14.out.2.below hb))
          replace HF15 := Lib.hid (And.intro (HF15.out.1.below hb) (HF15.out.2.below hb))
          clear hb
          have p0 := HP14.out.c0
          have p1 := HP14.out.c1
          have s0 := HP15.out.c0
          have s1 := HP15.out.c1
          go_wp2_with fail
          refine (same_any HF14.out.2 HF15.out.2).mono ?_
          rintro e V25 ⟨rfl, hb⟩
          have HB25 : Hid (Below w.heap.size w V25) := HB24.out.trans (hb.mono HB24.out.size)
          rw [sameB_true rfl]
          clear hb
          go_wp2
          go_ret
          exact ⟨rfl, HB25.out⟩
      · have hbX := HB5w
        have HOO := HSO
        have HOR : Hid (Rd (fun _ => True) w5 .u8 (some ⟨g, 0, none⟩) m c ss) := (Rd.of_row HM.out.symm HGC.out (by omega) HROW.out).mono fun _ _ _ => trivial
        go_upto_region 17 with fail
        clear HROW HB5w hfl h1b
        generalize w5 = V16 at *
        have HBWx : Hid (Below w.heap.size w V16) := HBW.out.trans (hbX.out.mono HBW.out.size)
        replace HGF := Lib.hid (HGF.out.below hbX.out HGF.out.lt)
        replace HGI := Lib.hid (HGI.out.below hbX.out)
        replace HGD := Lib.hid (HGD.out.below hbX.out)
        replace HBR := Lib.hid (HBR.out.below hbX.out)
        replace HBW := HBWx
        clear HBWx hbX HWW
        have hvP : DuoP [⟨12, 14, 5, 14, 105, 38, #[.slice none 0 0, .slice none 0 0]⟩, ⟨13, 15, 11, 15, 111, 38, #[.slice none 0 0, .slice none 0 0]⟩] := by intro v hv; simp at hv; rcases hv with rfl | rfl <;> rfl
        have hvT : TyP [⟨12, 14, 5, 14, 105, 38, #[.slice none 0 0, .slice none 0 0]⟩, ⟨13, 15, 11, 15, 111, 38, #[.slice none 0 0, .slice none 0 0]⟩] := by intro v hv; simp at hv; rcases hv with rfl | rfl <;> decide
        refine wp_region_keep (base := V16.heap.size) (c := 105) (keep := fun k => if k == 10 then [5] else []) (us := [none, some 2, some 4, none, some 5, none, none, some 8, some 10, none, some 11, none, none, none, none, none]) (ws := [4, 10]) (fs := [Fact2.of (Fact.is (.agg #[.int .i64 km, .slice a1 f1 k1, .slice a2 f2 k2])), Fact2.of (RowSF V16.heap.size ss), Fact2.of (RowF V16.heap.size ss), Fact2.of (Fact.is (.slice ab nb cb)), Fact2.of (RowF V16.heap.size (ss ++ bL)), Fact2.of (PrtF fsL rL), Fact2.of (Fact.is (.agg #[.int .i64 km, .slice a1 f1 k1, .slice a2 f2 k2])), (RowSP V16.heap.size ss fsL rL), (RowP V16.heap.size ss fsL rL), Fact2.of (Fact.is (.slice ab nb cb)), Fact2.of (RowF V16.heap.size (ss ++ bL)), Fact2.of (PrtF fsL rL), Fact2.no, Fact2.no, Fact2.no, Fact2.no]) (als := [false, false, false, false, false, false, false, false, false, false, false, false, true, true, false, false]) (bs := [true, false, false, true, false, false, true, false, false, true, false, false, true, true, true, true]) (cs := [false, false, false, false, false, false, false, true, true, false, false, false, false, false, false, false]) (vs := [⟨12, 14, 5, 14, 105, 38, #[.slice none 0 0, .slice none 0 0]⟩, ⟨13, 15, 11, 15, 111, 38, #[.slice none 0 0, .slice none 0 0]⟩]) 9 5 (by kernel_rfl) (by kernel_rfl) (by kernel_rfl) (by kernel_rfl) (by simp [ApartS]) rfl (by kernel_rfl) (by kernel_rfl) (by kernel_rfl) rfl (by intro v hv; simp at hv; rcases hv with rfl | rfl <;> exact ⟨by decide, by decide⟩) (by intro v hv; simp at hv; rcases hv with rfl | rfl <;> rfl) ⟨Fact2.ok_is _ _ _ _, ok_rowSF hvT _ _, ok_rowF hvT _ _, Fact2.ok_is _ _ _ _, ok_rowF hvT _ _, ok_prtF hvP _ _, Fact2.ok_is _ _ _ _, ok_rowSP hvT hvP _ _ _ _, ok_rowP hvT hvP _ _ _ _, Fact2.ok_is _ _ _ _, ok_rowF hvT _ _, ok_prtF hvP _ _, Fact2.ok_no _ _ _, Fact2.ok_no _ _ _, Fact2.ok_no _ _ _, Fact2.ok_no _ _ _, trivial⟩ ?_ ?_
        · exact ⟨stepK_other rfl rfl (by
              intro a W hA hB hd
              have hB := Lib.hid hB
              have p2 : a.eval (.tmp 2) = .slice ab nb cb := hA.at 2 (by kernel_rfl)
              have p8 : a.eval (.tmp 8) = .pointer (some ⟨G, 0, none⟩) := hA.at 8 (by kernel_rfl)
              have c0 := (HGF.out.below hB.out HGF.out.lt).c0
              have c1 := (HGF.out.below hB.out HGF.out.lt).c1
              have c2 := (HGF.out.below hB.out HGF.out.lt).c2
              exact stepK_of (step_pure (wanted_none rfl) (.agg #[.int .i64 km, .slice a1 f1 k1, .slice a2 f2 k2]) (by simp [execOp, go_sem, tm p8, c0, c1, c2]) rfl)),
            stepK_other rfl rfl (by
              intro a W hA hB hd
              obtain ⟨q0, -⟩ := hd
              have h100 : a.eval (.tmp 100) = .agg #[.int .i64 km, .slice a1 f1 k1, .slice a2 f2 k2] := q0
              have hB := Lib.hid hB
              have p2 : a.eval (.tmp 2) = .slice ab nb cb := hA.at 2 (by kernel_rfl)
              have p8 : a.eval (.tmp 8) = .pointer (some ⟨G, 0, none⟩) := hA.at 8 (by kernel_rfl)
              exact stepK_of (step_calls (wanted_none rfl) rfl (vals := #[.agg #[.int .i64 km, .slice a1 f1 k1, .slice a2 f2 k2]]) (by simp [h100]) (enters_of Try.func7 (by kernel_rfl) rfl) (sealS_row (HSE.out.2 ▸ sealIn_row (HGI.out.below hB.out) (HGD.out.below hB.out) HGZ.out HGO.out HSE.out.1) hB.out.size))),
            stepK_other rfl rfl (by
              intro a W hA hB hd
              obtain ⟨q0, -⟩ := hd
              have h101 : (RowSF V16.heap.size ss) (a.eval (.tmp 101)) W := q0
              have hB := Lib.hid hB
              have p2 : a.eval (.tmp 2) = .slice ab nb cb := hA.at 2 (by kernel_rfl)
              have p8 : a.eval (.tmp 8) = .pointer (some ⟨G, 0, none⟩) := hA.at 8 (by kernel_rfl)
              obtain ⟨g0, c0, e0, r0, w0⟩ := h101
              exact stepK_of (φ := RowF V16.heap.size ss) (step_pure (wanted_none rfl) (.slice (some ⟨g0, 0, none⟩) ss.length c0) (by simp [execOp, go_sem, tm e0, field_sl]) ⟨g0, c0, rfl, r0, w0⟩)),
            stepK_other rfl rfl (by
              intro a W hA hB hd
              have hB := Lib.hid hB
              have p2 : a.eval (.tmp 2) = .slice ab nb cb := hA.at 2 (by kernel_rfl)
              have p8 : a.eval (.tmp 8) = .pointer (some ⟨G, 0, none⟩) := hA.at 8 (by kernel_rfl)
              exact stepK_of (step_pure (wanted_none rfl) (.slice ab nb cb) (by simp [execOp, go_sem, tm p2]) rfl)),
            stepK_other rfl rfl (by
              intro a W hA hB hd
              obtain ⟨q0, q1, q2, -⟩ := hd
              have h102 : (RowF V16.heap.size ss) (a.eval (.tmp 102)) W := q0
              have h103 : a.eval (.tmp 103) = .slice ab nb cb := q1
              have hB := Lib.hid hB
              have p2 : a.eval (.tmp 2) = .slice ab nb cb := hA.at 2 (by kernel_rfl)
              have p8 : a.eval (.tmp 8) = .pointer (some ⟨G, 0, none⟩) := hA.at 8 (by kernel_rfl)
              obtain ⟨g0, c0, e0, r0, w0⟩ := h102
              obtain ⟨v', w', hr, t1, t2, t3⟩ := rowF_append_near r0 w0 (HBR.out.below hB.out) hB.out.size HBN.out
              exact stepK_append (wanted_none rfl) (.tmp 102) (.tmp 103) 23 23 rfl e0 h103 hr t2 t1 (fun j hj => by cases hj)),
            stepK_other rfl rfl (by
              intro a W hA hB hd
              obtain ⟨q0, q1, -⟩ := hd
              have h104 : (RowF V16.heap.size (ss ++ bL)) (a.eval (.tmp 104)) W := q0
              have hB := Lib.hid hB
              have p2 : a.eval (.tmp 2) = .slice ab nb cb := hA.at 2 (by kernel_rfl)
              have p8 : a.eval (.tmp 8) = .pointer (some ⟨G, 0, none⟩) := hA.at 8 (by kernel_rfl)
              obtain ⟨g0, c0, e0, r0⟩ := rowF_rd h104 HBN2.out
              exact stepK_of (φ := PrtF fsL rL) (step_calls (wanted_none rfl) rfl (vals := #[.slice (some ⟨g0, 0, none⟩) (ss ++ bL).length c0]) (by simp [e0]) (enters_of Try.func11 (by kernel_rfl) rfl) (by have h := parts_prt (parts_any r0 HBO2.out HBN3.out); rw [HSP.out] at h; exact h))),
            stepK_other rfl rfl (by
              intro a W hA hB hd
              have hB := Lib.hid hB
              have p2 : a.eval (.tmp 2) = .slice ab nb cb := hA.at 2 (by kernel_rfl)
              have p8 : a.eval (.tmp 8) = .pointer (some ⟨G, 0, none⟩) := hA.at 8 (by kernel_rfl)
              have c0 := (HGF.out.below hB.out HGF.out.lt).c0
              have c1 := (HGF.out.below hB.out HGF.out.lt).c1
              have c2 := (HGF.out.below hB.out HGF.out.lt).c2
              exact stepK_of (step_pure (wanted_none rfl) (.agg #[.int .i64 km, .slice a1 f1 k1, .slice a2 f2 k2]) (by simp [execOp, go_sem, tm p8, c0, c1, c2]) rfl)),
            stepK_other rfl rfl (by
              intro a W hA hB hd
              obtain ⟨q0, q1, -⟩ := hd
              have h106 : a.eval (.tmp 106) = .agg #[.int .i64 km, .slice a1 f1 k1, .slice a2 f2 k2] := q0
              have h105 : (PrtF fsL rL) (a.eval (.tmp 105)) W := q1
              have hB := Lib.hid hB
              have p2 : a.eval (.tmp 2) = .slice ab nb cb := hA.at 2 (by kernel_rfl)
              have p8 : a.eval (.tmp 8) = .pointer (some ⟨G, 0, none⟩) := hA.at 8 (by kernel_rfl)
              exact stepK_of2 (φ := RowSP V16.heap.size ss fsL rL) (step_calls (wanted_none rfl) rfl (vals := #[.agg #[.int .i64 km, .slice a1 f1 k1, .slice a2 f2 k2]]) (by simp [h106]) (enters_of Try.func7 (by kernel_rfl) rfl) (sealS_rowP (HSE.out.2 ▸ sealIn_row (HGI.out.below hB.out) (HGD.out.below hB.out) HGZ.out HGO.out HSE.out.1) hB.out.size h105))),
            stepK_other rfl rfl (by
              intro a W hA hB hd
              obtain ⟨q0, -⟩ := hd
              have h107 : (RowSP V16.heap.size ss fsL rL) (a.eval (.tmp 107)) (a.eval (.tmp 105)) W := q0
              have hB := Lib.hid hB
              have p2 : a.eval (.tmp 2) = .slice ab nb cb := hA.at 2 (by kernel_rfl)
              have p8 : a.eval (.tmp 8) = .pointer (some ⟨G, 0, none⟩) := hA.at 8 (by kernel_rfl)
              obtain ⟨g0, c0, e0, r0, w0, y0⟩ := h107
              exact stepK_of2 (φ := RowP V16.heap.size ss fsL rL) (step_pure (wanted_none rfl) (.slice (some ⟨g0, 0, none⟩) ss.length c0) (by simp [execOp, go_sem, tm e0, field_sl]) ⟨g0, c0, rfl, r0, w0, y0⟩)),
            stepK_other rfl rfl (by
              intro a W hA hB hd
              have hB := Lib.hid hB
              have p2 : a.eval (.tmp 2) = .slice ab nb cb := hA.at 2 (by kernel_rfl)
              have p8 : a.eval (.tmp 8) = .pointer (some ⟨G, 0, none⟩) := hA.at 8 (by kernel_rfl)
              exact stepK_of (step_pure (wanted_none rfl) (.slice ab nb cb) (by simp [execOp, go_sem, tm p2]) rfl)),
            stepK_other rfl rfl (by
              intro a W hA hB hd
              obtain ⟨q0, q1, q2, -⟩ := hd
              have h108 : (RowP V16.heap.size ss fsL rL) (a.eval (.tmp 108)) (a.eval (.tmp 105)) W := q0
              have h109 : a.eval (.tmp 109) = .slice ab nb cb := q1
              have hB := Lib.hid hB
              have p2 : a.eval (.tmp 2) = .slice ab nb cb := hA.at 2 (by kernel_rfl)
              have p8 : a.eval (.tmp 8) = .pointer (some ⟨G, 0, none⟩) := hA.at 8 (by kernel_rfl)
              obtain ⟨g0, c0, e0, r0, w0, y0⟩ := h108
              obtain ⟨v', w', hr, t1, t2, t3⟩ := rowF_append_near r0 w0 (HBR.out.below hB.out) hB.out.size HBN.out
              exact stepK_append (wanted_none rfl) (.tmp 108) (.tmp 109) 23 23 rfl e0 h109 hr t2 t1 (fun j hj t ht => by have e : j = 5 := (by simpa using hj); subst e; cases ht; exact prt_kept y0 t3)),
            stepK_other rfl rfl (by
              intro a W hA hB hd
              obtain ⟨q0, q1, -⟩ := hd
              have h110 : (RowF V16.heap.size (ss ++ bL)) (a.eval (.tmp 110)) W := q0
              have hB := Lib.hid hB
              have p2 : a.eval (.tmp 2) = .slice ab nb cb := hA.at 2 (by kernel_rfl)
              have p8 : a.eval (.tmp 8) = .pointer (some ⟨G, 0, none⟩) := hA.at 8 (by kernel_rfl)
              obtain ⟨g0, c0, e0, r0⟩ := rowF_rd h110 HBN2.out
              exact stepK_of (φ := PrtF fsL rL) (step_calls (wanted_none rfl) rfl (vals := #[.slice (some ⟨g0, 0, none⟩) (ss ++ bL).length c0]) (by simp [e0]) (enters_of Try.func12 (by kernel_rfl) rfl) (by have h := splR_prt (splitR_any r0 HBO2.out HBN3.out); rw [HSP.out] at h; exact h))),
            stepK_al (⟨12, 14, 5, 14, 105, 38, #[.slice none 0 0, .slice none 0 0]⟩) rfl rfl (fun a W => by simp [execOp, go_sem]),
            stepK_al (⟨13, 15, 11, 15, 111, 38, #[.slice none 0 0, .slice none 0 0]⟩) rfl rfl (fun a W => by simp [execOp, go_sem]),
            stepK_st (⟨12, 14, 5, 14, 105, 38, #[.slice none 0 0, .slice none 0 0]⟩) rfl rfl rfl (by kernel_rfl) (by kernel_rfl) (by
              intro a W B hA hB hd hp hk
              obtain ⟨q0, q1, q2, -⟩ := hd
              have hp : a.eval (.tmp 14) = .pointer (some ⟨B, 0, none⟩) := hp
              have q1 : (PrtF fsL rL) (a.eval (.tmp 105)) W := q1
              obtain ⟨xa, xn, xc, ya, yn, yc, ex, -⟩ := q1
              exact store_pa rfl rfl hp ex hk),
            stepK_st (⟨13, 15, 11, 15, 111, 38, #[.slice none 0 0, .slice none 0 0]⟩) rfl rfl rfl (by kernel_rfl) (by kernel_rfl) (by
              intro a W B hA hB hd hp hk
              obtain ⟨q0, q1, q2, -⟩ := hd
              have hp : a.eval (.tmp 15) = .pointer (some ⟨B, 0, none⟩) := hp
              have q1 : (PrtF fsL rL) (a.eval (.tmp 111)) W := q1
              obtain ⟨xa, xn, xc, ya, yn, yc, ex, -⟩ := q1
              exact store_pa rfl rfl hp ex hk), trivial⟩
        · intro ax V17 hA hB hE hF
          obtain ⟨hl, -⟩ := hE
          obtain ⟨B14, e14, g14, s14, k14⟩ := hl (⟨12, 14, 5, 14, 105, 38, #[.slice none 0 0, .slice none 0 0]⟩) (by simp)
          have e14 : ax.eval (.tmp 14) = .pointer (some ⟨B14, 0, none⟩) := e14
          obtain ⟨cs14, c14, k14⟩ := (k14 : ∃ cs, ax.eval (.tmp 105) = .agg cs ∧ _)
          have f105 : (PrtF fsL rL) (ax.eval (.tmp 105)) V17 := hF 5 105 rfl (by kernel_rfl)
          obtain ⟨a14, n14, d14, b14, m14, z14, u14, r14⟩ := f105
          rw [u14] at c14
          injection c14 with c14
          subst c14
          obtain ⟨B15, e15, g15, s15, k15⟩ := hl (⟨13, 15, 11, 15, 111, 38, #[.slice none 0 0, .slice none 0 0]⟩) (by simp)
          have e15 : ax.eval (.tmp 15) = .pointer (some ⟨B15, 0, none⟩) := e15
          obtain ⟨cs15, c15, k15⟩ := (k15 : ∃ cs, ax.eval (.tmp 111) = .agg cs ∧ _)
          have f111 : (PrtF fsL rL) (ax.eval (.tmp 111)) V17 := hF 11 111 rfl (by kernel_rfl)
          obtain ⟨a15, n15, d15, b15, m15, z15, u15, r15⟩ := f111
          rw [u15] at c15
          injection c15 with c15
          subst c15
          have hp := hA.puts [100, 101, 102, 103, 104, 105, 106, 107, 108, 109, 110, 111, 14, 15] (by kernel_rfl)
          clear hA hl hF u14 u15
          simp only [putAll, e14, e15] at hp
          clear e14 e15
          generalize ax.eval = ev17 at hp
          subst hp
          have HB17 : Hid (Below w.heap.size w V17) := HBW.out.trans (hB.mono HBW.out.size)
          have HB5 := Lib.hid (HBR.out.below hB)
          have HO5 := Lib.hid (HOR.out.below hB)
          have HP14 : Hid (Pair V17 B14 38 (.slice a14 n14 d14) (.slice b14 m14 z14)) := k14
          have HP15 : Hid (Pair V17 B15 38 (.slice a15 n15 d15) (.slice b15 m15 z15)) := k15
          have HF14 := Lib.hid r14
          have HF15 := Lib.hid r15
          clear k14 k15 r14 r15 hB HBR HOR HBW HGF HGI HGD hvP hvT
          simp only [Act.put, List.setIfInBounds_toArray, List.set_cons_succ, List.set_cons_zero]
          have HBb := Lib.hid HB5.out
          clear HB5
          go_wp2_with fail
          refine (opened_x HBO.out (opened_any HBb.out HBO.out)).mono ?_
          rintro e V18 ⟨v1, rfl, hx, hb⟩
          have HB18 : Hid (Below w.heap.size w V18) := HB17.out.trans (hb.mono HB17.out.size)
          replace HBb := Lib.hid (HBb.out.below hb)
          replace HO5 := Lib.hid (HO5.out.below hb)
          replace HP14 := Lib.hid (HP14.out.below hb HP14.out.lt)
          replace HP15 := Lib.hid (HP15.out.below hb HP15.out.lt)
          replace HF14 := Lib.hid (And.intro (HF14.out.1.below hb) (HF14.out.2.below hb))
          replace HF15 := Lib.hid (And.intro (HF15.out.1.below hb) (HF15.out.2.below hb))
          clear hb
          have HX1 := Lib.hid hx
          clear hx
          go_wp2_with fail
          refine (openR_x HBO.out (openR_any HBb.out HBO.out)).mono ?_
          rintro e V19 ⟨v2, rfl, hx, hb⟩
          have HB19 : Hid (Below w.heap.size w V19) := HB18.out.trans (hb.mono HB18.out.size)
          have HX1b := Lib.hid (opxF_stable _ _ _ _ HX1.out hb)
          replace HBb := Lib.hid (HBb.out.below hb)
          replace HO5 := Lib.hid (HO5.out.below hb)
          replace HP14 := Lib.hid (HP14.out.below hb HP14.out.lt)
          replace HP15 := Lib.hid (HP15.out.below hb HP15.out.lt)
          replace HF14 := Lib.hid (And.intro (HF14.out.1.below hb) (HF14.out.2.below hb))
          replace HF15 := Lib.hid (And.intro (HF15.out.1.below hb) (HF15.out.2.below hb))
          clear hb
          have HX2 := Lib.hid hx
          clear hx HX1
          go_wp2_with fail
          refine (same_opx HX1b.out HX2.out).mono ?_
          rintro e V20 ⟨rfl, hb⟩
          have HB20 : Hid (Below w.heap.size w V20) := HB19.out.trans (hb.mono HB19.out.size)
          replace HO5 := Lib.hid (HO5.out.below hb)
          replace HP14 := Lib.hid (HP14.out.below hb HP14.out.lt)
          replace HP15 := Lib.hid (HP15.out.below hb HP15.out.lt)
          replace HF14 := Lib.hid (And.intro (HF14.out.1.below hb) (HF14.out.2.below hb))
          replace HF15 := Lib.hid (And.intro (HF15.out.1.below hb) (HF15.out.2.below hb))
          clear hb
          clear HX1b HX2 HBb
          go_wp2_with fail
          refine (opened_x HOO.out (opened_any HO5.out HOO.out)).mono ?_
          rintro e V21 ⟨v3, rfl, hx, hb⟩
          have HB21 : Hid (Below w.heap.size w V21) := HB20.out.trans (hb.mono HB20.out.size)
          replace HO5 := Lib.hid (HO5.out.below hb)
          replace HP14 := Lib.hid (HP14.out.below hb HP14.out.lt)
          replace HP15 := Lib.hid (HP15.out.below hb HP15.out.lt)
          replace HF14 := Lib.hid (And.intro (HF14.out.1.below hb) (HF14.out.2.below hb))
          replace HF15 := Lib.hid (And.intro (HF15.out.1.below hb) (HF15.out.2.below hb))
          clear hb
          have HX1 := Lib.hid hx
          clear hx
          go_wp2_with fail
          refine (openR_x HOO.out (openR_any HO5.out HOO.out)).mono ?_
          rintro e V22 ⟨v4, rfl, hx, hb⟩
          have HB22 : Hid (Below w.heap.size w V22) := HB21.out.trans (hb.mono HB21.out.size)
          have HX1b := Lib.hid (opxF_stable _ _ _ _ HX1.out hb)
          replace HP14 := Lib.hid (HP14.out.below hb HP14.out.lt)
          replace HP15 := Lib.hid (HP15.out.below hb HP15.out.lt)
          replace HF14 := Lib.hid (And.intro (HF14.out.1.below hb) (HF14.out.2.below hb))
          replace HF15 := Lib.hid (And.intro (HF15.out.1.below hb) (HF15.out.2.below hb))
          clear hb
          have HX2 := Lib.hid hx
          clear hx HX1 HO5
          go_wp2_with fail
          refine (same_opx HX1b.out HX2.out).mono ?_
          rintro e V23 ⟨rfl, hb⟩
          have HB23 : Hid (Below w.heap.size w V23) := HB22.out.trans (hb.mono HB22.out.size)
          replace HP14 := Lib.hid (HP14.out.below hb HP14.out.lt)
          replace HP15 := Lib.hid (HP15.out.below hb HP15.out.lt)
          replace HF14 := Lib.hid (And.intro (HF14.out.1.below hb) (HF14.out.2.below hb))
          replace HF15 := Lib.hid (And.intro (HF15.out.1.below hb) (HF15.out.2.below hb))
          clear hb
          clear HX1b HX2
          have p0 := HP14.out.c0
          have p1 := HP14.out.c1
          have s0 := HP15.out.c0
          have s1 := HP15.out.c1
          go_wp2_with fail
          refine (same_prt HF14.out.1 HF15.out.1 HID.out).mono ?_
          rintro e V24 ⟨rfl, hb⟩
          have HB24 : Hid (Below w.heap.size w V24) := HB23.out.trans (hb.mono HB23.out.size)
          clear p0 p1 s0 s1
          replace HP14 := Lib.hid (HP14.out.below hb HP14.out.lt)
          replace HP15 := Lib.hid (HP15.out.below hb HP15.out.lt)
          replace HF14 := Lib.hid (And.intro (HF14.out.1.below hb) (HF14.out.2.below hb))
          replace HF15 := Lib.hid (And.intro (HF15.out.1.below hb) (HF15.out.2.below hb))
          clear hb
          have p0 := HP14.out.c0
          have p1 := HP14.out.c1
          have s0 := HP15.out.c0
          have s1 := HP15.out.c1
          go_wp2_with fail
          refine (same_any HF14.out.2 HF15.out.2).mono ?_
          rintro e V25 ⟨rfl, hb⟩
          have HB25 : Hid (Below w.heap.size w V25) := HB24.out.trans (hb.mono HB24.out.size)
          rw [sameB_true rfl]
          clear hb
          go_wp2
          go_ret
          exact ⟨rfl, HB25.out⟩

end Go.Proofs.Ytkfmgiacdlkmiaa.containerMatchesReference
