/-
  A sealed form of which one byte is another one, and one that is followed by a byte: the walk.
-/
import Derived.Test.YtdcapmbgnoahpaaCtDamage
namespace Go.Proofs.Ytdcapmbgnoahpaa.containerDamage
open Go Go.RowKit Go.Shelf Go.Sort Go.ChangeShapes Go.WideShapes Go.ChangeAt
open Go.Proofs.Ytdcapmbgnoahpaa

set_option maxRecDepth 100000 in
set_option maxHeartbeats 4000000 in
theorem walk {k : Nat} {a1 a2 : Option Addr} {n1 c1 n2 c2 : Nat} {id da : List Int} {m x : Nat} {w : World} (hk : k < 256) (hI : RdM w .i64 a1 n1 c1 id) (hD : RdM w .u8 a2 n2 c2 da) (hz : Smalls id) (ho : Oct da) (hm : m < 65536) (hx : x < 256) :
    Calls Try.prog 7 #[.agg #[.int .u8 (k : Int), .slice a1 n1 c1, .slice a2 n2 c2], .int .u16 (m : Int), .int .u8 (x : Int)] w fun e V => e = .returned (.bool true) ∧ Below w.heap.size w V := by
  have HK := Lib.hid hk
  have HI0 := Lib.hid hI
  have HD0 := Lib.hid hD
  have HZ := Lib.hid hz
  have HO := Lib.hid ho
  have HM := Lib.hid hm
  have HX := Lib.hid hx
  clear hm hx
  have HR1 := Lib.hid (RawB.new w (k : Int) (.slice a1 n1 c1) (.slice a2 n2 c2))
  have hb0 : Below w.heap.size w (w.alloc (.cells #[.int .u8 (k : Int), .slice a1 n1 c1, .slice a2 n2 c2] 54)) := (Below.refl _ _).alloc (Nat.le_refl _) _
  have HB := Lib.hid hb0
  clear hb0 hk hI hD hz ho
  go_enter Try.func7, Try.ntmps7
  go_upto_region 1 with fail
  obtain ⟨B0, hB0⟩ : ∃ B, w.heap.size = B := ⟨_, rfl⟩
  rw [hB0] at HR1 ⊢
  have HZB := Lib.hid hB0
  clear hB0
  generalize w.alloc (.cells #[.int .u8 (k : Int), .slice a1 n1 c1, .slice a2 n2 c2] 54) = V0 at *
  go_wp2_with fail
  refine (examples9_any _).mono ?_
  rintro e w1 ⟨rfl, hb1⟩
  replace HB : Hid (Below w.heap.size w w1) := HB.out.trans (hb1.mono HB.out.size)
  have HR := Lib.hid (HR1.out.below hb1 HR1.out.lt)
  clear hb1 HR1
  obtain ⟨r0, r1, r2⟩ := HR.out.cell
  go_wp2_with fail
  refine (made_any HK.out HI0.out.fit HD0.out.fit (by have h1 := HI0.out.fit; have h2 := HI0.out.top; omega) (by have h1 := HD0.out.fit; have h2 := HD0.out.top; omega) _).mono ?_
  rintro e w2 ⟨rfl, hb2⟩
  replace HB : Hid (Below w.heap.size w w2) := HB.out.trans (hb2.mono HB.out.size)
  clear hb2
  have HI2 := Lib.hid ((HI0.out.below HB.out).part (min n1 40) (Nat.min_le_left _ _) (by omega))
  have HD2 := Lib.hid ((HD0.out.below HB.out).part (min n2 200) (Nat.min_le_left _ _) (by omega))
  have HZ2 : Hid (Smalls (id.take (min n1 40))) := smalls_take HZ.out _
  have HO2 : Hid (Oct (da.take (min n2 200))) := HO.out.take _
  have HL1 : Hid ((id.take (min n1 40)).length ≤ 40) := by show _ ≤ _; rw [List.length_take]; omega
  have HL2 : Hid ((da.take (min n2 200)).length ≤ 200) := by show _ ≤ _; rw [List.length_take]; omega
  clear HR HK HZ HO
  go_wp2_with fail
  refine (sealed_any (k := kR k) HI2.out HD2.out HZ2.out HO2.out).mono ?_
  rintro e w3 ⟨hb3, hp⟩
  obtain ⟨_, gs, n, c, rfl, hS⟩ := hp.resolve_right (fun h => h.1 (seal_made HL1.out HL2.out))
  clear hp
  have HOB : Hid (Oct (sealS (kR k) (id.take (min n1 40)) (da.take (min n2 200)))) := sealS_oct (kR_ok k) HO2.out
  have HDM : Hid (∀ j, j < (sealS (kR k) (id.take (min n1 40)) (da.take (min n2 200))).length → (openE ((sealS (kR k) (id.take (min n1 40)) (da.take (min n2 200))).set j (x : Int)) = 0 ↔ (sealS (kR k) (id.take (min n1 40)) (da.take (min n2 200)))[j]?.getD 0 = (x : Int))) := fun j hj =>
    open_damage HZ2.out HO2.out HL1.out (by have := HL2.out; omega) (kR_ok k) hj (by have := HX.out; omega)
  have HMR : Hid (openE ((sealS (kR k) (id.take (min n1 40)) (da.take (min n2 200))) ++ [(x : Int)]) = 8) := open_more HZ2.out HL1.out (by have := HL2.out; omega) (kR_ok k) _
  obtain ⟨bs, hbs⟩ : ∃ bs, sealS (kR k) (id.take (min n1 40)) (da.take (min n2 200)) = bs := ⟨_, rfl⟩
  have HN8 : Hid (8 ≤ bs.length) := by
    show _ ≤ _
    rw [← hbs, sealS_len]; omega
  have HBL : Hid (bs.length ≤ 1000) := by
    show _ ≤ _
    rw [← hbs]
    exact seal_len_le HL1.out HL2.out HZ2.out
  rw [hbs] at HOB HDM HMR hS
  have HBS := Lib.hid hbs
  clear hbs
  have hn0 : ¬ (n : Int) = 0 := by have h1 := hS.hl; have h2 := HN8.out; omega
  have hnc := hS.fit
  have hct := hS.top
  have HB3 : Hid (Below w.heap.size w w3) := HB.out.trans (hb3.mono HB.out.size)
  have HS3 := Lib.hid hS
  clear hb3 hS HB
  clear HI2 HD2 HZ2 HO2 HL1 HL2 HBS
  go_upto_region 5 with fail
  have hb5 : Below w3.heap.size w3 (w3.alloc (.cells #[.slice (some ⟨gs, 0, none⟩) n c, .int .i64 0] 57)) := (Below.refl _ _).alloc (Nat.le_refl _) _
  have hE5 : Sld w gs n c w3.heap.size bs (w3.alloc (.cells #[.slice (some ⟨gs, 0, none⟩) n c, .int .i64 0] 57)) :=
    ⟨HB3.out.trans (hb5.mono HB3.out.size), (HS3.out.below hb5).mono fun _ _ _ => trivial, Pair.new w3 _ _ _⟩
  generalize w3.alloc (.cells #[.slice (some ⟨gs, 0, none⟩) n c, .int .i64 0] 57) = w5 at *
  generalize w3.heap.size = S at *
  have HE5 := Lib.hid hE5
  clear hb5 hE5 HB3 HS3
  have p0 := HE5.out.p.c0
  have p1 := HE5.out.p.c1
  go_upto_region 7 with fail
  have NILI : Hid (∀ W : World, Rd (fun _ => True) W .i64 none 0 0 []) := fun W => ⟨rfl, Nat.le_refl _, by decide, by decide, fun h => absurd h (by decide)⟩
  have NILB : Hid (∀ W : World, Rd (fun _ => True) W .u8 none 0 0 []) := fun W => ⟨rfl, Nat.le_refl _, by decide, by decide, fun h => absurd h (by decide)⟩
  have hb0 : Below w5.heap.size w5 (w5.alloc (.cells #[] 5)) := (Below.refl _ _).alloc (Nat.le_refl _) _
  obtain ⟨v', w10, hr, hrow, hbr⟩ := row0F_append (row0F_new w5 w5.heap.size (Nat.le_refl _)) (HE5.out.s.below hb0) hb0.size (by have := HBL.out; have := HE5.out.s.hl; omega)
  obtain ⟨go, co, rfl, hco, hown⟩ := hrow
  have hl5 := HE5.out.s.hl
  have hb10 : Below w5.heap.size w5 w10 := hb0.trans (hbr.mono hb0.size)
  have HE10 := Lib.hid (HE5.out.below hb10)
  have hwm : IntKind.i64.wrap (m : Int) = (m : Int) := by have := HM.out; rw [IntKind.wrap_i64]; omega
  obtain ⟨j, hmod, hj⟩ : ∃ j : Nat, (m : Int).tmod (n : Int) = (j : Int) ∧ j < n := ⟨m % n, by rw [Int.tmod_eq_emod_of_nonneg (by omega)]; omega, Nat.mod_lt _ (by omega)⟩
  have hjb : j < bs.length := by omega
  have hfz := row_unfrozen (j := j) hown
  have hcl := row_cell (j := j) hown hjb
  have hlt := row_lt hown
  have hst := row_store (j := j) hown (.int .u8 (x : Int))
  rw [← List.map_set] at hst
  have hbase : w5.heap.size ≤ go := row_base hown
  have HST := Lib.hid hst
  rw [← hl5] at hr hco
  have HR := Lib.hid hr
  have HJB := Lib.hid hjb
  have HBASE := Lib.hid hbase
  have HB10 := Lib.hid hb10
  have HCO := Lib.hid hco
  have hnn : ¬ n = 0 := by omega
  have plt := HE5.out.p.lt
  clear hr hown hst hbr hb0 hb10 hl5 hjb hbase hco
  go_upto_region 10 with (at_builtin; refine wpList_append_want (o := ⟨some 30, _, _, _, _, _⟩) _ rfl _ _ _ _ rfl _ _ rfl rfl _ _ HR.out ?_)
  have hHE11 : Sld w gs n c S bs (w10.setCell ⟨go, j, none⟩ (.int .u8 (x : Int))) := HE5.out.below (HB10.out.setCell HBASE.out _)
  have hHO11 : Rd (fun _ => True) (w10.setCell ⟨go, j, none⟩ (.int .u8 (x : Int))) .u8 (some ⟨go, 0, none⟩) n co (bs.set j (x : Int)) := by
    have h := HST.out
    rw [← HE5.out.s.hl] at h
    exact (Rd.of_row (by rw [List.length_set]; exact HE5.out.s.hl) HCO.out (by have := HBL.out; have := HE5.out.s.hl; omega) h).mono fun _ _ _ => trivial
  have hOO : Oct (bs.set j (x : Int)) := fun u hu => (List.mem_or_eq_of_mem_set hu).elim (HOB.out u) (fun e => by subst e; have := HX.out; omega)
  generalize w10.setCell ⟨go, j, none⟩ (.int .u8 (x : Int)) = w11 at *
  have HE11 := Lib.hid hHE11
  have HT := Lib.hid (opened_any hHO11 hOO)
  obtain ⟨y, hy⟩ : ∃ y, bs[j]?.getD 0 = y := ⟨_, rfl⟩
  have HY := Lib.hid hy
  have HDM2 := Lib.hid (HDM.out j HJB.out)
  have HOF := Lib.hid (open_of (bs.set j (x : Int)))
  clear hy hHE11 hHO11 hOO hfz hcl hlt HST HR HBASE HB10 HCO HE10 p0 p1 plt HDM hwm hmod
  go_wp2_with fail
  refine HT.out.mono ?_
  rintro e w12 ⟨hb12, hp⟩
  have HE12 := Lib.hid (HE11.out.below hb12)
  clear HT hb12 HE11
  obtain ⟨ok, oa1, on1, oc1, oa2, on2, oc2, rfl⟩ : ∃ ok oa1 on1 oc1 oa2 on2 oc2, e = .returned (.agg #[.int .i64 ok, .slice oa1 on1 oc1, .slice oa2 on2 oc2, .slice none 0 0, .int .i64 (openE (bs.set j (x : Int)))]) := by
    rcases hp with ⟨hz, a1, n1, c1, a2, n2, c2, he, _⟩ | ⟨_, he⟩
    · rw [hz]; exact ⟨_, _, _, _, _, _, _, he⟩
    · exact ⟨_, _, _, _, _, _, _, he⟩
  clear hp
  obtain ⟨E, hE⟩ : ∃ E, openE (bs.set j (x : Int)) = E := ⟨_, rfl⟩
  rw [hE] at HDM2 HOF ⊢
  rw [HY.out] at HDM2
  clear hE
  go_upto_region 11 with fail
  have hb13 : Below w12.heap.size w12 (w12.alloc (.cells #[.int .i64 ok, .slice oa1 on1 oc1, .slice oa2 on2 oc2, .slice none 0 0, .int .i64 E] 65)) := (Below.refl _ _).alloc (Nat.le_refl _) _
  have HP13 := Lib.hid (OpB.new w12 (.int .i64 ok) (.slice oa1 on1 oc1) (.slice oa2 on2 oc2) (.slice none 0 0) (.int .i64 E))
  have HE13 := Lib.hid (HE12.out.below hb13)
  generalize w12.alloc (.cells #[.int .i64 ok, .slice oa1 on1 oc1, .slice oa2 on2 oc2, .slice none 0 0, .int .i64 E] 65) = w13 at *
  generalize w12.heap.size = O at *
  clear hb13 HE12
  rcases HOF.out with rfl | rfl | rfl
  · have hyx : y = (x : Int) := HDM2.out.1 rfl
    subst hyx
    clear HDM2 HOF
    have hcy : ∀ W, Below w13.heap.size w13 W → W.cell? ⟨gs, j, none⟩ = some (.int .u8 (x : Int)) := fun W hb => by
      rw [← HY.out]
      exact (HE13.out.below hb).s.cell0 hj
    have HCY := Lib.hid hcy
    clear hcy
    refine wp_region_facts (by kernel_rfl) (fs := [Fact.is (.pointer (some ⟨O, 4, none⟩)), Fact.is (.int .i64 0), Fact.is (.bool true), Fact.is (.int .u8 (x : Int)), Fact.is (.pointer (some ⟨S, 0, none⟩)), Fact.is (.slice (some ⟨gs, 0, none⟩) n c), Fact.is (.int .i64 (j : Int)), Fact.is (.pointer (some ⟨gs, j, none⟩)), Fact.is (.int .u8 (x : Int)), Fact.is (.bool true), Fact.is (.bool false), Fact.is (.bool false), Fact.is (.pointer (some ⟨O, 4, none⟩)), Fact.is (.int .i64 0), Fact.is (.bool false), Fact.is (.bool false), Fact.no, Fact.no, Fact.no, Fact.is (.bool false), Fact.is (.bool false), Fact.no, Fact.no, Fact.no, Fact.is (.bool false), Fact.is (.bool false)]) (by kernel_rfl) (by kernel_rfl) ⟨Fact.is_stable _, Fact.is_stable _, Fact.is_stable _, Fact.is_stable _, Fact.is_stable _, Fact.is_stable _, Fact.is_stable _, Fact.is_stable _, Fact.is_stable _, Fact.is_stable _, Fact.is_stable _, Fact.is_stable _, Fact.is_stable _, Fact.is_stable _, Fact.is_stable _, Fact.is_stable _, Fact.no_stable, Fact.no_stable, Fact.no_stable, Fact.is_stable _, Fact.is_stable _, Fact.no_stable, Fact.no_stable, Fact.no_stable, Fact.is_stable _, Fact.is_stable _, trivial⟩ ?_ ?_
    · exact ⟨by
          intro a W hA hB hd
          have hB := Lib.hid hB
          have p11 : a.eval (.tmp 11) = .pointer (some ⟨O, 0, none⟩) := hA.at 11 (by kernel_rfl)
          exact (step_pure (wanted_none rfl) (.pointer (some ⟨O, 4, none⟩)) (by simp [execOp, go_sem, tm p11]) rfl),
        by
          intro a W hA hB hd
          obtain ⟨q0, -⟩ := hd
          have h42 : a.eval (.tmp 42) = .pointer (some ⟨O, 4, none⟩) := q0
          have hB := Lib.hid hB
          have c0 := (HP13.out.below hB.out HP13.out.lt).cell.2.2.2.2
          exact (step_pure (wanted_none rfl) (.int .i64 0) (by simp [execOp, go_sem, tm h42, c0]) rfl),
        by
          intro a W hA hB hd
          obtain ⟨q0, -⟩ := hd
          have h43 : a.eval (.tmp 43) = .int .i64 0 := q0
          have hB := Lib.hid hB
          exact (step_pure (wanted_none rfl) (.bool true) (by simp [execOp, go_sem, tm h43]) rfl),
        by
          intro a W hA hB hd
          have hB := Lib.hid hB
          have p2 : a.eval (.tmp 2) = .int .u8 (x : Int) := hA.at 2 (by kernel_rfl)
          exact (step_pure (wanted_none rfl) (.int .u8 (x : Int)) (by simp [execOp, go_sem, tm p2]) rfl),
        by
          intro a W hA hB hd
          have hB := Lib.hid hB
          have p8 : a.eval (.tmp 8) = .pointer (some ⟨S, 0, none⟩) := hA.at 8 (by kernel_rfl)
          exact (step_pure (wanted_none rfl) (.pointer (some ⟨S, 0, none⟩)) (by simp [execOp, go_sem, tm p8]) rfl),
        by
          intro a W hA hB hd
          obtain ⟨q0, -⟩ := hd
          have h46 : a.eval (.tmp 46) = .pointer (some ⟨S, 0, none⟩) := q0
          have hB := Lib.hid hB
          have c0 := (HE13.out.below hB.out).p.c0
          exact (step_pure (wanted_none rfl) (.slice (some ⟨gs, 0, none⟩) n c) (by simp [execOp, go_sem, tm h46, c0]) rfl),
        by
          intro a W hA hB hd
          have hB := Lib.hid hB
          have p10 : a.eval (.tmp 10) = .int .i64 (j : Int) := hA.at 10 (by kernel_rfl)
          exact (step_pure (wanted_none rfl) (.int .i64 (j : Int)) (by simp [execOp, go_sem, tm p10]) rfl),
        by
          intro a W hA hB hd
          obtain ⟨q0, q1, -⟩ := hd
          have h47 : a.eval (.tmp 47) = .slice (some ⟨gs, 0, none⟩) n c := q0
          have h48 : a.eval (.tmp 48) = .int .i64 (j : Int) := q1
          have hB := Lib.hid hB
          exact (step_pure (wanted_none rfl) (.pointer (some ⟨gs, j, none⟩)) (by simp [execOp, go_sem, tm h47, tm h48, hj]) rfl),
        by
          intro a W hA hB hd
          obtain ⟨q0, -⟩ := hd
          have h49 : a.eval (.tmp 49) = .pointer (some ⟨gs, j, none⟩) := q0
          have hB := Lib.hid hB
          have c0 := HCY.out W hB.out
          exact (step_pure (wanted_none rfl) (.int .u8 (x : Int)) (by simp [execOp, go_sem, tm h49, c0]) rfl),
        by
          intro a W hA hB hd
          obtain ⟨q0, q1, -⟩ := hd
          have h45 : a.eval (.tmp 45) = .int .u8 (x : Int) := q0
          have h50 : a.eval (.tmp 50) = .int .u8 (x : Int) := q1
          have hB := Lib.hid hB
          exact (step_pure (wanted_none rfl) (.bool true) (by simp [execOp, go_sem, tm h45, tm h50]) rfl),
        by
          intro a W hA hB hd
          obtain ⟨q0, q1, -⟩ := hd
          have h44 : a.eval (.tmp 44) = .bool true := q0
          have h51 : a.eval (.tmp 51) = .bool true := q1
          have hB := Lib.hid hB
          exact (step_pure (wanted_none rfl) (.bool false) (by simp [execOp, go_sem, tm h44, tm h51]) rfl),
        by
          intro a W hA hB hd
          obtain ⟨q0, -⟩ := hd
          have h52 : a.eval (.tmp 52) = .bool false := q0
          have hB := Lib.hid hB
          exact (step_pure (wanted_none rfl) (.bool false) (by simp [execOp, go_sem, tm h52]) rfl),
        by
          intro a W hA hB hd
          obtain ⟨q0, -⟩ := hd
          have h53 : a.eval (.tmp 53) = .bool false := q0
          have hB := Lib.hid hB
          have p11 : a.eval (.tmp 11) = .pointer (some ⟨O, 0, none⟩) := hA.at 11 (by kernel_rfl)
          exact (step_pure ((wanted_guard rfl 53 rfl h53).trans rfl) (.pointer (some ⟨O, 4, none⟩)) (by simp [execOp, go_sem, tm p11]) rfl),
        by
          intro a W hA hB hd
          obtain ⟨q0, q1, -⟩ := hd
          have h54 : a.eval (.tmp 54) = .pointer (some ⟨O, 4, none⟩) := q0
          have h53 : a.eval (.tmp 53) = .bool false := q1
          have hB := Lib.hid hB
          have c0 := (HP13.out.below hB.out HP13.out.lt).cell.2.2.2.2
          exact (step_pure ((wanted_guard rfl 53 rfl h53).trans rfl) (.int .i64 0) (by simp [execOp, go_sem, tm h54, c0]) rfl),
        by
          intro a W hA hB hd
          obtain ⟨q0, q1, -⟩ := hd
          have h55 : a.eval (.tmp 55) = .int .i64 0 := q0
          have h53 : a.eval (.tmp 53) = .bool false := q1
          have hB := Lib.hid hB
          exact (step_pure ((wanted_guard rfl 53 rfl h53).trans rfl) (.bool false) (by simp [execOp, go_sem, tm h55]) rfl),
        by
          intro a W hA hB hd
          obtain ⟨q0, q1, q2, -⟩ := hd
          have h56 : a.eval (.tmp 56) = .bool false := q0
          have h53 : a.eval (.tmp 53) = .bool false := q1
          have hB := Lib.hid hB
          exact (step_pure ((wanted_guard rfl 53 rfl h53).trans rfl) (.bool false) (by simp [execOp, go_sem, tm h56]) rfl),
        by
          intro a W hA hB hd
          obtain ⟨q0, -⟩ := hd
          have h57 : a.eval (.tmp 57) = .bool false := q0
          have hB := Lib.hid hB
          exact (step_not ((wanted_guard rfl 57 rfl h57).trans rfl) trivial),
        by
          intro a W hA hB hd
          obtain ⟨q0, q1, -⟩ := hd
          have h57 : a.eval (.tmp 57) = .bool false := q1
          have hB := Lib.hid hB
          exact (step_not ((wanted_guard rfl 57 rfl h57).trans rfl) trivial),
        by
          intro a W hA hB hd
          obtain ⟨q0, q1, -⟩ := hd
          have h57 : a.eval (.tmp 57) = .bool false := q1
          have hB := Lib.hid hB
          exact (step_not ((wanted_guard rfl 57 rfl h57).trans rfl) trivial),
        by
          intro a W hA hB hd
          obtain ⟨q0, q1, q2, -⟩ := hd
          have h57 : a.eval (.tmp 57) = .bool false := q0
          have h53 : a.eval (.tmp 53) = .bool false := q2
          have hB := Lib.hid hB
          exact (step_pure ((wanted_guard rfl 53 rfl h53).trans rfl) (.bool false) (by simp [execOp, go_sem, tm h57]) rfl),
        by
          intro a W hA hB hd
          obtain ⟨q0, q1, q2, -⟩ := hd
          have h61 : a.eval (.tmp 61) = .bool false := q0
          have h57 : a.eval (.tmp 57) = .bool false := q1
          have h53 : a.eval (.tmp 53) = .bool false := q2
          have hB := Lib.hid hB
          exact (step_pure ((wanted_guard rfl 53 rfl h53).trans rfl) (.bool false) (by simp [execOp, go_sem, tm h61]) rfl),
        by
          intro a W hA hB hd
          obtain ⟨q0, -⟩ := hd
          have h62 : a.eval (.tmp 62) = .bool false := q0
          have hB := Lib.hid hB
          exact (step_not ((wanted_guard rfl 62 rfl h62).trans rfl) trivial),
        by
          intro a W hA hB hd
          obtain ⟨q0, q1, -⟩ := hd
          have h62 : a.eval (.tmp 62) = .bool false := q1
          have hB := Lib.hid hB
          exact (step_not ((wanted_guard rfl 62 rfl h62).trans rfl) trivial),
        by
          intro a W hA hB hd
          obtain ⟨q0, q1, -⟩ := hd
          have h62 : a.eval (.tmp 62) = .bool false := q1
          have hB := Lib.hid hB
          exact (step_not ((wanted_guard rfl 62 rfl h62).trans rfl) trivial),
        by
          intro a W hA hB hd
          obtain ⟨q0, q1, q2, -⟩ := hd
          have h62 : a.eval (.tmp 62) = .bool false := q0
          have h53 : a.eval (.tmp 53) = .bool false := q2
          have hB := Lib.hid hB
          exact (step_pure ((wanted_guard rfl 53 rfl h53).trans rfl) (.bool false) (by simp [execOp, go_sem, tm h62]) rfl),
        by
          intro a W hA hB hd
          obtain ⟨q0, q1, -⟩ := hd
          have h53 : a.eval (.tmp 53) = .bool false := q0
          have h66 : a.eval (.tmp 66) = .bool false := q1
          have hB := Lib.hid hB
          exact (step_pure (wanted_none rfl) (.bool false) (by simp [execOp, go_sem, tm h53, tm h66]) rfl), trivial⟩
    · intro zx w14 hA hB hE
      have h67 : zx.eval (.tmp 67) = .bool false := hE.2.2.2.2.2.2.2.2.2.2.2.2.2.2.2.2.2.2.2.2.2.2.2.2.2.1
      have hp := hA.puts [42, 43, 44, 45, 46, 47, 48, 49, 50, 51, 52, 53, 54, 55, 56, 57, 58, 59, 60, 61, 62, 63, 64, 65, 66, 67] (by kernel_rfl)
      clear hA hE
      simp only [putAll, h67] at hp
      clear h67
      generalize zx.eval = ev11 at hp
      subst hp
      have HE14 := Lib.hid (HE13.out.below hB)
      clear hB HE13 HP13 HCY
      simp only [Act.put, List.setIfInBounds_toArray, List.set_cons_succ, List.set_cons_zero]
      go_upto_region 13 with fail
      have p0 := HE14.out.p.c0
      have plt := HE14.out.p.lt
      have hb0 : Below w14.heap.size w14 (w14.alloc (.cells #[] 5)) := (Below.refl _ _).alloc (Nat.le_refl _) _
      obtain ⟨v', w15, hr, hrow, hbr⟩ := row0F_append (row0F_new w14 w14.heap.size (Nat.le_refl _)) (HE14.out.s.below hb0) hb0.size (by have := HBL.out; have := HE14.out.s.hl; omega)
      have hb15 : Below w14.heap.size w14 w15 := hb0.trans (hbr.mono hb0.size)
      have hb16 : Below w15.heap.size w15 (w15.alloc (.cells #[.int .u8 (x : Int)] 5)) := (Below.refl _ _).alloc (Nat.le_refl _) _
      have hx1 : Rd (fun b => w15.heap.size ≤ b) (w15.alloc (.cells #[.int .u8 (x : Int)] 5)) .u8 (some ⟨w15.heap.size, 0, none⟩) 1 1 [(x : Int)] := Rd.new w15 .u8 5 [(x : Int)] 1 rfl (by decide)
      obtain ⟨v2, w17, hr2, hrow2, hb17⟩ := rowF_append (rowF_stable _ _ _ _ _ hrow hb16) hx1 (Nat.le_trans hb15.size hb16.size) (by have := HBL.out; omega)
      obtain ⟨g1, q1, rfl, -, -⟩ := hrow
      obtain ⟨g2, q2, rfl, hO17⟩ := rowF_rd hrow2 (by have := HBL.out; rw [List.length_append]; simp; omega)
      have hln : (bs ++ [(x : Int)]).length = bs.length + 1 := by simp
      rw [hln] at hr2 hO17
      clear hln
      have HR1 := Lib.hid hr
      have HR2 := Lib.hid hr2
      have HO17 := Lib.hid hO17
      have HB17 : Hid (Below w.heap.size w w17) := HE14.out.b.trans (((hb15.trans (hb16.mono hb15.size)).trans hb17).mono HE14.out.b.size)
      have HOX : Hid (Oct (bs ++ [(x : Int)])) := HOB.out.append (fun u hu => by rw [List.mem_singleton] at hu; subst hu; have := HX.out; omega)
      clear hr hr2 hO17 hrow2 hb0 hbr hb15 hb16 hx1 hb17 hn0 hnc hct hj hnn
      go_wp2_with (first
        | (at_builtin; have hRR := HR1.out; clear HR1; refine wpList_append_want (o := ⟨some 71, _, _, _, _, _⟩) _ rfl _ _ _ _ rfl _ _ rfl rfl _ _ hRR ?_; clear hRR)
        | (at_builtin; have hRR := HR2.out; clear HR2; refine wpList_append_want (o := ⟨some 74, _, _, _, _, _⟩) _ rfl _ _ _ _ rfl _ _ rfl rfl _ _ hRR ?_; clear hRR)
        | (go_at_call 38; refine (opened_any HO17.out HOX.out).mono ?_; rintro e w18 ⟨hb18, hp⟩; obtain ⟨_, rfl⟩ := hp.resolve_left (fun q => absurd q.1 (by rw [HMR.out]; decide)); rw [HMR.out]; have HB18 : Hid (Below w.heap.size w w18) := HB17.out.trans (hb18.mono HB17.out.size); clear hb18 hp)
        | (go_at_call 37; refine (same9_any (NILI.out _) (NILB.out _) (NILB.out _) (NILI.out _) (NILB.out _) (NILB.out _) (by decide) (by decide)).mono ?_; rintro e w19 ⟨rfl, hb19⟩; rw [show sameO 0 [] [] [] 8 0 [] [] [] 8 = true from rfl]; have HB19 : Hid (Below w.heap.size w w19) := HB18.out.trans (hb19.mono HB18.out.size); clear hb19))
      go_ret
      exact ⟨rfl, HB19.out⟩
  · have hyx : ¬ (x : Int) = y := fun h => absurd (HDM2.out.2 h.symm) (by decide)
    clear HDM2 HOF
    have hcy : ∀ W, Below w13.heap.size w13 W → W.cell? ⟨gs, j, none⟩ = some (.int .u8 y) := fun W hb => by
      rw [← HY.out]
      exact (HE13.out.below hb).s.cell0 hj
    have HCY := Lib.hid hcy
    clear hcy
    refine wp_region_facts (by kernel_rfl) (fs := [Fact.is (.pointer (some ⟨O, 4, none⟩)), Fact.is (.int .i64 7), Fact.is (.bool false), Fact.is (.int .u8 (x : Int)), Fact.is (.pointer (some ⟨S, 0, none⟩)), Fact.is (.slice (some ⟨gs, 0, none⟩) n c), Fact.is (.int .i64 (j : Int)), Fact.is (.pointer (some ⟨gs, j, none⟩)), Fact.is (.int .u8 y), Fact.is (.bool false), Fact.is (.bool false), Fact.is (.bool false), Fact.is (.pointer (some ⟨O, 4, none⟩)), Fact.is (.int .i64 7), Fact.is (.bool true), Fact.is (.bool true), Fact.is (.pointer (some ⟨O, 4, none⟩)), Fact.is (.int .i64 7), Fact.is (.bool false), Fact.is (.bool false), Fact.is (.bool false), Fact.no, Fact.no, Fact.no, Fact.is (.bool false), Fact.is (.bool false)]) (by kernel_rfl) (by kernel_rfl) ⟨Fact.is_stable _, Fact.is_stable _, Fact.is_stable _, Fact.is_stable _, Fact.is_stable _, Fact.is_stable _, Fact.is_stable _, Fact.is_stable _, Fact.is_stable _, Fact.is_stable _, Fact.is_stable _, Fact.is_stable _, Fact.is_stable _, Fact.is_stable _, Fact.is_stable _, Fact.is_stable _, Fact.is_stable _, Fact.is_stable _, Fact.is_stable _, Fact.is_stable _, Fact.is_stable _, Fact.no_stable, Fact.no_stable, Fact.no_stable, Fact.is_stable _, Fact.is_stable _, trivial⟩ ?_ ?_
    · exact ⟨by
          intro a W hA hB hd
          have hB := Lib.hid hB
          have p11 : a.eval (.tmp 11) = .pointer (some ⟨O, 0, none⟩) := hA.at 11 (by kernel_rfl)
          exact (step_pure (wanted_none rfl) (.pointer (some ⟨O, 4, none⟩)) (by simp [execOp, go_sem, tm p11]) rfl),
        by
          intro a W hA hB hd
          obtain ⟨q0, -⟩ := hd
          have h42 : a.eval (.tmp 42) = .pointer (some ⟨O, 4, none⟩) := q0
          have hB := Lib.hid hB
          have c0 := (HP13.out.below hB.out HP13.out.lt).cell.2.2.2.2
          exact (step_pure (wanted_none rfl) (.int .i64 7) (by simp [execOp, go_sem, tm h42, c0]) rfl),
        by
          intro a W hA hB hd
          obtain ⟨q0, -⟩ := hd
          have h43 : a.eval (.tmp 43) = .int .i64 7 := q0
          have hB := Lib.hid hB
          exact (step_pure (wanted_none rfl) (.bool false) (by simp [execOp, go_sem, tm h43]) rfl),
        by
          intro a W hA hB hd
          have hB := Lib.hid hB
          have p2 : a.eval (.tmp 2) = .int .u8 (x : Int) := hA.at 2 (by kernel_rfl)
          exact (step_pure (wanted_none rfl) (.int .u8 (x : Int)) (by simp [execOp, go_sem, tm p2]) rfl),
        by
          intro a W hA hB hd
          have hB := Lib.hid hB
          have p8 : a.eval (.tmp 8) = .pointer (some ⟨S, 0, none⟩) := hA.at 8 (by kernel_rfl)
          exact (step_pure (wanted_none rfl) (.pointer (some ⟨S, 0, none⟩)) (by simp [execOp, go_sem, tm p8]) rfl),
        by
          intro a W hA hB hd
          obtain ⟨q0, -⟩ := hd
          have h46 : a.eval (.tmp 46) = .pointer (some ⟨S, 0, none⟩) := q0
          have hB := Lib.hid hB
          have c0 := (HE13.out.below hB.out).p.c0
          exact (step_pure (wanted_none rfl) (.slice (some ⟨gs, 0, none⟩) n c) (by simp [execOp, go_sem, tm h46, c0]) rfl),
        by
          intro a W hA hB hd
          have hB := Lib.hid hB
          have p10 : a.eval (.tmp 10) = .int .i64 (j : Int) := hA.at 10 (by kernel_rfl)
          exact (step_pure (wanted_none rfl) (.int .i64 (j : Int)) (by simp [execOp, go_sem, tm p10]) rfl),
        by
          intro a W hA hB hd
          obtain ⟨q0, q1, -⟩ := hd
          have h47 : a.eval (.tmp 47) = .slice (some ⟨gs, 0, none⟩) n c := q0
          have h48 : a.eval (.tmp 48) = .int .i64 (j : Int) := q1
          have hB := Lib.hid hB
          exact (step_pure (wanted_none rfl) (.pointer (some ⟨gs, j, none⟩)) (by simp [execOp, go_sem, tm h47, tm h48, hj]) rfl),
        by
          intro a W hA hB hd
          obtain ⟨q0, -⟩ := hd
          have h49 : a.eval (.tmp 49) = .pointer (some ⟨gs, j, none⟩) := q0
          have hB := Lib.hid hB
          have c0 := HCY.out W hB.out
          exact (step_pure (wanted_none rfl) (.int .u8 y) (by simp [execOp, go_sem, tm h49, c0]) rfl),
        by
          intro a W hA hB hd
          obtain ⟨q0, q1, -⟩ := hd
          have h45 : a.eval (.tmp 45) = .int .u8 (x : Int) := q0
          have h50 : a.eval (.tmp 50) = .int .u8 y := q1
          have hB := Lib.hid hB
          exact (step_pure (wanted_none rfl) (.bool false) (by simp [execOp, go_sem, tm h45, tm h50, hyx]) rfl),
        by
          intro a W hA hB hd
          obtain ⟨q0, q1, -⟩ := hd
          have h44 : a.eval (.tmp 44) = .bool false := q0
          have h51 : a.eval (.tmp 51) = .bool false := q1
          have hB := Lib.hid hB
          exact (step_pure (wanted_none rfl) (.bool false) (by simp [execOp, go_sem, tm h44, tm h51]) rfl),
        by
          intro a W hA hB hd
          obtain ⟨q0, -⟩ := hd
          have h52 : a.eval (.tmp 52) = .bool false := q0
          have hB := Lib.hid hB
          exact (step_pure (wanted_none rfl) (.bool false) (by simp [execOp, go_sem, tm h52]) rfl),
        by
          intro a W hA hB hd
          obtain ⟨q0, -⟩ := hd
          have h53 : a.eval (.tmp 53) = .bool false := q0
          have hB := Lib.hid hB
          have p11 : a.eval (.tmp 11) = .pointer (some ⟨O, 0, none⟩) := hA.at 11 (by kernel_rfl)
          exact (step_pure ((wanted_guard rfl 53 rfl h53).trans rfl) (.pointer (some ⟨O, 4, none⟩)) (by simp [execOp, go_sem, tm p11]) rfl),
        by
          intro a W hA hB hd
          obtain ⟨q0, q1, -⟩ := hd
          have h54 : a.eval (.tmp 54) = .pointer (some ⟨O, 4, none⟩) := q0
          have h53 : a.eval (.tmp 53) = .bool false := q1
          have hB := Lib.hid hB
          have c0 := (HP13.out.below hB.out HP13.out.lt).cell.2.2.2.2
          exact (step_pure ((wanted_guard rfl 53 rfl h53).trans rfl) (.int .i64 7) (by simp [execOp, go_sem, tm h54, c0]) rfl),
        by
          intro a W hA hB hd
          obtain ⟨q0, q1, -⟩ := hd
          have h55 : a.eval (.tmp 55) = .int .i64 7 := q0
          have h53 : a.eval (.tmp 53) = .bool false := q1
          have hB := Lib.hid hB
          exact (step_pure ((wanted_guard rfl 53 rfl h53).trans rfl) (.bool true) (by simp [execOp, go_sem, tm h55]) rfl),
        by
          intro a W hA hB hd
          obtain ⟨q0, q1, q2, -⟩ := hd
          have h56 : a.eval (.tmp 56) = .bool true := q0
          have h53 : a.eval (.tmp 53) = .bool false := q1
          have hB := Lib.hid hB
          exact (step_pure ((wanted_guard rfl 53 rfl h53).trans rfl) (.bool true) (by simp [execOp, go_sem, tm h56]) rfl),
        by
          intro a W hA hB hd
          obtain ⟨q0, -⟩ := hd
          have h57 : a.eval (.tmp 57) = .bool true := q0
          have hB := Lib.hid hB
          have p11 : a.eval (.tmp 11) = .pointer (some ⟨O, 0, none⟩) := hA.at 11 (by kernel_rfl)
          exact (step_pure ((wanted_guard rfl 57 rfl h57).trans rfl) (.pointer (some ⟨O, 4, none⟩)) (by simp [execOp, go_sem, tm p11]) rfl),
        by
          intro a W hA hB hd
          obtain ⟨q0, q1, -⟩ := hd
          have h58 : a.eval (.tmp 58) = .pointer (some ⟨O, 4, none⟩) := q0
          have h57 : a.eval (.tmp 57) = .bool true := q1
          have hB := Lib.hid hB
          have c0 := (HP13.out.below hB.out HP13.out.lt).cell.2.2.2.2
          exact (step_pure ((wanted_guard rfl 57 rfl h57).trans rfl) (.int .i64 7) (by simp [execOp, go_sem, tm h58, c0]) rfl),
        by
          intro a W hA hB hd
          obtain ⟨q0, q1, -⟩ := hd
          have h59 : a.eval (.tmp 59) = .int .i64 7 := q0
          have h57 : a.eval (.tmp 57) = .bool true := q1
          have hB := Lib.hid hB
          exact (step_pure ((wanted_guard rfl 57 rfl h57).trans rfl) (.bool false) (by simp [execOp, go_sem, tm h59]) rfl),
        by
          intro a W hA hB hd
          obtain ⟨q0, q1, q2, -⟩ := hd
          have h57 : a.eval (.tmp 57) = .bool true := q0
          have h60 : a.eval (.tmp 60) = .bool false := q1
          have h53 : a.eval (.tmp 53) = .bool false := q2
          have hB := Lib.hid hB
          exact (step_pure ((wanted_guard rfl 53 rfl h53).trans rfl) (.bool false) (by simp [execOp, go_sem, tm h57, tm h60]) rfl),
        by
          intro a W hA hB hd
          obtain ⟨q0, q1, q2, -⟩ := hd
          have h61 : a.eval (.tmp 61) = .bool false := q0
          have h57 : a.eval (.tmp 57) = .bool true := q1
          have h53 : a.eval (.tmp 53) = .bool false := q2
          have hB := Lib.hid hB
          exact (step_pure ((wanted_guard rfl 53 rfl h53).trans rfl) (.bool false) (by simp [execOp, go_sem, tm h61]) rfl),
        by
          intro a W hA hB hd
          obtain ⟨q0, -⟩ := hd
          have h62 : a.eval (.tmp 62) = .bool false := q0
          have hB := Lib.hid hB
          exact (step_not ((wanted_guard rfl 62 rfl h62).trans rfl) trivial),
        by
          intro a W hA hB hd
          obtain ⟨q0, q1, -⟩ := hd
          have h62 : a.eval (.tmp 62) = .bool false := q1
          have hB := Lib.hid hB
          exact (step_not ((wanted_guard rfl 62 rfl h62).trans rfl) trivial),
        by
          intro a W hA hB hd
          obtain ⟨q0, q1, -⟩ := hd
          have h62 : a.eval (.tmp 62) = .bool false := q1
          have hB := Lib.hid hB
          exact (step_not ((wanted_guard rfl 62 rfl h62).trans rfl) trivial),
        by
          intro a W hA hB hd
          obtain ⟨q0, q1, q2, -⟩ := hd
          have h62 : a.eval (.tmp 62) = .bool false := q0
          have h53 : a.eval (.tmp 53) = .bool false := q2
          have hB := Lib.hid hB
          exact (step_pure ((wanted_guard rfl 53 rfl h53).trans rfl) (.bool false) (by simp [execOp, go_sem, tm h62]) rfl),
        by
          intro a W hA hB hd
          obtain ⟨q0, q1, -⟩ := hd
          have h53 : a.eval (.tmp 53) = .bool false := q0
          have h66 : a.eval (.tmp 66) = .bool false := q1
          have hB := Lib.hid hB
          exact (step_pure (wanted_none rfl) (.bool false) (by simp [execOp, go_sem, tm h53, tm h66]) rfl), trivial⟩
    · intro zx w14 hA hB hE
      have h67 : zx.eval (.tmp 67) = .bool false := hE.2.2.2.2.2.2.2.2.2.2.2.2.2.2.2.2.2.2.2.2.2.2.2.2.2.1
      have hp := hA.puts [42, 43, 44, 45, 46, 47, 48, 49, 50, 51, 52, 53, 54, 55, 56, 57, 58, 59, 60, 61, 62, 63, 64, 65, 66, 67] (by kernel_rfl)
      clear hA hE
      simp only [putAll, h67] at hp
      clear h67
      generalize zx.eval = ev11 at hp
      subst hp
      have HE14 := Lib.hid (HE13.out.below hB)
      clear hB HE13 HP13 HCY
      simp only [Act.put, List.setIfInBounds_toArray, List.set_cons_succ, List.set_cons_zero]
      go_upto_region 13 with fail
      have p0 := HE14.out.p.c0
      have plt := HE14.out.p.lt
      have hb0 : Below w14.heap.size w14 (w14.alloc (.cells #[] 5)) := (Below.refl _ _).alloc (Nat.le_refl _) _
      obtain ⟨v', w15, hr, hrow, hbr⟩ := row0F_append (row0F_new w14 w14.heap.size (Nat.le_refl _)) (HE14.out.s.below hb0) hb0.size (by have := HBL.out; have := HE14.out.s.hl; omega)
      have hb15 : Below w14.heap.size w14 w15 := hb0.trans (hbr.mono hb0.size)
      have hb16 : Below w15.heap.size w15 (w15.alloc (.cells #[.int .u8 (x : Int)] 5)) := (Below.refl _ _).alloc (Nat.le_refl _) _
      have hx1 : Rd (fun b => w15.heap.size ≤ b) (w15.alloc (.cells #[.int .u8 (x : Int)] 5)) .u8 (some ⟨w15.heap.size, 0, none⟩) 1 1 [(x : Int)] := Rd.new w15 .u8 5 [(x : Int)] 1 rfl (by decide)
      obtain ⟨v2, w17, hr2, hrow2, hb17⟩ := rowF_append (rowF_stable _ _ _ _ _ hrow hb16) hx1 (Nat.le_trans hb15.size hb16.size) (by have := HBL.out; omega)
      obtain ⟨g1, q1, rfl, -, -⟩ := hrow
      obtain ⟨g2, q2, rfl, hO17⟩ := rowF_rd hrow2 (by have := HBL.out; rw [List.length_append]; simp; omega)
      have hln : (bs ++ [(x : Int)]).length = bs.length + 1 := by simp
      rw [hln] at hr2 hO17
      clear hln
      have HR1 := Lib.hid hr
      have HR2 := Lib.hid hr2
      have HO17 := Lib.hid hO17
      have HB17 : Hid (Below w.heap.size w w17) := HE14.out.b.trans (((hb15.trans (hb16.mono hb15.size)).trans hb17).mono HE14.out.b.size)
      have HOX : Hid (Oct (bs ++ [(x : Int)])) := HOB.out.append (fun u hu => by rw [List.mem_singleton] at hu; subst hu; have := HX.out; omega)
      clear hr hr2 hO17 hrow2 hb0 hbr hb15 hb16 hx1 hb17 hn0 hnc hct hj hnn
      go_wp2_with (first
        | (at_builtin; have hRR := HR1.out; clear HR1; refine wpList_append_want (o := ⟨some 71, _, _, _, _, _⟩) _ rfl _ _ _ _ rfl _ _ rfl rfl _ _ hRR ?_; clear hRR)
        | (at_builtin; have hRR := HR2.out; clear HR2; refine wpList_append_want (o := ⟨some 74, _, _, _, _, _⟩) _ rfl _ _ _ _ rfl _ _ rfl rfl _ _ hRR ?_; clear hRR)
        | (go_at_call 38; refine (opened_any HO17.out HOX.out).mono ?_; rintro e w18 ⟨hb18, hp⟩; obtain ⟨_, rfl⟩ := hp.resolve_left (fun q => absurd q.1 (by rw [HMR.out]; decide)); rw [HMR.out]; have HB18 : Hid (Below w.heap.size w w18) := HB17.out.trans (hb18.mono HB17.out.size); clear hb18 hp)
        | (go_at_call 37; refine (same9_any (NILI.out _) (NILB.out _) (NILB.out _) (NILI.out _) (NILB.out _) (NILB.out _) (by decide) (by decide)).mono ?_; rintro e w19 ⟨rfl, hb19⟩; rw [show sameO 0 [] [] [] 8 0 [] [] [] 8 = true from rfl]; have HB19 : Hid (Below w.heap.size w w19) := HB18.out.trans (hb19.mono HB18.out.size); clear hb19))
      go_ret
      exact ⟨rfl, HB19.out⟩
  · have hyx : ¬ (x : Int) = y := fun h => absurd (HDM2.out.2 h.symm) (by decide)
    clear HDM2 HOF
    have hcy : ∀ W, Below w13.heap.size w13 W → W.cell? ⟨gs, j, none⟩ = some (.int .u8 y) := fun W hb => by
      rw [← HY.out]
      exact (HE13.out.below hb).s.cell0 hj
    have HCY := Lib.hid hcy
    clear hcy
    refine wp_region_facts (by kernel_rfl) (fs := [Fact.is (.pointer (some ⟨O, 4, none⟩)), Fact.is (.int .i64 8), Fact.is (.bool false), Fact.is (.int .u8 (x : Int)), Fact.is (.pointer (some ⟨S, 0, none⟩)), Fact.is (.slice (some ⟨gs, 0, none⟩) n c), Fact.is (.int .i64 (j : Int)), Fact.is (.pointer (some ⟨gs, j, none⟩)), Fact.is (.int .u8 y), Fact.is (.bool false), Fact.is (.bool false), Fact.is (.bool false), Fact.is (.pointer (some ⟨O, 4, none⟩)), Fact.is (.int .i64 8), Fact.is (.bool true), Fact.is (.bool true), Fact.is (.pointer (some ⟨O, 4, none⟩)), Fact.is (.int .i64 8), Fact.is (.bool true), Fact.is (.bool true), Fact.is (.bool true), Fact.is (.pointer (some ⟨O, 4, none⟩)), Fact.is (.int .i64 8), Fact.is (.bool false), Fact.is (.bool false), Fact.is (.bool false)]) (by kernel_rfl) (by kernel_rfl) ⟨Fact.is_stable _, Fact.is_stable _, Fact.is_stable _, Fact.is_stable _, Fact.is_stable _, Fact.is_stable _, Fact.is_stable _, Fact.is_stable _, Fact.is_stable _, Fact.is_stable _, Fact.is_stable _, Fact.is_stable _, Fact.is_stable _, Fact.is_stable _, Fact.is_stable _, Fact.is_stable _, Fact.is_stable _, Fact.is_stable _, Fact.is_stable _, Fact.is_stable _, Fact.is_stable _, Fact.is_stable _, Fact.is_stable _, Fact.is_stable _, Fact.is_stable _, Fact.is_stable _, trivial⟩ ?_ ?_
    · exact ⟨by
          intro a W hA hB hd
          have hB := Lib.hid hB
          have p11 : a.eval (.tmp 11) = .pointer (some ⟨O, 0, none⟩) := hA.at 11 (by kernel_rfl)
          exact (step_pure (wanted_none rfl) (.pointer (some ⟨O, 4, none⟩)) (by simp [execOp, go_sem, tm p11]) rfl),
        by
          intro a W hA hB hd
          obtain ⟨q0, -⟩ := hd
          have h42 : a.eval (.tmp 42) = .pointer (some ⟨O, 4, none⟩) := q0
          have hB := Lib.hid hB
          have c0 := (HP13.out.below hB.out HP13.out.lt).cell.2.2.2.2
          exact (step_pure (wanted_none rfl) (.int .i64 8) (by simp [execOp, go_sem, tm h42, c0]) rfl),
        by
          intro a W hA hB hd
          obtain ⟨q0, -⟩ := hd
          have h43 : a.eval (.tmp 43) = .int .i64 8 := q0
          have hB := Lib.hid hB
          exact (step_pure (wanted_none rfl) (.bool false) (by simp [execOp, go_sem, tm h43]) rfl),
        by
          intro a W hA hB hd
          have hB := Lib.hid hB
          have p2 : a.eval (.tmp 2) = .int .u8 (x : Int) := hA.at 2 (by kernel_rfl)
          exact (step_pure (wanted_none rfl) (.int .u8 (x : Int)) (by simp [execOp, go_sem, tm p2]) rfl),
        by
          intro a W hA hB hd
          have hB := Lib.hid hB
          have p8 : a.eval (.tmp 8) = .pointer (some ⟨S, 0, none⟩) := hA.at 8 (by kernel_rfl)
          exact (step_pure (wanted_none rfl) (.pointer (some ⟨S, 0, none⟩)) (by simp [execOp, go_sem, tm p8]) rfl),
        by
          intro a W hA hB hd
          obtain ⟨q0, -⟩ := hd
          have h46 : a.eval (.tmp 46) = .pointer (some ⟨S, 0, none⟩) := q0
          have hB := Lib.hid hB
          have c0 := (HE13.out.below hB.out).p.c0
          exact (step_pure (wanted_none rfl) (.slice (some ⟨gs, 0, none⟩) n c) (by simp [execOp, go_sem, tm h46, c0]) rfl),
        by
          intro a W hA hB hd
          have hB := Lib.hid hB
          have p10 : a.eval (.tmp 10) = .int .i64 (j : Int) := hA.at 10 (by kernel_rfl)
          exact (step_pure (wanted_none rfl) (.int .i64 (j : Int)) (by simp [execOp, go_sem, tm p10]) rfl),
        by
          intro a W hA hB hd
          obtain ⟨q0, q1, -⟩ := hd
          have h47 : a.eval (.tmp 47) = .slice (some ⟨gs, 0, none⟩) n c := q0
          have h48 : a.eval (.tmp 48) = .int .i64 (j : Int) := q1
          have hB := Lib.hid hB
          exact (step_pure (wanted_none rfl) (.pointer (some ⟨gs, j, none⟩)) (by simp [execOp, go_sem, tm h47, tm h48, hj]) rfl),
        by
          intro a W hA hB hd
          obtain ⟨q0, -⟩ := hd
          have h49 : a.eval (.tmp 49) = .pointer (some ⟨gs, j, none⟩) := q0
          have hB := Lib.hid hB
          have c0 := HCY.out W hB.out
          exact (step_pure (wanted_none rfl) (.int .u8 y) (by simp [execOp, go_sem, tm h49, c0]) rfl),
        by
          intro a W hA hB hd
          obtain ⟨q0, q1, -⟩ := hd
          have h45 : a.eval (.tmp 45) = .int .u8 (x : Int) := q0
          have h50 : a.eval (.tmp 50) = .int .u8 y := q1
          have hB := Lib.hid hB
          exact (step_pure (wanted_none rfl) (.bool false) (by simp [execOp, go_sem, tm h45, tm h50, hyx]) rfl),
        by
          intro a W hA hB hd
          obtain ⟨q0, q1, -⟩ := hd
          have h44 : a.eval (.tmp 44) = .bool false := q0
          have h51 : a.eval (.tmp 51) = .bool false := q1
          have hB := Lib.hid hB
          exact (step_pure (wanted_none rfl) (.bool false) (by simp [execOp, go_sem, tm h44, tm h51]) rfl),
        by
          intro a W hA hB hd
          obtain ⟨q0, -⟩ := hd
          have h52 : a.eval (.tmp 52) = .bool false := q0
          have hB := Lib.hid hB
          exact (step_pure (wanted_none rfl) (.bool false) (by simp [execOp, go_sem, tm h52]) rfl),
        by
          intro a W hA hB hd
          obtain ⟨q0, -⟩ := hd
          have h53 : a.eval (.tmp 53) = .bool false := q0
          have hB := Lib.hid hB
          have p11 : a.eval (.tmp 11) = .pointer (some ⟨O, 0, none⟩) := hA.at 11 (by kernel_rfl)
          exact (step_pure ((wanted_guard rfl 53 rfl h53).trans rfl) (.pointer (some ⟨O, 4, none⟩)) (by simp [execOp, go_sem, tm p11]) rfl),
        by
          intro a W hA hB hd
          obtain ⟨q0, q1, -⟩ := hd
          have h54 : a.eval (.tmp 54) = .pointer (some ⟨O, 4, none⟩) := q0
          have h53 : a.eval (.tmp 53) = .bool false := q1
          have hB := Lib.hid hB
          have c0 := (HP13.out.below hB.out HP13.out.lt).cell.2.2.2.2
          exact (step_pure ((wanted_guard rfl 53 rfl h53).trans rfl) (.int .i64 8) (by simp [execOp, go_sem, tm h54, c0]) rfl),
        by
          intro a W hA hB hd
          obtain ⟨q0, q1, -⟩ := hd
          have h55 : a.eval (.tmp 55) = .int .i64 8 := q0
          have h53 : a.eval (.tmp 53) = .bool false := q1
          have hB := Lib.hid hB
          exact (step_pure ((wanted_guard rfl 53 rfl h53).trans rfl) (.bool true) (by simp [execOp, go_sem, tm h55]) rfl),
        by
          intro a W hA hB hd
          obtain ⟨q0, q1, q2, -⟩ := hd
          have h56 : a.eval (.tmp 56) = .bool true := q0
          have h53 : a.eval (.tmp 53) = .bool false := q1
          have hB := Lib.hid hB
          exact (step_pure ((wanted_guard rfl 53 rfl h53).trans rfl) (.bool true) (by simp [execOp, go_sem, tm h56]) rfl),
        by
          intro a W hA hB hd
          obtain ⟨q0, -⟩ := hd
          have h57 : a.eval (.tmp 57) = .bool true := q0
          have hB := Lib.hid hB
          have p11 : a.eval (.tmp 11) = .pointer (some ⟨O, 0, none⟩) := hA.at 11 (by kernel_rfl)
          exact (step_pure ((wanted_guard rfl 57 rfl h57).trans rfl) (.pointer (some ⟨O, 4, none⟩)) (by simp [execOp, go_sem, tm p11]) rfl),
        by
          intro a W hA hB hd
          obtain ⟨q0, q1, -⟩ := hd
          have h58 : a.eval (.tmp 58) = .pointer (some ⟨O, 4, none⟩) := q0
          have h57 : a.eval (.tmp 57) = .bool true := q1
          have hB := Lib.hid hB
          have c0 := (HP13.out.below hB.out HP13.out.lt).cell.2.2.2.2
          exact (step_pure ((wanted_guard rfl 57 rfl h57).trans rfl) (.int .i64 8) (by simp [execOp, go_sem, tm h58, c0]) rfl),
        by
          intro a W hA hB hd
          obtain ⟨q0, q1, -⟩ := hd
          have h59 : a.eval (.tmp 59) = .int .i64 8 := q0
          have h57 : a.eval (.tmp 57) = .bool true := q1
          have hB := Lib.hid hB
          exact (step_pure ((wanted_guard rfl 57 rfl h57).trans rfl) (.bool true) (by simp [execOp, go_sem, tm h59]) rfl),
        by
          intro a W hA hB hd
          obtain ⟨q0, q1, q2, -⟩ := hd
          have h57 : a.eval (.tmp 57) = .bool true := q0
          have h60 : a.eval (.tmp 60) = .bool true := q1
          have h53 : a.eval (.tmp 53) = .bool false := q2
          have hB := Lib.hid hB
          exact (step_pure ((wanted_guard rfl 53 rfl h53).trans rfl) (.bool true) (by simp [execOp, go_sem, tm h57, tm h60]) rfl),
        by
          intro a W hA hB hd
          obtain ⟨q0, q1, q2, -⟩ := hd
          have h61 : a.eval (.tmp 61) = .bool true := q0
          have h57 : a.eval (.tmp 57) = .bool true := q1
          have h53 : a.eval (.tmp 53) = .bool false := q2
          have hB := Lib.hid hB
          exact (step_pure ((wanted_guard rfl 53 rfl h53).trans rfl) (.bool true) (by simp [execOp, go_sem, tm h61]) rfl),
        by
          intro a W hA hB hd
          obtain ⟨q0, -⟩ := hd
          have h62 : a.eval (.tmp 62) = .bool true := q0
          have hB := Lib.hid hB
          have p11 : a.eval (.tmp 11) = .pointer (some ⟨O, 0, none⟩) := hA.at 11 (by kernel_rfl)
          exact (step_pure ((wanted_guard rfl 62 rfl h62).trans rfl) (.pointer (some ⟨O, 4, none⟩)) (by simp [execOp, go_sem, tm p11]) rfl),
        by
          intro a W hA hB hd
          obtain ⟨q0, q1, -⟩ := hd
          have h63 : a.eval (.tmp 63) = .pointer (some ⟨O, 4, none⟩) := q0
          have h62 : a.eval (.tmp 62) = .bool true := q1
          have hB := Lib.hid hB
          have c0 := (HP13.out.below hB.out HP13.out.lt).cell.2.2.2.2
          exact (step_pure ((wanted_guard rfl 62 rfl h62).trans rfl) (.int .i64 8) (by simp [execOp, go_sem, tm h63, c0]) rfl),
        by
          intro a W hA hB hd
          obtain ⟨q0, q1, -⟩ := hd
          have h64 : a.eval (.tmp 64) = .int .i64 8 := q0
          have h62 : a.eval (.tmp 62) = .bool true := q1
          have hB := Lib.hid hB
          exact (step_pure ((wanted_guard rfl 62 rfl h62).trans rfl) (.bool false) (by simp [execOp, go_sem, tm h64]) rfl),
        by
          intro a W hA hB hd
          obtain ⟨q0, q1, q2, -⟩ := hd
          have h62 : a.eval (.tmp 62) = .bool true := q0
          have h65 : a.eval (.tmp 65) = .bool false := q1
          have h53 : a.eval (.tmp 53) = .bool false := q2
          have hB := Lib.hid hB
          exact (step_pure ((wanted_guard rfl 53 rfl h53).trans rfl) (.bool false) (by simp [execOp, go_sem, tm h62, tm h65]) rfl),
        by
          intro a W hA hB hd
          obtain ⟨q0, q1, -⟩ := hd
          have h53 : a.eval (.tmp 53) = .bool false := q0
          have h66 : a.eval (.tmp 66) = .bool false := q1
          have hB := Lib.hid hB
          exact (step_pure (wanted_none rfl) (.bool false) (by simp [execOp, go_sem, tm h53, tm h66]) rfl), trivial⟩
    · intro zx w14 hA hB hE
      have h67 : zx.eval (.tmp 67) = .bool false := hE.2.2.2.2.2.2.2.2.2.2.2.2.2.2.2.2.2.2.2.2.2.2.2.2.2.1
      have hp := hA.puts [42, 43, 44, 45, 46, 47, 48, 49, 50, 51, 52, 53, 54, 55, 56, 57, 58, 59, 60, 61, 62, 63, 64, 65, 66, 67] (by kernel_rfl)
      clear hA hE
      simp only [putAll, h67] at hp
      clear h67
      generalize zx.eval = ev11 at hp
      subst hp
      have HE14 := Lib.hid (HE13.out.below hB)
      clear hB HE13 HP13 HCY
      simp only [Act.put, List.setIfInBounds_toArray, List.set_cons_succ, List.set_cons_zero]
      go_upto_region 13 with fail
      have p0 := HE14.out.p.c0
      have plt := HE14.out.p.lt
      have hb0 : Below w14.heap.size w14 (w14.alloc (.cells #[] 5)) := (Below.refl _ _).alloc (Nat.le_refl _) _
      obtain ⟨v', w15, hr, hrow, hbr⟩ := row0F_append (row0F_new w14 w14.heap.size (Nat.le_refl _)) (HE14.out.s.below hb0) hb0.size (by have := HBL.out; have := HE14.out.s.hl; omega)
      have hb15 : Below w14.heap.size w14 w15 := hb0.trans (hbr.mono hb0.size)
      have hb16 : Below w15.heap.size w15 (w15.alloc (.cells #[.int .u8 (x : Int)] 5)) := (Below.refl _ _).alloc (Nat.le_refl _) _
      have hx1 : Rd (fun b => w15.heap.size ≤ b) (w15.alloc (.cells #[.int .u8 (x : Int)] 5)) .u8 (some ⟨w15.heap.size, 0, none⟩) 1 1 [(x : Int)] := Rd.new w15 .u8 5 [(x : Int)] 1 rfl (by decide)
      obtain ⟨v2, w17, hr2, hrow2, hb17⟩ := rowF_append (rowF_stable _ _ _ _ _ hrow hb16) hx1 (Nat.le_trans hb15.size hb16.size) (by have := HBL.out; omega)
      obtain ⟨g1, q1, rfl, -, -⟩ := hrow
      obtain ⟨g2, q2, rfl, hO17⟩ := rowF_rd hrow2 (by have := HBL.out; rw [List.length_append]; simp; omega)
      have hln : (bs ++ [(x : Int)]).length = bs.length + 1 := by simp
      rw [hln] at hr2 hO17
      clear hln
      have HR1 := Lib.hid hr
      have HR2 := Lib.hid hr2
      have HO17 := Lib.hid hO17
      have HB17 : Hid (Below w.heap.size w w17) := HE14.out.b.trans (((hb15.trans (hb16.mono hb15.size)).trans hb17).mono HE14.out.b.size)
      have HOX : Hid (Oct (bs ++ [(x : Int)])) := HOB.out.append (fun u hu => by rw [List.mem_singleton] at hu; subst hu; have := HX.out; omega)
      clear hr hr2 hO17 hrow2 hb0 hbr hb15 hb16 hx1 hb17 hn0 hnc hct hj hnn
      go_wp2_with (first
        | (at_builtin; have hRR := HR1.out; clear HR1; refine wpList_append_want (o := ⟨some 71, _, _, _, _, _⟩) _ rfl _ _ _ _ rfl _ _ rfl rfl _ _ hRR ?_; clear hRR)
        | (at_builtin; have hRR := HR2.out; clear HR2; refine wpList_append_want (o := ⟨some 74, _, _, _, _, _⟩) _ rfl _ _ _ _ rfl _ _ rfl rfl _ _ hRR ?_; clear hRR)
        | (go_at_call 38; refine (opened_any HO17.out HOX.out).mono ?_; rintro e w18 ⟨hb18, hp⟩; obtain ⟨_, rfl⟩ := hp.resolve_left (fun q => absurd q.1 (by rw [HMR.out]; decide)); rw [HMR.out]; have HB18 : Hid (Below w.heap.size w w18) := HB17.out.trans (hb18.mono HB17.out.size); clear hb18 hp)
        | (go_at_call 37; refine (same9_any (NILI.out _) (NILB.out _) (NILB.out _) (NILI.out _) (NILB.out _) (NILB.out _) (by decide) (by decide)).mono ?_; rintro e w19 ⟨rfl, hb19⟩; rw [show sameO 0 [] [] [] 8 0 [] [] [] 8 = true from rfl]; have HB19 : Hid (Below w.heap.size w w19) := HB18.out.trans (hb19.mono HB18.out.size); clear hb19))
      go_ret
      exact ⟨rfl, HB19.out⟩

end Go.Proofs.Ytdcapmbgnoahpaa.containerDamage
