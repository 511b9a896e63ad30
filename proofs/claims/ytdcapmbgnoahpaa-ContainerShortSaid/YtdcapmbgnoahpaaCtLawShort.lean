/-
  Every proper beginning of a sealed form is cut short: the walk.
-/
import Derived.Test.YtdcapmbgnoahpaaCtRaw
namespace Go.Proofs.Ytdcapmbgnoahpaa.containerShort
open Go Go.RowKit Go.Shelf Go.Sort Go.ChangeShapes Go.WideShapes Go.ChangeAt
open Go.Proofs.Ytdcapmbgnoahpaa

set_option maxRecDepth 100000 in
set_option maxHeartbeats 4000000 in
theorem walk {k : Nat} {a1 a2 : Option Addr} {n1 c1 n2 c2 : Nat} {id da : List Int} {m : Nat} {w : World} (hk : k < 256) (hI : RdM w .i64 a1 n1 c1 id) (hD : RdM w .u8 a2 n2 c2 da) (hz : Smalls id) (ho : Oct da) (hm : m < 65536) :
    Calls Try.prog 6 #[.agg #[.int .u8 (k : Int), .slice a1 n1 c1, .slice a2 n2 c2], .int .u16 (m : Int)] w fun e V => e = .returned (.bool true) ∧ Below w.heap.size w V := by
  have HK := Lib.hid hk
  have HI0 := Lib.hid hI
  have HD0 := Lib.hid hD
  have HZ := Lib.hid hz
  have HO := Lib.hid ho
  have HM := Lib.hid hm
  clear hm
  have HR1 := Lib.hid (RawB.new w (k : Int) (.slice a1 n1 c1) (.slice a2 n2 c2))
  have hb0 : Below w.heap.size w (w.alloc (.cells #[.int .u8 (k : Int), .slice a1 n1 c1, .slice a2 n2 c2] 54)) := (Below.refl _ _).alloc (Nat.le_refl _) _
  have HB := Lib.hid hb0
  clear hb0 hk hI hD hz ho
  go_enter Try.func6, Try.ntmps6
  go_upto_region 1 with fail
  obtain ⟨B0, hB0⟩ : ∃ B, w.heap.size = B := ⟨_, rfl⟩
  rw [hB0] at HR1 ⊢
  have HZB := Lib.hid hB0
  clear hB0
  generalize w.alloc (.cells #[.int .u8 (k : Int), .slice a1 n1 c1, .slice a2 n2 c2] 54) = V0 at *
  go_wp2_with fail
  refine (examples9_any _).mono ?_
  rintro e w1 ⟨rfl, hb1⟩
  replace HB : Hid (Below w.heap.size w w1) := HB.out.trans (hb1.mono HB.out.size)
  have HR := Lib.hid (HR1.out.below hb1 HR1.out.lt)
  clear hb1 HR1
  obtain ⟨r0, r1, r2⟩ := HR.out.cell
  go_wp2_with fail
  refine (made_any HK.out HI0.out.fit HD0.out.fit (by have h1 := HI0.out.fit; have h2 := HI0.out.top; omega) (by have h1 := HD0.out.fit; have h2 := HD0.out.top; omega) _).mono ?_
  rintro e w2 ⟨rfl, hb2⟩
  replace HB : Hid (Below w.heap.size w w2) := HB.out.trans (hb2.mono HB.out.size)
  clear hb2
  have HI2 := Lib.hid ((HI0.out.below HB.out).part (min n1 40) (Nat.min_le_left _ _) (by omega))
  have HD2 := Lib.hid ((HD0.out.below HB.out).part (min n2 200) (Nat.min_le_left _ _) (by omega))
  have HZ2 : Hid (Smalls (id.take (min n1 40))) := smalls_take HZ.out _
  have HO2 : Hid (Oct (da.take (min n2 200))) := HO.out.take _
  have HL1 : Hid ((id.take (min n1 40)).length ≤ 40) := by show _ ≤ _; rw [List.length_take]; omega
  have HL2 : Hid ((da.take (min n2 200)).length ≤ 200) := by show _ ≤ _; rw [List.length_take]; omega
  clear HR HK HZ HO
  go_wp2_with fail
  refine (sealed_any (k := kR k) HI2.out HD2.out HZ2.out HO2.out).mono ?_
  rintro e w3 ⟨hb3, hp⟩
  obtain ⟨_, gs, n, c, rfl, hS⟩ := hp.resolve_right (fun h => h.1 (seal_made HL1.out HL2.out))
  clear hp
  have HOB : Hid (Oct (sealS (kR k) (id.take (min n1 40)) (da.take (min n2 200)))) := sealS_oct (kR_ok k) HO2.out
  have HSH : Hid (∀ j, j < (sealS (kR k) (id.take (min n1 40)) (da.take (min n2 200))).length → openE ((sealS (kR k) (id.take (min n1 40)) (da.take (min n2 200))).take j) = 7) := fun j hj => by
    have h := first_short HZ2.out HL1.out (by have := HL2.out; omega) (kR_ok k) j hj
    unfold openE; rw [if_pos (by rw [h]; decide), h]
  obtain ⟨bs, hbs⟩ : ∃ bs, sealS (kR k) (id.take (min n1 40)) (da.take (min n2 200)) = bs := ⟨_, rfl⟩
  have HN8 : Hid (8 ≤ bs.length) := by
    show _ ≤ _
    rw [← hbs, sealS_len]; omega
  have HBL : Hid (bs.length ≤ 1000) := by
    show _ ≤ _
    rw [← hbs]
    exact seal_len_le HL1.out HL2.out HZ2.out
  rw [hbs] at HOB HSH hS
  have HBS := Lib.hid hbs
  clear hbs
  have hn0 : ¬ (n : Int) = 0 := by have h1 := hS.hl; have h2 := HN8.out; omega
  have hnc := hS.fit
  have hct := hS.top
  have HB3 : Hid (Below w.heap.size w w3) := HB.out.trans (hb3.mono HB.out.size)
  have HS3 := Lib.hid hS
  clear hb3 hS HB
  clear HI2 HD2 HZ2 HO2 HL1 HL2
  go_upto_region 5 with fail
  have hb5 : Below w3.heap.size w3 (w3.alloc (.cells #[.slice (some ⟨gs, 0, none⟩) n c, .int .i64 0] 57)) := (Below.refl _ _).alloc (Nat.le_refl _) _
  have hE5 : Sld w gs n c w3.heap.size bs (w3.alloc (.cells #[.slice (some ⟨gs, 0, none⟩) n c, .int .i64 0] 57)) :=
    ⟨HB3.out.trans (hb5.mono HB3.out.size), (HS3.out.below hb5).mono fun _ _ _ => trivial, Pair.new w3 _ _ _⟩
  generalize w3.alloc (.cells #[.slice (some ⟨gs, 0, none⟩) n c, .int .i64 0] 57) = w5 at *
  generalize w3.heap.size = S at *
  have HE5 := Lib.hid hE5
  clear hb5 hE5 HB3 HS3
  have p0 := HE5.out.p.c0
  have p1 := HE5.out.p.c1
  go_upto_region 7 with fail
  have NILI : Hid (∀ W : World, Rd (fun _ => True) W .i64 none 0 0 []) := fun W => ⟨rfl, Nat.le_refl _, by decide, by decide, fun h => absurd h (by decide)⟩
  have NILB : Hid (∀ W : World, Rd (fun _ => True) W .u8 none 0 0 []) := fun W => ⟨rfl, Nat.le_refl _, by decide, by decide, fun h => absurd h (by decide)⟩
  have hwm : IntKind.i64.wrap (m : Int) = (m : Int) := by have := HM.out; rw [IntKind.wrap_i64]; omega
  obtain ⟨j, hmod, hj⟩ : ∃ j : Nat, (m : Int).tmod (n : Int) = (j : Int) ∧ j < n := ⟨m % n, by rw [Int.tmod_eq_emod_of_nonneg (by omega)]; omega, Nat.mod_lt _ (by omega)⟩
  have hjc : j ≤ c := by omega
  have hnn : ¬ n = 0 := by omega
  have HJN : Hid (j < bs.length) := by have := HE5.out.s.hl; show _ < _; omega
  refine wp_region_facts (by kernel_rfl) (fs := [Fact.is (.pointer (some ⟨S, 0, none⟩)), Fact.is (.slice (some ⟨gs, 0, none⟩) n c), Fact.is (.int .u16 (m : Int)), Fact.is (.int .i64 (m : Int)), Fact.is (.pointer (some ⟨S, 0, none⟩)), Fact.is (.slice (some ⟨gs, 0, none⟩) n c), Fact.is (.int .i64 (n : Int)), Fact.is (.int .i64 (j : Int)), Fact.is (.slice (some ⟨gs, 0, none⟩) j c), Fact.is (.agg #[.int .i64 0, .slice none 0 0, .slice none 0 0, .slice none 0 0, .int .i64 7]), Fact.is (.agg #[.int .i64 0, .slice none 0 0, .slice none 0 0, .slice none 0 0, .int .i64 7]), Fact.is (.bool true), Fact.is (.bool true), Fact.is (.bool true), Fact.is (.bool true), Fact.is (.bool true)]) (by kernel_rfl) (by kernel_rfl) ⟨Fact.is_stable _, Fact.is_stable _, Fact.is_stable _, Fact.is_stable _, Fact.is_stable _, Fact.is_stable _, Fact.is_stable _, Fact.is_stable _, Fact.is_stable _, Fact.is_stable _, Fact.is_stable _, Fact.is_stable _, Fact.is_stable _, Fact.is_stable _, Fact.is_stable _, Fact.is_stable _, trivial⟩ ?_ ?_
  · exact ⟨by
        intro a W hA hB hd
        have hB := Lib.hid hB
        have p6 : a.eval (.tmp 6) = .pointer (some ⟨S, 0, none⟩) := hA.at 6 (by kernel_rfl)
        exact (step_pure (wanted_none rfl) (.pointer (some ⟨S, 0, none⟩)) (by simp [execOp, go_sem, tm p6]) rfl),
      by
        intro a W hA hB hd
        obtain ⟨q0, -⟩ := hd
        have h22 : a.eval (.tmp 22) = .pointer (some ⟨S, 0, none⟩) := q0
        have hB := Lib.hid hB
        have c0 := (HE5.out.below hB.out).p.c0
        exact (step_pure (wanted_none rfl) (.slice (some ⟨gs, 0, none⟩) n c) (by simp [execOp, go_sem, tm h22, c0]) rfl),
      by
        intro a W hA hB hd
        have hB := Lib.hid hB
        have p1 : a.eval (.tmp 1) = .int .u16 (m : Int) := hA.at 1 (by kernel_rfl)
        exact (step_pure (wanted_none rfl) (.int .u16 (m : Int)) (by simp [execOp, go_sem, tm p1]) rfl),
      by
        intro a W hA hB hd
        obtain ⟨q0, -⟩ := hd
        have h24 : a.eval (.tmp 24) = .int .u16 (m : Int) := q0
        have hB := Lib.hid hB
        exact (step_pure (wanted_none rfl) (.int .i64 (m : Int)) (by simp [execOp, go_sem, tm h24, hwm]) rfl),
      by
        intro a W hA hB hd
        have hB := Lib.hid hB
        have p6 : a.eval (.tmp 6) = .pointer (some ⟨S, 0, none⟩) := hA.at 6 (by kernel_rfl)
        exact (step_pure (wanted_none rfl) (.pointer (some ⟨S, 0, none⟩)) (by simp [execOp, go_sem, tm p6]) rfl),
      by
        intro a W hA hB hd
        obtain ⟨q0, -⟩ := hd
        have h26 : a.eval (.tmp 26) = .pointer (some ⟨S, 0, none⟩) := q0
        have hB := Lib.hid hB
        have c0 := (HE5.out.below hB.out).p.c0
        exact (step_pure (wanted_none rfl) (.slice (some ⟨gs, 0, none⟩) n c) (by simp [execOp, go_sem, tm h26, c0]) rfl),
      by
        intro a W hA hB hd
        obtain ⟨q0, -⟩ := hd
        have h27 : a.eval (.tmp 27) = .slice (some ⟨gs, 0, none⟩) n c := q0
        have hB := Lib.hid hB
        exact (step_pure (wanted_none rfl) (.int .i64 (n : Int)) (by simp [go_sem, tm h27]) rfl),
      by
        intro a W hA hB hd
        obtain ⟨q0, q1, -⟩ := hd
        have h25 : a.eval (.tmp 25) = .int .i64 (m : Int) := q0
        have h28 : a.eval (.tmp 28) = .int .i64 (n : Int) := q1
        have hB := Lib.hid hB
        exact (step_pure (wanted_none rfl) (.int .i64 (j : Int)) (by simp [execOp, go_sem, tm h25, tm h28, hnn, hmod]) rfl),
      by
        intro a W hA hB hd
        obtain ⟨q0, q1, -⟩ := hd
        have h23 : a.eval (.tmp 23) = .slice (some ⟨gs, 0, none⟩) n c := q0
        have h29 : a.eval (.tmp 29) = .int .i64 (j : Int) := q1
        have hB := Lib.hid hB
        exact (step_pure (wanted_none rfl) (.slice (some ⟨gs, 0, none⟩) j c) (by simp [execOp, go_sem, tm h23, tm h29, hjc]) rfl),
      by
        intro a W hA hB hd
        obtain ⟨q0, -⟩ := hd
        have h30 : a.eval (.tmp 30) = .slice (some ⟨gs, 0, none⟩) j c := q0
        have hB := Lib.hid hB
        exact (step_calls (wanted_none rfl) rfl (vals := #[.slice (some ⟨gs, 0, none⟩) j c]) (by simp [h30]) (enters_of Try.func38 (by kernel_rfl) rfl) ((opened_any ((HE5.out.below hB.out).s.first9 j (Nat.le_of_lt hj)) (HOB.out.take j)).mono fun e w' ⟨hb, hp⟩ => ⟨_, (hp.resolve_left (fun q => absurd q.1 (by rw [HSH.out j HJN.out]; decide))).2, by rw [HSH.out j HJN.out]; rfl, hb⟩)),
      by
        intro a W hA hB hd
        have hB := Lib.hid hB
        exact (step_pure (wanted_none rfl) (.agg #[.int .i64 0, .slice none 0 0, .slice none 0 0, .slice none 0 0, .int .i64 7]) (by simp [execOp, go_sem]) rfl),
      by
        intro a W hA hB hd
        obtain ⟨q0, q1, q2, -⟩ := hd
        have h31 : a.eval (.tmp 31) = .agg #[.int .i64 0, .slice none 0 0, .slice none 0 0, .slice none 0 0, .int .i64 7] := q0
        have h32 : a.eval (.tmp 32) = .agg #[.int .i64 0, .slice none 0 0, .slice none 0 0, .slice none 0 0, .int .i64 7] := q1
        have hB := Lib.hid hB
        exact (step_calls (wanted_none rfl) rfl (vals := #[.agg #[.int .i64 0, .slice none 0 0, .slice none 0 0, .slice none 0 0, .int .i64 7], .agg #[.int .i64 0, .slice none 0 0, .slice none 0 0, .slice none 0 0, .int .i64 7]]) (by simp [h31, h32]) (enters_of Try.func37 (by kernel_rfl) rfl) ((same9_any (NILI.out W) (NILB.out W) (NILB.out W) (NILI.out W) (NILB.out W) (NILB.out W) (by decide) (by decide)).mono fun e w' ⟨he, hb⟩ => ⟨_, he, rfl, hb⟩)),
      by
        intro a W hA hB hd
        obtain ⟨q0, q1, -⟩ := hd
        have h33 : a.eval (.tmp 33) = .bool true := q0
        have hB := Lib.hid hB
        exact (step_pure (wanted_none rfl) (.bool true) (by simp [execOp, go_sem, tm h33]) rfl),
      by
        intro a W hA hB hd
        obtain ⟨q0, -⟩ := hd
        have h34 : a.eval (.tmp 34) = .bool true := q0
        have hB := Lib.hid hB
        have p5 : a.eval (.tmp 5) = .bool true := hA.at 5 (by kernel_rfl)
        exact (step_pure ((wanted_guard rfl 34 rfl h34).trans rfl) (.bool true) (by simp [execOp, go_sem, tm p5]) rfl),
      by
        intro a W hA hB hd
        obtain ⟨q0, q1, -⟩ := hd
        have h34 : a.eval (.tmp 34) = .bool true := q0
        have h35 : a.eval (.tmp 35) = .bool true := q1
        have hB := Lib.hid hB
        exact (step_pure (wanted_none rfl) (.bool true) (by simp [execOp, go_sem, tm h34, tm h35]) rfl),
      by
        intro a W hA hB hd
        obtain ⟨q0, q1, -⟩ := hd
        have h36 : a.eval (.tmp 36) = .bool true := q0
        have h34 : a.eval (.tmp 34) = .bool true := q1
        have hB := Lib.hid hB
        exact (step_pure (wanted_none rfl) (.bool true) (by simp [execOp, go_sem, tm h36]) rfl), trivial⟩
  · intro zx w6 hA hB hE
    have h4 : zx.eval (.tmp 4) = .bool true := hE.2.2.2.2.2.2.2.2.2.2.2.2.2.2.2.1
    have HBX : Hid (Below w.heap.size w w6) := HE5.out.b.trans (hB.mono HE5.out.b.size)
    have hp := hA.puts [22, 23, 24, 25, 26, 27, 28, 29, 30, 31, 32, 33, 34, 35, 36, 4] (by kernel_rfl)
    clear hA hE
    simp only [putAll, h4] at hp
    clear h4 hB
    generalize zx.eval = ev8 at hp
    subst hp
    simp [Act.put]
    go_wp2
    go_ret
    exact ⟨rfl, HBX.out⟩

end Go.Proofs.Ytdcapmbgnoahpaa.containerShort
