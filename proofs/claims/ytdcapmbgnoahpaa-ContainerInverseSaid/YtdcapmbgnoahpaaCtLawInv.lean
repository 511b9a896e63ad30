/-
  What was sealed is opened as itself, and what is opened was sealed: the walk.
-/
import Derived.Test.YtdcapmbgnoahpaaCtDamage
namespace Go.Proofs.Ytdcapmbgnoahpaa.containerInverse
open Go Go.RowKit Go.Shelf Go.Sort Go.ChangeShapes Go.WideShapes Go.ChangeAt
open Go.Proofs.Ytdcapmbgnoahpaa

theorem up_smalls (b : Int) (wd n : Nat) (bs : List Int) : Smalls (upS b wd n bs).1 := by
  unfold upS
  split
  · intro x hx; cases hx
  · split
    · intro x hx
      unfold upList elB at hx
      obtain ⟨e, _, rfl⟩ := List.mem_map.1 hx
      unfold elV I64 wrap64
      omega
    · intro x hx; cases hx
theorem un_smalls (bs : List Int) : Smalls (unS bs).1 := by
  unfold unS
  split
  · intro x hx; cases hx
  · split
    · intro x hx; cases hx
    · split
      · intro x hx; cases hx
      · split
        · intro x hx; cases hx
        · split
          · intro x hx; cases hx
          · exact up_smalls _ _ _ _

theorem sameO_self (k : Int) (id data r : List Int) (e : Int) : sameO k id data r e k id data r e = true := by
  unfold sameO sameX
  rw [sameB_true rfl, decide_eq_true rfl, decide_eq_true ⟨⟨rfl, rfl⟩, rfl⟩]; rfl

set_option maxRecDepth 100000 in
set_option maxHeartbeats 4000000 in
theorem walk {k : Nat} {a1 a2 : Option Addr} {n1 t1 n2 t2 : Nat} {id da : List Int} {ab : Option Addr} {nb cb : Nat} {bL : List Int} {w : World} (hk : k < 256) (hI : RdM w .i64 a1 n1 t1 id) (hD : RdM w .u8 a2 n2 t2 da) (hz : Smalls id) (ho : Oct da) (hbR : Rd (fun _ => True) w .u8 ab nb cb bL) (hbO : Oct bL) (hb4 : nb ≤ 400) :
    Calls Try.prog 5 #[.agg #[.int .u8 (k : Int), .slice a1 n1 t1, .slice a2 n2 t2], .slice ab nb cb] w fun e V => e = .returned (.bool true) ∧ Below w.heap.size w V := by
  have HK := Lib.hid hk
  have HI0 := Lib.hid hI
  have HD0 := Lib.hid hD
  have HZ := Lib.hid hz
  have HO := Lib.hid ho
  have HBR := Lib.hid hbR
  have HBO := Lib.hid hbO
  have HB4 : Hid (nb ≤ 1000) := by show _ ≤ _; omega
  have hnb : ¬ (nb : Int) > 400 := by omega
  clear hbR hbO hb4
  have HR1 := Lib.hid (RawB.new w (k : Int) (.slice a1 n1 t1) (.slice a2 n2 t2))
  have hb0 : Below w.heap.size w (w.alloc (.cells #[.int .u8 (k : Int), .slice a1 n1 t1, .slice a2 n2 t2] 54)) := (Below.refl _ _).alloc (Nat.le_refl _) _
  have HB := Lib.hid hb0
  clear hb0 hk hI hD hz ho
  go_enter Try.func5, Try.ntmps5
  go_upto_region 1 with fail
  obtain ⟨B0, hB0⟩ : ∃ B, w.heap.size = B := ⟨_, rfl⟩
  rw [hB0] at HR1 ⊢
  have HZB := Lib.hid hB0
  clear hB0
  generalize w.alloc (.cells #[.int .u8 (k : Int), .slice a1 n1 t1, .slice a2 n2 t2] 54) = V0 at *
  go_wp2_with fail
  refine (examples9_any _).mono ?_
  rintro e w1 ⟨rfl, hb1⟩
  replace HB : Hid (Below w.heap.size w w1) := HB.out.trans (hb1.mono HB.out.size)
  have HR := Lib.hid (HR1.out.below hb1 HR1.out.lt)
  clear hb1 HR1
  obtain ⟨r0, r1, r2⟩ := HR.out.cell
  go_wp2_with fail
  refine (made_any HK.out HI0.out.fit HD0.out.fit (by have h1 := HI0.out.fit; have h2 := HI0.out.top; omega) (by have h1 := HD0.out.fit; have h2 := HD0.out.top; omega) _).mono ?_
  rintro e w2 ⟨rfl, hb2⟩
  replace HB : Hid (Below w.heap.size w w2) := HB.out.trans (hb2.mono HB.out.size)
  clear hb2
  have HI2 := Lib.hid ((HI0.out.below HB.out).part (min n1 40) (Nat.min_le_left _ _) (by omega))
  have HD2 := Lib.hid ((HD0.out.below HB.out).part (min n2 200) (Nat.min_le_left _ _) (by omega))
  have HZ2 : Hid (Smalls (id.take (min n1 40))) := smalls_take HZ.out _
  have HO2 : Hid (Oct (da.take (min n2 200))) := HO.out.take _
  have HL1 : Hid ((id.take (min n1 40)).length ≤ 40) := by show _ ≤ _; rw [List.length_take]; omega
  have HL2 : Hid ((da.take (min n2 200)).length ≤ 200) := by show _ ≤ _; rw [List.length_take]; omega
  clear HR HK HZ HO
  clear hnb
  have HKR : Hid (((1 + k % 9 : Nat) : Int) = kR k) := rfl
  have hkc : 1 + (k : Int) % 9 = kR k := by unfold kR; omega
  obtain ⟨kk, hkk⟩ : ∃ kk, kR k = kk := ⟨_, rfl⟩
  have HKK : Hid (1 ≤ kk ∧ kk ≤ 9) := by rw [← hkk]; exact kR_ok k
  have HSE : Hid (sealE kk (id.take (min n1 40)) (da.take (min n2 200)) = 0) := by rw [← hkk]; exact seal_made HL1.out HL2.out
  rw [HKR.out, hkk]
  clear hkk hkc HKR
  obtain ⟨f1, hf1⟩ : ∃ f, min n1 40 = f := ⟨_, rfl⟩
  obtain ⟨f2, hf2⟩ : ∃ f, min n2 200 = f := ⟨_, rfl⟩
  obtain ⟨iL, hiL⟩ : ∃ l, id.take (min n1 40) = l := ⟨_, rfl⟩
  obtain ⟨dL, hdL⟩ : ∃ l, da.take (min n2 200) = l := ⟨_, rfl⟩
  rw [hiL] at HI2 HZ2 HL1 HSE
  rw [hdL] at HD2 HO2 HL2 HSE
  rw [hf1] at HI2 ⊢
  rw [hf2] at HD2 ⊢
  clear hiL hdL hf1 hf2 HI0 HD0
  go_upto_region 7 with fail
  have hb3 : Below w2.heap.size w2 (w2.alloc (.cells #[.int .i64 kk, .slice a1 f1 t1, .slice a2 f2 t2] 52)) := (Below.refl _ _).alloc (Nat.le_refl _) _
  have HF3 := Lib.hid (FileB.new w2 kk (.slice a1 f1 t1) (.slice a2 f2 t2))
  have HI3 := Lib.hid (HI2.out.below hb3)
  have HD3 := Lib.hid (HD2.out.below hb3)
  replace HB : Hid (Below w.heap.size w (w2.alloc (.cells #[.int .i64 kk, .slice a1 f1 t1, .slice a2 f2 t2] 52))) := HB.out.trans (hb3.mono HB.out.size)
  generalize w2.alloc (.cells #[.int .i64 kk, .slice a1 f1 t1, .slice a2 f2 t2] 52) = w3 at *
  generalize w2.heap.size = F at *
  clear hb3 HI2 HD2 r0 r1 r2
  have q0 := HF3.out.c0
  have q1 := HF3.out.c1
  have q2 := HF3.out.c2
  go_wp2_with fail
  refine (sealed_any (k := kk) HI3.out HD3.out HZ2.out HO2.out).mono ?_
  rintro e w4 ⟨hb4, hp⟩
  obtain ⟨_, gs, n, c, rfl, hS⟩ := hp.resolve_right (fun h => h.1 HSE.out)
  clear hp q0 q1 q2
  have HOB : Hid (Oct (sealS kk iL dL)) := sealS_oct HKK.out HO2.out
  have HOP : Hid (openE (sealS kk iL dL) = 0 ∧ fstK (sealS kk iL dL) = kk ∧ fstI (sealS kk iL dL) = iL ∧ fstD (sealS kk iL dL) = dL) := open_seal HZ2.out HL1.out (by have := HL2.out; omega) HKK.out
  obtain ⟨bs, hbs⟩ : ∃ bs, sealS kk iL dL = bs := ⟨_, rfl⟩
  rw [hbs] at HOB HOP hS
  have HF4 := Lib.hid (HF3.out.below hb4 HF3.out.lt)
  have HI4 := Lib.hid (HI3.out.below hb4)
  have HD4 := Lib.hid (HD3.out.below hb4)
  replace HB : Hid (Below w.heap.size w w4) := HB.out.trans (hb4.mono HB.out.size)
  have HS4 := Lib.hid hS
  have HLN : Hid (iL.length ≤ 100000000) := by have := HL1.out; show _ ≤ _; omega
  clear hb4 hS hbs HI3 HD3 HF3 HZ2 HO2 HL1 HL2 HSE
  go_wp2_with fail
  refine (opened_any (HBR.out.below HB.out) HBO.out).mono ?_
  rintro e w5 ⟨hb5, hp⟩
  have HF5 := Lib.hid (HF4.out.below hb5 HF4.out.lt)
  have HI5 := Lib.hid (HI4.out.below hb5)
  have HD5 := Lib.hid (HD4.out.below hb5)
  have HS5 := Lib.hid (HS4.out.below hb5)
  replace HB : Hid (Below w.heap.size w w5) := HB.out.trans (hb5.mono HB.out.size)
  clear hb5 HI4 HD4 HF4 HS4
  have NILI : Hid (∀ W : World, Rd (fun _ => True) W .i64 none 0 0 []) := fun W => ⟨rfl, Nat.le_refl _, by decide, by decide, fun h => absurd h (by decide)⟩
  have NILB : Hid (∀ W : World, Rd (fun _ => True) W .u8 none 0 0 []) := fun W => ⟨rfl, Nat.le_refl _, by decide, by decide, fun h => absurd h (by decide)⟩
  rcases hp with ⟨hz, x1, y1, z1, x2, y2, z2, rfl, hxI, hxD⟩ | ⟨hz, rfl⟩
  · have HXI := Lib.hid (hxI.mono (K' := fun _ => True) (fun _ _ _ => trivial))
    have HXD := Lib.hid (hxD.mono (K' := fun _ => True) (fun _ _ _ => trivial))
    have hw := open_whole HBO.out hz
    obtain ⟨hc1, hc2, hc3, _, _, _⟩ := first_canon HBO.out hw.1
    have HSX : Hid (sealE (fstK bL) (fstI bL) (fstD bL) = 0) := by show _ = _; unfold sealE; rw [if_neg (fun h => h hc1), if_neg (by omega), if_neg (by omega)]
    have HSB : Hid (sealS (fstK bL) (fstI bL) (fstD bL) = bL) := hw.2.2.symm
    have HSM : Hid (Smalls (fstI bL)) := un_smalls _
    have HOD : Hid (Oct (fstD bL)) := (HBO.out.drop _).take _
    clear hz hxI hxD hw hc1 hc2 hc3
    generalize fstI bL = iB at *
    generalize fstD bL = dB at *
    generalize fstK bL = K at *
    go_upto_region 8 with fail
    have hsz : (w5.alloc (.cells #[.slice (some ⟨gs, 0, none⟩) n c, .int .i64 0] 57)).heap.size = w5.heap.size + 1 := World.size_alloc ..
    have hb6 : Below w5.heap.size w5 (w5.alloc (.cells #[.slice (some ⟨gs, 0, none⟩) n c, .int .i64 0] 57)) := (Below.refl _ _).alloc (Nat.le_refl _) _
    have hb7 : Below (w5.alloc (.cells #[.slice (some ⟨gs, 0, none⟩) n c, .int .i64 0] 57)).heap.size (w5.alloc (.cells #[.slice (some ⟨gs, 0, none⟩) n c, .int .i64 0] 57)) ((w5.alloc (.cells #[.slice (some ⟨gs, 0, none⟩) n c, .int .i64 0] 57)).alloc (.cells #[.int .i64 K, .slice x1 y1 z1, .slice x2 y2 z2, .slice none 0 0, .int .i64 0] 65)) := (Below.refl _ _).alloc (Nat.le_refl _) _
    have hb : Below w5.heap.size w5 ((w5.alloc (.cells #[.slice (some ⟨gs, 0, none⟩) n c, .int .i64 0] 57)).alloc (.cells #[.int .i64 K, .slice x1 y1 z1, .slice x2 y2 z2, .slice none 0 0, .int .i64 0] 65)) := hb6.trans (hb7.mono (by omega))
    have hps := Pair.new w5 57 (.slice (some ⟨gs, 0, none⟩) n c) (.int .i64 0)
    have HP7 := Lib.hid (OpB.new (w5.alloc (.cells #[.slice (some ⟨gs, 0, none⟩) n c, .int .i64 0] 57)) (.int .i64 K) (.slice x1 y1 z1) (.slice x2 y2 z2) (.slice none 0 0) (.int .i64 0))
    rw [hsz] at HP7
    have HS7 : Hid (Sld w gs n c w5.heap.size bs ((w5.alloc (.cells #[.slice (some ⟨gs, 0, none⟩) n c, .int .i64 0] 57)).alloc (.cells #[.int .i64 K, .slice x1 y1 z1, .slice x2 y2 z2, .slice none 0 0, .int .i64 0] 65))) := ⟨HB.out.trans (hb.mono HB.out.size), (HS5.out.below hb).mono fun _ _ _ => trivial, hps.below hb7 hps.lt⟩
    have HF7 := Lib.hid (HF5.out.below hb HF5.out.lt)
    have HI7 := Lib.hid (HI5.out.below hb)
    have HD7 := Lib.hid (HD5.out.below hb)
    have HX7 := Lib.hid (HXI.out.below hb)
    have HY7 := Lib.hid (HXD.out.below hb)
    clear HXI HXD
    clear hsz hb6 hb7 hb hps HS5 HF5 HI5 HD5 HB
    generalize ((w5.alloc (.cells #[.slice (some ⟨gs, 0, none⟩) n c, .int .i64 0] 57)).alloc (.cells #[.int .i64 K, .slice x1 y1 z1, .slice x2 y2 z2, .slice none 0 0, .int .i64 0] 65)) = w7 at *
    generalize w5.heap.size + 1 = O at *
    generalize w5.heap.size = S at *
    refine wp_region_facts (by kernel_rfl) (fs := [Fact.is (.pointer (some ⟨S, 1, none⟩)), Fact.is (.int .i64 0), Fact.is (.bool false), Fact.is (.bool false), Fact.is (.pointer (some ⟨S, 0, none⟩)), Fact.is (.slice (some ⟨gs, 0, none⟩) n c), OpnF kk iL dL, Fact.is (.agg #[.int .i64 kk, .slice a1 f1 t1, .slice a2 f2 t2]), Fact.is (.agg #[.int .i64 kk, .slice a1 f1 t1, .slice a2 f2 t2, .slice none 0 0, .int .i64 0]), Fact.is (.bool true), Fact.is (.bool false), Fact.is (.bool false)]) (by kernel_rfl) (by kernel_rfl) ⟨Fact.is_stable _, Fact.is_stable _, Fact.is_stable _, Fact.is_stable _, Fact.is_stable _, Fact.is_stable _, opnF_stable _ _ _, Fact.is_stable _, Fact.is_stable _, Fact.is_stable _, Fact.is_stable _, Fact.is_stable _, trivial⟩ ?_ ?_
    · exact ⟨by
          intro a W hA hB hd
          have hB := Lib.hid hB
          have p7 : a.eval (.tmp 7) = .pointer (some ⟨S, 0, none⟩) := hA.at 7 (by kernel_rfl)
          exact (step_pure (wanted_none rfl) (.pointer (some ⟨S, 1, none⟩)) (by simp [execOp, go_sem, tm p7]) rfl),
        by
          intro a W hA hB hd
          obtain ⟨q0, -⟩ := hd
          have h23 : a.eval (.tmp 23) = .pointer (some ⟨S, 1, none⟩) := q0
          have hB := Lib.hid hB
          have c0 := (HS7.out.below hB.out).p.c1
          exact (step_pure (wanted_none rfl) (.int .i64 0) (by simp [execOp, go_sem, tm h23, c0]) rfl),
        by
          intro a W hA hB hd
          obtain ⟨q0, -⟩ := hd
          have h24 : a.eval (.tmp 24) = .int .i64 0 := q0
          have hB := Lib.hid hB
          exact (step_pure (wanted_none rfl) (.bool false) (by simp [execOp, go_sem, tm h24]) rfl),
        by
          intro a W hA hB hd
          obtain ⟨q0, -⟩ := hd
          have h25 : a.eval (.tmp 25) = .bool false := q0
          have hB := Lib.hid hB
          exact (step_pure (wanted_none rfl) (.bool false) (by simp [execOp, go_sem, tm h25]) rfl),
        by
          intro a W hA hB hd
          obtain ⟨q0, -⟩ := hd
          have h26 : a.eval (.tmp 26) = .bool false := q0
          have hB := Lib.hid hB
          have p7 : a.eval (.tmp 7) = .pointer (some ⟨S, 0, none⟩) := hA.at 7 (by kernel_rfl)
          exact (step_pure ((wanted_guard rfl 26 rfl h26).trans rfl) (.pointer (some ⟨S, 0, none⟩)) (by simp [execOp, go_sem, tm p7]) rfl),
        by
          intro a W hA hB hd
          obtain ⟨q0, q1, -⟩ := hd
          have h27 : a.eval (.tmp 27) = .pointer (some ⟨S, 0, none⟩) := q0
          have h26 : a.eval (.tmp 26) = .bool false := q1
          have hB := Lib.hid hB
          have c0 := (HS7.out.below hB.out).p.c0
          exact (step_pure ((wanted_guard rfl 26 rfl h26).trans rfl) (.slice (some ⟨gs, 0, none⟩) n c) (by simp [execOp, go_sem, tm h27, c0]) rfl),
        by
          intro a W hA hB hd
          obtain ⟨q0, q1, q2, -⟩ := hd
          have h28 : a.eval (.tmp 28) = .slice (some ⟨gs, 0, none⟩) n c := q0
          have h26 : a.eval (.tmp 26) = .bool false := q1
          have hB := Lib.hid hB
          exact (step_calls ((wanted_guard rfl 26 rfl h26).trans rfl) rfl (vals := #[.slice (some ⟨gs, 0, none⟩) n c]) (by simp [h28]) (enters_of Try.func38 (by kernel_rfl) rfl) ((opened_any (HS7.out.below hB.out).s HOB.out).mono fun e w' ⟨hb, hp⟩ => by
            obtain ⟨_, a1, n1, c1, a2, n2, c2, he, hI, hD⟩ := hp.resolve_right (fun c => c.1 HOP.out.1)
            rw [HOP.out.2.1] at he
            rw [HOP.out.2.2.1] at hI
            rw [HOP.out.2.2.2] at hD
            exact ⟨_, he, ⟨a1, n1, c1, a2, n2, c2, rfl, hI.mono fun _ _ _ => trivial, hD.mono fun _ _ _ => trivial⟩, hb⟩)),
        by
          intro a W hA hB hd
          obtain ⟨q0, -⟩ := hd
          have h26 : a.eval (.tmp 26) = .bool false := q0
          have hB := Lib.hid hB
          have p6 : a.eval (.tmp 6) = .pointer (some ⟨F, 0, none⟩) := hA.at 6 (by kernel_rfl)
          have c0 := (HF7.out.below hB.out HF7.out.lt).c0
          have c1 := (HF7.out.below hB.out HF7.out.lt).c1
          have c2 := (HF7.out.below hB.out HF7.out.lt).c2
          exact (step_pure ((wanted_guard rfl 26 rfl h26).trans rfl) (.agg #[.int .i64 kk, .slice a1 f1 t1, .slice a2 f2 t2]) (by simp [execOp, go_sem, tm p6, c0, c1, c2]) rfl),
        by
          intro a W hA hB hd
          obtain ⟨q0, q1, -⟩ := hd
          have h30 : a.eval (.tmp 30) = .agg #[.int .i64 kk, .slice a1 f1 t1, .slice a2 f2 t2] := q0
          have h26 : a.eval (.tmp 26) = .bool false := q1
          have hB := Lib.hid hB
          exact (step_pure ((wanted_guard rfl 26 rfl h26).trans rfl) (.agg #[.int .i64 kk, .slice a1 f1 t1, .slice a2 f2 t2, .slice none 0 0, .int .i64 0]) (by simp [execOp, go_sem, tm h30]) rfl),
        by
          intro a W hA hB hd
          obtain ⟨q0, q1, q2, q3, -⟩ := hd
          have h29 : (OpnF kk iL dL) (a.eval (.tmp 29)) W := q0
          have h31 : a.eval (.tmp 31) = .agg #[.int .i64 kk, .slice a1 f1 t1, .slice a2 f2 t2, .slice none 0 0, .int .i64 0] := q1
          have h26 : a.eval (.tmp 26) = .bool false := q3
          have hB := Lib.hid hB
          obtain ⟨xa, xn, xc, ya, yn, yc, eb, rb, rd⟩ := h29
          exact (step_calls ((wanted_guard rfl 26 rfl h26).trans rfl) rfl (vals := #[.agg #[.int .i64 kk, .slice xa xn xc, .slice ya yn yc, .slice none 0 0, .int .i64 0], .agg #[.int .i64 kk, .slice a1 f1 t1, .slice a2 f2 t2, .slice none 0 0, .int .i64 0]]) (by simp [eb, h31]) (enters_of Try.func37 (by kernel_rfl) rfl) ((same9_any rb rd (NILB.out W) (HI7.out.below hB.out) (HD7.out.below hB.out) (NILB.out W) (by rw [rb.hl]; exact HLN.out) (by rw [HI7.out.hl]; exact HLN.out)).mono fun e w' ⟨he, hb⟩ => ⟨_, he, by rw [sameO_self]; rfl, hb⟩)),
        by
          intro a W hA hB hd
          obtain ⟨q0, q1, -⟩ := hd
          have h32 : a.eval (.tmp 32) = .bool true := q0
          have h26 : a.eval (.tmp 26) = .bool false := q1
          have hB := Lib.hid hB
          exact (step_pure ((wanted_guard rfl 26 rfl h26).trans rfl) (.bool false) (by simp [execOp, go_sem, tm h32]) rfl),
        by
          intro a W hA hB hd
          obtain ⟨q0, q1, -⟩ := hd
          have h26 : a.eval (.tmp 26) = .bool false := q0
          have h33 : a.eval (.tmp 33) = .bool false := q1
          have hB := Lib.hid hB
          exact (step_pure (wanted_none rfl) (.bool false) (by simp [execOp, go_sem, tm h26, tm h33]) rfl), trivial⟩
    · intro zx w8 hA hB hE
      have h34 : zx.eval (.tmp 34) = .bool false := hE.2.2.2.2.2.2.2.2.2.2.2.1
      have hp := hA.puts [23, 24, 25, 26, 27, 28, 29, 30, 31, 32, 33, 34] (by kernel_rfl)
      clear hA hE
      simp only [putAll, h34] at hp
      clear h34
      generalize zx.eval = ev8 at hp
      subst hp
      have HB8 : Hid (Below w.heap.size w w8) := HS7.out.b.trans (hB.mono HS7.out.b.size)
      have HP8 := Lib.hid (HP7.out.below hB HP7.out.lt)
      have HXI := Lib.hid (HX7.out.below hB)
      have HXD := Lib.hid (HY7.out.below hB)
      clear hB HX7 HY7 HS7 HF7 HI7 HD7 HP7
      simp only [Act.put, List.setIfInBounds_toArray, List.set_cons_succ, List.set_cons_zero]
      obtain ⟨o0, o1, o2, o3, o4⟩ := HP8.out.cell
      go_wp2_with fail
      refine (sealed_any (k := K) HXI.out HXD.out HSM.out HOD.out).mono ?_
      rintro e w9 ⟨hb9, hp⟩
      obtain ⟨_, gt, nt, ct, rfl, hS⟩ := hp.resolve_right (fun h => h.1 HSX.out)
      rw [HSB.out] at hS
      have HB9 : Hid (Below w.heap.size w w9) := HB8.out.trans (hb9.mono HB8.out.size)
      have HT9 := Lib.hid hS
      clear hp hb9 hS o0 o1 o2 o3 o4
      go_upto_region 13 with fail
      have hb10 : Below w9.heap.size w9 (w9.alloc (.cells #[.slice (some ⟨gt, 0, none⟩) nt ct, .int .i64 0] 57)) := (Below.refl _ _).alloc (Nat.le_refl _) _
      have HP10 := Lib.hid (Pair.new w9 57 (.slice (some ⟨gt, 0, none⟩) nt ct) (.int .i64 0))
      have HT10 := Lib.hid (HT9.out.below hb10)
      have HB10 : Hid (Below w.heap.size w (w9.alloc (.cells #[.slice (some ⟨gt, 0, none⟩) nt ct, .int .i64 0] 57))) := HB9.out.trans (hb10.mono HB9.out.size)
      generalize w9.alloc (.cells #[.slice (some ⟨gt, 0, none⟩) nt ct, .int .i64 0] 57) = w10 at *
      generalize w9.heap.size = V at *
      have q0 := HP10.out.c0
      have q1 := HP10.out.c1
      clear hb10 HT9 HB9
      go_wp2_with fail
      refine (same_any HT10.out (HBR.out.below HB10.out)).mono ?_
      rintro e w11 ⟨rfl, hb11⟩
      rw [sameB_true rfl]
      have HB11 : Hid (Below w.heap.size w w11) := HB10.out.trans (hb11.mono HB10.out.size)
      clear hb11
      go_wp2
      go_ret
      exact ⟨rfl, HB11.out⟩
  · rcases open_of bL with h | h | h
    · exact absurd h hz
    · rw [h]
      clear h hz
      go_upto_region 8 with fail
      have hsz : (w5.alloc (.cells #[.slice (some ⟨gs, 0, none⟩) n c, .int .i64 0] 57)).heap.size = w5.heap.size + 1 := World.size_alloc ..
      have hb6 : Below w5.heap.size w5 (w5.alloc (.cells #[.slice (some ⟨gs, 0, none⟩) n c, .int .i64 0] 57)) := (Below.refl _ _).alloc (Nat.le_refl _) _
      have hb7 : Below (w5.alloc (.cells #[.slice (some ⟨gs, 0, none⟩) n c, .int .i64 0] 57)).heap.size (w5.alloc (.cells #[.slice (some ⟨gs, 0, none⟩) n c, .int .i64 0] 57)) ((w5.alloc (.cells #[.slice (some ⟨gs, 0, none⟩) n c, .int .i64 0] 57)).alloc (.cells #[.int .i64 0, .slice none 0 0, .slice none 0 0, .slice none 0 0, .int .i64 7] 65)) := (Below.refl _ _).alloc (Nat.le_refl _) _
      have hb : Below w5.heap.size w5 ((w5.alloc (.cells #[.slice (some ⟨gs, 0, none⟩) n c, .int .i64 0] 57)).alloc (.cells #[.int .i64 0, .slice none 0 0, .slice none 0 0, .slice none 0 0, .int .i64 7] 65)) := hb6.trans (hb7.mono (by omega))
      have hps := Pair.new w5 57 (.slice (some ⟨gs, 0, none⟩) n c) (.int .i64 0)
      have HP7 := Lib.hid (OpB.new (w5.alloc (.cells #[.slice (some ⟨gs, 0, none⟩) n c, .int .i64 0] 57)) (.int .i64 0) (.slice none 0 0) (.slice none 0 0) (.slice none 0 0) (.int .i64 7))
      rw [hsz] at HP7
      have HS7 : Hid (Sld w gs n c w5.heap.size bs ((w5.alloc (.cells #[.slice (some ⟨gs, 0, none⟩) n c, .int .i64 0] 57)).alloc (.cells #[.int .i64 0, .slice none 0 0, .slice none 0 0, .slice none 0 0, .int .i64 7] 65))) := ⟨HB.out.trans (hb.mono HB.out.size), (HS5.out.below hb).mono fun _ _ _ => trivial, hps.below hb7 hps.lt⟩
      have HF7 := Lib.hid (HF5.out.below hb HF5.out.lt)
      have HI7 := Lib.hid (HI5.out.below hb)
      have HD7 := Lib.hid (HD5.out.below hb)
      clear hsz hb6 hb7 hb hps HS5 HF5 HI5 HD5 HB
      generalize ((w5.alloc (.cells #[.slice (some ⟨gs, 0, none⟩) n c, .int .i64 0] 57)).alloc (.cells #[.int .i64 0, .slice none 0 0, .slice none 0 0, .slice none 0 0, .int .i64 7] 65)) = w7 at *
      generalize w5.heap.size + 1 = O at *
      generalize w5.heap.size = S at *
      refine wp_region_facts (by kernel_rfl) (fs := [Fact.is (.pointer (some ⟨S, 1, none⟩)), Fact.is (.int .i64 0), Fact.is (.bool false), Fact.is (.bool false), Fact.is (.pointer (some ⟨S, 0, none⟩)), Fact.is (.slice (some ⟨gs, 0, none⟩) n c), OpnF kk iL dL, Fact.is (.agg #[.int .i64 kk, .slice a1 f1 t1, .slice a2 f2 t2]), Fact.is (.agg #[.int .i64 kk, .slice a1 f1 t1, .slice a2 f2 t2, .slice none 0 0, .int .i64 0]), Fact.is (.bool true), Fact.is (.bool false), Fact.is (.bool false)]) (by kernel_rfl) (by kernel_rfl) ⟨Fact.is_stable _, Fact.is_stable _, Fact.is_stable _, Fact.is_stable _, Fact.is_stable _, Fact.is_stable _, opnF_stable _ _ _, Fact.is_stable _, Fact.is_stable _, Fact.is_stable _, Fact.is_stable _, Fact.is_stable _, trivial⟩ ?_ ?_
      · exact ⟨by
            intro a W hA hB hd
            have hB := Lib.hid hB
            have p7 : a.eval (.tmp 7) = .pointer (some ⟨S, 0, none⟩) := hA.at 7 (by kernel_rfl)
            exact (step_pure (wanted_none rfl) (.pointer (some ⟨S, 1, none⟩)) (by simp [execOp, go_sem, tm p7]) rfl),
          by
            intro a W hA hB hd
            obtain ⟨q0, -⟩ := hd
            have h23 : a.eval (.tmp 23) = .pointer (some ⟨S, 1, none⟩) := q0
            have hB := Lib.hid hB
            have c0 := (HS7.out.below hB.out).p.c1
            exact (step_pure (wanted_none rfl) (.int .i64 0) (by simp [execOp, go_sem, tm h23, c0]) rfl),
          by
            intro a W hA hB hd
            obtain ⟨q0, -⟩ := hd
            have h24 : a.eval (.tmp 24) = .int .i64 0 := q0
            have hB := Lib.hid hB
            exact (step_pure (wanted_none rfl) (.bool false) (by simp [execOp, go_sem, tm h24]) rfl),
          by
            intro a W hA hB hd
            obtain ⟨q0, -⟩ := hd
            have h25 : a.eval (.tmp 25) = .bool false := q0
            have hB := Lib.hid hB
            exact (step_pure (wanted_none rfl) (.bool false) (by simp [execOp, go_sem, tm h25]) rfl),
          by
            intro a W hA hB hd
            obtain ⟨q0, -⟩ := hd
            have h26 : a.eval (.tmp 26) = .bool false := q0
            have hB := Lib.hid hB
            have p7 : a.eval (.tmp 7) = .pointer (some ⟨S, 0, none⟩) := hA.at 7 (by kernel_rfl)
            exact (step_pure ((wanted_guard rfl 26 rfl h26).trans rfl) (.pointer (some ⟨S, 0, none⟩)) (by simp [execOp, go_sem, tm p7]) rfl),
          by
            intro a W hA hB hd
            obtain ⟨q0, q1, -⟩ := hd
            have h27 : a.eval (.tmp 27) = .pointer (some ⟨S, 0, none⟩) := q0
            have h26 : a.eval (.tmp 26) = .bool false := q1
            have hB := Lib.hid hB
            have c0 := (HS7.out.below hB.out).p.c0
            exact (step_pure ((wanted_guard rfl 26 rfl h26).trans rfl) (.slice (some ⟨gs, 0, none⟩) n c) (by simp [execOp, go_sem, tm h27, c0]) rfl),
          by
            intro a W hA hB hd
            obtain ⟨q0, q1, q2, -⟩ := hd
            have h28 : a.eval (.tmp 28) = .slice (some ⟨gs, 0, none⟩) n c := q0
            have h26 : a.eval (.tmp 26) = .bool false := q1
            have hB := Lib.hid hB
            exact (step_calls ((wanted_guard rfl 26 rfl h26).trans rfl) rfl (vals := #[.slice (some ⟨gs, 0, none⟩) n c]) (by simp [h28]) (enters_of Try.func38 (by kernel_rfl) rfl) ((opened_any (HS7.out.below hB.out).s HOB.out).mono fun e w' ⟨hb, hp⟩ => by
              obtain ⟨_, a1, n1, c1, a2, n2, c2, he, hI, hD⟩ := hp.resolve_right (fun c => c.1 HOP.out.1)
              rw [HOP.out.2.1] at he
              rw [HOP.out.2.2.1] at hI
              rw [HOP.out.2.2.2] at hD
              exact ⟨_, he, ⟨a1, n1, c1, a2, n2, c2, rfl, hI.mono fun _ _ _ => trivial, hD.mono fun _ _ _ => trivial⟩, hb⟩)),
          by
            intro a W hA hB hd
            obtain ⟨q0, -⟩ := hd
            have h26 : a.eval (.tmp 26) = .bool false := q0
            have hB := Lib.hid hB
            have p6 : a.eval (.tmp 6) = .pointer (some ⟨F, 0, none⟩) := hA.at 6 (by kernel_rfl)
            have c0 := (HF7.out.below hB.out HF7.out.lt).c0
            have c1 := (HF7.out.below hB.out HF7.out.lt).c1
            have c2 := (HF7.out.below hB.out HF7.out.lt).c2
            exact (step_pure ((wanted_guard rfl 26 rfl h26).trans rfl) (.agg #[.int .i64 kk, .slice a1 f1 t1, .slice a2 f2 t2]) (by simp [execOp, go_sem, tm p6, c0, c1, c2]) rfl),
          by
            intro a W hA hB hd
            obtain ⟨q0, q1, -⟩ := hd
            have h30 : a.eval (.tmp 30) = .agg #[.int .i64 kk, .slice a1 f1 t1, .slice a2 f2 t2] := q0
            have h26 : a.eval (.tmp 26) = .bool false := q1
            have hB := Lib.hid hB
            exact (step_pure ((wanted_guard rfl 26 rfl h26).trans rfl) (.agg #[.int .i64 kk, .slice a1 f1 t1, .slice a2 f2 t2, .slice none 0 0, .int .i64 0]) (by simp [execOp, go_sem, tm h30]) rfl),
          by
            intro a W hA hB hd
            obtain ⟨q0, q1, q2, q3, -⟩ := hd
            have h29 : (OpnF kk iL dL) (a.eval (.tmp 29)) W := q0
            have h31 : a.eval (.tmp 31) = .agg #[.int .i64 kk, .slice a1 f1 t1, .slice a2 f2 t2, .slice none 0 0, .int .i64 0] := q1
            have h26 : a.eval (.tmp 26) = .bool false := q3
            have hB := Lib.hid hB
            obtain ⟨xa, xn, xc, ya, yn, yc, eb, rb, rd⟩ := h29
            exact (step_calls ((wanted_guard rfl 26 rfl h26).trans rfl) rfl (vals := #[.agg #[.int .i64 kk, .slice xa xn xc, .slice ya yn yc, .slice none 0 0, .int .i64 0], .agg #[.int .i64 kk, .slice a1 f1 t1, .slice a2 f2 t2, .slice none 0 0, .int .i64 0]]) (by simp [eb, h31]) (enters_of Try.func37 (by kernel_rfl) rfl) ((same9_any rb rd (NILB.out W) (HI7.out.below hB.out) (HD7.out.below hB.out) (NILB.out W) (by rw [rb.hl]; exact HLN.out) (by rw [HI7.out.hl]; exact HLN.out)).mono fun e w' ⟨he, hb⟩ => ⟨_, he, by rw [sameO_self]; rfl, hb⟩)),
          by
            intro a W hA hB hd
            obtain ⟨q0, q1, -⟩ := hd
            have h32 : a.eval (.tmp 32) = .bool true := q0
            have h26 : a.eval (.tmp 26) = .bool false := q1
            have hB := Lib.hid hB
            exact (step_pure ((wanted_guard rfl 26 rfl h26).trans rfl) (.bool false) (by simp [execOp, go_sem, tm h32]) rfl),
          by
            intro a W hA hB hd
            obtain ⟨q0, q1, -⟩ := hd
            have h26 : a.eval (.tmp 26) = .bool false := q0
            have h33 : a.eval (.tmp 33) = .bool false := q1
            have hB := Lib.hid hB
            exact (step_pure (wanted_none rfl) (.bool false) (by simp [execOp, go_sem, tm h26, tm h33]) rfl), trivial⟩
      · intro zx w8 hA hB hE
        have h34 : zx.eval (.tmp 34) = .bool false := hE.2.2.2.2.2.2.2.2.2.2.2.1
        have hp := hA.puts [23, 24, 25, 26, 27, 28, 29, 30, 31, 32, 33, 34] (by kernel_rfl)
        clear hA hE
        simp only [putAll, h34] at hp
        clear h34
        generalize zx.eval = ev8 at hp
        subst hp
        have HB8 : Hid (Below w.heap.size w w8) := HS7.out.b.trans (hB.mono HS7.out.b.size)
        have HP8 := Lib.hid (HP7.out.below hB HP7.out.lt)
        clear hB HS7 HF7 HI7 HD7 HP7
        simp only [Act.put, List.setIfInBounds_toArray, List.set_cons_succ, List.set_cons_zero]
        obtain ⟨o0, o1, o2, o3, o4⟩ := HP8.out.cell
        go_wp2
        go_ret
        exact ⟨rfl, HB8.out⟩
    · rw [h]
      clear h hz
      go_upto_region 8 with fail
      have hsz : (w5.alloc (.cells #[.slice (some ⟨gs, 0, none⟩) n c, .int .i64 0] 57)).heap.size = w5.heap.size + 1 := World.size_alloc ..
      have hb6 : Below w5.heap.size w5 (w5.alloc (.cells #[.slice (some ⟨gs, 0, none⟩) n c, .int .i64 0] 57)) := (Below.refl _ _).alloc (Nat.le_refl _) _
      have hb7 : Below (w5.alloc (.cells #[.slice (some ⟨gs, 0, none⟩) n c, .int .i64 0] 57)).heap.size (w5.alloc (.cells #[.slice (some ⟨gs, 0, none⟩) n c, .int .i64 0] 57)) ((w5.alloc (.cells #[.slice (some ⟨gs, 0, none⟩) n c, .int .i64 0] 57)).alloc (.cells #[.int .i64 0, .slice none 0 0, .slice none 0 0, .slice none 0 0, .int .i64 8] 65)) := (Below.refl _ _).alloc (Nat.le_refl _) _
      have hb : Below w5.heap.size w5 ((w5.alloc (.cells #[.slice (some ⟨gs, 0, none⟩) n c, .int .i64 0] 57)).alloc (.cells #[.int .i64 0, .slice none 0 0, .slice none 0 0, .slice none 0 0, .int .i64 8] 65)) := hb6.trans (hb7.mono (by omega))
      have hps := Pair.new w5 57 (.slice (some ⟨gs, 0, none⟩) n c) (.int .i64 0)
      have HP7 := Lib.hid (OpB.new (w5.alloc (.cells #[.slice (some ⟨gs, 0, none⟩) n c, .int .i64 0] 57)) (.int .i64 0) (.slice none 0 0) (.slice none 0 0) (.slice none 0 0) (.int .i64 8))
      rw [hsz] at HP7
      have HS7 : Hid (Sld w gs n c w5.heap.size bs ((w5.alloc (.cells #[.slice (some ⟨gs, 0, none⟩) n c, .int .i64 0] 57)).alloc (.cells #[.int .i64 0, .slice none 0 0, .slice none 0 0, .slice none 0 0, .int .i64 8] 65))) := ⟨HB.out.trans (hb.mono HB.out.size), (HS5.out.below hb).mono fun _ _ _ => trivial, hps.below hb7 hps.lt⟩
      have HF7 := Lib.hid (HF5.out.below hb HF5.out.lt)
      have HI7 := Lib.hid (HI5.out.below hb)
      have HD7 := Lib.hid (HD5.out.below hb)
      clear hsz hb6 hb7 hb hps HS5 HF5 HI5 HD5 HB
      generalize ((w5.alloc (.cells #[.slice (some ⟨gs, 0, none⟩) n c, .int .i64 0] 57)).alloc (.cells #[.int .i64 0, .slice none 0 0, .slice none 0 0, .slice none 0 0, .int .i64 8] 65)) = w7 at *
      generalize w5.heap.size + 1 = O at *
      generalize w5.heap.size = S at *
      refine wp_region_facts (by kernel_rfl) (fs := [Fact.is (.pointer (some ⟨S, 1, none⟩)), Fact.is (.int .i64 0), Fact.is (.bool false), Fact.is (.bool false), Fact.is (.pointer (some ⟨S, 0, none⟩)), Fact.is (.slice (some ⟨gs, 0, none⟩) n c), OpnF kk iL dL, Fact.is (.agg #[.int .i64 kk, .slice a1 f1 t1, .slice a2 f2 t2]), Fact.is (.agg #[.int .i64 kk, .slice a1 f1 t1, .slice a2 f2 t2, .slice none 0 0, .int .i64 0]), Fact.is (.bool true), Fact.is (.bool false), Fact.is (.bool false)]) (by kernel_rfl) (by kernel_rfl) ⟨Fact.is_stable _, Fact.is_stable _, Fact.is_stable _, Fact.is_stable _, Fact.is_stable _, Fact.is_stable _, opnF_stable _ _ _, Fact.is_stable _, Fact.is_stable _, Fact.is_stable _, Fact.is_stable _, Fact.is_stable _, trivial⟩ ?_ ?_
      · exact ⟨by
            intro a W hA hB hd
            have hB := Lib.hid hB
            have p7 : a.eval (.tmp 7) = .pointer (some ⟨S, 0, none⟩) := hA.at 7 (by kernel_rfl)
            exact (step_pure (wanted_none rfl) (.pointer (some ⟨S, 1, none⟩)) (by simp [execOp, go_sem, tm p7]) rfl),
          by
            intro a W hA hB hd
            obtain ⟨q0, -⟩ := hd
            have h23 : a.eval (.tmp 23) = .pointer (some ⟨S, 1, none⟩) := q0
            have hB := Lib.hid hB
            have c0 := (HS7.out.below hB.out).p.c1
            exact (step_pure (wanted_none rfl) (.int .i64 0) (by simp [execOp, go_sem, tm h23, c0]) rfl),
          by
            intro a W hA hB hd
            obtain ⟨q0, -⟩ := hd
            have h24 : a.eval (.tmp 24) = .int .i64 0 := q0
            have hB := Lib.hid hB
            exact (step_pure (wanted_none rfl) (.bool false) (by simp [execOp, go_sem, tm h24]) rfl),
          by
            intro a W hA hB hd
            obtain ⟨q0, -⟩ := hd
            have h25 : a.eval (.tmp 25) = .bool false := q0
            have hB := Lib.hid hB
            exact (step_pure (wanted_none rfl) (.bool false) (by simp [execOp, go_sem, tm h25]) rfl),
          by
            intro a W hA hB hd
            obtain ⟨q0, -⟩ := hd
            have h26 : a.eval (.tmp 26) = .bool false := q0
            have hB := Lib.hid hB
            have p7 : a.eval (.tmp 7) = .pointer (some ⟨S, 0, none⟩) := hA.at 7 (by kernel_rfl)
            exact (step_pure ((wanted_guard rfl 26 rfl h26).trans rfl) (.pointer (some ⟨S, 0, none⟩)) (by simp [execOp, go_sem, tm p7]) rfl),
          by
            intro a W hA hB hd
            obtain ⟨q0, q1, -⟩ := hd
            have h27 : a.eval (.tmp 27) = .pointer (some ⟨S, 0, none⟩) := q0
            have h26 : a.eval (.tmp 26) = .bool false := q1
            have hB := Lib.hid hB
            have c0 := (HS7.out.below hB.out).p.c0
            exact (step_pure ((wanted_guard rfl 26 rfl h26).trans rfl) (.slice (some ⟨gs, 0, none⟩) n c) (by simp [execOp, go_sem, tm h27, c0]) rfl),
          by
            intro a W hA hB hd
            obtain ⟨q0, q1, q2, -⟩ := hd
            have h28 : a.eval (.tmp 28) = .slice (some ⟨gs, 0, none⟩) n c := q0
            have h26 : a.eval (.tmp 26) = .bool false := q1
            have hB := Lib.hid hB
            exact (step_calls ((wanted_guard rfl 26 rfl h26).trans rfl) rfl (vals := #[.slice (some ⟨gs, 0, none⟩) n c]) (by simp [h28]) (enters_of Try.func38 (by kernel_rfl) rfl) ((opened_any (HS7.out.below hB.out).s HOB.out).mono fun e w' ⟨hb, hp⟩ => by
              obtain ⟨_, a1, n1, c1, a2, n2, c2, he, hI, hD⟩ := hp.resolve_right (fun c => c.1 HOP.out.1)
              rw [HOP.out.2.1] at he
              rw [HOP.out.2.2.1] at hI
              rw [HOP.out.2.2.2] at hD
              exact ⟨_, he, ⟨a1, n1, c1, a2, n2, c2, rfl, hI.mono fun _ _ _ => trivial, hD.mono fun _ _ _ => trivial⟩, hb⟩)),
          by
            intro a W hA hB hd
            obtain ⟨q0, -⟩ := hd
            have h26 : a.eval (.tmp 26) = .bool false := q0
            have hB := Lib.hid hB
            have p6 : a.eval (.tmp 6) = .pointer (some ⟨F, 0, none⟩) := hA.at 6 (by kernel_rfl)
            have c0 := (HF7.out.below hB.out HF7.out.lt).c0
            have c1 := (HF7.out.below hB.out HF7.out.lt).c1
            have c2 := (HF7.out.below hB.out HF7.out.lt).c2
            exact (step_pure ((wanted_guard rfl 26 rfl h26).trans rfl) (.agg #[.int .i64 kk, .slice a1 f1 t1, .slice a2 f2 t2]) (by simp [execOp, go_sem, tm p6, c0, c1, c2]) rfl),
          by
            intro a W hA hB hd
            obtain ⟨q0, q1, -⟩ := hd
            have h30 : a.eval (.tmp 30) = .agg #[.int .i64 kk, .slice a1 f1 t1, .slice a2 f2 t2] := q0
            have h26 : a.eval (.tmp 26) = .bool false := q1
            have hB := Lib.hid hB
            exact (step_pure ((wanted_guard rfl 26 rfl h26).trans rfl) (.agg #[.int .i64 kk, .slice a1 f1 t1, .slice a2 f2 t2, .slice none 0 0, .int .i64 0]) (by simp [execOp, go_sem, tm h30]) rfl),
          by
            intro a W hA hB hd
            obtain ⟨q0, q1, q2, q3, -⟩ := hd
            have h29 : (OpnF kk iL dL) (a.eval (.tmp 29)) W := q0
            have h31 : a.eval (.tmp 31) = .agg #[.int .i64 kk, .slice a1 f1 t1, .slice a2 f2 t2, .slice none 0 0, .int .i64 0] := q1
            have h26 : a.eval (.tmp 26) = .bool false := q3
            have hB := Lib.hid hB
            obtain ⟨xa, xn, xc, ya, yn, yc, eb, rb, rd⟩ := h29
            exact (step_calls ((wanted_guard rfl 26 rfl h26).trans rfl) rfl (vals := #[.agg #[.int .i64 kk, .slice xa xn xc, .slice ya yn yc, .slice none 0 0, .int .i64 0], .agg #[.int .i64 kk, .slice a1 f1 t1, .slice a2 f2 t2, .slice none 0 0, .int .i64 0]]) (by simp [eb, h31]) (enters_of Try.func37 (by kernel_rfl) rfl) ((same9_any rb rd (NILB.out W) (HI7.out.below hB.out) (HD7.out.below hB.out) (NILB.out W) (by rw [rb.hl]; exact HLN.out) (by rw [HI7.out.hl]; exact HLN.out)).mono fun e w' ⟨he, hb⟩ => ⟨_, he, by rw [sameO_self]; rfl, hb⟩)),
          by
            intro a W hA hB hd
            obtain ⟨q0, q1, -⟩ := hd
            have h32 : a.eval (.tmp 32) = .bool true := q0
            have h26 : a.eval (.tmp 26) = .bool false := q1
            have hB := Lib.hid hB
            exact (step_pure ((wanted_guard rfl 26 rfl h26).trans rfl) (.bool false) (by simp [execOp, go_sem, tm h32]) rfl),
          by
            intro a W hA hB hd
            obtain ⟨q0, q1, -⟩ := hd
            have h26 : a.eval (.tmp 26) = .bool false := q0
            have h33 : a.eval (.tmp 33) = .bool false := q1
            have hB := Lib.hid hB
            exact (step_pure (wanted_none rfl) (.bool false) (by simp [execOp, go_sem, tm h26, tm h33]) rfl), trivial⟩
      · intro zx w8 hA hB hE
        have h34 : zx.eval (.tmp 34) = .bool false := hE.2.2.2.2.2.2.2.2.2.2.2.1
        have hp := hA.puts [23, 24, 25, 26, 27, 28, 29, 30, 31, 32, 33, 34] (by kernel_rfl)
        clear hA hE
        simp only [putAll, h34] at hp
        clear h34
        generalize zx.eval = ev8 at hp
        subst hp
        have HB8 : Hid (Below w.heap.size w w8) := HS7.out.b.trans (hB.mono HS7.out.b.size)
        have HP8 := Lib.hid (HP7.out.below hB HP7.out.lt)
        clear hB HS7 HF7 HI7 HD7 HP7
        simp only [Act.put, List.setIfInBounds_toArray, List.set_cons_succ, List.set_cons_zero]
        obtain ⟨o0, o1, o2, o3, o4⟩ := HP8.out.cell
        go_wp2
        go_ret
        exact ⟨rfl, HB8.out⟩

end Go.Proofs.Ytdcapmbgnoahpaa.containerInverse
