/-
  The reference's packed form.
-/
import Derived.Test.YtmbcppkdnoccbaaPkRef3
import Derived.Test.YtmbcppkdnoccbaaPkTrMath
import Derived.BigRegion
import Derived.Deep.DeepCutAuto
namespace Go.Proofs.Ytmbcppkdnoccbaa
open Go.RowKit Go.ChangeShapes Go.WideShapes Go.ChangeAt

theorem Try.infoB4 : (Try.prog.info? 5).map (fun i => (i.zero, i.size, i.bytes)) = some (some (.int .u8 0), 1, 1) := by kernel_rfl

theorem varintR_nil (u : Nat) (hu2 : u < 18446744073709551616) (W : World) :
    Calls Try.prog 62 #[.slice none 0 0, .int .u64 u] W fun e W' => Makes W e W' (varN u) :=
  varintR_any (fun _ => True) none 0 0 [] u hu2 W Rd.empty (by decide)

theorem own_below {A B : World} {base : Nat} {e : TypeId} {g n cap : Nat} {xs : List Value} (h : A.ownsRow base e 1 (.slice (some ⟨g, 0, none⟩) n cap) n xs) (hb : Below A.heap.size A B) : B.ownsRow base e 1 (.slice (some ⟨g, 0, none⟩) n cap) n xs :=
  (Kept.of_below hb).row h (row_lt h)

theorem gB_same (bl : List Int) (k size : Nat) (hk : k < bl.length) (hs : bl.length ≤ 8 * size) (h0 : bl[k]?.getD 0 = 0) : gB bl (k + 1) size = gB bl k size := by
  have hlt : k / 8 < (gB bl k size).length := by rw [gB_length]; omega
  rw [gB_step bl k size hk hs, h0, Int.zero_mul, Int.add_zero, List.getElem?_eq_getElem hlt, Option.getD_some, List.set_getElem_self]

set_option maxRecDepth 100000 in
set_option maxHeartbeats 4000000 in
theorem formR_some {K : Nat → Prop} {b off len cap : Nat} {zs : List Int} (hz : Smalls zs) (h0 : 0 < len) (hl : len ≤ 4096) {W : World} (hR : Rd K W .i64 (some ⟨b, off, none⟩) len cap zs) :
    Calls Try.prog 83 #[.slice (some ⟨b, off, none⟩) len cap] W fun e W' => Makes W e W' (packS zs) := by
  obtain ⟨i0, hi, hz0, hz1, hz2⟩ := info_parts Try.infoB4
  have HL : Hid (len = zs.length) := hR.hl
  have HR := Lib.hid hR
  have hne : zs ≠ [] := fun e => by have := hR.hl; rw [e] at this; simp at this; omega
  have HNE := Lib.hid hne
  have HZ := Lib.hid hz
  have hfit := hR.fit
  have htop := hR.top
  have hwk : IntKind.u64.wrap (len : Int) = len := by rw [IntKind.wrap_u64]; omega
  have hln : ((len : Int) == 0) = false := by rw [beq_eq_false_iff_ne]; omega
  have hmI := hz _ (min_mem zs hne)
  have hzu := zz_u64 hmI
  obtain ⟨zm, hzm⟩ := Int.eq_ofNat_of_zero_le hzu.1
  have hzb : zm < 18446744073709551616 := by have := hzu.2; rw [hzm] at this; omega
  have HWD : Hid (widthS zs = Lib.bitLen (diffS (minS zs) (maxS zs)).toNat) := rfl
  have hdu := diff_u64 (minS zs) (maxS zs)
  have hdt := diff_text (minS zs) (maxS zs)
  obtain ⟨D, hD⟩ := Int.eq_ofNat_of_zero_le hdu.1
  have hDb : D < 18446744073709551616 := by have := hdu.2; rw [hD] at this; omega
  rw [hD] at hdt
  have HWD2 : Hid (Lib.bitLen D = widthS zs) := by show _ = _; rw [HWD.out, hD, Int.toNat_natCast]
  have hw64 := width_le zs
  have HZG : Hid (∀ V, Calls Try.prog 103 #[.int .i64 (minS zs)] V fun e w' => e = .returned (.int .u64 zm) ∧ V = w') := fun V => by
    have := zigzagR_any (minS zs) hmI V
    rwa [hzm] at this
  have HWW : Hid (∀ V, Calls Try.prog 102 #[.int .u64 D] V fun e w' => e = .returned (.int .i64 (widthS zs : Nat)) ∧ V = w') := fun V => by
    have := widthR_any D hDb V
    rwa [HWD2.out] at this
  have HHD : Hid (headS zs = varN len ++ varN zm ++ [(widthS zs : Int)]) := by
    show _ = _
    unfold headS
    rw [if_neg hne, ← HL.out, hzm, Int.toNat_natCast]
  have HFR : Hid (∀ V, Rd K V .i64 (some ⟨b, off, none⟩) len cap zs → Calls Try.prog 101 #[.slice (some ⟨b, off, none⟩) len cap] V fun e W' => e = .returned (.agg #[.int .i64 (minS zs), .int .i64 (maxS zs)]) ∧ Below V.heap.size V W') := fun V h => frameR_any h0 h
  have HBL : Hid (bitsS zs = allBits (widthS zs) (diffs (minS zs) zs)) := by
    show _ = _
    unfold bitsS wideS baseS
    rw [if_neg hne, if_neg hne]
  have HSP : Hid (spaceS zs = (len * widthS zs + 7) / 8) := by
    show _ = _
    unfold spaceS wideS
    rw [if_neg hne, ← HL.out]
  clear hR hne hzu hzm hdu hD hz HWD HWD2
  have hwd8 : IntKind.u8.wrap (widthS zs : Int) = (widthS zs : Nat) := by simp [IntKind.wrap, IntKind.bits, IntKind.signed]; omega
  generalize minS zs = mn at *
  generalize maxS zs = mx at *
  generalize widthS zs = wd at *
  go_enter Try.func83, Try.ntmps83
  go_wp2_with fail
  refine (varintR_nil len (by omega) W).mono ?_
  rintro e w1 ⟨g1, c1, rfl, hc1, hrow1, hb1⟩
  obtain ⟨n1, hn1⟩ : ∃ n, (varN len).length = n := ⟨_, rfl⟩
  have hvl1 := var_len (u := len) (by omega)
  rw [hn1] at hc1 hrow1 hvl1 ⊢
  have HB1 := Lib.hid hb1
  have HROW1 := Lib.hid hrow1
  have HN1 := Lib.hid hn1
  clear hb1 hrow1 hn1
  go_wp2_with fail
  refine (HFR.out _ (HR.out.below HB1.out)).mono ?_
  rintro e w2 ⟨rfl, hb2⟩
  have HROW2 := Lib.hid (own_below HROW1.out hb2)
  have HB2 : Hid (Below W.heap.size W w2) := HB1.out.trans (hb2.mono HB1.out.size)
  clear hb2 HROW1 HB1
  go_upto_region 5 with fail
  have hbV : Below w2.heap.size w2 (w2.alloc (.cells #[.int .i64 mn, .int .i64 mx] 143)) := (Below.refl _ _).alloc (Nat.le_refl _) _
  have hP := Pair.new w2 143 (.int .i64 mn) (.int .i64 mx)
  have HROWV := Lib.hid (own_below HROW2.out hbV)
  have HBV : Hid (Below W.heap.size W (w2.alloc (.cells #[.int .i64 mn, .int .i64 mx] 143))) := HB2.out.trans (hbV.mono HB2.out.size)
  have HFL : Hid (W.heap.size ≤ w2.heap.size) := HB2.out.size
  obtain ⟨F, hF⟩ : ∃ F, w2.heap.size = F := ⟨_, rfl⟩
  rw [hF] at hP HFL ⊢
  clear hbV hF HROW2 HB2
  generalize w2.alloc (.cells #[.int .i64 mn, .int .i64 mx] 143) = V at *
  have HP := Lib.hid hP
  have p0 := hP.c0
  have p1 := hP.c1
  clear hP
  go_wp2_with fail
  refine (HWW.out V).mono ?_
  rintro e V' ⟨rfl, rfl⟩
  go_wp2_with fail
  refine (HZG.out V).mono ?_
  rintro e V' ⟨rfl, rfl⟩
  go_wp2_with fail
  refine (varintR_any (fun b => W.heap.size ≤ b) (some ⟨g1, 0, none⟩) n1 c1 (varN len) zm hzb V (Rd.of_row HN1.out.symm hc1 (by omega) HROWV.out) (by omega)).mono ?_
  rintro e w3 ⟨g3, c3, rfl, hc3, hrow3, hb3⟩
  obtain ⟨n3, hn3⟩ : ∃ n, (varN len ++ varN zm).length = n := ⟨_, rfl⟩
  have hvl3 : n3 ≤ 20 := by rw [← hn3, List.length_append, HN1.out]; have := var_len hzb; omega
  rw [hn3] at hrow3 hc3 ⊢
  obtain ⟨g4, c4, w4, hr4, hrow4, hg4, hc4, _⟩ := run_append_one (P := Try.prog) w3 V.heap.size 25 25 5 i0 _ 1 .u8 Try.underlying25 hi hz0 hz1 hz2 rfl g3 n3 c3 _ hrow3 (wd : Int) 5 (by unfold maxLen; omega) (by omega) hb3.size
  have HB4 : Hid (Below V.heap.size V w4) := (hb3.alloc hb3.size _).grown hg4 (hb3.alloc hb3.size _).size (fun r e => by cases e; exact row_base hrow3)
  have HROW4 : Hid (w4.ownsRow V.heap.size 5 1 (.slice (some ⟨g4, 0, none⟩) (n3 + 1) c4) (n3 + 1) ((headS zs).map (Value.int .u8))) := by
    show w4.ownsRow _ _ _ _ _ _
    rw [HHD.out, List.map_append]
    exact hrow4
  have HHL : Hid ((headS zs).length = n3 + 1) := by show _ = _; rw [HHD.out, List.length_append, hn3]; rfl
  have HR4 := Lib.hid hr4
  clear hr4 hrow4 hg4 hc4 hb3 hrow3 hc3 hn3 HROWV HN1 hvl1 hc1 hwk hdt hDb hzb HFR HWW HZG HHD p0 p1
  obtain ⟨H, hH⟩ : ∃ H, n3 + 1 = H := ⟨_, rfl⟩
  have hH21 : H ≤ 21 := by omega
  obtain ⟨T, hT⟩ : ∃ T : Nat, len * wd = T := ⟨_, rfl⟩
  have hTI : (len : Int) * (wd : Int) = (T : Int) := by rw [← hT, Int.natCast_mul]
  have hTb : T ≤ 262144 := by rw [← hT]; exact Nat.mul_le_mul hl hw64
  obtain ⟨size, hsz⟩ : ∃ z, (T + 7) / 8 = z := ⟨_, rfl⟩
  have hszI : ((T : Int) + 7) / 8 = (size : Int) := by omega
  have hszb : size ≤ 32769 := by omega
  have HSP2 : Hid (spaceS zs = size) := by show _ = _; rw [HSP.out, hT, hsz]
  have HHT := Lib.hid hT
  have HHS := Lib.hid hsz
  rw [hH] at HROW4 HHL HR4
  clear hT hsz HSP
  go_wp2_with (at_builtin; refine wpList_append_want (o := ⟨some 38, _, _, _, _, _⟩) _ rfl _ _ _ _ rfl _ _ rfl rfl _ _ HR4.out ?_)
  clear hH hvl3 HR4
  go_loopw [3, 7] (fun s3 i wr => ∃ j g c : Nat, j ≤ size ∧ i = .int .i64 j ∧ s3 = .slice (some ⟨g, 0, none⟩) (H + j) c ∧ Hid (wr.ownsRow V.heap.size 5 1 (.slice (some ⟨g, 0, none⟩) (H + j) c) (H + j) ((headS zs ++ List.replicate j 0).map (Value.int .u8))) ∧ Hid (Below V.heap.size V wr)) (fun _ i _ => size - (intOf i).toNat)
  case atStart => exact ⟨0, g4, c4, Nat.zero_le _, rfl, rfl, by rw [List.replicate_zero, List.append_nil]; exact HROW4, HB4⟩
  case round =>
    obtain ⟨j, g, c, hj, rfl, rfl, HRW, HBW⟩ := hrel
    by_cases hlt : j < size
    · have hltI : (j : Int) < (size : Int) := by omega
      obtain ⟨g5, c5, w5, hr5, hrow5, hg5, _, _⟩ := run_append_one (P := Try.prog) wr V.heap.size 25 25 5 i0 _ 1 .u8 Try.underlying25 hi hz0 hz1 hz2 rfl g (H + j) c _ HRW.out 0 5 (by unfold maxLen; omega) (by omega) HBW.out.size
      have HB5 : Hid (Below V.heap.size V w5) := (HBW.out.alloc HBW.out.size _).grown hg5 (HBW.out.alloc HBW.out.size _).size (fun r e => by cases e; exact row_base HRW.out)
      have HROW5 : Hid (w5.ownsRow V.heap.size 5 1 (.slice (some ⟨g5, 0, none⟩) (H + (j + 1)) c5) (H + (j + 1)) ((headS zs ++ List.replicate (j + 1) 0).map (Value.int .u8))) := by
        show w5.ownsRow _ _ _ _ _ _
        rw [List.replicate_succ', ← List.append_assoc, List.map_append]
        exact hrow5
      have HR5 := Lib.hid hr5
      clear hr5 hrow5 hg5
      go_wp2_with (at_builtin; refine wpList_append_want (o := ⟨some 53, _, _, _, _, _⟩) _ rfl _ _ _ _ rfl _ _ rfl rfl _ _ HR5.out ?_)
      go_roundw
      case rel => exact ⟨j + 1, g5, c5, by omega, by go_num, by go_num, HROW5, HB5⟩
      case measure => simp [intOf]; omega
    · obtain rfl : j = size := by omega
      have HRG : Hid (wr.ownsRow V.heap.size 5 1 (.slice (some ⟨g, 0, none⟩) (H + j) c) (H + j) ((headS zs ++ gB (bitsS zs) 0 j).map (Value.int .u8))) := by
        show wr.ownsRow _ _ _ _ _ _
        rw [gB_zero]
        exact HRW.out
      clear HRW
      obtain ⟨sz, rfl⟩ : ∃ sz, sz = j := ⟨_, rfl⟩
      obtain ⟨wz, rfl⟩ : ∃ wz, wz = wr := ⟨_, rfl⟩
      have HBLL : Hid ((bitsS zs).length = T) := by
        show _ = _
        rw [HBL.out, allBits_length, show (diffs mn zs).length = len by unfold diffs; rw [List.length_map]; exact HL.out.symm, HHT.out]
      have hcc : H + sz ≤ c := (by obtain ⟨cur, _, h, _⟩ := row_block HRG.out; exact h)
      have hT8 : T ≤ 8 * sz := by have := HHS.out; omega
      go_wp2
      go_loopw [8] (fun i wr => ∃ t : Nat, t ≤ len ∧ i = .int .i64 t ∧ Hid (wr.ownsRow V.heap.size 5 1 (.slice (some ⟨g, 0, none⟩) (H + sz) c) (H + sz) ((headS zs ++ gB (bitsS zs) (t * wd) sz).map (Value.int .u8))) ∧ Hid (Below V.heap.size V wr)) (fun i _ => len - (intOf i).toNat)
      case atStart => exact ⟨0, Nat.zero_le _, rfl, by rw [Nat.zero_mul]; exact HRG, HBW⟩
      case round =>
        obtain ⟨t, ht, rfl, HRT, HBT⟩ := hrel
        by_cases hlt2 : t < len
        · obtain ⟨b', off', e', _, _, hcs⟩ := (HR.out.below (HBV.out.trans (HBT.out.mono HBV.out.size))).cells (by omega)
          cases e'
          have hcx := hcs t hlt2
          have htz : t < zs.length := by have := HL.out; omega
          have hda := diffs_at mn zs t htz
          obtain ⟨x, hxe⟩ : ∃ x, zs[t]?.getD 0 = x := ⟨_, rfl⟩
          rw [hxe] at hcx hda
          have hdt := diff_text mn x
          have hdu := diff_u64 mn x
          obtain ⟨dv, hdv⟩ : ∃ d, diffS mn x = d := ⟨_, rfl⟩
          rw [hdv] at hdt hdu hda
          have HDA := Lib.hid hda
          have HDU := Lib.hid hdu
          have hpt := HP.out.below HBT.out HP.out.lt
          have p0 := hpt.c0
          have plt := hpt.lt
          have HRD : Hid (wr.drew.ownsRow V.heap.size 5 1 (.slice (some ⟨g, 0, none⟩) (H + sz) c) (H + sz) ((headS zs ++ gB (bitsS zs) (t * wd) sz).map (Value.int .u8))) := HRT.out
          have HBD : Hid (Below V.heap.size V wr.drew) := below_drew HBT.out
          clear hcs hxe hdv hda hdu HRT HBT hpt
          go_upto_region 15 with fail
          go_region
          clear hcx hdt p0 plt
          generalize wr.drew = w5 at *
          obtain ⟨tw, htw⟩ : ∃ q : Nat, t * wd = q := ⟨_, rfl⟩
          have htwI : (t : Int) * (wd : Int) = (tw : Int) := by rw [← htw, Int.natCast_mul]
          have htwT : tw + wd ≤ T := by
            have : (t + 1) * wd ≤ len * wd := Nat.mul_le_mul (by omega) (Nat.le_refl _)
            rw [Nat.succ_mul, HHT.out, htw] at this
            exact this
          have HTW := Lib.hid htw
          rw [htw] at HRD
          clear htw
          have hdu0 := HDU.out.1
          have hdu1 := HDU.out.2
          go_wp2
          go_loopw [10] (fun kk wx => ∃ q : Nat, q ≤ wd ∧ kk = .int .i64 q ∧ Hid (wx.ownsRow V.heap.size 5 1 (.slice (some ⟨g, 0, none⟩) (H + sz) c) (H + sz) ((headS zs ++ gB (bitsS zs) (tw + q) sz).map (Value.int .u8))) ∧ Hid (Below V.heap.size V wx)) (fun kk _ => wd - (intOf kk).toNat)
          case atStart => exact ⟨0, Nat.zero_le _, rfl, HRD, HBD⟩
          case round =>
            obtain ⟨q, hq, rfl, HRQ, HBQ⟩ := hrel
            by_cases hlt3 : q < wd
            · have hqI : (q : Int) < (wd : Int) := by omega
              obtain ⟨p, hp⟩ : ∃ p, tw + q = p := ⟨_, rfl⟩
              have hpI : (tw : Int) + (q : Int) = (p : Int) := by omega
              have hpT : p < T := by omega
              have hbit : (bitsS zs)[p]?.getD 0 = dv / 2 ^ q % 2 := by
                rw [HBL.out, ← hp, ← HTW.out, allBits_at wd (diffs mn zs) t q (by unfold diffs; rw [List.length_map]; exact htz) hlt3, HDA.out]; rfl
              have hand := and1_u64 dv q HDU.out
              have hb01 : dv / 2 ^ q % 2 = 0 ∨ dv / 2 ^ q % 2 = 1 := by omega
              have HSM := Lib.hid (gB_same (bitsS zs) p sz (by rw [HBLL.out]; exact hpT) (by rw [HBLL.out]; exact hT8))
              have hstp := gB_step (bitsS zs) p sz (by rw [HBLL.out]; exact hpT) (by rw [HBLL.out]; exact hT8)
              have hylt := gB_lt (bitsS zs) (bitsS_bin zs) p sz (by rw [HBLL.out]; exact hpT) (by rw [HBLL.out]; exact hT8)
              rw [hp] at HRQ
              have HP1 : Hid (tw + (q + 1) = p + 1) := by show _ = _; omega
              clear hp
              rcases hb01 with hb | hb
              · rw [hb] at hbit hand
                have HRN : Hid (wr.ownsRow V.heap.size 5 1 (.slice (some ⟨g, 0, none⟩) (H + sz) c) (H + sz) ((headS zs ++ gB (bitsS zs) (tw + (q + 1)) sz).map (Value.int .u8))) := by
                  show wr.ownsRow _ _ _ _ _ _
                  rw [HP1.out, HSM.out hbit]; exact HRQ.out
                clear hb hbit hstp hylt HP1
                go_wp2
                go_roundw
                case rel => exact ⟨q + 1, by omega, by go_num, HRN, HBQ⟩
                case measure => simp [intOf]; omega
              · rw [hb] at hbit hand
                have hp8 : p / 8 < sz := by omega
                have hcr : wr.cell? ⟨g, H + p / 8, none⟩ = some (.int .u8 ((gB (bitsS zs) p sz)[p / 8]?.getD 0)) := by
                  have := row_cell (j := H + p / 8) HRQ.out (by rw [List.length_append, gB_length, HHL.out]; omega)
                  rw [this, List.getElem?_append_right (by rw [HHL.out]; omega), HHL.out, Nat.add_sub_cancel_left]
                have hfr := row_unfrozen (j := H + p / 8) HRQ.out
                have hglt := row_lt HRQ.out
                have hor := or_u8 _ 1 (p % 8) (Nat.mod_lt _ (by decide)) hylt (.inr rfl)
                have hst := row_store (j := H + p / 8) HRQ.out (.int .u8 ((gB (bitsS zs) p sz)[p / 8]?.getD 0 + 1 * 2 ^ (p % 8)))
                rw [← List.map_set, List.set_append_right (H + p / 8) _ (by rw [HHL.out]; omega), HHL.out, Nat.add_sub_cancel_left] at hst
                rw [hbit] at hstp
                rw [← hstp, ← HP1.out] at hst
                have HST := Lib.hid hst
                have hd8 : (p : Int) / 8 = ((p / 8 : Nat) : Int) := by omega
                have hm8 : (p : Int) % 8 = ((p % 8 : Nat) : Int) := by omega
                have hm8' : p % 8 < 8 := Nat.mod_lt _ (by decide)
                have hG : V.heap.size ≤ g := row_base HRQ.out
                generalize (gB (bitsS zs) p sz)[p / 8]?.getD 0 = y at *
                obtain ⟨p8, hp8e⟩ : ∃ z, p / 8 = z := ⟨_, rfl⟩
                obtain ⟨pm, hpme⟩ : ∃ z, p % 8 = z := ⟨_, rfl⟩
                rw [hp8e] at hd8 hp8 hcr hfr HST
                rw [hpme] at hm8 hm8' hor HST
                obtain ⟨y2, hy2⟩ : ∃ z, y + 1 * 2 ^ pm = z := ⟨_, rfl⟩
                rw [hy2] at hor HST
                have hor2 : bits BinOp.or IntKind.u8 y (IntKind.u8.wrap (2 ^ pm)) = y2 := by rw [Int.one_mul] at hor; exact hor
                have hor3 : bits BinOp.or IntKind.u8 y (2 ^ pm % 256) = y2 := by
                  have e : IntKind.u8.wrap ((2 : Int) ^ pm) = 2 ^ pm % 256 := by simp [IntKind.wrap, IntKind.bits, IntKind.signed]
                  rwa [e] at hor2
                obtain ⟨ix, hixn⟩ : ∃ ix, H + p8 = ix := ⟨_, rfl⟩
                have hix : (H : Int) + (p8 : Int) = (ix : Int) := by omega
                have hixb : ix < H + sz := by omega
                rw [hixn] at hcr hfr HST
                clear hst hstp hylt hbit HP1 HSM hp8e hpme hb hy2 hixn
                go_wp2
                go_roundw
                case rel => exact ⟨q + 1, by omega, by go_num, HST, HBQ.out.setCell hG _⟩
                case measure => simp [intOf]; omega
            · obtain rfl : q = wd := by omega
              have hqI : ¬ (q : Int) < (q : Int) := by omega
              have HRN : Hid (wr.ownsRow V.heap.size 5 1 (.slice (some ⟨g, 0, none⟩) (H + sz) c) (H + sz) ((headS zs ++ gB (bitsS zs) ((t + 1) * q) sz).map (Value.int .u8))) := by
                show wr.ownsRow _ _ _ _ _ _
                rw [Nat.succ_mul, HTW.out]
                exact HRQ.out
              go_wp2
              go_roundw
              case rel => exact ⟨t + 1, by omega, by go_num, HRN, HBQ⟩
              case measure => simp [intOf]; omega
        · obtain rfl : t = len := by omega
          have HPK : Hid (packS zs = headS zs ++ gB (bitsS zs) (t * wd) sz) := by
            show _ = _
            unfold packS gatherS
            rw [HSP2.out, HBLL.out, HHT.out]
          have hpl : (packS zs).length = H + sz := by rw [HPK.out, List.length_append, gB_length, HHL.out]
          have HPL := Lib.hid hpl
          clear hpl
          go_wp2
          go_ret
          refine ⟨g, c, by rw [HPL.out]; rfl, by rw [HPL.out]; exact hcc, ?_, HBV.out.trans (HBT.out.mono HBV.out.size)⟩
          rw [HPL.out, HPK.out]
          exact HRT.out.mono HBV.out.size

end Go.Proofs.Ytmbcppkdnoccbaa
