/-
  The same number added to all elements changes the packed form's base alone: for all lists and numbers the law returns true and changes nothing. No condition.
-/
import Derived.Test.YthmgbnlffkhblaaRows
import Derived.Test.YthmgbnlffkhblaaPkEx2
import Derived.Test.YthmgbnlffkhblaaPkTrMath
import Derived.Test.YthmgbnlffkhblaaRnWrap
import Derived.Lib.QuietBelow
import Derived.Lib.MinMax
import Derived.OpenShut
import Derived.BigRegion
import Derived.Deep.DeepCutAuto
namespace Go.Proofs.Ythmgbnlffkhblaa.bitpackTranslates
open Go.ChangeShapes Go.WideShapes Go.ChangeAt Go.RowKit
open Go.Proofs.Ythmgbnlffkhblaa

/-- The least so far. -/
def lowS (zs : List Int) (k : Nat) : Int := (zs.take k).foldl min (zs.headD 0)
theorem low_succ (zs : List Int) (k : Nat) (h : k < zs.length) : lowS zs (k + 1) = min (lowS zs k) (zs[k]?.getD 0) := by
  unfold lowS
  rw [take_getD_snoc zs k h, List.foldl_append]; rfl
theorem low_all (zs : List Int) : lowS zs zs.length = minS zs := by unfold lowS; rw [List.take_length]; rfl
theorem low_i64 {zs : List Int} (hz : Smalls zs) (h : zs ≠ []) (k : Nat) : I64 (lowS zs k) := by
  have h0 : I64 (zs.headD 0) := by
    cases zs with
    | nil => exact absurd rfl h
    | cons x r => exact hz x (by simp)
  rcases (foldl_min (zs.take k) (zs.headD 0)).2.2 with e | e
  · unfold lowS; rw [e]; exact h0
  · exact hz _ (List.mem_of_mem_take e)

set_option maxRecDepth 100000 in
set_option maxHeartbeats 4000000 in
theorem walk {K : Nat → Prop} {a : Option Addr} {len cap : Nat} {zs : List Int} (hz : Smalls zs) (y : Int) (hy : I64 y) (hl : len ≤ 300) (h0 : 0 < len) (w : World) (hR : Rd K w .i64 a len cap zs) :
    Calls Try.prog 4 #[.slice a len cap, .int .i64 y] w fun e w' => e = .returned (.bool true) ∧ Below w.heap.size w w' := by
  obtain ⟨i0, hi, hz0, hz1, hz2⟩ := info_parts Try.infoN
  have HR := Lib.hid hR
  have HL : Hid (len = zs.length) := hR.hl
  have HZ := Lib.hid hz
  have HY := Lib.hid hy
  have HNE : Hid (zs ≠ []) := by show _ ≠ _; rintro rfl; have := hR.hl; simp at this; omega
  have hfit := hR.fit
  have hln : ((len : Int) == 0) = false := by rw [beq_eq_false_iff_ne]; omega
  have hlI : ¬ (300 : Int) < (len : Int) := by omega
  have hlI1 : (1 : Int) ≤ (len : Int) := by omega
  clear hR hz hy
  go_enter Try.func4, Try.ntmps4
  go_wp2_with fail
  refine (examples_any _).mono ?_
  rintro e w1 ⟨rfl, hb1⟩
  have HB1 := Lib.hid hb1
  obtain ⟨b, off, rfl, _, _, hc1⟩ := (HR.out.below hb1).cells h0
  have HR1 := Lib.hid (HR.out.below hb1)
  have hx0 := hc1 0 h0
  have HLOW : Hid (zs[0]?.getD 0 = lowS zs 0) := by show _ = _; unfold lowS; cases zs <;> rfl
  simp only [Nat.add_zero] at hx0
  clear hb1 hc1
  obtain ⟨z0, hz0e⟩ : ∃ z, zs[0]?.getD 0 = z := ⟨_, rfl⟩
  have HZ0 := Lib.hid hz0e
  rw [hz0e] at hx0
  clear hz0e
  go_upto_region 6 with fail
  go_region
  have HROW : Hid ((w1.alloc (.cells #[] 3)).drew.ownsRow w1.heap.size 3 1 (.slice (some ⟨w1.heap.size, 0, none⟩) 0 0) 0 []) := World.ownsRow_made w1 (base := w1.heap.size) (e := 3) (size := 1) #[] 0 (Nat.le_refl _) (by decide) rfl
  have HBN : Hid (Below w1.heap.size w1 (w1.alloc (.cells #[] 3)).drew) := below_drew ((Below.refl _ _).alloc (Nat.le_refl _) _)
  obtain ⟨G0, hG0⟩ : ∃ G, G = w1.heap.size := ⟨_, rfl⟩
  rw [← hG0] at HROW ⊢
  have HG0 := Lib.hid hG0
  generalize (w1.alloc (.cells #[] 3)).drew = W0 at *
  have hI0 : Hid (lowS zs 0 = z0) := by show _ = _; rw [← HLOW.out]; exact HZ0.out
  clear hx0 hG0 HLOW HZ0
  go_wp2
  go_loopw [6, 7, 8] (fun s6 s7 i wr => ∃ (k g c : Nat) (lo : Int), k ≤ len ∧ i = .int .i64 k ∧ s6 = .slice (some ⟨g, 0, none⟩) k c ∧ s7 = .int .i64 lo ∧ Hid (lowS zs k = lo) ∧ Hid (∀ x ∈ zs.take k, I64 (x + y)) ∧ Hid (wr.ownsRow G0 3 1 (.slice (some ⟨g, 0, none⟩) k c) k ((plus y (zs.take k)).map (Value.int .i64))) ∧ Hid (Below w1.heap.size w1 wr)) (fun _ _ i _ => len - (intOf i).toNat)
  case atStart => exact ⟨0, G0, 0, z0, Nat.zero_le _, rfl, rfl, rfl, hI0, (show ∀ x ∈ zs.take 0, I64 (x + y) from fun x hx => by simp at hx), HROW, HBN⟩
  case round =>
    obtain ⟨k, g, c, lo, hk, rfl, rfl, rfl, HLO, HIN, HRW, HBW⟩ := hrel
    by_cases hlt : k < len
    · obtain ⟨b', off', e', _, _, hcs⟩ := (HR1.out.below HBW.out).cells (by omega)
      cases e'
      have hcx := hcs k hlt
      have hkl : k < zs.length := by have := HL.out; omega
      have hxI : I64 (zs[k]?.getD 0) := by rw [List.getElem?_eq_getElem hkl]; exact HZ.out _ (List.getElem_mem hkl)
      have htk := take_getD_snoc zs k hkl
      have hls := low_succ zs k hkl
      rw [HLO.out] at hls
      obtain ⟨x, hx⟩ : ∃ x, zs[k]?.getD 0 = x := ⟨_, rfl⟩
      rw [hx] at hcx hxI htk hls
      have hval : wrap64 (x + y) = w64 (x + y) := w64_wrap _
      have hval2 : IntKind.i64.wrap (x + y) = w64 (x + y) := by rw [IntKind.wrap_i64]; unfold w64; omega
      have hyI := HY.out
      have hbs : Below w.heap.size w wr := HB1.out.trans (HBW.out.mono HB1.out.size)
      have HBS := Lib.hid hbs
      by_cases hq : decide (x < w64 (x + y)) = decide (0 < y)
      · have hno : w64 (x + y) = x + y := by
          unfold I64 at hxI hyI
          have : (x < w64 (x + y)) ↔ (0 < y) := decide_eq_decide.1 hq
          unfold w64 at this ⊢
          omega
        have hIv : I64 (x + y) := by rw [← hno]; exact w64_i64 _
        obtain ⟨gA, cA, wA, hrA, hoA, hgA, _⟩ := run_append_one (P := Try.prog) wr G0 22 22 3 i0 _ 8 .i64 Try.underlying22 hi hz0 hz1 hz2 rfl g k c _ HRW.out (w64 (x + y)) 3 (by unfold maxLen; omega) (by omega) (by have := HBW.out.size; have := HG0.out; omega)
        have HIN2 : Hid (∀ u ∈ zs.take (k + 1), I64 (u + y)) := by
          show ∀ u ∈ _, _
          intro u hu
          rw [htk] at hu
          rcases List.mem_append.1 hu with hu | hu
          · exact HIN.out u hu
          · rw [List.mem_singleton.1 hu]; exact hIv
        have HO : Hid (wA.ownsRow G0 3 1 (.slice (some ⟨gA, 0, none⟩) (k + 1) cA) (k + 1) ((plus y (zs.take (k + 1))).map (Value.int .i64))) := by
          show wA.ownsRow _ _ _ _ _ _
          unfold plus at hoA ⊢
          rw [hno] at hoA
          rw [htk, List.map_append, List.map_append]
          exact hoA
        have HBA : Hid (Below w1.heap.size w1 wA) := (HBW.out.alloc HBW.out.size _).grown hgA (HBW.out.alloc HBW.out.size _).size (fun r e => by cases e; have := row_base HRW.out; have := HG0.out; omega)
        have hcA : wA.cell? ⟨b, off + k, none⟩ = some (.int .i64 x) := by
          obtain ⟨b', off', e', _, _, hcs'⟩ := (HR1.out.below HBA.out).cells (by omega)
          cases e'
          rw [hcs' k hlt, hx]
        have HRA := Lib.hid hrA
        have HLS := Lib.hid hls
        clear hrA hoA hgA hcs hx htk hls hno hIv hxI hyI hbs
        go_wp2_with (at_builtin; refine wpList_append_want (o := ⟨some 56, _, _, _, _, _⟩) _ rfl _ _ _ _ rfl _ _ rfl rfl _ _ HRA.out ?_)
        go_roundw
        case rel => exact ⟨k + 1, gA, cA, min lo x, by omega, by go_num, rfl, rfl, HLS, HIN2, HO, HBA⟩
        case measure => simp [intOf]; omega
      · have hq2 : (x < w64 (x + y) ∧ ¬ 0 < y) ∨ (¬ x < w64 (x + y) ∧ 0 < y) := by
          by_cases hA : x < w64 (x + y)
          · by_cases hB : 0 < y
            · exact absurd (by rw [decide_eq_true hA, decide_eq_true hB]) hq
            · exact .inl ⟨hA, hB⟩
          · by_cases hB : 0 < y
            · exact .inr ⟨hA, hB⟩
            · exact absurd (by rw [decide_eq_false hA, decide_eq_false hB]) hq
        clear hq hcs hx htk hls hxI hyI hbs
        generalize w64 (x + y) = u at *
        rcases hq2 with ⟨hA, hB⟩ | ⟨hA, hB⟩
        all_goals
          go_wp2
          go_ret
          exact ⟨rfl, HBS.out⟩
    · obtain rfl : k = len := by omega
      have hlm : lo = minS zs := by rw [← HLO.out, HL.out, low_all]
      have HLM := Lib.hid hlm
      have hloI : I64 lo := by rw [← HLO.out]; exact low_i64 HZ.out HNE.out _
      have hall : ∀ x ∈ zs, I64 (x + y) := fun x hx => HIN.out x (by rw [HL.out, List.take_length]; exact hx)
      have hloyI : I64 (lo + y) := by rw [hlm]; exact hall _ (min_mem zs HNE.out)
      have HSM : Hid (Smalls (plus y zs)) := fun x hx => by
        obtain ⟨u, hu, rfl⟩ := List.mem_map.1 hx
        exact hall u hu
      have hkc : k ≤ c := (by obtain ⟨cur, _, h, _⟩ := row_block HRW.out; exact h)
      have HM : Hid (Rd (fun b => G0 ≤ b) wr .i64 (some ⟨g, 0, none⟩) k c (plus y zs)) := by
        have h := HRW.out
        rw [HL.out, List.take_length, ← HL.out] at h
        exact Rd.of_row (by unfold plus; rw [List.length_map]; exact HL.out) hkc (by omega) h
      have HRX := Lib.hid (HR1.out.below HBW.out)
      have HBX : Hid (Below w.heap.size w wr) := HB1.out.trans (HBW.out.mono HB1.out.size)
      have HPK : Hid ((packS zs).drop ((varN k).length + (varN (zz lo).toNat).length) = (packS (plus y zs)).drop ((varN k).length + (varN (zz (lo + y)).toNat).length)) := by
        have := plus_pack (y := y) HNE.out
        rw [← HL.out, ← hlm] at this
        exact this
      have HPL1 : Hid ((varN k).length + (varN (zz lo).toNat).length ≤ (packS zs).length) := by
        show _ ≤ _
        rw [pack_parts HNE.out, ← HL.out, ← hlm, List.length_append, List.length_append]; omega
      have HPL2 : Hid ((varN k).length + (varN (zz (lo + y)).toNat).length ≤ (packS (plus y zs)).length) := by
        show _ ≤ _
        rw [pack_parts (plus_ne HNE.out), plus_min HNE.out, ← hlm, show (plus y zs).length = k by unfold plus; rw [List.length_map]; exact HL.out.symm, List.length_append, List.length_append]; omega
      have hpl1 := pack_len zs HZ.out (by have := HL.out; omega)
      have hpl2 := pack_len (plus y zs) HSM.out (by unfold plus; rw [List.length_map]; have := HL.out; omega)
      have hzu1 := zz_u64 hloI
      have hzu2 := zz_u64 hloyI
      obtain ⟨z1, hz1e⟩ := Int.eq_ofNat_of_zero_le hzu1.1
      obtain ⟨z2, hz2e⟩ := Int.eq_ofNat_of_zero_le hzu2.1
      have HZG1 : Hid (∀ V, Calls Try.prog 17 #[.int .i64 lo] V fun e w' => e = .returned (.int .u64 z1) ∧ V = w') := fun V => by
        have := zigzag_any lo hloI V
        rwa [hz1e] at this
      have HZG2 : Hid (∀ V, Calls Try.prog 17 #[.int .i64 (lo + y)] V fun e w' => e = .returned (.int .u64 z2) ∧ V = w') := fun V => by
        have := zigzag_any (lo + y) hloyI V
        rwa [hz2e] at this
      have hz1b : z1 < 18446744073709551616 := by have := hzu1.2; rw [hz1e] at this; omega
      have hz2b : z2 < 18446744073709551616 := by have := hzu2.2; rw [hz2e] at this; omega
      rw [hz1e, hz2e, Int.toNat_natCast, Int.toNat_natCast] at HPK
      rw [hz1e, Int.toNat_natCast] at HPL1
      rw [hz2e, Int.toNat_natCast] at HPL2
      have hn0 := var_len (u := k) (by omega)
      have hn1 := var_len hz1b
      have hn2 := var_len hz2b
      have hwly : IntKind.i64.wrap (lo + y) = lo + y := by have := hloyI; unfold I64 at this; rw [IntKind.wrap_i64]; omega
      have hwly2 : wrap64 (lo + y) = lo + y := by have := hloyI; unfold I64 at this; unfold wrap64; omega
      have hwk : IntKind.u64.wrap (k : Int) = k := by rw [IntKind.wrap_u64]; omega
      obtain ⟨ly, hly⟩ : ∃ q, lo + y = q := ⟨_, rfl⟩
      have hwA : IntKind.i64.wrap (lo + y) = ly := by rw [hwly, hly]
      have hwB : wrap64 (lo + y) = ly := by rw [hwly2, hly]
      rw [hly] at HZG2
      obtain ⟨m0, hm0⟩ : ∃ m, (varN k).length = m := ⟨_, rfl⟩
      obtain ⟨m1, hm1⟩ : ∃ m, (varN z1).length = m := ⟨_, rfl⟩
      obtain ⟨m2, hm2⟩ : ∃ m, (varN z2).length = m := ⟨_, rfl⟩
      have mk : ∀ (u m : Nat), u < 18446744073709551616 → (varN u).length = m → ∀ V, Calls Try.prog 21 #[.slice none 0 0, .int .u64 u] V fun e W' => ∃ g c : Nat, e = .returned (.slice (some ⟨g, 0, none⟩) m c) ∧ Below V.heap.size V W' := fun u m hu hm V =>
        (varint_nil u hu V).mono fun e W' ⟨g, c, he, _, _, hb⟩ => ⟨g, c, by rw [he, hm], hb⟩
      have HVA := Lib.hid (mk k m0 (by omega) hm0)
      have HVB := Lib.hid (mk z1 m1 hz1b hm1)
      have HVC := Lib.hid (mk z2 m2 hz2b hm2)
      rw [hm0, hm1, hm2] at HPK
      rw [hm0, hm1] at HPL1
      rw [hm0, hm2] at HPL2
      rw [hm0] at hn0
      rw [hm1] at hn1
      rw [hm2] at hn2
      clear mk hm0 hm1 hm2 hwly hwly2 hz1b hz2b
      clear hzu1 hzu2 hz1e hz2e hall hloI hloyI hlm hly HRW HBW HR1 HB1 hkc HROW HBN hI0 hi hz0 hz1 hz2 HLO HIN HLM
      go_wp2_with fail
      refine (packed_any HZ.out (by omega) HRX.out).mono ?_
      rintro e w2 ⟨gp, cp, rfl, hrp, hb2⟩
      obtain ⟨lp, hlp⟩ : ∃ l, (packS zs).length = l := ⟨_, rfl⟩
      rw [hlp] at hrp hpl1 HPL1 ⊢
      have HP2 := Lib.hid hrp
      have HM2 := Lib.hid (HM.out.below hb2)
      have HB2 : Hid (Below w.heap.size w w2) := HBX.out.trans (hb2.mono HBX.out.size)
      clear hrp hb2 hlp HM HBX HRX
      go_wp2_with fail
      refine (packed_any HSM.out (by omega) HM2.out).mono ?_
      rintro e w3 ⟨gq, cq, rfl, hrq, hb3⟩
      obtain ⟨lq, hlq⟩ : ∃ l, (packS (plus y zs)).length = l := ⟨_, rfl⟩
      rw [hlq] at hrq hpl2 HPL2 ⊢
      have HQ3 := Lib.hid hrq
      have HP3 := Lib.hid (HP2.out.below hb3)
      have HB3 : Hid (Below w.heap.size w w3) := HB2.out.trans (hb3.mono HB2.out.size)
      clear hrq hb3 hlq HM2 HP2 HB2
      have hpl1I : (lp : Int) ≤ 32789 := by omega
      have hpl2I : (lq : Int) ≤ 32789 := by omega
      obtain ⟨A1, hs1⟩ : ∃ A : Nat, (m0 : Int) + (m1 : Int) = (A : Int) := ⟨m0 + m1, by omega⟩
      obtain ⟨A2, hs2⟩ : ∃ A : Nat, (m0 : Int) + (m2 : Int) = (A : Int) := ⟨m0 + m2, by omega⟩
      rw [show m0 + m1 = A1 by omega] at HPL1 HPK
      rw [show m0 + m2 = A2 by omega] at HPL2 HPK
      have hA1 : (A1 : Int) ≤ (lp : Int) := by have := HPL1.out; omega
      have hA2 : (A2 : Int) ≤ (lq : Int) := by have := HPL2.out; omega
      go_upto_region 16 with fail
      have hbV : Below w3.heap.size w3 ((w3.alloc (.cells #[.slice (some ⟨gp, 0, none⟩) lp cp, .int .i64 0] 28)).alloc (.cells #[.slice (some ⟨gq, 0, none⟩) lq cq, .int .i64 0] 28)) := ((Below.refl _ _).alloc (Nat.le_refl _) _).alloc (by simp) _
      have hpa := (Pair.new w3 28 (.slice (some ⟨gp, 0, none⟩) lp cp) (.int .i64 0)).alloc (.cells #[.slice (some ⟨gq, 0, none⟩) lq cq, .int .i64 0] 28)
      have hpb := Pair.new (w3.alloc (.cells #[.slice (some ⟨gp, 0, none⟩) lp cp, .int .i64 0] 28)) 28 (.slice (some ⟨gq, 0, none⟩) lq cq) (.int .i64 0)
      simp only [World.size_alloc] at hpb
      have HPA := Lib.hid hpa
      have HPB := Lib.hid hpb
      have HPV := Lib.hid (HP3.out.below hbV)
      have HQV := Lib.hid (HQ3.out.below hbV)
      have HBV : Hid (Below w.heap.size w ((w3.alloc (.cells #[.slice (some ⟨gp, 0, none⟩) lp cp, .int .i64 0] 28)).alloc (.cells #[.slice (some ⟨gq, 0, none⟩) lq cq, .int .i64 0] 28))) := HB3.out.trans (hbV.mono HB3.out.size)
      obtain ⟨BA, hBA⟩ : ∃ B, B = w3.heap.size := ⟨_, rfl⟩
      rw [← hBA] at HPA HPB ⊢
      clear hpa hpb hbV HP3 HQ3 HB3 hBA
      generalize (w3.alloc (.cells #[.slice (some ⟨gp, 0, none⟩) lp cp, .int .i64 0] 28)).alloc (.cells #[.slice (some ⟨gq, 0, none⟩) lq cq, .int .i64 0] 28) = V at *
      obtain ⟨BB, hBB⟩ : ∃ B, BA + 1 = B := ⟨_, rfl⟩
      rw [hBB] at HPB ⊢
      clear hBB
      go_wp2_with fail
      refine (HVA.out V).mono ?_
      rintro e V1 ⟨g1, c1, rfl, hb1⟩
      have HB1 := Lib.hid hb1
      clear hb1
      go_wp2_with fail
      refine (HZG1.out V1).mono ?_
      rintro e V1' ⟨rfl, rfl⟩
      go_wp2_with fail
      refine (HVB.out V1).mono ?_
      rintro e V2 ⟨g2, c2, rfl, hb2⟩
      have HB2 : Hid (Below V.heap.size V V2) := HB1.out.trans (hb2.mono HB1.out.size)
      clear hb2 HB1
      go_wp2_with fail
      refine (HZG2.out V2).mono ?_
      rintro e V2' ⟨rfl, rfl⟩
      go_wp2_with fail
      refine (HVC.out V2).mono ?_
      rintro e V3 ⟨g3, c3, rfl, hb3⟩
      have HB3 : Hid (Below V.heap.size V V3) := HB2.out.trans (hb3.mono HB2.out.size)
      clear hb3 HB2 HVA HVB HVC HZG1 HZG2
      have hpa := HPA.out.below HB3.out HPA.out.lt
      have hpb := HPB.out.below HB3.out HPB.out.lt
      have HPX := Lib.hid (HPV.out.below HB3.out)
      have HQX := Lib.hid (HQV.out.below HB3.out)
      have HBX : Hid (Below w.heap.size w V3) := HBV.out.trans (HB3.out.mono HBV.out.size)
      have K0 := fun d os => cell_regrown hpa.c0 d os
      have K1 := fun d os => cell_regrown hpa.c1 d os
      have K2 := fun d os => cell_regrown hpb.c0 d os
      have K3 := fun d os => cell_regrown hpb.c1 d os
      clear hpa hpb HPA HPB HPV HQV HBV HB3
      go_upto_region 18 with fail
      clear hs1 hs2 hwA hwB hwk hn0 hn1 hn2
      obtain ⟨e3, he3⟩ : ∃ a', (if cp = A1 then some ⟨gp, 0, none⟩ else some ⟨gp, A1, none⟩ : Option Addr) = a' := ⟨_, rfl⟩
      obtain ⟨e4, he4⟩ : ∃ a', (if cq = A2 then some ⟨gq, 0, none⟩ else some ⟨gq, A2, none⟩ : Option Addr) = a' := ⟨_, rfl⟩
      have hf3 := HPX.out.fit
      have hf4 := HQX.out.fit
      have HT3 := Lib.hid (HPX.out.rest A1 HPL1.out (cp - A1) (by omega) (by omega) e3 (fun h => by rw [← he3, if_neg (by omega), Nat.zero_add]))
      have ht4 := HQX.out.rest A2 HPL2.out (cq - A2) (by omega) (by omega) e4 (fun h => by rw [← he4, if_neg (by omega), Nat.zero_add])
      rw [← HPK.out] at ht4
      have HT4 := Lib.hid ht4
      have HC : Hid (∀ d os, Calls Try.prog 14 #[.slice e3 (lp - A1) (cp - A1), .slice e4 (lq - A2) (cq - A2)] (Go.Sort.grow (redrawn V3 d) os) fun e w' => e = .returned (.bool true) ∧ Below (Go.Sort.grow (redrawn V3 d) os).heap.size (Go.Sort.grow (redrawn V3 d) os) w') := fun d os => by
        have := same_any (HT3.out.below (below_regrown V3 d os)) (HT4.out.below (below_regrown V3 d os))
        rwa [sameB_true rfl] at this
      clear ht4
      refine wp_region_quiet_below (by kernel_rfl) (by kernel_rfl) ?_
      repeat (go_big_quiet_step (first
        | (go_at_call 14; with_reducible exact Calls.regrown_of (HC.out _ _))))
      refine wpQuiet_nil ?_
      intro _ hw'
      obtain ⟨⟨dq, osq⟩, hw''⟩ := hw'
      subst hw''
      have HBQ : Hid (Below w.heap.size w (Go.Sort.grow (redrawn V3 dq) osq)) := HBX.out.trans ((below_regrown V3 dq osq).mono HBX.out.size)
      generalize Go.Sort.grow (redrawn V3 dq) osq = WQ at *
      go_wp2
      go_ret
      exact ⟨rfl, HBQ.out⟩

end Go.Proofs.Ythmgbnlffkhblaa.bitpackTranslates
