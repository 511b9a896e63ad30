/-
  No other form is smaller than the one of the kind, no earlier one as small; equal elements and equal steps are encoded in at most 40 bytes: for all lists and numbers the law returns true and changes nothing. No condition.
-/
import Derived.Test.YthmgbnlffkhblaaRows
import Derived.Test.YthmgbnlffkhblaaRnEx
import Derived.Test.YthmgbnlffkhblaaRnLeMath
import Derived.Test.YthmgbnlffkhblaaRnSize
import Derived.OpenShut
import Derived.Deep.DeepCutAuto
namespace Go.Proofs.Ythmgbnlffkhblaa.runsLeast
open Go.ChangeShapes Go.WideShapes Go.ChangeAt Go.RowKit
open Go.Proofs.Ythmgbnlffkhblaa

set_option maxRecDepth 100000 in
set_option maxHeartbeats 4000000 in
theorem walk {K : Nat → Prop} {a : Option Addr} {len cap : Nat} {zs : List Int} (hz : Smalls zs) (v s : Int) (hv : I64 v) (hs : I64 s) (hl : len ≤ 300) (w : World) (hR : Rd K w .i64 a len cap zs) :
    Calls Try.prog 9 #[.slice a len cap, .int .i64 v, .int .i64 s] w fun e w' => e = .returned (.bool true) ∧ Below w.heap.size w w' := by
  have HR := Lib.hid hR
  have HL : Hid (len = zs.length) := hR.hl
  have HZ := Lib.hid hz
  have HV := Lib.hid hv
  have HS := Lib.hid hs
  clear hR hz hv hs
  go_enter Try.func9, Try.ntmps9
  go_wp2_with fail
  refine (examples4_any _).mono ?_
  rintro e w1 ⟨rfl, hb1⟩
  have HB1 := Lib.hid hb1
  have HR1 := Lib.hid (HR.out.below hb1)
  clear hb1 HR
  go_wp2_with fail
  have hl40 : len ≤ 1099511627776 := by omega
  have hl41 : len ≤ 4096 := by omega
  refine (kind_any HZ.out hl40 HR1.out).mono ?_
  have hsz := en_size zs
  have hle : Hid (∀ i, i < 4 → szS (kindS zs) zs ≤ szS i zs ∧ (i < kindS zs → szS (kindS zs) zs < szS i zs)) := kind_least zs
  have hbig : Hid (∀ i, szS i zs ≤ 100000) := size_big HZ.out (by rw [← HL.out]; omega)
  have HSZ : Hid (∀ (j : Nat) (V : World), j < 4 → Rd K V .i64 a len cap zs → Calls Try.prog 46 #[.int .i64 j, .slice a len cap] V fun e W' => e = .returned (.int .i64 (szS j zs : Nat)) ∧ Below V.heap.size V W') := fun j V hj h => size4_any HZ.out hl40 h j hj
  have hk4 := kind_lt zs
  have hEN : ∃ r, enS zs = (kindS zs : Int) :: r := ⟨_, rfl⟩
  have HEX : Hid (∀ V, Rd K V .i64 a len cap zs → Calls Try.prog 29 #[.slice a len cap] V (EncodedPost V (enS zs))) := fun V h => encoded_any HZ.out hl41 h
  generalize enS zs = es at *
  generalize kindS zs = k at *
  obtain ⟨er, rfl⟩ := hEN
  clear HZ
  rintro e w2 ⟨rfl, hb2⟩
  have HB2 : Hid (Below w.heap.size w w2) := HB1.out.trans (hb2.mono HB1.out.size)
  have HR2 := Lib.hid (HR1.out.below hb2)
  have HSZE := Lib.hid hsz
  clear hb2 HB1 HR1 hsz
  go_wp2_with fail
  refine (HEX.out _ HR2.out).mono ?_
  rintro e w3 ⟨gp, lp, cp, rfl, hrp, hb3⟩
  have HLP : Hid (lp = 1 + szS k zs) := by show _ = _; rw [hrp.hl]; exact HSZE.out
  go_upto_region 7 with fail
  have hbV : Below w3.heap.size w3 (w3.alloc (.cells #[.slice (some ⟨gp, 0, none⟩) lp cp, .int .i64 0] 47)) := (Below.refl _ _).alloc (Nat.le_refl _) _
  have HP := Lib.hid (Pair.new w3 47 (.slice (some ⟨gp, 0, none⟩) lp cp) (.int .i64 0))
  have HX := Lib.hid (hrp.below hbV)
  have HRV := Lib.hid ((HR2.out.below hb3).below hbV)
  have HB3 : Hid (Below w.heap.size w (w3.alloc (.cells #[.slice (some ⟨gp, 0, none⟩) lp cp, .int .i64 0] 47))) := (HB2.out.trans (hb3.mono HB2.out.size)).trans (hbV.mono (HB2.out.trans (hb3.mono HB2.out.size)).size)
  obtain ⟨B, hBe⟩ : ∃ B, w3.heap.size = B := ⟨_, rfl⟩
  rw [hBe] at HP ⊢
  clear hrp hb3 hbV hBe HR2 HB2
  generalize w3.alloc (.cells #[.slice (some ⟨gp, 0, none⟩) lp cp, .int .i64 0] 47) = V at *
  have K0 := fun d os => cell_regrown HP.out.c0 d os
  have K1 := fun d os => cell_regrown HP.out.c1 d os
  have KX : ∀ d os, (Go.Sort.grow (redrawn V d) os).cell? ⟨gp, 0, none⟩ = some (.int .u8 k) := fun d os => by
    obtain ⟨b, off, e, _, _, hc⟩ := HX.out.cells (by have := HLP.out; omega)
    cases e
    exact cell_regrown (hc 0 (by have := HLP.out; omega)) d os
  obtain ⟨sk, hsk⟩ : ∃ t, szS k zs = t := ⟨_, rfl⟩
  have hskb : (sk : Int) ≤ 100000 := by have := hbig.out k; omega
  have HCS : Hid (∀ d os, Calls Try.prog 46 #[.int .i64 k, .slice a len cap] (Go.Sort.grow (redrawn V d) os) fun e w' => e = .returned (.int .i64 sk) ∧ Below (Go.Sort.grow (redrawn V d) os).heap.size (Go.Sort.grow (redrawn V d) os) w') := fun d os => by
    have := HSZ.out k _ hk4 (HRV.out.below (below_regrown V d os))
    rwa [hsk] at this
  have hne : ((lp : Int) != (1 + (sk : Int))) = false := by
    have : (lp : Int) = 1 + (sk : Int) := by have := HLP.out; omega
    simp [this]
  have hk0 : ¬ (k : Int) < 0 := by omega
  have hk3 : ¬ (3 : Int) < (k : Int) := by omega
  have hk8 : IntKind.u8.wrap (k : Int) = k := by simp [IntKind.wrap, IntKind.bits, IntKind.signed]; omega
  have hlp1 : (1 : Int) ≤ (lp : Int) := by have := HLP.out; omega
  have HSK := Lib.hid hsk
  clear hsk
  refine wp_region_quiet_below (by kernel_rfl) (by kernel_rfl) ?_
  repeat (go_big_quiet_step (first
    | (go_at_call 46; with_reducible exact Calls.regrown_of (HCS.out _ _))))
  refine wpQuiet_nil ?_
  intro _ hw'
  obtain ⟨⟨dq, osq⟩, hw''⟩ := hw'
  subst hw''
  have HBQ : Hid (Below w.heap.size w (Go.Sort.grow (redrawn V dq) osq)) := HB3.out.trans ((below_regrown V dq osq).mono HB3.out.size)
  have HRQ := Lib.hid (HRV.out.below (below_regrown V dq osq))
  clear K0 K1 KX HCS HB3 HRV HX HP hne hk0 hk3 hk8 hlp1 HLP
  generalize Go.Sort.grow (redrawn V dq) osq = WQ at *
  go_wp2
  go_loopw [10] (fun i wr => ∃ j : Nat, j ≤ 4 ∧ i = .int .i64 j ∧ Hid (Below WQ.heap.size WQ wr)) (fun i _ => 4 - (intOf i).toNat)
  case atStart => exact ⟨0, by decide, rfl, Below.refl _ _⟩
  case round =>
    obtain ⟨j, hj, rfl, HBR⟩ := hrel
    by_cases hlt : j < 4
    · have hjI : (j : Int) < 4 := by omega
      obtain ⟨sj, hsj⟩ : ∃ t, szS j zs = t := ⟨_, rfl⟩
      have HSJ := Lib.hid hsj
      have hnl : ¬ (sj : Int) < (sk : Int) := by have := (hle.out j hlt).1; have := HSK.out; omega
      have heq : j < k → ((sj : Int) == (sk : Int)) = false := fun h => by
        have := (hle.out j hlt).2 h
        have := HSK.out
        rw [beq_eq_false_iff_ne]; omega
      have HEQ := Lib.hid heq
      have HC : Hid (∀ W, Below WQ.heap.size WQ W → Calls Try.prog 46 #[.int .i64 j, .slice a len cap] W fun e w' => e = .returned (.int .i64 sj) ∧ Below W.heap.size W w') := fun W h => by
        have := HSZ.out j W hlt (HRQ.out.below h)
        rwa [hsj] at this
      have HK : Hid (∀ W, Below WQ.heap.size WQ W → Calls Try.prog 46 #[.int .i64 k, .slice a len cap] W fun e w' => e = .returned (.int .i64 sk) ∧ Below W.heap.size W w') := fun W h => by
        have := HSZ.out k W hk4 (HRQ.out.below h)
        rwa [HSK.out] at this
      clear hsj heq
      go_wp2_with fail
      refine (HC.out _ HBR.out).mono ?_
      rintro e w4 ⟨rfl, hb4⟩
      have HB4 : Hid (Below WQ.heap.size WQ w4) := HBR.out.trans (hb4.mono HBR.out.size)
      clear hb4 HBR
      go_wp2_with fail
      refine (HK.out _ HB4.out).mono ?_
      rintro e w5 ⟨rfl, hb5⟩
      have HB5 : Hid (Below WQ.heap.size WQ w5) := HB4.out.trans (hb5.mono HB4.out.size)
      clear hb5 HB4
      by_cases hik : j < k
      · have hikI : (j : Int) < (k : Int) := by omega
        have he := HEQ.out hik
        go_wp2_with fail
        refine (HC.out _ HB5.out).mono ?_
        rintro e w6 ⟨rfl, hb6⟩
        have HB6 : Hid (Below WQ.heap.size WQ w6) := HB5.out.trans (hb6.mono HB5.out.size)
        clear hb6 HB5
        go_wp2_with fail
        refine (HK.out _ HB6.out).mono ?_
        rintro e w7 ⟨rfl, hb7⟩
        have HB7 : Hid (Below WQ.heap.size WQ w7) := HB6.out.trans (hb7.mono HB6.out.size)
        clear hb7 HB6
        go_wp2
        go_roundw
        case rel => exact ⟨j + 1, by omega, by go_num, HB7⟩
        case measure => simp [intOf]; omega
      · have hikI : ¬ (j : Int) < (k : Int) := by omega
        go_wp2
        go_roundw
        case rel => exact ⟨j + 1, by omega, by go_num, HB5⟩
        case measure => simp [intOf]; omega
    · obtain rfl : j = 4 := by omega
      obtain ⟨wz, rfl⟩ : ∃ wz, wz = wr := ⟨_, rfl⟩
      have HBW : Hid (Below w.heap.size w wz) := HBQ.out.trans (HBR.out.mono HBQ.out.size)
      clear HBQ HRQ HBR HSZ HEX hle hbig HSZE HSK hskb hk4 hl40 hl41
      obtain ⟨i0, hi, hz0, hz1, hz2⟩ := info_parts Try.infoN
      have hrow1 := (World.ownsRow_made wz (base := wz.heap.size) (e := 3) (size := 1) #[] 0 (Nat.le_refl _) (by decide) rfl).alloc (.cells #[] 3)
      have hrow2 := World.ownsRow_made (wz.alloc (.cells #[] 3)) (base := wz.heap.size) (e := 3) (size := 1) #[] 0 (by simp) (by decide) rfl
      have HROW1 := Lib.hid hrow1
      have HROW2 := Lib.hid hrow2
      have HBN : Hid (Below wz.heap.size wz ((wz.alloc (.cells #[] 3)).alloc (.cells #[] 3))) := ((Below.refl _ _).alloc (Nat.le_refl _) _).alloc (by simp) _
      clear hrow1 hrow2
      go_wp2
      simp only [World.size_alloc] at HROW2
      go_loopw [11, 12, 13] (fun s1 s2 i wx => ∃ n g c g' c' : Nat, n ≤ 13 * len ∧ i = .int .i64 n ∧ s1 = .slice (some ⟨g, 0, none⟩) n c ∧ s2 = .slice (some ⟨g', 0, none⟩) n c' ∧ Hid (g ≠ g') ∧ Hid (wx.ownsRow wz.heap.size 3 1 (.slice (some ⟨g, 0, none⟩) n c) n ((List.replicate n v).map (Value.int .i64))) ∧ Hid (wx.ownsRow wz.heap.size 3 1 (.slice (some ⟨g', 0, none⟩) n c') n ((stS v s n).map (Value.int .i64))) ∧ Hid (Below wz.heap.size wz wx)) (fun _ _ i _ => 13 * len - (intOf i).toNat)
      case atStart => exact ⟨0, wz.heap.size, 0, wz.heap.size + 1, 0, Nat.zero_le _, rfl, rfl, rfl, (show _ ≠ _ by omega), HROW1, HROW2, HBN⟩
      case round =>
        obtain ⟨wx, rfl⟩ : ∃ wx, wx = wr := ⟨_, rfl⟩
        obtain ⟨n, g, c, g', c', hn, rfl, rfl, rfl, hgg, HR1, HR2, HBX⟩ := hrel
        have hmul : IntKind.i64.wrap (13 * (len : Int)) = 13 * (len : Int) := by rw [IntKind.wrap_i64]; omega
        by_cases hlt : n < 13 * len
        · have hltI : (n : Int) < 13 * (len : Int) := by omega
          have hl1 := own_lt HR1.out
          have hl2 := own_lt HR2.out
          obtain ⟨y, hy⟩ : ∃ y, w64 (v + n * s) = y := ⟨_, rfl⟩
          have hval : IntKind.i64.wrap (v + IntKind.i64.wrap ((n : Int) * s)) = y := by rw [← hy, IntKind.wrap_i64, IntKind.wrap_i64]; unfold w64; omega
          have hval2 : wrap64 (v + wrap64 ((n : Int) * s)) = y := by rw [← hy, w64_wrap, w64_wrap]; unfold w64; omega
          obtain ⟨gA, cA, wA, hrA, hoA, hgA, hatA⟩ := own_append (P := Try.prog) wx wz.heap.size 22 22 3 i0 _ 8 .i64 Try.underlying22 hi hz0 hz1 hz2 rfl _ n _ HR1.out v 3 (by unfold maxLen; omega) (by omega) HBX.out.size
          have hR2A := own_keep (HR2.out.alloc (.cells #[.int .i64 v] 3)) hgA (fun r e => by
            have e : some g = some r := e
            cases e
            intro h
            exact hgg.out (by simpa [Value.ownBlock] using h.symm))
          have hsA : wx.heap.size + 1 ≤ wA.heap.size := by have := hgA.size; simpa using this
          have hBA : Below wz.heap.size wz wA := (HBX.out.alloc HBX.out.size _).grown hgA (HBX.out.alloc HBX.out.size _).size (fun r e => (hl1 r e).1)
          obtain ⟨gB, cB, wB, hrB, hoB, hgB, hatB⟩ := own_append (P := Try.prog) wA wz.heap.size 22 22 3 i0 _ 8 .i64 Try.underlying22 hi hz0 hz1 hz2 rfl _ n _ hR2A y 3 (by unfold maxLen; omega) (by omega) hBA.size
          have hgg1 : gA ≠ g' := by
            have h2 := (hl2 g' rfl).2
            rcases hatA with e | e
            · have e : some gA = some g := e
              cases e
              exact hgg.out
            · omega
          have hlA := own_lt hoA
          have hR1B := own_keep (hoA.alloc (.cells #[.int .i64 y] 3)) hgB (fun r e => by
            have e : some g' = some r := e
            cases e
            intro h
            exact hgg1 (by simpa [Value.ownBlock] using h))
          have hgg2 : gA ≠ gB := by
            have h2 := (hlA gA rfl).2
            rcases hatB with e | e
            · have e : some gB = some g' := e
              cases e
              exact hgg1
            · omega
          have HBB : Hid (Below wz.heap.size wz wB) := (hBA.alloc hBA.size _).grown hgB (hBA.alloc hBA.size _).size (fun r e => (hl2 r e).1)
          have HRA := Lib.hid hrA
          have HRB := Lib.hid hrB
          have HG2 := Lib.hid hgg2
          have HO1 : Hid (wB.ownsRow wz.heap.size 3 1 (.slice (some ⟨gA, 0, none⟩) (n + 1) cA) (n + 1) ((List.replicate (n + 1) v).map (Value.int .i64))) := by
            show wB.ownsRow _ _ _ _ _ _
            rw [List.replicate_succ', List.map_append]
            exact hR1B
          have HO2 : Hid (wB.ownsRow wz.heap.size 3 1 (.slice (some ⟨gB, 0, none⟩) (n + 1) cB) (n + 1) ((stS v s (n + 1)).map (Value.int .i64))) := by
            show wB.ownsRow _ _ _ _ _ _
            rw [st_succ, List.map_append, hy]
            exact hoB
          clear hrA hrB hgg1 hgg2 hlA hR1B hoB hoA hgA hgB hatA hatB hR2A hBA hl1 hl2 hy hi hz0 hz1 hz2
          go_wp2_with (first
            | (at_builtin; refine wpList_append_want (o := ⟨some 94, _, _, _, _, _⟩) _ rfl _ _ _ _ rfl _ _ rfl rfl _ _ HRA.out ?_)
            | (at_builtin; refine wpList_append_want (o := ⟨some 102, _, _, _, _, _⟩) _ rfl _ _ _ _ rfl _ _ rfl rfl _ _ HRB.out ?_))
          go_roundw
          case rel =>
            (repeat apply Exists.intro)
            refine And.intro ?_ rfl
            exact ⟨n + 1, gA, cA, gB, cB, by omega, by go_num, rfl, rfl, HG2, HO1, HO2, HBB⟩
          case measure => simp [intOf]; omega
        · have hltI : ¬ (n : Int) < 13 * (len : Int) := by omega
          have hn4 : n ≤ 4096 := by omega
          have hf1 : n ≤ c := (by obtain ⟨cur, _, h, _⟩ := row_block HR1.out; exact h)
          have hf2 : n ≤ c' := (by obtain ⟨cur, _, h, _⟩ := row_block HR2.out; exact h)
          have HD1 := Lib.hid (Rd.of_row (by rw [List.length_replicate]) hf1 (by omega) HR1.out)
          have HD2 := Lib.hid (Rd.of_row (st_length v s n).symm hf2 (by omega) HR2.out)
          have HBY : Hid (Below w.heap.size w wx) := HBW.out.trans (HBX.out.mono HBW.out.size)
          have HZ1 : Hid (Smalls (List.replicate n v)) := fun x hx => by rw [(List.mem_replicate.1 hx).2]; exact HV.out
          have HL1 := Lib.hid (same_len v HV.out n hn4)
          have HL2 := Lib.hid (steps_len v s n hn4)
          clear HR1 HR2 HBX HBW hf1 hf2 hi hz0 hz1 hz2 hgg HROW1 HROW2 HBN
          go_wp2_with fail
          refine (encoded_any HZ1.out hn4 HD1.out).mono ?_
          rintro e w8 ⟨g8, n8, c8, rfl, hr8, hb8⟩
          have HN8 : Hid (n8 ≤ 40) := by show _ ≤ _; rw [hr8.hl]; exact HL1.out
          have HB8 : Hid (Below w.heap.size w w8) := HBY.out.trans (hb8.mono HBY.out.size)
          have HD3 := Lib.hid (HD2.out.below hb8)
          clear hr8 hb8 HD1 HD2 HL1
          go_wp2_with fail
          refine (encoded_any (st_smalls v s n) hn4 HD3.out).mono ?_
          rintro e w9 ⟨g9, n9, c9, rfl, hr9, hb9⟩
          have h9 : (n9 : Int) ≤ 40 := by have := hr9.hl; have := HL2.out; omega
          have h8 : (n8 : Int) ≤ 40 := by have := HN8.out; omega
          have HB9 : Hid (Below w.heap.size w w9) := HB8.out.trans (hb9.mono HB8.out.size)
          clear hr9 hb9 HD3 HL2
          go_wp2
          go_ret
          exact ⟨rfl, (HB9.out.alloc HB9.out.size _).alloc (HB9.out.alloc HB9.out.size _).size _⟩

end Go.Proofs.Ythmgbnlffkhblaa.runsLeast
