/-
  Codes keep the order of the strings and are undone by it: for all arguments the law returns true and changes nothing. No condition.
-/
import Derived.Test.YtllpnhegelddlaaDcEx
import Derived.Test.YtllpnhegelddlaaDcCdMath
import Derived.Test.YtllpnhegelddlaaDcApp
import Derived.BigQuiet
namespace Go.Proofs.Ytllpnhegelddlaa.dictionaryCodes
open Go Go.Sort Go.ChangeShapes Go.WideShapes Go.ChangeAt Go.RowKit
open Go.Proofs.Ytllpnhegelddlaa

set_option maxRecDepth 100000 in
set_option maxHeartbeats 4000000 in
theorem walk {K1 K2 : Nat → Prop} {a1 a2 : Option Addr} {n1 c1 n2 c2 : Nat} {xs ys : List Int} (ho1 : Oct xs) (ho2 : Oct ys) (w : World) (hR1 : RdL K1 w .u8 a1 n1 c1 xs) (hR2 : RdL K2 w .u8 a2 n2 c2 ys) :
    Calls Try.prog 6 #[.slice a1 n1 c1, .slice a2 n2 c2] w fun e w' => e = .returned (.bool true) ∧ Below w.heap.size w w' := by
  obtain ⟨i0, hi, hz0, hz1, hz2⟩ := info_parts Try.infoS5
  have H1 := Lib.hid hR1
  have H2 := Lib.hid hR2
  clear hR1 hR2
  go_enter Try.func6, Try.ntmps6
  go_wp2_with fail
  refine (examples5_any _).mono ?_
  rintro e w1 ⟨rfl, hb1⟩
  have HB1 := Lib.hid hb1
  clear hb1
  go_wp2_with fail
  refine (words_any ho1 (H1.out.below HB1.out)).mono ?_
  rintro e w2 ⟨gw, nw, cw, rfl, hw, _, hb⟩
  have HW2 := Lib.hid hw
  have HB2 : Hid (Below w.heap.size w w2) := HB1.out.trans (hb.mono HB1.out.size)
  clear hw hb HB1
  go_wp2_with fail
  refine (words_any ho2 (H2.out.below HB2.out)).mono ?_
  rintro e w3 ⟨gv, nv, cv, rfl, hv, hvo, hb⟩
  have HBv : Hid (Below w2.heap.size w2 w3) := hb
  have hnw : nw ≤ 20 := by rw [HW2.out.hl]; exact words_len xs
  have hnv : nv ≤ 20 := by rw [hv.hl]; exact words_len ys
  have HVL : Hid (vlB (ofS (wordsD ys ++ wordsD xs)) = true) := words2_vl xs ys
  have hvl := hv.hl
  have hvw := hv.wide
  have hvg := row_base hvo
  clear ho1 ho2 H1 H2 hb hv
  generalize wordsD xs = L at *
  generalize wordsD ys = M at *
  obtain ⟨gA, cA, w4, hrA, hoA, hgA, hcA, _⟩ := run_append_strs (P := Try.prog) w3 w2.heap.size 23 23 9 i0 _ Try.underlying23 hi hz0 hz1 hz2 (by rfl) gv nv cv _ hvo (some ⟨gw, 0, none⟩) nw cw L (HW2.out.below HBv.out) (by omega) HBv.out.size
  have HBA : Hid (Below w2.heap.size w2 w4) := HBv.out.grown hgA HBv.out.size (fun r e => by cases e; exact hvg)
  have hwML : ∀ s ∈ M ++ L, s.length ≤ maxLen := fun s hs => by
    rcases List.mem_append.1 hs with h | h
    · exact hvw s h
    · exact HW2.out.wide s h
  have HALL := Lib.hid (RdS.of_row (A := w4) (base := w2.heap.size) (e := 9) (g := gA) (len := nv + nw) (cap := cA) (ss := M ++ L) (by rw [List.length_append, ← HW2.out.hl, ← hvl]) (by omega) hwML (by rw [List.map_append]; exact hoA))
  have HRA := Lib.hid hrA
  clear hrA hoA hgA hwML hvo HBv hvl hvw hvg
  go_wp2_with (at_builtin; refine wpList_append_want (o := ⟨some 22, _, _, _, _, _⟩) _ rfl _ _ _ _ rfl _ _ rfl rfl _ _ HRA.out ?_)
  refine (of_any HALL.out).mono ?_
  rintro e w5 ⟨ad, nd, cd, rfl, hd, hb⟩
  have HB5 : Hid (Below w2.heap.size w2 w5) := HBA.out.trans (hb.mono HBA.out.size)
  have HD5 := Lib.hid hd
  have HW5 := Lib.hid (HW2.out.below HB5.out)
  have hnd : nd ≤ 40 := by
    have h1 := of_len (M ++ L)
    have h2 := HALL.out.hl
    rw [HD5.out.hl]; omega
  have HM : Hid (∀ s ∈ L, s ∈ ofS (M ++ L)) := fun s hs => (mem_of _ s).2 (List.mem_append.2 (.inr hs))
  have HI : Hid (Inc (ofS (M ++ L))) := of_inc _
  clear hd hb HRA HALL HBA
  generalize ofS (M ++ L) = D at *
  go_wp2_with fail
  refine (codesW_good HD5.out HW5.out HVL.out).mono ?_
  rintro e w6 ⟨hb, hp⟩
  obtain ⟨_, g6, n6, rfl, hr⟩ := hp.resolve_right fun h => by
    obtain ⟨⟨s, h1, h2⟩, _⟩ := h
    exact h2 (HM.out s h1)
  obtain rfl : n6 = nw := by have := hr.hl; rw [List.length_map, ← HW5.out.hl] at this; exact this
  have HB6 : Hid (Below w2.heap.size w2 w6) := HB5.out.trans (hb.mono HB5.out.size)
  have HD6 := Lib.hid (HD5.out.below hb)
  have HW6 := Lib.hid (HW5.out.below hb)
  have HC6 := Lib.hid hr
  clear hr hp hb HB5 HD5 HW5
  go_wp2_with fail
  refine (codesW_good HD6.out HD6.out HVL.out).mono ?_
  rintro e w7 ⟨hb, hp⟩
  obtain ⟨_, g7, n7, rfl, hr⟩ := hp.resolve_right fun h => by
    obtain ⟨⟨s, h1, h2⟩, _⟩ := h
    exact h2 h1
  obtain rfl : n7 = nd := by have := hr.hl; rw [List.length_map, ← HD6.out.hl] at this; exact this
  have HB7 : Hid (Below w2.heap.size w2 w7) := HB6.out.trans (hb.mono HB6.out.size)
  have HD7 := Lib.hid (HD6.out.below hb)
  have HW7 := Lib.hid (HW6.out.below hb)
  have HC7 := Lib.hid (HC6.out.below hb)
  have HA7 := Lib.hid hr
  clear hr hp hb HB6 HD6 HW6 HC6
  go_wp2_with fail
  have hbV : Below w7.heap.size w7 ((w7.alloc (.cells #[.slice (some ⟨g6, 0, none⟩) n6 n6, .int .i64 0] 35)).alloc (.cells #[.slice (some ⟨g7, 0, none⟩) n7 n7, .int .i64 0] 35)) := ((Below.refl _ _).alloc (Nat.le_refl _) _).alloc (by simp) _
  have hP8 : Duo ((w7.alloc (.cells #[.slice (some ⟨g6, 0, none⟩) n6 n6, .int .i64 0] 35)).alloc (.cells #[.slice (some ⟨g7, 0, none⟩) n7 n7, .int .i64 0] 35)) w7.heap.size 35 (.slice (some ⟨g6, 0, none⟩) n6 n6) (.int .i64 0) := (Duo.new w7 _ _ _).below ((Below.refl _ _).alloc (Nat.le_refl _) _) (by simp)
  have hP9 := Duo.new (w7.alloc (.cells #[.slice (some ⟨g6, 0, none⟩) n6 n6, .int .i64 0] 35)) 35 (.slice (some ⟨g7, 0, none⟩) n7 n7) (.int .i64 0)
  rw [show (w7.alloc (.cells #[.slice (some ⟨g6, 0, none⟩) n6 n6, .int .i64 0] 35)).heap.size = w7.heap.size + 1 by simp] at hP9
  refine (stringsW_good (HD7.out.below hbV) (HC7.out.below hbV) (by omega) HVL.out).mono ?_
  rintro e w8 ⟨hb, hp⟩
  obtain ⟨_, g8, n8, rfl, hr⟩ := hp.resolve_right fun h => by
    obtain ⟨⟨s, h1, h2⟩, _⟩ := h
    exact h2 (idx_ind HM.out s h1)
  rw [of_idx_map HM.out] at hr
  obtain rfl : n8 = n6 := by have := hr.hl; rw [← HW7.out.hl] at this; exact this
  have HB8 : Hid (Below w2.heap.size w2 w8) := (HB7.out.trans (hbV.mono HB7.out.size)).trans (hb.mono (HB7.out.trans (hbV.mono HB7.out.size)).size)
  have HD8 := Lib.hid ((HD7.out.below hbV).below hb)
  have HW8 := Lib.hid ((HW7.out.below hbV).below hb)
  have HC8 := Lib.hid ((HC7.out.below hbV).below hb)
  have HA8 := Lib.hid ((HA7.out.below hbV).below hb)
  have HP8 := Lib.hid (hP8.below hb hP8.lt)
  have HP9 := Lib.hid (hP9.below hb hP9.lt)
  have HS8 := Lib.hid hr
  obtain ⟨T8, hT8⟩ : ∃ T, w7.heap.size = T := ⟨_, rfl⟩
  rw [hT8] at HP8 HP9 ⊢
  clear hT8 hr hp hb hbV hP8 hP9 HB7 HD7 HW7 HC7 HA7
  have p80 := HP8.out.c0
  have p81 := HP8.out.c1
  have p8l := HP8.out.lt
  have p90 := HP9.out.c0
  have p91 := HP9.out.c1
  have p9l := HP9.out.lt
  have hbV : Below w8.heap.size w8 (w8.alloc (.cells #[.slice (some ⟨g8, 0, none⟩) n8 n8, .int .i64 0] 38)) := (Below.refl _ _).alloc (Nat.le_refl _) _
  go_wp2_with fail
  refine (sames_any (HS8.out.below hbV) (HW8.out.below hbV)).mono ?_
  rintro e w9 ⟨rfl, hb⟩
  rw [sameS_true rfl]
  have hbb : Below w8.heap.size w8 w9 := hbV.trans (hb.mono hbV.size)
  have HB9 : Hid (Below w.heap.size w w9) := HB2.out.trans ((HB8.out.trans (hbb.mono HB8.out.size)).mono HB2.out.size)
  have HP10 := HP8.out.below hbb HP8.out.lt
  have HP11 := HP9.out.below hbb HP9.out.lt
  have HQ8 := Lib.hid HP10
  have HQ9 := Lib.hid HP11
  have HLC : Hid (∀ j, j < n8 → gw < w9.heap.size ∧ w9.cell? ⟨gw, j, none⟩ = some (.string (bsOf (L[j]?.getD [])))) := fun j hj => by
    obtain ⟨b, off, e, _, hlt, hc⟩ := (HW8.out.below hbb).cells (by omega)
    cases e
    have := hc j hj
    rw [Nat.zero_add] at this
    exact ⟨hlt, this⟩
  have HCC : Hid (∀ j, j < n8 → g6 < w9.heap.size ∧ w9.cell? ⟨g6, j, none⟩ = some (.int .i64 ((D.idxOf (L[j]?.getD []) : Nat) : Int))) := fun j hj => by
    obtain ⟨b, off, e, _, hlt, hc⟩ := (HC8.out.below hbb).cells (by omega)
    cases e
    have := hc j hj
    rw [Nat.zero_add, map_at _ _ (by rw [← HW8.out.hl]; exact hj)] at this
    exact ⟨hlt, this⟩
  have HAC : Hid (∀ j, j < n7 → g7 < w9.heap.size ∧ w9.cell? ⟨g7, j, none⟩ = some (.int .i64 (j : Int))) := fun j hj => by
    obtain ⟨b, off, e, _, hlt, hc⟩ := (HA8.out.below hbb).cells (by omega)
    cases e
    have := hc j hj
    rw [Nat.zero_add, map_at _ _ (by rw [← HD8.out.hl]; exact hj), idx_self HI.out (by rw [← HD8.out.hl]; exact hj)] at this
    exact ⟨hlt, this⟩
  have HLL : Hid (∀ j, j < n8 → L[j]?.getD [] ∈ D) := fun j hj => HM.out _ (by
    have : j < L.length := by rw [← HW8.out.hl]; exact hj
    rw [List.getElem?_eq_getElem this]; exact List.getElem_mem this)
  have r80 := HP10.c0
  have r81 := HP10.c1
  have r8l := HP10.lt
  have r90 := HP11.c0
  have r91 := HP11.c1
  have r9l := HP11.lt
  have hwc := HW8.out.fit
  have hdc := HD8.out.fit
  clear HP10 HP11 p80 p81 p8l p90 p91 p9l hbV hb hbb HS8 HP8 HP9 HB8 HW8 HC8 HA8 HD8 HW2 HB2 hcA
  go_wp2_with fail
  clear r80 r81 r8l r90 r91 r9l
  go_loopw [11] (fun i wr => ∃ k : Nat, k ≤ n8 ∧ i = .int .i64 k ∧ Hid (Below w9.heap.size w9 wr)) (fun i _ => n8 - (intOf i).toNat)
  case atStart => exact ⟨0, Nat.zero_le _, rfl, Below.refl _ _⟩
  case round =>
    obtain ⟨k, hk, rfl, HBr⟩ := hrel
    by_cases hlt : k < n8
    · go_wp2_with fail
      go_loopw [12] (fun i wx => ∃ j : Nat, j ≤ n8 ∧ i = .int .i64 j ∧ Hid (Below w9.heap.size w9 wx)) (fun i _ => n8 - (intOf i).toNat)
      case atStart => exact ⟨0, Nat.zero_le _, rfl, HBr⟩
      case round =>
        obtain ⟨j, hj, rfl, HBx⟩ := hrel
        by_cases hlj : j < n8
        · have cx := (HBx.out.cell (p := ⟨gw, k, none⟩) (HLC.out k hlt).1).trans (HLC.out k hlt).2
          have cy := (HBx.out.cell (p := ⟨gw, j, none⟩) (HLC.out j hlj).1).trans (HLC.out j hlj).2
          have cp := (HBx.out.cell (p := ⟨g6, k, none⟩) (HCC.out k hlt).1).trans (HCC.out k hlt).2
          have cq := (HBx.out.cell (p := ⟨g6, j, none⟩) (HCC.out j hlj).1).trans (HCC.out j hlj).2
          have hPx := HQ8.out.below HBx.out HQ8.out.lt
          have p80 := hPx.c0
          have p8l := hPx.lt
          have mk := HLL.out k hlt
          have mj := HLL.out j hlj
          have hls := bs_less (L[k]?.getD []) (L[j]?.getD [])
          have heq := bs_same (L[k]?.getD []) (L[j]?.getD [])
          have hki : (k : Int) < (n8 : Int) := by omega
          have hji : (j : Int) < (n8 : Int) := by omega
          clear hPx
          rcases s_tri (L[k]?.getD []) (L[j]?.getD []) with h | h | h
          · have hpq := idx_less HI.out mk mj h
            rw [decide_eq_true h] at hls
            rw [decide_eq_false fun e => by rw [e] at h; exact slt_irrefl _ h] at heq
            generalize D.idxOf (L[k]?.getD []) = p at *
            generalize D.idxOf (L[j]?.getD []) = q at *
            generalize bsOf (L[k]?.getD []) = X at *
            generalize bsOf (L[j]?.getD []) = Y at *
            have hpq1 : (p : Int) < (q : Int) := by omega
            have hpq2 : ((p : Int) == (q : Int)) = false := by rw [beq_eq_false_iff_ne]; omega
            have hpq3 : ¬ (p : Int) = (q : Int) := by omega
            clear h mk mj
            go_wp2_with fail
            go_quiet (fail)
            go_wp2
            go_roundw
            case rel => exact ⟨j + 1, by omega, by go_num, below_drewN HBx.out _⟩
            case measure => simp [intOf]; omega
          · rw [← h] at cy cq
            have hls2 := bs_less (L[k]?.getD []) (L[k]?.getD [])
            have heq2 := bs_same (L[k]?.getD []) (L[k]?.getD [])
            rw [decide_eq_false (slt_irrefl _)] at hls2
            rw [decide_eq_true rfl] at heq2
            clear hls heq h mk mj
            generalize D.idxOf (L[k]?.getD []) = p at *
            generalize bsOf (L[k]?.getD []) = X at *
            go_wp2_with fail
            go_quiet (fail)
            go_wp2
            go_roundw
            case rel => exact ⟨j + 1, by omega, by go_num, below_drewN HBx.out _⟩
            case measure => simp [intOf]; omega
          · have hpq := idx_less HI.out mj mk h
            rw [decide_eq_false (slt_asymm h)] at hls
            rw [decide_eq_false fun e => by rw [e] at h; exact slt_irrefl _ h] at heq
            generalize D.idxOf (L[k]?.getD []) = p at *
            generalize D.idxOf (L[j]?.getD []) = q at *
            generalize bsOf (L[k]?.getD []) = X at *
            generalize bsOf (L[j]?.getD []) = Y at *
            have hpq1 : ¬ (p : Int) < (q : Int) := by omega
            have hpq5 : ¬ p < q := by omega
            have hpq6 : ¬ p = q := by omega
            have hpq2 : ((p : Int) == (q : Int)) = false := by rw [beq_eq_false_iff_ne]; omega
            have hpq3 : ¬ (p : Int) = (q : Int) := by omega
            clear h mk mj
            go_wp2_with fail
            go_quiet (fail)
            go_wp2
            go_roundw
            case rel => exact ⟨j + 1, by omega, by go_num, below_drewN HBx.out _⟩
            case measure => simp [intOf]; omega
        · obtain rfl : j = n8 := by omega
          go_wp2_with fail
          go_roundw
          case rel => exact ⟨k + 1, by omega, by go_num, HBx⟩
          case measure => simp [intOf]; omega
    · obtain rfl : k = n8 := by omega
      go_wp2_with fail
      go_loopw [13] (fun i wx => ∃ j : Nat, j ≤ n7 ∧ i = .int .i64 j ∧ Hid (Below w9.heap.size w9 wx)) (fun i _ => n7 - (intOf i).toNat)
      case atStart => exact ⟨0, Nat.zero_le _, rfl, HBr⟩
      case round =>
        obtain ⟨j, hj, rfl, HBx⟩ := hrel
        by_cases hlj : j < n7
        · have cp := (HBx.out.cell (p := ⟨g7, j, none⟩) (HAC.out j hlj).1).trans (HAC.out j hlj).2
          have hPx := HQ9.out.below HBx.out HQ9.out.lt
          have p90 := hPx.c0
          have p9l := hPx.lt
          clear hPx
          go_wp2
          go_roundw
          case rel => exact ⟨j + 1, by omega, by go_num, HBx⟩
          case measure => simp [intOf]; omega
        · obtain rfl : j = n7 := by omega
          go_wp2
          go_ret
          exact ⟨rfl, HB9.out.trans (HBx.out.mono HB9.out.size)⟩

end Go.Proofs.Ytllpnhegelddlaa.dictionaryCodes
