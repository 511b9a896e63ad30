/-
  A list is decoded from its encoding, whatever follows; what is accepted is the encoding and the rest: for all lists and bytes the law returns true and changes nothing. No condition.
-/
import Derived.Test.YthmgbnlffkhblaaRows
import Derived.Test.YthmgbnlffkhblaaRnEx
import Derived.Test.YthmgbnlffkhblaaRnErr
import Derived.OpenShut
import Derived.Deep.DeepCutAuto
namespace Go.Proofs.Ythmgbnlffkhblaa.runsInverts
open Go.ChangeShapes Go.WideShapes Go.ChangeAt Go.RowKit
open Go.Proofs.Ythmgbnlffkhblaa

set_option maxRecDepth 100000 in
set_option maxHeartbeats 4000000 in
theorem walk {K1 K2 : Nat → Prop} {a1 a2 : Option Addr} {n1 c1 n2 c2 : Nat} {zs bs : List Int} (hz : Smalls zs) (ho : Oct bs) (h1 : n1 ≤ 4096) (h2 : n2 ≤ 300) (w : World) (hR1 : Rd K1 w .i64 a1 n1 c1 zs) (hR2 : Rd K2 w .u8 a2 n2 c2 bs) :
    Calls Try.prog 8 #[.slice a1 n1 c1, .slice a2 n2 c2] w fun e w' => e = .returned (.bool true) ∧ Below w.heap.size w w' := by
  obtain ⟨i0, hi, hz0, hz1, hz2⟩ := info_parts Try.infoB
  have HW1 : Hid (Rd (fun b => b < w.heap.size) w .i64 a1 n1 c1 zs) := hR1.mono fun b h _ => h
  have HW2 : Hid (Rd (fun b => b < w.heap.size) w .u8 a2 n2 c2 bs) := hR2.mono fun b h _ => h
  clear hR1 hR2
  go_enter Try.func8, Try.ntmps8
  go_wp2_with fail
  refine (examples4_any _).mono ?_
  rintro e w1 ⟨rfl, hb1⟩
  have HB1 := Lib.hid hb1
  clear hb1
  go_wp2_with fail
  have hl := HW1.out.hl
  refine (encoded_any hz h1 (HW1.out.below HB1.out)).mono ?_
  rintro e w2 ⟨gp, lp, cp, rfl, hrp, hb2⟩
  have hll := hrp.hl
  obtain ⟨hpo, hpl⟩ := en_len hz (by omega)
  rw [← hll] at hpo hpl
  have HLP : Hid (lp = (enS zs).length) := hll
  have hUN := de_en hz (by omega) bs
  rw [← hll] at hUN
  have HUN := Lib.hid hUN
  have HP := Lib.hid hrp
  have HB2 : Hid (Below w.heap.size w w2) := HB1.out.trans (hb2.mono HB1.out.size)
  have HO : Hid (Oct (enS zs ++ bs)) := (en_oct zs).append ho
  have HDR : Hid ((enS zs ++ bs).drop lp = bs) := List.drop_left' hll.symm
  clear hrp hb2 hl hll hUN
  go_upto_region 7 with fail
  have hbV : Below w2.heap.size w2 (w2.alloc (.cells #[.slice (some ⟨gp, 0, none⟩) lp cp, .int .i64 0] 47)) := (Below.refl _ _).alloc (Nat.le_refl _) _
  have hPV := Pair.new w2 47 (.slice (some ⟨gp, 0, none⟩) lp cp) (.int .i64 0)
  obtain ⟨B, hB⟩ : ∃ B, w2.heap.size = B := ⟨_, rfl⟩
  rw [hB] at hPV ⊢
  have hp0 := hPV.c0
  have hp1 := hPV.c1
  have hpf := hPV.lt
  have HVP : Hid (Rd (fun b => w1.heap.size ≤ b) (w2.alloc (.cells #[.slice (some ⟨gp, 0, none⟩) lp cp, .int .i64 0] 47)) .u8 (some ⟨gp, 0, none⟩) lp cp (enS zs)) := HP.out.below hbV
  have HBV : Hid (Below w.heap.size w (w2.alloc (.cells #[.slice (some ⟨gp, 0, none⟩) lp cp, .int .i64 0] 47))) := HB2.out.trans (hbV.mono HB2.out.size)
  clear hbV hPV
  generalize w2.alloc (.cells #[.slice (some ⟨gp, 0, none⟩) lp cp, .int .i64 0] 47) = V at *
  clear HB2 HP hB
  have hbN : Below w.heap.size w (V.alloc (.cells #[] 5)) := HBV.out.alloc HBV.out.size _
  obtain ⟨g5, c5, w5, hr5, hrow5, hg5, hc5, hbg5⟩ := run_append_copy' (V.alloc (.cells #[] 5)) w.heap.size 23 23 5 i0 _ 1 .u8 Try.underlying23 hi hz0 hz1 hz2 rfl V.heap.size 0 (World.ownsRow_made V #[] 0 HBV.out.size (by decide) rfl) (.slice (some ⟨gp, 0, none⟩) lp cp) (enS zs) lp HLP.out (HVP.out.below ((Below.refl _ _).alloc (Nat.le_refl _) _)).reads (by unfold maxLen; omega) (by omega) hbN.size
  have HROW5 := Lib.hid hrow5
  have HR5 := Lib.hid hr5
  have HB5 : Hid (Below w.heap.size w w5) := hbN.grown hg5 hbN.size (fun k e => by cases e; exact HBV.out.size)
  have HK5 : Hid (Below V.heap.size V w5) := ((Below.refl _ V).alloc (Nat.le_refl _) (.cells #[] 5)).grown hg5 (by simp) (fun k e => by cases e; exact Nat.le_refl _)
  clear hr5 hrow5 hg5 hc5 hbg5 hbN
  obtain ⟨g6, c6, w6, hr6, hrow6, hg6, hc6, hbg6⟩ := run_append_reads w5 w.heap.size 23 23 5 i0 _ 1 .u8 Try.underlying23 hi hz0 hz1 hz2 rfl g5 lp c5 _ HROW5.out (.slice a2 n2 c2) bs n2 HW2.out.hl (HW2.out.below HB5.out).reads (by unfold maxLen; omega) (by omega) HB5.out.size
  have HR6 := Lib.hid hr6
  have HB6 : Hid (Below w.heap.size w w6) := HB5.out.grown hg6 HB5.out.size (fun k e => by cases e; exact row_base HROW5.out)
  have HX6 : Hid (Rd (fun b => w.heap.size ≤ b) w6 .u8 (some ⟨g6, 0, none⟩) (lp + n2) c6 (enS zs ++ bs)) := Rd.of_row (by rw [List.length_append, ← HLP.out, ← HW2.out.hl]) hc6 (by omega) (by rw [List.map_append]; exact hrow6)
  clear hr6 hrow6 hg6 hc6 hbg6 hi hz0 hz1 hz2 i0
  go_wp2_with (first
    | (at_builtin; refine wpList_append_want (o := ⟨some 30, _, _, _, _, _⟩) _ rfl _ _ _ _ rfl _ _ rfl rfl _ _ HR5.out ?_)
    | (at_builtin; refine wpList_append_want (o := ⟨some 32, _, _, _, _, _⟩) _ rfl _ _ _ _ rfl _ _ rfl rfl _ _ HR6.out ?_))
  refine (decoded_good HO.out HX6.out HUN.out).mono ?_
  rintro e w7 ⟨hb7, a3, n3, c3, a4, n4, rfl, hr7, hr8⟩
  rw [HDR.out] at hr8
  have HB7 : Hid (Below w.heap.size w w7) := HB6.out.trans (hb7.mono HB6.out.size)
  have HR7 := Lib.hid hr7
  have HR8 := Lib.hid (hr8.below hb7)
  clear hb7 hr7 hr8 hp0 hp1 hpf HVP HBV HK5 HB5 HROW5 HR5 HR6
  go_wp2_with fail
  have hbG : Below w7.heap.size w7 (w7.alloc (.cells #[.slice a3 n3 c3, .slice a4 n4 n4, .int .i64 0] 58)) := (Below.refl _ _).alloc (Nat.le_refl _) _
  have hG : Tri (w7.alloc (.cells #[.slice a3 n3 c3, .slice a4 n4 n4, .int .i64 0] 58)) w7.heap.size 58 (.slice a3 n3 c3) (.slice a4 n4 n4) (.int .i64 0) := Tri.new _ _ _ _ _
  have HBG : Hid (Below w.heap.size w _) := HB7.out.trans (hbG.mono HB7.out.size)
  have hints := ints_any (HR7.out.below hbG) (HW1.out.kept (Kept.of_below HBG.out))
  rw [sameB_true rfl] at hints
  refine hints.mono ?_
  rintro e w8 ⟨rfl, hb8⟩
  have hG8 := hG.below hb8 hG.lt
  obtain ⟨q0, q1, q2⟩ := hG8.cell
  have qlt := hG8.lt
  have HB8 : Hid (Below w.heap.size w w8) := HBG.out.trans (hb8.mono HBG.out.size)
  have HR9 := Lib.hid ((HR8.out.below hbG).below hb8)
  clear hints hb8 hG hG8 hbG HBG HR7 HR8
  go_wp2_with fail
  have hsame := same_any HR9.out (HW2.out.kept (Kept.of_below HB8.out))
  rw [sameB_true rfl] at hsame
  refine hsame.mono ?_
  rintro e w9 ⟨rfl, hb9⟩
  have HB9 : Hid (Below w.heap.size w w9) := HB8.out.trans (hb9.mono HB8.out.size)
  clear hsame hb9 q0 q1 q2 qlt HR9
  go_wp2_with fail
  have HW3 : Hid (Rd (fun b => b < w.heap.size) w9 .u8 a2 n2 c2 bs) := HW2.out.below HB9.out
  clear HB6 HX6 HB7 HB8 HO HUN HDR HLP hpo hpl
  rcases de_err4 bs with he | he | he
  · have hund : deS bs = ((deS bs).1, (deS bs).2.1, 0) := by rw [← he]
    obtain ⟨l, hle⟩ : ∃ l, (deS bs).1 = l := ⟨_, rfl⟩
    obtain ⟨c, hce⟩ : ∃ c, (deS bs).2.1 = c := ⟨_, rfl⟩
    rw [hle, hce] at hund
    obtain ⟨hl4, hzl, hc, hcan⟩ := de_canon ho hund
    have HUN := Lib.hid hund
    have HCAN : Hid (enS l ++ bs.drop c = bs) := hcan.symm
    have HL4 := Lib.hid hl4
    have HC := Lib.hid hc
    clear he hle hce hund hl4 hc hcan
    refine (decoded_good ho HW3.out HUN.out).mono ?_
    rintro e w10 ⟨hb10, a5, n5, c5, a6, n6, rfl, hr5, hr6⟩
    have HB10 : Hid (Below w.heap.size w w10) := HB9.out.trans (hb10.mono HB9.out.size)
    have HR5 := Lib.hid hr5
    have HR6 := Lib.hid (hr6.below hb10)
    have HN6 : Hid (n6 ≤ 300) := by
      have := hr6.hl
      have h' := HW2.out.hl
      rw [List.length_drop] at this
      show _ ≤ _
      omega
    clear hb10 hr5 hr6
    go_upto_region 13 with fail
    have hbG : Below w10.heap.size w10 (w10.alloc (.cells #[.slice a5 n5 c5, .slice a6 n6 n6, .int .i64 0] 58)) := (Below.refl _ _).alloc (Nat.le_refl _) _
    have hG : Tri (w10.alloc (.cells #[.slice a5 n5 c5, .slice a6 n6 n6, .int .i64 0] 58)) w10.heap.size 58 (.slice a5 n5 c5) (.slice a6 n6 n6) (.int .i64 0) := Tri.new _ _ _ _ _
    have HBG : Hid (Below w.heap.size w (w10.alloc (.cells #[.slice a5 n5 c5, .slice a6 n6 n6, .int .i64 0] 58))) := HB10.out.trans (hbG.mono HB10.out.size)
    have HR5 := Lib.hid (HR5.out.below hbG)
    have HR6 := Lib.hid (HR6.out.below hbG)
    obtain ⟨G, hGe⟩ : ∃ G, w10.heap.size = G := ⟨_, rfl⟩
    rw [hGe] at hG ⊢
    clear hGe hbG
    generalize w10.alloc (.cells #[.slice a5 n5 c5, .slice a6 n6 n6, .int .i64 0] 58) = U at *
    have HG := Lib.hid hG
    obtain ⟨q0, q1, q2⟩ := hG.cell
    have qlt := hG.lt
    clear hG
    go_wp2_with fail
    clear q0 q1 q2 qlt
    refine (encoded_any hzl (by rw [HR5.out.hl]; exact HL4.out) HR5.out).mono ?_
    rintro e w11 ⟨gq, lq, cq, rfl, hrq, hb11⟩
    have hqq := hrq.hl
    obtain ⟨hqo, hql⟩ := en_len hzl HL4.out
    rw [← hqq] at hqo hql
    have HLQ : Hid (lq = (enS l).length) := hqq
    have HQ := Lib.hid (hrq.mono (K' := fun _ => True) fun _ _ _ => trivial)
    have HB11 : Hid (Below w.heap.size w w11) := HBG.out.trans (hb11.mono HBG.out.size)
    have HR6 := Lib.hid (HR6.out.below hb11)
    have HG := Lib.hid (HG.out.below hb11 HG.out.lt)
    clear hrq hb11 hqq
    go_upto_region 16 with fail
    have hbV : Below w11.heap.size w11 (w11.alloc (.cells #[.slice (some ⟨gq, 0, none⟩) lq cq, .int .i64 0] 47)) := (Below.refl _ _).alloc (Nat.le_refl _) _
    have hPV := Pair.new w11 47 (.slice (some ⟨gq, 0, none⟩) lq cq) (.int .i64 0)
    obtain ⟨B2, hB2⟩ : ∃ B, w11.heap.size = B := ⟨_, rfl⟩
    have hGV := HG.out.below hbV HG.out.lt
    rw [hB2] at hPV ⊢
    have hp0 := hPV.c0
    have hp1 := hPV.c1
    have hpf := hPV.lt
    have hqv := hGV.cell.2.1
    have hqvl := hGV.lt
    have HVR : Hid (Rd _ (w11.alloc (.cells #[.slice (some ⟨gq, 0, none⟩) lq cq, .int .i64 0] 47)) .u8 a6 n6 n6 (bs.drop c)) := HR6.out.below hbV
    have HVP : Hid (Rd (fun _ => True) (w11.alloc (.cells #[.slice (some ⟨gq, 0, none⟩) lq cq, .int .i64 0] 47)) .u8 (some ⟨gq, 0, none⟩) lq cq (enS l)) := HQ.out.below hbV
    have HBV : Hid (Below w.heap.size w (w11.alloc (.cells #[.slice (some ⟨gq, 0, none⟩) lq cq, .int .i64 0] 47))) := HB11.out.trans (hbV.mono HB11.out.size)
    clear hbV hPV hGV
    generalize w11.alloc (.cells #[.slice (some ⟨gq, 0, none⟩) lq cq, .int .i64 0] 47) = V2 at *
    clear HB11 HQ HR6 HG hB2 HBG HB10 HB9 HR5 HW3
    have hsv : w.heap.size ≤ V2.heap.size := HBV.out.size
    obtain ⟨i0, hi, hz0, hz1, hz2⟩ := info_parts Try.infoB
    go_region_law (first
      | (obtain ⟨g5, c5, w5, hr5, hrow5, hg5, hc5, hbg5⟩ := run_append_copy' (V2.drew.alloc (.cells #[] 5)) w.heap.size 23 23 5 i0 _ 1 .u8 Try.underlying23 hi hz0 hz1 hz2 rfl V2.heap.size 0 (World.ownsRow_made V2.drew #[] 0 hsv (by decide) rfl) (.slice (some ⟨gq, 0, none⟩) lq cq) (enS l) lq HLQ.out ((HVP.out.below (below_drew (Below.refl _ V2))).below ((Below.refl _ _).alloc (Nat.le_refl _) _)).reads (by unfold maxLen; omega) (by omega) ((below_drew HBV.out).alloc hsv (.cells #[] 5)).size
         refine step_append_want (by go_simp) (.tmp 76) (.tmp 78) 23 23 (by rfl) (.slice (some ⟨V2.heap.size, 0, none⟩) 0 0) (.slice (some ⟨gq, 0, none⟩) lq cq) (by go_simp) (by go_simp) _ _ hr5 ?_
         have HROW5 := Lib.hid hrow5
         have HK5 : Hid (Below V2.heap.size V2 w5) := (below_drew ((Below.refl _ V2))).trans (((Below.refl _ V2.drew).alloc (Nat.le_refl _) (.cells #[] 5)).grown hg5 (by simp) (fun k e => by cases e; exact Nat.le_refl _))
         have HB5 : Hid (Below w.heap.size w w5) := HBV.out.trans (HK5.out.mono hsv)
         have hq5 := (HK5.out.cell (p := ⟨G, 1, none⟩) hqvl).trans hqv
         clear hr5 hrow5 hg5 hc5 hbg5)
      | (obtain ⟨g6, c6, w6, hr6, hrow6, hg6, hc6, hbg6⟩ := run_append_reads w5 w.heap.size 23 23 5 i0 _ 1 .u8 Try.underlying23 hi hz0 hz1 hz2 rfl g5 lq c5 _ HROW5.out (.slice a6 n6 n6) (bs.drop c) n6 HVR.out.hl (HVR.out.below HK5.out).reads (by have := HN6.out; unfold maxLen; omega) (by have := HN6.out; omega) HB5.out.size
         refine step_append_want (by go_simp) (.tmp 79) (.tmp 81) 23 23 (by rfl) (.slice (some ⟨g5, 0, none⟩) lq c5) (.slice a6 n6 n6) (by go_simp) (by go_simp) _ _ hr6 ?_
         have HB6 : Hid (Below w.heap.size w w6) := HB5.out.grown hg6 HB5.out.size (fun k e => by cases e; exact row_base HROW5.out)
         have HR6 : Hid (Rd (fun b => w.heap.size ≤ b) w6 .u8 (some ⟨g6, 0, none⟩) (lq + n6) c6 bs) := by
           have h := Rd.of_row (zs := enS l ++ bs.drop c) (by rw [List.length_append, ← HLQ.out, ← HVR.out.hl]) hc6 (by have := HN6.out; omega) (by rw [List.map_append]; exact hrow6)
           rwa [HCAN.out] at h
         clear hr6 hrow6 hg6 hc6 hbg6)
      | (refine step_call_want (by go_simp) 14 #[.tmp 82, .tmp 83] #[23, 23] (by rfl) #[.slice (some ⟨g6, 0, none⟩) (lq + n6) c6, .slice a2 n2 c2] (by go_simp) (enters_of Try.func14 (by kernel_rfl) rfl _ _) _ _ (same_any HR6.out (HW2.out.kept (Kept.of_below HB6.out))) ?_
         intro w8 hb8
         have HB8 : Hid (Below w.heap.size w w8) := HB6.out.trans (hb8.mono HB6.out.size)
         have hsame : sameB bs bs = true := sameB_true rfl
         clear hb8)
      | (trace_state; fail "STOP"))
    all_goals
      simp [Act.put]
      go_wp2
      go_ret
      exact ⟨rfl, HB8.out⟩
  all_goals
    have HE := Lib.hid he
    clear he
    refine (decoded_bad ho HW3.out (by decide) HE.out).mono ?_
    rintro e w10 ⟨rfl, hb10⟩
    have HB10 : Hid (Below w.heap.size w w10) := HB9.out.trans (hb10.mono HB9.out.size)
    clear hb10
    go_wp2
    go_ret
    exact ⟨rfl, HB10.out.alloc HB10.out.size _⟩

end Go.Proofs.Ythmgbnlffkhblaa.runsInverts
