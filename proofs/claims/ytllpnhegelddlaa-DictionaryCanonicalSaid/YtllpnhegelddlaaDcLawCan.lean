/-
  What is accepted is the packed form of a dictionary, and the rest: for all bytes the law returns true and changes nothing. No condition.
-/
import Derived.Test.YtllpnhegelddlaaDcEx
import Derived.Test.YtllpnhegelddlaaDcOf
import Derived.Test.YtllpnhegelddlaaDcStep
namespace Go.Proofs.Ytllpnhegelddlaa.dictionaryCanonical
open Go Go.ChangeShapes Go.WideShapes Go.ChangeAt Go.RowKit
open Go.Proofs.Ytllpnhegelddlaa

set_option maxRecDepth 100000 in
set_option maxHeartbeats 4000000 in
theorem walk_bad {K2 : Nat → Prop} {a2 : Option Addr} {n2 c2 : Nat} {bs : List Int} (ho : Oct bs) (h2 : n2 ≤ 400) (w : World) (hR2 : Rd K2 w .u8 a2 n2 c2 bs) (x : Int) (hx : x = 5 ∨ x = 7) (he : (unD bs).2.2 = x) :
    Calls Try.prog 5 #[.slice a2 n2 c2] w fun e w' => e = .returned (.bool true) ∧ Below w.heap.size w w' := by
  have H2 := Lib.hid hR2
  have HE := Lib.hid he
  have HX : Hid (x ≠ 0) := by show _ ≠ _; omega
  clear hR2 he
  rcases hx with rfl | rfl
  all_goals
    go_enter Try.func5, Try.ntmps5
    go_wp2_with fail
    refine (examples5_any _).mono ?_
    rintro e w1 ⟨rfl, hb1⟩
    have HB1 := Lib.hid hb1
    clear hb1
    go_wp2_with fail
    refine (unpackedW_bad ho (H2.out.below HB1.out) HX.out HE.out).mono ?_
    rintro e w2 ⟨rfl, hb2⟩
    have HB2 : Hid (Below w.heap.size w w2) := HB1.out.trans (hb2.mono HB1.out.size)
    clear hb2
    go_wp2
    go_ret
    exact ⟨rfl, HB2.out.alloc HB2.out.size _⟩

set_option maxRecDepth 100000 in
set_option maxHeartbeats 4000000 in
theorem walk_good {K2 : Nat → Prop} {a2 : Option Addr} {n2 c2 : Nat} {bs : List Int} (ho : Oct bs) (h2 : n2 ≤ 400) (w : World) (hR2 : Rd K2 w .u8 a2 n2 c2 bs) (d : List (List UInt8)) (c : Nat) (hun : unD bs = (d, c, 0)) :
    Calls Try.prog 5 #[.slice a2 n2 c2] w fun e w' => e = .returned (.bool true) ∧ Below w.heap.size w w' := by
  obtain ⟨i0, hi, hz0, hz1, hz2⟩ := info_parts Try.infoB
  obtain ⟨hv, hc, hcan⟩ := un_can ho hun
  have HW2 : Hid (Rd (fun b => b < w.heap.size) w .u8 a2 n2 c2 bs) := hR2.mono fun b h _ => h
  have HUN := Lib.hid hun
  have HCAN : Hid (pkD d ++ bs.drop c = bs) := hcan.symm
  have HV := Lib.hid hv
  clear hR2 hun hv hc hcan
  go_enter Try.func5, Try.ntmps5
  go_wp2_with fail
  refine (examples5_any _).mono ?_
  rintro e w1 ⟨rfl, hb1⟩
  have HB1 := Lib.hid hb1
  clear hb1
  go_wp2_with fail
  refine (unpackedW_good ho (HW2.out.below HB1.out) HUN.out).mono ?_
  rintro e w2 ⟨hb2, a3, n3, c3, a4, n4, rfl, hr3, hr4⟩
  have HB2 : Hid (Below w.heap.size w w2) := HB1.out.trans (hb2.mono HB1.out.size)
  have HR3 := Lib.hid hr3
  have HR4 := Lib.hid (hr4.below hb2)
  have HN4 : Hid (n4 ≤ 400) := by
    have := hr4.hl
    have h' := HW2.out.hl
    rw [List.length_drop] at this
    show _ ≤ _
    omega
  clear hb2 hr3 hr4
  go_wp2_with fail
  have hbA : Below w2.heap.size w2 (w2.alloc (.cells #[.slice a3 n3 c3, .slice a4 n4 n4, .int .i64 0] 48)) := (Below.refl _ _).alloc (Nat.le_refl _) _
  refine (packedW_good (HR3.out.below hbA) HV.out).mono ?_
  rintro e w3 ⟨gp, lp, cp, rfl, hrp, hb3⟩
  have hq := (Tri5.new w2 48 (.slice a3 n3 c3) (.slice a4 n4 n4) (.int .i64 0)).below hb3 (by simp)
  have HB3 : Hid (Below w.heap.size w w3) := (HB2.out.trans (hbA.mono HB2.out.size)).trans (hb3.mono (HB2.out.trans (hbA.mono HB2.out.size)).size)
  have HR5 : Hid (Rd (fun b => b < w.heap.size) w3 .u8 a4 n4 n4 (bs.drop c)) := (HR4.out.below hbA).below hb3
  have HD3 := Lib.hid ((HR3.out.below hbA).below hb3)
  have hpl := pk_len HV.out
  rw [← hrp.hl] at hpl
  obtain ⟨G, hG⟩ : ∃ G, w2.heap.size = G := ⟨_, rfl⟩
  rw [hG] at hq ⊢
  have hq0 := hq.cell.1
  have hq1 := hq.cell.2.1
  have hql := hq.lt
  have HP := Lib.hid hrp
  clear hrp hb3 hbA hG hq HR3 HR4
  go_wp2_with fail
  have hbV : Below w3.heap.size w3 (w3.alloc (.cells #[.slice (some ⟨gp, 0, none⟩) lp cp, .int .i64 0] 41)) := (Below.refl _ _).alloc (Nat.le_refl _) _
  have hPV := Pair5.new w3 41 (.slice (some ⟨gp, 0, none⟩) lp cp) (.int .i64 0)
  obtain ⟨B, hB⟩ : ∃ B, w3.heap.size = B := ⟨_, rfl⟩
  have hqv0 : (w3.alloc (.cells #[.slice (some ⟨gp, 0, none⟩) lp cp, .int .i64 0] 41)).cell? ⟨G, 0, none⟩ = some (.slice a3 n3 c3) := (hbV.cell (p := ⟨G, 0, none⟩) hql).trans hq0
  have hqv1 : (w3.alloc (.cells #[.slice (some ⟨gp, 0, none⟩) lp cp, .int .i64 0] 41)).cell? ⟨G, 1, none⟩ = some (.slice a4 n4 n4) := (hbV.cell (p := ⟨G, 1, none⟩) hql).trans hq1
  have hqvl : G < (w3.alloc (.cells #[.slice (some ⟨gp, 0, none⟩) lp cp, .int .i64 0] 41)).heap.size := Nat.lt_of_lt_of_le hql hbV.size
  rw [hB] at hPV ⊢
  have hp0 := hPV.c0
  have hp1 := hPV.c1
  have hpf := hPV.lt
  have HV2 : Hid (Rd (fun b => b < w.heap.size) (w3.alloc (.cells #[.slice (some ⟨gp, 0, none⟩) lp cp, .int .i64 0] 41)) .u8 a4 n4 n4 (bs.drop c)) := HR5.out.below hbV
  have HVP : Hid (Rd (fun _ => True) (w3.alloc (.cells #[.slice (some ⟨gp, 0, none⟩) lp cp, .int .i64 0] 41)) .u8 (some ⟨gp, 0, none⟩) lp cp (pkD d)) := (HP.out.below hbV).mono fun _ _ _ => trivial
  have HVD := Lib.hid (HD3.out.below hbV)
  have HBV : Hid (Below w.heap.size w (w3.alloc (.cells #[.slice (some ⟨gp, 0, none⟩) lp cp, .int .i64 0] 41))) := HB3.out.trans (hbV.mono HB3.out.size)
  clear hbV hPV hq0 hq1 hql
  generalize w3.alloc (.cells #[.slice (some ⟨gp, 0, none⟩) lp cp, .int .i64 0] 41) = V at *
  clear HB3 HP HR5 HD3 hB HB2
  have hsv : w.heap.size ≤ V.heap.size := HBV.out.size
  have hvl := valid_any (HVD.out.below (below_drew5 (Below.refl _ V)))
  rw [HV.out] at hvl
  have HVL := Lib.hid hvl
  clear hvl
  go_region_law (first
    | (refine step5_want (by go_simp) 22 #[.tmp 47] #[23] (by rfl) #[.slice a3 n3 c3] (by go_simp) (enters_of Try.func22 (by kernel_rfl) rfl _ _) _ _ HVL.out ?_
       rintro _ rfl)
    | (obtain ⟨g5, c5, w5, hr5, hrow5, hg5, hc5, hbg5⟩ := run_append_copy' (P := Try.prog) (V.drew.alloc (.cells #[] 5)) w.heap.size 22 22 5 i0 _ 1 .u8 Try.underlying22 hi hz0 hz1 hz2 rfl V.heap.size 0 (World.ownsRow_made V.drew #[] 0 hsv (by decide) rfl) (.slice (some ⟨gp, 0, none⟩) lp cp) (pkD d) lp HVP.out.hl ((HVP.out.below (below_drew5 (Below.refl _ V))).below ((Below.refl _ _).alloc (Nat.le_refl _) _)).reads (by unfold maxLen; omega) (by omega) ((below_drew5 HBV.out).alloc hsv (.cells #[] 5)).size
       refine step5_append (by go_simp) (.tmp 55) (.tmp 57) 22 22 (by rfl) (.slice (some ⟨V.heap.size, 0, none⟩) 0 0) (.slice (some ⟨gp, 0, none⟩) lp cp) (by go_simp) (by go_simp) _ _ hr5 ?_
       have HROW5 := Lib.hid hrow5
       have HK5 : Hid (Below V.heap.size V w5) := (below_drew5 ((Below.refl _ V))).trans (((Below.refl _ V.drew).alloc (Nat.le_refl _) (.cells #[] 5)).grown hg5 (by simp) (fun k e => by cases e; exact Nat.le_refl _))
       have HB5 : Hid (Below w.heap.size w w5) := HBV.out.trans (HK5.out.mono hsv)
       have hq5 := (HK5.out.cell (p := ⟨G, 1, none⟩) hqvl).trans hqv1
       clear hr5 hrow5 hg5 hc5 hbg5)
    | (obtain ⟨g6, c6, w6, hr6, hrow6, hg6, hc6, hbg6⟩ := run_append_reads5 (P := Try.prog) w5 w.heap.size 22 22 5 i0 _ 1 .u8 Try.underlying22 hi hz0 hz1 hz2 rfl g5 lp c5 _ HROW5.out (.slice a4 n4 n4) (bs.drop c) n4 HV2.out.hl (HV2.out.below HK5.out).reads (by have := HN4.out; unfold maxLen; omega) (by have := HN4.out; omega) HB5.out.size
       refine step5_append (by go_simp) (.tmp 58) (.tmp 60) 22 22 (by rfl) (.slice (some ⟨g5, 0, none⟩) lp c5) (.slice a4 n4 n4) (by go_simp) (by go_simp) _ _ hr6 ?_
       have HB6 : Hid (Below w.heap.size w w6) := HB5.out.grown hg6 HB5.out.size (fun k e => by cases e; exact row_base HROW5.out)
       have HR6 : Hid (Rd (fun b => w.heap.size ≤ b) w6 .u8 (some ⟨g6, 0, none⟩) (lp + n4) c6 bs) := by
         have h := Rd.of_row (zs := pkD d ++ bs.drop c) (by rw [List.length_append, ← HVP.out.hl, ← HV2.out.hl]) hc6 (by have := HN4.out; omega) (by rw [List.map_append]; exact hrow6)
         rwa [HCAN.out] at h
       clear hr6 hrow6 hg6 hc6 hbg6)
    | (refine step5_want (by go_simp) 25 #[.tmp 61, .tmp 62] #[22, 22] (by rfl) #[.slice (some ⟨g6, 0, none⟩) (lp + n4) c6, .slice a2 n2 c2] (by go_simp) (enters_of Try.func25 (by kernel_rfl) rfl _ _) _ _ (same_any HR6.out (HW2.out.kept (Kept.of_below HB6.out))) ?_
       intro w8 hb8
       have HB8 : Hid (Below w.heap.size w w8) := HB6.out.trans (hb8.mono HB6.out.size)
       have hsame : sameB bs bs = true := sameB_true rfl
       clear hb8)
    | (trace_state; fail "STOP"))
  all_goals
    simp [Act.put]
    go_wp2
    go_ret
    exact ⟨rfl, HB8.out⟩

end Go.Proofs.Ytllpnhegelddlaa.dictionaryCanonical
