/-
  Sums and differences undo each other; a number added to all elements changes the first difference alone: for all lists and numbers the law returns true and changes nothing. No condition.
-/
import Derived.Test.YthmgbnlffkhblaaRows
import Derived.Test.YthmgbnlffkhblaaRnEx
import Derived.Lib.QuietBelow
import Derived.OpenShut
namespace Go.Proofs.Ythmgbnlffkhblaa.runsDifferences
open Go.ChangeShapes Go.WideShapes Go.ChangeAt Go.RowKit
open Go.Proofs.Ythmgbnlffkhblaa

/-- The same number added to all elements. -/
def addL (n : Int) (zs : List Int) : List Int := zs.map fun x => w64 (x + n)
theorem addL_smalls (n : Int) (zs : List Int) : Smalls (addL n zs) := fun x hx => by
  obtain ⟨y, _, rfl⟩ := List.mem_map.1 hx
  exact w64_i64 _
theorem addL_length (n : Int) (zs : List Int) : (addL n zs).length = zs.length := List.length_map _
theorem addF (n : Int) : ∀ (l : List Int) (p : Int), dfF (w64 (p + n)) (addL n l) = dfF p l
  | [], _ => rfl
  | y :: s, p => by
    have e : w64 (w64 (y + n) - w64 (p + n)) = w64 (y - p) := by unfold w64; omega
    show w64 (w64 (y + n) - w64 (p + n)) :: dfF (w64 (y + n)) (addL n s) = _
    rw [e, addF n s y]; rfl
theorem add_tail (n : Int) (zs : List Int) : (dfS (addL n zs)).drop 1 = (dfS zs).drop 1 := by
  cases zs with
  | nil => rfl
  | cons x r => exact addF n r x
theorem add_head (n : Int) (zs : List Int) (h : 0 < zs.length) : (dfS (addL n zs))[0]?.getD 0 = w64 (zs[0]?.getD 0 + n) := by
  cases zs with
  | nil => simp at h
  | cons x r => rfl

set_option maxRecDepth 100000 in
set_option maxHeartbeats 4000000 in
theorem walk {K : Nat → Prop} {a : Option Addr} {len cap : Nat} {zs : List Int} (hz : Smalls zs) (n : Int) (hn : I64 n) (hl : len ≤ 300) (w : World) (hR : Rd K w .i64 a len cap zs) :
    Calls Try.prog 7 #[.slice a len cap, .int .i64 n] w fun e w' => e = .returned (.bool true) ∧ Below w.heap.size w w' := by
  obtain ⟨i0, hi, hz0, hz1, hz2⟩ := info_parts Try.infoN
  have HR := Lib.hid hR
  have HL : Hid (len = zs.length) := hR.hl
  have HZ := Lib.hid hz
  have hfit := hR.fit
  obtain ⟨hn1, hn2⟩ := hn
  clear hR hz
  go_enter Try.func7, Try.ntmps7
  go_wp2_with fail
  refine (examples4_any _).mono ?_
  rintro e w1 ⟨rfl, hb1⟩
  have HB1 := Lib.hid hb1
  have HR1 := Lib.hid (HR.out.below hb1)
  have hrow0 := World.ownsRow_made w1 (base := w1.heap.size) (e := 3) (size := 1) #[] 0 (Nat.le_refl _) (by decide) rfl
  have HROW := Lib.hid hrow0
  clear hb1 hrow0
  go_wp2
  go_loopw [6, 7] (fun s i wr => ∃ k g c : Nat, k ≤ len ∧ i = .int .i64 k ∧ s = .slice (some ⟨g, 0, none⟩) k c ∧ Hid (wr.ownsRow w1.heap.size 3 1 (.slice (some ⟨g, 0, none⟩) k c) k ((addL n (zs.take k)).map (Value.int .i64))) ∧ Hid (Below w1.heap.size w1 wr)) (fun _ i _ => len - (intOf i).toNat)
  case atStart => exact ⟨0, w1.heap.size, 0, Nat.zero_le _, rfl, rfl, HROW, (Below.refl _ _).alloc (Nat.le_refl _) _⟩
  case round =>
    obtain ⟨k, g, c, hk, rfl, rfl, HRW, HBW⟩ := hrel
    by_cases hlt : k < len
    · obtain ⟨b, off, rfl, _, _, hcs⟩ := (HR1.out.below HBW.out).cells (by omega)
      have hcx := hcs k hlt
      obtain ⟨g2, c2, w2, hr2, hrow2, hg2, _, _⟩ := run_append_one (P := Try.prog) wr w1.heap.size 22 22 3 i0 _ 8 .i64 Try.underlying22 hi hz0 hz1 hz2 rfl g k c _ HRW.out (w64 (zs[k]?.getD 0 + n)) 3 (by unfold maxLen; omega) (by omega) HBW.out.size
      have HR2 := Lib.hid hr2
      have HROW2 : Hid (w2.ownsRow w1.heap.size 3 1 (.slice (some ⟨g2, 0, none⟩) (k + 1) c2) (k + 1) ((addL n (zs.take (k + 1))).map (Value.int .i64))) := by
        show w2.ownsRow _ _ _ _ _ _
        rw [take_getD_snoc zs k (by rw [← HL.out]; exact hlt)]
        unfold addL
        rw [List.map_append, List.map_append]
        exact hrow2
      have HB2 : Hid (Below w1.heap.size w1 w2) := (HBW.out.alloc HBW.out.size _).grown hg2 (HBW.out.alloc HBW.out.size _).size (fun r e => by cases e; exact row_base HRW.out)
      have hval : wrap64 (zs[k]?.getD 0 + n) = w64 (zs[k]?.getD 0 + n) := w64_wrap _
      have hval2 : IntKind.i64.wrap (zs[k]?.getD 0 + n) = w64 (zs[k]?.getD 0 + n) := by rw [IntKind.wrap_i64]; unfold w64; omega
      clear hcs hr2 hrow2 hg2
      generalize w64 (zs[k]?.getD 0 + n) = y at *
      generalize zs[k]?.getD 0 = x at *
      clear hn1 hn2
      go_wp2_with (at_builtin; refine wpList_append_want (o := ⟨some 32, _, _, _, _, _⟩) _ rfl _ _ _ _ rfl _ _ rfl rfl _ _ HR2.out ?_)
      go_roundw
      case rel => exact ⟨k + 1, g2, c2, by omega, by go_num, rfl, HROW2, HB2⟩
      case measure => simp [intOf]; omega
    · obtain rfl : k = len := by omega
      have HM : Hid (Rd (fun b => w1.heap.size ≤ b) wr .i64 (some ⟨g, 0, none⟩) k c (addL n zs)) := by
        have h := HRW.out
        rw [HL.out, List.take_length, ← HL.out] at h
        exact Rd.of_row (by rw [addL_length]; exact HL.out) (by obtain ⟨cur, _, h, _⟩ := row_block HRW.out; exact h) (by omega) h
      have HRX := Lib.hid (HR1.out.below HBW.out)
      have HBX : Hid (Below w.heap.size w wr) := HB1.out.trans (HBW.out.mono HB1.out.size)
      clear HRW HBW HR1 HB1 HROW
      have hl40 : k ≤ 1099511627776 := by omega
      have HL40 := Lib.hid hl40
      clear hl40
      go_wp2_with fail
      refine (diff_any HZ.out HL40.out HRX.out).mono ?_
      rintro e w3 ⟨a3, n3, c3, rfl, hr3, hb3⟩
      have HD3 := Lib.hid hr3
      have hn3 : n3 = k := by rw [hr3.hl, df_length, ← HL.out]
      have HM3 := Lib.hid (HM.out.below hb3)
      have HR3 := Lib.hid (HRX.out.below hb3)
      have HB3 : Hid (Below w.heap.size w w3) := HBX.out.trans (hb3.mono HBX.out.size)
      clear hr3 hb3 HM HRX HBX
      subst hn3
      go_wp2_with fail
      refine (diff_any (addL_smalls n zs) HL40.out HM3.out).mono ?_
      rintro e w4 ⟨a4, n4, c4, rfl, hr4, hb4⟩
      have HE4 := Lib.hid hr4
      have hn4 : n4 = n3 := by rw [hr4.hl, df_length, addL_length, ← HL.out]
      have HD4 := Lib.hid (HD3.out.below hb4)
      have HR4 := Lib.hid (HR3.out.below hb4)
      have HB4 : Hid (Below w.heap.size w w4) := HB3.out.trans (hb4.mono HB3.out.size)
      clear hr4 hb4 HM3 HR3 HB3 HD3
      subst hn4
      go_wp2_with fail
      refine (sums_any (df_smalls HZ.out) HL40.out HD4.out).mono ?_
      rintro e w5 ⟨a5, n5, c5, rfl, hr5, hb5⟩
      rw [sm_df HZ.out] at hr5
      have HS5 := Lib.hid hr5
      have HD5 := Lib.hid (HD4.out.below hb5)
      have HE5 := Lib.hid (HE4.out.below hb5)
      have HR5 := Lib.hid (HR4.out.below hb5)
      have HB5 : Hid (Below w.heap.size w w5) := HB4.out.trans (hb5.mono HB4.out.size)
      clear hr5 hb5 HD4 HE4 HR4 HB4
      go_wp2_with fail
      refine (ints_any HS5.out HR5.out).mono ?_
      rw [sameB_true rfl]
      rintro e w6 ⟨rfl, hb6⟩
      have HD6 := Lib.hid (HD5.out.below hb6)
      have HE6 := Lib.hid (HE5.out.below hb6)
      have HR6 := Lib.hid (HR5.out.below hb6)
      have HB6 : Hid (Below w.heap.size w w6) := HB5.out.trans (hb6.mono HB5.out.size)
      clear hb6 HD5 HE5 HR5 HB5 HS5
      go_wp2_with fail
      refine (sums_any HZ.out HL40.out HR6.out).mono ?_
      rintro e w7 ⟨a7, n7, c7, rfl, hr7, hb7⟩
      have HS7 := Lib.hid hr7
      have HD7 := Lib.hid (HD6.out.below hb7)
      have HE7 := Lib.hid (HE6.out.below hb7)
      have HR7 := Lib.hid (HR6.out.below hb7)
      have HB7 : Hid (Below w.heap.size w w7) := HB6.out.trans (hb7.mono HB6.out.size)
      have HN7 : Hid (n7 ≤ 1099511627776) := by show _ ≤ _; rw [hr7.hl, sm_length, ← HL.out]; exact HL40.out
      clear hr7 hb7 HD6 HE6 HR6 HB6
      go_wp2_with fail
      refine (diff_any (sm_smalls HZ.out) HN7.out HS7.out).mono ?_
      rintro e w8 ⟨a8, n8, c8, rfl, hr8, hb8⟩
      rw [df_sm HZ.out] at hr8
      have HS8 := Lib.hid hr8
      have HD8 := Lib.hid (HD7.out.below hb8)
      have HE8 := Lib.hid (HE7.out.below hb8)
      have HR8 := Lib.hid (HR7.out.below hb8)
      have HB8 : Hid (Below w.heap.size w w8) := HB7.out.trans (hb8.mono HB7.out.size)
      clear hr8 hb8 HD7 HE7 HR7 HB7 HS7 HN7
      go_wp2_with fail
      refine (ints_any HS8.out HR8.out).mono ?_
      rw [sameB_true rfl]
      rintro e w9 ⟨rfl, hb9⟩
      have HD9 := Lib.hid (HD8.out.below hb9)
      have HE9 := Lib.hid (HE8.out.below hb9)
      have HB9 : Hid (Below w.heap.size w w9) := HB8.out.trans (hb9.mono HB8.out.size)
      clear hb9 HD8 HE8 HR8 HB8 HS8
      have hne : ((n4 : Int) != (n4 : Int)) = false := by simp
      by_cases h0 : n4 = 0
      · have hz0' : ((n4 : Int) == 0) = true := by rw [h0]; rfl
        clear h0
        go_wp2
        go_quiet (fail)
        go_wp2
        go_ret
        exact ⟨rfl, below_drewN HB9.out _⟩
      · have hz0' : ((n4 : Int) == 0) = false := by rw [beq_eq_false_iff_ne]; omega
        have h1l : (1 : Int) ≤ (n4 : Int) := by omega
        have hv1 := df_zero zs
        have hv2 := add_head n zs (by rw [← HL.out]; omega)
        obtain ⟨b3, off3, rfl, _, _, hc3⟩ := HD9.out.cells (by omega)
        obtain ⟨b4, off4, rfl, _, _, hc4⟩ := HE9.out.cells (by omega)
        have d0 := hc3 0 (by omega)
        have e0 := hc4 0 (by omega)
        rw [hv1] at d0
        rw [hv2] at e0
        simp only [Nat.add_zero] at d0 e0
        have K0 := fun d os => cell_regrown d0 d os
        have K1 := fun d os => cell_regrown e0 d os
        have hval2 : IntKind.i64.wrap (zs[0]?.getD 0 + n) = w64 (zs[0]?.getD 0 + n) := by rw [IntKind.wrap_i64]; unfold w64; omega
        obtain ⟨a3', ha3⟩ : ∃ a', (if c3 = 1 then some ⟨b3, off3, none⟩ else some ⟨b3, off3 + 1, none⟩ : Option Addr) = a' := ⟨_, rfl⟩
        obtain ⟨a4', ha4⟩ : ∃ a', (if c4 = 1 then some ⟨b4, off4, none⟩ else some ⟨b4, off4 + 1, none⟩ : Option Addr) = a' := ⟨_, rfl⟩
        have hf3 := HD9.out.fit
        have hf4 := HE9.out.fit
        have HT3 := Lib.hid (HD9.out.rest 1 (by omega) (c3 - 1) (by omega) (by omega) a3' (fun h => by rw [← ha3, if_neg (by omega)]))
        have ht4 := HE9.out.rest 1 (by omega) (c4 - 1) (by omega) (by omega) a4' (fun h => by rw [← ha4, if_neg (by omega)])
        rw [add_tail] at ht4
        have HT4 := Lib.hid ht4
        have HC : Hid (∀ d os, Calls Try.prog 36 #[.slice a4' (n4 - 1) (c4 - 1), .slice a3' (n4 - 1) (c3 - 1)] (Go.Sort.grow (redrawn w9 d) os) fun e w' => e = .returned (.bool true) ∧ Below (Go.Sort.grow (redrawn w9 d) os).heap.size (Go.Sort.grow (redrawn w9 d) os) w') := fun d os => by
          have := ints_any (HT4.out.below (below_regrown w9 d os)) (HT3.out.below (below_regrown w9 d os))
          rwa [sameB_true rfl] at this
        clear hc3 hc4 hv1 hv2 ht4 d0 e0
        generalize w64 (zs[0]?.getD 0 + n) = y at *
        generalize zs[0]?.getD 0 = x at *
        clear hn1 hn2 h0
        go_wp2
        refine wp_region_quiet_below (by kernel_rfl) (by kernel_rfl) ?_
        repeat (go_big_quiet_step (first
          | (go_at_call 36; with_reducible exact Calls.regrown_of (HC.out _ _))))
        refine wpQuiet_nil ?_
        intro _ hw'
        obtain ⟨⟨dq, osq⟩, hw''⟩ := hw'
        subst hw''
        have HBQ : Hid (Below w.heap.size w (Go.Sort.grow (redrawn w9 dq) osq)) := HB9.out.trans ((below_regrown w9 dq osq).mono HB9.out.size)
        generalize Go.Sort.grow (redrawn w9 dq) osq = WQ at *
        go_wp2
        go_ret
        exact ⟨rfl, HBQ.out⟩

end Go.Proofs.Ythmgbnlffkhblaa.runsDifferences
