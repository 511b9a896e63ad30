/-
  Sizes that can be reckoned; the values of the fixed examples. The fixed examples come out true. What a law's argument reads as; the program's own facts. A pair of lists with bytes, and two numbers, that came in.
-/
import Derived.Test.YtmbcppkdnoccbaaRnDec
import Derived.Test.YtmbcppkdnoccbaaRnTop1
import Derived.Test.YtmbcppkdnoccbaaRows
import Derived.Test.YtmbcppkdnoccbaaPkCodes
import Derived.OpenShut
import Derived.ChangeSame
namespace Go.Proofs.Ytmbcppkdnoccbaa
open Go.RowKit

def vL : Nat → Nat → Nat
  | 0, _ => 1
  | f + 1, u => if u < 128 then 1 else 1 + vL f (u / 128)
theorem vlen_eq : ∀ (f u : Nat), u < 128 ^ (f + 1) → (varN u).length = vL f u
  | 0, u, h => by rw [varN_lo (by omega)]; rfl
  | f + 1, u, h => by
    unfold vL
    by_cases h0 : u < 128
    · rw [if_pos h0, varN_lo h0]; rfl
    · rw [if_neg h0, varN_hi h0, List.length_cons, vlen_eq f (u / 128) (by rw [Nat.div_lt_iff_lt_mul (by decide)]; rw [Nat.pow_succ] at h; exact h)]
      omega
theorem vlen9 {u : Nat} (h : u < 18446744073709551616) : (varN u).length = vL 9 u := vlen_eq 9 u (Nat.lt_trans h (by decide))

/-- The size of a packed form, reckoned. -/
def sizeC (zs : List Int) : Nat := if zs = [] then 1 else vL 9 zs.length + vL 9 (zz (minS zs)).toNat + 1 + spaceS zs
theorem size_C {zs : List Int} (hz : Smalls zs) (hl : zs.length ≤ 140737488351232) : sizeS zs = sizeC zs := by
  unfold sizeS sizeC headS
  by_cases h : zs = []
  · rw [if_pos h, if_pos h, vlen9 (by decide)]
    subst h
    rfl
  · have h2 := zz_u64 (hz _ (min_mem zs h))
    rw [if_neg h, if_neg h, List.length_append, List.length_append, List.length_singleton, vlen9 (by omega), vlen9 (by have := h2.1; have := h2.2; omega)]
def szC (k : Nat) (zs : List Int) : Nat := ((partsS k zs).map sizeC).sum
theorem sz_C {zs : List Int} (hz : Smalls zs) (hl : zs.length ≤ 1099511627776) (k : Nat) : szS k zs = szC k zs := by
  unfold szS szC sumS
  congr 1
  exact List.map_congr_left fun ps hps => by
    have := parts_fair hz hl k ps hps
    exact size_C this.1 (by omega)
def kindC (zs : List Int) : Nat := kd (szC 0 zs) (szC 1 zs) (szC 2 zs) (szC 3 zs)
theorem kind_C {zs : List Int} (hz : Smalls zs) (hl : zs.length ≤ 1099511627776) : kindS zs = kindC zs := by
  unfold kindS kindC
  rw [sz_C hz hl, sz_C hz hl, sz_C hz hl, sz_C hz hl]

/-- The numbers from 1 on. -/
def stepsL (k : Nat) : List Int := (List.range k).map fun i : Nat => (i : Int) + 1
theorem steps_length (k : Nat) : (stepsL k).length = k := by simp [stepsL]
theorem steps_succ (k : Nat) : stepsL (k + 1) = stepsL k ++ [(k : Int) + 1] := by simp [stepsL, List.range_succ]

theorem smalls_of4 (zs : List Int) (h : (zs.all fun z => decide (-9223372036854775808 ≤ z) && decide (z ≤ 9223372036854775807)) = true) : Smalls zs := fun z hz => by
  have := List.all_eq_true.1 h z hz
  rw [Bool.and_eq_true] at this
  exact ⟨of_decide_eq_true this.1, of_decide_eq_true this.2⟩
theorem oct_of4 (zs : List Int) (h : (zs.all fun z => decide (0 ≤ z) && decide (z < 256)) = true) : Oct zs := fun z hz => by
  have := List.all_eq_true.1 h z hz
  rw [Bool.and_eq_true] at this
  exact ⟨of_decide_eq_true this.1, of_decide_eq_true this.2⟩

theorem xK100 : kindS (stepsL 100) = 2 := by
  rw [kind_C (smalls_of4 _ (by decide +kernel)) (by rw [steps_length]; decide)]
  decide +kernel
theorem xEn0 : enS [] = [0, 0] := by
  have h : kindS [] = 0 := by rw [kind_C (smalls_of4 _ (by decide)) (by decide)]; decide +kernel
  have hp : packS [] = [0] := exP2
  unfold enS
  rw [h]
  show (0 : Int) :: ([packS []].flatMap id) = _
  rw [hp]; rfl
theorem xV : vals [7, 7, 7, 2] = [7, 2] := by decide +kernel
theorem xN : lens [7, 7, 7, 2] = [3, 1] := by decide +kernel
theorem xX1 : xpS [7, 2] [3, 1] = ([7, 7, 7, 2], 0) := by decide +kernel
theorem xX2 : xpS [1, 1] [1, 1] = ([], 1) := by decide +kernel
theorem xD : dfS [7, 7, 7, 2] = [7, 0, 0, -5] := by decide +kernel
theorem xS : smS [7, 0, 0, -5] = [7, 7, 7, 2] := by decide +kernel
theorem xDe0 : (deS []).2.2 = 7 := rfl
theorem xDe4 : (deS [4]).2.2 = 5 := by
  unfold deS
  rw [if_neg (by decide), if_pos (by decide)]

end Go.Proofs.Ytmbcppkdnoccbaa

namespace Go.Proofs.Ytmbcppkdnoccbaa
open Go.RowKit Go.Shelf Go.ChangeShapes Go.WideShapes Go.ChangeAt

theorem xenc (w : World) : Calls Try.prog 11 #[.slice none 0 0] w fun e W' => ∃ g c, e = .returned (.agg #[.slice (some ⟨g, 0, none⟩) 2 c, .int .i64 0]) ∧ Rd (fun _ => True) W' .u8 (some ⟨g, 0, none⟩) 2 c [0, 0] ∧ Below w.heap.size w W' :=
  (encoded_any (smalls_of4 [] (by decide)) (by decide) (Rd.empty (K := fun _ => True))).mono fun e W' ⟨g, n, c, he, hR, hb⟩ => by
    rw [xEn0] at hR
    obtain rfl : n = 2 := hR.hl
    exact ⟨g, c, he, hR.mono (fun _ _ _ => trivial), hb⟩
theorem xexp (w : World) (B : Nat) (hB : w.heap.size = B) : Calls Try.prog 13 #[.agg #[.slice (some ⟨B, 0, none⟩) 2 2, .slice (some ⟨B + 1, 0, none⟩) 2 2]] ((w.alloc (.cells #[.int .i64 7, .int .i64 2] 3)).alloc (.cells #[.int .i64 3, .int .i64 1] 3)) fun e W' =>
    ∃ a c, e = .returned (.agg #[.slice a 4 c, .int .i64 0]) ∧ Rd (fun _ => True) W' .i64 a 4 c [7, 7, 7, 2] ∧ Below w.heap.size w W' := by
  subst hB
  have h1 := (Rd.new w .i64 3 [7, 2] 2 rfl (by decide)).below ((Below.refl _ _).alloc (Nat.le_refl _) (.cells #[.int .i64 3, .int .i64 1] 3))
  have h2 := Rd.new (w.alloc (.cells #[.int .i64 7, .int .i64 2] 3)) .i64 3 [3, 1] 2 rfl (by decide)
  simp only [World.size_alloc] at h2
  have hb : Below w.heap.size w ((w.alloc (.cells #[.int .i64 7, .int .i64 2] 3)).alloc (.cells #[.int .i64 3, .int .i64 1] 3)) := ((Below.refl _ _).alloc (Nat.le_refl _) _).alloc (by simp) _
  refine (expanded_any (smalls_of4 [3, 1] (by decide)) h1 h2).mono ?_
  rintro e W' ⟨a, n, c, he, hR, hb2⟩
  rw [xX1] at he hR
  obtain rfl : n = 4 := hR.hl
  exact ⟨a, c, he, hR.mono (fun _ _ _ => trivial), hb.trans (hb2.mono hb.size)⟩
theorem xexp2 (w : World) (B : Nat) (hB : w.heap.size = B) : Calls Try.prog 13 #[.agg #[.slice (some ⟨B, 0, none⟩) 2 2, .slice (some ⟨B + 1, 0, none⟩) 2 2]] ((w.alloc (.cells #[.int .i64 1, .int .i64 1] 3)).alloc (.cells #[.int .i64 1, .int .i64 1] 3)) fun e W' =>
    ∃ a n c, e = .returned (.agg #[.slice a n c, .int .i64 1]) ∧ Below w.heap.size w W' := by
  subst hB
  have h1 := (Rd.new w .i64 3 [1, 1] 2 rfl (by decide)).below ((Below.refl _ _).alloc (Nat.le_refl _) (.cells #[.int .i64 1, .int .i64 1] 3))
  have h2 := Rd.new (w.alloc (.cells #[.int .i64 1, .int .i64 1] 3)) .i64 3 [1, 1] 2 rfl (by decide)
  simp only [World.size_alloc] at h2
  have hb : Below w.heap.size w ((w.alloc (.cells #[.int .i64 1, .int .i64 1] 3)).alloc (.cells #[.int .i64 1, .int .i64 1] 3)) := ((Below.refl _ _).alloc (Nat.le_refl _) _).alloc (by simp) _
  refine (expanded_any (smalls_of4 [1, 1] (by decide)) h1 h2).mono ?_
  rintro e W' ⟨a, n, c, he, hR, hb2⟩
  rw [xX2] at he
  exact ⟨a, n, c, he, hb.trans (hb2.mono hb.size)⟩
theorem xde0 (w : World) : Calls Try.prog 27 #[.slice none 0 0] w fun e W' => e = .returned (.agg #[.slice none 0 0, .slice none 0 0, .int .i64 7]) ∧ Below w.heap.size w W' :=
  decoded_bad (oct_of4 [] (by decide)) (Rd.empty (K := fun _ => True)) (by decide) xDe0
theorem xde4 (w : World) : Calls Try.prog 27 #[.slice (some ⟨w.heap.size, 0, none⟩) 1 1] (w.alloc (.cells #[.int .u8 4] 5)) fun e W' => e = .returned (.agg #[.slice none 0 0, .slice none 0 0, .int .i64 5]) ∧ Below w.heap.size w W' :=
  (decoded_bad (oct_of4 [4] (by decide)) (Rd.new w .u8 5 [4] 1 rfl (by decide)) (by decide) xDe4).mono fun e W' ⟨he, hb⟩ => ⟨he, ((Below.refl _ w).alloc (Nat.le_refl _) _).trans (hb.mono (by simp))⟩
theorem fieldL (a e : Value) (W : World) : (Instr.field 36 (.agg #[a, e]) 1).run Try.prog W = .ok e W := by kernel_rfl
theorem fieldG4 (l r e : Value) (W : World) : (Instr.field 46 (.agg #[l, r, e]) 2).run Try.prog W = .ok e W := by kernel_rfl

set_option maxRecDepth 100000 in
set_option maxHeartbeats 4000000 in
theorem examples4_any (w : World) : Calls Try.prog 10 #[] w fun e W' => e = .returned (.bool true) ∧ Below w.heap.size w W' := by
  obtain ⟨i0, hi, hz0, hz1, hz2⟩ := info_parts Try.infoN
  have fL := fieldL
  have fG := fieldG4
  go_enter Try.func10, Try.ntmps10
  go_wp2_with fail
  have HL := Lib.hid (Rd.new w .i64 3 [7, 7, 7, 2] 4 rfl (by decide))
  refine (xenc _).mono ?_
  rintro e w1 ⟨g1, c1, rfl, hR1, hb1⟩
  have HR1 := Lib.hid hR1
  have HL1 := Lib.hid (HL.out.below hb1)
  have HB1 : Hid (Below w.heap.size w w1) := ((Below.refl _ w).alloc (Nat.le_refl _) _).trans (hb1.mono (by simp))
  clear hR1 hb1 HL
  go_wp2
  have hE := Pair.new w1 33 (.slice (some ⟨g1, 0, none⟩) 2 c1) (.int .i64 0)
  have hsz : (w1.alloc (.cells #[.slice (some ⟨g1, 0, none⟩) 2 c1, .int .i64 0] 33)).heap.size = w1.heap.size + 1 := by simp
  have hbE : Below w1.heap.size w1 (w1.alloc (.cells #[.slice (some ⟨g1, 0, none⟩) 2 c1, .int .i64 0] 33)) := (Below.refl _ _).alloc (Nat.le_refl _) _
  have HR1 := Lib.hid (HR1.out.below hbE)
  have HL1 := Lib.hid (HL1.out.below hbE)
  have HB1 : Hid (Below w.heap.size w _) := HB1.out.trans (hbE.mono HB1.out.size)
  generalize w1.alloc (.cells #[.slice (some ⟨g1, 0, none⟩) 2 c1, .int .i64 0] 33) = V at *
  clear hbE
  have hrow0 := World.ownsRow_made V (base := V.heap.size) (e := 3) (size := 1) #[] 0 (Nat.le_refl _) (by decide) rfl
  obtain ⟨E, hEe⟩ : ∃ E, w1.heap.size = E := ⟨_, rfl⟩
  rw [hEe] at hE hsz ⊢
  rw [hsz] at hrow0
  have HE := Lib.hid hE
  have HROW := Lib.hid hrow0
  have HSZ := Lib.hid hsz
  clear hE hrow0 hEe hsz
  go_loopw [3, 4] (fun s i wr => ∃ k g c : Nat, k ≤ 100 ∧ i = .int .i64 ((k : Int) + 1) ∧ s = .slice (some ⟨g, 0, none⟩) k c ∧ Hid (wr.ownsRow (E + 1) 3 1 (.slice (some ⟨g, 0, none⟩) k c) k ((stepsL k).map (Value.int .i64))) ∧ Hid (Below V.heap.size V wr)) (fun _ i _ => 101 - (intOf i).toNat)
  case atStart => exact ⟨0, E + 1, 0, Nat.zero_le _, rfl, rfl, HROW, (Below.refl _ _).alloc (Nat.le_refl _) _⟩
  case round =>
    obtain ⟨k, g, c, hk, rfl, rfl, HRW, HBW⟩ := hrel
    by_cases hlt : k < 100
    · have hEs : E + 1 ≤ wr.heap.size := by have := HBW.out.size; rw [HSZ.out] at this; exact this
      obtain ⟨g2, c2, w2, hr2, hrow2, hg2, _, _⟩ := run_append_one (P := Try.prog) wr (E + 1) 22 22 3 i0 _ 8 .i64 Try.underlying22 hi hz0 hz1 hz2 rfl g k c _ HRW.out ((k : Int) + 1) 3 (by unfold maxLen; omega) (by omega) hEs
      have HR2 := Lib.hid hr2
      have HROW2 : Hid (w2.ownsRow (E + 1) 3 1 (.slice (some ⟨g2, 0, none⟩) (k + 1) c2) (k + 1) ((stepsL (k + 1)).map (Value.int .i64))) := by
        show w2.ownsRow _ _ _ _ _ _
        rw [steps_succ, List.map_append]
        exact hrow2
      have HB2 : Hid (Below V.heap.size V w2) := (HBW.out.alloc HBW.out.size _).grown hg2 (HBW.out.alloc HBW.out.size _).size (fun r e => by cases e; have := row_base HRW.out; rw [HSZ.out]; exact this)
      clear hr2 hrow2 hg2
      go_wp2_with (at_builtin; refine wpList_append_want (o := ⟨some 16, _, _, _, _, _⟩) _ rfl _ _ _ _ rfl _ _ rfl rfl _ _ HR2.out ?_)
      go_roundw
      case rel => exact ⟨k + 1, g2, c2, by omega, by go_num, rfl, HROW2, HB2⟩
      case measure => simp [intOf]; omega
    · obtain rfl : k = 100 := by omega
      have HST := Lib.hid (Rd.of_row (steps_length 100).symm (by obtain ⟨cur, _, h, _⟩ := row_block HRW.out; exact h) (by decide) HRW.out)
      have HE2 := Lib.hid (HE.out.below HBW.out HE.out.lt)
      have HR1 := Lib.hid (HR1.out.below HBW.out)
      have HL1 := Lib.hid (HL1.out.below HBW.out)
      have HB1 : Hid (Below w.heap.size w wr) := HB1.out.trans (HBW.out.mono HB1.out.size)
      clear HRW HBW HE
      go_wp2_with fail
      refine (xexp wr _ rfl).mono ?_
      rintro e w2 ⟨a2, c2, rfl, hR2, hb2⟩
      have HX := Lib.hid hR2
      have HST := Lib.hid (HST.out.below hb2)
      have HR1 := Lib.hid (HR1.out.below hb2)
      have HL1 := Lib.hid (HL1.out.below hb2)
      have HE2 := Lib.hid (HE2.out.below hb2 HE2.out.lt)
      have HB1 : Hid (Below w.heap.size w w2) := HB1.out.trans (hb2.mono HB1.out.size)
      clear hR2 hb2
      go_wp2_with fail
      have hbF : Below w2.heap.size w2 (w2.alloc (.cells #[.slice a2 4 c2, .int .i64 0] 36)) := (Below.refl _ _).alloc (Nat.le_refl _) _
      have HF := Lib.hid (Pair.new w2 36 (.slice a2 4 c2) (.int .i64 0))
      have HST := Lib.hid (HST.out.below hbF)
      have HR1 := Lib.hid (HR1.out.below hbF)
      have HL1 := Lib.hid (HL1.out.below hbF)
      have HX := Lib.hid (HX.out.below hbF)
      have HE2 := Lib.hid (HE2.out.below hbF HE2.out.lt)
      have HB1 : Hid (Below w.heap.size w _) := HB1.out.trans (hbF.mono HB1.out.size)
      obtain ⟨F, hFe⟩ : ∃ F, w2.heap.size = F := ⟨_, rfl⟩
      rw [hFe] at HF ⊢
      clear hbF hFe
      generalize w2.alloc (.cells #[.slice a2 4 c2, .int .i64 0] 36) = V2 at *
      refine (runsOf_any HL1.out (by decide)).mono ?_
      rintro e w3 ⟨a3, n3, c3, a4, n4, c4, rfl, hR3, hR4, hb3⟩
      rw [xV] at hR3
      rw [xN] at hR4
      have HV3 := Lib.hid hR3
      have HN3 := Lib.hid hR4
      have HST := Lib.hid (HST.out.below hb3)
      have HR1 := Lib.hid (HR1.out.below hb3)
      have HL1 := Lib.hid (HL1.out.below hb3)
      have HX := Lib.hid (HX.out.below hb3)
      have HE2 := Lib.hid (HE2.out.below hb3 HE2.out.lt)
      have HF := Lib.hid (HF.out.below hb3 HF.out.lt)
      have HB1 : Hid (Below w.heap.size w w3) := HB1.out.trans (hb3.mono HB1.out.size)
      clear hR3 hR4 hb3
      go_wp2_with fail
      have hbG : Below w3.heap.size w3 ((w3.alloc (.cells #[.int .i64 7, .int .i64 2] 3)).alloc (.cells #[.int .i64 3, .int .i64 1] 3)) := ((Below.refl _ _).alloc (Nat.le_refl _) _).alloc (by simp) _
      have g1' := (Rd.new w3 .i64 3 [7, 2] 2 rfl (by decide)).below ((Below.refl _ _).alloc (Nat.le_refl _) (.cells #[.int .i64 3, .int .i64 1] 3))
      have g2' := Rd.new (w3.alloc (.cells #[.int .i64 7, .int .i64 2] 3)) .i64 3 [3, 1] 2 rfl (by decide)
      simp only [World.size_alloc] at g2'
      refine (samePair_true (HV3.out.below hbG) (HN3.out.below hbG) g1' g2').mono ?_
      rintro e w4 ⟨rfl, hb4⟩
      have hb4' := hbG.trans (hb4.mono hbG.size)
      have HST := Lib.hid (HST.out.below hb4')
      have HR1 := Lib.hid (HR1.out.below hb4')
      have HL1 := Lib.hid (HL1.out.below hb4')
      have HX := Lib.hid (HX.out.below hb4')
      have HE2 := Lib.hid (HE2.out.below hb4' HE2.out.lt)
      have HF := Lib.hid (HF.out.below hb4' HF.out.lt)
      have HB1 : Hid (Below w.heap.size w w4) := HB1.out.trans (hb4'.mono HB1.out.size)
      have f0 := HF.out.c0
      have f1 := HF.out.c1
      clear hb4 hb4' hbG g1' g2' HV3 HN3
      go_wp2_with fail
      clear f0 f1
      refine (ints_any HX.out HL1.out).mono ?_
      rw [sameB_true rfl]
      rintro e w5 ⟨rfl, hb5⟩
      have HST := Lib.hid (HST.out.below hb5)
      have HR1 := Lib.hid (HR1.out.below hb5)
      have HL1 := Lib.hid (HL1.out.below hb5)
      have HE2 := Lib.hid (HE2.out.below hb5 HE2.out.lt)
      have HB1 : Hid (Below w.heap.size w w5) := HB1.out.trans (hb5.mono HB1.out.size)
      clear hb5 HX HF
      go_wp2_with fail
      refine (diff_any (smalls_of4 [7, 7, 7, 2] (by decide)) (by decide) HL1.out).mono ?_
      rintro e w6 ⟨a6, n6, c6, rfl, hR6, hb6⟩
      rw [xD] at hR6
      have HD6 := Lib.hid hR6
      have HST := Lib.hid (HST.out.below hb6)
      have HR1 := Lib.hid (HR1.out.below hb6)
      have HL1 := Lib.hid (HL1.out.below hb6)
      have HE2 := Lib.hid (HE2.out.below hb6 HE2.out.lt)
      have HB1 : Hid (Below w.heap.size w w6) := HB1.out.trans (hb6.mono HB1.out.size)
      clear hR6 hb6
      go_wp2_with fail
      have hbH : Below w6.heap.size w6 (w6.alloc (.cells #[.int .i64 7, .int .i64 0, .int .i64 0, .int .i64 (-5)] 3)) := (Below.refl _ _).alloc (Nat.le_refl _) _
      refine (ints_any (HD6.out.below hbH) (Rd.new w6 .i64 3 [7, 0, 0, -5] 4 rfl (by decide))).mono ?_
      rw [sameB_true rfl]
      rintro e w7 ⟨rfl, hb7⟩
      have hb7' := hbH.trans (hb7.mono hbH.size)
      have HST := Lib.hid (HST.out.below hb7')
      have HR1 := Lib.hid (HR1.out.below hb7')
      have HL1 := Lib.hid (HL1.out.below hb7')
      have HE2 := Lib.hid (HE2.out.below hb7' HE2.out.lt)
      have HB1 : Hid (Below w.heap.size w w7) := HB1.out.trans (hb7'.mono HB1.out.size)
      clear hb7 hb7' hbH HD6
      go_wp2_with fail
      have hbI : Below w7.heap.size w7 (w7.alloc (.cells #[.int .i64 7, .int .i64 0, .int .i64 0, .int .i64 (-5)] 3)) := (Below.refl _ _).alloc (Nat.le_refl _) _
      refine (sums_any (smalls_of4 [7, 0, 0, -5] (by decide)) (by decide) (Rd.new w7 .i64 3 [7, 0, 0, -5] 4 rfl (by decide))).mono ?_
      rintro e w8 ⟨a8, n8, c8, rfl, hR8, hb8⟩
      rw [xS] at hR8
      have HS8 := Lib.hid hR8
      have hb8' := hbI.trans (hb8.mono hbI.size)
      have HST := Lib.hid (HST.out.below hb8')
      have HR1 := Lib.hid (HR1.out.below hb8')
      have HL1 := Lib.hid (HL1.out.below hb8')
      have HE2 := Lib.hid (HE2.out.below hb8' HE2.out.lt)
      have HB1 : Hid (Below w.heap.size w w8) := HB1.out.trans (hb8'.mono HB1.out.size)
      clear hR8 hb8 hb8' hbI
      go_wp2_with fail
      refine (ints_any HS8.out HL1.out).mono ?_
      rw [sameB_true rfl]
      rintro e w9 ⟨rfl, hb9⟩
      have HST := Lib.hid (HST.out.below hb9)
      have HR1 := Lib.hid (HR1.out.below hb9)
      have HE2 := Lib.hid (HE2.out.below hb9 HE2.out.lt)
      have HB1 : Hid (Below w.heap.size w w9) := HB1.out.trans (hb9.mono HB1.out.size)
      have e0 := HE2.out.c0
      have e1 := HE2.out.c1
      clear hb9 HS8 HL1
      go_wp2_with fail
      clear e0 e1
      have hbJ : Below w9.heap.size w9 (w9.alloc (.cells #[.int .u8 0, .int .u8 0] 5)) := (Below.refl _ _).alloc (Nat.le_refl _) _
      refine (same_any (HR1.out.below hbJ) (Rd.new w9 .u8 5 [0, 0] 2 rfl (by decide))).mono ?_
      rw [sameB_true rfl]
      rintro e w10 ⟨rfl, hb10⟩
      have hb10' := hbJ.trans (hb10.mono hbJ.size)
      have HST := Lib.hid (HST.out.below hb10')
      have HB1 : Hid (Below w.heap.size w w10) := HB1.out.trans (hb10'.mono HB1.out.size)
      clear hb10 hb10' hbJ HR1 HE2
      go_wp2_with fail
      refine (kind_any (smalls_of4 _ (by decide +kernel)) (by decide) HST.out).mono ?_
      rw [xK100]
      rintro e w11 ⟨rfl, hb11⟩
      have HB1 : Hid (Below w.heap.size w w11) := HB1.out.trans (hb11.mono HB1.out.size)
      clear hb11 HST
      go_wp2_with fail
      refine (xexp2 w11 _ rfl).mono ?_
      rintro e w12 ⟨a12, n12, c12, rfl, hb12⟩
      have HB1 : Hid (Below w.heap.size w w12) := HB1.out.trans (hb12.mono HB1.out.size)
      clear hb12
      go_wp2_with fail
      refine (xde0 _).mono ?_
      rintro e w13 ⟨rfl, hb13⟩
      have HB1 : Hid (Below w.heap.size w w13) := HB1.out.trans (hb13.mono HB1.out.size)
      clear hb13
      go_wp2_with fail
      refine (xde4 _).mono ?_
      rintro e w14 ⟨rfl, hb14⟩
      have HB1 : Hid (Below w.heap.size w w14) := HB1.out.trans (hb14.mono HB1.out.size)
      clear hb14
      go_wp2
      go_ret
      exact ⟨rfl, HB1.out⟩

end Go.Proofs.Ytmbcppkdnoccbaa

namespace Go.Proofs.Ytmbcppkdnoccbaa
open Go.ChangeShapes Go.WideShapes Go.ChangeAt Go.RowKit

/-- A list of integers that came in. -/
theorem open_rd4 {H : Type} {enc : TypeId × Value → H} {P : Program} {W : World} {r : Reach} {b0 : Nat} {t e : TypeId} {k : IntKind} {v : Value} {d : DataW H} {ps : List MemPlace}
    (ht : P.underlying t = some (.slice e)) (he : P.underlying e = some (.int k)) (hc : P.cellsOf e = 1) (hval : Value.okWide P W r b0 t v) (hd : DataW.Trod enc P W 0 (fun _ => true) true t v d ps) :
    ∃ a len cap zs, v = .slice a len cap ∧ len ≤ 9223372036854775807 ∧ (len ≤ 140737488351232 → Rd (fun b => b < W.heap.size) W k a len cap zs) ∧ (∀ n ∈ zs, (Lit.int k n).wf = true) := by
  obtain ⟨a0, len, cap, rfl⟩ := okWide_slice ht hval
  obtain ⟨fuel, hf⟩ := hd
  rcases open_ints ht he hc hf with ⟨hcs, hx⟩ | ⟨a, len', cap', zs, hcs, _, hl, hm, hz, hx, hcell, hwz⟩
  · simp [Value.cells] at hcs
    obtain ⟨rfl, rfl, rfl⟩ := hcs
    exact ⟨none, 0, 0, [], rfl, by decide, fun _ => Rd.empty, fun n hn => by cases hn⟩
  · simp [Value.cells] at hcs
    obtain ⟨rfl, rfl, rfl⟩ := hcs
    simp only [if_true] at hz
    have hm' : cap ≤ 9223372036854775807 := by unfold maxLen at hm; omega
    refine ⟨some a, len, cap, zs.take len, rfl, by omega, fun hs => ⟨by simp; omega, hl, hm', hs, fun h0 => ?_⟩, fun n hn => hwz n (List.mem_of_mem_take hn)⟩
    obtain ⟨b, off, spot⟩ := a
    have hspot : spot = none := by simpa [Addr.add] using World.cell?_spot (hcell 0 (by omega))
    subst hspot
    refine ⟨b, off, rfl, ?_, ?_, fun j hj => ?_⟩
    · obtain ⟨o, ho, _⟩ := cells_of_cell (hcell 0 (by omega))
      exact (Array.getElem?_eq_some_iff.1 ho).1
    · obtain ⟨o, ho, _⟩ := cells_of_cell (hcell 0 (by omega))
      exact (Array.getElem?_eq_some_iff.1 ho).1
    · have := hcell j (by omega)
      rw [add_plain] at this
      rw [this, List.getElem?_take_of_lt hj, List.getD_eq_getElem?_getD]

theorem own4 : ownKnob Try.prog.godebug = none := by kernel_rfl
theorem laidOut4 : laidOutB Try.prog = true := by kernel_rfl
theorem cellsN4 : Try.prog.cellsOf 3 = 1 := by kernel_rfl
theorem cellsB4 : Try.prog.cellsOf 5 = 1 := by kernel_rfl

end Go.Proofs.Ytmbcppkdnoccbaa

namespace Go.Proofs.Ytmbcppkdnoccbaa
open Go.ChangeShapes Go.WideShapes Go.ChangeAt Go.RowKit

/-- A list of integers that came in, of its cell. -/
theorem open_rd_cell {H : Type} {enc : TypeId × Value → H} {P : Program} {W : World} {t e : TypeId} {k : IntKind} {cs : List Value} {fuel : Nat} {x : DataW H × List MemPlace}
    (ht : P.underlying t = some (.slice e)) (he : P.underlying e = some (.int k)) (hc : P.cellsOf e = 1) (hf : DataW.trod enc P W 0 (fun _ => true) true fuel t cs = some x) :
    ∃ a len cap zs, cs = [.slice a len cap] ∧ len ≤ 9223372036854775807 ∧ (len ≤ 140737488351232 → Rd (fun b => b < W.heap.size) W k a len cap zs) ∧ (∀ n ∈ zs, (Lit.int k n).wf = true) := by
  rcases open_ints ht he hc hf with ⟨hcs, hx⟩ | ⟨a, len, cap, zs, hcs, _, hl, hm, hz, hx, hcell, hwz⟩
  · exact ⟨none, 0, 0, [], hcs, by decide, fun _ => Rd.empty, fun n hn => by cases hn⟩
  · simp only [if_true] at hz
    have hm' : cap ≤ 9223372036854775807 := by unfold maxLen at hm; omega
    refine ⟨some a, len, cap, zs.take len, hcs, by omega, fun hs => ⟨by simp; omega, hl, hm', hs, fun h0 => ?_⟩, fun n hn => hwz n (List.mem_of_mem_take hn)⟩
    obtain ⟨b, off, spot⟩ := a
    have hspot : spot = none := by simpa [Addr.add] using World.cell?_spot (hcell 0 (by omega))
    subst hspot
    refine ⟨b, off, rfl, ?_, ?_, fun j hj => ?_⟩
    · obtain ⟨o, ho, _⟩ := cells_of_cell (hcell 0 (by omega))
      exact (Array.getElem?_eq_some_iff.1 ho).1
    · obtain ⟨o, ho, _⟩ := cells_of_cell (hcell 0 (by omega))
      exact (Array.getElem?_eq_some_iff.1 ho).1
    · have := hcell j (by omega)
      rw [add_plain] at this
      rw [this, List.getElem?_take_of_lt hj, List.getD_eq_getElem?_getD]

theorem agg_in {P : Program} {W : World} {r : Reach} {b0 : Nat} {t : TypeId} {fs : Array Field} {v : Value} (ht : P.underlying t = some (.struct fs)) (hval : Value.okWide P W r b0 t v) : ∃ cs, v = .agg cs ∧ cs.size = P.cellsOf t := by
  simp only [Value.okWide, ht] at hval
  obtain ⟨cs, rfl, hs, _⟩ := hval
  exact ⟨cs, rfl, hs⟩

theorem three_in {cs : Array Value} (h : cs.size = 3) : ∃ x y z, cs = #[x, y, z] := by
  obtain ⟨l⟩ := cs
  rcases l with _ | ⟨x, _ | ⟨y, _ | ⟨z, _ | ⟨u, r⟩⟩⟩⟩ <;> first | exact ⟨_, _, _, rfl⟩ | (simp at h)

set_option maxRecDepth 100000 in
/-- The pair with bytes. -/
theorem open_odd4 {H : Type} {enc : TypeId × Value → H} {W : World} {r : Reach} {b0 : Nat} {v : Value} {d : DataW H} {ps : List MemPlace}
    (hval : Value.okWide Try.prog W r b0 27 v) (hd : DataW.Trod enc Try.prog W 0 (fun _ => true) true 27 v d ps) :
    ∃ a1 n1 c1 vs a2 n2 c2 ns a3 n3 c3 bs, v = .agg #[.slice a1 n1 c1, .slice a2 n2 c2, .slice a3 n3 c3] ∧ (n1 ≤ 9223372036854775807 ∧ n2 ≤ 9223372036854775807 ∧ n3 ≤ 9223372036854775807) ∧
      (n1 ≤ 140737488351232 → Rd (fun b => b < W.heap.size) W .i64 a1 n1 c1 vs) ∧ (∀ n ∈ vs, (Lit.int .i64 n).wf = true) ∧
      (n2 ≤ 140737488351232 → Rd (fun b => b < W.heap.size) W .i64 a2 n2 c2 ns) ∧ (∀ n ∈ ns, (Lit.int .i64 n).wf = true) ∧
      (n3 ≤ 140737488351232 → Rd (fun b => b < W.heap.size) W .u8 a3 n3 c3 bs) ∧ (∀ n ∈ bs, (Lit.int .u8 n).wf = true) := by
  obtain ⟨cs, rfl, hs⟩ := agg_in Try.underlying27 hval
  have hc3 : Try.prog.cellsOf 27 = 3 := by kernel_rfl
  have hc2 : Try.prog.cellsOf 24 = 2 := by kernel_rfl
  have hcI : Try.prog.cellsOf 22 = 1 := by kernel_rfl
  have hcB : Try.prog.cellsOf 25 = 1 := by kernel_rfl
  rw [hc3] at hs
  obtain ⟨x, y, z, rfl⟩ := three_in hs
  obtain ⟨fuel, hf⟩ := hd
  obtain ⟨y0, y1, m, _, _, h0, h1⟩ := trod_struct2 Try.underlying27 hf
  obtain ⟨y2, y3, m2, _, _, h2, h3⟩ := trod_struct2 Try.underlying24 h0
  simp only [hc2, hcI, hcB, Value.cells] at h1 h2 h3
  obtain ⟨a1, n1, c1, vs, e1, m1, r1, f1⟩ := open_rd_cell Try.underlying22 Try.underlying3 cellsN4 h2
  obtain ⟨a2, n2, c2, ns, e2, m2', r2, f2⟩ := open_rd_cell Try.underlying22 Try.underlying3 cellsN4 h3
  obtain ⟨a3, n3, c3, bs, e3, m3, r3, f3⟩ := open_rd_cell Try.underlying25 Try.underlying5 cellsB4 h1
  simp at e1 e2 e3
  subst e1 e2 e3
  exact ⟨a1, n1, c1, vs, a2, n2, c2, ns, a3, n3, c3, bs, rfl, ⟨m1, m2', m3⟩, r1, f1, r2, f2, r3, f3⟩

def numIn4 : Value → Int
  | .int _ n => n
  | _ => 0
theorem open_arr4 {H : Type} {enc : TypeId × Value → H} {P : Program} {W : World} {r : Reach} {b0 : Nat} {t e : TypeId} {k : IntKind} {n : Nat} {v : Value} {d : DataW H} {ps : List MemPlace}
    (ht : P.underlying t = some (.array n e)) (he : P.underlying e = some (.int k)) (hc : P.cellsOf e = 1) (hn : P.cellsOf t = n) (hval : Value.okWide P W r b0 t v) (hd : DataW.Trod enc P W 0 (fun _ => true) true t v d ps) :
    ∃ zs : List Int, zs.length = n ∧ v = .agg (zs.map (Value.int k)).toArray ∧ (∀ z ∈ zs, (Lit.int k z).wf = true) := by
  simp only [Value.okWide, ht] at hval
  obtain ⟨cs, rfl, hs, _⟩ := hval
  obtain ⟨fuel, hf⟩ := hd
  obtain ⟨xs, m, _, hx, hl, hxl, hi⟩ := DataW.trod_array ht hf
  have hL : cs.toList.length = n := by simp; omega
  have each : ∀ i, i < n → ∃ a, cs.toList[i]? = some (.int k a) ∧ (Lit.int k a).wf = true := by
    intro i h
    have h1 := hi i h
    rw [hc, Nat.mul_one] at h1
    obtain ⟨y, hy⟩ : ∃ y, xs[i]? = some y := ⟨xs[i]'(by omega), List.getElem?_eq_getElem _⟩
    rw [hy] at h1
    obtain ⟨a, ea, _, wa⟩ := DataW.trod_int he h1
    refine ⟨a, ?_, wa⟩
    have h2 : (cs.toList.drop i)[0]? = some (.int k a) := by
      have h3 : ((cs.toList.drop i).take 1)[0]? = some (.int k a) := by
        have := congrArg (fun l : List Value => l[0]?) ea
        simpa [Value.cells] using this
      simpa using h3
    simpa using h2
  refine ⟨cs.toList.map numIn4, by simpa using hL, ?_, ?_⟩
  · congr 1
    apply Array.ext'
    apply List.ext_getElem?
    intro i
    by_cases h : i < n
    · obtain ⟨a, ha, _⟩ := each i h
      simp [ha, numIn4]
    · rw [List.getElem?_eq_none (by omega), List.getElem?_eq_none (by simp; omega)]
  · intro z hz
    obtain ⟨v, hv, rfl⟩ := List.mem_map.1 hz
    obtain ⟨i, hlt, rfl⟩ := List.mem_iff_getElem.1 hv
    obtain ⟨a, ha, wa⟩ := each i (by omega)
    rw [List.getElem?_eq_getElem hlt] at ha
    rw [Option.some.inj ha]
    exact wa

end Go.Proofs.Ytmbcppkdnoccbaa
