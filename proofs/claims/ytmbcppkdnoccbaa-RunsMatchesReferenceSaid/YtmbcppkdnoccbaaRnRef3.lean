/-
  The reference's sizes of forms, and its kind of a list.
-/
import Derived.Test.YtmbcppkdnoccbaaRnRef2
import Derived.Test.YtmbcppkdnoccbaaPkRef5
import Derived.Test.YtmbcppkdnoccbaaRnKind
import Derived.Lib.QuietBelow
namespace Go.Proofs.Ytmbcppkdnoccbaa
open Go Go.Sort Go.RowKit Go.Shelf Go.ChangeShapes Go.WideShapes Go.ChangeAt

theorem add_size {a b : Nat} (ha : a ≤ 40000) (hb : b ≤ 40000) : IntKind.i64.wrap ((a : Int) + (b : Int)) = ((a + b : Nat) : Int) := by rw [IntKind.wrap_i64]; omega

set_option maxRecDepth 100000 in
set_option maxHeartbeats 2000000 in
theorem szR0 {K : Nat → Prop} {a : Option Addr} {len cap : Nat} {zs : List Int} (hz : Smalls zs) (hl : len ≤ 4096) {W : World} (hR : Rd K W .i64 a len cap zs) :
    Calls Try.prog 56 #[.int .i64 0, .slice a len cap] W fun e W' => e = .returned (.int .i64 ((packS zs).length : Nat)) ∧ Below W.heap.size W W' := by
  have HS := Lib.hid (sizeR_any hz hl hR)
  clear hR
  go_enter Try.func56, Try.ntmps56
  go_wp2_with fail
  refine HS.out.mono ?_
  rintro e w1 ⟨rfl, hb⟩
  have HB := Lib.hid hb
  obtain ⟨n, hn⟩ : ∃ n, (packS zs).length = n := ⟨_, rfl⟩
  rw [hn]
  have HN := Lib.hid hn
  clear hb hn
  go_wp2
  go_ret
  exact ⟨ret_int (by rw [HN.out]), HB.out⟩

set_option maxRecDepth 100000 in
set_option maxHeartbeats 2000000 in
theorem szR1 {K : Nat → Prop} {a : Option Addr} {len cap : Nat} {zs : List Int} (hz : Smalls zs) (hl : len ≤ 4096) {W : World} (hR : Rd K W .i64 a len cap zs) :
    Calls Try.prog 56 #[.int .i64 1, .slice a len cap] W fun e W' => e = .returned (.int .i64 ((packS (vals zs)).length + (packS (lens zs)).length : Nat)) ∧ Below W.heap.size W W' := by
  have hlz : zs.length = len := hR.hl.symm
  have hrl := rl_le zs
  have hsv := vals_smalls hz
  have hsn := lens_smalls (zs := zs) (by omega)
  have hpv := pack_len (vals zs) hsv (by rw [vals_length]; omega)
  have hpn := pack_len (lens zs) hsn (by rw [lens_length]; omega)
  have HRU := Lib.hid (runsR_any (by omega) hR)
  clear hR
  go_enter Try.func56, Try.ntmps56
  go_wp2_with fail
  refine HRU.out.mono ?_
  rintro e w1 ⟨b1, n, d1, b2, d2, rfl, hr1, hr2, hb⟩
  have hn1 : n ≤ 4096 := by have := hr1.hl; rw [vals_length] at this; omega
  have hp0 := Pair.new w1 24 (.slice b1 n d1) (.slice b2 n d2)
  have hbV : Below w1.heap.size w1 (w1.alloc (.cells #[.slice b1 n d1, .slice b2 n d2] 24)) := (Below.refl _ _).alloc (Nat.le_refl _) _
  have HBV : Hid (Below W.heap.size W (w1.alloc (.cells #[.slice b1 n d1, .slice b2 n d2] 24))) := hb.trans (hbV.mono hb.size)
  have hq1 := hr1.below hbV
  have hq2 := hr2.below hbV
  obtain ⟨B, hB⟩ : ∃ B, w1.heap.size = B := ⟨_, rfl⟩
  rw [hB] at hp0
  go_wp2_with fail
  clear hB
  generalize w1.alloc (.cells #[.slice b1 n d1, .slice b2 n d2] 24) = V at *
  have HV1 : Hid (∀ (d : Nat) (os : Array Obj), Calls Try.prog 80 #[.slice b1 n d1] (grow (redrawn V d) os) fun e w' => e = .returned (.int .i64 ((packS (vals zs)).length : Nat)) ∧ Below (grow (redrawn V d) os).heap.size (grow (redrawn V d) os) w') := fun d os => sizeR_any hsv hn1 (hq1.below (below_regrown V d os))
  have HV2 : Hid (∀ (d : Nat) (os : Array Obj), Calls Try.prog 80 #[.slice b2 n d2] (grow (redrawn V d) os) fun e w' => e = .returned (.int .i64 ((packS (lens zs)).length : Nat)) ∧ Below (grow (redrawn V d) os).heap.size (grow (redrawn V d) os) w') := fun d os => sizeR_any hsn hn1 (hq2.below (below_regrown V d os))
  have K0 := fun d os => cell_regrown hp0.c0 d os
  have K1 := fun d os => cell_regrown hp0.c1 d os
  have hadd := add_size (a := (packS (vals zs)).length) (b := (packS (lens zs)).length) (by omega) (by omega)
  clear hq1 hq2 hb hr1 hr2 hbV hp0 hsv hsn HRU
  obtain ⟨s1, hs1⟩ : ∃ n, (packS (vals zs)).length = n := ⟨_, rfl⟩
  obtain ⟨s2, hs2⟩ : ∃ n, (packS (lens zs)).length = n := ⟨_, rfl⟩
  rw [hs1] at HV1 hadd hpv
  rw [hs2] at HV2 hadd hpn
  have HS1 := Lib.hid hs1
  have HS2 := Lib.hid hs2
  clear hs1 hs2
  refine wp_region_quiet_below (by kernel_rfl) (by kernel_rfl) ?_
  repeat (go_big_quiet_step (first
    | (go_at_call 80; with_reducible exact Calls.regrown_of (HV1.out _ _))
    | (go_at_call 80; with_reducible exact Calls.regrown_of (HV2.out _ _))))
  refine wpQuiet_nil ?_
  intro _ hw'
  obtain ⟨⟨dq, osq⟩, hw''⟩ := hw'
  subst hw''
  have HBq : Hid (Below W.heap.size W (grow (redrawn V dq) osq)) := HBV.out.trans ((below_regrown V dq osq).mono HBV.out.size)
  generalize grow (redrawn V dq) osq = wq at *
  clear HV1 HV2 K0 K1
  go_wp2
  go_ret
  exact ⟨ret_int (by rw [HS1.out, HS2.out]; omega), HBq.out⟩

theorem pack_sizeR (zs : List Int) : (packS zs).length = sizeS zs := by
  have hgl : (gatherS (bitsS zs) (spaceS zs)).length = spaceS zs := gB_length _ _ _
  unfold sizeS packS
  rw [List.length_append, hgl]

theorem szR_low (k : Nat) (hk : k < 2) {K : Nat → Prop} {a : Option Addr} {len cap : Nat} {zs : List Int} (hz : Smalls zs) (hl : len ≤ 4096) {W : World} (hR : Rd K W .i64 a len cap zs) :
    Calls Try.prog 56 #[.int .i64 (k : Nat), .slice a len cap] W fun e W' => e = .returned (.int .i64 (szS k zs : Nat)) ∧ Below W.heap.size W W' := by
  match k, hk with
  | 0, _ =>
    rw [show szS 0 zs = (packS zs).length by unfold szS partsS sumS; rw [pack_sizeR]; simp]
    exact szR0 hz hl hR
  | 1, _ =>
    rw [show szS 1 zs = (packS (vals zs)).length + (packS (lens zs)).length by unfold szS partsS sumS; rw [pack_sizeR, pack_sizeR]; simp]
    exact szR1 hz hl hR

theorem szS_up (k : Nat) (hk : k < 2) (zs : List Int) : szS (k + 2) zs = szS k (dfS zs) := by
  match k, hk with
  | 0, _ => rfl
  | 1, _ => rfl

set_option maxRecDepth 100000 in
set_option maxHeartbeats 2000000 in
theorem szR_any (k : Nat) (hk : k < 4) {K : Nat → Prop} {a : Option Addr} {len cap : Nat} {zs : List Int} (hz : Smalls zs) (hl : len ≤ 4096) {W : World} (hR : Rd K W .i64 a len cap zs) :
    Calls Try.prog 56 #[.int .i64 (k : Nat), .slice a len cap] W fun e W' => e = .returned (.int .i64 (szS k zs : Nat)) ∧ Below W.heap.size W W' := by
  by_cases h2 : k < 2
  · exact szR_low k h2 hz hl hR
  · obtain ⟨j, rfl⟩ : ∃ j, k = j + 2 := ⟨k - 2, by omega⟩
    have hj : j < 2 := by omega
    rw [szS_up j hj]
    have hdl := df_length zs
    have HD := Lib.hid (diffR_any (by omega) hR)
    have HL := Lib.hid hR.hl
    have HDL := Lib.hid hdl
    have HZ : Hid (Smalls (dfS zs)) := df_smalls hz
    have hw : IntKind.i64.wrap (((j + 2 : Nat) : Int) - 2) = (j : Int) := by rw [IntKind.wrap_i64]; omega
    obtain ⟨k, hkk⟩ : ∃ k, j + 2 = k := ⟨_, rfl⟩
    have hk2 : (2 : Int) ≤ (k : Int) := by omega
    have hk3 : 2 ≤ k := by omega
    rw [hkk] at hw ⊢
    clear hR hkk h2 hdl
    go_enter Try.func56, Try.ntmps56
    go_wp2_with fail
    refine HD.out.mono ?_
    rintro e w1 ⟨b1, n, d1, rfl, hr1, hb⟩
    have hn : n ≤ 4096 := by have h1 := hr1.hl; have h2 := HDL.out; have h3 := HL.out; omega
    have HB := Lib.hid hb
    have HC := Lib.hid (szR_low j hj HZ.out hn hr1)
    clear hb hr1
    go_wp2_with fail
    refine HC.out.mono ?_
    rintro e w2 ⟨rfl, hb⟩
    have HB2 : Hid (Below W.heap.size W w2) := HB.out.trans (hb.mono HB.out.size)
    obtain ⟨s, hs⟩ : ∃ s, szS j (dfS zs) = s := ⟨_, rfl⟩
    rw [hs]
    have HS := Lib.hid hs
    clear hb hs HC HD
    go_wp2
    go_ret
    exact ⟨ret_int (by rw [HS.out]), HB2.out⟩

/-- The first of the least of the first numbers. -/
def bk (f : Nat → Nat) : Nat → Nat
  | 0 => 0
  | i + 1 => if f i < f (bk f i) then i else bk f i
theorem bk_le (f : Nat → Nat) : ∀ i, bk f i ≤ i
  | 0 => Nat.le_refl _
  | i + 1 => by unfold bk; split; · omega
                · have := bk_le f i; omega
theorem bk_kd (f : Nat → Nat) : bk f 4 = kd (f 0) (f 1) (f 2) (f 3) := by
  have e1 : bk f 1 = 0 := by unfold bk; split <;> rfl
  have e2 : bk f 2 = if f 1 < f 0 then 1 else 0 := by rw [bk, e1]
  have e3 : bk f 3 = if f 2 < f (bk f 2) then 2 else bk f 2 := rfl
  have e4 : bk f 4 = if f 3 < f (bk f 3) then 3 else bk f 3 := rfl
  unfold kd
  by_cases h1 : f 1 < f 0
  · rw [if_pos h1] at e2
    rw [e2] at e3
    by_cases h2 : f 2 < f 1
    · rw [if_pos h2] at e3
      rw [e3] at e4
      rw [e4]
      split <;> (repeat' split) <;> first | rfl | omega
    · rw [if_neg h2] at e3
      rw [e3] at e4
      rw [e4]
      split <;> (repeat' split) <;> first | rfl | omega
  · rw [if_neg h1] at e2
    rw [e2] at e3
    by_cases h2 : f 2 < f 0
    · rw [if_pos h2] at e3
      rw [e3] at e4
      rw [e4]
      split <;> (repeat' split) <;> first | rfl | omega
    · rw [if_neg h2] at e3
      rw [e3] at e4
      rw [e4]
      split <;> (repeat' split) <;> first | rfl | omega

set_option maxRecDepth 100000 in
set_option maxHeartbeats 2000000 in
theorem kindR_any {K : Nat → Prop} {a : Option Addr} {len cap : Nat} {zs : List Int} (hz : Smalls zs) (hl : len ≤ 4096) {W : World} (hR : Rd K W .i64 a len cap zs) :
    Calls Try.prog 24 #[.slice a len cap] W fun e W' => e = .returned (.int .i64 (kindS zs : Nat)) ∧ Below W.heap.size W W' := by
  have H := Lib.hid hR
  clear hR
  go_enter Try.func24, Try.ntmps24
  go_wp2
  go_loopw [3, 4] (fun b i wr => ∃ k : Nat, 1 ≤ k ∧ k ≤ 4 ∧ i = .int .i64 (k : Nat) ∧ b = .int .i64 (bk (fun j => szS j zs) k : Nat) ∧ Hid (Below W.heap.size W wr)) (fun _ i _ => 4 - (intOf i).toNat)
  case atStart => exact ⟨1, Nat.le_refl _, by decide, rfl, by have e1 : bk (fun j => szS j zs) 1 = 0 := by unfold bk; split <;> rfl
                                                              rw [e1]; rfl, Below.refl _ _⟩
  case round =>
    obtain ⟨k, hk1, hk, rfl, rfl, HB⟩ := hrel
    by_cases hlt : k < 4
    · have hbl := bk_le (fun j => szS j zs) k
      have hst : bk (fun j => szS j zs) (k + 1) = if szS k zs < szS (bk (fun j => szS j zs) k) zs then k else bk (fun j => szS j zs) k := rfl
      generalize hb : bk (fun j => szS j zs) k = b at *
      have HST := Lib.hid hst
      have HC1 := Lib.hid (szR_any k hlt hz hl (H.out.below HB.out))
      have hk4 : (k : Int) < 4 := by omega
      have hb4 : b < 4 := by omega
      clear hst hb hbl
      go_wp2_with fail
      refine HC1.out.mono ?_
      rintro e w1 ⟨rfl, hb1⟩
      have HB1 : Hid (Below W.heap.size W w1) := HB.out.trans (hb1.mono HB.out.size)
      have HC2 := Lib.hid (szR_any b hb4 hz hl (H.out.below HB1.out))
      clear hb1 HC1
      go_wp2_with fail
      refine HC2.out.mono ?_
      rintro e w2 ⟨rfl, hb2⟩
      have HB2 : Hid (Below W.heap.size W w2) := HB1.out.trans (hb2.mono HB1.out.size)
      clear hb2 HC2
      by_cases hc : szS k zs < szS b zs
      · rw [if_pos hc] at HST
        have hc1 : ((szS k zs : Nat) : Int) < (szS b zs : Nat) := by omega
        generalize szS k zs = s1 at *
        generalize szS b zs = s2 at *
        go_wp2
        go_roundw
        case rel => exact ⟨k + 1, by omega, by omega, by go_num, by rw [HST.out], HB2⟩
        case measure => simp [intOf]; omega
      · rw [if_neg hc] at HST
        have hc1 : ¬ ((szS k zs : Nat) : Int) < (szS b zs : Nat) := by omega
        generalize szS k zs = s1 at *
        generalize szS b zs = s2 at *
        go_wp2
        go_roundw
        case rel => exact ⟨k + 1, by omega, by omega, by go_num, by rw [HST.out], HB2⟩
        case measure => simp [intOf]; omega
    · obtain rfl : k = 4 := by omega
      rw [bk_kd]
      have HK : Hid (kindS zs = kd (szS 0 zs) (szS 1 zs) (szS 2 zs) (szS 3 zs)) := rfl
      generalize kd (szS 0 zs) (szS 1 zs) (szS 2 zs) (szS 3 zs) = r at *
      go_wp2
      go_ret
      exact ⟨ret_int (by rw [HK.out]), HB.out⟩

end Go.Proofs.Ytmbcppkdnoccbaa
