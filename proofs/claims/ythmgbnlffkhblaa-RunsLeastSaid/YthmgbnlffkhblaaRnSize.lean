/-
  The law's size of a form.
-/
import Derived.Test.YthmgbnlffkhblaaRnWrap
import Derived.Lib.QuietBelow
import Derived.Deep.DeepCutAuto
namespace Go.Proofs.Ythmgbnlffkhblaa
open Go.RowKit Go.Shelf Go.ChangeShapes Go.WideShapes Go.ChangeAt

theorem sz0 (zs : List Int) : szS 0 zs = sizeS zs := by show ([zs].map sizeS).sum = _; simp
theorem sz1 (zs : List Int) : szS 1 zs = sizeS (vals zs) + sizeS (lens zs) := by show ([vals zs, lens zs].map sizeS).sum = _; simp
theorem sz2 (zs : List Int) : szS 2 zs = sizeS (dfS zs) := by show ([dfS zs].map sizeS).sum = _; simp
theorem sz3 (zs : List Int) : szS 3 zs = sizeS (vals (dfS zs)) + sizeS (lens (dfS zs)) := by show ([vals (dfS zs), lens (dfS zs)].map sizeS).sum = _; simp
theorem szS_le {zs : List Int} (hz : Smalls zs) (hl : zs.length ≤ 140737488351232) : sizeS zs ≤ 21 + (zs.length * 64 + 7) / 8 := by
  have h1 := head_len zs hz hl
  have h2 : spaceS zs ≤ (zs.length * 64 + 7) / 8 := by
    unfold spaceS
    have := Nat.mul_le_mul (Nat.le_refl zs.length) (wide_le zs)
    omega
  unfold sizeS
  omega

set_option maxRecDepth 100000 in
set_option maxHeartbeats 4000000 in
theorem size4_even {K : Nat → Prop} {a : Option Addr} {len cap : Nat} {zs : List Int} (hz : Smalls zs) (hl : len ≤ 1099511627776) {W : World} (hR : Rd K W .i64 a len cap zs) (k : Nat) (hk : k = 0 ∨ k = 2) :
    Calls Try.prog 46 #[.int .i64 k, .slice a len cap] W fun e W' => e = .returned (.int .i64 (szS k zs : Nat)) ∧ Below W.heap.size W W' := by
  have HR := Lib.hid hR
  have HLE : Hid (len = zs.length) := hR.hl
  have HZ := Lib.hid hz
  clear hR
  rcases hk with rfl | rfl
  · have e0 := Lib.hid (sz0 zs)
    go_enter Try.func46, Try.ntmps46
    go_wp2_with fail
    refine (size_any HZ.out hl HR.out).mono ?_
    rintro e w1 ⟨rfl, hb1⟩
    go_wp2
    go_ret
    exact ⟨by rw [e0.out]; rfl, hb1⟩
  · have e0 := Lib.hid (sz2 zs)
    go_enter Try.func46, Try.ntmps46
    go_wp2_with fail
    refine (diff_any HZ.out hl HR.out).mono ?_
    rintro e w1 ⟨a1, n1, c1, rfl, hr1, hb1⟩
    have HR1 := Lib.hid hr1
    have HB1 := Lib.hid hb1
    have HN1 : Hid (n1 ≤ 1099511627776) := by show _ ≤ _; rw [hr1.hl, df_length, ← HLE.out]; exact hl
    clear hr1 hb1
    go_wp2_with fail
    refine (size_any (df_smalls HZ.out) HN1.out HR1.out).mono ?_
    rintro e w2 ⟨rfl, hb2⟩
    have HB2 := Lib.hid (HB1.out.trans (hb2.mono HB1.out.size))
    clear hb2
    go_wp2
    go_ret
    exact ⟨by rw [e0.out]; rfl, HB2.out⟩

set_option maxRecDepth 100000 in
set_option maxHeartbeats 4000000 in
theorem size4_one {K : Nat → Prop} {a : Option Addr} {len cap : Nat} {zs : List Int} (hz : Smalls zs) (hl : len ≤ 1099511627776) {W : World} (hR : Rd K W .i64 a len cap zs) :
    Calls Try.prog 46 #[.int .i64 1, .slice a len cap] W fun e W' => e = .returned (.int .i64 (szS 1 zs : Nat)) ∧ Below W.heap.size W W' := by
  have HR := Lib.hid hR
  have HLE : Hid (len = zs.length) := hR.hl
  have HZ := Lib.hid hz
  have e0 := Lib.hid (sz1 zs)
  clear hR
  go_enter Try.func46, Try.ntmps46
  have hrl := rl_len zs
  have hv := szS_le (vals_smalls HZ.out) (by rw [vals_length]; have := HLE.out; omega)
  have hn := szS_le (lens_smalls (zs := zs) (by have := HLE.out; omega)) (by rw [lens_length]; have := HLE.out; omega)
  rw [vals_length] at hv
  rw [lens_length] at hn
  rw [← HLE.out] at hrl
  go_wp2_with fail
  refine (runsOf_any HR.out hl).mono ?_
  rintro e w2 ⟨a1, n1, c1, a2, n2, c2, rfl, hr1, hr2, hb2⟩
  have hm1 : n1 ≤ 1099511627776 := by rw [hr1.hl, vals_length]; omega
  have hm2 : n2 ≤ 1099511627776 := by rw [hr2.hl, lens_length]; omega
  go_upto_region 6 with fail
  have hbV : Below w2.heap.size w2 (w2.alloc (.cells #[.slice a1 n1 c1, .slice a2 n2 c2] 42)) := (Below.refl _ _).alloc (Nat.le_refl _) _
  have HP := Lib.hid (Pair.new w2 42 (.slice a1 n1 c1) (.slice a2 n2 c2))
  have HV := Lib.hid (hr1.below hbV)
  have HN := Lib.hid (hr2.below hbV)
  have HB : Hid (Below W.heap.size W (w2.alloc (.cells #[.slice a1 n1 c1, .slice a2 n2 c2] 42))) := hb2.trans (hbV.mono hb2.size)
  obtain ⟨P, hPe⟩ : ∃ P, w2.heap.size = P := ⟨_, rfl⟩
  rw [hPe] at HP ⊢
  clear hr1 hr2 hb2 hbV hPe
  generalize w2.alloc (.cells #[.slice a1 n1 c1, .slice a2 n2 c2] 42) = V at *
  have K0 := fun d os => cell_regrown HP.out.c0 d os
  have K1 := fun d os => cell_regrown HP.out.c1 d os
  obtain ⟨s1, hs1⟩ : ∃ s, sizeS (vals zs) = s := ⟨_, rfl⟩
  obtain ⟨s2, hs2⟩ : ∃ s, sizeS (lens zs) = s := ⟨_, rfl⟩
  rw [hs1] at hv
  rw [hs2] at hn
  have HC1 : Hid (∀ d os, Calls Try.prog 15 #[.slice a1 n1 c1] (Go.Sort.grow (redrawn V d) os) fun e w' => e = .returned (.int .i64 s1) ∧ Below (Go.Sort.grow (redrawn V d) os).heap.size (Go.Sort.grow (redrawn V d) os) w') := fun d os => by
    have := size_any (vals_smalls HZ.out) hm1 (HV.out.below (below_regrown V d os))
    rwa [hs1] at this
  have HC2 : Hid (∀ d os, Calls Try.prog 15 #[.slice a2 n2 c2] (Go.Sort.grow (redrawn V d) os) fun e w' => e = .returned (.int .i64 s2) ∧ Below (Go.Sort.grow (redrawn V d) os).heap.size (Go.Sort.grow (redrawn V d) os) w') := fun d os => by
    have := size_any (lens_smalls (zs := zs) (by have := HLE.out; omega)) hm2 (HN.out.below (below_regrown V d os))
    rwa [hs2] at this
  have e1 : Hid (szS 1 zs = s1 + s2) := by rw [← hs1, ← hs2]; exact e0.out
  have hb1 : (s1 : Int) ≤ 1000000000000000 := by omega
  have hb2 : (s2 : Int) ≤ 1000000000000000 := by omega
  clear hs1 hs2 hv hn hrl e0 HLE
  refine wp_region_quiet_below (by kernel_rfl) (by kernel_rfl) ?_
  repeat (go_big_quiet_step (first
    | (go_at_call 15; first | (with_reducible exact Calls.regrown_of (HC1.out _ _)) | (with_reducible exact Calls.regrown_of (HC2.out _ _)))))
  refine wpQuiet_nil ?_
  intro _ hw'
  obtain ⟨⟨dq, osq⟩, hw''⟩ := hw'
  subst hw''
  have HBQ : Hid (Below W.heap.size W (Go.Sort.grow (redrawn V dq) osq)) := HB.out.trans ((below_regrown V dq osq).mono HB.out.size)
  generalize Go.Sort.grow (redrawn V dq) osq = WQ at *
  go_wp2
  go_ret
  exact ⟨by rw [e1.out]; simp [Int.natCast_add], HBQ.out⟩

set_option maxRecDepth 100000 in
set_option maxHeartbeats 4000000 in
theorem size4_three {K : Nat → Prop} {a : Option Addr} {len cap : Nat} {zs : List Int} (hz : Smalls zs) (hl : len ≤ 1099511627776) {W : World} (hR : Rd K W .i64 a len cap zs) :
    Calls Try.prog 46 #[.int .i64 3, .slice a len cap] W fun e W' => e = .returned (.int .i64 (szS 3 zs : Nat)) ∧ Below W.heap.size W W' := by
  have HR := Lib.hid hR
  have HLE : Hid (len = zs.length) := hR.hl
  have HZ := Lib.hid hz
  have e0 := Lib.hid (sz3 zs)
  clear hR
  go_enter Try.func46, Try.ntmps46
  have hdl := df_length zs
  go_wp2_with fail
  refine (diff_any HZ.out hl HR.out).mono ?_
  rintro e w1 ⟨a9, n9, c9, rfl, hr9, hb9⟩
  have HR9 := Lib.hid hr9
  have HB9 := Lib.hid hb9
  have hl9 : n9 ≤ 1099511627776 := by rw [hr9.hl, df_length, ← HLE.out]; exact hl
  have HL9 : Hid (n9 = (dfS zs).length) := hr9.hl
  clear hr9 hb9
  have hrl := rl_len (dfS zs)
  have hv := szS_le (vals_smalls (df_smalls HZ.out)) (by rw [vals_length]; have := HLE.out; have := HL9.out; omega)
  have hn := szS_le (lens_smalls (zs := dfS zs) (by have := HLE.out; have := HL9.out; omega)) (by rw [lens_length]; have := HLE.out; have := HL9.out; omega)
  rw [vals_length] at hv
  rw [lens_length] at hn
  rw [hdl, ← HLE.out] at hrl
  clear hdl
  go_wp2_with fail
  refine (runsOf_any HR9.out hl9).mono ?_
  rintro e w2 ⟨a1, n1, c1, a2, n2, c2, rfl, hr1, hr2, hb2⟩
  have hm1 : n1 ≤ 1099511627776 := by rw [hr1.hl, vals_length]; omega
  have hm2 : n2 ≤ 1099511627776 := by rw [hr2.hl, lens_length]; omega
  go_upto_region 6 with fail
  have hbV : Below w2.heap.size w2 (w2.alloc (.cells #[.slice a1 n1 c1, .slice a2 n2 c2] 42)) := (Below.refl _ _).alloc (Nat.le_refl _) _
  have HP := Lib.hid (Pair.new w2 42 (.slice a1 n1 c1) (.slice a2 n2 c2))
  have HV := Lib.hid (hr1.below hbV)
  have HN := Lib.hid (hr2.below hbV)
  have HB : Hid (Below W.heap.size W (w2.alloc (.cells #[.slice a1 n1 c1, .slice a2 n2 c2] 42))) := (HB9.out.trans (hb2.mono HB9.out.size)).trans (hbV.mono (HB9.out.trans (hb2.mono HB9.out.size)).size)
  obtain ⟨P, hPe⟩ : ∃ P, w2.heap.size = P := ⟨_, rfl⟩
  rw [hPe] at HP ⊢
  clear hr1 hr2 hb2 hbV hPe
  generalize w2.alloc (.cells #[.slice a1 n1 c1, .slice a2 n2 c2] 42) = V at *
  have K0 := fun d os => cell_regrown HP.out.c0 d os
  have K1 := fun d os => cell_regrown HP.out.c1 d os
  obtain ⟨s1, hs1⟩ : ∃ s, sizeS (vals (dfS zs)) = s := ⟨_, rfl⟩
  obtain ⟨s2, hs2⟩ : ∃ s, sizeS (lens (dfS zs)) = s := ⟨_, rfl⟩
  rw [hs1] at hv
  rw [hs2] at hn
  have HC1 : Hid (∀ d os, Calls Try.prog 15 #[.slice a1 n1 c1] (Go.Sort.grow (redrawn V d) os) fun e w' => e = .returned (.int .i64 s1) ∧ Below (Go.Sort.grow (redrawn V d) os).heap.size (Go.Sort.grow (redrawn V d) os) w') := fun d os => by
    have := size_any (vals_smalls (df_smalls HZ.out)) hm1 (HV.out.below (below_regrown V d os))
    rwa [hs1] at this
  have HC2 : Hid (∀ d os, Calls Try.prog 15 #[.slice a2 n2 c2] (Go.Sort.grow (redrawn V d) os) fun e w' => e = .returned (.int .i64 s2) ∧ Below (Go.Sort.grow (redrawn V d) os).heap.size (Go.Sort.grow (redrawn V d) os) w') := fun d os => by
    have := size_any (lens_smalls (zs := dfS zs) (by have := HLE.out; have := HL9.out; omega)) hm2 (HN.out.below (below_regrown V d os))
    rwa [hs2] at this
  have e1 : Hid (szS 3 zs = s1 + s2) := by rw [← hs1, ← hs2]; exact e0.out
  have hb1 : (s1 : Int) ≤ 1000000000000000 := by omega
  have hb2 : (s2 : Int) ≤ 1000000000000000 := by omega
  clear hs1 hs2 hv hn hrl e0 HLE
  refine wp_region_quiet_below (by kernel_rfl) (by kernel_rfl) ?_
  repeat (go_big_quiet_step (first
    | (go_at_call 15; first | (with_reducible exact Calls.regrown_of (HC1.out _ _)) | (with_reducible exact Calls.regrown_of (HC2.out _ _)))))
  refine wpQuiet_nil ?_
  intro _ hw'
  obtain ⟨⟨dq, osq⟩, hw''⟩ := hw'
  subst hw''
  have HBQ : Hid (Below W.heap.size W (Go.Sort.grow (redrawn V dq) osq)) := HB.out.trans ((below_regrown V dq osq).mono HB.out.size)
  generalize Go.Sort.grow (redrawn V dq) osq = WQ at *
  go_wp2
  go_ret
  exact ⟨by rw [e1.out]; simp [Int.natCast_add], HBQ.out⟩

theorem size4_any {K : Nat → Prop} {a : Option Addr} {len cap : Nat} {zs : List Int} (hz : Smalls zs) (hl : len ≤ 1099511627776) {W : World} (hR : Rd K W .i64 a len cap zs) (k : Nat) (hk : k < 4) :
    Calls Try.prog 46 #[.int .i64 k, .slice a len cap] W fun e W' => e = .returned (.int .i64 (szS k zs : Nat)) ∧ Below W.heap.size W W' := by
  have h4 : k = 0 ∨ k = 1 ∨ k = 2 ∨ k = 3 := by omega
  rcases h4 with rfl | rfl | rfl | rfl
  · exact size4_even hz hl hR 0 (.inl rfl)
  · exact size4_one hz hl hR
  · exact size4_even hz hl hR 2 (.inr rfl)
  · exact size4_three hz hl hR
theorem size_big {zs : List Int} (hz : Smalls zs) (hl : zs.length ≤ 300) (k : Nat) : szS k zs ≤ 100000 := by
  have h : ∀ ps ∈ partsS k zs, sizeS ps ≤ 32789 := fun ps hps => by
    have h1 := parts_fair hz (by omega) k ps hps
    have h2 := pack_len ps h1.1 (parts_len (by omega) k ps hps)
    have hgl : (gatherS (bitsS ps) (spaceS ps)).length = spaceS ps := gB_length _ _ _
    unfold packS at h2
    rw [List.length_append, hgl] at h2
    exact h2
  have h2 := parts_two k zs
  unfold szS sumS
  match partsS k zs, h, h2 with
  | [], _, _ => simp
  | [a], h, _ => have := h a (by simp); simp; omega
  | [a, b], h, _ => have := h a (by simp); have := h b (by simp); simp; omega

end Go.Proofs.Ythmgbnlffkhblaa
