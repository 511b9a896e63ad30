/-
  Expanding inverts taking the runs: for all lists the law returns true and changes nothing. No condition.
-/
import Derived.Test.YthmgbnlffkhblaaRows
import Derived.Test.YthmgbnlffkhblaaRnEx
import Derived.OpenShut
namespace Go.Proofs.Ythmgbnlffkhblaa.runsExpand
open Go.ChangeShapes Go.WideShapes Go.ChangeAt Go.RowKit
open Go.Proofs.Ythmgbnlffkhblaa

theorem getD_at {l : List Int} {k : Nat} (h : k < l.length) : l[k]?.getD 0 = l[k]'h := by rw [List.getElem?_eq_getElem h]; rfl

set_option maxRecDepth 100000 in
set_option maxHeartbeats 4000000 in
theorem walk {K : Nat → Prop} {a : Option Addr} {len cap : Nat} {zs : List Int} (hl : len ≤ 4096) (w : World) (hR : Rd K w .i64 a len cap zs) :
    Calls Try.prog 6 #[.slice a len cap] w fun e w' => e = .returned (.bool true) ∧ Below w.heap.size w w' := by
  have HR := Lib.hid hR
  have HL : Hid (len = zs.length) := hR.hl
  have hfit := hR.fit
  clear hR
  go_enter Try.func6, Try.ntmps6
  go_wp2_with fail
  refine (examples4_any _).mono ?_
  rintro e w1 ⟨rfl, hb1⟩
  have HB1 := Lib.hid hb1
  have HR1 := Lib.hid (HR.out.below hb1)
  clear hb1
  go_wp2_with fail
  refine (runsOf_any HR1.out (by omega)).mono ?_
  rintro e w2 ⟨a1, n1, c1, a2, n2, c2, rfl, hr1, hr2, hb2⟩
  have hm1 : n1 = (rl zs).length := by rw [hr1.hl, vals_length]
  have hm2 : n2 = (rl zs).length := by rw [hr2.hl, lens_length]
  obtain ⟨m, hme⟩ : ∃ m, m = n1 := ⟨_, rfl⟩
  obtain rfl : m = n2 := by omega
  obtain rfl : m = n1 := hme
  have hm : (rl zs).length = m := hm1.symm
  clear hm1 hm2
  have hml : m ≤ 4096 := by have := rl_len zs; have := HL.out; omega
  have hbV : Below w2.heap.size w2 (w2.alloc (.cells #[.slice a1 m c1, .slice a2 m c2] 42)) := (Below.refl _ _).alloc (Nat.le_refl _) _
  have HP := Lib.hid (Pair.new w2 42 (.slice a1 m c1) (.slice a2 m c2))
  have HV := Lib.hid ((hr1.mono (K' := fun _ => True) fun _ _ _ => trivial).below hbV)
  have HN := Lib.hid ((hr2.mono (K' := fun _ => True) fun _ _ _ => trivial).below hbV)
  have HR2 := Lib.hid ((HR1.out.below hb2).below hbV)
  have HB2 : Hid (Below w.heap.size w (w2.alloc (.cells #[.slice a1 m c1, .slice a2 m c2] 42))) := (HB1.out.trans (hb2.mono HB1.out.size)).trans (hbV.mono (HB1.out.trans (hb2.mono HB1.out.size)).size)
  have HM := Lib.hid hm
  obtain ⟨P, hPe⟩ : ∃ P, w2.heap.size = P := ⟨_, rfl⟩
  go_wp2_with fail
  rw [hPe] at HP
  clear hr1 hr2 hb2 hbV hm hPe HR1 HB1
  generalize w2.alloc (.cells #[.slice a1 m c1, .slice a2 m c2] 42) = V at *
  have hmI : (m : Int) ≤ 4096 := by omega
  have p0 := HP.out.c0
  have p1 := HP.out.c1
  have plt := HP.out.lt
  go_wp2
  clear p0 p1 plt
  go_loopw [5, 6] (fun s i wr => ∃ (k : Nat) (t : Int), k ≤ m ∧ i = .int .i64 k ∧ s = .int .i64 t ∧ 0 ≤ t ∧ t ≤ 4096 ∧ Hid (t = tot ((lens zs).take k)) ∧ Hid (Below V.heap.size V wr)) (fun _ i _ => m - (intOf i).toNat)
  case atStart => exact ⟨0, 0, Nat.zero_le _, rfl, rfl, by decide, by decide, rfl, Below.refl _ _⟩
  case round =>
    obtain ⟨k, t, hk, rfl, rfl, ht0, ht1, HT, HBW⟩ := hrel
    have hq := HP.out.below HBW.out HP.out.lt
    have p0 := hq.c0
    have p1 := hq.c1
    clear hq
    by_cases hlt : k < m
    · obtain ⟨b1, off1, rfl, _, _, hc1⟩ := (HV.out.below HBW.out).cells (by omega)
      obtain ⟨b2, off2, rfl, _, _, hc2⟩ := (HN.out.below HBW.out).cells (by omega)
      have hkl : k < (lens zs).length := by rw [lens_length, HM.out]; exact hlt
      have hle := lens_le zs _ (List.getElem_mem hkl)
      rw [← getD_at hkl, ← HL.out] at hle
      have hcx := hc2 k hlt
      have hsum := tot_take_succ (lens zs) k hkl
      have hsl := tot_take_le (fun n hn => by have := (lens_le zs n hn).1; omega) (k + 1)
      rw [tot_lens, ← HL.out, hsum, ← HT.out] at hsl
      rw [← HT.out] at hsum
      have HT2 := Lib.hid hsum
      have hd1 : decide ((lens zs)[k]?.getD 0 < 1) = false := decide_eq_false (by omega)
      have hd2 : decide ((len : Int) < (lens zs)[k]?.getD 0) = false := decide_eq_false (by omega)
      obtain ⟨hx1, hx2⟩ := hle
      have hfit1 := HV.out.fit
      have hfit2 := HN.out.fit
      clear hsum
      by_cases hk0 : k = 0
      · subst hk0
        simp only [Nat.add_zero] at hcx
        clear hc1 hc2 hkl
        generalize (lens zs)[0]?.getD 0 = x at *
        go_wp2
        go_quiet (fail)
        go_wp2
        go_roundw
        case rel => exact ⟨0 + 1, t + x, by omega, by go_num, by go_num, by omega, by omega, HT2.out.symm, below_drewN HBW.out _⟩
        case measure => simp [intOf]; omega
      · obtain ⟨j, hj⟩ : ∃ j, k = j + 1 := ⟨k - 1, by omega⟩
        have hjl : j < m := by omega
        have hcy := hc1 k hlt
        have hcz := hc1 j hjl
        have hw : IntKind.i64.wrap ((k : Int) - 1) = (j : Int) := by rw [IntKind.wrap_i64]; omega
        have hd0 : decide (0 < k) = true := decide_eq_true (by omega)
        have hne := ((are_rl zs).2 k hkl).2 (by omega)
        rw [show k - 1 = j by omega] at hne
        have hbe : ((vals zs)[k]?.getD 0 == (vals zs)[j]?.getD 0) = false := by simpa using hne
        have hk1 : 1 ≤ k := by omega
        have HJ := Lib.hid hj
        clear hc1 hc2 hkl hne hj hk0
        generalize (lens zs)[k]?.getD 0 = x at *
        generalize (vals zs)[k]?.getD 0 = y at *
        generalize (vals zs)[j]?.getD 0 = z at *
        go_wp2
        go_quiet (fail)
        go_wp2
        go_roundw
        case rel => exact ⟨k + 1, t + x, by omega, by go_num, by go_num, by omega, by omega, HT2.out.symm, below_drewN HBW.out _⟩
        case measure => simp [intOf]; omega
    · obtain rfl : k = m := by omega
      have htl : t = (len : Int) := by rw [HT.out, List.take_of_length_le (by rw [lens_length, HM.out]; exact Nat.le_refl _), tot_lens, HL.out]
      subst htl
      have HX := Lib.hid (expanded_any (lens_smalls (by rw [← HL.out]; omega)) (HV.out.below HBW.out) (HN.out.below HBW.out))
      have HRW := Lib.hid (HR2.out.below HBW.out)
      have HBX : Hid (Below w.heap.size w wr) := HB2.out.trans (HBW.out.mono HB2.out.size)
      have hxp := xpS_runs zs (by rw [← HL.out]; exact hl)
      have HXP := Lib.hid hxp
      clear hxp
      go_wp2_with fail
      refine HX.out.mono ?_
      rintro e w5 ⟨a5, n5, c5, rfl, hr5, hb5⟩
      rw [HXP.out] at hr5 ⊢
      have HR5 := Lib.hid (hr5.mono (K' := fun _ => True) fun _ _ _ => trivial)
      have HRW5 := Lib.hid (HRW.out.below hb5)
      have HB5 : Hid (Below w.heap.size w w5) := HBX.out.trans (hb5.mono HBX.out.size)
      clear hr5 hb5 HBX HRW p0 p1
      go_wp2_with fail
      have hbF : Below w5.heap.size w5 (w5.alloc (.cells #[.slice a5 n5 c5, .int .i64 0] 50)) := (Below.refl _ _).alloc (Nat.le_refl _) _
      refine (ints_any (HR5.out.below hbF) (HRW5.out.below hbF)).mono ?_
      rw [sameB_true rfl]
      rintro e w6 ⟨rfl, hb6⟩
      have HB6 : Hid (Below w.heap.size w w6) := (HB5.out.trans (hbF.mono HB5.out.size)).trans (hb6.mono (HB5.out.trans (hbF.mono HB5.out.size)).size)
      clear hb6 hbF
      go_wp2
      go_ret
      exact ⟨rfl, HB6.out⟩

end Go.Proofs.Ythmgbnlffkhblaa.runsExpand
