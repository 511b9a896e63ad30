/-
  Packing and reading back are as in the reference: for all lists, bytes and numbers the law returns true and changes nothing. No condition.
-/
import Derived.Test.YthmgbnlffkhblaaRows
import Derived.Test.YthmgbnlffkhblaaPkRef8
import Derived.OpenShut
import Derived.Deep.DeepCutAuto
namespace Go.Proofs.Ythmgbnlffkhblaa.bitpackMatchesReference
open Go.ChangeShapes Go.WideShapes Go.ChangeAt Go.RowKit
open Go.Proofs.Ythmgbnlffkhblaa

def uL (bs : List Int) : List Int := if (unS bs).2.2 = 0 then (unS bs).1 else []
def uR (bs : List Int) : List Int := if (unS bs).2.2 = 0 then bs.drop (unS bs).2.1 else []
def rU (bs : List Int) : Int := if (rdS bs).2.2 = 0 then (rdS bs).1 else 0
def rR (bs : List Int) : List Int := if (rdS bs).2.2 = 0 then bs.drop (rdS bs).2.1 else []

/-- What both sides give back. -/
def GotP (u : Int) (l r : List Int) (x : Int) (W : World) (e : Ending) (W' : World) : Prop :=
  Below W.heap.size W W' ∧ ∃ a1 n1 c1 a2 n2 c2, e = .returned (gotV u (.slice a1 n1 c1) (.slice a2 n2 c2) x) ∧ Rd (fun _ => True) W' .i64 a1 n1 c1 l ∧ Rd (fun _ => True) W' .u8 a2 n2 c2 r

theorem unpacked_p {K : Nat → Prop} {a : Option Addr} {len cap : Nat} {bs : List Int} (ho : Oct bs) {W : World} (hR : Rd K W .u8 a len cap bs) :
    Calls Try.prog 26 #[.slice a len cap] W (GotP 0 (uL bs) (uR bs) (unS bs).2.2 W) := by
  by_cases h : (unS bs).2.2 = 0
  · have e : unS bs = ((unS bs).1, (unS bs).2.1, 0) := by rw [← h]
    refine (unpacked_good ho hR e).mono ?_
    rintro e W' ⟨hb, a1, n1, a2, m, he, h1, h2⟩
    unfold uL uR
    rw [if_pos h, if_pos h, h]
    exact ⟨hb, _, _, _, _, _, _, he, h1.mono fun _ _ _ => trivial, (h2.below hb).mono fun _ _ _ => trivial⟩
  · refine (unpacked_bad ho hR h rfl).mono ?_
    rintro e W' ⟨he, hb⟩
    unfold uL uR
    rw [if_neg h, if_neg h]
    exact ⟨hb, _, _, _, _, _, _, he, Rd.empty, Rd.empty⟩
theorem unpackR_p {K : Nat → Prop} {a : Option Addr} {len cap : Nat} {bs : List Int} (ho : Oct bs) {W : World} (hR : Rd K W .u8 a len cap bs) :
    Calls Try.prog 27 #[.slice a len cap] W (GotP 0 (uL bs) (uR bs) (unS bs).2.2 W) := by
  refine (unpackR_any ho hR).mono ?_
  rintro e W' ⟨hb, ⟨h, a1, n1, c1, a2, n2, c2, he, h1, h2⟩ | ⟨h, he⟩⟩
  · unfold uL uR
    rw [if_pos h, if_pos h, h]
    exact ⟨hb, _, _, _, _, _, _, he, h1.mono fun _ _ _ => trivial, (h2.below hb).mono fun _ _ _ => trivial⟩
  · unfold uL uR
    rw [if_neg h, if_neg h]
    exact ⟨hb, _, _, _, _, _, _, he, Rd.empty, Rd.empty⟩
theorem read_p {K : Nat → Prop} {a : Option Addr} {len cap : Nat} {bs : List Int} (ho : Oct bs) {W : World} (hR : Rd K W .u8 a len cap bs) :
    Calls Try.prog 24 #[.slice a len cap] W (GotP (rU bs) [] (rR bs) (rdS bs).2.2 W) := by
  by_cases h : (rdS bs).2.2 = 0
  · have e : rdS bs = ((rdS bs).1, (rdS bs).2.1, 0) := by rw [← h]
    refine (lread_good ho hR e).mono ?_
    rintro e W' ⟨hb, a2, m, he, h2⟩
    unfold rU rR
    rw [if_pos h, if_pos h, h]
    exact ⟨hb, _, _, _, _, _, _, he, Rd.empty, (h2.below hb).mono fun _ _ _ => trivial⟩
  · refine (lread_bad ho hR h rfl).mono ?_
    rintro e W' ⟨he, hb⟩
    unfold rU rR
    rw [if_neg h, if_neg h]
    exact ⟨hb, _, _, _, _, _, _, he, Rd.empty, Rd.empty⟩
theorem readR_p {K : Nat → Prop} {a : Option Addr} {len cap : Nat} {bs : List Int} (ho : Oct bs) {W : World} (hR : Rd K W .u8 a len cap bs) :
    Calls Try.prog 25 #[.slice a len cap] W (GotP (rU bs) [] (rR bs) (rdS bs).2.2 W) := by
  refine (readR_any ho hR).mono ?_
  rintro e W' ⟨hb, ⟨h, a2, n2, c2, he, h2⟩ | ⟨h, he⟩⟩
  · unfold rU rR
    rw [if_pos h, if_pos h, h]
    exact ⟨hb, _, _, _, _, _, _, he, Rd.empty, (h2.below hb).mono fun _ _ _ => trivial⟩
  · unfold rU rR
    rw [if_neg h, if_neg h]
    exact ⟨hb, _, _, _, _, _, _, he, Rd.empty, Rd.empty⟩

theorem pack_oct3 (zs : List Int) : Oct (packS zs) := by
  have hh : Oct (headS zs) := by
    unfold headS
    split
    · exact var_oct 0
    · refine ((var_oct _).append (var_oct _)).append fun x hx => ?_
      rw [List.mem_singleton] at hx
      have := width_le zs
      omega
  unfold packS
  exact Oct.append hh (gather_oct _ (bitsS_bin zs) _)
theorem pack_size3 (zs : List Int) : (packS zs).length = sizeS zs := by
  have hgl : (gatherS (bitsS zs) (spaceS zs)).length = spaceS zs := gB_length _ _ _
  unfold sizeS packS
  rw [List.length_append, hgl]

set_option maxRecDepth 100000 in
set_option maxHeartbeats 4000000 in
theorem walk {K1 K2 : Nat → Prop} {a1 a2 : Option Addr} {n1 c1 n2 c2 : Nat} {zs bs : List Int} (hz : Smalls zs) (ho : Oct bs) (m : Nat) (hm : m < 18446744073709551616) (h1 : n1 ≤ 300) (h2 : n2 ≤ 300) (w : World) (hR1 : Rd K1 w .i64 a1 n1 c1 zs) (hR2 : Rd K2 w .u8 a2 n2 c2 bs) :
    Calls Try.prog 3 #[.slice a1 n1 c1, .slice a2 n2 c2, .int .u64 m] w fun e w' => e = .returned (.bool true) ∧ Below w.heap.size w w' := by
  obtain ⟨i0, hi, hz0, hz1, hz2⟩ := info_parts Try.infoB4
  have HW1 : Hid (Rd (fun b => b < w.heap.size) w .i64 a1 n1 c1 zs) := hR1.mono fun b h _ => h
  have HW2 : Hid (Rd (fun b => b < w.heap.size) w .u8 a2 n2 c2 bs) := hR2.mono fun b h _ => h
  have HLZ : Hid (n1 = zs.length) := hR1.hl
  clear hR1 hR2
  have hn4 : n1 ≤ 4096 := by omega
  have hpl := pack_len zs hz (by have := HLZ.out; omega)
  obtain ⟨lp, hlp⟩ : ∃ l, (packS zs).length = l := ⟨_, rfl⟩
  have hpo : 1 ≤ lp := by rw [← hlp]; unfold packS; rw [List.length_append]; have := head_pos zs; omega
  rw [hlp] at hpl
  have HLP := Lib.hid hlp
  obtain ⟨nn, hnn⟩ : ∃ n, IntKind.i64.wrap (m : Int) = n := ⟨_, rfl⟩
  have hnnI : I64 nn := by rw [← hnn, IntKind.wrap_i64]; unfold I64; omega
  have hnn2 : wrap64 (m : Int) = nn := by rw [← hnn, IntKind.wrap_i64]; unfold wrap64; omega
  have HZ1 : Hid (∀ W, Calls Try.prog 17 #[.int .i64 nn] W fun e w' => e = .returned (.int .u64 (zz nn)) ∧ W = w') := fun W => zigzag_any nn hnnI W
  have HZ2 : Hid (∀ W, Calls Try.prog 18 #[.int .i64 nn] W fun e w' => e = .returned (.int .u64 (zz nn)) ∧ W = w') := fun W => zigzagR_any nn hnnI W
  have hmU : U64 (m : Int) := ⟨by omega, by omega⟩
  have HU1 : Hid (∀ W, Calls Try.prog 19 #[.int .u64 m] W fun e w' => e = .returned (.int .i64 (uz m)) ∧ W = w') := fun W => unzigzag_any m hmU W
  have HU2 : Hid (∀ W, Calls Try.prog 20 #[.int .u64 m] W fun e w' => e = .returned (.int .i64 (uz m)) ∧ W = w') := fun W => unzigzagR_any m hmU W
  generalize zz nn = zg at *
  generalize uz (m : Int) = ug at *
  have hzg : (zg != zg) = false := by simp
  have hug : (ug != ug) = false := by simp
  have hS1 : Hid (∀ W, Rd (fun b => b < w.heap.size) W .i64 a1 n1 c1 zs → Calls Try.prog 15 #[.slice a1 n1 c1] W fun e W' => e = .returned (.int .i64 lp) ∧ Below W.heap.size W W') := fun W h => by
    have := size_any hz (by omega) h
    rwa [← pack_size3, HLP.out] at this
  have hS2 : Hid (∀ W, Rd (fun b => b < w.heap.size) W .i64 a1 n1 c1 zs → Calls Try.prog 16 #[.slice a1 n1 c1] W fun e W' => e = .returned (.int .i64 lp) ∧ Below W.heap.size W W') := fun W h => by
    have := sizeR_any hz hn4 h
    rwa [HLP.out] at this
  have hll : ((lp : Int) != (lp : Int)) = false := by simp
  clear hlp hnnI hmU
  go_enter Try.func3, Try.ntmps3
  go_wp2_with fail
  refine (examples_any _).mono ?_
  rintro e w1 ⟨rfl, hb1⟩
  have HB1 := Lib.hid hb1
  clear hb1
  go_wp2_with fail
  refine (packed_any hz hn4 (HW1.out.below HB1.out)).mono ?_
  rintro e w2 ⟨gp, cp, rfl, hrp, hb2⟩
  rw [HLP.out] at hrp ⊢
  have HP2 := Lib.hid (hrp.mono (K' := fun _ => True) fun _ _ _ => trivial)
  have HB2 : Hid (Below w.heap.size w w2) := HB1.out.trans (hb2.mono HB1.out.size)
  clear hrp hb2 HB1
  go_wp2_with fail
  refine (packR_any hz hn4 (HW1.out.below HB2.out)).mono ?_
  rintro e w3 ⟨gq, cq, rfl, hrq, hb3⟩
  rw [HLP.out] at hrq ⊢
  have HQ3 := Lib.hid (hrq.mono (K' := fun _ => True) fun _ _ _ => trivial)
  have HP3 := Lib.hid (HP2.out.below hb3)
  have HB3 : Hid (Below w.heap.size w w3) := HB2.out.trans (hb3.mono HB2.out.size)
  clear hrq hb3 HB2 HP2
  go_upto_region 7 with fail
  have hbV : Below w3.heap.size w3 ((w3.alloc (.cells #[.slice (some ⟨gp, 0, none⟩) lp cp, .int .i64 0] 28)).alloc (.cells #[.slice (some ⟨gq, 0, none⟩) lp cq, .int .i64 0] 28)) := ((Below.refl _ _).alloc (Nat.le_refl _) _).alloc (by simp) _
  have HPA := Lib.hid ((Pair.new w3 28 (.slice (some ⟨gp, 0, none⟩) lp cp) (.int .i64 0)).alloc (.cells #[.slice (some ⟨gq, 0, none⟩) lp cq, .int .i64 0] 28))
  have hpb := Pair.new (w3.alloc (.cells #[.slice (some ⟨gp, 0, none⟩) lp cp, .int .i64 0] 28)) 28 (.slice (some ⟨gq, 0, none⟩) lp cq) (.int .i64 0)
  simp only [World.size_alloc] at hpb
  have HPB := Lib.hid hpb
  have HP4 := Lib.hid (HP3.out.below hbV)
  have HQ4 := Lib.hid (HQ3.out.below hbV)
  have HB4 : Hid (Below w.heap.size w ((w3.alloc (.cells #[.slice (some ⟨gp, 0, none⟩) lp cp, .int .i64 0] 28)).alloc (.cells #[.slice (some ⟨gq, 0, none⟩) lp cq, .int .i64 0] 28))) := HB3.out.trans (hbV.mono HB3.out.size)
  obtain ⟨BA, hBA⟩ : ∃ B, B = w3.heap.size := ⟨_, rfl⟩
  rw [← hBA] at HPA HPB ⊢
  obtain ⟨BB, hBB⟩ : ∃ B, BA + 1 = B := ⟨_, rfl⟩
  rw [hBB] at HPB ⊢
  clear hpb hbV HP3 HQ3 HB3 hBA hBB
  generalize (w3.alloc (.cells #[.slice (some ⟨gp, 0, none⟩) lp cp, .int .i64 0] 28)).alloc (.cells #[.slice (some ⟨gq, 0, none⟩) lp cq, .int .i64 0] 28) = V at *
  have p0 := HPA.out.c0
  have p1 := HPA.out.c1
  have r0 := HPB.out.c0
  have r1 := HPB.out.c1
  go_wp2_with fail
  clear p0 p1 r0 r1
  refine (same_any HP4.out HQ4.out).mono ?_
  rw [sameB_true rfl]
  rintro e w5 ⟨rfl, hb5⟩
  have HPB := Lib.hid (HPB.out.below hb5 HPB.out.lt)
  have HQ5 := Lib.hid (HQ4.out.below hb5)
  have HB5 : Hid (Below w.heap.size w w5) := HB4.out.trans (hb5.mono HB4.out.size)
  clear hb5 HP4 HQ4 HB4 HPA
  go_wp2_with fail
  refine (hS1.out _ (HW1.out.below HB5.out)).mono ?_
  rintro e w6 ⟨rfl, hb6⟩
  have HPB := Lib.hid (HPB.out.below hb6 HPB.out.lt)
  have HQ6 := Lib.hid (HQ5.out.below hb6)
  have HB6 : Hid (Below w.heap.size w w6) := HB5.out.trans (hb6.mono HB5.out.size)
  clear hb6 HQ5 HB5
  go_wp2_with fail
  refine (hS2.out _ (HW1.out.below HB6.out)).mono ?_
  rintro e w7 ⟨rfl, hb7⟩
  have HPB := Lib.hid (HPB.out.below hb7 HPB.out.lt)
  have HQ7 := Lib.hid (HQ6.out.below hb7)
  have HB7 : Hid (Below w.heap.size w w7) := HB6.out.trans (hb7.mono HB6.out.size)
  clear hb7 HQ6 HB6
  go_wp2_with fail
  refine (HZ1.out w7).mono ?_
  rintro e w7' ⟨rfl, rfl⟩
  go_wp2_with fail
  refine (HZ2.out w7).mono ?_
  rintro e w7' ⟨rfl, rfl⟩
  go_wp2_with fail
  refine (HU1.out w7).mono ?_
  rintro e w7' ⟨rfl, rfl⟩
  go_wp2_with fail
  refine (HU2.out w7).mono ?_
  rintro e w7' ⟨rfl, rfl⟩
  go_wp2_with fail
  refine (varint_any _ a2 n2 c2 bs m hm w7 (HW2.out.below HB7.out) (by omega)).mono ?_
  rintro e w8 ⟨g8, c8, rfl, hc8, hrow8, hb8⟩
  have hvl := var_len hm
  have hlv : (bs ++ varN m).length ≤ 310 := by rw [List.length_append, ← HW2.out.hl]; omega
  obtain ⟨lv, hlve⟩ : ∃ l, (bs ++ varN m).length = l := ⟨_, rfl⟩
  have HLV := Lib.hid hlve
  rw [hlve] at hc8 hrow8 hlv ⊢
  clear hlve
  have HV8 := Lib.hid ((Rd.of_row HLV.out.symm hc8 (by omega) hrow8).mono (K' := fun _ => True) fun _ _ _ => trivial)
  have HPB := Lib.hid (HPB.out.below hb8 HPB.out.lt)
  have HQ8 := Lib.hid (HQ7.out.below hb8)
  have HB8 : Hid (Below w.heap.size w w8) := HB7.out.trans (hb8.mono HB7.out.size)
  clear hc8 hrow8 hb8 HQ7 HB7 hvl
  go_wp2_with fail
  refine (varintR_any _ a2 n2 c2 bs m hm w8 (HW2.out.below HB8.out) (by omega)).mono ?_
  rintro e w9 ⟨g9, c9, rfl, hc9, hrow9, hb9⟩
  rw [HLV.out] at hc9 hrow9 ⊢
  have HV9 := Lib.hid ((Rd.of_row HLV.out.symm hc9 (by omega) hrow9).mono (K' := fun _ => True) fun _ _ _ => trivial)
  have HV8 := Lib.hid (HV8.out.below hb9)
  have HPB := Lib.hid (HPB.out.below hb9 HPB.out.lt)
  have HQ9 := Lib.hid (HQ8.out.below hb9)
  have HB9 : Hid (Below w.heap.size w w9) := HB8.out.trans (hb9.mono HB8.out.size)
  clear hc9 hrow9 hb9 HQ8 HB8
  go_wp2_with fail
  refine (same_any HV8.out HV9.out).mono ?_
  rw [sameB_true rfl]
  rintro e wa ⟨rfl, hba⟩
  have HPB := Lib.hid (HPB.out.below hba HPB.out.lt)
  have HQa := Lib.hid (HQ9.out.below hba)
  have HBa : Hid (Below w.heap.size w wa) := HB9.out.trans (hba.mono HB9.out.size)
  clear hba HQ9 HB9 HV8 HV9 hlv
  go_wp2_with fail
  refine (read_p ho (HW2.out.below HBa.out)).mono ?_
  rintro e wb ⟨hbb, x1, x2, x3, x4, x5, x6, rfl, hl1, hr1⟩
  have HL1 := Lib.hid hl1
  have HR1 := Lib.hid hr1
  have HPB := Lib.hid (HPB.out.below hbb HPB.out.lt)
  have HQb := Lib.hid (HQa.out.below hbb)
  have HBb : Hid (Below w.heap.size w wb) := HBa.out.trans (hbb.mono HBa.out.size)
  clear hbb hl1 hr1 HQa HBa
  obtain ⟨ru, hru⟩ : ∃ u, rU bs = u := ⟨_, rfl⟩
  obtain ⟨re, hre⟩ : ∃ u, (rdS bs).2.2 = u := ⟨_, rfl⟩
  have HRU := Lib.hid hru
  have HRE := Lib.hid hre
  rw [hru, hre]
  clear hru hre
  go_wp2_with fail
  refine (readR_p ho (HW2.out.below HBb.out)).mono ?_
  rintro e wc ⟨hbc, y1, y2, y3, y4, y5, y6, rfl, hl2, hr2⟩
  have HL2 := Lib.hid hl2
  have HR2 := Lib.hid hr2
  have HL1 := Lib.hid (HL1.out.below hbc)
  have HR1 := Lib.hid (HR1.out.below hbc)
  have HPB := Lib.hid (HPB.out.below hbc HPB.out.lt)
  have HQc := Lib.hid (HQb.out.below hbc)
  have HBc : Hid (Below w.heap.size w wc) := HBb.out.trans (hbc.mono HBb.out.size)
  clear hbc hl2 hr2 HQb HBb
  rw [HRU.out, HRE.out]
  go_wp2_with fail
  refine (equal_true ru re HL1.out HR1.out HL2.out HR2.out).mono ?_
  rintro e wd ⟨rfl, hbd⟩
  have HPB := Lib.hid (HPB.out.below hbd HPB.out.lt)
  have HQd := Lib.hid (HQc.out.below hbd)
  have HBd : Hid (Below w.heap.size w wd) := HBc.out.trans (hbd.mono HBc.out.size)
  clear hbd HQc HBc HL1 HR1 HL2 HR2 HRU HRE
  go_wp2_with fail
  refine (unpacked_p ho (HW2.out.below HBd.out)).mono ?_
  rintro e we ⟨hbe, x1, x2, x3, x4, x5, x6, rfl, hl1, hr1⟩
  have HL1 := Lib.hid hl1
  have HR1 := Lib.hid hr1
  have HPB := Lib.hid (HPB.out.below hbe HPB.out.lt)
  have HQe := Lib.hid (HQd.out.below hbe)
  have HBe : Hid (Below w.heap.size w we) := HBd.out.trans (hbe.mono HBd.out.size)
  clear hbe hl1 hr1 HQd HBd
  obtain ⟨re, hre⟩ : ∃ u, (unS bs).2.2 = u := ⟨_, rfl⟩
  have HRE := Lib.hid hre
  rw [hre]
  clear hre
  go_wp2_with fail
  refine (unpackR_p ho (HW2.out.below HBe.out)).mono ?_
  rintro e wf ⟨hbf, y1, y2, y3, y4, y5, y6, rfl, hl2, hr2⟩
  have HL2 := Lib.hid hl2
  have HR2 := Lib.hid hr2
  have HL1 := Lib.hid (HL1.out.below hbf)
  have HR1 := Lib.hid (HR1.out.below hbf)
  have HPB := Lib.hid (HPB.out.below hbf HPB.out.lt)
  have HQf := Lib.hid (HQe.out.below hbf)
  have HBf : Hid (Below w.heap.size w wf) := HBe.out.trans (hbf.mono HBe.out.size)
  clear hbf hl2 hr2 HQe HBe
  rw [HRE.out]
  go_wp2_with fail
  refine (equal_true 0 re HL1.out HR1.out HL2.out HR2.out).mono ?_
  rintro e wg ⟨rfl, hbg⟩
  have HPB := Lib.hid (HPB.out.below hbg HPB.out.lt)
  have HQg := Lib.hid (HQf.out.below hbg)
  have HBg : Hid (Below w.heap.size w wg) := HBf.out.trans (hbg.mono HBf.out.size)
  clear hbg HQf HBf HL1 HR1 HL2 HR2 HRE
  have r0 := HPB.out.c0
  have rlt := HPB.out.lt
  have hbN : Below w.heap.size w (wg.alloc (.cells #[] 5)) := HBg.out.alloc HBg.out.size _
  obtain ⟨g5, c5, w5, hr5, hrow5, hg5, hc5, hbg5⟩ := run_append_copy' (P := Try.prog) (wg.alloc (.cells #[] 5)) w.heap.size 23 23 5 i0 _ 1 .u8 Try.underlying23 hi hz0 hz1 hz2 rfl wg.heap.size 0 (World.ownsRow_made wg #[] 0 HBg.out.size (by decide) rfl) (.slice (some ⟨gq, 0, none⟩) lp cq) (packS zs) lp HLP.out.symm (HQg.out.below ((Below.refl _ _).alloc (Nat.le_refl _) _)).reads (by unfold maxLen; omega) (by omega) hbN.size
  have HROW5 := Lib.hid hrow5
  have HR5 := Lib.hid hr5
  have HB5 : Hid (Below w.heap.size w w5) := hbN.grown hg5 hbN.size (fun k e => by cases e; exact HBg.out.size)
  clear hr5 hrow5 hg5 hbg5 hbN hi hz0 hz1 hz2
  have HFIN : Hid (∀ (ys : List Int) (W : World), ys.length = lp → Oct ys → W.ownsRow w.heap.size 5 1 (.slice (some ⟨g5, 0, none⟩) lp c5) lp (ys.map (Value.int .u8)) → Rd (fun b => w.heap.size ≤ b) W .u8 (some ⟨g5, 0, none⟩) lp c5 ys) := fun ys W hl _ hr => Rd.of_row hl.symm hc5 (by omega) hr
  go_upto_region 12 with (at_builtin; refine wpList_append_want (o := ⟨some 90, _, _, _, _, _⟩) _ rfl _ _ _ _ rfl _ _ rfl rfl _ _ HR5.out ?_)
  clear r0 rlt HR5
  by_cases h20 : 0 < n2
  · obtain ⟨b2, off2, rfl, _, _, hcs⟩ := (HW2.out.below HB5.out).cells h20
    have hcb := hcs 0 h20
    rw [Nat.add_zero] at hcb
    have hb0 := ho.getD 0
    obtain ⟨y0, hy0⟩ : ∃ y, bs[0]?.getD 0 = y := ⟨_, rfl⟩
    rw [hy0] at hcb hb0
    have h20I : (0 : Int) < (n2 : Int) := by omega
    have h20J : (1 : Int) ≤ (n2 : Int) := by omega
    obtain ⟨ix, hix⟩ : ∃ i, m % lp = i := ⟨_, rfl⟩
    have hixl : ix < lp := by rw [← hix]; exact Nat.mod_lt _ (by omega)
    have hmod : (m : Int) % (lp : Int) = (ix : Int) := by omega
    have hmod2 : (m : Int).tmod (lp : Int) = (ix : Int) := by rw [Int.tmod_eq_emod_of_nonneg (by omega)]; exact hmod
    have hwl : IntKind.u64.wrap (lp : Int) = lp := by rw [IntKind.wrap_u64]; omega
    have hwi : IntKind.i64.wrap (ix : Int) = ix := by rw [IntKind.wrap_i64]; omega
    have hlpz : ((lp : Int) == 0) = false := by rw [beq_eq_false_iff_ne]; omega
    have hlpn : ¬ lp = 0 := by omega
    have hfr := row_unfrozen (j := ix) HROW5.out
    have hcr := row_cell (j := ix) HROW5.out (by rw [HLP.out]; exact hixl)
    have hglt := row_lt HROW5.out
    have hst := row_store (j := ix) HROW5.out (.int .u8 y0)
    rw [← List.map_set] at hst
    have hlg : w.heap.size ≤ g5 := row_base HROW5.out
    have HROWY : Hid ((w5.setCell ⟨g5, ix, none⟩ (.int .u8 y0)).drew.ownsRow w.heap.size 5 1 (.slice (some ⟨g5, 0, none⟩) lp c5) lp (((packS zs).set ix y0).map (Value.int .u8))) := hst
    have HBY : Hid (Below w.heap.size w (w5.setCell ⟨g5, ix, none⟩ (.int .u8 y0)).drew) := below_drew (HB5.out.setCell hlg _)
    clear hst hcs hy0
    go_upto_region 13 with fail
    go_region
    clear hcb hcr hfr hglt
    generalize (w5.setCell ⟨g5, ix, none⟩ (.int .u8 y0)).drew = wy at *
    obtain ⟨ys, hys⟩ : ∃ l, (packS zs).set ix y0 = l := ⟨_, rfl⟩
    have HOY : Hid (Oct ys) := by
      show Oct ys
      rw [← hys]
      intro x hx
      rcases List.mem_or_eq_of_mem_set hx with h | h
      · exact pack_oct3 zs x h
      · rw [h]; exact hb0
    rw [hys] at HROWY
    have HRY := Lib.hid (HFIN.out ys wy (by rw [← hys, List.length_set, HLP.out]) HOY.out HROWY.out)
    clear hys hmod hmod2 hwl hwi hlpz hlpn HROWY
    go_wp2_with fail
    refine (unpacked_p HOY.out HRY.out).mono ?_
    rintro e we ⟨hbe, x1, x2, x3, x4, x5, x6, rfl, hl1, hr1⟩
    have HL1 := Lib.hid hl1
    have HR1 := Lib.hid hr1
    have HRY := Lib.hid (HRY.out.below hbe)
    have HBe : Hid (Below w.heap.size w we) := HBY.out.trans (hbe.mono HBY.out.size)
    clear hbe hl1 hr1 HBY
    obtain ⟨re, hre⟩ : ∃ u, (unS ys).2.2 = u := ⟨_, rfl⟩
    have HRE := Lib.hid hre
    rw [hre]
    clear hre
    go_wp2_with fail
    refine (unpackR_p HOY.out HRY.out).mono ?_
    rintro e wf ⟨hbf, y1, y2, y3, y4, y5, y6, rfl, hl2, hr2⟩
    have HL2 := Lib.hid hl2
    have HR2 := Lib.hid hr2
    have HL1 := Lib.hid (HL1.out.below hbf)
    have HR1 := Lib.hid (HR1.out.below hbf)
    have HBf : Hid (Below w.heap.size w wf) := HBe.out.trans (hbf.mono HBe.out.size)
    clear hbf hl2 hr2 HBe
    rw [HRE.out]
    go_wp2_with fail
    refine (equal_true 0 re HL1.out HR1.out HL2.out HR2.out).mono ?_
    rintro e wg2 ⟨rfl, hbg⟩
    have HBg2 : Hid (Below w.heap.size w wg2) := HBf.out.trans (hbg.mono HBf.out.size)
    clear hbg HBf HL1 HR1 HL2 HR2
    go_wp2
    go_ret
    exact ⟨rfl, HBg2.out⟩
  · obtain rfl : n2 = 0 := by omega
    obtain ⟨ys, hys⟩ : ∃ l, packS zs = l := ⟨_, rfl⟩
    have HOY : Hid (Oct ys) := by show Oct ys; rw [← hys]; exact pack_oct3 zs
    have hrow := HROW5.out
    rw [hys] at hrow
    have HRY := Lib.hid (HFIN.out ys w5 (by rw [← hys, HLP.out]) HOY.out hrow)
    have HBY := Lib.hid HB5.out
    clear hys hrow h20
    go_wp2_with fail
    refine (unpacked_p HOY.out HRY.out).mono ?_
    rintro e we ⟨hbe, x1, x2, x3, x4, x5, x6, rfl, hl1, hr1⟩
    have HL1 := Lib.hid hl1
    have HR1 := Lib.hid hr1
    have HRY := Lib.hid (HRY.out.below hbe)
    have HBe : Hid (Below w.heap.size w we) := HBY.out.trans (hbe.mono HBY.out.size)
    clear hbe hl1 hr1 HBY
    obtain ⟨re, hre⟩ : ∃ u, (unS ys).2.2 = u := ⟨_, rfl⟩
    have HRE := Lib.hid hre
    rw [hre]
    clear hre
    go_wp2_with fail
    refine (unpackR_p HOY.out HRY.out).mono ?_
    rintro e wf ⟨hbf, y1, y2, y3, y4, y5, y6, rfl, hl2, hr2⟩
    have HL2 := Lib.hid hl2
    have HR2 := Lib.hid hr2
    have HL1 := Lib.hid (HL1.out.below hbf)
    have HR1 := Lib.hid (HR1.out.below hbf)
    have HBf : Hid (Below w.heap.size w wf) := HBe.out.trans (hbf.mono HBe.out.size)
    clear hbf hl2 hr2 HBe
    rw [HRE.out]
    go_wp2_with fail
    refine (equal_true 0 re HL1.out HR1.out HL2.out HR2.out).mono ?_
    rintro e wg2 ⟨rfl, hbg⟩
    have HBg2 : Hid (Below w.heap.size w wg2) := HBf.out.trans (hbg.mono HBf.out.size)
    clear hbg HBf HL1 HR1 HL2 HR2
    go_wp2
    go_ret
    exact ⟨rfl, HBg2.out⟩

end Go.Proofs.Ythmgbnlffkhblaa.bitpackMatchesReference
