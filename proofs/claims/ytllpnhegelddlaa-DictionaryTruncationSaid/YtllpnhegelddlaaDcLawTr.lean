/-
  A proper beginning of a packed dictionary is too short: for all arguments the law returns true and changes nothing. No condition.
-/
import Derived.Test.YtllpnhegelddlaaDcEx
import Derived.Test.YtllpnhegelddlaaDcWords
import Derived.Test.YtllpnhegelddlaaDcStep
import Derived.Deep.DeepCutAuto
namespace Go.Proofs.Ytllpnhegelddlaa.dictionaryTruncation
open Go Go.ChangeShapes Go.WideShapes Go.ChangeAt Go.RowKit
open Go.Proofs.Ytllpnhegelddlaa

set_option maxRecDepth 100000 in
set_option maxHeartbeats 4000000 in
theorem walk {K1 : Nat → Prop} {a1 : Option Addr} {n1 c1 : Nat} {xs : List Int} (ho1 : Oct xs) (n : Nat) (hn : n < 65536) (w : World) (hR1 : RdL K1 w .u8 a1 n1 c1 xs) :
    Calls Try.prog 8 #[.slice a1 n1 c1, .int .u16 n] w fun e w' => e = .returned (.bool true) ∧ Below w.heap.size w w' := by
  have H1 := Lib.hid hR1
  clear hR1
  go_enter Try.func8, Try.ntmps8
  go_wp2_with fail
  refine (examples5_any _).mono ?_
  rintro e w1 ⟨rfl, hb1⟩
  have HB1 := Lib.hid hb1
  clear hb1
  go_wp2_with fail
  refine (words_any ho1 (H1.out.below HB1.out)).mono ?_
  rintro e w2 ⟨gw, nw, cw, rfl, hw, _, hb⟩
  have HW2 := Lib.hid hw
  have HB2 : Hid (Below w.heap.size w w2) := HB1.out.trans (hb.mono HB1.out.size)
  clear hw hb HB1
  go_wp2_with fail
  refine (of_any HW2.out).mono ?_
  rintro e w3 ⟨ad, nd, cd, rfl, hd, hb⟩
  have HD3 := Lib.hid hd
  have HB3 : Hid (Below w.heap.size w w3) := HB2.out.trans (hb.mono HB2.out.size)
  clear hd hb HB2 HW2
  go_wp2_with fail
  refine (packedW_good HD3.out (words_vl xs)).mono ?_
  rintro e w4 ⟨gp, np, cp, rfl, hp, hb⟩
  have hpl := pk_len (words_vl xs)
  have hll := hp.hl
  rw [← hll] at hpl
  have HB4 : Hid (Below w.heap.size w w4) := HB3.out.trans (hb.mono HB3.out.size)
  have hSH := un_sh (words_vl xs) (n % np) (by rw [← hll]; exact Nat.mod_lt _ (by omega))
  obtain ⟨m, hm⟩ : ∃ m, n % np = m := ⟨_, rfl⟩
  have hmlt : m < np := by rw [← hm]; exact Nat.mod_lt _ (by omega)
  have hmod : (n : Int).tmod (np : Int) = (m : Int) := by rw [Int.tmod_eq_emod_of_nonneg (by omega)]; omega
  rw [hm] at hSH
  have HSH : Hid ((unD ((pkD (ofS (wordsD xs))).take m)).2.2 = 7) := by show _ = _; rw [hSH]
  have HP4 := Lib.hid hp
  have hfit := hp.fit
  have hnp0 : ¬ np = 0 := by omega
  have HOM : Hid (Oct ((pkD (ofS (wordsD xs))).take m)) := (pk_oct _).take m
  have hwn : IntKind.i64.wrap (n : Int) = n := by rw [IntKind.wrap_i64]; omega
  have hmcp : m ≤ cp := by omega
  clear hp hb HB3 HD3 hll hSH hm
  go_wp2_with fail
  have hbV : Below w4.heap.size w4 (w4.alloc (.cells #[.slice (some ⟨gp, 0, none⟩) np cp, .int .i64 0] 41)) := (Below.refl _ _).alloc (Nat.le_refl _) _
  have hPV := Pair5.new w4 41 (.slice (some ⟨gp, 0, none⟩) np cp) (.int .i64 0)
  obtain ⟨B, hB⟩ : ∃ B, w4.heap.size = B := ⟨_, rfl⟩
  rw [hB] at hPV ⊢
  have hp0 := hPV.c0
  have hp1 := hPV.c1
  have hpf := hPV.lt
  have HVP := Lib.hid (HP4.out.below hbV)
  have HBV : Hid (Below w.heap.size w (w4.alloc (.cells #[.slice (some ⟨gp, 0, none⟩) np cp, .int .i64 0] 41))) := HB4.out.trans (hbV.mono HB4.out.size)
  clear hbV hPV
  generalize w4.alloc (.cells #[.slice (some ⟨gp, 0, none⟩) np cp, .int .i64 0] 41) = V at *
  clear HB4 HP4 H1 hB
  go_upto_region 7 with fail
  go_cut [7] (fun t wx => ∃ T : Nat, t = .pointer (some ⟨T, 0, none⟩) ∧ Tri5 wx T 48 (.slice none 0 0) (.slice none 0 0) (.int .i64 7) ∧ Below w.heap.size w wx)
  case first =>
    go_region_law (first
      | (refine step5_want (by go_simp) 27 #[.tmp 32] #[22] (by rfl) #[.slice (some ⟨gp, 0, none⟩) m cp] (by go_simp) (enters_of Try.func27 (by kernel_rfl) rfl _ _) _ _ (unpackedW_bad HOM.out (Rd.first5 (HVP.out.below (below_drew5 (Below.refl _ _))) m (Nat.le_of_lt hmlt)) (by decide) HSH.out) ?_
         intro w3 hb3
         have HB3 : Hid (Below w.heap.size w w3) := HBV.out.trans (((below_drew5 (Below.refl _ V)).trans hb3).mono HBV.out.size)
         clear hb3)
      | (refine step5_want (by go_simp) 27 #[.tmp 32] #[22] (by rfl) #[.slice (some ⟨gp, 0, none⟩) m cp] (by go_simp) (enters_of Try.func27 (by kernel_rfl) rfl _ _) _ _ (unpackedW_bad HOM.out (Rd.first5 (HVP.out.below (below_drew5 ((Below.refl _ _).alloc (Nat.le_refl _) _))) m (Nat.le_of_lt hmlt)) (by decide) HSH.out) ?_
         intro w3 hb3
         have hq := Tri5.over hb3
         obtain ⟨q0, q1, q2⟩ := hq.cell
         have f0 := hq.f 0
         have f1 := hq.f 1
         have f2 := hq.f 2
         have qlt := hq.lt
         have HQ := Lib.hid hq
         have HB3 : Hid (Below w.heap.size w w3) := below_over5 HBV.out hb3
         clear hb3 hq))
    all_goals (try simp [Act.put])
    all_goals (go_wp2_with fail; go_meet)
    all_goals first
      | exact ⟨_, rfl, World.alloc_heap_new _ _, below_drew5 (HB3.out.alloc HB3.out.size _)⟩
      | exact ⟨_, rfl, World.alloc_heap_new _ _, HB3.out.alloc HB3.out.size _⟩
      | exact ⟨_, rfl, Tri5.put HQ.out, ((HB3.out.setCell HBV.out.size _).setCell HBV.out.size _).setCell HBV.out.size _⟩
  case rest =>
    obtain ⟨T, rfl, hT, hBT⟩ := hcut
    obtain ⟨q0, q1, q2⟩ := hT.cell
    have qlt := hT.lt
    have HBT := Lib.hid hBT
    clear hT hBT hp0 hp1 HVP HBV
    go_wp2_with fail
    refine (equalD_any 7 7 (RdS.empty (K := fun _ => True)) (Rd.empty (K := fun _ => True)) (RdS.empty (K := fun _ => True)) (Rd.empty (K := fun _ => True))).mono ?_
    rintro e w8 ⟨rfl, hb⟩
    rw [sameS_true rfl, sameB_true rfl]
    have HB8 : Hid (Below w.heap.size w w8) := HBT.out.trans (hb.mono HBT.out.size)
    clear hb
    go_wp2
    go_ret
    exact ⟨rfl, HB8.out⟩

end Go.Proofs.Ytllpnhegelddlaa.dictionaryTruncation
