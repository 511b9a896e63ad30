/-
  A proper beginning of an encoded list is too short, and a list of more than 4096 elements is not encoded: for all lists and numbers the law returns true and changes nothing. No condition.
-/
import Derived.Test.YthmgbnlffkhblaaRows
import Derived.Test.YthmgbnlffkhblaaRnEx
import Derived.Test.YthmgbnlffkhblaaRnDeMath
import Derived.OpenShut
import Derived.Deep.DeepCutAuto
namespace Go.Proofs.Ythmgbnlffkhblaa.runsShort
open Go.ChangeShapes Go.WideShapes Go.ChangeAt Go.RowKit
open Go.Proofs.Ythmgbnlffkhblaa

/-- The first of a slice that reads. -/
theorem Rd.first {K : Nat → Prop} {W : World} {k : IntKind} {a : Option Addr} {len cap : Nat} {zs : List Int} (h : Rd K W k a len cap zs) (m : Nat) (hm : m ≤ len) : Rd K W k a m cap (zs.take m) := by
  refine ⟨by rw [List.length_take, ← h.hl]; omega, Nat.le_trans hm h.fit, h.top, Nat.le_trans hm h.small, fun h0 => ?_⟩
  obtain ⟨b, off, e, hb, hlt, hc⟩ := h.cells (by omega)
  exact ⟨b, off, e, hb, hlt, fun j hj => by rw [hc j (by omega), List.getElem?_take_of_lt hj]⟩

/-- What was made ahead of a call lies there behind it. -/
theorem Tri.over {V W3 : World} {t : TypeId} {a b c : Value} (h : Below (V.alloc (.cells #[a, b, c] t)).drew.heap.size (V.alloc (.cells #[a, b, c] t)).drew W3) : Tri W3 V.heap.size t a b c :=
  (h.block V.heap.size (by show V.heap.size < (V.alloc _).heap.size; simp)).trans (World.alloc_heap_new V _)
theorem below_over {V W3 w : World} {o : Obj} (hb : Below w.heap.size w V) (h : Below (V.alloc o).drew.heap.size (V.alloc o).drew W3) : Below w.heap.size w W3 :=
  have h1 : Below w.heap.size w (V.alloc o).drew := below_drew (hb.alloc hb.size _)
  h1.trans (h.mono h1.size)

/-- Laid into it, cell by cell. -/
theorem Tri.put {W : World} {B : Nat} {t : TypeId} {a b c a' b' c' : Value} (h : Tri W B t a b c) : Tri (((W.setCell ⟨B, 0, none⟩ a').setCell ⟨B, 1, none⟩ b').setCell ⟨B, 2, none⟩ c') B t a' b' c' := by
  have h : W.heap[B]? = _ := h
  unfold Tri World.setCell
  simp only []
  rw [Array.getElem?_modify, if_pos rfl, Array.getElem?_modify, if_pos rfl, Array.getElem?_modify, if_pos rfl, h]
  rfl

set_option maxRecDepth 100000 in
set_option maxHeartbeats 4000000 in
theorem walk {K1 : Nat → Prop} {a1 : Option Addr} {n1 c1 : Nat} {zs : List Int} (hz : Smalls zs) (n : Nat) (hn : n < 65536) (h1 : n1 ≤ 300) (w : World) (hR1 : Rd K1 w .i64 a1 n1 c1 zs) :
    Calls Try.prog 10 #[.slice a1 n1 c1, .int .u16 n] w fun e w' => e = .returned (.bool true) ∧ Below w.heap.size w w' := by
  have H1 := Lib.hid hR1
  clear hR1
  go_enter Try.func10, Try.ntmps10
  go_wp2_with fail
  refine (examples4_any _).mono ?_
  rintro e w1 ⟨rfl, hb1⟩
  have HB1 := Lib.hid hb1
  clear hb1
  go_wp2_with fail
  have hl := H1.out.hl
  refine (encoded_any hz (by omega) (H1.out.below HB1.out)).mono ?_
  rintro e w2 ⟨gp, lp, cp, rfl, hrp, hb2⟩
  have hll := hrp.hl
  obtain ⟨hpo, hpl⟩ := en_len hz (by omega)
  rw [← hll] at hpo hpl
  have hSH := de_short hz (by omega) (n % lp) (by rw [← hll]; exact Nat.mod_lt _ (by omega))
  obtain ⟨m, hm⟩ : ∃ m, n % lp = m := ⟨_, rfl⟩
  have hmlt : m < lp := by rw [← hm]; exact Nat.mod_lt _ (by omega)
  have hmod : (n : Int).tmod (lp : Int) = (m : Int) := by rw [Int.tmod_eq_emod_of_nonneg (by omega)]; omega
  rw [hm] at hSH
  have HSH := Lib.hid hSH
  have HP := Lib.hid hrp
  have HB2 : Hid (Below w.heap.size w w2) := HB1.out.trans (hb2.mono HB1.out.size)
  have hlp0 : ¬ lp = 0 := by omega
  have hfit := hrp.fit
  clear hrp hb2 hll hl hm hSH
  have HOM : Hid (Oct ((enS zs).take m)) := (en_oct zs).take m
  go_wp2_with fail
  have hbV : Below w2.heap.size w2 (w2.alloc (.cells #[.slice (some ⟨gp, 0, none⟩) lp cp, .int .i64 0] 47)) := (Below.refl _ _).alloc (Nat.le_refl _) _
  have hPV := Pair.new w2 47 (.slice (some ⟨gp, 0, none⟩) lp cp) (.int .i64 0)
  obtain ⟨B, hB⟩ : ∃ B, w2.heap.size = B := ⟨_, rfl⟩
  rw [hB] at hPV ⊢
  have hp0 := hPV.c0
  have hp1 := hPV.c1
  have hpf := hPV.lt
  have HVP : Hid (Rd (fun b => w1.heap.size ≤ b) (w2.alloc (.cells #[.slice (some ⟨gp, 0, none⟩) lp cp, .int .i64 0] 47)) .u8 (some ⟨gp, 0, none⟩) lp cp (enS zs)) := HP.out.below hbV
  have HBV : Hid (Below w.heap.size w (w2.alloc (.cells #[.slice (some ⟨gp, 0, none⟩) lp cp, .int .i64 0] 47))) := HB2.out.trans (hbV.mono HB2.out.size)
  clear hbV hPV
  generalize w2.alloc (.cells #[.slice (some ⟨gp, 0, none⟩) lp cp, .int .i64 0] 47) = V at *
  clear HB2 HP H1 hB
  have hwn : IntKind.i64.wrap (n : Int) = n := by rw [IntKind.wrap_i64]; omega
  have hmcp : m ≤ cp := by omega
  go_upto_region 9 with fail
  go_cut [7] (fun t wx => ∃ T : Nat, t = .pointer (some ⟨T, 0, none⟩) ∧ Tri wx T 58 (.slice none 0 0) (.slice none 0 0) (.int .i64 7) ∧ Below w.heap.size w wx)
  case first =>
    go_region_law (first
      | (refine step_call_want (by go_simp) 44 #[.tmp 35] #[23] (by rfl) #[.slice (some ⟨gp, 0, none⟩) m cp] (by go_simp) (enters_of Try.func44 (by kernel_rfl) rfl _ _) _ _ (decoded_bad HOM.out (Rd.first (HVP.out.below (below_drew (Below.refl _ _))) m (Nat.le_of_lt hmlt)) (by decide) HSH.out) ?_
         intro w3 hb3
         have HB3 : Hid (Below w.heap.size w w3) := HBV.out.trans (((below_drew (Below.refl _ V)).trans hb3).mono HBV.out.size)
         clear hb3)
      | (refine step_call_want (by go_simp) 44 #[.tmp 35] #[23] (by rfl) #[.slice (some ⟨gp, 0, none⟩) m cp] (by go_simp) (enters_of Try.func44 (by kernel_rfl) rfl _ _) _ _ (decoded_bad HOM.out (Rd.first (HVP.out.below (below_drew ((Below.refl _ _).alloc (Nat.le_refl _) _))) m (Nat.le_of_lt hmlt)) (by decide) HSH.out) ?_
         intro w3 hb3
         have hq := Tri.over hb3
         obtain ⟨q0, q1, q2⟩ := hq.cell
         have f0 := hq.f 0
         have f1 := hq.f 1
         have f2 := hq.f 2
         have qlt := hq.lt
         have HQ := Lib.hid hq
         have HB3 : Hid (Below w.heap.size w w3) := below_over HBV.out hb3
         clear hb3 hq))
    all_goals (try simp [Act.put])
    all_goals (go_wp2_with fail; go_meet)
    all_goals first
      | exact ⟨_, rfl, World.alloc_heap_new _ _, below_drew (HB3.out.alloc HB3.out.size _)⟩
      | exact ⟨_, rfl, World.alloc_heap_new _ _, HB3.out.alloc HB3.out.size _⟩
      | exact ⟨_, rfl, Tri.put HQ.out, ((HB3.out.setCell HBV.out.size _).setCell HBV.out.size _).setCell HBV.out.size _⟩
  case rest =>
    obtain ⟨T, rfl, hT, hBT⟩ := hcut
    have HT := Lib.hid hT
    have HBT := Lib.hid hBT
    clear hT hBT hp0 hp1 HVP HBV
    have h5 : (n : Int).tmod 5 = ((n % 5 : Nat) : Int) := by rw [Int.tmod_eq_emod_of_nonneg (by omega)]; omega
    have h5l : n % 5 < 5 := Nat.mod_lt _ (by decide)
    obtain ⟨r5, hr5⟩ : ∃ r, n % 5 = r := ⟨_, rfl⟩
    rw [hr5] at h5 h5l
    clear hr5
    have hw5 : IntKind.i64.wrap (r5 : Int) = r5 := by rw [IntKind.wrap_i64]; omega
    have hw5' : IntKind.u16.wrap (r5 : Int) = r5 := by simp [IntKind.wrap, IntKind.bits, IntKind.signed]; omega
    obtain ⟨i0, hi, hz0, hz1, hz2⟩ := info_parts Try.infoN
    obtain ⟨N, hN⟩ : ∃ N : Nat, N = 4097 + r5 := ⟨_, rfl⟩
    have hmk : (Instr.makeSlice 22 (.int .i64 (4097 + (r5 : Int))) (.int .i64 (4097 + (r5 : Int)))).run Try.prog wc = .ok (.slice (some ⟨wc.heap.size, 0, none⟩) N N) (wc.alloc (.cells (madeCells (Value.int .i64 0).cells (N * 1)) 3)) := by
      have := run_make (P := Try.prog) wc 22 3 i0 _ Try.underlying22 hi hz0 .i64 .i64 N N (by omega) (by omega) (by rw [hz2]; omega) (by omega)
      rw [hz1] at this
      rw [show (4097 + (r5 : Int)) = (N : Int) by omega]
      exact this
    have hN1 : 4096 < N := by omega
    have hN2 : N ≤ 140737488351232 := by omega
    clear hN
    clear hi hz0 hz1 hz2
    go_wp2_with fail
    clear hmk
    refine (encoded_long _ N N hN1 hN2 _).mono ?_
    rintro e w4 ⟨rfl, hb4⟩
    have hT4 := HT.out.below (((Below.refl _ _).alloc (Nat.le_refl _) _).trans (hb4.mono (by simp))) HT.out.lt
    obtain ⟨q0, q1, q2⟩ := hT4.cell
    have qlt := hT4.lt
    have HB4 : Hid (Below w.heap.size w w4) := HBT.out.trans (((Below.refl _ _).alloc (Nat.le_refl _) _).trans (hb4.mono (by simp)) |>.mono HBT.out.size)
    clear hT4 hb4
    go_wp2
    go_ret
    exact ⟨rfl, HB4.out.alloc HB4.out.size _⟩

end Go.Proofs.Ythmgbnlffkhblaa.runsShort
