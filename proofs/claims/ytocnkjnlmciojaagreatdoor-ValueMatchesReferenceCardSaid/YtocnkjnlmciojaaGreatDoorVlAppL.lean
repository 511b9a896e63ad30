/-
  The byte form of a list, behind other bytes.
-/
import Derived.Test.YtocnkjnlmciojaaGreatDoorVlByMath
import Derived.Test.YtocnkjnlmciojaaGreatDoorVlConcat
namespace Go.Proofs.YtocnkjnlmciojaaGreatDoor
open Go Go.RowKit Go.Shelf Go.ChangeShapes Go.WideShapes Go.ChangeAt

theorem flat_take {vs : List Vl} {k : Nat} (h : k < vs.length) : flatV (vs.take (k + 1)) = flatV (vs.take k) ++ bytesV (vs[k]?.getD Vl.null) := by
  rw [List.take_add_one, List.getElem?_eq_getElem h, Option.toList_some, flatV_append, show flatV [vs[k]] = bytesV vs[k] ++ [] from rfl, List.append_nil]; rfl
theorem Wides.at {vs : List Vl} (h : Wides vs) {k : Nat} (hk : k < vs.length) : widV (vs[k]?.getD Vl.null) = true ∧ (vs[k]?.getD Vl.null).Ok := by
  rw [List.getElem?_eq_getElem hk]; exact h _ (List.getElem_mem hk)
theorem Wides.take {vs : List Vl} (h : Wides vs) (k : Nat) : Wides (vs.take k) := fun v hv => h v (List.mem_of_mem_take hv)

set_option maxRecDepth 100000 in
set_option maxHeartbeats 2000000 in
theorem appendList_any {K K' : Nat → Prop} {a a' : Option Addr} {n c n' c' : Nat} {bs : List Int} {vs : List Vl} (hW : Wides vs) {w : World} (hR : Rd K w .u8 a n c bs) (hV : RdV K' w a' n' c' vs) (hn : n ≤ 1000000) (hl : n' ≤ 1000000) :
    Calls Tryz.prog 50 #[.slice a n c, .slice a' n' c'] w fun e w' => Makes w e w' (bs ++ listV vs) := by
  obtain ⟨i0, hi, hz0, hz1, hz2⟩ := info_parts Tryz.infoB
  have HR := Lib.hid hR
  have HV := Lib.hid hV
  have HW := Lib.hid hW
  have hfit := hV.fit
  have HL := Lib.hid hV.hl
  have hln := hR.hl
  have hcv : IntKind.u64.wrap (n' : Int) = (n' : Int) := by rw [IntKind.wrap_u64]; omega
  have HFL : Hid (∀ k, (bs ++ varN n' ++ flatV (vs.take k)).length ≤ 110000000 + n) := fun k => by
    have h1 := flat_len (hW.take k)
    have h2 := var_len (u := n') (by omega)
    have h3 : (vs.take k).length ≤ vs.length := by rw [List.length_take]; exact Nat.min_le_right _ _
    have h4 := HL.out
    rw [List.length_append, List.length_append, ← hln]
    omega
  have HLV : Hid (bs ++ varN n' ++ flatV (vs.take n') = bs ++ listV vs) := by
    show _ = _
    unfold listV
    rw [HL.out, List.take_length, List.append_assoc]
  clear hR hV hW hln
  go_enter Tryz.func50, Tryz.ntmps50
  go_wp2_with fail
  refine (varint_any K a n c bs n' (by omega) w HR.out (by omega)).mono ?_
  rintro e w1 ⟨g, cg, rfl, hcg, hrow, hb⟩
  have HB1 := Lib.hid hb
  have HX1 : Hid ((bs ++ varN n').length = (bs ++ varN n' ++ flatV (vs.take 0)).length ∧ w1.ownsRow w.heap.size 5 1 (.slice (some ⟨g, 0, none⟩) (bs ++ varN n').length cg) (bs ++ varN n').length ((bs ++ varN n' ++ flatV (vs.take 0)).map (Value.int .u8)) ∧ (bs ++ varN n').length ≤ cg) := by
    rw [List.take_zero, show flatV [] = [] from rfl, List.append_nil]
    exact ⟨rfl, hrow, hcg⟩
  clear hb hrow hcg
  generalize (bs ++ varN n').length = m0 at *
  go_wp2
  go_loopw [0, 14] (fun b i wr => ∃ k g c m : Nat, k ≤ n' ∧ i = .int .i64 k ∧ b = .slice (some ⟨g, 0, none⟩) m c ∧ Hid (m = (bs ++ varN n' ++ flatV (vs.take k)).length ∧ wr.ownsRow w.heap.size 5 1 (.slice (some ⟨g, 0, none⟩) m c) m ((bs ++ varN n' ++ flatV (vs.take k)).map (Value.int .u8)) ∧ m ≤ c) ∧ Hid (Below w.heap.size w wr)) (fun _ i _ => n' - (intOf i).toNat)
  case atStart => exact ⟨0, g, cg, m0, Nat.zero_le _, rfl, rfl, HX1, HB1⟩
  case round =>
    obtain ⟨k, g, c, m, hk, rfl, rfl, HX, HB⟩ := hrel
    by_cases hlt : k < n'
    · obtain ⟨vb, vo, rfl, _, hvb, hvc⟩ := HV.out.cells (by omega)
      obtain ⟨c0, c1, c2⟩ := hvc k hlt
      have c0 := (HB.out.cell (p := ⟨vb, vo + k * 3, none⟩) hvb).trans c0
      have c1 := (HB.out.cell (p := ⟨vb, vo + k * 3 + 1, none⟩) hvb).trans c1
      have c2 := (HB.out.cell (p := ⟨vb, vo + k * 3 + 2, none⟩) hvb).trans c2
      have hkV : k < vs.length := by rw [← HL.out]; exact hlt
      have HFT := Lib.hid (flat_take hkV)
      have HWK := Lib.hid (HW.out.at hkV)
      have hFL := HFL.out (k + 1)
      have hbr : vb < wr.heap.size := Nat.lt_of_lt_of_le hvb HB.out.size
      clear hvc hkV
      generalize vs[k]?.getD Vl.null = p at *
      obtain ⟨pk, pi, ps⟩ := p
      dsimp only at c0 c1 c2
      have hbA : Below wr.heap.size wr (wr.alloc (.cells #[.int .i64 pk, .int .i64 pi, .string (bsOf ps)] 45)) := (Below.self wr).alloc (Nat.le_refl _) _
      have HBA := Lib.hid hbA
      have HBF : Hid (∀ W : World, Calls Tryz.prog 102 #[.agg #[.int .i64 pk, .int .i64 pi, .string (bsOf ps)]] W fun e w' => Makes W e w' (bytesV ⟨pk, pi, ps⟩)) := fun W => byteForm_any ⟨pk, pi, ps⟩ HWK.out.2 HWK.out.1 W
      have HBL := Lib.hid (bytes_len HWK.out.1 HWK.out.2.i)
      clear hbA
      go_wp2_with fail
      refine (HBF.out _).mono ?_
      rintro e w4 ⟨g2, c2', rfl, hfit2, hrow2, hb4⟩
      have hB4 : Below wr.heap.size wr w4 := HBA.out.trans (hb4.mono HBA.out.size)
      have hX4 := row_below HX.out.2.1 hB4
      have hR4 : Rd _ w4 .u8 (some ⟨g2, 0, none⟩) (bytesV ⟨pk, pi, ps⟩).length c2' (bytesV ⟨pk, pi, ps⟩) := Rd.of_row rfl hfit2 (by have := HBL.out.2; omega) hrow2
      have hbw : Below w.heap.size w w4 := HB.out.trans (hB4.mono HB.out.size)
      have hlen : (bs ++ varN n' ++ flatV (vs.take (k + 1))).length = m + (bytesV ⟨pk, pi, ps⟩).length := by
        rw [HFT.out, HX.out.1]
        simp only [List.length_append]
        omega
      rw [hlen] at hFL
      obtain ⟨g5, c5, w5, hr5, hX5, hb5, hc5⟩ := run_append_rd (P := Tryz.prog) w4 w.heap.size 42 42 5 i0 _ 1 .u8 Tryz.underlying42 hi hz0 hz1 hz2 rfl g m c _ hX4 (some ⟨g2, 0, none⟩) (bytesV ⟨pk, pi, ps⟩).length c2' (bytesV ⟨pk, pi, ps⟩) hR4 (by unfold maxLen; omega) (by omega) hbw.size
      have HR5 := Lib.hid hr5
      have HX5 : Hid (m + (bytesV ⟨pk, pi, ps⟩).length = (bs ++ varN n' ++ flatV (vs.take (k + 1))).length ∧ w5.ownsRow w.heap.size 5 1 (.slice (some ⟨g5, 0, none⟩) (m + (bytesV ⟨pk, pi, ps⟩).length) c5) (m + (bytesV ⟨pk, pi, ps⟩).length) ((bs ++ varN n' ++ flatV (vs.take (k + 1))).map (Value.int .u8)) ∧ m + (bytesV ⟨pk, pi, ps⟩).length ≤ c5) := by
        refine ⟨hlen.symm, ?_, hc5⟩
        rw [HFT.out, ← List.append_assoc]
        exact hX5
      have HB5 : Hid (Below w.heap.size w w5) := hbw.trans hb5
      clear hr5 hX5 hb5 hbw hlen hR4 hX4 hB4 hrow2 hb4 c0 c1 c2 hbr HX
      generalize (bytesV ⟨pk, pi, ps⟩).length = lb at *
      go_wp2_with (at_builtin; refine wpList_append_want (o := ⟨some 21, _, _, _, _, _⟩) _ rfl _ _ _ _ rfl _ _ rfl rfl _ _ HR5.out ?_)
      go_roundw
      case rel => exact ⟨k + 1, g5, c5, m + lb, by omega, by go_num, rfl, HX5, HB5⟩
      case measure => simp [intOf]; omega
    · obtain rfl : k = n' := by omega
      have HXE : Hid (m = (bs ++ listV vs).length ∧ wr.ownsRow w.heap.size 5 1 (.slice (some ⟨g, 0, none⟩) m c) m ((bs ++ listV vs).map (Value.int .u8)) ∧ m ≤ c) := by
        rw [← HLV.out]; exact HX.out
      clear HX
      go_wp2
      go_ret
      obtain ⟨h1, h2, h3⟩ := HXE.out
      subst h1
      exact ⟨g, c, rfl, h3, h2, HB.out⟩

end Go.Proofs.YtocnkjnlmciojaaGreatDoor
