/-
  Texts: for all numbers and strings, the law returns true and changes nothing.
-/
import Derived.Test.YtlleodcjenaliaaDoorDecEx2
import Derived.Test.YtlleodcjenaliaaDoorDecTxMath3
namespace Go.Proofs.YtlleodcjenaliaaDoor.decimalTexts
open Go.RowKit Go.Shelf
open Go.Proofs.YtlleodcjenaliaaDoor

theorem text_len (a : Int) (ha : I64 a) : (textL a).length ≤ 40 := by
  have h0 := ha.1
  have h1 := ha.2
  have hd := Lib.nDigits_le20 (a.natAbs / 1000000) (by omega)
  have hp := (placesL_ok (a.natAbs % 1000000) (by omega)).len
  unfold textL
  rw [List.length_append, List.length_append, Lib.decDigits_length]
  split <;> split <;> simp <;> omega

theorem alloc3_second (w : World) (o1 o2 o3 : Obj) : (((w.alloc o1).alloc o2).alloc o3).heap[w.heap.size + 1]? = some o2 := by
  have h1 := World.alloc_heap_new (w.alloc o1) o2
  rw [World.size_alloc] at h1
  exact (Below.heap_alloc _ _ _ (by simp)).trans h1

theorem walk_long (a b : Int) (s : ByteArray) (hs : 40 < s.size) (hm : s.size ≤ 9223372036854775807) (w : World) (hV : Vars w) :
    Calls Tryd.prog 3 #[.int .i64 a, .int .i64 b, .string s] w fun e w' => e = .returned (.bool true) ∧ Below w.heap.size w w' := by
  have HEX := Lib.hid (examples_any _ hV)
  clear hV
  go_enter Tryd.func3, Tryd.ntmps3
  go_wp2_with (go_at_call 8; ((with_reducible refine HEX.out.mono ?_); rintro e w1 ⟨rfl, hb1⟩))
  go_ret
  exact ⟨rfl, hb1⟩

set_option maxRecDepth 100000 in
set_option maxHeartbeats 8000000 in
theorem walk_short (a b : Int) (s : ByteArray) (ha : I64 a) (hbI : I64 b) (hs : s.size ≤ 40) (w : World) (hV : Vars w) :
    Calls Tryd.prog 3 #[.int .i64 a, .int .i64 b, .string s] w fun e w' => e = .returned (.bool true) ∧ Below w.heap.size w w' := by
  have HEX := Lib.hid (examples_any _ hV)
  have HV := Lib.hid (fun W (h : Below w.heap.size w W) => hV.below h)
  clear hV
  obtain ⟨T, hT⟩ : ∃ T : ByteArray, T = ⟨(textL a).toArray⟩ := ⟨_, rfl⟩
  have HTD := Lib.hid (show T.data.toList = textL a by rw [hT])
  have hTs : T.size ≤ 40 := by rw [hT, Lib.size_mk]; exact text_len a ha
  have HTA := Lib.hid (fun (W : World) (h : Vars W) => text_any a ha W h)
  rw [← hT] at HTA
  have HTB := Lib.hid (fun (W : World) (h : Vars W) => text_any b hbI W h)
  have hb := Below.refl w.heap.size w
  have hsi : (s.size : Int) ≤ 40 := by omega
  have hTi : (T.size : Int) ≤ 40 := by omega
  clear hT
  go_enter Tryd.func3, Tryd.ntmps3
  go_wp2_with (first
    | (go_at_call 8; ((with_reducible refine HEX.out.mono ?_); rintro e w1 ⟨rfl, hb1⟩; replace hb := hb.trans (hb1.mono hb.size); clear hb1))
    | (go_at_call 9; ((with_reducible refine (HTA.out _ (HV.out _ hb)).mono ?_); rintro e w2 ⟨rfl, hb2⟩; replace hb := hb.trans (hb2.mono hb.size); clear hb2)))
  have HB0 := Lib.hid hb
  clear hb
  go_loopw [9] (fun i wr => ∃ k : Nat, k ≤ 7 ∧ i = .int .i64 (k : Int) ∧ Below w.heap.size w wr) (fun i _ => 7 - (intOf i).toNat)
  case atStart => exact ⟨0, by omega, rfl, HB0.out⟩
  case round =>
    obtain ⟨k, hk, rfl, hb⟩ := hrel
    by_cases hlt : k ≤ 6
    · have hkI : I64 (k : Int) := ⟨by omega, by omega⟩
      have HPT := Lib.hid (fun (W : World) (h : Vars W) => parsed_any T (k : Int) hkI (by omega) W h)
      rw [HTD.out, parse_text a k hlt] at HPT
      have HPS := Lib.hid (fun (W : World) (h : Vars W) => parsed_any s (k : Int) hkI (by omega) W h)
      have HFA := Lib.hid (fun (W : World) (h : Vars W) => fits_any a (k : Int) ha hkI W h)
      have HVA := Lib.hid (fun (W : World) => valid_any a ha W)
      have hback := parse_back s.data.toList k hlt
      have herr := parse_err s.data.toList (k : Int)
      generalize parseS s.data.toList (k : Int) = q at HPS hback herr
      obtain ⟨qn, qe⟩ := q
      simp only [] at HPS hback herr
      have hf0 := field0
      have hf1 := field1
      by_cases he : qe = 0
      · subst he
        obtain ⟨q1, q2, q3⟩ := hback rfl
        have hqv := validB_true q3
        have hqI : I64 qn := ⟨by omega, by omega⟩
        have hqt : (⟨(textL qn).toArray⟩ : ByteArray) = s := bytes_of (by rw [q1])
        have HTQ := Lib.hid (fun (W : World) (h : Vars W) => text_any qn hqI W h)
        rw [hqt] at HTQ
        have HFQ := Lib.hid (fun (W : World) (h : Vars W) => fits_any qn (k : Int) hqI hkI W h)
        rw [q2] at HFQ
        have HVQ := Lib.hid (fun (W : World) => valid_any qn hqI W)
        rw [q3] at HVQ
        clear herr hback q1 q2 q3 hqv hqI hqt
        cases hf : fitsB a (k : Int)
        · rw [hf] at HPT HFA
          simp only [Bool.false_eq_true, if_false] at HPT
          clear hf
          go_wp2_with (first
            | (go_at_call 10; ((with_reducible refine (HPT.out _ (HV.out _ hb)).mono ?_); rintro e w3 ⟨rfl, hb3⟩; replace hb := hb.trans (hb3.mono hb.size); clear hb3))
            | (go_at_call 10; ((with_reducible refine (HPS.out _ (HV.out _ hb)).mono ?_); rintro e w4 ⟨rfl, hb4⟩; replace hb := hb.trans (hb4.mono hb.size); clear hb4))
            | (go_at_call 11; ((with_reducible refine (HFA.out _ (HV.out _ (hb.trans ((Joins.below_alloc3 _ _ _ _).mono hb.size)))).mono ?_); rintro e w' ⟨rfl, rfl⟩))
            | (go_at_call 11; ((with_reducible refine (HFQ.out _ (HV.out _ hb)).mono ?_); rintro e w' ⟨rfl, rfl⟩))
            | (go_at_call 12; ((with_reducible refine (HVQ.out _).mono ?_); rintro e w' ⟨rfl, rfl⟩))
            | (go_at_call 9; ((with_reducible refine (HTQ.out _ (HV.out _ (hb.trans ((Joins.below_alloc3 _ _ _ _).mono hb.size)))).mono ?_); rintro e w6 ⟨rfl, hb6⟩; have hkb := (hb6.block (w4.heap.size + 1) (by simp)).trans (alloc3_second _ _ _ _); have d0 := Joins.cell_of_block hkb 0; have d1 := Joins.cell_of_block hkb 1; replace hb := (hb.trans ((Joins.below_alloc3 _ _ _ _).mono hb.size)).trans (hb6.mono (hb.trans ((Joins.below_alloc3 _ _ _ _).mono hb.size)).size); clear hb6 hkb; simp only [List.getElem?_toArray, List.getElem?_cons_zero] at d0; simp only [List.getElem?_toArray, List.getElem?_cons_zero, List.getElem?_cons_succ] at d1)))
          go_outline
          go_roundw
          case rel => exact ⟨k + 1, by omega, by go_num, hb⟩
          case measure => simp [intOf]; omega
        · rw [hf] at HPT HFA
          simp only [if_true] at HPT
          clear hf
          cases hv : validB a
          · rw [hv] at HPT HVA
            simp only [Bool.false_eq_true, if_false] at HPT
            clear hv
            go_wp2_with (first
              | (go_at_call 10; ((with_reducible refine (HPT.out _ (HV.out _ hb)).mono ?_); rintro e w3 ⟨rfl, hb3⟩; replace hb := hb.trans (hb3.mono hb.size); clear hb3))
              | (go_at_call 10; ((with_reducible refine (HPS.out _ (HV.out _ hb)).mono ?_); rintro e w4 ⟨rfl, hb4⟩; replace hb := hb.trans (hb4.mono hb.size); clear hb4))
              | (go_at_call 11; ((with_reducible refine (HFA.out _ (HV.out _ (hb.trans ((Joins.below_alloc3 _ _ _ _).mono hb.size)))).mono ?_); rintro e w' ⟨rfl, rfl⟩))
              | (go_at_call 11; ((with_reducible refine (HFQ.out _ (HV.out _ hb)).mono ?_); rintro e w' ⟨rfl, rfl⟩))
              | (go_at_call 12; ((with_reducible refine (HVQ.out _).mono ?_); rintro e w' ⟨rfl, rfl⟩))
              | (go_at_call 12; ((with_reducible refine (HVA.out _).mono ?_); rintro e w' ⟨rfl, rfl⟩))
              | (go_at_call 9; ((with_reducible refine (HTQ.out _ (HV.out _ (hb.trans ((Joins.below_alloc3 _ _ _ _).mono hb.size)))).mono ?_); rintro e w6 ⟨rfl, hb6⟩; have hkb := (hb6.block (w4.heap.size + 1) (by simp)).trans (alloc3_second _ _ _ _); have d0 := Joins.cell_of_block hkb 0; have d1 := Joins.cell_of_block hkb 1; replace hb := (hb.trans ((Joins.below_alloc3 _ _ _ _).mono hb.size)).trans (hb6.mono (hb.trans ((Joins.below_alloc3 _ _ _ _).mono hb.size)).size); clear hb6 hkb; simp only [List.getElem?_toArray, List.getElem?_cons_zero] at d0; simp only [List.getElem?_toArray, List.getElem?_cons_zero, List.getElem?_cons_succ] at d1)))
            go_outline
            go_roundw
            case rel => exact ⟨k + 1, by omega, by go_num, hb⟩
            case measure => simp [intOf]; omega
          · rw [hv] at HPT HVA
            simp only [if_true] at HPT
            clear hv
            go_wp2_with (first
              | (go_at_call 10; ((with_reducible refine (HPT.out _ (HV.out _ hb)).mono ?_); rintro e w3 ⟨rfl, hb3⟩; replace hb := hb.trans (hb3.mono hb.size); clear hb3))
              | (go_at_call 10; ((with_reducible refine (HPS.out _ (HV.out _ hb)).mono ?_); rintro e w4 ⟨rfl, hb4⟩; replace hb := hb.trans (hb4.mono hb.size); clear hb4))
              | (go_at_call 11; ((with_reducible refine (HFA.out _ (HV.out _ (hb.trans ((Joins.below_alloc3 _ _ _ _).mono hb.size)))).mono ?_); rintro e w' ⟨rfl, rfl⟩))
              | (go_at_call 11; ((with_reducible refine (HFQ.out _ (HV.out _ hb)).mono ?_); rintro e w' ⟨rfl, rfl⟩))
              | (go_at_call 12; ((with_reducible refine (HVQ.out _).mono ?_); rintro e w' ⟨rfl, rfl⟩))
              | (go_at_call 12; ((with_reducible refine (HVA.out _).mono ?_); rintro e w' ⟨rfl, rfl⟩))
              | (go_at_call 9; ((with_reducible refine (HTQ.out _ (HV.out _ (hb.trans ((Joins.below_alloc3 _ _ _ _).mono hb.size)))).mono ?_); rintro e w6 ⟨rfl, hb6⟩; have hkb := (hb6.block (w4.heap.size + 1) (by simp)).trans (alloc3_second _ _ _ _); have d0 := Joins.cell_of_block hkb 0; have d1 := Joins.cell_of_block hkb 1; replace hb := (hb.trans ((Joins.below_alloc3 _ _ _ _).mono hb.size)).trans (hb6.mono (hb.trans ((Joins.below_alloc3 _ _ _ _).mono hb.size)).size); clear hb6 hkb; simp only [List.getElem?_toArray, List.getElem?_cons_zero] at d0; simp only [List.getElem?_toArray, List.getElem?_cons_zero, List.getElem?_cons_succ] at d1)))
            go_outline
            go_roundw
            case rel => exact ⟨k + 1, by omega, by go_num, hb⟩
            case measure => simp [intOf]; omega
      · obtain rfl := herr he
        have he1 : (qe == 0) = false := by simpa using he
        have he2 : (qe != 0) = true := by simpa using he
        clear herr hback
        cases hf : fitsB a (k : Int)
        · rw [hf] at HPT HFA
          simp only [Bool.false_eq_true, if_false] at HPT
          clear hf
          go_wp2_with (first
            | (go_at_call 10; ((with_reducible refine (HPT.out _ (HV.out _ hb)).mono ?_); rintro e w3 ⟨rfl, hb3⟩; replace hb := hb.trans (hb3.mono hb.size); clear hb3))
            | (go_at_call 10; ((with_reducible refine (HPS.out _ (HV.out _ hb)).mono ?_); rintro e w4 ⟨rfl, hb4⟩; replace hb := hb.trans (hb4.mono hb.size); clear hb4))
            | (go_at_call 11; ((with_reducible refine (HFA.out _ (HV.out _ (hb.trans ((Joins.below_alloc3 _ _ _ _).mono hb.size)))).mono ?_); rintro e w' ⟨rfl, rfl⟩)))
          go_outline
          go_roundw
          case rel => exact ⟨k + 1, by omega, by go_num, (hb.trans ((Joins.below_alloc3 _ _ _ _).mono hb.size))⟩
          case measure => simp [intOf]; omega
        · rw [hf] at HPT HFA
          simp only [if_true] at HPT
          clear hf
          cases hv : validB a
          · rw [hv] at HPT HVA
            simp only [Bool.false_eq_true, if_false] at HPT
            clear hv
            go_wp2_with (first
              | (go_at_call 10; ((with_reducible refine (HPT.out _ (HV.out _ hb)).mono ?_); rintro e w3 ⟨rfl, hb3⟩; replace hb := hb.trans (hb3.mono hb.size); clear hb3))
              | (go_at_call 10; ((with_reducible refine (HPS.out _ (HV.out _ hb)).mono ?_); rintro e w4 ⟨rfl, hb4⟩; replace hb := hb.trans (hb4.mono hb.size); clear hb4))
              | (go_at_call 11; ((with_reducible refine (HFA.out _ (HV.out _ (hb.trans ((Joins.below_alloc3 _ _ _ _).mono hb.size)))).mono ?_); rintro e w' ⟨rfl, rfl⟩))
              | (go_at_call 12; ((with_reducible refine (HVA.out _).mono ?_); rintro e w' ⟨rfl, rfl⟩)))
            go_outline
            go_roundw
            case rel => exact ⟨k + 1, by omega, by go_num, (hb.trans ((Joins.below_alloc3 _ _ _ _).mono hb.size))⟩
            case measure => simp [intOf]; omega
          · rw [hv] at HPT HVA
            simp only [if_true] at HPT
            clear hv
            go_wp2_with (first
              | (go_at_call 10; ((with_reducible refine (HPT.out _ (HV.out _ hb)).mono ?_); rintro e w3 ⟨rfl, hb3⟩; replace hb := hb.trans (hb3.mono hb.size); clear hb3))
              | (go_at_call 10; ((with_reducible refine (HPS.out _ (HV.out _ hb)).mono ?_); rintro e w4 ⟨rfl, hb4⟩; replace hb := hb.trans (hb4.mono hb.size); clear hb4))
              | (go_at_call 11; ((with_reducible refine (HFA.out _ (HV.out _ (hb.trans ((Joins.below_alloc3 _ _ _ _).mono hb.size)))).mono ?_); rintro e w' ⟨rfl, rfl⟩))
              | (go_at_call 12; ((with_reducible refine (HVA.out _).mono ?_); rintro e w' ⟨rfl, rfl⟩)))
            go_outline
            go_roundw
            case rel => exact ⟨k + 1, by omega, by go_num, (hb.trans ((Joins.below_alloc3 _ _ _ _).mono hb.size))⟩
            case measure => simp [intOf]; omega
    · obtain rfl : k = 7 := by omega
      have hk7 : ¬ ((7 : Int) ≤ 6) := by omega
      by_cases hab : a = b
      · subst hab
        go_wp2_with (go_at_call 9; ((with_reducible refine (HTA.out _ (HV.out _ hb)).mono ?_); rintro e w8 ⟨rfl, hb8⟩; replace hb := hb.trans (hb8.mono hb.size); clear hb8))
        go_ret
        exact ⟨rfl, hb⟩
      · have hab2 : (a == b) = false := by simpa using hab
        have htt : (T.data.toList == textL b) = false := by
          rw [HTD.out]
          simpa using fun h => hab (text_inj a b h)
        obtain ⟨T2, hT2⟩ : ∃ T2 : ByteArray, T2 = ⟨(textL b).toArray⟩ := ⟨_, rfl⟩
        rw [← hT2] at HTB
        have htt2 : (T.toList == T2.toList) = false := by
          rw [Lib.toList_data, Lib.toList_data, hT2]
          simpa using htt
        clear htt hT2
        go_wp2_with (go_at_call 9; ((with_reducible refine (HTB.out _ (HV.out _ hb)).mono ?_); rintro e w8 ⟨rfl, hb8⟩; replace hb := hb.trans (hb8.mono hb.size); clear hb8))
        go_ret
        exact ⟨rfl, hb⟩

theorem walk (a b : Int) (s : ByteArray) (ha : I64 a) (hbI : I64 b) (hm : s.size ≤ 9223372036854775807) (w : World) (hV : Vars w) :
    Calls Tryd.prog 3 #[.int .i64 a, .int .i64 b, .string s] w fun e w' => e = .returned (.bool true) ∧ Below w.heap.size w w' := by
  by_cases h : s.size ≤ 40
  · exact walk_short a b s ha hbI h w hV
  · exact walk_long a b s (by omega) hm w hV

end Go.Proofs.YtlleodcjenaliaaDoor.decimalTexts
