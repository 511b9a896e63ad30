/-
  The contract of Text.
-/
import Derived.Test.YtnhffkgbnlnliaaDoorDecStr
namespace Go.Proofs.YtnhffkgbnlnliaaDoor.De
open Go.RowKit Go.Shelf

/-- The decimal places of a number of millionths less than 1, without zeros at the end. -/
def placesL (p : Nat) : List UInt8 := Lib.trimRightB ((Lib.decDigits (1000000 + p)).drop 1) 48

/-- The text of a number. -/
def textL (n : Int) : List UInt8 :=
  (if n < 0 then [45] else []) ++ (Lib.decDigits (n.natAbs / 1000000) ++ (if n.natAbs % 1000000 = 0 then [] else 46 :: placesL (n.natAbs % 1000000)))

theorem nDigits_seven (p : Nat) (h : p < 1000000) : Lib.nDigits (1000000 + p) = 7 := Lib.nDigits_unique 6 _ (by show 1000000 ≤ _; omega) (by show _ < 10000000; omega)

theorem bytes_of {s t : ByteArray} (h : s.data.toList = t.data.toList) : s = t := by
  cases s with | mk a => cases t with | mk b => simp at h; rw [h]

set_option maxHeartbeats 1000000 in
theorem text_any (n : Int) (hn : I64 n) (w : World) (hV : Vars w) :
    Calls Tryd.prog 8 #[.int .i64 n] w fun e w' => e = .returned (.string ⟨(textL n).toArray⟩) ∧ Below w.heap.size w w' := by
  have hn0 := hn.1
  have hn1 := hn.2
  have HA := Lib.hid (size_any n hn)
  obtain ⟨A, hA⟩ : ∃ A, A = n.natAbs := ⟨_, rfl⟩
  have hA2 : A ≤ 9223372036854775808 := by omega
  rw [← hA] at HA
  obtain ⟨W, hW⟩ : ∃ W, W = A / 1000000 := ⟨_, rfl⟩
  obtain ⟨p, hp⟩ : ∃ p, p = A % 1000000 := ⟨_, rfl⟩
  have hp6 : p < 1000000 := by omega
  have e1 : (A : Int) / 1000000 = (W : Int) := by omega
  have e2 : (A : Int) % 1000000 = (p : Int) := by omega
  have HF := fun (w' : World) (hb : Below w.heap.size w w') => formatUint_any W (by omega) w' (hV.below hb)
  have HG := fun (w' : World) (hb : Below w.heap.size w w') => formatUint_any (1000000 + p) (by omega) w' (hV.below hb)
  rw [show ((1000000 + p : Nat) : Int) = 1000000 + (p : Int) by omega] at HG
  have HF' := Lib.hid HF
  have HG' := Lib.hid HG
  clear HF HG
  obtain ⟨D1, hD1⟩ : ∃ D1 : ByteArray, D1 = ⟨(Lib.decDigits W).toArray⟩ := ⟨_, rfl⟩
  obtain ⟨D2, hD2⟩ : ∃ D2 : ByteArray, D2 = ⟨(Lib.decDigits (1000000 + p)).toArray⟩ := ⟨_, rfl⟩
  have hs2 : D2.size = 7 := by rw [hD2, Lib.size_mk, Lib.decDigits_length, nDigits_seven p hp6]
  have HX : Hid (textL n = (if n < 0 then [45] else []) ++ (D1.data.toList ++ (if p = 0 then [] else 46 :: Lib.trimRightB (D2.data.toList.drop 1) 48))) := by
    show _ = _
    unfold textL placesL
    rw [hD1, hD2, ← hA, ← hW, ← hp]
  rw [← hD1] at HF'
  rw [← hD2] at HG'
  have HT := Lib.hid (fun w' => Tryd.strings_TrimRight_one (D2.extract 1 7) 48 (by decide) w' (by rw [ByteArray.size_extract, hs2]; omega))
  have hext : (D2.extract 1 7).data.toList = D2.data.toList.drop 1 := by
    rw [Lib.extract_data, List.take_of_length_le (by rw [List.length_drop, ← Lib.size_eq, hs2]; omega)]
  rw [hext] at HT
  obtain ⟨T, hT⟩ : ∃ T : ByteArray, T = ⟨(Lib.trimRightB (D2.data.toList.drop 1) 48).toArray⟩ := ⟨_, rfl⟩
  rw [← hT] at HT
  have HTL : Hid (T.data.toList = Lib.trimRightB (D2.data.toList.drop 1) 48) := by show _ = _; rw [hT]
  have hb := Below.refl w.heap.size w
  have hD1s : (D1.size : Int) ≤ 8388608 := by rw [hD1, Lib.size_mk, Lib.decDigits_length]; have := Lib.nDigits_le20 W (by omega); omega
  have hTs : (T.size : Int) ≤ 6 := by
    rw [hT, Lib.size_mk]
    unfold Lib.trimRightB
    rw [List.length_reverse]
    have h1 : (List.dropWhile (· == 48) (D2.data.toList.drop 1).reverse).length ≤ _ := (List.dropWhile_sublist _).length_le
    rw [List.length_reverse, List.length_drop, ← Lib.size_eq, hs2] at h1
    omega
  obtain ⟨PT, hPT⟩ : ∃ PT : ByteArray, PT = ⟨#[46]⟩ ++ T := ⟨_, rfl⟩
  obtain ⟨DP, hDP⟩ : ∃ DP : ByteArray, DP = D1 ++ PT := ⟨_, rfl⟩
  obtain ⟨M1, hM1⟩ : ∃ M1 : ByteArray, M1 = ⟨#[45]⟩ ++ D1 := ⟨_, rfl⟩
  obtain ⟨MP, hMP⟩ : ∃ MP : ByteArray, MP = ⟨#[45]⟩ ++ DP := ⟨_, rfl⟩
  have hPTs : (PT.size : Int) ≤ 7 := by rw [hPT, ByteArray.size_append]; have : (⟨#[46]⟩ : ByteArray).size = 1 := rfl; omega
  have hDPs : (DP.size : Int) ≤ 8388608 := by
    have h2 : (D1.size : Int) ≤ 20 := by rw [hD1, Lib.size_mk, Lib.decDigits_length]; have := Lib.nDigits_le20 W (by omega); omega
    rw [hDP, ByteArray.size_append]; omega
  have r1 : ∀ W, (Op.stringOp .add ⟨#[46]⟩ T).run Tryd.prog W = .ok (.string PT) W := fun W => by rw [hPT]; exact run_string_add W _ _ (by show (1 : Int) ≤ _; omega) (by omega)
  have r2 : ∀ W, (Op.stringOp .add D1 PT).run Tryd.prog W = .ok (.string DP) W := fun W => by rw [hDP]; exact run_string_add W _ _ hD1s (by omega)
  have r3 : ∀ W, (Op.stringOp .add ⟨#[45]⟩ D1).run Tryd.prog W = .ok (.string M1) W := fun W => by rw [hM1]; exact run_string_add W _ _ (by show (1 : Int) ≤ _; omega) hD1s
  have r4 : ∀ W, (Op.stringOp .add ⟨#[45]⟩ DP).run Tryd.prog W = .ok (.string MP) W := fun W => by rw [hMP]; exact run_string_add W _ _ (by show (1 : Int) ≤ _; omega) hDPs
  have HPT := Lib.hid (show PT.data.toList = 46 :: Lib.trimRightB (D2.data.toList.drop 1) 48 by rw [hPT, Joins.data_append, HTL.out]; rfl)
  have HDP := Lib.hid (show DP.data.toList = D1.data.toList ++ PT.data.toList by rw [hDP, Joins.data_append])
  have HM1 := Lib.hid (show M1.data.toList = 45 :: D1.data.toList by rw [hM1, Joins.data_append]; rfl)
  have HMP := Lib.hid (show MP.data.toList = 45 :: DP.data.toList by rw [hMP, Joins.data_append]; rfl)
  clear hA hW hp hD1 hD2 hext hT hV hPT hDP hM1 hMP hPTs hDPs hTs hD1s
  by_cases hp0 : p = 0
  · have hpb : ((p : Int) == 0) = true := by simp [hp0]
    by_cases hneg : n < 0
    · have HE := Lib.hid (show Ending.returned (.string M1) = .returned (.string ⟨(textL n).toArray⟩) by rw [HX.out, if_pos hneg, if_pos hp0, List.append_nil]; exact congrArg (fun x => Ending.returned (.string x)) (bytes_of (by rw [HM1.out]; rfl)))
      go_enter Tryd.func8, Tryd.ntmps8
      go_wp2_with (first
        | (go_at_call 19; ((with_reducible refine (HA.out _).mono ?_); rintro e w1 ⟨rfl, rfl⟩))
        | (go_at_call 20; ((with_reducible refine (HF'.out _ hb).mono ?_); rintro e w2 ⟨rfl, hb2⟩; replace hb := hb.trans (hb2.mono hb.size); clear hb2)))
      go_ret
      exact ⟨HE.out, hb⟩
    · have HE := Lib.hid (show Ending.returned (.string D1) = .returned (.string ⟨(textL n).toArray⟩) by rw [HX.out, if_neg hneg, if_pos hp0, List.append_nil]; exact congrArg (fun x => Ending.returned (.string x)) (bytes_of rfl))
      go_enter Tryd.func8, Tryd.ntmps8
      go_wp2_with (first
        | (go_at_call 19; ((with_reducible refine (HA.out _).mono ?_); rintro e w1 ⟨rfl, rfl⟩))
        | (go_at_call 20; ((with_reducible refine (HF'.out _ hb).mono ?_); rintro e w2 ⟨rfl, hb2⟩; replace hb := hb.trans (hb2.mono hb.size); clear hb2)))
      go_ret
      exact ⟨HE.out, hb⟩
  · have hpb : ((p : Int) == 0) = false := by simp [hp0]
    have hpb2 : (p == 0) = false := by simp [hp0]
    by_cases hneg : n < 0
    · have HE := Lib.hid (show Ending.returned (.string MP) = .returned (.string ⟨(textL n).toArray⟩) by rw [HX.out, if_pos hneg, if_neg hp0]; exact congrArg (fun x => Ending.returned (.string x)) (bytes_of (by rw [HMP.out, HDP.out, HPT.out]; rfl)))
      go_enter Tryd.func8, Tryd.ntmps8
      go_wp2_with (first
        | (go_at_call 19; ((with_reducible refine (HA.out _).mono ?_); rintro e w1 ⟨rfl, rfl⟩))
        | (go_at_call 20; ((with_reducible refine (HF'.out _ hb).mono ?_); rintro e w2 ⟨rfl, hb2⟩; replace hb := hb.trans (hb2.mono hb.size); clear hb2))
        | (go_at_call 20; ((with_reducible refine (HG'.out _ hb).mono ?_); rintro e w2 ⟨rfl, hb2⟩; replace hb := hb.trans (hb2.mono hb.size); clear hb2))
        | (go_at_call 21; ((with_reducible refine (HT.out _).mono ?_); rintro e w3 ⟨rfl, rfl⟩)))
      go_ret
      exact ⟨HE.out, hb⟩
    · have HE := Lib.hid (show Ending.returned (.string DP) = .returned (.string ⟨(textL n).toArray⟩) by rw [HX.out, if_neg hneg, if_neg hp0]; exact congrArg (fun x => Ending.returned (.string x)) (bytes_of (by rw [HDP.out, HPT.out]; rfl)))
      go_enter Tryd.func8, Tryd.ntmps8
      go_wp2_with (first
        | (go_at_call 19; ((with_reducible refine (HA.out _).mono ?_); rintro e w1 ⟨rfl, rfl⟩))
        | (go_at_call 20; ((with_reducible refine (HF'.out _ hb).mono ?_); rintro e w2 ⟨rfl, hb2⟩; replace hb := hb.trans (hb2.mono hb.size); clear hb2))
        | (go_at_call 20; ((with_reducible refine (HG'.out _ hb).mono ?_); rintro e w2 ⟨rfl, hb2⟩; replace hb := hb.trans (hb2.mono hb.size); clear hb2))
        | (go_at_call 21; ((with_reducible refine (HT.out _).mono ?_); rintro e w3 ⟨rfl, rfl⟩)))
      go_ret
      exact ⟨HE.out, hb⟩

end Go.Proofs.YtnhffkgbnlnliaaDoor.De
