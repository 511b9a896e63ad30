/-
  The contract of Parse.
-/
import Derived.Test.YtocnkjnlmciojaaGreatDoorDecCore
import Derived.Lib.Walk
import Derived.BigCall
import Derived.BigGuard
import Derived.Lib.ItoaLen
namespace Go.Proofs.YtocnkjnlmciojaaGreatDoor.De
open Go.RowKit Go.Shelf Go.Sort Go.Lib

theorem formatUint_small (i : Nat) (hi : i < 100) (w : World) :
    Calls Tryz.prog 118 #[.int .u64 (i : Int), .int .i64 10] w fun e w' => e = .returned (.string ⟨(Lib.decDigits i).toArray⟩) ∧ w = w' := by
  go_enter Tryz.func118, Tryz.ntmps118
  go_wp2_with (go_at_call 144; refine (Tryz.internal_strconv_small i hi _).mono ?_; rintro e w' ⟨rfl, rfl⟩)
  go_ret
  exact ⟨rfl, rfl⟩

theorem grow_below (w : World) (os : Array Obj) : Below w.heap.size w (grow w os) := by
  refine ⟨rfl, rfl, rfl, ?_, fun k hk => ?_⟩
  · show w.heap.size ≤ (w.heap ++ os).size
    simp
  · show (w.heap ++ os)[k]? = w.heap[k]?
    rw [Array.getElem?_append_left hk]

set_option maxHeartbeats 6400000 in
set_option maxRecDepth 100000 in
theorem formatUint_big (u : Nat) (h100 : 100 ≤ u) (hu64 : u < 18446744073709551616) (w : World) (hV : Vars w) :
    Calls Tryz.prog 118 #[.int .u64 (u : Int), .int .i64 10] w fun e w' => e = .returned (.string ⟨(Lib.decDigits u).toArray⟩) ∧ Below w.heap.size w w' := by
  have hu1 : 1 ≤ u := by omega
  have htab := hV.pow
  have hnd20 : Lib.nDigits u ≤ 20 := by have := Lib.numDigits_eq u hu1 hu64; split at this <;> omega
  have hal : Tryz.prog.arrayLen 137 = 24 := by kernel_rfl
  have hsl1 : ∀ W, (Instr.sliceAt 137 (.pointer (some ⟨w.heap.size, 0, none⟩)) none (some (.int .i64 (Lib.nDigits u : Int))) none).run Tryz.prog W = .ok (.slice (some ⟨w.heap.size, 0, none⟩) (Lib.nDigits u) 24) W := fun W => by
    rw [run_sliceAt_array_h W 137 ⟨w.heap.size, 0, none⟩ (by simp [Program.arrayLen, Program.elem, Tryz.underlying137]) .i64 (Lib.nDigits u : Int) (by omega) (by rw [hal]; omega)]
    go_simp
  have hH0 : Holds (fun (b : UInt8) => Value.int .u8 (b.toNat : Int)) (w.alloc (.cells Lib.zeros24 137)) w.heap.size 0 (Array.replicate (Lib.nDigits u) (0 : UInt8)) := fun j hj => by
    have hj' : j < Lib.nDigits u := by simpa using hj
    refine ⟨?_, World.frozen?_alloc_new _ _ _ _⟩
    rw [World.cell?_alloc_new, zeros24_at _ (by omega), getElem!_pos _ j hj]
    simp
  have hfmt := Tryz.internal_strconv_formatBase10 w.heap.size 0 24 u (Array.replicate (Lib.nDigits u) 0) (w.alloc (.cells Lib.zeros24 137)) hH0 (by rw [Array.size_replicate]; exact Lib.lt_pow_nDigits u) hu64 (by rw [Array.size_replicate]; omega)
  rw [Array.size_replicate] at hfmt
  have HH0 := Lib.hid hH0
  have HTAB := Lib.hid (Lib.tabIs_alloc htab)
  clear hH0 hal hV htab
  go_enter Tryz.func118, Tryz.ntmps118
  go_wp2_with (first
    | (go_at_call 145; refine (Tryz.internal_strconv_numDigits u hu1 hu64 _ (HTAB.out _)).mono ?_; rintro e w' ⟨rfl, rfl⟩))
  go_at_call 146
  refine hfmt.mono ?_
  rintro e w' ⟨rfl, k, v', dk, rfl, hF⟩
  have hcv : (convert 42 9 (.slice (some ⟨w.heap.size, 0, none⟩) (Lib.nDigits u) 24)).run Tryz.prog ((putRow (fun (b : UInt8) => Value.int .u8 (b.toNat : Int)) (w.alloc (.cells Lib.zeros24 137)) w.heap.size 0 dk).drewN k) = .ok (.string ⟨(Lib.decDigits u).toArray⟩) ((putRow (fun (b : UInt8) => Value.int .u8 (b.toNat : Int)) (w.alloc (.cells Lib.zeros24 137)) w.heap.size 0 dk).drewN k) := by
    have h := run_convert_bytes_back (P := Tryz.prog) ((putRow (fun (b : UInt8) => Value.int .u8 (b.toNat : Int)) (w.alloc (.cells Lib.zeros24 137)) w.heap.size 0 dk).drewN k) 42 9 5 ⟨w.heap.size, 0, none⟩ 24 (Lib.decDigits u) Tryz.underlying42 Tryz.underlying5 Tryz.underlying9 (fun j hj => by
      rw [Lib.row_is_numeral hF j hj, Lib.add_plain, World.cell?_drewN]
      exact cell?_putRow (fun (b : UInt8) => Value.int .u8 (b.toNat : Int)) _ w.heap.size 0 _ dk HH0.out (by rw [hF.size, Array.size_replicate]) j (by rw [hF.size]; rw [Lib.decDigits_length] at hj; exact hj))
    rw [Lib.decDigits_length] at h
    exact h
  go_wp2
  go_ret
  refine ⟨rfl, ?_⟩
  rw [alloc_eq_grow]
  obtain ⟨os', _, e⟩ := putRow_grow_new (fun (b : UInt8) => Value.int .u8 (b.toNat : Int)) w #[.cells Lib.zeros24 137] w.heap.size 0 dk (Nat.le_refl _)
  rw [e]
  exact below_drewN (grow_below w os') k

theorem formatUintI_any (u : Nat) (hu64 : u < 18446744073709551616) (w : World) (hV : Vars w) :
    Calls Tryz.prog 118 #[.int .u64 (u : Int), .int .i64 10] w fun e w' => e = .returned (.string ⟨(Lib.decDigits u).toArray⟩) ∧ Below w.heap.size w w' := by
  by_cases h : u < 100
  · exact (formatUint_small u h w).mono fun e w' ⟨he, hw⟩ => ⟨he, by rw [← hw]; exact Below.refl _ _⟩
  · exact formatUint_big u (by omega) hu64 w hV

theorem formatUint_any (u : Nat) (hu64 : u < 18446744073709551616) (w : World) (hV : Vars w) :
    Calls Tryz.prog 69 #[.int .u64 (u : Int), .int .i64 10] w fun e w' => e = .returned (.string ⟨(Lib.decDigits u).toArray⟩) ∧ Below w.heap.size w w' := by
  have HF := Lib.hid (formatUintI_any u hu64 w hV)
  go_enter Tryz.func69, Tryz.ntmps69
  go_wp2_with (go_at_call 118; ((with_reducible refine HF.out.mono ?_); rintro e w' ⟨rfl, hb1⟩))
  go_ret
  exact ⟨rfl, hb1⟩

end Go.Proofs.YtocnkjnlmciojaaGreatDoor.De

namespace Go.Proofs.YtocnkjnlmciojaaGreatDoor.De
open Go.RowKit Go.Shelf

/-- The decimal places of a number of millionths less than 1, without zeros at the end. -/
def placesL (p : Nat) : List UInt8 := Lib.trimRightB ((Lib.decDigits (1000000 + p)).drop 1) 48

/-- The text of a number. -/
def textL (n : Int) : List UInt8 :=
  (if n < 0 then [45] else []) ++ (Lib.decDigits (n.natAbs / 1000000) ++ (if n.natAbs % 1000000 = 0 then [] else 46 :: placesL (n.natAbs % 1000000)))

theorem nDigits_seven (p : Nat) (h : p < 1000000) : Lib.nDigits (1000000 + p) = 7 := Lib.nDigits_unique 6 _ (by show 1000000 ≤ _; omega) (by show _ < 10000000; omega)

theorem bytes_of {s t : ByteArray} (h : s.data.toList = t.data.toList) : s = t := by
  cases s with | mk a => cases t with | mk b => simp at h; rw [h]

set_option maxHeartbeats 1000000 in
theorem text_any (n : Int) (hn : I64 n) (w : World) (hV : Vars w) :
    Calls Tryz.prog 19 #[.int .i64 n] w fun e w' => e = .returned (.string ⟨(textL n).toArray⟩) ∧ Below w.heap.size w w' := by
  have hn0 := hn.1
  have hn1 := hn.2
  have HA := Lib.hid (size_any n hn)
  obtain ⟨A, hA⟩ : ∃ A, A = n.natAbs := ⟨_, rfl⟩
  have hA2 : A ≤ 9223372036854775808 := by omega
  rw [← hA] at HA
  obtain ⟨W, hW⟩ : ∃ W, W = A / 1000000 := ⟨_, rfl⟩
  obtain ⟨p, hp⟩ : ∃ p, p = A % 1000000 := ⟨_, rfl⟩
  have hp6 : p < 1000000 := by omega
  have e1 : (A : Int) / 1000000 = (W : Int) := by omega
  have e2 : (A : Int) % 1000000 = (p : Int) := by omega
  have HF := fun (w' : World) (hb : Below w.heap.size w w') => formatUint_any W (by omega) w' (hV.below hb)
  have HG := fun (w' : World) (hb : Below w.heap.size w w') => formatUint_any (1000000 + p) (by omega) w' (hV.below hb)
  rw [show ((1000000 + p : Nat) : Int) = 1000000 + (p : Int) by omega] at HG
  have HF' := Lib.hid HF
  have HG' := Lib.hid HG
  clear HF HG
  obtain ⟨D1, hD1⟩ : ∃ D1 : ByteArray, D1 = ⟨(Lib.decDigits W).toArray⟩ := ⟨_, rfl⟩
  obtain ⟨D2, hD2⟩ : ∃ D2 : ByteArray, D2 = ⟨(Lib.decDigits (1000000 + p)).toArray⟩ := ⟨_, rfl⟩
  have hs2 : D2.size = 7 := by rw [hD2, Lib.size_mk, Lib.decDigits_length, nDigits_seven p hp6]
  have HX : Hid (textL n = (if n < 0 then [45] else []) ++ (D1.data.toList ++ (if p = 0 then [] else 46 :: Lib.trimRightB (D2.data.toList.drop 1) 48))) := by
    show _ = _
    unfold textL placesL
    rw [hD1, hD2, ← hA, ← hW, ← hp]
  rw [← hD1] at HF'
  rw [← hD2] at HG'
  have HT := Lib.hid (fun w' => Tryz.strings_TrimRight_one (D2.extract 1 7) 48 (by decide) w' (by rw [ByteArray.size_extract, hs2]; omega))
  have hext : (D2.extract 1 7).data.toList = D2.data.toList.drop 1 := by
    rw [Lib.extract_data, List.take_of_length_le (by rw [List.length_drop, ← Lib.size_eq, hs2]; omega)]
  rw [hext] at HT
  obtain ⟨T, hT⟩ : ∃ T : ByteArray, T = ⟨(Lib.trimRightB (D2.data.toList.drop 1) 48).toArray⟩ := ⟨_, rfl⟩
  rw [← hT] at HT
  have HTL : Hid (T.data.toList = Lib.trimRightB (D2.data.toList.drop 1) 48) := by show _ = _; rw [hT]
  have hb := Below.refl w.heap.size w
  have hD1s : (D1.size : Int) ≤ 8388608 := by rw [hD1, Lib.size_mk, Lib.decDigits_length]; have := Lib.nDigits_le20 W (by omega); omega
  have hTs : (T.size : Int) ≤ 6 := by
    rw [hT, Lib.size_mk]
    unfold Lib.trimRightB
    rw [List.length_reverse]
    have h1 : (List.dropWhile (· == 48) (D2.data.toList.drop 1).reverse).length ≤ _ := (List.dropWhile_sublist _).length_le
    rw [List.length_reverse, List.length_drop, ← Lib.size_eq, hs2] at h1
    omega
  obtain ⟨PT, hPT⟩ : ∃ PT : ByteArray, PT = ⟨#[46]⟩ ++ T := ⟨_, rfl⟩
  obtain ⟨DP, hDP⟩ : ∃ DP : ByteArray, DP = D1 ++ PT := ⟨_, rfl⟩
  obtain ⟨M1, hM1⟩ : ∃ M1 : ByteArray, M1 = ⟨#[45]⟩ ++ D1 := ⟨_, rfl⟩
  obtain ⟨MP, hMP⟩ : ∃ MP : ByteArray, MP = ⟨#[45]⟩ ++ DP := ⟨_, rfl⟩
  have hPTs : (PT.size : Int) ≤ 7 := by rw [hPT, ByteArray.size_append]; have : (⟨#[46]⟩ : ByteArray).size = 1 := rfl; omega
  have hDPs : (DP.size : Int) ≤ 8388608 := by
    have h2 : (D1.size : Int) ≤ 20 := by rw [hD1, Lib.size_mk, Lib.decDigits_length]; have := Lib.nDigits_le20 W (by omega); omega
    rw [hDP, ByteArray.size_append]; omega
  have r1 : ∀ W, (Op.stringOp .add ⟨#[46]⟩ T).run Tryz.prog W = .ok (.string PT) W := fun W => by rw [hPT]; exact run_string_add W _ _ (by show (1 : Int) ≤ _; omega) (by omega)
  have r2 : ∀ W, (Op.stringOp .add D1 PT).run Tryz.prog W = .ok (.string DP) W := fun W => by rw [hDP]; exact run_string_add W _ _ hD1s (by omega)
  have r3 : ∀ W, (Op.stringOp .add ⟨#[45]⟩ D1).run Tryz.prog W = .ok (.string M1) W := fun W => by rw [hM1]; exact run_string_add W _ _ (by show (1 : Int) ≤ _; omega) hD1s
  have r4 : ∀ W, (Op.stringOp .add ⟨#[45]⟩ DP).run Tryz.prog W = .ok (.string MP) W := fun W => by rw [hMP]; exact run_string_add W _ _ (by show (1 : Int) ≤ _; omega) hDPs
  have HPT := Lib.hid (show PT.data.toList = 46 :: Lib.trimRightB (D2.data.toList.drop 1) 48 by rw [hPT, Joins.data_append, HTL.out]; rfl)
  have HDP := Lib.hid (show DP.data.toList = D1.data.toList ++ PT.data.toList by rw [hDP, Joins.data_append])
  have HM1 := Lib.hid (show M1.data.toList = 45 :: D1.data.toList by rw [hM1, Joins.data_append]; rfl)
  have HMP := Lib.hid (show MP.data.toList = 45 :: DP.data.toList by rw [hMP, Joins.data_append]; rfl)
  clear hA hW hp hD1 hD2 hext hT hV hPT hDP hM1 hMP hPTs hDPs hTs hD1s
  by_cases hp0 : p = 0
  · have hpb : ((p : Int) == 0) = true := by simp [hp0]
    by_cases hneg : n < 0
    · have HE := Lib.hid (show Ending.returned (.string M1) = .returned (.string ⟨(textL n).toArray⟩) by rw [HX.out, if_pos hneg, if_pos hp0, List.append_nil]; exact congrArg (fun x => Ending.returned (.string x)) (bytes_of (by rw [HM1.out]; rfl)))
      go_enter Tryz.func19, Tryz.ntmps19
      go_wp2_with (first
        | (go_at_call 68; ((with_reducible refine (HA.out _).mono ?_); rintro e w1 ⟨rfl, rfl⟩))
        | (go_at_call 69; ((with_reducible refine (HF'.out _ hb).mono ?_); rintro e w2 ⟨rfl, hb2⟩; replace hb := hb.trans (hb2.mono hb.size); clear hb2)))
      go_ret
      exact ⟨HE.out, hb⟩
    · have HE := Lib.hid (show Ending.returned (.string D1) = .returned (.string ⟨(textL n).toArray⟩) by rw [HX.out, if_neg hneg, if_pos hp0, List.append_nil]; exact congrArg (fun x => Ending.returned (.string x)) (bytes_of rfl))
      go_enter Tryz.func19, Tryz.ntmps19
      go_wp2_with (first
        | (go_at_call 68; ((with_reducible refine (HA.out _).mono ?_); rintro e w1 ⟨rfl, rfl⟩))
        | (go_at_call 69; ((with_reducible refine (HF'.out _ hb).mono ?_); rintro e w2 ⟨rfl, hb2⟩; replace hb := hb.trans (hb2.mono hb.size); clear hb2)))
      go_ret
      exact ⟨HE.out, hb⟩
  · have hpb : ((p : Int) == 0) = false := by simp [hp0]
    have hpb2 : (p == 0) = false := by simp [hp0]
    by_cases hneg : n < 0
    · have HE := Lib.hid (show Ending.returned (.string MP) = .returned (.string ⟨(textL n).toArray⟩) by rw [HX.out, if_pos hneg, if_neg hp0]; exact congrArg (fun x => Ending.returned (.string x)) (bytes_of (by rw [HMP.out, HDP.out, HPT.out]; rfl)))
      go_enter Tryz.func19, Tryz.ntmps19
      go_wp2_with (first
        | (go_at_call 68; ((with_reducible refine (HA.out _).mono ?_); rintro e w1 ⟨rfl, rfl⟩))
        | (go_at_call 69; ((with_reducible refine (HF'.out _ hb).mono ?_); rintro e w2 ⟨rfl, hb2⟩; replace hb := hb.trans (hb2.mono hb.size); clear hb2))
        | (go_at_call 69; ((with_reducible refine (HG'.out _ hb).mono ?_); rintro e w2 ⟨rfl, hb2⟩; replace hb := hb.trans (hb2.mono hb.size); clear hb2))
        | (go_at_call 70; ((with_reducible refine (HT.out _).mono ?_); rintro e w3 ⟨rfl, rfl⟩)))
      go_ret
      exact ⟨HE.out, hb⟩
    · have HE := Lib.hid (show Ending.returned (.string DP) = .returned (.string ⟨(textL n).toArray⟩) by rw [HX.out, if_neg hneg, if_neg hp0]; exact congrArg (fun x => Ending.returned (.string x)) (bytes_of (by rw [HDP.out, HPT.out]; rfl)))
      go_enter Tryz.func19, Tryz.ntmps19
      go_wp2_with (first
        | (go_at_call 68; ((with_reducible refine (HA.out _).mono ?_); rintro e w1 ⟨rfl, rfl⟩))
        | (go_at_call 69; ((with_reducible refine (HF'.out _ hb).mono ?_); rintro e w2 ⟨rfl, hb2⟩; replace hb := hb.trans (hb2.mono hb.size); clear hb2))
        | (go_at_call 69; ((with_reducible refine (HG'.out _ hb).mono ?_); rintro e w2 ⟨rfl, hb2⟩; replace hb := hb.trans (hb2.mono hb.size); clear hb2))
        | (go_at_call 70; ((with_reducible refine (HT.out _).mono ?_); rintro e w3 ⟨rfl, rfl⟩)))
      go_ret
      exact ⟨HE.out, hb⟩

end Go.Proofs.YtocnkjnlmciojaaGreatDoor.De

namespace Go.Proofs.YtocnkjnlmciojaaGreatDoor.De
open Go.RowKit Go.Shelf

def digitB (c : UInt8) : Bool := decide (48 ≤ c.toNat ∧ c.toNat ≤ 57)
def digitsB (l : List UInt8) : Bool := l.all digitB
def readN (l : List UInt8) : Nat := l.foldl (fun n c => n * 10 + (c.toNat - 48)) 0
def wholeB (l : List UInt8) : Bool := l == [48] || (!l.isEmpty && !(l.head? == some 48) && digitsB l)
def placesB (l : List UInt8) (s : Int) : Bool := !l.isEmpty && decide ((l.length : Int) ≤ s) && !(l.getLast? == some 48) && digitsB l

theorem digitsB_bad {l : List UInt8} {k : Nat} {x : UInt8} (h : l[k]? = some x) (hx : digitB x = false) : digitsB l = false := by
  unfold digitsB
  rw [List.all_eq_false]
  exact ⟨x, List.mem_of_getElem? h, by rw [hx]; decide⟩

theorem digitsB_step {l : List UInt8} {k : Nat} {x : UInt8} (h : l[k]? = some x) (hx : digitB x = true) (hk : digitsB (l.take k) = true) : digitsB (l.take (k + 1)) = true := by
  unfold digitsB at *
  rw [List.take_add_one, h, Option.toList_some, List.all_append, hk]
  simp [hx]

theorem readN_step {l : List UInt8} {k : Nat} {x : UInt8} (h : l[k]? = some x) : readN (l.take (k + 1)) = readN (l.take k) * 10 + (x.toNat - 48) := by
  unfold readN
  rw [List.take_add_one, h, Option.toList_some, List.foldl_append]
  rfl

theorem fold_lt : ∀ (l : List UInt8) (a : Nat), digitsB l = true → l.foldl (fun n c => n * 10 + (c.toNat - 48)) a < (a + 1) * 10 ^ l.length
  | [], a, _ => by simp
  | x :: r, a, h => by
    unfold digitsB at h
    rw [List.all_cons, Bool.and_eq_true] at h
    have h2 := of_decide_eq_true h.1
    have ih := fold_lt r (a * 10 + (x.toNat - 48)) h.2
    rw [List.foldl_cons, List.length_cons, Nat.pow_succ]
    refine Nat.lt_of_lt_of_le ih ?_
    rw [Nat.mul_comm (10 ^ r.length) 10, ← Nat.mul_assoc]
    exact Nat.mul_le_mul_right _ (by omega)

theorem readN_lt (l : List UInt8) (h : digitsB l = true) : readN l < 10 ^ l.length := by
  have := fold_lt l 0 h
  rwa [Nat.zero_add, Nat.one_mul] at this

theorem digitsB_take {l : List UInt8} (h : digitsB l = true) (k : Nat) : digitsB (l.take k) = true := by
  unfold digitsB at *
  rw [List.all_eq_true] at *
  exact fun x hx => h x (List.mem_of_mem_take hx)

theorem data_at (s : ByteArray) (k : Nat) (h : k < s.size) : s.data.toList[k]? = some s[k] := Lib.data_getElem? s k h

set_option maxHeartbeats 1000000 in
theorem areDigits_any (s : ByteArray) (hs : s.size ≤ 9223372036854775807) (w : World) :
    Calls Tryz.prog 153 #[.string s] w fun e w' => e = .returned (.bool (digitsB s.data.toList)) ∧ w = w' := by
  go_enter Tryz.func153, Tryz.ntmps153
  go_wp2
  go_loop [6] (fun i => ∃ k : Nat, k ≤ s.size ∧ i = .int .i64 k ∧ digitsB (s.data.toList.take k) = true) (fun i => s.size - (intOf i).toNat)
  case atStart => exact ⟨0, Nat.zero_le _, rfl, rfl⟩
  case round =>
    obtain ⟨k, hk, rfl, hd⟩ := hrel
    have HD := Lib.hid hd
    clear hd
    by_cases hlt : k < s.size
    · obtain ⟨x, hx⟩ : ∃ x : UInt8, s[k] = x := ⟨_, rfl⟩
      have HX := Lib.hid (data_at s k hlt)
      rw [hx] at HX
      have hx2 : (x.toNat : Int) < 256 := by have := x.toNat_lt; omega
      by_cases h1 : (x.toNat : Int) < 48
      · have HR := Lib.hid (digitsB_bad HX.out (decide_eq_false (by omega)))
        go_wp2
        go_ret
        exact ⟨by rw [HR.out]; rfl, rfl⟩
      · by_cases h2 : (57 : Int) < (x.toNat : Int)
        · have HR := Lib.hid (digitsB_bad HX.out (decide_eq_false (by omega)))
          go_wp2
          go_ret
          exact ⟨by rw [HR.out]; rfl, rfl⟩
        · have HR := Lib.hid (digitsB_step HX.out (decide_eq_true (by omega)) HD.out)
          go_wp2
          go_round
          case rel => exact ⟨k + 1, by omega, by go_num, HR.out⟩
          case measure => simp [intOf]; omega
    · have HR := Lib.hid (show digitsB s.data.toList = true by have := HD.out; rwa [List.take_of_length_le (by rw [← Lib.size_eq]; omega)] at this)
      go_wp2
      go_ret
      exact ⟨by rw [HR.out]; rfl, rfl⟩

set_option maxHeartbeats 1000000 in
theorem read_any (s : ByteArray) (hs : s.size ≤ 10) (hd : digitsB s.data.toList = true) (w : World) :
    Calls Tryz.prog 127 #[.string s] w fun e w' => e = .returned (.int .i64 (readN s.data.toList : Int)) ∧ w = w' := by
  have HDG := Lib.hid hd
  clear hd
  go_enter Tryz.func127, Tryz.ntmps127
  go_wp2
  go_loop [3, 7] (fun n i => ∃ k : Nat, k ≤ s.size ∧ i = .int .i64 k ∧ n = .int .i64 (readN (s.data.toList.take k) : Int)) (fun _ i => s.size - (intOf i).toNat)
  case atStart => exact ⟨0, Nat.zero_le _, rfl, rfl⟩
  case round =>
    obtain ⟨k, hk, rfl, rfl⟩ := hrel
    by_cases hlt : k < s.size
    · obtain ⟨x, hx⟩ : ∃ x : UInt8, s[k] = x := ⟨_, rfl⟩
      have hX := data_at s k hlt
      rw [hx] at hX
      have hxd := List.all_eq_true.1 HDG.out x (List.mem_of_getElem? hX)
      have hx3 := of_decide_eq_true hxd
      have hx4 : (48 : Int) ≤ (x.toNat : Int) := by omega
      have hx5 : (x.toNat : Int) ≤ 57 := by omega
      have hb := readN_lt _ (digitsB_take HDG.out k)
      have hl : (s.data.toList.take k).length ≤ 9 := by rw [List.length_take]; omega
      have hb2 : readN (s.data.toList.take k) < 1000000000 := Nat.lt_of_lt_of_le hb (Nat.le_trans (Nat.pow_le_pow_right (by decide) hl) (by decide))
      have HR := Lib.hid (readN_step hX)
      obtain ⟨v, hv⟩ : ∃ v, v = readN (s.data.toList.take k) := ⟨_, rfl⟩
      rw [← hv] at hb2 HR ⊢
      clear hX hxd hx3 hb hl hv
      have HC := Lib.hid (show ((v * 10 + (x.toNat - 48) : Nat) : Int) = (v : Int) * 10 + ((x.toNat : Int) - 48) by omega)
      go_wp2
      go_round
      case rel => exact ⟨k + 1, by omega, by go_num, by rw [HR.out, HC.out]⟩
      case measure => simp [intOf]; omega
    · go_wp2
      go_ret
      exact ⟨ret_int (by rw [List.take_of_length_le (by rw [← Lib.size_eq]; omega)]), rfl⟩

theorem whole_zero {l : List UInt8} (h : l = [48]) : wholeB l = true := by rw [h]; rfl
theorem whole_none {l : List UInt8} (h : l = []) : wholeB l = false := by rw [h]; rfl
theorem whole_lead {l : List UInt8} (h : ¬ l = [48]) (h0 : l.head? = some 48) : wholeB l = false := by
  unfold wholeB
  rw [show (l == [48]) = false by simpa using h, h0]
  simp
theorem whole_rest {l : List UInt8} (h : ¬ l = [48]) (h1 : ¬ l = []) (h0 : ¬ l.head? = some 48) : wholeB l = digitsB l := by
  unfold wholeB
  rw [show (l == [48]) = false by simpa using h, show l.isEmpty = false by simpa using h1, show (l.head? == some 48) = false by simpa using h0]
  rfl

theorem head_at (s : ByteArray) (h : 0 < s.size) : s.data.toList.head? = some s[0] := by
  rw [← data_at s 0 h, List.head?_eq_getElem?]

theorem isWhole_any (s : ByteArray) (hs : s.size ≤ 9223372036854775807) (w : World) :
    Calls Tryz.prog 125 #[.string s] w fun e w' => e = .returned (.bool (wholeB s.data.toList)) ∧ w = w' := by
  have HA := Lib.hid (areDigits_any s hs)
  have htd := Lib.toList_data s
  by_cases h1 : s.toList = [48]
  · have HR := Lib.hid (whole_zero (htd ▸ h1))
    clear htd
    go_enter Tryz.func125, Tryz.ntmps125
    go_wp2
    go_ret
    exact ⟨by rw [HR.out]; rfl, rfl⟩
  · by_cases h2 : s.toList = []
    · have HR := Lib.hid (whole_none (htd ▸ h2))
      clear htd
      go_enter Tryz.func125, Tryz.ntmps125
      go_wp2
      go_ret
      exact ⟨by rw [HR.out]; rfl, rfl⟩
    · have hpos : 0 < s.size := by
        rw [Lib.size_eq, ← htd]
        exact List.length_pos_iff.2 h2
      have hh := head_at s hpos
      obtain ⟨x, hx⟩ : ∃ x : UInt8, s[0] = x := ⟨_, rfl⟩
      rw [hx] at hh
      have h1' : (s.toList == [48]) = false := by simpa using h1
      have h2' : s.toList.isEmpty = false := by simpa using h2
      by_cases h3 : x = 48
      · subst h3
        have HR := Lib.hid (whole_lead (htd ▸ h1) hh)
        clear htd hh
        go_enter Tryz.func125, Tryz.ntmps125
        go_wp2
        go_ret
        exact ⟨by rw [HR.out]; rfl, rfl⟩
      · have HR := Lib.hid (whole_rest (htd ▸ h1) (htd ▸ h2) (by rw [hh]; simpa using h3))
        have h4 : ¬ (x.toNat : Int) = 48 := fun e => h3 (UInt8.toNat_inj.1 (by exact_mod_cast e))
        have h4' : ((x.toNat : Int) == 48) = false := by simpa using h4
        have h4'' : ((x.toNat : Int) != 48) = true := by simpa using h4
        clear htd hh
        cases hd : digitsB s.data.toList
        all_goals
          rw [hd] at HA
          go_enter Tryz.func125, Tryz.ntmps125
          go_wp2_with (go_at_call 153; ((with_reducible refine (HA.out _).mono ?_); rintro e w' ⟨rfl, rfl⟩))
          go_ret
          exact ⟨by rw [HR.out, hd]; rfl, rfl⟩

theorem places_none {l : List UInt8} {s : Int} (h : l = []) : placesB l s = false := by rw [h]; rfl
theorem places_long {l : List UInt8} {s : Int} (h : ¬ (l.length : Int) ≤ s) : placesB l s = false := by
  unfold placesB; rw [decide_eq_false h]; simp
theorem places_last {l : List UInt8} {s : Int} (h0 : l.getLast? = some 48) : placesB l s = false := by
  unfold placesB; rw [h0]; simp
theorem places_rest {l : List UInt8} {s : Int} (h1 : ¬ l = []) (h : (l.length : Int) ≤ s) (h0 : ¬ l.getLast? = some 48) : placesB l s = digitsB l := by
  unfold placesB
  rw [show l.isEmpty = false by simpa using h1, show (l.getLast? == some 48) = false by simpa using h0, decide_eq_true h]
  rfl

theorem last_at (s : ByteArray) (h : s.size - 1 < s.size) : s.data.toList.getLast? = some s[s.size - 1] := by
  rw [← data_at s (s.size - 1) h, List.getLast?_eq_getElem?, Lib.size_eq]

theorem arePlaces_any (s : ByteArray) (k : Int) (hs : s.size ≤ 9223372036854775807) (w : World) :
    Calls Tryz.prog 126 #[.string s, .int .i64 k] w fun e w' => e = .returned (.bool (placesB s.data.toList k)) ∧ w = w' := by
  have HA := Lib.hid (areDigits_any s hs)
  have htd := Lib.toList_data s
  by_cases h2 : s.toList = []
  · have HR := Lib.hid (places_none (s := k) (htd ▸ h2))
    clear htd
    go_enter Tryz.func126, Tryz.ntmps126
    go_wp2
    go_ret
    exact ⟨by rw [HR.out]; rfl, rfl⟩
  · have hpos : 0 < s.size := by
      rw [Lib.size_eq, ← htd]
      exact List.length_pos_iff.2 h2
    have h2' : s.toList.isEmpty = false := by simpa using h2
    by_cases hl : (s.size : Int) ≤ k
    · have hlt : s.size - 1 < s.size := by omega
      have hh := last_at s hlt
      have hc : (s.size : Int) - 1 = ((s.size - 1 : Nat) : Int) := by omega
      have hc2 : ((s.size : Int) - 1).toNat = s.size - 1 := by omega
      obtain ⟨x, hx⟩ : ∃ x : UInt8, s[s.size - 1] = x := ⟨_, rfl⟩
      rw [hx] at hh
      have hlb : decide ((s.size : Int) ≤ k) = true := decide_eq_true hl
      by_cases h3 : x = 48
      · subst h3
        have HR := Lib.hid (places_last (s := k) hh)
        clear htd hh
        go_enter Tryz.func126, Tryz.ntmps126
        go_wp2
        go_ret
        exact ⟨by rw [HR.out]; rfl, rfl⟩
      · have HR := Lib.hid (places_rest (s := k) (htd ▸ h2) (by rw [← Lib.size_eq]; exact hl) (by rw [hh]; simpa using h3))
        have h4 : ¬ (x.toNat : Int) = 48 := fun e => h3 (UInt8.toNat_inj.1 (by exact_mod_cast e))
        have h4' : ((x.toNat : Int) == 48) = false := by simpa using h4
        have h4'' : ((x.toNat : Int) != 48) = true := by simpa using h4
        clear htd hh
        cases hd : digitsB s.data.toList
        all_goals
          rw [hd] at HA
          go_enter Tryz.func126, Tryz.ntmps126
          go_wp2_with (go_at_call 153; ((with_reducible refine (HA.out _).mono ?_); rintro e w' ⟨rfl, rfl⟩))
          go_ret
          exact ⟨by rw [HR.out, hd]; rfl, rfl⟩
    · have hlb : decide ((s.size : Int) ≤ k) = false := decide_eq_false hl
      have HR := Lib.hid (places_long (l := s.data.toList) (s := k) (by rw [← Lib.size_eq]; exact hl))
      clear htd
      go_enter Tryz.func126, Tryz.ntmps126
      go_wp2
      go_ret
      exact ⟨by rw [HR.out]; rfl, rfl⟩

def cutW (l : List UInt8) : List UInt8 := (Lib.cut (Lib.trimPrefix l [45]) [46]).1
def cutP (l : List UInt8) : List UInt8 := (Lib.cut (Lib.trimPrefix l [45]) [46]).2.1
def cutD (l : List UInt8) : Bool := (Lib.cut (Lib.trimPrefix l [45]) [46]).2.2
def negL (l : List UInt8) : Bool := Lib.hasPrefix l [45]
def formB (l : List UInt8) (s : Int) : Bool := !(l == [45, 48]) && wholeB (cutW l) && (!cutD l || placesB (cutP l) s)
def numL (l : List UInt8) : Nat := readN (cutW l) * 1000000 + readN (cutP l) * unitN (cutP l).length
def parseS (l : List UInt8) (s : Int) : Int × Int :=
  if scaleB s then (if formB l s then (if 10 < (cutW l).length then (0, 2) else chk (sgn (negL l) (numL l))) else (0, 5)) else (0, 1)

theorem wholeB_digits {l : List UInt8} (h : wholeB l = true) : digitsB l = true := by
  by_cases h1 : l = [48]
  · rw [h1]; decide
  · unfold wholeB at h
    rw [show (l == [48]) = false by simpa using h1, Bool.false_or, Bool.and_eq_true] at h
    exact h.2

theorem placesB_digits {l : List UInt8} {s : Int} (h : placesB l s = true) : digitsB l = true ∧ (l.length : Int) ≤ s := by
  unfold placesB at h
  simp only [Bool.and_eq_true, decide_eq_true_eq] at h
  exact ⟨h.2, h.1.1.2⟩

theorem cut_none {l : List UInt8} (h : cutD l = false) : cutP l = [] := by
  unfold cutD at h
  unfold cutP
  unfold Lib.cut at *
  split
  · rename_i h2; rw [if_pos h2] at h; cases h
  · rfl

theorem formB_parts {l : List UInt8} {s : Int} (h : formB l s = true) (hs : s ≤ 6) : digitsB (cutW l) = true ∧ digitsB (cutP l) = true ∧ (cutP l).length ≤ 6 := by
  unfold formB at h
  simp only [Bool.and_eq_true, Bool.or_eq_true] at h
  refine ⟨wholeB_digits h.1.2, ?_⟩
  rcases h.2 with h2 | h2
  · rw [cut_none (by simpa using h2)]
    exact ⟨rfl, by simp⟩
  · have := placesB_digits h2
    exact ⟨this.1, by omega⟩

theorem unit_mul (k : Nat) (h : k ≤ 6) : 10 ^ k * unitN k = 1000000 := by
  unfold unitN
  rw [← Nat.pow_add, show k + (6 - k) = 6 by omega]

theorem places_val {l : List UInt8} (hd : digitsB l = true) (h6 : l.length ≤ 6) : readN l * unitN l.length < 1000000 := by
  have h := readN_lt l hd
  rw [← unit_mul l.length h6]
  exact Nat.mul_lt_mul_of_pos_right h (unitN_pos _)

theorem num_wrap (RW PV : Nat) (h1 : RW < 10000000000) (h2 : PV < 1000000) : IntKind.i64.wrap ((RW : Int) * 1000000) = (RW : Int) * 1000000 ∧ IntKind.i64.wrap ((RW : Int) * 1000000 + (PV : Int)) = (RW : Int) * 1000000 + (PV : Int) ∧ wrap64 (-((RW : Int) * 1000000 + (PV : Int))) = -((RW : Int) * 1000000 + (PV : Int)) := by
  rw [wrap_i64, wrap_i64]
  exact ⟨by omega, by omega, by unfold wrap64; omega⟩
theorem mul_wrap (RP UN PV : Nat) (h : PV = RP * UN) (h2 : PV < 1000000) : IntKind.i64.wrap ((RP : Int) * (UN : Int)) = (PV : Int) ∧ wrap64 ((RP : Int) * (UN : Int)) = (PV : Int) := by
  have hm : (RP : Int) * (UN : Int) = (PV : Int) := by rw [h]; exact (Int.natCast_mul _ _).symm
  rw [hm, wrap_i64]
  exact ⟨by omega, by unfold wrap64; omega⟩
theorem i64_num (RW PV : Nat) (h1 : RW < 10000000000) (h2 : PV < 1000000) : I64 ((RW : Int) * 1000000 + (PV : Int)) ∧ I64 (-((RW : Int) * 1000000 + (PV : Int))) ∧ ((RW * 1000000 + PV : Nat) : Int) = (RW : Int) * 1000000 + (PV : Int) :=
  ⟨⟨by omega, by omega⟩, ⟨by omega, by omega⟩, by omega⟩

theorem parse_bad_scale (s : ByteArray) (k : Int) (hk : I64 k) (h : scaleB k = false) (w : World) :
    Calls Tryz.prog 71 #[.string s, .int .i64 k] w fun e w' => e = .returned (.tuple #[.int .i64 0, .int .i64 1]) ∧ Below w.heap.size w w' := by
  have HS := Lib.hid (isScale_any k hk)
  rw [h] at HS
  go_enter Tryz.func71, Tryz.ntmps71
  go_wp2_with (go_at_call 76; ((with_reducible refine (HS.out _).mono ?_); rintro e w' ⟨rfl, rfl⟩))
  go_ret2
  exact ⟨rfl, Below.refl _ _⟩

set_option maxRecDepth 100000 in
set_option maxHeartbeats 2000000 in
theorem parse_any (s : ByteArray) (k : Int) (hk : I64 k) (hs : s.size < 4294967281) (w : World) (hV : Vars w) :
    Calls Tryz.prog 71 #[.string s, .int .i64 k] w fun e w' => e = .returned (.tuple #[.int .i64 (parseS s.data.toList k).1, .int .i64 (parseS s.data.toList k).2]) ∧ Below w.heap.size w w' := by
  cases hsc : scaleB k
  · have e : parseS s.data.toList k = (0, 1) := by unfold parseS; rw [hsc]; rfl
    rw [e]
    exact parse_bad_scale s k hk hsc w
  · obtain ⟨res, hres⟩ : ∃ res, res = parseS s.data.toList k := ⟨_, rfl⟩
    rw [← hres]
    unfold parseS at hres
    rw [hsc, if_pos rfl] at hres
    have HRES := Lib.hid hres
    clear hres
    have HS := Lib.hid (isScale_any k hk)
    rw [hsc] at HS
    have hk6 := scaleB_true hsc
    obtain ⟨m, hm⟩ := hV.maxLen
    have HP := Lib.hid (fun W => Tryz.strings_CutPrefix s ⟨#[45]⟩ W)
    have e45 : (⟨#[45]⟩ : ByteArray).data.toList = [45] := rfl
    have e46 : (⟨#[46]⟩ : ByteArray).data.toList = [46] := rfl
    rw [e45] at HP
    obtain ⟨U, hU⟩ : ∃ U : ByteArray, U = ⟨(Lib.trimPrefix s.data.toList [45]).toArray⟩ := ⟨_, rfl⟩
    have hUs : U.size < 4294967281 := by
      rw [hU, Lib.size_mk]
      have := Lib.trimPrefix_le s.data.toList [45]
      rw [← Lib.size_eq] at this
      omega
    rw [← hU] at HP
    have HC := Tryz.strings_Cut U ⟨#[46]⟩ m w hUs hm
    have hUd : U.data.toList = Lib.trimPrefix s.data.toList [45] := by rw [hU]
    rw [e46, hUd] at HC
    obtain ⟨WH, hWH⟩ : ∃ WH : ByteArray, WH = ⟨(cutW s.data.toList).toArray⟩ := ⟨_, rfl⟩
    obtain ⟨PL, hPL⟩ : ∃ PL : ByteArray, PL = ⟨(cutP s.data.toList).toArray⟩ := ⟨_, rfl⟩
    have hWd : WH.data.toList = cutW s.data.toList := by rw [hWH]
    have hPd : PL.data.toList = cutP s.data.toList := by rw [hPL]
    have hWs : WH.size ≤ 9223372036854775807 := by
      rw [Lib.size_eq, hWd]
      have h1 : (cutW s.data.toList).length ≤ U.size := by
        rw [Lib.size_eq, hUd]
        unfold cutW Lib.cut
        split
        · exact List.length_take_le' _ _
        · exact Nat.le_refl _
      omega
    have hPs : PL.size ≤ 9223372036854775807 := by
      rw [Lib.size_eq, hPd]
      have h1 : (cutP s.data.toList).length ≤ U.size := by
        rw [Lib.size_eq, hUd]
        unfold cutP Lib.cut
        split
        · rw [List.length_drop]; omega
        · exact Nat.zero_le _
      omega
    change Calls Tryz.prog _ _ _ (fun e w' => e = .returned (.tuple #[.string ⟨(cutW s.data.toList).toArray⟩, .string ⟨(cutP s.data.toList).toArray⟩, .bool (cutD s.data.toList)]) ∧ ∃ n, w' = w.drewN n) at HC
    rw [← hWH, ← hPL] at HC
    have HCut := Lib.hid HC
    have HW := Lib.hid (isWhole_any WH hWs)
    have HPl := Lib.hid (arePlaces_any PL k hPs)
    rw [hWd] at HW
    rw [hPd] at HPl
    have HN := Lib.hid (show Lib.hasPrefix s.data.toList [45] = negL s.data.toList from rfl)
    rw [HN.out] at HP
    have hb := Below.refl w.heap.size w
    have hsd := Lib.toList_data s
    obtain ⟨neg, hneg⟩ : ∃ neg, neg = negL s.data.toList := ⟨_, rfl⟩
    obtain ⟨pt, hpt⟩ : ∃ pt, pt = cutD s.data.toList := ⟨_, rfl⟩
    obtain ⟨wb, hwb⟩ : ∃ wb, wb = wholeB (cutW s.data.toList) := ⟨_, rfl⟩
    obtain ⟨pb, hpb⟩ : ∃ pb, pb = placesB (cutP s.data.toList) k := ⟨_, rfl⟩
    rw [← hneg] at HP
    rw [← hpt] at HCut
    rw [← hwb] at HW
    rw [← hpb] at HPl
    have HF := Lib.hid (show formB s.data.toList k = (!(s.toList == [45, 48]) && wb && (!pt || pb)) by rw [hwb, hpt, hpb, hsd]; rfl)
    clear e45 e46 hm HC
    by_cases hA : s.toList = [45, 48]
    · have HE := Lib.hid (show res = (0, 5) by rw [HRES.out, HF.out, hA]; rfl)
      clear hU hUd hWH hPL hWd hPd hsd hneg hpt hwb hpb hUs hWs hPs
      go_enter Tryz.func71, Tryz.ntmps71
      go_wp2_with (first
        | (go_at_call 76; ((with_reducible refine (HS.out _).mono ?_); rintro e w' ⟨rfl, rfl⟩))
        | (go_at_call 123; ((with_reducible refine (HP.out _).mono ?_); rintro e w' ⟨rfl, rfl⟩))
        | (go_at_call 124; ((with_reducible refine HCut.out.mono ?_); rintro e w' ⟨rfl, nd, rfl⟩)))
      go_ret2
      exact ⟨by rw [HE.out]; rfl, below_drewN hb nd⟩
    · have hAb : (s.toList == [45, 48]) = false := by simpa using hA
      rw [hAb] at HF
      cases wb
      · have HE := Lib.hid (show res = (0, 5) by rw [HRES.out, HF.out]; rfl)
        clear hU hUd hWH hPL hWd hPd hsd hneg hpt hwb hpb hUs hWs hPs
        go_enter Tryz.func71, Tryz.ntmps71
        go_wp2_with (first
          | (go_at_call 76; ((with_reducible refine (HS.out _).mono ?_); rintro e w' ⟨rfl, rfl⟩))
          | (go_at_call 123; ((with_reducible refine (HP.out _).mono ?_); rintro e w' ⟨rfl, rfl⟩))
          | (go_at_call 124; ((with_reducible refine HCut.out.mono ?_); rintro e w' ⟨rfl, nd, rfl⟩))
          | (go_at_call 125; ((with_reducible refine (HW.out _).mono ?_); rintro e w' ⟨rfl, rfl⟩)))
        go_ret2
        exact ⟨by rw [HE.out]; rfl, below_drewN hb nd⟩
      · cases pt
        · have hform : formB s.data.toList k = true := by rw [HF.out]; rfl
          obtain ⟨dW, dP, l6⟩ := formB_parts hform hk6.2
          have hLP : PL.size = (cutP s.data.toList).length := by rw [Lib.size_eq, hPd]
          have hLW : WH.size = (cutW s.data.toList).length := by rw [Lib.size_eq, hWd]
          by_cases hlen : 10 < WH.size
          · have HE := Lib.hid (show res = (0, 2) by rw [HRES.out, if_pos hform, if_pos (by rw [← hLW]; exact hlen)])
            clear hU hUd hWH hPL hWd hPd hsd hneg hpt hwb hpb hUs hPs hform dW dP l6 hLP hLW
            go_enter Tryz.func71, Tryz.ntmps71
            go_wp2_with (first
              | (go_at_call 76; ((with_reducible refine (HS.out _).mono ?_); rintro e w' ⟨rfl, rfl⟩))
              | (go_at_call 123; ((with_reducible refine (HP.out _).mono ?_); rintro e w' ⟨rfl, rfl⟩))
              | (go_at_call 124; ((with_reducible refine HCut.out.mono ?_); rintro e w' ⟨rfl, nd, rfl⟩))
              | (go_at_call 125; ((with_reducible refine (HW.out _).mono ?_); rintro e w' ⟨rfl, rfl⟩))
              | (go_at_call 126; ((with_reducible refine (HPl.out _).mono ?_); rintro e w' ⟨rfl, rfl⟩)))
            go_ret2
            exact ⟨by rw [HE.out]; rfl, below_drewN hb nd⟩
          · have HRW := Lib.hid (read_any WH (by omega) (by rw [hWd]; exact dW))
            have HRP := Lib.hid (read_any PL (by omega) (by rw [hPd]; exact dP))
            rw [hWd] at HRW
            rw [hPd] at HRP
            have bW := readN_lt _ dW
            have bW2 : readN (cutW s.data.toList) < 10000000000 := Nat.lt_of_lt_of_le bW (Nat.le_trans (Nat.pow_le_pow_right (by decide) (show _ ≤ 10 by omega)) (by decide))
            have bP := places_val dP l6
            have hcell := hV.units PL.size (by omega)
            have hEN : numL s.data.toList = readN (cutW s.data.toList) * 1000000 + readN (cutP s.data.toList) * unitN PL.size := by rw [hLP]; rfl
            rw [← hLP] at bP
            have hup := unitN_pos PL.size
            generalize readN (cutW s.data.toList) = RW at HRW bW2 hEN
            generalize readN (cutP s.data.toList) = RP at HRP bP hEN
            generalize unitN PL.size = UN at hcell bP hEN hup
            obtain ⟨PV, hPV⟩ : ∃ PV, PV = RP * UN := ⟨_, rfl⟩
            rw [← hPV] at hEN bP
            have hPi : (PV : Int) < 1000000 := by omega
            have hWi : (RW : Int) < 10000000000 := by omega
            have hP6 : (PL.size : Int) < 7 := by omega
            have hP7 : PL.size < 7 := by omega
            have HE := Lib.hid (show res = chk (sgn neg (RW * 1000000 + PV)) by rw [HRES.out, if_pos hform, if_neg (by rw [← hLW]; exact hlen), hEN, hneg])
            have HCC := Lib.hid (i64_num RW PV bW2 bP).2.2
            have HC1 := Lib.hid (checked_any _ (i64_num RW PV bW2 bP).1)
            have HC2 := Lib.hid (checked_any _ (i64_num RW PV bW2 bP).2.1)
            have HRWq := Lib.hid (fun (W : World) (n : Nat) => Calls.quiet_of_same (w := W) (n := n) ((HRW.out _).mono fun e w' ⟨he, hw⟩ => ⟨he, hw.symm⟩))
            have HRPq := Lib.hid (fun (W : World) (n : Nat) => Calls.quiet_of_same (w := W) (n := n) ((HRP.out _).mono fun e w' ⟨he, hw⟩ => ⟨he, hw.symm⟩))
            clear HRW HRP
            have hlW : (WH.size : Int) ≤ 10 := by omega
            have HCut2 := Lib.hid (HCut.out.mono fun e w2 (h2 : e = _ ∧ ∃ n, w2 = w.drewN n) => (show e = _ ∧ Below w.heap.size w w2 ∧ w2.cell? ⟨0, PL.size, none⟩ = some (.int .i64 (UN : Int)) from ⟨h2.1, by obtain ⟨_, n, hw2⟩ := h2; rw [hw2]; exact below_drewN (Below.refl _ _) n, by obtain ⟨_, n, hw2⟩ := h2; rw [hw2, World.cell?_drewN]; exact hcell⟩))
            clear HCut hcell
            obtain ⟨hx1, hx2⟩ := mul_wrap RP UN PV hPV bP
            obtain ⟨hx3, hx4, hx5⟩ := num_wrap RW PV bW2 bP
            clear hU hUd hWH hPL hWd hPd hsd hneg hpt hwb hpb hUs hPs hWs hform dW dP l6 hLP hLW bW hEN hPV bP hup bW2 hs hP7 hk6 hlen hPi hWi
            cases neg
            all_goals
              go_enter Tryz.func71, Tryz.ntmps71
              go_wp2_with (first
                | (go_at_call 76; ((with_reducible refine (HS.out _).mono ?_); rintro e w' ⟨rfl, rfl⟩))
                | (go_at_call 123; ((with_reducible refine (HP.out _).mono ?_); rintro e w' ⟨rfl, rfl⟩))
                | (go_at_call 124; ((with_reducible refine HCut2.out.mono ?_); rintro e w2 ⟨rfl, hb2, hc2⟩))
                | (go_at_call 125; ((with_reducible refine (HW.out _).mono ?_); rintro e w' ⟨rfl, rfl⟩))
                | (go_at_call 126; ((with_reducible refine (HPl.out _).mono ?_); rintro e w' ⟨rfl, rfl⟩)))
              go_quiet ((first
                | (go_at_call 127; with_reducible exact HRWq.out _ _)
                | (go_at_call 127; with_reducible exact HRPq.out _ _)))
              go_wp2_with (first
                | (go_at_call 115; ((with_reducible refine (HC1.out _).mono ?_); rintro e w' ⟨rfl, rfl⟩))
                | (go_at_call 115; ((with_reducible refine (HC2.out _).mono ?_); rintro e w' ⟨rfl, rfl⟩)))
              go_ret2
              exact ⟨by rw [HE.out]; unfold sgn; rw [HCC.out]; rfl, below_drewN hb2 _⟩
        · cases pb
          · have HE := Lib.hid (show res = (0, 5) by rw [HRES.out, HF.out]; rfl)
            clear hU hUd hWH hPL hWd hPd hsd hneg hpt hwb hpb hUs hWs hPs
            go_enter Tryz.func71, Tryz.ntmps71
            go_wp2_with (first
              | (go_at_call 76; ((with_reducible refine (HS.out _).mono ?_); rintro e w' ⟨rfl, rfl⟩))
              | (go_at_call 123; ((with_reducible refine (HP.out _).mono ?_); rintro e w' ⟨rfl, rfl⟩))
              | (go_at_call 124; ((with_reducible refine HCut.out.mono ?_); rintro e w' ⟨rfl, nd, rfl⟩))
              | (go_at_call 125; ((with_reducible refine (HW.out _).mono ?_); rintro e w' ⟨rfl, rfl⟩))
              | (go_at_call 126; ((with_reducible refine (HPl.out _).mono ?_); rintro e w' ⟨rfl, rfl⟩)))
            go_ret2
            exact ⟨by rw [HE.out]; rfl, below_drewN hb nd⟩
          · have hform : formB s.data.toList k = true := by rw [HF.out]; rfl
            obtain ⟨dW, dP, l6⟩ := formB_parts hform hk6.2
            have hLP : PL.size = (cutP s.data.toList).length := by rw [Lib.size_eq, hPd]
            have hLW : WH.size = (cutW s.data.toList).length := by rw [Lib.size_eq, hWd]
            by_cases hlen : 10 < WH.size
            · have HE := Lib.hid (show res = (0, 2) by rw [HRES.out, if_pos hform, if_pos (by rw [← hLW]; exact hlen)])
              clear hU hUd hWH hPL hWd hPd hsd hneg hpt hwb hpb hUs hPs hform dW dP l6 hLP hLW
              go_enter Tryz.func71, Tryz.ntmps71
              go_wp2_with (first
                | (go_at_call 76; ((with_reducible refine (HS.out _).mono ?_); rintro e w' ⟨rfl, rfl⟩))
                | (go_at_call 123; ((with_reducible refine (HP.out _).mono ?_); rintro e w' ⟨rfl, rfl⟩))
                | (go_at_call 124; ((with_reducible refine HCut.out.mono ?_); rintro e w' ⟨rfl, nd, rfl⟩))
                | (go_at_call 125; ((with_reducible refine (HW.out _).mono ?_); rintro e w' ⟨rfl, rfl⟩))
                | (go_at_call 126; ((with_reducible refine (HPl.out _).mono ?_); rintro e w' ⟨rfl, rfl⟩)))
              go_ret2
              exact ⟨by rw [HE.out]; rfl, below_drewN hb nd⟩
            · have HRW := Lib.hid (read_any WH (by omega) (by rw [hWd]; exact dW))
              have HRP := Lib.hid (read_any PL (by omega) (by rw [hPd]; exact dP))
              rw [hWd] at HRW
              rw [hPd] at HRP
              have bW := readN_lt _ dW
              have bW2 : readN (cutW s.data.toList) < 10000000000 := Nat.lt_of_lt_of_le bW (Nat.le_trans (Nat.pow_le_pow_right (by decide) (show _ ≤ 10 by omega)) (by decide))
              have bP := places_val dP l6
              have hcell := hV.units PL.size (by omega)
              have hEN : numL s.data.toList = readN (cutW s.data.toList) * 1000000 + readN (cutP s.data.toList) * unitN PL.size := by rw [hLP]; rfl
              rw [← hLP] at bP
              have hup := unitN_pos PL.size
              generalize readN (cutW s.data.toList) = RW at HRW bW2 hEN
              generalize readN (cutP s.data.toList) = RP at HRP bP hEN
              generalize unitN PL.size = UN at hcell bP hEN hup
              obtain ⟨PV, hPV⟩ : ∃ PV, PV = RP * UN := ⟨_, rfl⟩
              rw [← hPV] at hEN bP
              have hPi : (PV : Int) < 1000000 := by omega
              have hWi : (RW : Int) < 10000000000 := by omega
              have hP6 : (PL.size : Int) < 7 := by omega
              have hP7 : PL.size < 7 := by omega
              have HE := Lib.hid (show res = chk (sgn neg (RW * 1000000 + PV)) by rw [HRES.out, if_pos hform, if_neg (by rw [← hLW]; exact hlen), hEN, hneg])
              have HCC := Lib.hid (i64_num RW PV bW2 bP).2.2
              have HC1 := Lib.hid (checked_any _ (i64_num RW PV bW2 bP).1)
              have HC2 := Lib.hid (checked_any _ (i64_num RW PV bW2 bP).2.1)
              have HRWq := Lib.hid (fun (W : World) (n : Nat) => Calls.quiet_of_same (w := W) (n := n) ((HRW.out _).mono fun e w' ⟨he, hw⟩ => ⟨he, hw.symm⟩))
              have HRPq := Lib.hid (fun (W : World) (n : Nat) => Calls.quiet_of_same (w := W) (n := n) ((HRP.out _).mono fun e w' ⟨he, hw⟩ => ⟨he, hw.symm⟩))
              clear HRW HRP
              have hlW : (WH.size : Int) ≤ 10 := by omega
              have HCut2 := Lib.hid (HCut.out.mono fun e w2 (h2 : e = _ ∧ ∃ n, w2 = w.drewN n) => (show e = _ ∧ Below w.heap.size w w2 ∧ w2.cell? ⟨0, PL.size, none⟩ = some (.int .i64 (UN : Int)) from ⟨h2.1, by obtain ⟨_, n, hw2⟩ := h2; rw [hw2]; exact below_drewN (Below.refl _ _) n, by obtain ⟨_, n, hw2⟩ := h2; rw [hw2, World.cell?_drewN]; exact hcell⟩))
              clear HCut hcell
              obtain ⟨hx1, hx2⟩ := mul_wrap RP UN PV hPV bP
              obtain ⟨hx3, hx4, hx5⟩ := num_wrap RW PV bW2 bP
              clear hU hUd hWH hPL hWd hPd hsd hneg hpt hwb hpb hUs hPs hWs hform dW dP l6 hLP hLW bW hEN hPV bP hup bW2 hs hP7 hk6 hlen hPi hWi
              cases neg
              all_goals
                go_enter Tryz.func71, Tryz.ntmps71
                go_wp2_with (first
                  | (go_at_call 76; ((with_reducible refine (HS.out _).mono ?_); rintro e w' ⟨rfl, rfl⟩))
                  | (go_at_call 123; ((with_reducible refine (HP.out _).mono ?_); rintro e w' ⟨rfl, rfl⟩))
                  | (go_at_call 124; ((with_reducible refine HCut2.out.mono ?_); rintro e w2 ⟨rfl, hb2, hc2⟩))
                  | (go_at_call 125; ((with_reducible refine (HW.out _).mono ?_); rintro e w' ⟨rfl, rfl⟩))
                  | (go_at_call 126; ((with_reducible refine (HPl.out _).mono ?_); rintro e w' ⟨rfl, rfl⟩)))
                go_quiet ((first
                  | (go_at_call 127; with_reducible exact HRWq.out _ _)
                  | (go_at_call 127; with_reducible exact HRPq.out _ _)))
                go_wp2_with (first
                  | (go_at_call 115; ((with_reducible refine (HC1.out _).mono ?_); rintro e w' ⟨rfl, rfl⟩))
                  | (go_at_call 115; ((with_reducible refine (HC2.out _).mono ?_); rintro e w' ⟨rfl, rfl⟩)))
                go_ret2
                exact ⟨by rw [HE.out]; unfold sgn; rw [HCC.out]; rfl, below_drewN hb2 _⟩

end Go.Proofs.YtocnkjnlmciojaaGreatDoor.De
