/-
  The reference's texts of numbers.
-/
import Derived.Test.YtocnkjnlmciojaaGreatDoorDecTxMath3
import Derived.Test.YtocnkjnlmciojaaGreatDoorDcBase
import Derived.Test.YtocnkjnlmciojaaGreatDoorRegFacts
import Derived.Laws.BytesArg
namespace Go.Proofs.YtocnkjnlmciojaaGreatDoor.De
open Go Go.RowKit Go.Shelf

theorem ret_bool2 {a b : Bool} (h : a = b) : Ending.returned (.bool a) = .returned (.bool b) := by rw [h]

theorem rscaled_any (n : Int) (w : World) : Calls Tryz.prog 72 #[.int .i64 n] w fun e w' => e = .returned (.bool (scaleB n)) ∧ w' = w := by
  by_cases h0 : 0 ≤ n
  · by_cases h6 : n ≤ 6
    · have HR : Hid (true = scaleB n) := (decide_eq_true ⟨h0, h6⟩).symm
      go_enter Tryz.func72, Tryz.ntmps72
      go_wp2
      go_ret
      exact ⟨ret_bool2 HR.out, rfl⟩
    · have HR : Hid (false = scaleB n) := (decide_eq_false fun h => h6 h.2).symm
      go_enter Tryz.func72, Tryz.ntmps72
      go_wp2
      go_ret
      exact ⟨ret_bool2 HR.out, rfl⟩
  · have HR : Hid (false = scaleB n) := (decide_eq_false fun h => h0 h.1).symm
    go_enter Tryz.func72, Tryz.ntmps72
    go_wp2
    go_ret
    exact ⟨ret_bool2 HR.out, rfl⟩
theorem rvalid2_any (n : Int) (w : World) : Calls Tryz.prog 17 #[.int .i64 n] w fun e w' => e = .returned (.bool (validB n)) ∧ w' = w := by
  by_cases h0 : -1000000000000000 ≤ n
  · by_cases h6 : n ≤ 1000000000000000
    · have HR : Hid (true = validB n) := (decide_eq_true ⟨h0, h6⟩).symm
      go_enter Tryz.func17, Tryz.ntmps17
      go_wp2
      go_ret
      exact ⟨ret_bool2 HR.out, rfl⟩
    · have HR : Hid (false = validB n) := (decide_eq_false fun h => h6 h.2).symm
      go_enter Tryz.func17, Tryz.ntmps17
      go_wp2
      go_ret
      exact ⟨ret_bool2 HR.out, rfl⟩
  · have HR : Hid (false = validB n) := (decide_eq_false fun h => h0 h.1).symm
    go_enter Tryz.func17, Tryz.ntmps17
    go_wp2
    go_ret
    exact ⟨ret_bool2 HR.out, rfl⟩

theorem rsize_any (n : Int) (hn : I64 n) (w : World) : Calls Tryz.prog 66 #[.int .i64 n] w fun e w' => e = .returned (.int .u64 (n.natAbs : Int)) ∧ w' = w := by
  have h1 := hn.1
  have h2 := hn.2
  by_cases h : n < 0
  · have e1 : IntKind.i64.wrap (n + 1) = n + 1 := by rw [wrap_i64]; omega
    have e1' : wrap64 (n + 1) = n + 1 := by unfold wrap64; omega
    have e2 : IntKind.i64.wrap (-(n + 1)) = -(n + 1) := by rw [wrap_i64]; omega
    have e2' : wrap64 (-(n + 1)) = -(n + 1) := by unfold wrap64; omega
    have HE : Hid (IntKind.u64.wrap (IntKind.u64.wrap (-(n + 1)) + 1) = (n.natAbs : Int)) := by show _ = _; rw [IntKind.wrap_u64, IntKind.wrap_u64]; omega
    clear h1 h2
    go_enter Tryz.func66, Tryz.ntmps66
    go_wp2
    go_ret
    exact ⟨by rw [← HE.out]; go_num, rfl⟩
  · have HE : Hid (IntKind.u64.wrap n = (n.natAbs : Int)) := by show _ = _; rw [IntKind.wrap_u64]; omega
    clear h1 h2
    go_enter Tryz.func66, Tryz.ntmps66
    go_wp2
    go_ret
    exact ⟨by rw [← HE.out]; go_num, rfl⟩

/-! ### Step -/

theorem rstep2_any (s : Nat) (h6 : s ≤ 6) (w : World) : Calls Tryz.prog 75 #[.int .i64 (s : Int)] w fun e w' => e = .returned (.int .i64 (unitN s : Int)) ∧ w' = w := by
  go_enter Tryz.func75, Tryz.ntmps75
  go_wp2
  go_loop [3, 4] (fun n i => ∃ k : Nat, k + s ≤ 6 ∧ i = .int .i64 ((s : Int) + (k : Int)) ∧ n = .int .i64 ((10 ^ k : Nat) : Int)) (fun _ i => (6 - intOf i).toNat)
  case atStart => exact ⟨0, by omega, by go_num, by go_num⟩
  case round =>
    obtain ⟨k, hk, rfl, rfl⟩ := hrel
    by_cases hlt : k + s < 6
    · have hp : 10 ^ k ≤ 10 ^ 5 := Nat.pow_le_pow_right (by decide) (by omega)
      have HP : Hid (10 ^ (k + 1) = 10 * 10 ^ k) := by show _ = _; rw [Nat.pow_succ, Nat.mul_comm]
      generalize 10 ^ k = x at *
      have hw : IntKind.i64.wrap (10 * (x : Int)) = 10 * (x : Int) := by rw [wrap_i64]; omega
      have hw' : wrap64 (10 * (x : Int)) = 10 * (x : Int) := by unfold wrap64; omega
      clear hp
      go_wp2
      go_round
      case rel => exact ⟨k + 1, by omega, by go_num, by rw [HP.out]; go_num⟩
      case measure => simp [intOf]; omega
    · have hk6 : k = 6 - s := by omega
      have HU : Hid (((10 ^ k : Nat) : Int) = (unitN s : Int)) := by show _ = _; rw [hk6]; rfl
      generalize 10 ^ k = x at *
      clear hk6
      go_wp2
      go_ret
      exact ⟨ret_int HU.out, rfl⟩

/-! ### Digits -/

/-- A row that is laid is the call's own. -/
theorem own_r2 (W : World) (t : TypeId) (k : IntKind) (zs : List Int) (n base : Nat) (hn : n = zs.length) (hs : n ≤ 1000000) (hb : base ≤ W.heap.size) :
    (W.alloc (.cells (zs.map (Value.int k)).toArray t)).ownsRow base t 1 (.slice (some ⟨W.heap.size, 0, none⟩) n n) n (zs.map (Value.int k)) :=
  ⟨by simp [hn], .inr ⟨W.heap.size, n, (zs.map (Value.int k)).toArray, rfl, hb, World.alloc_heap_new W _, Nat.le_refl _, by unfold maxLen; omega, by simp [hn], by subst hn; rw [Nat.mul_one]; exact List.take_of_length_le (by simp)⟩⟩

/-- Bytes that read, as a string. -/
theorem conv_r2 {K : Nat → Prop} {W : World} {a : Option Addr} {n c : Nat} {zs : List Int} (hR : Rd K W .u8 a n c zs) (h0 : 0 < n) :
    (convert 42 9 (.slice a n c)).run Tryz.prog W = .ok (.string (bsOf (strU zs))) W := by
  obtain ⟨b, off, rfl, _, hlt, hc⟩ := hR.cells h0
  exact run_convert_bytes_arg W 42 5 Tryz.underlying42 Tryz.underlying5 b off n c zs hR.hl.symm (fun i hi => by
    rw [hc i hi, List.getD_eq_getElem?_getD]) _ Tryz.underlying9
theorem bs_cat (a b : List UInt8) : bsOf a ++ bsOf b = bsOf (a ++ b) := by
  apply ByteArray.ext
  simp [bsOf]

def digA (n least : Nat) (acc : List UInt8) : List UInt8 := if 0 < n ∨ acc.length < least then digA (n / 10) least (UInt8.ofNat (48 + n % 10) :: acc) else acc
termination_by n + (least - acc.length)
decreasing_by
  rename_i h
  simp only [List.length_cons]
  omega
theorem digA_on {n least : Nat} {acc : List UInt8} (h : 0 < n ∨ acc.length < least) : digA n least acc = digA (n / 10) least (UInt8.ofNat (48 + n % 10) :: acc) := by rw [digA, if_pos h]
theorem digA_off {n least : Nat} {acc : List UInt8} (h : ¬ (0 < n ∨ acc.length < least)) : digA n least acc = acc := by rw [digA, if_neg h]
theorem digA_pos : ∀ (m n : Nat) (acc : List UInt8), n ≤ m → 0 < n → digA n 1 acc = Lib.decDigits n ++ acc
  | 0, n, acc, h, h0 => by omega
  | m + 1, n, acc, h, h0 => by
    rw [digA_on (.inl h0)]
    by_cases h1 : n < 10
    · rw [show n / 10 = 0 by omega, digA_off (by simp), decDigits_small h1, show n % 10 = n by omega]; rfl
    · rw [digA_pos m (n / 10) _ (by omega) (by omega), decDigits_big h1, List.append_assoc]; rfl
theorem digA_one (n : Nat) : digA n 1 [] = Lib.decDigits n := by
  by_cases h : 0 < n
  · rw [digA_pos n n [] (Nat.le_refl _) h, List.append_nil]
  · obtain rfl : n = 0 := by omega
    rw [digA_on (.inr (by simp)), digA_off (by simp), decDigits_small (by decide)]
theorem decDigits_ne (u : Nat) : Lib.decDigits u ≠ [] := (decDigits_ok u u (Nat.le_refl _)).2.2.1
theorem digA_six : ∀ (k p : Nat) (acc : List UInt8), p < 10 ^ k → acc.length + k = 6 → digA p 6 acc = (Lib.decDigits (10 ^ k + p)).drop 1 ++ acc
  | 0, p, acc, h, hl => by
    obtain rfl : p = 0 := by simpa using h
    rw [digA_off (by omega), decDigits_small (by decide)]; rfl
  | k + 1, p, acc, h, hl => by
    have hp : 0 < 10 ^ k := Nat.pow_pos (by decide)
    have e : 10 ^ (k + 1) = 10 * 10 ^ k := by rw [Nat.pow_succ, Nat.mul_comm]
    rw [e] at h
    rw [digA_on (.inr (by omega)), digA_six k (p / 10) _ (by omega) (by simp only [List.length_cons]; omega), e, decDigits_big (u := 10 * 10 ^ k + p) (by omega),
      show (10 * 10 ^ k + p) / 10 = 10 ^ k + p / 10 by omega, show (10 * 10 ^ k + p) % 10 = p % 10 by omega]
    have hne := decDigits_ne (10 ^ k + p / 10)
    cases hD : Lib.decDigits (10 ^ k + p / 10) with
    | nil => exact absurd hD hne
    | cons c r => simp
theorem digA_len : ∀ (m n least : Nat) (acc : List UInt8), n + (least - acc.length) ≤ m → acc.length ≤ (digA n least acc).length
  | m, n, least, acc, h => by
    by_cases hc : 0 < n ∨ acc.length < least
    · cases m with
      | zero => omega
      | succ m =>
        rw [digA_on hc]
        have := digA_len m (n / 10) least (UInt8.ofNat (48 + n % 10) :: acc) (by simp only [List.length_cons]; omega)
        simp only [List.length_cons] at this
        omega
    · rw [digA_off hc]; exact Nat.le_refl _

set_option maxRecDepth 100000 in
set_option maxHeartbeats 1000000 in
theorem digits_any (n least : Nat) (hn : n < 18446744073709551616) (hl : least ≤ 6) (hL : (digA n least []).length ≤ 1000000) (w : World) :
    Calls Tryz.prog 67 #[.int .u64 (n : Int), .int .i64 (least : Int)] w fun e w' => e = .returned (.string (bsOf (digA n least []))) ∧ Below w.heap.size w w' := by
  have HLL := Lib.hid hL
  clear hL
  have HR : Hid (∀ z, z = digA n least [] → Ending.returned (.string (bsOf z)) = .returned (.string (bsOf (digA n least [])))) := fun z h => by rw [h]
  go_enter Tryz.func67, Tryz.ntmps67
  go_wp2
  go_loopw [0, 5] (fun u s wr => ∃ (m : Nat) (acc : List UInt8), m ≤ n ∧ u = .int .u64 (m : Int) ∧ s = .string (bsOf acc) ∧ Hid (digA n least [] = digA m least acc ∧ Below w.heap.size w wr)) (fun u s _ => (intOf u).toNat + (least - (match s with | .string b => b.size | _ => 0)))
  case atStart => exact ⟨n, [], Nat.le_refl _, rfl, rfl, rfl, Below.self w⟩
  case round =>
    obtain ⟨m, acc, hm, rfl, rfl, HI⟩ := hrel
    obtain ⟨d, hd⟩ : ∃ d, m % 10 = d := ⟨_, rfl⟩
    obtain ⟨q, hq⟩ : ∃ q, m / 10 = q := ⟨_, rfl⟩
    have hd10 : d < 10 := by omega
    have HX := Lib.hid (own_r2 wr 5 .u8 [48 + (d : Int)] 1 w.heap.size rfl (by decide) HI.out.2.size)
    have HCV := Lib.hid (conv_r2 (Rd.of_row rfl (Nat.le_refl _) (Nat.le_of_ble_eq_true rfl) HX.out) (Nat.lt_succ_self 0))
    obtain ⟨D, hD⟩ : ∃ D : UInt8, UInt8.ofNat (48 + d) = D := ⟨_, rfl⟩
    have HON : Hid (0 < m ∨ acc.length < least → digA n least [] = digA q least (D :: acc)) := fun h => by rw [HI.out.1, digA_on h, hd, hq, hD]
    have HOF : Hid (¬ (0 < m ∨ acc.length < least) → digA n least [] = acc) := fun h => by rw [HI.out.1, digA_off h]
    have hsz := bs_size acc
    have hal : acc.length ≤ 1000000 := by
      have h := digA_len (m + (least - acc.length)) m least acc (Nat.le_refl _)
      rw [← HI.out.1] at h
      exact Nat.le_trans h HLL.out
    have HBA : Hid (Below w.heap.size w (wr.alloc (.cells #[.int .u8 (48 + (d : Int))] 5))) := HI.out.2.alloc HI.out.2.size _
    have hcv : (convert 42 9 (.slice (some ⟨wr.heap.size, 0, none⟩) 1 1)).run Tryz.prog (wr.alloc (.cells #[.int .u8 (48 + (d : Int))] 5)) = .ok (.string (bsOf [D])) (wr.alloc (.cells #[.int .u8 (48 + (d : Int))] 5)) := by
      have h := HCV.out
      rw [show strU [48 + (d : Int)] = [UInt8.ofNat (48 + d)] from by show [UInt8.ofNat (48 + (d : Int)).toNat] = _; rw [show (48 + (d : Int)).toNat = 48 + d by omega], hD] at h
      exact h
    have hcat : bsOf [D] ++ bsOf acc = bsOf (D :: acc) := bs_cat [D] acc
    have hs1 : (bsOf [D]).size = 1 := bs_size [D]
    have hs2 : (bsOf (D :: acc)).size = acc.length + 1 := bs_size (D :: acc)
    by_cases h0 : 0 < m
    · have HS := Lib.hid (HON.out (.inl h0))
      have h0I : (0 : Int) < (m : Int) := by omega
      have e1 : (m : Int) % 10 = (d : Int) := by omega
      have e4 : (m : Int) / 10 = (q : Int) := by omega
      have e2 : IntKind.u64.wrap (48 + (d : Int)) = 48 + (d : Int) := by rw [IntKind.wrap_u64]; omega
      have e3 : IntKind.u8.wrap (48 + (d : Int)) = 48 + (d : Int) := by simp [IntKind.wrap, IntKind.bits, IntKind.signed]; omega
      clear HX HCV HON HOF hD
      generalize bsOf [D] = S1 at *
      go_wp2
      go_roundw
      case rel => exact ⟨q, D :: acc, by omega, by go_num, by go_num, HS.out, HBA.out⟩
      case measure => simp [intOf, hsz, hs2]; omega
    · obtain rfl : m = 0 := by omega
      by_cases hl2 : acc.length < least
      · have HS := Lib.hid (HON.out (.inr hl2))
        have hlI : (acc.length : Int) < (least : Int) := by omega
        obtain rfl : d = 0 := by omega
        obtain rfl : q = 0 := by omega
        have hcv : (convert 42 9 (.slice (some ⟨wr.heap.size, 0, none⟩) 1 1)).run Tryz.prog (wr.alloc (.cells #[.int .u8 48] 5)) = .ok (.string (bsOf [D])) (wr.alloc (.cells #[.int .u8 48] 5)) := hcv
        have HBA : Hid (Below w.heap.size w (wr.alloc (.cells #[.int .u8 48] 5))) := HBA
        clear HX HCV HON HOF hD h0 hd hq
        generalize bsOf [D] = S1 at *
        go_wp2
        go_roundw
        case rel => exact ⟨0, D :: acc, by omega, by go_num, by go_num, HS.out, HBA.out⟩
        case measure => simp [intOf, hsz, hs2]; omega
      · have HS := Lib.hid (HR.out acc (HOF.out (fun h => by rcases h with h | h <;> omega)).symm)
        have hlI : ¬ ((acc.length : Int) < (least : Int)) := by omega
        have HBB := Lib.hid HI.out.2
        clear HX HBA HCV HON HOF h0 hcv hcat hs1 hs2 hD
        go_wp2
        go_ret
        exact ⟨HS.out, HBB.out⟩

end Go.Proofs.YtocnkjnlmciojaaGreatDoor.De

namespace Go.Proofs.YtocnkjnlmciojaaGreatDoor.De
open Go Go.RowKit Go.Shelf

theorem bs_get2 (l : List UInt8) (k : Nat) (h : k < (bsOf l).size) : (bsOf l)[k]'h = l[k]?.getD 0 := by
  have h2 : k < l.length := by rw [← bs_size l]; exact h
  rw [List.getElem?_eq_getElem h2]
  rfl
theorem bs_take2 (a : List UInt8) (k : Nat) : (bsOf a).extract 0 k = bsOf (a.take k) := by
  apply ByteArray.ext
  simp [bsOf, ByteArray.extract_mk]
theorem bs_drop2 (a : List UInt8) (k : Nat) : (bsOf a).extract k (bsOf a).size = bsOf (a.drop k) := by
  apply ByteArray.ext
  simp only [bsOf, ByteArray.extract_mk, ByteArray.size]
  simp
  exact List.take_of_length_le (by rw [List.length_drop]; omega)

theorem trim_last {l : List UInt8} {k : Nat} (hk : k < l.length) (hl : k + 1 = l.length) (h : l[k]?.getD 0 = 48) : Lib.trimRightB (l.take k) 48 = Lib.trimRightB l 48 := by
  have e : l = l.take k ++ [48] := by
    have h1 : l.take (k + 1) = l := List.take_of_length_le (by omega)
    rw [List.getElem?_eq_getElem hk] at h
    have h : l[k] = 48 := h
    rw [List.take_succ_eq_append_getElem hk, h] at h1
    exact h1.symm
  conv => rhs; rw [e]
  unfold Lib.trimRightB
  rw [List.reverse_append]
  simp
theorem trim_none {l : List UInt8} {k : Nat} (hk : k < l.length) (hl : k + 1 = l.length) (h : ¬ l[k]?.getD 0 = 48) : Lib.trimRightB l 48 = l := by
  have h0 : l.getLast? ≠ some 48 := by
    rw [List.getLast?_eq_getElem?, show l.length - 1 = k by omega, List.getElem?_eq_getElem hk]
    rw [List.getElem?_eq_getElem hk] at h
    exact fun e => h (Option.some.inj e)
  have := trim_zeros l 0 h0
  simpa using this

set_option maxRecDepth 100000 in
set_option maxHeartbeats 2000000 in
theorem rtext_any (n : Int) (hn : I64 n) (w : World) : Calls Tryz.prog 18 #[.int .i64 n] w fun e w' => e = .returned (.string (bsOf (textL n))) ∧ Below w.heap.size w w' := by
  have hn1 := hn.1
  have hn2 := hn.2
  have HR : Hid (∀ z, z = textL n → Ending.returned (.string (bsOf z)) = .returned (.string (bsOf (textL n)))) := fun z h => by rw [h]
  have HTX : Hid (textL n = (if n < 0 then [45] else []) ++ (Lib.decDigits (n.natAbs / 1000000) ++ (if n.natAbs % 1000000 = 0 then [] else 46 :: placesL (n.natAbs % 1000000)))) := rfl
  have HSZ := Lib.hid (rsize_any n hn)
  generalize textL n = tx at *
  obtain ⟨u, hu⟩ : ∃ u, n.natAbs = u := ⟨_, rfl⟩
  rw [hu] at HTX HSZ
  have hu1 : u ≤ 9223372036854775808 := by omega
  obtain ⟨W, hW⟩ : ∃ W, u / 1000000 = W := ⟨_, rfl⟩
  obtain ⟨p, hp⟩ : ∃ p, u % 1000000 = p := ⟨_, rfl⟩
  have hp6 : p < 1000000 := by omega
  rw [hW, hp] at HTX
  have e1 : (u : Int) / 1000000 = (W : Int) := by omega
  have e2 : (u : Int) % 1000000 = (p : Int) := by omega
  have e3 : IntKind.u64.wrap (W : Int) = (W : Int) := wrap_nat W (by omega)
  have e4 : IntKind.u64.wrap (p : Int) = (p : Int) := wrap_nat p (by omega)
  have hdl : (Lib.decDigits W).length ≤ 20 := by rw [Lib.decDigits_length]; exact Lib.nDigits_le20 W (by omega)
  have HD1 : Hid (∀ W' : World, Calls Tryz.prog 67 #[.int .u64 (W : Int), .int .i64 1] W' fun e w' => e = .returned (.string (bsOf (Lib.decDigits W))) ∧ Below W'.heap.size W' w') := fun W' => by
    have h := digits_any W 1 (by omega) (by decide) (by rw [digA_one]; omega) W'
    rwa [digA_one] at h
  have h6 := digA_six 6 p [] hp6 rfl
  rw [List.append_nil] at h6
  have HZ := Lib.hid (six_digits p hp6)
  have hZL : ((Lib.decDigits (10 ^ 6 + p)).drop 1).length = 6 := by
    obtain ⟨Z, z1, z2, _⟩ := HZ.out
    show ((Lib.decDigits (1000000 + p)).drop 1).length = 6
    rw [z1]; simpa using z2
  have HD2 : Hid (∀ W' : World, Calls Tryz.prog 67 #[.int .u64 (p : Int), .int .i64 6] W' fun e w' => e = .returned (.string (bsOf ((Lib.decDigits (1000000 + p)).drop 1))) ∧ Below W'.heap.size W' w') := fun W' => by
    have h := digits_any p 6 (by omega) (by decide) (by rw [h6, hZL]; decide) W'
    rwa [h6] at h
  clear h6 hZL
  obtain ⟨D, hD⟩ : ∃ D, Lib.decDigits W = D := ⟨_, rfl⟩
  rw [hD] at HTX hdl HD1
  have hDs := bs_size D
  obtain ⟨Z, hZ⟩ : ∃ Z, (Lib.decDigits (1000000 + p)).drop 1 = Z := ⟨_, rfl⟩
  rw [hZ] at HD2
  have HZ6 : Hid (Z.length = 6 ∧ Lib.trimRightB Z 48 = placesL p) := by
    obtain ⟨Z', z1, z2, _⟩ := HZ.out
    refine ⟨?_, by show _ = Lib.trimRightB _ 48; rw [hZ]⟩
    rw [← hZ, z1]; simpa using z2
  have HNE : Hid (p ≠ 0 → placesL p ≠ []) := placesL_ne p hp6
  clear HZ hD hZ hn hn1 hn2 hu hW hp hu1
  by_cases hneg : n < 0
  · have HH : Hid (tx = (45 :: D) ++ (if p = 0 then [] else 46 :: placesL p)) := by show _ = _; rw [HTX.out, if_pos hneg]; rfl
    have hc1 : (⟨#[45]⟩ : ByteArray) ++ bsOf D = bsOf (45 :: D) := bs_cat [45] D
    have hc2 : (bsOf (45 :: D)).size = D.length + 1 := bs_size (45 :: D)
    have hc3 : (⟨#[45]⟩ : ByteArray).size = 1 := rfl
    clear HTX
    go_enter Tryz.func18, Tryz.ntmps18
    go_upto_region 5 with (first
      | (go_at_call 66; (with_reducible refine (HSZ.out _).mono ?_); rintro e w0 ⟨rfl, rfl⟩)
      | (go_at_call 67; (with_reducible refine (HD1.out _).mono ?_); rintro e w1 ⟨rfl, hb1⟩))
    have HB1 := Lib.hid hb1
    clear hb1 HD1 HSZ hneg
    clear hc1 hc3 hDs
    have hHl : (45 :: D).length ≤ 21 := by simp only [List.length_cons]; omega
    have hHs : (bsOf (45 :: D)).size = (45 :: D).length := bs_size _
    generalize (45 :: D) = H at *
    by_cases hp0 : p = 0
    · subst hp0
      have HX := Lib.hid (HR.out H (by rw [HH.out, if_pos rfl, List.append_nil]))
      go_wp2
      go_ret
      exact ⟨HX.out, HB1.out⟩
    · have hp0I : ((p : Int) == 0) = false := by simp; omega
      have hpne := HNE.out hp0
      have HX : Hid (∀ l, l = placesL p → Ending.returned (.string (bsOf (H ++ 46 :: l))) = .returned (.string (bsOf tx))) := fun l h => HR.out _ (by rw [HH.out, if_neg hp0, h])
      have hd1 : bsOf H ++ (⟨#[46]⟩ : ByteArray) = bsOf (H ++ [46]) := bs_cat H [46]
      have hd2 : (bsOf (H ++ [46])).size = H.length + 1 := by rw [bs_size, List.length_append]; rfl
      have hd3 : (⟨#[46]⟩ : ByteArray).size = 1 := rfl
      clear HH hp0
      go_wp2_with (go_at_call 67; (with_reducible refine (HD2.out _).mono ?_); rintro e w2 ⟨rfl, hb2⟩)
      have HB2 := Lib.hid (HB1.out.trans (hb2.mono HB1.out.size))
      clear hb2 HB1 HD2
      go_loop [6] (fun s => ∃ l : List UInt8, s = .string (bsOf l) ∧ Hid (Lib.trimRightB l 48 = placesL p ∧ l.length ≤ 6)) (fun s => (match s with | .string b => b.size | _ => 0))
      case atStart => exact ⟨Z, rfl, HZ6.out.2, by rw [HZ6.out.1]; decide⟩
      case round =>
        obtain ⟨l, rfl, HI⟩ := hrel
        have hl0 : 0 < l.length := by
          rcases Nat.eq_zero_or_pos l.length with h | h
          · obtain rfl := List.eq_nil_of_length_eq_zero h
            exact absurd HI.out.1.symm hpne
          · exact h
        obtain ⟨k, hk⟩ : ∃ k, k + 1 = l.length := ⟨l.length - 1, by omega⟩
        have hl6 := HI.out.2
        have hls := bs_size l
        rw [← hk] at hls hl6
        have HLA := Lib.hid (@trim_last l k (by omega) hk)
        have HLN := Lib.hid (@trim_none l k (by omega) hk)
        have hx := bs_get2 l k (by omega)
        have HK := Lib.hid hk
        clear hl0 hk
        by_cases hz : l[k]?.getD 0 = 48
        · rw [hz] at hx
          have ht := bs_take2 l k
          have HI2 : Hid (Lib.trimRightB (l.take k) 48 = placesL p ∧ (l.take k).length ≤ 6) := ⟨(HLA.out hz).trans HI.out.1, by rw [List.length_take]; omega⟩
          have hts : (bsOf (l.take k)).size = k := by rw [bs_size, List.length_take, ← HK.out]; omega
          clear hz HLA HLN HI
          go_wp2
          go_round
          case rel => exact ⟨l.take k, by go_num, HI2.out⟩
          case measure => simp [hts, hls]
        · have HPL : Hid (l = placesL p) := (HLN.out hz).symm.trans HI.out.1
          have hne : (l[k]?.getD 0 == 48) = false := by simpa using hz
          have he1 : bsOf (H ++ [46]) ++ bsOf l = bsOf (H ++ 46 :: l) := by rw [bs_cat, List.append_assoc]; rfl
          have he2 : (bsOf (H ++ 46 :: l)).size = H.length + 1 + (k + 1) := by rw [bs_size, List.length_append, List.length_cons, ← HK.out]; omega
          have HXX := HX.out l HPL.out
          have HXX := Lib.hid HXX
          clear HLA HLN HI HX
          generalize l[k]?.getD 0 = c at *
          have hcT : ((c.toNat : Int) == 48) = false := by
            rw [beq_eq_false_iff_ne]
            exact fun h => hz (UInt8.toNat_inj.1 (by show c.toNat = 48; omega))
          go_wp2
          go_ret
          exact ⟨HXX.out, HB2.out⟩
  · have HH : Hid (tx = (D) ++ (if p = 0 then [] else 46 :: placesL p)) := by show _ = _; rw [HTX.out, if_neg hneg]; rfl
    clear HTX
    go_enter Tryz.func18, Tryz.ntmps18
    go_upto_region 5 with (first
      | (go_at_call 66; (with_reducible refine (HSZ.out _).mono ?_); rintro e w0 ⟨rfl, rfl⟩)
      | (go_at_call 67; (with_reducible refine (HD1.out _).mono ?_); rintro e w1 ⟨rfl, hb1⟩))
    have HB1 := Lib.hid hb1
    clear hb1 HD1 HSZ hneg
    have hHl : D.length ≤ 21 := by omega
    have hHs : (bsOf D).size = D.length := bs_size _
    clear hDs
    generalize D = H at *
    by_cases hp0 : p = 0
    · subst hp0
      have HX := Lib.hid (HR.out H (by rw [HH.out, if_pos rfl, List.append_nil]))
      go_wp2
      go_ret
      exact ⟨HX.out, HB1.out⟩
    · have hp0I : ((p : Int) == 0) = false := by simp; omega
      have hpne := HNE.out hp0
      have HX : Hid (∀ l, l = placesL p → Ending.returned (.string (bsOf (H ++ 46 :: l))) = .returned (.string (bsOf tx))) := fun l h => HR.out _ (by rw [HH.out, if_neg hp0, h])
      have hd1 : bsOf H ++ (⟨#[46]⟩ : ByteArray) = bsOf (H ++ [46]) := bs_cat H [46]
      have hd2 : (bsOf (H ++ [46])).size = H.length + 1 := by rw [bs_size, List.length_append]; rfl
      have hd3 : (⟨#[46]⟩ : ByteArray).size = 1 := rfl
      clear HH hp0
      go_wp2_with (go_at_call 67; (with_reducible refine (HD2.out _).mono ?_); rintro e w2 ⟨rfl, hb2⟩)
      have HB2 := Lib.hid (HB1.out.trans (hb2.mono HB1.out.size))
      clear hb2 HB1 HD2
      go_loop [6] (fun s => ∃ l : List UInt8, s = .string (bsOf l) ∧ Hid (Lib.trimRightB l 48 = placesL p ∧ l.length ≤ 6)) (fun s => (match s with | .string b => b.size | _ => 0))
      case atStart => exact ⟨Z, rfl, HZ6.out.2, by rw [HZ6.out.1]; decide⟩
      case round =>
        obtain ⟨l, rfl, HI⟩ := hrel
        have hl0 : 0 < l.length := by
          rcases Nat.eq_zero_or_pos l.length with h | h
          · obtain rfl := List.eq_nil_of_length_eq_zero h
            exact absurd HI.out.1.symm hpne
          · exact h
        obtain ⟨k, hk⟩ : ∃ k, k + 1 = l.length := ⟨l.length - 1, by omega⟩
        have hl6 := HI.out.2
        have hls := bs_size l
        rw [← hk] at hls hl6
        have HLA := Lib.hid (@trim_last l k (by omega) hk)
        have HLN := Lib.hid (@trim_none l k (by omega) hk)
        have hx := bs_get2 l k (by omega)
        have HK := Lib.hid hk
        clear hl0 hk
        by_cases hz : l[k]?.getD 0 = 48
        · rw [hz] at hx
          have ht := bs_take2 l k
          have HI2 : Hid (Lib.trimRightB (l.take k) 48 = placesL p ∧ (l.take k).length ≤ 6) := ⟨(HLA.out hz).trans HI.out.1, by rw [List.length_take]; omega⟩
          have hts : (bsOf (l.take k)).size = k := by rw [bs_size, List.length_take, ← HK.out]; omega
          clear hz HLA HLN HI
          go_wp2
          go_round
          case rel => exact ⟨l.take k, by go_num, HI2.out⟩
          case measure => simp [hts, hls]
        · have HPL : Hid (l = placesL p) := (HLN.out hz).symm.trans HI.out.1
          have hne : (l[k]?.getD 0 == 48) = false := by simpa using hz
          have he1 : bsOf (H ++ [46]) ++ bsOf l = bsOf (H ++ 46 :: l) := by rw [bs_cat, List.append_assoc]; rfl
          have he2 : (bsOf (H ++ 46 :: l)).size = H.length + 1 + (k + 1) := by rw [bs_size, List.length_append, List.length_cons, ← HK.out]; omega
          have HXX := HX.out l HPL.out
          have HXX := Lib.hid HXX
          clear HLA HLN HI HX
          generalize l[k]?.getD 0 = c at *
          have hcT : ((c.toNat : Int) == 48) = false := by
            rw [beq_eq_false_iff_ne]
            exact fun h => hz (UInt8.toNat_inj.1 (by show c.toNat = 48; omega))
          go_wp2
          go_ret
          exact ⟨HXX.out, HB2.out⟩

end Go.Proofs.YtocnkjnlmciojaaGreatDoor.De
