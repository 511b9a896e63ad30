/-
  The reference's valid and wide values.
-/
import Derived.Test.YtocnkjnlmciojaaGreatDoorVlWide
import Derived.Test.YtocnkjnlmciojaaGreatDoorVlRef2
namespace Go.Proofs.YtocnkjnlmciojaaGreatDoor
open Go Go.RowKit Go.Shelf Go.ChangeShapes Go.WideShapes Go.ChangeAt

set_option maxRecDepth 100000 in
set_option maxHeartbeats 1000000 in
theorem graphic_any (s : List UInt8) (hs : s.length ≤ 1048576) (w : World) : Calls Tryz.prog 89 #[.string (bsOf s)] w fun e w' => e = .returned (.bool (graphB s)) ∧ Below w.heap.size w w' := by
  have HS := Lib.hid (bs_size s)
  have HAS := Lib.hid (bs_get s)
  obtain ⟨S, hS⟩ : ∃ S, bsOf s = S := ⟨_, rfl⟩
  rw [hS] at HS HAS
  rw [hS]
  have hs1 : S.size ≤ 1048576 := by rw [HS.out]; exact hs
  clear hS hs
  go_enter Tryz.func89, Tryz.ntmps89
  go_wp2
  go_loop [3] (fun i => ∃ k : Nat, k ≤ S.size ∧ i = .int .i64 k ∧ Hid (∀ j, j < k → 32 ≤ (s[j]?.getD 0).toNat ∧ (s[j]?.getD 0).toNat ≤ 126)) (fun i => S.size - (intOf i).toNat)
  case atStart => exact ⟨0, Nat.zero_le _, rfl, fun j h => by omega⟩
  case round =>
    obtain ⟨k, hk, rfl, HE⟩ := hrel
    by_cases hlt : k < S.size
    · have hx := HAS.out k hlt
      have hkI : (k : Int) < (S.size : Int) := by omega
      by_cases he : 32 ≤ (s[k]?.getD 0).toNat ∧ (s[k]?.getD 0).toNat ≤ 126
      · have HE2 : Hid (∀ j, j < k + 1 → 32 ≤ (s[j]?.getD 0).toNat ∧ (s[j]?.getD 0).toNat ≤ 126) := fun j hj => by
          by_cases h : j = k
          · rw [h]; exact he
          · exact HE.out j (by omega)
        obtain ⟨he1, he2⟩ := he
        generalize s[k]?.getD 0 = x at *
        have h1 : ¬ ((x.toNat : Int) < 32) := by omega
        have h2 : ¬ (126 < (x.toNat : Int)) := by omega
        go_wp2
        go_round
        case rel => exact ⟨k + 1, by omega, by go_num, HE2⟩
        case measure => simp [intOf]; omega
      · have HT := Lib.hid (graph_not (by rw [← HS.out]; exact hlt) he)
        generalize s[k]?.getD 0 = x at *
        by_cases he1 : 32 ≤ x.toNat
        · have h1 : ¬ ((x.toNat : Int) < 32) := by omega
          have h2 : 126 < (x.toNat : Int) := by omega
          clear he
          go_wp2
          go_ret
          exact ⟨ret_bool HT.out.symm, Below.self _⟩
        · have h1 : (x.toNat : Int) < 32 := by omega
          clear he
          go_wp2
          go_ret
          exact ⟨ret_bool HT.out.symm, Below.self _⟩
    · obtain rfl : k = S.size := by omega
      have HT := Lib.hid (graph_all (by rw [← HS.out]; exact HE.out))
      have hm : ¬ ((S.size : Int) < (S.size : Int)) := Int.lt_irrefl _
      go_wp2
      go_ret
      exact ⟨ret_bool HT.out.symm, Below.self _⟩

set_option maxRecDepth 100000 in
set_option maxHeartbeats 1000000 in
theorem rnumber_any (k i m : Int) (s : List UInt8) (_hi : I64 i) (hm : 0 ≤ m ∧ m ≤ 9223372036854775807) (w : World) : Calls Tryz.prog 90 #[.agg #[.int .i64 k, .int .i64 i, .string (bsOf s)], .int .i64 m] w fun e w' => e = .returned (.bool (decide (k = 2 ∧ s = []) && numB m i)) ∧ Below w.heap.size w w' := by
  have hbl := bs_list s
  have hb0 : (⟨#[]⟩ : ByteArray).toList = [] := bs_list []
  have n1 : wrap64 (-m) = -m := by unfold wrap64; omega
  have n2 : IntKind.i64.wrap (-m) = -m := by rw [IntKind.wrap_i64]; omega
  have HB0 : Hid (Below w.heap.size w (w.alloc (.cells #[.int .i64 k, .int .i64 i, .string (bsOf s)] 45))) := (Below.self w).alloc (Nat.le_refl _) _
  clear hm
  by_cases h2 : k = 2
  · subst h2
    rcases s with _ | ⟨c, r⟩
    · by_cases hl : -m ≤ i
      · by_cases hh : i ≤ m
        · have HV : Hid ((decide ((2 : Int) = 2 ∧ ([] : List UInt8) = []) && numB m i) = true) := by show _ = _; rw [numB_true hl hh]; rfl
          go_enter Tryz.func90, Tryz.ntmps90
          go_wp2
          go_ret
          exact ⟨ret_bool HV.out.symm, HB0.out⟩
        · have HV : Hid ((decide ((2 : Int) = 2 ∧ ([] : List UInt8) = []) && numB m i) = false) := by show _ = _; rw [numB_hi hh]; rfl
          go_enter Tryz.func90, Tryz.ntmps90
          go_wp2
          go_ret
          exact ⟨ret_bool HV.out.symm, HB0.out⟩
      · have HV : Hid ((decide ((2 : Int) = 2 ∧ ([] : List UInt8) = []) && numB m i) = false) := by show _ = _; rw [numB_lo hl]; rfl
        go_enter Tryz.func90, Tryz.ntmps90
        go_wp2
        go_ret
        exact ⟨ret_bool HV.out.symm, HB0.out⟩
    · have HV : Hid ((decide ((2 : Int) = 2 ∧ (c :: r) = []) && numB m i) = false) := by show _ = _; simp
      clear n1 n2
      go_enter Tryz.func90, Tryz.ntmps90
      go_wp2
      go_ret
      exact ⟨ret_bool HV.out.symm, HB0.out⟩
  · have HV : Hid ((decide (k = 2 ∧ s = []) && numB m i) = false) := by show _ = _; simp [h2]
    have e2 : (k == 2) = false := by simpa using h2
    clear n1 n2
    go_enter Tryz.func90, Tryz.ntmps90
    go_wp2
    go_ret
    exact ⟨ret_bool HV.out.symm, HB0.out⟩

set_option maxRecDepth 100000 in
set_option maxHeartbeats 1000000 in
theorem rvalid0 (i : Int) (s : List UInt8) (w : World) : Calls Tryz.prog 31 #[.agg #[.int .i64 0, .int .i64 i, .string (bsOf s)]] w fun e w' => e = .returned (.bool (vldV ⟨0, i, s⟩)) ∧ Below w.heap.size w w' := by
  have hbl := bs_list s
  have hb0 : (⟨#[]⟩ : ByteArray).toList = [] := bs_list []
  by_cases h0 : i = 0
  · subst h0
    rcases s with _ | ⟨c, r⟩
    · go_enter Tryz.func31, Tryz.ntmps31
      go_wp2
      go_ret
      exact ⟨rfl, (Below.refl _ _).alloc (Nat.le_refl _) _⟩
    · have HV : Hid (vldV ⟨0, 0, c :: r⟩ = false) := by show _ = _; rw [vld0]; simp
      go_enter Tryz.func31, Tryz.ntmps31
      go_wp2
      go_ret
      exact ⟨ret_bool HV.out.symm, (Below.refl _ _).alloc (Nat.le_refl _) _⟩
  · have HV : Hid (vldV ⟨0, i, s⟩ = false) := by show _ = _; rw [vld0]; simp [h0]
    have hi : (i == 0) = false := by simpa using h0
    go_enter Tryz.func31, Tryz.ntmps31
    go_wp2
    go_ret
    exact ⟨ret_bool HV.out.symm, (Below.refl _ _).alloc (Nat.le_refl _) _⟩

set_option maxRecDepth 100000 in
set_option maxHeartbeats 1000000 in
theorem rvalid1 (i : Int) (s : List UInt8) (w : World) : Calls Tryz.prog 31 #[.agg #[.int .i64 1, .int .i64 i, .string (bsOf s)]] w fun e w' => e = .returned (.bool (vldV ⟨1, i, s⟩)) ∧ Below w.heap.size w w' := by
  have hbl := bs_list s
  have hb0 : (⟨#[]⟩ : ByteArray).toList = [] := bs_list []
  have hi01 : i = 0 ∨ i = 1 ∨ (i ≠ 0 ∧ i ≠ 1) := by omega
  rcases hi01 with h | h | ⟨h, h'⟩
  · subst h
    rcases s with _ | ⟨c, r⟩
    · go_enter Tryz.func31, Tryz.ntmps31
      go_wp2
      go_ret
      exact ⟨rfl, (Below.refl _ _).alloc (Nat.le_refl _) _⟩
    · have HV : Hid (vldV ⟨1, 0, c :: r⟩ = false) := by show _ = _; rw [vld1]; simp
      go_enter Tryz.func31, Tryz.ntmps31
      go_wp2
      go_ret
      exact ⟨ret_bool HV.out.symm, (Below.refl _ _).alloc (Nat.le_refl _) _⟩
  · subst h
    rcases s with _ | ⟨c, r⟩
    · go_enter Tryz.func31, Tryz.ntmps31
      go_wp2
      go_ret
      exact ⟨rfl, (Below.refl _ _).alloc (Nat.le_refl _) _⟩
    · have HV : Hid (vldV ⟨1, 1, c :: r⟩ = false) := by show _ = _; rw [vld1]; simp
      go_enter Tryz.func31, Tryz.ntmps31
      go_wp2
      go_ret
      exact ⟨ret_bool HV.out.symm, (Below.refl _ _).alloc (Nat.le_refl _) _⟩
  · have h0 : (i == 0) = false := by simpa using h
    have h1 : (i == 1) = false := by simpa using h'
    have HV : Hid (vldV ⟨1, i, s⟩ = false) := by show _ = _; rw [vld1]; simp [h, h']
    clear h h'
    go_enter Tryz.func31, Tryz.ntmps31
    go_wp2
    go_ret
    exact ⟨ret_bool HV.out.symm, (Below.refl _ _).alloc (Nat.le_refl _) _⟩

set_option maxRecDepth 100000 in
set_option maxHeartbeats 1000000 in
theorem rvalid3 (i : Int) (s : List UInt8) (hs : s.length ≤ 1048576) (w : World) : Calls Tryz.prog 31 #[.agg #[.int .i64 3, .int .i64 i, .string (bsOf s)]] w fun e w' => e = .returned (.bool (vldV ⟨3, i, s⟩)) ∧ Below w.heap.size w w' := by
  have HV : Hid (vldV ⟨3, i, s⟩ = (decide (i = 0) && (decide (s.length ≤ 40) && graphB s))) := vld3 i s
  have HG := Lib.hid (graphic_any s hs (w.alloc (.cells #[.int .i64 3, .int .i64 i, .string (bsOf s)] 45)))
  have HB0 : Hid (Below w.heap.size w (w.alloc (.cells #[.int .i64 3, .int .i64 i, .string (bsOf s)] 45))) := (Below.self w).alloc (Nat.le_refl _) _
  have hsz := bs_size s
  by_cases h0 : i = 0
  · subst h0
    by_cases h40 : s.length ≤ 40
    · have HW : Hid (vldV ⟨3, 0, s⟩ = graphB s) := by show _ = _; rw [HV.out, decide_eq_true h40]; simp
      have h4I : ((s.length : Nat) : Int) ≤ 40 := by omega
      generalize vldV ⟨3, 0, s⟩ = bv at *
      generalize graphB s = bg at *
      go_enter Tryz.func31, Tryz.ntmps31
      go_wp2_with fail
      refine HG.out.mono ?_
      rintro e w1 ⟨rfl, hb⟩
      have HB1 : Hid (Below w.heap.size w w1) := HB0.out.trans (hb.mono HB0.out.size)
      clear hb
      go_wp2
      go_ret
      exact ⟨ret_bool HW.out.symm, HB1.out⟩
    · have HW : Hid (vldV ⟨3, 0, s⟩ = false) := by show _ = _; rw [HV.out, decide_eq_false h40]; simp
      have h4I : ¬ ((s.length : Nat) : Int) ≤ 40 := by omega
      go_enter Tryz.func31, Tryz.ntmps31
      go_wp2
      go_ret
      exact ⟨ret_bool HW.out.symm, HB0.out⟩
  · have h1 : (i == 0) = false := by simpa using h0
    have HW : Hid (vldV ⟨3, i, s⟩ = false) := by show _ = _; rw [HV.out]; simp [h0]
    go_enter Tryz.func31, Tryz.ntmps31
    go_wp2
    go_ret
    exact ⟨ret_bool HW.out.symm, HB0.out⟩

set_option maxRecDepth 100000 in
set_option maxHeartbeats 1000000 in
theorem rvalid9 (k i : Int) (s : List UInt8) (hi : I64 i) (h0 : k ≠ 0) (h1 : k ≠ 1) (h3 : k ≠ 3) (w : World) : Calls Tryz.prog 31 #[.agg #[.int .i64 k, .int .i64 i, .string (bsOf s)]] w fun e w' => e = .returned (.bool (vldV ⟨k, i, s⟩)) ∧ Below w.heap.size w w' := by
  have HV : Hid (vldV ⟨k, i, s⟩ = (decide (k = 2 ∧ s = []) && numB 1000000000000000 i)) := by
    show _ = _
    by_cases h2 : k = 2
    · subst h2; rw [vld2]; simp
    · rw [vld9 i s h0 h1 h2 h3]; simp [h2]
  have HG := Lib.hid (rnumber_any k i 1000000000000000 s hi ⟨by decide, by decide⟩ (w.alloc (.cells #[.int .i64 k, .int .i64 i, .string (bsOf s)] 45)))
  have HB0 : Hid (Below w.heap.size w (w.alloc (.cells #[.int .i64 k, .int .i64 i, .string (bsOf s)] 45))) := (Below.self w).alloc (Nat.le_refl _) _
  have e0 : (k == 0) = false := by simpa using h0
  have e1 : (k == 1) = false := by simpa using h1
  have e3 : (k == 3) = false := by simpa using h3
  generalize vldV ⟨k, i, s⟩ = bv at *
  generalize (decide (k = 2 ∧ s = []) && numB 1000000000000000 i) = bg at *
  clear h0 h1 h3 hi
  go_enter Tryz.func31, Tryz.ntmps31
  go_wp2_with fail
  refine HG.out.mono ?_
  rintro e w1 ⟨rfl, hb⟩
  have HB1 : Hid (Below w.heap.size w w1) := HB0.out.trans (hb.mono HB0.out.size)
  clear hb
  go_wp2
  go_ret
  exact ⟨ret_bool HV.out.symm, HB1.out⟩

theorem rvalid_any (v : Vl) (hv : v.Ok) (w : World) : Calls Tryz.prog 31 #[encV v] w fun e w' => e = .returned (.bool (vldV v)) ∧ Below w.heap.size w w' := by
  obtain ⟨k, i, s⟩ := v
  by_cases h0 : k = 0
  · subst h0; exact rvalid0 i s w
  · by_cases h1 : k = 1
    · subst h1; exact rvalid1 i s w
    · by_cases h3 : k = 3
      · subst h3; exact rvalid3 i s hv.s w
      · exact rvalid9 k i s hv.i h0 h1 h3 w

set_option maxRecDepth 100000 in
set_option maxHeartbeats 1000000 in
theorem rwide_any (v : Vl) (hv : v.Ok) (w : World) : Calls Tryz.prog 33 #[encV v] w fun e w' => e = .returned (.bool (widV v)) ∧ Below w.heap.size w w' := by
  have HA : Hid (∀ W : World, Calls Tryz.prog 31 #[encV v] W fun e w' => e = .returned (.bool (vldV v)) ∧ Below W.heap.size W w') := fun W => rvalid_any v hv W
  obtain ⟨k, i, s⟩ := v
  have HN : Hid (∀ W : World, Calls Tryz.prog 90 #[.agg #[.int .i64 k, .int .i64 i, .string (bsOf s)], .int .i64 4000000000000000000] W fun e w' => e = .returned (.bool (decide (k = 2 ∧ s = []) && numB 4000000000000000000 i)) ∧ Below W.heap.size W w') := fun W => rnumber_any k i 4000000000000000000 s hv.i ⟨by decide, by decide⟩ W
  clear hv
  unfold encV at HA ⊢
  dsimp only at HA ⊢
  have HWD : Hid (widV ⟨k, i, s⟩ = (vldV ⟨k, i, s⟩ || (decide (k = 2 ∧ s = []) && numB 4000000000000000000 i))) := rfl
  generalize widV ⟨k, i, s⟩ = bw at *
  generalize (decide (k = 2 ∧ s = []) && numB 4000000000000000000 i) = bn at *
  generalize vldV ⟨k, i, s⟩ = bv at *
  have HB0 := Lib.hid ((Below.refl w.heap.size w).alloc (Nat.le_refl _) (.cells #[.int .i64 k, .int .i64 i, .string (bsOf s)] 45))
  have HT := Lib.hid (Trio.new w 45 (.int .i64 k) (.int .i64 i) (.string (bsOf s)))
  go_enter Tryz.func33, Tryz.ntmps33
  go_wp2_with fail
  refine (HA.out _).mono ?_
  rintro e w1 ⟨rfl, hb⟩
  have HB1 : Hid (Below w.heap.size w w1) := HB0.out.trans (hb.mono HB0.out.size)
  have hT := HT.out.below hb HT.out.lt
  have c0 := hT.c0
  have c1 := hT.c1
  have c2 := hT.c2
  clear hb hT
  cases bv with
  | true =>
    have HW : Hid (bw = true) := HWD.out
    go_wp2
    go_ret
    exact ⟨ret_bool HW.out.symm, HB1.out⟩
  | false =>
    have HW : Hid (bw = bn) := by show _ = _; rw [HWD.out]; simp
    clear HWD
    go_wp2_with fail
    refine (HN.out _).mono ?_
    rintro e w2 ⟨rfl, hb⟩
    have HB2 : Hid (Below w.heap.size w w2) := HB1.out.trans (hb.mono HB1.out.size)
    clear hb
    go_wp2
    go_ret
    exact ⟨ret_bool HW.out.symm, HB2.out⟩

end Go.Proofs.YtocnkjnlmciojaaGreatDoor
