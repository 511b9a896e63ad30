/-
  The reference's order.
-/
import Derived.Test.YtmmdbacejdhdaaaGreatDoorVlList
namespace Go.Proofs.YtmmdbacejdhdaaaGreatDoor
open Go Go.RowKit Go.Shelf Go.ChangeShapes Go.WideShapes Go.ChangeAt

theorem bs_get (l : List UInt8) (k : Nat) (h : k < (bsOf l).size) : (bsOf l)[k]'h = l[k]?.getD 0 := by
  have h2 : k < l.length := by rw [← bs_size l]; exact h
  rw [List.getElem?_eq_getElem h2]
  rfl

theorem sign_any (a b : Int) (w : World) : Calls Tryz.prog 102 #[.int .i64 a, .int .i64 b] w fun e w' => e = .returned (.int .i64 (sgI a b)) ∧ Below w.heap.size w w' := by
  by_cases h1 : a < b
  · have HS : Hid (sgI a b = -1) := if_pos h1
    go_enter Tryz.func102, Tryz.ntmps102
    go_wp2
    go_ret
    exact ⟨ret_int HS.out.symm, Below.self _⟩
  · by_cases h2 : b < a
    · have HS : Hid (sgI a b = 1) := (if_neg h1).trans (if_pos h2)
      go_enter Tryz.func102, Tryz.ntmps102
      go_wp2
      go_ret
      exact ⟨ret_int HS.out.symm, Below.self _⟩
    · have HS : Hid (sgI a b = 0) := (if_neg h1).trans (if_neg h2)
      go_enter Tryz.func102, Tryz.ntmps102
      go_wp2
      go_ret
      exact ⟨ret_int HS.out.symm, Below.self _⟩

theorem sgS_cons (a b : UInt8) (x y : List UInt8) : sgS (a :: x) (b :: y) = if a = b then sgS x y else sgI a.toNat b.toNat := by
  unfold sgS sgI
  by_cases h : a = b
  · subst h
    rw [if_pos rfl]
    have e1 : (a :: x < a :: y) ↔ x < y := by rw [List.cons_lt_cons_iff]; simp
    have e2 : (a :: y < a :: x) ↔ y < x := by rw [List.cons_lt_cons_iff]; simp
    simp only [e1, e2]
  · rw [if_neg h]
    have e1 : (a :: x < b :: y) ↔ (a.toNat : Int) < (b.toNat : Int) := by rw [List.cons_lt_cons_iff]; simp [h, UInt8.lt_iff_toNat_lt]
    have e2 : (b :: y < a :: x) ↔ (b.toNat : Int) < (a.toNat : Int) := by rw [List.cons_lt_cons_iff]; simp [Ne.symm h, UInt8.lt_iff_toNat_lt]
    simp only [e1, e2]
theorem sgS_nil (y : List UInt8) : sgS [] y = sgI 0 y.length := by
  unfold sgS sgI
  cases y with
  | nil => rfl
  | cons b r => simp
theorem sgS_nil' (x : List UInt8) : sgS x [] = sgI x.length 0 := by
  unfold sgS sgI
  cases x with
  | nil => rfl
  | cons b r => simp; omega
theorem sgI_sub (a b c : Int) : sgI (a + c) (b + c) = sgI a b := by
  unfold sgI
  simp only [Int.add_lt_add_iff_right]
theorem drop8r {s : List UInt8} {k : Nat} (hk : k < s.length) : s.drop k = s[k]?.getD 0 :: s.drop (k + 1) := by
  rw [List.drop_eq_getElem_cons hk, List.getElem?_eq_getElem hk]; rfl
theorem sgS_same {x y : List UInt8} {k : Nat} (hx : k < x.length) (hy : k < y.length) (h : x[k]?.getD 0 = y[k]?.getD 0) : sgS (x.drop k) (y.drop k) = sgS (x.drop (k + 1)) (y.drop (k + 1)) := by
  rw [drop8r hx, drop8r hy, sgS_cons, if_pos h]
theorem sgS_other {x y : List UInt8} {k : Nat} (hx : k < x.length) (hy : k < y.length) (h : ¬ x[k]?.getD 0 = y[k]?.getD 0) : sgS (x.drop k) (y.drop k) = sgI (x[k]?.getD 0).toNat (y[k]?.getD 0).toNat := by
  rw [drop8r hx, drop8r hy, sgS_cons, if_neg h]
theorem sgS_over {x y : List UInt8} {k : Nat} (hx : k ≤ x.length) (hy : k ≤ y.length) (h : k = x.length ∨ k = y.length) : sgS (x.drop k) (y.drop k) = sgI x.length y.length := by
  rcases h with h | h
  · have e : x.drop k = [] := List.drop_eq_nil_of_le (by omega)
    rw [e, sgS_nil, List.length_drop, ← sgI_sub 0 _ (k : Int)]
    congr 1 <;> omega
  · have e : y.drop k = [] := List.drop_eq_nil_of_le (by omega)
    rw [e, sgS_nil', List.length_drop, ← sgI_sub _ 0 (k : Int)]
    congr 1 <;> omega

set_option maxRecDepth 100000 in
set_option maxHeartbeats 2000000 in
theorem strings_any (s t : List UInt8) (hs : s.length ≤ 1048576) (ht : t.length ≤ 1048576) (W : World) :
    Calls Tryz.prog 103 #[.string (bsOf s), .string (bsOf t)] W fun e w' => e = .returned (.int .i64 (sgS s t)) ∧ Below W.heap.size W w' := by
  have HS := Lib.hid (bs_size s)
  have HT := Lib.hid (bs_size t)
  have HAS := Lib.hid (bs_get s)
  have HAT := Lib.hid (bs_get t)
  have HE0 : Hid (∀ z, z = sgS s t → Ending.returned (.int .i64 z) = .returned (.int .i64 (sgS s t))) := fun z h => by rw [h]
  have HSG : Hid (∀ (a b : Int) (W : World), Calls Tryz.prog 102 #[.int .i64 a, .int .i64 b] W fun e w' => e = .returned (.int .i64 (sgI a b)) ∧ Below W.heap.size W w') := fun a b W => sign_any a b W
  obtain ⟨S, hS⟩ : ∃ S, bsOf s = S := ⟨_, rfl⟩
  obtain ⟨T, hT⟩ : ∃ T, bsOf t = T := ⟨_, rfl⟩
  rw [hS] at HS HAS
  rw [hT] at HT HAT
  rw [hS, hT]
  have hs1 : S.size ≤ 1048576 := by rw [HS.out]; exact hs
  have ht1 : T.size ≤ 1048576 := by rw [HT.out]; exact ht
  clear hS hT hs ht
  go_enter Tryz.func103, Tryz.ntmps103
  go_wp2
  go_loopw [5] (fun i wr => ∃ k : Nat, k ≤ S.size ∧ k ≤ T.size ∧ i = .int .i64 k ∧ Hid (sgS s t = sgS (s.drop k) (t.drop k)) ∧ Hid (Below W.heap.size W wr)) (fun i _ => S.size - (intOf i).toNat)
  case atStart => exact ⟨0, Nat.zero_le _, Nat.zero_le _, rfl, rfl, Below.self W⟩
  case round =>
    obtain ⟨k, hk, hk', rfl, HE, HB⟩ := hrel
    by_cases hlt : k < S.size
    · by_cases hlt' : k < T.size
      · have hx := HAS.out k hlt
        have hy := HAT.out k hlt'
        have hkI : (k : Int) < (S.size : Int) := by omega
        have hkI' : (k : Int) < (T.size : Int) := by omega
        by_cases he : s[k]?.getD 0 = t[k]?.getD 0
        · have HE2 : Hid (sgS s t = sgS (s.drop (k + 1)) (t.drop (k + 1))) := HE.out.trans (sgS_same (by rw [← HS.out]; exact hlt) (by rw [← HT.out]; exact hlt') he)
          rw [← he] at hy
          clear he
          generalize s[k]?.getD 0 = x at *
          go_wp2
          go_quiet (fail)
          go_wp2
          go_roundw
          case rel => exact ⟨k + 1, by omega, by omega, by go_num, HE2, below_drewN HB.out _⟩
          case measure => simp [intOf]; omega
        · have HR := Lib.hid (HE0.out _ (HE.out.trans (sgS_other (by rw [← HS.out]; exact hlt) (by rw [← HT.out]; exact hlt') he)).symm)
          have hne2 : (((s[k]?.getD 0).toNat : Int) == ((t[k]?.getD 0).toNat : Int)) = false := by
            rw [beq_eq_false_iff_ne]; exact fun h => he (UInt8.toNat_inj.1 (by omega))
          have hne : ((s[k]?.getD 0).toNat == (t[k]?.getD 0).toNat) = false := by
            rw [beq_eq_false_iff_ne]; exact fun h => he (UInt8.toNat_inj.1 h)
          clear he
          generalize s[k]?.getD 0 = x at *
          generalize t[k]?.getD 0 = y at *
          go_wp2
          go_quiet (fail)
          have hwx : IntKind.i64.wrap (x.toNat : Int) = (x.toNat : Int) := by have := x.toNat_lt; rw [IntKind.wrap_i64]; omega
          have hwy : IntKind.i64.wrap (y.toNat : Int) = (y.toNat : Int) := by have := y.toNat_lt; rw [IntKind.wrap_i64]; omega
          go_upto_region 5 with fail
          have HBN : Hid (Below W.heap.size W (wr.drewN nq)) := below_drewN HB.out nq
          generalize wr.drewN nq = V at *
          refine wp_region_quiet_below (by kernel_rfl) (by kernel_rfl) ?_
          repeat (go_big_quiet_step (first
            | (go_at_call 102; with_reducible exact Calls.regrown_of (HSG.out _ _ _))))
          refine wpQuiet_nil ?_
          intro _ hw'
          obtain ⟨⟨dq, osq⟩, hw''⟩ := hw'
          subst hw''
          have HBQ : Hid (Below W.heap.size W (Go.Sort.grow (redrawn V dq) osq)) := HBN.out.trans ((below_regrown V dq osq).mono HBN.out.size)
          generalize Go.Sort.grow (redrawn V dq) osq = WQ at *
          go_wp2
          go_ret
          exact ⟨HR.out, HBQ.out⟩
      · obtain rfl : k = T.size := by omega
        have HR := Lib.hid (HE0.out _ (HE.out.trans (sgS_over (by rw [← HS.out]; exact hk) (by rw [← HT.out]; exact hk') (.inr HT.out))).symm)
        rw [← HS.out, ← HT.out] at HR
        have hm : ¬ ((T.size : Int) < (T.size : Int)) := Int.lt_irrefl _
        go_wp2_with fail
        refine (HSG.out _ _ _).mono ?_
        rintro e w1 ⟨rfl, hb⟩
        have HB1 : Hid (Below W.heap.size W w1) := HB.out.trans (hb.mono HB.out.size)
        clear hb
        go_wp2
        go_ret
        exact ⟨HR.out, HB1.out⟩
    · obtain rfl : k = S.size := by omega
      have HR := Lib.hid (HE0.out _ (HE.out.trans (sgS_over (by rw [← HS.out]; exact hk) (by rw [← HT.out]; exact hk') (.inl HS.out))).symm)
      rw [← HS.out, ← HT.out] at HR
      go_wp2_with fail
      refine (HSG.out _ _ _).mono ?_
      rintro e w1 ⟨rfl, hb⟩
      have HB1 : Hid (Below W.heap.size W w1) := HB.out.trans (hb.mono HB.out.size)
      clear hb
      go_wp2
      go_ret
      exact ⟨HR.out, HB1.out⟩

end Go.Proofs.YtmmdbacejdhdaaaGreatDoor
