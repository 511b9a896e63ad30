/-
  How many bytes two strings share at their beginnings.
-/
import Derived.Test.YtdcapmbgnoahpaaDcBase
import Derived.BigRegion
namespace Go.Proofs.Ytdcapmbgnoahpaa
open Go Go.RowKit Go.Shelf Go.ChangeShapes Go.WideShapes Go.ChangeAt

theorem bs_at (l : List UInt8) (k : Nat) (h : k < (bsOf l).size) : (bsOf l)[k]'h = l[k]?.getD 0 := by
  have h2 : k < l.length := by rw [← bs_size l]; exact h
  rw [List.getElem?_eq_getElem h2]
  rfl
theorem drewN_drewN' (W : World) (n m : Nat) : (W.drewN n).drewN m = W.drewN (n + m) := by
  simp [World.drewN, Nat.add_assoc]

set_option maxRecDepth 100000 in
set_option maxHeartbeats 2000000 in
theorem shared_any (s t : List UInt8) (hs : s.length ≤ 140737488351232) (ht : t.length ≤ 140737488351232) (W : World) :
    Calls Try.prog 80 #[.string (bsOf s), .string (bsOf t)] W fun e w' => e = .returned (.int .i64 (shN s t : Nat)) ∧ ∃ n, w' = W.drewN n := by
  have HS := Lib.hid (bs_size s)
  have HT := Lib.hid (bs_size t)
  have HAS := Lib.hid (bs_at s)
  have HAT := Lib.hid (bs_at t)
  obtain ⟨S, hS⟩ : ∃ S, bsOf s = S := ⟨_, rfl⟩
  obtain ⟨T, hT⟩ : ∃ T, bsOf t = T := ⟨_, rfl⟩
  rw [hS] at HS HAS
  rw [hT] at HT HAT
  rw [hS, hT]
  have hs1 : S.size ≤ 140737488351232 := by rw [HS.out]; exact hs
  have ht1 : T.size ≤ 140737488351232 := by rw [HT.out]; exact ht
  clear hS hT hs ht
  go_enter Try.func80, Try.ntmps80
  go_wp2
  go_loopw [5] (fun i wr => ∃ k : Nat, k ≤ S.size ∧ k ≤ T.size ∧ i = .int .i64 k ∧ Hid (∀ j, j < k → s[j]?.getD 0 = t[j]?.getD 0) ∧ ∃ n, wr = W.drewN n) (fun i _ => S.size - (intOf i).toNat)
  case atStart => exact ⟨0, Nat.zero_le _, Nat.zero_le _, rfl, fun j h => by omega, 0, rfl⟩
  case round =>
    obtain ⟨k, hk, hk', rfl, HE, n, rfl⟩ := hrel
    by_cases hlt : k < S.size
    · by_cases hlt' : k < T.size
      · have hx := HAS.out k hlt
        have hy := HAT.out k hlt'
        by_cases he : s[k]?.getD 0 = t[k]?.getD 0
        · have HE2 : Hid (∀ j, j < k + 1 → s[j]?.getD 0 = t[j]?.getD 0) := fun j hj => by
            by_cases h : j = k
            · rw [h]; exact he
            · exact HE.out j (by omega)
          rw [← he] at hy
          clear he
          generalize s[k]?.getD 0 = x at *
          by_cases hm : T.size < S.size
          all_goals
            go_wp2
            go_quiet (fail)
            go_wp2
            go_roundw
            case rel => exact ⟨k + 1, by omega, by omega, by go_num, HE2, _, rfl⟩
            case measure => simp [intOf]; omega
        · have HF : Hid (shN s t = k) := sh_at k s t (by rw [← HS.out]; exact hk) (by rw [← HT.out]; exact hk') HE.out (fun _ _ => he)
          have hne : ((s[k]?.getD 0).toNat == (t[k]?.getD 0).toNat) = false := by
            rw [beq_eq_false_iff_ne]; exact fun h => he (UInt8.toNat_inj.1 h)
          have hne2 : (((s[k]?.getD 0).toNat : Int) == ((t[k]?.getD 0).toNat : Int)) = false := by
            rw [beq_eq_false_iff_ne]; exact fun h => he (UInt8.toNat_inj.1 (by omega))
          clear he
          generalize s[k]?.getD 0 = x at *
          generalize t[k]?.getD 0 = y at *
          by_cases hm : T.size < S.size
          all_goals
            go_wp2
            go_quiet (fail)
            go_wp2
            go_ret
            exact ⟨ret_int (by rw [HF.out]), _, drewN_drewN' _ _ _⟩
      · have HF : Hid (shN s t = k) := sh_at k s t (by rw [← HS.out]; exact hk) (by rw [← HT.out]; exact hk') HE.out (fun _ h => absurd h (by rw [← HT.out]; exact hlt'))
        have hm : T.size < S.size := by omega
        have hd : decide (k < T.size) = false := decide_eq_false hlt'
        have hd2 : decide ((k : Int) < (T.size : Int)) = false := decide_eq_false (by omega)
        go_wp2
        go_quiet (fail)
        go_wp2
        go_ret
        exact ⟨ret_int (by rw [HF.out]), _, drewN_drewN' _ _ _⟩
    · have HF : Hid (shN s t = k) := sh_at k s t (by rw [← HS.out]; exact hk) (by rw [← HT.out]; exact hk') HE.out (fun h _ => absurd h (by rw [← HS.out]; exact hlt))
      have hm : ¬ T.size < S.size := by omega
      have hd : decide (k < S.size) = false := decide_eq_false hlt
      have hd2 : decide ((k : Int) < (S.size : Int)) = false := decide_eq_false (by omega)
      go_wp2
      go_quiet (fail)
      go_wp2
      go_ret
      exact ⟨ret_int (by rw [HF.out]), _, drewN_drewN' _ _ _⟩

end Go.Proofs.Ytdcapmbgnoahpaa
