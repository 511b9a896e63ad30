/-
  The reference: what two strings share at their beginnings; is a list a dictionary?
-/
import Derived.Test.YtdcapmbgnoahpaaDcValid
import Derived.Test.YtdcapmbgnoahpaaDcShared
namespace Go.Proofs.Ytdcapmbgnoahpaa
open Go Go.RowKit Go.Shelf Go.ChangeShapes Go.WideShapes Go.ChangeAt

set_option maxRecDepth 100000 in
set_option maxHeartbeats 2000000 in
theorem sharedR_any (s t : List UInt8) (hs : s.length ≤ 140737488351232) (ht : t.length ≤ 140737488351232) (W : World) :
    Calls Try.prog 46 #[.string (bsOf s), .string (bsOf t)] W fun e w' => e = .returned (.int .i64 (shN s t : Nat)) ∧ ∃ n, w' = W.drewN n := by
  have HS := Lib.hid (bs_size s)
  have HT := Lib.hid (bs_size t)
  have HAS := Lib.hid (bs_at s)
  have HAT := Lib.hid (bs_at t)
  obtain ⟨S, hS⟩ : ∃ S, bsOf s = S := ⟨_, rfl⟩
  obtain ⟨T, hT⟩ : ∃ T, bsOf t = T := ⟨_, rfl⟩
  rw [hS] at HS HAS
  rw [hT] at HT HAT
  rw [hS, hT]
  have hs1 : S.size ≤ 140737488351232 := by rw [HS.out]; exact hs
  have ht1 : T.size ≤ 140737488351232 := by rw [HT.out]; exact ht
  clear hS hT hs ht
  go_enter Try.func46, Try.ntmps46
  go_wp2
  go_loopw [5] (fun i wr => ∃ k : Nat, k ≤ S.size ∧ k ≤ T.size ∧ i = .int .i64 k ∧ Hid (∀ j, j < k → s[j]?.getD 0 = t[j]?.getD 0) ∧ ∃ n, wr = W.drewN n) (fun i _ => S.size - (intOf i).toNat)
  case atStart => exact ⟨0, Nat.zero_le _, Nat.zero_le _, rfl, fun j h => by omega, 0, rfl⟩
  case round =>
    obtain ⟨k, hk, hk', rfl, HE, n, rfl⟩ := hrel
    by_cases hlt : k < S.size
    · have hd1 : decide (k < S.size) = true := decide_eq_true hlt
      have hd1' : decide ((k : Int) < (S.size : Int)) = true := decide_eq_true (by omega)
      by_cases hlt' : k < T.size
      · have hd2 : decide (k < T.size) = true := decide_eq_true hlt'
        have hd2' : decide ((k : Int) < (T.size : Int)) = true := decide_eq_true (by omega)
        have hx := HAS.out k hlt
        have hy := HAT.out k hlt'
        by_cases he : s[k]?.getD 0 = t[k]?.getD 0
        · have HE2 : Hid (∀ j, j < k + 1 → s[j]?.getD 0 = t[j]?.getD 0) := fun j hj => by
            by_cases h : j = k
            · rw [h]; exact he
            · exact HE.out j (by omega)
          rw [← he] at hy
          clear he
          generalize s[k]?.getD 0 = x at *
          go_wp2
          go_quiet (fail)
          go_wp2
          go_roundw
          case rel => exact ⟨k + 1, by omega, by omega, by go_num, HE2, _, rfl⟩
          case measure => simp [intOf]; omega
        · have HF : Hid (shN s t = k) := sh_at k s t (by rw [← HS.out]; exact hk) (by rw [← HT.out]; exact hk') HE.out (fun _ _ => he)
          have hne : ((s[k]?.getD 0).toNat == (t[k]?.getD 0).toNat) = false := by
            rw [beq_eq_false_iff_ne]; exact fun h => he (UInt8.toNat_inj.1 h)
          have hne2 : (((s[k]?.getD 0).toNat : Int) == ((t[k]?.getD 0).toNat : Int)) = false := by
            rw [beq_eq_false_iff_ne]; exact fun h => he (UInt8.toNat_inj.1 (by omega))
          clear he
          generalize s[k]?.getD 0 = x at *
          generalize t[k]?.getD 0 = y at *
          go_wp2
          go_quiet (fail)
          go_wp2
          go_ret
          exact ⟨ret_int (by rw [HF.out]), _, drewN_drewN' _ _ _⟩
      · have HF : Hid (shN s t = k) := sh_at k s t (by rw [← HS.out]; exact hk) (by rw [← HT.out]; exact hk') HE.out (fun _ h => absurd h (by rw [← HT.out]; exact hlt'))
        have hd : decide (k < T.size) = false := decide_eq_false hlt'
        have hd2 : decide ((k : Int) < (T.size : Int)) = false := decide_eq_false (by omega)
        go_wp2
        go_quiet (fail)
        go_wp2
        go_ret
        exact ⟨ret_int (by rw [HF.out]), _, drewN_drewN' _ _ _⟩
    · have HF : Hid (shN s t = k) := sh_at k s t (by rw [← HS.out]; exact hk) (by rw [← HT.out]; exact hk') HE.out (fun h _ => absurd h (by rw [← HS.out]; exact hlt))
      have hd : decide (k < S.size) = false := decide_eq_false hlt
      have hd2 : decide ((k : Int) < (S.size : Int)) = false := decide_eq_false (by omega)
      go_wp2
      go_quiet (fail)
      go_wp2
      go_ret
      exact ⟨ret_int (by rw [HF.out]), _, drewN_drewN' _ _ _⟩

set_option maxRecDepth 100000 in
set_option maxHeartbeats 2000000 in
theorem validR_some {K : Nat → Prop} {a : Option Addr} {len cap : Nat} {ss : List (List UInt8)} (h0 : 0 < len) {W : World} (hR : RdS K W a len cap ss) :
    Calls Try.prog 23 #[.slice a len cap] W fun e w' => e = .returned (.bool (vlB ss)) ∧ ∃ n, w' = W.drewN n := by
  have hl := hR.hl
  have hfit := hR.fit
  have hsm := hR.small
  obtain ⟨b, off, rfl, _, hb, hc⟩ := hR.cells h0
  have HC := Lib.hid hc
  have HW := Lib.hid hR.wideAt
  have HL := Lib.hid hl
  clear hc hl hR
  go_enter Try.func23, Try.ntmps23
  go_wp2
  go_loopw [3] (fun i wr => ∃ k : Nat, k ≤ len ∧ i = .int .i64 k ∧ Hid (GoodTo ss k) ∧ ∃ n, wr = W.drewN n) (fun i _ => len - (intOf i).toNat)
  case atStart => exact ⟨0, Nat.zero_le _, rfl, ⟨fun j hj => by omega, fun j _ hj => by omega⟩, 0, rfl⟩
  case round =>
    obtain ⟨k, hk, rfl, HG, n, rfl⟩ := hrel
    by_cases hlt : k < len
    · have hcx := HC.out k hlt
      obtain ⟨x, hx⟩ : ∃ x, ss[k]?.getD [] = x := ⟨_, rfl⟩
      rw [hx] at hcx
      have HX := Lib.hid hx
      clear hx
      by_cases h255 : 255 < x.length
      · have HS := Lib.hid (vl_bad (d := ss) (k := k) (by rw [← HL.out]; exact hlt) (.inl (by rw [HX.out]; exact h255)))
        have hsz : decide (255 < (bsOf x).size) = true := by rw [bs_size]; exact decide_eq_true h255
        have hsz' : decide ((255 : Int) < ((bsOf x).size : Int)) = true := by rw [bs_size]; exact decide_eq_true (by omega)
        clear h255
        generalize bsOf x = s at *
        go_wp2
        go_quiet (fail)
        go_wp2
        go_ret
        exact ⟨ret_bool HS.out.symm, _, drewN_drewN' _ _ _⟩
      · have hsz : decide (255 < (bsOf x).size) = false := by rw [bs_size]; exact decide_eq_false h255
        have hsz' : decide ((255 : Int) < ((bsOf x).size : Int)) = false := by rw [bs_size]; exact decide_eq_false (by omega)
        have H255 : Hid (x.length ≤ 255) := by show _ ≤ _; omega
        clear h255
        by_cases hk0 : k = 0
        · subst hk0
          simp only [Nat.add_zero] at hcx
          have HG2 : Hid (GoodTo ss (0 + 1)) := HG.out.more (by rw [HX.out]; exact H255.out) (fun h => by omega)
          have hg0 : decide ((0 : Int) < 0) = false := rfl
          generalize bsOf x = s at *
          go_wp2
          go_quiet (fail)
          go_wp2
          go_roundw
          case rel => exact ⟨0 + 1, by omega, by go_num, HG2, _, rfl⟩
          case measure => simp [intOf]; omega
        · obtain ⟨m, hm⟩ : ∃ m, k - 1 = m := ⟨_, rfl⟩
          have hg0 : decide ((0 : Int) < (k : Int)) = true := decide_eq_true (by omega)
          have hg1 : decide (0 < k) = true := decide_eq_true (by omega)
          have hg2 : 0 < k := by omega
          have hg3 : (0 : Int) < (k : Int) := by omega
          have hw : IntKind.i64.wrap ((k : Int) - 1) = (m : Int) := by rw [IntKind.wrap_i64]; omega
          have hml : (m : Int) < (len : Int) := by omega
          have hcy := HC.out m (by omega)
          obtain ⟨y, hy⟩ : ∃ y, ss[m]?.getD [] = y := ⟨_, rfl⟩
          rw [hy] at hcy
          have HY := Lib.hid hy
          have HM := Lib.hid hm
          clear hy hm
          by_cases hxy : y < x
          · have HG2 : Hid (GoodTo ss (k + 1)) := HG.out.more (by rw [HX.out]; exact H255.out) (fun _ => by rw [HX.out, HM.out, HY.out]; exact hxy)
            have e1 : Op.bytesLess (bsOf y).toList (bsOf x).toList = true := by rw [bs_less]; exact decide_eq_true hxy
            have e2 : Op.bytesLess (bsOf x).toList (bsOf y).toList = false := by rw [bs_less]; exact decide_eq_false (slt_asymm hxy)
            have e3 : ((bsOf y).toList == (bsOf x).toList) = false := by rw [bs_same]; exact decide_eq_false fun e => slt_irrefl y (by rw [← e] at hxy; exact hxy)
            have e4 : ((bsOf x).toList == (bsOf y).toList) = false := by rw [bs_same]; exact decide_eq_false fun e => slt_irrefl y (by rw [e] at hxy; exact hxy)
            clear hxy
            generalize bsOf x = s at *
            generalize bsOf y = t at *
            go_wp2
            go_quiet (fail)
            go_wp2
            go_roundw
            case rel => exact ⟨k + 1, by omega, by go_num, HG2, _, rfl⟩
            case measure => simp [intOf]; omega
          · have hle : x ≤ y := List.not_lt.1 hxy
            have HS := Lib.hid (vl_bad (d := ss) (k := k) (by rw [← HL.out]; exact hlt) (.inr ⟨by omega, by rw [HX.out, HM.out, HY.out]; exact hle⟩))
            have e0 : Op.bytesLess (bsOf y).toList (bsOf x).toList = false := by rw [bs_less]; exact decide_eq_false hxy
            have e1 : (Op.bytesLess (bsOf x).toList (bsOf y).toList || (bsOf x).toList == (bsOf y).toList) = true := by
              rw [bs_less, bs_same, Bool.or_eq_true, decide_eq_true_eq, decide_eq_true_eq]
              by_cases e : x = y
              · exact .inr e
              · exact .inl (slt_of_le hle e)
            have e2 : (Op.bytesLess (bsOf x).toList (bsOf y).toList || (bsOf y).toList == (bsOf x).toList) = true := by
              rw [bs_less, bs_same, Bool.or_eq_true, decide_eq_true_eq, decide_eq_true_eq]
              by_cases e : x = y
              · exact .inr e.symm
              · exact .inl (slt_of_le hle e)
            clear hxy hle
            generalize bsOf x = s at *
            generalize bsOf y = t at *
            go_wp2
            go_quiet (fail)
            go_wp2
            go_ret
            exact ⟨ret_bool HS.out.symm, _, drewN_drewN' _ _ _⟩
    · obtain rfl : k = len := by omega
      by_cases hlong : 4096 < k
      · have HS := Lib.hid (vl_long (d := ss) (by rw [← HL.out]; exact hlong))
        have hd : decide (k ≤ 4096) = false := decide_eq_false (by omega)
        have hd' : decide ((k : Int) ≤ 4096) = false := decide_eq_false (by omega)
        go_wp2
        go_ret
        exact ⟨ret_bool HS.out.symm, _, rfl⟩
      · have HS := Lib.hid (vl_good (d := ss) (by rw [← HL.out]; omega) (fun j hj => HG.out.1 j (by rw [HL.out]; exact hj)) (fun j h hj => HG.out.2 j h (by rw [HL.out]; exact hj)))
        have hd : decide (k ≤ 4096) = true := decide_eq_true (by omega)
        have hd' : decide ((k : Int) ≤ 4096) = true := decide_eq_true (by omega)
        go_wp2
        go_ret
        exact ⟨ret_bool HS.out.symm, _, rfl⟩

set_option maxRecDepth 100000 in
set_option maxHeartbeats 1000000 in
theorem validR_none (a : Option Addr) (cap : Nat) (W : World) :
    Calls Try.prog 23 #[.slice a 0 cap] W fun e w' => e = .returned (.bool (vlB [])) ∧ ∃ n, w' = W.drewN n := by
  have HS : Hid (vlB [] = true) := by show vlB [] = true; decide
  go_enter Try.func23, Try.ntmps23
  go_wp2
  go_loop [3] (fun i => i = .int .i64 0) (fun _ => 0)
  case atStart => exact rfl
  case round =>
    obtain rfl := hrel
    go_wp2
    go_ret
    exact ⟨ret_bool HS.out.symm, 0, rfl⟩

theorem validR_any {K : Nat → Prop} {a : Option Addr} {len cap : Nat} {ss : List (List UInt8)} {W : World} (hR : RdS K W a len cap ss) :
    Calls Try.prog 23 #[.slice a len cap] W fun e w' => e = .returned (.bool (vlB ss)) ∧ ∃ n, w' = W.drewN n := by
  by_cases h0 : 0 < len
  · exact validR_some h0 hR
  · obtain rfl : len = 0 := by omega
    obtain rfl : ss = [] := List.eq_nil_of_length_eq_zero hR.hl.symm
    exact validR_none a cap W

end Go.Proofs.Ytdcapmbgnoahpaa
