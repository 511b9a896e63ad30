/-
  Is a list a dictionary?
-/
import Derived.Test.YtdcapmbgnoahpaaDcBase
namespace Go.Proofs.Ytdcapmbgnoahpaa
open Go Go.RowKit Go.Shelf Go.ChangeShapes Go.WideShapes Go.ChangeAt

/-- The strings so far are short, and increasing. -/
def GoodTo (ss : List (List UInt8)) (k : Nat) : Prop := (∀ j, j < k → (ss[j]?.getD []).length ≤ 255) ∧ ∀ j, 0 < j → j < k → ss[j - 1]?.getD [] < ss[j]?.getD []
theorem GoodTo.more {ss : List (List UInt8)} {k : Nat} (h : GoodTo ss k) (h1 : (ss[k]?.getD []).length ≤ 255) (h2 : 0 < k → ss[k - 1]?.getD [] < ss[k]?.getD []) : GoodTo ss (k + 1) := by
  refine ⟨fun j hj => ?_, fun j h0 hj => ?_⟩
  · by_cases e : j = k
    · rw [e]; exact h1
    · exact h.1 j (by omega)
  · by_cases e : j = k
    · rw [e] at h0 ⊢; exact h2 h0
    · exact h.2 j h0 (by omega)

set_option maxRecDepth 100000 in
set_option maxHeartbeats 2000000 in
theorem valid_any {K : Nat → Prop} {a : Option Addr} {len cap : Nat} {ss : List (List UInt8)} {W : World} (hR : RdS K W a len cap ss) :
    Calls Try.prog 22 #[.slice a len cap] W fun e w' => e = .returned (.bool (vlB ss)) ∧ W = w' := by
  have hl := hR.hl
  have hfit := hR.fit
  by_cases hlong : 4096 < len
  · have HS := Lib.hid (vl_long (d := ss) (by omega))
    clear hl
    go_enter Try.func22, Try.ntmps22
    go_wp2
    go_ret
    exact ⟨ret_bool HS.out.symm, rfl⟩
  · by_cases h0 : 0 < len
    · obtain ⟨b, off, rfl, _, hb, hc⟩ := hR.cells h0
      have HC := Lib.hid hc
      have HW := Lib.hid hR.wideAt
      have HL := Lib.hid hl
      clear hc hl hR
      go_enter Try.func22, Try.ntmps22
      go_wp2
      go_loop [10] (fun i => ∃ k : Nat, k ≤ len ∧ i = .int .i64 k ∧ Hid (GoodTo ss k)) (fun i => len - (intOf i).toNat)
      case atStart => exact ⟨0, Nat.zero_le _, rfl, ⟨fun j hj => by omega, fun j _ hj => by omega⟩⟩
      case round =>
        obtain ⟨k, hk, rfl, HG⟩ := hrel
        by_cases hlt : k < len
        · have hcx := HC.out k hlt
          obtain ⟨x, hx⟩ : ∃ x, ss[k]?.getD [] = x := ⟨_, rfl⟩
          have hw := HW.out k
          rw [hx] at hcx hw
          have HX := Lib.hid hx
          clear hx
          by_cases h255 : 255 < x.length
          · have HS := Lib.hid (vl_bad (d := ss) (k := k) (by rw [← HL.out]; exact hlt) (.inl (by rw [HX.out]; exact h255)))
            have hsz : 255 < (bsOf x).size := by rw [bs_size]; exact h255
            clear h255 hw
            generalize bsOf x = s at *
            go_wp2
            go_ret
            exact ⟨ret_bool HS.out.symm, rfl⟩
          · have hsz : ¬ 255 < (bsOf x).size := by rw [bs_size]; exact h255
            have H255 : Hid (x.length ≤ 255) := by show _ ≤ _; omega
            clear h255 hw
            obtain _ | m := k
            · simp only [Nat.add_zero] at hcx
              have HG2 : Hid (GoodTo ss 1) := HG.out.more (by rw [HX.out]; exact H255.out) (fun h => by omega)
              generalize bsOf x = s at *
              go_wp2
              go_round
              case rel => exact ⟨1, by omega, by go_num, HG2⟩
              case measure => simp [intOf]; omega
            · have hcy := HC.out m (by omega)
              obtain ⟨y, hy⟩ : ∃ y, ss[m]?.getD [] = y := ⟨_, rfl⟩
              rw [hy] at hcy
              have HY := Lib.hid hy
              clear hy
              by_cases hxy : y < x
              · have HG2 : Hid (GoodTo ss (m + 1 + 1)) := HG.out.more (by rw [HX.out]; exact H255.out) (fun _ => by rw [HX.out, show m + 1 - 1 = m by omega, HY.out]; exact hxy)
                have e1 : Op.bytesLess (bsOf x).toList (bsOf y).toList = false := by rw [bs_less]; exact decide_eq_false (slt_asymm hxy)
                have e2 : ((bsOf x).toList == (bsOf y).toList) = false := by rw [bs_same]; exact decide_eq_false fun e => slt_irrefl y (by rw [e] at hxy; exact hxy)
                clear hxy
                generalize bsOf x = s at *
                generalize bsOf y = t at *
                go_wp2
                go_round
                case rel => exact ⟨m + 1 + 1, by omega, by go_num, HG2⟩
                case measure => simp [intOf]; omega
              · have hle : x ≤ y := List.not_lt.1 hxy
                have HS := Lib.hid (vl_bad (d := ss) (k := m + 1) (by rw [← HL.out]; exact hlt) (.inr ⟨by omega, by rw [HX.out, show m + 1 - 1 = m by omega, HY.out]; exact hle⟩))
                have e1 : (Op.bytesLess (bsOf x).toList (bsOf y).toList || (bsOf x).toList == (bsOf y).toList) = true := by
                  rw [bs_less, bs_same, Bool.or_eq_true, decide_eq_true_eq, decide_eq_true_eq]
                  by_cases e : x = y
                  · exact .inr e
                  · exact .inl (slt_of_le hle e)
                clear hxy hle
                generalize bsOf x = s at *
                generalize bsOf y = t at *
                go_wp2
                go_ret
                exact ⟨ret_bool HS.out.symm, rfl⟩
        · obtain rfl : k = len := by omega
          have HS := Lib.hid (vl_good (d := ss) (by rw [← HL.out]; omega) (fun j hj => HG.out.1 j (by rw [HL.out]; exact hj)) (fun j h hj => HG.out.2 j h (by rw [HL.out]; exact hj)))
          go_wp2
          go_ret
          exact ⟨ret_bool HS.out.symm, rfl⟩
    · obtain rfl : len = 0 := by omega
      obtain rfl : ss = [] := List.eq_nil_of_length_eq_zero hl.symm
      have HS : Hid (vlB [] = true) := by show vlB [] = true; decide
      clear hR hl
      go_enter Try.func22, Try.ntmps22
      go_wp2
      go_loop [10] (fun i => i = .int .i64 0) (fun _ => 0)
      case atStart => exact rfl
      case round =>
        obtain rfl := hrel
        go_wp2
        go_ret
        exact ⟨ret_bool HS.out.symm, rfl⟩

end Go.Proofs.Ytdcapmbgnoahpaa
