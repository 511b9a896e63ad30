/-
  The order of identities: comparing numbers, lists of numbers, files.
-/
import Derived.Test.YtdcapmbgnoahpaaCtBase
import Derived.Test.YtdcapmbgnoahpaaPkSame1
namespace Go.Proofs.Ytdcapmbgnoahpaa
open Go.RowKit Go.Shelf Go.ChangeShapes Go.WideShapes Go.ChangeAt

def cmpI (a b : Int) : Int := if a < b then -1 else if b < a then 1 else 0
def cmpN : List Int → List Int → Int
  | [], [] => 0
  | [], _ :: _ => -1
  | _ :: _, [] => 1
  | x :: xs, y :: ys => if x < y then -1 else if y < x then 1 else cmpN xs ys

theorem cmpN_nil : cmpN [] [] = 0 := rfl
theorem cmpN_at {xs ys : List Int} {k : Nat} (h1 : k < xs.length) (h2 : k < ys.length) : cmpN (xs.drop k) (ys.drop k) = if xs[k]?.getD 0 < ys[k]?.getD 0 then -1 else if ys[k]?.getD 0 < xs[k]?.getD 0 then 1 else cmpN (xs.drop (k + 1)) (ys.drop (k + 1)) := by
  rw [drop_getD_cons xs k h1, drop_getD_cons ys k h2]; rfl
theorem cmpN_end1 {xs ys : List Int} {k : Nat} (h1 : k < xs.length) (h2 : ys.length ≤ k) : cmpN (xs.drop k) (ys.drop k) = 1 := by
  rw [drop_getD_cons xs k h1, List.drop_of_length_le h2]; rfl
theorem cmpN_end2 {xs ys : List Int} {k : Nat} (h1 : xs.length ≤ k) (h2 : k < ys.length) : cmpN (xs.drop k) (ys.drop k) = -1 := by
  rw [drop_getD_cons ys k h2, List.drop_of_length_le h1]; rfl
theorem cmpN_end3 {xs ys : List Int} {k : Nat} (h1 : xs.length ≤ k) (h2 : ys.length ≤ k) : cmpN (xs.drop k) (ys.drop k) = 0 := by
  rw [List.drop_of_length_le h2, List.drop_of_length_le h1]; rfl

theorem cmpI_any (x y : Int) (W : World) : Calls Try.prog 55 #[.int .i64 x, .int .i64 y] W fun e V => e = .returned (.int .i64 (cmpI x y)) ∧ W = V := by
  unfold cmpI
  by_cases h1 : x < y
  · rw [if_pos h1]
    go_enter Try.func55, Try.ntmps55
    go_wp2
    go_ret
    exact ⟨rfl, rfl⟩
  · rw [if_neg h1]
    by_cases h2 : y < x
    · rw [if_pos h2]
      go_enter Try.func55, Try.ntmps55
      go_wp2
      go_ret
      exact ⟨rfl, rfl⟩
    · rw [if_neg h2]
      go_enter Try.func55, Try.ntmps55
      go_wp2
      go_ret
      exact ⟨rfl, rfl⟩

theorem or2_any (b : Nat) (x y : Int) (W : World) (h0 : W.cell? ⟨b, 0, none⟩ = some (.int .i64 x)) (h1 : W.cell? ⟨b, 1, none⟩ = some (.int .i64 y)) :
    Calls Try.prog 54 #[.slice (some ⟨b, 0, none⟩) 2 2] W fun e V => e = .returned (.int .i64 (if x = 0 then y else x)) ∧ W = V := by
  go_enter Try.func54, Try.ntmps54
  go_wp2
  go_loop [8] (fun i => (i = .int .i64 0) ∨ (i = .int .i64 1 ∧ Hid (x = 0)) ∨ (i = .int .i64 2 ∧ Hid (x = 0) ∧ Hid (y = 0))) (fun i => 2 - (intOf i).toNat)
  case atStart => exact .inl rfl
  case round =>
    rcases hrel with rfl | ⟨rfl, hx⟩ | ⟨rfl, hx, hy⟩
    · by_cases hx : x = 0
      · have HX := Lib.hid hx
        have hxb : (x != 0) = false := by simp [hx]
        clear hx
        go_wp2
        go_round
        case rel => exact .inr (.inl ⟨by go_num, HX⟩)
        case measure => simp [intOf]
      · have hxb : (x != 0) = true := by simpa using hx
        have HX := Lib.hid hx
        clear hx
        go_wp2
        go_ret
        exact ⟨rfl, rfl⟩
    · by_cases hy : y = 0
      · have HY := Lib.hid hy
        have hyb : (y != 0) = false := by simp [hy]
        clear hy
        go_wp2
        go_round
        case rel => exact .inr (.inr ⟨by go_num, hx, HY⟩)
        case measure => simp [intOf]
      · have hyb : (y != 0) = true := by simpa using hy
        clear hy
        go_wp2
        go_ret
        exact ⟨rfl, rfl⟩
    · go_wp2
      go_ret
      exact ⟨by rw [hy.out]; rfl, rfl⟩

set_option maxRecDepth 100000 in
set_option maxHeartbeats 1000000 in
theorem compare_any {K K' : Nat → Prop} {a a' : Option Addr} {n c n' c' : Nat} {xs ys : List Int} {W : World} (h1 : Rd K W .i64 a n c xs) (h2 : Rd K' W .i64 a' n' c' ys) :
    Calls Try.prog 56 #[.slice a n c, .slice a' n' c'] W fun e V => e = .returned (.int .i64 (cmpN xs ys)) ∧ W = V := by
  have H1 := Lib.hid h1
  have H2 := Lib.hid h2
  have hs1 := h1.small
  have hs2 := h2.small
  have HL1 := Lib.hid h1.hl
  have HL2 := Lib.hid h2.hl
  clear h1 h2
  go_enter Try.func56, Try.ntmps56
  go_wp2
  go_loop [11] (fun i => ∃ k : Nat, k ≤ n ∧ k ≤ n' ∧ i = .int .i64 (k : Int) ∧ Hid (cmpN (xs.drop k) (ys.drop k) = cmpN xs ys)) (fun i => n - (intOf i).toNat)
  case atStart => exact ⟨0, Nat.zero_le _, Nat.zero_le _, rfl, rfl⟩
  case round =>
    obtain ⟨k, hk, hk', rfl, HE⟩ := hrel
    by_cases hlt : k < n
    · obtain ⟨b, off, rfl, _, _, hc⟩ := H1.out.cells (by omega)
      have hck := hc k hlt
      by_cases hlt' : k < n'
      · obtain ⟨b', off', rfl, _, _, hc'⟩ := H2.out.cells (by omega)
        have hck' := hc' k hlt'
        have he := cmpN_at (xs := xs) (ys := ys) (k := k) (by rw [← HL1.out]; exact hlt) (by rw [← HL2.out]; exact hlt')
        rw [HE.out] at he
        clear hc hc'
        generalize xs[k]?.getD 0 = x at *
        generalize ys[k]?.getD 0 = y at *
        by_cases hxy : x < y
        · have hci : cmpI x y = -1 := by unfold cmpI; rw [if_pos hxy]
          rw [if_pos hxy] at he
          have HEE := Lib.hid he
          clear he
          go_wp2_with (go_at_call 55; refine (cmpI_any x y _).mono ?_; rintro e V ⟨rfl, rfl⟩; rw [hci])
          go_ret
          exact ⟨by rw [HEE.out]; rfl, rfl⟩
        · by_cases hyx : y < x
          · have hci : cmpI x y = 1 := by unfold cmpI; rw [if_neg hxy, if_pos hyx]
            rw [if_neg hxy, if_pos hyx] at he
            have HEE := Lib.hid he
            clear he
            go_wp2_with (go_at_call 55; refine (cmpI_any x y _).mono ?_; rintro e V ⟨rfl, rfl⟩; rw [hci])
            go_ret
            exact ⟨by rw [HEE.out]; rfl, rfl⟩
          · have hci : cmpI x y = 0 := by unfold cmpI; rw [if_neg hxy, if_neg hyx]
            rw [if_neg hxy, if_neg hyx] at he
            have HEE := Lib.hid he
            clear he
            go_wp2_with (go_at_call 55; refine (cmpI_any x y _).mono ?_; rintro e V ⟨rfl, rfl⟩; rw [hci])
            go_round
            case rel => exact ⟨k + 1, by omega, by omega, by go_num, HEE.out.symm⟩
            case measure => simp [intOf]; omega
      · obtain rfl : k = n' := by omega
        have HEE : Hid (cmpN xs ys = 1) := by rw [← HE.out]; exact cmpN_end1 (by rw [← HL1.out]; exact hlt) (by rw [← HL2.out]; exact Nat.le_refl _)
        go_wp2
        go_ret
        exact ⟨by rw [HEE.out]; rfl, rfl⟩
    · obtain rfl : k = n := by omega
      by_cases hlt' : k < n'
      · have HEE : Hid (cmpN xs ys = -1) := by rw [← HE.out]; exact cmpN_end2 (by rw [← HL1.out]; exact Nat.le_refl _) (by rw [← HL2.out]; exact hlt')
        go_wp2
        go_ret
        exact ⟨by rw [HEE.out]; rfl, rfl⟩
      · have HEE : Hid (cmpN xs ys = 0) := by rw [← HE.out]; exact cmpN_end3 (by rw [← HL1.out]; exact Nat.le_refl _) (by rw [← HL2.out]; omega)
        go_wp2
        go_ret
        exact ⟨by rw [HEE.out]; rfl, rfl⟩

set_option maxRecDepth 100000 in
set_option maxHeartbeats 1000000 in
theorem cmpInts_any {K K' : Nat → Prop} {a a' : Option Addr} {n c n' c' : Nat} {xs ys : List Int} {W : World} (h1 : Rd K W .i64 a n c xs) (h2 : Rd K' W .i64 a' n' c' ys) :
    Calls Try.prog 57 #[.slice a n c, .slice a' n' c'] W fun e V => e = .returned (.int .i64 (cmpN xs ys)) ∧ Below W.heap.size W V := by
  have H1 := Lib.hid h1
  have H2 := Lib.hid h2
  have hs1 := h1.small
  have hs2 := h2.small
  have HL1 := Lib.hid h1.hl
  have HL2 := Lib.hid h2.hl
  clear h1 h2
  go_enter Try.func57, Try.ntmps57
  go_wp2
  go_loopw [5] (fun i wr => ∃ k : Nat, k ≤ n ∧ k ≤ n' ∧ i = .int .i64 (k : Int) ∧ Hid (cmpN (xs.drop k) (ys.drop k) = cmpN xs ys) ∧ Below W.heap.size W wr) (fun i _ => n - (intOf i).toNat)
  case atStart => exact ⟨0, Nat.zero_le _, Nat.zero_le _, rfl, rfl, Below.refl _ _⟩
  case round =>
    obtain ⟨k, hk, hk', rfl, HE, hB⟩ := hrel
    by_cases hlt : k < n
    · obtain ⟨b, off, rfl, _, hb1, hc⟩ := H1.out.cells (by omega)
      have hck := (hB.cell (p := ⟨b, off + k, none⟩) hb1).trans (hc k hlt)
      by_cases hlt' : k < n'
      · obtain ⟨b', off', rfl, _, hb2, hc'⟩ := H2.out.cells (by omega)
        have hck' := (hB.cell (p := ⟨b', off' + k, none⟩) hb2).trans (hc' k hlt')
        have he := cmpN_at (xs := xs) (ys := ys) (k := k) (by rw [← HL1.out]; exact hlt) (by rw [← HL2.out]; exact hlt')
        rw [HE.out] at he
        clear hc hc'
        generalize xs[k]?.getD 0 = x at *
        generalize ys[k]?.getD 0 = y at *
        by_cases hxy : x < y
        · rw [if_pos hxy] at he
          have HEE := Lib.hid he
          clear he
          go_wp2
          go_quiet (fail)
          go_wp2
          go_ret
          exact ⟨by rw [HEE.out]; rfl, below_drewN hB _⟩
        · by_cases hyx : y < x
          · rw [if_neg hxy, if_pos hyx] at he
            have HEE := Lib.hid he
            clear he
            go_wp2
            go_quiet (fail)
            go_wp2
            go_quiet (fail)
            go_wp2
            go_ret
            exact ⟨by rw [HEE.out]; rfl, below_drewN (below_drewN hB _) _⟩
          · rw [if_neg hxy, if_neg hyx] at he
            have HEE := Lib.hid he
            clear he
            go_wp2
            go_quiet (fail)
            go_wp2
            go_quiet (fail)
            go_wp2
            go_roundw
            case rel => exact ⟨k + 1, by omega, by omega, by go_num, HEE.out.symm, below_drewN hB _⟩
            case measure => simp [intOf]; omega
      · obtain rfl : k = n' := by omega
        have HEE : Hid (cmpN xs ys = 1) := by rw [← HE.out]; exact cmpN_end1 (by rw [← HL1.out]; exact hlt) (by rw [← HL2.out]; exact Nat.le_refl _)
        go_wp2
        go_ret
        exact ⟨by rw [HEE.out]; rfl, hB⟩
    · obtain rfl : k = n := by omega
      by_cases hlt' : k < n'
      · have HEE : Hid (cmpN xs ys = -1) := by rw [← HE.out]; exact cmpN_end2 (by rw [← HL1.out]; exact Nat.le_refl _) (by rw [← HL2.out]; exact hlt')
        go_wp2
        go_ret
        exact ⟨by rw [HEE.out]; rfl, hB⟩
      · obtain rfl : k = n' := by omega
        have HEE : Hid (cmpN xs ys = 0) := by rw [← HE.out]; exact cmpN_end3 (by rw [← HL1.out]; exact Nat.le_refl _) (by rw [← HL2.out]; exact Nat.le_refl _)
        go_wp2
        go_ret
        exact ⟨by rw [HEE.out]; rfl, hB⟩

end Go.Proofs.Ytdcapmbgnoahpaa
