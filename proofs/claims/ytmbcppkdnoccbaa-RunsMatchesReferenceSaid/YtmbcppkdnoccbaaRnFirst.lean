/-
  The length of the first run of a list.
-/
import Derived.Test.YtmbcppkdnoccbaaPkSame
import Derived.Test.YtmbcppkdnoccbaaRnMath
namespace Go.Proofs.Ytmbcppkdnoccbaa
open Go.RowKit Go.Shelf Go.ChangeShapes Go.WideShapes Go.ChangeAt

theorem fr1_at {zs : List Int} {k : Nat} (hk : k < zs.length) (hall : ∀ j, j < k → zs[j]?.getD 0 = zs[0]?.getD 0) (hne : zs[k]?.getD 0 ≠ zs[0]?.getD 0) : fr1 zs = k := by
  cases zs with
  | nil => simp at hk
  | cons x r =>
    cases k with
    | zero => exact absurd rfl hne
    | succ k =>
      have key : ∀ (r : List Int) (k : Nat), k < r.length → (∀ j, j < k → r[j]?.getD 0 = x) → r[k]?.getD 0 ≠ x → (r.takeWhile (fun y => y == x)).length = k := by
        intro r
        induction r with
        | nil => intro k hk; simp at hk
        | cons y s ih =>
          intro k hk hall hne
          cases k with
          | zero =>
            have : (y == x) = false := by simpa using hne
            rw [List.takeWhile_cons, this]; rfl
          | succ k =>
            have h0 : y = x := by simpa using hall 0 (by omega)
            have := ih k (by simpa using hk) (fun j hj => by simpa using hall (j + 1) (by omega)) (by simpa using hne)
            rw [List.takeWhile_cons, show (y == x) = true by simpa using h0]
            simp [this]
      have := key r k (by simpa using hk) (fun j hj => by simpa using hall (j + 1) (by omega)) (by simpa using hne)
      simp [fr1, this]; omega
theorem fr1_all {zs : List Int} (hall : ∀ j, j < zs.length → zs[j]?.getD 0 = zs[0]?.getD 0) : fr1 zs = zs.length := by
  cases zs with
  | nil => rfl
  | cons x r =>
    have key : ∀ r : List Int, (∀ j, j < r.length → r[j]?.getD 0 = x) → (r.takeWhile (fun y => y == x)).length = r.length := by
      intro r
      induction r with
      | nil => intro _; rfl
      | cons y s ih =>
        intro hall
        have h0 : y = x := by simpa using hall 0 (by simp)
        have := ih (fun j hj => by simpa using hall (j + 1) (by simpa using hj))
        rw [List.takeWhile_cons, show (y == x) = true by simpa using h0]
        simp [this]
    have := key r (fun j hj => by simpa using hall (j + 1) (by simpa using hj))
    simp [fr1, this]; omega

theorem first1_any (x0 n : Int) (B b off len cap : Nat) (h0 : 0 < len) (W : World) (hB : W.cell? ⟨B, 0, none⟩ = some (.slice (some ⟨b, off, none⟩) len cap)) (hc : W.cell? ⟨b, off, none⟩ = some (.int .i64 x0)) :
    Calls Try.prog 125 #[.int .i64 n, .pointer (some ⟨B, 0, none⟩)] W fun e w' => e = .returned (.bool (n != x0)) ∧ W = w' := by
  go_enter Try.func125, Try.ntmps125
  go_wp2
  go_ret
  exact ⟨rfl, rfl⟩

/-- The index of the first element that is another one than the first, or -1. -/
def idxR (zs : List Int) : Int := if fr1 zs = zs.length then -1 else fr1 zs

set_option maxRecDepth 100000 in
set_option maxHeartbeats 1000000 in
theorem indexf_any (B b off len cap : Nat) (zs : List Int) (hl : Hid (len = zs.length)) (h0 : 0 < len) (hf : len ≤ cap) (ht : len ≤ 140737488351232) (W : World) (hB : W.cell? ⟨B, 0, none⟩ = some (.slice (some ⟨b, off, none⟩) len cap))
    (hc : Hid (∀ j, j < len → W.cell? ⟨b, off + j, none⟩ = some (.int .i64 (zs[j]?.getD 0)))) :
    Calls Try.prog 124 #[.slice (some ⟨b, off, none⟩) len cap, .func (.func 125) #[] #[.pointer (some ⟨B, 0, none⟩)]] W fun e w' => e = .returned (.int .i64 (idxR zs)) ∧ W = w' := by
  have hc0 : W.cell? ⟨b, off, none⟩ = some (.int .i64 (zs[0]?.getD 0)) := hc.out 0 h0
  have HP : Hid (∀ n : Int, Calls Try.prog 125 #[.int .i64 n, .pointer (some ⟨B, 0, none⟩)] W fun e w' => e = .returned (.bool (n != zs[0]?.getD 0)) ∧ W = w') := fun n => first1_any _ n B b off len cap h0 W hB hc0
  clear hc0 hB
  go_enter Try.func124, Try.ntmps124
  go_wp2
  go_loopw [5, 8] (fun _ i wr => ∃ k : Nat, k ≤ len ∧ i = .int .i64 k ∧ Hid (∀ j, j < k → zs[j]?.getD 0 = zs[0]?.getD 0) ∧ W = wr) (fun _ i _ => len - (intOf i).toNat)
  case atStart => exact ⟨0, Nat.zero_le _, rfl, fun j h => by omega, rfl⟩
  case round =>
    obtain ⟨k, hk, rfl, HE, rfl⟩ := hrel
    by_cases hlt : k < len
    · have hcx := hc.out k hlt
      have hcall := HP.out (zs[k]?.getD 0)
      by_cases he : zs[k]?.getD 0 = zs[0]?.getD 0
      · have HE2 : Hid (∀ j, j < k + 1 → zs[j]?.getD 0 = zs[0]?.getD 0) := fun j hj => by
          by_cases h : j = k
          · rw [h]; exact he
          · exact HE.out j (by omega)
        have hbe : (zs[k]?.getD 0 != zs[0]?.getD 0) = false := by simp [he]
        rw [hbe] at hcall
        clear he hbe
        have HC := Lib.hid hcall
        clear hcall
        generalize zs[k]?.getD 0 = x at *
        go_wp2_with fail
        refine HC.out.mono ?_
        rintro e w' ⟨rfl, rfl⟩
        go_wp2
        go_roundw
        case rel => exact ⟨k + 1, by omega, by go_num, HE2, trivial⟩
        case measure => simp [intOf]; omega
      · have HI : Hid (idxR zs = (k : Int)) := by
          have hle := hl.out
          have e := fr1_at (by omega) HE.out he
          show idxR zs = _
          unfold idxR
          rw [e, if_neg (by omega)]
        have hbe : (zs[k]?.getD 0 != zs[0]?.getD 0) = true := by simpa using he
        rw [hbe] at hcall
        clear he hbe
        have HC := Lib.hid hcall
        clear hcall
        generalize zs[k]?.getD 0 = x at *
        go_wp2_with fail
        refine HC.out.mono ?_
        rintro e w' ⟨rfl, rfl⟩
        go_wp2
        go_ret
        exact ⟨ret_int HI.out.symm, rfl⟩
    · obtain rfl : k = len := by omega
      have HI : Hid (idxR zs = -1) := by
        show idxR zs = _
        unfold idxR
        rw [if_pos (fr1_all (by rw [← hl.out]; exact HE.out))]
      go_wp2
      go_ret
      exact ⟨ret_int HI.out.symm, rfl⟩

set_option maxRecDepth 100000 in
set_option maxHeartbeats 1000000 in
theorem firstRun_any {K : Nat → Prop} {b off len cap : Nat} {zs : List Int} {W : World} (hR : Rd K W .i64 (some ⟨b, off, none⟩) len cap zs) (h0 : 0 < len) :
    Calls Try.prog 96 #[.slice (some ⟨b, off, none⟩) len cap] W fun e w' => e = .returned (.int .i64 (fr1 zs)) ∧ Below W.heap.size W w' := by
  have hb1 : Below W.heap.size W (W.alloc (.cells #[.slice (some ⟨b, off, none⟩) len cap] 22)) := (Below.refl _ _).alloc (Nat.le_refl _) _
  have hB := (Boxed.new W 22 (.slice (some ⟨b, off, none⟩) len cap)).cell
  have hR1 := hR.below hb1
  obtain ⟨b', off', e, _, _, hc⟩ := hR1.cells h0
  cases e
  have HIX := Lib.hid (indexf_any W.heap.size b off len cap zs hR.hl h0 hR.fit hR.small _ hB hc)
  have HBB := Lib.hid hb1
  have hsm := hR.small
  have hfit := hR.fit
  have hle := fr1_le zs
  have HL : Hid (len = zs.length) := hR.hl
  rw [← hR.hl] at hle
  clear hb1 hB hR1 hR hc
  unfold idxR at HIX
  by_cases he : fr1 zs = zs.length
  · rw [if_pos he] at HIX
    have HE : Hid (fr1 zs = len) := by show _ = _; rw [he, HL.out]
    clear he
    go_enter Try.func96, Try.ntmps96
    go_wp2_with (go_at_call 124; refine HIX.out.mono ?_; rintro e w' ⟨rfl, rfl⟩)
    go_ret
    exact ⟨ret_int (by rw [HE.out]), HBB.out⟩
  · rw [if_neg he] at HIX
    clear he
    generalize fr1 zs = f at *
    go_enter Try.func96, Try.ntmps96
    go_wp2_with (go_at_call 124; refine HIX.out.mono ?_; rintro e w' ⟨rfl, rfl⟩)
    go_ret
    exact ⟨rfl, HBB.out⟩

end Go.Proofs.Ytmbcppkdnoccbaa
