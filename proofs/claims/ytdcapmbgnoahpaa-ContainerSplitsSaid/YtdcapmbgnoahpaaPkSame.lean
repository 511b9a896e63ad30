/-
  The comparison of lists of integers of the reference.
-/
import Derived.Test.YtdcapmbgnoahpaaPkSame1
namespace Go.Proofs.Ytdcapmbgnoahpaa
open Go.RowKit Go.Shelf Go.ChangeShapes Go.WideShapes Go.ChangeAt

set_option maxRecDepth 100000 in
set_option maxHeartbeats 1000000 in
theorem ints_some (b off cap b' off' cap' : Nat) (len : Nat) (h0 : 0 < len) (zs ys : List Int) (hl : Hid (len = zs.length)) (hl' : Hid (len = ys.length)) (hf : len ≤ cap) (_hf' : len ≤ cap') (ht : len ≤ 140737488351232) (W : World)
    (hb : b < W.heap.size) (hb' : b' < W.heap.size)
    (hc : Hid (∀ j, j < len → W.cell? ⟨b, off + j, none⟩ = some (.int .i64 (zs[j]?.getD 0)))) (hc' : Hid (∀ j, j < len → W.cell? ⟨b', off' + j, none⟩ = some (.int .i64 (ys[j]?.getD 0)))) :
    Calls Try.prog 24 #[.slice (some ⟨b, off, none⟩) len cap, .slice (some ⟨b', off', none⟩) len cap'] W fun e w' => e = .returned (.bool (sameB zs ys)) ∧ Below W.heap.size W w' := by
  go_enter Try.func24, Try.ntmps24
  go_wp2
  go_loopw [5] (fun i wr => ∃ k : Nat, k ≤ len ∧ i = .int .i64 k ∧ Hid (∀ j, j < k → zs[j]?.getD 0 = ys[j]?.getD 0) ∧ Below W.heap.size W wr) (fun i _ => len - (intOf i).toNat)
  case atStart => exact ⟨0, Nat.zero_le _, rfl, fun j h => by omega, Below.refl _ _⟩
  case round =>
    obtain ⟨k, hk, rfl, HE, hB⟩ := hrel
    by_cases hlt : k < len
    · have hcx := (hB.cell (p := ⟨b, off + k, none⟩) hb).trans (hc.out k hlt)
      have hcx' := (hB.cell (p := ⟨b', off' + k, none⟩) hb').trans (hc'.out k hlt)
      by_cases he : zs[k]?.getD 0 = ys[k]?.getD 0
      · have HE2 : Hid (∀ j, j < k + 1 → zs[j]?.getD 0 = ys[j]?.getD 0) := fun j hj => by
          by_cases h : j = k
          · rw [h]; exact he
          · exact HE.out j (by omega)
        have hbe : (zs[k]?.getD 0 != ys[k]?.getD 0) = false := by simp [he]
        clear he
        generalize zs[k]?.getD 0 = x at *
        generalize ys[k]?.getD 0 = y at *
        go_wp2
        go_quiet (fail)
        go_wp2
        go_roundw
        case rel => exact ⟨k + 1, by omega, by go_num, HE2, below_drewN hB _⟩
        case measure => simp [intOf]; omega
      · have HS : Hid (sameB zs ys = false) := sameB_false fun e => he (by rw [e])
        have hbe : (zs[k]?.getD 0 != ys[k]?.getD 0) = true := by simpa using he
        clear he
        generalize zs[k]?.getD 0 = x at *
        generalize ys[k]?.getD 0 = y at *
        go_wp2
        go_quiet (fail)
        go_wp2
        go_ret
        exact ⟨ret_bool HS.out.symm, below_drewN hB _⟩
    · obtain rfl : k = len := by omega
      have HS : Hid (sameB zs ys = true) := sameB_true (eq_of_getD (hl.out.symm.trans hl'.out) (by rw [← hl.out]; exact HE.out))
      go_wp2
      go_ret
      exact ⟨ret_bool HS.out.symm, hB⟩

set_option maxHeartbeats 1000000 in
theorem ints_none (a a' : Option Addr) (cap cap' : Nat) (W : World) :
    Calls Try.prog 24 #[.slice a 0 cap, .slice a' 0 cap'] W fun e w' => e = .returned (.bool (sameB [] [])) ∧ Below W.heap.size W w' := by
  have HS : Hid (sameB [] [] = true) := rfl
  go_enter Try.func24, Try.ntmps24
  go_wp2
  go_loop [5] (fun i => i = .int .i64 0) (fun _ => 0)
  case atStart => exact rfl
  case round =>
    obtain rfl := hrel
    go_wp2
    go_ret
    exact ⟨ret_bool HS.out.symm, Below.refl _ _⟩

theorem ints_any {K K' : Nat → Prop} {a a' : Option Addr} {len cap len' cap' : Nat} {zs ys : List Int} {W : World} (hR : Rd K W .i64 a len cap zs) (hR' : Rd K' W .i64 a' len' cap' ys) :
    Calls Try.prog 24 #[.slice a len cap, .slice a' len' cap'] W fun e w' => e = .returned (.bool (sameB zs ys)) ∧ Below W.heap.size W w' := by
  by_cases hne : len = len'
  · subst hne
    by_cases h0 : 0 < len
    · obtain ⟨b, off, rfl, _, hb, hc⟩ := hR.cells h0
      obtain ⟨b', off', rfl, _, hb', hc'⟩ := hR'.cells h0
      exact ints_some b off cap b' off' cap' len h0 zs ys hR.hl hR'.hl hR.fit hR'.fit hR.small W hb hb' hc hc'
    · obtain rfl : len = 0 := by omega
      obtain rfl : zs = [] := List.eq_nil_of_length_eq_zero hR.hl.symm
      obtain rfl : ys = [] := List.eq_nil_of_length_eq_zero hR'.hl.symm
      exact ints_none a a' cap cap' W
  · have HS : Hid (sameB zs ys = false) := sameB_false fun e => hne (by rw [hR.hl, hR'.hl, e])
    have hbe : (len != len') = true := by simpa using hne
    have hbe2 : ((len : Int) != (len' : Int)) = true := by rw [bne_iff_ne]; omega
    clear hne hR hR'
    go_enter Try.func24, Try.ntmps24
    go_wp2
    go_ret
    exact ⟨ret_bool HS.out.symm, Below.refl _ _⟩

end Go.Proofs.Ytdcapmbgnoahpaa
