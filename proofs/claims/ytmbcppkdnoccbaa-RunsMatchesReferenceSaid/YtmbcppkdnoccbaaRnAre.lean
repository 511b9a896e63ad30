/-
  Are values and lengths the runs of a list; the sum of lengths.
-/
import Derived.Test.YtmbcppkdnoccbaaPkSame
import Derived.Test.YtmbcppkdnoccbaaRnMath
namespace Go.Proofs.Ytmbcppkdnoccbaa
open Go.RowKit Go.Shelf Go.ChangeShapes Go.WideShapes Go.ChangeAt

def areB (vs ns : List Int) : Bool := decide (AreR vs ns)
theorem areB_true {vs ns : List Int} (h : AreR vs ns) : areB vs ns = true := decide_eq_true h
theorem areB_false {vs ns : List Int} (h : ¬ AreR vs ns) : areB vs ns = false := decide_eq_false h

set_option maxRecDepth 100000 in
set_option maxHeartbeats 2000000 in
theorem are_some (b off cap b' off' cap' : Nat) (len : Nat) (h0 : 0 < len) (zs ys : List Int) (hl : Hid (len = zs.length)) (hl' : Hid (len = ys.length)) (hf : len ≤ cap) (_hf' : len ≤ cap') (ht : len ≤ 140737488351232) (W : World)
    (hb : b < W.heap.size) (hb' : b' < W.heap.size)
    (hc : Hid (∀ j, j < len → W.cell? ⟨b, off + j, none⟩ = some (.int .i64 (zs[j]?.getD 0)))) (hc' : Hid (∀ j, j < len → W.cell? ⟨b', off' + j, none⟩ = some (.int .i64 (ys[j]?.getD 0)))) :
    Calls Try.prog 71 #[.slice (some ⟨b, off, none⟩) len cap, .slice (some ⟨b', off', none⟩) len cap'] W fun e w' => e = .returned (.bool (areB zs ys)) ∧ Below W.heap.size W w' := by
  go_enter Try.func71, Try.ntmps71
  go_wp2
  go_loopw [5, 6, 14] (fun _ _ i wr => ∃ k : Nat, k ≤ len ∧ i = .int .i64 k ∧ Hid (∀ j, j < k → 1 ≤ ys[j]?.getD 0 ∧ (0 < j → zs[j]?.getD 0 ≠ zs[j - 1]?.getD 0)) ∧ Below W.heap.size W wr) (fun _ _ i _ => len - (intOf i).toNat)
  case atStart => exact ⟨0, Nat.zero_le _, rfl, fun j h => by omega, Below.refl _ _⟩
  case round =>
    obtain ⟨k, hk, rfl, HE, hB⟩ := hrel
    by_cases hlt : k < len
    · have hcx' := (hB.cell (p := ⟨b', off' + k, none⟩) hb').trans (hc'.out k hlt)
      by_cases hn : 1 ≤ ys[k]?.getD 0
      · by_cases hk0 : k = 0
        · subst hk0
          have HE2 : Hid (∀ j, j < 0 + 1 → 1 ≤ ys[j]?.getD 0 ∧ (0 < j → zs[j]?.getD 0 ≠ zs[j - 1]?.getD 0)) := fun j hj => by
            obtain rfl : j = 0 := by omega
            exact ⟨hn, fun h => absurd h (by omega)⟩
          have hd : decide (ys[0]?.getD 0 < 1) = false := decide_eq_false (by omega)
          simp only [Nat.add_zero] at hcx'
          clear hn
          generalize ys[0]?.getD 0 = x at *
          go_wp2
          go_quiet (fail)
          go_wp2
          go_roundw
          case rel => exact ⟨0 + 1, by omega, by go_num, HE2, below_drewN hB _⟩
          case measure => simp [intOf]; omega
        · obtain ⟨j, hj⟩ : ∃ j, k = j + 1 := ⟨k - 1, by omega⟩
          have hjl : j < len := by omega
          have hcy := (hB.cell (p := ⟨b, off + k, none⟩) hb).trans (hc.out k hlt)
          have hcz := (hB.cell (p := ⟨b, off + j, none⟩) hb).trans (hc.out j hjl)
          have hw : IntKind.i64.wrap ((k : Int) - 1) = (j : Int) := by rw [IntKind.wrap_i64]; omega
          have hd : decide (ys[k]?.getD 0 < 1) = false := decide_eq_false (by omega)
          have hd0 : decide (0 < k) = true := decide_eq_true (by omega)
          by_cases he : zs[k]?.getD 0 = zs[j]?.getD 0
          · have HS : Hid (areB zs ys = false) := areB_false fun h => (h.2 k (by rw [← hl'.out]; exact hlt)).2 (by omega) (by rw [he]; congr 2; omega)
            have hbe : (zs[k]?.getD 0 == zs[j]?.getD 0) = true := by simp [he]
            clear he hn
            generalize zs[k]?.getD 0 = y at *
            generalize zs[j]?.getD 0 = z at *
            generalize ys[k]?.getD 0 = x at *
            have HJ := Lib.hid hj
            have hk1 : 1 ≤ k := by omega
            clear hj hk0
            go_wp2
            go_quiet (fail)
            go_wp2
            go_ret
            exact ⟨ret_bool HS.out.symm, below_drewN hB _⟩
          · have HE2 : Hid (∀ i, i < k + 1 → 1 ≤ ys[i]?.getD 0 ∧ (0 < i → zs[i]?.getD 0 ≠ zs[i - 1]?.getD 0)) := fun i hi => by
              by_cases h : i = k
              · subst h
                exact ⟨hn, fun _ => by rw [show i - 1 = j by omega]; exact he⟩
              · exact HE.out i (by omega)
            have hbe : (zs[k]?.getD 0 == zs[j]?.getD 0) = false := by simp [he]
            clear he hn
            generalize zs[k]?.getD 0 = y at *
            generalize zs[j]?.getD 0 = z at *
            generalize ys[k]?.getD 0 = x at *
            have HJ := Lib.hid hj
            have hk1 : 1 ≤ k := by omega
            clear hj hk0
            go_wp2
            go_quiet (fail)
            go_wp2
            go_roundw
            case rel => exact ⟨k + 1, by omega, by go_num, HE2, below_drewN hB _⟩
            case measure => simp [intOf]; omega
      · have HS : Hid (areB zs ys = false) := areB_false fun h => hn (h.2 k (by rw [← hl'.out]; exact hlt)).1
        have hd : decide (ys[k]?.getD 0 < 1) = true := decide_eq_true (by omega)
        clear hn
        generalize ys[k]?.getD 0 = x at *
        go_wp2
        go_quiet (fail)
        go_wp2
        go_ret
        exact ⟨ret_bool HS.out.symm, below_drewN hB _⟩
    · obtain rfl : k = len := by omega
      have HS : Hid (areB zs ys = true) := areB_true ⟨hl.out.symm.trans hl'.out, by rw [← hl'.out]; exact HE.out⟩
      go_wp2
      go_ret
      exact ⟨ret_bool HS.out.symm, hB⟩

set_option maxHeartbeats 1000000 in
theorem are_none (a a' : Option Addr) (cap cap' : Nat) (W : World) :
    Calls Try.prog 71 #[.slice a 0 cap, .slice a' 0 cap'] W fun e w' => e = .returned (.bool (areB [] [])) ∧ Below W.heap.size W w' := by
  have HS : Hid (areB [] [] = true) := rfl
  go_enter Try.func71, Try.ntmps71
  go_wp2
  go_loopw [5, 6, 14] (fun _ _ i wr => i = .int .i64 0 ∧ W = wr) (fun _ _ _ _ => 0)
  case atStart => exact ⟨rfl, rfl⟩
  case round =>
    obtain ⟨rfl, rfl⟩ := hrel
    go_wp2
    go_ret
    exact ⟨ret_bool HS.out.symm, Below.refl _ _⟩

theorem are_any {K K' : Nat → Prop} {a a' : Option Addr} {len cap len' cap' : Nat} {zs ys : List Int} {W : World} (hR : Rd K W .i64 a len cap zs) (hR' : Rd K' W .i64 a' len' cap' ys) :
    Calls Try.prog 71 #[.slice a len cap, .slice a' len' cap'] W fun e w' => e = .returned (.bool (areB zs ys)) ∧ Below W.heap.size W w' := by
  by_cases hne : len = len'
  · subst hne
    by_cases h0 : 0 < len
    · obtain ⟨b, off, rfl, _, hb, hc⟩ := hR.cells h0
      obtain ⟨b', off', rfl, _, hb', hc'⟩ := hR'.cells h0
      exact are_some b off cap b' off' cap' len h0 zs ys hR.hl hR'.hl hR.fit hR'.fit hR.small W hb hb' hc hc'
    · obtain rfl : len = 0 := by omega
      obtain rfl : zs = [] := List.eq_nil_of_length_eq_zero hR.hl.symm
      obtain rfl : ys = [] := List.eq_nil_of_length_eq_zero hR'.hl.symm
      exact are_none a a' cap cap' W
  · have HS : Hid (areB zs ys = false) := areB_false fun h => hne (by rw [hR.hl, hR'.hl, h.1])
    have hbe : (len != len') = true := by simpa using hne
    have hbe2 : ((len : Int) != (len' : Int)) = true := by rw [bne_iff_ne]; omega
    clear hne hR hR'
    go_enter Try.func71, Try.ntmps71
    go_wp2
    go_ret
    exact ⟨ret_bool HS.out.symm, Below.refl _ _⟩

/-- What the sum comes to. -/
def TotPost (ns : List Int) (W : World) (e : Ending) (W' : World) : Prop :=
  W = W' ∧ ((tot ns ≤ 4096 ∧ e = .returned (.tuple #[.int .i64 (tot ns), .bool true])) ∨ (¬ tot ns ≤ 4096 ∧ e = .returned (.tuple #[.int .i64 0, .bool false])))

set_option maxRecDepth 100000 in
set_option maxHeartbeats 1000000 in
theorem total_some (b off cap len : Nat) (h0 : 0 < len) (ns : List Int) (hl : Hid (len = ns.length)) (hf : len ≤ cap) (ht : len ≤ 140737488351232) (hpos : Hid (∀ n ∈ ns, 1 ≤ n)) (hsm : Smalls ns) (W : World)
    (hc : Hid (∀ j, j < len → W.cell? ⟨b, off + j, none⟩ = some (.int .i64 (ns[j]?.getD 0)))) :
    Calls Try.prog 72 #[.slice (some ⟨b, off, none⟩) len cap] W (TotPost ns W) := by
  have HSM := Lib.hid hsm
  clear hsm
  go_enter Try.func72, Try.ntmps72
  go_wp2
  go_loopw [4, 6, 9] (fun t _ i wr => ∃ (k : Nat) (s : Int), k ≤ len ∧ i = .int .i64 k ∧ t = .int .i64 s ∧ 0 ≤ s ∧ s ≤ 4096 ∧ Hid (s = tot (ns.take k)) ∧ W = wr) (fun _ _ i _ => len - (intOf i).toNat)
  case atStart => exact ⟨0, 0, Nat.zero_le _, rfl, rfl, by decide, by decide, rfl, rfl⟩
  case round =>
    obtain ⟨k, s, hk, rfl, rfl, hs0, hs1, HS, rfl⟩ := hrel
    by_cases hlt : k < len
    · have hcx := hc.out k hlt
      have hx := HSM.out.getD k
      have hT := tot_take_succ ns k (by rw [← hl.out]; exact hlt)
      have hTl := tot_take_le (fun n hn => by have := hpos.out n hn; omega) (k + 1)
      have hx1 : 1 ≤ ns[k]?.getD 0 := by
        rw [List.getElem?_eq_getElem (by rw [← hl.out]; exact hlt)]; exact hpos.out _ (List.getElem_mem _)
      rw [← HS.out] at hT
      rw [hT] at hTl
      have HT := Lib.hid hT
      have hx2 := hx.2
      clear hT hx
      generalize ns[k]?.getD 0 = x at *
      by_cases hgt : 4096 - s < x
      · have HF : Hid (¬ tot ns ≤ 4096) := by show ¬ _; omega
        have hd : decide (4096 - s < x) = true := decide_eq_true hgt
        clear hTl
        go_wp2
        go_ret2
        exact ⟨rfl, .inr ⟨by have := HF.out; omega, rfl⟩⟩
      · have hd : decide (4096 - s < x) = false := decide_eq_false hgt
        clear hTl
        go_wp2
        go_roundw
        case rel => exact ⟨k + 1, s + x, by omega, by go_num, by go_num, by omega, by omega, HT.out.symm, trivial⟩
        case measure => simp [intOf]; omega
    · obtain rfl : k = len := by omega
      have HF : Hid (s = tot ns) := by show _ = _; rw [HS.out, hl.out, List.take_length]
      go_wp2
      go_ret2
      exact ⟨rfl, .inl ⟨by rw [← HF.out]; exact hs1, by rw [← HF.out]; rfl⟩⟩

set_option maxHeartbeats 1000000 in
theorem total_none (a : Option Addr) (cap : Nat) (W : World) :
    Calls Try.prog 72 #[.slice a 0 cap] W (TotPost [] W) := by
  go_enter Try.func72, Try.ntmps72
  go_wp2
  go_loopw [4, 6, 9] (fun t _ i wr => i = .int .i64 0 ∧ t = .int .i64 0 ∧ W = wr) (fun _ _ _ _ => 0)
  case atStart => exact ⟨rfl, rfl, rfl⟩
  case round =>
    obtain ⟨rfl, rfl, rfl⟩ := hrel
    go_wp2
    go_ret2
    exact ⟨rfl, .inl ⟨by decide, rfl⟩⟩

theorem total_any {K : Nat → Prop} {a : Option Addr} {len cap : Nat} {ns : List Int} (hpos : ∀ n ∈ ns, 1 ≤ n) (hsm : Smalls ns) {W : World} (hR : Rd K W .i64 a len cap ns) :
    Calls Try.prog 72 #[.slice a len cap] W (TotPost ns W) := by
  by_cases h0 : 0 < len
  · obtain ⟨b, off, rfl, _, _, hc⟩ := hR.cells h0
    exact total_some b off cap len h0 ns hR.hl hR.fit hR.small hpos hsm W hc
  · obtain rfl : len = 0 := by omega
    obtain rfl : ns = [] := List.eq_nil_of_length_eq_zero hR.hl.symm
    exact total_none a cap W

end Go.Proofs.Ytmbcppkdnoccbaa
