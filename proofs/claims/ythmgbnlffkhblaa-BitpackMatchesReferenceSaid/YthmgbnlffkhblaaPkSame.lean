/-
  The comparisons of the reference: byte sequences, lists.
-/
import Derived.Test.YthmgbnlffkhblaaPkRead
import Derived.Deep.QuietTactic
import Derived.BigQuiet
namespace Go.Proofs.Ythmgbnlffkhblaa
open Go.RowKit Go.Shelf Go.ChangeShapes Go.WideShapes Go.ChangeAt

/-- Are the lists equal? -/
def sameB (a b : List Int) : Bool := decide (a = b)
theorem sameB_true {a b : List Int} (h : a = b) : sameB a b = true := decide_eq_true h
theorem sameB_false {a b : List Int} (h : a ≠ b) : sameB a b = false := decide_eq_false h
theorem sameB_iff {a b : List Int} : sameB a b = true ↔ a = b := by unfold sameB; exact decide_eq_true_iff

theorem eq_of_getD {a b : List Int} (hl : a.length = b.length) (h : ∀ j, j < a.length → a[j]?.getD 0 = b[j]?.getD 0) : a = b := by
  apply List.ext_getElem hl
  intro j h1 h2
  have := h j h1
  rw [List.getElem?_eq_getElem h1, List.getElem?_eq_getElem h2] at this
  exact this

theorem below_drewN {B : Nat} {a w : World} (h : Below B a w) (n : Nat) : Below B a (w.drewN n) := h.trans ⟨rfl, rfl, rfl, Nat.le_refl _, fun _ _ => rfl⟩

set_option maxRecDepth 100000 in
set_option maxHeartbeats 1000000 in
theorem same_some (b off cap b' off' cap' : Nat) (len : Nat) (h0 : 0 < len) (zs ys : List Int) (hl : Hid (len = zs.length)) (hl' : Hid (len = ys.length)) (hf : len ≤ cap) (_hf' : len ≤ cap') (ht : len ≤ 140737488351232) (W : World)
    (hb : b < W.heap.size) (hb' : b' < W.heap.size)
    (hc : Hid (∀ j, j < len → W.cell? ⟨b, off + j, none⟩ = some (.int .u8 (zs[j]?.getD 0)))) (hc' : Hid (∀ j, j < len → W.cell? ⟨b', off' + j, none⟩ = some (.int .u8 (ys[j]?.getD 0)))) :
    Calls Try.prog 14 #[.slice (some ⟨b, off, none⟩) len cap, .slice (some ⟨b', off', none⟩) len cap'] W fun e w' => e = .returned (.bool (sameB zs ys)) ∧ Below W.heap.size W w' := by
  go_enter Try.func14, Try.ntmps14
  go_wp2
  go_loopw [5] (fun i wr => ∃ k : Nat, k ≤ len ∧ i = .int .i64 k ∧ Hid (∀ j, j < k → zs[j]?.getD 0 = ys[j]?.getD 0) ∧ Below W.heap.size W wr) (fun i _ => len - (intOf i).toNat)
  case atStart => exact ⟨0, Nat.zero_le _, rfl, fun j h => by omega, Below.refl _ _⟩
  case round =>
    obtain ⟨k, hk, rfl, HE, hB⟩ := hrel
    by_cases hlt : k < len
    · have hcx := (hB.cell (p := ⟨b, off + k, none⟩) hb).trans (hc.out k hlt)
      have hcx' := (hB.cell (p := ⟨b', off' + k, none⟩) hb').trans (hc'.out k hlt)
      by_cases he : zs[k]?.getD 0 = ys[k]?.getD 0
      · have HE2 : Hid (∀ j, j < k + 1 → zs[j]?.getD 0 = ys[j]?.getD 0) := fun j hj => by
          by_cases h : j = k
          · rw [h]; exact he
          · exact HE.out j (by omega)
        have hbe : (zs[k]?.getD 0 != ys[k]?.getD 0) = false := by simp [he]
        clear he
        generalize zs[k]?.getD 0 = x at *
        generalize ys[k]?.getD 0 = y at *
        go_wp2
        go_quiet (fail)
        go_wp2
        go_roundw
        case rel => exact ⟨k + 1, by omega, by go_num, HE2, below_drewN hB _⟩
        case measure => simp [intOf]; omega
      · have HS : Hid (sameB zs ys = false) := sameB_false fun e => he (by rw [e])
        have hbe : (zs[k]?.getD 0 != ys[k]?.getD 0) = true := by simpa using he
        clear he
        generalize zs[k]?.getD 0 = x at *
        generalize ys[k]?.getD 0 = y at *
        go_wp2
        go_quiet (fail)
        go_wp2
        go_ret
        exact ⟨ret_bool HS.out.symm, below_drewN hB _⟩
    · obtain rfl : k = len := by omega
      have HS : Hid (sameB zs ys = true) := sameB_true (eq_of_getD (hl.out.symm.trans hl'.out) (by rw [← hl.out]; exact HE.out))
      go_wp2
      go_ret
      exact ⟨ret_bool HS.out.symm, hB⟩

set_option maxHeartbeats 1000000 in
theorem same_none (a a' : Option Addr) (cap cap' : Nat) (W : World) :
    Calls Try.prog 14 #[.slice a 0 cap, .slice a' 0 cap'] W fun e w' => e = .returned (.bool (sameB [] [])) ∧ Below W.heap.size W w' := by
  have HS : Hid (sameB [] [] = true) := rfl
  go_enter Try.func14, Try.ntmps14
  go_wp2
  go_loop [5] (fun i => i = .int .i64 0) (fun _ => 0)
  case atStart => exact rfl
  case round =>
    obtain rfl := hrel
    go_wp2
    go_ret
    exact ⟨ret_bool HS.out.symm, Below.refl _ _⟩

theorem same_any {K K' : Nat → Prop} {a a' : Option Addr} {len cap len' cap' : Nat} {zs ys : List Int} {W : World} (hR : Rd K W .u8 a len cap zs) (hR' : Rd K' W .u8 a' len' cap' ys) :
    Calls Try.prog 14 #[.slice a len cap, .slice a' len' cap'] W fun e w' => e = .returned (.bool (sameB zs ys)) ∧ Below W.heap.size W w' := by
  by_cases hne : len = len'
  · subst hne
    by_cases h0 : 0 < len
    · obtain ⟨b, off, rfl, _, hb, hc⟩ := hR.cells h0
      obtain ⟨b', off', rfl, _, hb', hc'⟩ := hR'.cells h0
      exact same_some b off cap b' off' cap' len h0 zs ys hR.hl hR'.hl hR.fit hR'.fit hR.small W hb hb' hc hc'
    · obtain rfl : len = 0 := by omega
      obtain rfl : zs = [] := List.eq_nil_of_length_eq_zero hR.hl.symm
      obtain rfl : ys = [] := List.eq_nil_of_length_eq_zero hR'.hl.symm
      exact same_none a a' cap cap' W
  · have HS : Hid (sameB zs ys = false) := sameB_false fun e => hne (by rw [hR.hl, hR'.hl, e])
    have hbe : (len != len') = true := by simpa using hne
    have hbe2 : ((len : Int) != (len' : Int)) = true := by rw [bne_iff_ne]; omega
    clear hne hR hR'
    go_enter Try.func14, Try.ntmps14
    go_wp2
    go_ret
    exact ⟨ret_bool HS.out.symm, Below.refl _ _⟩

set_option maxRecDepth 100000 in
set_option maxHeartbeats 1000000 in
theorem ints_some (b off cap b' off' cap' : Nat) (len : Nat) (h0 : 0 < len) (zs ys : List Int) (hl : Hid (len = zs.length)) (hl' : Hid (len = ys.length)) (hf : len ≤ cap) (_hf' : len ≤ cap') (ht : len ≤ 140737488351232) (W : World)
    (hb : b < W.heap.size) (hb' : b' < W.heap.size)
    (hc : Hid (∀ j, j < len → W.cell? ⟨b, off + j, none⟩ = some (.int .i64 (zs[j]?.getD 0)))) (hc' : Hid (∀ j, j < len → W.cell? ⟨b', off' + j, none⟩ = some (.int .i64 (ys[j]?.getD 0)))) :
    Calls Try.prog 36 #[.slice (some ⟨b, off, none⟩) len cap, .slice (some ⟨b', off', none⟩) len cap'] W fun e w' => e = .returned (.bool (sameB zs ys)) ∧ Below W.heap.size W w' := by
  go_enter Try.func36, Try.ntmps36
  go_wp2
  go_loopw [5] (fun i wr => ∃ k : Nat, k ≤ len ∧ i = .int .i64 k ∧ Hid (∀ j, j < k → zs[j]?.getD 0 = ys[j]?.getD 0) ∧ Below W.heap.size W wr) (fun i _ => len - (intOf i).toNat)
  case atStart => exact ⟨0, Nat.zero_le _, rfl, fun j h => by omega, Below.refl _ _⟩
  case round =>
    obtain ⟨k, hk, rfl, HE, hB⟩ := hrel
    by_cases hlt : k < len
    · have hcx := (hB.cell (p := ⟨b, off + k, none⟩) hb).trans (hc.out k hlt)
      have hcx' := (hB.cell (p := ⟨b', off' + k, none⟩) hb').trans (hc'.out k hlt)
      by_cases he : zs[k]?.getD 0 = ys[k]?.getD 0
      · have HE2 : Hid (∀ j, j < k + 1 → zs[j]?.getD 0 = ys[j]?.getD 0) := fun j hj => by
          by_cases h : j = k
          · rw [h]; exact he
          · exact HE.out j (by omega)
        have hbe : (zs[k]?.getD 0 != ys[k]?.getD 0) = false := by simp [he]
        clear he
        generalize zs[k]?.getD 0 = x at *
        generalize ys[k]?.getD 0 = y at *
        go_wp2
        go_quiet (fail)
        go_wp2
        go_roundw
        case rel => exact ⟨k + 1, by omega, by go_num, HE2, below_drewN hB _⟩
        case measure => simp [intOf]; omega
      · have HS : Hid (sameB zs ys = false) := sameB_false fun e => he (by rw [e])
        have hbe : (zs[k]?.getD 0 != ys[k]?.getD 0) = true := by simpa using he
        clear he
        generalize zs[k]?.getD 0 = x at *
        generalize ys[k]?.getD 0 = y at *
        go_wp2
        go_quiet (fail)
        go_wp2
        go_ret
        exact ⟨ret_bool HS.out.symm, below_drewN hB _⟩
    · obtain rfl : k = len := by omega
      have HS : Hid (sameB zs ys = true) := sameB_true (eq_of_getD (hl.out.symm.trans hl'.out) (by rw [← hl.out]; exact HE.out))
      go_wp2
      go_ret
      exact ⟨ret_bool HS.out.symm, hB⟩

set_option maxHeartbeats 1000000 in
theorem ints_none (a a' : Option Addr) (cap cap' : Nat) (W : World) :
    Calls Try.prog 36 #[.slice a 0 cap, .slice a' 0 cap'] W fun e w' => e = .returned (.bool (sameB [] [])) ∧ Below W.heap.size W w' := by
  have HS : Hid (sameB [] [] = true) := rfl
  go_enter Try.func36, Try.ntmps36
  go_wp2
  go_loop [5] (fun i => i = .int .i64 0) (fun _ => 0)
  case atStart => exact rfl
  case round =>
    obtain rfl := hrel
    go_wp2
    go_ret
    exact ⟨ret_bool HS.out.symm, Below.refl _ _⟩

theorem ints_any {K K' : Nat → Prop} {a a' : Option Addr} {len cap len' cap' : Nat} {zs ys : List Int} {W : World} (hR : Rd K W .i64 a len cap zs) (hR' : Rd K' W .i64 a' len' cap' ys) :
    Calls Try.prog 36 #[.slice a len cap, .slice a' len' cap'] W fun e w' => e = .returned (.bool (sameB zs ys)) ∧ Below W.heap.size W w' := by
  by_cases hne : len = len'
  · subst hne
    by_cases h0 : 0 < len
    · obtain ⟨b, off, rfl, _, hb, hc⟩ := hR.cells h0
      obtain ⟨b', off', rfl, _, hb', hc'⟩ := hR'.cells h0
      exact ints_some b off cap b' off' cap' len h0 zs ys hR.hl hR'.hl hR.fit hR'.fit hR.small W hb hb' hc hc'
    · obtain rfl : len = 0 := by omega
      obtain rfl : zs = [] := List.eq_nil_of_length_eq_zero hR.hl.symm
      obtain rfl : ys = [] := List.eq_nil_of_length_eq_zero hR'.hl.symm
      exact ints_none a a' cap cap' W
  · have HS : Hid (sameB zs ys = false) := sameB_false fun e => hne (by rw [hR.hl, hR'.hl, e])
    have hbe : (len != len') = true := by simpa using hne
    have hbe2 : ((len : Int) != (len' : Int)) = true := by rw [bne_iff_ne]; omega
    clear hne hR hR'
    go_enter Try.func36, Try.ntmps36
    go_wp2
    go_ret
    exact ⟨ret_bool HS.out.symm, Below.refl _ _⟩

/-- A result of reading, as the program's struct. -/
def gotV (u : Int) (l r : Value) (e : Int) : Value := .agg #[.int .u64 u, l, r, .int .i64 e]

set_option maxRecDepth 100000 in
set_option maxHeartbeats 1000000 in
theorem equal_true {K1 K2 K3 K4 : Nat → Prop} {a1 a2 a3 a4 : Option Addr} {n1 c1 n2 c2 n3 c3 n4 c4 : Nat} {zs rs : List Int} {W : World} (u x : Int)
    (h1 : Rd K1 W .i64 a1 n1 c1 zs) (h2 : Rd K2 W .u8 a2 n2 c2 rs) (h3 : Rd K3 W .i64 a3 n3 c3 zs) (h4 : Rd K4 W .u8 a4 n4 c4 rs) :
    Calls Try.prog 23 #[gotV u (.slice a1 n1 c1) (.slice a2 n2 c2) x, gotV u (.slice a3 n3 c3) (.slice a4 n4 c4) x] W fun e w' => e = .returned (.bool true) ∧ Below W.heap.size W w' := by
  unfold gotV
  have hb := Below.refl W.heap.size W
  have H1 := Lib.hid h1
  have H2 := Lib.hid h2
  have H3 := Lib.hid h3
  have H4 := Lib.hid h4
  have HB1 : Hid (sameB zs zs = true) := sameB_true rfl
  have HB2 : Hid (sameB rs rs = true) := sameB_true rfl
  clear h1 h2 h3 h4
  go_enter Try.func23, Try.ntmps23
  go_wp2_with fail
  have hb2 : Below W.heap.size W ((W.alloc (.cells #[.int .u64 u, .slice a1 n1 c1, .slice a2 n2 c2, .int .i64 x] 37)).alloc (.cells #[.int .u64 u, .slice a3 n3 c3, .slice a4 n4 c4, .int .i64 x] 37)) := (hb.alloc (Nat.le_refl _) _).alloc (by simp) _
  refine (ints_any (H1.out.below hb2) (H3.out.below hb2)).mono ?_
  rintro e w1 ⟨rfl, hb1⟩
  have hw : W.heap.size + 1 < ((W.alloc (.cells #[.int .u64 u, .slice a1 n1 c1, .slice a2 n2 c2, .int .i64 x] 37)).alloc (.cells #[.int .u64 u, .slice a3 n3 c3, .slice a4 n4 c4, .int .i64 x] 37)).heap.size := by simp
  have c2' : w1.cell? ⟨W.heap.size, 2, none⟩ = some (.slice a2 n2 c2) := (hb1.cell (p := ⟨W.heap.size, 2, none⟩) (by simp; omega)).trans (by simp [go_sem])
  have c4' : w1.cell? ⟨W.heap.size + 1, 2, none⟩ = some (.slice a4 n4 c4) := (hb1.cell (p := ⟨W.heap.size + 1, 2, none⟩) hw).trans (by simp [go_sem])
  rw [HB1.out]
  have HBW : Hid (Below W.heap.size W w1) := hb2.trans (hb1.mono (by simp; omega))
  clear hb1 hw hb2
  go_wp2_with fail
  refine (same_any (H2.out.below HBW.out) (H4.out.below HBW.out)).mono ?_
  rintro e w2 ⟨rfl, hb3⟩
  rw [HB2.out]
  have HBW2 : Hid (Below W.heap.size W w2) := HBW.out.trans (hb3.mono HBW.out.size)
  clear hb3
  go_wp2
  go_ret
  exact ⟨rfl, HBW2.out⟩

end Go.Proofs.Ythmgbnlffkhblaa
