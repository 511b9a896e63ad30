/-
  The reference's comparisons: of lists of strings, of results; where a string stands in a list.
-/
import Derived.Test.YtdcapmbgnoahpaaDcBase
import Derived.Test.YtdcapmbgnoahpaaDcPart
import Derived.Test.YtdcapmbgnoahpaaPkSame
namespace Go.Proofs.Ytdcapmbgnoahpaa
open Go Go.RowKit Go.Shelf Go.ChangeShapes Go.WideShapes Go.ChangeAt

/-- Are the lists equal? -/
def sameS (a b : List (List UInt8)) : Bool := decide (a = b)
theorem sameS_true {a b : List (List UInt8)} (h : a = b) : sameS a b = true := decide_eq_true h
theorem sameS_false {a b : List (List UInt8)} (h : a ≠ b) : sameS a b = false := decide_eq_false h
theorem eq_of_getDS {a b : List (List UInt8)} (hl : a.length = b.length) (h : ∀ j, j < a.length → a[j]?.getD [] = b[j]?.getD []) : a = b := by
  apply List.ext_getElem hl
  intro j h1 h2
  have := h j h1
  rw [List.getElem?_eq_getElem h1, List.getElem?_eq_getElem h2] at this
  exact this

set_option maxRecDepth 100000 in
set_option maxHeartbeats 1000000 in
theorem sames_any {K K' : Nat → Prop} {a a' : Option Addr} {len cap len' cap' : Nat} {ss ts : List (List UInt8)} {W : World} (hR : RdS K W a len cap ss) (hR' : RdS K' W a' len' cap' ts) :
    Calls Try.prog 20 #[.slice a len cap, .slice a' len' cap'] W fun e w' => e = .returned (.bool (sameS ss ts)) ∧ Below W.heap.size W w' := by
  have hfit := hR.fit
  have hsm := hR.small
  by_cases hne : len = len'
  · subst hne
    have HL := Lib.hid hR.hl
    have HL' := Lib.hid hR'.hl
    have H := Lib.hid hR
    have H' := Lib.hid hR'
    clear hR hR'
    go_enter Try.func20, Try.ntmps20
    go_wp2
    go_loopw [5] (fun i wr => ∃ k : Nat, k ≤ len ∧ i = .int .i64 k ∧ Hid (∀ j, j < k → ss[j]?.getD [] = ts[j]?.getD []) ∧ Below W.heap.size W wr) (fun i _ => len - (intOf i).toNat)
    case atStart => exact ⟨0, Nat.zero_le _, rfl, fun j h => by omega, Below.refl _ _⟩
    case round =>
      obtain ⟨k, hk, rfl, HE, hB⟩ := hrel
      by_cases hlt : k < len
      · obtain ⟨b, off, rfl, _, hb, hc⟩ := H.out.cells (by omega)
        obtain ⟨b', off', rfl, _, hb', hc'⟩ := H'.out.cells (by omega)
        have hcx := (hB.cell (p := ⟨b, off + k, none⟩) hb).trans (hc k hlt)
        have hcx' := (hB.cell (p := ⟨b', off' + k, none⟩) hb').trans (hc' k hlt)
        have HB := Lib.hid hB
        clear hc hc' hB
        by_cases he : ss[k]?.getD [] = ts[k]?.getD []
        · have HE2 : Hid (∀ j, j < k + 1 → ss[j]?.getD [] = ts[j]?.getD []) := fun j hj => by
            by_cases h : j = k
            · rw [h]; exact he
            · exact HE.out j (by omega)
          rw [← he] at hcx'
          clear he
          have hbe := bs_same (ss[k]?.getD []) (ss[k]?.getD [])
          rw [decide_eq_true rfl] at hbe
          generalize bsOf (ss[k]?.getD []) = X at *
          go_wp2
          go_quiet (fail)
          go_wp2
          go_roundw
          case rel => exact ⟨k + 1, by omega, by go_num, HE2, below_drewN HB.out _⟩
          case measure => simp [intOf]; omega
        · have HS : Hid (sameS ss ts = false) := sameS_false fun e => he (by rw [e])
          have hbe := bs_same (ss[k]?.getD []) (ts[k]?.getD [])
          rw [decide_eq_false he] at hbe
          clear he
          generalize bsOf (ss[k]?.getD []) = X at *
          generalize bsOf (ts[k]?.getD []) = Y at *
          go_wp2
          go_quiet (fail)
          go_wp2
          go_ret
          exact ⟨ret_bool HS.out.symm, below_drewN HB.out _⟩
      · obtain rfl : k = len := by omega
        have HS : Hid (sameS ss ts = true) := sameS_true (eq_of_getDS (HL.out.symm.trans HL'.out) (by rw [← HL.out]; exact HE.out))
        go_wp2
        go_ret
        exact ⟨ret_bool HS.out.symm, hB⟩
  · have HS : Hid (sameS ss ts = false) := sameS_false fun e => hne (by rw [hR.hl, hR'.hl, e])
    have hbe : (len != len') = true := by simpa using hne
    have hbe2 : ((len : Int) != (len' : Int)) = true := by rw [bne_iff_ne]; omega
    clear hne hR hR'
    go_enter Try.func20, Try.ntmps20
    go_wp2
    go_ret
    exact ⟨ret_bool HS.out.symm, Below.refl _ _⟩

/-- A result of reading, as the reference's struct. -/
def gotD (d r : Value) (e : Int) : Value := .agg #[d, r, .int .i64 e]

set_option maxRecDepth 100000 in
set_option maxHeartbeats 1000000 in
theorem equalD_any {K1 K2 K3 K4 : Nat → Prop} {a1 a2 a3 a4 : Option Addr} {n1 c1 n2 c2 n3 c3 n4 c4 : Nat} {ss ts : List (List UInt8)} {zs ys : List Int} {W : World} (x y : Int)
    (h1 : RdS K1 W a1 n1 c1 ss) (h2 : Rd K2 W .u8 a2 n2 c2 zs) (h3 : RdS K3 W a3 n3 c3 ts) (h4 : Rd K4 W .u8 a4 n4 c4 ys) :
    Calls Try.prog 26 #[gotD (.slice a1 n1 c1) (.slice a2 n2 c2) x, gotD (.slice a3 n3 c3) (.slice a4 n4 c4) y] W fun e w' => e = .returned (.bool (x == y && (sameS ss ts && sameB zs ys))) ∧ Below W.heap.size W w' := by
  unfold gotD
  have hb2 : Below W.heap.size W ((W.alloc (.cells #[.slice a1 n1 c1, .slice a2 n2 c2, .int .i64 x] 48)).alloc (.cells #[.slice a3 n3 c3, .slice a4 n4 c4, .int .i64 y] 48)) := ((Below.refl _ W).alloc (Nat.le_refl _) _).alloc (by simp) _
  have HT1 : Hid (Tri5 ((W.alloc (.cells #[.slice a1 n1 c1, .slice a2 n2 c2, .int .i64 x] 48)).alloc (.cells #[.slice a3 n3 c3, .slice a4 n4 c4, .int .i64 y] 48)) W.heap.size 48 (.slice a1 n1 c1) (.slice a2 n2 c2) (.int .i64 x)) :=
    (Below.heap_alloc _ _ _ (by simp)).trans (Tri5.new W _ _ _ _)
  have HT2 : Hid (Tri5 ((W.alloc (.cells #[.slice a1 n1 c1, .slice a2 n2 c2, .int .i64 x] 48)).alloc (.cells #[.slice a3 n3 c3, .slice a4 n4 c4, .int .i64 y] 48)) (W.heap.size + 1) 48 (.slice a3 n3 c3) (.slice a4 n4 c4) (.int .i64 y)) := by
    have := Tri5.new (W.alloc (.cells #[.slice a1 n1 c1, .slice a2 n2 c2, .int .i64 x] 48)) 48 (.slice a3 n3 c3) (.slice a4 n4 c4) (.int .i64 y)
    rw [World.size_alloc] at this
    exact Lib.hid this
  have HZ : Hid (W.heap.size + 1 < ((W.alloc (.cells #[.slice a1 n1 c1, .slice a2 n2 c2, .int .i64 x] 48)).alloc (.cells #[.slice a3 n3 c3, .slice a4 n4 c4, .int .i64 y] 48)).heap.size) := by show _ < _; simp
  have H1 := Lib.hid (h1.below hb2)
  have H2 := Lib.hid (h2.below hb2)
  have H3 := Lib.hid (h3.below hb2)
  have H4 := Lib.hid (h4.below hb2)
  have HB := Lib.hid hb2
  clear h1 h2 h3 h4 hb2
  go_enter Try.func26, Try.ntmps26
  cases hxy : (x == y) with
  | false =>
    go_wp2
    go_ret
    exact ⟨rfl, HB.out⟩
  | true =>
    cases hss : sameS ss ts with
    | false =>
      have HS := Lib.hid hss
      clear hss
      go_wp2_with fail
      generalize (W.alloc (.cells #[.slice a1 n1 c1, .slice a2 n2 c2, .int .i64 x] 48)).alloc (.cells #[.slice a3 n3 c3, .slice a4 n4 c4, .int .i64 y] 48) = V at *
      refine (sames_any H1.out H3.out).mono ?_
      rintro e w1 ⟨rfl, hb1⟩
      rw [HS.out]
      have HB1 : Hid (Below W.heap.size W w1) := HB.out.trans (hb1.mono HB.out.size)
      clear hb1
      go_wp2
      go_ret
      exact ⟨rfl, HB1.out⟩
    | true =>
      have HS := Lib.hid hss
      clear hss
      go_wp2_with fail
      generalize (W.alloc (.cells #[.slice a1 n1 c1, .slice a2 n2 c2, .int .i64 x] 48)).alloc (.cells #[.slice a3 n3 c3, .slice a4 n4 c4, .int .i64 y] 48) = V at *
      refine (sames_any H1.out H3.out).mono ?_
      rintro e w1 ⟨rfl, hb1⟩
      rw [HS.out]
      have HB1 : Hid (Below W.heap.size W w1) := HB.out.trans (hb1.mono HB.out.size)
      obtain ⟨p0, p1, p2⟩ := (HT1.out.below hb1 HT1.out.lt).cell
      obtain ⟨q0, q1, q2⟩ := (HT2.out.below hb1 HT2.out.lt).cell
      have HR2 := Lib.hid (H2.out.below hb1)
      have HR4 := Lib.hid (H4.out.below hb1)
      clear hb1
      go_wp2_with fail
      refine (same_any HR2.out HR4.out).mono ?_
      rintro e w2 ⟨rfl, hb2⟩
      have HB2 : Hid (Below W.heap.size W w2) := HB1.out.trans (hb2.mono HB1.out.size)
      obtain ⟨bb, hbb⟩ : ∃ bb, sameB zs ys = bb := ⟨_, rfl⟩
      rw [hbb]
      have HBB := Lib.hid hbb
      clear hb2 hbb
      go_wp2
      go_ret
      exact ⟨ret_bool (by rw [HBB.out]; simp), HB2.out⟩

/-- Where a string stands first in a list, or -1. -/
def fdS (l : List (List UInt8)) (s : List UInt8) : Int := if s ∈ l then (l.idxOf s : Nat) else -1

theorem idx_at : ∀ {l : List (List UInt8)} {s : List UInt8} {k : Nat}, k < l.length → (∀ j, j < k → l[j]?.getD [] ≠ s) → l[k]?.getD [] = s → s ∈ l ∧ l.idxOf s = k
  | [], _, _, hk, _, _ => by simp at hk
  | a :: r, s, 0, _, _, e => by
    have e : a = s := by simpa using e
    subst e
    exact ⟨List.mem_cons_self .., List.idxOf_cons_self⟩
  | a :: r, s, k + 1, hk, h, e => by
    have h0 : a ≠ s := by simpa using h 0 (by omega)
    obtain ⟨h1, h2⟩ := idx_at (l := r) (s := s) (k := k) (by simpa using hk) (fun j hj => by simpa using h (j + 1) (by omega)) (by simpa using e)
    refine ⟨List.mem_cons_of_mem _ h1, ?_⟩
    rw [List.idxOf_cons, h2, beq_eq_false_iff_ne.2 h0]
    rfl
theorem fd_hit {l : List (List UInt8)} {s : List UInt8} {k : Nat} (hk : k < l.length) (h : ∀ j, j < k → l[j]?.getD [] ≠ s) (e : l[k]?.getD [] = s) : fdS l s = k := by
  obtain ⟨h1, h2⟩ := idx_at hk h e
  unfold fdS
  rw [if_pos h1, h2]
theorem fd_miss {l : List (List UInt8)} {s : List UInt8} (h : ∀ j, j < l.length → l[j]?.getD [] ≠ s) : fdS l s = -1 := by
  unfold fdS
  rw [if_neg]
  intro hm
  obtain ⟨i, hi, e⟩ := List.getElem_of_mem hm
  exact h i hi (by rw [List.getElem?_eq_getElem hi]; exact e)

set_option maxRecDepth 100000 in
set_option maxHeartbeats 1000000 in
theorem find_any {K : Nat → Prop} {a : Option Addr} {len cap : Nat} {ss : List (List UInt8)} {W : World} (hR : RdS K W a len cap ss) (s : List UInt8) :
    Calls Try.prog 42 #[.slice a len cap, .string (bsOf s)] W fun e w' => e = .returned (.int .i64 (fdS ss s)) ∧ W = w' := by
  have hfit := hR.fit
  have hsm := hR.small
  have HL := Lib.hid hR.hl
  have H := Lib.hid hR
  have HBS := Lib.hid fun x => bs_same x s
  clear hR
  generalize bsOf s = S at *
  go_enter Try.func42, Try.ntmps42
  go_wp2
  go_loop [5] (fun i => ∃ k : Nat, k ≤ len ∧ i = .int .i64 k ∧ Hid (∀ j, j < k → ss[j]?.getD [] ≠ s)) (fun i => len - (intOf i).toNat)
  case atStart => exact ⟨0, Nat.zero_le _, rfl, fun j h => by omega⟩
  case round =>
    obtain ⟨k, hk, rfl, HE⟩ := hrel
    by_cases hlt : k < len
    · obtain ⟨b, off, rfl, _, hb, hc⟩ := H.out.cells (by omega)
      have hcx := hc k hlt
      have hbe := HBS.out (ss[k]?.getD [])
      clear hc
      by_cases he : ss[k]?.getD [] = s
      · rw [decide_eq_true he] at hbe
        have HF := Lib.hid (fd_hit (by rw [← HL.out]; exact hlt) HE.out he)
        clear he
        generalize bsOf (ss[k]?.getD []) = X at *
        go_wp2
        go_ret
        exact ⟨ret_int HF.out.symm, rfl⟩
      · rw [decide_eq_false he] at hbe
        have HE2 : Hid (∀ j, j < k + 1 → ss[j]?.getD [] ≠ s) := fun j hj => by
          by_cases h : j = k
          · rw [h]; exact he
          · exact HE.out j (by omega)
        clear he
        generalize bsOf (ss[k]?.getD []) = X at *
        go_wp2
        go_round
        case rel => exact ⟨k + 1, by omega, by go_num, HE2⟩
        case measure => simp [intOf]; omega
    · obtain rfl : k = len := by omega
      have HF := Lib.hid (fd_miss (l := ss) (s := s) (by rw [← HL.out]; exact HE.out))
      go_wp2
      go_ret
      exact ⟨ret_int HF.out.symm, rfl⟩

end Go.Proofs.Ytdcapmbgnoahpaa
