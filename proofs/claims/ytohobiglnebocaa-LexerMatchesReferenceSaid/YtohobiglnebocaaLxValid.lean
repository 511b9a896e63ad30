/-
  What is valid, and how it is spelled.
-/
import Derived.Test.YtohobiglnebocaaLxScan
import Derived.Test.YtohobiglnebocaaShelf
namespace Go.Proofs.Ytohobiglnebocaa.Lx
open Go Go.RowKit Go.Shelf Go.Sort Go.ChangeShapes Go.WideShapes Go.ChangeAt
open Go.Proofs.Ytohobiglnebocaa

/-- The library's variable. -/
structure Vars (w : World) : Prop where
  c : ∃ m : Int, w.cell? ⟨0, 0, none⟩ = some (.int .i64 m)
theorem Vars.below {w w' : World} (h : Vars w) (hb : Below w.heap.size w w') : Vars w' := by
  obtain ⟨m, hm⟩ := h.c
  exact ⟨m, by rw [hb.cell (block_lt_of_cell hm)]; exact hm⟩
theorem Vars.kept {w w' : World} {B : Nat} (h : Vars w) (hb : Kept (fun b => b ≠ B) w w') (hB : B ≠ 0) : Vars w' := by
  obtain ⟨m, hm⟩ := h.c
  exact ⟨m, by rw [World.cell?_of_block (hb.block _ (block_lt_of_cell hm) (fun e => hB e.symm))]; exact hm⟩

theorem areDigits_any (s : List UInt8) (hs : s.length ≤ 1048576) (w : World) : Calls Try.prog 38 #[.string (bsOf s)] w fun e w' => e = .returned (.bool (areD s)) ∧ Below w.heap.size w w' := by
  have hz := bs_size s
  have HA := Lib.hid (fun w => all_any isDigit_t s hs w)
  have hE : areD s = (decide (0 < s.length) && s.all digB) := rfl
  by_cases h0 : 0 < s.length
  · have HE : Hid (areD s = s.all digB) := by rw [decide_eq_true h0] at hE; exact hE
    have h1 : 0 < (bsOf s).size := by omega
    clear hz hE
    generalize areD s = z at *
    generalize s.all digB = q at *
    generalize bsOf s = S at *
    go_enter Try.func38, Try.ntmps38
    go_wp2_with (go_at_call 35; refine (HA.out _).mono ?_; rintro e w' ⟨rfl, hb⟩)
    go_ret
    exact ⟨ret_b HE.out.symm, hb⟩
  · have HE : Hid (areD s = false) := by rw [decide_eq_false h0] at hE; exact hE
    have h1 : ¬ 0 < (bsOf s).size := by omega
    clear hz hE
    generalize areD s = z at *
    generalize bsOf s = S at *
    go_enter Try.func38, Try.ntmps38
    go_wp2
    go_ret
    exact ⟨ret_b HE.out.symm, Below.self _⟩

theorem isText_any (s : List UInt8) (hs : s.length ≤ 1048576) (w : World) : Calls Try.prog 20 #[.string (bsOf s)] w fun e w' => e = .returned (.bool (txtB s)) ∧ Below w.heap.size w w' := by
  have hz := bs_size s
  have HA := Lib.hid (fun w => all_any isTextByte_t s hs w)
  have hE : txtB s = (decide (s.length ≤ 40) && s.all txB) := rfl
  by_cases h0 : s.length ≤ 40
  · have HE : Hid (txtB s = s.all txB) := by rw [decide_eq_true h0] at hE; exact hE
    have h1 : (bsOf s).size ≤ 40 := by omega
    clear hz hE
    generalize txtB s = z at *
    generalize s.all txB = q at *
    generalize bsOf s = S at *
    go_enter Try.func20, Try.ntmps20
    go_wp2_with (go_at_call 35; refine (HA.out _).mono ?_; rintro e w' ⟨rfl, hb⟩)
    go_ret
    exact ⟨ret_b HE.out.symm, hb⟩
  · have HE : Hid (txtB s = false) := by rw [decide_eq_false h0] at hE; exact hE
    have h1 : ¬ (bsOf s).size ≤ 40 := by omega
    clear hz hE
    generalize txtB s = z at *
    generalize bsOf s = S at *
    go_enter Try.func20, Try.ntmps20
    go_wp2
    go_ret
    exact ⟨ret_b HE.out.symm, Below.self _⟩

set_option maxRecDepth 100000 in
theorem isWord_any (s : List UInt8) (hs : s.length ≤ 1048576) (w : World) : Calls Try.prog 18 #[.string (bsOf s)] w fun e w' => e = .returned (.bool (wordB s)) ∧ Below w.heap.size w w' := by
  have hz := bs_size s
  have HA := Lib.hid (fun w => all_any isLetterOrDigit_t s hs w)
  have HL := Lib.hid (fun w => isLetter_any (hd s) w)
  have hE : wordB s = (decide (0 < s.length) && decide (s.length ≤ 16) && letB (hd s) && s.all ldB) := rfl
  have hat : ∀ h : 0 < (bsOf s).size, (bsOf s)[0]'h = hd s := fun h => bs_at s 0 h
  by_cases h0 : 0 < s.length
  · have h1 : 0 < (bsOf s).size := by omega
    rw [decide_eq_true h0] at hE
    by_cases h16 : s.length ≤ 16
    · have h2 : (bsOf s).size ≤ 16 := by omega
      rw [decide_eq_true h16] at hE
      have hx := hat h1
      clear hat hz
      obtain ⟨x, hx2⟩ : ∃ x, letB (hd s) = x := ⟨_, rfl⟩
      rw [hx2] at hE HL
      have HE := Lib.hid hE
      clear hE hx2
      generalize wordB s = z at *
      generalize s.all ldB = q at *
      generalize bsOf s = S at *
      generalize hd s = b at *
      cases x
      · go_enter Try.func18, Try.ntmps18
        go_wp2_with (go_at_call 34; refine (HL.out _).mono ?_; rintro e w' ⟨rfl, rfl⟩)
        go_ret
        exact ⟨ret_b HE.out.symm, Below.self _⟩
      · go_enter Try.func18, Try.ntmps18
        go_wp2_with (first
          | (go_at_call 34; refine (HL.out _).mono ?_; rintro e w' ⟨rfl, rfl⟩)
          | (go_at_call 35; refine (HA.out _).mono ?_; rintro e w' ⟨rfl, hb⟩))
        go_ret
        exact ⟨ret_b HE.out.symm, hb⟩
    · have h2 : ¬ (bsOf s).size ≤ 16 := by omega
      have HE : Hid (wordB s = false) := by rw [decide_eq_false h16] at hE; exact hE
      clear hz hE hat
      generalize wordB s = z at *
      generalize bsOf s = S at *
      go_enter Try.func18, Try.ntmps18
      go_wp2
      go_ret
      exact ⟨ret_b HE.out.symm, Below.self _⟩
  · have h1 : ¬ 0 < (bsOf s).size := by omega
    have HE : Hid (wordB s = false) := by rw [decide_eq_false h0] at hE; exact hE
    clear hz hE hat
    generalize wordB s = z at *
    generalize bsOf s = S at *
    go_enter Try.func18, Try.ntmps18
    go_wp2
    go_ret
    exact ⟨ret_b HE.out.symm, Below.self _⟩

/-! ### Signs -/

theorem beq_bs (s : List UInt8) (t : ByteArray) (l : List UInt8) (ht : t.toList = l) : ((bsOf s).toList == t.toList) = decide (s = l) := by
  rw [bs_list, ht]; exact Bool.beq_eq_decide_eq s l
theorem bs_eqs (s : List UInt8) (l : List UInt8) : ((bsOf s).toList == l) = decide (s = l) := by rw [bs_list]; exact Bool.beq_eq_decide_eq s l
theorem sign_not {s : List UInt8} (h : signB s = false) {l : List UInt8} (hl : l ∈ signs) : ((bsOf s).toList == l) = false := by
  rw [bs_eqs]
  refine decide_eq_false fun e => ?_
  subst e
  exact absurd (of_decide_eq_false h) (fun k => k hl)
set_option maxRecDepth 100000 in
theorem isSign_any (s : List UInt8) (w : World) : Calls Try.prog 21 #[.string (bsOf s)] w fun e w' => e = .returned (.bool (signB s)) ∧ w = w' := by
  cases hb : signB s
  · have f0 := sign_not hb (l := [40]) (by decide)
    have f1 := sign_not hb (l := [41]) (by decide)
    have f2 := sign_not hb (l := [44]) (by decide)
    have f3 := sign_not hb (l := [59]) (by decide)
    have f4 := sign_not hb (l := [58]) (by decide)
    have f5 := sign_not hb (l := [46]) (by decide)
    have f6 := sign_not hb (l := [61]) (by decide)
    have f7 := sign_not hb (l := [60]) (by decide)
    have f8 := sign_not hb (l := [60, 61]) (by decide)
    have f9 := sign_not hb (l := [43]) (by decide)
    have f10 := sign_not hb (l := [45]) (by decide)
    have f11 := sign_not hb (l := [42]) (by decide)
    clear hb
    generalize bsOf s = S at *
    go_enter Try.func21, Try.ntmps21
    go_wp2
    go_ret
    exact ⟨rfl, rfl⟩
  · have hm : s ∈ signs := of_decide_eq_true hb
    clear hb
    simp only [signs, List.mem_cons, List.not_mem_nil, or_false] at hm
    rcases hm with rfl | rfl | rfl | rfl | rfl | rfl | rfl | rfl | rfl | rfl | rfl | rfl
    · have f0 : ((bsOf [40]).toList == [40]) = true := by rw [bs_eqs]; decide
      generalize bsOf [40] = S at *
      go_enter Try.func21, Try.ntmps21
      go_wp2
      go_ret
      exact ⟨rfl, rfl⟩
    · have f0 : ((bsOf [41]).toList == [40]) = false := by rw [bs_eqs]; decide
      have f1 : ((bsOf [41]).toList == [41]) = true := by rw [bs_eqs]; decide
      generalize bsOf [41] = S at *
      go_enter Try.func21, Try.ntmps21
      go_wp2
      go_ret
      exact ⟨rfl, rfl⟩
    · have f0 : ((bsOf [44]).toList == [40]) = false := by rw [bs_eqs]; decide
      have f1 : ((bsOf [44]).toList == [41]) = false := by rw [bs_eqs]; decide
      have f2 : ((bsOf [44]).toList == [44]) = true := by rw [bs_eqs]; decide
      generalize bsOf [44] = S at *
      go_enter Try.func21, Try.ntmps21
      go_wp2
      go_ret
      exact ⟨rfl, rfl⟩
    · have f0 : ((bsOf [59]).toList == [40]) = false := by rw [bs_eqs]; decide
      have f1 : ((bsOf [59]).toList == [41]) = false := by rw [bs_eqs]; decide
      have f2 : ((bsOf [59]).toList == [44]) = false := by rw [bs_eqs]; decide
      have f3 : ((bsOf [59]).toList == [59]) = true := by rw [bs_eqs]; decide
      generalize bsOf [59] = S at *
      go_enter Try.func21, Try.ntmps21
      go_wp2
      go_ret
      exact ⟨rfl, rfl⟩
    · have f0 : ((bsOf [58]).toList == [40]) = false := by rw [bs_eqs]; decide
      have f1 : ((bsOf [58]).toList == [41]) = false := by rw [bs_eqs]; decide
      have f2 : ((bsOf [58]).toList == [44]) = false := by rw [bs_eqs]; decide
      have f3 : ((bsOf [58]).toList == [59]) = false := by rw [bs_eqs]; decide
      have f4 : ((bsOf [58]).toList == [58]) = true := by rw [bs_eqs]; decide
      generalize bsOf [58] = S at *
      go_enter Try.func21, Try.ntmps21
      go_wp2
      go_ret
      exact ⟨rfl, rfl⟩
    · have f0 : ((bsOf [46]).toList == [40]) = false := by rw [bs_eqs]; decide
      have f1 : ((bsOf [46]).toList == [41]) = false := by rw [bs_eqs]; decide
      have f2 : ((bsOf [46]).toList == [44]) = false := by rw [bs_eqs]; decide
      have f3 : ((bsOf [46]).toList == [59]) = false := by rw [bs_eqs]; decide
      have f4 : ((bsOf [46]).toList == [58]) = false := by rw [bs_eqs]; decide
      have f5 : ((bsOf [46]).toList == [46]) = true := by rw [bs_eqs]; decide
      generalize bsOf [46] = S at *
      go_enter Try.func21, Try.ntmps21
      go_wp2
      go_ret
      exact ⟨rfl, rfl⟩
    · have f0 : ((bsOf [61]).toList == [40]) = false := by rw [bs_eqs]; decide
      have f1 : ((bsOf [61]).toList == [41]) = false := by rw [bs_eqs]; decide
      have f2 : ((bsOf [61]).toList == [44]) = false := by rw [bs_eqs]; decide
      have f3 : ((bsOf [61]).toList == [59]) = false := by rw [bs_eqs]; decide
      have f4 : ((bsOf [61]).toList == [58]) = false := by rw [bs_eqs]; decide
      have f5 : ((bsOf [61]).toList == [46]) = false := by rw [bs_eqs]; decide
      have f6 : ((bsOf [61]).toList == [61]) = true := by rw [bs_eqs]; decide
      generalize bsOf [61] = S at *
      go_enter Try.func21, Try.ntmps21
      go_wp2
      go_ret
      exact ⟨rfl, rfl⟩
    · have f0 : ((bsOf [60]).toList == [40]) = false := by rw [bs_eqs]; decide
      have f1 : ((bsOf [60]).toList == [41]) = false := by rw [bs_eqs]; decide
      have f2 : ((bsOf [60]).toList == [44]) = false := by rw [bs_eqs]; decide
      have f3 : ((bsOf [60]).toList == [59]) = false := by rw [bs_eqs]; decide
      have f4 : ((bsOf [60]).toList == [58]) = false := by rw [bs_eqs]; decide
      have f5 : ((bsOf [60]).toList == [46]) = false := by rw [bs_eqs]; decide
      have f6 : ((bsOf [60]).toList == [61]) = false := by rw [bs_eqs]; decide
      have f7 : ((bsOf [60]).toList == [60]) = true := by rw [bs_eqs]; decide
      generalize bsOf [60] = S at *
      go_enter Try.func21, Try.ntmps21
      go_wp2
      go_ret
      exact ⟨rfl, rfl⟩
    · have f0 : ((bsOf [60, 61]).toList == [40]) = false := by rw [bs_eqs]; decide
      have f1 : ((bsOf [60, 61]).toList == [41]) = false := by rw [bs_eqs]; decide
      have f2 : ((bsOf [60, 61]).toList == [44]) = false := by rw [bs_eqs]; decide
      have f3 : ((bsOf [60, 61]).toList == [59]) = false := by rw [bs_eqs]; decide
      have f4 : ((bsOf [60, 61]).toList == [58]) = false := by rw [bs_eqs]; decide
      have f5 : ((bsOf [60, 61]).toList == [46]) = false := by rw [bs_eqs]; decide
      have f6 : ((bsOf [60, 61]).toList == [61]) = false := by rw [bs_eqs]; decide
      have f7 : ((bsOf [60, 61]).toList == [60]) = false := by rw [bs_eqs]; decide
      have f8 : ((bsOf [60, 61]).toList == [60, 61]) = true := by rw [bs_eqs]; decide
      generalize bsOf [60, 61] = S at *
      go_enter Try.func21, Try.ntmps21
      go_wp2
      go_ret
      exact ⟨rfl, rfl⟩
    · have f0 : ((bsOf [43]).toList == [40]) = false := by rw [bs_eqs]; decide
      have f1 : ((bsOf [43]).toList == [41]) = false := by rw [bs_eqs]; decide
      have f2 : ((bsOf [43]).toList == [44]) = false := by rw [bs_eqs]; decide
      have f3 : ((bsOf [43]).toList == [59]) = false := by rw [bs_eqs]; decide
      have f4 : ((bsOf [43]).toList == [58]) = false := by rw [bs_eqs]; decide
      have f5 : ((bsOf [43]).toList == [46]) = false := by rw [bs_eqs]; decide
      have f6 : ((bsOf [43]).toList == [61]) = false := by rw [bs_eqs]; decide
      have f7 : ((bsOf [43]).toList == [60]) = false := by rw [bs_eqs]; decide
      have f8 : ((bsOf [43]).toList == [60, 61]) = false := by rw [bs_eqs]; decide
      have f9 : ((bsOf [43]).toList == [43]) = true := by rw [bs_eqs]; decide
      generalize bsOf [43] = S at *
      go_enter Try.func21, Try.ntmps21
      go_wp2
      go_ret
      exact ⟨rfl, rfl⟩
    · have f0 : ((bsOf [45]).toList == [40]) = false := by rw [bs_eqs]; decide
      have f1 : ((bsOf [45]).toList == [41]) = false := by rw [bs_eqs]; decide
      have f2 : ((bsOf [45]).toList == [44]) = false := by rw [bs_eqs]; decide
      have f3 : ((bsOf [45]).toList == [59]) = false := by rw [bs_eqs]; decide
      have f4 : ((bsOf [45]).toList == [58]) = false := by rw [bs_eqs]; decide
      have f5 : ((bsOf [45]).toList == [46]) = false := by rw [bs_eqs]; decide
      have f6 : ((bsOf [45]).toList == [61]) = false := by rw [bs_eqs]; decide
      have f7 : ((bsOf [45]).toList == [60]) = false := by rw [bs_eqs]; decide
      have f8 : ((bsOf [45]).toList == [60, 61]) = false := by rw [bs_eqs]; decide
      have f9 : ((bsOf [45]).toList == [43]) = false := by rw [bs_eqs]; decide
      have f10 : ((bsOf [45]).toList == [45]) = true := by rw [bs_eqs]; decide
      generalize bsOf [45] = S at *
      go_enter Try.func21, Try.ntmps21
      go_wp2
      go_ret
      exact ⟨rfl, rfl⟩
    · have f0 : ((bsOf [42]).toList == [40]) = false := by rw [bs_eqs]; decide
      have f1 : ((bsOf [42]).toList == [41]) = false := by rw [bs_eqs]; decide
      have f2 : ((bsOf [42]).toList == [44]) = false := by rw [bs_eqs]; decide
      have f3 : ((bsOf [42]).toList == [59]) = false := by rw [bs_eqs]; decide
      have f4 : ((bsOf [42]).toList == [58]) = false := by rw [bs_eqs]; decide
      have f5 : ((bsOf [42]).toList == [46]) = false := by rw [bs_eqs]; decide
      have f6 : ((bsOf [42]).toList == [61]) = false := by rw [bs_eqs]; decide
      have f7 : ((bsOf [42]).toList == [60]) = false := by rw [bs_eqs]; decide
      have f8 : ((bsOf [42]).toList == [60, 61]) = false := by rw [bs_eqs]; decide
      have f9 : ((bsOf [42]).toList == [43]) = false := by rw [bs_eqs]; decide
      have f10 : ((bsOf [42]).toList == [45]) = false := by rw [bs_eqs]; decide
      have f11 : ((bsOf [42]).toList == [42]) = true := by rw [bs_eqs]; decide
      generalize bsOf [42] = S at *
      go_enter Try.func21, Try.ntmps21
      go_wp2
      go_ret
      exact ⟨rfl, rfl⟩

end Go.Proofs.Ytohobiglnebocaa.Lx
