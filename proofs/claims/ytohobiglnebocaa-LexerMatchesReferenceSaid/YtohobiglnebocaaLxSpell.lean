/-
  Numbers; valid tokens and their spellings.
-/
import Derived.Test.YtohobiglnebocaaLxQuote
namespace Go.Proofs.Ytohobiglnebocaa.Lx
open Go Go.RowKit Go.Shelf Go.Sort Go.ChangeShapes Go.WideShapes Go.ChangeAt
open Go.Proofs.Ytohobiglnebocaa

/-! ### Cutting at a point -/

theorem below_drewN' {B : Nat} {a w : World} (h : Below B a w) (n : Nat) : Below B a (w.drewN n) := h.trans ⟨rfl, rfl, rfl, Nat.le_refl _, fun _ _ => rfl⟩

theorem pre_ne {c b : UInt8} (l : List UInt8) (h : ¬ c = b) : [c].isPrefixOf (b :: l) = false := by
  show (c == b && List.isPrefixOf [] l) = false
  rw [show (c == b) = false by simpa using h]
  rfl
theorem index_miss (c : UInt8) : ∀ l : List UInt8, c ∉ l → Lib.index l [c] = -1
  | [], _ => rfl
  | b :: l, h => by
    have hb : ¬ (c = b) := fun e => h (e ▸ List.mem_cons_self)
    have ih := index_miss c l (fun hm => h (List.mem_cons_of_mem _ hm))
    show (if [c].isPrefixOf (b :: l) then (0 : Int) else if Lib.index l [c] == -1 then -1 else Lib.index l [c] + 1) = -1
    rw [ih]
    have : [c].isPrefixOf (b :: l) = false := pre_ne _ hb
    rw [this]
    rfl
theorem index_hit (c : UInt8) (r : List UInt8) : ∀ l : List UInt8, c ∉ l → Lib.index (l ++ c :: r) [c] = l.length
  | [], _ => by
    show (if [c].isPrefixOf (c :: r) then (0 : Int) else _) = 0
    have : [c].isPrefixOf (c :: r) = true := by simp
    rw [this]; rfl
  | b :: l, h => by
    have hb : ¬ (c = b) := fun e => h (e ▸ List.mem_cons_self)
    have ih := index_hit c r l (fun hm => h (List.mem_cons_of_mem _ hm))
    show (if [c].isPrefixOf (b :: (l ++ c :: r)) then (0 : Int) else if Lib.index (l ++ c :: r) [c] == -1 then -1 else Lib.index (l ++ c :: r) [c] + 1) = _
    rw [ih]
    have : [c].isPrefixOf (b :: (l ++ c :: r)) = false := pre_ne _ hb
    rw [this]
    have h2 : ((l.length : Int) == -1) = false := by rw [beq_eq_false_iff_ne]; omega
    rw [h2, List.length_cons]
    simp
theorem pt_byte (b : UInt8) : ptB b = true ↔ b = 46 := by
  unfold ptB
  rw [decide_eq_true_iff]
  exact ⟨fun h => (byte_nat b 46 (by decide)).2 h, fun h => by rw [h]; rfl⟩
theorem no_any {l : List UInt8} (h : l.any ptB = false) : (46 : UInt8) ∉ l := fun hm => by
  rw [List.any_eq_false] at h
  exact h 46 hm (by decide)
theorem no_take : ∀ l : List UInt8, (46 : UInt8) ∉ l.takeWhile noPt
  | [] => by simp
  | b :: l => by
    rw [List.takeWhile_cons]
    split
    · rename_i h
      rw [List.mem_cons]
      rintro (e | e)
      · subst e; revert h; decide
      · exact no_take l e
    · simp
theorem take_no {l : List UInt8} (h : l.any ptB = false) : l.takeWhile noPt = l := by
  induction l with
  | nil => rfl
  | cons b l ih =>
    rw [List.any_cons, Bool.or_eq_false_iff] at h
    rw [List.takeWhile_cons, if_pos (by unfold noPt; rw [h.1]; rfl), ih h.2]
theorem split_at : ∀ {l : List UInt8}, l.any ptB = true → l = l.takeWhile noPt ++ 46 :: (l.dropWhile noPt).drop 1
  | [], h => by cases h
  | b :: l, h => by
    by_cases hb : ptB b = true
    · obtain rfl := (pt_byte b).1 hb
      rw [List.takeWhile_cons, List.dropWhile_cons]
      rfl
    · have hb' : ptB b = false := by simpa using hb
      rw [List.any_cons, hb', Bool.false_or] at h
      have hn : noPt b = true := by unfold noPt; rw [hb']; rfl
      rw [List.takeWhile_cons, List.dropWhile_cons, if_pos hn, if_pos hn, List.cons_append, ← split_at h]
theorem cut_key {l W P : List UInt8} (h : l = W ++ 46 :: P) : l.take W.length = W ∧ l.drop (W.length + 1) = P := by
  subst h
  refine ⟨List.take_left, ?_⟩
  rw [← List.drop_drop, List.drop_left]; rfl
theorem cut_pt (l : List UInt8) : Lib.cut l [46] = if l.any ptB then (l.takeWhile noPt, (l.dropWhile noPt).drop 1, true) else (l, [], false) := by
  unfold Lib.cut
  cases h : l.any ptB
  · rw [index_miss 46 l (no_any h)]; rfl
  · have hs := split_at h
    have hi := index_hit 46 ((l.dropWhile noPt).drop 1) (l.takeWhile noPt) (no_take l)
    rw [← hs] at hi
    obtain ⟨k1, k2⟩ := cut_key hs
    rw [hi, if_pos (by omega), if_pos rfl]
    refine Prod.ext ?_ (Prod.ext ?_ rfl)
    · show l.take _ = _
      rw [show ((l.takeWhile noPt).length : Int).toNat = (l.takeWhile noPt).length by omega]
      exact k1
    · show l.drop _ = _
      rw [show ((l.takeWhile noPt).length : Int).toNat + [(46 : UInt8)].length = (l.takeWhile noPt).length + 1 by simp]
      exact k2
theorem cut_len (l : List UInt8) : (Lib.cut l [46]).1.length ≤ l.length ∧ (Lib.cut l [46]).2.1.length ≤ l.length := by
  unfold Lib.cut
  split
  · exact ⟨List.length_take_le' _ _, by show (l.drop _).length ≤ _; rw [List.length_drop]; omega⟩
  · exact ⟨Nat.le_refl _, Nat.zero_le _⟩
theorem numB_cut (s : List UInt8) : numB s = (decide (s.length ≤ 40) && areD (Lib.cut s [46]).1 && (!(Lib.cut s [46]).2.2 || areD (Lib.cut s [46]).2.1)) := by
  unfold numB
  rw [cut_pt]
  cases h : s.any ptB
  · rw [take_no h]; rfl
  · rfl

set_option maxRecDepth 100000 in
theorem isNumber_any (s : List UInt8) (hs : s.length ≤ 1048576) (w : World) (hV : Vars w) : Calls Try.prog 19 #[.string (bsOf s)] w fun e w' => e = .returned (.bool (numB s)) ∧ Below w.heap.size w w' := by
  have hE := numB_cut s
  have hcl := cut_len s
  have hz := bs_size s
  by_cases h40 : s.length ≤ 40
  · have hz1 : (bsOf s).size ≤ 40 := by omega
    rw [decide_eq_true h40] at hE
    obtain ⟨m, hm⟩ := hV.c
    have HC := Try.strings_Cut (bsOf s) ⟨#[46]⟩ m w (by omega) hm
    rw [bs_data] at HC
    have e46 : (⟨#[46]⟩ : ByteArray).data.toList = [46] := rfl
    rw [e46] at HC
    obtain ⟨W, P, d, hq⟩ : ∃ W P d, Lib.cut s [46] = (W, P, d) := ⟨_, _, _, rfl⟩
    rw [hq] at HC hE hcl
    have HCut : Hid (Calls Try.prog 37 #[.string (bsOf s), .string ⟨#[46]⟩] w fun e w' => e = .returned (.tuple #[.string (bsOf W), .string (bsOf P), .bool d]) ∧ ∃ n, w' = w.drewN n) := HC
    have HW := Lib.hid (fun w => areDigits_any W (by have := hcl.1; simp at this; omega) w)
    have HP := Lib.hid (fun w => areDigits_any P (by have := hcl.2; simp at this; omega) w)
    have HE : Hid (numB s = (areD W && (!d || areD P))) := hE
    clear HC e46 hm hq hE hcl hz h40 hs
    generalize numB s = z at *
    generalize bsOf s = S at *
    generalize bsOf W = SW at *
    generalize bsOf P = SP at *
    generalize areD W = qw at *
    generalize areD P = qp at *
    cases qw
    · go_enter Try.func19, Try.ntmps19
      go_wp2_with (first
        | (go_at_call 37; ((with_reducible refine HCut.out.mono ?_); rintro e w' ⟨rfl, nd, rfl⟩))
        | (go_at_call 38; ((with_reducible refine (HW.out _).mono ?_); rintro e w1 ⟨rfl, hb1⟩)))
      go_ret
      exact ⟨ret_b HE.out.symm, (below_drewN' (Below.self w) nd).trans hb1⟩
    · cases d
      · go_enter Try.func19, Try.ntmps19
        go_wp2_with (first
          | (go_at_call 37; ((with_reducible refine HCut.out.mono ?_); rintro e w' ⟨rfl, nd, rfl⟩))
          | (go_at_call 38; ((with_reducible refine (HW.out _).mono ?_); rintro e w1 ⟨rfl, hb1⟩)))
        go_ret
        exact ⟨ret_b HE.out.symm, (below_drewN' (Below.self w) nd).trans hb1⟩
      · go_enter Try.func19, Try.ntmps19
        go_wp2_with (first
          | (go_at_call 37; ((with_reducible refine HCut.out.mono ?_); rintro e w' ⟨rfl, nd, rfl⟩))
          | (go_at_call 38; ((with_reducible refine (HW.out _).mono ?_); rintro e w1 ⟨rfl, hb1⟩))
          | (go_at_call 38; ((with_reducible refine (HP.out _).mono ?_); rintro e w2 ⟨rfl, hb2⟩)))
        go_ret
        exact ⟨ret_b HE.out.symm, ((below_drewN' (Below.self w) nd).trans hb1).trans (hb2.mono hb1.size)⟩
  · have HE : Hid (numB s = false) := by rw [decide_eq_false h40] at hE; exact hE
    have hz1 : ¬ (bsOf s).size ≤ 40 := by omega
    clear hE hz hcl
    generalize numB s = z at *
    generalize bsOf s = S at *
    go_enter Try.func19, Try.ntmps19
    go_wp2
    go_ret
    exact ⟨ret_b HE.out.symm, Below.self _⟩

end Go.Proofs.Ytohobiglnebocaa.Lx
