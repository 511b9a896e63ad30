/-
  The reader of sealed forms: its cells, its small steps. The order of identities: comparing numbers, lists of numbers, files. Files in memory: their order, as the program has it and as the reference has it; whether they are equal. Byte sequences, one behind the other, in new memory: slices.Concat of any number of them. Sealing a file.
-/
import Derived.Test.YtkfmgiacdlkmiaaPkCodes
import Derived.WalkLawsBesides
import Derived.Defers
import Derived.Recover
import Derived.Test.YtkfmgiacdlkmiaaPkSame1
import Derived.Test.YtkfmgiacdlkmiaaByRow
import Derived.ArgAppend
import Derived.Deep.Cut
import Derived.Lib.AppendZeros
import Derived.Test.YtkfmgiacdlkmiaaCtSum
import Derived.Lib.SlBytesConst
namespace Go.Proofs.Ytkfmgiacdlkmiaa
open Go.RowKit Go.Shelf Go.ChangeShapes Go.WideShapes Go.ChangeAt

/-- The five cells of a reader: the whole, what is left, and the file. -/
def Five (W : World) (B : Nat) (a b c d e : Value) : Prop := W.heap[B]? = some (.cells #[a, b, c, d, e] 88 (0, 0))
section
variable {W V : World} {B : Nat} {a b c d e : Value}
theorem Five.c0 (h : Five W B a b c d e) : W.cell? ⟨B, 0, none⟩ = some a := by simp [World.cell?, show W.heap[B]? = _ from h]
theorem Five.c1 (h : Five W B a b c d e) : W.cell? ⟨B, 1, none⟩ = some b := by simp [World.cell?, show W.heap[B]? = _ from h]
theorem Five.c2 (h : Five W B a b c d e) : W.cell? ⟨B, 2, none⟩ = some c := by simp [World.cell?, show W.heap[B]? = _ from h]
theorem Five.c3 (h : Five W B a b c d e) : W.cell? ⟨B, 3, none⟩ = some d := by simp [World.cell?, show W.heap[B]? = _ from h]
theorem Five.c4 (h : Five W B a b c d e) : W.cell? ⟨B, 4, none⟩ = some e := by simp [World.cell?, show W.heap[B]? = _ from h]
theorem Five.f (h : Five W B a b c d e) (o : Nat) : W.frozen? ⟨B, o, none⟩ = false := by simp [World.frozen?, show W.heap[B]? = _ from h]
theorem Five.lt (h : Five W B a b c d e) : B < W.heap.size := (Array.getElem?_eq_some_iff.1 h).1
theorem Five.new (W : World) (a b c d e : Value) : Five (W.alloc (.cells #[a, b, c, d, e] 88)) W.heap.size a b c d e := World.alloc_heap_new W _
theorem Five.below {n : Nat} (h : Five W B a b c d e) (hb : Below n W V) (hn : B < n) : Five V B a b c d e := (hb.block B hn).trans h
theorem Five.set1 (h : Five W B a b c d e) (v : Value) : Five (W.setCell ⟨B, 1, none⟩ v) B a v c d e := by
  have h : W.heap[B]? = _ := h
  show (W.setCell ⟨B, 1, none⟩ v).heap[B]? = _
  simp [World.setCell, Array.getElem?_modify, h]
theorem Five.set2 (h : Five W B a b c d e) (v : Value) : Five (W.setCell ⟨B, 2, none⟩ v) B a b v d e := by
  have h : W.heap[B]? = _ := h
  show (W.setCell ⟨B, 2, none⟩ v).heap[B]? = _
  simp [World.setCell, Array.getElem?_modify, h]
theorem Five.set3 (h : Five W B a b c d e) (v : Value) : Five (W.setCell ⟨B, 3, none⟩ v) B a b c v e := by
  have h : W.heap[B]? = _ := h
  show (W.setCell ⟨B, 3, none⟩ v).heap[B]? = _
  simp [World.setCell, Array.getElem?_modify, h]
theorem Five.set4 (h : Five W B a b c d e) (v : Value) : Five (W.setCell ⟨B, 4, none⟩ v) B a b c d v := by
  have h : W.heap[B]? = _ := h
  show (W.setCell ⟨B, 4, none⟩ v).heap[B]? = _
  simp [World.setCell, Array.getElem?_modify, h]
end
theorem grownBy_cell (W : World) (p : Addr) (v : Value) : W.grownBy (W.setCell p v) (some p.block) :=
  ⟨rfl, rfl, rfl, by simp [World.setCell], fun i _ hne => Below.heap_setCell W p v i (fun e => hne (by rw [e]))⟩
theorem kept_set (W : World) (B o : Nat) (v : Value) : Kept (fun b => b ≠ B) W (W.setCell ⟨B, o, none⟩ v) :=
  Kept.of_grownBy (grownBy_cell W ⟨B, o, none⟩ v) (fun r e => by cases e; exact fun h => h rfl)
theorem Below.of_but {A B : World} {r n : Nat} (h : Kept (fun b => b ≠ r) A B) (hn : n ≤ r) (hs : n ≤ A.heap.size) : Below n A B :=
  h.below (fun k hk => by omega) hs

theorem Rd.first9 {K : Nat → Prop} {W : World} {k : IntKind} {a : Option Addr} {len cap : Nat} {zs : List Int} (h : Rd K W k a len cap zs) (m : Nat) (hm : m ≤ len) : Rd K W k a m cap (zs.take m) := by
  refine ⟨by rw [List.length_take, ← h.hl]; omega, Nat.le_trans hm h.fit, h.top, Nat.le_trans hm h.small, fun h0 => ?_⟩
  obtain ⟨b, off, e, hb, hlt, hc⟩ := h.cells (by omega)
  exact ⟨b, off, e, hb, hlt, fun j hj => by rw [hc j (by omega), List.getElem?_take_of_lt hj]⟩

/-- How a reader gives up. -/
abbrev Fails (x : Int) : Ending := .panicked [{ v := .iface 85 (.int .i64 x), recovered := false }]

theorem isKind_any (k : Int) (W : World) : Calls Try.prog 27 #[.int .i64 k] W fun e V => e = .returned (.bool (decide (1 ≤ k) && decide (k ≤ 9))) ∧ W = V := by
  go_enter Try.func27, Try.ntmps27
  by_cases h : 1 ≤ k
  · go_wp2
    go_ret
    exact ⟨by simp [h], rfl⟩
  · go_wp2
    go_ret
    refine ⟨?_, rfl⟩
    show Ending.returned (.bool false) = _
    rw [show (decide (1 ≤ k) && decide (k ≤ 9)) = false by simp; omega]

theorem require_ok (W : World) : Calls Try.prog 67 #[.bool true] W fun e V => e = .returned (.tuple #[]) ∧ W = V := by
  go_enter Try.func67, Try.ntmps67
  go_wp2
  go_end0
  exact ⟨rfl, rfl⟩
theorem require_no (W : World) : Calls Try.prog 67 #[.bool false] W fun e V => e = Fails 8 ∧ W = V := by
  go_enter Try.func67, Try.ntmps67
  go_wp2
  exact ⟨rfl, rfl, rfl⟩

theorem take_no {B : Nat} {v0 v2 v3 v4 : Value} {a : Option Addr} {len cap : Nat} {W : World} (h : Five W B v0 (.slice a len cap) v2 v3 v4) (m : Nat) (hm : len < m) :
    Calls Try.prog 68 #[.pointer (some ⟨B, 0, none⟩), .int .i64 m] W fun e V => e = Fails 7 ∧ W = V := by
  have c1 := h.c1
  go_enter Try.func68, Try.ntmps68
  go_wp2
  exact ⟨rfl, rfl, rfl⟩

theorem take_ok {K : Nat → Prop} {B : Nat} {v0 v2 v3 v4 : Value} {a : Option Addr} {len cap : Nat} {zs : List Int} {W : World} (h : Five W B v0 (.slice a len cap) v2 v3 v4) (hR : Rd K W .u8 a len cap zs) (hc : 0 < len ∨ cap = 0) (m : Nat) (hm : m ≤ len) :
    Calls Try.prog 68 #[.pointer (some ⟨B, 0, none⟩), .int .i64 m] W fun e V => ∃ a2 c2, e = .returned (.slice a m cap) ∧ V = W.setCell ⟨B, 1, none⟩ (.slice a2 (len - m) c2) ∧ Rd K W .u8 a m cap (zs.take m) ∧ Rd K W .u8 a2 (len - m) c2 (zs.drop m) := by
  have c1 := h.c1
  have f1 := h.f 1
  have hfit := hR.fit
  have htop := hR.top
  have hsm := hR.small
  have HT := Lib.hid (hR.first9 m hm)
  by_cases hmc : m = cap
  · subst hmc
    obtain rfl : m = len := by omega
    have HRR : Hid (Rd K W .u8 a (m - m) 0 (zs.drop m)) := ⟨by rw [List.length_drop, ← hR.hl], by omega, by decide, by omega, fun h => by omega⟩
    clear hR
    go_enter Try.func68, Try.ntmps68
    go_wp2
    go_ret
    exact ⟨_, _, rfl, by simp, HT.out, HRR.out⟩
  · obtain ⟨b, off, rfl, hk, hlt, hcs⟩ := hR.cells (by omega)
    have HRR : Hid (Rd K W .u8 (some ⟨b, off + m, none⟩) (len - m) (cap - m) (zs.drop m)) := hR.rest m hm _ (by omega) (by omega) _ (fun _ => rfl)
    clear hcs hR
    have hmc' : m < cap := by omega
    go_enter Try.func68, Try.ntmps68
    go_wp2
    go_ret
    exact ⟨_, _, rfl, by simp, HT.out, HRR.out⟩

/-- What is left behind a part that was read, if there was no error. -/
theorem goOn_ok {B : Nat} {v0 v1 v2 v3 v4 : Value} {a : Option Addr} {n c : Nat} {W : World} (h : Five W B v0 v1 v2 v3 v4) :
    Calls Try.prog 70 #[.pointer (some ⟨B, 0, none⟩), .slice a n c, .int .i64 0] W fun e V => e = .returned (.tuple #[]) ∧ V = W.setCell ⟨B, 1, none⟩ (.slice a n c) := by
  have c1 := h.c1
  have f1 := h.f 1
  have hlt := h.lt
  go_enter Try.func70, Try.ntmps70
  go_wp2_with (go_at_call 67; refine (require_ok _).mono ?_; rintro e w' ⟨rfl, rfl⟩)
  go_end0
  exact ⟨rfl, rfl⟩
theorem goOn_no {B : Nat} {sv : Value} {W : World} {x : Int} (hx : x ≠ 0) :
    Calls Try.prog 70 #[.pointer (some ⟨B, 0, none⟩), sv, .int .i64 x] W fun e V => e = Fails (if x = 7 then 7 else 8) ∧ W = V := by
  go_enter Try.func70, Try.ntmps70
  by_cases h7 : x = 7
  · subst h7
    go_wp2
    exact ⟨rfl, rfl, rfl⟩
  · have h7b : (x == 7) = false := beq_false_of_ne h7
    have h0b : (x == 0) = false := beq_false_of_ne hx
    go_wp2_with (go_at_call 67; refine (require_no _).mono ?_; rintro e w' ⟨rfl, rfl⟩)
    exact ⟨rfl, rfl, rfl⟩

theorem kind_none {B : Nat} {v0 v2 v3 v4 : Value} {a : Option Addr} {cap : Nat} {W : World} (h : Five W B v0 (.slice a 0 cap) v2 v3 v4) :
    Calls Try.prog 51 #[.pointer (some ⟨B, 0, none⟩)] W fun e V => e = Fails 7 ∧ Kept (fun b => b ≠ B) W V := by
  have HT := Lib.hid (take_no h 1 (by decide))
  go_enter Try.func51, Try.ntmps51
  go_wp2_with (go_at_call 68; refine HT.out.mono ?_; rintro e w' ⟨rfl, rfl⟩)
  exact ⟨rfl, rfl, Kept.refl _ _⟩

end Go.Proofs.Ytkfmgiacdlkmiaa

namespace Go.Proofs.Ytkfmgiacdlkmiaa
open Go.RowKit Go.Shelf Go.ChangeShapes Go.WideShapes Go.ChangeAt

def cmpI (a b : Int) : Int := if a < b then -1 else if b < a then 1 else 0
def cmpN : List Int → List Int → Int
  | [], [] => 0
  | [], _ :: _ => -1
  | _ :: _, [] => 1
  | x :: xs, y :: ys => if x < y then -1 else if y < x then 1 else cmpN xs ys

theorem cmpN_nil : cmpN [] [] = 0 := rfl
theorem cmpN_at {xs ys : List Int} {k : Nat} (h1 : k < xs.length) (h2 : k < ys.length) : cmpN (xs.drop k) (ys.drop k) = if xs[k]?.getD 0 < ys[k]?.getD 0 then -1 else if ys[k]?.getD 0 < xs[k]?.getD 0 then 1 else cmpN (xs.drop (k + 1)) (ys.drop (k + 1)) := by
  rw [drop_getD_cons xs k h1, drop_getD_cons ys k h2]; rfl
theorem cmpN_end1 {xs ys : List Int} {k : Nat} (h1 : k < xs.length) (h2 : ys.length ≤ k) : cmpN (xs.drop k) (ys.drop k) = 1 := by
  rw [drop_getD_cons xs k h1, List.drop_of_length_le h2]; rfl
theorem cmpN_end2 {xs ys : List Int} {k : Nat} (h1 : xs.length ≤ k) (h2 : k < ys.length) : cmpN (xs.drop k) (ys.drop k) = -1 := by
  rw [drop_getD_cons ys k h2, List.drop_of_length_le h1]; rfl
theorem cmpN_end3 {xs ys : List Int} {k : Nat} (h1 : xs.length ≤ k) (h2 : ys.length ≤ k) : cmpN (xs.drop k) (ys.drop k) = 0 := by
  rw [List.drop_of_length_le h2, List.drop_of_length_le h1]; rfl

theorem cmpI_any (x y : Int) (W : World) : Calls Try.prog 20 #[.int .i64 x, .int .i64 y] W fun e V => e = .returned (.int .i64 (cmpI x y)) ∧ W = V := by
  unfold cmpI
  by_cases h1 : x < y
  · rw [if_pos h1]
    go_enter Try.func20, Try.ntmps20
    go_wp2
    go_ret
    exact ⟨rfl, rfl⟩
  · rw [if_neg h1]
    by_cases h2 : y < x
    · rw [if_pos h2]
      go_enter Try.func20, Try.ntmps20
      go_wp2
      go_ret
      exact ⟨rfl, rfl⟩
    · rw [if_neg h2]
      go_enter Try.func20, Try.ntmps20
      go_wp2
      go_ret
      exact ⟨rfl, rfl⟩

theorem or2_any (b : Nat) (x y : Int) (W : World) (h0 : W.cell? ⟨b, 0, none⟩ = some (.int .i64 x)) (h1 : W.cell? ⟨b, 1, none⟩ = some (.int .i64 y)) :
    Calls Try.prog 19 #[.slice (some ⟨b, 0, none⟩) 2 2] W fun e V => e = .returned (.int .i64 (if x = 0 then y else x)) ∧ W = V := by
  go_enter Try.func19, Try.ntmps19
  go_wp2
  go_loop [8] (fun i => (i = .int .i64 0) ∨ (i = .int .i64 1 ∧ Hid (x = 0)) ∨ (i = .int .i64 2 ∧ Hid (x = 0) ∧ Hid (y = 0))) (fun i => 2 - (intOf i).toNat)
  case atStart => exact .inl rfl
  case round =>
    rcases hrel with rfl | ⟨rfl, hx⟩ | ⟨rfl, hx, hy⟩
    · by_cases hx : x = 0
      · have HX := Lib.hid hx
        have hxb : (x != 0) = false := by simp [hx]
        clear hx
        go_wp2
        go_round
        case rel => exact .inr (.inl ⟨by go_num, HX⟩)
        case measure => simp [intOf]
      · have hxb : (x != 0) = true := by simpa using hx
        have HX := Lib.hid hx
        clear hx
        go_wp2
        go_ret
        exact ⟨rfl, rfl⟩
    · by_cases hy : y = 0
      · have HY := Lib.hid hy
        have hyb : (y != 0) = false := by simp [hy]
        clear hy
        go_wp2
        go_round
        case rel => exact .inr (.inr ⟨by go_num, hx, HY⟩)
        case measure => simp [intOf]
      · have hyb : (y != 0) = true := by simpa using hy
        clear hy
        go_wp2
        go_ret
        exact ⟨rfl, rfl⟩
    · go_wp2
      go_ret
      exact ⟨by rw [hy.out]; rfl, rfl⟩

set_option maxRecDepth 100000 in
set_option maxHeartbeats 1000000 in
theorem compare_any {K K' : Nat → Prop} {a a' : Option Addr} {n c n' c' : Nat} {xs ys : List Int} {W : World} (h1 : Rd K W .i64 a n c xs) (h2 : Rd K' W .i64 a' n' c' ys) :
    Calls Try.prog 21 #[.slice a n c, .slice a' n' c'] W fun e V => e = .returned (.int .i64 (cmpN xs ys)) ∧ W = V := by
  have H1 := Lib.hid h1
  have H2 := Lib.hid h2
  have hs1 := h1.small
  have hs2 := h2.small
  have HL1 := Lib.hid h1.hl
  have HL2 := Lib.hid h2.hl
  clear h1 h2
  go_enter Try.func21, Try.ntmps21
  go_wp2
  go_loop [11] (fun i => ∃ k : Nat, k ≤ n ∧ k ≤ n' ∧ i = .int .i64 (k : Int) ∧ Hid (cmpN (xs.drop k) (ys.drop k) = cmpN xs ys)) (fun i => n - (intOf i).toNat)
  case atStart => exact ⟨0, Nat.zero_le _, Nat.zero_le _, rfl, rfl⟩
  case round =>
    obtain ⟨k, hk, hk', rfl, HE⟩ := hrel
    by_cases hlt : k < n
    · obtain ⟨b, off, rfl, _, _, hc⟩ := H1.out.cells (by omega)
      have hck := hc k hlt
      by_cases hlt' : k < n'
      · obtain ⟨b', off', rfl, _, _, hc'⟩ := H2.out.cells (by omega)
        have hck' := hc' k hlt'
        have he := cmpN_at (xs := xs) (ys := ys) (k := k) (by rw [← HL1.out]; exact hlt) (by rw [← HL2.out]; exact hlt')
        rw [HE.out] at he
        clear hc hc'
        generalize xs[k]?.getD 0 = x at *
        generalize ys[k]?.getD 0 = y at *
        by_cases hxy : x < y
        · have hci : cmpI x y = -1 := by unfold cmpI; rw [if_pos hxy]
          rw [if_pos hxy] at he
          have HEE := Lib.hid he
          clear he
          go_wp2_with (go_at_call 20; refine (cmpI_any x y _).mono ?_; rintro e V ⟨rfl, rfl⟩; rw [hci])
          go_ret
          exact ⟨by rw [HEE.out]; rfl, rfl⟩
        · by_cases hyx : y < x
          · have hci : cmpI x y = 1 := by unfold cmpI; rw [if_neg hxy, if_pos hyx]
            rw [if_neg hxy, if_pos hyx] at he
            have HEE := Lib.hid he
            clear he
            go_wp2_with (go_at_call 20; refine (cmpI_any x y _).mono ?_; rintro e V ⟨rfl, rfl⟩; rw [hci])
            go_ret
            exact ⟨by rw [HEE.out]; rfl, rfl⟩
          · have hci : cmpI x y = 0 := by unfold cmpI; rw [if_neg hxy, if_neg hyx]
            rw [if_neg hxy, if_neg hyx] at he
            have HEE := Lib.hid he
            clear he
            go_wp2_with (go_at_call 20; refine (cmpI_any x y _).mono ?_; rintro e V ⟨rfl, rfl⟩; rw [hci])
            go_round
            case rel => exact ⟨k + 1, by omega, by omega, by go_num, HEE.out.symm⟩
            case measure => simp [intOf]; omega
      · obtain rfl : k = n' := by omega
        have HEE : Hid (cmpN xs ys = 1) := by rw [← HE.out]; exact cmpN_end1 (by rw [← HL1.out]; exact hlt) (by rw [← HL2.out]; exact Nat.le_refl _)
        go_wp2
        go_ret
        exact ⟨by rw [HEE.out]; rfl, rfl⟩
    · obtain rfl : k = n := by omega
      by_cases hlt' : k < n'
      · have HEE : Hid (cmpN xs ys = -1) := by rw [← HE.out]; exact cmpN_end2 (by rw [← HL1.out]; exact Nat.le_refl _) (by rw [← HL2.out]; exact hlt')
        go_wp2
        go_ret
        exact ⟨by rw [HEE.out]; rfl, rfl⟩
      · have HEE : Hid (cmpN xs ys = 0) := by rw [← HE.out]; exact cmpN_end3 (by rw [← HL1.out]; exact Nat.le_refl _) (by rw [← HL2.out]; omega)
        go_wp2
        go_ret
        exact ⟨by rw [HEE.out]; rfl, rfl⟩

set_option maxRecDepth 100000 in
set_option maxHeartbeats 1000000 in
theorem cmpInts_any {K K' : Nat → Prop} {a a' : Option Addr} {n c n' c' : Nat} {xs ys : List Int} {W : World} (h1 : Rd K W .i64 a n c xs) (h2 : Rd K' W .i64 a' n' c' ys) :
    Calls Try.prog 22 #[.slice a n c, .slice a' n' c'] W fun e V => e = .returned (.int .i64 (cmpN xs ys)) ∧ Below W.heap.size W V := by
  have H1 := Lib.hid h1
  have H2 := Lib.hid h2
  have hs1 := h1.small
  have hs2 := h2.small
  have HL1 := Lib.hid h1.hl
  have HL2 := Lib.hid h2.hl
  clear h1 h2
  go_enter Try.func22, Try.ntmps22
  go_wp2
  go_loopw [5] (fun i wr => ∃ k : Nat, k ≤ n ∧ k ≤ n' ∧ i = .int .i64 (k : Int) ∧ Hid (cmpN (xs.drop k) (ys.drop k) = cmpN xs ys) ∧ Below W.heap.size W wr) (fun i _ => n - (intOf i).toNat)
  case atStart => exact ⟨0, Nat.zero_le _, Nat.zero_le _, rfl, rfl, Below.refl _ _⟩
  case round =>
    obtain ⟨k, hk, hk', rfl, HE, hB⟩ := hrel
    by_cases hlt : k < n
    · obtain ⟨b, off, rfl, _, hb1, hc⟩ := H1.out.cells (by omega)
      have hck := (hB.cell (p := ⟨b, off + k, none⟩) hb1).trans (hc k hlt)
      by_cases hlt' : k < n'
      · obtain ⟨b', off', rfl, _, hb2, hc'⟩ := H2.out.cells (by omega)
        have hck' := (hB.cell (p := ⟨b', off' + k, none⟩) hb2).trans (hc' k hlt')
        have he := cmpN_at (xs := xs) (ys := ys) (k := k) (by rw [← HL1.out]; exact hlt) (by rw [← HL2.out]; exact hlt')
        rw [HE.out] at he
        clear hc hc'
        generalize xs[k]?.getD 0 = x at *
        generalize ys[k]?.getD 0 = y at *
        by_cases hxy : x < y
        · rw [if_pos hxy] at he
          have HEE := Lib.hid he
          clear he
          go_wp2
          go_quiet (fail)
          go_wp2
          go_ret
          exact ⟨by rw [HEE.out]; rfl, below_drewN hB _⟩
        · by_cases hyx : y < x
          · rw [if_neg hxy, if_pos hyx] at he
            have HEE := Lib.hid he
            clear he
            go_wp2
            go_quiet (fail)
            go_wp2
            go_quiet (fail)
            go_wp2
            go_ret
            exact ⟨by rw [HEE.out]; rfl, below_drewN (below_drewN hB _) _⟩
          · rw [if_neg hxy, if_neg hyx] at he
            have HEE := Lib.hid he
            clear he
            go_wp2
            go_quiet (fail)
            go_wp2
            go_quiet (fail)
            go_wp2
            go_roundw
            case rel => exact ⟨k + 1, by omega, by omega, by go_num, HEE.out.symm, below_drewN hB _⟩
            case measure => simp [intOf]; omega
      · obtain rfl : k = n' := by omega
        have HEE : Hid (cmpN xs ys = 1) := by rw [← HE.out]; exact cmpN_end1 (by rw [← HL1.out]; exact hlt) (by rw [← HL2.out]; exact Nat.le_refl _)
        go_wp2
        go_ret
        exact ⟨by rw [HEE.out]; rfl, hB⟩
    · obtain rfl : k = n := by omega
      by_cases hlt' : k < n'
      · have HEE : Hid (cmpN xs ys = -1) := by rw [← HE.out]; exact cmpN_end2 (by rw [← HL1.out]; exact Nat.le_refl _) (by rw [← HL2.out]; exact hlt')
        go_wp2
        go_ret
        exact ⟨by rw [HEE.out]; rfl, hB⟩
      · obtain rfl : k = n' := by omega
        have HEE : Hid (cmpN xs ys = 0) := by rw [← HE.out]; exact cmpN_end3 (by rw [← HL1.out]; exact Nat.le_refl _) (by rw [← HL2.out]; exact Nat.le_refl _)
        go_wp2
        go_ret
        exact ⟨by rw [HEE.out]; rfl, hB⟩

end Go.Proofs.Ytkfmgiacdlkmiaa

namespace Go.Proofs.Ytkfmgiacdlkmiaa
open Go Go.RowKit Go.Shelf Go.ChangeShapes Go.WideShapes Go.ChangeAt

theorem Try.infoI9 : (Try.prog.info? 3).map (fun i => (i.zero, i.size, i.bytes)) = some (some (.int .i64 0), 1, 8) := by kernel_rfl

/-- A file. -/
structure Fl where
  k : Int
  id : List Int
  data : List Int
deriving DecidableEq
def fileV (k : Int) (s1 s2 : Value) : Value := .agg #[.int .i64 k, s1, s2]
/-- Three cells of a file. -/
def FileB (W : World) (B : Nat) (k : Int) (s1 s2 : Value) : Prop := W.heap[B]? = some (.cells #[.int .i64 k, s1, s2] 25 (0, 0))
section
variable {W V : World} {B : Nat} {k : Int} {s1 s2 : Value}
theorem FileB.c0 (h : FileB W B k s1 s2) : W.cell? ⟨B, 0, none⟩ = some (.int .i64 k) := by simp [World.cell?, show W.heap[B]? = _ from h]
theorem FileB.c1 (h : FileB W B k s1 s2) : W.cell? ⟨B, 1, none⟩ = some s1 := by simp [World.cell?, show W.heap[B]? = _ from h]
theorem FileB.c2 (h : FileB W B k s1 s2) : W.cell? ⟨B, 2, none⟩ = some s2 := by simp [World.cell?, show W.heap[B]? = _ from h]
theorem FileB.f (h : FileB W B k s1 s2) (o : Nat) : W.frozen? ⟨B, o, none⟩ = false := by simp [World.frozen?, show W.heap[B]? = _ from h]
theorem FileB.lt (h : FileB W B k s1 s2) : B < W.heap.size := (Array.getElem?_eq_some_iff.1 h).1
theorem FileB.new (W : World) (k : Int) (s1 s2 : Value) : FileB (W.alloc (.cells #[.int .i64 k, s1, s2] 25)) W.heap.size k s1 s2 := World.alloc_heap_new W _
theorem FileB.below {n : Nat} (h : FileB W B k s1 s2) (hb : Below n W V) (hn : B < n) : FileB V B k s1 s2 := (hb.block B hn).trans h
end

theorem cmpI_zero {a b : Int} : cmpI a b = 0 ↔ a = b := by unfold cmpI; split <;> (try split) <;> omega
theorem cmpN_zero : ∀ {xs ys : List Int}, cmpN xs ys = 0 ↔ xs = ys
  | [], [] => by simp [cmpN]
  | [], _ :: _ => by simp [cmpN]
  | _ :: _, [] => by simp [cmpN]
  | x :: xs, y :: ys => by
    unfold cmpN
    split
    · next h =>
      constructor
      · intro e; exact absurd e (by decide)
      · intro e; injection e; omega
    · split
      · next h =>
        constructor
        · intro e; exact absurd e (by decide)
        · intro e; injection e; omega
      · rw [cmpN_zero]
        constructor
        · intro e; rw [e, show x = y by omega]
        · intro e; injection e
/-- The order of identities. -/
def cmpF (k : Int) (id : List Int) (k' : Int) (id' : List Int) : Int := if cmpI k k' = 0 then cmpN id id' else cmpI k k'
theorem cmpF_cons (k : Int) (id : List Int) (k' : Int) (id' : List Int) : cmpN (k :: id) (k' :: id') = cmpF k id k' id' := by
  unfold cmpF cmpI
  rw [cmpN]
  by_cases h1 : k < k'
  · simp [h1]
  · by_cases h2 : k' < k
    · simp [h1, h2]
    · simp [h1, h2]
theorem cmpF_zero {k k' : Int} {id id' : List Int} : cmpF k id k' id' = 0 ↔ k = k' ∧ id = id' := by
  rw [← cmpF_cons, cmpN_zero]; simp

/-- An append whose run is known, which writes nothing that there was. -/
theorem step_appendF {P : Program} {ops : Array Oper} {Q : Exit → Act → World → Prop} {φ : Fact} {o : Oper} {a : Act} {W : World} (hw : Region.wanted o (yielded ops a.tmps) = true) (s x : Operand) (t tn : TypeId)
    (ho : o.op = .call { callee := .builtin .append, args := #[s, x], argTypes := #[t, tn] }) {vx : Value} (hx : a.eval x = vx)
    {v' : Value} {w' : World} (hr : (Builtin.append_ #[t, tn] o.type #[a.eval s, vx]).run P W = .ok v' w') (hb : Below W.heap.size W w') (hv : φ v' w') : StepOk P ops Q φ o a W :=
  step_appendB hw s x t tn ho rfl hx hr hb hv
/-- Two numbers, one behind the other. -/
def TwoF (x y : Int) : Fact := fun v W => ∃ g, v = .slice (some ⟨g, 0, none⟩) 2 2 ∧ g < W.heap.size ∧ W.cell? ⟨g, 0, none⟩ = some (.int .i64 x) ∧ W.cell? ⟨g, 1, none⟩ = some (.int .i64 y)
theorem twoF_stable (x y : Int) : (TwoF x y).Stable := fun _ _ _ ⟨g, e, h, c0, c1⟩ hb => ⟨g, e, Nat.lt_of_lt_of_le h hb.size, (hb.cell (p := ⟨g, 0, none⟩) h).trans c0, (hb.cell (p := ⟨g, 1, none⟩) h).trans c1⟩
theorem twoF_new (W : World) (x y : Int) : TwoF x y (.slice (some ⟨W.heap.size, 0, none⟩) 2 2) (W.alloc (.cells #[.int .i64 x, .int .i64 y] 3)) := by
  have h : (W.alloc (.cells #[.int .i64 x, .int .i64 y] 3)).heap[W.heap.size]? = _ := World.alloc_heap_new W _
  exact ⟨_, rfl, (Array.getElem?_eq_some_iff.1 h).1, by unfold World.cell?; rw [h]; rfl, by unfold World.cell?; rw [h]; rfl⟩
/-- One number in a row of its own. -/
def OneF (x : Int) : Fact := fun v W => ∃ g, v = .slice (some ⟨g, 0, none⟩) 1 1 ∧ W.heap[g]? = some (.cells #[.int .i64 x] 3 (0, 0))
theorem oneF_stable (x : Int) : (OneF x).Stable := fun _ _ _ ⟨g, e, h⟩ hb => ⟨g, e, (hb.block g (Array.getElem?_eq_some_iff.1 h).1).trans h⟩
theorem oneF_new (W : World) (x : Int) : OneF x (.slice (some ⟨W.heap.size, 0, none⟩) 1 1) (W.alloc (.cells #[.int .i64 x] 3)) := ⟨_, rfl, World.alloc_heap_new W _⟩
/-- What reads as numbers. -/
def IntsF (zs : List Int) : Fact := fun v W => ∃ a n c, v = .slice a n c ∧ Rd (fun _ => True) W .i64 a n c zs
theorem intsF_stable (zs : List Int) : (IntsF zs).Stable := fun _ _ _ ⟨a, n, c, e, h⟩ hb => ⟨a, n, c, e, h.below hb⟩
theorem oneF_append {x : Int} {ys : List Int} {v : Value} {W : World} (h : OneF x v W) {K : Nat → Prop} {a : Option Addr} {n c : Nat} (hR : Rd K W .i64 a n c ys) (hl : n ≤ 100000000) :
    ∃ v' w', (Builtin.append_ #[22, 22] 22 #[v, .slice a n c]).run Try.prog W = .ok v' w' ∧ IntsF (x :: ys) v' w' ∧ Below W.heap.size W w' := by
  obtain ⟨i0, hi, hz0, hz1, hz2⟩ := info_parts Try.infoI9
  obtain ⟨g, rfl, hg⟩ := h
  have hl1 := hR.hl
  have hglt := (Array.getElem?_eq_some_iff.1 hg).1
  have hc0 : W.cell? ⟨g, 0, none⟩ = some (.int .i64 x) := by simp [World.cell?, hg]
  by_cases h0 : n = 0
  · subst h0
    obtain rfl : ys = [] := List.eq_nil_of_length_eq_zero hl1.symm
    refine ⟨_, W, run_append_empty W 22 22 3 i0 Try.underlying22 hi _ 1 1 (Nat.le_refl _) a c, ⟨_, 1, 1, rfl, rfl, Nat.le_refl _, by decide, by decide, fun _ => ⟨g, 0, rfl, trivial, hglt, fun j hj => ?_⟩⟩, Below.refl _ W⟩
    obtain rfl : j = 0 := by omega
    exact hc0
  · obtain ⟨b, off, rfl, _, _, hc⟩ := hR.cells (by omega)
    subst hl1
    obtain ⟨v', w', hr, h3, h4⟩ := run_append_arg_grows (P := Try.prog) W 22 22 3 i0 _ 1 8 Try.underlying22 hi hz0 hz1 hz2 rfl (by decide) ⟨g, 0, none⟩ 1 1 [.int .i64 x] rfl (fun j u hu => by
        have hj : j < 1 := by
          have := (List.getElem?_eq_some_iff.1 hu).1
          simpa using this
        obtain rfl : j = 0 := by omega
        cases hu
        rw [add_plain]
        exact hc0) ⟨b, off, none⟩ ys.length c (ys.map (Value.int .i64)) (by simp)
      (rd_cells hc) (by omega) (by unfold maxLen; omega) (by omega)
    have hne : ¬ v' = .slice none 0 0 := fun e => by
      subst e
      rcases h3.2 with ⟨_, e⟩ | ⟨g', c', cur, e, _⟩
      · omega
      · cases e
    obtain ⟨g', cap, rfl, hn, hg'⟩ := row_form h3 hne
    have hrow : w'.ownsRow W.heap.size 3 1 (.slice (some ⟨g', 0, none⟩) (1 + ys.length) cap) (1 + ys.length) ((x :: ys).map (Value.int .i64)) := h3
    exact ⟨_, w', hr, ⟨_, _, _, rfl, (Rd.of_row (by simp; omega) hn (by omega) hrow).mono fun _ _ _ => trivial⟩, (Below.refl W.heap.size W).grown h4 (Nat.le_refl _) (fun r e => by cases e)⟩


set_option maxRecDepth 100000 in
set_option maxHeartbeats 4000000 in
theorem ccmp_any {k k' : Int} {a1 a1' : Option Addr} {n1 c1 n1' c1' : Nat} {id id' : List Int} {K1 K1' : Nat → Prop} {w : World} (h1 : Rd K1 w .i64 a1 n1 c1 id) (h2 : Rd K1' w .i64 a1' n1' c1' id') (s s' : Value) :
    Calls Try.prog 9 #[.agg #[.int .i64 k, .slice a1 n1 c1, s], .agg #[.int .i64 k', .slice a1' n1' c1', s']] w fun e V => e = .returned (.int .i64 (cmpF k id k' id')) ∧ Below w.heap.size w V := by
  have H1 := Lib.hid h1
  have H2 := Lib.hid h2
  clear h1 h2
  go_enter Try.func9, Try.ntmps9
  go_upto_region 1 with fail
  have hq1 := FileB.new w k (.slice a1 n1 c1) s
  have hb1 : Below w.heap.size w (w.alloc (.cells #[.int .i64 k, .slice a1 n1 c1, s] 25)) := (Below.refl _ _).alloc (Nat.le_refl _) _
  have hq2 := FileB.new (w.alloc (.cells #[.int .i64 k, .slice a1 n1 c1, s] 25)) k' (.slice a1' n1' c1') s'
  have hb2 : Below (w.alloc (.cells #[.int .i64 k, .slice a1 n1 c1, s] 25)).heap.size (w.alloc (.cells #[.int .i64 k, .slice a1 n1 c1, s] 25)) ((w.alloc (.cells #[.int .i64 k, .slice a1 n1 c1, s] 25)).alloc (.cells #[.int .i64 k', .slice a1' n1' c1', s'] 25)) := (Below.refl _ _).alloc (Nat.le_refl _) _
  replace hq1 := hq1.below hb2 hq1.lt
  have hbb := hb1.trans (hb2.mono (by simp))
  simp only [World.size_alloc] at hq2
  clear hb1 hb2
  generalize ((w.alloc (.cells #[.int .i64 k, .slice a1 n1 c1, s] 25)).alloc (.cells #[.int .i64 k', .slice a1' n1' c1', s'] 25)) = V0 at *
  have HQ1 := Lib.hid hq1
  have HQ2 := Lib.hid hq2
  have HR1 := Lib.hid (H1.out.below hbb)
  have HR2 := Lib.hid (H2.out.below hbb)
  have HBB := Lib.hid hbb
  clear hq1 hq2 hbb
  refine wp_region_facts (by kernel_rfl) (fs := [Fact.is (.pointer (some ⟨w.heap.size, 0, none⟩)), Fact.is (.int .i64 k), Fact.is (.pointer (some ⟨w.heap.size + 1, 0, none⟩)), Fact.is (.int .i64 k'), Fact.is (.int .i64 (cmpI k k')), Fact.is (.pointer (some ⟨w.heap.size, 1, none⟩)), Fact.is (.slice a1 n1 c1), Fact.is (.pointer (some ⟨w.heap.size + 1, 1, none⟩)), Fact.is (.slice a1' n1' c1'), Fact.is (.int .i64 (cmpN id id')), TwoF (cmpI k k') (cmpN id id'), Fact.is (.int .i64 (cmpF k id k' id')), Fact.is (.int .i64 (cmpF k id k' id'))]) (by kernel_rfl) (by kernel_rfl) ⟨Fact.is_stable _, Fact.is_stable _, Fact.is_stable _, Fact.is_stable _, Fact.is_stable _, Fact.is_stable _, Fact.is_stable _, Fact.is_stable _, Fact.is_stable _, Fact.is_stable _, twoF_stable _ _, Fact.is_stable _, Fact.is_stable _, trivial⟩ ?_ ?_
  · exact ⟨by
        intro a W hA hB hd
        have hB := Lib.hid hB
        have p2 : a.eval (.tmp 2) = .pointer (some ⟨w.heap.size, 0, none⟩) := hA.at 2 (by kernel_rfl)
        exact (step_pure (wanted_none rfl) (.pointer (some ⟨w.heap.size, 0, none⟩)) (by simp [execOp, go_sem, tm p2]) rfl),
      by
        intro a W hA hB hd
        obtain ⟨q0, -⟩ := hd
        have h5 : a.eval (.tmp 5) = .pointer (some ⟨w.heap.size, 0, none⟩) := q0
        have hB := Lib.hid hB
        have c0 := (HQ1.out.below hB.out HQ1.out.lt).c0
        exact (step_pure (wanted_none rfl) (.int .i64 k) (by simp [execOp, go_sem, tm h5, c0]) rfl),
      by
        intro a W hA hB hd
        have hB := Lib.hid hB
        have p3 : a.eval (.tmp 3) = .pointer (some ⟨w.heap.size + 1, 0, none⟩) := hA.at 3 (by kernel_rfl)
        exact (step_pure (wanted_none rfl) (.pointer (some ⟨w.heap.size + 1, 0, none⟩)) (by simp [execOp, go_sem, tm p3]) rfl),
      by
        intro a W hA hB hd
        obtain ⟨q0, -⟩ := hd
        have h7 : a.eval (.tmp 7) = .pointer (some ⟨w.heap.size + 1, 0, none⟩) := q0
        have hB := Lib.hid hB
        have c0 := (HQ2.out.below hB.out HQ2.out.lt).c0
        exact (step_pure (wanted_none rfl) (.int .i64 k') (by simp [execOp, go_sem, tm h7, c0]) rfl),
      by
        intro a W hA hB hd
        obtain ⟨q0, q1, -⟩ := hd
        have h6 : a.eval (.tmp 6) = .int .i64 k := q0
        have h8 : a.eval (.tmp 8) = .int .i64 k' := q1
        have hB := Lib.hid hB
        exact (step_calls (wanted_none rfl) rfl (vals := #[.int .i64 k, .int .i64 k']) (by simp [h6, h8]) (enters_of Try.func20 (by kernel_rfl) rfl) ((cmpI_any k k' W).mono fun e w' ⟨he, hw⟩ => ⟨_, he, rfl, by rw [← hw]; exact Below.refl _ _⟩)),
      by
        intro a W hA hB hd
        have hB := Lib.hid hB
        have p2 : a.eval (.tmp 2) = .pointer (some ⟨w.heap.size, 0, none⟩) := hA.at 2 (by kernel_rfl)
        exact (step_pure (wanted_none rfl) (.pointer (some ⟨w.heap.size, 1, none⟩)) (by simp [execOp, go_sem, tm p2]) rfl),
      by
        intro a W hA hB hd
        obtain ⟨q0, -⟩ := hd
        have h10 : a.eval (.tmp 10) = .pointer (some ⟨w.heap.size, 1, none⟩) := q0
        have hB := Lib.hid hB
        have c0 := (HQ1.out.below hB.out HQ1.out.lt).c1
        exact (step_pure (wanted_none rfl) (.slice a1 n1 c1) (by simp [execOp, go_sem, tm h10, c0]) rfl),
      by
        intro a W hA hB hd
        have hB := Lib.hid hB
        have p3 : a.eval (.tmp 3) = .pointer (some ⟨w.heap.size + 1, 0, none⟩) := hA.at 3 (by kernel_rfl)
        exact (step_pure (wanted_none rfl) (.pointer (some ⟨w.heap.size + 1, 1, none⟩)) (by simp [execOp, go_sem, tm p3]) rfl),
      by
        intro a W hA hB hd
        obtain ⟨q0, -⟩ := hd
        have h12 : a.eval (.tmp 12) = .pointer (some ⟨w.heap.size + 1, 1, none⟩) := q0
        have hB := Lib.hid hB
        have c0 := (HQ2.out.below hB.out HQ2.out.lt).c1
        exact (step_pure (wanted_none rfl) (.slice a1' n1' c1') (by simp [execOp, go_sem, tm h12, c0]) rfl),
      by
        intro a W hA hB hd
        obtain ⟨q0, q1, q2, -⟩ := hd
        have h11 : a.eval (.tmp 11) = .slice a1 n1 c1 := q0
        have h13 : a.eval (.tmp 13) = .slice a1' n1' c1' := q1
        have h9 : a.eval (.tmp 9) = .int .i64 (cmpI k k') := q2
        have hB := Lib.hid hB
        exact (step_calls (wanted_none rfl) rfl (vals := #[.slice a1 n1 c1, .slice a1' n1' c1']) (by simp [h11, h13]) (enters_of Try.func21 (by kernel_rfl) rfl) ((compare_any (HR1.out.below hB.out) (HR2.out.below hB.out)).mono fun e w' ⟨he, hw⟩ => ⟨_, he, rfl, by rw [← hw]; exact Below.refl _ _⟩)),
      by
        intro a W hA hB hd
        obtain ⟨q0, q1, -⟩ := hd
        have h9 : a.eval (.tmp 9) = .int .i64 (cmpI k k') := q0
        have h14 : a.eval (.tmp 14) = .int .i64 (cmpN id id') := q1
        have hB := Lib.hid hB
        exact (step_lays (wanted_none rfl) (.slice (some ⟨W.heap.size, 0, none⟩) 2 2) (W.alloc (.cells #[.int .i64 (cmpI k k'), .int .i64 (cmpN id id')] 3)) (by simp [execOp, go_sem, tm h9, tm h14]) ((Below.refl _ W).alloc (Nat.le_refl _) _) (twoF_new W _ _)),
      by
        intro a W hA hB hd
        obtain ⟨q0, q1, -⟩ := hd
        have h15 : (TwoF (cmpI k k') (cmpN id id')) (a.eval (.tmp 15)) W := q0
        have h14 : a.eval (.tmp 14) = .int .i64 (cmpN id id') := q1
        have hB := Lib.hid hB
        obtain ⟨g, e15, hg, x0, x1⟩ := h15
        exact (step_calls (wanted_none rfl) rfl (vals := #[.slice (some ⟨g, 0, none⟩) 2 2]) (by simp [e15]) (enters_of Try.func19 (by kernel_rfl) rfl) ((or2_any g _ _ W x0 x1).mono fun e w' ⟨he, hw⟩ => ⟨_, he, rfl, by rw [← hw]; exact Below.refl _ _⟩)),
      by
        intro a W hA hB hd
        obtain ⟨q0, q1, -⟩ := hd
        have h16 : a.eval (.tmp 16) = .int .i64 (cmpF k id k' id') := q0
        have hB := Lib.hid hB
        exact (step_pure (wanted_none rfl) (.int .i64 (cmpF k id k' id')) (by simp [execOp, go_sem, tm h16]) rfl), trivial⟩
  · intro zx V1 hA hB hE
    have h4 : zx.eval (.tmp 4) = .int .i64 (cmpF k id k' id') := hE.2.2.2.2.2.2.2.2.2.2.2.2.1
    have hp := hA.puts [5, 6, 7, 8, 9, 10, 11, 12, 13, 14, 15, 16, 4] (by kernel_rfl)
    clear hA hE
    simp only [putAll, h4] at hp
    clear h4
    generalize zx.eval = ev at hp
    subst hp
    have HBV := Lib.hid (HBB.out.trans (hB.mono HBB.out.size))
    clear hB
    simp [Act.put]
    go_wp2
    go_ret
    exact ⟨rfl, HBV.out⟩

set_option maxRecDepth 100000 in
set_option maxHeartbeats 4000000 in
theorem rcmp_any {k k' : Int} {a1 a1' : Option Addr} {n1 c1 n1' c1' : Nat} {id id' : List Int} {K1 K1' : Nat → Prop} {w : World} (h1 : Rd K1 w .i64 a1 n1 c1 id) (h2 : Rd K1' w .i64 a1' n1' c1' id') (hn : n1 ≤ 100000000) (hn' : n1' ≤ 100000000) (s s' : Value) :
    Calls Try.prog 10 #[.agg #[.int .i64 k, .slice a1 n1 c1, s], .agg #[.int .i64 k', .slice a1' n1' c1', s']] w fun e V => e = .returned (.int .i64 (cmpF k id k' id')) ∧ Below w.heap.size w V := by
  have HN := Lib.hid hn
  have HN2 := Lib.hid hn'
  clear hn hn'
  have H1 := Lib.hid h1
  have H2 := Lib.hid h2
  clear h1 h2
  go_enter Try.func10, Try.ntmps10
  go_upto_region 1 with fail
  have hq1 := FileB.new w k (.slice a1 n1 c1) s
  have hb1 : Below w.heap.size w (w.alloc (.cells #[.int .i64 k, .slice a1 n1 c1, s] 25)) := (Below.refl _ _).alloc (Nat.le_refl _) _
  have hq2 := FileB.new (w.alloc (.cells #[.int .i64 k, .slice a1 n1 c1, s] 25)) k' (.slice a1' n1' c1') s'
  have hb2 : Below (w.alloc (.cells #[.int .i64 k, .slice a1 n1 c1, s] 25)).heap.size (w.alloc (.cells #[.int .i64 k, .slice a1 n1 c1, s] 25)) ((w.alloc (.cells #[.int .i64 k, .slice a1 n1 c1, s] 25)).alloc (.cells #[.int .i64 k', .slice a1' n1' c1', s'] 25)) := (Below.refl _ _).alloc (Nat.le_refl _) _
  replace hq1 := hq1.below hb2 hq1.lt
  have hbb := hb1.trans (hb2.mono (by simp))
  simp only [World.size_alloc] at hq2
  clear hb1 hb2
  generalize ((w.alloc (.cells #[.int .i64 k, .slice a1 n1 c1, s] 25)).alloc (.cells #[.int .i64 k', .slice a1' n1' c1', s'] 25)) = V0 at *
  have HQ1 := Lib.hid hq1
  have HQ2 := Lib.hid hq2
  have HR1 := Lib.hid (H1.out.below hbb)
  have HR2 := Lib.hid (H2.out.below hbb)
  have HBB := Lib.hid hbb
  clear hq1 hq2 hbb
  refine wp_region_facts (by kernel_rfl) (fs := [Fact.is (.pointer (some ⟨w.heap.size, 0, none⟩)), Fact.is (.int .i64 k), OneF k, Fact.is (.pointer (some ⟨w.heap.size, 1, none⟩)), Fact.is (.slice a1 n1 c1), IntsF (k :: id), Fact.is (.pointer (some ⟨w.heap.size + 1, 0, none⟩)), Fact.is (.int .i64 k'), OneF k', Fact.is (.pointer (some ⟨w.heap.size + 1, 1, none⟩)), Fact.is (.slice a1' n1' c1'), IntsF (k' :: id'), Fact.is (.int .i64 (cmpF k id k' id')), Fact.is (.int .i64 (cmpF k id k' id'))]) (by kernel_rfl) (by kernel_rfl) ⟨Fact.is_stable _, Fact.is_stable _, oneF_stable _, Fact.is_stable _, Fact.is_stable _, intsF_stable _, Fact.is_stable _, Fact.is_stable _, oneF_stable _, Fact.is_stable _, Fact.is_stable _, intsF_stable _, Fact.is_stable _, Fact.is_stable _, trivial⟩ ?_ ?_
  · exact ⟨by
        intro a W hA hB hd
        have hB := Lib.hid hB
        have p2 : a.eval (.tmp 2) = .pointer (some ⟨w.heap.size, 0, none⟩) := hA.at 2 (by kernel_rfl)
        exact (step_pure (wanted_none rfl) (.pointer (some ⟨w.heap.size, 0, none⟩)) (by simp [execOp, go_sem, tm p2]) rfl),
      by
        intro a W hA hB hd
        obtain ⟨q0, -⟩ := hd
        have h5 : a.eval (.tmp 5) = .pointer (some ⟨w.heap.size, 0, none⟩) := q0
        have hB := Lib.hid hB
        have c0 := (HQ1.out.below hB.out HQ1.out.lt).c0
        exact (step_pure (wanted_none rfl) (.int .i64 k) (by simp [execOp, go_sem, tm h5, c0]) rfl),
      by
        intro a W hA hB hd
        obtain ⟨q0, -⟩ := hd
        have h6 : a.eval (.tmp 6) = .int .i64 k := q0
        have hB := Lib.hid hB
        exact (step_lays (wanted_none rfl) (.slice (some ⟨W.heap.size, 0, none⟩) 1 1) (W.alloc (.cells #[.int .i64 k] 3)) (by simp [execOp, go_sem, tm h6]) ((Below.refl _ W).alloc (Nat.le_refl _) _) (oneF_new W _)),
      by
        intro a W hA hB hd
        have hB := Lib.hid hB
        have p2 : a.eval (.tmp 2) = .pointer (some ⟨w.heap.size, 0, none⟩) := hA.at 2 (by kernel_rfl)
        exact (step_pure (wanted_none rfl) (.pointer (some ⟨w.heap.size, 1, none⟩)) (by simp [execOp, go_sem, tm p2]) rfl),
      by
        intro a W hA hB hd
        obtain ⟨q0, -⟩ := hd
        have h8 : a.eval (.tmp 8) = .pointer (some ⟨w.heap.size, 1, none⟩) := q0
        have hB := Lib.hid hB
        have c0 := (HQ1.out.below hB.out HQ1.out.lt).c1
        exact (step_pure (wanted_none rfl) (.slice a1 n1 c1) (by simp [execOp, go_sem, tm h8, c0]) rfl),
      by
        intro a W hA hB hd
        obtain ⟨q0, q1, -⟩ := hd
        have h7 : (OneF k) (a.eval (.tmp 7)) W := q0
        have h9 : a.eval (.tmp 9) = .slice a1 n1 c1 := q1
        have hB := Lib.hid hB
        obtain ⟨v', w', hr, z1, z2⟩ := oneF_append h7 (HR1.out.below hB.out) HN.out
        exact (step_appendF (wanted_none rfl) (.tmp 7) (.tmp 9) 22 22 rfl h9 hr z2 z1),
      by
        intro a W hA hB hd
        have hB := Lib.hid hB
        have p3 : a.eval (.tmp 3) = .pointer (some ⟨w.heap.size + 1, 0, none⟩) := hA.at 3 (by kernel_rfl)
        exact (step_pure (wanted_none rfl) (.pointer (some ⟨w.heap.size + 1, 0, none⟩)) (by simp [execOp, go_sem, tm p3]) rfl),
      by
        intro a W hA hB hd
        obtain ⟨q0, -⟩ := hd
        have h11 : a.eval (.tmp 11) = .pointer (some ⟨w.heap.size + 1, 0, none⟩) := q0
        have hB := Lib.hid hB
        have c0 := (HQ2.out.below hB.out HQ2.out.lt).c0
        exact (step_pure (wanted_none rfl) (.int .i64 k') (by simp [execOp, go_sem, tm h11, c0]) rfl),
      by
        intro a W hA hB hd
        obtain ⟨q0, -⟩ := hd
        have h12 : a.eval (.tmp 12) = .int .i64 k' := q0
        have hB := Lib.hid hB
        exact (step_lays (wanted_none rfl) (.slice (some ⟨W.heap.size, 0, none⟩) 1 1) (W.alloc (.cells #[.int .i64 k'] 3)) (by simp [execOp, go_sem, tm h12]) ((Below.refl _ W).alloc (Nat.le_refl _) _) (oneF_new W _)),
      by
        intro a W hA hB hd
        have hB := Lib.hid hB
        have p3 : a.eval (.tmp 3) = .pointer (some ⟨w.heap.size + 1, 0, none⟩) := hA.at 3 (by kernel_rfl)
        exact (step_pure (wanted_none rfl) (.pointer (some ⟨w.heap.size + 1, 1, none⟩)) (by simp [execOp, go_sem, tm p3]) rfl),
      by
        intro a W hA hB hd
        obtain ⟨q0, -⟩ := hd
        have h14 : a.eval (.tmp 14) = .pointer (some ⟨w.heap.size + 1, 1, none⟩) := q0
        have hB := Lib.hid hB
        have c0 := (HQ2.out.below hB.out HQ2.out.lt).c1
        exact (step_pure (wanted_none rfl) (.slice a1' n1' c1') (by simp [execOp, go_sem, tm h14, c0]) rfl),
      by
        intro a W hA hB hd
        obtain ⟨q0, q1, q2, -⟩ := hd
        have h13 : (OneF k') (a.eval (.tmp 13)) W := q0
        have h15 : a.eval (.tmp 15) = .slice a1' n1' c1' := q1
        have h10 : (IntsF (k :: id)) (a.eval (.tmp 10)) W := q2
        have hB := Lib.hid hB
        obtain ⟨v', w', hr, z1, z2⟩ := oneF_append h13 (HR2.out.below hB.out) HN2.out
        exact (step_appendF (wanted_none rfl) (.tmp 13) (.tmp 15) 22 22 rfl h15 hr z2 z1),
      by
        intro a W hA hB hd
        obtain ⟨q0, q1, q2, -⟩ := hd
        have h10 : (IntsF (k :: id)) (a.eval (.tmp 10)) W := q0
        have h16 : (IntsF (k' :: id')) (a.eval (.tmp 16)) W := q1
        have hB := Lib.hid hB
        obtain ⟨x1, y1, z1, e10, r10⟩ := h10
        obtain ⟨x2, y2, z2, e16, r16⟩ := h16
        exact (step_calls (wanted_none rfl) rfl (vals := #[.slice x1 y1 z1, .slice x2 y2 z2]) (by simp [e10, e16]) (enters_of Try.func22 (by kernel_rfl) rfl) ((cmpInts_any r10 r16).mono fun e w' ⟨he, hb⟩ => ⟨_, he, by rw [cmpF_cons]; rfl, hb⟩)),
      by
        intro a W hA hB hd
        obtain ⟨q0, q1, -⟩ := hd
        have h17 : a.eval (.tmp 17) = .int .i64 (cmpF k id k' id') := q0
        have hB := Lib.hid hB
        exact (step_pure (wanted_none rfl) (.int .i64 (cmpF k id k' id')) (by simp [execOp, go_sem, tm h17]) rfl), trivial⟩
  · intro zx V1 hA hB hE
    have h4 : zx.eval (.tmp 4) = .int .i64 (cmpF k id k' id') := hE.2.2.2.2.2.2.2.2.2.2.2.2.2.1
    have hp := hA.puts [5, 6, 7, 8, 9, 10, 11, 12, 13, 14, 15, 16, 17, 4] (by kernel_rfl)
    clear hA hE
    simp only [putAll, h4] at hp
    clear h4
    generalize zx.eval = ev at hp
    subst hp
    have HBV := Lib.hid (HBB.out.trans (hB.mono HBB.out.size))
    clear hB
    simp [Act.put]
    go_wp2
    go_ret
    exact ⟨rfl, HBV.out⟩

end Go.Proofs.Ytkfmgiacdlkmiaa

namespace Go.Proofs.Ytkfmgiacdlkmiaa
open Go Go.RowKit Go.Shelf Go.ChangeShapes Go.WideShapes Go.ChangeAt

set_option maxRecDepth 100000 in
set_option maxHeartbeats 2000000 in
theorem growP_nil (n : Nat) (h0 : 0 < n) (hn : n ≤ 140737488355328) (w : World) : Calls Try.prog 45 #[.slice none 0 0, .int .i64 n] w fun e w' =>
    ∃ cap, e = .returned (.slice (some ⟨w.heap.size, 0, none⟩) 0 cap) ∧ cap ≤ 9223372036854775807 ∧ w'.ownsRow w.heap.size 5 1 (.slice (some ⟨w.heap.size, 0, none⟩) 0 cap) 0 [] ∧ Below w.heap.size w w' := by
  obtain ⟨i0, hi, hz0, hz1, hz2⟩ := info_parts Try.infoB
  have hr := Lib.run_append_nil_zeros (P := Try.prog) w 23 3 23 5 i0 (.int .u8 0) .i64 .i64 Try.underlying23 Try.underlying3 hi hz0 n h0 (by omega) (by omega) (by rw [hz2]; omega)
  have hge := grownCap_ge w n 0 5
  have hle := grownCap_le_maxLen w n 0 5 (by unfold maxLen; omega)
  generalize grownCap w n 0 5 = cap at *
  have hcm : cap ≤ 9223372036854775807 := by unfold maxLen at hle; omega
  have HO : Hid (World.ownsRow (w.drew.alloc (.cells (Builtin.zeroCells (Value.int .u8 0).cells n ++ Builtin.zeroCells (Value.int .u8 0).cells (cap - n)) 5)) w.heap.size 5 1 (.slice (some ⟨w.heap.size, 0, none⟩) 0 cap) 0 []) :=
    ⟨rfl, .inr ⟨w.heap.size, cap, _, rfl, Nat.le_refl _, World.alloc_heap_new w.drew _, Nat.zero_le _, hle, by simp [Builtin.zeroCells, Value.cells]; omega, rfl⟩⟩
  have HB : Hid (Below w.heap.size w (w.drew.alloc (.cells (Builtin.zeroCells (Value.int .u8 0).cells n ++ Builtin.zeroCells (Value.int .u8 0).cells (cap - n)) 5))) := (below_drewN (Below.self w) 1).alloc (Nat.le_refl _) _
  generalize w.drew.alloc (.cells (Builtin.zeroCells (Value.int .u8 0).cells n ++ Builtin.zeroCells (Value.int .u8 0).cells (cap - n)) 5) = V at *
  have HR := Lib.hid hr
  clear hr
  go_enter Try.func45, Try.ntmps45
  go_wp2_with (at_builtin; refine wpList_append_want (o := ⟨some 22, _, _, _, _, _⟩) _ rfl _ _ _ _ rfl _ _ rfl rfl _ _ HR.out ?_)
  go_ret
  exact ⟨cap, rfl, hcm, HO.out, HB.out⟩

/-- A byte sequence, as it lies in memory. -/
structure SlP where
  a : Option Addr
  n : Nat
  c : Nat
  zs : List Int
def lenP (ps : List SlP) : Nat := (ps.map fun p => p.zs.length).sum
def catP (ps : List SlP) : List Int := ps.flatMap fun p => p.zs
def RowsP (w : World) (S : Nat) (ps : List SlP) : Prop := S < w.heap.size ∧ ∀ (j : Nat) (h : j < ps.length), w.cell? ⟨S, j, none⟩ = some (.slice ps[j].a ps[j].n ps[j].c) ∧ Rd (fun _ => True) w .u8 ps[j].a ps[j].n ps[j].c ps[j].zs
theorem RowsP.below {w V : World} {S : Nat} {ps : List SlP} (h : RowsP w S ps) (hb : Below w.heap.size w V) : RowsP V S ps :=
  ⟨Nat.lt_of_lt_of_le h.1 hb.size, fun j hj => ⟨(hb.cell (p := ⟨S, j, none⟩) h.1).trans (h.2 j hj).1, (h.2 j hj).2.below hb⟩⟩
theorem len_cat (ps : List SlP) : (catP ps).length = lenP ps := by unfold catP lenP; rw [List.length_flatMap]
theorem lenP_succ (ps : List SlP) (m : Nat) (h : m < ps.length) : lenP (ps.take (m + 1)) = lenP (ps.take m) + ps[m].zs.length := by
  unfold lenP; rw [List.take_succ_eq_append_getElem h, List.map_append, List.sum_append, List.map_cons, List.map_nil, List.sum_cons, List.sum_nil, Nat.add_zero]
theorem catP_succ (ps : List SlP) (m : Nat) (h : m < ps.length) : catP (ps.take (m + 1)) = catP (ps.take m) ++ ps[m].zs := by
  unfold catP; rw [List.take_succ_eq_append_getElem h, List.flatMap_append, List.flatMap_cons, List.flatMap_nil, List.append_nil]
theorem lenP_le (ps : List SlP) (m : Nat) : lenP (ps.take m) ≤ lenP ps := by
  have : lenP ps = lenP (ps.take m) + lenP (ps.drop m) := by unfold lenP; rw [← List.sum_append, ← List.map_append, List.take_append_drop]
  omega

set_option maxRecDepth 100000 in
set_option maxHeartbeats 2000000 in
theorem concatP_any {ps : List SlP} {S k : Nat} {w : World} (hk : ps.length = k) (hk2 : k ≤ 1000) (hS : RowsP w S ps) (h0 : 0 < lenP ps) (hl : lenP ps ≤ 140737488340000) :
    Calls Try.prog 30 #[.slice (some ⟨S, 0, none⟩) k k] w fun e w' => Makes w e w' (catP ps) := by
  obtain ⟨i0, hi, hz0, hz1, hz2⟩ := info_parts Try.infoB
  have HS := Lib.hid hS
  have HKL := Lib.hid hk
  have HL := Lib.hid hl
  have H0 := Lib.hid h0
  clear hS hk hl h0
  go_enter Try.func30, Try.ntmps30
  go_wp2
  go_loop [3, 11] (fun sz j => ∃ m s : Nat, m ≤ k ∧ j = .int .i64 m ∧ sz = .int .i64 (s : Int) ∧ Hid (s = lenP (ps.take m)) ∧ s ≤ 140737488340000) (fun _ j => k - (intOf j).toNat)
  case atStart => exact ⟨0, 0, Nat.zero_le _, rfl, rfl, rfl, by decide⟩
  case round =>
    obtain ⟨m, s, hm, rfl, rfl, HSM, hsl⟩ := hrel
    by_cases hlt : m < k
    · have hmp : m < ps.length := by rw [HKL.out]; exact hlt
      obtain ⟨cm, rm⟩ := HS.out.2 m hmp
      have hln := rm.hl
      have hsc := lenP_succ ps m hmp
      have hle := lenP_le ps (m + 1)
      have HL2 := HL.out
      rw [← HSM.out] at hsc
      generalize ps[m].zs.length = z at *
      generalize ps[m].a = am at *
      generalize ps[m].n = nm at *
      generalize ps[m].c = cpm at *
      subst hln
      have hsum : s + nm ≤ 140737488340000 := by omega
      have HNX : Hid (s + nm = lenP (ps.take (m + 1))) := hsc.symm
      clear hsc hle HL2 rm hmp
      go_wp2
      go_round
      case rel => exact ⟨m + 1, s + nm, by omega, by go_num, by go_num, HNX, hsum⟩
      case measure => simp [intOf]; omega
    · obtain rfl : m = k := by omega
      have hs : s = lenP ps := by rw [HSM.out, ← HKL.out, List.take_length]
      have hs0 : 0 < s := by rw [hs]; exact H0.out
      have HSS := Lib.hid hs
      clear hs
      go_wp2_with fail
      refine (growP_nil s hs0 (by omega) w).mono ?_
      rintro e w1 ⟨cap, rfl, hcm, hrow, hb⟩
      have HB := Lib.hid hb
      have HRW := Lib.hid hrow
      have HSV := Lib.hid (HS.out.below hb)
      clear hb hrow
      go_wp2
      go_loopw [6, 27] (fun v j wr => ∃ i q : Nat, i ≤ m ∧ j = .int .i64 i ∧ ∃ g c : Nat, v = .slice (some ⟨g, 0, none⟩) q c ∧ Hid (q = (catP (ps.take i)).length) ∧ Hid (wr.ownsRow w.heap.size 5 1 (.slice (some ⟨g, 0, none⟩) q c) q ((catP (ps.take i)).map (Value.int .u8))) ∧ Hid (Below w.heap.size w wr) ∧ q ≤ c) (fun _ j _ => m - (intOf j).toNat)
      case atStart => exact ⟨0, 0, Nat.zero_le _, rfl, w.heap.size, cap, rfl, rfl, HRW.out, HB.out, Nat.zero_le _⟩
      case round =>
        obtain ⟨i, q, hi', rfl, g, c, rfl, HQ, HX, HBR, hqc⟩ := hrel
        have HSR := Lib.hid (HS.out.below HBR.out)
        by_cases hlt : i < m
        · have hmp : i < ps.length := by rw [HKL.out]; exact hlt
          obtain ⟨cm, rm⟩ := HSR.out.2 i hmp
          have hln := rm.hl
          have hcs := catP_succ ps i hmp
          have hle := lenP_le ps (i + 1)
          rw [← len_cat, hcs, List.length_append, ← HQ.out, ← hln, ← HSS.out] at hle
          generalize ps[i].zs = zs at *
          generalize ps[i].a = am at *
          generalize ps[i].n = nm at *
          generalize ps[i].c = cpm at *
          obtain ⟨g2, cp2, wX, hr, hX', hbX, hcX⟩ := run_append_rd wr w.heap.size 23 23 5 i0 _ 1 .u8 Try.underlying23 hi hz0 hz1 hz2 rfl g q c (catP (ps.take i)) HX.out am nm cpm zs rm (by unfold maxLen; omega) (by omega) HBR.out.size
          have HR := Lib.hid hr
          have HX2 := Lib.hid hX'
          have HB2 : Hid (Below w.heap.size w wX) := HBR.out.trans hbX
          have HQ2 : Hid (q + nm = (catP (ps.take (i + 1))).length) := by show _ = _; rw [hcs, List.length_append, ← HQ.out, hln]
          rw [← hcs] at HX2
          clear hr hX' hbX rm hcs hle hln hmp
          go_wp2_with (at_builtin; refine wpList_append_want (o := ⟨some 33, _, _, _, _, _⟩) _ rfl _ _ _ _ rfl _ _ rfl rfl _ _ HR.out ?_)
          go_roundw
          case rel => exact ⟨i + 1, q + nm, by omega, by go_num, g2, cp2, rfl, HQ2, HX2, HB2, hcX⟩
          case measure => simp [intOf]; omega
        · obtain rfl : i = m := by omega
          have hall : ps.take i = ps := by rw [← HKL.out, List.take_length]
          rw [hall] at HQ HX
          have hqe := HQ.out
          go_wp2
          go_ret
          exact ⟨g, c, by rw [← hqe]; rfl, by rw [← hqe]; exact hqc, by rw [← hqe]; exact HX.out, HBR.out⟩

end Go.Proofs.Ytkfmgiacdlkmiaa

namespace Go.Proofs.Ytkfmgiacdlkmiaa
open Go Go.RowKit Go.Shelf Go.ChangeShapes Go.WideShapes Go.ChangeAt

theorem packS_oct9 (zs : List Int) : Oct (packS zs) := by
  have hh : Oct (headS zs) := by
    unfold headS
    split
    · exact var_oct 0
    · refine ((var_oct _).append (var_oct _)).append fun x hx => ?_
      rw [List.mem_singleton] at hx
      have := width_le zs
      omega
  unfold packS
  exact Oct.append hh (gather_oct _ (bitsS_bin zs) _)
theorem sealA_oct {k : Int} {id data : List Int} (hk : 1 ≤ k ∧ k ≤ 9) (ho : Oct data) : Oct (sealA k id data) := by
  unfold sealA
  refine Oct.append (fun x hx => by simp [letS] at hx; omega) (fun x hx => ?_)
  rcases List.mem_cons.1 hx with rfl | hx
  · omega
  · exact ((packS_oct9 id).append ((var_oct _).append ho)) x hx
theorem sealS_oct {k : Int} {id data : List Int} (hk : 1 ≤ k ∧ k ≤ 9) (ho : Oct data) : Oct (sealS k id data) := (sealA_oct hk ho).append (sum8_oct _)

def sealE (k : Int) (id data : List Int) : Int := if ¬ (1 ≤ k ∧ k ≤ 9) then 1 else if 40 < id.length then 1 else if 65536 < data.length then 2 else 0

/-- What sealing comes to. -/
def SealPost (k : Int) (id data : List Int) (W : World) (e : Ending) (V : World) : Prop :=
  Below W.heap.size W V ∧ ((sealE k id data = 0 ∧ ∃ g n c, e = .returned (.tuple #[.slice (some ⟨g, 0, none⟩) n c, .int .i64 0]) ∧ Rd (fun b => W.heap.size ≤ b) V .u8 (some ⟨g, 0, none⟩) n c (sealS k id data)) ∨
    (sealE k id data ≠ 0 ∧ e = .returned (.tuple #[.slice none 0 0, .int .i64 (sealE k id data)])))

set_option maxRecDepth 100000 in
set_option maxHeartbeats 1000000 in
theorem seal_any {K1 K2 : Nat → Prop} {k : Int} {a1 a2 : Option Addr} {n1 c1 n2 c2 : Nat} {id data : List Int} {W : World} (h1 : Rd K1 W .i64 a1 n1 c1 id) (h2 : Rd K2 W .u8 a2 n2 c2 data) (hz : Smalls id) (ho : Oct data) :
    Calls Try.prog 17 #[.agg #[.int .i64 k, .slice a1 n1 c1, .slice a2 n2 c2]] W (SealPost k id data W) := by
  have HB0 : Hid (Below W.heap.size W (W.alloc (.cells #[.int .i64 k, .slice a1 n1 c1, .slice a2 n2 c2] 25))) := (Below.refl _ _).alloc (Nat.le_refl _) _
  have hf0 := FileB.new W k (.slice a1 n1 c1) (.slice a2 n2 c2)
  have H1 := Lib.hid (h1.below HB0.out)
  have H2 := Lib.hid (h2.below HB0.out)
  have HL1 := Lib.hid h1.hl
  have HL2 := Lib.hid h2.hl
  have hs1 := h1.small
  have hs2 := h2.small
  have HZ := Lib.hid hz
  have HO := Lib.hid ho
  clear h1 h2 hz ho
  have q0 := hf0.c0
  have q1 := hf0.c1
  have q2 := hf0.c2
  have HF := Lib.hid hf0
  clear hf0
  by_cases hk : 1 ≤ k ∧ k ≤ 9
  · have hkb : (decide (1 ≤ k) && decide (k ≤ 9)) = true := by simp [hk]
    have HK := Lib.hid hk
    clear hk
    by_cases h40 : 40 < n1
    · have HE : Hid (sealE k id data = 1) := by show _ = _; unfold sealE; rw [if_neg (fun c => c HK.out), if_pos (by rw [← HL1.out]; exact h40)]
      go_enter Try.func17, Try.ntmps17
      go_wp2_with (go_at_call 27; refine (isKind_any _ _).mono ?_; rintro e w' ⟨rfl, rfl⟩; rw [hkb])
      go_ret2
      exact ⟨HB0.out, .inr ⟨by rw [HE.out]; decide, by rw [HE.out]; rfl⟩⟩
    · by_cases h65 : 65536 < n2
      · have HE : Hid (sealE k id data = 2) := by show _ = _; unfold sealE; rw [if_neg (fun c => c HK.out), if_neg (by rw [← HL1.out]; exact h40), if_pos (by rw [← HL2.out]; exact h65)]
        go_enter Try.func17, Try.ntmps17
        go_wp2_with (go_at_call 27; refine (isKind_any _ _).mono ?_; rintro e w' ⟨rfl, rfl⟩; rw [hkb])
        go_ret2
        exact ⟨HB0.out, .inr ⟨by rw [HE.out]; decide, by rw [HE.out]; rfl⟩⟩
      · have HE : Hid (sealE k id data = 0) := by show _ = _; unfold sealE; rw [if_neg (fun c => c HK.out), if_neg (by rw [← HL1.out]; exact h40), if_neg (by rw [← HL2.out]; exact h65)]
        have kc := fun (w : World) (C : Array Value) (n c : Nat) => Lib.run_convert_bytes_const (P := Try.prog) w 23 5 C n c Try.underlying23 Try.underlying5
        have hpl := pack_len id HZ.out (by rw [← HL1.out]; omega)
        have hkw : IntKind.u8.wrap k = k := by have := HK.out; rw [IntKind.wrap_u8]; omega
        have hnw : IntKind.u64.wrap (n2 : Int) = n2 := by rw [IntKind.wrap_u64]; omega
        go_enter Try.func17, Try.ntmps17
        go_wp2_with (go_at_call 27; refine (isKind_any _ _).mono ?_; rintro e w' ⟨rfl, rfl⟩; rw [hkb])
        generalize W.alloc (.cells #[.int .i64 k, .slice a1 n1 c1, .slice a2 n2 c2] 25) = W0 at *
        clear q0 q1 q2 hkb hs1 hs2
        have hn1 : n1 ≤ 40 := by omega
        have hn2 : n2 ≤ 65536 := by omega
        clear h40 h65
        refine (pack_any HZ.out (by omega) H1.out).mono ?_
        rintro e V1 ⟨g, cg, rfl, hf, hrow, hb⟩
        obtain ⟨p, hp⟩ : ∃ p, (packS id).length = p := ⟨_, rfl⟩
        rw [hp] at hf hrow hpl ⊢
        have HP := Lib.hid hp
        have HRP := Lib.hid (Rd.of_row hp.symm hf (by omega) hrow)
        have HF1 := Lib.hid (HF.out.below hb HF.out.lt)
        have H21 := Lib.hid (H2.out.below hb)
        have HB1 : Hid (Below W.heap.size W V1) := HB0.out.trans (hb.mono HB0.out.size)
        clear hp hrow hb H1 H2 HF HB0
        have q0 := HF1.out.c0
        have q1 := HF1.out.c1
        have q2 := HF1.out.c2
        go_wp2_with fail
        refine (varint_any (fun _ => True) none 0 0 [] n2 (by omega) V1 ⟨rfl, Nat.le_refl _, by decide, by decide, fun h => absurd h (by decide)⟩ (by decide)).mono ?_
        rintro e V2 ⟨g2, cg2, rfl, hf2, hrow2, hb2⟩
        rw [List.nil_append] at hf2 hrow2 ⊢
        have hvl := var_len (u := n2) (by omega)
        have hvp := var_pos n2
        obtain ⟨q, hq⟩ : ∃ q, (varN n2).length = q := ⟨_, rfl⟩
        rw [hq] at hf2 hrow2 hvl hvp ⊢
        have HQ := Lib.hid hq
        have hk1 := kc V2 #[.int .u8 67, .int .u8 72, .int .u8 77] 3 3
        simp only [show #[Value.int .u8 67, .int .u8 72, .int .u8 77].size = 3 from rfl, Nat.reduceAdd] at hk1
        obtain ⟨V3, hV3⟩ : ∃ V, V2.alloc (.cells #[.int .u8 67, .int .u8 72, .int .u8 77] 5 (3, 4)) = V := ⟨_, rfl⟩
        have hb3 : Below V2.heap.size V2 V3 := by rw [← hV3]; exact (Below.refl _ _).alloc (Nat.le_refl _) _
        have hL3 : V3.heap[V2.heap.size]? = some (.cells #[.int .u8 67, .int .u8 72, .int .u8 77] 5 (3, 4)) := by rw [← hV3]; exact World.alloc_heap_new V2 _
        have hs3 : V3.heap.size = V2.heap.size + 1 := by rw [← hV3, World.size_alloc]
        rw [hV3] at hk1
        clear kc hV3
        have HRQ := Lib.hid ((Rd.of_row hq.symm hf2 (by omega) hrow2).below hb3)
        have hbb := hb2.trans (hb3.mono hb2.size)
        have HRP3 := Lib.hid (HRP.out.below hbb)
        have HF3 := Lib.hid (HF1.out.below hbb HF1.out.lt)
        have H23 := Lib.hid (H21.out.below hbb)
        have HB3 : Hid (Below W.heap.size W V3) := HB1.out.trans (hbb.mono HB1.out.size)
        have HL3 := Lib.hid hL3
        have HS3 := Lib.hid hs3
        clear hs3
        clear hq hrow2 hb2 hb3 hbb HRP HF1 H21 HB1 q0 q1 q2 hL3
        have q0 := HF3.out.c0
        have q1 := HF3.out.c1
        have q2 := HF3.out.c2
        have qlt := HF3.out.lt
        go_wp2_with fail
        clear q0 q1 q2 hk1 qlt
        have hbA : Below V3.heap.size V3 (V3.alloc (.cells #[.int .u8 k] 5)) := (Below.refl _ _).alloc (Nat.le_refl _) _
        have hKn : (V3.alloc (.cells #[.int .u8 k] 5)).heap[V3.heap.size]? = some (.cells #[.int .u8 k] 5 (0, 0)) := World.alloc_heap_new V3 _
        have hs4 : (V3.alloc (.cells #[.int .u8 k] 5)).heap.size = V3.heap.size + 1 := World.size_alloc ..
        generalize V3.alloc (.cells #[.int .u8 k] 5) = V4 at *
        have hbB : Below V4.heap.size V4 (V4.alloc (.cells #[.slice (some ⟨V2.heap.size, 0, none⟩) 3 3, .slice (some ⟨V3.heap.size, 0, none⟩) 1 1, .slice (some ⟨g, 0, none⟩) p cg, .slice (some ⟨g2, 0, none⟩) q cg2, .slice a2 n2 c2] 23)) := (Below.refl _ _).alloc (Nat.le_refl _) _
        have hSn : (V4.alloc (.cells #[.slice (some ⟨V2.heap.size, 0, none⟩) 3 3, .slice (some ⟨V3.heap.size, 0, none⟩) 1 1, .slice (some ⟨g, 0, none⟩) p cg, .slice (some ⟨g2, 0, none⟩) q cg2, .slice a2 n2 c2] 23)).heap[V4.heap.size]? = _ := World.alloc_heap_new V4 _
        generalize V4.alloc (.cells #[.slice (some ⟨V2.heap.size, 0, none⟩) 3 3, .slice (some ⟨V3.heap.size, 0, none⟩) 1 1, .slice (some ⟨g, 0, none⟩) p cg, .slice (some ⟨g2, 0, none⟩) q cg2, .slice a2 n2 c2] 23) = V5 at *
        rw [hs4] at hSn
        have hb35 : Below V3.heap.size V3 V5 := hbA.trans (hbB.mono (by omega))
        have hlK : V3.heap.size < V4.heap.size := by omega
        have hcat : catP [⟨some ⟨V2.heap.size, 0, none⟩, 3, 3, letS⟩, ⟨some ⟨V3.heap.size, 0, none⟩, 1, 1, [k]⟩, ⟨some ⟨g, 0, none⟩, p, cg, packS id⟩, ⟨some ⟨g2, 0, none⟩, q, cg2, varN n2⟩, ⟨a2, n2, c2, data⟩] = sealA k id data := by
          unfold catP sealA; rw [← HL2.out]; simp
        have hrows : RowsP V5 (V3.heap.size + 1) [⟨some ⟨V2.heap.size, 0, none⟩, 3, 3, letS⟩, ⟨some ⟨V3.heap.size, 0, none⟩, 1, 1, [k]⟩, ⟨some ⟨g, 0, none⟩, p, cg, packS id⟩, ⟨some ⟨g2, 0, none⟩, q, cg2, varN n2⟩, ⟨a2, n2, c2, data⟩] := by
          have hcl : ∀ (j : Nat) (v : Value), #[Value.slice (some ⟨V2.heap.size, 0, none⟩) 3 3, .slice (some ⟨V3.heap.size, 0, none⟩) 1 1, .slice (some ⟨g, 0, none⟩) p cg, .slice (some ⟨g2, 0, none⟩) q cg2, .slice a2 n2 c2][j]? = some v → V5.cell? ⟨V3.heap.size + 1, j, none⟩ = some v := fun j v h => by
            unfold World.cell?; rw [hSn]; exact h
          refine ⟨(Array.getElem?_eq_some_iff.1 hSn).1, fun j hj => ?_⟩
          rcases (by simp at hj; omega : j = 0 ∨ j = 1 ∨ j = 2 ∨ j = 3 ∨ j = 4) with rfl | rfl | rfl | rfl | rfl
          · refine ⟨hcl 0 _ rfl, ⟨rfl, Nat.le_refl _, (by decide : (3 : Nat) ≤ 9223372036854775807), (by decide : (3 : Nat) ≤ 140737488351232), fun _ => ⟨V2.heap.size, 0, rfl, trivial, ?_, fun i hi => ?_⟩⟩⟩
            · have h1 := (Array.getElem?_eq_some_iff.1 HL3.out).1
              exact Nat.lt_of_lt_of_le h1 hb35.size
            · have h1 := (Array.getElem?_eq_some_iff.1 HL3.out).1
              have h2 := (hb35.block _ h1).trans HL3.out
              unfold World.cell?; rw [h2]
              rcases (by simp at hi; omega : i = 0 ∨ i = 1 ∨ i = 2) with rfl | rfl | rfl <;> rfl
          · refine ⟨hcl 1 _ rfl, ⟨rfl, Nat.le_refl _, (by decide : (1 : Nat) ≤ 9223372036854775807), (by decide : (1 : Nat) ≤ 140737488351232), fun _ => ⟨V3.heap.size, 0, rfl, trivial, Nat.lt_of_lt_of_le hlK hbB.size, fun i hi => ?_⟩⟩⟩
            have h2 := (hbB.block _ hlK).trans hKn
            obtain rfl : i = 0 := by simp at hi; omega
            unfold World.cell?; rw [h2]; rfl
          · exact ⟨hcl 2 _ rfl, (HRP3.out.below hb35).mono fun _ _ _ => trivial⟩
          · exact ⟨hcl 3 _ rfl, (HRQ.out.below hb35).mono fun _ _ _ => trivial⟩
          · exact ⟨hcl 4 _ rfl, (H23.out.below hb35).mono fun _ _ _ => trivial⟩
        have hal := sealA_len k id data
        rw [HP.out, ← HL2.out, HQ.out] at hal
        have HB5 : Hid (Below W.heap.size W V5) := HB3.out.trans (hb35.mono HB3.out.size)
        have HLP := len_cat [⟨some ⟨V2.heap.size, 0, none⟩, 3, 3, letS⟩, ⟨some ⟨V3.heap.size, 0, none⟩, 1, 1, [k]⟩, ⟨some ⟨g, 0, none⟩, p, cg, packS id⟩, ⟨some ⟨g2, 0, none⟩, q, cg2, varN n2⟩, ⟨a2, n2, c2, data⟩]
        rw [hcat, hal] at HLP
        refine (concatP_any (k := 5) rfl (by decide) hrows (by omega) (by omega)).mono ?_
        rintro e V6 ⟨g6, c6, rfl, hf6, hrow6, hb6⟩
        rw [hcat] at hf6 hrow6 ⊢
        obtain ⟨m, hm⟩ : ∃ m, (sealA k id data).length = m := ⟨_, rfl⟩
        have hml : m ≤ 100000 := by omega
        rw [hm] at hf6 hrow6 ⊢
        have HM := Lib.hid hm
        have HROW := Lib.hid hrow6
        have HR6 := Lib.hid (Rd.of_row hm.symm hf6 (by omega) hrow6)
        have HB6 : Hid (Below W.heap.size W V6) := HB5.out.trans (hb6.mono HB5.out.size)
        have H56 := Lib.hid hb6.size
        have H5W := Lib.hid HB5.out.size
        clear hm hrow6 hb6 hrows hcat hal HLP hSn hs4 hb35 hlK hbA hbB hKn HL3 HS3 HRQ HRP3 H23 HF3 HB3 HB5 hpl hvl hvp hkw hnw
        go_wp2_with fail
        refine (checksum_any HR6.out (sealA_oct HK.out HO.out)).mono ?_
        rintro e V7 ⟨g7, rfl, hC, hb7⟩
        obtain ⟨i0, hi, hz0, hz1, hz2⟩ := info_parts Try.infoB
        obtain ⟨g8, c8, V8, hr, hrow8, hb8, hc8⟩ := run_append_rd (P := Try.prog) V7 V5.heap.size 23 23 5 i0 _ 1 .u8 Try.underlying23 hi hz0 hz1 hz2 rfl g6 m c6 (sealA k id data) (row_below HROW.out hb7) _ 8 8 _ hC (by unfold maxLen; omega) (by omega) (Nat.le_trans H56.out hb7.size)
        have HR := Lib.hid hr
        have HB8 : Hid (Below W.heap.size W V8) := (HB6.out.trans (hb7.mono HB6.out.size)).trans (hb8.mono H5W.out)
        have HR8 : Hid (Rd (fun b => V5.heap.size ≤ b) V8 .u8 (some ⟨g8, 0, none⟩) (m + 8) c8 (sealS k id data)) := Rd.of_row (by rw [sealS_len, HM.out]) hc8 (by omega) hrow8
        clear hr hrow8 hb8 hb7 hC hi hz0 hz1 hz2 HROW HR6 HB6
        go_wp2_with (at_builtin; refine wpList_append_want (o := ⟨some 48, _, _, _, _, _⟩) _ rfl _ _ _ _ rfl _ _ rfl rfl _ _ HR.out ?_)
        go_ret2
        exact ⟨HB8.out, .inl ⟨HE.out, g8, m + 8, c8, rfl, HR8.out.mono (fun b _ h => Nat.le_trans H5W.out h)⟩⟩
  · have hkb : (decide (1 ≤ k) && decide (k ≤ 9)) = false := by simp; omega
    have HE : Hid (sealE k id data = 1) := by show _ = _; unfold sealE; rw [if_pos hk]
    clear hk
    go_enter Try.func17, Try.ntmps17
    go_wp2_with (go_at_call 27; refine (isKind_any _ _).mono ?_; rintro e w' ⟨rfl, rfl⟩; rw [hkb])
    go_ret2
    exact ⟨HB0.out, .inr ⟨by rw [HE.out]; decide, by rw [HE.out]; rfl⟩⟩

end Go.Proofs.Ytkfmgiacdlkmiaa
