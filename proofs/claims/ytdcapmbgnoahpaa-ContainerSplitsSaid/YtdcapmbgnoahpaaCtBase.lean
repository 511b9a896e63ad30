/-
  The reader of sealed forms: its cells, its small steps.
-/
import Derived.Test.YtdcapmbgnoahpaaPkCodes
import Derived.WalkLawsBesides
import Derived.Defers
import Derived.Recover
namespace Go.Proofs.Ytdcapmbgnoahpaa
open Go.RowKit Go.Shelf Go.ChangeShapes Go.WideShapes Go.ChangeAt

/-- The five cells of a reader: the whole, what is left, and the file. -/
def Five (W : World) (B : Nat) (a b c d e : Value) : Prop := W.heap[B]? = some (.cells #[a, b, c, d, e] 157 (0, 0))
section
variable {W V : World} {B : Nat} {a b c d e : Value}
theorem Five.c0 (h : Five W B a b c d e) : W.cell? ⟨B, 0, none⟩ = some a := by simp [World.cell?, show W.heap[B]? = _ from h]
theorem Five.c1 (h : Five W B a b c d e) : W.cell? ⟨B, 1, none⟩ = some b := by simp [World.cell?, show W.heap[B]? = _ from h]
theorem Five.c2 (h : Five W B a b c d e) : W.cell? ⟨B, 2, none⟩ = some c := by simp [World.cell?, show W.heap[B]? = _ from h]
theorem Five.c3 (h : Five W B a b c d e) : W.cell? ⟨B, 3, none⟩ = some d := by simp [World.cell?, show W.heap[B]? = _ from h]
theorem Five.c4 (h : Five W B a b c d e) : W.cell? ⟨B, 4, none⟩ = some e := by simp [World.cell?, show W.heap[B]? = _ from h]
theorem Five.f (h : Five W B a b c d e) (o : Nat) : W.frozen? ⟨B, o, none⟩ = false := by simp [World.frozen?, show W.heap[B]? = _ from h]
theorem Five.lt (h : Five W B a b c d e) : B < W.heap.size := (Array.getElem?_eq_some_iff.1 h).1
theorem Five.new (W : World) (a b c d e : Value) : Five (W.alloc (.cells #[a, b, c, d, e] 157)) W.heap.size a b c d e := World.alloc_heap_new W _
theorem Five.below {n : Nat} (h : Five W B a b c d e) (hb : Below n W V) (hn : B < n) : Five V B a b c d e := (hb.block B hn).trans h
theorem Five.set1 (h : Five W B a b c d e) (v : Value) : Five (W.setCell ⟨B, 1, none⟩ v) B a v c d e := by
  have h : W.heap[B]? = _ := h
  show (W.setCell ⟨B, 1, none⟩ v).heap[B]? = _
  simp [World.setCell, Array.getElem?_modify, h]
theorem Five.set2 (h : Five W B a b c d e) (v : Value) : Five (W.setCell ⟨B, 2, none⟩ v) B a b v d e := by
  have h : W.heap[B]? = _ := h
  show (W.setCell ⟨B, 2, none⟩ v).heap[B]? = _
  simp [World.setCell, Array.getElem?_modify, h]
theorem Five.set3 (h : Five W B a b c d e) (v : Value) : Five (W.setCell ⟨B, 3, none⟩ v) B a b c v e := by
  have h : W.heap[B]? = _ := h
  show (W.setCell ⟨B, 3, none⟩ v).heap[B]? = _
  simp [World.setCell, Array.getElem?_modify, h]
theorem Five.set4 (h : Five W B a b c d e) (v : Value) : Five (W.setCell ⟨B, 4, none⟩ v) B a b c d v := by
  have h : W.heap[B]? = _ := h
  show (W.setCell ⟨B, 4, none⟩ v).heap[B]? = _
  simp [World.setCell, Array.getElem?_modify, h]
end
theorem grownBy_cell (W : World) (p : Addr) (v : Value) : W.grownBy (W.setCell p v) (some p.block) :=
  ⟨rfl, rfl, rfl, by simp [World.setCell], fun i _ hne => Below.heap_setCell W p v i (fun e => hne (by rw [e]))⟩
theorem kept_set (W : World) (B o : Nat) (v : Value) : Kept (fun b => b ≠ B) W (W.setCell ⟨B, o, none⟩ v) :=
  Kept.of_grownBy (grownBy_cell W ⟨B, o, none⟩ v) (fun r e => by cases e; exact fun h => h rfl)
theorem Below.of_but {A B : World} {r n : Nat} (h : Kept (fun b => b ≠ r) A B) (hn : n ≤ r) (hs : n ≤ A.heap.size) : Below n A B :=
  h.below (fun k hk => by omega) hs

theorem Rd.first9 {K : Nat → Prop} {W : World} {k : IntKind} {a : Option Addr} {len cap : Nat} {zs : List Int} (h : Rd K W k a len cap zs) (m : Nat) (hm : m ≤ len) : Rd K W k a m cap (zs.take m) := by
  refine ⟨by rw [List.length_take, ← h.hl]; omega, Nat.le_trans hm h.fit, h.top, Nat.le_trans hm h.small, fun h0 => ?_⟩
  obtain ⟨b, off, e, hb, hlt, hc⟩ := h.cells (by omega)
  exact ⟨b, off, e, hb, hlt, fun j hj => by rw [hc j (by omega), List.getElem?_take_of_lt hj]⟩

/-- How a reader gives up. -/
abbrev Fails (x : Int) : Ending := .panicked [{ v := .iface 154 (.int .i64 x), recovered := false }]

theorem isKind_any (k : Int) (W : World) : Calls Try.prog 69 #[.int .i64 k] W fun e V => e = .returned (.bool (decide (1 ≤ k) && decide (k ≤ 9))) ∧ W = V := by
  go_enter Try.func69, Try.ntmps69
  by_cases h : 1 ≤ k
  · go_wp2
    go_ret
    exact ⟨by simp [h], rfl⟩
  · go_wp2
    go_ret
    refine ⟨?_, rfl⟩
    show Ending.returned (.bool false) = _
    rw [show (decide (1 ≤ k) && decide (k ≤ 9)) = false by simp; omega]

theorem require_ok (W : World) : Calls Try.prog 127 #[.bool true] W fun e V => e = .returned (.tuple #[]) ∧ W = V := by
  go_enter Try.func127, Try.ntmps127
  go_wp2
  go_end0
  exact ⟨rfl, rfl⟩
theorem require_no (W : World) : Calls Try.prog 127 #[.bool false] W fun e V => e = Fails 8 ∧ W = V := by
  go_enter Try.func127, Try.ntmps127
  go_wp2
  exact ⟨rfl, rfl, rfl⟩

theorem take_no {B : Nat} {v0 v2 v3 v4 : Value} {a : Option Addr} {len cap : Nat} {W : World} (h : Five W B v0 (.slice a len cap) v2 v3 v4) (m : Nat) (hm : len < m) :
    Calls Try.prog 128 #[.pointer (some ⟨B, 0, none⟩), .int .i64 m] W fun e V => e = Fails 7 ∧ W = V := by
  have c1 := h.c1
  go_enter Try.func128, Try.ntmps128
  go_wp2
  exact ⟨rfl, rfl, rfl⟩

theorem take_ok {K : Nat → Prop} {B : Nat} {v0 v2 v3 v4 : Value} {a : Option Addr} {len cap : Nat} {zs : List Int} {W : World} (h : Five W B v0 (.slice a len cap) v2 v3 v4) (hR : Rd K W .u8 a len cap zs) (hc : 0 < len ∨ cap = 0) (m : Nat) (hm : m ≤ len) :
    Calls Try.prog 128 #[.pointer (some ⟨B, 0, none⟩), .int .i64 m] W fun e V => ∃ a2 c2, e = .returned (.slice a m cap) ∧ V = W.setCell ⟨B, 1, none⟩ (.slice a2 (len - m) c2) ∧ Rd K W .u8 a m cap (zs.take m) ∧ Rd K W .u8 a2 (len - m) c2 (zs.drop m) := by
  have c1 := h.c1
  have f1 := h.f 1
  have hfit := hR.fit
  have htop := hR.top
  have hsm := hR.small
  have HT := Lib.hid (hR.first9 m hm)
  by_cases hmc : m = cap
  · subst hmc
    obtain rfl : m = len := by omega
    have HRR : Hid (Rd K W .u8 a (m - m) 0 (zs.drop m)) := ⟨by rw [List.length_drop, ← hR.hl], by omega, by decide, by omega, fun h => by omega⟩
    clear hR
    go_enter Try.func128, Try.ntmps128
    go_wp2
    go_ret
    exact ⟨_, _, rfl, by simp, HT.out, HRR.out⟩
  · obtain ⟨b, off, rfl, hk, hlt, hcs⟩ := hR.cells (by omega)
    have HRR : Hid (Rd K W .u8 (some ⟨b, off + m, none⟩) (len - m) (cap - m) (zs.drop m)) := hR.rest m hm _ (by omega) (by omega) _ (fun _ => rfl)
    clear hcs hR
    have hmc' : m < cap := by omega
    go_enter Try.func128, Try.ntmps128
    go_wp2
    go_ret
    exact ⟨_, _, rfl, by simp, HT.out, HRR.out⟩

/-- What is left behind a part that was read, if there was no error. -/
theorem goOn_ok {B : Nat} {v0 v1 v2 v3 v4 : Value} {a : Option Addr} {n c : Nat} {W : World} (h : Five W B v0 v1 v2 v3 v4) :
    Calls Try.prog 130 #[.pointer (some ⟨B, 0, none⟩), .slice a n c, .int .i64 0] W fun e V => e = .returned (.tuple #[]) ∧ V = W.setCell ⟨B, 1, none⟩ (.slice a n c) := by
  have c1 := h.c1
  have f1 := h.f 1
  have hlt := h.lt
  go_enter Try.func130, Try.ntmps130
  go_wp2_with (go_at_call 127; refine (require_ok _).mono ?_; rintro e w' ⟨rfl, rfl⟩)
  go_end0
  exact ⟨rfl, rfl⟩
theorem goOn_no {B : Nat} {sv : Value} {W : World} {x : Int} (hx : x ≠ 0) :
    Calls Try.prog 130 #[.pointer (some ⟨B, 0, none⟩), sv, .int .i64 x] W fun e V => e = Fails (if x = 7 then 7 else 8) ∧ W = V := by
  go_enter Try.func130, Try.ntmps130
  by_cases h7 : x = 7
  · subst h7
    go_wp2
    exact ⟨rfl, rfl, rfl⟩
  · have h7b : (x == 7) = false := beq_false_of_ne h7
    have h0b : (x == 0) = false := beq_false_of_ne hx
    go_wp2_with (go_at_call 127; refine (require_no _).mono ?_; rintro e w' ⟨rfl, rfl⟩)
    exact ⟨rfl, rfl, rfl⟩

theorem kind_none {B : Nat} {v0 v2 v3 v4 : Value} {a : Option Addr} {cap : Nat} {W : World} (h : Five W B v0 (.slice a 0 cap) v2 v3 v4) :
    Calls Try.prog 105 #[.pointer (some ⟨B, 0, none⟩)] W fun e V => e = Fails 7 ∧ Kept (fun b => b ≠ B) W V := by
  have HT := Lib.hid (take_no h 1 (by decide))
  go_enter Try.func105, Try.ntmps105
  go_wp2_with (go_at_call 128; refine HT.out.mono ?_; rintro e w' ⟨rfl, rfl⟩)
  exact ⟨rfl, rfl, Kept.refl _ _⟩

end Go.Proofs.Ytdcapmbgnoahpaa
