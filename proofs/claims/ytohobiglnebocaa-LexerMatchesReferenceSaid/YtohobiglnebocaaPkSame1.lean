/-
  The comparison of byte sequences of the reference.
-/
import Derived.Test.YtohobiglnebocaaPkCodes
import Derived.Deep.QuietTactic
import Derived.BigQuiet
namespace Go.Proofs.Ytohobiglnebocaa
open Go.RowKit Go.Shelf Go.ChangeShapes Go.WideShapes Go.ChangeAt

theorem Try.infoB : (Try.prog.info? 5).map (fun i => (i.zero, i.size, i.bytes)) = some (some (.int .u8 0), 1, 1) := by kernel_rfl

/-- A slice to which a next element goes into memory of the call's own: it is full, or it is a row of the call's own. -/
def Tail (base : Nat) (e : TypeId) (k : IntKind) (W : World) (v : Value) (zs : List Int) : Prop :=
  (∃ a, v = .slice a 0 0 ∧ zs = []) ∨
  (∃ b off, v = .slice (some ⟨b, off, none⟩) zs.length zs.length ∧ b < W.heap.size ∧ ∀ j, j < zs.length → W.cell? ⟨b, off + j, none⟩ = some (.int k (zs[j]?.getD 0))) ∨
  (∃ g cap, v = .slice (some ⟨g, 0, none⟩) zs.length cap ∧ W.ownsRow base e 1 (.slice (some ⟨g, 0, none⟩) zs.length cap) zs.length (zs.map (Value.int k)))

theorem Tail.row {base : Nat} {e : TypeId} {k : IntKind} {W : World} {g len cap : Nat} {zs : List Int} (hl : len = zs.length)
    (h : W.ownsRow base e 1 (.slice (some ⟨g, 0, none⟩) len cap) len (zs.map (Value.int k))) : Tail base e k W (.slice (some ⟨g, 0, none⟩) len cap) zs := by
  subst hl; exact .inr (.inr ⟨g, cap, rfl, h⟩)

theorem Rd.tail {K : Nat → Prop} {A : World} {k : IntKind} {a : Option Addr} {len cap : Nat} {zs : List Int} (h : Rd K A k a len cap zs) (base : Nat) (e : TypeId) : Tail base e k A (.slice a len len) zs := by
  obtain ⟨rfl, h2, h3, _, h4⟩ := h
  by_cases h0 : 0 < zs.length
  · obtain ⟨b, off, rfl, hb, hlt, hc⟩ := h4 h0
    exact .inr (.inl ⟨b, off, rfl, hlt, hc⟩)
  · obtain rfl : zs = [] := List.eq_nil_of_length_eq_zero (by omega)
    exact .inl ⟨a, rfl, rfl⟩

theorem tail_append {P : Program} (w : World) (base : Nat) (t ty e : TypeId) (i : TypeInfo) (z : Value) (bytes : Nat) (k : IntKind) (ht : P.underlying t = some (.slice e)) (hi : P.info? e = some i) (hz : i.zero = some z)
    (hsize : i.size = 1) (hby : i.bytes = bytes) (hzs : z.cells.size = 1) (v : Value) (zs : List Int) (hT : Tail base e k w v zs) (x : Int) (te : TypeId)
    (h63 : zs.length + 1 ≤ maxLen) (hbytes : (zs.length + 1) * bytes ≤ 140737488355328) (hbase : base ≤ w.heap.size) :
    ∃ g' cap' w', (Builtin.append_ #[t, t] ty #[v, .slice (some ⟨w.heap.size, 0, none⟩) 1 1]).run P (w.alloc (.cells #[.int k x] te)) = .ok (.slice (some ⟨g', 0, none⟩) (zs.length + 1) cap') w' ∧
      w'.ownsRow base e 1 (.slice (some ⟨g', 0, none⟩) (zs.length + 1) cap') (zs.length + 1) ((zs ++ [x]).map (Value.int k)) ∧ Below base w w' ∧ zs.length + 1 ≤ cap' := by
  have hb1 : Below base w (w.alloc (.cells #[.int k x] te)) := (Below.refl _ _).alloc hbase _
  have hb1' : base ≤ (w.alloc (.cells #[.int k x] te)).heap.size := by simp; omega
  rcases hT with ⟨a, rfl, rfl⟩ | ⟨b, off, rfl, hlt, hc⟩ | ⟨g, cap, rfl, hrow⟩
  · cases a with
    | none =>
      obtain ⟨v', w', hr, h1, h2, h3⟩ := run_append_own (P := P) (w.alloc (.cells #[.int k x] te)) base t ty e i z 1 bytes ht hi hz hsize hby hzs (by decide) (.slice none 0 0) 0 [] (World.ownsRow_nil _ base e 1) ⟨w.heap.size, 0, none⟩ 1 1 [.int k x] rfl (cell_one_new _ _ _)
        (fun u hu => by rw [List.mem_singleton.1 hu]; rfl) h63 hbytes hb1'
      have hne : ¬ v' = .slice none 0 0 := fun e => by have := (h3.1 e).2; omega
      obtain ⟨g', cap', rfl, hn, hb⟩ := row_form h1 hne
      exact ⟨g', cap', w', hr, h1, hb1.grown h2 hb1' (fun r e => by cases e), hn⟩
    | some a =>
      obtain ⟨v', w', hr, h1, h2⟩ := run_append_arg_grows (P := P) (w.alloc (.cells #[.int k x] te)) t ty e i z 1 bytes ht hi hz hsize hby hzs (by decide) a 0 0 [] rfl (fun j u hu => by cases hu) ⟨w.heap.size, 0, none⟩ 1 1 [.int k x] rfl (cell_one_new _ _ _)
        (by decide) h63 hbytes
      have hne : ¬ v' = .slice none 0 0 := fun e => by
        subst e
        obtain ⟨q1, q2 | ⟨g', cap', cur, e1, _⟩⟩ := h1
        · have := q2.2; omega
        · cases e1
      obtain ⟨g', cap', rfl, hn, hb⟩ := row_form h1 hne
      exact ⟨g', cap', w', hr, h1.mono hb1', hb1.grown h2 hb1' (fun r e => by cases e), hn⟩
  · obtain ⟨v', w', hr, h1, h2⟩ := run_append_arg_grows (P := P) (w.alloc (.cells #[.int k x] te)) t ty e i z 1 bytes ht hi hz hsize hby hzs (by decide) ⟨b, off, none⟩ zs.length zs.length (zs.map (Value.int k)) (by simp)
      (fun j u hu => by
        rw [List.getElem?_map] at hu
        cases hj : zs[j]? with
        | none => rw [hj] at hu; cases hu
        | some y =>
          rw [hj] at hu
          have hjl := (List.getElem?_eq_some_iff.1 hj).1
          have := hc j hjl
          rw [hj] at this
          rw [add_plain, World.cell?_of_block (w := w) (Below.heap_alloc _ _ _ hlt), this]
          exact hu) ⟨w.heap.size, 0, none⟩ 1 1 [.int k x] rfl (cell_one_new _ _ _)
      (by omega) h63 hbytes
    have hne : ¬ v' = .slice none 0 0 := fun e => by
      subst e
      obtain ⟨q1, q2 | ⟨g', cap', cur, e1, _⟩⟩ := h1
      · have := q2.2; omega
      · cases e1
    obtain ⟨g', cap', rfl, hn, hb⟩ := row_form h1 hne
    exact ⟨g', cap', w', hr, by rw [List.map_append]; exact h1.mono hb1', hb1.grown h2 hb1' (fun r e => by cases e), hn⟩
  · obtain ⟨v', w', hr, h1, h2, h3⟩ := run_append_own (P := P) (w.alloc (.cells #[.int k x] te)) base t ty e i z 1 bytes ht hi hz hsize hby hzs (by decide) _ zs.length _ (hrow.alloc _) ⟨w.heap.size, 0, none⟩ 1 1 [.int k x] rfl (cell_one_new _ _ _)
      (fun u hu => by rw [List.mem_singleton.1 hu]; rfl) h63 hbytes hb1'
    have hne : ¬ v' = .slice none 0 0 := fun e => by have := (h3.1 e).1; cases this
    obtain ⟨g', cap', rfl, hn, hb⟩ := row_form h1 hne
    exact ⟨g', cap', w', hr, by rw [List.map_append]; exact h1, hb1.grown h2 hb1' (fun r e => by cases e; exact row_base hrow), hn⟩

/-- What a function that makes a row of bytes gives back. -/
def Makes (w : World) (e : Ending) (w' : World) (zs : List Int) : Prop :=
  ∃ g cap, e = .returned (.slice (some ⟨g, 0, none⟩) zs.length cap) ∧ zs.length ≤ cap ∧ w'.ownsRow w.heap.size 5 1 (.slice (some ⟨g, 0, none⟩) zs.length cap) zs.length (zs.map (Value.int .u8)) ∧ Below w.heap.size w w'

/-- What reading a code comes to. -/
def ReadPost (K : Nat → Prop) (zs : List Int) (W : World) (e : Ending) (W' : World) : Prop :=
  W = W' ∧ (((rdS zs).2.2 = 0 ∧ ∃ a' n, e = .returned (.tuple #[.int .u64 (rdS zs).1, .slice a' n n, .int .i64 0]) ∧ Rd K W .u8 a' n n (zs.drop (rdS zs).2.1)) ∨
    ((rdS zs).2.2 ≠ 0 ∧ e = .returned (.tuple #[.int .u64 0, .slice none 0 0, .int .i64 (rdS zs).2.2])))

theorem ReadPost.good {K : Nat → Prop} {zs : List Int} {W : World} {e : Ending} {u : Int} {c : Nat} {a' : Option Addr} {n : Nat} (h : rdS zs = (u, c, 0)) (he : e = .returned (.tuple #[.int .u64 u, .slice a' n n, .int .i64 0])) (hR : Rd K W .u8 a' n n (zs.drop c)) : ReadPost K zs W e W :=
  ⟨rfl, .inl ⟨by rw [h], a', n, by rw [h]; exact he, by rw [h]; exact hR⟩⟩
theorem ReadPost.bad {K : Nat → Prop} {zs : List Int} {W : World} {e : Ending} {x : Int} (h : rdS zs = (0, 0, x)) (hx : x ≠ 0) (he : e = .returned (.tuple #[.int .u64 0, .slice none 0 0, .int .i64 x])) : ReadPost K zs W e W :=
  ⟨rfl, .inr ⟨by rw [h]; exact hx, by rw [h]; exact he⟩⟩

/-- A round's head: what is still to be read, and what has been gathered. -/
def RdAt (zs : List Int) (k : Nat) (a : Int) : Prop := (k ≤ 9 → 0 ≤ a ∧ a < 2 ^ (7 * k)) ∧ rdS zs = rdF k a (zs.drop k)

theorem RdAt.start (zs : List Int) : RdAt zs 0 0 := ⟨fun _ => ⟨by decide, by decide⟩, rfl⟩
theorem RdAt.more {zs : List Int} {k : Nat} {a : Int} (h : RdAt zs k a) (hk : k < zs.length) (hk9 : k ≤ 9) (hx : 0 ≤ zs[k]?.getD 0 ∧ zs[k]?.getD 0 < 256) (h128 : 128 ≤ zs[k]?.getD 0) :
    RdAt zs (k + 1) (bits BinOp.or IntKind.u64 a (IntKind.u64.wrap ((zs[k]?.getD 0 - 128) * 2 ^ (7 * k)))) := by
  obtain ⟨h1, h2⟩ := h
  have h1 := h1 hk9
  rw [drop_getD_cons zs k hk] at h2
  generalize zs[k]?.getD 0 = x at *
  rw [rdF, if_neg (by omega), if_pos h128] at h2
  by_cases h8 : k ≤ 8
  · have HO := or_text a (x - 128) k h1 ⟨by omega, by omega⟩ (.inl (by omega))
    rw [HO]
    refine ⟨fun _ => ⟨?_, ?_⟩, h2⟩
    · have : (0 : Int) ≤ (x - 128) * 2 ^ (7 * k) := Int.mul_nonneg (by omega) (Int.le_of_lt (Int.pow_pos (by decide)))
      omega
    · rw [show 7 * (k + 1) = 7 * k + 7 by omega, Int.pow_add]
      have h3 : (x - 128) * 2 ^ (7 * k) ≤ 127 * 2 ^ (7 * k) := Int.mul_le_mul_of_nonneg_right (by omega) (Int.le_of_lt (Int.pow_pos (by decide)))
      generalize (2 : Int) ^ (7 * k) = P at *
      show _ < P * 128
      omega
  · obtain rfl : k = 9 := by omega
    exact ⟨fun h => absurd h (by decide), by rw [h2, rdF_ten, rdF_ten]⟩
theorem RdAt.over {zs : List Int} {k : Nat} {a : Int} (h : RdAt zs k a) (hk : k = zs.length) (h10 : k < 10) : rdS zs = (0, 0, 7) := by
  rw [h.2, hk, List.drop_length, rdF, if_pos (by omega)]
theorem RdAt.long {zs : List Int} {k : Nat} {a : Int} (h : RdAt zs k a) (hk : k = 10) : rdS zs = (0, 0, 5) := by
  rw [h.2, hk, rdF_ten]
theorem RdAt.ended {zs : List Int} {k : Nat} {a : Int} (h : RdAt zs k a) (hk : k < zs.length) (hk9 : k ≤ 9) (hx : 0 ≤ zs[k]?.getD 0) (h128 : ¬ 128 ≤ zs[k]?.getD 0) (he : ends k (zs[k]?.getD 0) = true) :
    rdS zs = (bits BinOp.or IntKind.u64 a (IntKind.u64.wrap (zs[k]?.getD 0 * 2 ^ (7 * k))), k + 1, 0) := by
  obtain ⟨h1, h2⟩ := h
  have h1 := h1 hk9
  rw [drop_getD_cons zs k hk] at h2
  generalize zs[k]?.getD 0 = x at *
  rw [rdF, if_neg (by omega), if_neg h128, if_pos he] at h2
  rw [h2, or_text a x k h1 ⟨hx, by omega⟩ ?_]
  by_cases h9 : k = 9
  · subst h9; exact .inr ⟨rfl, by simp [ends] at he; omega⟩
  · exact .inl (by omega)
theorem RdAt.wrong {zs : List Int} {k : Nat} {a : Int} (h : RdAt zs k a) (hk : k < zs.length) (hk9 : k ≤ 9) (h128 : ¬ 128 ≤ zs[k]?.getD 0) (he : ends k (zs[k]?.getD 0) = false) : rdS zs = (0, 0, 5) := by
  obtain ⟨h1, h2⟩ := h
  rw [drop_getD_cons zs k hk] at h2
  rw [h2, rdF, if_neg (by omega), if_neg h128, he]; rfl

end Go.Proofs.Ytohobiglnebocaa

namespace Go.Proofs.Ytohobiglnebocaa
open Go.RowKit Go.Shelf Go.ChangeShapes Go.WideShapes Go.ChangeAt

/-- Are the lists equal? -/
def sameB (a b : List Int) : Bool := decide (a = b)
theorem sameB_true {a b : List Int} (h : a = b) : sameB a b = true := decide_eq_true h
theorem sameB_false {a b : List Int} (h : a ≠ b) : sameB a b = false := decide_eq_false h
theorem sameB_iff {a b : List Int} : sameB a b = true ↔ a = b := by unfold sameB; exact decide_eq_true_iff

theorem eq_of_getD {a b : List Int} (hl : a.length = b.length) (h : ∀ j, j < a.length → a[j]?.getD 0 = b[j]?.getD 0) : a = b := by
  apply List.ext_getElem hl
  intro j h1 h2
  have := h j h1
  rw [List.getElem?_eq_getElem h1, List.getElem?_eq_getElem h2] at this
  exact this

theorem below_drewN {B : Nat} {a w : World} (h : Below B a w) (n : Nat) : Below B a (w.drewN n) := h.trans ⟨rfl, rfl, rfl, Nat.le_refl _, fun _ _ => rfl⟩

/-- A result of reading, as the program's struct. -/
def gotV (u : Int) (l r : Value) (e : Int) : Value := .agg #[.int .u64 u, l, r, .int .i64 e]

end Go.Proofs.Ytohobiglnebocaa
