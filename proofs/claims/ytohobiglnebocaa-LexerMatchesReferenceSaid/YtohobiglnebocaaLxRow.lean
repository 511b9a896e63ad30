/-
  Lists of tokens in memory.
-/
import Derived.Test.YtohobiglnebocaaLxToken
namespace Go.Proofs.Ytohobiglnebocaa.Lx
open Go Go.RowKit Go.Shelf Go.Sort Go.ChangeShapes Go.WideShapes Go.ChangeAt
open Go.Proofs.Ytohobiglnebocaa

/-- The slice at a, of n elements and capacity c, reads as the tokens ts. -/
structure RdK (W : World) (a : Option Addr) (n c : Nat) (ts : List Tk) : Prop where
  hl : n = ts.length
  fit : n ≤ c
  top : c ≤ 9223372036854775807
  small : n ≤ 140737488355328
  cells : 0 < n → ∃ b off, a = some ⟨b, off, none⟩ ∧ b < W.heap.size ∧ ∀ j, j < n → W.cell? ⟨b, off + j * 3, none⟩ = some (.int .i64 (ts[j]?.getD Tk.null).k) ∧ W.cell? ⟨b, off + j * 3 + 1, none⟩ = some (.string (bsOf (ts[j]?.getD Tk.null).s)) ∧ W.cell? ⟨b, off + j * 3 + 2, none⟩ = some (.int .i64 (ts[j]?.getD Tk.null).a)
theorem RdK.below {A C : World} {a : Option Addr} {n c : Nat} {ts : List Tk} (h : RdK A a n c ts) (hk : Below A.heap.size A C) : RdK C a n c ts :=
  ⟨h.hl, h.fit, h.top, h.small, fun h0 => by
    obtain ⟨b, off, e, hlt, hc⟩ := h.cells h0
    exact ⟨b, off, e, Nat.lt_of_lt_of_le hlt hk.size, fun j hj => ⟨(World.cell?_of_block (w := A) (hk.block b hlt)).trans (hc j hj).1, (World.cell?_of_block (w := A) (hk.block b hlt)).trans (hc j hj).2.1, (World.cell?_of_block (w := A) (hk.block b hlt)).trans (hc j hj).2.2⟩⟩⟩
theorem RdK.empty {A : World} {a : Option Addr} {c : Nat} (hc : c ≤ 9223372036854775807) : RdK A a 0 c [] := ⟨rfl, Nat.zero_le _, hc, by decide, fun h => absurd h (by decide)⟩
theorem RdK.first {A : World} {a : Option Addr} {n c : Nat} {ts : List Tk} (h : RdK A a n c ts) (m : Nat) (hm : m ≤ n) : RdK A a m c (ts.take m) := by
  refine ⟨by rw [List.length_take, ← h.hl]; omega, Nat.le_trans hm h.fit, h.top, Nat.le_trans hm h.small, fun h0 => ?_⟩
  obtain ⟨b, off, e, hlt, hc⟩ := h.cells (by omega)
  exact ⟨b, off, e, hlt, fun j hj => by rw [List.getElem?_take_of_lt hj]; exact hc j (by omega)⟩

def cellsK (ts : List Tk) : List Value := ts.flatMap fun u => [.int .i64 u.k, .string (bsOf u.s), .int .i64 u.a]
theorem cellsK_len (ts : List Tk) : (cellsK ts).length = ts.length * 3 := by
  unfold cellsK
  induction ts with
  | nil => rfl
  | cons a r ih => rw [List.flatMap_cons, List.length_append, ih]; simp; omega
theorem cellsK_append (a b : List Tk) : cellsK (a ++ b) = cellsK a ++ cellsK b := by unfold cellsK; exact List.flatMap_append
theorem cellsK_at : ∀ (ts : List Tk) (j : Nat), j < ts.length → (cellsK ts)[j * 3]? = some (.int .i64 (ts[j]?.getD Tk.null).k) ∧ (cellsK ts)[j * 3 + 1]? = some (.string (bsOf (ts[j]?.getD Tk.null).s)) ∧ (cellsK ts)[j * 3 + 2]? = some (.int .i64 (ts[j]?.getD Tk.null).a)
  | [], j, h => absurd h (Nat.not_lt_zero j)
  | a :: r, 0, _ => ⟨rfl, rfl, rfl⟩
  | a :: r, j + 1, h => by
    have := cellsK_at r j (by simpa using h)
    have e : cellsK (a :: r) = [.int .i64 a.k, .string (bsOf a.s), .int .i64 a.a] ++ cellsK r := rfl
    rw [e, show (j + 1) * 3 = j * 3 + 3 by omega, show j * 3 + 3 + 1 = j * 3 + 1 + 3 by omega, show j * 3 + 3 + 2 = j * 3 + 2 + 3 by omega]
    simpa using this
theorem Try.infoK : (Try.prog.info? 27).map (fun i => (i.zero, i.size, i.bytes)) = some (some (.agg #[.int .i64 0, .string ⟨#[]⟩, .int .i64 0]), 3, 32) := by kernel_rfl
theorem Try.infoR : (Try.prog.info? 29).map (fun i => (i.zero, i.size, i.bytes)) = some (some (.agg #[.int .i64 0, .string ⟨#[]⟩, .int .i64 0]), 3, 32) := by kernel_rfl
def InfoK (e : TypeId) : Prop := ∃ i, Try.prog.info? e = some i ∧ i.zero = some (.agg #[.int .i64 0, .string ⟨#[]⟩, .int .i64 0]) ∧ i.size = 3 ∧ i.bytes = 32
theorem info_of {e : TypeId} (h : (Try.prog.info? e).map (fun i => (i.zero, i.size, i.bytes)) = some (some (.agg #[.int .i64 0, .string ⟨#[]⟩, .int .i64 0]), 3, 32)) : InfoK e := by
  unfold InfoK
  cases hi : Try.prog.info? e with
  | none => rw [hi] at h; cases h
  | some i =>
    rw [hi] at h
    simp at h
    exact ⟨i, rfl, h.1, h.2.1, h.2.2⟩
theorem info_K : InfoK 27 := info_of Try.infoK
theorem info_R : InfoK 29 := info_of Try.infoR

theorem RdK.of_row {W : World} {base : Nat} {t : TypeId} {v : Value} {ts : List Tk} (hr : W.ownsRow base t 3 v ts.length (cellsK ts)) (hs : ts.length ≤ 1000000) : ∃ a c, v = .slice a ts.length c ∧ RdK W a ts.length c ts := by
  rcases hr.2 with ⟨rfl, h0⟩ | ⟨g, cap, cur, rfl, hb, hg, hc, hm, hcs, ht⟩
  · obtain rfl : ts = [] := List.eq_nil_of_length_eq_zero h0
    exact ⟨none, 0, rfl, RdK.empty (by decide)⟩
  · refine ⟨_, _, rfl, ⟨rfl, hc, by unfold maxLen at hm; omega, by omega, fun h0 => ⟨g, 0, rfl, (Array.getElem?_eq_some_iff.1 hg).1, fun j hj => ?_⟩⟩⟩
    have h3 := cellsK_at ts j hj
    rw [← ht] at h3
    have get : ∀ m u, (cur.toList.take (ts.length * 3))[m]? = some u → W.cell? ⟨g, 0 + m, none⟩ = some u := fun m u h => by
      rw [List.getElem?_take] at h
      split at h
      · rw [Array.getElem?_toList] at h
        simp [World.cell?, hg, h]
      · cases h
    exact ⟨get _ _ h3.1, by have := get _ _ h3.2.1; rwa [← Nat.add_assoc] at this, by have := get _ _ h3.2.2; rwa [← Nat.add_assoc] at this⟩

/-- One more token, behind a row of the call's own. -/
theorem append_tok {P : Program} (w : World) (base : Nat) (t ty e te : TypeId) (i : TypeInfo) (z : Value) (ht : P.underlying t = some (.slice e)) (hi : P.info? e = some i) (hz : i.zero = some z)
    (hsize : i.size = 3) (hby : i.bytes = 32) (hzs : z.cells.size = 3) (v : Value) (n : Nat) (ts : List Tk) (hown : w.ownsRow base e 3 v n (cellsK ts)) (u : Tk) (hn : n ≤ 1000000) (hbase : base ≤ w.heap.size) :
    ∃ v' w', (Builtin.append_ #[t, t] ty #[v, .slice (some ⟨w.heap.size, 0, none⟩) 1 1]).run P (w.alloc (.cells #[.int .i64 u.k, .string (bsOf u.s), .int .i64 u.a] te)) = .ok v' w' ∧
      w'.ownsRow base e 3 v' (n + 1) (cellsK (ts ++ [u])) ∧ Below base w w' ∧ (w.alloc (.cells #[.int .i64 u.k, .string (bsOf u.s), .int .i64 u.a] te)).grownBy w' v.ownBlock := by
  have hb1 : base ≤ (w.alloc (.cells #[.int .i64 u.k, .string (bsOf u.s), .int .i64 u.a] te)).heap.size := by simp; omega
  have hbb : Below base w (w.alloc (.cells #[.int .i64 u.k, .string (bsOf u.s), .int .i64 u.a] te)) := (Below.refl base w).alloc hbase _
  obtain ⟨v', w', hr, h1, h2, _⟩ := run_append_own (P := P) (w.alloc (.cells #[.int .i64 u.k, .string (bsOf u.s), .int .i64 u.a] te)) base t ty e i z 3 32 ht hi hz hsize hby hzs (by decide) v n (cellsK ts) (hown.alloc _) ⟨w.heap.size, 0, none⟩ 1 1 (cellsK [u]) (by rw [cellsK_len]; rfl)
    (fun j x hx => by
      have h0 := World.alloc_heap_new w (.cells #[.int .i64 u.k, .string (bsOf u.s), .int .i64 u.a] te)
      rw [add_plain]
      have : (#[.int .i64 u.k, .string (bsOf u.s), .int .i64 u.a] : Array Value)[0 + j]? = some x := by rw [Nat.zero_add]; simpa [cellsK] using hx
      simp only [World.cell?, h0]
      exact this)
    (fun x hx => by
      have : x = .int .i64 u.k ∨ x = .string (bsOf u.s) ∨ x = .int .i64 u.a := by simpa [cellsK] using hx
      rcases this with rfl | rfl | rfl <;> rfl) (by unfold maxLen; omega) (by omega) hb1
  rw [← cellsK_append] at h1
  refine ⟨v', w', hr, h1, hbb.grown h2 hb1 (fun r e => own_base hown r e), h2⟩

end Go.Proofs.Ytohobiglnebocaa.Lx
