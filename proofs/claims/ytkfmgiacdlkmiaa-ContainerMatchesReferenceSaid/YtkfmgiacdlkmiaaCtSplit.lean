/-
  Lists of files in memory; splitting bytes into files.
-/
import Derived.Test.YtkfmgiacdlkmiaaCtOpen
namespace Go.Proofs.Ytkfmgiacdlkmiaa
open Go Go.RowKit Go.Shelf Go.ChangeShapes Go.WideShapes Go.ChangeAt

/-! ### Rows of files -/

/-- A file, as it lies in memory: its kind, and where its lists lie. -/
structure Fe where
  k : Int
  a1 : Option Addr
  n1 : Nat
  c1 : Nat
  a2 : Option Addr
  n2 : Nat
  c2 : Nat
def Fe.s1 (e : Fe) : Value := .slice e.a1 e.n1 e.c1
def Fe.s2 (e : Fe) : Value := .slice e.a2 e.n2 e.c2
def cellsE (es : List Fe) : List Value := es.flatMap fun u => [.int .i64 u.k, u.s1, u.s2]
def Fe.none : Fe := ⟨0, .none, 0, 0, .none, 0, 0⟩
def Fl.none : Fl := ⟨0, [], []⟩
theorem cellsE_len (es : List Fe) : (cellsE es).length = es.length * 3 := by
  unfold cellsE
  induction es with
  | nil => rfl
  | cons a r ih => rw [List.flatMap_cons, List.length_append, ih]; simp; omega
theorem cellsE_append (a b : List Fe) : cellsE (a ++ b) = cellsE a ++ cellsE b := by unfold cellsE; exact List.flatMap_append
theorem cellsE_at : ∀ (es : List Fe) (j : Nat), j < es.length → (cellsE es)[j * 3]? = some (.int .i64 (es[j]?.getD Fe.none).k) ∧ (cellsE es)[j * 3 + 1]? = some (es[j]?.getD Fe.none).s1 ∧ (cellsE es)[j * 3 + 2]? = some (es[j]?.getD Fe.none).s2
  | [], j, h => absurd h (Nat.not_lt_zero j)
  | a :: r, 0, _ => ⟨rfl, rfl, rfl⟩
  | a :: r, j + 1, h => by
    have := cellsE_at r j (by simpa using h)
    have e : cellsE (a :: r) = [.int .i64 a.k, a.s1, a.s2] ++ cellsE r := rfl
    rw [e, show (j + 1) * 3 = j * 3 + 3 by omega, show j * 3 + 3 + 1 = j * 3 + 1 + 3 by omega, show j * 3 + 3 + 2 = j * 3 + 2 + 3 by omega]
    simpa using this
theorem Try.infoF9 : (Try.prog.info? 25).map (fun i => (i.zero, i.size, i.bytes)) = some (some (.agg #[.int .i64 0, .slice none 0 0, .slice none 0 0]), 3, 56) := by kernel_rfl
theorem info_partsF : ∃ i, Try.prog.info? 25 = some i ∧ i.zero = some (.agg #[.int .i64 0, .slice none 0 0, .slice none 0 0]) ∧ i.size = 3 ∧ i.bytes = 56 := by
  have h := Try.infoF9
  cases hi : Try.prog.info? 25 with
  | none => rw [hi] at h; cases h
  | some i =>
    rw [hi] at h
    simp at h
    exact ⟨i, rfl, h.1, h.2.1, h.2.2⟩

/-- What lies there is this file. -/
def HoldsE (K : Nat → Prop) (W : World) (e : Fe) (f : Fl) : Prop := e.k = f.k ∧ Rd K W .i64 e.a1 e.n1 e.c1 f.id ∧ Rd K W .u8 e.a2 e.n2 e.c2 f.data
theorem HoldsE.below {K : Nat → Prop} {A B : World} {e : Fe} {f : Fl} (h : HoldsE K A e f) (hb : Below A.heap.size A B) : HoldsE K B e f := ⟨h.1, h.2.1.below hb, h.2.2.below hb⟩
theorem HoldsE.kept {K : Nat → Prop} {A B : World} {e : Fe} {f : Fl} (h : HoldsE K A e f) (hb : Kept K A B) : HoldsE K B e f := ⟨h.1, h.2.1.kept hb, h.2.2.kept hb⟩
theorem HoldsE.mono {K K' : Nat → Prop} {A : World} {e : Fe} {f : Fl} (h : HoldsE K A e f) (hk : ∀ b, b < A.heap.size → K b → K' b) : HoldsE K' A e f := ⟨h.1, h.2.1.mono hk, h.2.2.mono hk⟩

/-- The slice at a, of len elements, reads as these files: their cells in one block that K names, their lists in blocks that L names. -/
structure RdFs (K L : Nat → Prop) (W : World) (a : Option Addr) (len cap : Nat) (fs : List Fl) : Prop where
  hl : len = fs.length
  fit : len ≤ cap
  top : cap ≤ 9223372036854775807
  small : len ≤ 1099511627776
  cells : 0 < len → ∃ b off, a = some ⟨b, off, none⟩ ∧ K b ∧ b < W.heap.size ∧ ∀ j, j < len → ∃ e : Fe, W.cell? ⟨b, off + j * 3, none⟩ = some (.int .i64 e.k) ∧ W.cell? ⟨b, off + j * 3 + 1, none⟩ = some e.s1 ∧ W.cell? ⟨b, off + j * 3 + 2, none⟩ = some e.s2 ∧ HoldsE L W e (fs[j]?.getD Fl.none)
theorem RdFs.below {K L : Nat → Prop} {A B : World} {a : Option Addr} {len cap : Nat} {fs : List Fl} (h : RdFs K L A a len cap fs) (hk : Below A.heap.size A B) : RdFs K L B a len cap fs :=
  ⟨h.hl, h.fit, h.top, h.small, fun h0 => by
    obtain ⟨b, off, e, hb, hlt, hc⟩ := h.cells h0
    exact ⟨b, off, e, hb, Nat.lt_of_lt_of_le hlt hk.size, fun j hj => by
      obtain ⟨e, h1, h2, h3, h4⟩ := hc j hj
      exact ⟨e, (World.cell?_of_block (w := A) (hk.block b hlt)).trans h1, (World.cell?_of_block (w := A) (hk.block b hlt)).trans h2, (World.cell?_of_block (w := A) (hk.block b hlt)).trans h3, h4.below hk⟩⟩⟩
theorem RdFs.mono {K K' L L' : Nat → Prop} {A : World} {a : Option Addr} {len cap : Nat} {fs : List Fl} (h : RdFs K L A a len cap fs) (hk : ∀ b, b < A.heap.size → K b → K' b) (hk2 : ∀ b, b < A.heap.size → L b → L' b) : RdFs K' L' A a len cap fs :=
  ⟨h.hl, h.fit, h.top, h.small, fun h0 => by
    obtain ⟨b, off, e, hb, hlt, hc⟩ := h.cells h0
    exact ⟨b, off, e, hk b hlt hb, hlt, fun j hj => by
      obtain ⟨e, h1, h2, h3, h4⟩ := hc j hj
      exact ⟨e, h1, h2, h3, h4.mono hk2⟩⟩⟩
theorem RdFs.empty {K L : Nat → Prop} {A : World} {a : Option Addr} {c : Nat} (hc : c ≤ 9223372036854775807) : RdFs K L A a 0 c [] := ⟨rfl, Nat.zero_le _, hc, by decide, fun h => absurd h (by decide)⟩
/-- The first ones. -/
theorem RdFs.first {K L : Nat → Prop} {A : World} {a : Option Addr} {len cap : Nat} {fs : List Fl} (h : RdFs K L A a len cap fs) (m : Nat) (hm : m ≤ len) : RdFs K L A a m cap (fs.take m) :=
  ⟨by rw [List.length_take, ← h.hl]; omega, Nat.le_trans hm h.fit, h.top, Nat.le_trans hm h.small, fun h0 => by
    obtain ⟨b, off, e, hb, hlt, hc⟩ := h.cells (by omega)
    exact ⟨b, off, e, hb, hlt, fun j hj => by
      obtain ⟨e, h1, h2, h3, h4⟩ := hc j (by omega)
      exact ⟨e, h1, h2, h3, by rw [List.getElem?_take_of_lt hj]; exact h4⟩⟩⟩

/-- All that lies there are these files. -/
def AllE (L : Nat → Prop) (W : World) (es : List Fe) (fs : List Fl) : Prop := es.length = fs.length ∧ ∀ j, j < es.length → HoldsE L W (es[j]?.getD Fe.none) (fs[j]?.getD Fl.none)
theorem AllE.below {L : Nat → Prop} {A B : World} {es : List Fe} {fs : List Fl} (h : AllE L A es fs) (hb : Below A.heap.size A B) : AllE L B es fs := ⟨h.1, fun j hj => (h.2 j hj).below hb⟩
theorem AllE.kept {L : Nat → Prop} {A B : World} {es : List Fe} {fs : List Fl} (h : AllE L A es fs) (hb : Kept L A B) : AllE L B es fs := ⟨h.1, fun j hj => (h.2 j hj).kept hb⟩
theorem AllE.snoc {L : Nat → Prop} {A : World} {es : List Fe} {fs : List Fl} (h : AllE L A es fs) {e : Fe} {f : Fl} (he : HoldsE L A e f) : AllE L A (es ++ [e]) (fs ++ [f]) := by
  refine ⟨by simp [h.1], fun j hj => ?_⟩
  by_cases hlt : j < es.length
  · rw [List.getElem?_append_left hlt, List.getElem?_append_left (by rw [← h.1]; exact hlt)]
    exact h.2 j hlt
  · obtain rfl : j = es.length := by simp at hj; omega
    rw [List.getElem?_append_right (Nat.le_refl _), List.getElem?_append_right (by rw [h.1]; exact Nat.le_refl _), Nat.sub_self, h.1, Nat.sub_self]
    exact he
theorem AllE.nil {L : Nat → Prop} {A : World} : AllE L A [] [] := ⟨rfl, fun j hj => absurd hj (Nat.not_lt_zero j)⟩

theorem RdFs.of_row {L : Nat → Prop} {W : World} {base : Nat} {t : TypeId} {v : Value} {n : Nat} {es : List Fe} {fs : List Fl} (hr : W.ownsRow base t 3 v n (cellsE es)) (ha : AllE L W es fs) (hs : n ≤ 1000000) : ∃ a cap, v = .slice a n cap ∧ RdFs (fun b => base ≤ b) L W a n cap fs := by
  have hn : n = es.length := by have := hr.1; rw [cellsE_len] at this; omega
  rcases hr.2 with ⟨rfl, rfl⟩ | ⟨g, cap, cur, rfl, hb, hg, hc, hm, hcs, ht⟩
  · obtain rfl : es = [] := List.eq_nil_of_length_eq_zero hn.symm
    obtain rfl : fs = [] := List.eq_nil_of_length_eq_zero ha.1.symm
    exact ⟨none, 0, rfl, RdFs.empty (by decide)⟩
  · refine ⟨_, _, rfl, ⟨hn.trans ha.1, hc, by unfold maxLen at hm; omega, by omega, fun h0 => ⟨g, 0, rfl, hb, (Array.getElem?_eq_some_iff.1 hg).1, fun j hj => ?_⟩⟩⟩
    have h3 := cellsE_at es j (by omega)
    rw [← ht] at h3
    have get : ∀ m u, (cur.toList.take (n * 3))[m]? = some u → W.cell? ⟨g, 0 + m, none⟩ = some u := fun m u h => by
      rw [List.getElem?_take] at h
      split at h
      · rw [Array.getElem?_toList] at h
        simp [World.cell?, hg, h]
      · cases h
    exact ⟨_, get _ _ h3.1, by have := get _ _ h3.2.1; rwa [← Nat.add_assoc] at this, by have := get _ _ h3.2.2; rwa [← Nat.add_assoc] at this, ha.2 j (by omega)⟩

/-- One more file, behind a row of the call's own: in the same block, or in a new one. -/
theorem append_file (w : World) (base : Nat) (v : Value) (n : Nat) (vs : List Fe) (hown : w.ownsRow base 25 3 v n (cellsE vs)) (g0 : Nat) (u : Fe) (hu : w.heap[g0]? = some (.cells #[.int .i64 u.k, u.s1, u.s2] 25 (0, 0))) (hn : n ≤ 1000000) (hbase : base ≤ w.heap.size) :
    ∃ g' cap' w', (Builtin.append_ #[30, 30] 30 #[v, .slice (some ⟨g0, 0, none⟩) 1 1]).run Try.prog w = .ok (.slice (some ⟨g', 0, none⟩) (n + 1) cap') w' ∧
      w'.ownsRow base 25 3 (.slice (some ⟨g', 0, none⟩) (n + 1) cap') (n + 1) (cellsE (vs ++ [u])) ∧ w.grownBy w' v.ownBlock ∧ (v.ownBlock = some g' ∨ w.heap.size ≤ g') ∧ n + 1 ≤ cap' := by
  obtain ⟨i0, hi, hz0, hz1, hz2⟩ := info_partsF
  have hnews : ∀ j x, (cellsE [u])[j]? = some x → w.cell? ((⟨g0, 0, none⟩ : Addr).add j) = some x := fun j x hx => by
    rw [add_plain]
    have : (#[.int .i64 u.k, u.s1, u.s2] : Array Value)[0 + j]? = some x := by rw [Nat.zero_add]; simpa [cellsE] using hx
    simp only [World.cell?, hu]
    exact this
  have hone : ∀ x ∈ cellsE [u], x.oneCell' = true := fun x hx => by
    have : x = .int .i64 u.k ∨ x = u.s1 ∨ x = u.s2 := by simpa [cellsE] using hx
    rcases this with rfl | rfl | rfl <;> rfl
  have hl1 : (cellsE [u]).length = 1 * 3 := by rw [cellsE_len]; rfl
  rw [cellsE_append]
  rcases hown.2 with ⟨rfl, h0⟩ | ⟨g, cap, cur, rfl, hb, hg, hnc, hm, hcs, ht⟩
  · subst h0
    obtain ⟨v', w', hr, h1, h2, h3⟩ := run_append_own (P := Try.prog) w w.heap.size 30 30 25 i0 _ 3 56 Try.underlying30 hi hz0 hz1 hz2 rfl (by decide) (.slice none 0 0) 0 (cellsE vs) ⟨hown.1, .inl ⟨rfl, rfl⟩⟩ ⟨g0, 0, none⟩ 1 1 (cellsE [u]) hl1 hnews hone (by unfold maxLen; omega) (by omega) (Nat.le_refl _)
    have hne : ¬ v' = .slice none 0 0 := fun e => by have := (h3.1 e).2; omega
    obtain ⟨g', cap', rfl, hn', hg'⟩ := row_form h1 hne
    exact ⟨g', cap', w', hr, ⟨h1.1, h1.2.imp id (fun ⟨g, c, cur, e, h, r⟩ => ⟨g, c, cur, e, Nat.le_trans hbase h, r⟩)⟩, h2, .inr hg', hn'⟩
  · by_cases hroom : n + 1 ≤ cap
    · obtain ⟨w', hr, h1, h2⟩ := run_append_fits (P := Try.prog) w base 30 30 25 i0 3 Try.underlying30 hi hz1 g n cap (cellsE vs) hown ⟨g0, 0, none⟩ 1 1 (cellsE [u]) hl1 hnews hone hroom
      exact ⟨g, cap, w', hr, h1, h2, .inl rfl, hroom⟩
    · have holds : ∀ j x, (cellsE vs)[j]? = some x → w.cell? ((⟨g, 0, none⟩ : Addr).add j) = some x := fun j x hx => by
        rw [← ht, List.getElem?_take] at hx
        split at hx
        · rw [Array.getElem?_toList] at hx
          rw [add_plain]
          simp [World.cell?, hg, hx]
        · cases hx
      obtain ⟨v', w', hr, h1, h2⟩ := run_append_arg_grows (P := Try.prog) w 30 30 25 i0 _ 3 56 Try.underlying30 hi hz0 hz1 hz2 rfl (by decide) ⟨g, 0, none⟩ n cap (cellsE vs) hown.1 holds ⟨g0, 0, none⟩ 1 1 (cellsE [u]) hl1 hnews (by omega) (by unfold maxLen; omega) (by omega)
      have hne : ¬ v' = .slice none 0 0 := fun e => by
        subst e
        rcases h1.2 with ⟨_, e⟩ | ⟨g', c', cur, e, _⟩
        · omega
        · cases e
      obtain ⟨g', cap', rfl, hn', hg'⟩ := row_form h1 hne
      exact ⟨g', cap', w', hr, ⟨h1.1, h1.2.imp id (fun ⟨g, c, cur, e, h, r⟩ => ⟨g, c, cur, e, Nat.le_trans hbase h, r⟩)⟩, ⟨h2.os, h2.tape, h2.output, h2.size, fun k hk _ => h2.block k hk (by simp)⟩, .inr hg', hn'⟩

/-! ### Splitting -/

/-- The files that bytes begin with, and what is behind them. -/
def spl : Nat → List Int → List Fl × List Int
  | 0, bs => ([], bs)
  | n + 1, bs => if fstE bs ≠ 0 then ([], bs) else (⟨fstK bs, fstI bs, fstD bs⟩ :: (spl n (bs.drop (fstN bs))).1, (spl n (bs.drop (fstN bs))).2)
def splS (bs : List Int) : List Fl × List Int := spl (bs.length + 1) bs

theorem fstN_pos (bs : List Int) : 8 ≤ fstN bs := by unfold fstN; omega
theorem fstN_le {bs : List Int} (ho : Oct bs) (h : fstE bs = 0) : fstN bs ≤ bs.length := by
  obtain ⟨-, -, -, -, e, el⟩ := first_canon ho h
  have := congrArg List.length e
  rw [List.length_append, ← el] at this
  omega
theorem spl_fuel : ∀ (n m : Nat) (bs : List Int), Oct bs → bs.length < n → bs.length < m → spl n bs = spl m bs
  | 0, _, _, _, h, _ => absurd h (Nat.not_lt_zero _)
  | _ + 1, 0, _, _, _, h => absurd h (Nat.not_lt_zero _)
  | n + 1, m + 1, bs, ho, h1, h2 => by
    unfold spl
    by_cases hz : fstE bs = 0
    · rw [if_neg (fun c => c hz), if_neg (fun c => c hz)]
      have h3 := fstN_pos bs
      have h4 := fstN_le ho hz
      rw [spl_fuel n m (bs.drop (fstN bs)) (ho.drop _) (by rw [List.length_drop]; omega) (by rw [List.length_drop]; omega)]
    · rw [if_pos hz, if_pos hz]
theorem splS_end {bs : List Int} (h : fstE bs ≠ 0) : splS bs = ([], bs) := by unfold splS spl; rw [if_pos h]
theorem splS_more {bs : List Int} (ho : Oct bs) (h : fstE bs = 0) : splS bs = (⟨fstK bs, fstI bs, fstD bs⟩ :: (splS (bs.drop (fstN bs))).1, (splS (bs.drop (fstN bs))).2) := by
  have h3 := fstN_pos bs
  have h4 := fstN_le ho h
  unfold splS
  rw [spl, if_neg (fun c => c h), spl_fuel bs.length ((bs.drop (fstN bs)).length + 1) (bs.drop (fstN bs)) (ho.drop _) (by rw [List.length_drop]; omega) (by omega)]

end Go.Proofs.Ytkfmgiacdlkmiaa
