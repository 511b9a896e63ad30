/-
  Files in memory: their order, as the program has it and as the reference has it; whether they are equal.
-/
import Derived.Test.YtdcapmbgnoahpaaCtCmp
import Derived.Test.YtdcapmbgnoahpaaByRow
import Derived.ArgAppend
import Derived.Deep.Cut
namespace Go.Proofs.Ytdcapmbgnoahpaa
open Go Go.RowKit Go.Shelf Go.ChangeShapes Go.WideShapes Go.ChangeAt

theorem Try.infoI9 : (Try.prog.info? 3).map (fun i => (i.zero, i.size, i.bytes)) = some (some (.int .i64 0), 1, 8) := by kernel_rfl

/-- A file. -/
structure Fl where
  k : Int
  id : List Int
  data : List Int
deriving DecidableEq
def fileV (k : Int) (s1 s2 : Value) : Value := .agg #[.int .i64 k, s1, s2]
/-- Three cells of a file. -/
def FileB (W : World) (B : Nat) (k : Int) (s1 s2 : Value) : Prop := W.heap[B]? = some (.cells #[.int .i64 k, s1, s2] 52 (0, 0))
section
variable {W V : World} {B : Nat} {k : Int} {s1 s2 : Value}
theorem FileB.c0 (h : FileB W B k s1 s2) : W.cell? ⟨B, 0, none⟩ = some (.int .i64 k) := by simp [World.cell?, show W.heap[B]? = _ from h]
theorem FileB.c1 (h : FileB W B k s1 s2) : W.cell? ⟨B, 1, none⟩ = some s1 := by simp [World.cell?, show W.heap[B]? = _ from h]
theorem FileB.c2 (h : FileB W B k s1 s2) : W.cell? ⟨B, 2, none⟩ = some s2 := by simp [World.cell?, show W.heap[B]? = _ from h]
theorem FileB.f (h : FileB W B k s1 s2) (o : Nat) : W.frozen? ⟨B, o, none⟩ = false := by simp [World.frozen?, show W.heap[B]? = _ from h]
theorem FileB.lt (h : FileB W B k s1 s2) : B < W.heap.size := (Array.getElem?_eq_some_iff.1 h).1
theorem FileB.new (W : World) (k : Int) (s1 s2 : Value) : FileB (W.alloc (.cells #[.int .i64 k, s1, s2] 52)) W.heap.size k s1 s2 := World.alloc_heap_new W _
theorem FileB.below {n : Nat} (h : FileB W B k s1 s2) (hb : Below n W V) (hn : B < n) : FileB V B k s1 s2 := (hb.block B hn).trans h
end

theorem cmpI_zero {a b : Int} : cmpI a b = 0 ↔ a = b := by unfold cmpI; split <;> (try split) <;> omega
theorem cmpN_zero : ∀ {xs ys : List Int}, cmpN xs ys = 0 ↔ xs = ys
  | [], [] => by simp [cmpN]
  | [], _ :: _ => by simp [cmpN]
  | _ :: _, [] => by simp [cmpN]
  | x :: xs, y :: ys => by
    unfold cmpN
    split
    · next h =>
      constructor
      · intro e; exact absurd e (by decide)
      · intro e; injection e; omega
    · split
      · next h =>
        constructor
        · intro e; exact absurd e (by decide)
        · intro e; injection e; omega
      · rw [cmpN_zero]
        constructor
        · intro e; rw [e, show x = y by omega]
        · intro e; injection e
/-- The order of identities. -/
def cmpF (k : Int) (id : List Int) (k' : Int) (id' : List Int) : Int := if cmpI k k' = 0 then cmpN id id' else cmpI k k'
theorem cmpF_cons (k : Int) (id : List Int) (k' : Int) (id' : List Int) : cmpN (k :: id) (k' :: id') = cmpF k id k' id' := by
  unfold cmpF cmpI
  rw [cmpN]
  by_cases h1 : k < k'
  · simp [h1]
  · by_cases h2 : k' < k
    · simp [h1, h2]
    · simp [h1, h2]
theorem cmpF_zero {k k' : Int} {id id' : List Int} : cmpF k id k' id' = 0 ↔ k = k' ∧ id = id' := by
  rw [← cmpF_cons, cmpN_zero]; simp

/-- An append whose run is known, which writes nothing that there was. -/
theorem step_appendF {P : Program} {ops : Array Oper} {Q : Exit → Act → World → Prop} {φ : Fact} {o : Oper} {a : Act} {W : World} (hw : Region.wanted o (yielded ops a.tmps) = true) (s x : Operand) (t tn : TypeId)
    (ho : o.op = .call { callee := .builtin .append, args := #[s, x], argTypes := #[t, tn] }) {vx : Value} (hx : a.eval x = vx)
    {v' : Value} {w' : World} (hr : (Builtin.append_ #[t, tn] o.type #[a.eval s, vx]).run P W = .ok v' w') (hb : Below W.heap.size W w') (hv : φ v' w') : StepOk P ops Q φ o a W :=
  step_appendB hw s x t tn ho rfl hx hr hb hv
/-- Two numbers, one behind the other. -/
def TwoF (x y : Int) : Fact := fun v W => ∃ g, v = .slice (some ⟨g, 0, none⟩) 2 2 ∧ g < W.heap.size ∧ W.cell? ⟨g, 0, none⟩ = some (.int .i64 x) ∧ W.cell? ⟨g, 1, none⟩ = some (.int .i64 y)
theorem twoF_stable (x y : Int) : (TwoF x y).Stable := fun _ _ _ ⟨g, e, h, c0, c1⟩ hb => ⟨g, e, Nat.lt_of_lt_of_le h hb.size, (hb.cell (p := ⟨g, 0, none⟩) h).trans c0, (hb.cell (p := ⟨g, 1, none⟩) h).trans c1⟩
theorem twoF_new (W : World) (x y : Int) : TwoF x y (.slice (some ⟨W.heap.size, 0, none⟩) 2 2) (W.alloc (.cells #[.int .i64 x, .int .i64 y] 3)) := by
  have h : (W.alloc (.cells #[.int .i64 x, .int .i64 y] 3)).heap[W.heap.size]? = _ := World.alloc_heap_new W _
  exact ⟨_, rfl, (Array.getElem?_eq_some_iff.1 h).1, by unfold World.cell?; rw [h]; rfl, by unfold World.cell?; rw [h]; rfl⟩
/-- One number in a row of its own. -/
def OneF (x : Int) : Fact := fun v W => ∃ g, v = .slice (some ⟨g, 0, none⟩) 1 1 ∧ W.heap[g]? = some (.cells #[.int .i64 x] 3 (0, 0))
theorem oneF_stable (x : Int) : (OneF x).Stable := fun _ _ _ ⟨g, e, h⟩ hb => ⟨g, e, (hb.block g (Array.getElem?_eq_some_iff.1 h).1).trans h⟩
theorem oneF_new (W : World) (x : Int) : OneF x (.slice (some ⟨W.heap.size, 0, none⟩) 1 1) (W.alloc (.cells #[.int .i64 x] 3)) := ⟨_, rfl, World.alloc_heap_new W _⟩
/-- What reads as numbers. -/
def IntsF (zs : List Int) : Fact := fun v W => ∃ a n c, v = .slice a n c ∧ Rd (fun _ => True) W .i64 a n c zs
theorem intsF_stable (zs : List Int) : (IntsF zs).Stable := fun _ _ _ ⟨a, n, c, e, h⟩ hb => ⟨a, n, c, e, h.below hb⟩
theorem oneF_append {x : Int} {ys : List Int} {v : Value} {W : World} (h : OneF x v W) {K : Nat → Prop} {a : Option Addr} {n c : Nat} (hR : Rd K W .i64 a n c ys) (hl : n ≤ 100000000) :
    ∃ v' w', (Builtin.append_ #[24, 24] 24 #[v, .slice a n c]).run Try.prog W = .ok v' w' ∧ IntsF (x :: ys) v' w' ∧ Below W.heap.size W w' := by
  obtain ⟨i0, hi, hz0, hz1, hz2⟩ := info_parts Try.infoI9
  obtain ⟨g, rfl, hg⟩ := h
  have hl1 := hR.hl
  have hglt := (Array.getElem?_eq_some_iff.1 hg).1
  have hc0 : W.cell? ⟨g, 0, none⟩ = some (.int .i64 x) := by simp [World.cell?, hg]
  by_cases h0 : n = 0
  · subst h0
    obtain rfl : ys = [] := List.eq_nil_of_length_eq_zero hl1.symm
    refine ⟨_, W, run_append_empty W 24 24 3 i0 Try.underlying24 hi _ 1 1 (Nat.le_refl _) a c, ⟨_, 1, 1, rfl, rfl, Nat.le_refl _, by decide, by decide, fun _ => ⟨g, 0, rfl, trivial, hglt, fun j hj => ?_⟩⟩, Below.refl _ W⟩
    obtain rfl : j = 0 := by omega
    exact hc0
  · obtain ⟨b, off, rfl, _, _, hc⟩ := hR.cells (by omega)
    subst hl1
    obtain ⟨v', w', hr, h3, h4⟩ := run_append_arg_grows (P := Try.prog) W 24 24 3 i0 _ 1 8 Try.underlying24 hi hz0 hz1 hz2 rfl (by decide) ⟨g, 0, none⟩ 1 1 [.int .i64 x] rfl (fun j u hu => by
        have hj : j < 1 := by
          have := (List.getElem?_eq_some_iff.1 hu).1
          simpa using this
        obtain rfl : j = 0 := by omega
        cases hu
        rw [add_plain]
        exact hc0) ⟨b, off, none⟩ ys.length c (ys.map (Value.int .i64)) (by simp)
      (rd_cells hc) (by omega) (by unfold maxLen; omega) (by omega)
    have hne : ¬ v' = .slice none 0 0 := fun e => by
      subst e
      rcases h3.2 with ⟨_, e⟩ | ⟨g', c', cur, e, _⟩
      · omega
      · cases e
    obtain ⟨g', cap, rfl, hn, hg'⟩ := row_form h3 hne
    have hrow : w'.ownsRow W.heap.size 3 1 (.slice (some ⟨g', 0, none⟩) (1 + ys.length) cap) (1 + ys.length) ((x :: ys).map (Value.int .i64)) := h3
    exact ⟨_, w', hr, ⟨_, _, _, rfl, (Rd.of_row (by simp; omega) hn (by omega) hrow).mono fun _ _ _ => trivial⟩, (Below.refl W.heap.size W).grown h4 (Nat.le_refl _) (fun r e => by cases e)⟩


set_option maxRecDepth 100000 in
set_option maxHeartbeats 4000000 in
theorem ccmp_any {k k' : Int} {a1 a1' : Option Addr} {n1 c1 n1' c1' : Nat} {id id' : List Int} {K1 K1' : Nat → Prop} {w : World} (h1 : Rd K1 w .i64 a1 n1 c1 id) (h2 : Rd K1' w .i64 a1' n1' c1' id') (s s' : Value) :
    Calls Try.prog 33 #[.agg #[.int .i64 k, .slice a1 n1 c1, s], .agg #[.int .i64 k', .slice a1' n1' c1', s']] w fun e V => e = .returned (.int .i64 (cmpF k id k' id')) ∧ Below w.heap.size w V := by
  have H1 := Lib.hid h1
  have H2 := Lib.hid h2
  clear h1 h2
  go_enter Try.func33, Try.ntmps33
  go_upto_region 1 with fail
  have hq1 := FileB.new w k (.slice a1 n1 c1) s
  have hb1 : Below w.heap.size w (w.alloc (.cells #[.int .i64 k, .slice a1 n1 c1, s] 52)) := (Below.refl _ _).alloc (Nat.le_refl _) _
  have hq2 := FileB.new (w.alloc (.cells #[.int .i64 k, .slice a1 n1 c1, s] 52)) k' (.slice a1' n1' c1') s'
  have hb2 : Below (w.alloc (.cells #[.int .i64 k, .slice a1 n1 c1, s] 52)).heap.size (w.alloc (.cells #[.int .i64 k, .slice a1 n1 c1, s] 52)) ((w.alloc (.cells #[.int .i64 k, .slice a1 n1 c1, s] 52)).alloc (.cells #[.int .i64 k', .slice a1' n1' c1', s'] 52)) := (Below.refl _ _).alloc (Nat.le_refl _) _
  replace hq1 := hq1.below hb2 hq1.lt
  have hbb := hb1.trans (hb2.mono (by simp))
  simp only [World.size_alloc] at hq2
  clear hb1 hb2
  generalize ((w.alloc (.cells #[.int .i64 k, .slice a1 n1 c1, s] 52)).alloc (.cells #[.int .i64 k', .slice a1' n1' c1', s'] 52)) = V0 at *
  have HQ1 := Lib.hid hq1
  have HQ2 := Lib.hid hq2
  have HR1 := Lib.hid (H1.out.below hbb)
  have HR2 := Lib.hid (H2.out.below hbb)
  have HBB := Lib.hid hbb
  clear hq1 hq2 hbb
  refine wp_region_facts (by kernel_rfl) (fs := [Fact.is (.pointer (some ⟨w.heap.size, 0, none⟩)), Fact.is (.int .i64 k), Fact.is (.pointer (some ⟨w.heap.size + 1, 0, none⟩)), Fact.is (.int .i64 k'), Fact.is (.int .i64 (cmpI k k')), Fact.is (.pointer (some ⟨w.heap.size, 1, none⟩)), Fact.is (.slice a1 n1 c1), Fact.is (.pointer (some ⟨w.heap.size + 1, 1, none⟩)), Fact.is (.slice a1' n1' c1'), Fact.is (.int .i64 (cmpN id id')), TwoF (cmpI k k') (cmpN id id'), Fact.is (.int .i64 (cmpF k id k' id')), Fact.is (.int .i64 (cmpF k id k' id'))]) (by kernel_rfl) (by kernel_rfl) ⟨Fact.is_stable _, Fact.is_stable _, Fact.is_stable _, Fact.is_stable _, Fact.is_stable _, Fact.is_stable _, Fact.is_stable _, Fact.is_stable _, Fact.is_stable _, Fact.is_stable _, twoF_stable _ _, Fact.is_stable _, Fact.is_stable _, trivial⟩ ?_ ?_
  · exact ⟨by
        intro a W hA hB hd
        have hB := Lib.hid hB
        have p2 : a.eval (.tmp 2) = .pointer (some ⟨w.heap.size, 0, none⟩) := hA.at 2 (by kernel_rfl)
        exact (step_pure (wanted_none rfl) (.pointer (some ⟨w.heap.size, 0, none⟩)) (by simp [execOp, go_sem, tm p2]) rfl),
      by
        intro a W hA hB hd
        obtain ⟨q0, -⟩ := hd
        have h5 : a.eval (.tmp 5) = .pointer (some ⟨w.heap.size, 0, none⟩) := q0
        have hB := Lib.hid hB
        have c0 := (HQ1.out.below hB.out HQ1.out.lt).c0
        exact (step_pure (wanted_none rfl) (.int .i64 k) (by simp [execOp, go_sem, tm h5, c0]) rfl),
      by
        intro a W hA hB hd
        have hB := Lib.hid hB
        have p3 : a.eval (.tmp 3) = .pointer (some ⟨w.heap.size + 1, 0, none⟩) := hA.at 3 (by kernel_rfl)
        exact (step_pure (wanted_none rfl) (.pointer (some ⟨w.heap.size + 1, 0, none⟩)) (by simp [execOp, go_sem, tm p3]) rfl),
      by
        intro a W hA hB hd
        obtain ⟨q0, -⟩ := hd
        have h7 : a.eval (.tmp 7) = .pointer (some ⟨w.heap.size + 1, 0, none⟩) := q0
        have hB := Lib.hid hB
        have c0 := (HQ2.out.below hB.out HQ2.out.lt).c0
        exact (step_pure (wanted_none rfl) (.int .i64 k') (by simp [execOp, go_sem, tm h7, c0]) rfl),
      by
        intro a W hA hB hd
        obtain ⟨q0, q1, -⟩ := hd
        have h6 : a.eval (.tmp 6) = .int .i64 k := q0
        have h8 : a.eval (.tmp 8) = .int .i64 k' := q1
        have hB := Lib.hid hB
        exact (step_calls (wanted_none rfl) rfl (vals := #[.int .i64 k, .int .i64 k']) (by simp [h6, h8]) (enters_of Try.func55 (by kernel_rfl) rfl) ((cmpI_any k k' W).mono fun e w' ⟨he, hw⟩ => ⟨_, he, rfl, by rw [← hw]; exact Below.refl _ _⟩)),
      by
        intro a W hA hB hd
        have hB := Lib.hid hB
        have p2 : a.eval (.tmp 2) = .pointer (some ⟨w.heap.size, 0, none⟩) := hA.at 2 (by kernel_rfl)
        exact (step_pure (wanted_none rfl) (.pointer (some ⟨w.heap.size, 1, none⟩)) (by simp [execOp, go_sem, tm p2]) rfl),
      by
        intro a W hA hB hd
        obtain ⟨q0, -⟩ := hd
        have h10 : a.eval (.tmp 10) = .pointer (some ⟨w.heap.size, 1, none⟩) := q0
        have hB := Lib.hid hB
        have c0 := (HQ1.out.below hB.out HQ1.out.lt).c1
        exact (step_pure (wanted_none rfl) (.slice a1 n1 c1) (by simp [execOp, go_sem, tm h10, c0]) rfl),
      by
        intro a W hA hB hd
        have hB := Lib.hid hB
        have p3 : a.eval (.tmp 3) = .pointer (some ⟨w.heap.size + 1, 0, none⟩) := hA.at 3 (by kernel_rfl)
        exact (step_pure (wanted_none rfl) (.pointer (some ⟨w.heap.size + 1, 1, none⟩)) (by simp [execOp, go_sem, tm p3]) rfl),
      by
        intro a W hA hB hd
        obtain ⟨q0, -⟩ := hd
        have h12 : a.eval (.tmp 12) = .pointer (some ⟨w.heap.size + 1, 1, none⟩) := q0
        have hB := Lib.hid hB
        have c0 := (HQ2.out.below hB.out HQ2.out.lt).c1
        exact (step_pure (wanted_none rfl) (.slice a1' n1' c1') (by simp [execOp, go_sem, tm h12, c0]) rfl),
      by
        intro a W hA hB hd
        obtain ⟨q0, q1, q2, -⟩ := hd
        have h11 : a.eval (.tmp 11) = .slice a1 n1 c1 := q0
        have h13 : a.eval (.tmp 13) = .slice a1' n1' c1' := q1
        have h9 : a.eval (.tmp 9) = .int .i64 (cmpI k k') := q2
        have hB := Lib.hid hB
        exact (step_calls (wanted_none rfl) rfl (vals := #[.slice a1 n1 c1, .slice a1' n1' c1']) (by simp [h11, h13]) (enters_of Try.func56 (by kernel_rfl) rfl) ((compare_any (HR1.out.below hB.out) (HR2.out.below hB.out)).mono fun e w' ⟨he, hw⟩ => ⟨_, he, rfl, by rw [← hw]; exact Below.refl _ _⟩)),
      by
        intro a W hA hB hd
        obtain ⟨q0, q1, -⟩ := hd
        have h9 : a.eval (.tmp 9) = .int .i64 (cmpI k k') := q0
        have h14 : a.eval (.tmp 14) = .int .i64 (cmpN id id') := q1
        have hB := Lib.hid hB
        exact (step_lays (wanted_none rfl) (.slice (some ⟨W.heap.size, 0, none⟩) 2 2) (W.alloc (.cells #[.int .i64 (cmpI k k'), .int .i64 (cmpN id id')] 3)) (by simp [execOp, go_sem, tm h9, tm h14]) ((Below.refl _ W).alloc (Nat.le_refl _) _) (twoF_new W _ _)),
      by
        intro a W hA hB hd
        obtain ⟨q0, q1, -⟩ := hd
        have h15 : (TwoF (cmpI k k') (cmpN id id')) (a.eval (.tmp 15)) W := q0
        have h14 : a.eval (.tmp 14) = .int .i64 (cmpN id id') := q1
        have hB := Lib.hid hB
        obtain ⟨g, e15, hg, x0, x1⟩ := h15
        exact (step_calls (wanted_none rfl) rfl (vals := #[.slice (some ⟨g, 0, none⟩) 2 2]) (by simp [e15]) (enters_of Try.func54 (by kernel_rfl) rfl) ((or2_any g _ _ W x0 x1).mono fun e w' ⟨he, hw⟩ => ⟨_, he, rfl, by rw [← hw]; exact Below.refl _ _⟩)),
      by
        intro a W hA hB hd
        obtain ⟨q0, q1, -⟩ := hd
        have h16 : a.eval (.tmp 16) = .int .i64 (cmpF k id k' id') := q0
        have hB := Lib.hid hB
        exact (step_pure (wanted_none rfl) (.int .i64 (cmpF k id k' id')) (by simp [execOp, go_sem, tm h16]) rfl), trivial⟩
  · intro zx V1 hA hB hE
    have h4 : zx.eval (.tmp 4) = .int .i64 (cmpF k id k' id') := hE.2.2.2.2.2.2.2.2.2.2.2.2.1
    have hp := hA.puts [5, 6, 7, 8, 9, 10, 11, 12, 13, 14, 15, 16, 4] (by kernel_rfl)
    clear hA hE
    simp only [putAll, h4] at hp
    clear h4
    generalize zx.eval = ev at hp
    subst hp
    have HBV := Lib.hid (HBB.out.trans (hB.mono HBB.out.size))
    clear hB
    simp [Act.put]
    go_wp2
    go_ret
    exact ⟨rfl, HBV.out⟩

set_option maxRecDepth 100000 in
set_option maxHeartbeats 4000000 in
theorem rcmp_any {k k' : Int} {a1 a1' : Option Addr} {n1 c1 n1' c1' : Nat} {id id' : List Int} {K1 K1' : Nat → Prop} {w : World} (h1 : Rd K1 w .i64 a1 n1 c1 id) (h2 : Rd K1' w .i64 a1' n1' c1' id') (hn : n1 ≤ 100000000) (hn' : n1' ≤ 100000000) (s s' : Value) :
    Calls Try.prog 34 #[.agg #[.int .i64 k, .slice a1 n1 c1, s], .agg #[.int .i64 k', .slice a1' n1' c1', s']] w fun e V => e = .returned (.int .i64 (cmpF k id k' id')) ∧ Below w.heap.size w V := by
  have HN := Lib.hid hn
  have HN2 := Lib.hid hn'
  clear hn hn'
  have H1 := Lib.hid h1
  have H2 := Lib.hid h2
  clear h1 h2
  go_enter Try.func34, Try.ntmps34
  go_upto_region 1 with fail
  have hq1 := FileB.new w k (.slice a1 n1 c1) s
  have hb1 : Below w.heap.size w (w.alloc (.cells #[.int .i64 k, .slice a1 n1 c1, s] 52)) := (Below.refl _ _).alloc (Nat.le_refl _) _
  have hq2 := FileB.new (w.alloc (.cells #[.int .i64 k, .slice a1 n1 c1, s] 52)) k' (.slice a1' n1' c1') s'
  have hb2 : Below (w.alloc (.cells #[.int .i64 k, .slice a1 n1 c1, s] 52)).heap.size (w.alloc (.cells #[.int .i64 k, .slice a1 n1 c1, s] 52)) ((w.alloc (.cells #[.int .i64 k, .slice a1 n1 c1, s] 52)).alloc (.cells #[.int .i64 k', .slice a1' n1' c1', s'] 52)) := (Below.refl _ _).alloc (Nat.le_refl _) _
  replace hq1 := hq1.below hb2 hq1.lt
  have hbb := hb1.trans (hb2.mono (by simp))
  simp only [World.size_alloc] at hq2
  clear hb1 hb2
  generalize ((w.alloc (.cells #[.int .i64 k, .slice a1 n1 c1, s] 52)).alloc (.cells #[.int .i64 k', .slice a1' n1' c1', s'] 52)) = V0 at *
  have HQ1 := Lib.hid hq1
  have HQ2 := Lib.hid hq2
  have HR1 := Lib.hid (H1.out.below hbb)
  have HR2 := Lib.hid (H2.out.below hbb)
  have HBB := Lib.hid hbb
  clear hq1 hq2 hbb
  refine wp_region_facts (by kernel_rfl) (fs := [Fact.is (.pointer (some ⟨w.heap.size, 0, none⟩)), Fact.is (.int .i64 k), OneF k, Fact.is (.pointer (some ⟨w.heap.size, 1, none⟩)), Fact.is (.slice a1 n1 c1), IntsF (k :: id), Fact.is (.pointer (some ⟨w.heap.size + 1, 0, none⟩)), Fact.is (.int .i64 k'), OneF k', Fact.is (.pointer (some ⟨w.heap.size + 1, 1, none⟩)), Fact.is (.slice a1' n1' c1'), IntsF (k' :: id'), Fact.is (.int .i64 (cmpF k id k' id')), Fact.is (.int .i64 (cmpF k id k' id'))]) (by kernel_rfl) (by kernel_rfl) ⟨Fact.is_stable _, Fact.is_stable _, oneF_stable _, Fact.is_stable _, Fact.is_stable _, intsF_stable _, Fact.is_stable _, Fact.is_stable _, oneF_stable _, Fact.is_stable _, Fact.is_stable _, intsF_stable _, Fact.is_stable _, Fact.is_stable _, trivial⟩ ?_ ?_
  · exact ⟨by
        intro a W hA hB hd
        have hB := Lib.hid hB
        have p2 : a.eval (.tmp 2) = .pointer (some ⟨w.heap.size, 0, none⟩) := hA.at 2 (by kernel_rfl)
        exact (step_pure (wanted_none rfl) (.pointer (some ⟨w.heap.size, 0, none⟩)) (by simp [execOp, go_sem, tm p2]) rfl),
      by
        intro a W hA hB hd
        obtain ⟨q0, -⟩ := hd
        have h5 : a.eval (.tmp 5) = .pointer (some ⟨w.heap.size, 0, none⟩) := q0
        have hB := Lib.hid hB
        have c0 := (HQ1.out.below hB.out HQ1.out.lt).c0
        exact (step_pure (wanted_none rfl) (.int .i64 k) (by simp [execOp, go_sem, tm h5, c0]) rfl),
      by
        intro a W hA hB hd
        obtain ⟨q0, -⟩ := hd
        have h6 : a.eval (.tmp 6) = .int .i64 k := q0
        have hB := Lib.hid hB
        exact (step_lays (wanted_none rfl) (.slice (some ⟨W.heap.size, 0, none⟩) 1 1) (W.alloc (.cells #[.int .i64 k] 3)) (by simp [execOp, go_sem, tm h6]) ((Below.refl _ W).alloc (Nat.le_refl _) _) (oneF_new W _)),
      by
        intro a W hA hB hd
        have hB := Lib.hid hB
        have p2 : a.eval (.tmp 2) = .pointer (some ⟨w.heap.size, 0, none⟩) := hA.at 2 (by kernel_rfl)
        exact (step_pure (wanted_none rfl) (.pointer (some ⟨w.heap.size, 1, none⟩)) (by simp [execOp, go_sem, tm p2]) rfl),
      by
        intro a W hA hB hd
        obtain ⟨q0, -⟩ := hd
        have h8 : a.eval (.tmp 8) = .pointer (some ⟨w.heap.size, 1, none⟩) := q0
        have hB := Lib.hid hB
        have c0 := (HQ1.out.below hB.out HQ1.out.lt).c1
        exact (step_pure (wanted_none rfl) (.slice a1 n1 c1) (by simp [execOp, go_sem, tm h8, c0]) rfl),
      by
        intro a W hA hB hd
        obtain ⟨q0, q1, -⟩ := hd
        have h7 : (OneF k) (a.eval (.tmp 7)) W := q0
        have h9 : a.eval (.tmp 9) = .slice a1 n1 c1 := q1
        have hB := Lib.hid hB
        obtain ⟨v', w', hr, z1, z2⟩ := oneF_append h7 (HR1.out.below hB.out) HN.out
        exact (step_appendF (wanted_none rfl) (.tmp 7) (.tmp 9) 24 24 rfl h9 hr z2 z1),
      by
        intro a W hA hB hd
        have hB := Lib.hid hB
        have p3 : a.eval (.tmp 3) = .pointer (some ⟨w.heap.size + 1, 0, none⟩) := hA.at 3 (by kernel_rfl)
        exact (step_pure (wanted_none rfl) (.pointer (some ⟨w.heap.size + 1, 0, none⟩)) (by simp [execOp, go_sem, tm p3]) rfl),
      by
        intro a W hA hB hd
        obtain ⟨q0, -⟩ := hd
        have h11 : a.eval (.tmp 11) = .pointer (some ⟨w.heap.size + 1, 0, none⟩) := q0
        have hB := Lib.hid hB
        have c0 := (HQ2.out.below hB.out HQ2.out.lt).c0
        exact (step_pure (wanted_none rfl) (.int .i64 k') (by simp [execOp, go_sem, tm h11, c0]) rfl),
      by
        intro a W hA hB hd
        obtain ⟨q0, -⟩ := hd
        have h12 : a.eval (.tmp 12) = .int .i64 k' := q0
        have hB := Lib.hid hB
        exact (step_lays (wanted_none rfl) (.slice (some ⟨W.heap.size, 0, none⟩) 1 1) (W.alloc (.cells #[.int .i64 k'] 3)) (by simp [execOp, go_sem, tm h12]) ((Below.refl _ W).alloc (Nat.le_refl _) _) (oneF_new W _)),
      by
        intro a W hA hB hd
        have hB := Lib.hid hB
        have p3 : a.eval (.tmp 3) = .pointer (some ⟨w.heap.size + 1, 0, none⟩) := hA.at 3 (by kernel_rfl)
        exact (step_pure (wanted_none rfl) (.pointer (some ⟨w.heap.size + 1, 1, none⟩)) (by simp [execOp, go_sem, tm p3]) rfl),
      by
        intro a W hA hB hd
        obtain ⟨q0, -⟩ := hd
        have h14 : a.eval (.tmp 14) = .pointer (some ⟨w.heap.size + 1, 1, none⟩) := q0
        have hB := Lib.hid hB
        have c0 := (HQ2.out.below hB.out HQ2.out.lt).c1
        exact (step_pure (wanted_none rfl) (.slice a1' n1' c1') (by simp [execOp, go_sem, tm h14, c0]) rfl),
      by
        intro a W hA hB hd
        obtain ⟨q0, q1, q2, -⟩ := hd
        have h13 : (OneF k') (a.eval (.tmp 13)) W := q0
        have h15 : a.eval (.tmp 15) = .slice a1' n1' c1' := q1
        have h10 : (IntsF (k :: id)) (a.eval (.tmp 10)) W := q2
        have hB := Lib.hid hB
        obtain ⟨v', w', hr, z1, z2⟩ := oneF_append h13 (HR2.out.below hB.out) HN2.out
        exact (step_appendF (wanted_none rfl) (.tmp 13) (.tmp 15) 24 24 rfl h15 hr z2 z1),
      by
        intro a W hA hB hd
        obtain ⟨q0, q1, q2, -⟩ := hd
        have h10 : (IntsF (k :: id)) (a.eval (.tmp 10)) W := q0
        have h16 : (IntsF (k' :: id')) (a.eval (.tmp 16)) W := q1
        have hB := Lib.hid hB
        obtain ⟨x1, y1, z1, e10, r10⟩ := h10
        obtain ⟨x2, y2, z2, e16, r16⟩ := h16
        exact (step_calls (wanted_none rfl) rfl (vals := #[.slice x1 y1 z1, .slice x2 y2 z2]) (by simp [e10, e16]) (enters_of Try.func57 (by kernel_rfl) rfl) ((cmpInts_any r10 r16).mono fun e w' ⟨he, hb⟩ => ⟨_, he, by rw [cmpF_cons]; rfl, hb⟩)),
      by
        intro a W hA hB hd
        obtain ⟨q0, q1, -⟩ := hd
        have h17 : a.eval (.tmp 17) = .int .i64 (cmpF k id k' id') := q0
        have hB := Lib.hid hB
        exact (step_pure (wanted_none rfl) (.int .i64 (cmpF k id k' id')) (by simp [execOp, go_sem, tm h17]) rfl), trivial⟩
  · intro zx V1 hA hB hE
    have h4 : zx.eval (.tmp 4) = .int .i64 (cmpF k id k' id') := hE.2.2.2.2.2.2.2.2.2.2.2.2.2.1
    have hp := hA.puts [5, 6, 7, 8, 9, 10, 11, 12, 13, 14, 15, 16, 17, 4] (by kernel_rfl)
    clear hA hE
    simp only [putAll, h4] at hp
    clear h4
    generalize zx.eval = ev at hp
    subst hp
    have HBV := Lib.hid (HBB.out.trans (hB.mono HBB.out.size))
    clear hB
    simp [Act.put]
    go_wp2
    go_ret
    exact ⟨rfl, HBV.out⟩

end Go.Proofs.Ytdcapmbgnoahpaa
