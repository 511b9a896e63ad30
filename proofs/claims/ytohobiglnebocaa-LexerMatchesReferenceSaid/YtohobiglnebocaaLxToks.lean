/-
  A list of tokens that came in, however long.
-/
import Derived.Test.YtohobiglnebocaaLxWrap
import Derived.SizedLaws
import Derived.Deep.Slices
namespace Go.Proofs.Ytohobiglnebocaa.Lx
open Go Go.RowKit Go.Shelf Go.Sort Go.ChangeShapes Go.WideShapes Go.ChangeAt
open Go.Proofs.Ytohobiglnebocaa

theorem weights_all {H : Type} {P : Program} {e : TypeId} {n : Nat} {d : DataW H} (hn : n ∈ d.weights P e) : ∀ {l : List (DataW H)}, d ∈ l → n ∈ DataW.weightsAll P e l
  | [], h => by cases h
  | x :: r, h => by
    simp only [DataW.weightsAll, List.mem_append]
    rcases List.mem_cons.1 h with rfl | h
    · exact Or.inl hn
    · exact Or.inr (weights_all hn h)

theorem trod_tok {H : Type} {enc : TypeId × Value → H} {P : Program} {w : World} {base : Nat} {spare : Nat → Bool} {held : Bool} {t ti ts : TypeId} {f0 f1 f2 : Field} {fuel : Nat} {cs : List Value} {x : DataW H × List MemPlace}
    (ht : P.underlying t = some (.struct #[f0, f1, f2])) (h0 : f0.offset = 0 ∧ f0.type = ti) (h1 : f1.offset = 1 ∧ f1.type = ts) (h2 : f2.offset = 2 ∧ f2.type = ti) (hi : P.underlying ti = some (.int .i64)) (hs : P.underlying ts = some .string) (hci : P.cellsOf ti = 1) (hcs : P.cellsOf ts = 1) (hct : P.cellsOf t = 3)
    (h : DataW.trod enc P w base spare held fuel t cs = some x) : ∃ u : Tk, cs = [.int .i64 u.k, .string (bsOf u.s), .int .i64 u.a] ∧ u.s.length ∈ x.1.weights P t := by
  obtain ⟨xs, n, _, rfl, hl, hlen, hf⟩ := DataW.trod_struct ht h
  rw [hct] at hl
  match cs, hl with
  | [c0, c1, c2], _ =>
    match xs, hlen with
    | [y0, y1, y2], _ =>
      have g0 := hf 0 f0 rfl
      have g1 := hf 1 f1 rfl
      have g2 := hf 2 f2 rfl
      rw [h0.1, h0.2, hci] at g0
      rw [h1.1, h1.2, hcs] at g1
      rw [h2.1, h2.2, hci] at g2
      obtain ⟨k, e0, _, _⟩ := DataW.trod_int hi g0
      obtain ⟨s, e1, e3, _⟩ := DataW.trod_string hs g1
      obtain ⟨a, e2, _, _⟩ := DataW.trod_int hi g2
      simp at e0 e1 e2 e3
      subst e0 e1 e2 e3
      refine ⟨⟨k, s.data.toList, a⟩, by rw [bs_of], ?_⟩
      show _ ∈ DataW.weights P t (.agg _)
      unfold DataW.weights
      rw [ht]
      simp [DataW.weightsEach, DataW.weights]

instance : Inhabited Tk := ⟨Tk.null⟩

set_option maxRecDepth 100000 in
theorem open_toks {H : Type} {enc : TypeId × Value → H} {W : World} {r : Reach} {b0 : Nat} {v : Value} {d : DataW H} {ps : List MemPlace}
    (hval : Value.okWide Try.prog W r b0 22 v) (hd : DataW.Trod enc Try.prog W 0 (fun _ => true) true 22 v d ps)
    (hz : ∀ n ∈ d.weights Try.prog 22, n ≤ reachBytes) :
    ∃ a n c ts, v = .slice a n c ∧ RdK W a n c ts ∧ ∀ t ∈ ts, t.s.length ≤ 140737488351232 := by
  obtain ⟨a0, len, cap, rfl⟩ := okWide_slice Try.underlying22 hval
  obtain ⟨fuel, hf⟩ := hd
  have hc3 : Try.prog.cellsOf 29 = 3 := by kernel_rfl
  have hci : Try.prog.cellsOf 3 = 1 := by kernel_rfl
  have hcs : Try.prog.cellsOf 9 = 1 := by kernel_rfl
  have hby : Try.prog.bytesOf 29 = 32 := by kernel_rfl
  rcases Go.Deep.open_slice Try.underlying22 hf with ⟨hcs', hx⟩ | ⟨a, len', cap', m, n, D, Pl, hcs', _, hl, hm, hmm, hx, he⟩
  · simp [Value.cells] at hcs'
    obtain ⟨rfl, rfl, rfl⟩ := hcs'
    exact ⟨none, 0, 0, [], rfl, RdK.empty (by decide), fun t ht => by cases ht⟩
  · simp [Value.cells] at hcs'
    obtain ⟨rfl, rfl, rfl⟩ := hcs'
    have hm' : cap ≤ 9223372036854775807 := by unfold maxLen at hm; omega
    simp only [if_true] at hmm
    rw [hc3] at he
    have hx1 := congrArg Prod.fst hx
    dsimp only at hx1
    rw [hx1] at hz
    unfold DataW.weights at hz
    rw [Try.underlying22] at hz
    have hbig : len ≤ 140737488355328 := by
      have := hz _ (List.mem_cons_self ..)
      rw [hby] at this
      simp at this
      unfold reachBytes at this
      omega
    obtain ⟨V, hV⟩ := Go.Deep.choose_lt (α := Tk) (n := len) (p := fun i u => W.cells? 0 (a.add (i * 3)) 3 = some [.int .i64 u.k, .string (bsOf u.s), .int .i64 u.a] ∧ u.s.length ≤ 140737488351232) (fun i hi => by
      obtain ⟨cs', h1, h2⟩ := he i (by omega)
      obtain ⟨u, rfl, hw⟩ := trod_tok Try.underlying29 ⟨rfl, rfl⟩ ⟨rfl, rfl⟩ ⟨rfl, rfl⟩ Try.underlying3 Try.underlying9 hci hcs hc3 h2
      refine ⟨u, h1, ?_⟩
      have := hz _ (List.mem_cons_of_mem _ (List.mem_append_left _ (weights_all hw (List.mem_map_of_mem (List.mem_range.2 hi)))))
      unfold reachBytes at this
      omega)
    have cell : ∀ j, j < len → W.cell? (a.add (j * 3)) = some (.int .i64 (V j).k) ∧ W.cell? ((a.add (j * 3)).add 1) = some (.string (bsOf (V j).s)) ∧ W.cell? ((a.add (j * 3)).add 2) = some (.int .i64 (V j).a) := fun j hj => by
      obtain ⟨_, _, h3⟩ := World.cells?_some (hV j hj).1
      exact ⟨by simpa [Addr.add] using h3 0 (by decide), by simpa using h3 1 (by decide), by simpa using h3 2 (by decide)⟩
    refine ⟨some a, len, cap, (List.range len).map V, rfl, ⟨by simp, hl, hm', hbig, fun h0 => ?_⟩, fun t ht => ?_⟩
    · obtain ⟨b, off, spot⟩ := a
      have hspot : spot = none := by
        have h1 := (cell 0 h0).1
        simpa [Addr.add] using World.cell?_spot h1
      subst hspot
      refine ⟨b, off, rfl, ?_, fun j hj => ?_⟩
      · have h1 := (cell 0 h0).1
        obtain ⟨o, ho, _⟩ := cells_of_cell h1
        exact (Array.getElem?_eq_some_iff.1 ho).1
      · obtain ⟨h1, h2, h3⟩ := cell j hj
        rw [add_plain] at h1 h2 h3
        rw [add_plain] at h2 h3
        have e : ((List.range len).map V)[j]?.getD Tk.null = V j := by
          rw [List.getElem?_map, List.getElem?_range hj]; rfl
        rw [e]
        exact ⟨h1, h2, h3⟩
    · obtain ⟨i, hi, rfl⟩ := List.mem_map.1 ht
      exact (hV i (List.mem_range.1 hi)).2

end Go.Proofs.Ytohobiglnebocaa.Lx
