/-
  A list of strings, codes, bytes and three numbers that came in.
-/
import Derived.Test.YtdcapmbgnoahpaaDcMaA
import Derived.Test.YtdcapmbgnoahpaaDcOpen
import Derived.Test.YtdcapmbgnoahpaaRnOdd
import Derived.SliceStrings
namespace Go.Proofs.Ytdcapmbgnoahpaa
open Go Go.RowKit Go.Shelf Go.Sort Go.ChangeShapes Go.WideShapes Go.ChangeAt

/-- A list of strings, however long. -/
structure RdLS (K : Nat → Prop) (W : World) (a : Option Addr) (len cap : Nat) (ss : List (List UInt8)) : Prop where
  hl : len = ss.length
  fit : len ≤ cap
  top : cap ≤ 9223372036854775807
  wide : ∀ s ∈ ss, s.length ≤ maxLen
  cells : 0 < len → ∃ b off, a = some ⟨b, off, none⟩ ∧ K b ∧ b < W.heap.size ∧ ∀ j, j < len → W.cell? ⟨b, off + j, none⟩ = some (.string (bsOf (ss[j]?.getD [])))

theorem RdLS.below {K : Nat → Prop} {A B : World} {a : Option Addr} {len cap : Nat} {ss : List (List UInt8)} (h : RdLS K A a len cap ss) (hk : Below A.heap.size A B) : RdLS K B a len cap ss :=
  ⟨h.hl, h.fit, h.top, h.wide, fun h0 => by
    obtain ⟨b, off, e, hb, hlt, hc⟩ := h.cells h0
    exact ⟨b, off, e, hb, Nat.lt_of_lt_of_le hlt hk.size, fun j hj => (World.cell?_of_block (w := A) (hk.block b hlt)).trans (hc j hj)⟩⟩
theorem RdLS.few {K : Nat → Prop} {W : World} {a : Option Addr} {len cap : Nat} {ss : List (List UInt8)} (h : RdLS K W a len cap ss) (hs : len ≤ 8796093021952) : RdS K W a len cap ss :=
  ⟨h.hl, h.fit, h.top, hs, h.wide, h.cells⟩

set_option maxRecDepth 100000 in
theorem short5l_any {K : Nat → Prop} {a : Option Addr} {len cap : Nat} {ss : List (List UInt8)} {W : World} (hR : RdLS K W a len cap ss) :
    Calls Try.prog 11 #[.slice a len cap] W fun e w' => e = .returned (.bool (shortD ss)) ∧ Below W.heap.size W w' := by
  have HL := Lib.hid hR.hl
  have H := Lib.hid hR
  have hfit := hR.fit
  obtain ⟨r, hr⟩ : ∃ r, shortD ss = r := ⟨_, rfl⟩
  have HR := Lib.hid hr
  rw [hr]
  clear hR hr
  go_enter Try.func11, Try.ntmps11
  go_wp2
  go_loop [3] (fun i => ∃ k : Nat, k ≤ len ∧ k ≤ 31 ∧ i = .int .i64 (k : Int) ∧ Hid ((ss.take k).all (fun s => decide (s.length ≤ 300)) = true)) (fun i => 31 - (intOf i).toNat)
  case atStart => exact ⟨0, Nat.zero_le _, by omega, rfl, rfl⟩
  case round =>
    obtain ⟨k, hk, hk31, rfl, HA⟩ := hrel
    by_cases hlt : k < len
    · have hltI : (k : Int) < (len : Int) := by omega
      by_cases h31 : k < 31
      · have h31I : (k : Int) < 31 := by omega
        obtain ⟨b, off, rfl, _, hblt, hc⟩ := H.out.cells (by omega)
        have hcx := hc k hlt
        have hks : k < ss.length := by rw [← HL.out]; exact hlt
        have HT := Lib.hid (take_snocS ss k hks)
        obtain ⟨x, hx⟩ : ∃ x, ss[k]?.getD [] = x := ⟨_, rfl⟩
        have HXM : Hid (x ∈ ss.take 31) := by
          show _ ∈ _
          rw [← hx, List.getElem?_eq_getElem hks, List.mem_take_iff_getElem]
          exact ⟨k, by omega, rfl⟩
        rw [hx] at hcx HT
        have hxs := bs_size x
        obtain ⟨X, hX⟩ : ∃ X, bsOf x = X := ⟨_, rfl⟩
        rw [hX] at hcx hxs
        clear hX hx hks hc
        by_cases hb : 300 < x.length
        · have hbI : (x.length : Int) > 300 := by omega
          have HF : Hid (false = r) := by
            show _ = _
            rw [← HR.out]
            unfold shortD
            symm
            rw [Bool.and_eq_false_iff]
            left
            rw [List.all_eq_false]
            exact ⟨x, HXM.out, by simp; omega⟩
          go_wp2
          go_ret
          exact ⟨by rw [← HF.out]; rfl, Below.refl _ _⟩
        · have hbI : ¬ (x.length : Int) > 300 := by omega
          have HA2 : Hid ((ss.take (k + 1)).all (fun s => decide (s.length ≤ 300)) = true) := by
            show _ = _
            rw [HT.out, List.all_append, HA.out]
            simp
            omega
          go_wp2
          go_round
          case rel => exact ⟨k + 1, by omega, by omega, by go_num, HA2⟩
          case measure => simp [intOf]; omega
      · have h31I : ¬ (k : Int) < 31 := by omega
        have HF : Hid (decide ((len : Int) ≤ 30) = r) := by
          show _ = _
          rw [← HR.out]
          unfold shortD
          rw [decide_eq_false (by omega), decide_eq_false (by rw [← HL.out]; omega), Bool.and_false]
        have hl30 : decide ((len : Int) ≤ 30) = r := HF.out
        go_wp2
        go_ret
        exact ⟨rfl, Below.refl _ _⟩
    · obtain rfl : k = len := by omega
      have hltI : ¬ (k : Int) < (k : Int) := Int.lt_irrefl _
      have HF : Hid (decide ((k : Int) ≤ 30) = r) := by
        show _ = _
        rw [← HR.out]
        unfold shortD
        have hT : ss.take 31 = ss := List.take_of_length_le (by rw [← HL.out]; omega)
        have hT2 : ss.take k = ss := List.take_of_length_le (by rw [← HL.out]; exact Nat.le_refl _)
        have hA := HA.out
        rw [hT2] at hA
        rw [hT, hA, Bool.true_and, ← HL.out]
        by_cases h : k ≤ 30
        · rw [decide_eq_true h, decide_eq_true (by omega)]
        · rw [decide_eq_false h, decide_eq_false (by omega)]
      have hl30 : decide ((k : Int) ≤ 30) = r := HF.out
      go_wp2
      go_ret
      exact ⟨rfl, Below.refl _ _⟩

/-- A list of strings that came in, of its cell. -/
theorem open_rds_cell {H : Type} {enc : TypeId × Value → H} {P : Program} {W : World} {t e : TypeId} {cs : List Value} {fuel : Nat} {x : DataW H × List MemPlace}
    (ht : P.underlying t = some (.slice e)) (he : P.underlying e = some .string) (hc : P.cellsOf e = 1) (hf : DataW.trod enc P W 0 (fun _ => true) true fuel t cs = some x) :
    ∃ a len cap ss, cs = [.slice a len cap] ∧ len ≤ 9223372036854775807 ∧ RdLS (fun b => b < W.heap.size) W a len cap ss := by
  rcases open_strings ht he hc hf with ⟨hcs, hx⟩ | ⟨a, len, cap, ss, hcs, _, hl, hm, hz, hx, hcell, hsz⟩
  · exact ⟨none, 0, 0, [], hcs, by decide, rfl, Nat.le_refl _, by decide, fun s hs => (by cases hs), fun h => absurd h (by decide)⟩
  · simp only [if_true] at hz
    have hm' : cap ≤ 9223372036854775807 := by unfold maxLen at hm; omega
    refine ⟨some a, len, cap, (ss.take len).map (fun s => s.data.toList), hcs, by omega, ?_, hl, hm', ?_, fun h0 => ?_⟩
    · simp; omega
    · intro s hs
      obtain ⟨r, hr, rfl⟩ := List.mem_map.1 hs
      rw [Array.length_toList]
      exact hsz r (List.mem_of_mem_take hr)
    · obtain ⟨b, off, spot⟩ := a
      have hspot : spot = none := by simpa [Addr.add] using World.cell?_spot (hcell 0 (by omega))
      subst hspot
      refine ⟨b, off, rfl, ?_, ?_, fun j hj => ?_⟩
      · obtain ⟨o, ho, _⟩ := cells_of_cell (hcell 0 (by omega))
        exact (Array.getElem?_eq_some_iff.1 ho).1
      · obtain ⟨o, ho, _⟩ := cells_of_cell (hcell 0 (by omega))
        exact (Array.getElem?_eq_some_iff.1 ho).1
      · have := hcell j (by omega)
        rw [add_plain] at this
        rw [this, List.getElem?_map, List.getElem?_take_of_lt hj, List.getElem?_eq_getElem (by omega), List.getD_eq_getElem?_getD, List.getElem?_eq_getElem (by omega)]
        simp [bs_of]

/-- An array of numbers that came in, of its cells. -/
theorem open_arr_cell {H : Type} {enc : TypeId × Value → H} {P : Program} {W : World} {t e : TypeId} {k : IntKind} {n : Nat} {cs : List Value} {fuel : Nat} {x : DataW H × List MemPlace}
    (ht : P.underlying t = some (.array n e)) (he : P.underlying e = some (.int k)) (hc : P.cellsOf e = 1) (hL : cs.length = n) (hf : DataW.trod enc P W 0 (fun _ => true) true fuel t cs = some x) :
    ∃ zs : List Int, zs.length = n ∧ cs = zs.map (Value.int k) ∧ (∀ z ∈ zs, (Lit.int k z).wf = true) := by
  obtain ⟨xs, m, _, hx, hl, hxl, hi⟩ := DataW.trod_array ht hf
  have each : ∀ i, i < n → ∃ a, cs[i]? = some (.int k a) ∧ (Lit.int k a).wf = true := by
    intro i h
    have h1 := hi i h
    rw [hc, Nat.mul_one] at h1
    obtain ⟨y, hy⟩ : ∃ y, xs[i]? = some y := ⟨xs[i]'(by omega), List.getElem?_eq_getElem _⟩
    rw [hy] at h1
    obtain ⟨a, ea, _, wa⟩ := DataW.trod_int he h1
    refine ⟨a, ?_, wa⟩
    have h2 : (cs.drop i)[0]? = some (.int k a) := by
      have h3 : ((cs.drop i).take 1)[0]? = some (.int k a) := by
        have := congrArg (fun l : List Value => l[0]?) ea
        simpa [Value.cells] using this
      simpa using h3
    simpa using h2
  refine ⟨cs.map numIn4, by simpa using hL, ?_, ?_⟩
  · apply List.ext_getElem?
    intro i
    by_cases h : i < n
    · obtain ⟨a, ha, _⟩ := each i h
      simp [ha, numIn4]
    · rw [List.getElem?_eq_none (by omega), List.getElem?_eq_none (by simp; omega)]
  · intro z hz
    obtain ⟨v, hv, rfl⟩ := List.mem_map.1 hz
    obtain ⟨i, hlt, rfl⟩ := List.mem_iff_getElem.1 hv
    obtain ⟨a, ha, wa⟩ := each i (by omega)
    rw [List.getElem?_eq_getElem hlt] at ha
    rw [Option.some.inj ha]
    exact wa

theorem six_in {cs : Array Value} (h : cs.size = 6) : ∃ x y z u v w, cs = #[x, y, z, u, v, w] := by
  obtain ⟨l⟩ := cs
  rcases l with _ | ⟨x, _ | ⟨y, _ | ⟨z, _ | ⟨u, _ | ⟨v, _ | ⟨w, _ | ⟨q, r⟩⟩⟩⟩⟩⟩⟩ <;> first | exact ⟨_, _, _, _, _, _, rfl⟩ | (simp at h)
theorem three_of {α : Type} (l : List α) (h : l.length = 3) : ∃ x y z, l = [x, y, z] := by
  rcases l with _ | ⟨x, _ | ⟨y, _ | ⟨z, _ | ⟨u, r⟩⟩⟩⟩ <;> first | exact ⟨_, _, _, rfl⟩ | (simp at h)

theorem trod_struct4 {H : Type} {enc : TypeId × Value → H} {P : Program} {w : World} {base : Nat} {spare : Nat → Bool} {held : Bool} {t : TypeId} {f0 f1 f2 f3 : Field} {fuel : Nat} {cs : List Value} {x : DataW H × List MemPlace} (ht : P.underlying t = some (.struct #[f0, f1, f2, f3])) (h : DataW.trod enc P w base spare held fuel t cs = some x) :
    ∃ y0 y1 y2 y3 n, DataW.trod enc P w base spare held n f0.type ((cs.drop f0.offset).take (P.cellsOf f0.type)) = some y0 ∧
      DataW.trod enc P w base spare held n f1.type ((cs.drop f1.offset).take (P.cellsOf f1.type)) = some y1 ∧
      DataW.trod enc P w base spare held n f2.type ((cs.drop f2.offset).take (P.cellsOf f2.type)) = some y2 ∧
      DataW.trod enc P w base spare held n f3.type ((cs.drop f3.offset).take (P.cellsOf f3.type)) = some y3 := by
  obtain ⟨xs, n, _, rfl, hl, hlen, hf⟩ := DataW.trod_struct ht h
  match xs, hlen with
  | [y0, y1, y2, y3], _ => exact ⟨y0, y1, y2, y3, n, by simpa using hf 0 f0 rfl, by simpa using hf 1 f1 rfl, by simpa using hf 2 f2 rfl, by simpa using hf 3 f3 rfl⟩

theorem byte_of {n : Int} (h : (Lit.int .u8 n).wf = true) : ∃ m : Nat, n = (m : Int) ∧ m < 256 := by
  simp [Lit.wf, IntKind.min, IntKind.max, IntKind.signed, IntKind.bits] at h
  obtain ⟨m, rfl⟩ := Int.eq_ofNat_of_zero_le (by omega : 0 ≤ n)
  exact ⟨m, rfl, by omega⟩

set_option maxRecDepth 100000 in
/-- What the law's second argument reads as. -/
theorem open_odd5 {H : Type} {enc : TypeId × Value → H} {W : World} {r : Reach} {b0 : Nat} {v : Value} {d : DataW H} {ps : List MemPlace}
    (hval : Value.okWide Try.prog W r b0 27 v) (hd : DataW.Trod enc Try.prog W 0 (fun _ => true) true 27 v d ps) :
    ∃ a1 n1 c1 ss a2 n2 c2 ns a3 n3 c3 bs, ∃ k0 k1 k2 : Nat, v = .agg #[.slice a1 n1 c1, .slice a2 n2 c2, .slice a3 n3 c3, .int .u8 (k0 : Int), .int .u8 (k1 : Int), .int .u8 (k2 : Int)] ∧ (n1 ≤ 9223372036854775807 ∧ n2 ≤ 9223372036854775807 ∧ n3 ≤ 9223372036854775807) ∧
      RdLS (fun b => b < W.heap.size) W a1 n1 c1 ss ∧
      (n2 ≤ 140737488351232 → Rd (fun b => b < W.heap.size) W .i64 a2 n2 c2 ns) ∧
      (n3 ≤ 140737488351232 → Rd (fun b => b < W.heap.size) W .u8 a3 n3 c3 bs) ∧ (∀ n ∈ bs, (Lit.int .u8 n).wf = true) ∧ k0 < 256 ∧ k1 < 256 ∧ k2 < 256 := by
  obtain ⟨cs, rfl, hs⟩ := agg_in Try.underlying27 hval
  have hc6 : Try.prog.cellsOf 27 = 6 := by kernel_rfl
  have hcS : Try.prog.cellsOf 23 = 1 := by kernel_rfl
  have hcs : Try.prog.cellsOf 9 = 1 := by kernel_rfl
  have hcI : Try.prog.cellsOf 24 = 1 := by kernel_rfl
  have hcB : Try.prog.cellsOf 22 = 1 := by kernel_rfl
  have hcK : Try.prog.cellsOf 25 = 3 := by kernel_rfl
  rw [hc6] at hs
  obtain ⟨x, y, z, u, v, w, rfl⟩ := six_in hs
  obtain ⟨fuel, hf⟩ := hd
  obtain ⟨y0, y1, y2, y3, m, h0, h1, h2, h3⟩ := trod_struct4 Try.underlying27 hf
  simp only [hcS, hcI, hcB, hcK, Value.cells] at h0 h1 h2 h3
  obtain ⟨a1, n1, c1, ss, e1, m1, r1⟩ := open_rds_cell Try.underlying23 Try.underlying9 hcs h0
  obtain ⟨a2, n2, c2, ns, e2, m2', r2, _⟩ := open_rd_cell Try.underlying24 Try.underlying3 cellsN4 h1
  obtain ⟨a3, n3, c3, bs, e3, m3, r3, f3⟩ := open_rd_cell Try.underlying22 Try.underlying5 cellsB4 h2
  obtain ⟨zs, hz, e4, f4⟩ := open_arr_cell Try.underlying25 Try.underlying5 cellsB4 (by simp) h3
  obtain ⟨k0, k1, k2, rfl⟩ := three_of zs hz
  obtain ⟨j0, rfl, b0⟩ := byte_of (f4 k0 (by simp))
  obtain ⟨j1, rfl, b1⟩ := byte_of (f4 k1 (by simp))
  obtain ⟨j2, rfl, b2⟩ := byte_of (f4 k2 (by simp))
  simp at e1 e2 e3 e4
  obtain ⟨rfl, rfl, rfl⟩ := e4
  subst e1 e2 e3
  exact ⟨a1, n1, c1, ss, a2, n2, c2, ns, a3, n3, c3, bs, j0, j1, j2, rfl, ⟨m1, m2', m3⟩, r1, r2, r3, f3, b0, b1, b2⟩

end Go.Proofs.Ytdcapmbgnoahpaa
