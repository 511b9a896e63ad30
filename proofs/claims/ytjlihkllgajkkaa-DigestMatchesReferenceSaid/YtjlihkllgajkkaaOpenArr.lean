/-
  An array of integers that came in, as a value.
-/
import Derived.Test.YtjlihkllgajkkaaOneMath
namespace Go.Proofs.Ytjlihkllgajkkaa
open Go.RowKit Go.ChangeShapes Go.WideShapes Go.ChangeAt

def numIn : Value → Int
  | .int _ n => n
  | _ => 0

theorem open_array {H : Type} {enc : TypeId × Value → H} {P : Program} {W : World} {r : Reach} {b0 : Nat} {t e : TypeId} {k : IntKind} {n : Nat} {v : Value} {d : DataW H} {ps : List MemPlace}
    (ht : P.underlying t = some (.array n e)) (he : P.underlying e = some (.int k)) (hc : P.cellsOf e = 1) (hn : P.cellsOf t = n) (hval : Value.okWide P W r b0 t v) (hd : DataW.Trod enc P W 0 (fun _ => true) true t v d ps) :
    ∃ zs : List Int, zs.length = n ∧ v = .agg (zs.map (Value.int k)).toArray ∧ (∀ z ∈ zs, (Lit.int k z).wf = true) := by
  simp only [Value.okWide, ht] at hval
  obtain ⟨cs, rfl, hs, _⟩ := hval
  obtain ⟨fuel, hf⟩ := hd
  obtain ⟨xs, m, _, hx, hl, hxl, hi⟩ := DataW.trod_array ht hf
  have hL : cs.toList.length = n := by simp; omega
  have each : ∀ i, i < n → ∃ a, cs.toList[i]? = some (.int k a) ∧ (Lit.int k a).wf = true := by
    intro i h
    have h1 := hi i h
    rw [hc, Nat.mul_one] at h1
    obtain ⟨y, hy⟩ : ∃ y, xs[i]? = some y := ⟨xs[i]'(by omega), List.getElem?_eq_getElem _⟩
    rw [hy] at h1
    obtain ⟨a, ea, _, wa⟩ := DataW.trod_int he h1
    refine ⟨a, ?_, wa⟩
    have h2 : (cs.toList.drop i)[0]? = some (.int k a) := by
      have h3 : ((cs.toList.drop i).take 1)[0]? = some (.int k a) := by
        have := congrArg (fun l : List Value => l[0]?) ea
        simpa [Value.cells] using this
      simpa using h3
    simpa using h2
  refine ⟨cs.toList.map numIn, by simpa using hL, ?_, ?_⟩
  · congr 1
    apply Array.ext'
    apply List.ext_getElem?
    intro i
    by_cases h : i < n
    · obtain ⟨a, ha, _⟩ := each i h
      simp [ha, numIn]
    · rw [List.getElem?_eq_none (by omega), List.getElem?_eq_none (by simp; omega)]
  · intro z hz
    obtain ⟨v, hv, rfl⟩ := List.mem_map.1 hz
    obtain ⟨i, hlt, rfl⟩ := List.mem_iff_getElem.1 hv
    obtain ⟨a, ha, wa⟩ := each i (by omega)
    rw [List.getElem?_eq_getElem hlt] at ha
    rw [Option.some.inj ha]
    exact wa

theorem four_of (ws : List Int) (h : ws.length = 4) : ∃ a b c d, ws = [a, b, c, d] := by
  rcases ws with _ | ⟨a, _ | ⟨b, _ | ⟨c, _ | ⟨d, _ | ⟨e, r⟩⟩⟩⟩⟩ <;> first | exact ⟨_, _, _, _, rfl⟩ | (simp at h)
theorem three_of (ws : List Int) (h : ws.length = 3) : ∃ a b c, ws = [a, b, c] := by
  rcases ws with _ | ⟨a, _ | ⟨b, _ | ⟨c, _ | ⟨e, r⟩⟩⟩⟩ <;> first | exact ⟨_, _, _, rfl⟩ | (simp at h)

theorem word_bounds {z : Int} (h : (Lit.int .u64 z).wf = true) : 0 ≤ z ∧ z < 18446744073709551616 := by
  simp [Lit.wf, IntKind.min, IntKind.max, IntKind.signed, IntKind.bits] at h; omega

theorem open_array4 {H : Type} {enc : TypeId × Value → H} {P : Program} {W : World} {r : Reach} {b0 : Nat} {t e : TypeId} {v : Value} {d : DataW H} {ps : List MemPlace}
    (ht : P.underlying t = some (.array 4 e)) (he : P.underlying e = some (.int .u64)) (hc : P.cellsOf e = 1) (hn : P.cellsOf t = 4) (hval : Value.okWide P W r b0 t v) (hd : DataW.Trod enc P W 0 (fun _ => true) true t v d ps) :
    ∃ a b c d : Int, v = .agg #[.int .u64 a, .int .u64 b, .int .u64 c, .int .u64 d] ∧ (0 ≤ a ∧ a < 18446744073709551616) ∧ (0 ≤ b ∧ b < 18446744073709551616) ∧ (0 ≤ c ∧ c < 18446744073709551616) ∧ (0 ≤ d ∧ d < 18446744073709551616) := by
  obtain ⟨zs, hl, rfl, hw⟩ := open_array ht he hc hn hval hd
  obtain ⟨a, b, c, d, rfl⟩ := four_of zs hl
  exact ⟨a, b, c, d, rfl, word_bounds (hw _ (by simp)), word_bounds (hw _ (by simp)), word_bounds (hw _ (by simp)), word_bounds (hw _ (by simp))⟩
theorem open_array3 {H : Type} {enc : TypeId × Value → H} {P : Program} {W : World} {r : Reach} {b0 : Nat} {t e : TypeId} {v : Value} {d : DataW H} {ps : List MemPlace}
    (ht : P.underlying t = some (.array 3 e)) (he : P.underlying e = some (.int .u64)) (hc : P.cellsOf e = 1) (hn : P.cellsOf t = 3) (hval : Value.okWide P W r b0 t v) (hd : DataW.Trod enc P W 0 (fun _ => true) true t v d ps) :
    ∃ a b c : Int, v = .agg #[.int .u64 a, .int .u64 b, .int .u64 c] ∧ (0 ≤ a ∧ a < 18446744073709551616) ∧ (0 ≤ b ∧ b < 18446744073709551616) ∧ (0 ≤ c ∧ c < 18446744073709551616) := by
  obtain ⟨zs, hl, rfl, hw⟩ := open_array ht he hc hn hval hd
  obtain ⟨a, b, c, rfl⟩ := three_of zs hl
  exact ⟨a, b, c, rfl, word_bounds (hw _ (by simp)), word_bounds (hw _ (by simp)), word_bounds (hw _ (by simp))⟩

end Go.Proofs.Ytjlihkllgajkkaa
