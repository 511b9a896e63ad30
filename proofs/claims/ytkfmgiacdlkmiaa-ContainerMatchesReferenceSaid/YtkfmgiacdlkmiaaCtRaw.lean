/-
  What the laws of container are given reads as: raw files, files, numbers and bytes; what a raw file is made into.
-/
import Derived.Test.YtkfmgiacdlkmiaaCtEx
import Derived.Test.YtkfmgiacdlkmiaaRnOdd
namespace Go.Proofs.Ytkfmgiacdlkmiaa
open Go Go.RowKit Go.Shelf Go.ChangeShapes Go.WideShapes Go.ChangeAt

/-- A list of numbers, however long. -/
structure RdM (W : World) (k : IntKind) (a : Option Addr) (len cap : Nat) (zs : List Int) : Prop where
  hl : len = zs.length
  fit : len ≤ cap
  top : cap ≤ 9223372036854775807
  part : ∀ m, m ≤ len → m ≤ 140737488351232 → Rd (fun _ => True) W k a m cap (zs.take m)
theorem RdM.whole {W : World} {k : IntKind} {a : Option Addr} {len cap : Nat} {zs : List Int} (h : RdM W k a len cap zs) (hs : len ≤ 140737488351232) : Rd (fun _ => True) W k a len cap zs := by
  have := h.part len (Nat.le_refl _) hs
  rwa [List.take_of_length_le (by rw [h.hl]; exact Nat.le_refl _)] at this
theorem RdM.below {A B : World} {k : IntKind} {a : Option Addr} {len cap : Nat} {zs : List Int} (h : RdM A k a len cap zs) (hb : Below A.heap.size A B) : RdM B k a len cap zs :=
  ⟨h.hl, h.fit, h.top, fun m h1 h2 => (h.part m h1 h2).below hb⟩

theorem open_rdm {H : Type} {enc : TypeId × Value → H} {P : Program} {W : World} {t e : TypeId} {k : IntKind} {cs : List Value} {fuel : Nat} {x : DataW H × List MemPlace}
    (ht : P.underlying t = some (.slice e)) (he : P.underlying e = some (.int k)) (hc : P.cellsOf e = 1) (hf : DataW.trod enc P W 0 (fun _ => true) true fuel t cs = some x) :
    ∃ a len cap zs, cs = [.slice a len cap] ∧ RdM W k a len cap zs ∧ (∀ n ∈ zs, (Lit.int k n).wf = true) := by
  rcases open_ints ht he hc hf with ⟨hcs, hx⟩ | ⟨a, len, cap, zs, hcs, _, hl, hm, hz, hx, hcell, hwz⟩
  · exact ⟨none, 0, 0, [], hcs, ⟨rfl, Nat.le_refl _, by decide, fun m h1 _ => by
      obtain rfl : m = 0 := by omega
      exact Rd.empty⟩, fun n hn => by cases hn⟩
  · simp only [if_true] at hz
    have hm' : cap ≤ 9223372036854775807 := by unfold maxLen at hm; omega
    refine ⟨some a, len, cap, zs.take len, hcs, ⟨by simp; omega, hl, hm', fun m h1 hs => ⟨by simp; omega, by omega, hm', hs, fun h0 => ?_⟩⟩, fun n hn => hwz n (List.mem_of_mem_take hn)⟩
    obtain ⟨b, off, spot⟩ := a
    have hspot : spot = none := by simpa [Addr.add] using World.cell?_spot (hcell 0 (by omega))
    subst hspot
    refine ⟨b, off, rfl, trivial, ?_, fun j hj => ?_⟩
    · obtain ⟨o, ho, _⟩ := cells_of_cell (hcell 0 (by omega))
      exact (Array.getElem?_eq_some_iff.1 ho).1
    · have := hcell j (by omega)
      rw [add_plain] at this
      rw [this, List.getElem?_take_of_lt hj, List.getElem?_take_of_lt (by omega), List.getD_eq_getElem?_getD]
theorem open_rdm_val {H : Type} {enc : TypeId × Value → H} {P : Program} {W : World} {r : Reach} {b0 : Nat} {t e : TypeId} {k : IntKind} {v : Value} {d : DataW H} {ps : List MemPlace}
    (ht : P.underlying t = some (.slice e)) (he : P.underlying e = some (.int k)) (hc : P.cellsOf e = 1) (hval : Value.okWide P W r b0 t v) (hd : DataW.Trod enc P W 0 (fun _ => true) true t v d ps) :
    ∃ a len cap zs, v = .slice a len cap ∧ RdM W k a len cap zs ∧ (∀ n ∈ zs, (Lit.int k n).wf = true) := by
  obtain ⟨a0, len, cap, rfl⟩ := okWide_slice ht hval
  obtain ⟨fuel, hf⟩ := hd
  obtain ⟨a, n, c, zs, e, h1, h2⟩ := open_rdm ht he hc hf
  simp [Value.cells] at e
  obtain ⟨rfl, rfl, rfl⟩ := e
  exact ⟨_, _, _, _, rfl, h1, h2⟩

theorem smalls_wf {zs : List Int} (h : ∀ n ∈ zs, (Lit.int .i64 n).wf = true) : Smalls zs := fun x hx => by
  have := h x hx
  simp [Lit.wf, IntKind.min, IntKind.max, IntKind.signed, IntKind.bits] at this
  unfold I64; omega
theorem oct_wf {zs : List Int} (h : ∀ n ∈ zs, (Lit.int .u8 n).wf = true) : Oct zs := fun x hx => by
  have := h x hx
  simp [Lit.wf, IntKind.min, IntKind.max, IntKind.signed, IntKind.bits] at this; omega

theorem trod_three {H : Type} {enc : TypeId × Value → H} {P : Program} {w : World} {base : Nat} {spare : Nat → Bool} {held : Bool} {t : TypeId} {f0 f1 f2 : Field} {fuel : Nat} {cs : List Value} {x : DataW H × List MemPlace} (ht : P.underlying t = some (.struct #[f0, f1, f2])) (h : DataW.trod enc P w base spare held fuel t cs = some x) :
    ∃ y0 y1 y2 n, DataW.trod enc P w base spare held n f0.type ((cs.drop f0.offset).take (P.cellsOf f0.type)) = some y0 ∧
      DataW.trod enc P w base spare held n f1.type ((cs.drop f1.offset).take (P.cellsOf f1.type)) = some y1 ∧
      DataW.trod enc P w base spare held n f2.type ((cs.drop f2.offset).take (P.cellsOf f2.type)) = some y2 := by
  obtain ⟨xs, n, _, rfl, hl, hlen, hf⟩ := DataW.trod_struct ht h
  match xs, hlen with
  | [y0, y1, y2], _ => exact ⟨y0, y1, y2, n, by simpa using hf 0 f0 rfl, by simpa using hf 1 f1 rfl, by simpa using hf 2 f2 rfl⟩

set_option maxRecDepth 100000 in
/-- A raw file that came in. -/
theorem open_raw9 {H : Type} {enc : TypeId × Value → H} {W : World} {r : Reach} {b0 : Nat} {v : Value} {d : DataW H} {ps : List MemPlace}
    (hval : Value.okWide Try.prog W r b0 27 v) (hd : DataW.Trod enc Try.prog W 0 (fun _ => true) true 27 v d ps) :
    ∃ (k : Nat) (a1 : Option Addr) (n1 c1 : Nat) (id : List Int) (a2 : Option Addr) (n2 c2 : Nat) (da : List Int), v = .agg #[.int .u8 (k : Int), .slice a1 n1 c1, .slice a2 n2 c2] ∧ k < 256 ∧
      RdM W .i64 a1 n1 c1 id ∧ RdM W .u8 a2 n2 c2 da ∧ Smalls id ∧ Oct da := by
  obtain ⟨cs, rfl, hs⟩ := agg_in Try.underlying27 hval
  have hc3 : Try.prog.cellsOf 27 = 3 := by kernel_rfl
  have hcI : Try.prog.cellsOf 22 = 1 := by kernel_rfl
  have hcB : Try.prog.cellsOf 23 = 1 := by kernel_rfl
  rw [hc3] at hs
  obtain ⟨x, y, z, rfl⟩ := three_in hs
  obtain ⟨fuel, hf⟩ := hd
  obtain ⟨y0, y1, y2, m, h0, h1, h2⟩ := trod_three Try.underlying27 hf
  simp only [hcI, hcB, cellsB4, Value.cells] at h0 h1 h2
  obtain ⟨k, e0, _, w0⟩ := DataW.trod_int Try.underlying5 h0
  obtain ⟨a1, n1, c1, id, e1, r1, f1⟩ := open_rdm Try.underlying22 Try.underlying3 cellsN4 h1
  obtain ⟨a2, n2, c2, da, e2, r2, f2⟩ := open_rdm Try.underlying23 Try.underlying5 cellsB4 h2
  simp at e0 e1 e2
  subst e0 e1 e2
  have hk : 0 ≤ k ∧ k < 256 := by
    simp [Lit.wf, IntKind.min, IntKind.max, IntKind.signed, IntKind.bits] at w0; omega
  obtain ⟨k, rfl⟩ := Int.eq_ofNat_of_zero_le hk.1
  exact ⟨k, a1, n1, c1, id, a2, n2, c2, da, rfl, by omega, r1, r2, smalls_wf f1, oct_wf f2⟩

set_option maxRecDepth 100000 in
/-- A file that came in. -/
theorem open_file9 {H : Type} {enc : TypeId × Value → H} {W : World} {r : Reach} {b0 : Nat} {v : Value} {d : DataW H} {ps : List MemPlace}
    (hval : Value.okWide Try.prog W r b0 25 v) (hd : DataW.Trod enc Try.prog W 0 (fun _ => true) true 25 v d ps) :
    ∃ (k : Int) (a1 : Option Addr) (n1 c1 : Nat) (id : List Int) (a2 : Option Addr) (n2 c2 : Nat) (da : List Int), v = .agg #[.int .i64 k, .slice a1 n1 c1, .slice a2 n2 c2] ∧ I64 k ∧
      RdM W .i64 a1 n1 c1 id ∧ RdM W .u8 a2 n2 c2 da ∧ Smalls id ∧ Oct da := by
  obtain ⟨cs, rfl, hs⟩ := agg_in Try.underlying25 hval
  have hc3 : Try.prog.cellsOf 25 = 3 := by kernel_rfl
  have hcI : Try.prog.cellsOf 22 = 1 := by kernel_rfl
  have hcB : Try.prog.cellsOf 23 = 1 := by kernel_rfl
  rw [hc3] at hs
  obtain ⟨x, y, z, rfl⟩ := three_in hs
  obtain ⟨fuel, hf⟩ := hd
  obtain ⟨y0, y1, y2, m, h0, h1, h2⟩ := trod_three Try.underlying25 hf
  simp only [hcI, hcB, cellsN4, Value.cells] at h0 h1 h2
  obtain ⟨k, e0, _, w0⟩ := DataW.trod_int Try.underlying3 h0
  obtain ⟨a1, n1, c1, id, e1, r1, f1⟩ := open_rdm Try.underlying22 Try.underlying3 cellsN4 h1
  obtain ⟨a2, n2, c2, da, e2, r2, f2⟩ := open_rdm Try.underlying23 Try.underlying5 cellsB4 h2
  simp at e0 e1 e2
  subst e0 e1 e2
  have hk : I64 k := by
    simp [Lit.wf, IntKind.min, IntKind.max, IntKind.signed, IntKind.bits] at w0; unfold I64; omega
  exact ⟨k, a1, n1, c1, id, a2, n2, c2, da, rfl, hk, r1, r2, smalls_wf f1, oct_wf f2⟩

/-! ### The file that is made -/
def kR (k : Nat) : Int := ((1 + k % 9 : Nat) : Int)
theorem kR_ok (k : Nat) : 1 ≤ kR k ∧ kR k ≤ 9 := by unfold kR; omega
theorem seal_made {k : Nat} {id da : List Int} (h1 : id.length ≤ 40) (h2 : da.length ≤ 200) : sealE (kR k) id da = 0 := by
  unfold sealE
  rw [if_neg (by have := kR_ok k; omega), if_neg (by omega), if_neg (by omega)]
theorem smalls_take {zs : List Int} (h : Smalls zs) (m : Nat) : Smalls (zs.take m) := fun x hx => h x (List.mem_of_mem_take hx)

theorem pack_len9 {id : List Int} (h : id.length ≤ 40) (hz : Smalls id) : (packS id).length ≤ 500 := by
  unfold packS gatherS
  rw [List.length_append, gB_length]
  have h1 := head_len id hz (by omega)
  have h2 := wide_le id
  unfold spaceS
  have h3 : id.length * wideS id ≤ 40 * 64 := Nat.mul_le_mul h h2
  omega
theorem seal_len_le {k : Int} {id da : List Int} (h1 : id.length ≤ 40) (h2 : da.length ≤ 200) (hz : Smalls id) : (sealS k id da).length ≤ 1000 := by
  have h := pack_len9 h1 hz
  have hv := var_len (u := da.length) (by omega)
  rw [sealS_len, sealA_len]; omega

/-- What was sealed, in memory. -/
structure Sld (w0 : World) (gs n c S : Nat) (bs : List Int) (W : World) : Prop where
  b : Below w0.heap.size w0 W
  s : Rd (fun _ => True) W .u8 (some ⟨gs, 0, none⟩) n c bs
  p : Pair W S 33 (.slice (some ⟨gs, 0, none⟩) n c) (.int .i64 0)
theorem Sld.below {w0 : World} {gs n c S : Nat} {bs : List Int} {W V : World} (h : Sld w0 gs n c S bs W) (hb : Below W.heap.size W V) : Sld w0 gs n c S bs V :=
  ⟨h.b.trans (hb.mono h.b.size), h.s.below hb, h.p.below hb h.p.lt⟩

end Go.Proofs.Ytkfmgiacdlkmiaa
