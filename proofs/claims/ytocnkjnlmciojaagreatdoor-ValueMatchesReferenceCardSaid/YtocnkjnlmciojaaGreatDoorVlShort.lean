/-
  Which lists the laws take: at most 60 values, none with a text of more than 100 bytes.
-/
import Derived.Test.YtocnkjnlmciojaaGreatDoorVlRef2
import Derived.Deep.SlicePairs
import Derived.Lib.SmallJoins
import Derived.SliceStrings
namespace Go.Proofs.YtocnkjnlmciojaaGreatDoor
open Go Go.ChangeShapes Go.WideShapes Go.ChangeAt Go.RowKit

/-- A list of values in memory, of whatever length. -/
structure RdW (K : Nat → Prop) (W : World) (a : Option Addr) (len cap : Nat) (vs : List Vl) : Prop where
  hl : len = vs.length
  fit : len ≤ cap
  top : cap ≤ 9223372036854775807
  cells : 0 < len → ∃ b off, a = some ⟨b, off, none⟩ ∧ K b ∧ b < W.heap.size ∧ ∀ j, j < len → W.cell? ⟨b, off + j * 3, none⟩ = some (.int .i64 (vs[j]?.getD Vl.null).k) ∧ W.cell? ⟨b, off + j * 3 + 1, none⟩ = some (.int .i64 (vs[j]?.getD Vl.null).i) ∧ W.cell? ⟨b, off + j * 3 + 2, none⟩ = some (.string (bsOf (vs[j]?.getD Vl.null).s))
theorem RdW.small {K : Nat → Prop} {W : World} {a : Option Addr} {len cap : Nat} {vs : List Vl} (h : RdW K W a len cap vs) (hs : vs.length ≤ 1099511627776) : RdV K W a len cap vs :=
  ⟨h.hl, h.fit, h.top, by rw [h.hl]; exact hs, h.cells⟩
theorem RdV.wide {K : Nat → Prop} {W : World} {a : Option Addr} {len cap : Nat} {vs : List Vl} (h : RdV K W a len cap vs) : RdW K W a len cap vs := ⟨h.hl, h.fit, h.top, h.cells⟩
theorem RdW.below {K : Nat → Prop} {A B : World} {a : Option Addr} {len cap : Nat} {vs : List Vl} (h : RdW K A a len cap vs) (hk : Below A.heap.size A B) : RdW K B a len cap vs :=
  ⟨h.hl, h.fit, h.top, fun h0 => by
    obtain ⟨b, off, e, hb, hlt, hc⟩ := h.cells h0
    exact ⟨b, off, e, hb, Nat.lt_of_lt_of_le hlt hk.size, fun j hj => ⟨(World.cell?_of_block (w := A) (hk.block b hlt)).trans (hc j hj).1, (World.cell?_of_block (w := A) (hk.block b hlt)).trans (hc j hj).2.1, (World.cell?_of_block (w := A) (hk.block b hlt)).trans (hc j hj).2.2⟩⟩⟩

/-- A value whose numbers are a machine's, and whose string is no longer than a string can be. -/
structure Vl.Fit (v : Vl) : Prop where
  k : I64 v.k
  i : I64 v.i
  s : v.s.length ≤ 9223372036854775807
theorem Vl.Fit.null : Vl.null.Fit := ⟨⟨by decide, by decide⟩, ⟨by decide, by decide⟩, by decide⟩
theorem wf_i64 {n : Int} (h : (Lit.int .i64 n).wf = true) : I64 n := by
  simp [Lit.wf, IntKind.min, IntKind.max, IntKind.signed, IntKind.bits] at h
  exact ⟨by omega, by omega⟩

theorem open_rdw {H : Type} {enc : TypeId × Value → H} {P : Program} {W : World} {r : Reach} {b0 : Nat} {t e : TypeId} {f0 f1 f2 : Field} {v : Value} {d : DataW H} {ps : List MemPlace}
    (ht : P.underlying t = some (.slice e)) (he : P.underlying e = some (.struct #[f0, f1, f2])) (hC : P.cellsOf e = 3)
    (o0 : f0.offset = 0) (o1 : f1.offset = 1) (o2 : f2.offset = 2) (c0 : P.cellsOf f0.type = 1) (c1 : P.cellsOf f1.type = 1) (c2 : P.cellsOf f2.type = 1)
    (u0 : P.underlying f0.type = some (.int .i64)) (u1 : P.underlying f1.type = some (.int .i64)) (u2 : P.underlying f2.type = some .string)
    (hval : Value.okWide P W r b0 t v) (hd : DataW.Trod enc P W 0 (fun _ => true) true t v d ps) :
    ∃ a len cap vs, v = .slice a len cap ∧ RdW (fun b => b < W.heap.size) W a len cap vs ∧ (∀ v ∈ vs, v.Fit) := by
  obtain ⟨a0, len, cap, rfl⟩ := okWide_slice ht hval
  obtain ⟨fuel, hf⟩ := hd
  rcases DataW.trod_slice ht hf with ⟨hcs, hx⟩ | ⟨a, len', cap', elems, rest, n, _, hcs, _, _, hl, hm, hlen, hel, _, _⟩
  · simp [Value.cells] at hcs
    obtain ⟨rfl, rfl, rfl⟩ := hcs
    exact ⟨none, 0, 0, [], rfl, ⟨rfl, Nat.le_refl _, by decide, fun h => absurd h (by decide)⟩, fun n hn => by cases hn⟩
  · simp [Value.cells] at hcs
    obtain ⟨rfl, rfl, rfl⟩ := hcs
    have hm' : cap ≤ 9223372036854775807 := by unfold maxLen at hm; omega
    have each : ∀ i : Nat, ∃ q : Vl, i < len → q.Fit ∧ W.cell? (a.add (i * 3)) = some (.int .i64 q.k) ∧ W.cell? (a.add (i * 3 + 1)) = some (.int .i64 q.i) ∧ W.cell? (a.add (i * 3 + 2)) = some (.string (bsOf q.s)) := by
      intro i
      by_cases hi : i < len
      · have h := hel i hi
        rw [List.getElem?_eq_getElem (by omega), Option.bind_eq_some_iff] at h
        obtain ⟨cs', h1, h2⟩ := h
        rw [hC] at h1
        obtain ⟨_, hcl, hcell⟩ := World.cells?_some h1
        obtain ⟨xs, k, _, _, _, hxl, hff⟩ := DataW.trod_struct he h2
        match xs, hxl, cs', hcl with
        | [y0, y1, y2], _, [v0, v1, v2], _ =>
          have g0 := hff 0 f0 rfl
          have g1 := hff 1 f1 rfl
          have g2 := hff 2 f2 rfl
          simp [o0, o1, o2, c0, c1, c2] at g0 g1 g2
          have e0 := hcell 0 (by omega)
          have e1 := hcell 1 (by omega)
          have e2 := hcell 2 (by omega)
          rw [Go.Deep.add_add] at e0 e1 e2
          obtain ⟨nk, q0, rfl, w0⟩ := DataW.trod_int u0 g0
          obtain ⟨ni, q1, rfl, w1⟩ := DataW.trod_int u1 g1
          obtain ⟨s, q2, rfl, w2⟩ := DataW.trod_string u2 g2
          simp at q0 q1 q2
          subst q0 q1 q2
          have hs : bsOf s.data.toList = s := by unfold bsOf; simp
          have hsl : s.data.toList.length ≤ 9223372036854775807 := by
            have h2 : s.size ≤ 9223372036854775807 := (by simpa [maxLen] using w2)
            have h3 : s.data.toList.length = s.size := by simp
            omega
          exact ⟨⟨nk, ni, s.data.toList⟩, fun _ => ⟨⟨wf_i64 w0, wf_i64 w1, hsl⟩, by simpa using e0, by simpa using e1, by rw [hs]; simpa using e2⟩⟩
      · exact ⟨Vl.null, fun h => absurd h hi⟩
    obtain ⟨q, hq⟩ := Classical.axiomOfChoice each
    have hget : ∀ j, j < len → ((List.range len).map q)[j]?.getD Vl.null = q j := fun j hj => by simp [hj]
    refine ⟨some a, len, cap, (List.range len).map q, rfl, ⟨by simp, hl, hm', fun h0 => ?_⟩, fun v hv => ?_⟩
    · obtain ⟨b, off, spot⟩ := a
      have h00 := (hq 0 h0).2.1
      have hspot : spot = none := by simpa [Addr.add] using World.cell?_spot h00
      subst hspot
      have hlt : b < W.heap.size := by
        obtain ⟨o, ho, _⟩ := cells_of_cell h00
        exact (Array.getElem?_eq_some_iff.1 ho).1
      refine ⟨b, off, rfl, hlt, hlt, fun j hj => ?_⟩
      rw [hget j hj]
      obtain ⟨_, h1, h2, h3⟩ := hq j hj
      rw [Go.WideShapes.add_plain] at h1 h2 h3
      exact ⟨h1, by rw [Nat.add_assoc]; exact h2, by rw [Nat.add_assoc]; exact h3⟩
    · obtain ⟨j, hj, rfl⟩ := List.mem_map.1 hv
      exact (hq j (List.mem_range.1 hj)).1

end Go.Proofs.YtocnkjnlmciojaaGreatDoor

namespace Go.Proofs.YtocnkjnlmciojaaGreatDoor
open Go Go.ChangeShapes Go.WideShapes Go.ChangeAt Go.RowKit

theorem Fit.at {vs : List Vl} (h : ∀ v ∈ vs, v.Fit) (k : Nat) : (vs[k]?.getD Vl.null).Fit := by
  by_cases hk : k < vs.length
  · rw [List.getElem?_eq_getElem hk]; exact h _ (List.getElem_mem hk)
  · rw [List.getElem?_eq_none (by omega)]; exact Vl.Fit.null
def shortB (vs : List Vl) : Bool := decide (vs.length ≤ 60) && vs.all fun v => decide (v.s.length ≤ 100)
theorem short_long {vs : List Vl} {k : Nat} (hk : k < vs.length) (h : 100 < (vs[k]?.getD Vl.null).s.length) : shortB vs = false := by
  have : (vs.all fun v => decide (v.s.length ≤ 100)) = false := by
    rw [List.all_eq_false]
    refine ⟨vs[k], List.getElem_mem hk, ?_⟩
    rw [List.getElem?_eq_getElem hk] at h
    have h : 100 < vs[k].s.length := h
    simp; omega
  unfold shortB; rw [this, Bool.and_false]
theorem short_end {vs : List Vl} (h : ∀ j, j < vs.length → (vs[j]?.getD Vl.null).s.length ≤ 100) : shortB vs = decide (vs.length ≤ 60) := by
  have : (vs.all fun v => decide (v.s.length ≤ 100)) = true := by
    rw [List.all_eq_true]
    intro v hv
    obtain ⟨j, hj, rfl⟩ := List.getElem_of_mem hv
    have := h j hj
    rw [List.getElem?_eq_getElem hj] at this
    exact decide_eq_true this
  unfold shortB; rw [this, Bool.and_true]
theorem short_parts {vs : List Vl} (h : shortB vs = true) : vs.length ≤ 60 ∧ Short vs := by
  unfold shortB at h
  rw [Bool.and_eq_true] at h
  refine ⟨of_decide_eq_true h.1, fun v hv => ?_⟩
  have := of_decide_eq_true (List.all_eq_true.1 h.2 v hv)
  omega

set_option maxRecDepth 100000 in
set_option maxHeartbeats 1000000 in
theorem short_any {K : Nat → Prop} {a : Option Addr} {len cap : Nat} {x : List Vl} {w : World} (hR : RdW K w a len cap x) (hF : ∀ v ∈ x, v.Fit) :
    Calls Tryz.prog 29 #[.slice a len cap] w fun e w' => e = .returned (.bool (shortB x)) ∧ w' = w := by
  have hfit := hR.fit
  have htop := hR.top
  have HL := Lib.hid hR.hl
  have H := Lib.hid hR
  have HM : Hid (∀ j : Nat, (x[j]?.getD Vl.null).s.length ≤ 9223372036854775807) := fun j => (Fit.at hF j).s
  clear hR hF
  have HE : Hid (∀ z, z = shortB x → Ending.returned (.bool z) = .returned (.bool (shortB x))) := fun z h => by rw [h]
  go_enter Tryz.func29, Tryz.ntmps29
  go_wp2
  go_loopw [3] (fun i wr => ∃ k : Nat, k ≤ len ∧ i = .int .i64 k ∧ wr = w ∧ Hid (∀ j, j < k → (x[j]?.getD Vl.null).s.length ≤ 100)) (fun i _ => len - (intOf i).toNat)
  case atStart => exact ⟨0, Nat.zero_le _, rfl, rfl, fun j hj => absurd hj (Nat.not_lt_zero _)⟩
  case round =>
    obtain ⟨k, hk, rfl, rfl, HI⟩ := hrel
    by_cases hlt : k < len
    · obtain ⟨b, off, rfl, _, hb, hc⟩ := H.out.cells (by omega)
      obtain ⟨c0, c1, c2⟩ := hc k hlt
      have hm := HM.out k
      have hsz := bs_size (x[k]?.getD Vl.null).s
      have HB := Lib.hid (@short_long x k (by rw [← HL.out]; exact hlt))
      have HG : Hid ((x[k]?.getD Vl.null).s.length ≤ 100 → ∀ j, j < k + 1 → (x[j]?.getD Vl.null).s.length ≤ 100) := fun h j hj => by
        by_cases e : j = k
        · subst e; exact h
        · exact HI.out j (by omega)
      clear hc c0 c1
      generalize x[k]?.getD Vl.null = p at *
      have hkI : (k : Int) < (len : Int) := by omega
      by_cases h100 : 100 < p.s.length
      · have HRR := HE.out false (HB.out h100).symm
        go_wp2
        go_ret
        exact ⟨HRR, rfl⟩
      · have HST := Lib.hid (HG.out (by omega))
        go_wp2
        go_roundw
        case rel => exact ⟨k + 1, by omega, by go_num, trivial, HST.out⟩
        case measure => simp [intOf]; omega
    · obtain rfl : k = len := by omega
      have hd2 : ¬ ((k : Int) < (k : Int)) := Int.lt_irrefl _
      have HRR := Lib.hid (HE.out (decide ((k : Int) ≤ 60)) (by
        rw [short_end (fun j hj => HI.out j (by rw [HL.out]; exact hj)), ← HL.out]
        exact decide_eq_decide.2 (by omega)))
      go_wp2
      go_ret
      exact ⟨HRR.out, rfl⟩

end Go.Proofs.YtocnkjnlmciojaaGreatDoor
