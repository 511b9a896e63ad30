/-
  Taking words in batches is taking them one after the other: whatever the iterator is, as long as it keeps its contract.
-/
import Derived.Test.YtjlihkllgajkkaaDigIter
import Derived.Maps.AppendAt
namespace Go.Proofs.Ytjlihkllgajkkaa
open Go.RowKit Go.Shelf
attribute [local go_sem] Oper.semAt_some

theorem Try.infoW : (Try.prog.info? 24).map (fun i => (i.zero, i.size, i.bytes)) = some (some (.int .u64 0), 1, 8) := by kernel_rfl

theorem Kept.boxed {K : Nat → Prop} {A B : World} {b : Nat} {t : TypeId} {v : Value} (h : Kept K A B) (hb : Boxed A b t v) (hk : K b) : Boxed B b t v := (h.block b hb.lt hk).trans hb
theorem Kept.row {K : Nat → Prop} {A B : World} {base : Nat} {e : TypeId} {size k : Nat} {g len cap : Nat} {xs : List Value} (h : Kept K A B)
    (hr : A.ownsRow base e size (.slice (some ⟨g, 0, none⟩) len cap) k xs) (hk : K g) : B.ownsRow base e size (.slice (some ⟨g, 0, none⟩) len cap) k xs := by
  obtain ⟨h1, ⟨e0, _⟩ | ⟨g', cap', cur, e1, h2, h3, h4⟩⟩ := hr
  · cases e0
  · have hg : g = g' := by cases e1; rfl
    subst hg
    exact ⟨h1, .inr ⟨g, cap', cur, e1, h2, (h.block g (Array.getElem?_eq_some_iff.1 h3).1 hk).trans h3, h4⟩⟩
theorem row_lt {A : World} {base : Nat} {e : TypeId} {size k : Nat} {g len cap : Nat} {xs : List Value}
    (hr : A.ownsRow base e size (.slice (some ⟨g, 0, none⟩) len cap) k xs) : g < A.heap.size := by
  obtain ⟨h1, ⟨e0, _⟩ | ⟨g', cap', cur, e1, h2, h3, h4⟩⟩ := hr
  · cases e0
  · have hg : g = g' := by cases e1; rfl
    subst hg
    exact (Array.getElem?_eq_some_iff.1 h3).1
theorem row_cells {A : World} {base : Nat} {e : TypeId} {k : IntKind} {n g len cap : Nat} {zs : List Int}
    (hr : A.ownsRow base e 1 (.slice (some ⟨g, 0, none⟩) len cap) n (zs.map (Value.int k))) : ∀ j, j < zs.length → A.cell? ⟨g, 0 + j, none⟩ = some (.int k (zs[j]?.getD 0)) := by
  intro j hj
  obtain ⟨h1, ⟨e0, _⟩ | ⟨g', cap', cur, e1, h2, h3, h4, h5, h6, h7⟩⟩ := hr
  · cases e0
  · have hg : g = g' := by cases e1; rfl
    subst hg
    have e2 : cur.toList[j]? = some (.int k (zs[j]?.getD 0)) := by
      have e3 : (cur.toList.take (n * 1))[j]? = some (.int k (zs[j]?.getD 0)) := by
        rw [h7, List.getElem?_map, List.getElem?_eq_getElem hj]; rfl
      rw [List.getElem?_take] at e3
      split at e3
      · exact e3
      · cases e3
    rw [Array.getElem?_toList] at e2
    simp [World.cell?, h3, e2]

/-- Between two words: some have been taken, some lie in the batch. -/
def batchI (w : World) (B : Nat) (h : Int) (ws : List Int) (k : Nat) (W : World) : Prop :=
  ∃ (done pend : List Int) (p : Nat), Hid (ws.take k = done ++ pend ∧ pend.length = p) ∧ p < 64 ∧ Boxed W B 50 (.int .u64 (done.foldl stepI h)) ∧
    Boxed W w.heap.size 51 (.func (.func 25) #[.pointer (some ⟨B, 0, none⟩)] #[]) ∧
    Boxed W (w.heap.size + 1 + 1) 27 (.slice (some ⟨w.heap.size + 1, 0, none⟩) p 64) ∧
    W.ownsRow w.heap.size 24 1 (.slice (some ⟨w.heap.size + 1, 0, none⟩) p 64) p (pend.map (Value.int .u64)) ∧
    Kept (fun b => b < w.heap.size ∧ b ≠ B) w W

theorem batchI_kept {w W W' : World} {B : Nat} {h : Int} {ws : List Int} {k : Nat} (hB : B < w.heap.size) (hi : batchI w B h ws k W) (hk : Kept (fun b => b < w.heap.size + 3) W W') : batchI w B h ws k W' := by
  obtain ⟨done, pend, p, h1, h2, h3, h4, h5, h6, h7⟩ := hi
  exact ⟨done, pend, p, h1, h2, hk.boxed h3 (by omega), hk.boxed h4 (by omega), hk.boxed h5 (by omega), hk.row h6 (by omega), h7.trans (hk.mono fun b hb => by omega)⟩

theorem batchI_own {w : World} {B : Nat} {h : Int} {ws : List Int} (hB : B < w.heap.size) : OwnFrom (w.heap.size + 3) (batchI w B h ws) :=
  fun k W W' row hi hg hr => batchI_kept hB hi (Kept.of_grownBy hg (fun r e hlt => by have := (hr r e).1; omega))

/-- An append within the batch's room, and the store of the longer slice: only the batch's own two blocks turn. -/
theorem batch_kept {w W w1 : World} {x : Int} {v : Value} {K : Nat → Prop} (hg : (W.alloc (.cells #[.int .u64 x] 24)).grownBy w1 (some (w.heap.size + 1))) (h1 : ¬ K (w.heap.size + 1)) (h2 : ¬ K (w.heap.size + 1 + 1)) :
    Kept K W (w1.setCell ⟨w.heap.size + 1 + 1, 0, none⟩ v) :=
  ((Kept.of_grownBy (World.grownBy_alloc W _ none) (by simp)).trans (Kept.of_grownBy hg (fun r e => by cases e; exact h1))).trans (Kept.of_grownBy (grownBy_setCell' _ _ _) (fun r e => by cases e; exact h2))

theorem row_set {W : World} {base : Nat} {e : TypeId} {size k : Nat} {g len cap : Nat} {xs : List Value} {b : Nat} {v : Value}
    (hr : W.ownsRow base e size (.slice (some ⟨g, 0, none⟩) len cap) k xs) (hne : g ≠ b) : (W.setCell ⟨b, 0, none⟩ v).ownsRow base e size (.slice (some ⟨g, 0, none⟩) len cap) k xs :=
  Kept.row (Kept.of_grownBy (K := fun i => i ≠ b) (grownBy_setCell' W b v) (fun r e => by cases e; simp)) hr hne

theorem row_empty {W : World} {base : Nat} {e : TypeId} {size k : Nat} {g len cap : Nat} {xs : List Value}
    (hr : W.ownsRow base e size (.slice (some ⟨g, 0, none⟩) len cap) k xs) : W.ownsRow base e size (.slice (some ⟨g, 0, none⟩) 0 cap) 0 [] := by
  obtain ⟨h1, ⟨e0, _⟩ | ⟨g', cap', cur, e1, h2, h3, h4, h5, h6, h7⟩⟩ := hr
  · cases e0
  · obtain ⟨rfl, rfl⟩ : g = g' ∧ cap = cap' := by cases e1; exact ⟨rfl, rfl⟩
    exact ⟨by simp, .inr ⟨g, cap, cur, rfl, h2, h3, Nat.zero_le _, h5, h6, by simp⟩⟩

set_option maxRecDepth 100000 in
set_option maxHeartbeats 4000000 in
theorem batches_in (F : Fence) (n : Nat) (hF : Lets F) (hn : 4 ≤ n) (gf : Nat) (lb : Array Value) (eg : ∀ args w, (callFunc gf args).run Try.prog w = .ok (.enter gf args) w)
    (B : Nat) (h : Int) (hh : 0 ≤ h ∧ h < 18446744073709551616) (ws : List Int) (hw : Words ws) (w : World)
    (hB : Boxed w B 50 (.int .u64 h)) (hseq : ∀ w', Below w.heap.size w w' → GivesAll F (n - 1) Try.prog gf lb (fun x : Int => #[Value.int .u64 x]) (fun b => b < w.heap.size ∧ b ≠ B) ws w') :
    CallsIn F n Try.prog 29 #[.func (.func gf) #[] lb, .func (.func 25) #[.pointer (some ⟨B, 0, none⟩)] #[]] w fun e W' =>
      (∃ v, e = .returned v) ∧ Boxed W' B 50 (.int .u64 (ws.foldl stepI h)) ∧ Kept (fun b => b < w.heap.size ∧ b ≠ B) w W' := by
  have hro := hF.round
  have hBlt := hB.lt
  have hf := hF.fn 25
  have h1 : 1 ≤ n := by omega
  obtain ⟨i0, hi, hz0, hz1, hz2⟩ := info_parts Try.infoW
  refine callsIn_of_wp_marks Try.func29 rfl (hF.fn _) ?_ hF.round
  simp only [Try.ntmps29, List.size_toArray, List.length_cons, List.length_nil, Nat.reduceAdd, Nat.reduceSub, Array.replicate_succ, Array.replicate_zero, List.push_toArray, List.append_toArray, List.nil_append, List.cons_append]
  have hmk : ∀ W : World, (Instr.makeSlice 27 (.int .i64 0) (.int .i64 64)).run Try.prog W = .ok (.slice (some ⟨W.heap.size, 0, none⟩) 0 64) (W.alloc (.cells (madeCells (Value.int .u64 0).cells (64 * 1)) 24)) := by
    intro W
    have := run_make (P := Try.prog) W 27 24 i0 _ Try.underlying27 hi hz0 .i64 .i64 0 64 (by omega) (by omega) (by rw [hz2]; decide) (by omega)
    rw [hz1] at this
    exact this
  obtain ⟨mc, hmc⟩ : ∃ mc, madeCells (Value.int .u64 0).cells (64 * 1) = mc := ⟨_, rfl⟩
  have hmcs : mc.size = 64 * 1 := by rw [← hmc]; exact size_madeCells _ _
  rw [hmc] at hmk
  clear hmc
  have HM := Lib.hid hmcs
  clear hmcs
  gi_wp2
  clear hmk
  have bT := Boxed.new w 51 (.func (.func 25) #[.pointer (some ⟨B, 0, none⟩)] #[])
  have rM := World.ownsRow_made (w.alloc (.cells #[.func (.func 25) #[.pointer (some ⟨B, 0, none⟩)] #[]] 51)) (base := w.heap.size) (e := 24) (size := 1) mc 64 (by simp) (by decide) HM.out
  have bN := Boxed.new ((w.alloc (.cells #[.func (.func 25) #[.pointer (some ⟨B, 0, none⟩)] #[]] 51)).alloc (.cells mc 24)) 27 (.slice (some ⟨w.heap.size + 1, 0, none⟩) 0 64)
  simp only [World.size_alloc] at rM bN
  have hW0 : Below w.heap.size w (((w.alloc (.cells #[.func (.func 25) #[.pointer (some ⟨B, 0, none⟩)] #[]] 51)).alloc (.cells mc 24)).alloc (.cells #[.slice (some ⟨w.heap.size + 1, 0, none⟩) 0 64] 27)) := (((Below.refl _ w).alloc (Nat.le_refl _) _).alloc (by simp) _).alloc (by simp; omega) _
  have hsz : (((w.alloc (.cells #[.func (.func 25) #[.pointer (some ⟨B, 0, none⟩)] #[]] 51)).alloc (.cells mc 24)).alloc (.cells #[.slice (some ⟨w.heap.size + 1, 0, none⟩) 0 64] 27)).heap.size = w.heap.size + 3 := by simp
  have hI0 : batchI w B h ws 0 (((w.alloc (.cells #[.func (.func 25) #[.pointer (some ⟨B, 0, none⟩)] #[]] 51)).alloc (.cells mc 24)).alloc (.cells #[.slice (some ⟨w.heap.size + 1, 0, none⟩) 0 64] 27)) :=
    ⟨[], [], 0, ⟨rfl, rfl⟩, by decide, (((hB.alloc _).alloc _).alloc _), (bT.alloc _).alloc _, bN, rM.alloc _,
      ⟨hW0.os, hW0.tape, hW0.output, hW0.size, fun k hk _ => hW0.block k hk⟩⟩
  have hG := hseq _ hW0
  generalize hW0' : ((w.alloc (.cells #[.func (.func 25) #[.pointer (some ⟨B, 0, none⟩)] #[]] 51)).alloc (.cells mc 24)).alloc (.cells #[.slice (some ⟨w.heap.size + 1, 0, none⟩) 0 64] 27) = W0 at *
  clear hW0' bT rM bN HM
  refine wpIn_rangeAll hro h1 (gf := gf) (lb := lb) rfl (hF.fn _) eg hG (fun _ => rfl) (batchI w B h ws) (by rw [hsz]; exact batchI_own hBlt) hI0
    (fun x => { tmps := #[.func (.func gf) #[] lb, .func (.func 25) #[.pointer (some ⟨B, 0, none⟩)] #[], undef, .pointer (some ⟨w.heap.size, 0, none⟩), .pointer (some ⟨w.heap.size + 1 + 1, 0, none⟩), .int .u64 x,
      .slice (some ⟨w.heap.size + 1, 0, none⟩) 0 64, .func (.func gf) #[] lb, .int .u64 x, undef, undef, undef, undef, undef, undef, undef, undef, undef, undef, undef, undef, undef, undef, undef], defers := [] }) ?assign ?body ?done
  case assign =>
    intro l x W R hR
    gi_wp2
    exact hR
  case body =>
    rintro l k x W hx ⟨done, pend, p, hp, hp64, hBx, hTx, hNx, hRx, hKx⟩ hWz
    rw [hsz] at hWz
    have hx2 : 0 ≤ x ∧ x < 18446744073709551616 := hw x (List.mem_of_getElem? hx)
    have hx0 := hx2.1
    have hx1 := hx2.2
    have h1' : 1 ≤ n - 1 - 1 := by omega
    have hcT := hTx.cell
    have hcN := hNx.cell
    have hfN := hNx.frozen
    have HTK : Hid (ws.take (k + 1) = done ++ (pend ++ [x]) ∧ (pend ++ [x]).length = p + 1) := by
      have hk : k < ws.length := (List.getElem?_eq_some_iff.1 hx).1
      refine ⟨?_, by simp [hp.out.2]⟩
      rw [List.take_succ_eq_append_getElem hk, hp.out.1, List.append_assoc, (List.getElem?_eq_some_iff.1 hx).2]
    clear hx hx2
    by_cases hfull : p = 63
    · subst hfull
      have hfo := foldI_range h hh done
      have hwp : Words (pend ++ [x]) := by
        intro y hy
        have : y ∈ ws := List.mem_of_mem_take (by rw [HTK.out.1]; exact List.mem_append_right _ hy)
        exact hw y this
      have HL : Hid (64 = (pend ++ [x]).length) := HTK.out.2.symm
      gi_wp2_with (first
        | (gi_at_builtin; refine wpListIn_append_fits _ rfl _ _ 27 rfl w.heap.size 24 i0 1 Try.underlying27 hi hz1 (w.heap.size + 1) 63 64 (pend.map (Value.int .u64)) rfl (hRx.alloc _) ⟨W.heap.size, 0, none⟩ 1 1 [.int .u64 x] rfl rfl (cell_one_new _ _ _) (by simp [Value.oneCell']) (by omega) ?_; intro w1 hown1 hgrow1; have hcN1 := hgrow1.cell (hNx.alloc _).cell (by simp); have hN1 := (hNx.alloc _).kept hgrow1 (by simp); have hfN1 := hN1.frozen; have bN1 := hN1.set (.slice (some ⟨w.heap.size + 1, 0, none⟩) 64 64); have bB1 := (batch_kept (v := .slice (some ⟨w.heap.size + 1, 0, none⟩) 64 64) (K := fun b => b = B) hgrow1 (by omega) (by omega)).boxed hBx rfl; have bT1 := (batch_kept (v := .slice (some ⟨w.heap.size + 1, 0, none⟩) 64 64) (K := fun b => b = w.heap.size) hgrow1 (by omega) (by omega)).boxed hTx rfl; have rR1 := row_set (v := .slice (some ⟨w.heap.size + 1, 0, none⟩) 64 64) (b := w.heap.size + 1 + 1) hown1 (by omega); have cT1 := bT1.cell; have cN1 := bN1.cell)
        | (gi_at_call 25; refine (CallsIn.inRound l (take_some_in F (n - 1 - 1 - 1) hF (by omega) B (w.heap.size + 1) 0 64 64 (done.foldl stepI h) hfo (pend ++ [x]) HL (by omega) hwp (by omega) _ bB1 (row_lt rR1) (fun j hj => row_cells (zs := pend ++ [x]) (by rw [List.map_append]; exact rR1) j (by rw [← HL.out]; exact hj)))).mono ?_; rintro e W3 ⟨⟨v, rfl⟩, bB3, hg3⟩; have bN3 := bN1.kept hg3 (by simp; omega); have cN3 := bN3.cell; have fN3 := bN3.frozen))
      have hk0 : ∀ K : Nat → Prop, ¬ K (w.heap.size + 1) → ¬ K (w.heap.size + 1 + 1) → ¬ K B → Kept K W (W3.setCell ⟨w.heap.size + 1 + 1, 0, none⟩ (.slice (some ⟨w.heap.size + 1, 0, none⟩) 0 64)) := fun K k1 k2 k3 =>
        ((batch_kept hgrow1 k1 k2).trans (Kept.of_grownBy hg3 (fun r e => by cases e; exact k3))).trans (Kept.of_grownBy (grownBy_setCell' _ _ _) (fun r e => by cases e; exact k2))
      have rR3 := Kept.row (Kept.of_grownBy (K := fun b => b ≠ B) hg3 (fun r e => by cases e; simp)) rR1 (by omega)
      refine ⟨hk0 _ (by omega) (by omega) (by omega), ws.take (k + 1), [], 0, ⟨by simp, rfl⟩, by decide, ?_, (hk0 (fun b => b = w.heap.size) (by omega) (by omega) (by omega)).boxed hTx rfl, bN3.set _,
        row_set (row_empty rR3) (by omega), hKx.trans (hk0 _ (by omega) (by omega) (by simp))⟩
      rw [HTK.out.1, List.foldl_append]
      exact bB3.other (by omega) _
    · have hp2 : p < 63 := by omega
      clear hfull
      gi_wp2_with (gi_at_builtin; refine wpListIn_append_fits _ rfl _ _ 27 rfl w.heap.size 24 i0 1 Try.underlying27 hi hz1 (w.heap.size + 1) p 64 (pend.map (Value.int .u64)) rfl (hRx.alloc _) ⟨W.heap.size, 0, none⟩ 1 1 [.int .u64 x] rfl rfl (cell_one_new _ _ _) (by simp [Value.oneCell']) (by omega) ?_; intro w1 hown1 hgrow1; have hcN1 := hgrow1.cell (hNx.alloc _).cell (by simp); have hfN1 : w1.frozen? ⟨w.heap.size + 1 + 1, 0, none⟩ = false := ((hNx.alloc _).kept hgrow1 (by simp)).frozen)
      have hN1 := (hNx.alloc _).kept hgrow1 (by simp)
      refine ⟨batch_kept hgrow1 (by omega) (by omega), done, pend ++ [x], p + 1, HTK, by omega, (batch_kept (K := fun b => b = B) hgrow1 (by omega) (by omega)).boxed hBx rfl, (batch_kept (K := fun b => b = w.heap.size) hgrow1 (by omega) (by omega)).boxed hTx rfl, hN1.set _,
        row_set (by rw [List.map_append]; exact hown1) (by omega), hKx.trans (batch_kept hgrow1 (by omega) (by omega))⟩
  case done =>
    rintro D W hD hWz ⟨done, pend, p, hp, hp64, hBx, hTx, hNx, hRx, hKx⟩ hDx
    rw [hsz] at hWz hD
    have hcT := hTx.cell
    have hcN := hNx.cell
    have hfo := foldI_range h hh done
    have hwp : Words pend := by
      intro y hy
      have : y ∈ ws := by have := hp.out.1; rw [List.take_length] at this; rw [this]; exact List.mem_append_right _ hy
      exact hw y this
    have HL : Hid (p = pend.length) := hp.out.2.symm
    gi_wp2_with (gi_at_call 25; refine (take_some_in F (n - 1) hF (by omega) B (w.heap.size + 1) 0 p 64 (done.foldl stepI h) hfo pend HL (by omega) hwp (by omega) _ hBx (row_lt hRx) (fun j hj => row_cells (zs := pend) hRx j (by rw [← HL.out]; exact hj))).mono ?_; rintro e W3 ⟨⟨v, rfl⟩, bB3, hg3⟩)
    have hD3 : W3.heap[D]? = some (.deferred (some [])) := (hg3.block D (Array.getElem?_eq_some_iff.1 hDx).1 (by simp; omega)).trans hDx
    refine ⟨by simp, .inl ⟨_, _, rfl, run_takeDeferred hD3, ?_⟩⟩
    refine ⟨_, results_none rfl _ _ _, ⟨_, rfl⟩, ?_, (hKx.trans (Kept.of_grownBy hg3 (fun r e => by cases e; simp))).trans (Kept.of_grownBy (grownBy_putObj' _ _ _) (fun r e => by cases e; omega))⟩
    have e1 : ws = done ++ pend := by have := hp.out.1; rwa [List.take_length] at this
    rw [e1, List.foldl_append]
    exact Kept.boxed (Kept.of_grownBy (K := fun b => b = B) (grownBy_putObj' _ _ _) (fun r e => by cases e; omega)) bB3 rfl

end Go.Proofs.Ytjlihkllgajkkaa
