/-
  Rows of strings of a region's own, as facts; the parts of a list of strings.
-/
import Derived.Test.YtdcapmbgnoahpaaDcApp
import Derived.Test.YtdcapmbgnoahpaaDcEx
import Derived.Test.YtdcapmbgnoahpaaRegFresh
import Derived.ArgAppend
namespace Go.Proofs.Ytdcapmbgnoahpaa
open Go Go.RowKit Go.Shelf Go.Sort Go.ChangeShapes Go.WideShapes Go.ChangeAt

theorem rowS_below {A B : World} {base : Nat} {e : TypeId} {v : Value} {n : Nat} {xs : List Value} (h : A.ownsRow base e 1 v n xs) (hk : Below A.heap.size A B) : B.ownsRow base e 1 v n xs := by
  refine ⟨h.1, h.2.imp id fun ⟨g, c, cur, e1, h1, h2, h3⟩ => ⟨g, c, cur, e1, h1, (hk.block g (Array.getElem?_eq_some_iff.1 h2).1).trans h2, h3⟩⟩

/-- A row that reads as strings. -/
def RowS (base : Nat) (ss : List (List UInt8)) : Fact := fun v W => ∃ g c : Nat, v = .slice (some ⟨g, 0, none⟩) ss.length c ∧ ss.length ≤ c ∧ W.ownsRow base 9 1 (.slice (some ⟨g, 0, none⟩) ss.length c) ss.length (ss.map encStr)
theorem rowS_stable (base : Nat) (ss : List (List UInt8)) : (RowS base ss).Stable := fun _ _ _ ⟨g, c, e, h1, h2⟩ hb => ⟨g, c, e, h1, rowS_below h2 hb⟩
/-- A row that holds nothing, with no room. -/
def Row0S (base : Nat) : Fact := fun v W => ∃ g : Nat, v = .slice (some ⟨g, 0, none⟩) 0 0 ∧ W.ownsRow base 9 1 (.slice (some ⟨g, 0, none⟩) 0 0) 0 []
theorem row0S_stable (base : Nat) : (Row0S base).Stable := fun _ _ _ ⟨g, e, h⟩ hb => ⟨g, e, rowS_below h hb⟩
theorem row0S_new (W : World) (base : Nat) (hb : base ≤ W.heap.size) : Row0S base (.slice (some ⟨W.heap.size, 0, none⟩) 0 0) (W.alloc (.cells #[] 9)) := ⟨_, rfl, own5_none W 9 base hb⟩
/-- A slice that reads as strings. -/
def SlRdS (ss : List (List UInt8)) : Fact := fun v W => ∃ g n c : Nat, v = .slice (some ⟨g, 0, none⟩) n c ∧ RdS (fun _ => True) W (some ⟨g, 0, none⟩) n c ss
theorem slrdS_stable (ss : List (List UInt8)) : (SlRdS ss).Stable := fun _ _ _ ⟨g, n, c, e, h⟩ hb => ⟨g, n, c, e, h.below hb⟩
theorem slrdS_one (W : World) (x : List UInt8) {X : ByteArray} (hX : bsOf x = X) (hw : x.length ≤ maxLen) : SlRdS [x] (.slice (some ⟨W.heap.size, 0, none⟩) 1 1) (W.alloc (.cells #[.string X] 9)) := by
  have h0 := RdS.new5 W 9 [x] 1 rfl (by decide) (fun s hs => by rw [List.mem_singleton.1 hs]; exact hw)
  rw [show ([x].map encStr).toArray = #[.string X] by rw [← hX]; rfl] at h0
  exact ⟨_, _, _, rfl, h0.mono fun _ _ _ => trivial⟩

theorem row0S_append {base : Nat} {ss : List (List UInt8)} {v : Value} {W : World} (h : Row0S base v W) {K : Nat → Prop} {a : Option Addr} {n c : Nat} (hR : RdS K W a n c ss) (hb : base ≤ W.heap.size) (hl : n ≤ 100000000) :
    ∃ v' w', (Builtin.append_ #[23, 23] 23 #[v, .slice a n c]).run Try.prog W = .ok v' w' ∧ RowS base ss v' w' ∧ Below W.heap.size W w' := by
  obtain ⟨i0, hi, hz0, hz1, hz2⟩ := info_parts Try.infoS5
  obtain ⟨g, rfl, h2⟩ := h
  have hl1 := hR.hl
  by_cases h0 : n = 0
  · subst h0
    obtain rfl : ss = [] := List.eq_nil_of_length_eq_zero hl1.symm
    exact ⟨_, W, run_append_empty W 23 23 9 i0 Try.underlying23 hi _ 0 0 (Nat.le_refl _) a c, ⟨g, 0, rfl, Nat.le_refl _, h2⟩, Below.refl _ W⟩
  · obtain ⟨b, off, rfl, _, _, hc⟩ := hR.cells (by omega)
    subst hl1
    obtain ⟨v', w', hr, h3, h4⟩ := run_append_arg_grows (P := Try.prog) W 23 23 9 i0 _ 1 16 Try.underlying23 hi hz0 hz1 hz2 rfl (by decide) ⟨g, 0, none⟩ 0 0 [] rfl (fun j u hu => by simp at hu) ⟨b, off, none⟩ ss.length c (ss.map encStr) (by simp)
      (reads_cellsS hc) (by omega) (by unfold maxLen; omega) (by omega)
    rw [Nat.zero_add, List.nil_append] at h3
    have hne : ¬ v' = .slice none 0 0 := fun e => by
      subst e
      rcases h3.2 with ⟨_, e⟩ | ⟨g', c', cur, e, _⟩
      · exact h0 e
      · cases e
    obtain ⟨g', cap, rfl, hn, hg⟩ := row_form h3 hne
    exact ⟨_, w', hr, ⟨g', cap, rfl, hn, ⟨h3.1, h3.2.imp id (fun ⟨g, c, cur, e, h, r⟩ => ⟨g, c, cur, e, Nat.le_trans hb h, r⟩)⟩⟩, (Below.refl W.heap.size W).grown h4 (Nat.le_refl _) (fun r e => by cases e)⟩
theorem rowS_append {base : Nat} {xs ss : List (List UInt8)} {v : Value} {W : World} (h : RowS base xs v W) {K : Nat → Prop} {a : Option Addr} {n c : Nat} (hR : RdS K W a n c ss) (hb : base ≤ W.heap.size) (hl : xs.length + n ≤ 100000000) :
    ∃ v' w', (Builtin.append_ #[23, 23] 23 #[v, .slice a n c]).run Try.prog W = .ok v' w' ∧ RowS base (xs ++ ss) v' w' ∧ Below base W w' := by
  obtain ⟨i0, hi, hz0, hz1, hz2⟩ := info_parts Try.infoS5
  obtain ⟨g, cp, rfl, hf, h2⟩ := h
  have hbg : base ≤ g := by
    obtain ⟨g', c', e, _, h⟩ := row_form h2 (by simp)
    cases e; exact h
  obtain ⟨g2, c2, w2, hr, h3, h4, h5, h6⟩ := run_append_strs (P := Try.prog) W base 23 23 9 i0 _ Try.underlying23 hi hz0 hz1 hz2 rfl g xs.length cp (xs.map encStr) h2 a n c ss hR (by omega) hb
  have hl2 : xs.length + n = (xs ++ ss).length := by rw [List.length_append, hR.hl]
  rw [hl2] at hr h3 h5
  rw [← List.map_append] at h3
  exact ⟨_, w2, hr, ⟨g2, c2, rfl, h5, h3⟩, (Below.refl base W).grown h4 hb (fun r e => by cases e; exact hbg)⟩

/-- An append whose run is known, which writes nothing that there was. -/
theorem step_appendS {P : Program} {ops : Array Oper} {Q : Exit → Act → World → Prop} {φ : Fact} {o : Oper} {a : Act} {W : World} (hw : Region.wanted o (yielded ops a.tmps) = true) (s x : Operand) (t tn : TypeId)
    (ho : o.op = .call { callee := .builtin .append, args := #[s, x], argTypes := #[t, tn] }) {vs vx : Value} (hs : a.eval s = vs) (hx : a.eval x = vx)
    {v' : Value} {w' : World} (hr : (Builtin.append_ #[t, tn] o.type #[vs, vx]).run P W = .ok v' w') (hb : Below W.heap.size W w') (hv : φ v' w') : StepOk P ops Q φ o a W := by
  unfold StepOk
  rw [if_pos hw]
  unfold Oper.wp
  simp [execOp, ho, resolve, invoke, builtin, hs, hx, hr, Result.andThen]
  exact ⟨v', rfl, hb, hv⟩

section
variable {P : Program} {K : Nat → Prop} {W : World} {p : Option Addr} {len cap : Nat} {ss : List (List UInt8)}
theorem cutS_low (t : TypeId) (ht : P.underlying t = some (.slice (P.elem t))) (hs : ∀ w, (sizeOf (P.elem t)).run P w = .ok 1 w) (hR : RdS K W p len cap ss) (k : Nat) (hk : k ≤ len) :
    ∃ p' c', (∀ W' : World, (Instr.sliceAt t (.slice p len cap) none (some (.int .i64 (k : Int))) none).run P W' = .ok (.slice p' k c') W') ∧ RdS K W p' k c' (ss.take k) := by
  have hl := hR.hl
  have hf := hR.fit
  refine ⟨if cap = 0 then p else p.map (·.add (0 * 1)), cap - 0, fun W' => ?_, ?_⟩
  · rw [run_sliceAt_slice (P := P) W' t _ _ _ _ ht, run_slice_h (P := P) W' t p len cap ht .i64 (k : Int) (by omega) (by omega), hs W']
    simp [Result.andThen, sliced]
  · refine ⟨by rw [List.length_take]; omega, by omega, hR.top, by have := hR.small; omega, fun s hs => hR.wide s (List.mem_of_mem_take hs), fun h0 => ?_⟩
    obtain ⟨b, off, rfl, hb, hlt, hcell⟩ := hR.cells (by omega)
    refine ⟨b, off, by split <;> simp [Addr.add], hb, hlt, fun j hj => ?_⟩
    rw [List.getElem?_take_of_lt hj]
    exact hcell j (by omega)
theorem cutS_high (t : TypeId) (ht : P.underlying t = some (.slice (P.elem t))) (hs : ∀ w, (sizeOf (P.elem t)).run P w = .ok 1 w) (hR : RdS K W p len cap ss) (k : Nat) (hk : k ≤ len) :
    ∃ p' c', (∀ W' : World, (Instr.sliceAt t (.slice p len cap) (some (.int .i64 (k : Int))) none none).run P W' = .ok (.slice p' (len - k) c') W') ∧ RdS K W p' (len - k) c' (ss.drop k) := by
  have hl := hR.hl
  have hf := hR.fit
  refine ⟨if cap = k then p else p.map (·.add (k * 1)), cap - k, fun W' => ?_, ?_⟩
  · rw [run_sliceAt_slice (P := P) W' t _ _ _ _ ht, run_slice_l (P := P) W' t p len cap ht .i64 (k : Int) (by omega) (by omega), hs W']
    simp [Result.andThen, sliced]
  · refine ⟨by rw [List.length_drop]; omega, by omega, by have := hR.top; omega, by have := hR.small; omega, fun s hs => hR.wide s (List.mem_of_mem_drop hs), fun h0 => ?_⟩
    obtain ⟨b, off, rfl, hb, hlt, hcell⟩ := hR.cells (by omega)
    rw [if_neg (by omega)]
    refine ⟨b, off + k, ?_, hb, hlt, fun j hj => ?_⟩
    · by_cases h0 : k = 0
      · simp [Addr.add, h0]
      · simp [Addr.add, h0]
    · rw [List.getElem?_drop, show off + k + j = off + (k + j) by omega]
      exact hcell (k + j) (by omega)
end

end Go.Proofs.Ytdcapmbgnoahpaa
