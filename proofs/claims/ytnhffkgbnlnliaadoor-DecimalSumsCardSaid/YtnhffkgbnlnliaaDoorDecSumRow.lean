/-
  What the walk of the sums wants beside the contracts: parts of a list, rows of the region's own, a variable's store, a region's end.
-/
import Derived.Test.YtnhffkgbnlnliaaDoorDecEx2
import Derived.Test.YtnhffkgbnlnliaaDoorDecSumMath
import Derived.Test.YtnhffkgbnlnliaaDoorRegVars
import Derived.Lib.QuietBelow
namespace Go.Proofs.YtnhffkgbnlnliaaDoor.De
open Go Go.RowKit Go.Shelf Go.Sort Go.ChangeShapes Go.WideShapes Go.ChangeAt

/-- Behind a region that is left in the ordinary way: its slots hold whatever they hold, but for one. -/
theorem through {P : Program} {c : Code} {Q : Exit → Act → World → Prop} {a : Act} {w : World} (D : List Nat) (t : Nat) (v : Value)
    (h1 : c.wp P (fun e a' w' => e = .normal ∧ Below w.heap.size w w' ∧ ∃ ev : Nat → Value, ev t = v ∧ a' = putAll ev D a) a w)
    (h2 : ∀ ev w', ev t = v → Below w.heap.size w w' → Q .normal (putAll ev D a) w') : c.wp P Q a w :=
  Code.wp_mono (fun e a' w' ⟨he, hb, ev, h, ha⟩ => by subst he; subst ha; exact h2 ev w' h hb) h1
theorem shown {D : List Nat} {t : Nat} {v : Value} {a a' : Act} {w w' : World} (hb : Below w.heap.size w w') (h1 : a'.eval (.tmp t) = v) (h2 : a' = putAll (fun t => a'.eval (.tmp t)) D a) :
    Exit.normal = .normal ∧ Below w.heap.size w w' ∧ ∃ ev : Nat → Value, ev t = v ∧ a' = putAll ev D a := ⟨rfl, hb, _, h1, h2⟩

theorem row_below {A B : World} {base : Nat} {e : TypeId} {size : Nat} {v : Value} {n : Nat} {xs : List Value} (h : A.ownsRow base e size v n xs) (hb : Below A.heap.size A B) : B.ownsRow base e size v n xs := by
  refine ⟨h.1, ?_⟩
  rcases h.2 with h | ⟨g, cap, cur, h1, h2, h3, h4⟩
  · exact .inl h
  · exact .inr ⟨g, cap, cur, h1, h2, (hb.block g (Array.getElem?_eq_some_iff.1 h3).1).trans h3, h4⟩

/-! ### Parts of a list -/
section
variable {P : Program} {K : Nat → Prop} {W : World} {p : Option Addr} {len cap : Nat} {zs : List Int}
theorem cut_low (t : TypeId) (ht : P.underlying t = some (.slice (P.elem t))) (hs : ∀ w, (sizeOf (P.elem t)).run P w = .ok 1 w) (hR : ReadsK K W .i64 (.slice p len cap) zs) (hlen : len = zs.length) (hc : len ≤ cap) (k : Nat) (hk : k ≤ len) :
    ∃ p' c', (∀ W' : World, (Instr.sliceAt t (.slice p len cap) none (some (.int .i64 (k : Int))) none).run P W' = .ok (.slice p' k c') W') ∧ ReadsK K W .i64 (.slice p' k c') (zs.take k) := by
  refine ⟨if cap = 0 then p else p.map (·.add (0 * 1)), cap - 0, fun W' => ?_, ?_⟩
  · rw [run_sliceAt_slice (P := P) W' t _ _ _ _ ht, run_slice_h (P := P) W' t p len cap ht .i64 (k : Int) (by omega) (by omega), hs W']
    simp [Result.andThen, sliced]
  · rcases hR with ⟨a, c, e, rfl⟩ | ⟨b, off, c, e, hb, hlt, hcell⟩
    · cases e
      obtain rfl : k = 0 := by simp at hlen; omega
      exact .inl ⟨_, _, rfl, by simp⟩
    · obtain rfl : p = some ⟨b, off, none⟩ := by cases e; rfl
      have e2 : (if cap = 0 then (some ⟨b, off, none⟩ : Option Addr) else (some (⟨b, off, none⟩ : Addr)).map (·.add (0 * 1))) = some ⟨b, off, none⟩ := by
        split <;> simp [Addr.add]
      rw [e2]
      refine .inr ⟨b, off, cap - 0, by rw [List.length_take, Nat.min_eq_left (by omega)], hb, hlt, fun j hj => ?_⟩
      rw [List.length_take] at hj
      rw [hcell j (by omega), List.getElem?_take_of_lt (by omega)]
theorem cut_high (t : TypeId) (ht : P.underlying t = some (.slice (P.elem t))) (hs : ∀ w, (sizeOf (P.elem t)).run P w = .ok 1 w) (hR : ReadsK K W .i64 (.slice p len cap) zs) (hlen : len = zs.length) (hc : len ≤ cap) (k : Nat) (hk : k ≤ len) :
    ∃ p' c', (∀ W' : World, (Instr.sliceAt t (.slice p len cap) (some (.int .i64 (k : Int))) none none).run P W' = .ok (.slice p' (len - k) c') W') ∧ ReadsK K W .i64 (.slice p' (len - k) c') (zs.drop k) := by
  refine ⟨if cap = k then p else p.map (·.add (k * 1)), cap - k, fun W' => ?_, ?_⟩
  · rw [run_sliceAt_slice (P := P) W' t _ _ _ _ ht, run_slice_l (P := P) W' t p len cap ht .i64 (k : Int) (by omega) (by omega), hs W']
    simp [Result.andThen, sliced]
  · rcases hR with ⟨a, c, e, rfl⟩ | ⟨b, off, c, e, hb, hlt, hcell⟩
    · cases e
      obtain rfl : k = 0 := by simp at hlen; omega
      exact .inl ⟨_, _, rfl, by simp⟩
    · obtain rfl : p = some ⟨b, off, none⟩ := by cases e; rfl
      by_cases hck : cap = k
      · have : len - k = 0 := by omega
        rw [this]
        exact .inl ⟨_, _, rfl, List.drop_eq_nil_of_le (by omega)⟩
      · rw [if_neg hck]
        have e2 : (some (⟨b, off, none⟩ : Addr)).map (·.add (k * 1)) = some ⟨b, off + k, none⟩ := by
          by_cases h0 : k = 0
          · simp [Addr.add, h0]
          · simp [Addr.add, h0]
        rw [e2]
        refine .inr ⟨b, off + k, cap - k, by rw [List.length_drop, hlen], hb, hlt, fun j hj => ?_⟩
        rw [List.length_drop] at hj
        rw [List.getElem?_drop, show off + k + j = off + (k + j) by omega, hcell (k + j) (by omega)]
end

/-! ### A variable's store -/
theorem puts_two {W : World} {B : Nat} {a b x y : Value} {ty : TypeId} (h : W.heap[B]? = some (.cells #[a, b] ty (0, 0))) : Puts W B #[x, y] ty ((W.setCell ⟨B, 0, none⟩ x).setCell ⟨B, 1, none⟩ y) := by
  refine ⟨rfl, rfl, rfl, by simp [World.setCell], ?_, fun c hc => ?_⟩
  · simp only [World.setCell, Array.getElem?_modify]
    simp [h]
  · simp only [World.setCell, Array.getElem?_modify]
    rw [if_neg (fun e => hc e.symm), if_neg (fun e => hc e.symm)]

/-! ### Rows of integers of the region's own -/
theorem Tryd.infoI : (Tryd.prog.info? 3).map (fun i => (i.zero, i.size, i.bytes)) = some (some (.int .i64 0), 1, 8) := by kernel_rfl
def RowI (base : Nat) (zs : List Int) : Fact := fun v W => ∃ g c : Nat, v = .slice (some ⟨g, 0, none⟩) zs.length c ∧ zs.length ≤ c ∧ W.ownsRow base 3 1 (.slice (some ⟨g, 0, none⟩) zs.length c) zs.length (zs.map (Value.int .i64))
theorem rowI_stable (base : Nat) (zs : List Int) : (RowI base zs).Stable := fun _ _ _ ⟨g, c, e, h1, h2⟩ hb => ⟨g, c, e, h1, row_below h2 hb⟩
theorem rowI_new (W : World) (base : Nat) (hb : base ≤ W.heap.size) : RowI base [] (.slice (some ⟨W.heap.size, 0, none⟩) 0 0) (W.alloc (.cells #[] 3)) :=
  ⟨_, _, rfl, Nat.le_refl _, World.ownsRow_made W (base := base) (e := 3) (size := 1) #[] 0 hb (by decide) rfl⟩
theorem rowI_reads {base : Nat} {zs : List Int} {v : Value} {W : World} (h : RowI base zs v W) : ∃ g c : Nat, v = .slice (some ⟨g, 0, none⟩) zs.length c ∧ ReadsK (fun b => b < W.heap.size) W .i64 (.slice (some ⟨g, 0, none⟩) zs.length c) zs := by
  obtain ⟨g, c, e, _, h2⟩ := h
  exact ⟨g, c, e, row_reads rfl h2⟩
/-- A row of the region's own that holds nothing, with no room. -/
def Row0 (base : Nat) : Fact := fun v W => ∃ g : Nat, v = .slice (some ⟨g, 0, none⟩) 0 0 ∧ W.ownsRow base 3 1 (.slice (some ⟨g, 0, none⟩) 0 0) 0 []
theorem row0_stable (base : Nat) : (Row0 base).Stable := fun _ _ _ ⟨g, e, h⟩ hb => ⟨g, e, row_below h hb⟩
theorem row0_new (W : World) (base : Nat) (hb : base ≤ W.heap.size) : Row0 base (.slice (some ⟨W.heap.size, 0, none⟩) 0 0) (W.alloc (.cells #[] 3)) :=
  ⟨_, rfl, World.ownsRow_made W (base := base) (e := 3) (size := 1) #[] 0 hb (by decide) rfl⟩
/-- A slice that reads as integers, behind that row: nothing is written. -/
theorem row0_append {base : Nat} {ys : List Int} {v : Value} {W : World} (h : Row0 base v W) {K : Nat → Prop} {sv : Value} (hR : ReadsK K W .i64 sv ys) (hb : base ≤ W.heap.size) (hl : ys.length ≤ 100000000) :
    ∃ v' w', (Builtin.append_ #[22, 22] 22 #[v, sv]).run Tryd.prog W = .ok v' w' ∧ RowI base ys v' w' ∧ Below W.heap.size W w' := by
  obtain ⟨i0, hi, hz0, hz1, hz2⟩ := info_parts Tryd.infoI
  obtain ⟨g, rfl, h2⟩ := h
  by_cases h0 : ys.length = 0
  · obtain rfl : ys = [] := List.eq_nil_of_length_eq_zero h0
    have : ∃ a c, sv = .slice a 0 c := by
      rcases hR with ⟨a, c2, rfl, _⟩ | ⟨b, off, c2, rfl, _⟩
      · exact ⟨_, _, rfl⟩
      · exact ⟨_, _, rfl⟩
    obtain ⟨a, c, rfl⟩ := this
    exact ⟨_, W, run_append_empty W 22 22 3 i0 Tryd.underlying22 hi _ 0 0 (Nat.le_refl _) a c, ⟨g, 0, rfl, Nat.le_refl _, h2⟩, Below.refl _ W⟩
  · rcases hR with ⟨a, c2, _, rfl⟩ | ⟨b, off, c2, rfl, _, _, hc⟩
    · exact absurd rfl h0
    · obtain ⟨v', w', hr, h3, h4⟩ := run_append_arg_grows (P := Tryd.prog) W 22 22 3 i0 _ 1 8 Tryd.underlying22 hi hz0 hz1 hz2 rfl (by decide) ⟨g, 0, none⟩ 0 0 [] rfl (fun j u hu => by simp at hu) ⟨b, off, none⟩ ys.length c2 (ys.map (Value.int .i64)) (by simp)
        (fun j u hu => by
          rw [List.getElem?_map] at hu
          cases hj : ys[j]? with
          | none => rw [hj] at hu; cases hu
          | some x =>
            rw [hj] at hu
            have hlt := (List.getElem?_eq_some_iff.1 hj).1
            have := hc j hlt
            rw [hj] at this
            rw [add_plain, this]
            exact hu)
        (by omega) (by unfold maxLen; omega) (by omega)
      rw [Nat.zero_add, List.nil_append] at h3
      have hne : ¬ v' = .slice none 0 0 := fun e => by
        subst e
        rcases h3.2 with ⟨_, e⟩ | ⟨g', c', cur, e, _⟩
        · exact h0 e
        · cases e
      obtain ⟨g', cap, rfl, hn, hg⟩ := row_form h3 hne
      refine ⟨_, w', hr, ⟨g', cap, rfl, hn, ⟨h3.1, h3.2.imp id (fun ⟨g, c, cur, e, h, r⟩ => ⟨g, c, cur, e, Nat.le_trans hb h, r⟩)⟩⟩, (Below.refl W.heap.size W).grown h4 (Nat.le_refl _) (fun r e => by cases e)⟩
/-- A slice that reads as integers, behind a row of the region's own. -/
theorem rowI_append {base : Nat} {zs ys : List Int} {v : Value} {W : World} (h : RowI base zs v W) {K : Nat → Prop} {sv : Value} (hR : ReadsK K W .i64 sv ys) (hb : base ≤ W.heap.size) (hl : zs.length + ys.length ≤ 100000000) :
    ∃ v' w', (Builtin.append_ #[22, 22] 22 #[v, sv]).run Tryd.prog W = .ok v' w' ∧ RowI base (zs ++ ys) v' w' ∧ Below base W w' := by
  obtain ⟨i0, hi, hz0, hz1, hz2⟩ := info_parts Tryd.infoI
  obtain ⟨g, c, rfl, h1, h2⟩ := h
  have hbg : base ≤ g := by
    obtain ⟨g', c', e, _, h⟩ := row_form h2 (by simp)
    cases e; exact h
  rcases hR with ⟨a, c2, rfl, rfl⟩ | ⟨b, off, c2, rfl, _, _, hc⟩
  · exact ⟨_, W, run_append_empty W 22 22 3 i0 Tryd.underlying22 hi _ zs.length c h1 a c2, by rw [List.append_nil]; exact ⟨g, c, rfl, h1, h2⟩, Below.refl base W⟩
  · obtain ⟨v', w', hr, h3, h4, h5⟩ := run_append_own (P := Tryd.prog) W base 22 22 3 i0 _ 1 8 Tryd.underlying22 hi hz0 hz1 hz2 rfl (by decide) _ zs.length (zs.map (Value.int .i64)) h2 ⟨b, off, none⟩ ys.length c2 (ys.map (Value.int .i64)) (by simp)
      (fun j u hu => by
        rw [List.getElem?_map] at hu
        cases hj : ys[j]? with
        | none => rw [hj] at hu; cases hu
        | some x =>
          rw [hj] at hu
          have hlt := (List.getElem?_eq_some_iff.1 hj).1
          have := hc j hlt
          rw [hj] at this
          rw [add_plain, this]
          exact hu)
      (fun u hu => by obtain ⟨x, _, rfl⟩ := List.mem_map.1 hu; rfl) (by unfold maxLen; omega) (by omega) hb
    have hne : ¬ v' = .slice none 0 0 := fun e => by have := (h5.1 e).1; cases this
    obtain ⟨g', cap, rfl, hn, _⟩ := row_form h3 hne
    have hl2 : zs.length + ys.length = (zs ++ ys).length := List.length_append.symm
    rw [hl2] at hr h3 hn
    rw [← List.map_append] at h3
    exact ⟨_, w', hr, ⟨g', cap, rfl, hn, h3⟩, (Below.refl base W).grown h4 hb (fun r e => by cases e; exact hbg)⟩

/-- A store of two cells. -/
theorem store_two {Q : Exit → Act → World → Prop} {o : Oper} {a : Act} {W : World} {B : Nat} {s1 s2 : Nat} {x y c d : Int} {ty : TypeId} (ho : o.op = .store 26 (.tmp s1) (.tmp s2)) (hd : o.dst = none) (hp : a.eval (.tmp s1) = .pointer (some ⟨B, 0, none⟩)) (hx : a.eval (.tmp s2) = .agg #[.int .i64 x, .int .i64 y])
    (hk : W.heap[B]? = some (.cells #[.int .i64 c, .int .i64 d] ty (0, 0))) : o.wp Tryd.prog a W (fun a' W' => a' = a ∧ Puts W B #[.int .i64 x, .int .i64 y] ty W') Q := by
  have c0 := Joins.cell_of_block hk 0
  have c1 := Joins.cell_of_block hk 1
  have g0 := Joins.unfrozen_of_block hk 0
  have g1 := Joins.unfrozen_of_block hk 1
  simp only [List.getElem?_toArray, List.getElem?_cons_zero] at c0
  simp only [List.getElem?_toArray, List.getElem?_cons_zero, List.getElem?_cons_succ] at c1
  unfold Oper.wp
  simp [execOp, ho, go_sem, tm hp, tm hx, c0, c1, g0, g1, Oper.upon, hd]
  exact puts_two hk

/-- An append whose run is known, which writes nothing that there was. -/
theorem step_append {P : Program} {ops : Array Oper} {Q : Exit → Act → World → Prop} {φ : Fact} {o : Oper} {a : Act} {W : World} (hw : Region.wanted o (yielded ops a.tmps) = true) (s x : Operand) (t tn : TypeId)
    (ho : o.op = .call { callee := .builtin .append, args := #[s, x], argTypes := #[t, tn] }) {vs vx : Value} (hs : a.eval s = vs) (hx : a.eval x = vx)
    {v' : Value} {w' : World} (hr : (Builtin.append_ #[t, tn] o.type #[vs, vx]).run P W = .ok v' w') (hb : Below W.heap.size W w') (hv : φ v' w') : StepOk P ops Q φ o a W := by
  unfold StepOk
  rw [if_pos hw]
  unfold Oper.wp
  simp [execOp, ho, resolve, invoke, builtin, hs, hx, hr, Result.andThen]
  exact ⟨v', rfl, hb, hv⟩
/-- The law's own sum, at a list that a world behind still reads. -/
theorem sum_at {K : Nat → Prop} {W V : World} {sv : Value} {zs : List Int} {u1 u2 : Int} (hR : ReadsK K W .i64 sv zs) (hb : Below W.heap.size W V) (hl : zs.length ≤ 1000000) (hz : ∀ z ∈ zs, I64 z) (hu : sumS zs = (u1, u2)) :
    Calls Tryd.prog 7 #[sv] V fun e w' => ∃ v, e = .returned v ∧ Fact.is (.agg #[.int .i64 u1, .int .i64 u2]) v w' ∧ Below V.heap.size V w' :=
  (lsum_any sv zs hl hz V (ReadsK.mono (K' := fun b => b < V.heap.size) (hR.below hb) fun _ h _ => h)).mono fun e w' ⟨he, hb⟩ => by
    rw [hu] at he; exact ⟨_, he, rfl, hb⟩
theorem sum_grown {K : Nat → Prop} {W : World} {sv : Value} {zs : List Int} {u1 u2 : Int} (hR : ReadsK K W .i64 sv zs) (hl : zs.length ≤ 1000000) (hz : ∀ z ∈ zs, I64 z) (hu : sumS zs = (u1, u2)) (d : Nat) (os : Array Obj) :
    Calls Tryd.prog 7 #[sv] (grow (redrawn W d) os) fun e w' => e = .returned (.agg #[.int .i64 u1, .int .i64 u2]) ∧ Below (grow (redrawn W d) os).heap.size (grow (redrawn W d) os) w' := by
  have := lsum_any sv zs hl hz (grow (redrawn W d) os) (ReadsK.mono (K' := fun b => b < (grow (redrawn W d) os).heap.size) (hR.below (below_regrown W d os)) fun _ h _ => h)
  rw [hu] at this; exact this
/-- What a slice of integers reads as, as a fact. -/
def RdI (zs : List Int) : Fact := fun v W => ∃ g n c : Nat, v = .slice (some ⟨g, 0, none⟩) n c ∧ ReadsK (fun b => b < W.heap.size) W .i64 (.slice (some ⟨g, 0, none⟩) n c) zs
theorem rdI_stable (zs : List Int) : (RdI zs).Stable := fun _ _ _ ⟨g, n, c, e, r⟩ hb => ⟨g, n, c, e, (r.below hb).mono fun _ h _ => h⟩
theorem rdI_new (W : World) (zs : List Int) : RdI zs (.slice (some ⟨W.heap.size, 0, none⟩) zs.length zs.length) (W.alloc (.cells (zs.map (Value.int .i64)).toArray 3)) := ⟨_, _, _, rfl, reads_new W zs 3⟩

end Go.Proofs.YtnhffkgbnlnliaaDoor.De
