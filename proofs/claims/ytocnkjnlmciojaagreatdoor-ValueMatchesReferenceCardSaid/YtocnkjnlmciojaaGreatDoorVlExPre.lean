/-
  Fixed calls, whose results the document determines, come out true: what each gives.
-/
import Derived.Test.YtocnkjnlmciojaaGreatDoorVlWrap
import Derived.Test.YtocnkjnlmciojaaGreatDoorVlConcat
import Derived.Test.YtocnkjnlmciojaaGreatDoorVlHas
import Derived.Test.YtocnkjnlmciojaaGreatDoorRegFacts
namespace Go.Proofs.YtocnkjnlmciojaaGreatDoor
open Go Go.RowKit Go.Shelf Go.ChangeShapes Go.WideShapes Go.ChangeAt

theorem act_lit (a : Act) (n : Nat) (h : a.tmps.size = n) : a = ⟨((List.range n).map fun t => a.eval (.tmp t)).toArray, a.defers⟩ := by
  obtain ⟨tm, ds⟩ := a
  subst h
  congr 1
  apply Array.ext
  · simp
  · intro i h1 h2
    simp only [Act.eval, List.getElem_toArray, List.getElem_map, List.getElem_range]
    rw [Array.getD_eq_getD_getElem?, Array.getElem?_eq_getElem h1]; rfl
theorem run_v {P : Program} {s : Sem Value} {v : Value} {W : World} (h : s.run P W = .ok v W) : (do pure (Next.value (← s)) : Sem Next).run P W = .ok (.value v) W := by simp [h]
/-! ### Facts on slices -/

def SlRd (zs : List Int) : Fact := fun v W => ∃ g n c : Nat, v = .slice (some ⟨g, 0, none⟩) n c ∧ Rd (fun _ => True) W .u8 (some ⟨g, 0, none⟩) n c zs
theorem slrd_stable (zs : List Int) : (SlRd zs).Stable := fun _ _ _ ⟨g, n, c, e, r⟩ hb => ⟨g, n, c, e, r.below hb⟩
def SlV (vs : List Vl) : Fact := fun v W => ∃ g n c : Nat, v = .slice (some ⟨g, 0, none⟩) n c ∧ RdV (fun _ => True) W (some ⟨g, 0, none⟩) n c vs
theorem slv_stable (vs : List Vl) : (SlV vs).Stable := fun _ _ _ ⟨g, n, c, e, r⟩ hb => ⟨g, n, c, e, r.below hb⟩
theorem slrd_new (W : World) (zs : List Int) (h : zs.length ≤ 1000 := by decide) : SlRd zs (.slice (some ⟨W.heap.size, 0, none⟩) zs.length zs.length) (W.alloc (.cells (zs.map (Value.int .u8)).toArray 5)) :=
  ⟨_, _, _, rfl, (Rd.of_row rfl (Nat.le_refl _) (by omega) (own_new W 5 .u8 zs zs.length W.heap.size rfl (by omega) (Nat.le_refl _))).mono fun _ _ _ => trivial⟩
theorem slv_new (W : World) (vs : List Vl) (h : vs.length ≤ 1000) : SlV vs (.slice (some ⟨W.heap.size, 0, none⟩) vs.length vs.length) (W.alloc (.cells (cellsV vs).toArray 45)) := by
  have ho : (W.alloc (.cells (cellsV vs).toArray 45)).ownsRow W.heap.size 45 3 (.slice (some ⟨W.heap.size, 0, none⟩) vs.length vs.length) vs.length (cellsV vs) :=
    ⟨cellsV_len vs, .inr ⟨W.heap.size, vs.length, (cellsV vs).toArray, rfl, Nat.le_refl _, World.alloc_heap_new W _, Nat.le_refl _, by unfold maxLen; omega, by simp [cellsV_len], by rw [← cellsV_len]; exact List.take_length⟩⟩
  obtain ⟨a, cap, e, r⟩ := RdV.of_row ho (by omega)
  cases e
  exact ⟨_, _, _, rfl, r.mono fun _ _ _ => trivial⟩
theorem slrd_of {f : FuncId} {args : Array Value} {W : World} {zs ys : List Int} (h : Calls Tryz.prog f args W fun e w' => Makes W e w' zs) (he : zs = ys) (hl : zs.length ≤ 1000) : Calls Tryz.prog f args W fun e w' => ∃ v, e = .returned v ∧ SlRd ys v w' ∧ Below W.heap.size W w' :=
  h.mono fun e w' ⟨g, c, e1, h1, h2, h3⟩ => by
    subst he
    exact ⟨_, e1, ⟨g, _, c, rfl, (Rd.of_row rfl h1 (by omega) h2).mono fun _ _ _ => trivial⟩, h3⟩

def litB (v : Vl) : Bool := decide (v.k.natAbs ≤ 9223372036854775807 ∧ v.i.natAbs ≤ 9223372036854775807 ∧ v.s.length ≤ 1048576)
theorem ok_lit {v : Vl} (h1 : litB v = true) (_h2 : true = true) (_h3 : true = true) : v.Ok := by
  have h := of_decide_eq_true h1
  exact ⟨⟨by omega, by omega⟩, ⟨by omega, by omega⟩, h.2.2⟩

/-- A list that was read. -/
def GotL : Fact := fun v W => ∃ (a1 : Option Addr) (n1 c1 : Nat) (a2 : Option Addr) (n2 c2 : Nat), v = .agg #[.int .i64 0, .int .i64 0, .string ⟨#[]⟩, .slice a1 n1 c1, .slice a2 n2 c2, .int .i64 0] ∧ RdV (fun _ => True) W a1 n1 c1 [Vl.null] ∧ Rd (fun _ => True) W .u8 a2 n2 c2 [5]
theorem gotL_stable : GotL.Stable := fun _ _ _ ⟨a1, n1, c1, a2, n2, c2, e, r1, r2⟩ hb => ⟨a1, n1, c1, a2, n2, c2, e, r1.below hb, r2.below hb⟩

/-! ### The calls -/

theorem ex_cmpl : cmpL [⟨3, 0, [97, 34, 98]⟩] [⟨3, 0, [97, 34, 98]⟩, ⟨2, -500000, []⟩] = -1 := by decide +kernel
theorem ex_p1 : parsedV [45, 48, 46, 53] = (⟨2, -500000, []⟩, 0) := by
  have e1 : De.parseS [45, 48, 46, 53] 6 = (-500000, 0) := by decide +kernel
  have e2 : guessV [45, 48, 46, 53] = ⟨2, -500000, []⟩ := by
    unfold guessV
    rw [if_neg (by decide), if_neg (by decide), if_neg (by decide), if_neg (by decide), e1]
  unfold parsedV
  rw [if_pos (by decide +kernel), e2]
theorem ex_p2 : parsedV [45, 48, 46, 53, 48] = (Vl.null, 5) := by
  unfold parsedV
  rw [if_neg (by decide +kernel)]
theorem ex_parsed1 (W : World) (hV : De.Vars W) : Calls Tryz.prog 44 #[.string ⟨#[45, 48, 46, 53]⟩] W fun e w' => e = .returned (.agg #[.int .i64 2, .int .i64 (-500000), .string ⟨#[]⟩, .slice none 0 0, .slice none 0 0, .int .i64 0]) ∧ Below W.heap.size W w' := by
  have := parsedW_any [45, 48, 46, 53] (by decide) W hV
  rw [ex_p1] at this
  exact this
theorem ex_parsed2 (W : World) (hV : De.Vars W) : Calls Tryz.prog 44 #[.string ⟨#[45, 48, 46, 53, 48]⟩] W fun e w' => e = .returned (.agg #[.int .i64 0, .int .i64 0, .string ⟨#[]⟩, .slice none 0 0, .slice none 0 0, .int .i64 5]) ∧ Below W.heap.size W w' := by
  have := parsedW_any [45, 48, 46, 53, 48] (by decide) W hV
  rw [ex_p2] at this
  exact this
theorem ex_equal1 (W : World) : Calls Tryz.prog 43 #[.agg #[.int .i64 2, .int .i64 (-500000), .string ⟨#[]⟩, .slice none 0 0, .slice none 0 0, .int .i64 0], .agg #[.int .i64 2, .int .i64 (-500000), .string ⟨#[]⟩, .slice none 0 0, .slice none 0 0, .int .i64 0]] W fun e w' => e = .returned (.bool true) ∧ Below W.heap.size W w' :=
  equalG_true (K1 := fun _ => True) (K2 := fun _ => True) (K3 := fun _ => True) (K4 := fun _ => True) ⟨2, -500000, []⟩ 0 (RdV.empty (a := none)) (Rd.empty (a := none)) (RdV.empty (a := none)) (Rd.empty (a := none)) (fun v hv => by cases hv)
theorem ex_has (v : Vl) (hv : v.Ok) {b : Bool} (h : hasV ⟨2, 2, false⟩ v = b) (W : World) (hV : De.Vars W) : Calls Tryz.prog 34 #[.agg #[.int .i64 2, .int .i64 2, .bool false], encV v] W fun e w' => e = .returned (.bool b) ∧ Below W.heap.size W w' := by
  have := has_any ⟨2, 2, false⟩ v ⟨⟨by decide, by decide⟩, ⟨by decide, by decide⟩⟩ hv W hV
  rw [h] at this
  exact this
theorem ex_cmp (W : World) : Calls Tryz.prog 36 #[.agg #[.int .i64 0, .int .i64 0, .string ⟨#[]⟩], .agg #[.int .i64 1, .int .i64 0, .string ⟨#[]⟩]] W fun e w' => e = .returned (.int .i64 (-1)) ∧ Below W.heap.size W w' := by
  have := cmp_any Vl.null ⟨1, 0, []⟩ W
  rw [show cmpV Vl.null ⟨1, 0, []⟩ = -1 by decide +kernel] at this
  exact this
theorem ex_valid (W : World) : Calls Tryz.prog 30 #[.agg #[.int .i64 2, .int .i64 1000000000000001, .string ⟨#[]⟩]] W fun e w' => e = .returned (.bool false) ∧ Below W.heap.size W w' := by
  have := valid_any ⟨2, 1000000000000001, []⟩ (ok_lit (by decide +kernel) rfl rfl) W
  rw [show vldV ⟨2, 1000000000000001, []⟩ = false by decide +kernel] at this
  exact this
theorem ex_wide (W : World) : Calls Tryz.prog 32 #[.agg #[.int .i64 2, .int .i64 1000000000000001, .string ⟨#[]⟩]] W fun e w' => e = .returned (.bool true) ∧ Below W.heap.size W w' := by
  have := wide_any ⟨2, 1000000000000001, []⟩ (ok_lit (by decide +kernel) rfl rfl) W
  rw [show widV ⟨2, 1000000000000001, []⟩ = true by decide +kernel] at this
  exact this
theorem ex_type (W : World) : Calls Tryz.prog 46 #[.agg #[.int .i64 2, .int .i64 2, .bool false]] W fun e w' => e = .returned (.bool true) ∧ Below W.heap.size W w' :=
  validType_any ⟨2, 2, false⟩ W
theorem ex_rdl : rdL [1, 0, 5] = ([Vl.null], [5], 0) := by
  have h : rdS [1, 0, 5] = (1, 1, 0) := by decide +kernel
  unfold rdL
  rw [h]; rfl
theorem ex_readList {W : World} {g n c : Nat} (r : Rd (fun _ => True) W .u8 (some ⟨g, 0, none⟩) n c [1, 0, 5]) : Calls Tryz.prog 54 #[.slice (some ⟨g, 0, none⟩) n c] W fun e w' => ∃ v, e = .returned v ∧ GotL v w' ∧ Below W.heap.size W w' := by
  have r' : Rd (fun b => b < W.heap.size) W .u8 (some ⟨g, 0, none⟩) n c [1, 0, 5] := r.mono fun b hb _ => hb
  refine (readListW_any (fun x hx => by simp at hx; omega) r' (fun b hb => hb)).mono fun e w' ⟨hb, hp⟩ => ?_
  rw [ex_rdl] at hp
  rcases hp with ⟨_, a1, n1, c1, a2, m, he, h1, h2⟩ | ⟨h, _⟩
  · exact ⟨_, he, ⟨a1, n1, c1, a2, m, m, rfl, h1.mono fun _ _ _ => trivial, h2.mono fun _ _ _ => trivial⟩, hb⟩
  · exact absurd rfl h
theorem ex_text (v : Vl) (hv : v.Ok) (T : Array UInt8) (h : textV v = T.toList) (W : World) (hV : De.Vars W) : Calls Tryz.prog 38 #[encV v] W fun e w' => e = .returned (.string ⟨T⟩) ∧ Below W.heap.size W w' := by
  have := text_any v hv W hV
  rw [h, show bsOf T.toList = ⟨T⟩ by simp [bsOf]] at this
  exact this
theorem ex_num (n : Int) (W : World) : Calls Tryz.prog 80 #[.int .i64 n] W fun e w' => e = .returned (.agg #[.int .i64 2, .int .i64 n, .string ⟨#[]⟩]) ∧ Below W.heap.size W w' := rNum_any n W
theorem ex_null (W : World) : Calls Tryz.prog 82 #[] W fun e w' => e = .returned (.agg #[.int .i64 0, .int .i64 0, .string ⟨#[]⟩]) ∧ Below W.heap.size W w' := rNull_any W
theorem ex_true (W : World) : Calls Tryz.prog 83 #[.bool true] W fun e w' => e = .returned (.agg #[.int .i64 1, .int .i64 1, .string ⟨#[]⟩]) ∧ Below W.heap.size W w' := rBool_any true W
theorem bG0 (W : World) : (Instr.build 54 #[(0, .agg #[.int .i64 2, .int .i64 (-500000), .string ⟨#[]⟩])]).run Tryz.prog W = .ok (.agg #[.int .i64 2, .int .i64 (-500000), .string ⟨#[]⟩, .slice none 0 0, .slice none 0 0, .int .i64 0]) W := by kernel_rfl
theorem fG3 (W : World) : (Instr.field 54 (.agg #[.int .i64 0, .int .i64 0, .string ⟨#[]⟩, .slice none 0 0, .slice none 0 0, .int .i64 5]) 3).run Tryz.prog W = .ok (.int .i64 5) W := by kernel_rfl
theorem bV0 (W : World) : (Instr.build 45 #[]).run Tryz.prog W = .ok (.agg #[.int .i64 0, .int .i64 0, .string ⟨#[]⟩]) W := by kernel_rfl
theorem bG12 (W : World) (g n c g' n' c' : Nat) : (Instr.build 54 #[(1, .slice (some ⟨g, 0, none⟩) n c), (2, .slice (some ⟨g', 0, none⟩) n' c')]).run Tryz.prog W = .ok (.agg #[.int .i64 0, .int .i64 0, .string ⟨#[]⟩, .slice (some ⟨g, 0, none⟩) n c, .slice (some ⟨g', 0, none⟩) n' c', .int .i64 0]) W := by kernel_rfl

end Go.Proofs.YtocnkjnlmciojaaGreatDoor
