/-
  The head of a packed form; the packed form; its size.
-/
import Derived.Test.YtkfmgiacdlkmiaaPkZig
import Derived.Test.YtkfmgiacdlkmiaaPkElemsW
namespace Go.Proofs.Ytkfmgiacdlkmiaa
open Go.RowKit Go.Shelf Go.ChangeShapes Go.WideShapes Go.ChangeAt

/-- An append whose run is known, as a step of a region that draws its order. -/
theorem step_append_run {P : Program} {ops : Array Oper} {o : Oper} {a : Act} {w : World} {K : Act → World → Prop} {Q : Exit → Act → World → Prop} {E : Prop} (hgd : o.guard = none) (s x : Operand) (t tn : TypeId)
    (ho : o.op = .call { callee := .builtin .append, args := #[s, x], argTypes := #[t, tn] }) (vs vx : Value) (hs : a.eval s = vs) (hx : a.eval x = vx)
    (v' : Value) (w' : World) (hr : (Builtin.append_ #[t, tn] o.type #[vs, vx]).run P w = .ok v' w') (hK : K (a.put o.dst v') w') : if Region.wanted o (yielded ops a.tmps) = true then Oper.wp P o a w K Q else E := by
  have hw : Region.wanted o (yielded ops a.tmps) = true := by simp [Region.wanted, hgd]
  rw [if_pos hw]
  unfold Oper.wp
  simp [execOp, ho, resolve, invoke, builtin, hs, hx, hr, Result.andThen]
  exact hK

/-- A call whose contract is known, as a step of a region that draws its order. -/
theorem step_call_run {P : Program} {ops : Array Oper} {o : Oper} {a : Act} {w : World} {K : Act → World → Prop} {Q : Exit → Act → World → Prop} {E : Prop} (hgd : o.guard = none) (f : FuncId) (args : Array Operand) (ts : Array TypeId)
    (ho : o.op = .call { callee := .value (.func f), args := args, argTypes := ts }) (vals : Array Value) (hs : args.map a.eval = vals) (eg : (callFunc f vals).run P w = .ok (.enter f vals) w)
    (v : Value) (R : World → Prop) (hc : Calls P f vals w fun e w' => e = .returned v ∧ R w') (hK : ∀ w', R w' → K (a.put o.dst v) w') : if Region.wanted o (yielded ops a.tmps) = true then Oper.wp P o a w K Q else E := by
  have hw : Region.wanted o (yielded ops a.tmps) = true := by simp [Region.wanted, hgd]
  rw [if_pos hw]
  unfold Oper.wp
  simp [execOp, ho, resolve, invoke, hs, eg, go_sem]
  exact hc.mono fun e w' ⟨he, hr⟩ => by subst he; exact hK w' hr

/-- A struct of two cells in a block of its own. -/
def Pair (W : World) (B : Nat) (t : TypeId) (a b : Value) : Prop := W.heap[B]? = some (.cells #[a, b] t (0, 0))
theorem Pair.lt {W : World} {B : Nat} {t : TypeId} {a b : Value} (h : Pair W B t a b) : B < W.heap.size := (Array.getElem?_eq_some_iff.1 h).1
theorem Pair.c0 {W : World} {B : Nat} {t : TypeId} {a b : Value} (h : Pair W B t a b) : W.cell? ⟨B, 0, none⟩ = some a := by simp [World.cell?, show W.heap[B]? = _ from h]
theorem Pair.c1 {W : World} {B : Nat} {t : TypeId} {a b : Value} (h : Pair W B t a b) : W.cell? ⟨B, 1, none⟩ = some b := by simp [World.cell?, show W.heap[B]? = _ from h]
theorem Pair.f {W : World} {B : Nat} {t : TypeId} {a b : Value} (h : Pair W B t a b) (o : Nat) : W.frozen? ⟨B, o, none⟩ = false := by simp [World.frozen?, show W.heap[B]? = _ from h]
theorem Pair.new (W : World) (t : TypeId) (a b : Value) : Pair (W.alloc (.cells #[a, b] t)) W.heap.size t a b := World.alloc_heap_new W _
theorem Pair.below {W V : World} {B n : Nat} {t : TypeId} {a b : Value} (h : Pair W B t a b) (hb : Below n W V) (hn : B < n) : Pair V B t a b := (hb.block B hn).trans h
theorem Pair.alloc {W : World} {B : Nat} {t : TypeId} {a b : Value} (h : Pair W B t a b) (o : Obj) : Pair (W.alloc o) B t a b := (Below.heap_alloc _ _ _ h.lt).trans h

/-- What makes a row of bytes and a frame gives back. -/
def MakesF (w : World) (b wd : Int) (zs : List Int) (e : Ending) (w' : World) : Prop :=
  ∃ g c : Nat, e = .returned (.tuple #[.slice (some ⟨g, 0, none⟩) zs.length c, .agg #[.int .i64 b, .int .i64 wd]]) ∧ zs.length ≤ c ∧
    w'.ownsRow w.heap.size 5 1 (.slice (some ⟨g, 0, none⟩) zs.length c) zs.length (zs.map (Value.int .u8)) ∧ Below w.heap.size w w'

theorem varint_nil (u : Nat) (hu2 : u < 18446744073709551616) (W : World) :
    Calls Try.prog 29 #[.slice none 0 0, .int .u64 u] W fun e W' => Makes W e W' (varN u) :=
  varint_any (fun _ => True) none 0 0 [] u hu2 W Rd.empty (by decide)

theorem foldl_min (zs : List Int) : ∀ a : Int, zs.foldl min a ≤ a ∧ (∀ z ∈ zs, zs.foldl min a ≤ z) ∧ (zs.foldl min a = a ∨ zs.foldl min a ∈ zs) := by
  induction zs with
  | nil => intro a; simp
  | cons y r ih =>
    intro a
    obtain ⟨h1, h2, h3⟩ := ih (min a y)
    rw [List.foldl_cons]
    refine ⟨by omega, fun z hz => ?_, ?_⟩
    · rcases List.mem_cons.1 hz with rfl | hz
      · omega
      · exact h2 z hz
    · rcases h3 with h3 | h3
      · by_cases hay : a ≤ y
        · left; rw [h3]; omega
        · right; rw [h3, show min a y = y by omega]; exact List.mem_cons_self ..
      · right; exact List.mem_cons_of_mem _ h3
theorem foldl_max (zs : List Int) : ∀ a : Int, a ≤ zs.foldl max a ∧ (∀ z ∈ zs, z ≤ zs.foldl max a) ∧ (zs.foldl max a = a ∨ zs.foldl max a ∈ zs) := by
  induction zs with
  | nil => intro a; simp
  | cons y r ih =>
    intro a
    obtain ⟨h1, h2, h3⟩ := ih (max a y)
    rw [List.foldl_cons]
    refine ⟨by omega, fun z hz => ?_, ?_⟩
    · rcases List.mem_cons.1 hz with rfl | hz
      · omega
      · exact h2 z hz
    · rcases h3 with h3 | h3
      · by_cases hay : y ≤ a
        · left; rw [h3]; omega
        · right; rw [h3, show max a y = y by omega]; exact List.mem_cons_self ..
      · right; exact List.mem_cons_of_mem _ h3

theorem min_mem (zs : List Int) (h : zs ≠ []) : minS zs ∈ zs := by
  unfold minS Lib.minOf
  rcases (foldl_min zs (zs.headD 0)).2.2 with h1 | h1
  · rw [h1]; cases zs with
    | nil => exact absurd rfl h
    | cons y r => exact List.mem_cons_self ..
  · exact h1
theorem max_mem (zs : List Int) (h : zs ≠ []) : maxS zs ∈ zs := by
  unfold maxS Lib.maxOf
  rcases (foldl_max zs (zs.headD 0)).2.2 with h1 | h1
  · rw [h1]; cases zs with
    | nil => exact absurd rfl h
    | cons y r => exact List.mem_cons_self ..
  · exact h1
theorem min_le (zs : List Int) (z : Int) (h : z ∈ zs) : minS zs ≤ z := (foldl_min zs _).2.1 z h
theorem le_max (zs : List Int) (z : Int) (h : z ∈ zs) : z ≤ maxS zs := (foldl_max zs _).2.1 z h

theorem bitLenAux_le (f x : Nat) : Lib.bitLenAux f x ≤ f := by
  induction f generalizing x with
  | zero => simp [Lib.bitLenAux]
  | succ f ih => unfold Lib.bitLenAux; split; · omega
                 · have := ih (x / 2); omega
theorem width_le (zs : List Int) : widthS zs ≤ 64 := bitLenAux_le _ _

set_option maxRecDepth 100000 in
set_option maxHeartbeats 2000000 in
theorem begin_some {K : Nat → Prop} (b off len cap : Nat) (zs : List Int) (hz : Smalls zs) (h0 : 0 < len) (W : World) (hR : Rd K W .i64 (some ⟨b, off, none⟩) len cap zs) :
    Calls Try.prog 41 #[.slice (some ⟨b, off, none⟩) len cap] W (MakesF W (minS zs) (widthS zs) (varN zs.length ++ varN (zz (minS zs)).toNat ++ [(widthS zs : Int)])) := by
  have hfit := hR.fit
  have hsmall := hR.small
  have H := Lib.hid hR
  have hmI : I64 (minS zs) := hz _ (min_mem zs (fun e => by have := hR.hl; rw [e] at this; simp at this; omega))
  have HL : Hid (len = zs.length) := hR.hl
  have hu := zz_u64 hmI
  obtain ⟨u, hue⟩ : ∃ u : Nat, zz (minS zs) = u := ⟨(zz (minS zs)).toNat, by have := hu.1; omega⟩
  have hu2 : u < 18446744073709551616 := by have := hu.2; omega
  have HU := Lib.hid hue
  have hwl := width_le zs
  clear hR hu hue
  obtain ⟨i0, hi, hz0, hz1, hz2⟩ := info_parts Try.infoB
  have h0' : ((len : Int) == 0) = false := by rw [beq_eq_false_iff_ne]; omega
  go_enter Try.func41, Try.ntmps41
  go_wp2_with fail
  refine (varint_nil len (by omega) _).mono ?_
  rintro e w1 ⟨g1, c1, rfl, hf1, hr1, hb1⟩
  have HR1 := Lib.hid (Rd.of_row rfl hf1 (by have := var_len (show len < 18446744073709551616 by omega); omega) hr1)
  have HB1 : Hid (Below W.heap.size W w1) := ((Below.refl _ W).alloc (Nat.le_refl _) _).trans (hb1.mono (by simp))
  have HP1 := Lib.hid ((Pair.new W 72 (.int .i64 0) (.int .i64 0)).below hb1 (by simp))
  clear hb1 hr1
  go_wp2_with fail
  refine (frameOf_any (H.out.below HB1.out) h0).mono ?_
  rintro e w2 ⟨rfl, hb2⟩
  have HR2 : Hid (Rd (fun _ => True) w2 .u8 (some ⟨g1, 0, none⟩) (varN len).length c1 (varN len)) := (HR1.out.mono (fun _ _ _ => trivial)).below hb2
  have HB2 : Hid (Below W.heap.size W w2) := HB1.out.trans (hb2.mono HB1.out.size)
  have HP2 := Lib.hid (HP1.out.below hb2 HP1.out.lt)
  clear HR1 HB1 HP1 hb2
  go_wp2_with fail
  refine (zigzag_any _ hmI _).mono ?_
  rintro e w3 ⟨rfl, rfl⟩
  rw [HU.out]
  go_wp2_with fail
  have hvl := var_len (show len < 18446744073709551616 by omega)
  refine (varint_any _ (some ⟨g1, 0, none⟩) _ c1 (varN len) u hu2 _ (HR2.out.below ((Below.refl _ _).alloc (Nat.le_refl _) _)) (by omega)).mono ?_
  rintro e w4 ⟨g4, c4, rfl, hf4, hr4, hb4⟩
  have hq := (Pair.new w2 72 (.int .i64 (minS zs)) (.int .i64 (widthS zs))).below hb4 (by simp)
  have hp := (HP2.out.alloc (.cells #[.int .i64 (minS zs), .int .i64 (widthS zs)] 72)).below hb4 (by have := HP2.out.lt; simp; omega)
  have HB4 : Hid (Below W.heap.size W w4) := (HB2.out.alloc HB2.out.size _).trans (hb4.mono (by have := HB2.out.size; simp; omega))
  have hg4 := row_base hr4
  simp only [World.size_alloc] at hg4
  have hWQ : W.heap.size < w2.heap.size := HP2.out.lt
  have hr5 := hr4.mono (by have := HB2.out.size; simp; omega : W.heap.size ≤ _)
  have HLL : Hid ((varN len ++ varN u).length = (varN len).length + (varN u).length) := List.length_append
  have hvu := var_len hu2
  rw [HLL.out] at hr5 hf4 ⊢
  have hLb : (varN len).length + (varN u).length ≤ 20 := by omega
  generalize (varN len).length + (varN u).length = L at *
  generalize w2.heap.size = Q at *
  obtain ⟨g5, c5, wX, hr, hX, hgX, hcX, hbX⟩ := run_append_one w4.drew W.heap.size 23 23 5 i0 _ 1 .u8 Try.underlying23 hi hz0 hz1 hz2 rfl g4 L c4 _ ((Kept.refl (fun _ => True) w4).drew.row hr5 trivial) (widthS zs : Int) 5 (by unfold maxLen; omega) (by omega) HB4.out.size
  have hKX : Kept (fun i => i < Q + 1) w4 wX := ((Kept.refl (fun i => i < Q + 1) w4).drew.trans (Kept.of_grownBy (World.grownBy_alloc w4.drew _ none) (by simp))).trans (Kept.of_grownBy hgX (fun r e => by cases e; omega))
  have hqX : Pair wX Q 72 (.int .i64 (minS zs)) (.int .i64 (widthS zs)) := (hKX.block Q hq.lt (by omega)).trans hq
  have hpX : Pair wX W.heap.size 72 (.int .i64 0) (.int .i64 0) := (hKX.block W.heap.size hp.lt (by omega)).trans hp
  have HBX : Hid (Below W.heap.size W wX) := HB4.out.trans ⟨hKX.os, hKX.tape, hKX.output, hKX.size, fun i hi' => hKX.block i (by have := HB4.out.size; omega) (by omega)⟩
  have HX := Lib.hid hX
  have hne : g5 ≠ W.heap.size := by
    intro e
    obtain ⟨cur, hg, _⟩ := row_block hX
    rw [e] at hg
    have := hg.symm.trans hpX
    simp at this
  have hq0 := hq.c0
  have hq1 := hq.c1
  have hqlt := hq.lt
  have x0 := hqX.c0
  have x1 := hqX.c1
  have xlt := hqX.lt
  have p0 := hpX.c0
  have p1 := hpX.c1
  have pf0 := hpX.f 0
  have pf1 := hpX.f 1
  have plt := hpX.lt
  have hw8 : IntKind.u8.wrap ((widthS zs : Nat) : Int) = (widthS zs : Nat) := by simp [IntKind.wrap, IntKind.bits, IntKind.signed]; omega
  have HCX := Lib.hid hcX
  have HMIN : Hid (∀ m : Int, minS zs = m → True) := fun _ _ => trivial
  clear HB2 HP2 HR2 hr4 hb4 hq hp hr5 hX hgX hbX hKX hqX hpX hf4 hg4 hvu hvl hcX HMIN
  generalize hmz : minS zs = mz at *
  have HMZ := Lib.hid hmz
  clear hmz
  generalize hwz : widthS zs = wz at *
  have HWZ := Lib.hid hwz
  clear hwz
  go_wp2
  go_region_law (refine step_append_run (by rfl) (.tmp 22) (.tmp 26) 23 23 (by rfl) (.slice (some ⟨g4, 0, none⟩) L c4) (.slice (some ⟨w4.heap.size, 0, none⟩) 1 1) (by go_simp) (by go_simp) _ _ hr ?_)
  all_goals
    simp
    go_wp2
    have e1 : varN zs.length ++ varN (zz mz).toNat ++ [(wz : Int)] = varN len ++ varN u ++ [(wz : Int)] := by rw [HU.out, HL.out]; rfl
    have e2 : (varN len ++ varN u ++ [(wz : Int)]).length = L + 1 := by rw [List.length_append, HLL.out]; rfl
    rw [e1]
    refine bodyPost_ret (v := .tuple #[.slice (some ⟨g5, 0, none⟩) (L + 1) c5, .agg #[.int .i64 mz, .int .i64 wz]]) (by simp [results, Try.results41, go_sem, p0, p1]) rfl ⟨g5, c5, by rw [e2], by rw [e2]; exact HCX.out, ?_, (HBX.out.setCell (Nat.le_refl _) _).setCell (Nat.le_refl _) _⟩
    rw [e2, List.map_append]
    exact ((Kept.of_grownBy (K := fun b => b = g5) (grownBy_set wX ⟨W.heap.size, 0, none⟩ (.int .i64 mz)) (fun r e => by cases e; exact fun h => hne h.symm)).trans (Kept.of_grownBy (grownBy_set _ ⟨W.heap.size, 1, none⟩ (.int .i64 wz)) (fun r e => by cases e; exact fun h => hne h.symm))).row HX.out rfl

set_option maxRecDepth 100000 in
set_option maxHeartbeats 2000000 in
theorem begin_none (a : Option Addr) (cap : Nat) (W : World) :
    Calls Try.prog 41 #[.slice a 0 cap] W (MakesF W 0 0 (varN 0)) := by
  go_enter Try.func41, Try.ntmps41
  go_wp2_with fail
  refine (varint_nil 0 (by omega) _).mono ?_
  rintro e w1 ⟨g1, c1, rfl, hf1, hr1, hb1⟩
  have HB1 : Hid (Below W.heap.size W w1) := ((Below.refl _ W).alloc (Nat.le_refl _) _).trans (hb1.mono (by simp))
  have hp := (Pair.new W 72 (.int .i64 0) (.int .i64 0)).below hb1 (by simp)
  have hg1 := row_base hr1
  simp only [World.size_alloc] at hg1
  have HR1 := Lib.hid (hr1.mono (by simp : W.heap.size ≤ _))
  have p0 := hp.c0
  have p1 := hp.c1
  have pf0 := hp.f 0
  have pf1 := hp.f 1
  have plt := hp.lt
  clear hb1 hr1 hp
  go_wp2
  refine bodyPost_ret (v := .tuple #[.slice (some ⟨g1, 0, none⟩) (varN 0).length c1, .agg #[.int .i64 0, .int .i64 0]]) (by simp [results, Try.results41, go_sem, p0, p1]) rfl ⟨g1, c1, rfl, hf1, ?_, (HB1.out.setCell (Nat.le_refl _) _).setCell (Nat.le_refl _) _⟩
  exact ((Kept.of_grownBy (K := fun b => b = g1) (grownBy_set w1 ⟨W.heap.size, 0, none⟩ (.int .i64 0)) (fun r e => by cases e; exact fun h => by have h : W.heap.size = g1 := h; omega)).trans (Kept.of_grownBy (grownBy_set _ ⟨W.heap.size, 1, none⟩ (.int .i64 0)) (fun r e => by cases e; exact fun h => by have h : W.heap.size = g1 := h; omega))).row HR1.out rfl

/-- The head of any list, the base, the width. -/
def headS (zs : List Int) : List Int := if zs = [] then varN 0 else varN zs.length ++ varN (zz (minS zs)).toNat ++ [(widthS zs : Int)]
def baseS (zs : List Int) : Int := if zs = [] then 0 else minS zs
def wideS (zs : List Int) : Nat := if zs = [] then 0 else widthS zs

theorem wide_le (zs : List Int) : wideS zs ≤ 64 := by unfold wideS; split; · decide
                                                      · exact width_le zs
theorem head_len (zs : List Int) (hz : Smalls zs) (hl : zs.length ≤ 140737488351232) : (headS zs).length ≤ 21 := by
  unfold headS
  split
  · have := var_len (show 0 < 18446744073709551616 by decide); omega
  · rename_i h
    have h1 := var_len (show zs.length < 18446744073709551616 by omega)
    have h2 := zz_u64 (hz _ (min_mem zs h))
    have h3 := var_len (show (zz (minS zs)).toNat < 18446744073709551616 by have := h2.2; have := h2.1; omega)
    rw [List.length_append, List.length_append, List.length_singleton]; omega

theorem begin_any {K : Nat → Prop} {a : Option Addr} {len cap : Nat} {zs : List Int} (hz : Smalls zs) {W : World} (hR : Rd K W .i64 a len cap zs) :
    Calls Try.prog 41 #[.slice a len cap] W (MakesF W (baseS zs) (wideS zs) (headS zs)) := by
  by_cases h0 : 0 < len
  · obtain ⟨b, off, rfl, _⟩ := hR.cells h0
    have hne : zs ≠ [] := fun e => by have := hR.hl; rw [e] at this; simp at this; omega
    unfold baseS wideS headS
    rw [if_neg hne, if_neg hne, if_neg hne]
    exact begin_some b off len cap zs hz h0 W hR
  · obtain rfl : len = 0 := by omega
    obtain rfl : zs = [] := List.eq_nil_of_length_eq_zero hR.hl.symm
    exact begin_none a cap W

/-- How many bytes the differences take. -/
def spaceS (zs : List Int) : Nat := (zs.length * wideS zs + 7) / 8
def sizeS (zs : List Int) : Nat := (headS zs).length + spaceS zs

end Go.Proofs.Ytkfmgiacdlkmiaa
