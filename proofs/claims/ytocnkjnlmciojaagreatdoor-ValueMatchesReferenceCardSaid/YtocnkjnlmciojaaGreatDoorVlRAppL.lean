/-
  The reference's byte form of a list, behind other bytes.
-/
import Derived.Test.YtocnkjnlmciojaaGreatDoorRegFacts
import Derived.Test.YtocnkjnlmciojaaGreatDoorVlByFacts
import Derived.Test.YtocnkjnlmciojaaGreatDoorPkRef2
import Derived.ArgAppend
namespace Go.Proofs.YtocnkjnlmciojaaGreatDoor
open Go Go.RowKit Go.Shelf

def Steps4 (P : Program) (ops : Array Oper) (Q : Exit → Act → World → Prop) (a0 : Act) (w0 : World) (base : Nat) (us : List (Option Nat)) (ws : List Nat) (fs : List Fact) (f : Nat) : Nat → List Oper → Prop
  | _, [] => True
  | k, o :: r => (∀ a W, Agree ops a0 a → Below base w0 W → Waits2 us fs ops k a W o.after.toList → (∀ j t, (ops[j]?).bind (·.dst) = some t → waitsB ops f j k = true → a.eval (.tmp t) = a0.eval (.tmp t)) → StepOk2 P ops Q base (ws.contains k) (fs.getD k Fact.no) o a W) ∧ Steps4 P ops Q a0 w0 base us ws fs f (k + 1) r
section
variable {P : Program} {ops : Array Oper} {Q : Exit → Act → World → Prop} {a0 : Act} {w0 : World} {base : Nat} {us : List (Option Nat)} {ws : List Nat} {fs : List Fact}
theorem Steps4.at  {f : Nat} : ∀ {l : List Oper} {k : Nat}, Steps4 P ops Q a0 w0 base us ws fs f k l → ∀ {i : Nat} {o : Oper}, l[i]? = some o → ∀ a W, Agree ops a0 a → Below base w0 W → Waits2 us fs ops (k + i) a W o.after.toList → (∀ j t, (ops[j]?).bind (·.dst) = some t → waitsB ops f j (k + i) = true → a.eval (.tmp t) = a0.eval (.tmp t)) → StepOk2 P ops Q base (ws.contains (k + i)) (fs.getD (k + i) Fact.no) o a W
  | [], _, _, i, o, hi => by simp at hi
  | o' :: r, k, h, 0, o, hi => by
    obtain rfl : o' = o := by simpa using hi
    exact h.1
  | o' :: r, k, h, i + 1, o, hi => by
    have := Steps4.at h.2 (i := i) (o := o) (by simpa using hi)
    rwa [show k + 1 + i = k + (i + 1) by omega] at this

theorem wp_region_fresh {id : Nat} {bs : List Bool} (f : Nat) (hm : P.follows .mixedOrders = true) (hlow : lowB .any ops = true) (hout : outB ops a0.tmps.size = true) (hwr : writesB ops us bs ws f = true) (hbase : base ≤ w0.heap.size)
    (hst : AllStable fs) (hfi : AllFirm base fs bs)
    (hstep : Steps4 P ops Q a0 w0 base us ws fs f 0 ops.toList) (hend : ∀ a W, Agree ops a0 a → Below base w0 W → Ends2 us fs a W 0 ops.toList → Q .normal a W) : (Code.region id ops true).wp P Q a0 w0 := by
  refine wp_region_inv (I := fun d a W => Agree ops a0 a ∧ Below base w0 W ∧ ClosedD ops d ∧ (∀ i t, d i = false → (ops[i]?).bind (·.dst) = some t → a.eval (.tmp t) = a0.eval (.tmp t)) ∧ ∀ i t, d i = true → (∀ k, us.getD i none = some k → d k = false) → (ops[i]?).bind (·.dst) = some t → (fs.getD i Fact.no) (a.eval (.tmp t)) W) hm hlow ?_ ?_ ?_
  · exact ⟨⟨rfl, rfl, fun _ _ => rfl⟩, ⟨rfl, rfl, rfl, Nat.le_refl _, fun _ _ => rfl⟩, fun _ _ (_ : _) (h : false = true) => (by cases h), fun _ _ _ _ => rfl, fun i t (h : false = true) => (by cases h)⟩
  · intro i o d a W hi hdi hdep ⟨hA, hB, hC, hN, hF⟩
    have hs := Steps4.at hstep (i := i) (o := o) (by simpa using hi) a W hA hB (Waits2.of _ fun e he hb hu t ht => by
      rw [Nat.zero_add] at hu
      refine hF e.on t (hdep e (by simpa using he) hb) (fun k hk => ?_) ht
      rcases hu with hu | hu
      · rw [hu] at hk; cases hk
      · rw [hu] at hk; cases hk; exact hdi) (fun j t ht hw => hN j t (by
        rw [Nat.zero_add] at hw
        cases hj : d j with
        | false => rfl
        | true => have := waits_done hC _ _ _ hw hj; rw [hdi] at this; cases this) ht)
    rw [Nat.zero_add] at hs
    have hiW : base ≤ W.heap.size := Nat.le_trans hbase hB.size
    have hafter : ∀ v W', Below (if ws.contains i then base else W.heap.size) W W' → (fs.getD i Fact.no) v W' → Agree ops a0 (a.put o.dst v) ∧ Below base w0 W' ∧ ClosedD ops (fun j => if j = i then true else d j) ∧ (∀ j t, (if j = i then true else d j) = false → (ops[j]?).bind (·.dst) = some t → (a.put o.dst v).eval (.tmp t) = a0.eval (.tmp t)) ∧ ∀ j t, (if j = i then true else d j) = true → (∀ k, us.getD j none = some k → (if k = i then true else d k) = false) → (ops[j]?).bind (·.dst) = some t → (fs.getD j Fact.no) ((a.put o.dst v).eval (.tmp t)) W' := by
      intro v W' hb hv
      have hio : (ops[i]?).bind (·.dst) = o.dst := by rw [hi]; rfl
      have hb0 : Below base W W' := by
        by_cases hw : ws.contains i = true
        · rw [if_pos hw] at hb; exact hb
        · rw [if_neg hw] at hb; exact hb.mono hiW
      refine ⟨?_, hB.trans hb0, fun j o' hj hdj e he hbe => ?_, fun j t hj ht => ?_, fun j t hj hl ht => ?_⟩
      · cases hd : o.dst with
        | none => exact ⟨hA.size, hA.defers, hA.other⟩
        | some s =>
          refine ⟨by simp [Act.put, hA.size], by simp [Act.put, hA.defers], fun t ht => ?_⟩
          rw [eval_put_ne (fun e => ht i (by rw [hio, hd, e]))]
          exact hA.other t ht
      · by_cases hji : j = i
        · subst hji
          rw [hi] at hj
          cases hj
          show (if e.on = j then true else d e.on) = true
          by_cases h : e.on = j
          · rw [if_pos h]
          · rw [if_neg h]; exact hdep e he hbe
        · have hdj : (if j = i then true else d j) = true := hdj
          rw [if_neg hji] at hdj
          have := hC j o' hj hdj e he hbe
          show (if e.on = i then true else d e.on) = true
          by_cases h : e.on = i
          · rw [if_pos h]
          · rw [if_neg h]; exact this
      · by_cases hji : j = i
        · rw [if_pos hji] at hj; cases hj
        · rw [if_neg hji] at hj
          cases hd : o.dst with
          | none => exact hN j t hj ht
          | some s =>
            rw [eval_put_ne (fun e => hji (outB_ne hout (hio.trans (hd.trans (by rw [e]))) ht))]
            exact hN j t hj ht
      · by_cases hji : j = i
        · subst hji
          rw [hio] at ht
          rw [ht, eval_put_self (by rw [hA.size]; exact outB_lt hout (by rw [hio]; exact ht))]
          exact hv
        · rw [if_neg hji] at hj
          have hl' : ∀ k, us.getD j none = some k → d k = false := fun k hk => by
            have := hl k hk
            by_cases h : k = i
            · rw [if_pos h] at this; cases this
            · rwa [if_neg h] at this
          have h0 := hF j t hj hl' ht
          have h1 : (fs.getD j Fact.no) (a.eval (.tmp t)) W' := by
            by_cases hw : ws.contains i = true
            · rw [if_pos hw] at hb
              unfold writesB at hwr
              rw [List.all_eq_true] at hwr
              have h2 := hwr i (by simpa using hw)
              rw [List.all_eq_true] at h2
              have hjl : j < ops.size := by
                rcases Nat.lt_or_ge j ops.size with h' | h'
                · exact h'
                · rw [Array.getElem?_eq_none h'] at ht; cases ht
              have h3 := h2 j (List.mem_range.2 hjl)
              simp only [Bool.or_eq_true, beq_iff_eq] at h3
              rcases h3 with (((h3 | h3) | h3) | h3) | h3
              · exact absurd h3 hji
              · have := hl i h3
                rw [if_pos rfl] at this; cases this
              · exact hfi.at j h3 _ _ _ h0 hb
              · have := waits_done hC _ _ _ h3 hj
                rw [hdi] at this; cases this
              · cases hu : us.getD j none with
                | none => rw [hu] at h3; cases h3
                | some k' =>
                  rw [hu] at h3
                  have := waits_deps hC hi hdep h3
                  rw [hl' k' hu] at this; cases this
            · rw [if_neg hw] at hb
              exact hst.at j _ _ _ h0 hb
          cases hd : o.dst with
          | none => exact h1
          | some s =>
            rw [eval_put_ne (fun e => hji (outB_ne hout (hio.trans (hd.trans (by rw [e]))) ht))]
            exact h1
    unfold wpOp
    simp only [hi]
    unfold StepOk2 at hs
    split
    · rename_i hw
      rw [if_pos hw] at hs
      exact .inl (Oper.wp_mono (fun a' W' ⟨v, e, hb, hv⟩ => by subst e; exact hafter v W' hb hv) hs)
    · rename_i hw
      rw [if_neg hw] at hs
      exact hafter undef W ⟨rfl, rfl, rfl, Nat.le_refl _, fun _ _ => rfl⟩ hs
  · intro d a W hall ⟨hA, hB, hC, hN, hF⟩
    refine hend a W hA hB (Ends2.of _ _ fun i o t hi hu ht => ?_)
    rw [Nat.zero_add] at hu ⊢
    have hi' : ops[i]? = some o := by simpa using hi
    exact hF i t (hall i (Array.getElem?_eq_some_iff.1 hi').1) (fun k hk => by rw [hu] at hk; cases hk) (by rw [hi']; exact ht)
end

end Go.Proofs.YtocnkjnlmciojaaGreatDoor

namespace Go.Proofs.YtocnkjnlmciojaaGreatDoor
open Go Go.RowKit Go.Shelf Go.ChangeShapes Go.WideShapes Go.ChangeAt

/-- A row of the region's own that holds nothing, with no room. -/
def Row0F (base : Nat) : Fact := fun v W => ∃ g : Nat, v = .slice (some ⟨g, 0, none⟩) 0 0 ∧ W.ownsRow base 5 1 (.slice (some ⟨g, 0, none⟩) 0 0) 0 []
theorem row0F_stable (base : Nat) : (Row0F base).Stable := fun _ _ _ ⟨g, e, h⟩ hb => ⟨g, e, row_below h hb⟩
theorem row0F_new (W : World) (base : Nat) (hb : base ≤ W.heap.size) : Row0F base (.slice (some ⟨W.heap.size, 0, none⟩) 0 0) (W.alloc (.cells #[] 5)) :=
  ⟨_, rfl, World.ownsRow_made W (base := base) (e := 5) (size := 1) #[] 0 hb (by decide) rfl⟩
theorem row0F_append {base : Nat} {ys : List Int} {v : Value} {W : World} (h : Row0F base v W) {K : Nat → Prop} {a : Option Addr} {n c : Nat} (hR : Rd K W .u8 a n c ys) (hb : base ≤ W.heap.size) (hl : n ≤ 100000000) :
    ∃ v' w', (Builtin.append_ #[42, 42] 42 #[v, .slice a n c]).run Tryz.prog W = .ok v' w' ∧ RowF base ys v' w' ∧ Below W.heap.size W w' := by
  obtain ⟨i0, hi, hz0, hz1, hz2⟩ := info_parts Tryz.infoB
  obtain ⟨g, rfl, h2⟩ := h
  have hl1 := hR.hl
  by_cases h0 : n = 0
  · subst h0
    obtain rfl : ys = [] := List.eq_nil_of_length_eq_zero hl1.symm
    exact ⟨_, W, run_append_empty W 42 42 5 i0 Tryz.underlying42 hi _ 0 0 (Nat.le_refl _) a c, ⟨g, 0, rfl, Nat.le_refl _, h2⟩, Below.refl _ W⟩
  · obtain ⟨b, off, rfl, _, _, hc⟩ := hR.cells (by omega)
    subst hl1
    obtain ⟨v', w', hr, h3, h4⟩ := run_append_arg_grows (P := Tryz.prog) W 42 42 5 i0 _ 1 1 Tryz.underlying42 hi hz0 hz1 hz2 rfl (by decide) ⟨g, 0, none⟩ 0 0 [] rfl (fun j u hu => by simp at hu) ⟨b, off, none⟩ ys.length c (ys.map (Value.int .u8)) (by simp)
      (rd_cells hc) (by omega) (by unfold maxLen; omega) (by omega)
    rw [Nat.zero_add, List.nil_append] at h3
    have hne : ¬ v' = .slice none 0 0 := fun e => by
      subst e
      rcases h3.2 with ⟨_, e⟩ | ⟨g', c', cur, e, _⟩
      · exact h0 e
      · cases e
    obtain ⟨g', cap, rfl, hn, hg⟩ := row_form h3 hne
    exact ⟨_, w', hr, ⟨g', cap, rfl, hn, ⟨h3.1, h3.2.imp id (fun ⟨g, c, cur, e, h, r⟩ => ⟨g, c, cur, e, Nat.le_trans hb h, r⟩)⟩⟩, (Below.refl W.heap.size W).grown h4 (Nat.le_refl _) (fun r e => by cases e)⟩
/-- An append whose run is known, which writes nothing that there was. -/
theorem step_appendB {P : Program} {ops : Array Oper} {Q : Exit → Act → World → Prop} {φ : Fact} {o : Oper} {a : Act} {W : World} (hw : Region.wanted o (yielded ops a.tmps) = true) (s x : Operand) (t tn : TypeId)
    (ho : o.op = .call { callee := .builtin .append, args := #[s, x], argTypes := #[t, tn] }) {vs vx : Value} (hs : a.eval s = vs) (hx : a.eval x = vx)
    {v' : Value} {w' : World} (hr : (Builtin.append_ #[t, tn] o.type #[vs, vx]).run P W = .ok v' w') (hb : Below W.heap.size W w') (hv : φ v' w') : StepOk P ops Q φ o a W := by
  unfold StepOk
  rw [if_pos hw]
  unfold Oper.wp
  simp [execOp, ho, resolve, invoke, builtin, hs, hx, hr, Result.andThen]
  exact ⟨v', rfl, hb, hv⟩
theorem slrd_conv {s : List UInt8} {V : World} {g cap : Nat} (hcap : s.length ≤ cap) (hcm : cap ≤ 9223372036854775807) (hs : s.length ≤ 1048576) (hg : g < V.heap.size) (hc : ∀ k, k < s.length → V.cell? ⟨g, k, none⟩ = some (.int .u8 ((s[k]?.getD 0).toNat : Int))) : SlRd (strI s) (.slice (some ⟨g, 0, none⟩) s.length cap) V := by
  refine ⟨g, s.length, cap, rfl, ⟨(strI_len s).symm, hcap, hcm, by omega, fun _ => ⟨g, 0, rfl, trivial, hg, fun j hj => ?_⟩⟩⟩
  rw [Nat.zero_add, hc j hj]
  unfold strI
  rw [List.getElem?_map]
  rw [List.getElem?_eq_getElem hj]; rfl

set_option maxRecDepth 100000 in
set_option maxHeartbeats 2000000 in
theorem rappend_any {K : Nat → Prop} {ad : Option Addr} {n c : Nat} {bs : List Int} (v : Vl) (hv : v.Ok) (hw : widV v = true) {w : World} (hR : Rd K w .u8 ad n c bs) (hn : n ≤ 1000000) :
    Calls Tryz.prog 42 #[.slice ad n c, encV v] w fun e w' => Makes w e w' (bs ++ bytesV v) := by
  obtain ⟨i0, hi, hz0, hz1, hz2⟩ := info_parts Tryz.infoB
  have HP := Lib.hid (wid_parts hw)
  have HBV : Hid (bytesV v = if v.k = 1 then [1, v.i] else if v.k = 2 then 2 :: varN (zz v.i).toNat else if v.k = 3 then 3 :: (varN v.s.length ++ strI v.s) else [0]) := rfl
  generalize bytesV v = bv at *
  obtain ⟨k, i, s⟩ := v
  have hiI : I64 i := hv.i
  have hs : s.length ≤ 1048576 := hv.s
  clear hw hv
  unfold encV
  dsimp only at HP HBV ⊢
  have HT := Lib.hid (Trio.new w 45 (.int .i64 k) (.int .i64 i) (.string (bsOf s)))
  have HB0 := Lib.hid ((Below.refl w.heap.size w).alloc (Nat.le_refl _) (.cells #[.int .i64 k, .int .i64 i, .string (bsOf s)] 45))
  have HRV := Lib.hid (hR.below HB0.out)
  have HN : Hid (n ≤ 100000000) := by show _ ≤ _; omega
  have HN1 : Hid (bs.length + [k].length ≤ 100000000) := by have := hR.hl; show _ ≤ _; simp; omega
  have HKW : Hid (IntKind.u8.wrap k = k) := by
    have hk : 0 ≤ k ∧ k ≤ 3 := by rcases HP.out with h | h | h | h <;> omega
    show _ = _
    simp [IntKind.wrap, IntKind.bits, IntKind.signed]; omega
  obtain ⟨b5, hb5⟩ : ∃ b5, bs ++ [k] = b5 := ⟨_, rfl⟩
  have HB5 := Lib.hid hb5
  have HL5 : Hid (b5.length ≤ 1000001) := by have := hR.hl; show _ ≤ _; rw [← hb5]; simp; omega
  clear hb5 hR
  go_enter Tryz.func42, Tryz.ntmps42
  go_upto_region 1 with fail
  obtain ⟨B, hB⟩ : ∃ B, w.heap.size = B := ⟨_, rfl⟩
  rw [hB] at HT ⊢
  have HZ := Lib.hid hB
  clear hB
  generalize w.alloc (.cells #[.int .i64 k, .int .i64 i, .string (bsOf s)] 45) = V at *
  refine wp_region_writes (base := V.heap.size) (us := [some 2, none, some 7, none, none, none, some 7, none, none]) (ws := [7]) (bs := [false, true, false, true, true, true, false, false, false]) (fs := [Row0F V.heap.size, Fact.is (.slice ad n c), RowF V.heap.size bs, Fact.is (.pointer (some ⟨B, 0, none⟩)), Fact.is (.int .i64 k), Fact.is (.int .u8 k), SlRd [k], RowF V.heap.size b5, RowF V.heap.size b5]) 8 (by kernel_rfl) (by kernel_rfl) (by kernel_rfl) (by kernel_rfl) (Nat.le_refl _) ⟨row0F_stable _, Fact.is_stable _, rowF_stable _ _, Fact.is_stable _, Fact.is_stable _, Fact.is_stable _, slrd_stable _, rowF_stable _ _, rowF_stable _ _, trivial⟩ ⟨(fun h => by cases h), (fun _ => Fact.is_firm _ _), (fun h => by cases h), (fun _ => Fact.is_firm _ _), (fun _ => Fact.is_firm _ _), (fun _ => Fact.is_firm _ _), (fun h => by cases h), (fun h => by cases h), (fun h => by cases h), trivial⟩ ?_ ?_
  · exact ⟨by
        intro a W hA hB hd
        have hB := Lib.hid hB
        have p0 : a.eval (.tmp 0) = .slice ad n c := hA.at 0 (by kernel_rfl)
        have p3 : a.eval (.tmp 3) = .pointer (some ⟨B, 0, none⟩) := hA.at 3 (by kernel_rfl)
        exact step2_of (step_lays (wanted_none rfl) (.slice (some ⟨W.heap.size, 0, none⟩) 0 0) (W.alloc (.cells #[] 5)) (by simp [execOp, go_sem]) ((Below.refl _ W).alloc (Nat.le_refl _) _) (row0F_new W _ hB.out.size)),
      by
        intro a W hA hB hd
        have hB := Lib.hid hB
        have p0 : a.eval (.tmp 0) = .slice ad n c := hA.at 0 (by kernel_rfl)
        have p3 : a.eval (.tmp 3) = .pointer (some ⟨B, 0, none⟩) := hA.at 3 (by kernel_rfl)
        exact step2_of (step_pure (wanted_none rfl) (.slice ad n c) (by simp [execOp, go_sem, tm p0]) rfl),
      by
        intro a W hA hB hd
        obtain ⟨q0, q1, -⟩ := hd
        have h6 : (Row0F V.heap.size) (a.eval (.tmp 6)) W := q0
        have h7 : a.eval (.tmp 7) = .slice ad n c := q1
        have hB := Lib.hid hB
        have p0 : a.eval (.tmp 0) = .slice ad n c := hA.at 0 (by kernel_rfl)
        have p3 : a.eval (.tmp 3) = .pointer (some ⟨B, 0, none⟩) := hA.at 3 (by kernel_rfl)
        obtain ⟨v', w', hr, h1, h2⟩ := row0F_append h6 (HRV.out.below hB.out) hB.out.size HN.out
        exact step2_of (step_appendB (wanted_none rfl) (.tmp 6) (.tmp 7) 42 42 rfl rfl h7 hr h2 h1),
      by
        intro a W hA hB hd
        have hB := Lib.hid hB
        have p0 : a.eval (.tmp 0) = .slice ad n c := hA.at 0 (by kernel_rfl)
        have p3 : a.eval (.tmp 3) = .pointer (some ⟨B, 0, none⟩) := hA.at 3 (by kernel_rfl)
        exact step2_of (step_pure (wanted_none rfl) (.pointer (some ⟨B, 0, none⟩)) (by simp [execOp, go_sem, tm p3]) rfl),
      by
        intro a W hA hB hd
        obtain ⟨q0, -⟩ := hd
        have h9 : a.eval (.tmp 9) = .pointer (some ⟨B, 0, none⟩) := q0
        have hB := Lib.hid hB
        have p0 : a.eval (.tmp 0) = .slice ad n c := hA.at 0 (by kernel_rfl)
        have p3 : a.eval (.tmp 3) = .pointer (some ⟨B, 0, none⟩) := hA.at 3 (by kernel_rfl)
        have c0 := (HT.out.below hB.out HT.out.lt).c0
        exact step2_of (step_pure (wanted_none rfl) (.int .i64 k) (by simp [execOp, go_sem, tm h9, c0]) rfl),
      by
        intro a W hA hB hd
        obtain ⟨q0, -⟩ := hd
        have h10 : a.eval (.tmp 10) = .int .i64 k := q0
        have hB := Lib.hid hB
        have p0 : a.eval (.tmp 0) = .slice ad n c := hA.at 0 (by kernel_rfl)
        have p3 : a.eval (.tmp 3) = .pointer (some ⟨B, 0, none⟩) := hA.at 3 (by kernel_rfl)
        exact step2_of (step_pure (wanted_none rfl) (.int .u8 k) (by simp [execOp, go_sem, tm h10, HKW.out]) rfl),
      by
        intro a W hA hB hd
        obtain ⟨q0, -⟩ := hd
        have h11 : a.eval (.tmp 11) = .int .u8 k := q0
        have hB := Lib.hid hB
        have p0 : a.eval (.tmp 0) = .slice ad n c := hA.at 0 (by kernel_rfl)
        have p3 : a.eval (.tmp 3) = .pointer (some ⟨B, 0, none⟩) := hA.at 3 (by kernel_rfl)
        exact step2_of (step_lays (wanted_none rfl) (.slice (some ⟨W.heap.size, 0, none⟩) 1 1) (W.alloc (.cells #[.int .u8 k] 5)) (by simp [execOp, go_sem, tm h11]) ((Below.refl _ W).alloc (Nat.le_refl _) _) (slrd_new W [k] (by simp))),
      by
        intro a W hA hB hd
        obtain ⟨q0, q1, q2, -⟩ := hd
        have h8 : (RowF V.heap.size bs) (a.eval (.tmp 8)) W := q0
        have h12 : (SlRd [k]) (a.eval (.tmp 12)) W := q1
        have hB := Lib.hid hB
        have p0 : a.eval (.tmp 0) = .slice ad n c := hA.at 0 (by kernel_rfl)
        have p3 : a.eval (.tmp 3) = .pointer (some ⟨B, 0, none⟩) := hA.at 3 (by kernel_rfl)
        obtain ⟨gq, nq, cq, e12, r12⟩ := h12
        obtain ⟨v', w', hr, h1, h2⟩ := rowF_append h8 r12 hB.out.size (by rw [r12.hl]; exact HN1.out)
        rw [HB5.out] at h1
        exact step2_append (wanted_none rfl) (.tmp 8) (.tmp 12) 42 42 rfl rfl e12 hr h2 h1,
      by
        intro a W hA hB hd
        obtain ⟨q0, -⟩ := hd
        have h13 : (RowF V.heap.size b5) (a.eval (.tmp 13)) W := q0
        have hB := Lib.hid hB
        have p0 : a.eval (.tmp 0) = .slice ad n c := hA.at 0 (by kernel_rfl)
        have p3 : a.eval (.tmp 3) = .pointer (some ⟨B, 0, none⟩) := hA.at 3 (by kernel_rfl)
        exact step2_of (step_pure (wanted_none rfl) (a.eval (.tmp 13)) (by simp [execOp, go_sem]) h13), trivial⟩
  · intro ax W hA hB hE
    have f5 : (RowF V.heap.size b5) (ax.eval (.tmp 5)) W := hE.2.2.2.2.2.2.2.2.1
    obtain ⟨g5, c5, e5, hc5, ho5⟩ := f5
    have hp := hA.puts [6, 7, 8, 9, 10, 11, 12, 13, 5] (by kernel_rfl)
    clear hA hE
    simp only [putAll, e5] at hp
    clear e5
    generalize ax.eval = ev at hp
    subst hp
    have HT1 := Lib.hid (HT.out.below (hB.mono (Nat.le_refl _)) HT.out.lt)
    have HB1 : Hid (Below w.heap.size w W) := HB0.out.trans (hB.mono HB0.out.size)
    have HO5 : Hid (W.ownsRow w.heap.size 5 1 (.slice (some ⟨g5, 0, none⟩) b5.length c5) b5.length (b5.map (Value.int .u8))) := ho5.mono HB0.out.size
    have hlen : Hid (bs ++ [k] = b5) := HB5.out
    clear hB ho5 HB0 HT HRV HN HN1 HKW
    simp [Act.put]
    obtain ⟨m5, hm5⟩ : ∃ m, b5.length = m := ⟨_, rfl⟩
    have HM := Lib.hid hm5
    rw [hm5] at HO5 HL5 hc5 ⊢
    clear hm5
    have c0 := HT1.out.c0
    have c1 := HT1.out.c1
    have hbg : w.heap.size ≤ g5 := by
      obtain ⟨g', c', e, _, h⟩ := row_form HO5.out (by simp)
      cases e; exact h
    have hm1 := HL5.out
    rcases HP.out with ⟨rfl, rfl, rfl⟩ | ⟨rfl, h1, rfl⟩ | ⟨rfl, rfl⟩ | ⟨rfl, rfl, _⟩
    · have HMK : Hid (Makes w (.returned (.slice (some ⟨g5, 0, none⟩) m5 c5)) W (bs ++ bv)) := by
        show Makes _ _ _ _
        rw [show bs ++ bv = b5 by rw [HBV.out]; exact HB5.out]
        exact ⟨g5, c5, by rw [HM.out], by rw [HM.out]; exact hc5, by rw [HM.out]; exact HO5.out, HB1.out⟩
      go_wp2
      go_ret
      exact HMK.out
    · have HE : Hid (bs ++ bv = b5 ++ [i]) := by show _ = _; rw [HBV.out, ← HB5.out]; simp
      have HIW : Hid (IntKind.u8.wrap i = i) := by rcases h1 with rfl | rfl <;> rfl
      have hiw := HIW.out
      obtain ⟨gX, cX, wX, hr, hX, hg, hcX, hbX⟩ := run_append_one W w.heap.size 42 42 5 i0 _ 1 .u8 Tryz.underlying42 hi hz0 hz1 hz2 rfl g5 m5 c5 _ HO5.out i 5 (by unfold maxLen; omega) (by omega) HB1.out.size
      have HBX : Hid (Below w.heap.size w wX) := (HB1.out.alloc HB1.out.size (.cells #[.int .u8 i] 5)).grown hg (HB1.out.alloc HB1.out.size _).size (fun r e => by cases e; exact hbg)
      have HRX := Lib.hid hr
      have HMK : Hid (Makes w (.returned (.slice (some ⟨gX, 0, none⟩) (m5 + 1) cX)) wX (bs ++ bv)) := by
        show Makes _ _ _ _
        rw [HE.out]
        have hl : (b5 ++ [i]).length = m5 + 1 := by rw [List.length_append, HM.out]; rfl
        exact ⟨gX, cX, by rw [hl], by rw [hl]; exact hcX, by rw [hl, List.map_append]; exact hX, HBX.out⟩
      clear hr hX hg hcX hbX HIW h1
      go_wp2_with (at_builtin; refine wpList_append_want (o := ⟨some 23, _, _, _, _, _⟩) _ rfl _ _ _ _ rfl _ _ rfl rfl _ _ HRX.out ?_)
      go_ret
      exact HMK.out
    · have HE : Hid (bs ++ bv = b5 ++ varN (zz i).toNat) := by show _ = _; rw [HBV.out, ← HB5.out]; simp
      have hz64 := zz_u64 hiI
      obtain ⟨z, hz⟩ : ∃ z : Nat, zz i = (z : Int) := ⟨(zz i).toNat, by have := hz64.1; omega⟩
      have HZZ : Hid (∀ W : World, Calls Tryz.prog 104 #[.int .i64 i] W fun e w' => e = .returned (.int .u64 (z : Int)) ∧ W = w') := fun W => (zigzagR_any i hiI W).mono fun e w' ⟨he, hw⟩ => ⟨by rw [he, hz], hw⟩
      have hz2' : z < 18446744073709551616 := by have := hz64.2; omega
      rw [show (zz i).toNat = z by omega] at HE
      have HR5 : Hid (Rd (fun _ => True) W .u8 (some ⟨g5, 0, none⟩) m5 c5 b5) := (Rd.of_row HM.out.symm hc5 (by omega) HO5.out).mono fun _ _ _ => trivial
      have HVN := Lib.hid (varintR_any _ _ _ _ _ z hz2' W HR5.out (by omega))
      clear hz hz64 HBV HR5 hz2'
      go_wp2_with fail
      refine (HZZ.out _).mono ?_
      rintro e w' ⟨rfl, rfl⟩
      go_wp2_with fail
      refine HVN.out.mono ?_
      rintro e w2 ⟨g, cg, rfl, hfit, hrow, hb⟩
      have HMK : Hid (Makes w (.returned (.slice (some ⟨g, 0, none⟩) (b5 ++ varN z).length cg)) w2 (bs ++ bv)) := by
        show Makes _ _ _ _
        rw [HE.out]
        exact ⟨g, cg, rfl, hfit, hrow.mono HB1.out.size, HB1.out.trans (hb.mono HB1.out.size)⟩
      generalize (b5 ++ varN z).length = L at *
      clear hfit hrow hb HVN HE
      go_wp2
      go_ret
      exact HMK.out
    · have HSL : Hid (s.length ≤ 1048576) := hs
      obtain ⟨sl, hsl⟩ : ∃ sl, s.length = sl := ⟨_, rfl⟩
      have hsl2 : sl ≤ 1048576 := by omega
      have HSZ : Hid ((bsOf s).size = sl) := by show _ = _; rw [bs_size, hsl]
      have HUW : Hid (IntKind.u64.wrap (sl : Int) = (sl : Int)) := by show _ = _; rw [IntKind.wrap_u64]; omega
      have HSU : Hid (sl < 18446744073709551616) := by show _ < _; omega
      have HM5 : Hid (m5 ≤ 140737488340000) := by show _ ≤ _; omega
      have hvl := var_len (u := sl) HSU.out
      have HN8 : Hid ((b5 ++ varN sl).length + (strI s).length ≤ 100000000) := by show _ ≤ _; rw [List.length_append, strI_len, HM.out]; omega
      obtain ⟨b8, hb8⟩ : ∃ b8, b5 ++ varN sl ++ strI s = b8 := ⟨_, rfl⟩
      have HB8 := Lib.hid hb8
      have HE : Hid (bs ++ bv = b8) := by show _ = _; rw [← hb8, HBV.out, ← HB5.out, ← hsl]; simp
      have HR5 : Hid (Rd (fun _ => True) W .u8 (some ⟨g5, 0, none⟩) m5 c5 b5) := (Rd.of_row HM.out.symm hc5 (by omega) HO5.out).mono fun _ _ _ => trivial
      have HTW := HT1
      have HBW := HB1
      clear hsl hb8 hvl hs HT1 HB1 HBV
      go_upto_region 8 with fail
      generalize W = W1 at *
      clear c0 c1
      refine wp_region_fresh (base := W1.heap.size) (us := [none, none, none, none, none, some 9, none, none, some 9, none, none]) (ws := [9]) (bs := [true, true, true, true, true, false, true, true, false, false, false]) (fs := [Fact.is (.slice (some ⟨g5, 0, none⟩) m5 c5), Fact.is (.pointer (some ⟨B, 2, none⟩)), Fact.is (.string (bsOf s)), Fact.is (.int .i64 (sl : Int)), Fact.is (.int .u64 (sl : Int)), RowF W1.heap.size (b5 ++ varN sl), Fact.is (.pointer (some ⟨B, 2, none⟩)), Fact.is (.string (bsOf s)), SlRd (strI s), RowF W1.heap.size b8, RowF W1.heap.size b8]) 8 (by kernel_rfl) (by kernel_rfl) (by kernel_rfl) (by kernel_rfl) (Nat.le_refl _) ⟨Fact.is_stable _, Fact.is_stable _, Fact.is_stable _, Fact.is_stable _, Fact.is_stable _, rowF_stable _ _, Fact.is_stable _, Fact.is_stable _, slrd_stable _, rowF_stable _ _, rowF_stable _ _, trivial⟩ ⟨(fun _ => Fact.is_firm _ _), (fun _ => Fact.is_firm _ _), (fun _ => Fact.is_firm _ _), (fun _ => Fact.is_firm _ _), (fun _ => Fact.is_firm _ _), (fun h => by cases h), (fun _ => Fact.is_firm _ _), (fun _ => Fact.is_firm _ _), (fun h => by cases h), (fun h => by cases h), (fun h => by cases h), trivial⟩ ?_ ?_
      · exact ⟨by
            intro a W hA hB hd hFR
            have hB := Lib.hid hB
            have p3 : a.eval (.tmp 3) = .pointer (some ⟨B, 0, none⟩) := hA.at 3 (by kernel_rfl)
            have p5 : a.eval (.tmp 5) = .slice (some ⟨g5, 0, none⟩) m5 c5 := hFR 10 5 rfl (by kernel_rfl)
            exact step2_of (step_pure (wanted_none rfl) (.slice (some ⟨g5, 0, none⟩) m5 c5) (by simp [execOp, go_sem, tm p5]) rfl),
          by
            intro a W hA hB hd hFR
            have hB := Lib.hid hB
            have p3 : a.eval (.tmp 3) = .pointer (some ⟨B, 0, none⟩) := hA.at 3 (by kernel_rfl)
            exact step2_of (step_pure (wanted_none rfl) (.pointer (some ⟨B, 2, none⟩)) (by simp [execOp, go_sem, tm p3]) rfl),
          by
            intro a W hA hB hd hFR
            obtain ⟨q0, -⟩ := hd
            have h34 : a.eval (.tmp 34) = .pointer (some ⟨B, 2, none⟩) := q0
            have hB := Lib.hid hB
            have p3 : a.eval (.tmp 3) = .pointer (some ⟨B, 0, none⟩) := hA.at 3 (by kernel_rfl)
            have c2 := (HTW.out.below hB.out HTW.out.lt).c2
            exact step2_of (step_pure (wanted_none rfl) (.string (bsOf s)) (by simp [execOp, go_sem, tm h34, c2]) rfl),
          by
            intro a W hA hB hd hFR
            obtain ⟨q0, -⟩ := hd
            have h35 : a.eval (.tmp 35) = .string (bsOf s) := q0
            have hB := Lib.hid hB
            have p3 : a.eval (.tmp 3) = .pointer (some ⟨B, 0, none⟩) := hA.at 3 (by kernel_rfl)
            exact step2_of (step_pure (wanted_none rfl) (.int .i64 (sl : Int)) (by simp [go_sem, tm h35, HSZ.out]) rfl),
          by
            intro a W hA hB hd hFR
            obtain ⟨q0, -⟩ := hd
            have h36 : a.eval (.tmp 36) = .int .i64 (sl : Int) := q0
            have hB := Lib.hid hB
            have p3 : a.eval (.tmp 3) = .pointer (some ⟨B, 0, none⟩) := hA.at 3 (by kernel_rfl)
            exact step2_of (step_pure (wanted_none rfl) (.int .u64 (sl : Int)) (by simp [execOp, go_sem, tm h36, HUW.out]) rfl),
          by
            intro a W hA hB hd hFR
            obtain ⟨q0, q1, -⟩ := hd
            have h33 : a.eval (.tmp 33) = .slice (some ⟨g5, 0, none⟩) m5 c5 := q0
            have h37 : a.eval (.tmp 37) = .int .u64 (sl : Int) := q1
            have hB := Lib.hid hB
            have p3 : a.eval (.tmp 3) = .pointer (some ⟨B, 0, none⟩) := hA.at 3 (by kernel_rfl)
            exact step2_of (step_calls (wanted_none rfl) rfl (vals := #[.slice (some ⟨g5, 0, none⟩) m5 c5, .int .u64 (sl : Int)]) (by simp [h33, h37]) (enters_of Tryz.func103 (by kernel_rfl) rfl) (makes_row hB.out.size (varintR_any _ _ _ _ _ sl HSU.out W (HR5.out.below hB.out) HM5.out))),
          by
            intro a W hA hB hd hFR
            have hB := Lib.hid hB
            have p3 : a.eval (.tmp 3) = .pointer (some ⟨B, 0, none⟩) := hA.at 3 (by kernel_rfl)
            exact step2_of (step_pure (wanted_none rfl) (.pointer (some ⟨B, 2, none⟩)) (by simp [execOp, go_sem, tm p3]) rfl),
          by
            intro a W hA hB hd hFR
            obtain ⟨q0, -⟩ := hd
            have h39 : a.eval (.tmp 39) = .pointer (some ⟨B, 2, none⟩) := q0
            have hB := Lib.hid hB
            have p3 : a.eval (.tmp 3) = .pointer (some ⟨B, 0, none⟩) := hA.at 3 (by kernel_rfl)
            have c2 := (HTW.out.below hB.out HTW.out.lt).c2
            exact step2_of (step_pure (wanted_none rfl) (.string (bsOf s)) (by simp [execOp, go_sem, tm h39, c2]) rfl),
          by
            intro a W hA hB hd hFR
            obtain ⟨q0, -⟩ := hd
            have h40 : a.eval (.tmp 40) = .string (bsOf s) := q0
            have hB := Lib.hid hB
            have p3 : a.eval (.tmp 3) = .pointer (some ⟨B, 0, none⟩) := hA.at 3 (by kernel_rfl)
            obtain ⟨V2, cap2, kc, hcap, hcm, hb2, hsz2, hc2⟩ := conv_str s HSL.out W
            exact step2_of (step_lays (wanted_none rfl) (.slice (some ⟨W.heap.size, 0, none⟩) s.length cap2) V2 (by simp [execOp, go_sem, tm h40, kc]) hb2 (slrd_conv hcap hcm HSL.out (by rw [hsz2]; exact Nat.lt_succ_self _) hc2)),
          by
            intro a W hA hB hd hFR
            obtain ⟨q0, q1, q2, -⟩ := hd
            have h38 : (RowF W1.heap.size (b5 ++ varN sl)) (a.eval (.tmp 38)) W := q0
            have h41 : (SlRd (strI s)) (a.eval (.tmp 41)) W := q1
            have hB := Lib.hid hB
            have p3 : a.eval (.tmp 3) = .pointer (some ⟨B, 0, none⟩) := hA.at 3 (by kernel_rfl)
            obtain ⟨gq, nq, cq, e41, r41⟩ := h41
            obtain ⟨v', w', hr, h1, h2⟩ := rowF_append h38 r41 hB.out.size (by rw [r41.hl]; exact HN8.out)
            rw [HB8.out] at h1
            exact step2_append (wanted_none rfl) (.tmp 38) (.tmp 41) 42 42 rfl rfl e41 hr h2 h1,
          by
            intro a W hA hB hd hFR
            obtain ⟨q0, -⟩ := hd
            have h42 : (RowF W1.heap.size b8) (a.eval (.tmp 42)) W := q0
            have hB := Lib.hid hB
            have p3 : a.eval (.tmp 3) = .pointer (some ⟨B, 0, none⟩) := hA.at 3 (by kernel_rfl)
            exact step2_of (step_pure (wanted_none rfl) (a.eval (.tmp 42)) (by simp [execOp, go_sem]) h42), trivial⟩
      · intro ax W hA hB hE
        have f5 : (RowF W1.heap.size b8) (ax.eval (.tmp 5)) W := hE.2.2.2.2.2.2.2.2.2.2.1
        obtain ⟨g8, c8, e8, hc8, ho8⟩ := f5
        have hp := hA.puts [33, 34, 35, 36, 37, 38, 39, 40, 41, 42, 5] (by kernel_rfl)
        clear hA hE
        simp only [putAll, e8] at hp
        clear e8
        generalize ax.eval = ev8 at hp
        subst hp
        have HMK : Hid (Makes w (.returned (.slice (some ⟨g8, 0, none⟩) b8.length c8)) W (bs ++ bv)) := by
          show Makes _ _ _ _
          rw [HE.out]
          exact ⟨g8, c8, rfl, hc8, ho8.mono HBW.out.size, HBW.out.trans (hB.mono HBW.out.size)⟩
        generalize b8.length = L at *
        clear hc8 ho8 hB HE HB8 HN8
        simp [Act.put]
        go_step
        go_step
        go_wp2
        go_ret
        exact HMK.out

end Go.Proofs.YtocnkjnlmciojaaGreatDoor

namespace Go.Proofs.YtocnkjnlmciojaaGreatDoor
open Go Go.RowKit Go.Shelf Go.ChangeShapes Go.WideShapes Go.ChangeAt

set_option maxRecDepth 100000 in
set_option maxHeartbeats 2000000 in
theorem rappendList_any {K K' : Nat → Prop} {a a' : Option Addr} {n c n' c' : Nat} {bs : List Int} {vs : List Vl} (hW : Wides vs) {w : World} (hR : Rd K w .u8 a n c bs) (hV : RdV K' w a' n' c' vs) (hn : n ≤ 100000) (hl : n' ≤ 1000) :
    Calls Tryz.prog 51 #[.slice a n c, .slice a' n' c'] w fun e w' => Makes w e w' (bs ++ listV vs) := by
  obtain ⟨i0, hi, hz0, hz1, hz2⟩ := info_parts Tryz.infoB
  have HR := Lib.hid hR
  have HV := Lib.hid hV
  have HW := Lib.hid hW
  have hfit := hV.fit
  have HL := Lib.hid hV.hl
  have hln := hR.hl
  have hcv : IntKind.u64.wrap (n' : Int) = (n' : Int) := by rw [IntKind.wrap_u64]; omega
  have HFL : Hid (∀ k, (bs ++ varN n' ++ flatV (vs.take k)).length ≤ 110100 + n) := fun k => by
    have h1 := flat_len (hW.take k)
    have h2 := var_len (u := n') (by omega)
    have h3 : (vs.take k).length ≤ vs.length := by rw [List.length_take]; exact Nat.min_le_right _ _
    have h4 := HL.out
    rw [List.length_append, List.length_append, ← hln]
    omega
  have HLV : Hid (bs ++ varN n' ++ flatV (vs.take n') = bs ++ listV vs) := by
    show _ = _
    unfold listV
    rw [HL.out, List.take_length, List.append_assoc]
  clear hR hV hW hln
  go_enter Tryz.func51, Tryz.ntmps51
  go_wp2_with fail
  refine (varintR_any K a n c bs n' (by omega) w HR.out (by omega)).mono ?_
  rintro e w1 ⟨g, cg, rfl, hcg, hrow, hb⟩
  have HB1 := Lib.hid hb
  have HX1 : Hid ((bs ++ varN n').length = (bs ++ varN n' ++ flatV (vs.take 0)).length ∧ w1.ownsRow w.heap.size 5 1 (.slice (some ⟨g, 0, none⟩) (bs ++ varN n').length cg) (bs ++ varN n').length ((bs ++ varN n' ++ flatV (vs.take 0)).map (Value.int .u8)) ∧ (bs ++ varN n').length ≤ cg) := by
    rw [List.take_zero, show flatV [] = [] from rfl, List.append_nil]
    exact ⟨rfl, hrow, hcg⟩
  clear hb hrow hcg
  generalize (bs ++ varN n').length = m0 at *
  go_wp2
  go_loopw [5, 6] (fun b i wr => ∃ k g c m : Nat, k ≤ n' ∧ i = .int .i64 k ∧ b = .slice (some ⟨g, 0, none⟩) m c ∧ Hid (m = (bs ++ varN n' ++ flatV (vs.take k)).length ∧ wr.ownsRow w.heap.size 5 1 (.slice (some ⟨g, 0, none⟩) m c) m ((bs ++ varN n' ++ flatV (vs.take k)).map (Value.int .u8)) ∧ m ≤ c) ∧ Hid (Below w.heap.size w wr)) (fun _ i _ => n' - (intOf i).toNat)
  case atStart => exact ⟨0, g, cg, m0, Nat.zero_le _, rfl, rfl, HX1, HB1⟩
  case round =>
    obtain ⟨k, g, c, m, hk, rfl, rfl, HX, HB⟩ := hrel
    by_cases hlt : k < n'
    · obtain ⟨vb, vo, rfl, _, hvb, hvc⟩ := HV.out.cells (by omega)
      obtain ⟨c0, c1, c2⟩ := hvc k hlt
      have c0 := (HB.out.cell (p := ⟨vb, vo + k * 3, none⟩) hvb).trans c0
      have c1 := (HB.out.cell (p := ⟨vb, vo + k * 3 + 1, none⟩) hvb).trans c1
      have c2 := (HB.out.cell (p := ⟨vb, vo + k * 3 + 2, none⟩) hvb).trans c2
      have hkV : k < vs.length := by rw [← HL.out]; exact hlt
      have HFT := Lib.hid (flat_take hkV)
      have HWK := Lib.hid (HW.out.at hkV)
      have hFL := HFL.out (k + 1)
      have hbr : vb < wr.heap.size := Nat.lt_of_lt_of_le hvb HB.out.size
      clear hvc hkV
      generalize vs[k]?.getD Vl.null = p at *
      obtain ⟨pk, pi, ps⟩ := p
      dsimp only at c0 c1 c2
      have hFK := HFL.out k
      have HRK : Hid (Rd (fun _ => True) wr .u8 (some ⟨g, 0, none⟩) m c (bs ++ varN n' ++ flatV (vs.take k))) := (Rd.of_row HX.out.1 HX.out.2.2 (by have := HX.out.1; omega) HX.out.2.1).mono fun _ _ _ => trivial
      have hm1 : m ≤ 1000000 := by have := HX.out.1; omega
      have HBF := Lib.hid (rappend_any ⟨pk, pi, ps⟩ HWK.out.2 HWK.out.1 HRK.out hm1)
      have HFT2 : Hid (bs ++ varN n' ++ flatV (vs.take k) ++ bytesV ⟨pk, pi, ps⟩ = bs ++ varN n' ++ flatV (vs.take (k + 1))) := by show _ = _; rw [HFT.out]; simp only [List.append_assoc]
      rw [HFT2.out] at HBF
      clear HRK HX HFT HFT2 hFK hbr HWK
      go_wp2_with fail
      refine HBF.out.mono ?_
      rintro e w5 ⟨g5, c5, rfl, hfit5, hrow5, hb5⟩
      obtain ⟨m5, hm5⟩ : ∃ m5, (bs ++ varN n' ++ flatV (vs.take (k + 1))).length = m5 := ⟨_, rfl⟩
      have HX5 : Hid (m5 = (bs ++ varN n' ++ flatV (vs.take (k + 1))).length ∧ w5.ownsRow w.heap.size 5 1 (.slice (some ⟨g5, 0, none⟩) m5 c5) m5 ((bs ++ varN n' ++ flatV (vs.take (k + 1))).map (Value.int .u8)) ∧ m5 ≤ c5) := by
        rw [hm5] at hfit5 hrow5
        exact ⟨hm5.symm, hrow5.mono HB.out.size, hfit5⟩
      have HB5 : Hid (Below w.heap.size w w5) := HB.out.trans (hb5.mono HB.out.size)
      rw [hm5]
      clear hfit5 hrow5 hb5 hm5 hFL c0 c1 c2 HBF
      go_wp2
      go_roundw
      case rel => exact ⟨k + 1, g5, c5, m5, by omega, by go_num, rfl, HX5, HB5⟩
      case measure => simp [intOf]; omega
    · obtain rfl : k = n' := by omega
      have HXE : Hid (m = (bs ++ listV vs).length ∧ wr.ownsRow w.heap.size 5 1 (.slice (some ⟨g, 0, none⟩) m c) m ((bs ++ listV vs).map (Value.int .u8)) ∧ m ≤ c) := by
        rw [← HLV.out]; exact HX.out
      clear HX
      go_wp2
      go_ret
      obtain ⟨h1, h2, h3⟩ := HXE.out
      subst h1
      exact ⟨g, c, rfl, h3, h2, HB.out⟩

end Go.Proofs.YtocnkjnlmciojaaGreatDoor
