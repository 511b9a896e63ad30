/-
  A region that draws its order, lays variables of its own and stores what calls gave into them: where each variable lies, and what it holds, whatever the order. A region that draws its order, lays variables of its own and stores what calls gave into them, where what they gave is known by facts alone: where each variable lies, and that it holds what its source slot holds, whatever the order. A drawn region that appends in place to rows of bytes of its own: facts on blocks of any other kind stand all the same. A region that draws its order, lays variables of its own, stores what calls gave into them, and appends in place to rows of bytes of its own: what a call gave stands beside an append where the append's own step says so; a fact may speak of one more slot, the companion. Whether two opened files, or two lists of files, are equal; made files. A file that is made of a raw one.
-/
import Derived.Test.YtkfmgiacdlkmiaaRegFacts
import Derived.RangeFuncBox
import Derived.Test.YtkfmgiacdlkmiaaCtWrap
import Derived.Lib.QuietBelow
import Derived.Deep.Cut
namespace Go.Proofs.Ytkfmgiacdlkmiaa
open Go Go.RowKit Go.Shelf

/-- A variable: the operations that lay it and that store it, its slot, its type, what it holds ahead of the store and behind it. -/
structure VarOp where
  al : Nat
  st : Nat
  slot : Nat
  ty : TypeId
  z : Array Value
  c : Array Value

/-- Where a variable lies, and what it holds. -/
def Lies (base : Nat) (b : Bool) (x : Value) (W : World) (v : VarOp) : Prop :=
  ∃ B, x = .pointer (some ⟨B, 0, none⟩) ∧ base ≤ B ∧ B < W.heap.size ∧ W.heap[B]? = some (.cells (if b then v.c else v.z) v.ty (0, 0))
/-- A store into one block. -/
def Puts (W : World) (B : Nat) (c : Array Value) (ty : TypeId) (W' : World) : Prop :=
  W'.os = W.os ∧ W'.tape = W.tape ∧ W'.output = W.output ∧ W'.heap.size = W.heap.size ∧ W'.heap[B]? = some (.cells c ty (0, 0)) ∧ ∀ b, b ≠ B → W'.heap[b]? = W.heap[b]?
theorem Puts.below {W W' : World} {B base : Nat} {c : Array Value} {ty : TypeId} (h : Puts W B c ty W') (hb : base ≤ B) : Below base W W' :=
  ⟨h.1, h.2.1, h.2.2.1, by rw [h.2.2.2.1]; exact Nat.le_refl _, fun b hlt => h.2.2.2.2.2 b (by omega)⟩

/-- What each operation must do: one that lays a variable, one that stores it, any other one. -/
def Step3 (P : Program) (ops : Array Oper) (Q : Exit → Act → World → Prop) (a0 : Act) (w0 : World) (base : Nat) (fs : List Fact) (vs : List VarOp) (k : Nat) (o : Oper) : Prop :=
  match vs.find? (fun v => v.al == k) with
  | some v => o.guard = none ∧ ∀ (a : Act) (W : World), (execOp a.eval o).run P W = .ok (.value (.pointer (some ⟨W.heap.size, 0, none⟩))) (W.alloc (.cells v.z v.ty))
  | none => match vs.find? (fun v => v.st == k) with
    | some v => o.guard = none ∧ (o.after.toList.any fun e => Region.binds .any e && e.on == v.al) = true ∧ ∀ (a : Act) (W : World) (B : Nat), Agree ops a0 a → Below base w0 W → Waits fs ops a W o.after.toList → a.eval (.tmp v.slot) = .pointer (some ⟨B, 0, none⟩) → W.heap[B]? = some (.cells v.z v.ty (0, 0)) →
        o.wp P a W (fun a' W' => a' = a ∧ Puts W B v.c v.ty W') Q
    | none => ∀ (a : Act) (W : World), Agree ops a0 a → Below base w0 W → Waits fs ops a W o.after.toList → StepOk P ops Q (fs.getD k Fact.no) o a W
def Steps3 (P : Program) (ops : Array Oper) (Q : Exit → Act → World → Prop) (a0 : Act) (w0 : World) (base : Nat) (fs : List Fact) (vs : List VarOp) : Nat → List Oper → Prop
  | _, [] => True
  | k, o :: r => Step3 P ops Q a0 w0 base fs vs k o ∧ Steps3 P ops Q a0 w0 base fs vs (k + 1) r

/-- Slots, places: each of its own. -/
def keysB (ops : Array Oper) (bs : List Bool) (vs : List VarOp) : Bool :=
  (vs.all fun v => bs.getD v.al false && decide (v.al < ops.size) && decide (v.st < ops.size) && ((ops[v.al]?).bind (·.dst) == some v.slot) && ((ops[v.st]?).map (·.dst) == some none)) && (vs.all fun u => vs.all fun v => u.al != v.st)
/-- No two share an operation. -/
def Apart : List VarOp → Prop
  | [] => True
  | v :: r => (∀ u ∈ r, u.al ≠ v.al ∧ u.st ≠ v.st) ∧ Apart r
theorem Apart.same : ∀ {vs : List VarOp}, Apart vs → ∀ {u v : VarOp}, u ∈ vs → v ∈ vs → (u.al = v.al ∨ u.st = v.st) → u = v
  | [], _, u, v, hu, _, _ => by cases hu
  | x :: r, h, u, v, hu, hv, he => by
    rcases List.mem_cons.1 hu with rfl | hu'
    · rcases List.mem_cons.1 hv with rfl | hv'
      · rfl
      · have := h.1 v hv'
        rcases he with e | e
        · exact absurd e.symm this.1
        · exact absurd e.symm this.2
    · rcases List.mem_cons.1 hv with rfl | hv'
      · have := h.1 u hu'
        rcases he with e | e
        · exact absurd e this.1
        · exact absurd e this.2
      · exact Apart.same h.2 hu' hv' he
def AllNo : List Fact → List Bool → Prop
  | φ :: r, b :: s => (b = true → φ = Fact.no) ∧ AllNo r s
  | _, _ => True
theorem AllNo.at : ∀ {fs : List Fact} {bs : List Bool}, AllNo fs bs → ∀ i, bs.getD i false = true → fs.getD i Fact.no = Fact.no
  | [], _, _, _, _ => rfl
  | _ :: _, [], _, _, h => by simp at h
  | _ :: _, _ :: _, h, 0, hb => h.1 hb
  | _ :: _, _ :: _, h, i + 1, hb => AllNo.at h.2 i hb
def AllFirm1 (base : Nat) : List Fact → Prop
  | [] => True
  | φ :: r => φ.Firm base ∧ AllFirm1 base r
theorem AllFirm1.at {base : Nat} : ∀ {fs : List Fact}, AllFirm1 base fs → ∀ i, (fs.getD i Fact.no).Firm base
  | [], _, _ => Fact.no_firm base
  | _ :: _, h, 0 => h.1
  | _ :: _, h, i + 1 => AllFirm1.at h.2 i

/-- Behind the region. -/
def Ends3 (base : Nat) (a : Act) (W : World) (vs : List VarOp) : Prop :=
  (∀ v ∈ vs, Lies base true (a.eval (.tmp v.slot)) W v) ∧ ∀ u ∈ vs, ∀ v ∈ vs, u ≠ v → a.eval (.tmp u.slot) ≠ a.eval (.tmp v.slot)

section
variable {P : Program} {ops : Array Oper} {Q : Exit → Act → World → Prop} {a0 : Act} {w0 : World} {base : Nat} {fs : List Fact} {vs : List VarOp}
theorem Steps3.at : ∀ {l : List Oper} {k : Nat}, Steps3 P ops Q a0 w0 base fs vs k l → ∀ {i : Nat} {o : Oper}, l[i]? = some o → Step3 P ops Q a0 w0 base fs vs (k + i) o
  | [], _, _, i, o, hi => by simp at hi
  | o' :: r, k, h, 0, o, hi => by
    obtain rfl : o' = o := by simpa using hi
    exact h.1
  | o' :: r, k, h, i + 1, o, hi => by
    have := Steps3.at h.2 (i := i) (o := o) (by simpa using hi)
    rwa [show k + 1 + i = k + (i + 1) by omega] at this

theorem step3_other {k : Nat} {o : Oper} (h1 : vs.find? (fun v => v.al == k) = none) (h2 : vs.find? (fun v => v.st == k) = none) (h : ∀ (a : Act) (W : World), Agree ops a0 a → Below base w0 W → Waits fs ops a W o.after.toList → StepOk P ops Q (fs.getD k Fact.no) o a W) : Step3 P ops Q a0 w0 base fs vs k o := by
  unfold Step3; rw [h1, h2]; exact h
theorem step3_al {k : Nat} {o : Oper} (v : VarOp) (h1 : vs.find? (fun v => v.al == k) = some v) (hg : o.guard = none) (h : ∀ (a : Act) (W : World), (execOp a.eval o).run P W = .ok (.value (.pointer (some ⟨W.heap.size, 0, none⟩))) (W.alloc (.cells v.z v.ty))) : Step3 P ops Q a0 w0 base fs vs k o := by
  unfold Step3; rw [h1]; exact ⟨hg, h⟩
theorem step3_st {k : Nat} {o : Oper} (v : VarOp) (h1 : vs.find? (fun v => v.al == k) = none) (h2 : vs.find? (fun v => v.st == k) = some v) (hg : o.guard = none) (ha : (o.after.toList.any fun e => Region.binds .any e && e.on == v.al) = true)
    (h : ∀ (a : Act) (W : World) (B : Nat), Agree ops a0 a → Below base w0 W → Waits fs ops a W o.after.toList → a.eval (.tmp v.slot) = .pointer (some ⟨B, 0, none⟩) → W.heap[B]? = some (.cells v.z v.ty (0, 0)) → o.wp P a W (fun a' W' => a' = a ∧ Puts W B v.c v.ty W') Q) : Step3 P ops Q a0 w0 base fs vs k o := by
  unfold Step3; rw [h1, h2]; exact ⟨hg, ha, h⟩

theorem Lies.keep {b : Bool} {x : Value} {W W' : World} {v : VarOp} (h : Lies base b x W v) (hb : Below W.heap.size W W') : Lies base b x W' v := by
  obtain ⟨B, h1, h2, h3, h4⟩ := h
  exact ⟨B, h1, h2, Nat.lt_of_lt_of_le h3 hb.size, (hb.block B h3).trans h4⟩

theorem wp_region_vars {id : Nat} {bs : List Bool} (hm : P.follows .mixedOrders = true) (hlow : lowB .any ops = true) (hout : outB ops a0.tmps.size = true) (hk : keysB ops bs vs = true) (hap : Apart vs) (hbase : base = w0.heap.size)
    (hno : AllNo fs bs) (hfi : AllFirm1 base fs)
    (hstep : Steps3 P ops Q a0 w0 base fs vs 0 ops.toList) (hend : ∀ a W, Agree ops a0 a → Below base w0 W → Ends3 base a W vs → Q .normal a W) : (Code.region id ops true).wp P Q a0 w0 := by
  unfold keysB at hk
  simp only [Bool.and_eq_true, List.all_eq_true] at hk
  obtain ⟨hk1, hk2⟩ := hk
  have hvp : ∀ v ∈ vs, bs.getD v.al false = true ∧ v.al < ops.size ∧ v.st < ops.size ∧ (ops[v.al]?).bind (·.dst) = some v.slot ∧ (ops[v.st]?).map (·.dst) = some none := by
    intro v hvm
    have := hk1 v hvm
    simp only [decide_eq_true_eq, beq_iff_eq] at this
    exact ⟨this.1.1.1.1, this.1.1.1.2, this.1.1.2, this.1.2, this.2⟩
  have hvx : ∀ u ∈ vs, ∀ v ∈ vs, u.al ≠ v.st := by
    intro u hu v hvm
    have := hk2 u hu v hvm
    simpa using this
  clear hk1 hk2
  refine wp_region_inv (I := fun d a W => Agree ops a0 a ∧ Below base w0 W ∧ (∀ i t, d i = true → (ops[i]?).bind (·.dst) = some t → (fs.getD i Fact.no) (a.eval (.tmp t)) W) ∧ (∀ v ∈ vs, d v.al = true → Lies base (d v.st) (a.eval (.tmp v.slot)) W v) ∧
    (∀ u ∈ vs, ∀ v ∈ vs, u ≠ v → d u.al = true → d v.al = true → a.eval (.tmp u.slot) ≠ a.eval (.tmp v.slot)) ∧ (∀ v ∈ vs, d v.st = true → d v.al = true)) hm hlow ?_ ?_ ?_
  · exact ⟨⟨rfl, rfl, fun _ _ => rfl⟩, ⟨rfl, rfl, rfl, Nat.le_refl _, fun _ _ => rfl⟩, fun i t (h : false = true) => (by cases h), fun v _ (h : false = true) => (by cases h), fun u _ v _ _ (h : false = true) => (by cases h), fun v _ (h : false = true) => (by cases h)⟩
  · intro i o d a W hi hdi hdep ⟨hA, hB, hF, hL, hD, hS⟩
    have hs := Steps3.at hstep (i := i) (o := o) (by simpa using hi)
    rw [Nat.zero_add] at hs
    have hW : Waits fs ops a W o.after.toList := Waits.of _ fun e he hb t ht => hF e.on t (hdep e (by simpa using he) hb) ht
    have hiW : base ≤ W.heap.size := by subst hbase; exact hB.size
    have hio : (ops[i]?).bind (·.dst) = o.dst := by rw [hi]; rfl
    have hAp : ∀ u, Agree ops a0 (a.put o.dst u) := fun u => by
      cases hd : o.dst with
      | none => exact ⟨hA.size, hA.defers, hA.other⟩
      | some s =>
        refine ⟨by simp [Act.put, hA.size], by simp [Act.put, hA.defers], fun t ht => ?_⟩
        rw [eval_put_ne (fun e => ht i (by rw [hio, hd, e]))]
        exact hA.other t ht
    have hkeep : ∀ (u : Value) t j, j ≠ i → (ops[j]?).bind (·.dst) = some t → (a.put o.dst u).eval (.tmp t) = a.eval (.tmp t) := fun u t j hji hj => by
      cases hd : o.dst with
      | none => rfl
      | some s => exact eval_put_ne (fun e => hji (outB_ne hout (hio.trans (hd.trans (by rw [e]))) hj)) u
    have hself : ∀ (u : Value) t, (ops[i]?).bind (·.dst) = some t → (a.put o.dst u).eval (.tmp t) = u := fun u t ht => by
      rw [hio] at ht
      rw [ht, eval_put_self (by rw [hA.size]; exact outB_lt hout (hio.trans ht))]
    have hSi : ∀ v ∈ vs, v.al = i → d v.st = false := fun v hv e => by
      cases h : d v.st with
      | false => rfl
      | true => have := hS v hv h; rw [e, hdi] at this; cases this
    unfold wpOp
    simp only [hi]
    unfold Step3 at hs
    cases hfa : vs.find? (fun v => v.al == i) with
    | some v =>
      rw [hfa] at hs
      obtain ⟨h2, h3⟩ := hs
      have hvm : v ∈ vs := List.mem_of_find?_eq_some hfa
      have hva : v.al = i := by simpa using List.find?_some hfa
      have hslot : (ops[i]?).bind (·.dst) = some v.slot := by rw [← hva]; exact (hvp v hvm).2.2.2.1
      rw [if_pos (wanted_none h2)]
      refine .inl ?_
      unfold Oper.wp
      rw [h3 a W]
      have hnew : Below W.heap.size W (W.alloc (.cells v.z v.ty)) := (Below.refl _ W).alloc (Nat.le_refl _) _
      have hst : ∀ u ∈ vs, u.st ≠ i := fun u hu e => hvx v hvm u hu (hva.trans e.symm)
      refine ⟨hAp _, hB.alloc hiW _, ?_, ?_, ?_, ?_⟩
      · intro j t hj ht
        by_cases hji : j = i
        · subst hji
          rw [hno.at j (by rw [← hva]; exact (hvp v hvm).1)]; trivial
        · rw [if_neg hji] at hj
          rw [hkeep _ t j hji ht]
          exact hfi.at j _ _ _ (hF j t hj ht) (hnew.mono hiW)
      · intro u hu hud
        rw [if_neg (hst u hu)]
        by_cases hui : u.al = i
        · obtain rfl : u = v := hap.same hu hvm (.inl (hui.trans hva.symm))
          rw [hSi u hu hui, hself _ _ hslot]
          exact ⟨W.heap.size, rfl, hiW, by simp, World.alloc_heap_new W _⟩
        · rw [if_neg hui] at hud
          rw [hkeep _ u.slot u.al hui (hvp u hu).2.2.2.1]
          exact (hL u hu hud).keep hnew
      · intro u hu x hx hne hud hxd
        by_cases hui : u.al = i
        · have hxi : x.al ≠ i := fun e => hne (hap.same hu hx (.inl (hui.trans e.symm)))
          rw [if_neg hxi] at hxd
          obtain ⟨B, h4, _, h5, _⟩ := hL x hx hxd
          rw [hself _ u.slot (by rw [← hui]; exact (hvp u hu).2.2.2.1), hkeep _ x.slot x.al hxi (hvp x hx).2.2.2.1, h4]
          intro e; cases e; omega
        · rw [if_neg hui] at hud
          rw [hkeep _ u.slot u.al hui (hvp u hu).2.2.2.1]
          by_cases hxi : x.al = i
          · obtain ⟨B, h4, _, h5, _⟩ := hL u hu hud
            rw [hself _ x.slot (by rw [← hxi]; exact (hvp x hx).2.2.2.1), h4]
            intro e; cases e; omega
          · rw [if_neg hxi] at hxd
            rw [hkeep _ x.slot x.al hxi (hvp x hx).2.2.2.1]
            exact hD u hu x hx hne hud hxd
      · intro u hu hud
        rw [if_neg (hst u hu)] at hud
        by_cases hui : u.al = i
        · rw [if_pos hui]
        · rw [if_neg hui]; exact hS u hu hud
    | none =>
      rw [hfa] at hs
      have hna : ∀ u ∈ vs, u.al ≠ i := fun u hu e => by
        have := List.find?_eq_none.1 hfa u hu
        simp [e] at this
      cases hfb : vs.find? (fun v => v.st == i) with
      | some v =>
        rw [hfb] at hs
        obtain ⟨h2, h3, h4⟩ := hs
        have hvm : v ∈ vs := List.mem_of_find?_eq_some hfb
        have hvs : v.st = i := by simpa using List.find?_some hfb
        have hdst : (ops[i]?).map (·.dst) = some none := by rw [← hvs]; exact (hvp v hvm).2.2.2.2
        have hval : d v.al = true := by
          rw [List.any_eq_true] at h3
          obtain ⟨e, he, heb⟩ := h3
          simp only [Bool.and_eq_true, beq_iff_eq] at heb
          rw [← heb.2]
          exact hdep e (by simpa using he) heb.1
        have hst0 : d v.st = false := by rw [hvs]; exact hdi
        have hLv := hL v hvm hval
        rw [hst0] at hLv
        obtain ⟨B, e1, e2, e3, e4⟩ := hLv
        rw [if_pos (wanted_none h2)]
        refine .inl (Oper.wp_mono (fun a' W' ⟨ea, hp⟩ => ?_) (h4 a W B hA hB hW e1 e4))
        subst ea
        refine ⟨hA, hB.trans (hp.below e2), ?_, ?_, ?_, ?_⟩
        · intro j t hj ht
          have hji : j ≠ i := fun e => by
            subst e
            rw [hi] at ht hdst
            simp at ht hdst
            rw [hdst] at ht; cases ht
          rw [if_neg hji] at hj
          exact hfi.at j _ _ _ (hF j t hj ht) (hp.below e2)
        · intro u hu hud
          rw [if_neg (hna u hu)] at hud
          by_cases hui : u.st = i
          · obtain rfl : u = v := hap.same hu hvm (.inr (hui.trans hvs.symm))
            rw [if_pos hui]
            exact ⟨B, e1, e2, by rw [hp.2.2.2.1]; exact e3, hp.2.2.2.2.1⟩
          · rw [if_neg hui]
            obtain ⟨C, g1, g2, g3, g4⟩ := hL u hu hud
            have hne : C ≠ B := fun e => by
              subst e
              exact hD u hu v hvm (fun e => hui (by rw [e]; exact hvs)) hud hval (g1.trans e1.symm)
            exact ⟨C, g1, g2, by rw [hp.2.2.2.1]; exact g3, (hp.2.2.2.2.2 C hne).trans g4⟩
        · intro u hu x hx hne hud hxd
          rw [if_neg (hna u hu)] at hud
          rw [if_neg (hna x hx)] at hxd
          exact hD u hu x hx hne hud hxd
        · intro u hu hud
          rw [if_neg (hna u hu)]
          by_cases hui : u.st = i
          · obtain rfl : u = v := hap.same hu hvm (.inr (hui.trans hvs.symm))
            exact hval
          · rw [if_neg hui] at hud
            exact hS u hu hud
      | none =>
        rw [hfb] at hs
        have hnb : ∀ u ∈ vs, u.st ≠ i := fun u hu e => by
          have := List.find?_eq_none.1 hfb u hu
          simp [e] at this
        have hs := hs a W hA hB hW
        have hafter : ∀ v W', Below W.heap.size W W' → (fs.getD i Fact.no) v W' → Agree ops a0 (a.put o.dst v) ∧ Below base w0 W' ∧ (∀ j t, (if j = i then true else d j) = true → (ops[j]?).bind (·.dst) = some t → (fs.getD j Fact.no) ((a.put o.dst v).eval (.tmp t)) W') ∧
            (∀ u ∈ vs, (if u.al = i then true else d u.al) = true → Lies base (if u.st = i then true else d u.st) ((a.put o.dst v).eval (.tmp u.slot)) W' u) ∧ (∀ u ∈ vs, ∀ x ∈ vs, u ≠ x → (if u.al = i then true else d u.al) = true → (if x.al = i then true else d x.al) = true → (a.put o.dst v).eval (.tmp u.slot) ≠ (a.put o.dst v).eval (.tmp x.slot)) ∧
            (∀ u ∈ vs, (if u.st = i then true else d u.st) = true → (if u.al = i then true else d u.al) = true) := by
          intro v W' hb hv
          refine ⟨hAp v, hB.trans (hb.mono hiW), ?_, ?_, ?_, ?_⟩
          · intro j t hj ht
            by_cases hji : j = i
            · subst hji
              rw [hself _ _ ht]; exact hv
            · rw [if_neg hji] at hj
              rw [hkeep _ t j hji ht]
              exact hfi.at j _ _ _ (hF j t hj ht) (hb.mono hiW)
          · intro u hu hud
            rw [if_neg (hna u hu)] at hud
            rw [if_neg (hnb u hu), hkeep _ u.slot u.al (hna u hu) (hvp u hu).2.2.2.1]
            exact (hL u hu hud).keep hb
          · intro u hu x hx hne hud hxd
            rw [if_neg (hna u hu)] at hud
            rw [if_neg (hna x hx)] at hxd
            rw [hkeep _ u.slot u.al (hna u hu) (hvp u hu).2.2.2.1, hkeep _ x.slot x.al (hna x hx) (hvp x hx).2.2.2.1]
            exact hD u hu x hx hne hud hxd
          · intro u hu hud
            rw [if_neg (hnb u hu)] at hud
            rw [if_neg (hna u hu)]
            exact hS u hu hud
        unfold StepOk at hs
        split
        · rename_i hw
          rw [if_pos hw] at hs
          exact .inl (Oper.wp_mono (fun a' W' ⟨v, e, hb, hv⟩ => by subst e; exact hafter v W' hb hv) hs)
        · rename_i hw
          rw [if_neg hw] at hs
          exact hafter undef W (Below.refl _ W) hs
  · intro d a W hall ⟨hA, hB, hF, hL, hD, hS⟩
    refine hend a W hA hB ⟨fun v hvm => ?_, fun u hu v hvm hne => hD u hu v hvm hne (hall _ (hvp u hu).2.1) (hall _ (hvp v hvm).2.1)⟩
    have := hL v hvm (hall _ (hvp v hvm).2.1)
    rw [hall _ (hvp v hvm).2.2.1] at this
    exact this
end

end Go.Proofs.Ytkfmgiacdlkmiaa

namespace Go.Proofs.Ytkfmgiacdlkmiaa
open Go Go.RowKit Go.Shelf

/-- A variable: the operations that lay it, that store it, and that yield what is stored; its slot, the source's slot, its type, and what it holds ahead of the store. -/
structure VarSrc where
  al : Nat
  st : Nat
  so : Nat
  slot : Nat
  src : Nat
  ty : TypeId
  z : Array Value

/-- Where a variable lies, and what it holds. -/
def LiesS (base : Nat) (b : Bool) (x y : Value) (W : World) (v : VarSrc) : Prop :=
  ∃ B, x = .pointer (some ⟨B, 0, none⟩) ∧ base ≤ B ∧ B < W.heap.size ∧ (if b = true then ∃ cs, y = .agg cs ∧ W.heap[B]? = some (.cells cs v.ty (0, 0)) else W.heap[B]? = some (.cells v.z v.ty (0, 0)))
/-- It stands when a variable is stored. -/
def Fact.PutS (vs : List VarSrc) (φ : Fact) : Prop := ∀ x W W' B cs, ∀ v ∈ vs, φ x W → W.heap[B]? = some (.cells v.z v.ty (0, 0)) → Puts W B cs v.ty W' → φ x W'
theorem Fact.is_putS (vs : List VarSrc) (u : Value) : (Fact.is u).PutS vs := fun _ _ _ _ _ _ _ h _ _ => h
theorem Fact.no_putS (vs : List VarSrc) : Fact.no.PutS vs := fun _ _ _ _ _ _ _ _ _ _ => trivial
def AllPutS (vs : List VarSrc) : List Fact → Prop
  | [] => True
  | φ :: r => φ.PutS vs ∧ AllPutS vs r
theorem AllPutS.at {vs : List VarSrc} : ∀ {fs : List Fact}, AllPutS vs fs → ∀ i, (fs.getD i Fact.no).PutS vs
  | [], _, _ => Fact.no_putS vs
  | _ :: _, h, 0 => h.1
  | _ :: _, h, i + 1 => AllPutS.at h.2 i

/-- What each operation must do: one that lays a variable, one that stores it, any other one. -/
def StepS (P : Program) (ops : Array Oper) (Q : Exit → Act → World → Prop) (a0 : Act) (w0 : World) (base : Nat) (fs : List Fact) (vs : List VarSrc) (k : Nat) (o : Oper) : Prop :=
  match vs.find? (fun v => v.al == k) with
  | some v => o.guard = none ∧ ∀ (a : Act) (W : World), (execOp a.eval o).run P W = .ok (.value (.pointer (some ⟨W.heap.size, 0, none⟩))) (W.alloc (.cells v.z v.ty))
  | none => match vs.find? (fun v => v.st == k) with
    | some v => o.guard = none ∧ (o.after.toList.any fun e => Region.binds .any e && e.on == v.al) = true ∧ (o.after.toList.any fun e => Region.binds .any e && e.on == v.so) = true ∧ ∀ (a : Act) (W : World) (B : Nat), Agree ops a0 a → Below base w0 W → Waits fs ops a W o.after.toList → a.eval (.tmp v.slot) = .pointer (some ⟨B, 0, none⟩) → W.heap[B]? = some (.cells v.z v.ty (0, 0)) →
        o.wp P a W (fun a' W' => a' = a ∧ ∃ cs, a.eval (.tmp v.src) = .agg cs ∧ Puts W B cs v.ty W') Q
    | none => ∀ (a : Act) (W : World), Agree ops a0 a → Below base w0 W → Waits fs ops a W o.after.toList → StepOk P ops Q (fs.getD k Fact.no) o a W
def StepsS (P : Program) (ops : Array Oper) (Q : Exit → Act → World → Prop) (a0 : Act) (w0 : World) (base : Nat) (fs : List Fact) (vs : List VarSrc) : Nat → List Oper → Prop
  | _, [] => True
  | k, o :: r => StepS P ops Q a0 w0 base fs vs k o ∧ StepsS P ops Q a0 w0 base fs vs (k + 1) r

/-- Slots, places: each of its own. -/
def keysS (ops : Array Oper) (bs : List Bool) (vs : List VarSrc) : Bool :=
  (vs.all fun v => bs.getD v.al false && decide (v.al < ops.size) && decide (v.st < ops.size) && ((ops[v.al]?).bind (·.dst) == some v.slot) && ((ops[v.st]?).map (·.dst) == some none) && decide (v.so < ops.size) && ((ops[v.so]?).bind (·.dst) == some v.src)) && (vs.all fun u => vs.all fun v => u.al != v.st)
/-- No two share an operation. -/
def ApartS : List VarSrc → Prop
  | [] => True
  | v :: r => (∀ u ∈ r, u.al ≠ v.al ∧ u.st ≠ v.st) ∧ ApartS r
theorem ApartS.same : ∀ {vs : List VarSrc}, ApartS vs → ∀ {u v : VarSrc}, u ∈ vs → v ∈ vs → (u.al = v.al ∨ u.st = v.st) → u = v
  | [], _, u, v, hu, _, _ => by cases hu
  | x :: r, h, u, v, hu, hv, he => by
    rcases List.mem_cons.1 hu with rfl | hu'
    · rcases List.mem_cons.1 hv with rfl | hv'
      · rfl
      · have := h.1 v hv'
        rcases he with e | e
        · exact absurd e.symm this.1
        · exact absurd e.symm this.2
    · rcases List.mem_cons.1 hv with rfl | hv'
      · have := h.1 u hu'
        rcases he with e | e
        · exact absurd e this.1
        · exact absurd e this.2
      · exact ApartS.same h.2 hu' hv' he
/-- Behind the region. -/
def EndsS (base : Nat) (a : Act) (W : World) (vs : List VarSrc) : Prop :=
  (∀ v ∈ vs, LiesS base true (a.eval (.tmp v.slot)) (a.eval (.tmp v.src)) W v) ∧ ∀ u ∈ vs, ∀ v ∈ vs, u ≠ v → a.eval (.tmp u.slot) ≠ a.eval (.tmp v.slot)

section
variable {P : Program} {ops : Array Oper} {Q : Exit → Act → World → Prop} {a0 : Act} {w0 : World} {base : Nat} {fs : List Fact} {vs : List VarSrc}
theorem StepsS.at : ∀ {l : List Oper} {k : Nat}, StepsS P ops Q a0 w0 base fs vs k l → ∀ {i : Nat} {o : Oper}, l[i]? = some o → StepS P ops Q a0 w0 base fs vs (k + i) o
  | [], _, _, i, o, hi => by simp at hi
  | o' :: r, k, h, 0, o, hi => by
    obtain rfl : o' = o := by simpa using hi
    exact h.1
  | o' :: r, k, h, i + 1, o, hi => by
    have := StepsS.at h.2 (i := i) (o := o) (by simpa using hi)
    rwa [show k + 1 + i = k + (i + 1) by omega] at this

theorem stepS_other {k : Nat} {o : Oper} (h1 : vs.find? (fun v => v.al == k) = none) (h2 : vs.find? (fun v => v.st == k) = none) (h : ∀ (a : Act) (W : World), Agree ops a0 a → Below base w0 W → Waits fs ops a W o.after.toList → StepOk P ops Q (fs.getD k Fact.no) o a W) : StepS P ops Q a0 w0 base fs vs k o := by
  unfold StepS; rw [h1, h2]; exact h
theorem stepS_al {k : Nat} {o : Oper} (v : VarSrc) (h1 : vs.find? (fun v => v.al == k) = some v) (hg : o.guard = none) (h : ∀ (a : Act) (W : World), (execOp a.eval o).run P W = .ok (.value (.pointer (some ⟨W.heap.size, 0, none⟩))) (W.alloc (.cells v.z v.ty))) : StepS P ops Q a0 w0 base fs vs k o := by
  unfold StepS; rw [h1]; exact ⟨hg, h⟩
theorem stepS_st {k : Nat} {o : Oper} (v : VarSrc) (h1 : vs.find? (fun v => v.al == k) = none) (h2 : vs.find? (fun v => v.st == k) = some v) (hg : o.guard = none) (ha : (o.after.toList.any fun e => Region.binds .any e && e.on == v.al) = true) (hb : (o.after.toList.any fun e => Region.binds .any e && e.on == v.so) = true)
    (h : ∀ (a : Act) (W : World) (B : Nat), Agree ops a0 a → Below base w0 W → Waits fs ops a W o.after.toList → a.eval (.tmp v.slot) = .pointer (some ⟨B, 0, none⟩) → W.heap[B]? = some (.cells v.z v.ty (0, 0)) → o.wp P a W (fun a' W' => a' = a ∧ ∃ cs, a.eval (.tmp v.src) = .agg cs ∧ Puts W B cs v.ty W') Q) : StepS P ops Q a0 w0 base fs vs k o := by
  unfold StepS; rw [h1, h2]; exact ⟨hg, ha, hb, h⟩

theorem LiesS.keep {b : Bool} {x y y' : Value} {W W' : World} {v : VarSrc} (h : LiesS base b x y W v) (hb : Below W.heap.size W W') (hy : b = true → y' = y) : LiesS base b x y' W' v := by
  obtain ⟨B, h1, h2, h3, h4⟩ := h
  refine ⟨B, h1, h2, Nat.lt_of_lt_of_le h3 hb.size, ?_⟩
  cases b with
  | true => obtain ⟨cs, e, h5⟩ := (h4 : ∃ cs, _); exact ⟨cs, (hy rfl).trans e, (hb.block B h3).trans h5⟩
  | false => exact (hb.block B h3).trans h4

theorem wp_region_srcs {id : Nat} {bs : List Bool} (hm : P.follows .mixedOrders = true) (hlow : lowB .any ops = true) (hout : outB ops a0.tmps.size = true) (hk : keysS ops bs vs = true) (hap : ApartS vs) (hbase : base = w0.heap.size)
    (hno : AllNo fs bs) (hst0 : AllStable fs) (hfi : AllPutS vs fs)
    (hstep : StepsS P ops Q a0 w0 base fs vs 0 ops.toList) (hend : ∀ a W, Agree ops a0 a → Below base w0 W → EndsS base a W vs → (∀ i t, (ops[i]?).bind (·.dst) = some t → (fs.getD i Fact.no) (a.eval (.tmp t)) W) → Q .normal a W) : (Code.region id ops true).wp P Q a0 w0 := by
  unfold keysS at hk
  simp only [Bool.and_eq_true, List.all_eq_true] at hk
  obtain ⟨hk1, hk2⟩ := hk
  have hvp : ∀ v ∈ vs, bs.getD v.al false = true ∧ v.al < ops.size ∧ v.st < ops.size ∧ (ops[v.al]?).bind (·.dst) = some v.slot ∧ (ops[v.st]?).map (·.dst) = some none ∧ (ops[v.so]?).bind (·.dst) = some v.src := by
    intro v hvm
    have := hk1 v hvm
    simp only [decide_eq_true_eq, beq_iff_eq] at this
    exact ⟨this.1.1.1.1.1.1, this.1.1.1.1.1.2, this.1.1.1.1.2, this.1.1.1.2, this.1.1.2, this.2⟩
  have hvx : ∀ u ∈ vs, ∀ v ∈ vs, u.al ≠ v.st := by
    intro u hu v hvm
    have := hk2 u hu v hvm
    simpa using this
  clear hk1 hk2
  refine wp_region_inv (I := fun d a W => Agree ops a0 a ∧ Below base w0 W ∧ (∀ i t, d i = true → (ops[i]?).bind (·.dst) = some t → (fs.getD i Fact.no) (a.eval (.tmp t)) W) ∧ (∀ v ∈ vs, d v.al = true → LiesS base (d v.st) (a.eval (.tmp v.slot)) (a.eval (.tmp v.src)) W v) ∧
    (∀ u ∈ vs, ∀ v ∈ vs, u ≠ v → d u.al = true → d v.al = true → a.eval (.tmp u.slot) ≠ a.eval (.tmp v.slot)) ∧ (∀ v ∈ vs, d v.st = true → d v.al = true ∧ d v.so = true)) hm hlow ?_ ?_ ?_
  · exact ⟨⟨rfl, rfl, fun _ _ => rfl⟩, ⟨rfl, rfl, rfl, Nat.le_refl _, fun _ _ => rfl⟩, fun i t (h : false = true) => (by cases h), fun v _ (h : false = true) => (by cases h), fun u _ v _ _ (h : false = true) => (by cases h), fun v _ (h : false = true) => (by cases h)⟩
  · intro i o d a W hi hdi hdep ⟨hA, hB, hF, hL, hD, hS⟩
    have hs := StepsS.at hstep (i := i) (o := o) (by simpa using hi)
    rw [Nat.zero_add] at hs
    have hW : Waits fs ops a W o.after.toList := Waits.of _ fun e he hb t ht => hF e.on t (hdep e (by simpa using he) hb) ht
    have hiW : base ≤ W.heap.size := by subst hbase; exact hB.size
    have hio : (ops[i]?).bind (·.dst) = o.dst := by rw [hi]; rfl
    have hAp : ∀ u, Agree ops a0 (a.put o.dst u) := fun u => by
      cases hd : o.dst with
      | none => exact ⟨hA.size, hA.defers, hA.other⟩
      | some s =>
        refine ⟨by simp [Act.put, hA.size], by simp [Act.put, hA.defers], fun t ht => ?_⟩
        rw [eval_put_ne (fun e => ht i (by rw [hio, hd, e]))]
        exact hA.other t ht
    have hkeep : ∀ (u : Value) t j, j ≠ i → (ops[j]?).bind (·.dst) = some t → (a.put o.dst u).eval (.tmp t) = a.eval (.tmp t) := fun u t j hji hj => by
      cases hd : o.dst with
      | none => rfl
      | some s => exact eval_put_ne (fun e => hji (outB_ne hout (hio.trans (hd.trans (by rw [e]))) hj)) u
    have hself : ∀ (u : Value) t, (ops[i]?).bind (·.dst) = some t → (a.put o.dst u).eval (.tmp t) = u := fun u t ht => by
      rw [hio] at ht
      rw [ht, eval_put_self (by rw [hA.size]; exact outB_lt hout (hio.trans ht))]
    have hSi : ∀ v ∈ vs, v.al = i → d v.st = false := fun v hv e => by
      cases h : d v.st with
      | false => rfl
      | true => have := (hS v hv h).1; rw [e, hdi] at this; cases this
    have hsrc : ∀ v ∈ vs, d v.st = true → ∀ u : Value, (a.put o.dst u).eval (.tmp v.src) = a.eval (.tmp v.src) := fun v hv h u =>
      hkeep u v.src v.so (fun e => by have := (hS v hv h).2; rw [e, hdi] at this; cases this) (hvp v hv).2.2.2.2.2
    unfold wpOp
    simp only [hi]
    unfold StepS at hs
    cases hfa : vs.find? (fun v => v.al == i) with
    | some v =>
      rw [hfa] at hs
      obtain ⟨h2, h3⟩ := hs
      have hvm : v ∈ vs := List.mem_of_find?_eq_some hfa
      have hva : v.al = i := by simpa using List.find?_some hfa
      have hslot : (ops[i]?).bind (·.dst) = some v.slot := by rw [← hva]; exact (hvp v hvm).2.2.2.1
      rw [if_pos (wanted_none h2)]
      refine .inl ?_
      unfold Oper.wp
      rw [h3 a W]
      have hnew : Below W.heap.size W (W.alloc (.cells v.z v.ty)) := (Below.refl _ W).alloc (Nat.le_refl _) _
      have hst : ∀ u ∈ vs, u.st ≠ i := fun u hu e => hvx v hvm u hu (hva.trans e.symm)
      refine ⟨hAp _, hB.alloc hiW _, ?_, ?_, ?_, ?_⟩
      · intro j t hj ht
        by_cases hji : j = i
        · subst hji
          rw [hno.at j (by rw [← hva]; exact (hvp v hvm).1)]; trivial
        · rw [if_neg hji] at hj
          rw [hkeep _ t j hji ht]
          exact hst0.at j _ _ _ (hF j t hj ht) hnew
      · intro u hu hud
        rw [if_neg (hst u hu)]
        by_cases hui : u.al = i
        · obtain rfl : u = v := hap.same hu hvm (.inl (hui.trans hva.symm))
          rw [hSi u hu hui, hself _ _ hslot]
          exact ⟨W.heap.size, rfl, hiW, by simp, World.alloc_heap_new W _⟩
        · rw [if_neg hui] at hud
          rw [hkeep _ u.slot u.al hui (hvp u hu).2.2.2.1]
          exact (hL u hu hud).keep hnew (fun h => hsrc u hu h _)
      · intro u hu x hx hne hud hxd
        by_cases hui : u.al = i
        · have hxi : x.al ≠ i := fun e => hne (hap.same hu hx (.inl (hui.trans e.symm)))
          rw [if_neg hxi] at hxd
          obtain ⟨B, h4, _, h5, _⟩ := hL x hx hxd
          rw [hself _ u.slot (by rw [← hui]; exact (hvp u hu).2.2.2.1), hkeep _ x.slot x.al hxi (hvp x hx).2.2.2.1, h4]
          intro e; cases e; omega
        · rw [if_neg hui] at hud
          rw [hkeep _ u.slot u.al hui (hvp u hu).2.2.2.1]
          by_cases hxi : x.al = i
          · obtain ⟨B, h4, _, h5, _⟩ := hL u hu hud
            rw [hself _ x.slot (by rw [← hxi]; exact (hvp x hx).2.2.2.1), h4]
            intro e; cases e; omega
          · rw [if_neg hxi] at hxd
            rw [hkeep _ x.slot x.al hxi (hvp x hx).2.2.2.1]
            exact hD u hu x hx hne hud hxd
      · intro u hu hud
        rw [if_neg (hst u hu)] at hud
        have hno2 : u.so ≠ i := fun e => by have := (hS u hu hud).2; rw [e, hdi] at this; cases this
        rw [if_neg hno2]
        refine ⟨?_, (hS u hu hud).2⟩
        by_cases hui : u.al = i
        · rw [if_pos hui]
        · rw [if_neg hui]; exact (hS u hu hud).1
    | none =>
      rw [hfa] at hs
      have hna : ∀ u ∈ vs, u.al ≠ i := fun u hu e => by
        have := List.find?_eq_none.1 hfa u hu
        simp [e] at this
      cases hfb : vs.find? (fun v => v.st == i) with
      | some v =>
        rw [hfb] at hs
        obtain ⟨h2, h3, h3b, h4⟩ := hs
        have hvm : v ∈ vs := List.mem_of_find?_eq_some hfb
        have hvs : v.st = i := by simpa using List.find?_some hfb
        have hdst : (ops[i]?).map (·.dst) = some none := by rw [← hvs]; exact (hvp v hvm).2.2.2.2.1
        have hval : d v.al = true := by
          rw [List.any_eq_true] at h3
          obtain ⟨e, he, heb⟩ := h3
          simp only [Bool.and_eq_true, beq_iff_eq] at heb
          rw [← heb.2]
          exact hdep e (by simpa using he) heb.1
        have hvso : d v.so = true := by
          rw [List.any_eq_true] at h3b
          obtain ⟨e, he, heb⟩ := h3b
          simp only [Bool.and_eq_true, beq_iff_eq] at heb
          rw [← heb.2]
          exact hdep e (by simpa using he) heb.1
        have hst1 : d v.st = false := by rw [hvs]; exact hdi
        have hLv := hL v hvm hval
        rw [hst1] at hLv
        obtain ⟨B, e1, e2, e3, e4⟩ := hLv
        have e4 : W.heap[B]? = some (.cells v.z v.ty (0, 0)) := e4
        rw [if_pos (wanted_none h2)]
        refine .inl (Oper.wp_mono (fun a' W' ⟨ea, cs, ecs, hp⟩ => ?_) (h4 a W B hA hB hW e1 e4))
        subst ea
        refine ⟨hA, hB.trans (hp.below e2), ?_, ?_, ?_, ?_⟩
        · intro j t hj ht
          have hji : j ≠ i := fun e => by
            subst e
            rw [hi] at ht hdst
            simp at ht hdst
            rw [hdst] at ht; cases ht
          rw [if_neg hji] at hj
          exact hfi.at j _ _ _ _ _ v hvm (hF j t hj ht) e4 hp
        · intro u hu hud
          rw [if_neg (hna u hu)] at hud
          by_cases hui : u.st = i
          · obtain rfl : u = v := hap.same hu hvm (.inr (hui.trans hvs.symm))
            rw [if_pos hui]
            exact ⟨B, e1, e2, by rw [hp.2.2.2.1]; exact e3, cs, ecs, hp.2.2.2.2.1⟩
          · rw [if_neg hui]
            obtain ⟨C, g1, g2, g3, g4⟩ := hL u hu hud
            have hne : C ≠ B := fun e => by
              subst e
              exact hD u hu v hvm (fun e => hui (by rw [e]; exact hvs)) hud hval (g1.trans e1.symm)
            refine ⟨C, g1, g2, by rw [hp.2.2.2.1]; exact g3, ?_⟩
            cases hdu : d u.st with
            | true =>
              rw [hdu] at g4
              obtain ⟨cs', e', h5⟩ := (g4 : ∃ cs, _)
              exact ⟨cs', e', (hp.2.2.2.2.2 C hne).trans h5⟩
            | false =>
              rw [hdu] at g4
              exact (hp.2.2.2.2.2 C hne).trans g4
        · intro u hu x hx hne hud hxd
          rw [if_neg (hna u hu)] at hud
          rw [if_neg (hna x hx)] at hxd
          exact hD u hu x hx hne hud hxd
        · intro u hu hud
          rw [if_neg (hna u hu)]
          have hlift : d u.so = true → (if u.so = i then true else d u.so) = true := fun h => by split <;> first | rfl | exact h
          by_cases hui : u.st = i
          · obtain rfl : u = v := hap.same hu hvm (.inr (hui.trans hvs.symm))
            exact ⟨hval, hlift hvso⟩
          · rw [if_neg hui] at hud
            exact ⟨(hS u hu hud).1, hlift (hS u hu hud).2⟩
      | none =>
        rw [hfb] at hs
        have hnb : ∀ u ∈ vs, u.st ≠ i := fun u hu e => by
          have := List.find?_eq_none.1 hfb u hu
          simp [e] at this
        have hs := hs a W hA hB hW
        have hafter : ∀ v W', Below W.heap.size W W' → (fs.getD i Fact.no) v W' → Agree ops a0 (a.put o.dst v) ∧ Below base w0 W' ∧ (∀ j t, (if j = i then true else d j) = true → (ops[j]?).bind (·.dst) = some t → (fs.getD j Fact.no) ((a.put o.dst v).eval (.tmp t)) W') ∧
            (∀ u ∈ vs, (if u.al = i then true else d u.al) = true → LiesS base (if u.st = i then true else d u.st) ((a.put o.dst v).eval (.tmp u.slot)) ((a.put o.dst v).eval (.tmp u.src)) W' u) ∧ (∀ u ∈ vs, ∀ x ∈ vs, u ≠ x → (if u.al = i then true else d u.al) = true → (if x.al = i then true else d x.al) = true → (a.put o.dst v).eval (.tmp u.slot) ≠ (a.put o.dst v).eval (.tmp x.slot)) ∧
            (∀ u ∈ vs, (if u.st = i then true else d u.st) = true → (if u.al = i then true else d u.al) = true ∧ (if u.so = i then true else d u.so) = true) := by
          intro v W' hb hv
          refine ⟨hAp v, hB.trans (hb.mono hiW), ?_, ?_, ?_, ?_⟩
          · intro j t hj ht
            by_cases hji : j = i
            · subst hji
              rw [hself _ _ ht]; exact hv
            · rw [if_neg hji] at hj
              rw [hkeep _ t j hji ht]
              exact hst0.at j _ _ _ (hF j t hj ht) hb
          · intro u hu hud
            rw [if_neg (hna u hu)] at hud
            rw [if_neg (hnb u hu), hkeep _ u.slot u.al (hna u hu) (hvp u hu).2.2.2.1]
            exact (hL u hu hud).keep hb (fun h => hsrc u hu h _)
          · intro u hu x hx hne hud hxd
            rw [if_neg (hna u hu)] at hud
            rw [if_neg (hna x hx)] at hxd
            rw [hkeep _ u.slot u.al (hna u hu) (hvp u hu).2.2.2.1, hkeep _ x.slot x.al (hna x hx) (hvp x hx).2.2.2.1]
            exact hD u hu x hx hne hud hxd
          · intro u hu hud
            rw [if_neg (hnb u hu)] at hud
            rw [if_neg (hna u hu)]
            exact ⟨(hS u hu hud).1, by split <;> first | rfl | exact (hS u hu hud).2⟩
        unfold StepOk at hs
        split
        · rename_i hw
          rw [if_pos hw] at hs
          exact .inl (Oper.wp_mono (fun a' W' ⟨v, e, hb, hv⟩ => by subst e; exact hafter v W' hb hv) hs)
        · rename_i hw
          rw [if_neg hw] at hs
          exact hafter undef W (Below.refl _ W) hs
  · intro d a W hall ⟨hA, hB, hF, hL, hD, hS⟩
    refine hend a W hA hB ⟨fun v hvm => ?_, fun u hu v hvm hne => hD u hu v hvm hne (hall _ (hvp u hu).2.1) (hall _ (hvp v hvm).2.1)⟩ (fun i t ht => hF i t (hall i (by
      cases h : ops[i]? with
      | none => rw [h] at ht; cases ht
      | some o => exact (Array.getElem?_eq_some_iff.1 h).1)) ht)
    have := hL v hvm (hall _ (hvp v hvm).2.1)
    rw [hall _ (hvp v hvm).2.2.1] at this
    exact this
end

end Go.Proofs.Ytkfmgiacdlkmiaa

namespace Go.Proofs.Ytkfmgiacdlkmiaa
open Go Go.RowKit Go.Shelf

/-- Of what there was, only rows of bytes from base on may turn. -/
structure Near (base : Nat) (W W' : World) : Prop where
  os : W'.os = W.os
  tape : W'.tape = W.tape
  output : W'.output = W.output
  size : W.heap.size ≤ W'.heap.size
  block : ∀ k, k < W.heap.size → (k < base ∨ ¬ ∃ cs fr, W.heap[k]? = some (.cells cs 5 fr)) → W'.heap[k]? = W.heap[k]?
theorem Near.below {base : Nat} {W W' : World} (h : Near base W W') (hb : base ≤ W.heap.size) : Below base W W' := ⟨h.os, h.tape, h.output, h.size, fun k hk => h.block k (Nat.lt_of_lt_of_le hk hb) (.inl hk)⟩
theorem Near.of_below {base : Nat} {W W' : World} (h : Below W.heap.size W W') : Near base W W' := ⟨h.os, h.tape, h.output, h.size, fun k hk _ => h.block k hk⟩
/-- A row of bytes is written, or new memory is laid. -/
theorem Near.grown {base : Nat} {W W' : World} {r : Option Nat} (h : W.grownBy W' r) (hr : ∀ k, r = some k → base ≤ k ∧ ∃ cs fr, W.heap[k]? = some (.cells cs 5 fr)) : Near base W W' :=
  ⟨h.os, h.tape, h.output, h.size, fun k hk hc => h.block k hk (fun e => by
    obtain ⟨h1, h2⟩ := hr k e.symm
    rcases hc with hc | hc
    · omega
    · exact hc h2)⟩
def ChgN (wr : Bool) (base : Nat) (W W' : World) : Prop := if wr then Near base W W' else Below W.heap.size W W'
theorem ChgN.refl (wr : Bool) (base : Nat) (W : World) : ChgN wr base W W := by
  unfold ChgN
  split
  · exact Near.of_below ⟨rfl, rfl, rfl, Nat.le_refl _, fun _ _ => rfl⟩
  · exact ⟨rfl, rfl, rfl, Nat.le_refl _, fun _ _ => rfl⟩

/-- It stands whatever becomes of memory from base on. -/
def Fact.FirmN (base : Nat) (φ : Fact) : Prop := ∀ v W W', φ v W → Near base W W' → φ v W'
theorem Fact.is_firmN (base : Nat) (u : Value) : (Fact.is u).FirmN base := fun _ _ _ h _ => h
theorem Fact.no_firmN (base : Nat) : Fact.no.FirmN base := fun _ _ _ _ _ => trivial
def AllFirmN (base : Nat) : List Fact → List Bool → Prop
  | φ :: r, b :: s => (b = true → φ.FirmN base) ∧ AllFirmN base r s
  | _, _ => True
theorem AllFirmN.at {base : Nat} : ∀ {fs : List Fact} {bs : List Bool}, AllFirmN base fs bs → ∀ i, bs.getD i false = true → (fs.getD i Fact.no).FirmN base
  | [], _, _, _, _ => Fact.no_firmN base
  | _ :: _, [], _, _, h => by simp at h
  | φ :: r, b :: s, h, 0, hb => h.1 hb
  | φ :: r, b :: s, h, i + 1, hb => AllFirmN.at h.2 i hb

def StepOkN (P : Program) (ops : Array Oper) (Q : Exit → Act → World → Prop) (base : Nat) (wr : Bool) (φ : Fact) (o : Oper) (a : Act) (W : World) : Prop :=
  if Region.wanted o (yielded ops a.tmps) then o.wp P a W (fun a' W' => ∃ v, a' = a.put o.dst v ∧ ChgN wr base W W' ∧ φ v W') Q else φ undef W
def StepsN (P : Program) (ops : Array Oper) (Q : Exit → Act → World → Prop) (a0 : Act) (w0 : World) (base : Nat) (us : List (Option Nat)) (ws : List Nat) (fs : List Fact) : Nat → List Oper → Prop
  | _, [] => True
  | k, o :: r => (∀ a W, Agree ops a0 a → Below base w0 W → Waits2 us fs ops k a W o.after.toList → StepOkN P ops Q base (ws.contains k) (fs.getD k Fact.no) o a W) ∧ StepsN P ops Q a0 w0 base us ws fs (k + 1) r
section
variable {P : Program} {ops : Array Oper} {Q : Exit → Act → World → Prop} {a0 : Act} {w0 : World} {base : Nat} {us : List (Option Nat)} {ws : List Nat} {fs : List Fact}

theorem StepsN.at : ∀ {l : List Oper} {k : Nat}, StepsN P ops Q a0 w0 base us ws fs k l → ∀ {i : Nat} {o : Oper}, l[i]? = some o → ∀ a W, Agree ops a0 a → Below base w0 W → Waits2 us fs ops (k + i) a W o.after.toList → StepOkN P ops Q base (ws.contains (k + i)) (fs.getD (k + i) Fact.no) o a W
  | [], _, _, i, o, hi => by simp at hi
  | o' :: r, k, h, 0, o, hi => by
    obtain rfl : o' = o := by simpa using hi
    exact h.1
  | o' :: r, k, h, i + 1, o, hi => by
    have := StepsN.at h.2 (i := i) (o := o) (by simpa using hi)
    rwa [show k + 1 + i = k + (i + 1) by omega] at this
theorem wp_region_near {id : Nat} {bs : List Bool} (f : Nat) (hm : P.follows .mixedOrders = true) (hlow : lowB .any ops = true) (hout : outB ops a0.tmps.size = true) (hwr : writesB ops us bs ws f = true) (hbase : base ≤ w0.heap.size)
    (hst : AllStable fs) (hfi : AllFirmN base fs bs)
    (hstep : StepsN P ops Q a0 w0 base us ws fs 0 ops.toList) (hend : ∀ a W, Agree ops a0 a → Below base w0 W → Ends2 us fs a W 0 ops.toList → Q .normal a W) : (Code.region id ops true).wp P Q a0 w0 := by
  refine wp_region_inv (I := fun d a W => Agree ops a0 a ∧ Below base w0 W ∧ ClosedD ops d ∧ ∀ i t, d i = true → (∀ k, us.getD i none = some k → d k = false) → (ops[i]?).bind (·.dst) = some t → (fs.getD i Fact.no) (a.eval (.tmp t)) W) hm hlow ?_ ?_ ?_
  · exact ⟨⟨rfl, rfl, fun _ _ => rfl⟩, ⟨rfl, rfl, rfl, Nat.le_refl _, fun _ _ => rfl⟩, fun _ _ (_ : _) (h : false = true) => (by cases h), fun i t (h : false = true) => (by cases h)⟩
  · intro i o d a W hi hdi hdep ⟨hA, hB, hC, hF⟩
    have hs := StepsN.at hstep (i := i) (o := o) (by simpa using hi) a W hA hB (Waits2.of _ fun e he hb hu t ht => by
      rw [Nat.zero_add] at hu
      refine hF e.on t (hdep e (by simpa using he) hb) (fun k hk => ?_) ht
      rcases hu with hu | hu
      · rw [hu] at hk; cases hk
      · rw [hu] at hk; cases hk; exact hdi)
    rw [Nat.zero_add] at hs
    have hiW : base ≤ W.heap.size := Nat.le_trans hbase hB.size
    have hafter : ∀ v W', ChgN (ws.contains i) base W W' → (fs.getD i Fact.no) v W' → Agree ops a0 (a.put o.dst v) ∧ Below base w0 W' ∧ ClosedD ops (fun j => if j = i then true else d j) ∧ ∀ j t, (if j = i then true else d j) = true → (∀ k, us.getD j none = some k → (if k = i then true else d k) = false) → (ops[j]?).bind (·.dst) = some t → (fs.getD j Fact.no) ((a.put o.dst v).eval (.tmp t)) W' := by
      intro v W' hb hv
      have hio : (ops[i]?).bind (·.dst) = o.dst := by rw [hi]; rfl
      have hb0 : Below base W W' := by
        by_cases hw : ws.contains i = true
        · unfold ChgN at hb; rw [if_pos hw] at hb; exact hb.below hiW
        · unfold ChgN at hb; rw [if_neg hw] at hb; exact hb.mono hiW
      refine ⟨?_, hB.trans hb0, fun j o' hj hdj e he hbe => ?_, fun j t hj hl ht => ?_⟩
      · cases hd : o.dst with
        | none => exact ⟨hA.size, hA.defers, hA.other⟩
        | some s =>
          refine ⟨by simp [Act.put, hA.size], by simp [Act.put, hA.defers], fun t ht => ?_⟩
          rw [eval_put_ne (fun e => ht i (by rw [hio, hd, e]))]
          exact hA.other t ht
      · by_cases hji : j = i
        · subst hji
          rw [hi] at hj
          cases hj
          show (if e.on = j then true else d e.on) = true
          by_cases h : e.on = j
          · rw [if_pos h]
          · rw [if_neg h]; exact hdep e he hbe
        · have hdj : (if j = i then true else d j) = true := hdj
          rw [if_neg hji] at hdj
          have := hC j o' hj hdj e he hbe
          show (if e.on = i then true else d e.on) = true
          by_cases h : e.on = i
          · rw [if_pos h]
          · rw [if_neg h]; exact this
      · by_cases hji : j = i
        · subst hji
          rw [hio] at ht
          rw [ht, eval_put_self (by rw [hA.size]; exact outB_lt hout (by rw [hio]; exact ht))]
          exact hv
        · rw [if_neg hji] at hj
          have hl' : ∀ k, us.getD j none = some k → d k = false := fun k hk => by
            have := hl k hk
            by_cases h : k = i
            · rw [if_pos h] at this; cases this
            · rwa [if_neg h] at this
          have h0 := hF j t hj hl' ht
          have h1 : (fs.getD j Fact.no) (a.eval (.tmp t)) W' := by
            by_cases hw : ws.contains i = true
            · unfold ChgN at hb
              rw [if_pos hw] at hb
              unfold writesB at hwr
              rw [List.all_eq_true] at hwr
              have h2 := hwr i (by simpa using hw)
              rw [List.all_eq_true] at h2
              have hjl : j < ops.size := by
                rcases Nat.lt_or_ge j ops.size with h' | h'
                · exact h'
                · rw [Array.getElem?_eq_none h'] at ht; cases ht
              have h3 := h2 j (List.mem_range.2 hjl)
              simp only [Bool.or_eq_true, beq_iff_eq] at h3
              rcases h3 with (((h3 | h3) | h3) | h3) | h3
              · exact absurd h3 hji
              · have := hl i h3
                rw [if_pos rfl] at this; cases this
              · exact hfi.at j h3 _ _ _ h0 hb
              · have := waits_done hC _ _ _ h3 hj
                rw [hdi] at this; cases this
              · cases hu : us.getD j none with
                | none => rw [hu] at h3; cases h3
                | some k' =>
                  rw [hu] at h3
                  have := waits_deps hC hi hdep h3
                  rw [hl' k' hu] at this; cases this
            · unfold ChgN at hb
              rw [if_neg hw] at hb
              exact hst.at j _ _ _ h0 hb
          cases hd : o.dst with
          | none => exact h1
          | some s =>
            rw [eval_put_ne (fun e => hji (outB_ne hout (hio.trans (hd.trans (by rw [e]))) ht))]
            exact h1
    unfold wpOp
    simp only [hi]
    unfold StepOkN at hs
    split
    · rename_i hw
      rw [if_pos hw] at hs
      exact .inl (Oper.wp_mono (fun a' W' ⟨v, e, hb, hv⟩ => by subst e; exact hafter v W' hb hv) hs)
    · rename_i hw
      rw [if_neg hw] at hs
      exact hafter undef W (ChgN.refl _ _ _) hs
  · intro d a W hall ⟨hA, hB, hC, hF⟩
    refine hend a W hA hB (Ends2.of _ _ fun i o t hi hu ht => ?_)
    rw [Nat.zero_add] at hu ⊢
    have hi' : ops[i]? = some o := by simpa using hi
    exact hF i t (hall i (Array.getElem?_eq_some_iff.1 hi').1) (fun k hk => by rw [hu] at hk; cases hk) (by rw [hi']; exact ht)

/-- The last operation waits for all others: what it does is shown by itself. -/
theorem wp_region_last {id : Nat} {bs : List Bool} (f L : Nat) (oL : Oper) (hL : ops[L]? = some oL) (hLs : L + 1 = ops.size) (hLw : ((List.range ops.size).all fun j => j == L || waitsB ops f L j) = true) (hLg : oL.guard = none) (hm : P.follows .mixedOrders = true) (hlow : lowB .any ops = true) (hout : outB ops a0.tmps.size = true) (hwr : writesB ops us bs ws f = true) (hbase : base ≤ w0.heap.size)
    (hst : AllStable fs) (hfi : AllFirmN base fs bs)
    (hstep : StepsN P ops Q a0 w0 base us ws fs 0 (ops.toList.take L)) (hend : ∀ a W, Agree ops a0 a → Below base w0 W → Ends2 us fs a W 0 (ops.toList.take L) → oL.wp P a W (fun a' W' => Q .normal a' W') Q) : (Code.region id ops true).wp P Q a0 w0 := by
  refine wp_region_inv (I := fun d a W => ClosedD ops d ∧ (d L = true → Q .normal a W) ∧ (d L = false → Agree ops a0 a ∧ Below base w0 W ∧ ∀ i t, d i = true → (∀ k, us.getD i none = some k → d k = false) → (ops[i]?).bind (·.dst) = some t → (fs.getD i Fact.no) (a.eval (.tmp t)) W)) hm hlow ?_ ?_ ?_
  · exact ⟨fun _ _ (_ : _) (h : false = true) => (by cases h), fun (h : false = true) => (by cases h), fun _ => ⟨⟨rfl, rfl, fun _ _ => rfl⟩, ⟨rfl, rfl, rfl, Nat.le_refl _, fun _ _ => rfl⟩, fun i t (h : false = true) => (by cases h)⟩⟩
  · intro i o d a W hi hdi hdep ⟨hC, hQ, hI⟩
    have hcl : ClosedD ops (fun j => if j = i then true else d j) := fun j o' hj hdj e he hbe => by
      by_cases hji : j = i
      · subst hji
        rw [hi] at hj
        cases hj
        show (if e.on = j then true else d e.on) = true
        by_cases h : e.on = j
        · rw [if_pos h]
        · rw [if_neg h]; exact hdep e he hbe
      · have hdj : (if j = i then true else d j) = true := hdj
        rw [if_neg hji] at hdj
        have := hC j o' hj hdj e he hbe
        show (if e.on = i then true else d e.on) = true
        by_cases h : e.on = i
        · rw [if_pos h]
        · rw [if_neg h]; exact this
    have hilt : i < ops.size := by
      rcases Nat.lt_or_ge i ops.size with h' | h'
      · exact h'
      · rw [Array.getElem?_eq_none h'] at hi; cases hi
    by_cases hiL' : i = L
    · subst hiL'
      rw [hL] at hi
      cases hi
      obtain ⟨hA, hB, hF⟩ := hI hdi
      rw [List.all_eq_true] at hLw
      have hend' := hend a W hA hB (Ends2.of _ _ fun j o' t hj hu ht => by
        rw [Nat.zero_add] at hu ⊢
        have hjl : j < i := by
          have := (List.getElem?_eq_some_iff.1 hj).1
          rw [List.length_take] at this
          omega
        rw [List.getElem?_take_of_lt hjl] at hj
        have hj' : ops[j]? = some o' := by simpa using hj
        have h2 := hLw j (List.mem_range.2 (by omega))
        simp only [Bool.or_eq_true, beq_iff_eq] at h2
        have h3 : waitsB ops f i j = true := h2.resolve_left (by omega)
        exact hF j t (waits_deps hC hL hdep h3) (fun k hk => by rw [hu] at hk; cases hk) (by rw [hj']; exact ht))
      unfold wpOp
      simp only [hL]
      split
      · exact .inl (Oper.wp_mono (fun a' W' hq => ⟨hcl, fun _ => hq, fun h => by simp at h⟩) hend')
      · rename_i hw
        exact absurd (wanted_none hLg) hw
    · have hiL : i < L := by omega
      have hdL : d L = false := by
        rw [List.all_eq_true] at hLw
        cases hx : d L with
        | false => rfl
        | true =>
          have h2 := hLw i (List.mem_range.2 hilt)
          simp only [Bool.or_eq_true, beq_iff_eq] at h2
          have h3 : waitsB ops f L i = true := h2.resolve_left hiL'
          rw [waits_done hC _ _ _ h3 hx] at hdi
          cases hdi
      obtain ⟨hA, hB, hF⟩ := hI hdL
      have hs := StepsN.at hstep (i := i) (o := o) (by rw [List.getElem?_take_of_lt hiL]; simpa using hi) a W hA hB (Waits2.of _ fun e he hb hu t ht => by
        rw [Nat.zero_add] at hu
        refine hF e.on t (hdep e (by simpa using he) hb) (fun k hk => ?_) ht
        rcases hu with hu | hu
        · rw [hu] at hk; cases hk
        · rw [hu] at hk; cases hk; exact hdi)
      rw [Nat.zero_add] at hs
      have hiW : base ≤ W.heap.size := Nat.le_trans hbase hB.size
      have hafter : ∀ v W', ChgN (ws.contains i) base W W' → (fs.getD i Fact.no) v W' → Agree ops a0 (a.put o.dst v) ∧ Below base w0 W' ∧ ∀ j t, (if j = i then true else d j) = true → (∀ k, us.getD j none = some k → (if k = i then true else d k) = false) → (ops[j]?).bind (·.dst) = some t → (fs.getD j Fact.no) ((a.put o.dst v).eval (.tmp t)) W' := by
        intro v W' hb hv
        have hio : (ops[i]?).bind (·.dst) = o.dst := by rw [hi]; rfl
        have hb0 : Below base W W' := by
          by_cases hw : ws.contains i = true
          · unfold ChgN at hb; rw [if_pos hw] at hb; exact hb.below hiW
          · unfold ChgN at hb; rw [if_neg hw] at hb; exact hb.mono hiW
        refine ⟨?_, hB.trans hb0, fun j t hj hl ht => ?_⟩
        · cases hd : o.dst with
          | none => exact ⟨hA.size, hA.defers, hA.other⟩
          | some s =>
            refine ⟨by simp [Act.put, hA.size], by simp [Act.put, hA.defers], fun t ht => ?_⟩
            rw [eval_put_ne (fun e => ht i (by rw [hio, hd, e]))]
            exact hA.other t ht
        · by_cases hji : j = i
          · subst hji
            rw [hio] at ht
            rw [ht, eval_put_self (by rw [hA.size]; exact outB_lt hout (by rw [hio]; exact ht))]
            exact hv
          · rw [if_neg hji] at hj
            have hl' : ∀ k, us.getD j none = some k → d k = false := fun k hk => by
              have := hl k hk
              by_cases h : k = i
              · rw [if_pos h] at this; cases this
              · rwa [if_neg h] at this
            have h0 := hF j t hj hl' ht
            have h1 : (fs.getD j Fact.no) (a.eval (.tmp t)) W' := by
              by_cases hw : ws.contains i = true
              · unfold ChgN at hb
                rw [if_pos hw] at hb
                unfold writesB at hwr
                rw [List.all_eq_true] at hwr
                have h2 := hwr i (by simpa using hw)
                rw [List.all_eq_true] at h2
                have hjl : j < ops.size := by
                  rcases Nat.lt_or_ge j ops.size with h' | h'
                  · exact h'
                  · rw [Array.getElem?_eq_none h'] at ht; cases ht
                have h3 := h2 j (List.mem_range.2 hjl)
                simp only [Bool.or_eq_true, beq_iff_eq] at h3
                rcases h3 with (((h3 | h3) | h3) | h3) | h3
                · exact absurd h3 hji
                · have := hl i h3
                  rw [if_pos rfl] at this; cases this
                · exact hfi.at j h3 _ _ _ h0 hb
                · have := waits_done hC _ _ _ h3 hj
                  rw [hdi] at this; cases this
                · cases hu : us.getD j none with
                  | none => rw [hu] at h3; cases h3
                  | some k' =>
                    rw [hu] at h3
                    have := waits_deps hC hi hdep h3
                    rw [hl' k' hu] at this; cases this
              · unfold ChgN at hb
                rw [if_neg hw] at hb
                exact hst.at j _ _ _ h0 hb
            cases hd : o.dst with
            | none => exact h1
            | some s =>
              rw [eval_put_ne (fun e => hji (outB_ne hout (hio.trans (hd.trans (by rw [e]))) ht))]
              exact h1
      have hnew : ∀ v W', ChgN (ws.contains i) base W W' → (fs.getD i Fact.no) v W' → ClosedD ops (fun j => if j = i then true else d j) ∧ ((if L = i then true else d L) = true → Q .normal (a.put o.dst v) W') ∧ ((if L = i then true else d L) = false → Agree ops a0 (a.put o.dst v) ∧ Below base w0 W' ∧ ∀ j t, (if j = i then true else d j) = true → (∀ k, us.getD j none = some k → (if k = i then true else d k) = false) → (ops[j]?).bind (·.dst) = some t → (fs.getD j Fact.no) ((a.put o.dst v).eval (.tmp t)) W') := fun v W' hb hv =>
        ⟨hcl, fun h => (by rw [if_neg (fun e => hiL' e.symm), hdL] at h; cases h), fun _ => hafter v W' hb hv⟩
      unfold wpOp
      simp only [hi]
      unfold StepOkN at hs
      split
      · rename_i hw
        rw [if_pos hw] at hs
        exact .inl (Oper.wp_mono (fun a' W' ⟨v, e, hb, hv⟩ => by subst e; exact hnew v W' hb hv) hs)
      · rename_i hw
        rw [if_neg hw] at hs
        exact hnew undef W (ChgN.refl _ _ _) hs
  · intro d a W hall ⟨hC, hQ, hI⟩
    exact hQ (hall L (by omega))

/-! ### The steps -/

theorem stepN_of {φ : Fact} {o : Oper} {a : Act} {W : World} (h : StepOk P ops Q φ o a W) : StepOkN P ops Q base false φ o a W := h

end

/-- An append whose run is known, which may write rows of bytes from the base on. -/
theorem stepN_append {P : Program} {ops : Array Oper} {Q : Exit → Act → World → Prop} {base : Nat} {φ : Fact} {o : Oper} {a : Act} {W : World} (hw : Region.wanted o (yielded ops a.tmps) = true) (s x : Operand) (t tn : TypeId)
    (ho : o.op = .call { callee := .builtin .append, args := #[s, x], argTypes := #[t, tn] }) {vs vx : Value} (hs : a.eval s = vs) (hx : a.eval x = vx)
    {v' : Value} {w' : World} (hr : (Builtin.append_ #[t, tn] o.type #[vs, vx]).run P W = .ok v' w') (hb : Near base W w') (hv : φ v' w') : StepOkN P ops Q base true φ o a W := by
  unfold StepOkN
  rw [if_pos hw]
  unfold Oper.wp
  simp [execOp, ho, resolve, invoke, builtin, hs, hx, hr, Result.andThen]
  exact ⟨v', rfl, hb, hv⟩

end Go.Proofs.Ytkfmgiacdlkmiaa

namespace Go.Proofs.Ytkfmgiacdlkmiaa
open Go Go.RowKit Go.Shelf

/-- A fact on an operation's value and the companion's. -/
abbrev Fact2 := Value → Value → World → Prop
def Fact2.no : Fact2 := fun _ _ _ => True
def Fact2.of (φ : Fact) : Fact2 := fun v _ W => φ v W
def Fact2.Stable (φ : Fact2) : Prop := ∀ x y W W', φ x y W → Below W.heap.size W W' → φ x y W'
def Fact2.Free (φ : Fact2) : Prop := ∀ x y y' W, φ x y W → φ x y' W
def Fact2.FirmN (base : Nat) (φ : Fact2) : Prop := ∀ x y W W', φ x y W → Near base W W' → φ x y W'
def Fact2.PutS (vs : List VarSrc) (φ : Fact2) : Prop := ∀ x y W W' B cs, ∀ v ∈ vs, φ x y W → W.heap[B]? = some (.cells v.z v.ty (0, 0)) → Puts W B cs v.ty W' → φ x y W'
/-- What is asked of each fact. -/
structure Fact2.Ok (base : Nat) (vs : List VarSrc) (φ : Fact2) (firm use : Bool) : Prop where
  st : φ.Stable
  put : φ.PutS vs
  firm : firm = true → φ.FirmN base
  free : use = false → φ.Free
theorem Fact2.ok_is (base : Nat) (vs : List VarSrc) (u : Value) (use : Bool) : Fact2.Ok base vs (Fact2.of (Fact.is u)) true use := ⟨fun _ _ _ _ h _ => h, fun _ _ _ _ _ _ _ _ h _ _ => h, fun _ _ _ _ _ h _ => h, fun _ _ _ _ _ h => h⟩
theorem Fact2.ok_no (base : Nat) (vs : List VarSrc) (use : Bool) : Fact2.Ok base vs Fact2.no true use := ⟨fun _ _ _ _ _ _ => trivial, fun _ _ _ _ _ _ _ _ _ _ _ => trivial, fun _ _ _ _ _ _ _ => trivial, fun _ _ _ _ _ _ => trivial⟩
def AllOk (base : Nat) (vs : List VarSrc) : List Fact2 → List Bool → List Bool → Prop
  | [], _, _ => True
  | φ :: r, bs, us => φ.Ok base vs (bs.headD false) (us.headD false) ∧ AllOk base vs r bs.tail us.tail
theorem AllOk.at {base : Nat} {vs : List VarSrc} : ∀ {fs : List Fact2} {bs us : List Bool}, AllOk base vs fs bs us → ∀ i, (fs.getD i Fact2.no).Ok base vs (bs.getD i false) (us.getD i false)
  | [], bs, us, _, i => ⟨(Fact2.ok_no base vs true).st, (Fact2.ok_no base vs true).put, fun _ => (Fact2.ok_no base vs true).firm rfl, fun _ _ _ _ _ _ => trivial⟩
  | φ :: r, [], [], h, 0 => h.1
  | φ :: r, [], _ :: _, h, 0 => h.1
  | φ :: r, _ :: _, [], h, 0 => h.1
  | φ :: r, _ :: _, _ :: _, h, 0 => h.1
  | φ :: r, [], [], h, i + 1 => by have := AllOk.at h.2 i; simpa using this
  | φ :: r, [], _ :: s, h, i + 1 => by have := AllOk.at h.2 i; simpa using this
  | φ :: r, _ :: s, [], h, i + 1 => by have := AllOk.at h.2 i; simpa using this
  | φ :: r, _ :: s, _ :: t, h, i + 1 => by have := AllOk.at h.2 i; simpa using this

def Waits3 (us : List (Option Nat)) (fs : List Fact2) (c : Nat) (ops : Array Oper) (i : Nat) (a : Act) (W : World) : List Edge → Prop
  | [] => True
  | e :: r => (if (Region.binds .any e && (us.getD e.on none == none || us.getD e.on none == some i)) = true then match (ops[e.on]?).bind (·.dst) with
      | some t => (fs.getD e.on Fact2.no) (a.eval (.tmp t)) (a.eval (.tmp c)) W
      | none => True else True) ∧ Waits3 us fs c ops i a W r
theorem Waits3.of {us : List (Option Nat)} {fs : List Fact2} {c : Nat} {ops : Array Oper} {i : Nat} {a : Act} {W : World} : ∀ (l : List Edge), (∀ e ∈ l, Region.binds .any e = true → (us.getD e.on none = none ∨ us.getD e.on none = some i) → ∀ t, (ops[e.on]?).bind (·.dst) = some t → (fs.getD e.on Fact2.no) (a.eval (.tmp t)) (a.eval (.tmp c)) W) → Waits3 us fs c ops i a W l
  | [], _ => trivial
  | e :: r, h => by
    refine ⟨?_, Waits3.of r fun e' he => h e' (List.mem_cons_of_mem _ he)⟩
    split
    · rename_i hb
      rw [Bool.and_eq_true, Bool.or_eq_true] at hb
      cases hd : (ops[e.on]?).bind (·.dst) with
      | none => trivial
      | some t => exact h e (List.mem_cons_self ..) hb.1 (by simpa using hb.2) t hd
    · trivial

/-- Each write meets no fact that it may end, but those that its step keeps. -/
def writesK (ops : Array Oper) (us : List (Option Nat)) (bs : List Bool) (ws : List Nat) (keep : Nat → List Nat) (f : Nat) : Bool :=
  ws.all fun k => (List.range ops.size).all fun j => j == k || us.getD j none == some k || bs.getD j false || waitsB ops f j k || (keep k).contains j || (match us.getD j none with | some k' => waitsB ops f k k' | none => false)
def usesB (ops : Array Oper) (cs : List Bool) (f co : Nat) : Bool := (List.range ops.size).all fun j => !cs.getD j false || j == co || waitsB ops f j co

theorem ClosedD.step {ops : Array Oper} {d : Nat → Bool} {i : Nat} {o : Oper} (hC : ClosedD ops d) (hi : ops[i]? = some o) (hdep : ∀ e ∈ o.after, Region.binds .any e = true → d e.on = true) : ClosedD ops (fun j => if j = i then true else d j) := by
  intro j o' hj hdj e he hbe
  by_cases hji : j = i
  · subst hji
    rw [hi] at hj
    cases hj
    show (if e.on = j then true else d e.on) = true
    by_cases h : e.on = j
    · rw [if_pos h]
    · rw [if_neg h]; exact hdep e he hbe
  · have hdj : (if j = i then true else d j) = true := hdj
    rw [if_neg hji] at hdj
    have := hC j o' hj hdj e he hbe
    show (if e.on = i then true else d e.on) = true
    by_cases h : e.on = i
    · rw [if_pos h]
    · rw [if_neg h]; exact this

def StepOkK (P : Program) (ops : Array Oper) (Q : Exit → Act → World → Prop) (base : Nat) (wr : Bool) (fs : List Fact2) (c : Nat) (keep : List Nat) (φ : Fact2) (o : Oper) (a : Act) (W : World) : Prop :=
  if Region.wanted o (yielded ops a.tmps) then o.wp P a W (fun a' W' => ∃ v, a' = a.put o.dst v ∧ ChgN wr base W W' ∧ φ v (a.eval (.tmp c)) W' ∧ ∀ j ∈ keep, ∀ t, (ops[j]?).bind (·.dst) = some t → (fs.getD j Fact2.no) (a.eval (.tmp t)) (a.eval (.tmp c)) W') Q else φ undef (a.eval (.tmp c)) W
def StepK (P : Program) (ops : Array Oper) (Q : Exit → Act → World → Prop) (a0 : Act) (w0 : World) (base : Nat) (us : List (Option Nat)) (ws : List Nat) (keep : Nat → List Nat) (fs : List Fact2) (c : Nat) (vs : List VarSrc) (k : Nat) (o : Oper) : Prop :=
  match vs.find? (fun v => v.al == k) with
  | some v => o.guard = none ∧ ∀ (a : Act) (W : World), (execOp a.eval o).run P W = .ok (.value (.pointer (some ⟨W.heap.size, 0, none⟩))) (W.alloc (.cells v.z v.ty))
  | none => match vs.find? (fun v => v.st == k) with
    | some v => o.guard = none ∧ (o.after.toList.any fun e => Region.binds .any e && e.on == v.al) = true ∧ (o.after.toList.any fun e => Region.binds .any e && e.on == v.so) = true ∧ ∀ (a : Act) (W : World) (B : Nat), Agree ops a0 a → Below base w0 W → Waits3 us fs c ops k a W o.after.toList → a.eval (.tmp v.slot) = .pointer (some ⟨B, 0, none⟩) → W.heap[B]? = some (.cells v.z v.ty (0, 0)) →
        o.wp P a W (fun a' W' => a' = a ∧ ∃ cs, a.eval (.tmp v.src) = .agg cs ∧ Puts W B cs v.ty W') Q
    | none => ∀ (a : Act) (W : World), Agree ops a0 a → Below base w0 W → Waits3 us fs c ops k a W o.after.toList → StepOkK P ops Q base (ws.contains k) fs c (keep k) (fs.getD k Fact2.no) o a W
def StepsK (P : Program) (ops : Array Oper) (Q : Exit → Act → World → Prop) (a0 : Act) (w0 : World) (base : Nat) (us : List (Option Nat)) (ws : List Nat) (keep : Nat → List Nat) (fs : List Fact2) (c : Nat) (vs : List VarSrc) : Nat → List Oper → Prop
  | _, [] => True
  | k, o :: r => StepK P ops Q a0 w0 base us ws keep fs c vs k o ∧ StepsK P ops Q a0 w0 base us ws keep fs c vs (k + 1) r

section
variable {P : Program} {ops : Array Oper} {Q : Exit → Act → World → Prop} {a0 : Act} {w0 : World} {base : Nat} {us : List (Option Nat)} {ws : List Nat} {keep : Nat → List Nat} {fs : List Fact2} {c : Nat} {vs : List VarSrc}
theorem StepsK.at : ∀ {l : List Oper} {k : Nat}, StepsK P ops Q a0 w0 base us ws keep fs c vs k l → ∀ {i : Nat} {o : Oper}, l[i]? = some o → StepK P ops Q a0 w0 base us ws keep fs c vs (k + i) o
  | [], _, _, i, o, hi => by simp at hi
  | o' :: r, k, h, 0, o, hi => by
    obtain rfl : o' = o := by simpa using hi
    exact h.1
  | o' :: r, k, h, i + 1, o, hi => by
    have := StepsK.at h.2 (i := i) (o := o) (by simpa using hi)
    rwa [show k + 1 + i = k + (i + 1) by omega] at this
theorem stepK_other {k : Nat} {o : Oper} (h1 : vs.find? (fun v => v.al == k) = none) (h2 : vs.find? (fun v => v.st == k) = none) (h : ∀ (a : Act) (W : World), Agree ops a0 a → Below base w0 W → Waits3 us fs c ops k a W o.after.toList → StepOkK P ops Q base (ws.contains k) fs c (keep k) (fs.getD k Fact2.no) o a W) : StepK P ops Q a0 w0 base us ws keep fs c vs k o := by
  unfold StepK; rw [h1, h2]; exact h
theorem stepK_al {k : Nat} {o : Oper} (v : VarSrc) (h1 : vs.find? (fun v => v.al == k) = some v) (hg : o.guard = none) (h : ∀ (a : Act) (W : World), (execOp a.eval o).run P W = .ok (.value (.pointer (some ⟨W.heap.size, 0, none⟩))) (W.alloc (.cells v.z v.ty))) : StepK P ops Q a0 w0 base us ws keep fs c vs k o := by
  unfold StepK; rw [h1]; exact ⟨hg, h⟩
theorem stepK_st {k : Nat} {o : Oper} (v : VarSrc) (h1 : vs.find? (fun v => v.al == k) = none) (h2 : vs.find? (fun v => v.st == k) = some v) (hg : o.guard = none) (ha : (o.after.toList.any fun e => Region.binds .any e && e.on == v.al) = true) (hb : (o.after.toList.any fun e => Region.binds .any e && e.on == v.so) = true)
    (h : ∀ (a : Act) (W : World) (B : Nat), Agree ops a0 a → Below base w0 W → Waits3 us fs c ops k a W o.after.toList → a.eval (.tmp v.slot) = .pointer (some ⟨B, 0, none⟩) → W.heap[B]? = some (.cells v.z v.ty (0, 0)) → o.wp P a W (fun a' W' => a' = a ∧ ∃ cs, a.eval (.tmp v.src) = .agg cs ∧ Puts W B cs v.ty W') Q) : StepK P ops Q a0 w0 base us ws keep fs c vs k o := by
  unfold StepK; rw [h1, h2]; exact ⟨hg, ha, hb, h⟩
/-- An operation that keeps nothing but what stands by itself. -/
theorem stepK_of {φ : Fact} {o : Oper} {a : Act} {W : World} (h : StepOk P ops Q φ o a W) : StepOkK P ops Q base false fs c [] (Fact2.of φ) o a W := by
  unfold StepOk at h
  unfold StepOkK
  split
  · rename_i hw
    rw [if_pos hw] at h
    exact Oper.wp_mono (fun a' W' ⟨v, e, hb, hv⟩ => ⟨v, e, hb, hv, fun j hj => by cases hj⟩) h
  · rename_i hw
    rw [if_neg hw] at h
    exact h
theorem stepK_of2 {φ : Fact2} {o : Oper} {a : Act} {W : World} (h : StepOk P ops Q (fun v W => φ v (a.eval (.tmp c)) W) o a W) : StepOkK P ops Q base false fs c [] φ o a W := by
  unfold StepOk at h
  unfold StepOkK
  split
  · rename_i hw
    rw [if_pos hw] at h
    exact Oper.wp_mono (fun a' W' ⟨v, e, hb, hv⟩ => ⟨v, e, hb, hv, fun j hj => by cases hj⟩) h
  · rename_i hw
    rw [if_neg hw] at h
    exact h

theorem LiesS.near {b : Bool} {x y y' : Value} {W W' : World} {v : VarSrc} (h : LiesS base b x y W v) (hb : Near base W W') (ht : v.ty ≠ 5) (hy : b = true → y' = y) : LiesS base b x y' W' v := by
  obtain ⟨B, h1, h2, h3, h4⟩ := h
  refine ⟨B, h1, h2, Nat.lt_of_lt_of_le h3 hb.size, ?_⟩
  cases b with
  | true =>
    obtain ⟨cs, e, h5⟩ := (h4 : ∃ cs, _)
    exact ⟨cs, (hy rfl).trans e, (hb.block B h3 (.inr (fun ⟨_, _, e⟩ => by rw [h5] at e; injection e with e; injection e with _ e _; exact ht e))).trans h5⟩
  | false =>
    have h4 : W.heap[B]? = some (.cells v.z v.ty (0, 0)) := h4
    exact (hb.block B h3 (.inr (fun ⟨_, _, e⟩ => by rw [h4] at e; injection e with e; injection e with _ e _; exact ht e))).trans h4

theorem wp_region_keep {id : Nat} {als bs cs : List Bool} (f co : Nat) (hm : P.follows .mixedOrders = true) (hlow : lowB .any ops = true) (hout : outB ops a0.tmps.size = true) (hk : keysS ops als vs = true) (hap : ApartS vs) (hbase : base = w0.heap.size)
    (hwr : writesK ops us bs ws keep f = true) (huse : usesB ops cs f co = true) (hco : (ops[co]?).bind (·.dst) = some c) (hcv : cs.getD co false = false) (hvt : ∀ v ∈ vs, v.ty ≠ 5 ∧ v.al ≠ co)
    (hno : ∀ v ∈ vs, fs.getD v.al Fact2.no = Fact2.no) (hok : AllOk base vs fs bs cs)
    (hstep : StepsK P ops Q a0 w0 base us ws keep fs c vs 0 ops.toList) (hend : ∀ a W, Agree ops a0 a → Below base w0 W → EndsS base a W vs → (∀ i t, us.getD i none = none → (ops[i]?).bind (·.dst) = some t → (fs.getD i Fact2.no) (a.eval (.tmp t)) (a.eval (.tmp c)) W) → Q .normal a W) : (Code.region id ops true).wp P Q a0 w0 := by
  unfold keysS at hk
  simp only [Bool.and_eq_true, List.all_eq_true] at hk
  obtain ⟨hk1, hk2⟩ := hk
  have hvp : ∀ v ∈ vs, als.getD v.al false = true ∧ v.al < ops.size ∧ v.st < ops.size ∧ (ops[v.al]?).bind (·.dst) = some v.slot ∧ (ops[v.st]?).map (·.dst) = some none ∧ (ops[v.so]?).bind (·.dst) = some v.src := by
    intro v hvm
    have := hk1 v hvm
    simp only [decide_eq_true_eq, beq_iff_eq] at this
    exact ⟨this.1.1.1.1.1.1, this.1.1.1.1.1.2, this.1.1.1.1.2, this.1.1.1.2, this.1.1.2, this.2⟩
  have hvx : ∀ u ∈ vs, ∀ v ∈ vs, u.al ≠ v.st := by
    intro u hu v hvm
    have := hk2 u hu v hvm
    simpa using this
  clear hk1 hk2
  refine wp_region_inv (I := fun d a W => Agree ops a0 a ∧ Below base w0 W ∧ ClosedD ops d ∧ (∀ i t, d i = true → (∀ k, us.getD i none = some k → d k = false) → (ops[i]?).bind (·.dst) = some t → (fs.getD i Fact2.no) (a.eval (.tmp t)) (a.eval (.tmp c)) W) ∧ (∀ v ∈ vs, d v.al = true → LiesS base (d v.st) (a.eval (.tmp v.slot)) (a.eval (.tmp v.src)) W v) ∧
    (∀ u ∈ vs, ∀ v ∈ vs, u ≠ v → d u.al = true → d v.al = true → a.eval (.tmp u.slot) ≠ a.eval (.tmp v.slot)) ∧ (∀ v ∈ vs, d v.st = true → d v.al = true ∧ d v.so = true)) hm hlow ?_ ?_ ?_
  · exact ⟨⟨rfl, rfl, fun _ _ => rfl⟩, ⟨rfl, rfl, rfl, Nat.le_refl _, fun _ _ => rfl⟩, fun _ _ (_ : _) (h : false = true) => (by cases h), fun i t (h : false = true) => (by cases h), fun v _ (h : false = true) => (by cases h), fun u _ v _ _ (h : false = true) => (by cases h), fun v _ (h : false = true) => (by cases h)⟩
  · intro i o d a W hi hdi hdep ⟨hA, hB, hC, hF, hL, hD, hS⟩
    have hs := StepsK.at hstep (i := i) (o := o) (by simpa using hi)
    rw [Nat.zero_add] at hs
    have hW : Waits3 us fs c ops i a W o.after.toList := Waits3.of _ fun e he hb hu t ht => hF e.on t (hdep e (by simpa using he) hb) (fun k hk => by
      rcases hu with hu | hu
      · rw [hu] at hk; cases hk
      · rw [hu] at hk; cases hk; exact hdi) ht
    have hiW : base ≤ W.heap.size := by subst hbase; exact hB.size
    have hio : (ops[i]?).bind (·.dst) = o.dst := by rw [hi]; rfl
    have hAp : ∀ u, Agree ops a0 (a.put o.dst u) := fun u => by
      cases hd : o.dst with
      | none => exact ⟨hA.size, hA.defers, hA.other⟩
      | some s =>
        refine ⟨by simp [Act.put, hA.size], by simp [Act.put, hA.defers], fun t ht => ?_⟩
        rw [eval_put_ne (fun e => ht i (by rw [hio, hd, e]))]
        exact hA.other t ht
    have hkeep : ∀ (u : Value) t j, j ≠ i → (ops[j]?).bind (·.dst) = some t → (a.put o.dst u).eval (.tmp t) = a.eval (.tmp t) := fun u t j hji hj => by
      cases hd : o.dst with
      | none => rfl
      | some s => exact eval_put_ne (fun e => hji (outB_ne hout (hio.trans (hd.trans (by rw [e]))) hj)) u
    have hself : ∀ (u : Value) t, (ops[i]?).bind (·.dst) = some t → (a.put o.dst u).eval (.tmp t) = u := fun u t ht => by
      rw [hio] at ht
      rw [ht, eval_put_self (by rw [hA.size]; exact outB_lt hout (hio.trans ht))]
    have hSi : ∀ v ∈ vs, v.al = i → d v.st = false := fun v hv e => by
      cases h : d v.st with
      | false => rfl
      | true => have := (hS v hv h).1; rw [e, hdi] at this; cases this
    have hsrc : ∀ v ∈ vs, d v.st = true → ∀ u : Value, (a.put o.dst u).eval (.tmp v.src) = a.eval (.tmp v.src) := fun v hv h u =>
      hkeep u v.src v.so (fun e => by have := (hS v hv h).2; rw [e, hdi] at this; cases this) (hvp v hv).2.2.2.2.2
    have hCS := hC.step hi hdep
    -- a fact that stands, behind one more operation
    have hput : ∀ (u : Value) (W' : World) j t, j ≠ i → d j = true → (ops[j]?).bind (·.dst) = some t → (fs.getD j Fact2.no) (a.eval (.tmp t)) (a.eval (.tmp c)) W' → (fs.getD j Fact2.no) ((a.put o.dst u).eval (.tmp t)) ((a.put o.dst u).eval (.tmp c)) W' := fun u W' j t hji hdj ht h => by
      rw [hkeep u t j hji ht]
      by_cases hic : i = co
      · have hcj : cs.getD j false = false := by
          cases hcj : cs.getD j false with
          | false => rfl
          | true =>
            unfold usesB at huse
            rw [List.all_eq_true] at huse
            have hjl : j < ops.size := by
              rcases Nat.lt_or_ge j ops.size with h' | h'
              · exact h'
              · rw [Array.getElem?_eq_none h'] at ht; cases ht
            have h3 := huse j (List.mem_range.2 hjl)
            rw [hcj] at h3
            simp only [Bool.not_true, Bool.false_or, Bool.or_eq_true, beq_iff_eq] at h3
            rcases h3 with h3 | h3
            · exact absurd (h3.trans hic.symm) hji
            · have := waits_done hC _ _ _ h3 hdj
              rw [← hic, hdi] at this; cases this
        exact (hok.at j).free hcj _ _ _ _ h
      · rw [hkeep u c co (fun e => hic e.symm) hco]
        exact h
    have hlive : ∀ j, (∀ k, us.getD j none = some k → (if k = i then true else d k) = false) → ∀ k, us.getD j none = some k → d k = false := fun j hl k hk => by
      have := hl k hk
      by_cases h : k = i
      · rw [if_pos h] at this; cases this
      · rwa [if_neg h] at this
    have hself2 : ∀ (u : Value) (W' : World), i ≠ co ∨ cs.getD i false = false → ∀ t, (ops[i]?).bind (·.dst) = some t → (fs.getD i Fact2.no) u (a.eval (.tmp c)) W' → (fs.getD i Fact2.no) ((a.put o.dst u).eval (.tmp t)) ((a.put o.dst u).eval (.tmp c)) W' := fun u W' hor t ht h => by
      rw [hself u t ht]
      rcases hor with hor | hor
      · rw [hkeep u c co (fun e => hor e.symm) hco]; exact h
      · exact (hok.at i).free hor _ _ _ _ h
    have hior : i ≠ co ∨ cs.getD i false = false := by
      by_cases h : i = co
      · right; rw [h]; exact hcv
      · exact .inl h
    unfold wpOp
    simp only [hi]
    unfold StepK at hs
    cases hfa : vs.find? (fun v => v.al == i) with
    | some v =>
      rw [hfa] at hs
      obtain ⟨h2, h3⟩ := hs
      have hvm : v ∈ vs := List.mem_of_find?_eq_some hfa
      have hva : v.al = i := by simpa using List.find?_some hfa
      have hslot : (ops[i]?).bind (·.dst) = some v.slot := by rw [← hva]; exact (hvp v hvm).2.2.2.1
      rw [if_pos (wanted_none h2)]
      refine .inl ?_
      unfold Oper.wp
      rw [h3 a W]
      have hnew : Below W.heap.size W (W.alloc (.cells v.z v.ty)) := (Below.refl _ W).alloc (Nat.le_refl _) _
      have hst : ∀ u ∈ vs, u.st ≠ i := fun u hu e => hvx v hvm u hu (hva.trans e.symm)
      refine ⟨hAp _, hB.alloc hiW _, hCS, ?_, ?_, ?_, ?_⟩
      · intro j t hj hlv ht
        by_cases hji : j = i
        · subst hji
          rw [← hva, hno v hvm]; trivial
        · rw [if_neg hji] at hj
          exact hput _ _ j t hji hj ht ((hok.at j).st _ _ _ _ (hF j t hj (hlive j hlv) ht) hnew)
      · intro u hu hud
        rw [if_neg (hst u hu)]
        by_cases hui : u.al = i
        · obtain rfl : u = v := hap.same hu hvm (.inl (hui.trans hva.symm))
          rw [hSi u hu hui, hself _ _ hslot]
          exact ⟨W.heap.size, rfl, hiW, by simp, World.alloc_heap_new W _⟩
        · rw [if_neg hui] at hud
          rw [hkeep _ u.slot u.al hui (hvp u hu).2.2.2.1]
          exact (hL u hu hud).keep hnew (fun h => hsrc u hu h _)
      · intro u hu x hx hne hud hxd
        by_cases hui : u.al = i
        · have hxi : x.al ≠ i := fun e => hne (hap.same hu hx (.inl (hui.trans e.symm)))
          rw [if_neg hxi] at hxd
          obtain ⟨B, h4, _, h5, _⟩ := hL x hx hxd
          rw [hself _ u.slot (by rw [← hui]; exact (hvp u hu).2.2.2.1), hkeep _ x.slot x.al hxi (hvp x hx).2.2.2.1, h4]
          intro e; cases e; omega
        · rw [if_neg hui] at hud
          rw [hkeep _ u.slot u.al hui (hvp u hu).2.2.2.1]
          by_cases hxi : x.al = i
          · obtain ⟨B, h4, _, h5, _⟩ := hL u hu hud
            rw [hself _ x.slot (by rw [← hxi]; exact (hvp x hx).2.2.2.1), h4]
            intro e; cases e; omega
          · rw [if_neg hxi] at hxd
            rw [hkeep _ x.slot x.al hxi (hvp x hx).2.2.2.1]
            exact hD u hu x hx hne hud hxd
      · intro u hu hud
        rw [if_neg (hst u hu)] at hud
        have hno2 : u.so ≠ i := fun e => by have := (hS u hu hud).2; rw [e, hdi] at this; cases this
        rw [if_neg hno2]
        refine ⟨?_, (hS u hu hud).2⟩
        by_cases hui : u.al = i
        · rw [if_pos hui]
        · rw [if_neg hui]; exact (hS u hu hud).1
    | none =>
      rw [hfa] at hs
      have hna : ∀ u ∈ vs, u.al ≠ i := fun u hu e => by
        have := List.find?_eq_none.1 hfa u hu
        simp [e] at this
      cases hfb : vs.find? (fun v => v.st == i) with
      | some v =>
        rw [hfb] at hs
        obtain ⟨h2, h3, h3b, h4⟩ := hs
        have hvm : v ∈ vs := List.mem_of_find?_eq_some hfb
        have hvs : v.st = i := by simpa using List.find?_some hfb
        have hdst : (ops[i]?).map (·.dst) = some none := by rw [← hvs]; exact (hvp v hvm).2.2.2.2.1
        have hval : d v.al = true := by
          rw [List.any_eq_true] at h3
          obtain ⟨e, he, heb⟩ := h3
          simp only [Bool.and_eq_true, beq_iff_eq] at heb
          rw [← heb.2]
          exact hdep e (by simpa using he) heb.1
        have hvso : d v.so = true := by
          rw [List.any_eq_true] at h3b
          obtain ⟨e, he, heb⟩ := h3b
          simp only [Bool.and_eq_true, beq_iff_eq] at heb
          rw [← heb.2]
          exact hdep e (by simpa using he) heb.1
        have hst1 : d v.st = false := by rw [hvs]; exact hdi
        have hLv := hL v hvm hval
        rw [hst1] at hLv
        obtain ⟨B, e1, e2, e3, e4⟩ := hLv
        have e4 : W.heap[B]? = some (.cells v.z v.ty (0, 0)) := e4
        rw [if_pos (wanted_none h2)]
        refine .inl (Oper.wp_mono (fun a' W' ⟨ea, cs, ecs, hp⟩ => ?_) (h4 a W B hA hB hW e1 e4))
        subst ea
        refine ⟨hA, hB.trans (hp.below e2), hCS, ?_, ?_, ?_, ?_⟩
        · intro j t hj hlv ht
          have hji : j ≠ i := fun e => by
            subst e
            rw [hi] at ht hdst
            simp at ht hdst
            rw [hdst] at ht; cases ht
          rw [if_neg hji] at hj
          exact (hok.at j).put _ _ _ _ _ _ v hvm (hF j t hj (hlive j hlv) ht) e4 hp
        · intro u hu hud
          rw [if_neg (hna u hu)] at hud
          by_cases hui : u.st = i
          · obtain rfl : u = v := hap.same hu hvm (.inr (hui.trans hvs.symm))
            rw [if_pos hui]
            exact ⟨B, e1, e2, by rw [hp.2.2.2.1]; exact e3, cs, ecs, hp.2.2.2.2.1⟩
          · rw [if_neg hui]
            obtain ⟨C, g1, g2, g3, g4⟩ := hL u hu hud
            have hne : C ≠ B := fun e => by
              subst e
              exact hD u hu v hvm (fun e => hui (by rw [e]; exact hvs)) hud hval (g1.trans e1.symm)
            refine ⟨C, g1, g2, by rw [hp.2.2.2.1]; exact g3, ?_⟩
            cases hdu : d u.st with
            | true =>
              rw [hdu] at g4
              obtain ⟨cs', e', h5⟩ := (g4 : ∃ cs, _)
              exact ⟨cs', e', (hp.2.2.2.2.2 C hne).trans h5⟩
            | false =>
              rw [hdu] at g4
              exact (hp.2.2.2.2.2 C hne).trans g4
        · intro u hu x hx hne hud hxd
          rw [if_neg (hna u hu)] at hud
          rw [if_neg (hna x hx)] at hxd
          exact hD u hu x hx hne hud hxd
        · intro u hu hud
          rw [if_neg (hna u hu)]
          have hlift : d u.so = true → (if u.so = i then true else d u.so) = true := fun h => by split <;> first | rfl | exact h
          by_cases hui : u.st = i
          · obtain rfl : u = v := hap.same hu hvm (.inr (hui.trans hvs.symm))
            exact ⟨hval, hlift hvso⟩
          · rw [if_neg hui] at hud
            exact ⟨(hS u hu hud).1, hlift (hS u hu hud).2⟩
      | none =>
        rw [hfb] at hs
        have hnb : ∀ u ∈ vs, u.st ≠ i := fun u hu e => by
          have := List.find?_eq_none.1 hfb u hu
          simp [e] at this
        have hs := hs a W hA hB hW
        have hafter : ∀ v W', ChgN (ws.contains i) base W W' → (fs.getD i Fact2.no) v (a.eval (.tmp c)) W' → (∀ j ∈ keep i, ∀ t, (ops[j]?).bind (·.dst) = some t → d j = true → (∀ k, us.getD j none = some k → d k = false) → (fs.getD j Fact2.no) (a.eval (.tmp t)) (a.eval (.tmp c)) W') → Agree ops a0 (a.put o.dst v) ∧ Below base w0 W' ∧ ClosedD ops (fun j => if j = i then true else d j) ∧ (∀ j t, (if j = i then true else d j) = true → (∀ k, us.getD j none = some k → (if k = i then true else d k) = false) → (ops[j]?).bind (·.dst) = some t → (fs.getD j Fact2.no) ((a.put o.dst v).eval (.tmp t)) ((a.put o.dst v).eval (.tmp c)) W') ∧
            (∀ u ∈ vs, (if u.al = i then true else d u.al) = true → LiesS base (if u.st = i then true else d u.st) ((a.put o.dst v).eval (.tmp u.slot)) ((a.put o.dst v).eval (.tmp u.src)) W' u) ∧ (∀ u ∈ vs, ∀ x ∈ vs, u ≠ x → (if u.al = i then true else d u.al) = true → (if x.al = i then true else d x.al) = true → (a.put o.dst v).eval (.tmp u.slot) ≠ (a.put o.dst v).eval (.tmp x.slot)) ∧
            (∀ u ∈ vs, (if u.st = i then true else d u.st) = true → (if u.al = i then true else d u.al) = true ∧ (if u.so = i then true else d u.so) = true) := by
          intro v W' hch hv hkp
          have hN : Near base W W' := by
            unfold ChgN at hch
            split at hch
            · exact hch
            · exact Near.of_below hch
          refine ⟨hAp v, hB.trans (hN.below hiW), hCS, ?_, ?_, ?_, ?_⟩
          · intro j t hj hlv ht
            by_cases hji : j = i
            · subst hji
              exact hself2 v W' hior t ht hv
            · rw [if_neg hji] at hj
              have hl' := hlive j hlv
              have h0 := hF j t hj hl' ht
              refine hput v W' j t hji hj ht ?_
              by_cases hw : ws.contains i = true
              · unfold writesK at hwr
                rw [List.all_eq_true] at hwr
                have h2 := hwr i (by simpa using hw)
                rw [List.all_eq_true] at h2
                have hjl : j < ops.size := by
                  rcases Nat.lt_or_ge j ops.size with h' | h'
                  · exact h'
                  · rw [Array.getElem?_eq_none h'] at ht; cases ht
                have h3 := h2 j (List.mem_range.2 hjl)
                simp only [Bool.or_eq_true, beq_iff_eq] at h3
                rcases h3 with ((((h3 | h3) | h3) | h3) | h3) | h3
                · exact absurd h3 hji
                · have := hlv i h3
                  rw [if_pos rfl] at this; cases this
                · exact (hok.at j).firm h3 _ _ _ _ h0 hN
                · have := waits_done hC _ _ _ h3 hj
                  rw [hdi] at this; cases this
                · exact hkp j (by simpa using h3) t ht hj hl'
                · cases hu : us.getD j none with
                  | none => rw [hu] at h3; cases h3
                  | some k' =>
                    rw [hu] at h3
                    have := waits_deps hC hi hdep h3
                    rw [hl' k' hu] at this; cases this
              · have hch2 : Below W.heap.size W W' := by
                  unfold ChgN at hch
                  rw [if_neg hw] at hch
                  exact hch
                exact (hok.at j).st _ _ _ _ h0 hch2
          · intro u hu hud
            rw [if_neg (hna u hu)] at hud
            rw [if_neg (hnb u hu), hkeep _ u.slot u.al (hna u hu) (hvp u hu).2.2.2.1]
            exact (hL u hu hud).near hN (hvt u hu).1 (fun h => hsrc u hu h _)
          · intro u hu x hx hne hud hxd
            rw [if_neg (hna u hu)] at hud
            rw [if_neg (hna x hx)] at hxd
            rw [hkeep _ u.slot u.al (hna u hu) (hvp u hu).2.2.2.1, hkeep _ x.slot x.al (hna x hx) (hvp x hx).2.2.2.1]
            exact hD u hu x hx hne hud hxd
          · intro u hu hud
            rw [if_neg (hnb u hu)] at hud
            rw [if_neg (hna u hu)]
            exact ⟨(hS u hu hud).1, by split <;> first | rfl | exact (hS u hu hud).2⟩
        unfold StepOkK at hs
        split
        · rename_i hw
          rw [if_pos hw] at hs
          exact .inl (Oper.wp_mono (fun a' W' ⟨v, e, hb, hv, hkp⟩ => by subst e; exact hafter v W' hb hv (fun j hj t ht _ _ => hkp j hj t ht)) hs)
        · rename_i hw
          rw [if_neg hw] at hs
          exact hafter undef W (ChgN.refl _ _ _) hs (fun j _ t ht hdj hlv => hF j t hdj hlv ht)
  · intro d a W hall ⟨hA, hB, hC, hF, hL, hD, hS⟩
    refine hend a W hA hB ⟨fun v hvm => ?_, fun u hu v hvm hne => hD u hu v hvm hne (hall _ (hvp u hu).2.1) (hall _ (hvp v hvm).2.1)⟩ (fun i t hu ht => hF i t (hall i (by
      cases h : ops[i]? with
      | none => rw [h] at ht; cases ht
      | some o => exact (Array.getElem?_eq_some_iff.1 h).1)) (fun k hk => by rw [hu] at hk; cases hk) ht)
    have := hL v hvm (hall _ (hvp v hvm).2.1)
    rw [hall _ (hvp v hvm).2.2.1] at this
    exact this
end

end Go.Proofs.Ytkfmgiacdlkmiaa

namespace Go.Proofs.Ytkfmgiacdlkmiaa
open Go Go.RowKit Go.Shelf Go.ChangeShapes Go.WideShapes Go.ChangeAt

def sameO (k : Int) (id data r : List Int) (e : Int) (k' : Int) (id' data' r' : List Int) (e' : Int) : Bool := decide (e = e') && sameX k id data k' id' data' && sameB r r'

set_option maxRecDepth 100000 in
set_option maxHeartbeats 2000000 in
theorem same9_any {K1 K2 K3 K4 K5 K6 : Nat → Prop} {k k' e e' : Int} {a1 a2 a3 a1' a2' a3' : Option Addr} {n1 c1 n2 c2 n3 c3 n1' c1' n2' c2' n3' c3' : Nat} {id data r id' data' r' : List Int} {w : World} (h1 : Rd K1 w .i64 a1 n1 c1 id) (h2 : Rd K2 w .u8 a2 n2 c2 data) (h3 : Rd K3 w .u8 a3 n3 c3 r) (h1' : Rd K4 w .i64 a1' n1' c1' id') (h2' : Rd K5 w .u8 a2' n2' c2' data') (h3' : Rd K6 w .u8 a3' n3' c3' r')
    (hn : n1 ≤ 100000000) (hn' : n1' ≤ 100000000) :
    Calls Try.prog 13 #[.agg #[.int .i64 k, .slice a1 n1 c1, .slice a2 n2 c2, .slice a3 n3 c3, .int .i64 e], .agg #[.int .i64 k', .slice a1' n1' c1', .slice a2' n2' c2', .slice a3' n3' c3', .int .i64 e']] w fun en V => en = .returned (.bool (sameO k id data r e k' id' data' r' e')) ∧ Below w.heap.size w V := by
  have hb1 : Below w.heap.size w (w.alloc (.cells #[.int .i64 k, .slice a1 n1 c1, .slice a2 n2 c2, .slice a3 n3 c3, .int .i64 e] 42)) := (Below.refl _ _).alloc (Nat.le_refl _) _
  have hq1 := OpB.new w (.int .i64 k) (.slice a1 n1 c1) (.slice a2 n2 c2) (.slice a3 n3 c3) (.int .i64 e)
  have hs1 : (w.alloc (.cells #[.int .i64 k, .slice a1 n1 c1, .slice a2 n2 c2, .slice a3 n3 c3, .int .i64 e] 42)).heap.size = w.heap.size + 1 := World.size_alloc ..
  have hb2 : Below (w.alloc (.cells #[.int .i64 k, .slice a1 n1 c1, .slice a2 n2 c2, .slice a3 n3 c3, .int .i64 e] 42)).heap.size (w.alloc (.cells #[.int .i64 k, .slice a1 n1 c1, .slice a2 n2 c2, .slice a3 n3 c3, .int .i64 e] 42)) ((w.alloc (.cells #[.int .i64 k, .slice a1 n1 c1, .slice a2 n2 c2, .slice a3 n3 c3, .int .i64 e] 42)).alloc (.cells #[.int .i64 k', .slice a1' n1' c1', .slice a2' n2' c2', .slice a3' n3' c3', .int .i64 e'] 42)) := (Below.refl _ _).alloc (Nat.le_refl _) _
  have hq2 := OpB.new (w.alloc (.cells #[.int .i64 k, .slice a1 n1 c1, .slice a2 n2 c2, .slice a3 n3 c3, .int .i64 e] 42)) (.int .i64 k') (.slice a1' n1' c1') (.slice a2' n2' c2') (.slice a3' n3' c3') (.int .i64 e')
  have HQ1 := Lib.hid (hq1.below hb2 hq1.lt)
  rw [hs1] at hq2
  have HQ2 := Lib.hid hq2
  have hbb := hb1.trans (hb2.mono hb1.size)
  have HR1 := Lib.hid (h1.below hbb)
  have HR2 := Lib.hid (h2.below hbb)
  have HR3 := Lib.hid (h3.below hbb)
  have HR1' := Lib.hid (h1'.below hbb)
  have HR2' := Lib.hid (h2'.below hbb)
  have HR3' := Lib.hid (h3'.below hbb)
  have HBB := Lib.hid hbb
  have HN := Lib.hid hn
  have HN' := Lib.hid hn'
  clear h1 h2 h3 h1' h2' h3' hb1 hb2 hq1 hq2 hbb hs1 hn hn'
  obtain ⟨q0, q1, q2, q3, q4⟩ := HQ1.out.cell
  obtain ⟨r0, r1, r2, r3, r4⟩ := HQ2.out.cell
  by_cases he : e = e'
  · subst he
    cases hx : sameX k id data k' id' data' with
    | false =>
      have HF : Hid (sameO k id data r e k' id' data' r' e = false) := by show _ = _; unfold sameO; rw [hx]; simp
      have HX := Lib.hid hx
      clear hx
      go_enter Try.func13, Try.ntmps13
      go_wp2_with (go_at_call 25; refine (rsame_any HR1.out HR2.out HR1'.out HR2'.out HN.out HN'.out).mono ?_; rintro e V ⟨rfl, hb⟩; rw [HX.out]; have HBV : Hid (Below w.heap.size w V) := HBB.out.trans (hb.mono HBB.out.size); clear hb)
      go_ret
      exact ⟨by rw [HF.out]; rfl, HBV.out⟩
    | true =>
      have HF : Hid (sameO k id data r e k' id' data' r' e = sameB r r') := by show _ = _; unfold sameO; rw [hx]; simp
      have HX := Lib.hid hx
      clear hx
      go_enter Try.func13, Try.ntmps13
      go_wp2_with (first
        | (go_at_call 25; refine (rsame_any HR1.out HR2.out HR1'.out HR2'.out HN.out HN'.out).mono ?_; rintro e V ⟨rfl, hb⟩; rw [HX.out]; have HBV : Hid (Below w.heap.size w V) := HBB.out.trans (hb.mono HBB.out.size); have HQV1 := Lib.hid (HQ1.out.below hb HQ1.out.lt); have HQV2 := Lib.hid (HQ2.out.below hb HQ2.out.lt); have HS := Lib.hid (HR3.out.below hb); have HS' := Lib.hid (HR3'.out.below hb); clear hb q0 q1 q2 q3 q4 r0 r1 r2 r3 r4; have q3 := HQV1.out.cell.2.2.2.1; have r3 := HQV2.out.cell.2.2.2.1)
        | (go_at_call 8; refine (same_any HS.out HS'.out).mono ?_; rintro e w' ⟨rfl, hb2⟩; have HB2 := Lib.hid hb2; clear hb2; rw [← HF.out]))
      go_ret
      exact ⟨rfl, HBV.out.trans (HB2.out.mono HBV.out.size)⟩
  · have HF : Hid (sameO k id data r e k' id' data' r' e' = false) := by show _ = _; unfold sameO; rw [decide_eq_false he]; simp
    have heb : (e == e') = false := by simpa using he
    clear he
    go_enter Try.func13, Try.ntmps13
    go_wp2
    go_ret
    exact ⟨by rw [HF.out]; rfl, HBB.out⟩

theorem eqF_of_getD {a b : List Fl} (hl : a.length = b.length) (h : ∀ j, j < a.length → a[j]?.getD Fl.none = b[j]?.getD Fl.none) : a = b := by
  apply List.ext_getElem hl
  intro j h1 h2
  have := h j h1
  rwa [List.getElem?_eq_getElem h1, List.getElem?_eq_getElem h2] at this
def sameFs (a b : List Fl) : Bool := decide (a = b)

set_option maxRecDepth 100000 in
set_option maxHeartbeats 2000000 in
theorem sameFiles_any {K K' L L' : Nat → Prop} {a a' : Option Addr} {n c n' c' : Nat} {fs gs : List Fl} {W : World} (h1 : RdFs K L W a n c fs) (h2 : RdFs K' L' W a' n' c' gs) (hi : ∀ f ∈ fs, f.id.length ≤ 100000000) (hi' : ∀ f ∈ gs, f.id.length ≤ 100000000) :
    Calls Try.prog 16 #[.slice a n c, .slice a' n' c'] W fun e V => e = .returned (.bool (sameFs fs gs)) ∧ Below W.heap.size W V := by
  have H1 := Lib.hid h1
  have H2 := Lib.hid h2
  have hs1 := h1.small
  have hs2 := h2.small
  have HL1 := Lib.hid h1.hl
  have HL2 := Lib.hid h2.hl
  have HI1 := Lib.hid hi
  have HI2 := Lib.hid hi'
  clear h1 h2 hi hi'
  by_cases hne : n = n'
  · subst hne
    go_enter Try.func16, Try.ntmps16
    go_wp2
    go_loopw [5] (fun i wr => ∃ k : Nat, k ≤ n ∧ i = .int .i64 (k : Int) ∧ Hid (∀ j, j < k → fs[j]?.getD Fl.none = gs[j]?.getD Fl.none) ∧ Hid (Below W.heap.size W wr)) (fun i _ => n - (intOf i).toNat)
    case atStart => exact ⟨0, Nat.zero_le _, rfl, fun j h => absurd h (Nat.not_lt_zero j), Below.refl _ _⟩
    case round =>
      obtain ⟨k, hk, rfl, HE, HB⟩ := hrel
      by_cases hlt : k < n
      · obtain ⟨b, off, rfl, _, hb1, hc⟩ := H1.out.cells (by omega)
        obtain ⟨b', off', rfl, _, hb2, hc'⟩ := H2.out.cells (by omega)
        obtain ⟨f, f0, f1, f2, hf⟩ := hc k hlt
        obtain ⟨g, g0, g1, g2, hg⟩ := hc' k hlt
        obtain ⟨fk, fa1, fn1, fc1, fa2, fn2, fc2⟩ := f
        obtain ⟨gk, ga1, gn1, gc1, ga2, gn2, gc2⟩ := g
        obtain ⟨hfk, hfi, hfd⟩ := hf
        obtain ⟨hgk, hgi, hgd⟩ := hg
        have hfk : fk = _ := hfk
        have hgk : gk = _ := hgk
        have f0 : wr.cell? ⟨b, off + k * 3, none⟩ = some (.int .i64 fk) := (HB.out.cell (p := ⟨b, off + k * 3, none⟩) hb1).trans f0
        have f1 : wr.cell? ⟨b, off + k * 3 + 1, none⟩ = some (.slice fa1 fn1 fc1) := (HB.out.cell (p := ⟨b, off + k * 3 + 1, none⟩) hb1).trans f1
        have f2 : wr.cell? ⟨b, off + k * 3 + 2, none⟩ = some (.slice fa2 fn2 fc2) := (HB.out.cell (p := ⟨b, off + k * 3 + 2, none⟩) hb1).trans f2
        have g0 : wr.cell? ⟨b', off' + k * 3, none⟩ = some (.int .i64 gk) := (HB.out.cell (p := ⟨b', off' + k * 3, none⟩) hb2).trans g0
        have g1 : wr.cell? ⟨b', off' + k * 3 + 1, none⟩ = some (.slice ga1 gn1 gc1) := (HB.out.cell (p := ⟨b', off' + k * 3 + 1, none⟩) hb2).trans g1
        have g2 : wr.cell? ⟨b', off' + k * 3 + 2, none⟩ = some (.slice ga2 gn2 gc2) := (HB.out.cell (p := ⟨b', off' + k * 3 + 2, none⟩) hb2).trans g2
        have hfm : (fs[k]?.getD Fl.none).id.length ≤ 100000000 := by
          have hk2 : k < fs.length := by rw [← HL1.out]; exact hlt
          rw [List.getElem?_eq_getElem hk2]; exact HI1.out _ (List.getElem_mem hk2)
        have hgm : (gs[k]?.getD Fl.none).id.length ≤ 100000000 := by
          have hk2 : k < gs.length := by rw [← HL2.out]; exact hlt
          rw [List.getElem?_eq_getElem hk2]; exact HI2.out _ (List.getElem_mem hk2)
        have hfn : fn1 ≤ 100000000 := by have h : fn1 = _ := hfi.hl; omega
        have hgn : gn1 ≤ 100000000 := by have h : gn1 = _ := hgi.hl; omega
        have HCS : Hid (∀ V, Below wr.heap.size wr V → Calls Try.prog 25 #[.agg #[.int .i64 fk, .slice fa1 fn1 fc1, .slice fa2 fn2 fc2], .agg #[.int .i64 gk, .slice ga1 gn1 gc1, .slice ga2 gn2 gc2]] V fun e w' => e = .returned (.bool (decide (fs[k]?.getD Fl.none = gs[k]?.getD Fl.none))) ∧ Below V.heap.size V w') := fun V hbv => by
          have hbr := HB.out.trans (hbv.mono HB.out.size)
          refine (rsame_any (k := fk) (k' := gk) (hfi.below hbr) (hfd.below hbr) (hgi.below hbr) (hgd.below hbr) hfn hgn).mono ?_
          rintro e V' ⟨rfl, hb⟩
          refine ⟨?_, hb⟩
          congr 2
          unfold sameX
          rw [decide_eq_decide, hfk, hgk]
          constructor
          · rintro ⟨⟨e1, e2⟩, e3⟩
            generalize fs[k]?.getD Fl.none = F at *
            generalize gs[k]?.getD Fl.none = G at *
            cases F; cases G
            simp_all
          · intro e; rw [e]; exact ⟨⟨rfl, rfl⟩, rfl⟩
        clear hc hc' hfi hfd hgi hgd hfk hgk hfm hgm hfn hgn
        by_cases he : fs[k]?.getD Fl.none = gs[k]?.getD Fl.none
        · have HE2 : Hid (∀ j, j < k + 1 → fs[j]?.getD Fl.none = gs[j]?.getD Fl.none) := fun j hj => by
            by_cases h : j = k
            · rw [h]; exact he
            · exact HE.out j (by omega)
          rw [decide_eq_true he] at HCS
          clear he
          go_upto_region 6 with fail
          have HLT1 : Hid (b < wr.heap.size) := Nat.lt_of_lt_of_le hb1 HB.out.size
          have HLT2 : Hid (b' < wr.heap.size) := Nat.lt_of_lt_of_le hb2 HB.out.size
          refine wp_region_facts (by kernel_rfl) (fs := [Fact.is (.slice (some ⟨b, off, none⟩) n c), Fact.is (.int .i64 (k : Int)), Fact.is (.pointer (some ⟨b, off + k * 3, none⟩)), Fact.is (.agg #[.int .i64 fk, .slice fa1 fn1 fc1, .slice fa2 fn2 fc2]), Fact.is (.slice (some ⟨b', off', none⟩) n c'), Fact.is (.int .i64 (k : Int)), Fact.is (.pointer (some ⟨b', off' + k * 3, none⟩)), Fact.is (.agg #[.int .i64 gk, .slice ga1 gn1 gc1, .slice ga2 gn2 gc2]), Fact.is (.bool true), Fact.is (.bool false)]) (by kernel_rfl) (by kernel_rfl) ⟨Fact.is_stable _, Fact.is_stable _, Fact.is_stable _, Fact.is_stable _, Fact.is_stable _, Fact.is_stable _, Fact.is_stable _, Fact.is_stable _, Fact.is_stable _, Fact.is_stable _, trivial⟩ ?_ ?_
          · exact ⟨by
                intro a W hA hB hd
                have hB := Lib.hid hB
                have p0 : a.eval (.tmp 0) = .slice (some ⟨b, off, none⟩) n c := hA.at 0 (by kernel_rfl)
                exact (step_pure (wanted_none rfl) (.slice (some ⟨b, off, none⟩) n c) (by simp [execOp, go_sem, tm p0]) rfl),
              by
                intro a W hA hB hd
                have hB := Lib.hid hB
                have p5 : a.eval (.tmp 5) = .int .i64 (k : Int) := hA.at 5 (by kernel_rfl)
                exact (step_pure (wanted_none rfl) (.int .i64 (k : Int)) (by simp [execOp, go_sem, tm p5]) rfl),
              by
                intro a W hA hB hd
                obtain ⟨q0, q1, -⟩ := hd
                have h17 : a.eval (.tmp 17) = .slice (some ⟨b, off, none⟩) n c := q0
                have h18 : a.eval (.tmp 18) = .int .i64 (k : Int) := q1
                have hB := Lib.hid hB
                exact (step_pure (wanted_none rfl) (.pointer (some ⟨b, off + k * 3, none⟩)) (by simp [execOp, go_sem, tm h17, tm h18, hlt]) rfl),
              by
                intro a W hA hB hd
                obtain ⟨q0, -⟩ := hd
                have h19 : a.eval (.tmp 19) = .pointer (some ⟨b, off + k * 3, none⟩) := q0
                have hB := Lib.hid hB
                have c0 := (hB.out.cell (p := ⟨b, off + k * 3, none⟩) (HLT1.out)).trans f0
                have c1 := (hB.out.cell (p := ⟨b, off + k * 3 + 1, none⟩) (HLT1.out)).trans f1
                have c2 := (hB.out.cell (p := ⟨b, off + k * 3 + 2, none⟩) (HLT1.out)).trans f2
                exact (step_pure (wanted_none rfl) (.agg #[.int .i64 fk, .slice fa1 fn1 fc1, .slice fa2 fn2 fc2]) (by simp [execOp, go_sem, tm h19, c0, c1, c2]) rfl),
              by
                intro a W hA hB hd
                have hB := Lib.hid hB
                have p1 : a.eval (.tmp 1) = .slice (some ⟨b', off', none⟩) n c' := hA.at 1 (by kernel_rfl)
                exact (step_pure (wanted_none rfl) (.slice (some ⟨b', off', none⟩) n c') (by simp [execOp, go_sem, tm p1]) rfl),
              by
                intro a W hA hB hd
                have hB := Lib.hid hB
                have p5 : a.eval (.tmp 5) = .int .i64 (k : Int) := hA.at 5 (by kernel_rfl)
                exact (step_pure (wanted_none rfl) (.int .i64 (k : Int)) (by simp [execOp, go_sem, tm p5]) rfl),
              by
                intro a W hA hB hd
                obtain ⟨q0, q1, -⟩ := hd
                have h21 : a.eval (.tmp 21) = .slice (some ⟨b', off', none⟩) n c' := q0
                have h22 : a.eval (.tmp 22) = .int .i64 (k : Int) := q1
                have hB := Lib.hid hB
                exact (step_pure (wanted_none rfl) (.pointer (some ⟨b', off' + k * 3, none⟩)) (by simp [execOp, go_sem, tm h21, tm h22, hlt]) rfl),
              by
                intro a W hA hB hd
                obtain ⟨q0, -⟩ := hd
                have h23 : a.eval (.tmp 23) = .pointer (some ⟨b', off' + k * 3, none⟩) := q0
                have hB := Lib.hid hB
                have c0 := (hB.out.cell (p := ⟨b', off' + k * 3, none⟩) (HLT2.out)).trans g0
                have c1 := (hB.out.cell (p := ⟨b', off' + k * 3 + 1, none⟩) (HLT2.out)).trans g1
                have c2 := (hB.out.cell (p := ⟨b', off' + k * 3 + 2, none⟩) (HLT2.out)).trans g2
                exact (step_pure (wanted_none rfl) (.agg #[.int .i64 gk, .slice ga1 gn1 gc1, .slice ga2 gn2 gc2]) (by simp [execOp, go_sem, tm h23, c0, c1, c2]) rfl),
              by
                intro a W hA hB hd
                obtain ⟨q0, q1, -⟩ := hd
                have h20 : a.eval (.tmp 20) = .agg #[.int .i64 fk, .slice fa1 fn1 fc1, .slice fa2 fn2 fc2] := q0
                have h24 : a.eval (.tmp 24) = .agg #[.int .i64 gk, .slice ga1 gn1 gc1, .slice ga2 gn2 gc2] := q1
                have hB := Lib.hid hB
                exact (step_calls (wanted_none rfl) rfl (vals := #[.agg #[.int .i64 fk, .slice fa1 fn1 fc1, .slice fa2 fn2 fc2], .agg #[.int .i64 gk, .slice ga1 gn1 gc1, .slice ga2 gn2 gc2]]) (by simp [h20, h24]) (enters_of Try.func25 (by kernel_rfl) rfl) ((HCS.out W hB.out).mono fun e w' ⟨he, hb⟩ => ⟨_, he, rfl, hb⟩)),
              by
                intro a W hA hB hd
                obtain ⟨q0, -⟩ := hd
                have h25 : a.eval (.tmp 25) = .bool true := q0
                have hB := Lib.hid hB
                exact (step_pure (wanted_none rfl) (.bool false) (by simp [execOp, go_sem, tm h25]) rfl), trivial⟩
          · intro zx WQ hA hB hE
            have h26 : zx.eval (.tmp 26) = .bool false := hE.2.2.2.2.2.2.2.2.2.1
            have hp := hA.puts [17, 18, 19, 20, 21, 22, 23, 24, 25, 26] (by kernel_rfl)
            clear hA hE
            simp only [putAll, h26] at hp
            clear h26
            generalize zx.eval = ev at hp
            subst hp
            have HBQ : Hid (Below W.heap.size W WQ) := HB.out.trans (hB.mono HB.out.size)
            clear HCS f0 f1 f2 g0 g1 g2 hB
            simp [Act.put]
            go_wp2
            go_roundw
            case rel => exact ⟨k + 1, by omega, by go_num, HE2, HBQ⟩
            case measure => simp [intOf]; omega
        · have HF : Hid (sameFs fs gs = false) := decide_eq_false (fun e => he (by rw [e]))
          rw [decide_eq_false he] at HCS
          clear he
          go_upto_region 6 with fail
          have HLT1 : Hid (b < wr.heap.size) := Nat.lt_of_lt_of_le hb1 HB.out.size
          have HLT2 : Hid (b' < wr.heap.size) := Nat.lt_of_lt_of_le hb2 HB.out.size
          refine wp_region_facts (by kernel_rfl) (fs := [Fact.is (.slice (some ⟨b, off, none⟩) n c), Fact.is (.int .i64 (k : Int)), Fact.is (.pointer (some ⟨b, off + k * 3, none⟩)), Fact.is (.agg #[.int .i64 fk, .slice fa1 fn1 fc1, .slice fa2 fn2 fc2]), Fact.is (.slice (some ⟨b', off', none⟩) n c'), Fact.is (.int .i64 (k : Int)), Fact.is (.pointer (some ⟨b', off' + k * 3, none⟩)), Fact.is (.agg #[.int .i64 gk, .slice ga1 gn1 gc1, .slice ga2 gn2 gc2]), Fact.is (.bool false), Fact.is (.bool true)]) (by kernel_rfl) (by kernel_rfl) ⟨Fact.is_stable _, Fact.is_stable _, Fact.is_stable _, Fact.is_stable _, Fact.is_stable _, Fact.is_stable _, Fact.is_stable _, Fact.is_stable _, Fact.is_stable _, Fact.is_stable _, trivial⟩ ?_ ?_
          · exact ⟨by
                intro a W hA hB hd
                have hB := Lib.hid hB
                have p0 : a.eval (.tmp 0) = .slice (some ⟨b, off, none⟩) n c := hA.at 0 (by kernel_rfl)
                exact (step_pure (wanted_none rfl) (.slice (some ⟨b, off, none⟩) n c) (by simp [execOp, go_sem, tm p0]) rfl),
              by
                intro a W hA hB hd
                have hB := Lib.hid hB
                have p5 : a.eval (.tmp 5) = .int .i64 (k : Int) := hA.at 5 (by kernel_rfl)
                exact (step_pure (wanted_none rfl) (.int .i64 (k : Int)) (by simp [execOp, go_sem, tm p5]) rfl),
              by
                intro a W hA hB hd
                obtain ⟨q0, q1, -⟩ := hd
                have h17 : a.eval (.tmp 17) = .slice (some ⟨b, off, none⟩) n c := q0
                have h18 : a.eval (.tmp 18) = .int .i64 (k : Int) := q1
                have hB := Lib.hid hB
                exact (step_pure (wanted_none rfl) (.pointer (some ⟨b, off + k * 3, none⟩)) (by simp [execOp, go_sem, tm h17, tm h18, hlt]) rfl),
              by
                intro a W hA hB hd
                obtain ⟨q0, -⟩ := hd
                have h19 : a.eval (.tmp 19) = .pointer (some ⟨b, off + k * 3, none⟩) := q0
                have hB := Lib.hid hB
                have c0 := (hB.out.cell (p := ⟨b, off + k * 3, none⟩) (HLT1.out)).trans f0
                have c1 := (hB.out.cell (p := ⟨b, off + k * 3 + 1, none⟩) (HLT1.out)).trans f1
                have c2 := (hB.out.cell (p := ⟨b, off + k * 3 + 2, none⟩) (HLT1.out)).trans f2
                exact (step_pure (wanted_none rfl) (.agg #[.int .i64 fk, .slice fa1 fn1 fc1, .slice fa2 fn2 fc2]) (by simp [execOp, go_sem, tm h19, c0, c1, c2]) rfl),
              by
                intro a W hA hB hd
                have hB := Lib.hid hB
                have p1 : a.eval (.tmp 1) = .slice (some ⟨b', off', none⟩) n c' := hA.at 1 (by kernel_rfl)
                exact (step_pure (wanted_none rfl) (.slice (some ⟨b', off', none⟩) n c') (by simp [execOp, go_sem, tm p1]) rfl),
              by
                intro a W hA hB hd
                have hB := Lib.hid hB
                have p5 : a.eval (.tmp 5) = .int .i64 (k : Int) := hA.at 5 (by kernel_rfl)
                exact (step_pure (wanted_none rfl) (.int .i64 (k : Int)) (by simp [execOp, go_sem, tm p5]) rfl),
              by
                intro a W hA hB hd
                obtain ⟨q0, q1, -⟩ := hd
                have h21 : a.eval (.tmp 21) = .slice (some ⟨b', off', none⟩) n c' := q0
                have h22 : a.eval (.tmp 22) = .int .i64 (k : Int) := q1
                have hB := Lib.hid hB
                exact (step_pure (wanted_none rfl) (.pointer (some ⟨b', off' + k * 3, none⟩)) (by simp [execOp, go_sem, tm h21, tm h22, hlt]) rfl),
              by
                intro a W hA hB hd
                obtain ⟨q0, -⟩ := hd
                have h23 : a.eval (.tmp 23) = .pointer (some ⟨b', off' + k * 3, none⟩) := q0
                have hB := Lib.hid hB
                have c0 := (hB.out.cell (p := ⟨b', off' + k * 3, none⟩) (HLT2.out)).trans g0
                have c1 := (hB.out.cell (p := ⟨b', off' + k * 3 + 1, none⟩) (HLT2.out)).trans g1
                have c2 := (hB.out.cell (p := ⟨b', off' + k * 3 + 2, none⟩) (HLT2.out)).trans g2
                exact (step_pure (wanted_none rfl) (.agg #[.int .i64 gk, .slice ga1 gn1 gc1, .slice ga2 gn2 gc2]) (by simp [execOp, go_sem, tm h23, c0, c1, c2]) rfl),
              by
                intro a W hA hB hd
                obtain ⟨q0, q1, -⟩ := hd
                have h20 : a.eval (.tmp 20) = .agg #[.int .i64 fk, .slice fa1 fn1 fc1, .slice fa2 fn2 fc2] := q0
                have h24 : a.eval (.tmp 24) = .agg #[.int .i64 gk, .slice ga1 gn1 gc1, .slice ga2 gn2 gc2] := q1
                have hB := Lib.hid hB
                exact (step_calls (wanted_none rfl) rfl (vals := #[.agg #[.int .i64 fk, .slice fa1 fn1 fc1, .slice fa2 fn2 fc2], .agg #[.int .i64 gk, .slice ga1 gn1 gc1, .slice ga2 gn2 gc2]]) (by simp [h20, h24]) (enters_of Try.func25 (by kernel_rfl) rfl) ((HCS.out W hB.out).mono fun e w' ⟨he, hb⟩ => ⟨_, he, rfl, hb⟩)),
              by
                intro a W hA hB hd
                obtain ⟨q0, -⟩ := hd
                have h25 : a.eval (.tmp 25) = .bool false := q0
                have hB := Lib.hid hB
                exact (step_pure (wanted_none rfl) (.bool true) (by simp [execOp, go_sem, tm h25]) rfl), trivial⟩
          · intro zx WQ hA hB hE
            have h26 : zx.eval (.tmp 26) = .bool true := hE.2.2.2.2.2.2.2.2.2.1
            have hp := hA.puts [17, 18, 19, 20, 21, 22, 23, 24, 25, 26] (by kernel_rfl)
            clear hA hE
            simp only [putAll, h26] at hp
            clear h26
            generalize zx.eval = ev at hp
            subst hp
            have HBQ : Hid (Below W.heap.size W WQ) := HB.out.trans (hB.mono HB.out.size)
            clear HCS f0 f1 f2 g0 g1 g2 hB
            simp [Act.put]
            go_wp2
            go_ret
            exact ⟨by rw [HF.out]; rfl, HBQ.out⟩
      · obtain rfl : k = n := by omega
        have HF : Hid (sameFs fs gs = true) := decide_eq_true (eqF_of_getD (HL1.out.symm.trans HL2.out) (by rw [← HL1.out]; exact HE.out))
        go_wp2
        go_ret
        exact ⟨by rw [HF.out]; rfl, HB.out⟩
  · have HF : Hid (sameFs fs gs = false) := decide_eq_false (fun e => hne (by rw [HL1.out, HL2.out, e]))
    have hnb : ((n : Int) != (n' : Int)) = true := by simp; omega
    go_enter Try.func16, Try.ntmps16
    go_wp2
    go_ret
    exact ⟨by rw [HF.out]; rfl, Below.refl _ _⟩

end Go.Proofs.Ytkfmgiacdlkmiaa

namespace Go.Proofs.Ytkfmgiacdlkmiaa
open Go Go.RowKit Go.Shelf Go.ChangeShapes Go.WideShapes Go.ChangeAt

def RawB (W : World) (B : Nat) (k : Int) (s1 s2 : Value) : Prop := W.heap[B]? = some (.cells #[.int .u8 k, s1, s2] 27 (0, 0))
theorem RawB.cell {W : World} {B : Nat} {k : Int} {s1 s2 : Value} (h : RawB W B k s1 s2) : W.cell? ⟨B, 0, none⟩ = some (.int .u8 k) ∧ W.cell? ⟨B, 1, none⟩ = some s1 ∧ W.cell? ⟨B, 2, none⟩ = some s2 := by
  have h : W.heap[B]? = _ := h
  simp [World.cell?, h]
theorem RawB.new (W : World) (k : Int) (s1 s2 : Value) : RawB (W.alloc (.cells #[.int .u8 k, s1, s2] 27)) W.heap.size k s1 s2 := World.alloc_heap_new W _
theorem RawB.lt {W : World} {B : Nat} {k : Int} {s1 s2 : Value} (h : RawB W B k s1 s2) : B < W.heap.size := (Array.getElem?_eq_some_iff.1 h).1
theorem RawB.below {W V : World} {B n : Nat} {k : Int} {s1 s2 : Value} (h : RawB W B k s1 s2) (hb : Below n W V) (hn : B < n) : RawB V B k s1 s2 := (hb.block B hn).trans h

set_option maxRecDepth 100000 in
set_option maxHeartbeats 2000000 in
theorem made_any {k : Nat} (hk : k < 256) {a1 a2 : Option Addr} {n1 c1 n2 c2 : Nat} (h1 : n1 ≤ c1) (h2 : n2 ≤ c2) (hs1 : n1 ≤ 9223372036854775807) (hs2 : n2 ≤ 9223372036854775807) (w : World) :
    Calls Try.prog 5 #[.agg #[.int .u8 (k : Int), .slice a1 n1 c1, .slice a2 n2 c2]] w fun e V => e = .returned (.agg #[.int .i64 ((1 + k % 9 : Nat) : Int), .slice a1 (min n1 40) c1, .slice a2 (min n2 200) c2]) ∧ Below w.heap.size w V := by
  have hb1 : Below w.heap.size w (w.alloc (.cells #[.int .u8 (k : Int), .slice a1 n1 c1, .slice a2 n2 c2] 27)) := (Below.refl _ _).alloc (Nat.le_refl _) _
  have hr1 := RawB.new w (k : Int) (.slice a1 n1 c1) (.slice a2 n2 c2)
  have hs : (w.alloc (.cells #[.int .u8 (k : Int), .slice a1 n1 c1, .slice a2 n2 c2] 27)).heap.size = w.heap.size + 1 := World.size_alloc ..
  have hb2 := hb1.alloc hb1.size (.cells #[.int .i64 0, .slice none 0 0, .slice none 0 0] 25)
  have hf2 := FileB.new (w.alloc (.cells #[.int .u8 (k : Int), .slice a1 n1 c1, .slice a2 n2 c2] 27)) 0 (.slice none 0 0) (.slice none 0 0)
  have hr2 := hr1.below ((Below.refl (w.alloc (.cells #[.int .u8 (k : Int), .slice a1 n1 c1, .slice a2 n2 c2] 27)).heap.size _).alloc (Nat.le_refl _) (.cells #[.int .i64 0, .slice none 0 0, .slice none 0 0] 25)) hr1.lt
  rw [hs] at hf2
  have hmod : (k : Int).tmod 9 = ((k % 9 : Nat) : Int) := by rw [Int.tmod_eq_emod_of_nonneg (by omega)]; omega
  have hw1 : IntKind.u8.wrap ((k % 9 : Nat) : Int) = ((k % 9 : Nat) : Int) := by rw [IntKind.wrap_u8]; omega
  have hw2 : IntKind.i64.wrap ((k % 9 : Nat) : Int) = ((k % 9 : Nat) : Int) := by rw [IntKind.wrap_i64]; omega
  have hm1 : min n1 40 ≤ c1 := by omega
  have hm2 : min n2 200 ≤ c2 := by omega
  have HBX := Lib.hid hb2
  have HF := Lib.hid hf2
  have HR := Lib.hid hr2
  clear hb1 hr1 hs hb2 hf2 hr2
  go_enter Try.func5, Try.ntmps5
  go_upto_region 1 with fail
  generalize ((w.alloc (.cells #[.int .u8 (k : Int), .slice a1 n1 c1, .slice a2 n2 c2] 27)).alloc (.cells #[.int .i64 0, .slice none 0 0, .slice none 0 0] 25)) = V at *
  obtain ⟨r0, r1, r2⟩ := HR.out.cell
  have rlt := HR.out.lt
  have f0 := HF.out.c0
  have f1 := HF.out.c1
  have f2 := HF.out.c2
  have ff0 := HF.out.f 0
  have ff1 := HF.out.f 1
  have ff2 := HF.out.f 2
  have flt := HF.out.lt
  go_region
  have hX : FileB (((V.setCell ⟨w.heap.size + 1, 0, none⟩ (.int .i64 (1 + (k : Int) % 9))).setCell ⟨w.heap.size + 1, 1, none⟩ (.slice a1 (min (n1 : Int) 40).toNat c1)).setCell ⟨w.heap.size + 1, 2, none⟩ (.slice a2 (min (n2 : Int) 200).toNat c2)).drew (w.heap.size + 1) (1 + (k : Int) % 9) (.slice a1 (min (n1 : Int) 40).toNat c1) (.slice a2 (min (n2 : Int) 200).toNat c2) :=
    HF.out.stored (k' := 1 + (k : Int) % 9) (s1' := .slice a1 (min (n1 : Int) 40).toNat c1) (s2' := .slice a2 (min (n2 : Int) 200).toNat c2)
  have HB : Hid (Below w.heap.size w (((V.setCell ⟨w.heap.size + 1, 0, none⟩ (.int .i64 (1 + (k : Int) % 9))).setCell ⟨w.heap.size + 1, 1, none⟩ (.slice a1 (min (n1 : Int) 40).toNat c1)).setCell ⟨w.heap.size + 1, 2, none⟩ (.slice a2 (min (n2 : Int) 200).toNat c2)).drew) :=
    (((HBX.out.setCell (Nat.le_succ _) _).setCell (Nat.le_succ _) _).setCell (Nat.le_succ _) _).drew
  have e0 : 1 + (k : Int) % 9 = ((1 + k % 9 : Nat) : Int) := by omega
  have e1 : (min (n1 : Int) 40).toNat = min n1 40 := by omega
  have e2 : (min (n2 : Int) 200).toNat = min n2 200 := by omega
  have g0 := hX.c0
  have g1 := hX.c1
  have g2 := hX.c2
  clear hX f0 f1 f2 ff0 ff1 ff2 flt r0 r1 r2 rlt HF HR HBX
  generalize (((V.setCell ⟨w.heap.size + 1, 0, none⟩ (.int .i64 (1 + (k : Int) % 9))).setCell ⟨w.heap.size + 1, 1, none⟩ (.slice a1 (min (n1 : Int) 40).toNat c1)).setCell ⟨w.heap.size + 1, 2, none⟩ (.slice a2 (min (n2 : Int) 200).toNat c2)).drew = X at *
  rw [e0, e1, e2] at *
  go_wp2
  exact bodyPost_ret (v := .agg #[.int .i64 ((1 + k % 9 : Nat) : Int), .slice a1 (min n1 40) c1, .slice a2 (min n2 200) c2]) (by simp only [results, Try.results5]; simp [go_sem, g0, g1, g2]) rfl ⟨rfl, HB.out⟩

end Go.Proofs.Ytkfmgiacdlkmiaa
