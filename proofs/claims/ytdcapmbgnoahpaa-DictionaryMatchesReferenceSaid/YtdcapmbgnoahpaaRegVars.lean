/-
  A region that draws its order, lays variables of its own and stores what calls gave into them: where each variable lies, and what it holds, whatever the order.
-/
import Derived.Test.YtdcapmbgnoahpaaRegFacts
import Derived.RangeFuncBox
namespace Go.Proofs.Ytdcapmbgnoahpaa
open Go Go.RowKit Go.Shelf

/-- A variable: the operations that lay it and that store it, its slot, its type, what it holds ahead of the store and behind it. -/
structure VarOp where
  al : Nat
  st : Nat
  slot : Nat
  ty : TypeId
  z : Array Value
  c : Array Value

/-- Where a variable lies, and what it holds. -/
def Lies (base : Nat) (b : Bool) (x : Value) (W : World) (v : VarOp) : Prop :=
  ∃ B, x = .pointer (some ⟨B, 0, none⟩) ∧ base ≤ B ∧ B < W.heap.size ∧ W.heap[B]? = some (.cells (if b then v.c else v.z) v.ty (0, 0))
/-- A store into one block. -/
def Puts (W : World) (B : Nat) (c : Array Value) (ty : TypeId) (W' : World) : Prop :=
  W'.os = W.os ∧ W'.tape = W.tape ∧ W'.output = W.output ∧ W'.heap.size = W.heap.size ∧ W'.heap[B]? = some (.cells c ty (0, 0)) ∧ ∀ b, b ≠ B → W'.heap[b]? = W.heap[b]?
theorem Puts.below {W W' : World} {B base : Nat} {c : Array Value} {ty : TypeId} (h : Puts W B c ty W') (hb : base ≤ B) : Below base W W' :=
  ⟨h.1, h.2.1, h.2.2.1, by rw [h.2.2.2.1]; exact Nat.le_refl _, fun b hlt => h.2.2.2.2.2 b (by omega)⟩

/-- What each operation must do: one that lays a variable, one that stores it, any other one. -/
def Step3 (P : Program) (ops : Array Oper) (Q : Exit → Act → World → Prop) (a0 : Act) (w0 : World) (base : Nat) (fs : List Fact) (vs : List VarOp) (k : Nat) (o : Oper) : Prop :=
  match vs.find? (fun v => v.al == k) with
  | some v => o.guard = none ∧ ∀ (a : Act) (W : World), (execOp a.eval o).run P W = .ok (.value (.pointer (some ⟨W.heap.size, 0, none⟩))) (W.alloc (.cells v.z v.ty))
  | none => match vs.find? (fun v => v.st == k) with
    | some v => o.guard = none ∧ (o.after.toList.any fun e => Region.binds .any e && e.on == v.al) = true ∧ ∀ (a : Act) (W : World) (B : Nat), Agree ops a0 a → Below base w0 W → Waits fs ops a W o.after.toList → a.eval (.tmp v.slot) = .pointer (some ⟨B, 0, none⟩) → W.heap[B]? = some (.cells v.z v.ty (0, 0)) →
        o.wp P a W (fun a' W' => a' = a ∧ Puts W B v.c v.ty W') Q
    | none => ∀ (a : Act) (W : World), Agree ops a0 a → Below base w0 W → Waits fs ops a W o.after.toList → StepOk P ops Q (fs.getD k Fact.no) o a W
def Steps3 (P : Program) (ops : Array Oper) (Q : Exit → Act → World → Prop) (a0 : Act) (w0 : World) (base : Nat) (fs : List Fact) (vs : List VarOp) : Nat → List Oper → Prop
  | _, [] => True
  | k, o :: r => Step3 P ops Q a0 w0 base fs vs k o ∧ Steps3 P ops Q a0 w0 base fs vs (k + 1) r

/-- Slots, places: each of its own. -/
def keysB (ops : Array Oper) (bs : List Bool) (vs : List VarOp) : Bool :=
  (vs.all fun v => bs.getD v.al false && decide (v.al < ops.size) && decide (v.st < ops.size) && ((ops[v.al]?).bind (·.dst) == some v.slot) && ((ops[v.st]?).map (·.dst) == some none)) && (vs.all fun u => vs.all fun v => u.al != v.st)
/-- No two share an operation. -/
def Apart : List VarOp → Prop
  | [] => True
  | v :: r => (∀ u ∈ r, u.al ≠ v.al ∧ u.st ≠ v.st) ∧ Apart r
theorem Apart.same : ∀ {vs : List VarOp}, Apart vs → ∀ {u v : VarOp}, u ∈ vs → v ∈ vs → (u.al = v.al ∨ u.st = v.st) → u = v
  | [], _, u, v, hu, _, _ => by cases hu
  | x :: r, h, u, v, hu, hv, he => by
    rcases List.mem_cons.1 hu with rfl | hu'
    · rcases List.mem_cons.1 hv with rfl | hv'
      · rfl
      · have := h.1 v hv'
        rcases he with e | e
        · exact absurd e.symm this.1
        · exact absurd e.symm this.2
    · rcases List.mem_cons.1 hv with rfl | hv'
      · have := h.1 u hu'
        rcases he with e | e
        · exact absurd e this.1
        · exact absurd e this.2
      · exact Apart.same h.2 hu' hv' he
def AllNo : List Fact → List Bool → Prop
  | φ :: r, b :: s => (b = true → φ = Fact.no) ∧ AllNo r s
  | _, _ => True
theorem AllNo.at : ∀ {fs : List Fact} {bs : List Bool}, AllNo fs bs → ∀ i, bs.getD i false = true → fs.getD i Fact.no = Fact.no
  | [], _, _, _, _ => rfl
  | _ :: _, [], _, _, h => by simp at h
  | _ :: _, _ :: _, h, 0, hb => h.1 hb
  | _ :: _, _ :: _, h, i + 1, hb => AllNo.at h.2 i hb
def AllFirm1 (base : Nat) : List Fact → Prop
  | [] => True
  | φ :: r => φ.Firm base ∧ AllFirm1 base r
theorem AllFirm1.at {base : Nat} : ∀ {fs : List Fact}, AllFirm1 base fs → ∀ i, (fs.getD i Fact.no).Firm base
  | [], _, _ => Fact.no_firm base
  | _ :: _, h, 0 => h.1
  | _ :: _, h, i + 1 => AllFirm1.at h.2 i

/-- Behind the region. -/
def Ends3 (base : Nat) (a : Act) (W : World) (vs : List VarOp) : Prop :=
  (∀ v ∈ vs, Lies base true (a.eval (.tmp v.slot)) W v) ∧ ∀ u ∈ vs, ∀ v ∈ vs, u ≠ v → a.eval (.tmp u.slot) ≠ a.eval (.tmp v.slot)

section
variable {P : Program} {ops : Array Oper} {Q : Exit → Act → World → Prop} {a0 : Act} {w0 : World} {base : Nat} {fs : List Fact} {vs : List VarOp}
theorem Steps3.at : ∀ {l : List Oper} {k : Nat}, Steps3 P ops Q a0 w0 base fs vs k l → ∀ {i : Nat} {o : Oper}, l[i]? = some o → Step3 P ops Q a0 w0 base fs vs (k + i) o
  | [], _, _, i, o, hi => by simp at hi
  | o' :: r, k, h, 0, o, hi => by
    obtain rfl : o' = o := by simpa using hi
    exact h.1
  | o' :: r, k, h, i + 1, o, hi => by
    have := Steps3.at h.2 (i := i) (o := o) (by simpa using hi)
    rwa [show k + 1 + i = k + (i + 1) by omega] at this

theorem step3_other {k : Nat} {o : Oper} (h1 : vs.find? (fun v => v.al == k) = none) (h2 : vs.find? (fun v => v.st == k) = none) (h : ∀ (a : Act) (W : World), Agree ops a0 a → Below base w0 W → Waits fs ops a W o.after.toList → StepOk P ops Q (fs.getD k Fact.no) o a W) : Step3 P ops Q a0 w0 base fs vs k o := by
  unfold Step3; rw [h1, h2]; exact h
theorem step3_al {k : Nat} {o : Oper} (v : VarOp) (h1 : vs.find? (fun v => v.al == k) = some v) (hg : o.guard = none) (h : ∀ (a : Act) (W : World), (execOp a.eval o).run P W = .ok (.value (.pointer (some ⟨W.heap.size, 0, none⟩))) (W.alloc (.cells v.z v.ty))) : Step3 P ops Q a0 w0 base fs vs k o := by
  unfold Step3; rw [h1]; exact ⟨hg, h⟩
theorem step3_st {k : Nat} {o : Oper} (v : VarOp) (h1 : vs.find? (fun v => v.al == k) = none) (h2 : vs.find? (fun v => v.st == k) = some v) (hg : o.guard = none) (ha : (o.after.toList.any fun e => Region.binds .any e && e.on == v.al) = true)
    (h : ∀ (a : Act) (W : World) (B : Nat), Agree ops a0 a → Below base w0 W → Waits fs ops a W o.after.toList → a.eval (.tmp v.slot) = .pointer (some ⟨B, 0, none⟩) → W.heap[B]? = some (.cells v.z v.ty (0, 0)) → o.wp P a W (fun a' W' => a' = a ∧ Puts W B v.c v.ty W') Q) : Step3 P ops Q a0 w0 base fs vs k o := by
  unfold Step3; rw [h1, h2]; exact ⟨hg, ha, h⟩

theorem Lies.keep {b : Bool} {x : Value} {W W' : World} {v : VarOp} (h : Lies base b x W v) (hb : Below W.heap.size W W') : Lies base b x W' v := by
  obtain ⟨B, h1, h2, h3, h4⟩ := h
  exact ⟨B, h1, h2, Nat.lt_of_lt_of_le h3 hb.size, (hb.block B h3).trans h4⟩

theorem wp_region_vars {id : Nat} {bs : List Bool} (hm : P.follows .mixedOrders = true) (hlow : lowB .any ops = true) (hout : outB ops a0.tmps.size = true) (hk : keysB ops bs vs = true) (hap : Apart vs) (hbase : base = w0.heap.size)
    (hno : AllNo fs bs) (hfi : AllFirm1 base fs)
    (hstep : Steps3 P ops Q a0 w0 base fs vs 0 ops.toList) (hend : ∀ a W, Agree ops a0 a → Below base w0 W → Ends3 base a W vs → Q .normal a W) : (Code.region id ops true).wp P Q a0 w0 := by
  unfold keysB at hk
  simp only [Bool.and_eq_true, List.all_eq_true] at hk
  obtain ⟨hk1, hk2⟩ := hk
  have hvp : ∀ v ∈ vs, bs.getD v.al false = true ∧ v.al < ops.size ∧ v.st < ops.size ∧ (ops[v.al]?).bind (·.dst) = some v.slot ∧ (ops[v.st]?).map (·.dst) = some none := by
    intro v hvm
    have := hk1 v hvm
    simp only [decide_eq_true_eq, beq_iff_eq] at this
    exact ⟨this.1.1.1.1, this.1.1.1.2, this.1.1.2, this.1.2, this.2⟩
  have hvx : ∀ u ∈ vs, ∀ v ∈ vs, u.al ≠ v.st := by
    intro u hu v hvm
    have := hk2 u hu v hvm
    simpa using this
  clear hk1 hk2
  refine wp_region_inv (I := fun d a W => Agree ops a0 a ∧ Below base w0 W ∧ (∀ i t, d i = true → (ops[i]?).bind (·.dst) = some t → (fs.getD i Fact.no) (a.eval (.tmp t)) W) ∧ (∀ v ∈ vs, d v.al = true → Lies base (d v.st) (a.eval (.tmp v.slot)) W v) ∧
    (∀ u ∈ vs, ∀ v ∈ vs, u ≠ v → d u.al = true → d v.al = true → a.eval (.tmp u.slot) ≠ a.eval (.tmp v.slot)) ∧ (∀ v ∈ vs, d v.st = true → d v.al = true)) hm hlow ?_ ?_ ?_
  · exact ⟨⟨rfl, rfl, fun _ _ => rfl⟩, ⟨rfl, rfl, rfl, Nat.le_refl _, fun _ _ => rfl⟩, fun i t (h : false = true) => (by cases h), fun v _ (h : false = true) => (by cases h), fun u _ v _ _ (h : false = true) => (by cases h), fun v _ (h : false = true) => (by cases h)⟩
  · intro i o d a W hi hdi hdep ⟨hA, hB, hF, hL, hD, hS⟩
    have hs := Steps3.at hstep (i := i) (o := o) (by simpa using hi)
    rw [Nat.zero_add] at hs
    have hW : Waits fs ops a W o.after.toList := Waits.of _ fun e he hb t ht => hF e.on t (hdep e (by simpa using he) hb) ht
    have hiW : base ≤ W.heap.size := by subst hbase; exact hB.size
    have hio : (ops[i]?).bind (·.dst) = o.dst := by rw [hi]; rfl
    have hAp : ∀ u, Agree ops a0 (a.put o.dst u) := fun u => by
      cases hd : o.dst with
      | none => exact ⟨hA.size, hA.defers, hA.other⟩
      | some s =>
        refine ⟨by simp [Act.put, hA.size], by simp [Act.put, hA.defers], fun t ht => ?_⟩
        rw [eval_put_ne (fun e => ht i (by rw [hio, hd, e]))]
        exact hA.other t ht
    have hkeep : ∀ (u : Value) t j, j ≠ i → (ops[j]?).bind (·.dst) = some t → (a.put o.dst u).eval (.tmp t) = a.eval (.tmp t) := fun u t j hji hj => by
      cases hd : o.dst with
      | none => rfl
      | some s => exact eval_put_ne (fun e => hji (outB_ne hout (hio.trans (hd.trans (by rw [e]))) hj)) u
    have hself : ∀ (u : Value) t, (ops[i]?).bind (·.dst) = some t → (a.put o.dst u).eval (.tmp t) = u := fun u t ht => by
      rw [hio] at ht
      rw [ht, eval_put_self (by rw [hA.size]; exact outB_lt hout (hio.trans ht))]
    have hSi : ∀ v ∈ vs, v.al = i → d v.st = false := fun v hv e => by
      cases h : d v.st with
      | false => rfl
      | true => have := hS v hv h; rw [e, hdi] at this; cases this
    unfold wpOp
    simp only [hi]
    unfold Step3 at hs
    cases hfa : vs.find? (fun v => v.al == i) with
    | some v =>
      rw [hfa] at hs
      obtain ⟨h2, h3⟩ := hs
      have hvm : v ∈ vs := List.mem_of_find?_eq_some hfa
      have hva : v.al = i := by simpa using List.find?_some hfa
      have hslot : (ops[i]?).bind (·.dst) = some v.slot := by rw [← hva]; exact (hvp v hvm).2.2.2.1
      rw [if_pos (wanted_none h2)]
      refine .inl ?_
      unfold Oper.wp
      rw [h3 a W]
      have hnew : Below W.heap.size W (W.alloc (.cells v.z v.ty)) := (Below.refl _ W).alloc (Nat.le_refl _) _
      have hst : ∀ u ∈ vs, u.st ≠ i := fun u hu e => hvx v hvm u hu (hva.trans e.symm)
      refine ⟨hAp _, hB.alloc hiW _, ?_, ?_, ?_, ?_⟩
      · intro j t hj ht
        by_cases hji : j = i
        · subst hji
          rw [hno.at j (by rw [← hva]; exact (hvp v hvm).1)]; trivial
        · rw [if_neg hji] at hj
          rw [hkeep _ t j hji ht]
          exact hfi.at j _ _ _ (hF j t hj ht) (hnew.mono hiW)
      · intro u hu hud
        rw [if_neg (hst u hu)]
        by_cases hui : u.al = i
        · obtain rfl : u = v := hap.same hu hvm (.inl (hui.trans hva.symm))
          rw [hSi u hu hui, hself _ _ hslot]
          exact ⟨W.heap.size, rfl, hiW, by simp, World.alloc_heap_new W _⟩
        · rw [if_neg hui] at hud
          rw [hkeep _ u.slot u.al hui (hvp u hu).2.2.2.1]
          exact (hL u hu hud).keep hnew
      · intro u hu x hx hne hud hxd
        by_cases hui : u.al = i
        · have hxi : x.al ≠ i := fun e => hne (hap.same hu hx (.inl (hui.trans e.symm)))
          rw [if_neg hxi] at hxd
          obtain ⟨B, h4, _, h5, _⟩ := hL x hx hxd
          rw [hself _ u.slot (by rw [← hui]; exact (hvp u hu).2.2.2.1), hkeep _ x.slot x.al hxi (hvp x hx).2.2.2.1, h4]
          intro e; cases e; omega
        · rw [if_neg hui] at hud
          rw [hkeep _ u.slot u.al hui (hvp u hu).2.2.2.1]
          by_cases hxi : x.al = i
          · obtain ⟨B, h4, _, h5, _⟩ := hL u hu hud
            rw [hself _ x.slot (by rw [← hxi]; exact (hvp x hx).2.2.2.1), h4]
            intro e; cases e; omega
          · rw [if_neg hxi] at hxd
            rw [hkeep _ x.slot x.al hxi (hvp x hx).2.2.2.1]
            exact hD u hu x hx hne hud hxd
      · intro u hu hud
        rw [if_neg (hst u hu)] at hud
        by_cases hui : u.al = i
        · rw [if_pos hui]
        · rw [if_neg hui]; exact hS u hu hud
    | none =>
      rw [hfa] at hs
      have hna : ∀ u ∈ vs, u.al ≠ i := fun u hu e => by
        have := List.find?_eq_none.1 hfa u hu
        simp [e] at this
      cases hfb : vs.find? (fun v => v.st == i) with
      | some v =>
        rw [hfb] at hs
        obtain ⟨h2, h3, h4⟩ := hs
        have hvm : v ∈ vs := List.mem_of_find?_eq_some hfb
        have hvs : v.st = i := by simpa using List.find?_some hfb
        have hdst : (ops[i]?).map (·.dst) = some none := by rw [← hvs]; exact (hvp v hvm).2.2.2.2
        have hval : d v.al = true := by
          rw [List.any_eq_true] at h3
          obtain ⟨e, he, heb⟩ := h3
          simp only [Bool.and_eq_true, beq_iff_eq] at heb
          rw [← heb.2]
          exact hdep e (by simpa using he) heb.1
        have hst0 : d v.st = false := by rw [hvs]; exact hdi
        have hLv := hL v hvm hval
        rw [hst0] at hLv
        obtain ⟨B, e1, e2, e3, e4⟩ := hLv
        rw [if_pos (wanted_none h2)]
        refine .inl (Oper.wp_mono (fun a' W' ⟨ea, hp⟩ => ?_) (h4 a W B hA hB hW e1 e4))
        subst ea
        refine ⟨hA, hB.trans (hp.below e2), ?_, ?_, ?_, ?_⟩
        · intro j t hj ht
          have hji : j ≠ i := fun e => by
            subst e
            rw [hi] at ht hdst
            simp at ht hdst
            rw [hdst] at ht; cases ht
          rw [if_neg hji] at hj
          exact hfi.at j _ _ _ (hF j t hj ht) (hp.below e2)
        · intro u hu hud
          rw [if_neg (hna u hu)] at hud
          by_cases hui : u.st = i
          · obtain rfl : u = v := hap.same hu hvm (.inr (hui.trans hvs.symm))
            rw [if_pos hui]
            exact ⟨B, e1, e2, by rw [hp.2.2.2.1]; exact e3, hp.2.2.2.2.1⟩
          · rw [if_neg hui]
            obtain ⟨C, g1, g2, g3, g4⟩ := hL u hu hud
            have hne : C ≠ B := fun e => by
              subst e
              exact hD u hu v hvm (fun e => hui (by rw [e]; exact hvs)) hud hval (g1.trans e1.symm)
            exact ⟨C, g1, g2, by rw [hp.2.2.2.1]; exact g3, (hp.2.2.2.2.2 C hne).trans g4⟩
        · intro u hu x hx hne hud hxd
          rw [if_neg (hna u hu)] at hud
          rw [if_neg (hna x hx)] at hxd
          exact hD u hu x hx hne hud hxd
        · intro u hu hud
          rw [if_neg (hna u hu)]
          by_cases hui : u.st = i
          · obtain rfl : u = v := hap.same hu hvm (.inr (hui.trans hvs.symm))
            exact hval
          · rw [if_neg hui] at hud
            exact hS u hu hud
      | none =>
        rw [hfb] at hs
        have hnb : ∀ u ∈ vs, u.st ≠ i := fun u hu e => by
          have := List.find?_eq_none.1 hfb u hu
          simp [e] at this
        have hs := hs a W hA hB hW
        have hafter : ∀ v W', Below W.heap.size W W' → (fs.getD i Fact.no) v W' → Agree ops a0 (a.put o.dst v) ∧ Below base w0 W' ∧ (∀ j t, (if j = i then true else d j) = true → (ops[j]?).bind (·.dst) = some t → (fs.getD j Fact.no) ((a.put o.dst v).eval (.tmp t)) W') ∧
            (∀ u ∈ vs, (if u.al = i then true else d u.al) = true → Lies base (if u.st = i then true else d u.st) ((a.put o.dst v).eval (.tmp u.slot)) W' u) ∧ (∀ u ∈ vs, ∀ x ∈ vs, u ≠ x → (if u.al = i then true else d u.al) = true → (if x.al = i then true else d x.al) = true → (a.put o.dst v).eval (.tmp u.slot) ≠ (a.put o.dst v).eval (.tmp x.slot)) ∧
            (∀ u ∈ vs, (if u.st = i then true else d u.st) = true → (if u.al = i then true else d u.al) = true) := by
          intro v W' hb hv
          refine ⟨hAp v, hB.trans (hb.mono hiW), ?_, ?_, ?_, ?_⟩
          · intro j t hj ht
            by_cases hji : j = i
            · subst hji
              rw [hself _ _ ht]; exact hv
            · rw [if_neg hji] at hj
              rw [hkeep _ t j hji ht]
              exact hfi.at j _ _ _ (hF j t hj ht) (hb.mono hiW)
          · intro u hu hud
            rw [if_neg (hna u hu)] at hud
            rw [if_neg (hnb u hu), hkeep _ u.slot u.al (hna u hu) (hvp u hu).2.2.2.1]
            exact (hL u hu hud).keep hb
          · intro u hu x hx hne hud hxd
            rw [if_neg (hna u hu)] at hud
            rw [if_neg (hna x hx)] at hxd
            rw [hkeep _ u.slot u.al (hna u hu) (hvp u hu).2.2.2.1, hkeep _ x.slot x.al (hna x hx) (hvp x hx).2.2.2.1]
            exact hD u hu x hx hne hud hxd
          · intro u hu hud
            rw [if_neg (hnb u hu)] at hud
            rw [if_neg (hna u hu)]
            exact hS u hu hud
        unfold StepOk at hs
        split
        · rename_i hw
          rw [if_pos hw] at hs
          exact .inl (Oper.wp_mono (fun a' W' ⟨v, e, hb, hv⟩ => by subst e; exact hafter v W' hb hv) hs)
        · rename_i hw
          rw [if_neg hw] at hs
          exact hafter undef W (Below.refl _ W) hs
  · intro d a W hall ⟨hA, hB, hF, hL, hD, hS⟩
    refine hend a W hA hB ⟨fun v hvm => ?_, fun u hu v hvm hne => hD u hu v hvm hne (hall _ (hvp u hu).2.1) (hall _ (hvp v hvm).2.1)⟩
    have := hL v hvm (hall _ (hvp v hvm).2.1)
    rw [hall _ (hvp v hvm).2.2.1] at this
    exact this
end

end Go.Proofs.Ytdcapmbgnoahpaa
