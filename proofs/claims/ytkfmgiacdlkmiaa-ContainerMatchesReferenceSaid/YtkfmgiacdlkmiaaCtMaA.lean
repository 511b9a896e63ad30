/-
  The reference's sealing with its row; facts and stores for the law that compares container with the reference.
-/
import Derived.Test.YtkfmgiacdlkmiaaCtRefS
import Derived.Test.YtkfmgiacdlkmiaaCtmB
import Derived.Test.YtkfmgiacdlkmiaaCtmC
import Derived.Test.YtkfmgiacdlkmiaaCtRaw
namespace Go.Proofs.Ytkfmgiacdlkmiaa
open Go Go.RowKit Go.Shelf Go.Sort Go.ChangeShapes Go.WideShapes Go.ChangeAt

/-- A sealed form with no error, in a row of one's own. -/
def RowSF (base : Nat) (zs : List Int) : Fact := fun v W => ∃ g c : Nat, v = .agg #[.slice (some ⟨g, 0, none⟩) zs.length c, .int .i64 0] ∧ zs.length ≤ c ∧ W.ownsRow base 5 1 (.slice (some ⟨g, 0, none⟩) zs.length c) zs.length (zs.map (Value.int .u8))
theorem rowSF_stable (base : Nat) (zs : List Int) : (RowSF base zs).Stable := fun _ _ _ ⟨g, c, e, h1, h2⟩ hb => ⟨g, c, e, h1, row_below h2 hb⟩

set_option maxRecDepth 100000 in
set_option maxHeartbeats 4000000 in
theorem sealIn_row {K1 K2 : Nat → Prop} {k : Int} {a1 a2 : Option Addr} {n1 c1 n2 c2 : Nat} {id data : List Int} {W : World} (h1 : Rd K1 W .i64 a1 n1 c1 id) (h2 : Rd K2 W .u8 a2 n2 c2 data) (hz : Smalls id) (ho : Oct data) (hse : sealE k id data = 0) :
    Calls Try.prog 7 #[.agg #[.int .i64 k, .slice a1 n1 c1, .slice a2 n2 c2]] W fun e V => ∃ v, e = .returned v ∧ RowSF W.heap.size (sealS k id data) v V ∧ Below W.heap.size W V := by
  have hse2 := hse
  unfold sealE at hse2
  have hkk : 1 ≤ k ∧ k ≤ 9 := by
    by_cases h : 1 ≤ k ∧ k ≤ 9
    · exact h
    · rw [if_pos h] at hse2; cases hse2
  rw [if_neg (fun c => c hkk)] at hse2
  have h40 : ¬ 40 < n1 := fun h => by rw [if_pos (by rw [← h1.hl]; exact h)] at hse2; cases hse2
  rw [if_neg (by rw [← h1.hl]; exact h40)] at hse2
  have h65 : ¬ 65536 < n2 := fun h => by rw [if_pos (by rw [← h2.hl]; exact h)] at hse2; cases hse2
  clear hse hse2
  have hb1 : Below W.heap.size W (W.alloc (.cells #[.int .i64 k, .slice a1 n1 c1, .slice a2 n2 c2] 25)) := (Below.refl _ _).alloc (Nat.le_refl _) _
  have hf1 := FileB.new W k (.slice a1 n1 c1) (.slice a2 n2 c2)
  have hs1 : (W.alloc (.cells #[.int .i64 k, .slice a1 n1 c1, .slice a2 n2 c2] 25)).heap.size = W.heap.size + 1 := World.size_alloc ..
  have hb2 := hb1.alloc hb1.size (.cells #[.slice none 0 0, .int .i64 0] 33)
  have hp2 := Pair.new (W.alloc (.cells #[.int .i64 k, .slice a1 n1 c1, .slice a2 n2 c2] 25)) 33 (.slice none 0 0) (.int .i64 0)
  rw [hs1] at hp2
  have hf2 := hf1.below ((Below.refl (W.alloc (.cells #[.int .i64 k, .slice a1 n1 c1, .slice a2 n2 c2] 25)).heap.size (W.alloc (.cells #[.int .i64 k, .slice a1 n1 c1, .slice a2 n2 c2] 25))).alloc (Nat.le_refl _) (.cells #[.slice none 0 0, .int .i64 0] 33)) hf1.lt
  have HF2 := Lib.hid hf2
  have H1 := Lib.hid (h1.below hb2)
  have H2 := Lib.hid (h2.below hb2)
  have HZ := Lib.hid hz
  have HO := Lib.hid ho
  have HL1 := Lib.hid h1.hl
  have HL2 := Lib.hid h2.hl
  have hs1' := h1.small
  have hs2' := h2.small
  have HB2 := Lib.hid hb2
  have HP2 := Lib.hid hp2
  have HS2 : Hid (W.heap.size + 1 < ((W.alloc (.cells #[.int .i64 k, .slice a1 n1 c1, .slice a2 n2 c2] 25)).alloc (.cells #[.slice none 0 0, .int .i64 0] 33)).heap.size) := hp2.lt
  clear h1 h2 hz ho hb1 hf1 hs1 hb2 hp2 hf2
  go_enter Try.func7, Try.ntmps7
  go_upto_region 1 with fail
  generalize (W.alloc (.cells #[.int .i64 k, .slice a1 n1 c1, .slice a2 n2 c2] 25)).alloc (.cells #[.slice none 0 0, .int .i64 0] 33) = V0 at *
  have q0 := HF2.out.c0
  have q1 := HF2.out.c1
  have q2 := HF2.out.c2
  have p0 := HP2.out.c0
  have p1 := HP2.out.c1
  have pf0 := HP2.out.f 0
  have pf1 := HP2.out.f 1
  have plt := HP2.out.lt
  have HBX : Hid (∀ v0 v1 : Value, Below W.heap.size W ((V0.setCell ⟨W.heap.size + 1, 0, none⟩ v0).setCell ⟨W.heap.size + 1, 1, none⟩ v1)) := fun v0 v1 => (HB2.out.setCell (Nat.le_succ _) _).setCell (Nat.le_succ _) _
  have HT := Lib.hid (formR9_any (k := k) H1.out H2.out HZ.out HO.out ⟨by omega, by omega⟩ (by omega) (by omega))
  clear HBX
  go_wp2_with fail
  refine HT.out.mono ?_
  rintro e V ⟨g, c, rfl, hc, hrow, hb⟩
  obtain ⟨bs, hbs⟩ : ∃ bs, sealS k id data = bs := ⟨_, rfl⟩
  have hlen : (sealS k id data).length ≤ 100000000 := by
    have := seal_len_any (k := k) HZ.out (by rw [← HL1.out]; omega) (by rw [← HL2.out]; omega : data.length ≤ 65536)
    omega
  rw [hbs] at hc hrow hlen ⊢
  have HBS := Lib.hid hbs
  have hpV := HP2.out.below hb HP2.out.lt
  have HBV : Hid (Below W.heap.size W V) := HB2.out.trans (hb.mono HB2.out.size)
  have HBX : Hid (∀ v0 v1 : Value, Below W.heap.size W ((V.setCell ⟨W.heap.size + 1, 0, none⟩ v0).setCell ⟨W.heap.size + 1, 1, none⟩ v1)) := fun v0 v1 => (HBV.out.setCell (Nat.le_succ _) _).setCell (Nat.le_succ _) _
  have HKX : Hid (∀ v0 v1 : Value, Kept (fun b => b ≠ W.heap.size + 1) V ((V.setCell ⟨W.heap.size + 1, 0, none⟩ v0).setCell ⟨W.heap.size + 1, 1, none⟩ v1)) := fun v0 v1 => (kept_set V _ 0 v0).trans (kept_set _ _ 1 v1)
  have hgb := row_base hrow
  have HG : Hid (W.heap.size ≤ g ∧ g ≠ W.heap.size + 1) := ⟨by have := HS2.out; omega, by have := HS2.out; omega⟩
  have HC := Lib.hid hc
  have HR := Lib.hid hrow
  clear hgb
  clear hb HT q0 q1 q2 p0 p1 pf0 pf1 plt hc hrow hlen hbs
  have p0 := hpV.c0
  have p1 := hpV.c1
  have pf0 := hpV.f 0
  have pf1 := hpV.f 1
  have plt := hpV.lt
  clear hpV
  obtain ⟨m, hm⟩ : ∃ m, bs.length = m := ⟨_, rfl⟩
  rw [hm] at HR HC ⊢
  have HM := Lib.hid hm
  clear hm
  go_wp2
  refine bodyPost_ret (v := .agg #[.slice (some ⟨g, 0, none⟩) m c, .int .i64 0]) (by simp [results, Try.results7, go_sem, p0, p1]) rfl ⟨_, rfl, ⟨g, c, by rw [HBS.out, HM.out], by rw [HBS.out, HM.out]; exact HC.out, ?_⟩, HBX.out _ _⟩
  rw [HBS.out, HM.out]
  exact ((HKX.out _ _).row HR.out HG.out.2).mono (by have := HS2.out; omega)

/-! ### Facts -/
def sealL (k : Int) (id data : List Int) : List Int := if sealE k id data = 0 then sealS k id data else []
def SealF (k : Int) (id data : List Int) : Fact := fun v W => ∃ a n c, v = .agg #[.slice a n c, .int .i64 (sealE k id data)] ∧ Rd (fun _ => True) W .u8 a n c (sealL k id data)
theorem sealF_stable (k : Int) (id data : List Int) : (SealF k id data).Stable := fun _ _ _ ⟨a, n, c, e, h⟩ hb => ⟨a, n, c, e, h.below hb⟩
theorem sealF_of {f : FuncId} {args : Array Value} {W : World} {k : Int} {id data : List Int} (h : Calls Try.prog f args W (SealedPost k id data W)) : Calls Try.prog f args W fun e w' => ∃ v, e = .returned v ∧ SealF k id data v w' ∧ Below W.heap.size W w' := by
  refine h.mono ?_
  rintro e V ⟨hb, ⟨hz, g, n, c, rfl, hR⟩ | ⟨hz, rfl⟩⟩
  · exact ⟨_, rfl, ⟨_, n, c, by rw [hz], by unfold sealL; rw [if_pos hz]; exact hR.mono fun _ _ _ => trivial⟩, hb⟩
  · exact ⟨_, rfl, ⟨none, 0, 0, rfl, by unfold sealL; rw [if_neg hz]; exact Rd.empty⟩, hb⟩

/-- Nothing that a variable's cells hold is read as such a number. -/
theorem rd_putg {K : Nat → Prop} {W W' : World} {k : IntKind} {a : Option Addr} {n c : Nat} {zs : List Int} {B : Nat} {ty : TypeId} {z cs : Array Value} (h : Rd K W k a n c zs) (hz : W.heap[B]? = some (.cells z ty (0, 0))) (hn : ∀ (i : Nat) (x : Int), z[i]? ≠ some (Value.int k x))
    (hp : Puts W B cs ty W') : Rd K W' k a n c zs := by
  refine ⟨h.hl, h.fit, h.top, h.small, fun h0 => ?_⟩
  obtain ⟨b, off, rfl, hb, hlt, hc⟩ := h.cells h0
  have hne : b ≠ B := by
    rintro rfl
    have h1 := hc 0 h0
    rw [Nat.add_zero] at h1
    simp only [World.cell?, hz] at h1
    exact hn off _ (by simpa using h1)
  refine ⟨b, off, rfl, hb, by rw [hp.2.2.2.1]; exact hlt, fun j hj => ?_⟩
  rw [← hc j hj]
  simp only [World.cell?, hp.2.2.2.2.2 b hne]
theorem none_u8 (i : Nat) (x : Int) : (#[.slice none 0 0, .int .i64 0] : Array Value)[i]? ≠ some (.int .u8 x) := by
  rcases i with _ | _ | i <;> simp
theorem none_sl (k : IntKind) (i : Nat) (x : Int) : (#[.slice none 0 0, .slice none 0 0] : Array Value)[i]? ≠ some (.int k x) := by
  rcases i with _ | _ | i <;> simp
def DuoS (vs : List VarSrc) : Prop := ∀ v ∈ vs, v.z = #[.slice none 0 0, .int .i64 0]
def DuoP (vs : List VarSrc) : Prop := ∀ v ∈ vs, v.z = #[.slice none 0 0, .slice none 0 0]
theorem sealF_putS {vs : List VarSrc} (hv : DuoS vs) (k : Int) (id data : List Int) : (SealF k id data).PutS vs := fun _ _ _ _ _ v hm ⟨a, n, c, e, h⟩ hz hp => ⟨a, n, c, e, rd_putg h (by rw [hv v hm] at hz; exact hz) none_u8 hp⟩
theorem puts_two {W : World} {B : Nat} {a b x y : Value} {ty : TypeId} (h : W.heap[B]? = some (.cells #[a, b] ty (0, 0))) : Puts W B #[x, y] ty ((W.setCell ⟨B, 0, none⟩ x).setCell ⟨B, 1, none⟩ y) := by
  refine ⟨rfl, rfl, rfl, by simp [World.setCell], ?_, fun c hc => ?_⟩
  · simp only [World.setCell, Array.getElem?_modify]
    simp [h]
  · simp only [World.setCell, Array.getElem?_modify]
    rw [if_neg (fun e => hc e.symm), if_neg (fun e => hc e.symm)]
theorem store_sl {Q : Exit → Act → World → Prop} {o : Oper} {a : Act} {W : World} {B : Nat} {s1 s2 : Nat} {p : Option Addr} {n c : Nat} {e : Int} (ho : o.op = .store 33 (.tmp s1) (.tmp s2)) (hd : o.dst = none) (hp : a.eval (.tmp s1) = .pointer (some ⟨B, 0, none⟩)) (hx : a.eval (.tmp s2) = .agg #[.slice p n c, .int .i64 e])
    (hk : W.heap[B]? = some (.cells #[.slice none 0 0, .int .i64 0] 33 (0, 0))) : o.wp Try.prog a W (fun a' W' => a' = a ∧ ∃ cs, a.eval (.tmp s2) = .agg cs ∧ Puts W B cs 33 W') Q := by
  have hD : Pair W B 33 (.slice none 0 0) (.int .i64 0) := hk
  have c0 := hD.c0
  have c1 := hD.c1
  have g0 := hD.f 0
  have g1 := hD.f 1
  unfold Oper.wp
  simp [execOp, ho, go_sem, tm hp, tm hx, c0, c1, g0, g1, Oper.upon, hd]
  exact puts_two hk
theorem store_pa {Q : Exit → Act → World → Prop} {o : Oper} {a : Act} {W : World} {B : Nat} {s1 s2 : Nat} {p p' : Option Addr} {n c n' c' : Nat} (ho : o.op = .store 38 (.tmp s1) (.tmp s2)) (hd : o.dst = none) (hp : a.eval (.tmp s1) = .pointer (some ⟨B, 0, none⟩)) (hx : a.eval (.tmp s2) = .agg #[.slice p n c, .slice p' n' c'])
    (hk : W.heap[B]? = some (.cells #[.slice none 0 0, .slice none 0 0] 38 (0, 0))) : o.wp Try.prog a W (fun a' W' => a' = a ∧ ∃ cs, a.eval (.tmp s2) = .agg cs ∧ Puts W B cs 38 W') Q := by
  have hD : Pair W B 38 (.slice none 0 0) (.slice none 0 0) := hk
  have c0 := hD.c0
  have c1 := hD.c1
  have g0 := hD.f 0
  have g1 := hD.f 1
  unfold Oper.wp
  simp [execOp, ho, go_sem, tm hp, tm hx, c0, c1, g0, g1, Oper.upon, hd]
  exact puts_two hk

/-- Parts in memory, away from a block. -/
def PrtAv (g : Nat) (fs : List Fl) (r : List Int) : Fact := fun v W => ∃ a1 n1 c1 a2 n2 c2, v = .agg #[.slice a1 n1 c1, .slice a2 n2 c2] ∧ RdFs (fun b => b ≠ g) (fun b => b ≠ g) W a1 n1 c1 fs ∧ Rd (fun b => b ≠ g) W .u8 a2 n2 c2 r
def PrtF (fs : List Fl) (r : List Int) : Fact := fun v W => ∃ a1 n1 c1 a2 n2 c2, v = .agg #[.slice a1 n1 c1, .slice a2 n2 c2] ∧ RdFs (fun _ => True) (fun _ => True) W a1 n1 c1 fs ∧ Rd (fun _ => True) W .u8 a2 n2 c2 r
theorem prtF_stable (fs : List Fl) (r : List Int) : (PrtF fs r).Stable := fun _ _ _ ⟨a1, n1, c1, a2, n2, c2, e, h1, h2⟩ hb => ⟨a1, n1, c1, a2, n2, c2, e, h1.below hb, h2.below hb⟩
theorem prtAv_stable (g : Nat) (fs : List Fl) (r : List Int) : (PrtAv g fs r).Stable := fun _ _ _ ⟨a1, n1, c1, a2, n2, c2, e, h1, h2⟩ hb => ⟨a1, n1, c1, a2, n2, c2, e, h1.below hb, h2.below hb⟩
theorem prt_away {fs : List Fl} {r : List Int} {v : Value} {W V : World} {g : Nat} (h : PrtF fs r v W) (hb : Below W.heap.size W V) (hg : W.heap.size ≤ g) : PrtAv g fs r v V := by
  obtain ⟨a1, n1, c1, a2, n2, c2, e, h1, h2⟩ := h
  exact ⟨a1, n1, c1, a2, n2, c2, e, (h1.mono (K' := fun b => b ≠ g) (L' := fun b => b ≠ g) (fun b hlt _ => by omega) (fun b hlt _ => by omega)).below hb, (h2.mono (K' := fun b => b ≠ g) (fun b hlt _ => by omega)).below hb⟩
theorem prt_kept {fs : List Fl} {r : List Int} {v : Value} {W V : World} {g : Nat} (h : PrtAv g fs r v W) (hk : Kept (fun b => b ≠ g) W V) : PrtF fs r v V := by
  obtain ⟨a1, n1, c1, a2, n2, c2, e, h1, h2⟩ := h
  exact ⟨a1, n1, c1, a2, n2, c2, e, (h1.kept hk hk).mono (fun _ _ _ => trivial) (fun _ _ _ => trivial), (h2.kept hk).mono fun _ _ _ => trivial⟩
theorem rdfs_put {K L : Nat → Prop} {W W' : World} {a : Option Addr} {n c : Nat} {fs : List Fl} {B : Nat} {ty : TypeId} {cs : Array Value} (h : RdFs K L W a n c fs) (hz : W.heap[B]? = some (.cells #[.slice none 0 0, .slice none 0 0] ty (0, 0))) (hp : Puts W B cs ty W') : RdFs K L W' a n c fs := by
  refine ⟨h.hl, h.fit, h.top, h.small, fun h0 => ?_⟩
  obtain ⟨b, off, rfl, hb, hlt, hc⟩ := h.cells h0
  have hne : b ≠ B := by
    rintro rfl
    obtain ⟨e, h1, _⟩ := hc 0 h0
    simp only [World.cell?, hz] at h1
    exact none_sl _ (off + 0 * 3) _ (by simpa using h1)
  refine ⟨b, off, rfl, hb, by rw [hp.2.2.2.1]; exact hlt, fun j hj => ?_⟩
  obtain ⟨e, h1, h2, h3, h4, h5, h6⟩ := hc j hj
  have same : ∀ i, W'.cell? ⟨b, i, none⟩ = W.cell? ⟨b, i, none⟩ := fun i => by simp only [World.cell?, hp.2.2.2.2.2 b hne]
  exact ⟨e, (same _).trans h1, (same _).trans h2, (same _).trans h3, h4, rd_putg h5 hz (none_sl _) hp, rd_putg h6 hz (none_sl _) hp⟩
theorem prtF_putS {vs : List VarSrc} (hv : DuoP vs) (fs : List Fl) (r : List Int) : (PrtF fs r).PutS vs := fun _ _ _ _ _ v hm ⟨a1, n1, c1, a2, n2, c2, e, h1, h2⟩ hz hp => ⟨a1, n1, c1, a2, n2, c2, e, rdfs_put h1 (by rw [hv v hm] at hz; exact hz) hp, rd_putg h2 (by rw [hv v hm] at hz; exact hz) (none_sl _) hp⟩
theorem prtAv_putS {vs : List VarSrc} (hv : DuoP vs) (g : Nat) (fs : List Fl) (r : List Int) : (PrtAv g fs r).PutS vs := fun _ _ _ _ _ v hm ⟨a1, n1, c1, a2, n2, c2, e, h1, h2⟩ hz hp => ⟨a1, n1, c1, a2, n2, c2, e, rdfs_put h1 (by rw [hv v hm] at hz; exact hz) hp, rd_putg h2 (by rw [hv v hm] at hz; exact hz) (none_sl _) hp⟩
theorem row_puts {W W' : World} {base g n c B : Nat} {ty : TypeId} {z cs : Array Value} {xs : List Value} (h : W.ownsRow base 5 1 (.slice (some ⟨g, 0, none⟩) n c) n xs) (hz : W.heap[B]? = some (.cells z ty (0, 0))) (ht : ty ≠ 5) (hp : Puts W B cs ty W') : W'.ownsRow base 5 1 (.slice (some ⟨g, 0, none⟩) n c) n xs := by
  obtain ⟨cur, hg, hn, hm, hs, htk, hb, hl⟩ := row_block h
  have hne : g ≠ B := by
    rintro rfl
    rw [hg] at hz
    injection hz with hz
    injection hz with _ hz _
    exact ht hz.symm
  exact ⟨h.1, .inr ⟨g, c, cur, rfl, hb, (hp.2.2.2.2.2 g hne).trans hg, hn, hm, by simpa using hs, by rw [Nat.mul_one]; exact htk⟩⟩
def TyP (vs : List VarSrc) : Prop := ∀ v ∈ vs, v.ty ≠ 5
theorem rowF_putS {vs : List VarSrc} (hv : TyP vs) (base : Nat) (zs : List Int) : (RowF base zs).PutS vs := fun _ _ _ _ _ v hm ⟨g, c, e, h1, h2⟩ hz hp => ⟨g, c, e, h1, row_puts h2 hz (hv v hm) hp⟩
theorem rowSF_putS {vs : List VarSrc} (hv : TyP vs) (base : Nat) (zs : List Int) : (RowSF base zs).PutS vs := fun _ _ _ _ _ v hm ⟨g, c, e, h1, h2⟩ hz hp => ⟨g, c, e, h1, row_puts h2 hz (hv v hm) hp⟩
/-- A row, and the companion's parts away from it. -/
def RowSP (base : Nat) (zs : List Int) (fs : List Fl) (r : List Int) : Fact2 := fun v y W => ∃ g c : Nat, v = .agg #[.slice (some ⟨g, 0, none⟩) zs.length c, .int .i64 0] ∧ zs.length ≤ c ∧ W.ownsRow base 5 1 (.slice (some ⟨g, 0, none⟩) zs.length c) zs.length (zs.map (Value.int .u8)) ∧ PrtAv g fs r y W
def RowP (base : Nat) (zs : List Int) (fs : List Fl) (r : List Int) : Fact2 := fun v y W => ∃ g c : Nat, v = .slice (some ⟨g, 0, none⟩) zs.length c ∧ zs.length ≤ c ∧ W.ownsRow base 5 1 (.slice (some ⟨g, 0, none⟩) zs.length c) zs.length (zs.map (Value.int .u8)) ∧ PrtAv g fs r y W
theorem ok_rowSF {base : Nat} {vs : List VarSrc} (hv : TyP vs) (b : Nat) (zs : List Int) : Fact2.Ok base vs (Fact2.of (RowSF b zs)) false false := ⟨fun _ _ _ _ h hb => rowSF_stable b zs _ _ _ h hb, fun _ _ _ _ _ _ v hm h hz hp => rowSF_putS hv b zs _ _ _ _ _ v hm h hz hp, (fun h => by cases h), fun _ _ _ _ _ h => h⟩
theorem ok_rowF {base : Nat} {vs : List VarSrc} (hv : TyP vs) (b : Nat) (zs : List Int) : Fact2.Ok base vs (Fact2.of (RowF b zs)) false false := ⟨fun _ _ _ _ h hb => rowF_stable b zs _ _ _ h hb, fun _ _ _ _ _ _ v hm h hz hp => rowF_putS hv b zs _ _ _ _ _ v hm h hz hp, (fun h => by cases h), fun _ _ _ _ _ h => h⟩
theorem ok_prtF {base : Nat} {vs : List VarSrc} (hv : DuoP vs) (fs : List Fl) (r : List Int) : Fact2.Ok base vs (Fact2.of (PrtF fs r)) false false := ⟨fun _ _ _ _ h hb => prtF_stable fs r _ _ _ h hb, fun _ _ _ _ _ _ v hm h hz hp => prtF_putS hv fs r _ _ _ _ _ v hm h hz hp, (fun h => by cases h), fun _ _ _ _ _ h => h⟩
theorem ok_rowSP {base : Nat} {vs : List VarSrc} (hv : TyP vs) (hd : DuoP vs) (b : Nat) (zs : List Int) (fs : List Fl) (r : List Int) : Fact2.Ok base vs (RowSP b zs fs r) false true :=
  ⟨fun _ _ _ _ ⟨g, c, e, h1, h2, h3⟩ hb => ⟨g, c, e, h1, row_below h2 hb, prtAv_stable g fs r _ _ _ h3 hb⟩, fun _ _ _ _ _ _ v hm ⟨g, c, e, h1, h2, h3⟩ hz hp => ⟨g, c, e, h1, row_puts h2 hz (hv v hm) hp, prtAv_putS hd g fs r _ _ _ _ _ v hm h3 hz hp⟩, (fun h => by cases h), (fun h => by cases h)⟩
theorem ok_rowP {base : Nat} {vs : List VarSrc} (hv : TyP vs) (hd : DuoP vs) (b : Nat) (zs : List Int) (fs : List Fl) (r : List Int) : Fact2.Ok base vs (RowP b zs fs r) false true :=
  ⟨fun _ _ _ _ ⟨g, c, e, h1, h2, h3⟩ hb => ⟨g, c, e, h1, row_below h2 hb, prtAv_stable g fs r _ _ _ h3 hb⟩, fun _ _ _ _ _ _ v hm ⟨g, c, e, h1, h2, h3⟩ hz hp => ⟨g, c, e, h1, row_puts h2 hz (hv v hm) hp, prtAv_putS hd g fs r _ _ _ _ _ v hm h3 hz hp⟩, (fun h => by cases h), (fun h => by cases h)⟩
theorem bytes_grow9 {W : World} {base g n c : Nat} {zs ys : List Int} (h : W.ownsRow base 5 1 (.slice (some ⟨g, 0, none⟩) n c) n (zs.map (Value.int .u8))) {K : Nat → Prop} {b off len cap : Nat} (hR : Rd K W .u8 (some ⟨b, off, none⟩) len cap ys) (h0 : 0 < len) (hb : base ≤ W.heap.size) (hl : n + len ≤ 100000000) :
    ∃ g' c' w', (Builtin.append_ #[23, 23] 23 #[.slice (some ⟨g, 0, none⟩) n c, .slice (some ⟨b, off, none⟩) len cap]).run Try.prog W = .ok (.slice (some ⟨g', 0, none⟩) (n + len) c') w' ∧
      w'.ownsRow base 5 1 (.slice (some ⟨g', 0, none⟩) (n + len) c') (n + len) ((zs ++ ys).map (Value.int .u8)) ∧ W.grownBy w' (some g) := by
  obtain ⟨i0, hi, hz0, hz1, hz2⟩ := info_parts Try.infoB
  have hlen := hR.hl
  obtain ⟨b2, off2, e, _, _, hc⟩ := hR.cells h0
  cases e
  subst hlen
  obtain ⟨v', w', hr, h3, h4, h5⟩ := run_append_own (P := Try.prog) W base 23 23 5 i0 _ 1 1 Try.underlying23 hi hz0 hz1 hz2 rfl (by decide) _ n _ h ⟨b, off, none⟩ ys.length cap (ys.map (Value.int .u8)) (by simp)
    (rd_cells hc) (fun u hu => by obtain ⟨x, _, rfl⟩ := List.mem_map.1 hu; rfl) (by unfold maxLen; omega) (by omega) hb
  have hne : ¬ v' = .slice none 0 0 := fun e => by have := (h5.1 e).1; cases this
  obtain ⟨g', cap', rfl, hn, hg⟩ := row_form h3 hne
  rw [← List.map_append] at h3
  exact ⟨g', cap', w', hr, h3, h4⟩

/-- An append to a row of bytes of one's own: only that row's block turns, but for new memory. -/
theorem rowF_append_near {base g c : Nat} {zs ys : List Int} {W : World} (h1 : zs.length ≤ c) (h2 : W.ownsRow base 5 1 (.slice (some ⟨g, 0, none⟩) zs.length c) zs.length (zs.map (Value.int .u8))) {K : Nat → Prop} {a : Option Addr} {len cap : Nat} (hR : Rd K W .u8 a len cap ys) (hb : base ≤ W.heap.size) (hl : zs.length + len ≤ 100000000) :
    ∃ v' w', (Builtin.append_ #[23, 23] 23 #[.slice (some ⟨g, 0, none⟩) zs.length c, .slice a len cap]).run Try.prog W = .ok v' w' ∧ RowF base (zs ++ ys) v' w' ∧ Near base W w' ∧ Kept (fun b => b ≠ g) W w' := by
  obtain ⟨cur, hg, _, _, _, _, hbg, _⟩ := row_block h2
  have hgl := row_lt h2
  by_cases h0 : 0 < len
  · obtain ⟨b, off, rfl, _⟩ := hR.cells h0
    obtain ⟨g', c', w', hr, h3, h4⟩ := bytes_grow9 h2 hR h0 hb hl
    have hl2 : zs.length + len = (zs ++ ys).length := by rw [List.length_append, ← hR.hl]
    have hfit : (zs ++ ys).length ≤ c' := by rw [hl2] at h3; obtain ⟨cur', _, hn, _⟩ := row_block h3; exact hn
    rw [hl2] at hr h3
    exact ⟨_, w', hr, ⟨g', c', rfl, hfit, h3⟩, Near.grown h4 (fun k e => by cases e; exact ⟨hbg, _, _, hg⟩), Kept.of_grownBy h4 (fun r e h => by cases e; exact h rfl)⟩
  · obtain rfl : len = 0 := by omega
    obtain rfl : ys = [] := List.eq_nil_of_length_eq_zero hR.hl.symm
    obtain ⟨i0, hi, _, _, _⟩ := info_parts Try.infoB
    rw [List.append_nil]
    exact ⟨_, W, run_append_empty W 23 23 5 i0 Try.underlying23 hi _ _ _ h1 a cap, ⟨g, c, rfl, h1, h2⟩, Near.of_below (Below.refl _ W), Kept.refl _ _⟩

/-! ### Steps of a region with appends in place -/
section
variable {P : Program} {ops : Array Oper} {Q : Exit → Act → World → Prop} {base c : Nat} {fs : List Fact2} {keep : List Nat}
theorem stepK_append {φ : Fact2} {o : Oper} {a : Act} {W : World} (hw : Region.wanted o (yielded ops a.tmps) = true) (s x : Operand) (t tn : TypeId)
    (ho : o.op = .call { callee := .builtin .append, args := #[s, x], argTypes := #[t, tn] }) {vs vx : Value} (hs : a.eval s = vs) (hx : a.eval x = vx)
    {v' : Value} {w' : World} (hr : (Builtin.append_ #[t, tn] o.type #[vs, vx]).run P W = .ok v' w') (hb : Near base W w') (hv : φ v' (a.eval (.tmp c)) w') (hk : ∀ j ∈ keep, ∀ t, (ops[j]?).bind (·.dst) = some t → (fs.getD j Fact2.no) (a.eval (.tmp t)) (a.eval (.tmp c)) w') : StepOkK P ops Q base true fs c keep φ o a W := by
  unfold StepOkK
  rw [if_pos hw]
  unfold Oper.wp
  simp [execOp, ho, resolve, invoke, builtin, hs, hx, hr, Result.andThen]
  exact ⟨v', rfl, hb, hv, fun j hj t hd => hk j hj t (by simpa using hd)⟩
end
theorem field_sl (a : Option Addr) (n c : Nat) (e : Int) (w : World) : (Instr.field 33 (.agg #[.slice a n c, .int .i64 e]) 0).run Try.prog w = .ok (.slice a n c) w := by kernel_rfl
theorem sealS_row {f : FuncId} {args : Array Value} {W : World} {base : Nat} {zs : List Int} (h : Calls Try.prog f args W fun e V => ∃ v, e = .returned v ∧ RowSF W.heap.size zs v V ∧ Below W.heap.size W V) (hb : base ≤ W.heap.size) : Calls Try.prog f args W fun e V => ∃ v, e = .returned v ∧ RowSF base zs v V ∧ Below W.heap.size W V :=
  h.mono fun _ _ ⟨v, e, ⟨g, c, e2, h1, h2⟩, h3⟩ => ⟨v, e, ⟨g, c, e2, h1, h2.mono hb⟩, h3⟩
theorem sealS_rowP {f : FuncId} {args : Array Value} {W : World} {base : Nat} {zs : List Int} {fs : List Fl} {r : List Int} {y : Value} (h : Calls Try.prog f args W fun e V => ∃ v, e = .returned v ∧ RowSF W.heap.size zs v V ∧ Below W.heap.size W V) (hb : base ≤ W.heap.size) (hp : PrtF fs r y W) : Calls Try.prog f args W fun e V => ∃ v, e = .returned v ∧ RowSP base zs fs r v y V ∧ Below W.heap.size W V :=
  h.mono fun _ _ ⟨v, e, ⟨g, c, e2, h1, h2⟩, h3⟩ => ⟨v, e, ⟨g, c, e2, h1, h2.mono hb, prt_away hp h3 (row_base h2)⟩, h3⟩
theorem parts_prt {K : Nat → Prop} {f : FuncId} {args : Array Value} {W : World} {bs : List Int} (h : Calls Try.prog f args W (PartsPost K bs W)) : Calls Try.prog f args W fun e V => ∃ v, e = .returned v ∧ PrtF (splS bs).1 (splS bs).2 v V ∧ Below W.heap.size W V :=
  h.mono fun _ _ ⟨hb, a1, n1, c1, a2, n2, c2, e, h1, h2⟩ => ⟨_, e, ⟨a1, n1, c1, a2, n2, c2, rfl, h1.mono (fun _ _ _ => trivial) (fun _ _ _ => trivial), h2.mono fun _ _ _ => trivial⟩, hb⟩
theorem splR_prt {f : FuncId} {args : Array Value} {W : World} {bs : List Int} (h : Calls Try.prog f args W (RSplPost bs W)) : Calls Try.prog f args W fun e V => ∃ v, e = .returned v ∧ PrtF (splS bs).1 (splS bs).2 v V ∧ Below W.heap.size W V :=
  h.mono fun _ _ ⟨hb, a1, n1, c1, a2, n2, c2, e, h1, h2⟩ => ⟨_, e, ⟨a1, n1, c1, a2, n2, c2, rfl, h1, h2⟩, hb⟩
theorem spl_ids : ∀ (n : Nat) (bs : List Int), Oct bs → ∀ f ∈ (spl n bs).1, f.id.length ≤ 40
  | 0, _, _, f, h => by simp [spl] at h
  | n + 1, bs, ho, f, h => by
    unfold spl at h
    by_cases hz : fstE bs = 0
    · rw [if_neg (fun c => c hz)] at h
      obtain ⟨_, hii, _⟩ := first_canon ho hz
      rcases List.mem_cons.1 h with rfl | h
      · exact hii
      · exact spl_ids n _ (ho.drop _) f h
    · rw [if_pos hz] at h
      cases h

/-! ### What is opened, on both sides -/
def opK (bs : List Int) : Int := if openE bs = 0 then fstK bs else 0
def opI (bs : List Int) : List Int := if openE bs = 0 then fstI bs else []
def opA (bs : List Int) : List Int := if openE bs = 0 then fstD bs else []
def OpxF (bs : List Int) : Fact := fun v W => ∃ a1 n1 c1 a2 n2 c2 a3 n3 c3, v = .agg #[.int .i64 (opK bs), .slice a1 n1 c1, .slice a2 n2 c2, .slice a3 n3 c3, .int .i64 (openE bs)] ∧ Rd (fun _ => True) W .i64 a1 n1 c1 (opI bs) ∧ Rd (fun _ => True) W .u8 a2 n2 c2 (opA bs) ∧ Rd (fun _ => True) W .u8 a3 n3 c3 [] ∧ n1 ≤ 40
theorem op_len {bs : List Int} (ho : Oct bs) : (opI bs).length ≤ 40 := by
  unfold opI
  split
  · rename_i h
    have hz : fstE bs = 0 := by
      unfold openE at h
      by_cases hz : fstE bs = 0
      · exact hz
      · rw [if_pos hz] at h; exact absurd h hz
    exact (first_canon ho hz).2.1
  · decide
theorem opened_x {f : FuncId} {args : Array Value} {W : World} {bs : List Int} (ho : Oct bs) (h : Calls Try.prog f args W (OpenedPost bs W)) : Calls Try.prog f args W fun e V => ∃ v, e = .returned v ∧ OpxF bs v V ∧ Below W.heap.size W V := by
  refine h.mono ?_
  rintro e V ⟨hb, ⟨hz, a1, n1, c1, a2, n2, c2, rfl, hI, hD⟩ | ⟨hz, rfl⟩⟩
  · have hl := op_len ho
    refine ⟨_, rfl, ⟨a1, n1, c1, a2, n2, c2, none, 0, 0, by unfold opK; rw [if_pos hz, hz], ?_, ?_, Rd.empty, ?_⟩, hb⟩
    · unfold opI; rw [if_pos hz]; exact hI.mono fun _ _ _ => trivial
    · unfold opA; rw [if_pos hz]; exact hD.mono fun _ _ _ => trivial
    · unfold opI at hl; rw [if_pos hz, ← hI.hl] at hl; exact hl
  · refine ⟨_, rfl, ⟨none, 0, 0, none, 0, 0, none, 0, 0, by unfold opK; rw [if_neg hz], ?_, ?_, Rd.empty, by decide⟩, hb⟩
    · unfold opI; rw [if_neg hz]; exact Rd.empty
    · unfold opA; rw [if_neg hz]; exact Rd.empty
theorem openR_x {f : FuncId} {args : Array Value} {W : World} {bs : List Int} (ho : Oct bs) (h : Calls Try.prog f args W (OpnRPost bs W)) : Calls Try.prog f args W fun e V => ∃ v, e = .returned v ∧ OpxF bs v V ∧ Below W.heap.size W V := by
  refine h.mono ?_
  rintro e V ⟨hb, ⟨hz, a1, n1, c1, a2, n2, c2, a3, c3, rfl, hI, hD, hR⟩ | ⟨hz, rfl⟩⟩
  · have hl := op_len ho
    refine ⟨_, rfl, ⟨a1, n1, c1, a2, n2, c2, a3, 0, c3, by unfold opK; rw [if_pos hz, hz], ?_, ?_, hR, ?_⟩, hb⟩
    · unfold opI; rw [if_pos hz]; exact hI.mono fun _ _ _ => trivial
    · unfold opA; rw [if_pos hz]; exact hD.mono fun _ _ _ => trivial
    · unfold opI at hl; rw [if_pos hz, ← hI.hl] at hl; exact hl
  · refine ⟨_, rfl, ⟨none, 0, 0, none, 0, 0, none, 0, 0, by unfold opK; rw [if_neg hz], ?_, ?_, Rd.empty, by decide⟩, hb⟩
    · unfold opI; rw [if_neg hz]; exact Rd.empty
    · unfold opA; rw [if_neg hz]; exact Rd.empty
theorem opxF_stable (bs : List Int) : (OpxF bs).Stable := fun _ _ _ ⟨a1, n1, c1, a2, n2, c2, a3, n3, c3, e, h1, h2, h3, h4⟩ hb => ⟨a1, n1, c1, a2, n2, c2, a3, n3, c3, e, h1.below hb, h2.below hb, h3.below hb, h4⟩
theorem same_opx {bs : List Int} {x y : Value} {W : World} (h : OpxF bs x W) (h' : OpxF bs y W) : Calls Try.prog 13 #[x, y] W fun e V => e = .returned (.bool true) ∧ Below W.heap.size W V := by
  obtain ⟨a1, n1, c1, a2, n2, c2, a3, n3, c3, rfl, h1, h2, h3, hn⟩ := h
  obtain ⟨a1', n1', c1', a2', n2', c2', a3', n3', c3', rfl, h1', h2', h3', hn'⟩ := h'
  refine (same9_any h1 h2 h3 h1' h2' h3' (by omega) (by omega)).mono ?_
  rintro e V ⟨rfl, hb⟩
  refine ⟨?_, hb⟩
  unfold sameO sameX
  rw [sameB_true rfl, decide_eq_true rfl, decide_eq_true ⟨⟨rfl, rfl⟩, rfl⟩]; rfl
theorem same_prt {fs : List Fl} {a1 a2 : Option Addr} {n1 c1 n2 c2 : Nat} {W : World} (h1 : RdFs (fun _ => True) (fun _ => True) W a1 n1 c1 fs) (h2 : RdFs (fun _ => True) (fun _ => True) W a2 n2 c2 fs) (hi : ∀ f ∈ fs, f.id.length ≤ 40) : Calls Try.prog 16 #[.slice a1 n1 c1, .slice a2 n2 c2] W fun e V => e = .returned (.bool true) ∧ Below W.heap.size W V := by
  refine (sameFiles_any h1 h2 (fun f hf => Nat.le_trans (hi f hf) (by decide)) (fun f hf => Nat.le_trans (hi f hf) (by decide))).mono ?_
  rintro e V ⟨rfl, hb⟩
  exact ⟨by unfold sameFs; rw [decide_eq_true rfl], hb⟩

end Go.Proofs.Ytkfmgiacdlkmiaa
