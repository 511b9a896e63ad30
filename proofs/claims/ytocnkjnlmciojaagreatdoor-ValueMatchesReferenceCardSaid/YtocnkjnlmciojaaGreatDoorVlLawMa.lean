/-
  Values match the reference: the walk.
-/
import Derived.Test.YtocnkjnlmciojaaGreatDoorVlRReadL
import Derived.Test.YtocnkjnlmciojaaGreatDoorVlRAppL
import Derived.Test.YtocnkjnlmciojaaGreatDoorVlRHas
import Derived.Test.YtocnkjnlmciojaaGreatDoorVlEx
import Derived.Test.YtocnkjnlmciojaaGreatDoorVlShort
import Derived.Test.YtocnkjnlmciojaaGreatDoorVlRWide
import Derived.Test.YtocnkjnlmciojaaGreatDoorVlByFacts
import Derived.Deep.DeepCutAuto
import Derived.BigRegion
import Derived.Test.YtocnkjnlmciojaaGreatDoorRegVars
namespace Go.Proofs.YtocnkjnlmciojaaGreatDoor.valueMatches
open Go Go.RowKit Go.Shelf Go.Sort Go.ChangeShapes Go.WideShapes Go.ChangeAt
open Go.Proofs.YtocnkjnlmciojaaGreatDoor

theorem puts_three {W : World} {B : Nat} {a b c x y z : Value} {ty : TypeId} (h : W.heap[B]? = some (.cells #[a, b, c] ty (0, 0))) : Puts W B #[x, y, z] ty (((W.setCell ⟨B, 0, none⟩ x).setCell ⟨B, 1, none⟩ y).setCell ⟨B, 2, none⟩ z) := by
  refine ⟨rfl, rfl, rfl, by simp [World.setCell], ?_, fun c hc => ?_⟩
  · simp only [World.setCell, Array.getElem?_modify]
    simp [h]
  · simp only [World.setCell, Array.getElem?_modify]
    rw [if_neg (fun e => hc e.symm), if_neg (fun e => hc e.symm), if_neg (fun e => hc e.symm)]
theorem store_three {Q : Exit → Act → World → Prop} {o : Oper} {a : Act} {W : World} {B : Nat} {s1 s2 : Nat} {x y : Int} {u : ByteArray} {p q : Int} {v : ByteArray} {ty : TypeId} (ho : o.op = .store 45 (.tmp s1) (.tmp s2)) (hd : o.dst = none) (hp : a.eval (.tmp s1) = .pointer (some ⟨B, 0, none⟩)) (hx : a.eval (.tmp s2) = .agg #[.int .i64 x, .int .i64 y, .string u])
    (hk : W.heap[B]? = some (.cells #[.int .i64 p, .int .i64 q, .string v] ty (0, 0))) : o.wp Tryz.prog a W (fun a' W' => a' = a ∧ Puts W B #[.int .i64 x, .int .i64 y, .string u] ty W') Q := by
  have hT : Trio W B ty (.int .i64 p) (.int .i64 q) (.string v) := hk
  have c0 := hT.c0
  have c1 := hT.c1
  have c2 := hT.c2
  have g0 := hT.f 0
  have g1 := hT.f 1
  have g2 := hT.f 2
  unfold Oper.wp
  simp [execOp, ho, go_sem, tm hp, tm hx, c0, c1, c2, g0, g1, g2, Oper.upon, hd]
  exact puts_three hk
/-- Behind a region that is left in the ordinary way: its slots hold whatever they hold, but for one. -/
theorem through {P : Program} {c : Code} {Q : Exit → Act → World → Prop} {a : Act} {w : World} (D : List Nat) (t : Nat) (v : Value)
    (h1 : c.wp P (fun e a' w' => e = .normal ∧ Below w.heap.size w w' ∧ ∃ ev : Nat → Value, ev t = v ∧ a' = putAll ev D a) a w)
    (h2 : ∀ ev w', ev t = v → Below w.heap.size w w' → Q .normal (putAll ev D a) w') : c.wp P Q a w :=
  Code.wp_mono (fun e a' w' ⟨he, hb, ev, h, ha⟩ => by subst he; subst ha; exact h2 ev w' h hb) h1
theorem shown {D : List Nat} {t : Nat} {v : Value} {a a' : Act} {w w' : World} (hb : Below w.heap.size w w') (h1 : a'.eval (.tmp t) = v) (h2 : a' = putAll (fun t => a'.eval (.tmp t)) D a) :
    Exit.normal = .normal ∧ Below w.heap.size w w' ∧ ∃ ev : Nat → Value, ev t = v ∧ a' = putAll ev D a := ⟨rfl, hb, _, h1, h2⟩

theorem _root_.Go.Proofs.YtocnkjnlmciojaaGreatDoor.Trio.not_row3 {W : World} {B : Nat} {t e : TypeId} {a b c : Value} (h : Trio W B t a b c) (hte : t ≠ e) {base size k : Nat} {v : Value} {xs : List Value} (hr : W.ownsRow base e size v k xs) : some B ≠ v.ownBlock := by
  rcases hr.2 with ⟨rfl, _⟩ | ⟨g, cap, cur, rfl, _, hgb, _⟩
  · simp [Value.ownBlock]
  · intro e'
    obtain rfl : B = g := by simpa [Value.ownBlock] using e'
    have h : W.heap[B]? = _ := h
    rw [h] at hgb
    cases hgb
    exact hte rfl
theorem row_old {W : World} {base : Nat} {e : TypeId} {size k : Nat} {v : Value} {xs : List Value} (hr : W.ownsRow base e size v k xs) {B : Nat} (hB : W.heap.size ≤ B) : some B ≠ v.ownBlock := by
  rcases hr.2 with ⟨rfl, _⟩ | ⟨g, cap, cur, rfl, _, hgb, _⟩
  · simp [Value.ownBlock]
  · intro e'
    obtain rfl : B = g := by simpa [Value.ownBlock] using e'
    have := (Array.getElem?_eq_some_iff.1 hgb).1
    omega
theorem textV_len2 {v : Vl} (hi : I64 v.i) (h100 : v.s.length ≤ 100) : (textV v).length ≤ 1000 := by
  have h1 := textL_len hi
  have h2 := quB_len v.s
  unfold textV
  split
  · simp
  · split
    · unfold boolL; split <;> decide
    · split
      · omega
      · split
        · unfold quoteL; rw [List.length_cons, List.length_append]; simp only [List.length_cons, List.length_nil]; omega
        · decide
theorem ok_in {x : List Vl} {k : Nat} (h : k < x.length) : x[k]?.getD Vl.null ∈ x := by
  rw [List.getElem?_eq_getElem h]; exact List.getElem_mem h

/-! ### Facts on what the reference reads -/
def GotRF (v : Vl) (rest : List Int) (x : Int) : Fact := fun u W => ∃ (a : Option Addr) (n c : Nat), u = .agg #[.int .i64 v.k, .int .i64 v.i, .string (bsOf v.s), .slice none 0 0, .slice a n c, .int .i64 x] ∧ Rd (fun _ => True) W .u8 a n c rest
theorem gotRF_stable (v : Vl) (rest : List Int) (x : Int) : (GotRF v rest x).Stable := fun _ _ _ ⟨a, n, c, e, r⟩ hb => ⟨a, n, c, e, r.below hb⟩
def GotSF (vs : List Vl) (rest : List Int) (x : Int) : Fact := fun u W => ∃ (a1 : Option Addr) (n1 c1 : Nat) (a : Option Addr) (n c : Nat), u = .agg #[.int .i64 0, .int .i64 0, .string ⟨#[]⟩, .slice a1 n1 c1, .slice a n c, .int .i64 x] ∧ RdV (fun _ => True) W a1 n1 c1 vs ∧ Rd (fun _ => True) W .u8 a n c rest
theorem gotSF_stable (vs : List Vl) (rest : List Int) (x : Int) : (GotSF vs rest x).Stable := fun _ _ _ ⟨a1, n1, c1, a, n, c, e, r1, r2⟩ hb => ⟨a1, n1, c1, a, n, c, e, r1.below hb, r2.below hb⟩
theorem rread_all {K : Nat → Prop} {a : Option Addr} {len cap : Nat} {bs : List Int} (ho : Oct bs) {W : World} (hR : Rd K W .u8 a len cap bs) :
    Calls Tryz.prog 53 #[.slice a len cap] W fun e w' => ∃ u', e = .returned u' ∧ GotRF (nvV bs) (nrV bs) (rdV bs).2.2 u' w' ∧ Below W.heap.size W w' := by
  refine (rread_any ho (hR.mono (K' := fun b => b < W.heap.size) fun b hb _ => hb) (fun b hb => hb)).mono ?_
  unfold nvV nrV
  generalize rdV bs = q
  rintro e w' ⟨hb, hp⟩
  rcases hp with ⟨hz, a2, n, c, rfl, hr2⟩ | ⟨hz, rfl⟩
  · rw [if_pos hz, if_pos hz, hz]
    exact ⟨_, rfl, ⟨a2, n, c, rfl, hr2.mono fun _ _ _ => trivial⟩, hb⟩
  · rw [if_neg hz, if_neg hz]
    exact ⟨_, rfl, ⟨none, 0, 0, rfl, Rd.empty⟩, hb⟩
theorem rreadList_all {K : Nat → Prop} {a : Option Addr} {len cap : Nat} {bs : List Int} (ho : Oct bs) {W : World} (hR : Rd K W .u8 a len cap bs) :
    Calls Tryz.prog 55 #[.slice a len cap] W fun e w' => ∃ u', e = .returned u' ∧ GotSF (nvL bs) (nrL bs) (rdL bs).2.2 u' w' ∧ Below W.heap.size W w' := by
  refine (rreadList_any ho (hR.mono (K' := fun b => b < W.heap.size) fun b hb _ => hb) (fun b hb => hb)).mono ?_
  unfold nvL nrL
  generalize rdL bs = q
  rintro e w' ⟨hb, hp⟩
  rcases hp with ⟨hz, a1, n1, c1, a2, n2, c2, rfl, hr1, hr2⟩ | ⟨hz, rfl⟩
  · rw [if_pos hz, if_pos hz, hz]
    exact ⟨_, rfl, ⟨a1, n1, c1, a2, n2, c2, rfl, hr1.mono fun _ _ _ => trivial, hr2.mono fun _ _ _ => trivial⟩, hb⟩
  · rw [if_neg hz, if_neg hz]
    exact ⟨_, rfl, ⟨none, 0, 0, none, 0, 0, rfl, RdV.empty, Rd.empty⟩, hb⟩
theorem nvL_short {bs : List Int} (ho : Oct bs) : Short (nvL bs) := by
  unfold nvL
  by_cases hz : (rdL bs).2.2 = 0
  · rw [if_pos hz]
    have := (rdL_canon ho (vs := (rdL bs).1) (rest := (rdL bs).2.1) (by rw [← hz])).1
    exact fun v hv => (this v hv).2.s
  · rw [if_neg hz]
    exact fun v hv => by cases hv
section
variable {P : Program} {K : Nat → Prop} {W : World} {p : Option Addr} {len cap : Nat} {vs : List Vl}
theorem cutV_low (t : TypeId) (ht : P.underlying t = some (.slice (P.elem t))) (hs : ∀ w, (sizeOf (P.elem t)).run P w = .ok 3 w) (hR : RdV K W p len cap vs) (k : Nat) (hk : k ≤ len) :
    ∃ p' c', (∀ W' : World, (Instr.sliceAt t (.slice p len cap) none (some (.int .i64 (k : Int))) none).run P W' = .ok (.slice p' k c') W') ∧ RdV K W p' k c' (vs.take k) := by
  have hl := hR.hl
  have hf := hR.fit
  refine ⟨if cap = 0 then p else p.map (·.add (0 * 3)), cap - 0, fun W' => ?_, ?_⟩
  · rw [run_sliceAt_slice (P := P) W' t _ _ _ _ ht, run_slice_h (P := P) W' t p len cap ht .i64 (k : Int) (by omega) (by omega), hs W']
    simp [Result.andThen, sliced]
  · refine ⟨by rw [List.length_take]; omega, by omega, hR.top, by have := hR.small; omega, fun h0 => ?_⟩
    obtain ⟨b, off, rfl, hb, hlt, hcell⟩ := hR.cells (by omega)
    refine ⟨b, off, by split <;> simp [Addr.add], hb, hlt, fun j hj => ?_⟩
    rw [List.getElem?_take_of_lt hj]
    exact hcell j (by omega)
theorem cutV_high (t : TypeId) (ht : P.underlying t = some (.slice (P.elem t))) (hs : ∀ w, (sizeOf (P.elem t)).run P w = .ok 3 w) (hR : RdV K W p len cap vs) (k : Nat) (hk : k ≤ len) :
    ∃ p' c', (∀ W' : World, (Instr.sliceAt t (.slice p len cap) (some (.int .i64 (k : Int))) none none).run P W' = .ok (.slice p' (len - k) c') W') ∧ RdV K W p' (len - k) c' (vs.drop k) := by
  have hl := hR.hl
  have hf := hR.fit
  refine ⟨if cap = k then p else p.map (·.add (k * 3)), cap - k, fun W' => ?_, ?_⟩
  · rw [run_sliceAt_slice (P := P) W' t _ _ _ _ ht, run_slice_l (P := P) W' t p len cap ht .i64 (k : Int) (by omega) (by omega), hs W']
    simp [Result.andThen, sliced]
  · refine ⟨by rw [List.length_drop]; omega, by omega, by have := hR.top; omega, by have := hR.small; omega, fun h0 => ?_⟩
    obtain ⟨b, off, rfl, hb, hlt, hcell⟩ := hR.cells (by omega)
    rw [if_neg (by omega)]
    refine ⟨b, off + k * 3, ?_, hb, hlt, fun j hj => ?_⟩
    · by_cases h0 : k = 0
      · simp [Addr.add, h0]
      · simp [Addr.add, show ¬ k * 3 = 0 by omega]
    · rw [List.getElem?_drop, show off + k * 3 + j * 3 = off + (k + j) * 3 by omega]
      exact hcell (k + j) (by omega)
end

set_option maxRecDepth 100000 in
set_option maxHeartbeats 8000000 in
theorem walk {K : Nat → Prop} {ad : Option Addr} {la ca : Nat} {x : List Vl} {t : Ty} {ab : Option Addr} {nb cb : Nat} {bs : List Int} {w : World} (hX : RdW K w ad la ca x) (fX : ∀ v ∈ x, v.Fit) (ht : t.Ok) (hB0 : Rd (fun b => b < w.heap.size) w .u8 ab nb cb bs) (ho : Oct bs) (hnb : nb ≤ 100) (hV : De.Vars w) :
    Calls Tryz.prog 4 #[.slice ad la ca, encT t, .slice ab nb cb] w fun e w' => e = .returned (.bool true) ∧ Below w.heap.size w w' := by
  obtain ⟨iV, hi, hz0, hz1, hz2⟩ := info_partsV
  obtain ⟨tk, sc, nl⟩ := t
  have HTO := Lib.hid ht
  unfold encT
  dsimp only
  have HT0 := Lib.hid (Trio.new w 41 (.int .i64 tk) (.int .i64 sc) (.bool nl))
  have hb0 : Below w.heap.size w (w.alloc (.cells #[.int .i64 tk, .int .i64 sc, .bool nl] 41)) := (Below.self w).alloc (Nat.le_refl _) _
  have HB0 := Lib.hid hb0
  have HX := Lib.hid hX
  have FX := Lib.hid fX
  have HV := Lib.hid hV
  have HV0 := Lib.hid (hV.below hb0)
  have HRB := Lib.hid hB0
  have HO := Lib.hid ho
  clear hX fX hV hB0 ho hb0 ht
  go_enter Tryz.func4, Tryz.ntmps4
  go_wp2_with fail
  obtain ⟨B0, hB0⟩ : ∃ B, w.heap.size = B := ⟨_, rfl⟩
  rw [hB0] at HT0 ⊢
  have HZ := Lib.hid hB0
  clear hB0
  generalize w.alloc (.cells #[.int .i64 tk, .int .i64 sc, .bool nl] 41) = W0 at *
  refine (examples6_any W0 HV0.out).mono ?_
  rintro e w1 ⟨rfl, hb⟩
  have HB1 : Hid (Below w.heap.size w w1) := HB0.out.trans (hb.mono HB0.out.size)
  have HT1 := Lib.hid (HT0.out.below hb HT0.out.lt)
  have H1 := Lib.hid (HX.out.below HB1.out)
  rw [← HZ.out] at HT1 ⊢
  clear hb HV0 HT0 HB0 HZ
  go_wp2_with fail
  refine (short_any H1.out FX.out).mono ?_
  rintro e wq ⟨rfl, rfl⟩
  cases hsx : shortB x with
  | false =>
    go_wp2_with fail
    go_ret
    exact ⟨rfl, HB1.out⟩
  | true =>
    have SX := Lib.hid (short_parts hsx)
    have R0 := Lib.hid (HX.out.small (by have := SX.out.1; omega))
    have LA : Hid (la = x.length) := HX.out.hl
    have hla : la ≤ 60 := by rw [LA.out]; exact SX.out.1
    have HOK : Hid (∀ v ∈ x, v.Ok) := fun v hv => ⟨(FX.out v hv).k, (FX.out v hv).i, SX.out.2 v hv⟩
    have HSM : Hid (∀ v ∈ x, v.s.length ≤ 100) := fun v hv => by
      have h := hsx
      unfold shortB at h
      rw [Bool.and_eq_true] at h
      exact of_decide_eq_true (List.all_eq_true.1 h.2 v hv)
    have HSL : Hid (∀ v ∈ x, v.s.length ≤ 1000000) := fun v hv => by have := HSM.out v hv; omega
    have hfit := R0.out.fit
    have hnI : ¬ ((nb : Int) > 100) := by omega
    clear hsx HX H1 FX SX
    go_wp2_with fail
    have hown : _ := World.ownsRow_made wq (base := w.heap.size) (e := 45) (size := 3) #[] 0 HB1.out.size (by decide) rfl
    have HI0 : Hid ((wq.alloc (.cells #[] 45)).ownsRow w.heap.size 45 3 (.slice (some ⟨wq.heap.size, 0, none⟩) 0 0) (wides (x.take 0)).length (cellsV (wides (x.take 0))) ∧ Below w.heap.size w (wq.alloc (.cells #[] 45)) ∧ Trio (wq.alloc (.cells #[] 45)) w.heap.size 41 (.int .i64 tk) (.int .i64 sc) (.bool nl)) := ⟨hown, HB1.out.alloc HB1.out.size _, HT1.out.below ((Below.self wq).alloc (Nat.le_refl _) _) HT1.out.lt⟩
    clear hown HB1 HT1
    go_loopw [8, 9] (fun wv i wr => ∃ k : Nat, k ≤ la ∧ i = .int .i64 k ∧ Hid (wr.ownsRow w.heap.size 45 3 wv (wides (x.take k)).length (cellsV (wides (x.take k))) ∧ Below w.heap.size w wr ∧ Trio wr w.heap.size 41 (.int .i64 tk) (.int .i64 sc) (.bool nl))) (fun _ i _ => la - (intOf i).toNat)
    case atStart => exact ⟨0, Nat.zero_le _, rfl, HI0⟩
    case round =>
      obtain ⟨k, hk, rfl, HI⟩ := hrel
      by_cases hkL : k < la
      · obtain ⟨b, off, rfl, _, hbl, hc⟩ := R0.out.cells (by omega)
        obtain ⟨l1, hl1⟩ : ∃ l1 : Nat, la = l1 + 1 := ⟨la - 1, by omega⟩
        obtain ⟨j, hj⟩ : ∃ j : Nat, l1 = k + j := ⟨l1 - k, by omega⟩
        have HW1 : Hid (IntKind.i64.wrap ((la : Int) - 1) = (l1 : Int)) := by show _ = _; rw [IntKind.wrap_i64]; omega
        have HW2 : Hid (IntKind.i64.wrap ((l1 : Int) - (k : Int)) = (j : Int)) := by show _ = _; rw [IntKind.wrap_i64]; omega
        have hjL : j < la := by omega
        clear hl1 hj
        obtain ⟨c0, c1, c2⟩ := hc k hkL
        obtain ⟨d0, d1, d2⟩ := hc j hjL
        have hkx : k < x.length := by rw [← LA.out]; exact hkL
        have hjx : j < x.length := by rw [← LA.out]; exact hjL
        have HST := Lib.hid (wides_step hkx)
        have HOP : Hid ((x[k]?.getD Vl.null).Ok) := Lib.hid (ok_at HOK.out hkx)
        have HSP : Hid ((x[k]?.getD Vl.null).s.length ≤ 1000000) := HSL.out _ (ok_in hkx)
        have HS100 : Hid ((x[k]?.getD Vl.null).s.length ≤ 100) := HSM.out _ (ok_in hkx)
        have HOR : Hid ((x[j]?.getD Vl.null).Ok) := Lib.hid (ok_at HOK.out hjx)
        clear hc hkx hjx
        generalize x[k]?.getD Vl.null = p at *
        generalize x[j]?.getD Vl.null = r at *
        obtain ⟨pk, pi, ps⟩ := p
        obtain ⟨rk, ri, rs⟩ := r
        dsimp only at c0 c1 c2 d0 d1 d2
        have C0 := Lib.hid ((HI.out.2.1.cell (p := ⟨b, off + k * 3, none⟩) hbl).trans c0)
        have C1 := Lib.hid ((HI.out.2.1.cell (p := ⟨b, off + k * 3 + 1, none⟩) hbl).trans c1)
        have C2 := Lib.hid ((HI.out.2.1.cell (p := ⟨b, off + k * 3 + 2, none⟩) hbl).trans c2)
        have E0 := Lib.hid ((HI.out.2.1.cell (p := ⟨b, off + j * 3, none⟩) hbl).trans d0)
        have E1 := Lib.hid ((HI.out.2.1.cell (p := ⟨b, off + j * 3 + 1, none⟩) hbl).trans d1)
        have E2 := Lib.hid ((HI.out.2.1.cell (p := ⟨b, off + j * 3 + 2, none⟩) hbl).trans d2)
        clear c0 c1 c2 d0 d1 d2
        have hblR : b < wr.heap.size := Nat.lt_of_lt_of_le hbl HI.out.2.1.size
        go_upto_region 10 with fail
        refine wp_region_vars (base := wr.heap.size) (fs := [Fact.is (.slice (some ⟨b, off, none⟩) la ca), Fact.is (.int .i64 (k : Int)), Fact.is (.pointer (some ⟨b, off + k * 3, none⟩)), Fact.is (.agg #[.int .i64 pk, .int .i64 pi, .string (bsOf ps)]), Fact.is (.slice (some ⟨b, off, none⟩) la ca), Fact.is (.slice (some ⟨b, off, none⟩) la ca), Fact.is (.int .i64 (la : Int)), Fact.is (.int .i64 (l1 : Int)), Fact.is (.int .i64 (k : Int)), Fact.is (.int .i64 (j : Int)), Fact.is (.pointer (some ⟨b, off + j * 3, none⟩)), Fact.is (.agg #[.int .i64 rk, .int .i64 ri, .string (bsOf rs)]), Fact.no, Fact.no, Fact.no, Fact.no]) (bs := [false, false, false, false, false, false, false, false, false, false, false, false, true, true, false, false]) (vs := [⟨12, 14, 10, 45, #[.int .i64 0, .int .i64 0, .string ⟨#[]⟩], #[.int .i64 pk, .int .i64 pi, .string (bsOf ps)]⟩, ⟨13, 15, 11, 45, #[.int .i64 0, .int .i64 0, .string ⟨#[]⟩], #[.int .i64 rk, .int .i64 ri, .string (bsOf rs)]⟩]) (by kernel_rfl) (by kernel_rfl) (by kernel_rfl) (by kernel_rfl) (by simp [Apart]) rfl ⟨(fun h => by cases h), (fun h => by cases h), (fun h => by cases h), (fun h => by cases h), (fun h => by cases h), (fun h => by cases h), (fun h => by cases h), (fun h => by cases h), (fun h => by cases h), (fun h => by cases h), (fun h => by cases h), (fun h => by cases h), fun _ => rfl, fun _ => rfl, (fun h => by cases h), (fun h => by cases h), trivial⟩ ⟨Fact.is_firm _ _, Fact.is_firm _ _, Fact.is_firm _ _, Fact.is_firm _ _, Fact.is_firm _ _, Fact.is_firm _ _, Fact.is_firm _ _, Fact.is_firm _ _, Fact.is_firm _ _, Fact.is_firm _ _, Fact.is_firm _ _, Fact.is_firm _ _, Fact.no_firm _, Fact.no_firm _, Fact.no_firm _, Fact.no_firm _, trivial⟩ ?_ ?_
        · exact ⟨step3_other rfl rfl (by
              intro a W hA hB hd
              have hB := Lib.hid hB
              have p0 : a.eval (.tmp 0) = .slice (some ⟨b, off, none⟩) la ca := hA.at 0 (by kernel_rfl)
              have p9 : a.eval (.tmp 9) = .int .i64 (k : Int) := hA.at 9 (by kernel_rfl)
              exact step_pure (wanted_none rfl) (.slice (some ⟨b, off, none⟩) la ca) (by simp [execOp, go_sem, tm p0]) rfl),
            step3_other rfl rfl (by
              intro a W hA hB hd
              have hB := Lib.hid hB
              have p0 : a.eval (.tmp 0) = .slice (some ⟨b, off, none⟩) la ca := hA.at 0 (by kernel_rfl)
              have p9 : a.eval (.tmp 9) = .int .i64 (k : Int) := hA.at 9 (by kernel_rfl)
              exact step_pure (wanted_none rfl) (.int .i64 (k : Int)) (by simp [execOp, go_sem, tm p9]) rfl),
            step3_other rfl rfl (by
              intro a W hA hB hd
              obtain ⟨q0, q1, -⟩ := hd
              have h32 : a.eval (.tmp 32) = .slice (some ⟨b, off, none⟩) la ca := q0
              have h33 : a.eval (.tmp 33) = .int .i64 (k : Int) := q1
              have hB := Lib.hid hB
              have p0 : a.eval (.tmp 0) = .slice (some ⟨b, off, none⟩) la ca := hA.at 0 (by kernel_rfl)
              have p9 : a.eval (.tmp 9) = .int .i64 (k : Int) := hA.at 9 (by kernel_rfl)
              exact step_pure (wanted_none rfl) (.pointer (some ⟨b, off + k * 3, none⟩)) (by simp [execOp, go_sem, tm h32, tm h33, hkL]) rfl),
            step3_other rfl rfl (by
              intro a W hA hB hd
              obtain ⟨q0, -⟩ := hd
              have h34 : a.eval (.tmp 34) = .pointer (some ⟨b, off + k * 3, none⟩) := q0
              have hB := Lib.hid hB
              have p0 : a.eval (.tmp 0) = .slice (some ⟨b, off, none⟩) la ca := hA.at 0 (by kernel_rfl)
              have p9 : a.eval (.tmp 9) = .int .i64 (k : Int) := hA.at 9 (by kernel_rfl)
              have e0 := (hB.out.cell (p := ⟨b, off + k * 3, none⟩) hblR).trans C0.out
              have e1 := (hB.out.cell (p := ⟨b, off + k * 3 + 1, none⟩) hblR).trans C1.out
              have e2 := (hB.out.cell (p := ⟨b, off + k * 3 + 2, none⟩) hblR).trans C2.out
              exact step_pure (wanted_none rfl) (.agg #[.int .i64 pk, .int .i64 pi, .string (bsOf ps)]) (by simp [execOp, go_sem, tm h34, e0, e1, e2]) rfl),
            step3_other rfl rfl (by
              intro a W hA hB hd
              have hB := Lib.hid hB
              have p0 : a.eval (.tmp 0) = .slice (some ⟨b, off, none⟩) la ca := hA.at 0 (by kernel_rfl)
              have p9 : a.eval (.tmp 9) = .int .i64 (k : Int) := hA.at 9 (by kernel_rfl)
              exact step_pure (wanted_none rfl) (.slice (some ⟨b, off, none⟩) la ca) (by simp [execOp, go_sem, tm p0]) rfl),
            step3_other rfl rfl (by
              intro a W hA hB hd
              have hB := Lib.hid hB
              have p0 : a.eval (.tmp 0) = .slice (some ⟨b, off, none⟩) la ca := hA.at 0 (by kernel_rfl)
              have p9 : a.eval (.tmp 9) = .int .i64 (k : Int) := hA.at 9 (by kernel_rfl)
              exact step_pure (wanted_none rfl) (.slice (some ⟨b, off, none⟩) la ca) (by simp [execOp, go_sem, tm p0]) rfl),
            step3_other rfl rfl (by
              intro a W hA hB hd
              obtain ⟨q0, -⟩ := hd
              have h37 : a.eval (.tmp 37) = .slice (some ⟨b, off, none⟩) la ca := q0
              have hB := Lib.hid hB
              have p0 : a.eval (.tmp 0) = .slice (some ⟨b, off, none⟩) la ca := hA.at 0 (by kernel_rfl)
              have p9 : a.eval (.tmp 9) = .int .i64 (k : Int) := hA.at 9 (by kernel_rfl)
              exact step_pure (wanted_none rfl) (.int .i64 (la : Int)) (by simp [go_sem, tm h37]) rfl),
            step3_other rfl rfl (by
              intro a W hA hB hd
              obtain ⟨q0, -⟩ := hd
              have h38 : a.eval (.tmp 38) = .int .i64 (la : Int) := q0
              have hB := Lib.hid hB
              have p0 : a.eval (.tmp 0) = .slice (some ⟨b, off, none⟩) la ca := hA.at 0 (by kernel_rfl)
              have p9 : a.eval (.tmp 9) = .int .i64 (k : Int) := hA.at 9 (by kernel_rfl)
              exact step_pure (wanted_none rfl) (.int .i64 (l1 : Int)) (by simp [execOp, go_sem, tm h38, HW1.out]) rfl),
            step3_other rfl rfl (by
              intro a W hA hB hd
              have hB := Lib.hid hB
              have p0 : a.eval (.tmp 0) = .slice (some ⟨b, off, none⟩) la ca := hA.at 0 (by kernel_rfl)
              have p9 : a.eval (.tmp 9) = .int .i64 (k : Int) := hA.at 9 (by kernel_rfl)
              exact step_pure (wanted_none rfl) (.int .i64 (k : Int)) (by simp [execOp, go_sem, tm p9]) rfl),
            step3_other rfl rfl (by
              intro a W hA hB hd
              obtain ⟨q0, q1, -⟩ := hd
              have h39 : a.eval (.tmp 39) = .int .i64 (l1 : Int) := q0
              have h40 : a.eval (.tmp 40) = .int .i64 (k : Int) := q1
              have hB := Lib.hid hB
              have p0 : a.eval (.tmp 0) = .slice (some ⟨b, off, none⟩) la ca := hA.at 0 (by kernel_rfl)
              have p9 : a.eval (.tmp 9) = .int .i64 (k : Int) := hA.at 9 (by kernel_rfl)
              exact step_pure (wanted_none rfl) (.int .i64 (j : Int)) (by simp [execOp, go_sem, tm h39, tm h40, HW2.out]) rfl),
            step3_other rfl rfl (by
              intro a W hA hB hd
              obtain ⟨q0, q1, -⟩ := hd
              have h36 : a.eval (.tmp 36) = .slice (some ⟨b, off, none⟩) la ca := q0
              have h41 : a.eval (.tmp 41) = .int .i64 (j : Int) := q1
              have hB := Lib.hid hB
              have p0 : a.eval (.tmp 0) = .slice (some ⟨b, off, none⟩) la ca := hA.at 0 (by kernel_rfl)
              have p9 : a.eval (.tmp 9) = .int .i64 (k : Int) := hA.at 9 (by kernel_rfl)
              exact step_pure (wanted_none rfl) (.pointer (some ⟨b, off + j * 3, none⟩)) (by simp [execOp, go_sem, tm h36, tm h41, hjL]) rfl),
            step3_other rfl rfl (by
              intro a W hA hB hd
              obtain ⟨q0, -⟩ := hd
              have h42 : a.eval (.tmp 42) = .pointer (some ⟨b, off + j * 3, none⟩) := q0
              have hB := Lib.hid hB
              have p0 : a.eval (.tmp 0) = .slice (some ⟨b, off, none⟩) la ca := hA.at 0 (by kernel_rfl)
              have p9 : a.eval (.tmp 9) = .int .i64 (k : Int) := hA.at 9 (by kernel_rfl)
              have e0 := (hB.out.cell (p := ⟨b, off + j * 3, none⟩) hblR).trans E0.out
              have e1 := (hB.out.cell (p := ⟨b, off + j * 3 + 1, none⟩) hblR).trans E1.out
              have e2 := (hB.out.cell (p := ⟨b, off + j * 3 + 2, none⟩) hblR).trans E2.out
              exact step_pure (wanted_none rfl) (.agg #[.int .i64 rk, .int .i64 ri, .string (bsOf rs)]) (by simp [execOp, go_sem, tm h42, e0, e1, e2]) rfl),
            step3_al (⟨12, 14, 10, 45, #[.int .i64 0, .int .i64 0, .string ⟨#[]⟩], #[.int .i64 pk, .int .i64 pi, .string (bsOf ps)]⟩) rfl rfl (fun a W => by simp [execOp, go_sem]),
            step3_al (⟨13, 15, 11, 45, #[.int .i64 0, .int .i64 0, .string ⟨#[]⟩], #[.int .i64 rk, .int .i64 ri, .string (bsOf rs)]⟩) rfl rfl (fun a W => by simp [execOp, go_sem]),
            step3_st (⟨12, 14, 10, 45, #[.int .i64 0, .int .i64 0, .string ⟨#[]⟩], #[.int .i64 pk, .int .i64 pi, .string (bsOf ps)]⟩) rfl rfl rfl (by kernel_rfl) (by
              intro a W B hA hB hd hp hk
              obtain ⟨-, q1, -⟩ := hd
              have hp : a.eval (.tmp 10) = .pointer (some ⟨B, 0, none⟩) := hp
              have h35 : a.eval (.tmp 35) = .agg #[.int .i64 pk, .int .i64 pi, .string (bsOf ps)] := q1
              exact store_three rfl rfl hp h35 hk),
            step3_st (⟨13, 15, 11, 45, #[.int .i64 0, .int .i64 0, .string ⟨#[]⟩], #[.int .i64 rk, .int .i64 ri, .string (bsOf rs)]⟩) rfl rfl rfl (by kernel_rfl) (by
              intro a W B hA hB hd hp hk
              obtain ⟨-, q1, -⟩ := hd
              have hp : a.eval (.tmp 11) = .pointer (some ⟨B, 0, none⟩) := hp
              have h43 : a.eval (.tmp 43) = .agg #[.int .i64 rk, .int .i64 ri, .string (bsOf rs)] := q1
              exact store_three rfl rfl hp h43 hk), trivial⟩
        · intro ax V hA hB hE
          obtain ⟨hl, -⟩ := hE
          obtain ⟨B10, e10, g10, s10, k10⟩ := hl (⟨12, 14, 10, 45, #[.int .i64 0, .int .i64 0, .string ⟨#[]⟩], #[.int .i64 pk, .int .i64 pi, .string (bsOf ps)]⟩) (by simp)
          replace e10 : ax.eval (.tmp 10) = .pointer (some ⟨B10, 0, none⟩) := e10
          replace k10 : Trio V B10 45 (.int .i64 pk) (.int .i64 pi) (.string (bsOf ps)) := k10
          obtain ⟨B11, e11, g11, s11, k11⟩ := hl (⟨13, 15, 11, 45, #[.int .i64 0, .int .i64 0, .string ⟨#[]⟩], #[.int .i64 rk, .int .i64 ri, .string (bsOf rs)]⟩) (by simp)
          replace e11 : ax.eval (.tmp 11) = .pointer (some ⟨B11, 0, none⟩) := e11
          replace k11 : Trio V B11 45 (.int .i64 rk) (.int .i64 ri) (.string (bsOf rs)) := k11
          have hp := hA.puts [32, 33, 34, 35, 36, 37, 38, 39, 40, 41, 42, 43, 10, 11] (by kernel_rfl)
          clear hA hl
          simp only [putAll, e10, e11] at hp
          clear e10 e11
          generalize ax.eval = ev10 at hp
          subst hp
          have HB10 := Lib.hid (HI.out.2.1.trans (hB.mono HI.out.2.1.size))
          have HT10 := Lib.hid (HI.out.2.2.below hB HI.out.2.2.lt)
          have HW10 := Lib.hid (row_below HI.out.1 hB)
          have HV10 := Lib.hid (HV.out.below HB10.out)
          have HK10 : Hid (Trio V B10 45 (.int .i64 pk) (.int .i64 pi) (.string (bsOf ps))) := k10
          have HK11 : Hid (Trio V B11 45 (.int .i64 rk) (.int .i64 ri) (.string (bsOf rs))) := k11
          have HNB := Lib.hid (row_old HI.out.1 g10)
          clear hB HI k10 k11 s10 s11 g10 g11 C0 C1 C2 E0 E1 E2 HW1 HW2 hblR
          simp [Act.put]
          go_upto_region 11 with fail
          refine through [44, 45, 46, 47, 48, 49, 50, 51, 52, 53, 54, 55, 56, 57, 58, 59, 60, 61, 62, 63, 64, 65, 66, 67, 68, 69, 70, 71, 72, 73, 74, 75, 76, 77, 78, 79, 80] 80 (.bool false) ?_ ?_
          · have G8 : Hid (∀ d os, Calls Tryz.prog 30 #[.agg #[.int .i64 pk, .int .i64 pi, .string (bsOf ps)]] (grow (redrawn V d) os) fun e w' => e = .returned (.bool (vldV ⟨pk, pi, ps⟩)) ∧ Below (grow (redrawn V d) os).heap.size (grow (redrawn V d) os) w') := fun d os => valid_any ⟨pk, pi, ps⟩ HOP.out _
            have G9 : Hid (∀ d os, Calls Tryz.prog 31 #[.agg #[.int .i64 pk, .int .i64 pi, .string (bsOf ps)]] (grow (redrawn V d) os) fun e w' => e = .returned (.bool (vldV ⟨pk, pi, ps⟩)) ∧ Below (grow (redrawn V d) os).heap.size (grow (redrawn V d) os) w') := fun d os => rvalid_any ⟨pk, pi, ps⟩ HOP.out _
            have G10 : Hid (∀ d os, Calls Tryz.prog 32 #[.agg #[.int .i64 pk, .int .i64 pi, .string (bsOf ps)]] (grow (redrawn V d) os) fun e w' => e = .returned (.bool (widV ⟨pk, pi, ps⟩)) ∧ Below (grow (redrawn V d) os).heap.size (grow (redrawn V d) os) w') := fun d os => wide_any ⟨pk, pi, ps⟩ HOP.out _
            have G11 : Hid (∀ d os, Calls Tryz.prog 33 #[.agg #[.int .i64 pk, .int .i64 pi, .string (bsOf ps)]] (grow (redrawn V d) os) fun e w' => e = .returned (.bool (widV ⟨pk, pi, ps⟩)) ∧ Below (grow (redrawn V d) os).heap.size (grow (redrawn V d) os) w') := fun d os => rwide_any ⟨pk, pi, ps⟩ HOP.out _
            have G12 : Hid (∀ d os, Calls Tryz.prog 34 #[.agg #[.int .i64 tk, .int .i64 sc, .bool nl], .agg #[.int .i64 pk, .int .i64 pi, .string (bsOf ps)]] (grow (redrawn V d) os) fun e w' => e = .returned (.bool (hasV ⟨tk, sc, nl⟩ ⟨pk, pi, ps⟩)) ∧ Below (grow (redrawn V d) os).heap.size (grow (redrawn V d) os) w') := fun d os => has_any ⟨tk, sc, nl⟩ ⟨pk, pi, ps⟩ HTO.out HOP.out _ (HV10.out.below (below_regrown _ d os))
            have G13 : Hid (∀ d os, Calls Tryz.prog 35 #[.agg #[.int .i64 tk, .int .i64 sc, .bool nl], .agg #[.int .i64 pk, .int .i64 pi, .string (bsOf ps)]] (grow (redrawn V d) os) fun e w' => e = .returned (.bool (hasV ⟨tk, sc, nl⟩ ⟨pk, pi, ps⟩)) ∧ Below (grow (redrawn V d) os).heap.size (grow (redrawn V d) os) w') := fun d os => rhas_any ⟨tk, sc, nl⟩ ⟨pk, pi, ps⟩ HTO.out HOP.out _ (HV10.out.below (below_regrown _ d os))
            have G14 : Hid (∀ d os, Calls Tryz.prog 36 #[.agg #[.int .i64 pk, .int .i64 pi, .string (bsOf ps)], .agg #[.int .i64 rk, .int .i64 ri, .string (bsOf rs)]] (grow (redrawn V d) os) fun e w' => e = .returned (.int .i64 (cmpV ⟨pk, pi, ps⟩ ⟨rk, ri, rs⟩)) ∧ Below (grow (redrawn V d) os).heap.size (grow (redrawn V d) os) w') := fun d os => cmp_any ⟨pk, pi, ps⟩ ⟨rk, ri, rs⟩ _
            have G15 : Hid (∀ d os, Calls Tryz.prog 37 #[.agg #[.int .i64 pk, .int .i64 pi, .string (bsOf ps)], .agg #[.int .i64 rk, .int .i64 ri, .string (bsOf rs)]] (grow (redrawn V d) os) fun e w' => e = .returned (.int .i64 (cmpV ⟨pk, pi, ps⟩ ⟨rk, ri, rs⟩)) ∧ Below (grow (redrawn V d) os).heap.size (grow (redrawn V d) os) w') := fun d os => rcmp_any ⟨pk, pi, ps⟩ ⟨rk, ri, rs⟩ HOP.out.s HOR.out.s _
            have G16 : Hid (∀ d os, Calls Tryz.prog 38 #[.agg #[.int .i64 pk, .int .i64 pi, .string (bsOf ps)]] (grow (redrawn V d) os) fun e w' => e = .returned (.string (bsOf (textV ⟨pk, pi, ps⟩))) ∧ Below (grow (redrawn V d) os).heap.size (grow (redrawn V d) os) w') := fun d os => text_any ⟨pk, pi, ps⟩ HOP.out _ (HV10.out.below (below_regrown _ d os))
            have G17 : Hid (∀ d os, Calls Tryz.prog 39 #[.agg #[.int .i64 pk, .int .i64 pi, .string (bsOf ps)]] (grow (redrawn V d) os) fun e w' => e = .returned (.string (bsOf (textV ⟨pk, pi, ps⟩))) ∧ Below (grow (redrawn V d) os).heap.size (grow (redrawn V d) os) w') := fun d os => rtextv_any ⟨pk, pi, ps⟩ HOP.out HSP.out _
            generalize vldV ⟨pk, pi, ps⟩ = b1 at *
            generalize widV ⟨pk, pi, ps⟩ = b2 at *
            generalize hasV ⟨tk, sc, nl⟩ ⟨pk, pi, ps⟩ = b3 at *
            generalize cmpV ⟨pk, pi, ps⟩ ⟨rk, ri, rs⟩ = n4 at *
            generalize textV ⟨pk, pi, ps⟩ = l5 at *
            have K0 := fun d os => cell_regrown HK10.out.c0 d os
            have K1 := fun d os => cell_regrown HK10.out.c1 d os
            have K2 := fun d os => cell_regrown HK10.out.c2 d os
            have M0 := fun d os => cell_regrown HK11.out.c0 d os
            have M1 := fun d os => cell_regrown HK11.out.c1 d os
            have M2 := fun d os => cell_regrown HK11.out.c2 d os
            have T0 := fun d os => cell_regrown HT10.out.c0 d os
            have T1 := fun d os => cell_regrown HT10.out.c1 d os
            have T2 := fun d os => cell_regrown HT10.out.c2 d os
            refine wp_region_quiet_below (by kernel_rfl) (by kernel_rfl) ?_
            repeat (go_big_quiet_step (first
              | (go_at_call 30; with_reducible exact Calls.regrown_of (G8.out _ _))
              | (go_at_call 31; with_reducible exact Calls.regrown_of (G9.out _ _))
              | (go_at_call 32; with_reducible exact Calls.regrown_of (G10.out _ _))
              | (go_at_call 33; with_reducible exact Calls.regrown_of (G11.out _ _))
              | (go_at_call 34; with_reducible exact Calls.regrown_of (G12.out _ _))
              | (go_at_call 35; with_reducible exact Calls.regrown_of (G13.out _ _))
              | (go_at_call 36; with_reducible exact Calls.regrown_of (G14.out _ _))
              | (go_at_call 37; with_reducible exact Calls.regrown_of (G15.out _ _))
              | (go_at_call 38; with_reducible exact Calls.regrown_of (G16.out _ _))
              | (go_at_call 39; with_reducible exact Calls.regrown_of (G17.out _ _))))
            refine wpQuiet_nil ?_
            intro _ hw'
            obtain ⟨⟨dq, osq⟩, hw''⟩ := hw'
            subst hw''
            exact shown (below_regrown _ _ _) rfl (by kernel_rfl)
          · intro ev11 V11 hev11 hB11
            simp only [putAll, hev11]
            clear hev11
            have HB12 := Lib.hid (HB10.out.trans (hB11.mono HB10.out.size))
            have HT12 := Lib.hid (HT10.out.below hB11 HT10.out.lt)
            have HW12 := Lib.hid (row_below HW10.out hB11)
            have HK12 := Lib.hid (HK10.out.below hB11 HK10.out.lt)
            have HV12 := Lib.hid (HV.out.below HB12.out)
            have HLN := Lib.hid (wides_len (x.take k))
            have hlk : (x.take k).length ≤ 60 := by rw [List.length_take]; omega
            have HWD : Hid (∀ W, Calls Tryz.prog 33 #[.agg #[.int .i64 pk, .int .i64 pi, .string (bsOf ps)]] W fun e w' => e = .returned (.bool (widV ⟨pk, pi, ps⟩)) ∧ Below W.heap.size W w') := fun W => rwide_any ⟨pk, pi, ps⟩ HOP.out W
            have c0 := HK12.out.c0
            have c1 := HK12.out.c1
            have c2 := HK12.out.c2
            clear hB11 HB10 HT10 HW10 HK10 HK11 HV10 HOR
            simp [Act.put]
            go_wp2_with fail
            refine (HWD.out _).mono ?_
            rintro e w2 ⟨rfl, hb2⟩
            have HB2 : Hid (Below w.heap.size w w2) := HB12.out.trans (hb2.mono HB12.out.size)
            have HO2 : Hid (w2.ownsRow w.heap.size 45 3 u8 (wides (x.take k)).length (cellsV (wides (x.take k)))) := row_below HW12.out hb2
            have HT2 := Lib.hid (HT12.out.below hb2 HT12.out.lt)
            have HK2 := Lib.hid (HK12.out.below hb2 HK12.out.lt)
            clear hb2 HB12 HW12 HT12 HK12 HV12 HWD c0 c1 c2
            cases hwp : widV ⟨pk, pi, ps⟩ with
            | false =>
              have HS2 : Hid (wides (x.take (k + 1)) = wides (x.take k)) := by show _ = _; rw [HST.out, hwp]; rfl
              clear hwp
              go_wp2_with fail
              go_roundw
              case rel =>
                exact ⟨k + 1, by omega, by go_num, by rw [HS2.out]; exact HO2.out, HB2.out, HT2.out⟩
              case measure => simp [intOf]; omega
            | true =>
              have HS2 : Hid (wides (x.take (k + 1)) = wides (x.take k) ++ [⟨pk, pi, ps⟩]) := by show _ = _; rw [HST.out, hwp]; rfl
              have HWP := Lib.hid hwp
              clear hwp
              obtain ⟨v3, w3, hr3, hO3, hb3, hk3⟩ := append_val2 (P := Tryz.prog) w2 w.heap.size 39 39 45 45 iV _ Tryz.underlying39 hi hz0 hz1 hz2 rfl u8 (wides (x.take k)).length (wides (x.take k)) HO2.out ⟨pk, pi, ps⟩ (by have := HLN.out; omega) HB2.out.size
              have HR3 := Lib.hid hr3
              have HO3 : Hid (w3.ownsRow w.heap.size 45 3 v3 (wides (x.take (k + 1))).length (cellsV (wides (x.take (k + 1))))) := by
                rw [HS2.out, List.length_append]; exact hO3
              have HB3 : Hid (Below w.heap.size w w3) := HB2.out.trans hb3
              have HT3 : Hid (Trio w3 w.heap.size 41 (.int .i64 tk) (.int .i64 sc) (.bool nl)) := (hk3 _ HT2.out.lt (HT2.out.not_row3 (by decide) HO2.out)).trans HT2.out
              have HK3 : Hid (Trio w3 B10 45 (.int .i64 pk) (.int .i64 pi) (.string (bsOf ps))) := (hk3 _ HK2.out.lt HNB.out).trans HK2.out
              have c0 := HK2.out.c0
              have c1 := HK2.out.c1
              have c2 := HK2.out.c2
              clear hr3 hO3 hb3 hk3 HO2
              go_upto_region 15 with (at_builtin; refine wpList_append_want (o := ⟨some 86, _, _, _, _, _⟩) _ rfl _ _ _ _ rfl _ _ rfl rfl _ _ HR3.out ?_)
              clear c0 c1 c2 HR3 HB2 HT2 HK2
              have HRB3 : Hid (Rd (fun b => b < w.heap.size) w3 .u8 ab nb cb bs) := HRB.out.below HB3.out
              have HV3 := Lib.hid (HV.out.below HB3.out)
              have HLB : Hid ((bs ++ bytesV ⟨pk, pi, ps⟩).length ≤ 100000000) := by
                have h1 := bytes_len HWP.out HOP.out.i
                have h2 := HRB.out.hl
                show _ ≤ _
                rw [List.length_append]; omega
              have HAP : Hid (∀ W : World, w3.heap.size ≤ W.heap.size → Rd (fun b => b < w.heap.size) W .u8 ab nb cb bs → Calls Tryz.prog 41 #[.slice ab nb cb, .agg #[.int .i64 pk, .int .i64 pi, .string (bsOf ps)]] W fun e w' => ∃ v, e = .returned v ∧ RowF w3.heap.size (bs ++ bytesV ⟨pk, pi, ps⟩) v w' ∧ Below W.heap.size W w') := fun W hb hr => makes_row hb (append_any ⟨pk, pi, ps⟩ HOP.out HWP.out hr (by omega))
              have HRP : Hid (∀ W : World, w3.heap.size ≤ W.heap.size → Rd (fun b => b < w.heap.size) W .u8 ab nb cb bs → Calls Tryz.prog 42 #[.slice ab nb cb, .agg #[.int .i64 pk, .int .i64 pi, .string (bsOf ps)]] W fun e w' => ∃ v, e = .returned v ∧ RowF w3.heap.size (bs ++ bytesV ⟨pk, pi, ps⟩) v w' ∧ Below W.heap.size W w') := fun W hb hr => makes_row hb (rappend_any ⟨pk, pi, ps⟩ HOP.out HWP.out hr (by omega))
              have HTX : Hid (∀ W, Calls Tryz.prog 39 #[.agg #[.int .i64 pk, .int .i64 pi, .string (bsOf ps)]] W fun e w' => e = .returned (.string (bsOf (textV ⟨pk, pi, ps⟩))) ∧ Below W.heap.size W w') := fun W => rtextv_any ⟨pk, pi, ps⟩ HOP.out HSP.out W
              have HTL : Hid ((textV ⟨pk, pi, ps⟩).length ≤ 1000) := textV_len2 HOP.out.i HS100.out
              have HPW : Hid (∀ W, De.Vars W → Calls Tryz.prog 44 #[.string (bsOf (textV ⟨pk, pi, ps⟩))] W fun e w' => e = .returned (encG (parsedV (textV ⟨pk, pi, ps⟩)).1 (.slice none 0 0) (.slice none 0 0) (parsedV (textV ⟨pk, pi, ps⟩)).2) ∧ Below W.heap.size W w') := fun W hv => parsedW_any _ (by have := HTL.out; omega) W hv
              have HPR : Hid (∀ W, Calls Tryz.prog 45 #[.string (bsOf (textV ⟨pk, pi, ps⟩))] W fun e w' => e = .returned (encG (parsedV (textV ⟨pk, pi, ps⟩)).1 (.slice none 0 0) (.slice none 0 0) (parsedV (textV ⟨pk, pi, ps⟩)).2) ∧ Below W.heap.size W w') := fun W => rparsev_any _ (by have := HTL.out; omega) W
              clear HTL
              generalize bs ++ bytesV ⟨pk, pi, ps⟩ = bb at *
              generalize parsedV (textV ⟨pk, pi, ps⟩) = pv at *
              generalize textV ⟨pk, pi, ps⟩ = tx at *
              refine wp_region_writes (base := w3.heap.size) (us := [none, none, none, none, none, none, none, none, none, none, none, none, none, none, none, none, none, none]) (ws := []) (bs := [true, true, false, true, true, false, true, true, true, true, true, true, true, true, true, true, true, true]) (fs := [Fact.is (.slice ab nb cb), Fact.is (.agg #[.int .i64 pk, .int .i64 pi, .string (bsOf ps)]), RowF w3.heap.size bb, Fact.is (.slice ab nb cb), Fact.is (.agg #[.int .i64 pk, .int .i64 pi, .string (bsOf ps)]), RowF w3.heap.size bb, Fact.is (.bool true), Fact.is (.bool false), Fact.is (.bool false), Fact.is (.agg #[.int .i64 pk, .int .i64 pi, .string (bsOf ps)]), Fact.is (.string (bsOf tx)), Fact.is (encG pv.1 (.slice none 0 0) (.slice none 0 0) pv.2), Fact.is (.agg #[.int .i64 pk, .int .i64 pi, .string (bsOf ps)]), Fact.is (.string (bsOf tx)), Fact.is (encG pv.1 (.slice none 0 0) (.slice none 0 0) pv.2), Fact.is (.bool true), Fact.is (.bool false), Fact.is (.bool false)]) 8 (by kernel_rfl) (by kernel_rfl) (by kernel_rfl) (by kernel_rfl) (Nat.le_refl _) ⟨Fact.is_stable _, Fact.is_stable _, rowF_stable _ _, Fact.is_stable _, Fact.is_stable _, rowF_stable _ _, Fact.is_stable _, Fact.is_stable _, Fact.is_stable _, Fact.is_stable _, Fact.is_stable _, Fact.is_stable _, Fact.is_stable _, Fact.is_stable _, Fact.is_stable _, Fact.is_stable _, Fact.is_stable _, Fact.is_stable _, trivial⟩ ⟨(fun _ => Fact.is_firm _ _), (fun _ => Fact.is_firm _ _), (fun h => by cases h), (fun _ => Fact.is_firm _ _), (fun _ => Fact.is_firm _ _), (fun h => by cases h), (fun _ => Fact.is_firm _ _), (fun _ => Fact.is_firm _ _), (fun _ => Fact.is_firm _ _), (fun _ => Fact.is_firm _ _), (fun _ => Fact.is_firm _ _), (fun _ => Fact.is_firm _ _), (fun _ => Fact.is_firm _ _), (fun _ => Fact.is_firm _ _), (fun _ => Fact.is_firm _ _), (fun _ => Fact.is_firm _ _), (fun _ => Fact.is_firm _ _), (fun _ => Fact.is_firm _ _), trivial⟩ ?_ ?_
              · exact ⟨by
                    intro a W hA hB hd
                    have hB := Lib.hid hB
                    have p2 : a.eval (.tmp 2) = .slice ab nb cb := hA.at 2 (by kernel_rfl)
                    have p10 : a.eval (.tmp 10) = .pointer (some ⟨B10, 0, none⟩) := hA.at 10 (by kernel_rfl)
                    exact step2_of (step_pure (wanted_none rfl) (.slice ab nb cb) (by simp [execOp, go_sem, tm p2]) rfl),
                  by
                    intro a W hA hB hd
                    have hB := Lib.hid hB
                    have p2 : a.eval (.tmp 2) = .slice ab nb cb := hA.at 2 (by kernel_rfl)
                    have p10 : a.eval (.tmp 10) = .pointer (some ⟨B10, 0, none⟩) := hA.at 10 (by kernel_rfl)
                    have t3 := HK3.out.below hB.out HK3.out.lt
                    exact step2_of (step_pure (wanted_none rfl) (.agg #[.int .i64 pk, .int .i64 pi, .string (bsOf ps)]) (by simp [execOp, go_sem, tm p10, t3.c0, t3.c1, t3.c2]) rfl),
                  by
                    intro a W hA hB hd
                    obtain ⟨q0, q1, -⟩ := hd
                    have h87 : a.eval (.tmp 87) = .slice ab nb cb := q0
                    have h88 : a.eval (.tmp 88) = .agg #[.int .i64 pk, .int .i64 pi, .string (bsOf ps)] := q1
                    have hB := Lib.hid hB
                    have p2 : a.eval (.tmp 2) = .slice ab nb cb := hA.at 2 (by kernel_rfl)
                    have p10 : a.eval (.tmp 10) = .pointer (some ⟨B10, 0, none⟩) := hA.at 10 (by kernel_rfl)
                    exact step2_of (step_calls (wanted_none rfl) rfl (vals := #[.slice ab nb cb, .agg #[.int .i64 pk, .int .i64 pi, .string (bsOf ps)]]) (by simp [h87, h88]) (enters_of Tryz.func41 (by kernel_rfl) rfl) (HAP.out W hB.out.size (HRB3.out.below hB.out))),
                  by
                    intro a W hA hB hd
                    have hB := Lib.hid hB
                    have p2 : a.eval (.tmp 2) = .slice ab nb cb := hA.at 2 (by kernel_rfl)
                    have p10 : a.eval (.tmp 10) = .pointer (some ⟨B10, 0, none⟩) := hA.at 10 (by kernel_rfl)
                    exact step2_of (step_pure (wanted_none rfl) (.slice ab nb cb) (by simp [execOp, go_sem, tm p2]) rfl),
                  by
                    intro a W hA hB hd
                    have hB := Lib.hid hB
                    have p2 : a.eval (.tmp 2) = .slice ab nb cb := hA.at 2 (by kernel_rfl)
                    have p10 : a.eval (.tmp 10) = .pointer (some ⟨B10, 0, none⟩) := hA.at 10 (by kernel_rfl)
                    have t3 := HK3.out.below hB.out HK3.out.lt
                    exact step2_of (step_pure (wanted_none rfl) (.agg #[.int .i64 pk, .int .i64 pi, .string (bsOf ps)]) (by simp [execOp, go_sem, tm p10, t3.c0, t3.c1, t3.c2]) rfl),
                  by
                    intro a W hA hB hd
                    obtain ⟨q0, q1, q2, -⟩ := hd
                    have h90 : a.eval (.tmp 90) = .slice ab nb cb := q0
                    have h91 : a.eval (.tmp 91) = .agg #[.int .i64 pk, .int .i64 pi, .string (bsOf ps)] := q1
                    have h89 : (RowF w3.heap.size bb) (a.eval (.tmp 89)) W := q2
                    have hB := Lib.hid hB
                    have p2 : a.eval (.tmp 2) = .slice ab nb cb := hA.at 2 (by kernel_rfl)
                    have p10 : a.eval (.tmp 10) = .pointer (some ⟨B10, 0, none⟩) := hA.at 10 (by kernel_rfl)
                    exact step2_of (step_calls (wanted_none rfl) rfl (vals := #[.slice ab nb cb, .agg #[.int .i64 pk, .int .i64 pi, .string (bsOf ps)]]) (by simp [h90, h91]) (enters_of Tryz.func42 (by kernel_rfl) rfl) (HRP.out W hB.out.size (HRB3.out.below hB.out))),
                  by
                    intro a W hA hB hd
                    obtain ⟨q0, q1, q2, -⟩ := hd
                    have h89 : (RowF w3.heap.size bb) (a.eval (.tmp 89)) W := q0
                    have h92 : (RowF w3.heap.size bb) (a.eval (.tmp 92)) W := q1
                    have hB := Lib.hid hB
                    have p2 : a.eval (.tmp 2) = .slice ab nb cb := hA.at 2 (by kernel_rfl)
                    have p10 : a.eval (.tmp 10) = .pointer (some ⟨B10, 0, none⟩) := hA.at 10 (by kernel_rfl)
                    obtain ⟨g1, d1, e89, r89⟩ := rowF_rd h89 HLB.out
                    obtain ⟨g2, d2, e92, r92⟩ := rowF_rd h92 HLB.out
                    exact step2_of (step_calls (wanted_none rfl) rfl (vals := #[.slice (some ⟨g1, 0, none⟩) bb.length d1, .slice (some ⟨g2, 0, none⟩) bb.length d2]) (by simp [e89, e92]) (enters_of Tryz.func40 (by kernel_rfl) rfl) ((same_any r89 r92).mono fun e w' ⟨he, hb⟩ => ⟨_, he, by rw [sameB_true rfl]; rfl, hb⟩)),
                  by
                    intro a W hA hB hd
                    obtain ⟨q0, -⟩ := hd
                    have h93 : a.eval (.tmp 93) = .bool true := q0
                    have hB := Lib.hid hB
                    have p2 : a.eval (.tmp 2) = .slice ab nb cb := hA.at 2 (by kernel_rfl)
                    have p10 : a.eval (.tmp 10) = .pointer (some ⟨B10, 0, none⟩) := hA.at 10 (by kernel_rfl)
                    exact step2_of (step_pure (wanted_none rfl) (.bool false) (by simp [execOp, go_sem, tm h93]) rfl),
                  by
                    intro a W hA hB hd
                    obtain ⟨q0, q1, -⟩ := hd
                    have h94 : a.eval (.tmp 94) = .bool false := q0
                    have h93 : a.eval (.tmp 93) = .bool true := q1
                    have hB := Lib.hid hB
                    have p2 : a.eval (.tmp 2) = .slice ab nb cb := hA.at 2 (by kernel_rfl)
                    have p10 : a.eval (.tmp 10) = .pointer (some ⟨B10, 0, none⟩) := hA.at 10 (by kernel_rfl)
                    exact step2_of (step_pure (wanted_none rfl) (.bool false) (by simp [execOp, go_sem, tm h94]) rfl),
                  by
                    intro a W hA hB hd
                    obtain ⟨q0, -⟩ := hd
                    have h95 : a.eval (.tmp 95) = .bool false := q0
                    have hB := Lib.hid hB
                    have p2 : a.eval (.tmp 2) = .slice ab nb cb := hA.at 2 (by kernel_rfl)
                    have p10 : a.eval (.tmp 10) = .pointer (some ⟨B10, 0, none⟩) := hA.at 10 (by kernel_rfl)
                    have t3 := HK3.out.below hB.out HK3.out.lt
                    exact step2_of (step_pure ((wanted_guard rfl 95 rfl h95).trans rfl) (.agg #[.int .i64 pk, .int .i64 pi, .string (bsOf ps)]) (by simp [execOp, go_sem, tm p10, t3.c0, t3.c1, t3.c2]) rfl),
                  by
                    intro a W hA hB hd
                    obtain ⟨q0, q1, q2, -⟩ := hd
                    have h96 : a.eval (.tmp 96) = .agg #[.int .i64 pk, .int .i64 pi, .string (bsOf ps)] := q0
                    have h95 : a.eval (.tmp 95) = .bool false := q1
                    have hB := Lib.hid hB
                    have p2 : a.eval (.tmp 2) = .slice ab nb cb := hA.at 2 (by kernel_rfl)
                    have p10 : a.eval (.tmp 10) = .pointer (some ⟨B10, 0, none⟩) := hA.at 10 (by kernel_rfl)
                    exact step2_of (step_calls ((wanted_guard rfl 95 rfl h95).trans rfl) rfl (vals := #[.agg #[.int .i64 pk, .int .i64 pi, .string (bsOf ps)]]) (by simp [h96]) (enters_of Tryz.func39 (by kernel_rfl) rfl) ((HTX.out W).mono fun e w' ⟨he, hb⟩ => ⟨_, he, rfl, hb⟩)),
                  by
                    intro a W hA hB hd
                    obtain ⟨q0, q1, q2, -⟩ := hd
                    have h97 : a.eval (.tmp 97) = .string (bsOf tx) := q0
                    have h95 : a.eval (.tmp 95) = .bool false := q2
                    have hB := Lib.hid hB
                    have p2 : a.eval (.tmp 2) = .slice ab nb cb := hA.at 2 (by kernel_rfl)
                    have p10 : a.eval (.tmp 10) = .pointer (some ⟨B10, 0, none⟩) := hA.at 10 (by kernel_rfl)
                    exact step2_of (step_calls ((wanted_guard rfl 95 rfl h95).trans rfl) rfl (vals := #[.string (bsOf tx)]) (by simp [h97]) (enters_of Tryz.func44 (by kernel_rfl) rfl) ((HPW.out W (HV3.out.below hB.out)).mono fun e w' ⟨he, hb⟩ => ⟨_, he, rfl, hb⟩)),
                  by
                    intro a W hA hB hd
                    obtain ⟨q0, -⟩ := hd
                    have h95 : a.eval (.tmp 95) = .bool false := q0
                    have hB := Lib.hid hB
                    have p2 : a.eval (.tmp 2) = .slice ab nb cb := hA.at 2 (by kernel_rfl)
                    have p10 : a.eval (.tmp 10) = .pointer (some ⟨B10, 0, none⟩) := hA.at 10 (by kernel_rfl)
                    have t3 := HK3.out.below hB.out HK3.out.lt
                    exact step2_of (step_pure ((wanted_guard rfl 95 rfl h95).trans rfl) (.agg #[.int .i64 pk, .int .i64 pi, .string (bsOf ps)]) (by simp [execOp, go_sem, tm p10, t3.c0, t3.c1, t3.c2]) rfl),
                  by
                    intro a W hA hB hd
                    obtain ⟨q0, q1, q2, -⟩ := hd
                    have h99 : a.eval (.tmp 99) = .agg #[.int .i64 pk, .int .i64 pi, .string (bsOf ps)] := q0
                    have h98 : a.eval (.tmp 98) = encG pv.1 (.slice none 0 0) (.slice none 0 0) pv.2 := q1
                    have h95 : a.eval (.tmp 95) = .bool false := q2
                    have hB := Lib.hid hB
                    have p2 : a.eval (.tmp 2) = .slice ab nb cb := hA.at 2 (by kernel_rfl)
                    have p10 : a.eval (.tmp 10) = .pointer (some ⟨B10, 0, none⟩) := hA.at 10 (by kernel_rfl)
                    exact step2_of (step_calls ((wanted_guard rfl 95 rfl h95).trans rfl) rfl (vals := #[.agg #[.int .i64 pk, .int .i64 pi, .string (bsOf ps)]]) (by simp [h99]) (enters_of Tryz.func39 (by kernel_rfl) rfl) ((HTX.out W).mono fun e w' ⟨he, hb⟩ => ⟨_, he, rfl, hb⟩)),
                  by
                    intro a W hA hB hd
                    obtain ⟨q0, q1, q2, -⟩ := hd
                    have h100 : a.eval (.tmp 100) = .string (bsOf tx) := q0
                    have h95 : a.eval (.tmp 95) = .bool false := q2
                    have hB := Lib.hid hB
                    have p2 : a.eval (.tmp 2) = .slice ab nb cb := hA.at 2 (by kernel_rfl)
                    have p10 : a.eval (.tmp 10) = .pointer (some ⟨B10, 0, none⟩) := hA.at 10 (by kernel_rfl)
                    exact step2_of (step_calls ((wanted_guard rfl 95 rfl h95).trans rfl) rfl (vals := #[.string (bsOf tx)]) (by simp [h100]) (enters_of Tryz.func45 (by kernel_rfl) rfl) ((HPR.out W).mono fun e w' ⟨he, hb⟩ => ⟨_, he, rfl, hb⟩)),
                  by
                    intro a W hA hB hd
                    obtain ⟨q0, q1, q2, q3, -⟩ := hd
                    have h98 : a.eval (.tmp 98) = encG pv.1 (.slice none 0 0) (.slice none 0 0) pv.2 := q0
                    have h101 : a.eval (.tmp 101) = encG pv.1 (.slice none 0 0) (.slice none 0 0) pv.2 := q1
                    have h95 : a.eval (.tmp 95) = .bool false := q3
                    have hB := Lib.hid hB
                    have p2 : a.eval (.tmp 2) = .slice ab nb cb := hA.at 2 (by kernel_rfl)
                    have p10 : a.eval (.tmp 10) = .pointer (some ⟨B10, 0, none⟩) := hA.at 10 (by kernel_rfl)
                    exact step2_of (step_calls ((wanted_guard rfl 95 rfl h95).trans rfl) rfl (vals := #[encG pv.1 (.slice none 0 0) (.slice none 0 0) pv.2, encG pv.1 (.slice none 0 0) (.slice none 0 0) pv.2]) (by simp [h98, h101]) (enters_of Tryz.func43 (by kernel_rfl) rfl) ((equalG_true (K1 := fun _ => True) (K2 := fun _ => True) (K3 := fun _ => True) (K4 := fun _ => True) pv.1 pv.2 (RdV.empty (a := none)) (Rd.empty (a := none)) (RdV.empty (a := none)) (Rd.empty (a := none)) (fun v hv => by cases hv)).mono fun e w' ⟨he, hb⟩ => ⟨_, he, rfl, hb⟩)),
                  by
                    intro a W hA hB hd
                    obtain ⟨q0, q1, -⟩ := hd
                    have h102 : a.eval (.tmp 102) = .bool true := q0
                    have h95 : a.eval (.tmp 95) = .bool false := q1
                    have hB := Lib.hid hB
                    have p2 : a.eval (.tmp 2) = .slice ab nb cb := hA.at 2 (by kernel_rfl)
                    have p10 : a.eval (.tmp 10) = .pointer (some ⟨B10, 0, none⟩) := hA.at 10 (by kernel_rfl)
                    exact step2_of (step_pure ((wanted_guard rfl 95 rfl h95).trans rfl) (.bool false) (by simp [execOp, go_sem, tm h102]) rfl),
                  by
                    intro a W hA hB hd
                    obtain ⟨q0, q1, -⟩ := hd
                    have h95 : a.eval (.tmp 95) = .bool false := q0
                    have h103 : a.eval (.tmp 103) = .bool false := q1
                    have hB := Lib.hid hB
                    have p2 : a.eval (.tmp 2) = .slice ab nb cb := hA.at 2 (by kernel_rfl)
                    have p10 : a.eval (.tmp 10) = .pointer (some ⟨B10, 0, none⟩) := hA.at 10 (by kernel_rfl)
                    exact step2_of (step_pure (wanted_none rfl) (.bool false) (by simp [execOp, go_sem, tm h95, tm h103]) rfl), trivial⟩
              · intro ax W hA hB hE
                have h104 : ax.eval (.tmp 104) = .bool false := hE.2.2.2.2.2.2.2.2.2.2.2.2.2.2.2.2.2.1
                have hp := hA.puts [87, 88, 89, 90, 91, 92, 93, 94, 95, 96, 97, 98, 99, 100, 101, 102, 103, 104] (by kernel_rfl)
                clear hA hE
                simp only [putAll, h104] at hp
                clear h104
                generalize ax.eval = ev at hp
                subst hp
                have HB15 := Lib.hid (HB3.out.trans (hB.mono HB3.out.size))
                have HO15 := Lib.hid (row_below HO3.out hB)
                have HT15 := Lib.hid (HT3.out.below hB HT3.out.lt)
                clear hB HB3 HO3 HT3 HRB3 HV3 HAP HRP HTX HPW HPR HLB
                simp [Act.put]
                go_wp2_with fail
                go_roundw
                case rel => exact ⟨k + 1, by omega, by go_num, HO15.out, HB15.out, HT15.out⟩
                case measure => simp [intOf]; omega
      · obtain rfl : la = k := by omega
        have hm : ¬ ((la : Int) < (la : Int)) := Int.lt_irrefl _
        have hWX : Wides (wides (x.take la)) := wides_wide fun v hv => HOK.out v (List.mem_of_mem_take hv)
        have hll := wides_len (x.take la)
        have hlk : (x.take la).length ≤ 60 := by rw [List.length_take]; omega
        have HSH : Hid (Short x) := fun v hv => (HOK.out v hv).s
        have hun : ∃ us, wides (x.take la) = us := ⟨_, rfl⟩
        obtain ⟨us, hus⟩ := hun
        rw [hus] at hWX hll HI
        clear hus
        obtain ⟨m8, hm8⟩ : ∃ m, us.length = m := ⟨_, rfl⟩
        have HU8 := Lib.hid hm8
        rw [hm8] at HI hll
        obtain ⟨wa, wc, rfl, hrv⟩ := RdV.of_row HI.out.1 (by omega)
        have HRW : Hid (RdV (fun b => w.heap.size ≤ b) wr wa m8 wc us) := hrv
        have HRBW : Hid (Rd (fun b => b < w.heap.size) wr .u8 ab nb cb bs) := HRB.out.below HI.out.2.1
        have HT17 := Lib.hid HI.out.2.2
        have HB17 := Lib.hid HI.out.2.1
        have HRL := Lib.hid (R0.out.below HI.out.2.1)
        have HWU := Lib.hid hWX
        clear HI hrv hm8 hWX R0
        go_upto_region 18 with fail
        obtain ⟨W17, hW17⟩ : ∃ W17, wr = W17 := ⟨_, rfl⟩
        subst hW17
        obtain ⟨h9, hh9⟩ : ∃ h : Nat, (la : Int) / 2 = (h : Int) := ⟨la / 2, by omega⟩
        have hhl : h9 ≤ la := by omega
        rw [hh9]
        clear hh9
        obtain ⟨pa, cq1, hc1, hr1⟩ := cutV_low (P := Tryz.prog) 39 (by kernel_rfl) (fun _ => by kernel_rfl) HRL.out h9 hhl
        obtain ⟨pb, cq2, hc2, hr2⟩ := cutV_high (P := Tryz.prog) 39 (by kernel_rfl) (fun _ => by kernel_rfl) HRL.out h9 hhl
        have HC1 := Lib.hid hc1
        have HC2 := Lib.hid hc2
        have HR1 := Lib.hid hr1
        have HR2 := Lib.hid hr2
        have HSH1 : Hid (Short (x.take h9)) := fun v hv => HSH.out v (List.mem_of_mem_take hv)
        have HSH2 : Hid (Short (x.drop h9)) := fun v hv => HSH.out v (List.mem_of_mem_drop hv)
        obtain ⟨n1, hn1⟩ : ∃ n, cmpL (x.take h9) (x.drop h9) = n := ⟨_, rfl⟩
        obtain ⟨n2, hn2⟩ : ∃ n, cmpL (x.take h9) x = n := ⟨_, rfl⟩
        have HN1 := Lib.hid hn1
        have HN2 := Lib.hid hn2
        have HVT : Hid (∀ W, Calls Tryz.prog 46 #[.agg #[.int .i64 tk, .int .i64 sc, .bool nl]] W fun e w' => e = .returned (.bool (vldT ⟨tk, sc, nl⟩)) ∧ Below W.heap.size W w') := fun W => validType_any ⟨tk, sc, nl⟩ W
        have HRT : Hid (∀ W, Calls Tryz.prog 47 #[.agg #[.int .i64 tk, .int .i64 sc, .bool nl]] W fun e w' => e = .returned (.bool (vldT ⟨tk, sc, nl⟩)) ∧ Below W.heap.size W w') := fun W => rvalidType_any ⟨tk, sc, nl⟩ W
        have HLB : Hid ((bs ++ listV us).length ≤ 100000000) := by
          have h1 := flat_len HWU.out
          have h2 := HRB.out.hl
          have h3 := var_len (u := us.length) (by rw [HU8.out]; omega)
          have h4 := HU8.out
          show _ ≤ _
          unfold listV
          rw [List.length_append, List.length_append]; omega
        have HAL : Hid (∀ W : World, wr.heap.size ≤ W.heap.size → Rd (fun b => b < w.heap.size) W .u8 ab nb cb bs → RdV (fun b => w.heap.size ≤ b) W wa m8 wc us → Calls Tryz.prog 50 #[.slice ab nb cb, .slice wa m8 wc] W fun e w' => ∃ v, e = .returned v ∧ RowF wr.heap.size (bs ++ listV us) v w' ∧ Below W.heap.size W w') := fun W hb hr hv => makes_row hb (appendList_any HWU.out hr hv (by omega) (by omega))
        have HAR : Hid (∀ W : World, wr.heap.size ≤ W.heap.size → Rd (fun b => b < w.heap.size) W .u8 ab nb cb bs → RdV (fun b => w.heap.size ≤ b) W wa m8 wc us → Calls Tryz.prog 51 #[.slice ab nb cb, .slice wa m8 wc] W fun e w' => ∃ v, e = .returned v ∧ RowF wr.heap.size (bs ++ listV us) v w' ∧ Below W.heap.size W w') := fun W hb hr hv => makes_row hb (rappendList_any HWU.out hr hv (by omega) (by omega))
        clear hc1 hc2 hr1 hr2 hn1 hn2 hll hlk
        generalize bs ++ listV us = bb at *
        generalize vldT ⟨tk, sc, nl⟩ = b1 at *
        refine wp_region_writes (base := wr.heap.size) (us := [none, none, none, none, none, none, none, none, none, none, none, none, none, none, none, none, none, none, none, none, none, none, none, none, none, none, none, none, none, none, none, none, none, none, none, none, none, none, none, none, none, none, none, none, none]) (ws := []) (bs := [true, true, true, true, true, true, true, true, true, true, true, true, true, true, true, true, true, true, true, true, true, true, true, true, true, true, true, true, true, true, true, true, true, true, true, true, true, true, false, true, true, false, true, true, true]) (fs := [Fact.is (.agg #[.int .i64 tk, .int .i64 sc, .bool nl]), Fact.is (.bool b1), Fact.is (.agg #[.int .i64 tk, .int .i64 sc, .bool nl]), Fact.is (.bool b1), Fact.is (.bool false), Fact.is (.bool false), Fact.is (.slice ad la ca), Fact.is (.int .i64 (h9 : Int)), Fact.is (.slice pa h9 cq1), Fact.is (.slice ad la ca), Fact.is (.int .i64 (h9 : Int)), Fact.is (.slice pb (la - h9) cq2), Fact.is (.int .i64 n1), Fact.is (.slice ad la ca), Fact.is (.int .i64 (h9 : Int)), Fact.is (.slice pa h9 cq1), Fact.is (.slice ad la ca), Fact.is (.int .i64 (h9 : Int)), Fact.is (.slice pb (la - h9) cq2), Fact.is (.int .i64 n1), Fact.is (.bool false), Fact.is (.bool false), Fact.is (.bool false), Fact.is (.slice ad la ca), Fact.is (.int .i64 (h9 : Int)), Fact.is (.slice pa h9 cq1), Fact.is (.slice ad la ca), Fact.is (.int .i64 n2), Fact.is (.slice ad la ca), Fact.is (.int .i64 (h9 : Int)), Fact.is (.slice pa h9 cq1), Fact.is (.slice ad la ca), Fact.is (.int .i64 n2), Fact.is (.bool false), Fact.is (.bool false), Fact.is (.bool false), Fact.is (.slice ab nb cb), Fact.is (.slice wa m8 wc), RowF wr.heap.size bb, Fact.is (.slice ab nb cb), Fact.is (.slice wa m8 wc), RowF wr.heap.size bb, Fact.is (.bool true), Fact.is (.bool false), Fact.is (.bool false)]) 12 (by kernel_rfl) (by kernel_rfl) (by kernel_rfl) (by kernel_rfl) (Nat.le_refl _) ⟨Fact.is_stable _, Fact.is_stable _, Fact.is_stable _, Fact.is_stable _, Fact.is_stable _, Fact.is_stable _, Fact.is_stable _, Fact.is_stable _, Fact.is_stable _, Fact.is_stable _, Fact.is_stable _, Fact.is_stable _, Fact.is_stable _, Fact.is_stable _, Fact.is_stable _, Fact.is_stable _, Fact.is_stable _, Fact.is_stable _, Fact.is_stable _, Fact.is_stable _, Fact.is_stable _, Fact.is_stable _, Fact.is_stable _, Fact.is_stable _, Fact.is_stable _, Fact.is_stable _, Fact.is_stable _, Fact.is_stable _, Fact.is_stable _, Fact.is_stable _, Fact.is_stable _, Fact.is_stable _, Fact.is_stable _, Fact.is_stable _, Fact.is_stable _, Fact.is_stable _, Fact.is_stable _, Fact.is_stable _, rowF_stable _ _, Fact.is_stable _, Fact.is_stable _, rowF_stable _ _, Fact.is_stable _, Fact.is_stable _, Fact.is_stable _, trivial⟩ ⟨(fun _ => Fact.is_firm _ _), (fun _ => Fact.is_firm _ _), (fun _ => Fact.is_firm _ _), (fun _ => Fact.is_firm _ _), (fun _ => Fact.is_firm _ _), (fun _ => Fact.is_firm _ _), (fun _ => Fact.is_firm _ _), (fun _ => Fact.is_firm _ _), (fun _ => Fact.is_firm _ _), (fun _ => Fact.is_firm _ _), (fun _ => Fact.is_firm _ _), (fun _ => Fact.is_firm _ _), (fun _ => Fact.is_firm _ _), (fun _ => Fact.is_firm _ _), (fun _ => Fact.is_firm _ _), (fun _ => Fact.is_firm _ _), (fun _ => Fact.is_firm _ _), (fun _ => Fact.is_firm _ _), (fun _ => Fact.is_firm _ _), (fun _ => Fact.is_firm _ _), (fun _ => Fact.is_firm _ _), (fun _ => Fact.is_firm _ _), (fun _ => Fact.is_firm _ _), (fun _ => Fact.is_firm _ _), (fun _ => Fact.is_firm _ _), (fun _ => Fact.is_firm _ _), (fun _ => Fact.is_firm _ _), (fun _ => Fact.is_firm _ _), (fun _ => Fact.is_firm _ _), (fun _ => Fact.is_firm _ _), (fun _ => Fact.is_firm _ _), (fun _ => Fact.is_firm _ _), (fun _ => Fact.is_firm _ _), (fun _ => Fact.is_firm _ _), (fun _ => Fact.is_firm _ _), (fun _ => Fact.is_firm _ _), (fun _ => Fact.is_firm _ _), (fun _ => Fact.is_firm _ _), (fun h => by cases h), (fun _ => Fact.is_firm _ _), (fun _ => Fact.is_firm _ _), (fun h => by cases h), (fun _ => Fact.is_firm _ _), (fun _ => Fact.is_firm _ _), (fun _ => Fact.is_firm _ _), trivial⟩ ?_ ?_
        · exact ⟨by
              intro a W hA hB hd
              have hB := Lib.hid hB
              have p0 : a.eval (.tmp 0) = .slice ad la ca := hA.at 0 (by kernel_rfl)
              have p2 : a.eval (.tmp 2) = .slice ab nb cb := hA.at 2 (by kernel_rfl)
              have p4 : a.eval (.tmp 4) = .pointer (some ⟨w.heap.size, 0, none⟩) := hA.at 4 (by kernel_rfl)
              have p8 : a.eval (.tmp 8) = .slice wa m8 wc := hA.at 8 (by kernel_rfl)
              have p12 : a.eval (.tmp 12) = .int .i64 (h9 : Int) := hA.at 12 (by kernel_rfl)
              have t3 := HT17.out.below hB.out HT17.out.lt
              exact step2_of (step_pure (wanted_none rfl) (.agg #[.int .i64 tk, .int .i64 sc, .bool nl]) (by simp [execOp, go_sem, tm p4, t3.c0, t3.c1, t3.c2]) rfl),
            by
              intro a W hA hB hd
              obtain ⟨q0, -⟩ := hd
              have h108 : a.eval (.tmp 108) = .agg #[.int .i64 tk, .int .i64 sc, .bool nl] := q0
              have hB := Lib.hid hB
              have p0 : a.eval (.tmp 0) = .slice ad la ca := hA.at 0 (by kernel_rfl)
              have p2 : a.eval (.tmp 2) = .slice ab nb cb := hA.at 2 (by kernel_rfl)
              have p4 : a.eval (.tmp 4) = .pointer (some ⟨w.heap.size, 0, none⟩) := hA.at 4 (by kernel_rfl)
              have p8 : a.eval (.tmp 8) = .slice wa m8 wc := hA.at 8 (by kernel_rfl)
              have p12 : a.eval (.tmp 12) = .int .i64 (h9 : Int) := hA.at 12 (by kernel_rfl)
              exact step2_of (step_calls (wanted_none rfl) rfl (vals := #[.agg #[.int .i64 tk, .int .i64 sc, .bool nl]]) (by simp [h108]) (enters_of Tryz.func46 (by kernel_rfl) rfl) ((HVT.out W).mono fun e w' ⟨he, hb⟩ => ⟨_, he, rfl, hb⟩)),
            by
              intro a W hA hB hd
              have hB := Lib.hid hB
              have p0 : a.eval (.tmp 0) = .slice ad la ca := hA.at 0 (by kernel_rfl)
              have p2 : a.eval (.tmp 2) = .slice ab nb cb := hA.at 2 (by kernel_rfl)
              have p4 : a.eval (.tmp 4) = .pointer (some ⟨w.heap.size, 0, none⟩) := hA.at 4 (by kernel_rfl)
              have p8 : a.eval (.tmp 8) = .slice wa m8 wc := hA.at 8 (by kernel_rfl)
              have p12 : a.eval (.tmp 12) = .int .i64 (h9 : Int) := hA.at 12 (by kernel_rfl)
              have t3 := HT17.out.below hB.out HT17.out.lt
              exact step2_of (step_pure (wanted_none rfl) (.agg #[.int .i64 tk, .int .i64 sc, .bool nl]) (by simp [execOp, go_sem, tm p4, t3.c0, t3.c1, t3.c2]) rfl),
            by
              intro a W hA hB hd
              obtain ⟨q0, q1, -⟩ := hd
              have h110 : a.eval (.tmp 110) = .agg #[.int .i64 tk, .int .i64 sc, .bool nl] := q0
              have h109 : a.eval (.tmp 109) = .bool b1 := q1
              have hB := Lib.hid hB
              have p0 : a.eval (.tmp 0) = .slice ad la ca := hA.at 0 (by kernel_rfl)
              have p2 : a.eval (.tmp 2) = .slice ab nb cb := hA.at 2 (by kernel_rfl)
              have p4 : a.eval (.tmp 4) = .pointer (some ⟨w.heap.size, 0, none⟩) := hA.at 4 (by kernel_rfl)
              have p8 : a.eval (.tmp 8) = .slice wa m8 wc := hA.at 8 (by kernel_rfl)
              have p12 : a.eval (.tmp 12) = .int .i64 (h9 : Int) := hA.at 12 (by kernel_rfl)
              exact step2_of (step_calls (wanted_none rfl) rfl (vals := #[.agg #[.int .i64 tk, .int .i64 sc, .bool nl]]) (by simp [h110]) (enters_of Tryz.func47 (by kernel_rfl) rfl) ((HRT.out W).mono fun e w' ⟨he, hb⟩ => ⟨_, he, rfl, hb⟩)),
            by
              intro a W hA hB hd
              obtain ⟨q0, q1, -⟩ := hd
              have h109 : a.eval (.tmp 109) = .bool b1 := q0
              have h111 : a.eval (.tmp 111) = .bool b1 := q1
              have hB := Lib.hid hB
              have p0 : a.eval (.tmp 0) = .slice ad la ca := hA.at 0 (by kernel_rfl)
              have p2 : a.eval (.tmp 2) = .slice ab nb cb := hA.at 2 (by kernel_rfl)
              have p4 : a.eval (.tmp 4) = .pointer (some ⟨w.heap.size, 0, none⟩) := hA.at 4 (by kernel_rfl)
              have p8 : a.eval (.tmp 8) = .slice wa m8 wc := hA.at 8 (by kernel_rfl)
              have p12 : a.eval (.tmp 12) = .int .i64 (h9 : Int) := hA.at 12 (by kernel_rfl)
              exact step2_of (step_pure (wanted_none rfl) (.bool false) (by simp [execOp, go_sem, tm h109, tm h111]) rfl),
            by
              intro a W hA hB hd
              obtain ⟨q0, q1, -⟩ := hd
              have h112 : a.eval (.tmp 112) = .bool false := q0
              have h111 : a.eval (.tmp 111) = .bool b1 := q1
              have hB := Lib.hid hB
              have p0 : a.eval (.tmp 0) = .slice ad la ca := hA.at 0 (by kernel_rfl)
              have p2 : a.eval (.tmp 2) = .slice ab nb cb := hA.at 2 (by kernel_rfl)
              have p4 : a.eval (.tmp 4) = .pointer (some ⟨w.heap.size, 0, none⟩) := hA.at 4 (by kernel_rfl)
              have p8 : a.eval (.tmp 8) = .slice wa m8 wc := hA.at 8 (by kernel_rfl)
              have p12 : a.eval (.tmp 12) = .int .i64 (h9 : Int) := hA.at 12 (by kernel_rfl)
              exact step2_of (step_pure (wanted_none rfl) (.bool false) (by simp [execOp, go_sem, tm h112]) rfl),
            by
              intro a W hA hB hd
              obtain ⟨q0, -⟩ := hd
              have h113 : a.eval (.tmp 113) = .bool false := q0
              have hB := Lib.hid hB
              have p0 : a.eval (.tmp 0) = .slice ad la ca := hA.at 0 (by kernel_rfl)
              have p2 : a.eval (.tmp 2) = .slice ab nb cb := hA.at 2 (by kernel_rfl)
              have p4 : a.eval (.tmp 4) = .pointer (some ⟨w.heap.size, 0, none⟩) := hA.at 4 (by kernel_rfl)
              have p8 : a.eval (.tmp 8) = .slice wa m8 wc := hA.at 8 (by kernel_rfl)
              have p12 : a.eval (.tmp 12) = .int .i64 (h9 : Int) := hA.at 12 (by kernel_rfl)
              exact step2_of (step_pure ((wanted_guard rfl 113 rfl h113).trans rfl) (.slice ad la ca) (by simp [execOp, go_sem, tm p0]) rfl),
            by
              intro a W hA hB hd
              obtain ⟨q0, -⟩ := hd
              have h113 : a.eval (.tmp 113) = .bool false := q0
              have hB := Lib.hid hB
              have p0 : a.eval (.tmp 0) = .slice ad la ca := hA.at 0 (by kernel_rfl)
              have p2 : a.eval (.tmp 2) = .slice ab nb cb := hA.at 2 (by kernel_rfl)
              have p4 : a.eval (.tmp 4) = .pointer (some ⟨w.heap.size, 0, none⟩) := hA.at 4 (by kernel_rfl)
              have p8 : a.eval (.tmp 8) = .slice wa m8 wc := hA.at 8 (by kernel_rfl)
              have p12 : a.eval (.tmp 12) = .int .i64 (h9 : Int) := hA.at 12 (by kernel_rfl)
              exact step2_of (step_pure ((wanted_guard rfl 113 rfl h113).trans rfl) (.int .i64 (h9 : Int)) (by simp [execOp, go_sem, tm p12]) rfl),
            by
              intro a W hA hB hd
              obtain ⟨q0, q1, q2, -⟩ := hd
              have h114 : a.eval (.tmp 114) = .slice ad la ca := q0
              have h115 : a.eval (.tmp 115) = .int .i64 (h9 : Int) := q1
              have h113 : a.eval (.tmp 113) = .bool false := q2
              have hB := Lib.hid hB
              have p0 : a.eval (.tmp 0) = .slice ad la ca := hA.at 0 (by kernel_rfl)
              have p2 : a.eval (.tmp 2) = .slice ab nb cb := hA.at 2 (by kernel_rfl)
              have p4 : a.eval (.tmp 4) = .pointer (some ⟨w.heap.size, 0, none⟩) := hA.at 4 (by kernel_rfl)
              have p8 : a.eval (.tmp 8) = .slice wa m8 wc := hA.at 8 (by kernel_rfl)
              have p12 : a.eval (.tmp 12) = .int .i64 (h9 : Int) := hA.at 12 (by kernel_rfl)
              exact step2_of (step_pure ((wanted_guard rfl 113 rfl h113).trans rfl) (.slice pa h9 cq1) (by simp [execOp, h114, h115, HC1.out]) rfl),
            by
              intro a W hA hB hd
              obtain ⟨q0, -⟩ := hd
              have h113 : a.eval (.tmp 113) = .bool false := q0
              have hB := Lib.hid hB
              have p0 : a.eval (.tmp 0) = .slice ad la ca := hA.at 0 (by kernel_rfl)
              have p2 : a.eval (.tmp 2) = .slice ab nb cb := hA.at 2 (by kernel_rfl)
              have p4 : a.eval (.tmp 4) = .pointer (some ⟨w.heap.size, 0, none⟩) := hA.at 4 (by kernel_rfl)
              have p8 : a.eval (.tmp 8) = .slice wa m8 wc := hA.at 8 (by kernel_rfl)
              have p12 : a.eval (.tmp 12) = .int .i64 (h9 : Int) := hA.at 12 (by kernel_rfl)
              exact step2_of (step_pure ((wanted_guard rfl 113 rfl h113).trans rfl) (.slice ad la ca) (by simp [execOp, go_sem, tm p0]) rfl),
            by
              intro a W hA hB hd
              obtain ⟨q0, -⟩ := hd
              have h113 : a.eval (.tmp 113) = .bool false := q0
              have hB := Lib.hid hB
              have p0 : a.eval (.tmp 0) = .slice ad la ca := hA.at 0 (by kernel_rfl)
              have p2 : a.eval (.tmp 2) = .slice ab nb cb := hA.at 2 (by kernel_rfl)
              have p4 : a.eval (.tmp 4) = .pointer (some ⟨w.heap.size, 0, none⟩) := hA.at 4 (by kernel_rfl)
              have p8 : a.eval (.tmp 8) = .slice wa m8 wc := hA.at 8 (by kernel_rfl)
              have p12 : a.eval (.tmp 12) = .int .i64 (h9 : Int) := hA.at 12 (by kernel_rfl)
              exact step2_of (step_pure ((wanted_guard rfl 113 rfl h113).trans rfl) (.int .i64 (h9 : Int)) (by simp [execOp, go_sem, tm p12]) rfl),
            by
              intro a W hA hB hd
              obtain ⟨q0, q1, q2, -⟩ := hd
              have h117 : a.eval (.tmp 117) = .slice ad la ca := q0
              have h118 : a.eval (.tmp 118) = .int .i64 (h9 : Int) := q1
              have h113 : a.eval (.tmp 113) = .bool false := q2
              have hB := Lib.hid hB
              have p0 : a.eval (.tmp 0) = .slice ad la ca := hA.at 0 (by kernel_rfl)
              have p2 : a.eval (.tmp 2) = .slice ab nb cb := hA.at 2 (by kernel_rfl)
              have p4 : a.eval (.tmp 4) = .pointer (some ⟨w.heap.size, 0, none⟩) := hA.at 4 (by kernel_rfl)
              have p8 : a.eval (.tmp 8) = .slice wa m8 wc := hA.at 8 (by kernel_rfl)
              have p12 : a.eval (.tmp 12) = .int .i64 (h9 : Int) := hA.at 12 (by kernel_rfl)
              exact step2_of (step_pure ((wanted_guard rfl 113 rfl h113).trans rfl) (.slice pb (la - h9) cq2) (by simp [execOp, h117, h118, HC2.out]) rfl),
            by
              intro a W hA hB hd
              obtain ⟨q0, q1, q2, q3, -⟩ := hd
              have h116 : a.eval (.tmp 116) = .slice pa h9 cq1 := q0
              have h119 : a.eval (.tmp 119) = .slice pb (la - h9) cq2 := q1
              have h113 : a.eval (.tmp 113) = .bool false := q2
              have hB := Lib.hid hB
              have p0 : a.eval (.tmp 0) = .slice ad la ca := hA.at 0 (by kernel_rfl)
              have p2 : a.eval (.tmp 2) = .slice ab nb cb := hA.at 2 (by kernel_rfl)
              have p4 : a.eval (.tmp 4) = .pointer (some ⟨w.heap.size, 0, none⟩) := hA.at 4 (by kernel_rfl)
              have p8 : a.eval (.tmp 8) = .slice wa m8 wc := hA.at 8 (by kernel_rfl)
              have p12 : a.eval (.tmp 12) = .int .i64 (h9 : Int) := hA.at 12 (by kernel_rfl)
              exact step2_of (step_calls ((wanted_guard rfl 113 rfl h113).trans rfl) rfl (vals := #[.slice pa h9 cq1, .slice pb (la - h9) cq2]) (by simp [h116, h119]) (enters_of Tryz.func48 (by kernel_rfl) rfl) ((cmpList_any (HR1.out.below hB.out) (HR2.out.below hB.out)).mono fun e w' ⟨he, hb⟩ => ⟨_, he, by rw [HN1.out]; rfl, hb⟩)),
            by
              intro a W hA hB hd
              obtain ⟨q0, -⟩ := hd
              have h113 : a.eval (.tmp 113) = .bool false := q0
              have hB := Lib.hid hB
              have p0 : a.eval (.tmp 0) = .slice ad la ca := hA.at 0 (by kernel_rfl)
              have p2 : a.eval (.tmp 2) = .slice ab nb cb := hA.at 2 (by kernel_rfl)
              have p4 : a.eval (.tmp 4) = .pointer (some ⟨w.heap.size, 0, none⟩) := hA.at 4 (by kernel_rfl)
              have p8 : a.eval (.tmp 8) = .slice wa m8 wc := hA.at 8 (by kernel_rfl)
              have p12 : a.eval (.tmp 12) = .int .i64 (h9 : Int) := hA.at 12 (by kernel_rfl)
              exact step2_of (step_pure ((wanted_guard rfl 113 rfl h113).trans rfl) (.slice ad la ca) (by simp [execOp, go_sem, tm p0]) rfl),
            by
              intro a W hA hB hd
              obtain ⟨q0, -⟩ := hd
              have h113 : a.eval (.tmp 113) = .bool false := q0
              have hB := Lib.hid hB
              have p0 : a.eval (.tmp 0) = .slice ad la ca := hA.at 0 (by kernel_rfl)
              have p2 : a.eval (.tmp 2) = .slice ab nb cb := hA.at 2 (by kernel_rfl)
              have p4 : a.eval (.tmp 4) = .pointer (some ⟨w.heap.size, 0, none⟩) := hA.at 4 (by kernel_rfl)
              have p8 : a.eval (.tmp 8) = .slice wa m8 wc := hA.at 8 (by kernel_rfl)
              have p12 : a.eval (.tmp 12) = .int .i64 (h9 : Int) := hA.at 12 (by kernel_rfl)
              exact step2_of (step_pure ((wanted_guard rfl 113 rfl h113).trans rfl) (.int .i64 (h9 : Int)) (by simp [execOp, go_sem, tm p12]) rfl),
            by
              intro a W hA hB hd
              obtain ⟨q0, q1, q2, -⟩ := hd
              have h121 : a.eval (.tmp 121) = .slice ad la ca := q0
              have h122 : a.eval (.tmp 122) = .int .i64 (h9 : Int) := q1
              have h113 : a.eval (.tmp 113) = .bool false := q2
              have hB := Lib.hid hB
              have p0 : a.eval (.tmp 0) = .slice ad la ca := hA.at 0 (by kernel_rfl)
              have p2 : a.eval (.tmp 2) = .slice ab nb cb := hA.at 2 (by kernel_rfl)
              have p4 : a.eval (.tmp 4) = .pointer (some ⟨w.heap.size, 0, none⟩) := hA.at 4 (by kernel_rfl)
              have p8 : a.eval (.tmp 8) = .slice wa m8 wc := hA.at 8 (by kernel_rfl)
              have p12 : a.eval (.tmp 12) = .int .i64 (h9 : Int) := hA.at 12 (by kernel_rfl)
              exact step2_of (step_pure ((wanted_guard rfl 113 rfl h113).trans rfl) (.slice pa h9 cq1) (by simp [execOp, h121, h122, HC1.out]) rfl),
            by
              intro a W hA hB hd
              obtain ⟨q0, -⟩ := hd
              have h113 : a.eval (.tmp 113) = .bool false := q0
              have hB := Lib.hid hB
              have p0 : a.eval (.tmp 0) = .slice ad la ca := hA.at 0 (by kernel_rfl)
              have p2 : a.eval (.tmp 2) = .slice ab nb cb := hA.at 2 (by kernel_rfl)
              have p4 : a.eval (.tmp 4) = .pointer (some ⟨w.heap.size, 0, none⟩) := hA.at 4 (by kernel_rfl)
              have p8 : a.eval (.tmp 8) = .slice wa m8 wc := hA.at 8 (by kernel_rfl)
              have p12 : a.eval (.tmp 12) = .int .i64 (h9 : Int) := hA.at 12 (by kernel_rfl)
              exact step2_of (step_pure ((wanted_guard rfl 113 rfl h113).trans rfl) (.slice ad la ca) (by simp [execOp, go_sem, tm p0]) rfl),
            by
              intro a W hA hB hd
              obtain ⟨q0, -⟩ := hd
              have h113 : a.eval (.tmp 113) = .bool false := q0
              have hB := Lib.hid hB
              have p0 : a.eval (.tmp 0) = .slice ad la ca := hA.at 0 (by kernel_rfl)
              have p2 : a.eval (.tmp 2) = .slice ab nb cb := hA.at 2 (by kernel_rfl)
              have p4 : a.eval (.tmp 4) = .pointer (some ⟨w.heap.size, 0, none⟩) := hA.at 4 (by kernel_rfl)
              have p8 : a.eval (.tmp 8) = .slice wa m8 wc := hA.at 8 (by kernel_rfl)
              have p12 : a.eval (.tmp 12) = .int .i64 (h9 : Int) := hA.at 12 (by kernel_rfl)
              exact step2_of (step_pure ((wanted_guard rfl 113 rfl h113).trans rfl) (.int .i64 (h9 : Int)) (by simp [execOp, go_sem, tm p12]) rfl),
            by
              intro a W hA hB hd
              obtain ⟨q0, q1, q2, -⟩ := hd
              have h124 : a.eval (.tmp 124) = .slice ad la ca := q0
              have h125 : a.eval (.tmp 125) = .int .i64 (h9 : Int) := q1
              have h113 : a.eval (.tmp 113) = .bool false := q2
              have hB := Lib.hid hB
              have p0 : a.eval (.tmp 0) = .slice ad la ca := hA.at 0 (by kernel_rfl)
              have p2 : a.eval (.tmp 2) = .slice ab nb cb := hA.at 2 (by kernel_rfl)
              have p4 : a.eval (.tmp 4) = .pointer (some ⟨w.heap.size, 0, none⟩) := hA.at 4 (by kernel_rfl)
              have p8 : a.eval (.tmp 8) = .slice wa m8 wc := hA.at 8 (by kernel_rfl)
              have p12 : a.eval (.tmp 12) = .int .i64 (h9 : Int) := hA.at 12 (by kernel_rfl)
              exact step2_of (step_pure ((wanted_guard rfl 113 rfl h113).trans rfl) (.slice pb (la - h9) cq2) (by simp [execOp, h124, h125, HC2.out]) rfl),
            by
              intro a W hA hB hd
              obtain ⟨q0, q1, q2, q3, -⟩ := hd
              have h123 : a.eval (.tmp 123) = .slice pa h9 cq1 := q0
              have h126 : a.eval (.tmp 126) = .slice pb (la - h9) cq2 := q1
              have h120 : a.eval (.tmp 120) = .int .i64 n1 := q2
              have h113 : a.eval (.tmp 113) = .bool false := q3
              have hB := Lib.hid hB
              have p0 : a.eval (.tmp 0) = .slice ad la ca := hA.at 0 (by kernel_rfl)
              have p2 : a.eval (.tmp 2) = .slice ab nb cb := hA.at 2 (by kernel_rfl)
              have p4 : a.eval (.tmp 4) = .pointer (some ⟨w.heap.size, 0, none⟩) := hA.at 4 (by kernel_rfl)
              have p8 : a.eval (.tmp 8) = .slice wa m8 wc := hA.at 8 (by kernel_rfl)
              have p12 : a.eval (.tmp 12) = .int .i64 (h9 : Int) := hA.at 12 (by kernel_rfl)
              exact step2_of (step_calls ((wanted_guard rfl 113 rfl h113).trans rfl) rfl (vals := #[.slice pa h9 cq1, .slice pb (la - h9) cq2]) (by simp [h123, h126]) (enters_of Tryz.func49 (by kernel_rfl) rfl) ((rcmpList_any (HR1.out.below hB.out) (HR2.out.below hB.out) HSH1.out HSH2.out).mono fun e w' ⟨he, hb⟩ => ⟨_, he, by rw [HN1.out]; rfl, hb⟩)),
            by
              intro a W hA hB hd
              obtain ⟨q0, q1, q2, -⟩ := hd
              have h120 : a.eval (.tmp 120) = .int .i64 n1 := q0
              have h127 : a.eval (.tmp 127) = .int .i64 n1 := q1
              have h113 : a.eval (.tmp 113) = .bool false := q2
              have hB := Lib.hid hB
              have p0 : a.eval (.tmp 0) = .slice ad la ca := hA.at 0 (by kernel_rfl)
              have p2 : a.eval (.tmp 2) = .slice ab nb cb := hA.at 2 (by kernel_rfl)
              have p4 : a.eval (.tmp 4) = .pointer (some ⟨w.heap.size, 0, none⟩) := hA.at 4 (by kernel_rfl)
              have p8 : a.eval (.tmp 8) = .slice wa m8 wc := hA.at 8 (by kernel_rfl)
              have p12 : a.eval (.tmp 12) = .int .i64 (h9 : Int) := hA.at 12 (by kernel_rfl)
              exact step2_of (step_pure ((wanted_guard rfl 113 rfl h113).trans rfl) (.bool false) (by simp [execOp, go_sem, tm h120, tm h127]) rfl),
            by
              intro a W hA hB hd
              obtain ⟨q0, q1, -⟩ := hd
              have h113 : a.eval (.tmp 113) = .bool false := q0
              have h128 : a.eval (.tmp 128) = .bool false := q1
              have hB := Lib.hid hB
              have p0 : a.eval (.tmp 0) = .slice ad la ca := hA.at 0 (by kernel_rfl)
              have p2 : a.eval (.tmp 2) = .slice ab nb cb := hA.at 2 (by kernel_rfl)
              have p4 : a.eval (.tmp 4) = .pointer (some ⟨w.heap.size, 0, none⟩) := hA.at 4 (by kernel_rfl)
              have p8 : a.eval (.tmp 8) = .slice wa m8 wc := hA.at 8 (by kernel_rfl)
              have p12 : a.eval (.tmp 12) = .int .i64 (h9 : Int) := hA.at 12 (by kernel_rfl)
              exact step2_of (step_pure (wanted_none rfl) (.bool false) (by simp [execOp, go_sem, tm h113, tm h128]) rfl),
            by
              intro a W hA hB hd
              obtain ⟨q0, q1, -⟩ := hd
              have h129 : a.eval (.tmp 129) = .bool false := q0
              have h127 : a.eval (.tmp 127) = .int .i64 n1 := q1
              have hB := Lib.hid hB
              have p0 : a.eval (.tmp 0) = .slice ad la ca := hA.at 0 (by kernel_rfl)
              have p2 : a.eval (.tmp 2) = .slice ab nb cb := hA.at 2 (by kernel_rfl)
              have p4 : a.eval (.tmp 4) = .pointer (some ⟨w.heap.size, 0, none⟩) := hA.at 4 (by kernel_rfl)
              have p8 : a.eval (.tmp 8) = .slice wa m8 wc := hA.at 8 (by kernel_rfl)
              have p12 : a.eval (.tmp 12) = .int .i64 (h9 : Int) := hA.at 12 (by kernel_rfl)
              exact step2_of (step_pure (wanted_none rfl) (.bool false) (by simp [execOp, go_sem, tm h129]) rfl),
            by
              intro a W hA hB hd
              obtain ⟨q0, -⟩ := hd
              have h130 : a.eval (.tmp 130) = .bool false := q0
              have hB := Lib.hid hB
              have p0 : a.eval (.tmp 0) = .slice ad la ca := hA.at 0 (by kernel_rfl)
              have p2 : a.eval (.tmp 2) = .slice ab nb cb := hA.at 2 (by kernel_rfl)
              have p4 : a.eval (.tmp 4) = .pointer (some ⟨w.heap.size, 0, none⟩) := hA.at 4 (by kernel_rfl)
              have p8 : a.eval (.tmp 8) = .slice wa m8 wc := hA.at 8 (by kernel_rfl)
              have p12 : a.eval (.tmp 12) = .int .i64 (h9 : Int) := hA.at 12 (by kernel_rfl)
              exact step2_of (step_pure ((wanted_guard rfl 130 rfl h130).trans rfl) (.slice ad la ca) (by simp [execOp, go_sem, tm p0]) rfl),
            by
              intro a W hA hB hd
              obtain ⟨q0, -⟩ := hd
              have h130 : a.eval (.tmp 130) = .bool false := q0
              have hB := Lib.hid hB
              have p0 : a.eval (.tmp 0) = .slice ad la ca := hA.at 0 (by kernel_rfl)
              have p2 : a.eval (.tmp 2) = .slice ab nb cb := hA.at 2 (by kernel_rfl)
              have p4 : a.eval (.tmp 4) = .pointer (some ⟨w.heap.size, 0, none⟩) := hA.at 4 (by kernel_rfl)
              have p8 : a.eval (.tmp 8) = .slice wa m8 wc := hA.at 8 (by kernel_rfl)
              have p12 : a.eval (.tmp 12) = .int .i64 (h9 : Int) := hA.at 12 (by kernel_rfl)
              exact step2_of (step_pure ((wanted_guard rfl 130 rfl h130).trans rfl) (.int .i64 (h9 : Int)) (by simp [execOp, go_sem, tm p12]) rfl),
            by
              intro a W hA hB hd
              obtain ⟨q0, q1, q2, -⟩ := hd
              have h131 : a.eval (.tmp 131) = .slice ad la ca := q0
              have h132 : a.eval (.tmp 132) = .int .i64 (h9 : Int) := q1
              have h130 : a.eval (.tmp 130) = .bool false := q2
              have hB := Lib.hid hB
              have p0 : a.eval (.tmp 0) = .slice ad la ca := hA.at 0 (by kernel_rfl)
              have p2 : a.eval (.tmp 2) = .slice ab nb cb := hA.at 2 (by kernel_rfl)
              have p4 : a.eval (.tmp 4) = .pointer (some ⟨w.heap.size, 0, none⟩) := hA.at 4 (by kernel_rfl)
              have p8 : a.eval (.tmp 8) = .slice wa m8 wc := hA.at 8 (by kernel_rfl)
              have p12 : a.eval (.tmp 12) = .int .i64 (h9 : Int) := hA.at 12 (by kernel_rfl)
              exact step2_of (step_pure ((wanted_guard rfl 130 rfl h130).trans rfl) (.slice pa h9 cq1) (by simp [execOp, h131, h132, HC1.out]) rfl),
            by
              intro a W hA hB hd
              obtain ⟨q0, -⟩ := hd
              have h130 : a.eval (.tmp 130) = .bool false := q0
              have hB := Lib.hid hB
              have p0 : a.eval (.tmp 0) = .slice ad la ca := hA.at 0 (by kernel_rfl)
              have p2 : a.eval (.tmp 2) = .slice ab nb cb := hA.at 2 (by kernel_rfl)
              have p4 : a.eval (.tmp 4) = .pointer (some ⟨w.heap.size, 0, none⟩) := hA.at 4 (by kernel_rfl)
              have p8 : a.eval (.tmp 8) = .slice wa m8 wc := hA.at 8 (by kernel_rfl)
              have p12 : a.eval (.tmp 12) = .int .i64 (h9 : Int) := hA.at 12 (by kernel_rfl)
              exact step2_of (step_pure ((wanted_guard rfl 130 rfl h130).trans rfl) (.slice ad la ca) (by simp [execOp, go_sem, tm p0]) rfl),
            by
              intro a W hA hB hd
              obtain ⟨q0, q1, q2, q3, -⟩ := hd
              have h133 : a.eval (.tmp 133) = .slice pa h9 cq1 := q0
              have h134 : a.eval (.tmp 134) = .slice ad la ca := q1
              have h130 : a.eval (.tmp 130) = .bool false := q2
              have hB := Lib.hid hB
              have p0 : a.eval (.tmp 0) = .slice ad la ca := hA.at 0 (by kernel_rfl)
              have p2 : a.eval (.tmp 2) = .slice ab nb cb := hA.at 2 (by kernel_rfl)
              have p4 : a.eval (.tmp 4) = .pointer (some ⟨w.heap.size, 0, none⟩) := hA.at 4 (by kernel_rfl)
              have p8 : a.eval (.tmp 8) = .slice wa m8 wc := hA.at 8 (by kernel_rfl)
              have p12 : a.eval (.tmp 12) = .int .i64 (h9 : Int) := hA.at 12 (by kernel_rfl)
              exact step2_of (step_calls ((wanted_guard rfl 130 rfl h130).trans rfl) rfl (vals := #[.slice pa h9 cq1, .slice ad la ca]) (by simp [h133, h134]) (enters_of Tryz.func48 (by kernel_rfl) rfl) ((cmpList_any (HR1.out.below hB.out) (HRL.out.below hB.out)).mono fun e w' ⟨he, hb⟩ => ⟨_, he, by rw [HN2.out]; rfl, hb⟩)),
            by
              intro a W hA hB hd
              obtain ⟨q0, -⟩ := hd
              have h130 : a.eval (.tmp 130) = .bool false := q0
              have hB := Lib.hid hB
              have p0 : a.eval (.tmp 0) = .slice ad la ca := hA.at 0 (by kernel_rfl)
              have p2 : a.eval (.tmp 2) = .slice ab nb cb := hA.at 2 (by kernel_rfl)
              have p4 : a.eval (.tmp 4) = .pointer (some ⟨w.heap.size, 0, none⟩) := hA.at 4 (by kernel_rfl)
              have p8 : a.eval (.tmp 8) = .slice wa m8 wc := hA.at 8 (by kernel_rfl)
              have p12 : a.eval (.tmp 12) = .int .i64 (h9 : Int) := hA.at 12 (by kernel_rfl)
              exact step2_of (step_pure ((wanted_guard rfl 130 rfl h130).trans rfl) (.slice ad la ca) (by simp [execOp, go_sem, tm p0]) rfl),
            by
              intro a W hA hB hd
              obtain ⟨q0, -⟩ := hd
              have h130 : a.eval (.tmp 130) = .bool false := q0
              have hB := Lib.hid hB
              have p0 : a.eval (.tmp 0) = .slice ad la ca := hA.at 0 (by kernel_rfl)
              have p2 : a.eval (.tmp 2) = .slice ab nb cb := hA.at 2 (by kernel_rfl)
              have p4 : a.eval (.tmp 4) = .pointer (some ⟨w.heap.size, 0, none⟩) := hA.at 4 (by kernel_rfl)
              have p8 : a.eval (.tmp 8) = .slice wa m8 wc := hA.at 8 (by kernel_rfl)
              have p12 : a.eval (.tmp 12) = .int .i64 (h9 : Int) := hA.at 12 (by kernel_rfl)
              exact step2_of (step_pure ((wanted_guard rfl 130 rfl h130).trans rfl) (.int .i64 (h9 : Int)) (by simp [execOp, go_sem, tm p12]) rfl),
            by
              intro a W hA hB hd
              obtain ⟨q0, q1, q2, -⟩ := hd
              have h136 : a.eval (.tmp 136) = .slice ad la ca := q0
              have h137 : a.eval (.tmp 137) = .int .i64 (h9 : Int) := q1
              have h130 : a.eval (.tmp 130) = .bool false := q2
              have hB := Lib.hid hB
              have p0 : a.eval (.tmp 0) = .slice ad la ca := hA.at 0 (by kernel_rfl)
              have p2 : a.eval (.tmp 2) = .slice ab nb cb := hA.at 2 (by kernel_rfl)
              have p4 : a.eval (.tmp 4) = .pointer (some ⟨w.heap.size, 0, none⟩) := hA.at 4 (by kernel_rfl)
              have p8 : a.eval (.tmp 8) = .slice wa m8 wc := hA.at 8 (by kernel_rfl)
              have p12 : a.eval (.tmp 12) = .int .i64 (h9 : Int) := hA.at 12 (by kernel_rfl)
              exact step2_of (step_pure ((wanted_guard rfl 130 rfl h130).trans rfl) (.slice pa h9 cq1) (by simp [execOp, h136, h137, HC1.out]) rfl),
            by
              intro a W hA hB hd
              obtain ⟨q0, -⟩ := hd
              have h130 : a.eval (.tmp 130) = .bool false := q0
              have hB := Lib.hid hB
              have p0 : a.eval (.tmp 0) = .slice ad la ca := hA.at 0 (by kernel_rfl)
              have p2 : a.eval (.tmp 2) = .slice ab nb cb := hA.at 2 (by kernel_rfl)
              have p4 : a.eval (.tmp 4) = .pointer (some ⟨w.heap.size, 0, none⟩) := hA.at 4 (by kernel_rfl)
              have p8 : a.eval (.tmp 8) = .slice wa m8 wc := hA.at 8 (by kernel_rfl)
              have p12 : a.eval (.tmp 12) = .int .i64 (h9 : Int) := hA.at 12 (by kernel_rfl)
              exact step2_of (step_pure ((wanted_guard rfl 130 rfl h130).trans rfl) (.slice ad la ca) (by simp [execOp, go_sem, tm p0]) rfl),
            by
              intro a W hA hB hd
              obtain ⟨q0, q1, q2, q3, -⟩ := hd
              have h138 : a.eval (.tmp 138) = .slice pa h9 cq1 := q0
              have h139 : a.eval (.tmp 139) = .slice ad la ca := q1
              have h135 : a.eval (.tmp 135) = .int .i64 n2 := q2
              have h130 : a.eval (.tmp 130) = .bool false := q3
              have hB := Lib.hid hB
              have p0 : a.eval (.tmp 0) = .slice ad la ca := hA.at 0 (by kernel_rfl)
              have p2 : a.eval (.tmp 2) = .slice ab nb cb := hA.at 2 (by kernel_rfl)
              have p4 : a.eval (.tmp 4) = .pointer (some ⟨w.heap.size, 0, none⟩) := hA.at 4 (by kernel_rfl)
              have p8 : a.eval (.tmp 8) = .slice wa m8 wc := hA.at 8 (by kernel_rfl)
              have p12 : a.eval (.tmp 12) = .int .i64 (h9 : Int) := hA.at 12 (by kernel_rfl)
              exact step2_of (step_calls ((wanted_guard rfl 130 rfl h130).trans rfl) rfl (vals := #[.slice pa h9 cq1, .slice ad la ca]) (by simp [h138, h139]) (enters_of Tryz.func49 (by kernel_rfl) rfl) ((rcmpList_any (HR1.out.below hB.out) (HRL.out.below hB.out) HSH1.out HSH.out).mono fun e w' ⟨he, hb⟩ => ⟨_, he, by rw [HN2.out]; rfl, hb⟩)),
            by
              intro a W hA hB hd
              obtain ⟨q0, q1, q2, -⟩ := hd
              have h135 : a.eval (.tmp 135) = .int .i64 n2 := q0
              have h140 : a.eval (.tmp 140) = .int .i64 n2 := q1
              have h130 : a.eval (.tmp 130) = .bool false := q2
              have hB := Lib.hid hB
              have p0 : a.eval (.tmp 0) = .slice ad la ca := hA.at 0 (by kernel_rfl)
              have p2 : a.eval (.tmp 2) = .slice ab nb cb := hA.at 2 (by kernel_rfl)
              have p4 : a.eval (.tmp 4) = .pointer (some ⟨w.heap.size, 0, none⟩) := hA.at 4 (by kernel_rfl)
              have p8 : a.eval (.tmp 8) = .slice wa m8 wc := hA.at 8 (by kernel_rfl)
              have p12 : a.eval (.tmp 12) = .int .i64 (h9 : Int) := hA.at 12 (by kernel_rfl)
              exact step2_of (step_pure ((wanted_guard rfl 130 rfl h130).trans rfl) (.bool false) (by simp [execOp, go_sem, tm h135, tm h140]) rfl),
            by
              intro a W hA hB hd
              obtain ⟨q0, q1, -⟩ := hd
              have h130 : a.eval (.tmp 130) = .bool false := q0
              have h141 : a.eval (.tmp 141) = .bool false := q1
              have hB := Lib.hid hB
              have p0 : a.eval (.tmp 0) = .slice ad la ca := hA.at 0 (by kernel_rfl)
              have p2 : a.eval (.tmp 2) = .slice ab nb cb := hA.at 2 (by kernel_rfl)
              have p4 : a.eval (.tmp 4) = .pointer (some ⟨w.heap.size, 0, none⟩) := hA.at 4 (by kernel_rfl)
              have p8 : a.eval (.tmp 8) = .slice wa m8 wc := hA.at 8 (by kernel_rfl)
              have p12 : a.eval (.tmp 12) = .int .i64 (h9 : Int) := hA.at 12 (by kernel_rfl)
              exact step2_of (step_pure (wanted_none rfl) (.bool false) (by simp [execOp, go_sem, tm h130, tm h141]) rfl),
            by
              intro a W hA hB hd
              obtain ⟨q0, q1, -⟩ := hd
              have h142 : a.eval (.tmp 142) = .bool false := q0
              have h140 : a.eval (.tmp 140) = .int .i64 n2 := q1
              have hB := Lib.hid hB
              have p0 : a.eval (.tmp 0) = .slice ad la ca := hA.at 0 (by kernel_rfl)
              have p2 : a.eval (.tmp 2) = .slice ab nb cb := hA.at 2 (by kernel_rfl)
              have p4 : a.eval (.tmp 4) = .pointer (some ⟨w.heap.size, 0, none⟩) := hA.at 4 (by kernel_rfl)
              have p8 : a.eval (.tmp 8) = .slice wa m8 wc := hA.at 8 (by kernel_rfl)
              have p12 : a.eval (.tmp 12) = .int .i64 (h9 : Int) := hA.at 12 (by kernel_rfl)
              exact step2_of (step_pure (wanted_none rfl) (.bool false) (by simp [execOp, go_sem, tm h142]) rfl),
            by
              intro a W hA hB hd
              obtain ⟨q0, -⟩ := hd
              have h143 : a.eval (.tmp 143) = .bool false := q0
              have hB := Lib.hid hB
              have p0 : a.eval (.tmp 0) = .slice ad la ca := hA.at 0 (by kernel_rfl)
              have p2 : a.eval (.tmp 2) = .slice ab nb cb := hA.at 2 (by kernel_rfl)
              have p4 : a.eval (.tmp 4) = .pointer (some ⟨w.heap.size, 0, none⟩) := hA.at 4 (by kernel_rfl)
              have p8 : a.eval (.tmp 8) = .slice wa m8 wc := hA.at 8 (by kernel_rfl)
              have p12 : a.eval (.tmp 12) = .int .i64 (h9 : Int) := hA.at 12 (by kernel_rfl)
              exact step2_of (step_pure ((wanted_guard rfl 143 rfl h143).trans rfl) (.slice ab nb cb) (by simp [execOp, go_sem, tm p2]) rfl),
            by
              intro a W hA hB hd
              obtain ⟨q0, -⟩ := hd
              have h143 : a.eval (.tmp 143) = .bool false := q0
              have hB := Lib.hid hB
              have p0 : a.eval (.tmp 0) = .slice ad la ca := hA.at 0 (by kernel_rfl)
              have p2 : a.eval (.tmp 2) = .slice ab nb cb := hA.at 2 (by kernel_rfl)
              have p4 : a.eval (.tmp 4) = .pointer (some ⟨w.heap.size, 0, none⟩) := hA.at 4 (by kernel_rfl)
              have p8 : a.eval (.tmp 8) = .slice wa m8 wc := hA.at 8 (by kernel_rfl)
              have p12 : a.eval (.tmp 12) = .int .i64 (h9 : Int) := hA.at 12 (by kernel_rfl)
              exact step2_of (step_pure ((wanted_guard rfl 143 rfl h143).trans rfl) (.slice wa m8 wc) (by simp [execOp, go_sem, tm p8]) rfl),
            by
              intro a W hA hB hd
              obtain ⟨q0, q1, q2, q3, -⟩ := hd
              have h144 : a.eval (.tmp 144) = .slice ab nb cb := q0
              have h145 : a.eval (.tmp 145) = .slice wa m8 wc := q1
              have h143 : a.eval (.tmp 143) = .bool false := q2
              have hB := Lib.hid hB
              have p0 : a.eval (.tmp 0) = .slice ad la ca := hA.at 0 (by kernel_rfl)
              have p2 : a.eval (.tmp 2) = .slice ab nb cb := hA.at 2 (by kernel_rfl)
              have p4 : a.eval (.tmp 4) = .pointer (some ⟨w.heap.size, 0, none⟩) := hA.at 4 (by kernel_rfl)
              have p8 : a.eval (.tmp 8) = .slice wa m8 wc := hA.at 8 (by kernel_rfl)
              have p12 : a.eval (.tmp 12) = .int .i64 (h9 : Int) := hA.at 12 (by kernel_rfl)
              exact step2_of (step_calls ((wanted_guard rfl 143 rfl h143).trans rfl) rfl (vals := #[.slice ab nb cb, .slice wa m8 wc]) (by simp [h144, h145]) (enters_of Tryz.func50 (by kernel_rfl) rfl) (HAL.out W hB.out.size (HRBW.out.below hB.out) (HRW.out.below hB.out))),
            by
              intro a W hA hB hd
              obtain ⟨q0, -⟩ := hd
              have h143 : a.eval (.tmp 143) = .bool false := q0
              have hB := Lib.hid hB
              have p0 : a.eval (.tmp 0) = .slice ad la ca := hA.at 0 (by kernel_rfl)
              have p2 : a.eval (.tmp 2) = .slice ab nb cb := hA.at 2 (by kernel_rfl)
              have p4 : a.eval (.tmp 4) = .pointer (some ⟨w.heap.size, 0, none⟩) := hA.at 4 (by kernel_rfl)
              have p8 : a.eval (.tmp 8) = .slice wa m8 wc := hA.at 8 (by kernel_rfl)
              have p12 : a.eval (.tmp 12) = .int .i64 (h9 : Int) := hA.at 12 (by kernel_rfl)
              exact step2_of (step_pure ((wanted_guard rfl 143 rfl h143).trans rfl) (.slice ab nb cb) (by simp [execOp, go_sem, tm p2]) rfl),
            by
              intro a W hA hB hd
              obtain ⟨q0, -⟩ := hd
              have h143 : a.eval (.tmp 143) = .bool false := q0
              have hB := Lib.hid hB
              have p0 : a.eval (.tmp 0) = .slice ad la ca := hA.at 0 (by kernel_rfl)
              have p2 : a.eval (.tmp 2) = .slice ab nb cb := hA.at 2 (by kernel_rfl)
              have p4 : a.eval (.tmp 4) = .pointer (some ⟨w.heap.size, 0, none⟩) := hA.at 4 (by kernel_rfl)
              have p8 : a.eval (.tmp 8) = .slice wa m8 wc := hA.at 8 (by kernel_rfl)
              have p12 : a.eval (.tmp 12) = .int .i64 (h9 : Int) := hA.at 12 (by kernel_rfl)
              exact step2_of (step_pure ((wanted_guard rfl 143 rfl h143).trans rfl) (.slice wa m8 wc) (by simp [execOp, go_sem, tm p8]) rfl),
            by
              intro a W hA hB hd
              obtain ⟨q0, q1, q2, q3, -⟩ := hd
              have h147 : a.eval (.tmp 147) = .slice ab nb cb := q0
              have h148 : a.eval (.tmp 148) = .slice wa m8 wc := q1
              have h146 : (RowF wr.heap.size bb) (a.eval (.tmp 146)) W := q2
              have h143 : a.eval (.tmp 143) = .bool false := q3
              have hB := Lib.hid hB
              have p0 : a.eval (.tmp 0) = .slice ad la ca := hA.at 0 (by kernel_rfl)
              have p2 : a.eval (.tmp 2) = .slice ab nb cb := hA.at 2 (by kernel_rfl)
              have p4 : a.eval (.tmp 4) = .pointer (some ⟨w.heap.size, 0, none⟩) := hA.at 4 (by kernel_rfl)
              have p8 : a.eval (.tmp 8) = .slice wa m8 wc := hA.at 8 (by kernel_rfl)
              have p12 : a.eval (.tmp 12) = .int .i64 (h9 : Int) := hA.at 12 (by kernel_rfl)
              exact step2_of (step_calls ((wanted_guard rfl 143 rfl h143).trans rfl) rfl (vals := #[.slice ab nb cb, .slice wa m8 wc]) (by simp [h147, h148]) (enters_of Tryz.func51 (by kernel_rfl) rfl) (HAR.out W hB.out.size (HRBW.out.below hB.out) (HRW.out.below hB.out))),
            by
              intro a W hA hB hd
              obtain ⟨q0, q1, q2, q3, -⟩ := hd
              have h146 : (RowF wr.heap.size bb) (a.eval (.tmp 146)) W := q0
              have h149 : (RowF wr.heap.size bb) (a.eval (.tmp 149)) W := q1
              have h143 : a.eval (.tmp 143) = .bool false := q3
              have hB := Lib.hid hB
              have p0 : a.eval (.tmp 0) = .slice ad la ca := hA.at 0 (by kernel_rfl)
              have p2 : a.eval (.tmp 2) = .slice ab nb cb := hA.at 2 (by kernel_rfl)
              have p4 : a.eval (.tmp 4) = .pointer (some ⟨w.heap.size, 0, none⟩) := hA.at 4 (by kernel_rfl)
              have p8 : a.eval (.tmp 8) = .slice wa m8 wc := hA.at 8 (by kernel_rfl)
              have p12 : a.eval (.tmp 12) = .int .i64 (h9 : Int) := hA.at 12 (by kernel_rfl)
              obtain ⟨g1, d1, e89, r89⟩ := rowF_rd h146 HLB.out
              obtain ⟨g2, d2, e92, r92⟩ := rowF_rd h149 HLB.out
              exact step2_of (step_calls ((wanted_guard rfl 143 rfl h143).trans rfl) rfl (vals := #[.slice (some ⟨g1, 0, none⟩) bb.length d1, .slice (some ⟨g2, 0, none⟩) bb.length d2]) (by simp [e89, e92]) (enters_of Tryz.func40 (by kernel_rfl) rfl) ((same_any r89 r92).mono fun e w' ⟨he, hb⟩ => ⟨_, he, by rw [sameB_true rfl]; rfl, hb⟩)),
            by
              intro a W hA hB hd
              obtain ⟨q0, q1, -⟩ := hd
              have h150 : a.eval (.tmp 150) = .bool true := q0
              have h143 : a.eval (.tmp 143) = .bool false := q1
              have hB := Lib.hid hB
              have p0 : a.eval (.tmp 0) = .slice ad la ca := hA.at 0 (by kernel_rfl)
              have p2 : a.eval (.tmp 2) = .slice ab nb cb := hA.at 2 (by kernel_rfl)
              have p4 : a.eval (.tmp 4) = .pointer (some ⟨w.heap.size, 0, none⟩) := hA.at 4 (by kernel_rfl)
              have p8 : a.eval (.tmp 8) = .slice wa m8 wc := hA.at 8 (by kernel_rfl)
              have p12 : a.eval (.tmp 12) = .int .i64 (h9 : Int) := hA.at 12 (by kernel_rfl)
              exact step2_of (step_pure ((wanted_guard rfl 143 rfl h143).trans rfl) (.bool false) (by simp [execOp, go_sem, tm h150]) rfl),
            by
              intro a W hA hB hd
              obtain ⟨q0, q1, -⟩ := hd
              have h143 : a.eval (.tmp 143) = .bool false := q0
              have h151 : a.eval (.tmp 151) = .bool false := q1
              have hB := Lib.hid hB
              have p0 : a.eval (.tmp 0) = .slice ad la ca := hA.at 0 (by kernel_rfl)
              have p2 : a.eval (.tmp 2) = .slice ab nb cb := hA.at 2 (by kernel_rfl)
              have p4 : a.eval (.tmp 4) = .pointer (some ⟨w.heap.size, 0, none⟩) := hA.at 4 (by kernel_rfl)
              have p8 : a.eval (.tmp 8) = .slice wa m8 wc := hA.at 8 (by kernel_rfl)
              have p12 : a.eval (.tmp 12) = .int .i64 (h9 : Int) := hA.at 12 (by kernel_rfl)
              exact step2_of (step_pure (wanted_none rfl) (.bool false) (by simp [execOp, go_sem, tm h143, tm h151]) rfl), trivial⟩
        · intro ax W hA hB hE
          have h152 : ax.eval (.tmp 152) = .bool false := hE.2.2.2.2.2.2.2.2.2.2.2.2.2.2.2.2.2.2.2.2.2.2.2.2.2.2.2.2.2.2.2.2.2.2.2.2.2.2.2.2.2.2.2.2.1
          have hp := hA.puts [108, 109, 110, 111, 112, 113, 114, 115, 116, 117, 118, 119, 120, 121, 122, 123, 124, 125, 126, 127, 128, 129, 130, 131, 132, 133, 134, 135, 136, 137, 138, 139, 140, 141, 142, 143, 144, 145, 146, 147, 148, 149, 150, 151, 152] (by kernel_rfl)
          clear hA hE
          simp only [putAll, h152] at hp
          clear h152
          generalize ax.eval = ev at hp
          subst hp
          have HB19 := Lib.hid (HB17.out.trans (hB.mono HB17.out.size))
          have HRB9 : Hid (Rd (fun b => b < w.heap.size) W .u8 ab nb cb bs) := HRB.out.below HB19.out
          have HV9 := Lib.hid (HV.out.below HB19.out)
          clear hB HB17 HT17 HRL HRW HRBW HR1 HR2 HC1 HC2 HSH1 HSH2 HN1 HN2 HVT HRT HLB HAL HAR HWU HU8 HSH
          simp [Act.put]
          go_upto_region 20 with fail
          obtain ⟨z1, hz1'⟩ : ∃ z, (rdV bs).2.2 = z := ⟨_, rfl⟩
          obtain ⟨z2, hz2'⟩ : ∃ z, (rdL bs).2.2 = z := ⟨_, rfl⟩
          have HZ1 := Lib.hid hz1'
          have HZ2 := Lib.hid hz2'
          obtain ⟨st, hst⟩ : ∃ st, strU bs = st := ⟨_, rfl⟩
          have HST9 := Lib.hid hst
          have hstl : st.length ≤ 100 := by rw [← hst, strU_len, ← HRB.out.hl]; exact hnb
          have HSL9 := Lib.hid (nvL_short HO.out)
          have HPW : Hid (∀ W, De.Vars W → Calls Tryz.prog 44 #[.string (bsOf st)] W fun e w' => e = .returned (encG (parsedV st).1 (.slice none 0 0) (.slice none 0 0) (parsedV st).2) ∧ Below W.heap.size W w') := fun W hv => parsedW_any _ (by omega) W hv
          have HPR : Hid (∀ W, Calls Tryz.prog 45 #[.string (bsOf st)] W fun e w' => e = .returned (encG (parsedV st).1 (.slice none 0 0) (.slice none 0 0) (parsedV st).2) ∧ Below W.heap.size W w') := fun W => rparsev_any _ (by omega) W
          clear hz1' hz2' hst hstl
          generalize parsedV st = pv at *
          generalize W = W19 at *
          refine wp_region_writes (base := W19.heap.size) (us := [none, none, none, none, none, none, none, none, none, none, none, none, none, none, none, none, none, none, none, none, none, none, none, none, none]) (ws := []) (bs := [true, false, true, false, true, true, true, false, true, false, true, true, true, true, true, true, true, true, true, true, true, true, true, true, true]) (fs := [Fact.is (.slice ab nb cb), GotVF (nvV bs) (nrV bs) z1, Fact.is (.slice ab nb cb), GotRF (nvV bs) (nrV bs) z1, Fact.is (.bool true), Fact.is (.bool true), Fact.is (.slice ab nb cb), GotLF (nvL bs) (nrL bs) z2, Fact.is (.slice ab nb cb), GotSF (nvL bs) (nrL bs) z2, Fact.is (.bool true), Fact.is (.bool true), Fact.is (.bool true), Fact.is (.slice ab nb cb), Fact.is (.string (bsOf st)), Fact.is (encG pv.1 (.slice none 0 0) (.slice none 0 0) pv.2), Fact.is (.slice ab nb cb), Fact.is (.string (bsOf st)), Fact.is (encG pv.1 (.slice none 0 0) (.slice none 0 0) pv.2), Fact.is (.bool true), Fact.is (.bool true), Fact.is (.bool true), Fact.is (.bool true), Fact.is (.bool true), Fact.is (.bool true)]) 8 (by kernel_rfl) (by kernel_rfl) (by kernel_rfl) (by kernel_rfl) (Nat.le_refl _) ⟨Fact.is_stable _, gotVF_stable _ _ _, Fact.is_stable _, gotRF_stable _ _ _, Fact.is_stable _, Fact.is_stable _, Fact.is_stable _, gotLF_stable _ _ _, Fact.is_stable _, gotSF_stable _ _ _, Fact.is_stable _, Fact.is_stable _, Fact.is_stable _, Fact.is_stable _, Fact.is_stable _, Fact.is_stable _, Fact.is_stable _, Fact.is_stable _, Fact.is_stable _, Fact.is_stable _, Fact.is_stable _, Fact.is_stable _, Fact.is_stable _, Fact.is_stable _, Fact.is_stable _, trivial⟩ ⟨(fun _ => Fact.is_firm _ _), (fun h => by cases h), (fun _ => Fact.is_firm _ _), (fun h => by cases h), (fun _ => Fact.is_firm _ _), (fun _ => Fact.is_firm _ _), (fun _ => Fact.is_firm _ _), (fun h => by cases h), (fun _ => Fact.is_firm _ _), (fun h => by cases h), (fun _ => Fact.is_firm _ _), (fun _ => Fact.is_firm _ _), (fun _ => Fact.is_firm _ _), (fun _ => Fact.is_firm _ _), (fun _ => Fact.is_firm _ _), (fun _ => Fact.is_firm _ _), (fun _ => Fact.is_firm _ _), (fun _ => Fact.is_firm _ _), (fun _ => Fact.is_firm _ _), (fun _ => Fact.is_firm _ _), (fun _ => Fact.is_firm _ _), (fun _ => Fact.is_firm _ _), (fun _ => Fact.is_firm _ _), (fun _ => Fact.is_firm _ _), (fun _ => Fact.is_firm _ _), trivial⟩ ?_ ?_
          · exact ⟨by
                intro a W hA hB hd
                have hB := Lib.hid hB
                have p2 : a.eval (.tmp 2) = .slice ab nb cb := hA.at 2 (by kernel_rfl)
                have p7 : a.eval (.tmp 7) = .bool true := hA.at 7 (by kernel_rfl)
                exact step2_of (step_pure (wanted_none rfl) (.slice ab nb cb) (by simp [execOp, go_sem, tm p2]) rfl),
              by
                intro a W hA hB hd
                obtain ⟨q0, -⟩ := hd
                have h153 : a.eval (.tmp 153) = .slice ab nb cb := q0
                have hB := Lib.hid hB
                have p2 : a.eval (.tmp 2) = .slice ab nb cb := hA.at 2 (by kernel_rfl)
                have p7 : a.eval (.tmp 7) = .bool true := hA.at 7 (by kernel_rfl)
                exact step2_of (step_calls (wanted_none rfl) rfl (vals := #[.slice ab nb cb]) (by simp [h153]) (enters_of Tryz.func52 (by kernel_rfl) rfl) ((readW_all HO.out (HRB9.out.below hB.out)).mono fun e w' ⟨u, he, hf, hb⟩ => ⟨u, he, by rw [HZ1.out] at hf; exact hf, hb⟩)),
              by
                intro a W hA hB hd
                have hB := Lib.hid hB
                have p2 : a.eval (.tmp 2) = .slice ab nb cb := hA.at 2 (by kernel_rfl)
                have p7 : a.eval (.tmp 7) = .bool true := hA.at 7 (by kernel_rfl)
                exact step2_of (step_pure (wanted_none rfl) (.slice ab nb cb) (by simp [execOp, go_sem, tm p2]) rfl),
              by
                intro a W hA hB hd
                obtain ⟨q0, q1, -⟩ := hd
                have h155 : a.eval (.tmp 155) = .slice ab nb cb := q0
                have h154 : (GotVF (nvV bs) (nrV bs) z1) (a.eval (.tmp 154)) W := q1
                have hB := Lib.hid hB
                have p2 : a.eval (.tmp 2) = .slice ab nb cb := hA.at 2 (by kernel_rfl)
                have p7 : a.eval (.tmp 7) = .bool true := hA.at 7 (by kernel_rfl)
                exact step2_of (step_calls (wanted_none rfl) rfl (vals := #[.slice ab nb cb]) (by simp [h155]) (enters_of Tryz.func53 (by kernel_rfl) rfl) ((rread_all HO.out (HRB9.out.below hB.out)).mono fun e w' ⟨u, he, hf, hb⟩ => ⟨u, he, by rw [HZ1.out] at hf; exact hf, hb⟩)),
              by
                intro a W hA hB hd
                obtain ⟨q0, q1, q2, -⟩ := hd
                have h154 : (GotVF (nvV bs) (nrV bs) z1) (a.eval (.tmp 154)) W := q0
                have h156 : (GotRF (nvV bs) (nrV bs) z1) (a.eval (.tmp 156)) W := q1
                have hB := Lib.hid hB
                have p2 : a.eval (.tmp 2) = .slice ab nb cb := hA.at 2 (by kernel_rfl)
                have p7 : a.eval (.tmp 7) = .bool true := hA.at 7 (by kernel_rfl)
                obtain ⟨aa, ma, ea, ra⟩ := h154
                obtain ⟨ac, mc, cc, ec, rc⟩ := h156
                exact step2_of (step_calls (wanted_none rfl) rfl (vals := #[encG (nvV bs) (.slice none 0 0) (.slice aa ma ma) z1, encG (nvV bs) (.slice none 0 0) (.slice ac mc cc) z1]) (by simp [ea, ec, encG]) (enters_of Tryz.func43 (by kernel_rfl) rfl) ((equalG_true (K1 := fun _ => True) (K3 := fun _ => True) (nvV bs) z1 (RdV.empty (a := none)) ra (RdV.empty (a := none)) rc (fun v hv => by cases hv)).mono fun e w' ⟨he, hb⟩ => ⟨_, he, rfl, hb⟩)),
              by
                intro a W hA hB hd
                obtain ⟨q0, q1, -⟩ := hd
                have h157 : a.eval (.tmp 157) = .bool true := q0
                have hB := Lib.hid hB
                have p2 : a.eval (.tmp 2) = .slice ab nb cb := hA.at 2 (by kernel_rfl)
                have p7 : a.eval (.tmp 7) = .bool true := hA.at 7 (by kernel_rfl)
                exact step2_of (step_pure (wanted_none rfl) (.bool true) (by simp [execOp, go_sem, tm h157]) rfl),
              by
                intro a W hA hB hd
                obtain ⟨q0, -⟩ := hd
                have h158 : a.eval (.tmp 158) = .bool true := q0
                have hB := Lib.hid hB
                have p2 : a.eval (.tmp 2) = .slice ab nb cb := hA.at 2 (by kernel_rfl)
                have p7 : a.eval (.tmp 7) = .bool true := hA.at 7 (by kernel_rfl)
                exact step2_of (step_pure ((wanted_guard rfl 158 rfl h158).trans rfl) (.slice ab nb cb) (by simp [execOp, go_sem, tm p2]) rfl),
              by
                intro a W hA hB hd
                obtain ⟨q0, q1, q2, -⟩ := hd
                have h159 : a.eval (.tmp 159) = .slice ab nb cb := q0
                have h158 : a.eval (.tmp 158) = .bool true := q1
                have hB := Lib.hid hB
                have p2 : a.eval (.tmp 2) = .slice ab nb cb := hA.at 2 (by kernel_rfl)
                have p7 : a.eval (.tmp 7) = .bool true := hA.at 7 (by kernel_rfl)
                exact step2_of (step_calls ((wanted_guard rfl 158 rfl h158).trans rfl) rfl (vals := #[.slice ab nb cb]) (by simp [h159]) (enters_of Tryz.func54 (by kernel_rfl) rfl) ((readListW_all HO.out (HRB9.out.below hB.out)).mono fun e w' ⟨u, he, hf, hb⟩ => ⟨u, he, by rw [HZ2.out] at hf; exact hf, hb⟩)),
              by
                intro a W hA hB hd
                obtain ⟨q0, -⟩ := hd
                have h158 : a.eval (.tmp 158) = .bool true := q0
                have hB := Lib.hid hB
                have p2 : a.eval (.tmp 2) = .slice ab nb cb := hA.at 2 (by kernel_rfl)
                have p7 : a.eval (.tmp 7) = .bool true := hA.at 7 (by kernel_rfl)
                exact step2_of (step_pure ((wanted_guard rfl 158 rfl h158).trans rfl) (.slice ab nb cb) (by simp [execOp, go_sem, tm p2]) rfl),
              by
                intro a W hA hB hd
                obtain ⟨q0, q1, q2, -⟩ := hd
                have h161 : a.eval (.tmp 161) = .slice ab nb cb := q0
                have h160 : (GotLF (nvL bs) (nrL bs) z2) (a.eval (.tmp 160)) W := q1
                have h158 : a.eval (.tmp 158) = .bool true := q2
                have hB := Lib.hid hB
                have p2 : a.eval (.tmp 2) = .slice ab nb cb := hA.at 2 (by kernel_rfl)
                have p7 : a.eval (.tmp 7) = .bool true := hA.at 7 (by kernel_rfl)
                exact step2_of (step_calls ((wanted_guard rfl 158 rfl h158).trans rfl) rfl (vals := #[.slice ab nb cb]) (by simp [h161]) (enters_of Tryz.func55 (by kernel_rfl) rfl) ((rreadList_all HO.out (HRB9.out.below hB.out)).mono fun e w' ⟨u, he, hf, hb⟩ => ⟨u, he, by rw [HZ2.out] at hf; exact hf, hb⟩)),
              by
                intro a W hA hB hd
                obtain ⟨q0, q1, q2, q3, -⟩ := hd
                have h160 : (GotLF (nvL bs) (nrL bs) z2) (a.eval (.tmp 160)) W := q0
                have h162 : (GotSF (nvL bs) (nrL bs) z2) (a.eval (.tmp 162)) W := q1
                have h158 : a.eval (.tmp 158) = .bool true := q3
                have hB := Lib.hid hB
                have p2 : a.eval (.tmp 2) = .slice ab nb cb := hA.at 2 (by kernel_rfl)
                have p7 : a.eval (.tmp 7) = .bool true := hA.at 7 (by kernel_rfl)
                obtain ⟨a1, n1, c1, aa, ma, ea, l1, ra⟩ := h160
                obtain ⟨a3, n3, c3, ac, mc, cc, ec, l3, rc⟩ := h162
                exact step2_of (step_calls ((wanted_guard rfl 158 rfl h158).trans rfl) rfl (vals := #[encG Vl.null (.slice a1 n1 c1) (.slice aa ma ma) z2, encG Vl.null (.slice a3 n3 c3) (.slice ac mc cc) z2]) (by simp [ea, ec, encG, Vl.null, bsOf]) (enters_of Tryz.func43 (by kernel_rfl) rfl) ((equalG_true Vl.null z2 l1 ra l3 rc HSL9.out).mono fun e w' ⟨he, hb⟩ => ⟨_, he, rfl, hb⟩)),
              by
                intro a W hA hB hd
                obtain ⟨q0, q1, -⟩ := hd
                have h158 : a.eval (.tmp 158) = .bool true := q0
                have h163 : a.eval (.tmp 163) = .bool true := q1
                have hB := Lib.hid hB
                have p2 : a.eval (.tmp 2) = .slice ab nb cb := hA.at 2 (by kernel_rfl)
                have p7 : a.eval (.tmp 7) = .bool true := hA.at 7 (by kernel_rfl)
                exact step2_of (step_pure (wanted_none rfl) (.bool true) (by simp [execOp, go_sem, tm h158, tm h163]) rfl),
              by
                intro a W hA hB hd
                obtain ⟨q0, q1, -⟩ := hd
                have h164 : a.eval (.tmp 164) = .bool true := q0
                have h163 : a.eval (.tmp 163) = .bool true := q1
                have hB := Lib.hid hB
                have p2 : a.eval (.tmp 2) = .slice ab nb cb := hA.at 2 (by kernel_rfl)
                have p7 : a.eval (.tmp 7) = .bool true := hA.at 7 (by kernel_rfl)
                exact step2_of (step_pure (wanted_none rfl) (.bool true) (by simp [execOp, go_sem, tm h164]) rfl),
              by
                intro a W hA hB hd
                obtain ⟨q0, -⟩ := hd
                have h165 : a.eval (.tmp 165) = .bool true := q0
                have hB := Lib.hid hB
                have p2 : a.eval (.tmp 2) = .slice ab nb cb := hA.at 2 (by kernel_rfl)
                have p7 : a.eval (.tmp 7) = .bool true := hA.at 7 (by kernel_rfl)
                exact step2_of (step_pure ((wanted_guard rfl 165 rfl h165).trans rfl) (.slice ab nb cb) (by simp [execOp, go_sem, tm p2]) rfl),
              by
                intro a W hA hB hd
                obtain ⟨q0, q1, -⟩ := hd
                have h166 : a.eval (.tmp 166) = .slice ab nb cb := q0
                have h165 : a.eval (.tmp 165) = .bool true := q1
                have hB := Lib.hid hB
                have p2 : a.eval (.tmp 2) = .slice ab nb cb := hA.at 2 (by kernel_rfl)
                have p7 : a.eval (.tmp 7) = .bool true := hA.at 7 (by kernel_rfl)
                have hcv := conv_back (HRB9.out.below hB.out) W rfl
                rw [HST9.out] at hcv
                exact step2_of (step_pure ((wanted_guard rfl 165 rfl h165).trans rfl) (.string (bsOf st)) (by simp [execOp, h166, hcv]) rfl),
              by
                intro a W hA hB hd
                obtain ⟨q0, q1, q2, -⟩ := hd
                have h167 : a.eval (.tmp 167) = .string (bsOf st) := q0
                have h165 : a.eval (.tmp 165) = .bool true := q1
                have hB := Lib.hid hB
                have p2 : a.eval (.tmp 2) = .slice ab nb cb := hA.at 2 (by kernel_rfl)
                have p7 : a.eval (.tmp 7) = .bool true := hA.at 7 (by kernel_rfl)
                exact step2_of (step_calls ((wanted_guard rfl 165 rfl h165).trans rfl) rfl (vals := #[.string (bsOf st)]) (by simp [h167]) (enters_of Tryz.func44 (by kernel_rfl) rfl) ((HPW.out W (HV9.out.below hB.out)).mono fun e w' ⟨he, hb⟩ => ⟨_, he, rfl, hb⟩)),
              by
                intro a W hA hB hd
                obtain ⟨q0, -⟩ := hd
                have h165 : a.eval (.tmp 165) = .bool true := q0
                have hB := Lib.hid hB
                have p2 : a.eval (.tmp 2) = .slice ab nb cb := hA.at 2 (by kernel_rfl)
                have p7 : a.eval (.tmp 7) = .bool true := hA.at 7 (by kernel_rfl)
                exact step2_of (step_pure ((wanted_guard rfl 165 rfl h165).trans rfl) (.slice ab nb cb) (by simp [execOp, go_sem, tm p2]) rfl),
              by
                intro a W hA hB hd
                obtain ⟨q0, q1, -⟩ := hd
                have h169 : a.eval (.tmp 169) = .slice ab nb cb := q0
                have h165 : a.eval (.tmp 165) = .bool true := q1
                have hB := Lib.hid hB
                have p2 : a.eval (.tmp 2) = .slice ab nb cb := hA.at 2 (by kernel_rfl)
                have p7 : a.eval (.tmp 7) = .bool true := hA.at 7 (by kernel_rfl)
                have hcv := conv_back (HRB9.out.below hB.out) W rfl
                rw [HST9.out] at hcv
                exact step2_of (step_pure ((wanted_guard rfl 165 rfl h165).trans rfl) (.string (bsOf st)) (by simp [execOp, h169, hcv]) rfl),
              by
                intro a W hA hB hd
                obtain ⟨q0, q1, q2, -⟩ := hd
                have h170 : a.eval (.tmp 170) = .string (bsOf st) := q0
                have h168 : a.eval (.tmp 168) = encG pv.1 (.slice none 0 0) (.slice none 0 0) pv.2 := q1
                have h165 : a.eval (.tmp 165) = .bool true := q2
                have hB := Lib.hid hB
                have p2 : a.eval (.tmp 2) = .slice ab nb cb := hA.at 2 (by kernel_rfl)
                have p7 : a.eval (.tmp 7) = .bool true := hA.at 7 (by kernel_rfl)
                exact step2_of (step_calls ((wanted_guard rfl 165 rfl h165).trans rfl) rfl (vals := #[.string (bsOf st)]) (by simp [h170]) (enters_of Tryz.func45 (by kernel_rfl) rfl) ((HPR.out W).mono fun e w' ⟨he, hb⟩ => ⟨_, he, rfl, hb⟩)),
              by
                intro a W hA hB hd
                obtain ⟨q0, q1, q2, q3, -⟩ := hd
                have h168 : a.eval (.tmp 168) = encG pv.1 (.slice none 0 0) (.slice none 0 0) pv.2 := q0
                have h171 : a.eval (.tmp 171) = encG pv.1 (.slice none 0 0) (.slice none 0 0) pv.2 := q1
                have h165 : a.eval (.tmp 165) = .bool true := q3
                have hB := Lib.hid hB
                have p2 : a.eval (.tmp 2) = .slice ab nb cb := hA.at 2 (by kernel_rfl)
                have p7 : a.eval (.tmp 7) = .bool true := hA.at 7 (by kernel_rfl)
                exact step2_of (step_calls ((wanted_guard rfl 165 rfl h165).trans rfl) rfl (vals := #[encG pv.1 (.slice none 0 0) (.slice none 0 0) pv.2, encG pv.1 (.slice none 0 0) (.slice none 0 0) pv.2]) (by simp [h168, h171]) (enters_of Tryz.func43 (by kernel_rfl) rfl) ((equalG_true (K1 := fun _ => True) (K2 := fun _ => True) (K3 := fun _ => True) (K4 := fun _ => True) pv.1 pv.2 (RdV.empty (a := none)) (Rd.empty (a := none)) (RdV.empty (a := none)) (Rd.empty (a := none)) (fun v hv => by cases hv)).mono fun e w' ⟨he, hb⟩ => ⟨_, he, rfl, hb⟩)),
              by
                intro a W hA hB hd
                obtain ⟨q0, q1, -⟩ := hd
                have h165 : a.eval (.tmp 165) = .bool true := q0
                have h172 : a.eval (.tmp 172) = .bool true := q1
                have hB := Lib.hid hB
                have p2 : a.eval (.tmp 2) = .slice ab nb cb := hA.at 2 (by kernel_rfl)
                have p7 : a.eval (.tmp 7) = .bool true := hA.at 7 (by kernel_rfl)
                exact step2_of (step_pure (wanted_none rfl) (.bool true) (by simp [execOp, go_sem, tm h165, tm h172]) rfl),
              by
                intro a W hA hB hd
                obtain ⟨q0, q1, -⟩ := hd
                have h173 : a.eval (.tmp 173) = .bool true := q0
                have h172 : a.eval (.tmp 172) = .bool true := q1
                have hB := Lib.hid hB
                have p2 : a.eval (.tmp 2) = .slice ab nb cb := hA.at 2 (by kernel_rfl)
                have p7 : a.eval (.tmp 7) = .bool true := hA.at 7 (by kernel_rfl)
                exact step2_of (step_pure (wanted_none rfl) (.bool true) (by simp [execOp, go_sem, tm h173]) rfl),
              by
                intro a W hA hB hd
                obtain ⟨q0, -⟩ := hd
                have h174 : a.eval (.tmp 174) = .bool true := q0
                have hB := Lib.hid hB
                have p2 : a.eval (.tmp 2) = .slice ab nb cb := hA.at 2 (by kernel_rfl)
                have p7 : a.eval (.tmp 7) = .bool true := hA.at 7 (by kernel_rfl)
                exact step2_of (step_pure ((wanted_guard rfl 174 rfl h174).trans rfl) (.bool true) (by simp [execOp, go_sem, tm p7]) rfl),
              by
                intro a W hA hB hd
                obtain ⟨q0, q1, -⟩ := hd
                have h174 : a.eval (.tmp 174) = .bool true := q0
                have h175 : a.eval (.tmp 175) = .bool true := q1
                have hB := Lib.hid hB
                have p2 : a.eval (.tmp 2) = .slice ab nb cb := hA.at 2 (by kernel_rfl)
                have p7 : a.eval (.tmp 7) = .bool true := hA.at 7 (by kernel_rfl)
                exact step2_of (step_pure (wanted_none rfl) (.bool true) (by simp [execOp, go_sem, tm h174, tm h175]) rfl),
              by
                intro a W hA hB hd
                obtain ⟨q0, -⟩ := hd
                have h176 : a.eval (.tmp 176) = .bool true := q0
                have hB := Lib.hid hB
                have p2 : a.eval (.tmp 2) = .slice ab nb cb := hA.at 2 (by kernel_rfl)
                have p7 : a.eval (.tmp 7) = .bool true := hA.at 7 (by kernel_rfl)
                exact step2_of (step_pure (wanted_none rfl) (.bool true) (by simp [execOp, go_sem, tm h176]) rfl), trivial⟩
          · intro ax W hA hB hE
            have h6 : ax.eval (.tmp 6) = .bool true := hE.2.2.2.2.2.2.2.2.2.2.2.2.2.2.2.2.2.2.2.2.2.2.2.2.1
            have hp := hA.puts [153, 154, 155, 156, 157, 158, 159, 160, 161, 162, 163, 164, 165, 166, 167, 168, 169, 170, 171, 172, 173, 174, 175, 176, 6] (by kernel_rfl)
            clear hA hE
            simp only [putAll, h6] at hp
            clear h6
            generalize ax.eval = ev at hp
            subst hp
            have HBX := Lib.hid (HB19.out.trans (hB.mono HB19.out.size))
            clear hB HB19 HRB9 HV9 HPW HPR
            simp [Act.put]
            go_wp2
            go_ret
            exact ⟨rfl, HBX.out⟩

end Go.Proofs.YtocnkjnlmciojaaGreatDoor.valueMatches
