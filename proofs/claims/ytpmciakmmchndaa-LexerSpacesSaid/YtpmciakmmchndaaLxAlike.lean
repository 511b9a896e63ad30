/-
  Tokens that are equal but for their offsets; spellings with white space ahead of, between and behind them.
-/
import Derived.Test.YtpmciakmmchndaaLxWrap
import Derived.Test.YtpmciakmmchndaaLxRun
namespace Go.Proofs.Ytpmciakmmchndaa.Lx
open Go Go.RowKit Go.Shelf Go.Sort Go.ChangeShapes Go.WideShapes Go.ChangeAt
open Go.Proofs.Ytpmciakmmchndaa

def alk (ts : List Tk) : List (Int × List UInt8) := ts.map fun t => (t.k, t.s)
theorem alk_append (a b : List Tk) : alk (a ++ b) = alk a ++ alk b := by unfold alk; exact List.map_append
theorem alk_len (a : List Tk) : (alk a).length = a.length := by unfold alk; exact List.length_map _
theorem alk_at {a : List Tk} {k : Nat} (h : k < a.length) : (alk a)[k]? = some ((a[k]?.getD Tk.null).k, (a[k]?.getD Tk.null).s) := by
  unfold alk
  rw [List.getElem?_map, List.getElem?_eq_getElem h]; rfl
theorem alk_eq {x y : List Tk} (hl : x.length = y.length) (h : ∀ j, j < x.length → (x[j]?.getD Tk.null).k = (y[j]?.getD Tk.null).k ∧ (x[j]?.getD Tk.null).s = (y[j]?.getD Tk.null).s) : alk x = alk y := by
  refine List.ext_getElem? fun i => ?_
  by_cases hi : i < x.length
  · rw [alk_at hi, alk_at (by omega), (h i hi).1, (h i hi).2]
  · rw [List.getElem?_eq_none (by rw [alk_len]; omega), List.getElem?_eq_none (by rw [alk_len]; omega)]
theorem alk_ne {x y : List Tk} {k : Nat} (h : k < x.length) (hl : x.length = y.length) (hne : ¬ ((x[k]?.getD Tk.null).k = (y[k]?.getD Tk.null).k ∧ (x[k]?.getD Tk.null).s = (y[k]?.getD Tk.null).s)) : alk x ≠ alk y := fun e => by
  have h1 := alk_at (a := x) h
  have h2 := alk_at (a := y) (k := k) (by omega)
  rw [e, h2] at h1
  have := Option.some.inj h1
  exact hne ⟨(congrArg Prod.fst this).symm, (congrArg Prod.snd this).symm⟩
theorem spells_alk : ∀ {a b : List Tk}, alk a = alk b → spellsS a = spellsS b
  | [], [], _ => rfl
  | [], _ :: _, h => by cases h
  | _ :: _, [], h => by cases h
  | x :: a, y :: b, h => by
    have h : (x.k, x.s) :: alk a = (y.k, y.s) :: alk b := h
    obtain ⟨h1, h2⟩ := List.cons.inj h
    have ih := spells_alk h2
    have e1 : x.k = y.k := congrArg Prod.fst h1
    have e2 : x.s = y.s := congrArg Prod.snd h1
    rw [show x :: a = [x] ++ a from rfl, show y :: b = [y] ++ b from rfl, spells_append, spells_append, ih]
    congr 1
    cases hv : vld x.k x.s
    · rw [spells_no hv, spells_no (by rw [← e1, ← e2]; exact hv)]
    · rw [spells_yes hv, spells_yes (by rw [← e1, ← e2]; exact hv), e1, e2]
theorem joinS_alk {a b : List Tk} (h : alk a = alk b) : joinS a = joinS b := by unfold joinS; rw [spells_alk h]
theorem wide_alk {a b : List Tk} (h : alk a = alk b) (hb : ∀ t ∈ b, t.s.length ≤ 1048576) : ∀ t ∈ a, t.s.length ≤ 1048576 := by
  intro t ht
  have h1 : (t.k, t.s) ∈ alk a := List.mem_map.2 ⟨t, ht, rfl⟩
  rw [h] at h1
  obtain ⟨u, hu, e⟩ := List.mem_map.1 h1
  rw [← show u.s = t.s from congrArg Prod.snd e]
  exact hb u hu

set_option maxRecDepth 100000 in
set_option maxHeartbeats 4000000 in
theorem alike_any {a1 a2 : Option Addr} {n1 c1 n2 c2 : Nat} {x y : List Tk} {w : World} (h1 : RdK w a1 n1 c1 x) (h2 : RdK w a2 n2 c2 y) :
    Calls Try.prog 26 #[.slice a1 n1 c1, .slice a2 n2 c2] w fun e V => e = .returned (.bool (decide (alk x = alk y))) ∧ Below w.heap.size w V := by
  have H1 := Lib.hid h1
  have H2 := Lib.hid h2
  have hs1 := h1.small
  have hs2 := h2.small
  have hf1 := h1.fit
  have hf2 := h2.fit
  have ht1 := h1.top
  have ht2 := h2.top
  clear h1 h2
  obtain ⟨z, hz⟩ : ∃ z, decide (alk x = alk y) = z := ⟨_, rfl⟩
  have HZ := Lib.hid hz
  rw [hz]
  clear hz
  by_cases hn : n1 = n2
  · subst hn
    go_enter Try.func26, Try.ntmps26
    go_wp2
    go_loopw [5] (fun i wr => ∃ k : Nat, k ≤ n1 ∧ i = .int .i64 k ∧ Hid ((∀ j, j < k → (x[j]?.getD Tk.null).k = (y[j]?.getD Tk.null).k ∧ (x[j]?.getD Tk.null).s = (y[j]?.getD Tk.null).s) ∧ Below w.heap.size w wr)) (fun i _ => n1 - (intOf i).toNat)
    case atStart => exact ⟨0, Nat.zero_le _, rfl, fun j h => by omega, Below.self _⟩
    case round =>
      obtain ⟨k, hk, rfl, HI⟩ := hrel
      by_cases hlt : k < n1
      · obtain ⟨b1, o1, rfl, hl1, hc1⟩ := H1.out.cells (by omega)
        obtain ⟨b2, o2, rfl, hl2, hc2⟩ := H2.out.cells (by omega)
        obtain ⟨p0, p1, p2⟩ := hc1 k hlt
        obtain ⟨q0, q1, q2⟩ := hc2 k hlt
        have HE := Lib.hid (fun (e : (x[k]?.getD Tk.null).k = (y[k]?.getD Tk.null).k ∧ (x[k]?.getD Tk.null).s = (y[k]?.getD Tk.null).s) (j : Nat) (hj : j < k + 1) => show (x[j]?.getD Tk.null).k = (y[j]?.getD Tk.null).k ∧ (x[j]?.getD Tk.null).s = (y[j]?.getD Tk.null).s from by
          by_cases h : j = k
          · rw [h]; exact e
          · exact HI.out.1 j (by omega))
        have HN := Lib.hid (fun (e : ¬ ((x[k]?.getD Tk.null).k = (y[k]?.getD Tk.null).k ∧ (x[k]?.getD Tk.null).s = (y[k]?.getD Tk.null).s)) => show z = false from by
          rw [← HZ.out]; exact decide_eq_false (alk_ne (by rw [← H1.out.hl]; exact hlt) (by rw [← H1.out.hl, ← H2.out.hl]) e))
        generalize x[k]?.getD Tk.null = u at *
        generalize y[k]?.getD Tk.null = v at *
        obtain ⟨uk, us, ua⟩ := u
        obtain ⟨vk, vs, va⟩ := v
        dsimp only at p0 p1 p2 q0 q1 q2 HE HN
        have d0 := (HI.out.2.cell (p := ⟨b1, o1 + k * 3, none⟩) hl1).trans p0
        have d1 := (HI.out.2.cell (p := ⟨b1, o1 + k * 3 + 1, none⟩) hl1).trans p1
        have g0 := (HI.out.2.cell (p := ⟨b2, o2 + k * 3, none⟩) hl2).trans q0
        have g1 := (HI.out.2.cell (p := ⟨b2, o2 + k * 3 + 1, none⟩) hl2).trans q1
        clear p0 p1 p2 q0 q1 q2 hc1 hc2
        have hse := bs_same us vs
        have hsn : ((bsOf us).toList != (bsOf vs).toList) = !decide (us = vs) := by unfold bne; rw [hse]
        have K0 := fun d os => cell_regrown d0 d os
        have K1 := fun d os => cell_regrown d1 d os
        have K3 := fun d os => cell_regrown g0 d os
        have K4 := fun d os => cell_regrown g1 d os
        by_cases e0 : uk = vk
        · subst e0
          have hk0 : (uk == uk) = true := by simp
          have hk1 : (uk != uk) = false := by simp
          by_cases e1 : us = vs
          · subst e1
            rw [decide_eq_true rfl] at hse hsn
            generalize bsOf us = U at *
            go_upto_region 6 with fail
            refine wp_region_quiet_below (by kernel_rfl) (by kernel_rfl) ?_
            repeat (go_big_quiet_step (fail))
            refine wpQuiet_nil ?_
            intro _ hw'
            obtain ⟨⟨dq, osq⟩, hw''⟩ := hw'
            subst hw''
            have HBQ : Hid (Below wr.heap.size wr (grow (redrawn wr dq) osq)) := below_regrown wr dq osq
            generalize grow (redrawn wr dq) osq = WQ at *
            have HBX : Hid (Below w.heap.size w WQ) := HI.out.2.trans (HBQ.out.mono HI.out.2.size)
            clear K0 K1 K3 K4 d0 d1 g0 g1 hse hsn
            go_wp2
            go_roundw
            case rel => exact ⟨k + 1, by omega, by go_num, HE.out ⟨rfl, rfl⟩, HBX.out⟩
            case measure => simp [intOf]; omega
          · have HF := Lib.hid (HN.out (fun e => e1 e.2))
            rw [decide_eq_false e1] at hse hsn
            clear e1
            generalize bsOf us = U at *
            generalize bsOf vs = U2 at *
            go_upto_region 6 with fail
            refine wp_region_quiet_below (by kernel_rfl) (by kernel_rfl) ?_
            repeat (go_big_quiet_step (fail))
            refine wpQuiet_nil ?_
            intro _ hw'
            obtain ⟨⟨dq, osq⟩, hw''⟩ := hw'
            subst hw''
            have HBQ : Hid (Below wr.heap.size wr (grow (redrawn wr dq) osq)) := below_regrown wr dq osq
            generalize grow (redrawn wr dq) osq = WQ at *
            have HBX : Hid (Below w.heap.size w WQ) := HI.out.2.trans (HBQ.out.mono HI.out.2.size)
            clear K0 K1 K3 K4 d0 d1 g0 g1 hse hsn
            go_wp2
            go_ret
            exact ⟨ret_b HF.out.symm, HBX.out⟩
        · have HF := Lib.hid (HN.out (fun e => e0 e.1))
          have e0b : (uk == vk) = false := beq_false_of_ne e0
          have e0c : (uk != vk) = true := by rw [bne_iff_ne]; exact e0
          clear e0 hse hsn
          generalize bsOf us = U at *
          generalize bsOf vs = U2 at *
          go_upto_region 6 with fail
          refine wp_region_quiet_below (by kernel_rfl) (by kernel_rfl) ?_
          repeat (go_big_quiet_step (fail))
          refine wpQuiet_nil ?_
          intro _ hw'
          obtain ⟨⟨dq, osq⟩, hw''⟩ := hw'
          subst hw''
          have HBQ : Hid (Below wr.heap.size wr (grow (redrawn wr dq) osq)) := below_regrown wr dq osq
          generalize grow (redrawn wr dq) osq = WQ at *
          have HBX : Hid (Below w.heap.size w WQ) := HI.out.2.trans (HBQ.out.mono HI.out.2.size)
          clear K0 K1 K3 K4 d0 d1 g0 g1
          go_wp2
          go_ret
          exact ⟨ret_b HF.out.symm, HBX.out⟩
      · obtain rfl : k = n1 := by omega
        have HF : Hid (z = true) := by
          have h1 := H1.out.hl
          have h2 := H2.out.hl
          show _ = _
          rw [← HZ.out]
          exact decide_eq_true (alk_eq (by omega) (fun j hj => HI.out.1 j (by omega)))
        go_wp2
        go_ret
        exact ⟨ret_b HF.out.symm, HI.out.2⟩
  · have HF : Hid (z = false) := by
      show _ = _
      rw [← HZ.out]
      exact decide_eq_false fun e => hn (by rw [H1.out.hl, H2.out.hl, ← alk_len, e, alk_len])
    have hn2 : ((n1 : Int) == (n2 : Int)) = false := beq_false_of_ne (by omega)
    have hn3 : ((n1 : Int) != (n2 : Int)) = true := by rw [bne_iff_ne]; omega
    go_enter Try.func26, Try.ntmps26
    go_wp2
    go_ret
    exact ⟨ret_b HF.out.symm, Below.self _⟩

/-! ### Spellings with white space in between -/

/-- It ends outside of a comment. -/
def Closed (x : List UInt8) : Prop := ∀ r, ws (x ++ r) = x.length + ws r
theorem closed_nil : Closed [] := fun r => by simp
theorem closed_append {x y : List UInt8} (hx : Closed x) (hy : Closed y) : Closed (x ++ y) := fun r => by
  rw [List.append_assoc, hx, hy, List.length_append]; omega
theorem y_closed {x : List UInt8} (hx : Closed x) (r : List UInt8) (o : Nat) : lxY (x ++ r) o = lxY r (o + x.length) := by
  unfold lxY
  rw [hx, show (x ++ r).drop (x.length + ws r) = r.drop (ws r) by rw [← List.drop_drop, List.drop_left], show o + (x.length + ws r) = o + x.length + ws r by omega]
theorem spl_head {k : Int} {s : List UInt8} (h : vld k s = true) : blB (hd (spl k s)) = false ∧ (hd (spl k s)).toNat ≠ 35 := by
  have key : ∀ b : UInt8, (letB b = true ∨ digB b = true) → blB b = false ∧ b.toNat ≠ 35 := fun b hb => by
    rcases hb with hb | hb
    · have := let_nat hb
      exact ⟨by unfold blB; rw [decide_eq_false (by omega), decide_eq_false (by omega), decide_eq_false (by omega)]; rfl, by omega⟩
    · have := dig_nat hb
      exact ⟨by unfold blB; rw [decide_eq_false (by omega), decide_eq_false (by omega), decide_eq_false (by omega)]; rfl, by omega⟩
  by_cases h1 : k = 1
  · subst h1
    rw [spl_k h (by decide)]
    have hv : wordB s = true := h
    unfold wordB at hv
    simp only [Bool.and_eq_true] at hv
    exact key _ (.inl hv.1.2)
  · by_cases h2 : k = 2
    · subst h2
      rw [spl_k h (by decide)]
      refine key _ (.inr ?_)
      rcases num_forms (show numB s = true from h) with hf | ⟨W, P, rfl, hW, _⟩
      · obtain ⟨hne, hall⟩ := areD_iff hf
        exact List.all_eq_true.1 hall _ (hd_mem hne)
      · obtain ⟨hne, hall⟩ := areD_iff hW
        rw [hd_append _ hne]
        exact List.all_eq_true.1 hall _ (hd_mem hne)
    · by_cases h3 : k = 3
      · subst h3
        rw [spl_3 h, hd_cons]
        exact ⟨by decide, by decide⟩
      · by_cases h4 : k = 4
        · subst h4
          rw [spl_k h (by decide)]
          rcases mem_signs (show signB s = true from h) with rfl | rfl | rfl | rfl | rfl | rfl | rfl | rfl | rfl | rfl | rfl | rfl <;> exact ⟨by decide, by decide⟩
        · rw [vld_9 s h1 h2 h3 h4] at h; cases h
theorem y_tok {k : Int} {s : List UInt8} (r : List UInt8) (o : Nat) (hv : vld k s = true) (hm : mun k s r = true) : lxY (spl k s ++ r) o = comb [⟨k, s, o⟩] (lxY r (o + (spl k s).length)) := by
  have hne := spl_ne hv
  have hh := spl_head hv
  have hw : ws (spl k s ++ r) = 0 := ws_other (by rw [hd_append r hne]; exact hh.1) (by rw [hd_append r hne]; exact hh.2)
  have e : lxY (spl k s ++ r) o = lxX (spl k s ++ r) o := by unfold lxY; rw [hw]; rfl
  rw [e, x_good o (fun e => hne (List.append_eq_nil_iff.1 e).1) (back r hv hm) (back_ok r hv hm), List.drop_left]
/-- What may stand between tokens. -/
structure Gap (x : List UInt8) : Prop where
  closed : Closed x
  ne : x ≠ []
  ld : ldB (hd x) = false
  pt : ptB (hd x) = false
  eq : hd x ≠ 61
theorem Gap.mun {x : List UInt8} (h : Gap x) (k : Int) (s r : List UInt8) : mun k s (x ++ r) = true := by
  refine mun_of s ?_ ?_ ?_ <;> rw [hd_append r h.ne]
  · exact h.ld
  · exact h.pt
  · exact h.eq
theorem Gap.more {x y : List UInt8} (h : Gap x) (hy : Closed y) : Gap (x ++ y) :=
  ⟨closed_append h.closed hy, fun e => h.ne (List.append_eq_nil_iff.1 e).1, by rw [hd_append y h.ne]; exact h.ld, by rw [hd_append y h.ne]; exact h.pt, by rw [hd_append y h.ne]; exact h.eq⟩
theorem gap_blank : Gap [32] := ⟨fun r => by show wsN false (32 :: r) = _; rw [wsN, if_pos (by decide)]; rfl, by decide, by decide, by decide, by decide⟩

/-- Tokens with gaps behind them. -/
def spaced : List (Tk × List UInt8) → List UInt8
  | [] => []
  | p :: r => spl p.1.k p.1.s ++ (p.2 ++ spaced r)
theorem y_spaced : ∀ (l : List (Tk × List UInt8)) (o : Nat), (∀ p ∈ l, vld p.1.k p.1.s = true ∧ Closed p.2 ∧ (Gap p.2 ∨ p.2 = [])) → (∀ (a b : List (Tk × List UInt8)) (p : Tk × List UInt8), l = a ++ p :: b → p.2 = [] → b = []) →
    (lxY (spaced l) o).2.2 = true ∧ alk (lxY (spaced l) o).1 = l.map fun p => (p.1.k, p.1.s)
  | [], o, _, _ => by
    have e : lxY (spaced []) o = ([], 0, true) := x_nil _
    rw [e]; exact ⟨rfl, rfl⟩
  | p :: r, o, h, hl => by
    obtain ⟨hv, hc, hg⟩ := h p (List.mem_cons_self ..)
    have hm : mun p.1.k p.1.s (p.2 ++ spaced r) = true := by
      rcases hg with hg | hg
      · exact hg.mun _ _ _
      · have := hl [] r p rfl hg
        rw [this, hg]; exact mun_nil _
    have ih := y_spaced r (o + (spl p.1.k p.1.s).length + p.2.length) (fun q hq => h q (List.mem_cons_of_mem _ hq)) (fun a b q e => hl (p :: a) b q (by rw [e]; rfl))
    have e : lxY (spaced (p :: r)) o = comb [⟨p.1.k, p.1.s, o⟩] (lxY (spaced r) (o + (spl p.1.k p.1.s).length + p.2.length)) := by
      show lxY (spl p.1.k p.1.s ++ (p.2 ++ spaced r)) o = _
      rw [y_tok _ o hv hm, y_closed hc]
    rw [e, comb_ok]
    refine ⟨ih.1, ?_⟩
    rw [comb_yes _ ih.1]
    show alk ([(⟨p.1.k, p.1.s, o⟩ : Tk)] ++ (lxY (spaced r) _).1) = _
    rw [alk_append, ih.2]; rfl

end Go.Proofs.Ytpmciakmmchndaa.Lx
