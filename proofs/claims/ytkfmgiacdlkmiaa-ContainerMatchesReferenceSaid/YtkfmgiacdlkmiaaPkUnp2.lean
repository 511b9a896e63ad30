/-
  What is read of a packed form: its elements.
-/
import Derived.Test.YtkfmgiacdlkmiaaPkUnpack
namespace Go.Proofs.Ytkfmgiacdlkmiaa
open Go.RowKit Go.Shelf Go.ChangeShapes Go.WideShapes Go.ChangeAt

def zerosB (l : List Int) : Bool := l.all (· == 0)
theorem zerosB_iff (l : List Int) (m : Nat) : zerosB (l.drop m) = true ↔ ∀ j, m ≤ j → j < l.length → l[j]?.getD 0 = 0 := by
  unfold zerosB
  rw [List.all_eq_true]
  constructor
  · intro h j h1 h2
    have : l[j] ∈ l.drop m := by
      rw [List.mem_iff_getElem]
      exact ⟨j - m, by rw [List.length_drop]; omega, by rw [List.getElem_drop]; congr 1; omega⟩
    rw [List.getElem?_eq_getElem h2, Option.getD_some]
    simpa using h _ this
  · intro h x hx
    obtain ⟨i, hi, rfl⟩ := List.mem_iff_getElem.1 hx
    rw [List.length_drop] at hi
    have := h (m + i) (by omega) (by omega)
    rw [List.getElem?_eq_getElem (by omega), Option.getD_some] at this
    rw [List.getElem_drop, this]; rfl

/-- The bits of the bytes that n differences of width wd take. -/
def upBits (wd n : Nat) (bs : List Int) : List Int := allBits 8 (bs.take ((n * wd + 7) / 8))
def upList (b : Int) (wd n : Nat) (bs : List Int) : List Int := elB b (upBits wd n bs) wd (upBits wd n bs).length n
/-- Does the frame tell that the elements are well packed? -/
def upOk (b : Int) (wd n : Nat) (bs : List Int) : Bool := zerosB ((upBits wd n bs).drop (n * wd)) && (minS (upList b wd n bs) == b && widthS (upList b wd n bs) == wd)
/-- The list, how many bytes it took, the error. -/
def upS (b : Int) (wd n : Nat) (bs : List Int) : List Int × Nat × Int :=
  if bs.length < (n * wd + 7) / 8 then ([], 0, 7) else if upOk b wd n bs then (upList b wd n bs, (n * wd + 7) / 8, 0) else ([], 0, 5)

theorem allBits_bin (w : Nat) (l : List Int) : Bin (allBits w l) := by
  intro x hx
  unfold allBits at hx
  obtain ⟨d, _, hx⟩ := List.mem_flatMap.1 hx
  unfold bitsN at hx
  obtain ⟨p, _, rfl⟩ := List.mem_map.1 hx
  generalize d / 2 ^ p = y
  omega

theorem elements_bits {K : Nat → Prop} {a : Option Addr} {len cap : Nat} {bs : List Int} (ho : Oct bs) {w : World} (hR : Rd K w .u8 a len cap bs) (S : Nat) (b : Int) (hb : I64 b) (wd n : Nat) (hwd : wd ≤ 64) (hn1 : 1 ≤ n) (hn : n ≤ 1099511627776) (h0w : wd = 0 → bs = [])
    (hB : Boxed w S 23 (.slice a len cap)) :
    Calls Try.prog 88 #[.agg #[.int .i64 b, .int .i64 wd], .int .i64 n, .func (.func 91) #[] #[.pointer (some ⟨S, 0, none⟩)]] w (ElemsPost w b wd n (allBits 8 bs)) := by
  have := elements_in 8 (by decide) 91 #[.pointer (some ⟨S, 0, none⟩)] (enters_of Try.func91 (by kernel_rfl) rfl) b hb wd n hwd hn1 hn (allBits 8 bs) (allBits_bin 8 bs) (fun h => by rw [h0w h]; rfl) w (fun w' hw' => by
      have hR' := hR.below hw'
      have hB' : Boxed w' S 23 (.slice a len cap) := (hw'.block _ hB.lt).trans hB
      refine bitsOf_gives 7 (by decide) S _ a len cap bs ho w' hB'.lt hB'.cell ?_
      refine ⟨hR'.hl, hR'.fit, hR'.top, hR'.small, fun h0 => ?_⟩
      obtain ⟨b, off, e, hb, hlt, hc⟩ := hR.cells h0
      obtain ⟨b', off', e', _, hlt', hc'⟩ := hR'.cells h0
      exact ⟨b, off, e, hlt, by have := hw'.size; omega, fun j hj => by rw [e] at e'; cases e'; exact hc' j hj⟩)
  exact callsIn_wide.1 this

theorem elements_good {w : World} {b : Int} {wd n : Nat} {bl : List Int} {args : Array Value} (h : Calls Try.prog 88 args w (ElemsPost w b wd n bl)) (hz : zerosB (bl.drop (n * wd)) = true) :
    Calls Try.prog 88 args w fun e V => e = .returned (.tuple #[.slice (some ⟨w.heap.size + 5, 0, none⟩) n n, .bool true]) ∧ (V.ownsRow (w.heap.size + 5) 3 1 (.slice (some ⟨w.heap.size + 5, 0, none⟩) n n) n ((elB b bl wd bl.length n).map (Value.int .i64)) ∧ Below w.heap.size w V) :=
  h.mono fun e V ⟨hb, hp⟩ => by
    rcases hp with ⟨_, he, hr⟩ | ⟨⟨j, h1, h2, h3⟩, _⟩
    · exact ⟨he, hr, hb⟩
    · exact absurd ((zerosB_iff bl (n * wd)).1 hz j h1 h2) h3
theorem elements_bad {w : World} {b : Int} {wd n : Nat} {bl : List Int} {args : Array Value} (h : Calls Try.prog 88 args w (ElemsPost w b wd n bl)) (hz : zerosB (bl.drop (n * wd)) = false) :
    Calls Try.prog 88 args w fun e V => e = .returned (.tuple #[.slice none 0 0, .bool false]) ∧ Below w.heap.size w V :=
  h.mono fun e V ⟨hb, hp⟩ => by
    rcases hp with ⟨hall, he, hr⟩ | ⟨_, he⟩
    · have := (zerosB_iff bl (n * wd)).2 hall
      rw [hz] at this; cases this
    · exact ⟨he, hb⟩

/-- A call that is wanted, whose contract is known, as a step of a region that draws its order. -/
theorem step_call_want {P : Program} {ops : Array Oper} {o : Oper} {a : Act} {w : World} {K : Act → World → Prop} {Q : Exit → Act → World → Prop} {E : Prop} (hw : Region.wanted o (yielded ops a.tmps) = true) (f : FuncId) (args : Array Operand) (ts : Array TypeId)
    (ho : o.op = .call { callee := .value (.func f), args := args, argTypes := ts }) (vals : Array Value) (hs : args.map a.eval = vals) (eg : (callFunc f vals).run P w = .ok (.enter f vals) w)
    (v : Value) (R : World → Prop) (hc : Calls P f vals w fun e w' => e = .returned v ∧ R w') (hK : ∀ w', R w' → K (a.put o.dst v) w') : if Region.wanted o (yielded ops a.tmps) = true then Oper.wp P o a w K Q else E := by
  rw [if_pos hw]
  unfold Oper.wp
  simp [execOp, ho, resolve, invoke, hs, eg, go_sem]
  exact hc.mono fun e w' ⟨he, hr⟩ => by subst he; exact hK w' hr

/-- What reading the elements comes to. -/
def UpPost (K : Nat → Prop) (b : Int) (wd n : Nat) (bs : List Int) (W : World) (e : Ending) (W' : World) : Prop :=
  Below W.heap.size W W' ∧ (((upS b wd n bs).2.2 = 0 ∧ ∃ g a' m, e = .returned (.tuple #[.slice (some ⟨g, 0, none⟩) n n, .slice a' m m, .int .i64 0]) ∧
      W'.ownsRow W.heap.size 3 1 (.slice (some ⟨g, 0, none⟩) n n) n ((upS b wd n bs).1.map (Value.int .i64)) ∧ Rd K W .u8 a' m m (bs.drop (upS b wd n bs).2.1)) ∨
    ((upS b wd n bs).2.2 ≠ 0 ∧ e = .returned (.tuple #[.slice none 0 0, .slice none 0 0, .int .i64 (upS b wd n bs).2.2])))

set_option maxRecDepth 100000 in
set_option maxHeartbeats 2000000 in
theorem unpack_any {K : Nat → Prop} {a : Option Addr} {len : Nat} {bs : List Int} (ho : Oct bs) (b : Int) (hb : I64 b) (wd n : Nat) (hwd : wd ≤ 64) (hn1 : 1 ≤ n) (hn : n ≤ 4096) {W : World} (hR : Rd K W .u8 a len len bs) :
    Calls Try.prog 83 #[.agg #[.int .i64 b, .int .i64 wd], .int .i64 n, .slice a len len] W (UpPost K b wd n bs W) := by
  have H := Lib.hid hR
  have hsmall := hR.small
  have HL : Hid (len = bs.length) := hR.hl
  clear hR
  obtain ⟨p, hp⟩ : ∃ p, n * wd = p := ⟨_, rfl⟩
  have hpw : p ≤ 4096 * 64 := by rw [← hp]; exact Nat.mul_le_mul hn hwd
  obtain ⟨q, hq⟩ : ∃ q, (p + 7) / 8 = q := ⟨_, rfl⟩
  have hqs : q ≤ 32768 := by omega
  have HSP : Hid (∀ V : World, Calls Try.prog 44 #[.agg #[.int .i64 b, .int .i64 wd], .int .i64 n] V fun e w' => e = .returned (.int .i64 q) ∧ Below V.heap.size V w') := fun V => by
    have := space_any b wd n p hp (by omega) V
    rwa [hq] at this
  have HPQ : Hid (n * wd = p ∧ (p + 7) / 8 = q) := ⟨hp, hq⟩
  have HUB : Hid (upBits wd n bs = allBits 8 (bs.take q)) := by show _ = _; unfold upBits; rw [hp, hq]
  clear hp hq
  by_cases hshort : len < q
  · have HF : Hid (upS b wd n bs = ([], 0, 7)) := by
      show _ = _
      unfold upS
      rw [HPQ.out.1, HPQ.out.2, if_pos (by rw [← HL.out]; exact hshort)]
    go_enter Try.func83, Try.ntmps83
    go_wp2_with fail
    refine (HSP.out _).mono ?_
    rintro e w1 ⟨rfl, hb1⟩
    have HB1 : Hid (Below W.heap.size W w1) := ((Below.refl _ _).alloc (Nat.le_refl _) _).trans (hb1.mono (by simp))
    clear hb1
    go_wp2
    go_ret3
    exact ⟨HB1.out, .inr ⟨by rw [HF.out]; decide, by rw [HF.out]; rfl⟩⟩
  · have hle : q ≤ len := by omega
    go_enter Try.func83, Try.ntmps83
    go_wp2_with fail
    have hpW := Pair.new W 72 (.int .i64 b) (.int .i64 wd)
    refine (HSP.out _).mono ?_
    rintro e w1 ⟨rfl, hb1⟩
    have HB1 : Hid (Below W.heap.size W w1) := ((Below.refl _ _).alloc (Nat.le_refl _) _).trans (hb1.mono (by simp))
    have hp1 := hpW.below hb1 (by simp)
    have c0 := hp1.c0
    have c1 := hp1.c1
    have HP1 := Lib.hid hp1
    have clt := hp1.lt
    clear hb1 hpW hp1
    go_wp2
    have hRq : Rd K W .u8 a q len (bs.take q) := ⟨by rw [List.length_take, ← HL.out]; omega, hle, H.out.top, by omega, fun h0 => by
      obtain ⟨b1, off1, e, hk, hlt, hc⟩ := H.out.cells (by omega)
      exact ⟨b1, off1, e, hk, hlt, fun j hj => by rw [List.getElem?_take_of_lt hj]; exact hc j (by omega)⟩⟩
    have HRq := Lib.hid hRq
    have hBx := Boxed.new w1 23 (.slice a q len)
    have HBx := Lib.hid hBx
    have HEL : Hid (∀ V : World, V.heap = (w1.alloc (.cells #[.slice a q len] 23)).heap → Calls Try.prog 88 #[.agg #[.int .i64 b, .int .i64 wd], .int .i64 n, .func (.func 91) #[] #[.pointer (some ⟨w1.heap.size, 0, none⟩)]] V (ElemsPost V b wd n (upBits wd n bs))) := fun V hV => by
      rw [HUB.out]
      have h1 : Rd K V .u8 a q len (bs.take q) := ((HRq.out.below HB1.out).below ((Below.refl _ w1).alloc (Nat.le_refl _) (.cells #[.slice a q len] 23))).heap hV
      refine elements_bits (ho.take q) h1 w1.heap.size b hb wd n hwd hn1 (by omega) (fun h => ?_) (by show V.heap[_]? = _; rw [hV]; exact HBx.out)
      have h2 := HPQ.out
      rw [h, Nat.mul_zero] at h2
      have : q = 0 := by omega
      rw [this, List.take_zero]
    clear hRq hBx
    cases hzz : zerosB ((upBits wd n bs).drop (n * wd)) with
    | false =>
      have HZ := Lib.hid hzz
      have HF : Hid (upS b wd n bs = ([], 0, 5)) := by
        show _ = _
        unfold upS
        rw [HPQ.out.1, HPQ.out.2, if_neg (by rw [← HL.out]; exact hshort)]
        unfold upOk
        rw [hzz]; rfl
      clear hzz
      go_region_law (first
        | (refine step_call_run (by rfl) 89 #[.tmp 24] #[23] (by rfl) #[.slice a q len] (by go_simp) (enters_of Try.func89 (by kernel_rfl) rfl _ _) _ _ (bitsOf_any _ _ _ _) ?_; rintro w2 rfl)
        | (refine step_call_run (by rfl) 88 #[.tmp 20, .tmp 21, .tmp 25] #[72, 3, 77] (by rfl) #[.agg #[.int .i64 b, .int .i64 wd], .int .i64 n, .func (.func 91) #[] #[.pointer (some ⟨w1.heap.size, 0, none⟩)]] (by go_simp) (enters_of Try.func88 (by kernel_rfl) rfl _ _) _ _ (elements_bad (HEL.out _ (by rfl)) HZ.out) ?_; intro w3 hb3; have HB3 : Hid (Below W.heap.size W w3) := (HB1.out.trans ((Below.refl w1.heap.size w1).alloc (Nat.le_refl _) (.cells #[.slice a q len] 23) |>.mono HB1.out.size)).trans ⟨hb3.os, hb3.tape, hb3.output, by have := hb3.size; simpa using this, fun i hi => hb3.block i (by have := HB1.out.size; simp; omega)⟩; clear hb3))
      all_goals
        simp [Act.put]
        go_wp2
        go_quiet (fail)
        go_wp2
        go_ret3
        exact ⟨below_drewN HB3.out _, .inr ⟨by rw [HF.out]; decide, by rw [HF.out]; rfl⟩⟩
    | true =>
      have HZ := Lib.hid hzz
      clear hzz
      go_region_law (first
        | (refine step_call_run (by rfl) 89 #[.tmp 24] #[23] (by rfl) #[.slice a q len] (by go_simp) (enters_of Try.func89 (by kernel_rfl) rfl _ _) _ _ (bitsOf_any _ _ _ _) ?_; rintro w2 rfl)
        | (refine step_call_run (by rfl) 88 #[.tmp 20, .tmp 21, .tmp 25] #[72, 3, 77] (by rfl) #[.agg #[.int .i64 b, .int .i64 wd], .int .i64 n, .func (.func 91) #[] #[.pointer (some ⟨w1.heap.size, 0, none⟩)]] (by go_simp) (enters_of Try.func88 (by kernel_rfl) rfl _ _) _ _ (elements_good (HEL.out _ (by rfl)) HZ.out) ?_; rintro w3 ⟨hrow, hb3⟩; have HB3 : Hid (Below W.heap.size W w3) := (HB1.out.trans ((Below.refl w1.heap.size w1).alloc (Nat.le_refl _) (.cells #[.slice a q len] 23) |>.mono HB1.out.size)).trans ⟨hb3.os, hb3.tape, hb3.output, by have := hb3.size; simpa using this, fun i hi => hb3.block i (by have := HB1.out.size; simp; omega)⟩; have HP3 : Hid (Pair w3 W.heap.size 72 (.int .i64 b) (.int .i64 wd)) := (hb3.block W.heap.size (by simp; omega)).trans (HP1.out.alloc (.cells #[.slice a q len] 23)); have HROW : Hid (w3.ownsRow (w1.heap.size + 1 + 5) 3 1 (.slice (some ⟨w1.heap.size + 1 + 5, 0, none⟩) n n) n ((upList b wd n bs).map (Value.int .i64))) := (by simp at hrow; exact hrow); clear hb3 hrow))
      all_goals
        simp [Act.put]
        have hc3 := HP3.out.c0
        have hc4 := HP3.out.c1
        have hc5 := HP3.out.lt
        have HFR : Hid (∀ V : World, V.heap = w3.heap → Calls Try.prog 57 #[.slice (some ⟨w1.heap.size + 1 + 5, 0, none⟩) n n] V fun e w' => e = .returned (.agg #[.int .i64 (minS (upList b wd n bs)), .int .i64 (widthS (upList b wd n bs))]) ∧ Below V.heap.size V w') := fun V hV =>
          frameOf_any ((Rd.of_row (by unfold upList; rw [elB_length]) (Nat.le_refl _) (by omega) HROW.out).heap hV) (by omega)
        clear c0 c1 clt
        have hcut : (upS b wd n bs = if (minS (upList b wd n bs) == b && widthS (upList b wd n bs) == wd) then (upList b wd n bs, q, 0) else ([], 0, 5)) := by
          unfold upS upOk
          rw [HPQ.out.1, HPQ.out.2, if_neg (by rw [← HL.out]; exact hshort)]
          have := HZ.out
          rw [HPQ.out.1] at this
          rw [this, Bool.true_and]
        by_cases e1 : minS (upList b wd n bs) = b
        · by_cases e2 : widthS (upList b wd n bs) = wd
          · have HF : Hid (upS b wd n bs = (upList b wd n bs, q, 0)) := by
              show _ = _
              rw [hcut, if_pos (by rw [e1, e2]; simp)]
            have e2' : ((widthS (upList b wd n bs) : Nat) : Int) = (wd : Int) := by rw [e2]
            clear hcut e2
            by_cases hql : q = len
            · subst hql
              have HRR : Hid (Rd K W .u8 a 0 0 (bs.drop q)) := ⟨by rw [List.length_drop, ← HL.out]; omega, Nat.le_refl _, by decide, by decide, fun h => absurd h (by decide)⟩
              go_wp2
              go_region_law (refine step_call_want (by go_simp) 57 #[.tmp 32] #[22] (by rfl) #[.slice (some ⟨w1.heap.size + 1 + 5, 0, none⟩) n n] (by go_simp) (enters_of Try.func57 (by kernel_rfl) rfl _ _) _ _ (HFR.out _ (by rfl)) ?_; intro w4 hb4; have hd0 : w4.cell? ⟨W.heap.size, 0, none⟩ = some (.int .i64 b) := (hb4.cell (p := ⟨W.heap.size, 0, none⟩) (by simp; omega)).trans hc3; have hd1 : w4.cell? ⟨W.heap.size, 1, none⟩ = some (.int .i64 wd) := (hb4.cell (p := ⟨W.heap.size, 1, none⟩) (by simp; omega)).trans hc4; have HB4 : Hid (Below w3.heap.size w3 w4) := (below_drew (Below.refl _ w3)).trans hb4; clear hb4)
              all_goals
                simp [Act.put]
                go_wp2
                go_quiet (fail)
                go_wp2
                go_ret3
                refine ⟨below_drewN (HB3.out.trans (HB4.out.mono HB3.out.size)) _, .inl ⟨by rw [HF.out], _, _, _, rfl, ?_, by rw [HF.out]; exact HRR.out⟩⟩
                rw [HF.out]
                exact ((Kept.refl (fun _ => True) w4).trans ⟨rfl, rfl, rfl, Nat.le_refl _, fun _ _ _ => rfl⟩).row (((Kept.of_below HB4.out).row HROW.out (row_lt HROW.out)).mono (by have := HB1.out.size; omega)) trivial
            · obtain ⟨b1, off1, rfl, hk1, hlt1, hcs1⟩ := H.out.cells (by omega)
              have HRR : Hid (Rd K W .u8 (some ⟨b1, off1 + q, none⟩) (len - q) (len - q) (bs.drop q)) := H.out.rest q (by omega) _ (Nat.le_refl _) (by omega) _ (fun _ => rfl)
              have hql2 : q < len := by omega
              clear hcs1
              go_wp2
              go_region_law (refine step_call_want (by go_simp) 57 #[.tmp 32] #[22] (by rfl) #[.slice (some ⟨w1.heap.size + 1 + 5, 0, none⟩) n n] (by go_simp) (enters_of Try.func57 (by kernel_rfl) rfl _ _) _ _ (HFR.out _ (by rfl)) ?_; intro w4 hb4; have hd0 : w4.cell? ⟨W.heap.size, 0, none⟩ = some (.int .i64 b) := (hb4.cell (p := ⟨W.heap.size, 0, none⟩) (by simp; omega)).trans hc3; have hd1 : w4.cell? ⟨W.heap.size, 1, none⟩ = some (.int .i64 wd) := (hb4.cell (p := ⟨W.heap.size, 1, none⟩) (by simp; omega)).trans hc4; have HB4 : Hid (Below w3.heap.size w3 w4) := (below_drew (Below.refl _ w3)).trans hb4; clear hb4)
              all_goals
                simp [Act.put]
                go_wp2
                go_quiet (fail)
                go_wp2
                go_ret3
                refine ⟨below_drewN (HB3.out.trans (HB4.out.mono HB3.out.size)) _, .inl ⟨by rw [HF.out], _, _, _, rfl, ?_, by rw [HF.out]; exact HRR.out⟩⟩
                rw [HF.out]
                exact ((Kept.refl (fun _ => True) w4).trans ⟨rfl, rfl, rfl, Nat.le_refl _, fun _ _ _ => rfl⟩).row (((Kept.of_below HB4.out).row HROW.out (row_lt HROW.out)).mono (by have := HB1.out.size; omega)) trivial
          · have HF : Hid (upS b wd n bs = ([], 0, 5)) := by
              show _ = _
              rw [hcut, if_neg (by simp [e2])]
            have e2' : ¬ ((widthS (upList b wd n bs) : Nat) : Int) = (wd : Int) := by omega
            clear hcut e2
            go_wp2
            go_region_law (refine step_call_want (by go_simp) 57 #[.tmp 32] #[22] (by rfl) #[.slice (some ⟨w1.heap.size + 1 + 5, 0, none⟩) n n] (by go_simp) (enters_of Try.func57 (by kernel_rfl) rfl _ _) _ _ (HFR.out _ (by rfl)) ?_; intro w4 hb4; have hd0 : w4.cell? ⟨W.heap.size, 0, none⟩ = some (.int .i64 b) := (hb4.cell (p := ⟨W.heap.size, 0, none⟩) (by simp; omega)).trans hc3; have hd1 : w4.cell? ⟨W.heap.size, 1, none⟩ = some (.int .i64 wd) := (hb4.cell (p := ⟨W.heap.size, 1, none⟩) (by simp; omega)).trans hc4; have HB4 : Hid (Below w3.heap.size w3 w4) := (below_drew (Below.refl _ w3)).trans hb4; clear hb4)
            all_goals
              go_wp2
              go_ret3
              exact ⟨HB3.out.trans (HB4.out.mono HB3.out.size), .inr ⟨by rw [HF.out]; decide, by rw [HF.out]; rfl⟩⟩
        · have HF : Hid (upS b wd n bs = ([], 0, 5)) := by
            show _ = _
            rw [hcut, if_neg (by simp [e1])]
          clear hcut
          go_wp2
          go_region_law (refine step_call_want (by go_simp) 57 #[.tmp 32] #[22] (by rfl) #[.slice (some ⟨w1.heap.size + 1 + 5, 0, none⟩) n n] (by go_simp) (enters_of Try.func57 (by kernel_rfl) rfl _ _) _ _ (HFR.out _ (by rfl)) ?_; intro w4 hb4; have hd0 : w4.cell? ⟨W.heap.size, 0, none⟩ = some (.int .i64 b) := (hb4.cell (p := ⟨W.heap.size, 0, none⟩) (by simp; omega)).trans hc3; have hd1 : w4.cell? ⟨W.heap.size, 1, none⟩ = some (.int .i64 wd) := (hb4.cell (p := ⟨W.heap.size, 1, none⟩) (by simp; omega)).trans hc4; have HB4 : Hid (Below w3.heap.size w3 w4) := (below_drew (Below.refl _ w3)).trans hb4; clear hb4)
          all_goals
            go_wp2
            go_ret3
            exact ⟨HB3.out.trans (HB4.out.mono HB3.out.size), .inr ⟨by rw [HF.out]; decide, by rw [HF.out]; rfl⟩⟩

end Go.Proofs.Ytkfmgiacdlkmiaa
