/-
  What is read of one string of a packed form.
-/
import Derived.Test.YtdcapmbgnoahpaaDcBase
import Derived.StillTailTactics
namespace Go.Proofs.Ytdcapmbgnoahpaa
open Go Go.RowKit Go.Shelf Go.ChangeShapes Go.WideShapes Go.ChangeAt

/-- A part, as the program's struct. -/
def partV (sh : Int) (o b : Value) : Value := .agg #[.int .i64 sh, o, b]

/-- What reading a part comes to. -/
def RpPost (K : Nat → Prop) (bs : List Int) (size : Nat) (W : World) (e : Ending) (W' : World) : Prop :=
  Below W.heap.size W W' ∧ (((rpS bs size).2.2 = 0 ∧ ∃ a1 n1 c1 a2 m, e = .returned (.tuple #[.agg #[.int .i64 ((rpS bs size).1.1 : Nat), .slice a1 n1 c1, .slice a2 m m], .int .i64 0]) ∧ Rd K W .u8 a1 n1 c1 (rpS bs size).1.2 ∧ Rd K W .u8 a2 m m (bs.drop (rpS bs size).2.1)) ∨
    ((rpS bs size).2.2 ≠ 0 ∧ e = .returned (.tuple #[.agg #[.int .i64 0, .slice none 0 0, .slice none 0 0], .int .i64 (rpS bs size).2.2])))

theorem RpPost.bad {K : Nat → Prop} {bs : List Int} {size : Nat} {W W' : World} {e : Ending} {x : Int} (h : rpS bs size = ((0, []), 0, x)) (hx : x ≠ 0) (hb : Below W.heap.size W W') (he : e = .returned (.tuple #[.agg #[.int .i64 0, .slice none 0 0, .slice none 0 0], .int .i64 x])) : RpPost K bs size W e W' :=
  ⟨hb, .inr ⟨by rw [h]; exact hx, by rw [h]; exact he⟩⟩
theorem RpPost.good {K : Nat → Prop} {bs : List Int} {size : Nat} {W W' : World} {e : Ending} {sh : Nat} {l : List Int} {c : Nat} {a1 a2 : Option Addr} {n1 c1 m : Nat} (h : rpS bs size = ((sh, l), c, 0)) (hb : Below W.heap.size W W')
    (he : e = .returned (.tuple #[.agg #[.int .i64 sh, .slice a1 n1 c1, .slice a2 m m], .int .i64 0])) (hR : Rd K W .u8 a1 n1 c1 l) (hR2 : Rd K W .u8 a2 m m (bs.drop c)) : RpPost K bs size W e W' :=
  ⟨hb, .inl ⟨by rw [h], a1, n1, c1, a2, m, by rw [h]; exact he, by rw [h]; exact hR, by rw [h]; exact hR2⟩⟩

theorem Rd.first5 {K : Nat → Prop} {W : World} {k : IntKind} {a : Option Addr} {len cap : Nat} {zs : List Int} (h : Rd K W k a len cap zs) (m : Nat) (hm : m ≤ len) : Rd K W k a m cap (zs.take m) := by
  refine ⟨by rw [List.length_take, ← h.hl]; omega, Nat.le_trans hm h.fit, h.top, Nat.le_trans hm h.small, fun h0 => ?_⟩
  obtain ⟨b, off, e, hb, hlt, hc⟩ := h.cells (by omega)
  exact ⟨b, off, e, hb, hlt, fun j hj => by rw [hc j (by omega), List.getElem?_take_of_lt hj]⟩

theorem Rd.back5 {K : Nat → Prop} {W V : World} {k : IntKind} {a : Option Addr} {len cap : Nat} {zs : List Int} (h : Rd (fun b => K b ∧ b < W.heap.size) V k a len cap zs) (hb : Below W.heap.size W V) : Rd K W k a len cap zs :=
  ⟨h.hl, h.fit, h.top, h.small, fun h0 => by
    obtain ⟨b, off, e, hk, hlt, hc⟩ := h.cells h0
    exact ⟨b, off, e, hk.1, hk.2, fun j hj => (World.cell?_of_block (w := W) (hb.block b hk.2)).symm.trans (hc j hj)⟩⟩

theorem below_drew5 {B : Nat} {a w : World} (h : Below B a w) : Below B a w.drew := h.trans ⟨rfl, rfl, rfl, Nat.le_refl _, fun _ _ => rfl⟩

theorem zero_part (w : World) : (zeroValue 114).run Try.prog w = .ok (.agg #[.int .i64 0, .slice none 0 0, .slice none 0 0]) w := by kernel_rfl

/-- Three cells in a block of their own. -/
def Tri5 (W : World) (B : Nat) (t : TypeId) (a b c : Value) : Prop := W.heap[B]? = some (.cells #[a, b, c] t (0, 0))
theorem Tri5.cell {W : World} {B : Nat} {t : TypeId} {a b c : Value} (h : Tri5 W B t a b c) : W.cell? ⟨B, 0, none⟩ = some a ∧ W.cell? ⟨B, 1, none⟩ = some b ∧ W.cell? ⟨B, 2, none⟩ = some c := by
  have h : W.heap[B]? = _ := h
  simp [World.cell?, h]
theorem Tri5.f {W : World} {B : Nat} {t : TypeId} {a b c : Value} (h : Tri5 W B t a b c) (o : Nat) : W.frozen? ⟨B, o, none⟩ = false := by simp [World.frozen?, show W.heap[B]? = _ from h]
theorem Tri5.lt {W : World} {B : Nat} {t : TypeId} {a b c : Value} (h : Tri5 W B t a b c) : B < W.heap.size := (Array.getElem?_eq_some_iff.1 h).1
theorem Tri5.new (W : World) (t : TypeId) (a b c : Value) : Tri5 (W.alloc (.cells #[a, b, c] t)) W.heap.size t a b c := World.alloc_heap_new W _
theorem Tri5.below {W V : World} {B n : Nat} {t : TypeId} {a b c : Value} (h : Tri5 W B t a b c) (hb : Below n W V) (hn : B < n) : Tri5 V B t a b c := (hb.block B hn).trans h

set_option maxRecDepth 100000 in
set_option maxHeartbeats 4000000 in
theorem readPart_any {K : Nat → Prop} {a : Option Addr} {len cap : Nat} {bs : List Int} (ho : Oct bs) (size : Nat) (hsz : size ≤ 255) {W : World} (hR : Rd K W .u8 a len cap bs) :
    Calls Try.prog 94 #[.slice a len cap, .int .i64 size] W (RpPost K bs size W) := by
  have hW0 : Below W.heap.size W (W.alloc (.cells #[.int .i64 0, .slice none 0 0, .slice none 0 0] 114)) := (Below.refl _ _).alloc (Nat.le_refl _) _
  by_cases h1 : (rdS bs).2.2 = 0
  · have huu := rdS_u645 ho
    obtain ⟨u, hue⟩ : ∃ u, (rdS bs).1 = u := ⟨_, rfl⟩
    obtain ⟨c, hce⟩ : ∃ c, (rdS bs).2.1 = c := ⟨_, rfl⟩
    have hrd : rdS bs = (u, c, 0) := by rw [← hue, ← hce, ← h1]
    rw [hue] at huu
    obtain ⟨p, rfl⟩ := Int.eq_ofNat_of_zero_le huu.1
    have hrp : rpS bs size = if (rdS (bs.drop c)).2.2 ≠ 0 then ((0, []), 0, (rdS (bs.drop c)).2.2) else
        if (size : Int) < (p : Int) ∨ 255 - (p : Int) < (rdS (bs.drop c)).1 then ((0, []), 0, 5) else
        if (((bs.drop c).drop (rdS (bs.drop c)).2.1).length : Int) < (rdS (bs.drop c)).1 then ((0, []), 0, 7) else
        ((p, ((bs.drop c).drop (rdS (bs.drop c)).2.1).take (rdS (bs.drop c)).1.toNat), c + ((rdS (bs.drop c)).2.1 + (rdS (bs.drop c)).1.toNat), 0) := by
      unfold rpS
      rw [hrd, if_neg (by simp)]
      rfl
    have HRG := Lib.hid (read_good ho ((hR.mono (K' := fun b => K b ∧ b < W.heap.size) (fun b hlt hk => ⟨hk, hlt⟩)).below hW0) hrd)
    have hod := ho.drop c
    clear hue hce hrd h1 hR
    by_cases h2 : (rdS (bs.drop c)).2.2 = 0
    · rw [if_neg (by simp [h2])] at hrp
      have hvv := rdS_u645 hod
      obtain ⟨v, hve⟩ : ∃ v, (rdS (bs.drop c)).1 = v := ⟨_, rfl⟩
      obtain ⟨c2, hce2⟩ : ∃ c2, (rdS (bs.drop c)).2.1 = c2 := ⟨_, rfl⟩
      have hrd2 : rdS (bs.drop c) = (v, c2, 0) := by rw [← hve, ← hce2, ← h2]
      rw [hve] at hvv
      rw [hve, hce2] at hrp
      obtain ⟨q, rfl⟩ := Int.eq_ofNat_of_zero_le hvv.1
      rw [Int.toNat_natCast] at hrp
      have HRD2 := Lib.hid hrd2
      clear hve hce2 h2 hrd2
      unfold U64 at huu hvv
      have hp64 : p < 18446744073709551616 := by omega
      have hq64 : q < 18446744073709551616 := by omega
      clear huu hvv
      by_cases h3 : size < p
      · have HRP : Hid (rpS bs size = ((0, []), 0, 5)) := by show _ = _; rw [hrp, if_pos (.inl (by omega))]
        clear hrp
        have HP64 := Lib.hid hp64
        have HQ64 := Lib.hid hq64
        clear hp64 hq64
        go_enter Try.func94, Try.ntmps94
        go_wp2_with fail
        refine HRG.out.mono ?_
        rintro e w' ⟨rfl, a1, m1, rfl, hR1⟩
        have HR1 := Lib.hid hR1
        clear hR1
        go_wp2_with fail
        refine (read_good hod HR1.out HRD2.out).mono ?_
        rintro e w' ⟨rfl, a2, m2, rfl, hR2⟩
        clear hR2
        go_wp2
        exact bodyPost_ret (v := .tuple #[.agg #[.int .i64 0, .slice none 0 0, .slice none 0 0], .int .i64 5]) (by simp [results, Try.results94, go_sem]) rfl (RpPost.bad HRP.out (by decide) hW0 rfl)
      · have hd3 : decide ((size : Int) < (p : Int)) = false := decide_eq_false (by omega)
        have hd3' : decide (size < p) = false := decide_eq_false h3
        have hp255 : p ≤ 255 := by omega
        have hw3 : IntKind.u64.wrap (255 - (p : Int)) = ((255 - p : Nat) : Int) := by rw [IntKind.wrap_u64]; omega
        obtain ⟨r, hr⟩ : ∃ r, 255 - p = r := ⟨_, rfl⟩
        rw [hr] at hw3
        by_cases h4 : r < q
        · have HRP : Hid (rpS bs size = ((0, []), 0, 5)) := by show _ = _; rw [hrp, if_pos (.inr (by omega))]
          clear hrp hr h3
          have HP64 := Lib.hid hp64
          have HQ64 := Lib.hid hq64
          clear hp64 hq64
          go_enter Try.func94, Try.ntmps94
          go_wp2_with fail
          refine HRG.out.mono ?_
          rintro e w' ⟨rfl, a1, m1, rfl, hR1⟩
          have HR1 := Lib.hid hR1
          clear hR1
          go_wp2_with fail
          refine (read_good hod HR1.out HRD2.out).mono ?_
          rintro e w' ⟨rfl, a2, m2, rfl, hR2⟩
          clear hR2
          go_wp2
          exact bodyPost_ret (v := .tuple #[.agg #[.int .i64 0, .slice none 0 0, .slice none 0 0], .int .i64 5]) (by simp [results, Try.results94, go_sem]) rfl (RpPost.bad HRP.out (by decide) hW0 rfl)
        · have hq255 : q ≤ 255 := by omega
          have hrq : q ≤ r := by omega
          rw [if_neg (by omega)] at hrp
          clear hr h3 hp64 hq64 h4
          by_cases h5 : ((bs.drop c).drop c2).length < q
          · have HRP : Hid (rpS bs size = ((0, []), 0, 7)) := by show _ = _; rw [hrp, if_pos (by omega)]
            have H5 := Lib.hid h5
            clear hrp h5
            go_enter Try.func94, Try.ntmps94
            go_wp2_with fail
            refine HRG.out.mono ?_
            rintro e w' ⟨rfl, a1, m1, rfl, hR1⟩
            have HR1 := Lib.hid hR1
            clear hR1
            go_wp2_with fail
            refine (read_good hod HR1.out HRD2.out).mono ?_
            rintro e w' ⟨rfl, a2, m2, rfl, hR2⟩
            have hmq : m2 < q := by rw [hR2.hl]; exact H5.out
            have hm2s := hR2.small
            clear hR2
            go_wp2
            exact bodyPost_ret (v := .tuple #[.agg #[.int .i64 0, .slice none 0 0, .slice none 0 0], .int .i64 7]) (by simp [results, Try.results94, go_sem]) rfl (RpPost.bad HRP.out (by decide) hW0 rfl)
          · have HRP : Hid (rpS bs size = ((p, ((bs.drop c).drop c2).take q), c + (c2 + q), 0)) := by show _ = _; rw [hrp, if_neg (by omega)]
            have H5 := Lib.hid h5
            clear hrp h5
            go_enter Try.func94, Try.ntmps94
            go_wp2_with fail
            refine HRG.out.mono ?_
            rintro e w' ⟨rfl, a1, m1, rfl, hR1⟩
            have HR1 := Lib.hid hR1
            clear hR1
            go_wp2_with fail
            refine (read_good hod HR1.out HRD2.out).mono ?_
            rintro e w' ⟨rfl, a2, m2, rfl, hR2⟩
            have hmq : q ≤ m2 := by have := H5.out; rw [hR2.hl]; omega
            have hm2s := hR2.small
            have HR2 := Lib.hid hR2
            clear hR2
            have hwp : IntKind.i64.wrap (p : Int) = p := by rw [IntKind.wrap_i64]; omega
            have hwq : IntKind.i64.wrap (q : Int) = q := by rw [IntKind.wrap_i64]; omega
            have HTK : Hid (Rd K W .u8 a2 q m2 (((bs.drop c).drop c2).take q)) := ((HR2.out.first5 q hmq).back5 hW0)
            by_cases hqm : q = m2
            · subst hqm
              have HRR : Hid (Rd K W .u8 a2 0 0 (bs.drop (c + (c2 + q)))) := ⟨by rw [← List.drop_drop, ← List.drop_drop, List.length_drop, ← HR2.out.hl]; omega, Nat.le_refl _, by decide, by decide, fun h => absurd h (by decide)⟩
              have hT := Tri5.new W 114 (.int .i64 0) (.slice none 0 0) (.slice none 0 0)
              clear HRG HR1 HR2
              generalize W.alloc (.cells #[.int .i64 0, .slice none 0 0, .slice none 0 0] 114) = V at *
              obtain ⟨q0, q1, q2⟩ := hT.cell
              have f0 := hT.f 0
              have f1 := hT.f 1
              have f2 := hT.f 2
              have qlt := hT.lt
              have HT := Lib.hid hT
              have HW0 := Lib.hid hW0
              clear hT hW0
              go_wp2
              go_still_tail 9, (by kernel_rfl)
              go_wp2
              exact bodyPost_ret (v := .tuple #[.agg #[.int .i64 p, .slice a2 q q, .slice a2 0 0], .int .i64 0]) (by simp [results, Try.results94, go_sem, q0, q1, q2]) rfl
                (RpPost.good HRP.out (below_drew5 (((HW0.out.setCell (Nat.le_refl _) _).setCell (Nat.le_refl _) _).setCell (Nat.le_refl _) _)) rfl HTK.out HRR.out)
            · have hqm2 : q < m2 := by omega
              obtain ⟨b2, off2, rfl, hk2, hlt2, hcs2⟩ := HR2.out.cells (by omega)
              have HRR : Hid (Rd K W .u8 (some ⟨b2, off2 + q, none⟩) (m2 - q) (m2 - q) (bs.drop (c + (c2 + q)))) := by
                have := ((HR2.out.rest q (by omega) _ (Nat.le_refl _) (by omega) _ (fun _ => rfl)).back5 hW0)
                rwa [List.drop_drop, List.drop_drop] at this
              clear hcs2 hqm
              have hT := Tri5.new W 114 (.int .i64 0) (.slice none 0 0) (.slice none 0 0)
              clear HRG HR1 HR2
              generalize W.alloc (.cells #[.int .i64 0, .slice none 0 0, .slice none 0 0] 114) = V at *
              obtain ⟨q0, q1, q2⟩ := hT.cell
              have f0 := hT.f 0
              have f1 := hT.f 1
              have f2 := hT.f 2
              have qlt := hT.lt
              have HT := Lib.hid hT
              have HW0 := Lib.hid hW0
              clear hT hW0
              go_wp2
              go_still_tail 9, (by kernel_rfl)
              go_wp2
              exact bodyPost_ret (v := .tuple #[.agg #[.int .i64 p, .slice (some ⟨b2, off2, none⟩) q m2, .slice (some ⟨b2, off2 + q, none⟩) (m2 - q) (m2 - q)], .int .i64 0]) (by simp [results, Try.results94, go_sem, q0, q1, q2]) rfl
                (RpPost.good HRP.out (below_drew5 (((HW0.out.setCell (Nat.le_refl _) _).setCell (Nat.le_refl _) _).setCell (Nat.le_refl _) _)) rfl HTK.out HRR.out)
    · have HRP : Hid (rpS bs size = ((0, []), 0, (rdS (bs.drop c)).2.2)) := by show _ = _; rw [hrp, if_pos h2]
      have HX := Lib.hid h2
      have hxb : ((rdS (bs.drop c)).2.2 != 0) = true := by simpa using h2
      obtain ⟨x, hx⟩ : ∃ x, (rdS (bs.drop c)).2.2 = x := ⟨_, rfl⟩
      rw [hx] at HRP hxb HX
      have HXE := Lib.hid hx
      clear h2 hrp hx huu
      go_enter Try.func94, Try.ntmps94
      go_wp2_with fail
      refine HRG.out.mono ?_
      rintro e w' ⟨rfl, a1, m1, rfl, hR1⟩
      have HR1 := Lib.hid hR1
      clear hR1
      go_wp2_with fail
      refine (read_bad hod HR1.out HX.out HXE.out).mono ?_
      rintro e w' ⟨rfl, rfl⟩
      go_wp2
      exact bodyPost_ret (v := .tuple #[.agg #[.int .i64 0, .slice none 0 0, .slice none 0 0], .int .i64 x]) (by simp [results, Try.results94, go_sem]) rfl (RpPost.bad HRP.out HX.out hW0 rfl)
  · have HRP : Hid (rpS bs size = ((0, []), 0, (rdS bs).2.2)) := by show _ = _; unfold rpS; rw [if_pos h1]
    have HX := Lib.hid h1
    have HRB := Lib.hid (read_bad ho (hR.below hW0) h1 rfl)
    have hxb : ((rdS bs).2.2 != 0) = true := by simpa using h1
    clear h1 hR
    generalize (rdS bs).2.2 = x at *
    go_enter Try.func94, Try.ntmps94
    go_wp2_with fail
    refine HRB.out.mono ?_
    rintro e w' ⟨rfl, rfl⟩
    go_wp2
    exact bodyPost_ret (v := .tuple #[.agg #[.int .i64 0, .slice none 0 0, .slice none 0 0], .int .i64 x]) (by simp [results, Try.results94, go_sem]) rfl (RpPost.bad HRP.out HX.out hW0 rfl)

end Go.Proofs.Ytdcapmbgnoahpaa
