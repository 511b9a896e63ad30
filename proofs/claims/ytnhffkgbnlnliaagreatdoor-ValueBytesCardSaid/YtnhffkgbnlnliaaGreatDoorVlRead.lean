/-
  A byte form, read back.
-/
import Derived.Test.YtnhffkgbnlnliaaGreatDoorVlGuess
import Derived.Test.YtnhffkgbnlnliaaGreatDoorVlForm
namespace Go.Proofs.YtnhffkgbnlnliaaGreatDoor
open Go Go.RowKit Go.Shelf Go.ChangeShapes Go.WideShapes Go.ChangeAt

/-- Behind the kind: the value, how many bytes it took, the error. -/
def rdBool (r : List Int) : Vl × Nat × Int :=
  match r with
  | [] => (Vl.null, 0, 7)
  | y :: _ => if y = 0 ∨ y = 1 then (⟨1, y, []⟩, 1, 0) else (Vl.null, 0, 5)
def rdNum (r : List Int) : Vl × Nat × Int :=
  if (rdS r).2.2 ≠ 0 then (Vl.null, 0, (rdS r).2.2) else if widV ⟨2, uz (rdS r).1, []⟩ = true then (⟨2, uz (rdS r).1, []⟩, (rdS r).2.1, 0) else (Vl.null, 0, 5)
def rdTxt (r : List Int) : Vl × Nat × Int :=
  if (rdS r).2.2 ≠ 0 then (Vl.null, 0, (rdS r).2.2) else if 40 < (rdS r).1 then (Vl.null, 0, 5)
  else if ((r.drop (rdS r).2.1).length : Int) < (rdS r).1 then (Vl.null, 0, 7)
  else if txtB (strU ((r.drop (rdS r).2.1).take (rdS r).1.toNat)) = true then (⟨3, 0, strU ((r.drop (rdS r).2.1).take (rdS r).1.toNat)⟩, (rdS r).2.1 + (rdS r).1.toNat, 0) else (Vl.null, 0, 5)
def one (q : Vl × Nat × Int) : Vl × Nat × Int := if q.2.2 = 0 then (q.1, q.2.1 + 1, 0) else q
def rdV (bs : List Int) : Vl × Nat × Int :=
  match bs with
  | [] => (Vl.null, 0, 7)
  | x :: r => if x = 0 then (Vl.null, 1, 0) else if x = 1 then one (rdBool r) else if x = 2 then one (rdNum r) else if x = 3 then one (rdTxt r) else (Vl.null, 0, 5)

/-- What reading comes to. -/
def RdPost (K : Nat → Prop) (q : Vl × Nat × Int) (bs : List Int) (W : World) (e : Ending) (W' : World) : Prop :=
  Below W.heap.size W W' ∧ ((q.2.2 = 0 ∧ ∃ a' m, e = .returned (.tuple #[encV q.1, .slice a' m m, .int .i64 0]) ∧ Rd K W' .u8 a' m m (bs.drop q.2.1)) ∨
    (q.2.2 ≠ 0 ∧ e = .returned (.tuple #[encV Vl.null, .slice none 0 0, .int .i64 q.2.2])))
theorem RdPost.good {K : Nat → Prop} {q : Vl × Nat × Int} {bs : List Int} {W : World} {e : Ending} {W' : World} {v : Vl} {c : Nat} {a' : Option Addr} {m : Nat} (h : q = (v, c, 0)) (hb : Below W.heap.size W W') (he : e = .returned (.tuple #[encV v, .slice a' m m, .int .i64 0])) (hR : Rd K W .u8 a' m m (bs.drop c)) : RdPost K q bs W e W' := by
  subst h; exact ⟨hb, .inl ⟨rfl, a', m, he, hR.below hb⟩⟩
theorem RdPost.goodW {K : Nat → Prop} {q : Vl × Nat × Int} {bs : List Int} {W : World} {e : Ending} {W' : World} {v : Vl} {c : Nat} {a' : Option Addr} {m : Nat} (h : q = (v, c, 0)) (hb : Below W.heap.size W W') (he : e = .returned (.tuple #[encV v, .slice a' m m, .int .i64 0])) (hR : Rd K W' .u8 a' m m (bs.drop c)) : RdPost K q bs W e W' := by
  subst h; exact ⟨hb, .inl ⟨rfl, a', m, he, hR⟩⟩
theorem RdPost.bad {K : Nat → Prop} {q : Vl × Nat × Int} {bs : List Int} {W : World} {e : Ending} {W' : World} {x : Int} (h : q = (Vl.null, 0, x)) (hx : x ≠ 0) (hb : Below W.heap.size W W') (he : e = .returned (.tuple #[encV Vl.null, .slice none 0 0, .int .i64 x])) : RdPost K q bs W e W' := by
  subst h; exact ⟨hb, .inr ⟨hx, he⟩⟩

theorem Oct.head {x : Int} {r : List Int} (h : Oct (x :: r)) : 0 ≤ x ∧ x < 256 := h x (List.mem_cons_self ..)

set_option maxRecDepth 100000 in
set_option maxHeartbeats 2000000 in
theorem readBool_any {K : Nat → Prop} {a : Option Addr} {len : Nat} {bs : List Int} (ho : Oct bs) {w : World} (hR : Rd K w .u8 a len len bs) :
    Calls Tryz.prog 95 #[.slice a len len] w (RdPost K (rdBool bs) bs w) := by
  have hb0 : Below w.heap.size w (w.alloc (.cells #[.int .i64 0, .int .i64 0, .string ⟨#[]⟩] 29)) := (Below.self w).alloc (Nat.le_refl _) _
  have hT0 := Trio.new w 29 (.int .i64 0) (.int .i64 0) (.string ⟨#[]⟩)
  have HB0 := Lib.hid hb0
  rcases bs with _ | ⟨y, r⟩
  · obtain rfl : len = 0 := hR.hl
    have HE : Hid (rdBool [] = (Vl.null, 0, 7)) := rfl
    have c0 := hT0.c0
    have c1 := hT0.c1
    have c2 := hT0.c2
    clear hR hb0 hT0
    go_enter Tryz.func95, Tryz.ntmps95
    go_wp2
    exact bodyPost_ret (v := .tuple #[.agg #[.int .i64 0, .int .i64 0, .string ⟨#[]⟩], .slice none 0 0, .int .i64 7]) (by simp [results, Tryz.results95, go_sem]) rfl (RdPost.bad HE.out (by decide) HB0.out rfl)
  · have hlen : 0 < len := by have : len = r.length + 1 := hR.hl; omega
    have hy := ho.head
    obtain ⟨b, off, rfl, _, hb, hc⟩ := hR.cells (by omega)
    have hcy : w.cell? ⟨b, off, none⟩ = some (.int .u8 y) := hc 0 (by omega)
    have hcy := (hb0.cell (p := ⟨b, off, none⟩) hb).trans hcy
    have hsm := hR.small
    have HT0 := Lib.hid hT0
    have HBO : Hid (∀ (n : Int) (W : World), Calls Tryz.prog 39 #[.int .i64 n] W fun e w' => e = .returned (.agg #[.int .i64 1, .int .i64 n, .string ⟨#[]⟩]) ∧ Below W.heap.size W w') := fun n W => bool_any n W
    have HVL : Hid (∀ (W : World), Calls Tryz.prog 8 #[.agg #[.int .i64 1, .int .i64 y, .string ⟨#[]⟩]] W fun e w' => e = .returned (.bool (vldV ⟨1, y, []⟩)) ∧ Below W.heap.size W w') := fun W => valid_any ⟨1, y, []⟩ ⟨⟨by show _ ≤ (1 : Int); decide, by show (1 : Int) ≤ _; decide⟩, ⟨by show _ ≤ y; omega, by show y ≤ _; omega⟩, Nat.zero_le _⟩ W
    have HV1 : Hid (vldV ⟨1, y, []⟩ = decide (y = 0 ∨ y = 1)) := by show _ = _; rw [vld1]; simp
    have HQ : Hid (rdBool (y :: r) = if y = 0 ∨ y = 1 then (⟨1, y, []⟩, 1, 0) else (Vl.null, 0, 5)) := rfl
    have hwy : IntKind.i64.wrap y = y := by rw [IntKind.wrap_i64]; omega
    have HR := Lib.hid hR
    generalize vldV ⟨1, y, []⟩ = bv at *
    clear hb0 hT0 hc hR
    go_enter Tryz.func95, Tryz.ntmps95
    go_wp2_with fail
    refine (HBO.out _ _).mono ?_
    rintro e w1 ⟨rfl, hbb⟩
    have hT1 := HT0.out.below hbb HT0.out.lt
    have hbA : Below w1.heap.size w1 (w1.alloc (.cells #[.int .i64 1, .int .i64 y, .string ⟨#[]⟩] 29)) := (Below.self w1).alloc (Nat.le_refl _) _
    have HN := Lib.hid (Trio.new w1 29 (.int .i64 1) (.int .i64 y) (.string ⟨#[]⟩))
    have HB2 : Hid (Below w.heap.size w (w1.alloc (.cells #[.int .i64 1, .int .i64 y, .string ⟨#[]⟩] 29))) := (HB0.out.trans (hbb.mono HB0.out.size)).trans (hbA.mono (HB0.out.trans (hbb.mono HB0.out.size)).size)
    have HT2 := Lib.hid (hT1.below hbA hT1.lt)
    clear hbb hbA hT1 HB0 HT0 hcy
    go_wp2_with fail
    obtain ⟨B, hB⟩ : ∃ B, w1.heap.size = B := ⟨_, rfl⟩
    rw [hB] at HN ⊢
    clear hB
    generalize w1.alloc (.cells #[.int .i64 1, .int .i64 y, .string ⟨#[]⟩] 29) = V at *
    refine (HVL.out _).mono ?_
    rintro e w2 ⟨rfl, hbb⟩
    have HB3 : Hid (Below w.heap.size w w2) := HB2.out.trans (hbb.mono HB2.out.size)
    have hT3 := HT2.out.below hbb HT2.out.lt
    have hN3 := HN.out.below hbb HN.out.lt
    clear hbb HB2 HT2 HN
    have c0 := hT3.c0
    have c1 := hT3.c1
    have c2 := hT3.c2
    have f0 := hT3.f 0
    have f1 := hT3.f 1
    have f2 := hT3.f 2
    have plt := hT3.lt
    have d0 := hN3.c0
    have d1 := hN3.c1
    have d2 := hN3.c2
    clear hT3 hN3
    by_cases hy01 : y = 0 ∨ y = 1
    · obtain rfl : bv = true := by rw [HV1.out]; exact decide_eq_true hy01
      have HQ2 : Hid (rdBool (y :: r) = (⟨1, y, []⟩, 1, 0)) := HQ.out.trans (if_pos hy01)
      clear hy01 hy hwy
      by_cases h1 : len = 1
      · have HRR : Hid (Rd K w .u8 (some ⟨b, off, none⟩) 0 0 ((y :: r).drop 1)) := by
          have := HR.out.rest 1 (by omega) 0 (by omega) (by omega) (some ⟨b, off, none⟩) (fun h => by omega)
          rwa [h1] at this
        subst h1
        go_wp2_with fail
        go_region
        all_goals
          go_wp2
          exact bodyPost_ret (v := .tuple #[.agg #[.int .i64 1, .int .i64 y, .string ⟨#[]⟩], .slice (some ⟨b, off, none⟩) 0 0, .int .i64 0]) (by simp [results, Tryz.results95, go_sem, c0, c1, c2]) rfl (RdPost.good HQ2.out (below_drewN (below_put3 HB3.out (Nat.le_refl _) _ _ _) 1) rfl HRR.out)
      · have HRR : Hid (Rd K w .u8 (some ⟨b, off + 1, none⟩) (len - 1) (len - 1) ((y :: r).drop 1)) := HR.out.rest 1 (by omega) _ (Nat.le_refl _) (by omega) _ (fun _ => rfl)
        have h1' : 1 < len := by omega
        go_wp2_with fail
        go_region
        all_goals
          go_wp2
          exact bodyPost_ret (v := .tuple #[.agg #[.int .i64 1, .int .i64 y, .string ⟨#[]⟩], .slice (some ⟨b, off + 1, none⟩) (len - 1) (len - 1), .int .i64 0]) (by simp [results, Tryz.results95, go_sem, c0, c1, c2]) rfl (RdPost.good HQ2.out (below_drewN (below_put3 HB3.out (Nat.le_refl _) _ _ _) 1) rfl HRR.out)
    · obtain rfl : bv = false := by rw [HV1.out]; exact decide_eq_false hy01
      have HQ2 : Hid (rdBool (y :: r) = (Vl.null, 0, 5)) := HQ.out.trans (if_neg hy01)
      clear hy01 hy hwy
      go_wp2
      exact bodyPost_ret (v := .tuple #[.agg #[.int .i64 0, .int .i64 0, .string ⟨#[]⟩], .slice none 0 0, .int .i64 5]) (by simp [results, Tryz.results95, go_sem, c0, c1, c2]) rfl (RdPost.bad HQ2.out (by decide) (below_put3 HB3.out (Nat.le_refl _) _ _ _) rfl)

theorem num_bad {r : List Int} {x : Int} (h : (rdS r).2.2 = x) (hx : x ≠ 0) : rdNum r = (Vl.null, 0, x) := by unfold rdNum; rw [if_pos (by rw [h]; exact hx), h]
theorem num_good {r : List Int} {u : Int} {c : Nat} (h : rdS r = (u, c, 0)) : rdNum r = if widV ⟨2, uz u, []⟩ = true then (⟨2, uz u, []⟩, c, 0) else (Vl.null, 0, 5) := by
  unfold rdNum
  rw [h]
  exact if_neg (fun h => h rfl)
theorem Rd.put3 {K : Nat → Prop} {W : World} {k : IntKind} {a : Option Addr} {len cap : Nat} {zs : List Int} {B : Nat} (h : Rd K W k a len cap zs) (hK : ∀ b, K b → b ≠ B) (x y z : Value) : Rd K (((W.setCell ⟨B, 0, none⟩ x).setCell ⟨B, 1, none⟩ y).setCell ⟨B, 2, none⟩ z) k a len cap zs := by
  refine ⟨h.hl, h.fit, h.top, h.small, fun h0 => ?_⟩
  obtain ⟨b, off, e, hk, hlt, hc⟩ := h.cells h0
  refine ⟨b, off, e, hk, by simpa using hlt, fun j hj => ?_⟩
  have hne := hK b hk
  refine (World.cell?_of_block (w := W) ?_).trans (hc j hj)
  simp [World.setCell, Array.getElem?_modify, Ne.symm hne]

set_option maxRecDepth 100000 in
set_option maxHeartbeats 2000000 in
theorem readNumber_any {K : Nat → Prop} {a : Option Addr} {len : Nat} {bs : List Int} (ho : Oct bs) {w : World} (hR : Rd K w .u8 a len len bs) (hK : ∀ b, K b → b < w.heap.size) :
    Calls Tryz.prog 96 #[.slice a len len] w (RdPost K (rdNum bs) bs w) := by
  have hb0 : Below w.heap.size w (w.alloc (.cells #[.int .i64 0, .int .i64 0, .string ⟨#[]⟩] 29)) := (Below.self w).alloc (Nat.le_refl _) _
  have HB0 := Lib.hid hb0
  have HT0 := Lib.hid (Trio.new w 29 (.int .i64 0) (.int .i64 0) (.string ⟨#[]⟩))
  have HR0 := Lib.hid (hR.below hb0)
  have HK := Lib.hid hK
  have hu := rdS_u645 ho
  obtain ⟨u, c, x, hq⟩ : ∃ u c x, rdS bs = (u, c, x) := ⟨_, _, _, rfl⟩
  rw [hq] at hu
  have hu : U64 u := hu
  clear hR hb0 hK
  by_cases hx : x = 0
  · subst hx
    have HQ := Lib.hid (num_good hq)
    have HRG := Lib.hid (read_good ho HR0.out hq)
    have HUZ := Lib.hid (unzigzag_any u hu)
    have huz := uz_i64 hu
    have HNU : Hid (∀ (n : Int) (W : World), Calls Tryz.prog 40 #[.int .i64 n] W fun e w' => e = .returned (.agg #[.int .i64 2, .int .i64 n, .string ⟨#[]⟩]) ∧ Below W.heap.size W w') := fun n W => num_any n W
    have HWD : Hid (∀ (W : World), Calls Tryz.prog 10 #[.agg #[.int .i64 2, .int .i64 (uz u), .string ⟨#[]⟩]] W fun e w' => e = .returned (.bool (widV ⟨2, uz u, []⟩)) ∧ Below W.heap.size W w') := fun W => wide_any ⟨2, uz u, []⟩ ⟨⟨by show _ ≤ (2 : Int); decide, by show (2 : Int) ≤ _; decide⟩, huz, Nat.zero_le _⟩ W
    clear hq hu
    generalize uz u = n at *
    generalize widV ⟨2, n, []⟩ = bv at *
    go_enter Tryz.func96, Tryz.ntmps96
    go_wp2_with fail
    refine HRG.out.mono ?_
    rintro e w1 ⟨rfl, a', m, rfl, hr⟩
    have HR1 := Lib.hid hr
    clear hr HRG
    go_wp2_with (go_at_call 109; refine (HUZ.out _).mono ?_; rintro e w' ⟨rfl, rfl⟩)
    refine (HNU.out _ _).mono ?_
    rintro e w1 ⟨rfl, hbb⟩
    have hT1 := HT0.out.below hbb HT0.out.lt
    have hbA : Below w1.heap.size w1 (w1.alloc (.cells #[.int .i64 2, .int .i64 n, .string ⟨#[]⟩] 29)) := (Below.self w1).alloc (Nat.le_refl _) _
    have HN := Lib.hid (Trio.new w1 29 (.int .i64 2) (.int .i64 n) (.string ⟨#[]⟩))
    have hb1 := HB0.out.trans (hbb.mono HB0.out.size)
    have HB2 : Hid (Below w.heap.size w (w1.alloc (.cells #[.int .i64 2, .int .i64 n, .string ⟨#[]⟩] 29))) := hb1.trans (hbA.mono hb1.size)
    have HT2 := Lib.hid (hT1.below hbA hT1.lt)
    have HR2 := Lib.hid ((HR1.out.below hbb).below hbA)
    clear hbb hbA hT1 hb1 HB0 HT0 HR1
    go_wp2_with fail
    obtain ⟨B, hB⟩ : ∃ B, w1.heap.size = B := ⟨_, rfl⟩
    rw [hB] at HN ⊢
    clear hB
    generalize w1.alloc (.cells #[.int .i64 2, .int .i64 n, .string ⟨#[]⟩] 29) = V at *
    refine (HWD.out _).mono ?_
    rintro e w2 ⟨rfl, hbb⟩
    have HB3 : Hid (Below w.heap.size w w2) := HB2.out.trans (hbb.mono HB2.out.size)
    have HR3 := Lib.hid (HR2.out.below hbb)
    have hT3 := HT2.out.below hbb HT2.out.lt
    have hN3 := HN.out.below hbb HN.out.lt
    clear hbb HB2 HT2 HN HR2
    have c0 := hT3.c0
    have c1 := hT3.c1
    have c2 := hT3.c2
    have f0 := hT3.f 0
    have f1 := hT3.f 1
    have f2 := hT3.f 2
    have plt := hT3.lt
    have d0 := hN3.c0
    have d1 := hN3.c1
    have d2 := hN3.c2
    clear hT3 hN3
    cases bv with
    | false =>
      have HQ2 : Hid (rdNum bs = (Vl.null, 0, 5)) := HQ.out.trans (if_neg (by simp))
      go_wp2
      exact bodyPost_ret (v := .tuple #[.agg #[.int .i64 0, .int .i64 0, .string ⟨#[]⟩], .slice none 0 0, .int .i64 5]) (by simp [results, Tryz.results96, go_sem, c0, c1, c2]) rfl (RdPost.bad HQ2.out (by decide) (below_put3 HB3.out (Nat.le_refl _) _ _ _) rfl)
    | true =>
      have HQ2 : Hid (rdNum bs = (⟨2, n, []⟩, c, 0)) := HQ.out.trans (if_pos (by simp))
      go_wp2
      exact bodyPost_ret (v := .tuple #[.agg #[.int .i64 2, .int .i64 n, .string ⟨#[]⟩], .slice a' m m, .int .i64 0]) (by simp [results, Tryz.results96, go_sem, c0, c1, c2]) rfl (RdPost.goodW HQ2.out (below_put3 HB3.out (Nat.le_refl _) _ _ _) rfl (HR3.out.put3 (fun b hb e => by subst e; exact absurd (HK.out _ hb) (Nat.lt_irrefl _)) _ _ _))
  · have HQ := Lib.hid (num_bad (r := bs) (x := x) (by rw [hq]) hx)
    have HRG := Lib.hid (read_bad ho HR0.out hx (by rw [hq]))
    have HX := Lib.hid hx
    have hxx : (x != 0) = true := by simpa using hx
    have c0 := HT0.out.c0
    have c1 := HT0.out.c1
    have c2 := HT0.out.c2
    clear hq hu hx
    go_enter Tryz.func96, Tryz.ntmps96
    go_wp2_with fail
    refine HRG.out.mono ?_
    rintro e w1 ⟨rfl, rfl⟩
    go_wp2
    exact bodyPost_ret (v := .tuple #[.agg #[.int .i64 0, .int .i64 0, .string ⟨#[]⟩], .slice none 0 0, .int .i64 x]) (by simp [results, Tryz.results96, go_sem]) rfl (RdPost.bad HQ.out HX.out HB0.out rfl)

end Go.Proofs.YtnhffkgbnlnliaaGreatDoor
