/-
  A byte form, read back: texts, values.
-/
import Derived.Test.YtocnkjnlmciojaaGreatDoorVlGuess
import Derived.Test.YtocnkjnlmciojaaGreatDoorVlForm
namespace Go.Proofs.YtocnkjnlmciojaaGreatDoor
open Go Go.RowKit Go.Shelf Go.ChangeShapes Go.WideShapes Go.ChangeAt

/-- Behind the kind: the value, how many bytes it took, the error. -/
def rdBool (r : List Int) : Vl × Nat × Int :=
  match r with
  | [] => (Vl.null, 0, 7)
  | y :: _ => if y = 0 ∨ y = 1 then (⟨1, y, []⟩, 1, 0) else (Vl.null, 0, 5)
def rdNum (r : List Int) : Vl × Nat × Int :=
  if (rdS r).2.2 ≠ 0 then (Vl.null, 0, (rdS r).2.2) else if widV ⟨2, uz (rdS r).1, []⟩ = true then (⟨2, uz (rdS r).1, []⟩, (rdS r).2.1, 0) else (Vl.null, 0, 5)
def rdTxt (r : List Int) : Vl × Nat × Int :=
  if (rdS r).2.2 ≠ 0 then (Vl.null, 0, (rdS r).2.2) else if 40 < (rdS r).1 then (Vl.null, 0, 5)
  else if ((r.drop (rdS r).2.1).length : Int) < (rdS r).1 then (Vl.null, 0, 7)
  else if txtB (strU ((r.drop (rdS r).2.1).take (rdS r).1.toNat)) = true then (⟨3, 0, strU ((r.drop (rdS r).2.1).take (rdS r).1.toNat)⟩, (rdS r).2.1 + (rdS r).1.toNat, 0) else (Vl.null, 0, 5)
def one (q : Vl × Nat × Int) : Vl × Nat × Int := if q.2.2 = 0 then (q.1, q.2.1 + 1, 0) else q
def rdV (bs : List Int) : Vl × Nat × Int :=
  match bs with
  | [] => (Vl.null, 0, 7)
  | x :: r => if x = 0 then (Vl.null, 1, 0) else if x = 1 then one (rdBool r) else if x = 2 then one (rdNum r) else if x = 3 then one (rdTxt r) else (Vl.null, 0, 5)

/-- What reading comes to. -/
def RdPost (K : Nat → Prop) (q : Vl × Nat × Int) (bs : List Int) (W : World) (e : Ending) (W' : World) : Prop :=
  Below W.heap.size W W' ∧ ((q.2.2 = 0 ∧ ∃ a' m, e = .returned (.tuple #[encV q.1, .slice a' m m, .int .i64 0]) ∧ Rd K W' .u8 a' m m (bs.drop q.2.1)) ∨
    (q.2.2 ≠ 0 ∧ e = .returned (.tuple #[encV Vl.null, .slice none 0 0, .int .i64 q.2.2])))
theorem RdPost.good {K : Nat → Prop} {q : Vl × Nat × Int} {bs : List Int} {W : World} {e : Ending} {W' : World} {v : Vl} {c : Nat} {a' : Option Addr} {m : Nat} (h : q = (v, c, 0)) (hb : Below W.heap.size W W') (he : e = .returned (.tuple #[encV v, .slice a' m m, .int .i64 0])) (hR : Rd K W .u8 a' m m (bs.drop c)) : RdPost K q bs W e W' := by
  subst h; exact ⟨hb, .inl ⟨rfl, a', m, he, hR.below hb⟩⟩
theorem RdPost.goodW {K : Nat → Prop} {q : Vl × Nat × Int} {bs : List Int} {W : World} {e : Ending} {W' : World} {v : Vl} {c : Nat} {a' : Option Addr} {m : Nat} (h : q = (v, c, 0)) (hb : Below W.heap.size W W') (he : e = .returned (.tuple #[encV v, .slice a' m m, .int .i64 0])) (hR : Rd K W' .u8 a' m m (bs.drop c)) : RdPost K q bs W e W' := by
  subst h; exact ⟨hb, .inl ⟨rfl, a', m, he, hR⟩⟩
theorem RdPost.bad {K : Nat → Prop} {q : Vl × Nat × Int} {bs : List Int} {W : World} {e : Ending} {W' : World} {x : Int} (h : q = (Vl.null, 0, x)) (hx : x ≠ 0) (hb : Below W.heap.size W W') (he : e = .returned (.tuple #[encV Vl.null, .slice none 0 0, .int .i64 x])) : RdPost K q bs W e W' := by
  subst h; exact ⟨hb, .inr ⟨hx, he⟩⟩

theorem Oct.head {x : Int} {r : List Int} (h : Oct (x :: r)) : 0 ≤ x ∧ x < 256 := h x (List.mem_cons_self ..)

set_option maxRecDepth 100000 in
set_option maxHeartbeats 2000000 in
theorem readBool_any {K : Nat → Prop} {a : Option Addr} {len : Nat} {bs : List Int} (ho : Oct bs) {w : World} (hR : Rd K w .u8 a len len bs) :
    Calls Tryz.prog 138 #[.slice a len len] w (RdPost K (rdBool bs) bs w) := by
  have hb0 : Below w.heap.size w (w.alloc (.cells #[.int .i64 0, .int .i64 0, .string ⟨#[]⟩] 45)) := (Below.self w).alloc (Nat.le_refl _) _
  have hT0 := Trio.new w 45 (.int .i64 0) (.int .i64 0) (.string ⟨#[]⟩)
  have HB0 := Lib.hid hb0
  rcases bs with _ | ⟨y, r⟩
  · obtain rfl : len = 0 := hR.hl
    have HE : Hid (rdBool [] = (Vl.null, 0, 7)) := rfl
    have c0 := hT0.c0
    have c1 := hT0.c1
    have c2 := hT0.c2
    clear hR hb0 hT0
    go_enter Tryz.func138, Tryz.ntmps138
    go_wp2
    exact bodyPost_ret (v := .tuple #[.agg #[.int .i64 0, .int .i64 0, .string ⟨#[]⟩], .slice none 0 0, .int .i64 7]) (by simp [results, Tryz.results138, go_sem]) rfl (RdPost.bad HE.out (by decide) HB0.out rfl)
  · have hlen : 0 < len := by have : len = r.length + 1 := hR.hl; omega
    have hy := ho.head
    obtain ⟨b, off, rfl, _, hb, hc⟩ := hR.cells (by omega)
    have hcy : w.cell? ⟨b, off, none⟩ = some (.int .u8 y) := hc 0 (by omega)
    have hcy := (hb0.cell (p := ⟨b, off, none⟩) hb).trans hcy
    have hsm := hR.small
    have HT0 := Lib.hid hT0
    have HBO : Hid (∀ (n : Int) (W : World), Calls Tryz.prog 85 #[.int .i64 n] W fun e w' => e = .returned (.agg #[.int .i64 1, .int .i64 n, .string ⟨#[]⟩]) ∧ Below W.heap.size W w') := fun n W => bool_any n W
    have HVL : Hid (∀ (W : World), Calls Tryz.prog 30 #[.agg #[.int .i64 1, .int .i64 y, .string ⟨#[]⟩]] W fun e w' => e = .returned (.bool (vldV ⟨1, y, []⟩)) ∧ Below W.heap.size W w') := fun W => valid_any ⟨1, y, []⟩ ⟨⟨by show _ ≤ (1 : Int); decide, by show (1 : Int) ≤ _; decide⟩, ⟨by show _ ≤ y; omega, by show y ≤ _; omega⟩, Nat.zero_le _⟩ W
    have HV1 : Hid (vldV ⟨1, y, []⟩ = decide (y = 0 ∨ y = 1)) := by show _ = _; rw [vld1]; simp
    have HQ : Hid (rdBool (y :: r) = if y = 0 ∨ y = 1 then (⟨1, y, []⟩, 1, 0) else (Vl.null, 0, 5)) := rfl
    have hwy : IntKind.i64.wrap y = y := by rw [IntKind.wrap_i64]; omega
    have HR := Lib.hid hR
    generalize vldV ⟨1, y, []⟩ = bv at *
    clear hb0 hT0 hc hR
    go_enter Tryz.func138, Tryz.ntmps138
    go_wp2_with fail
    refine (HBO.out _ _).mono ?_
    rintro e w1 ⟨rfl, hbb⟩
    have hT1 := HT0.out.below hbb HT0.out.lt
    have hbA : Below w1.heap.size w1 (w1.alloc (.cells #[.int .i64 1, .int .i64 y, .string ⟨#[]⟩] 45)) := (Below.self w1).alloc (Nat.le_refl _) _
    have HN := Lib.hid (Trio.new w1 45 (.int .i64 1) (.int .i64 y) (.string ⟨#[]⟩))
    have HB2 : Hid (Below w.heap.size w (w1.alloc (.cells #[.int .i64 1, .int .i64 y, .string ⟨#[]⟩] 45))) := (HB0.out.trans (hbb.mono HB0.out.size)).trans (hbA.mono (HB0.out.trans (hbb.mono HB0.out.size)).size)
    have HT2 := Lib.hid (hT1.below hbA hT1.lt)
    clear hbb hbA hT1 HB0 HT0 hcy
    go_wp2_with fail
    obtain ⟨B, hB⟩ : ∃ B, w1.heap.size = B := ⟨_, rfl⟩
    rw [hB] at HN ⊢
    clear hB
    generalize w1.alloc (.cells #[.int .i64 1, .int .i64 y, .string ⟨#[]⟩] 45) = V at *
    refine (HVL.out _).mono ?_
    rintro e w2 ⟨rfl, hbb⟩
    have HB3 : Hid (Below w.heap.size w w2) := HB2.out.trans (hbb.mono HB2.out.size)
    have hT3 := HT2.out.below hbb HT2.out.lt
    have hN3 := HN.out.below hbb HN.out.lt
    clear hbb HB2 HT2 HN
    have c0 := hT3.c0
    have c1 := hT3.c1
    have c2 := hT3.c2
    have f0 := hT3.f 0
    have f1 := hT3.f 1
    have f2 := hT3.f 2
    have plt := hT3.lt
    have d0 := hN3.c0
    have d1 := hN3.c1
    have d2 := hN3.c2
    clear hT3 hN3
    by_cases hy01 : y = 0 ∨ y = 1
    · obtain rfl : bv = true := by rw [HV1.out]; exact decide_eq_true hy01
      have HQ2 : Hid (rdBool (y :: r) = (⟨1, y, []⟩, 1, 0)) := HQ.out.trans (if_pos hy01)
      clear hy01 hy hwy
      by_cases h1 : len = 1
      · have HRR : Hid (Rd K w .u8 (some ⟨b, off, none⟩) 0 0 ((y :: r).drop 1)) := by
          have := HR.out.rest 1 (by omega) 0 (by omega) (by omega) (some ⟨b, off, none⟩) (fun h => by omega)
          rwa [h1] at this
        subst h1
        go_wp2_with fail
        go_region
        all_goals
          go_wp2
          exact bodyPost_ret (v := .tuple #[.agg #[.int .i64 1, .int .i64 y, .string ⟨#[]⟩], .slice (some ⟨b, off, none⟩) 0 0, .int .i64 0]) (by simp [results, Tryz.results138, go_sem, c0, c1, c2]) rfl (RdPost.good HQ2.out (below_drewN (below_put3 HB3.out (Nat.le_refl _) _ _ _) 1) rfl HRR.out)
      · have HRR : Hid (Rd K w .u8 (some ⟨b, off + 1, none⟩) (len - 1) (len - 1) ((y :: r).drop 1)) := HR.out.rest 1 (by omega) _ (Nat.le_refl _) (by omega) _ (fun _ => rfl)
        have h1' : 1 < len := by omega
        go_wp2_with fail
        go_region
        all_goals
          go_wp2
          exact bodyPost_ret (v := .tuple #[.agg #[.int .i64 1, .int .i64 y, .string ⟨#[]⟩], .slice (some ⟨b, off + 1, none⟩) (len - 1) (len - 1), .int .i64 0]) (by simp [results, Tryz.results138, go_sem, c0, c1, c2]) rfl (RdPost.good HQ2.out (below_drewN (below_put3 HB3.out (Nat.le_refl _) _ _ _) 1) rfl HRR.out)
    · obtain rfl : bv = false := by rw [HV1.out]; exact decide_eq_false hy01
      have HQ2 : Hid (rdBool (y :: r) = (Vl.null, 0, 5)) := HQ.out.trans (if_neg hy01)
      clear hy01 hy hwy
      go_wp2
      exact bodyPost_ret (v := .tuple #[.agg #[.int .i64 0, .int .i64 0, .string ⟨#[]⟩], .slice none 0 0, .int .i64 5]) (by simp [results, Tryz.results138, go_sem, c0, c1, c2]) rfl (RdPost.bad HQ2.out (by decide) (below_put3 HB3.out (Nat.le_refl _) _ _ _) rfl)

theorem num_bad {r : List Int} {x : Int} (h : (rdS r).2.2 = x) (hx : x ≠ 0) : rdNum r = (Vl.null, 0, x) := by unfold rdNum; rw [if_pos (by rw [h]; exact hx), h]
theorem num_good {r : List Int} {u : Int} {c : Nat} (h : rdS r = (u, c, 0)) : rdNum r = if widV ⟨2, uz u, []⟩ = true then (⟨2, uz u, []⟩, c, 0) else (Vl.null, 0, 5) := by
  unfold rdNum
  rw [h]
  exact if_neg (fun h => h rfl)
theorem Rd.put3 {K : Nat → Prop} {W : World} {k : IntKind} {a : Option Addr} {len cap : Nat} {zs : List Int} {B : Nat} (h : Rd K W k a len cap zs) (hK : ∀ b, K b → b ≠ B) (x y z : Value) : Rd K (((W.setCell ⟨B, 0, none⟩ x).setCell ⟨B, 1, none⟩ y).setCell ⟨B, 2, none⟩ z) k a len cap zs := by
  refine ⟨h.hl, h.fit, h.top, h.small, fun h0 => ?_⟩
  obtain ⟨b, off, e, hk, hlt, hc⟩ := h.cells h0
  refine ⟨b, off, e, hk, by simpa using hlt, fun j hj => ?_⟩
  have hne := hK b hk
  refine (World.cell?_of_block (w := W) ?_).trans (hc j hj)
  simp [World.setCell, Array.getElem?_modify, Ne.symm hne]

set_option maxRecDepth 100000 in
set_option maxHeartbeats 2000000 in
theorem readNumber_any {K : Nat → Prop} {a : Option Addr} {len : Nat} {bs : List Int} (ho : Oct bs) {w : World} (hR : Rd K w .u8 a len len bs) (hK : ∀ b, K b → b < w.heap.size) :
    Calls Tryz.prog 139 #[.slice a len len] w (RdPost K (rdNum bs) bs w) := by
  have hb0 : Below w.heap.size w (w.alloc (.cells #[.int .i64 0, .int .i64 0, .string ⟨#[]⟩] 45)) := (Below.self w).alloc (Nat.le_refl _) _
  have HB0 := Lib.hid hb0
  have HT0 := Lib.hid (Trio.new w 45 (.int .i64 0) (.int .i64 0) (.string ⟨#[]⟩))
  have HR0 := Lib.hid (hR.below hb0)
  have HK := Lib.hid hK
  have hu := rdS_u645 ho
  obtain ⟨u, c, x, hq⟩ : ∃ u c x, rdS bs = (u, c, x) := ⟨_, _, _, rfl⟩
  rw [hq] at hu
  have hu : U64 u := hu
  clear hR hb0 hK
  by_cases hx : x = 0
  · subst hx
    have HQ := Lib.hid (num_good hq)
    have HRG := Lib.hid (read_good ho HR0.out hq)
    have HUZ := Lib.hid (unzigzag_any u hu)
    have huz := uz_i64 hu
    have HNU : Hid (∀ (n : Int) (W : World), Calls Tryz.prog 86 #[.int .i64 n] W fun e w' => e = .returned (.agg #[.int .i64 2, .int .i64 n, .string ⟨#[]⟩]) ∧ Below W.heap.size W w') := fun n W => num_any n W
    have HWD : Hid (∀ (W : World), Calls Tryz.prog 32 #[.agg #[.int .i64 2, .int .i64 (uz u), .string ⟨#[]⟩]] W fun e w' => e = .returned (.bool (widV ⟨2, uz u, []⟩)) ∧ Below W.heap.size W w') := fun W => wide_any ⟨2, uz u, []⟩ ⟨⟨by show _ ≤ (2 : Int); decide, by show (2 : Int) ≤ _; decide⟩, huz, Nat.zero_le _⟩ W
    clear hq hu
    generalize uz u = n at *
    generalize widV ⟨2, n, []⟩ = bv at *
    go_enter Tryz.func139, Tryz.ntmps139
    go_wp2_with fail
    refine HRG.out.mono ?_
    rintro e w1 ⟨rfl, a', m, rfl, hr⟩
    have HR1 := Lib.hid hr
    clear hr HRG
    go_wp2_with (go_at_call 158; refine (HUZ.out _).mono ?_; rintro e w' ⟨rfl, rfl⟩)
    refine (HNU.out _ _).mono ?_
    rintro e w1 ⟨rfl, hbb⟩
    have hT1 := HT0.out.below hbb HT0.out.lt
    have hbA : Below w1.heap.size w1 (w1.alloc (.cells #[.int .i64 2, .int .i64 n, .string ⟨#[]⟩] 45)) := (Below.self w1).alloc (Nat.le_refl _) _
    have HN := Lib.hid (Trio.new w1 45 (.int .i64 2) (.int .i64 n) (.string ⟨#[]⟩))
    have hb1 := HB0.out.trans (hbb.mono HB0.out.size)
    have HB2 : Hid (Below w.heap.size w (w1.alloc (.cells #[.int .i64 2, .int .i64 n, .string ⟨#[]⟩] 45))) := hb1.trans (hbA.mono hb1.size)
    have HT2 := Lib.hid (hT1.below hbA hT1.lt)
    have HR2 := Lib.hid ((HR1.out.below hbb).below hbA)
    clear hbb hbA hT1 hb1 HB0 HT0 HR1
    go_wp2_with fail
    obtain ⟨B, hB⟩ : ∃ B, w1.heap.size = B := ⟨_, rfl⟩
    rw [hB] at HN ⊢
    clear hB
    generalize w1.alloc (.cells #[.int .i64 2, .int .i64 n, .string ⟨#[]⟩] 45) = V at *
    refine (HWD.out _).mono ?_
    rintro e w2 ⟨rfl, hbb⟩
    have HB3 : Hid (Below w.heap.size w w2) := HB2.out.trans (hbb.mono HB2.out.size)
    have HR3 := Lib.hid (HR2.out.below hbb)
    have hT3 := HT2.out.below hbb HT2.out.lt
    have hN3 := HN.out.below hbb HN.out.lt
    clear hbb HB2 HT2 HN HR2
    have c0 := hT3.c0
    have c1 := hT3.c1
    have c2 := hT3.c2
    have f0 := hT3.f 0
    have f1 := hT3.f 1
    have f2 := hT3.f 2
    have plt := hT3.lt
    have d0 := hN3.c0
    have d1 := hN3.c1
    have d2 := hN3.c2
    clear hT3 hN3
    cases bv with
    | false =>
      have HQ2 : Hid (rdNum bs = (Vl.null, 0, 5)) := HQ.out.trans (if_neg (by simp))
      go_wp2
      exact bodyPost_ret (v := .tuple #[.agg #[.int .i64 0, .int .i64 0, .string ⟨#[]⟩], .slice none 0 0, .int .i64 5]) (by simp [results, Tryz.results139, go_sem, c0, c1, c2]) rfl (RdPost.bad HQ2.out (by decide) (below_put3 HB3.out (Nat.le_refl _) _ _ _) rfl)
    | true =>
      have HQ2 : Hid (rdNum bs = (⟨2, n, []⟩, c, 0)) := HQ.out.trans (if_pos (by simp))
      go_wp2
      exact bodyPost_ret (v := .tuple #[.agg #[.int .i64 2, .int .i64 n, .string ⟨#[]⟩], .slice a' m m, .int .i64 0]) (by simp [results, Tryz.results139, go_sem, c0, c1, c2]) rfl (RdPost.goodW HQ2.out (below_put3 HB3.out (Nat.le_refl _) _ _ _) rfl (HR3.out.put3 (fun b hb e => by subst e; exact absurd (HK.out _ hb) (Nat.lt_irrefl _)) _ _ _))
  · have HQ := Lib.hid (num_bad (r := bs) (x := x) (by rw [hq]) hx)
    have HRG := Lib.hid (read_bad ho HR0.out hx (by rw [hq]))
    have HX := Lib.hid hx
    have hxx : (x != 0) = true := by simpa using hx
    have c0 := HT0.out.c0
    have c1 := HT0.out.c1
    have c2 := HT0.out.c2
    clear hq hu hx
    go_enter Tryz.func139, Tryz.ntmps139
    go_wp2_with fail
    refine HRG.out.mono ?_
    rintro e w1 ⟨rfl, rfl⟩
    go_wp2
    exact bodyPost_ret (v := .tuple #[.agg #[.int .i64 0, .int .i64 0, .string ⟨#[]⟩], .slice none 0 0, .int .i64 x]) (by simp [results, Tryz.results139, go_sem]) rfl (RdPost.bad HQ.out HX.out HB0.out rfl)

end Go.Proofs.YtocnkjnlmciojaaGreatDoor

namespace Go.Proofs.YtocnkjnlmciojaaGreatDoor
open Go Go.RowKit Go.Shelf Go.ChangeShapes Go.WideShapes Go.ChangeAt

theorem txt_err {r : List Int} {x : Int} (h : (rdS r).2.2 = x) (hx : x ≠ 0) : rdTxt r = (Vl.null, 0, x) := by unfold rdTxt; rw [if_pos (by rw [h]; exact hx), h]
theorem txt_big {r : List Int} {u : Int} {c : Nat} (h : rdS r = (u, c, 0)) (h40 : 40 < u) : rdTxt r = (Vl.null, 0, 5) := by
  unfold rdTxt; rw [h, if_neg (fun h => h rfl), if_pos h40]
theorem txt_short {r : List Int} {u : Int} {c : Nat} (h : rdS r = (u, c, 0)) (h40 : ¬ 40 < u) (hl : ((r.drop c).length : Int) < u) : rdTxt r = (Vl.null, 0, 7) := by
  unfold rdTxt; rw [h, if_neg (fun h => h rfl), if_neg h40, if_pos hl]
theorem txt_good {r : List Int} {u : Nat} {c : Nat} (h : rdS r = ((u : Int), c, 0)) (h40 : ¬ 40 < (u : Int)) (hl : ¬ ((r.drop c).length : Int) < (u : Int)) : rdTxt r = if txtB (strU ((r.drop c).take u)) = true then (⟨3, 0, strU ((r.drop c).take u)⟩, c + u, 0) else (Vl.null, 0, 5) := by
  unfold rdTxt; rw [h, if_neg (fun h => h rfl), if_neg h40, if_neg hl]; rfl

set_option maxRecDepth 100000 in
set_option maxHeartbeats 2000000 in
theorem readText_any {K : Nat → Prop} {a : Option Addr} {len : Nat} {bs : List Int} (ho : Oct bs) {w : World} (hR : Rd K w .u8 a len len bs) (hK : ∀ b, K b → b < w.heap.size) :
    Calls Tryz.prog 140 #[.slice a len len] w (RdPost K (rdTxt bs) bs w) := by
  have hb0 : Below w.heap.size w (w.alloc (.cells #[.int .i64 0, .int .i64 0, .string ⟨#[]⟩] 45)) := (Below.self w).alloc (Nat.le_refl _) _
  have HB0 := Lib.hid hb0
  have HT0 := Lib.hid (Trio.new w 45 (.int .i64 0) (.int .i64 0) (.string ⟨#[]⟩))
  have HR0 := Lib.hid (hR.below hb0)
  have HK := Lib.hid hK
  have hu := rdS_u645 ho
  obtain ⟨u, c, x, hq⟩ : ∃ u c x, rdS bs = (u, c, x) := ⟨_, _, _, rfl⟩
  rw [hq] at hu
  have hu : U64 u := hu
  clear hR hb0 hK
  by_cases hx : x = 0
  · subst hx
    have HRG := Lib.hid (read_good ho HR0.out hq)
    obtain ⟨n, rfl⟩ : ∃ n : Nat, u = n := ⟨u.toNat, by have := hu.1; omega⟩
    have hn64 : n < 18446744073709551616 := by have := hu.2; omega
    have HQ := Lib.hid hq
    clear hq hu
    by_cases h40 : 40 < n
    · have HE := Lib.hid (txt_big HQ.out (by omega))
      have c0 := HT0.out.c0
      have c1 := HT0.out.c1
      have c2 := HT0.out.c2
      go_enter Tryz.func140, Tryz.ntmps140
      go_wp2_with fail
      refine HRG.out.mono ?_
      rintro e w1 ⟨rfl, a', m, rfl, hr⟩
      clear hr HRG
      go_wp2
      exact bodyPost_ret (v := .tuple #[.agg #[.int .i64 0, .int .i64 0, .string ⟨#[]⟩], .slice none 0 0, .int .i64 5]) (by simp [results, Tryz.results140, go_sem]) rfl (RdPost.bad HE.out (by decide) HB0.out rfl)
    · go_enter Tryz.func140, Tryz.ntmps140
      go_wp2_with fail
      refine HRG.out.mono ?_
      rintro e w1 ⟨rfl, a', m, rfl, hr⟩
      have hml := hr.small
      have HM : Hid ((bs.drop c).length = m) := hr.hl.symm
      have HR1 := Lib.hid hr
      have hmw : IntKind.u64.wrap (m : Int) = m := by simp [IntKind.wrap, IntKind.bits, IntKind.signed]; omega
      clear hr HRG
      by_cases hmn : m < n
      · have HE := Lib.hid (txt_short HQ.out (by omega) (by rw [HM.out]; omega))
        have c0 := HT0.out.c0
        have c1 := HT0.out.c1
        have c2 := HT0.out.c2
        go_wp2
        exact bodyPost_ret (v := .tuple #[.agg #[.int .i64 0, .int .i64 0, .string ⟨#[]⟩], .slice none 0 0, .int .i64 7]) (by simp [results, Tryz.results140, go_sem]) rfl (RdPost.bad HE.out (by decide) HB0.out rfl)
      · have hnm : n ≤ m := by omega
        have HE := Lib.hid (txt_good HQ.out (by omega) (by rw [HM.out]; omega))
        have hRt : Rd K (w.alloc (.cells #[.int .i64 0, .int .i64 0, .string ⟨#[]⟩] 45)) .u8 a' n m ((bs.drop c).take n) := ⟨by rw [List.length_take, HM.out]; omega, hnm, by have := HR1.out.top; omega, by omega, fun h0 => by
          obtain ⟨b1, off1, e, hk, hlt, hc⟩ := HR1.out.cells (by omega)
          exact ⟨b1, off1, e, hk, hlt, fun j hj => by rw [List.getElem?_take_of_lt hj]; exact hc j (by omega)⟩⟩
        have hcv := conv_back hRt _ rfl
        have hsl : (strU ((bs.drop c).take n)).length ≤ 40 := by rw [strU_len, List.length_take]; omega
        have HTX : Hid (∀ (W : World), Calls Tryz.prog 87 #[.string (bsOf (strU ((bs.drop c).take n)))] W fun e w' => e = .returned (.agg #[.int .i64 3, .int .i64 0, .string (bsOf (strU ((bs.drop c).take n)))]) ∧ Below W.heap.size W w') := fun W => txt_any _ W
        have HVL : Hid (∀ (W : World), Calls Tryz.prog 30 #[.agg #[.int .i64 3, .int .i64 0, .string (bsOf (strU ((bs.drop c).take n)))]] W fun e w' => e = .returned (.bool (txtB (strU ((bs.drop c).take n)))) ∧ Below W.heap.size W w') := fun W => by
          have := valid_any ⟨3, 0, strU ((bs.drop c).take n)⟩ ⟨⟨by show _ ≤ (3 : Int); decide, by show (3 : Int) ≤ _; decide⟩, ⟨by show _ ≤ (0 : Int); decide, by show (0 : Int) ≤ _; decide⟩, Nat.le_trans hsl (by decide)⟩ W
          rw [vld3] at this
          exact this
        have HD : Hid (bs.drop (c + n) = (bs.drop c).drop n) := by show _ = _; rw [List.drop_drop]
        have HTW := Lib.hid (Trio.new w 45 (.int .i64 3) (.int .i64 0) (.string (bsOf (strU ((bs.drop c).take n)))))
        clear hRt hsl
        generalize strU ((bs.drop c).take n) = ts at *
        generalize txtB ts = bv at *
        go_wp2_with fail
        refine (HTX.out _).mono ?_
        rintro e w1 ⟨rfl, hbb⟩
        have hT1 := HT0.out.below hbb HT0.out.lt
        have hbA : Below w1.heap.size w1 (w1.alloc (.cells #[.int .i64 3, .int .i64 0, .string (bsOf ts)] 45)) := (Below.self w1).alloc (Nat.le_refl _) _
        have HN := Lib.hid (Trio.new w1 45 (.int .i64 3) (.int .i64 0) (.string (bsOf ts)))
        have hb1 := HB0.out.trans (hbb.mono HB0.out.size)
        have HB2 : Hid (Below w.heap.size w (w1.alloc (.cells #[.int .i64 3, .int .i64 0, .string (bsOf ts)] 45))) := hb1.trans (hbA.mono hb1.size)
        have HT2 := Lib.hid (hT1.below hbA hT1.lt)
        have HR2 := Lib.hid ((HR1.out.below hbb).below hbA)
        clear hbb hbA hT1 hb1 HB0 HT0 HR1 hcv HTW
        go_wp2_with fail
        obtain ⟨B, hB⟩ : ∃ B, w1.heap.size = B := ⟨_, rfl⟩
        rw [hB] at HN ⊢
        clear hB
        generalize w1.alloc (.cells #[.int .i64 3, .int .i64 0, .string (bsOf ts)] 45) = V at *
        refine (HVL.out _).mono ?_
        rintro e w2 ⟨rfl, hbb⟩
        have HB3 : Hid (Below w.heap.size w w2) := HB2.out.trans (hbb.mono HB2.out.size)
        have HR3 := Lib.hid (HR2.out.below hbb)
        have hT3 := HT2.out.below hbb HT2.out.lt
        have hN3 := HN.out.below hbb HN.out.lt
        clear hbb HB2 HT2 HN HR2
        have c0 := hT3.c0
        have c1 := hT3.c1
        have c2 := hT3.c2
        have f0 := hT3.f 0
        have f1 := hT3.f 1
        have f2 := hT3.f 2
        have plt := hT3.lt
        have d0 := hN3.c0
        have d1 := hN3.c1
        have d2 := hN3.c2
        clear hT3 hN3
        cases bv with
        | false =>
          have HQ2 : Hid (rdTxt bs = (Vl.null, 0, 5)) := HE.out.trans (if_neg (by simp))
          go_wp2
          exact bodyPost_ret (v := .tuple #[.agg #[.int .i64 0, .int .i64 0, .string ⟨#[]⟩], .slice none 0 0, .int .i64 5]) (by simp [results, Tryz.results140, go_sem, c0, c1, c2]) rfl (RdPost.bad HQ2.out (by decide) (below_put3 HB3.out (Nat.le_refl _) _ _ _) rfl)
        | true =>
          have HQ2 : Hid (rdTxt bs = (⟨3, 0, ts⟩, c + n, 0)) := HE.out.trans (if_pos (by simp))
          by_cases hm0 : 0 < m
          · obtain ⟨b, off, rfl, _⟩ := HR3.out.cells hm0
            by_cases he : n = m
            · subst he
              have HRR : Hid (Rd K w2 .u8 (some ⟨b, off, none⟩) 0 0 (bs.drop (c + n))) := by
                have := HR3.out.rest n (Nat.le_refl _) 0 (by omega) (by omega) (some ⟨b, off, none⟩) (fun h => by omega)
                rw [Nat.sub_self] at this
                show Rd _ _ _ _ _ _ _
                rw [HD.out]; exact this
              go_wp2_with fail
              go_region
              all_goals
                go_wp2
                exact bodyPost_ret (v := .tuple #[.agg #[.int .i64 3, .int .i64 0, .string (bsOf ts)], .slice (some ⟨b, off, none⟩) 0 0, .int .i64 0]) (by simp [results, Tryz.results140, go_sem, c0, c1, c2]) rfl (RdPost.goodW HQ2.out (below_drewN (below_put3 HB3.out (Nat.le_refl _) _ _ _) 1) rfl ((HRR.out.put3 (fun b hb e => by subst e; exact absurd (HK.out _ hb) (Nat.lt_irrefl _)) _ _ _).heap rfl))
            · have hlt : n < m := by omega
              have HRR : Hid (Rd K w2 .u8 (some ⟨b, off + n, none⟩) (m - n) (m - n) (bs.drop (c + n))) := by
                have := HR3.out.rest n (by omega) (m - n) (by omega) (by omega) _ (fun _ => rfl)
                show Rd _ _ _ _ _ _ _
                rw [HD.out]; exact this
              clear he
              go_wp2_with fail
              go_region
              all_goals
                go_wp2
                exact bodyPost_ret (v := .tuple #[.agg #[.int .i64 3, .int .i64 0, .string (bsOf ts)], .slice (some ⟨b, off + n, none⟩) (m - n) (m - n), .int .i64 0]) (by simp [results, Tryz.results140, go_sem, c0, c1, c2]) rfl (RdPost.goodW HQ2.out (below_drewN (below_put3 HB3.out (Nat.le_refl _) _ _ _) 1) rfl ((HRR.out.put3 (fun b hb e => by subst e; exact absurd (HK.out _ hb) (Nat.lt_irrefl _)) _ _ _).heap rfl))
          · obtain rfl : m = 0 := by omega
            obtain rfl : n = 0 := by omega
            have HRR : Hid (∀ a'', Rd K w2 .u8 a'' 0 0 (bs.drop (c + 0))) := fun a'' => by
              rw [HD.out, List.eq_nil_of_length_eq_zero HM.out]
              exact Rd.empty
            cases a' with
            | none =>
              go_wp2_with fail
              go_region
              all_goals
                go_wp2
                exact bodyPost_ret (v := .tuple #[.agg #[.int .i64 3, .int .i64 0, .string (bsOf ts)], .slice none 0 0, .int .i64 0]) (by simp [results, Tryz.results140, go_sem, c0, c1, c2]) rfl (RdPost.goodW HQ2.out (below_drewN (below_put3 HB3.out (Nat.le_refl _) _ _ _) 1) rfl (((HRR.out none).put3 (fun b hb e => by subst e; exact absurd (HK.out _ hb) (Nat.lt_irrefl _)) _ _ _).heap rfl))
            | some p =>
              go_wp2_with fail
              go_region
              all_goals
                go_wp2
                exact bodyPost_ret (v := .tuple #[.agg #[.int .i64 3, .int .i64 0, .string (bsOf ts)], .slice (some p) 0 0, .int .i64 0]) (by simp [results, Tryz.results140, go_sem, c0, c1, c2]) rfl (RdPost.goodW HQ2.out (below_drewN (below_put3 HB3.out (Nat.le_refl _) _ _ _) 1) rfl (((HRR.out (some p)).put3 (fun b hb e => by subst e; exact absurd (HK.out _ hb) (Nat.lt_irrefl _)) _ _ _).heap rfl))
  · have HQ := Lib.hid (txt_err (r := bs) (x := x) (by rw [hq]) hx)
    have HRG := Lib.hid (read_bad ho HR0.out hx (by rw [hq]))
    have HX := Lib.hid hx
    have hxx : (x != 0) = true := by simpa using hx
    have c0 := HT0.out.c0
    have c1 := HT0.out.c1
    have c2 := HT0.out.c2
    clear hq hu hx
    go_enter Tryz.func140, Tryz.ntmps140
    go_wp2_with fail
    refine HRG.out.mono ?_
    rintro e w1 ⟨rfl, rfl⟩
    go_wp2
    exact bodyPost_ret (v := .tuple #[.agg #[.int .i64 0, .int .i64 0, .string ⟨#[]⟩], .slice none 0 0, .int .i64 x]) (by simp [results, Tryz.results140, go_sem]) rfl (RdPost.bad HQ.out HX.out HB0.out rfl)

theorem one_bad {q : Vl × Nat × Int} (h : q.2.2 ≠ 0) : one q = q := if_neg h
theorem one_good {q : Vl × Nat × Int} (h : q.2.2 = 0) : one q = (q.1, q.2.1 + 1, 0) := if_pos h

/-- What is read behind the kind, as what is read. -/
theorem RdPost.one_good {K : Nat → Prop} {v : Vl} {c : Nat} {z x : Int} {r : List Int} {w : World} {e : Ending} {W' : World} {q : Vl × Nat × Int} (hq : q = one (v, c, z)) (h : z = 0) (hb : Below w.heap.size w W') {a' : Option Addr} {m : Nat} (he : e = .returned (.tuple #[encV v, .slice a' m m, .int .i64 0])) (hr : Rd K W' .u8 a' m m (r.drop c)) : RdPost K q (x :: r) w e W' := by
  subst hq h
  exact ⟨hb, .inl ⟨rfl, a', m, he, hr⟩⟩
theorem RdPost.one_bad {K : Nat → Prop} {v : Vl} {c : Nat} {z x : Int} {r : List Int} {w : World} {e : Ending} {W' : World} {q : Vl × Nat × Int} (hq : q = one (v, c, z)) (h : z ≠ 0) (hb : Below w.heap.size w W') (he : e = .returned (.tuple #[encV Vl.null, .slice none 0 0, .int .i64 z])) : RdPost K q (x :: r) w e W' := by
  subst hq
  have : one (v, c, z) = (v, c, z) := if_neg h
  rw [this]
  exact ⟨hb, .inr ⟨h, he⟩⟩

set_option maxRecDepth 100000 in
set_option maxHeartbeats 2000000 in
theorem readV_nil {K : Nat → Prop} {a : Option Addr} {cap : Nat} {w : World} : Calls Tryz.prog 110 #[.slice a 0 cap] w (RdPost K (rdV []) [] w) := by
  have HB0 : Hid (Below w.heap.size w (w.alloc (.cells #[.int .i64 0, .int .i64 0, .string ⟨#[]⟩] 45))) := (Below.self w).alloc (Nat.le_refl _) _
  have hT0 := Trio.new w 45 (.int .i64 0) (.int .i64 0) (.string ⟨#[]⟩)
  have c0 := hT0.c0
  have c1 := hT0.c1
  have c2 := hT0.c2
  go_enter Tryz.func110, Tryz.ntmps110
  go_wp2
  exact bodyPost_ret (v := .tuple #[.agg #[.int .i64 0, .int .i64 0, .string ⟨#[]⟩], .slice none 0 0, .int .i64 7]) (by simp [results, Tryz.results110, go_sem]) rfl (RdPost.bad rfl (by decide) HB0.out rfl)

set_option maxRecDepth 100000 in
set_option maxHeartbeats 4000000 in
theorem readV_cons {K : Nat → Prop} {b off len cap : Nat} {x : Int} {r : List Int} (ho : Oct (x :: r)) {w : World} (hR : Rd K w .u8 (some ⟨b, off, none⟩) len cap (x :: r)) (hK : ∀ b, K b → b < w.heap.size) :
    Calls Tryz.prog 110 #[.slice (some ⟨b, off, none⟩) len cap] w (RdPost K (rdV (x :: r)) (x :: r) w) := by
  have hlen : 0 < len := by have : len = r.length + 1 := hR.hl; omega
  have hfit := hR.fit
  have htop := hR.top
  have hsm := hR.small
  have hx := ho.head
  have hor : Oct r := fun y hy => ho y (List.mem_cons_of_mem _ hy)
  obtain ⟨b', off', e, hkb, hb, hc⟩ := hR.cells hlen
  obtain ⟨rfl, rfl⟩ : b = b' ∧ off = off' := by cases e; exact ⟨rfl, rfl⟩
  have hcx : w.cell? ⟨b, off, none⟩ = some (.int .u8 x) := hc 0 hlen
  have hb0 : Below w.heap.size w (w.alloc (.cells #[.int .i64 0, .int .i64 0, .string ⟨#[]⟩] 45)) := (Below.self w).alloc (Nat.le_refl _) _
  have HB0 := Lib.hid hb0
  have HT0 := Lib.hid (Trio.new w 45 (.int .i64 0) (.int .i64 0) (.string ⟨#[]⟩))
  have HCX : Hid (World.cell? _ ⟨b, off, none⟩ = some (.int .u8 x)) := (hb0.cell (p := ⟨b, off, none⟩) hb).trans hcx
  have HR := Lib.hid hR
  have HK := Lib.hid hK
  have HRD : Hid (rdV (x :: r) = if x = 0 then (Vl.null, 1, 0) else if x = 1 then one (rdBool r) else if x = 2 then one (rdNum r) else if x = 3 then one (rdTxt r) else (Vl.null, 0, 5)) := rfl
  clear hR hK hc hcx hb0
  go_enter Tryz.func110, Tryz.ntmps110
  go_upto_region 3 with fail
  generalize w.alloc (.cells #[.int .i64 0, .int .i64 0, .string ⟨#[]⟩] 45) = V at *
  have K0 := fun d os => cell_regrown HCX.out d os
  by_cases hcap : cap = 1
  · subst hcap
    obtain rfl : len = 1 := by omega
    have HRM : Hid (Rd K w .u8 (some ⟨b, off, none⟩) 0 0 r) := HR.out.rest 1 (Nat.le_refl _) 0 (Nat.le_refl _) (by omega) _ (fun h => by omega)
    have HCL : Hid (∀ W : World, Calls Tryz.prog 137 #[.slice (some ⟨b, off, none⟩) 0 0] W fun e w' => e = .returned (.slice (some ⟨b, off, none⟩) 0 0) ∧ Below W.heap.size W w') := fun W => (clip_any _ 0 0 (Nat.le_refl _) (by decide) W).mono fun e w' ⟨he, hw⟩ => ⟨he, by rw [← hw]; exact Below.self W⟩
    clear hfit htop hsm hlen
    refine wp_region_quiet_below (by kernel_rfl) (by kernel_rfl) ?_
    repeat (go_big_quiet_step (first
      | (go_at_call 137; with_reducible exact Calls.regrown_of (HCL.out _))))
    refine wpQuiet_nil ?_
    intro _ hw'
    obtain ⟨⟨dq, osq⟩, hw''⟩ := hw'
    subst hw''
    have hbq := below_regrown V dq osq
    have HBQ : Hid (Below w.heap.size w (Go.Sort.grow (redrawn V dq) osq)) := HB0.out.trans (hbq.mono HB0.out.size)
    have HTQ := Lib.hid (HT0.out.below hbq HT0.out.lt)
    clear hbq K0
    generalize Go.Sort.grow (redrawn V dq) osq = WQ at *
    have HRQ := Lib.hid (HRM.out.below HBQ.out)
    have HKQ : Hid (∀ b, K b → b < WQ.heap.size) := fun b hb => Nat.lt_of_lt_of_le (HK.out b hb) HBQ.out.size
    have c0 := HTQ.out.c0
    have c1 := HTQ.out.c1
    have c2 := HTQ.out.c2
    have f0 := HTQ.out.f 0
    have f1 := HTQ.out.f 1
    have f2 := HTQ.out.f 2
    have plt := HTQ.out.lt
    by_cases h0 : x = 0
    · subst h0
      have HQ : Hid (rdV (0 :: r) = (Vl.null, 1, 0)) := HRD.out.trans (if_pos rfl)
      clear HRD
      go_wp2
      exact bodyPost_ret (v := .tuple #[.agg #[.int .i64 0, .int .i64 0, .string ⟨#[]⟩], .slice _ _ _, .int .i64 0]) (by simp [results, Tryz.results110, go_sem, c0, c1, c2]) rfl (RdPost.good HQ.out (below_put3 HBQ.out (Nat.le_refl _) _ _ _) rfl HRM.out)
    · by_cases h1 : x = 1
      · subst h1
        have HQ : Hid (rdV (1 :: r) = one (rdBool r)) := by show _ = _; rw [HRD.out]; simp
        clear HRD
        go_wp2_with fail
        refine (readBool_any hor HRQ.out).mono ?_
        clear c0 c1 c2 f0 f1 f2 plt
        generalize rdBool r = q at *
        obtain ⟨⟨vk, vi, vs⟩, c, z⟩ := q
        rintro e w3 ⟨hb3, hp⟩
        have HB3 : Hid (Below w.heap.size w w3) := HBQ.out.trans (hb3.mono HBQ.out.size)
        have hT3 := HTQ.out.below hb3 HTQ.out.lt
        have c0 := hT3.c0
        have c1 := hT3.c1
        have c2 := hT3.c2
        have f0 := hT3.f 0
        have f1 := hT3.f 1
        have f2 := hT3.f 2
        have plt := hT3.lt
        clear hb3 hT3
        rcases hp with ⟨hz, a', m, rfl, hr⟩ | ⟨hz, rfl⟩
        · have HR3 := Lib.hid hr
          have HZ := Lib.hid hz
          clear hr hz
          unfold encV
          dsimp only
          go_wp2
          exact bodyPost_ret (v := .tuple #[.agg #[.int .i64 vk, .int .i64 vi, .string (bsOf vs)], .slice a' m m, .int .i64 0]) (by simp [results, Tryz.results110, go_sem, c0, c1, c2]) rfl (RdPost.one_good HQ.out HZ.out (below_put3 HB3.out (Nat.le_refl _) _ _ _) rfl (HR3.out.put3 (fun b hb e => by subst e; exact absurd (HK.out _ hb) (Nat.lt_irrefl _)) _ _ _))
        · have HZ := Lib.hid hz
          clear hz
          unfold encV
          dsimp only [Vl.null]
          go_wp2
          exact bodyPost_ret (v := .tuple #[.agg #[.int .i64 0, .int .i64 0, .string (bsOf [])], .slice none 0 0, .int .i64 z]) (by simp [results, Tryz.results110, go_sem, c0, c1, c2]) rfl (RdPost.one_bad HQ.out HZ.out (below_put3 HB3.out (Nat.le_refl _) _ _ _) rfl)
      · by_cases h2 : x = 2
        · subst h2
          have HQ : Hid (rdV (2 :: r) = one (rdNum r)) := by show _ = _; rw [HRD.out]; simp
          clear HRD
          go_wp2_with fail
          refine (readNumber_any hor HRQ.out HKQ.out).mono ?_
          clear c0 c1 c2 f0 f1 f2 plt
          generalize rdNum r = q at *
          obtain ⟨⟨vk, vi, vs⟩, c, z⟩ := q
          rintro e w3 ⟨hb3, hp⟩
          have HB3 : Hid (Below w.heap.size w w3) := HBQ.out.trans (hb3.mono HBQ.out.size)
          have hT3 := HTQ.out.below hb3 HTQ.out.lt
          have c0 := hT3.c0
          have c1 := hT3.c1
          have c2 := hT3.c2
          have f0 := hT3.f 0
          have f1 := hT3.f 1
          have f2 := hT3.f 2
          have plt := hT3.lt
          clear hb3 hT3
          rcases hp with ⟨hz, a', m, rfl, hr⟩ | ⟨hz, rfl⟩
          · have HR3 := Lib.hid hr
            have HZ := Lib.hid hz
            clear hr hz
            unfold encV
            dsimp only
            go_wp2
            exact bodyPost_ret (v := .tuple #[.agg #[.int .i64 vk, .int .i64 vi, .string (bsOf vs)], .slice a' m m, .int .i64 0]) (by simp [results, Tryz.results110, go_sem, c0, c1, c2]) rfl (RdPost.one_good HQ.out HZ.out (below_put3 HB3.out (Nat.le_refl _) _ _ _) rfl (HR3.out.put3 (fun b hb e => by subst e; exact absurd (HK.out _ hb) (Nat.lt_irrefl _)) _ _ _))
          · have HZ := Lib.hid hz
            clear hz
            unfold encV
            dsimp only [Vl.null]
            go_wp2
            exact bodyPost_ret (v := .tuple #[.agg #[.int .i64 0, .int .i64 0, .string (bsOf [])], .slice none 0 0, .int .i64 z]) (by simp [results, Tryz.results110, go_sem, c0, c1, c2]) rfl (RdPost.one_bad HQ.out HZ.out (below_put3 HB3.out (Nat.le_refl _) _ _ _) rfl)
        · by_cases h3 : x = 3
          · subst h3
            have HQ : Hid (rdV (3 :: r) = one (rdTxt r)) := by show _ = _; rw [HRD.out]; simp
            clear HRD
            go_wp2_with fail
            refine (readText_any hor HRQ.out HKQ.out).mono ?_
            clear c0 c1 c2 f0 f1 f2 plt
            generalize rdTxt r = q at *
            obtain ⟨⟨vk, vi, vs⟩, c, z⟩ := q
            rintro e w3 ⟨hb3, hp⟩
            have HB3 : Hid (Below w.heap.size w w3) := HBQ.out.trans (hb3.mono HBQ.out.size)
            have hT3 := HTQ.out.below hb3 HTQ.out.lt
            have c0 := hT3.c0
            have c1 := hT3.c1
            have c2 := hT3.c2
            have f0 := hT3.f 0
            have f1 := hT3.f 1
            have f2 := hT3.f 2
            have plt := hT3.lt
            clear hb3 hT3
            rcases hp with ⟨hz, a', m, rfl, hr⟩ | ⟨hz, rfl⟩
            · have HR3 := Lib.hid hr
              have HZ := Lib.hid hz
              clear hr hz
              unfold encV
              dsimp only
              go_wp2
              exact bodyPost_ret (v := .tuple #[.agg #[.int .i64 vk, .int .i64 vi, .string (bsOf vs)], .slice a' m m, .int .i64 0]) (by simp [results, Tryz.results110, go_sem, c0, c1, c2]) rfl (RdPost.one_good HQ.out HZ.out (below_put3 HB3.out (Nat.le_refl _) _ _ _) rfl (HR3.out.put3 (fun b hb e => by subst e; exact absurd (HK.out _ hb) (Nat.lt_irrefl _)) _ _ _))
            · have HZ := Lib.hid hz
              clear hz
              unfold encV
              dsimp only [Vl.null]
              go_wp2
              exact bodyPost_ret (v := .tuple #[.agg #[.int .i64 0, .int .i64 0, .string (bsOf [])], .slice none 0 0, .int .i64 z]) (by simp [results, Tryz.results110, go_sem, c0, c1, c2]) rfl (RdPost.one_bad HQ.out HZ.out (below_put3 HB3.out (Nat.le_refl _) _ _ _) rfl)
          · have HQ : Hid (rdV (x :: r) = (Vl.null, 0, 5)) := by show _ = _; rw [HRD.out, if_neg h0, if_neg h1, if_neg h2, if_neg h3]
            have e0 : (x == 0) = false := by simpa using h0
            have e1 : (x == 1) = false := by simpa using h1
            have e2 : (x == 2) = false := by simpa using h2
            have e3 : (x == 3) = false := by simpa using h3
            clear HRD h0 h1 h2 h3
            go_wp2
            exact bodyPost_ret (v := .tuple #[.agg #[.int .i64 0, .int .i64 0, .string ⟨#[]⟩], .slice none 0 0, .int .i64 5]) (by simp [results, Tryz.results110, go_sem, c0, c1, c2]) rfl (RdPost.bad HQ.out (by decide) (below_put3 HBQ.out (Nat.le_refl _) _ _ _) rfl)
  · have HRM : Hid (Rd K w .u8 (some ⟨b, off + 1, none⟩) (len - 1) (len - 1) r) := HR.out.rest 1 hlen (len - 1) (Nat.le_refl _) (by omega) _ (fun _ => rfl)
    have hcap1 : 1 < cap := by omega
    have HCL : Hid (∀ W : World, Calls Tryz.prog 137 #[.slice (some ⟨b, off + 1, none⟩) (len - 1) (cap - 1)] W fun e w' => e = .returned (.slice (some ⟨b, off + 1, none⟩) (len - 1) (len - 1)) ∧ Below W.heap.size W w') := fun W => (clip_any _ (len - 1) (cap - 1) (by omega) (by omega) W).mono fun e w' ⟨he, hw⟩ => ⟨he, by rw [← hw]; exact Below.self W⟩
    refine wp_region_quiet_below (by kernel_rfl) (by kernel_rfl) ?_
    repeat (go_big_quiet_step (first
      | (go_at_call 137; with_reducible exact Calls.regrown_of (HCL.out _))))
    refine wpQuiet_nil ?_
    intro _ hw'
    obtain ⟨⟨dq, osq⟩, hw''⟩ := hw'
    subst hw''
    have hbq := below_regrown V dq osq
    have HBQ : Hid (Below w.heap.size w (Go.Sort.grow (redrawn V dq) osq)) := HB0.out.trans (hbq.mono HB0.out.size)
    have HTQ := Lib.hid (HT0.out.below hbq HT0.out.lt)
    clear hbq K0
    generalize Go.Sort.grow (redrawn V dq) osq = WQ at *
    have HRQ := Lib.hid (HRM.out.below HBQ.out)
    have HKQ : Hid (∀ b, K b → b < WQ.heap.size) := fun b hb => Nat.lt_of_lt_of_le (HK.out b hb) HBQ.out.size
    have c0 := HTQ.out.c0
    have c1 := HTQ.out.c1
    have c2 := HTQ.out.c2
    have f0 := HTQ.out.f 0
    have f1 := HTQ.out.f 1
    have f2 := HTQ.out.f 2
    have plt := HTQ.out.lt
    by_cases h0 : x = 0
    · subst h0
      have HQ : Hid (rdV (0 :: r) = (Vl.null, 1, 0)) := HRD.out.trans (if_pos rfl)
      clear HRD
      go_wp2
      exact bodyPost_ret (v := .tuple #[.agg #[.int .i64 0, .int .i64 0, .string ⟨#[]⟩], .slice _ _ _, .int .i64 0]) (by simp [results, Tryz.results110, go_sem, c0, c1, c2]) rfl (RdPost.good HQ.out (below_put3 HBQ.out (Nat.le_refl _) _ _ _) rfl HRM.out)
    · by_cases h1 : x = 1
      · subst h1
        have HQ : Hid (rdV (1 :: r) = one (rdBool r)) := by show _ = _; rw [HRD.out]; simp
        clear HRD
        go_wp2_with fail
        refine (readBool_any hor HRQ.out).mono ?_
        clear c0 c1 c2 f0 f1 f2 plt
        generalize rdBool r = q at *
        obtain ⟨⟨vk, vi, vs⟩, c, z⟩ := q
        rintro e w3 ⟨hb3, hp⟩
        have HB3 : Hid (Below w.heap.size w w3) := HBQ.out.trans (hb3.mono HBQ.out.size)
        have hT3 := HTQ.out.below hb3 HTQ.out.lt
        have c0 := hT3.c0
        have c1 := hT3.c1
        have c2 := hT3.c2
        have f0 := hT3.f 0
        have f1 := hT3.f 1
        have f2 := hT3.f 2
        have plt := hT3.lt
        clear hb3 hT3
        rcases hp with ⟨hz, a', m, rfl, hr⟩ | ⟨hz, rfl⟩
        · have HR3 := Lib.hid hr
          have HZ := Lib.hid hz
          clear hr hz
          unfold encV
          dsimp only
          go_wp2
          exact bodyPost_ret (v := .tuple #[.agg #[.int .i64 vk, .int .i64 vi, .string (bsOf vs)], .slice a' m m, .int .i64 0]) (by simp [results, Tryz.results110, go_sem, c0, c1, c2]) rfl (RdPost.one_good HQ.out HZ.out (below_put3 HB3.out (Nat.le_refl _) _ _ _) rfl (HR3.out.put3 (fun b hb e => by subst e; exact absurd (HK.out _ hb) (Nat.lt_irrefl _)) _ _ _))
        · have HZ := Lib.hid hz
          clear hz
          unfold encV
          dsimp only [Vl.null]
          go_wp2
          exact bodyPost_ret (v := .tuple #[.agg #[.int .i64 0, .int .i64 0, .string (bsOf [])], .slice none 0 0, .int .i64 z]) (by simp [results, Tryz.results110, go_sem, c0, c1, c2]) rfl (RdPost.one_bad HQ.out HZ.out (below_put3 HB3.out (Nat.le_refl _) _ _ _) rfl)
      · by_cases h2 : x = 2
        · subst h2
          have HQ : Hid (rdV (2 :: r) = one (rdNum r)) := by show _ = _; rw [HRD.out]; simp
          clear HRD
          go_wp2_with fail
          refine (readNumber_any hor HRQ.out HKQ.out).mono ?_
          clear c0 c1 c2 f0 f1 f2 plt
          generalize rdNum r = q at *
          obtain ⟨⟨vk, vi, vs⟩, c, z⟩ := q
          rintro e w3 ⟨hb3, hp⟩
          have HB3 : Hid (Below w.heap.size w w3) := HBQ.out.trans (hb3.mono HBQ.out.size)
          have hT3 := HTQ.out.below hb3 HTQ.out.lt
          have c0 := hT3.c0
          have c1 := hT3.c1
          have c2 := hT3.c2
          have f0 := hT3.f 0
          have f1 := hT3.f 1
          have f2 := hT3.f 2
          have plt := hT3.lt
          clear hb3 hT3
          rcases hp with ⟨hz, a', m, rfl, hr⟩ | ⟨hz, rfl⟩
          · have HR3 := Lib.hid hr
            have HZ := Lib.hid hz
            clear hr hz
            unfold encV
            dsimp only
            go_wp2
            exact bodyPost_ret (v := .tuple #[.agg #[.int .i64 vk, .int .i64 vi, .string (bsOf vs)], .slice a' m m, .int .i64 0]) (by simp [results, Tryz.results110, go_sem, c0, c1, c2]) rfl (RdPost.one_good HQ.out HZ.out (below_put3 HB3.out (Nat.le_refl _) _ _ _) rfl (HR3.out.put3 (fun b hb e => by subst e; exact absurd (HK.out _ hb) (Nat.lt_irrefl _)) _ _ _))
          · have HZ := Lib.hid hz
            clear hz
            unfold encV
            dsimp only [Vl.null]
            go_wp2
            exact bodyPost_ret (v := .tuple #[.agg #[.int .i64 0, .int .i64 0, .string (bsOf [])], .slice none 0 0, .int .i64 z]) (by simp [results, Tryz.results110, go_sem, c0, c1, c2]) rfl (RdPost.one_bad HQ.out HZ.out (below_put3 HB3.out (Nat.le_refl _) _ _ _) rfl)
        · by_cases h3 : x = 3
          · subst h3
            have HQ : Hid (rdV (3 :: r) = one (rdTxt r)) := by show _ = _; rw [HRD.out]; simp
            clear HRD
            go_wp2_with fail
            refine (readText_any hor HRQ.out HKQ.out).mono ?_
            clear c0 c1 c2 f0 f1 f2 plt
            generalize rdTxt r = q at *
            obtain ⟨⟨vk, vi, vs⟩, c, z⟩ := q
            rintro e w3 ⟨hb3, hp⟩
            have HB3 : Hid (Below w.heap.size w w3) := HBQ.out.trans (hb3.mono HBQ.out.size)
            have hT3 := HTQ.out.below hb3 HTQ.out.lt
            have c0 := hT3.c0
            have c1 := hT3.c1
            have c2 := hT3.c2
            have f0 := hT3.f 0
            have f1 := hT3.f 1
            have f2 := hT3.f 2
            have plt := hT3.lt
            clear hb3 hT3
            rcases hp with ⟨hz, a', m, rfl, hr⟩ | ⟨hz, rfl⟩
            · have HR3 := Lib.hid hr
              have HZ := Lib.hid hz
              clear hr hz
              unfold encV
              dsimp only
              go_wp2
              exact bodyPost_ret (v := .tuple #[.agg #[.int .i64 vk, .int .i64 vi, .string (bsOf vs)], .slice a' m m, .int .i64 0]) (by simp [results, Tryz.results110, go_sem, c0, c1, c2]) rfl (RdPost.one_good HQ.out HZ.out (below_put3 HB3.out (Nat.le_refl _) _ _ _) rfl (HR3.out.put3 (fun b hb e => by subst e; exact absurd (HK.out _ hb) (Nat.lt_irrefl _)) _ _ _))
            · have HZ := Lib.hid hz
              clear hz
              unfold encV
              dsimp only [Vl.null]
              go_wp2
              exact bodyPost_ret (v := .tuple #[.agg #[.int .i64 0, .int .i64 0, .string (bsOf [])], .slice none 0 0, .int .i64 z]) (by simp [results, Tryz.results110, go_sem, c0, c1, c2]) rfl (RdPost.one_bad HQ.out HZ.out (below_put3 HB3.out (Nat.le_refl _) _ _ _) rfl)
          · have HQ : Hid (rdV (x :: r) = (Vl.null, 0, 5)) := by show _ = _; rw [HRD.out, if_neg h0, if_neg h1, if_neg h2, if_neg h3]
            have e0 : (x == 0) = false := by simpa using h0
            have e1 : (x == 1) = false := by simpa using h1
            have e2 : (x == 2) = false := by simpa using h2
            have e3 : (x == 3) = false := by simpa using h3
            clear HRD h0 h1 h2 h3
            go_wp2
            exact bodyPost_ret (v := .tuple #[.agg #[.int .i64 0, .int .i64 0, .string ⟨#[]⟩], .slice none 0 0, .int .i64 5]) (by simp [results, Tryz.results110, go_sem, c0, c1, c2]) rfl (RdPost.bad HQ.out (by decide) (below_put3 HBQ.out (Nat.le_refl _) _ _ _) rfl)

theorem readV_any {K : Nat → Prop} {a : Option Addr} {len cap : Nat} {bs : List Int} (ho : Oct bs) {w : World} (hR : Rd K w .u8 a len cap bs) (hK : ∀ b, K b → b < w.heap.size) :
    Calls Tryz.prog 110 #[.slice a len cap] w (RdPost K (rdV bs) bs w) := by
  rcases bs with _ | ⟨x, r⟩
  · obtain rfl : len = 0 := hR.hl
    exact readV_nil
  · obtain ⟨b, off, rfl, _⟩ := hR.cells (by have : len = r.length + 1 := hR.hl; omega)
    exact readV_cons ho hR hK

end Go.Proofs.YtocnkjnlmciojaaGreatDoor
