/-
  Fixed calls, whose results the document determines, come out true.
-/
import Derived.Test.YtocnkjnlmciojaaGreatDoorVlExPre
namespace Go.Proofs.YtocnkjnlmciojaaGreatDoor
open Go Go.RowKit Go.Shelf Go.ChangeShapes Go.WideShapes Go.ChangeAt

/-- What lies there from the first region on. -/
structure ExSt (w V : World) (B1 B2 : Nat) : Prop where
  b : Below w.heap.size w V
  v : De.Vars V
  h : Trio V B1 45 (.int .i64 2) (.int .i64 (-500000)) (.string ⟨#[]⟩)
  t : Trio V B2 45 (.int .i64 3) (.int .i64 0) (.string ⟨#[97, 34, 98]⟩)
theorem ExSt.later {w V U : World} {B1 B2 : Nat} (h : ExSt w V B1 B2) (hb : Below V.heap.size V U) : ExSt w U B1 B2 :=
  ⟨h.b.trans (hb.mono h.b.size), h.v.below hb, h.h.below hb h.h.lt, h.t.below hb h.t.lt⟩

set_option maxRecDepth 100000 in
set_option maxHeartbeats 8000000 in
theorem examples6_any (w : World) (hV : De.Vars w) : Calls Tryz.prog 28 #[] w fun e W' => e = .returned (.bool true) ∧ Below w.heap.size w W' := by
  have HV0 := Lib.hid hV
  clear hV
  go_enter Tryz.func28, Tryz.ntmps28
  go_wp2_with fail
  refine (ex_num (-500000) w).mono ?_
  rintro e w1 ⟨rfl, hb1⟩
  go_wp2_with fail
  refine (rStr_any ⟨#[97, 34, 98]⟩ w1).mono ?_
  rintro e w2 ⟨rfl, hb2⟩
  have hB2 := hb1.trans (hb2.mono hb1.size)
  have hbA : Below w2.heap.size w2 (w2.alloc (.cells #[.int .i64 2, .int .i64 (-500000), .string ⟨#[]⟩] 45)) := (Below.self w2).alloc (Nat.le_refl _) _
  have hbB : Below w2.heap.size w2 ((w2.alloc (.cells #[.int .i64 2, .int .i64 (-500000), .string ⟨#[]⟩] 45)).alloc (.cells #[.int .i64 3, .int .i64 0, .string ⟨#[97, 34, 98]⟩] 45)) := hbA.alloc (by simp) _
  go_upto_region 2 with fail
  have HS3 : Hid (ExSt w ((w2.alloc (.cells #[.int .i64 2, .int .i64 (-500000), .string ⟨#[]⟩] 45)).alloc (.cells #[.int .i64 3, .int .i64 0, .string ⟨#[97, 34, 98]⟩] 45)) w2.heap.size (w2.heap.size + 1)) := by
    have h2 := Trio.new (w2.alloc (.cells #[.int .i64 2, .int .i64 (-500000), .string ⟨#[]⟩] 45)) 45 (.int .i64 3) (.int .i64 0) (.string ⟨#[97, 34, 98]⟩)
    rw [World.size_alloc] at h2
    have hBB := hB2.trans (hbB.mono hB2.size)
    exact ⟨hBB, HV0.out.below hBB, (Below.heap_alloc _ _ _ (by simp)).trans (Trio.new w2 _ _ _ _), h2⟩
  obtain ⟨B1, hB1⟩ : ∃ B, w2.heap.size = B := ⟨_, rfl⟩
  rw [hB1] at HS3 ⊢
  clear hb1 hb2 hB2 hbA hbB hB1 HV0
  generalize (w2.alloc (.cells #[.int .i64 2, .int .i64 (-500000), .string ⟨#[]⟩] 45)).alloc (.cells #[.int .i64 3, .int .i64 0, .string ⟨#[97, 34, 98]⟩] 45) = w3 at *
  go_wp2_with fail
  refine (ex_null _).mono ?_
  rintro e w4 ⟨rfl, hb⟩
  have HS4 := Lib.hid (HS3.out.later hb)
  clear hb HS3
  go_wp2_with fail
  refine (ex_text Vl.null (ok_lit rfl rfl rfl) #[110, 117, 108, 108] (by decide +kernel) _ HS4.out.v).mono ?_
  rintro e w5 ⟨rfl, hb⟩
  have HS5 := Lib.hid (HS4.out.later hb)
  clear hb HS4
  go_wp2_with fail
  refine (ex_true _).mono ?_
  rintro e w6 ⟨rfl, hb⟩
  have HS6 := Lib.hid (HS5.out.later hb)
  clear hb HS5
  go_wp2_with fail
  refine (ex_text ⟨1, 1, []⟩ (ok_lit rfl rfl rfl) #[116, 114, 117, 101] (by decide +kernel) _ HS6.out.v).mono ?_
  rintro e w7 ⟨rfl, hb⟩
  have HS7 := Lib.hid (HS6.out.later hb)
  clear hb HS6
  have c0 := HS7.out.h.c0
  have c1 := HS7.out.h.c1
  have c2 := HS7.out.h.c2
  go_wp2_with fail
  refine (ex_text ⟨2, -500000, []⟩ (ok_lit rfl rfl rfl) #[45, 48, 46, 53] (by decide +kernel) _ HS7.out.v).mono ?_
  rintro e w8 ⟨rfl, hb⟩
  have HS8 := Lib.hid (HS7.out.later hb)
  clear hb HS7 c0 c1 c2
  have c0 := HS8.out.t.c0
  have c1 := HS8.out.t.c1
  have c2 := HS8.out.t.c2
  go_wp2_with fail
  refine (ex_text ⟨3, 0, [97, 34, 98]⟩ (ok_lit rfl rfl rfl) #[34, 97, 92, 34, 98, 34] (by decide +kernel) _ HS8.out.v).mono ?_
  rintro e w9 ⟨rfl, hb⟩
  have HS9 := Lib.hid (HS8.out.later hb)
  clear hb HS8 c0 c1 c2
  go_wp2_with fail
  refine (ex_text ⟨4, 0, []⟩ (ok_lit rfl rfl rfl) #[] (by decide +kernel) _ HS9.out.v).mono ?_
  rintro e w10 ⟨rfl, hb⟩
  have HS10 := Lib.hid (HS9.out.later hb)
  clear hb HS9
  go_upto_region 4 with fail
  have HT1 := Lib.hid HS10.out.h
  have HT2 := Lib.hid HS10.out.t
  have HVA := Lib.hid HS10.out.v
  have HB0 := Lib.hid HS10.out.b
  have HSX := HS10
  clear HS10
  refine wp_region_facts (by kernel_rfl) (fs := [Fact.is (.agg #[.int .i64 2, .int .i64 1000000, .string ⟨#[]⟩]), SlRd [2, 128, 137, 122], SlRd [2, 128, 137, 122], Fact.is (.bool true), Fact.is (.bool false), Fact.is (.bool false), SlRd [9], Fact.is (.agg #[.int .i64 3, .int .i64 0, .string ⟨#[97, 98]⟩]), SlRd [9, 3, 2, 97, 98], SlRd [9, 3, 2, 97, 98], Fact.is (.bool true), Fact.is (.bool false), Fact.is (.bool false), Fact.is (.bool false), Fact.is (.agg #[.int .i64 2, .int .i64 (-500000), .string ⟨#[]⟩, .slice none 0 0, .slice none 0 0, .int .i64 0]), Fact.is (.agg #[.int .i64 2, .int .i64 (-500000), .string ⟨#[]⟩]), Fact.is (.agg #[.int .i64 2, .int .i64 (-500000), .string ⟨#[]⟩, .slice none 0 0, .slice none 0 0, .int .i64 0]), Fact.is (.bool true), Fact.is (.bool false), Fact.is (.bool false), Fact.is (.bool false), Fact.is (.agg #[.int .i64 0, .int .i64 0, .string ⟨#[]⟩, .slice none 0 0, .slice none 0 0, .int .i64 5]), Fact.is (.int .i64 5), Fact.is (.bool false), Fact.is (.bool false)]) (by kernel_rfl) (by kernel_rfl) ⟨Fact.is_stable _, slrd_stable _, slrd_stable _, Fact.is_stable _, Fact.is_stable _, Fact.is_stable _, slrd_stable _, Fact.is_stable _, slrd_stable _, slrd_stable _, Fact.is_stable _, Fact.is_stable _, Fact.is_stable _, Fact.is_stable _, Fact.is_stable _, Fact.is_stable _, Fact.is_stable _, Fact.is_stable _, Fact.is_stable _, Fact.is_stable _, Fact.is_stable _, Fact.is_stable _, Fact.is_stable _, Fact.is_stable _, Fact.is_stable _, trivial⟩ ?_ ?_
  · exact ⟨by
        intro a W hA hB hd
        have hB := Lib.hid hB
        exact step_calls (wanted_none rfl) rfl (vals := #[.int .i64 1]) (by simp [eval_const]) (enters_of Tryz.func84 (by kernel_rfl) rfl) ((rWhole_one W).mono fun e w' ⟨he, hb⟩ => ⟨_, he, rfl, hb⟩),
      by
        intro a W hA hB hd
        have hB := Lib.hid hB
        obtain ⟨q0, q1, -⟩ := hd
        have h29 : a.eval (.tmp 29) = .agg #[.int .i64 2, .int .i64 1000000, .string ⟨#[]⟩] := q0
        exact step_calls (wanted_none rfl) rfl (vals := #[.slice none 0 0, .agg #[.int .i64 2, .int .i64 1000000, .string ⟨#[]⟩]]) (by simp [eval_const, h29]) (enters_of Tryz.func41 (by kernel_rfl) rfl) (slrd_of (append_any (K := fun _ => True) ⟨2, 1000000, []⟩ (ok_lit rfl rfl rfl) (by decide +kernel) (Rd.empty (a := none)) (by decide)) (by decide +kernel) (by decide +kernel)),
      by
        intro a W hA hB hd
        have hB := Lib.hid hB
        exact step_lays (wanted_none rfl) (.slice (some ⟨W.heap.size, 0, none⟩) 4 4) (W.alloc (.cells #[.int .u8 2, .int .u8 128, .int .u8 137, .int .u8 122] 5)) (by simp [execOp, go_sem]) ((Below.self W).alloc (Nat.le_refl _) _) (slrd_new W [2, 128, 137, 122]),
      by
        intro a W hA hB hd
        have hB := Lib.hid hB
        obtain ⟨q0, q1, q2, -⟩ := hd
        have h30 : (SlRd [2, 128, 137, 122]) (a.eval (.tmp 30)) W := q0
        have h31 : (SlRd [2, 128, 137, 122]) (a.eval (.tmp 31)) W := q1
        obtain ⟨g, n, c, e1, r1⟩ := h30
        obtain ⟨g', n', c', e2, r2⟩ := h31
        exact step_calls (wanted_none rfl) rfl (vals := #[.slice (some ⟨g, 0, none⟩) n c, .slice (some ⟨g', 0, none⟩) n' c']) (by simp [e1, e2]) (enters_of Tryz.func40 (by kernel_rfl) rfl) ((same_any r1 r2).mono fun e w' ⟨he, hb⟩ => ⟨_, he, by rw [sameB_true rfl]; rfl, hb⟩),
      by
        intro a W hA hB hd
        have hB := Lib.hid hB
        obtain ⟨q0, -⟩ := hd
        have h32 : a.eval (.tmp 32) = .bool true := q0
        exact step_pure (wanted_none rfl) (.bool false) (by simp [execOp, go_sem, tm h32]) rfl,
      by
        intro a W hA hB hd
        have hB := Lib.hid hB
        obtain ⟨q0, q1, -⟩ := hd
        have h33 : a.eval (.tmp 33) = .bool false := q0
        have h32 : a.eval (.tmp 32) = .bool true := q1
        exact step_pure (wanted_none rfl) (.bool false) (by simp [execOp, go_sem, tm h33]) rfl,
      by
        intro a W hA hB hd
        have hB := Lib.hid hB
        obtain ⟨q0, -⟩ := hd
        have h34 : a.eval (.tmp 34) = .bool false := q0
        exact step_lays ((wanted_guard rfl 34 rfl h34).trans rfl) (.slice (some ⟨W.heap.size, 0, none⟩) 1 1) (W.alloc (.cells #[.int .u8 9] 5)) (by simp [execOp, go_sem]) ((Below.self W).alloc (Nat.le_refl _) _) (slrd_new W [9]),
      by
        intro a W hA hB hd
        have hB := Lib.hid hB
        obtain ⟨q0, q1, -⟩ := hd
        have h34 : a.eval (.tmp 34) = .bool false := q0
        exact step_calls ((wanted_guard rfl 34 rfl h34).trans rfl) rfl (vals := #[.string ⟨#[97, 98]⟩]) (by simp [eval_const]) (enters_of Tryz.func81 (by kernel_rfl) rfl) ((rStr_any ⟨#[97, 98]⟩ W).mono fun e w' ⟨he, hb⟩ => ⟨_, he, rfl, hb⟩),
      by
        intro a W hA hB hd
        have hB := Lib.hid hB
        obtain ⟨q0, q1, q2, q3, -⟩ := hd
        have h35 : (SlRd [9]) (a.eval (.tmp 35)) W := q0
        have h36 : a.eval (.tmp 36) = .agg #[.int .i64 3, .int .i64 0, .string ⟨#[97, 98]⟩] := q1
        have h34 : a.eval (.tmp 34) = .bool false := q3
        obtain ⟨g, n, c, e1, r1⟩ := h35
        exact step_calls ((wanted_guard rfl 34 rfl h34).trans rfl) rfl (vals := #[.slice (some ⟨g, 0, none⟩) n c, .agg #[.int .i64 3, .int .i64 0, .string ⟨#[97, 98]⟩]]) (by simp [e1, h36]) (enters_of Tryz.func41 (by kernel_rfl) rfl) (slrd_of (append_any ⟨3, 0, [97, 98]⟩ (ok_lit rfl rfl rfl) (by decide +kernel) r1 (by have := r1.hl; simp at this; omega)) (by decide +kernel) (by decide +kernel)),
      by
        intro a W hA hB hd
        have hB := Lib.hid hB
        obtain ⟨q0, -⟩ := hd
        have h34 : a.eval (.tmp 34) = .bool false := q0
        exact step_lays ((wanted_guard rfl 34 rfl h34).trans rfl) (.slice (some ⟨W.heap.size, 0, none⟩) 5 5) (W.alloc (.cells #[.int .u8 9, .int .u8 3, .int .u8 2, .int .u8 97, .int .u8 98] 5)) (by simp [execOp, go_sem]) ((Below.self W).alloc (Nat.le_refl _) _) (slrd_new W [9, 3, 2, 97, 98]),
      by
        intro a W hA hB hd
        have hB := Lib.hid hB
        obtain ⟨q0, q1, q2, q3, -⟩ := hd
        have h37 : (SlRd [9, 3, 2, 97, 98]) (a.eval (.tmp 37)) W := q0
        have h38 : (SlRd [9, 3, 2, 97, 98]) (a.eval (.tmp 38)) W := q1
        have h34 : a.eval (.tmp 34) = .bool false := q3
        obtain ⟨g, n, c, e1, r1⟩ := h37
        obtain ⟨g', n', c', e2, r2⟩ := h38
        exact step_calls ((wanted_guard rfl 34 rfl h34).trans rfl) rfl (vals := #[.slice (some ⟨g, 0, none⟩) n c, .slice (some ⟨g', 0, none⟩) n' c']) (by simp [e1, e2]) (enters_of Tryz.func40 (by kernel_rfl) rfl) ((same_any r1 r2).mono fun e w' ⟨he, hb⟩ => ⟨_, he, by rw [sameB_true rfl]; rfl, hb⟩),
      by
        intro a W hA hB hd
        have hB := Lib.hid hB
        obtain ⟨q0, q1, -⟩ := hd
        have h39 : a.eval (.tmp 39) = .bool true := q0
        have h34 : a.eval (.tmp 34) = .bool false := q1
        exact step_pure ((wanted_guard rfl 34 rfl h34).trans rfl) (.bool false) (by simp [execOp, go_sem, tm h39]) rfl,
      by
        intro a W hA hB hd
        have hB := Lib.hid hB
        obtain ⟨q0, q1, -⟩ := hd
        have h34 : a.eval (.tmp 34) = .bool false := q0
        have h40 : a.eval (.tmp 40) = .bool false := q1
        exact step_pure (wanted_none rfl) (.bool false) (by simp [execOp, go_sem, tm h34, tm h40]) rfl,
      by
        intro a W hA hB hd
        have hB := Lib.hid hB
        obtain ⟨q0, q1, -⟩ := hd
        have h41 : a.eval (.tmp 41) = .bool false := q0
        have h39 : a.eval (.tmp 39) = .bool true := q1
        exact step_pure (wanted_none rfl) (.bool false) (by simp [execOp, go_sem, tm h41]) rfl,
      by
        intro a W hA hB hd
        have hB := Lib.hid hB
        obtain ⟨q0, q1, -⟩ := hd
        have h42 : a.eval (.tmp 42) = .bool false := q0
        exact step_calls ((wanted_guard rfl 42 rfl h42).trans rfl) rfl (vals := #[.string ⟨#[45, 48, 46, 53]⟩]) (by simp [eval_const]) (enters_of Tryz.func44 (by kernel_rfl) rfl) ((ex_parsed1 W (HVA.out.below hB.out)).mono fun e w' ⟨he, hb⟩ => ⟨_, he, rfl, hb⟩),
      by
        intro a W hA hB hd
        have hB := Lib.hid hB
        obtain ⟨q0, -⟩ := hd
        have h42 : a.eval (.tmp 42) = .bool false := q0
        have t1 := HT1.out.below hB.out HT1.out.lt
        have p1 : a.eval (.tmp 1) = .pointer (some ⟨B1, 0, none⟩) := hA.at 1 (by kernel_rfl)
        exact step_pure ((wanted_guard rfl 42 rfl h42).trans rfl) (.agg #[.int .i64 2, .int .i64 (-500000), .string ⟨#[]⟩]) (by simp [execOp, go_sem, tm p1, t1.c0, t1.c1, t1.c2]) rfl,
      by
        intro a W hA hB hd
        have hB := Lib.hid hB
        obtain ⟨q0, q1, -⟩ := hd
        have h44 : a.eval (.tmp 44) = .agg #[.int .i64 2, .int .i64 (-500000), .string ⟨#[]⟩] := q0
        have h42 : a.eval (.tmp 42) = .bool false := q1
        exact step_pure ((wanted_guard rfl 42 rfl h42).trans rfl) (.agg #[.int .i64 2, .int .i64 (-500000), .string ⟨#[]⟩, .slice none 0 0, .slice none 0 0, .int .i64 0]) (by simp only [execOp, List.map_toArray, List.map_cons, List.map_nil, h44]; exact run_v (bG0 W)) rfl,
      by
        intro a W hA hB hd
        have hB := Lib.hid hB
        obtain ⟨q0, q1, q2, q3, -⟩ := hd
        have h43 : a.eval (.tmp 43) = .agg #[.int .i64 2, .int .i64 (-500000), .string ⟨#[]⟩, .slice none 0 0, .slice none 0 0, .int .i64 0] := q0
        have h45 : a.eval (.tmp 45) = .agg #[.int .i64 2, .int .i64 (-500000), .string ⟨#[]⟩, .slice none 0 0, .slice none 0 0, .int .i64 0] := q1
        have h42 : a.eval (.tmp 42) = .bool false := q3
        exact step_calls ((wanted_guard rfl 42 rfl h42).trans rfl) rfl (vals := #[.agg #[.int .i64 2, .int .i64 (-500000), .string ⟨#[]⟩, .slice none 0 0, .slice none 0 0, .int .i64 0], .agg #[.int .i64 2, .int .i64 (-500000), .string ⟨#[]⟩, .slice none 0 0, .slice none 0 0, .int .i64 0]]) (by simp [h43, h45]) (enters_of Tryz.func43 (by kernel_rfl) rfl) ((ex_equal1 W).mono fun e w' ⟨he, hb⟩ => ⟨_, he, rfl, hb⟩),
      by
        intro a W hA hB hd
        have hB := Lib.hid hB
        obtain ⟨q0, q1, -⟩ := hd
        have h46 : a.eval (.tmp 46) = .bool true := q0
        have h42 : a.eval (.tmp 42) = .bool false := q1
        exact step_pure ((wanted_guard rfl 42 rfl h42).trans rfl) (.bool false) (by simp [execOp, go_sem, tm h46]) rfl,
      by
        intro a W hA hB hd
        have hB := Lib.hid hB
        obtain ⟨q0, q1, -⟩ := hd
        have h42 : a.eval (.tmp 42) = .bool false := q0
        have h47 : a.eval (.tmp 47) = .bool false := q1
        exact step_pure (wanted_none rfl) (.bool false) (by simp [execOp, go_sem, tm h42, tm h47]) rfl,
      by
        intro a W hA hB hd
        have hB := Lib.hid hB
        obtain ⟨q0, q1, -⟩ := hd
        have h48 : a.eval (.tmp 48) = .bool false := q0
        have h46 : a.eval (.tmp 46) = .bool true := q1
        exact step_pure (wanted_none rfl) (.bool false) (by simp [execOp, go_sem, tm h48]) rfl,
      by
        intro a W hA hB hd
        have hB := Lib.hid hB
        obtain ⟨q0, q1, -⟩ := hd
        have h49 : a.eval (.tmp 49) = .bool false := q0
        exact step_calls ((wanted_guard rfl 49 rfl h49).trans rfl) rfl (vals := #[.string ⟨#[45, 48, 46, 53, 48]⟩]) (by simp [eval_const]) (enters_of Tryz.func44 (by kernel_rfl) rfl) ((ex_parsed2 W (HVA.out.below hB.out)).mono fun e w' ⟨he, hb⟩ => ⟨_, he, rfl, hb⟩),
      by
        intro a W hA hB hd
        have hB := Lib.hid hB
        obtain ⟨q0, q1, -⟩ := hd
        have h50 : a.eval (.tmp 50) = .agg #[.int .i64 0, .int .i64 0, .string ⟨#[]⟩, .slice none 0 0, .slice none 0 0, .int .i64 5] := q0
        have h49 : a.eval (.tmp 49) = .bool false := q1
        exact step_pure ((wanted_guard rfl 49 rfl h49).trans rfl) (.int .i64 5) (by refine run_v (s := Instr.field 54 (a.eval (.tmp 50)) 3) ?_; rw [h50]; exact fG3 W) rfl,
      by
        intro a W hA hB hd
        have hB := Lib.hid hB
        obtain ⟨q0, q1, -⟩ := hd
        have h51 : a.eval (.tmp 51) = .int .i64 5 := q0
        have h49 : a.eval (.tmp 49) = .bool false := q1
        exact step_pure ((wanted_guard rfl 49 rfl h49).trans rfl) (.bool false) (by simp [execOp, go_sem, tm h51]) rfl,
      by
        intro a W hA hB hd
        have hB := Lib.hid hB
        obtain ⟨q0, q1, -⟩ := hd
        have h49 : a.eval (.tmp 49) = .bool false := q0
        have h52 : a.eval (.tmp 52) = .bool false := q1
        exact step_pure (wanted_none rfl) (.bool false) (by simp [execOp, go_sem, tm h49, tm h52]) rfl, trivial⟩
  · intro ax W hA hB hE
    have h53 : ax.eval (.tmp 53) = .bool false := hE.2.2.2.2.2.2.2.2.2.2.2.2.2.2.2.2.2.2.2.2.2.2.2.2.1
    have p1 : ax.eval (.tmp 1) = .pointer (some ⟨B1, 0, none⟩) := hA.at 1 (by kernel_rfl)
    have p2 : ax.eval (.tmp 2) = .pointer (some ⟨B1 + 1, 0, none⟩) := hA.at 2 (by kernel_rfl)
    have HSE : Hid (ExSt w W B1 (B1 + 1)) := HSX.out.later hB
    have hds : ax.defers = [] := hA.defers
    have hsz : ax.tmps.size = 107 := hA.size
    clear hA hB hE HT1 HT2 HVA HB0
    have ha := act_lit ax 107 hsz
    rw [show List.range 107 = [0, 1, 2, 3, 4, 5, 6, 7, 8, 9, 10, 11, 12, 13, 14, 15, 16, 17, 18, 19, 20, 21, 22, 23, 24, 25, 26, 27, 28, 29, 30, 31, 32, 33, 34, 35, 36, 37, 38, 39, 40, 41, 42, 43, 44, 45, 46, 47, 48, 49, 50, 51, 52, 53, 54, 55, 56, 57, 58, 59, 60, 61, 62, 63, 64, 65, 66, 67, 68, 69, 70, 71, 72, 73, 74, 75, 76, 77, 78, 79, 80, 81, 82, 83, 84, 85, 86, 87, 88, 89, 90, 91, 92, 93, 94, 95, 96, 97, 98, 99, 100, 101, 102, 103, 104, 105, 106] from rfl] at ha
    simp only [List.map_cons, List.map_nil, h53, p1, p2, hds] at ha
    rw [ha]
    clear ha h53 p1 p2 hds hsz HSX
    go_upto_region 7 with fail
    have HTY : Hid (Trio (W.alloc (.cells #[.int .i64 2, .int .i64 2, .bool false] 41)) W.heap.size 41 (.int .i64 2) (.int .i64 2) (.bool false)) := Trio.new W _ _ _ _
    have hbT : Below W.heap.size W (W.alloc (.cells #[.int .i64 2, .int .i64 2, .bool false] 41)) := (Below.self W).alloc (Nat.le_refl _) _
    have HSF := Lib.hid (HSE.out.later hbT)
    clear hbT HSE
    obtain ⟨B3, hB3⟩ : ∃ B, W.heap.size = B := ⟨_, rfl⟩
    rw [hB3] at HTY ⊢
    clear hB3
    generalize W.alloc (.cells #[.int .i64 2, .int .i64 2, .bool false] 41) = V at *
    have HT1 := Lib.hid HSF.out.h
    have HT2 := Lib.hid HSF.out.t
    have HVA := Lib.hid HSF.out.v
    have HB0 := Lib.hid HSF.out.b
    clear HSF
    generalize ax.eval = ev at *
    refine wp_region_facts (by kernel_rfl) (fs := [Fact.is (.agg #[.int .i64 2, .int .i64 2, .bool false]), Fact.is (.agg #[.int .i64 2, .int .i64 250000, .string ⟨#[]⟩]), Fact.is (.bool true), Fact.is (.bool true), Fact.is (.agg #[.int .i64 2, .int .i64 2, .bool false]), Fact.is (.agg #[.int .i64 2, .int .i64 125000, .string ⟨#[]⟩]), Fact.is (.bool false), Fact.is (.bool true), Fact.is (.bool true), Fact.is (.bool true), Fact.is (.agg #[.int .i64 2, .int .i64 2, .bool false]), Fact.is (.agg #[.int .i64 0, .int .i64 0, .string ⟨#[]⟩]), Fact.is (.bool false), Fact.is (.bool true), Fact.is (.bool true), Fact.is (.bool true), Fact.is (.agg #[.int .i64 0, .int .i64 0, .string ⟨#[]⟩]), Fact.is (.agg #[.int .i64 1, .int .i64 0, .string ⟨#[]⟩]), Fact.is (.int .i64 (-1)), Fact.is (.bool true), Fact.is (.bool true), Fact.is (.bool true), Fact.is (.agg #[.int .i64 3, .int .i64 0, .string ⟨#[97, 34, 98]⟩]), SlV [⟨3, 0, [97, 34, 98]⟩], Fact.is (.agg #[.int .i64 3, .int .i64 0, .string ⟨#[97, 34, 98]⟩]), Fact.is (.agg #[.int .i64 2, .int .i64 (-500000), .string ⟨#[]⟩]), SlV [⟨3, 0, [97, 34, 98]⟩, ⟨2, -500000, []⟩], Fact.is (.int .i64 (-1)), Fact.is (.bool true), Fact.is (.bool true), Fact.is (.bool true), Fact.is (.agg #[.int .i64 2, .int .i64 1000000000000001, .string ⟨#[]⟩]), Fact.is (.bool false), Fact.is (.bool true), Fact.is (.bool true), Fact.is (.bool true), Fact.is (.agg #[.int .i64 2, .int .i64 1000000000000001, .string ⟨#[]⟩]), Fact.is (.bool true), Fact.is (.bool true), Fact.is (.bool true), SlRd [1, 0, 5], GotL, Fact.is (.agg #[.int .i64 0, .int .i64 0, .string ⟨#[]⟩]), SlV [Vl.null], SlRd [5], GotL, Fact.is (.bool true), Fact.is (.bool true), Fact.is (.bool true), Fact.is (.agg #[.int .i64 2, .int .i64 2, .bool false]), Fact.is (.bool true), Fact.is (.bool true), Fact.is (.bool true)]) (by kernel_rfl) (by kernel_rfl) ⟨Fact.is_stable _, Fact.is_stable _, Fact.is_stable _, Fact.is_stable _, Fact.is_stable _, Fact.is_stable _, Fact.is_stable _, Fact.is_stable _, Fact.is_stable _, Fact.is_stable _, Fact.is_stable _, Fact.is_stable _, Fact.is_stable _, Fact.is_stable _, Fact.is_stable _, Fact.is_stable _, Fact.is_stable _, Fact.is_stable _, Fact.is_stable _, Fact.is_stable _, Fact.is_stable _, Fact.is_stable _, Fact.is_stable _, slv_stable _, Fact.is_stable _, Fact.is_stable _, slv_stable _, Fact.is_stable _, Fact.is_stable _, Fact.is_stable _, Fact.is_stable _, Fact.is_stable _, Fact.is_stable _, Fact.is_stable _, Fact.is_stable _, Fact.is_stable _, Fact.is_stable _, Fact.is_stable _, Fact.is_stable _, Fact.is_stable _, slrd_stable _, gotL_stable, Fact.is_stable _, slv_stable _, slrd_stable _, gotL_stable, Fact.is_stable _, Fact.is_stable _, Fact.is_stable _, Fact.is_stable _, Fact.is_stable _, Fact.is_stable _, Fact.is_stable _, trivial⟩ ?_ ?_
    · exact ⟨by
        intro a W hA hB hd
        have hB := Lib.hid hB
        have t1 := HTY.out.below hB.out HTY.out.lt
        have p1 : a.eval (.tmp 3) = .pointer (some ⟨B3, 0, none⟩) := hA.at 3 (by kernel_rfl)
        exact step_pure (wanted_none rfl) (.agg #[.int .i64 2, .int .i64 2, .bool false]) (by simp [execOp, go_sem, tm p1, t1.c0, t1.c1, t1.c2]) rfl,
      by
        intro a W hA hB hd
        have hB := Lib.hid hB
        exact step_calls (wanted_none rfl) rfl (vals := #[.int .i64 250000]) (by simp [eval_const]) (enters_of Tryz.func80 (by kernel_rfl) rfl) ((rNum_any 250000 W).mono fun e w' ⟨he, hb⟩ => ⟨_, he, rfl, hb⟩),
      by
        intro a W hA hB hd
        have hB := Lib.hid hB
        obtain ⟨q0, q1, q2, -⟩ := hd
        have h55 : a.eval (.tmp 55) = .agg #[.int .i64 2, .int .i64 2, .bool false] := q0
        have h56 : a.eval (.tmp 56) = .agg #[.int .i64 2, .int .i64 250000, .string ⟨#[]⟩] := q1
        exact step_calls (wanted_none rfl) rfl (vals := #[.agg #[.int .i64 2, .int .i64 2, .bool false], .agg #[.int .i64 2, .int .i64 250000, .string ⟨#[]⟩]]) (by simp [h55, h56]) (enters_of Tryz.func34 (by kernel_rfl) rfl) ((ex_has ⟨2, 250000, []⟩ (ok_lit rfl rfl rfl) (by decide +kernel) W (HVA.out.below hB.out)).mono fun e w' ⟨he, hb⟩ => ⟨_, he, rfl, hb⟩),
      by
        intro a W hA hB hd
        have hB := Lib.hid hB
        obtain ⟨q0, q1, -⟩ := hd
        have h57 : a.eval (.tmp 57) = .bool true := q0
        exact step_pure (wanted_none rfl) (.bool true) (by simp [execOp, go_sem, tm h57]) rfl,
      by
        intro a W hA hB hd
        have hB := Lib.hid hB
        obtain ⟨q0, -⟩ := hd
        have h58 : a.eval (.tmp 58) = .bool true := q0
        have t1 := HTY.out.below hB.out HTY.out.lt
        have p1 : a.eval (.tmp 3) = .pointer (some ⟨B3, 0, none⟩) := hA.at 3 (by kernel_rfl)
        exact step_pure ((wanted_guard rfl 58 rfl h58).trans rfl) (.agg #[.int .i64 2, .int .i64 2, .bool false]) (by simp [execOp, go_sem, tm p1, t1.c0, t1.c1, t1.c2]) rfl,
      by
        intro a W hA hB hd
        have hB := Lib.hid hB
        obtain ⟨q0, q1, -⟩ := hd
        have h58 : a.eval (.tmp 58) = .bool true := q0
        exact step_calls ((wanted_guard rfl 58 rfl h58).trans rfl) rfl (vals := #[.int .i64 125000]) (by simp [eval_const]) (enters_of Tryz.func80 (by kernel_rfl) rfl) ((rNum_any 125000 W).mono fun e w' ⟨he, hb⟩ => ⟨_, he, rfl, hb⟩),
      by
        intro a W hA hB hd
        have hB := Lib.hid hB
        obtain ⟨q0, q1, q2, q3, -⟩ := hd
        have h59 : a.eval (.tmp 59) = .agg #[.int .i64 2, .int .i64 2, .bool false] := q0
        have h60 : a.eval (.tmp 60) = .agg #[.int .i64 2, .int .i64 125000, .string ⟨#[]⟩] := q1
        have h58 : a.eval (.tmp 58) = .bool true := q3
        exact step_calls ((wanted_guard rfl 58 rfl h58).trans rfl) rfl (vals := #[.agg #[.int .i64 2, .int .i64 2, .bool false], .agg #[.int .i64 2, .int .i64 125000, .string ⟨#[]⟩]]) (by simp [h59, h60]) (enters_of Tryz.func34 (by kernel_rfl) rfl) ((ex_has ⟨2, 125000, []⟩ (ok_lit rfl rfl rfl) (by decide +kernel) W (HVA.out.below hB.out)).mono fun e w' ⟨he, hb⟩ => ⟨_, he, rfl, hb⟩),
      by
        intro a W hA hB hd
        have hB := Lib.hid hB
        obtain ⟨q0, q1, -⟩ := hd
        have h61 : a.eval (.tmp 61) = .bool false := q0
        have h58 : a.eval (.tmp 58) = .bool true := q1
        exact step_pure ((wanted_guard rfl 58 rfl h58).trans rfl) (.bool true) (by simp [execOp, go_sem, tm h61]) rfl,
      by
        intro a W hA hB hd
        have hB := Lib.hid hB
        obtain ⟨q0, q1, -⟩ := hd
        have h58 : a.eval (.tmp 58) = .bool true := q0
        have h62 : a.eval (.tmp 62) = .bool true := q1
        exact step_pure (wanted_none rfl) (.bool true) (by simp [execOp, go_sem, tm h58, tm h62]) rfl,
      by
        intro a W hA hB hd
        have hB := Lib.hid hB
        obtain ⟨q0, q1, -⟩ := hd
        have h63 : a.eval (.tmp 63) = .bool true := q0
        have h61 : a.eval (.tmp 61) = .bool false := q1
        exact step_pure (wanted_none rfl) (.bool true) (by simp [execOp, go_sem, tm h63]) rfl,
      by
        intro a W hA hB hd
        have hB := Lib.hid hB
        obtain ⟨q0, -⟩ := hd
        have h64 : a.eval (.tmp 64) = .bool true := q0
        have t1 := HTY.out.below hB.out HTY.out.lt
        have p1 : a.eval (.tmp 3) = .pointer (some ⟨B3, 0, none⟩) := hA.at 3 (by kernel_rfl)
        exact step_pure ((wanted_guard rfl 64 rfl h64).trans rfl) (.agg #[.int .i64 2, .int .i64 2, .bool false]) (by simp [execOp, go_sem, tm p1, t1.c0, t1.c1, t1.c2]) rfl,
      by
        intro a W hA hB hd
        have hB := Lib.hid hB
        obtain ⟨q0, q1, -⟩ := hd
        have h64 : a.eval (.tmp 64) = .bool true := q0
        exact step_calls ((wanted_guard rfl 64 rfl h64).trans rfl) rfl (vals := #[]) (by simp []) (enters_of Tryz.func82 (by kernel_rfl) rfl) ((rNull_any W).mono fun e w' ⟨he, hb⟩ => ⟨_, he, rfl, hb⟩),
      by
        intro a W hA hB hd
        have hB := Lib.hid hB
        obtain ⟨q0, q1, q2, q3, -⟩ := hd
        have h65 : a.eval (.tmp 65) = .agg #[.int .i64 2, .int .i64 2, .bool false] := q0
        have h66 : a.eval (.tmp 66) = .agg #[.int .i64 0, .int .i64 0, .string ⟨#[]⟩] := q1
        have h64 : a.eval (.tmp 64) = .bool true := q3
        exact step_calls ((wanted_guard rfl 64 rfl h64).trans rfl) rfl (vals := #[.agg #[.int .i64 2, .int .i64 2, .bool false], .agg #[.int .i64 0, .int .i64 0, .string ⟨#[]⟩]]) (by simp [h65, h66]) (enters_of Tryz.func34 (by kernel_rfl) rfl) ((ex_has ⟨0, 0, []⟩ (ok_lit rfl rfl rfl) (by decide +kernel) W (HVA.out.below hB.out)).mono fun e w' ⟨he, hb⟩ => ⟨_, he, rfl, hb⟩),
      by
        intro a W hA hB hd
        have hB := Lib.hid hB
        obtain ⟨q0, q1, -⟩ := hd
        have h67 : a.eval (.tmp 67) = .bool false := q0
        have h64 : a.eval (.tmp 64) = .bool true := q1
        exact step_pure ((wanted_guard rfl 64 rfl h64).trans rfl) (.bool true) (by simp [execOp, go_sem, tm h67]) rfl,
      by
        intro a W hA hB hd
        have hB := Lib.hid hB
        obtain ⟨q0, q1, -⟩ := hd
        have h64 : a.eval (.tmp 64) = .bool true := q0
        have h68 : a.eval (.tmp 68) = .bool true := q1
        exact step_pure (wanted_none rfl) (.bool true) (by simp [execOp, go_sem, tm h64, tm h68]) rfl,
      by
        intro a W hA hB hd
        have hB := Lib.hid hB
        obtain ⟨q0, q1, -⟩ := hd
        have h69 : a.eval (.tmp 69) = .bool true := q0
        have h67 : a.eval (.tmp 67) = .bool false := q1
        exact step_pure (wanted_none rfl) (.bool true) (by simp [execOp, go_sem, tm h69]) rfl,
      by
        intro a W hA hB hd
        have hB := Lib.hid hB
        obtain ⟨q0, q1, -⟩ := hd
        have h70 : a.eval (.tmp 70) = .bool true := q0
        exact step_calls ((wanted_guard rfl 70 rfl h70).trans rfl) rfl (vals := #[]) (by simp []) (enters_of Tryz.func82 (by kernel_rfl) rfl) ((rNull_any W).mono fun e w' ⟨he, hb⟩ => ⟨_, he, rfl, hb⟩),
      by
        intro a W hA hB hd
        have hB := Lib.hid hB
        obtain ⟨q0, q1, -⟩ := hd
        have h71 : a.eval (.tmp 71) = .agg #[.int .i64 0, .int .i64 0, .string ⟨#[]⟩] := q0
        have h70 : a.eval (.tmp 70) = .bool true := q1
        exact step_calls ((wanted_guard rfl 70 rfl h70).trans rfl) rfl (vals := #[.bool false]) (by simp [eval_const]) (enters_of Tryz.func83 (by kernel_rfl) rfl) ((rBool_any false W).mono fun e w' ⟨he, hb⟩ => ⟨_, he, rfl, hb⟩),
      by
        intro a W hA hB hd
        have hB := Lib.hid hB
        obtain ⟨q0, q1, q2, q3, -⟩ := hd
        have h71 : a.eval (.tmp 71) = .agg #[.int .i64 0, .int .i64 0, .string ⟨#[]⟩] := q0
        have h72 : a.eval (.tmp 72) = .agg #[.int .i64 1, .int .i64 0, .string ⟨#[]⟩] := q1
        have h70 : a.eval (.tmp 70) = .bool true := q3
        exact step_calls ((wanted_guard rfl 70 rfl h70).trans rfl) rfl (vals := #[.agg #[.int .i64 0, .int .i64 0, .string ⟨#[]⟩], .agg #[.int .i64 1, .int .i64 0, .string ⟨#[]⟩]]) (by simp [h71, h72]) (enters_of Tryz.func36 (by kernel_rfl) rfl) ((ex_cmp W).mono fun e w' ⟨he, hb⟩ => ⟨_, he, rfl, hb⟩),
      by
        intro a W hA hB hd
        have hB := Lib.hid hB
        obtain ⟨q0, q1, -⟩ := hd
        have h73 : a.eval (.tmp 73) = .int .i64 (-1) := q0
        have h70 : a.eval (.tmp 70) = .bool true := q1
        exact step_pure ((wanted_guard rfl 70 rfl h70).trans rfl) (.bool true) (by simp [execOp, go_sem, tm h73]) rfl,
      by
        intro a W hA hB hd
        have hB := Lib.hid hB
        obtain ⟨q0, q1, -⟩ := hd
        have h70 : a.eval (.tmp 70) = .bool true := q0
        have h74 : a.eval (.tmp 74) = .bool true := q1
        exact step_pure (wanted_none rfl) (.bool true) (by simp [execOp, go_sem, tm h70, tm h74]) rfl,
      by
        intro a W hA hB hd
        have hB := Lib.hid hB
        obtain ⟨q0, q1, -⟩ := hd
        have h75 : a.eval (.tmp 75) = .bool true := q0
        have h73 : a.eval (.tmp 73) = .int .i64 (-1) := q1
        exact step_pure (wanted_none rfl) (.bool true) (by simp [execOp, go_sem, tm h75]) rfl,
      by
        intro a W hA hB hd
        have hB := Lib.hid hB
        obtain ⟨q0, -⟩ := hd
        have h76 : a.eval (.tmp 76) = .bool true := q0
        have t1 := HT2.out.below hB.out HT2.out.lt
        have p1 : a.eval (.tmp 2) = .pointer (some ⟨B1 + 1, 0, none⟩) := hA.at 2 (by kernel_rfl)
        exact step_pure ((wanted_guard rfl 76 rfl h76).trans rfl) (.agg #[.int .i64 3, .int .i64 0, .string ⟨#[97, 34, 98]⟩]) (by simp [execOp, go_sem, tm p1, t1.c0, t1.c1, t1.c2]) rfl,
      by
        intro a W hA hB hd
        have hB := Lib.hid hB
        obtain ⟨q0, q1, -⟩ := hd
        have h77 : a.eval (.tmp 77) = .agg #[.int .i64 3, .int .i64 0, .string ⟨#[97, 34, 98]⟩] := q0
        have h76 : a.eval (.tmp 76) = .bool true := q1
        exact step_lays ((wanted_guard rfl 76 rfl h76).trans rfl) (.slice (some ⟨W.heap.size, 0, none⟩) 1 1) (W.alloc (.cells #[.int .i64 3, .int .i64 0, .string ⟨#[97, 34, 98]⟩] 45)) (by simp [execOp, go_sem, tm h77]) ((Below.self W).alloc (Nat.le_refl _) _) (slv_new W [⟨3, 0, [97, 34, 98]⟩] (by decide)),
      by
        intro a W hA hB hd
        have hB := Lib.hid hB
        obtain ⟨q0, -⟩ := hd
        have h76 : a.eval (.tmp 76) = .bool true := q0
        have t1 := HT2.out.below hB.out HT2.out.lt
        have p1 : a.eval (.tmp 2) = .pointer (some ⟨B1 + 1, 0, none⟩) := hA.at 2 (by kernel_rfl)
        exact step_pure ((wanted_guard rfl 76 rfl h76).trans rfl) (.agg #[.int .i64 3, .int .i64 0, .string ⟨#[97, 34, 98]⟩]) (by simp [execOp, go_sem, tm p1, t1.c0, t1.c1, t1.c2]) rfl,
      by
        intro a W hA hB hd
        have hB := Lib.hid hB
        obtain ⟨q0, -⟩ := hd
        have h76 : a.eval (.tmp 76) = .bool true := q0
        have t1 := HT1.out.below hB.out HT1.out.lt
        have p1 : a.eval (.tmp 1) = .pointer (some ⟨B1, 0, none⟩) := hA.at 1 (by kernel_rfl)
        exact step_pure ((wanted_guard rfl 76 rfl h76).trans rfl) (.agg #[.int .i64 2, .int .i64 (-500000), .string ⟨#[]⟩]) (by simp [execOp, go_sem, tm p1, t1.c0, t1.c1, t1.c2]) rfl,
      by
        intro a W hA hB hd
        have hB := Lib.hid hB
        obtain ⟨q0, q1, q2, -⟩ := hd
        have h79 : a.eval (.tmp 79) = .agg #[.int .i64 3, .int .i64 0, .string ⟨#[97, 34, 98]⟩] := q0
        have h80 : a.eval (.tmp 80) = .agg #[.int .i64 2, .int .i64 (-500000), .string ⟨#[]⟩] := q1
        have h76 : a.eval (.tmp 76) = .bool true := q2
        exact step_lays ((wanted_guard rfl 76 rfl h76).trans rfl) (.slice (some ⟨W.heap.size, 0, none⟩) 2 2) (W.alloc (.cells #[.int .i64 3, .int .i64 0, .string ⟨#[97, 34, 98]⟩, .int .i64 2, .int .i64 (-500000), .string ⟨#[]⟩] 45)) (by simp [execOp, go_sem, tm h79, tm h80]) ((Below.self W).alloc (Nat.le_refl _) _) (slv_new W [⟨3, 0, [97, 34, 98]⟩, ⟨2, -500000, []⟩] (by decide)),
      by
        intro a W hA hB hd
        have hB := Lib.hid hB
        obtain ⟨q0, q1, q2, q3, -⟩ := hd
        have h78 : (SlV [⟨3, 0, [97, 34, 98]⟩]) (a.eval (.tmp 78)) W := q0
        have h81 : (SlV [⟨3, 0, [97, 34, 98]⟩, ⟨2, -500000, []⟩]) (a.eval (.tmp 81)) W := q1
        have h76 : a.eval (.tmp 76) = .bool true := q2
        obtain ⟨g, n, c, e1, r1⟩ := h78
        obtain ⟨g', n', c', e2, r2⟩ := h81
        exact step_calls ((wanted_guard rfl 76 rfl h76).trans rfl) rfl (vals := #[.slice (some ⟨g, 0, none⟩) n c, .slice (some ⟨g', 0, none⟩) n' c']) (by simp [e1, e2]) (enters_of Tryz.func48 (by kernel_rfl) rfl) ((cmpList_any r1 r2).mono fun e w' ⟨he, hb⟩ => ⟨_, he, by rw [ex_cmpl]; rfl, hb⟩),
      by
        intro a W hA hB hd
        have hB := Lib.hid hB
        obtain ⟨q0, q1, -⟩ := hd
        have h82 : a.eval (.tmp 82) = .int .i64 (-1) := q0
        have h76 : a.eval (.tmp 76) = .bool true := q1
        exact step_pure ((wanted_guard rfl 76 rfl h76).trans rfl) (.bool true) (by simp [execOp, go_sem, tm h82]) rfl,
      by
        intro a W hA hB hd
        have hB := Lib.hid hB
        obtain ⟨q0, q1, -⟩ := hd
        have h76 : a.eval (.tmp 76) = .bool true := q0
        have h83 : a.eval (.tmp 83) = .bool true := q1
        exact step_pure (wanted_none rfl) (.bool true) (by simp [execOp, go_sem, tm h76, tm h83]) rfl,
      by
        intro a W hA hB hd
        have hB := Lib.hid hB
        obtain ⟨q0, q1, -⟩ := hd
        have h84 : a.eval (.tmp 84) = .bool true := q0
        have h82 : a.eval (.tmp 82) = .int .i64 (-1) := q1
        exact step_pure (wanted_none rfl) (.bool true) (by simp [execOp, go_sem, tm h84]) rfl,
      by
        intro a W hA hB hd
        have hB := Lib.hid hB
        obtain ⟨q0, q1, -⟩ := hd
        have h85 : a.eval (.tmp 85) = .bool true := q0
        exact step_calls ((wanted_guard rfl 85 rfl h85).trans rfl) rfl (vals := #[.int .i64 1000000000000001]) (by simp [eval_const]) (enters_of Tryz.func80 (by kernel_rfl) rfl) ((rNum_any 1000000000000001 W).mono fun e w' ⟨he, hb⟩ => ⟨_, he, rfl, hb⟩),
      by
        intro a W hA hB hd
        have hB := Lib.hid hB
        obtain ⟨q0, q1, q2, -⟩ := hd
        have h86 : a.eval (.tmp 86) = .agg #[.int .i64 2, .int .i64 1000000000000001, .string ⟨#[]⟩] := q0
        have h85 : a.eval (.tmp 85) = .bool true := q2
        exact step_calls ((wanted_guard rfl 85 rfl h85).trans rfl) rfl (vals := #[.agg #[.int .i64 2, .int .i64 1000000000000001, .string ⟨#[]⟩]]) (by simp [h86]) (enters_of Tryz.func30 (by kernel_rfl) rfl) ((ex_valid W).mono fun e w' ⟨he, hb⟩ => ⟨_, he, rfl, hb⟩),
      by
        intro a W hA hB hd
        have hB := Lib.hid hB
        obtain ⟨q0, q1, -⟩ := hd
        have h87 : a.eval (.tmp 87) = .bool false := q0
        have h85 : a.eval (.tmp 85) = .bool true := q1
        exact step_pure ((wanted_guard rfl 85 rfl h85).trans rfl) (.bool true) (by simp [execOp, go_sem, tm h87]) rfl,
      by
        intro a W hA hB hd
        have hB := Lib.hid hB
        obtain ⟨q0, q1, -⟩ := hd
        have h85 : a.eval (.tmp 85) = .bool true := q0
        have h88 : a.eval (.tmp 88) = .bool true := q1
        exact step_pure (wanted_none rfl) (.bool true) (by simp [execOp, go_sem, tm h85, tm h88]) rfl,
      by
        intro a W hA hB hd
        have hB := Lib.hid hB
        obtain ⟨q0, q1, -⟩ := hd
        have h89 : a.eval (.tmp 89) = .bool true := q0
        have h87 : a.eval (.tmp 87) = .bool false := q1
        exact step_pure (wanted_none rfl) (.bool true) (by simp [execOp, go_sem, tm h89]) rfl,
      by
        intro a W hA hB hd
        have hB := Lib.hid hB
        obtain ⟨q0, q1, -⟩ := hd
        have h90 : a.eval (.tmp 90) = .bool true := q0
        exact step_calls ((wanted_guard rfl 90 rfl h90).trans rfl) rfl (vals := #[.int .i64 1000000000000001]) (by simp [eval_const]) (enters_of Tryz.func80 (by kernel_rfl) rfl) ((rNum_any 1000000000000001 W).mono fun e w' ⟨he, hb⟩ => ⟨_, he, rfl, hb⟩),
      by
        intro a W hA hB hd
        have hB := Lib.hid hB
        obtain ⟨q0, q1, q2, -⟩ := hd
        have h91 : a.eval (.tmp 91) = .agg #[.int .i64 2, .int .i64 1000000000000001, .string ⟨#[]⟩] := q0
        have h90 : a.eval (.tmp 90) = .bool true := q2
        exact step_calls ((wanted_guard rfl 90 rfl h90).trans rfl) rfl (vals := #[.agg #[.int .i64 2, .int .i64 1000000000000001, .string ⟨#[]⟩]]) (by simp [h91]) (enters_of Tryz.func32 (by kernel_rfl) rfl) ((ex_wide W).mono fun e w' ⟨he, hb⟩ => ⟨_, he, rfl, hb⟩),
      by
        intro a W hA hB hd
        have hB := Lib.hid hB
        obtain ⟨q0, q1, -⟩ := hd
        have h90 : a.eval (.tmp 90) = .bool true := q0
        have h92 : a.eval (.tmp 92) = .bool true := q1
        exact step_pure (wanted_none rfl) (.bool true) (by simp [execOp, go_sem, tm h90, tm h92]) rfl,
      by
        intro a W hA hB hd
        have hB := Lib.hid hB
        obtain ⟨q0, q1, -⟩ := hd
        have h93 : a.eval (.tmp 93) = .bool true := q0
        have h92 : a.eval (.tmp 92) = .bool true := q1
        exact step_pure (wanted_none rfl) (.bool true) (by simp [execOp, go_sem, tm h93]) rfl,
      by
        intro a W hA hB hd
        have hB := Lib.hid hB
        obtain ⟨q0, -⟩ := hd
        have h94 : a.eval (.tmp 94) = .bool true := q0
        exact step_lays ((wanted_guard rfl 94 rfl h94).trans rfl) (.slice (some ⟨W.heap.size, 0, none⟩) 3 3) (W.alloc (.cells #[.int .u8 1, .int .u8 0, .int .u8 5] 5)) (by simp [execOp, go_sem]) ((Below.self W).alloc (Nat.le_refl _) _) (slrd_new W [1, 0, 5]),
      by
        intro a W hA hB hd
        have hB := Lib.hid hB
        obtain ⟨q0, q1, q2, -⟩ := hd
        have h95 : (SlRd [1, 0, 5]) (a.eval (.tmp 95)) W := q0
        have h94 : a.eval (.tmp 94) = .bool true := q1
        obtain ⟨g, n, c, e1, r1⟩ := h95
        exact step_calls ((wanted_guard rfl 94 rfl h94).trans rfl) rfl (vals := #[.slice (some ⟨g, 0, none⟩) n c]) (by simp [e1]) (enters_of Tryz.func54 (by kernel_rfl) rfl) (ex_readList r1),
      by
        intro a W hA hB hd
        have hB := Lib.hid hB
        obtain ⟨q0, -⟩ := hd
        have h94 : a.eval (.tmp 94) = .bool true := q0
        exact step_pure ((wanted_guard rfl 94 rfl h94).trans rfl) (.agg #[.int .i64 0, .int .i64 0, .string ⟨#[]⟩]) (by simp only [execOp, List.map_toArray, List.map_nil]; exact run_v (bV0 W)) rfl,
      by
        intro a W hA hB hd
        have hB := Lib.hid hB
        obtain ⟨q0, q1, -⟩ := hd
        have h97 : a.eval (.tmp 97) = .agg #[.int .i64 0, .int .i64 0, .string ⟨#[]⟩] := q0
        have h94 : a.eval (.tmp 94) = .bool true := q1
        exact step_lays ((wanted_guard rfl 94 rfl h94).trans rfl) (.slice (some ⟨W.heap.size, 0, none⟩) 1 1) (W.alloc (.cells #[.int .i64 0, .int .i64 0, .string ⟨#[]⟩] 45)) (by simp [execOp, go_sem, tm h97]) ((Below.self W).alloc (Nat.le_refl _) _) (slv_new W [Vl.null] (by decide)),
      by
        intro a W hA hB hd
        have hB := Lib.hid hB
        obtain ⟨q0, -⟩ := hd
        have h94 : a.eval (.tmp 94) = .bool true := q0
        exact step_lays ((wanted_guard rfl 94 rfl h94).trans rfl) (.slice (some ⟨W.heap.size, 0, none⟩) 1 1) (W.alloc (.cells #[.int .u8 5] 5)) (by simp [execOp, go_sem]) ((Below.self W).alloc (Nat.le_refl _) _) (slrd_new W [5]),
      by
        intro a W hA hB hd
        have hB := Lib.hid hB
        obtain ⟨q0, q1, q2, -⟩ := hd
        have h98 : (SlV [Vl.null]) (a.eval (.tmp 98)) W := q0
        have h99 : (SlRd [5]) (a.eval (.tmp 99)) W := q1
        have h94 : a.eval (.tmp 94) = .bool true := q2
        obtain ⟨g, n, c, e1, r1⟩ := h98
        obtain ⟨g', n', c', e2, r2⟩ := h99
        exact step_pure ((wanted_guard rfl 94 rfl h94).trans rfl) (.agg #[.int .i64 0, .int .i64 0, .string ⟨#[]⟩, .slice (some ⟨g, 0, none⟩) n c, .slice (some ⟨g', 0, none⟩) n' c', .int .i64 0]) (by simp only [execOp, List.map_toArray, List.map_cons, List.map_nil, e1, e2]; exact run_v (bG12 W _ _ _ _ _ _)) ⟨_, _, _, _, _, _, rfl, r1, r2⟩,
      by
        intro a W hA hB hd
        have hB := Lib.hid hB
        obtain ⟨q0, q1, q2, q3, -⟩ := hd
        have h96 : (GotL) (a.eval (.tmp 96)) W := q0
        have h100 : (GotL) (a.eval (.tmp 100)) W := q1
        have h94 : a.eval (.tmp 94) = .bool true := q3
        obtain ⟨a1, n1, c1, a2, n2, c2, e1, r1, r2⟩ := h96
        obtain ⟨a3, n3, c3, a4, n4, c4, e2, r3, r4⟩ := h100
        exact step_calls ((wanted_guard rfl 94 rfl h94).trans rfl) rfl (vals := #[.agg #[.int .i64 0, .int .i64 0, .string ⟨#[]⟩, .slice a1 n1 c1, .slice a2 n2 c2, .int .i64 0], .agg #[.int .i64 0, .int .i64 0, .string ⟨#[]⟩, .slice a3 n3 c3, .slice a4 n4 c4, .int .i64 0]]) (by simp [e1, e2]) (enters_of Tryz.func43 (by kernel_rfl) rfl) ((equalG_true Vl.null 0 r1 r2 r3 r4 (fun v hv => by obtain rfl : v = Vl.null := (by simpa using hv); decide)).mono fun e w' ⟨he, hb⟩ => ⟨_, he, rfl, hb⟩),
      by
        intro a W hA hB hd
        have hB := Lib.hid hB
        obtain ⟨q0, q1, -⟩ := hd
        have h94 : a.eval (.tmp 94) = .bool true := q0
        have h101 : a.eval (.tmp 101) = .bool true := q1
        exact step_pure (wanted_none rfl) (.bool true) (by simp [execOp, go_sem, tm h94, tm h101]) rfl,
      by
        intro a W hA hB hd
        have hB := Lib.hid hB
        obtain ⟨q0, q1, -⟩ := hd
        have h102 : a.eval (.tmp 102) = .bool true := q0
        have h101 : a.eval (.tmp 101) = .bool true := q1
        exact step_pure (wanted_none rfl) (.bool true) (by simp [execOp, go_sem, tm h102]) rfl,
      by
        intro a W hA hB hd
        have hB := Lib.hid hB
        obtain ⟨q0, -⟩ := hd
        have h103 : a.eval (.tmp 103) = .bool true := q0
        have t1 := HTY.out.below hB.out HTY.out.lt
        have p1 : a.eval (.tmp 3) = .pointer (some ⟨B3, 0, none⟩) := hA.at 3 (by kernel_rfl)
        exact step_pure ((wanted_guard rfl 103 rfl h103).trans rfl) (.agg #[.int .i64 2, .int .i64 2, .bool false]) (by simp [execOp, go_sem, tm p1, t1.c0, t1.c1, t1.c2]) rfl,
      by
        intro a W hA hB hd
        have hB := Lib.hid hB
        obtain ⟨q0, q1, q2, -⟩ := hd
        have h104 : a.eval (.tmp 104) = .agg #[.int .i64 2, .int .i64 2, .bool false] := q0
        have h103 : a.eval (.tmp 103) = .bool true := q1
        exact step_calls ((wanted_guard rfl 103 rfl h103).trans rfl) rfl (vals := #[.agg #[.int .i64 2, .int .i64 2, .bool false]]) (by simp [h104]) (enters_of Tryz.func46 (by kernel_rfl) rfl) ((ex_type W).mono fun e w' ⟨he, hb⟩ => ⟨_, he, rfl, hb⟩),
      by
        intro a W hA hB hd
        have hB := Lib.hid hB
        obtain ⟨q0, q1, -⟩ := hd
        have h103 : a.eval (.tmp 103) = .bool true := q0
        have h105 : a.eval (.tmp 105) = .bool true := q1
        exact step_pure (wanted_none rfl) (.bool true) (by simp [execOp, go_sem, tm h103, tm h105]) rfl,
      by
        intro a W hA hB hd
        have hB := Lib.hid hB
        obtain ⟨q0, q1, q2, q3, q4, q5, q6, q7, q8, q9, q10, q11, q12, q13, q14, q15, q16, q17, q18, q19, q20, q21, q22, q23, q24, q25, q26, q27, q28, q29, q30, q31, q32, q33, q34, q35, q36, q37, q38, q39, q40, q41, q42, q43, q44, q45, q46, q47, q48, q49, q50, q51, q52, q53, -⟩ := hd
        have h106 : a.eval (.tmp 106) = .bool true := q0
        have h105 : a.eval (.tmp 105) = .bool true := q1
        have h55 : a.eval (.tmp 55) = .agg #[.int .i64 2, .int .i64 2, .bool false] := q2
        have h56 : a.eval (.tmp 56) = .agg #[.int .i64 2, .int .i64 250000, .string ⟨#[]⟩] := q3
        have h57 : a.eval (.tmp 57) = .bool true := q4
        have h58 : a.eval (.tmp 58) = .bool true := q5
        have h59 : a.eval (.tmp 59) = .agg #[.int .i64 2, .int .i64 2, .bool false] := q6
        have h60 : a.eval (.tmp 60) = .agg #[.int .i64 2, .int .i64 125000, .string ⟨#[]⟩] := q7
        have h61 : a.eval (.tmp 61) = .bool false := q8
        have h62 : a.eval (.tmp 62) = .bool true := q9
        have h63 : a.eval (.tmp 63) = .bool true := q10
        have h64 : a.eval (.tmp 64) = .bool true := q11
        have h65 : a.eval (.tmp 65) = .agg #[.int .i64 2, .int .i64 2, .bool false] := q12
        have h66 : a.eval (.tmp 66) = .agg #[.int .i64 0, .int .i64 0, .string ⟨#[]⟩] := q13
        have h67 : a.eval (.tmp 67) = .bool false := q14
        have h68 : a.eval (.tmp 68) = .bool true := q15
        have h69 : a.eval (.tmp 69) = .bool true := q16
        have h70 : a.eval (.tmp 70) = .bool true := q17
        have h71 : a.eval (.tmp 71) = .agg #[.int .i64 0, .int .i64 0, .string ⟨#[]⟩] := q18
        have h72 : a.eval (.tmp 72) = .agg #[.int .i64 1, .int .i64 0, .string ⟨#[]⟩] := q19
        have h73 : a.eval (.tmp 73) = .int .i64 (-1) := q20
        have h74 : a.eval (.tmp 74) = .bool true := q21
        have h75 : a.eval (.tmp 75) = .bool true := q22
        have h76 : a.eval (.tmp 76) = .bool true := q23
        have h77 : a.eval (.tmp 77) = .agg #[.int .i64 3, .int .i64 0, .string ⟨#[97, 34, 98]⟩] := q24
        have h78 : (SlV [⟨3, 0, [97, 34, 98]⟩]) (a.eval (.tmp 78)) W := q25
        have h79 : a.eval (.tmp 79) = .agg #[.int .i64 3, .int .i64 0, .string ⟨#[97, 34, 98]⟩] := q26
        have h80 : a.eval (.tmp 80) = .agg #[.int .i64 2, .int .i64 (-500000), .string ⟨#[]⟩] := q27
        have h81 : (SlV [⟨3, 0, [97, 34, 98]⟩, ⟨2, -500000, []⟩]) (a.eval (.tmp 81)) W := q28
        have h82 : a.eval (.tmp 82) = .int .i64 (-1) := q29
        have h83 : a.eval (.tmp 83) = .bool true := q30
        have h84 : a.eval (.tmp 84) = .bool true := q31
        have h85 : a.eval (.tmp 85) = .bool true := q32
        have h86 : a.eval (.tmp 86) = .agg #[.int .i64 2, .int .i64 1000000000000001, .string ⟨#[]⟩] := q33
        have h87 : a.eval (.tmp 87) = .bool false := q34
        have h88 : a.eval (.tmp 88) = .bool true := q35
        have h89 : a.eval (.tmp 89) = .bool true := q36
        have h90 : a.eval (.tmp 90) = .bool true := q37
        have h91 : a.eval (.tmp 91) = .agg #[.int .i64 2, .int .i64 1000000000000001, .string ⟨#[]⟩] := q38
        have h92 : a.eval (.tmp 92) = .bool true := q39
        have h93 : a.eval (.tmp 93) = .bool true := q40
        have h94 : a.eval (.tmp 94) = .bool true := q41
        have h95 : (SlRd [1, 0, 5]) (a.eval (.tmp 95)) W := q42
        have h96 : (GotL) (a.eval (.tmp 96)) W := q43
        have h97 : a.eval (.tmp 97) = .agg #[.int .i64 0, .int .i64 0, .string ⟨#[]⟩] := q44
        have h98 : (SlV [Vl.null]) (a.eval (.tmp 98)) W := q45
        have h99 : (SlRd [5]) (a.eval (.tmp 99)) W := q46
        have h100 : (GotL) (a.eval (.tmp 100)) W := q47
        have h101 : a.eval (.tmp 101) = .bool true := q48
        have h102 : a.eval (.tmp 102) = .bool true := q49
        have h103 : a.eval (.tmp 103) = .bool true := q50
        have h104 : a.eval (.tmp 104) = .agg #[.int .i64 2, .int .i64 2, .bool false] := q51
        exact step_pure (wanted_none rfl) (.bool true) (by simp [execOp, go_sem, tm h106]) rfl, trivial⟩
    · intro a W hA hB hE
      have h0 : a.eval (.tmp 0) = .bool true := hE.2.2.2.2.2.2.2.2.2.2.2.2.2.2.2.2.2.2.2.2.2.2.2.2.2.2.2.2.2.2.2.2.2.2.2.2.2.2.2.2.2.2.2.2.2.2.2.2.2.2.2.2.1
      have HBF : Hid (Below w.heap.size w W) := HB0.out.trans (hB.mono HB0.out.size)
      have hds : a.defers = [] := hA.defers
      clear hA hB hE HT1 HT2 HVA HB0 HTY
      go_wp2
      exact bodyPost_ret (v := .bool true) (by simp [results, Tryz.results28, go_sem, tm h0]) hds ⟨rfl, HBF.out⟩

end Go.Proofs.YtocnkjnlmciojaaGreatDoor
