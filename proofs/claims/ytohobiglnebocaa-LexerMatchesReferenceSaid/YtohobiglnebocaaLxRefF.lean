/-
  The token at an offset, for the reference.
-/
import Derived.Test.YtohobiglnebocaaLxRefE
namespace Go.Proofs.Ytohobiglnebocaa.Lx
open Go Go.RowKit Go.Shelf Go.Sort Go.ChangeShapes Go.WideShapes Go.ChangeAt
open Go.Proofs.Ytohobiglnebocaa

/-! ### Five cells in a block of their own -/

def Five (W : World) (B : Nat) (t : TypeId) (a b c d e : Value) : Prop := W.heap[B]? = some (.cells #[a, b, c, d, e] t (0, 0))
section
variable {W V : World} {B n : Nat} {t : TypeId} {a b c d e a' b' c' d' e' : Value}
theorem Five.new (W : World) (t : TypeId) (a b c d e : Value) : Five (W.alloc (.cells #[a, b, c, d, e] t)) W.heap.size t a b c d e := World.alloc_heap_new W _
theorem Five.lt (h : Five W B t a b c d e) : B < W.heap.size := (Array.getElem?_eq_some_iff.1 h).1
theorem Five.c0 (h : Five W B t a b c d e) : W.cell? ⟨B, 0, none⟩ = some a := by simp [World.cell?, show W.heap[B]? = _ from h]
theorem Five.c1 (h : Five W B t a b c d e) : W.cell? ⟨B, 1, none⟩ = some b := by simp [World.cell?, show W.heap[B]? = _ from h]
theorem Five.c2 (h : Five W B t a b c d e) : W.cell? ⟨B, 2, none⟩ = some c := by simp [World.cell?, show W.heap[B]? = _ from h]
theorem Five.c3 (h : Five W B t a b c d e) : W.cell? ⟨B, 3, none⟩ = some d := by simp [World.cell?, show W.heap[B]? = _ from h]
theorem Five.c4 (h : Five W B t a b c d e) : W.cell? ⟨B, 4, none⟩ = some e := by simp [World.cell?, show W.heap[B]? = _ from h]
theorem Five.f (h : Five W B t a b c d e) (o : Nat) : W.frozen? ⟨B, o, none⟩ = false := by simp [World.frozen?, show W.heap[B]? = _ from h]
theorem Five.below (h : Five W B t a b c d e) (hb : Below n W V) (hn : B < n) : Five V B t a b c d e := (hb.block B hn).trans h
theorem Five.stored (h : Five W B t a b c d e) : Five (((((W.setCell ⟨B, 0, none⟩ a').setCell ⟨B, 1, none⟩ b').setCell ⟨B, 2, none⟩ c').setCell ⟨B, 3, none⟩ d').setCell ⟨B, 4, none⟩ e') B t a' b' c' d' e' := by
  have h : W.heap[B]? = _ := h
  show (((((W.setCell ⟨B, 0, none⟩ a').setCell ⟨B, 1, none⟩ b').setCell ⟨B, 2, none⟩ c').setCell ⟨B, 3, none⟩ d').setCell ⟨B, 4, none⟩ e').heap[B]? = _
  simp [World.setCell, Array.getElem?_modify, h]
theorem five_below (W : World) (h : n ≤ B) (a b c d e : Value) : Below n W (((((W.setCell ⟨B, 0, none⟩ a).setCell ⟨B, 1, none⟩ b).setCell ⟨B, 2, none⟩ c).setCell ⟨B, 3, none⟩ d).setCell ⟨B, 4, none⟩ e) :=
  (((((Below.refl n W).setCell h _).setCell h _).setCell h _).setCell h _).setCell h _
end

/-! ### What is read, where it is a beginning of the rest -/

theorem found_take {l : List UInt8} {k : Int} {n : Nat} (hl : l ≠ []) (ht : tkR l = (k, l.take n, n)) (hn : 0 < n) (h3 : k ≠ 3) : vld k (l.take n) = okR l ∧ tkR l = (k, l.take n, n) := by
  refine ⟨?_, ht⟩
  rw [ok_iff ht]
  cases hv : vld k (l.take n)
  · rw [spl_no hv]
    refine (decide_eq_false fun e => ?_).symm
    have := congrArg List.length e
    have h2 := List.length_pos_iff.2 hl
    rw [List.length_take] at this
    simp at this; omega
  · rw [spl_k hv h3]; exact (decide_eq_true rfl).symm
theorem num_letter {l : List UInt8} (hl : l ≠ []) (hk : kdS (hd l) = 2) (h : letB (hd (l.drop (digN l))) = true) (hlt : digN l < l.length) : okR l = false := by
  have ht := tk_num hk
  have hp : 0 < spN letB (l.drop (digN l)) := sp_pos _ (fun e => by have := congrArg List.length e; rw [List.length_drop] at this; simp at this; omega) h
  have hle := num_le l
  have hn : numN l = digN l + spN letB (l.drop (digN l)) := rfl
  rw [← (found_take hl ht (by omega) (by decide)).1]
  have he : (l.take (numN l))[digN l]?.getD 0 = hd (l.drop (digN l)) := by rw [List.getElem?_take_of_lt (by omega), hd_drop]
  show numB _ = false
  have hx := let_nat h
  have h1 : digB (hd (l.drop (digN l))) = false := by unfold digB; simp; omega
  have h2 : ptB (hd (l.drop (digN l))) = false := by unfold ptB; simp; omega
  exact num_no (k := digN l) (by rw [List.length_take]; omega) (by rw [he]; exact h1) (.inl (by rw [he]; exact h2))
theorem num_plain {l : List UInt8} (h : letB (hd (l.drop (digN l))) = false) : numN l = digN l := by
  unfold numN; rw [sp_zero _ h]; rfl
theorem dig_more {l : List UInt8} (h1 : ptB (hd (l.drop (spN digB l))) = true) (h2 : digB (hd (l.drop (spN digB l + 1))) = true) : digN l = spN digB l + 1 + spN digB (l.drop (spN digB l + 1)) := by
  unfold digN; rw [h1, h2]; rfl
theorem sg_two : ∀ (l : List UInt8), l.take 2 = [60, 61] ↔ (hd l).toNat = 60 ∧ (hd (l.drop 1)).toNat = 61
  | [] => ⟨fun h => (by cases h), fun h => absurd h.1 (by decide)⟩
  | [b] => ⟨fun h => (by cases h), fun h => absurd h.2 (by show ¬ (hd ([] : List UInt8)).toNat = 61; decide)⟩
  | b :: c :: r => by
    show [b, c] = [60, 61] ↔ b.toNat = 60 ∧ c.toNat = 61
    constructor
    · intro h; cases h; exact ⟨rfl, rfl⟩
    · rintro ⟨h1, h2⟩; rw [(byte_nat b 60 (by decide)).2 h1, (byte_nat c 61 (by decide)).2 h2]; rfl

set_option maxRecDepth 100000 in
set_option maxHeartbeats 8000000 in
theorem nextR_any (s : List UInt8) (a : Nat) (hs : s.length ≤ 1048576) (ha : a < s.length) (w : World) : Calls Try.prog 31 #[.string (bsOf s), .int .i64 (a : Int)] w (FoundPost a (s.drop a) w) := by
  by_cases h34 : (s[a]?.getD 0).toNat = 34
  · have HQ := Lib.hid (quotedR_any s a hs ha h34)
    have HAT := Lib.hid (bs_at s)
    have hz := bs_size s
    generalize s.drop a = l at *
    obtain ⟨S, hS⟩ : ∃ S, bsOf s = S := ⟨_, rfl⟩
    rw [hS] at HAT hz HQ ⊢
    have has : a < S.size := by omega
    have hss : S.size ≤ 1048576 := by omega
    have hx := HAT.out a has
    clear hS hz ha hs
    have e34 : (((s[a]?.getD 0).toNat : Int) == 34) = true := by rw [h34]; rfl
    clear h34
    generalize s[a]?.getD 0 = x at *
    have HB0 := Lib.hid ((Below.refl w.heap.size w).alloc (Nat.le_refl _) (.cells #[.int .i64 0, .string ⟨#[]⟩, .int .i64 0, .int .i64 0, .bool false] 52))
    have HU0 := Lib.hid (Five.new w 52 (.int .i64 0) (.string ⟨#[]⟩) (.int .i64 0) (.int .i64 0) (.bool false))
    go_enter Try.func31, Try.ntmps31
    go_wp2_with fail
    refine (HQ.out _).mono ?_
    rintro e w6 ⟨k, X, t, n, b, rfl, hb, hok, himp⟩
    have HU6 := Lib.hid (HU0.out.below hb HU0.out.lt)
    have HB6 := Lib.hid (HB0.out.trans (hb.mono HB0.out.size))
    have HOK := Lib.hid hok
    have HIM := Lib.hid himp
    clear hb hok himp
    have u0 := HU6.out.f 0
    have u1 := HU6.out.f 1
    have u2 := HU6.out.f 2
    have u3 := HU6.out.f 3
    have u4 := HU6.out.f 4
    have v0 := HU6.out.c0
    have v1 := HU6.out.c1
    have v2 := HU6.out.c2
    have v3 := HU6.out.c3
    have v4 := HU6.out.c4
    have hl6 := HU6.out.lt
    go_wp2
    have hst := HU6.out.stored (a' := .int .i64 k) (b' := .string X) (c' := .int .i64 t) (d' := .int .i64 n) (e' := .bool b)
    have r0 := hst.c0
    have r1 := hst.c1
    have r2 := hst.c2
    have r3 := hst.c3
    have r4 := hst.c4
    exact bodyPost_ret (v := .agg #[.int .i64 k, .string X, .int .i64 t, .int .i64 n, .bool b]) (by simp [results, Try.results31, go_sem, r0, r1, r2, r3, r4]) rfl
      ⟨k, X, t, n, b, rfl, HB6.out.trans (five_below w6 (Nat.le_refl _) _ _ _ _ _), HOK.out, HIM.out⟩
  · have e34 : (((s[a]?.getD 0).toNat : Int) == 34) = false := beq_false_of_ne (by omega)
    have HZ := Lib.hid (bs_size s)
    have HAT := Lib.hid (bs_at s)
    have HCUT := Lib.hid (fun p q => bs_cut s p q)
    have HR1 := Lib.hid (run_any s a true hs (by omega))
    have HR2 := Lib.hid (run_any s a false hs (by omega))
    rw [run_ld] at HR1
    rw [run_dig] at HR2
    obtain ⟨l, hl⟩ : ∃ l, s.drop a = l := ⟨_, rfl⟩
    have HLD := Lib.hid hl
    have HLL : Hid (l.length = s.length - a) := by show _ = _; rw [← hl, List.length_drop]
    have hne : l ≠ [] := fun e => by have := HLL.out; rw [e] at this; simp at this; omega
    have HHD : Hid (hd l = s[a]?.getD 0) := by show _ = _; rw [← hl, hd_drop]
    have HDR : Hid (∀ j, hd (l.drop j) = s[a + j]?.getD 0) := fun j => by rw [← hl, List.drop_drop, hd_drop]
    have HR3 := Lib.hid (fun (j : Nat) (hj : j ≤ s.length) => run_any s j false hs hj)
    rw [run_dig] at HR3
    rw [hl] at HR1 HR2 ⊢
    have hsl : s.length ≤ 1048576 := hs
    obtain ⟨S, hS⟩ : ∃ S, bsOf s = S := ⟨_, rfl⟩
    rw [hS] at HZ HAT HCUT HR1 HR2 HR3 ⊢
    have hss : S.size ≤ 1048576 := by rw [HZ.out]; exact hs
    have has : a < S.size := by rw [HZ.out]; exact ha
    have hx := HAT.out a has
    have HD := Lib.hid (fun w => digit_ref (s[a]?.getD 0) w)
    have HL := Lib.hid (fun w => letter_ref (s[a]?.getD 0) w)
    have HKD : Hid (kdS (hd l) = if letB (s[a]?.getD 0) then 1 else if digB (s[a]?.getD 0) then 2 else if (s[a]?.getD 0).toNat = 34 then 3 else 4) := by show _ = _; rw [HHD.out]; rfl
    clear hS hs ha hl
    cases hlet : letB (s[a]?.getD 0)
    · cases hdig : digB (s[a]?.getD 0)
      · -- a sign
        have hkd : kdS (hd l) = 4 := by rw [HKD.out, hlet, hdig, if_neg (by decide), if_neg (by decide), if_neg h34]
        rw [hdig] at HD
        rw [hlet] at HL
        have HS2 := Lib.hid (sg_two l)
        have hd1 : hd (l.drop 1) = s[a + 1]?.getD 0 := HDR.out 1
        rw [HHD.out, hd1] at HS2
        clear hd1
        obtain ⟨e9, he9⟩ : ∃ e9, a + spN ldB l = e9 := ⟨_, rfl⟩
        rw [he9] at HR1
        clear he9
        obtain ⟨m, hm⟩ : ∃ m, a + 1 = m := ⟨_, rfl⟩
        have ham : (a : Int) + 1 = (m : Int) := by omega
        have HM := Lib.hid hm
        rw [hm] at HS2
        clear hm
        by_cases h60 : (s[a]?.getD 0).toNat = 60
        · have e60 : (((s[a]?.getD 0).toNat : Int) == 60) = true := by rw [h60]; rfl
          by_cases hlt : m < S.size
          · have hx1 := HAT.out m hlt
            by_cases h61 : (s[m]?.getD 0).toNat = 61
            · have hs2 : l.take 2 = [60, 61] := HS2.out.2 ⟨h60, h61⟩
              have e61 : (((s[m]?.getD 0).toNat : Int) == 61) = true := by rw [h61]; rfl
              have HTW : Hid (2 ≤ l.length) := by have := congrArg List.length hs2; rw [List.length_take] at this; simp at this; show _ ≤ _; omega
              obtain ⟨e, he⟩ : ∃ e, m + 1 = e := ⟨_, rfl⟩
              have hei : (m : Int) + 1 = (e : Int) := by omega
              have hae : a ≤ e := by have := HM.out; omega
              have heS : e ≤ S.size := by rw [HZ.out]; have h1 := HLL.out; have h2 := HM.out; have h3 := HTW.out; omega
              have hen : a + 2 = e := by have := HM.out; omega
              have htk : tkR l = (4, l.take 2, 2) := by rw [tk_sign hkd]; unfold sgN; rw [if_pos hs2]
              have HFP0 := Lib.hid (found_take hne htk (by decide) (by decide))
              have hcut := HCUT.out a e
              rw [show e - a = 2 by omega] at hcut
              have HV := Lib.hid (fun w => validR_any 4 (a : Int) (l.take (2)) (by rw [List.length_take]; have := HLL.out; omega) w)
              unfold encK at HV
              have HFP : Hid (vld 4 (l.take (2)) = okR l ∧ (vld 4 (l.take (2)) = true → (4 : Int) = (tkR l).1 ∧ bsOf (l.take (2)) = bsOf (tkR l).2.1 ∧ (a : Int) = a ∧ (e : Int) = ((a + (tkR l).2.2 : Nat) : Int))) := ⟨HFP0.out.1, fun _ => by rw [HFP0.out.2]; exact ⟨rfl, rfl, rfl, by show (e : Int) = ((a + 2 : Nat) : Int); omega⟩⟩
              rw [HLD.out] at hcut
              generalize hX : bsOf (l.take (2)) = X at *
              generalize vld 4 (l.take (2)) = vb at *
              clear hX HFP0
              clear hlet hdig hkd htk h34 HKD hs2 hen he
              clear h60 h61 HTW
              generalize s[a]?.getD 0 = x at *
              generalize s[m]?.getD 0 = y at *
              go_enter Try.func31, Try.ntmps31
              go_upto_region 18 with (first
                              | (go_at_call 41; ((with_reducible refine (HD.out _).mono ?_); rintro e w' ⟨rfl, rfl⟩))
                              | (go_at_call 41; ((with_reducible refine (HD2.out _).mono ?_); rintro e w' ⟨rfl, rfl⟩))
                              | (go_at_call 40; ((with_reducible refine (HL.out _).mono ?_); rintro e w' ⟨rfl, rfl⟩))
                              | (go_at_call 40; ((with_reducible refine (HL2.out _).mono ?_); rintro e w' ⟨rfl, rfl⟩))
                              | (go_at_call 45; ((with_reducible refine (HR1.out _).mono ?_); rintro e w' ⟨rfl, rfl⟩))
                              | (go_at_call 45; ((with_reducible refine (HR2.out _).mono ?_); rintro e w' ⟨rfl, rfl⟩))
                              | (go_at_call 45; ((with_reducible refine (HR3.out _).mono ?_); rintro e w' ⟨rfl, rfl⟩)))
              obtain ⟨w5, hw5⟩ : ∃ w5, (w.alloc (.cells #[.int .i64 0, .string ⟨#[]⟩, .int .i64 0, .int .i64 0, .bool false] 52)).alloc (.cells #[.int .i64 4, .string X, .int .i64 (a : Int)] 29) = w5 := ⟨_, rfl⟩
              have HB5 : Hid (Below w.heap.size w w5) := by
                show Below _ _ _
                rw [← hw5]
                exact ((Below.refl w.heap.size w).alloc (Nat.le_refl _) _).alloc (by simp) _
              have HU5 : Hid (Five w5 w.heap.size 52 (.int .i64 0) (.string ⟨#[]⟩) (.int .i64 0) (.int .i64 0) (.bool false)) := by
                show Five _ _ _ _ _ _ _ _
                rw [← hw5]
                exact (Five.new w _ _ _ _ _ _).below ((Below.refl _ _).alloc (Nat.le_refl _) _) (by simp)
              have HT5 : Hid (Trio w5 (w.heap.size + 1) 29 (.int .i64 4) (.string X) (.int .i64 (a : Int))) := by
                show Trio _ _ _ _ _ _
                rw [← hw5]
                have := Trio.new (w.alloc (.cells #[.int .i64 0, .string ⟨#[]⟩, .int .i64 0, .int .i64 0, .bool false] 52)) 29 (.int .i64 4) (.string X) (.int .i64 (a : Int))
                rw [World.size_alloc] at this
                exact this
              rw [hw5]
              clear hw5
              have t0 := HT5.out.c0
              have t1 := HT5.out.c1
              have t2 := HT5.out.c2
              have hlu := HU5.out.lt
              have hlt5 := HT5.out.lt
              go_region_with (go_at_call 8; refine (HV.out _).mono ?_; rintro e w6 ⟨rfl, hb6⟩; have HB6 := Lib.hid ((Below.refl w5.heap.size w5).drew.trans hb6); have g0 := (HT5.out.below HB6.out HT5.out.lt).c0; have g1 := (HT5.out.below HB6.out HT5.out.lt).c1; have g2 := (HT5.out.below HB6.out HT5.out.lt).c2; have HU6 := Lib.hid (HU5.out.below HB6.out HU5.out.lt); have u0 := HU6.out.f 0; have u1 := HU6.out.f 1; have u2 := HU6.out.f 2; have u3 := HU6.out.f 3; have u4 := HU6.out.f 4; have v0 := HU6.out.c0; have v1 := HU6.out.c1; have v2 := HU6.out.c2; have v3 := HU6.out.c3; have v4 := HU6.out.c4; have hl6 := HU6.out.lt; clear hb6)
              all_goals
                go_wp2
                have hst := HU6.out.stored (a' := .int .i64 4) (b' := .string X) (c' := .int .i64 (a : Int)) (d' := .int .i64 (e : Int)) (e' := .bool vb)
                have r0 := hst.c0
                have r1 := hst.c1
                have r2 := hst.c2
                have r3 := hst.c3
                have r4 := hst.c4
                exact bodyPost_ret (v := .agg #[.int .i64 4, .string X, .int .i64 (a : Int), .int .i64 (e : Int), .bool vb]) (by simp [results, Try.results31, go_sem, r0, r1, r2, r3, r4]) rfl
                  ⟨4, X, a, e, vb, rfl, (HB5.out.trans (HB6.out.mono HB5.out.size)).trans (five_below w6 (Nat.le_refl _) _ _ _ _ _), HFP.out.1, fun h => ⟨(HFP.out.2 h).1, (HFP.out.2 h).2.1, rfl, (HFP.out.2 h).2.2.2⟩⟩
            · have hs2 : ¬ l.take 2 = [60, 61] := fun h => h61 (HS2.out.1 h).2
              have e61 : (((s[m]?.getD 0).toNat : Int) == 61) = false := beq_false_of_ne (by omega)
              obtain ⟨e, rfl⟩ : ∃ e, e = m := ⟨_, rfl⟩
              have hae : a ≤ e := by have := HM.out; omega
              have heS : e ≤ S.size := by rw [HZ.out]; have h1 := HLL.out; have h2 := HM.out; have h4 := HZ.out; omega
              have hen : a + 1 = e := by have := HM.out; omega
              have htk : tkR l = (4, l.take 1, 1) := by rw [tk_sign hkd]; unfold sgN; rw [if_neg hs2]
              have HFP0 := Lib.hid (found_take hne htk (by decide) (by decide))
              have hcut := HCUT.out a e
              rw [show e - a = 1 by omega] at hcut
              have HV := Lib.hid (fun w => validR_any 4 (a : Int) (l.take (1)) (by rw [List.length_take]; have := HLL.out; omega) w)
              unfold encK at HV
              have HFP : Hid (vld 4 (l.take (1)) = okR l ∧ (vld 4 (l.take (1)) = true → (4 : Int) = (tkR l).1 ∧ bsOf (l.take (1)) = bsOf (tkR l).2.1 ∧ (a : Int) = a ∧ (e : Int) = ((a + (tkR l).2.2 : Nat) : Int))) := ⟨HFP0.out.1, fun _ => by rw [HFP0.out.2]; exact ⟨rfl, rfl, rfl, by show (e : Int) = ((a + 1 : Nat) : Int); omega⟩⟩
              rw [HLD.out] at hcut
              generalize hX : bsOf (l.take (1)) = X at *
              generalize vld 4 (l.take (1)) = vb at *
              clear hX HFP0
              clear hlet hdig hkd htk h34 HKD hs2 hen
              clear h60 h61
              generalize s[a]?.getD 0 = x at *
              generalize s[e]?.getD 0 = y at *
              go_enter Try.func31, Try.ntmps31
              go_upto_region 18 with (first
                              | (go_at_call 41; ((with_reducible refine (HD.out _).mono ?_); rintro e w' ⟨rfl, rfl⟩))
                              | (go_at_call 41; ((with_reducible refine (HD2.out _).mono ?_); rintro e w' ⟨rfl, rfl⟩))
                              | (go_at_call 40; ((with_reducible refine (HL.out _).mono ?_); rintro e w' ⟨rfl, rfl⟩))
                              | (go_at_call 40; ((with_reducible refine (HL2.out _).mono ?_); rintro e w' ⟨rfl, rfl⟩))
                              | (go_at_call 45; ((with_reducible refine (HR1.out _).mono ?_); rintro e w' ⟨rfl, rfl⟩))
                              | (go_at_call 45; ((with_reducible refine (HR2.out _).mono ?_); rintro e w' ⟨rfl, rfl⟩))
                              | (go_at_call 45; ((with_reducible refine (HR3.out _).mono ?_); rintro e w' ⟨rfl, rfl⟩)))
              obtain ⟨w5, hw5⟩ : ∃ w5, (w.alloc (.cells #[.int .i64 0, .string ⟨#[]⟩, .int .i64 0, .int .i64 0, .bool false] 52)).alloc (.cells #[.int .i64 4, .string X, .int .i64 (a : Int)] 29) = w5 := ⟨_, rfl⟩
              have HB5 : Hid (Below w.heap.size w w5) := by
                show Below _ _ _
                rw [← hw5]
                exact ((Below.refl w.heap.size w).alloc (Nat.le_refl _) _).alloc (by simp) _
              have HU5 : Hid (Five w5 w.heap.size 52 (.int .i64 0) (.string ⟨#[]⟩) (.int .i64 0) (.int .i64 0) (.bool false)) := by
                show Five _ _ _ _ _ _ _ _
                rw [← hw5]
                exact (Five.new w _ _ _ _ _ _).below ((Below.refl _ _).alloc (Nat.le_refl _) _) (by simp)
              have HT5 : Hid (Trio w5 (w.heap.size + 1) 29 (.int .i64 4) (.string X) (.int .i64 (a : Int))) := by
                show Trio _ _ _ _ _ _
                rw [← hw5]
                have := Trio.new (w.alloc (.cells #[.int .i64 0, .string ⟨#[]⟩, .int .i64 0, .int .i64 0, .bool false] 52)) 29 (.int .i64 4) (.string X) (.int .i64 (a : Int))
                rw [World.size_alloc] at this
                exact this
              rw [hw5]
              clear hw5
              have t0 := HT5.out.c0
              have t1 := HT5.out.c1
              have t2 := HT5.out.c2
              have hlu := HU5.out.lt
              have hlt5 := HT5.out.lt
              go_region_with (go_at_call 8; refine (HV.out _).mono ?_; rintro e w6 ⟨rfl, hb6⟩; have HB6 := Lib.hid ((Below.refl w5.heap.size w5).drew.trans hb6); have g0 := (HT5.out.below HB6.out HT5.out.lt).c0; have g1 := (HT5.out.below HB6.out HT5.out.lt).c1; have g2 := (HT5.out.below HB6.out HT5.out.lt).c2; have HU6 := Lib.hid (HU5.out.below HB6.out HU5.out.lt); have u0 := HU6.out.f 0; have u1 := HU6.out.f 1; have u2 := HU6.out.f 2; have u3 := HU6.out.f 3; have u4 := HU6.out.f 4; have v0 := HU6.out.c0; have v1 := HU6.out.c1; have v2 := HU6.out.c2; have v3 := HU6.out.c3; have v4 := HU6.out.c4; have hl6 := HU6.out.lt; clear hb6)
              all_goals
                go_wp2
                have hst := HU6.out.stored (a' := .int .i64 4) (b' := .string X) (c' := .int .i64 (a : Int)) (d' := .int .i64 (e : Int)) (e' := .bool vb)
                have r0 := hst.c0
                have r1 := hst.c1
                have r2 := hst.c2
                have r3 := hst.c3
                have r4 := hst.c4
                exact bodyPost_ret (v := .agg #[.int .i64 4, .string X, .int .i64 (a : Int), .int .i64 (e : Int), .bool vb]) (by simp [results, Try.results31, go_sem, r0, r1, r2, r3, r4]) rfl
                  ⟨4, X, a, e, vb, rfl, (HB5.out.trans (HB6.out.mono HB5.out.size)).trans (five_below w6 (Nat.le_refl _) _ _ _ _ _), HFP.out.1, fun h => ⟨(HFP.out.2 h).1, (HFP.out.2 h).2.1, rfl, (HFP.out.2 h).2.2.2⟩⟩
          · have hs2 : ¬ l.take 2 = [60, 61] := fun h => by
              have := (HS2.out.1 h).2
              rw [List.getElem?_eq_none (by have := HZ.out; omega)] at this
              exact absurd this (by decide)
            have hmS : ¬ (m : Int) < (S.size : Int) := by omega
            obtain ⟨e, rfl⟩ : ∃ e, e = m := ⟨_, rfl⟩
            have hae : a ≤ e := by have := HM.out; omega
            have heS : e ≤ S.size := by rw [HZ.out]; have h1 := HLL.out; have h2 := HM.out; have h4 := HZ.out; omega
            have hen : a + 1 = e := by have := HM.out; omega
            have htk : tkR l = (4, l.take 1, 1) := by rw [tk_sign hkd]; unfold sgN; rw [if_neg hs2]
            have HFP0 := Lib.hid (found_take hne htk (by decide) (by decide))
            have hcut := HCUT.out a e
            rw [show e - a = 1 by omega] at hcut
            have HV := Lib.hid (fun w => validR_any 4 (a : Int) (l.take (1)) (by rw [List.length_take]; have := HLL.out; omega) w)
            unfold encK at HV
            have HFP : Hid (vld 4 (l.take (1)) = okR l ∧ (vld 4 (l.take (1)) = true → (4 : Int) = (tkR l).1 ∧ bsOf (l.take (1)) = bsOf (tkR l).2.1 ∧ (a : Int) = a ∧ (e : Int) = ((a + (tkR l).2.2 : Nat) : Int))) := ⟨HFP0.out.1, fun _ => by rw [HFP0.out.2]; exact ⟨rfl, rfl, rfl, by show (e : Int) = ((a + 1 : Nat) : Int); omega⟩⟩
            rw [HLD.out] at hcut
            generalize hX : bsOf (l.take (1)) = X at *
            generalize vld 4 (l.take (1)) = vb at *
            clear hX HFP0
            clear hlet hdig hkd htk h34 HKD hs2 hen
            clear h60
            generalize s[a]?.getD 0 = x at *
            go_enter Try.func31, Try.ntmps31
            go_upto_region 18 with (first
                          | (go_at_call 41; ((with_reducible refine (HD.out _).mono ?_); rintro e w' ⟨rfl, rfl⟩))
                          | (go_at_call 41; ((with_reducible refine (HD2.out _).mono ?_); rintro e w' ⟨rfl, rfl⟩))
                          | (go_at_call 40; ((with_reducible refine (HL.out _).mono ?_); rintro e w' ⟨rfl, rfl⟩))
                          | (go_at_call 40; ((with_reducible refine (HL2.out _).mono ?_); rintro e w' ⟨rfl, rfl⟩))
                          | (go_at_call 45; ((with_reducible refine (HR1.out _).mono ?_); rintro e w' ⟨rfl, rfl⟩))
                          | (go_at_call 45; ((with_reducible refine (HR2.out _).mono ?_); rintro e w' ⟨rfl, rfl⟩))
                          | (go_at_call 45; ((with_reducible refine (HR3.out _).mono ?_); rintro e w' ⟨rfl, rfl⟩)))
            obtain ⟨w5, hw5⟩ : ∃ w5, (w.alloc (.cells #[.int .i64 0, .string ⟨#[]⟩, .int .i64 0, .int .i64 0, .bool false] 52)).alloc (.cells #[.int .i64 4, .string X, .int .i64 (a : Int)] 29) = w5 := ⟨_, rfl⟩
            have HB5 : Hid (Below w.heap.size w w5) := by
              show Below _ _ _
              rw [← hw5]
              exact ((Below.refl w.heap.size w).alloc (Nat.le_refl _) _).alloc (by simp) _
            have HU5 : Hid (Five w5 w.heap.size 52 (.int .i64 0) (.string ⟨#[]⟩) (.int .i64 0) (.int .i64 0) (.bool false)) := by
              show Five _ _ _ _ _ _ _ _
              rw [← hw5]
              exact (Five.new w _ _ _ _ _ _).below ((Below.refl _ _).alloc (Nat.le_refl _) _) (by simp)
            have HT5 : Hid (Trio w5 (w.heap.size + 1) 29 (.int .i64 4) (.string X) (.int .i64 (a : Int))) := by
              show Trio _ _ _ _ _ _
              rw [← hw5]
              have := Trio.new (w.alloc (.cells #[.int .i64 0, .string ⟨#[]⟩, .int .i64 0, .int .i64 0, .bool false] 52)) 29 (.int .i64 4) (.string X) (.int .i64 (a : Int))
              rw [World.size_alloc] at this
              exact this
            rw [hw5]
            clear hw5
            have t0 := HT5.out.c0
            have t1 := HT5.out.c1
            have t2 := HT5.out.c2
            have hlu := HU5.out.lt
            have hlt5 := HT5.out.lt
            go_region_with (go_at_call 8; refine (HV.out _).mono ?_; rintro e w6 ⟨rfl, hb6⟩; have HB6 := Lib.hid ((Below.refl w5.heap.size w5).drew.trans hb6); have g0 := (HT5.out.below HB6.out HT5.out.lt).c0; have g1 := (HT5.out.below HB6.out HT5.out.lt).c1; have g2 := (HT5.out.below HB6.out HT5.out.lt).c2; have HU6 := Lib.hid (HU5.out.below HB6.out HU5.out.lt); have u0 := HU6.out.f 0; have u1 := HU6.out.f 1; have u2 := HU6.out.f 2; have u3 := HU6.out.f 3; have u4 := HU6.out.f 4; have v0 := HU6.out.c0; have v1 := HU6.out.c1; have v2 := HU6.out.c2; have v3 := HU6.out.c3; have v4 := HU6.out.c4; have hl6 := HU6.out.lt; clear hb6)
            all_goals
              go_wp2
              have hst := HU6.out.stored (a' := .int .i64 4) (b' := .string X) (c' := .int .i64 (a : Int)) (d' := .int .i64 (e : Int)) (e' := .bool vb)
              have r0 := hst.c0
              have r1 := hst.c1
              have r2 := hst.c2
              have r3 := hst.c3
              have r4 := hst.c4
              exact bodyPost_ret (v := .agg #[.int .i64 4, .string X, .int .i64 (a : Int), .int .i64 (e : Int), .bool vb]) (by simp [results, Try.results31, go_sem, r0, r1, r2, r3, r4]) rfl
                ⟨4, X, a, e, vb, rfl, (HB5.out.trans (HB6.out.mono HB5.out.size)).trans (five_below w6 (Nat.le_refl _) _ _ _ _ _), HFP.out.1, fun h => ⟨(HFP.out.2 h).1, (HFP.out.2 h).2.1, rfl, (HFP.out.2 h).2.2.2⟩⟩
        · have hs2 : ¬ l.take 2 = [60, 61] := fun h => h60 (HS2.out.1 h).1
          have e60 : (((s[a]?.getD 0).toNat : Int) == 60) = false := beq_false_of_ne (by omega)
          obtain ⟨e, rfl⟩ : ∃ e, e = m := ⟨_, rfl⟩
          have hae : a ≤ e := by have := HM.out; omega
          have heS : e ≤ S.size := by rw [HZ.out]; have h1 := HLL.out; have h2 := HM.out; have h4 := HZ.out; omega
          have hen : a + 1 = e := by have := HM.out; omega
          have htk : tkR l = (4, l.take 1, 1) := by rw [tk_sign hkd]; unfold sgN; rw [if_neg hs2]
          have HFP0 := Lib.hid (found_take hne htk (by decide) (by decide))
          have hcut := HCUT.out a e
          rw [show e - a = 1 by omega] at hcut
          have HV := Lib.hid (fun w => validR_any 4 (a : Int) (l.take (1)) (by rw [List.length_take]; have := HLL.out; omega) w)
          unfold encK at HV
          have HFP : Hid (vld 4 (l.take (1)) = okR l ∧ (vld 4 (l.take (1)) = true → (4 : Int) = (tkR l).1 ∧ bsOf (l.take (1)) = bsOf (tkR l).2.1 ∧ (a : Int) = a ∧ (e : Int) = ((a + (tkR l).2.2 : Nat) : Int))) := ⟨HFP0.out.1, fun _ => by rw [HFP0.out.2]; exact ⟨rfl, rfl, rfl, by show (e : Int) = ((a + 1 : Nat) : Int); omega⟩⟩
          rw [HLD.out] at hcut
          generalize hX : bsOf (l.take (1)) = X at *
          generalize vld 4 (l.take (1)) = vb at *
          clear hX HFP0
          clear hlet hdig hkd htk h34 HKD hs2 hen
          clear h60
          generalize s[a]?.getD 0 = x at *
          go_enter Try.func31, Try.ntmps31
          go_upto_region 18 with (first
                      | (go_at_call 41; ((with_reducible refine (HD.out _).mono ?_); rintro e w' ⟨rfl, rfl⟩))
                      | (go_at_call 41; ((with_reducible refine (HD2.out _).mono ?_); rintro e w' ⟨rfl, rfl⟩))
                      | (go_at_call 40; ((with_reducible refine (HL.out _).mono ?_); rintro e w' ⟨rfl, rfl⟩))
                      | (go_at_call 40; ((with_reducible refine (HL2.out _).mono ?_); rintro e w' ⟨rfl, rfl⟩))
                      | (go_at_call 45; ((with_reducible refine (HR1.out _).mono ?_); rintro e w' ⟨rfl, rfl⟩))
                      | (go_at_call 45; ((with_reducible refine (HR2.out _).mono ?_); rintro e w' ⟨rfl, rfl⟩))
                      | (go_at_call 45; ((with_reducible refine (HR3.out _).mono ?_); rintro e w' ⟨rfl, rfl⟩)))
          obtain ⟨w5, hw5⟩ : ∃ w5, (w.alloc (.cells #[.int .i64 0, .string ⟨#[]⟩, .int .i64 0, .int .i64 0, .bool false] 52)).alloc (.cells #[.int .i64 4, .string X, .int .i64 (a : Int)] 29) = w5 := ⟨_, rfl⟩
          have HB5 : Hid (Below w.heap.size w w5) := by
            show Below _ _ _
            rw [← hw5]
            exact ((Below.refl w.heap.size w).alloc (Nat.le_refl _) _).alloc (by simp) _
          have HU5 : Hid (Five w5 w.heap.size 52 (.int .i64 0) (.string ⟨#[]⟩) (.int .i64 0) (.int .i64 0) (.bool false)) := by
            show Five _ _ _ _ _ _ _ _
            rw [← hw5]
            exact (Five.new w _ _ _ _ _ _).below ((Below.refl _ _).alloc (Nat.le_refl _) _) (by simp)
          have HT5 : Hid (Trio w5 (w.heap.size + 1) 29 (.int .i64 4) (.string X) (.int .i64 (a : Int))) := by
            show Trio _ _ _ _ _ _
            rw [← hw5]
            have := Trio.new (w.alloc (.cells #[.int .i64 0, .string ⟨#[]⟩, .int .i64 0, .int .i64 0, .bool false] 52)) 29 (.int .i64 4) (.string X) (.int .i64 (a : Int))
            rw [World.size_alloc] at this
            exact this
          rw [hw5]
          clear hw5
          have t0 := HT5.out.c0
          have t1 := HT5.out.c1
          have t2 := HT5.out.c2
          have hlu := HU5.out.lt
          have hlt5 := HT5.out.lt
          go_region_with (go_at_call 8; refine (HV.out _).mono ?_; rintro e w6 ⟨rfl, hb6⟩; have HB6 := Lib.hid ((Below.refl w5.heap.size w5).drew.trans hb6); have g0 := (HT5.out.below HB6.out HT5.out.lt).c0; have g1 := (HT5.out.below HB6.out HT5.out.lt).c1; have g2 := (HT5.out.below HB6.out HT5.out.lt).c2; have HU6 := Lib.hid (HU5.out.below HB6.out HU5.out.lt); have u0 := HU6.out.f 0; have u1 := HU6.out.f 1; have u2 := HU6.out.f 2; have u3 := HU6.out.f 3; have u4 := HU6.out.f 4; have v0 := HU6.out.c0; have v1 := HU6.out.c1; have v2 := HU6.out.c2; have v3 := HU6.out.c3; have v4 := HU6.out.c4; have hl6 := HU6.out.lt; clear hb6)
          all_goals
            go_wp2
            have hst := HU6.out.stored (a' := .int .i64 4) (b' := .string X) (c' := .int .i64 (a : Int)) (d' := .int .i64 (e : Int)) (e' := .bool vb)
            have r0 := hst.c0
            have r1 := hst.c1
            have r2 := hst.c2
            have r3 := hst.c3
            have r4 := hst.c4
            exact bodyPost_ret (v := .agg #[.int .i64 4, .string X, .int .i64 (a : Int), .int .i64 (e : Int), .bool vb]) (by simp [results, Try.results31, go_sem, r0, r1, r2, r3, r4]) rfl
              ⟨4, X, a, e, vb, rfl, (HB5.out.trans (HB6.out.mono HB5.out.size)).trans (five_below w6 (Nat.le_refl _) _ _ _ _ _), HFP.out.1, fun h => ⟨(HFP.out.2 h).1, (HFP.out.2 h).2.1, rfl, (HFP.out.2 h).2.2.2⟩⟩
      · -- a number
        have hkd : kdS (hd l) = 2 := by rw [HKD.out, hlet, hdig]; rfl
        rw [hdig] at HD
        rw [hlet] at HL
        have hpp : 0 < spN digB l := sp_pos _ hne (by rw [HHD.out]; exact hdig)
        have hpl : spN digB l ≤ l.length := sp_le _ _
        have HDN := Lib.hid (@dig_no l)
        have HDY := Lib.hid (@dig_more l)
        obtain ⟨p, hp⟩ : ∃ p, spN digB l = p := ⟨_, rfl⟩
        rw [hp] at HR2 hpp hpl HDN HDY
        have HY1 : Hid (hd (l.drop p) = s[a + p]?.getD 0) := HDR.out p
        have HY2 : Hid (hd (l.drop (p + 1)) = s[a + p + 1]?.getD 0) := HDR.out (p + 1)
        have HL3 : Hid (l.drop (p + 1) = s.drop (a + p + 1)) := by show _ = _; rw [← HLD.out, List.drop_drop]; rfl
        obtain ⟨f, hf⟩ : ∃ f, a + p = f := ⟨_, rfl⟩
        rw [hf] at HR2 HY1 HY2 HL3
        have hfS : f ≤ S.size := by rw [HZ.out]; have := HLL.out; omega
        have HF1 := Lib.hid hf
        obtain ⟨e9, he9⟩ : ∃ e9, a + spN ldB l = e9 := ⟨_, rfl⟩
        rw [he9] at HR1
        clear he9
        have HPP := Lib.hid hpp
        clear hp hf hpp hpl
        obtain ⟨m, hm⟩ : ∃ m, f + 1 = m := ⟨_, rfl⟩
        rw [hm] at HY2 HL3
        have hfm : (f : Int) + 1 = (m : Int) := by omega
        have HM := Lib.hid hm
        by_cases h1 : m < S.size
        · have hfl : f < S.size := by omega
          have hx1 := HAT.out f hfl
          have hx2 := HAT.out m h1
          clear hm
          by_cases h46 : (s[f]?.getD 0).toNat = 46
          · have e46 : (((s[f]?.getD 0).toNat : Int) == 46) = true := by rw [h46]; rfl
            have HD2 := Lib.hid (fun w => digit_ref (s[m]?.getD 0) w)
            cases hd2 : digB (s[m]?.getD 0)
            · rw [hd2] at HD2
              have HDG : Hid (a + digN l = f) := by show _ = _; rw [HDN.out (.inr (by rw [HY2.out]; exact hd2))]; exact HF1.out
              have heS : f ≤ S.size := by rw [HZ.out]; have h1 := dig_le l; have h2 := HLL.out; have h3 := HDG.out; have h4 := HZ.out; omega
              have hae : a ≤ f := by have := HDG.out; omega
              have HDE : Hid (hd (l.drop (digN l)) = s[f]?.getD 0) := by have h := HDR.out (digN l); rw [HDG.out] at h; exact h
              have HNP : Hid (0 < numN l) := by have := tk_pos hne; rw [tk_num hkd] at this; exact this
              by_cases hel : f < S.size
              · have hxe := HAT.out f hel
                have HL2 := Lib.hid (fun w => letter_ref (s[f]?.getD 0) w)
                cases hz : letB (s[f]?.getD 0)
                · rw [hz] at HL2
                  have hen : a + numN l = f := by rw [num_plain (by rw [HDE.out]; exact hz)]; exact HDG.out
                  clear hz
                  have HFP0 := Lib.hid (found_take hne (tk_num hkd) HNP.out (by decide))
                  have hcut := HCUT.out a f
                  rw [show f - a = numN l by omega] at hcut
                  have HV := Lib.hid (fun w => validR_any 2 (a : Int) (l.take (numN l)) (by rw [List.length_take]; have := HLL.out; omega) w)
                  unfold encK at HV
                  have HFP : Hid (vld 2 (l.take (numN l)) = okR l ∧ (vld 2 (l.take (numN l)) = true → (2 : Int) = (tkR l).1 ∧ bsOf (l.take (numN l)) = bsOf (tkR l).2.1 ∧ (a : Int) = a ∧ (f : Int) = ((a + (tkR l).2.2 : Nat) : Int))) := ⟨HFP0.out.1, fun _ => by rw [HFP0.out.2]; exact ⟨rfl, rfl, rfl, by show (f : Int) = ((a + numN l : Nat) : Int); omega⟩⟩
                  rw [HLD.out] at hcut
                  generalize hX : bsOf (l.take (numN l)) = X at *
                  generalize vld 2 (l.take (numN l)) = vb at *
                  clear hX HFP0
                  clear hlet hdig hkd h34 hen HKD h46 hd2
                  generalize s[a]?.getD 0 = x at *
                  generalize s[f]?.getD 0 = y at *
                  generalize s[m]?.getD 0 = z at *
                  go_enter Try.func31, Try.ntmps31
                  go_upto_region 18 with (first
                                      | (go_at_call 41; ((with_reducible refine (HD.out _).mono ?_); rintro e w' ⟨rfl, rfl⟩))
                                      | (go_at_call 41; ((with_reducible refine (HD2.out _).mono ?_); rintro e w' ⟨rfl, rfl⟩))
                                      | (go_at_call 40; ((with_reducible refine (HL.out _).mono ?_); rintro e w' ⟨rfl, rfl⟩))
                                      | (go_at_call 40; ((with_reducible refine (HL2.out _).mono ?_); rintro e w' ⟨rfl, rfl⟩))
                                      | (go_at_call 45; ((with_reducible refine (HR1.out _).mono ?_); rintro e w' ⟨rfl, rfl⟩))
                                      | (go_at_call 45; ((with_reducible refine (HR2.out _).mono ?_); rintro e w' ⟨rfl, rfl⟩))
                                      | (go_at_call 45; ((with_reducible refine (HR3.out _).mono ?_); rintro e w' ⟨rfl, rfl⟩)))
                  obtain ⟨w5, hw5⟩ : ∃ w5, (w.alloc (.cells #[.int .i64 0, .string ⟨#[]⟩, .int .i64 0, .int .i64 0, .bool false] 52)).alloc (.cells #[.int .i64 2, .string X, .int .i64 (a : Int)] 29) = w5 := ⟨_, rfl⟩
                  have HB5 : Hid (Below w.heap.size w w5) := by
                    show Below _ _ _
                    rw [← hw5]
                    exact ((Below.refl w.heap.size w).alloc (Nat.le_refl _) _).alloc (by simp) _
                  have HU5 : Hid (Five w5 w.heap.size 52 (.int .i64 0) (.string ⟨#[]⟩) (.int .i64 0) (.int .i64 0) (.bool false)) := by
                    show Five _ _ _ _ _ _ _ _
                    rw [← hw5]
                    exact (Five.new w _ _ _ _ _ _).below ((Below.refl _ _).alloc (Nat.le_refl _) _) (by simp)
                  have HT5 : Hid (Trio w5 (w.heap.size + 1) 29 (.int .i64 2) (.string X) (.int .i64 (a : Int))) := by
                    show Trio _ _ _ _ _ _
                    rw [← hw5]
                    have := Trio.new (w.alloc (.cells #[.int .i64 0, .string ⟨#[]⟩, .int .i64 0, .int .i64 0, .bool false] 52)) 29 (.int .i64 2) (.string X) (.int .i64 (a : Int))
                    rw [World.size_alloc] at this
                    exact this
                  rw [hw5]
                  clear hw5
                  have t0 := HT5.out.c0
                  have t1 := HT5.out.c1
                  have t2 := HT5.out.c2
                  have hlu := HU5.out.lt
                  have hlt5 := HT5.out.lt
                  go_region_with (go_at_call 8; refine (HV.out _).mono ?_; rintro e w6 ⟨rfl, hb6⟩; have HB6 := Lib.hid ((Below.refl w5.heap.size w5).drew.trans hb6); have g0 := (HT5.out.below HB6.out HT5.out.lt).c0; have g1 := (HT5.out.below HB6.out HT5.out.lt).c1; have g2 := (HT5.out.below HB6.out HT5.out.lt).c2; have HU6 := Lib.hid (HU5.out.below HB6.out HU5.out.lt); have u0 := HU6.out.f 0; have u1 := HU6.out.f 1; have u2 := HU6.out.f 2; have u3 := HU6.out.f 3; have u4 := HU6.out.f 4; have v0 := HU6.out.c0; have v1 := HU6.out.c1; have v2 := HU6.out.c2; have v3 := HU6.out.c3; have v4 := HU6.out.c4; have hl6 := HU6.out.lt; clear hb6)
                  all_goals
                    go_wp2
                    have hst := HU6.out.stored (a' := .int .i64 2) (b' := .string X) (c' := .int .i64 (a : Int)) (d' := .int .i64 (f : Int)) (e' := .bool vb)
                    have r0 := hst.c0
                    have r1 := hst.c1
                    have r2 := hst.c2
                    have r3 := hst.c3
                    have r4 := hst.c4
                    exact bodyPost_ret (v := .agg #[.int .i64 2, .string X, .int .i64 (a : Int), .int .i64 (f : Int), .bool vb]) (by simp [results, Try.results31, go_sem, r0, r1, r2, r3, r4]) rfl
                      ⟨2, X, a, f, vb, rfl, (HB5.out.trans (HB6.out.mono HB5.out.size)).trans (five_below w6 (Nat.le_refl _) _ _ _ _ _), HFP.out.1, fun h => ⟨(HFP.out.2 h).1, (HFP.out.2 h).2.1, rfl, (HFP.out.2 h).2.2.2⟩⟩
                · have HF := Lib.hid (num_letter hne hkd (by rw [HDE.out]; exact hz) (by have := HDG.out; have := HLL.out; have := HZ.out; omega))
                  rw [hz] at HL2
                  have HBZ := Lib.hid ((Below.refl w.heap.size w).alloc (Nat.le_refl _) (.cells #[.int .i64 0, .string ⟨#[]⟩, .int .i64 0, .int .i64 0, .bool false] 52))
                  have HBZ := Lib.hid (HBZ.out.alloc (by simp) (.cells #[.int .i64 2, .string ⟨#[]⟩, .int .i64 (a : Int)] 29))
                  clear hz hlet hdig hkd h34 HKD h46 hd2
                  generalize s[a]?.getD 0 = x at *
                  generalize s[f]?.getD 0 = y at *
                  generalize s[m]?.getD 0 = z at *
                  go_enter Try.func31, Try.ntmps31
                  go_wp2_with (first
            | (go_at_call 41; ((with_reducible refine (HD.out _).mono ?_); rintro e w' ⟨rfl, rfl⟩))
            | (go_at_call 41; ((with_reducible refine (HD2.out _).mono ?_); rintro e w' ⟨rfl, rfl⟩))
            | (go_at_call 40; ((with_reducible refine (HL.out _).mono ?_); rintro e w' ⟨rfl, rfl⟩))
            | (go_at_call 40; ((with_reducible refine (HL2.out _).mono ?_); rintro e w' ⟨rfl, rfl⟩))
            | (go_at_call 45; ((with_reducible refine (HR1.out _).mono ?_); rintro e w' ⟨rfl, rfl⟩))
            | (go_at_call 45; ((with_reducible refine (HR2.out _).mono ?_); rintro e w' ⟨rfl, rfl⟩))
            | (go_at_call 45; ((with_reducible refine (HR3.out _).mono ?_); rintro e w' ⟨rfl, rfl⟩)))
                  exact bodyPost_ret (v := .agg #[.int .i64 0, .string ⟨#[]⟩, .int .i64 0, .int .i64 0, .bool false]) (by simp [results, Try.results31, go_sem]) rfl
                    ⟨0, ⟨#[]⟩, 0, 0, false, rfl, HBZ.out, HF.out.symm, fun h => by cases h⟩
              · have hen : a + numN l = f := by
                  rw [num_plain (by rw [HDE.out, List.getElem?_eq_none (by have := HZ.out; omega)]; decide)]; exact HDG.out
                obtain rfl : f = S.size := by omega
                omega
            · rw [hd2] at HD2
              have HR3 := Lib.hid (HR3.out m (by rw [← HZ.out]; omega))
              have hdg : digN l = p + 1 + spN digB (l.drop (p + 1)) := HDY.out (by rw [HY1.out]; exact decide_eq_true h46) (by rw [HY2.out]; exact hd2)
              rw [HL3.out] at hdg
              obtain ⟨g, hg⟩ : ∃ g, m + spN digB (s.drop m) = g := ⟨_, rfl⟩
              rw [hg] at HR3
              have HDG : Hid (a + digN l = g) := by show _ = _; rw [hdg]; have h1 := HF1.out; have h2 := HM.out; omega
              clear hdg hg
              have heS : g ≤ S.size := by rw [HZ.out]; have h1 := dig_le l; have h2 := HLL.out; have h3 := HDG.out; have h4 := HZ.out; omega
              have hae : a ≤ g := by have := HDG.out; omega
              have HDE : Hid (hd (l.drop (digN l)) = s[g]?.getD 0) := by have h := HDR.out (digN l); rw [HDG.out] at h; exact h
              have HNP : Hid (0 < numN l) := by have := tk_pos hne; rw [tk_num hkd] at this; exact this
              by_cases hel : g < S.size
              · have hxe := HAT.out g hel
                have HL2 := Lib.hid (fun w => letter_ref (s[g]?.getD 0) w)
                cases hz : letB (s[g]?.getD 0)
                · rw [hz] at HL2
                  have hen : a + numN l = g := by rw [num_plain (by rw [HDE.out]; exact hz)]; exact HDG.out
                  clear hz
                  have HFP0 := Lib.hid (found_take hne (tk_num hkd) HNP.out (by decide))
                  have hcut := HCUT.out a g
                  rw [show g - a = numN l by omega] at hcut
                  have HV := Lib.hid (fun w => validR_any 2 (a : Int) (l.take (numN l)) (by rw [List.length_take]; have := HLL.out; omega) w)
                  unfold encK at HV
                  have HFP : Hid (vld 2 (l.take (numN l)) = okR l ∧ (vld 2 (l.take (numN l)) = true → (2 : Int) = (tkR l).1 ∧ bsOf (l.take (numN l)) = bsOf (tkR l).2.1 ∧ (a : Int) = a ∧ (g : Int) = ((a + (tkR l).2.2 : Nat) : Int))) := ⟨HFP0.out.1, fun _ => by rw [HFP0.out.2]; exact ⟨rfl, rfl, rfl, by show (g : Int) = ((a + numN l : Nat) : Int); omega⟩⟩
                  rw [HLD.out] at hcut
                  generalize hX : bsOf (l.take (numN l)) = X at *
                  generalize vld 2 (l.take (numN l)) = vb at *
                  clear hX HFP0
                  clear hlet hdig hkd h34 hen HKD h46 hd2
                  generalize s[a]?.getD 0 = x at *
                  generalize s[f]?.getD 0 = y at *
                  generalize s[m]?.getD 0 = z at *
                  generalize s[g]?.getD 0 = u at *
                  go_enter Try.func31, Try.ntmps31
                  go_upto_region 18 with (first
                                      | (go_at_call 41; ((with_reducible refine (HD.out _).mono ?_); rintro e w' ⟨rfl, rfl⟩))
                                      | (go_at_call 41; ((with_reducible refine (HD2.out _).mono ?_); rintro e w' ⟨rfl, rfl⟩))
                                      | (go_at_call 40; ((with_reducible refine (HL.out _).mono ?_); rintro e w' ⟨rfl, rfl⟩))
                                      | (go_at_call 40; ((with_reducible refine (HL2.out _).mono ?_); rintro e w' ⟨rfl, rfl⟩))
                                      | (go_at_call 45; ((with_reducible refine (HR1.out _).mono ?_); rintro e w' ⟨rfl, rfl⟩))
                                      | (go_at_call 45; ((with_reducible refine (HR2.out _).mono ?_); rintro e w' ⟨rfl, rfl⟩))
                                      | (go_at_call 45; ((with_reducible refine (HR3.out _).mono ?_); rintro e w' ⟨rfl, rfl⟩)))
                  obtain ⟨w5, hw5⟩ : ∃ w5, (w.alloc (.cells #[.int .i64 0, .string ⟨#[]⟩, .int .i64 0, .int .i64 0, .bool false] 52)).alloc (.cells #[.int .i64 2, .string X, .int .i64 (a : Int)] 29) = w5 := ⟨_, rfl⟩
                  have HB5 : Hid (Below w.heap.size w w5) := by
                    show Below _ _ _
                    rw [← hw5]
                    exact ((Below.refl w.heap.size w).alloc (Nat.le_refl _) _).alloc (by simp) _
                  have HU5 : Hid (Five w5 w.heap.size 52 (.int .i64 0) (.string ⟨#[]⟩) (.int .i64 0) (.int .i64 0) (.bool false)) := by
                    show Five _ _ _ _ _ _ _ _
                    rw [← hw5]
                    exact (Five.new w _ _ _ _ _ _).below ((Below.refl _ _).alloc (Nat.le_refl _) _) (by simp)
                  have HT5 : Hid (Trio w5 (w.heap.size + 1) 29 (.int .i64 2) (.string X) (.int .i64 (a : Int))) := by
                    show Trio _ _ _ _ _ _
                    rw [← hw5]
                    have := Trio.new (w.alloc (.cells #[.int .i64 0, .string ⟨#[]⟩, .int .i64 0, .int .i64 0, .bool false] 52)) 29 (.int .i64 2) (.string X) (.int .i64 (a : Int))
                    rw [World.size_alloc] at this
                    exact this
                  rw [hw5]
                  clear hw5
                  have t0 := HT5.out.c0
                  have t1 := HT5.out.c1
                  have t2 := HT5.out.c2
                  have hlu := HU5.out.lt
                  have hlt5 := HT5.out.lt
                  go_region_with (go_at_call 8; refine (HV.out _).mono ?_; rintro e w6 ⟨rfl, hb6⟩; have HB6 := Lib.hid ((Below.refl w5.heap.size w5).drew.trans hb6); have g0 := (HT5.out.below HB6.out HT5.out.lt).c0; have g1 := (HT5.out.below HB6.out HT5.out.lt).c1; have g2 := (HT5.out.below HB6.out HT5.out.lt).c2; have HU6 := Lib.hid (HU5.out.below HB6.out HU5.out.lt); have u0 := HU6.out.f 0; have u1 := HU6.out.f 1; have u2 := HU6.out.f 2; have u3 := HU6.out.f 3; have u4 := HU6.out.f 4; have v0 := HU6.out.c0; have v1 := HU6.out.c1; have v2 := HU6.out.c2; have v3 := HU6.out.c3; have v4 := HU6.out.c4; have hl6 := HU6.out.lt; clear hb6)
                  all_goals
                    go_wp2
                    have hst := HU6.out.stored (a' := .int .i64 2) (b' := .string X) (c' := .int .i64 (a : Int)) (d' := .int .i64 (g : Int)) (e' := .bool vb)
                    have r0 := hst.c0
                    have r1 := hst.c1
                    have r2 := hst.c2
                    have r3 := hst.c3
                    have r4 := hst.c4
                    exact bodyPost_ret (v := .agg #[.int .i64 2, .string X, .int .i64 (a : Int), .int .i64 (g : Int), .bool vb]) (by simp [results, Try.results31, go_sem, r0, r1, r2, r3, r4]) rfl
                      ⟨2, X, a, g, vb, rfl, (HB5.out.trans (HB6.out.mono HB5.out.size)).trans (five_below w6 (Nat.le_refl _) _ _ _ _ _), HFP.out.1, fun h => ⟨(HFP.out.2 h).1, (HFP.out.2 h).2.1, rfl, (HFP.out.2 h).2.2.2⟩⟩
                · have HF := Lib.hid (num_letter hne hkd (by rw [HDE.out]; exact hz) (by have := HDG.out; have := HLL.out; have := HZ.out; omega))
                  rw [hz] at HL2
                  have HBZ := Lib.hid ((Below.refl w.heap.size w).alloc (Nat.le_refl _) (.cells #[.int .i64 0, .string ⟨#[]⟩, .int .i64 0, .int .i64 0, .bool false] 52))
                  have HBZ := Lib.hid (HBZ.out.alloc (by simp) (.cells #[.int .i64 2, .string ⟨#[]⟩, .int .i64 (a : Int)] 29))
                  clear hz hlet hdig hkd h34 HKD h46 hd2
                  generalize s[a]?.getD 0 = x at *
                  generalize s[f]?.getD 0 = y at *
                  generalize s[m]?.getD 0 = z at *
                  generalize s[S.size]?.getD 0 = u at *
                  go_enter Try.func31, Try.ntmps31
                  go_wp2_with (first
            | (go_at_call 41; ((with_reducible refine (HD.out _).mono ?_); rintro e w' ⟨rfl, rfl⟩))
            | (go_at_call 41; ((with_reducible refine (HD2.out _).mono ?_); rintro e w' ⟨rfl, rfl⟩))
            | (go_at_call 40; ((with_reducible refine (HL.out _).mono ?_); rintro e w' ⟨rfl, rfl⟩))
            | (go_at_call 40; ((with_reducible refine (HL2.out _).mono ?_); rintro e w' ⟨rfl, rfl⟩))
            | (go_at_call 45; ((with_reducible refine (HR1.out _).mono ?_); rintro e w' ⟨rfl, rfl⟩))
            | (go_at_call 45; ((with_reducible refine (HR2.out _).mono ?_); rintro e w' ⟨rfl, rfl⟩))
            | (go_at_call 45; ((with_reducible refine (HR3.out _).mono ?_); rintro e w' ⟨rfl, rfl⟩)))
                  exact bodyPost_ret (v := .agg #[.int .i64 0, .string ⟨#[]⟩, .int .i64 0, .int .i64 0, .bool false]) (by simp [results, Try.results31, go_sem]) rfl
                    ⟨0, ⟨#[]⟩, 0, 0, false, rfl, HBZ.out, HF.out.symm, fun h => by cases h⟩
              · have hen : a + numN l = g := by
                  rw [num_plain (by rw [HDE.out, List.getElem?_eq_none (by have := HZ.out; omega)]; decide)]; exact HDG.out
                obtain rfl : g = S.size := by omega
                have HFP0 := Lib.hid (found_take hne (tk_num hkd) HNP.out (by decide))
                have hcut := HCUT.out a S.size
                rw [show S.size - a = numN l by omega] at hcut
                have HV := Lib.hid (fun w => validR_any 2 (a : Int) (l.take (numN l)) (by rw [List.length_take]; have := HLL.out; omega) w)
                unfold encK at HV
                have HFP : Hid (vld 2 (l.take (numN l)) = okR l ∧ (vld 2 (l.take (numN l)) = true → (2 : Int) = (tkR l).1 ∧ bsOf (l.take (numN l)) = bsOf (tkR l).2.1 ∧ (a : Int) = a ∧ (S.size : Int) = ((a + (tkR l).2.2 : Nat) : Int))) := ⟨HFP0.out.1, fun _ => by rw [HFP0.out.2]; exact ⟨rfl, rfl, rfl, by show (S.size : Int) = ((a + numN l : Nat) : Int); omega⟩⟩
                rw [HLD.out] at hcut
                generalize hX : bsOf (l.take (numN l)) = X at *
                generalize vld 2 (l.take (numN l)) = vb at *
                clear hX HFP0
                clear hlet hdig hkd h34 hen HKD h46 hd2
                generalize s[a]?.getD 0 = x at *
                generalize s[f]?.getD 0 = y at *
                generalize s[m]?.getD 0 = z at *
                generalize s[S.size]?.getD 0 = u at *
                go_enter Try.func31, Try.ntmps31
                go_upto_region 18 with (first
                                  | (go_at_call 41; ((with_reducible refine (HD.out _).mono ?_); rintro e w' ⟨rfl, rfl⟩))
                                  | (go_at_call 41; ((with_reducible refine (HD2.out _).mono ?_); rintro e w' ⟨rfl, rfl⟩))
                                  | (go_at_call 40; ((with_reducible refine (HL.out _).mono ?_); rintro e w' ⟨rfl, rfl⟩))
                                  | (go_at_call 40; ((with_reducible refine (HL2.out _).mono ?_); rintro e w' ⟨rfl, rfl⟩))
                                  | (go_at_call 45; ((with_reducible refine (HR1.out _).mono ?_); rintro e w' ⟨rfl, rfl⟩))
                                  | (go_at_call 45; ((with_reducible refine (HR2.out _).mono ?_); rintro e w' ⟨rfl, rfl⟩))
                                  | (go_at_call 45; ((with_reducible refine (HR3.out _).mono ?_); rintro e w' ⟨rfl, rfl⟩)))
                obtain ⟨w5, hw5⟩ : ∃ w5, (w.alloc (.cells #[.int .i64 0, .string ⟨#[]⟩, .int .i64 0, .int .i64 0, .bool false] 52)).alloc (.cells #[.int .i64 2, .string X, .int .i64 (a : Int)] 29) = w5 := ⟨_, rfl⟩
                have HB5 : Hid (Below w.heap.size w w5) := by
                  show Below _ _ _
                  rw [← hw5]
                  exact ((Below.refl w.heap.size w).alloc (Nat.le_refl _) _).alloc (by simp) _
                have HU5 : Hid (Five w5 w.heap.size 52 (.int .i64 0) (.string ⟨#[]⟩) (.int .i64 0) (.int .i64 0) (.bool false)) := by
                  show Five _ _ _ _ _ _ _ _
                  rw [← hw5]
                  exact (Five.new w _ _ _ _ _ _).below ((Below.refl _ _).alloc (Nat.le_refl _) _) (by simp)
                have HT5 : Hid (Trio w5 (w.heap.size + 1) 29 (.int .i64 2) (.string X) (.int .i64 (a : Int))) := by
                  show Trio _ _ _ _ _ _
                  rw [← hw5]
                  have := Trio.new (w.alloc (.cells #[.int .i64 0, .string ⟨#[]⟩, .int .i64 0, .int .i64 0, .bool false] 52)) 29 (.int .i64 2) (.string X) (.int .i64 (a : Int))
                  rw [World.size_alloc] at this
                  exact this
                rw [hw5]
                clear hw5
                have t0 := HT5.out.c0
                have t1 := HT5.out.c1
                have t2 := HT5.out.c2
                have hlu := HU5.out.lt
                have hlt5 := HT5.out.lt
                go_region_with (go_at_call 8; refine (HV.out _).mono ?_; rintro e w6 ⟨rfl, hb6⟩; have HB6 := Lib.hid ((Below.refl w5.heap.size w5).drew.trans hb6); have g0 := (HT5.out.below HB6.out HT5.out.lt).c0; have g1 := (HT5.out.below HB6.out HT5.out.lt).c1; have g2 := (HT5.out.below HB6.out HT5.out.lt).c2; have HU6 := Lib.hid (HU5.out.below HB6.out HU5.out.lt); have u0 := HU6.out.f 0; have u1 := HU6.out.f 1; have u2 := HU6.out.f 2; have u3 := HU6.out.f 3; have u4 := HU6.out.f 4; have v0 := HU6.out.c0; have v1 := HU6.out.c1; have v2 := HU6.out.c2; have v3 := HU6.out.c3; have v4 := HU6.out.c4; have hl6 := HU6.out.lt; clear hb6)
                all_goals
                  go_wp2
                  have hst := HU6.out.stored (a' := .int .i64 2) (b' := .string X) (c' := .int .i64 (a : Int)) (d' := .int .i64 (S.size : Int)) (e' := .bool vb)
                  have r0 := hst.c0
                  have r1 := hst.c1
                  have r2 := hst.c2
                  have r3 := hst.c3
                  have r4 := hst.c4
                  exact bodyPost_ret (v := .agg #[.int .i64 2, .string X, .int .i64 (a : Int), .int .i64 (S.size : Int), .bool vb]) (by simp [results, Try.results31, go_sem, r0, r1, r2, r3, r4]) rfl
                    ⟨2, X, a, S.size, vb, rfl, (HB5.out.trans (HB6.out.mono HB5.out.size)).trans (five_below w6 (Nat.le_refl _) _ _ _ _ _), HFP.out.1, fun h => ⟨(HFP.out.2 h).1, (HFP.out.2 h).2.1, rfl, (HFP.out.2 h).2.2.2⟩⟩
          · have e46 : (((s[f]?.getD 0).toNat : Int) == 46) = false := beq_false_of_ne (by omega)
            have HDG : Hid (a + digN l = f) := by show _ = _; rw [HDN.out (.inl (by rw [HY1.out]; exact decide_eq_false h46))]; exact HF1.out
            have heS : f ≤ S.size := by rw [HZ.out]; have h1 := dig_le l; have h2 := HLL.out; have h3 := HDG.out; have h4 := HZ.out; omega
            have hae : a ≤ f := by have := HDG.out; omega
            have HDE : Hid (hd (l.drop (digN l)) = s[f]?.getD 0) := by have h := HDR.out (digN l); rw [HDG.out] at h; exact h
            have HNP : Hid (0 < numN l) := by have := tk_pos hne; rw [tk_num hkd] at this; exact this
            by_cases hel : f < S.size
            · have hxe := HAT.out f hel
              have HL2 := Lib.hid (fun w => letter_ref (s[f]?.getD 0) w)
              cases hz : letB (s[f]?.getD 0)
              · rw [hz] at HL2
                have hen : a + numN l = f := by rw [num_plain (by rw [HDE.out]; exact hz)]; exact HDG.out
                clear hz
                have HFP0 := Lib.hid (found_take hne (tk_num hkd) HNP.out (by decide))
                have hcut := HCUT.out a f
                rw [show f - a = numN l by omega] at hcut
                have HV := Lib.hid (fun w => validR_any 2 (a : Int) (l.take (numN l)) (by rw [List.length_take]; have := HLL.out; omega) w)
                unfold encK at HV
                have HFP : Hid (vld 2 (l.take (numN l)) = okR l ∧ (vld 2 (l.take (numN l)) = true → (2 : Int) = (tkR l).1 ∧ bsOf (l.take (numN l)) = bsOf (tkR l).2.1 ∧ (a : Int) = a ∧ (f : Int) = ((a + (tkR l).2.2 : Nat) : Int))) := ⟨HFP0.out.1, fun _ => by rw [HFP0.out.2]; exact ⟨rfl, rfl, rfl, by show (f : Int) = ((a + numN l : Nat) : Int); omega⟩⟩
                rw [HLD.out] at hcut
                generalize hX : bsOf (l.take (numN l)) = X at *
                generalize vld 2 (l.take (numN l)) = vb at *
                clear hX HFP0
                clear hlet hdig hkd h34 hen HKD h46
                generalize s[a]?.getD 0 = x at *
                generalize s[f]?.getD 0 = y at *
                generalize s[m]?.getD 0 = z at *
                go_enter Try.func31, Try.ntmps31
                go_upto_region 18 with (first
                                  | (go_at_call 41; ((with_reducible refine (HD.out _).mono ?_); rintro e w' ⟨rfl, rfl⟩))
                                  | (go_at_call 41; ((with_reducible refine (HD2.out _).mono ?_); rintro e w' ⟨rfl, rfl⟩))
                                  | (go_at_call 40; ((with_reducible refine (HL.out _).mono ?_); rintro e w' ⟨rfl, rfl⟩))
                                  | (go_at_call 40; ((with_reducible refine (HL2.out _).mono ?_); rintro e w' ⟨rfl, rfl⟩))
                                  | (go_at_call 45; ((with_reducible refine (HR1.out _).mono ?_); rintro e w' ⟨rfl, rfl⟩))
                                  | (go_at_call 45; ((with_reducible refine (HR2.out _).mono ?_); rintro e w' ⟨rfl, rfl⟩))
                                  | (go_at_call 45; ((with_reducible refine (HR3.out _).mono ?_); rintro e w' ⟨rfl, rfl⟩)))
                obtain ⟨w5, hw5⟩ : ∃ w5, (w.alloc (.cells #[.int .i64 0, .string ⟨#[]⟩, .int .i64 0, .int .i64 0, .bool false] 52)).alloc (.cells #[.int .i64 2, .string X, .int .i64 (a : Int)] 29) = w5 := ⟨_, rfl⟩
                have HB5 : Hid (Below w.heap.size w w5) := by
                  show Below _ _ _
                  rw [← hw5]
                  exact ((Below.refl w.heap.size w).alloc (Nat.le_refl _) _).alloc (by simp) _
                have HU5 : Hid (Five w5 w.heap.size 52 (.int .i64 0) (.string ⟨#[]⟩) (.int .i64 0) (.int .i64 0) (.bool false)) := by
                  show Five _ _ _ _ _ _ _ _
                  rw [← hw5]
                  exact (Five.new w _ _ _ _ _ _).below ((Below.refl _ _).alloc (Nat.le_refl _) _) (by simp)
                have HT5 : Hid (Trio w5 (w.heap.size + 1) 29 (.int .i64 2) (.string X) (.int .i64 (a : Int))) := by
                  show Trio _ _ _ _ _ _
                  rw [← hw5]
                  have := Trio.new (w.alloc (.cells #[.int .i64 0, .string ⟨#[]⟩, .int .i64 0, .int .i64 0, .bool false] 52)) 29 (.int .i64 2) (.string X) (.int .i64 (a : Int))
                  rw [World.size_alloc] at this
                  exact this
                rw [hw5]
                clear hw5
                have t0 := HT5.out.c0
                have t1 := HT5.out.c1
                have t2 := HT5.out.c2
                have hlu := HU5.out.lt
                have hlt5 := HT5.out.lt
                go_region_with (go_at_call 8; refine (HV.out _).mono ?_; rintro e w6 ⟨rfl, hb6⟩; have HB6 := Lib.hid ((Below.refl w5.heap.size w5).drew.trans hb6); have g0 := (HT5.out.below HB6.out HT5.out.lt).c0; have g1 := (HT5.out.below HB6.out HT5.out.lt).c1; have g2 := (HT5.out.below HB6.out HT5.out.lt).c2; have HU6 := Lib.hid (HU5.out.below HB6.out HU5.out.lt); have u0 := HU6.out.f 0; have u1 := HU6.out.f 1; have u2 := HU6.out.f 2; have u3 := HU6.out.f 3; have u4 := HU6.out.f 4; have v0 := HU6.out.c0; have v1 := HU6.out.c1; have v2 := HU6.out.c2; have v3 := HU6.out.c3; have v4 := HU6.out.c4; have hl6 := HU6.out.lt; clear hb6)
                all_goals
                  go_wp2
                  have hst := HU6.out.stored (a' := .int .i64 2) (b' := .string X) (c' := .int .i64 (a : Int)) (d' := .int .i64 (f : Int)) (e' := .bool vb)
                  have r0 := hst.c0
                  have r1 := hst.c1
                  have r2 := hst.c2
                  have r3 := hst.c3
                  have r4 := hst.c4
                  exact bodyPost_ret (v := .agg #[.int .i64 2, .string X, .int .i64 (a : Int), .int .i64 (f : Int), .bool vb]) (by simp [results, Try.results31, go_sem, r0, r1, r2, r3, r4]) rfl
                    ⟨2, X, a, f, vb, rfl, (HB5.out.trans (HB6.out.mono HB5.out.size)).trans (five_below w6 (Nat.le_refl _) _ _ _ _ _), HFP.out.1, fun h => ⟨(HFP.out.2 h).1, (HFP.out.2 h).2.1, rfl, (HFP.out.2 h).2.2.2⟩⟩
              · have HF := Lib.hid (num_letter hne hkd (by rw [HDE.out]; exact hz) (by have := HDG.out; have := HLL.out; have := HZ.out; omega))
                rw [hz] at HL2
                have HBZ := Lib.hid ((Below.refl w.heap.size w).alloc (Nat.le_refl _) (.cells #[.int .i64 0, .string ⟨#[]⟩, .int .i64 0, .int .i64 0, .bool false] 52))
                have HBZ := Lib.hid (HBZ.out.alloc (by simp) (.cells #[.int .i64 2, .string ⟨#[]⟩, .int .i64 (a : Int)] 29))
                clear hz hlet hdig hkd h34 HKD h46
                generalize s[a]?.getD 0 = x at *
                generalize s[f]?.getD 0 = y at *
                generalize s[m]?.getD 0 = z at *
                go_enter Try.func31, Try.ntmps31
                go_wp2_with (first
            | (go_at_call 41; ((with_reducible refine (HD.out _).mono ?_); rintro e w' ⟨rfl, rfl⟩))
            | (go_at_call 41; ((with_reducible refine (HD2.out _).mono ?_); rintro e w' ⟨rfl, rfl⟩))
            | (go_at_call 40; ((with_reducible refine (HL.out _).mono ?_); rintro e w' ⟨rfl, rfl⟩))
            | (go_at_call 40; ((with_reducible refine (HL2.out _).mono ?_); rintro e w' ⟨rfl, rfl⟩))
            | (go_at_call 45; ((with_reducible refine (HR1.out _).mono ?_); rintro e w' ⟨rfl, rfl⟩))
            | (go_at_call 45; ((with_reducible refine (HR2.out _).mono ?_); rintro e w' ⟨rfl, rfl⟩))
            | (go_at_call 45; ((with_reducible refine (HR3.out _).mono ?_); rintro e w' ⟨rfl, rfl⟩)))
                exact bodyPost_ret (v := .agg #[.int .i64 0, .string ⟨#[]⟩, .int .i64 0, .int .i64 0, .bool false]) (by simp [results, Try.results31, go_sem]) rfl
                  ⟨0, ⟨#[]⟩, 0, 0, false, rfl, HBZ.out, HF.out.symm, fun h => by cases h⟩
            · have hen : a + numN l = f := by
                rw [num_plain (by rw [HDE.out, List.getElem?_eq_none (by have := HZ.out; omega)]; decide)]; exact HDG.out
              obtain rfl : f = S.size := by omega
              omega
        · have h1i : ¬ (m : Int) < (S.size : Int) := by omega
          have HDG : Hid (a + digN l = f) := by
            show _ = _
            rw [HDN.out (.inr (by rw [HY2.out, List.getElem?_eq_none (by have := HZ.out; omega)]; decide))]; exact HF1.out
          clear hm
          have heS : f ≤ S.size := by rw [HZ.out]; have h1 := dig_le l; have h2 := HLL.out; have h3 := HDG.out; have h4 := HZ.out; omega
          have hae : a ≤ f := by have := HDG.out; omega
          have HDE : Hid (hd (l.drop (digN l)) = s[f]?.getD 0) := by have h := HDR.out (digN l); rw [HDG.out] at h; exact h
          have HNP : Hid (0 < numN l) := by have := tk_pos hne; rw [tk_num hkd] at this; exact this
          by_cases hel : f < S.size
          · have hxe := HAT.out f hel
            have HL2 := Lib.hid (fun w => letter_ref (s[f]?.getD 0) w)
            cases hz : letB (s[f]?.getD 0)
            · rw [hz] at HL2
              have hen : a + numN l = f := by rw [num_plain (by rw [HDE.out]; exact hz)]; exact HDG.out
              clear hz
              have HFP0 := Lib.hid (found_take hne (tk_num hkd) HNP.out (by decide))
              have hcut := HCUT.out a f
              rw [show f - a = numN l by omega] at hcut
              have HV := Lib.hid (fun w => validR_any 2 (a : Int) (l.take (numN l)) (by rw [List.length_take]; have := HLL.out; omega) w)
              unfold encK at HV
              have HFP : Hid (vld 2 (l.take (numN l)) = okR l ∧ (vld 2 (l.take (numN l)) = true → (2 : Int) = (tkR l).1 ∧ bsOf (l.take (numN l)) = bsOf (tkR l).2.1 ∧ (a : Int) = a ∧ (f : Int) = ((a + (tkR l).2.2 : Nat) : Int))) := ⟨HFP0.out.1, fun _ => by rw [HFP0.out.2]; exact ⟨rfl, rfl, rfl, by show (f : Int) = ((a + numN l : Nat) : Int); omega⟩⟩
              rw [HLD.out] at hcut
              generalize hX : bsOf (l.take (numN l)) = X at *
              generalize vld 2 (l.take (numN l)) = vb at *
              clear hX HFP0
              clear hlet hdig hkd h34 hen HKD h1
              generalize s[a]?.getD 0 = x at *
              generalize s[f]?.getD 0 = y at *
              go_enter Try.func31, Try.ntmps31
              go_upto_region 18 with (first
                              | (go_at_call 41; ((with_reducible refine (HD.out _).mono ?_); rintro e w' ⟨rfl, rfl⟩))
                              | (go_at_call 41; ((with_reducible refine (HD2.out _).mono ?_); rintro e w' ⟨rfl, rfl⟩))
                              | (go_at_call 40; ((with_reducible refine (HL.out _).mono ?_); rintro e w' ⟨rfl, rfl⟩))
                              | (go_at_call 40; ((with_reducible refine (HL2.out _).mono ?_); rintro e w' ⟨rfl, rfl⟩))
                              | (go_at_call 45; ((with_reducible refine (HR1.out _).mono ?_); rintro e w' ⟨rfl, rfl⟩))
                              | (go_at_call 45; ((with_reducible refine (HR2.out _).mono ?_); rintro e w' ⟨rfl, rfl⟩))
                              | (go_at_call 45; ((with_reducible refine (HR3.out _).mono ?_); rintro e w' ⟨rfl, rfl⟩)))
              obtain ⟨w5, hw5⟩ : ∃ w5, (w.alloc (.cells #[.int .i64 0, .string ⟨#[]⟩, .int .i64 0, .int .i64 0, .bool false] 52)).alloc (.cells #[.int .i64 2, .string X, .int .i64 (a : Int)] 29) = w5 := ⟨_, rfl⟩
              have HB5 : Hid (Below w.heap.size w w5) := by
                show Below _ _ _
                rw [← hw5]
                exact ((Below.refl w.heap.size w).alloc (Nat.le_refl _) _).alloc (by simp) _
              have HU5 : Hid (Five w5 w.heap.size 52 (.int .i64 0) (.string ⟨#[]⟩) (.int .i64 0) (.int .i64 0) (.bool false)) := by
                show Five _ _ _ _ _ _ _ _
                rw [← hw5]
                exact (Five.new w _ _ _ _ _ _).below ((Below.refl _ _).alloc (Nat.le_refl _) _) (by simp)
              have HT5 : Hid (Trio w5 (w.heap.size + 1) 29 (.int .i64 2) (.string X) (.int .i64 (a : Int))) := by
                show Trio _ _ _ _ _ _
                rw [← hw5]
                have := Trio.new (w.alloc (.cells #[.int .i64 0, .string ⟨#[]⟩, .int .i64 0, .int .i64 0, .bool false] 52)) 29 (.int .i64 2) (.string X) (.int .i64 (a : Int))
                rw [World.size_alloc] at this
                exact this
              rw [hw5]
              clear hw5
              have t0 := HT5.out.c0
              have t1 := HT5.out.c1
              have t2 := HT5.out.c2
              have hlu := HU5.out.lt
              have hlt5 := HT5.out.lt
              go_region_with (go_at_call 8; refine (HV.out _).mono ?_; rintro e w6 ⟨rfl, hb6⟩; have HB6 := Lib.hid ((Below.refl w5.heap.size w5).drew.trans hb6); have g0 := (HT5.out.below HB6.out HT5.out.lt).c0; have g1 := (HT5.out.below HB6.out HT5.out.lt).c1; have g2 := (HT5.out.below HB6.out HT5.out.lt).c2; have HU6 := Lib.hid (HU5.out.below HB6.out HU5.out.lt); have u0 := HU6.out.f 0; have u1 := HU6.out.f 1; have u2 := HU6.out.f 2; have u3 := HU6.out.f 3; have u4 := HU6.out.f 4; have v0 := HU6.out.c0; have v1 := HU6.out.c1; have v2 := HU6.out.c2; have v3 := HU6.out.c3; have v4 := HU6.out.c4; have hl6 := HU6.out.lt; clear hb6)
              all_goals
                go_wp2
                have hst := HU6.out.stored (a' := .int .i64 2) (b' := .string X) (c' := .int .i64 (a : Int)) (d' := .int .i64 (f : Int)) (e' := .bool vb)
                have r0 := hst.c0
                have r1 := hst.c1
                have r2 := hst.c2
                have r3 := hst.c3
                have r4 := hst.c4
                exact bodyPost_ret (v := .agg #[.int .i64 2, .string X, .int .i64 (a : Int), .int .i64 (f : Int), .bool vb]) (by simp [results, Try.results31, go_sem, r0, r1, r2, r3, r4]) rfl
                  ⟨2, X, a, f, vb, rfl, (HB5.out.trans (HB6.out.mono HB5.out.size)).trans (five_below w6 (Nat.le_refl _) _ _ _ _ _), HFP.out.1, fun h => ⟨(HFP.out.2 h).1, (HFP.out.2 h).2.1, rfl, (HFP.out.2 h).2.2.2⟩⟩
            · have HF := Lib.hid (num_letter hne hkd (by rw [HDE.out]; exact hz) (by have := HDG.out; have := HLL.out; have := HZ.out; omega))
              rw [hz] at HL2
              have HBZ := Lib.hid ((Below.refl w.heap.size w).alloc (Nat.le_refl _) (.cells #[.int .i64 0, .string ⟨#[]⟩, .int .i64 0, .int .i64 0, .bool false] 52))
              have HBZ := Lib.hid (HBZ.out.alloc (by simp) (.cells #[.int .i64 2, .string ⟨#[]⟩, .int .i64 (a : Int)] 29))
              clear hz hlet hdig hkd h34 HKD h1
              generalize s[a]?.getD 0 = x at *
              generalize s[S.size]?.getD 0 = y at *
              go_enter Try.func31, Try.ntmps31
              go_wp2_with (first
            | (go_at_call 41; ((with_reducible refine (HD.out _).mono ?_); rintro e w' ⟨rfl, rfl⟩))
            | (go_at_call 41; ((with_reducible refine (HD2.out _).mono ?_); rintro e w' ⟨rfl, rfl⟩))
            | (go_at_call 40; ((with_reducible refine (HL.out _).mono ?_); rintro e w' ⟨rfl, rfl⟩))
            | (go_at_call 40; ((with_reducible refine (HL2.out _).mono ?_); rintro e w' ⟨rfl, rfl⟩))
            | (go_at_call 45; ((with_reducible refine (HR1.out _).mono ?_); rintro e w' ⟨rfl, rfl⟩))
            | (go_at_call 45; ((with_reducible refine (HR2.out _).mono ?_); rintro e w' ⟨rfl, rfl⟩))
            | (go_at_call 45; ((with_reducible refine (HR3.out _).mono ?_); rintro e w' ⟨rfl, rfl⟩)))
              exact bodyPost_ret (v := .agg #[.int .i64 0, .string ⟨#[]⟩, .int .i64 0, .int .i64 0, .bool false]) (by simp [results, Try.results31, go_sem]) rfl
                ⟨0, ⟨#[]⟩, 0, 0, false, rfl, HBZ.out, HF.out.symm, fun h => by cases h⟩
          · have hen : a + numN l = f := by
              rw [num_plain (by rw [HDE.out, List.getElem?_eq_none (by have := HZ.out; omega)]; decide)]; exact HDG.out
            obtain rfl : f = S.size := by omega
            have HFP0 := Lib.hid (found_take hne (tk_num hkd) HNP.out (by decide))
            have hcut := HCUT.out a S.size
            rw [show S.size - a = numN l by omega] at hcut
            have HV := Lib.hid (fun w => validR_any 2 (a : Int) (l.take (numN l)) (by rw [List.length_take]; have := HLL.out; omega) w)
            unfold encK at HV
            have HFP : Hid (vld 2 (l.take (numN l)) = okR l ∧ (vld 2 (l.take (numN l)) = true → (2 : Int) = (tkR l).1 ∧ bsOf (l.take (numN l)) = bsOf (tkR l).2.1 ∧ (a : Int) = a ∧ (S.size : Int) = ((a + (tkR l).2.2 : Nat) : Int))) := ⟨HFP0.out.1, fun _ => by rw [HFP0.out.2]; exact ⟨rfl, rfl, rfl, by show (S.size : Int) = ((a + numN l : Nat) : Int); omega⟩⟩
            rw [HLD.out] at hcut
            generalize hX : bsOf (l.take (numN l)) = X at *
            generalize vld 2 (l.take (numN l)) = vb at *
            clear hX HFP0
            clear hlet hdig hkd h34 hen HKD h1
            generalize s[a]?.getD 0 = x at *
            generalize s[S.size]?.getD 0 = y at *
            go_enter Try.func31, Try.ntmps31
            go_upto_region 18 with (first
                          | (go_at_call 41; ((with_reducible refine (HD.out _).mono ?_); rintro e w' ⟨rfl, rfl⟩))
                          | (go_at_call 41; ((with_reducible refine (HD2.out _).mono ?_); rintro e w' ⟨rfl, rfl⟩))
                          | (go_at_call 40; ((with_reducible refine (HL.out _).mono ?_); rintro e w' ⟨rfl, rfl⟩))
                          | (go_at_call 40; ((with_reducible refine (HL2.out _).mono ?_); rintro e w' ⟨rfl, rfl⟩))
                          | (go_at_call 45; ((with_reducible refine (HR1.out _).mono ?_); rintro e w' ⟨rfl, rfl⟩))
                          | (go_at_call 45; ((with_reducible refine (HR2.out _).mono ?_); rintro e w' ⟨rfl, rfl⟩))
                          | (go_at_call 45; ((with_reducible refine (HR3.out _).mono ?_); rintro e w' ⟨rfl, rfl⟩)))
            obtain ⟨w5, hw5⟩ : ∃ w5, (w.alloc (.cells #[.int .i64 0, .string ⟨#[]⟩, .int .i64 0, .int .i64 0, .bool false] 52)).alloc (.cells #[.int .i64 2, .string X, .int .i64 (a : Int)] 29) = w5 := ⟨_, rfl⟩
            have HB5 : Hid (Below w.heap.size w w5) := by
              show Below _ _ _
              rw [← hw5]
              exact ((Below.refl w.heap.size w).alloc (Nat.le_refl _) _).alloc (by simp) _
            have HU5 : Hid (Five w5 w.heap.size 52 (.int .i64 0) (.string ⟨#[]⟩) (.int .i64 0) (.int .i64 0) (.bool false)) := by
              show Five _ _ _ _ _ _ _ _
              rw [← hw5]
              exact (Five.new w _ _ _ _ _ _).below ((Below.refl _ _).alloc (Nat.le_refl _) _) (by simp)
            have HT5 : Hid (Trio w5 (w.heap.size + 1) 29 (.int .i64 2) (.string X) (.int .i64 (a : Int))) := by
              show Trio _ _ _ _ _ _
              rw [← hw5]
              have := Trio.new (w.alloc (.cells #[.int .i64 0, .string ⟨#[]⟩, .int .i64 0, .int .i64 0, .bool false] 52)) 29 (.int .i64 2) (.string X) (.int .i64 (a : Int))
              rw [World.size_alloc] at this
              exact this
            rw [hw5]
            clear hw5
            have t0 := HT5.out.c0
            have t1 := HT5.out.c1
            have t2 := HT5.out.c2
            have hlu := HU5.out.lt
            have hlt5 := HT5.out.lt
            go_region_with (go_at_call 8; refine (HV.out _).mono ?_; rintro e w6 ⟨rfl, hb6⟩; have HB6 := Lib.hid ((Below.refl w5.heap.size w5).drew.trans hb6); have g0 := (HT5.out.below HB6.out HT5.out.lt).c0; have g1 := (HT5.out.below HB6.out HT5.out.lt).c1; have g2 := (HT5.out.below HB6.out HT5.out.lt).c2; have HU6 := Lib.hid (HU5.out.below HB6.out HU5.out.lt); have u0 := HU6.out.f 0; have u1 := HU6.out.f 1; have u2 := HU6.out.f 2; have u3 := HU6.out.f 3; have u4 := HU6.out.f 4; have v0 := HU6.out.c0; have v1 := HU6.out.c1; have v2 := HU6.out.c2; have v3 := HU6.out.c3; have v4 := HU6.out.c4; have hl6 := HU6.out.lt; clear hb6)
            all_goals
              go_wp2
              have hst := HU6.out.stored (a' := .int .i64 2) (b' := .string X) (c' := .int .i64 (a : Int)) (d' := .int .i64 (S.size : Int)) (e' := .bool vb)
              have r0 := hst.c0
              have r1 := hst.c1
              have r2 := hst.c2
              have r3 := hst.c3
              have r4 := hst.c4
              exact bodyPost_ret (v := .agg #[.int .i64 2, .string X, .int .i64 (a : Int), .int .i64 (S.size : Int), .bool vb]) (by simp [results, Try.results31, go_sem, r0, r1, r2, r3, r4]) rfl
                ⟨2, X, a, S.size, vb, rfl, (HB5.out.trans (HB6.out.mono HB5.out.size)).trans (five_below w6 (Nat.le_refl _) _ _ _ _ _), HFP.out.1, fun h => ⟨(HFP.out.2 h).1, (HFP.out.2 h).2.1, rfl, (HFP.out.2 h).2.2.2⟩⟩
    · -- a word
      have hkd : kdS (hd l) = 1 := by rw [HKD.out, hlet]; rfl
      have hdig : digB (s[a]?.getD 0) = false := by
        cases h : digB (s[a]?.getD 0)
        · rfl
        · rw [dig_not_let h] at hlet; cases hlet
      rw [hdig] at HD
      rw [hlet] at HL
      have hnp : 0 < spN ldB l := sp_pos _ hne (by rw [HHD.out]; unfold ldB; rw [hlet]; rfl)
      have hnl : spN ldB l ≤ l.length := sp_le _ _
      obtain ⟨e, he⟩ : ∃ e, a + spN ldB l = e := ⟨_, rfl⟩
      rw [he] at HR1
      have hae : a ≤ e := by omega
      have heS : e ≤ S.size := by rw [HZ.out]; have := HLL.out; omega
      have HFP0 := Lib.hid (found_take hne (tk_word hkd) hnp (by decide))
      have hcut := HCUT.out a e
      rw [show e - a = spN ldB l by omega] at hcut
      have HV := Lib.hid (fun w => validR_any 1 (a : Int) (l.take (spN ldB l)) (by rw [List.length_take]; have := HLL.out; omega) w)
      unfold encK at HV
      have HFP : Hid (vld 1 (l.take (spN ldB l)) = okR l ∧ (vld 1 (l.take (spN ldB l)) = true → (1 : Int) = (tkR l).1 ∧ bsOf (l.take (spN ldB l)) = bsOf (tkR l).2.1 ∧ (a : Int) = a ∧ (e : Int) = ((a + (tkR l).2.2 : Nat) : Int))) := ⟨HFP0.out.1, fun _ => by rw [HFP0.out.2]; exact ⟨rfl, rfl, rfl, by show (e : Int) = ((a + spN ldB l : Nat) : Int); omega⟩⟩
      rw [HLD.out] at hcut
      generalize hX : bsOf (l.take (spN ldB l)) = X at *
      generalize vld 1 (l.take (spN ldB l)) = vb at *
      clear hX HFP0
      clear hlet hdig hkd h34 he hnp hnl HKD
      generalize s[a]?.getD 0 = x at *
      go_enter Try.func31, Try.ntmps31
      go_upto_region 18 with (first
              | (go_at_call 41; ((with_reducible refine (HD.out _).mono ?_); rintro e w' ⟨rfl, rfl⟩))
              | (go_at_call 41; ((with_reducible refine (HD2.out _).mono ?_); rintro e w' ⟨rfl, rfl⟩))
              | (go_at_call 40; ((with_reducible refine (HL.out _).mono ?_); rintro e w' ⟨rfl, rfl⟩))
              | (go_at_call 40; ((with_reducible refine (HL2.out _).mono ?_); rintro e w' ⟨rfl, rfl⟩))
              | (go_at_call 45; ((with_reducible refine (HR1.out _).mono ?_); rintro e w' ⟨rfl, rfl⟩))
              | (go_at_call 45; ((with_reducible refine (HR2.out _).mono ?_); rintro e w' ⟨rfl, rfl⟩))
              | (go_at_call 45; ((with_reducible refine (HR3.out _).mono ?_); rintro e w' ⟨rfl, rfl⟩)))
      obtain ⟨w5, hw5⟩ : ∃ w5, (w.alloc (.cells #[.int .i64 0, .string ⟨#[]⟩, .int .i64 0, .int .i64 0, .bool false] 52)).alloc (.cells #[.int .i64 1, .string X, .int .i64 (a : Int)] 29) = w5 := ⟨_, rfl⟩
      have HB5 : Hid (Below w.heap.size w w5) := by
        show Below _ _ _
        rw [← hw5]
        exact ((Below.refl w.heap.size w).alloc (Nat.le_refl _) _).alloc (by simp) _
      have HU5 : Hid (Five w5 w.heap.size 52 (.int .i64 0) (.string ⟨#[]⟩) (.int .i64 0) (.int .i64 0) (.bool false)) := by
        show Five _ _ _ _ _ _ _ _
        rw [← hw5]
        exact (Five.new w _ _ _ _ _ _).below ((Below.refl _ _).alloc (Nat.le_refl _) _) (by simp)
      have HT5 : Hid (Trio w5 (w.heap.size + 1) 29 (.int .i64 1) (.string X) (.int .i64 (a : Int))) := by
        show Trio _ _ _ _ _ _
        rw [← hw5]
        have := Trio.new (w.alloc (.cells #[.int .i64 0, .string ⟨#[]⟩, .int .i64 0, .int .i64 0, .bool false] 52)) 29 (.int .i64 1) (.string X) (.int .i64 (a : Int))
        rw [World.size_alloc] at this
        exact this
      rw [hw5]
      clear hw5
      have t0 := HT5.out.c0
      have t1 := HT5.out.c1
      have t2 := HT5.out.c2
      have hlu := HU5.out.lt
      have hlt5 := HT5.out.lt
      go_region_with (go_at_call 8; refine (HV.out _).mono ?_; rintro e w6 ⟨rfl, hb6⟩; have HB6 := Lib.hid ((Below.refl w5.heap.size w5).drew.trans hb6); have g0 := (HT5.out.below HB6.out HT5.out.lt).c0; have g1 := (HT5.out.below HB6.out HT5.out.lt).c1; have g2 := (HT5.out.below HB6.out HT5.out.lt).c2; have HU6 := Lib.hid (HU5.out.below HB6.out HU5.out.lt); have u0 := HU6.out.f 0; have u1 := HU6.out.f 1; have u2 := HU6.out.f 2; have u3 := HU6.out.f 3; have u4 := HU6.out.f 4; have v0 := HU6.out.c0; have v1 := HU6.out.c1; have v2 := HU6.out.c2; have v3 := HU6.out.c3; have v4 := HU6.out.c4; have hl6 := HU6.out.lt; clear hb6)
      all_goals
        go_wp2
        have hst := HU6.out.stored (a' := .int .i64 1) (b' := .string X) (c' := .int .i64 (a : Int)) (d' := .int .i64 (e : Int)) (e' := .bool vb)
        have r0 := hst.c0
        have r1 := hst.c1
        have r2 := hst.c2
        have r3 := hst.c3
        have r4 := hst.c4
        exact bodyPost_ret (v := .agg #[.int .i64 1, .string X, .int .i64 (a : Int), .int .i64 (e : Int), .bool vb]) (by simp [results, Try.results31, go_sem, r0, r1, r2, r3, r4]) rfl
          ⟨1, X, a, e, vb, rfl, (HB5.out.trans (HB6.out.mono HB5.out.size)).trans (five_below w6 (Nat.le_refl _) _ _ _ _ _), HFP.out.1, fun h => ⟨(HFP.out.2 h).1, (HFP.out.2 h).2.1, rfl, (HFP.out.2 h).2.2.2⟩⟩

end Go.Proofs.Ytohobiglnebocaa.Lx
