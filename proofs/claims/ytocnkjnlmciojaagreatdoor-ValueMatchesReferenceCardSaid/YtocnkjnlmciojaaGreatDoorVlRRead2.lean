/-
  The reference's ReadIn of values.
-/
import Derived.Test.YtocnkjnlmciojaaGreatDoorVlRParse2
import Derived.Test.YtocnkjnlmciojaaGreatDoorVlRead2
import Derived.Test.YtocnkjnlmciojaaGreatDoorVlByMath
import Derived.Test.YtocnkjnlmciojaaGreatDoorPkRef2
namespace Go.Proofs.YtocnkjnlmciojaaGreatDoor
open Go Go.RowKit Go.Shelf Go.ChangeShapes Go.WideShapes Go.ChangeAt

/-- What the reference's reading comes to. -/
def RdGP (K : Nat → Prop) (q : Vl × Nat × Int) (bs : List Int) (W : World) (e : Ending) (W' : World) : Prop :=
  Below W.heap.size W W' ∧ ((q.2.2 = 0 ∧ ∃ a' n c, e = .returned (encG q.1 (.slice none 0 0) (.slice a' n c) 0) ∧ Rd K W' .u8 a' n c (bs.drop q.2.1)) ∨
    (q.2.2 ≠ 0 ∧ e = .returned (encG Vl.null (.slice none 0 0) (.slice none 0 0) q.2.2)))
theorem RdGP.good {K : Nat → Prop} {q : Vl × Nat × Int} {bs : List Int} {W : World} {e : Ending} {W' : World} {v : Vl} {c : Nat} {a' : Option Addr} {n m : Nat} (h : q = (v, c, 0)) (hb : Below W.heap.size W W') (he : e = .returned (encG v (.slice none 0 0) (.slice a' n m) 0)) (hR : Rd K W .u8 a' n m (bs.drop c)) : RdGP K q bs W e W' := by
  subst h; exact ⟨hb, .inl ⟨rfl, a', n, m, he, hR.below hb⟩⟩
theorem RdGP.bad {K : Nat → Prop} {q : Vl × Nat × Int} {bs : List Int} {W : World} {e : Ending} {W' : World} {x : Int} (h : q = (Vl.null, 0, x)) (hx : x ≠ 0) (hb : Below W.heap.size W W') (he : e = .returned (encG Vl.null (.slice none 0 0) (.slice none 0 0) x)) : RdGP K q bs W e W' := by
  subst h; exact ⟨hb, .inr ⟨hx, he⟩⟩

/-- A text behind its length. -/
def txtQ (n : Nat) (r : List Int) : Vl × Nat × Int :=
  if 40 < n then (Vl.null, 0, 5) else if r.length < n then (Vl.null, 0, 7) else if txtB (strU (r.take n)) = true then (⟨3, 0, strU (r.take n)⟩, n, 0) else (Vl.null, 0, 5)

set_option maxRecDepth 100000 in
set_option maxHeartbeats 4000000 in
theorem rtextg_any {K : Nat → Prop} {a : Option Addr} {len cap : Nat} {bs : List Int} (n : Nat) (hn : n < 18446744073709551616) {w : World} (hR : Rd K w .u8 a len cap bs) :
    Calls Tryz.prog 112 #[.int .u64 (n : Int), .slice a len cap] w (RdGP K (txtQ n bs) bs w) := by
  have hb0 : Below w.heap.size w (w.alloc (.cells #[.int .i64 0, .int .i64 0, .string ⟨#[]⟩, .slice none 0 0, .slice none 0 0, .int .i64 0] 54)) := (Below.self w).alloc (Nat.le_refl _) _
  have HB0 := Lib.hid hb0
  have HG0 := Lib.hid (Six.new w 54 (.int .i64 0) (.int .i64 0) (.string ⟨#[]⟩) (.slice none 0 0) (.slice none 0 0) (.int .i64 0))
  have HR := Lib.hid hR
  have HR0 := Lib.hid (hR.below hb0)
  have HL : Hid (len = bs.length) := hR.hl
  have hfit := hR.fit
  have htop := hR.top
  have hsm := hR.small
  clear hR hb0
  have c0 := HG0.out.c0
  have c1 := HG0.out.c1
  have c2 := HG0.out.c2
  have c3 := HG0.out.c3
  have c4 := HG0.out.c4
  have c5 := HG0.out.c5
  have f0 := HG0.out.fz 0
  have f1 := HG0.out.fz 1
  have f2 := HG0.out.fz 2
  have f3 := HG0.out.fz 3
  have f4 := HG0.out.fz 4
  have f5 := HG0.out.fz 5
  have plt := HG0.out.lt
  by_cases h40 : 40 < n
  · have HE : Hid (txtQ n bs = (Vl.null, 0, 5)) := if_pos h40
    have h40I : (40 : Int) < (n : Int) := by omega
    go_enter Tryz.func112, Tryz.ntmps112
    go_upto_region 1 with fail
    generalize w.alloc (.cells #[.int .i64 0, .int .i64 0, .string ⟨#[]⟩, .slice none 0 0, .slice none 0 0, .int .i64 0] 54) = V at *
    go_wp2
    exact bodyPost_ret (v := .agg #[.int .i64 0, .int .i64 0, .string ⟨#[]⟩, .slice none 0 0, .slice none 0 0, .int .i64 5]) (by simp [results, Tryz.results112, go_sem, c0, c1, c2, c3, c4, c5]) rfl (RdGP.bad HE.out (by decide) (below_put6 HB0.out (Nat.le_refl _) _ _ _ _ _ _) rfl)
  · have h40I : ¬ (40 : Int) < (n : Int) := by omega
    have hwn : IntKind.i64.wrap (n : Int) = (n : Int) := by rw [IntKind.wrap_i64]; omega
    by_cases hln : len < n
    · have HE : Hid (txtQ n bs = (Vl.null, 0, 7)) := by show _ = _; unfold txtQ; rw [if_neg h40, if_pos (by rw [← HL.out]; exact hln)]
      have hlnI : (len : Int) < (n : Int) := by omega
      go_enter Tryz.func112, Tryz.ntmps112
      go_upto_region 1 with fail
      generalize w.alloc (.cells #[.int .i64 0, .int .i64 0, .string ⟨#[]⟩, .slice none 0 0, .slice none 0 0, .int .i64 0] 54) = V at *
      go_wp2
      exact bodyPost_ret (v := .agg #[.int .i64 0, .int .i64 0, .string ⟨#[]⟩, .slice none 0 0, .slice none 0 0, .int .i64 7]) (by simp [results, Tryz.results112, go_sem, c0, c1, c2, c3, c4, c5]) rfl (RdGP.bad HE.out (by decide) (below_put6 HB0.out (Nat.le_refl _) _ _ _ _ _ _) rfl)
    · have hnl : n ≤ len := by omega
      have hlnI : ¬ (len : Int) < (n : Int) := by omega
      have HE : Hid (txtQ n bs = if txtB (strU (bs.take n)) = true then (⟨3, 0, strU (bs.take n)⟩, n, 0) else (Vl.null, 0, 5)) := by show _ = _; unfold txtQ; rw [if_neg h40, if_neg (by rw [← HL.out]; exact hln)]
      have hsl : (strU (bs.take n)).length ≤ 40 := by rw [strU_len, List.length_take]; omega
      have HVL : Hid (∀ (W : World), Calls Tryz.prog 31 #[.agg #[.int .i64 3, .int .i64 0, .string (bsOf (strU (bs.take n)))]] W fun e w' => e = .returned (.bool (txtB (strU (bs.take n)))) ∧ Below W.heap.size W w') := fun W => by
        have := rvalid_any ⟨3, 0, strU (bs.take n)⟩ ⟨⟨by show _ ≤ (3 : Int); decide, by show (3 : Int) ≤ _; decide⟩, ⟨by show _ ≤ (0 : Int); decide, by show (0 : Int) ≤ _; decide⟩, Nat.le_trans hsl (by decide)⟩ W
        rw [vld3] at this
        exact this
      have HST := Lib.hid (rstr_any (strU (bs.take n)))
      have hcv := fun (W' : World) (hW : W'.heap = (w.alloc (.cells #[.int .i64 0, .int .i64 0, .string ⟨#[]⟩, .slice none 0 0, .slice none 0 0, .int .i64 0] 54)).heap) => conv_back (HR0.out.first' n hnl) W' hW
      -- what the rest is spelled as
      obtain ⟨a', ha'⟩ : ∃ a', (if cap = n then a else a.map (·.add n)) = a' := ⟨_, rfl⟩
      have HRR : Hid (Rd K w .u8 a' (len - n) (cap - n) (bs.drop n)) := by
        by_cases hlt : n < len
        · obtain ⟨b, off, rfl, _⟩ := HR.out.cells (by omega)
          refine HR.out.rest n hnl (cap - n) (by omega) (by omega) a' (fun _ => ?_)
          rw [← ha', if_neg (by omega)]
          by_cases h0 : n = 0
          · simp [Addr.add, h0]
          · simp [Addr.add, h0]
        · obtain rfl : n = len := by omega
          rw [Nat.sub_self, List.drop_eq_nil_of_le (by rw [← HL.out]; exact Nat.le_refl _)]
          exact ⟨rfl, by omega, by omega, by omega, fun h => by omega⟩
      have HCV := Lib.hid hcv
      clear hcv hsl
      generalize strU (bs.take n) = ts at *
      generalize txtB ts = bv at *
      clear c0 c1 c2 c3 c4 c5 f0 f1 f2 f3 f4 f5 plt
      have hcv1 := HCV.out _ rfl
      clear HCV
      go_enter Tryz.func112, Tryz.ntmps112
      go_wp2_with fail
      refine (HST.out _).mono ?_
      rintro e w1 ⟨rfl, hbb⟩
      have hG1 := HG0.out.below hbb HG0.out.lt
      have hb1 := HB0.out.trans (hbb.mono HB0.out.size)
      have hbA : Below w1.heap.size w1 (w1.alloc (.cells #[.int .i64 3, .int .i64 0, .string (bsOf ts)] 45)) := (Below.self w1).alloc (Nat.le_refl _) _
      have HN := Lib.hid (Trio.new w1 45 (.int .i64 3) (.int .i64 0) (.string (bsOf ts)))
      have HB2 : Hid (Below w.heap.size w (w1.alloc (.cells #[.int .i64 3, .int .i64 0, .string (bsOf ts)] 45))) := hb1.trans (hbA.mono hb1.size)
      have HG2 := Lib.hid (hG1.below hbA hG1.lt)
      have hlt1 : w.heap.size < w1.heap.size := hG1.lt
      clear hbb hbA hG1 hb1 HB0 HG0 HR0 hcv1
      go_wp2_with fail
      obtain ⟨B, hB⟩ : ∃ B, w1.heap.size = B := ⟨_, rfl⟩
      rw [hB] at HN ⊢
      clear hB
      generalize w1.alloc (.cells #[.int .i64 3, .int .i64 0, .string (bsOf ts)] 45) = V at *
      refine (HVL.out _).mono ?_
      rintro e w2 ⟨rfl, hbb⟩
      have HB3 : Hid (Below w.heap.size w w2) := HB2.out.trans (hbb.mono HB2.out.size)
      have hG3 := HG2.out.below hbb HG2.out.lt
      have hN3 := HN.out.below hbb HN.out.lt
      clear hbb HB2 HG2 HN
      have c0 := hG3.c0
      have c1 := hG3.c1
      have c2 := hG3.c2
      have c3 := hG3.c3
      have c4 := hG3.c4
      have c5 := hG3.c5
      have f0 := hG3.fz 0
      have f1 := hG3.fz 1
      have f2 := hG3.fz 2
      have f3 := hG3.fz 3
      have f4 := hG3.fz 4
      have f5 := hG3.fz 5
      have plt := hG3.lt
      have d0 := hN3.c0
      have d1 := hN3.c1
      have d2 := hN3.c2
      clear hG3 hN3
      cases bv with
      | false =>
        have HQ2 : Hid (txtQ n bs = (Vl.null, 0, 5)) := HE.out.trans (if_neg (by simp))
        go_wp2
        exact bodyPost_ret (v := .agg #[.int .i64 0, .int .i64 0, .string ⟨#[]⟩, .slice none 0 0, .slice none 0 0, .int .i64 5]) (by simp [results, Tryz.results112, go_sem, c0, c1, c2, c3, c4, c5]) rfl (RdGP.bad HQ2.out (by decide) (below_put6 HB3.out (Nat.le_refl _) _ _ _ _ _ _) rfl)
      | true =>
        have HQ2 : Hid (txtQ n bs = (⟨3, 0, ts⟩, n, 0)) := HE.out.trans (if_pos (by simp))
        go_wp2_with fail
        go_region
        all_goals
          go_wp2
          exact bodyPost_ret (v := .agg #[.int .i64 3, .int .i64 0, .string (bsOf ts), .slice none 0 0, .slice a' (len - n) (cap - n), .int .i64 0]) (by simp [results, Tryz.results112, go_sem, c0, c1, c2, c3, c4, c5]) rfl (RdGP.good HQ2.out (below_drewN (below_put6 HB3.out (Nat.le_refl _) _ _ _ _ _ _) 1) rfl HRR.out)

end Go.Proofs.YtocnkjnlmciojaaGreatDoor

namespace Go.Proofs.YtocnkjnlmciojaaGreatDoor
open Go Go.RowKit Go.Shelf Go.ChangeShapes Go.WideShapes Go.ChangeAt

theorem RdGP.goodW {K : Nat → Prop} {q : Vl × Nat × Int} {bs : List Int} {W : World} {e : Ending} {W' : World} {v : Vl} {c : Nat} {a' : Option Addr} {n m : Nat} (h : q = (v, c, 0)) (hb : Below W.heap.size W W') (he : e = .returned (encG v (.slice none 0 0) (.slice a' n m) 0)) (hR : Rd K W' .u8 a' n m (bs.drop c)) : RdGP K q bs W e W' := by
  subst h; exact ⟨hb, .inl ⟨rfl, a', n, m, he, hR⟩⟩
theorem Rd.put6 {K : Nat → Prop} {W : World} {k : IntKind} {a : Option Addr} {len cap : Nat} {zs : List Int} {B : Nat} (h : Rd K W k a len cap zs) (hK : ∀ b, K b → b ≠ B) (x1 x2 x3 x4 x5 x6 : Value) : Rd K ((((((W.setCell ⟨B, 0, none⟩ x1).setCell ⟨B, 1, none⟩ x2).setCell ⟨B, 2, none⟩ x3).setCell ⟨B, 3, none⟩ x4).setCell ⟨B, 4, none⟩ x5).setCell ⟨B, 5, none⟩ x6) k a len cap zs :=
  (((((h.set1 hK x1).set1 hK x2).set1 hK x3).set1 hK x4).set1 hK x5).set1 hK x6
theorem rdTxt_q {r : List Int} {n c : Nat} (h : rdS r = ((n : Int), c, 0)) : rdTxt r = if (txtQ n (r.drop c)).2.2 = 0 then ((txtQ n (r.drop c)).1, c + (txtQ n (r.drop c)).2.1, 0) else (Vl.null, 0, (txtQ n (r.drop c)).2.2) := by
  unfold txtQ
  by_cases h40 : 40 < n
  · rw [if_pos h40, txt_big h (by omega)]; rfl
  · by_cases hl : (r.drop c).length < n
    · rw [if_neg h40, if_pos hl, txt_short h (by omega) (by omega)]; rfl
    · rw [if_neg h40, if_neg hl, txt_good h (by omega) (by omega)]
      by_cases ht : txtB (strU ((r.drop c).take n)) = true
      · rw [if_pos ht, if_pos ht]; rfl
      · rw [if_neg ht, if_neg ht]; rfl
theorem txtQ_null {n : Nat} {l : List Int} (h : (txtQ n l).2.2 ≠ 0) : (txtQ n l).1 = Vl.null := by
  unfold txtQ at h ⊢
  split
  · rfl
  · split
    · rfl
    · split
      · rename_i h1 h2 h3; rw [if_neg h1, if_neg h2, if_pos h3] at h; exact absurd rfl h
      · rfl

set_option maxRecDepth 100000 in
set_option maxHeartbeats 2000000 in
theorem rread_nil {K : Nat → Prop} {a : Option Addr} {cap : Nat} {w : World} : Calls Tryz.prog 53 #[.slice a 0 cap] w (RdGP K (rdV []) [] w) := by
  have HB0 : Hid (Below w.heap.size w (w.alloc (.cells #[.int .i64 0, .int .i64 0, .string ⟨#[]⟩, .slice none 0 0, .slice none 0 0, .int .i64 0] 54))) := (Below.self w).alloc (Nat.le_refl _) _
  have hG0 := Six.new w 54 (.int .i64 0) (.int .i64 0) (.string ⟨#[]⟩) (.slice none 0 0) (.slice none 0 0) (.int .i64 0)
  have c0 := hG0.c0
  have c1 := hG0.c1
  have c2 := hG0.c2
  have c3 := hG0.c3
  have c4 := hG0.c4
  have c5 := hG0.c5
  have f0 := hG0.fz 0
  have f1 := hG0.fz 1
  have f2 := hG0.fz 2
  have f3 := hG0.fz 3
  have f4 := hG0.fz 4
  have f5 := hG0.fz 5
  have plt := hG0.lt
  clear hG0
  go_enter Tryz.func53, Tryz.ntmps53
  go_upto_region 1 with fail
  generalize w.alloc (.cells #[.int .i64 0, .int .i64 0, .string ⟨#[]⟩, .slice none 0 0, .slice none 0 0, .int .i64 0] 54) = V at *
  go_wp2
  exact bodyPost_ret (v := .agg #[.int .i64 0, .int .i64 0, .string ⟨#[]⟩, .slice none 0 0, .slice none 0 0, .int .i64 7]) (by simp [results, Tryz.results53, go_sem, c0, c1, c2, c3, c4, c5]) rfl (RdGP.bad rfl (by decide) (below_put6 HB0.out (Nat.le_refl _) _ _ _ _ _ _) rfl)

set_option maxRecDepth 100000 in
set_option maxHeartbeats 4000000 in
theorem rread_cons {K : Nat → Prop} {b off len cap : Nat} {x : Int} {r : List Int} (ho : Oct (x :: r)) {w : World} (hR : Rd K w .u8 (some ⟨b, off, none⟩) len cap (x :: r)) (hK : ∀ b, K b → b < w.heap.size) :
    Calls Tryz.prog 53 #[.slice (some ⟨b, off, none⟩) len cap] w (RdGP K (rdV (x :: r)) (x :: r) w) := by
  have hlr : len = r.length + 1 := hR.hl
  have hlen : 0 < len := by omega
  have hfit := hR.fit
  have htop := hR.top
  have hsm := hR.small
  have hx := ho.head
  have hor : Oct r := fun y hy => ho y (List.mem_cons_of_mem _ hy)
  obtain ⟨b', off', e, hkb, hb, hc⟩ := hR.cells hlen
  obtain ⟨rfl, rfl⟩ : b = b' ∧ off = off' := by cases e; exact ⟨rfl, rfl⟩
  have hb0 : Below w.heap.size w (w.alloc (.cells #[.int .i64 0, .int .i64 0, .string ⟨#[]⟩, .slice none 0 0, .slice none 0 0, .int .i64 0] 54)) := (Below.self w).alloc (Nat.le_refl _) _
  have HB0 := Lib.hid hb0
  have HG0 := Lib.hid (Six.new w 54 (.int .i64 0) (.int .i64 0) (.string ⟨#[]⟩) (.slice none 0 0) (.slice none 0 0) (.int .i64 0))
  have HR := Lib.hid hR
  have HK := Lib.hid hK
  have HKN : Hid (∀ b, K b → b ≠ w.heap.size) := fun b hb e => by subst e; exact absurd (hK _ hb) (Nat.lt_irrefl _)
  have HOR := Lib.hid hor
  have HRD : Hid (rdV (x :: r) = if x = 0 then (Vl.null, 1, 0) else if x = 1 then one (rdBool r) else if x = 2 then one (rdNum r) else if x = 3 then one (rdTxt r) else (Vl.null, 0, 5)) := rfl
  have hcx : w.cell? ⟨b, off, none⟩ = some (.int .u8 x) := hc 0 hlen
  have HCX := Lib.hid hcx
  obtain ⟨a1, ha1⟩ : ∃ a1, (if cap = 1 then some ⟨b, off, none⟩ else some ⟨b, off + 1, none⟩ : Option Addr) = a1 := ⟨_, rfl⟩
  have HR1 : Hid (Rd K w .u8 a1 (len - 1) (cap - 1) r) := HR.out.rest 1 hlen (cap - 1) (by omega) (by omega) a1 (fun _ => by rw [← ha1, if_neg (by omega)])
  have hle1 : 1 ≤ len := hlen
  have hlen0 : ((len : Int) == 0) = false := by rw [beq_eq_false_iff_ne]; omega
  have hcx := (hb0.cell (p := ⟨b, off, none⟩) hb).trans hcx
  have hxw : IntKind.i64.wrap x = x := by rw [IntKind.wrap_i64]; omega
  have hlenI : (1 : Int) ≤ (len : Int) := by omega
  have HLR := Lib.hid hlr
  clear hR hK hb0 hor hlr
  have c0 := HG0.out.c0
  have c1 := HG0.out.c1
  have c2 := HG0.out.c2
  have c3 := HG0.out.c3
  have c4 := HG0.out.c4
  have c5 := HG0.out.c5
  have f0 := HG0.out.fz 0
  have f1 := HG0.out.fz 1
  have f2 := HG0.out.fz 2
  have f3 := HG0.out.fz 3
  have f4 := HG0.out.fz 4
  have f5 := HG0.out.fz 5
  have plt := HG0.out.lt
  by_cases h0 : x = 0
  · subst h0
    have HQ : Hid (rdV (0 :: r) = (Vl.null, 1, 0)) := HRD.out.trans (if_pos rfl)
    clear hc HRD
    go_enter Tryz.func53, Tryz.ntmps53
    go_upto_region 1 with fail
    generalize w.alloc (.cells #[.int .i64 0, .int .i64 0, .string ⟨#[]⟩, .slice none 0 0, .slice none 0 0, .int .i64 0] 54) = V at *
    go_wp2
    exact bodyPost_ret (v := .agg #[.int .i64 0, .int .i64 0, .string ⟨#[]⟩, .slice none 0 0, .slice a1 (len - 1) (cap - 1), .int .i64 0]) (by simp [results, Tryz.results53, go_sem, c0, c1, c2, c3, c4, c5]) rfl (RdGP.good HQ.out (below_put6 HB0.out (Nat.le_refl _) _ _ _ _ _ _) rfl HR1.out)
  · have e0 : (x == 0) = false := by simpa using h0
    by_cases h1 : x = 1
    · subst h1
      have HQ : Hid (rdV (1 :: r) = one (rdBool r)) := by show _ = _; rw [HRD.out]; simp
      clear HRD
      rcases r with _ | ⟨y, r2⟩
      · obtain rfl : len = 1 := HLR.out
        have HQ2 : Hid (rdV [1] = (Vl.null, 0, 7)) := HQ.out
        clear hc
        go_enter Tryz.func53, Tryz.ntmps53
        go_upto_region 1 with fail
        generalize w.alloc (.cells #[.int .i64 0, .int .i64 0, .string ⟨#[]⟩, .slice none 0 0, .slice none 0 0, .int .i64 0] 54) = V at *
        go_wp2
        exact bodyPost_ret (v := .agg #[.int .i64 0, .int .i64 0, .string ⟨#[]⟩, .slice none 0 0, .slice none 0 0, .int .i64 7]) (by simp [results, Tryz.results53, go_sem, c0, c1, c2, c3, c4, c5]) rfl (RdGP.bad HQ2.out (by decide) (below_put6 HB0.out (Nat.le_refl _) _ _ _ _ _ _) rfl)
      · have hl2 : 2 ≤ len := by rw [HLR.out]; simp
        have hl1 : ((len : Int) == 1) = false := by rw [beq_eq_false_iff_ne]; omega
        have hy := HOR.out.head
        have hcy : w.cell? ⟨b, off + 1, none⟩ = some (.int .u8 y) := hc 1 (by omega)
        have HCY := Lib.hid hcy
        have hcy := (HB0.out.cell (p := ⟨b, off + 1, none⟩) hb).trans hcy
        have h1I : (1 : Int) < (len : Int) := by omega
        have h1N : 1 < len := by omega
        clear hc
        by_cases hy1 : 1 < y
        · have HQ2 : Hid (rdV (1 :: y :: r2) = (Vl.null, 0, 5)) := by show _ = _; rw [HQ.out]; show one (if y = 0 ∨ y = 1 then _ else _) = _; rw [if_neg (by omega)]; rfl
          go_enter Tryz.func53, Tryz.ntmps53
          go_upto_region 1 with fail
          generalize w.alloc (.cells #[.int .i64 0, .int .i64 0, .string ⟨#[]⟩, .slice none 0 0, .slice none 0 0, .int .i64 0] 54) = V at *
          go_wp2
          exact bodyPost_ret (v := .agg #[.int .i64 0, .int .i64 0, .string ⟨#[]⟩, .slice none 0 0, .slice none 0 0, .int .i64 5]) (by simp [results, Tryz.results53, go_sem, c0, c1, c2, c3, c4, c5]) rfl (RdGP.bad HQ2.out (by decide) (below_put6 HB0.out (Nat.le_refl _) _ _ _ _ _ _) rfl)
        · have HQ2 : Hid (rdV (1 :: y :: r2) = (⟨1, y, []⟩, 2, 0)) := by show _ = _; rw [HQ.out]; show one (if y = 0 ∨ y = 1 then _ else _) = _; rw [if_pos (by omega)]; rfl
          obtain ⟨yb, hyb⟩ : ∃ yb : Bool, (y == 1) = yb := ⟨_, rfl⟩
          have HYI : Hid ((if yb = true then (1 : Int) else 0) = y) := by show _ = _; rw [← hyb]; by_cases h : y = 1 <;> simp [h] <;> omega
          have HBO : Hid (∀ W : World, Calls Tryz.prog 83 #[.bool yb] W fun e w' => e = .returned (.agg #[.int .i64 1, .int .i64 y, .string ⟨#[]⟩]) ∧ Below W.heap.size W w') := fun W => by
            have := rbool_any yb W
            rwa [HYI.out] at this
          obtain ⟨a2, ha2⟩ : ∃ a2, (if cap = 2 then some ⟨b, off, none⟩ else some ⟨b, off + 2, none⟩ : Option Addr) = a2 := ⟨_, rfl⟩
          have HR2 : Hid (Rd K w .u8 a2 (len - 2) (cap - 2) r2) := HR.out.rest 2 hl2 (cap - 2) (by omega) (by omega) a2 (fun _ => by rw [← ha2, if_neg (by omega)])
          have hl2I : (2 : Int) ≤ (len : Int) := by omega
          clear c0 c1 c2 c3 c4 c5 f0 f1 f2 f3 f4 f5 plt
          go_enter Tryz.func53, Tryz.ntmps53
          go_upto_region 1 with fail
          generalize w.alloc (.cells #[.int .i64 0, .int .i64 0, .string ⟨#[]⟩, .slice none 0 0, .slice none 0 0, .int .i64 0] 54) = V at *
          go_upto_region 11 with fail
          go_region_with (go_at_call 83; refine (HBO.out _).mono ?_; rintro e w1 ⟨rfl, hbb⟩; have hG1 := Six.below (W := V.drew) HG0.out hbb HG0.out.lt; have HB1 : Hid (Below w.heap.size w w1) := HB0.out.drew.trans (hbb.mono HB0.out.drew.size); have c0 := hG1.c0; have c1 := hG1.c1; have c2 := hG1.c2; have c3 := hG1.c3; have c4 := hG1.c4; have c5 := hG1.c5; have f0 := hG1.fz 0; have f1 := hG1.fz 1; have f2 := hG1.fz 2; have f3 := hG1.fz 3; have f4 := hG1.fz 4; have f5 := hG1.fz 5; have plt := hG1.lt; clear hG1 hbb)
          all_goals
            go_wp2
            exact bodyPost_ret (v := .agg #[.int .i64 1, .int .i64 y, .string ⟨#[]⟩, .slice none 0 0, .slice a2 (len - 2) (cap - 2), .int .i64 0]) (by simp [results, Tryz.results53, go_sem, c0, c1, c2, c3, c4, c5]) rfl (RdGP.good HQ2.out (below_put6 HB1.out (Nat.le_refl _) _ _ _ _ _ _) rfl HR2.out)
    · have e1 : (x == 1) = false := by simpa using h1
      by_cases h23 : x = 2 ∨ x = 3
      · have HRR := Lib.hid (readR_any HOR.out (HR1.out.below HB0.out))
        obtain ⟨u, c, z, hq⟩ : ∃ u c z, rdS r = (u, c, z) := ⟨_, _, _, rfl⟩
        have hu := rdS_u645 HOR.out
        unfold ReadRPost at HRR
        rw [hq] at hu HRR
        dsimp only at HRR
        have hu : U64 u := hu
        have HQS := Lib.hid hq
        clear hc hq
        clear c0 c1 c2 c3 c4 c5 f0 f1 f2 f3 f4 f5 plt
        go_enter Tryz.func53, Tryz.ntmps53
        go_upto_region 1 with fail
        generalize w.alloc (.cells #[.int .i64 0, .int .i64 0, .string ⟨#[]⟩, .slice none 0 0, .slice none 0 0, .int .i64 0] 54) = V at *
        have e23 : (x == 2) = decide (x = 2) := by by_cases h : x = 2 <;> simp [h]
        rcases h23 with rfl | rfl
        · have HQ : Hid (rdV (2 :: r) = one (rdNum r)) := by show _ = _; rw [HRD.out]; simp
          clear HRD e23
          go_wp2_with fail
          refine HRR.out.mono ?_
          rintro e w1 ⟨hbb, hp⟩
          have hG1 := HG0.out.below hbb HG0.out.lt
          have hb1 := HB0.out.trans (hbb.mono HB0.out.size)
          have HBB := Lib.hid hbb
          clear hbb
          rcases hp with ⟨hz, a3, n3, c3x, rfl, hr3⟩ | ⟨hz, rfl⟩
          · obtain rfl : z = 0 := hz
            have hbA : Below w1.heap.size w1 (w1.alloc (.cells #[.int .u64 u, .slice none 0 0, .slice a3 n3 c3x, .int .i64 0] 103)) := (Below.self w1).alloc (Nat.le_refl _) _
            have HQD := Lib.hid (Quad.new w1 103 (.int .u64 u) (.slice none 0 0) (.slice a3 n3 c3x) (.int .i64 0))
            have HB2 : Hid (Below w.heap.size w (w1.alloc (.cells #[.int .u64 u, .slice none 0 0, .slice a3 n3 c3x, .int .i64 0] 103))) := hb1.trans (hbA.mono hb1.size)
            have HG2 := Lib.hid (hG1.below hbA hG1.lt)
            have HR3 := Lib.hid ((hr3.below HBB.out).below hbA)
            clear hG1 hb1 hbA hr3
            unfold gotV
            go_upto_region 15 with fail
            obtain ⟨B3, hB3⟩ : ∃ B, w1.heap.size = B := ⟨_, rfl⟩
            rw [hB3] at HQD ⊢
            clear hB3
            generalize w1.alloc (.cells #[.int .u64 u, .slice none 0 0, .slice a3 n3 c3x, .int .i64 0] 103) = W2 at *
            obtain ⟨q0, q1, q2, q3⟩ := HQD.out.cell
            have hcx2 := (HB2.out.cell (p := ⟨b, off, none⟩) hb).trans HCX.out
            clear hcx
            have HUZ := Lib.hid (unzigzagR_any u hu)
            have huz := uz_i64 hu
            have HQN := Lib.hid (num_good HQS.out)
            have HNU := Lib.hid rnum_any
            have HWD : Hid (∀ (W : World), Calls Tryz.prog 33 #[.agg #[.int .i64 2, .int .i64 (uz u), .string ⟨#[]⟩]] W fun e w' => e = .returned (.bool (widV ⟨2, uz u, []⟩)) ∧ Below W.heap.size W w') := fun W => rwide_any ⟨2, uz u, []⟩ ⟨⟨by show _ ≤ (2 : Int); decide, by show (2 : Int) ≤ _; decide⟩, huz, Nat.zero_le _⟩ W
            generalize uz u = n at *
            generalize widV ⟨2, n, []⟩ = bv at *
            go_wp2_with (go_at_call 113; refine (HUZ.out _).mono ?_; rintro e w' ⟨rfl, rfl⟩)
            refine (HNU.out _ _).mono ?_
            rintro e w3 ⟨rfl, hbb⟩
            have hbA : Below w3.heap.size w3 (w3.alloc (.cells #[.int .i64 2, .int .i64 n, .string ⟨#[]⟩] 45)) := (Below.self w3).alloc (Nat.le_refl _) _
            have HN := Lib.hid (Trio.new w3 45 (.int .i64 2) (.int .i64 n) (.string ⟨#[]⟩))
            have hb3 := HB2.out.trans (hbb.mono HB2.out.size)
            have HB4 : Hid (Below w.heap.size w (w3.alloc (.cells #[.int .i64 2, .int .i64 n, .string ⟨#[]⟩] 45))) := hb3.trans (hbA.mono hb3.size)
            have HG4 := Lib.hid ((HG2.out.below hbb HG2.out.lt).below hbA (HG2.out.below hbb HG2.out.lt).lt)
            have HR4 := Lib.hid ((HR3.out.below hbb).below hbA)
            have HQ4 := Lib.hid ((HQD.out.below hbb HQD.out.lt).below hbA (HQD.out.below hbb HQD.out.lt).lt)
            clear hbb hbA hb3 q0 q1 q2 q3 hcx2 HB2 HG2 HR3 HQD
            go_wp2_with fail
            obtain ⟨B5, hB5⟩ : ∃ B, w3.heap.size = B := ⟨_, rfl⟩
            rw [hB5] at HN ⊢
            clear hB5
            generalize w3.alloc (.cells #[.int .i64 2, .int .i64 n, .string ⟨#[]⟩] 45) = W4 at *
            refine (HWD.out _).mono ?_
            rintro e w5 ⟨rfl, hbb⟩
            have HB5 : Hid (Below w.heap.size w w5) := HB4.out.trans (hbb.mono HB4.out.size)
            have hG5 := HG4.out.below hbb HG4.out.lt
            have HR5 := Lib.hid (HR4.out.below hbb)
            have hN5 := HN.out.below hbb HN.out.lt
            obtain ⟨q0, q1, q2, q3⟩ := (HQ4.out.below hbb HQ4.out.lt).cell
            clear hbb HB4 HG4 HR4 HN HQ4
            have c0 := hG5.c0
            have c1 := hG5.c1
            have c2 := hG5.c2
            have c3 := hG5.c3
            have c4 := hG5.c4
            have c5 := hG5.c5
            have f0 := hG5.fz 0
            have f1 := hG5.fz 1
            have f2 := hG5.fz 2
            have f3 := hG5.fz 3
            have f4 := hG5.fz 4
            have f5 := hG5.fz 5
            have plt := hG5.lt
            have d0 := hN5.c0
            have d1 := hN5.c1
            have d2 := hN5.c2
            clear hG5 hN5
            cases bv with
            | false =>
              have HE : Hid (rdV (2 :: r) = (Vl.null, 0, 5)) := by show _ = _; rw [HQ.out, HQN.out, if_neg (by simp)]; rfl
              go_wp2
              exact bodyPost_ret (v := .agg #[.int .i64 0, .int .i64 0, .string ⟨#[]⟩, .slice none 0 0, .slice none 0 0, .int .i64 5]) (by simp [results, Tryz.results53, go_sem, c0, c1, c2, c3, c4, c5]) rfl (RdGP.bad HE.out (by decide) (below_put6 HB5.out (Nat.le_refl _) _ _ _ _ _ _) rfl)
            | true =>
              have HE : Hid (rdV (2 :: r) = (⟨2, n, []⟩, c + 1, 0)) := by show _ = _; rw [HQ.out, HQN.out, if_pos (by simp)]; rfl
              go_wp2
              exact bodyPost_ret (v := .agg #[.int .i64 2, .int .i64 n, .string ⟨#[]⟩, .slice none 0 0, .slice a3 n3 c3x, .int .i64 0]) (by simp [results, Tryz.results53, go_sem, c0, c1, c2, c3, c4, c5]) rfl (RdGP.goodW HE.out (below_put6 HB5.out (Nat.le_refl _) _ _ _ _ _ _) rfl (HR5.out.put6 HKN.out _ _ _ _ _ _))
          · have hbA : Below w1.heap.size w1 (w1.alloc (.cells #[.int .u64 0, .slice none 0 0, .slice none 0 0, .int .i64 z] 103)) := (Below.self w1).alloc (Nat.le_refl _) _
            have HQD := Lib.hid (Quad.new w1 103 (.int .u64 0) (.slice none 0 0) (.slice none 0 0) (.int .i64 z))
            have HB2 : Hid (Below w.heap.size w (w1.alloc (.cells #[.int .u64 0, .slice none 0 0, .slice none 0 0, .int .i64 z] 103))) := hb1.trans (hbA.mono hb1.size)
            have HG2 := Lib.hid (hG1.below hbA hG1.lt)
            have HZ := Lib.hid hz
            have hzN : (z != 0) = true := by simpa using hz
            have HE : Hid (rdV (2 :: r) = (Vl.null, 0, z)) := by show _ = _; rw [HQ.out, num_bad (r := r) (x := z) (by rw [HQS.out]) hz, one_bad hz]
            clear hG1 hb1 hbA hz
            unfold gotV
            go_upto_region 15 with fail
            obtain ⟨B3, hB3⟩ : ∃ B, w1.heap.size = B := ⟨_, rfl⟩
            rw [hB3] at HQD ⊢
            clear hB3
            generalize w1.alloc (.cells #[.int .u64 0, .slice none 0 0, .slice none 0 0, .int .i64 z] 103) = W2 at *
            obtain ⟨q0, q1, q2, q3⟩ := HQD.out.cell
            have c0 := HG2.out.c0
            have c1 := HG2.out.c1
            have c2 := HG2.out.c2
            have c3 := HG2.out.c3
            have c4 := HG2.out.c4
            have c5 := HG2.out.c5
            have f0 := HG2.out.fz 0
            have f1 := HG2.out.fz 1
            have f2 := HG2.out.fz 2
            have f3 := HG2.out.fz 3
            have f4 := HG2.out.fz 4
            have f5 := HG2.out.fz 5
            have plt := HG2.out.lt
            go_wp2
            exact bodyPost_ret (v := .agg #[.int .i64 0, .int .i64 0, .string ⟨#[]⟩, .slice none 0 0, .slice none 0 0, .int .i64 z]) (by simp [results, Tryz.results53, go_sem, c0, c1, c2, c3, c4, c5]) rfl (RdGP.bad HE.out HZ.out (below_put6 HB2.out (Nat.le_refl _) _ _ _ _ _ _) rfl)
        · have HQ : Hid (rdV (3 :: r) = one (rdTxt r)) := by show _ = _; rw [HRD.out]; simp
          clear HRD e23
          go_wp2_with fail
          refine HRR.out.mono ?_
          rintro e w1 ⟨hbb, hp⟩
          have hG1 := HG0.out.below hbb HG0.out.lt
          have hb1 := HB0.out.trans (hbb.mono HB0.out.size)
          have HBB := Lib.hid hbb
          clear hbb
          rcases hp with ⟨hz, a3, n3, c3x, rfl, hr3⟩ | ⟨hz, rfl⟩
          · obtain rfl : z = 0 := hz
            have hbA : Below w1.heap.size w1 (w1.alloc (.cells #[.int .u64 u, .slice none 0 0, .slice a3 n3 c3x, .int .i64 0] 103)) := (Below.self w1).alloc (Nat.le_refl _) _
            have HQD := Lib.hid (Quad.new w1 103 (.int .u64 u) (.slice none 0 0) (.slice a3 n3 c3x) (.int .i64 0))
            have HB2 : Hid (Below w.heap.size w (w1.alloc (.cells #[.int .u64 u, .slice none 0 0, .slice a3 n3 c3x, .int .i64 0] 103))) := hb1.trans (hbA.mono hb1.size)
            have HG2 := Lib.hid (hG1.below hbA hG1.lt)
            have HR3 := Lib.hid ((hr3.below HBB.out).below hbA)
            clear hG1 hb1 hbA hr3
            unfold gotV
            go_upto_region 15 with fail
            obtain ⟨B3, hB3⟩ : ∃ B, w1.heap.size = B := ⟨_, rfl⟩
            rw [hB3] at HQD ⊢
            clear hB3
            generalize w1.alloc (.cells #[.int .u64 u, .slice none 0 0, .slice a3 n3 c3x, .int .i64 0] 103) = W2 at *
            obtain ⟨q0, q1, q2, q3⟩ := HQD.out.cell
            have hcx2 := (HB2.out.cell (p := ⟨b, off, none⟩) hb).trans HCX.out
            clear hcx
            obtain ⟨n, rfl⟩ : ∃ n : Nat, u = n := ⟨u.toNat, by have := hu.1; omega⟩
            have hn64 : n < 18446744073709551616 := by have := hu.2; omega
            have HTG := Lib.hid (rtextg_any n hn64 HR3.out)
            have HTQ := Lib.hid (rdTxt_q HQS.out)
            have HNU := Lib.hid (@txtQ_null n (r.drop c))
            go_wp2_with fail
            refine HTG.out.mono ?_
            generalize txtQ n (r.drop c) = q at *
            obtain ⟨⟨vk, vi, vs⟩, qc, qz⟩ := q
            dsimp only at HTQ HNU
            rintro e w3 ⟨hbb, hp⟩
            dsimp only at hp
            have hG3 := HG2.out.below hbb HG2.out.lt
            have HB3 : Hid (Below w.heap.size w w3) := HB2.out.trans (hbb.mono HB2.out.size)
            clear hbb q0 q1 q2 q3 hcx2
            have c0 := hG3.c0
            have c1 := hG3.c1
            have c2 := hG3.c2
            have c3 := hG3.c3
            have c4 := hG3.c4
            have c5 := hG3.c5
            have f0 := hG3.fz 0
            have f1 := hG3.fz 1
            have f2 := hG3.fz 2
            have f3 := hG3.fz 3
            have f4 := hG3.fz 4
            have f5 := hG3.fz 5
            have plt := hG3.lt
            clear hG3
            rcases hp with ⟨hz, a4, n4, c4x, rfl, hr4⟩ | ⟨hz, rfl⟩
            · obtain rfl : qz = 0 := hz
              have HR4 : Hid (Rd K w3 .u8 a4 n4 c4x (r.drop (c + qc))) := by show Rd _ _ _ _ _ _ _; rw [← List.drop_drop]; exact hr4
              have HE : Hid (rdV (3 :: r) = (⟨vk, vi, vs⟩, c + qc + 1, 0)) := by show _ = _; rw [HQ.out, HTQ.out, if_pos rfl]; rfl
              clear hr4 HTQ
              unfold encG
              dsimp only
              go_wp2
              exact bodyPost_ret (v := .agg #[.int .i64 vk, .int .i64 vi, .string (bsOf vs), .slice none 0 0, .slice a4 n4 c4x, .int .i64 0]) (by simp [results, Tryz.results53, go_sem, c0, c1, c2, c3, c4, c5]) rfl (RdGP.goodW HE.out (below_put6 HB3.out (Nat.le_refl _) _ _ _ _ _ _) rfl (HR4.out.put6 HKN.out _ _ _ _ _ _))
            · have HZ := Lib.hid hz
              have HE : Hid (rdV (3 :: r) = (Vl.null, 0, qz)) := by show _ = _; rw [HQ.out, HTQ.out, if_neg hz, one_bad hz]
              clear HTQ hz
              unfold encG
              dsimp only [Vl.null]
              go_wp2
              exact bodyPost_ret (v := .agg #[.int .i64 0, .int .i64 0, .string (bsOf []), .slice none 0 0, .slice none 0 0, .int .i64 qz]) (by simp [results, Tryz.results53, go_sem, c0, c1, c2, c3, c4, c5]) rfl (RdGP.bad HE.out HZ.out (below_put6 HB3.out (Nat.le_refl _) _ _ _ _ _ _) rfl)
          · have hbA : Below w1.heap.size w1 (w1.alloc (.cells #[.int .u64 0, .slice none 0 0, .slice none 0 0, .int .i64 z] 103)) := (Below.self w1).alloc (Nat.le_refl _) _
            have HQD := Lib.hid (Quad.new w1 103 (.int .u64 0) (.slice none 0 0) (.slice none 0 0) (.int .i64 z))
            have HB2 : Hid (Below w.heap.size w (w1.alloc (.cells #[.int .u64 0, .slice none 0 0, .slice none 0 0, .int .i64 z] 103))) := hb1.trans (hbA.mono hb1.size)
            have HG2 := Lib.hid (hG1.below hbA hG1.lt)
            have HZ := Lib.hid hz
            have hzN : (z != 0) = true := by simpa using hz
            have HE : Hid (rdV (3 :: r) = (Vl.null, 0, z)) := by show _ = _; rw [HQ.out, txt_err (r := r) (x := z) (by rw [HQS.out]) hz, one_bad hz]
            clear hG1 hb1 hbA hz
            unfold gotV
            go_upto_region 15 with fail
            obtain ⟨B3, hB3⟩ : ∃ B, w1.heap.size = B := ⟨_, rfl⟩
            rw [hB3] at HQD ⊢
            clear hB3
            generalize w1.alloc (.cells #[.int .u64 0, .slice none 0 0, .slice none 0 0, .int .i64 z] 103) = W2 at *
            obtain ⟨q0, q1, q2, q3⟩ := HQD.out.cell
            have c0 := HG2.out.c0
            have c1 := HG2.out.c1
            have c2 := HG2.out.c2
            have c3 := HG2.out.c3
            have c4 := HG2.out.c4
            have c5 := HG2.out.c5
            have f0 := HG2.out.fz 0
            have f1 := HG2.out.fz 1
            have f2 := HG2.out.fz 2
            have f3 := HG2.out.fz 3
            have f4 := HG2.out.fz 4
            have f5 := HG2.out.fz 5
            have plt := HG2.out.lt
            go_wp2
            exact bodyPost_ret (v := .agg #[.int .i64 0, .int .i64 0, .string ⟨#[]⟩, .slice none 0 0, .slice none 0 0, .int .i64 z]) (by simp [results, Tryz.results53, go_sem, c0, c1, c2, c3, c4, c5]) rfl (RdGP.bad HE.out HZ.out (below_put6 HB2.out (Nat.le_refl _) _ _ _ _ _ _) rfl)
      · have e2 : (x == 2) = false := by simpa using fun h => h23 (.inl h)
        have e3 : (x == 3) = false := by simpa using fun h => h23 (.inr h)
        have HQ : Hid (rdV (x :: r) = (Vl.null, 0, 5)) := by show _ = _; rw [HRD.out, if_neg h0, if_neg h1, if_neg (fun h => h23 (.inl h)), if_neg (fun h => h23 (.inr h))]
        clear hc HRD h23
        go_enter Tryz.func53, Tryz.ntmps53
        go_upto_region 1 with fail
        generalize w.alloc (.cells #[.int .i64 0, .int .i64 0, .string ⟨#[]⟩, .slice none 0 0, .slice none 0 0, .int .i64 0] 54) = V at *
        go_wp2
        exact bodyPost_ret (v := .agg #[.int .i64 0, .int .i64 0, .string ⟨#[]⟩, .slice none 0 0, .slice none 0 0, .int .i64 5]) (by simp [results, Tryz.results53, go_sem, c0, c1, c2, c3, c4, c5]) rfl (RdGP.bad HQ.out (by decide) (below_put6 HB0.out (Nat.le_refl _) _ _ _ _ _ _) rfl)

end Go.Proofs.YtocnkjnlmciojaaGreatDoor
