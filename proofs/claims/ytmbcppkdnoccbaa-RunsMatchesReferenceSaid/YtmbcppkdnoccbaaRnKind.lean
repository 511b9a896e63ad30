/-
  The kind of a list.
-/
import Derived.Test.YtmbcppkdnoccbaaRnUk
namespace Go.Proofs.Ytmbcppkdnoccbaa
open Go.RowKit Go.Shelf Go.ChangeShapes Go.WideShapes Go.ChangeAt

/-- How many bytes the form k of a list takes. -/
def szS (k : Nat) (zs : List Int) : Nat := sumS (partsS k zs)
/-- The first of the least of four numbers. -/
def kd (a b c d : Nat) : Nat := if a ≤ b ∧ a ≤ c ∧ a ≤ d then 0 else if b ≤ c ∧ b ≤ d then 1 else if c ≤ d then 2 else 3
def kindS (zs : List Int) : Nat := kd (szS 0 zs) (szS 1 zs) (szS 2 zs) (szS 3 zs)
theorem kd_lt (a b c d : Nat) : kd a b c d < 4 := by unfold kd; split; · decide
                                                     · split; · decide
                                                       · split <;> decide
theorem kind_lt (zs : List Int) : kindS zs < 4 := kd_lt _ _ _ _
theorem kd_idx (a b c d : Nat) : Lib.idxOf [(a : Int), b, c, d] (Lib.minOf [(a : Int), b, c, d]) = (kd a b c d : Nat) := by
  unfold kd
  simp only [Lib.minOf, List.headD_cons, List.foldl_cons, List.foldl_nil]
  split
  · rename_i h
    rw [show min (min (min (min (a : Int) a) b) c) d = a by omega]
    simp [Lib.idxOf, Lib.idxFrom]
  · rename_i h
    split
    · rename_i h2
      have e : min (min (min (min (a : Int) a) b) c) d = b := by omega
      rw [e]
      have : ¬ (a : Int) = b := by omega
      simp [Lib.idxOf, Lib.idxFrom, this]
    · split
      · have e : min (min (min (min (a : Int) a) b) c) d = c := by omega
        rw [e]
        have h1 : ¬ (a : Int) = c := by omega
        have h2 : ¬ (b : Int) = c := by omega
        simp [Lib.idxOf, Lib.idxFrom, h1, h2]
      · have e : min (min (min (min (a : Int) a) b) c) d = d := by omega
        rw [e]
        have h1 : ¬ (a : Int) = d := by omega
        have h2 : ¬ (b : Int) = d := by omega
        have h3 : ¬ (c : Int) = d := by omega
        simp [Lib.idxOf, Lib.idxFrom, h1, h2, h3]

theorem Quad.set0 {W : World} {B : Nat} {t : TypeId} {a b c d : Value} (h : Quad W B t a b c d) (v : Value) : Quad (W.setCell ⟨B, 0, none⟩ v) B t v b c d := by
  obtain ⟨hlt, hk⟩ := Array.getElem?_eq_some_iff.1 (show W.heap[B]? = _ from h)
  show (W.heap.modify B _)[B]? = _
  rw [Array.getElem?_eq_getElem (by rw [Array.size_modify]; exact hlt), Array.getElem_modify_self, hk]; rfl
theorem Quad.set1 {W : World} {B : Nat} {t : TypeId} {a b c d : Value} (h : Quad W B t a b c d) (v : Value) : Quad (W.setCell ⟨B, 1, none⟩ v) B t a v c d := by
  obtain ⟨hlt, hk⟩ := Array.getElem?_eq_some_iff.1 (show W.heap[B]? = _ from h)
  show (W.heap.modify B _)[B]? = _
  rw [Array.getElem?_eq_getElem (by rw [Array.size_modify]; exact hlt), Array.getElem_modify_self, hk]; rfl
theorem Quad.set2 {W : World} {B : Nat} {t : TypeId} {a b c d : Value} (h : Quad W B t a b c d) (v : Value) : Quad (W.setCell ⟨B, 2, none⟩ v) B t a b v d := by
  obtain ⟨hlt, hk⟩ := Array.getElem?_eq_some_iff.1 (show W.heap[B]? = _ from h)
  show (W.heap.modify B _)[B]? = _
  rw [Array.getElem?_eq_getElem (by rw [Array.size_modify]; exact hlt), Array.getElem_modify_self, hk]; rfl
theorem Quad.set3 {W : World} {B : Nat} {t : TypeId} {a b c d : Value} (h : Quad W B t a b c d) (v : Value) : Quad (W.setCell ⟨B, 3, none⟩ v) B t a b c v := by
  obtain ⟨hlt, hk⟩ := Array.getElem?_eq_some_iff.1 (show W.heap[B]? = _ from h)
  show (W.heap.modify B _)[B]? = _
  rw [Array.getElem?_eq_getElem (by rw [Array.size_modify]; exact hlt), Array.getElem_modify_self, hk]; rfl

theorem Pair.away {W : World} {B S : Nat} {t t' : TypeId} {x y a b c d : Value} (h : Pair W B t x y) (hq : Quad W S t' a b c d) (o : Nat) (v : Value) : Pair (W.setCell ⟨S, o, none⟩ v) B t x y := by
  refine (Below.heap_setCell _ _ _ _ ?_).trans h
  intro e
  have e : B = S := e
  subst e
  have h1 : W.heap[B]? = _ := h
  rw [show W.heap[B]? = _ from hq] at h1
  simp at h1

/-- All parts are fair. -/
theorem parts_fair {zs : List Int} (hz : Smalls zs) (hl : zs.length ≤ 1099511627776) (k : Nat) : ∀ ps ∈ partsS k zs, Smalls ps ∧ ps.length ≤ 1099511627776 := by
  have hd := df_smalls hz
  have hdl := df_length zs
  have h1 : Smalls (vals zs) ∧ (vals zs).length ≤ 1099511627776 := ⟨vals_smalls hz, by rw [vals_length]; have := rl_len zs; omega⟩
  have h2 : Smalls (lens zs) ∧ (lens zs).length ≤ 1099511627776 := ⟨lens_smalls (by omega), by rw [lens_length]; have := rl_len zs; omega⟩
  have h3 : Smalls (vals (dfS zs)) ∧ (vals (dfS zs)).length ≤ 1099511627776 := ⟨vals_smalls hd, by rw [vals_length]; have := rl_len (dfS zs); omega⟩
  have h4 : Smalls (lens (dfS zs)) ∧ (lens (dfS zs)).length ≤ 1099511627776 := ⟨lens_smalls (by omega), by rw [lens_length]; have := rl_len (dfS zs); omega⟩
  have h5 : Smalls (dfS zs) ∧ (dfS zs).length ≤ 1099511627776 := ⟨hd, by omega⟩
  intro ps hps
  unfold partsS at hps
  split at hps
  · rcases List.mem_singleton.1 hps with rfl; exact ⟨hz, hl⟩
  · rcases List.mem_cons.1 hps with rfl | hps
    · exact h1
    · rcases List.mem_singleton.1 hps with rfl; exact h2
  · rcases List.mem_singleton.1 hps with rfl; exact h5
  · rcases List.mem_cons.1 hps with rfl | hps
    · exact h3
    · rcases List.mem_singleton.1 hps with rfl; exact h4

theorem form_ix0 (p q : Nat) (W : World) : (Instr.index 85 (.agg #[.func (.func 74) #[] #[], .func (.func 75) #[] #[], .func (.func 76) #[] #[], .func (.func 77) #[] #[], .func (.func 99) #[] #[.pointer (some ⟨p, 0, none⟩)], .func (.func 100) #[] #[.pointer (some ⟨p, 0, none⟩)], .func (.func 99) #[] #[.pointer (some ⟨q, 0, none⟩)], .func (.func 100) #[] #[.pointer (some ⟨q, 0, none⟩)]]) (.int .i64 0)).run Try.prog W = .ok (.agg #[.func (.func 74) #[] #[], .func (.func 75) #[] #[]]) W := by kernel_rfl
theorem form_ix1 (p q : Nat) (W : World) : (Instr.index 85 (.agg #[.func (.func 74) #[] #[], .func (.func 75) #[] #[], .func (.func 76) #[] #[], .func (.func 77) #[] #[], .func (.func 99) #[] #[.pointer (some ⟨p, 0, none⟩)], .func (.func 100) #[] #[.pointer (some ⟨p, 0, none⟩)], .func (.func 99) #[] #[.pointer (some ⟨q, 0, none⟩)], .func (.func 100) #[] #[.pointer (some ⟨q, 0, none⟩)]]) (.int .i64 1)).run Try.prog W = .ok (.agg #[.func (.func 76) #[] #[], .func (.func 77) #[] #[]]) W := by kernel_rfl
theorem form_ix2 (p q : Nat) (W : World) : (Instr.index 85 (.agg #[.func (.func 74) #[] #[], .func (.func 75) #[] #[], .func (.func 76) #[] #[], .func (.func 77) #[] #[], .func (.func 99) #[] #[.pointer (some ⟨p, 0, none⟩)], .func (.func 100) #[] #[.pointer (some ⟨p, 0, none⟩)], .func (.func 99) #[] #[.pointer (some ⟨q, 0, none⟩)], .func (.func 100) #[] #[.pointer (some ⟨q, 0, none⟩)]]) (.int .i64 2)).run Try.prog W = .ok (.agg #[.func (.func 99) #[] #[.pointer (some ⟨p, 0, none⟩)], .func (.func 100) #[] #[.pointer (some ⟨p, 0, none⟩)]]) W := by kernel_rfl
theorem form_ix3 (p q : Nat) (W : World) : (Instr.index 85 (.agg #[.func (.func 74) #[] #[], .func (.func 75) #[] #[], .func (.func 76) #[] #[], .func (.func 77) #[] #[], .func (.func 99) #[] #[.pointer (some ⟨p, 0, none⟩)], .func (.func 100) #[] #[.pointer (some ⟨p, 0, none⟩)], .func (.func 99) #[] #[.pointer (some ⟨q, 0, none⟩)], .func (.func 100) #[] #[.pointer (some ⟨q, 0, none⟩)]]) (.int .i64 3)).run Try.prog W = .ok (.agg #[.func (.func 99) #[] #[.pointer (some ⟨q, 0, none⟩)], .func (.func 100) #[] #[.pointer (some ⟨q, 0, none⟩)]]) W := by kernel_rfl

/-- The sizes of the first k forms are in. -/
def sizesAt (W : World) (B : Nat) (zs : List Int) (k : Nat) : Prop :=
  Quad W B 80 (.int .i64 (if 0 < k then szS 0 zs else 0 : Nat)) (.int .i64 (if 1 < k then szS 1 zs else 0 : Nat)) (.int .i64 (if 2 < k then szS 2 zs else 0 : Nat)) (.int .i64 (if 3 < k then szS 3 zs else 0 : Nat))

set_option maxRecDepth 100000 in
set_option maxHeartbeats 4000000 in
theorem kind_of (hfo : ∀ w, Calls Try.prog 52 #[] w (FormsPost w)) {K : Nat → Prop} {a : Option Addr} {len cap : Nat} {zs : List Int} (hz : Smalls zs) (hl40 : len ≤ 1099511627776) {W : World} (hR : Rd K W .i64 a len cap zs) :
    Calls Try.prog 23 #[.slice a len cap] W fun e W' => e = .returned (.int .i64 (kindS zs)) ∧ Below W.heap.size W W' := by
  have HFO := Lib.hid hfo
  have HR := Lib.hid hR
  have HPF := Lib.hid (fun k => parts_fair hz (by rw [← hR.hl]; exact hl40) k)
  clear hR hfo
  go_enter Try.func23, Try.ntmps23
  go_wp2_with fail
  refine (HFO.out _).mono ?_
  rintro e w1 ⟨p, q, rfl, hp, hq, hb1⟩
  have hS : sizesAt w1 W.heap.size zs 0 := (Quad.new W 80 (.int .i64 0) (.int .i64 0) (.int .i64 0) (.int .i64 0)).below hb1 (by simp)
  have HS := Lib.hid hS
  have HP := Lib.hid hp
  have HQ := Lib.hid hq
  have HB1 : Hid (Below W.heap.size W w1) := ((Below.refl _ W).alloc (Nat.le_refl _) _).trans (hb1.mono (by simp))
  clear hp hq hb1 hS
  simp only [formsV]
  go_wp2
  go_loopw [4, 5, 7] (fun _ _ i wr => ∃ k : Nat, k ≤ 4 ∧ i = .int .i64 k ∧ Hid (sizesAt wr W.heap.size zs k) ∧ Hid (Pair wr p 84 (.func (.func 74) #[] #[]) (.func (.func 75) #[] #[])) ∧
    Hid (Pair wr q 84 (.func (.func 76) #[] #[]) (.func (.func 77) #[] #[])) ∧ Hid (Below W.heap.size W wr)) (fun _ _ i _ => 4 - (intOf i).toNat)
  case atStart => exact ⟨0, Nat.zero_le _, rfl, HS, HP, HQ, HB1⟩
  case round =>
    obtain ⟨k, hk, rfl, HSk, HPk, HQk, HBk⟩ := hrel
    rcases (by omega : k = 0 ∨ k = 1 ∨ k = 2 ∨ k = 3 ∨ k = 4) with rfl | rfl | rfl | rfl | rfl
    · have hix := form_ix0 p q
      obtain ⟨q0, q1, q2, q3⟩ := HSk.out.cell
      have qf := HSk.out.f 0
      have qlt := HSk.out.lt
      go_wp2_with fail
      clear hix q0 q1 q2 q3 qf qlt
      have hbA : Below wr.heap.size wr (wr.alloc (.cells #[.func (.func 74) #[] #[], .func (.func 75) #[] #[]] 84)) := (Below.refl _ _).alloc (Nat.le_refl _) _
      have HRA := Lib.hid ((HR.out.below HBk.out).below hbA)
      have HPA := Lib.hid (HPk.out.below hbA HPk.out.lt)
      have HQA := Lib.hid (HQk.out.below hbA HQk.out.lt)
      have HBA : Hid (Below W.heap.size W _) := HBk.out.trans (hbA.mono HBk.out.size)
      have HSA := Lib.hid (HSk.out.below hbA HSk.out.lt)
      clear hbA
      refine (whole_any HRA.out).mono ?_
      rintro e w2 ⟨g, m, rfl, hm, hpa, hb2⟩
      have HB2 : Hid (Below W.heap.size W w2) := HBA.out.trans (hb2.mono HBA.out.size)
      have HP2 := Lib.hid (HPA.out.below hb2 HPA.out.lt)
      have HQ2 := Lib.hid (HQA.out.below hb2 HQA.out.lt)
      have HS2 := Lib.hid (HSA.out.below hb2 HSA.out.lt)
      have HSZ := Lib.hid (psize_any hm (by rw [hm]; simp) (HPF.out 0) hpa)
      clear hb2 hpa hm HRA HPA HQA HSA HBA
      go_wp2_with fail
      refine HSZ.out.mono ?_
      rintro e w3 ⟨rfl, hb3⟩
      have HB3 : Hid (Below W.heap.size W w3) := HB2.out.trans (hb3.mono HB2.out.size)
      have HP3 := Lib.hid (HP2.out.below hb3 HP2.out.lt)
      have HQ3 := Lib.hid (HQ2.out.below hb3 HQ2.out.lt)
      have hs3 := HS2.out.below hb3 HS2.out.lt
      obtain ⟨q0, q1, q2, q3⟩ := hs3.cell
      have qf := hs3.f 0
      have qlt := hs3.lt
      have HS3 := Lib.hid hs3
      clear hb3 hs3
      go_wp2
      go_roundw
      case rel => exact ⟨0 + 1, by omega, by go_num, HS3.out.set0 _, HP3.out.away HS3.out _ _, HQ3.out.away HS3.out _ _, HB3.out.setCell (Nat.le_refl _) _⟩
      case measure => simp [intOf]
    · have hix := form_ix1 p q
      obtain ⟨q0, q1, q2, q3⟩ := HSk.out.cell
      have qf := HSk.out.f 1
      have qlt := HSk.out.lt
      go_wp2_with fail
      clear hix q0 q1 q2 q3 qf qlt
      have hbA : Below wr.heap.size wr (wr.alloc (.cells #[.func (.func 76) #[] #[], .func (.func 77) #[] #[]] 84)) := (Below.refl _ _).alloc (Nat.le_refl _) _
      have HRA := Lib.hid ((HR.out.below HBk.out).below hbA)
      have HPA := Lib.hid (HPk.out.below hbA HPk.out.lt)
      have HQA := Lib.hid (HQk.out.below hbA HQk.out.lt)
      have HBA : Hid (Below W.heap.size W _) := HBk.out.trans (hbA.mono HBk.out.size)
      have HSA := Lib.hid (HSk.out.below hbA HSk.out.lt)
      clear hbA
      refine (both_any HRA.out hl40).mono ?_
      rintro e w2 ⟨g, m, rfl, hm, hpa, hb2⟩
      have HB2 : Hid (Below W.heap.size W w2) := HBA.out.trans (hb2.mono HBA.out.size)
      have HP2 := Lib.hid (HPA.out.below hb2 HPA.out.lt)
      have HQ2 := Lib.hid (HQA.out.below hb2 HQA.out.lt)
      have HS2 := Lib.hid (HSA.out.below hb2 HSA.out.lt)
      have HSZ := Lib.hid (psize_any hm (by rw [hm]; simp) (HPF.out 1) hpa)
      clear hb2 hpa hm HRA HPA HQA HSA HBA
      go_wp2_with fail
      refine HSZ.out.mono ?_
      rintro e w3 ⟨rfl, hb3⟩
      have HB3 : Hid (Below W.heap.size W w3) := HB2.out.trans (hb3.mono HB2.out.size)
      have HP3 := Lib.hid (HP2.out.below hb3 HP2.out.lt)
      have HQ3 := Lib.hid (HQ2.out.below hb3 HQ2.out.lt)
      have hs3 := HS2.out.below hb3 HS2.out.lt
      obtain ⟨q0, q1, q2, q3⟩ := hs3.cell
      have qf := hs3.f 1
      have qlt := hs3.lt
      have HS3 := Lib.hid hs3
      clear hb3 hs3
      go_wp2
      go_roundw
      case rel => exact ⟨1 + 1, by omega, by go_num, HS3.out.set1 _, HP3.out.away HS3.out _ _, HQ3.out.away HS3.out _ _, HB3.out.setCell (Nat.le_refl _) _⟩
      case measure => simp [intOf]
    · have hix := form_ix2 p q
      obtain ⟨q0, q1, q2, q3⟩ := HSk.out.cell
      have qf := HSk.out.f 2
      have qlt := HSk.out.lt
      go_wp2_with fail
      clear hix q0 q1 q2 q3 qf qlt
      have hbA : Below wr.heap.size wr (wr.alloc (.cells #[.func (.func 99) #[] #[.pointer (some ⟨p, 0, none⟩)], .func (.func 100) #[] #[.pointer (some ⟨p, 0, none⟩)]] 84)) := (Below.refl _ _).alloc (Nat.le_refl _) _
      have HRA := Lib.hid ((HR.out.below HBk.out).below hbA)
      have HPA := Lib.hid (HPk.out.below hbA HPk.out.lt)
      have HQA := Lib.hid (HQk.out.below hbA HQk.out.lt)
      have HBA : Hid (Below W.heap.size W _) := HBk.out.trans (hbA.mono HBk.out.size)
      have HSA := Lib.hid (HSk.out.below hbA HSk.out.lt)
      clear hbA
      refine (od1_whole hz hl40 HRA.out p HPA.out).mono ?_
      rintro e w2 ⟨g, m, rfl, hm, hpa, hb2⟩
      have HB2 : Hid (Below W.heap.size W w2) := HBA.out.trans (hb2.mono HBA.out.size)
      have HP2 := Lib.hid (HPA.out.below hb2 HPA.out.lt)
      have HQ2 := Lib.hid (HQA.out.below hb2 HQA.out.lt)
      have HS2 := Lib.hid (HSA.out.below hb2 HSA.out.lt)
      have HSZ := Lib.hid (psize_any hm (by rw [hm]; simp) (HPF.out 2) hpa)
      clear hb2 hpa hm HRA HPA HQA HSA HBA
      go_wp2_with fail
      refine HSZ.out.mono ?_
      rintro e w3 ⟨rfl, hb3⟩
      have HB3 : Hid (Below W.heap.size W w3) := HB2.out.trans (hb3.mono HB2.out.size)
      have HP3 := Lib.hid (HP2.out.below hb3 HP2.out.lt)
      have HQ3 := Lib.hid (HQ2.out.below hb3 HQ2.out.lt)
      have hs3 := HS2.out.below hb3 HS2.out.lt
      obtain ⟨q0, q1, q2, q3⟩ := hs3.cell
      have qf := hs3.f 2
      have qlt := hs3.lt
      have HS3 := Lib.hid hs3
      clear hb3 hs3
      go_wp2
      go_roundw
      case rel => exact ⟨2 + 1, by omega, by go_num, HS3.out.set2 _, HP3.out.away HS3.out _ _, HQ3.out.away HS3.out _ _, HB3.out.setCell (Nat.le_refl _) _⟩
      case measure => simp [intOf]
    · have hix := form_ix3 p q
      obtain ⟨q0, q1, q2, q3⟩ := HSk.out.cell
      have qf := HSk.out.f 3
      have qlt := HSk.out.lt
      go_wp2_with fail
      clear hix q0 q1 q2 q3 qf qlt
      have hbA : Below wr.heap.size wr (wr.alloc (.cells #[.func (.func 99) #[] #[.pointer (some ⟨q, 0, none⟩)], .func (.func 100) #[] #[.pointer (some ⟨q, 0, none⟩)]] 84)) := (Below.refl _ _).alloc (Nat.le_refl _) _
      have HRA := Lib.hid ((HR.out.below HBk.out).below hbA)
      have HPA := Lib.hid (HPk.out.below hbA HPk.out.lt)
      have HQA := Lib.hid (HQk.out.below hbA HQk.out.lt)
      have HBA : Hid (Below W.heap.size W _) := HBk.out.trans (hbA.mono HBk.out.size)
      have HSA := Lib.hid (HSk.out.below hbA HSk.out.lt)
      clear hbA
      refine (od1_both hz hl40 HRA.out q HQA.out).mono ?_
      rintro e w2 ⟨g, m, rfl, hm, hpa, hb2⟩
      have HB2 : Hid (Below W.heap.size W w2) := HBA.out.trans (hb2.mono HBA.out.size)
      have HP2 := Lib.hid (HPA.out.below hb2 HPA.out.lt)
      have HQ2 := Lib.hid (HQA.out.below hb2 HQA.out.lt)
      have HS2 := Lib.hid (HSA.out.below hb2 HSA.out.lt)
      have HSZ := Lib.hid (psize_any hm (by rw [hm]; simp) (HPF.out 3) hpa)
      clear hb2 hpa hm HRA HPA HQA HSA HBA
      go_wp2_with fail
      refine HSZ.out.mono ?_
      rintro e w3 ⟨rfl, hb3⟩
      have HB3 : Hid (Below W.heap.size W w3) := HB2.out.trans (hb3.mono HB2.out.size)
      have HP3 := Lib.hid (HP2.out.below hb3 HP2.out.lt)
      have HQ3 := Lib.hid (HQ2.out.below hb3 HQ2.out.lt)
      have hs3 := HS2.out.below hb3 HS2.out.lt
      obtain ⟨q0, q1, q2, q3⟩ := hs3.cell
      have qf := hs3.f 3
      have qlt := hs3.lt
      have HS3 := Lib.hid hs3
      clear hb3 hs3
      go_wp2
      go_roundw
      case rel => exact ⟨3 + 1, by omega, by go_num, HS3.out.set3 _, HP3.out.away HS3.out _ _, HQ3.out.away HS3.out _ _, HB3.out.setCell (Nat.le_refl _) _⟩
      case measure => simp [intOf]
    · go_wp2
      obtain ⟨q0, q1, q2, q3⟩ := HSk.out.cell
      have HC : Hid (∀ V : World, V.heap = wr.heap → ∀ j, j < [(szS 0 zs : Int), szS 1 zs, szS 2 zs, szS 3 zs].length → V.cell? ⟨W.heap.size, 0 + j, none⟩ = some (.int .i64 ([(szS 0 zs : Int), szS 1 zs, szS 2 zs, szS 3 zs].getD j 0))) := by
        intro V hV j hj
        rw [World.cell?_of_block (w := wr) (by rw [hV])]
        rcases (by simp at hj; omega : j = 0 ∨ j = 1 ∨ j = 2 ∨ j = 3) with rfl | rfl | rfl | rfl
        · exact q0
        · exact q1
        · exact q2
        · exact q3
      have HI := Lib.hid (kd_idx (szS 0 zs) (szS 1 zs) (szS 2 zs) (szS 3 zs))
      have qlt := HSk.out.lt
      clear q0 q1 q2 q3
      go_region_law (first
        | (refine step_call_run (by rfl) 55 #[.tmp 20] #[22] (by rfl) #[.slice (some ⟨W.heap.size, 0, none⟩) 4 4] (by go_simp) (enters_of Try.func55 (by kernel_rfl) rfl _ _) _ _ (Try.slices_Min_int W.heap.size 0 4 4 [(szS 0 zs : Int), szS 1 zs, szS 2 zs, szS 3 zs] _ (by decide) (by simp) (by decide) (HC.out _ (by rfl))) ?_; rintro w' rfl)
        | (refine step_call_run (by rfl) 54 #[.tmp 19, .tmp 21] #[22, 3] (by rfl) #[.slice (some ⟨W.heap.size, 0, none⟩) 4 4, .int .i64 (Lib.minOf ([(szS 0 zs : Int), szS 1 zs, szS 2 zs, szS 3 zs].take 4))] (by go_simp) (enters_of Try.func54 (by kernel_rfl) rfl _ _) _ _ (Try.slices_Index_int W.heap.size 0 4 4 [(szS 0 zs : Int), szS 1 zs, szS 2 zs, szS 3 zs] _ _ (by simp) (by decide) (HC.out _ (by rfl))) ?_; rintro w' rfl)
        | (trace_state; fail "STOP"))
      all_goals
        simp [Act.put]
        go_wp2
        go_ret
        exact ⟨ret_int HI.out, below_drew HBk.out⟩

end Go.Proofs.Ytmbcppkdnoccbaa
