/-
  The reader of sealed forms: each of its parts.
-/
import Derived.Test.YtkfmgiacdlkmiaaCtmE
import Derived.Test.YtkfmgiacdlkmiaaCtMath
import Derived.Test.YtkfmgiacdlkmiaaCtSum
import Derived.Deep.QuietTactic
import Derived.Laws.BytesArg
import Derived.Lib.SlBytesConst
namespace Go.Proofs.Ytkfmgiacdlkmiaa
open Go.RowKit Go.Shelf Go.ChangeShapes Go.WideShapes Go.ChangeAt

/-- One byte is taken. -/
theorem take_one {K : Nat → Prop} {B : Nat} {v0 v2 v3 v4 : Value} {a : Option Addr} {len cap : Nat} {zs : List Int} {W : World} (h : Five W B v0 (.slice a len cap) v2 v3 v4) (hR : Rd K W .u8 a len cap zs) (hK : ¬ K B) (h0 : 0 < len) :
    Calls Try.prog 68 #[.pointer (some ⟨B, 0, none⟩), .int .i64 1] W fun e V => ∃ b off a2 c2, e = .returned (.slice (some ⟨b, off, none⟩) 1 cap) ∧ V.cell? ⟨b, off, none⟩ = some (.int .u8 (zs[0]?.getD 0)) ∧ Five V B v0 (.slice a2 (len - 1) c2) v2 v3 v4 ∧ Rd K V .u8 a2 (len - 1) c2 (zs.drop 1) ∧ Kept (fun b => b ≠ B) W V ∧ 1 ≤ cap := by
  refine (take_ok h hR (.inl h0) 1 h0).mono ?_
  rintro e V ⟨a2, c2, rfl, rfl, h1, h2⟩
  obtain ⟨b, off, rfl, hk, hlt, hc⟩ := hR.cells h0
  have hne : b ≠ B := fun e => hK (e ▸ hk)
  have hkp := kept_set W B 1 (.slice a2 (len - 1) c2)
  refine ⟨b, off, a2, c2, rfl, ?_, h.set1 _, h2.kept (hkp.mono fun k hk e => hK (e ▸ hk)), hkp, Nat.le_trans h0 hR.fit⟩
  rw [World.cell?_of_block (w := W) (hkp.block b hlt hne)]
  exact hc 0 h0

set_option maxRecDepth 100000 in
set_option maxHeartbeats 4000000 in
theorem letters_any {K : Nat → Prop} {B : Nat} {v0 v2 v3 v4 : Value} {a : Option Addr} {len cap : Nat} {zs : List Int} {W : World} (h : Five W B v0 (.slice a len cap) v2 v3 v4) (hR : Rd K W .u8 a len cap zs) (hK : ¬ K B) :
    Calls Try.prog 50 #[.pointer (some ⟨B, 0, none⟩)] W fun e V => Kept (fun b => b ≠ B) W V ∧
      ((letE letS zs = 0 ∧ e = .returned (.tuple #[]) ∧ ∃ a' c', Five V B v0 (.slice a' (len - 3) c') v2 v3 v4 ∧ Rd K V .u8 a' (len - 3) c' (zs.drop 3)) ∨ (letE letS zs ≠ 0 ∧ e = Fails (letE letS zs))) := by
  have kc := fun (w : World) (C : Array Value) (n c : Nat) => Lib.run_convert_bytes_const (P := Try.prog) w 23 5 C n c Try.underlying23 Try.underlying5
  have HK := Lib.hid hK
  have hBW := h.lt
  obtain ⟨V0, hV0⟩ : ∃ V, W.alloc (.cells #[.int .u8 67, .int .u8 72, .int .u8 77] 5 (3, 4)) = V := ⟨_, rfl⟩
  have hb0 : Below W.heap.size W V0 := by rw [← hV0]; exact (Below.refl _ _).alloc (Nat.le_refl _) _
  have hL0 : V0.heap[W.heap.size]? = some (.cells #[.int .u8 67, .int .u8 72, .int .u8 77] 5 (3, 4)) := by rw [← hV0]; exact World.alloc_heap_new W _
  have HL0 := Lib.hid hL0
  have HLT : Hid (W.heap.size < V0.heap.size) := (Array.getElem?_eq_some_iff.1 hL0).1
  have HR := Lib.hid (hR.below hb0)
  have H5 := Lib.hid (h.below hb0 h.lt)
  have HK0 : Hid (Kept (fun b => b ≠ B) W V0) := ⟨hb0.os, hb0.tape, hb0.output, hb0.size, fun i hi _ => hb0.block i hi⟩
  have HNB : Hid (W.heap.size ≠ B) := by show _ ≠ _; omega
  have HKM : Hid (∀ {X Y : World}, Kept (fun b => b ≠ B) X Y → Kept K X Y) := fun h => h.mono fun k hk e => HK.out (e ▸ hk)
  clear h hR hK hb0 hL0
  go_enter Try.func50, Try.ntmps50
  have hk1 := kc W #[.int .u8 67, .int .u8 72, .int .u8 77] 3 3
  simp only [show #[Value.int .u8 67, .int .u8 72, .int .u8 77].size = 3 from rfl, Nat.reduceAdd] at hk1
  rw [hV0] at hk1
  clear kc
  go_wp2
  clear hk1 hV0
  go_loopw [7] (fun i wr => ∃ k : Nat, k ≤ 3 ∧ k ≤ len ∧ i = .int .i64 (k : Int) ∧ Hid (letE (letS.drop k) (zs.drop k) = letE letS zs) ∧ Hid (Kept (fun b => b ≠ B) V0 wr) ∧ ∃ a' c', Hid (Five wr B v0 (.slice a' (len - k) c') v2 v3 v4) ∧ Hid (Rd K wr .u8 a' (len - k) c' (zs.drop k))) (fun i _ => 3 - (intOf i).toNat)
  case atStart => exact ⟨0, by decide, Nat.zero_le _, rfl, rfl, Kept.refl _ _, a, cap, H5.out, HR.out⟩
  case round =>
    obtain ⟨k, hk, hkl, rfl, HE, HKP, a', c', HF, HRR⟩ := hrel
    have HB0 : Hid (wr.heap[W.heap.size]? = some (.cells #[.int .u8 67, .int .u8 72, .int .u8 77] 5 (3, 4))) := (HKP.out.block _ HLT.out HNB.out).trans HL0.out
    by_cases hlt : k < 3
    · have hcl : wr.cell? ⟨W.heap.size, k, none⟩ = some (.int .u8 (letS[k]?.getD 0)) := by
        unfold World.cell?; rw [HB0.out]
        rcases (by omega : k = 0 ∨ k = 1 ∨ k = 2) with rfl | rfl | rfl <;> rfl
      have hld : letS.drop k = letS[k]?.getD 0 :: letS.drop (k + 1) := drop_getD_cons letS k (by simpa [letS] using hlt)
      by_cases hle : k < len
      · have HT := Lib.hid (take_one HF.out HRR.out HK.out (by omega))
        have hzd : zs.drop k = zs[k]?.getD 0 :: zs.drop (k + 1) := drop_getD_cons zs k (by have := HRR.out.hl; rw [List.length_drop] at this; omega)
        have hz0 : (zs.drop k)[0]?.getD 0 = zs[k]?.getD 0 := by rw [hzd]; rfl
        have hle2 := HE.out
        rw [hld, hzd, letE] at hle2
        have HDD : Hid ((zs.drop k).drop 1 = zs.drop (k + 1)) := by show _ = _; rw [List.drop_drop]
        rw [hz0] at HT
        clear hld hzd hz0
        generalize letS[k]?.getD 0 = x at *
        generalize zs[k]?.getD 0 = y at *
        by_cases hxy : y = x
        · have hyb : (y == x) = true := by simpa using hxy
          rw [if_pos hxy] at hle2
          have HE2 := Lib.hid hle2
          clear hle2 hxy
          go_wp2_with (first
            | (go_at_call 68; refine HT.out.mono ?_; rintro e V ⟨b, off, a2, c2, rfl, hcx, hF2, hR2, hK2, hcap⟩; have HF2 := Lib.hid hF2; have HR2 := Lib.hid hR2; have HK2 := Lib.hid hK2; clear hF2 hR2 hK2)
            | (go_at_call 67; refine (require_ok _).mono ?_; rintro e w' ⟨rfl, rfl⟩))
          go_roundw
          case rel =>
            refine ⟨k + 1, by omega, by omega, by go_num, HE2.out, HKP.out.trans HK2.out, a2, c2, ?_, ?_⟩
            · have := HF2.out; rwa [show len - k - 1 = len - (k + 1) by omega] at this
            · have := HR2.out; rwa [HDD.out, show len - k - 1 = len - (k + 1) by omega] at this
          case measure => simp [intOf]; omega
        · have hyb : (y == x) = false := by simpa using hxy
          rw [if_neg hxy] at hle2
          have HE2 := Lib.hid hle2
          clear hle2 hxy
          go_wp2_with (first
            | (go_at_call 68; refine HT.out.mono ?_; rintro e V ⟨b, off, a2, c2, rfl, hcx, hF2, hR2, hK2, hcap⟩; have HK2 := Lib.hid hK2; clear hF2 hR2 hK2)
            | (go_at_call 67; refine (require_no _).mono ?_; rintro e w' ⟨rfl, rfl⟩))
          exact ⟨rfl, (HK0.out.trans HKP.out).trans HK2.out, .inr ⟨by rw [← HE2.out]; decide, by rw [← HE2.out]⟩⟩
      · obtain rfl : k = len := by omega
        have HT := Lib.hid (take_no HF.out 1 (by omega))
        have hle2 := HE.out
        have hzn : zs.drop k = [] := List.eq_nil_of_length_eq_zero (by have := HRR.out.hl; omega)
        rw [hld, hzn, letE] at hle2
        have HE2 := Lib.hid hle2
        clear hle2 hzn hld
        go_wp2_with (go_at_call 68; refine HT.out.mono ?_; rintro e V ⟨rfl, rfl⟩)
        exact ⟨rfl, HK0.out.trans HKP.out, .inr ⟨by rw [← HE2.out]; decide, by rw [← HE2.out]⟩⟩
    · obtain rfl : k = 3 := by omega
      have HE2 : Hid (letE letS zs = 0) := HE.out.symm
      go_wp2
      go_end0
      exact ⟨HK0.out.trans HKP.out, .inl ⟨HE2.out, rfl, a', c', HF.out, HRR.out⟩⟩

set_option maxRecDepth 100000 in
set_option maxHeartbeats 4000000 in
theorem kind_any {K : Nat → Prop} {B : Nat} {k0 : Int} {v0 v3 v4 : Value} {a : Option Addr} {len cap : Nat} {zs : List Int} {W : World} (h : Five W B v0 (.slice a len cap) (.int .i64 k0) v3 v4) (hR : Rd K W .u8 a len cap zs) (ho : Oct zs) (hK : ¬ K B) :
    Calls Try.prog 51 #[.pointer (some ⟨B, 0, none⟩)] W fun e V => Kept (fun b => b ≠ B) W V ∧
      ((kindE zs = 0 ∧ e = .returned (.tuple #[]) ∧ ∃ a' c', Five V B v0 (.slice a' (len - 1) c') (.int .i64 (zs[0]?.getD 0)) v3 v4 ∧ Rd K V .u8 a' (len - 1) c' (zs.drop 1)) ∨ (kindE zs ≠ 0 ∧ e = Fails (kindE zs))) := by
  have hx := ho.getD 0
  have hl := hR.hl
  by_cases h0 : 0 < len
  · have HT := Lib.hid (take_one h hR hK h0)
    have hKM : ∀ {X Y : World}, Kept (fun b => b ≠ B) X Y → Kept K X Y := fun h => h.mono fun k hk e => hK (e ▸ hk)
    have HKM : Hid (∀ {X Y : World}, Kept (fun b => b ≠ B) X Y → Kept K X Y) := hKM
    have hkE : kindE zs = if (1 : Int) ≤ zs[0]?.getD 0 ∧ zs[0]?.getD 0 ≤ (9 : Int) then 0 else 8 := by unfold kindE; rw [if_neg (by omega)]
    clear hKM h hR hK
    generalize zs[0]?.getD 0 = x at *
    have hw : IntKind.i64.wrap x = x := by rw [IntKind.wrap_i64]; omega
    by_cases hk : 1 ≤ x ∧ x ≤ 9
    · rw [if_pos hk] at hkE
      have HE := Lib.hid hkE
      have hb : (decide (1 ≤ x) && decide (x ≤ 9)) = true := by simp [hk]
      clear hkE hk hx
      go_enter Try.func51, Try.ntmps51
      go_wp2_with (first
        | (go_at_call 68; refine HT.out.mono ?_; rintro e V ⟨b, off, a2, c2, rfl, hcx, hF2, hR2, hK2, hcap⟩; have f2 := hF2.f 2; have q2 := hF2.c2; have flt := hF2.lt; have HF2 := Lib.hid hF2; have HR2 := Lib.hid hR2; have HK2 := Lib.hid hK2; clear hF2 hR2 hK2)
        | (go_at_call 27; refine (isKind_any _ _).mono ?_; rintro e w' ⟨rfl, rfl⟩; rw [hb])
        | (go_at_call 67; refine (require_ok _).mono ?_; rintro e w' ⟨rfl, rfl⟩))
      go_end0
      exact ⟨HK2.out.trans (kept_set _ _ _ _), .inl ⟨HE.out, rfl, a2, c2, HF2.out.set2 _, HR2.out.kept (HKM.out (kept_set _ _ _ _))⟩⟩
    · rw [if_neg hk] at hkE
      have HE := Lib.hid hkE
      have hb : (decide (1 ≤ x) && decide (x ≤ 9)) = false := by simp; omega
      clear hkE hk hx
      go_enter Try.func51, Try.ntmps51
      go_wp2_with (first
        | (go_at_call 68; refine HT.out.mono ?_; rintro e V ⟨b, off, a2, c2, rfl, hcx, hF2, hR2, hK2, hcap⟩; have f2 := hF2.f 2; have q2 := hF2.c2; have flt := hF2.lt; have HF2 := Lib.hid hF2; have HR2 := Lib.hid hR2; have HK2 := Lib.hid hK2; clear hF2 hR2 hK2)
        | (go_at_call 27; refine (isKind_any _ _).mono ?_; rintro e w' ⟨rfl, rfl⟩; rw [hb])
        | (go_at_call 67; refine (require_no _).mono ?_; rintro e w' ⟨rfl, rfl⟩))
      exact ⟨rfl, HK2.out.trans (kept_set _ _ _ _), .inr ⟨by rw [HE.out]; decide, by rw [HE.out]⟩⟩
  · have HT := Lib.hid (take_no h 1 (by omega))
    have HE : Hid (kindE zs = 7) := by show _ = _; unfold kindE; rw [if_pos (by omega)]
    go_enter Try.func51, Try.ntmps51
    go_wp2_with (go_at_call 68; refine HT.out.mono ?_; rintro e V ⟨rfl, rfl⟩)
    exact ⟨rfl, Kept.refl _ _, .inr ⟨by rw [HE.out]; decide, by rw [HE.out]⟩⟩

set_option maxRecDepth 100000 in
set_option maxHeartbeats 4000000 in
theorem id_any {K : Nat → Prop} {B : Nat} {v0 v2 v4 : Value} {a0 : Option Addr} {n0 c0 : Nat} {a : Option Addr} {len cap : Nat} {zs : List Int} {W : World} (h : Five W B v0 (.slice a len cap) v2 (.slice a0 n0 c0) v4) (hR : Rd K W .u8 a len cap zs) (ho : Oct zs) (hK : ¬ K B) :
    Calls Try.prog 52 #[.pointer (some ⟨B, 0, none⟩)] W fun e V => Kept (fun b => b ≠ B) W V ∧
      ((idE zs = 0 ∧ e = .returned (.tuple #[]) ∧ ∃ a' n' a1 n1, Five V B v0 (.slice a' n' n') v2 (.slice a1 n1 n1) v4 ∧ Rd K V .u8 a' n' n' (zs.drop (unS zs).2.1) ∧ Rd (fun b => W.heap.size ≤ b) V .i64 a1 n1 n1 (unS zs).1) ∨ (idE zs ≠ 0 ∧ e = Fails (idE zs))) := by
  have HKM : Hid (∀ {X Y : World}, Kept (fun b => b ≠ B) X Y → Kept K X Y) := fun h => h.mono fun k hk e => hK (e ▸ hk)
  have H5 := Lib.hid h
  have c1 := h.c1
  have hBW := h.lt
  by_cases hu : (unS zs).2.2 = 0
  · have HU := Lib.hid (un_good ho hR (l := (unS zs).1) (c := (unS zs).2.1) (by rw [← hu]))
    have hiE : idE zs = if 40 < (unS zs).1.length then 8 else 0 := by unfold idE; rw [if_neg (fun c => c hu)]
    clear h hR hK hu ho
    generalize (unS zs).1 = l at *
    generalize (unS zs).2.1 = c at *
    by_cases h40 : 40 < l.length
    · rw [if_pos h40] at hiE
      have HE := Lib.hid hiE
      have H40 := Lib.hid h40
      clear hiE h40
      go_enter Try.func52, Try.ntmps52
      go_wp2_with (first
        | (go_at_call 69; refine HU.out.mono ?_; rintro e V ⟨hb, a1, n1, a2, m, rfl, hR1, hR2⟩; have hF := H5.out.below hb hBW; have HF := Lib.hid hF; have HB := Lib.hid hb; have hn1 : decide ((n1 : Int) ≤ 40) = false := decide_eq_false (by have := H40.out; rw [← hR1.hl] at this; omega); clear hb hF hR1 hR2 c1 hBW)
        | (go_at_call 70; refine (goOn_ok HF.out).mono ?_; rintro e w' ⟨rfl, rfl⟩)
        | (go_at_call 67; refine (require_no _).mono ?_; rintro e w' ⟨rfl, rfl⟩))
      exact ⟨rfl, (⟨HB.out.os, HB.out.tape, HB.out.output, HB.out.size, fun i hi _ => HB.out.block i hi⟩ : Kept (fun b => b ≠ B) W V).trans (kept_set _ _ _ _), .inr ⟨by rw [HE.out]; decide, by rw [HE.out]⟩⟩
    · rw [if_neg h40] at hiE
      have HE := Lib.hid hiE
      have H40 := Lib.hid h40
      clear hiE h40
      go_enter Try.func52, Try.ntmps52
      go_wp2_with (first
        | (go_at_call 69; refine HU.out.mono ?_; rintro e V ⟨hb, a1, n1, a2, m, rfl, hR1, hR2⟩; have hF := H5.out.below hb hBW; have HF := Lib.hid hF; have HB := Lib.hid hb; have hn1 : decide ((n1 : Int) ≤ 40) = true := decide_eq_true (by have := H40.out; rw [← hR1.hl] at this; omega); have HR1 := Lib.hid hR1; have HR2 := Lib.hid (hR2.below hb); clear hb hF hR1 hR2 c1 hBW)
        | (go_at_call 70; refine (goOn_ok HF.out).mono ?_; rintro e w' ⟨rfl, rfl⟩; have hG := HF.out.set1 (.slice a2 m m); have g3 := hG.c3; have gf := hG.f 3; have glt := hG.lt; have HG := Lib.hid hG; clear hG)
        | (go_at_call 67; refine (require_ok _).mono ?_; rintro e w' ⟨rfl, rfl⟩))
      go_end0
      have hKV : Kept (fun b => b ≠ B) W V := ⟨HB.out.os, HB.out.tape, HB.out.output, HB.out.size, fun i hi _ => HB.out.block i hi⟩
      have hk2 := (kept_set V B 1 (.slice a2 m m)).trans (kept_set (V.setCell ⟨B, 1, none⟩ (.slice a2 m m)) B 3 (.slice a1 n1 n1))
      refine ⟨hKV.trans hk2, .inl ⟨HE.out, rfl, a2, m, a1, n1, HG.out.set3 _, HR2.out.kept (HKM.out hk2), HR1.out.kept (hk2.mono fun k hk e => ?_)⟩⟩
      have := H5.out.lt
      omega
  · have HU := Lib.hid (un_bad ho hR hu rfl)
    have hiE : idE zs = rotE (unS zs).2.2 := by unfold idE; rw [if_pos hu]
    have hrE : rotE (unS zs).2.2 = if (unS zs).2.2 = 7 then 7 else 8 := rfl
    have HE0 : Hid (idE zs ≠ 0) := by show _ ≠ _; rw [hiE]; rcases rotE_bad (unS zs).2.2 with e | e <;> rw [e] <;> decide
    clear h hR hK ho
    generalize (unS zs).2.2 = x at *
    have HX := Lib.hid hu
    have HE : Hid (idE zs = if x = 7 then 7 else 8) := hiE.trans hrE
    clear hu hiE hrE
    go_enter Try.func52, Try.ntmps52
    go_wp2_with (first
      | (go_at_call 69; refine HU.out.mono ?_; rintro e V ⟨rfl, hb⟩; have HB := Lib.hid hb; clear hb c1 hBW)
      | (go_at_call 70; refine (goOn_no HX.out).mono ?_; rintro e w' ⟨rfl, rfl⟩; rw [← HE.out]))
    exact ⟨rfl, ⟨HB.out.os, HB.out.tape, HB.out.output, HB.out.size, fun i hi _ => HB.out.block i hi⟩, .inr ⟨HE0.out, rfl⟩⟩

set_option maxRecDepth 100000 in
set_option maxHeartbeats 4000000 in
theorem data_any {K : Nat → Prop} {B : Nat} {v0 v2 v3 : Value} {a0 : Option Addr} {n0 c0 : Nat} {a : Option Addr} {len cap : Nat} {zs : List Int} {W : World} (h : Five W B v0 (.slice a len cap) v2 v3 (.slice a0 n0 c0)) (hR : Rd K W .u8 a len cap zs) (ho : Oct zs) (hK : ¬ K B) :
    Calls Try.prog 53 #[.pointer (some ⟨B, 0, none⟩)] W fun e V => Kept (fun b => b ≠ B) W V ∧
      ((dataE zs = 0 ∧ e = .returned (.tuple #[]) ∧ ∃ a' n' c' a1 n1 c1, Five V B v0 (.slice a' n' c') v2 v3 (.slice a1 n1 c1) ∧ Rd K V .u8 a' n' c' (zs.drop ((rdS zs).2.1 + (rdS zs).1.toNat)) ∧ Rd (fun b => W.heap.size ≤ b) V .u8 a1 n1 c1 ((zs.drop (rdS zs).2.1).take (rdS zs).1.toNat)) ∨ (dataE zs ≠ 0 ∧ e = Fails (dataE zs))) := by
  have HKM : Hid (∀ {X Y : World}, Kept (fun b => b ≠ B) X Y → Kept K X Y) := fun h => h.mono fun k hk e => hK (e ▸ hk)
  have H5 := Lib.hid h
  have c1 := h.c1
  have HK := Lib.hid hK
  by_cases hu : (rdS zs).2.2 = 0
  · have hu64 := rdS_u64 ho
    have hdE : dataE zs = if 65536 < (rdS zs).1 then 8 else if zs.length - (rdS zs).2.1 < (rdS zs).1.toNat then 7 else 0 := by unfold dataE; rw [if_neg (fun c => c hu)]
    have HU := Lib.hid (read_good ho hR (u := (rdS zs).1) (c := (rdS zs).2.1) (by rw [← hu]))
    clear h hR hu ho hK
    generalize (rdS zs).1 = u at *
    generalize (rdS zs).2.1 = c at *
    obtain ⟨m, rfl⟩ := Int.eq_ofNat_of_zero_le hu64.1
    rw [Int.toNat_natCast] at hdE ⊢
    clear hu64
    by_cases h65 : 65536 < (m : Int)
    · rw [if_pos h65] at hdE
      have HE := Lib.hid hdE
      have hd : decide ((m : Int) ≤ 65536) = false := decide_eq_false (by omega)
      have hd2 : decide (m ≤ 65536) = false := decide_eq_false (by omega)
      clear hdE h65
      go_enter Try.func53, Try.ntmps53
      go_wp2_with (first
        | (go_at_call 71; refine HU.out.mono ?_; rintro e V ⟨rfl, a1, n1, rfl, hR1⟩; clear hR1)
        | (go_at_call 70; refine (goOn_ok H5.out).mono ?_; rintro e w' ⟨rfl, rfl⟩)
        | (go_at_call 67; refine (require_no _).mono ?_; rintro e w' ⟨rfl, rfl⟩))
      exact ⟨rfl, kept_set _ _ _ _, .inr ⟨by rw [HE.out]; decide, by rw [HE.out]⟩⟩
    · rw [if_neg h65] at hdE
      have hd : decide ((m : Int) ≤ 65536) = true := decide_eq_true (by omega)
      have hd2 : decide (m ≤ 65536) = true := decide_eq_true (by omega)
      have hw : IntKind.i64.wrap (m : Int) = m := by rw [IntKind.wrap_i64]; omega
      clear h65
      by_cases hsh : zs.length - c < m
      · rw [if_pos hsh] at hdE
        have HE := Lib.hid hdE
        have HSH := Lib.hid hsh
        clear hdE hsh
        go_enter Try.func53, Try.ntmps53
        go_wp2_with (first
          | (go_at_call 71; refine HU.out.mono ?_; rintro e V ⟨rfl, a1, n1, rfl, hR1⟩; have HN1 : Hid (n1 < m) := (by show _ < _; rw [hR1.hl, List.length_drop]; exact HSH.out); clear hR1)
          | (go_at_call 70; refine (goOn_ok H5.out).mono ?_; rintro e w' ⟨rfl, rfl⟩)
          | (go_at_call 67; refine (require_ok _).mono ?_; rintro e w' ⟨rfl, rfl⟩)
          | (go_at_call 68; refine (take_no (H5.out.set1 _) m HN1.out).mono ?_; rintro e w' ⟨rfl, rfl⟩))
        exact ⟨rfl, kept_set _ _ _ _, .inr ⟨by rw [HE.out]; decide, by rw [HE.out]⟩⟩
      · rw [if_neg hsh] at hdE
        have HE := Lib.hid hdE
        have HSH := Lib.hid hsh
        clear hdE hsh
        go_enter Try.func53, Try.ntmps53
        go_wp2_with (first
          | (go_at_call 71; refine HU.out.mono ?_; rintro e V ⟨rfl, a1, n1, rfl, hR1⟩; have HN1 : Hid (m ≤ n1) := (by show _ ≤ _; rw [hR1.hl, List.length_drop]; have := HSH.out; omega); have HR1 := Lib.hid hR1; clear hR1)
          | (go_at_call 70; refine (goOn_ok H5.out).mono ?_; rintro e w' ⟨rfl, rfl⟩; have HF := Lib.hid (H5.out.set1 (.slice a1 n1 n1)); have HK1 := Lib.hid (kept_set W B 1 (.slice a1 n1 n1)); have HR2 := Lib.hid (HR1.out.kept (HKM.out HK1.out)); clear HR1 c1; generalize W.setCell ⟨B, 1, none⟩ (.slice a1 n1 n1) = W1 at *)
          | (go_at_call 67; refine (require_ok _).mono ?_; rintro e w' ⟨rfl, rfl⟩)
          | (go_at_call 68; refine (take_ok HF.out HR2.out (by omega) m HN1.out).mono ?_; rintro e w' ⟨a2, c2, rfl, rfl, hT, hL⟩; have HF3 := Lib.hid (HF.out.set1 (.slice a2 (n1 - m) c2)); have HK2 := Lib.hid (HK1.out.trans (kept_set W1 B 1 (.slice a2 (n1 - m) c2))); have HT := Lib.hid (hT.kept (HKM.out (kept_set W1 B 1 (.slice a2 (n1 - m) c2)))); have HL := Lib.hid (hL.kept (HKM.out (kept_set W1 B 1 (.slice a2 (n1 - m) c2)))); clear hT hL; generalize W1.setCell ⟨B, 1, none⟩ (.slice a2 (n1 - m) c2) = W2 at *)
          | (go_at_call 72; refine (cloneB_any HT.out).mono ?_; rintro e W3 ⟨a3, c3, rfl, hC, hb⟩; have hF4 := HF3.out.below hb HF3.out.lt; have q4 := hF4.c4; have f4 := hF4.f 4; have lt4 := hF4.lt; have HF4 := Lib.hid hF4; have HB := Lib.hid hb; have HC := Lib.hid hC; clear hF4 hb hC))
        go_end0
        have hK3 : Kept (fun b => b ≠ B) W2 W3 := ⟨HB.out.os, HB.out.tape, HB.out.output, HB.out.size, fun i hi _ => HB.out.block i hi⟩
        have hks := kept_set W3 B 4 (.slice a3 m c3)
        refine ⟨(HK2.out.trans hK3).trans hks, .inl ⟨HE.out, rfl, a2, n1 - m, c2, a3, m, c3, HF4.out.set4 _, ?_, (HC.out.mono (fun b hb h => ?_)).kept (hks.mono fun k hk e => ?_)⟩⟩
        · have := (HL.out.kept (HKM.out (hK3.trans hks)))
          rwa [List.drop_drop] at this
        · exact Nat.le_trans HK2.out.size h
        · have := H5.out.lt
          omega
  · have HU := Lib.hid (read_bad ho hR hu rfl)
    have hiE : dataE zs = rotE (rdS zs).2.2 := by unfold dataE; rw [if_pos hu]
    have hrE : rotE (rdS zs).2.2 = if (rdS zs).2.2 = 7 then 7 else 8 := rfl
    have HE0 : Hid (dataE zs ≠ 0) := by show _ ≠ _; rw [hiE]; rcases rotE_bad (rdS zs).2.2 with e | e <;> rw [e] <;> decide
    clear h hR hK ho
    generalize (rdS zs).2.2 = x at *
    have HX := Lib.hid hu
    have HE : Hid (dataE zs = if x = 7 then 7 else 8) := hiE.trans hrE
    clear hu hiE hrE
    go_enter Try.func53, Try.ntmps53
    go_wp2_with (first
      | (go_at_call 71; refine HU.out.mono ?_; rintro e V ⟨rfl, rfl⟩)
      | (go_at_call 70; refine (goOn_no HX.out).mono ?_; rintro e w' ⟨rfl, rfl⟩; rw [← HE.out]))
    exact ⟨rfl, Kept.refl _ _, .inr ⟨HE0.out, rfl⟩⟩

theorem kept_drewN (K : Nat → Prop) (W : World) (n : Nat) : Kept K W (W.drewN n) := ⟨rfl, rfl, rfl, Nat.le_refl _, fun _ _ _ => rfl⟩
theorem Kept.all {K : Nat → Prop} {A B : World} (h : Below A.heap.size A B) : Kept K A B := ⟨h.os, h.tape, h.output, h.size, fun i hi _ => h.block i hi⟩

set_option maxRecDepth 100000 in
set_option maxHeartbeats 4000000 in
theorem sum_any {K : Nat → Prop} {B : Nat} {v2 v3 v4 : Value} {aw : Option Addr} {nw cw : Nat} {a : Option Addr} {n c : Nat} {bs : List Int} {p : Nat} {W : World} (h : Five W B (.slice aw nw cw) (.slice a n c) v2 v3 v4) (hW : Rd K W .u8 aw nw cw bs) (hR : Rd K W .u8 a n c (bs.drop p)) (ho : Oct bs) (hK : ¬ K B) (hp : p ≤ bs.length) (h0 : 0 < nw) :
    Calls Try.prog 54 #[.pointer (some ⟨B, 0, none⟩)] W fun e V => Kept (fun b => b ≠ B) W V ∧
      ((sumE (bs.take p) (bs.drop p) = 0 ∧ e = .returned (.tuple #[]) ∧ ∃ a' c', Five V B (.slice aw nw cw) (.slice a' (n - 8) c') v2 v3 v4 ∧ Rd K V .u8 a' (n - 8) c' (bs.drop (p + 8))) ∨ (sumE (bs.take p) (bs.drop p) ≠ 0 ∧ e = Fails (sumE (bs.take p) (bs.drop p)))) := by
  have HKM : Hid (∀ {X Y : World}, Kept (fun b => b ≠ B) X Y → Kept K X Y) := fun h => h.mono fun k hk e => hK (e ▸ hk)
  have H5 := Lib.hid h
  have hnl := hR.hl
  have hwl := hW.hl
  rw [List.length_drop] at hnl
  have hfw := hW.fit
  have htw := hW.top
  have hsw := hW.small
  have HT := Lib.hid (hW.first9 p (by omega))
  have HR := Lib.hid hR
  have HOT := Lib.hid (ho.take p)
  have HOD := Lib.hid ((ho.drop p).take 8)
  have hpw : p ≤ nw := by omega
  have hsub : (nw : Int) - (n : Int) = (p : Int) := by omega
  have hsube : sumE (bs.take p) (bs.drop p) = if n < 8 then 7 else if (bs.drop p).take 8 = sum8 (Dg.bytesD (bs.take p)) then 0 else 8 := by unfold sumE; rw [← hR.hl]
  obtain ⟨b, off, rfl, hkb, hlt, hcs⟩ := hW.cells h0
  have HDD : Hid ((bs.drop p).drop 8 = bs.drop (p + 8)) := by show _ = _; rw [List.drop_drop]
  clear h hW hR hcs ho hK hnl hwl hp
  generalize sumE (bs.take p) (bs.drop p) = E at *
  obtain ⟨L8, hL8⟩ : ∃ l, (bs.drop p).take 8 = l := ⟨_, rfl⟩
  rw [hL8] at hsube HOD
  have HL8 := Lib.hid hL8
  clear hL8
  generalize bs.take p = A at *
  have q0 := H5.out.c0
  have q1 := H5.out.c1
  go_enter Try.func54, Try.ntmps54
  go_wp2
  go_quiet (fail)
  have HKD := Lib.hid (kept_drewN (fun b => b ≠ B) W nq)
  have HF : Hid (Five (W.drewN nq) B (.slice (some ⟨b, off, none⟩) nw cw) (.slice a n c) v2 v3 v4) := H5.out
  have HR1 := Lib.hid (HR.out.kept (kept_drewN K W nq))
  have HT1 := Lib.hid (HT.out.kept (kept_drewN K W nq))
  clear HT HR
  generalize W.drewN nq = V at *
  by_cases h8 : n < 8
  · rw [if_pos h8] at hsube
    have HE := Lib.hid hsube
    have H8 := Lib.hid (take_no HF.out 8 h8)
    clear hsube h8
    go_wp2_with (go_at_call 68; refine H8.out.mono ?_; rintro e w' ⟨rfl, rfl⟩)
    exact ⟨rfl, HKD.out, .inr ⟨by rw [HE.out]; decide, by rw [HE.out]⟩⟩
  · rw [if_neg h8] at hsube
    have H8 := Lib.hid (take_ok HF.out HR1.out (.inl (by omega)) 8 (by omega))
    by_cases he : L8 = sum8 (Dg.bytesD A)
    · rw [if_pos he] at hsube
      have HE := Lib.hid hsube
      have hde : decide (L8 = sum8 (Dg.bytesD A)) = true := decide_eq_true he
      clear hsube he h8
      go_wp2_with (first
        | (go_at_call 68; refine H8.out.mono ?_; rintro e w' ⟨a2, c2, rfl, rfl, hT, hL⟩; rw [HL8.out] at hT; have HF3 := Lib.hid (HF.out.set1 (.slice a2 (n - 8) c2)); have HK2 := Lib.hid (kept_set V B 1 (.slice a2 (n - 8) c2)); have HT3 := Lib.hid (hT.kept (HKM.out HK2.out)); have HL := Lib.hid (hL.kept (HKM.out HK2.out)); have HA := Lib.hid (HT1.out.kept (HKM.out HK2.out)); clear hT hL; generalize V.setCell ⟨B, 1, none⟩ (.slice a2 (n - 8) c2) = W2 at *)
        | (go_at_call 31; refine (checksum_any HA.out HOT.out).mono ?_; rintro e W3 ⟨g, rfl, hC, hb⟩; have HB := Lib.hid hb; have HC := Lib.hid hC; clear hb hC)
        | (go_at_call 73; refine (equal_any (HT3.out.below HB.out) HC.out HOD.out (sum8_oct _)).mono ?_; rintro e w' ⟨rfl, rfl⟩; rw [hde])
        | (go_at_call 67; refine (require_ok _).mono ?_; rintro e w' ⟨rfl, rfl⟩))
      go_end0
      have hK3 : Kept (fun b => b ≠ B) W2 W3 := Kept.all HB.out
      refine ⟨(HKD.out.trans HK2.out).trans hK3, .inl ⟨HE.out, rfl, a2, c2, HF3.out.below HB.out HF3.out.lt, ?_⟩⟩
      have := HL.out.kept (HKM.out hK3)
      rwa [HDD.out] at this
    · rw [if_neg he] at hsube
      have HE := Lib.hid hsube
      have hde : decide (L8 = sum8 (Dg.bytesD A)) = false := decide_eq_false he
      clear hsube he h8
      go_wp2_with (first
        | (go_at_call 68; refine H8.out.mono ?_; rintro e w' ⟨a2, c2, rfl, rfl, hT, hL⟩; rw [HL8.out] at hT; have HF3 := Lib.hid (HF.out.set1 (.slice a2 (n - 8) c2)); have HK2 := Lib.hid (kept_set V B 1 (.slice a2 (n - 8) c2)); have HT3 := Lib.hid (hT.kept (HKM.out HK2.out)); have HA := Lib.hid (HT1.out.kept (HKM.out HK2.out)); clear hT hL; generalize V.setCell ⟨B, 1, none⟩ (.slice a2 (n - 8) c2) = W2 at *)
        | (go_at_call 31; refine (checksum_any HA.out HOT.out).mono ?_; rintro e W3 ⟨g, rfl, hC, hb⟩; have HB := Lib.hid hb; have HC := Lib.hid hC; clear hb hC)
        | (go_at_call 73; refine (equal_any (HT3.out.below HB.out) HC.out HOD.out (sum8_oct _)).mono ?_; rintro e w' ⟨rfl, rfl⟩; rw [hde])
        | (go_at_call 67; refine (require_no _).mono ?_; rintro e w' ⟨rfl, rfl⟩))
      exact ⟨rfl, (HKD.out.trans HK2.out).trans (Kept.all HB.out), .inr ⟨by rw [HE.out]; decide, by rw [HE.out]⟩⟩

end Go.Proofs.Ytkfmgiacdlkmiaa
