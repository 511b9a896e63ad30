/-
  The reference: the codes of strings.
-/
import Derived.Test.YtdcapmbgnoahpaaDcRf1
import Derived.Test.YtdcapmbgnoahpaaDcSame
import Derived.Test.YtdcapmbgnoahpaaDcWrap
namespace Go.Proofs.Ytdcapmbgnoahpaa
open Go Go.RowKit Go.Shelf Go.ChangeShapes Go.WideShapes Go.ChangeAt

/-- The codes of strings, and the error. -/
def cdE (d l : List (List UInt8)) : Int := if vlB d = false then 1 else if ∀ s ∈ l, s ∈ d then 0 else 4
def cdL (d l : List (List UInt8)) : List Int := if vlB d = false then [] else if ∀ s ∈ l, s ∈ d then l.map fun s => ((d.idxOf s : Nat) : Int) else []
/-- A slice that begins where its block does. -/
def Z0 (a : Option Addr) : Prop := ∀ b off sp, a = some ⟨b, off, sp⟩ → off = 0
theorem z0_none : Z0 none := fun _ _ _ h => by cases h
theorem z0_some (g : Nat) : Z0 (some ⟨g, 0, none⟩) := fun _ _ _ h => by cases h; rfl
/-- What codes come to, on both sides. -/
def CdPost (d l : List (List UInt8)) (W : World) (e : Ending) (W' : World) : Prop :=
  Below W.heap.size W W' ∧ ∃ a n c, e = .returned (.agg #[.slice a n c, .int .i64 (cdE d l)]) ∧ Rd (fun _ => True) W' .i64 a n c (cdL d l) ∧ Z0 a
theorem CdPost.bad {d l : List (List UInt8)} {W W' : World} {e : Ending} (hv : vlB d = false) (hb : Below W.heap.size W W') (he : e = .returned (.agg #[.slice none 0 0, .int .i64 1])) : CdPost d l W e W' :=
  ⟨hb, none, 0, 0, by unfold cdE; rw [if_pos hv]; exact he, by unfold cdL; rw [if_pos hv]; exact Rd.empty, z0_none⟩
theorem CdPost.lost {d l : List (List UInt8)} {W W' : World} {e : Ending} (hv : vlB d = true) (hn : ∃ s ∈ l, s ∉ d) (hb : Below W.heap.size W W') (he : e = .returned (.agg #[.slice none 0 0, .int .i64 4])) : CdPost d l W e W' := by
  have h2 : ¬ ∀ s ∈ l, s ∈ d := fun h => by obtain ⟨s, h1, h3⟩ := hn; exact h3 (h s h1)
  refine ⟨hb, none, 0, 0, ?_, ?_, z0_none⟩
  · unfold cdE; rw [if_neg (by rw [hv]; decide), if_neg h2]; exact he
  · unfold cdL; rw [if_neg (by rw [hv]; decide), if_neg h2]; exact Rd.empty
theorem CdPost.good {d l : List (List UInt8)} {W W' : World} {e : Ending} {a : Option Addr} {n c : Nat} (hv : vlB d = true) (ha : ∀ s ∈ l, s ∈ d) (hb : Below W.heap.size W W') (he : e = .returned (.agg #[.slice a n c, .int .i64 0]))
    (hr : Rd (fun _ => True) W' .i64 a n c (l.map fun s => ((d.idxOf s : Nat) : Int))) (hz : Z0 a) : CdPost d l W e W' :=
  ⟨hb, a, n, c, by unfold cdE; rw [if_neg (by rw [hv]; decide), if_pos ha]; exact he, by unfold cdL; rw [if_neg (by rw [hv]; decide), if_pos ha]; exact hr, hz⟩

theorem codesW_p {K K' : Nat → Prop} {a a' : Option Addr} {len cap len' cap' : Nat} {d l : List (List UInt8)} {W : World} (hR : RdS K W a len cap d) (hR' : RdS K' W a' len' cap' l) :
    Calls Try.prog 14 #[.slice a len cap, .slice a' len' cap'] W (CdPost d l W) := by
  cases hv : vlB d with
  | false => exact (codesW_bad hR hv a' len' cap').mono fun e W' ⟨he, hb⟩ => .bad hv hb he
  | true =>
    refine (codesW_good hR hR' hv).mono fun e W' ⟨hb, hp⟩ => ?_
    rcases hp with ⟨hall, g, n, he, hr⟩ | ⟨hno, he⟩
    · exact .good hv hall hb he (hr.mono fun _ _ _ => trivial) (z0_some _)
    · exact .lost hv hno hb he

theorem below_two {W V : World} {R : Nat} (h : Below W.heap.size W V) (hR : W.heap.size ≤ R) (a b : Value) : Below W.heap.size W ((V.setCell ⟨R, 0, none⟩ a).setCell ⟨R, 1, none⟩ b) := (h.setCell hR _).setCell hR _
theorem Duo.kept {K : Nat → Prop} {W V : World} {B : Nat} {t : TypeId} {a b : Value} (h : Duo W B t a b) (hk : Kept K W V) (hB : K B) : Duo V B t a b := (hk.block B h.lt hB).trans h
theorem Duo.drewN {W : World} {B : Nat} {t : TypeId} {a b : Value} (h : Duo W B t a b) (n : Nat) : Duo (W.drewN n) B t a b := h

theorem codesR_bad {K : Nat → Prop} {a : Option Addr} {len cap : Nat} {d l : List (List UInt8)} {W : World} (hR : RdS K W a len cap d) (hv : vlB d = false) (a' : Option Addr) (len' cap' : Nat) :
    Calls Try.prog 15 #[.slice a len cap, .slice a' len' cap'] W (CdPost d l W) := by
  have hb0 : Below W.heap.size W (W.alloc (.cells #[.slice none 0 0, .int .i64 0] 35)) := (Below.refl _ _).alloc (Nat.le_refl _) _
  have HP := Lib.hid (validR_any (hR.below hb0))
  have HD := Lib.hid (Duo.new W 35 (.slice none 0 0) (.int .i64 0))
  rw [hv] at HP
  have HV := Lib.hid hv
  have HB0 := Lib.hid hb0
  clear hR hv hb0
  obtain ⟨R, hRe⟩ : ∃ R, W.heap.size = R := ⟨_, rfl⟩
  have HRE : Hid (W.heap.size ≤ R) := Nat.le_of_eq hRe
  rw [hRe] at HD
  go_enter Try.func15, Try.ntmps15
  go_wp2_with fail
  try rw [hRe]
  clear hRe
  generalize W.alloc (.cells #[.slice none 0 0, .int .i64 0] 35) = V at *
  refine HP.out.mono ?_
  rintro e w1 ⟨rfl, n, hw1⟩
  have HB1 : Hid (Below W.heap.size W w1) := by rw [hw1]; exact below_drewN HB0.out n
  have hd : Duo w1 R 35 (.slice none 0 0) (.int .i64 0) := by rw [hw1]; exact HD.out.drewN n
  have p0 := hd.c0
  have p1 := hd.c1
  have f0 := hd.f 0
  have f1 := hd.f 1
  have plt := hd.lt
  clear hw1 hd
  go_wp2
  exact bodyPost_ret (v := .agg #[.slice none 0 0, .int .i64 1]) (by simp [results, Try.results15, go_sem, p0, p1]) rfl (.bad HV.out (below_two HB1.out HRE.out _ _) rfl)

set_option maxRecDepth 100000 in
set_option maxHeartbeats 4000000 in
theorem codesR_good {K K' : Nat → Prop} {a a' : Option Addr} {len cap len' cap' : Nat} {d l : List (List UInt8)} {W : World} (hR : RdS K W a len cap d) (hR' : RdS K' W a' len' cap' l) (hv : vlB d = true) :
    Calls Try.prog 15 #[.slice a len cap, .slice a' len' cap'] W (CdPost d l W) := by
  obtain ⟨i0, hi, hz0, hz1, hz2⟩ := info_parts Try.infoI5
  have hb0 : Below W.heap.size W (W.alloc (.cells #[.slice none 0 0, .int .i64 0] 35)) := (Below.refl _ _).alloc (Nat.le_refl _) _
  have HP := Lib.hid (validR_any (hR.below hb0))
  have HD := Lib.hid (Duo.new W 35 (.slice none 0 0) (.int .i64 0))
  rw [hv] at HP
  have HV := Lib.hid hv
  have HB0 := Lib.hid hb0
  have HL' := Lib.hid hR'.hl
  have hfit' := hR'.fit
  have hsm' := hR'.small
  have H := Lib.hid hR
  have H' := Lib.hid hR'
  clear hR hR' hv hb0
  obtain ⟨R, hRe⟩ : ∃ R, W.heap.size = R := ⟨_, rfl⟩
  have HRE : Hid (W.heap.size ≤ R) := Nat.le_of_eq hRe
  have HRS : Hid ((W.alloc (.cells #[.slice none 0 0, .int .i64 0] 35)).heap.size = R + 1) := by show _ = _; simp [hRe]
  rw [hRe] at HD
  go_enter Try.func15, Try.ntmps15
  go_wp2_with fail
  try rw [hRe]
  clear hRe
  generalize W.alloc (.cells #[.slice none 0 0, .int .i64 0] 35) = V at *
  refine HP.out.mono ?_
  rintro e w1 ⟨rfl, n, hw1⟩
  have HB1 : Hid (Below W.heap.size W w1) := by rw [hw1]; exact below_drewN HB0.out n
  have HD1 : Hid (Duo w1 R 35 (.slice none 0 0) (.int .i64 0)) := by rw [hw1]; exact HD.out.drewN n
  have HS1 : Hid (w1.heap.size = R + 1) := by show _ = _; rw [hw1]; exact HRS.out
  clear hw1 HB0 HD HP HRS
  have HB2 : Hid (Below W.heap.size W (w1.alloc (.cells #[] 3))) := HB1.out.alloc HB1.out.size _
  have HD2 : Hid (Duo (w1.alloc (.cells #[] 3)) R 35 (.slice none 0 0) (.int .i64 0)) := HD1.out.below ((Below.refl _ _).alloc (Nat.le_refl _) _) HD1.out.lt
  have HO0 : Hid ((w1.alloc (.cells #[] 3)).ownsRow (R + 1) 3 1 (.slice (some ⟨w1.heap.size, 0, none⟩) 0 0) 0 ((((l.map fun s => ((d.idxOf s : Nat) : Int))).take 0).map (Value.int .i64))) := ⟨rfl, .inr ⟨w1.heap.size, 0, #[], rfl, Nat.le_of_eq HS1.out.symm, World.alloc_heap_new w1 _, Nat.le_refl _, by unfold maxLen; omega, rfl, rfl⟩⟩
  have HCL : Hid ((l.map fun s => ((d.idxOf s : Nat) : Int)).length = len') := by show _ = _; rw [List.length_map]; exact HL'.out.symm
  have hzs : R + 1 ≤ w1.heap.size := Nat.le_of_eq HS1.out.symm
  go_wp2
  generalize w1.heap.size = g0 at *
  generalize w1.alloc (.cells #[] 3) = V2 at *
  go_loopw [5, 6] (fun v i wr => ∃ k g c : Nat, k ≤ len' ∧ i = .int .i64 k ∧ v = .slice (some ⟨g, 0, none⟩) k c ∧ k ≤ c ∧ Hid (wr.ownsRow (R + 1) 3 1 (.slice (some ⟨g, 0, none⟩) k c) k (((l.map fun s => ((d.idxOf s : Nat) : Int)).take k).map (Value.int .i64))) ∧
      Hid (Below W.heap.size W wr) ∧ Hid (Duo wr R 35 (.slice none 0 0) (.int .i64 0)) ∧ Hid (∀ j, j < k → l[j]?.getD [] ∈ d)) (fun _ i _ => len' - (intOf i).toNat)
  case atStart => exact ⟨0, g0, 0, Nat.zero_le _, rfl, rfl, Nat.le_refl _, HO0, HB2, HD2, fun j h => absurd h (by omega)⟩
  case round =>
    obtain ⟨k, g, c, hk, rfl, rfl, hkc, HO, HB, HDW, HA⟩ := hrel
    by_cases hlt : k < len'
    · obtain ⟨b, off, rfl, _, hblt, hc⟩ := H'.out.cells (by omega)
      have hcx := (HB.out.cell (p := ⟨b, off + k, none⟩) hblt).trans (hc k hlt)
      have hmem : l[k]?.getD [] ∈ l := by rw [List.getElem?_eq_getElem (by rw [← HL'.out]; exact hlt)]; exact List.getElem_mem _
      have HCK : Hid ((l.map fun s => ((d.idxOf s : Nat) : Int))[k]?.getD 0 = ((d.idxOf (l[k]?.getD []) : Nat) : Int)) := by
        show _ = _
        rw [List.getElem?_map, List.getElem?_eq_getElem (by rw [← HL'.out]; exact hlt)]; rfl
      have HTK := Lib.hid (take_getD_snoc (l.map fun s => ((d.idxOf s : Nat) : Int)) k (by rw [HCL.out]; exact hlt))
      have HFI := Lib.hid (find_any (H.out.below HB.out) (l[k]?.getD []))
      have HFD : Hid (fdS d (l[k]?.getD []) = if l[k]?.getD [] ∈ d then ((d.idxOf (l[k]?.getD []) : Nat) : Int) else -1) := rfl
      have HNO : Hid (l[k]?.getD [] ∉ d → ∃ s ∈ l, s ∉ d) := fun hd => ⟨_, hmem, hd⟩
      have HA2 : Hid (l[k]?.getD [] ∈ d → ∀ j, j < k + 1 → l[j]?.getD [] ∈ d) := fun hd j hj => by
        by_cases e : j = k
        · rw [e]; exact hd
        · exact HA.out j (by omega)
      have hidl : l[k]?.getD [] ∈ d → d.idxOf (l[k]?.getD []) < d.length := fun h => List.idxOf_lt_length_of_mem h
      have HDL := Lib.hid H.out.hl
      have hdl40 := H.out.small
      clear hc hmem
      generalize l[k]?.getD [] = x at *
      obtain ⟨q, hq⟩ : ∃ q : Nat, d.idxOf x = q := ⟨_, rfl⟩
      rw [hq] at HCK HFD hidl
      clear hq
      generalize bsOf x = X at *
      go_wp2_with fail
      refine HFI.out.mono ?_
      rintro e wr' ⟨rfl, rfl⟩
      by_cases hxd : x ∈ d
      · have hf : fdS d x = (q : Int) := by rw [HFD.out, if_pos hxd]
        rw [hf]
        have hq0 : ¬ (q : Int) < 0 := by omega
        have hql : q < len := by rw [HDL.out]; exact hidl hxd
        obtain ⟨g2, c2, w2, hr, ho2, hg2, hc2, hg0⟩ := run_append_one (P := Try.prog) wr (R + 1) 24 24 3 i0 _ 8 .i64 Try.underlying24 hi hz0 hz1 hz2 rfl g k c _ HO.out q 3 (by unfold maxLen; omega) (by omega) (by have := HDW.out.lt; omega)
        have HB3 : Hid (Below W.heap.size W w2) := (HB.out.alloc HB.out.size _).grown hg2 (HB.out.alloc HB.out.size _).size (fun r e => by cases e; have := row_base HO.out; have := HRE.out; omega)
        have HD3 : Hid (Duo w2 R 35 (.slice none 0 0) (.int .i64 0)) := (HDW.out.below ((Below.refl _ _).alloc (Nat.le_refl _) _) HDW.out.lt).kept (Kept.of_grownBy (K := fun b => b = R) hg2 (fun r e h => by cases e; have := row_base HO.out; omega)) rfl
        have HO3 : Hid (w2.ownsRow (R + 1) 3 1 (.slice (some ⟨g2, 0, none⟩) (k + 1) c2) (k + 1) (((l.map fun s => ((d.idxOf s : Nat) : Int)).take (k + 1)).map (Value.int .i64))) := by
          show w2.ownsRow _ _ _ _ _ _
          rw [HTK.out, HCK.out, List.map_append]; exact ho2
        have HRUN := Lib.hid hr
        have HA3 := Lib.hid (HA2.out hxd)
        clear hr ho2 hg2 hf hxd hidl
        go_wp2_with (at_builtin; refine wpList_append_want (o := ⟨some 31, _, _, _, _, _⟩) _ rfl _ _ _ _ rfl _ _ rfl rfl _ _ HRUN.out ?_)
        go_roundw
        case rel => exact ⟨k + 1, g2, c2, by omega, by go_num, rfl, hc2, HO3, HB3, HD3, HA3⟩
        case measure => simp [intOf]; omega
      · have hf : fdS d x = -1 := by rw [HFD.out, if_neg hxd]
        rw [hf]
        have HNF := Lib.hid (HNO.out hxd)
        have p0 := HDW.out.c0
        have p1 := HDW.out.c1
        have f0 := HDW.out.f 0
        have f1 := HDW.out.f 1
        have plt := HDW.out.lt
        clear hf hxd hidl
        go_wp2
        exact bodyPost_ret (v := .agg #[.slice none 0 0, .int .i64 4]) (by simp [results, Try.results15, go_sem, p0, p1]) rfl (.lost HV.out HNF.out (below_two HB.out HRE.out _ _) rfl)
    · obtain rfl : k = len' := by omega
      have HALL : Hid (∀ s ∈ l, s ∈ d) := fun s hs => by
        obtain ⟨j, hj, e⟩ := List.getElem_of_mem hs
        have := HA.out j (by rw [HL'.out]; exact hj)
        rw [List.getElem?_eq_getElem hj] at this
        rw [← e]; exact this
      have HRR : Hid (Rd (fun b => R + 1 ≤ b) wr .i64 (some ⟨g, 0, none⟩) k c (l.map fun s => ((d.idxOf s : Nat) : Int))) := by
        have := HO.out
        rw [List.take_of_length_le (by rw [HCL.out]; exact Nat.le_refl _)] at this
        exact Rd.of_row HCL.out.symm hkc (by omega) this
      have p0 := HDW.out.c0
      have p1 := HDW.out.c1
      have f0 := HDW.out.f 0
      have f1 := HDW.out.f 1
      have plt := HDW.out.lt
      go_wp2
      refine bodyPost_ret (v := .agg #[.slice (some ⟨g, 0, none⟩) k c, .int .i64 0]) (by simp [results, Try.results15, go_sem, p0, p1]) rfl (.good HV.out HALL.out (below_two HB.out HRE.out _ _) rfl ?_ (z0_some _))
      exact ((HRR.out.set5 ⟨R, 0, none⟩ _ (fun h => by have h : R + 1 ≤ R := h; omega)).set5 ⟨R, 1, none⟩ _ (fun h => by have h : R + 1 ≤ R := h; omega)).mono fun _ _ _ => trivial

theorem codesR_any {K K' : Nat → Prop} {a a' : Option Addr} {len cap len' cap' : Nat} {d l : List (List UInt8)} {W : World} (hR : RdS K W a len cap d) (hR' : RdS K' W a' len' cap' l) :
    Calls Try.prog 15 #[.slice a len cap, .slice a' len' cap'] W (CdPost d l W) := by
  cases hv : vlB d with
  | false => exact codesR_bad hR hv a' len' cap'
  | true => exact codesR_good hR hR' hv

end Go.Proofs.Ytdcapmbgnoahpaa
