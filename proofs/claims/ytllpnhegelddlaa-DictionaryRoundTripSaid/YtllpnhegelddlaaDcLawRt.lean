/-
  A dictionary that was packed is unpacked as itself, with whatever bytes follow: for all arguments the law returns true and changes nothing. No condition.
-/
import Derived.Test.YtllpnhegelddlaaDcEx
import Derived.Test.YtllpnhegelddlaaDcWords
namespace Go.Proofs.Ytllpnhegelddlaa.dictionaryRoundTrip
open Go Go.ChangeShapes Go.WideShapes Go.ChangeAt Go.RowKit
open Go.Proofs.Ytllpnhegelddlaa

theorem own_none (W : World) (t : TypeId) (base : Nat) (hb : base ≤ W.heap.size) : (W.alloc (.cells #[] t)).ownsRow base t 1 (.slice (some ⟨W.heap.size, 0, none⟩) 0 0) 0 [] :=
  ⟨rfl, .inr ⟨W.heap.size, 0, #[], rfl, hb, World.alloc_heap_new W _, Nat.le_refl _, by unfold maxLen; omega, rfl, rfl⟩⟩

set_option maxRecDepth 100000 in
set_option maxHeartbeats 4000000 in
theorem walk {K1 K2 : Nat → Prop} {a1 a2 : Option Addr} {n1 c1 n2 c2 : Nat} {xs ys : List Int} (ho1 : Oct xs) (ho2 : Oct ys) (h100 : n2 ≤ 100) (w : World) (hR1 : RdL K1 w .u8 a1 n1 c1 xs) (hR2 : Rd K2 w .u8 a2 n2 c2 ys) :
    Calls Try.prog 4 #[.slice a1 n1 c1, .slice a2 n2 c2] w fun e w' => e = .returned (.bool true) ∧ Below w.heap.size w w' := by
  obtain ⟨i0, hi, hz0, hz1, hz2⟩ := info_parts Try.infoB
  have H1 := Lib.hid hR1
  have H2 := Lib.hid hR2
  clear hR1 hR2
  go_enter Try.func4, Try.ntmps4
  go_wp2_with fail
  refine (examples5_any _).mono ?_
  rintro e w1 ⟨rfl, hb1⟩
  have HB1 := Lib.hid hb1
  clear hb1
  go_wp2_with fail
  refine (words_any ho1 (H1.out.below HB1.out)).mono ?_
  rintro e w2 ⟨gw, nw, cw, rfl, hw, _, hb⟩
  have HW2 := Lib.hid hw
  have HB2 : Hid (Below w.heap.size w w2) := HB1.out.trans (hb.mono HB1.out.size)
  clear hw hb HB1
  go_wp2_with fail
  refine (of_any HW2.out).mono ?_
  rintro e w3 ⟨ad, nd, cd, rfl, hd, hb⟩
  have HD3 := Lib.hid hd
  have HB3 : Hid (Below w.heap.size w w3) := HB2.out.trans (hb.mono HB2.out.size)
  clear hd hb HB2 HW2
  go_wp2_with fail
  refine (packedW_good HD3.out (words_vl xs)).mono ?_
  rintro e w4 ⟨gp, np, cp, rfl, hp, hb⟩
  have HV := Lib.hid (words_vl xs)
  have hpl := pk_len (words_vl xs)
  rw [← hp.hl] at hpl
  have hnp := hpl.2
  have HB4 : Hid (Below w.heap.size w w4) := HB3.out.trans (hb.mono HB3.out.size)
  have HD4 := Lib.hid (HD3.out.below hb)
  have HP4 := Lib.hid hp
  clear hp hb HB3 HD3 hpl
  -- what is laid ahead of the appends
  have hbA : Below w4.heap.size w4 (w4.alloc (.cells #[.slice (some ⟨gp, 0, none⟩) np cp, .int .i64 0] 41)) := (Below.refl _ _).alloc (Nat.le_refl _) _
  have hbB : Below w4.heap.size w4 ((w4.alloc (.cells #[.slice (some ⟨gp, 0, none⟩) np cp, .int .i64 0] 41)).alloc (.cells #[] 5)) := hbA.alloc (by simp) _
  have hz5 : (w4.alloc (.cells #[.slice (some ⟨gp, 0, none⟩) np cp, .int .i64 0] 41)).heap.size = w4.heap.size + 1 := by simp
  have hown0 := own_none (w4.alloc (.cells #[.slice (some ⟨gp, 0, none⟩) np cp, .int .i64 0] 41)) 5 (w4.heap.size + 1) (by omega)
  rw [hz5] at hown0
  obtain ⟨gA, cA, wA, hrA, hoA, hgA, hcA, hbaseA⟩ := run_append_copy' (P := Try.prog) _ (w4.heap.size + 1) 22 22 5 i0 _ 1 .u8 Try.underlying22 hi hz0 hz1 hz2 (by rfl) _ 0 hown0 (.slice (some ⟨gp, 0, none⟩) np cp) _ np HP4.out.hl (HP4.out.below hbB).reads (by unfold maxLen; omega) (by omega) (by simp)
  have hbA4 : Below w4.heap.size w4 wA := hbB.grown hgA hbB.size (fun r e => by cases e; omega)
  have hR2A := (H2.out.below HB4.out).below hbA4
  obtain ⟨gB, cB, wB, hrB, hoB, hgB, hcB, hbaseB⟩ := run_append_reads5 (P := Try.prog) wA (w4.heap.size + 1) 22 22 5 i0 _ 1 .u8 Try.underlying22 hi hz0 hz1 hz2 (by rfl) gA np cA _ hoA (.slice a2 n2 c2) _ n2 H2.out.hl hR2A.reads (by unfold maxLen; omega) (by omega) (by have := hbA4.size; have := hgA.size; simp at this; omega)
  have hbB4 : Below w4.heap.size w4 wB := hbA4.grown hgB hbA4.size (fun r e => by cases e; omega)
  have HRA := Lib.hid hrA
  have HRB := Lib.hid hrB
  have HOB := Lib.hid hoB
  have HBB4 := Lib.hid hbB4
  have HBB : Hid (Below w.heap.size w wB) := HB4.out.trans (hbB4.mono HB4.out.size)
  have hRall : Rd (fun b => w4.heap.size + 1 ≤ b) wB .u8 (some ⟨gB, 0, none⟩) (np + n2) cB (pkD (ofS (wordsD xs)) ++ ys) := by
    have := hoB
    rw [← List.map_append] at this
    exact Rd.of_row (by rw [List.length_append, ← HP4.out.hl, ← H2.out.hl]) hcB (by omega) this
  have HALL := Lib.hid hRall
  clear hbA hbB hz5 hown0 hrA hoA hgA hcA hbA4 hR2A hrB hoB hgB hcB hbB4 hRall
  go_wp2_with (first
    | (at_builtin; refine wpList_append_want (o := ⟨some 29, _, _, _, _, _⟩) _ rfl _ _ _ _ rfl _ _ rfl rfl _ _ HRA.out ?_)
    | (at_builtin; refine wpList_append_want (o := ⟨some 31, _, _, _, _, _⟩) _ rfl _ _ _ _ rfl _ _ rfl rfl _ _ HRB.out ?_)
    )
  refine (unpackedW_good ((pk_oct _).append ho2) HALL.out (un_pk HV.out ys)).mono ?_
  rintro e w7 ⟨hb, a5, n5, c5, a6, m6, rfl, hd, hr⟩
  have HB7 : Hid (Below w.heap.size w w7) := HBB.out.trans (hb.mono HBB.out.size)
  have HG7 := Lib.hid hd
  have HR7 : Hid (Rd (fun b => w4.heap.size + 1 ≤ b) w7 .u8 a6 m6 m6 ys) := by
    have := hr.below hb
    rw [List.drop_left] at this
    exact Lib.hid this
  have HD7 := Lib.hid ((HD4.out.below HBB4.out).below hb)
  have HS7 := Lib.hid (H2.out.below HB7.out)
  clear hb hd hr HRA HRB
  go_wp2_with fail
  refine (equalD_any 0 0 HG7.out HR7.out HD7.out HS7.out).mono ?_
  rintro e w8 ⟨rfl, hb⟩
  rw [sameS_true rfl, sameB_true rfl]
  have HB8 : Hid (Below w.heap.size w w8) := HB7.out.trans (hb.mono HB7.out.size)
  clear hb
  go_wp2
  go_ret
  exact ⟨rfl, HB8.out⟩

end Go.Proofs.Ytllpnhegelddlaa.dictionaryRoundTrip
