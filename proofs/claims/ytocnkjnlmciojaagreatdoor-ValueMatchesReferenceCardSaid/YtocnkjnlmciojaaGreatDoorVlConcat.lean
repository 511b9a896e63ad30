/-
  Two byte sequences, one behind the other, in new memory; a value's byte form behind other bytes.
-/
import Derived.Test.YtocnkjnlmciojaaGreatDoorVlForm
import Derived.Lib.AppendZeros
namespace Go.Proofs.YtocnkjnlmciojaaGreatDoor
open Go Go.RowKit Go.Shelf Go.ChangeShapes Go.WideShapes Go.ChangeAt

theorem rd_cells {w : World} {k : IntKind} {b off : Nat} {zs : List Int} (hc : ∀ j, j < zs.length → w.cell? ⟨b, off + j, none⟩ = some (.int k (zs[j]?.getD 0))) : ∀ j u, (zs.map (Value.int k))[j]? = some u → w.cell? ((⟨b, off, none⟩ : Addr).add j) = some u := by
  intro j u hu
  rw [List.getElem?_map] at hu
  cases hj : zs[j]? with
  | none => rw [hj] at hu; cases hu
  | some x =>
    rw [hj] at hu
    have hlt := (List.getElem?_eq_some_iff.1 hj).1
    have := hc j hlt
    rw [hj] at this
    rw [add_plain, this]
    exact hu

/-- A row of the call's own, and what reads as a list, appended to it. -/
theorem run_append_rd {P : Program} (w : World) (base : Nat) (t ty e : TypeId) (i : TypeInfo) (z : Value) (bytes : Nat) (k : IntKind) (ht : P.underlying t = some (.slice e)) (hi : P.info? e = some i) (hz : i.zero = some z)
    (hsize : i.size = 1) (hby : i.bytes = bytes) (hzs : z.cells.size = 1) (g0 n cap0 : Nat) (xs : List Int) (hown : w.ownsRow base e 1 (.slice (some ⟨g0, 0, none⟩) n cap0) n (xs.map (Value.int k)))
    {K : Nat → Prop} (a : Option Addr) (len cp : Nat) (zs : List Int) (hR : Rd K w k a len cp zs) (h63 : n + len ≤ maxLen) (hbytes : (n + len) * bytes ≤ 140737488355328) (hbase : base ≤ w.heap.size) :
    ∃ g cap w', (Builtin.append_ #[t, t] ty #[.slice (some ⟨g0, 0, none⟩) n cap0, .slice a len cp]).run P w = .ok (.slice (some ⟨g, 0, none⟩) (n + len) cap) w' ∧
      w'.ownsRow base e 1 (.slice (some ⟨g, 0, none⟩) (n + len) cap) (n + len) ((xs ++ zs).map (Value.int k)) ∧ Below base w w' ∧ n + len ≤ cap := by
  have hl := hR.hl
  have hbw : Below base w w := ⟨rfl, rfl, rfl, Nat.le_refl _, fun _ _ => rfl⟩
  by_cases h0 : 0 < len
  · obtain ⟨b, off, rfl, _, _, hc⟩ := hR.cells h0
    subst hl
    obtain ⟨v', w', hr, h1, h2, h3⟩ := run_append_own (P := P) w base t ty e i z 1 bytes ht hi hz hsize hby hzs (by decide) _ n _ hown ⟨b, off, none⟩ zs.length cp (zs.map (Value.int k)) (by simp)
      (rd_cells hc)
      (fun u hu => by obtain ⟨x, _, rfl⟩ := List.mem_map.1 hu; rfl) h63 hbytes hbase
    have hne : ¬ v' = .slice none 0 0 := fun e => by have := (h3.1 e).1; cases this
    obtain ⟨g, cap, rfl, hn, hb⟩ := row_form h1 hne
    exact ⟨g, cap, w', hr, by rw [List.map_append]; exact h1, hbw.grown h2 hbase (fun r e => by cases e; exact row_base hown), hn⟩
  · obtain rfl : len = 0 := by omega
    obtain rfl : zs = [] := List.eq_nil_of_length_eq_zero hl.symm
    obtain ⟨g, cap, e1, hn, hb⟩ := row_form hown (by simp)
    obtain ⟨rfl, rfl⟩ : g0 = g ∧ cap0 = cap := by cases e1; exact ⟨rfl, rfl⟩
    exact ⟨g0, cap0, w, run_append_empty w t ty e i ht hi _ n cap0 hn a cp, by simpa using hown, hbw, hn⟩

set_option maxRecDepth 100000 in
set_option maxHeartbeats 2000000 in
theorem grow_nil (n : Nat) (h0 : 0 < n) (hn : n ≤ 140737488355328) (w : World) : Calls Tryz.prog 134 #[.slice none 0 0, .int .i64 n] w fun e w' =>
    ∃ cap, e = .returned (.slice (some ⟨w.heap.size, 0, none⟩) 0 cap) ∧ cap ≤ 9223372036854775807 ∧ w'.ownsRow w.heap.size 5 1 (.slice (some ⟨w.heap.size, 0, none⟩) 0 cap) 0 [] ∧ Below w.heap.size w w' := by
  obtain ⟨i0, hi, hz0, hz1, hz2⟩ := info_parts Tryz.infoB
  have hr := Lib.run_append_nil_zeros (P := Tryz.prog) w 42 3 42 5 i0 (.int .u8 0) .i64 .i64 Tryz.underlying42 Tryz.underlying3 hi hz0 n h0 (by omega) (by omega) (by rw [hz2]; omega)
  have hge := grownCap_ge w n 0 5
  have hle := grownCap_le_maxLen w n 0 5 (by unfold maxLen; omega)
  generalize grownCap w n 0 5 = cap at *
  have hcm : cap ≤ 9223372036854775807 := by unfold maxLen at hle; omega
  have HO : Hid (World.ownsRow (w.drew.alloc (.cells (Builtin.zeroCells (Value.int .u8 0).cells n ++ Builtin.zeroCells (Value.int .u8 0).cells (cap - n)) 5)) w.heap.size 5 1 (.slice (some ⟨w.heap.size, 0, none⟩) 0 cap) 0 []) :=
    ⟨rfl, .inr ⟨w.heap.size, cap, _, rfl, Nat.le_refl _, World.alloc_heap_new w.drew _, Nat.zero_le _, hle, by simp [Builtin.zeroCells, Value.cells]; omega, rfl⟩⟩
  have HB : Hid (Below w.heap.size w (w.drew.alloc (.cells (Builtin.zeroCells (Value.int .u8 0).cells n ++ Builtin.zeroCells (Value.int .u8 0).cells (cap - n)) 5))) := (below_drewN (Below.self w) 1).alloc (Nat.le_refl _) _
  generalize w.drew.alloc (.cells (Builtin.zeroCells (Value.int .u8 0).cells n ++ Builtin.zeroCells (Value.int .u8 0).cells (cap - n)) 5) = V at *
  have HR := Lib.hid hr
  clear hr
  go_enter Tryz.func134, Tryz.ntmps134
  go_wp2_with (at_builtin; refine wpList_append_want (o := ⟨some 22, _, _, _, _, _⟩) _ rfl _ _ _ _ rfl _ _ rfl rfl _ _ HR.out ?_)
  go_ret
  exact ⟨cap, rfl, hcm, HO.out, HB.out⟩

/-- Two slices in a block of their own. -/
def Pair6 (W : World) (B : Nat) (t : TypeId) (a b : Value) : Prop := W.heap[B]? = some (.cells #[a, b] t (0, 0))
theorem Pair6.lt {W : World} {B : Nat} {t : TypeId} {a b : Value} (h : Pair6 W B t a b) : B < W.heap.size := (Array.getElem?_eq_some_iff.1 h).1
theorem Pair6.c0 {W : World} {B : Nat} {t : TypeId} {a b : Value} (h : Pair6 W B t a b) : W.cell? ⟨B, 0, none⟩ = some a := by simp [World.cell?, show W.heap[B]? = _ from h]
theorem Pair6.c1 {W : World} {B : Nat} {t : TypeId} {a b : Value} (h : Pair6 W B t a b) : W.cell? ⟨B, 1, none⟩ = some b := by simp [World.cell?, show W.heap[B]? = _ from h]
theorem Pair6.below {W V : World} {B n : Nat} {t : TypeId} {a b : Value} (h : Pair6 W B t a b) (hb : Below n W V) (hn : B < n) : Pair6 V B t a b := (hb.block B hn).trans h
theorem Pair6.new (W : World) (t : TypeId) (a b : Value) : Pair6 (W.alloc (.cells #[a, b] t)) W.heap.size t a b := World.alloc_heap_new W _

set_option maxRecDepth 100000 in
set_option maxHeartbeats 2000000 in
theorem concat_any {K1 K2 : Nat → Prop} {a1 a2 : Option Addr} {n1 c1 n2 c2 : Nat} {xs ys : List Int} {S : Nat} {t : TypeId} {w : World} (h1 : Rd K1 w .u8 a1 n1 c1 xs) (h2 : Rd K2 w .u8 a2 n2 c2 ys) (hS : Pair6 w S t (.slice a1 n1 c1) (.slice a2 n2 c2)) (h0 : 0 < n2) (hl : n1 + n2 ≤ 140737488340000) :
    Calls Tryz.prog 101 #[.slice (some ⟨S, 0, none⟩) 2 2] w fun e w' => Makes w e w' (xs ++ ys) := by
  obtain ⟨i0, hi, hz0, hz1, hz2⟩ := info_parts Tryz.infoB
  have H1 := Lib.hid h1
  have H2 := Lib.hid h2
  have HS := Lib.hid hS
  have c0 := hS.c0
  have c1' := hS.c1
  clear h1 h2 hS
  go_enter Tryz.func101, Tryz.ntmps101
  go_wp2
  go_loop [3, 11] (fun sz j => ∃ m : Nat, m ≤ 2 ∧ j = .int .i64 m ∧ sz = .int .i64 ((if m = 0 then 0 else if m = 1 then n1 else n1 + n2 : Nat) : Int)) (fun _ j => 2 - (intOf j).toNat)
  case atStart => exact ⟨0, by decide, rfl, rfl⟩
  case round =>
    obtain ⟨m, hm, rfl, rfl⟩ := hrel
    rcases (by omega : m = 0 ∨ m = 1 ∨ m = 2) with rfl | rfl | rfl
    · go_wp2
      go_round
      case rel => exact ⟨1, by decide, by go_num, by go_num⟩
      case measure => simp [intOf]
    · go_wp2
      go_round
      case rel => exact ⟨2, by decide, by go_num, by go_num⟩
      case measure => simp [intOf]
    · go_wp2_with fail
      obtain ⟨N, hN⟩ : ∃ N, n1 + n2 = N := ⟨_, rfl⟩
      rw [show ((n1 : Int) + (n2 : Int)) = (N : Int) by omega]
      have hN0 : 0 < N := by omega
      have hNm : N ≤ 140737488340000 := by omega
      have HN := Lib.hid hN
      clear hN
      refine (grow_nil N hN0 (by omega) w).mono ?_
      rintro e w1 ⟨cap, rfl, hcm, hrow, hb⟩
      have HB := Lib.hid hb
      have HRW := Lib.hid hrow
      have HSV := Lib.hid (HS.out.below hb HS.out.lt)
      clear hb hrow c0 c1'
      have c0 := HSV.out.c0
      have c1' := HSV.out.c1
      go_wp2
      go_loopw [6, 27] (fun v j wr => ∃ m : Nat, m ≤ 2 ∧ j = .int .i64 m ∧ ∃ g c : Nat, v = .slice (some ⟨g, 0, none⟩) (if m = 0 then 0 else if m = 1 then n1 else N) c ∧ Hid (wr.ownsRow w.heap.size 5 1 (.slice (some ⟨g, 0, none⟩) (if m = 0 then 0 else if m = 1 then n1 else N) c) (if m = 0 then 0 else if m = 1 then n1 else N) ((if m = 0 then [] else if m = 1 then xs else xs ++ ys).map (Value.int .u8))) ∧ Hid (Below w.heap.size w wr) ∧ (m = 2 → Hid (N ≤ c))) (fun _ j _ => 2 - (intOf j).toNat)
      case atStart => exact ⟨0, by decide, rfl, w.heap.size, cap, rfl, HRW.out, HB.out, fun h => absurd h (by decide)⟩
      case round =>
        obtain ⟨m, hm, rfl, g, c, rfl, HX, HBR, HCC⟩ := hrel
        have HSR := Lib.hid (HS.out.below HBR.out HS.out.lt)
        have d0 := HSR.out.c0
        have d1 := HSR.out.c1
        rcases (by omega : m = 0 ∨ m = 1 ∨ m = 2) with rfl | rfl | rfl
        · have hX : wr.ownsRow w.heap.size 5 1 (.slice (some ⟨g, 0, none⟩) 0 c) 0 ([].map (Value.int .u8)) := HX.out
          obtain ⟨g2, cp2, wX, hr, hX', hbX, hcX⟩ := run_append_rd wr w.heap.size 42 42 5 i0 _ 1 .u8 Tryz.underlying42 hi hz0 hz1 hz2 rfl g 0 c [] hX a1 n1 c1 xs (H1.out.below HBR.out) (by unfold maxLen; omega) (by omega) HBR.out.size
          rw [Nat.zero_add] at hr hX'
          rw [List.nil_append] at hX'
          have HR := Lib.hid hr
          have HX2 := Lib.hid hX'
          have HB2 : Hid (Below w.heap.size w wX) := HBR.out.trans hbX
          clear hr hX' hbX hX HCC
          simp only [if_true] at *
          go_wp2_with (at_builtin; refine wpList_append_want (o := ⟨some 33, _, _, _, _, _⟩) _ rfl _ _ _ _ rfl _ _ rfl rfl _ _ HR.out ?_)
          go_roundw
          case rel => exact ⟨1, by decide, by go_num, g2, cp2, rfl, HX2.out, HB2.out, fun h => absurd h (by decide)⟩
          case measure => simp [intOf]
        · have hX : wr.ownsRow w.heap.size 5 1 (.slice (some ⟨g, 0, none⟩) n1 c) n1 (xs.map (Value.int .u8)) := HX.out
          obtain ⟨g2, cp2, wX, hr, hX', hbX, hcX⟩ := run_append_rd wr w.heap.size 42 42 5 i0 _ 1 .u8 Tryz.underlying42 hi hz0 hz1 hz2 rfl g n1 c xs hX a2 n2 c2 ys (H2.out.below HBR.out) (by unfold maxLen; omega) (by omega) HBR.out.size
          rw [HN.out] at hr hX' hcX
          have HR := Lib.hid hr
          have HX2 := Lib.hid hX'
          have HC2 := Lib.hid hcX
          have HB2 : Hid (Below w.heap.size w wX) := HBR.out.trans hbX
          clear hr hX' hbX hX HCC hcX
          simp only [Nat.one_ne_zero, if_false, if_true] at *
          go_wp2_with (at_builtin; refine wpList_append_want (o := ⟨some 33, _, _, _, _, _⟩) _ rfl _ _ _ _ rfl _ _ rfl rfl _ _ HR.out ?_)
          go_roundw
          case rel => exact ⟨2, by decide, by go_num, g2, cp2, rfl, HX2.out, HB2.out, fun _ => HC2.out⟩
          case measure => simp [intOf]
        · have hX : wr.ownsRow w.heap.size 5 1 (.slice (some ⟨g, 0, none⟩) N c) N ((xs ++ ys).map (Value.int .u8)) := HX.out
          have hC := (HCC rfl).out
          have hNl : N = (xs ++ ys).length := by rw [List.length_append, ← H1.out.hl, ← H2.out.hl]; exact HN.out.symm
          have HX3 := Lib.hid hX
          have HC3 := Lib.hid hC
          have HN3 := Lib.hid hNl
          clear hX hC hNl HCC HX
          go_wp2
          go_ret
          refine ⟨g, c, ?_, ?_, ?_, HBR.out⟩
          · rw [← HN3.out]; rfl
          · rw [← HN3.out]; exact HC3.out
          · rw [← HN3.out]; exact HX3.out

theorem append_any {K : Nat → Prop} {a : Option Addr} {n c : Nat} {bs : List Int} (v : Vl) (hv : v.Ok) (hw : widV v = true) {w : World} (hR : Rd K w .u8 a n c bs) (hn : n ≤ 1000000000000) :
    Calls Tryz.prog 41 #[.slice a n c, encV v] w fun e w' => Makes w e w' (bs ++ bytesV v) := by
  have HA : Hid (∀ W : World, Calls Tryz.prog 102 #[encV v] W fun e w' => Makes W e w' (bytesV v)) := fun W => byteForm_any v hv hw W
  have HR := Lib.hid hR
  have hbl : (bytesV v).length ≤ 1048588 ∧ 0 < (bytesV v).length := by
    unfold bytesV
    have h1 := var_len (u := v.s.length) (by have := hv.s; omega)
    have h2 := strI_len v.s
    have h3 := hv.s
    have h4 := zz_u64 hv.i
    have h5 := var_len (u := (zz v.i).toNat) (by have := h4.1; have := h4.2; omega)
    split
    · simp
    · split
      · simp; omega
      · split
        · simp; omega
        · simp
  clear hR
  obtain ⟨k, i, s⟩ := v
  generalize bytesV ⟨k, i, s⟩ = bv at *
  unfold encV at HA ⊢
  dsimp only at HA ⊢
  clear hv hw
  have HB0 := Lib.hid ((Below.refl w.heap.size w).alloc (Nat.le_refl _) (.cells #[.int .i64 k, .int .i64 i, .string (bsOf s)] 45))
  go_enter Tryz.func41, Tryz.ntmps41
  go_wp2_with fail
  generalize w.alloc (.cells #[.int .i64 k, .int .i64 i, .string (bsOf s)] 45) = V at *
  refine (HA.out V).mono ?_
  rintro e w1 ⟨g, cg, rfl, hfit, hrow, hb⟩
  obtain ⟨m, hm⟩ : ∃ m, bv.length = m := ⟨_, rfl⟩
  rw [hm] at hbl hfit hrow ⊢
  have HB1 : Hid (Below w.heap.size w w1) := HB0.out.trans (hb.mono HB0.out.size)
  have hR1 : Rd K w1 .u8 a n c bs := HR.out.below HB1.out
  have hR2 : Rd (fun b => V.heap.size ≤ b) w1 .u8 (some ⟨g, 0, none⟩) m cg bv := Rd.of_row hm.symm hfit (by omega) hrow
  have hbA : Below w1.heap.size w1 (w1.alloc (.cells #[.slice a n c, .slice (some ⟨g, 0, none⟩) m cg] 42)) := (Below.self w1).alloc (Nat.le_refl _) _
  have HP := Lib.hid (Pair6.new w1 42 (.slice a n c) (.slice (some ⟨g, 0, none⟩) m cg))
  have HRa := Lib.hid (hR1.below hbA)
  have HRb := Lib.hid (hR2.below hbA)
  have HB2 : Hid (Below w.heap.size w (w1.alloc (.cells #[.slice a n c, .slice (some ⟨g, 0, none⟩) m cg] 42))) := HB1.out.trans (hbA.mono HB1.out.size)
  clear hR1 hR2 hbA hb hrow HB1 HB0 hfit
  go_wp2_with fail
  refine (concat_any HRa.out HRb.out HP.out (by omega) (by omega)).mono ?_
  rintro e w2 ⟨g2, c2, rfl, hfit, hrow, hb⟩
  obtain ⟨L, hL⟩ : ∃ L, (bs ++ bv).length = L := ⟨_, rfl⟩
  rw [hL] at hfit hrow ⊢
  have HL := Lib.hid hL
  clear hL
  have HB3 : Hid (Below w.heap.size w w2) := HB2.out.trans (hb.mono HB2.out.size)
  have HRR := Lib.hid (hrow.mono HB2.out.size)
  have HF := Lib.hid hfit
  clear hb hrow hfit
  go_wp2
  go_ret
  exact ⟨g2, c2, by rw [HL.out]; rfl, by rw [HL.out]; exact HF.out, by rw [HL.out]; exact HRR.out, HB3.out⟩

end Go.Proofs.YtocnkjnlmciojaaGreatDoor
