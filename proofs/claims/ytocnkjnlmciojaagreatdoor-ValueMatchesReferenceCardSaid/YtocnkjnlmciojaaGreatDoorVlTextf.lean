/-
  The text form of a value.
-/
import Derived.Test.YtocnkjnlmciojaaGreatDoorVlBase
import Derived.Laws.BytesArg
import Derived.Test.YtocnkjnlmciojaaGreatDoorVlWide
namespace Go.Proofs.YtocnkjnlmciojaaGreatDoor
open Go Go.RowKit Go.Shelf Go.ChangeShapes Go.WideShapes Go.ChangeAt

/-- A byte, with a backslash ahead of it where it wants one. -/
def quC (c : UInt8) : List UInt8 := if c = 34 ∨ c = 92 then [92, c] else [c]
def quB (s : List UInt8) : List UInt8 := s.flatMap quC
def quoteL (s : List UInt8) : List UInt8 := 34 :: (quB s ++ [34])

theorem quB_snoc (s : List UInt8) (c : UInt8) : quB (s ++ [c]) = quB s ++ quC c := by unfold quB; simp [List.flatMap_append]
theorem take_snoc8 (s : List UInt8) (k : Nat) (hk : k < s.length) : s.take (k + 1) = s.take k ++ [s[k]?.getD 0] := by
  rw [List.take_add_one, List.getElem?_eq_getElem hk]; rfl
theorem quB_len (s : List UInt8) : (quB s).length ≤ 2 * s.length := by
  unfold quB
  induction s with
  | nil => simp
  | cons c r ih =>
    rw [List.flatMap_cons, List.length_append, List.length_cons]
    have : (quC c).length ≤ 2 := by unfold quC; split <;> simp
    omega
/-- The bytes as integers. -/
def quI (s : List UInt8) (k : Nat) : List Int := 34 :: strI (quB (s.take k))
theorem quI_zero (s : List UInt8) : quI s 0 = [34] := by unfold quI; simp [quB, strI]
theorem quI_len (s : List UInt8) (k : Nat) : (quI s k).length ≤ 1 + 2 * k := by
  unfold quI
  rw [List.length_cons, strI_len]
  have h1 := quB_len (s.take k)
  have h2 : (s.take k).length ≤ k := List.length_take_le ..
  omega
theorem strI_append (a b : List UInt8) : strI (a ++ b) = strI a ++ strI b := List.map_append
theorem quI_one {s : List UInt8} {k : Nat} (hk : k < s.length) (h : ¬ (s[k]?.getD 0 = 34 ∨ s[k]?.getD 0 = 92)) : quI s (k + 1) = quI s k ++ [((s[k]?.getD 0).toNat : Int)] := by
  unfold quI
  rw [take_snoc8 s k hk, quB_snoc, strI_append, quC, if_neg h]; rfl
theorem quI_two {s : List UInt8} {k : Nat} (hk : k < s.length) (h : s[k]?.getD 0 = 34 ∨ s[k]?.getD 0 = 92) : quI s (k + 1) = quI s k ++ [92] ++ [((s[k]?.getD 0).toNat : Int)] := by
  unfold quI
  rw [take_snoc8 s k hk, quB_snoc, strI_append, quC, if_pos h]; simp [strI]
theorem quI_end (s : List UInt8) : strU (quI s s.length ++ [34]) = quoteL s := by
  unfold quI quoteL
  rw [List.take_length, List.cons_append]
  show strU (34 :: (strI (quB s) ++ strI [34])) = _
  rw [← strI_append]
  show _ :: strU (strI (quB s ++ [34])) = _
  rw [strU_strI]; rfl
theorem byte_nat (c : UInt8) (n : Nat) (h : n < 256) : c = UInt8.ofNat n ↔ c.toNat = n := by
  constructor
  · intro e; subst e; simp; omega
  · intro e; exact UInt8.toNat_inj.1 (by simp; omega)

/-- Bytes that read, as a string. -/
theorem conv_back {K : Nat → Prop} {W : World} {a : Option Addr} {n c : Nat} {zs : List Int} (hR : Rd K W .u8 a n c zs) (W' : World) (hW : W'.heap = W.heap) :
    (convert 42 9 (.slice a n c)).run Tryz.prog W' = .ok (.string (bsOf (strU zs))) W' := by
  have hl := hR.hl
  by_cases h0 : 0 < n
  · obtain ⟨b, off, rfl, _, hlt, hc⟩ := hR.cells h0
    exact run_convert_bytes_arg W' 42 5 Tryz.underlying42 Tryz.underlying5 b off n c zs hl.symm (fun i hi => by
      rw [World.cell?_of_block (w := W) (by rw [hW]), hc i hi, List.getD_eq_getElem?_getD]) _ Tryz.underlying9
  · obtain rfl : n = 0 := by omega
    obtain rfl : zs = [] := List.eq_nil_of_length_eq_zero hl.symm
    rw [run_convert_bytes_string W' 42 9 5 _ 0 c Tryz.underlying42 Tryz.underlying5 Tryz.underlying9]
    cases a <;> simp [Conv.bytesToString, loadCells]
    all_goals rfl

set_option maxRecDepth 100000 in
set_option maxHeartbeats 2000000 in
theorem quoted_any (s : List UInt8) (hs : s.length ≤ 1048576) (w : World) : Calls Tryz.prog 100 #[.string (bsOf s)] w fun e w' => e = .returned (.string (bsOf (quoteL s))) ∧ Below w.heap.size w w' := by
  obtain ⟨i0, hi, hz0, hz1, hz2⟩ := info_parts Tryz.infoB
  have hz := bs_size s
  have hb0 : Below w.heap.size w (w.alloc (.cells #[.int .u8 34] 5)) := (Below.self w).alloc (Nat.le_refl _) _
  obtain ⟨V, cap, kc, hcap, hcm, hb, hsz, hc⟩ := conv_str s hs (w.alloc (.cells #[.int .u8 34] 5))
  have HB : Hid (Below w.heap.size w V) := hb0.trans (hb.mono hb0.size)
  have HT0 : Hid (Tail V.heap.size 5 .u8 V (.slice (some ⟨w.heap.size, 0, none⟩) 1 1) [34]) := by
    refine .inr (.inl ⟨w.heap.size, 0, rfl, by rw [hsz]; simp; omega, fun j hj => ?_⟩)
    obtain rfl : j = 0 := by simpa using hj
    exact (hb.cell (p := ⟨w.heap.size, 0 + 0, none⟩) (by simp)).trans (one_cell w .u8 34 5 0 (by decide))
  have HC := Lib.hid hc
  have HE := Lib.hid (quI_end s)
  clear hb hc hb0
  obtain ⟨len, hlen⟩ : ∃ len, s.length = len := ⟨_, rfl⟩
  have HLen := Lib.hid hlen
  rw [hlen] at kc hz hcap hs HC HE
  clear hlen
  rw [World.size_alloc] at kc HC
  have hVs : w.heap.size + 1 < V.heap.size := by rw [hsz]; simp
  go_enter Tryz.func100, Tryz.ntmps100
  go_wp2
  go_loopw [3, 10] (fun v i wr => ∃ k : Nat, k ≤ len ∧ i = .int .i64 k ∧ Hid (Tail V.heap.size 5 .u8 wr v (quI s k)) ∧ Hid (Below V.heap.size V wr)) (fun _ i _ => len - (intOf i).toNat)
  case atStart => exact ⟨0, Nat.zero_le _, rfl, by show Tail _ _ _ _ _ _; rw [quI_zero]; exact HT0.out, Below.self V⟩
  case round =>
    obtain ⟨k, hk, rfl, HX, HBR⟩ := hrel
    have hyl := quI_len s k
    by_cases hlt : k < len
    · have hcx := (HBR.out.cell (p := ⟨w.heap.size + 1, k, none⟩) hVs).trans (HC.out k hlt)
      have H1 := Lib.hid (@quI_one s k (by rw [HLen.out]; exact hlt))
      have H2 := Lib.hid (@quI_two s k (by rw [HLen.out]; exact hlt))
      have h34 := byte_nat (s[k]?.getD 0) 34 (by decide)
      have h92 := byte_nat (s[k]?.getD 0) 92 (by decide)
      by_cases hq : s[k]?.getD 0 = 34 ∨ s[k]?.getD 0 = 92
      · have HE2 := Lib.hid (H2.out hq)
        have hq2 : (s[k]?.getD 0).toNat = 34 ∨ (s[k]?.getD 0).toNat = 92 := hq.imp h34.1 h92.1
        clear H1 H2 h34 h92 hq
        generalize (s[k]?.getD 0).toNat = c at *
        obtain ⟨g, cp, wX, hr, hX', hbX, hcX⟩ := tail_append wr V.heap.size 42 42 5 i0 _ 1 .u8 Tryz.underlying42 hi hz0 hz1 hz2 rfl _ (quI s k) HX.out 92 5 (by unfold maxLen; omega) (by omega) HBR.out.size
        have hT2 : Tail V.heap.size 5 .u8 wX (.slice (some ⟨g, 0, none⟩) ((quI s k).length + 1) cp) (quI s k ++ [92]) := Tail.row (by simp) hX'
        have hBX : Below V.heap.size V wX := HBR.out.trans hbX
        obtain ⟨g2, cp2, wY, hr2, hY', hbY, hcY⟩ := tail_append wX V.heap.size 42 42 5 i0 _ 1 .u8 Tryz.underlying42 hi hz0 hz1 hz2 rfl _ (quI s k ++ [92]) hT2 (c : Int) 5 (by simp; unfold maxLen; omega) (by simp; omega) hBX.size
        have HBY : Hid (Below V.heap.size V wY) := hBX.trans hbY
        rw [← HE2.out] at hY'
        have hl2 : (quI s k ++ [92]).length + 1 = (quI s (k + 1)).length := by rw [HE2.out]; simp
        rw [hl2] at hr2 hY'
        have HTY : Hid (Tail V.heap.size 5 .u8 wY (.slice (some ⟨g2, 0, none⟩) (quI s (k + 1)).length cp2) (quI s (k + 1))) := Tail.row rfl hY'
        have HR1 := Lib.hid hr
        have HR2 := Lib.hid hr2
        clear hr hr2 hX' hbX hcX hT2 hBX hY' hbY hcY hl2 hyl
        rcases hq2 with rfl | rfl
        all_goals
          go_wp2_with (at_builtin; first
            | (refine wpList_append_want (o := ⟨some 22, _, _, _, _, _⟩) _ rfl _ _ _ _ rfl _ _ rfl rfl _ _ HR1.out ?_)
            | (refine wpList_append_want (o := ⟨some 26, _, _, _, _, _⟩) _ rfl _ _ _ _ rfl _ _ rfl rfl _ _ HR2.out ?_))
          go_roundw
          case rel => exact ⟨k + 1, by omega, by go_num, HTY, HBY⟩
          case measure => simp [intOf]; omega
      · have HE2 := Lib.hid (H1.out hq)
        have hq1 : ¬ (s[k]?.getD 0).toNat = 34 := fun h => hq (.inl (h34.2 h))
        have hq2 : ¬ (s[k]?.getD 0).toNat = 92 := fun h => hq (.inr (h92.2 h))
        clear H1 H2 h34 h92 hq
        generalize (s[k]?.getD 0).toNat = c at *
        have e1 : ((c : Int) == 34) = false := by rw [beq_eq_false_iff_ne]; omega
        have e2 : ((c : Int) == 92) = false := by rw [beq_eq_false_iff_ne]; omega
        obtain ⟨g, cp, wX, hr, hX', hbX, hcX⟩ := tail_append wr V.heap.size 42 42 5 i0 _ 1 .u8 Tryz.underlying42 hi hz0 hz1 hz2 rfl _ (quI s k) HX.out (c : Int) 5 (by unfold maxLen; omega) (by omega) HBR.out.size
        have HBX : Hid (Below V.heap.size V wX) := HBR.out.trans hbX
        rw [← HE2.out] at hX'
        have hl2 : (quI s k).length + 1 = (quI s (k + 1)).length := by rw [HE2.out]; simp
        rw [hl2] at hr hX'
        have HTX : Hid (Tail V.heap.size 5 .u8 wX (.slice (some ⟨g, 0, none⟩) (quI s (k + 1)).length cp) (quI s (k + 1))) := Tail.row rfl hX'
        have HR1 := Lib.hid hr
        clear hr hX' hbX hcX hl2 hyl
        go_wp2_with (at_builtin; refine wpList_append_want (o := ⟨some 26, _, _, _, _, _⟩) _ rfl _ _ _ _ rfl _ _ rfl rfl _ _ HR1.out ?_)
        go_roundw
        case rel => exact ⟨k + 1, by omega, by go_num, HTX, HBX⟩
        case measure => simp [intOf]; omega
    · obtain rfl : k = len := by omega
      obtain ⟨g, cp, wX, hr, hX', hbX, hcX⟩ := tail_append wr V.heap.size 42 42 5 i0 _ 1 .u8 Tryz.underlying42 hi hz0 hz1 hz2 rfl _ (quI s k) HX.out 34 5 (by unfold maxLen; omega) (by omega) HBR.out.size
      have HBX : Hid (Below w.heap.size w wX) := HB.out.trans ((HBR.out.trans hbX).mono HB.out.size)
      have hcv := conv_back (Rd.of_row (by simp) hcX (by omega) hX') wX rfl
      rw [HE.out] at hcv
      have HR1 := Lib.hid hr
      clear hr hX' hbX hcX hyl
      go_wp2_with (at_builtin; refine wpList_append_want (o := ⟨some 30, _, _, _, _, _⟩) _ rfl _ _ _ _ rfl _ _ rfl rfl _ _ HR1.out ?_)
      go_ret
      exact ⟨rfl, HBX.out⟩

end Go.Proofs.YtocnkjnlmciojaaGreatDoor

namespace Go.Proofs.YtocnkjnlmciojaaGreatDoor
open Go Go.RowKit Go.Shelf Go.ChangeShapes Go.WideShapes Go.ChangeAt

def nullL : List UInt8 := [110, 117, 108, 108]
def trueL : List UInt8 := [116, 114, 117, 101]
def falseL : List UInt8 := [102, 97, 108, 115, 101]
def boolL (b : Bool) : List UInt8 := if b then trueL else falseL
def textV (v : Vl) : List UInt8 :=
  if widV v = false then [] else if v.k = 1 then boolL (decide (v.i = 1)) else if v.k = 2 then De.textL v.i else if v.k = 3 then quoteL v.s else nullL

theorem wid_parts {v : Vl} (h : widV v = true) : (v.k = 0 ∧ v.i = 0 ∧ v.s = []) ∨ (v.k = 1 ∧ (v.i = 0 ∨ v.i = 1) ∧ v.s = []) ∨ (v.k = 2 ∧ v.s = []) ∨ (v.k = 3 ∧ v.i = 0 ∧ txtB v.s = true) := by
  obtain ⟨k, i, s⟩ := v
  by_cases h0 : k = 0
  · subst h0
    rw [wid_k _ _ (by decide), vld0] at h
    exact .inl ⟨rfl, of_decide_eq_true h⟩
  · by_cases h1 : k = 1
    · subst h1
      rw [wid_k _ _ (by decide), vld1] at h
      exact .inr (.inl ⟨rfl, of_decide_eq_true h⟩)
    · by_cases h2 : k = 2
      · subst h2
        rw [wid_2] at h
        refine .inr (.inr (.inl ⟨rfl, ?_⟩))
        simp at h
        exact h.1
      · by_cases h3 : k = 3
        · subst h3
          rw [wid_k _ _ (by decide), vld3] at h
          simp at h
          exact .inr (.inr (.inr ⟨rfl, h⟩))
        · rw [wid_k _ _ h2, vld9 i s h0 h1 h2 h3] at h
          cases h

theorem formatBool_any (b : Bool) (w : World) : Calls Tryz.prog 99 #[.bool b] w fun e w' => e = .returned (.string (bsOf (boolL b))) ∧ Below w.heap.size w w' :=
  (Tryz.strconv_FormatBool b w).mono fun e w' ⟨he, hw⟩ => by
    refine ⟨?_, by rw [hw]; exact Below.self w⟩
    rw [he]
    cases b <;> rfl

set_option maxRecDepth 100000 in
set_option maxHeartbeats 1000000 in
theorem text_any (v : Vl) (hv : v.Ok) (w : World) (hV : De.Vars w) : Calls Tryz.prog 38 #[encV v] w fun e w' => e = .returned (.string (bsOf (textV v))) ∧ Below w.heap.size w w' := by
  have HA : Hid (∀ W : World, Calls Tryz.prog 32 #[encV v] W fun e w' => e = .returned (.bool (widV v)) ∧ Below W.heap.size W w') := fun W => wide_any v hv W
  have HP := Lib.hid (@wid_parts v)
  have HTX : Hid (∀ z, z = textV v → Ending.returned (.string (bsOf z)) = .returned (.string (bsOf (textV v)))) := fun z h => by rw [h]
  have HTV : Hid (textV v = if widV v = false then [] else if v.k = 1 then boolL (decide (v.i = 1)) else if v.k = 2 then De.textL v.i else if v.k = 3 then quoteL v.s else nullL) := rfl
  generalize textV v = tv at *
  generalize widV v = bv at *
  obtain ⟨k, i, s⟩ := v
  have hi : I64 i := hv.i
  have hs : s.length ≤ 1048576 := hv.s
  clear hv
  unfold encV at HA ⊢
  dsimp only at HA HP HTV ⊢
  have HT := Lib.hid (Trio.new w 45 (.int .i64 k) (.int .i64 i) (.string (bsOf s)))
  have HB0 := Lib.hid ((Below.refl w.heap.size w).alloc (Nat.le_refl _) (.cells #[.int .i64 k, .int .i64 i, .string (bsOf s)] 45))
  have HVA := Lib.hid hV
  clear hV
  go_enter Tryz.func38, Tryz.ntmps38
  go_wp2_with fail
  obtain ⟨B, hB⟩ : ∃ B, w.heap.size = B := ⟨_, rfl⟩
  rw [hB] at HT ⊢
  have HZ := Lib.hid hB
  clear hB
  generalize w.alloc (.cells #[.int .i64 k, .int .i64 i, .string (bsOf s)] 45) = V at *
  rw [← HZ.out]
  refine (HA.out _).mono ?_
  rintro e w1 ⟨rfl, hb⟩
  have HB1 : Hid (Below w.heap.size w w1) := HB0.out.trans (hb.mono HB0.out.size)
  have ht1 := HT.out.below hb HT.out.lt
  have HW1 := Lib.hid (HVA.out.below HB1.out)
  clear hb HB0 HT HVA
  have HT := Lib.hid ht1
  rw [HZ.out]
  have c0 := ht1.c0
  have c1 := ht1.c1
  have c2 := ht1.c2
  clear ht1
  cases bv with
  | false =>
    have HR := HTX.out [] (by rw [HTV.out]; rfl)
    go_wp2
    go_ret
    exact ⟨HR, HB1.out⟩
  | true =>
    rcases HP.out rfl with ⟨rfl, rfl, rfl⟩ | ⟨rfl, h1, rfl⟩ | ⟨rfl, rfl⟩ | ⟨rfl, rfl, _⟩
    · have HR := HTX.out nullL (by rw [HTV.out]; rfl)
      go_wp2
      go_ret
      exact ⟨HR, HB1.out⟩
    · have hbl := bs_list []
      have hb0 : (⟨#[]⟩ : ByteArray).toList = [] := bs_list []
      have HCB : Hid (∀ (n : Int) (W : World), Calls Tryz.prog 85 #[.int .i64 n] W fun e w' => e = .returned (.agg #[.int .i64 1, .int .i64 n, .string ⟨#[]⟩]) ∧ Below W.heap.size W w') := fun n W => bool_any n W
      have HCF : Hid (∀ (b : Bool) (W : World), Calls Tryz.prog 99 #[.bool b] W fun e w' => e = .returned (.string (bsOf (boolL b))) ∧ Below W.heap.size W w') := fun b W => formatBool_any b W
      have HR := Lib.hid (HTX.out (boolL (decide (i = 1))) (by rw [HTV.out]; rfl))
      clear HA HP HTX HTV
      go_upto_region 5 with fail
      clear c0 c1 c2
      have K0 := fun d os => cell_regrown HT.out.c0 d os
      have K1 := fun d os => cell_regrown HT.out.c1 d os
      have K2 := fun d os => cell_regrown HT.out.c2 d os
      rcases h1 with rfl | rfl
      all_goals
        refine wp_region_quiet_below (by kernel_rfl) (by kernel_rfl) ?_
        repeat (go_big_quiet_step (first
          | (go_at_call 85; with_reducible exact Calls.regrown_of (HCB.out _ _))
          | (go_at_call 99; with_reducible exact Calls.regrown_of (HCF.out _ _))))
        refine wpQuiet_nil ?_
        intro _ hw'
        obtain ⟨⟨dq, osq⟩, hw''⟩ := hw'
        subst hw''
        have HBQ : Hid (Below w.heap.size w (Go.Sort.grow (redrawn w1 dq) osq)) := HB1.out.trans ((below_regrown w1 dq osq).mono HB1.out.size)
        generalize Go.Sort.grow (redrawn w1 dq) osq = WQ at *
        go_wp2
        go_ret
        exact ⟨HR.out, HBQ.out⟩
    · have HR := Lib.hid (HTX.out (De.textL i) (by rw [HTV.out]; rfl))
      have HCT := Lib.hid (De.text_any i hi w1 HW1.out)
      clear HA HP HTX HTV
      go_wp2_with fail
      refine HCT.out.mono ?_
      rintro e w2 ⟨rfl, hb⟩
      have HB2 : Hid (Below w.heap.size w w2) := HB1.out.trans (hb.mono HB1.out.size)
      clear hb
      go_wp2
      go_ret
      exact ⟨HR.out, HB2.out⟩
    · have HR := Lib.hid (HTX.out (quoteL s) (by rw [HTV.out]; rfl))
      have HCT := Lib.hid (quoted_any s hs w1)
      clear HA HP HTX HTV
      go_wp2_with fail
      refine HCT.out.mono ?_
      rintro e w2 ⟨rfl, hb⟩
      have HB2 : Hid (Below w.heap.size w w2) := HB1.out.trans (hb.mono HB1.out.size)
      clear hb
      go_wp2
      go_ret
      exact ⟨HR.out, HB2.out⟩

end Go.Proofs.YtocnkjnlmciojaaGreatDoor
