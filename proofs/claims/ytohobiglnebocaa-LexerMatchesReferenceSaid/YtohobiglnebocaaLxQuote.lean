/-
  Texts between quotation marks.
-/
import Derived.Test.YtohobiglnebocaaLxValid
import Derived.Laws.BytesArg
namespace Go.Proofs.Ytohobiglnebocaa.Lx
open Go Go.RowKit Go.Shelf Go.Sort Go.ChangeShapes Go.WideShapes Go.ChangeAt
open Go.Proofs.Ytohobiglnebocaa

/-- A byte, with a backslash ahead of it where it wants one. -/
def quC (c : UInt8) : List UInt8 := if c = 34 ∨ c = 92 then [92, c] else [c]
def quB (s : List UInt8) : List UInt8 := s.flatMap quC
def quoteL (s : List UInt8) : List UInt8 := 34 :: (quB s ++ [34])

theorem quB_snoc (s : List UInt8) (c : UInt8) : quB (s ++ [c]) = quB s ++ quC c := by unfold quB; simp [List.flatMap_append]
theorem take_snoc8 (s : List UInt8) (k : Nat) (hk : k < s.length) : s.take (k + 1) = s.take k ++ [s[k]?.getD 0] := by
  rw [List.take_add_one, List.getElem?_eq_getElem hk]; rfl
theorem quB_len (s : List UInt8) : (quB s).length ≤ 2 * s.length := by
  unfold quB
  induction s with
  | nil => simp
  | cons c r ih =>
    rw [List.flatMap_cons, List.length_append, List.length_cons]
    have : (quC c).length ≤ 2 := by unfold quC; split <;> simp
    omega
/-- The bytes as integers. -/
def quI (s : List UInt8) (k : Nat) : List Int := 34 :: strI (quB (s.take k))
theorem quI_zero (s : List UInt8) : quI s 0 = [34] := by unfold quI; simp [quB, strI]
theorem quI_len (s : List UInt8) (k : Nat) : (quI s k).length ≤ 1 + 2 * k := by
  unfold quI
  rw [List.length_cons, strI_len]
  have h1 := quB_len (s.take k)
  have h2 : (s.take k).length ≤ k := List.length_take_le ..
  omega
theorem strI_append (a b : List UInt8) : strI (a ++ b) = strI a ++ strI b := List.map_append
theorem quI_one {s : List UInt8} {k : Nat} (hk : k < s.length) (h : ¬ (s[k]?.getD 0 = 34 ∨ s[k]?.getD 0 = 92)) : quI s (k + 1) = quI s k ++ [((s[k]?.getD 0).toNat : Int)] := by
  unfold quI
  rw [take_snoc8 s k hk, quB_snoc, strI_append, quC, if_neg h]; rfl
theorem quI_two {s : List UInt8} {k : Nat} (hk : k < s.length) (h : s[k]?.getD 0 = 34 ∨ s[k]?.getD 0 = 92) : quI s (k + 1) = quI s k ++ [92] ++ [((s[k]?.getD 0).toNat : Int)] := by
  unfold quI
  rw [take_snoc8 s k hk, quB_snoc, strI_append, quC, if_pos h]; simp [strI]
theorem quI_end (s : List UInt8) : strU (quI s s.length ++ [34]) = quoteL s := by
  unfold quI quoteL
  rw [List.take_length, List.cons_append]
  show strU (34 :: (strI (quB s) ++ strI [34])) = _
  rw [← strI_append]
  show _ :: strU (strI (quB s ++ [34])) = _
  rw [strU_strI]; rfl
theorem byte_nat (c : UInt8) (n : Nat) (h : n < 256) : c = UInt8.ofNat n ↔ c.toNat = n := by
  constructor
  · intro e; subst e; simp; omega
  · intro e; exact UInt8.toNat_inj.1 (by simp; omega)

/-- Bytes that read, as a string. -/
theorem conv_back {K : Nat → Prop} {W : World} {a : Option Addr} {n c : Nat} {zs : List Int} (hR : Rd K W .u8 a n c zs) (W' : World) (hW : W'.heap = W.heap) :
    (convert 33 9 (.slice a n c)).run Try.prog W' = .ok (.string (bsOf (strU zs))) W' := by
  have hl := hR.hl
  by_cases h0 : 0 < n
  · obtain ⟨b, off, rfl, _, hlt, hc⟩ := hR.cells h0
    exact run_convert_bytes_arg W' 33 5 Try.underlying33 Try.underlying5 b off n c zs hl.symm (fun i hi => by
      rw [World.cell?_of_block (w := W) (by rw [hW]), hc i hi, List.getD_eq_getElem?_getD]) _ Try.underlying9
  · obtain rfl : n = 0 := by omega
    obtain rfl : zs = [] := List.eq_nil_of_length_eq_zero hl.symm
    rw [run_convert_bytes_string W' 33 9 5 _ 0 c Try.underlying33 Try.underlying5 Try.underlying9]
    cases a <;> simp [Conv.bytesToString, loadCells]
    all_goals rfl

set_option maxRecDepth 100000 in
set_option maxHeartbeats 2000000 in
theorem quoted_any (s : List UInt8) (hs : s.length ≤ 1048576) (w : World) : Calls Try.prog 26 #[.string (bsOf s)] w fun e w' => e = .returned (.string (bsOf (quoteL s))) ∧ Below w.heap.size w w' := by
  obtain ⟨i0, hi, hz0, hz1, hz2⟩ := info_parts Try.infoB
  have hz := bs_size s
  have hb0 : Below w.heap.size w (w.alloc (.cells #[.int .u8 34] 5)) := (Below.self w).alloc (Nat.le_refl _) _
  obtain ⟨V, cap, kc, hcap, hcm, hb, hsz, hc⟩ := conv_str s hs (w.alloc (.cells #[.int .u8 34] 5))
  have HB : Hid (Below w.heap.size w V) := hb0.trans (hb.mono hb0.size)
  have HT0 : Hid (Tail V.heap.size 5 .u8 V (.slice (some ⟨w.heap.size, 0, none⟩) 1 1) [34]) := by
    refine .inr (.inl ⟨w.heap.size, 0, rfl, by rw [hsz]; simp; omega, fun j hj => ?_⟩)
    obtain rfl : j = 0 := by simpa using hj
    exact (hb.cell (p := ⟨w.heap.size, 0 + 0, none⟩) (by simp)).trans (one_cell w .u8 34 5 0 (by decide))
  have HC := Lib.hid hc
  have HE := Lib.hid (quI_end s)
  clear hb hc hb0
  obtain ⟨len, hlen⟩ : ∃ len, s.length = len := ⟨_, rfl⟩
  have HLen := Lib.hid hlen
  rw [hlen] at kc hz hcap hs HC HE
  clear hlen
  rw [World.size_alloc] at kc HC
  have hVs : w.heap.size + 1 < V.heap.size := by rw [hsz]; simp
  go_enter Try.func26, Try.ntmps26
  go_wp2
  go_loopw [3, 10] (fun v i wr => ∃ k : Nat, k ≤ len ∧ i = .int .i64 k ∧ Hid (Tail V.heap.size 5 .u8 wr v (quI s k)) ∧ Hid (Below V.heap.size V wr)) (fun _ i _ => len - (intOf i).toNat)
  case atStart => exact ⟨0, Nat.zero_le _, rfl, by show Tail _ _ _ _ _ _; rw [quI_zero]; exact HT0.out, Below.self V⟩
  case round =>
    obtain ⟨k, hk, rfl, HX, HBR⟩ := hrel
    have hyl := quI_len s k
    by_cases hlt : k < len
    · have hcx := (HBR.out.cell (p := ⟨w.heap.size + 1, k, none⟩) hVs).trans (HC.out k hlt)
      have H1 := Lib.hid (@quI_one s k (by rw [HLen.out]; exact hlt))
      have H2 := Lib.hid (@quI_two s k (by rw [HLen.out]; exact hlt))
      have h34 := byte_nat (s[k]?.getD 0) 34 (by decide)
      have h92 := byte_nat (s[k]?.getD 0) 92 (by decide)
      by_cases hq : s[k]?.getD 0 = 34 ∨ s[k]?.getD 0 = 92
      · have HE2 := Lib.hid (H2.out hq)
        have hq2 : (s[k]?.getD 0).toNat = 34 ∨ (s[k]?.getD 0).toNat = 92 := hq.imp h34.1 h92.1
        clear H1 H2 h34 h92 hq
        generalize (s[k]?.getD 0).toNat = c at *
        obtain ⟨g, cp, wX, hr, hX', hbX, hcX⟩ := tail_append wr V.heap.size 33 33 5 i0 _ 1 .u8 Try.underlying33 hi hz0 hz1 hz2 rfl _ (quI s k) HX.out 92 5 (by unfold maxLen; omega) (by omega) HBR.out.size
        have hT2 : Tail V.heap.size 5 .u8 wX (.slice (some ⟨g, 0, none⟩) ((quI s k).length + 1) cp) (quI s k ++ [92]) := Tail.row (by simp) hX'
        have hBX : Below V.heap.size V wX := HBR.out.trans hbX
        obtain ⟨g2, cp2, wY, hr2, hY', hbY, hcY⟩ := tail_append wX V.heap.size 33 33 5 i0 _ 1 .u8 Try.underlying33 hi hz0 hz1 hz2 rfl _ (quI s k ++ [92]) hT2 (c : Int) 5 (by simp; unfold maxLen; omega) (by simp; omega) hBX.size
        have HBY : Hid (Below V.heap.size V wY) := hBX.trans hbY
        rw [← HE2.out] at hY'
        have hl2 : (quI s k ++ [92]).length + 1 = (quI s (k + 1)).length := by rw [HE2.out]; simp
        rw [hl2] at hr2 hY'
        have HTY : Hid (Tail V.heap.size 5 .u8 wY (.slice (some ⟨g2, 0, none⟩) (quI s (k + 1)).length cp2) (quI s (k + 1))) := Tail.row rfl hY'
        have HR1 := Lib.hid hr
        have HR2 := Lib.hid hr2
        clear hr hr2 hX' hbX hcX hT2 hBX hY' hbY hcY hl2 hyl
        rcases hq2 with rfl | rfl
        all_goals
          go_wp2_with (at_builtin; first
            | (refine wpList_append_want (o := ⟨some 22, _, _, _, _, _⟩) _ rfl _ _ _ _ rfl _ _ rfl rfl _ _ HR1.out ?_)
            | (refine wpList_append_want (o := ⟨some 26, _, _, _, _, _⟩) _ rfl _ _ _ _ rfl _ _ rfl rfl _ _ HR2.out ?_))
          go_roundw
          case rel => exact ⟨k + 1, by omega, by go_num, HTY, HBY⟩
          case measure => simp [intOf]; omega
      · have HE2 := Lib.hid (H1.out hq)
        have hq1 : ¬ (s[k]?.getD 0).toNat = 34 := fun h => hq (.inl (h34.2 h))
        have hq2 : ¬ (s[k]?.getD 0).toNat = 92 := fun h => hq (.inr (h92.2 h))
        clear H1 H2 h34 h92 hq
        generalize (s[k]?.getD 0).toNat = c at *
        have e1 : ((c : Int) == 34) = false := by rw [beq_eq_false_iff_ne]; omega
        have e2 : ((c : Int) == 92) = false := by rw [beq_eq_false_iff_ne]; omega
        obtain ⟨g, cp, wX, hr, hX', hbX, hcX⟩ := tail_append wr V.heap.size 33 33 5 i0 _ 1 .u8 Try.underlying33 hi hz0 hz1 hz2 rfl _ (quI s k) HX.out (c : Int) 5 (by unfold maxLen; omega) (by omega) HBR.out.size
        have HBX : Hid (Below V.heap.size V wX) := HBR.out.trans hbX
        rw [← HE2.out] at hX'
        have hl2 : (quI s k).length + 1 = (quI s (k + 1)).length := by rw [HE2.out]; simp
        rw [hl2] at hr hX'
        have HTX : Hid (Tail V.heap.size 5 .u8 wX (.slice (some ⟨g, 0, none⟩) (quI s (k + 1)).length cp) (quI s (k + 1))) := Tail.row rfl hX'
        have HR1 := Lib.hid hr
        clear hr hX' hbX hcX hl2 hyl
        go_wp2_with (at_builtin; refine wpList_append_want (o := ⟨some 26, _, _, _, _, _⟩) _ rfl _ _ _ _ rfl _ _ rfl rfl _ _ HR1.out ?_)
        go_roundw
        case rel => exact ⟨k + 1, by omega, by go_num, HTX, HBX⟩
        case measure => simp [intOf]; omega
    · obtain rfl : k = len := by omega
      obtain ⟨g, cp, wX, hr, hX', hbX, hcX⟩ := tail_append wr V.heap.size 33 33 5 i0 _ 1 .u8 Try.underlying33 hi hz0 hz1 hz2 rfl _ (quI s k) HX.out 34 5 (by unfold maxLen; omega) (by omega) HBR.out.size
      have HBX : Hid (Below w.heap.size w wX) := HB.out.trans ((HBR.out.trans hbX).mono HB.out.size)
      have hcv := conv_back (Rd.of_row (by simp) hcX (by omega) hX') wX rfl
      rw [HE.out] at hcv
      have HR1 := Lib.hid hr
      clear hr hX' hbX hcX hyl
      go_wp2_with (at_builtin; refine wpList_append_want (o := ⟨some 30, _, _, _, _, _⟩) _ rfl _ _ _ _ rfl _ _ rfl rfl _ _ HR1.out ?_)
      go_ret
      exact ⟨rfl, HBX.out⟩

theorem esc_eq (s : List UInt8) : esc s = quB s := by
  induction s with
  | nil => rfl
  | cons b l ih =>
    rw [esc, ih]
    unfold quB
    rw [List.flatMap_cons]
    congr 1
    unfold esc1 quC
    have h1 : (b.toNat = 34) = (b = 34) := propext ⟨fun h => (byte_nat b 34 (by decide)).2 h, fun h => by rw [h]; rfl⟩
    have h2 : (b.toNat = 92) = (b = 92) := propext ⟨fun h => (byte_nat b 92 (by decide)).2 h, fun h => by rw [h]; rfl⟩
    simp only [h1, h2]
theorem quoteL_eq (s : List UInt8) : quoteL s = 34 :: (esc s ++ [34]) := by unfold quoteL; rw [esc_eq]

end Go.Proofs.Ytohobiglnebocaa.Lx
