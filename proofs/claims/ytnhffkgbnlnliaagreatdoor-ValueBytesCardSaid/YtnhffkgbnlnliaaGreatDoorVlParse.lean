/-
  A text form, read back.
-/
import Derived.Test.YtnhffkgbnlnliaaGreatDoorVlTextf
import Derived.Test.YtnhffkgbnlnliaaGreatDoorDecTxMath3
namespace Go.Proofs.YtnhffkgbnlnliaaGreatDoor
open Go Go.RowKit Go.Shelf Go.ChangeShapes Go.WideShapes Go.ChangeAt

def unqE : Bool → List UInt8 → List UInt8
  | _, [] => []
  | e, c :: r => if e = false ∧ (c = 34 ∨ c = 92) then unqE (decide (c = 92)) r else c :: unqE false r
def guessV (s : List UInt8) : Vl :=
  if s = nullL then Vl.null else if s = falseL then ⟨1, 0, []⟩ else if s = trueL then ⟨1, 1, []⟩ else if Lib.hasPrefix s [34] then ⟨3, 0, unqE false s⟩ else ⟨2, (De.parseS s 6).1, []⟩
def goodP (s : List UInt8) : Bool := vldV (guessV s) && decide (textV (guessV s) = s)

theorem unqE_len : ∀ (e : Bool) (s : List UInt8), (unqE e s).length ≤ s.length
  | _, [] => Nat.le_refl _
  | e, c :: r => by
    unfold unqE
    split
    · have := unqE_len (decide (c = 92)) r
      rw [List.length_cons]; omega
    · have := unqE_len false r
      rw [List.length_cons, List.length_cons]; omega
theorem drop8 {s : List UInt8} {k : Nat} (hk : k < s.length) : s.drop k = s[k]?.getD 0 :: s.drop (k + 1) := by
  rw [List.drop_eq_getElem_cons hk, List.getElem?_eq_getElem hk]; rfl
theorem unq_skip {s : List UInt8} {k : Nat} (hk : k < s.length) (h : s[k]?.getD 0 = 34 ∨ s[k]?.getD 0 = 92) : unqE false (s.drop k) = unqE (decide (s[k]?.getD 0 = 92)) (s.drop (k + 1)) := by
  rw [drop8 hk, unqE, if_pos ⟨rfl, h⟩]
theorem unq_take {s : List UInt8} {k : Nat} {e : Bool} (hk : k < s.length) (h : ¬ (e = false ∧ (s[k]?.getD 0 = 34 ∨ s[k]?.getD 0 = 92))) : unqE e (s.drop k) = s[k]?.getD 0 :: unqE false (s.drop (k + 1)) := by
  rw [drop8 hk, unqE, if_neg h]

theorem Tail.rd {base : Nat} {e : TypeId} {k : IntKind} {W : World} {v : Value} {zs : List Int} (h : Tail base e k W v zs) (hs : zs.length ≤ 140737488350000) : ∃ a len cap, v = .slice a len cap ∧ Rd (fun _ => True) W k a len cap zs := by
  rcases h with ⟨a, rfl, rfl⟩ | ⟨b, off, rfl, hlt, hc⟩ | ⟨g, cap, rfl, hr⟩
  · exact ⟨a, 0, 0, rfl, Rd.empty⟩
  · exact ⟨_, _, _, rfl, ⟨rfl, Nat.le_refl _, by omega, by omega, fun h0 => ⟨b, off, rfl, trivial, hlt, hc⟩⟩⟩
  · obtain ⟨g', cap', e1, hn, _⟩ := row_form hr (by simp)
    obtain ⟨rfl, rfl⟩ : g = g' ∧ cap = cap' := by cases e1; exact ⟨rfl, rfl⟩
    exact ⟨_, _, _, rfl, (Rd.of_row rfl hn (by omega) hr).mono fun _ _ _ => trivial⟩

set_option maxRecDepth 100000 in
set_option maxHeartbeats 2000000 in
theorem unquoted_any (s : List UInt8) (hs : s.length ≤ 1048576) (w : World) : Calls Tryz.prog 107 #[.string (bsOf s)] w fun e w' => e = .returned (.string (bsOf (unqE false s))) ∧ Below w.heap.size w w' := by
  obtain ⟨i0, hi, hz0, hz1, hz2⟩ := info_parts Tryz.infoB
  have hz := bs_size s
  obtain ⟨V, cap, kc, hcap, hcm, hb, hsz, hc⟩ := conv_str s hs w
  have HB : Hid (Below w.heap.size w V) := hb
  have HC := Lib.hid hc
  have HUL := Lib.hid (unqE_len false s)
  clear hb hc
  obtain ⟨len, hlen⟩ : ∃ len, s.length = len := ⟨_, rfl⟩
  have HLen := Lib.hid hlen
  rw [hlen] at kc hz hcap hs HC HUL
  clear hlen
  have hVs : w.heap.size < V.heap.size := by omega
  go_enter Tryz.func107, Tryz.ntmps107
  go_wp2
  go_loopw [3, 4, 10] (fun v ev i wr => ∃ (k : Nat) (e : Bool) (ys : List Int), k ≤ len ∧ i = .int .i64 k ∧ ev = .bool e ∧ Hid (Tail V.heap.size 5 .u8 wr v ys) ∧ Hid (ys ++ strI (unqE e (s.drop k)) = strI (unqE false s)) ∧ Hid (Below V.heap.size V wr)) (fun _ _ i _ => len - (intOf i).toNat)
  case atStart => exact ⟨0, false, [], Nat.zero_le _, rfl, rfl, .inl ⟨none, rfl, rfl⟩, by show _ = _; rw [List.drop_zero, List.nil_append], Below.self V⟩
  case round =>
    obtain ⟨k, e, ys, hk, rfl, rfl, HX, HE, HBR⟩ := hrel
    have hyl : ys.length ≤ len := by
      have h1 := congrArg List.length HE.out
      rw [List.length_append, strI_len, strI_len] at h1
      have := HUL.out
      omega
    by_cases hlt : k < len
    · have hcx := (HBR.out.cell (p := ⟨w.heap.size, k, none⟩) hVs).trans (HC.out k hlt)
      have hkl : k < s.length := by rw [HLen.out]; exact hlt
      have H1 := Lib.hid (@unq_skip s k hkl)
      have H2 := Lib.hid (@unq_take s k e hkl)
      have h34 := byte_nat (s[k]?.getD 0) 34 (by decide)
      have h92 := byte_nat (s[k]?.getD 0) 92 (by decide)
      clear hkl
      by_cases hq : e = false ∧ (s[k]?.getD 0 = 34 ∨ s[k]?.getD 0 = 92)
      · obtain ⟨rfl, hq⟩ := hq
        have hsk := H1.out hq
        have HE2 : Hid (ys ++ strI (unqE (decide (s[k]?.getD 0 = 92)) (s.drop (k + 1))) = strI (unqE false s)) := by show _ = _; rw [← hsk]; exact HE.out
        have hd : decide (s[k]?.getD 0 = 92) = decide ((s[k]?.getD 0).toNat = 92) := by
          by_cases h : s[k]?.getD 0 = 92
          · rw [decide_eq_true h, decide_eq_true (h92.1 h)]
          · rw [decide_eq_false h, decide_eq_false (fun h' => h (h92.2 h'))]
        rw [hd] at HE2
        have hq2 : (s[k]?.getD 0).toNat = 34 ∨ (s[k]?.getD 0).toNat = 92 := hq.imp h34.1 h92.1
        clear H1 H2 h34 h92 hq hsk hd HE
        generalize (s[k]?.getD 0).toNat = c at *
        rcases hq2 with rfl | rfl
        all_goals
          go_wp2
          go_roundw
          case rel => exact ⟨k + 1, _, ys, by omega, by go_num, rfl, HX, HE2, HBR⟩
          case measure => simp [intOf]; omega
      · have htk := H2.out hq
        have HE2 : Hid ((ys ++ [((s[k]?.getD 0).toNat : Int)]) ++ strI (unqE false (s.drop (k + 1))) = strI (unqE false s)) := by
          show _ = _
          rw [← HE.out, htk, List.append_assoc]; rfl
        have hq2 : e = true ∨ (e = false ∧ ¬ (s[k]?.getD 0).toNat = 34 ∧ ¬ (s[k]?.getD 0).toNat = 92) := by
          cases e
          · exact .inr ⟨rfl, fun h => hq ⟨rfl, .inl (h34.2 h)⟩, fun h => hq ⟨rfl, .inr (h92.2 h)⟩⟩
          · exact .inl rfl
        clear H1 H2 h34 h92 hq htk HE
        generalize (s[k]?.getD 0).toNat = c at *
        obtain ⟨g, cp, wX, hr, hX', hbX, hcX⟩ := tail_append wr V.heap.size 25 25 5 i0 _ 1 .u8 Tryz.underlying25 hi hz0 hz1 hz2 rfl _ ys HX.out (c : Int) 5 (by unfold maxLen; omega) (by omega) HBR.out.size
        have HBX : Hid (Below V.heap.size V wX) := HBR.out.trans hbX
        have HTX : Hid (Tail V.heap.size 5 .u8 wX (.slice (some ⟨g, 0, none⟩) (ys.length + 1) cp) (ys ++ [(c : Int)])) := Tail.row (by simp) hX'
        have HR1 := Lib.hid hr
        clear hr hX' hbX hcX hyl
        rcases hq2 with rfl | ⟨rfl, hq1, hq2⟩
        · go_wp2_with (at_builtin; refine wpList_append_want (o := ⟨some 29, _, _, _, _, _⟩) _ rfl _ _ _ _ rfl _ _ rfl rfl _ _ HR1.out ?_)
          go_roundw
          case rel => exact ⟨k + 1, false, _, by omega, by go_num, rfl, HTX, HE2, HBX⟩
          case measure => simp [intOf]; omega
        · have e1 : ((c : Int) == 34) = false := by rw [beq_eq_false_iff_ne]; omega
          have e2 : ((c : Int) == 92) = false := by rw [beq_eq_false_iff_ne]; omega
          go_wp2_with (at_builtin; refine wpList_append_want (o := ⟨some 29, _, _, _, _, _⟩) _ rfl _ _ _ _ rfl _ _ rfl rfl _ _ HR1.out ?_)
          go_roundw
          case rel => exact ⟨k + 1, false, _, by omega, by go_num, rfl, HTX, HE2, HBX⟩
          case measure => simp [intOf]; omega
    · obtain rfl : k = len := by omega
      have he : ys = strI (unqE false s) := by
        have h1 := HE.out
        rw [List.drop_eq_nil_of_le (by rw [HLen.out]; exact Nat.le_refl _)] at h1
        have h2 : unqE e [] = [] := by unfold unqE; rfl
        rw [h2] at h1
        simpa [strI] using h1
      obtain ⟨a, ln, cp, rfl, hR⟩ := HX.out.rd (by omega)
      have hcv := conv_back hR wr rfl
      rw [he, strU_strI] at hcv
      have HBX : Hid (Below w.heap.size w wr) := HB.out.trans (HBR.out.mono HB.out.size)
      clear he hR hyl HE HX
      go_wp2
      go_ret
      exact ⟨rfl, HBX.out⟩

end Go.Proofs.YtnhffkgbnlnliaaGreatDoor
