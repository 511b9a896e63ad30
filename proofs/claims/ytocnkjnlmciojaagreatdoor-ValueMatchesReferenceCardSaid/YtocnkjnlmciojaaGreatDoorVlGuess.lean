/-
  A text form, read back: the value.
-/
import Derived.Test.YtocnkjnlmciojaaGreatDoorVlTextf
import Derived.Test.YtocnkjnlmciojaaGreatDoorDecTxMath3
namespace Go.Proofs.YtocnkjnlmciojaaGreatDoor
open Go Go.RowKit Go.Shelf Go.ChangeShapes Go.WideShapes Go.ChangeAt

def unqE : Bool → List UInt8 → List UInt8
  | _, [] => []
  | e, c :: r => if e = false ∧ (c = 34 ∨ c = 92) then unqE (decide (c = 92)) r else c :: unqE false r
def guessV (s : List UInt8) : Vl :=
  if s = nullL then Vl.null else if s = falseL then ⟨1, 0, []⟩ else if s = trueL then ⟨1, 1, []⟩ else if Lib.hasPrefix s [34] then ⟨3, 0, unqE false s⟩ else ⟨2, (De.parseS s 6).1, []⟩
def goodP (s : List UInt8) : Bool := vldV (guessV s) && decide (textV (guessV s) = s)

theorem unqE_len : ∀ (e : Bool) (s : List UInt8), (unqE e s).length ≤ s.length
  | _, [] => Nat.le_refl _
  | e, c :: r => by
    unfold unqE
    split
    · have := unqE_len (decide (c = 92)) r
      rw [List.length_cons]; omega
    · have := unqE_len false r
      rw [List.length_cons, List.length_cons]; omega
theorem drop8 {s : List UInt8} {k : Nat} (hk : k < s.length) : s.drop k = s[k]?.getD 0 :: s.drop (k + 1) := by
  rw [List.drop_eq_getElem_cons hk, List.getElem?_eq_getElem hk]; rfl
theorem unq_skip {s : List UInt8} {k : Nat} (hk : k < s.length) (h : s[k]?.getD 0 = 34 ∨ s[k]?.getD 0 = 92) : unqE false (s.drop k) = unqE (decide (s[k]?.getD 0 = 92)) (s.drop (k + 1)) := by
  rw [drop8 hk, unqE, if_pos ⟨rfl, h⟩]
theorem unq_take {s : List UInt8} {k : Nat} {e : Bool} (hk : k < s.length) (h : ¬ (e = false ∧ (s[k]?.getD 0 = 34 ∨ s[k]?.getD 0 = 92))) : unqE e (s.drop k) = s[k]?.getD 0 :: unqE false (s.drop (k + 1)) := by
  rw [drop8 hk, unqE, if_neg h]

theorem Tail.rd {base : Nat} {e : TypeId} {k : IntKind} {W : World} {v : Value} {zs : List Int} (h : Tail base e k W v zs) (hs : zs.length ≤ 140737488350000) : ∃ a len cap, v = .slice a len cap ∧ Rd (fun _ => True) W k a len cap zs := by
  rcases h with ⟨a, rfl, rfl⟩ | ⟨b, off, rfl, hlt, hc⟩ | ⟨g, cap, rfl, hr⟩
  · exact ⟨a, 0, 0, rfl, Rd.empty⟩
  · exact ⟨_, _, _, rfl, ⟨rfl, Nat.le_refl _, by omega, by omega, fun h0 => ⟨b, off, rfl, trivial, hlt, hc⟩⟩⟩
  · obtain ⟨g', cap', e1, hn, _⟩ := row_form hr (by simp)
    obtain ⟨rfl, rfl⟩ : g = g' ∧ cap = cap' := by cases e1; exact ⟨rfl, rfl⟩
    exact ⟨_, _, _, rfl, (Rd.of_row rfl hn (by omega) hr).mono fun _ _ _ => trivial⟩

set_option maxRecDepth 100000 in
set_option maxHeartbeats 2000000 in
theorem unquoted_any (s : List UInt8) (hs : s.length ≤ 1048576) (w : World) : Calls Tryz.prog 157 #[.string (bsOf s)] w fun e w' => e = .returned (.string (bsOf (unqE false s))) ∧ Below w.heap.size w w' := by
  obtain ⟨i0, hi, hz0, hz1, hz2⟩ := info_parts Tryz.infoB
  have hz := bs_size s
  obtain ⟨V, cap, kc, hcap, hcm, hb, hsz, hc⟩ := conv_str s hs w
  have HB : Hid (Below w.heap.size w V) := hb
  have HC := Lib.hid hc
  have HUL := Lib.hid (unqE_len false s)
  clear hb hc
  obtain ⟨len, hlen⟩ : ∃ len, s.length = len := ⟨_, rfl⟩
  have HLen := Lib.hid hlen
  rw [hlen] at kc hz hcap hs HC HUL
  clear hlen
  have hVs : w.heap.size < V.heap.size := by omega
  go_enter Tryz.func157, Tryz.ntmps157
  go_wp2
  go_loopw [3, 4, 10] (fun v ev i wr => ∃ (k : Nat) (e : Bool) (ys : List Int), k ≤ len ∧ i = .int .i64 k ∧ ev = .bool e ∧ Hid (Tail V.heap.size 5 .u8 wr v ys) ∧ Hid (ys ++ strI (unqE e (s.drop k)) = strI (unqE false s)) ∧ Hid (Below V.heap.size V wr)) (fun _ _ i _ => len - (intOf i).toNat)
  case atStart => exact ⟨0, false, [], Nat.zero_le _, rfl, rfl, .inl ⟨none, rfl, rfl⟩, by show _ = _; rw [List.drop_zero, List.nil_append], Below.self V⟩
  case round =>
    obtain ⟨k, e, ys, hk, rfl, rfl, HX, HE, HBR⟩ := hrel
    have hyl : ys.length ≤ len := by
      have h1 := congrArg List.length HE.out
      rw [List.length_append, strI_len, strI_len] at h1
      have := HUL.out
      omega
    by_cases hlt : k < len
    · have hcx := (HBR.out.cell (p := ⟨w.heap.size, k, none⟩) hVs).trans (HC.out k hlt)
      have hkl : k < s.length := by rw [HLen.out]; exact hlt
      have H1 := Lib.hid (@unq_skip s k hkl)
      have H2 := Lib.hid (@unq_take s k e hkl)
      have h34 := byte_nat (s[k]?.getD 0) 34 (by decide)
      have h92 := byte_nat (s[k]?.getD 0) 92 (by decide)
      clear hkl
      by_cases hq : e = false ∧ (s[k]?.getD 0 = 34 ∨ s[k]?.getD 0 = 92)
      · obtain ⟨rfl, hq⟩ := hq
        have hsk := H1.out hq
        have HE2 : Hid (ys ++ strI (unqE (decide (s[k]?.getD 0 = 92)) (s.drop (k + 1))) = strI (unqE false s)) := by show _ = _; rw [← hsk]; exact HE.out
        have hd : decide (s[k]?.getD 0 = 92) = decide ((s[k]?.getD 0).toNat = 92) := by
          by_cases h : s[k]?.getD 0 = 92
          · rw [decide_eq_true h, decide_eq_true (h92.1 h)]
          · rw [decide_eq_false h, decide_eq_false (fun h' => h (h92.2 h'))]
        rw [hd] at HE2
        have hq2 : (s[k]?.getD 0).toNat = 34 ∨ (s[k]?.getD 0).toNat = 92 := hq.imp h34.1 h92.1
        clear H1 H2 h34 h92 hq hsk hd HE
        generalize (s[k]?.getD 0).toNat = c at *
        rcases hq2 with rfl | rfl
        all_goals
          go_wp2
          go_roundw
          case rel => exact ⟨k + 1, _, ys, by omega, by go_num, rfl, HX, HE2, HBR⟩
          case measure => simp [intOf]; omega
      · have htk := H2.out hq
        have HE2 : Hid ((ys ++ [((s[k]?.getD 0).toNat : Int)]) ++ strI (unqE false (s.drop (k + 1))) = strI (unqE false s)) := by
          show _ = _
          rw [← HE.out, htk, List.append_assoc]; rfl
        have hq2 : e = true ∨ (e = false ∧ ¬ (s[k]?.getD 0).toNat = 34 ∧ ¬ (s[k]?.getD 0).toNat = 92) := by
          cases e
          · exact .inr ⟨rfl, fun h => hq ⟨rfl, .inl (h34.2 h)⟩, fun h => hq ⟨rfl, .inr (h92.2 h)⟩⟩
          · exact .inl rfl
        clear H1 H2 h34 h92 hq htk HE
        generalize (s[k]?.getD 0).toNat = c at *
        obtain ⟨g, cp, wX, hr, hX', hbX, hcX⟩ := tail_append wr V.heap.size 42 42 5 i0 _ 1 .u8 Tryz.underlying42 hi hz0 hz1 hz2 rfl _ ys HX.out (c : Int) 5 (by unfold maxLen; omega) (by omega) HBR.out.size
        have HBX : Hid (Below V.heap.size V wX) := HBR.out.trans hbX
        have HTX : Hid (Tail V.heap.size 5 .u8 wX (.slice (some ⟨g, 0, none⟩) (ys.length + 1) cp) (ys ++ [(c : Int)])) := Tail.row (by simp) hX'
        have HR1 := Lib.hid hr
        clear hr hX' hbX hcX hyl
        rcases hq2 with rfl | ⟨rfl, hq1, hq2⟩
        · go_wp2_with (at_builtin; refine wpList_append_want (o := ⟨some 29, _, _, _, _, _⟩) _ rfl _ _ _ _ rfl _ _ rfl rfl _ _ HR1.out ?_)
          go_roundw
          case rel => exact ⟨k + 1, false, _, by omega, by go_num, rfl, HTX, HE2, HBX⟩
          case measure => simp [intOf]; omega
        · have e1 : ((c : Int) == 34) = false := by rw [beq_eq_false_iff_ne]; omega
          have e2 : ((c : Int) == 92) = false := by rw [beq_eq_false_iff_ne]; omega
          go_wp2_with (at_builtin; refine wpList_append_want (o := ⟨some 29, _, _, _, _, _⟩) _ rfl _ _ _ _ rfl _ _ rfl rfl _ _ HR1.out ?_)
          go_roundw
          case rel => exact ⟨k + 1, false, _, by omega, by go_num, rfl, HTX, HE2, HBX⟩
          case measure => simp [intOf]; omega
    · obtain rfl : k = len := by omega
      have he : ys = strI (unqE false s) := by
        have h1 := HE.out
        rw [List.drop_eq_nil_of_le (by rw [HLen.out]; exact Nat.le_refl _)] at h1
        have h2 : unqE e [] = [] := by unfold unqE; rfl
        rw [h2] at h1
        simpa [strI] using h1
      obtain ⟨a, ln, cp, rfl, hR⟩ := HX.out.rd (by omega)
      have hcv := conv_back hR wr rfl
      rw [he, strU_strI] at hcv
      have HBX : Hid (Below w.heap.size w wr) := HB.out.trans (HBR.out.mono HB.out.size)
      clear he hR hyl HE HX
      go_wp2
      go_ret
      exact ⟨rfl, HBX.out⟩

end Go.Proofs.YtocnkjnlmciojaaGreatDoor

namespace Go.Proofs.YtocnkjnlmciojaaGreatDoor
open Go Go.RowKit Go.Shelf Go.ChangeShapes Go.WideShapes Go.ChangeAt

theorem set_block {W : World} {B i : Nat} {cs : Array Value} {t : TypeId} {fz : Nat × Nat} (h : W.heap[B]? = some (.cells cs t fz)) (v : Value) : (W.setCell ⟨B, i, none⟩ v).heap[B]? = some (.cells (cs.setIfInBounds i v) t fz) := by
  obtain ⟨hlt, hk⟩ := Array.getElem?_eq_some_iff.1 h
  show (W.heap.modify B _)[B]? = _
  rw [Array.getElem?_eq_getElem (by rw [Array.size_modify]; exact hlt), Array.getElem_modify_self, hk]
  rfl
theorem put3 {W : World} {B : Nat} {t : TypeId} {a b c : Value} (h : Trio W B t a b c) (x y z : Value) : Trio (((W.setCell ⟨B, 0, none⟩ x).setCell ⟨B, 1, none⟩ y).setCell ⟨B, 2, none⟩ z) B t x y z := by
  have h1 := set_block (i := 0) h x
  have h2 := set_block (i := 1) h1 y
  exact set_block (i := 2) h2 z
theorem below_put3 {W w : World} {B : Nat} (h : Below w.heap.size w W) (hB : w.heap.size ≤ B) (x y z : Value) : Below w.heap.size w (((W.setCell ⟨B, 0, none⟩ x).setCell ⟨B, 1, none⟩ y).setCell ⟨B, 2, none⟩ z) :=
  ((h.setCell hB x).setCell hB y).setCell hB z

theorem pre34 (s : List UInt8) (w : World) : Calls Tryz.prog 156 #[.string (bsOf s), .string ⟨#[34]⟩] w fun e w' => e = .returned (.bool (Lib.hasPrefix s [34])) ∧ Below w.heap.size w w' :=
  (Tryz.strings_HasPrefix (bsOf s) ⟨#[34]⟩ w).mono fun e w' ⟨he, hw⟩ => by
    rw [bs_data] at he
    exact ⟨he, by rw [hw]; exact Below.self w⟩

theorem str_in (s t : List UInt8) : ((bsOf s).toList == t) = decide (s = t) := by rw [bs_list]; exact Bool.beq_eq_decide_eq s t

set_option maxRecDepth 100000 in
set_option maxHeartbeats 2000000 in
theorem guess_any (s : List UInt8) (hs : s.length ≤ 1048576) (w : World) (hV : De.Vars w) : Calls Tryz.prog 136 #[.string (bsOf s)] w fun e w' => e = .returned (encV (guessV s)) ∧ Below w.heap.size w w' := by
  have hn : ((bsOf s).toList == [110, 117, 108, 108]) = decide (s = nullL) := str_in s nullL
  have hf : ((bsOf s).toList == [102, 97, 108, 115, 101]) = decide (s = falseL) := str_in s falseL
  have ht : ((bsOf s).toList == [116, 114, 117, 101]) = decide (s = trueL) := str_in s trueL
  have hb0 : Below w.heap.size w (w.alloc (.cells #[.int .i64 0, .int .i64 0, .string ⟨#[]⟩] 45)) := (Below.self w).alloc (Nat.le_refl _) _
  have HT := Lib.hid (Trio.new w 45 (.int .i64 0) (.int .i64 0) (.string ⟨#[]⟩))
  have HF : Hid (∀ (W : World), Calls Tryz.prog 99 #[.bool false] W fun e w' => e = .returned (.string ⟨#[102, 97, 108, 115, 101]⟩) ∧ Below W.heap.size W w') := fun W => formatBool_any false W
  have HTR : Hid (∀ (W : World), Calls Tryz.prog 99 #[.bool true] W fun e w' => e = .returned (.string ⟨#[116, 114, 117, 101]⟩) ∧ Below W.heap.size W w') := fun W => formatBool_any true W
  have HBO : Hid (∀ (n : Int) (W : World), Calls Tryz.prog 85 #[.int .i64 n] W fun e w' => e = .returned (.agg #[.int .i64 1, .int .i64 n, .string ⟨#[]⟩]) ∧ Below W.heap.size W w') := fun n W => bool_any n W
  have HBN : Hid (∀ (n : Int) (W : World), Calls Tryz.prog 86 #[.int .i64 n] W fun e w' => e = .returned (.agg #[.int .i64 2, .int .i64 n, .string ⟨#[]⟩]) ∧ Below W.heap.size W w') := fun n W => num_any n W
  have HPR := Lib.hid (pre34 s)
  have HUQ := Lib.hid (unquoted_any s hs)
  have HTX := Lib.hid (txt_any (unqE false s))
  have HDP : Hid (∀ W, De.Vars W → Calls Tryz.prog 71 #[.string (bsOf s), .int .i64 6] W fun e w' => e = .returned (.tuple #[.int .i64 (De.parseS s 6).1, .int .i64 (De.parseS s 6).2]) ∧ Below W.heap.size W w') := fun W hW => by
    have := De.parse_any (bsOf s) 6 ⟨by decide, by decide⟩ (by rw [bs_size]; omega) W hW
    rwa [bs_data] at this
  have HVA := Lib.hid hV
  have HB0 := Lib.hid hb0
  have HE : Hid (∀ v, guessV s = v → ∀ W, Below w.heap.size w W → Ending.returned (encV v) = .returned (encV (guessV s)) ∧ Below w.heap.size w W) := fun v h W hb => ⟨by rw [h], hb⟩
  obtain ⟨h5, hh5⟩ : ∃ b, Lib.hasPrefix s [34] = b := ⟨_, rfl⟩
  have HGU : Hid (guessV s = if s = nullL then Vl.null else if s = falseL then ⟨1, 0, []⟩ else if s = trueL then ⟨1, 1, []⟩ else if h5 = true then ⟨3, 0, unqE false s⟩ else ⟨2, (De.parseS s 6).1, []⟩) := by show _ = _; rw [← hh5]; rfl
  rw [hh5] at HPR
  clear hb0 hV hh5
  generalize De.parseS s 6 = pr at *
  obtain ⟨pn, pe⟩ := pr
  generalize unqE false s = us at *
  by_cases h1 : s = nullL
  · have HR := Lib.hid (HE.out Vl.null (by rw [HGU.out, if_pos h1]))
    rw [decide_eq_true h1] at hn
    clear h1 hf ht HE HGU
    generalize bsOf s = S at *
    go_enter Tryz.func136, Tryz.ntmps136
    go_wp2
    exact bodyPost_ret (v := encV Vl.null) (by simp [results, Tryz.results136, go_sem, encV, Vl.null, bsOf]) rfl (HR.out _ HB0.out)
  · by_cases h2 : s = falseL
    · have HR := Lib.hid (HE.out ⟨1, 0, []⟩ (by rw [HGU.out, if_neg h1, if_pos h2]))
      rw [decide_eq_false h1] at hn
      rw [decide_eq_true h2] at hf
      clear h1 h2 ht HE HGU
      generalize bsOf s = S at *
      go_enter Tryz.func136, Tryz.ntmps136
      go_wp2_with fail
      refine (HF.out _).mono ?_
      rintro e w1 ⟨rfl, hb⟩
      have HB1 : Hid (Below w.heap.size w w1) := HB0.out.trans (hb.mono HB0.out.size)
      have HT1 := Lib.hid (HT.out.below hb HT.out.lt)
      clear hb HT
      go_wp2_with fail
      refine (HBO.out _ _).mono ?_
      rintro e w2 ⟨rfl, hb⟩
      have HB2 : Hid (Below w.heap.size w w2) := HB1.out.trans (hb.mono HB1.out.size)
      have HT2 := Lib.hid (HT1.out.below hb HT1.out.lt)
      have c0 := HT2.out.c0
      have c1 := HT2.out.c1
      have c2 := HT2.out.c2
      have f0 := HT2.out.f 0
      have f1 := HT2.out.f 1
      have f2 := HT2.out.f 2
      have plt := HT2.out.lt
      clear hb HT1 HB1
      go_wp2
      exact bodyPost_ret (v := .agg #[.int .i64 1, .int .i64 0, .string ⟨#[]⟩]) (by simp [results, Tryz.results136, go_sem, c0, c1, c2]) rfl (HR.out _ (below_put3 HB2.out (Nat.le_refl _) _ _ _))
    · by_cases h3 : s = trueL
      · have HR := Lib.hid (HE.out ⟨1, 1, []⟩ (by rw [HGU.out, if_neg h1, if_neg h2, if_pos h3]))
        rw [decide_eq_false h1] at hn
        rw [decide_eq_false h2] at hf
        rw [decide_eq_true h3] at ht
        clear h1 h2 h3 HE HGU
        generalize bsOf s = S at *
        go_enter Tryz.func136, Tryz.ntmps136
        go_wp2_with fail
        refine (HF.out _).mono ?_
        rintro e w1 ⟨rfl, hb⟩
        have HB1 : Hid (Below w.heap.size w w1) := HB0.out.trans (hb.mono HB0.out.size)
        have HT1 := Lib.hid (HT.out.below hb HT.out.lt)
        clear hb HT
        go_wp2_with fail
        refine (HTR.out _).mono ?_
        rintro e w1' ⟨rfl, hb⟩
        have HB1' : Hid (Below w.heap.size w w1') := HB1.out.trans (hb.mono HB1.out.size)
        have HT1' := Lib.hid (HT1.out.below hb HT1.out.lt)
        clear hb HT1 HB1
        go_wp2_with fail
        refine (HBO.out _ _).mono ?_
        rintro e w2 ⟨rfl, hb⟩
        have HB2 : Hid (Below w.heap.size w w2) := HB1'.out.trans (hb.mono HB1'.out.size)
        have HT2 := Lib.hid (HT1'.out.below hb HT1'.out.lt)
        have c0 := HT2.out.c0
        have c1 := HT2.out.c1
        have c2 := HT2.out.c2
        have f0 := HT2.out.f 0
        have f1 := HT2.out.f 1
        have f2 := HT2.out.f 2
        have plt := HT2.out.lt
        clear hb HT1' HB1'
        go_wp2
        exact bodyPost_ret (v := .agg #[.int .i64 1, .int .i64 1, .string ⟨#[]⟩]) (by simp [results, Tryz.results136, go_sem, c0, c1, c2]) rfl (HR.out _ (below_put3 HB2.out (Nat.le_refl _) _ _ _))
      · have HR : Hid (∀ v, v = (if h5 = true then (⟨3, 0, us⟩ : Vl) else ⟨2, pn, []⟩) → ∀ W, Below w.heap.size w W → Ending.returned (encV v) = .returned (encV (guessV s)) ∧ Below w.heap.size w W) := fun v hv => HE.out v (by rw [HGU.out, if_neg h1, if_neg h2, if_neg h3, hv])
        rw [decide_eq_false h1] at hn
        rw [decide_eq_false h2] at hf
        rw [decide_eq_false h3] at ht
        clear h1 h2 h3 HE HGU
        generalize bsOf s = S at *
        go_enter Tryz.func136, Tryz.ntmps136
        go_wp2_with fail
        refine (HF.out _).mono ?_
        rintro e w1 ⟨rfl, hb⟩
        have HB1 : Hid (Below w.heap.size w w1) := HB0.out.trans (hb.mono HB0.out.size)
        have HT1 := Lib.hid (HT.out.below hb HT.out.lt)
        clear hb HT
        go_wp2_with fail
        refine (HTR.out _).mono ?_
        rintro e w1' ⟨rfl, hb⟩
        have HB1' : Hid (Below w.heap.size w w1') := HB1.out.trans (hb.mono HB1.out.size)
        have HT1' := Lib.hid (HT1.out.below hb HT1.out.lt)
        clear hb HT1 HB1
        go_wp2_with fail
        refine (HPR.out _).mono ?_
        rintro e w3 ⟨rfl, hb⟩
        have HB3 : Hid (Below w.heap.size w w3) := HB1'.out.trans (hb.mono HB1'.out.size)
        have HT3 := Lib.hid (HT1'.out.below hb HT1'.out.lt)
        clear hb HT1' HB1'
        cases h5 with
        | true =>
          go_wp2_with fail
          refine (HUQ.out _).mono ?_
          rintro e w4 ⟨rfl, hb⟩
          have HB4 : Hid (Below w.heap.size w w4) := HB3.out.trans (hb.mono HB3.out.size)
          have HT4 := Lib.hid (HT3.out.below hb HT3.out.lt)
          clear hb HT3 HB3
          go_wp2_with fail
          refine (HTX.out _).mono ?_
          rintro e w2 ⟨rfl, hb⟩
          have HB2 : Hid (Below w.heap.size w w2) := HB4.out.trans (hb.mono HB4.out.size)
          have HT2 := Lib.hid (HT4.out.below hb HT4.out.lt)
          have c0 := HT2.out.c0
          have c1 := HT2.out.c1
          have c2 := HT2.out.c2
          have f0 := HT2.out.f 0
          have f1 := HT2.out.f 1
          have f2 := HT2.out.f 2
          have plt := HT2.out.lt
          clear hb HT4 HB4
          unfold encV
          dsimp only
          go_wp2
          exact bodyPost_ret (v := .agg #[.int .i64 3, .int .i64 0, .string (bsOf us)]) (by simp [results, Tryz.results136, go_sem, c0, c1, c2]) rfl (HR.out ⟨3, 0, us⟩ rfl _ (below_put3 HB2.out (Nat.le_refl _) _ _ _))
        | false =>
          go_wp2_with fail
          refine (HDP.out _ (HVA.out.below HB3.out)).mono ?_
          rintro e w4 ⟨rfl, hb⟩
          have HB4 : Hid (Below w.heap.size w w4) := HB3.out.trans (hb.mono HB3.out.size)
          have HT4 := Lib.hid (HT3.out.below hb HT3.out.lt)
          clear hb HT3 HB3
          dsimp only
          go_wp2_with fail
          refine (HBN.out _ _).mono ?_
          rintro e w2 ⟨rfl, hb⟩
          have HB2 : Hid (Below w.heap.size w w2) := HB4.out.trans (hb.mono HB4.out.size)
          have HT2 := Lib.hid (HT4.out.below hb HT4.out.lt)
          have c0 := HT2.out.c0
          have c1 := HT2.out.c1
          have c2 := HT2.out.c2
          have f0 := HT2.out.f 0
          have f1 := HT2.out.f 1
          have f2 := HT2.out.f 2
          have plt := HT2.out.lt
          clear hb HT4 HB4
          go_wp2
          exact bodyPost_ret (v := .agg #[.int .i64 2, .int .i64 pn, .string ⟨#[]⟩]) (by simp [results, Tryz.results136, go_sem, c0, c1, c2]) rfl (HR.out ⟨2, pn, []⟩ rfl _ (below_put3 HB2.out (Nat.le_refl _) _ _ _))

end Go.Proofs.YtocnkjnlmciojaaGreatDoor
