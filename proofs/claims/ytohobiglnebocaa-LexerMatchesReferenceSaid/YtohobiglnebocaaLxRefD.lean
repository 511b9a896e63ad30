/-
  Joined tokens, lines, and what is short, for the reference and the law.
-/
import Derived.Test.YtohobiglnebocaaLxRefC
namespace Go.Proofs.Ytohobiglnebocaa.Lx
open Go Go.RowKit Go.Shelf Go.Sort Go.ChangeShapes Go.WideShapes Go.ChangeAt
open Go.Proofs.Ytohobiglnebocaa

theorem join_cons (x y : List UInt8) (r : List (List UInt8)) : Lib.join (x :: y :: r) [32] = x ++ [32] ++ Lib.join (y :: r) [32] := by unfold Lib.join; simp [List.intercalate, List.intersperse]
theorem join_snoc : ∀ (l : List (List UInt8)) (x : List UInt8), l ≠ [] → Lib.join (l ++ [x]) [32] = Lib.join l [32] ++ [32] ++ x
  | [], _, h => absurd rfl h
  | [a], x, _ => by
    rw [List.singleton_append, join_cons]
    unfold Lib.join; simp [List.intercalate]
  | a :: b :: r, x, _ => by
    show Lib.join (a :: b :: (r ++ [x])) [32] = _
    rw [join_cons, join_cons, show b :: (r ++ [x]) = (b :: r) ++ [x] from rfl, join_snoc (b :: r) x (by simp)]
    simp
theorem join_none : Lib.join [] [32] = ([] : List UInt8) := by unfold Lib.join; simp
theorem join_one (x : List UInt8) : Lib.join [x] [32] = x := by unfold Lib.join; simp [List.intercalate]

set_option maxRecDepth 100000 in
set_option maxHeartbeats 4000000 in
theorem joinR_any {a : Option Addr} {n c : Nat} {ts : List Tk} {w : World} (h : RdK w a n c ts) (hn : n ≤ 100000) (hts : ∀ t ∈ ts, t.s.length ≤ 1048576) :
    Calls Try.prog 15 #[.slice a n c] w fun e V => e = .returned (.string (bsOf (joinS ts))) ∧ Below w.heap.size w V := by
  have HH := Lib.hid h
  have HTS := Lib.hid hts
  have hnc := h.fit
  have hct := h.top
  clear h hts
  go_enter Try.func15, Try.ntmps15
  go_wp2
  go_loopw [3, 4, 5] (fun ov fv iv wr => ∃ k : Nat, k ≤ n ∧ iv = .int .i64 (k : Int) ∧ ov = .string (bsOf (joinS (ts.take k))) ∧ fv = .bool (decide (spellsS (ts.take k) = [])) ∧ Hid (Below w.heap.size w wr)) (fun _ _ i _ => n - (intOf i).toNat)
  case atStart => exact ⟨0, Nat.zero_le _, rfl, by rw [List.take_zero]; rfl, by rw [List.take_zero]; rfl, Below.self _⟩
  case round =>
    obtain ⟨k, hk, rfl, rfl, rfl, HI⟩ := hrel
    by_cases hlt : k < n
    · obtain ⟨b, off, rfl, hlb, hc⟩ := HH.out.cells (by omega)
      obtain ⟨h0, h1, h2⟩ := hc k hlt
      have HTK := take_tok ts k (by rw [← HH.out.hl]; exact hlt)
      have HTW := Lib.hid (wide_at HTS.out k)
      have hAS : (bsOf (joinS (ts.take k))).size ≤ 8300000 := by
        rw [bs_size]
        have h1 := joinS_len (ts.take k)
        have h2 := List.length_take_le k ts
        omega
      generalize ts[k]?.getD Tk.null = u at *
      obtain ⟨tk, tt, ta⟩ := u
      dsimp only at h0 h1 h2 HTW
      have d0 := (HI.out.cell (p := ⟨b, off + k * 3, none⟩) hlb).trans h0
      have d1 := (HI.out.cell (p := ⟨b, off + k * 3 + 1, none⟩) hlb).trans h1
      have d2 := (HI.out.cell (p := ⟨b, off + k * 3 + 2, none⟩) hlb).trans h2
      clear h0 h1 h2 hc
      have hVR := fun w => validR_any tk ta tt HTW.out w
      have HSP := Lib.hid (fun w => spellR_any tk ta tt HTW.out w)
      have hsp := spells_append (ts.take k) [⟨tk, tt, ta⟩]
      rw [← HTK] at hsp
      have hPL : (bsOf (spl tk tt)).size ≤ 82 := by rw [bs_size]; exact spl_len tk tt
      cases hv : vld tk tt
      · rw [hv] at hVR
        have HVR := Lib.hid hVR
        rw [spells_no (t := ⟨tk, tt, ta⟩) hv, List.append_nil] at hsp
        have HJ : Hid (bsOf (joinS (ts.take k)) = bsOf (joinS (ts.take (k + 1)))) := by show _ = _; unfold joinS; rw [hsp]
        have HS2 : Hid (decide (spellsS (ts.take k) = []) = decide (spellsS (ts.take (k + 1)) = [])) := by show _ = _; rw [hsp]
        unfold encK at HVR
        clear hVR hv hsp HTK HSP hPL
        obtain ⟨TT, hTT⟩ : ∃ TT, bsOf tt = TT := ⟨_, rfl⟩
        rw [hTT] at HVR d1
        clear hTT
        generalize bsOf (joinS (ts.take k)) = A at *
        generalize decide (spellsS (ts.take k) = []) = fb at *
        go_wp2_with fail
        refine (HVR.out _).mono ?_
        rintro e w1 ⟨rfl, hb1⟩
        have HB1 := Lib.hid (HI.out.trans (hb1.mono HI.out.size))
        clear hb1 HVR d0 d1 d2
        go_wp2
        go_roundw
        case rel => exact ⟨k + 1, by omega, by go_num, by rw [HJ.out], by rw [HS2.out], HB1.out⟩
        case measure => simp [intOf]; omega
      · rw [hv] at hVR
        have HVR := Lib.hid hVR
        rw [spells_yes (t := ⟨tk, tt, ta⟩) hv] at hsp
        have HS2 : Hid (decide (spellsS (ts.take (k + 1)) = []) = false) := by show _ = _; rw [hsp]; simp
        unfold encK at HVR HSP
        obtain ⟨TT, hTT⟩ : ∃ TT, bsOf tt = TT := ⟨_, rfl⟩
        rw [hTT] at HVR HSP d1
        clear hTT hVR hv HTK
        by_cases he : spellsS (ts.take k) = []
        · have hc2 := bs_two (joinS (ts.take k)) (spl tk tt)
          have HG : Hid (joinS (ts.take k) ++ spl tk tt = joinS (ts.take (k + 1))) := by
            show _ = _
            unfold joinS
            rw [hsp, he, List.nil_append, join_one, join_none]; rfl
          rw [HG.out] at hc2
          rw [decide_eq_true he]
          clear HG he hsp
          generalize bsOf (joinS (ts.take k)) = A at *
          generalize bsOf (spl tk tt) = SP at *
          generalize hA3 : bsOf (joinS (ts.take (k + 1))) = A3 at *
          have HA3 := Lib.hid hA3
          clear hA3
          go_wp2_with fail
          refine (HVR.out _).mono ?_
          rintro e w1 ⟨rfl, hb1⟩
          have HB1 := Lib.hid (HI.out.trans (hb1.mono HI.out.size))
          have g0 := (hb1.cell (p := ⟨b, off + k * 3, none⟩) (Nat.lt_of_lt_of_le hlb HI.out.size)).trans d0
          have g1 := (hb1.cell (p := ⟨b, off + k * 3 + 1, none⟩) (Nat.lt_of_lt_of_le hlb HI.out.size)).trans d1
          have g2 := (hb1.cell (p := ⟨b, off + k * 3 + 2, none⟩) (Nat.lt_of_lt_of_le hlb HI.out.size)).trans d2
          clear hb1 HVR d0 d1 d2
          go_wp2_with fail
          refine (HSP.out _).mono ?_
          rintro e w2 ⟨rfl, hb2⟩
          have HB2 := Lib.hid (HB1.out.trans (hb2.mono HB1.out.size))
          clear hb2 HSP g0 g1 g2
          go_wp2
          go_roundw
          case rel => exact ⟨k + 1, by omega, by go_num, by rw [HA3.out], by rw [HS2.out], HB2.out⟩
          case measure => simp [intOf]; omega
        · have hc1 := bs_two (joinS (ts.take k)) [32]
          rw [show bsOf [32] = (⟨#[32]⟩ : ByteArray) from rfl] at hc1
          have hc2 := bs_two (joinS (ts.take k) ++ [32]) (spl tk tt)
          have HG : Hid (joinS (ts.take k) ++ [32] ++ spl tk tt = joinS (ts.take (k + 1))) := by
            show _ = _
            unfold joinS
            rw [hsp, join_snoc _ _ he]
          rw [HG.out] at hc2
          have hA2 : (bsOf (joinS (ts.take k) ++ [32])).size ≤ 8300001 := by
            rw [bs_size, List.length_append]; rw [bs_size] at hAS; simp; omega
          rw [decide_eq_false he]
          clear HG he hsp
          generalize bsOf (joinS (ts.take k) ++ [32]) = A2 at *
          generalize bsOf (joinS (ts.take k)) = A at *
          generalize bsOf (spl tk tt) = SP at *
          generalize hA3 : bsOf (joinS (ts.take (k + 1))) = A3 at *
          have HA3 := Lib.hid hA3
          clear hA3
          go_wp2_with fail
          refine (HVR.out _).mono ?_
          rintro e w1 ⟨rfl, hb1⟩
          have HB1 := Lib.hid (HI.out.trans (hb1.mono HI.out.size))
          have g0 := (hb1.cell (p := ⟨b, off + k * 3, none⟩) (Nat.lt_of_lt_of_le hlb HI.out.size)).trans d0
          have g1 := (hb1.cell (p := ⟨b, off + k * 3 + 1, none⟩) (Nat.lt_of_lt_of_le hlb HI.out.size)).trans d1
          have g2 := (hb1.cell (p := ⟨b, off + k * 3 + 2, none⟩) (Nat.lt_of_lt_of_le hlb HI.out.size)).trans d2
          clear hb1 HVR d0 d1 d2
          go_wp2_with fail
          refine (HSP.out _).mono ?_
          rintro e w2 ⟨rfl, hb2⟩
          have HB2 := Lib.hid (HB1.out.trans (hb2.mono HB1.out.size))
          clear hb2 HSP g0 g1 g2
          go_wp2
          go_roundw
          case rel => exact ⟨k + 1, by omega, by go_num, by rw [HA3.out], by rw [HS2.out], HB2.out⟩
          case measure => simp [intOf]; omega
    · obtain rfl : k = n := by omega
      have HE : Hid (joinS (ts.take k) = joinS ts) := by show _ = _; rw [List.take_of_length_le (by have := HH.out.hl; omega)]
      rw [HE.out]
      clear hlt hk HE
      generalize decide (spellsS (ts.take k) = []) = fb at *
      go_wp2
      go_ret
      exact ⟨rfl, HI.out⟩

/-! ### Lines -/

set_option maxRecDepth 100000 in
set_option maxHeartbeats 2000000 in
theorem lineR_any (s : List UInt8) (at_ : Int) (hs : s.length ≤ 1048576) (w : World) : Calls Try.prog 17 #[.string (bsOf s), .int .i64 at_] w fun e V => e = .returned (.agg #[.int .i64 ((lineS s at_).1 : Int), .int .i64 ((lineS s at_).2 : Int)]) ∧ Below w.heap.size w V := by
  have HZ := Lib.hid (bs_size s)
  have HAT := Lib.hid (bs_at s)
  have HLN : Hid (lineS s at_ = lnS (s.take (min (max at_ 0).toNat s.length)) (1, 1)) := rfl
  generalize lineS s at_ = r at *
  obtain ⟨S, hS⟩ : ∃ S, bsOf s = S := ⟨_, rfl⟩
  rw [hS] at HZ HAT ⊢
  have hss : S.size ≤ 1048576 := by rw [HZ.out]; exact hs
  clear hS hs
  go_enter Try.func17, Try.ntmps17
  go_wp2
  go_loop [5, 6, 7] (fun lv cv iv => ∃ k p q : Nat, k ≤ S.size ∧ (k : Int) ≤ max at_ 0 ∧ p ≤ k + 1 ∧ q ≤ k + 1 ∧ iv = .int .i64 (k : Int) ∧ lv = .int .i64 (p : Int) ∧ cv = .int .i64 (q : Int) ∧ Hid (lnS (s.take k) (1, 1) = (p, q))) (fun _ _ i => S.size - (intOf i).toNat)
  case atStart => exact ⟨0, 1, 1, Nat.zero_le _, by omega, by omega, by omega, rfl, rfl, rfl, rfl⟩
  case round =>
    obtain ⟨k, p, q, hk, hka, hp, hq, rfl, rfl, rfl, HI⟩ := hrel
    by_cases hat : (k : Int) < at_
    · by_cases hlt : k < S.size
      · have hx := HAT.out k hlt
        have HST := Lib.hid (lnS_snoc s k (by rw [← HZ.out]; exact hlt) (1, 1))
        by_cases h10 : (s[k]?.getD 0).toNat = 10
        · have HN : Hid (lnS (s.take (k + 1)) (1, 1) = (p + 1, 1)) := by show _ = _; rw [HST.out, if_pos h10, HI.out]
          have e10 : (((s[k]?.getD 0).toNat : Int) == 10) = true := by rw [h10]; rfl
          clear h10 HST
          generalize s[k]?.getD 0 = x at *
          go_wp2
          go_round
          case rel => exact ⟨k + 1, p + 1, 1, by omega, by omega, by omega, by omega, by go_num, by go_num, rfl, HN.out⟩
          case measure => simp [intOf]; omega
        · have HN : Hid (lnS (s.take (k + 1)) (1, 1) = (p, q + 1)) := by show _ = _; rw [HST.out, if_neg h10, HI.out]
          have e10 : (((s[k]?.getD 0).toNat : Int) == 10) = false := beq_false_of_ne (by omega)
          clear h10 HST
          generalize s[k]?.getD 0 = x at *
          go_wp2
          go_round
          case rel => exact ⟨k + 1, p, q + 1, by omega, by omega, by omega, by omega, by go_num, rfl, by go_num, HN.out⟩
          case measure => simp [intOf]; omega
      · have HE : Hid (r = (p, q)) := by
          show _ = _
          rw [HLN.out, show min (max at_ 0).toNat s.length = k by have := HZ.out; omega]; exact HI.out
        have hl2 : ¬ (k : Int) < (S.size : Int) := by omega
        clear hlt
        go_wp2
        exact bodyPost_ret (v := .agg #[.int .i64 (p : Int), .int .i64 (q : Int)]) (by simp [results, Try.results17, go_sem]) rfl ⟨by rw [HE.out], (Below.refl w.heap.size w).alloc (Nat.le_refl _) _⟩
    · have HE : Hid (r = (p, q)) := by
        show _ = _
        rw [HLN.out, show min (max at_ 0).toNat s.length = k by have := HZ.out; omega]; exact HI.out
      go_wp2
      exact bodyPost_ret (v := .agg #[.int .i64 (p : Int), .int .i64 (q : Int)]) (by simp [results, Try.results17, go_sem]) rfl ⟨by rw [HE.out], (Below.refl w.heap.size w).alloc (Nat.le_refl _) _⟩

/-! ### What is short -/

def SmallPost (S : ByteArray) (n : Nat) (ts : List Tk) (w : World) (e : Ending) (V : World) : Prop :=
  ∃ b : Bool, e = .returned (.bool b) ∧ w = V ∧ (b = true → S.size ≤ 2000 ∧ n ≤ 2000 ∧ ∀ t ∈ ts, t.s.length ≤ 2000)
set_option maxRecDepth 100000 in
set_option maxHeartbeats 2000000 in
theorem small_any {S : ByteArray} {a : Option Addr} {n c : Nat} {ts : List Tk} {w : World} (h : RdK w a n c ts) (hS : S.size ≤ 140737488351232) (hts : ∀ t ∈ ts, t.s.length ≤ 140737488351232) :
    Calls Try.prog 5 #[.string S, .slice a n c] w (SmallPost S n ts w) := by
  have HH := Lib.hid h
  have HTS := Lib.hid hts
  have hnc := h.fit
  have hct := h.top
  clear h hts
  go_enter Try.func5, Try.ntmps5
  go_wp2
  go_loop [5, 6] (fun mv iv => ∃ k m : Nat, k ≤ n ∧ iv = .int .i64 (k : Int) ∧ mv = .int .i64 (m : Int) ∧ m ≤ 281474976710656 ∧ Hid (S.size + k ≤ m ∧ ∀ j, j < k → (ts[j]?.getD Tk.null).s.length ≤ m)) (fun _ i => n - (intOf i).toNat)
  case atStart => exact ⟨0, S.size, Nat.zero_le _, rfl, rfl, by omega, by omega, fun j hj => by omega⟩
  case round =>
    obtain ⟨k, m, hk, rfl, rfl, hm, HI⟩ := hrel
    by_cases hlt : k < n
    · by_cases hm2 : m ≤ 2000
      · obtain ⟨b, off, rfl, hlb, hc⟩ := HH.out.cells (by omega)
        obtain ⟨h0, h1, h2⟩ := hc k hlt
        have hkl : k < ts.length := by rw [← HH.out.hl]; exact hlt
        have HW : Hid ((ts[k]?.getD Tk.null).s.length ≤ 140737488351232) := by
          rw [List.getElem?_eq_getElem hkl]; exact HTS.out _ (List.getElem_mem hkl)
        have HN : Hid (S.size + (k + 1) ≤ m + (1 + (ts[k]?.getD Tk.null).s.length) ∧ ∀ j, j < k + 1 → (ts[j]?.getD Tk.null).s.length ≤ m + (1 + (ts[k]?.getD Tk.null).s.length)) := by
          refine ⟨by have := HI.out.1; omega, fun j hj => ?_⟩
          by_cases e : j = k
          · rw [e]; omega
          · have := HI.out.2 j (by omega); omega
        have hz := bs_size (ts[k]?.getD Tk.null).s
        have hw := HW.out
        generalize (ts[k]?.getD Tk.null).s.length = L at *
        generalize bsOf (ts[k]?.getD Tk.null).s = TT at *
        subst hz
        clear h0 h2 hc hkl
        go_wp2
        go_round
        case rel => exact ⟨k + 1, m + (1 + TT.size), by omega, by go_num, by go_num, by omega, HN.out⟩
        case measure => simp [intOf]; omega
      · go_wp2
        go_ret
        exact ⟨false, ret_b (by simp; omega), rfl, fun h => by cases h⟩
    · obtain rfl : k = n := by omega
      have HF : Hid (decide (m ≤ 2000) = true → S.size ≤ 2000 ∧ k ≤ 2000 ∧ ∀ t ∈ ts, t.s.length ≤ 2000) := fun hd => by
        have h2 := of_decide_eq_true hd
        have h1 := HI.out.1
        refine ⟨by omega, by omega, fun t ht => ?_⟩
        obtain ⟨j, hj, rfl⟩ := List.getElem_of_mem ht
        have := HI.out.2 j (by rw [HH.out.hl]; exact hj)
        rw [List.getElem?_eq_getElem hj] at this
        exact Nat.le_trans this h2
      by_cases hm2 : m ≤ 2000
      · rw [decide_eq_true hm2] at HF
        go_wp2
        go_ret
        exact ⟨true, ret_b (by simp; omega), rfl, fun _ => HF.out trivial⟩
      · go_wp2
        go_ret
        exact ⟨false, ret_b (by simp; omega), rfl, fun h => by cases h⟩

end Go.Proofs.Ytohobiglnebocaa.Lx
