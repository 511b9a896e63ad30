/-
  Tokens are read: texts.
-/
import Derived.Test.YtohobiglnebocaaLxRead
import Derived.StillTailTactics
import Derived.Deep.RegionHeld3
import Derived.Deep.AppendLies
namespace Go.Proofs.Ytohobiglnebocaa.Lx
open Go Go.RowKit Go.Shelf Go.Sort Go.ChangeShapes Go.WideShapes Go.ChangeAt
open Go.Proofs.Ytohobiglnebocaa

theorem rdT_quote {l : List UInt8} (hl : l ≠ []) (h : (hd l).toNat = 34) : rdT l = ([], 1) := by
  cases l with
  | nil => exact absurd rfl hl
  | cons b l =>
    rw [hd_cons] at h
    cases l with
    | nil => rw [rdT, if_pos h]
    | cons c l => rw [rdT, if_pos h]
theorem rdT_esc {b c : UInt8} {l : List UInt8} (h : b.toNat = 92) : rdT (b :: c :: l) = (c :: (rdT l).1, 2 + (rdT l).2) := by
  rw [rdT, if_neg (by omega), if_pos h]
theorem rdT_one {b : UInt8} {l : List UInt8} (h : b.toNat ≠ 34) (h2 : b.toNat ≠ 92 ∨ l = []) : rdT (b :: l) = (b :: (rdT l).1, 1 + (rdT l).2) := by
  cases l with
  | nil => show (if b.toNat = 34 then _ else _) = _; rw [if_neg h]; rfl
  | cons c l =>
    rw [rdT, if_neg h, if_neg (by rcases h2 with h2 | h2; exact h2; cases h2)]
theorem drop_one {s : List UInt8} {k : Nat} (h : k < s.length) : s.drop k = s[k]?.getD 0 :: s.drop (k + 1) := by
  rw [List.drop_eq_getElem_cons h, List.getElem?_eq_getElem h]; rfl

/-- What a row of bytes reads as. -/
theorem row_rd {W : World} {base : Nat} {v : Value} {zs : List Int} (h : W.ownsRow base 5 1 v zs.length (zs.map (Value.int .u8))) (hl : zs.length ≤ 1048576) : ∃ a c, v = .slice a zs.length c ∧ Rd (fun _ => True) W .u8 a zs.length c zs := by
  rcases h.2 with ⟨rfl, h0⟩ | ⟨g, cap, cur, rfl, hb, hg, hc, hm, hcs, ht⟩
  · obtain rfl : zs = [] := List.eq_nil_of_length_eq_zero h0
    exact ⟨none, 0, rfl, rfl, Nat.le_refl _, by decide, by decide, fun h => absurd h (by decide)⟩
  · exact ⟨_, cap, rfl, (Rd.of_row (base := base) rfl hc (by omega) ⟨h.1, .inr ⟨g, cap, cur, rfl, hb, hg, hc, hm, hcs, ht⟩⟩).mono fun _ _ _ => trivial⟩

theorem own_base {A : World} {base : Nat} {e : TypeId} {size : Nat} {v : Value} {n : Nat} {xs : List Value} (h : A.ownsRow base e size v n xs) : ∀ k, v.ownBlock = some k → base ≤ k := by
  intro k hk
  rcases h.2 with ⟨rfl, _⟩ | ⟨g, cap, cur, rfl, hb, _⟩
  · cases hk
  · cases hk; exact hb
theorem kept_grown {w A A' C : World} {B : Nat} {r : Option Nat} (h : Kept (fun b => b ≠ B) w A) (ha : Below A.heap.size A A') (hg : A'.grownBy C r) (hr : ∀ k, r = some k → w.heap.size ≤ k) : Kept (fun b => b ≠ B) w C :=
  ⟨hg.os.trans (ha.os.trans h.os), hg.tape.trans (ha.tape.trans h.tape), hg.output.trans (ha.output.trans h.output), Nat.le_trans h.size (Nat.le_trans ha.size hg.size), fun k hk hne => by
    rw [hg.block k (Nat.lt_of_lt_of_le hk (Nat.le_trans h.size ha.size)) (fun e => by have := hr k e.symm; omega), ha.block k (Nat.lt_of_lt_of_le hk h.size)]
    exact h.block k hk hne⟩
theorem two_grown {A A' C : World} {B a : Nat} {s : ByteArray} {r : Option Nat} (h : Two A B s a) (ha : Below A.heap.size A A') (hg : A'.grownBy C r) (hr : some B ≠ r) : Two C B s a :=
  ((hg.block B (Nat.lt_of_lt_of_le h.lt ha.size) hr).trans (ha.block B h.lt)).trans h
/-- A row elsewhere. -/
theorem row_kept {A C : World} {base r : Nat} {e : TypeId} {size : Nat} {v : Value} {n : Nat} {xs : List Value} (h : A.ownsRow base e size v n xs) (hb : Kept (fun b => b ≠ r) A C) (hr : r < base) : C.ownsRow base e size v n xs := by
  refine ⟨h.1, ?_⟩
  rcases h.2 with h | ⟨g, cap, cur, h1, h2, h3, h4⟩
  · exact .inl h
  · exact .inr ⟨g, cap, cur, h1, h2, (hb.block g (Array.getElem?_eq_some_iff.1 h3).1 (by omega)).trans h3, h4⟩

set_option maxRecDepth 100000 in
set_option maxHeartbeats 4000000 in
theorem text_any {s : List UInt8} {B a : Nat} {w : World} (h : Two w B (bsOf s) a) (ha : a < s.length) (hs : s.length ≤ 1048576) :
    Calls Try.prog 56 #[.pointer (some ⟨B, 0, none⟩)] w fun e V => e = .returned (.string (bsOf (rdT (s.drop (a + 1))).1)) ∧ Two V B (bsOf s) (a + 1 + (rdT (s.drop (a + 1))).2) ∧ Kept (fun b => b ≠ B) w V := by
  obtain ⟨i0, hi, hz0, hz1, hz2⟩ := info_parts Try.infoB
  have HZ := Lib.hid (bs_size s)
  have HAT := Lib.hid (bs_at s)
  have q1 := h.c1
  have hf := h.f 1
  have HT0 := Lib.hid (h.set1 (a + 1))
  have HK0 : Hid (Kept (fun b => b ≠ B) w (w.setCell ⟨B, 1, none⟩ (.int .i64 ((a + 1 : Nat) : Int)))) := kept_set _ _ _ _
  have HBW := Lib.hid h.lt
  obtain ⟨R, hR⟩ : ∃ R, rdT (s.drop (a + 1)) = R := ⟨_, rfl⟩
  have HR := Lib.hid hR
  rw [hR]
  clear hR
  have HRL : Hid (R.1.length ≤ s.length) := by
    have h1 := rdT_le (s.drop (a + 1))
    rw [HR.out, List.length_drop] at h1
    show _ ≤ _; omega
  obtain ⟨S, hS⟩ : ∃ S, bsOf s = S := ⟨_, rfl⟩
  rw [hS] at HZ HAT HT0 h ⊢
  have haS : a + 1 ≤ S.size := by rw [HZ.out]; omega
  have hss : S.size ≤ 1048576 := by rw [HZ.out]; exact hs
  have HSL : Hid (s.length ≤ 1048576) := hs
  clear hS hs h ha
  go_enter Try.func56, Try.ntmps56
  go_wp2
  obtain ⟨W1, hW1⟩ : ∃ W1, w.setCell ⟨B, 1, none⟩ (.int .i64 ((a + 1 : Nat) : Int)) = W1 := ⟨_, rfl⟩
  rw [hW1] at HT0 HK0
  have hW3 : w.setCell ⟨B, 1, none⟩ (.int .i64 ((a : Int) + 1)) = W1 := hW1
  rw [hW3]
  clear hW1 hW3 hf q1
  go_loopw [3] (fun v wr => ∃ (k : Nat) (acc : List UInt8), Hid (Two wr B S k ∧ k ≤ S.size ∧ wr.ownsRow w.heap.size 5 1 v (strI acc).length ((strI acc).map (Value.int .u8)) ∧ acc ++ (rdT (s.drop k)).1 = R.1 ∧ k + (rdT (s.drop k)).2 = a + 1 + R.2 ∧ Kept (fun b => b ≠ B) w wr)) (fun _ wr => S.size - (intOf ((wr.cell? ⟨B, 1, none⟩).getD undef)).toNat)
  case atStart => exact ⟨a + 1, [], HT0.out, haS, ⟨rfl, .inl ⟨rfl, rfl⟩⟩, by rw [HR.out]; rfl, by rw [HR.out], HK0.out⟩
  case round =>
    obtain ⟨k, acc, HI⟩ := hrel
    have hk := HI.out.2.1
    have HAL : Hid (acc.length ≤ 1048576) := by
      show _ ≤ _
      have h1 := HI.out.2.2.2.1
      have h2 := congrArg List.length h1
      rw [List.length_append] at h2
      have h3 := HRL.out; have h4 := HSL.out
      omega
    have c0 := HI.out.1.c0
    have c1 := HI.out.1.c1
    have K0 := fun d os => cell_regrown c0 d os
    have K1 := fun d os => cell_regrown c1 d os
    by_cases hlt : k < S.size
    · have hx := HAT.out k hlt
      have HDR := Lib.hid (drop_one (s := s) (k := k) (by rw [← HZ.out]; exact hlt))
      by_cases h34 : (s[k]?.getD 0).toNat = 34
      · have HE := Lib.hid (rdT_quote (l := s.drop k) (by rw [HDR.out]; simp) (by rw [HDR.out]; exact h34))
        rw [HE.out] at HI
        have e1 : (((s[k]?.getD 0).toNat : Int) != 34) = false := by rw [h34]; rfl
        clear h34 HDR
        generalize s[k]?.getD 0 = x at *
        go_upto_region 3 with fail
        refine wp_region_quiet_below (by kernel_rfl) (by kernel_rfl) ?_
        repeat (go_big_quiet_step (fail))
        refine wpQuiet_nil ?_
        intro _ hw'
        obtain ⟨⟨dq, osq⟩, hw''⟩ := hw'
        subst hw''
        have HBQ : Hid (Below wr.heap.size wr (grow (redrawn wr dq) osq)) := below_regrown wr dq osq
        generalize grow (redrawn wr dq) osq = WQ at *
        have HT : Hid (Two WQ B S k) := HI.out.1.below HBQ.out HI.out.1.lt
        have HX : Hid (WQ.ownsRow w.heap.size 5 1 u3 (strI acc).length ((strI acc).map (Value.int .u8))) := row_below HI.out.2.2.1 HBQ.out
        have HK : Hid (Kept (fun b => b ≠ B) w WQ) := HI.out.2.2.2.2.2.trans (Kept.all HBQ.out)
        clear K0 K1 c0 c1 hx
        have c0 := HT.out.c0
        have c1 := HT.out.c1
        have hf := HT.out.f 1
        have hw1 : IntKind.i64.wrap ((k : Int) + 1) = (k : Int) + 1 := by rw [IntKind.wrap_i64]; omega
        have hm1 : (k : Int) + 1 ≤ (S.size : Int) := by omega
        have hmin : min ((k : Int) + 1) (S.size : Int) = (k : Int) + 1 := by omega
        go_upto_region 8 with fail
        go_still_tail 14, (by kernel_rfl)
        change wpList _ _ _ _ _ WQ.drew
        have HTD : Hid (Two WQ.drew B S k) := HT.out
        have HXD : Hid (WQ.drew.ownsRow w.heap.size 5 1 u3 (strI acc).length ((strI acc).map (Value.int .u8))) := HX.out.drew
        have HKD : Hid (Kept (fun b => b ≠ B) w WQ.drew) := HK.out.drew
        clear HT HX HK HBQ c0 c1 hf
        generalize WQ.drew = WD at *
        have c1 := HTD.out.c1
        have hf := HTD.out.f 1
        have HTE := Lib.hid (HTD.out.set1 (k + 1))
        have HXE := Lib.hid (row_kept HXD.out (kept_set WD B 1 (.int .i64 ((k + 1 : Nat) : Int))) HBW.out)
        have HKE := Lib.hid (HKD.out.trans (kept_set WD B 1 (.int .i64 ((k + 1 : Nat) : Int))))
        go_upto_region 9 with fail
        obtain ⟨WE, hWE⟩ : ∃ WE, WD.setCell ⟨B, 1, none⟩ (.int .i64 ((k + 1 : Nat) : Int)) = WE := ⟨_, rfl⟩
        rw [hWE] at HTE HXE HKE
        have hWE3 : WD.setCell ⟨B, 1, none⟩ (.int .i64 ((k : Int) + 1)) = WE := hWE
        rw [hWE3]
        clear hWE hWE3 c1 hf
        obtain ⟨a3, c3, rfl, hR3⟩ := row_rd HXE.out (by rw [strI_len]; exact HAL.out)
        have hcv := conv_back hR3 WE rfl
        rw [strU_strI] at hcv
        clear hR3 HXE HXD
        go_wp2
        go_ret
        exact ⟨ret_s (by have h1 := HI.out.2.2.2.1; rw [List.append_nil] at h1; exact h1), by have h1 := HI.out.2.2.2.2.1; show Two WE B S (a + 1 + R.2); rw [← h1]; exact HTE.out, HKE.out⟩
      · have e1 : (((s[k]?.getD 0).toNat : Int) != 34) = true := by rw [bne_iff_ne]; omega
        by_cases h92 : (s[k]?.getD 0).toNat = 92
        · have e2 : (((s[k]?.getD 0).toNat : Int) == 92) = true := by rw [h92]; rfl
          have hw1 : IntKind.i64.wrap ((k : Int) + 1) = (k : Int) + 1 := by rw [IntKind.wrap_i64]; omega
          by_cases hlt2 : k + 1 < S.size
          · have HRD : Hid (rdT (s.drop k) = (s[k + 1]?.getD 0 :: (rdT (s.drop (k + 1 + 1))).1, 2 + (rdT (s.drop (k + 1 + 1))).2)) := by
              have h1 := HDR.out
              rw [drop_one (s := s) (k := k + 1) (by rw [← HZ.out]; exact hlt2)] at h1
              show _ = _
              rw [h1, rdT_esc h92]
            obtain ⟨m, hmk⟩ : ∃ m, k + 1 = m := ⟨_, rfl⟩
            have HYR : Hid (acc ++ [s[m]?.getD 0] ++ (rdT (s.drop (m + 1))).1 = R.1 ∧ m + 1 + (rdT (s.drop (m + 1))).2 = a + 1 + R.2) := by
              have h1 := HI.out.2.2.2.1
              have h2 := HI.out.2.2.2.2.1
              rw [HRD.out] at h1 h2
              subst hmk
              exact ⟨by rw [← h1]; simp, by rw [← h2]; simp; omega⟩
            have hd2 : (k : Int) + 1 < (S.size : Int) := by omega
            clear HRD h34 h92 HDR
            generalize s[k]?.getD 0 = x at *
            go_upto_region 3 with fail
            refine wp_region_quiet_below (by kernel_rfl) (by kernel_rfl) ?_
            repeat (go_big_quiet_step (fail))
            refine wpQuiet_nil ?_
            intro _ hw'
            obtain ⟨⟨dq, osq⟩, hw''⟩ := hw'
            subst hw''
            have HBQ : Hid (Below wr.heap.size wr (grow (redrawn wr dq) osq)) := below_regrown wr dq osq
            generalize grow (redrawn wr dq) osq = WQ at *
            have HT1 : Hid (Two WQ B S k) := HI.out.1.below HBQ.out HI.out.1.lt
            have HX1 : Hid (WQ.ownsRow w.heap.size 5 1 u3 (strI acc).length ((strI acc).map (Value.int .u8))) := row_below HI.out.2.2.1 HBQ.out
            have HK1 : Hid (Kept (fun b => b ≠ B) w WQ) := HI.out.2.2.2.2.2.trans (Kept.all HBQ.out)
            clear K0 K1 c0 c1 HBQ
            have c0 := HT1.out.c0
            have c1 := HT1.out.c1
            have K0 := fun d os => cell_regrown c0 d os
            have K1 := fun d os => cell_regrown c1 d os
            go_upto_region 4 with fail
            refine wp_region_quiet_below (by kernel_rfl) (by kernel_rfl) ?_
            repeat (go_big_quiet_step (fail))
            refine wpQuiet_nil ?_
            intro _ hw'
            obtain ⟨⟨dq, osq⟩, hw''⟩ := hw'
            subst hw''
            have HBQ : Hid (Below WQ.heap.size WQ (grow (redrawn WQ dq) osq)) := below_regrown WQ dq osq
            generalize grow (redrawn WQ dq) osq = WA at *
            have HT : Hid (Two WA B S k) := HT1.out.below HBQ.out HT1.out.lt
            have HX : Hid (WA.ownsRow w.heap.size 5 1 u3 (strI acc).length ((strI acc).map (Value.int .u8))) := row_below HX1.out HBQ.out
            have HK : Hid (Kept (fun b => b ≠ B) w WA) := HK1.out.trans (Kept.all HBQ.out)
            clear K0 K1 c0 c1 HBQ HT1 HX1 HK1
            have c1 := HT.out.c1
            have hf := HT.out.f 1
            have HT2 := Lib.hid (HT.out.set1 (k + 1))
            have HK2 := Lib.hid (HK.out.trans (kept_set WA B 1 (.int .i64 ((k + 1 : Nat) : Int))))
            have HX2 := Lib.hid (row_kept HX.out (kept_set WA B 1 (.int .i64 ((k + 1 : Nat) : Int))) HBW.out)
            have HMK := Lib.hid hmk
            have hm : m < S.size := by omega
            have hkm : k < m := by omega
            clear hmk hw1 hd2 hx
            go_upto_region 6 with fail
            obtain ⟨WB, hWB⟩ : ∃ WB, WA.setCell ⟨B, 1, none⟩ (.int .i64 ((k + 1 : Nat) : Int)) = WB := ⟨_, rfl⟩
            rw [hWB] at HT2 HK2 HX2
            have hW3 : WA.setCell ⟨B, 1, none⟩ (.int .i64 ((k : Int) + 1)) = WB := hWB
            rw [hW3]
            clear hWB hW3 hf c1 HT HK HX
            rw [HMK.out] at HT2
            have HT := Lib.hid HT2.out
            have HK := Lib.hid HK2.out
            have HX := Lib.hid HX2.out
            clear HT2 HK2 HX2
            have hy := HAT.out (m) hm
            generalize s[m]?.getD 0 = y at *
            have HBO : Hid (some B ≠ u3.ownBlock) := fun e => by have h1 := own_base HX.out B e.symm; have h2 := HBW.out; omega
            have hbo := HBO.out
            have hBz : B < WB.heap.size := HT.out.lt
            have hwz : w.heap.size ≤ WB.heap.size := HK.out.size
            have hac : (strI acc).length ≤ 1048576 := by rw [strI_len]; exact HAL.out
            have c0 := HT.out.c0
            have c1 := HT.out.c1
            go_region_held3 (fun W => W.cell? ⟨B, 0, none⟩ = some (.string S) ∧ W.cell? ⟨B, 1, none⟩ = some (.int .i64 (m : Int)))
              (first
                | go_keep
                | (go_split_ands
                   refine ⟨?_, ?_⟩
                   · (rw [hgrow.cell_far _ (by simp; omega) (by exact hbo)]; assumption)
                   · (rw [hgrow.cell_far _ (by simp; omega) (by exact hbo)]; assumption)))
              ((refine step_append_lies _ (by rfl) _ _ _ (by rfl) w.heap.size 5 i0 _ 1 1 Try.underlying33 hi hz0 hz1 hz2 rfl (by omega) u3 (strI acc).length _ (by rfl) ((HX.out.alloc _).drew)
                    ⟨WB.heap.size, 0, none⟩ 1 1 [.int .u8 (y.toNat : Int)] (by rfl) (by rfl) (World.news_of_block (cs := #[.int .u8 (y.toNat : Int)]) (t := 5) (fr := (0, 0)) (heap_alloc_new WB _)) (by simp [Value.oneCell'])
                    (by omega) (by unfold maxLen; omega) (by omega) (by simp; omega) (WB.heap.size + 1) (by simp) ?_; intro gg cX wX hX' hgrow hat hltX))
            have hB2 : Below WB.heap.size WB (WB.alloc (.cells #[.int .u8 (y.toNat : Int)] 5)).drew := ((Below.refl _ _).alloc (Nat.le_refl _) _).drew
            have HT7 := Lib.hid (two_grown HT.out hB2 hgrow hbo)
            have HK7 := Lib.hid (kept_grown HK.out hB2 hgrow (own_base HX.out))
            have HX7 : Hid (wX.ownsRow w.heap.size 5 1 (.slice (some ⟨gg, 0, none⟩) ((strI acc).length + 1) cX) (strI (acc ++ [y])).length ((strI (acc ++ [y])).map (Value.int .u8))) := by
              have e1 : (strI (acc ++ [y])).length = (strI acc).length + 1 := by simp [strI]
              have e2 : (strI (acc ++ [y])).map (Value.int .u8) = (strI acc).map (Value.int .u8) ++ [Value.int .u8 (y.toNat : Int)] := by simp [strI]
              rw [e1, e2]; exact hX'
            clear hB2 hX' hgrow hat hltX c0 c1 HT HK HX hbo hy
            have c1 := HT7.out.c1
            have hf := HT7.out.f 1
            go_wp2
            go_roundw
            case rel => exact ⟨m + 1, acc ++ [y], HT7.out.set1 (m + 1), by omega, row_kept HX7.out (kept_set _ _ _ _) HBW.out, HYR.out.1, HYR.out.2, HK7.out.trans (kept_set _ _ _ _)⟩
            case measure => rw [show ((wX.setCell ⟨B, 1, none⟩ (.int .i64 ((m : Int) + 1))).cell? ⟨B, 1, none⟩) = some (.int .i64 ((m + 1 : Nat) : Int)) from (HT7.out.set1 (m + 1)).c1, HI.out.1.c1]; simp [intOf]; omega
          · have hn1 : s.drop (k + 1) = [] := List.drop_eq_nil_of_le (by have := HZ.out; omega)
            have hd2 : ¬ (k : Int) + 1 < (S.size : Int) := by omega
            have hd3 : decide ((k : Int) + 1 < (S.size : Int)) = false := decide_eq_false hd2
            have HRD : Hid (rdT (s.drop k) = (s[k]?.getD 0 :: (rdT (s.drop (k + 1))).1, 1 + (rdT (s.drop (k + 1))).2)) := HDR.out ▸ rdT_one h34 (.inr hn1)
            have HYR : Hid (acc ++ [s[k]?.getD 0] ++ (rdT (s.drop (k + 1))).1 = R.1 ∧ k + 1 + (rdT (s.drop (k + 1))).2 = a + 1 + R.2) := by
              have h1 := HI.out.2.2.2.1
              have h2 := HI.out.2.2.2.2.1
              rw [HRD.out] at h1 h2
              exact ⟨by rw [← h1]; simp, by rw [← h2]; simp; omega⟩
            clear HRD h34 h92 HDR
            have hm := hlt
            clear hn1
            generalize hx8 : s[k]?.getD 0 = x at *
            clear hx8
            have HXX := Lib.hid hx
            go_upto_region 3 with fail
            refine wp_region_quiet_below (by kernel_rfl) (by kernel_rfl) ?_
            repeat (go_big_quiet_step (fail))
            refine wpQuiet_nil ?_
            intro _ hw'
            obtain ⟨⟨dq, osq⟩, hw''⟩ := hw'
            subst hw''
            have HBQ : Hid (Below wr.heap.size wr (grow (redrawn wr dq) osq)) := below_regrown wr dq osq
            generalize grow (redrawn wr dq) osq = WQ at *
            have HT1 : Hid (Two WQ B S k) := HI.out.1.below HBQ.out HI.out.1.lt
            have HX1 : Hid (WQ.ownsRow w.heap.size 5 1 u3 (strI acc).length ((strI acc).map (Value.int .u8))) := row_below HI.out.2.2.1 HBQ.out
            have HK1 : Hid (Kept (fun b => b ≠ B) w WQ) := HI.out.2.2.2.2.2.trans (Kept.all HBQ.out)
            clear K0 K1 c0 c1 HBQ
            have c0 := HT1.out.c0
            have c1 := HT1.out.c1
            have K0 := fun d os => cell_regrown c0 d os
            have K1 := fun d os => cell_regrown c1 d os
            go_upto_region 4 with fail
            refine wp_region_quiet_below (by kernel_rfl) (by kernel_rfl) ?_
            repeat (go_big_quiet_step (fail))
            refine wpQuiet_nil ?_
            intro _ hw'
            obtain ⟨⟨dq, osq⟩, hw''⟩ := hw'
            subst hw''
            have HBQ : Hid (Below WQ.heap.size WQ (grow (redrawn WQ dq) osq)) := below_regrown WQ dq osq
            generalize grow (redrawn WQ dq) osq = WA at *
            have HT : Hid (Two WA B S k) := HT1.out.below HBQ.out HT1.out.lt
            have HX : Hid (WA.ownsRow w.heap.size 5 1 u3 (strI acc).length ((strI acc).map (Value.int .u8))) := row_below HX1.out HBQ.out
            have HK : Hid (Kept (fun b => b ≠ B) w WA) := HK1.out.trans (Kept.all HBQ.out)
            clear K0 K1 c0 c1 HBQ HT1 HX1 HK1
            have hy := HXX.out
            obtain ⟨y, rfl⟩ : ∃ y, y = x := ⟨_, rfl⟩
            have HBO : Hid (some B ≠ u3.ownBlock) := fun e => by have h1 := own_base HX.out B e.symm; have h2 := HBW.out; omega
            have hbo := HBO.out
            have hBz : B < WA.heap.size := HT.out.lt
            have hwz : w.heap.size ≤ WA.heap.size := HK.out.size
            have hac : (strI acc).length ≤ 1048576 := by rw [strI_len]; exact HAL.out
            have c0 := HT.out.c0
            have c1 := HT.out.c1
            go_upto_region 6 with fail
            go_region_held3 (fun W => W.cell? ⟨B, 0, none⟩ = some (.string S) ∧ W.cell? ⟨B, 1, none⟩ = some (.int .i64 (k : Int)))
              (first
                | go_keep
                | (go_split_ands
                   refine ⟨?_, ?_⟩
                   · (rw [hgrow.cell_far _ (by simp; omega) (by exact hbo)]; assumption)
                   · (rw [hgrow.cell_far _ (by simp; omega) (by exact hbo)]; assumption)))
              ((refine step_append_lies _ (by rfl) _ _ _ (by rfl) w.heap.size 5 i0 _ 1 1 Try.underlying33 hi hz0 hz1 hz2 rfl (by omega) u3 (strI acc).length _ (by rfl) ((HX.out.alloc _).drew)
                    ⟨WA.heap.size, 0, none⟩ 1 1 [.int .u8 (y.toNat : Int)] (by rfl) (by rfl) (World.news_of_block (cs := #[.int .u8 (y.toNat : Int)]) (t := 5) (fr := (0, 0)) (heap_alloc_new WA _)) (by simp [Value.oneCell'])
                    (by omega) (by unfold maxLen; omega) (by omega) (by simp; omega) (WA.heap.size + 1) (by simp) ?_; intro gg cX wX hX' hgrow hat hltX))
            have hB2 : Below WA.heap.size WA (WA.alloc (.cells #[.int .u8 (y.toNat : Int)] 5)).drew := ((Below.refl _ _).alloc (Nat.le_refl _) _).drew
            have HT7 := Lib.hid (two_grown HT.out hB2 hgrow hbo)
            have HK7 := Lib.hid (kept_grown HK.out hB2 hgrow (own_base HX.out))
            have HX7 : Hid (wX.ownsRow w.heap.size 5 1 (.slice (some ⟨gg, 0, none⟩) ((strI acc).length + 1) cX) (strI (acc ++ [y])).length ((strI (acc ++ [y])).map (Value.int .u8))) := by
              have e1 : (strI (acc ++ [y])).length = (strI acc).length + 1 := by simp [strI]
              have e2 : (strI (acc ++ [y])).map (Value.int .u8) = (strI acc).map (Value.int .u8) ++ [Value.int .u8 (y.toNat : Int)] := by simp [strI]
              rw [e1, e2]; exact hX'
            clear hB2 hX' hgrow hat hltX c0 c1 HT HK HX hbo hy
            have c1 := HT7.out.c1
            have hf := HT7.out.f 1
            go_wp2
            go_roundw
            case rel => exact ⟨k + 1, acc ++ [y], HT7.out.set1 (k + 1), by omega, row_kept HX7.out (kept_set _ _ _ _) HBW.out, HYR.out.1, HYR.out.2, HK7.out.trans (kept_set _ _ _ _)⟩
            case measure => rw [show ((wX.setCell ⟨B, 1, none⟩ (.int .i64 ((k : Int) + 1))).cell? ⟨B, 1, none⟩) = some (.int .i64 ((k + 1 : Nat) : Int)) from (HT7.out.set1 (k + 1)).c1, HI.out.1.c1]; simp [intOf]; omega
        · have e2 : (((s[k]?.getD 0).toNat : Int) == 92) = false := by rw [beq_eq_false_iff_ne]; omega
          have HRD : Hid (rdT (s.drop k) = (s[k]?.getD 0 :: (rdT (s.drop (k + 1))).1, 1 + (rdT (s.drop (k + 1))).2)) := HDR.out ▸ rdT_one h34 (.inl h92)
          have HYR : Hid (acc ++ [s[k]?.getD 0] ++ (rdT (s.drop (k + 1))).1 = R.1 ∧ k + 1 + (rdT (s.drop (k + 1))).2 = a + 1 + R.2) := by
            have h1 := HI.out.2.2.2.1
            have h2 := HI.out.2.2.2.2.1
            rw [HRD.out] at h1 h2
            exact ⟨by rw [← h1]; simp, by rw [← h2]; simp; omega⟩
          clear HRD h34 h92 HDR
          have hm := hlt
          go_upto_region 3 with fail
          refine wp_region_quiet_below (by kernel_rfl) (by kernel_rfl) ?_
          repeat (go_big_quiet_step (fail))
          refine wpQuiet_nil ?_
          intro _ hw'
          obtain ⟨⟨dq, osq⟩, hw''⟩ := hw'
          subst hw''
          have HBQ : Hid (Below wr.heap.size wr (grow (redrawn wr dq) osq)) := below_regrown wr dq osq
          generalize grow (redrawn wr dq) osq = WQ at *
          have HT1 : Hid (Two WQ B S k) := HI.out.1.below HBQ.out HI.out.1.lt
          have HX1 : Hid (WQ.ownsRow w.heap.size 5 1 u3 (strI acc).length ((strI acc).map (Value.int .u8))) := row_below HI.out.2.2.1 HBQ.out
          have HK1 : Hid (Kept (fun b => b ≠ B) w WQ) := HI.out.2.2.2.2.2.trans (Kept.all HBQ.out)
          clear K0 K1 c0 c1 HBQ
          have c0 := HT1.out.c0
          have c1 := HT1.out.c1
          have K0 := fun d os => cell_regrown c0 d os
          have K1 := fun d os => cell_regrown c1 d os
          go_upto_region 4 with fail
          refine wp_region_quiet_below (by kernel_rfl) (by kernel_rfl) ?_
          repeat (go_big_quiet_step (fail))
          refine wpQuiet_nil ?_
          intro _ hw'
          obtain ⟨⟨dq, osq⟩, hw''⟩ := hw'
          subst hw''
          have HBQ : Hid (Below WQ.heap.size WQ (grow (redrawn WQ dq) osq)) := below_regrown WQ dq osq
          generalize grow (redrawn WQ dq) osq = WA at *
          have HT : Hid (Two WA B S k) := HT1.out.below HBQ.out HT1.out.lt
          have HX : Hid (WA.ownsRow w.heap.size 5 1 u3 (strI acc).length ((strI acc).map (Value.int .u8))) := row_below HX1.out HBQ.out
          have HK : Hid (Kept (fun b => b ≠ B) w WA) := HK1.out.trans (Kept.all HBQ.out)
          clear K0 K1 c0 c1 HBQ HT1 HX1 HK1
          have hy := HAT.out (k) hm
          generalize s[k]?.getD 0 = y at *
          have HBO : Hid (some B ≠ u3.ownBlock) := fun e => by have h1 := own_base HX.out B e.symm; have h2 := HBW.out; omega
          have hbo := HBO.out
          have hBz : B < WA.heap.size := HT.out.lt
          have hwz : w.heap.size ≤ WA.heap.size := HK.out.size
          have hac : (strI acc).length ≤ 1048576 := by rw [strI_len]; exact HAL.out
          have c0 := HT.out.c0
          have c1 := HT.out.c1
          go_upto_region 6 with fail
          go_region_held3 (fun W => W.cell? ⟨B, 0, none⟩ = some (.string S) ∧ W.cell? ⟨B, 1, none⟩ = some (.int .i64 (k : Int)))
            (first
              | go_keep
              | (go_split_ands
                 refine ⟨?_, ?_⟩
                 · (rw [hgrow.cell_far _ (by simp; omega) (by exact hbo)]; assumption)
                 · (rw [hgrow.cell_far _ (by simp; omega) (by exact hbo)]; assumption)))
            ((refine step_append_lies _ (by rfl) _ _ _ (by rfl) w.heap.size 5 i0 _ 1 1 Try.underlying33 hi hz0 hz1 hz2 rfl (by omega) u3 (strI acc).length _ (by rfl) ((HX.out.alloc _).drew)
                  ⟨WA.heap.size, 0, none⟩ 1 1 [.int .u8 (y.toNat : Int)] (by rfl) (by rfl) (World.news_of_block (cs := #[.int .u8 (y.toNat : Int)]) (t := 5) (fr := (0, 0)) (heap_alloc_new WA _)) (by simp [Value.oneCell'])
                  (by omega) (by unfold maxLen; omega) (by omega) (by simp; omega) (WA.heap.size + 1) (by simp) ?_; intro gg cX wX hX' hgrow hat hltX))
          have hB2 : Below WA.heap.size WA (WA.alloc (.cells #[.int .u8 (y.toNat : Int)] 5)).drew := ((Below.refl _ _).alloc (Nat.le_refl _) _).drew
          have HT7 := Lib.hid (two_grown HT.out hB2 hgrow hbo)
          have HK7 := Lib.hid (kept_grown HK.out hB2 hgrow (own_base HX.out))
          have HX7 : Hid (wX.ownsRow w.heap.size 5 1 (.slice (some ⟨gg, 0, none⟩) ((strI acc).length + 1) cX) (strI (acc ++ [y])).length ((strI (acc ++ [y])).map (Value.int .u8))) := by
            have e1 : (strI (acc ++ [y])).length = (strI acc).length + 1 := by simp [strI]
            have e2 : (strI (acc ++ [y])).map (Value.int .u8) = (strI acc).map (Value.int .u8) ++ [Value.int .u8 (y.toNat : Int)] := by simp [strI]
            rw [e1, e2]; exact hX'
          clear hB2 hX' hgrow hat hltX c0 c1 HT HK HX hbo hy
          have c1 := HT7.out.c1
          have hf := HT7.out.f 1
          go_wp2
          go_roundw
          case rel => exact ⟨k + 1, acc ++ [y], HT7.out.set1 (k + 1), by omega, row_kept HX7.out (kept_set _ _ _ _) HBW.out, HYR.out.1, HYR.out.2, HK7.out.trans (kept_set _ _ _ _)⟩
          case measure => rw [show ((wX.setCell ⟨B, 1, none⟩ (.int .i64 ((k : Int) + 1))).cell? ⟨B, 1, none⟩) = some (.int .i64 ((k + 1 : Nat) : Int)) from (HT7.out.set1 (k + 1)).c1, HI.out.1.c1]; simp [intOf]; omega
    · have hke : S.size = k := by omega
      have HE : Hid (rdT (s.drop k) = ([], 0)) := by
        show _ = _
        rw [List.drop_eq_nil_of_le (by have := HZ.out; omega)]; rfl
      have hd1 : decide ((k : Int) < (S.size : Int)) = false := decide_eq_false (by omega)
      have hmin : min ((k : Int) + 1) (S.size : Int) = (k : Int) := by omega
      have hw1 : IntKind.i64.wrap ((k : Int) + 1) = (k : Int) + 1 := by rw [IntKind.wrap_i64]; omega
      clear hke
      go_upto_region 3 with fail
      refine wp_region_quiet_below (by kernel_rfl) (by kernel_rfl) ?_
      repeat (go_big_quiet_step (fail))
      refine wpQuiet_nil ?_
      intro _ hw'
      obtain ⟨⟨dq, osq⟩, hw''⟩ := hw'
      subst hw''
      have HBQ : Hid (Below wr.heap.size wr (grow (redrawn wr dq) osq)) := below_regrown wr dq osq
      generalize grow (redrawn wr dq) osq = WQ at *
      have HT : Hid (Two WQ B S k) := HI.out.1.below HBQ.out HI.out.1.lt
      have HX : Hid (WQ.ownsRow w.heap.size 5 1 u3 (strI acc).length ((strI acc).map (Value.int .u8))) := row_below HI.out.2.2.1 HBQ.out
      have HK : Hid (Kept (fun b => b ≠ B) w WQ) := HI.out.2.2.2.2.2.trans (Kept.all HBQ.out)
      clear K0 K1 c0 c1
      have c0 := HT.out.c0
      have c1 := HT.out.c1
      have hf := HT.out.f 1
      go_upto_region 8 with fail
      go_still_tail 14, (by kernel_rfl)
      change wpList _ _ _ _ _ WQ.drew
      have HTD : Hid (Two WQ.drew B S k) := HT.out
      have HXD : Hid (WQ.drew.ownsRow w.heap.size 5 1 u3 (strI acc).length ((strI acc).map (Value.int .u8))) := HX.out.drew
      have HKD : Hid (Kept (fun b => b ≠ B) w WQ.drew) := HK.out.drew
      clear HT HX HK HBQ c0 c1 hf
      generalize WQ.drew = WD at *
      have c1 := HTD.out.c1
      have hf := HTD.out.f 1
      have HTE := Lib.hid (HTD.out.set1 (k))
      have HXE := Lib.hid (row_kept HXD.out (kept_set WD B 1 (.int .i64 ((k : Nat) : Int))) HBW.out)
      have HKE := Lib.hid (HKD.out.trans (kept_set WD B 1 (.int .i64 ((k : Nat) : Int))))
      go_upto_region 9 with fail
      obtain ⟨WE, hWE⟩ : ∃ WE, WD.setCell ⟨B, 1, none⟩ (.int .i64 ((k : Nat) : Int)) = WE := ⟨_, rfl⟩
      rw [hWE] at HTE HXE HKE
      have hWE3 : WD.setCell ⟨B, 1, none⟩ (.int .i64 ((k : Int))) = WE := hWE
      rw [hWE3]
      clear hWE hWE3 c1 hf
      obtain ⟨a3, c3, rfl, hR3⟩ := row_rd HXE.out (by rw [strI_len]; exact HAL.out)
      have hcv := conv_back hR3 WE rfl
      rw [strU_strI] at hcv
      clear hR3 HXE HXD
      go_wp2
      go_ret
      exact ⟨ret_s (by have h1 := HI.out.2.2.2.1; rw [HE.out, List.append_nil] at h1; exact h1), by have h1 := HI.out.2.2.2.2.1; rw [HE.out] at h1; show Two WE B S (a + 1 + R.2); rw [← h1]; exact HTE.out, HKE.out⟩

end Go.Proofs.Ytohobiglnebocaa.Lx
