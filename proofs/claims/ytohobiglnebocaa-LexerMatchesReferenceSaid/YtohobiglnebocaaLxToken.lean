/-
  The next token.
-/
import Derived.Test.YtohobiglnebocaaLxText
import Derived.Test.YtohobiglnebocaaLxSign
import Derived.Laws.EntriesVeiled
namespace Go.Proofs.Ytohobiglnebocaa.Lx
open Go Go.RowKit Go.Shelf Go.Sort Go.ChangeShapes Go.WideShapes Go.ChangeAt
open Go.Proofs.Ytohobiglnebocaa

theorem Trio.stored {W : World} {B : Nat} {t : TypeId} {a b c a' b' c' : Value} (h : Trio W B t a b c) : Trio (((W.setCell ⟨B, 0, none⟩ a').setCell ⟨B, 1, none⟩ b').setCell ⟨B, 2, none⟩ c') B t a' b' c' := by
  have h : W.heap[B]? = _ := h
  show (((W.setCell ⟨B, 0, none⟩ a').setCell ⟨B, 1, none⟩ b').setCell ⟨B, 2, none⟩ c').heap[B]? = _
  simp [World.setCell, Array.getElem?_modify, h]
/-- The scanners of the kinds. -/
def Scans (W : World) (N : Nat) : Prop := W.heap[N]? = some (.cells #[.nilFunc, .func (.func 54) #[] #[], .func (.func 55) #[] #[], .func (.func 56) #[] #[], .func (.func 57) #[] #[]] 72 (0, 0))
theorem Scans.c1 {W : World} {N : Nat} (h : Scans W N) : W.cell? ⟨N, 1, none⟩ = some (.func (.func 54) #[] #[]) := by simp [World.cell?, show W.heap[N]? = _ from h]
theorem Scans.c2 {W : World} {N : Nat} (h : Scans W N) : W.cell? ⟨N, 2, none⟩ = some (.func (.func 55) #[] #[]) := by simp [World.cell?, show W.heap[N]? = _ from h]
theorem Scans.c3 {W : World} {N : Nat} (h : Scans W N) : W.cell? ⟨N, 3, none⟩ = some (.func (.func 56) #[] #[]) := by simp [World.cell?, show W.heap[N]? = _ from h]
theorem Scans.c4 {W : World} {N : Nat} (h : Scans W N) : W.cell? ⟨N, 4, none⟩ = some (.func (.func 57) #[] #[]) := by simp [World.cell?, show W.heap[N]? = _ from h]
theorem Scans.new (W : World) : Scans (W.alloc (.cells #[.nilFunc, .func (.func 54) #[] #[], .func (.func 55) #[] #[], .func (.func 56) #[] #[], .func (.func 57) #[] #[]] 72)) W.heap.size := World.alloc_heap_new W _
theorem Kept.cell {A C : World} {B : Nat} (h : Kept (fun b => b ≠ B) A C) (b o : Nat) (hb : b < A.heap.size) (hne : b ≠ B) : C.cell? ⟨b, o, none⟩ = A.cell? ⟨b, o, none⟩ := World.cell?_of_block (h.block b hb hne)
theorem kept_new {w A : World} {B b o : Nat} {v : Value} (h : Kept (fun b => b ≠ B) w A) (hb : w.heap.size ≤ b) : Kept (fun b => b ≠ B) w (A.setCell ⟨b, o, none⟩ v) :=
  kept_grown h (Below.refl _ _) (grownBy_cell A ⟨b, o, none⟩ v) (fun k e => by cases e; exact hb)

theorem Two.keptN {W : World} {B a N : Nat} {s : ByteArray} {x y z : Value} (h : Two W B s a) (hN : N ≠ B) : Two (((W.setCell ⟨N, 0, none⟩ x).setCell ⟨N, 1, none⟩ y).setCell ⟨N, 2, none⟩ z) B s a := by
  have e : ∀ (W : World) (o : Nat) (v : Value), (W.setCell ⟨N, o, none⟩ v).heap[B]? = W.heap[B]? := fun W o v => Below.heap_setCell W ⟨N, o, none⟩ v B (fun e => hN e.symm)
  show (((W.setCell ⟨N, 0, none⟩ x).setCell ⟨N, 1, none⟩ y).setCell ⟨N, 2, none⟩ z).heap[B]? = _
  rw [e, e, e]; exact h

set_option maxRecDepth 100000 in
set_option maxHeartbeats 4000000 in
theorem token_any {s : List UInt8} {B a : Nat} {w : World} (h : Two w B (bsOf s) a) (ha : a < s.length) (hs : s.length ≤ 1048576) :
    Calls Try.prog 43 #[.pointer (some ⟨B, 0, none⟩)] w fun e V => e = .returned (encK (tkR (s.drop a)).1 (bsOf (tkR (s.drop a)).2.1) (a : Int)) ∧ Two V B (bsOf s) (a + (tkR (s.drop a)).2.2) ∧ Kept (fun b => b ≠ B) w V := by
  have hz := bs_size s
  have hx := bs_at s a (by rw [hz]; exact ha)
  have HKO := Lib.hid (fun w => kindOf_any (s[a]?.getD 0) w)
  have HD := Lib.hid (hd_drop s a)
  have HHA := Lib.hid ha
  have HHS := Lib.hid hs
  have hb1 := (Below.refl w.heap.size w).alloc (Nat.le_refl _) (.cells #[.int .i64 0, .string ⟨#[]⟩, .int .i64 0] 27)
  have hb2 := hb1.alloc (by simp) (.cells #[.nilFunc, .func (.func 54) #[] #[], .func (.func 55) #[] #[], .func (.func 56) #[] #[], .func (.func 57) #[] #[]] 72)
  have ht := Trio.new w 27 (.int .i64 0) (.string ⟨#[]⟩) (.int .i64 0)
  have hsc := Scans.new (w.alloc (.cells #[.int .i64 0, .string ⟨#[]⟩, .int .i64 0] 27))
  rw [World.size_alloc] at hsc
  have ht2 := ht.below (V := (w.alloc (.cells #[.int .i64 0, .string ⟨#[]⟩, .int .i64 0] 27)).alloc (.cells #[.nilFunc, .func (.func 54) #[] #[], .func (.func 55) #[] #[], .func (.func 56) #[] #[], .func (.func 57) #[] #[]] 72)) ((Below.refl (w.alloc (.cells #[.int .i64 0, .string ⟨#[]⟩, .int .i64 0] 27)).heap.size _).alloc (Nat.le_refl _) _) ht.lt
  have HT0 := Lib.hid (h.below hb2 h.lt)
  have HBW := Lib.hid h.lt
  have HB0 := Lib.hid hb2
  have HTR := Lib.hid ht2
  have HSC := Lib.hid hsc
  clear hb1 hb2 ht hsc ht2 h
  obtain ⟨V0, hV0⟩ : ∃ V0, (w.alloc (.cells #[.int .i64 0, .string ⟨#[]⟩, .int .i64 0] 27)).alloc (.cells #[.nilFunc, .func (.func 54) #[] #[], .func (.func 55) #[] #[], .func (.func 56) #[] #[], .func (.func 57) #[] #[]] 72) = V0 := ⟨_, rfl⟩
  rw [hV0] at HT0 HB0 HTR HSC
  obtain ⟨N, hN⟩ : ∃ N, w.heap.size = N := ⟨_, rfl⟩
  rw [hN] at HTR HSC
  obtain ⟨S, hS⟩ : ∃ S, bsOf s = S := ⟨_, rfl⟩
  have HSS := Lib.hid hS
  have haS : a < S.size := by rw [← hS, hz]; exact ha
  have hsS : S.size ≤ 1048576 := by rw [← hS, hz]; exact hs
  have hx3 : S[a] = s[a]?.getD 0 := by subst hS; exact hx
  rw [hS] at HT0 ⊢
  clear hx hz hS ha hs
  obtain ⟨T, hT⟩ : ∃ T, tkR (s.drop a) = T := ⟨_, rfl⟩
  have HTT := Lib.hid hT
  rw [hT]
  clear hT
  go_enter Try.func43, Try.ntmps43
  go_upto_region 2 with fail
  have HV0 := Lib.hid hV0
  have HNN := Lib.hid hN
  clear hV0 hN
  have c0 := HT0.out.c0
  have c1 := HT0.out.c1
  have K0 := fun d os => cell_regrown c0 d os
  have K1 := fun d os => cell_regrown c1 d os
  generalize hx0 : s[a]?.getD 0 = x at *
  have HX0 := Lib.hid hx0
  clear hx0
  rcases kd_cases x with hkd | hkd | hkd | hkd
  · have HTK := Lib.hid (tk_word (l := s.drop a) (by rw [HD.out]; exact hkd))
    have HTE := Lib.hid (HTT.out.symm.trans HTK.out)
    rw [hkd] at HKO
    clear hkd
    refine wp_region_quiet_below (by kernel_rfl) (by kernel_rfl) ?_
    repeat (go_big_quiet_step (((go_at_call 58; with_reducible exact Calls.regrown_of ((HKO.out _).mono fun e w' ⟨he, hw⟩ => ⟨he, hw ▸ Below.self _⟩)))))
    refine wpQuiet_nil ?_
    intro _ hw'
    obtain ⟨⟨dq, osq⟩, hw''⟩ := hw'
    subst hw''
    have HBQ : Hid (Below V0.heap.size V0 (grow (redrawn V0 dq) osq)) := below_regrown V0 dq osq
    generalize grow (redrawn V0 dq) osq = WQ at *
    have HT : Hid (Two WQ B S a) := HT0.out.below HBQ.out HT0.out.lt
    have HTQ := Lib.hid (HTR.out.below HBQ.out HTR.out.lt)
    have hsq : Scans WQ (N + 1) := (HBQ.out.block (N + 1) (by have := (Array.getElem?_eq_some_iff.1 HSC.out).1; exact this)).trans HSC.out
    have HK : Hid (Kept (fun b => b ≠ B) w WQ) := Kept.all (HNN.out ▸ (HB0.out.trans (HBQ.out.mono HB0.out.size)))
    have q1 := hsq.c1
    clear hsq K0 K1 c0 c1 hx3 HKO HBQ
    have HC := Lib.hid (word_any (s := s) (a := a) (B := B) (w := WQ) (by rw [HSS.out]; exact HT.out) (Nat.le_of_lt HHA.out) HHS.out)
    rw [HSS.out] at HC
    go_wp2_with fail
    refine HC.out.mono ?_
    rintro e w3 ⟨rfl, ht3, hk3⟩
    have HT3 := Lib.hid ht3
    have HK3 := Lib.hid (HK.out.trans hk3)
    have hNB : N ≠ B := by have h1 := HBW.out; have h2 := HNN.out; omega
    have HTZ : Hid (Trio w3 N 27 (.int .i64 0) (.string ⟨#[]⟩) (.int .i64 0)) := (hk3.block N HTQ.out.lt hNB).trans HTQ.out
    clear ht3 hk3 HC HT HK q1 hNB
    have f0 := HTZ.out.c0
    have f1 := HTZ.out.c1
    have f2 := HTZ.out.c2
    have ff0 := HTZ.out.f 0
    have ff1 := HTZ.out.f 1
    have ff2 := HTZ.out.f 2
    go_wp2
    have hst := HTZ.out.stored (a' := .int .i64 1) (b' := .string (bsOf (((s.drop a).take (spN ldB (s.drop a)))))) (c' := .int .i64 (a : Int))
    have g0 := hst.c0
    have g1 := hst.c1
    have g2 := hst.c2
    exact bodyPost_ret (v := encK 1 (bsOf (((s.drop a).take (spN ldB (s.drop a))))) (a : Int)) (by simp [encK, results, Try.results43, go_sem, g0, g1, g2]) rfl ⟨by rw [HTE.out], by rw [HTE.out]; exact (((by have := HT3.out; exact this : Two w3 B S (a + (spN ldB (s.drop a))))).keptN (by have h1 := HBW.out; have h2 := HNN.out; omega)), kept_new (kept_new (kept_new HK3.out (by rw [HNN.out]; exact Nat.le_refl _)) (by rw [HNN.out]; exact Nat.le_refl _)) (by rw [HNN.out]; exact Nat.le_refl _)⟩
  · have HTK := Lib.hid (tk_num (l := s.drop a) (by rw [HD.out]; exact hkd))
    have HTE := Lib.hid (HTT.out.symm.trans HTK.out)
    rw [hkd] at HKO
    clear hkd
    refine wp_region_quiet_below (by kernel_rfl) (by kernel_rfl) ?_
    repeat (go_big_quiet_step (((go_at_call 58; with_reducible exact Calls.regrown_of ((HKO.out _).mono fun e w' ⟨he, hw⟩ => ⟨he, hw ▸ Below.self _⟩)))))
    refine wpQuiet_nil ?_
    intro _ hw'
    obtain ⟨⟨dq, osq⟩, hw''⟩ := hw'
    subst hw''
    have HBQ : Hid (Below V0.heap.size V0 (grow (redrawn V0 dq) osq)) := below_regrown V0 dq osq
    generalize grow (redrawn V0 dq) osq = WQ at *
    have HT : Hid (Two WQ B S a) := HT0.out.below HBQ.out HT0.out.lt
    have HTQ := Lib.hid (HTR.out.below HBQ.out HTR.out.lt)
    have hsq : Scans WQ (N + 1) := (HBQ.out.block (N + 1) (by have := (Array.getElem?_eq_some_iff.1 HSC.out).1; exact this)).trans HSC.out
    have HK : Hid (Kept (fun b => b ≠ B) w WQ) := Kept.all (HNN.out ▸ (HB0.out.trans (HBQ.out.mono HB0.out.size)))
    have q1 := hsq.c2
    clear hsq K0 K1 c0 c1 hx3 HKO HBQ
    have HC := Lib.hid (number_any (s := s) (a := a) (B := B) (w := WQ) (by rw [HSS.out]; exact HT.out) (Nat.le_of_lt HHA.out) HHS.out)
    rw [HSS.out] at HC
    go_wp2_with fail
    refine HC.out.mono ?_
    rintro e w3 ⟨rfl, ht3, hk3⟩
    have HT3 := Lib.hid ht3
    have HK3 := Lib.hid (HK.out.trans hk3)
    have hNB : N ≠ B := by have h1 := HBW.out; have h2 := HNN.out; omega
    have HTZ : Hid (Trio w3 N 27 (.int .i64 0) (.string ⟨#[]⟩) (.int .i64 0)) := (hk3.block N HTQ.out.lt hNB).trans HTQ.out
    clear ht3 hk3 HC HT HK q1 hNB
    have f0 := HTZ.out.c0
    have f1 := HTZ.out.c1
    have f2 := HTZ.out.c2
    have ff0 := HTZ.out.f 0
    have ff1 := HTZ.out.f 1
    have ff2 := HTZ.out.f 2
    go_wp2
    have hst := HTZ.out.stored (a' := .int .i64 2) (b' := .string (bsOf (((s.drop a).take (numN (s.drop a)))))) (c' := .int .i64 (a : Int))
    have g0 := hst.c0
    have g1 := hst.c1
    have g2 := hst.c2
    exact bodyPost_ret (v := encK 2 (bsOf (((s.drop a).take (numN (s.drop a))))) (a : Int)) (by simp [encK, results, Try.results43, go_sem, g0, g1, g2]) rfl ⟨by rw [HTE.out], by rw [HTE.out]; exact (((by have := HT3.out; exact this : Two w3 B S (a + (numN (s.drop a))))).keptN (by have h1 := HBW.out; have h2 := HNN.out; omega)), kept_new (kept_new (kept_new HK3.out (by rw [HNN.out]; exact Nat.le_refl _)) (by rw [HNN.out]; exact Nat.le_refl _)) (by rw [HNN.out]; exact Nat.le_refl _)⟩
  · have HTK := Lib.hid (show tkR (s.drop a) = (3, (rdT (s.drop (a + 1))).1, 1 + (rdT (s.drop (a + 1))).2) from by rw [tk_text (l := s.drop a) (by rw [HD.out]; exact hkd), List.drop_drop])
    have HTE := Lib.hid (HTT.out.symm.trans HTK.out)
    rw [hkd] at HKO
    clear hkd
    refine wp_region_quiet_below (by kernel_rfl) (by kernel_rfl) ?_
    repeat (go_big_quiet_step (((go_at_call 58; with_reducible exact Calls.regrown_of ((HKO.out _).mono fun e w' ⟨he, hw⟩ => ⟨he, hw ▸ Below.self _⟩)))))
    refine wpQuiet_nil ?_
    intro _ hw'
    obtain ⟨⟨dq, osq⟩, hw''⟩ := hw'
    subst hw''
    have HBQ : Hid (Below V0.heap.size V0 (grow (redrawn V0 dq) osq)) := below_regrown V0 dq osq
    generalize grow (redrawn V0 dq) osq = WQ at *
    have HT : Hid (Two WQ B S a) := HT0.out.below HBQ.out HT0.out.lt
    have HTQ := Lib.hid (HTR.out.below HBQ.out HTR.out.lt)
    have hsq : Scans WQ (N + 1) := (HBQ.out.block (N + 1) (by have := (Array.getElem?_eq_some_iff.1 HSC.out).1; exact this)).trans HSC.out
    have HK : Hid (Kept (fun b => b ≠ B) w WQ) := Kept.all (HNN.out ▸ (HB0.out.trans (HBQ.out.mono HB0.out.size)))
    have q1 := hsq.c3
    clear hsq K0 K1 c0 c1 hx3 HKO HBQ
    have HC := Lib.hid (text_any (s := s) (a := a) (B := B) (w := WQ) (by rw [HSS.out]; exact HT.out) HHA.out HHS.out)
    rw [HSS.out] at HC
    go_wp2_with fail
    refine HC.out.mono ?_
    rintro e w3 ⟨rfl, ht3, hk3⟩
    have HT3 := Lib.hid ht3
    have HK3 := Lib.hid (HK.out.trans hk3)
    have hNB : N ≠ B := by have h1 := HBW.out; have h2 := HNN.out; omega
    have HTZ : Hid (Trio w3 N 27 (.int .i64 0) (.string ⟨#[]⟩) (.int .i64 0)) := (hk3.block N HTQ.out.lt hNB).trans HTQ.out
    clear ht3 hk3 HC HT HK q1 hNB
    have f0 := HTZ.out.c0
    have f1 := HTZ.out.c1
    have f2 := HTZ.out.c2
    have ff0 := HTZ.out.f 0
    have ff1 := HTZ.out.f 1
    have ff2 := HTZ.out.f 2
    go_wp2
    have hst := HTZ.out.stored (a' := .int .i64 3) (b' := .string (bsOf ((rdT (s.drop (a + 1))).1))) (c' := .int .i64 (a : Int))
    have g0 := hst.c0
    have g1 := hst.c1
    have g2 := hst.c2
    exact bodyPost_ret (v := encK 3 (bsOf ((rdT (s.drop (a + 1))).1)) (a : Int)) (by simp [encK, results, Try.results43, go_sem, g0, g1, g2]) rfl ⟨by rw [HTE.out], by rw [HTE.out]; exact (((by have := HT3.out; rw [← Nat.add_assoc]; exact this : Two w3 B S (a + (1 + (rdT (s.drop (a + 1))).2)))).keptN (by have h1 := HBW.out; have h2 := HNN.out; omega)), kept_new (kept_new (kept_new HK3.out (by rw [HNN.out]; exact Nat.le_refl _)) (by rw [HNN.out]; exact Nat.le_refl _)) (by rw [HNN.out]; exact Nat.le_refl _)⟩
  · have HTK := Lib.hid (tk_sign (l := s.drop a) (by rw [HD.out]; exact hkd))
    have HTE := Lib.hid (HTT.out.symm.trans HTK.out)
    rw [hkd] at HKO
    clear hkd
    refine wp_region_quiet_below (by kernel_rfl) (by kernel_rfl) ?_
    repeat (go_big_quiet_step (((go_at_call 58; with_reducible exact Calls.regrown_of ((HKO.out _).mono fun e w' ⟨he, hw⟩ => ⟨he, hw ▸ Below.self _⟩)))))
    refine wpQuiet_nil ?_
    intro _ hw'
    obtain ⟨⟨dq, osq⟩, hw''⟩ := hw'
    subst hw''
    have HBQ : Hid (Below V0.heap.size V0 (grow (redrawn V0 dq) osq)) := below_regrown V0 dq osq
    generalize grow (redrawn V0 dq) osq = WQ at *
    have HT : Hid (Two WQ B S a) := HT0.out.below HBQ.out HT0.out.lt
    have HTQ := Lib.hid (HTR.out.below HBQ.out HTR.out.lt)
    have hsq : Scans WQ (N + 1) := (HBQ.out.block (N + 1) (by have := (Array.getElem?_eq_some_iff.1 HSC.out).1; exact this)).trans HSC.out
    have HK : Hid (Kept (fun b => b ≠ B) w WQ) := Kept.all (HNN.out ▸ (HB0.out.trans (HBQ.out.mono HB0.out.size)))
    have q1 := hsq.c4
    clear hsq K0 K1 c0 c1 hx3 HKO HBQ
    have HC := Lib.hid (sign_any (s := s) (a := a) (B := B) (w := WQ) (by rw [HSS.out]; exact HT.out) HHA.out HHS.out)
    rw [HSS.out] at HC
    go_wp2_with fail
    refine HC.out.mono ?_
    rintro e w3 ⟨rfl, ht3, hk3⟩
    have HT3 := Lib.hid ht3
    have HK3 := Lib.hid (HK.out.trans hk3)
    have hNB : N ≠ B := by have h1 := HBW.out; have h2 := HNN.out; omega
    have HTZ : Hid (Trio w3 N 27 (.int .i64 0) (.string ⟨#[]⟩) (.int .i64 0)) := (hk3.block N HTQ.out.lt hNB).trans HTQ.out
    clear ht3 hk3 HC HT HK q1 hNB
    have f0 := HTZ.out.c0
    have f1 := HTZ.out.c1
    have f2 := HTZ.out.c2
    have ff0 := HTZ.out.f 0
    have ff1 := HTZ.out.f 1
    have ff2 := HTZ.out.f 2
    go_wp2
    have hst := HTZ.out.stored (a' := .int .i64 4) (b' := .string (bsOf (((s.drop a).take (sgN (s.drop a)))))) (c' := .int .i64 (a : Int))
    have g0 := hst.c0
    have g1 := hst.c1
    have g2 := hst.c2
    exact bodyPost_ret (v := encK 4 (bsOf (((s.drop a).take (sgN (s.drop a))))) (a : Int)) (by simp [encK, results, Try.results43, go_sem, g0, g1, g2]) rfl ⟨by rw [HTE.out], by rw [HTE.out]; exact (((by have := HT3.out; exact this : Two w3 B S (a + (sgN (s.drop a))))).keptN (by have h1 := HBW.out; have h2 := HNN.out; omega)), kept_new (kept_new (kept_new HK3.out (by rw [HNN.out]; exact Nat.le_refl _)) (by rw [HNN.out]; exact Nat.le_refl _)) (by rw [HNN.out]; exact Nat.le_refl _)⟩

end Go.Proofs.Ytohobiglnebocaa.Lx
