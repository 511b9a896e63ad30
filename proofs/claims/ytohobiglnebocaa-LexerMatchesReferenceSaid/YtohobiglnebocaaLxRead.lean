/-
  Tokens are read: words, numbers, signs.
-/
import Derived.Test.YtohobiglnebocaaLxSpace
import Derived.Test.YtohobiglnebocaaLxTok
namespace Go.Proofs.Ytohobiglnebocaa.Lx
open Go Go.RowKit Go.Shelf Go.Sort Go.ChangeShapes Go.WideShapes Go.ChangeAt
open Go.Proofs.Ytohobiglnebocaa

theorem bs_cut (s : List UInt8) (a b : Nat) : (bsOf s).extract a b = bsOf ((s.drop a).take (b - a)) := by
  apply ByteArray.ext
  rw [ByteArray.data_extract]
  show s.toArray.extract a b = ((s.drop a).take (b - a)).toArray
  rw [List.extract_toArray]

set_option maxRecDepth 100000 in
set_option maxHeartbeats 2000000 in
theorem word_any {s : List UInt8} {B a : Nat} {w : World} (h : Two w B (bsOf s) a) (ha : a ≤ s.length) (hs : s.length ≤ 1048576) :
    Calls Try.prog 54 #[.pointer (some ⟨B, 0, none⟩)] w fun e V => e = .returned (.string (bsOf ((s.drop a).take (spN ldB (s.drop a))))) ∧ Two V B (bsOf s) (a + spN ldB (s.drop a)) ∧ Kept (fun b => b ≠ B) w V := by
  have HZ := Lib.hid (bs_size s)
  have HC := Lib.hid (skip_any isLetterOrDigit_t h ha hs)
  have HL := Lib.hid (skip_at ha ldB)
  have q1 := h.c1
  have HX := Lib.hid (bs_cut s a (a + spN ldB (s.drop a)))
  obtain ⟨n, hn⟩ : ∃ n, spN ldB (s.drop a) = n := ⟨_, rfl⟩
  rw [hn] at HC HL HX ⊢
  rw [Nat.add_sub_cancel_left] at HX
  obtain ⟨S, hS⟩ : ∃ S, bsOf s = S := ⟨_, rfl⟩
  rw [hS] at HZ HC HX ⊢
  obtain ⟨b, hb⟩ : ∃ b, a + n = b := ⟨_, rfl⟩
  rw [hb] at HC HL HX ⊢
  have hab : a ≤ b := by omega
  have hbs : b ≤ S.size := by rw [HZ.out]; exact HL.out
  have hss : S.size ≤ 1048576 := by rw [HZ.out]; exact hs
  clear hS hs hn hb h ha
  go_enter Try.func54, Try.ntmps54
  go_wp2_with fail
  refine HC.out.mono ?_
  rintro e w1 ⟨rfl, ht1, hk1⟩
  have HT1 := Lib.hid ht1
  have HK1 := Lib.hid hk1
  clear ht1 hk1 HC q1
  have c0 := HT1.out.c0
  have c1 := HT1.out.c1
  have K0 := fun d os => cell_regrown c0 d os
  have K1 := fun d os => cell_regrown c1 d os
  go_upto_region 3 with fail
  refine wp_region_quiet_below (by kernel_rfl) (by kernel_rfl) ?_
  repeat (go_big_quiet_step (fail))
  refine wpQuiet_nil ?_
  intro _ hw'
  obtain ⟨⟨dq, osq⟩, hw''⟩ := hw'
  subst hw''
  have HBQ : Hid (Below w1.heap.size w1 (grow (redrawn w1 dq) osq)) := below_regrown w1 dq osq
  generalize grow (redrawn w1 dq) osq = WQ at *
  have HT : Hid (Two WQ B S b) := HT1.out.below HBQ.out HT1.out.lt
  have HK : Hid (Kept (fun b => b ≠ B) w WQ) := HK1.out.trans (Kept.all HBQ.out)
  clear K0 K1 c0 c1
  go_wp2
  go_ret
  exact ⟨by rw [← HX.out]; rfl, HT.out, HK.out⟩

/-! ### A number -/

theorem bs_drop (s : List UInt8) (k : Nat) : (bsOf s).extract k (bsOf s).size = bsOf (s.drop k) := by
  rw [bs_cut, bs_size, List.take_of_length_le (by rw [List.length_drop]; omega)]
theorem pre_pt (l : List UInt8) : Lib.hasPrefix l [46] = ptB (hd l) := by
  cases l with
  | nil => rfl
  | cons b l =>
    show ((46 : UInt8) == b && List.isPrefixOf [] l) = _
    by_cases h : b = 46
    · subst h; rfl
    · have h2 : ptB b = false := by
        cases hb : ptB b
        · rfl
        · exact absurd ((pt_byte b).1 hb) h
      rw [hd_cons, h2, show ((46 : UInt8) == b) = false from beq_false_of_ne (fun e => h e.symm)]
      rfl
theorem cutPrefix_pt (l : List UInt8) (w : World) : Calls Try.prog 68 #[.string (bsOf l), .string ⟨#[46]⟩] w fun e w' => e = .returned (.tuple #[.string (bsOf (if ptB (hd l) then l.drop 1 else l)), .bool (ptB (hd l))]) ∧ w = w' :=
  (Try.strings_CutPrefix (bsOf l) ⟨#[46]⟩ w).mono fun e w' ⟨he, hw⟩ => by
    refine ⟨?_, hw.symm⟩
    rw [he, bs_data]
    unfold Lib.trimPrefix
    rw [show (⟨#[46]⟩ : ByteArray).data.toList = [46] from rfl, pre_pt]
    rfl
theorem dig_no {l : List UInt8} (h : ptB (hd (l.drop (spN digB l))) = false ∨ digB (hd (l.drop (spN digB l + 1))) = false) : digN l = spN digB l := by
  unfold digN
  rw [if_neg]
  rw [Bool.and_eq_true]
  rintro ⟨h1, h2⟩
  rcases h with h | h
  · rw [h] at h1; cases h1
  · rw [h] at h2; cases h2
theorem dig_yes {l : List UInt8} (h1 : ptB (hd (l.drop (spN digB l))) = true) (h2 : digB (hd (l.drop (spN digB l + 1))) = true) : digN l = spN digB l + 1 + spN digB (l.drop (spN digB l + 1)) := by
  unfold digN
  rw [if_pos (by rw [h1, h2]; rfl)]

set_option maxRecDepth 100000 in
set_option maxHeartbeats 4000000 in
theorem number_any {s : List UInt8} {B a : Nat} {w : World} (h : Two w B (bsOf s) a) (ha : a ≤ s.length) (hs : s.length ≤ 1048576) :
    Calls Try.prog 55 #[.pointer (some ⟨B, 0, none⟩)] w fun e V => e = .returned (.string (bsOf ((s.drop a).take (numN (s.drop a))))) ∧ Two V B (bsOf s) (a + numN (s.drop a)) ∧ Kept (fun b => b ≠ B) w V := by
  have HZ := Lib.hid (bs_size s)
  have HS := Lib.hid hs
  have HC := Lib.hid (skip_any isDigit_t h ha hs)
  have HL := Lib.hid (skip_at ha digB)
  have q1 := h.c1
  have HD1 := Lib.hid (@dig_no (s.drop a))
  have HD2 := Lib.hid (@dig_yes (s.drop a))
  obtain ⟨k, hk⟩ : ∃ k, a + spN digB (s.drop a) = k := ⟨_, rfl⟩
  have HAK := Lib.hid hk
  rw [List.drop_drop, List.drop_drop, ← Nat.add_assoc, hk] at HD1 HD2
  rw [hk] at HC HL
  have HX0 := Lib.hid (bs_drop s k)
  have HP := Lib.hid (fun w => cutPrefix_pt (s.drop k) w)
  rw [List.drop_drop] at HP
  obtain ⟨S, hS⟩ : ∃ S, bsOf s = S := ⟨_, rfl⟩
  have HSS := Lib.hid hS
  rw [hS] at HZ HC HX0 ⊢
  have hkS : k ≤ S.size := by rw [HZ.out]; exact HL.out
  have hss : S.size ≤ 1048576 := by rw [HZ.out]; exact hs
  clear hS hs hk h ha
  go_enter Try.func55, Try.ntmps55
  go_wp2_with fail
  refine HC.out.mono ?_
  rintro e w1 ⟨rfl, ht1, hk1⟩
  have HT1 := Lib.hid ht1
  have HK1 := Lib.hid hk1
  clear ht1 hk1 HC q1
  have c0 := HT1.out.c0
  have c1 := HT1.out.c1
  have K0 := fun d os => cell_regrown c0 d os
  have K1 := fun d os => cell_regrown c1 d os
  have hX0 := HX0.out
  cases hpt : ptB (hd (s.drop k))
  · rw [hpt, if_neg (by decide)] at HP
    have HDG : Hid (a + digN (s.drop a) = k) := by have h1 := HD1.out (.inl hpt); have h2 := HAK.out; show _ = _; omega
    clear hpt
    go_upto_region 3 with fail
    refine wp_region_quiet_below (by kernel_rfl) (by kernel_rfl) ?_
    repeat (go_big_quiet_step (((go_at_call 68; with_reducible exact Calls.regrown_of ((HP.out _).mono fun e w' ⟨he, hw⟩ => ⟨he, hw ▸ Below.self _⟩)))))
    refine wpQuiet_nil ?_
    intro _ hw'
    obtain ⟨⟨dq, osq⟩, hw''⟩ := hw'
    subst hw''
    have HBQ : Hid (Below w1.heap.size w1 (grow (redrawn w1 dq) osq)) := below_regrown w1 dq osq
    generalize grow (redrawn w1 dq) osq = WQ at *
    have HT : Hid (Two WQ B S k) := HT1.out.below HBQ.out HT1.out.lt
    have HK : Hid (Kept (fun b => b ≠ B) w WQ) := HK1.out.trans (Kept.all HBQ.out)
    have HK3 : Hid (k ≤ S.size) := hkS
    clear K0 K1 c0 c1 hX0
    generalize k = k3 at *
    have HC3 := Lib.hid (skip_any (s := s) (a := k3) isLetter_t (HSS.out ▸ HT.out) (by have := HZ.out; have := HK3.out; omega) HS.out)
    rw [HSS.out] at HC3
    have HL3 := Lib.hid (skip_at (s := s) (k := k3) (by have := HZ.out; have := HK3.out; omega) letB)
    have HX := Lib.hid (bs_cut s a (k3 + spN letB (s.drop k3)))
    have HNN : Hid (a + numN (s.drop a) = k3 + spN letB (s.drop k3)) := by
      show _ = _
      unfold numN
      have h1 := HDG.out
      rw [List.drop_drop, h1]; omega
    obtain ⟨b, hb⟩ : ∃ b, k3 + spN letB (s.drop k3) = b := ⟨_, rfl⟩
    rw [hb] at HC3 HL3 HX HNN
    rw [HSS.out] at HX
    rw [show b - a = numN (s.drop a) by have := HNN.out; omega] at HX
    have hab : a ≤ b := by have := HNN.out; omega
    have hbs : b ≤ S.size := by rw [HZ.out]; exact HL3.out
    clear hb
    go_wp2_with fail
    refine HC3.out.mono ?_
    rintro e w9 ⟨rfl, ht9, hk9⟩
    have HT9 := Lib.hid ht9
    have HK9 : Hid (Kept (fun b => b ≠ B) w w9) := HK.out.trans hk9
    clear ht9 hk9 HC3
    have c0 := HT9.out.c0
    have c1 := HT9.out.c1
    have K0 := fun d os => cell_regrown c0 d os
    have K1 := fun d os => cell_regrown c1 d os
    go_upto_region 8 with fail
    refine wp_region_quiet_below (by kernel_rfl) (by kernel_rfl) ?_
    repeat (go_big_quiet_step (fail))
    refine wpQuiet_nil ?_
    intro _ hw'
    obtain ⟨⟨dq, osq⟩, hw''⟩ := hw'
    subst hw''
    have HBQ : Hid (Below w9.heap.size w9 (grow (redrawn w9 dq) osq)) := below_regrown w9 dq osq
    generalize grow (redrawn w9 dq) osq = WZ at *
    have HTZ : Hid (Two WZ B S b) := HT9.out.below HBQ.out HT9.out.lt
    have HKZ : Hid (Kept (fun b => b ≠ B) w WZ) := HK9.out.trans (Kept.all HBQ.out)
    clear K0 K1 c0 c1
    go_wp2
    go_ret
    exact ⟨by rw [← HX.out]; rfl, by rw [HNN.out]; exact HTZ.out, HKZ.out⟩
  · rw [hpt, if_pos rfl] at HP
    have HQ0 := Lib.hid (bs_at (s.drop (k + 1)) 0)
    have HQL : Hid ((bsOf (s.drop (k + 1))).size = (s.drop (k + 1)).length) := bs_size _
    have HQT : Hid ((bsOf (s.drop (k + 1))).toList = s.drop (k + 1)) := bs_list _
    have HG := Lib.hid (fun w => isDigit_any (hd (s.drop (k + 1))) w)
    obtain ⟨P, hP⟩ : ∃ P, bsOf (s.drop (k + 1)) = P := ⟨_, rfl⟩
    rw [hP] at HP HQ0 HQL HQT
    clear hP
    by_cases hne : s.drop (k + 1) = []
    · have HDG : Hid (a + digN (s.drop a) = k) := by have h1 := HD1.out (.inr (by rw [hne]; decide)); have h2 := HAK.out; show _ = _; omega
      have e1 : (P.toList == []) = true := by rw [HQT.out, hne]; rfl
      have e2 : P.toList = [] := by rw [HQT.out, hne]
      clear hpt hne
      go_upto_region 3 with fail
      refine wp_region_quiet_below (by kernel_rfl) (by kernel_rfl) ?_
      repeat (go_big_quiet_step (((go_at_call 68; with_reducible exact Calls.regrown_of ((HP.out _).mono fun e w' ⟨he, hw⟩ => ⟨he, hw ▸ Below.self _⟩)))))
      refine wpQuiet_nil ?_
      intro _ hw'
      obtain ⟨⟨dq, osq⟩, hw''⟩ := hw'
      subst hw''
      have HBQ : Hid (Below w1.heap.size w1 (grow (redrawn w1 dq) osq)) := below_regrown w1 dq osq
      generalize grow (redrawn w1 dq) osq = WQ at *
      have HT : Hid (Two WQ B S k) := HT1.out.below HBQ.out HT1.out.lt
      have HK : Hid (Kept (fun b => b ≠ B) w WQ) := HK1.out.trans (Kept.all HBQ.out)
      have HK3 : Hid (k ≤ S.size) := hkS
      clear K0 K1 c0 c1 hX0
      generalize k = k3 at *
      have HC3 := Lib.hid (skip_any (s := s) (a := k3) isLetter_t (HSS.out ▸ HT.out) (by have := HZ.out; have := HK3.out; omega) HS.out)
      rw [HSS.out] at HC3
      have HL3 := Lib.hid (skip_at (s := s) (k := k3) (by have := HZ.out; have := HK3.out; omega) letB)
      have HX := Lib.hid (bs_cut s a (k3 + spN letB (s.drop k3)))
      have HNN : Hid (a + numN (s.drop a) = k3 + spN letB (s.drop k3)) := by
        show _ = _
        unfold numN
        have h1 := HDG.out
        rw [List.drop_drop, h1]; omega
      obtain ⟨b, hb⟩ : ∃ b, k3 + spN letB (s.drop k3) = b := ⟨_, rfl⟩
      rw [hb] at HC3 HL3 HX HNN
      rw [HSS.out] at HX
      rw [show b - a = numN (s.drop a) by have := HNN.out; omega] at HX
      have hab : a ≤ b := by have := HNN.out; omega
      have hbs : b ≤ S.size := by rw [HZ.out]; exact HL3.out
      clear hb
      go_wp2_with fail
      refine HC3.out.mono ?_
      rintro e w9 ⟨rfl, ht9, hk9⟩
      have HT9 := Lib.hid ht9
      have HK9 : Hid (Kept (fun b => b ≠ B) w w9) := HK.out.trans hk9
      clear ht9 hk9 HC3
      have c0 := HT9.out.c0
      have c1 := HT9.out.c1
      have K0 := fun d os => cell_regrown c0 d os
      have K1 := fun d os => cell_regrown c1 d os
      go_upto_region 8 with fail
      refine wp_region_quiet_below (by kernel_rfl) (by kernel_rfl) ?_
      repeat (go_big_quiet_step (fail))
      refine wpQuiet_nil ?_
      intro _ hw'
      obtain ⟨⟨dq, osq⟩, hw''⟩ := hw'
      subst hw''
      have HBQ : Hid (Below w9.heap.size w9 (grow (redrawn w9 dq) osq)) := below_regrown w9 dq osq
      generalize grow (redrawn w9 dq) osq = WZ at *
      have HTZ : Hid (Two WZ B S b) := HT9.out.below HBQ.out HT9.out.lt
      have HKZ : Hid (Kept (fun b => b ≠ B) w WZ) := HK9.out.trans (Kept.all HBQ.out)
      clear K0 K1 c0 c1
      go_wp2
      go_ret
      exact ⟨by rw [← HX.out]; rfl, by rw [HNN.out]; exact HTZ.out, HKZ.out⟩
    · have hps : 0 < P.size := by rw [HQL.out]; exact List.length_pos_iff.2 hne
      have e1 : (P.toList == []) = false := by rw [HQT.out]; simpa using hne
      have hq := HQ0.out hps
      have HKL : Hid (k + 1 ≤ S.size) := by show _ ≤ _; have h1 := HQL.out; rw [List.length_drop] at h1; rw [HZ.out]; omega
      change P[0] = hd (s.drop (k + 1)) at hq
      cases hdg : digB (hd (s.drop (k + 1)))
      · have HDG : Hid (a + digN (s.drop a) = k) := by have h1 := HD1.out (.inr hdg); have h2 := HAK.out; show _ = _; omega
        rw [hdg] at HG
        clear hpt hne hdg
        generalize hd (s.drop (k + 1)) = x at *
        go_upto_region 3 with fail
        refine wp_region_quiet_below (by kernel_rfl) (by kernel_rfl) ?_
        repeat (go_big_quiet_step (((go_at_call 68; with_reducible exact Calls.regrown_of ((HP.out _).mono fun e w' ⟨he, hw⟩ => ⟨he, hw ▸ Below.self _⟩)))))
        refine wpQuiet_nil ?_
        intro _ hw'
        obtain ⟨⟨dq, osq⟩, hw''⟩ := hw'
        subst hw''
        have HBQ : Hid (Below w1.heap.size w1 (grow (redrawn w1 dq) osq)) := below_regrown w1 dq osq
        generalize grow (redrawn w1 dq) osq = WQ at *
        have HT : Hid (Two WQ B S k) := HT1.out.below HBQ.out HT1.out.lt
        have HK : Hid (Kept (fun b => b ≠ B) w WQ) := HK1.out.trans (Kept.all HBQ.out)
        have HK3 : Hid (k ≤ S.size) := hkS
        clear K0 K1 c0 c1 hX0
        go_wp2_with fail
        refine (HG.out _).mono ?_
        rintro e w2 ⟨rfl, rfl⟩
        clear hq HQ0 HQL HQT e1 HKL hps HP HG HD1 HD2 HX0 HAK HL HT1 HK1
        generalize k = k3 at *
        have HC3 := Lib.hid (skip_any (s := s) (a := k3) isLetter_t (HSS.out ▸ HT.out) (by have := HZ.out; have := HK3.out; omega) HS.out)
        rw [HSS.out] at HC3
        have HL3 := Lib.hid (skip_at (s := s) (k := k3) (by have := HZ.out; have := HK3.out; omega) letB)
        have HX := Lib.hid (bs_cut s a (k3 + spN letB (s.drop k3)))
        have HNN : Hid (a + numN (s.drop a) = k3 + spN letB (s.drop k3)) := by
          show _ = _
          unfold numN
          have h1 := HDG.out
          rw [List.drop_drop, h1]; omega
        obtain ⟨b, hb⟩ : ∃ b, k3 + spN letB (s.drop k3) = b := ⟨_, rfl⟩
        rw [hb] at HC3 HL3 HX HNN
        rw [HSS.out] at HX
        rw [show b - a = numN (s.drop a) by have := HNN.out; omega] at HX
        have hab : a ≤ b := by have := HNN.out; omega
        have hbs : b ≤ S.size := by rw [HZ.out]; exact HL3.out
        clear hb
        go_wp2_with fail
        refine HC3.out.mono ?_
        rintro e w9 ⟨rfl, ht9, hk9⟩
        have HT9 := Lib.hid ht9
        have HK9 : Hid (Kept (fun b => b ≠ B) w w9) := HK.out.trans hk9
        clear ht9 hk9 HC3
        have c0 := HT9.out.c0
        have c1 := HT9.out.c1
        have K0 := fun d os => cell_regrown c0 d os
        have K1 := fun d os => cell_regrown c1 d os
        go_upto_region 8 with fail
        refine wp_region_quiet_below (by kernel_rfl) (by kernel_rfl) ?_
        repeat (go_big_quiet_step (fail))
        refine wpQuiet_nil ?_
        intro _ hw'
        obtain ⟨⟨dq, osq⟩, hw''⟩ := hw'
        subst hw''
        have HBQ : Hid (Below w9.heap.size w9 (grow (redrawn w9 dq) osq)) := below_regrown w9 dq osq
        generalize grow (redrawn w9 dq) osq = WZ at *
        have HTZ : Hid (Two WZ B S b) := HT9.out.below HBQ.out HT9.out.lt
        have HKZ : Hid (Kept (fun b => b ≠ B) w WZ) := HK9.out.trans (Kept.all HBQ.out)
        clear K0 K1 c0 c1
        go_wp2
        go_ret
        exact ⟨by rw [← HX.out]; rfl, by rw [HNN.out]; exact HTZ.out, HKZ.out⟩
      · have HDG : Hid (a + digN (s.drop a) = k + 1 + spN digB (s.drop (k + 1))) := by have h1 := HD2.out hpt hdg; have h2 := HAK.out; show _ = _; omega
        rw [hdg] at HG
        clear hpt hne hdg
        generalize hd (s.drop (k + 1)) = x at *
        go_upto_region 3 with fail
        refine wp_region_quiet_below (by kernel_rfl) (by kernel_rfl) ?_
        repeat (go_big_quiet_step (((go_at_call 68; with_reducible exact Calls.regrown_of ((HP.out _).mono fun e w' ⟨he, hw⟩ => ⟨he, hw ▸ Below.self _⟩)))))
        refine wpQuiet_nil ?_
        intro _ hw'
        obtain ⟨⟨dq, osq⟩, hw''⟩ := hw'
        subst hw''
        have HBQ : Hid (Below w1.heap.size w1 (grow (redrawn w1 dq) osq)) := below_regrown w1 dq osq
        generalize grow (redrawn w1 dq) osq = WQ at *
        have HT : Hid (Two WQ B S k) := HT1.out.below HBQ.out HT1.out.lt
        have HK : Hid (Kept (fun b => b ≠ B) w WQ) := HK1.out.trans (Kept.all HBQ.out)
        clear K0 K1 c0 c1 hX0
        go_wp2_with fail
        refine (HG.out _).mono ?_
        rintro e w2 ⟨rfl, rfl⟩
        have c1 := HT.out.c1
        have hf := HT.out.f 1
        have HT2 := Lib.hid (HT.out.set1 (k + 1))
        have HK2 : Hid (Kept (fun b => b ≠ B) w (WQ.setCell ⟨B, 1, none⟩ (.int .i64 ((k + 1 : Nat) : Int)))) := HK.out.trans (kept_set _ _ _ _)
        go_upto_region 6 with fail
        obtain ⟨W2, hW2⟩ : ∃ W2, WQ.setCell ⟨B, 1, none⟩ (.int .i64 ((k + 1 : Nat) : Int)) = W2 := ⟨_, rfl⟩
        rw [hW2] at HT2 HK2
        have hW3 : WQ.setCell ⟨B, 1, none⟩ (.int .i64 ((k : Int) + 1)) = W2 := hW2
        rw [hW3]
        clear hW2 hW3 hf c1
        have HC2 := Lib.hid (skip_any (s := s) (a := k + 1) isDigit_t (HSS.out ▸ HT2.out) (by rw [← HZ.out]; exact HKL.out) HS.out)
        have HLL := Lib.hid (skip_at (s := s) (k := k + 1) (by rw [← HZ.out]; exact HKL.out) digB)
        rw [HSS.out] at HC2
        go_wp2_with fail
        refine HC2.out.mono ?_
        rintro e w3 ⟨rfl, ht3, hk3⟩
        clear HT HK
        have HT := Lib.hid ht3
        have HK : Hid (Kept (fun b => b ≠ B) w w3) := HK2.out.trans hk3
        have HK3 : Hid (k + 1 + spN digB (s.drop (k + 1)) ≤ S.size) := by show _ ≤ _; rw [HZ.out]; exact HLL.out
        clear ht3 hk3 HC2 hq HQ0 HQL HQT e1 HKL hps HP HG HD1 HD2 HX0 HAK HL HT1 HK1 HT2 HK2 HLL
        generalize k + 1 + spN digB (s.drop (k + 1)) = k3 at *
        have HC3 := Lib.hid (skip_any (s := s) (a := k3) isLetter_t (HSS.out ▸ HT.out) (by have := HZ.out; have := HK3.out; omega) HS.out)
        rw [HSS.out] at HC3
        have HL3 := Lib.hid (skip_at (s := s) (k := k3) (by have := HZ.out; have := HK3.out; omega) letB)
        have HX := Lib.hid (bs_cut s a (k3 + spN letB (s.drop k3)))
        have HNN : Hid (a + numN (s.drop a) = k3 + spN letB (s.drop k3)) := by
          show _ = _
          unfold numN
          have h1 := HDG.out
          rw [List.drop_drop, h1]; omega
        obtain ⟨b, hb⟩ : ∃ b, k3 + spN letB (s.drop k3) = b := ⟨_, rfl⟩
        rw [hb] at HC3 HL3 HX HNN
        rw [HSS.out] at HX
        rw [show b - a = numN (s.drop a) by have := HNN.out; omega] at HX
        have hab : a ≤ b := by have := HNN.out; omega
        have hbs : b ≤ S.size := by rw [HZ.out]; exact HL3.out
        clear hb
        go_wp2_with fail
        refine HC3.out.mono ?_
        rintro e w9 ⟨rfl, ht9, hk9⟩
        have HT9 := Lib.hid ht9
        have HK9 : Hid (Kept (fun b => b ≠ B) w w9) := HK.out.trans hk9
        clear ht9 hk9 HC3
        have c0 := HT9.out.c0
        have c1 := HT9.out.c1
        have K0 := fun d os => cell_regrown c0 d os
        have K1 := fun d os => cell_regrown c1 d os
        go_upto_region 8 with fail
        refine wp_region_quiet_below (by kernel_rfl) (by kernel_rfl) ?_
        repeat (go_big_quiet_step (fail))
        refine wpQuiet_nil ?_
        intro _ hw'
        obtain ⟨⟨dq, osq⟩, hw''⟩ := hw'
        subst hw''
        have HBQ : Hid (Below w9.heap.size w9 (grow (redrawn w9 dq) osq)) := below_regrown w9 dq osq
        generalize grow (redrawn w9 dq) osq = WZ at *
        have HTZ : Hid (Two WZ B S b) := HT9.out.below HBQ.out HT9.out.lt
        have HKZ : Hid (Kept (fun b => b ≠ B) w WZ) := HK9.out.trans (Kept.all HBQ.out)
        clear K0 K1 c0 c1
        go_wp2
        go_ret
        exact ⟨by rw [← HX.out]; rfl, by rw [HNN.out]; exact HTZ.out, HKZ.out⟩

end Go.Proofs.Ytohobiglnebocaa.Lx
