/-
  The reference's texts.
-/
import Derived.Test.YtohobiglnebocaaLxRefD
namespace Go.Proofs.Ytohobiglnebocaa.Lx
open Go Go.RowKit Go.Shelf Go.Sort Go.ChangeShapes Go.WideShapes Go.ChangeAt
open Go.Proofs.Ytohobiglnebocaa

/-- What the reference reads of a text, behind its quotation mark. -/
def mapQ (acc : List UInt8) (d : Nat) : Option (List UInt8 × Nat) → Option (List UInt8 × Nat)
  | none => none
  | some p => some (acc ++ p.1, d + p.2)
def qdS : List UInt8 → Option (List UInt8 × Nat)
  | [] => none
  | [b] => if b.toNat = 34 then some ([], 1) else none
  | b :: c :: l => if b.toNat = 34 then some ([], 1) else if b.toNat = 92 then (if c.toNat = 34 ∨ c.toNat = 92 then mapQ [c] 2 (qdS l) else none) else mapQ [b] 1 (qdS (c :: l))
theorem mapQ_mapQ (a b : List UInt8) (d e : Nat) (r : Option (List UInt8 × Nat)) : mapQ a d (mapQ b e r) = mapQ (a ++ b) (d + e) r := by
  cases r with
  | none => rfl
  | some p => show some _ = some _; rw [List.append_assoc, Nat.add_assoc]
theorem mapQ_none {a : List UInt8} {d : Nat} {r : Option (List UInt8 × Nat)} (h : r = none) : mapQ a d r = none := by rw [h]; rfl
theorem qd_nil : qdS [] = none := rfl
theorem qd_end (b : UInt8) (l : List UInt8) (h : b.toNat = 34) : qdS (b :: l) = some ([], 1) := by
  cases l with
  | nil => unfold qdS; rw [if_pos h]
  | cons c l => unfold qdS; rw [if_pos h]
theorem qd_odd (b : UInt8) (l : List UInt8) (h : b.toNat = 92) (h2 : l = [] ∨ ((hd l).toNat ≠ 34 ∧ (hd l).toNat ≠ 92)) : qdS (b :: l) = none := by
  cases l with
  | nil => unfold qdS; rw [if_neg (by omega)]
  | cons c l =>
    rcases h2 with h2 | h2
    · cases h2
    · rw [hd_cons] at h2
      unfold qdS
      rw [if_neg (by omega), if_pos h, if_neg (by omega)]
theorem qd_esc (b c : UInt8) (l : List UInt8) (h : b.toNat = 92) (h2 : c.toNat = 34 ∨ c.toNat = 92) : qdS (b :: c :: l) = mapQ [c] 2 (qdS l) := by
  rw [qdS, if_neg (by omega), if_pos h, if_pos h2]
theorem qd_one (b : UInt8) (l : List UInt8) (h1 : b.toNat ≠ 34) (h2 : b.toNat ≠ 92) : qdS (b :: l) = mapQ [b] 1 (qdS l) := by
  cases l with
  | nil => unfold qdS; rw [if_neg h1]; rfl
  | cons c l => rw [qdS, if_neg h1, if_neg h2]
theorem qd_back (r : List UInt8) : ∀ t : List UInt8, qdS (esc t ++ 34 :: r) = some (t, (esc t).length + 1)
  | [] => qd_end 34 r rfl
  | b :: t => by
    have ih := qd_back r t
    rw [esc, List.append_assoc]
    unfold esc1
    by_cases h : b.toNat = 34 ∨ b.toNat = 92
    · rw [if_pos h]
      show qdS (92 :: b :: (esc t ++ 34 :: r)) = _
      rw [qd_esc _ _ _ rfl h, ih]
      show some _ = some _
      simp; omega
    · rw [if_neg h]
      show qdS (b :: (esc t ++ 34 :: r)) = _
      rw [qd_one _ _ (fun e => h (.inl e)) (fun e => h (.inr e)), ih]
      show some _ = some _
      simp; omega
theorem qd_some : ∀ (m : Nat) (l : List UInt8), l.length ≤ m → ∀ t n, qdS l = some (t, n) → l = esc t ++ 34 :: l.drop n ∧ n = (esc t).length + 1 := by
  intro m
  induction m with
  | zero =>
    intro l hl t n h
    obtain rfl : l = [] := List.eq_nil_of_length_eq_zero (by omega)
    cases h
  | succ m ih =>
    intro l hl t n h
    cases l with
    | nil => cases h
    | cons b l =>
      by_cases h34 : b.toNat = 34
      · rw [qd_end b l h34] at h
        cases h
        obtain rfl : b = 34 := (byte_nat b 34 (by decide)).2 h34
        exact ⟨rfl, rfl⟩
      · by_cases h92 : b.toNat = 92
        · obtain rfl : b = 92 := (byte_nat b 92 (by decide)).2 h92
          cases l with
          | nil => rw [qd_odd _ _ h92 (.inl rfl)] at h; cases h
          | cons c l =>
            by_cases hc : c.toNat = 34 ∨ c.toNat = 92
            · rw [qd_esc _ c l h92 hc] at h
              cases hq : qdS l with
              | none => rw [hq] at h; cases h
              | some p =>
                obtain ⟨t', n'⟩ := p
                rw [hq] at h
                obtain ⟨e1, e2⟩ := ih l (by simp at hl; omega) t' n' hq
                cases h
                refine ⟨?_, ?_⟩
                · show 92 :: c :: l = esc (c :: t') ++ 34 :: (92 :: c :: l).drop (2 + n')
                  rw [esc, esc1, if_pos hc, show 2 + n' = n' + 1 + 1 by omega, List.drop_succ_cons, List.drop_succ_cons]
                  show 92 :: c :: l = 92 :: c :: (esc t' ++ 34 :: l.drop n')
                  rw [← e1]
                · show 2 + n' = (esc1 c ++ esc t').length + 1
                  rw [esc1, if_pos hc, e2]; simp; omega
            · rw [qd_odd _ _ h92 (.inr (by rw [hd_cons]; omega))] at h; cases h
        · rw [qd_one b l h34 h92] at h
          cases hq : qdS l with
          | none => rw [hq] at h; cases h
          | some p =>
            obtain ⟨t', n'⟩ := p
            rw [hq] at h
            obtain ⟨e1, e2⟩ := ih l (by simp at hl; omega) t' n' hq
            cases h
            have hc : ¬ (b.toNat = 34 ∨ b.toNat = 92) := by omega
            refine ⟨?_, ?_⟩
            · show b :: l = esc (b :: t') ++ 34 :: (b :: l).drop (1 + n')
              rw [esc, esc1, if_neg hc, show 1 + n' = n' + 1 by omega, List.drop_succ_cons]
              show b :: l = b :: (esc t' ++ 34 :: l.drop n')
              rw [← e1]
            · show 1 + n' = (esc1 b ++ esc t').length + 1
              rw [esc1, if_neg hc, e2]; simp; omega

theorem txt_yes {l : List UInt8} {t : List UInt8} {n : Nat} (h : qdS l = some (t, n)) : tkR (34 :: l) = (3, t, 1 + n) ∧ okR (34 :: l) = txtB t := by
  obtain ⟨e1, e2⟩ := qd_some l.length l (Nat.le_refl _) t n h
  have hr : rdT l = (t, n) := by
    have := rdT_back (l.drop n) t
    rw [← e1, ← e2] at this
    exact this
  have ht : tkR (34 :: l) = (3, t, 1 + n) := by
    rw [tk_text (by rw [hd_cons]; decide)]
    show (3, (rdT l).1, 1 + (rdT l).2) = _
    rw [hr]
  refine ⟨ht, ?_⟩
  rw [ok_iff ht]
  have hv : vld 3 t = txtB t := rfl
  cases hx : txtB t
  · rw [spl_no (by rw [hv, hx]), show 1 + n = n + 1 by omega]
    exact decide_eq_false (by simp)
  · rw [spl_3 (by rw [hv, hx]), show 1 + n = n + 1 by omega]
    refine decide_eq_true ?_
    show 34 :: (esc t ++ [34]) = 34 :: l.take n
    congr 1
    conv => rhs; rw [e1, e2]
    rw [show esc t ++ 34 :: l.drop ((esc t).length + 1) = (esc t ++ [34]) ++ l.drop ((esc t).length + 1) by simp]
    rw [List.take_left' (by simp)]
theorem txt_no {l : List UInt8} (h : qdS l = none) : okR (34 :: l) = false := by
  have ht : tkR (34 :: l) = (3, (rdT l).1, 1 + (rdT l).2) := tk_text (by rw [hd_cons]; decide)
  rw [ok_iff ht]
  refine decide_eq_false fun e => ?_
  cases hv : vld 3 (rdT l).1
  · rw [spl_no hv, show 1 + (rdT l).2 = (rdT l).2 + 1 by omega] at e
    cases e
  · rw [spl_3 hv, show 1 + (rdT l).2 = (rdT l).2 + 1 by omega] at e
    have e2 : esc (rdT l).1 ++ [34] = l.take (rdT l).2 := (List.cons.inj e).2
    have e3 : l = esc (rdT l).1 ++ 34 :: l.drop (rdT l).2 := by
      conv => lhs; rw [← List.take_append_drop (rdT l).2 l, ← e2]
      simp
    have := qd_back (l.drop (rdT l).2) (rdT l).1
    rw [← e3, h] at this
    cases this

/-- What a call of Next gives. -/
def FoundPost (a : Nat) (l : List UInt8) (w : World) (e : Ending) (V : World) : Prop :=
  ∃ (k : Int) (S : ByteArray) (t n : Int) (b : Bool), e = .returned (.agg #[.int .i64 k, .string S, .int .i64 t, .int .i64 n, .bool b]) ∧ Below w.heap.size w V ∧ b = okR l ∧ (b = true → k = (tkR l).1 ∧ S = bsOf (tkR l).2.1 ∧ t = a ∧ n = ((a + (tkR l).2.2 : Nat) : Int))

set_option maxRecDepth 100000 in
set_option maxHeartbeats 4000000 in
theorem quotedR_any (s : List UInt8) (a : Nat) (hs : s.length ≤ 1048576) (ha : a < s.length) (h34 : (s[a]?.getD 0).toNat = 34) (w : World) : Calls Try.prog 44 #[.string (bsOf s), .int .i64 (a : Int)] w (FoundPost a (s.drop a) w) := by
  have hl : s.drop a = 34 :: s.drop (a + 1) := by
    rw [List.drop_eq_getElem_cons ha]
    rw [List.getElem?_eq_getElem ha] at h34
    rw [show s[a] = 34 from (byte_nat _ 34 (by decide)).2 h34]
  rw [hl]
  have HY := Lib.hid (fun t n h => @txt_yes (s.drop (a + 1)) t n h)
  have HN := Lib.hid (fun h => @txt_no (s.drop (a + 1)) h)
  have HZ := Lib.hid (bs_size s)
  have HAT := Lib.hid (bs_at s)
  have HCUT := Lib.hid (fun p q => bs_cut s p q)
  obtain ⟨q0, hq0⟩ : ∃ q0, qdS (s.drop (a + 1)) = q0 := ⟨_, rfl⟩
  have HQ0 := Lib.hid hq0
  rw [hq0] at HY HN
  generalize 34 :: s.drop (a + 1) = l at *
  clear hl h34 hq0
  obtain ⟨S, hS⟩ : ∃ S, bsOf s = S := ⟨_, rfl⟩
  rw [hS] at HZ HAT HCUT ⊢
  have hss : S.size ≤ 1048576 := by rw [HZ.out]; exact hs
  have has : a < S.size := by rw [HZ.out]; exact ha
  clear hS hs ha
  have HB := Lib.hid ((Below.refl w.heap.size w).alloc (Nat.le_refl _) (.cells #[.int .i64 0, .string ⟨#[]⟩, .int .i64 0, .int .i64 0, .bool false] 52))
  go_enter Try.func44, Try.ntmps44
  go_wp2
  go_loop [5, 6] (fun ov iv => ∃ (k : Nat) (acc : List UInt8), a + 1 ≤ k ∧ k ≤ S.size ∧ iv = .int .i64 (k : Int) ∧ ov = .string (bsOf acc) ∧ acc.length ≤ k ∧ Hid (q0 = mapQ acc (k - (a + 1)) (qdS (s.drop k)))) (fun _ i => S.size - (intOf i).toNat)
  case atStart => exact ⟨a + 1, [], by omega, by omega, by go_num, rfl, Nat.zero_le _, by
    show _ = _
    rw [Nat.sub_self, HQ0.out]
    cases q0 with
    | none => rfl
    | some p => show some p = some ([] ++ p.1, 0 + p.2); rw [List.nil_append, Nat.zero_add]⟩
  case round =>
    obtain ⟨k, acc, hak, hk, rfl, rfl, hacc, HI⟩ := hrel
    have hAS : (bsOf acc).size ≤ 1048576 := by rw [bs_size]; omega
    by_cases hlt : k < S.size
    · have hx := HAT.out k hlt
      have hkl : k < s.length := by rw [← HZ.out]; exact hlt
      have hdk : s.drop k = (s[k]?.getD 0) :: s.drop (k + 1) := by rw [List.drop_eq_getElem_cons hkl, List.getElem?_eq_getElem hkl]; rfl
      have hI := HI.out
      rw [hdk] at hI
      by_cases h34 : (s[k]?.getD 0).toNat = 34
      · rw [qd_end _ _ h34] at hI
        obtain ⟨hy1, hy2⟩ := HY.out acc (k - (a + 1) + 1) (by rw [hI]; show some (acc ++ [], _) = _; rw [List.append_nil])
        have HT := Lib.hid (text_ref acc (by omega))
        have HK1 := Lib.hid hy1
        have HK2 := Lib.hid hy2.symm
        have e34 : (((s[k]?.getD 0).toNat : Int) == 34) = true := by rw [h34]; rfl
        obtain ⟨A, hA⟩ : ∃ A, bsOf acc = A := ⟨_, rfl⟩
        rw [hA] at HT hAS ⊢
        have HA := Lib.hid hA
        generalize txtB acc = tb at *
        clear h34 hdk hI hy1 hy2 hA hkl
        generalize s[k]?.getD 0 = x at *
        go_wp2_with (go_at_call 24; ((with_reducible refine (HT.out _).mono ?_); rintro e w1 ⟨rfl, rfl⟩))
        exact bodyPost_ret (v := .agg #[.int .i64 3, .string A, .int .i64 (a : Int), .int .i64 ((k : Int) + 1), .bool tb]) (by simp [results, Try.results44, go_sem]) rfl
          ⟨3, A, a, (k : Int) + 1, tb, rfl, (Below.refl w.heap.size w).alloc (Nat.le_refl _) _, HK2.out, fun _ => by rw [HK1.out]; exact ⟨rfl, HA.out.symm, rfl, by show _ = ((a + (1 + (k - (a + 1) + 1)) : Nat) : Int); omega⟩⟩
      · have e34 : (((s[k]?.getD 0).toNat : Int) == 34) = false := beq_false_of_ne (by omega)
        by_cases h92 : (s[k]?.getD 0).toNat = 92
        · have e92 : (((s[k]?.getD 0).toNat : Int) == 92) = true := by rw [h92]; rfl
          by_cases hlt2 : k + 1 < S.size
          · have hx2 := HAT.out (k + 1) hlt2
            have hkl2 : k + 1 < s.length := by rw [← HZ.out]; exact hlt2
            have hdk2 : s.drop (k + 1) = (s[k + 1]?.getD 0) :: s.drop (k + 2) := by rw [List.drop_eq_getElem_cons hkl2, List.getElem?_eq_getElem hkl2]; rfl
            obtain ⟨m, hm⟩ : ∃ m, k + 1 = m := ⟨_, rfl⟩
            obtain ⟨m2, hm2⟩ : ∃ m2, k + 2 = m2 := ⟨_, rfl⟩
            have hkm : (k : Int) + 1 = (m : Int) := by omega
            have hmm : (m : Int) + 1 = (m2 : Int) := by omega
            rw [hdk2] at hI
            have hcut := HCUT.out m m2
            rw [show m2 - m = 1 by omega, ← hm, hdk2] at hcut
            rw [show (s[k + 1]?.getD 0 :: s.drop (k + 2)).take 1 = [s[k + 1]?.getD 0] from rfl] at hcut
            rw [hm, hm2] at hI
            rw [hm] at hcut
            rw [hm] at hlt2
            have hx2' : S[m]'(by omega) = s[m]?.getD 0 := by subst hm; exact hx2
            have hmS : ((m : Int) == (S.size : Int)) = false := beq_false_of_ne (by omega)
            have HM := Lib.hid hm
            have HM2 := Lib.hid hm2
            clear hx2 hdk2 hkl2 hdk hkl hm hm2
            by_cases hc : (s[m]?.getD 0).toNat = 34 ∨ (s[m]?.getD 0).toNat = 92
            · rw [qd_esc _ _ _ h92 hc, mapQ_mapQ] at hI
              have HN2 : Hid (q0 = mapQ (acc ++ [s[m]?.getD 0]) (m2 - (a + 1)) (qdS (s.drop m2))) := by
                show _ = _
                rw [hI]; congr 1
                have := HM2.out; omega
              have hc2 := bs_two acc [s[m]?.getD 0]
              have hBS : (bsOf [s[m]?.getD 0]).size = 1 := by rw [bs_size]; rfl
              generalize s[k]?.getD 0 = x at *
              generalize hA3 : bsOf (acc ++ [s[m]?.getD 0]) = A3 at *
              have HA3 := Lib.hid hA3
              clear hA3 h34 h92 hI
              generalize bsOf [s[m]?.getD 0] = XB at *
              generalize bsOf acc = A at *
              obtain ⟨y, hy⟩ : ∃ y, s[m]?.getD 0 = y := ⟨_, rfl⟩
              rw [hy] at hx2' hc HN2 HA3
              clear hy
              rcases hc with hc | hc
              · have f34 : ((y.toNat : Int) == 34) = true := by rw [hc]; rfl
                go_wp2
                go_round
                case rel => exact ⟨m2, acc ++ [y], by have := HM2.out; omega, by have := HM2.out; omega, by rw [← hmm], by rw [HA3.out], by have := HM2.out; simp; omega, HN2.out⟩
                case measure => have := HM2.out; simp [intOf]; omega
              · have f34 : ((y.toNat : Int) == 34) = false := beq_false_of_ne (by omega)
                have f92 : ((y.toNat : Int) == 92) = true := by rw [hc]; rfl
                go_wp2
                go_round
                case rel => exact ⟨m2, acc ++ [y], by have := HM2.out; omega, by have := HM2.out; omega, by rw [← hmm], by rw [HA3.out], by have := HM2.out; simp; omega, HN2.out⟩
                case measure => have := HM2.out; simp [intOf]; omega
            · have HF := Lib.hid (HN.out (by rw [hI]; exact mapQ_none (qd_odd _ _ h92 (.inr (by rw [hd_cons]; omega)))))
              have f34 : (((s[m]?.getD 0).toNat : Int) == 34) = false := beq_false_of_ne (by omega)
              have f92 : (((s[m]?.getD 0).toNat : Int) == 92) = false := beq_false_of_ne (by omega)
              have g34 : (((s[m]?.getD 0).toNat : Int) != 34) = true := by unfold bne; rw [f34]; rfl
              have g92 : (((s[m]?.getD 0).toNat : Int) != 92) = true := by unfold bne; rw [f92]; rfl
              have i34 : ¬ (s[m]?.getD 0).toNat = 34 := fun e => hc (.inl e)
              have i92 : ¬ (s[m]?.getD 0).toNat = 92 := fun e => hc (.inr e)
              have j34 : ¬ ((s[m]?.getD 0).toNat : Int) = 34 := by omega
              have j92 : ¬ ((s[m]?.getD 0).toNat : Int) = 92 := by omega
              clear h34 h92 hI hc hcut
              generalize s[k]?.getD 0 = x at *
              generalize s[m]?.getD 0 = y at *
              generalize bsOf acc = A at *
              go_wp2
              exact bodyPost_ret (v := .agg #[.int .i64 0, .string ⟨#[]⟩, .int .i64 0, .int .i64 0, .bool false]) (by simp [results, Try.results44, go_sem]) rfl
                ⟨0, ⟨#[]⟩, 0, 0, false, rfl, HB.out, HF.out.symm, fun h => by cases h⟩
          · have HF := Lib.hid (HN.out (by rw [hI]; exact mapQ_none (qd_odd _ _ h92 (.inl (List.drop_eq_nil_of_le (by have := HZ.out; omega))))))
            have hmS : (k : Int) + 1 = (S.size : Int) := by omega
            clear h34 h92 hI hdk hkl hlt2
            generalize s[k]?.getD 0 = x at *
            generalize bsOf acc = A at *
            go_wp2
            exact bodyPost_ret (v := .agg #[.int .i64 0, .string ⟨#[]⟩, .int .i64 0, .int .i64 0, .bool false]) (by simp [results, Try.results44, go_sem]) rfl
              ⟨0, ⟨#[]⟩, 0, 0, false, rfl, HB.out, HF.out.symm, fun h => by cases h⟩
        · have e92 : (((s[k]?.getD 0).toNat : Int) == 92) = false := beq_false_of_ne (by omega)
          obtain ⟨m, hm⟩ : ∃ m, k + 1 = m := ⟨_, rfl⟩
          have hkm : (k : Int) + 1 = (m : Int) := by omega
          rw [qd_one _ _ h34 h92, mapQ_mapQ, hm] at hI
          have hcut := HCUT.out k m
          rw [show m - k = 1 by omega, hdk] at hcut
          rw [show (s[k]?.getD 0 :: s.drop (k + 1)).take 1 = [s[k]?.getD 0] from rfl] at hcut
          have HM := Lib.hid hm
          have HN2 : Hid (q0 = mapQ (acc ++ [s[k]?.getD 0]) (m - (a + 1)) (qdS (s.drop m))) := by
            show _ = _
            rw [hI]; congr 1
            omega
          have hc2 := bs_two acc [s[k]?.getD 0]
          have hBS : (bsOf [s[k]?.getD 0]).size = 1 := by rw [bs_size]; rfl
          generalize hA3 : bsOf (acc ++ [s[k]?.getD 0]) = A3 at *
          have HA3 := Lib.hid hA3
          clear hA3 h34 h92 hI hdk hkl hm
          generalize bsOf [s[k]?.getD 0] = XB at *
          generalize bsOf acc = A at *
          generalize s[k]?.getD 0 = x at *
          go_wp2
          go_round
          case rel => exact ⟨m, acc ++ [x], by have := HM.out; omega, by have := HM.out; omega, by rw [← hkm], by rw [HA3.out], by have := HM.out; simp; omega, HN2.out⟩
          case measure => have := HM.out; simp [intOf]; omega
    · have HF := Lib.hid (HN.out (by rw [HI.out, List.drop_eq_nil_of_le (by have := HZ.out; omega)]; rfl))
      obtain rfl : k = S.size := by omega
      clear hlt hk
      generalize bsOf acc = A at *
      go_wp2
      exact bodyPost_ret (v := .agg #[.int .i64 0, .string ⟨#[]⟩, .int .i64 0, .int .i64 0, .bool false]) (by simp [results, Try.results44, go_sem]) rfl
        ⟨0, ⟨#[]⟩, 0, 0, false, rfl, HB.out, HF.out.symm, fun h => by cases h⟩

end Go.Proofs.Ytohobiglnebocaa.Lx
