/-
  The reference: the dictionary of a list.
-/
import Derived.Test.YtdcapmbgnoahpaaDcRf3
import Derived.Test.YtdcapmbgnoahpaaDcRow
namespace Go.Proofs.Ytdcapmbgnoahpaa
open Go Go.RowKit Go.Shelf Go.ChangeShapes Go.WideShapes Go.ChangeAt

theorem inc_insert {d : List (List UInt8)} (hd : Inc d) (x : List UInt8) (k : Nat) (hk : k ≤ d.length) (h1 : ∀ j, j < k → d[j]?.getD [] < x) (h2 : k < d.length → x < d[k]?.getD []) : Inc (d.take k ++ [x] ++ d.drop k) := by
  have hd : d.Pairwise (· < ·) := hd
  have ht : (d.take k).Pairwise (· < ·) := hd.sublist (List.take_sublist k d)
  have hdr : (d.drop k).Pairwise (· < ·) := hd.sublist (List.drop_sublist k d)
  have hlt : ∀ a ∈ d.take k, a < x := fun a ha => by
    obtain ⟨j, hj, e⟩ := List.getElem_of_mem ha
    rw [List.length_take] at hj
    have := h1 j (by omega)
    rw [List.getElem?_eq_getElem (by omega)] at this
    rw [List.getElem_take] at e
    rw [← e]; exact this
  have hgt : ∀ b ∈ d.drop k, x < b := fun b hb => by
    obtain ⟨j, hj, e⟩ := List.getElem_of_mem hb
    rw [List.length_drop] at hj
    rw [List.getElem_drop] at e
    have h3 := h2 (by omega)
    by_cases hj0 : j = 0
    · subst hj0
      rw [List.getElem?_eq_getElem (by omega)] at h3
      rw [← e]; exact h3
    · have h4 := inc_at hd (i := k) (j := k + j) (by omega) (by omega)
      rw [List.getElem?_eq_getElem (show k + j < d.length by omega)] at h4
      rw [← e]; exact slt_trans h3 h4
  show (d.take k ++ [x] ++ d.drop k).Pairwise (· < ·)
  refine List.pairwise_append.2 ⟨List.pairwise_append.2 ⟨ht, List.pairwise_singleton _ _, fun a ha b hb => ?_⟩, hdr, fun a ha b hb => ?_⟩
  · rw [List.mem_singleton.1 hb]; exact hlt a ha
  · rcases List.mem_append.1 ha with h | h
    · exact slt_trans (hlt a h) (hgt b hb)
    · rw [List.mem_singleton.1 h]; exact hgt b hb

theorem of_more {l : List (List UInt8)} {x : List UInt8} {k : Nat} (hk : k ≤ (ofS l).length) (h1 : ∀ j, j < k → (ofS l)[j]?.getD [] < x) (h2 : k < (ofS l).length → x < (ofS l)[k]?.getD []) :
    ofS (l ++ [x]) = (ofS l).take k ++ [x] ++ (ofS l).drop k := by
  refine inc_ext (of_inc _) (inc_insert (of_inc l) x k hk h1 h2) fun y => ?_
  have h3 : y ∈ ofS l ↔ y ∈ (ofS l).take k ∨ y ∈ (ofS l).drop k := by
    conv => lhs; rw [← List.take_append_drop k (ofS l)]
    exact List.mem_append
  rw [mem_of] at h3
  rw [mem_of, List.mem_append, h3, List.mem_append, List.mem_append]
  constructor
  · rintro ((h | h) | h)
    · exact .inl (.inl h)
    · exact .inr h
    · exact .inl (.inr h)
  · rintro ((h | h) | h)
    · exact .inl (.inl h)
    · exact .inr h
    · exact .inl (.inr h)
theorem of_again {l : List (List UInt8)} {x : List UInt8} {k : Nat} (hk : k < (ofS l).length) (h : (ofS l)[k]?.getD [] = x) : ofS (l ++ [x]) = ofS l := by
  have hx : x ∈ l := by
    rw [← mem_of, ← h, List.getElem?_eq_getElem hk]; exact List.getElem_mem _
  refine of_ext fun y => ?_
  rw [List.mem_append, List.mem_singleton]
  constructor
  · rintro (h | h)
    · exact h
    · rw [h]; exact hx
  · exact .inl

set_option maxRecDepth 100000 in
set_option maxHeartbeats 8000000 in
theorem ofR_any {K : Nat → Prop} {a : Option Addr} {len cap : Nat} {l : List (List UInt8)} {W : World} (hR : RdS K W a len cap l) (hl40 : len ≤ 1000000) :
    Calls Try.prog 13 #[.slice a len cap] W (OfPost W (ofS l)) := by
  obtain ⟨i0, hi, hz0, hz1, hz2⟩ := info_parts Try.infoS5
  have HL := Lib.hid hR.hl
  have hfit := hR.fit
  have H := Lib.hid hR
  have HB0 : Hid (Below W.heap.size W (W.alloc (.cells #[] 9))) := (Below.refl _ _).alloc (Nat.le_refl _) _
  have HO0 : Hid (RdS (fun b => W.heap.size ≤ b) (W.alloc (.cells #[] 9)) (some ⟨W.heap.size, 0, none⟩) 0 0 (ofS (l.take 0))) := by
    have e0 : ofS [] = [] := List.eq_nil_of_length_eq_zero (Nat.le_zero.1 (of_len []))
    show RdS _ _ _ _ _ _
    rw [List.take_zero, e0]; exact RdS.empty
  clear hR
  go_enter Try.func13, Try.ntmps13
  go_wp2
  generalize W.alloc (.cells #[] 9) = V at *
  obtain ⟨g0, hg0⟩ : ∃ g, W.heap.size = g := ⟨_, rfl⟩
  have HG0 := Lib.hid hg0
  rw [hg0] at HO0 HB0 ⊢
  clear hg0
  go_loopw [3, 4] (fun v i wr => ∃ k n g c : Nat, k ≤ len ∧ i = .int .i64 k ∧ v = .slice (some ⟨g, 0, none⟩) n c ∧ n ≤ c ∧ n ≤ len ∧ Hid (RdS (fun b => g0 ≤ b) wr (some ⟨g, 0, none⟩) n c (ofS (l.take k))) ∧ Hid (Below g0 W wr)) (fun _ i _ => len - (intOf i).toNat)
  case atStart => exact ⟨0, 0, g0, 0, Nat.zero_le _, rfl, rfl, Nat.le_refl _, Nat.zero_le _, HO0, HB0⟩
  case round =>
    obtain ⟨k, n, g, c, hk, rfl, rfl, hnc, hnl, HO, HB⟩ := hrel
    by_cases hlt : k < len
    · obtain ⟨b, off, rfl, _, hblt, hc⟩ := H.out.cells (by omega)
      have hcx := (HB.out.cell (p := ⟨b, off + k, none⟩) (by rw [← HG0.out]; exact hblt)).trans (hc k hlt)
      have HT := Lib.hid (take_snocS l k (by rw [← HL.out]; exact hlt))
      have HOL := Lib.hid (of_len (l.take (k + 1)))
      have HTL : Hid ((l.take (k + 1)).length ≤ len) := by show _ ≤ _; rw [List.length_take, ← HL.out]; omega
      have HON := Lib.hid HO.out.hl
      have hwx := H.out.wideAt k
      clear hc
      rw [HT.out] at HOL
      have HMO : Hid (∀ j, j ≤ n → (∀ q, q < j → (ofS (l.take k))[q]?.getD [] < l[k]?.getD []) → (j < n → l[k]?.getD [] < (ofS (l.take k))[j]?.getD []) → ofS (l.take (k + 1)) = (ofS (l.take k)).take j ++ [l[k]?.getD []] ++ (ofS (l.take k)).drop j) := fun j h1 h2 h3 => by
        rw [HT.out]; exact of_more (by rw [← HON.out]; exact h1) h2 (by rw [← HON.out]; exact h3)
      have HAG : Hid (∀ j, j < n → (ofS (l.take k))[j]?.getD [] = l[k]?.getD [] → ofS (l.take (k + 1)) = ofS (l.take k)) := fun j h1 h2 => by
        rw [HT.out]; exact of_again (by rw [← HON.out]; exact h1) h2
      rw [← HT.out] at HOL
      generalize l[k]?.getD [] = x at *
      generalize ofS (l.take k) = d at *
      obtain ⟨d2, hd2⟩ : ∃ d2, ofS (l.take (k + 1)) = d2 := ⟨_, rfl⟩
      rw [hd2] at HMO HAG HOL
      have HD2 := Lib.hid hd2
      clear hd2 HT
      obtain ⟨X, hX⟩ : ∃ X, bsOf x = X := ⟨_, rfl⟩
      have HX := Lib.hid hX
      rw [hX] at hcx
      clear hX
      generalize wr = wa at *
      have hbwa : b < wa.heap.size := Nat.lt_of_lt_of_le (by rw [← HG0.out] at HB; exact hblt) (by have := HB.out.size; have := HG0.out; omega)
      have HOB : Hid (∀ U, U.heap = wa.heap → RdS (fun b => b < wa.heap.size) U (some ⟨g, 0, none⟩) n c d) := fun U hU => (HO.out.mono (fun b h _ => h)).heap hU
      go_wp2
      go_loopw [5] (fun i wx => ∃ j : Nat, j ≤ n ∧ i = .int .i64 j ∧ Hid (∀ q, q < j → d[q]?.getD [] < x) ∧ ∃ m, wx = wa.drewN m) (fun i _ => n - (intOf i).toNat)
      case atStart => exact ⟨0, Nat.zero_le _, rfl, (fun q h => absurd h (by omega)), 0, rfl⟩
      case round =>
        obtain ⟨j, hj, rfl, HLS, m, rfl⟩ := hrel
        have hjc : j ≤ c := by omega
        have hwj : IntKind.i64.wrap (j : Int) = (j : Int) := by rw [IntKind.wrap_i64]; omega
        by_cases hjn : j < n
        · obtain ⟨bo, oo, eo, _, hbo, hco⟩ := HO.out.cells (by omega)
          cases eo
          have hcd := hco j hjn
          rw [Nat.zero_add] at hcd
          have hd1 : decide (j < n) = true := decide_eq_true hjn
          have hd2 : decide ((j : Int) < (n : Int)) = true := decide_eq_true (by omega)
          obtain ⟨y, hy⟩ : ∃ y, d[j]?.getD [] = y := ⟨_, rfl⟩
          rw [hy] at hcd
          have HY := Lib.hid hy
          clear hco hy
          have el := bs_less y x
          have es := bs_same y x
          rw [HX.out] at el es
          by_cases hyx : y < x
          · rw [decide_eq_true hyx] at el
            have HLS2 : Hid (∀ q, q < j + 1 → d[q]?.getD [] < x) := fun q hq => by
              by_cases h : q = j
              · rw [h, HY.out]; exact hyx
              · exact HLS.out q (by omega)
            clear hyx es
            generalize bsOf y = Y at *
            go_wp2
            go_quiet (fail)
            go_wp2
            go_roundw
            case rel => exact ⟨j + 1, by omega, by go_num, HLS2, _, rfl⟩
            case measure => simp [intOf]; omega
          · rw [decide_eq_false hyx] at el
            have hb1 : ((j : Int) == (n : Int)) = false := by rw [beq_eq_false_iff_ne]; omega
            have hb2 : (j == n) = false := by rw [beq_eq_false_iff_ne]; omega
            have hb3 : decide ((j : Int) = (n : Int)) = false := decide_eq_false (by omega)
            by_cases heq : y = x
            · rw [decide_eq_true heq] at es
              have HDD : Hid (d2 = d) := HAG.out j hjn (by rw [HY.out]; exact heq)
              clear heq hyx
              generalize bsOf y = Y at *
              go_wp2
              go_quiet (fail)
              go_wp2
              go_quiet (fail)
              go_wp2
              go_roundw
              case rel => exact ⟨k + 1, n, g, c, by omega, by go_num, rfl, hnc, hnl, by rw [HD2.out, HDD.out]; exact HO.out.heap rfl, below_drewN HB.out _⟩
              case measure => simp [intOf]; omega
            · rw [decide_eq_false heq] at es
              have HDD : Hid (d2 = d.take j ++ [x] ++ d.drop j) := HMO.out j hj HLS.out (fun _ => by rw [HY.out]; exact slt_of_le (List.not_lt.1 hyx) (fun h => heq h.symm))
              have hn1 : n + 1 ≤ len := by
                have h1 := HOL.out
                rw [HDD.out, List.length_append, List.length_append, List.length_take, List.length_drop, ← HON.out] at h1
                have h2 := HTL.out
                simp at h1; omega
              clear heq hyx
              generalize bsOf y = Y at *
              go_wp2
              go_quiet (fail)
              go_upto_region 8 with fail
              go_quiet (fail)
              go_upto_region 9 with fail
              have HB0W : Hid (∀ A W : World, Below wa.heap.size A W → A.heap = wa.heap → Below A.heap.size A W) := fun A W hk hA => by rw [hA]; exact hk
              have HXW : Hid (∀ A W : World, Below wa.heap.size A W → A.heap = wa.heap → W.cell? ⟨b, off + k, none⟩ = some (.string X)) := fun A W hk hA => (hk.cell (p := ⟨b, off + k, none⟩) hbwa).trans ((show A.cell? ⟨b, off + k, none⟩ = wa.cell? ⟨b, off + k, none⟩ by simp only [World.cell?, hA]).trans hcx)
              obtain ⟨p1, m1, hc1, hp1⟩ := cutS_low (P := Try.prog) 23 (by kernel_rfl) (fun _ => by kernel_rfl) (HOB.out wa rfl) j hj
              obtain ⟨p2, m2, hc2, hp2⟩ := cutS_high (P := Try.prog) 23 (by kernel_rfl) (fun _ => by kernel_rfl) (HOB.out wa rfl) j hj
              have HC1 := Lib.hid hc1
              have HC2 := Lib.hid hc2
              have HP1 : Hid (∀ A W : World, Below wa.heap.size A W → A.heap = wa.heap → RdS (fun _ => True) W p1 j m1 (d.take j)) := fun A W hk hA => ((hp1.heap hA).below (HB0W.out A W hk hA)).mono fun _ _ _ => trivial
              have HP2 : Hid (∀ A W : World, Below wa.heap.size A W → A.heap = wa.heap → RdS (fun _ => True) W p2 (n - j) m2 (d.drop j)) := fun A W hk hA => ((hp2.heap hA).below (HB0W.out A W hk hA)).mono fun _ _ _ => trivial
              have HJ8 : Hid (j ≤ 100000000) := by show _ ≤ _; omega
              have HJ9 : Hid ((d.take j).length + [x].length ≤ 100000000) := by show _ ≤ _; rw [List.length_take]; simp; omega
              have HJ10 : Hid ((d.take j ++ [x]).length + (n - j) ≤ 100000000) := by show _ ≤ _; rw [List.length_append, List.length_take]; simp <;> omega
              have hkL := hlt
              clear hc1 hc2 hp1 hp2 hcx
              refine wp_region_fresh (base := wa.heap.size) (us := [some 4, none, none, none, some 10, none, none, none, none, some 10, some 14, none, none, none, none, none]) (ws := [10, 14]) (bs := [false, true, true, true, false, true, true, true, true, false, false, true, true, true, false, false]) (fs := [Row0S wa.heap.size, Fact.is (.slice (some ⟨g, 0, none⟩) n c), Fact.is (.int .i64 (j : Int)), Fact.is (.slice p1 j m1), RowS wa.heap.size (d.take j), Fact.is (.slice (some ⟨b, off, none⟩) len cap), Fact.is (.int .i64 (k : Int)), Fact.is (.pointer (some ⟨b, off + k, none⟩)), Fact.is (.string X), SlRdS [x], RowS wa.heap.size (d.take j ++ [x]), Fact.is (.slice (some ⟨g, 0, none⟩) n c), Fact.is (.int .i64 (j : Int)), Fact.is (.slice p2 (n - j) m2), RowS wa.heap.size d2, RowS wa.heap.size d2]) 8 (by kernel_rfl) (by kernel_rfl) (by kernel_rfl) (by kernel_rfl) (Nat.le_refl _) ⟨row0S_stable _, Fact.is_stable _, Fact.is_stable _, Fact.is_stable _, rowS_stable _ _, Fact.is_stable _, Fact.is_stable _, Fact.is_stable _, Fact.is_stable _, slrdS_stable _, rowS_stable _ _, Fact.is_stable _, Fact.is_stable _, Fact.is_stable _, rowS_stable _ _, rowS_stable _ _, trivial⟩ ⟨(fun h => by cases h), (fun _ => Fact.is_firm _ _), (fun _ => Fact.is_firm _ _), (fun _ => Fact.is_firm _ _), (fun h => by cases h), (fun _ => Fact.is_firm _ _), (fun _ => Fact.is_firm _ _), (fun _ => Fact.is_firm _ _), (fun _ => Fact.is_firm _ _), (fun h => by cases h), (fun h => by cases h), (fun _ => Fact.is_firm _ _), (fun _ => Fact.is_firm _ _), (fun _ => Fact.is_firm _ _), (fun h => by cases h), (fun h => by cases h), trivial⟩ ?_ ?_
              · exact ⟨by
                    intro a W hA hB hd hFR
                    have hB := Lib.hid hB
                    have p0 : a.eval (.tmp 0) = .slice (some ⟨b, off, none⟩) len cap := hA.at 0 (by kernel_rfl)
                    have p4 : a.eval (.tmp 4) = .int .i64 (k : Int) := hA.at 4 (by kernel_rfl)
                    have p5 : a.eval (.tmp 5) = .int .i64 (j : Int) := hA.at 5 (by kernel_rfl)
                    exact step2_of (step_lays (wanted_none rfl) (.slice (some ⟨W.heap.size, 0, none⟩) 0 0) (W.alloc (.cells #[] 9)) (by simp [execOp, go_sem]) ((Below.refl _ W).alloc (Nat.le_refl _) _) (row0S_new W _ hB.out.size)),
                  by
                    intro a W hA hB hd hFR
                    have hB := Lib.hid hB
                    have p0 : a.eval (.tmp 0) = .slice (some ⟨b, off, none⟩) len cap := hA.at 0 (by kernel_rfl)
                    have p4 : a.eval (.tmp 4) = .int .i64 (k : Int) := hA.at 4 (by kernel_rfl)
                    have p5 : a.eval (.tmp 5) = .int .i64 (j : Int) := hA.at 5 (by kernel_rfl)
                    have p3 : a.eval (.tmp 3) = .slice (some ⟨g, 0, none⟩) n c := hFR 15 3 rfl (by kernel_rfl)
                    exact step2_of (step_pure (wanted_none rfl) (.slice (some ⟨g, 0, none⟩) n c) (by simp [execOp, go_sem, tm p3]) rfl),
                  by
                    intro a W hA hB hd hFR
                    have hB := Lib.hid hB
                    have p0 : a.eval (.tmp 0) = .slice (some ⟨b, off, none⟩) len cap := hA.at 0 (by kernel_rfl)
                    have p4 : a.eval (.tmp 4) = .int .i64 (k : Int) := hA.at 4 (by kernel_rfl)
                    have p5 : a.eval (.tmp 5) = .int .i64 (j : Int) := hA.at 5 (by kernel_rfl)
                    exact step2_of (step_pure (wanted_none rfl) (.int .i64 (j : Int)) (by simp [execOp, go_sem, tm p5]) rfl),
                  by
                    intro a W hA hB hd hFR
                    obtain ⟨q0, q1, -⟩ := hd
                    have h46 : a.eval (.tmp 46) = .slice (some ⟨g, 0, none⟩) n c := q0
                    have h47 : a.eval (.tmp 47) = .int .i64 (j : Int) := q1
                    have hB := Lib.hid hB
                    have p0 : a.eval (.tmp 0) = .slice (some ⟨b, off, none⟩) len cap := hA.at 0 (by kernel_rfl)
                    have p4 : a.eval (.tmp 4) = .int .i64 (k : Int) := hA.at 4 (by kernel_rfl)
                    have p5 : a.eval (.tmp 5) = .int .i64 (j : Int) := hA.at 5 (by kernel_rfl)
                    exact step2_of (step_pure (wanted_none rfl) (.slice p1 j m1) (by simp [execOp, h46, h47, HC1.out]) rfl),
                  by
                    intro a W hA hB hd hFR
                    obtain ⟨q0, q1, -⟩ := hd
                    have h45 : (Row0S wa.heap.size) (a.eval (.tmp 45)) W := q0
                    have h48 : a.eval (.tmp 48) = .slice p1 j m1 := q1
                    have hB := Lib.hid hB
                    have p0 : a.eval (.tmp 0) = .slice (some ⟨b, off, none⟩) len cap := hA.at 0 (by kernel_rfl)
                    have p4 : a.eval (.tmp 4) = .int .i64 (k : Int) := hA.at 4 (by kernel_rfl)
                    have p5 : a.eval (.tmp 5) = .int .i64 (j : Int) := hA.at 5 (by kernel_rfl)
                    obtain ⟨v', w', hr, h1, h2⟩ := row0S_append h45 (HP1.out _ W hB.out rfl) hB.out.size HJ8.out
                    exact step2_of (step_appendS (wanted_none rfl) (.tmp 45) (.tmp 48) 23 23 rfl rfl h48 hr h2 h1),
                  by
                    intro a W hA hB hd hFR
                    have hB := Lib.hid hB
                    have p0 : a.eval (.tmp 0) = .slice (some ⟨b, off, none⟩) len cap := hA.at 0 (by kernel_rfl)
                    have p4 : a.eval (.tmp 4) = .int .i64 (k : Int) := hA.at 4 (by kernel_rfl)
                    have p5 : a.eval (.tmp 5) = .int .i64 (j : Int) := hA.at 5 (by kernel_rfl)
                    exact step2_of (step_pure (wanted_none rfl) (.slice (some ⟨b, off, none⟩) len cap) (by simp [execOp, go_sem, tm p0]) rfl),
                  by
                    intro a W hA hB hd hFR
                    have hB := Lib.hid hB
                    have p0 : a.eval (.tmp 0) = .slice (some ⟨b, off, none⟩) len cap := hA.at 0 (by kernel_rfl)
                    have p4 : a.eval (.tmp 4) = .int .i64 (k : Int) := hA.at 4 (by kernel_rfl)
                    have p5 : a.eval (.tmp 5) = .int .i64 (j : Int) := hA.at 5 (by kernel_rfl)
                    exact step2_of (step_pure (wanted_none rfl) (.int .i64 (k : Int)) (by simp [execOp, go_sem, tm p4]) rfl),
                  by
                    intro a W hA hB hd hFR
                    obtain ⟨q0, q1, -⟩ := hd
                    have h50 : a.eval (.tmp 50) = .slice (some ⟨b, off, none⟩) len cap := q0
                    have h51 : a.eval (.tmp 51) = .int .i64 (k : Int) := q1
                    have hB := Lib.hid hB
                    have p0 : a.eval (.tmp 0) = .slice (some ⟨b, off, none⟩) len cap := hA.at 0 (by kernel_rfl)
                    have p4 : a.eval (.tmp 4) = .int .i64 (k : Int) := hA.at 4 (by kernel_rfl)
                    have p5 : a.eval (.tmp 5) = .int .i64 (j : Int) := hA.at 5 (by kernel_rfl)
                    exact step2_of (step_pure (wanted_none rfl) (.pointer (some ⟨b, off + k, none⟩)) (by simp [execOp, go_sem, tm h50, tm h51, hkL]) rfl),
                  by
                    intro a W hA hB hd hFR
                    obtain ⟨q0, -⟩ := hd
                    have h52 : a.eval (.tmp 52) = .pointer (some ⟨b, off + k, none⟩) := q0
                    have hB := Lib.hid hB
                    have p0 : a.eval (.tmp 0) = .slice (some ⟨b, off, none⟩) len cap := hA.at 0 (by kernel_rfl)
                    have p4 : a.eval (.tmp 4) = .int .i64 (k : Int) := hA.at 4 (by kernel_rfl)
                    have p5 : a.eval (.tmp 5) = .int .i64 (j : Int) := hA.at 5 (by kernel_rfl)
                    have c0 := HXW.out _ W hB.out rfl
                    exact step2_of (step_pure (wanted_none rfl) (.string X) (by simp [execOp, go_sem, tm h52, c0]) rfl),
                  by
                    intro a W hA hB hd hFR
                    obtain ⟨q0, -⟩ := hd
                    have h53 : a.eval (.tmp 53) = .string X := q0
                    have hB := Lib.hid hB
                    have p0 : a.eval (.tmp 0) = .slice (some ⟨b, off, none⟩) len cap := hA.at 0 (by kernel_rfl)
                    have p4 : a.eval (.tmp 4) = .int .i64 (k : Int) := hA.at 4 (by kernel_rfl)
                    have p5 : a.eval (.tmp 5) = .int .i64 (j : Int) := hA.at 5 (by kernel_rfl)
                    exact step2_of (step_lays (wanted_none rfl) (.slice (some ⟨W.heap.size, 0, none⟩) 1 1) (W.alloc (.cells #[.string X] 9)) (by simp [execOp, go_sem, tm h53]) ((Below.refl _ W).alloc (Nat.le_refl _) _) (slrdS_one W x HX.out hwx)),
                  by
                    intro a W hA hB hd hFR
                    obtain ⟨q0, q1, -⟩ := hd
                    have h49 : (RowS wa.heap.size (d.take j)) (a.eval (.tmp 49)) W := q0
                    have h54 : (SlRdS [x]) (a.eval (.tmp 54)) W := q1
                    have hB := Lib.hid hB
                    have p0 : a.eval (.tmp 0) = .slice (some ⟨b, off, none⟩) len cap := hA.at 0 (by kernel_rfl)
                    have p4 : a.eval (.tmp 4) = .int .i64 (k : Int) := hA.at 4 (by kernel_rfl)
                    have p5 : a.eval (.tmp 5) = .int .i64 (j : Int) := hA.at 5 (by kernel_rfl)
                    obtain ⟨gq, nq, cq, e54, r54⟩ := h54
                    obtain ⟨v', w', hr, h1, h2⟩ := rowS_append h49 r54 hB.out.size (by rw [r54.hl]; exact HJ9.out)
                    exact step2_append (wanted_none rfl) (.tmp 49) (.tmp 54) 23 23 rfl rfl e54 hr h2 h1,
                  by
                    intro a W hA hB hd hFR
                    have hB := Lib.hid hB
                    have p0 : a.eval (.tmp 0) = .slice (some ⟨b, off, none⟩) len cap := hA.at 0 (by kernel_rfl)
                    have p4 : a.eval (.tmp 4) = .int .i64 (k : Int) := hA.at 4 (by kernel_rfl)
                    have p5 : a.eval (.tmp 5) = .int .i64 (j : Int) := hA.at 5 (by kernel_rfl)
                    have p3 : a.eval (.tmp 3) = .slice (some ⟨g, 0, none⟩) n c := hFR 15 3 rfl (by kernel_rfl)
                    exact step2_of (step_pure (wanted_none rfl) (.slice (some ⟨g, 0, none⟩) n c) (by simp [execOp, go_sem, tm p3]) rfl),
                  by
                    intro a W hA hB hd hFR
                    have hB := Lib.hid hB
                    have p0 : a.eval (.tmp 0) = .slice (some ⟨b, off, none⟩) len cap := hA.at 0 (by kernel_rfl)
                    have p4 : a.eval (.tmp 4) = .int .i64 (k : Int) := hA.at 4 (by kernel_rfl)
                    have p5 : a.eval (.tmp 5) = .int .i64 (j : Int) := hA.at 5 (by kernel_rfl)
                    exact step2_of (step_pure (wanted_none rfl) (.int .i64 (j : Int)) (by simp [execOp, go_sem, tm p5]) rfl),
                  by
                    intro a W hA hB hd hFR
                    obtain ⟨q0, q1, -⟩ := hd
                    have h56 : a.eval (.tmp 56) = .slice (some ⟨g, 0, none⟩) n c := q0
                    have h57 : a.eval (.tmp 57) = .int .i64 (j : Int) := q1
                    have hB := Lib.hid hB
                    have p0 : a.eval (.tmp 0) = .slice (some ⟨b, off, none⟩) len cap := hA.at 0 (by kernel_rfl)
                    have p4 : a.eval (.tmp 4) = .int .i64 (k : Int) := hA.at 4 (by kernel_rfl)
                    have p5 : a.eval (.tmp 5) = .int .i64 (j : Int) := hA.at 5 (by kernel_rfl)
                    exact step2_of (step_pure (wanted_none rfl) (.slice p2 (n - j) m2) (by simp [execOp, h56, h57, HC2.out]) rfl),
                  by
                    intro a W hA hB hd hFR
                    obtain ⟨q0, q1, -⟩ := hd
                    have h55 : (RowS wa.heap.size (d.take j ++ [x])) (a.eval (.tmp 55)) W := q0
                    have h58 : a.eval (.tmp 58) = .slice p2 (n - j) m2 := q1
                    have hB := Lib.hid hB
                    have p0 : a.eval (.tmp 0) = .slice (some ⟨b, off, none⟩) len cap := hA.at 0 (by kernel_rfl)
                    have p4 : a.eval (.tmp 4) = .int .i64 (k : Int) := hA.at 4 (by kernel_rfl)
                    have p5 : a.eval (.tmp 5) = .int .i64 (j : Int) := hA.at 5 (by kernel_rfl)
                    obtain ⟨v', w', hr, h1, h2⟩ := rowS_append h55 (HP2.out _ W hB.out rfl) hB.out.size HJ10.out
                    rw [← HDD.out] at h1
                    exact step2_append (wanted_none rfl) (.tmp 55) (.tmp 58) 23 23 rfl rfl h58 hr h2 h1,
                  by
                    intro a W hA hB hd hFR
                    obtain ⟨q0, -⟩ := hd
                    have h59 : (RowS wa.heap.size d2) (a.eval (.tmp 59)) W := q0
                    have hB := Lib.hid hB
                    have p0 : a.eval (.tmp 0) = .slice (some ⟨b, off, none⟩) len cap := hA.at 0 (by kernel_rfl)
                    have p4 : a.eval (.tmp 4) = .int .i64 (k : Int) := hA.at 4 (by kernel_rfl)
                    have p5 : a.eval (.tmp 5) = .int .i64 (j : Int) := hA.at 5 (by kernel_rfl)
                    exact step2_of (step_pure (wanted_none rfl) (a.eval (.tmp 59)) (by simp [execOp, go_sem]) h59), trivial⟩
              · intro ax V hA hB hE
                have f3 : (RowS wa.heap.size d2) (ax.eval (.tmp 3)) V := hE.2.2.2.2.2.2.2.2.2.2.2.2.2.2.2.1
                obtain ⟨g4, c4, e3, hc4, ho4⟩ := f3
                have hp := hA.puts [45, 46, 47, 48, 49, 50, 51, 52, 53, 54, 55, 56, 57, 58, 59, 3] (by kernel_rfl)
                clear hA hE
                simp only [putAll, e3] at hp
                clear e3
                generalize ax.eval = ev at hp
                subst hp
                have hl2 : d2.length = n + 1 := by rw [HDD.out, List.length_append, List.length_append, List.length_take, List.length_drop, ← HON.out]; simp <;> omega
                have hsz : g0 ≤ wa.heap.size := by rw [← HG0.out]; exact HB.out.size
                have HB5 : Hid (Below g0 W V) := HB.out.trans (Below.trans (by exact ⟨rfl, rfl, rfl, Nat.le_refl _, fun _ _ => rfl⟩) (hB.mono hsz))
                have HD5 : Hid (RdS (fun b => g0 ≤ b) V (some ⟨g4, 0, none⟩) (n + 1) c4 d2) := by
                  rw [hl2] at ho4 hc4
                  refine (RdS.of_row hl2.symm (by omega) (fun s hs => ?_) ho4).mono fun b _ hb => Nat.le_trans hsz hb
                  rw [HDD.out] at hs
                  rcases List.mem_append.1 hs with hs | hs
                  · rcases List.mem_append.1 hs with hs | hs
                    · exact HO.out.wide s (List.mem_of_mem_take hs)
                    · rw [List.mem_singleton.1 hs]; exact hwx
                  · exact HO.out.wide s (List.mem_of_mem_drop hs)
                rw [hl2] at hc4 ⊢
                clear hB ho4 HXW HC1 HC2 HP1 HP2 hl2
                simp [Act.put]
                go_wp2
                go_roundw
                case rel => exact ⟨k + 1, n + 1, g4, c4, by omega, by go_num, rfl, hc4, by omega, by rw [HD2.out]; exact HD5.out, HB5.out⟩
                case measure => simp [intOf]; omega
        · obtain rfl : j = n := by omega
          have hd1 : decide (j < j) = false := decide_eq_false (by omega)
          have hd2 : decide ((j : Int) < (j : Int)) = false := decide_eq_false (by omega)
          have HDD : Hid (d2 = d.take j ++ [x] ++ d.drop j) := HMO.out j hj HLS.out (fun h => absurd h (by omega))
          have hn1 : j + 1 ≤ len := by
            have h1 := HOL.out
            rw [HDD.out, List.length_append, List.length_append, List.length_take, List.length_drop, ← HON.out] at h1
            have h2 := HTL.out
            simp at h1; omega
          go_wp2
          go_quiet (fail)
          go_upto_region 8 with fail
          go_quiet (fail)
          go_upto_region 9 with fail
          have HB0W : Hid (∀ A W : World, Below wa.heap.size A W → A.heap = wa.heap → Below A.heap.size A W) := fun A W hk hA => by rw [hA]; exact hk
          have HXW : Hid (∀ A W : World, Below wa.heap.size A W → A.heap = wa.heap → W.cell? ⟨b, off + k, none⟩ = some (.string X)) := fun A W hk hA => (hk.cell (p := ⟨b, off + k, none⟩) hbwa).trans ((show A.cell? ⟨b, off + k, none⟩ = wa.cell? ⟨b, off + k, none⟩ by simp only [World.cell?, hA]).trans hcx)
          obtain ⟨p1, m1, hc1, hp1⟩ := cutS_low (P := Try.prog) 23 (by kernel_rfl) (fun _ => by kernel_rfl) (HOB.out wa rfl) j hj
          obtain ⟨p2, m2, hc2, hp2⟩ := cutS_high (P := Try.prog) 23 (by kernel_rfl) (fun _ => by kernel_rfl) (HOB.out wa rfl) j hj
          have HC1 := Lib.hid hc1
          have HC2 := Lib.hid hc2
          have HP1 : Hid (∀ A W : World, Below wa.heap.size A W → A.heap = wa.heap → RdS (fun _ => True) W p1 j m1 (d.take j)) := fun A W hk hA => ((hp1.heap hA).below (HB0W.out A W hk hA)).mono fun _ _ _ => trivial
          have HP2 : Hid (∀ A W : World, Below wa.heap.size A W → A.heap = wa.heap → RdS (fun _ => True) W p2 (j - j) m2 (d.drop j)) := fun A W hk hA => ((hp2.heap hA).below (HB0W.out A W hk hA)).mono fun _ _ _ => trivial
          have HJ8 : Hid (j ≤ 100000000) := by show _ ≤ _; omega
          have HJ9 : Hid ((d.take j).length + [x].length ≤ 100000000) := by show _ ≤ _; rw [List.length_take]; simp; omega
          have HJ10 : Hid ((d.take j ++ [x]).length + (j - j) ≤ 100000000) := by show _ ≤ _; rw [List.length_append, List.length_take]; simp <;> omega
          have hkL := hlt
          clear hc1 hc2 hp1 hp2 hcx
          refine wp_region_fresh (base := wa.heap.size) (us := [some 4, none, none, none, some 10, none, none, none, none, some 10, some 14, none, none, none, none, none]) (ws := [10, 14]) (bs := [false, true, true, true, false, true, true, true, true, false, false, true, true, true, false, false]) (fs := [Row0S wa.heap.size, Fact.is (.slice (some ⟨g, 0, none⟩) j c), Fact.is (.int .i64 (j : Int)), Fact.is (.slice p1 j m1), RowS wa.heap.size (d.take j), Fact.is (.slice (some ⟨b, off, none⟩) len cap), Fact.is (.int .i64 (k : Int)), Fact.is (.pointer (some ⟨b, off + k, none⟩)), Fact.is (.string X), SlRdS [x], RowS wa.heap.size (d.take j ++ [x]), Fact.is (.slice (some ⟨g, 0, none⟩) j c), Fact.is (.int .i64 (j : Int)), Fact.is (.slice p2 (j - j) m2), RowS wa.heap.size d2, RowS wa.heap.size d2]) 8 (by kernel_rfl) (by kernel_rfl) (by kernel_rfl) (by kernel_rfl) (Nat.le_refl _) ⟨row0S_stable _, Fact.is_stable _, Fact.is_stable _, Fact.is_stable _, rowS_stable _ _, Fact.is_stable _, Fact.is_stable _, Fact.is_stable _, Fact.is_stable _, slrdS_stable _, rowS_stable _ _, Fact.is_stable _, Fact.is_stable _, Fact.is_stable _, rowS_stable _ _, rowS_stable _ _, trivial⟩ ⟨(fun h => by cases h), (fun _ => Fact.is_firm _ _), (fun _ => Fact.is_firm _ _), (fun _ => Fact.is_firm _ _), (fun h => by cases h), (fun _ => Fact.is_firm _ _), (fun _ => Fact.is_firm _ _), (fun _ => Fact.is_firm _ _), (fun _ => Fact.is_firm _ _), (fun h => by cases h), (fun h => by cases h), (fun _ => Fact.is_firm _ _), (fun _ => Fact.is_firm _ _), (fun _ => Fact.is_firm _ _), (fun h => by cases h), (fun h => by cases h), trivial⟩ ?_ ?_
          · exact ⟨by
                intro a W hA hB hd hFR
                have hB := Lib.hid hB
                have p0 : a.eval (.tmp 0) = .slice (some ⟨b, off, none⟩) len cap := hA.at 0 (by kernel_rfl)
                have p4 : a.eval (.tmp 4) = .int .i64 (k : Int) := hA.at 4 (by kernel_rfl)
                have p5 : a.eval (.tmp 5) = .int .i64 (j : Int) := hA.at 5 (by kernel_rfl)
                exact step2_of (step_lays (wanted_none rfl) (.slice (some ⟨W.heap.size, 0, none⟩) 0 0) (W.alloc (.cells #[] 9)) (by simp [execOp, go_sem]) ((Below.refl _ W).alloc (Nat.le_refl _) _) (row0S_new W _ hB.out.size)),
              by
                intro a W hA hB hd hFR
                have hB := Lib.hid hB
                have p0 : a.eval (.tmp 0) = .slice (some ⟨b, off, none⟩) len cap := hA.at 0 (by kernel_rfl)
                have p4 : a.eval (.tmp 4) = .int .i64 (k : Int) := hA.at 4 (by kernel_rfl)
                have p5 : a.eval (.tmp 5) = .int .i64 (j : Int) := hA.at 5 (by kernel_rfl)
                have p3 : a.eval (.tmp 3) = .slice (some ⟨g, 0, none⟩) j c := hFR 15 3 rfl (by kernel_rfl)
                exact step2_of (step_pure (wanted_none rfl) (.slice (some ⟨g, 0, none⟩) j c) (by simp [execOp, go_sem, tm p3]) rfl),
              by
                intro a W hA hB hd hFR
                have hB := Lib.hid hB
                have p0 : a.eval (.tmp 0) = .slice (some ⟨b, off, none⟩) len cap := hA.at 0 (by kernel_rfl)
                have p4 : a.eval (.tmp 4) = .int .i64 (k : Int) := hA.at 4 (by kernel_rfl)
                have p5 : a.eval (.tmp 5) = .int .i64 (j : Int) := hA.at 5 (by kernel_rfl)
                exact step2_of (step_pure (wanted_none rfl) (.int .i64 (j : Int)) (by simp [execOp, go_sem, tm p5]) rfl),
              by
                intro a W hA hB hd hFR
                obtain ⟨q0, q1, -⟩ := hd
                have h46 : a.eval (.tmp 46) = .slice (some ⟨g, 0, none⟩) j c := q0
                have h47 : a.eval (.tmp 47) = .int .i64 (j : Int) := q1
                have hB := Lib.hid hB
                have p0 : a.eval (.tmp 0) = .slice (some ⟨b, off, none⟩) len cap := hA.at 0 (by kernel_rfl)
                have p4 : a.eval (.tmp 4) = .int .i64 (k : Int) := hA.at 4 (by kernel_rfl)
                have p5 : a.eval (.tmp 5) = .int .i64 (j : Int) := hA.at 5 (by kernel_rfl)
                exact step2_of (step_pure (wanted_none rfl) (.slice p1 j m1) (by simp [execOp, h46, h47, HC1.out]) rfl),
              by
                intro a W hA hB hd hFR
                obtain ⟨q0, q1, -⟩ := hd
                have h45 : (Row0S wa.heap.size) (a.eval (.tmp 45)) W := q0
                have h48 : a.eval (.tmp 48) = .slice p1 j m1 := q1
                have hB := Lib.hid hB
                have p0 : a.eval (.tmp 0) = .slice (some ⟨b, off, none⟩) len cap := hA.at 0 (by kernel_rfl)
                have p4 : a.eval (.tmp 4) = .int .i64 (k : Int) := hA.at 4 (by kernel_rfl)
                have p5 : a.eval (.tmp 5) = .int .i64 (j : Int) := hA.at 5 (by kernel_rfl)
                obtain ⟨v', w', hr, h1, h2⟩ := row0S_append h45 (HP1.out _ W hB.out rfl) hB.out.size HJ8.out
                exact step2_of (step_appendS (wanted_none rfl) (.tmp 45) (.tmp 48) 23 23 rfl rfl h48 hr h2 h1),
              by
                intro a W hA hB hd hFR
                have hB := Lib.hid hB
                have p0 : a.eval (.tmp 0) = .slice (some ⟨b, off, none⟩) len cap := hA.at 0 (by kernel_rfl)
                have p4 : a.eval (.tmp 4) = .int .i64 (k : Int) := hA.at 4 (by kernel_rfl)
                have p5 : a.eval (.tmp 5) = .int .i64 (j : Int) := hA.at 5 (by kernel_rfl)
                exact step2_of (step_pure (wanted_none rfl) (.slice (some ⟨b, off, none⟩) len cap) (by simp [execOp, go_sem, tm p0]) rfl),
              by
                intro a W hA hB hd hFR
                have hB := Lib.hid hB
                have p0 : a.eval (.tmp 0) = .slice (some ⟨b, off, none⟩) len cap := hA.at 0 (by kernel_rfl)
                have p4 : a.eval (.tmp 4) = .int .i64 (k : Int) := hA.at 4 (by kernel_rfl)
                have p5 : a.eval (.tmp 5) = .int .i64 (j : Int) := hA.at 5 (by kernel_rfl)
                exact step2_of (step_pure (wanted_none rfl) (.int .i64 (k : Int)) (by simp [execOp, go_sem, tm p4]) rfl),
              by
                intro a W hA hB hd hFR
                obtain ⟨q0, q1, -⟩ := hd
                have h50 : a.eval (.tmp 50) = .slice (some ⟨b, off, none⟩) len cap := q0
                have h51 : a.eval (.tmp 51) = .int .i64 (k : Int) := q1
                have hB := Lib.hid hB
                have p0 : a.eval (.tmp 0) = .slice (some ⟨b, off, none⟩) len cap := hA.at 0 (by kernel_rfl)
                have p4 : a.eval (.tmp 4) = .int .i64 (k : Int) := hA.at 4 (by kernel_rfl)
                have p5 : a.eval (.tmp 5) = .int .i64 (j : Int) := hA.at 5 (by kernel_rfl)
                exact step2_of (step_pure (wanted_none rfl) (.pointer (some ⟨b, off + k, none⟩)) (by simp [execOp, go_sem, tm h50, tm h51, hkL]) rfl),
              by
                intro a W hA hB hd hFR
                obtain ⟨q0, -⟩ := hd
                have h52 : a.eval (.tmp 52) = .pointer (some ⟨b, off + k, none⟩) := q0
                have hB := Lib.hid hB
                have p0 : a.eval (.tmp 0) = .slice (some ⟨b, off, none⟩) len cap := hA.at 0 (by kernel_rfl)
                have p4 : a.eval (.tmp 4) = .int .i64 (k : Int) := hA.at 4 (by kernel_rfl)
                have p5 : a.eval (.tmp 5) = .int .i64 (j : Int) := hA.at 5 (by kernel_rfl)
                have c0 := HXW.out _ W hB.out rfl
                exact step2_of (step_pure (wanted_none rfl) (.string X) (by simp [execOp, go_sem, tm h52, c0]) rfl),
              by
                intro a W hA hB hd hFR
                obtain ⟨q0, -⟩ := hd
                have h53 : a.eval (.tmp 53) = .string X := q0
                have hB := Lib.hid hB
                have p0 : a.eval (.tmp 0) = .slice (some ⟨b, off, none⟩) len cap := hA.at 0 (by kernel_rfl)
                have p4 : a.eval (.tmp 4) = .int .i64 (k : Int) := hA.at 4 (by kernel_rfl)
                have p5 : a.eval (.tmp 5) = .int .i64 (j : Int) := hA.at 5 (by kernel_rfl)
                exact step2_of (step_lays (wanted_none rfl) (.slice (some ⟨W.heap.size, 0, none⟩) 1 1) (W.alloc (.cells #[.string X] 9)) (by simp [execOp, go_sem, tm h53]) ((Below.refl _ W).alloc (Nat.le_refl _) _) (slrdS_one W x HX.out hwx)),
              by
                intro a W hA hB hd hFR
                obtain ⟨q0, q1, -⟩ := hd
                have h49 : (RowS wa.heap.size (d.take j)) (a.eval (.tmp 49)) W := q0
                have h54 : (SlRdS [x]) (a.eval (.tmp 54)) W := q1
                have hB := Lib.hid hB
                have p0 : a.eval (.tmp 0) = .slice (some ⟨b, off, none⟩) len cap := hA.at 0 (by kernel_rfl)
                have p4 : a.eval (.tmp 4) = .int .i64 (k : Int) := hA.at 4 (by kernel_rfl)
                have p5 : a.eval (.tmp 5) = .int .i64 (j : Int) := hA.at 5 (by kernel_rfl)
                obtain ⟨gq, nq, cq, e54, r54⟩ := h54
                obtain ⟨v', w', hr, h1, h2⟩ := rowS_append h49 r54 hB.out.size (by rw [r54.hl]; exact HJ9.out)
                exact step2_append (wanted_none rfl) (.tmp 49) (.tmp 54) 23 23 rfl rfl e54 hr h2 h1,
              by
                intro a W hA hB hd hFR
                have hB := Lib.hid hB
                have p0 : a.eval (.tmp 0) = .slice (some ⟨b, off, none⟩) len cap := hA.at 0 (by kernel_rfl)
                have p4 : a.eval (.tmp 4) = .int .i64 (k : Int) := hA.at 4 (by kernel_rfl)
                have p5 : a.eval (.tmp 5) = .int .i64 (j : Int) := hA.at 5 (by kernel_rfl)
                have p3 : a.eval (.tmp 3) = .slice (some ⟨g, 0, none⟩) j c := hFR 15 3 rfl (by kernel_rfl)
                exact step2_of (step_pure (wanted_none rfl) (.slice (some ⟨g, 0, none⟩) j c) (by simp [execOp, go_sem, tm p3]) rfl),
              by
                intro a W hA hB hd hFR
                have hB := Lib.hid hB
                have p0 : a.eval (.tmp 0) = .slice (some ⟨b, off, none⟩) len cap := hA.at 0 (by kernel_rfl)
                have p4 : a.eval (.tmp 4) = .int .i64 (k : Int) := hA.at 4 (by kernel_rfl)
                have p5 : a.eval (.tmp 5) = .int .i64 (j : Int) := hA.at 5 (by kernel_rfl)
                exact step2_of (step_pure (wanted_none rfl) (.int .i64 (j : Int)) (by simp [execOp, go_sem, tm p5]) rfl),
              by
                intro a W hA hB hd hFR
                obtain ⟨q0, q1, -⟩ := hd
                have h56 : a.eval (.tmp 56) = .slice (some ⟨g, 0, none⟩) j c := q0
                have h57 : a.eval (.tmp 57) = .int .i64 (j : Int) := q1
                have hB := Lib.hid hB
                have p0 : a.eval (.tmp 0) = .slice (some ⟨b, off, none⟩) len cap := hA.at 0 (by kernel_rfl)
                have p4 : a.eval (.tmp 4) = .int .i64 (k : Int) := hA.at 4 (by kernel_rfl)
                have p5 : a.eval (.tmp 5) = .int .i64 (j : Int) := hA.at 5 (by kernel_rfl)
                exact step2_of (step_pure (wanted_none rfl) (.slice p2 (j - j) m2) (by simp [execOp, h56, h57, HC2.out]) rfl),
              by
                intro a W hA hB hd hFR
                obtain ⟨q0, q1, -⟩ := hd
                have h55 : (RowS wa.heap.size (d.take j ++ [x])) (a.eval (.tmp 55)) W := q0
                have h58 : a.eval (.tmp 58) = .slice p2 (j - j) m2 := q1
                have hB := Lib.hid hB
                have p0 : a.eval (.tmp 0) = .slice (some ⟨b, off, none⟩) len cap := hA.at 0 (by kernel_rfl)
                have p4 : a.eval (.tmp 4) = .int .i64 (k : Int) := hA.at 4 (by kernel_rfl)
                have p5 : a.eval (.tmp 5) = .int .i64 (j : Int) := hA.at 5 (by kernel_rfl)
                obtain ⟨v', w', hr, h1, h2⟩ := rowS_append h55 (HP2.out _ W hB.out rfl) hB.out.size HJ10.out
                rw [← HDD.out] at h1
                exact step2_append (wanted_none rfl) (.tmp 55) (.tmp 58) 23 23 rfl rfl h58 hr h2 h1,
              by
                intro a W hA hB hd hFR
                obtain ⟨q0, -⟩ := hd
                have h59 : (RowS wa.heap.size d2) (a.eval (.tmp 59)) W := q0
                have hB := Lib.hid hB
                have p0 : a.eval (.tmp 0) = .slice (some ⟨b, off, none⟩) len cap := hA.at 0 (by kernel_rfl)
                have p4 : a.eval (.tmp 4) = .int .i64 (k : Int) := hA.at 4 (by kernel_rfl)
                have p5 : a.eval (.tmp 5) = .int .i64 (j : Int) := hA.at 5 (by kernel_rfl)
                exact step2_of (step_pure (wanted_none rfl) (a.eval (.tmp 59)) (by simp [execOp, go_sem]) h59), trivial⟩
          · intro ax V hA hB hE
            have f3 : (RowS wa.heap.size d2) (ax.eval (.tmp 3)) V := hE.2.2.2.2.2.2.2.2.2.2.2.2.2.2.2.1
            obtain ⟨g4, c4, e3, hc4, ho4⟩ := f3
            have hp := hA.puts [45, 46, 47, 48, 49, 50, 51, 52, 53, 54, 55, 56, 57, 58, 59, 3] (by kernel_rfl)
            clear hA hE
            simp only [putAll, e3] at hp
            clear e3
            generalize ax.eval = ev at hp
            subst hp
            have hl2 : d2.length = j + 1 := by rw [HDD.out, List.length_append, List.length_append, List.length_take, List.length_drop, ← HON.out]; simp <;> omega
            have hsz : g0 ≤ wa.heap.size := by rw [← HG0.out]; exact HB.out.size
            have HB5 : Hid (Below g0 W V) := HB.out.trans (Below.trans (by exact ⟨rfl, rfl, rfl, Nat.le_refl _, fun _ _ => rfl⟩) (hB.mono hsz))
            have HD5 : Hid (RdS (fun b => g0 ≤ b) V (some ⟨g4, 0, none⟩) (j + 1) c4 d2) := by
              rw [hl2] at ho4 hc4
              refine (RdS.of_row hl2.symm (by omega) (fun s hs => ?_) ho4).mono fun b _ hb => Nat.le_trans hsz hb
              rw [HDD.out] at hs
              rcases List.mem_append.1 hs with hs | hs
              · rcases List.mem_append.1 hs with hs | hs
                · exact HO.out.wide s (List.mem_of_mem_take hs)
                · rw [List.mem_singleton.1 hs]; exact hwx
              · exact HO.out.wide s (List.mem_of_mem_drop hs)
            rw [hl2] at hc4 ⊢
            clear hB ho4 HXW HC1 HC2 HP1 HP2 hl2
            simp [Act.put]
            go_wp2
            go_roundw
            case rel => exact ⟨k + 1, j + 1, g4, c4, by omega, by go_num, rfl, hc4, by omega, by rw [HD2.out]; exact HD5.out, HB5.out⟩
            case measure => simp [intOf]; omega
    · obtain rfl : k = len := by omega
      have HTK : Hid (l.take k = l) := List.take_of_length_le (by rw [← HL.out]; exact Nat.le_refl _)
      rw [HTK.out] at HO
      go_wp2
      go_ret
      refine ⟨_, _, _, rfl, HO.out.mono fun b _ h => ?_, ?_⟩
      · rw [HG0.out]; exact h
      · rw [HG0.out]; exact HB.out

end Go.Proofs.Ytdcapmbgnoahpaa
