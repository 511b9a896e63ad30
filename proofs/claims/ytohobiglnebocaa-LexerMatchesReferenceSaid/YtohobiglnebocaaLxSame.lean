/-
  Lists of tokens are compared.
-/
import Derived.Test.YtohobiglnebocaaLxOf
namespace Go.Proofs.Ytohobiglnebocaa.Lx
open Go Go.RowKit Go.Shelf Go.Sort Go.ChangeShapes Go.WideShapes Go.ChangeAt
open Go.Proofs.Ytohobiglnebocaa

theorem toks_eq {x y : List Tk} (hl : x.length = y.length) (h : ∀ j, j < x.length → x[j]?.getD Tk.null = y[j]?.getD Tk.null) : x = y := by
  refine List.ext_getElem hl fun i h1 h2 => ?_
  have := h i h1
  rw [List.getElem?_eq_getElem h1, List.getElem?_eq_getElem h2] at this
  exact this

set_option maxRecDepth 100000 in
set_option maxHeartbeats 4000000 in
theorem sameR_any {a1 a2 : Option Addr} {n1 c1 n2 c2 : Nat} {x y : List Tk} {w : World} (h1 : RdK w a1 n1 c1 x) (h2 : RdK w a2 n2 c2 y) :
    Calls Try.prog 27 #[.slice a1 n1 c1, .slice a2 n2 c2] w fun e V => e = .returned (.bool (decide (x = y))) ∧ Below w.heap.size w V := by
  have H1 := Lib.hid h1
  have H2 := Lib.hid h2
  have hs1 := h1.small
  have hs2 := h2.small
  have hf1 := h1.fit
  have hf2 := h2.fit
  have ht1 := h1.top
  have ht2 := h2.top
  clear h1 h2
  obtain ⟨z, hz⟩ : ∃ z, decide (x = y) = z := ⟨_, rfl⟩
  have HZ := Lib.hid hz
  rw [hz]
  clear hz
  by_cases hn : n1 = n2
  · subst hn
    go_enter Try.func27, Try.ntmps27
    go_wp2
    go_loopw [5] (fun i wr => ∃ k : Nat, k ≤ n1 ∧ i = .int .i64 k ∧ Hid ((∀ j, j < k → x[j]?.getD Tk.null = y[j]?.getD Tk.null) ∧ Below w.heap.size w wr)) (fun i _ => n1 - (intOf i).toNat)
    case atStart => exact ⟨0, Nat.zero_le _, rfl, fun j h => by omega, Below.self _⟩
    case round =>
      obtain ⟨k, hk, rfl, HI⟩ := hrel
      by_cases hlt : k < n1
      · obtain ⟨b1, o1, rfl, hl1, hc1⟩ := H1.out.cells (by omega)
        obtain ⟨b2, o2, rfl, hl2, hc2⟩ := H2.out.cells (by omega)
        obtain ⟨p0, p1, p2⟩ := hc1 k hlt
        obtain ⟨q0, q1, q2⟩ := hc2 k hlt
        have HE := Lib.hid (fun (e : x[k]?.getD Tk.null = y[k]?.getD Tk.null) (j : Nat) (hj : j < k + 1) => show x[j]?.getD Tk.null = y[j]?.getD Tk.null from by
          by_cases h : j = k
          · rw [h]; exact e
          · exact HI.out.1 j (by omega))
        have HN := Lib.hid (fun (e : x[k]?.getD Tk.null ≠ y[k]?.getD Tk.null) => show z = false from by
          rw [← HZ.out]; exact decide_eq_false fun e2 => e (by rw [e2]))
        generalize x[k]?.getD Tk.null = u at *
        generalize y[k]?.getD Tk.null = v at *
        obtain ⟨uk, us, ua⟩ := u
        obtain ⟨vk, vs, va⟩ := v
        dsimp only at p0 p1 p2 q0 q1 q2
        have d0 := (HI.out.2.cell (p := ⟨b1, o1 + k * 3, none⟩) hl1).trans p0
        have d1 := (HI.out.2.cell (p := ⟨b1, o1 + k * 3 + 1, none⟩) hl1).trans p1
        have d2 := (HI.out.2.cell (p := ⟨b1, o1 + k * 3 + 2, none⟩) hl1).trans p2
        have g0 := (HI.out.2.cell (p := ⟨b2, o2 + k * 3, none⟩) hl2).trans q0
        have g1 := (HI.out.2.cell (p := ⟨b2, o2 + k * 3 + 1, none⟩) hl2).trans q1
        have g2 := (HI.out.2.cell (p := ⟨b2, o2 + k * 3 + 2, none⟩) hl2).trans q2
        clear p0 p1 p2 q0 q1 q2 hc1 hc2
        have hse := bs_same us vs
        have hsn : ((bsOf us).toList != (bsOf vs).toList) = !decide (us = vs) := by unfold bne; rw [hse]
        have K0 := fun d os => cell_regrown d0 d os
        have K1 := fun d os => cell_regrown d1 d os
        have K2 := fun d os => cell_regrown d2 d os
        have K3 := fun d os => cell_regrown g0 d os
        have K4 := fun d os => cell_regrown g1 d os
        have K5 := fun d os => cell_regrown g2 d os
        by_cases e0 : uk = vk
        · subst e0
          by_cases e1 : us = vs
          · subst e1
            by_cases e2 : ua = va
            · subst e2
              rw [decide_eq_true rfl] at hse hsn
              generalize bsOf us = U at *
              go_upto_region 6 with fail
              refine wp_region_quiet_below (by kernel_rfl) (by kernel_rfl) ?_
              repeat (go_big_quiet_step (fail))
              refine wpQuiet_nil ?_
              intro _ hw'
              obtain ⟨⟨dq, osq⟩, hw''⟩ := hw'
              subst hw''
              have HBQ : Hid (Below wr.heap.size wr (grow (redrawn wr dq) osq)) := below_regrown wr dq osq
              generalize grow (redrawn wr dq) osq = WQ at *
              have HBX : Hid (Below w.heap.size w WQ) := HI.out.2.trans (HBQ.out.mono HI.out.2.size)
              clear K0 K1 K2 K3 K4 K5 d0 d1 d2 g0 g1 g2 hse hsn
              go_wp2
              go_roundw
              case rel => exact ⟨k + 1, by omega, by go_num, HE.out rfl, HBX.out⟩
              case measure => simp [intOf]; omega
            · have HF := Lib.hid (HN.out (fun e => e2 (by cases e; rfl)))
              have e2b : (ua == va) = false := beq_false_of_ne e2
              rw [decide_eq_true rfl] at hse hsn
              clear e2
              generalize bsOf us = U at *
              go_upto_region 6 with fail
              refine wp_region_quiet_below (by kernel_rfl) (by kernel_rfl) ?_
              repeat (go_big_quiet_step (fail))
              refine wpQuiet_nil ?_
              intro _ hw'
              obtain ⟨⟨dq, osq⟩, hw''⟩ := hw'
              subst hw''
              have HBQ : Hid (Below wr.heap.size wr (grow (redrawn wr dq) osq)) := below_regrown wr dq osq
              generalize grow (redrawn wr dq) osq = WQ at *
              have HBX : Hid (Below w.heap.size w WQ) := HI.out.2.trans (HBQ.out.mono HI.out.2.size)
              clear K0 K1 K2 K3 K4 K5 d0 d1 d2 g0 g1 g2 hse hsn
              go_wp2
              go_ret
              exact ⟨ret_b HF.out.symm, HBX.out⟩
          · have HF := Lib.hid (HN.out (fun e => e1 (by cases e; rfl)))
            rw [decide_eq_false e1] at hse hsn
            clear e1
            generalize bsOf us = U at *
            generalize bsOf vs = U2 at *
            go_upto_region 6 with fail
            refine wp_region_quiet_below (by kernel_rfl) (by kernel_rfl) ?_
            repeat (go_big_quiet_step (fail))
            refine wpQuiet_nil ?_
            intro _ hw'
            obtain ⟨⟨dq, osq⟩, hw''⟩ := hw'
            subst hw''
            have HBQ : Hid (Below wr.heap.size wr (grow (redrawn wr dq) osq)) := below_regrown wr dq osq
            generalize grow (redrawn wr dq) osq = WQ at *
            have HBX : Hid (Below w.heap.size w WQ) := HI.out.2.trans (HBQ.out.mono HI.out.2.size)
            clear K0 K1 K2 K3 K4 K5 d0 d1 d2 g0 g1 g2 hse hsn
            go_wp2
            go_ret
            exact ⟨ret_b HF.out.symm, HBX.out⟩
        · have HF := Lib.hid (HN.out (fun e => e0 (by cases e; rfl)))
          have e0b : (uk == vk) = false := beq_false_of_ne e0
          clear e0 hse hsn
          generalize bsOf us = U at *
          generalize bsOf vs = U2 at *
          go_upto_region 6 with fail
          refine wp_region_quiet_below (by kernel_rfl) (by kernel_rfl) ?_
          repeat (go_big_quiet_step (fail))
          refine wpQuiet_nil ?_
          intro _ hw'
          obtain ⟨⟨dq, osq⟩, hw''⟩ := hw'
          subst hw''
          have HBQ : Hid (Below wr.heap.size wr (grow (redrawn wr dq) osq)) := below_regrown wr dq osq
          generalize grow (redrawn wr dq) osq = WQ at *
          have HBX : Hid (Below w.heap.size w WQ) := HI.out.2.trans (HBQ.out.mono HI.out.2.size)
          clear K0 K1 K2 K3 K4 K5 d0 d1 d2 g0 g1 g2
          go_wp2
          go_ret
          exact ⟨ret_b HF.out.symm, HBX.out⟩
      · obtain rfl : k = n1 := by omega
        have HF : Hid (z = true) := by
          have h1 := H1.out.hl
          have h2 := H2.out.hl
          show _ = _
          rw [← HZ.out]
          exact decide_eq_true (toks_eq (by omega) (fun j hj => HI.out.1 j (by omega)))
        go_wp2
        go_ret
        exact ⟨ret_b HF.out.symm, HI.out.2⟩
  · have HF : Hid (z = false) := by
      show _ = _
      rw [← HZ.out]
      exact decide_eq_false fun e => hn (by rw [H1.out.hl, H2.out.hl, e])
    have hn2 : ((n1 : Int) == (n2 : Int)) = false := beq_false_of_ne (by omega)
    have hn3 : ((n1 : Int) != (n2 : Int)) = true := by rw [bne_iff_ne]; omega
    go_enter Try.func27, Try.ntmps27
    go_wp2
    go_ret
    exact ⟨ret_b HF.out.symm, Below.self _⟩

end Go.Proofs.Ytohobiglnebocaa.Lx
