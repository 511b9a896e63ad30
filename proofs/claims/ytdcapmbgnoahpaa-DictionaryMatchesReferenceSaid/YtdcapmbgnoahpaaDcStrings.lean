/-
  The strings with given codes.
-/
import Derived.Test.YtdcapmbgnoahpaaDcCodes
import Derived.Test.YtdcapmbgnoahpaaDcOf
namespace Go.Proofs.Ytdcapmbgnoahpaa
open Go Go.RowKit Go.Shelf Go.Maps Go.ChangeShapes Go.WideShapes Go.ChangeAt

theorem Try.infoS5 : (Try.prog.info? 9).map (fun i => (i.zero, i.size, i.bytes)) = some (some (.string ⟨#[]⟩), 1, 16) := by kernel_rfl

theorem row_some {W : World} {base : Nat} {e : TypeId} {g n cap j : Nat} {xs : List Value} (h : W.ownsRow base e 1 (.slice (some ⟨g, 0, none⟩) n cap) n xs) (hj : j < n) : ∃ v, W.cell? ⟨g, j, none⟩ = some v := by
  obtain ⟨cur, hg, hn, hm, hs, ht, hb, hl⟩ := row_block h
  have : j < cur.size := by omega
  exact ⟨cur[j], by simp [World.cell?, hg, Array.getElem?_eq_getElem this]⟩

def InD (d : List (List UInt8)) (c : Int) : Prop := 0 ≤ c ∧ c < (d.length : Int)
def strD (d : List (List UInt8)) (c : Int) : List UInt8 := d[c.toNat]?.getD []

/-- What the strings come to. -/
def StringsPost (W : World) (d : List (List UInt8)) (cs : List Int) (e : Ending) (W' : World) : Prop :=
  Below W.heap.size W W' ∧ (((∀ c ∈ cs, InD d c) ∧ ∃ g n : Nat, e = .returned (.tuple #[.slice (some ⟨g, 0, none⟩) n n, .int .i64 0]) ∧ RdS (fun b => W.heap.size ≤ b) W' (some ⟨g, 0, none⟩) n n (cs.map (strD d))) ∨
    ((∃ c ∈ cs, ¬ InD d c) ∧ e = .returned (.tuple #[.slice none 0 0, .int .i64 1])))

theorem strings_bad {K : Nat → Prop} {a : Option Addr} {len cap : Nat} {d : List (List UInt8)} {W : World} (hR : RdS K W a len cap d) (hv : vlB d = false) (l : Value) :
    Calls Try.prog 43 #[.slice a len cap, l] W fun e w' => e = .returned (.tuple #[.slice none 0 0, .int .i64 1]) ∧ W = w' := by
  have HV := Lib.hid (valid_any hR)
  rw [hv] at HV
  clear hv hR
  go_enter Try.func43, Try.ntmps43
  go_wp2_with fail
  refine HV.out.mono ?_
  rintro e w1 ⟨rfl, rfl⟩
  go_wp2
  go_ret2
  exact ⟨rfl, rfl⟩

set_option maxRecDepth 100000 in
set_option maxHeartbeats 4000000 in
theorem strings_good {K K' : Nat → Prop} {a a' : Option Addr} {len cap len' cap' : Nat} {d : List (List UInt8)} {cs : List Int} {W : World} (hR : RdS K W a len cap d) (hR' : Rd K' W .i64 a' len' cap' cs) (hs13 : len' ≤ 8796093021952) (hv : vlB d = true) :
    Calls Try.prog 43 #[.slice a len cap, .slice a' len' cap'] W (StringsPost W d cs) := by
  obtain ⟨i0, hi, hz0, hz1, hz2⟩ := info_parts Try.infoS5
  have HV := Lib.hid (valid_any hR)
  rw [hv] at HV
  have HL := Lib.hid hR.hl
  have HL' := Lib.hid hR'.hl
  have hlen : len ≤ 4096 := by rw [HL.out]; exact (vl_iff.1 hv).1
  have hfit := hR.fit
  have hfit' := hR'.fit
  have H := Lib.hid hR
  have H' := Lib.hid hR'
  have hmk : (Instr.makeSlice 23 (.int .i64 len') (.int .i64 len')).run Try.prog W = .ok (.slice (some ⟨W.heap.size, 0, none⟩) len' len') (W.alloc (.cells (madeCells #[.string ⟨#[]⟩] len') 9)) := by
    have := run_make (P := Try.prog) W 23 9 i0 _ Try.underlying23 hi hz0 .i64 .i64 len' len' (by omega) (by omega) (by rw [hz2]; omega) (by omega)
    rw [hz1, Nat.mul_one, Int.toNat_natCast] at this
    exact this
  have HOM := Lib.hid (own_made W W.heap.size 9 (.string ⟨#[]⟩) len' (by unfold maxLen; omega) (Nat.le_refl _))
  have HB2 : Hid (Below W.heap.size W (W.alloc (.cells (madeCells #[.string ⟨#[]⟩] len') 9))) := (Below.refl _ _).alloc (Nat.le_refl _) _
  have HCS : Hid ((cs.map (strD d)).length = len') := by show _ = _; rw [List.length_map]; exact HL'.out.symm
  clear hv hR hR' hi hz0 hz1 hz2
  go_enter Try.func43, Try.ntmps43
  go_wp2_with fail
  refine HV.out.mono ?_
  rintro e w1 ⟨rfl, rfl⟩
  go_wp2
  clear hmk
  generalize W.alloc (.cells (madeCells #[.string ⟨#[]⟩] len') 9) = V at *
  obtain ⟨g, hg⟩ : ∃ g, W.heap.size = g := ⟨_, rfl⟩
  rw [hg] at HOM ⊢
  have HG := Lib.hid hg
  have hgl : W.heap.size ≤ g := by omega
  clear hg
  go_loopw [17] (fun i w2 => ∃ m : Nat, m ≤ len' ∧ i = .int .i64 m ∧ Hid (w2.ownsRow g 9 1 (.slice (some ⟨g, 0, none⟩) len' len') len' ((fillS [] (cs.map (strD d)) m).map encStr)) ∧ Hid (Below W.heap.size W w2) ∧ Hid (∀ j, j < m → InD d (cs[j]?.getD 0))) (fun i _ => len' - (intOf i).toNat)
  case atStart => exact ⟨0, Nat.zero_le _, rfl, by rw [fill_zero, HCS.out, List.map_replicate]; exact HOM, HB2, fun j hj => by omega⟩
  case round =>
    obtain ⟨m, hm, rfl, HRm, HBm, HAm⟩ := hrel
    by_cases hlt2 : m < len'
    · obtain ⟨b, off, rfl, _, hblt, hc⟩ := H'.out.cells (by omega)
      have hcx := (HBm.out.cell (p := ⟨b, off + m, none⟩) hblt).trans (hc m hlt2)
      have hmem : cs[m]?.getD 0 ∈ cs := by rw [List.getElem?_eq_getElem (by rw [← HL'.out]; exact hlt2)]; exact List.getElem_mem _
      have HNO : Hid (¬ InD d (cs[m]?.getD 0) → ∃ c ∈ cs, ¬ InD d c) := fun hd => ⟨_, hmem, hd⟩
      have HAM2 : Hid (InD d (cs[m]?.getD 0) → ∀ j, j < m + 1 → InD d (cs[j]?.getD 0)) := fun hd j hj => by
        by_cases e : j = m
        · rw [e]; exact hd
        · exact HAm.out j (by omega)
      have HCSM : Hid ((cs.map (strD d))[m]? = some (strD d (cs[m]?.getD 0))) := by
        show _ = _
        rw [List.getElem?_map, List.getElem?_eq_getElem (by rw [← HL'.out]; exact hlt2)]; rfl
      have HFS : Hid (∀ x, (cs.map (strD d))[m]? = some x → (fillS [] (cs.map (strD d)) m).set m x = fillS [] (cs.map (strD d)) (m + 1)) := fun x hx => fill_set _ _ m (by rw [HCS.out]; exact hlt2) x hx
      obtain ⟨old, hold⟩ := row_some (j := m) HRm.out hlt2
      have hfz := row_unfrozen (j := m) HRm.out
      clear hc hmem
      generalize cs[m]?.getD 0 = x at *
      by_cases hx0 : x < 0
      · have HF := Lib.hid (HNO.out fun h => by have := h.1; omega)
        go_wp2
        go_ret2
        exact ⟨HBm.out, .inr ⟨HF.out, rfl⟩⟩
      · obtain ⟨q, rfl⟩ := Int.eq_ofNat_of_zero_le (show 0 ≤ x by omega)
        have hd0 : decide ((q : Int) < 0) = false := decide_eq_false hx0
        by_cases hql : q < len
        · have HIN : Hid (InD d q) := ⟨by omega, by rw [← HL.out]; omega⟩
          obtain ⟨b2, off2, rfl, _, hb2lt, hc2⟩ := H.out.cells (by omega)
          have hcd := (HBm.out.cell (p := ⟨b2, off2 + q, none⟩) hb2lt).trans (hc2 q hql)
          have HSD : Hid (strD d q = d[q]?.getD []) := rfl
          clear hc2
          generalize d[q]?.getD [] = y at *
          obtain ⟨Y, hY⟩ : ∃ Y, bsOf y = Y := ⟨_, rfl⟩
          rw [hY] at hcd
          have HY := Lib.hid hY
          clear hY
          go_wp2
          go_roundw
          case rel =>
            refine ⟨m + 1, by omega, by go_num, ?_, HBm.out.setCell hgl _, HAM2.out HIN.out⟩
            have h2 := row_store (j := m) HRm.out (encStr y)
            rw [← List.map_set, HFS.out y (by rw [HCSM.out, HSD.out])] at h2
            have e3 : encStr y = .string Y := by rw [← HY.out]; rfl
            rw [e3] at h2
            exact h2
          case measure => simp [intOf]; omega
        · have HF := Lib.hid (HNO.out fun h => by have := h.2; rw [← HL.out] at this; omega)
          have hql2 : len ≤ q := by omega
          go_wp2
          go_ret2
          exact ⟨HBm.out, .inr ⟨HF.out, rfl⟩⟩
    · obtain rfl : m = len' := by omega
      go_wp2
      go_ret2
      refine ⟨HBm.out, .inl ⟨fun s hs => ?_, g, m, rfl, ?_⟩⟩
      · obtain ⟨j, hj, e⟩ := List.getElem_of_mem hs
        have := HAm.out j (by rw [HL'.out]; exact hj)
        rw [List.getElem?_eq_getElem hj] at this
        rw [← e]; exact this
      · have := HRm.out
        rw [← HCS.out, fill_all, HCS.out] at this
        refine (RdS.of_row HCS.out.symm hs13 (fun s hs => ?_) this).mono fun b _ h => by omega
        obtain ⟨c, _, rfl⟩ := List.mem_map.1 hs
        exact H.out.wideAt _

end Go.Proofs.Ytdcapmbgnoahpaa
