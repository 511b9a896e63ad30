/-
  The reference: the strings with given codes.
-/
import Derived.Test.YtdcapmbgnoahpaaDcRf2
import Derived.Test.YtdcapmbgnoahpaaDcApp
import Derived.Test.YtdcapmbgnoahpaaDcEx
namespace Go.Proofs.Ytdcapmbgnoahpaa
open Go Go.RowKit Go.Shelf Go.ChangeShapes Go.WideShapes Go.ChangeAt

/-- Are the strings with these codes given? -/
def StOk (d : List (List UInt8)) (cs : List Int) : Prop := vlB d = true ∧ ∀ c ∈ cs, InD d c
noncomputable def stE (d : List (List UInt8)) (cs : List Int) : Int := by
  classical exact if StOk d cs then 0 else 1
noncomputable def stL (d : List (List UInt8)) (cs : List Int) : List (List UInt8) := by
  classical exact if StOk d cs then cs.map (strD d) else []
theorem st_yes {d : List (List UInt8)} {cs : List Int} (h : StOk d cs) : stE d cs = 0 ∧ stL d cs = cs.map (strD d) := by
  unfold stE stL; exact ⟨if_pos h, if_pos h⟩
theorem st_no {d : List (List UInt8)} {cs : List Int} (h : ¬ StOk d cs) : stE d cs = 1 ∧ stL d cs = [] := by
  unfold stE stL; exact ⟨if_neg h, if_neg h⟩
/-- What strings come to, on both sides. -/
def StPost (d : List (List UInt8)) (cs : List Int) (W : World) (e : Ending) (W' : World) : Prop :=
  Below W.heap.size W W' ∧ ∃ a n c, e = .returned (.agg #[.slice a n c, .int .i64 (stE d cs)]) ∧ RdS (fun _ => True) W' a n c (stL d cs)
theorem StPost.bad {d : List (List UInt8)} {cs : List Int} {W W' : World} {e : Ending} (h : ¬ StOk d cs) (hb : Below W.heap.size W W') (he : e = .returned (.agg #[.slice none 0 0, .int .i64 1])) : StPost d cs W e W' :=
  ⟨hb, none, 0, 0, by rw [(st_no h).1]; exact he, by rw [(st_no h).2]; exact RdS.empty⟩
theorem StPost.good {d : List (List UInt8)} {cs : List Int} {W W' : World} {e : Ending} {a : Option Addr} {n c : Nat} (h : StOk d cs) (hb : Below W.heap.size W W') (he : e = .returned (.agg #[.slice a n c, .int .i64 0]))
    (hr : RdS (fun _ => True) W' a n c (cs.map (strD d))) : StPost d cs W e W' :=
  ⟨hb, a, n, c, by rw [(st_yes h).1]; exact he, by rw [(st_yes h).2]; exact hr⟩

theorem stringsW_p {K K' : Nat → Prop} {a a' : Option Addr} {len cap len' cap' : Nat} {d : List (List UInt8)} {cs : List Int} {W : World} (hR : RdS K W a len cap d) (hR' : Rd K' W .i64 a' len' cap' cs) (hs13 : len' ≤ 8796093021952) :
    Calls Try.prog 16 #[.slice a len cap, .slice a' len' cap'] W (StPost d cs W) := by
  cases hv : vlB d with
  | false => exact (stringsW_bad hR hv a' len' cap').mono fun e W' ⟨he, hb⟩ => .bad (fun h => by have := h.1; rw [hv] at this; cases this) hb he
  | true =>
    refine (stringsW_good hR hR' hs13 hv).mono fun e W' ⟨hb, hp⟩ => ?_
    rcases hp with ⟨hall, g, n, he, hr⟩ | ⟨⟨c, hc, hn⟩, he⟩
    · exact .good ⟨hv, hall⟩ hb he (hr.mono fun _ _ _ => trivial)
    · exact .bad (fun h => hn (h.2 c hc)) hb he

theorem take_snocS (l : List (List UInt8)) (k : Nat) (h : k < l.length) : l.take (k + 1) = l.take k ++ [l[k]?.getD []] := by
  rw [List.take_succ_eq_append_getElem h, List.getElem?_eq_getElem h]; rfl

set_option maxRecDepth 100000 in
set_option maxHeartbeats 4000000 in
theorem stringsR_any {K K' : Nat → Prop} {a a' : Option Addr} {len cap len' cap' : Nat} {d : List (List UInt8)} {cs : List Int} {W : World} (hR : RdS K W a len cap d) (hR' : Rd K' W .i64 a' len' cap' cs) (hs13 : len' ≤ 1099511627776) :
    Calls Try.prog 17 #[.slice a len cap, .slice a' len' cap'] W (StPost d cs W) := by
  obtain ⟨i0, hi, hz0, hz1, hz2⟩ := info_parts Try.infoS5
  have hb0 : Below W.heap.size W (W.alloc (.cells #[.slice none 0 0, .int .i64 0] 38)) := (Below.refl _ _).alloc (Nat.le_refl _) _
  have HD := Lib.hid (Duo.new W 38 (.slice none 0 0) (.int .i64 0))
  have HB0 := Lib.hid hb0
  have HL := Lib.hid hR.hl
  have HL' := Lib.hid hR'.hl
  have hfit' := hR'.fit
  have hsm := hR.small
  have H := Lib.hid hR
  have H' := Lib.hid hR'
  clear hR hR' hb0
  obtain ⟨R, hRe⟩ : ∃ R, W.heap.size = R := ⟨_, rfl⟩
  have HRE : Hid (W.heap.size ≤ R) := Nat.le_of_eq hRe
  have HRS : Hid ((W.alloc (.cells #[.slice none 0 0, .int .i64 0] 38)).heap.size = R + 1) := by show _ = _; simp [hRe]
  rw [hRe] at HD
  go_enter Try.func17, Try.ntmps17
  go_upto_region 1 with fail
  try rw [hRe]
  clear hRe
  generalize W.alloc (.cells #[.slice none 0 0, .int .i64 0] 38) = w1 at *
  have HB2 : Hid (Below W.heap.size W (w1.alloc (.cells #[] 9))) := HB0.out.alloc HB0.out.size _
  have HD2 : Hid (Duo (w1.alloc (.cells #[] 9)) R 38 (.slice none 0 0) (.int .i64 0)) := HD.out.below ((Below.refl _ _).alloc (Nat.le_refl _) _) HD.out.lt
  have HO0 : Hid ((w1.alloc (.cells #[] 9)).ownsRow (R + 1) 9 1 (.slice (some ⟨w1.heap.size, 0, none⟩) 0 0) 0 (((cs.map (strD d)).take 0).map encStr)) := own5_none w1 9 (R + 1) (Nat.le_of_eq HRS.out.symm)
  have HCL : Hid ((cs.map (strD d)).length = len') := by show _ = _; rw [List.length_map]; exact HL'.out.symm
  go_upto_region 2 with fail
  clear HRS HD HB0
  generalize w1.heap.size = g0 at *
  generalize w1.alloc (.cells #[] 9) = V2 at *
  go_wp2
  go_loopw [5, 6] (fun v i wr => ∃ k g c : Nat, k ≤ len' ∧ i = .int .i64 k ∧ v = .slice (some ⟨g, 0, none⟩) k c ∧ k ≤ c ∧ Hid (wr.ownsRow (R + 1) 9 1 (.slice (some ⟨g, 0, none⟩) k c) k (((cs.map (strD d)).take k).map encStr)) ∧
      Hid (Below W.heap.size W wr) ∧ Hid (Duo wr R 38 (.slice none 0 0) (.int .i64 0)) ∧ Hid (∀ j, j < k → InD d (cs[j]?.getD 0))) (fun _ i _ => len' - (intOf i).toNat)
  case atStart => exact ⟨0, g0, 0, Nat.zero_le _, rfl, rfl, Nat.le_refl _, HO0, HB2, HD2, fun j h => absurd h (by omega)⟩
  case round =>
    obtain ⟨k, g, c, hk, rfl, rfl, hkc, HO, HB, HDW, HA⟩ := hrel
    by_cases hlt : k < len'
    · obtain ⟨b, off, rfl, _, hblt, hc⟩ := H'.out.cells (by omega)
      have hcx := (HB.out.cell (p := ⟨b, off + k, none⟩) hblt).trans (hc k hlt)
      have hmem : cs[k]?.getD 0 ∈ cs := by rw [List.getElem?_eq_getElem (by rw [← HL'.out]; exact hlt)]; exact List.getElem_mem _
      have HNO : Hid (¬ InD d (cs[k]?.getD 0) → ¬ StOk d cs) := fun hd h => hd (h.2 _ hmem)
      have HA2 : Hid (InD d (cs[k]?.getD 0) → ∀ j, j < k + 1 → InD d (cs[j]?.getD 0)) := fun hd j hj => by
        by_cases e : j = k
        · rw [e]; exact hd
        · exact HA.out j (by omega)
      have HCK : Hid ((cs.map (strD d))[k]?.getD [] = strD d (cs[k]?.getD 0)) := by
        show _ = _
        rw [List.getElem?_map, List.getElem?_eq_getElem (by rw [← HL'.out]; exact hlt)]; rfl
      have HTK := Lib.hid (take_snocS (cs.map (strD d)) k (by rw [HCL.out]; exact hlt))
      clear hc hmem
      generalize cs[k]?.getD 0 = x at *
      by_cases hx0 : x < 0
      · have HF := Lib.hid (HNO.out fun h => by have := h.1; omega)
        have p0 := HDW.out.c0
        have p1 := HDW.out.c1
        have f0 := HDW.out.f 0
        have f1 := HDW.out.f 1
        have plt := HDW.out.lt
        go_wp2
        exact bodyPost_ret (v := .agg #[.slice none 0 0, .int .i64 1]) (by simp [results, Try.results17, go_sem, p0, p1]) rfl (.bad HF.out (below_two HB.out HRE.out _ _) rfl)
      · obtain ⟨q, rfl⟩ := Int.eq_ofNat_of_zero_le (show 0 ≤ x by omega)
        have hd0 : decide ((q : Int) < 0) = false := decide_eq_false hx0
        by_cases hql : q < len
        · have HIN : Hid (InD d q) := ⟨by omega, by rw [← HL.out]; omega⟩
          obtain ⟨b2, off2, rfl, _, hb2lt, hc2⟩ := H.out.cells (by omega)
          have hcd := (HB.out.cell (p := ⟨b2, off2 + q, none⟩) hb2lt).trans (hc2 q hql)
          have HSD : Hid (strD d q = d[q]?.getD []) := rfl
          have hwd := H.out.wideAt q
          clear hc2
          generalize d[q]?.getD [] = y at *
          have hRn := (RdS.new5 wr 9 [y] 1 rfl (by decide) (fun s hs => by rw [List.mem_singleton.1 hs]; exact hwd))
          have hE : ([y].map encStr).toArray = #[.string (bsOf y)] := rfl
          rw [hE] at hRn
          obtain ⟨g2, c2, w2, hr, ho2, hg2, hc2, hg0⟩ := run_append_strs (P := Try.prog) (wr.alloc (.cells #[.string (bsOf y)] 9)) (R + 1) 23 23 9 i0 _ Try.underlying23 hi hz0 hz1 hz2 rfl g k c _ (HO.out.alloc _) (some ⟨wr.heap.size, 0, none⟩) 1 1 [y] hRn (by omega) (by have := HDW.out.lt; simp; omega)
          have HB3 : Hid (Below W.heap.size W w2) := (HB.out.alloc HB.out.size _).grown hg2 (HB.out.alloc HB.out.size _).size (fun r e => by cases e; have := row_base HO.out; have := HRE.out; omega)
          have HD3 : Hid (Duo w2 R 38 (.slice none 0 0) (.int .i64 0)) := (HDW.out.below ((Below.refl _ _).alloc (Nat.le_refl _) _) HDW.out.lt).kept (Kept.of_grownBy (K := fun b => b = R) hg2 (fun r e h => by cases e; have := row_base HO.out; omega)) rfl
          have HO3 : Hid (w2.ownsRow (R + 1) 9 1 (.slice (some ⟨g2, 0, none⟩) (k + 1) c2) (k + 1) (((cs.map (strD d)).take (k + 1)).map encStr)) := by
            show w2.ownsRow _ _ _ _ _ _
            rw [HTK.out, HCK.out, HSD.out, List.map_append]; exact ho2
          have HRUN := Lib.hid hr
          have HA3 := Lib.hid (HA2.out HIN.out)
          clear hr ho2 hg2 hRn hE hwd HSD
          generalize bsOf y = Y at *
          go_wp2_with (at_builtin; refine wpList_append_want (o := ⟨some 38, _, _, _, _, _⟩) _ rfl _ _ _ _ rfl _ _ rfl rfl _ _ HRUN.out ?_)
          go_roundw
          case rel => exact ⟨k + 1, g2, c2, by omega, by go_num, rfl, hc2, HO3, HB3, HD3, HA3⟩
          case measure => simp [intOf]; omega
        · have HF := Lib.hid (HNO.out fun h => by have := h.2; rw [← HL.out] at this; omega)
          have hql2 : len ≤ q := by omega
          have p0 := HDW.out.c0
          have p1 := HDW.out.c1
          have f0 := HDW.out.f 0
          have f1 := HDW.out.f 1
          have plt := HDW.out.lt
          go_wp2
          exact bodyPost_ret (v := .agg #[.slice none 0 0, .int .i64 1]) (by simp [results, Try.results17, go_sem, p0, p1]) rfl (.bad HF.out (below_two HB.out HRE.out _ _) rfl)
    · obtain rfl : k = len' := by omega
      have HALL : Hid (∀ c ∈ cs, InD d c) := fun s hs => by
        obtain ⟨j, hj, e⟩ := List.getElem_of_mem hs
        have := HA.out j (by rw [HL'.out]; exact hj)
        rw [List.getElem?_eq_getElem hj] at this
        rw [← e]; exact this
      have HRR : Hid (RdS (fun b => R + 1 ≤ b) wr (some ⟨g, 0, none⟩) k c (cs.map (strD d))) := by
        have := HO.out
        rw [List.take_of_length_le (by rw [HCL.out]; exact Nat.le_refl _)] at this
        refine RdS.of_row HCL.out.symm (by omega) (fun s hs => ?_) this
        obtain ⟨c, _, rfl⟩ := List.mem_map.1 hs
        exact H.out.wideAt _
      have HVA := Lib.hid (validR_any (H.out.below HB.out))
      obtain ⟨vb, hvb⟩ : ∃ vb, vlB d = vb := ⟨_, rfl⟩
      rw [hvb] at HVA
      have HVB := Lib.hid hvb
      clear hvb
      go_wp2_with fail
      refine HVA.out.mono ?_
      rintro e w3 ⟨rfl, n, hw3⟩
      have HB3 : Hid (Below W.heap.size W w3) := by rw [hw3]; exact below_drewN HB.out n
      have hd3 : Duo w3 R 38 (.slice none 0 0) (.int .i64 0) := by rw [hw3]; exact HDW.out.drewN n
      have HR3 : Hid (RdS (fun b => R + 1 ≤ b) w3 (some ⟨g, 0, none⟩) k c (cs.map (strD d))) := HRR.out.heap (by rw [hw3]; rfl)
      have p0 := hd3.c0
      have p1 := hd3.c1
      have f0 := hd3.f 0
      have f1 := hd3.f 1
      have plt := hd3.lt
      clear hw3 hd3
      cases vb with
      | false =>
        go_wp2
        exact bodyPost_ret (v := .agg #[.slice none 0 0, .int .i64 1]) (by simp [results, Try.results17, go_sem, p0, p1]) rfl (.bad (fun h => by have := h.1; rw [HVB.out] at this; cases this) (below_two HB3.out HRE.out _ _) rfl)
      | true =>
        go_wp2
        refine bodyPost_ret (v := .agg #[.slice (some ⟨g, 0, none⟩) k c, .int .i64 0]) (by simp [results, Try.results17, go_sem, p0, p1]) rfl (.good ⟨HVB.out, HALL.out⟩ (below_two HB3.out HRE.out _ _) rfl ?_)
        exact ((HR3.out.set5 ⟨R, 0, none⟩ _ (fun h => by have h : R + 1 ≤ R := h; omega)).set5 ⟨R, 1, none⟩ _ (fun h => by have h : R + 1 ≤ R := h; omega)).mono fun _ _ _ => trivial

end Go.Proofs.Ytdcapmbgnoahpaa
