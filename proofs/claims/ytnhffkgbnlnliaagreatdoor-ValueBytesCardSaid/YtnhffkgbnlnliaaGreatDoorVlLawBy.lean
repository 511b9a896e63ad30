/-
  What is written is read back, whatever follows, and what is read was written so: for all lists of at most 60 values, none with a text of more than 100 bytes, and all byte sequences of at most 100 bytes, the law returns true and changes nothing; for all other arguments, too.
-/
import Derived.Test.YtnhffkgbnlnliaaGreatDoorVlEx
import Derived.Test.YtnhffkgbnlnliaaGreatDoorVlShort
import Derived.Test.YtnhffkgbnlnliaaGreatDoorVlRWide
import Derived.Test.YtnhffkgbnlnliaaGreatDoorVlByFacts
import Derived.Deep.DeepCutAuto
import Derived.BigRegion
namespace Go.Proofs.YtnhffkgbnlnliaaGreatDoor.valueBytes
open Go Go.ChangeShapes Go.WideShapes Go.ChangeAt Go.RowKit Go.Shelf
open Go.Proofs.YtnhffkgbnlnliaaGreatDoor

set_option maxRecDepth 100000 in
set_option maxHeartbeats 8000000 in
theorem walk {K : Nat → Prop} {a : Option Addr} {la ca : Nat} {x : List Vl} {ab : Option Addr} {nb cb : Nat} {bs : List Int} {w : World} (hX : RdW K w a la ca x) (fX : ∀ v ∈ x, v.Fit) (hB0 : Rd (fun b => b < w.heap.size) w .u8 ab nb cb bs) (ho : Oct bs) (hnb : nb ≤ 100) (hV : De.Vars w) :
    Calls Tryz.prog 4 #[.slice a la ca, .slice ab nb cb] w fun e w' => e = .returned (.bool true) ∧ Below w.heap.size w w' := by
  obtain ⟨iV, hi, hz0, hz1, hz2⟩ := info_partsV
  have HX := Lib.hid hX
  have FX := Lib.hid fX
  have HV := Lib.hid hV
  have HRB := Lib.hid hB0
  have HO := Lib.hid ho
  clear hX fX hV hB0 ho
  go_enter Tryz.func4, Tryz.ntmps4
  go_wp2_with fail
  refine (examples6_any w HV.out).mono ?_
  rintro e w1 ⟨rfl, hb⟩
  have H1 := Lib.hid (HX.out.below hb)
  have HB1 := Lib.hid hb
  clear hb HV
  go_wp2_with fail
  refine (short_any H1.out FX.out).mono ?_
  rintro e wq ⟨rfl, rfl⟩
  cases hsx : shortB x with
  | false =>
    go_wp2_with fail
    go_ret
    exact ⟨rfl, HB1.out⟩
  | true =>
    have SX := Lib.hid (short_parts hsx)
    have R0 := Lib.hid (HX.out.small (by have := SX.out.1; omega))
    have LA : Hid (la = x.length) := HX.out.hl
    have hla : la ≤ 60 := by rw [LA.out]; exact SX.out.1
    have HOK : Hid (∀ v ∈ x, v.Ok) := fun v hv => ⟨(FX.out v hv).k, (FX.out v hv).i, SX.out.2 v hv⟩
    have hfit := R0.out.fit
    have hnI : ¬ ((nb : Int) > 100) := by omega
    clear hsx HX H1 FX SX
    go_wp2_with fail
    have hown : _ := World.ownsRow_made wq (base := w.heap.size) (e := 29) (size := 3) #[] 0 HB1.out.size (by decide) rfl
    have HI0 : Hid ((wq.alloc (.cells #[] 29)).ownsRow w.heap.size 29 3 (.slice (some ⟨wq.heap.size, 0, none⟩) 0 0) (wides (x.take 0)).length (cellsV (wides (x.take 0))) ∧ Below w.heap.size w (wq.alloc (.cells #[] 29))) := And.intro hown (HB1.out.alloc HB1.out.size _)
    clear hown HB1
    go_loopw [6, 7] (fun wv i wr => ∃ k : Nat, k ≤ la ∧ i = .int .i64 k ∧ Hid (wr.ownsRow w.heap.size 29 3 wv (wides (x.take k)).length (cellsV (wides (x.take k))) ∧ Below w.heap.size w wr)) (fun _ i _ => la - (intOf i).toNat)
    case atStart => exact ⟨0, Nat.zero_le _, rfl, HI0⟩
    case round =>
      obtain ⟨k, hk, rfl, HI⟩ := hrel
      by_cases hlt : k < la
      · obtain ⟨b, off, rfl, _, hbl, hc⟩ := R0.out.cells (by omega)
        obtain ⟨c0, c1, c2⟩ := hc k hlt
        have hkx : k < x.length := by rw [← LA.out]; exact hlt
        have HST := Lib.hid (wides_step hkx)
        have HOP : Hid ((x[k]?.getD Vl.null).Ok) := Lib.hid (ok_at HOK.out hkx)
        have HLN := Lib.hid (wides_len (x.take k))
        have hlk : (x.take k).length ≤ 60 := by rw [List.length_take]; omega
        clear hc hkx
        generalize x[k]?.getD Vl.null = p at *
        obtain ⟨pk, pi, ps⟩ := p
        dsimp only at c0 c1 c2
        have C0 := Lib.hid c0
        have C1 := Lib.hid c1
        have C2 := Lib.hid c2
        clear c0 c1 c2
        have HWD : Hid (∀ W, Calls Tryz.prog 11 #[.agg #[.int .i64 pk, .int .i64 pi, .string (bsOf ps)]] W fun e w' => e = .returned (.bool (widV ⟨pk, pi, ps⟩)) ∧ Below W.heap.size W w') := fun W => rwide_any ⟨pk, pi, ps⟩ HOP.out W
        have hkI : (k : Int) < (la : Int) := by omega
        have c0 := (HI.out.2.cell (p := ⟨b, off + k * 3, none⟩) hbl).trans C0.out
        have c1 := (HI.out.2.cell (p := ⟨b, off + k * 3 + 1, none⟩) hbl).trans C1.out
        have c2 := (HI.out.2.cell (p := ⟨b, off + k * 3 + 2, none⟩) hbl).trans C2.out
        go_wp2_with fail
        refine (HWD.out _).mono ?_
        rintro e w2 ⟨rfl, hb2⟩
        have HB2 : Hid (Below w.heap.size w w2) := HI.out.2.trans (hb2.mono HI.out.2.size)
        have HO2 : Hid (w2.ownsRow w.heap.size 29 3 u6 (wides (x.take k)).length (cellsV (wides (x.take k)))) := row_below HI.out.1 hb2
        clear hb2 HI c0 c1 c2
        cases hwp : widV ⟨pk, pi, ps⟩ with
        | false =>
          have HS2 : Hid (wides (x.take (k + 1)) = wides (x.take k)) := by show _ = _; rw [HST.out, hwp]; rfl
          clear hwp
          go_wp2_with fail
          go_roundw
          case rel => exact ⟨k + 1, by omega, by go_num, by rw [HS2.out]; exact HO2.out, HB2.out⟩
          case measure => simp [intOf]; omega
        | true =>
          have HS2 : Hid (wides (x.take (k + 1)) = wides (x.take k) ++ [⟨pk, pi, ps⟩]) := by show _ = _; rw [HST.out, hwp]; rfl
          have HWP := Lib.hid hwp
          clear hwp
          obtain ⟨v3, w3, hr3, hO3, hb3⟩ := append_val (P := Tryz.prog) w2 w.heap.size 22 22 29 29 iV _ Tryz.underlying22 hi hz0 hz1 hz2 rfl u6 (wides (x.take k)).length (wides (x.take k)) HO2.out ⟨pk, pi, ps⟩ (by have := HLN.out; omega) HB2.out.size
          have HR3 := Lib.hid hr3
          have HO3 : Hid (w3.ownsRow w.heap.size 29 3 v3 (wides (x.take (k + 1))).length (cellsV (wides (x.take (k + 1))))) := by
            rw [HS2.out, List.length_append]; exact hO3
          have HB3 : Hid (Below w.heap.size w w3) := HB2.out.trans hb3
          clear hr3 hO3 hb3 HO2
          have c0 := (HB2.out.cell (p := ⟨b, off + k * 3, none⟩) hbl).trans C0.out
          have c1 := (HB2.out.cell (p := ⟨b, off + k * 3 + 1, none⟩) hbl).trans C1.out
          have c2 := (HB2.out.cell (p := ⟨b, off + k * 3 + 2, none⟩) hbl).trans C2.out
          have D0 := Lib.hid ((HB3.out.cell (p := ⟨b, off + k * 3, none⟩) hbl).trans C0.out)
          have D1 := Lib.hid ((HB3.out.cell (p := ⟨b, off + k * 3 + 1, none⟩) hbl).trans C1.out)
          have D2 := Lib.hid ((HB3.out.cell (p := ⟨b, off + k * 3 + 2, none⟩) hbl).trans C2.out)
          have hbl3 : b < w3.heap.size := Nat.lt_of_lt_of_le hbl HB3.out.size
          go_upto_region 12 with (at_builtin; refine wpList_append_want (o := ⟨some 42, _, _, _, _, _⟩) _ rfl _ _ _ _ rfl _ _ rfl rfl _ _ HR3.out ?_)
          clear c0 c1 c2 HR3 HB2 HWD
          have HRB3 : Hid (Rd (fun b => b < w.heap.size) w3 .u8 ab nb cb bs) := HRB.out.below HB3.out
          have HAP0 : Hid (∀ W : World, w3.heap.size ≤ W.heap.size → Calls Tryz.prog 19 #[.slice none 0 0, .agg #[.int .i64 pk, .int .i64 pi, .string (bsOf ps)]] W fun e w' => ∃ v, e = .returned v ∧ RowF w3.heap.size (bytesV ⟨pk, pi, ps⟩) v w' ∧ Below W.heap.size W w') := fun W hb => by
            have := makes_row hb (append_any (K := fun _ => True) ⟨pk, pi, ps⟩ HOP.out HWP.out (w := W) (Rd.empty (a := none)) (by decide))
            rwa [List.nil_append] at this
          have HAP := HAP0
          have hbl2 := bytes_len HWP.out HOP.out.i
          have HRD := Lib.hid (rd_bytes HOP.out.i HWP.out bs)
          have HOC : Hid (Oct (bytesV ⟨pk, pi, ps⟩ ++ bs)) := (bytes_oct HWP.out).append HO.out
          have HDR : Hid ((bytesV ⟨pk, pi, ps⟩ ++ bs).drop (bytesV ⟨pk, pi, ps⟩).length = bs) := List.drop_left' rfl
          have hnl := HRB.out.hl
          have HLN2 : Hid ((bytesV ⟨pk, pi, ps⟩).length + nb ≤ 100000000) := by show _ ≤ _; omega
          have HLN3 : Hid ((bytesV ⟨pk, pi, ps⟩).length + bs.length ≤ 100000000) := by show _ ≤ _; omega
          have hkL : k < la := hlt
          clear hbl2 hnl HAP0
          generalize bytesV ⟨pk, pi, ps⟩ = bv at *
          refine wp_region_writes (base := w3.heap.size) (us := [none, none, none, none, some 6, none, none, none, none, none, none, none, none, none, none, none]) (ws := [6]) (bs := [true, true, true, true, false, true, false, false, true, true, true, true, true, true, true, true]) (fs := [Fact.is (.slice (some ⟨b, off, none⟩) la ca), Fact.is (.int .i64 k), Fact.is (.pointer (some ⟨b, off + k * 3, none⟩)), Fact.is (.agg #[.int .i64 pk, .int .i64 pi, .string (bsOf ps)]), RowF w3.heap.size bv, Fact.is (.slice ab nb cb), RowF w3.heap.size (bv ++ bs), GotVF ⟨pk, pi, ps⟩ bs 0, Fact.is (.slice (some ⟨b, off, none⟩) la ca), Fact.is (.int .i64 k), Fact.is (.pointer (some ⟨b, off + k * 3, none⟩)), Fact.is (.agg #[.int .i64 pk, .int .i64 pi, .string (bsOf ps)]), Fact.is (.slice ab nb cb), Fact.is (.agg #[.int .i64 pk, .int .i64 pi, .string (bsOf ps), .slice none 0 0, .slice ab nb cb, .int .i64 0]), Fact.is (.bool true), Fact.is (.bool false)]) 8 (by kernel_rfl) (by kernel_rfl) (by kernel_rfl) (by kernel_rfl) (Nat.le_refl _) ⟨Fact.is_stable _, Fact.is_stable _, Fact.is_stable _, Fact.is_stable _, rowF_stable _ _, Fact.is_stable _, rowF_stable _ _, gotVF_stable _ _ _, Fact.is_stable _, Fact.is_stable _, Fact.is_stable _, Fact.is_stable _, Fact.is_stable _, Fact.is_stable _, Fact.is_stable _, Fact.is_stable _, trivial⟩ ⟨(fun _ => Fact.is_firm _ _), (fun _ => Fact.is_firm _ _), (fun _ => Fact.is_firm _ _), (fun _ => Fact.is_firm _ _), (fun h => by cases h), (fun _ => Fact.is_firm _ _), (fun h => by cases h), (fun h => by cases h), (fun _ => Fact.is_firm _ _), (fun _ => Fact.is_firm _ _), (fun _ => Fact.is_firm _ _), (fun _ => Fact.is_firm _ _), (fun _ => Fact.is_firm _ _), (fun _ => Fact.is_firm _ _), (fun _ => Fact.is_firm _ _), (fun _ => Fact.is_firm _ _), trivial⟩ ?_ ?_
          · exact ⟨by
                intro a W hA hB hd
                have hB := Lib.hid hB
                have p0 : a.eval (.tmp 0) = .slice (some ⟨b, off, none⟩) la ca := hA.at 0 (by kernel_rfl)
                have p1 : a.eval (.tmp 1) = .slice ab nb cb := hA.at 1 (by kernel_rfl)
                have p7 : a.eval (.tmp 7) = .int .i64 k := hA.at 7 (by kernel_rfl)
                exact step2_of (step_pure (wanted_none rfl) (.slice (some ⟨b, off, none⟩) la ca) (by simp [execOp, go_sem, tm p0]) rfl),
              by
                intro a W hA hB hd
                have hB := Lib.hid hB
                have p0 : a.eval (.tmp 0) = .slice (some ⟨b, off, none⟩) la ca := hA.at 0 (by kernel_rfl)
                have p1 : a.eval (.tmp 1) = .slice ab nb cb := hA.at 1 (by kernel_rfl)
                have p7 : a.eval (.tmp 7) = .int .i64 k := hA.at 7 (by kernel_rfl)
                exact step2_of (step_pure (wanted_none rfl) (.int .i64 k) (by simp [execOp, go_sem, tm p7]) rfl),
              by
                intro a W hA hB hd
                obtain ⟨q0, q1, -⟩ := hd
                have h43 : a.eval (.tmp 43) = .slice (some ⟨b, off, none⟩) la ca := q0
                have h44 : a.eval (.tmp 44) = .int .i64 k := q1
                have hB := Lib.hid hB
                have p0 : a.eval (.tmp 0) = .slice (some ⟨b, off, none⟩) la ca := hA.at 0 (by kernel_rfl)
                have p1 : a.eval (.tmp 1) = .slice ab nb cb := hA.at 1 (by kernel_rfl)
                have p7 : a.eval (.tmp 7) = .int .i64 k := hA.at 7 (by kernel_rfl)
                exact step2_of (step_pure (wanted_none rfl) (.pointer (some ⟨b, off + k * 3, none⟩)) (by simp [execOp, go_sem, tm h43, tm h44, hkL]) rfl),
              by
                intro a W hA hB hd
                obtain ⟨q0, -⟩ := hd
                have h45 : a.eval (.tmp 45) = .pointer (some ⟨b, off + k * 3, none⟩) := q0
                have hB := Lib.hid hB
                have p0 : a.eval (.tmp 0) = .slice (some ⟨b, off, none⟩) la ca := hA.at 0 (by kernel_rfl)
                have p1 : a.eval (.tmp 1) = .slice ab nb cb := hA.at 1 (by kernel_rfl)
                have p7 : a.eval (.tmp 7) = .int .i64 k := hA.at 7 (by kernel_rfl)
                have e0 := (hB.out.cell (p := ⟨b, off + k * 3, none⟩) hbl3).trans D0.out
                have e1 := (hB.out.cell (p := ⟨b, off + k * 3 + 1, none⟩) hbl3).trans D1.out
                have e2 := (hB.out.cell (p := ⟨b, off + k * 3 + 2, none⟩) hbl3).trans D2.out
                exact step2_of (step_pure (wanted_none rfl) (.agg #[.int .i64 pk, .int .i64 pi, .string (bsOf ps)]) (by simp [execOp, go_sem, tm h45, e0, e1, e2]) rfl),
              by
                intro a W hA hB hd
                obtain ⟨q0, -⟩ := hd
                have h46 : a.eval (.tmp 46) = .agg #[.int .i64 pk, .int .i64 pi, .string (bsOf ps)] := q0
                have hB := Lib.hid hB
                have p0 : a.eval (.tmp 0) = .slice (some ⟨b, off, none⟩) la ca := hA.at 0 (by kernel_rfl)
                have p1 : a.eval (.tmp 1) = .slice ab nb cb := hA.at 1 (by kernel_rfl)
                have p7 : a.eval (.tmp 7) = .int .i64 k := hA.at 7 (by kernel_rfl)
                exact step2_of (step_calls (wanted_none rfl) rfl (vals := #[.slice none 0 0, .agg #[.int .i64 pk, .int .i64 pi, .string (bsOf ps)]]) (by simp [eval_const, h46]) (enters_of Tryz.func19 (by kernel_rfl) rfl) (HAP.out W hB.out.size)),
              by
                intro a W hA hB hd
                have hB := Lib.hid hB
                have p0 : a.eval (.tmp 0) = .slice (some ⟨b, off, none⟩) la ca := hA.at 0 (by kernel_rfl)
                have p1 : a.eval (.tmp 1) = .slice ab nb cb := hA.at 1 (by kernel_rfl)
                have p7 : a.eval (.tmp 7) = .int .i64 k := hA.at 7 (by kernel_rfl)
                exact step2_of (step_pure (wanted_none rfl) (.slice ab nb cb) (by simp [execOp, go_sem, tm p1]) rfl),
              by
                intro a W hA hB hd
                obtain ⟨q0, q1, q2, -⟩ := hd
                have h47 : (RowF w3.heap.size bv) (a.eval (.tmp 47)) W := q0
                have h48 : a.eval (.tmp 48) = .slice ab nb cb := q1
                have hB := Lib.hid hB
                have p0 : a.eval (.tmp 0) = .slice (some ⟨b, off, none⟩) la ca := hA.at 0 (by kernel_rfl)
                have p1 : a.eval (.tmp 1) = .slice ab nb cb := hA.at 1 (by kernel_rfl)
                have p7 : a.eval (.tmp 7) = .int .i64 k := hA.at 7 (by kernel_rfl)
                obtain ⟨v', w', hr, h1, h2⟩ := rowF_append h47 (HRB3.out.below hB.out) hB.out.size HLN2.out
                exact step2_append (wanted_none rfl) (.tmp 47) (.tmp 48) 25 25 rfl rfl h48 hr h2 h1,
              by
                intro a W hA hB hd
                obtain ⟨q0, q1, -⟩ := hd
                have h49 : (RowF w3.heap.size (bv ++ bs)) (a.eval (.tmp 49)) W := q0
                have hB := Lib.hid hB
                have p0 : a.eval (.tmp 0) = .slice (some ⟨b, off, none⟩) la ca := hA.at 0 (by kernel_rfl)
                have p1 : a.eval (.tmp 1) = .slice ab nb cb := hA.at 1 (by kernel_rfl)
                have p7 : a.eval (.tmp 7) = .int .i64 k := hA.at 7 (by kernel_rfl)
                exact step2_of (step_calls (wanted_none rfl) rfl (vals := #[a.eval (.tmp 49)]) (by simp []) (enters_of Tryz.func30 (by kernel_rfl) rfl) (readW_good h49 (by rw [List.length_append]; have := HLN3.out; omega) HOC.out HRD.out HDR.out)),
              by
                intro a W hA hB hd
                have hB := Lib.hid hB
                have p0 : a.eval (.tmp 0) = .slice (some ⟨b, off, none⟩) la ca := hA.at 0 (by kernel_rfl)
                have p1 : a.eval (.tmp 1) = .slice ab nb cb := hA.at 1 (by kernel_rfl)
                have p7 : a.eval (.tmp 7) = .int .i64 k := hA.at 7 (by kernel_rfl)
                exact step2_of (step_pure (wanted_none rfl) (.slice (some ⟨b, off, none⟩) la ca) (by simp [execOp, go_sem, tm p0]) rfl),
              by
                intro a W hA hB hd
                have hB := Lib.hid hB
                have p0 : a.eval (.tmp 0) = .slice (some ⟨b, off, none⟩) la ca := hA.at 0 (by kernel_rfl)
                have p1 : a.eval (.tmp 1) = .slice ab nb cb := hA.at 1 (by kernel_rfl)
                have p7 : a.eval (.tmp 7) = .int .i64 k := hA.at 7 (by kernel_rfl)
                exact step2_of (step_pure (wanted_none rfl) (.int .i64 k) (by simp [execOp, go_sem, tm p7]) rfl),
              by
                intro a W hA hB hd
                obtain ⟨q0, q1, -⟩ := hd
                have h51 : a.eval (.tmp 51) = .slice (some ⟨b, off, none⟩) la ca := q0
                have h52 : a.eval (.tmp 52) = .int .i64 k := q1
                have hB := Lib.hid hB
                have p0 : a.eval (.tmp 0) = .slice (some ⟨b, off, none⟩) la ca := hA.at 0 (by kernel_rfl)
                have p1 : a.eval (.tmp 1) = .slice ab nb cb := hA.at 1 (by kernel_rfl)
                have p7 : a.eval (.tmp 7) = .int .i64 k := hA.at 7 (by kernel_rfl)
                exact step2_of (step_pure (wanted_none rfl) (.pointer (some ⟨b, off + k * 3, none⟩)) (by simp [execOp, go_sem, tm h51, tm h52, hkL]) rfl),
              by
                intro a W hA hB hd
                obtain ⟨q0, -⟩ := hd
                have h53 : a.eval (.tmp 53) = .pointer (some ⟨b, off + k * 3, none⟩) := q0
                have hB := Lib.hid hB
                have p0 : a.eval (.tmp 0) = .slice (some ⟨b, off, none⟩) la ca := hA.at 0 (by kernel_rfl)
                have p1 : a.eval (.tmp 1) = .slice ab nb cb := hA.at 1 (by kernel_rfl)
                have p7 : a.eval (.tmp 7) = .int .i64 k := hA.at 7 (by kernel_rfl)
                have e0 := (hB.out.cell (p := ⟨b, off + k * 3, none⟩) hbl3).trans D0.out
                have e1 := (hB.out.cell (p := ⟨b, off + k * 3 + 1, none⟩) hbl3).trans D1.out
                have e2 := (hB.out.cell (p := ⟨b, off + k * 3 + 2, none⟩) hbl3).trans D2.out
                exact step2_of (step_pure (wanted_none rfl) (.agg #[.int .i64 pk, .int .i64 pi, .string (bsOf ps)]) (by simp [execOp, go_sem, tm h53, e0, e1, e2]) rfl),
              by
                intro a W hA hB hd
                have hB := Lib.hid hB
                have p0 : a.eval (.tmp 0) = .slice (some ⟨b, off, none⟩) la ca := hA.at 0 (by kernel_rfl)
                have p1 : a.eval (.tmp 1) = .slice ab nb cb := hA.at 1 (by kernel_rfl)
                have p7 : a.eval (.tmp 7) = .int .i64 k := hA.at 7 (by kernel_rfl)
                exact step2_of (step_pure (wanted_none rfl) (.slice ab nb cb) (by simp [execOp, go_sem, tm p1]) rfl),
              by
                intro a W hA hB hd
                obtain ⟨q0, q1, -⟩ := hd
                have h54 : a.eval (.tmp 54) = .agg #[.int .i64 pk, .int .i64 pi, .string (bsOf ps)] := q0
                have h55 : a.eval (.tmp 55) = .slice ab nb cb := q1
                have hB := Lib.hid hB
                have p0 : a.eval (.tmp 0) = .slice (some ⟨b, off, none⟩) la ca := hA.at 0 (by kernel_rfl)
                have p1 : a.eval (.tmp 1) = .slice ab nb cb := hA.at 1 (by kernel_rfl)
                have p7 : a.eval (.tmp 7) = .int .i64 k := hA.at 7 (by kernel_rfl)
                exact step2_of (step_pure (wanted_none rfl) (.agg #[.int .i64 pk, .int .i64 pi, .string (bsOf ps), .slice none 0 0, .slice ab nb cb, .int .i64 0]) (by simp [execOp, go_sem, tm h54, tm h55]) rfl),
              by
                intro a W hA hB hd
                obtain ⟨q0, q1, q2, -⟩ := hd
                have h50 : (GotVF ⟨pk, pi, ps⟩ bs 0) (a.eval (.tmp 50)) W := q0
                have h56 : a.eval (.tmp 56) = .agg #[.int .i64 pk, .int .i64 pi, .string (bsOf ps), .slice none 0 0, .slice ab nb cb, .int .i64 0] := q1
                have hB := Lib.hid hB
                have p0 : a.eval (.tmp 0) = .slice (some ⟨b, off, none⟩) la ca := hA.at 0 (by kernel_rfl)
                have p1 : a.eval (.tmp 1) = .slice ab nb cb := hA.at 1 (by kernel_rfl)
                have p7 : a.eval (.tmp 7) = .int .i64 k := hA.at 7 (by kernel_rfl)
                obtain ⟨a2, m2, e50, r50⟩ := h50
                exact step2_of (step_calls (wanted_none rfl) rfl (vals := #[.agg #[.int .i64 pk, .int .i64 pi, .string (bsOf ps), .slice none 0 0, .slice a2 m2 m2, .int .i64 0], .agg #[.int .i64 pk, .int .i64 pi, .string (bsOf ps), .slice none 0 0, .slice ab nb cb, .int .i64 0]]) (by simp [e50, h56]) (enters_of Tryz.func21 (by kernel_rfl) rfl) ((equalG_true (K1 := fun _ => True) (K3 := fun _ => True) ⟨pk, pi, ps⟩ 0 (RdV.empty (a := none)) r50 (RdV.empty (a := none)) (HRB3.out.below hB.out) (fun v hv => by cases hv)).mono fun e w' ⟨he, hb⟩ => ⟨_, he, rfl, hb⟩)),
              by
                intro a W hA hB hd
                obtain ⟨q0, -⟩ := hd
                have h57 : a.eval (.tmp 57) = .bool true := q0
                have hB := Lib.hid hB
                have p0 : a.eval (.tmp 0) = .slice (some ⟨b, off, none⟩) la ca := hA.at 0 (by kernel_rfl)
                have p1 : a.eval (.tmp 1) = .slice ab nb cb := hA.at 1 (by kernel_rfl)
                have p7 : a.eval (.tmp 7) = .int .i64 k := hA.at 7 (by kernel_rfl)
                exact step2_of (step_pure (wanted_none rfl) (.bool false) (by simp [execOp, go_sem, tm h57]) rfl), trivial⟩
          · intro ax W hA hB hE
            have h58 : ax.eval (.tmp 58) = .bool false := hE.2.2.2.2.2.2.2.2.2.2.2.2.2.2.2.1
            have hp := hA.puts [43, 44, 45, 46, 47, 48, 49, 50, 51, 52, 53, 54, 55, 56, 57, 58] (by kernel_rfl)
            clear hA hE
            simp only [putAll, h58] at hp
            clear h58
            generalize ax.eval = ev at hp
            subst hp
            have HB12 := Lib.hid (HB3.out.trans (hB.mono HB3.out.size))
            have HO12 := Lib.hid (row_below HO3.out hB)
            clear hB HB3 HO3 D0 D1 D2 HRB3 HAP HRD HOC HDR HLN2 HLN3
            simp [Act.put]
            go_wp2_with fail
            go_roundw
            case rel => exact ⟨k + 1, by omega, by go_num, HO12.out, HB12.out⟩
            case measure => simp [intOf]; omega
      · obtain rfl : k = la := by omega
        have HWX : Hid (Wides (wides (x.take k))) := wides_wide fun v hv => HOK.out v (List.mem_of_mem_take hv)
        have hll := wides_len (x.take k)
        have hlk : (x.take k).length ≤ 60 := by rw [List.length_take]; omega
        generalize wides (x.take k) = us at *
        obtain ⟨lw, hlw⟩ : ∃ lw, us.length = lw := ⟨_, rfl⟩
        rw [hlw] at HI hll
        obtain ⟨aw, cw, rfl, hRW⟩ := RdV.of_row HI.out.1 (by omega)
        have HB1 := Lib.hid HI.out.2
        have HRW := Lib.hid hRW
        have hlw60 : lw ≤ 60 := by omega
        have hlen := list_len HWX.out (by omega)
        have HOB : Hid (Oct (listV us ++ bs)) := (list_oct HWX.out).append HO.out
        have HRD := Lib.hid (rdL_bytes HWX.out (by omega) bs)
        have HSH : Hid (Short us) := HWX.out.short
        clear hRW hll hlk HI
        go_wp2_with fail
        refine (makes_row (base := wr.heap.size) (Nat.le_refl _) (appendList_any HWX.out (K := fun _ => True) (Rd.empty (a := none)) HRW.out (by decide) (by omega))).mono ?_
        rw [List.nil_append]
        rintro e w4 ⟨v4, rfl, hF4, hb4⟩
        generalize listV us = bv at *
        have HB4 : Hid (Below w.heap.size w w4) := HB1.out.trans (hb4.mono HB1.out.size)
        have hnl := HRB.out.hl
        obtain ⟨v5, w5, hr5, hF5, hb5⟩ := rowF_append hF4 (HRB.out.below HB4.out) hb4.size (by omega)
        have HR5 := Lib.hid hr5
        have HF5 := Lib.hid hF5
        have hbW : Below wr.heap.size wr w5 := hb4.trans hb5
        have HB5 : Hid (Below w.heap.size w w5) := HB1.out.trans (hbW.mono HB1.out.size)
        have HRW5 := Lib.hid (HRW.out.below hbW)
        have HLL : Hid ((bv ++ bs).length ≤ 100000000) := by show _ ≤ _; rw [List.length_append]; omega
        clear hr5 hF5 hb5 hF4 hb4 hbW HB4 hlen hnl HRW HB1 HWX HOK HI0
        go_wp2_with (at_builtin; refine wpList_append_want (o := ⟨some 62, _, _, _, _, _⟩) _ rfl _ _ _ _ rfl _ _ rfl rfl _ _ HR5.out ?_)
        refine (readListW_good HF5.out HLL.out HOB.out HRD.out).mono ?_
        rintro e w6 ⟨v6, rfl, ⟨a1, n1, c1, a2, m2, rfl, r1, r2⟩, hb6⟩
        have R1 := Lib.hid r1
        have R2 := Lib.hid r2
        have HB6 : Hid (Below w.heap.size w w6) := HB5.out.trans (hb6.mono HB5.out.size)
        have HRW6 := Lib.hid (HRW5.out.below hb6)
        have HRB6 := Lib.hid (HRB.out.below HB6.out)
        clear r1 r2 hb6 HR5 HF5 HLL HOB HRD HRW5 HB5
        go_wp2_with fail
        refine (equalG_true Vl.null 0 R1.out R2.out HRW6.out HRB6.out HSH.out).mono ?_
        rintro e w7 ⟨rfl, hb7⟩
        have HB7 : Hid (Below w.heap.size w w7) := HB6.out.trans (hb7.mono HB6.out.size)
        have HRB7 := Lib.hid (HRB.out.below HB7.out)
        clear hb7 R1 R2 HB6 HRW6 HRB6 HSH
        go_wp2_with fail
        refine (readW_all HO.out HRB7.out).mono ?_
        rintro e w8 ⟨v8, rfl, hF8, hb8⟩
        have HF8 := Lib.hid hF8
        have HB8 : Hid (Below w.heap.size w w8) := HB7.out.trans (hb8.mono HB7.out.size)
        have HRB8 := Lib.hid (HRB.out.below HB8.out)
        clear hb8 HB7 hF8 HRB7
        go_wp2_with fail
        refine (readListW_all HO.out HRB8.out).mono ?_
        rintro e w9 ⟨v9, rfl, hF9, hb9⟩
        have HB9 : Hid (Below w.heap.size w w9) := HB8.out.trans (hb9.mono HB8.out.size)
        obtain ⟨a8, m8, rfl, r8⟩ := gotVF_stable _ _ _ _ _ _ HF8.out hb9
        obtain ⟨a9, n9, c9, b9, m9, rfl, r9, s9⟩ := hF9
        clear hb9 HB8 HRB8 HF8
        go_upto_region 17 with fail
        have HBV8 := Lib.hid (rdV_back HO.out)
        have HBL9 := Lib.hid (rdL_back HO.out)
        have HWL9 := Lib.hid (nvL_wides HO.out)
        have hnb2 := HRB.out.hl
        generalize nvV bs = nv at *
        obtain ⟨vk, vi, vs⟩ := nv
        generalize nrV bs = rest8 at *
        generalize nrL bs = rest9 at *
        generalize nvL bs = ls at *
        generalize (rdV bs).2.2 = z at *
        generalize (rdL bs).2.2 = z9 at *
        dsimp only
        have hbA : Below w9.heap.size w9 ((w9.alloc (.cells #[.int .i64 vk, .int .i64 vi, .string (bsOf vs), .slice none 0 0, .slice a8 m8 m8, .int .i64 z] 39)).alloc (.cells #[.int .i64 0, .int .i64 0, .string ⟨#[]⟩, .slice a9 n9 c9, .slice b9 m9 m9, .int .i64 z9] 39)) := ((Below.self w9).alloc (Nat.le_refl _) _).alloc (by simp) _
        have HT8 : Hid (Six ((w9.alloc (.cells #[.int .i64 vk, .int .i64 vi, .string (bsOf vs), .slice none 0 0, .slice a8 m8 m8, .int .i64 z] 39)).alloc (.cells #[.int .i64 0, .int .i64 0, .string ⟨#[]⟩, .slice a9 n9 c9, .slice b9 m9 m9, .int .i64 z9] 39)) w9.heap.size 39 (.int .i64 vk) (.int .i64 vi) (.string (bsOf vs)) (.slice none 0 0) (.slice a8 m8 m8) (.int .i64 z)) :=
          (Below.heap_alloc _ _ _ (by simp)).trans (Six.new w9 _ _ _ _ _ _ _)
        have hT9 := Six.new (w9.alloc (.cells #[.int .i64 vk, .int .i64 vi, .string (bsOf vs), .slice none 0 0, .slice a8 m8 m8, .int .i64 z] 39)) 39 (.int .i64 0) (.int .i64 0) (.string ⟨#[]⟩) (.slice a9 n9 c9) (.slice b9 m9 m9) (.int .i64 z9)
        rw [World.size_alloc] at hT9
        have HT9 := Lib.hid hT9
        have R8 := Lib.hid (r8.below hbA)
        have R9 := Lib.hid (r9.below hbA)
        have Q9 := Lib.hid (s9.below hbA)
        have HBV : Hid (Below w.heap.size w _) := HB9.out.trans (hbA.mono HB9.out.size)
        have HRBV := Lib.hid (HRB.out.below HBV.out)
        clear hbA hT9 r8 r9 s9 HB9
        obtain ⟨B8, hB8⟩ : ∃ B, w9.heap.size = B := ⟨_, rfl⟩
        rw [hB8] at HT8 HT9 ⊢
        clear hB8
        generalize (w9.alloc (.cells #[.int .i64 vk, .int .i64 vi, .string (bsOf vs), .slice none 0 0, .slice a8 m8 m8, .int .i64 z] 39)).alloc (.cells #[.int .i64 0, .int .i64 0, .string ⟨#[]⟩, .slice a9 n9 c9, .slice b9 m9 m9, .int .i64 z9] 39) = V at *
        go_cut [92] (fun t wx => t = .bool false ∧ Hid (Below V.heap.size V wx))
        case first =>
          by_cases hz : z = 0
          · subst hz
            obtain ⟨hw8, hk8, hb8⟩ := HBV8.out rfl
            have HWV : Hid (∀ W, Calls Tryz.prog 11 #[.agg #[.int .i64 vk, .int .i64 vi, .string (bsOf vs)]] W fun e w' => e = .returned (.bool true) ∧ Below W.heap.size W w') := fun W => by
              have := rwide_any ⟨vk, vi, vs⟩ hk8 W
              rwa [hw8] at this
            have HAV : Hid (∀ W : World, V.heap.size ≤ W.heap.size → Calls Tryz.prog 19 #[.slice none 0 0, .agg #[.int .i64 vk, .int .i64 vi, .string (bsOf vs)]] W fun e w' => ∃ v, e = .returned v ∧ RowF V.heap.size (bytesV ⟨vk, vi, vs⟩) v w' ∧ Below W.heap.size W w') := fun W hb => by
              have := makes_row hb (append_any (K := fun _ => True) ⟨vk, vi, vs⟩ hk8 hw8 (w := W) (Rd.empty (a := none)) (by decide))
              rwa [List.nil_append] at this
            have hl8 := congrArg List.length hb8
            rw [List.length_append] at hl8
            have hr8 := R8.out.hl
            have HBK := Lib.hid hb8
            have HL8 : Hid ((bytesV ⟨vk, vi, vs⟩).length + m8 ≤ 100000000) := by show _ ≤ _; omega
            have HL9 : Hid ((bytesV ⟨vk, vi, vs⟩ ++ rest8).length ≤ 100000000) := by show _ ≤ _; rw [List.length_append]; omega
            clear hw8 hk8 hb8 hl8 hr8 HBV8
            generalize bytesV ⟨vk, vi, vs⟩ = bv8 at *
            refine wp_region_writes (base := V.heap.size) (us := [none, none, none, none, none, none, none, none, none, none, none, some 14, none, none, none, none, none, none, none, none]) (ws := [14]) (bs := [true, true, true, true, true, true, true, true, true, true, true, false, true, true, false, true, true, true, true, true]) (fs := [Fact.is (.pointer (some ⟨B8, 5, none⟩)), Fact.is (.int .i64 0), Fact.is (.bool true), Fact.is (.bool true), Fact.is (.pointer (some ⟨B8, 0, none⟩)), Fact.is (.agg #[.int .i64 vk, .int .i64 vi, .string (bsOf vs)]), Fact.is (.bool true), Fact.is (.bool false), Fact.is (.bool false), Fact.is (.pointer (some ⟨B8, 0, none⟩)), Fact.is (.agg #[.int .i64 vk, .int .i64 vi, .string (bsOf vs)]), RowF V.heap.size bv8, Fact.is (.pointer (some ⟨B8, 4, none⟩)), Fact.is (.slice a8 m8 m8), RowF V.heap.size (bv8 ++ rest8), Fact.is (.slice ab nb cb), Fact.is (.bool true), Fact.is (.bool false), Fact.is (.bool false), Fact.is (.bool false)]) 8 (by kernel_rfl) (by kernel_rfl) (by kernel_rfl) (by kernel_rfl) (Nat.le_refl _) ⟨Fact.is_stable _, Fact.is_stable _, Fact.is_stable _, Fact.is_stable _, Fact.is_stable _, Fact.is_stable _, Fact.is_stable _, Fact.is_stable _, Fact.is_stable _, Fact.is_stable _, Fact.is_stable _, rowF_stable _ _, Fact.is_stable _, Fact.is_stable _, rowF_stable _ _, Fact.is_stable _, Fact.is_stable _, Fact.is_stable _, Fact.is_stable _, Fact.is_stable _, trivial⟩ ⟨(fun _ => Fact.is_firm _ _), (fun _ => Fact.is_firm _ _), (fun _ => Fact.is_firm _ _), (fun _ => Fact.is_firm _ _), (fun _ => Fact.is_firm _ _), (fun _ => Fact.is_firm _ _), (fun _ => Fact.is_firm _ _), (fun _ => Fact.is_firm _ _), (fun _ => Fact.is_firm _ _), (fun _ => Fact.is_firm _ _), (fun _ => Fact.is_firm _ _), (fun h => by cases h), (fun _ => Fact.is_firm _ _), (fun _ => Fact.is_firm _ _), (fun h => by cases h), (fun _ => Fact.is_firm _ _), (fun _ => Fact.is_firm _ _), (fun _ => Fact.is_firm _ _), (fun _ => Fact.is_firm _ _), (fun _ => Fact.is_firm _ _), trivial⟩ ?_ ?_
            · exact ⟨by
                  intro a W hA hB hd
                  have hB := Lib.hid hB
                  have p1 : a.eval (.tmp 1) = .slice ab nb cb := hA.at 1 (by kernel_rfl)
                  have p8 : a.eval (.tmp 8) = .pointer (some ⟨B8, 0, none⟩) := hA.at 8 (by kernel_rfl)
                  exact step2_of (step_pure (wanted_none rfl) (.pointer (some ⟨B8, 5, none⟩)) (by simp [execOp, go_sem, tm p8]) rfl),
                by
                  intro a W hA hB hd
                  obtain ⟨q0, -⟩ := hd
                  have h73 : a.eval (.tmp 73) = .pointer (some ⟨B8, 5, none⟩) := q0
                  have hB := Lib.hid hB
                  have p1 : a.eval (.tmp 1) = .slice ab nb cb := hA.at 1 (by kernel_rfl)
                  have p8 : a.eval (.tmp 8) = .pointer (some ⟨B8, 0, none⟩) := hA.at 8 (by kernel_rfl)
                  have t8 := HT8.out.below hB.out HT8.out.lt
                  exact step2_of (step_pure (wanted_none rfl) (.int .i64 0) (by simp [execOp, go_sem, tm h73, t8.c5]) rfl),
                by
                  intro a W hA hB hd
                  obtain ⟨q0, -⟩ := hd
                  have h74 : a.eval (.tmp 74) = .int .i64 0 := q0
                  have hB := Lib.hid hB
                  have p1 : a.eval (.tmp 1) = .slice ab nb cb := hA.at 1 (by kernel_rfl)
                  have p8 : a.eval (.tmp 8) = .pointer (some ⟨B8, 0, none⟩) := hA.at 8 (by kernel_rfl)
                  exact step2_of (step_pure (wanted_none rfl) (.bool true) (by simp [execOp, go_sem, tm h74]) rfl),
                by
                  intro a W hA hB hd
                  obtain ⟨q0, -⟩ := hd
                  have h75 : a.eval (.tmp 75) = .bool true := q0
                  have hB := Lib.hid hB
                  have p1 : a.eval (.tmp 1) = .slice ab nb cb := hA.at 1 (by kernel_rfl)
                  have p8 : a.eval (.tmp 8) = .pointer (some ⟨B8, 0, none⟩) := hA.at 8 (by kernel_rfl)
                  exact step2_of (step_pure (wanted_none rfl) (.bool true) (by simp [execOp, go_sem, tm h75]) rfl),
                by
                  intro a W hA hB hd
                  obtain ⟨q0, -⟩ := hd
                  have h76 : a.eval (.tmp 76) = .bool true := q0
                  have hB := Lib.hid hB
                  have p1 : a.eval (.tmp 1) = .slice ab nb cb := hA.at 1 (by kernel_rfl)
                  have p8 : a.eval (.tmp 8) = .pointer (some ⟨B8, 0, none⟩) := hA.at 8 (by kernel_rfl)
                  exact step2_of (step_pure ((wanted_guard rfl 76 rfl h76).trans rfl) (.pointer (some ⟨B8, 0, none⟩)) (by simp [execOp, go_sem, tm p8]) rfl),
                by
                  intro a W hA hB hd
                  obtain ⟨q0, q1, -⟩ := hd
                  have h77 : a.eval (.tmp 77) = .pointer (some ⟨B8, 0, none⟩) := q0
                  have h76 : a.eval (.tmp 76) = .bool true := q1
                  have hB := Lib.hid hB
                  have p1 : a.eval (.tmp 1) = .slice ab nb cb := hA.at 1 (by kernel_rfl)
                  have p8 : a.eval (.tmp 8) = .pointer (some ⟨B8, 0, none⟩) := hA.at 8 (by kernel_rfl)
                  have t8 := HT8.out.below hB.out HT8.out.lt
                  exact step2_of (step_pure ((wanted_guard rfl 76 rfl h76).trans rfl) (.agg #[.int .i64 vk, .int .i64 vi, .string (bsOf vs)]) (by simp [execOp, go_sem, tm h77, t8.c0, t8.c1, t8.c2]) rfl),
                by
                  intro a W hA hB hd
                  obtain ⟨q0, q1, q2, -⟩ := hd
                  have h78 : a.eval (.tmp 78) = .agg #[.int .i64 vk, .int .i64 vi, .string (bsOf vs)] := q0
                  have h76 : a.eval (.tmp 76) = .bool true := q1
                  have hB := Lib.hid hB
                  have p1 : a.eval (.tmp 1) = .slice ab nb cb := hA.at 1 (by kernel_rfl)
                  have p8 : a.eval (.tmp 8) = .pointer (some ⟨B8, 0, none⟩) := hA.at 8 (by kernel_rfl)
                  exact step2_of (step_calls ((wanted_guard rfl 76 rfl h76).trans rfl) rfl (vals := #[.agg #[.int .i64 vk, .int .i64 vi, .string (bsOf vs)]]) (by simp [h78]) (enters_of Tryz.func11 (by kernel_rfl) rfl) ((HWV.out W).mono fun e w' ⟨he, hb⟩ => ⟨_, he, rfl, hb⟩)),
                by
                  intro a W hA hB hd
                  obtain ⟨q0, q1, -⟩ := hd
                  have h79 : a.eval (.tmp 79) = .bool true := q0
                  have h76 : a.eval (.tmp 76) = .bool true := q1
                  have hB := Lib.hid hB
                  have p1 : a.eval (.tmp 1) = .slice ab nb cb := hA.at 1 (by kernel_rfl)
                  have p8 : a.eval (.tmp 8) = .pointer (some ⟨B8, 0, none⟩) := hA.at 8 (by kernel_rfl)
                  exact step2_of (step_pure ((wanted_guard rfl 76 rfl h76).trans rfl) (.bool false) (by simp [execOp, go_sem, tm h79]) rfl),
                by
                  intro a W hA hB hd
                  obtain ⟨q0, q1, q2, -⟩ := hd
                  have h80 : a.eval (.tmp 80) = .bool false := q0
                  have h79 : a.eval (.tmp 79) = .bool true := q1
                  have h76 : a.eval (.tmp 76) = .bool true := q2
                  have hB := Lib.hid hB
                  have p1 : a.eval (.tmp 1) = .slice ab nb cb := hA.at 1 (by kernel_rfl)
                  have p8 : a.eval (.tmp 8) = .pointer (some ⟨B8, 0, none⟩) := hA.at 8 (by kernel_rfl)
                  exact step2_of (step_pure ((wanted_guard rfl 76 rfl h76).trans rfl) (.bool false) (by simp [execOp, go_sem, tm h80]) rfl),
                by
                  intro a W hA hB hd
                  obtain ⟨q0, -⟩ := hd
                  have h81 : a.eval (.tmp 81) = .bool false := q0
                  have hB := Lib.hid hB
                  have p1 : a.eval (.tmp 1) = .slice ab nb cb := hA.at 1 (by kernel_rfl)
                  have p8 : a.eval (.tmp 8) = .pointer (some ⟨B8, 0, none⟩) := hA.at 8 (by kernel_rfl)
                  exact step2_of (step_pure ((wanted_guard rfl 81 rfl h81).trans rfl) (.pointer (some ⟨B8, 0, none⟩)) (by simp [execOp, go_sem, tm p8]) rfl),
                by
                  intro a W hA hB hd
                  obtain ⟨q0, q1, -⟩ := hd
                  have h82 : a.eval (.tmp 82) = .pointer (some ⟨B8, 0, none⟩) := q0
                  have h81 : a.eval (.tmp 81) = .bool false := q1
                  have hB := Lib.hid hB
                  have p1 : a.eval (.tmp 1) = .slice ab nb cb := hA.at 1 (by kernel_rfl)
                  have p8 : a.eval (.tmp 8) = .pointer (some ⟨B8, 0, none⟩) := hA.at 8 (by kernel_rfl)
                  have t8 := HT8.out.below hB.out HT8.out.lt
                  exact step2_of (step_pure ((wanted_guard rfl 81 rfl h81).trans rfl) (.agg #[.int .i64 vk, .int .i64 vi, .string (bsOf vs)]) (by simp [execOp, go_sem, tm h82, t8.c0, t8.c1, t8.c2]) rfl),
                by
                  intro a W hA hB hd
                  obtain ⟨q0, q1, q2, -⟩ := hd
                  have h83 : a.eval (.tmp 83) = .agg #[.int .i64 vk, .int .i64 vi, .string (bsOf vs)] := q0
                  have h81 : a.eval (.tmp 81) = .bool false := q1
                  have hB := Lib.hid hB
                  have p1 : a.eval (.tmp 1) = .slice ab nb cb := hA.at 1 (by kernel_rfl)
                  have p8 : a.eval (.tmp 8) = .pointer (some ⟨B8, 0, none⟩) := hA.at 8 (by kernel_rfl)
                  exact step2_of (step_calls ((wanted_guard rfl 81 rfl h81).trans rfl) rfl (vals := #[.slice none 0 0, .agg #[.int .i64 vk, .int .i64 vi, .string (bsOf vs)]]) (by simp [eval_const, h83]) (enters_of Tryz.func19 (by kernel_rfl) rfl) (HAV.out W hB.out.size)),
                by
                  intro a W hA hB hd
                  obtain ⟨q0, -⟩ := hd
                  have h81 : a.eval (.tmp 81) = .bool false := q0
                  have hB := Lib.hid hB
                  have p1 : a.eval (.tmp 1) = .slice ab nb cb := hA.at 1 (by kernel_rfl)
                  have p8 : a.eval (.tmp 8) = .pointer (some ⟨B8, 0, none⟩) := hA.at 8 (by kernel_rfl)
                  exact step2_of (step_pure ((wanted_guard rfl 81 rfl h81).trans rfl) (.pointer (some ⟨B8, 4, none⟩)) (by simp [execOp, go_sem, tm p8]) rfl),
                by
                  intro a W hA hB hd
                  obtain ⟨q0, q1, -⟩ := hd
                  have h85 : a.eval (.tmp 85) = .pointer (some ⟨B8, 4, none⟩) := q0
                  have h81 : a.eval (.tmp 81) = .bool false := q1
                  have hB := Lib.hid hB
                  have p1 : a.eval (.tmp 1) = .slice ab nb cb := hA.at 1 (by kernel_rfl)
                  have p8 : a.eval (.tmp 8) = .pointer (some ⟨B8, 0, none⟩) := hA.at 8 (by kernel_rfl)
                  have t8 := HT8.out.below hB.out HT8.out.lt
                  exact step2_of (step_pure ((wanted_guard rfl 81 rfl h81).trans rfl) (.slice a8 m8 m8) (by simp [execOp, go_sem, tm h85, t8.c4]) rfl),
                by
                  intro a W hA hB hd
                  obtain ⟨q0, q1, q2, q3, -⟩ := hd
                  have h84 : (RowF V.heap.size bv8) (a.eval (.tmp 84)) W := q0
                  have h86 : a.eval (.tmp 86) = .slice a8 m8 m8 := q1
                  have h81 : a.eval (.tmp 81) = .bool false := q3
                  have hB := Lib.hid hB
                  have p1 : a.eval (.tmp 1) = .slice ab nb cb := hA.at 1 (by kernel_rfl)
                  have p8 : a.eval (.tmp 8) = .pointer (some ⟨B8, 0, none⟩) := hA.at 8 (by kernel_rfl)
                  obtain ⟨v', w', hr, h1, h2⟩ := rowF_append h84 (R8.out.below hB.out) hB.out.size HL8.out
                  exact step2_append ((wanted_guard rfl 81 rfl h81).trans rfl) (.tmp 84) (.tmp 86) 25 25 rfl rfl h86 hr h2 h1,
                by
                  intro a W hA hB hd
                  obtain ⟨q0, -⟩ := hd
                  have h81 : a.eval (.tmp 81) = .bool false := q0
                  have hB := Lib.hid hB
                  have p1 : a.eval (.tmp 1) = .slice ab nb cb := hA.at 1 (by kernel_rfl)
                  have p8 : a.eval (.tmp 8) = .pointer (some ⟨B8, 0, none⟩) := hA.at 8 (by kernel_rfl)
                  exact step2_of (step_pure ((wanted_guard rfl 81 rfl h81).trans rfl) (.slice ab nb cb) (by simp [execOp, go_sem, tm p1]) rfl),
                by
                  intro a W hA hB hd
                  obtain ⟨q0, q1, q2, q3, -⟩ := hd
                  have h87 : (RowF V.heap.size (bv8 ++ rest8)) (a.eval (.tmp 87)) W := q0
                  have h88 : a.eval (.tmp 88) = .slice ab nb cb := q1
                  have h81 : a.eval (.tmp 81) = .bool false := q3
                  have hB := Lib.hid hB
                  have p1 : a.eval (.tmp 1) = .slice ab nb cb := hA.at 1 (by kernel_rfl)
                  have p8 : a.eval (.tmp 8) = .pointer (some ⟨B8, 0, none⟩) := hA.at 8 (by kernel_rfl)
                  obtain ⟨g8, c8, e87, r87⟩ := rowF_rd h87 HL9.out
                  exact step2_of (step_calls ((wanted_guard rfl 81 rfl h81).trans rfl) rfl (vals := #[.slice (some ⟨g8, 0, none⟩) (bv8 ++ rest8).length c8, .slice ab nb cb]) (by simp [e87, h88]) (enters_of Tryz.func18 (by kernel_rfl) rfl) ((same_any r87 (HRBV.out.below hB.out)).mono fun e w' ⟨he, hb⟩ => ⟨_, he, by rw [sameB_true HBK.out]; rfl, hb⟩)),
                by
                  intro a W hA hB hd
                  obtain ⟨q0, q1, -⟩ := hd
                  have h89 : a.eval (.tmp 89) = .bool true := q0
                  have h81 : a.eval (.tmp 81) = .bool false := q1
                  have hB := Lib.hid hB
                  have p1 : a.eval (.tmp 1) = .slice ab nb cb := hA.at 1 (by kernel_rfl)
                  have p8 : a.eval (.tmp 8) = .pointer (some ⟨B8, 0, none⟩) := hA.at 8 (by kernel_rfl)
                  exact step2_of (step_pure ((wanted_guard rfl 81 rfl h81).trans rfl) (.bool false) (by simp [execOp, go_sem, tm h89]) rfl),
                by
                  intro a W hA hB hd
                  obtain ⟨q0, q1, q2, -⟩ := hd
                  have h81 : a.eval (.tmp 81) = .bool false := q0
                  have h90 : a.eval (.tmp 90) = .bool false := q1
                  have h76 : a.eval (.tmp 76) = .bool true := q2
                  have hB := Lib.hid hB
                  have p1 : a.eval (.tmp 1) = .slice ab nb cb := hA.at 1 (by kernel_rfl)
                  have p8 : a.eval (.tmp 8) = .pointer (some ⟨B8, 0, none⟩) := hA.at 8 (by kernel_rfl)
                  exact step2_of (step_pure ((wanted_guard rfl 76 rfl h76).trans rfl) (.bool false) (by simp [execOp, go_sem, tm h81, tm h90]) rfl),
                by
                  intro a W hA hB hd
                  obtain ⟨q0, q1, -⟩ := hd
                  have h76 : a.eval (.tmp 76) = .bool true := q0
                  have h91 : a.eval (.tmp 91) = .bool false := q1
                  have hB := Lib.hid hB
                  have p1 : a.eval (.tmp 1) = .slice ab nb cb := hA.at 1 (by kernel_rfl)
                  have p8 : a.eval (.tmp 8) = .pointer (some ⟨B8, 0, none⟩) := hA.at 8 (by kernel_rfl)
                  exact step2_of (step_pure (wanted_none rfl) (.bool false) (by simp [execOp, go_sem, tm h76, tm h91]) rfl), trivial⟩
            · intro ax W hA hB hE
              have h92 : ax.eval (.tmp 92) = .bool false := hE.2.2.2.2.2.2.2.2.2.2.2.2.2.2.2.2.2.2.2.1
              have hp := hA.puts [73, 74, 75, 76, 77, 78, 79, 80, 81, 82, 83, 84, 85, 86, 87, 88, 89, 90, 91, 92] (by kernel_rfl)
              clear hA hE
              simp only [putAll, h92] at hp
              clear h92
              generalize ax.eval = ev at hp
              subst hp
              have HBX := Lib.hid hB
              clear hB
              simp [Act.put]
              go_step
              go_step
              go_meet
              exact ⟨rfl, HBX⟩
          · have hzb : (z == 0) = false := by simpa using hz
            refine wp_region_writes (base := V.heap.size) (us := [none, none, none, none, none, none, none, none, none, none, none, none, none, none, none, none, none, none, none, none]) (ws := []) (bs := [true, true, true, true, true, true, true, true, true, true, true, true, true, true, true, true, true, true, true, true]) (fs := [Fact.is (.pointer (some ⟨B8, 5, none⟩)), Fact.is (.int .i64 z), Fact.is (.bool false), Fact.is (.bool false), Fact.is (undef), Fact.is (undef), Fact.is (undef), Fact.is (undef), Fact.is (undef), Fact.is (undef), Fact.is (undef), Fact.is (undef), Fact.is (undef), Fact.is (undef), Fact.is (undef), Fact.is (undef), Fact.is (undef), Fact.is (undef), Fact.is (undef), Fact.is (.bool false)]) 8 (by kernel_rfl) (by kernel_rfl) (by kernel_rfl) (by kernel_rfl) (Nat.le_refl _) ⟨Fact.is_stable _, Fact.is_stable _, Fact.is_stable _, Fact.is_stable _, Fact.is_stable _, Fact.is_stable _, Fact.is_stable _, Fact.is_stable _, Fact.is_stable _, Fact.is_stable _, Fact.is_stable _, Fact.is_stable _, Fact.is_stable _, Fact.is_stable _, Fact.is_stable _, Fact.is_stable _, Fact.is_stable _, Fact.is_stable _, Fact.is_stable _, Fact.is_stable _, trivial⟩ ⟨(fun _ => Fact.is_firm _ _), (fun _ => Fact.is_firm _ _), (fun _ => Fact.is_firm _ _), (fun _ => Fact.is_firm _ _), (fun _ => Fact.is_firm _ _), (fun _ => Fact.is_firm _ _), (fun _ => Fact.is_firm _ _), (fun _ => Fact.is_firm _ _), (fun _ => Fact.is_firm _ _), (fun _ => Fact.is_firm _ _), (fun _ => Fact.is_firm _ _), (fun _ => Fact.is_firm _ _), (fun _ => Fact.is_firm _ _), (fun _ => Fact.is_firm _ _), (fun _ => Fact.is_firm _ _), (fun _ => Fact.is_firm _ _), (fun _ => Fact.is_firm _ _), (fun _ => Fact.is_firm _ _), (fun _ => Fact.is_firm _ _), (fun _ => Fact.is_firm _ _), trivial⟩ ?_ ?_
            · exact ⟨by
                  intro a W hA hB hd
                  have hB := Lib.hid hB
                  have p8 : a.eval (.tmp 8) = .pointer (some ⟨B8, 0, none⟩) := hA.at 8 (by kernel_rfl)
                  exact step2_of (step_pure (wanted_none rfl) (.pointer (some ⟨B8, 5, none⟩)) (by simp [execOp, go_sem, tm p8]) rfl),
                by
                  intro a W hA hB hd
                  obtain ⟨q0, -⟩ := hd
                  have h73 : a.eval (.tmp 73) = .pointer (some ⟨B8, 5, none⟩) := q0
                  have hB := Lib.hid hB
                  have p8 : a.eval (.tmp 8) = .pointer (some ⟨B8, 0, none⟩) := hA.at 8 (by kernel_rfl)
                  have t8 := HT8.out.below hB.out HT8.out.lt
                  exact step2_of (step_pure (wanted_none rfl) (.int .i64 z) (by simp [execOp, go_sem, tm h73, t8.c5]) rfl),
                by
                  intro a W hA hB hd
                  obtain ⟨q0, -⟩ := hd
                  have h74 : a.eval (.tmp 74) = .int .i64 z := q0
                  have hB := Lib.hid hB
                  have p8 : a.eval (.tmp 8) = .pointer (some ⟨B8, 0, none⟩) := hA.at 8 (by kernel_rfl)
                  exact step2_of (step_pure (wanted_none rfl) (.bool false) (by simp [execOp, go_sem, tm h74, hzb]) rfl),
                by
                  intro a W hA hB hd
                  obtain ⟨q0, -⟩ := hd
                  have h75 : a.eval (.tmp 75) = .bool false := q0
                  have hB := Lib.hid hB
                  have p8 : a.eval (.tmp 8) = .pointer (some ⟨B8, 0, none⟩) := hA.at 8 (by kernel_rfl)
                  exact step2_of (step_pure (wanted_none rfl) (.bool false) (by simp [execOp, go_sem, tm h75]) rfl),
                by
                  intro a W hA hB hd
                  obtain ⟨q0, -⟩ := hd
                  have h76 : a.eval (.tmp 76) = .bool false := q0
                  have hB := Lib.hid hB
                  have p8 : a.eval (.tmp 8) = .pointer (some ⟨B8, 0, none⟩) := hA.at 8 (by kernel_rfl)
                  exact step2_of (step_not ((wanted_guard rfl 76 rfl h76).trans rfl) rfl),
                by
                  intro a W hA hB hd
                  obtain ⟨q0, q1, -⟩ := hd
                  have h77 : a.eval (.tmp 77) = undef := q0
                  have h76 : a.eval (.tmp 76) = .bool false := q1
                  have hB := Lib.hid hB
                  have p8 : a.eval (.tmp 8) = .pointer (some ⟨B8, 0, none⟩) := hA.at 8 (by kernel_rfl)
                  exact step2_of (step_not ((wanted_guard rfl 76 rfl h76).trans rfl) rfl),
                by
                  intro a W hA hB hd
                  obtain ⟨q0, q1, q2, -⟩ := hd
                  have h78 : a.eval (.tmp 78) = undef := q0
                  have h76 : a.eval (.tmp 76) = .bool false := q1
                  have hB := Lib.hid hB
                  have p8 : a.eval (.tmp 8) = .pointer (some ⟨B8, 0, none⟩) := hA.at 8 (by kernel_rfl)
                  exact step2_of (step_not ((wanted_guard rfl 76 rfl h76).trans rfl) rfl),
                by
                  intro a W hA hB hd
                  obtain ⟨q0, q1, -⟩ := hd
                  have h79 : a.eval (.tmp 79) = undef := q0
                  have h76 : a.eval (.tmp 76) = .bool false := q1
                  have hB := Lib.hid hB
                  have p8 : a.eval (.tmp 8) = .pointer (some ⟨B8, 0, none⟩) := hA.at 8 (by kernel_rfl)
                  exact step2_of (step_not ((wanted_guard rfl 76 rfl h76).trans rfl) rfl),
                by
                  intro a W hA hB hd
                  obtain ⟨q0, q1, q2, -⟩ := hd
                  have h80 : a.eval (.tmp 80) = undef := q0
                  have h79 : a.eval (.tmp 79) = undef := q1
                  have h76 : a.eval (.tmp 76) = .bool false := q2
                  have hB := Lib.hid hB
                  have p8 : a.eval (.tmp 8) = .pointer (some ⟨B8, 0, none⟩) := hA.at 8 (by kernel_rfl)
                  exact step2_of (step_not ((wanted_guard rfl 76 rfl h76).trans rfl) rfl),
                by
                  intro a W hA hB hd
                  obtain ⟨q0, -⟩ := hd
                  have h81 : a.eval (.tmp 81) = undef := q0
                  have hB := Lib.hid hB
                  have p8 : a.eval (.tmp 8) = .pointer (some ⟨B8, 0, none⟩) := hA.at 8 (by kernel_rfl)
                  exact step2_of (step_not (wanted_undef rfl 81 rfl h81) rfl),
                by
                  intro a W hA hB hd
                  obtain ⟨q0, q1, -⟩ := hd
                  have h82 : a.eval (.tmp 82) = undef := q0
                  have h81 : a.eval (.tmp 81) = undef := q1
                  have hB := Lib.hid hB
                  have p8 : a.eval (.tmp 8) = .pointer (some ⟨B8, 0, none⟩) := hA.at 8 (by kernel_rfl)
                  exact step2_of (step_not (wanted_undef rfl 81 rfl h81) rfl),
                by
                  intro a W hA hB hd
                  obtain ⟨q0, q1, q2, -⟩ := hd
                  have h83 : a.eval (.tmp 83) = undef := q0
                  have h81 : a.eval (.tmp 81) = undef := q1
                  have hB := Lib.hid hB
                  have p8 : a.eval (.tmp 8) = .pointer (some ⟨B8, 0, none⟩) := hA.at 8 (by kernel_rfl)
                  exact step2_of (step_not (wanted_undef rfl 81 rfl h81) rfl),
                by
                  intro a W hA hB hd
                  obtain ⟨q0, -⟩ := hd
                  have h81 : a.eval (.tmp 81) = undef := q0
                  have hB := Lib.hid hB
                  have p8 : a.eval (.tmp 8) = .pointer (some ⟨B8, 0, none⟩) := hA.at 8 (by kernel_rfl)
                  exact step2_of (step_not (wanted_undef rfl 81 rfl h81) rfl),
                by
                  intro a W hA hB hd
                  obtain ⟨q0, q1, -⟩ := hd
                  have h85 : a.eval (.tmp 85) = undef := q0
                  have h81 : a.eval (.tmp 81) = undef := q1
                  have hB := Lib.hid hB
                  have p8 : a.eval (.tmp 8) = .pointer (some ⟨B8, 0, none⟩) := hA.at 8 (by kernel_rfl)
                  exact step2_of (step_not (wanted_undef rfl 81 rfl h81) rfl),
                by
                  intro a W hA hB hd
                  obtain ⟨q0, q1, q2, q3, -⟩ := hd
                  have h84 : a.eval (.tmp 84) = undef := q0
                  have h86 : a.eval (.tmp 86) = undef := q1
                  have h81 : a.eval (.tmp 81) = undef := q3
                  have hB := Lib.hid hB
                  have p8 : a.eval (.tmp 8) = .pointer (some ⟨B8, 0, none⟩) := hA.at 8 (by kernel_rfl)
                  exact step2_of (step_not (wanted_undef rfl 81 rfl h81) rfl),
                by
                  intro a W hA hB hd
                  obtain ⟨q0, -⟩ := hd
                  have h81 : a.eval (.tmp 81) = undef := q0
                  have hB := Lib.hid hB
                  have p8 : a.eval (.tmp 8) = .pointer (some ⟨B8, 0, none⟩) := hA.at 8 (by kernel_rfl)
                  exact step2_of (step_not (wanted_undef rfl 81 rfl h81) rfl),
                by
                  intro a W hA hB hd
                  obtain ⟨q0, q1, q2, q3, -⟩ := hd
                  have h87 : a.eval (.tmp 87) = undef := q0
                  have h88 : a.eval (.tmp 88) = undef := q1
                  have h81 : a.eval (.tmp 81) = undef := q3
                  have hB := Lib.hid hB
                  have p8 : a.eval (.tmp 8) = .pointer (some ⟨B8, 0, none⟩) := hA.at 8 (by kernel_rfl)
                  exact step2_of (step_not (wanted_undef rfl 81 rfl h81) rfl),
                by
                  intro a W hA hB hd
                  obtain ⟨q0, q1, -⟩ := hd
                  have h89 : a.eval (.tmp 89) = undef := q0
                  have h81 : a.eval (.tmp 81) = undef := q1
                  have hB := Lib.hid hB
                  have p8 : a.eval (.tmp 8) = .pointer (some ⟨B8, 0, none⟩) := hA.at 8 (by kernel_rfl)
                  exact step2_of (step_not (wanted_undef rfl 81 rfl h81) rfl),
                by
                  intro a W hA hB hd
                  obtain ⟨q0, q1, q2, -⟩ := hd
                  have h81 : a.eval (.tmp 81) = undef := q0
                  have h90 : a.eval (.tmp 90) = undef := q1
                  have h76 : a.eval (.tmp 76) = .bool false := q2
                  have hB := Lib.hid hB
                  have p8 : a.eval (.tmp 8) = .pointer (some ⟨B8, 0, none⟩) := hA.at 8 (by kernel_rfl)
                  exact step2_of (step_not ((wanted_guard rfl 76 rfl h76).trans rfl) rfl),
                by
                  intro a W hA hB hd
                  obtain ⟨q0, q1, -⟩ := hd
                  have h76 : a.eval (.tmp 76) = .bool false := q0
                  have h91 : a.eval (.tmp 91) = undef := q1
                  have hB := Lib.hid hB
                  have p8 : a.eval (.tmp 8) = .pointer (some ⟨B8, 0, none⟩) := hA.at 8 (by kernel_rfl)
                  exact step2_of (step_pure (wanted_none rfl) (.bool false) (by simp [execOp, go_sem, tm h76]) rfl), trivial⟩
            · intro ax W hA hB hE
              have h92 : ax.eval (.tmp 92) = .bool false := hE.2.2.2.2.2.2.2.2.2.2.2.2.2.2.2.2.2.2.2.1
              have hp := hA.puts [73, 74, 75, 76, 77, 78, 79, 80, 81, 82, 83, 84, 85, 86, 87, 88, 89, 90, 91, 92] (by kernel_rfl)
              clear hA hE
              simp only [putAll, h92] at hp
              clear h92
              generalize ax.eval = ev at hp
              subst hp
              have HBX := Lib.hid hB
              clear hB
              simp [Act.put]
              go_step
              go_step
              go_meet
              exact ⟨rfl, HBX⟩
        case rest =>
          obtain ⟨rfl, HW⟩ := hcut
          have hf9 := R9.out.fit
          have hs9 := R9.out.small
          have HL9 := Lib.hid R9.out.hl
          clear HBV8 R8 HT8 R0 LA hla hfit hk hlt hlw hlw60 hnb2
          go_wp2_with fail
          have d3 := (HT9.out.below HW.out HT9.out.lt).c3
          go_loopw [10] (fun i wr => ∃ j : Nat, j ≤ n9 ∧ i = .int .i64 j ∧ Hid (Below V.heap.size V wr)) (fun i _ => n9 - (intOf i).toNat)
          case atStart => exact ⟨0, Nat.zero_le _, rfl, HW⟩
          case round =>
            obtain ⟨j, hj, rfl, HI⟩ := hrel
            have d3 := (HT9.out.below HI.out HT9.out.lt).c3
            by_cases hjl : j < n9
            · obtain ⟨b, off, rfl, _, hbl, hc⟩ := R9.out.cells (by omega)
              obtain ⟨c0, c1, c2⟩ := hc j hjl
              have HWJ := Lib.hid (HWL9.out.1.at (k := j) (by rw [← HL9.out]; exact hjl))
              have c0 := (HI.out.cell (p := ⟨b, off + j * 3, none⟩) hbl).trans c0
              have c1 := (HI.out.cell (p := ⟨b, off + j * 3 + 1, none⟩) hbl).trans c1
              have c2 := (HI.out.cell (p := ⟨b, off + j * 3 + 2, none⟩) hbl).trans c2
              have hjI : (j : Int) < (n9 : Int) := by omega
              clear hc
              generalize ls[j]?.getD Vl.null = p at *
              obtain ⟨pk, pi, ps⟩ := p
              dsimp only at c0 c1 c2
              have HWD : Hid (∀ W, Calls Tryz.prog 11 #[.agg #[.int .i64 pk, .int .i64 pi, .string (bsOf ps)]] W fun e w' => e = .returned (.bool true) ∧ Below W.heap.size W w') := fun W => by
                have := rwide_any ⟨pk, pi, ps⟩ HWJ.out.2 W
                rwa [HWJ.out.1] at this
              go_wp2_with fail
              refine (HWD.out _).mono ?_
              rintro e wx ⟨rfl, hbx⟩
              have HIX : Hid (Below V.heap.size V wx) := HI.out.trans (hbx.mono HI.out.size)
              clear hbx HI c0 c1 c2 d3 HWD HWJ
              go_wp2_with fail
              go_roundw
              case rel => exact ⟨j + 1, by omega, by go_num, HIX.out⟩
              case measure => simp [intOf]; omega
            · obtain rfl : j = n9 := by omega
              have hjj : ¬ ((j : Int) < (j : Int)) := Int.lt_irrefl _
              go_upto_region 24 with fail
              have HBU := Lib.hid HI.out
              have HT9U := Lib.hid (HT9.out.below HI.out HT9.out.lt)
              have R9U := Lib.hid (R9.out.below HI.out)
              have Q9U := Lib.hid (Q9.out.below HI.out)
              have HRBU := Lib.hid (HRBV.out.below HI.out)
              have HBW : Hid (Below w.heap.size w wr) := HBV.out.trans (HI.out.mono HBV.out.size)
              clear d3 HI HW HBU HT9 R9 Q9 HRBV HBV
              have hnb2 := HRBU.out.hl
              by_cases hz : z9 = 0
              · subst hz
                have hb9 := HBL9.out rfl
                have HAL : Hid (∀ W : World, wr.heap.size ≤ W.heap.size → RdV (fun _ => True) W a9 j c9 ls → Calls Tryz.prog 28 #[.slice none 0 0, .slice a9 j c9] W fun e w' => ∃ v, e = .returned v ∧ RowF wr.heap.size (listV ls) v w' ∧ Below W.heap.size W w') := fun W hb hR => by
                  have := makes_row hb (appendList_any HWL9.out.1 (K := fun _ => True) (w := W) (Rd.empty (a := none)) hR (by decide) (by have := HWL9.out.2; have := HL9.out; omega))
                  rwa [List.nil_append] at this
                have hl8 := congrArg List.length hb9
                rw [List.length_append] at hl8
                have hr8 := Q9U.out.hl
                have HBK := Lib.hid hb9
                have HL8 : Hid ((listV ls).length + m9 ≤ 100000000) := by show _ ≤ _; omega
                have HL9 : Hid ((listV ls ++ rest9).length ≤ 100000000) := by show _ ≤ _; rw [List.length_append]; omega
                clear hb9 hl8 hr8 HBL9 HWL9 hnb2
                generalize listV ls = bv9 at *
                refine wp_region_writes (base := wr.heap.size) (us := [none, none, none, none, none, none, some 9, none, none, none, none, none, none, none, none, none, none]) (ws := [9]) (bs := [true, true, true, true, true, true, false, true, true, false, true, true, true, true, true, true, true]) (fs := [Fact.is (.pointer (some ⟨B8 + 1, 5, none⟩)), Fact.is (.int .i64 0), Fact.is (.bool false), Fact.is (.bool false), Fact.is (.pointer (some ⟨B8 + 1, 3, none⟩)), Fact.is (.slice a9 j c9), RowF wr.heap.size bv9, Fact.is (.pointer (some ⟨B8 + 1, 4, none⟩)), Fact.is (.slice b9 m9 m9), RowF wr.heap.size (bv9 ++ rest9), Fact.is (.slice ab nb cb), Fact.is (.bool true), Fact.is (.bool true), Fact.is (.bool true), Fact.is (.bool true), Fact.is (.bool true), Fact.is (.bool true)]) 8 (by kernel_rfl) (by kernel_rfl) (by kernel_rfl) (by kernel_rfl) (Nat.le_refl _) ⟨Fact.is_stable _, Fact.is_stable _, Fact.is_stable _, Fact.is_stable _, Fact.is_stable _, Fact.is_stable _, rowF_stable _ _, Fact.is_stable _, Fact.is_stable _, rowF_stable _ _, Fact.is_stable _, Fact.is_stable _, Fact.is_stable _, Fact.is_stable _, Fact.is_stable _, Fact.is_stable _, Fact.is_stable _, trivial⟩ ⟨(fun _ => Fact.is_firm _ _), (fun _ => Fact.is_firm _ _), (fun _ => Fact.is_firm _ _), (fun _ => Fact.is_firm _ _), (fun _ => Fact.is_firm _ _), (fun _ => Fact.is_firm _ _), (fun h => by cases h), (fun _ => Fact.is_firm _ _), (fun _ => Fact.is_firm _ _), (fun h => by cases h), (fun _ => Fact.is_firm _ _), (fun _ => Fact.is_firm _ _), (fun _ => Fact.is_firm _ _), (fun _ => Fact.is_firm _ _), (fun _ => Fact.is_firm _ _), (fun _ => Fact.is_firm _ _), (fun _ => Fact.is_firm _ _), trivial⟩ ?_ ?_
                · exact ⟨by
                      intro a W hA hB hd
                      have hB := Lib.hid hB
                      have p1 : a.eval (.tmp 1) = .slice ab nb cb := hA.at 1 (by kernel_rfl)
                      have p5 : a.eval (.tmp 5) = .bool true := hA.at 5 (by kernel_rfl)
                      have p9 : a.eval (.tmp 9) = .pointer (some ⟨B8 + 1, 0, none⟩) := hA.at 9 (by kernel_rfl)
                      exact step2_of (step_pure (wanted_none rfl) (.pointer (some ⟨B8 + 1, 5, none⟩)) (by simp [execOp, go_sem, tm p9]) rfl),
                    by
                      intro a W hA hB hd
                      obtain ⟨q0, -⟩ := hd
                      have h107 : a.eval (.tmp 107) = .pointer (some ⟨B8 + 1, 5, none⟩) := q0
                      have hB := Lib.hid hB
                      have p1 : a.eval (.tmp 1) = .slice ab nb cb := hA.at 1 (by kernel_rfl)
                      have p5 : a.eval (.tmp 5) = .bool true := hA.at 5 (by kernel_rfl)
                      have p9 : a.eval (.tmp 9) = .pointer (some ⟨B8 + 1, 0, none⟩) := hA.at 9 (by kernel_rfl)
                      have t9 := HT9U.out.below hB.out HT9U.out.lt
                      exact step2_of (step_pure (wanted_none rfl) (.int .i64 0) (by simp [execOp, go_sem, tm h107, t9.c5]) rfl),
                    by
                      intro a W hA hB hd
                      obtain ⟨q0, -⟩ := hd
                      have h108 : a.eval (.tmp 108) = .int .i64 0 := q0
                      have hB := Lib.hid hB
                      have p1 : a.eval (.tmp 1) = .slice ab nb cb := hA.at 1 (by kernel_rfl)
                      have p5 : a.eval (.tmp 5) = .bool true := hA.at 5 (by kernel_rfl)
                      have p9 : a.eval (.tmp 9) = .pointer (some ⟨B8 + 1, 0, none⟩) := hA.at 9 (by kernel_rfl)
                      exact step2_of (step_pure (wanted_none rfl) (.bool false) (by simp [execOp, go_sem, tm h108]) rfl),
                    by
                      intro a W hA hB hd
                      obtain ⟨q0, -⟩ := hd
                      have h109 : a.eval (.tmp 109) = .bool false := q0
                      have hB := Lib.hid hB
                      have p1 : a.eval (.tmp 1) = .slice ab nb cb := hA.at 1 (by kernel_rfl)
                      have p5 : a.eval (.tmp 5) = .bool true := hA.at 5 (by kernel_rfl)
                      have p9 : a.eval (.tmp 9) = .pointer (some ⟨B8 + 1, 0, none⟩) := hA.at 9 (by kernel_rfl)
                      exact step2_of (step_pure (wanted_none rfl) (.bool false) (by simp [execOp, go_sem, tm h109]) rfl),
                    by
                      intro a W hA hB hd
                      obtain ⟨q0, -⟩ := hd
                      have h110 : a.eval (.tmp 110) = .bool false := q0
                      have hB := Lib.hid hB
                      have p1 : a.eval (.tmp 1) = .slice ab nb cb := hA.at 1 (by kernel_rfl)
                      have p5 : a.eval (.tmp 5) = .bool true := hA.at 5 (by kernel_rfl)
                      have p9 : a.eval (.tmp 9) = .pointer (some ⟨B8 + 1, 0, none⟩) := hA.at 9 (by kernel_rfl)
                      exact step2_of (step_pure ((wanted_guard rfl 110 rfl h110).trans rfl) (.pointer (some ⟨B8 + 1, 3, none⟩)) (by simp [execOp, go_sem, tm p9]) rfl),
                    by
                      intro a W hA hB hd
                      obtain ⟨q0, q1, -⟩ := hd
                      have h111 : a.eval (.tmp 111) = .pointer (some ⟨B8 + 1, 3, none⟩) := q0
                      have h110 : a.eval (.tmp 110) = .bool false := q1
                      have hB := Lib.hid hB
                      have p1 : a.eval (.tmp 1) = .slice ab nb cb := hA.at 1 (by kernel_rfl)
                      have p5 : a.eval (.tmp 5) = .bool true := hA.at 5 (by kernel_rfl)
                      have p9 : a.eval (.tmp 9) = .pointer (some ⟨B8 + 1, 0, none⟩) := hA.at 9 (by kernel_rfl)
                      have t9 := HT9U.out.below hB.out HT9U.out.lt
                      exact step2_of (step_pure ((wanted_guard rfl 110 rfl h110).trans rfl) (.slice a9 j c9) (by simp [execOp, go_sem, tm h111, t9.c3]) rfl),
                    by
                      intro a W hA hB hd
                      obtain ⟨q0, q1, q2, -⟩ := hd
                      have h112 : a.eval (.tmp 112) = .slice a9 j c9 := q0
                      have h110 : a.eval (.tmp 110) = .bool false := q1
                      have hB := Lib.hid hB
                      have p1 : a.eval (.tmp 1) = .slice ab nb cb := hA.at 1 (by kernel_rfl)
                      have p5 : a.eval (.tmp 5) = .bool true := hA.at 5 (by kernel_rfl)
                      have p9 : a.eval (.tmp 9) = .pointer (some ⟨B8 + 1, 0, none⟩) := hA.at 9 (by kernel_rfl)
                      exact step2_of (step_calls ((wanted_guard rfl 110 rfl h110).trans rfl) rfl (vals := #[.slice none 0 0, .slice a9 j c9]) (by simp [eval_const, h112]) (enters_of Tryz.func28 (by kernel_rfl) rfl) (HAL.out W hB.out.size (R9U.out.below hB.out))),
                    by
                      intro a W hA hB hd
                      obtain ⟨q0, -⟩ := hd
                      have h110 : a.eval (.tmp 110) = .bool false := q0
                      have hB := Lib.hid hB
                      have p1 : a.eval (.tmp 1) = .slice ab nb cb := hA.at 1 (by kernel_rfl)
                      have p5 : a.eval (.tmp 5) = .bool true := hA.at 5 (by kernel_rfl)
                      have p9 : a.eval (.tmp 9) = .pointer (some ⟨B8 + 1, 0, none⟩) := hA.at 9 (by kernel_rfl)
                      exact step2_of (step_pure ((wanted_guard rfl 110 rfl h110).trans rfl) (.pointer (some ⟨B8 + 1, 4, none⟩)) (by simp [execOp, go_sem, tm p9]) rfl),
                    by
                      intro a W hA hB hd
                      obtain ⟨q0, q1, -⟩ := hd
                      have h114 : a.eval (.tmp 114) = .pointer (some ⟨B8 + 1, 4, none⟩) := q0
                      have h110 : a.eval (.tmp 110) = .bool false := q1
                      have hB := Lib.hid hB
                      have p1 : a.eval (.tmp 1) = .slice ab nb cb := hA.at 1 (by kernel_rfl)
                      have p5 : a.eval (.tmp 5) = .bool true := hA.at 5 (by kernel_rfl)
                      have p9 : a.eval (.tmp 9) = .pointer (some ⟨B8 + 1, 0, none⟩) := hA.at 9 (by kernel_rfl)
                      have t9 := HT9U.out.below hB.out HT9U.out.lt
                      exact step2_of (step_pure ((wanted_guard rfl 110 rfl h110).trans rfl) (.slice b9 m9 m9) (by simp [execOp, go_sem, tm h114, t9.c4]) rfl),
                    by
                      intro a W hA hB hd
                      obtain ⟨q0, q1, q2, q3, -⟩ := hd
                      have h113 : (RowF wr.heap.size bv9) (a.eval (.tmp 113)) W := q0
                      have h115 : a.eval (.tmp 115) = .slice b9 m9 m9 := q1
                      have h110 : a.eval (.tmp 110) = .bool false := q3
                      have hB := Lib.hid hB
                      have p1 : a.eval (.tmp 1) = .slice ab nb cb := hA.at 1 (by kernel_rfl)
                      have p5 : a.eval (.tmp 5) = .bool true := hA.at 5 (by kernel_rfl)
                      have p9 : a.eval (.tmp 9) = .pointer (some ⟨B8 + 1, 0, none⟩) := hA.at 9 (by kernel_rfl)
                      obtain ⟨v', w', hr, h1, h2⟩ := rowF_append h113 (Q9U.out.below hB.out) hB.out.size HL8.out
                      exact step2_append ((wanted_guard rfl 110 rfl h110).trans rfl) (.tmp 113) (.tmp 115) 25 25 rfl rfl h115 hr h2 h1,
                    by
                      intro a W hA hB hd
                      obtain ⟨q0, -⟩ := hd
                      have h110 : a.eval (.tmp 110) = .bool false := q0
                      have hB := Lib.hid hB
                      have p1 : a.eval (.tmp 1) = .slice ab nb cb := hA.at 1 (by kernel_rfl)
                      have p5 : a.eval (.tmp 5) = .bool true := hA.at 5 (by kernel_rfl)
                      have p9 : a.eval (.tmp 9) = .pointer (some ⟨B8 + 1, 0, none⟩) := hA.at 9 (by kernel_rfl)
                      exact step2_of (step_pure ((wanted_guard rfl 110 rfl h110).trans rfl) (.slice ab nb cb) (by simp [execOp, go_sem, tm p1]) rfl),
                    by
                      intro a W hA hB hd
                      obtain ⟨q0, q1, q2, q3, -⟩ := hd
                      have h116 : (RowF wr.heap.size (bv9 ++ rest9)) (a.eval (.tmp 116)) W := q0
                      have h117 : a.eval (.tmp 117) = .slice ab nb cb := q1
                      have h110 : a.eval (.tmp 110) = .bool false := q3
                      have hB := Lib.hid hB
                      have p1 : a.eval (.tmp 1) = .slice ab nb cb := hA.at 1 (by kernel_rfl)
                      have p5 : a.eval (.tmp 5) = .bool true := hA.at 5 (by kernel_rfl)
                      have p9 : a.eval (.tmp 9) = .pointer (some ⟨B8 + 1, 0, none⟩) := hA.at 9 (by kernel_rfl)
                      obtain ⟨g8, c8, e116, r116⟩ := rowF_rd h116 HL9.out
                      exact step2_of (step_calls ((wanted_guard rfl 110 rfl h110).trans rfl) rfl (vals := #[.slice (some ⟨g8, 0, none⟩) (bv9 ++ rest9).length c8, .slice ab nb cb]) (by simp [e116, h117]) (enters_of Tryz.func18 (by kernel_rfl) rfl) ((same_any r116 (HRBU.out.below hB.out)).mono fun e w' ⟨he, hb⟩ => ⟨_, he, by rw [sameB_true HBK.out]; rfl, hb⟩)),
                    by
                      intro a W hA hB hd
                      obtain ⟨q0, q1, -⟩ := hd
                      have h110 : a.eval (.tmp 110) = .bool false := q0
                      have h118 : a.eval (.tmp 118) = .bool true := q1
                      have hB := Lib.hid hB
                      have p1 : a.eval (.tmp 1) = .slice ab nb cb := hA.at 1 (by kernel_rfl)
                      have p5 : a.eval (.tmp 5) = .bool true := hA.at 5 (by kernel_rfl)
                      have p9 : a.eval (.tmp 9) = .pointer (some ⟨B8 + 1, 0, none⟩) := hA.at 9 (by kernel_rfl)
                      exact step2_of (step_pure (wanted_none rfl) (.bool true) (by simp [execOp, go_sem, tm h110, tm h118]) rfl),
                    by
                      intro a W hA hB hd
                      obtain ⟨q0, q1, -⟩ := hd
                      have h119 : a.eval (.tmp 119) = .bool true := q0
                      have h118 : a.eval (.tmp 118) = .bool true := q1
                      have hB := Lib.hid hB
                      have p1 : a.eval (.tmp 1) = .slice ab nb cb := hA.at 1 (by kernel_rfl)
                      have p5 : a.eval (.tmp 5) = .bool true := hA.at 5 (by kernel_rfl)
                      have p9 : a.eval (.tmp 9) = .pointer (some ⟨B8 + 1, 0, none⟩) := hA.at 9 (by kernel_rfl)
                      exact step2_of (step_pure (wanted_none rfl) (.bool true) (by simp [execOp, go_sem, tm h119]) rfl),
                    by
                      intro a W hA hB hd
                      obtain ⟨q0, -⟩ := hd
                      have h120 : a.eval (.tmp 120) = .bool true := q0
                      have hB := Lib.hid hB
                      have p1 : a.eval (.tmp 1) = .slice ab nb cb := hA.at 1 (by kernel_rfl)
                      have p5 : a.eval (.tmp 5) = .bool true := hA.at 5 (by kernel_rfl)
                      have p9 : a.eval (.tmp 9) = .pointer (some ⟨B8 + 1, 0, none⟩) := hA.at 9 (by kernel_rfl)
                      exact step2_of (step_pure ((wanted_guard rfl 120 rfl h120).trans rfl) (.bool true) (by simp [execOp, go_sem, tm p5]) rfl),
                    by
                      intro a W hA hB hd
                      obtain ⟨q0, q1, -⟩ := hd
                      have h120 : a.eval (.tmp 120) = .bool true := q0
                      have h121 : a.eval (.tmp 121) = .bool true := q1
                      have hB := Lib.hid hB
                      have p1 : a.eval (.tmp 1) = .slice ab nb cb := hA.at 1 (by kernel_rfl)
                      have p5 : a.eval (.tmp 5) = .bool true := hA.at 5 (by kernel_rfl)
                      have p9 : a.eval (.tmp 9) = .pointer (some ⟨B8 + 1, 0, none⟩) := hA.at 9 (by kernel_rfl)
                      exact step2_of (step_pure (wanted_none rfl) (.bool true) (by simp [execOp, go_sem, tm h120, tm h121]) rfl),
                    by
                      intro a W hA hB hd
                      obtain ⟨q0, -⟩ := hd
                      have h122 : a.eval (.tmp 122) = .bool true := q0
                      have hB := Lib.hid hB
                      have p1 : a.eval (.tmp 1) = .slice ab nb cb := hA.at 1 (by kernel_rfl)
                      have p5 : a.eval (.tmp 5) = .bool true := hA.at 5 (by kernel_rfl)
                      have p9 : a.eval (.tmp 9) = .pointer (some ⟨B8 + 1, 0, none⟩) := hA.at 9 (by kernel_rfl)
                      exact step2_of (step_pure (wanted_none rfl) (.bool true) (by simp [execOp, go_sem, tm h122]) rfl), trivial⟩
                · intro ax W hA hB hE
                  have h4 : ax.eval (.tmp 4) = .bool true := hE.2.2.2.2.2.2.2.2.2.2.2.2.2.2.2.2.1
                  have hp := hA.puts [107, 108, 109, 110, 111, 112, 113, 114, 115, 116, 117, 118, 119, 120, 121, 122, 4] (by kernel_rfl)
                  clear hA hE
                  simp only [putAll, h4] at hp
                  clear h4
                  generalize ax.eval = ev at hp
                  subst hp
                  have HBX := Lib.hid (HBW.out.trans (hB.mono HBW.out.size))
                  clear hB
                  simp [Act.put]
                  go_wp2
                  go_ret
                  exact ⟨rfl, HBX.out⟩
              · clear hnb2
                refine wp_region_writes (base := wr.heap.size) (us := [none, none, none, none, none, none, none, none, none, none, none, none, none, none, none, none, none]) (ws := []) (bs := [true, true, true, true, true, true, true, true, true, true, true, true, true, true, true, true, true]) (fs := [Fact.is (.pointer (some ⟨B8 + 1, 5, none⟩)), Fact.is (.int .i64 z9), Fact.is (.bool true), Fact.is (.bool true), Fact.is (undef), Fact.is (undef), Fact.is (undef), Fact.is (undef), Fact.is (undef), Fact.is (undef), Fact.is (undef), Fact.is (undef), Fact.is (.bool true), Fact.is (.bool true), Fact.is (.bool true), Fact.is (.bool true), Fact.is (.bool true)]) 8 (by kernel_rfl) (by kernel_rfl) (by kernel_rfl) (by kernel_rfl) (Nat.le_refl _) ⟨Fact.is_stable _, Fact.is_stable _, Fact.is_stable _, Fact.is_stable _, Fact.is_stable _, Fact.is_stable _, Fact.is_stable _, Fact.is_stable _, Fact.is_stable _, Fact.is_stable _, Fact.is_stable _, Fact.is_stable _, Fact.is_stable _, Fact.is_stable _, Fact.is_stable _, Fact.is_stable _, Fact.is_stable _, trivial⟩ ⟨(fun _ => Fact.is_firm _ _), (fun _ => Fact.is_firm _ _), (fun _ => Fact.is_firm _ _), (fun _ => Fact.is_firm _ _), (fun _ => Fact.is_firm _ _), (fun _ => Fact.is_firm _ _), (fun _ => Fact.is_firm _ _), (fun _ => Fact.is_firm _ _), (fun _ => Fact.is_firm _ _), (fun _ => Fact.is_firm _ _), (fun _ => Fact.is_firm _ _), (fun _ => Fact.is_firm _ _), (fun _ => Fact.is_firm _ _), (fun _ => Fact.is_firm _ _), (fun _ => Fact.is_firm _ _), (fun _ => Fact.is_firm _ _), (fun _ => Fact.is_firm _ _), trivial⟩ ?_ ?_
                · exact ⟨by
                      intro a W hA hB hd
                      have hB := Lib.hid hB
                      have p5 : a.eval (.tmp 5) = .bool true := hA.at 5 (by kernel_rfl)
                      have p9 : a.eval (.tmp 9) = .pointer (some ⟨B8 + 1, 0, none⟩) := hA.at 9 (by kernel_rfl)
                      exact step2_of (step_pure (wanted_none rfl) (.pointer (some ⟨B8 + 1, 5, none⟩)) (by simp [execOp, go_sem, tm p9]) rfl),
                    by
                      intro a W hA hB hd
                      obtain ⟨q0, -⟩ := hd
                      have h107 : a.eval (.tmp 107) = .pointer (some ⟨B8 + 1, 5, none⟩) := q0
                      have hB := Lib.hid hB
                      have p5 : a.eval (.tmp 5) = .bool true := hA.at 5 (by kernel_rfl)
                      have p9 : a.eval (.tmp 9) = .pointer (some ⟨B8 + 1, 0, none⟩) := hA.at 9 (by kernel_rfl)
                      have t9 := HT9U.out.below hB.out HT9U.out.lt
                      exact step2_of (step_pure (wanted_none rfl) (.int .i64 z9) (by simp [execOp, go_sem, tm h107, t9.c5]) rfl),
                    by
                      intro a W hA hB hd
                      obtain ⟨q0, -⟩ := hd
                      have h108 : a.eval (.tmp 108) = .int .i64 z9 := q0
                      have hB := Lib.hid hB
                      have p5 : a.eval (.tmp 5) = .bool true := hA.at 5 (by kernel_rfl)
                      have p9 : a.eval (.tmp 9) = .pointer (some ⟨B8 + 1, 0, none⟩) := hA.at 9 (by kernel_rfl)
                      exact step2_of (step_pure (wanted_none rfl) (.bool true) (by simp [execOp, go_sem, tm h108, hz]) rfl),
                    by
                      intro a W hA hB hd
                      obtain ⟨q0, -⟩ := hd
                      have h109 : a.eval (.tmp 109) = .bool true := q0
                      have hB := Lib.hid hB
                      have p5 : a.eval (.tmp 5) = .bool true := hA.at 5 (by kernel_rfl)
                      have p9 : a.eval (.tmp 9) = .pointer (some ⟨B8 + 1, 0, none⟩) := hA.at 9 (by kernel_rfl)
                      exact step2_of (step_pure (wanted_none rfl) (.bool true) (by simp [execOp, go_sem, tm h109]) rfl),
                    by
                      intro a W hA hB hd
                      obtain ⟨q0, -⟩ := hd
                      have h110 : a.eval (.tmp 110) = .bool true := q0
                      have hB := Lib.hid hB
                      have p5 : a.eval (.tmp 5) = .bool true := hA.at 5 (by kernel_rfl)
                      have p9 : a.eval (.tmp 9) = .pointer (some ⟨B8 + 1, 0, none⟩) := hA.at 9 (by kernel_rfl)
                      exact step2_of (step_not ((wanted_guard rfl 110 rfl h110).trans rfl) rfl),
                    by
                      intro a W hA hB hd
                      obtain ⟨q0, q1, -⟩ := hd
                      have h111 : a.eval (.tmp 111) = undef := q0
                      have h110 : a.eval (.tmp 110) = .bool true := q1
                      have hB := Lib.hid hB
                      have p5 : a.eval (.tmp 5) = .bool true := hA.at 5 (by kernel_rfl)
                      have p9 : a.eval (.tmp 9) = .pointer (some ⟨B8 + 1, 0, none⟩) := hA.at 9 (by kernel_rfl)
                      exact step2_of (step_not ((wanted_guard rfl 110 rfl h110).trans rfl) rfl),
                    by
                      intro a W hA hB hd
                      obtain ⟨q0, q1, q2, -⟩ := hd
                      have h112 : a.eval (.tmp 112) = undef := q0
                      have h110 : a.eval (.tmp 110) = .bool true := q1
                      have hB := Lib.hid hB
                      have p5 : a.eval (.tmp 5) = .bool true := hA.at 5 (by kernel_rfl)
                      have p9 : a.eval (.tmp 9) = .pointer (some ⟨B8 + 1, 0, none⟩) := hA.at 9 (by kernel_rfl)
                      exact step2_of (step_not ((wanted_guard rfl 110 rfl h110).trans rfl) rfl),
                    by
                      intro a W hA hB hd
                      obtain ⟨q0, -⟩ := hd
                      have h110 : a.eval (.tmp 110) = .bool true := q0
                      have hB := Lib.hid hB
                      have p5 : a.eval (.tmp 5) = .bool true := hA.at 5 (by kernel_rfl)
                      have p9 : a.eval (.tmp 9) = .pointer (some ⟨B8 + 1, 0, none⟩) := hA.at 9 (by kernel_rfl)
                      exact step2_of (step_not ((wanted_guard rfl 110 rfl h110).trans rfl) rfl),
                    by
                      intro a W hA hB hd
                      obtain ⟨q0, q1, -⟩ := hd
                      have h114 : a.eval (.tmp 114) = undef := q0
                      have h110 : a.eval (.tmp 110) = .bool true := q1
                      have hB := Lib.hid hB
                      have p5 : a.eval (.tmp 5) = .bool true := hA.at 5 (by kernel_rfl)
                      have p9 : a.eval (.tmp 9) = .pointer (some ⟨B8 + 1, 0, none⟩) := hA.at 9 (by kernel_rfl)
                      exact step2_of (step_not ((wanted_guard rfl 110 rfl h110).trans rfl) rfl),
                    by
                      intro a W hA hB hd
                      obtain ⟨q0, q1, q2, q3, -⟩ := hd
                      have h113 : a.eval (.tmp 113) = undef := q0
                      have h115 : a.eval (.tmp 115) = undef := q1
                      have h110 : a.eval (.tmp 110) = .bool true := q3
                      have hB := Lib.hid hB
                      have p5 : a.eval (.tmp 5) = .bool true := hA.at 5 (by kernel_rfl)
                      have p9 : a.eval (.tmp 9) = .pointer (some ⟨B8 + 1, 0, none⟩) := hA.at 9 (by kernel_rfl)
                      exact step2_of (step_not ((wanted_guard rfl 110 rfl h110).trans rfl) rfl),
                    by
                      intro a W hA hB hd
                      obtain ⟨q0, -⟩ := hd
                      have h110 : a.eval (.tmp 110) = .bool true := q0
                      have hB := Lib.hid hB
                      have p5 : a.eval (.tmp 5) = .bool true := hA.at 5 (by kernel_rfl)
                      have p9 : a.eval (.tmp 9) = .pointer (some ⟨B8 + 1, 0, none⟩) := hA.at 9 (by kernel_rfl)
                      exact step2_of (step_not ((wanted_guard rfl 110 rfl h110).trans rfl) rfl),
                    by
                      intro a W hA hB hd
                      obtain ⟨q0, q1, q2, q3, -⟩ := hd
                      have h116 : a.eval (.tmp 116) = undef := q0
                      have h117 : a.eval (.tmp 117) = undef := q1
                      have h110 : a.eval (.tmp 110) = .bool true := q3
                      have hB := Lib.hid hB
                      have p5 : a.eval (.tmp 5) = .bool true := hA.at 5 (by kernel_rfl)
                      have p9 : a.eval (.tmp 9) = .pointer (some ⟨B8 + 1, 0, none⟩) := hA.at 9 (by kernel_rfl)
                      exact step2_of (step_not ((wanted_guard rfl 110 rfl h110).trans rfl) rfl),
                    by
                      intro a W hA hB hd
                      obtain ⟨q0, q1, -⟩ := hd
                      have h110 : a.eval (.tmp 110) = .bool true := q0
                      have h118 : a.eval (.tmp 118) = undef := q1
                      have hB := Lib.hid hB
                      have p5 : a.eval (.tmp 5) = .bool true := hA.at 5 (by kernel_rfl)
                      have p9 : a.eval (.tmp 9) = .pointer (some ⟨B8 + 1, 0, none⟩) := hA.at 9 (by kernel_rfl)
                      exact step2_of (step_pure (wanted_none rfl) (.bool true) (by simp [execOp, go_sem, tm h110]) rfl),
                    by
                      intro a W hA hB hd
                      obtain ⟨q0, q1, -⟩ := hd
                      have h119 : a.eval (.tmp 119) = .bool true := q0
                      have h118 : a.eval (.tmp 118) = undef := q1
                      have hB := Lib.hid hB
                      have p5 : a.eval (.tmp 5) = .bool true := hA.at 5 (by kernel_rfl)
                      have p9 : a.eval (.tmp 9) = .pointer (some ⟨B8 + 1, 0, none⟩) := hA.at 9 (by kernel_rfl)
                      exact step2_of (step_pure (wanted_none rfl) (.bool true) (by simp [execOp, go_sem, tm h119]) rfl),
                    by
                      intro a W hA hB hd
                      obtain ⟨q0, -⟩ := hd
                      have h120 : a.eval (.tmp 120) = .bool true := q0
                      have hB := Lib.hid hB
                      have p5 : a.eval (.tmp 5) = .bool true := hA.at 5 (by kernel_rfl)
                      have p9 : a.eval (.tmp 9) = .pointer (some ⟨B8 + 1, 0, none⟩) := hA.at 9 (by kernel_rfl)
                      exact step2_of (step_pure ((wanted_guard rfl 120 rfl h120).trans rfl) (.bool true) (by simp [execOp, go_sem, tm p5]) rfl),
                    by
                      intro a W hA hB hd
                      obtain ⟨q0, q1, -⟩ := hd
                      have h120 : a.eval (.tmp 120) = .bool true := q0
                      have h121 : a.eval (.tmp 121) = .bool true := q1
                      have hB := Lib.hid hB
                      have p5 : a.eval (.tmp 5) = .bool true := hA.at 5 (by kernel_rfl)
                      have p9 : a.eval (.tmp 9) = .pointer (some ⟨B8 + 1, 0, none⟩) := hA.at 9 (by kernel_rfl)
                      exact step2_of (step_pure (wanted_none rfl) (.bool true) (by simp [execOp, go_sem, tm h120, tm h121]) rfl),
                    by
                      intro a W hA hB hd
                      obtain ⟨q0, -⟩ := hd
                      have h122 : a.eval (.tmp 122) = .bool true := q0
                      have hB := Lib.hid hB
                      have p5 : a.eval (.tmp 5) = .bool true := hA.at 5 (by kernel_rfl)
                      have p9 : a.eval (.tmp 9) = .pointer (some ⟨B8 + 1, 0, none⟩) := hA.at 9 (by kernel_rfl)
                      exact step2_of (step_pure (wanted_none rfl) (.bool true) (by simp [execOp, go_sem, tm h122]) rfl), trivial⟩
                · intro ax W hA hB hE
                  have h4 : ax.eval (.tmp 4) = .bool true := hE.2.2.2.2.2.2.2.2.2.2.2.2.2.2.2.2.1
                  have hp := hA.puts [107, 108, 109, 110, 111, 112, 113, 114, 115, 116, 117, 118, 119, 120, 121, 122, 4] (by kernel_rfl)
                  clear hA hE
                  simp only [putAll, h4] at hp
                  clear h4
                  generalize ax.eval = ev at hp
                  subst hp
                  have HBX := Lib.hid (HBW.out.trans (hB.mono HBW.out.size))
                  clear hB
                  simp [Act.put]
                  go_wp2
                  go_ret
                  exact ⟨rfl, HBX.out⟩

end Go.Proofs.YtnhffkgbnlnliaaGreatDoor.valueBytes
