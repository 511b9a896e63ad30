/-
  A proper beginning of a value's byte form, or of a list's, is too short: for all lists of at most 60 values, none with a text of more than 100 bytes, and all numbers, the law returns true and changes nothing; for all other lists, too.
-/
import Derived.Test.YtnhffkgbnlnliaaGreatDoorVlEx
import Derived.Test.YtnhffkgbnlnliaaGreatDoorVlShort
import Derived.Test.YtnhffkgbnlnliaaGreatDoorVlRWide
import Derived.Test.YtnhffkgbnlnliaaGreatDoorVlWrap
import Derived.Test.YtnhffkgbnlnliaaGreatDoorVlAppL
import Derived.Test.YtnhffkgbnlnliaaGreatDoorVlByMath
import Derived.Deep.DeepCutAuto
import Derived.BigRegion
namespace Go.Proofs.YtnhffkgbnlnliaaGreatDoor.valuePrefixes
open Go Go.ChangeShapes Go.WideShapes Go.ChangeAt Go.RowKit Go.Shelf
open Go.Proofs.YtnhffkgbnlnliaaGreatDoor

set_option maxRecDepth 100000 in
set_option maxHeartbeats 8000000 in
theorem walk {K : Nat → Prop} {a : Option Addr} {la ca : Nat} {x : List Vl} {w : World} (hX : RdW K w a la ca x) (fX : ∀ v ∈ x, v.Fit) (n : Nat) (hn : n < 65536) (hV : De.Vars w) :
    Calls Tryz.prog 5 #[.slice a la ca, .int .u16 n] w fun e w' => e = .returned (.bool true) ∧ Below w.heap.size w w' := by
  obtain ⟨iV, hi, hz0, hz1, hz2⟩ := info_partsV
  have HX := Lib.hid hX
  have FX := Lib.hid fX
  have HV := Lib.hid hV
  have hwn : IntKind.i64.wrap (n : Int) = n := by rw [IntKind.wrap_i64]; omega
  clear hX fX hV
  have HEQ : Hid (∀ W : World, Calls Tryz.prog 21 #[.agg #[.int .i64 0, .int .i64 0, .string ⟨#[]⟩, .slice none 0 0, .slice none 0 0, .int .i64 7], .agg #[.int .i64 0, .int .i64 0, .string ⟨#[]⟩, .slice none 0 0, .slice none 0 0, .int .i64 7]] W fun e w' => e = .returned (.bool true) ∧ Below W.heap.size W w') :=
    fun W => equalG_true (K1 := fun _ => True) (K2 := fun _ => True) (K3 := fun _ => True) (K4 := fun _ => True) Vl.null 7 (RdV.empty (a := none)) (Rd.empty (a := none)) (RdV.empty (a := none)) (Rd.empty (a := none)) (fun v hv => by cases hv)
  go_enter Tryz.func5, Tryz.ntmps5
  go_wp2_with fail
  refine (examples6_any w HV.out).mono ?_
  rintro e w1 ⟨rfl, hb⟩
  have H1 := Lib.hid (HX.out.below hb)
  have HB1 := Lib.hid hb
  clear hb HV
  go_wp2_with fail
  refine (short_any H1.out FX.out).mono ?_
  rintro e wq ⟨rfl, rfl⟩
  cases hsx : shortB x with
  | false =>
    go_wp2_with fail
    go_ret
    exact ⟨rfl, HB1.out⟩
  | true =>
    have SX := Lib.hid (short_parts hsx)
    have R0 := Lib.hid (HX.out.small (by have := SX.out.1; omega))
    have LA : Hid (la = x.length) := HX.out.hl
    have hla : la ≤ 60 := by rw [LA.out]; exact SX.out.1
    have HOK : Hid (∀ v ∈ x, v.Ok) := fun v hv => ⟨(FX.out v hv).k, (FX.out v hv).i, SX.out.2 v hv⟩
    have hfit := R0.out.fit
    clear hsx HX H1 FX SX
    go_wp2_with fail
    have hown : _ := World.ownsRow_made wq (base := w.heap.size) (e := 29) (size := 3) #[] 0 HB1.out.size (by decide) rfl
    have HI0 : Hid ((wq.alloc (.cells #[] 29)).ownsRow w.heap.size 29 3 (.slice (some ⟨wq.heap.size, 0, none⟩) 0 0) (wides (x.take 0)).length (cellsV (wides (x.take 0))) ∧ Below w.heap.size w (wq.alloc (.cells #[] 29))) := And.intro hown (HB1.out.alloc HB1.out.size _)
    clear hown HB1
    go_loopw [6, 7] (fun wv i wr => ∃ k : Nat, k ≤ la ∧ i = .int .i64 k ∧ Hid (wr.ownsRow w.heap.size 29 3 wv (wides (x.take k)).length (cellsV (wides (x.take k))) ∧ Below w.heap.size w wr)) (fun _ i _ => la - (intOf i).toNat)
    case atStart => exact ⟨0, Nat.zero_le _, rfl, HI0⟩
    case round =>
      obtain ⟨k, hk, rfl, HI⟩ := hrel
      by_cases hlt : k < la
      · obtain ⟨b, off, rfl, _, hbl, hc⟩ := R0.out.cells (by omega)
        obtain ⟨c0, c1, c2⟩ := hc k hlt
        have hkx : k < x.length := by rw [← LA.out]; exact hlt
        have HST := Lib.hid (wides_step hkx)
        have HOP : Hid ((x[k]?.getD Vl.null).Ok) := Lib.hid (ok_at HOK.out hkx)
        have HLN := Lib.hid (wides_len (x.take k))
        have hlk : (x.take k).length ≤ 60 := by rw [List.length_take]; omega
        clear hc hkx
        generalize x[k]?.getD Vl.null = p at *
        obtain ⟨pk, pi, ps⟩ := p
        dsimp only at c0 c1 c2
        have C0 := Lib.hid c0
        have C1 := Lib.hid c1
        have C2 := Lib.hid c2
        clear c0 c1 c2
        have HWD : Hid (∀ W, Calls Tryz.prog 11 #[.agg #[.int .i64 pk, .int .i64 pi, .string (bsOf ps)]] W fun e w' => e = .returned (.bool (widV ⟨pk, pi, ps⟩)) ∧ Below W.heap.size W w') := fun W => rwide_any ⟨pk, pi, ps⟩ HOP.out W
        have hkI : (k : Int) < (la : Int) := by omega
        have c0 := (HI.out.2.cell (p := ⟨b, off + k * 3, none⟩) hbl).trans C0.out
        have c1 := (HI.out.2.cell (p := ⟨b, off + k * 3 + 1, none⟩) hbl).trans C1.out
        have c2 := (HI.out.2.cell (p := ⟨b, off + k * 3 + 2, none⟩) hbl).trans C2.out
        go_wp2_with fail
        refine (HWD.out _).mono ?_
        rintro e w2 ⟨rfl, hb2⟩
        have HB2 : Hid (Below w.heap.size w w2) := HI.out.2.trans (hb2.mono HI.out.2.size)
        have HO2 : Hid (w2.ownsRow w.heap.size 29 3 u6 (wides (x.take k)).length (cellsV (wides (x.take k)))) := row_below HI.out.1 hb2
        clear hb2 HI c0 c1 c2
        cases hwp : widV ⟨pk, pi, ps⟩ with
        | false =>
          have HS2 : Hid (wides (x.take (k + 1)) = wides (x.take k)) := by show _ = _; rw [HST.out, hwp]; rfl
          clear hwp
          go_wp2_with fail
          go_roundw
          case rel => exact ⟨k + 1, by omega, by go_num, by rw [HS2.out]; exact HO2.out, HB2.out⟩
          case measure => simp [intOf]; omega
        | true =>
          have HS2 : Hid (wides (x.take (k + 1)) = wides (x.take k) ++ [⟨pk, pi, ps⟩]) := by show _ = _; rw [HST.out, hwp]; rfl
          have HWP := Lib.hid hwp
          clear hwp
          obtain ⟨v3, w3, hr3, hO3, hb3⟩ := append_val (P := Tryz.prog) w2 w.heap.size 22 22 29 29 iV _ Tryz.underlying22 hi hz0 hz1 hz2 rfl u6 (wides (x.take k)).length (wides (x.take k)) HO2.out ⟨pk, pi, ps⟩ (by have := HLN.out; omega) HB2.out.size
          have HR3 := Lib.hid hr3
          have HO3 : Hid (w3.ownsRow w.heap.size 29 3 v3 (wides (x.take (k + 1))).length (cellsV (wides (x.take (k + 1))))) := by
            rw [HS2.out, List.length_append]; exact hO3
          have HB3 : Hid (Below w.heap.size w w3) := HB2.out.trans hb3
          clear hr3 hO3 hb3 HO2
          have c0 := (HB2.out.cell (p := ⟨b, off + k * 3, none⟩) hbl).trans C0.out
          have c1 := (HB2.out.cell (p := ⟨b, off + k * 3 + 1, none⟩) hbl).trans C1.out
          have c2 := (HB2.out.cell (p := ⟨b, off + k * 3 + 2, none⟩) hbl).trans C2.out
          have d0 := (HB3.out.cell (p := ⟨b, off + k * 3, none⟩) hbl).trans C0.out
          have d1 := (HB3.out.cell (p := ⟨b, off + k * 3 + 1, none⟩) hbl).trans C1.out
          have d2 := (HB3.out.cell (p := ⟨b, off + k * 3 + 2, none⟩) hbl).trans C2.out
          go_wp2_with (at_builtin; refine wpList_append_want (o := ⟨some 36, _, _, _, _, _⟩) _ rfl _ _ _ _ rfl _ _ rfl rfl _ _ HR3.out ?_)
          refine (append_any (K := fun _ => True) ⟨pk, pi, ps⟩ HOP.out HWP.out (Rd.empty (a := none)) (by decide)).mono ?_
          clear c0 c1 c2 d0 d1 d2 HR3 HB2 HWD
          rintro e w4 ⟨g, cb, rfl, hcb, hrow, hb4⟩
          rw [List.nil_append] at hcb hrow ⊢
          have hbl2 := bytes_len HWP.out HOP.out.i
          have HSH := Lib.hid (rd_short HOP.out.i HWP.out)
          have HOB := Lib.hid (bytes_oct HWP.out)
          generalize bytesV ⟨pk, pi, ps⟩ = bv at *
          obtain ⟨lb, hlb⟩ : ∃ lb, bv.length = lb := ⟨_, rfl⟩
          have HRB : Hid (Rd (fun b => b < w4.heap.size) w4 .u8 (some ⟨g, 0, none⟩) lb cb bv) := by
            rw [hlb] at hrow hcb
            exact (Rd.of_row hlb.symm hcb (by omega) hrow).mono fun b h _ => h
          rw [hlb] at hbl2 hcb HSH ⊢
          obtain ⟨m, hm⟩ : ∃ m, n % lb = m := ⟨_, rfl⟩
          have hmlt : m < lb := by rw [← hm]; exact Nat.mod_lt _ (by omega)
          have hmod : (n : Int).tmod (lb : Int) = (m : Int) := by rw [Int.tmod_eq_emod_of_nonneg (by omega)]; omega
          have hlb0 : ¬ lb = 0 := by omega
          have hlbI : ((lb : Int) == 0) = false := by simp; omega
          have hlbJ : ¬ (lb : Int) = 0 := by omega
          have hmcp : m ≤ cb := by omega
          have HB4 : Hid (Below w.heap.size w w4) := HB3.out.trans (hb4.mono HB3.out.size)
          have HO4 := Lib.hid (row_below HO3.out hb4)
          have HML := Lib.hid hmlt
          clear hm hlb hrow hb4 HB3 HO3 hbl2 hmlt
          go_wp2_with fail
          refine (readW_any (HOB.out.take m) (Rd.first' HRB.out m (Nat.le_of_lt HML.out)) (fun b hb => hb)).mono ?_
          have hs7 := HSH.out m HML.out
          generalize rdV (bv.take m) = q at *
          rintro e w5 ⟨hb5, hp⟩
          rcases hp with ⟨hz, _⟩ | ⟨_, he⟩
          · rw [hs7] at hz; exact absurd hz (by decide)
          · rw [hs7] at he
            subst he
            have HB5 : Hid (Below w.heap.size w w5) := HB4.out.trans (hb5.mono HB4.out.size)
            have HO5 := Lib.hid (row_below HO4.out hb5)
            clear hb5 HB4 HO4 hs7 HSH HRB
            unfold encG
            dsimp only [Vl.null]
            rw [show bsOf [] = (⟨#[]⟩ : ByteArray) from rfl]
            go_wp2_with fail
            refine (HEQ.out _).mono ?_
            rintro e w6 ⟨rfl, hb6⟩
            have HB6 : Hid (Below w.heap.size w w6) := HB5.out.trans (hb6.mono HB5.out.size)
            have HO6 := Lib.hid (row_below HO5.out hb6)
            clear hb6 HB5 HO5
            go_wp2_with fail
            go_roundw
            case rel => exact ⟨k + 1, by omega, by go_num, HO6.out, HB6.out⟩
            case measure => simp [intOf]; omega
      · obtain rfl : k = la := by omega
        have HWX : Hid (Wides (wides (x.take k))) := wides_wide fun v hv => HOK.out v (List.mem_of_mem_take hv)
        have hll := wides_len (x.take k)
        have hlk : (x.take k).length ≤ 60 := by rw [List.length_take]; omega
        generalize wides (x.take k) = us at *
        obtain ⟨lw, hlw⟩ : ∃ lw, us.length = lw := ⟨_, rfl⟩
        rw [hlw] at HI hll
        obtain ⟨aw, cw, rfl, hRW⟩ := RdV.of_row HI.out.1 (by omega)
        have HB1 := Lib.hid HI.out.2
        have HRW := Lib.hid hRW
        have hlw60 : lw ≤ 60 := by omega
        have hlen := list_len HWX.out (by omega)
        have HSH := Lib.hid (rdL_short HWX.out (by omega))
        have HOB := Lib.hid (list_oct HWX.out)
        clear hRW hll hlk HI hlw
        go_wp2_with fail
        refine (appendList_any HWX.out (K := fun _ => True) (Rd.empty (a := none)) HRW.out (by decide) (by omega)).mono ?_
        rintro e w4 ⟨g, cb, rfl, hcb, hrow, hb4⟩
        rw [List.nil_append] at hcb hrow ⊢
        generalize listV us = bv at *
        obtain ⟨lb, hlb⟩ : ∃ lb, bv.length = lb := ⟨_, rfl⟩
        have HRB : Hid (Rd (fun b => b < w4.heap.size) w4 .u8 (some ⟨g, 0, none⟩) lb cb bv) := by
          rw [hlb] at hrow hcb hlen
          exact (Rd.of_row hlb.symm hcb (by have := HRW.out.hl; omega) hrow).mono fun b h _ => h
        rw [hlb] at hlen hcb HSH ⊢
        obtain ⟨m, hm⟩ : ∃ m, n % lb = m := ⟨_, rfl⟩
        have hmlt : m < lb := by rw [← hm]; exact Nat.mod_lt _ (by omega)
        have hmod : (n : Int).tmod (lb : Int) = (m : Int) := by rw [Int.tmod_eq_emod_of_nonneg (by omega)]; omega
        have hlb0 : ¬ lb = 0 := by omega
        have hlbI : ((lb : Int) == 0) = false := by simp; omega
        have hlbJ : ¬ (lb : Int) = 0 := by omega
        have hlbK : (0 : Int) < (lb : Int) := by omega
        have hmcp : m ≤ cb := by omega
        have HB4 : Hid (Below w.heap.size w w4) := HB1.out.trans (hb4.mono HB1.out.size)
        have HML := Lib.hid hmlt
        clear hm hlb hrow hb4 HB1 hlen hmlt HRW
        go_wp2_with fail
        refine (readListW_any (HOB.out.take m) (Rd.first' HRB.out m (Nat.le_of_lt HML.out)) (fun b hb => hb)).mono ?_
        have hs7 := HSH.out m HML.out
        generalize rdL (bv.take m) = q at *
        rintro e w5 ⟨hb5, hp⟩
        rcases hp with ⟨hz, _⟩ | ⟨_, he⟩
        · rw [hs7] at hz; exact absurd hz (by decide)
        · rw [hs7] at he
          subst he
          have HB5 : Hid (Below w.heap.size w w5) := HB4.out.trans (hb5.mono HB4.out.size)
          clear hb5 HB4 hs7 HSH HRB
          unfold encG
          dsimp only [Vl.null]
          rw [show bsOf [] = (⟨#[]⟩ : ByteArray) from rfl]
          go_wp2_with fail
          refine (HEQ.out _).mono ?_
          rintro e w6 ⟨rfl, hb6⟩
          have HB6 : Hid (Below w.heap.size w w6) := HB5.out.trans (hb6.mono HB5.out.size)
          clear hb6 HB5
          go_wp2
          go_ret
          exact ⟨rfl, HB6.out⟩

end Go.Proofs.YtnhffkgbnlnliaaGreatDoor.valuePrefixes
