/-
  The string of a part, and whether it can follow those before it.
-/
import Derived.Test.YtdcapmbgnoahpaaDcShared
import Derived.Test.YtdcapmbgnoahpaaDcPart
import Derived.Laws.BytesArg
namespace Go.Proofs.Ytdcapmbgnoahpaa
open Go Go.RowKit Go.Shelf Go.ChangeShapes Go.WideShapes Go.ChangeAt

/-- Bytes that read, as a string. -/
theorem conv_any {K : Nat → Prop} {W : World} {a : Option Addr} {n c : Nat} {zs : List Int} (hR : Rd K W .u8 a n c zs) (W' : World) (hW : W'.heap = W.heap) :
    (convert 22 9 (.slice a n c)).run Try.prog W' = .ok (.string (bsOf (strU zs))) W' := by
  have hl := hR.hl
  by_cases h0 : 0 < n
  · obtain ⟨b, off, rfl, _, hlt, hc⟩ := hR.cells h0
    exact run_convert_bytes_arg W' 22 5 Try.underlying22 Try.underlying5 b off n c zs hl.symm (fun i hi => by
      rw [World.cell?_of_block (w := W) (by rw [hW]), hc i hi, List.getD_eq_getElem?_getD]) _ Try.underlying9
  · obtain rfl : n = 0 := by omega
    obtain rfl : zs = [] := List.eq_nil_of_length_eq_zero hl.symm
    rw [run_convert_bytes_string W' 22 9 5 _ 0 c Try.underlying22 Try.underlying5 Try.underlying9]
    cases a <;> simp [Conv.bytesToString, loadCells]
    all_goals rfl

theorem bs_append (a b : List UInt8) : bsOf a ++ bsOf b = bsOf (a ++ b) := by
  apply ByteArray.ext
  simp [bsOf]
theorem bs_take (a : List UInt8) (k : Nat) : (bsOf a).extract 0 k = bsOf (a.take k) := by
  apply ByteArray.ext
  simp [bsOf, ByteArray.extract_mk]

theorem sb_nil (sh : Nat) (o : List Int) : sbS [] sh o = strU o ∧ sbB [] sh o = true := by unfold sbS sbB; exact ⟨if_pos rfl, by simp⟩
theorem last_at {d : List (List UInt8)} : d.getLastD [] = d[d.length - 1]?.getD [] := by
  rw [List.getLastD_eq_getLast?, List.getLast?_eq_getElem?]

set_option maxRecDepth 100000 in
set_option maxHeartbeats 4000000 in
theorem behind_none {K : Nat → Prop} {a a1 : Option Addr} {cap n1 c1 : Nat} {o : List Int} {W : World} (hO : Rd K W .u8 a1 n1 c1 o) (sh : Int) (bh : Value) :
    Calls Try.prog 68 #[.agg #[.int .i64 sh, .slice a1 n1 c1, bh], .slice a 0 cap] W fun e W' => e = .returned (.tuple #[.string (bsOf (strU o)), .bool true]) ∧ Below W.heap.size W W' := by
  have hT := Tri5.new W 114 (.int .i64 sh) (.slice a1 n1 c1) bh
  have HBV : Hid (Below W.heap.size W (W.alloc (.cells #[.int .i64 sh, .slice a1 n1 c1, bh] 114))) := (Below.refl _ _).alloc (Nat.le_refl _) _
  have hcv := conv_any (hO.below HBV.out)
  go_enter Try.func68, Try.ntmps68
  go_wp2_with fail
  clear hO
  generalize W.alloc (.cells #[.int .i64 sh, .slice a1 n1 c1, bh] 114) = V at *
  have hcv2 := hcv V rfl
  obtain ⟨q0, q1, q2⟩ := hT.cell
  go_wp2
  go_ret2
  exact ⟨rfl, HBV.out⟩

set_option maxRecDepth 100000 in
set_option maxHeartbeats 4000000 in
theorem behind_some {K K' : Nat → Prop} {a a1 : Option Addr} {len cap n1 c1 : Nat} {d : List (List UInt8)} {o : List Int} {W : World} (hD : RdS K' W a len cap d) (h0 : 0 < len) (hO : Rd K W .u8 a1 n1 c1 o) (sh : Nat) (hsh : sh ≤ (d.getLastD []).length) (h255 : (d.getLastD []).length ≤ 255) (hn : n1 ≤ 255) (bh : Value) :
    Calls Try.prog 68 #[.agg #[.int .i64 sh, .slice a1 n1 c1, bh], .slice a len cap] W fun e W' => e = .returned (.tuple #[.string (bsOf (sbS d sh o)), .bool (sbB d sh o)]) ∧ Below W.heap.size W W' := by
  have hT := Tri5.new W 114 (.int .i64 sh) (.slice a1 n1 c1) bh
  have HBV : Hid (Below W.heap.size W (W.alloc (.cells #[.int .i64 sh, .slice a1 n1 c1, bh] 114))) := (Below.refl _ _).alloc (Nat.le_refl _) _
  have hcv := conv_any (hO.below HBV.out)
  obtain ⟨b, off, rfl, _, hblt, hc⟩ := (hD.below HBV.out).cells h0
  have hcl := hc (len - 1) (by omega)
  have hne : ¬ d = [] := fun e => by have := hD.hl; rw [e] at this; simp at this; omega
  have hla := last_at (d := d)
  rw [← hD.hl] at hla
  have HS : Hid (sbS d sh o = (d.getLastD []).take sh ++ strU o) := by show _ = _; unfold sbS; rw [if_neg hne]
  have HSB : Hid (sbB d sh o = (decide (d.getLastD [] < sbS d sh o) && (shN (d.getLastD []) (sbS d sh o) == sh))) := by show _ = _; unfold sbB; rw [decide_eq_false hne, Bool.false_or]
  have hol : (strU o).length = n1 := by rw [strU_len]; exact hO.hl.symm
  rw [← hla] at hcl
  have HLA := Lib.hid hla
  have hlen : len ≤ 8796093021952 := hD.small
  clear hc hne hla hD
  generalize hx : d.getLastD [] = x at *
  generalize strU o = y at *
  have HX := Lib.hid hx
  have e1 := bs_take x sh
  have e2 := bs_append (x.take sh) y
  rw [← HS.out] at e2
  have hs1 : (x.take sh).length + y.length = (sbS d sh o).length := by rw [HS.out, List.length_append]
  have hs2 : (x.take sh).length ≤ 255 := by rw [List.length_take]; omega
  have hs3 : (sbS d sh o).length ≤ 510 := by omega
  have HLS := bs_less x (sbS d sh o)
  have HSL := bs_less (sbS d sh o) x
  have HEQ := bs_same (sbS d sh o) x
  have HSHC := Lib.hid (shared_any x (sbS d sh o) (by omega) (by omega))
  have HSZ1 := bs_size (x.take sh)
  have HSZ2 := bs_size y
  have HSZ3 := bs_size x
  generalize sbS d sh o = s at *
  generalize sbB d sh o = bb at *
  generalize x.take sh = xt at *
  go_enter Try.func68, Try.ntmps68
  go_wp2_with fail
  clear hO
  generalize W.alloc (.cells #[.int .i64 sh, .slice a1 n1 c1, bh] 114) = V at *
  have hcvn : ∀ n, (convert 22 9 (.slice a1 n1 c1)).run Try.prog (V.drewN n) = .ok (.string (bsOf y)) (V.drewN n) := fun n => hcv (V.drewN n) rfl
  have HT := Lib.hid hT
  obtain ⟨q0, q1, q2⟩ := hT.cell
  clear hcv
  have hxs : (bsOf x).size ≤ 255 := by rw [HSZ3]; exact h255
  have hshx : sh ≤ (bsOf x).size := by rw [HSZ3]; exact hsh
  have hss : (bsOf xt).size ≤ 255 := by rw [HSZ1]; exact hs2
  have hys : (bsOf y).size ≤ 255 := by rw [HSZ2, hol]; exact hn
  have HLS' := Lib.hid HLS
  have HSL' := Lib.hid HSL
  have HEQ' := Lib.hid HEQ
  clear hT HSZ1 HSZ2 HSZ3 hol hs1 hs2 hs3 h255 hsh HLS HSL HEQ hx
  generalize bsOf xt = XT at *
  generalize bsOf y = Y at *
  obtain ⟨S, hS⟩ : ∃ S, bsOf s = S := ⟨_, rfl⟩
  rw [hS] at e2 HSHC HLS' HSL' HEQ'
  have HSE := Lib.hid hS
  clear hS
  generalize bsOf x = X at *
  by_cases hlt : x < s
  · have t1 : Op.bytesLess S.toList X.toList = false := by rw [HSL'.out]; exact decide_eq_false (slt_asymm hlt)
    have t2 : (S.toList == X.toList) = false := by rw [HEQ'.out]; exact decide_eq_false fun e => slt_irrefl x (by rw [e] at hlt; exact hlt)
    rw [decide_eq_true hlt, Bool.true_and] at HSB
    have HSB2 := Lib.hid HSB.out
    clear hlt HSB HLS' HSL' HEQ'
    generalize shN x s = k at *
    go_wp2
    go_quiet (fail)
    obtain ⟨V2, hV2⟩ : ∃ V2, V.drewN nq = V2 := ⟨_, rfl⟩
    have HB2 : Hid (Below W.heap.size W V2) := by rw [← hV2]; exact below_drewN HBV.out nq
    have hT2 : Tri5 V2 W.heap.size 114 (.int .i64 sh) (.slice a1 n1 c1) bh := by rw [← hV2]; exact HT.out
    obtain ⟨r0, r1, r2⟩ := hT2.cell
    have hk : ((k : Int) == (sh : Int)) = (k == sh) := by rw [Bool.eq_iff_iff, beq_iff_eq, beq_iff_eq]; omega
    rw [hV2]
    clear hV2 hT2 q0 q1 q2 hcl hcvn
    cases hkk : (k == sh) with
    | true =>
      rw [hkk] at hk
      have HK := Lib.hid hkk
      clear hkk
      go_wp2
      go_quiet ((go_at_call 80; exact Calls.quiet_of (HSHC.out _)))
      go_wp2
      go_ret2
      exact ⟨by rw [HSB2.out, HK.out, HSE.out]; rfl, below_drewN HB2.out _⟩
    | false =>
      rw [hkk] at hk
      have HK := Lib.hid hkk
      clear hkk
      go_wp2
      go_quiet ((go_at_call 80; exact Calls.quiet_of (HSHC.out _)))
      go_wp2
      go_ret2
      exact ⟨by rw [HSB2.out, HK.out, HSE.out]; rfl, below_drewN HB2.out _⟩
  · rw [decide_eq_false hlt, Bool.false_and] at HSB
    have HSB2 := Lib.hid HSB.out
    have t1 : (Op.bytesLess S.toList X.toList || S.toList == X.toList) = true := by
      rw [HSL'.out, HEQ'.out, Bool.or_eq_true, decide_eq_true_eq, decide_eq_true_eq]
      by_cases e : s = x
      · exact .inr e
      · exact .inl (slt_of_le (List.not_lt.1 hlt) e)
    clear hlt HSB HLS' HSL' HEQ'
    go_wp2
    go_quiet (fail)
    obtain ⟨V2, hV2⟩ : ∃ V2, V.drewN nq = V2 := ⟨_, rfl⟩
    have HB2 : Hid (Below W.heap.size W V2) := by rw [← hV2]; exact below_drewN HBV.out nq
    rw [hV2]
    clear hV2 q0 q1 q2 hcl hcvn
    go_wp2
    go_quiet (fail)
    go_wp2
    go_ret2
    exact ⟨by rw [HSB2.out, HSE.out]; rfl, below_drewN HB2.out _⟩

end Go.Proofs.Ytdcapmbgnoahpaa
