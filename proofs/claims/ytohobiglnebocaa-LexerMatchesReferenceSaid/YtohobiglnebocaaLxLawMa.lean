/-
  The lexer is as the reference: the walk.
-/
import Derived.Test.YtohobiglnebocaaLxMaMath
import Derived.Test.YtohobiglnebocaaLxEx
import Derived.Test.YtohobiglnebocaaLxToks
namespace Go.Proofs.Ytohobiglnebocaa.lexerMatchesReference
open Go Go.RowKit Go.Shelf Go.Sort Go.ChangeShapes Go.WideShapes Go.ChangeAt
open Go.Proofs.Ytohobiglnebocaa Go.Proofs.Ytohobiglnebocaa.Lx

theorem info_u8 : ∃ i, Try.prog.info? 5 = some i ∧ i.zero = some (.int .u8 0) ∧ i.size = 1 ∧ i.bytes = 1 := by
  have h : (Try.prog.info? 5).map (fun i => (i.zero, i.size, i.bytes)) = some (some (.int .u8 0), 1, 1) := by kernel_rfl
  cases hi : Try.prog.info? 5 with
  | none => rw [hi] at h; cases h
  | some i =>
    rw [hi] at h
    simp at h
    exact ⟨i, rfl, h.1, h.2.1, h.2.2⟩

/-- Of n bytes the first k are blanks. -/
def blk (n k : Nat) : List Int := List.replicate k 32 ++ List.replicate (n - k) 0
theorem blk_len {n k : Nat} (h : k ≤ n) : (blk n k).length = n := by unfold blk; rw [List.length_append, List.length_replicate, List.length_replicate]; omega
theorem blk_zero (n : Nat) : blk n 0 = List.replicate n 0 := by unfold blk; simp
theorem blk_all (n : Nat) : blk n n = List.replicate n 32 := by unfold blk; simp
theorem blk_set {n k : Nat} (h : k < n) : (blk n k).set k 32 = blk n (k + 1) := by
  unfold blk
  rw [List.set_append_right _ _ (by rw [List.length_replicate]; exact Nat.le_refl _), List.length_replicate, Nat.sub_self, show n - k = (n - (k + 1)) + 1 by omega, List.replicate_succ, List.set_cons_zero, List.replicate_succ', List.append_assoc]
  rfl
theorem blk_at {n k : Nat} (h : k < n) : (blk n k)[k]?.getD 0 = 0 := by
  unfold blk
  rw [List.getElem?_append_right (by rw [List.length_replicate]; exact Nat.le_refl _), List.length_replicate, Nat.sub_self, List.getElem?_replicate, if_pos (by omega)]
  rfl
theorem strU_blanks (n : Nat) : strU (List.replicate n 32) = List.replicate n 32 := by unfold strU; rw [List.map_replicate]; rfl

theorem made_one (k : IntKind) (z : Int) (n : Nat) : madeCells (Value.int k z).cells n = (List.replicate n (Value.int k z)).toArray := by
  apply Array.ext
  · simp [madeCells]
  · intro j h1 h2
    simp [madeCells, Value.cells, Nat.mod_one]

theorem make_blanks (w : World) (n : Nat) (z : Int) (hz : z = n) (hn : n ≤ 1000000) : ∃ mc, (Instr.makeSlice 33 (.int .i64 z) (.int .i64 z)).run Try.prog w = .ok (.slice (some ⟨w.heap.size, 0, none⟩) n n) (w.alloc (.cells mc 5)) ∧
    (w.alloc (.cells mc 5)).ownsRow w.heap.size 5 1 (.slice (some ⟨w.heap.size, 0, none⟩) n n) n ((blk n 0).map (Value.int .u8)) := by
  obtain ⟨i0, hi, hz0, hz1, hz2⟩ := info_u8
  subst hz
  refine ⟨madeCells (Value.int .u8 0).cells (n * 1), ?_, ?_⟩
  · have := run_make (P := Try.prog) w 33 5 i0 _ Try.underlying33 hi hz0 .i64 .i64 n n (by omega) (by omega) (by rw [hz2]; omega) (by omega)
    rw [hz1] at this
    exact this
  · refine ⟨by rw [List.length_map, blk_len (Nat.zero_le _)]; omega, .inr ⟨w.heap.size, n, _, rfl, Nat.le_refl _, World.alloc_heap_new w _, Nat.le_refl _, by unfold maxLen; omega, size_madeCells _ _, ?_⟩⟩
    rw [blk_zero, List.map_replicate, made_one]
    simp

theorem row_grown {W V : World} {e : TypeId} {n g N : Nat} {zs : List Int} (h : W.ownsRow N e 1 (.slice (some ⟨g, 0, none⟩) n n) n (zs.map (Value.int .u8))) (hk : V.heap[g]? = W.heap[g]?) : V.ownsRow N e 1 (.slice (some ⟨g, 0, none⟩) n n) n (zs.map (Value.int .u8)) :=
  ⟨h.1, h.2.imp id fun ⟨g', c, cur, e1, hb, hg, r⟩ => ⟨g', c, cur, e1, hb, by injection e1 with e1; injection e1 with e1; injection e1 with e1; subst e1; exact hk.trans hg, r⟩⟩

set_option maxRecDepth 100000 in
set_option maxHeartbeats 16000000 in
theorem walk_ma {s : List UInt8} {a : Option Addr} {n c : Nat} {ts : List Tk} {z : Int} {w : World} (hs : s.length ≤ 140737488351232) (hR : RdK w a n c ts) (hts : ∀ t ∈ ts, t.s.length ≤ 140737488351232) (hV : Vars w) :
    Calls Try.prog 3 #[.string (bsOf s), .slice a n c, .int .i64 z] w fun e V => e = .returned (.bool true) ∧ Below w.heap.size w V := by
  have HX := Lib.hid (examples10_any w hV)
  have HV := Lib.hid hV
  have HR := Lib.hid hR
  have HTS := Lib.hid hts
  have HZ := Lib.hid (bs_size s)
  have HS := Lib.hid hs
  have hnc := hR.fit
  have hct := hR.top
  obtain ⟨S, hS⟩ : ∃ S, bsOf s = S := ⟨_, rfl⟩
  have HBS := Lib.hid hS
  rw [hS] at HZ ⊢
  clear hS hs hR hts hV
  go_enter Try.func3, Try.ntmps3
  go_wp2_with fail
  refine HX.out.mono ?_
  rintro e w1 ⟨rfl, hb1⟩
  have HB1 := Lib.hid hb1
  have HR1 := Lib.hid (HR.out.below hb1)
  clear hb1 HX HR
  have HSM := Lib.hid (small_any (S := S) HR1.out (by rw [HZ.out]; exact HS.out) HTS.out)
  go_wp2_with fail
  refine HSM.out.mono ?_
  rintro e w2 ⟨b, rfl, rfl, hb⟩
  clear HSM HTS HS
  cases b
  · clear hb
    go_wp2
    go_ret
    exact ⟨rfl, HB1.out⟩
  · obtain ⟨hS2, hn2, ht2⟩ := hb rfl
    have HS2 : Hid (s.length ≤ 2000) := by have := HZ.out; show _ ≤ _; omega
    have HT2 := Lib.hid ht2
    clear hb ht2 hS2
    have hl := HR1.out.hl
    have HL := Lib.hid hl
    clear hl
    go_wp2
    go_loopw [8] (fun i wr => ∃ k : Nat, i = .int .i64 (k : Int) ∧ k ≤ n ∧ Hid (Below w1.heap.size w1 wr)) (fun i _ => n - (intOf i).toNat)
    case atStart => exact ⟨0, rfl, Nat.zero_le _, Below.self _⟩
    case round =>
      obtain ⟨k, rfl, hk, HI⟩ := hrel
      by_cases hlt : k < n
      · have HRI := Lib.hid (HR1.out.below HI.out)
        have HVI := Lib.hid (HV.out.below (HB1.out.trans (HI.out.mono HB1.out.size)))
        obtain ⟨bb, off, rfl, hlb, hc⟩ := HRI.out.cells (by omega)
        have h0 := hc k hlt
        have hkt : (ts[k]?.getD Tk.null).s.length ≤ 2000 := by
          have hkl : k < ts.length := by rw [← HL.out]; exact hlt
          rw [List.getElem?_eq_getElem hkl]
          exact HT2.out _ (List.getElem_mem hkl)
        clear hc HRI
        generalize ts[k]?.getD Tk.null = t at *
        obtain ⟨tk, tt, ta⟩ := t
        dsimp only at h0 hkt
        obtain ⟨g0, g1, g2⟩ := h0
        have HTK0 := Lib.hid (fun w => token_law tk ta (bsOf tt) w)
        have HVR0 := Lib.hid (fun w => validR_any tk ta tt (by omega) w)
        have HVL0 := Lib.hid (fun w hV => valid_any tk ta tt (by omega) w hV)
        have HSP0 := Lib.hid (fun w hV => spell_any tk ta tt (by omega) w hV)
        have HSR0 := Lib.hid (fun w => spellR_any tk ta tt (by omega) w)
        unfold encK at HTK0 HVR0 HVL0 HSP0 HSR0
        obtain ⟨vb, hvb⟩ : ∃ vb, vld tk tt = vb := ⟨_, rfl⟩
        rw [hvb] at HVR0 HVL0
        obtain ⟨TT, hTT⟩ : ∃ TT, bsOf tt = TT := ⟨_, rfl⟩
        obtain ⟨XS, hXS⟩ : ∃ XS, bsOf (spl tk tt) = XS := ⟨_, rfl⟩
        rw [hTT] at HTK0 HVR0 HVL0 HSP0 HSR0 g1
        rw [hXS] at HSP0 HSR0
        clear hvb hTT hXS hkt
        have K0 := fun d os => cell_regrown g0 d os
        have K1 := fun d os => cell_regrown g1 d os
        have K2 := fun d os => cell_regrown g2 d os
        have HTK := Lib.hid (fun d os => HTK0.out (grow (redrawn wr d) os))
        have HVR := Lib.hid (fun d os => HVR0.out (grow (redrawn wr d) os))
        have HVL := Lib.hid (fun d os => HVL0.out (grow (redrawn wr d) os) (HVI.out.below (below_regrown wr d os)))
        have HSPL := Lib.hid (fun d os => HSP0.out (grow (redrawn wr d) os) (HVI.out.below (below_regrown wr d os)))
        have HSPR := Lib.hid (fun d os => HSR0.out (grow (redrawn wr d) os))
        clear HTK0 HVR0 HVL0 HSP0 HSR0 HVI
        have hcmpb : (vb != vb) = false := by simp
        have hcmp2 : (XS.toList != XS.toList) = false := by simp
        go_upto_region 9 with fail
        refine wp_region_quiet_below (by kernel_rfl) (by kernel_rfl) ?_
        repeat (go_big_quiet_step ((first | (go_at_call 8; with_reducible exact Calls.regrown_of (HVR.out _ _)) | (go_at_call 7; with_reducible exact Calls.regrown_of (HTK.out _ _)) | (go_at_call 6; with_reducible exact Calls.regrown_of (HVL.out _ _)) | (go_at_call 9; with_reducible exact Calls.regrown_of (HSPL.out _ _)) | (go_at_call 10; with_reducible exact Calls.regrown_of (HSPR.out _ _)))))
        refine wpQuiet_nil ?_
        intro _ hw'
        obtain ⟨⟨dq, osq⟩, hw''⟩ := hw'
        subst hw''
        have HBQ : Hid (Below wr.heap.size wr (grow (redrawn wr dq) osq)) := below_regrown wr dq osq
        generalize grow (redrawn wr dq) osq = WQ at *
        have HBX : Hid (Below w1.heap.size w1 WQ) := HI.out.trans (HBQ.out.mono HI.out.size)
        clear K0 K1 K2 HVR HTK HVL HSPL HSPR
        go_wp2
        go_roundw
        case rel => exact ⟨k + 1, by go_num, by omega, HBX.out⟩
        case measure => simp [intOf]; omega
      · obtain rfl : k = n := by omega
        clear hlt
        have HBI := Lib.hid (HB1.out.trans (HI.out.mono HB1.out.size))
        have HRI := Lib.hid (HR1.out.below HI.out)
        clear HR1 HB1 HI
        obtain ⟨wb, hwb⟩ : ∃ wb, wb = wr := ⟨_, rfl⟩
        subst hwb
        obtain ⟨n2, hn2e⟩ : ∃ n2 : Nat, n2 = 20000 := ⟨_, rfl⟩
        obtain ⟨mc, hmk, hrow⟩ := make_blanks wb n2 20000 (by omega) (by omega)
        have HN2 := Lib.hid hn2e
        have hn2b : n2 ≤ 20000 := by omega
        have HROW := Lib.hid hrow
        have HB3 := Lib.hid ((Below.refl wb.heap.size wb).alloc (Nat.le_refl _) (.cells mc 5))
        clear hrow hn2e
        go_wp2_with fail
        clear hmk
        obtain ⟨w3, hw3⟩ : ∃ w3, wb.alloc (.cells mc 5) = w3 := ⟨_, rfl⟩
        rw [hw3] at HROW HB3 ⊢
        clear hw3
        go_loopw [10] (fun i w4 => ∃ k2 : Nat, i = .int .i64 (k2 : Int) ∧ k2 ≤ n2 ∧ Hid (w4.ownsRow wb.heap.size 5 1 (.slice (some ⟨wb.heap.size, 0, none⟩) n2 n2) n2 ((blk n2 k2).map (Value.int .u8)) ∧ Below wb.heap.size wb w4)) (fun i _ => n2 - (intOf i).toNat)
        case atStart => exact ⟨0, rfl, Nat.zero_le _, HROW.out, HB3.out⟩
        case round =>
          obtain ⟨k2, rfl, hk2, HJ⟩ := hrel
          by_cases hlt2 : k2 < n2
          · have hcell := row_cell HJ.out.1 (j := k2) (by rw [blk_len hk2]; exact hlt2)
            rw [blk_at hlt2] at hcell
            have hfroz := row_unfrozen (j := k2) HJ.out.1
            have HNX : Hid ((wr.setCell ⟨wb.heap.size, k2, none⟩ (.int .u8 32)).ownsRow wb.heap.size 5 1 (.slice (some ⟨wb.heap.size, 0, none⟩) n2 n2) n2 ((blk n2 (k2 + 1)).map (Value.int .u8)) ∧ Below wb.heap.size wb (wr.setCell ⟨wb.heap.size, k2, none⟩ (.int .u8 32))) := by
              have h1 := row_store (j := k2) HJ.out.1 (.int .u8 32)
              rw [← List.map_set, blk_set hlt2] at h1
              exact ⟨h1, HJ.out.2.setCell (p := ⟨wb.heap.size, k2, none⟩) (Nat.le_refl _) _⟩
            go_wp2
            go_roundw
            case rel => exact ⟨k2 + 1, by go_num, by omega, HNX.out⟩
            case measure => simp [intOf]; omega
          · obtain rfl : k2 = n2 := by omega
            have hrow := HJ.out.1
            rw [blk_all] at hrow
            have hcv := conv_back (Rd.of_row (by simp) (Nat.le_refl _) (by omega) hrow) wr rfl
            rw [strU_blanks] at hcv
            have HB0 := Lib.hid (HBI.out.trans (HJ.out.2.mono HBI.out.size))
            have HR0 := Lib.hid (HRI.out.below HJ.out.2)
            clear hrow HJ HBI HRI hlt2
            have HL1 := Lib.hid (fun w hV => lexed_any s (by have := HS2.out; omega) w hV)
            have HL2 := Lib.hid (fun w => lexIn_any s (by have := HS2.out; omega) w)
            have HLN := Lib.hid (fun w => line_any s z (by have := HS2.out; omega) w)
            have HLR := Lib.hid (fun w => lineR_any s z (by have := HS2.out; omega) w)
            rw [HBS.out] at HL1 HL2 HLN HLR
            obtain ⟨r, hr⟩ : ∃ r, lexS s = r := ⟨_, rfl⟩
            rw [hr] at HL1 HL2
            clear hr
            obtain ⟨rts, rp, re⟩ := r
            obtain ⟨lp, hlp⟩ : ∃ lp, ((lineS s z).1 : Int) = lp := ⟨_, rfl⟩
            obtain ⟨lq, hlq⟩ : ∃ lq, ((lineS s z).2 : Int) = lq := ⟨_, rfl⟩
            rw [hlp, hlq] at HLN HLR
            clear hlp hlq HBS HS2 HZ
            have hjl := joinS_len ts
            rw [← HL.out] at hjl
            have HJN := Lib.hid (fun (u : World) (h : RdK u a k c ts) hV => joined_any h (by omega) (fun t ht => Nat.le_trans (HT2.out t ht) (by decide)) hV)
            have HJR := Lib.hid (fun (u : World) (h : RdK u a k c ts) => joinR_any h (by omega) (fun t ht => Nat.le_trans (HT2.out t ht) (by decide)))
            obtain ⟨jl, hjle⟩ : ∃ jl, joinS ts = jl := ⟨_, rfl⟩
            rw [hjle] at HJN HJR hjl
            have HK1 := Lib.hid (fun w hV => lexed_any jl (by omega) w hV)
            have HK2 := Lib.hid (fun w => lexIn_any jl (by omega) w)
            obtain ⟨J, hJ⟩ : ∃ J, bsOf jl = J := ⟨_, rfl⟩
            rw [hJ] at HJN HJR HK1 HK2
            have hj0 : (J.toList == J.toList) = true := by simp
            obtain ⟨r, hr⟩ : ∃ r, lexS jl = r := ⟨_, rfl⟩
            rw [hr] at HK1 HK2
            clear hr hJ hjle hjl HT2 HL
            obtain ⟨qts, qp, qe⟩ := r
            have HF1 := Lib.hid (fun w hV => lexed_any (List.replicate k2 32) (by rw [List.length_replicate]; omega) w hV)
            have HF2 := Lib.hid (fun w hV => lexed_any (List.replicate k2 32 ++ [32]) (by rw [List.length_append, List.length_replicate]; simp; omega) w hV)
            rw [lex_blanks (by omega)] at HF1
            rw [HN2.out, lex_more, ← HN2.out, ← bs_two, show bsOf [32] = ⟨#[32]⟩ from rfl] at HF2
            have hF20 : (bsOf (List.replicate k2 32)).size ≤ 20000 := by rw [bs_size, List.length_replicate]; exact hn2b
            obtain ⟨F, hF⟩ : ∃ F, bsOf (List.replicate k2 32) = F := ⟨_, rfl⟩
            rw [hF] at HF1 HF2 hcv hF20
            clear hF HN2
            have heq : ∀ w, (Op.equalIn 10000 40 (.agg #[.int .i64 lp, .int .i64 lq]) (.agg #[.int .i64 lp, .int .i64 lq])).run Try.prog w = .ok true w := fun w => by rw [eq_two]; simp
            obtain ⟨u0, hu0⟩ : ∃ u0, u0 = wr := ⟨_, rfl⟩
            subst hu0
            have HS := Lib.hid (HL1.out u0 (HV.out.below HB0.out))
            go_wp2_with fail
            refine HS.out.mono ?_
            rintro e u1 ⟨a1, c1, rfl, hr1, hb, -⟩
            have HB1 := Lib.hid (HB0.out.trans (hb.mono HB0.out.size))
            have HR1 := Lib.hid (HR0.out.below hb)
            have HQ1 := Lib.hid (hr1)
            clear hb hr1 HS HL1 hcv HB0 HR0
            dsimp only at HQ1 ⊢
            have HS := Lib.hid (HL2.out u1)
            go_wp2_with fail
            refine HS.out.mono ?_
            rintro e u2 ⟨a2, c2, rfl, hr2, hb, -⟩
            have HB2 := Lib.hid (HB1.out.trans (hb.mono HB1.out.size))
            have HR2 := Lib.hid (HR1.out.below hb)
            have HQ1b := Lib.hid (HQ1.out.below hb)
            have HQ2 := Lib.hid (hr2)
            clear hb hr2 HS HL2 HQ1 HB1 HR1
            dsimp only at HQ2 ⊢
            have HS := Lib.hid (sameL_any (p := (rp : Int)) (q := (rp : Int)) (e := re) (f := re) HQ1b.out HQ2.out)
            rw [show (decide (re = re) && decide ((rp : Int) = (rp : Int)) && decide (rts = rts)) = true by simp] at HS
            go_wp2_with fail
            refine HS.out.mono ?_
            rintro e u3 ⟨rfl, hb⟩
            have HB3 := Lib.hid (HB2.out.trans (hb.mono HB2.out.size))
            have HR3 := Lib.hid (HR2.out.below hb)
            clear hb HS HQ1b HQ2 HB2 HR2
            have HS := Lib.hid (HJN.out u3 HR3.out (HV.out.below HB3.out))
            go_wp2_with fail
            refine HS.out.mono ?_
            rintro e u4 ⟨rfl, hb⟩
            have HB4 := Lib.hid (HB3.out.trans (hb.mono HB3.out.size))
            have HR4 := Lib.hid (HR3.out.below hb)
            clear hb HS HB3 HR3
            have HS := Lib.hid (HJR.out u4 HR4.out)
            go_wp2_with fail
            refine HS.out.mono ?_
            rintro e u5 ⟨rfl, hb⟩
            have HB5 := Lib.hid (HB4.out.trans (hb.mono HB4.out.size))
            have HR5 := Lib.hid (HR4.out.below hb)
            clear hb HS HB4 HR4
            have HS := Lib.hid (HLN.out u5)
            go_wp2_with fail
            refine HS.out.mono ?_
            rintro e u6 ⟨rfl, hb⟩
            have HB6 := Lib.hid (HB5.out.trans (hb.mono HB5.out.size))
            have HR6 := Lib.hid (HR5.out.below hb)
            clear hb HS HB5 HR5 HLN
            have HS := Lib.hid (HLR.out u6)
            go_wp2_with fail
            refine HS.out.mono ?_
            rintro e u7 ⟨rfl, hb⟩
            have HB7 := Lib.hid (HB6.out.trans (hb.mono HB6.out.size))
            have HR7 := Lib.hid (HR6.out.below hb)
            clear hb HS HB6 HR6 HLR
            have HS := Lib.hid (HJN.out u7 HR7.out (HV.out.below HB7.out))
            go_wp2_with fail
            refine HS.out.mono ?_
            rintro e u8 ⟨rfl, hb⟩
            have HB8 := Lib.hid (HB7.out.trans (hb.mono HB7.out.size))
            have HR8 := Lib.hid (HR7.out.below hb)
            clear hb HS HB7 HR7 HJN
            have HS := Lib.hid (HK1.out u8 (HV.out.below HB8.out))
            go_wp2_with fail
            refine HS.out.mono ?_
            rintro e u9 ⟨a1, c1, rfl, hr1, hb, -⟩
            have HB9 := Lib.hid (HB8.out.trans (hb.mono HB8.out.size))
            have HR9 := Lib.hid (HR8.out.below hb)
            have HQ1 := Lib.hid (hr1)
            clear hb hr1 HS HK1 HB8 HR8
            dsimp only at HQ1 ⊢
            have HS := Lib.hid (HJR.out u9 HR9.out)
            go_wp2_with fail
            refine HS.out.mono ?_
            rintro e u10 ⟨rfl, hb⟩
            have HB10 := Lib.hid (HB9.out.trans (hb.mono HB9.out.size))
            have HR10 := Lib.hid (HR9.out.below hb)
            have HQ1c := Lib.hid (HQ1.out.below hb)
            clear hb HS HJR HQ1 HB9 HR9
            have HS := Lib.hid (HK2.out u10)
            go_wp2_with fail
            refine HS.out.mono ?_
            rintro e u11 ⟨a2, c2, rfl, hr2, hb, -⟩
            have HB11 := Lib.hid (HB10.out.trans (hb.mono HB10.out.size))
            have HR11 := Lib.hid (HR10.out.below hb)
            have HQ1d := Lib.hid (HQ1c.out.below hb)
            have HQ2 := Lib.hid (hr2)
            clear hb hr2 HS HK2 HQ1c HB10 HR10
            dsimp only at HQ2 ⊢
            have HS := Lib.hid (sameL_any (p := (qp : Int)) (q := (qp : Int)) (e := qe) (f := qe) HQ1d.out HQ2.out)
            rw [show (decide (qe = qe) && decide ((qp : Int) = (qp : Int)) && decide (qts = qts)) = true by simp] at HS
            go_wp2_with fail
            refine HS.out.mono ?_
            rintro e u12 ⟨rfl, hb⟩
            have HB12 := Lib.hid (HB11.out.trans (hb.mono HB11.out.size))
            have HR12 := Lib.hid (HR11.out.below hb)
            clear hb HS HQ1d HQ2 HB11 HR11
            have HS := Lib.hid (HF1.out u12 (HV.out.below HB12.out))
            go_wp2_with fail
            refine HS.out.mono ?_
            rintro e u13 ⟨a3, c3, rfl, hr3, hb, -⟩
            have HB13 := Lib.hid (HB12.out.trans (hb.mono HB12.out.size))
            have HR13 := Lib.hid (HR12.out.below hb)
            have HQ3 := Lib.hid (hr3)
            clear hb hr3 HS HF1 HB12 HR12
            dsimp only [List.length_nil] at HQ3 ⊢
            rw [show ((0 : Nat) : Int) = 0 from rfl]
            have HS := Lib.hid (sameL_any (p := 0) (q := 0) (e := 0) (f := 0) HQ3.out (RdK.empty (A := u13) (a := none) (c := 0) (by decide)))
            rw [show (decide ((0 : Int) = 0) && decide ((0 : Int) = 0) && decide (([] : List Tk) = [])) = true from by decide] at HS
            go_wp2_with fail
            refine HS.out.mono ?_
            rintro e u14 ⟨rfl, hb⟩
            have HB14 := Lib.hid (HB13.out.trans (hb.mono HB13.out.size))
            have HR14 := Lib.hid (HR13.out.below hb)
            clear hb HS HQ3 HB13 HR13
            have HS := Lib.hid (HF2.out u14 (HV.out.below HB14.out))
            go_wp2_with fail
            refine HS.out.mono ?_
            rintro e u15 ⟨a4, c4, rfl, hr4, hb, -⟩
            have HB15 := Lib.hid (HB14.out.trans (hb.mono HB14.out.size))
            have HR15 := Lib.hid (HR14.out.below hb)
            have HQ4 := Lib.hid (hr4)
            clear hb hr4 HS HF2 HB14 HR14
            dsimp only [List.length_nil] at HQ4 ⊢
            rw [show ((0 : Nat) : Int) = 0 from rfl]
            have HS := Lib.hid (sameL_any (p := 0) (q := 0) (e := 2) (f := 2) HQ4.out (RdK.empty (A := u15) (a := none) (c := 0) (by decide)))
            rw [show (decide ((2 : Int) = 2) && decide ((0 : Int) = 0) && decide (([] : List Tk) = [])) = true from by decide] at HS
            go_wp2_with fail
            refine HS.out.mono ?_
            rintro e u16 ⟨rfl, hb⟩
            have HB16 := Lib.hid (HB15.out.trans (hb.mono HB15.out.size))
            have HR16 := Lib.hid (HR15.out.below hb)
            clear hb HS HQ4 HB15 HR15
            go_wp2
            go_ret
            exact ⟨rfl, HB16.out⟩

end Go.Proofs.Ytohobiglnebocaa.lexerMatchesReference
