/-
  A sequence of sealed forms is split into its files: the walk. A sequence of sealed forms is split into its files; if it is cut off anywhere, into those that are whole: the law returns true for all arguments, and changes nothing. No condition.
-/
import Derived.Test.YtdcapmbgnoahpaaCtSpl
namespace Go.Proofs.Ytdcapmbgnoahpaa.containerSplits
open Go Go.RowKit Go.Shelf Go.Sort Go.ChangeShapes Go.WideShapes Go.ChangeAt
open Go.Proofs.Ytdcapmbgnoahpaa

/-- What reads as these bytes. -/
def ByF (zs : List Int) : Fact := fun v W => ∃ a n c, v = .slice a n c ∧ Rd (fun _ => True) W .u8 a n c zs
theorem byF_stable (zs : List Int) : (ByF zs).Stable := fun _ _ _ ⟨a, n, c, e, h⟩ hb => ⟨a, n, c, e, h.below hb⟩
theorem sameFs_true (fs : List Fl) : sameFs fs fs = true := by unfold sameFs; exact decide_eq_true rfl
def Small (f : Fl) : Prop := Good f ∧ f.data.length ≤ 200

set_option maxRecDepth 100000 in
set_option maxHeartbeats 4000000 in
theorem walk {aL : Option Addr} {nL cL m : Nat} {w : World} (hm : m < 65536) (hL : RdR w aL nL cL) :
    Calls Try.prog 8 #[.slice aL nL cL, .int .u16 (m : Int)] w fun e V => e = .returned (.bool true) ∧ Below w.heap.size w V := by
  have HM := Lib.hid hm
  have HL := Lib.hid hL
  have hLf := hL.fit
  have hLt := hL.top
  clear hm hL
  go_enter Try.func8, Try.ntmps8
  go_wp2_with fail
  refine (examples9_any _).mono ?_
  rintro e w1 ⟨rfl, hb1⟩
  go_upto_region 5 with fail
  have hs2 : (w1.alloc (.cells #[] 5)).heap.size = w1.heap.size + 1 := World.size_alloc ..
  have hs3 : ((w1.alloc (.cells #[] 5)).alloc (.cells #[] 3)).heap.size = w1.heap.size + 1 + 1 := by rw [World.size_alloc, hs2]
  have hb2 : Below w1.heap.size w1 (w1.alloc (.cells #[] 5)) := (Below.refl _ _).alloc (Nat.le_refl _) _
  have hb3 : Below (w1.alloc (.cells #[] 5)).heap.size (w1.alloc (.cells #[] 5)) ((w1.alloc (.cells #[] 5)).alloc (.cells #[] 3)) := (Below.refl _ _).alloc (Nat.le_refl _) _
  have hb4 : Below ((w1.alloc (.cells #[] 5)).alloc (.cells #[] 3)).heap.size ((w1.alloc (.cells #[] 5)).alloc (.cells #[] 3)) (((w1.alloc (.cells #[] 5)).alloc (.cells #[] 3)).alloc (.cells #[] 52)) := (Below.refl _ _).alloc (Nat.le_refl _) _
  have hr1 := row_below (row_below (World.ownsRow_made w1 (base := w.heap.size) (e := 5) (size := 1) #[] 0 hb1.size (by decide) rfl) hb3) hb4
  have hr2 := row_below (World.ownsRow_made (w1.alloc (.cells #[] 5)) (base := w.heap.size) (e := 3) (size := 1) #[] 0 (Nat.le_trans hb1.size hb2.size) (by decide) rfl) hb4
  have hr3 := World.ownsRow_made ((w1.alloc (.cells #[] 5)).alloc (.cells #[] 3)) (base := w.heap.size) (e := 52) (size := 3) #[] 0 (Nat.le_trans hb1.size (Nat.le_trans hb2.size hb3.size)) (by decide) rfl
  rw [hs2] at hr2
  rw [hs3] at hr3
  have HBW : Hid (Below w.heap.size w (((w1.alloc (.cells #[] 5)).alloc (.cells #[] 3)).alloc (.cells #[] 52))) := hb1.trans (((hb2.trans (hb3.mono hb2.size)).trans (hb4.mono (Nat.le_trans hb2.size hb3.size))).mono hb1.size)
  generalize (((w1.alloc (.cells #[] 5)).alloc (.cells #[] 3)).alloc (.cells #[] 52)) = w2 at *
  have HR1 := Lib.hid hr1
  have HR2 := Lib.hid hr2
  have HR3 := Lib.hid hr3
  clear hr1 hr2 hr3 hb1 hb2 hb3 hb4 hs2 hs3
  generalize w1.heap.size = G at *
  obtain ⟨B, hB⟩ : ∃ B, w.heap.size = B := ⟨_, rfl⟩
  have HZB := Lib.hid hB
  rw [hB] at HBW HR1 HR2 HR3
  clear hB
  go_wp2
  go_loopw [6, 7, 8, 9] (fun bv ev fv iv wr => ∃ k gb nb cb ge ce gf cf es fs, bv = .slice (some ⟨gb, 0, none⟩) nb cb ∧ ev = .slice (some ⟨ge, 0, none⟩) k ce ∧ fv = .slice (some ⟨gf, 0, none⟩) k cf ∧ iv = .int .i64 ((k : Nat) : Int) ∧ k ≤ 6 ∧ k ≤ nL ∧ Hid (nb = (joinS fs).length) ∧ Hid (wr.ownsRow B 5 1 (.slice (some ⟨gb, 0, none⟩) nb cb) nb ((joinS fs).map (Value.int .u8))) ∧ Hid (wr.ownsRow B 3 1 (.slice (some ⟨ge, 0, none⟩) k ce) k ((endsS fs).map (Value.int .i64))) ∧ Hid (wr.ownsRow B 52 3 (.slice (some ⟨gf, 0, none⟩) k cf) k (cellsE es)) ∧ Hid (AllE (fun b => b < B) wr es fs) ∧ Hid (fs.length = k ∧ ∀ f ∈ fs, Small f) ∧ Hid (Below B w wr)) (fun _ _ _ i _ => 6 - (intOf i).toNat)
  case atStart => exact ⟨0, G, 0, 0, G + 1, 0, G + 1 + 1, 0, [], [], rfl, rfl, rfl, rfl, by omega, by omega, rfl, HR1.out, HR2.out, HR3.out, AllE.nil, ⟨rfl, fun f hf => by cases hf⟩, HBW.out⟩
  case round =>
    clear HR1 HR2 HR3 HBW
    obtain ⟨k, gb, nb, cb, ge, ce, gf, cf, es, fs, rfl, rfl, rfl, rfl, hk6, hkn, HNB, HRB, HRE, HRF, HA, HF, HB⟩ := hrel
    by_cases hlt : k < nL
    · have hltI : (k : Int) < (nL : Int) := by omega
      by_cases h6 : k < 6
      · have h6I : (k : Int) < 6 := by omega
        have hBw : Below w.heap.size w wr := by rw [HZB.out]; exact HB.out
        obtain ⟨b, off, rfl, hbl, hcs⟩ := HL.out.cells (by omega)
        obtain ⟨⟨rk, a1, n1, t1, id, a2, n2, t2, da⟩, d0, d1, d2, hk, hI, hD, hz, ho⟩ := hcs k hlt
        dsimp only at d0 d1 d2 hk hI hD hz ho
        have r0 := (World.cell?_of_block (w := w) (hBw.block b hbl)).trans d0
        have r1 := (World.cell?_of_block (w := w) (hBw.block b hbl)).trans d1
        have r2 := (World.cell?_of_block (w := w) (hBw.block b hbl)).trans d2
        have HI0 := Lib.hid hI
        have HD0 := Lib.hid hD
        have HK := Lib.hid hk
        have HIB : Hid (Rd (fun b => b < B) w .i64 a1 (min n1 40) t1 (id.take (min n1 40))) := (hI.part (min n1 40) (Nat.min_le_left _ _) (by omega)).mono fun b h _ => by rw [← HZB.out]; exact h
        have HDB : Hid (Rd (fun b => b < B) w .u8 a2 (min n2 200) t2 (da.take (min n2 200))) := (hD.part (min n2 200) (Nat.min_le_left _ _) (by omega)).mono fun b h _ => by rw [← HZB.out]; exact h
        have HZ2 : Hid (Smalls (id.take (min n1 40))) := smalls_take hz _
        have HO2 : Hid (Oct (da.take (min n2 200))) := ho.take _
        have HL1 : Hid ((id.take (min n1 40)).length ≤ 40) := by show _ ≤ _; rw [List.length_take]; omega
        have HL2 : Hid ((da.take (min n2 200)).length ≤ 200) := by show _ ≤ _; rw [List.length_take]; omega
        have HBw := Lib.hid hBw
        clear hcs d0 d1 d2 hk hI hD hz ho hBw hbl
        go_wp2_with fail
        refine (made_any HK.out HI0.out.fit HD0.out.fit (by have h1 := HI0.out.fit; have h2 := HI0.out.top; omega) (by have h1 := HD0.out.fit; have h2 := HD0.out.top; omega) _).mono ?_
        rintro e wa ⟨rfl, hba⟩
        have HKR : Hid (((1 + rk % 9 : Nat) : Int) = kR rk) := rfl
        obtain ⟨kk, hkk⟩ : ∃ kk, kR rk = kk := ⟨_, rfl⟩
        have HKK : Hid (1 ≤ kk ∧ kk ≤ 9) := by rw [← hkk]; exact kR_ok rk
        have HSE : Hid (sealE kk (id.take (min n1 40)) (da.take (min n2 200)) = 0) := by rw [← hkk]; exact seal_made HL1.out HL2.out
        rw [HKR.out, hkk]
        clear hkk HKR HI0 HD0 HK r0 r1 r2
        obtain ⟨f1, hf1⟩ : ∃ f, min n1 40 = f := ⟨_, rfl⟩
        obtain ⟨f2, hf2⟩ : ∃ f, min n2 200 = f := ⟨_, rfl⟩
        rw [hf1] at HIB HZ2 HL1 HSE ⊢
        rw [hf2] at HDB HO2 HL2 HSE ⊢
        clear hf1 hf2
        obtain ⟨iL, hiL⟩ : ∃ l, id.take f1 = l := ⟨_, rfl⟩
        obtain ⟨dL, hdL⟩ : ∃ l, da.take f2 = l := ⟨_, rfl⟩
        rw [hiL] at HIB HZ2 HL1 HSE
        rw [hdL] at HDB HO2 HL2 HSE
        clear hiL hdL
        go_upto_region 9 with fail
        have hbb : Below wa.heap.size wa (wa.alloc (.cells #[.int .i64 kk, .slice a1 f1 t1, .slice a2 f2 t2] 52)) := (Below.refl _ _).alloc (Nat.le_refl _) _
        have hfb := FileB.new wa kk (.slice a1 f1 t1) (.slice a2 f2 t2)
        have hrb : Below wr.heap.size wr (wa.alloc (.cells #[.int .i64 kk, .slice a1 f1 t1, .slice a2 f2 t2] 52)) := hba.trans (hbb.mono hba.size)
        generalize wa.alloc (.cells #[.int .i64 kk, .slice a1 f1 t1, .slice a2 f2 t2] 52) = wb at *
        generalize wa.heap.size = F at *
        have q0 := hfb.c0
        have q1 := hfb.c1
        have q2 := hfb.c2
        have HFB := Lib.hid hfb
        have HRBX := Lib.hid hrb
        clear hba hbb hfb hrb
        go_wp2_with fail
        refine (sealed_any (k := kk) (HIB.out.below (HBw.out.trans (HRBX.out.mono HBw.out.size))) (HDB.out.below (HBw.out.trans (HRBX.out.mono HBw.out.size))) HZ2.out HO2.out).mono ?_
        rintro e wc ⟨hbc, hp⟩
        obtain ⟨_, gs, n, c, rfl, hS⟩ := hp.resolve_right (fun h => h.1 HSE.out)
        clear hp q0 q1 q2
        have hn := hS.hl
        have hs8 : 8 ≤ (sealS kk iL dL).length := by rw [sealS_len]; omega
        have hs9 : (sealS kk iL dL).length ≤ 1000 := seal_len_le HL1.out HL2.out HZ2.out
        have hGOOD : Small ⟨kk, iL, dL⟩ := ⟨⟨HKK.out, HZ2.out, HL1.out, HO2.out, by have := HL2.out; show dL.length ≤ _; omega⟩, HL2.out⟩
        have hjn : (joinS (fs ++ [⟨kk, iL, dL⟩])).length = nb + n := by
          rw [joinS_append, List.length_append, ← HNB.out, hn]; simp [joinS]
        have hj7 : (joinS fs).length ≤ fs.length * 1000 := joinS_len fs fun f hf => ⟨(HF.out.2 f hf).1.2.2.1, (HF.out.2 f hf).2, (HF.out.2 f hf).1.2.1⟩
        have hnb6 : nb ≤ 6000 := by have h1 := HNB.out; have h2 := HF.out.1; omega
        have hrc : Below wr.heap.size wr wc := HRBX.out.trans (hbc.mono HRBX.out.size)
        have hBr : B ≤ wr.heap.size := by have := HB.out.size; have := HZB.out; omega
        have hBc : B ≤ wc.heap.size := Nat.le_trans hBr hrc.size
        have hgb := row_base HRB.out
        have hge := row_base HRE.out
        have hgf := row_base HRF.out
        have rBc := row_below HRB.out hrc
        have rEc := row_below HRE.out hrc
        have rFc := row_below HRF.out hrc
        obtain ⟨gb', cb', wd, hr1, rBd, hg1⟩ := bytes_grow rBc hS (by omega) hBc (by omega)
        obtain ⟨nn, hnn⟩ : ∃ x, nb + n = x := ⟨_, rfl⟩
        rw [hnn] at hr1 rBd hjn
        have rEd := row_keepB rEc fun g hg => hg1.block g (own_lt rEc hg) (row_apart rEc rBc (by decide) hg)
        have rFd := row_keepB rFc fun g hg => hg1.block g (own_lt rFc hg) (row_apart rFc rBc (by decide) hg)
        have hbe : Below wd.heap.size wd (wd.alloc (.cells #[.int .i64 kk, .slice a1 f1 t1, .slice a2 f2 t2] 52)) := (Below.refl _ _).alloc (Nat.le_refl _) _
        have hue := World.alloc_heap_new wd (.cells #[.int .i64 kk, .slice a1 f1 t1, .slice a2 f2 t2] 52)
        have rBe := row_below rBd hbe
        have rEe := row_below rEd hbe
        have rFe := row_below rFd hbe
        have hBe : B ≤ (wd.alloc (.cells #[.int .i64 kk, .slice a1 f1 t1, .slice a2 f2 t2] 52)).heap.size := Nat.le_trans hBc (Nat.le_trans hg1.size hbe.size)
        obtain ⟨gf', cf', wf, hr2, rFf, hg2, _, _⟩ := append_file _ B (.slice (some ⟨gf, 0, none⟩) k cf) k es rFe wd.heap.size ⟨kk, a1, f1, t1, a2, f2, t2⟩ hue (by omega) hBe
        have hr2' : (Builtin.append_ #[56, 56] 56 #[.slice (some ⟨gf, 0, none⟩) k cf, .slice (some ⟨wd.heap.size, 0, none⟩) 1 1]).run Try.prog (wd.alloc (.cells #[.int .i64 kk, .slice a1 f1 t1, .slice a2 f2 t2] 52)) = .ok (.slice (some ⟨gf', 0, none⟩) (k + 1) cf') wf := hr2
        have rBf := row_keepB rBe fun g hg => hg2.block g (own_lt rBe hg) (row_apart rBe rFe (by decide) hg)
        have rEf := row_keepB rEe fun g hg => hg2.block g (own_lt rEe hg) (row_apart rEe rFe (by decide) hg)
        have hbg : Below wf.heap.size wf (wf.alloc (.cells #[.int .i64 (nn : Int)] 3)) := (Below.refl _ _).alloc (Nat.le_refl _) _
        have hxg : Rd (fun b => wf.heap.size ≤ b) (wf.alloc (.cells #[.int .i64 (nn : Int)] 3)) .i64 (some ⟨wf.heap.size, 0, none⟩) 1 1 [(nn : Int)] := Rd.new wf .i64 3 [(nn : Int)] 1 rfl (by decide)
        have rBg := row_below rBf hbg
        have rEg := row_below rEf hbg
        have rFg := row_below rFf hbg
        have hBg : B ≤ (wf.alloc (.cells #[.int .i64 (nn : Int)] 3)).heap.size := Nat.le_trans hBe (Nat.le_trans hg2.size hbg.size)
        obtain ⟨ge', ce', wh, hr3, rEh, hg3⟩ := ints_grow rEg hxg (by decide) hBg (by omega)
        have rBh := row_keepB rBg fun g hg => hg3.block g (own_lt rBg hg) (row_apart rBg rEg (by decide) hg)
        have rFh := row_keepB rFg fun g hg => hg3.block g (own_lt rFg hg) (row_apart rFg rEg (by decide) hg)
        have hK : Kept (fun b => b < B) wr wh :=
          (((((Kept.all hrc).trans (Kept.of_grownBy hg1 fun r e h => by cases e; exact absurd h (Nat.not_lt.2 hgb))).trans (Kept.all hbe)).trans (Kept.of_grownBy hg2 fun r e h => by
            have e : some gf = some r := e
            cases e; exact absurd h (Nat.not_lt.2 hgf))).trans (Kept.all hbg)).trans (Kept.of_grownBy hg3 fun r e h => by cases e; exact absurd h (Nat.not_lt.2 hge))
        have hsz : wr.heap.size ≤ wh.heap.size := hK.size
        have HBH : Hid (Below B w wh) := HB.out.trans ⟨hK.os, hK.tape, hK.output, hK.size, fun i hi => hK.block i (Nat.lt_of_lt_of_le hi hBr) hi⟩
        have HAH : Hid (AllE (fun b => b < B) wh (es ++ [⟨kk, a1, f1, t1, a2, f2, t2⟩]) (fs ++ [⟨kk, iL, dL⟩])) := (HA.out.kept hK).snoc ⟨rfl, (HIB.out.below HBw.out).kept hK, (HDB.out.below HBw.out).kept hK⟩
        have HEH : Hid (wh.ownsRow B 3 1 (.slice (some ⟨ge', 0, none⟩) (k + 1) ce') (k + 1) ((endsS (fs ++ [⟨kk, iL, dL⟩])).map (Value.int .i64))) := by
          show World.ownsRow _ _ _ _ _ _ _
          rw [endsS_snoc, hjn]; exact rEh
        have HBHR : Hid (wh.ownsRow B 5 1 (.slice (some ⟨gb', 0, none⟩) nn cb') nn ((joinS (fs ++ [⟨kk, iL, dL⟩])).map (Value.int .u8))) := by
          show World.ownsRow _ _ _ _ _ _ _
          rw [joinS_append]; simp only [joinS, List.append_nil]; exact rBh
        have HFH := Lib.hid rFh
        have HNN : Hid (nn = (joinS (fs ++ [⟨kk, iL, dL⟩])).length) := hjn.symm
        have HFF : Hid ((fs ++ [(⟨kk, iL, dL⟩ : Fl)]).length = k + 1 ∧ ∀ f ∈ fs ++ [(⟨kk, iL, dL⟩ : Fl)], Small f) := ⟨by rw [List.length_append, HF.out.1]; rfl, fun f hf => by
          rcases List.mem_append.1 hf with h | h
          · exact HF.out.2 f h
          · rw [List.mem_singleton] at h; subst h; exact hGOOD⟩
        have HFBd := Lib.hid (((HFB.out.below hbc HFB.out.lt)))
        have hFd : FileB wd F kk (.slice a1 f1 t1) (.slice a2 f2 t2) := by
          have h1 := HFBd.out
          refine (hg1.block F h1.lt fun e => ?_).trans h1
          injection e with e
          subst e
          rcases rBc.2 with ⟨e2, _⟩ | ⟨g2, c2, cur2, e2, _, hh2, _⟩
          · cases e2
          · cases e2
            have h1 : wc.heap[F]? = _ := h1
            rw [hh2] at h1
            injection h1 with h1
            injection h1 with _ h1
            exact absurd h1 (by decide)
        have q0 := hFd.c0
        have q1 := hFd.c1
        have q2 := hFd.c2
        have qlt := hFd.lt
        have HR1 := Lib.hid hr1
        have HR2 := Lib.hid hr2'
        have HR3 := Lib.hid hr3
        have f570 := fld57_0
        clear hn hs8 hs9 hGOOD hjn hj7 hnb6 hrc hBr hBc hgb hge hgf rBc rEc rFc hr1 rBd hg1 rEd rFd hbe hue rBe rEe rFe hBe hr2 hr2' rFf hg2 rBf rEf hbg hxg rBg rEg rFg hBg hr3 rEh hg3 rBh rFh hK hsz hFd hS hbc hnn
        go_wp2_with (first
          | (at_builtin; have hRR := HR1.out; clear HR1; refine wpList_append_want (o := ⟨some 42, _, _, _, _, _⟩) _ rfl _ _ _ _ rfl _ _ rfl rfl _ _ hRR ?_; clear hRR)
          | (at_builtin; have hRR := HR2.out; clear HR2; refine wpList_append_want (o := ⟨some 46, _, _, _, _, _⟩) _ rfl _ _ _ _ rfl _ _ rfl rfl _ _ hRR ?_; clear hRR q0 q1 q2 qlt)
          | (at_builtin; have hRR := HR3.out; clear HR3; refine wpList_append_want (o := ⟨some 51, _, _, _, _, _⟩) _ rfl _ _ _ _ rfl _ _ rfl rfl _ _ hRR ?_; clear hRR))
        go_roundw
        case rel => exact ⟨k + 1, gb', nn, cb', ge', ce', gf', cf', _, _, rfl, rfl, rfl, rfl, by omega, by omega, HNN.out, HBHR.out, HEH.out, HFH.out, HAH.out, HFF.out, HBH.out⟩
        case measure => simp [intOf]; omega
      · have h6I : ¬ (k : Int) < 6 := by omega
        clear HL hLf hLt
        have hcb : nb ≤ cb := by rcases HRB.out.2 with ⟨e, _⟩ | ⟨g, c, cur, e, _, _, h, _⟩ <;> cases e; exact h
        have hce : k ≤ ce := by rcases HRE.out.2 with ⟨e, _⟩ | ⟨g, c, cur, e, _, _, h, _⟩ <;> cases e; exact h
        have hj7 : (joinS fs).length ≤ fs.length * 1000 := joinS_len fs fun f hf => ⟨(HF.out.2 f hf).1.2.2.1, (HF.out.2 f hf).2, (HF.out.2 f hf).1.2.1⟩
        have hnb6 : nb ≤ 6000 := by have h1 := HNB.out; have h2 := HF.out.1; omega
        have HBR : Hid (Rd (fun b => B ≤ b) wr .u8 (some ⟨gb, 0, none⟩) nb cb (joinS fs)) := Rd.of_row HNB.out hcb (by omega) HRB.out
        have HER : Hid (Rd (fun b => B ≤ b) wr .i64 (some ⟨ge, 0, none⟩) k ce (endsS fs)) := Rd.of_row (by unfold endsS; rw [List.length_map, List.length_range, HF.out.1]) hce (by omega) HRE.out
        have HFR : Hid (RdFs (fun b => B ≤ b) (fun b => b < B) wr (some ⟨gf, 0, none⟩) k cf fs) := by
          obtain ⟨a, cap, e, h⟩ := RdFs.of_row HRF.out HA.out (by omega)
          cases e
          exact h
        have HO : Hid (Oct (joinS fs)) := joinS_oct fs fun f hf => (HF.out.2 f hf).1
        have HSP : Hid (splS (joinS fs) = (fs, [])) := by
          have h := spl_join fs (fun f hf => (HF.out.2 f hf).1) [] Oct.nil
          rw [List.append_nil] at h
          rw [h, show splS [] = ([], []) from splS_end (by decide), List.append_nil]; rfl
        clear hcb hce hj7 HRB HRE HRF HA
        go_wp2_with fail
        refine (parts_any HBR.out HO.out (by omega)).mono ?_
        rintro e wx ⟨hbx, l1, p1, o1, l2, p2, o2, rfl, hF1, hR1⟩
        rw [HSP.out] at hF1 hR1
        obtain rfl : p2 = 0 := hR1.hl
        have HF1 := Lib.hid hF1
        have HR1 := Lib.hid hR1
        have HBX := Lib.hid hbx
        clear hF1 hR1 hbx
        go_upto_region 13 with fail
        have hbp : Below wx.heap.size wx (wx.alloc (.cells #[.slice l1 p1 o1, .slice l2 0 o2] 61)) := (Below.refl _ _).alloc (Nat.le_refl _) _
        have HP := Lib.hid (Pair.new wx 61 (.slice l1 p1 o1) (.slice l2 0 o2))
        have hbr : Below wr.heap.size wr (wx.alloc (.cells #[.slice l1 p1 o1, .slice l2 0 o2] 61)) := HBX.out.trans (hbp.mono HBX.out.size)
        have HBR2 := Lib.hid (HBR.out.below hbr)
        have HER2 := Lib.hid (HER.out.below hbr)
        have HFR2 := Lib.hid (HFR.out.below hbr)
        have HF12 := Lib.hid (HF1.out.below hbp)
        have HBP : Hid (Below B w (wx.alloc (.cells #[.slice l1 p1 o1, .slice l2 0 o2] 61))) := HB.out.trans (hbr.mono (by have := HB.out.size; have := HZB.out; omega))
        generalize wx.alloc (.cells #[.slice l1 p1 o1, .slice l2 0 o2] 61) = wp at *
        generalize wx.heap.size = P at *
        clear hbp hbr HBR HER HFR HF1 HR1 HBX HB
        have hwm : IntKind.i64.wrap (m : Int) = (m : Int) := by have := HM.out; rw [IntKind.wrap_i64]; omega
        have hwn : IntKind.i64.wrap ((nb : Int) + 1) = (nb : Int) + 1 := by rw [IntKind.wrap_i64]; omega
        have hnz : ¬ (nb : Int) + 1 = 0 := by omega
        obtain ⟨q, hmod, hq⟩ : ∃ q : Nat, (m : Int).tmod ((nb : Int) + 1) = (q : Int) ∧ q ≤ nb := ⟨m % (nb + 1), by rw [Int.tmod_eq_emod_of_nonneg (by omega), Int.natCast_emod]; rfl, Nat.lt_succ_iff.1 (Nat.mod_lt _ (by omega))⟩
        have hwq : IntKind.i64.wrap (q : Int) = (q : Int) := by rw [IntKind.wrap_i64]; omega
        go_wp2
        have HLE : Hid (∀ j, (joinS (fs.take j)).length ≤ nb) := fun j => by have h := congrArg List.length (joinS_take fs j); rw [List.length_append, ← HNB.out] at h; omega
        have HEN : Hid (∀ j, j < k → (endsS fs)[j]?.getD 0 = ((joinS (fs.take (j + 1))).length : Int)) := fun j hj => by
          unfold endsS
          rw [List.getElem?_map, List.getElem?_range (by rw [HF.out.1]; exact hj)]; rfl
        go_loop [13, 14, 15] (fun mv av iv => ∃ i' m' : Nat, mv = .int .i64 (m' : Int) ∧ av = .int .i64 ((joinS (fs.take m')).length : Int) ∧ iv = .int .i64 (i' : Int) ∧ i' ≤ k ∧ m' ≤ i' ∧ (joinS (fs.take m')).length ≤ q ∧ Hid (m' < i' → q < (joinS (fs.take (m' + 1))).length)) (fun _ _ i => 6 - (intOf i).toNat)
        case atStart => exact ⟨0, 0, rfl, rfl, rfl, Nat.zero_le _, Nat.le_refl _, Nat.zero_le _, fun h => absurd h (Nat.lt_irrefl _)⟩
        case round =>
          obtain ⟨i', m', rfl, rfl, rfl, hik, hmi, hlq, HLT⟩ := hrel
          obtain ⟨eN, heN⟩ : ∃ e, (joinS (fs.take (i' + 1))).length = e := ⟨_, rfl⟩
          have HEE := Lib.hid heN
          clear heN
          by_cases hi2 : i' < k
          · have hi2I : (i' : Int) < (k : Int) := by omega
            have ce := HER2.out.cell0 hi2
            rw [HEN.out i' hi2, HEE.out] at ce
            by_cases hle : eN ≤ q
            · have hleI : (eN : Int) ≤ (q : Int) := by omega
              go_wp2
              go_round
              case rel => exact ⟨i' + 1, i' + 1, rfl, by rw [HEE.out], rfl, by omega, Nat.le_refl _, by rw [HEE.out]; exact hle, fun h => absurd h (Nat.lt_irrefl _)⟩
              case measure => simp [intOf]; omega
            · have hleI : ¬ (eN : Int) ≤ (q : Int) := by omega
              go_wp2
              go_round
              case rel => exact ⟨i' + 1, m', rfl, rfl, rfl, by omega, by omega, hlq, fun h => by
                by_cases hm2 : m' < i'
                · exact HLT.out hm2
                · obtain rfl : m' = i' := by omega
                  rw [HEE.out]; omega⟩
              case measure => simp [intOf]; omega
          · have hi2I : ¬ (i' : Int) < (k : Int) := by omega
            obtain rfl : i' = k := by omega
            have HCUT : Hid (splS ((joinS fs).take q) = (fs.take m', ((joinS fs).take q).drop (joinS (fs.take m')).length)) :=
              spl_cut (fun f hf => (HF.out.2 f hf).1) (by rw [HF.out.1]; exact hmi) hlq (fun h => HLT.out (by rw [HF.out.1] at h; exact h))
            have hqc : q ≤ cb := Nat.le_trans hq HBR2.out.fit
            clear HLT HEE HEN
            go_wp2_with fail
            refine (parts_any (HBR2.out.first9 q hq) (HO.out.take q) (by omega)).mono ?_
            rintro e wy ⟨hby, l3, p3, o3, l4, p4, o4, rfl, hF3, hR4⟩
            rw [HCUT.out] at hF3 hR4
            have HF3 := Lib.hid hF3
            have HR4 := Lib.hid hR4
            have HBY := Lib.hid hby
            clear hF3 hR4 hby
            go_upto_region 22 with fail
            have hbz : Below wy.heap.size wy (wy.alloc (.cells #[.slice l3 p3 o3, .slice l4 p4 o4] 61)) := (Below.refl _ _).alloc (Nat.le_refl _) _
            have HP2 := Lib.hid (Pair.new wy 61 (.slice l3 p3 o3) (.slice l4 p4 o4))
            have hpz : Below wp.heap.size wp (wy.alloc (.cells #[.slice l3 p3 o3, .slice l4 p4 o4] 61)) := HBY.out.trans (hbz.mono HBY.out.size)
            have HPZ := Lib.hid (HP.out.below hpz HP.out.lt)
            have HBZ := Lib.hid (HBR2.out.below hpz)
            have HFZ := Lib.hid (HFR2.out.below hpz)
            have HF1Z := Lib.hid (HF12.out.below hpz)
            have HF3Z := Lib.hid (HF3.out.below hbz)
            have HR4Z := Lib.hid (HR4.out.below hbz)
            have HBB : Hid (Below B w (wy.alloc (.cells #[.slice l3 p3 o3, .slice l4 p4 o4] 61))) := HBP.out.trans (hpz.mono (by have := HBP.out.size; have := HZB.out; omega))
            have HID : Hid (∀ f ∈ fs, f.id.length ≤ 100000000) := fun f hf => by have := (HF.out.2 f hf).1.2.2.1; omega
            have HID2 : Hid (∀ f ∈ fs.take m', f.id.length ≤ 100000000) := fun f hf => HID.out f (List.mem_of_mem_take hf)
            generalize wy.alloc (.cells #[.slice l3 p3 o3, .slice l4 p4 o4] 61) = wz at *
            generalize wy.heap.size = P2 at *
            clear hbz hpz HP HBR2 HFR2 HF12 HF3 HR4 HBY HBP HER2 HCUT HLE
            generalize (joinS (fs.take m')).length = aN at *
            have hmc : m' ≤ cf := by have := HFZ.out.fit; omega
            have haq : aN ≤ q := hlq
            have hqn : q ≤ cb := hqc
            refine wp_region_facts (by kernel_rfl) (fs := [Fact.is (.pointer (some ⟨P, 0, none⟩)), Fact.is (.slice l1 p1 o1), Fact.is (.slice (some ⟨gf, 0, none⟩) i' cf), Fact.is (.bool true), Fact.is (.bool true), Fact.is (.pointer (some ⟨P, 1, none⟩)), Fact.is (.slice l2 0 o2), Fact.is (.int .i64 0), Fact.is (.bool true), Fact.is (.bool true), Fact.is (.bool true), Fact.is (.pointer (some ⟨P2, 0, none⟩)), Fact.is (.slice l3 p3 o3), Fact.is (.slice (some ⟨gf, 0, none⟩) i' cf), Fact.is (.int .i64 (m' : Int)), Fact.is (.slice (some ⟨gf, 0, none⟩) m' cf), Fact.is (.bool true), Fact.is (.bool true), Fact.is (.bool true), Fact.is (.pointer (some ⟨P2, 1, none⟩)), Fact.is (.slice l4 p4 o4), Fact.is (.slice (some ⟨gb, 0, none⟩) nb cb), Fact.is (.int .i64 (aN : Int)), Fact.is (.int .i64 (q : Int)), ByF (((joinS fs).take q).drop aN), Fact.is (.bool true), Fact.is (.bool true), Fact.is (.bool true), Fact.is (.bool true), Fact.is (.bool true), Fact.is (.bool true)]) (by kernel_rfl) (by kernel_rfl) ⟨Fact.is_stable _, Fact.is_stable _, Fact.is_stable _, Fact.is_stable _, Fact.is_stable _, Fact.is_stable _, Fact.is_stable _, Fact.is_stable _, Fact.is_stable _, Fact.is_stable _, Fact.is_stable _, Fact.is_stable _, Fact.is_stable _, Fact.is_stable _, Fact.is_stable _, Fact.is_stable _, Fact.is_stable _, Fact.is_stable _, Fact.is_stable _, Fact.is_stable _, Fact.is_stable _, Fact.is_stable _, Fact.is_stable _, Fact.is_stable _, byF_stable _, Fact.is_stable _, Fact.is_stable _, Fact.is_stable _, Fact.is_stable _, Fact.is_stable _, Fact.is_stable _, trivial⟩ ?_ ?_
            · exact ⟨by
                  intro a W hA hB hd
                  have hB := Lib.hid hB
                  have p11 : a.eval (.tmp 11) = .pointer (some ⟨P, 0, none⟩) := hA.at 11 (by kernel_rfl)
                  exact (step_pure (wanted_none rfl) (.pointer (some ⟨P, 0, none⟩)) (by simp [execOp, go_sem, tm p11]) rfl),
                by
                  intro a W hA hB hd
                  obtain ⟨q0, -⟩ := hd
                  have h82 : a.eval (.tmp 82) = .pointer (some ⟨P, 0, none⟩) := q0
                  have hB := Lib.hid hB
                  have c0 := (HPZ.out.below hB.out HPZ.out.lt).c0
                  exact (step_pure (wanted_none rfl) (.slice l1 p1 o1) (by simp [execOp, go_sem, tm h82, c0]) rfl),
                by
                  intro a W hA hB hd
                  have hB := Lib.hid hB
                  have p8 : a.eval (.tmp 8) = .slice (some ⟨gf, 0, none⟩) i' cf := hA.at 8 (by kernel_rfl)
                  exact (step_pure (wanted_none rfl) (.slice (some ⟨gf, 0, none⟩) i' cf) (by simp [execOp, go_sem, tm p8]) rfl),
                by
                  intro a W hA hB hd
                  obtain ⟨q0, q1, -⟩ := hd
                  have h83 : a.eval (.tmp 83) = .slice l1 p1 o1 := q0
                  have h84 : a.eval (.tmp 84) = .slice (some ⟨gf, 0, none⟩) i' cf := q1
                  have hB := Lib.hid hB
                  exact (step_calls (wanted_none rfl) rfl (vals := #[.slice l1 p1 o1, .slice (some ⟨gf, 0, none⟩) i' cf]) (by simp [h83, h84]) (enters_of Try.func40 (by kernel_rfl) rfl) ((sameFiles_any (HF1Z.out.below hB.out) (HFZ.out.below hB.out) HID.out HID.out).mono fun e w' ⟨he, hb⟩ => ⟨_, he, by rw [sameFs_true]; rfl, hb⟩)),
                by
                  intro a W hA hB hd
                  obtain ⟨q0, q1, -⟩ := hd
                  have h85 : a.eval (.tmp 85) = .bool true := q0
                  have hB := Lib.hid hB
                  exact (step_pure (wanted_none rfl) (.bool true) (by simp [execOp, go_sem, tm h85]) rfl),
                by
                  intro a W hA hB hd
                  obtain ⟨q0, -⟩ := hd
                  have h86 : a.eval (.tmp 86) = .bool true := q0
                  have hB := Lib.hid hB
                  have p11 : a.eval (.tmp 11) = .pointer (some ⟨P, 0, none⟩) := hA.at 11 (by kernel_rfl)
                  exact (step_pure ((wanted_guard rfl 86 rfl h86).trans rfl) (.pointer (some ⟨P, 1, none⟩)) (by simp [execOp, go_sem, tm p11]) rfl),
                by
                  intro a W hA hB hd
                  obtain ⟨q0, q1, -⟩ := hd
                  have h87 : a.eval (.tmp 87) = .pointer (some ⟨P, 1, none⟩) := q0
                  have h86 : a.eval (.tmp 86) = .bool true := q1
                  have hB := Lib.hid hB
                  have c0 := (HPZ.out.below hB.out HPZ.out.lt).c1
                  exact (step_pure ((wanted_guard rfl 86 rfl h86).trans rfl) (.slice l2 0 o2) (by simp [execOp, go_sem, tm h87, c0]) rfl),
                by
                  intro a W hA hB hd
                  obtain ⟨q0, q1, -⟩ := hd
                  have h88 : a.eval (.tmp 88) = .slice l2 0 o2 := q0
                  have h86 : a.eval (.tmp 86) = .bool true := q1
                  have hB := Lib.hid hB
                  exact (step_pure ((wanted_guard rfl 86 rfl h86).trans rfl) (.int .i64 0) (by simp [go_sem, tm h88]) rfl),
                by
                  intro a W hA hB hd
                  obtain ⟨q0, q1, -⟩ := hd
                  have h89 : a.eval (.tmp 89) = .int .i64 0 := q0
                  have h86 : a.eval (.tmp 86) = .bool true := q1
                  have hB := Lib.hid hB
                  exact (step_pure ((wanted_guard rfl 86 rfl h86).trans rfl) (.bool true) (by simp [execOp, go_sem, tm h89]) rfl),
                by
                  intro a W hA hB hd
                  obtain ⟨q0, q1, -⟩ := hd
                  have h86 : a.eval (.tmp 86) = .bool true := q0
                  have h90 : a.eval (.tmp 90) = .bool true := q1
                  have hB := Lib.hid hB
                  exact (step_pure (wanted_none rfl) (.bool true) (by simp [execOp, go_sem, tm h86, tm h90]) rfl),
                by
                  intro a W hA hB hd
                  obtain ⟨q0, q1, -⟩ := hd
                  have h91 : a.eval (.tmp 91) = .bool true := q0
                  have h86 : a.eval (.tmp 86) = .bool true := q1
                  have hB := Lib.hid hB
                  exact (step_pure (wanted_none rfl) (.bool true) (by simp [execOp, go_sem, tm h91]) rfl),
                by
                  intro a W hA hB hd
                  obtain ⟨q0, -⟩ := hd
                  have h92 : a.eval (.tmp 92) = .bool true := q0
                  have hB := Lib.hid hB
                  have p16 : a.eval (.tmp 16) = .pointer (some ⟨P2, 0, none⟩) := hA.at 16 (by kernel_rfl)
                  exact (step_pure ((wanted_guard rfl 92 rfl h92).trans rfl) (.pointer (some ⟨P2, 0, none⟩)) (by simp [execOp, go_sem, tm p16]) rfl),
                by
                  intro a W hA hB hd
                  obtain ⟨q0, q1, -⟩ := hd
                  have h93 : a.eval (.tmp 93) = .pointer (some ⟨P2, 0, none⟩) := q0
                  have h92 : a.eval (.tmp 92) = .bool true := q1
                  have hB := Lib.hid hB
                  have c0 := (HP2.out.below hB.out HP2.out.lt).c0
                  exact (step_pure ((wanted_guard rfl 92 rfl h92).trans rfl) (.slice l3 p3 o3) (by simp [execOp, go_sem, tm h93, c0]) rfl),
                by
                  intro a W hA hB hd
                  obtain ⟨q0, -⟩ := hd
                  have h92 : a.eval (.tmp 92) = .bool true := q0
                  have hB := Lib.hid hB
                  have p8 : a.eval (.tmp 8) = .slice (some ⟨gf, 0, none⟩) i' cf := hA.at 8 (by kernel_rfl)
                  exact (step_pure ((wanted_guard rfl 92 rfl h92).trans rfl) (.slice (some ⟨gf, 0, none⟩) i' cf) (by simp [execOp, go_sem, tm p8]) rfl),
                by
                  intro a W hA hB hd
                  obtain ⟨q0, -⟩ := hd
                  have h92 : a.eval (.tmp 92) = .bool true := q0
                  have hB := Lib.hid hB
                  have p13 : a.eval (.tmp 13) = .int .i64 (m' : Int) := hA.at 13 (by kernel_rfl)
                  exact (step_pure ((wanted_guard rfl 92 rfl h92).trans rfl) (.int .i64 (m' : Int)) (by simp [execOp, go_sem, tm p13]) rfl),
                by
                  intro a W hA hB hd
                  obtain ⟨q0, q1, q2, -⟩ := hd
                  have h95 : a.eval (.tmp 95) = .slice (some ⟨gf, 0, none⟩) i' cf := q0
                  have h96 : a.eval (.tmp 96) = .int .i64 (m' : Int) := q1
                  have h92 : a.eval (.tmp 92) = .bool true := q2
                  have hB := Lib.hid hB
                  exact (step_pure ((wanted_guard rfl 92 rfl h92).trans rfl) (.slice (some ⟨gf, 0, none⟩) m' cf) (by simp [execOp, go_sem, tm h95, tm h96, hmc]) rfl),
                by
                  intro a W hA hB hd
                  obtain ⟨q0, q1, q2, q3, -⟩ := hd
                  have h94 : a.eval (.tmp 94) = .slice l3 p3 o3 := q0
                  have h97 : a.eval (.tmp 97) = .slice (some ⟨gf, 0, none⟩) m' cf := q1
                  have h92 : a.eval (.tmp 92) = .bool true := q2
                  have hB := Lib.hid hB
                  exact (step_calls ((wanted_guard rfl 92 rfl h92).trans rfl) rfl (vals := #[.slice l3 p3 o3, .slice (some ⟨gf, 0, none⟩) m' cf]) (by simp [h94, h97]) (enters_of Try.func40 (by kernel_rfl) rfl) ((sameFiles_any (HF3Z.out.below hB.out) ((HFZ.out.below hB.out).first m' hmi) HID2.out HID2.out).mono fun e w' ⟨he, hb⟩ => ⟨_, he, by rw [sameFs_true]; rfl, hb⟩)),
                by
                  intro a W hA hB hd
                  obtain ⟨q0, q1, -⟩ := hd
                  have h92 : a.eval (.tmp 92) = .bool true := q0
                  have h98 : a.eval (.tmp 98) = .bool true := q1
                  have hB := Lib.hid hB
                  exact (step_pure (wanted_none rfl) (.bool true) (by simp [execOp, go_sem, tm h92, tm h98]) rfl),
                by
                  intro a W hA hB hd
                  obtain ⟨q0, q1, -⟩ := hd
                  have h99 : a.eval (.tmp 99) = .bool true := q0
                  have h98 : a.eval (.tmp 98) = .bool true := q1
                  have hB := Lib.hid hB
                  exact (step_pure (wanted_none rfl) (.bool true) (by simp [execOp, go_sem, tm h99]) rfl),
                by
                  intro a W hA hB hd
                  obtain ⟨q0, -⟩ := hd
                  have h100 : a.eval (.tmp 100) = .bool true := q0
                  have hB := Lib.hid hB
                  have p16 : a.eval (.tmp 16) = .pointer (some ⟨P2, 0, none⟩) := hA.at 16 (by kernel_rfl)
                  exact (step_pure ((wanted_guard rfl 100 rfl h100).trans rfl) (.pointer (some ⟨P2, 1, none⟩)) (by simp [execOp, go_sem, tm p16]) rfl),
                by
                  intro a W hA hB hd
                  obtain ⟨q0, q1, -⟩ := hd
                  have h101 : a.eval (.tmp 101) = .pointer (some ⟨P2, 1, none⟩) := q0
                  have h100 : a.eval (.tmp 100) = .bool true := q1
                  have hB := Lib.hid hB
                  have c0 := (HP2.out.below hB.out HP2.out.lt).c1
                  exact (step_pure ((wanted_guard rfl 100 rfl h100).trans rfl) (.slice l4 p4 o4) (by simp [execOp, go_sem, tm h101, c0]) rfl),
                by
                  intro a W hA hB hd
                  obtain ⟨q0, -⟩ := hd
                  have h100 : a.eval (.tmp 100) = .bool true := q0
                  have hB := Lib.hid hB
                  have p6 : a.eval (.tmp 6) = .slice (some ⟨gb, 0, none⟩) nb cb := hA.at 6 (by kernel_rfl)
                  exact (step_pure ((wanted_guard rfl 100 rfl h100).trans rfl) (.slice (some ⟨gb, 0, none⟩) nb cb) (by simp [execOp, go_sem, tm p6]) rfl),
                by
                  intro a W hA hB hd
                  obtain ⟨q0, -⟩ := hd
                  have h100 : a.eval (.tmp 100) = .bool true := q0
                  have hB := Lib.hid hB
                  have p14 : a.eval (.tmp 14) = .int .i64 (aN : Int) := hA.at 14 (by kernel_rfl)
                  exact (step_pure ((wanted_guard rfl 100 rfl h100).trans rfl) (.int .i64 (aN : Int)) (by simp [execOp, go_sem, tm p14]) rfl),
                by
                  intro a W hA hB hd
                  obtain ⟨q0, -⟩ := hd
                  have h100 : a.eval (.tmp 100) = .bool true := q0
                  have hB := Lib.hid hB
                  have p12 : a.eval (.tmp 12) = .int .i64 (q : Int) := hA.at 12 (by kernel_rfl)
                  exact (step_pure ((wanted_guard rfl 100 rfl h100).trans rfl) (.int .i64 (q : Int)) (by simp [execOp, go_sem, tm p12]) rfl),
                by
                  intro a W hA hB hd
                  obtain ⟨q0, q1, q2, q3, -⟩ := hd
                  have h103 : a.eval (.tmp 103) = .slice (some ⟨gb, 0, none⟩) nb cb := q0
                  have h104 : a.eval (.tmp 104) = .int .i64 (aN : Int) := q1
                  have h105 : a.eval (.tmp 105) = .int .i64 (q : Int) := q2
                  have h100 : a.eval (.tmp 100) = .bool true := q3
                  have hB := Lib.hid hB
                  have hbq := ((HBZ.out.below hB.out).first9 q hq).mono (K' := fun _ => True) (fun _ _ _ => trivial)
                  by_cases hac : aN = cb
                  · obtain rfl : q = aN := by omega
                    exact (step_pure ((wanted_guard rfl 100 rfl h100).trans rfl) (.slice (some ⟨gb, 0, none⟩) 0 0) (by simp [execOp, go_sem, tm h103, tm h104, tm h105, hac]) ⟨_, _, _, rfl, by rw [List.drop_eq_nil_of_le (by rw [List.length_take]; omega)]; exact ⟨rfl, Nat.le_refl _, by decide, by decide, fun h => absurd h (by decide)⟩⟩)
                  · have hac3 : ¬ cb = aN := fun h => hac h.symm
                    exact (step_pure ((wanted_guard rfl 100 rfl h100).trans rfl) (.slice (some ⟨gb, 0 + aN, none⟩) (q - aN) (cb - aN)) (by simp [execOp, go_sem, tm h103, tm h104, tm h105, hac3, haq, hqn]) ⟨_, _, _, rfl, hbq.rest aN haq _ (by omega) (by omega) _ (fun _ => rfl)⟩),
                by
                  intro a W hA hB hd
                  obtain ⟨q0, q1, q2, q3, -⟩ := hd
                  have h102 : a.eval (.tmp 102) = .slice l4 p4 o4 := q0
                  have h106 : (ByF (((joinS fs).take q).drop aN)) (a.eval (.tmp 106)) W := q1
                  have h100 : a.eval (.tmp 100) = .bool true := q2
                  have hB := Lib.hid hB
                  obtain ⟨xa, xn, xc, eb, rb⟩ := h106
                  exact (step_calls ((wanted_guard rfl 100 rfl h100).trans rfl) rfl (vals := #[.slice l4 p4 o4, .slice xa xn xc]) (by simp [eb, h102]) (enters_of Try.func25 (by kernel_rfl) rfl) ((same_any (HR4Z.out.below hB.out) rb).mono fun e w' ⟨he, hb⟩ => ⟨_, he, by rw [sameB_true rfl]; rfl, hb⟩)),
                by
                  intro a W hA hB hd
                  obtain ⟨q0, q1, -⟩ := hd
                  have h100 : a.eval (.tmp 100) = .bool true := q0
                  have h107 : a.eval (.tmp 107) = .bool true := q1
                  have hB := Lib.hid hB
                  exact (step_pure (wanted_none rfl) (.bool true) (by simp [execOp, go_sem, tm h100, tm h107]) rfl),
                by
                  intro a W hA hB hd
                  obtain ⟨q0, q1, -⟩ := hd
                  have h108 : a.eval (.tmp 108) = .bool true := q0
                  have h107 : a.eval (.tmp 107) = .bool true := q1
                  have hB := Lib.hid hB
                  exact (step_pure (wanted_none rfl) (.bool true) (by simp [execOp, go_sem, tm h108]) rfl),
                by
                  intro a W hA hB hd
                  obtain ⟨q0, -⟩ := hd
                  have h109 : a.eval (.tmp 109) = .bool true := q0
                  have hB := Lib.hid hB
                  have p5 : a.eval (.tmp 5) = .bool true := hA.at 5 (by kernel_rfl)
                  exact (step_pure ((wanted_guard rfl 109 rfl h109).trans rfl) (.bool true) (by simp [execOp, go_sem, tm p5]) rfl),
                by
                  intro a W hA hB hd
                  obtain ⟨q0, q1, -⟩ := hd
                  have h109 : a.eval (.tmp 109) = .bool true := q0
                  have h110 : a.eval (.tmp 110) = .bool true := q1
                  have hB := Lib.hid hB
                  exact (step_pure (wanted_none rfl) (.bool true) (by simp [execOp, go_sem, tm h109, tm h110]) rfl),
                by
                  intro a W hA hB hd
                  obtain ⟨q0, q1, -⟩ := hd
                  have h111 : a.eval (.tmp 111) = .bool true := q0
                  have h109 : a.eval (.tmp 109) = .bool true := q1
                  have hB := Lib.hid hB
                  exact (step_pure (wanted_none rfl) (.bool true) (by simp [execOp, go_sem, tm h111]) rfl), trivial⟩
            · intro zx wv hA hB hE
              have h4 : zx.eval (.tmp 4) = .bool true := hE.2.2.2.2.2.2.2.2.2.2.2.2.2.2.2.2.2.2.2.2.2.2.2.2.2.2.2.2.2.2.1
              have HBX : Hid (Below w.heap.size w wv) := by rw [HZB.out]; exact HBB.out.trans (hB.mono (by have := HBB.out.size; have := HZB.out; omega))
              have hp := hA.puts [82, 83, 84, 85, 86, 87, 88, 89, 90, 91, 92, 93, 94, 95, 96, 97, 98, 99, 100, 101, 102, 103, 104, 105, 106, 107, 108, 109, 110, 111, 4] (by kernel_rfl)
              clear hA hE
              simp only [putAll, h4] at hp
              clear h4 hB
              generalize zx.eval = ev8 at hp
              subst hp
              simp [Act.put]
              go_wp2
              go_ret
              exact ⟨rfl, HBX.out⟩
    · have hltI : ¬ (k : Int) < (nL : Int) := by omega
      clear HL hLf hLt
      have hcb : nb ≤ cb := by rcases HRB.out.2 with ⟨e, _⟩ | ⟨g, c, cur, e, _, _, h, _⟩ <;> cases e; exact h
      have hce : k ≤ ce := by rcases HRE.out.2 with ⟨e, _⟩ | ⟨g, c, cur, e, _, _, h, _⟩ <;> cases e; exact h
      have hj7 : (joinS fs).length ≤ fs.length * 1000 := joinS_len fs fun f hf => ⟨(HF.out.2 f hf).1.2.2.1, (HF.out.2 f hf).2, (HF.out.2 f hf).1.2.1⟩
      have hnb6 : nb ≤ 6000 := by have h1 := HNB.out; have h2 := HF.out.1; omega
      have HBR : Hid (Rd (fun b => B ≤ b) wr .u8 (some ⟨gb, 0, none⟩) nb cb (joinS fs)) := Rd.of_row HNB.out hcb (by omega) HRB.out
      have HER : Hid (Rd (fun b => B ≤ b) wr .i64 (some ⟨ge, 0, none⟩) k ce (endsS fs)) := Rd.of_row (by unfold endsS; rw [List.length_map, List.length_range, HF.out.1]) hce (by omega) HRE.out
      have HFR : Hid (RdFs (fun b => B ≤ b) (fun b => b < B) wr (some ⟨gf, 0, none⟩) k cf fs) := by
        obtain ⟨a, cap, e, h⟩ := RdFs.of_row HRF.out HA.out (by omega)
        cases e
        exact h
      have HO : Hid (Oct (joinS fs)) := joinS_oct fs fun f hf => (HF.out.2 f hf).1
      have HSP : Hid (splS (joinS fs) = (fs, [])) := by
        have h := spl_join fs (fun f hf => (HF.out.2 f hf).1) [] Oct.nil
        rw [List.append_nil] at h
        rw [h, show splS [] = ([], []) from splS_end (by decide), List.append_nil]; rfl
      clear hcb hce hj7 HRB HRE HRF HA
      go_wp2_with fail
      refine (parts_any HBR.out HO.out (by omega)).mono ?_
      rintro e wx ⟨hbx, l1, p1, o1, l2, p2, o2, rfl, hF1, hR1⟩
      rw [HSP.out] at hF1 hR1
      obtain rfl : p2 = 0 := hR1.hl
      have HF1 := Lib.hid hF1
      have HR1 := Lib.hid hR1
      have HBX := Lib.hid hbx
      clear hF1 hR1 hbx
      go_upto_region 13 with fail
      have hbp : Below wx.heap.size wx (wx.alloc (.cells #[.slice l1 p1 o1, .slice l2 0 o2] 61)) := (Below.refl _ _).alloc (Nat.le_refl _) _
      have HP := Lib.hid (Pair.new wx 61 (.slice l1 p1 o1) (.slice l2 0 o2))
      have hbr : Below wr.heap.size wr (wx.alloc (.cells #[.slice l1 p1 o1, .slice l2 0 o2] 61)) := HBX.out.trans (hbp.mono HBX.out.size)
      have HBR2 := Lib.hid (HBR.out.below hbr)
      have HER2 := Lib.hid (HER.out.below hbr)
      have HFR2 := Lib.hid (HFR.out.below hbr)
      have HF12 := Lib.hid (HF1.out.below hbp)
      have HBP : Hid (Below B w (wx.alloc (.cells #[.slice l1 p1 o1, .slice l2 0 o2] 61))) := HB.out.trans (hbr.mono (by have := HB.out.size; have := HZB.out; omega))
      generalize wx.alloc (.cells #[.slice l1 p1 o1, .slice l2 0 o2] 61) = wp at *
      generalize wx.heap.size = P at *
      clear hbp hbr HBR HER HFR HF1 HR1 HBX HB
      have hwm : IntKind.i64.wrap (m : Int) = (m : Int) := by have := HM.out; rw [IntKind.wrap_i64]; omega
      have hwn : IntKind.i64.wrap ((nb : Int) + 1) = (nb : Int) + 1 := by rw [IntKind.wrap_i64]; omega
      have hnz : ¬ (nb : Int) + 1 = 0 := by omega
      obtain ⟨q, hmod, hq⟩ : ∃ q : Nat, (m : Int).tmod ((nb : Int) + 1) = (q : Int) ∧ q ≤ nb := ⟨m % (nb + 1), by rw [Int.tmod_eq_emod_of_nonneg (by omega), Int.natCast_emod]; rfl, Nat.lt_succ_iff.1 (Nat.mod_lt _ (by omega))⟩
      have hwq : IntKind.i64.wrap (q : Int) = (q : Int) := by rw [IntKind.wrap_i64]; omega
      go_wp2
      have HLE : Hid (∀ j, (joinS (fs.take j)).length ≤ nb) := fun j => by have h := congrArg List.length (joinS_take fs j); rw [List.length_append, ← HNB.out] at h; omega
      have HEN : Hid (∀ j, j < k → (endsS fs)[j]?.getD 0 = ((joinS (fs.take (j + 1))).length : Int)) := fun j hj => by
        unfold endsS
        rw [List.getElem?_map, List.getElem?_range (by rw [HF.out.1]; exact hj)]; rfl
      go_loop [13, 14, 15] (fun mv av iv => ∃ i' m' : Nat, mv = .int .i64 (m' : Int) ∧ av = .int .i64 ((joinS (fs.take m')).length : Int) ∧ iv = .int .i64 (i' : Int) ∧ i' ≤ k ∧ m' ≤ i' ∧ (joinS (fs.take m')).length ≤ q ∧ Hid (m' < i' → q < (joinS (fs.take (m' + 1))).length)) (fun _ _ i => 6 - (intOf i).toNat)
      case atStart => exact ⟨0, 0, rfl, rfl, rfl, Nat.zero_le _, Nat.le_refl _, Nat.zero_le _, fun h => absurd h (Nat.lt_irrefl _)⟩
      case round =>
        obtain ⟨i', m', rfl, rfl, rfl, hik, hmi, hlq, HLT⟩ := hrel
        obtain ⟨eN, heN⟩ : ∃ e, (joinS (fs.take (i' + 1))).length = e := ⟨_, rfl⟩
        have HEE := Lib.hid heN
        clear heN
        by_cases hi2 : i' < k
        · have hi2I : (i' : Int) < (k : Int) := by omega
          have ce := HER2.out.cell0 hi2
          rw [HEN.out i' hi2, HEE.out] at ce
          by_cases hle : eN ≤ q
          · have hleI : (eN : Int) ≤ (q : Int) := by omega
            go_wp2
            go_round
            case rel => exact ⟨i' + 1, i' + 1, rfl, by rw [HEE.out], rfl, by omega, Nat.le_refl _, by rw [HEE.out]; exact hle, fun h => absurd h (Nat.lt_irrefl _)⟩
            case measure => simp [intOf]; omega
          · have hleI : ¬ (eN : Int) ≤ (q : Int) := by omega
            go_wp2
            go_round
            case rel => exact ⟨i' + 1, m', rfl, rfl, rfl, by omega, by omega, hlq, fun h => by
              by_cases hm2 : m' < i'
              · exact HLT.out hm2
              · obtain rfl : m' = i' := by omega
                rw [HEE.out]; omega⟩
            case measure => simp [intOf]; omega
        · have hi2I : ¬ (i' : Int) < (k : Int) := by omega
          obtain rfl : i' = k := by omega
          have HCUT : Hid (splS ((joinS fs).take q) = (fs.take m', ((joinS fs).take q).drop (joinS (fs.take m')).length)) :=
            spl_cut (fun f hf => (HF.out.2 f hf).1) (by rw [HF.out.1]; exact hmi) hlq (fun h => HLT.out (by rw [HF.out.1] at h; exact h))
          have hqc : q ≤ cb := Nat.le_trans hq HBR2.out.fit
          clear HLT HEE HEN
          go_wp2_with fail
          refine (parts_any (HBR2.out.first9 q hq) (HO.out.take q) (by omega)).mono ?_
          rintro e wy ⟨hby, l3, p3, o3, l4, p4, o4, rfl, hF3, hR4⟩
          rw [HCUT.out] at hF3 hR4
          have HF3 := Lib.hid hF3
          have HR4 := Lib.hid hR4
          have HBY := Lib.hid hby
          clear hF3 hR4 hby
          go_upto_region 22 with fail
          have hbz : Below wy.heap.size wy (wy.alloc (.cells #[.slice l3 p3 o3, .slice l4 p4 o4] 61)) := (Below.refl _ _).alloc (Nat.le_refl _) _
          have HP2 := Lib.hid (Pair.new wy 61 (.slice l3 p3 o3) (.slice l4 p4 o4))
          have hpz : Below wp.heap.size wp (wy.alloc (.cells #[.slice l3 p3 o3, .slice l4 p4 o4] 61)) := HBY.out.trans (hbz.mono HBY.out.size)
          have HPZ := Lib.hid (HP.out.below hpz HP.out.lt)
          have HBZ := Lib.hid (HBR2.out.below hpz)
          have HFZ := Lib.hid (HFR2.out.below hpz)
          have HF1Z := Lib.hid (HF12.out.below hpz)
          have HF3Z := Lib.hid (HF3.out.below hbz)
          have HR4Z := Lib.hid (HR4.out.below hbz)
          have HBB : Hid (Below B w (wy.alloc (.cells #[.slice l3 p3 o3, .slice l4 p4 o4] 61))) := HBP.out.trans (hpz.mono (by have := HBP.out.size; have := HZB.out; omega))
          have HID : Hid (∀ f ∈ fs, f.id.length ≤ 100000000) := fun f hf => by have := (HF.out.2 f hf).1.2.2.1; omega
          have HID2 : Hid (∀ f ∈ fs.take m', f.id.length ≤ 100000000) := fun f hf => HID.out f (List.mem_of_mem_take hf)
          generalize wy.alloc (.cells #[.slice l3 p3 o3, .slice l4 p4 o4] 61) = wz at *
          generalize wy.heap.size = P2 at *
          clear hbz hpz HP HBR2 HFR2 HF12 HF3 HR4 HBY HBP HER2 HCUT HLE
          generalize (joinS (fs.take m')).length = aN at *
          have hmc : m' ≤ cf := by have := HFZ.out.fit; omega
          have haq : aN ≤ q := hlq
          have hqn : q ≤ cb := hqc
          refine wp_region_facts (by kernel_rfl) (fs := [Fact.is (.pointer (some ⟨P, 0, none⟩)), Fact.is (.slice l1 p1 o1), Fact.is (.slice (some ⟨gf, 0, none⟩) i' cf), Fact.is (.bool true), Fact.is (.bool true), Fact.is (.pointer (some ⟨P, 1, none⟩)), Fact.is (.slice l2 0 o2), Fact.is (.int .i64 0), Fact.is (.bool true), Fact.is (.bool true), Fact.is (.bool true), Fact.is (.pointer (some ⟨P2, 0, none⟩)), Fact.is (.slice l3 p3 o3), Fact.is (.slice (some ⟨gf, 0, none⟩) i' cf), Fact.is (.int .i64 (m' : Int)), Fact.is (.slice (some ⟨gf, 0, none⟩) m' cf), Fact.is (.bool true), Fact.is (.bool true), Fact.is (.bool true), Fact.is (.pointer (some ⟨P2, 1, none⟩)), Fact.is (.slice l4 p4 o4), Fact.is (.slice (some ⟨gb, 0, none⟩) nb cb), Fact.is (.int .i64 (aN : Int)), Fact.is (.int .i64 (q : Int)), ByF (((joinS fs).take q).drop aN), Fact.is (.bool true), Fact.is (.bool true), Fact.is (.bool true), Fact.is (.bool true), Fact.is (.bool true), Fact.is (.bool true)]) (by kernel_rfl) (by kernel_rfl) ⟨Fact.is_stable _, Fact.is_stable _, Fact.is_stable _, Fact.is_stable _, Fact.is_stable _, Fact.is_stable _, Fact.is_stable _, Fact.is_stable _, Fact.is_stable _, Fact.is_stable _, Fact.is_stable _, Fact.is_stable _, Fact.is_stable _, Fact.is_stable _, Fact.is_stable _, Fact.is_stable _, Fact.is_stable _, Fact.is_stable _, Fact.is_stable _, Fact.is_stable _, Fact.is_stable _, Fact.is_stable _, Fact.is_stable _, Fact.is_stable _, byF_stable _, Fact.is_stable _, Fact.is_stable _, Fact.is_stable _, Fact.is_stable _, Fact.is_stable _, Fact.is_stable _, trivial⟩ ?_ ?_
          · exact ⟨by
                intro a W hA hB hd
                have hB := Lib.hid hB
                have p11 : a.eval (.tmp 11) = .pointer (some ⟨P, 0, none⟩) := hA.at 11 (by kernel_rfl)
                exact (step_pure (wanted_none rfl) (.pointer (some ⟨P, 0, none⟩)) (by simp [execOp, go_sem, tm p11]) rfl),
              by
                intro a W hA hB hd
                obtain ⟨q0, -⟩ := hd
                have h82 : a.eval (.tmp 82) = .pointer (some ⟨P, 0, none⟩) := q0
                have hB := Lib.hid hB
                have c0 := (HPZ.out.below hB.out HPZ.out.lt).c0
                exact (step_pure (wanted_none rfl) (.slice l1 p1 o1) (by simp [execOp, go_sem, tm h82, c0]) rfl),
              by
                intro a W hA hB hd
                have hB := Lib.hid hB
                have p8 : a.eval (.tmp 8) = .slice (some ⟨gf, 0, none⟩) i' cf := hA.at 8 (by kernel_rfl)
                exact (step_pure (wanted_none rfl) (.slice (some ⟨gf, 0, none⟩) i' cf) (by simp [execOp, go_sem, tm p8]) rfl),
              by
                intro a W hA hB hd
                obtain ⟨q0, q1, -⟩ := hd
                have h83 : a.eval (.tmp 83) = .slice l1 p1 o1 := q0
                have h84 : a.eval (.tmp 84) = .slice (some ⟨gf, 0, none⟩) i' cf := q1
                have hB := Lib.hid hB
                exact (step_calls (wanted_none rfl) rfl (vals := #[.slice l1 p1 o1, .slice (some ⟨gf, 0, none⟩) i' cf]) (by simp [h83, h84]) (enters_of Try.func40 (by kernel_rfl) rfl) ((sameFiles_any (HF1Z.out.below hB.out) (HFZ.out.below hB.out) HID.out HID.out).mono fun e w' ⟨he, hb⟩ => ⟨_, he, by rw [sameFs_true]; rfl, hb⟩)),
              by
                intro a W hA hB hd
                obtain ⟨q0, q1, -⟩ := hd
                have h85 : a.eval (.tmp 85) = .bool true := q0
                have hB := Lib.hid hB
                exact (step_pure (wanted_none rfl) (.bool true) (by simp [execOp, go_sem, tm h85]) rfl),
              by
                intro a W hA hB hd
                obtain ⟨q0, -⟩ := hd
                have h86 : a.eval (.tmp 86) = .bool true := q0
                have hB := Lib.hid hB
                have p11 : a.eval (.tmp 11) = .pointer (some ⟨P, 0, none⟩) := hA.at 11 (by kernel_rfl)
                exact (step_pure ((wanted_guard rfl 86 rfl h86).trans rfl) (.pointer (some ⟨P, 1, none⟩)) (by simp [execOp, go_sem, tm p11]) rfl),
              by
                intro a W hA hB hd
                obtain ⟨q0, q1, -⟩ := hd
                have h87 : a.eval (.tmp 87) = .pointer (some ⟨P, 1, none⟩) := q0
                have h86 : a.eval (.tmp 86) = .bool true := q1
                have hB := Lib.hid hB
                have c0 := (HPZ.out.below hB.out HPZ.out.lt).c1
                exact (step_pure ((wanted_guard rfl 86 rfl h86).trans rfl) (.slice l2 0 o2) (by simp [execOp, go_sem, tm h87, c0]) rfl),
              by
                intro a W hA hB hd
                obtain ⟨q0, q1, -⟩ := hd
                have h88 : a.eval (.tmp 88) = .slice l2 0 o2 := q0
                have h86 : a.eval (.tmp 86) = .bool true := q1
                have hB := Lib.hid hB
                exact (step_pure ((wanted_guard rfl 86 rfl h86).trans rfl) (.int .i64 0) (by simp [go_sem, tm h88]) rfl),
              by
                intro a W hA hB hd
                obtain ⟨q0, q1, -⟩ := hd
                have h89 : a.eval (.tmp 89) = .int .i64 0 := q0
                have h86 : a.eval (.tmp 86) = .bool true := q1
                have hB := Lib.hid hB
                exact (step_pure ((wanted_guard rfl 86 rfl h86).trans rfl) (.bool true) (by simp [execOp, go_sem, tm h89]) rfl),
              by
                intro a W hA hB hd
                obtain ⟨q0, q1, -⟩ := hd
                have h86 : a.eval (.tmp 86) = .bool true := q0
                have h90 : a.eval (.tmp 90) = .bool true := q1
                have hB := Lib.hid hB
                exact (step_pure (wanted_none rfl) (.bool true) (by simp [execOp, go_sem, tm h86, tm h90]) rfl),
              by
                intro a W hA hB hd
                obtain ⟨q0, q1, -⟩ := hd
                have h91 : a.eval (.tmp 91) = .bool true := q0
                have h86 : a.eval (.tmp 86) = .bool true := q1
                have hB := Lib.hid hB
                exact (step_pure (wanted_none rfl) (.bool true) (by simp [execOp, go_sem, tm h91]) rfl),
              by
                intro a W hA hB hd
                obtain ⟨q0, -⟩ := hd
                have h92 : a.eval (.tmp 92) = .bool true := q0
                have hB := Lib.hid hB
                have p16 : a.eval (.tmp 16) = .pointer (some ⟨P2, 0, none⟩) := hA.at 16 (by kernel_rfl)
                exact (step_pure ((wanted_guard rfl 92 rfl h92).trans rfl) (.pointer (some ⟨P2, 0, none⟩)) (by simp [execOp, go_sem, tm p16]) rfl),
              by
                intro a W hA hB hd
                obtain ⟨q0, q1, -⟩ := hd
                have h93 : a.eval (.tmp 93) = .pointer (some ⟨P2, 0, none⟩) := q0
                have h92 : a.eval (.tmp 92) = .bool true := q1
                have hB := Lib.hid hB
                have c0 := (HP2.out.below hB.out HP2.out.lt).c0
                exact (step_pure ((wanted_guard rfl 92 rfl h92).trans rfl) (.slice l3 p3 o3) (by simp [execOp, go_sem, tm h93, c0]) rfl),
              by
                intro a W hA hB hd
                obtain ⟨q0, -⟩ := hd
                have h92 : a.eval (.tmp 92) = .bool true := q0
                have hB := Lib.hid hB
                have p8 : a.eval (.tmp 8) = .slice (some ⟨gf, 0, none⟩) i' cf := hA.at 8 (by kernel_rfl)
                exact (step_pure ((wanted_guard rfl 92 rfl h92).trans rfl) (.slice (some ⟨gf, 0, none⟩) i' cf) (by simp [execOp, go_sem, tm p8]) rfl),
              by
                intro a W hA hB hd
                obtain ⟨q0, -⟩ := hd
                have h92 : a.eval (.tmp 92) = .bool true := q0
                have hB := Lib.hid hB
                have p13 : a.eval (.tmp 13) = .int .i64 (m' : Int) := hA.at 13 (by kernel_rfl)
                exact (step_pure ((wanted_guard rfl 92 rfl h92).trans rfl) (.int .i64 (m' : Int)) (by simp [execOp, go_sem, tm p13]) rfl),
              by
                intro a W hA hB hd
                obtain ⟨q0, q1, q2, -⟩ := hd
                have h95 : a.eval (.tmp 95) = .slice (some ⟨gf, 0, none⟩) i' cf := q0
                have h96 : a.eval (.tmp 96) = .int .i64 (m' : Int) := q1
                have h92 : a.eval (.tmp 92) = .bool true := q2
                have hB := Lib.hid hB
                exact (step_pure ((wanted_guard rfl 92 rfl h92).trans rfl) (.slice (some ⟨gf, 0, none⟩) m' cf) (by simp [execOp, go_sem, tm h95, tm h96, hmc]) rfl),
              by
                intro a W hA hB hd
                obtain ⟨q0, q1, q2, q3, -⟩ := hd
                have h94 : a.eval (.tmp 94) = .slice l3 p3 o3 := q0
                have h97 : a.eval (.tmp 97) = .slice (some ⟨gf, 0, none⟩) m' cf := q1
                have h92 : a.eval (.tmp 92) = .bool true := q2
                have hB := Lib.hid hB
                exact (step_calls ((wanted_guard rfl 92 rfl h92).trans rfl) rfl (vals := #[.slice l3 p3 o3, .slice (some ⟨gf, 0, none⟩) m' cf]) (by simp [h94, h97]) (enters_of Try.func40 (by kernel_rfl) rfl) ((sameFiles_any (HF3Z.out.below hB.out) ((HFZ.out.below hB.out).first m' hmi) HID2.out HID2.out).mono fun e w' ⟨he, hb⟩ => ⟨_, he, by rw [sameFs_true]; rfl, hb⟩)),
              by
                intro a W hA hB hd
                obtain ⟨q0, q1, -⟩ := hd
                have h92 : a.eval (.tmp 92) = .bool true := q0
                have h98 : a.eval (.tmp 98) = .bool true := q1
                have hB := Lib.hid hB
                exact (step_pure (wanted_none rfl) (.bool true) (by simp [execOp, go_sem, tm h92, tm h98]) rfl),
              by
                intro a W hA hB hd
                obtain ⟨q0, q1, -⟩ := hd
                have h99 : a.eval (.tmp 99) = .bool true := q0
                have h98 : a.eval (.tmp 98) = .bool true := q1
                have hB := Lib.hid hB
                exact (step_pure (wanted_none rfl) (.bool true) (by simp [execOp, go_sem, tm h99]) rfl),
              by
                intro a W hA hB hd
                obtain ⟨q0, -⟩ := hd
                have h100 : a.eval (.tmp 100) = .bool true := q0
                have hB := Lib.hid hB
                have p16 : a.eval (.tmp 16) = .pointer (some ⟨P2, 0, none⟩) := hA.at 16 (by kernel_rfl)
                exact (step_pure ((wanted_guard rfl 100 rfl h100).trans rfl) (.pointer (some ⟨P2, 1, none⟩)) (by simp [execOp, go_sem, tm p16]) rfl),
              by
                intro a W hA hB hd
                obtain ⟨q0, q1, -⟩ := hd
                have h101 : a.eval (.tmp 101) = .pointer (some ⟨P2, 1, none⟩) := q0
                have h100 : a.eval (.tmp 100) = .bool true := q1
                have hB := Lib.hid hB
                have c0 := (HP2.out.below hB.out HP2.out.lt).c1
                exact (step_pure ((wanted_guard rfl 100 rfl h100).trans rfl) (.slice l4 p4 o4) (by simp [execOp, go_sem, tm h101, c0]) rfl),
              by
                intro a W hA hB hd
                obtain ⟨q0, -⟩ := hd
                have h100 : a.eval (.tmp 100) = .bool true := q0
                have hB := Lib.hid hB
                have p6 : a.eval (.tmp 6) = .slice (some ⟨gb, 0, none⟩) nb cb := hA.at 6 (by kernel_rfl)
                exact (step_pure ((wanted_guard rfl 100 rfl h100).trans rfl) (.slice (some ⟨gb, 0, none⟩) nb cb) (by simp [execOp, go_sem, tm p6]) rfl),
              by
                intro a W hA hB hd
                obtain ⟨q0, -⟩ := hd
                have h100 : a.eval (.tmp 100) = .bool true := q0
                have hB := Lib.hid hB
                have p14 : a.eval (.tmp 14) = .int .i64 (aN : Int) := hA.at 14 (by kernel_rfl)
                exact (step_pure ((wanted_guard rfl 100 rfl h100).trans rfl) (.int .i64 (aN : Int)) (by simp [execOp, go_sem, tm p14]) rfl),
              by
                intro a W hA hB hd
                obtain ⟨q0, -⟩ := hd
                have h100 : a.eval (.tmp 100) = .bool true := q0
                have hB := Lib.hid hB
                have p12 : a.eval (.tmp 12) = .int .i64 (q : Int) := hA.at 12 (by kernel_rfl)
                exact (step_pure ((wanted_guard rfl 100 rfl h100).trans rfl) (.int .i64 (q : Int)) (by simp [execOp, go_sem, tm p12]) rfl),
              by
                intro a W hA hB hd
                obtain ⟨q0, q1, q2, q3, -⟩ := hd
                have h103 : a.eval (.tmp 103) = .slice (some ⟨gb, 0, none⟩) nb cb := q0
                have h104 : a.eval (.tmp 104) = .int .i64 (aN : Int) := q1
                have h105 : a.eval (.tmp 105) = .int .i64 (q : Int) := q2
                have h100 : a.eval (.tmp 100) = .bool true := q3
                have hB := Lib.hid hB
                have hbq := ((HBZ.out.below hB.out).first9 q hq).mono (K' := fun _ => True) (fun _ _ _ => trivial)
                by_cases hac : aN = cb
                · obtain rfl : q = aN := by omega
                  exact (step_pure ((wanted_guard rfl 100 rfl h100).trans rfl) (.slice (some ⟨gb, 0, none⟩) 0 0) (by simp [execOp, go_sem, tm h103, tm h104, tm h105, hac]) ⟨_, _, _, rfl, by rw [List.drop_eq_nil_of_le (by rw [List.length_take]; omega)]; exact ⟨rfl, Nat.le_refl _, by decide, by decide, fun h => absurd h (by decide)⟩⟩)
                · have hac3 : ¬ cb = aN := fun h => hac h.symm
                  exact (step_pure ((wanted_guard rfl 100 rfl h100).trans rfl) (.slice (some ⟨gb, 0 + aN, none⟩) (q - aN) (cb - aN)) (by simp [execOp, go_sem, tm h103, tm h104, tm h105, hac3, haq, hqn]) ⟨_, _, _, rfl, hbq.rest aN haq _ (by omega) (by omega) _ (fun _ => rfl)⟩),
              by
                intro a W hA hB hd
                obtain ⟨q0, q1, q2, q3, -⟩ := hd
                have h102 : a.eval (.tmp 102) = .slice l4 p4 o4 := q0
                have h106 : (ByF (((joinS fs).take q).drop aN)) (a.eval (.tmp 106)) W := q1
                have h100 : a.eval (.tmp 100) = .bool true := q2
                have hB := Lib.hid hB
                obtain ⟨xa, xn, xc, eb, rb⟩ := h106
                exact (step_calls ((wanted_guard rfl 100 rfl h100).trans rfl) rfl (vals := #[.slice l4 p4 o4, .slice xa xn xc]) (by simp [eb, h102]) (enters_of Try.func25 (by kernel_rfl) rfl) ((same_any (HR4Z.out.below hB.out) rb).mono fun e w' ⟨he, hb⟩ => ⟨_, he, by rw [sameB_true rfl]; rfl, hb⟩)),
              by
                intro a W hA hB hd
                obtain ⟨q0, q1, -⟩ := hd
                have h100 : a.eval (.tmp 100) = .bool true := q0
                have h107 : a.eval (.tmp 107) = .bool true := q1
                have hB := Lib.hid hB
                exact (step_pure (wanted_none rfl) (.bool true) (by simp [execOp, go_sem, tm h100, tm h107]) rfl),
              by
                intro a W hA hB hd
                obtain ⟨q0, q1, -⟩ := hd
                have h108 : a.eval (.tmp 108) = .bool true := q0
                have h107 : a.eval (.tmp 107) = .bool true := q1
                have hB := Lib.hid hB
                exact (step_pure (wanted_none rfl) (.bool true) (by simp [execOp, go_sem, tm h108]) rfl),
              by
                intro a W hA hB hd
                obtain ⟨q0, -⟩ := hd
                have h109 : a.eval (.tmp 109) = .bool true := q0
                have hB := Lib.hid hB
                have p5 : a.eval (.tmp 5) = .bool true := hA.at 5 (by kernel_rfl)
                exact (step_pure ((wanted_guard rfl 109 rfl h109).trans rfl) (.bool true) (by simp [execOp, go_sem, tm p5]) rfl),
              by
                intro a W hA hB hd
                obtain ⟨q0, q1, -⟩ := hd
                have h109 : a.eval (.tmp 109) = .bool true := q0
                have h110 : a.eval (.tmp 110) = .bool true := q1
                have hB := Lib.hid hB
                exact (step_pure (wanted_none rfl) (.bool true) (by simp [execOp, go_sem, tm h109, tm h110]) rfl),
              by
                intro a W hA hB hd
                obtain ⟨q0, q1, -⟩ := hd
                have h111 : a.eval (.tmp 111) = .bool true := q0
                have h109 : a.eval (.tmp 109) = .bool true := q1
                have hB := Lib.hid hB
                exact (step_pure (wanted_none rfl) (.bool true) (by simp [execOp, go_sem, tm h111]) rfl), trivial⟩
          · intro zx wv hA hB hE
            have h4 : zx.eval (.tmp 4) = .bool true := hE.2.2.2.2.2.2.2.2.2.2.2.2.2.2.2.2.2.2.2.2.2.2.2.2.2.2.2.2.2.2.1
            have HBX : Hid (Below w.heap.size w wv) := by rw [HZB.out]; exact HBB.out.trans (hB.mono (by have := HBB.out.size; have := HZB.out; omega))
            have hp := hA.puts [82, 83, 84, 85, 86, 87, 88, 89, 90, 91, 92, 93, 94, 95, 96, 97, 98, 99, 100, 101, 102, 103, 104, 105, 106, 107, 108, 109, 110, 111, 4] (by kernel_rfl)
            clear hA hE
            simp only [putAll, h4] at hp
            clear h4 hB
            generalize zx.eval = ev8 at hp
            subst hp
            simp [Act.put]
            go_wp2
            go_ret
            exact ⟨rfl, HBX.out⟩

end Go.Proofs.Ytdcapmbgnoahpaa.containerSplits

namespace Go.Proofs.Ytdcapmbgnoahpaa.containerSplits
open Go.ChangeShapes Go.WideShapes Go.ChangeAt Go.RowKit
open Go.Proofs.Ytdcapmbgnoahpaa

set_option maxRecDepth 100000 in
theorem lifted (os : Os) (started : os.Started) (H : Type) (enc : TypeId × Value → H) :
    ReturnsInHanded {} Try.checked os 8 .any (Rows.containerSplitsSpec.pre6 enc Try.prog Try.f8 Rows.containerSplitsRow.domain false) (Rows.containerSplitsSpec.post enc Try.prog Try.f8 false true false false) := by
  refine returnsInHanded_of_change (C := Try.checked) own4 started (by kernel_rfl) Try.func8
    (ChangeSpec.witness6 (enc := enc) (C := Try.checked) false ⟨#[], #[.slice none 0 0, .int .u16 0], []⟩ 8 (by kernel_rfl) (by kernel_rfl) (by kernel_rfl) (by kernel_rfl)) ?_
  intro W base args ds gs before hval0 hW hcnd _
  have hval : ∀ (j : Nat) t v, Try.f8.params[j]? = some t → args[j]? = some v → Value.okWide Try.prog W .any base t v := hval0
  have hW' := hW
  obtain ⟨p, q, hA0, hV, rfl, hfz, hnd⟩ := hW
  have hA : DataW.TrodAll enc Try.prog W 0 (fun _ => true) true Try.f8.params.toList args.toList ds p := hA0
  rw [Try.params8] at hA hval
  obtain ⟨v0, v1, d0, d1, p0, p1, rfl, rfl, rfl, h0, h1⟩ := trodAll_two hA
  obtain ⟨rfl, rfl⟩ := trodVars_none hV
  obtain ⟨a0, n0, c0, rfl, hR0⟩ := open_raws9 (hval 0 73 v0 rfl rfl) h0
  obtain ⟨x1, rfl, rfl, rfl, w1⟩ := open_int Try.underlying70 (hval 1 70 v1 rfl rfl) h1
  clear hA0 hval0
  simp only [List.append_nil] at hW'
  have hlt0 : ∀ x ∈ p0, x.block < W.heap.size := fun x hx => by simpa using hW'.lt x (by simp [hx])
  have hx1 : 0 ≤ x1 ∧ x1 < 65536 := by
    have := w1
    simp [Lit.wf, IntKind.min, IntKind.max, IntKind.signed, IntKind.bits] at this; omega
  obtain ⟨y1, rfl⟩ := Int.eq_ofNat_of_zero_le hx1.1
  have fin : Calls Try.prog 8 #[.slice a0 n0 c0, .int .u16 (y1 : Int)] W fun e w' => e = .returned (.bool true) ∧ Below W.heap.size W w' := by
    exact walk (by omega) hR0
  refine fin.mono fun e W' ⟨he, hg⟩ => ?_
  subst he
  exact ⟨_, rfl, ⟨_, _, _, [], p0 ++ [], [], hW', trodAll_mk1 (shut_bool Try.underlying4 _), trodAll_mk2 (Below.trod laidOut4 (by kernel_rfl) (of_decide_eq_true (by kernel_rfl)) h0 hg hlt0) (shut_int Try.underlying70 w1), rfl, hg.frame _, fun h => by cases h⟩⟩

theorem over : Rows.containerSplitsRow.holds Try.pinned (OpenSpec.ofChange Rows.containerSplitsSpec) :=
  OpenClaim.holds_of_wide 8 Try.f8 rfl rfl rfl rfl rfl rfl rfl ⟨rfl, rfl, rfl, rfl, rfl⟩ rfl rfl rfl rfl rfl (by kernel_rfl) Try.func8 (by kernel_rfl)
    (of_decide_eq_true (by kernel_rfl)) (by unfold Func.isWrapper; first | (rw [if_pos (by decide +kernel)]; kernel_rfl) | (rw [if_neg (by decide +kernel)]; exact ⟨rfl, rfl⟩))
    (fun os started H enc _ => lifted os started H enc)

/-- The statement. -/
theorem proved : Rows.ContainerSplitsSaid := over
#print axioms proved

end Go.Proofs.Ytdcapmbgnoahpaa.containerSplits
