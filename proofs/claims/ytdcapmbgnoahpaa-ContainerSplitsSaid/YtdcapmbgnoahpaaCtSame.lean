/-
  Whether two opened files, or two lists of files, are equal; made files.
-/
import Derived.Test.YtdcapmbgnoahpaaCtWrap
import Derived.Lib.QuietBelow
import Derived.Deep.Cut
namespace Go.Proofs.Ytdcapmbgnoahpaa
open Go Go.RowKit Go.Shelf Go.ChangeShapes Go.WideShapes Go.ChangeAt

def sameO (k : Int) (id data r : List Int) (e : Int) (k' : Int) (id' data' r' : List Int) (e' : Int) : Bool := decide (e = e') && sameX k id data k' id' data' && sameB r r'

set_option maxRecDepth 100000 in
set_option maxHeartbeats 2000000 in
theorem same9_any {K1 K2 K3 K4 K5 K6 : Nat → Prop} {k k' e e' : Int} {a1 a2 a3 a1' a2' a3' : Option Addr} {n1 c1 n2 c2 n3 c3 n1' c1' n2' c2' n3' c3' : Nat} {id data r id' data' r' : List Int} {w : World} (h1 : Rd K1 w .i64 a1 n1 c1 id) (h2 : Rd K2 w .u8 a2 n2 c2 data) (h3 : Rd K3 w .u8 a3 n3 c3 r) (h1' : Rd K4 w .i64 a1' n1' c1' id') (h2' : Rd K5 w .u8 a2' n2' c2' data') (h3' : Rd K6 w .u8 a3' n3' c3' r')
    (hn : n1 ≤ 100000000) (hn' : n1' ≤ 100000000) :
    Calls Try.prog 37 #[.agg #[.int .i64 k, .slice a1 n1 c1, .slice a2 n2 c2, .slice a3 n3 c3, .int .i64 e], .agg #[.int .i64 k', .slice a1' n1' c1', .slice a2' n2' c2', .slice a3' n3' c3', .int .i64 e']] w fun en V => en = .returned (.bool (sameO k id data r e k' id' data' r' e')) ∧ Below w.heap.size w V := by
  have hb1 : Below w.heap.size w (w.alloc (.cells #[.int .i64 k, .slice a1 n1 c1, .slice a2 n2 c2, .slice a3 n3 c3, .int .i64 e] 65)) := (Below.refl _ _).alloc (Nat.le_refl _) _
  have hq1 := OpB.new w (.int .i64 k) (.slice a1 n1 c1) (.slice a2 n2 c2) (.slice a3 n3 c3) (.int .i64 e)
  have hs1 : (w.alloc (.cells #[.int .i64 k, .slice a1 n1 c1, .slice a2 n2 c2, .slice a3 n3 c3, .int .i64 e] 65)).heap.size = w.heap.size + 1 := World.size_alloc ..
  have hb2 : Below (w.alloc (.cells #[.int .i64 k, .slice a1 n1 c1, .slice a2 n2 c2, .slice a3 n3 c3, .int .i64 e] 65)).heap.size (w.alloc (.cells #[.int .i64 k, .slice a1 n1 c1, .slice a2 n2 c2, .slice a3 n3 c3, .int .i64 e] 65)) ((w.alloc (.cells #[.int .i64 k, .slice a1 n1 c1, .slice a2 n2 c2, .slice a3 n3 c3, .int .i64 e] 65)).alloc (.cells #[.int .i64 k', .slice a1' n1' c1', .slice a2' n2' c2', .slice a3' n3' c3', .int .i64 e'] 65)) := (Below.refl _ _).alloc (Nat.le_refl _) _
  have hq2 := OpB.new (w.alloc (.cells #[.int .i64 k, .slice a1 n1 c1, .slice a2 n2 c2, .slice a3 n3 c3, .int .i64 e] 65)) (.int .i64 k') (.slice a1' n1' c1') (.slice a2' n2' c2') (.slice a3' n3' c3') (.int .i64 e')
  have HQ1 := Lib.hid (hq1.below hb2 hq1.lt)
  rw [hs1] at hq2
  have HQ2 := Lib.hid hq2
  have hbb := hb1.trans (hb2.mono hb1.size)
  have HR1 := Lib.hid (h1.below hbb)
  have HR2 := Lib.hid (h2.below hbb)
  have HR3 := Lib.hid (h3.below hbb)
  have HR1' := Lib.hid (h1'.below hbb)
  have HR2' := Lib.hid (h2'.below hbb)
  have HR3' := Lib.hid (h3'.below hbb)
  have HBB := Lib.hid hbb
  have HN := Lib.hid hn
  have HN' := Lib.hid hn'
  clear h1 h2 h3 h1' h2' h3' hb1 hb2 hq1 hq2 hbb hs1 hn hn'
  obtain ⟨q0, q1, q2, q3, q4⟩ := HQ1.out.cell
  obtain ⟨r0, r1, r2, r3, r4⟩ := HQ2.out.cell
  by_cases he : e = e'
  · subst he
    cases hx : sameX k id data k' id' data' with
    | false =>
      have HF : Hid (sameO k id data r e k' id' data' r' e = false) := by show _ = _; unfold sameO; rw [hx]; simp
      have HX := Lib.hid hx
      clear hx
      go_enter Try.func37, Try.ntmps37
      go_wp2_with (go_at_call 60; refine (rsame_any HR1.out HR2.out HR1'.out HR2'.out HN.out HN'.out).mono ?_; rintro e V ⟨rfl, hb⟩; rw [HX.out]; have HBV : Hid (Below w.heap.size w V) := HBB.out.trans (hb.mono HBB.out.size); clear hb)
      go_ret
      exact ⟨by rw [HF.out]; rfl, HBV.out⟩
    | true =>
      have HF : Hid (sameO k id data r e k' id' data' r' e = sameB r r') := by show _ = _; unfold sameO; rw [hx]; simp
      have HX := Lib.hid hx
      clear hx
      go_enter Try.func37, Try.ntmps37
      go_wp2_with (first
        | (go_at_call 60; refine (rsame_any HR1.out HR2.out HR1'.out HR2'.out HN.out HN'.out).mono ?_; rintro e V ⟨rfl, hb⟩; rw [HX.out]; have HBV : Hid (Below w.heap.size w V) := HBB.out.trans (hb.mono HBB.out.size); have HQV1 := Lib.hid (HQ1.out.below hb HQ1.out.lt); have HQV2 := Lib.hid (HQ2.out.below hb HQ2.out.lt); have HS := Lib.hid (HR3.out.below hb); have HS' := Lib.hid (HR3'.out.below hb); clear hb q0 q1 q2 q3 q4 r0 r1 r2 r3 r4; have q3 := HQV1.out.cell.2.2.2.1; have r3 := HQV2.out.cell.2.2.2.1)
        | (go_at_call 25; refine (same_any HS.out HS'.out).mono ?_; rintro e w' ⟨rfl, hb2⟩; have HB2 := Lib.hid hb2; clear hb2; rw [← HF.out]))
      go_ret
      exact ⟨rfl, HBV.out.trans (HB2.out.mono HBV.out.size)⟩
  · have HF : Hid (sameO k id data r e k' id' data' r' e' = false) := by show _ = _; unfold sameO; rw [decide_eq_false he]; simp
    have heb : (e == e') = false := by simpa using he
    clear he
    go_enter Try.func37, Try.ntmps37
    go_wp2
    go_ret
    exact ⟨by rw [HF.out]; rfl, HBB.out⟩

theorem eqF_of_getD {a b : List Fl} (hl : a.length = b.length) (h : ∀ j, j < a.length → a[j]?.getD Fl.none = b[j]?.getD Fl.none) : a = b := by
  apply List.ext_getElem hl
  intro j h1 h2
  have := h j h1
  rwa [List.getElem?_eq_getElem h1, List.getElem?_eq_getElem h2] at this
def sameFs (a b : List Fl) : Bool := decide (a = b)

set_option maxRecDepth 100000 in
set_option maxHeartbeats 2000000 in
theorem sameFiles_any {K K' L L' : Nat → Prop} {a a' : Option Addr} {n c n' c' : Nat} {fs gs : List Fl} {W : World} (h1 : RdFs K L W a n c fs) (h2 : RdFs K' L' W a' n' c' gs) (hi : ∀ f ∈ fs, f.id.length ≤ 100000000) (hi' : ∀ f ∈ gs, f.id.length ≤ 100000000) :
    Calls Try.prog 40 #[.slice a n c, .slice a' n' c'] W fun e V => e = .returned (.bool (sameFs fs gs)) ∧ Below W.heap.size W V := by
  have H1 := Lib.hid h1
  have H2 := Lib.hid h2
  have hs1 := h1.small
  have hs2 := h2.small
  have HL1 := Lib.hid h1.hl
  have HL2 := Lib.hid h2.hl
  have HI1 := Lib.hid hi
  have HI2 := Lib.hid hi'
  clear h1 h2 hi hi'
  by_cases hne : n = n'
  · subst hne
    go_enter Try.func40, Try.ntmps40
    go_wp2
    go_loopw [5] (fun i wr => ∃ k : Nat, k ≤ n ∧ i = .int .i64 (k : Int) ∧ Hid (∀ j, j < k → fs[j]?.getD Fl.none = gs[j]?.getD Fl.none) ∧ Hid (Below W.heap.size W wr)) (fun i _ => n - (intOf i).toNat)
    case atStart => exact ⟨0, Nat.zero_le _, rfl, fun j h => absurd h (Nat.not_lt_zero j), Below.refl _ _⟩
    case round =>
      obtain ⟨k, hk, rfl, HE, HB⟩ := hrel
      by_cases hlt : k < n
      · obtain ⟨b, off, rfl, _, hb1, hc⟩ := H1.out.cells (by omega)
        obtain ⟨b', off', rfl, _, hb2, hc'⟩ := H2.out.cells (by omega)
        obtain ⟨f, f0, f1, f2, hf⟩ := hc k hlt
        obtain ⟨g, g0, g1, g2, hg⟩ := hc' k hlt
        obtain ⟨fk, fa1, fn1, fc1, fa2, fn2, fc2⟩ := f
        obtain ⟨gk, ga1, gn1, gc1, ga2, gn2, gc2⟩ := g
        obtain ⟨hfk, hfi, hfd⟩ := hf
        obtain ⟨hgk, hgi, hgd⟩ := hg
        have hfk : fk = _ := hfk
        have hgk : gk = _ := hgk
        have f0 : wr.cell? ⟨b, off + k * 3, none⟩ = some (.int .i64 fk) := (HB.out.cell (p := ⟨b, off + k * 3, none⟩) hb1).trans f0
        have f1 : wr.cell? ⟨b, off + k * 3 + 1, none⟩ = some (.slice fa1 fn1 fc1) := (HB.out.cell (p := ⟨b, off + k * 3 + 1, none⟩) hb1).trans f1
        have f2 : wr.cell? ⟨b, off + k * 3 + 2, none⟩ = some (.slice fa2 fn2 fc2) := (HB.out.cell (p := ⟨b, off + k * 3 + 2, none⟩) hb1).trans f2
        have g0 : wr.cell? ⟨b', off' + k * 3, none⟩ = some (.int .i64 gk) := (HB.out.cell (p := ⟨b', off' + k * 3, none⟩) hb2).trans g0
        have g1 : wr.cell? ⟨b', off' + k * 3 + 1, none⟩ = some (.slice ga1 gn1 gc1) := (HB.out.cell (p := ⟨b', off' + k * 3 + 1, none⟩) hb2).trans g1
        have g2 : wr.cell? ⟨b', off' + k * 3 + 2, none⟩ = some (.slice ga2 gn2 gc2) := (HB.out.cell (p := ⟨b', off' + k * 3 + 2, none⟩) hb2).trans g2
        have hfm : (fs[k]?.getD Fl.none).id.length ≤ 100000000 := by
          have hk2 : k < fs.length := by rw [← HL1.out]; exact hlt
          rw [List.getElem?_eq_getElem hk2]; exact HI1.out _ (List.getElem_mem hk2)
        have hgm : (gs[k]?.getD Fl.none).id.length ≤ 100000000 := by
          have hk2 : k < gs.length := by rw [← HL2.out]; exact hlt
          rw [List.getElem?_eq_getElem hk2]; exact HI2.out _ (List.getElem_mem hk2)
        have hfn : fn1 ≤ 100000000 := by have h : fn1 = _ := hfi.hl; omega
        have hgn : gn1 ≤ 100000000 := by have h : gn1 = _ := hgi.hl; omega
        have HCS : Hid (∀ V, Below wr.heap.size wr V → Calls Try.prog 60 #[.agg #[.int .i64 fk, .slice fa1 fn1 fc1, .slice fa2 fn2 fc2], .agg #[.int .i64 gk, .slice ga1 gn1 gc1, .slice ga2 gn2 gc2]] V fun e w' => e = .returned (.bool (decide (fs[k]?.getD Fl.none = gs[k]?.getD Fl.none))) ∧ Below V.heap.size V w') := fun V hbv => by
          have hbr := HB.out.trans (hbv.mono HB.out.size)
          refine (rsame_any (k := fk) (k' := gk) (hfi.below hbr) (hfd.below hbr) (hgi.below hbr) (hgd.below hbr) hfn hgn).mono ?_
          rintro e V' ⟨rfl, hb⟩
          refine ⟨?_, hb⟩
          congr 2
          unfold sameX
          rw [decide_eq_decide, hfk, hgk]
          constructor
          · rintro ⟨⟨e1, e2⟩, e3⟩
            generalize fs[k]?.getD Fl.none = F at *
            generalize gs[k]?.getD Fl.none = G at *
            cases F; cases G
            simp_all
          · intro e; rw [e]; exact ⟨⟨rfl, rfl⟩, rfl⟩
        clear hc hc' hfi hfd hgi hgd hfk hgk hfm hgm hfn hgn
        by_cases he : fs[k]?.getD Fl.none = gs[k]?.getD Fl.none
        · have HE2 : Hid (∀ j, j < k + 1 → fs[j]?.getD Fl.none = gs[j]?.getD Fl.none) := fun j hj => by
            by_cases h : j = k
            · rw [h]; exact he
            · exact HE.out j (by omega)
          rw [decide_eq_true he] at HCS
          clear he
          go_upto_region 6 with fail
          have HLT1 : Hid (b < wr.heap.size) := Nat.lt_of_lt_of_le hb1 HB.out.size
          have HLT2 : Hid (b' < wr.heap.size) := Nat.lt_of_lt_of_le hb2 HB.out.size
          refine wp_region_facts (by kernel_rfl) (fs := [Fact.is (.slice (some ⟨b, off, none⟩) n c), Fact.is (.int .i64 (k : Int)), Fact.is (.pointer (some ⟨b, off + k * 3, none⟩)), Fact.is (.agg #[.int .i64 fk, .slice fa1 fn1 fc1, .slice fa2 fn2 fc2]), Fact.is (.slice (some ⟨b', off', none⟩) n c'), Fact.is (.int .i64 (k : Int)), Fact.is (.pointer (some ⟨b', off' + k * 3, none⟩)), Fact.is (.agg #[.int .i64 gk, .slice ga1 gn1 gc1, .slice ga2 gn2 gc2]), Fact.is (.bool true), Fact.is (.bool false)]) (by kernel_rfl) (by kernel_rfl) ⟨Fact.is_stable _, Fact.is_stable _, Fact.is_stable _, Fact.is_stable _, Fact.is_stable _, Fact.is_stable _, Fact.is_stable _, Fact.is_stable _, Fact.is_stable _, Fact.is_stable _, trivial⟩ ?_ ?_
          · exact ⟨by
                intro a W hA hB hd
                have hB := Lib.hid hB
                have p0 : a.eval (.tmp 0) = .slice (some ⟨b, off, none⟩) n c := hA.at 0 (by kernel_rfl)
                exact (step_pure (wanted_none rfl) (.slice (some ⟨b, off, none⟩) n c) (by simp [execOp, go_sem, tm p0]) rfl),
              by
                intro a W hA hB hd
                have hB := Lib.hid hB
                have p5 : a.eval (.tmp 5) = .int .i64 (k : Int) := hA.at 5 (by kernel_rfl)
                exact (step_pure (wanted_none rfl) (.int .i64 (k : Int)) (by simp [execOp, go_sem, tm p5]) rfl),
              by
                intro a W hA hB hd
                obtain ⟨q0, q1, -⟩ := hd
                have h17 : a.eval (.tmp 17) = .slice (some ⟨b, off, none⟩) n c := q0
                have h18 : a.eval (.tmp 18) = .int .i64 (k : Int) := q1
                have hB := Lib.hid hB
                exact (step_pure (wanted_none rfl) (.pointer (some ⟨b, off + k * 3, none⟩)) (by simp [execOp, go_sem, tm h17, tm h18, hlt]) rfl),
              by
                intro a W hA hB hd
                obtain ⟨q0, -⟩ := hd
                have h19 : a.eval (.tmp 19) = .pointer (some ⟨b, off + k * 3, none⟩) := q0
                have hB := Lib.hid hB
                have c0 := (hB.out.cell (p := ⟨b, off + k * 3, none⟩) (HLT1.out)).trans f0
                have c1 := (hB.out.cell (p := ⟨b, off + k * 3 + 1, none⟩) (HLT1.out)).trans f1
                have c2 := (hB.out.cell (p := ⟨b, off + k * 3 + 2, none⟩) (HLT1.out)).trans f2
                exact (step_pure (wanted_none rfl) (.agg #[.int .i64 fk, .slice fa1 fn1 fc1, .slice fa2 fn2 fc2]) (by simp [execOp, go_sem, tm h19, c0, c1, c2]) rfl),
              by
                intro a W hA hB hd
                have hB := Lib.hid hB
                have p1 : a.eval (.tmp 1) = .slice (some ⟨b', off', none⟩) n c' := hA.at 1 (by kernel_rfl)
                exact (step_pure (wanted_none rfl) (.slice (some ⟨b', off', none⟩) n c') (by simp [execOp, go_sem, tm p1]) rfl),
              by
                intro a W hA hB hd
                have hB := Lib.hid hB
                have p5 : a.eval (.tmp 5) = .int .i64 (k : Int) := hA.at 5 (by kernel_rfl)
                exact (step_pure (wanted_none rfl) (.int .i64 (k : Int)) (by simp [execOp, go_sem, tm p5]) rfl),
              by
                intro a W hA hB hd
                obtain ⟨q0, q1, -⟩ := hd
                have h21 : a.eval (.tmp 21) = .slice (some ⟨b', off', none⟩) n c' := q0
                have h22 : a.eval (.tmp 22) = .int .i64 (k : Int) := q1
                have hB := Lib.hid hB
                exact (step_pure (wanted_none rfl) (.pointer (some ⟨b', off' + k * 3, none⟩)) (by simp [execOp, go_sem, tm h21, tm h22, hlt]) rfl),
              by
                intro a W hA hB hd
                obtain ⟨q0, -⟩ := hd
                have h23 : a.eval (.tmp 23) = .pointer (some ⟨b', off' + k * 3, none⟩) := q0
                have hB := Lib.hid hB
                have c0 := (hB.out.cell (p := ⟨b', off' + k * 3, none⟩) (HLT2.out)).trans g0
                have c1 := (hB.out.cell (p := ⟨b', off' + k * 3 + 1, none⟩) (HLT2.out)).trans g1
                have c2 := (hB.out.cell (p := ⟨b', off' + k * 3 + 2, none⟩) (HLT2.out)).trans g2
                exact (step_pure (wanted_none rfl) (.agg #[.int .i64 gk, .slice ga1 gn1 gc1, .slice ga2 gn2 gc2]) (by simp [execOp, go_sem, tm h23, c0, c1, c2]) rfl),
              by
                intro a W hA hB hd
                obtain ⟨q0, q1, -⟩ := hd
                have h20 : a.eval (.tmp 20) = .agg #[.int .i64 fk, .slice fa1 fn1 fc1, .slice fa2 fn2 fc2] := q0
                have h24 : a.eval (.tmp 24) = .agg #[.int .i64 gk, .slice ga1 gn1 gc1, .slice ga2 gn2 gc2] := q1
                have hB := Lib.hid hB
                exact (step_calls (wanted_none rfl) rfl (vals := #[.agg #[.int .i64 fk, .slice fa1 fn1 fc1, .slice fa2 fn2 fc2], .agg #[.int .i64 gk, .slice ga1 gn1 gc1, .slice ga2 gn2 gc2]]) (by simp [h20, h24]) (enters_of Try.func60 (by kernel_rfl) rfl) ((HCS.out W hB.out).mono fun e w' ⟨he, hb⟩ => ⟨_, he, rfl, hb⟩)),
              by
                intro a W hA hB hd
                obtain ⟨q0, -⟩ := hd
                have h25 : a.eval (.tmp 25) = .bool true := q0
                have hB := Lib.hid hB
                exact (step_pure (wanted_none rfl) (.bool false) (by simp [execOp, go_sem, tm h25]) rfl), trivial⟩
          · intro zx WQ hA hB hE
            have h26 : zx.eval (.tmp 26) = .bool false := hE.2.2.2.2.2.2.2.2.2.1
            have hp := hA.puts [17, 18, 19, 20, 21, 22, 23, 24, 25, 26] (by kernel_rfl)
            clear hA hE
            simp only [putAll, h26] at hp
            clear h26
            generalize zx.eval = ev at hp
            subst hp
            have HBQ : Hid (Below W.heap.size W WQ) := HB.out.trans (hB.mono HB.out.size)
            clear HCS f0 f1 f2 g0 g1 g2 hB
            simp [Act.put]
            go_wp2
            go_roundw
            case rel => exact ⟨k + 1, by omega, by go_num, HE2, HBQ⟩
            case measure => simp [intOf]; omega
        · have HF : Hid (sameFs fs gs = false) := decide_eq_false (fun e => he (by rw [e]))
          rw [decide_eq_false he] at HCS
          clear he
          go_upto_region 6 with fail
          have HLT1 : Hid (b < wr.heap.size) := Nat.lt_of_lt_of_le hb1 HB.out.size
          have HLT2 : Hid (b' < wr.heap.size) := Nat.lt_of_lt_of_le hb2 HB.out.size
          refine wp_region_facts (by kernel_rfl) (fs := [Fact.is (.slice (some ⟨b, off, none⟩) n c), Fact.is (.int .i64 (k : Int)), Fact.is (.pointer (some ⟨b, off + k * 3, none⟩)), Fact.is (.agg #[.int .i64 fk, .slice fa1 fn1 fc1, .slice fa2 fn2 fc2]), Fact.is (.slice (some ⟨b', off', none⟩) n c'), Fact.is (.int .i64 (k : Int)), Fact.is (.pointer (some ⟨b', off' + k * 3, none⟩)), Fact.is (.agg #[.int .i64 gk, .slice ga1 gn1 gc1, .slice ga2 gn2 gc2]), Fact.is (.bool false), Fact.is (.bool true)]) (by kernel_rfl) (by kernel_rfl) ⟨Fact.is_stable _, Fact.is_stable _, Fact.is_stable _, Fact.is_stable _, Fact.is_stable _, Fact.is_stable _, Fact.is_stable _, Fact.is_stable _, Fact.is_stable _, Fact.is_stable _, trivial⟩ ?_ ?_
          · exact ⟨by
                intro a W hA hB hd
                have hB := Lib.hid hB
                have p0 : a.eval (.tmp 0) = .slice (some ⟨b, off, none⟩) n c := hA.at 0 (by kernel_rfl)
                exact (step_pure (wanted_none rfl) (.slice (some ⟨b, off, none⟩) n c) (by simp [execOp, go_sem, tm p0]) rfl),
              by
                intro a W hA hB hd
                have hB := Lib.hid hB
                have p5 : a.eval (.tmp 5) = .int .i64 (k : Int) := hA.at 5 (by kernel_rfl)
                exact (step_pure (wanted_none rfl) (.int .i64 (k : Int)) (by simp [execOp, go_sem, tm p5]) rfl),
              by
                intro a W hA hB hd
                obtain ⟨q0, q1, -⟩ := hd
                have h17 : a.eval (.tmp 17) = .slice (some ⟨b, off, none⟩) n c := q0
                have h18 : a.eval (.tmp 18) = .int .i64 (k : Int) := q1
                have hB := Lib.hid hB
                exact (step_pure (wanted_none rfl) (.pointer (some ⟨b, off + k * 3, none⟩)) (by simp [execOp, go_sem, tm h17, tm h18, hlt]) rfl),
              by
                intro a W hA hB hd
                obtain ⟨q0, -⟩ := hd
                have h19 : a.eval (.tmp 19) = .pointer (some ⟨b, off + k * 3, none⟩) := q0
                have hB := Lib.hid hB
                have c0 := (hB.out.cell (p := ⟨b, off + k * 3, none⟩) (HLT1.out)).trans f0
                have c1 := (hB.out.cell (p := ⟨b, off + k * 3 + 1, none⟩) (HLT1.out)).trans f1
                have c2 := (hB.out.cell (p := ⟨b, off + k * 3 + 2, none⟩) (HLT1.out)).trans f2
                exact (step_pure (wanted_none rfl) (.agg #[.int .i64 fk, .slice fa1 fn1 fc1, .slice fa2 fn2 fc2]) (by simp [execOp, go_sem, tm h19, c0, c1, c2]) rfl),
              by
                intro a W hA hB hd
                have hB := Lib.hid hB
                have p1 : a.eval (.tmp 1) = .slice (some ⟨b', off', none⟩) n c' := hA.at 1 (by kernel_rfl)
                exact (step_pure (wanted_none rfl) (.slice (some ⟨b', off', none⟩) n c') (by simp [execOp, go_sem, tm p1]) rfl),
              by
                intro a W hA hB hd
                have hB := Lib.hid hB
                have p5 : a.eval (.tmp 5) = .int .i64 (k : Int) := hA.at 5 (by kernel_rfl)
                exact (step_pure (wanted_none rfl) (.int .i64 (k : Int)) (by simp [execOp, go_sem, tm p5]) rfl),
              by
                intro a W hA hB hd
                obtain ⟨q0, q1, -⟩ := hd
                have h21 : a.eval (.tmp 21) = .slice (some ⟨b', off', none⟩) n c' := q0
                have h22 : a.eval (.tmp 22) = .int .i64 (k : Int) := q1
                have hB := Lib.hid hB
                exact (step_pure (wanted_none rfl) (.pointer (some ⟨b', off' + k * 3, none⟩)) (by simp [execOp, go_sem, tm h21, tm h22, hlt]) rfl),
              by
                intro a W hA hB hd
                obtain ⟨q0, -⟩ := hd
                have h23 : a.eval (.tmp 23) = .pointer (some ⟨b', off' + k * 3, none⟩) := q0
                have hB := Lib.hid hB
                have c0 := (hB.out.cell (p := ⟨b', off' + k * 3, none⟩) (HLT2.out)).trans g0
                have c1 := (hB.out.cell (p := ⟨b', off' + k * 3 + 1, none⟩) (HLT2.out)).trans g1
                have c2 := (hB.out.cell (p := ⟨b', off' + k * 3 + 2, none⟩) (HLT2.out)).trans g2
                exact (step_pure (wanted_none rfl) (.agg #[.int .i64 gk, .slice ga1 gn1 gc1, .slice ga2 gn2 gc2]) (by simp [execOp, go_sem, tm h23, c0, c1, c2]) rfl),
              by
                intro a W hA hB hd
                obtain ⟨q0, q1, -⟩ := hd
                have h20 : a.eval (.tmp 20) = .agg #[.int .i64 fk, .slice fa1 fn1 fc1, .slice fa2 fn2 fc2] := q0
                have h24 : a.eval (.tmp 24) = .agg #[.int .i64 gk, .slice ga1 gn1 gc1, .slice ga2 gn2 gc2] := q1
                have hB := Lib.hid hB
                exact (step_calls (wanted_none rfl) rfl (vals := #[.agg #[.int .i64 fk, .slice fa1 fn1 fc1, .slice fa2 fn2 fc2], .agg #[.int .i64 gk, .slice ga1 gn1 gc1, .slice ga2 gn2 gc2]]) (by simp [h20, h24]) (enters_of Try.func60 (by kernel_rfl) rfl) ((HCS.out W hB.out).mono fun e w' ⟨he, hb⟩ => ⟨_, he, rfl, hb⟩)),
              by
                intro a W hA hB hd
                obtain ⟨q0, -⟩ := hd
                have h25 : a.eval (.tmp 25) = .bool false := q0
                have hB := Lib.hid hB
                exact (step_pure (wanted_none rfl) (.bool true) (by simp [execOp, go_sem, tm h25]) rfl), trivial⟩
          · intro zx WQ hA hB hE
            have h26 : zx.eval (.tmp 26) = .bool true := hE.2.2.2.2.2.2.2.2.2.1
            have hp := hA.puts [17, 18, 19, 20, 21, 22, 23, 24, 25, 26] (by kernel_rfl)
            clear hA hE
            simp only [putAll, h26] at hp
            clear h26
            generalize zx.eval = ev at hp
            subst hp
            have HBQ : Hid (Below W.heap.size W WQ) := HB.out.trans (hB.mono HB.out.size)
            clear HCS f0 f1 f2 g0 g1 g2 hB
            simp [Act.put]
            go_wp2
            go_ret
            exact ⟨by rw [HF.out]; rfl, HBQ.out⟩
      · obtain rfl : k = n := by omega
        have HF : Hid (sameFs fs gs = true) := decide_eq_true (eqF_of_getD (HL1.out.symm.trans HL2.out) (by rw [← HL1.out]; exact HE.out))
        go_wp2
        go_ret
        exact ⟨by rw [HF.out]; rfl, HB.out⟩
  · have HF : Hid (sameFs fs gs = false) := decide_eq_false (fun e => hne (by rw [HL1.out, HL2.out, e]))
    have hnb : ((n : Int) != (n' : Int)) = true := by simp; omega
    go_enter Try.func40, Try.ntmps40
    go_wp2
    go_ret
    exact ⟨by rw [HF.out]; rfl, Below.refl _ _⟩

end Go.Proofs.Ytdcapmbgnoahpaa
