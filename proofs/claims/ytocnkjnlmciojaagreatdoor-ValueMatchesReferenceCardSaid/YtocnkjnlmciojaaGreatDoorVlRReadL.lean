/-
  The reference's ReadListIn of values.
-/
import Derived.Test.YtocnkjnlmciojaaGreatDoorVlRRead2
import Derived.Test.YtocnkjnlmciojaaGreatDoorVlReadL
namespace Go.Proofs.YtocnkjnlmciojaaGreatDoor
open Go Go.RowKit Go.Shelf Go.ChangeShapes Go.WideShapes Go.ChangeAt

theorem rread_any {K : Nat → Prop} {a : Option Addr} {len cap : Nat} {bs : List Int} (ho : Oct bs) {w : World} (hR : Rd K w .u8 a len cap bs) (hK : ∀ b, K b → b < w.heap.size) :
    Calls Tryz.prog 53 #[.slice a len cap] w (RdGP K (rdV bs) bs w) := by
  rcases bs with _ | ⟨x, r⟩
  · obtain rfl : len = 0 := hR.hl
    exact rread_nil
  · have hl : len = r.length + 1 := hR.hl
    obtain ⟨b, off, rfl, _⟩ := hR.cells (by omega)
    exact rread_cons ho hR hK

/-- What the reference's reading of a list comes to. -/
def RdLGP (K : Nat → Prop) (q : List Vl × List Int × Int) (W : World) (e : Ending) (W' : World) : Prop :=
  Below W.heap.size W W' ∧ ((q.2.2 = 0 ∧ ∃ a1 n1 c1 a2 n2 c2, e = .returned (encG Vl.null (.slice a1 n1 c1) (.slice a2 n2 c2) 0) ∧ RdV (fun b => W.heap.size ≤ b) W' a1 n1 c1 q.1 ∧ Rd K W' .u8 a2 n2 c2 q.2.1) ∨
    (q.2.2 ≠ 0 ∧ e = .returned (encG Vl.null (.slice none 0 0) (.slice none 0 0) q.2.2)))
theorem RdLGP.bad {K : Nat → Prop} {q : List Vl × List Int × Int} {W : World} {e : Ending} {W' : World} {x : Int} (h : q = ([], [], x)) (hx : x ≠ 0) (hb : Below W.heap.size W W') (he : e = .returned (encG Vl.null (.slice none 0 0) (.slice none 0 0) x)) : RdLGP K q W e W' := by
  subst h; exact ⟨hb, .inr ⟨hx, he⟩⟩

/-- One more value, behind a row of the call's own: what is no block of the row is as it was. -/
theorem append_val2 {P : Program} (w : World) (base : Nat) (t ty e te : TypeId) (i : TypeInfo) (z : Value) (ht : P.underlying t = some (.slice e)) (hi : P.info? e = some i) (hz : i.zero = some z)
    (hsize : i.size = 3) (hby : i.bytes = 32) (hzs : z.cells.size = 3) (v : Value) (n : Nat) (vs : List Vl) (hown : w.ownsRow base e 3 v n (cellsV vs)) (u : Vl) (hn : n ≤ 1000000) (hbase : base ≤ w.heap.size) :
    ∃ v' w', (Builtin.append_ #[t, t] ty #[v, .slice (some ⟨w.heap.size, 0, none⟩) 1 1]).run P (w.alloc (.cells #[.int .i64 u.k, .int .i64 u.i, .string (bsOf u.s)] te)) = .ok v' w' ∧
      w'.ownsRow base e 3 v' (n + 1) (cellsV (vs ++ [u])) ∧ Below base w w' ∧ ∀ b, b < w.heap.size → some b ≠ v.ownBlock → w'.heap[b]? = w.heap[b]? := by
  have hb1 : base ≤ (w.alloc (.cells #[.int .i64 u.k, .int .i64 u.i, .string (bsOf u.s)] te)).heap.size := by simp; omega
  have hbb : Below base w (w.alloc (.cells #[.int .i64 u.k, .int .i64 u.i, .string (bsOf u.s)] te)) := (Below.refl base w).alloc hbase _
  obtain ⟨v', w', hr, h1, h2, _⟩ := run_append_own (P := P) (w.alloc (.cells #[.int .i64 u.k, .int .i64 u.i, .string (bsOf u.s)] te)) base t ty e i z 3 32 ht hi hz hsize hby hzs (by decide) v n (cellsV vs) (hown.alloc _) ⟨w.heap.size, 0, none⟩ 1 1 (cellsV [u]) (by rw [cellsV_len]; rfl)
    (fun j x hx => by
      have h0 := World.alloc_heap_new w (.cells #[.int .i64 u.k, .int .i64 u.i, .string (bsOf u.s)] te)
      rw [add_plain]
      have : (#[.int .i64 u.k, .int .i64 u.i, .string (bsOf u.s)] : Array Value)[0 + j]? = some x := by rw [Nat.zero_add]; simpa [cellsV] using hx
      simp only [World.cell?, h0]
      exact this)
    (fun x hx => by
      have : x = .int .i64 u.k ∨ x = .int .i64 u.i ∨ x = .string (bsOf u.s) := by simpa [cellsV] using hx
      rcases this with rfl | rfl | rfl <;> rfl) (by unfold maxLen; omega) (by omega) hb1
  rw [← cellsV_append] at h1
  refine ⟨v', w', hr, h1, ?_, fun b hb hne => (h2.block b (by simp; omega) hne).trans (Below.heap_alloc w _ b hb)⟩
  refine hbb.grown h2 hb1 (fun r hr => ?_)
  rcases hown.2 with ⟨rfl, _⟩ | ⟨g, cap, cur, rfl, hg, _⟩
  · simp [Value.ownBlock] at hr
  · simp [Value.ownBlock] at hr; omega
theorem Six.not_row {W : World} {B : Nat} {t e : TypeId} {a b c d x f : Value} (h : Six W B t a b c d x f) (hte : t ≠ e) {base size k : Nat} {v : Value} {xs : List Value} (hr : W.ownsRow base e size v k xs) : some B ≠ v.ownBlock := by
  rcases hr.2 with ⟨rfl, _⟩ | ⟨g, cap, cur, rfl, _, hgb, _⟩
  · simp [Value.ownBlock]
  · intro e'
    obtain rfl : B = g := by simpa [Value.ownBlock] using e'
    have h : W.heap[B]? = _ := h
    rw [h] at hgb
    cases hgb
    exact hte rfl
theorem Six.put34 {W : World} {B : Nat} {t : TypeId} {a b c d e f : Value} (h : Six W B t a b c d e f) (x y : Value) : Six ((W.setCell ⟨B, 3, none⟩ x).setCell ⟨B, 4, none⟩ y) B t a b c x y f := by
  have h1 := set_block (i := 3) (show W.heap[B]? = _ from h) x
  exact set_block (i := 4) h1 y
theorem six_set {W : World} {B C i : Nat} {t : TypeId} {a b c d e f : Value} (h : Six W B t a b c d e f) (hn : C ≠ B) (x : Value) : Six (W.setCell ⟨C, i, none⟩ x) B t a b c d e f := by
  have hk : W.heap[B]? = some (.cells #[a, b, c, d, e, f] t (0, 0)) := h
  show (W.setCell ⟨C, i, none⟩ x).heap[B]? = _
  simp only [World.setCell, Array.getElem?_modify]
  simp [hn, hk]
theorem quad_set {W : World} {B C i : Nat} {t : TypeId} {a b c d : Value} (h : Quad W B t a b c d) (hn : C ≠ B) (x : Value) : Quad (W.setCell ⟨C, i, none⟩ x) B t a b c d := by
  have hk : W.heap[B]? = some (.cells #[a, b, c, d] t (0, 0)) := h
  show (W.setCell ⟨C, i, none⟩ x).heap[B]? = _
  simp only [World.setCell, Array.getElem?_modify]
  simp [hn, hk]

set_option maxRecDepth 100000 in
set_option maxHeartbeats 4000000 in
theorem rreadList_any {K : Nat → Prop} {a : Option Addr} {len cap : Nat} {bs : List Int} (ho : Oct bs) {w : World} (hR : Rd K w .u8 a len cap bs) (hK : ∀ b, K b → b < w.heap.size) :
    Calls Tryz.prog 55 #[.slice a len cap] w (RdLGP K (rdL bs) w) := by
  obtain ⟨i0, hi, hz0, hz1, hz2⟩ := info_partsV
  have hu := rdS_u645 ho
  have hb0 : Below w.heap.size w (w.alloc (.cells #[.int .i64 0, .int .i64 0, .string ⟨#[]⟩, .slice none 0 0, .slice none 0 0, .int .i64 0] 54)) := (Below.self w).alloc (Nat.le_refl _) _
  have HB0 := Lib.hid hb0
  have HG0 := Lib.hid (Six.new w 54 (.int .i64 0) (.int .i64 0) (.string ⟨#[]⟩) (.slice none 0 0) (.slice none 0 0) (.int .i64 0))
  have HRR := Lib.hid (readR_any ho (hR.below hb0))
  have HK := Lib.hid hK
  obtain ⟨u, c, z, hq⟩ : ∃ u c z, rdS bs = (u, c, z) := ⟨_, _, _, rfl⟩
  unfold ReadRPost at HRR
  rw [hq] at hu HRR
  dsimp only at HRR
  have hu : U64 u := hu
  have HQ := Lib.hid hq
  have HO := Lib.hid (ho.drop c)
  clear hq hR hK hb0 ho
  go_enter Tryz.func55, Tryz.ntmps55
  go_upto_region 1 with fail
  generalize w.alloc (.cells #[.int .i64 0, .int .i64 0, .string ⟨#[]⟩, .slice none 0 0, .slice none 0 0, .int .i64 0] 54) = V at *
  go_wp2_with fail
  refine HRR.out.mono ?_
  rintro e w1 ⟨hbb, hp⟩
  have hG1 := HG0.out.below hbb HG0.out.lt
  have hb1 := HB0.out.trans (hbb.mono HB0.out.size)
  have HBB := Lib.hid hbb
  clear hbb
  rcases hp with ⟨hz, a3, n3, c3x, rfl, hr3⟩ | ⟨hz, rfl⟩
  · obtain rfl : z = 0 := hz
    obtain ⟨n, rfl⟩ : ∃ n : Nat, u = n := ⟨u.toNat, by have := hu.1; omega⟩
    have hn64 : n < 18446744073709551616 := by have := hu.2; omega
    have hbA : Below w1.heap.size w1 (w1.alloc (.cells #[.int .u64 (n : Int), .slice none 0 0, .slice a3 n3 c3x, .int .i64 0] 103)) := (Below.self w1).alloc (Nat.le_refl _) _
    have HQD := Lib.hid (Quad.new w1 103 (.int .u64 (n : Int)) (.slice none 0 0) (.slice a3 n3 c3x) (.int .i64 0))
    have HB2 : Hid (Below w.heap.size w (w1.alloc (.cells #[.int .u64 (n : Int), .slice none 0 0, .slice a3 n3 c3x, .int .i64 0] 103))) := hb1.trans (hbA.mono hb1.size)
    have HG2 := Lib.hid (hG1.below hbA hG1.lt)
    have HR3 := Lib.hid ((hr3.below HBB.out).below hbA)
    have hlt01 : w.heap.size < w1.heap.size := hG1.lt
    clear hG1 hb1 hbA hr3
    unfold gotV
    go_upto_region 2 with fail
    obtain ⟨B3, hB3⟩ : ∃ B, w1.heap.size = B := ⟨_, rfl⟩
    rw [hB3] at HQD hlt01 ⊢
    clear hB3
    generalize w1.alloc (.cells #[.int .u64 (n : Int), .slice none 0 0, .slice a3 n3 c3x, .int .i64 0] 103) = W2 at *
    obtain ⟨q0, q1, q2, q3⟩ := HQD.out.cell
    have c0 := HG2.out.c0
    have c1 := HG2.out.c1
    have c2 := HG2.out.c2
    have c3 := HG2.out.c3
    have c4 := HG2.out.c4
    have c5 := HG2.out.c5
    have f0 := HG2.out.fz 0
    have f1 := HG2.out.fz 1
    have f2 := HG2.out.fz 2
    have f3 := HG2.out.fz 3
    have f4 := HG2.out.fz 4
    have f5 := HG2.out.fz 5
    have plt := HG2.out.lt
    by_cases h4 : 4096 < n
    · have HE := Lib.hid (l_big HQ.out (by omega))
      have h4I : (4096 : Int) < (n : Int) := by omega
      go_wp2
      exact bodyPost_ret (v := .agg #[.int .i64 0, .int .i64 0, .string ⟨#[]⟩, .slice none 0 0, .slice none 0 0, .int .i64 5]) (by simp [results, Tryz.results55, go_sem, c0, c1, c2, c3, c4, c5]) rfl (RdLGP.bad HE.out (by decide) (below_put6 HB2.out (Nat.le_refl _) _ _ _ _ _ _) rfl)
    · have HE := Lib.hid (l_good HQ.out (by omega))
      have h4I : ¬ (4096 : Int) < (n : Int) := by omega
      have hnw : IntKind.i64.wrap (n : Int) = (n : Int) := by rw [IntKind.wrap_i64]; omega
      have hbA : Below W2.heap.size W2 (W2.alloc (.cells #[.int .i64 0, .int .i64 0, .string ⟨#[]⟩, .slice none 0 0, .slice a3 n3 c3x, .int .i64 0] 54)) := (Below.self W2).alloc (Nat.le_refl _) _
      have HX4 := Lib.hid (Six.new W2 54 (.int .i64 0) (.int .i64 0) (.string ⟨#[]⟩) (.slice none 0 0) (.slice a3 n3 c3x) (.int .i64 0))
      have HB4 : Hid (Below w.heap.size w (W2.alloc (.cells #[.int .i64 0, .int .i64 0, .string ⟨#[]⟩, .slice none 0 0, .slice a3 n3 c3x, .int .i64 0] 54))) := HB2.out.trans (hbA.mono HB2.out.size)
      have HG4 := Lib.hid (HG2.out.below hbA HG2.out.lt)
      have HQ4 := Lib.hid (HQD.out.below hbA HQD.out.lt)
      have HR4 := Lib.hid (HR3.out.below hbA)
      have hlt34 : B3 < W2.heap.size := HQD.out.lt
      clear c0 c1 c2 c3 c4 c5 f0 f1 f2 f3 f4 f5 plt hbA
      go_upto_region 7 with fail
      obtain ⟨B4, hB4⟩ : ∃ B, W2.heap.size = B := ⟨_, rfl⟩
      have HSZ : Hid ((W2.alloc (.cells #[.int .i64 0, .int .i64 0, .string ⟨#[]⟩, .slice none 0 0, .slice a3 n3 c3x, .int .i64 0] 54)).heap.size = B4 + 1) := by show _ = _; rw [World.size_alloc, hB4]
      rw [hB4] at HX4 hlt34 ⊢
      clear hB4 q0 q1 q2 q3 HB2 HG2 HQD HR3
      generalize W2.alloc (.cells #[.int .i64 0, .int .i64 0, .string ⟨#[]⟩, .slice none 0 0, .slice a3 n3 c3x, .int .i64 0] 54) = W4 at *
      have HBW : Hid (Below w.heap.size w W4) := HB4.out
      go_wp2_with fail
      go_loopw [5] (fun si wr => ∃ (k : Nat) (vs : List Vl) (rest : List Int) (a2 : Option Addr) (n2 c2 : Nat) (sl : Value), k ≤ n ∧ si = .int .i64 k ∧ Hid (rdL bs = rdG (n - k) vs rest ∧ Oct rest ∧ wr.ownsRow (B4 + 1) 45 3 sl k (cellsV vs) ∧ Rd K wr .u8 a2 n2 c2 rest ∧ Below w.heap.size w wr ∧ Six wr B4 54 (.int .i64 0) (.int .i64 0) (.string ⟨#[]⟩) sl (.slice a2 n2 c2) (.int .i64 0) ∧ Quad wr B3 103 (.int .u64 (n : Int)) (.slice none 0 0) (.slice a3 n3 c3x) (.int .i64 0) ∧ Six wr w.heap.size 54 (.int .i64 0) (.int .i64 0) (.string ⟨#[]⟩) (.slice none 0 0) (.slice none 0 0) (.int .i64 0))) (fun si _ => n - (intOf si).toNat)
      case atStart => exact ⟨0, [], bs.drop c, a3, n3, c3x, .slice none 0 0, Nat.zero_le _, rfl, HE.out, HO.out, ⟨rfl, .inl ⟨rfl, rfl⟩⟩, HR4.out, HBW.out, HX4.out, HQ4.out, HG4.out⟩
      case round =>
        obtain ⟨k, vs, rest, a2, n2, p2, sl, hk, rfl, HI⟩ := hrel
        obtain ⟨q0, q1, q2, q3⟩ := HI.out.2.2.2.2.2.2.1.cell
        have x3 := HI.out.2.2.2.2.2.1.c3
        have x4 := HI.out.2.2.2.2.2.1.c4
        by_cases hlt : k < n
        · have hkI : (k : Int) < (n : Int) := by omega
          have HC := Lib.hid (rread_any HI.out.2.1 HI.out.2.2.2.1 (fun b hb => Nat.lt_of_lt_of_le (HK.out b hb) HI.out.2.2.2.2.1.size))
          have HS : Hid (rdG (n - k) vs rest = if (rdV rest).2.2 ≠ 0 then ([], [], (rdV rest).2.2) else rdG (n - (k + 1)) (vs ++ [(rdV rest).1]) (rest.drop (rdV rest).2.1)) := by
            show _ = _
            rw [show n - k = (n - (k + 1)) + 1 by omega]; rfl
          go_wp2_with fail
          refine HC.out.mono ?_
          clear HC
          generalize rdV rest = q at *
          obtain ⟨⟨vk, vi, vt⟩, c7, zz⟩ := q
          dsimp only at HS
          rintro e w3 ⟨hb3, hp⟩
          dsimp only at hp
          have hB3 : Below w.heap.size w w3 := HI.out.2.2.2.2.1.trans (hb3.mono HI.out.2.2.2.2.1.size)
          have hO3 := row_below HI.out.2.2.1 hb3
          have hX3 := HI.out.2.2.2.2.2.1.below hb3 HI.out.2.2.2.2.2.1.lt
          have hQ3 := HI.out.2.2.2.2.2.2.1.below hb3 HI.out.2.2.2.2.2.2.1.lt
          have hZ3 := HI.out.2.2.2.2.2.2.2.below hb3 HI.out.2.2.2.2.2.2.2.lt
          have h44 : B4 < w3.heap.size := hX3.lt
          clear hb3 q0 q1 q2 q3 x3 x4
          rcases hp with ⟨hz, a4, n4, c4x, rfl, hr4⟩ | ⟨hz, rfl⟩
          · obtain rfl : zz = 0 := hz
            have hbA : Below w3.heap.size w3 (w3.alloc (.cells #[.int .i64 vk, .int .i64 vi, .string (bsOf vt), .slice none 0 0, .slice a4 n4 c4x, .int .i64 0] 54)) := (Below.self w3).alloc (Nat.le_refl _) _
            have HX6 := Lib.hid (Six.new w3 54 (.int .i64 vk) (.int .i64 vi) (.string (bsOf vt)) (.slice none 0 0) (.slice a4 n4 c4x) (.int .i64 0))
            have HB5 : Hid (Below w.heap.size w (w3.alloc (.cells #[.int .i64 vk, .int .i64 vi, .string (bsOf vt), .slice none 0 0, .slice a4 n4 c4x, .int .i64 0] 54))) := hB3.trans (hbA.mono hB3.size)
            have HO5 := Lib.hid (row_below hO3 hbA)
            have HX5 := Lib.hid (hX3.below hbA hX3.lt)
            have HQ5 := Lib.hid (hQ3.below hbA hQ3.lt)
            have HZ5 := Lib.hid (hZ3.below hbA hZ3.lt)
            have HR5 := Lib.hid (hr4.below hbA)
            have HOD := Lib.hid (HI.out.2.1.drop c7)
            have HEN : Hid (rdL bs = rdG (n - (k + 1)) (vs ++ [⟨vk, vi, vt⟩]) (rest.drop c7)) := HI.out.1.trans (HS.out.trans (if_neg (fun h => h rfl)))
            have h45 : B4 < (w3.alloc (.cells #[.int .i64 vk, .int .i64 vi, .string (bsOf vt), .slice none 0 0, .slice a4 n4 c4x, .int .i64 0] 54)).heap.size := Nat.lt_of_lt_of_le h44 hbA.size
            clear hbA hB3 hO3 hX3 hQ3 hZ3 hr4 HI HS
            unfold encG
            dsimp only
            go_upto_region 11 with fail
            obtain ⟨B6, hB6⟩ : ∃ B, w3.heap.size = B := ⟨_, rfl⟩
            rw [hB6] at HX6 h44 ⊢
            clear hB6
            generalize w3.alloc (.cells #[.int .i64 vk, .int .i64 vi, .string (bsOf vt), .slice none 0 0, .slice a4 n4 c4x, .int .i64 0] 54) = W5 at *
            have y0 := HX6.out.c0
            have y1 := HX6.out.c1
            have y2 := HX6.out.c2
            have y4 := HX6.out.c4
            have y5 := HX6.out.c5
            have x3 := HX5.out.c3
            obtain ⟨v7, w7, hr7, hO7, hb7, hk7⟩ := append_val2 (P := Tryz.prog) W5 (B4 + 1) 39 39 45 45 i0 _ Tryz.underlying39 hi hz0 hz1 hz2 rfl sl k vs HO5.out ⟨vk, vi, vt⟩ (by omega) h45
            have hne : ¬ v7 = .slice none 0 0 := fun e => by
              subst e
              rcases hO7.2 with ⟨_, h⟩ | ⟨_, _, _, h, _⟩
              · omega
              · cases h
            obtain ⟨g7, cp7, rfl, _⟩ := row_form hO7 hne
            have HR7 := Lib.hid hr7
            clear hne
            have hn6 : some B6 ≠ sl.ownBlock := HX6.out.not_row (by decide) HO5.out
            have hX6 : Six w7 B6 54 (.int .i64 vk) (.int .i64 vi) (.string (bsOf vt)) (.slice none 0 0) (.slice a4 n4 c4x) (.int .i64 0) := (hk7 B6 HX6.out.lt hn6).trans HX6.out
            have hB7 : Below w.heap.size w w7 := HB5.out.trans (hb7.mono (by omega))
            have hX4 := HX5.out.below hb7 (Nat.lt_succ_self _)
            have hQ7 := HQ5.out.below hb7 (by omega)
            have hZ7 := HZ5.out.below hb7 (by omega)
            have hR7 : Rd K w7 .u8 a4 n4 c4x (rest.drop c7) := by
              refine ⟨HR5.out.hl, HR5.out.fit, HR5.out.top, HR5.out.small, fun h0 => ?_⟩
              obtain ⟨b, off, e, hkb, hlt, hc⟩ := HR5.out.cells h0
              have hbw := HK.out b hkb
              exact ⟨b, off, e, hkb, Nat.lt_of_lt_of_le hlt hb7.size, fun j hj => (hb7.cell (p := ⟨b, off + j, none⟩) (show b < B4 + 1 by omega)).trans (hc j hj)⟩
            have HNX : Hid (rdL bs = rdG (n - (k + 1)) (vs ++ [⟨vk, vi, vt⟩]) (rest.drop c7) ∧ Oct (rest.drop c7) ∧ ((w7.setCell ⟨B4, 3, none⟩ (.slice (some ⟨g7, 0, none⟩) (k + 1) cp7)).setCell ⟨B4, 4, none⟩ (.slice a4 n4 c4x)).ownsRow (B4 + 1) 45 3 (.slice (some ⟨g7, 0, none⟩) (k + 1) cp7) (k + 1) (cellsV (vs ++ [⟨vk, vi, vt⟩])) ∧ Rd K ((w7.setCell ⟨B4, 3, none⟩ (.slice (some ⟨g7, 0, none⟩) (k + 1) cp7)).setCell ⟨B4, 4, none⟩ (.slice a4 n4 c4x)) .u8 a4 n4 c4x (rest.drop c7) ∧ Below w.heap.size w ((w7.setCell ⟨B4, 3, none⟩ (.slice (some ⟨g7, 0, none⟩) (k + 1) cp7)).setCell ⟨B4, 4, none⟩ (.slice a4 n4 c4x)) ∧
              Six ((w7.setCell ⟨B4, 3, none⟩ (.slice (some ⟨g7, 0, none⟩) (k + 1) cp7)).setCell ⟨B4, 4, none⟩ (.slice a4 n4 c4x)) B4 54 (.int .i64 0) (.int .i64 0) (.string ⟨#[]⟩) (.slice (some ⟨g7, 0, none⟩) (k + 1) cp7) (.slice a4 n4 c4x) (.int .i64 0) ∧ Quad ((w7.setCell ⟨B4, 3, none⟩ (.slice (some ⟨g7, 0, none⟩) (k + 1) cp7)).setCell ⟨B4, 4, none⟩ (.slice a4 n4 c4x)) B3 103 (.int .u64 (n : Int)) (.slice none 0 0) (.slice a3 n3 c3x) (.int .i64 0) ∧ Six ((w7.setCell ⟨B4, 3, none⟩ (.slice (some ⟨g7, 0, none⟩) (k + 1) cp7)).setCell ⟨B4, 4, none⟩ (.slice a4 n4 c4x)) w.heap.size 54 (.int .i64 0) (.int .i64 0) (.string ⟨#[]⟩) (.slice none 0 0) (.slice none 0 0) (.int .i64 0)) :=
              ⟨HEN.out, HOD.out, ownsRow_setCell_below (ownsRow_setCell_below hO7 (Nat.lt_succ_self _) _) (Nat.lt_succ_self _) _,
                (hR7.set1 (fun b hb e => by have := HK.out b hb; omega) _).set1 (fun b hb e => by have := HK.out b hb; omega) _, (hB7.setCell (show w.heap.size ≤ B4 by omega) _).setCell (show w.heap.size ≤ B4 by omega) _,
                hX4.put34 _ _, quad_set (quad_set hQ7 (by omega) _) (by omega) _, six_set (six_set hZ7 (by omega) _) (by omega) _⟩
            have z3 := hX4.c3
            have z4 := hX4.c4
            have g3 := hX4.fz 3
            have g4 := hX4.fz 4
            have zlt := hX4.lt
            have u4 := hX6.c4
            have hn64' : B4 ≠ B6 := by omega
            clear hr7 hO7 hb7 hk7 hn6 hX6 hB7 hX4 hQ7 hZ7 hR7 HX6 HX5 HQ5 HZ5 HR5 HB5 HO5 HEN HOD
            go_wp2_with (at_builtin; refine wpList_append_want (o := ⟨some 43, _, _, _, _, _⟩) _ rfl _ _ _ _ rfl _ _ rfl rfl _ _ HR7.out ?_)
            go_roundw
            case rel => exact ⟨k + 1, _, _, _, _, _, _, by omega, by go_num, HNX.out⟩
            case measure => simp [intOf]; omega
          · have HZ := Lib.hid hz
            have hzN : (zz != 0) = true := by simpa using hz
            have HE : Hid (rdL bs = ([], [], zz)) := HI.out.1.trans (HS.out.trans (if_pos hz))
            have hbA : Below w3.heap.size w3 (w3.alloc (.cells #[.int .i64 0, .int .i64 0, .string ⟨#[]⟩, .slice none 0 0, .slice none 0 0, .int .i64 zz] 54)) := (Below.self w3).alloc (Nat.le_refl _) _
            have HX6 := Lib.hid (Six.new w3 54 (.int .i64 0) (.int .i64 0) (.string ⟨#[]⟩) (.slice none 0 0) (.slice none 0 0) (.int .i64 zz))
            have HB5 : Hid (Below w.heap.size w (w3.alloc (.cells #[.int .i64 0, .int .i64 0, .string ⟨#[]⟩, .slice none 0 0, .slice none 0 0, .int .i64 zz] 54))) := hB3.trans (hbA.mono hB3.size)
            have HZ5 := Lib.hid (hZ3.below hbA hZ3.lt)
            clear hbA hB3 hO3 hX3 hQ3 hZ3 HI HS hz
            unfold encG
            dsimp only [Vl.null]
            rw [show bsOf [] = (⟨#[]⟩ : ByteArray) from rfl]
            go_upto_region 11 with fail
            obtain ⟨B6, hB6⟩ : ∃ B, w3.heap.size = B := ⟨_, rfl⟩
            rw [hB6] at HX6 ⊢
            clear hB6
            generalize w3.alloc (.cells #[.int .i64 0, .int .i64 0, .string ⟨#[]⟩, .slice none 0 0, .slice none 0 0, .int .i64 zz] 54) = W5 at *
            have y5 := HX6.out.c5
            have c0 := HZ5.out.c0
            have f0 := HZ5.out.fz 0
            have c1 := HZ5.out.c1
            have f1 := HZ5.out.fz 1
            have c2 := HZ5.out.c2
            have f2 := HZ5.out.fz 2
            have c3 := HZ5.out.c3
            have f3 := HZ5.out.fz 3
            have c4 := HZ5.out.c4
            have f4 := HZ5.out.fz 4
            have c5 := HZ5.out.c5
            have f5 := HZ5.out.fz 5
            have plt := HZ5.out.lt
            go_wp2
            exact bodyPost_ret (v := .agg #[.int .i64 0, .int .i64 0, .string ⟨#[]⟩, .slice none 0 0, .slice none 0 0, .int .i64 zz]) (by simp [results, Tryz.results55, go_sem, c0, c1, c2, c3, c4, c5]) rfl (RdLGP.bad HE.out HZ.out (below_put6 HB5.out (Nat.le_refl _) _ _ _ _ _ _) rfl)
        · obtain rfl : k = n := by omega
          have hm : ¬ ((k : Int) < (k : Int)) := Int.lt_irrefl _
          obtain ⟨a1, cp1, rfl, hrv⟩ := RdV.of_row HI.out.2.2.1 (by omega)
          have hlt4 : w.heap.size ≤ B4 := by omega
          have HRV : Hid (RdV (fun b => B4 + 1 ≤ b) wr a1 k cp1 vs) := hrv
          have HRE := Lib.hid HI.out.2.2.2.1
          have HBE := Lib.hid HI.out.2.2.2.2.1
          have HXE := Lib.hid HI.out.2.2.2.2.2.1
          have HZE := Lib.hid HI.out.2.2.2.2.2.2.2
          have HE2 : Hid (rdL bs = (vs, rest, 0)) := by show _ = _; rw [HI.out.1, Nat.sub_self]; rfl
          have hxb : B4 ≠ w.heap.size := by omega
          have x0 := HXE.out.c0
          have x1 := HXE.out.c1
          have x2 := HXE.out.c2
          have x5 := HXE.out.c5
          clear HI hrv
          have c0 := HZE.out.c0
          have f0 := HZE.out.fz 0
          have c1 := HZE.out.c1
          have f1 := HZE.out.fz 1
          have c2 := HZE.out.c2
          have f2 := HZE.out.fz 2
          have c3 := HZE.out.c3
          have f3 := HZE.out.fz 3
          have c4 := HZE.out.c4
          have f4 := HZE.out.fz 4
          have c5 := HZE.out.c5
          have f5 := HZE.out.fz 5
          have plt := HZE.out.lt
          go_wp2
          refine bodyPost_ret (v := .agg #[.int .i64 0, .int .i64 0, .string ⟨#[]⟩, .slice a1 k cp1, .slice a2 n2 p2, .int .i64 0]) (by simp [results, Tryz.results55, go_sem, c0, c1, c2, c3, c4, c5]) rfl ⟨below_put6 HBE.out (Nat.le_refl _) _ _ _ _ _ _, .inl ?_⟩
          rw [HE2.out]
          have hK1 : ∀ b, B4 + 1 ≤ b → b ≠ w.heap.size := fun b hb e => by omega
          have hK2 : ∀ b, K b → b ≠ w.heap.size := fun b hb e => by have := HK.out b hb; omega
          exact ⟨rfl, a1, k, cp1, a2, n2, p2, rfl, ((((((HRV.out.set1 hK1 _).set1 hK1 _).set1 hK1 _).set1 hK1 _).set1 hK1 _).set1 hK1 _).mono fun b _ hb => by omega, HRE.out.put6 hK2 _ _ _ _ _ _⟩
  · have hbA : Below w1.heap.size w1 (w1.alloc (.cells #[.int .u64 0, .slice none 0 0, .slice none 0 0, .int .i64 z] 103)) := (Below.self w1).alloc (Nat.le_refl _) _
    have HQD := Lib.hid (Quad.new w1 103 (.int .u64 0) (.slice none 0 0) (.slice none 0 0) (.int .i64 z))
    have HB2 : Hid (Below w.heap.size w (w1.alloc (.cells #[.int .u64 0, .slice none 0 0, .slice none 0 0, .int .i64 z] 103))) := hb1.trans (hbA.mono hb1.size)
    have HG2 := Lib.hid (hG1.below hbA hG1.lt)
    have HZ := Lib.hid hz
    have hzN : (z != 0) = true := by simpa using hz
    have HE := Lib.hid (l_err (r := bs) (x := z) (by rw [HQ.out]) hz)
    clear hG1 hb1 hbA hz
    unfold gotV
    go_upto_region 2 with fail
    obtain ⟨B3, hB3⟩ : ∃ B, w1.heap.size = B := ⟨_, rfl⟩
    rw [hB3] at HQD ⊢
    clear hB3
    generalize w1.alloc (.cells #[.int .u64 0, .slice none 0 0, .slice none 0 0, .int .i64 z] 103) = W2 at *
    obtain ⟨q0, q1, q2, q3⟩ := HQD.out.cell
    have c0 := HG2.out.c0
    have f0 := HG2.out.fz 0
    have c1 := HG2.out.c1
    have f1 := HG2.out.fz 1
    have c2 := HG2.out.c2
    have f2 := HG2.out.fz 2
    have c3 := HG2.out.c3
    have f3 := HG2.out.fz 3
    have c4 := HG2.out.c4
    have f4 := HG2.out.fz 4
    have c5 := HG2.out.c5
    have f5 := HG2.out.fz 5
    have plt := HG2.out.lt
    go_wp2
    exact bodyPost_ret (v := .agg #[.int .i64 0, .int .i64 0, .string ⟨#[]⟩, .slice none 0 0, .slice none 0 0, .int .i64 z]) (by simp [results, Tryz.results55, go_sem, c0, c1, c2, c3, c4, c5]) rfl (RdLGP.bad HE.out HZ.out (below_put6 HB2.out (Nat.le_refl _) _ _ _ _ _ _) rfl)

end Go.Proofs.YtocnkjnlmciojaaGreatDoor
