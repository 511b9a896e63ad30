/-
  The tokens of two sources with a line feed in between are those of both: the walk.
-/
import Derived.Test.YtpmciakmmchndaaLxEx
import Derived.Test.YtpmciakmmchndaaLxRun
namespace Go.Proofs.Ytpmciakmmchndaa.lexerConcatenates
open Go Go.RowKit Go.Shelf Go.Sort Go.ChangeShapes Go.WideShapes Go.ChangeAt
open Go.Proofs.Ytpmciakmmchndaa Go.Proofs.Ytpmciakmmchndaa.Lx

theorem bs_line (s t : List UInt8) : bsOf s ++ ⟨#[10]⟩ ++ bsOf t = bsOf (s ++ 10 :: t) := by
  apply ByteArray.ext
  rw [ByteArray.data_append, ByteArray.data_append]
  show s.toArray ++ #[10] ++ t.toArray = (s ++ 10 :: t).toArray
  simp
theorem lex_ok {s : List UInt8} (h : s.length ≤ 20000) (h2 : (lxY s 0).2.2 = true) : lexS s = ((lxY s 0).1, 0, 0) := by
  unfold lexS
  rw [if_neg (by omega), lxS_eq, y_yes h2]; rfl
theorem lex_err {s : List UInt8} (h : s.length ≤ 20000) (h2 : (lxY s 0).2.2 = false) : lexS s = ([], (lxY s 0).2.1, 5) := by
  unfold lexS
  rw [if_neg (by omega), lxS_eq, y_no h2]; rfl
theorem both {s t : List UInt8} (hs : (lxY s 0).2.2 = true) : lxY (s ++ 10 :: t) 0 = comb (lxY s 0).1 (shR (s.length + 1) (lxY t 0)) := by
  rw [y_concat t s.length s 0 (Nat.le_refl _) hs, show 0 + s.length + 1 = 0 + (s.length + 1) by omega, y_shift]
theorem both_ok {s t : List UInt8} (h : (s ++ 10 :: t).length ≤ 20000) (hs : (lxY s 0).2.2 = true) (ht : (lxY t 0).2.2 = true) : lexS (s ++ 10 :: t) = ((lxY s 0).1 ++ (lxY t 0).1.map (shT (s.length + 1)), 0, 0) := by
  have e := both (t := t) hs
  rw [shR, if_pos ht, comb_yes _ rfl] at e
  rw [lex_ok h (by rw [e]), e]
theorem both_err {s t : List UInt8} (h : (s ++ 10 :: t).length ≤ 20000) (hs : (lxY s 0).2.2 = true) (ht : (lxY t 0).2.2 = false) : lexS (s ++ 10 :: t) = ([], (lxY t 0).2.1 + (s.length + 1), 5) := by
  have e := both (t := t) hs
  rw [shR, if_neg (by rw [ht]; decide), comb_no _ rfl] at e
  rw [lex_err h (by rw [e]), e]

/-- Tokens that read, behind an empty row. -/
theorem append_toks (w : World) (base g : Nat) (hown : w.ownsRow base 29 3 (.slice (some ⟨g, 0, none⟩) 0 0) 0 []) {a : Option Addr} {n c : Nat} {ts : List Tk} (hR : RdK w a n c ts) (hn : n ≤ 1000000) (hbase : base ≤ w.heap.size) :
    ∃ v' w', (Builtin.append_ #[22, 22] 22 #[.slice (some ⟨g, 0, none⟩) 0 0, .slice a n c]).run Try.prog w = .ok v' w' ∧
      w'.ownsRow base 29 3 v' n (cellsK ts) ∧ Below base w w' := by
  obtain ⟨i0, hi, hz0, hz1, hz2⟩ := info_R
  have hl := hR.hl
  by_cases h0 : 0 < n
  · obtain ⟨b, off, rfl, hlt, hc⟩ := hR.cells h0
    obtain ⟨v', w', hr, h1, h2, _⟩ := run_append_own (P := Try.prog) w base 22 22 29 i0 _ 3 32 Try.underlying22 hi hz0 hz1 hz2 rfl (by decide) _ 0 [] hown ⟨b, off, none⟩ n c (cellsK ts) (by rw [cellsK_len, hl])
      (fun j x hx => by
        rw [add_plain]
        have hjl : j < ts.length * 3 := by have := (List.getElem?_eq_some_iff.1 hx).1; rw [cellsK_len] at this; exact this
        obtain ⟨q, r, hj, hr3⟩ : ∃ q r, j = q * 3 + r ∧ r < 3 := ⟨j / 3, j % 3, by omega, Nat.mod_lt _ (by decide)⟩
        subst hj
        have hq : q < n := by omega
        have h3 := cellsK_at ts q (by omega)
        obtain ⟨g0, g1, g2⟩ := hc q hq
        rcases (by omega : r = 0 ∨ r = 1 ∨ r = 2) with rfl | rfl | rfl
        · rw [Nat.add_zero] at hx ⊢; rw [g0, ← h3.1]; exact hx
        · rw [← Nat.add_assoc, g1, ← h3.2.1]; exact hx
        · rw [← Nat.add_assoc, g2, ← h3.2.2]; exact hx)
      (fun x hx => by
        unfold cellsK at hx
        obtain ⟨t, _, ht⟩ := List.mem_flatMap.1 hx
        have : x = .int .i64 t.k ∨ x = .string (bsOf t.s) ∨ x = .int .i64 t.a := by simpa using ht
        rcases this with rfl | rfl | rfl <;> rfl) (by unfold maxLen; omega) (by omega) hbase
    rw [Nat.zero_add, List.nil_append] at h1
    exact ⟨v', w', hr, h1, (Below.refl base w).grown h2 hbase (fun r e => own_base hown r e)⟩
  · obtain rfl : n = 0 := by omega
    obtain rfl : ts = [] := List.eq_nil_of_length_eq_zero hl.symm
    exact ⟨_, w, run_append_empty w 22 22 29 i0 Try.underlying22 hi _ 0 0 (Nat.le_refl _) a c, hown, Below.refl _ _⟩
theorem Trio.set2 {W : World} {B : Nat} {t : TypeId} {a b c : Value} (h : Trio W B t a b c) (v : Value) : Trio (W.setCell ⟨B, 2, none⟩ v) B t a b v := by
  have h : W.heap[B]? = _ := h
  show (W.setCell ⟨B, 2, none⟩ v).heap[B]? = _
  simp [World.setCell, Array.getElem?_modify, h]

set_option maxRecDepth 100000 in
set_option maxHeartbeats 8000000 in
theorem walk {s t : List UInt8} {w : World} (hs : s.length ≤ 9223372036854775807) (ht : t.length ≤ 9223372036854775807) (hV : Vars w) :
    Calls Try.prog 7 #[.string (bsOf s), .string (bsOf t)] w fun e V => e = .returned (.bool true) ∧ Below w.heap.size w V := by
  have HZ := Lib.hid (bs_size s)
  have HZt := Lib.hid (bs_size t)
  have HX := Lib.hid (examples10_any w hV)
  have HSM := Lib.hid (fun w => small_nil (bsOf s) (by rw [bs_size]; omega) w)
  have HSMt := Lib.hid (fun w => small_nil (bsOf t) (by rw [bs_size]; omega) w)
  have HV := Lib.hid hV
  have HL := Lib.hid (fun w hV => lexed_any s hs w hV)
  have HLt := Lib.hid (fun w hV => lexed_any t ht w hV)
  have HCAT := Lib.hid (bs_line s t)
  obtain ⟨S, hS⟩ : ∃ S, bsOf s = S := ⟨_, rfl⟩
  obtain ⟨T, hT⟩ : ∃ T, bsOf t = T := ⟨_, rfl⟩
  rw [hS] at HZ HSM HL HCAT ⊢
  rw [hT] at HZt HSMt HLt HCAT ⊢
  have hsz : S.size ≤ 9223372036854775807 := by rw [HZ.out]; exact hs
  have htz : T.size ≤ 9223372036854775807 := by rw [HZt.out]; exact ht
  clear hS hs hT ht hV
  go_enter Try.func7, Try.ntmps7
  go_wp2_with fail
  refine HX.out.mono ?_
  rintro e w1 ⟨rfl, hb1⟩
  have HB1 := Lib.hid hb1
  clear hb1 HX
  go_wp2_with fail
  refine (HSM.out _).mono ?_
  rintro e w2 ⟨rfl, rfl⟩
  by_cases h2 : S.size ≤ 2000
  · have HZ2 : Hid (s.length ≤ 2000) := by have := HZ.out; show _ ≤ _; omega
    rw [decide_eq_true h2]
    go_wp2_with fail
    refine (HSMt.out _).mono ?_
    rintro e w2 ⟨rfl, rfl⟩
    by_cases h3 : T.size ≤ 2000
    · have HZ3 : Hid (t.length ≤ 2000) := by have := HZt.out; show _ ≤ _; omega
      rw [decide_eq_true h3]
      have HLz := Lib.hid (fun w hV => lexed_any (s ++ 10 :: t) (by have := HZ2.out; have := HZ3.out; simp; omega) w hV)
      have hcat := HCAT.out
      have HLEN : Hid ((s ++ 10 :: t).length ≤ 20000) := by show _ ≤ _; have := HZ2.out; have := HZ3.out; simp; omega
      obtain ⟨C, hC⟩ : ∃ C, bsOf (s ++ 10 :: t) = C := ⟨_, rfl⟩
      rw [hC] at HLz hcat
      clear hC
      have HC1 := Lib.hid (HL.out w1 (HV.out.below HB1.out))
      clear HL
      go_wp2_with fail
      refine HC1.out.mono ?_
      rintro e w3 ⟨a1, c1, rfl, hr, hb, hl⟩
      have HB3 := Lib.hid (HB1.out.trans (hb.mono HB1.out.size))
      have HR3 := Lib.hid hr
      have HN3 := Lib.hid hl
      clear hr hb hl HC1
      have HC2 := Lib.hid (HLt.out w3 (HV.out.below HB3.out))
      clear HLt
      go_wp2_with fail
      refine HC2.out.mono ?_
      rintro e w4 ⟨a2, c2, rfl, hr, hb, hl⟩
      have HB4 := Lib.hid (HB3.out.trans (hb.mono HB3.out.size))
      have HR4x := Lib.hid (HR3.out.below hb)
      have HR4 := Lib.hid hr
      have HN4 := Lib.hid hl
      clear hr hb hl HC2 HR3
      have HC3 := Lib.hid (HLz.out w4 (HV.out.below HB4.out))
      clear HLz
      go_wp2_with fail
      refine HC3.out.mono ?_
      rintro e w5 ⟨a3, c3, rfl, hr, hb, hl⟩
      have HB5 := Lib.hid (HB4.out.trans (hb.mono HB4.out.size))
      have HR5x := Lib.hid (HR4x.out.below hb)
      have HR5y := Lib.hid (HR4.out.below hb)
      have HR5z := Lib.hid hr
      clear hr hb hl HC3 HR4 HR4x
      have HAT2 := Lib.hid (y_at t.length t 0 (Nat.le_refl _))
      -- the three results in memory
      generalize hrx : lexS s = rx at *
      generalize hry : lexS t = ry at *
      generalize hrz : lexS (s ++ 10 :: t) = rz at *
      obtain ⟨tx, px, ex⟩ := rx
      obtain ⟨ty, py, ey⟩ := ry
      obtain ⟨tz, pz, ez⟩ := rz
      have HRX := Lib.hid hrx
      have HRY := Lib.hid hry
      have HRZ := Lib.hid hrz
      clear hrx hry hrz
      dsimp only at HR5x HR5y HR5z HN3 HN4 ⊢
      have hb6 := (Below.refl w5.heap.size w5).alloc (Nat.le_refl _) (.cells #[.slice a1 tx.length c1, .int .i64 (px : Int), .int .i64 ex] 37)
      have hb7 := hb6.alloc (by simp) (.cells #[.slice a2 ty.length c2, .int .i64 (py : Int), .int .i64 ey] 37)
      have hb8 := hb7.alloc (by simp; omega) (.cells #[.slice a3 tz.length c3, .int .i64 (pz : Int), .int .i64 ez] 37)
      have hu6 := (Trio.new w5 37 (.slice a1 tx.length c1) (.int .i64 (px : Int)) (.int .i64 ex)).below (V := ((w5.alloc (.cells #[.slice a1 tx.length c1, .int .i64 (px : Int), .int .i64 ex] 37)).alloc (.cells #[.slice a2 ty.length c2, .int .i64 (py : Int), .int .i64 ey] 37)).alloc (.cells #[.slice a3 tz.length c3, .int .i64 (pz : Int), .int .i64 ez] 37)) (n := w5.heap.size + 1) (((Below.refl _ _).alloc (by simp) _).alloc (by simp) _) (by omega)
      have hu7 := (Trio.new (w5.alloc (.cells #[.slice a1 tx.length c1, .int .i64 (px : Int), .int .i64 ex] 37)) 37 (.slice a2 ty.length c2) (.int .i64 (py : Int)) (.int .i64 ey)).below (V := ((w5.alloc (.cells #[.slice a1 tx.length c1, .int .i64 (px : Int), .int .i64 ex] 37)).alloc (.cells #[.slice a2 ty.length c2, .int .i64 (py : Int), .int .i64 ey] 37)).alloc (.cells #[.slice a3 tz.length c3, .int .i64 (pz : Int), .int .i64 ez] 37)) (n := w5.heap.size + 2) ((Below.refl _ _).alloc (by simp) _) (by simp)
      have hu8 := Trio.new ((w5.alloc (.cells #[.slice a1 tx.length c1, .int .i64 (px : Int), .int .i64 ex] 37)).alloc (.cells #[.slice a2 ty.length c2, .int .i64 (py : Int), .int .i64 ey] 37)) 37 (.slice a3 tz.length c3) (.int .i64 (pz : Int)) (.int .i64 ez)
      rw [World.size_alloc] at hu7 hu8
      rw [World.size_alloc] at hu8
      have HU6 := Lib.hid hu6
      have HU7 := Lib.hid hu7
      have HU8 := Lib.hid hu8
      have HRx := Lib.hid (HR5x.out.below hb8)
      have HRy := Lib.hid (HR5y.out.below hb8)
      have HRz := Lib.hid (HR5z.out.below hb8)
      have HB8 := Lib.hid (HB5.out.trans (hb8.mono HB5.out.size))
      clear hb6 hb7 hb8 hu6 hu7 hu8 HR5x HR5y HR5z
      go_upto_region 7 with fail
      obtain ⟨w8, hw8⟩ : ∃ w8, ((w5.alloc (.cells #[.slice a1 tx.length c1, .int .i64 (px : Int), .int .i64 ex] 37)).alloc (.cells #[.slice a2 ty.length c2, .int .i64 (py : Int), .int .i64 ey] 37)).alloc (.cells #[.slice a3 tz.length c3, .int .i64 (pz : Int), .int .i64 ez] 37) = w8 := ⟨_, rfl⟩
      rw [hw8] at HU6 HU7 HU8 HRx HRy HRz HB8 ⊢
      clear hw8
      generalize w5.heap.size = U at *
      have d0 := HU6.out.c0
      have d2 := HU6.out.c2
      have f0 := HU7.out.c0
      have f1 := HU7.out.c1
      have f2 := HU7.out.c2
      have g0 := HU8.out.c0
      have g1 := HU8.out.c1
      have g2 := HU8.out.c2
      cases hokx : (lxY s 0).2.2
      · have hx := HRX.out.symm.trans (lex_err (by have := HZ2.out; omega) hokx)
        cases hx
        clear hokx
        go_wp2
        go_ret
        exact ⟨rfl, HB8.out⟩
      · have hx := HRX.out.symm.trans (lex_ok (by have := HZ2.out; omega) hokx)
        cases hoky : (lxY t 0).2.2
        · have hy := HRY.out.symm.trans (lex_err (by have := HZ3.out; omega) hoky)
          have hz := HRZ.out.symm.trans (both_err HLEN.out hokx hoky)
          have HPB : Hid ((lxY t 0).2.1 ≤ 2000) := by
            have := (y_ahead t.length t 0 (Nat.le_refl _) hoky).2.1
            have h3 := HZ3.out
            show _ ≤ _; omega
          generalize (lxY t 0).2.1 = p at *
          generalize (lxY s 0).1 = q at *
          cases hx; cases hy; cases hz
          have hpb : py ≤ 2000 := HPB.out
          have hsum : ((py + (s.length + 1) : Nat) : Int) = (py : Int) + (S.size : Int) + 1 := by have := HZ.out; omega
          rw [hsum] at g1
          clear hsum hokx hoky
          go_wp2
          go_ret
          exact ⟨rfl, HB8.out⟩
        · have hy := HRY.out.symm.trans (lex_ok (by have := HZ3.out; omega) hoky)
          have hz := HRZ.out.symm.trans (both_ok HLEN.out hokx hoky)
          generalize (lxY t 0).1 = r at *
          generalize (lxY s 0).1 = q at *
          cases hx; cases hy; cases hz
          clear hokx hoky
          obtain ⟨i0, hi, hz0, hz1, hz2⟩ := info_R
          have hb9 := (Below.refl w8.heap.size w8).alloc (Nat.le_refl _) (.cells #[] 29)
          obtain ⟨v9, w9, hr9, hX9, hB9⟩ := append_toks (w8.alloc (.cells #[] 29)) w8.heap.size w8.heap.size (own_none w8 29 3 w8.heap.size (Nat.le_refl _)) (HRx.out.below hb9) (by have := HN3.out; omega) hb9.size
          have HB9 := Lib.hid (hb9.trans hB9)
          have HX9 := Lib.hid hX9
          have HR9 := Lib.hid hr9
          clear hr9 hX9 hB9 hb9
          have hUlt : U < w8.heap.size := HU6.out.lt
          go_wp2_with (at_builtin; refine wpList_append_want (o := ⟨some 60, _, _, _, _, _⟩) _ rfl _ _ _ _ rfl _ _ rfl rfl _ _ HR9.out ?_)
          have HTL : Hid (ty.length ≤ 20000) := HN4.out
          have HTX : Hid (tx.length ≤ 20000) := HN3.out
          have HRYt := Lib.hid HRy.out.top
          have hyl := HTL.out
          go_loopw [9, 10] (fun v i wr => ∃ k : Nat, k ≤ ty.length ∧ i = .int .i64 (k : Int) ∧ Hid (wr.ownsRow w8.heap.size 29 3 v (tx ++ (ty.take k).map (shT (s.length + 1))).length (cellsK (tx ++ (ty.take k).map (shT (s.length + 1)))) ∧ Below w8.heap.size w8 wr)) (fun _ i _ => ty.length - (intOf i).toNat)
          case atStart => exact ⟨0, Nat.zero_le _, rfl, by rw [List.take_zero, List.map_nil, List.append_nil]; exact HX9.out, HB9.out⟩
          case round =>
            obtain ⟨k, hk, rfl, HI⟩ := hrel
            have hU7 := HU7.out.below HI.out.2 HU7.out.lt
            have f0 := hU7.c0
            clear hU7
            by_cases hlt : k < ty.length
            · obtain ⟨b, off, rfl, hlb, hc⟩ := HRy.out.cells (by omega)
              obtain ⟨h0, h1, h2⟩ := hc k hlt
              have HTK := Lib.hid (take_tok ty k hlt)
              have HMA : Hid (0 ≤ (ty[k]?.getD Tk.null).a ∧ (ty[k]?.getD Tk.null).a ≤ 2000) := by
                rw [List.getElem?_eq_getElem hlt]
                have h := HAT2.out ty[k] (List.getElem_mem hlt)
                have h3 := HZ3.out
                show 0 ≤ ty[k].a ∧ ty[k].a ≤ 2000
                omega
              generalize ty[k]?.getD Tk.null = u at *
              obtain ⟨tk, tt, ta⟩ := u
              dsimp only at h0 h1 h2 HMA
              have d0 := (HI.out.2.cell (p := ⟨b, off + k * 3, none⟩) hlb).trans h0
              have d1 := (HI.out.2.cell (p := ⟨b, off + k * 3 + 1, none⟩) hlb).trans h1
              have d2 := (HI.out.2.cell (p := ⟨b, off + k * 3 + 2, none⟩) hlb).trans h2
              clear h0 h1 h2 hc
              have hma0 := HMA.out.1
              have hma1 := HMA.out.2
              have hbA := (Below.refl wr.heap.size wr).alloc (Nat.le_refl _) (.cells #[.int .i64 tk, .string (bsOf tt), .int .i64 ta] 29)
              have HUA := Lib.hid (Trio.new wr 29 (.int .i64 tk) (.string (bsOf tt)) (.int .i64 ta))
              have HBA := Lib.hid hbA
              have hUsz : (wr.alloc (.cells #[.int .i64 tk, .string (bsOf tt), .int .i64 ta] 29)).heap.size = wr.heap.size + 1 := World.size_alloc ..
              clear hbA
              go_upto_region 16 with fail
              obtain ⟨wA, hwA⟩ : ∃ wA, wr.alloc (.cells #[.int .i64 tk, .string (bsOf tt), .int .i64 ta] 29) = wA := ⟨_, rfl⟩
              rw [hwA] at HUA HBA hUsz ⊢
              clear hwA d0 d1 d2
              have HX1 := Lib.hid (row_below HI.out.1 HBA.out)
              obtain ⟨U9, hU9⟩ : ∃ U9, wr.heap.size = U9 := ⟨_, rfl⟩
              rw [hU9] at HUA
              have HU9 := Lib.hid hU9
              have HBX : Hid (Below w8.heap.size w8 wA) := HI.out.2.trans (HBA.out.mono HI.out.2.size)
              rw [hU9]
              clear hU9
              have q2 := HUA.out.c2
              have qf := HUA.out.f 2
              have HUB := Lib.hid (Trio.set2 HUA.out (.int .i64 (ta + ((S.size : Int) + 1))))
              have hbB : Below wr.heap.size wr (wA.setCell ⟨U9, 2, none⟩ (.int .i64 (ta + ((S.size : Int) + 1)))) := HBA.out.setCell (by rw [HU9.out]; exact Nat.le_refl _) _
              have HXB := Lib.hid (row_below HI.out.1 hbB)
              have HBB := Lib.hid (HI.out.2.trans (hbB.mono HI.out.2.size))
              clear hbB HX1 HBX
              go_upto_region 17 with fail
              obtain ⟨wB, hwB⟩ : ∃ wB, wA.setCell ⟨U9, 2, none⟩ (.int .i64 (ta + ((S.size : Int) + 1))) = wB := ⟨_, rfl⟩
              rw [hwB] at HUB HXB HBB ⊢
              clear hwB q2 qf HUA HBA hUsz
              have q0 := HUB.out.c0
              have q1 := HUB.out.c1
              have q2 := HUB.out.c2
              have hlen : (tx ++ (ty.take k).map (shT (s.length + 1))).length ≤ 40000 := by
                have h1 := HTX.out; have h2 := HTL.out
                rw [List.length_append, List.length_map, List.length_take]; omega
              obtain ⟨v7, w7, hr7, hX7, hB7, _⟩ := append_tok (P := Try.prog) wB w8.heap.size 22 22 29 29 i0 _ Try.underlying22 hi hz0 hz1 hz2 rfl u9 _ _ HXB.out ⟨tk, tt, ta + ((S.size : Int) + 1)⟩ (by omega) HBB.out.size
              have HB7 := Lib.hid (HBB.out.trans hB7)
              have HX7 : Hid (w7.ownsRow w8.heap.size 29 3 v7 (tx ++ (ty.take (k + 1)).map (shT (s.length + 1))).length (cellsK (tx ++ (ty.take (k + 1)).map (shT (s.length + 1))))) := by
                have e : tx ++ (ty.take (k + 1)).map (shT (s.length + 1)) = tx ++ (ty.take k).map (shT (s.length + 1)) ++ [⟨tk, tt, ta + ((S.size : Int) + 1)⟩] := by
                  rw [HTK.out, List.map_append, ← List.append_assoc]
                  have h4 := HZ.out
                  show _ ++ [shT (s.length + 1) ⟨tk, tt, ta⟩] = _
                  unfold shT
                  rw [show ((s.length + 1 : Nat) : Int) = (S.size : Int) + 1 by omega]
                rw [e, List.length_append]; exact hX7
              have HR7 := Lib.hid hr7
              clear hr7 hX7 hB7 hlen
              go_wp2_with (at_builtin; refine wpList_append_want (o := ⟨some 83, _, _, _, _, _⟩) _ rfl _ _ _ _ rfl _ _ rfl rfl _ _ HR7.out ?_)
              go_roundw
              case rel => exact ⟨k + 1, by omega, by go_num, HX7.out, HB7.out⟩
              case measure => simp [intOf]; omega
            · obtain rfl : ty.length = k := by omega
              have HI1 := Lib.hid HI.out.1
              rw [List.take_length] at HI1
              have hlen : (tx ++ ty.map (shT (s.length + 1))).length ≤ 40000 := by
                have h1 := HTX.out; have h2 := HTL.out
                rw [List.length_append, List.length_map]; omega
              obtain ⟨a7, c7, rfl, hr7⟩ := RdK.of_row HI1.out (by omega)
              have hg := HU8.out.below HI.out.2 HU8.out.lt
              have g0 := hg.c0
              have g1 := hg.c1
              have g2 := hg.c2
              have HSF := Lib.hid (sameL_any (p := 0) (q := 0) (e := 0) (f := 0) (HRz.out.below HI.out.2) hr7)
              rw [show (decide ((0 : Int) = 0) && decide ((0 : Int) = 0) && decide (tx ++ ty.map (shT (s.length + 1)) = tx ++ ty.map (shT (s.length + 1)))) = true from by simp] at HSF
              have HBE := Lib.hid (HB8.out.trans (HI.out.2.mono HB8.out.size))
              clear hg hr7 hlen
              generalize (tx ++ ty.map (shT (s.length + 1))).length = nz at *
              go_wp2_with fail
              refine HSF.out.mono ?_
              rintro e w9 ⟨rfl, hb9⟩
              have HB9 := Lib.hid (HBE.out.trans (hb9.mono HBE.out.size))
              clear hb9 HSF
              go_wp2
              go_ret
              exact ⟨rfl, HB9.out⟩
    · rw [decide_eq_false h3]
      clear h3
      go_wp2
      go_ret
      exact ⟨rfl, HB1.out⟩
  · rw [decide_eq_false h2]
    clear h2
    go_wp2
    go_ret
    exact ⟨rfl, HB1.out⟩

end Go.Proofs.Ytpmciakmmchndaa.lexerConcatenates
