/-
  Joined tokens; what the law calls.
-/
import Derived.Test.YtohobiglnebocaaLxJoin
namespace Go.Proofs.Ytohobiglnebocaa.Lx
open Go Go.RowKit Go.Shelf Go.Sort Go.ChangeShapes Go.WideShapes Go.ChangeAt
open Go.Proofs.Ytohobiglnebocaa

theorem wide_at {ts : List Tk} (h : ∀ t ∈ ts, t.s.length ≤ 1048576) (k : Nat) : (ts[k]?.getD Tk.null).s.length ≤ 1048576 := by
  by_cases hk : k < ts.length
  · rw [List.getElem?_eq_getElem hk]; exact h _ (List.getElem_mem hk)
  · rw [List.getElem?_eq_none (by omega)]; exact Nat.zero_le _

set_option maxRecDepth 100000 in
set_option maxHeartbeats 4000000 in
theorem join_any {a : Option Addr} {n c : Nat} {ts : List Tk} {w : World} (h : RdK w a n c ts) (hn : n ≤ 100000) (hts : ∀ t ∈ ts, t.s.length ≤ 1048576) (hV : Vars w) :
    Calls Try.prog 32 #[.slice a n c] w fun e V => e = .returned (.string (bsOf (joinS ts))) ∧ Below w.heap.size w V := by
  obtain ⟨i0, hi, hz0, hz1, hz2⟩ := info_S10
  have HH := Lib.hid h
  have HV := Lib.hid hV
  have HTS := Lib.hid hts
  have hnc := h.fit
  have hct := h.top
  clear h hV hts
  go_enter Try.func32, Try.ntmps32
  go_wp2
  go_loopw [3, 8] (fun v i wr => ∃ k : Nat, k ≤ n ∧ i = .int .i64 k ∧ Hid (wr.ownsRow w.heap.size 9 1 v (spellsS (ts.take k)).length (cellsS (spellsS (ts.take k))) ∧ Below w.heap.size w wr)) (fun _ i _ => n - (intOf i).toNat)
  case atStart => exact ⟨0, Nat.zero_le _, rfl, ⟨rfl, .inl ⟨rfl, rfl⟩⟩, Below.self _⟩
  case round =>
    obtain ⟨k, hk, rfl, HI⟩ := hrel
    by_cases hlt : k < n
    · obtain ⟨b, off, rfl, hlb, hc⟩ := HH.out.cells (by omega)
      obtain ⟨h0, h1, h2⟩ := hc k hlt
      have HTK := Lib.hid (take_tok ts k (by rw [← HH.out.hl]; exact hlt))
      have HTW := Lib.hid (wide_at HTS.out k)
      have HSL := Lib.hid (spells_len (ts.take k))
      have HTL : Hid ((ts.take k).length ≤ k) := List.length_take_le _ _
      generalize ts[k]?.getD Tk.null = u at *
      obtain ⟨tk, tt, ta⟩ := u
      dsimp only at h0 h1 h2
      have d0 := (HI.out.2.cell (p := ⟨b, off + k * 3, none⟩) hlb).trans h0
      have d1 := (HI.out.2.cell (p := ⟨b, off + k * 3 + 1, none⟩) hlb).trans h1
      have d2 := (HI.out.2.cell (p := ⟨b, off + k * 3 + 2, none⟩) hlb).trans h2
      clear h0 h1 h2 hc
      have hb4 := (Below.refl wr.heap.size wr).alloc (Nat.le_refl _) (.cells #[.int .i64 tk, .string (bsOf tt), .int .i64 ta] 27)
      have HB4 := Lib.hid (HI.out.2.trans (hb4.mono HI.out.2.size))
      have HX4 := Lib.hid (row_below HI.out.1 hb4)
      have HU4 := Lib.hid (Trio.new wr 27 (.int .i64 tk) (.string (bsOf tt)) (.int .i64 ta))
      have HC4 := Lib.hid (valid_any tk ta tt HTW.out _ (HV.out.below HB4.out))
      unfold encK at HC4
      clear hb4
      go_upto_region 5 with fail
      obtain ⟨w4, hw4⟩ : ∃ w4, wr.alloc (.cells #[.int .i64 tk, .string (bsOf tt), .int .i64 ta] 27) = w4 := ⟨_, rfl⟩
      rw [hw4] at HB4 HX4 HU4 HC4 ⊢
      clear hw4 d0 d1 d2
      generalize wr.heap.size = U at *
      have d0 := HU4.out.c0
      have d1 := HU4.out.c1
      have d2 := HU4.out.c2
      cases hvl : vld tk tt
      · have HSP : Hid (spellsS (ts.take (k + 1)) = spellsS (ts.take k)) := by
          show _ = _
          rw [HTK.out, spells_append, spells_no hvl, List.append_nil]
        rw [hvl] at HC4
        clear hvl
        go_wp2_with fail
        refine HC4.out.mono ?_
        rintro e w5 ⟨rfl, hb5⟩
        have HB5 := Lib.hid (HB4.out.trans (hb5.mono HB4.out.size))
        have HX5 := Lib.hid (row_below HX4.out hb5)
        clear hb5 HC4 d0 d1 d2
        go_wp2
        go_roundw
        case rel => exact ⟨k + 1, by omega, by go_num, by rw [HSP.out]; exact HX5.out, HB5.out⟩
        case measure => simp [intOf]; omega
      · have HSP : Hid (spellsS (ts.take (k + 1)) = spellsS (ts.take k) ++ [spl tk tt]) := by
          show _ = _
          rw [HTK.out, spells_append, spells_yes hvl]
        rw [hvl] at HC4
        clear hvl
        go_wp2_with fail
        refine HC4.out.mono ?_
        rintro e w5 ⟨rfl, hb5⟩
        have HB5 := Lib.hid (HB4.out.trans (hb5.mono HB4.out.size))
        have HX5 := Lib.hid (row_below HX4.out hb5)
        have HU5 := Lib.hid (HU4.out.below hb5 HU4.out.lt)
        clear hb5 HC4 d0 d1 d2
        have d0 := HU5.out.c0
        have d1 := HU5.out.c1
        have d2 := HU5.out.c2
        have HC5 := Lib.hid (spell_any tk ta tt HTW.out _ (HV.out.below HB5.out))
        unfold encK at HC5
        go_wp2_with fail
        refine HC5.out.mono ?_
        rintro e w6 ⟨rfl, hb6⟩
        have HB6 := Lib.hid (HB5.out.trans (hb6.mono HB5.out.size))
        have HX6 := Lib.hid (row_below HX5.out hb6)
        clear hb6 HC5 d0 d1 d2
        obtain ⟨v7, w7, hr7, hX7, hB7⟩ := append_str (P := Try.prog) w6 w.heap.size 61 61 9 9 i0 _ Try.underlying61 hi hz0 hz1 hz2 rfl u3 (spellsS (ts.take k)).length (spellsS (ts.take k)) HX6.out (spl tk tt) (by have h1 := HSL.out.1; have h2 := HTL.out; omega) HB6.out.size
        have HB7 := Lib.hid (HB6.out.trans hB7)
        have HX7 : Hid (w7.ownsRow w.heap.size 9 1 v7 (spellsS (ts.take (k + 1))).length (cellsS (spellsS (ts.take (k + 1))))) := by
          rw [HSP.out, List.length_append]; exact hX7
        have HR7 := Lib.hid hr7
        clear hr7 hX7 hB7
        go_wp2_with (at_builtin; refine wpList_append_want (o := ⟨some 18, _, _, _, _, _⟩) _ rfl _ _ _ _ rfl _ _ rfl rfl _ _ HR7.out ?_)
        go_roundw
        case rel => exact ⟨k + 1, by omega, by go_num, HX7.out, HB7.out⟩
        case measure => simp [intOf]; omega
    · obtain rfl : k = n := by omega
      have HI1 := Lib.hid HI.out.1
      rw [List.take_of_length_le (by have := HH.out.hl; omega)] at HI1
      have HSL := Lib.hid (spells_len ts)
      have HJ := Lib.hid (stringsJoin_any HI1.out HSL.out.2 (by have h1 := HSL.out.1; have h2 := HH.out.hl; omega))
      go_wp2_with fail
      refine HJ.out.mono ?_
      rintro e w5 ⟨rfl, hb5⟩
      have HB5 := Lib.hid (HI.out.2.trans (hb5.mono HI.out.2.size))
      clear hb5
      go_wp2
      go_ret
      exact ⟨rfl, HB5.out⟩

/-! ### What the law calls -/

set_option maxRecDepth 100000 in
theorem token_law (k a : Int) (S : ByteArray) (w : World) : Calls Try.prog 7 #[encK k S a] w fun e V => e = .returned (encK k S a) ∧ Below w.heap.size w V := by
  unfold encK
  have hb1 := (Below.refl w.heap.size w).alloc (Nat.le_refl _) (.cells #[.int .i64 k, .string S, .int .i64 a] 29)
  have hb2 := hb1.alloc (by simp) (.cells #[.int .i64 k, .string S, .int .i64 a] 27)
  have HB := Lib.hid hb2
  clear hb1 hb2
  go_enter Try.func7, Try.ntmps7
  go_wp2
  exact bodyPost_ret (v := .agg #[.int .i64 k, .string S, .int .i64 a]) (by simp [results, Try.results7, go_sem]) rfl ⟨rfl, HB.out⟩

set_option maxRecDepth 100000 in
theorem line_any (s : List UInt8) (at_ : Int) (hs : s.length ≤ 9223372036854775) (w : World) : Calls Try.prog 16 #[.string (bsOf s), .int .i64 at_] w fun e V => e = .returned (.agg #[.int .i64 ((lineS s at_).1 : Int), .int .i64 ((lineS s at_).2 : Int)]) ∧ Below w.heap.size w V := by
  have HL := Lib.hid (fun w => line_prog s at_ hs w)
  generalize lineS s at_ = r at *
  obtain ⟨p, q⟩ := r
  dsimp only at HL ⊢
  generalize bsOf s = S at *
  generalize (p : Int) = p' at *
  generalize (q : Int) = q' at *
  have hb1 := (Below.refl w.heap.size w).alloc (Nat.le_refl _) (.cells #[.int .i64 p', .int .i64 q'] 40)
  have HB := Lib.hid hb1
  clear hb1
  go_enter Try.func16, Try.ntmps16
  go_wp2_with (go_at_call 33; ((with_reducible refine (HL.out _).mono ?_); rintro e w' ⟨rfl, rfl⟩))
  exact bodyPost_ret (v := .agg #[.int .i64 p', .int .i64 q']) (by simp [results, Try.results16, go_sem]) rfl ⟨rfl, HB.out⟩

theorem set3_heap (W : World) {N b : Nat} (x y z : Value) (h : b ≠ N) : (((W.setCell ⟨N, 0, none⟩ x).setCell ⟨N, 1, none⟩ y).setCell ⟨N, 2, none⟩ z).heap[b]? = W.heap[b]? := by
  have e : ∀ (W : World) (o : Nat) (v : Value), (W.setCell ⟨N, o, none⟩ v).heap[b]? = W.heap[b]? := fun W o v => Below.heap_setCell W ⟨N, o, none⟩ v b h
  rw [e, e, e]
/-- Tokens are not in the three cells of a result. -/
theorem RdK.stored {W : World} {a : Option Addr} {n c N : Nat} {ts : List Tk} {t : TypeId} {x y z : Value} (h : RdK W a n c ts) (hT : Trio W N t (.slice none 0 0) (.int .i64 0) (.int .i64 0)) : RdK (((W.setCell ⟨N, 0, none⟩ x).setCell ⟨N, 1, none⟩ y).setCell ⟨N, 2, none⟩ z) a n c ts :=
  ⟨h.hl, h.fit, h.top, h.small, fun h0 => by
    obtain ⟨b, off, e, hlt, hc⟩ := h.cells h0
    have hb : b ≠ N := fun e2 => by
      subst e2
      obtain ⟨q0, q1, _⟩ := hc 0 h0
      simp only [World.cell?, show W.heap[b]? = _ from hT] at q0 q1
      rcases off with _ | _ | off
      · simp at q0
      · simp at q1
      · simp at q1
    exact ⟨b, off, e, by simpa [World.setCell] using hlt, fun j hj => ⟨(World.cell?_of_block (w := W) (set3_heap W x y z hb)).trans (hc j hj).1, (World.cell?_of_block (w := W) (set3_heap W x y z hb)).trans (hc j hj).2.1, (World.cell?_of_block (w := W) (set3_heap W x y z hb)).trans (hc j hj).2.2⟩⟩⟩
/-- The lexed tokens in memory. -/
def LexedPost (r : List Tk × Nat × Int) (W : World) (e : Ending) (V : World) : Prop :=
  ∃ a c, e = .returned (.agg #[.slice a r.1.length c, .int .i64 (r.2.1 : Int), .int .i64 r.2.2]) ∧ RdK V a r.1.length c r.1 ∧ Below W.heap.size W V ∧ r.1.length ≤ 20000
set_option maxRecDepth 100000 in
theorem lexed_any (s : List UInt8) (hs : s.length ≤ 9223372036854775807) (w : World) (hV : Vars w) : Calls Try.prog 12 #[.string (bsOf s)] w (LexedPost (lexS s) w) := by
  have hb0 := (Below.refl w.heap.size w).alloc (Nat.le_refl _) (.cells #[.slice none 0 0, .int .i64 0, .int .i64 0] 37)
  have HU0 := Lib.hid (Trio.new w 37 (.slice none 0 0) (.int .i64 0) (.int .i64 0))
  have HC := Lib.hid (lex_any s hs _ (hV.below hb0))
  have HB0 := Lib.hid hb0
  clear hb0 hV hs
  obtain ⟨r, hr⟩ : ∃ r, lexS s = r := ⟨_, rfl⟩
  rw [hr] at HC ⊢
  clear hr
  obtain ⟨ts, p, x⟩ := r
  generalize bsOf s = S at *
  obtain ⟨V0, hV0⟩ : ∃ V0, w.alloc (.cells #[.slice none 0 0, .int .i64 0, .int .i64 0] 37) = V0 := ⟨_, rfl⟩
  rw [hV0] at HU0 HC HB0
  obtain ⟨N, hN⟩ : ∃ N, w.heap.size = N := ⟨_, rfl⟩
  rw [hN] at HU0
  go_enter Try.func12, Try.ntmps12
  go_wp2_with fail
  have HN := Lib.hid hN
  clear hV0 hN
  refine HC.out.mono ?_
  rintro e w1 ⟨a1, c1, rfl, hr1, hb1, hl1⟩
  dsimp only at hr1 hl1
  have HU1 := Lib.hid (HU0.out.below hb1 HU0.out.lt)
  have HB1 := Lib.hid (HB0.out.trans (hb1.mono HB0.out.size))
  have HL1 := Lib.hid hl1
  have HC2 := Lib.hid (of_any hr1 (by omega))
  dsimp only
  generalize hln : ts.length = ln at *
  have HLN := Lib.hid hln
  clear hr1 hb1 HC hl1 hln
  go_wp2_with fail
  refine HC2.out.mono ?_
  rintro e w2 ⟨a2, c2, rfl, hr2, hb2⟩
  have HU2 := Lib.hid (HU1.out.below hb2 HU1.out.lt)
  have HB2 := Lib.hid (HB1.out.trans (hb2.mono HB1.out.size))
  have HR2 := Lib.hid hr2
  clear hr2 hb2 HC2
  have f0 := HU2.out.c0
  have f1 := HU2.out.c1
  have f2 := HU2.out.c2
  have ff0 := HU2.out.f 0
  have ff1 := HU2.out.f 1
  have ff2 := HU2.out.f 2
  go_wp2
  have hst := HU2.out.stored (a' := .slice a2 ln c2) (b' := .int .i64 (p : Int)) (c' := .int .i64 x)
  have g0 := hst.c0
  have g1 := hst.c1
  have g2 := hst.c2
  have hbS : Below w.heap.size w2 (((w2.setCell ⟨N, 0, none⟩ (.slice a2 ln c2)).setCell ⟨N, 1, none⟩ (.int .i64 (p : Int))).setCell ⟨N, 2, none⟩ (.int .i64 x)) := (((Below.refl _ _).setCell (by rw [HN.out]; exact Nat.le_refl _) _).setCell (by rw [HN.out]; exact Nat.le_refl _) _).setCell (by rw [HN.out]; exact Nat.le_refl _) _
  exact bodyPost_ret (v := .agg #[.slice a2 ln c2, .int .i64 (p : Int), .int .i64 x]) (by simp [results, Try.results12, go_sem, g0, g1, g2]) rfl ⟨a2, c2, by rw [← HLN.out], by rw [← HLN.out] at HR2 ⊢; exact HR2.out.stored HU2.out, HB2.out.trans hbS, by dsimp only; rw [HLN.out]; exact HL1.out⟩

set_option maxRecDepth 100000 in
set_option maxHeartbeats 1000000 in
theorem sameL_any {a1 a2 : Option Addr} {n1 c1 n2 c2 : Nat} {x y : List Tk} {p q e f : Int} {w : World} (h1 : RdK w a1 n1 c1 x) (h2 : RdK w a2 n2 c2 y) :
    Calls Try.prog 11 #[.agg #[.slice a1 n1 c1, .int .i64 p, .int .i64 e], .agg #[.slice a2 n2 c2, .int .i64 q, .int .i64 f]] w fun en V => en = .returned (.bool (decide (e = f) && decide (p = q) && decide (x = y))) ∧ Below w.heap.size w V := by
  have hb1 := (Below.refl w.heap.size w).alloc (Nat.le_refl _) (.cells #[.slice a1 n1 c1, .int .i64 p, .int .i64 e] 37)
  have hb2 := hb1.alloc (by simp) (.cells #[.slice a2 n2 c2, .int .i64 q, .int .i64 f] 37)
  have HC := Lib.hid (sameR_any (h1.below hb2) (h2.below hb2))
  have HB := Lib.hid hb2
  clear hb1 hb2 h1 h2
  obtain ⟨z, hz⟩ : ∃ z, decide (x = y) = z := ⟨_, rfl⟩
  rw [hz] at HC ⊢
  clear hz
  obtain ⟨r, hr⟩ : ∃ r, (decide (e = f) && decide (p = q) && z) = r := ⟨_, rfl⟩
  have HR := Lib.hid hr
  rw [hr]
  clear hr
  by_cases he : e = f
  · subst he
    by_cases hp : p = q
    · subst hp
      have HZ : Hid (z = r) := (show z = r from by have h := HR.out; simpa using h)
      go_enter Try.func11, Try.ntmps11
      go_wp2_with (go_at_call 27; ((with_reducible refine HC.out.mono ?_); rintro e w' ⟨rfl, hb3⟩))
      go_ret
      exact ⟨ret_b HZ.out, HB.out.trans (hb3.mono HB.out.size)⟩
    · have HZ : Hid (false = r) := (show false = r from by have h := HR.out; simpa [hp] using h)
      have hpb : (p == q) = false := beq_false_of_ne hp
      clear hp
      go_enter Try.func11, Try.ntmps11
      go_wp2
      go_ret
      exact ⟨ret_b HZ.out, HB.out⟩
  · have HZ : Hid (false = r) := (show false = r from by have h := HR.out; simpa [he] using h)
    have heb : (e == f) = false := beq_false_of_ne he
    clear he
    go_enter Try.func11, Try.ntmps11
    go_wp2
    go_ret
    exact ⟨ret_b HZ.out, HB.out⟩

set_option maxRecDepth 100000 in
theorem small_nil (S : ByteArray) (hS : S.size ≤ 9223372036854775807) (w : World) : Calls Try.prog 5 #[.string S, .slice none 0 0] w fun e V => e = .returned (.bool (decide (S.size ≤ 2000))) ∧ w = V := by
  obtain ⟨r, hr⟩ : ∃ r, decide (S.size ≤ 2000) = r := ⟨_, rfl⟩
  have HR := Lib.hid hr
  rw [hr]
  clear hr
  go_enter Try.func5, Try.ntmps5
  go_wp2
  go_loop [5, 6] (fun n i => n = .int .i64 (S.size : Int) ∧ i = .int .i64 0) (fun _ _ => 0)
  case atStart => exact ⟨rfl, rfl⟩
  case round =>
    obtain ⟨rfl, rfl⟩ := hrel
    go_wp2
    go_ret
    exact ⟨ret_b (by rw [← HR.out]; simp; omega), rfl⟩

set_option maxRecDepth 100000 in
set_option maxHeartbeats 2000000 in
theorem joined_any {a : Option Addr} {n c : Nat} {ts : List Tk} {w : World} (h : RdK w a n c ts) (hn : n ≤ 100000) (hts : ∀ t ∈ ts, t.s.length ≤ 1048576) (hV : Vars w) :
    Calls Try.prog 14 #[.slice a n c] w fun e V => e = .returned (.string (bsOf (joinS ts))) ∧ Below w.heap.size w V := by
  obtain ⟨i0, hi, hz0, hz1, hz2⟩ := info_K
  have hb0 := (Below.refl w.heap.size w).alloc (Nat.le_refl _) (.cells #[] 27)
  have hx0 := own_none w 27 3 w.heap.size (Nat.le_refl _)
  have HB0 := Lib.hid hb0
  have HX0 := Lib.hid hx0
  have HH := Lib.hid h
  have HV := Lib.hid hV
  have HTS := Lib.hid hts
  have hnc := h.fit
  have hct := h.top
  clear hb0 hx0 h hV hts
  go_enter Try.func14, Try.ntmps14
  go_wp2
  go_loopw [3, 4] (fun v i wr => ∃ k : Nat, k ≤ n ∧ i = .int .i64 k ∧ Hid (wr.ownsRow w.heap.size 27 3 v k (cellsK (ts.take k)) ∧ Below w.heap.size w wr)) (fun _ i _ => n - (intOf i).toNat)
  case atStart => exact ⟨0, Nat.zero_le _, rfl, HX0.out, HB0.out⟩
  case round =>
    obtain ⟨k, hk, rfl, HI⟩ := hrel
    by_cases hlt : k < n
    · obtain ⟨b, off, rfl, hlb, hc⟩ := HH.out.cells (by omega)
      obtain ⟨h0, h1, h2⟩ := hc k hlt
      have HTK := Lib.hid (take_tok ts k (by rw [← HH.out.hl]; exact hlt))
      generalize ts[k]?.getD Tk.null = u at *
      obtain ⟨tk, tt, ta⟩ := u
      dsimp only at h0 h1 h2
      have d0 := (HI.out.2.cell (p := ⟨b, off + k * 3, none⟩) hlb).trans h0
      have d1 := (HI.out.2.cell (p := ⟨b, off + k * 3 + 1, none⟩) hlb).trans h1
      have d2 := (HI.out.2.cell (p := ⟨b, off + k * 3 + 2, none⟩) hlb).trans h2
      clear h0 h1 h2 hc
      have HC := Lib.hid (fun w => token_law tk ta (bsOf tt) w)
      unfold encK at HC
      go_wp2_with fail
      refine (HC.out _).mono ?_
      rintro e w5 ⟨rfl, hb5⟩
      have HB5 := Lib.hid (HI.out.2.trans (hb5.mono HI.out.2.size))
      have HX5 := Lib.hid (row_below HI.out.1 hb5)
      clear hb5 HC d0 d1 d2
      obtain ⟨v7, w7, hr7, hX7, hB7, _⟩ := append_tok (P := Try.prog) w5 w.heap.size 46 46 27 27 i0 _ Try.underlying46 hi hz0 hz1 hz2 rfl u3 k (ts.take k) HX5.out ⟨tk, tt, ta⟩ (by omega) HB5.out.size
      have HB7 := Lib.hid (HB5.out.trans hB7)
      have HX7 : Hid (w7.ownsRow w.heap.size 27 3 v7 (k + 1) (cellsK (ts.take (k + 1)))) := by
        rw [HTK.out]; exact hX7
      have HR7 := Lib.hid hr7
      clear hr7 hX7 hB7
      go_wp2_with (at_builtin; refine wpList_append_want (o := ⟨some 19, _, _, _, _, _⟩) _ rfl _ _ _ _ rfl _ _ rfl rfl _ _ HR7.out ?_)
      go_roundw
      case rel => exact ⟨k + 1, by omega, by go_num, HX7.out, HB7.out⟩
      case measure => simp [intOf]; omega
    · obtain rfl : k = n := by omega
      have hk2 := HH.out.hl
      have HI1 := Lib.hid HI.out.1
      rw [List.take_of_length_le (by omega)] at HI1
      subst hk2
      obtain ⟨a3, c3, rfl, hr3⟩ := RdK.of_row HI1.out (by omega)
      have HJ := Lib.hid (join_any hr3 (by omega) HTS.out (HV.out.below HI.out.2))
      clear hr3
      go_wp2_with fail
      refine HJ.out.mono ?_
      rintro e w5 ⟨rfl, hb5⟩
      have HB5 := Lib.hid (HI.out.2.trans (hb5.mono HI.out.2.size))
      clear hb5
      go_wp2
      go_ret
      exact ⟨rfl, HB5.out⟩

end Go.Proofs.Ytohobiglnebocaa.Lx
