/-
  Tokens of the program, as tokens of the reference.
-/
import Derived.Test.YtohobiglnebocaaLxLex
namespace Go.Proofs.Ytohobiglnebocaa.Lx
open Go Go.RowKit Go.Shelf Go.Sort Go.ChangeShapes Go.WideShapes Go.ChangeAt
open Go.Proofs.Ytohobiglnebocaa

theorem own_none (W : World) (t : TypeId) (size base : Nat) (hb : base ≤ W.heap.size) : (W.alloc (.cells #[] t)).ownsRow base t size (.slice (some ⟨W.heap.size, 0, none⟩) 0 0) 0 [] :=
  ⟨by simp, .inr ⟨W.heap.size, 0, #[], rfl, hb, World.alloc_heap_new W _, Nat.le_refl _, by unfold maxLen; omega, by simp, by simp⟩⟩
theorem take_tok (ts : List Tk) (k : Nat) (hk : k < ts.length) : ts.take (k + 1) = ts.take k ++ [ts[k]?.getD Tk.null] := by
  rw [List.take_add_one, List.getElem?_eq_getElem hk]; rfl

set_option maxRecDepth 100000 in
set_option maxHeartbeats 2000000 in
theorem of_any {a : Option Addr} {n c : Nat} {ts : List Tk} {w : World} (h : RdK w a n c ts) (hn : n ≤ 100000) :
    Calls Try.prog 29 #[.slice a n c] w fun e V => ∃ a' c', e = .returned (.slice a' n c') ∧ RdK V a' n c' ts ∧ Below w.heap.size w V := by
  obtain ⟨i0, hi, hz0, hz1, hz2⟩ := info_R
  have hb0 := (Below.refl w.heap.size w).alloc (Nat.le_refl _) (.cells #[] 29)
  have hx0 := own_none w 29 3 w.heap.size (Nat.le_refl _)
  have HB0 := Lib.hid hb0
  have HX0 := Lib.hid hx0
  have HH := Lib.hid h
  have hnc := h.fit
  have hct := h.top
  clear hb0 hx0 h
  go_enter Try.func29, Try.ntmps29
  go_wp2
  go_loopw [3, 4] (fun v i wr => ∃ k : Nat, k ≤ n ∧ i = .int .i64 k ∧ Hid (wr.ownsRow w.heap.size 29 3 v k (cellsK (ts.take k)) ∧ Below w.heap.size w wr)) (fun _ i _ => n - (intOf i).toNat)
  case atStart => exact ⟨0, Nat.zero_le _, rfl, HX0.out, HB0.out⟩
  case round =>
    obtain ⟨k, hk, rfl, HI⟩ := hrel
    by_cases hlt : k < n
    · obtain ⟨b, off, rfl, hlb, hc⟩ := HH.out.cells (by omega)
      obtain ⟨h0, h1, h2⟩ := hc k hlt
      have HTK := Lib.hid (take_tok ts k (by rw [← HH.out.hl]; exact hlt))
      generalize ts[k]?.getD Tk.null = u at *
      obtain ⟨tk, tt, ta⟩ := u
      dsimp only at h0 h1 h2
      have d0 := (HI.out.2.cell (p := ⟨b, off + k * 3, none⟩) hlb).trans h0
      have d1 := (HI.out.2.cell (p := ⟨b, off + k * 3 + 1, none⟩) hlb).trans h1
      have d2 := (HI.out.2.cell (p := ⟨b, off + k * 3 + 2, none⟩) hlb).trans h2
      clear h0 h1 h2 hc
      have HBO : Hid (some b ≠ u3.ownBlock) := fun e => by have h1 := own_base HI.out.1 b e.symm; omega
      have hbo := HBO.out
      have hbz : b < wr.heap.size := Nat.lt_of_lt_of_le hlb HI.out.2.size
      have hwz : w.heap.size ≤ wr.heap.size := HI.out.2.size
      have hX := HI.out.1
      obtain ⟨TT, hTT⟩ : ∃ TT, bsOf tt = TT := ⟨_, rfl⟩
      have HTT := Lib.hid hTT
      rw [hTT] at d1
      clear hTT
      go_upto_region 5 with fail
      go_region_held3 (fun W => W.cell? ⟨b, off + k * 3, none⟩ = some (.int .i64 tk) ∧ W.cell? ⟨b, off + k * 3 + 1, none⟩ = some (.string TT) ∧ W.cell? ⟨b, off + k * 3 + 2, none⟩ = some (.int .i64 ta))
        (first
          | go_keep
          | (go_split_ands
             refine ⟨?_, ?_, ?_⟩
             · (rw [hgrow.cell_far _ (by simp; omega) (by exact hbo)]; assumption)
             · (rw [hgrow.cell_far _ (by simp; omega) (by exact hbo)]; assumption)
             · (rw [hgrow.cell_far _ (by simp; omega) (by exact hbo)]; assumption)))
        ((refine step_append_lies _ (by rfl) _ _ _ (by rfl) w.heap.size 29 i0 _ 3 32 Try.underlying22 hi hz0 hz1 hz2 rfl (by omega) u3 k _ (by rfl) ((hX.alloc _).drew)
              ⟨wr.heap.size, 0, none⟩ 1 1 [.int .i64 tk, .string TT, .int .i64 ta] (by rfl) (by rfl) (World.news_of_block (cs := #[.int .i64 tk, .string TT, .int .i64 ta]) (t := 29) (fr := (0, 0)) (heap_alloc_new wr _)) (by simp [Value.oneCell'])
              (by omega) (by unfold maxLen; omega) (by omega) (by simp; omega) (wr.heap.size + 1) (by simp) ?_; intro gg cX wX hX' hgrow hat hltX))
      have hb2 : Below wr.heap.size wr (wr.alloc (.cells #[.int .i64 tk, .string TT, .int .i64 ta] 29)).drew := ((Below.refl _ _).alloc (Nat.le_refl _) _).drew
      have HX7 : Hid (wX.ownsRow w.heap.size 29 3 (.slice (some ⟨gg, 0, none⟩) (k + 1) cX) (k + 1) (cellsK (ts.take (k + 1)))) := by
        rw [HTK.out, cellsK_append]
        show World.ownsRow _ _ _ _ _ _ (cellsK (ts.take k) ++ [.int .i64 tk, .string (bsOf tt), .int .i64 ta])
        rw [HTT.out]; exact hX'
      have HB7 : Hid (Below w.heap.size w wX) := (HI.out.2.trans (hb2.mono hwz)).grown hgrow (by simp; omega) (fun r e => own_base hX r e)
      clear hb2 hX' hgrow hat hltX d0 d1 d2 hX hbo
      go_wp2
      go_roundw
      case rel => exact ⟨k + 1, by omega, by go_num, HX7.out, HB7.out⟩
      case measure => simp [intOf]; omega
    · obtain rfl : k = n := by omega
      have hk2 := HH.out.hl
      have HI1 := Lib.hid HI.out.1
      rw [List.take_of_length_le (by omega)] at HI1
      subst hk2
      obtain ⟨a3, c3, rfl, hr3⟩ := RdK.of_row HI1.out (by omega)
      have HR3 := Lib.hid hr3
      clear hr3
      go_wp2
      go_ret
      exact ⟨a3, c3, rfl, HR3.out, HI.out.2⟩

end Go.Proofs.Ytohobiglnebocaa.Lx
