/-
  Opening and splitting bytes; lists of files in memory.
-/
import Derived.Test.YtkfmgiacdlkmiaaCtFirst
namespace Go.Proofs.Ytkfmgiacdlkmiaa
open Go Go.RowKit Go.Shelf Go.ChangeShapes Go.WideShapes Go.ChangeAt

/-! ### Open -/

def openE (bs : List Int) : Int := if fstE bs ≠ 0 then fstE bs else if fstN bs < bs.length then 8 else 0

def OpenPost (bs : List Int) (W : World) (e : Ending) (V : World) : Prop :=
  Below W.heap.size W V ∧ ((openE bs = 0 ∧ ∃ a1 n1 c1 a2 n2 c2, e = .returned (.tuple #[.agg #[.int .i64 (fstK bs), .slice a1 n1 c1, .slice a2 n2 c2], .int .i64 0]) ∧ Rd (fun b => W.heap.size ≤ b) V .i64 a1 n1 c1 (fstI bs) ∧ Rd (fun b => W.heap.size ≤ b) V .u8 a2 n2 c2 (fstD bs)) ∨
    (openE bs ≠ 0 ∧ e = .returned (.tuple #[.agg #[.int .i64 0, .slice none 0 0, .slice none 0 0], .int .i64 (openE bs)])))

/-- The three cells of a file of one's own are stored. -/
theorem FileB.stored {W : World} {B : Nat} {k k' : Int} {s1 s2 s1' s2' : Value} (h : FileB W B k s1 s2) : FileB (((W.setCell ⟨B, 0, none⟩ (.int .i64 k')).setCell ⟨B, 1, none⟩ s1').setCell ⟨B, 2, none⟩ s2') B k' s1' s2' := by
  have h : W.heap[B]? = _ := h
  show (((W.setCell ⟨B, 0, none⟩ (.int .i64 k')).setCell ⟨B, 1, none⟩ s1').setCell ⟨B, 2, none⟩ s2').heap[B]? = _
  simp [World.setCell, Array.getElem?_modify, h]
theorem kept_stored (W : World) (B : Nat) (v0 v1 v2 : Value) : Kept (fun b => b ≠ B) W (((W.setCell ⟨B, 0, none⟩ v0).setCell ⟨B, 1, none⟩ v1).setCell ⟨B, 2, none⟩ v2) :=
  ((kept_set W B 0 v0).trans (kept_set _ B 1 v1)).trans (kept_set _ B 2 v2)

set_option maxRecDepth 100000 in
set_option maxHeartbeats 1000000 in
theorem open_any {K : Nat → Prop} {a : Option Addr} {n c : Nat} {bs : List Int} {W : World} (hR : Rd K W .u8 a n c bs) (ho : Oct bs) :
    Calls Try.prog 26 #[.slice a n c] W (OpenPost bs W) := by
  have HL := Lib.hid hR.hl
  have hb0 : Below W.heap.size W (W.alloc (.cells #[.int .i64 0, .slice none 0 0, .slice none 0 0] 25)) := (Below.refl _ _).alloc (Nat.le_refl _) _
  have hf0 := FileB.new W 0 (.slice none 0 0) (.slice none 0 0)
  have HT := Lib.hid (first_any (hR.below hb0) ho)
  clear hR ho
  go_enter Try.func26, Try.ntmps26
  go_wp2_with fail
  refine HT.out.mono ?_
  rintro e V ⟨hb, hp⟩
  have HBV := Lib.hid (hb0.trans (hb.mono (by simp)))
  have HFV := Lib.hid (hf0.below hb hf0.lt)
  have HSZ : Hid (W.heap.size < V.heap.size) := HFV.out.lt
  clear HT hf0 hb0
  by_cases hz : fstE bs = 0
  · obtain ⟨_, a1, n1, c1, a2, n2, c2, a3, n3, c3, rfl, hI, hD, hR3⟩ := hp.resolve_right (fun c => c.1 hz)
    have hl3 : n3 = bs.length - fstN bs := by rw [hR3.hl, List.length_drop]
    have HI : Hid (Rd (fun b => b ≠ W.heap.size ∧ W.heap.size ≤ b) V .i64 a1 n1 c1 (fstI bs)) := hI.mono fun b _ h => by
      have h : _ ≤ b := h
      rw [World.size_alloc] at h
      exact ⟨by omega, by omega⟩
    have HD : Hid (Rd (fun b => b ≠ W.heap.size ∧ W.heap.size ≤ b) V .u8 a2 n2 c2 (fstD bs)) := hD.mono fun b _ h => by
      have h : _ ≤ b := h
      rw [World.size_alloc] at h
      exact ⟨by omega, by omega⟩
    have hn3 := hR3.small
    clear hI hD hR3 hp hb
    by_cases h0 : fstN bs < bs.length
    · have HE : Hid (openE bs = 8) := by show _ = _; unfold openE; rw [if_neg (fun c => c hz), if_pos h0]
      have hn0 : 0 < n3 := by omega
      clear hl3 h0 hz
      have c0 := HFV.out.c0
      have cc1 := HFV.out.c1
      have cc2 := HFV.out.c2
      have ff0 := HFV.out.f 0
      have ff1 := HFV.out.f 1
      have ff2 := HFV.out.f 2
      have flt := HFV.out.lt
      go_wp2
      clear c0 cc1 cc2 ff0 ff1 ff2
      have hX0 : FileB (((V.setCell ⟨W.heap.size, 0, none⟩ (.int .i64 0)).setCell ⟨W.heap.size, 1, none⟩ (.slice none 0 0)).setCell ⟨W.heap.size, 2, none⟩ (.slice none 0 0)) W.heap.size (0) (.slice none 0 0) (.slice none 0 0) := HFV.out.stored
      have hK0 := kept_stored V W.heap.size (.int .i64 0) (.slice none 0 0) (.slice none 0 0)
      have HBX0 : Hid (Below W.heap.size W (((V.setCell ⟨W.heap.size, 0, none⟩ (.int .i64 0)).setCell ⟨W.heap.size, 1, none⟩ (.slice none 0 0)).setCell ⟨W.heap.size, 2, none⟩ (.slice none 0 0))) := HBV.out.trans (Below.of_but hK0 (Nat.le_refl _) (Nat.le_of_lt HSZ.out))
      have hX1 := hX0.below ((Below.refl _ _).alloc (Nat.le_refl _) (.cells #[.int .i64 (fstK bs), .slice a1 n1 c1, .slice a2 n2 c2] 25)) hX0.lt
      have HBX : Hid (Below W.heap.size W (World.alloc (((V.setCell ⟨W.heap.size, 0, none⟩ (.int .i64 0)).setCell ⟨W.heap.size, 1, none⟩ (.slice none 0 0)).setCell ⟨W.heap.size, 2, none⟩ (.slice none 0 0)) (.cells #[.int .i64 (fstK bs), .slice a1 n1 c1, .slice a2 n2 c2] 25))) := HBX0.out.alloc HBX0.out.size _
      have hbA : Below (World.heap (((V.setCell ⟨W.heap.size, 0, none⟩ (.int .i64 0)).setCell ⟨W.heap.size, 1, none⟩ (.slice none 0 0)).setCell ⟨W.heap.size, 2, none⟩ (.slice none 0 0))).size (((V.setCell ⟨W.heap.size, 0, none⟩ (.int .i64 0)).setCell ⟨W.heap.size, 1, none⟩ (.slice none 0 0)).setCell ⟨W.heap.size, 2, none⟩ (.slice none 0 0)) (World.alloc (((V.setCell ⟨W.heap.size, 0, none⟩ (.int .i64 0)).setCell ⟨W.heap.size, 1, none⟩ (.slice none 0 0)).setCell ⟨W.heap.size, 2, none⟩ (.slice none 0 0)) (.cells #[.int .i64 (fstK bs), .slice a1 n1 c1, .slice a2 n2 c2] 25)) := (Below.refl _ _).alloc (Nat.le_refl _) _
      have g0 := hX1.c0
      have g1 := hX1.c1
      have g2 := hX1.c2
      exact bodyPost_ret (v := .tuple #[.agg #[.int .i64 0, .slice none 0 0, .slice none 0 0], .int .i64 8]) (by simp [results, Try.results26, go_sem, g0, g1, g2]) rfl ⟨HBX.out, .inr ⟨by rw [HE.out]; decide, by rw [HE.out]⟩⟩
    · have HE : Hid (openE bs = 0) := by show _ = _; unfold openE; rw [if_neg (fun c => c hz), if_neg h0]
      obtain rfl : n3 = 0 := by omega
      clear hl3 h0 hz
      have c0 := HFV.out.c0
      have cc1 := HFV.out.c1
      have cc2 := HFV.out.c2
      have ff0 := HFV.out.f 0
      have ff1 := HFV.out.f 1
      have ff2 := HFV.out.f 2
      have flt := HFV.out.lt
      go_wp2
      clear c0 cc1 cc2 ff0 ff1 ff2
      have hX0 : FileB (((V.setCell ⟨W.heap.size, 0, none⟩ (.int .i64 (fstK bs))).setCell ⟨W.heap.size, 1, none⟩ (.slice a1 n1 c1)).setCell ⟨W.heap.size, 2, none⟩ (.slice a2 n2 c2)) W.heap.size ((fstK bs)) (.slice a1 n1 c1) (.slice a2 n2 c2) := HFV.out.stored
      have hK0 := kept_stored V W.heap.size (.int .i64 (fstK bs)) (.slice a1 n1 c1) (.slice a2 n2 c2)
      have HBX0 : Hid (Below W.heap.size W (((V.setCell ⟨W.heap.size, 0, none⟩ (.int .i64 (fstK bs))).setCell ⟨W.heap.size, 1, none⟩ (.slice a1 n1 c1)).setCell ⟨W.heap.size, 2, none⟩ (.slice a2 n2 c2))) := HBV.out.trans (Below.of_but hK0 (Nat.le_refl _) (Nat.le_of_lt HSZ.out))
      have hX1 := hX0.below ((Below.refl _ _).alloc (Nat.le_refl _) (.cells #[.int .i64 (fstK bs), .slice a1 n1 c1, .slice a2 n2 c2] 25)) hX0.lt
      have HBX : Hid (Below W.heap.size W (World.alloc (((V.setCell ⟨W.heap.size, 0, none⟩ (.int .i64 (fstK bs))).setCell ⟨W.heap.size, 1, none⟩ (.slice a1 n1 c1)).setCell ⟨W.heap.size, 2, none⟩ (.slice a2 n2 c2)) (.cells #[.int .i64 (fstK bs), .slice a1 n1 c1, .slice a2 n2 c2] 25))) := HBX0.out.alloc HBX0.out.size _
      have hbA : Below (World.heap (((V.setCell ⟨W.heap.size, 0, none⟩ (.int .i64 (fstK bs))).setCell ⟨W.heap.size, 1, none⟩ (.slice a1 n1 c1)).setCell ⟨W.heap.size, 2, none⟩ (.slice a2 n2 c2))).size (((V.setCell ⟨W.heap.size, 0, none⟩ (.int .i64 (fstK bs))).setCell ⟨W.heap.size, 1, none⟩ (.slice a1 n1 c1)).setCell ⟨W.heap.size, 2, none⟩ (.slice a2 n2 c2)) (World.alloc (((V.setCell ⟨W.heap.size, 0, none⟩ (.int .i64 (fstK bs))).setCell ⟨W.heap.size, 1, none⟩ (.slice a1 n1 c1)).setCell ⟨W.heap.size, 2, none⟩ (.slice a2 n2 c2)) (.cells #[.int .i64 (fstK bs), .slice a1 n1 c1, .slice a2 n2 c2] 25)) := (Below.refl _ _).alloc (Nat.le_refl _) _
      have g0 := hX1.c0
      have g1 := hX1.c1
      have g2 := hX1.c2
      exact bodyPost_ret (v := .tuple #[.agg #[.int .i64 (fstK bs), .slice a1 n1 c1, .slice a2 n2 c2], .int .i64 0]) (by simp [results, Try.results26, go_sem, g0, g1, g2]) rfl ⟨HBX.out, .inl ⟨HE.out, a1, n1, c1, a2, n2, c2, rfl, ((HI.out.kept (hK0.mono fun k hk => hk.1)).below hbA).mono (fun b _ h => h.2), ((HD.out.kept (hK0.mono fun k hk => hk.1)).below hbA).mono (fun b _ h => h.2)⟩⟩
  · obtain ⟨_, rfl⟩ := hp.resolve_left (fun c => hz c.1)
    have HE : Hid (openE bs = fstE bs) := by show _ = _; unfold openE; rw [if_pos hz]
    have HZ := Lib.hid hz
    have hzb : (fstE bs != 0) = true := by simpa using hz
    clear hp hb hz
    generalize fstE bs = x at *
    have c0 := HFV.out.c0
    have cc1 := HFV.out.c1
    have cc2 := HFV.out.c2
    have ff0 := HFV.out.f 0
    have ff1 := HFV.out.f 1
    have ff2 := HFV.out.f 2
    have flt := HFV.out.lt
    go_wp2
    clear c0 cc1 cc2 ff0 ff1 ff2
    have hX0 : FileB (((V.setCell ⟨W.heap.size, 0, none⟩ (.int .i64 0)).setCell ⟨W.heap.size, 1, none⟩ (.slice none 0 0)).setCell ⟨W.heap.size, 2, none⟩ (.slice none 0 0)) W.heap.size (0) (.slice none 0 0) (.slice none 0 0) := HFV.out.stored
    have hK0 := kept_stored V W.heap.size (.int .i64 0) (.slice none 0 0) (.slice none 0 0)
    have HBX0 : Hid (Below W.heap.size W (((V.setCell ⟨W.heap.size, 0, none⟩ (.int .i64 0)).setCell ⟨W.heap.size, 1, none⟩ (.slice none 0 0)).setCell ⟨W.heap.size, 2, none⟩ (.slice none 0 0))) := HBV.out.trans (Below.of_but hK0 (Nat.le_refl _) (Nat.le_of_lt HSZ.out))
    have hX1 := hX0.below ((Below.refl _ _).alloc (Nat.le_refl _) (.cells #[.int .i64 0, .slice none 0 0, .slice none 0 0] 25)) hX0.lt
    have HBX : Hid (Below W.heap.size W (World.alloc (((V.setCell ⟨W.heap.size, 0, none⟩ (.int .i64 0)).setCell ⟨W.heap.size, 1, none⟩ (.slice none 0 0)).setCell ⟨W.heap.size, 2, none⟩ (.slice none 0 0)) (.cells #[.int .i64 0, .slice none 0 0, .slice none 0 0] 25))) := HBX0.out.alloc HBX0.out.size _
    have hbA : Below (World.heap (((V.setCell ⟨W.heap.size, 0, none⟩ (.int .i64 0)).setCell ⟨W.heap.size, 1, none⟩ (.slice none 0 0)).setCell ⟨W.heap.size, 2, none⟩ (.slice none 0 0))).size (((V.setCell ⟨W.heap.size, 0, none⟩ (.int .i64 0)).setCell ⟨W.heap.size, 1, none⟩ (.slice none 0 0)).setCell ⟨W.heap.size, 2, none⟩ (.slice none 0 0)) (World.alloc (((V.setCell ⟨W.heap.size, 0, none⟩ (.int .i64 0)).setCell ⟨W.heap.size, 1, none⟩ (.slice none 0 0)).setCell ⟨W.heap.size, 2, none⟩ (.slice none 0 0)) (.cells #[.int .i64 0, .slice none 0 0, .slice none 0 0] 25)) := (Below.refl _ _).alloc (Nat.le_refl _) _
    have g0 := hX1.c0
    have g1 := hX1.c1
    have g2 := hX1.c2
    exact bodyPost_ret (v := .tuple #[.agg #[.int .i64 0, .slice none 0 0, .slice none 0 0], .int .i64 x]) (by simp [results, Try.results26, go_sem, g0, g1, g2]) rfl ⟨HBX.out, .inr ⟨by rw [HE.out]; exact HZ.out, by rw [HE.out]⟩⟩

end Go.Proofs.Ytkfmgiacdlkmiaa
