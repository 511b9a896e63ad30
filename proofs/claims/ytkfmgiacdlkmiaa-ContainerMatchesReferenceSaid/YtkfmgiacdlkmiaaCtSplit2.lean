/-
  Splitting bytes into files: the walk.
-/
import Derived.Test.YtkfmgiacdlkmiaaCtSplit
namespace Go.Proofs.Ytkfmgiacdlkmiaa
open Go Go.RowKit Go.Shelf Go.ChangeShapes Go.WideShapes Go.ChangeAt

theorem AllE.mono {L L' : Nat → Prop} {A : World} {es : List Fe} {fs : List Fl} (h : AllE L A es fs) (hk : ∀ b, b < A.heap.size → L b → L' b) : AllE L' A es fs := ⟨h.1, fun j hj => (h.2 j hj).mono hk⟩
theorem own_lt {A : World} {base : Nat} {e : TypeId} {size n : Nat} {v : Value} {xs : List Value} (hr : A.ownsRow base e size v n xs) {g : Nat} (h : v.ownBlock = some g) : g < A.heap.size := by
  rcases hr.2 with ⟨rfl, _⟩ | ⟨g', cap, cur, rfl, hb, hg, _⟩
  · cases h
  · cases h; exact (Array.getElem?_eq_some_iff.1 hg).1

/-- What splitting comes to. -/
def SplPost (K : Nat → Prop) (bs : List Int) (W : World) (e : Ending) (V : World) : Prop :=
  Below W.heap.size W V ∧ ∃ a1 n1 c1 a2 n2 c2, e = .returned (.tuple #[.slice a1 n1 c1, .slice a2 n2 c2]) ∧ RdFs (fun b => W.heap.size ≤ b) (fun b => W.heap.size ≤ b) V a1 n1 c1 (splS bs).1 ∧ Rd K V .u8 a2 n2 c2 (splS bs).2

theorem clipB_any (a : Option Addr) (n c : Nat) (hf : n ≤ c) (_ht : c ≤ 9223372036854775807) (W : World) : Calls Try.prog 37 #[.slice a n c] W fun e V => e = .returned (.slice a n n) ∧ W = V := by
  go_enter Try.func37, Try.ntmps37
  go_wp2
  go_ret
  exact ⟨rfl, rfl⟩

def lenOf : Value → Nat
  | .slice _ n _ => n
  | _ => 0

set_option maxRecDepth 100000 in
set_option maxHeartbeats 2000000 in
theorem split_any {K : Nat → Prop} {a : Option Addr} {n c : Nat} {bs : List Int} {W : World} (hR : Rd K W .u8 a n c bs) (ho : Oct bs) (hn : n ≤ 900000) :
    Calls Try.prog 23 #[.slice a n c] W (SplPost K bs W) := by
  have HR := Lib.hid (hR.mono (K' := fun b => K b ∧ b < W.heap.size) (fun b hlt hk => ⟨hk, hlt⟩))
  have HO := Lib.hid ho
  clear hR ho
  go_enter Try.func23, Try.ntmps23
  go_wp2
  go_loopw [0, 4] (fun sv lv wr => ∃ a' n' c' v m es fs bs', sv = .slice a' n' c' ∧ lv = v ∧ m + n' ≤ n ∧ Hid (Rd (fun b => K b ∧ b < W.heap.size) wr .u8 a' n' c' bs') ∧ Hid (wr.ownsRow W.heap.size 25 3 v m (cellsE es)) ∧ Hid (AllE (fun b => W.heap.size ≤ b ∧ v.ownBlock ≠ some b) wr es fs) ∧ Hid (Below W.heap.size W wr) ∧ Hid (splS bs = (fs ++ (splS bs').1, (splS bs').2)) ∧ Hid (Oct bs')) (fun sv _ _ => lenOf sv)
  case atStart => exact ⟨a, n, c, .slice none 0 0, 0, [], [], bs, rfl, rfl, by omega, HR.out, ⟨rfl, .inl ⟨rfl, rfl⟩⟩, AllE.nil, Below.refl _ _, rfl, HO.out⟩
  case round =>
    clear HR HO
    obtain ⟨a', n', c', v, m, es, fs, bs', rfl, rfl, hmn, HR, HROW, HA, HB, HS, HO⟩ := hrel
    have HT := Lib.hid (first_any HR.out HO.out)
    by_cases hz : fstE bs' = 0
    · obtain ⟨hkk, hii, hdd, -, hcan, hfl⟩ := first_canon HO.out hz
      have hnl := HR.out.hl
      have hfle := fstN_le HO.out hz
      have hfp := fstN_pos bs'
      have HSM : Hid (splS bs = ((fs ++ [⟨fstK bs', fstI bs', fstD bs'⟩]) ++ (splS (bs'.drop (fstN bs'))).1, (splS (bs'.drop (fstN bs'))).2)) := by
        show _ = _; rw [HS.out, splS_more HO.out hz]; simp
      have HO2 := Lib.hid (HO.out.drop (fstN bs'))
      have HZ := Lib.hid hz
      have HNL : Hid (n' = bs'.length ∧ fstN bs' ≤ bs'.length ∧ 8 ≤ fstN bs') := ⟨hnl, hfle, hfp⟩
      clear hkk hii hdd hcan hfl hz HS hnl hfle hfp
      go_wp2_with fail
      refine HT.out.mono ?_
      rintro e V ⟨hb, hp⟩
      obtain ⟨_, a1, n1, c1, a2, n2, c2, a3, n3, c3, rfl, hI, hD, hR3⟩ := hp.resolve_right (fun c => c.1 HZ.out)
      have hn3 : n3 = n' - fstN bs' := by rw [hR3.hl, List.length_drop, ← HNL.out.1]
      have HN3 : Hid (m + 1 + n3 ≤ n ∧ n3 < n') := by have := HNL.out; show _ ∧ _; omega
      have hbA : Below V.heap.size V (V.alloc (.cells #[.int .i64 (fstK bs'), .slice a1 n1 c1, .slice a2 n2 c2] 25)) := (Below.refl _ _).alloc (Nat.le_refl _) _
      have hbB : Below V.heap.size V ((V.alloc (.cells #[.int .i64 (fstK bs'), .slice a1 n1 c1, .slice a2 n2 c2] 25)).alloc (.cells #[.int .i64 (fstK bs'), .slice a1 n1 c1, .slice a2 n2 c2] 25)) := hbA.alloc hbA.size _
      have hu0 := World.alloc_heap_new (V.alloc (.cells #[.int .i64 (fstK bs'), .slice a1 n1 c1, .slice a2 n2 c2] 25)) (.cells #[.int .i64 (fstK bs'), .slice a1 n1 c1, .slice a2 n2 c2] 25)
      have hszA : (V.alloc (.cells #[.int .i64 (fstK bs'), .slice a1 n1 c1, .slice a2 n2 c2] 25)).heap.size = V.heap.size + 1 := World.size_alloc ..
      rw [hszA] at hu0
      have hbW : Below wr.heap.size wr ((V.alloc (.cells #[.int .i64 (fstK bs'), .slice a1 n1 c1, .slice a2 n2 c2] 25)).alloc (.cells #[.int .i64 (fstK bs'), .slice a1 n1 c1, .slice a2 n2 c2] 25)) := hb.trans (hbB.mono hb.size)
      have HW2 : Hid (∃ X, ((V.alloc (.cells #[.int .i64 (fstK bs'), .slice a1 n1 c1, .slice a2 n2 c2] 25)).alloc (.cells #[.int .i64 (fstK bs'), .slice a1 n1 c1, .slice a2 n2 c2] 25)) = X) := ⟨_, rfl⟩
      have hrow := row_below HROW.out hbW
      obtain ⟨g', cap', w', hr, h1, h2, h3, h4⟩ := append_file _ W.heap.size u4 m es hrow (V.heap.size + 1) ⟨fstK bs', a1, n1, c1, a2, n2, c2⟩ hu0 (by omega) (Nat.le_trans HB.out.size hbW.size)
      have hr' : (Builtin.append_ #[30, 30] 30 #[u4, .slice (some ⟨V.heap.size + 1, 0, none⟩) 1 1]).run Try.prog ((V.alloc (.cells #[.int .i64 (fstK bs'), .slice a1 n1 c1, .slice a2 n2 c2] 25)).alloc (.cells #[.int .i64 (fstK bs'), .slice a1 n1 c1, .slice a2 n2 c2] 25)) = .ok (.slice (some ⟨g', 0, none⟩) (m + 1) cap') w' := hr
      have HRN := Lib.hid hr'
      have hown : ∀ g, u4.ownBlock = some g → g < wr.heap.size := fun g hg => own_lt HROW.out hg
      have hkA : Kept (fun b => u4.ownBlock ≠ some b) wr w' := (Kept.all hbW).trans (Kept.of_grownBy h2 (fun r e h => h e))
      have hkV : Kept (fun b => u4.ownBlock ≠ some b) V w' := (Kept.all hbB).trans (Kept.of_grownBy h2 (fun r e h => h e))
      have hszB := hbB.size
      have hszW := hb.size
      have hA1 : AllE (fun b => W.heap.size ≤ b ∧ (Value.slice (some ⟨g', 0, none⟩) (m + 1) cap').ownBlock ≠ some b) w' es fs :=
        ((HA.out.mono (L' := fun b => W.heap.size ≤ b ∧ u4.ownBlock ≠ some b ∧ b < wr.heap.size) (fun b hlt h => ⟨h.1, h.2, hlt⟩)).kept (hkA.mono fun b h => h.2.1)).mono (fun b _ h => ⟨h.1, fun e => by
          have e : some g' = some b := e
          injection e with e
          rcases h3 with h3 | h3
          · exact h.2.1 (e ▸ h3)
          · have := h.2.2; omega⟩)
      have hE : HoldsE (fun b => W.heap.size ≤ b ∧ (Value.slice (some ⟨g', 0, none⟩) (m + 1) cap').ownBlock ≠ some b) w' ⟨fstK bs', a1, n1, c1, a2, n2, c2⟩ ⟨fstK bs', fstI bs', fstD bs'⟩ := by
        have hh : HoldsE (fun b => wr.heap.size ≤ b ∧ b < V.heap.size) V ⟨fstK bs', a1, n1, c1, a2, n2, c2⟩ ⟨fstK bs', fstI bs', fstD bs'⟩ := ⟨rfl, hI.mono fun b hlt h => ⟨h, hlt⟩, hD.mono fun b hlt h => ⟨h, hlt⟩⟩
        refine (hh.kept (hkV.mono fun b h e => ?_)).mono fun b _ h => ⟨Nat.le_trans HB.out.size h.1, fun e => ?_⟩
        · have := hown b e; have := h.1; omega
        · have e : some g' = some b := e
          injection e with e
          rcases h3 with h3 | h3
          · have := hown _ h3; have := h.1; omega
          · have := h.2; omega
      have HAN := Lib.hid (hA1.snoc hE)
      have HRW := Lib.hid h1
      have HBN : Hid (Below W.heap.size W w') := HB.out.trans ((hbW.mono HB.out.size).grown h2 (Nat.le_trans HB.out.size hbW.size) (fun k hk => by
        rcases HROW.out.2 with ⟨e, _⟩ | ⟨g2, cap2, cur2, e, hb2, _⟩
        · rw [e] at hk; cases hk
        · rw [e] at hk; cases hk; exact hb2))
      have HR3 : Hid (Rd (fun b => K b ∧ b < W.heap.size) w' .u8 a3 n3 c3 (bs'.drop (fstN bs'))) := hR3.kept (hkV.mono fun b h e => by
        rcases HROW.out.2 with ⟨e2, _⟩ | ⟨g2, cap2, cur2, e2, hb2, _⟩
        · rw [e2] at e; cases e
        · rw [e2] at e; cases e; exact absurd h.2 (Nat.not_lt.2 hb2))
      clear hr hr' h1 h2 h3 h4 hA1 hE hkA hkV hown hrow hbW hbB hbA hu0 hszA hb hp hI hD hR3 HA HROW HR HT hszB hszW HW2 hn3
      go_wp2_with (at_builtin; refine wpList_append_want (o := ⟨some 22, _, _, _, _, _⟩) _ rfl _ _ _ _ rfl _ _ rfl rfl _ _ HRN.out ?_)
      go_roundw
      case rel => exact ⟨a3, n3, c3, _, m + 1, _, _, _, rfl, rfl, HN3.out.1, HR3.out, HRW.out, HAN.out, HBN.out, HSM.out, HO2.out⟩
      case measure => exact HN3.out.2
    · have HZ := Lib.hid hz
      have hzb : (fstE bs' != 0) = true := by simpa using hz
      have HSE : Hid (splS bs = (fs, bs')) := by show _ = _; rw [HS.out, splS_end hz, List.append_nil]
      have hsm := HR.out.small
      have hft := HR.out.fit
      have htp := HR.out.top
      clear hz
      go_wp2_with (go_at_call 36; refine HT.out.mono ?_; rintro e V ⟨hb, hp⟩; obtain ⟨_, rfl⟩ := hp.resolve_left (fun c => HZ.out c.1); have HB2 := Lib.hid hb; clear hb hp)
      refine (clipB_any a' n' c' hft htp _).mono ?_
      rintro e w' ⟨rfl, rfl⟩
      have hbA : Below wr.heap.size wr (V.alloc (.cells #[.int .i64 0, .slice none 0 0, .slice none 0 0] 25)) := HB2.out.alloc HB2.out.size _
      have HBN : Hid (Below W.heap.size W (V.alloc (.cells #[.int .i64 0, .slice none 0 0, .slice none 0 0] 25))) := HB.out.trans (hbA.mono HB.out.size)
      have HRN := Lib.hid (HR.out.below hbA)
      have hrow := row_below HROW.out hbA
      have hAN := HA.out.below hbA
      generalize V.alloc (.cells #[.int .i64 0, .slice none 0 0, .slice none 0 0] 25) = V2 at *
      obtain ⟨a1, cc, rfl, hRF⟩ := RdFs.of_row hrow hAN (by omega)
      have HRF := Lib.hid hRF
      clear hRF hrow hAN hbA
      go_wp2
      go_ret2
      refine ⟨HBN.out, a1, m, cc, a', n', n', rfl, ?_, ?_⟩
      · rw [HSE.out]; exact HRF.out.mono (fun _ _ h => h) (fun _ _ h => h.1)
      · rw [HSE.out]
        refine ⟨HRN.out.hl, Nat.le_refl _, by omega, HRN.out.small, fun h0 => ?_⟩
        obtain ⟨b, off, e, hk, hlt, hc⟩ := HRN.out.cells h0
        exact ⟨b, off, e, hk.1, hlt, hc⟩

end Go.Proofs.Ytkfmgiacdlkmiaa
