/-
  The reference's sealing.
-/
import Derived.Test.YtkfmgiacdlkmiaaCtRef2
import Derived.Test.YtkfmgiacdlkmiaaCtWrap
namespace Go.Proofs.Ytkfmgiacdlkmiaa
open Go Go.RowKit Go.Shelf Go.ChangeShapes Go.WideShapes Go.ChangeAt

theorem seal_len_any {k : Int} {id data : List Int} (hz : Smalls id) (h1 : id.length ≤ 40) (h2 : data.length ≤ 65536) : (sealS k id data).length ≤ 200000 := by
  rw [sealS_len, sealA_len]
  have h3 := pack_len id hz (by omega)
  have h4 := var_len (u := data.length) (by omega)
  omega

set_option maxRecDepth 100000 in
set_option maxHeartbeats 4000000 in
theorem sealIn_any {K1 K2 : Nat → Prop} {k : Int} {a1 a2 : Option Addr} {n1 c1 n2 c2 : Nat} {id data : List Int} {W : World} (h1 : Rd K1 W .i64 a1 n1 c1 id) (h2 : Rd K2 W .u8 a2 n2 c2 data) (hz : Smalls id) (ho : Oct data) :
    Calls Try.prog 7 #[.agg #[.int .i64 k, .slice a1 n1 c1, .slice a2 n2 c2]] W (SealedPost k id data W) := by
  have hb1 : Below W.heap.size W (W.alloc (.cells #[.int .i64 k, .slice a1 n1 c1, .slice a2 n2 c2] 25)) := (Below.refl _ _).alloc (Nat.le_refl _) _
  have hf1 := FileB.new W k (.slice a1 n1 c1) (.slice a2 n2 c2)
  have hs1 : (W.alloc (.cells #[.int .i64 k, .slice a1 n1 c1, .slice a2 n2 c2] 25)).heap.size = W.heap.size + 1 := World.size_alloc ..
  have hb2 := hb1.alloc hb1.size (.cells #[.slice none 0 0, .int .i64 0] 33)
  have hp2 := Pair.new (W.alloc (.cells #[.int .i64 k, .slice a1 n1 c1, .slice a2 n2 c2] 25)) 33 (.slice none 0 0) (.int .i64 0)
  rw [hs1] at hp2
  have hf2 := hf1.below ((Below.refl (W.alloc (.cells #[.int .i64 k, .slice a1 n1 c1, .slice a2 n2 c2] 25)).heap.size (W.alloc (.cells #[.int .i64 k, .slice a1 n1 c1, .slice a2 n2 c2] 25))).alloc (Nat.le_refl _) (.cells #[.slice none 0 0, .int .i64 0] 33)) hf1.lt
  have HF2 := Lib.hid hf2
  have H1 := Lib.hid (h1.below hb2)
  have H2 := Lib.hid (h2.below hb2)
  have HZ := Lib.hid hz
  have HO := Lib.hid ho
  have HL1 := Lib.hid h1.hl
  have HL2 := Lib.hid h2.hl
  have hs1' := h1.small
  have hs2' := h2.small
  have HB2 := Lib.hid hb2
  have HP2 := Lib.hid hp2
  have HS2 : Hid (W.heap.size + 1 < ((W.alloc (.cells #[.int .i64 k, .slice a1 n1 c1, .slice a2 n2 c2] 25)).alloc (.cells #[.slice none 0 0, .int .i64 0] 33)).heap.size) := hp2.lt
  clear h1 h2 hz ho hb1 hf1 hs1 hb2 hp2 hf2
  go_enter Try.func7, Try.ntmps7
  go_upto_region 1 with fail
  generalize (W.alloc (.cells #[.int .i64 k, .slice a1 n1 c1, .slice a2 n2 c2] 25)).alloc (.cells #[.slice none 0 0, .int .i64 0] 33) = V0 at *
  have q0 := HF2.out.c0
  have q1 := HF2.out.c1
  have q2 := HF2.out.c2
  have p0 := HP2.out.c0
  have p1 := HP2.out.c1
  have pf0 := HP2.out.f 0
  have pf1 := HP2.out.f 1
  have plt := HP2.out.lt
  have HBX : Hid (∀ v0 v1 : Value, Below W.heap.size W ((V0.setCell ⟨W.heap.size + 1, 0, none⟩ v0).setCell ⟨W.heap.size + 1, 1, none⟩ v1)) := fun v0 v1 => (HB2.out.setCell (Nat.le_succ _) _).setCell (Nat.le_succ _) _
  by_cases hk1 : k < 1
  · have HE : Hid (sealE k id data = 1) := by show _ = _; unfold sealE; rw [if_pos (by omega)]
    go_wp2
    exact bodyPost_ret (v := .agg #[.slice none 0 0, .int .i64 1]) (by simp [results, Try.results7, go_sem, p0, p1]) rfl ⟨HBX.out _ _, .inr ⟨by rw [HE.out]; decide, by rw [HE.out]⟩⟩
  · by_cases hk9 : 9 < k
    · have HE : Hid (sealE k id data = 1) := by show _ = _; unfold sealE; rw [if_pos (by omega)]
      go_wp2
      exact bodyPost_ret (v := .agg #[.slice none 0 0, .int .i64 1]) (by simp [results, Try.results7, go_sem, p0, p1]) rfl ⟨HBX.out _ _, .inr ⟨by rw [HE.out]; decide, by rw [HE.out]⟩⟩
    · by_cases h40 : 40 < n1
      · have HE : Hid (sealE k id data = 1) := by show _ = _; unfold sealE; rw [if_neg (by omega), if_pos (by rw [← HL1.out]; exact h40)]
        go_wp2
        exact bodyPost_ret (v := .agg #[.slice none 0 0, .int .i64 1]) (by simp [results, Try.results7, go_sem, p0, p1]) rfl ⟨HBX.out _ _, .inr ⟨by rw [HE.out]; decide, by rw [HE.out]⟩⟩
      · by_cases h65 : 65536 < n2
        · have HE : Hid (sealE k id data = 2) := by show _ = _; unfold sealE; rw [if_neg (by omega), if_neg (by rw [← HL1.out]; exact h40), if_pos (by rw [← HL2.out]; exact h65)]
          go_wp2
          exact bodyPost_ret (v := .agg #[.slice none 0 0, .int .i64 2]) (by simp [results, Try.results7, go_sem, p0, p1]) rfl ⟨HBX.out _ _, .inr ⟨by rw [HE.out]; decide, by rw [HE.out]⟩⟩
        · have HE : Hid (sealE k id data = 0) := by show _ = _; unfold sealE; rw [if_neg (by omega), if_neg (by rw [← HL1.out]; exact h40), if_neg (by rw [← HL2.out]; exact h65)]
          have HT := Lib.hid (formR9_any (k := k) H1.out H2.out HZ.out HO.out ⟨by omega, by omega⟩ (by omega) (by omega))
          clear HBX
          go_wp2_with fail
          refine HT.out.mono ?_
          rintro e V ⟨g, c, rfl, hc, hrow, hb⟩
          obtain ⟨bs, hbs⟩ : ∃ bs, sealS k id data = bs := ⟨_, rfl⟩
          have hlen : (sealS k id data).length ≤ 100000000 := by
            have := seal_len_any (k := k) HZ.out (by rw [← HL1.out]; omega) (by rw [← HL2.out]; omega : data.length ≤ 65536)
            omega
          rw [hbs] at hc hrow hlen ⊢
          have HBS := Lib.hid hbs
          have hpV := HP2.out.below hb HP2.out.lt
          have HBV : Hid (Below W.heap.size W V) := HB2.out.trans (hb.mono HB2.out.size)
          have HBX : Hid (∀ v0 v1 : Value, Below W.heap.size W ((V.setCell ⟨W.heap.size + 1, 0, none⟩ v0).setCell ⟨W.heap.size + 1, 1, none⟩ v1)) := fun v0 v1 => (HBV.out.setCell (Nat.le_succ _) _).setCell (Nat.le_succ _) _
          have HKX : Hid (∀ v0 v1 : Value, Kept (fun b => b ≠ W.heap.size + 1) V ((V.setCell ⟨W.heap.size + 1, 0, none⟩ v0).setCell ⟨W.heap.size + 1, 1, none⟩ v1)) := fun v0 v1 => (kept_set V _ 0 v0).trans (kept_set _ _ 1 v1)
          have HR := Lib.hid ((Rd.of_row rfl hc (by omega) hrow).mono (K' := fun b => W.heap.size ≤ b ∧ b ≠ W.heap.size + 1) (fun b _ h => ⟨by have := HS2.out; have h : _ ≤ b := h; omega, by have := HS2.out; have h : _ ≤ b := h; omega⟩))
          clear hb HT q0 q1 q2 p0 p1 pf0 pf1 plt hc hrow hlen hbs
          obtain ⟨m, hm⟩ : ∃ m, bs.length = m := ⟨_, rfl⟩
          rw [hm] at HR ⊢
          clear hm
          have p0 := hpV.c0
          have p1 := hpV.c1
          have pf0 := hpV.f 0
          have pf1 := hpV.f 1
          have plt := hpV.lt
          clear hpV
          go_wp2
          exact bodyPost_ret (v := .agg #[.slice (some ⟨g, 0, none⟩) m c, .int .i64 0]) (by simp [results, Try.results7, go_sem, p0, p1]) rfl ⟨HBX.out _ _, .inl ⟨HE.out, g, m, c, rfl, by rw [HBS.out]; exact (HR.out.kept ((HKX.out _ _).mono fun b h => h.2)).mono fun b _ h => h.1⟩⟩

end Go.Proofs.Ytkfmgiacdlkmiaa
