/-
  Sealing a file.
-/
import Derived.Test.YtdcapmbgnoahpaaCtFile
import Derived.Test.YtdcapmbgnoahpaaCtSum
import Derived.Test.YtdcapmbgnoahpaaCtConcat
import Derived.Lib.SlBytesConst
namespace Go.Proofs.Ytdcapmbgnoahpaa
open Go Go.RowKit Go.Shelf Go.ChangeShapes Go.WideShapes Go.ChangeAt

theorem packS_oct9 (zs : List Int) : Oct (packS zs) := by
  have hh : Oct (headS zs) := by
    unfold headS
    split
    · exact var_oct 0
    · refine ((var_oct _).append (var_oct _)).append fun x hx => ?_
      rw [List.mem_singleton] at hx
      have := width_le zs
      omega
  unfold packS
  exact Oct.append hh (gather_oct _ (bitsS_bin zs) _)
theorem sealA_oct {k : Int} {id data : List Int} (hk : 1 ≤ k ∧ k ≤ 9) (ho : Oct data) : Oct (sealA k id data) := by
  unfold sealA
  refine Oct.append (fun x hx => by simp [letS] at hx; omega) (fun x hx => ?_)
  rcases List.mem_cons.1 hx with rfl | hx
  · omega
  · exact ((packS_oct9 id).append ((var_oct _).append ho)) x hx
theorem sealS_oct {k : Int} {id data : List Int} (hk : 1 ≤ k ∧ k ≤ 9) (ho : Oct data) : Oct (sealS k id data) := (sealA_oct hk ho).append (sum8_oct _)

def sealE (k : Int) (id data : List Int) : Int := if ¬ (1 ≤ k ∧ k ≤ 9) then 1 else if 40 < id.length then 1 else if 65536 < data.length then 2 else 0

/-- What sealing comes to. -/
def SealPost (k : Int) (id data : List Int) (W : World) (e : Ending) (V : World) : Prop :=
  Below W.heap.size W V ∧ ((sealE k id data = 0 ∧ ∃ g n c, e = .returned (.tuple #[.slice (some ⟨g, 0, none⟩) n c, .int .i64 0]) ∧ Rd (fun b => W.heap.size ≤ b) V .u8 (some ⟨g, 0, none⟩) n c (sealS k id data)) ∨
    (sealE k id data ≠ 0 ∧ e = .returned (.tuple #[.slice none 0 0, .int .i64 (sealE k id data)])))

set_option maxRecDepth 100000 in
set_option maxHeartbeats 1000000 in
theorem seal_any {K1 K2 : Nat → Prop} {k : Int} {a1 a2 : Option Addr} {n1 c1 n2 c2 : Nat} {id data : List Int} {W : World} (h1 : Rd K1 W .i64 a1 n1 c1 id) (h2 : Rd K2 W .u8 a2 n2 c2 data) (hz : Smalls id) (ho : Oct data) :
    Calls Try.prog 52 #[.agg #[.int .i64 k, .slice a1 n1 c1, .slice a2 n2 c2]] W (SealPost k id data W) := by
  have HB0 : Hid (Below W.heap.size W (W.alloc (.cells #[.int .i64 k, .slice a1 n1 c1, .slice a2 n2 c2] 52))) := (Below.refl _ _).alloc (Nat.le_refl _) _
  have hf0 := FileB.new W k (.slice a1 n1 c1) (.slice a2 n2 c2)
  have H1 := Lib.hid (h1.below HB0.out)
  have H2 := Lib.hid (h2.below HB0.out)
  have HL1 := Lib.hid h1.hl
  have HL2 := Lib.hid h2.hl
  have hs1 := h1.small
  have hs2 := h2.small
  have HZ := Lib.hid hz
  have HO := Lib.hid ho
  clear h1 h2 hz ho
  have q0 := hf0.c0
  have q1 := hf0.c1
  have q2 := hf0.c2
  have HF := Lib.hid hf0
  clear hf0
  by_cases hk : 1 ≤ k ∧ k ≤ 9
  · have hkb : (decide (1 ≤ k) && decide (k ≤ 9)) = true := by simp [hk]
    have HK := Lib.hid hk
    clear hk
    by_cases h40 : 40 < n1
    · have HE : Hid (sealE k id data = 1) := by show _ = _; unfold sealE; rw [if_neg (fun c => c HK.out), if_pos (by rw [← HL1.out]; exact h40)]
      go_enter Try.func52, Try.ntmps52
      go_wp2_with (go_at_call 69; refine (isKind_any _ _).mono ?_; rintro e w' ⟨rfl, rfl⟩; rw [hkb])
      go_ret2
      exact ⟨HB0.out, .inr ⟨by rw [HE.out]; decide, by rw [HE.out]; rfl⟩⟩
    · by_cases h65 : 65536 < n2
      · have HE : Hid (sealE k id data = 2) := by show _ = _; unfold sealE; rw [if_neg (fun c => c HK.out), if_neg (by rw [← HL1.out]; exact h40), if_pos (by rw [← HL2.out]; exact h65)]
        go_enter Try.func52, Try.ntmps52
        go_wp2_with (go_at_call 69; refine (isKind_any _ _).mono ?_; rintro e w' ⟨rfl, rfl⟩; rw [hkb])
        go_ret2
        exact ⟨HB0.out, .inr ⟨by rw [HE.out]; decide, by rw [HE.out]; rfl⟩⟩
      · have HE : Hid (sealE k id data = 0) := by show _ = _; unfold sealE; rw [if_neg (fun c => c HK.out), if_neg (by rw [← HL1.out]; exact h40), if_neg (by rw [← HL2.out]; exact h65)]
        have kc := fun (w : World) (C : Array Value) (n c : Nat) => Lib.run_convert_bytes_const (P := Try.prog) w 22 5 C n c Try.underlying22 Try.underlying5
        have hpl := pack_len id HZ.out (by rw [← HL1.out]; omega)
        have hkw : IntKind.u8.wrap k = k := by have := HK.out; rw [IntKind.wrap_u8]; omega
        have hnw : IntKind.u64.wrap (n2 : Int) = n2 := by rw [IntKind.wrap_u64]; omega
        go_enter Try.func52, Try.ntmps52
        go_wp2_with (go_at_call 69; refine (isKind_any _ _).mono ?_; rintro e w' ⟨rfl, rfl⟩; rw [hkb])
        generalize W.alloc (.cells #[.int .i64 k, .slice a1 n1 c1, .slice a2 n2 c2] 52) = W0 at *
        clear q0 q1 q2 hkb hs1 hs2
        have hn1 : n1 ≤ 40 := by omega
        have hn2 : n2 ≤ 65536 := by omega
        clear h40 h65
        refine (pack_any HZ.out (by omega) H1.out).mono ?_
        rintro e V1 ⟨g, cg, rfl, hf, hrow, hb⟩
        obtain ⟨p, hp⟩ : ∃ p, (packS id).length = p := ⟨_, rfl⟩
        rw [hp] at hf hrow hpl ⊢
        have HP := Lib.hid hp
        have HRP := Lib.hid (Rd.of_row hp.symm hf (by omega) hrow)
        have HF1 := Lib.hid (HF.out.below hb HF.out.lt)
        have H21 := Lib.hid (H2.out.below hb)
        have HB1 : Hid (Below W.heap.size W V1) := HB0.out.trans (hb.mono HB0.out.size)
        clear hp hrow hb H1 H2 HF HB0
        have q0 := HF1.out.c0
        have q1 := HF1.out.c1
        have q2 := HF1.out.c2
        go_wp2_with fail
        refine (varint_any (fun _ => True) none 0 0 [] n2 (by omega) V1 ⟨rfl, Nat.le_refl _, by decide, by decide, fun h => absurd h (by decide)⟩ (by decide)).mono ?_
        rintro e V2 ⟨g2, cg2, rfl, hf2, hrow2, hb2⟩
        rw [List.nil_append] at hf2 hrow2 ⊢
        have hvl := var_len (u := n2) (by omega)
        have hvp := var_pos n2
        obtain ⟨q, hq⟩ : ∃ q, (varN n2).length = q := ⟨_, rfl⟩
        rw [hq] at hf2 hrow2 hvl hvp ⊢
        have HQ := Lib.hid hq
        have hk1 := kc V2 #[.int .u8 67, .int .u8 72, .int .u8 77] 3 3
        simp only [show #[Value.int .u8 67, .int .u8 72, .int .u8 77].size = 3 from rfl, Nat.reduceAdd] at hk1
        obtain ⟨V3, hV3⟩ : ∃ V, V2.alloc (.cells #[.int .u8 67, .int .u8 72, .int .u8 77] 5 (3, 4)) = V := ⟨_, rfl⟩
        have hb3 : Below V2.heap.size V2 V3 := by rw [← hV3]; exact (Below.refl _ _).alloc (Nat.le_refl _) _
        have hL3 : V3.heap[V2.heap.size]? = some (.cells #[.int .u8 67, .int .u8 72, .int .u8 77] 5 (3, 4)) := by rw [← hV3]; exact World.alloc_heap_new V2 _
        have hs3 : V3.heap.size = V2.heap.size + 1 := by rw [← hV3, World.size_alloc]
        rw [hV3] at hk1
        clear kc hV3
        have HRQ := Lib.hid ((Rd.of_row hq.symm hf2 (by omega) hrow2).below hb3)
        have hbb := hb2.trans (hb3.mono hb2.size)
        have HRP3 := Lib.hid (HRP.out.below hbb)
        have HF3 := Lib.hid (HF1.out.below hbb HF1.out.lt)
        have H23 := Lib.hid (H21.out.below hbb)
        have HB3 : Hid (Below W.heap.size W V3) := HB1.out.trans (hbb.mono HB1.out.size)
        have HL3 := Lib.hid hL3
        have HS3 := Lib.hid hs3
        clear hs3
        clear hq hrow2 hb2 hb3 hbb HRP HF1 H21 HB1 q0 q1 q2 hL3
        have q0 := HF3.out.c0
        have q1 := HF3.out.c1
        have q2 := HF3.out.c2
        have qlt := HF3.out.lt
        go_wp2_with fail
        clear q0 q1 q2 hk1 qlt
        have hbA : Below V3.heap.size V3 (V3.alloc (.cells #[.int .u8 k] 5)) := (Below.refl _ _).alloc (Nat.le_refl _) _
        have hKn : (V3.alloc (.cells #[.int .u8 k] 5)).heap[V3.heap.size]? = some (.cells #[.int .u8 k] 5 (0, 0)) := World.alloc_heap_new V3 _
        have hs4 : (V3.alloc (.cells #[.int .u8 k] 5)).heap.size = V3.heap.size + 1 := World.size_alloc ..
        generalize V3.alloc (.cells #[.int .u8 k] 5) = V4 at *
        have hbB : Below V4.heap.size V4 (V4.alloc (.cells #[.slice (some ⟨V2.heap.size, 0, none⟩) 3 3, .slice (some ⟨V3.heap.size, 0, none⟩) 1 1, .slice (some ⟨g, 0, none⟩) p cg, .slice (some ⟨g2, 0, none⟩) q cg2, .slice a2 n2 c2] 22)) := (Below.refl _ _).alloc (Nat.le_refl _) _
        have hSn : (V4.alloc (.cells #[.slice (some ⟨V2.heap.size, 0, none⟩) 3 3, .slice (some ⟨V3.heap.size, 0, none⟩) 1 1, .slice (some ⟨g, 0, none⟩) p cg, .slice (some ⟨g2, 0, none⟩) q cg2, .slice a2 n2 c2] 22)).heap[V4.heap.size]? = _ := World.alloc_heap_new V4 _
        generalize V4.alloc (.cells #[.slice (some ⟨V2.heap.size, 0, none⟩) 3 3, .slice (some ⟨V3.heap.size, 0, none⟩) 1 1, .slice (some ⟨g, 0, none⟩) p cg, .slice (some ⟨g2, 0, none⟩) q cg2, .slice a2 n2 c2] 22) = V5 at *
        rw [hs4] at hSn
        have hb35 : Below V3.heap.size V3 V5 := hbA.trans (hbB.mono (by omega))
        have hlK : V3.heap.size < V4.heap.size := by omega
        have hcat : catP [⟨some ⟨V2.heap.size, 0, none⟩, 3, 3, letS⟩, ⟨some ⟨V3.heap.size, 0, none⟩, 1, 1, [k]⟩, ⟨some ⟨g, 0, none⟩, p, cg, packS id⟩, ⟨some ⟨g2, 0, none⟩, q, cg2, varN n2⟩, ⟨a2, n2, c2, data⟩] = sealA k id data := by
          unfold catP sealA; rw [← HL2.out]; simp
        have hrows : RowsP V5 (V3.heap.size + 1) [⟨some ⟨V2.heap.size, 0, none⟩, 3, 3, letS⟩, ⟨some ⟨V3.heap.size, 0, none⟩, 1, 1, [k]⟩, ⟨some ⟨g, 0, none⟩, p, cg, packS id⟩, ⟨some ⟨g2, 0, none⟩, q, cg2, varN n2⟩, ⟨a2, n2, c2, data⟩] := by
          have hcl : ∀ (j : Nat) (v : Value), #[Value.slice (some ⟨V2.heap.size, 0, none⟩) 3 3, .slice (some ⟨V3.heap.size, 0, none⟩) 1 1, .slice (some ⟨g, 0, none⟩) p cg, .slice (some ⟨g2, 0, none⟩) q cg2, .slice a2 n2 c2][j]? = some v → V5.cell? ⟨V3.heap.size + 1, j, none⟩ = some v := fun j v h => by
            unfold World.cell?; rw [hSn]; exact h
          refine ⟨(Array.getElem?_eq_some_iff.1 hSn).1, fun j hj => ?_⟩
          rcases (by simp at hj; omega : j = 0 ∨ j = 1 ∨ j = 2 ∨ j = 3 ∨ j = 4) with rfl | rfl | rfl | rfl | rfl
          · refine ⟨hcl 0 _ rfl, ⟨rfl, Nat.le_refl _, (by decide : (3 : Nat) ≤ 9223372036854775807), (by decide : (3 : Nat) ≤ 140737488351232), fun _ => ⟨V2.heap.size, 0, rfl, trivial, ?_, fun i hi => ?_⟩⟩⟩
            · have h1 := (Array.getElem?_eq_some_iff.1 HL3.out).1
              exact Nat.lt_of_lt_of_le h1 hb35.size
            · have h1 := (Array.getElem?_eq_some_iff.1 HL3.out).1
              have h2 := (hb35.block _ h1).trans HL3.out
              unfold World.cell?; rw [h2]
              rcases (by simp at hi; omega : i = 0 ∨ i = 1 ∨ i = 2) with rfl | rfl | rfl <;> rfl
          · refine ⟨hcl 1 _ rfl, ⟨rfl, Nat.le_refl _, (by decide : (1 : Nat) ≤ 9223372036854775807), (by decide : (1 : Nat) ≤ 140737488351232), fun _ => ⟨V3.heap.size, 0, rfl, trivial, Nat.lt_of_lt_of_le hlK hbB.size, fun i hi => ?_⟩⟩⟩
            have h2 := (hbB.block _ hlK).trans hKn
            obtain rfl : i = 0 := by simp at hi; omega
            unfold World.cell?; rw [h2]; rfl
          · exact ⟨hcl 2 _ rfl, (HRP3.out.below hb35).mono fun _ _ _ => trivial⟩
          · exact ⟨hcl 3 _ rfl, (HRQ.out.below hb35).mono fun _ _ _ => trivial⟩
          · exact ⟨hcl 4 _ rfl, (H23.out.below hb35).mono fun _ _ _ => trivial⟩
        have hal := sealA_len k id data
        rw [HP.out, ← HL2.out, HQ.out] at hal
        have HB5 : Hid (Below W.heap.size W V5) := HB3.out.trans (hb35.mono HB3.out.size)
        have HLP := len_cat [⟨some ⟨V2.heap.size, 0, none⟩, 3, 3, letS⟩, ⟨some ⟨V3.heap.size, 0, none⟩, 1, 1, [k]⟩, ⟨some ⟨g, 0, none⟩, p, cg, packS id⟩, ⟨some ⟨g2, 0, none⟩, q, cg2, varN n2⟩, ⟨a2, n2, c2, data⟩]
        rw [hcat, hal] at HLP
        refine (concatP_any (k := 5) rfl (by decide) hrows (by omega) (by omega)).mono ?_
        rintro e V6 ⟨g6, c6, rfl, hf6, hrow6, hb6⟩
        rw [hcat] at hf6 hrow6 ⊢
        obtain ⟨m, hm⟩ : ∃ m, (sealA k id data).length = m := ⟨_, rfl⟩
        have hml : m ≤ 100000 := by omega
        rw [hm] at hf6 hrow6 ⊢
        have HM := Lib.hid hm
        have HROW := Lib.hid hrow6
        have HR6 := Lib.hid (Rd.of_row hm.symm hf6 (by omega) hrow6)
        have HB6 : Hid (Below W.heap.size W V6) := HB5.out.trans (hb6.mono HB5.out.size)
        have H56 := Lib.hid hb6.size
        have H5W := Lib.hid HB5.out.size
        clear hm hrow6 hb6 hrows hcat hal HLP hSn hs4 hb35 hlK hbA hbB hKn HL3 HS3 HRQ HRP3 H23 HF3 HB3 HB5 hpl hvl hvp hkw hnw
        go_wp2_with fail
        refine (checksum_any HR6.out (sealA_oct HK.out HO.out)).mono ?_
        rintro e V7 ⟨g7, rfl, hC, hb7⟩
        obtain ⟨i0, hi, hz0, hz1, hz2⟩ := info_parts Try.infoB
        obtain ⟨g8, c8, V8, hr, hrow8, hb8, hc8⟩ := run_append_rd (P := Try.prog) V7 V5.heap.size 22 22 5 i0 _ 1 .u8 Try.underlying22 hi hz0 hz1 hz2 rfl g6 m c6 (sealA k id data) (row_below HROW.out hb7) _ 8 8 _ hC (by unfold maxLen; omega) (by omega) (Nat.le_trans H56.out hb7.size)
        have HR := Lib.hid hr
        have HB8 : Hid (Below W.heap.size W V8) := (HB6.out.trans (hb7.mono HB6.out.size)).trans (hb8.mono H5W.out)
        have HR8 : Hid (Rd (fun b => V5.heap.size ≤ b) V8 .u8 (some ⟨g8, 0, none⟩) (m + 8) c8 (sealS k id data)) := Rd.of_row (by rw [sealS_len, HM.out]) hc8 (by omega) hrow8
        clear hr hrow8 hb8 hb7 hC hi hz0 hz1 hz2 HROW HR6 HB6
        go_wp2_with (at_builtin; refine wpList_append_want (o := ⟨some 48, _, _, _, _, _⟩) _ rfl _ _ _ _ rfl _ _ rfl rfl _ _ HR.out ?_)
        go_ret2
        exact ⟨HB8.out, .inl ⟨HE.out, g8, m + 8, c8, rfl, HR8.out.mono (fun b _ h => Nat.le_trans H5W.out h)⟩⟩
  · have hkb : (decide (1 ≤ k) && decide (k ≤ 9)) = false := by simp; omega
    have HE : Hid (sealE k id data = 1) := by show _ = _; unfold sealE; rw [if_pos hk]
    clear hk
    go_enter Try.func52, Try.ntmps52
    go_wp2_with (go_at_call 69; refine (isKind_any _ _).mono ?_; rintro e w' ⟨rfl, rfl⟩; rw [hkb])
    go_ret2
    exact ⟨HB0.out, .inr ⟨by rw [HE.out]; decide, by rw [HE.out]; rfl⟩⟩

end Go.Proofs.Ytdcapmbgnoahpaa
