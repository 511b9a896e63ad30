/-
  The reference's size, packing with an error, and a number out of bits.
-/
import Derived.Test.YtmbcppkdnoccbaaPkPost
import Derived.Test.YtmbcppkdnoccbaaPkRef4
namespace Go.Proofs.Ytmbcppkdnoccbaa
open Go.RowKit Go.ChangeShapes Go.WideShapes Go.ChangeAt

theorem formR_any {K : Nat → Prop} {a : Option Addr} {len cap : Nat} {zs : List Int} (hz : Smalls zs) (hl : len ≤ 4096) {W : World} (hR : Rd K W .i64 a len cap zs) :
    Calls Try.prog 83 #[.slice a len cap] W fun e W' => Makes W e W' (packS zs) := by
  by_cases h0 : 0 < len
  · obtain ⟨b, off, rfl, _⟩ := hR.cells h0
    exact formR_some hz h0 hl hR
  · obtain rfl : len = 0 := by omega
    obtain rfl : zs = [] := List.eq_nil_of_length_eq_zero hR.hl.symm
    have HE : Hid (packS [] = varN 0) := by show _ = _; rw [varN_lo (by decide)]; exact exP2
    go_enter Try.func83, Try.ntmps83
    go_wp2_with fail
    refine (varintR_nil 0 (by decide) W).mono ?_
    rintro e w1 ⟨g1, c1, rfl, hc1, hrow1, hb1⟩
    rw [← HE.out] at hc1 hrow1 ⊢
    have HB := Lib.hid hb1
    have HC := Lib.hid hc1
    have HRR := Lib.hid hrow1
    clear hb1 hc1 hrow1
    go_wp2
    go_ret
    exact ⟨g1, c1, rfl, HC.out, HRR.out, HB.out⟩

theorem sizeR_any {K : Nat → Prop} {a : Option Addr} {len cap : Nat} {zs : List Int} (hz : Smalls zs) (hl : len ≤ 4096) {W : World} (hR : Rd K W .i64 a len cap zs) :
    Calls Try.prog 80 #[.slice a len cap] W fun e W' => e = .returned (.int .i64 ((packS zs).length : Nat)) ∧ Below W.heap.size W W' := by
  have H := Lib.hid hR
  clear hR
  go_enter Try.func80, Try.ntmps80
  go_wp2_with fail
  refine (formR_any hz hl H.out).mono ?_
  rintro e w1 ⟨g1, c1, rfl, hc1, hrow1, hb1⟩
  have HB := Lib.hid hb1
  obtain ⟨n, hn⟩ : ∃ n, (packS zs).length = n := ⟨_, rfl⟩
  rw [hn]
  have HN := Lib.hid hn
  clear hb1 hc1 hrow1 hn
  go_wp2
  go_ret
  exact ⟨by rw [HN.out]; rfl, HB.out⟩

theorem packR_any {K : Nat → Prop} {a : Option Addr} {len cap : Nat} {zs : List Int} (hz : Smalls zs) (hl : len ≤ 4096) {W : World} (hR : Rd K W .i64 a len cap zs) :
    Calls Try.prog 70 #[.slice a len cap] W (PackedPost W (packS zs)) := by
  have H := Lib.hid hR
  have hpl := pack_len zs hz (by rw [← hR.hl]; exact hl)
  clear hR
  go_enter Try.func70, Try.ntmps70
  go_wp2_with fail
  refine (formR_any hz hl (H.out.below ((Below.refl _ _).alloc (Nat.le_refl _) _))).mono ?_
  rintro e w1 ⟨g, c, rfl, hf, hrow, hb⟩
  have hp := (Pair.new W 105 (.slice none 0 0) (.int .i64 0)).below hb (by simp)
  have p0 := hp.c0
  have p1 := hp.c1
  have f0 := hp.f 0
  have f1 := hp.f 1
  have plt := hp.lt
  have hg := row_base hrow
  simp only [World.size_alloc] at hg
  have HR := Lib.hid (Rd.of_row rfl hf (by omega) hrow)
  have HB : Hid (Below W.heap.size W w1) := ((Below.refl _ _).alloc (Nat.le_refl _) _).trans (hb.mono (by simp))
  clear hb hp hrow
  go_wp2
  refine bodyPost_ret (v := .agg #[.slice (some ⟨g, 0, none⟩) (packS zs).length c, .int .i64 0]) (by simp [results, Try.results70, go_sem, p0, p1]) rfl ⟨g, c, rfl, ?_, (HB.out.setCell (Nat.le_refl _) _).setCell (Nat.le_refl _) _⟩
  exact ((HR.out.set ⟨W.heap.size, 0, none⟩ _ (fun h => by simp at h; omega)).set ⟨W.heap.size, 1, none⟩ _ (fun h => by simp at h; omega)).mono fun i _ h => by simp at h; omega

/-- The bits from at on, w of them, as a number. -/
def bitN (bs : List Int) (at_ w : Nat) : Int := numB (((allBits 8 bs).drop at_).take w)
theorem bitN_zero (bs : List Int) (a : Nat) : bitN bs a 0 = 0 := by unfold bitN; rw [List.take_zero]; rfl
theorem bitN_succ (bs : List Int) (a k : Nat) (h : a + k < 8 * bs.length) : bitN bs a (k + 1) = bitN bs a k + bs[(a + k) / 8]?.getD 0 / 2 ^ ((a + k) % 8) % 2 * 2 ^ k := by
  unfold bitN
  have hal := allBits_length 8 bs
  have h1 : k < ((allBits 8 bs).drop a).length := by rw [List.length_drop]; omega
  have h2 := allBits_at 8 bs ((a + k) / 8) ((a + k) % 8) (by omega) (Nat.mod_lt _ (by decide))
  rw [show (a + k) / 8 * 8 + (a + k) % 8 = a + k by omega] at h2
  rw [List.take_succ_eq_append_getElem h1, numB_snoc, List.length_take, Nat.min_eq_left (Nat.le_of_lt h1), List.getElem_drop]
  have h3 : (allBits 8 bs)[a + k]'(by omega) = bs[(a + k) / 8]?.getD 0 / 2 ^ ((a + k) % 8) % 2 := by
    have := List.getElem?_eq_getElem (l := allBits 8 bs) (i := a + k) (by omega)
    rw [h2] at this
    exact (Option.some.inj this).symm
  rw [h3]
theorem bitN_range {bs : List Int} (a k : Nat) : 0 ≤ bitN bs a k ∧ bitN bs a k < 2 ^ k := by
  have hb : Bin (((allBits 8 bs).drop a).take k) := (allBits_bin 8 bs).part a k
  have h := numB_range hb
  refine ⟨h.1, Int.lt_of_lt_of_le h.2 ?_⟩
  have : (2 : Nat) ^ (((allBits 8 bs).drop a).take k).length ≤ 2 ^ k := Nat.pow_le_pow_right (by decide) (by rw [List.length_take]; omega)
  exact_mod_cast this

end Go.Proofs.Ytmbcppkdnoccbaa
