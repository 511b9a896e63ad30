/-
  The reference's width and frame.
-/
import Derived.Test.YtmbcppkdnoccbaaPkRef2
import Derived.Lib.MinMax
import Derived.BigRegion
import Derived.Deep.DeepCutAuto
namespace Go.Proofs.Ytmbcppkdnoccbaa
open Go.RowKit Go.ChangeShapes Go.WideShapes Go.ChangeAt

theorem widthR_any (u : Nat) (hu : u < 18446744073709551616) (w : World) :
    Calls Try.prog 102 #[.int .u64 u] w fun e w' => e = .returned (.int .i64 (Lib.bitLen u : Nat)) ∧ w = w' := by
  have hb64 : Lib.bitLen u ≤ 64 := Lib.bitLen_le u 64 (Nat.le_refl _) (by simpa using hu)
  obtain ⟨L, hL⟩ : ∃ L, Lib.bitLen u = L := ⟨_, rfl⟩
  have HL := Lib.hid hL
  rw [hL] at hb64 ⊢
  clear hL
  go_enter Try.func102, Try.ntmps102
  go_wp2
  go_loop [0, 3] (fun q n => ∃ m k : Nat, q = .int .u64 m ∧ n = .int .i64 k ∧ m < 18446744073709551616 ∧ k ≤ 64 ∧ Hid (k + Lib.bitLen m = L)) (fun q _ => (intOf q).toNat)
  case atStart => exact ⟨u, 0, rfl, rfl, hu, by decide, by show _ = _; rw [HL.out]; omega⟩
  case round =>
    obtain ⟨m, k, rfl, rfl, hm, hk, HK⟩ := hrel
    by_cases h0 : m = 0
    · have HE : Hid (k = L) := by show _ = _; have := HK.out; rw [h0] at this; exact this
      subst h0
      go_wp2
      go_ret
      exact ⟨ret_int (by rw [HE.out]), rfl⟩
    · have h1 := Lib.bitLen_half m h0 (by simpa using hm)
      have HK2 : Hid (k + 1 + Lib.bitLen (m / 2) = L) := by show _ = _; have := HK.out; omega
      have hk2 : k + 1 ≤ 64 := by have := HK2.out; omega
      have hmp : (0 : Int) < (m : Int) := by omega
      clear h1
      go_wp2
      go_round
      case rel => exact ⟨m / 2, k + 1, by go_num, by go_num, by omega, hk2, HK2⟩
      case measure => simp [intOf]; omega

def lowR (zs : List Int) (k : Nat) : Int := (zs.take k).foldl min (zs.headD 0)
def highR (zs : List Int) (k : Nat) : Int := (zs.take k).foldl max (zs.headD 0)
theorem lowR_succ (zs : List Int) (k : Nat) (h : k < zs.length) : lowR zs (k + 1) = min (lowR zs k) (zs[k]?.getD 0) := by
  unfold lowR
  rw [take_getD_snoc zs k h, List.foldl_append]; rfl
theorem highR_succ (zs : List Int) (k : Nat) (h : k < zs.length) : highR zs (k + 1) = max (highR zs k) (zs[k]?.getD 0) := by
  unfold highR
  rw [take_getD_snoc zs k h, List.foldl_append]; rfl
theorem lowR_all (zs : List Int) : lowR zs zs.length = minS zs := by unfold lowR; rw [List.take_length]; rfl
theorem highR_all (zs : List Int) : highR zs zs.length = maxS zs := by unfold highR; rw [List.take_length]; rfl

theorem Pair.put0 {W : World} {B : Nat} {t : TypeId} {a b : Value} (h : Pair W B t a b) (v : Value) : Pair (W.setCell ⟨B, 0, none⟩ v) B t v b := by
  obtain ⟨hlt, hk⟩ := Array.getElem?_eq_some_iff.1 (show W.heap[B]? = _ from h)
  show (W.heap.modify B _)[B]? = _
  rw [Array.getElem?_eq_getElem (by rw [Array.size_modify]; exact hlt), Array.getElem_modify_self, hk]; rfl
theorem Pair.put1 {W : World} {B : Nat} {t : TypeId} {a b : Value} (h : Pair W B t a b) (v : Value) : Pair (W.setCell ⟨B, 1, none⟩ v) B t a v := by
  obtain ⟨hlt, hk⟩ := Array.getElem?_eq_some_iff.1 (show W.heap[B]? = _ from h)
  show (W.heap.modify B _)[B]? = _
  rw [Array.getElem?_eq_getElem (by rw [Array.size_modify]; exact hlt), Array.getElem_modify_self, hk]; rfl
theorem Pair.apart {W : World} {B b : Nat} {t : TypeId} {x y : Value} (h : Pair W B t x y) (hne : B ≠ b) (o : Nat) (v : Value) : Pair (W.setCell ⟨b, o, none⟩ v) B t x y := (Below.heap_setCell _ _ _ _ (fun e => hne e)).trans h

set_option maxRecDepth 100000 in
set_option maxHeartbeats 4000000 in
theorem frameR_any {K : Nat → Prop} {a : Option Addr} {len cap : Nat} {zs : List Int} (h0 : 0 < len) {W : World} (hR : Rd K W .i64 a len cap zs) :
    Calls Try.prog 101 #[.slice a len cap] W fun e W' => e = .returned (.agg #[.int .i64 (minS zs), .int .i64 (maxS zs)]) ∧ Below W.heap.size W W' := by
  have HL : Hid (len = zs.length) := hR.hl
  have HR := Lib.hid hR
  have hfit := hR.fit
  have htop := hR.top
  have hsmall := hR.small
  obtain ⟨b, off, rfl, _, _, hcs⟩ := hR.cells h0
  have hx0 := hcs 0 h0
  rw [Nat.add_zero] at hx0
  have hl0 : lowR zs 0 = zs[0]?.getD 0 := by unfold lowR; cases zs <;> rfl
  have hh0 : highR zs 0 = zs[0]?.getD 0 := by unfold highR; cases zs <;> rfl
  obtain ⟨z, hze⟩ : ∃ z, zs[0]?.getD 0 = z := ⟨_, rfl⟩
  rw [hze] at hx0 hl0 hh0
  have HL0 := Lib.hid hl0
  have HH0 := Lib.hid hh0
  have hI1 : (1 : Int) ≤ (len : Int) := by omega
  clear hR hcs hze hl0 hh0
  go_enter Try.func101, Try.ntmps101
  go_upto_region 1 with fail
  have HB0 : Hid (Below W.heap.size W (W.alloc (.cells #[.int .i64 0, .int .i64 0] 143))) := (Below.refl _ _).alloc (Nat.le_refl _) _
  have HP0 := Lib.hid (Pair.new W 143 (.int .i64 0) (.int .i64 0))
  have hx1 := (HB0.out.cell (p := ⟨b, off, none⟩) (by obtain ⟨b', off', e, _, hlt, _⟩ := HR.out.cells h0; cases e; exact hlt)).trans hx0
  go_region
  have hBN : Below W.heap.size W ((W.alloc (.cells #[.int .i64 0, .int .i64 0] 143)).alloc (.cells #[.int .i64 z, .int .i64 z] 143)).drew := below_drew (HB0.out.alloc HB0.out.size _)
  have hP0' : Pair ((W.alloc (.cells #[.int .i64 0, .int .i64 0] 143)).alloc (.cells #[.int .i64 z, .int .i64 z] 143)).drew W.heap.size 143 (.int .i64 0) (.int .i64 0) := HP0.out.alloc _
  have hP1' : Pair ((W.alloc (.cells #[.int .i64 0, .int .i64 0] 143)).alloc (.cells #[.int .i64 z, .int .i64 z] 143)).drew (W.heap.size + 1) 143 (.int .i64 z) (.int .i64 z) := by
    have := Pair.new (W.alloc (.cells #[.int .i64 0, .int .i64 0] 143)) 143 (.int .i64 z) (.int .i64 z)
    rwa [World.size_alloc] at this
  have HBN := Lib.hid hBN
  have HQ0 := Lib.hid hP0'
  have HQ1 := Lib.hid hP1'
  obtain ⟨B0, hB0⟩ : ∃ B, W.heap.size = B := ⟨_, rfl⟩
  have HBE := Lib.hid hB0
  rw [hB0] at HQ0 HQ1 ⊢
  generalize ((W.alloc (.cells #[.int .i64 0, .int .i64 0] 143)).alloc (.cells #[.int .i64 z, .int .i64 z] 143)).drew = V at *
  clear hBN hP0' hP1' HB0 HP0 hx1 hx0 hB0
  go_wp2
  go_loopw [4] (fun i wr => ∃ (k : Nat) (lo hi : Int), k ≤ len ∧ i = .int .i64 k ∧ Hid (lowR zs k = lo) ∧ Hid (highR zs k = hi) ∧ Hid (Pair wr B0 143 (.int .i64 0) (.int .i64 0)) ∧ Hid (Pair wr (B0 + 1) 143 (.int .i64 lo) (.int .i64 hi)) ∧ Hid (Below W.heap.size W wr)) (fun i _ => len - (intOf i).toNat)
  case atStart => exact ⟨0, z, z, Nat.zero_le _, rfl, HL0, HH0, HQ0, HQ1, HBN⟩
  case round =>
    obtain ⟨k, lo, hi, hk, rfl, HLO, HHI, HP0, HP1, HBW⟩ := hrel
    by_cases hlt : k < len
    · obtain ⟨b', off', e', _, hbl, hcs⟩ := (HR.out.below HBW.out).cells (by omega)
      cases e'
      have hcx := hcs k hlt
      have hkl : k < zs.length := by have := HL.out; omega
      have hls := lowR_succ zs k hkl
      have hhs := highR_succ zs k hkl
      rw [HLO.out] at hls
      rw [HHI.out] at hhs
      obtain ⟨x, hxe⟩ : ∃ x, zs[k]?.getD 0 = x := ⟨_, rfl⟩
      rw [hxe] at hcx hls hhs
      have HLS := Lib.hid hls
      have HHS := Lib.hid hhs
      have p0 := HP1.out.c0
      have p1 := HP1.out.c1
      have f0 := HP1.out.f 0
      have f1 := HP1.out.f 1
      have plt := HP1.out.lt
      have hbne : ¬ b = B0 + 1 := by
        rintro rfl
        obtain ⟨b2, off2, e2, _, hl2, _⟩ := HR.out.cells h0
        cases e2
        have := HBE.out
        omega
      clear hcs hls hhs
      go_upto_region 5 with fail
      go_region
      have hbe : W.heap.size ≤ B0 + 1 := by have := HBE.out; omega
      have hp1 : Pair (wr.setCell ⟨B0 + 1, 0, none⟩ (.int .i64 (min lo x))).drew (B0 + 1) 143 (.int .i64 (min lo x)) (.int .i64 hi) := HP1.out.put0 _
      have hp0 : Pair (wr.setCell ⟨B0 + 1, 0, none⟩ (.int .i64 (min lo x))).drew B0 143 (.int .i64 0) (.int .i64 0) := HP0.out.apart (by omega) _ _
      have hbw : Below W.heap.size W (wr.setCell ⟨B0 + 1, 0, none⟩ (.int .i64 (min lo x))).drew := below_drew (HBW.out.setCell hbe _)
      clear p0 p1 f0 f1 plt hcx HP1 HP0 HBW
      have HP0 := Lib.hid hp0
      have HP1 := Lib.hid hp1
      have HBW := Lib.hid hbw
      clear hp0 hp1 hbw
      generalize (wr.setCell ⟨B0 + 1, 0, none⟩ (.int .i64 (min lo x))).drew = w5 at *
      have hcx : w5.cell? ⟨b, off + k, none⟩ = some (.int .i64 (zs[k]?.getD 0)) := by
        obtain ⟨b', off', e', _, _, hcs⟩ := (HR.out.below HBW.out).cells (by omega)
        cases e'
        exact hcs k hlt
      rw [hxe] at hcx
      have p0 := HP1.out.c0
      have p1 := HP1.out.c1
      have f0 := HP1.out.f 0
      have f1 := HP1.out.f 1
      have plt := HP1.out.lt
      clear hxe
      go_upto_region 6 with fail
      go_region
      have hp1 : Pair (w5.setCell ⟨B0 + 1, 1, none⟩ (.int .i64 (max hi x))).drew (B0 + 1) 143 (.int .i64 (min lo x)) (.int .i64 (max hi x)) := HP1.out.put1 _
      have hp0 : Pair (w5.setCell ⟨B0 + 1, 1, none⟩ (.int .i64 (max hi x))).drew B0 143 (.int .i64 0) (.int .i64 0) := HP0.out.apart (by omega) _ _
      have hbw : Below W.heap.size W (w5.setCell ⟨B0 + 1, 1, none⟩ (.int .i64 (max hi x))).drew := below_drew (HBW.out.setCell hbe _)
      clear p0 p1 f0 f1 plt hcx HP1 HP0 HBW
      have HP0 := Lib.hid hp0
      have HP1 := Lib.hid hp1
      have HBW := Lib.hid hbw
      clear hp0 hp1 hbw
      generalize (w5.setCell ⟨B0 + 1, 1, none⟩ (.int .i64 (max hi x))).drew = w6 at *
      go_wp2
      go_roundw
      case rel => exact ⟨k + 1, min lo x, max hi x, by omega, by go_num, HLS, HHS, HP0, HP1, HBW⟩
      case measure => simp [intOf]; omega
    · obtain rfl : k = len := by omega
      have hlo : lo = minS zs := by rw [← HLO.out, HL.out, lowR_all]
      have hhi : hi = maxS zs := by rw [← HHI.out, HL.out, highR_all]
      have HLO2 := Lib.hid hlo
      have HHI2 := Lib.hid hhi
      clear hlo hhi
      have p0 := HP1.out.c0
      have p1 := HP1.out.c1
      have r0 := HP0.out.c0
      have r1 := HP0.out.c1
      have f0 := HP0.out.f 0
      have f1 := HP0.out.f 1
      have plt := HP1.out.lt
      have rlt := HP0.out.lt
      go_wp2
      refine bodyPost_ret (v := .agg #[.int .i64 lo, .int .i64 hi]) (by simp [results, Try.results101, go_sem, r0, r1]) rfl ⟨by rw [HLO2.out, HHI2.out], ?_⟩
      exact (HBW.out.setCell (Nat.le_of_eq HBE.out) _).setCell (Nat.le_of_eq HBE.out) _

end Go.Proofs.Ytmbcppkdnoccbaa
