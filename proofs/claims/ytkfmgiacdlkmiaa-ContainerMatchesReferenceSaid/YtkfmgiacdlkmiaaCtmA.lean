/-
  What packing gives a caller. The reference's reading of a code. The reference's zigzag codes. The reference's width and frame. The same number added to all elements: what lies behind the base stays, as functions on lists. The reference's packed form. The reference's size, packing with an error, and a number out of bits.
-/
import Derived.Test.YtkfmgiacdlkmiaaCtmD
import Derived.Deep.DeepCutAuto
import Derived.Lib.MinMax
import Derived.BigRegion
namespace Go.Proofs.Ytkfmgiacdlkmiaa
open Go.RowKit Go.Shelf Go.ChangeShapes Go.WideShapes Go.ChangeAt

/-- What the law's packing gives back. -/
def PackedPost (W : World) (zs : List Int) (e : Ending) (W' : World) : Prop :=
  ∃ g cap : Nat, e = .returned (.agg #[.slice (some ⟨g, 0, none⟩) zs.length cap, .int .i64 0]) ∧ Rd (fun b => W.heap.size ≤ b) W' .u8 (some ⟨g, 0, none⟩) zs.length cap zs ∧ Below W.heap.size W W'

end Go.Proofs.Ytkfmgiacdlkmiaa

namespace Go.Proofs.Ytkfmgiacdlkmiaa
open Go.RowKit Go.ChangeShapes Go.WideShapes Go.ChangeAt

set_option maxRecDepth 100000 in
set_option maxHeartbeats 1000000 in
theorem varintR_any (K : Nat → Prop) (a : Option Addr) (len cap : Nat) (zs : List Int) (u : Nat) (hu2 : u < 18446744073709551616) (W : World) (hR : Rd K W .u8 a len cap zs) (hm : len ≤ 140737488340000) :
    Calls Try.prog 33 #[.slice a len cap, .int .u64 u] W fun e W' => Makes W e W' (zs ++ varN u) := by
  obtain ⟨i0, hi, hz0, hz1, hz2⟩ := info_parts Try.infoB
  have hvl := var_len hu2
  have HL : Hid (len = zs.length) := hR.hl
  obtain ⟨g5, c5, w5, hr5, hrow5, hg5, hc5, hbg5⟩ := run_append_copy' (P := Try.prog) (W.alloc (.cells #[] 5)) W.heap.size 23 23 5 i0 _ 1 .u8 Try.underlying23 hi hz0 hz1 hz2 rfl W.heap.size 0 (World.ownsRow_made W #[] 0 (Nat.le_refl _) (by decide) rfl) (.slice a len cap) zs len HL.out (hR.below ((Below.refl _ _).alloc (Nat.le_refl _) _)).reads (by unfold maxLen; omega) (by omega) (by simp)
  have HR5 := Lib.hid hr5
  have HROW5 := Lib.hid hrow5
  have HB5 : Below W.heap.size W w5 := ((Below.refl _ W).alloc (Nat.le_refl _) (.cells #[] 5)).grown hg5 (by simp) (fun k e => by cases e; exact Nat.le_refl _)
  have hc5' : Hid (len ≤ c5) := hc5
  clear hR hr5 hrow5 hg5 hbg5 hc5
  go_enter Try.func33, Try.ntmps33
  go_wp2_with (at_builtin; refine wpList_append_want (o := ⟨some 8, _, _, _, _, _⟩) _ rfl _ _ _ _ rfl _ _ rfl rfl _ _ HR5.out ?_)
  go_loopw [1, 5] (fun q v wr => ∃ (m g n c : Nat) (ys : List Int), q = .int .u64 m ∧ v = .slice (some ⟨g, 0, none⟩) n c ∧ m < 18446744073709551616 ∧ Hid (n = ys.length) ∧ Hid (ys ++ varN m = zs ++ varN u) ∧ Hid (wr.ownsRow W.heap.size 5 1 (.slice (some ⟨g, 0, none⟩) n c) n (ys.map (Value.int .u8))) ∧ Below W.heap.size W wr)
    (fun q _ _ => (intOf q).toNat)
  case atStart => exact ⟨u, g5, len, c5, zs, rfl, rfl, hu2, HL, rfl, HROW5, HB5⟩
  case round =>
    obtain ⟨m, g, n, c, ys, rfl, rfl, hm2, HN, HV, HX, hb⟩ := hrel
    have hyl : n + 1 ≤ 140737488350000 := by
      have h1 := congrArg List.length HV.out
      have h2 := HL.out
      have h3 := var_pos m
      have h4 := HN.out
      simp only [List.length_append] at h1
      omega
    by_cases hlt : m < 128
    · have HE : Hid (varN m = [(m : Int)]) := varN_lo hlt
      have hw8 : IntKind.u8.wrap (m : Int) = m := by simp [IntKind.wrap, IntKind.bits, IntKind.signed]; omega
      obtain ⟨g', c', wX, hr, hX', hgX, hcX, _⟩ := run_append_one (P := Try.prog) wr W.heap.size 23 23 5 i0 _ 1 .u8 Try.underlying23 hi hz0 hz1 hz2 rfl g n c _ HX.out m 5 (by unfold maxLen; omega) (by omega) hb.size
      have hdec : ¬ (128 ≤ m) := by omega
      have HBX : Hid (Below W.heap.size W wX) := (hb.alloc hb.size _).grown hgX (hb.alloc hb.size _).size (fun r e => by cases e; exact row_base HX.out)
      have HR := Lib.hid hr
      have HXX := Lib.hid hX'
      have HCX := Lib.hid hcX
      clear hr hX' hgX hcX
      go_wp2_with (at_builtin; refine wpList_append_want (o := ⟨some 24, _, _, _, _, _⟩) _ rfl _ _ _ _ rfl _ _ rfl rfl _ _ HR.out ?_)
      go_ret
      have e1 : n + 1 = (zs ++ varN u).length := by rw [← HV.out, HE.out, HN.out]; simp
      refine ⟨g', c', ?_, ?_, ?_, HBX.out⟩
      · rw [e1]; rfl
      · rw [← e1]; exact HCX.out
      · rw [← e1, ← HV.out, HE.out, List.map_append]; exact HXX.out
    · have HE : Hid (varN m = ((m % 128 : Nat) + 128 : Int) :: varN (m / 128)) := varN_hi hlt
      obtain ⟨g', c', wX, hr, hX', hgX, hcX, _⟩ := run_append_one (P := Try.prog) wr W.heap.size 23 23 5 i0 _ 1 .u8 Try.underlying23 hi hz0 hz1 hz2 rfl g n c _ HX.out ((m % 128 : Nat) + 128 : Int) 5 (by unfold maxLen; omega) (by omega) hb.size
      have hdec : 128 ≤ m := by omega
      have HBX : Below W.heap.size W wX := (hb.alloc hb.size _).grown hgX (hb.alloc hb.size _).size (fun r e => by cases e; exact row_base HX.out)
      have HR := Lib.hid hr
      have HXX : Hid (wX.ownsRow W.heap.size 5 1 (.slice (some ⟨g', 0, none⟩) (n + 1) c') (n + 1) ((ys ++ [((m % 128 : Nat) + 128 : Int)]).map (Value.int .u8))) := by
        show wX.ownsRow _ _ _ _ _ _
        rw [List.map_append]; exact hX'
      have HV2 : Hid ((ys ++ [((m % 128 : Nat) + 128 : Int)]) ++ varN (m / 128) = zs ++ varN u) := by show _ = _; rw [← HV.out, HE.out]; simp
      have HN2 : Hid (n + 1 = (ys ++ [((m % 128 : Nat) + 128 : Int)]).length) := by show _ = _; rw [List.length_append, HN.out]; rfl
      have hw7 : IntKind.u8.wrap ((m : Int) % 128) = ((m % 128 : Nat) : Int) := by simp [IntKind.wrap, IntKind.bits, IntKind.signed]; omega
      have hw9 : IntKind.u8.wrap (((m % 128 : Nat) : Int) + 128) = ((m % 128 : Nat) : Int) + 128 := by simp [IntKind.wrap, IntKind.bits, IntKind.signed]; omega
      clear hr hX' hgX hcX
      go_wp2_with (at_builtin; refine wpList_append_want (o := ⟨some 17, _, _, _, _, _⟩) _ rfl _ _ _ _ rfl _ _ rfl rfl _ _ HR.out ?_)
      go_roundw
      case rel => exact ⟨m / 128, g', n + 1, c', _, by go_num, rfl, by omega, HN2, HV2, HXX, HBX⟩
      case measure => simp [intOf]; omega

end Go.Proofs.Ytkfmgiacdlkmiaa

namespace Go.Proofs.Ytkfmgiacdlkmiaa
open Go.RowKit Go.ChangeShapes Go.WideShapes Go.ChangeAt

theorem shl_sum (a d : Int) (k : Nat) (ha : 0 ≤ a ∧ a < 2 ^ (7 * k)) (hd : 0 ≤ d ∧ d < 128) (hk : k ≤ 8 ∨ (k = 9 ∧ d ≤ 1)) :
    IntKind.u64.wrap (d * 2 ^ (7 * k)) = d * 2 ^ (7 * k) ∧ IntKind.u64.wrap (a + d * 2 ^ (7 * k)) = a + d * 2 ^ (7 * k) := by
  obtain ⟨P, hP⟩ : ∃ P : Nat, P = 2 ^ (7 * k) := ⟨_, rfl⟩
  have e : (2 : Int) ^ (7 * k) = (P : Int) := by rw [hP]; simp
  have h1 : 1 ≤ P := by rw [hP]; exact Nat.one_le_two_pow
  rw [e] at ha ⊢
  obtain ⟨n, rfl⟩ := Int.eq_ofNat_of_zero_le hd.1
  have hn : n < 128 := by have := hd.2; omega
  rcases hk with h8 | ⟨rfl, h1d⟩
  · have h56 : P ≤ 2 ^ 56 := by rw [hP]; exact Nat.pow_le_pow_right (by decide) (by omega)
    have h57 : (2 : Nat) ^ 56 = 72057594037927936 := rfl
    have h58 : n * P ≤ 127 * P := Nat.mul_le_mul_right P (by omega)
    rw [← Int.natCast_mul, IntKind.wrap_u64, IntKind.wrap_u64]
    omega
  · have h63 : P = 9223372036854775808 := hP
    have hn1 : n ≤ 1 := by omega
    rw [h63, IntKind.wrap_u64, IntKind.wrap_u64]
    rw [h63] at ha
    omega

theorem RdAt.moreA {zs : List Int} {k : Nat} {a : Int} (h : RdAt zs k a) (hk : k < zs.length) (hk9 : k ≤ 8) (hx : 0 ≤ zs[k]?.getD 0 ∧ zs[k]?.getD 0 < 256) (h128 : 128 ≤ zs[k]?.getD 0) :
    RdAt zs (k + 1) (a + (zs[k]?.getD 0 - 128) * 2 ^ (7 * k)) := by
  have := h.more hk (by omega) hx h128
  rwa [or_text a _ k (h.1 (by omega)) ⟨by omega, by omega⟩ (.inl (by omega))] at this
theorem RdAt.nine {zs : List Int} {a : Int} (h : RdAt zs 9 a) (hk : 9 < zs.length) (hx : 0 ≤ zs[9]?.getD (0 : Int) ∧ zs[9]?.getD (0 : Int) < 256) (h1 : 1 < zs[9]?.getD (0 : Int)) : rdS zs = (0, 0, 5) := by
  by_cases h128 : 128 ≤ zs[9]?.getD (0 : Int)
  · exact (h.more hk (by decide) hx h128).long rfl
  · refine h.wrong hk (by decide) h128 ?_
    unfold ends
    rw [if_pos rfl, beq_eq_false_iff_ne]
    omega
theorem RdAt.endedA {zs : List Int} {k : Nat} {a : Int} (h : RdAt zs k a) (hk : k < zs.length) (hk9 : k ≤ 9) (hx : 0 ≤ zs[k]?.getD 0) (h128 : ¬ 128 ≤ zs[k]?.getD 0) (h9 : k = 9 → zs[k]?.getD 0 ≤ 1) (he : ¬ (zs[k]?.getD 0 = 0 ∧ 0 < k)) :
    rdS zs = (a + zs[k]?.getD 0 * 2 ^ (7 * k), k + 1, 0) := by
  have hends : ends k (zs[k]?.getD 0) = true := by
    unfold ends
    split
    · rename_i h; have := h9 h; rw [beq_iff_eq]; omega
    · by_cases h0 : k = 0
      · simp [h0]
      · simp only [Bool.or_eq_true, beq_iff_eq, bne_iff_ne]; omega
  have := h.ended hk hk9 hx h128 hends
  rwa [or_text a _ k (h.1 hk9) ⟨hx, by omega⟩ (by
    by_cases h' : k = 9
    · exact .inr ⟨h', h9 h'⟩
    · exact .inl (by omega))] at this
theorem RdAt.wrongA {zs : List Int} {k : Nat} {a : Int} (h : RdAt zs k a) (hk : k < zs.length) (hk9 : k ≤ 9) (h128 : ¬ 128 ≤ zs[k]?.getD 0) (h0 : zs[k]?.getD 0 = 0) (hp : 0 < k) : rdS zs = (0, 0, 5) := by
  refine h.wrong hk hk9 h128 ?_
  unfold ends
  rw [h0]
  split
  · rfl
  · have : (k == 0) = false := by rw [beq_eq_false_iff_ne]; omega
    simp [this]

/-- What the reference's reading comes to. -/
def ReadRPost (K : Nat → Prop) (zs : List Int) (W : World) (e : Ending) (W' : World) : Prop :=
  Below W.heap.size W W' ∧ (((rdS zs).2.2 = 0 ∧ ∃ a' n c, e = .returned (gotV (rdS zs).1 (.slice none 0 0) (.slice a' n c) 0) ∧ Rd K W .u8 a' n c (zs.drop (rdS zs).2.1)) ∨
    ((rdS zs).2.2 ≠ 0 ∧ e = .returned (gotV 0 (.slice none 0 0) (.slice none 0 0) (rdS zs).2.2)))

set_option maxRecDepth 100000 in
set_option maxHeartbeats 4000000 in
theorem readR_any {K : Nat → Prop} {a : Option Addr} {len cap : Nat} {zs : List Int} (ho : Oct zs) {W : World} (hR : Rd K W .u8 a len cap zs) :
    Calls Try.prog 40 #[.slice a len cap] W (ReadRPost K zs W) := by
  have HR := Lib.hid hR
  have hfit := hR.fit
  have htop := hR.top
  have hsmall := hR.small
  have HL : Hid (len = zs.length) := hR.hl
  clear hR
  go_enter Try.func40, Try.ntmps40
  go_upto_region 1 with fail
  have hq := Quad.new W 68 (.int .u64 0) (.slice none 0 0) (.slice none 0 0) (.int .i64 0)
  have hb : Below W.heap.size W (W.alloc (.cells #[.int .u64 0, .slice none 0 0, .slice none 0 0, .int .i64 0] 68)) := (Below.refl _ _).alloc (Nat.le_refl _) _
  have HRV := Lib.hid (HR.out.below hb)
  have HB := Lib.hid hb
  obtain ⟨B, hB⟩ : ∃ B, W.heap.size = B := ⟨_, rfl⟩
  have HBE := Lib.hid hB
  rw [hB] at hq ⊢
  generalize W.alloc (.cells #[.int .u64 0, .slice none 0 0, .slice none 0 0, .int .i64 0] 68) = V at *
  obtain ⟨q0, q1, q2, q3⟩ := hq.cell
  have f0 := hq.f 0
  have f1 := hq.f 1
  have f2 := hq.f 2
  have f3 := hq.f 3
  have qlt := hq.lt
  have HBS : Hid (∀ v0 v1 v2 v3, Below W.heap.size W ((((V.setCell ⟨B, 0, none⟩ v0).setCell ⟨B, 1, none⟩ v1).setCell ⟨B, 2, none⟩ v2).setCell ⟨B, 3, none⟩ v3)) := fun v0 v1 v2 v3 =>
    have e : W.heap.size ≤ B := Nat.le_of_eq HBE.out
    (((HB.out.setCell e _).setCell e _).setCell e _).setCell e _
  clear hB hb hq HB
  go_wp2
  go_loop [3, 4] (fun u i => ∃ (k : Nat) (s : Int), k ≤ len ∧ k ≤ 9 ∧ i = .int .i64 k ∧ u = .int .u64 s ∧ Hid (RdAt zs k s)) (fun _ i => len - (intOf i).toNat)
  case atStart => exact ⟨0, 0, Nat.zero_le _, by decide, rfl, rfl, RdAt.start zs⟩
  case round =>
    obtain ⟨k, s, hk, hk9, rfl, rfl, HV⟩ := hrel
    by_cases hlt : k < len
    · obtain ⟨b, off, rfl, _, _, hcs⟩ := HRV.out.cells (by omega)
      have hcx := hcs k hlt
      have hx := ho.getD k
      have hkz : k < zs.length := by have := HL.out; omega
      clear hcs
      by_cases h91 : k = 9 ∧ 1 < zs[k]?.getD 0
      · obtain ⟨rfl, h1⟩ := h91
        have HS := Lib.hid (HV.out.nine hkz hx h1)
        obtain ⟨x, hxe⟩ : ∃ x, zs[9]?.getD 0 = x := ⟨_, rfl⟩
        rw [hxe] at hx h1 hcx
        obtain ⟨hx1, hx2⟩ := hx
        clear hxe
        go_wp2
        refine bodyPost_ret (v := gotV 0 (.slice none 0 0) (.slice none 0 0) 5) (by simp [results, Try.results40, go_sem, q0, q1, q2, q3, gotV]) rfl ⟨HBS.out _ _ _ _, .inr ?_⟩
        rw [HS.out]
        exact ⟨by decide, rfl⟩
      · have hPB := HV.out.1 hk9
        by_cases h9 : k = 9
        · subst h9
          have hx1 : zs[9]?.getD 0 = 0 ∨ zs[9]?.getD 0 = 1 := by omega
          have hsb : 0 ≤ s ∧ s < 9223372036854775808 := hPB
          obtain ⟨hs0, hs1⟩ := hsb
          clear h91 hPB
          rcases hx1 with h0 | h0
          · have HS := Lib.hid (HV.out.wrongA hkz hk9 (by omega) h0 (by decide))
            rw [h0] at hcx
            clear hx h0
            go_wp2
            refine bodyPost_ret (v := gotV 0 (.slice none 0 0) (.slice none 0 0) 5) (by simp [results, Try.results40, go_sem, q0, q1, q2, q3, gotV]) rfl ⟨HBS.out _ _ _ _, .inr ?_⟩
            rw [HS.out]
            exact ⟨by decide, rfl⟩
          · have hS := HV.out.endedA hkz hk9 hx.1 (by omega) (fun _ => by omega) (fun h => by omega)
            rw [h0] at hcx hS
            have hS2 : rdS zs = (s + 9223372036854775808, 10, 0) := hS
            have HS := Lib.hid hS2
            clear hx h0 hS hS2
            obtain ⟨a', ha'⟩ : ∃ a', (if cap = 10 then some ⟨b, off, none⟩ else some ⟨b, off + 10, none⟩ : Option Addr) = a' := ⟨_, rfl⟩
            have HT := Lib.hid (HR.out.rest 10 (by omega) (cap - 10) (by omega) (by omega) a' (fun h => by rw [← ha', if_neg (by omega)]))
            go_wp2
            refine bodyPost_ret (v := gotV (s + 9223372036854775808) (.slice none 0 0) (.slice a' (len - 10) (cap - 10)) 0) (by simp [results, Try.results40, go_sem, q0, q1, q2, q3, gotV]) rfl ⟨HBS.out _ _ _ _, .inl ?_⟩
            rw [HS.out]
            exact ⟨rfl, a', _, _, rfl, HT.out⟩
        · have hk8 : k ≤ 8 := by omega
          have hk9n : ((k : Int) == 9) = false := by rw [beq_eq_false_iff_ne]; omega
          by_cases h128 : 128 ≤ zs[k]?.getD 0
          · have hsum := shl_sum s (zs[k]?.getD 0 - 128) k hPB ⟨by omega, by omega⟩ (.inl hk8)
            have HS := Lib.hid (HV.out.moreA hkz hk8 hx h128)
            obtain ⟨x, hxe⟩ : ∃ x, zs[k]?.getD 0 = x := ⟨_, rfl⟩
            rw [hxe] at hx hcx hsum HS h128
            have hmod : x % 128 = x - 128 := by omega
            obtain ⟨hx1, hx2⟩ := hx
            obtain ⟨hsh, hsm⟩ := hsum
            have hd1 : 0 ≤ x - 128 := by omega
            clear hxe h91 h9 hPB
            go_wp2
            go_round
            case rel => exact ⟨k + 1, _, by omega, by omega, by go_num, rfl, HS⟩
            case measure => simp [intOf]; omega
          · have hsum := shl_sum s (zs[k]?.getD 0) k hPB ⟨hx.1, by omega⟩ (.inl hk8)
            by_cases h0 : zs[k]?.getD 0 = 0 ∧ 0 < k
            · have HS := Lib.hid (HV.out.wrongA hkz hk9 h128 h0.1 h0.2)
              have hk0 : (0 : Int) < (k : Int) := by omega
              rw [h0.1] at hcx
              clear hsum hx h0 h128
              go_wp2
              refine bodyPost_ret (v := gotV 0 (.slice none 0 0) (.slice none 0 0) 5) (by simp [results, Try.results40, go_sem, q0, q1, q2, q3, gotV]) rfl ⟨HBS.out _ _ _ _, .inr ?_⟩
              rw [HS.out]
              exact ⟨by decide, rfl⟩
            · have HS := Lib.hid (HV.out.endedA hkz hk9 hx.1 h128 (fun h => absurd h h9) h0)
              by_cases hx0 : zs[k]?.getD 0 = 0
              · obtain rfl : k = 0 := by omega
                rw [hx0] at hcx HS
                rw [Nat.add_zero] at hcx
                clear hk9n
                have hS2 : rdS zs = (s, 1, 0) := by
                  have h := HS.out
                  rwa [Int.zero_mul, Int.add_zero] at h
                have HS := Lib.hid hS2
                have hsb := hPB
                have hs0 : s = 0 := by have h1 := hsb.1; have h2 : s < 1 := hsb.2; omega
                subst hs0
                clear hx0 hS2 hsum hx h0 h128 hPB hsb h91 h9
                obtain ⟨a', ha'⟩ : ∃ a', (if cap = 1 then some ⟨b, off, none⟩ else some ⟨b, off + 1, none⟩ : Option Addr) = a' := ⟨_, rfl⟩
                have HT := Lib.hid (HR.out.rest 1 (by omega) (cap - 1) (by omega) (by omega) a' (fun h => by rw [← ha', if_neg (by omega)]))
                go_wp2
                refine bodyPost_ret (v := gotV 0 (.slice none 0 0) (.slice a' (len - 1) (cap - 1)) 0) (by simp [results, Try.results40, go_sem, q0, q1, q2, q3, gotV]) rfl ⟨HBS.out _ _ _ _, .inl ?_⟩
                rw [HS.out]
                exact ⟨rfl, a', _, _, rfl, HT.out⟩
              · obtain ⟨x, hxe⟩ : ∃ x, zs[k]?.getD 0 = x := ⟨_, rfl⟩
                rw [hxe] at hx hcx hsum HS h128 hx0
                have hmod : x % 128 = x := by omega
                obtain ⟨hx1, hx2⟩ := hx
                obtain ⟨hsh, hsm⟩ := hsum
                have hxb : (x == 0) = false := by rw [beq_eq_false_iff_ne]; exact hx0
                clear hxe h91 h9 hPB h0
                obtain ⟨a', ha'⟩ : ∃ a', (if cap = k + 1 then some ⟨b, off, none⟩ else some ⟨b, off + (k + 1), none⟩ : Option Addr) = a' := ⟨_, rfl⟩
                have HT := Lib.hid (HR.out.rest (k + 1) (by omega) (cap - (k + 1)) (by omega) (by omega) a' (fun h => by rw [← ha', if_neg (by omega)]))
                go_wp2
                refine bodyPost_ret (v := gotV (s + x * 2 ^ (7 * k)) (.slice none 0 0) (.slice a' (len - (k + 1)) (cap - (k + 1))) 0) (by simp [results, Try.results40, go_sem, q0, q1, q2, q3, gotV]) rfl ⟨HBS.out _ _ _ _, .inl ?_⟩
                rw [HS.out]
                exact ⟨rfl, a', _, _, rfl, HT.out⟩
    · obtain rfl : k = len := by omega
      have HS := Lib.hid (HV.out.over HL.out (by omega))
      go_wp2
      refine bodyPost_ret (v := gotV 0 (.slice none 0 0) (.slice none 0 0) 7) (by simp [results, Try.results40, go_sem, q0, q1, q2, q3, gotV]) rfl ⟨HBS.out _ _ _ _, .inr ?_⟩
      rw [HS.out]
      exact ⟨by decide, rfl⟩

end Go.Proofs.Ytkfmgiacdlkmiaa

namespace Go.Proofs.Ytkfmgiacdlkmiaa
open Go.RowKit Go.ChangeShapes Go.WideShapes Go.ChangeAt

theorem zigzagR_any (n : Int) (hn : I64 n) (w : World) :
    Calls Try.prog 65 #[.int .i64 n] w fun e w' => e = .returned (.int .u64 (zz n)) ∧ w = w' := by
  unfold I64 at hn
  by_cases h0 : n < 0
  · have hz : zz n = -2 * n - 1 := if_neg (by omega)
    have HZ := Lib.hid hz
    have e1 : IntKind.i64.wrap (n + 1) = n + 1 := by rw [IntKind.wrap_i64]; omega
    have e2 : IntKind.i64.wrap (-(n + 1)) = -(n + 1) := by rw [IntKind.wrap_i64]; omega
    have e3 : IntKind.u64.wrap (-(n + 1)) = -(n + 1) := by rw [IntKind.wrap_u64]; omega
    clear hz
    go_enter Try.func65, Try.ntmps65
    go_wp2
    go_ret
    exact ⟨ret_int (show 2 * -(n + 1) + 1 = zz n by rw [HZ.out]; omega), rfl⟩
  · have hz : zz n = 2 * n := if_pos (by omega)
    have HZ := Lib.hid hz
    have e3 : IntKind.u64.wrap n = n := by rw [IntKind.wrap_u64]; omega
    clear hz
    go_enter Try.func65, Try.ntmps65
    go_wp2
    go_ret
    exact ⟨ret_int (show 2 * n = zz n by rw [HZ.out]), rfl⟩

theorem unzigzagR_any (u : Int) (hu : U64 u) (w : World) :
    Calls Try.prog 55 #[.int .u64 u] w fun e w' => e = .returned (.int .i64 (uz u)) ∧ w = w' := by
  unfold U64 at hu
  obtain ⟨m, rfl⟩ := Int.eq_ofNat_of_zero_le hu.1
  by_cases h0 : m % 2 = 1
  · have hz : uz m = -((m : Int) / 2) - 1 := if_neg (by omega)
    have HZ := Lib.hid hz
    have e0 : ((m : Int) % 2 == 1) = true := by rw [beq_iff_eq]; omega
    clear hz h0
    go_enter Try.func55, Try.ntmps55
    go_wp2
    go_ret
    exact ⟨ret_int (show -((m : Int) / 2) - 1 = uz m by rw [HZ.out]), rfl⟩
  · have hz : uz m = (m : Int) / 2 := if_pos (by omega)
    have HZ := Lib.hid hz
    have e0 : ((m : Int) % 2 == 1) = false := by rw [beq_eq_false_iff_ne]; omega
    clear hz h0
    go_enter Try.func55, Try.ntmps55
    go_wp2
    go_ret
    exact ⟨ret_int (show (m : Int) / 2 = uz m by rw [HZ.out]), rfl⟩

end Go.Proofs.Ytkfmgiacdlkmiaa

namespace Go.Proofs.Ytkfmgiacdlkmiaa
open Go.RowKit Go.ChangeShapes Go.WideShapes Go.ChangeAt

theorem widthR_any (u : Nat) (hu : u < 18446744073709551616) (w : World) :
    Calls Try.prog 64 #[.int .u64 u] w fun e w' => e = .returned (.int .i64 (Lib.bitLen u : Nat)) ∧ w = w' := by
  have hb64 : Lib.bitLen u ≤ 64 := Lib.bitLen_le u 64 (Nat.le_refl _) (by simpa using hu)
  obtain ⟨L, hL⟩ : ∃ L, Lib.bitLen u = L := ⟨_, rfl⟩
  have HL := Lib.hid hL
  rw [hL] at hb64 ⊢
  clear hL
  go_enter Try.func64, Try.ntmps64
  go_wp2
  go_loop [0, 3] (fun q n => ∃ m k : Nat, q = .int .u64 m ∧ n = .int .i64 k ∧ m < 18446744073709551616 ∧ k ≤ 64 ∧ Hid (k + Lib.bitLen m = L)) (fun q _ => (intOf q).toNat)
  case atStart => exact ⟨u, 0, rfl, rfl, hu, by decide, by show _ = _; rw [HL.out]; omega⟩
  case round =>
    obtain ⟨m, k, rfl, rfl, hm, hk, HK⟩ := hrel
    by_cases h0 : m = 0
    · have HE : Hid (k = L) := by show _ = _; have := HK.out; rw [h0] at this; exact this
      subst h0
      go_wp2
      go_ret
      exact ⟨ret_int (by rw [HE.out]), rfl⟩
    · have h1 := Lib.bitLen_half m h0 (by simpa using hm)
      have HK2 : Hid (k + 1 + Lib.bitLen (m / 2) = L) := by show _ = _; have := HK.out; omega
      have hk2 : k + 1 ≤ 64 := by have := HK2.out; omega
      have hmp : (0 : Int) < (m : Int) := by omega
      clear h1
      go_wp2
      go_round
      case rel => exact ⟨m / 2, k + 1, by go_num, by go_num, by omega, hk2, HK2⟩
      case measure => simp [intOf]; omega

def lowR (zs : List Int) (k : Nat) : Int := (zs.take k).foldl min (zs.headD 0)
def highR (zs : List Int) (k : Nat) : Int := (zs.take k).foldl max (zs.headD 0)
theorem lowR_succ (zs : List Int) (k : Nat) (h : k < zs.length) : lowR zs (k + 1) = min (lowR zs k) (zs[k]?.getD 0) := by
  unfold lowR
  rw [take_getD_snoc zs k h, List.foldl_append]; rfl
theorem highR_succ (zs : List Int) (k : Nat) (h : k < zs.length) : highR zs (k + 1) = max (highR zs k) (zs[k]?.getD 0) := by
  unfold highR
  rw [take_getD_snoc zs k h, List.foldl_append]; rfl
theorem lowR_all (zs : List Int) : lowR zs zs.length = minS zs := by unfold lowR; rw [List.take_length]; rfl
theorem highR_all (zs : List Int) : highR zs zs.length = maxS zs := by unfold highR; rw [List.take_length]; rfl

theorem Pair.put0 {W : World} {B : Nat} {t : TypeId} {a b : Value} (h : Pair W B t a b) (v : Value) : Pair (W.setCell ⟨B, 0, none⟩ v) B t v b := by
  obtain ⟨hlt, hk⟩ := Array.getElem?_eq_some_iff.1 (show W.heap[B]? = _ from h)
  show (W.heap.modify B _)[B]? = _
  rw [Array.getElem?_eq_getElem (by rw [Array.size_modify]; exact hlt), Array.getElem_modify_self, hk]; rfl
theorem Pair.put1 {W : World} {B : Nat} {t : TypeId} {a b : Value} (h : Pair W B t a b) (v : Value) : Pair (W.setCell ⟨B, 1, none⟩ v) B t a v := by
  obtain ⟨hlt, hk⟩ := Array.getElem?_eq_some_iff.1 (show W.heap[B]? = _ from h)
  show (W.heap.modify B _)[B]? = _
  rw [Array.getElem?_eq_getElem (by rw [Array.size_modify]; exact hlt), Array.getElem_modify_self, hk]; rfl
theorem Pair.apart {W : World} {B b : Nat} {t : TypeId} {x y : Value} (h : Pair W B t x y) (hne : B ≠ b) (o : Nat) (v : Value) : Pair (W.setCell ⟨b, o, none⟩ v) B t x y := (Below.heap_setCell _ _ _ _ (fun e => hne e)).trans h

set_option maxRecDepth 100000 in
set_option maxHeartbeats 4000000 in
theorem frameR_any {K : Nat → Prop} {a : Option Addr} {len cap : Nat} {zs : List Int} (h0 : 0 < len) {W : World} (hR : Rd K W .i64 a len cap zs) :
    Calls Try.prog 63 #[.slice a len cap] W fun e W' => e = .returned (.agg #[.int .i64 (minS zs), .int .i64 (maxS zs)]) ∧ Below W.heap.size W W' := by
  have HL : Hid (len = zs.length) := hR.hl
  have HR := Lib.hid hR
  have hfit := hR.fit
  have htop := hR.top
  have hsmall := hR.small
  obtain ⟨b, off, rfl, _, _, hcs⟩ := hR.cells h0
  have hx0 := hcs 0 h0
  rw [Nat.add_zero] at hx0
  have hl0 : lowR zs 0 = zs[0]?.getD 0 := by unfold lowR; cases zs <;> rfl
  have hh0 : highR zs 0 = zs[0]?.getD 0 := by unfold highR; cases zs <;> rfl
  obtain ⟨z, hze⟩ : ∃ z, zs[0]?.getD 0 = z := ⟨_, rfl⟩
  rw [hze] at hx0 hl0 hh0
  have HL0 := Lib.hid hl0
  have HH0 := Lib.hid hh0
  have hI1 : (1 : Int) ≤ (len : Int) := by omega
  clear hR hcs hze hl0 hh0
  go_enter Try.func63, Try.ntmps63
  go_upto_region 1 with fail
  have HB0 : Hid (Below W.heap.size W (W.alloc (.cells #[.int .i64 0, .int .i64 0] 97))) := (Below.refl _ _).alloc (Nat.le_refl _) _
  have HP0 := Lib.hid (Pair.new W 97 (.int .i64 0) (.int .i64 0))
  have hx1 := (HB0.out.cell (p := ⟨b, off, none⟩) (by obtain ⟨b', off', e, _, hlt, _⟩ := HR.out.cells h0; cases e; exact hlt)).trans hx0
  go_region
  have hBN : Below W.heap.size W ((W.alloc (.cells #[.int .i64 0, .int .i64 0] 97)).alloc (.cells #[.int .i64 z, .int .i64 z] 97)).drew := below_drew (HB0.out.alloc HB0.out.size _)
  have hP0' : Pair ((W.alloc (.cells #[.int .i64 0, .int .i64 0] 97)).alloc (.cells #[.int .i64 z, .int .i64 z] 97)).drew W.heap.size 97 (.int .i64 0) (.int .i64 0) := HP0.out.alloc _
  have hP1' : Pair ((W.alloc (.cells #[.int .i64 0, .int .i64 0] 97)).alloc (.cells #[.int .i64 z, .int .i64 z] 97)).drew (W.heap.size + 1) 97 (.int .i64 z) (.int .i64 z) := by
    have := Pair.new (W.alloc (.cells #[.int .i64 0, .int .i64 0] 97)) 97 (.int .i64 z) (.int .i64 z)
    rwa [World.size_alloc] at this
  have HBN := Lib.hid hBN
  have HQ0 := Lib.hid hP0'
  have HQ1 := Lib.hid hP1'
  obtain ⟨B0, hB0⟩ : ∃ B, W.heap.size = B := ⟨_, rfl⟩
  have HBE := Lib.hid hB0
  rw [hB0] at HQ0 HQ1 ⊢
  generalize ((W.alloc (.cells #[.int .i64 0, .int .i64 0] 97)).alloc (.cells #[.int .i64 z, .int .i64 z] 97)).drew = V at *
  clear hBN hP0' hP1' HB0 HP0 hx1 hx0 hB0
  go_wp2
  go_loopw [4] (fun i wr => ∃ (k : Nat) (lo hi : Int), k ≤ len ∧ i = .int .i64 k ∧ Hid (lowR zs k = lo) ∧ Hid (highR zs k = hi) ∧ Hid (Pair wr B0 97 (.int .i64 0) (.int .i64 0)) ∧ Hid (Pair wr (B0 + 1) 97 (.int .i64 lo) (.int .i64 hi)) ∧ Hid (Below W.heap.size W wr)) (fun i _ => len - (intOf i).toNat)
  case atStart => exact ⟨0, z, z, Nat.zero_le _, rfl, HL0, HH0, HQ0, HQ1, HBN⟩
  case round =>
    obtain ⟨k, lo, hi, hk, rfl, HLO, HHI, HP0, HP1, HBW⟩ := hrel
    by_cases hlt : k < len
    · obtain ⟨b', off', e', _, hbl, hcs⟩ := (HR.out.below HBW.out).cells (by omega)
      cases e'
      have hcx := hcs k hlt
      have hkl : k < zs.length := by have := HL.out; omega
      have hls := lowR_succ zs k hkl
      have hhs := highR_succ zs k hkl
      rw [HLO.out] at hls
      rw [HHI.out] at hhs
      obtain ⟨x, hxe⟩ : ∃ x, zs[k]?.getD 0 = x := ⟨_, rfl⟩
      rw [hxe] at hcx hls hhs
      have HLS := Lib.hid hls
      have HHS := Lib.hid hhs
      have p0 := HP1.out.c0
      have p1 := HP1.out.c1
      have f0 := HP1.out.f 0
      have f1 := HP1.out.f 1
      have plt := HP1.out.lt
      have hbne : ¬ b = B0 + 1 := by
        rintro rfl
        obtain ⟨b2, off2, e2, _, hl2, _⟩ := HR.out.cells h0
        cases e2
        have := HBE.out
        omega
      clear hcs hls hhs
      go_upto_region 5 with fail
      go_region
      have hbe : W.heap.size ≤ B0 + 1 := by have := HBE.out; omega
      have hp1 : Pair (wr.setCell ⟨B0 + 1, 0, none⟩ (.int .i64 (min lo x))).drew (B0 + 1) 97 (.int .i64 (min lo x)) (.int .i64 hi) := HP1.out.put0 _
      have hp0 : Pair (wr.setCell ⟨B0 + 1, 0, none⟩ (.int .i64 (min lo x))).drew B0 97 (.int .i64 0) (.int .i64 0) := HP0.out.apart (by omega) _ _
      have hbw : Below W.heap.size W (wr.setCell ⟨B0 + 1, 0, none⟩ (.int .i64 (min lo x))).drew := below_drew (HBW.out.setCell hbe _)
      clear p0 p1 f0 f1 plt hcx HP1 HP0 HBW
      have HP0 := Lib.hid hp0
      have HP1 := Lib.hid hp1
      have HBW := Lib.hid hbw
      clear hp0 hp1 hbw
      generalize (wr.setCell ⟨B0 + 1, 0, none⟩ (.int .i64 (min lo x))).drew = w5 at *
      have hcx : w5.cell? ⟨b, off + k, none⟩ = some (.int .i64 (zs[k]?.getD 0)) := by
        obtain ⟨b', off', e', _, _, hcs⟩ := (HR.out.below HBW.out).cells (by omega)
        cases e'
        exact hcs k hlt
      rw [hxe] at hcx
      have p0 := HP1.out.c0
      have p1 := HP1.out.c1
      have f0 := HP1.out.f 0
      have f1 := HP1.out.f 1
      have plt := HP1.out.lt
      clear hxe
      go_upto_region 6 with fail
      go_region
      have hp1 : Pair (w5.setCell ⟨B0 + 1, 1, none⟩ (.int .i64 (max hi x))).drew (B0 + 1) 97 (.int .i64 (min lo x)) (.int .i64 (max hi x)) := HP1.out.put1 _
      have hp0 : Pair (w5.setCell ⟨B0 + 1, 1, none⟩ (.int .i64 (max hi x))).drew B0 97 (.int .i64 0) (.int .i64 0) := HP0.out.apart (by omega) _ _
      have hbw : Below W.heap.size W (w5.setCell ⟨B0 + 1, 1, none⟩ (.int .i64 (max hi x))).drew := below_drew (HBW.out.setCell hbe _)
      clear p0 p1 f0 f1 plt hcx HP1 HP0 HBW
      have HP0 := Lib.hid hp0
      have HP1 := Lib.hid hp1
      have HBW := Lib.hid hbw
      clear hp0 hp1 hbw
      generalize (w5.setCell ⟨B0 + 1, 1, none⟩ (.int .i64 (max hi x))).drew = w6 at *
      go_wp2
      go_roundw
      case rel => exact ⟨k + 1, min lo x, max hi x, by omega, by go_num, HLS, HHS, HP0, HP1, HBW⟩
      case measure => simp [intOf]; omega
    · obtain rfl : k = len := by omega
      have hlo : lo = minS zs := by rw [← HLO.out, HL.out, lowR_all]
      have hhi : hi = maxS zs := by rw [← HHI.out, HL.out, highR_all]
      have HLO2 := Lib.hid hlo
      have HHI2 := Lib.hid hhi
      clear hlo hhi
      have p0 := HP1.out.c0
      have p1 := HP1.out.c1
      have r0 := HP0.out.c0
      have r1 := HP0.out.c1
      have f0 := HP0.out.f 0
      have f1 := HP0.out.f 1
      have plt := HP1.out.lt
      have rlt := HP0.out.lt
      go_wp2
      refine bodyPost_ret (v := .agg #[.int .i64 lo, .int .i64 hi]) (by simp [results, Try.results63, go_sem, r0, r1]) rfl ⟨by rw [HLO2.out, HHI2.out], ?_⟩
      exact (HBW.out.setCell (Nat.le_of_eq HBE.out) _).setCell (Nat.le_of_eq HBE.out) _

end Go.Proofs.Ytkfmgiacdlkmiaa

namespace Go.Proofs.Ytkfmgiacdlkmiaa
open Go.RowKit

def plus (by_ : Int) (zs : List Int) : List Int := zs.map (· + by_)

theorem plus_ne {y : Int} {zs : List Int} (h : zs ≠ []) : plus y zs ≠ [] := fun e => h (List.map_eq_nil_iff.1 e)
theorem plus_min {y : Int} {zs : List Int} (h : zs ≠ []) : minS (plus y zs) = minS zs + y := by
  have h1 := min_mem (plus y zs) (plus_ne h)
  obtain ⟨z, hz, e⟩ := List.mem_map.1 h1
  have h2 := min_le zs z hz
  have h3 := min_le (plus y zs) (minS zs + y) (List.mem_map.2 ⟨_, min_mem zs h, rfl⟩)
  have e : z + y = _ := e
  omega
theorem plus_max {y : Int} {zs : List Int} (h : zs ≠ []) : maxS (plus y zs) = maxS zs + y := by
  have h1 := max_mem (plus y zs) (plus_ne h)
  obtain ⟨z, hz, e⟩ := List.mem_map.1 h1
  have h2 := le_max zs z hz
  have h3 := le_max (plus y zs) (maxS zs + y) (List.mem_map.2 ⟨_, max_mem zs h, rfl⟩)
  have e : z + y = _ := e
  omega
theorem plus_diff (b z y : Int) : diffS (b + y) (z + y) = diffS b z := by
  unfold diffS
  rw [show z + y - (b + y) = z - b by omega]
theorem plus_width {y : Int} {zs : List Int} (h : zs ≠ []) : widthS (plus y zs) = widthS zs := by
  unfold widthS
  rw [plus_min h, plus_max h, plus_diff]
theorem plus_bits {y : Int} {zs : List Int} (h : zs ≠ []) : bitsS (plus y zs) = bitsS zs := by
  have e1 : wideS zs = widthS zs := if_neg h
  have e2 : wideS (plus y zs) = widthS (plus y zs) := if_neg (plus_ne h)
  have e3 : baseS zs = minS zs := if_neg h
  have e4 : baseS (plus y zs) = minS (plus y zs) := if_neg (plus_ne h)
  unfold bitsS
  rw [e1, e2, e3, e4, plus_width h, plus_min h]
  congr 1
  unfold diffs plus
  rw [List.map_map]
  exact List.map_congr_left fun z _ => plus_diff _ _ _
theorem plus_space {y : Int} {zs : List Int} (h : zs ≠ []) : spaceS (plus y zs) = spaceS zs := by
  have e1 : wideS zs = widthS zs := if_neg h
  have e2 : wideS (plus y zs) = widthS (plus y zs) := if_neg (plus_ne h)
  unfold spaceS
  rw [e1, e2, plus_width h, show (plus y zs).length = zs.length from List.length_map _]

/-- What is packed behind the base. -/
def backS (zs : List Int) : List Int := (widthS zs : Int) :: gatherS (bitsS zs) (spaceS zs)
theorem pack_parts {zs : List Int} (h : zs ≠ []) : packS zs = (varN zs.length ++ varN (zz (minS zs)).toNat) ++ backS zs := by
  unfold packS headS backS
  rw [if_neg h]
  simp
theorem plus_back {y : Int} {zs : List Int} (h : zs ≠ []) : backS (plus y zs) = backS zs := by
  unfold backS
  rw [plus_width h, plus_bits h, plus_space h]

/-- Behind the base the packed forms agree. -/
theorem plus_pack {y : Int} {zs : List Int} (h : zs ≠ []) :
    (packS zs).drop ((varN zs.length).length + (varN (zz (minS zs)).toNat).length) = (packS (plus y zs)).drop ((varN zs.length).length + (varN (zz (minS zs + y)).toNat).length) := by
  rw [pack_parts h, pack_parts (plus_ne h), plus_min h, plus_back h, show (plus y zs).length = zs.length from List.length_map _, ← List.length_append, ← List.length_append, List.drop_left, List.drop_left]

end Go.Proofs.Ytkfmgiacdlkmiaa

namespace Go.Proofs.Ytkfmgiacdlkmiaa
open Go.RowKit Go.ChangeShapes Go.WideShapes Go.ChangeAt

theorem Try.infoB4 : (Try.prog.info? 5).map (fun i => (i.zero, i.size, i.bytes)) = some (some (.int .u8 0), 1, 1) := by kernel_rfl

theorem varintR_nil (u : Nat) (hu2 : u < 18446744073709551616) (W : World) :
    Calls Try.prog 33 #[.slice none 0 0, .int .u64 u] W fun e W' => Makes W e W' (varN u) :=
  varintR_any (fun _ => True) none 0 0 [] u hu2 W Rd.empty (by decide)

theorem own_below {A B : World} {base : Nat} {e : TypeId} {g n cap : Nat} {xs : List Value} (h : A.ownsRow base e 1 (.slice (some ⟨g, 0, none⟩) n cap) n xs) (hb : Below A.heap.size A B) : B.ownsRow base e 1 (.slice (some ⟨g, 0, none⟩) n cap) n xs :=
  (Kept.of_below hb).row h (row_lt h)

theorem gB_same (bl : List Int) (k size : Nat) (hk : k < bl.length) (hs : bl.length ≤ 8 * size) (h0 : bl[k]?.getD 0 = 0) : gB bl (k + 1) size = gB bl k size := by
  have hlt : k / 8 < (gB bl k size).length := by rw [gB_length]; omega
  rw [gB_step bl k size hk hs, h0, Int.zero_mul, Int.add_zero, List.getElem?_eq_getElem hlt, Option.getD_some, List.set_getElem_self]

set_option maxRecDepth 100000 in
set_option maxHeartbeats 4000000 in
theorem formR_some {K : Nat → Prop} {b off len cap : Nat} {zs : List Int} (hz : Smalls zs) (h0 : 0 < len) (hl : len ≤ 4096) {W : World} (hR : Rd K W .i64 (some ⟨b, off, none⟩) len cap zs) :
    Calls Try.prog 47 #[.slice (some ⟨b, off, none⟩) len cap] W fun e W' => Makes W e W' (packS zs) := by
  obtain ⟨i0, hi, hz0, hz1, hz2⟩ := info_parts Try.infoB4
  have HL : Hid (len = zs.length) := hR.hl
  have HR := Lib.hid hR
  have hne : zs ≠ [] := fun e => by have := hR.hl; rw [e] at this; simp at this; omega
  have HNE := Lib.hid hne
  have HZ := Lib.hid hz
  have hfit := hR.fit
  have htop := hR.top
  have hwk : IntKind.u64.wrap (len : Int) = len := by rw [IntKind.wrap_u64]; omega
  have hln : ((len : Int) == 0) = false := by rw [beq_eq_false_iff_ne]; omega
  have hmI := hz _ (min_mem zs hne)
  have hzu := zz_u64 hmI
  obtain ⟨zm, hzm⟩ := Int.eq_ofNat_of_zero_le hzu.1
  have hzb : zm < 18446744073709551616 := by have := hzu.2; rw [hzm] at this; omega
  have HWD : Hid (widthS zs = Lib.bitLen (diffS (minS zs) (maxS zs)).toNat) := rfl
  have hdu := diff_u64 (minS zs) (maxS zs)
  have hdt := diff_text (minS zs) (maxS zs)
  obtain ⟨D, hD⟩ := Int.eq_ofNat_of_zero_le hdu.1
  have hDb : D < 18446744073709551616 := by have := hdu.2; rw [hD] at this; omega
  rw [hD] at hdt
  have HWD2 : Hid (Lib.bitLen D = widthS zs) := by show _ = _; rw [HWD.out, hD, Int.toNat_natCast]
  have hw64 := width_le zs
  have HZG : Hid (∀ V, Calls Try.prog 65 #[.int .i64 (minS zs)] V fun e w' => e = .returned (.int .u64 zm) ∧ V = w') := fun V => by
    have := zigzagR_any (minS zs) hmI V
    rwa [hzm] at this
  have HWW : Hid (∀ V, Calls Try.prog 64 #[.int .u64 D] V fun e w' => e = .returned (.int .i64 (widthS zs : Nat)) ∧ V = w') := fun V => by
    have := widthR_any D hDb V
    rwa [HWD2.out] at this
  have HHD : Hid (headS zs = varN len ++ varN zm ++ [(widthS zs : Int)]) := by
    show _ = _
    unfold headS
    rw [if_neg hne, ← HL.out, hzm, Int.toNat_natCast]
  have HFR : Hid (∀ V, Rd K V .i64 (some ⟨b, off, none⟩) len cap zs → Calls Try.prog 63 #[.slice (some ⟨b, off, none⟩) len cap] V fun e W' => e = .returned (.agg #[.int .i64 (minS zs), .int .i64 (maxS zs)]) ∧ Below V.heap.size V W') := fun V h => frameR_any h0 h
  have HBL : Hid (bitsS zs = allBits (widthS zs) (diffs (minS zs) zs)) := by
    show _ = _
    unfold bitsS wideS baseS
    rw [if_neg hne, if_neg hne]
  have HSP : Hid (spaceS zs = (len * widthS zs + 7) / 8) := by
    show _ = _
    unfold spaceS wideS
    rw [if_neg hne, ← HL.out]
  clear hR hne hzu hzm hdu hD hz HWD HWD2
  have hwd8 : IntKind.u8.wrap (widthS zs : Int) = (widthS zs : Nat) := by simp [IntKind.wrap, IntKind.bits, IntKind.signed]; omega
  generalize minS zs = mn at *
  generalize maxS zs = mx at *
  generalize widthS zs = wd at *
  go_enter Try.func47, Try.ntmps47
  go_wp2_with fail
  refine (varintR_nil len (by omega) W).mono ?_
  rintro e w1 ⟨g1, c1, rfl, hc1, hrow1, hb1⟩
  obtain ⟨n1, hn1⟩ : ∃ n, (varN len).length = n := ⟨_, rfl⟩
  have hvl1 := var_len (u := len) (by omega)
  rw [hn1] at hc1 hrow1 hvl1 ⊢
  have HB1 := Lib.hid hb1
  have HROW1 := Lib.hid hrow1
  have HN1 := Lib.hid hn1
  clear hb1 hrow1 hn1
  go_wp2_with fail
  refine (HFR.out _ (HR.out.below HB1.out)).mono ?_
  rintro e w2 ⟨rfl, hb2⟩
  have HROW2 := Lib.hid (own_below HROW1.out hb2)
  have HB2 : Hid (Below W.heap.size W w2) := HB1.out.trans (hb2.mono HB1.out.size)
  clear hb2 HROW1 HB1
  go_upto_region 5 with fail
  have hbV : Below w2.heap.size w2 (w2.alloc (.cells #[.int .i64 mn, .int .i64 mx] 97)) := (Below.refl _ _).alloc (Nat.le_refl _) _
  have hP := Pair.new w2 97 (.int .i64 mn) (.int .i64 mx)
  have HROWV := Lib.hid (own_below HROW2.out hbV)
  have HBV : Hid (Below W.heap.size W (w2.alloc (.cells #[.int .i64 mn, .int .i64 mx] 97))) := HB2.out.trans (hbV.mono HB2.out.size)
  have HFL : Hid (W.heap.size ≤ w2.heap.size) := HB2.out.size
  obtain ⟨F, hF⟩ : ∃ F, w2.heap.size = F := ⟨_, rfl⟩
  rw [hF] at hP HFL ⊢
  clear hbV hF HROW2 HB2
  generalize w2.alloc (.cells #[.int .i64 mn, .int .i64 mx] 97) = V at *
  have HP := Lib.hid hP
  have p0 := hP.c0
  have p1 := hP.c1
  clear hP
  go_wp2_with fail
  refine (HWW.out V).mono ?_
  rintro e V' ⟨rfl, rfl⟩
  go_wp2_with fail
  refine (HZG.out V).mono ?_
  rintro e V' ⟨rfl, rfl⟩
  go_wp2_with fail
  refine (varintR_any (fun b => W.heap.size ≤ b) (some ⟨g1, 0, none⟩) n1 c1 (varN len) zm hzb V (Rd.of_row HN1.out.symm hc1 (by omega) HROWV.out) (by omega)).mono ?_
  rintro e w3 ⟨g3, c3, rfl, hc3, hrow3, hb3⟩
  obtain ⟨n3, hn3⟩ : ∃ n, (varN len ++ varN zm).length = n := ⟨_, rfl⟩
  have hvl3 : n3 ≤ 20 := by rw [← hn3, List.length_append, HN1.out]; have := var_len hzb; omega
  rw [hn3] at hrow3 hc3 ⊢
  obtain ⟨g4, c4, w4, hr4, hrow4, hg4, hc4, _⟩ := run_append_one (P := Try.prog) w3 V.heap.size 23 23 5 i0 _ 1 .u8 Try.underlying23 hi hz0 hz1 hz2 rfl g3 n3 c3 _ hrow3 (wd : Int) 5 (by unfold maxLen; omega) (by omega) hb3.size
  have HB4 : Hid (Below V.heap.size V w4) := (hb3.alloc hb3.size _).grown hg4 (hb3.alloc hb3.size _).size (fun r e => by cases e; exact row_base hrow3)
  have HROW4 : Hid (w4.ownsRow V.heap.size 5 1 (.slice (some ⟨g4, 0, none⟩) (n3 + 1) c4) (n3 + 1) ((headS zs).map (Value.int .u8))) := by
    show w4.ownsRow _ _ _ _ _ _
    rw [HHD.out, List.map_append]
    exact hrow4
  have HHL : Hid ((headS zs).length = n3 + 1) := by show _ = _; rw [HHD.out, List.length_append, hn3]; rfl
  have HR4 := Lib.hid hr4
  clear hr4 hrow4 hg4 hc4 hb3 hrow3 hc3 hn3 HROWV HN1 hvl1 hc1 hwk hdt hDb hzb HFR HWW HZG HHD p0 p1
  obtain ⟨H, hH⟩ : ∃ H, n3 + 1 = H := ⟨_, rfl⟩
  have hH21 : H ≤ 21 := by omega
  obtain ⟨T, hT⟩ : ∃ T : Nat, len * wd = T := ⟨_, rfl⟩
  have hTI : (len : Int) * (wd : Int) = (T : Int) := by rw [← hT, Int.natCast_mul]
  have hTb : T ≤ 262144 := by rw [← hT]; exact Nat.mul_le_mul hl hw64
  obtain ⟨size, hsz⟩ : ∃ z, (T + 7) / 8 = z := ⟨_, rfl⟩
  have hszI : ((T : Int) + 7) / 8 = (size : Int) := by omega
  have hszb : size ≤ 32769 := by omega
  have HSP2 : Hid (spaceS zs = size) := by show _ = _; rw [HSP.out, hT, hsz]
  have HHT := Lib.hid hT
  have HHS := Lib.hid hsz
  rw [hH] at HROW4 HHL HR4
  clear hT hsz HSP
  go_wp2_with (at_builtin; refine wpList_append_want (o := ⟨some 38, _, _, _, _, _⟩) _ rfl _ _ _ _ rfl _ _ rfl rfl _ _ HR4.out ?_)
  clear hH hvl3 HR4
  go_loopw [3, 7] (fun s3 i wr => ∃ j g c : Nat, j ≤ size ∧ i = .int .i64 j ∧ s3 = .slice (some ⟨g, 0, none⟩) (H + j) c ∧ Hid (wr.ownsRow V.heap.size 5 1 (.slice (some ⟨g, 0, none⟩) (H + j) c) (H + j) ((headS zs ++ List.replicate j 0).map (Value.int .u8))) ∧ Hid (Below V.heap.size V wr)) (fun _ i _ => size - (intOf i).toNat)
  case atStart => exact ⟨0, g4, c4, Nat.zero_le _, rfl, rfl, by rw [List.replicate_zero, List.append_nil]; exact HROW4, HB4⟩
  case round =>
    obtain ⟨j, g, c, hj, rfl, rfl, HRW, HBW⟩ := hrel
    by_cases hlt : j < size
    · have hltI : (j : Int) < (size : Int) := by omega
      obtain ⟨g5, c5, w5, hr5, hrow5, hg5, _, _⟩ := run_append_one (P := Try.prog) wr V.heap.size 23 23 5 i0 _ 1 .u8 Try.underlying23 hi hz0 hz1 hz2 rfl g (H + j) c _ HRW.out 0 5 (by unfold maxLen; omega) (by omega) HBW.out.size
      have HB5 : Hid (Below V.heap.size V w5) := (HBW.out.alloc HBW.out.size _).grown hg5 (HBW.out.alloc HBW.out.size _).size (fun r e => by cases e; exact row_base HRW.out)
      have HROW5 : Hid (w5.ownsRow V.heap.size 5 1 (.slice (some ⟨g5, 0, none⟩) (H + (j + 1)) c5) (H + (j + 1)) ((headS zs ++ List.replicate (j + 1) 0).map (Value.int .u8))) := by
        show w5.ownsRow _ _ _ _ _ _
        rw [List.replicate_succ', ← List.append_assoc, List.map_append]
        exact hrow5
      have HR5 := Lib.hid hr5
      clear hr5 hrow5 hg5
      go_wp2_with (at_builtin; refine wpList_append_want (o := ⟨some 53, _, _, _, _, _⟩) _ rfl _ _ _ _ rfl _ _ rfl rfl _ _ HR5.out ?_)
      go_roundw
      case rel => exact ⟨j + 1, g5, c5, by omega, by go_num, by go_num, HROW5, HB5⟩
      case measure => simp [intOf]; omega
    · obtain rfl : j = size := by omega
      have HRG : Hid (wr.ownsRow V.heap.size 5 1 (.slice (some ⟨g, 0, none⟩) (H + j) c) (H + j) ((headS zs ++ gB (bitsS zs) 0 j).map (Value.int .u8))) := by
        show wr.ownsRow _ _ _ _ _ _
        rw [gB_zero]
        exact HRW.out
      clear HRW
      obtain ⟨sz, rfl⟩ : ∃ sz, sz = j := ⟨_, rfl⟩
      obtain ⟨wz, rfl⟩ : ∃ wz, wz = wr := ⟨_, rfl⟩
      have HBLL : Hid ((bitsS zs).length = T) := by
        show _ = _
        rw [HBL.out, allBits_length, show (diffs mn zs).length = len by unfold diffs; rw [List.length_map]; exact HL.out.symm, HHT.out]
      have hcc : H + sz ≤ c := (by obtain ⟨cur, _, h, _⟩ := row_block HRG.out; exact h)
      have hT8 : T ≤ 8 * sz := by have := HHS.out; omega
      go_wp2
      go_loopw [8] (fun i wr => ∃ t : Nat, t ≤ len ∧ i = .int .i64 t ∧ Hid (wr.ownsRow V.heap.size 5 1 (.slice (some ⟨g, 0, none⟩) (H + sz) c) (H + sz) ((headS zs ++ gB (bitsS zs) (t * wd) sz).map (Value.int .u8))) ∧ Hid (Below V.heap.size V wr)) (fun i _ => len - (intOf i).toNat)
      case atStart => exact ⟨0, Nat.zero_le _, rfl, by rw [Nat.zero_mul]; exact HRG, HBW⟩
      case round =>
        obtain ⟨t, ht, rfl, HRT, HBT⟩ := hrel
        by_cases hlt2 : t < len
        · obtain ⟨b', off', e', _, _, hcs⟩ := (HR.out.below (HBV.out.trans (HBT.out.mono HBV.out.size))).cells (by omega)
          cases e'
          have hcx := hcs t hlt2
          have htz : t < zs.length := by have := HL.out; omega
          have hda := diffs_at mn zs t htz
          obtain ⟨x, hxe⟩ : ∃ x, zs[t]?.getD 0 = x := ⟨_, rfl⟩
          rw [hxe] at hcx hda
          have hdt := diff_text mn x
          have hdu := diff_u64 mn x
          obtain ⟨dv, hdv⟩ : ∃ d, diffS mn x = d := ⟨_, rfl⟩
          rw [hdv] at hdt hdu hda
          have HDA := Lib.hid hda
          have HDU := Lib.hid hdu
          have hpt := HP.out.below HBT.out HP.out.lt
          have p0 := hpt.c0
          have plt := hpt.lt
          have HRD : Hid (wr.drew.ownsRow V.heap.size 5 1 (.slice (some ⟨g, 0, none⟩) (H + sz) c) (H + sz) ((headS zs ++ gB (bitsS zs) (t * wd) sz).map (Value.int .u8))) := HRT.out
          have HBD : Hid (Below V.heap.size V wr.drew) := below_drew HBT.out
          clear hcs hxe hdv hda hdu HRT HBT hpt
          go_upto_region 15 with fail
          go_region
          clear hcx hdt p0 plt
          generalize wr.drew = w5 at *
          obtain ⟨tw, htw⟩ : ∃ q : Nat, t * wd = q := ⟨_, rfl⟩
          have htwI : (t : Int) * (wd : Int) = (tw : Int) := by rw [← htw, Int.natCast_mul]
          have htwT : tw + wd ≤ T := by
            have : (t + 1) * wd ≤ len * wd := Nat.mul_le_mul (by omega) (Nat.le_refl _)
            rw [Nat.succ_mul, HHT.out, htw] at this
            exact this
          have HTW := Lib.hid htw
          rw [htw] at HRD
          clear htw
          have hdu0 := HDU.out.1
          have hdu1 := HDU.out.2
          go_wp2
          go_loopw [10] (fun kk wx => ∃ q : Nat, q ≤ wd ∧ kk = .int .i64 q ∧ Hid (wx.ownsRow V.heap.size 5 1 (.slice (some ⟨g, 0, none⟩) (H + sz) c) (H + sz) ((headS zs ++ gB (bitsS zs) (tw + q) sz).map (Value.int .u8))) ∧ Hid (Below V.heap.size V wx)) (fun kk _ => wd - (intOf kk).toNat)
          case atStart => exact ⟨0, Nat.zero_le _, rfl, HRD, HBD⟩
          case round =>
            obtain ⟨q, hq, rfl, HRQ, HBQ⟩ := hrel
            by_cases hlt3 : q < wd
            · have hqI : (q : Int) < (wd : Int) := by omega
              obtain ⟨p, hp⟩ : ∃ p, tw + q = p := ⟨_, rfl⟩
              have hpI : (tw : Int) + (q : Int) = (p : Int) := by omega
              have hpT : p < T := by omega
              have hbit : (bitsS zs)[p]?.getD 0 = dv / 2 ^ q % 2 := by
                rw [HBL.out, ← hp, ← HTW.out, allBits_at wd (diffs mn zs) t q (by unfold diffs; rw [List.length_map]; exact htz) hlt3, HDA.out]; rfl
              have hand := and1_u64 dv q HDU.out
              have hb01 : dv / 2 ^ q % 2 = 0 ∨ dv / 2 ^ q % 2 = 1 := by omega
              have HSM := Lib.hid (gB_same (bitsS zs) p sz (by rw [HBLL.out]; exact hpT) (by rw [HBLL.out]; exact hT8))
              have hstp := gB_step (bitsS zs) p sz (by rw [HBLL.out]; exact hpT) (by rw [HBLL.out]; exact hT8)
              have hylt := gB_lt (bitsS zs) (bitsS_bin zs) p sz (by rw [HBLL.out]; exact hpT) (by rw [HBLL.out]; exact hT8)
              rw [hp] at HRQ
              have HP1 : Hid (tw + (q + 1) = p + 1) := by show _ = _; omega
              clear hp
              rcases hb01 with hb | hb
              · rw [hb] at hbit hand
                have HRN : Hid (wr.ownsRow V.heap.size 5 1 (.slice (some ⟨g, 0, none⟩) (H + sz) c) (H + sz) ((headS zs ++ gB (bitsS zs) (tw + (q + 1)) sz).map (Value.int .u8))) := by
                  show wr.ownsRow _ _ _ _ _ _
                  rw [HP1.out, HSM.out hbit]; exact HRQ.out
                clear hb hbit hstp hylt HP1
                go_wp2
                go_roundw
                case rel => exact ⟨q + 1, by omega, by go_num, HRN, HBQ⟩
                case measure => simp [intOf]; omega
              · rw [hb] at hbit hand
                have hp8 : p / 8 < sz := by omega
                have hcr : wr.cell? ⟨g, H + p / 8, none⟩ = some (.int .u8 ((gB (bitsS zs) p sz)[p / 8]?.getD 0)) := by
                  have := row_cell (j := H + p / 8) HRQ.out (by rw [List.length_append, gB_length, HHL.out]; omega)
                  rw [this, List.getElem?_append_right (by rw [HHL.out]; omega), HHL.out, Nat.add_sub_cancel_left]
                have hfr := row_unfrozen (j := H + p / 8) HRQ.out
                have hglt := row_lt HRQ.out
                have hor := or_u8 _ 1 (p % 8) (Nat.mod_lt _ (by decide)) hylt (.inr rfl)
                have hst := row_store (j := H + p / 8) HRQ.out (.int .u8 ((gB (bitsS zs) p sz)[p / 8]?.getD 0 + 1 * 2 ^ (p % 8)))
                rw [← List.map_set, List.set_append_right (H + p / 8) _ (by rw [HHL.out]; omega), HHL.out, Nat.add_sub_cancel_left] at hst
                rw [hbit] at hstp
                rw [← hstp, ← HP1.out] at hst
                have HST := Lib.hid hst
                have hd8 : (p : Int) / 8 = ((p / 8 : Nat) : Int) := by omega
                have hm8 : (p : Int) % 8 = ((p % 8 : Nat) : Int) := by omega
                have hm8' : p % 8 < 8 := Nat.mod_lt _ (by decide)
                have hG : V.heap.size ≤ g := row_base HRQ.out
                generalize (gB (bitsS zs) p sz)[p / 8]?.getD 0 = y at *
                obtain ⟨p8, hp8e⟩ : ∃ z, p / 8 = z := ⟨_, rfl⟩
                obtain ⟨pm, hpme⟩ : ∃ z, p % 8 = z := ⟨_, rfl⟩
                rw [hp8e] at hd8 hp8 hcr hfr HST
                rw [hpme] at hm8 hm8' hor HST
                obtain ⟨y2, hy2⟩ : ∃ z, y + 1 * 2 ^ pm = z := ⟨_, rfl⟩
                rw [hy2] at hor HST
                have hor2 : bits BinOp.or IntKind.u8 y (IntKind.u8.wrap (2 ^ pm)) = y2 := by rw [Int.one_mul] at hor; exact hor
                have hor3 : bits BinOp.or IntKind.u8 y (2 ^ pm % 256) = y2 := by
                  have e : IntKind.u8.wrap ((2 : Int) ^ pm) = 2 ^ pm % 256 := by simp [IntKind.wrap, IntKind.bits, IntKind.signed]
                  rwa [e] at hor2
                obtain ⟨ix, hixn⟩ : ∃ ix, H + p8 = ix := ⟨_, rfl⟩
                have hix : (H : Int) + (p8 : Int) = (ix : Int) := by omega
                have hixb : ix < H + sz := by omega
                rw [hixn] at hcr hfr HST
                clear hst hstp hylt hbit HP1 HSM hp8e hpme hb hy2 hixn
                go_wp2
                go_roundw
                case rel => exact ⟨q + 1, by omega, by go_num, HST, HBQ.out.setCell hG _⟩
                case measure => simp [intOf]; omega
            · obtain rfl : q = wd := by omega
              have hqI : ¬ (q : Int) < (q : Int) := by omega
              have HRN : Hid (wr.ownsRow V.heap.size 5 1 (.slice (some ⟨g, 0, none⟩) (H + sz) c) (H + sz) ((headS zs ++ gB (bitsS zs) ((t + 1) * q) sz).map (Value.int .u8))) := by
                show wr.ownsRow _ _ _ _ _ _
                rw [Nat.succ_mul, HTW.out]
                exact HRQ.out
              go_wp2
              go_roundw
              case rel => exact ⟨t + 1, by omega, by go_num, HRN, HBQ⟩
              case measure => simp [intOf]; omega
        · obtain rfl : t = len := by omega
          have HPK : Hid (packS zs = headS zs ++ gB (bitsS zs) (t * wd) sz) := by
            show _ = _
            unfold packS gatherS
            rw [HSP2.out, HBLL.out, HHT.out]
          have hpl : (packS zs).length = H + sz := by rw [HPK.out, List.length_append, gB_length, HHL.out]
          have HPL := Lib.hid hpl
          clear hpl
          go_wp2
          go_ret
          refine ⟨g, c, by rw [HPL.out]; rfl, by rw [HPL.out]; exact hcc, ?_, HBV.out.trans (HBT.out.mono HBV.out.size)⟩
          rw [HPL.out, HPK.out]
          exact HRT.out.mono HBV.out.size

end Go.Proofs.Ytkfmgiacdlkmiaa

namespace Go.Proofs.Ytkfmgiacdlkmiaa
open Go.RowKit Go.ChangeShapes Go.WideShapes Go.ChangeAt

theorem formR_any {K : Nat → Prop} {a : Option Addr} {len cap : Nat} {zs : List Int} (hz : Smalls zs) (hl : len ≤ 4096) {W : World} (hR : Rd K W .i64 a len cap zs) :
    Calls Try.prog 47 #[.slice a len cap] W fun e W' => Makes W e W' (packS zs) := by
  by_cases h0 : 0 < len
  · obtain ⟨b, off, rfl, _⟩ := hR.cells h0
    exact formR_some hz h0 hl hR
  · obtain rfl : len = 0 := by omega
    obtain rfl : zs = [] := List.eq_nil_of_length_eq_zero hR.hl.symm
    have HE : Hid (packS [] = varN 0) := by show _ = _; rw [varN_lo (by decide)]; exact exP2
    go_enter Try.func47, Try.ntmps47
    go_wp2_with fail
    refine (varintR_nil 0 (by decide) W).mono ?_
    rintro e w1 ⟨g1, c1, rfl, hc1, hrow1, hb1⟩
    rw [← HE.out] at hc1 hrow1 ⊢
    have HB := Lib.hid hb1
    have HC := Lib.hid hc1
    have HRR := Lib.hid hrow1
    clear hb1 hc1 hrow1
    go_wp2
    go_ret
    exact ⟨g1, c1, rfl, HC.out, HRR.out, HB.out⟩

theorem packR_any {K : Nat → Prop} {a : Option Addr} {len cap : Nat} {zs : List Int} (hz : Smalls zs) (hl : len ≤ 4096) {W : World} (hR : Rd K W .i64 a len cap zs) :
    Calls Try.prog 32 #[.slice a len cap] W (PackedPost W (packS zs)) := by
  have H := Lib.hid hR
  have hpl := pack_len zs hz (by rw [← hR.hl]; exact hl)
  clear hR
  go_enter Try.func32, Try.ntmps32
  go_wp2_with fail
  refine (formR_any hz hl (H.out.below ((Below.refl _ _).alloc (Nat.le_refl _) _))).mono ?_
  rintro e w1 ⟨g, c, rfl, hf, hrow, hb⟩
  have hp := (Pair.new W 63 (.slice none 0 0) (.int .i64 0)).below hb (by simp)
  have p0 := hp.c0
  have p1 := hp.c1
  have f0 := hp.f 0
  have f1 := hp.f 1
  have plt := hp.lt
  have hg := row_base hrow
  simp only [World.size_alloc] at hg
  have HR := Lib.hid (Rd.of_row rfl hf (by omega) hrow)
  have HB : Hid (Below W.heap.size W w1) := ((Below.refl _ _).alloc (Nat.le_refl _) _).trans (hb.mono (by simp))
  clear hb hp hrow
  go_wp2
  refine bodyPost_ret (v := .agg #[.slice (some ⟨g, 0, none⟩) (packS zs).length c, .int .i64 0]) (by simp [results, Try.results32, go_sem, p0, p1]) rfl ⟨g, c, rfl, ?_, (HB.out.setCell (Nat.le_refl _) _).setCell (Nat.le_refl _) _⟩
  exact ((HR.out.set ⟨W.heap.size, 0, none⟩ _ (fun h => by simp at h; omega)).set ⟨W.heap.size, 1, none⟩ _ (fun h => by simp at h; omega)).mono fun i _ h => by simp at h; omega

/-- The bits from at on, w of them, as a number. -/
def bitN (bs : List Int) (at_ w : Nat) : Int := numB (((allBits 8 bs).drop at_).take w)
theorem bitN_zero (bs : List Int) (a : Nat) : bitN bs a 0 = 0 := by unfold bitN; rw [List.take_zero]; rfl
theorem bitN_succ (bs : List Int) (a k : Nat) (h : a + k < 8 * bs.length) : bitN bs a (k + 1) = bitN bs a k + bs[(a + k) / 8]?.getD 0 / 2 ^ ((a + k) % 8) % 2 * 2 ^ k := by
  unfold bitN
  have hal := allBits_length 8 bs
  have h1 : k < ((allBits 8 bs).drop a).length := by rw [List.length_drop]; omega
  have h2 := allBits_at 8 bs ((a + k) / 8) ((a + k) % 8) (by omega) (Nat.mod_lt _ (by decide))
  rw [show (a + k) / 8 * 8 + (a + k) % 8 = a + k by omega] at h2
  rw [List.take_succ_eq_append_getElem h1, numB_snoc, List.length_take, Nat.min_eq_left (Nat.le_of_lt h1), List.getElem_drop]
  have h3 : (allBits 8 bs)[a + k]'(by omega) = bs[(a + k) / 8]?.getD 0 / 2 ^ ((a + k) % 8) % 2 := by
    have := List.getElem?_eq_getElem (l := allBits 8 bs) (i := a + k) (by omega)
    rw [h2] at this
    exact (Option.some.inj this).symm
  rw [h3]
theorem bitN_range {bs : List Int} (a k : Nat) : 0 ≤ bitN bs a k ∧ bitN bs a k < 2 ^ k := by
  have hb : Bin (((allBits 8 bs).drop a).take k) := (allBits_bin 8 bs).part a k
  have h := numB_range hb
  refine ⟨h.1, Int.lt_of_lt_of_le h.2 ?_⟩
  have : (2 : Nat) ^ (((allBits 8 bs).drop a).take k).length ≤ 2 ^ k := Nat.pow_le_pow_right (by decide) (by rw [List.length_take]; omega)
  exact_mod_cast this

end Go.Proofs.Ytkfmgiacdlkmiaa
