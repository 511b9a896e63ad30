/-
  The reference's reading of a code.
-/
import Derived.Test.YtdcapmbgnoahpaaPkQuad
import Derived.Deep.DeepCutAuto
namespace Go.Proofs.Ytdcapmbgnoahpaa
open Go.RowKit Go.ChangeShapes Go.WideShapes Go.ChangeAt

set_option maxRecDepth 100000 in
set_option maxHeartbeats 1000000 in
theorem varintR_any (K : Nat → Prop) (a : Option Addr) (len cap : Nat) (zs : List Int) (u : Nat) (hu2 : u < 18446744073709551616) (W : World) (hR : Rd K W .u8 a len cap zs) (hm : len ≤ 140737488340000) :
    Calls Try.prog 45 #[.slice a len cap, .int .u64 u] W fun e W' => Makes W e W' (zs ++ varN u) := by
  obtain ⟨i0, hi, hz0, hz1, hz2⟩ := info_parts Try.infoB
  have hvl := var_len hu2
  have HL : Hid (len = zs.length) := hR.hl
  obtain ⟨g5, c5, w5, hr5, hrow5, hg5, hc5, hbg5⟩ := run_append_copy' (P := Try.prog) (W.alloc (.cells #[] 5)) W.heap.size 22 22 5 i0 _ 1 .u8 Try.underlying22 hi hz0 hz1 hz2 rfl W.heap.size 0 (World.ownsRow_made W #[] 0 (Nat.le_refl _) (by decide) rfl) (.slice a len cap) zs len HL.out (hR.below ((Below.refl _ _).alloc (Nat.le_refl _) _)).reads (by unfold maxLen; omega) (by omega) (by simp)
  have HR5 := Lib.hid hr5
  have HROW5 := Lib.hid hrow5
  have HB5 : Below W.heap.size W w5 := ((Below.refl _ W).alloc (Nat.le_refl _) (.cells #[] 5)).grown hg5 (by simp) (fun k e => by cases e; exact Nat.le_refl _)
  have hc5' : Hid (len ≤ c5) := hc5
  clear hR hr5 hrow5 hg5 hbg5 hc5
  go_enter Try.func45, Try.ntmps45
  go_wp2_with (at_builtin; refine wpList_append_want (o := ⟨some 8, _, _, _, _, _⟩) _ rfl _ _ _ _ rfl _ _ rfl rfl _ _ HR5.out ?_)
  go_loopw [1, 5] (fun q v wr => ∃ (m g n c : Nat) (ys : List Int), q = .int .u64 m ∧ v = .slice (some ⟨g, 0, none⟩) n c ∧ m < 18446744073709551616 ∧ Hid (n = ys.length) ∧ Hid (ys ++ varN m = zs ++ varN u) ∧ Hid (wr.ownsRow W.heap.size 5 1 (.slice (some ⟨g, 0, none⟩) n c) n (ys.map (Value.int .u8))) ∧ Below W.heap.size W wr)
    (fun q _ _ => (intOf q).toNat)
  case atStart => exact ⟨u, g5, len, c5, zs, rfl, rfl, hu2, HL, rfl, HROW5, HB5⟩
  case round =>
    obtain ⟨m, g, n, c, ys, rfl, rfl, hm2, HN, HV, HX, hb⟩ := hrel
    have hyl : n + 1 ≤ 140737488350000 := by
      have h1 := congrArg List.length HV.out
      have h2 := HL.out
      have h3 := var_pos m
      have h4 := HN.out
      simp only [List.length_append] at h1
      omega
    by_cases hlt : m < 128
    · have HE : Hid (varN m = [(m : Int)]) := varN_lo hlt
      have hw8 : IntKind.u8.wrap (m : Int) = m := by simp [IntKind.wrap, IntKind.bits, IntKind.signed]; omega
      obtain ⟨g', c', wX, hr, hX', hgX, hcX, _⟩ := run_append_one (P := Try.prog) wr W.heap.size 22 22 5 i0 _ 1 .u8 Try.underlying22 hi hz0 hz1 hz2 rfl g n c _ HX.out m 5 (by unfold maxLen; omega) (by omega) hb.size
      have hdec : ¬ (128 ≤ m) := by omega
      have HBX : Hid (Below W.heap.size W wX) := (hb.alloc hb.size _).grown hgX (hb.alloc hb.size _).size (fun r e => by cases e; exact row_base HX.out)
      have HR := Lib.hid hr
      have HXX := Lib.hid hX'
      have HCX := Lib.hid hcX
      clear hr hX' hgX hcX
      go_wp2_with (at_builtin; refine wpList_append_want (o := ⟨some 24, _, _, _, _, _⟩) _ rfl _ _ _ _ rfl _ _ rfl rfl _ _ HR.out ?_)
      go_ret
      have e1 : n + 1 = (zs ++ varN u).length := by rw [← HV.out, HE.out, HN.out]; simp
      refine ⟨g', c', ?_, ?_, ?_, HBX.out⟩
      · rw [e1]; rfl
      · rw [← e1]; exact HCX.out
      · rw [← e1, ← HV.out, HE.out, List.map_append]; exact HXX.out
    · have HE : Hid (varN m = ((m % 128 : Nat) + 128 : Int) :: varN (m / 128)) := varN_hi hlt
      obtain ⟨g', c', wX, hr, hX', hgX, hcX, _⟩ := run_append_one (P := Try.prog) wr W.heap.size 22 22 5 i0 _ 1 .u8 Try.underlying22 hi hz0 hz1 hz2 rfl g n c _ HX.out ((m % 128 : Nat) + 128 : Int) 5 (by unfold maxLen; omega) (by omega) hb.size
      have hdec : 128 ≤ m := by omega
      have HBX : Below W.heap.size W wX := (hb.alloc hb.size _).grown hgX (hb.alloc hb.size _).size (fun r e => by cases e; exact row_base HX.out)
      have HR := Lib.hid hr
      have HXX : Hid (wX.ownsRow W.heap.size 5 1 (.slice (some ⟨g', 0, none⟩) (n + 1) c') (n + 1) ((ys ++ [((m % 128 : Nat) + 128 : Int)]).map (Value.int .u8))) := by
        show wX.ownsRow _ _ _ _ _ _
        rw [List.map_append]; exact hX'
      have HV2 : Hid ((ys ++ [((m % 128 : Nat) + 128 : Int)]) ++ varN (m / 128) = zs ++ varN u) := by show _ = _; rw [← HV.out, HE.out]; simp
      have HN2 : Hid (n + 1 = (ys ++ [((m % 128 : Nat) + 128 : Int)]).length) := by show _ = _; rw [List.length_append, HN.out]; rfl
      have hw7 : IntKind.u8.wrap ((m : Int) % 128) = ((m % 128 : Nat) : Int) := by simp [IntKind.wrap, IntKind.bits, IntKind.signed]; omega
      have hw9 : IntKind.u8.wrap (((m % 128 : Nat) : Int) + 128) = ((m % 128 : Nat) : Int) + 128 := by simp [IntKind.wrap, IntKind.bits, IntKind.signed]; omega
      clear hr hX' hgX hcX
      go_wp2_with (at_builtin; refine wpList_append_want (o := ⟨some 17, _, _, _, _, _⟩) _ rfl _ _ _ _ rfl _ _ rfl rfl _ _ HR.out ?_)
      go_roundw
      case rel => exact ⟨m / 128, g', n + 1, c', _, by go_num, rfl, by omega, HN2, HV2, HXX, HBX⟩
      case measure => simp [intOf]; omega

end Go.Proofs.Ytdcapmbgnoahpaa

namespace Go.Proofs.Ytdcapmbgnoahpaa
open Go.RowKit Go.ChangeShapes Go.WideShapes Go.ChangeAt

theorem shl_sum (a d : Int) (k : Nat) (ha : 0 ≤ a ∧ a < 2 ^ (7 * k)) (hd : 0 ≤ d ∧ d < 128) (hk : k ≤ 8 ∨ (k = 9 ∧ d ≤ 1)) :
    IntKind.u64.wrap (d * 2 ^ (7 * k)) = d * 2 ^ (7 * k) ∧ IntKind.u64.wrap (a + d * 2 ^ (7 * k)) = a + d * 2 ^ (7 * k) := by
  obtain ⟨P, hP⟩ : ∃ P : Nat, P = 2 ^ (7 * k) := ⟨_, rfl⟩
  have e : (2 : Int) ^ (7 * k) = (P : Int) := by rw [hP]; simp
  have h1 : 1 ≤ P := by rw [hP]; exact Nat.one_le_two_pow
  rw [e] at ha ⊢
  obtain ⟨n, rfl⟩ := Int.eq_ofNat_of_zero_le hd.1
  have hn : n < 128 := by have := hd.2; omega
  rcases hk with h8 | ⟨rfl, h1d⟩
  · have h56 : P ≤ 2 ^ 56 := by rw [hP]; exact Nat.pow_le_pow_right (by decide) (by omega)
    have h57 : (2 : Nat) ^ 56 = 72057594037927936 := rfl
    have h58 : n * P ≤ 127 * P := Nat.mul_le_mul_right P (by omega)
    rw [← Int.natCast_mul, IntKind.wrap_u64, IntKind.wrap_u64]
    omega
  · have h63 : P = 9223372036854775808 := hP
    have hn1 : n ≤ 1 := by omega
    rw [h63, IntKind.wrap_u64, IntKind.wrap_u64]
    rw [h63] at ha
    omega

theorem RdAt.moreA {zs : List Int} {k : Nat} {a : Int} (h : RdAt zs k a) (hk : k < zs.length) (hk9 : k ≤ 8) (hx : 0 ≤ zs[k]?.getD 0 ∧ zs[k]?.getD 0 < 256) (h128 : 128 ≤ zs[k]?.getD 0) :
    RdAt zs (k + 1) (a + (zs[k]?.getD 0 - 128) * 2 ^ (7 * k)) := by
  have := h.more hk (by omega) hx h128
  rwa [or_text a _ k (h.1 (by omega)) ⟨by omega, by omega⟩ (.inl (by omega))] at this
theorem RdAt.nine {zs : List Int} {a : Int} (h : RdAt zs 9 a) (hk : 9 < zs.length) (hx : 0 ≤ zs[9]?.getD (0 : Int) ∧ zs[9]?.getD (0 : Int) < 256) (h1 : 1 < zs[9]?.getD (0 : Int)) : rdS zs = (0, 0, 5) := by
  by_cases h128 : 128 ≤ zs[9]?.getD (0 : Int)
  · exact (h.more hk (by decide) hx h128).long rfl
  · refine h.wrong hk (by decide) h128 ?_
    unfold ends
    rw [if_pos rfl, beq_eq_false_iff_ne]
    omega
theorem RdAt.endedA {zs : List Int} {k : Nat} {a : Int} (h : RdAt zs k a) (hk : k < zs.length) (hk9 : k ≤ 9) (hx : 0 ≤ zs[k]?.getD 0) (h128 : ¬ 128 ≤ zs[k]?.getD 0) (h9 : k = 9 → zs[k]?.getD 0 ≤ 1) (he : ¬ (zs[k]?.getD 0 = 0 ∧ 0 < k)) :
    rdS zs = (a + zs[k]?.getD 0 * 2 ^ (7 * k), k + 1, 0) := by
  have hends : ends k (zs[k]?.getD 0) = true := by
    unfold ends
    split
    · rename_i h; have := h9 h; rw [beq_iff_eq]; omega
    · by_cases h0 : k = 0
      · simp [h0]
      · simp only [Bool.or_eq_true, beq_iff_eq, bne_iff_ne]; omega
  have := h.ended hk hk9 hx h128 hends
  rwa [or_text a _ k (h.1 hk9) ⟨hx, by omega⟩ (by
    by_cases h' : k = 9
    · exact .inr ⟨h', h9 h'⟩
    · exact .inl (by omega))] at this
theorem RdAt.wrongA {zs : List Int} {k : Nat} {a : Int} (h : RdAt zs k a) (hk : k < zs.length) (hk9 : k ≤ 9) (h128 : ¬ 128 ≤ zs[k]?.getD 0) (h0 : zs[k]?.getD 0 = 0) (hp : 0 < k) : rdS zs = (0, 0, 5) := by
  refine h.wrong hk hk9 h128 ?_
  unfold ends
  rw [h0]
  split
  · rfl
  · have : (k == 0) = false := by rw [beq_eq_false_iff_ne]; omega
    simp [this]

/-- What the reference's reading comes to. -/
def ReadRPost (K : Nat → Prop) (zs : List Int) (W : World) (e : Ending) (W' : World) : Prop :=
  Below W.heap.size W W' ∧ (((rdS zs).2.2 = 0 ∧ ∃ a' n c, e = .returned (gotV (rdS zs).1 (.slice none 0 0) (.slice a' n c) 0) ∧ Rd K W .u8 a' n c (zs.drop (rdS zs).2.1)) ∨
    ((rdS zs).2.2 ≠ 0 ∧ e = .returned (gotV 0 (.slice none 0 0) (.slice none 0 0) (rdS zs).2.2)))

set_option maxRecDepth 100000 in
set_option maxHeartbeats 4000000 in
theorem readR_any {K : Nat → Prop} {a : Option Addr} {len cap : Nat} {zs : List Int} (ho : Oct zs) {W : World} (hR : Rd K W .u8 a len cap zs) :
    Calls Try.prog 51 #[.slice a len cap] W (ReadRPost K zs W) := by
  have HR := Lib.hid hR
  have hfit := hR.fit
  have htop := hR.top
  have hsmall := hR.small
  have HL : Hid (len = zs.length) := hR.hl
  clear hR
  go_enter Try.func51, Try.ntmps51
  go_upto_region 1 with fail
  have hq := Quad.new W 90 (.int .u64 0) (.slice none 0 0) (.slice none 0 0) (.int .i64 0)
  have hb : Below W.heap.size W (W.alloc (.cells #[.int .u64 0, .slice none 0 0, .slice none 0 0, .int .i64 0] 90)) := (Below.refl _ _).alloc (Nat.le_refl _) _
  have HRV := Lib.hid (HR.out.below hb)
  have HB := Lib.hid hb
  obtain ⟨B, hB⟩ : ∃ B, W.heap.size = B := ⟨_, rfl⟩
  have HBE := Lib.hid hB
  rw [hB] at hq ⊢
  generalize W.alloc (.cells #[.int .u64 0, .slice none 0 0, .slice none 0 0, .int .i64 0] 90) = V at *
  obtain ⟨q0, q1, q2, q3⟩ := hq.cell
  have f0 := hq.f 0
  have f1 := hq.f 1
  have f2 := hq.f 2
  have f3 := hq.f 3
  have qlt := hq.lt
  have HBS : Hid (∀ v0 v1 v2 v3, Below W.heap.size W ((((V.setCell ⟨B, 0, none⟩ v0).setCell ⟨B, 1, none⟩ v1).setCell ⟨B, 2, none⟩ v2).setCell ⟨B, 3, none⟩ v3)) := fun v0 v1 v2 v3 =>
    have e : W.heap.size ≤ B := Nat.le_of_eq HBE.out
    (((HB.out.setCell e _).setCell e _).setCell e _).setCell e _
  clear hB hb hq HB
  go_wp2
  go_loop [3, 4] (fun u i => ∃ (k : Nat) (s : Int), k ≤ len ∧ k ≤ 9 ∧ i = .int .i64 k ∧ u = .int .u64 s ∧ Hid (RdAt zs k s)) (fun _ i => len - (intOf i).toNat)
  case atStart => exact ⟨0, 0, Nat.zero_le _, by decide, rfl, rfl, RdAt.start zs⟩
  case round =>
    obtain ⟨k, s, hk, hk9, rfl, rfl, HV⟩ := hrel
    by_cases hlt : k < len
    · obtain ⟨b, off, rfl, _, _, hcs⟩ := HRV.out.cells (by omega)
      have hcx := hcs k hlt
      have hx := ho.getD k
      have hkz : k < zs.length := by have := HL.out; omega
      clear hcs
      by_cases h91 : k = 9 ∧ 1 < zs[k]?.getD 0
      · obtain ⟨rfl, h1⟩ := h91
        have HS := Lib.hid (HV.out.nine hkz hx h1)
        obtain ⟨x, hxe⟩ : ∃ x, zs[9]?.getD 0 = x := ⟨_, rfl⟩
        rw [hxe] at hx h1 hcx
        obtain ⟨hx1, hx2⟩ := hx
        clear hxe
        go_wp2
        refine bodyPost_ret (v := gotV 0 (.slice none 0 0) (.slice none 0 0) 5) (by simp [results, Try.results51, go_sem, q0, q1, q2, q3, gotV]) rfl ⟨HBS.out _ _ _ _, .inr ?_⟩
        rw [HS.out]
        exact ⟨by decide, rfl⟩
      · have hPB := HV.out.1 hk9
        by_cases h9 : k = 9
        · subst h9
          have hx1 : zs[9]?.getD 0 = 0 ∨ zs[9]?.getD 0 = 1 := by omega
          have hsb : 0 ≤ s ∧ s < 9223372036854775808 := hPB
          obtain ⟨hs0, hs1⟩ := hsb
          clear h91 hPB
          rcases hx1 with h0 | h0
          · have HS := Lib.hid (HV.out.wrongA hkz hk9 (by omega) h0 (by decide))
            rw [h0] at hcx
            clear hx h0
            go_wp2
            refine bodyPost_ret (v := gotV 0 (.slice none 0 0) (.slice none 0 0) 5) (by simp [results, Try.results51, go_sem, q0, q1, q2, q3, gotV]) rfl ⟨HBS.out _ _ _ _, .inr ?_⟩
            rw [HS.out]
            exact ⟨by decide, rfl⟩
          · have hS := HV.out.endedA hkz hk9 hx.1 (by omega) (fun _ => by omega) (fun h => by omega)
            rw [h0] at hcx hS
            have hS2 : rdS zs = (s + 9223372036854775808, 10, 0) := hS
            have HS := Lib.hid hS2
            clear hx h0 hS hS2
            obtain ⟨a', ha'⟩ : ∃ a', (if cap = 10 then some ⟨b, off, none⟩ else some ⟨b, off + 10, none⟩ : Option Addr) = a' := ⟨_, rfl⟩
            have HT := Lib.hid (HR.out.rest 10 (by omega) (cap - 10) (by omega) (by omega) a' (fun h => by rw [← ha', if_neg (by omega)]))
            go_wp2
            refine bodyPost_ret (v := gotV (s + 9223372036854775808) (.slice none 0 0) (.slice a' (len - 10) (cap - 10)) 0) (by simp [results, Try.results51, go_sem, q0, q1, q2, q3, gotV]) rfl ⟨HBS.out _ _ _ _, .inl ?_⟩
            rw [HS.out]
            exact ⟨rfl, a', _, _, rfl, HT.out⟩
        · have hk8 : k ≤ 8 := by omega
          have hk9n : ((k : Int) == 9) = false := by rw [beq_eq_false_iff_ne]; omega
          by_cases h128 : 128 ≤ zs[k]?.getD 0
          · have hsum := shl_sum s (zs[k]?.getD 0 - 128) k hPB ⟨by omega, by omega⟩ (.inl hk8)
            have HS := Lib.hid (HV.out.moreA hkz hk8 hx h128)
            obtain ⟨x, hxe⟩ : ∃ x, zs[k]?.getD 0 = x := ⟨_, rfl⟩
            rw [hxe] at hx hcx hsum HS h128
            have hmod : x % 128 = x - 128 := by omega
            obtain ⟨hx1, hx2⟩ := hx
            obtain ⟨hsh, hsm⟩ := hsum
            have hd1 : 0 ≤ x - 128 := by omega
            clear hxe h91 h9 hPB
            go_wp2
            go_round
            case rel => exact ⟨k + 1, _, by omega, by omega, by go_num, rfl, HS⟩
            case measure => simp [intOf]; omega
          · have hsum := shl_sum s (zs[k]?.getD 0) k hPB ⟨hx.1, by omega⟩ (.inl hk8)
            by_cases h0 : zs[k]?.getD 0 = 0 ∧ 0 < k
            · have HS := Lib.hid (HV.out.wrongA hkz hk9 h128 h0.1 h0.2)
              have hk0 : (0 : Int) < (k : Int) := by omega
              rw [h0.1] at hcx
              clear hsum hx h0 h128
              go_wp2
              refine bodyPost_ret (v := gotV 0 (.slice none 0 0) (.slice none 0 0) 5) (by simp [results, Try.results51, go_sem, q0, q1, q2, q3, gotV]) rfl ⟨HBS.out _ _ _ _, .inr ?_⟩
              rw [HS.out]
              exact ⟨by decide, rfl⟩
            · have HS := Lib.hid (HV.out.endedA hkz hk9 hx.1 h128 (fun h => absurd h h9) h0)
              by_cases hx0 : zs[k]?.getD 0 = 0
              · obtain rfl : k = 0 := by omega
                rw [hx0] at hcx HS
                rw [Nat.add_zero] at hcx
                clear hk9n
                have hS2 : rdS zs = (s, 1, 0) := by
                  have h := HS.out
                  rwa [Int.zero_mul, Int.add_zero] at h
                have HS := Lib.hid hS2
                have hsb := hPB
                have hs0 : s = 0 := by have h1 := hsb.1; have h2 : s < 1 := hsb.2; omega
                subst hs0
                clear hx0 hS2 hsum hx h0 h128 hPB hsb h91 h9
                obtain ⟨a', ha'⟩ : ∃ a', (if cap = 1 then some ⟨b, off, none⟩ else some ⟨b, off + 1, none⟩ : Option Addr) = a' := ⟨_, rfl⟩
                have HT := Lib.hid (HR.out.rest 1 (by omega) (cap - 1) (by omega) (by omega) a' (fun h => by rw [← ha', if_neg (by omega)]))
                go_wp2
                refine bodyPost_ret (v := gotV 0 (.slice none 0 0) (.slice a' (len - 1) (cap - 1)) 0) (by simp [results, Try.results51, go_sem, q0, q1, q2, q3, gotV]) rfl ⟨HBS.out _ _ _ _, .inl ?_⟩
                rw [HS.out]
                exact ⟨rfl, a', _, _, rfl, HT.out⟩
              · obtain ⟨x, hxe⟩ : ∃ x, zs[k]?.getD 0 = x := ⟨_, rfl⟩
                rw [hxe] at hx hcx hsum HS h128 hx0
                have hmod : x % 128 = x := by omega
                obtain ⟨hx1, hx2⟩ := hx
                obtain ⟨hsh, hsm⟩ := hsum
                have hxb : (x == 0) = false := by rw [beq_eq_false_iff_ne]; exact hx0
                clear hxe h91 h9 hPB h0
                obtain ⟨a', ha'⟩ : ∃ a', (if cap = k + 1 then some ⟨b, off, none⟩ else some ⟨b, off + (k + 1), none⟩ : Option Addr) = a' := ⟨_, rfl⟩
                have HT := Lib.hid (HR.out.rest (k + 1) (by omega) (cap - (k + 1)) (by omega) (by omega) a' (fun h => by rw [← ha', if_neg (by omega)]))
                go_wp2
                refine bodyPost_ret (v := gotV (s + x * 2 ^ (7 * k)) (.slice none 0 0) (.slice a' (len - (k + 1)) (cap - (k + 1))) 0) (by simp [results, Try.results51, go_sem, q0, q1, q2, q3, gotV]) rfl ⟨HBS.out _ _ _ _, .inl ?_⟩
                rw [HS.out]
                exact ⟨rfl, a', _, _, rfl, HT.out⟩
    · obtain rfl : k = len := by omega
      have HS := Lib.hid (HV.out.over HL.out (by omega))
      go_wp2
      refine bodyPost_ret (v := gotV 0 (.slice none 0 0) (.slice none 0 0) 7) (by simp [results, Try.results51, go_sem, q0, q1, q2, q3, gotV]) rfl ⟨HBS.out _ _ _ _, .inr ?_⟩
      rw [HS.out]
      exact ⟨by decide, rfl⟩

end Go.Proofs.Ytdcapmbgnoahpaa
