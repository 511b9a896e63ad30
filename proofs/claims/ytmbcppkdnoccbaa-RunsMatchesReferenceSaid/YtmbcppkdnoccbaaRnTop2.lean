/-
  The reference's number out of bits. What the reference's reading back comes to, as functions on lists. The reference's reading back. The reference's decoding. What decoding gives on both sides, and their comparison; two results that a statement keeps in blocks of their own.
-/
import Derived.Test.YtmbcppkdnoccbaaPkRef5
import Derived.Test.YtmbcppkdnoccbaaPkCanMath
import Derived.Test.YtmbcppkdnoccbaaRnTop1
import Derived.Deep.DeepCutAuto
namespace Go.Proofs.Ytmbcppkdnoccbaa
open Go.RowKit Go.ChangeShapes Go.WideShapes Go.ChangeAt

theorem or_one (a : Int) (k : Nat) (ha : 0 ≤ a ∧ a < 2 ^ k) (hk : k < 64) : bits BinOp.or IntKind.u64 a (IntKind.u64.wrap (2 ^ k)) = a + 2 ^ k ∧ IntKind.u64.wrap ((2 : Int) ^ k) = 2 ^ k := by
  obtain ⟨m, rfl⟩ := Int.eq_ofNat_of_zero_le ha.1
  have hm : m < 2 ^ k := by have := ha.2; exact_mod_cast this
  have h63 : (2 : Nat) ^ k ≤ 2 ^ 63 := Nat.pow_le_pow_right (by decide) (by omega)
  have h64 : (2 : Nat) ^ 63 = 9223372036854775808 := rfl
  have e2 : ((2 : Int) ^ k) = ((2 ^ k : Nat) : Int) := by push_cast; rfl
  have e4 := Nat.shiftLeft_add_eq_or_of_lt hm 1
  rw [Nat.shiftLeft_eq, Nat.one_mul] at e4
  obtain ⟨P, hP⟩ : ∃ P : Nat, 2 ^ k = P := ⟨_, rfl⟩
  rw [hP] at hm h63 e4
  rw [e2, hP]
  have e3 : IntKind.u64.wrap ((P : Nat) : Int) = (P : Int) := by rw [IntKind.wrap_u64]; omega
  rw [e3, bits_or_u64_nat _ _ (by omega) (by omega), Nat.or_comm, ← e4]
  exact ⟨by omega, rfl⟩

set_option maxRecDepth 100000 in
set_option maxHeartbeats 4000000 in
theorem bitsR_any {K : Nat → Prop} {a : Option Addr} {len cap : Nat} {bs : List Int} (ho : Oct bs) {W : World} (hR : Rd K W .u8 a len cap bs) (at_ w : Nat) (hw : w ≤ 64) (hat : at_ + w ≤ 8 * len) :
    Calls Try.prog 82 #[.slice a len cap, .int .i64 at_, .int .i64 w] W fun e W' => e = .returned (.int .u64 (bitN bs at_ w)) ∧ W = W' := by
  have HR := Lib.hid hR
  have hfit := hR.fit
  have htop := hR.top
  have hsmall := hR.small
  have HL : Hid (len = bs.length) := hR.hl
  clear hR
  go_enter Try.func82, Try.ntmps82
  go_wp2
  go_loop [7, 8] (fun d i => ∃ k : Nat, k ≤ w ∧ i = .int .i64 k ∧ d = .int .u64 (bitN bs at_ k)) (fun _ i => w - (intOf i).toNat)
  case atStart => exact ⟨0, Nat.zero_le _, rfl, by rw [bitN_zero]⟩
  case round =>
    obtain ⟨k, hk, rfl, rfl⟩ := hrel
    by_cases hlt : k < w
    · have hkI : (k : Int) < (w : Int) := by omega
      obtain ⟨b, off, rfl, _, _, hcs⟩ := HR.out.cells (by omega)
      have hj : (at_ + k) / 8 < len := by omega
      have hcx := hcs _ hj
      have hx := ho.getD ((at_ + k) / 8)
      have hsc := bitN_succ bs at_ k (by have := HL.out; omega)
      have hrg := bitN_range (bs := bs) at_ k
      have hand := and1_u8 _ ((at_ + k) % 8) hx
      obtain ⟨hor, hwr⟩ := or_one _ k hrg (by omega)
      have hb01 : bs[(at_ + k) / 8]?.getD 0 / 2 ^ ((at_ + k) % 8) % 2 = 0 ∨ bs[(at_ + k) / 8]?.getD 0 / 2 ^ ((at_ + k) % 8) % 2 = 1 := by omega
      obtain ⟨x, hxe⟩ : ∃ x, bs[(at_ + k) / 8]?.getD 0 = x := ⟨_, rfl⟩
      rw [hxe] at hcx hx hsc hand hb01
      obtain ⟨p, hp⟩ : ∃ p, at_ + k = p := ⟨_, rfl⟩
      have hpI : (at_ : Int) + (k : Int) = (p : Int) := by omega
      rw [hp] at hcx hsc hand hb01 hj
      have hd8 : (p : Int) / 8 = ((p / 8 : Nat) : Int) := by omega
      have hm8 : (p : Int) % 8 = ((p % 8 : Nat) : Int) := by omega
      have hm8' : p % 8 < 8 := Nat.mod_lt _ (by decide)
      obtain ⟨p8, hp8e⟩ : ∃ z, p / 8 = z := ⟨_, rfl⟩
      obtain ⟨pm, hpme⟩ : ∃ z, p % 8 = z := ⟨_, rfl⟩
      rw [hp8e] at hd8 hcx hj
      rw [hpme] at hm8 hm8' hand hb01 hsc
      obtain ⟨hx1, hx2⟩ := hx
      obtain ⟨d, hd⟩ : ∃ d, bitN bs at_ k = d := ⟨_, rfl⟩
      rw [hd] at hsc hrg hor ⊢
      obtain ⟨hr1, hr2⟩ := hrg
      have hpb : p ≤ 8 * 140737488351232 := by omega
      rcases hb01 with hb | hb
      · rw [hb] at hsc hand
        rw [Int.zero_mul, Int.add_zero] at hsc
        have HSC := Lib.hid hsc
        clear hsc hb hcs hxe hp hp8e hpme hd
        go_wp2
        go_round
        case rel => exact ⟨k + 1, by omega, by go_num, by rw [HSC.out]⟩
        case measure => simp [intOf]; omega
      · rw [hb] at hsc hand
        rw [Int.one_mul] at hsc
        have HSC := Lib.hid hsc
        clear hsc hb hcs hxe hp hp8e hpme hd
        rw [hwr] at hor
        go_wp2
        go_round
        case rel => exact ⟨k + 1, by omega, by go_num, by rw [HSC.out]⟩
        case measure => simp [intOf]; omega
    · obtain rfl : k = w := by omega
      have hkI : ¬ (k : Int) < (k : Int) := by omega
      go_wp2
      go_ret
      exact ⟨rfl, rfl⟩

end Go.Proofs.Ytmbcppkdnoccbaa

namespace Go.Proofs.Ytmbcppkdnoccbaa
open Go.RowKit

theorem allBits_take (bs : List Int) (s : Nat) (hs : s ≤ bs.length) : allBits 8 (bs.take s) = (allBits 8 bs).take (8 * s) := by
  have h : allBits 8 bs = allBits 8 (bs.take s) ++ allBits 8 (bs.drop s) := by
    unfold allBits
    rw [← List.flatMap_append, List.take_append_drop]
  rw [h, List.take_left' (by rw [allBits_length, List.length_take]; omega)]

theorem up_at (b : Int) (wd n : Nat) (bs : List Int) (hs : (n * wd + 7) / 8 ≤ bs.length) (i : Nat) (hi : i < n) : (upList b wd n bs)[i]?.getD 0 = wrap64 (b + bitN bs (i * wd) wd) := by
  have hle : i * wd + wd ≤ n * wd := by
    have : (i + 1) * wd ≤ n * wd := Nat.mul_le_mul hi (Nat.le_refl _)
    rw [Nat.succ_mul] at this
    exact this
  unfold upList
  rw [elB_at _ _ _ _ _ _ hi]
  unfold elV bitN upBits
  have hlen : (allBits 8 (bs.take ((n * wd + 7) / 8))).length = (n * wd + 7) / 8 * 8 := by rw [allBits_length, List.length_take]; omega
  rw [hlen, Nat.mul_comm wd i, show min wd ((n * wd + 7) / 8 * 8 - i * wd) = wd by omega, allBits_take _ _ hs, List.drop_take, List.take_take, show min wd (8 * ((n * wd + 7) / 8) - i * wd) = wd by omega]

theorem up_len (b : Int) (wd n : Nat) (bs : List Int) : (upList b wd n bs).length = n := by unfold upList; exact elB_length ..
theorem up_small (b : Int) (wd n : Nat) (bs : List Int) : Smalls (upList b wd n bs) := by
  intro x hx
  unfold upList elB at hx
  obtain ⟨e, _, rfl⟩ := List.mem_map.1 hx
  unfold elV I64 wrap64
  omega

/-- The head of what is read back: how many, the base, the width. -/
structure HdS (bs : List Int) (n : Nat) (b : Int) (wd c1 c2 : Nat) : Prop where
  rd : rdS bs = ((n : Int), c1, 0)
  pos : 1 ≤ n
  le : n ≤ 4096
  fr : frS (bs.drop c1) = ((b, (wd : Int)), c2, 0)

theorem HdS.un {bs : List Int} {n : Nat} {b : Int} {wd c1 c2 : Nat} (h : HdS bs n b wd c1 c2) :
    unS bs = if (upS b wd n ((bs.drop c1).drop c2)).2.2 ≠ 0 then ([], 0, (upS b wd n ((bs.drop c1).drop c2)).2.2) else ((upS b wd n ((bs.drop c1).drop c2)).1, c1 + (c2 + (upS b wd n ((bs.drop c1).drop c2)).2.1), 0) := by
  have h1 := h.pos
  have h2 := h.le
  unfold unS
  rw [h.rd]
  simp only []
  rw [if_neg (by simp), if_neg (by omega), if_neg (by omega), h.fr]
  simp only [Int.toNat_natCast]
  rw [if_neg (by simp)]
theorem HdS.short {bs : List Int} {n : Nat} {b : Int} {wd c1 c2 : Nat} (h : HdS bs n b wd c1 c2) (hs : ((bs.drop c1).drop c2).length < (n * wd + 7) / 8) : (unS bs).2.2 = 7 := by
  rw [h.un]
  have : upS b wd n ((bs.drop c1).drop c2) = ([], 0, 7) := by unfold upS; rw [if_pos hs]
  rw [this]; rfl
theorem HdS.wrong {bs : List Int} {n : Nat} {b : Int} {wd c1 c2 : Nat} (h : HdS bs n b wd c1 c2) (hs : (n * wd + 7) / 8 ≤ ((bs.drop c1).drop c2).length) (ho : upOk b wd n ((bs.drop c1).drop c2) = false) : (unS bs).2.2 = 5 := by
  rw [h.un]
  have : upS b wd n ((bs.drop c1).drop c2) = ([], 0, 5) := by unfold upS; rw [if_neg (by omega), ho]; rfl
  rw [this]; rfl
theorem HdS.low {bs : List Int} {n : Nat} {b : Int} {wd c1 c2 : Nat} (h : HdS bs n b wd c1 c2) (hs : (n * wd + 7) / 8 ≤ ((bs.drop c1).drop c2).length) (i : Nat) (hi : i < n) (hlo : wrap64 (b + bitN ((bs.drop c1).drop c2) (i * wd) wd) < b) : (unS bs).2.2 = 5 := by
  refine h.wrong hs ?_
  have h1 := up_at b wd n _ hs i hi
  have hil : i < (upList b wd n ((bs.drop c1).drop c2)).length := by rw [up_len]; exact hi
  rw [List.getElem?_eq_getElem hil, Option.getD_some] at h1
  have h2 := min_le _ _ (List.getElem_mem hil)
  rw [h1] at h2
  unfold upOk
  have : (minS (upList b wd n ((bs.drop c1).drop c2)) == b) = false := by rw [beq_eq_false_iff_ne]; omega
  rw [this]; simp
theorem HdS.good {bs : List Int} {n : Nat} {b : Int} {wd c1 c2 : Nat} (h : HdS bs n b wd c1 c2) (hs : (n * wd + 7) / 8 ≤ ((bs.drop c1).drop c2).length)
    (he : packS (upList b wd n ((bs.drop c1).drop c2)) = bs.take (c1 + c2 + (n * wd + 7) / 8)) : unS bs = (upList b wd n ((bs.drop c1).drop c2), c1 + c2 + (n * wd + 7) / 8, 0) := by
  have hl : (packS (upList b wd n ((bs.drop c1).drop c2))).length = c1 + c2 + (n * wd + 7) / 8 := by
    rw [he, List.length_take]
    simp only [List.length_drop] at hs
    have := h.rd
    have hp := h.pos
    by_cases hz : (n * wd + 7) / 8 = 0
    · have hf := h.fr
      unfold frS at hf
      split at hf
      · rename_i hne; simp only [Prod.mk.injEq] at hf; exact absurd hf.2.2 hne
      · split at hf
        · simp at hf
        · split at hf
          · simp at hf
          · rename_i _ h3 _
            simp only [Prod.mk.injEq] at hf
            obtain ⟨_, h4, _⟩ := hf
            simp only [List.length_drop] at h3
            omega
    · omega
  have hb : bs = packS (upList b wd n ((bs.drop c1).drop c2)) ++ bs.drop (c1 + c2 + (n * wd + 7) / 8) := by
    rw [he]; exact (List.take_append_drop _ _).symm
  have h2 := un_pack (up_small b wd n ((bs.drop c1).drop c2)) (by rw [up_len]; exact h.le) (bs.drop (c1 + c2 + (n * wd + 7) / 8))
  rw [← hb, hl] at h2
  exact h2
theorem HdS.bad {bs : List Int} (ho : Oct bs) {n : Nat} {b : Int} {wd c1 c2 : Nat} (h : HdS bs n b wd c1 c2) (hs : (n * wd + 7) / 8 ≤ ((bs.drop c1).drop c2).length)
    (he : packS (upList b wd n ((bs.drop c1).drop c2)) ≠ bs.take (c1 + c2 + (n * wd + 7) / 8)) : (unS bs).2.2 = 5 := by
  cases hk : upOk b wd n ((bs.drop c1).drop c2) with
  | false => exact h.wrong hs hk
  | true =>
    exfalso
    have hu : upS b wd n ((bs.drop c1).drop c2) = (upList b wd n ((bs.drop c1).drop c2), (n * wd + 7) / 8, 0) := by unfold upS; rw [if_neg (by omega), hk]; rfl
    have hx := h.un
    rw [hu] at hx
    simp only [ne_eq, not_true_eq_false, if_false] at hx
    obtain ⟨_, h2, h3⟩ := un_canon ho hx
    refine he ?_
    have h4 : c1 + c2 + (n * wd + 7) / 8 = c1 + (c2 + (n * wd + 7) / 8) := by omega
    rw [h4]
    conv => rhs; rw [h3]
    rw [List.take_left' h2.symm]

end Go.Proofs.Ytmbcppkdnoccbaa

namespace Go.Proofs.Ytmbcppkdnoccbaa
open Go.RowKit Go.ChangeShapes Go.WideShapes Go.ChangeAt

theorem Try.infoN4 : (Try.prog.info? 3).map (fun i => (i.zero, i.size, i.bytes)) = some (some (.int .i64 0), 1, 8) := by kernel_rfl

/-- What the reference's reading back comes to. -/
def UnRPost (K : Nat → Prop) (bs : List Int) (W : World) (e : Ending) (W' : World) : Prop :=
  Below W.heap.size W W' ∧ (((unS bs).2.2 = 0 ∧ ∃ a1 n1 c1 a2 n2 c2, e = .returned (gotV 0 (.slice a1 n1 c1) (.slice a2 n2 c2) 0) ∧ Rd (fun b => W.heap.size ≤ b) W' .i64 a1 n1 c1 (unS bs).1 ∧ Rd K W .u8 a2 n2 c2 (bs.drop (unS bs).2.1)) ∨
    ((unS bs).2.2 ≠ 0 ∧ e = .returned (gotV 0 (.slice none 0 0) (.slice none 0 0) (unS bs).2.2)))
theorem UnRPost.bad {K : Nat → Prop} {bs : List Int} {W W' : World} {e : Ending} {x : Int} (hb : Below W.heap.size W W') (h : (unS bs).2.2 = x) (hx : x ≠ 0) (he : e = .returned (gotV 0 (.slice none 0 0) (.slice none 0 0) x)) : UnRPost K bs W e W' :=
  ⟨hb, .inr ⟨by rw [h]; exact hx, by rw [h]; exact he⟩⟩
theorem below_four {W V : World} (h : Below W.heap.size W V) (R : Nat) (hR : W.heap.size ≤ R) (a b c d : Value) : Below W.heap.size W ((((V.setCell ⟨R, 0, none⟩ a).setCell ⟨R, 1, none⟩ b).setCell ⟨R, 2, none⟩ c).setCell ⟨R, 3, none⟩ d) :=
  (((h.setCell hR _).setCell hR _).setCell hR _).setCell hR _

/-- The first of a slice that reads. -/
theorem Rd.upto {K : Nat → Prop} {W : World} {k : IntKind} {a : Option Addr} {len cap : Nat} {zs : List Int} (h : Rd K W k a len cap zs) (m : Nat) (hm : m ≤ len) : Rd K W k a m cap (zs.take m) := by
  refine ⟨by rw [List.length_take, ← h.hl]; omega, Nat.le_trans hm h.fit, h.top, Nat.le_trans hm h.small, fun h0 => ?_⟩
  obtain ⟨b, off, e, hb, hlt, hc⟩ := h.cells (by omega)
  exact ⟨b, off, e, hb, hlt, fun j hj => by rw [hc j (by omega), List.getElem?_take_of_lt hj]⟩

theorem un_rd {bs : List Int} {x : Int} (h : (rdS bs).2.2 = x) (hx : x ≠ 0) : (unS bs).2.2 = x := by unfold unS; rw [if_pos (by rw [h]; exact hx)]; exact h
theorem un_big {bs : List Int} (h : (rdS bs).2.2 = 0) (hb : 4096 < (rdS bs).1) : (unS bs).2.2 = 5 := by unfold unS; rw [if_neg (by simp [h]), if_pos hb]
theorem un_none {bs : List Int} (h : (rdS bs).2.2 = 0) (hb : (rdS bs).1 = 0) : unS bs = ([], (rdS bs).2.1, 0) := by unfold unS; rw [if_neg (by simp [h]), if_neg (by omega), if_pos hb]
theorem un_fr {bs : List Int} (h : (rdS bs).2.2 = 0) (hb : ¬ 4096 < (rdS bs).1) (h0 : (rdS bs).1 ≠ 0) {x : Int} (hf : (frS (bs.drop (rdS bs).2.1)).2.2 = x) (hx : x ≠ 0) : (unS bs).2.2 = x := by
  unfold unS; rw [if_neg (by simp [h]), if_neg hb, if_neg h0, if_pos (by rw [hf]; exact hx)]; exact hf

set_option maxRecDepth 100000 in
set_option maxHeartbeats 3000000 in
theorem unpackR_any {K : Nat → Prop} {a : Option Addr} {len cap : Nat} {bs : List Int} (ho : Oct bs) {W : World} (hR : Rd K W .u8 a len cap bs) :
    Calls Try.prog 58 #[.slice a len cap] W (UnRPost K bs W) := by
  obtain ⟨i0, hi, hz0, hz1, hz2⟩ := info_parts Try.infoN4
  have HR := Lib.hid (hR.mono (K' := fun b => K b ∧ b < W.heap.size) (fun b hlt hk => ⟨hk, hlt⟩))
  have hfit := hR.fit
  have htop := hR.top
  have hsmall := hR.small
  have HL : Hid (len = bs.length) := hR.hl
  clear hR
  go_enter Try.func58, Try.ntmps58
  go_upto_region 1 with fail
  have hq := Quad.new W 94 (.int .u64 0) (.slice none 0 0) (.slice none 0 0) (.int .i64 0)
  have hb : Below W.heap.size W (W.alloc (.cells #[.int .u64 0, .slice none 0 0, .slice none 0 0, .int .i64 0] 94)) := (Below.refl _ _).alloc (Nat.le_refl _) _
  have HRV := Lib.hid (HR.out.below hb)
  have HB := Lib.hid hb
  obtain ⟨R, hRe⟩ : ∃ B, W.heap.size = B := ⟨_, rfl⟩
  have HRE : Hid (W.heap.size ≤ R) := Nat.le_of_eq hRe
  rw [hRe] at hq ⊢
  have HQ := Lib.hid hq
  clear hRe hb hq
  generalize W.alloc (.cells #[.int .u64 0, .slice none 0 0, .slice none 0 0, .int .i64 0] 94) = V at *
  go_wp2_with fail
  refine (readR_any ho HRV.out).mono ?_
  rintro e w1 ⟨hb1, hp1⟩
  have HB1 : Hid (Below W.heap.size W w1) := HB.out.trans (hb1.mono HB.out.size)
  have HQ1 := Lib.hid (HQ.out.below hb1 HQ.out.lt)
  rcases hp1 with ⟨hrd, a3, n3, c3, rfl, hr3⟩ | ⟨hx, rfl⟩
  · have HR3 := Lib.hid (hr3.below hb1)
    have HRD := Lib.hid hrd
    have hub := rdS_u64 ho
    obtain ⟨u, hu⟩ := Int.eq_ofNat_of_zero_le hub.1
    have hun : u < 18446744073709551616 := by have := hub.2; rw [hu] at this; omega
    have HU := Lib.hid hu
    rw [hu]
    clear hb1 hr3 hrd hub hu HB HQ HRV
    simp only [gotV]
    go_upto_region 2 with fail
    have hbA : Below w1.heap.size w1 (w1.alloc (.cells #[.int .u64 u, .slice none 0 0, .slice a3 n3 c3, .int .i64 0] 94)) := (Below.refl _ _).alloc (Nat.le_refl _) _
    have HA := Lib.hid (Quad.new w1 94 (.int .u64 u) (.slice none 0 0) (.slice a3 n3 c3) (.int .i64 0))
    have HR3 := Lib.hid (HR3.out.below hbA)
    have HQ2 := Lib.hid (HQ1.out.below hbA HQ1.out.lt)
    have HB2 : Hid (Below W.heap.size W (w1.alloc (.cells #[.int .u64 u, .slice none 0 0, .slice a3 n3 c3, .int .i64 0] 94))) := HB1.out.trans (hbA.mono HB1.out.size)
    obtain ⟨A, hA⟩ : ∃ B, w1.heap.size = B := ⟨_, rfl⟩
    rw [hA] at HA ⊢
    clear hbA hA HB1 HQ1
    generalize w1.alloc (.cells #[.int .u64 u, .slice none 0 0, .slice a3 n3 c3, .int .i64 0] 94) = V2 at *
    obtain ⟨r0, r1, r2, r3⟩ := HA.out.cell
    obtain ⟨q0, q1, q2, q3⟩ := HQ2.out.cell
    have f0 := HQ2.out.f 0
    have f1 := HQ2.out.f 1
    have f2 := HQ2.out.f 2
    have f3 := HQ2.out.f 3
    have qlt := HQ2.out.lt
    by_cases hbig : 4096 < u
    · have HUN := Lib.hid (un_big HRD.out (by rw [HU.out]; omega))
      have hbI : (4096 : Int) < (u : Int) := by omega
      go_wp2
      refine bodyPost_ret (v := gotV 0 (.slice none 0 0) (.slice none 0 0) 5) (by simp [results, Try.results58, go_sem, q0, q1, q2, q3, gotV]) rfl (UnRPost.bad (below_four HB2.out R HRE.out _ _ _ _) HUN.out (by decide) rfl)
    · have hbI : ¬ (4096 : Int) < (u : Int) := by omega
      by_cases h0 : u = 0
      · have HUN := Lib.hid (un_none HRD.out (by rw [HU.out, h0]; rfl))
        have hR3' := HR3.out.back HB2.out
        subst h0
        go_wp2
        refine bodyPost_ret (v := gotV 0 (.slice none 0 0) (.slice a3 n3 c3) 0) (by simp [results, Try.results58, go_sem, q0, q1, q2, q3, gotV]) rfl ⟨below_four HB2.out R HRE.out _ _ _ _, .inl ?_⟩
        rw [HUN.out]
        exact ⟨rfl, none, 0, 0, a3, n3, c3, rfl, Rd.empty, hR3'⟩
      · have h0I : ((u : Int) == 0) = false := by rw [beq_eq_false_iff_ne]; omega
        clear q0 q1 q2 q3 f0 f1 f2 f3 qlt
        go_wp2_with fail
        clear r0 r1 r2 r3
        obtain ⟨k1, hk1⟩ : ∃ c, (rdS bs).2.1 = c := ⟨_, rfl⟩
        have HK1 := Lib.hid hk1
        rw [hk1] at HR3
        clear hk1
        have ho2 := ho.drop k1
        refine (readR_any ho2 HR3.out).mono ?_
        rintro e w5 ⟨hb5, hp5⟩
        have HB5 : Hid (Below W.heap.size W w5) := HB2.out.trans (hb5.mono HB2.out.size)
        have HQ5 := Lib.hid (HQ2.out.below hb5 HQ2.out.lt)
        have HA5 := Lib.hid (HA.out.below hb5 HA.out.lt)
        rcases hp5 with ⟨hrd5, a4, n4, c4, rfl, hr4⟩ | ⟨hx, rfl⟩
        · have HR4 := Lib.hid (hr4.below hb5)
          have HRD5 := Lib.hid hrd5
          have hub := rdS_u64 ho2
          obtain ⟨u2, hu2⟩ := Int.eq_ofNat_of_zero_le hub.1
          have hu2n : u2 < 18446744073709551616 := by have := hub.2; rw [hu2] at this; omega
          have HU2 := Lib.hid hu2
          obtain ⟨k2, hk2⟩ : ∃ c, (rdS (bs.drop k1)).2.1 = c := ⟨_, rfl⟩
          have HK2 := Lib.hid hk2
          rw [hk2] at HR4
          rw [hu2]
          clear hb5 hr4 hrd5 hub hu2 hk2 HB2 HQ2 HA HR3
          simp only [gotV]
          go_upto_region 9 with fail
          have hbA : Below w5.heap.size w5 (w5.alloc (.cells #[.int .u64 u2, .slice none 0 0, .slice a4 n4 c4, .int .i64 0] 94)) := (Below.refl _ _).alloc (Nat.le_refl _) _
          have HC := Lib.hid (Quad.new w5 94 (.int .u64 u2) (.slice none 0 0) (.slice a4 n4 c4) (.int .i64 0))
          have HR4 := Lib.hid (HR4.out.below hbA)
          have HQ6 := Lib.hid (HQ5.out.below hbA HQ5.out.lt)
          have HA6 := Lib.hid (HA5.out.below hbA HA5.out.lt)
          have HB6 : Hid (Below W.heap.size W (w5.alloc (.cells #[.int .u64 u2, .slice none 0 0, .slice a4 n4 c4, .int .i64 0] 94))) := HB5.out.trans (hbA.mono HB5.out.size)
          obtain ⟨C, hC⟩ : ∃ B, w5.heap.size = B := ⟨_, rfl⟩
          rw [hC] at HC ⊢
          clear hbA hC HB5 HQ5 HA5
          generalize w5.alloc (.cells #[.int .u64 u2, .slice none 0 0, .slice a4 n4 c4, .int .i64 0] 94) = V6 at *
          obtain ⟨r0, r1, r2, r3⟩ := HC.out.cell
          obtain ⟨q0, q1, q2, q3⟩ := HQ6.out.cell
          have f0 := HQ6.out.f 0
          have f1 := HQ6.out.f 1
          have f2 := HQ6.out.f 2
          have f3 := HQ6.out.f 3
          have qlt := HQ6.out.lt
          have ha0 := HA6.out.cell.1
          have hn4l := HR4.out.hl
          rw [List.length_drop] at hn4l
          by_cases hn4 : n4 = 0
          · have HFR : Hid ((frS (bs.drop k1)).2.2 = 7) := by
              show _ = _
              unfold frS
              rw [if_neg (by simp [HRD5.out]), if_pos (by rw [HK2.out]; omega)]
            have HUN := Lib.hid (un_fr (x := 7) HRD.out (by rw [HU.out]; omega) (by rw [HU.out]; omega) (by rw [HK1.out]; exact HFR.out) (by decide))
            subst hn4
            clear hn4l
            go_wp2
            refine bodyPost_ret (v := gotV 0 (.slice none 0 0) (.slice none 0 0) 7) (by simp [results, Try.results58, go_sem, q0, q1, q2, q3, gotV]) rfl (UnRPost.bad (below_four HB6.out R HRE.out _ _ _ _) HUN.out (by decide) rfl)
          · have hn4I : ((n4 : Int) == 0) = false := by rw [beq_eq_false_iff_ne]; omega
            have hn4J : (1 : Int) ≤ (n4 : Int) := by omega
            obtain ⟨b4, off4, rfl, _, _, hc4⟩ := HR4.out.cells (by omega)
            have hc0 := hc4 0 (by omega)
            have hx0 := (ho2.drop k2).getD 0
            have e0 : ((bs.drop k1).drop k2)[0]?.getD 0 = (bs.drop k1)[k2]?.getD 0 := by rw [List.getElem?_drop, Nat.add_zero]
            rw [Nat.add_zero] at hc0
            rw [e0] at hc0 hx0
            obtain ⟨wd, hwd⟩ := Int.eq_ofNat_of_zero_le hx0.1
            rw [hwd] at hc0 hx0
            have hwb : wd < 256 := by have := hx0.2; omega
            have HWD := Lib.hid hwd
            have hww : IntKind.i64.wrap (wd : Int) = wd := by rw [IntKind.wrap_i64]; omega
            have hk2l : ¬ (bs.drop k1).length ≤ k2 := by omega
            clear hc4 hx0 e0 hwd
            by_cases hw64 : 64 < wd
            · have HFR : Hid ((frS (bs.drop k1)).2.2 = 5) := by
                show _ = _
                unfold frS
                rw [if_neg (by simp [HRD5.out]), if_neg (by rw [HK2.out]; exact hk2l), HK2.out, HWD.out, if_pos (by omega)]
              have HUN := Lib.hid (un_fr (x := 5) HRD.out (by rw [HU.out]; omega) (by rw [HU.out]; omega) (by rw [HK1.out]; exact HFR.out) (by decide))
              have hwI : (64 : Int) < (wd : Int) := by omega
              clear hn4l
              go_wp2
              refine bodyPost_ret (v := gotV 0 (.slice none 0 0) (.slice none 0 0) 5) (by simp [results, Try.results58, go_sem, q0, q1, q2, q3, gotV]) rfl (UnRPost.bad (below_four HB6.out R HRE.out _ _ _ _) HUN.out (by decide) rfl)
            · have hwI : ¬ (64 : Int) < (wd : Int) := by omega
              have hfs : frS (bs.drop k1) = ((uz u2, (wd : Int)), k2 + 1, 0) := by
                unfold frS
                rw [if_neg (by simp [HRD5.out]), if_neg (by rw [HK2.out]; exact hk2l), HK2.out, HWD.out, if_neg (by omega), HU2.out]
              have hrs : rdS bs = ((u : Int), k1, 0) := by rw [← HU.out, ← HK1.out, ← HRD.out]
              have HH : Hid (HdS bs u (uz u2) wd k1 (k2 + 1)) := ⟨hrs, by omega, by omega, hfs⟩
              obtain ⟨T, hT⟩ : ∃ T : Nat, u * wd = T := ⟨_, rfl⟩
              have hTI : (u : Int) * (wd : Int) = (T : Int) := by rw [← hT, Int.natCast_mul]
              have hTb : T ≤ 262144 := by rw [← hT]; exact Nat.mul_le_mul (show u ≤ 4096 by omega) (show wd ≤ 64 by omega)
              obtain ⟨size, hsz⟩ : ∃ z, (T + 7) / 8 = z := ⟨_, rfl⟩
              have hszI : ((T : Int) + 7) / 8 = (size : Int) := by omega
              have hszb : size ≤ 32769 := by omega
              have HSZ : Hid ((u * wd + 7) / 8 = size) := by show _ = _; rw [hT, hsz]
              have HTT := Lib.hid hT
              have hwu : IntKind.i64.wrap (u : Int) = u := by rw [IntKind.wrap_i64]; omega
              obtain ⟨off6, he6⟩ : ∃ o, (if c4 = 1 then some ⟨b4, off4, none⟩ else some ⟨b4, off4 + 1, none⟩ : Option Addr) = some ⟨b4, o, none⟩ := by split; exact ⟨_, rfl⟩; exact ⟨_, rfl⟩
              have hf4 := HR4.out.fit
              have hbod := HR4.out.rest 1 (by omega) (c4 - 1) (by omega) (by omega) (some ⟨b4, off6, none⟩) (fun h => by rw [← he6, if_neg (by omega)])
              rw [List.drop_drop] at hbod
              have HBODY := Lib.hid hbod
              have HBL : Hid (n4 - 1 = ((bs.drop k1).drop (k2 + 1)).length) := hbod.hl
              have HN4 := Lib.hid hn4l
              clear hfs hrs hT hsz hbod hn4l hk2l
              by_cases hsh : n4 - 1 < size
              · have HUN := Lib.hid (HH.out.short (by rw [HSZ.out, ← HBL.out]; exact hsh))
                have hshI : (n4 : Int) - 1 < (size : Int) := by omega
                have hshN : ((n4 - 1 : Nat) : Int) < (size : Int) := by omega
                go_wp2
                refine bodyPost_ret (v := gotV 0 (.slice none 0 0) (.slice none 0 0) 7) (by simp [results, Try.results58, go_sem, q0, q1, q2, q3, gotV]) rfl (UnRPost.bad (below_four HB6.out R HRE.out _ _ _ _) HUN.out (by decide) rfl)
              · have hshN : ¬ ((n4 - 1 : Nat) : Int) < (size : Int) := by omega
                go_wp2_with fail
                refine (unzigzagR_any u2 ⟨by omega, by omega⟩ V6).mono ?_
                have hlowI := uz_i64 (u := (u2 : Int)) ⟨by omega, by omega⟩
                obtain ⟨low, hlow⟩ : ∃ l, uz (u2 : Int) = l := ⟨_, rfl⟩
                rw [hlow] at HH hlowI ⊢
                rintro e V6' ⟨rfl, rfl⟩
                have HLI := Lib.hid hlowI
                obtain ⟨body, hbody⟩ : ∃ l, (bs.drop k1).drop (k2 + 1) = l := ⟨_, rfl⟩
                have HBD := Lib.hid hbody
                rw [hbody] at HBODY HBL
                have HOB : Hid (Oct body) := by rw [← hbody]; exact ho2.drop (k2 + 1)
                obtain ⟨upL, hupL⟩ : ∃ l, upList low wd u body = l := ⟨_, rfl⟩
                have HUP := Lib.hid hupL
                have HUL : Hid (upL.length = u) := by rw [← hupL]; exact up_len ..
                have HUS : Hid (Smalls upL) := by
                  show Smalls upL
                  rw [← hupL]
                  exact up_small low wd u body
                have hrow0 := World.ownsRow_made V6 (base := V6.heap.size) (e := 3) (size := 1) #[] 0 (Nat.le_refl _) (by decide) rfl
                have HROW := Lib.hid hrow0
                have HBN : Hid (Below V6.heap.size V6 (V6.alloc (.cells #[] 3))) := (Below.refl _ _).alloc (Nat.le_refl _) _
                clear hlow hbody hupL hrow0 hlowI q0 q1 q2 q3 f0 f1 f2 f3 qlt r0 r1 r2 r3 ha0 hc0
                go_wp2
                go_loopw [9, 10] (fun s9 i wr => ∃ j g c : Nat, j ≤ u ∧ i = .int .i64 j ∧ s9 = .slice (some ⟨g, 0, none⟩) j c ∧ Hid (wr.ownsRow V6.heap.size 3 1 (.slice (some ⟨g, 0, none⟩) j c) j ((upL.take j).map (Value.int .i64))) ∧ Hid (Below V6.heap.size V6 wr)) (fun _ i _ => u - (intOf i).toNat)
                case atStart => exact ⟨0, V6.heap.size, 0, Nat.zero_le _, rfl, rfl, HROW, HBN⟩
                case round =>
                  obtain ⟨j, g, c, hj, rfl, rfl, HRW, HBW⟩ := hrel
                  have ha0 := (HA6.out.below HBW.out HA6.out.lt).cell.1
                  by_cases hlt : j < u
                  · have hltI : (j : Int) < (u : Int) := by omega
                    obtain ⟨jw, hjw⟩ : ∃ q : Nat, j * wd = q := ⟨_, rfl⟩
                    have hjwI : (j : Int) * (wd : Int) = (jw : Int) := by rw [← hjw, Int.natCast_mul]
                    have hjwT : jw + wd ≤ T := by
                      have : (j + 1) * wd ≤ u * wd := Nat.mul_le_mul (by omega) (Nat.le_refl _)
                      rw [Nat.succ_mul, HTT.out, hjw] at this
                      exact this
                    have hat := up_at low wd u body (by rw [HSZ.out, ← HBL.out]; omega) j hlt
                    rw [hjw, HUP.out] at hat
                    have hlowC := HH.out.low (by rw [HSZ.out, HBD.out, ← HBL.out]; omega) j hlt
                    rw [HBD.out, hjw] at hlowC
                    have hbr := bitN_range (bs := body) jw wd
                    have HBT : Hid (∀ V, Rd (fun b => K b ∧ b < W.heap.size) V .u8 (some ⟨b4, off6, none⟩) (n4 - 1) (c4 - 1) body → Calls Try.prog 82 #[.slice (some ⟨b4, off6, none⟩) (n4 - 1) (c4 - 1), .int .i64 jw, .int .i64 wd] V fun e W' => e = .returned (.int .u64 (bitN body jw wd)) ∧ V = W') := fun V h => bitsR_any HOB.out h jw wd (by omega) (by omega)
                    have hcv : IntKind.i64.wrap (IntKind.u64.wrap (IntKind.u64.wrap low + bitN body jw wd)) = wrap64 (low + bitN body jw wd) := by rw [IntKind.wrap_i64, IntKind.wrap_u64, IntKind.wrap_u64]; unfold wrap64; omega
                    have hcv2 : wrap64 (IntKind.u64.wrap (IntKind.u64.wrap low + bitN body jw wd)) = wrap64 (low + bitN body jw wd) := by rw [IntKind.wrap_u64, IntKind.wrap_u64]; unfold wrap64; omega
                    obtain ⟨v, hv⟩ : ∃ v, wrap64 (low + bitN body jw wd) = v := ⟨_, rfl⟩
                    rw [hv] at hat hlowC hcv hcv2
                    have HAT := Lib.hid hat
                    have HLC := Lib.hid hlowC
                    generalize bitN body jw wd = bv at *
                    clear hat hlowC hbr hv hjw
                    go_wp2_with fail
                    refine (HBT.out _ (HBODY.out.below HBW.out)).mono ?_
                    rintro e wr' ⟨rfl, rfl⟩
                    by_cases hvl : v < low
                    · have HUN := Lib.hid (HLC.out hvl)
                      have hqq := HQ6.out.below HBW.out HQ6.out.lt
                      obtain ⟨q0, q1, q2, q3⟩ := hqq.cell
                      have f0 := hqq.f 0
                      have f1 := hqq.f 1
                      have f2 := hqq.f 2
                      have f3 := hqq.f 3
                      have qlt := hqq.lt
                      have HBZ : Hid (Below W.heap.size W wr) := HB6.out.trans (HBW.out.mono HB6.out.size)
                      clear hqq
                      go_wp2
                      refine bodyPost_ret (v := gotV 0 (.slice none 0 0) (.slice none 0 0) 5) (by simp [results, Try.results58, go_sem, q0, q1, q2, q3, gotV]) rfl (UnRPost.bad (below_four HBZ.out R HRE.out _ _ _ _) HUN.out (by decide) rfl)
                    · obtain ⟨g5, c5, w8, hr8, hrow8, hg8, _, _⟩ := run_append_one (P := Try.prog) wr V6.heap.size 22 22 3 i0 _ 8 .i64 Try.underlying22 hi hz0 hz1 hz2 rfl g j c _ HRW.out v 3 (by unfold maxLen; omega) (by omega) HBW.out.size
                      have HB8 : Hid (Below V6.heap.size V6 w8) := (HBW.out.alloc HBW.out.size _).grown hg8 (HBW.out.alloc HBW.out.size _).size (fun r e => by cases e; exact row_base HRW.out)
                      have HROW8 : Hid (w8.ownsRow V6.heap.size 3 1 (.slice (some ⟨g5, 0, none⟩) (j + 1) c5) (j + 1) ((upL.take (j + 1)).map (Value.int .i64))) := by
                        show w8.ownsRow _ _ _ _ _ _
                        rw [take_getD_snoc upL j (by rw [HUL.out]; exact hlt), HAT.out, List.map_append]
                        exact hrow8
                      have HR8 := Lib.hid hr8
                      clear hr8 hrow8 hg8
                      go_wp2_with (at_builtin; refine wpList_append_want (o := ⟨some 96, _, _, _, _, _⟩) _ rfl _ _ _ _ rfl _ _ rfl rfl _ _ HR8.out ?_)
                      go_roundw
                      case rel => exact ⟨j + 1, g5, c5, by omega, by go_num, rfl, HROW8, HB8⟩
                      case measure => simp [intOf]; omega
                  · obtain rfl : j = u := by omega
                    have hltI : ¬ (j : Int) < (j : Int) := by omega
                    have hgc : j ≤ c := (by obtain ⟨cur, _, h, _⟩ := row_block HRW.out; exact h)
                    have HLR : Hid (Rd (fun b => V6.heap.size ≤ b) wr .i64 (some ⟨g, 0, none⟩) j c upL) := by
                      have h := HRW.out
                      rw [← HUL.out, List.take_length, HUL.out] at h
                      exact Rd.of_row HUL.out.symm hgc (by omega) h
                    have hlen := HL.out
                    have hn4l := HN4.out
                    rw [List.length_drop] at hn4l
                    obtain ⟨lim, hlim⟩ : ∃ m, k1 + (k2 + 1) + size = m := ⟨_, rfl⟩
                    have hlimI : (len : Int) - ((n4 - 1 : Nat) : Int) + (size : Int) = (lim : Int) := by omega
                    have hlimL : lim ≤ len := by omega
                    have hlimI2 : (lim : Int) ≤ (len : Int) := by omega
                    have hlimC : lim ≤ cap := by omega
                    obtain ⟨m4, hm4⟩ : ∃ m, n4 - 1 = m := ⟨_, rfl⟩
                    obtain ⟨d4, hd4⟩ : ∃ m, c4 - 1 = m := ⟨_, rfl⟩
                    have hsub : (len : Int) - (m4 : Int) = ((len - m4 : Nat) : Int) := by omega
                    have hsum : (len : Int) - (m4 : Int) + (size : Int) = (lim : Int) := by omega
                    have HLIM := Lib.hid hlim
                    have HGOOD := Lib.hid (HH.out.good (by rw [HSZ.out, HBD.out, ← HBL.out]; omega))
                    have HBAD := Lib.hid (HH.out.bad ho (by rw [HSZ.out, HBD.out, ← HBL.out]; omega))
                    rw [HSZ.out, HBD.out, HUP.out, hlim] at HGOOD HBAD
                    rw [hm4, hd4] at HBODY
                    rw [hm4, hd4]
                    rw [hm4] at HBL hsh hshN hlimI
                    have hsz4 : size ≤ m4 := by omega
                    have hszI4 : (size : Int) ≤ (m4 : Int) := by omega
                    have hmd := HBODY.out.fit
                    have hm4l : m4 ≤ len := by omega
                    have HBZ : Hid (Below W.heap.size W wr) := HB6.out.trans (HBW.out.mono HB6.out.size)
                    have HBR : Hid (Rd (fun b => K b ∧ b < W.heap.size) wr .u8 a lim cap (bs.take lim)) := (HR.out.below HBZ.out).upto lim hlimL
                    have HQ7 := Lib.hid (HQ6.out.below HBW.out HQ6.out.lt)
                    have HRV : Hid (R < V6.heap.size) := HQ6.out.lt
                    have hj4 : j ≤ 4096 := by omega
                    clear hm4 hd4 hlim hlen hn4l hlimI hsub hj hlt hbI hTI hszI HRW HROW HBN HA6 HC HR3 HR4
                    go_wp2_with fail
                    refine (formR_any HUS.out hj4 HLR.out).mono ?_
                    rintro e w8 ⟨g8, c8, rfl, hc8, hrow8, hb8⟩
                    have hl8 := pack_len upL HUS.out (by rw [HUL.out]; exact hj4)
                    obtain ⟨l8, hl8e⟩ : ∃ n, (packS upL).length = n := ⟨_, rfl⟩
                    rw [hl8e] at hrow8 hc8 hl8 ⊢
                    have HD8 := Lib.hid (Rd.of_row hl8e.symm hc8 (by omega) hrow8)
                    have HBR8 := Lib.hid (HBR.out.below hb8)
                    have HLR8 := Lib.hid (HLR.out.below hb8)
                    have HQ8 := Lib.hid (HQ7.out.below hb8 HQ7.out.lt)
                    have HB8 : Hid (Below W.heap.size W w8) := HBZ.out.trans (hb8.mono HBZ.out.size)
                    clear hrow8 hc8 hb8 hl8e HBR HLR HQ7 HBZ
                    go_wp2_with fail
                    refine (same_any HD8.out HBR8.out).mono ?_
                    by_cases he : packS upL = bs.take lim
                    · rw [sameB_true he]
                      rintro e w9 ⟨rfl, hb9⟩
                      have HUN := Lib.hid (HGOOD.out he)
                      have HLR9 := Lib.hid (HLR8.out.below hb9)
                      have hqq := HQ8.out.below hb9 HQ8.out.lt
                      have HB9 : Hid (Below W.heap.size W w9) := HB8.out.trans (hb9.mono HB8.out.size)
                      obtain ⟨q0, q1, q2, q3⟩ := hqq.cell
                      have f0 := hqq.f 0
                      have f1 := hqq.f 1
                      have f2 := hqq.f 2
                      have f3 := hqq.f 3
                      have qlt := hqq.lt
                      obtain ⟨e7, he7⟩ : ∃ a', (if d4 = size then some ⟨b4, off6, none⟩ else some ⟨b4, off6 + size, none⟩ : Option Addr) = a' := ⟨_, rfl⟩
                      have HREST := Lib.hid ((HBODY.out.rest size hsz4 (d4 - size) (by omega) (by omega) e7 (fun h => by rw [← he7, if_neg (by omega)])).back HB6.out)
                      clear he hb9 hqq HB8 HQ8 HLR8
                      go_wp2
                      refine bodyPost_ret (v := gotV 0 (.slice (some ⟨g, 0, none⟩) j c) (.slice e7 (m4 - size) (d4 - size)) 0) (by simp [results, Try.results58, go_sem, q0, q1, q2, q3, gotV]) rfl ⟨below_four HB9.out R HRE.out _ _ _ _, .inl ?_⟩
                      rw [HUN.out]
                      refine ⟨rfl, _, _, _, _, _, _, rfl, ?_, ?_⟩
                      · have hne : ¬ V6.heap.size ≤ R := by have := HRV.out; omega
                        exact ((((HLR9.out.set ⟨R, 0, none⟩ _ hne).set ⟨R, 1, none⟩ _ hne).set ⟨R, 2, none⟩ _ hne).set ⟨R, 3, none⟩ _ hne).mono fun b _ h => Nat.le_trans HB6.out.size h
                      · have h := HREST.out
                        rw [← HBD.out, List.drop_drop, List.drop_drop] at h
                        rw [show k1 + (k2 + 1 + size) = lim by have := HLIM.out; omega] at h
                        exact h
                    · rw [sameB_false he]
                      rintro e w9 ⟨rfl, hb9⟩
                      have HUN := Lib.hid (HBAD.out he)
                      have hqq := HQ8.out.below hb9 HQ8.out.lt
                      have HB9 : Hid (Below W.heap.size W w9) := HB8.out.trans (hb9.mono HB8.out.size)
                      obtain ⟨q0, q1, q2, q3⟩ := hqq.cell
                      have f0 := hqq.f 0
                      have f1 := hqq.f 1
                      have f2 := hqq.f 2
                      have f3 := hqq.f 3
                      have qlt := hqq.lt
                      clear he hb9 hqq HB8 HQ8 HLR8
                      go_wp2
                      refine bodyPost_ret (v := gotV 0 (.slice none 0 0) (.slice none 0 0) 5) (by simp [results, Try.results58, go_sem, q0, q1, q2, q3, gotV]) rfl (UnRPost.bad (below_four HB9.out R HRE.out _ _ _ _) HUN.out (by decide) rfl)
        · obtain ⟨x, hxe⟩ : ∃ x, (rdS (bs.drop k1)).2.2 = x := ⟨_, rfl⟩
          rw [hxe] at hx ⊢
          have HFR : Hid ((frS (bs.drop k1)).2.2 = x) := by
            show _ = _
            unfold frS
            rw [if_pos (by rw [hxe]; exact hx), hxe]
          have HUN := Lib.hid (un_fr HRD.out (by rw [HU.out]; omega) (by rw [HU.out]; omega) (by rw [HK1.out]; exact HFR.out) hx)
          have HX := Lib.hid hx
          have hxb : (x == 0) = false := by rw [beq_eq_false_iff_ne]; exact hx
          have hxn : (x != 0) = true := by rw [bne_iff_ne]; exact hx
          clear hb5 hxe hx HQ2 HB2 HA
          simp only [gotV]
          go_upto_region 9 with fail
          have hbA : Below w5.heap.size w5 (w5.alloc (.cells #[.int .u64 0, .slice none 0 0, .slice none 0 0, .int .i64 x] 94)) := (Below.refl _ _).alloc (Nat.le_refl _) _
          have HC := Lib.hid (Quad.new w5 94 (.int .u64 0) (.slice none 0 0) (.slice none 0 0) (.int .i64 x))
          have HQ6 := Lib.hid (HQ5.out.below hbA HQ5.out.lt)
          have HB6 : Hid (Below W.heap.size W (w5.alloc (.cells #[.int .u64 0, .slice none 0 0, .slice none 0 0, .int .i64 x] 94))) := HB5.out.trans (hbA.mono HB5.out.size)
          obtain ⟨C, hC⟩ : ∃ B, w5.heap.size = B := ⟨_, rfl⟩
          rw [hC] at HC ⊢
          clear hbA hC HB5 HQ5
          generalize w5.alloc (.cells #[.int .u64 0, .slice none 0 0, .slice none 0 0, .int .i64 x] 94) = V6 at *
          have r3 := HC.out.cell.2.2.2
          obtain ⟨q0, q1, q2, q3⟩ := HQ6.out.cell
          have f0 := HQ6.out.f 0
          have f1 := HQ6.out.f 1
          have f2 := HQ6.out.f 2
          have f3 := HQ6.out.f 3
          have qlt := HQ6.out.lt
          go_wp2
          refine bodyPost_ret (v := gotV 0 (.slice none 0 0) (.slice none 0 0) x) (by simp [results, Try.results58, go_sem, q0, q1, q2, q3, gotV]) rfl (UnRPost.bad (below_four HB6.out R HRE.out _ _ _ _) HUN.out HX.out rfl)
  · obtain ⟨x, hxe⟩ : ∃ x, (rdS bs).2.2 = x := ⟨_, rfl⟩
    rw [hxe] at hx ⊢
    have HUN := Lib.hid (un_rd hxe hx)
    have HX := Lib.hid hx
    have hxb : (x == 0) = false := by rw [beq_eq_false_iff_ne]; exact hx
    have hxn : (x != 0) = true := by rw [bne_iff_ne]; exact hx
    clear hb1 hxe hx HQ HB HRV
    simp only [gotV]
    go_upto_region 2 with fail
    have hbA : Below w1.heap.size w1 (w1.alloc (.cells #[.int .u64 0, .slice none 0 0, .slice none 0 0, .int .i64 x] 94)) := (Below.refl _ _).alloc (Nat.le_refl _) _
    have HA := Lib.hid (Quad.new w1 94 (.int .u64 0) (.slice none 0 0) (.slice none 0 0) (.int .i64 x))
    have HQ2 := Lib.hid (HQ1.out.below hbA HQ1.out.lt)
    have HB2 : Hid (Below W.heap.size W (w1.alloc (.cells #[.int .u64 0, .slice none 0 0, .slice none 0 0, .int .i64 x] 94))) := HB1.out.trans (hbA.mono HB1.out.size)
    obtain ⟨A, hA⟩ : ∃ B, w1.heap.size = B := ⟨_, rfl⟩
    rw [hA] at HA ⊢
    clear hbA hA HB1 HQ1
    generalize w1.alloc (.cells #[.int .u64 0, .slice none 0 0, .slice none 0 0, .int .i64 x] 94) = V2 at *
    have r3 := HA.out.cell.2.2.2
    obtain ⟨q0, q1, q2, q3⟩ := HQ2.out.cell
    have f0 := HQ2.out.f 0
    have f1 := HQ2.out.f 1
    have f2 := HQ2.out.f 2
    have f3 := HQ2.out.f 3
    have qlt := HQ2.out.lt
    go_wp2
    refine bodyPost_ret (v := gotV 0 (.slice none 0 0) (.slice none 0 0) x) (by simp [results, Try.results58, go_sem, q0, q1, q2, q3, gotV]) rfl (UnRPost.bad (below_four HB2.out R HRE.out _ _ _ _) HUN.out HX.out rfl)

end Go.Proofs.Ytmbcppkdnoccbaa

namespace Go.Proofs.Ytmbcppkdnoccbaa
open Go.RowKit Go.Shelf Go.ChangeShapes Go.WideShapes Go.ChangeAt

/-- The bytes behind an encoding; none if there is an error. -/
def dR (bs : List Int) : List Int := if (deS bs).2.2 = 0 then bs.drop (deS bs).2.1 else []
/-- What decoding comes to, on both sides. -/
def DeGot (bs : List Int) (W : World) (e : Ending) (W' : World) : Prop :=
  Below W.heap.size W W' ∧ ∃ a1 n1 c1 a2 n2 c2, e = .returned (.agg #[.slice a1 n1 c1, .slice a2 n2 c2, .int .i64 (deS bs).2.2]) ∧ Rd (fun _ => True) W' .i64 a1 n1 c1 (deS bs).1 ∧ Rd (fun _ => True) W' .u8 a2 n2 c2 (dR bs)
theorem DeGot.bad {bs : List Int} {W W' : World} {e : Ending} {x : Int} (h : deS bs = ([], 0, x)) (hx : x ≠ 0) (hb : Below W.heap.size W W') (he : e = .returned (.agg #[.slice none 0 0, .slice none 0 0, .int .i64 x])) : DeGot bs W e W' :=
  ⟨hb, none, 0, 0, none, 0, 0, by rw [h]; exact he, by rw [h]; exact Rd.empty, by unfold dR; rw [h, if_neg hx]; exact Rd.empty⟩
theorem DeGot.good {bs : List Int} {W W' : World} {e : Ending} {l : List Int} {c : Nat} {a1 a2 : Option Addr} {n1 c1 n2 c2 : Nat} (h : deS bs = (l, c, 0)) (hb : Below W.heap.size W W') (he : e = .returned (.agg #[.slice a1 n1 c1, .slice a2 n2 c2, .int .i64 0]))
    (h1 : Rd (fun _ => True) W' .i64 a1 n1 c1 l) (h2 : Rd (fun _ => True) W' .u8 a2 n2 c2 (bs.drop c)) : DeGot bs W e W' :=
  ⟨hb, a1, n1, c1, a2, n2, c2, by rw [h]; exact he, by rw [h]; exact h1, by unfold dR; rw [h, if_pos rfl]; exact h2⟩

theorem upk_un_bad {k : Nat} {bs : List Int} {x : Int} (h : (unS bs).2.2 = x) (hx : x ≠ 0) : (upkS k bs).2.2 = x := by
  have hu : (urS bs).2.2 = x := by unfold urS; rw [if_pos (by rw [h]; exact hx)]; exact h
  unfold upkS
  split
  · exact h
  · exact hu
  · exact h
  · exact hu
/-- What is behind the first byte, ahead of taking sums. -/
def halfS (k : Nat) (bs : List Int) : List Int × Nat × Int := if k % 2 = 0 then unS bs else urS bs
theorem half_up {k : Nat} (hk : k < 4) (bs : List Int) : upkS k bs = if k < 2 then halfS k bs else smU (halfS k bs) := by
  match k, hk with
  | 0, _ => rfl
  | 1, _ => rfl
  | 2, _ => rfl
  | 3, _ => rfl
theorem ur_second {bs : List Int} {x : Int} (h1 : (unS bs).2.2 = 0) (h2 : (unS (bs.drop (unS bs).2.1)).2.2 = x) (hx : x ≠ 0) : (urS bs).2.2 = x := by
  unfold urS; rw [if_neg (by simp [h1]), if_pos (by rw [h2]; exact hx)]; exact h2
theorem ur_third {bs : List Int} (h1 : (unS bs).2.2 = 0) (h2 : (unS (bs.drop (unS bs).2.1)).2.2 = 0) (h3 : (xpS (unS bs).1 (unS (bs.drop (unS bs).2.1)).1).2 ≠ 0) : (urS bs).2.2 = 5 := by
  unfold urS; rw [if_neg (by simp [h1]), if_neg (by simp [h2]), if_pos h3]
theorem ur_fine {bs : List Int} (h1 : (unS bs).2.2 = 0) (h2 : (unS (bs.drop (unS bs).2.1)).2.2 = 0) (h3 : (xpS (unS bs).1 (unS (bs.drop (unS bs).2.1)).1).2 = 0) :
    urS bs = ((xpS (unS bs).1 (unS (bs.drop (unS bs).2.1)).1).1, (unS bs).2.1 + (unS (bs.drop (unS bs).2.1)).2.1, 0) := by
  unfold urS; rw [if_neg (by simp [h1]), if_neg (by simp [h2]), if_neg (by simp [h3])]
theorem half_bad {k : Nat} (hk : k < 4) {bs : List Int} {x : Int} (h : (halfS k bs).2.2 = x) : (upkS k bs).2.2 = x := by
  rw [half_up hk]
  split
  · exact h
  · exact h

/-- The encoding of what was unpacked stands at the beginning, or does not. -/
theorem de_by {bs : List Int} (ho : Oct bs) {k : Nat} (hne : bs ≠ []) (h : bs[0]?.getD 0 = (k : Int)) (hk : k < 4) {v : List Int} {c : Nat} (hu : upkS k (bs.drop 1) = (v, c, 0)) :
    c + 1 ≤ bs.length ∧ v.length ≤ 4096 ∧ Smalls v ∧ (enS v = bs.take (c + 1) → deS bs = (v, c + 1, 0)) ∧ (enS v ≠ bs.take (c + 1) → deS bs = ([], 0, 5)) := by
  obtain ⟨h1, h2, h3⟩ := upk_canon (ho.drop 1) hu
  have hs := upk_smalls k (bs.drop 1)
  rw [hu] at hs
  have hc : c + 1 ≤ bs.length := by
    have h4 := congrArg List.length h3
    rw [List.length_append, ← h2, List.length_drop, List.length_drop, List.length_drop] at h4
    have : 0 < bs.length := List.length_pos_iff.2 hne
    omega
  refine ⟨hc, h1, hs, fun he => ?_, fun he => ?_⟩
  · have hl : (enS v).length = c + 1 := by rw [he, List.length_take]; omega
    have h5 := de_en hs h1 (bs.drop (c + 1))
    rw [he, List.take_append_drop, ← he, hl] at h5
    exact h5
  · by_cases hkk : kindS v = k
    · exfalso
      have h5 := de_good hne h hk (by rw [hu]) (by rw [hu]; exact hkk)
      rw [hu] at h5
      obtain ⟨_, _, h6, h7⟩ := de_canon ho h5
      refine he ?_
      have h6 : c + 1 = (enS v).length := h6
      conv => rhs; rw [h7, h6]
      rw [List.take_left' rfl]
    · exact de_kind hne h hk (by rw [hu]) (by rw [hu]; exact hkk)

theorem tri_put {W V : World} {R : Nat} (h : Below W.heap.size W V) (hR : W.heap.size ≤ R) (a b c : Value) : Below W.heap.size W (((V.setCell ⟨R, 0, none⟩ a).setCell ⟨R, 1, none⟩ b).setCell ⟨R, 2, none⟩ c) :=
  ((h.setCell hR _).setCell hR _).setCell hR _

set_option maxHeartbeats 1000000 in
theorem decodeR_none (a : Option Addr) (cap : Nat) (W : World) :
    Calls Try.prog 28 #[.slice a 0 cap] W (DeGot [] W) := by
  go_enter Try.func28, Try.ntmps28
  go_wp2
  exact bodyPost_ret (v := .agg #[.slice none 0 0, .slice none 0 0, .int .i64 7]) (by simp [results, Try.results28, go_sem]) rfl (DeGot.bad (x := 7) rfl (by decide) ((Below.refl _ _).alloc (Nat.le_refl _) _) rfl)

set_option maxHeartbeats 1000000 in
theorem decodeR_four {K : Nat → Prop} {b off len cap : Nat} {bs : List Int} (h0 : 0 < len) (ho : Oct bs) (h4 : (4 : Int) ≤ bs[0]?.getD 0) {W : World} (hR : Rd K W .u8 (some ⟨b, off, none⟩) len cap bs) :
    Calls Try.prog 28 #[.slice (some ⟨b, off, none⟩) len cap] W (DeGot bs W) := by
  obtain ⟨b', off', e, _, hblt, hc⟩ := hR.cells h0
  cases e
  have hc0 : W.cell? ⟨b, off, none⟩ = some (.int .u8 (bs[0]?.getD 0)) := hc 0 h0
  have hne : bs ≠ [] := fun e => by have := hR.hl; rw [e] at this; simp at this; omega
  have HD : Hid (deS bs = ([], 0, 5)) := by show _ = _; unfold deS; rw [if_neg hne, if_pos h4]
  have hb : Below W.heap.size W (W.alloc (.cells #[.slice none 0 0, .slice none 0 0, .int .i64 0] 46)) := (Below.refl _ _).alloc (Nat.le_refl _) _
  have HB := Lib.hid hb
  have hq := Tri.new W 46 (.slice none 0 0) (.slice none 0 0) (.int .i64 0)
  obtain ⟨R, hRe⟩ : ∃ R, W.heap.size = R := ⟨_, rfl⟩
  have HRE : Hid (W.heap.size ≤ R) := Nat.le_of_eq hRe
  have hcc := (hb.cell (p := ⟨b, off, none⟩) hblt).trans hc0
  rw [hRe] at hq
  obtain ⟨q0, q1, q2⟩ := hq.cell
  have f0 := hq.f 0
  have f1 := hq.f 1
  have f2 := hq.f 2
  have qlt := hq.lt
  have hx3 : (3 : Int) < bs[0]?.getD 0 := by omega
  have hx := ho.getD 0
  have hx1 := hx.1
  have hx2 := hx.2
  have hz : ((len : Int) == 0) = false := by rw [beq_eq_false_iff_ne]; omega
  clear hR hc hc0 hne hx hb h4 hq
  generalize bs[0]?.getD 0 = x at *
  go_enter Try.func28, Try.ntmps28
  go_upto_region 1 with fail
  try rw [hRe]
  clear hRe
  generalize W.alloc (.cells #[.slice none 0 0, .slice none 0 0, .int .i64 0] 46) = V at *
  go_wp2
  exact bodyPost_ret (v := .agg #[.slice none 0 0, .slice none 0 0, .int .i64 5]) (by simp [results, Try.results28, go_sem, q0, q1, q2]) rfl (DeGot.bad HD.out (by decide) (tri_put HB.out HRE.out _ _ _) rfl)

/-- Three things that every step of decoding keeps: where the result lies, what has been made. -/
structure DeAt (W V : World) (R : Nat) : Prop where
  q : Tri V R 46 (.slice none 0 0) (.slice none 0 0) (.int .i64 0)
  b : Below W.heap.size W V
  r : W.heap.size ≤ R
theorem DeAt.below {W V U : World} {R : Nat} (h : DeAt W V R) (hb : Below V.heap.size V U) : DeAt W U R := ⟨h.q.below hb h.q.lt, h.b.trans (hb.mono h.b.size), h.r⟩
theorem DeAt.put {W V : World} {R : Nat} (h : DeAt W V R) (a b c : Value) : Below W.heap.size W (((V.setCell ⟨R, 0, none⟩ a).setCell ⟨R, 1, none⟩ b).setCell ⟨R, 2, none⟩ c) := tri_put h.b h.r a b c

theorem fieldE0 (v e : Value) (W : World) : (Instr.field 33 (.agg #[v, e]) 0).run Try.prog W = .ok v W := by kernel_rfl
theorem encR_some {K : Nat → Prop} {a : Option Addr} {len cap : Nat} {zs : List Int} (hz : Smalls zs) (hl : len ≤ 4096) {W : World} (hR : Rd K W .i64 a len cap zs) :
    Calls Try.prog 12 #[.slice a len cap] W fun e W' => ∃ v, e = .returned v ∧ ∃ g n c : Nat, v = .agg #[.slice (some ⟨g, 0, none⟩) n c, .int .i64 0] ∧ Rd (fun b => W.heap.size ≤ b) W' .u8 (some ⟨g, 0, none⟩) n c (enS zs) ∧ Below W.heap.size W W' :=
  (encodeR_any hz hl hR).mono fun _ _ ⟨g, n, c, he, h1, h2⟩ => ⟨_, he, g, n, c, rfl, h1, h2⟩
theorem half_smalls (k : Nat) (bs : List Int) : Smalls (halfS k bs).1 := by
  unfold halfS
  split
  · exact un_smalls4 bs
  · exact ur_smalls bs
theorem half_len {k : Nat} {bs : List Int} (ho : Oct bs) (h : (halfS k bs).2.2 = 0) : (halfS k bs).1.length ≤ 4096 := by
  unfold halfS at h ⊢
  by_cases hk : k % 2 = 0
  · rw [if_pos hk] at h ⊢; exact un_len ho h
  · rw [if_neg hk] at h ⊢; exact ur_len h

set_option maxRecDepth 100000 in
set_option maxHeartbeats 8000000 in
theorem decodeR_low {K : Nat → Prop} {b off len cap : Nat} {bs : List Int} (h0 : 0 < len) (ho : Oct bs) (k : Nat) (hk : k < 4) (h4 : bs[0]?.getD 0 = (k : Int)) {W : World} (hR : Rd K W .u8 (some ⟨b, off, none⟩) len cap bs) :
    Calls Try.prog 28 #[.slice (some ⟨b, off, none⟩) len cap] W (DeGot bs W) := by
  obtain ⟨b', off', e, _, hblt, hc⟩ := hR.cells h0
  cases e
  have hc0 : W.cell? ⟨b, off, none⟩ = some (.int .u8 k) := by rw [← h4]; exact hc 0 h0
  have hne : bs ≠ [] := fun e => by have := hR.hl; rw [e] at this; simp at this; omega
  have hfit := hR.fit
  have htop := hR.top
  have hsm := hR.small
  have HL : Hid (len = bs.length) := hR.hl
  have HNE := Lib.hid hne
  have HK4 := Lib.hid h4
  have hb : Below W.heap.size W (W.alloc (.cells #[.slice none 0 0, .slice none 0 0, .int .i64 0] 46)) := (Below.refl _ _).alloc (Nat.le_refl _) _
  have HA0 : Hid (DeAt W (W.alloc (.cells #[.slice none 0 0, .slice none 0 0, .int .i64 0] 46)) W.heap.size) := ⟨Tri.new W 46 (.slice none 0 0) (.slice none 0 0) (.int .i64 0), hb, Nat.le_refl _⟩
  obtain ⟨R, hRe⟩ : ∃ R, W.heap.size = R := ⟨_, rfl⟩
  have HRW : Hid (Rd (fun b => b ≠ R) W .u8 (some ⟨b, off, none⟩) len cap bs) := hR.mono fun b hlt _ h => by omega
  have HCC : Hid (∀ V, DeAt W V R → V.cell? ⟨b, off, none⟩ = some (.int .u8 k)) := fun V h => (h.b.cell (p := ⟨b, off, none⟩) hblt).trans hc0
  have hk3 : ¬ (3 : Int) < (k : Int) := by omega
  have hz : ((len : Int) == 0) = false := by rw [beq_eq_false_iff_ne]; omega
  have h1l : (1 : Int) ≤ (len : Int) := by omega
  have ho1 := ho.drop 1
  obtain ⟨a', ha'⟩ : ∃ a', (if cap = 1 then some ⟨b, off, none⟩ else some ⟨b, off + 1, none⟩ : Option Addr) = a' := ⟨_, rfl⟩
  have HR1 := Lib.hid (HRW.out.rest 1 (by omega) (cap - 1) (by omega) (by omega) a' (fun h => by rw [← ha', if_neg (by omega)]))
  have HRE := Lib.hid hRe
  rw [hRe] at HA0
  clear hR hc hc0 hne h4 hb
  go_enter Try.func28, Try.ntmps28
  go_upto_region 1 with fail
  try rw [hRe]
  clear hRe
  generalize W.alloc (.cells #[.slice none 0 0, .slice none 0 0, .int .i64 0] 46) = V at *
  have hcc := HCC.out V HA0.out
  go_wp2_with fail
  clear hcc ha'
  refine (unpackR_any ho1 (HR1.out.below HA0.out.b)).mono ?_
  rintro e w1 ⟨hb1, hp1⟩
  have HA1 := Lib.hid (HA0.out.below hb1)
  have hRV := HA0.out.q.lt
  have HB01 := Lib.hid hb1
  clear hb1
  rcases hp1 with ⟨hun, a1, n1, c1, a2, n2, c2, rfl, hr1, hr2⟩ | ⟨hx, rfl⟩
  · have HUN := Lib.hid hun
    have HL1 := Lib.hid (hr1.mono (K' := fun b => b ≠ R) fun b _ h he => by omega)
    have HL2 := Lib.hid (hr2.below HB01.out)
    clear hun hr1 hr2 HB01 HA0 hRV
    simp only [gotV]
    go_upto_region 6 with fail
    have hbF : Below w1.heap.size w1 (w1.alloc (.cells #[.int .u64 0, .slice a1 n1 c1, .slice a2 n2 c2, .int .i64 0] 94)) := (Below.refl _ _).alloc (Nat.le_refl _) _
    have HF := Lib.hid (Quad.new w1 94 (.int .u64 0) (.slice a1 n1 c1) (.slice a2 n2 c2) (.int .i64 0))
    have HA2 := Lib.hid (HA1.out.below hbF)
    have HL1 := Lib.hid (HL1.out.below hbF)
    have HL2 := Lib.hid (HL2.out.below hbF)
    obtain ⟨F, hF⟩ : ∃ F, w1.heap.size = F := ⟨_, rfl⟩
    rw [hF] at HF ⊢
    clear hbF hF HA1
    generalize w1.alloc (.cells #[.int .u64 0, .slice a1 n1 c1, .slice a2 n2 c2, .int .i64 0] 94) = V2 at *
    obtain ⟨r0, r1, r2, r3⟩ := HF.out.cell
    go_upto_region 8 with fail
    go_quiet (fail)
    have HA3 : Hid (DeAt W (V2.drewN nq) R) := ⟨HA2.out.q, below_drewN HA2.out.b nq, HA2.out.r⟩
    have HL1 : Hid (Rd (fun b => b ≠ R) (V2.drewN nq) .i64 a1 n1 c1 (unS (bs.drop 1)).1) := HL1.out.heap rfl
    have HL2 : Hid (Rd (fun b => b ≠ R) (V2.drewN nq) .u8 a2 n2 c2 ((bs.drop 1).drop (unS (bs.drop 1)).2.1)) := HL2.out.heap rfl
    clear r0 r1 r2 r3 HF HA2
    generalize V2.drewN nq = V3 at *
    have hcc := HCC.out V3 HA3.out
    obtain ⟨j, hj⟩ : ∃ j, k % 2 = j := ⟨_, rfl⟩
    have hj2 : j < 2 := by omega
    have hrem : (k : Int).tmod 2 = (j : Int) := by rw [Int.tmod_eq_emod_of_nonneg (by omega)]; omega
    have HJ := Lib.hid hj
    obtain ⟨us, hus⟩ : ∃ us, halfS k (bs.drop 1) = us := ⟨_, rfl⟩
    have HUS := Lib.hid hus
    clear hj hus
    go_upto_if 34 with fail
    clear hrem hcc
    go_cut [2, 4, 5] (fun t l r wx => t = .pointer (some ⟨R, 0, none⟩) ∧ ∃ a n c a' n' c', l = .slice a n c ∧ r = .slice a' n' c' ∧ Hid (us.2.2 = 0) ∧ Hid (Rd (fun b => b ≠ R) wx .i64 a n c us.1) ∧ Hid (Rd (fun b => b ≠ R) wx .u8 a' n' c' ((bs.drop 1).drop us.2.1)) ∧ Hid (DeAt W wx R))
    case first =>
      by_cases hj1 : j = 1
      · have hjb : ((j : Int) == 1) = true := by rw [beq_iff_eq]; omega
        have HUR : Hid (us = urS (bs.drop 1)) := by show _ = _; rw [← HUS.out]; unfold halfS; rw [if_neg (by have := HJ.out; omega)]
        have HBAD : Hid (∀ x, us.2.2 = x → x ≠ 0 → deS bs = ([], 0, x)) := fun x h h0 => de_bad HNE.out HK4.out hk (half_bad hk (by rw [HUS.out]; exact h)) h0
        clear HUS
        generalize hB1 : bs.drop 1 = B1 at *
        obtain ⟨q1, hq1⟩ : ∃ q, (unS B1).2.1 = q := ⟨_, rfl⟩
        have HQ1 := Lib.hid hq1
        rw [hq1] at HL2
        clear hq1
        go_wp2_with fail
        refine (unpackR_any (ho1.drop q1) HL2.out).mono ?_
        rintro e w2 ⟨hb2, hp2⟩
        have HA4 := Lib.hid (HA3.out.below hb2)
        have HL1 := Lib.hid (HL1.out.below hb2)
        have hRV := HA3.out.q.lt
        have HB02 := Lib.hid hb2
        clear hb2
        rcases hp2 with ⟨hun2, a3, n3, c3, a4, n4, c4, rfl, hr3, hr4⟩ | ⟨hx, rfl⟩
        · have HUN2 := Lib.hid hun2
          have HL3 := Lib.hid (hr3.mono (K' := fun b => b ≠ R) fun b _ h he => by omega)
          have HL4 := Lib.hid (hr4.below HB02.out)
          clear hun2 hr3 hr4 HB02 HA3 hRV HL2
          simp only [gotV]
          go_upto_region 11 with fail
          have hbG : Below w2.heap.size w2 (w2.alloc (.cells #[.int .u64 0, .slice a3 n3 c3, .slice a4 n4 c4, .int .i64 0] 94)) := (Below.refl _ _).alloc (Nat.le_refl _) _
          have HG := Lib.hid (Quad.new w2 94 (.int .u64 0) (.slice a3 n3 c3) (.slice a4 n4 c4) (.int .i64 0))
          have HA5 := Lib.hid (HA4.out.below hbG)
          have HL1 := Lib.hid (HL1.out.below hbG)
          have HL3 := Lib.hid (HL3.out.below hbG)
          have HL4 := Lib.hid (HL4.out.below hbG)
          obtain ⟨G, hG⟩ : ∃ G, w2.heap.size = G := ⟨_, rfl⟩
          rw [hG] at HG
          try rw [hG]
          clear hbG hG HA4
          generalize w2.alloc (.cells #[.int .u64 0, .slice a3 n3 c3, .slice a4 n4 c4, .int .i64 0] 94) = V5 at *
          obtain ⟨g0, g1, g2, g3⟩ := HG.out.cell
          go_wp2_with fail
          clear g0 g1 g2 g3
          refine (expandR_any HL1.out HL3.out).mono ?_
          rintro e w6 ⟨a5, n5, c5, rfl, hr5, hb6⟩
          have HA6 := Lib.hid (HA5.out.below hb6)
          have HL4 := Lib.hid (HL4.out.below hb6)
          have hRV := HA5.out.q.lt
          have HL5 := Lib.hid (hr5.mono (K' := fun b => b ≠ R) fun b _ h he => by omega)
          have HG6 := Lib.hid (HG.out.below hb6 HG.out.lt)
          clear hb6 hr5 hRV HA5 HG HL1 HL3
          obtain ⟨x, hx⟩ : ∃ x, (xpS (unS B1).1 (unS (B1.drop q1)).1).2 = x := ⟨_, rfl⟩
          rw [hx]
          have HX := Lib.hid hx
          clear hx
          have hbP : Below w6.heap.size w6 (w6.alloc (.cells #[.slice a5 n5 c5, .int .i64 x] 36)) := (Below.refl _ _).alloc (Nat.le_refl _) _
          have HP := Lib.hid (Pair.new w6 36 (.slice a5 n5 c5) (.int .i64 x))
          have HA7 := Lib.hid (HA6.out.below hbP)
          have HL5 := Lib.hid (HL5.out.below hbP)
          have HL4 := Lib.hid (HL4.out.below hbP)
          have HG7 := Lib.hid (HG6.out.below hbP HG6.out.lt)
          obtain ⟨P, hP⟩ : ∃ P, w6.heap.size = P := ⟨_, rfl⟩
          rw [hP] at HP
          go_upto_region 14 with fail
          try rw [hP]
          clear hbP hP HA6 HG6
          generalize w6.alloc (.cells #[.slice a5 n5 c5, .int .i64 x] 36) = V7 at *
          have p0 := HP.out.c0
          have p1 := HP.out.c1
          by_cases hx0 : x = 0
          · subst hx0
            obtain ⟨g0, g1, g2, g3⟩ := HG7.out.cell
            have HUF : Hid (us = ((xpS (unS B1).1 (unS (B1.drop q1)).1).1, q1 + (unS (B1.drop q1)).2.1, 0)) := by
              show _ = _
              rw [HUR.out, ur_fine HUN.out (by rw [HQ1.out]; exact HUN2.out) (by rw [HQ1.out]; exact HX.out), HQ1.out]
            go_wp2_with fail
            go_meet
            refine ⟨rfl, a5, n5, c5, a4, n4, c4, rfl, rfl, ?_, ?_, ?_, HA7⟩
            · show _ = _; rw [HUF.out]
            · show Rd _ _ _ _ _ _ _; rw [HUF.out]; exact HL5.out
            · show Rd _ _ _ _ _ _ _; rw [HUF.out]
              have := HL4.out
              rw [List.drop_drop] at this
              exact this
          · have HD : Hid (deS bs = ([], 0, 5)) := HBAD.out 5 (by rw [HUR.out]; exact ur_third HUN.out (by rw [HQ1.out]; exact HUN2.out) (by rw [HQ1.out, HX.out]; exact hx0)) (by decide)
            have hxb : (x == 0) = false := by rw [beq_eq_false_iff_ne]; exact hx0
            have hxn : (x != 0) = true := by rw [bne_iff_ne]; exact hx0
            obtain ⟨q0, q1', q2⟩ := HA7.out.q.cell
            have f0 := HA7.out.q.f 0
            have f1 := HA7.out.q.f 1
            have f2 := HA7.out.q.f 2
            have qlt := HA7.out.q.lt
            go_wp2
            exact bodyPost_ret (v := .agg #[.slice none 0 0, .slice none 0 0, .int .i64 5]) (by simp [results, Try.results28, go_sem, q0, q1', q2]) rfl (DeGot.bad HD.out (by decide) (HA7.out.put _ _ _) rfl)
        · obtain ⟨x, hxe⟩ : ∃ x, (unS (B1.drop q1)).2.2 = x := ⟨_, rfl⟩
          rw [hxe] at hx ⊢
          have HD : Hid (deS bs = ([], 0, x)) := HBAD.out x (by rw [HUR.out]; exact ur_second HUN.out (by rw [HQ1.out]; exact hxe) hx) hx
          have HX := Lib.hid hx
          have hxb : (x == 0) = false := by rw [beq_eq_false_iff_ne]; exact hx
          have hxn : (x != 0) = true := by rw [bne_iff_ne]; exact hx
          clear hxe hx HB02 HA3 hRV
          simp only [gotV]
          go_upto_region 11 with fail
          have hbF : Below w2.heap.size w2 (w2.alloc (.cells #[.int .u64 0, .slice none 0 0, .slice none 0 0, .int .i64 x] 94)) := (Below.refl _ _).alloc (Nat.le_refl _) _
          have HF := Lib.hid (Quad.new w2 94 (.int .u64 0) (.slice none 0 0) (.slice none 0 0) (.int .i64 x))
          have HA5 := Lib.hid (HA4.out.below hbF)
          obtain ⟨G, hG⟩ : ∃ G, w2.heap.size = G := ⟨_, rfl⟩
          rw [hG] at HF
          try rw [hG]
          clear hbF hG HA4
          generalize w2.alloc (.cells #[.int .u64 0, .slice none 0 0, .slice none 0 0, .int .i64 x] 94) = V5 at *
          have r3 := HF.out.cell.2.2.2
          obtain ⟨q0, q1', q2⟩ := HA5.out.q.cell
          have f0 := HA5.out.q.f 0
          have f1 := HA5.out.q.f 1
          have f2 := HA5.out.q.f 2
          have qlt := HA5.out.q.lt
          go_wp2
          exact bodyPost_ret (v := .agg #[.slice none 0 0, .slice none 0 0, .int .i64 x]) (by simp [results, Try.results28, go_sem, q0, q1', q2]) rfl (DeGot.bad HD.out HX.out (HA5.out.put _ _ _) rfl)
      · have hjb : ((j : Int) == 1) = false := by rw [beq_eq_false_iff_ne]; omega
        have HUU : Hid (us = unS (bs.drop 1)) := by show _ = _; rw [← HUS.out]; unfold halfS; rw [if_pos (by have := HJ.out; omega)]
        go_wp2_with fail
        go_meet
        refine ⟨rfl, a1, n1, c1, a2, n2, c2, rfl, rfl, ?_, ?_, ?_, HA3⟩
        · show _ = _; rw [HUU.out]; exact HUN.out
        · show Rd _ _ _ _ _ _ _; rw [HUU.out]; exact HL1.out
        · show Rd _ _ _ _ _ _ _; rw [HUU.out]; exact HL2.out
    case rest =>
      obtain ⟨rfl, a5, n5, c5, a6, n6, c6, rfl, rfl, HE, HM1, HM2, HA4⟩ := hcut
      clear HUN HL1 HL2 HA3
      have hcc := HCC.out wc HA4.out
      have hlen5 : n5 ≤ 4096 := by
        have h1 := HM1.out.hl
        have h2 := half_len (k := k) ho1 (by rw [HUS.out]; exact HE.out)
        rw [HUS.out] at h2
        omega
      have HSM : Hid (Smalls us.1) := by have := half_smalls k (bs.drop 1); rw [HUS.out] at this; exact this
      obtain ⟨v, hv⟩ : ∃ v, (upkS k (bs.drop 1)).1 = v := ⟨_, rfl⟩
      have HVV : Hid (v = if k < 2 then us.1 else smS us.1) := by
        show _ = _
        rw [← hv, half_up hk, HUS.out]
        split <;> rfl
      have hus2 : (upkS k (bs.drop 1)).2 = us.2 := by
        rw [half_up hk, HUS.out]
        split <;> rfl
      have HUP : Hid (upkS k (bs.drop 1) = (v, us.2.1, 0)) := by
        show _ = _
        rw [← hv, ← HE.out, ← hus2]
      clear hv hus2
      go_upto_if 59 with fail
      clear hcc
      go_cut [2, 4, 5] (fun t l r wx => t = .pointer (some ⟨R, 0, none⟩) ∧ ∃ a n c a' n' c', l = .slice a n c ∧ r = .slice a' n' c' ∧ Hid (Rd (fun b => b ≠ R) wx .i64 a n c v) ∧ Hid (Rd (fun b => b ≠ R) wx .u8 a' n' c' ((bs.drop 1).drop us.2.1)) ∧ Hid (DeAt W wx R))
      case first =>
        by_cases hk2 : 2 ≤ k
        · have hk2I : (2 : Int) ≤ (k : Int) := by omega
          have hk2b : decide ((2 : Int) ≤ (k : Int)) = true := decide_eq_true hk2I
          have HV2 : Hid (v = smS us.1) := by show _ = _; rw [HVV.out, if_neg (by omega)]
          go_wp2_with fail
          refine (sumsR_any HSM.out (by omega) HM1.out).mono ?_
          rintro e w8 ⟨a7, n7, c7, rfl, hr7, hb8⟩
          have hRV := HA4.out.q.lt
          have HL7 := Lib.hid (hr7.mono (K' := fun b => b ≠ R) fun b _ h he => by omega)
          have HM8 := Lib.hid (HM2.out.below hb8)
          have HA8 := Lib.hid (HA4.out.below hb8)
          clear hr7 hb8
          go_wp2_with fail
          go_meet
          refine ⟨rfl, a7, n7, c7, a6, n6, c6, rfl, rfl, ?_, HM8, HA8⟩
          show Rd _ _ _ _ _ _ _; rw [HV2.out]; exact HL7.out
        · have hk2I : ¬ (2 : Int) ≤ (k : Int) := by omega
          have hk2b : decide ((2 : Int) ≤ (k : Int)) = false := decide_eq_false hk2I
          have HV2 : Hid (v = us.1) := by show _ = _; rw [HVV.out, if_pos (by omega)]
          go_wp2_with fail
          go_meet
          refine ⟨rfl, a5, n5, c5, a6, n6, c6, rfl, rfl, ?_, HM2, HA4⟩
          show Rd _ _ _ _ _ _ _; rw [HV2.out]; exact HM1.out
      case rest =>
        obtain ⟨rfl, a7, n7, c7, a8, n8, c8, rfl, rfl, HL7, HM8, HA8⟩ := hcut
        clear HM1 HM2 HA4 HVV HSM hlen5
        obtain ⟨hb1, hb2, hb3, hb4, hb5⟩ := de_by ho HNE.out HK4.out hk HUP.out
        have HSM := Lib.hid hb3
        have HGOOD := Lib.hid hb4
        have HBAD := Lib.hid hb5
        have hn7 : n7 ≤ 4096 := by rw [HL7.out.hl]; exact hb2
        have hn8 := HM8.out.hl
        rw [List.length_drop, List.length_drop, ← HL.out] at hn8
        rw [← HL.out] at hb1
        generalize us.2.1 = c at *
        obtain ⟨lim, hlim⟩ : ∃ lim, c + 1 = lim := ⟨_, rfl⟩
        rw [hlim] at hb1 HGOOD HBAD
        have hsub : (len : Int) - (n8 : Int) = (lim : Int) := by omega
        have hlimI : (lim : Int) ≤ (len : Int) := by omega
        have hlimC : lim ≤ cap := by omega
        have hwl : IntKind.i64.wrap (lim : Int) = (lim : Int) := by rw [IntKind.wrap_i64]; omega
        have HM9 : Hid (Rd (fun b => b ≠ R) wc .u8 a8 n8 c8 (bs.drop lim)) := by
          have := HM8.out
          rw [List.drop_drop, Nat.add_comm, hlim] at this
          exact this
        clear hlim hb2 hb3 hb4 hb5 hn8 HM8 HUP
        obtain ⟨tt, htt⟩ : ∃ tt, sameB (enS v) (bs.take lim) = tt := ⟨_, rfl⟩
        have HTT := Lib.hid htt
        have HENC : Hid (∀ V, V.heap = wc.heap → Calls Try.prog 12 #[.slice a7 n7 c7] V fun e W' => ∃ v', e = .returned v' ∧ ∃ g n c : Nat, v' = .agg #[.slice (some ⟨g, 0, none⟩) n c, .int .i64 0] ∧ Rd (fun b => V.heap.size ≤ b) W' .u8 (some ⟨g, 0, none⟩) n c (enS v) ∧ Below V.heap.size V W') := fun V h => encR_some HSM.out hn7 (HL7.out.heap h)
        have HSAME : Hid (∀ V g m cc, Below W.heap.size W V → Rd (fun _ => True) V .u8 (some ⟨g, 0, none⟩) m cc (enS v) → Calls Try.prog 25 #[.slice (some ⟨g, 0, none⟩) m cc, .slice (some ⟨b, off, none⟩) lim cap] V fun e w' => e = .returned (.bool tt) ∧ Below V.heap.size V w') := fun V g m cc h1 h2 => by
          have := same_any h2 ((HRW.out.below h1).upto lim hb1)
          rw [htt] at this
          exact this
        clear htt HSM
        have hfl := fieldE0
        go_upto_region 20 with fail
        go_region_law (first
          | (refine step_call_some (by go_simp) 12 #[.tmp 62] #[22] (by rfl) #[.slice a7 n7 c7] (by go_simp) (enters_of Try.func12 (by kernel_rfl) rfl _ _) _ (HENC.out _ (by rfl)) ?_
             rintro v' w9 ⟨g, m, cc, rfl, hr9, hb9⟩
             have HA9 : Hid (DeAt W w9 R) := HA8.out.below ((below_drew (Below.refl _ wc)).trans hb9)
             have HL9 : Hid (Rd (fun b => b ≠ R) w9 .i64 a7 n7 c7 v) := HL7.out.below ((below_drew (Below.refl _ wc)).trans hb9)
             have HM9' : Hid (Rd (fun b => b ≠ R) w9 .u8 a8 n8 c8 (bs.drop lim)) := HM9.out.below ((below_drew (Below.refl _ wc)).trans hb9)
             have HG9 : Hid (Rd (fun _ => True) w9 .u8 (some ⟨g, 0, none⟩) m cc (enS v)) := hr9.mono fun _ _ _ => trivial
             clear hr9 hb9)
          | (refine step_call_want (by go_simp) 25 #[.tmp 64, .tmp 71] #[25, 25] (by rfl) #[.slice (some ⟨g, 0, none⟩) m cc, .slice (some ⟨b, off, none⟩) lim cap] (by go_simp) (enters_of Try.func25 (by kernel_rfl) rfl _ _) _ _ (HSAME.out _ _ _ _ HA9.out.b HG9.out) ?_
             intro w10 hb10
             have HAa : Hid (DeAt W w10 R) := HA9.out.below hb10
             have HLa : Hid (Rd (fun b => b ≠ R) w10 .i64 a7 n7 c7 v) := HL9.out.below hb10
             have HMa : Hid (Rd (fun b => b ≠ R) w10 .u8 a8 n8 c8 (bs.drop lim)) := HM9'.out.below hb10
             clear hb10))
        all_goals
          (try simp [Act.put])
          obtain ⟨q0, q1, q2⟩ := HAa.out.q.cell
          have f0 := HAa.out.q.f 0
          have f1 := HAa.out.q.f 1
          have f2 := HAa.out.q.f 2
          have qlt := HAa.out.q.lt
          cases tt with
          | true =>
            have HD : Hid (deS bs = (v, lim, 0)) := HGOOD.out (by
              have := HTT.out
              by_cases he : enS v = bs.take lim
              · exact he
              · rw [sameB_false he] at this; cases this)
            go_wp2
            refine bodyPost_ret (v := .agg #[.slice a7 n7 c7, .slice a8 n8 c8, .int .i64 0]) (by simp [results, Try.results28, go_sem, q0, q1, q2]) rfl (DeGot.good HD.out (HAa.out.put _ _ _) rfl ?_ ?_)
            · exact (((HLa.out.set ⟨R, 0, none⟩ _ (fun h => h rfl)).set ⟨R, 1, none⟩ _ (fun h => h rfl)).set ⟨R, 2, none⟩ _ (fun h => h rfl)).mono fun _ _ _ => trivial
            · exact (((HMa.out.set ⟨R, 0, none⟩ _ (fun h => h rfl)).set ⟨R, 1, none⟩ _ (fun h => h rfl)).set ⟨R, 2, none⟩ _ (fun h => h rfl)).mono fun _ _ _ => trivial
          | false =>
            have HD : Hid (deS bs = ([], 0, 5)) := HBAD.out (fun he => by
              have := HTT.out
              rw [sameB_true he] at this; cases this)
            go_wp2
            exact bodyPost_ret (v := .agg #[.slice none 0 0, .slice none 0 0, .int .i64 5]) (by simp [results, Try.results28, go_sem, q0, q1, q2]) rfl (DeGot.bad HD.out (by decide) (HAa.out.put _ _ _) rfl)
  · obtain ⟨x, hxe⟩ : ∃ x, (unS (bs.drop 1)).2.2 = x := ⟨_, rfl⟩
    rw [hxe] at hx ⊢
    have HD : Hid (deS bs = ([], 0, x)) := de_bad HNE.out HK4.out hk (upk_un_bad hxe hx) hx
    have HX := Lib.hid hx
    have hxb : (x == 0) = false := by rw [beq_eq_false_iff_ne]; exact hx
    have hxn : (x != 0) = true := by rw [bne_iff_ne]; exact hx
    clear hxe hx HB01 HA0 hRV
    simp only [gotV]
    go_upto_region 6 with fail
    have hbF : Below w1.heap.size w1 (w1.alloc (.cells #[.int .u64 0, .slice none 0 0, .slice none 0 0, .int .i64 x] 94)) := (Below.refl _ _).alloc (Nat.le_refl _) _
    have HF := Lib.hid (Quad.new w1 94 (.int .u64 0) (.slice none 0 0) (.slice none 0 0) (.int .i64 x))
    have HA2 := Lib.hid (HA1.out.below hbF)
    obtain ⟨F, hF⟩ : ∃ F, w1.heap.size = F := ⟨_, rfl⟩
    rw [hF] at HF ⊢
    clear hbF hF HA1
    generalize w1.alloc (.cells #[.int .u64 0, .slice none 0 0, .slice none 0 0, .int .i64 x] 94) = V2 at *
    have r3 := HF.out.cell.2.2.2
    obtain ⟨q0, q1, q2⟩ := HA2.out.q.cell
    have f0 := HA2.out.q.f 0
    have f1 := HA2.out.q.f 1
    have f2 := HA2.out.q.f 2
    have qlt := HA2.out.q.lt
    go_wp2
    exact bodyPost_ret (v := .agg #[.slice none 0 0, .slice none 0 0, .int .i64 x]) (by simp [results, Try.results28, go_sem, q0, q1, q2]) rfl (DeGot.bad HD.out HX.out (HA2.out.put _ _ _) rfl)

theorem decodeR_any {K : Nat → Prop} {a : Option Addr} {len cap : Nat} {bs : List Int} (ho : Oct bs) {W : World} (hR : Rd K W .u8 a len cap bs) :
    Calls Try.prog 28 #[.slice a len cap] W (DeGot bs W) := by
  by_cases h0 : 0 < len
  · obtain ⟨b, off, rfl, _, _, _⟩ := hR.cells h0
    by_cases h4 : (4 : Int) ≤ bs[0]?.getD 0
    · exact decodeR_four h0 ho h4 hR
    · obtain ⟨k, hk⟩ := Int.eq_ofNat_of_zero_le (ho.getD 0).1
      exact decodeR_low h0 ho k (by omega) hk hR
  · obtain rfl : len = 0 := by omega
    obtain rfl : bs = [] := List.eq_nil_of_length_eq_zero hR.hl.symm
    exact decodeR_none a cap W

end Go.Proofs.Ytmbcppkdnoccbaa

namespace Go.Proofs.Ytmbcppkdnoccbaa
open Go.RowKit Go.Shelf Go.ChangeShapes Go.WideShapes Go.ChangeAt

theorem decoded_p {K : Nat → Prop} {a : Option Addr} {len cap : Nat} {bs : List Int} (ho : Oct bs) {W : World} (hR : Rd K W .u8 a len cap bs) :
    Calls Try.prog 27 #[.slice a len cap] W (DeGot bs W) := by
  by_cases h : (deS bs).2.2 = 0
  · have e : deS bs = ((deS bs).1, (deS bs).2.1, 0) := by rw [← h]
    refine (decoded_good ho hR e).mono ?_
    rintro e' W' ⟨hb, a1, n1, c1, a2, m, he, h1, h2⟩
    exact .good e hb he (h1.mono fun _ _ _ => trivial) ((h2.below hb).mono fun _ _ _ => trivial)
  · refine (decoded_bad ho hR h rfl).mono ?_
    rintro e' W' ⟨he, hb⟩
    have h1 : (deS bs).1 = [] := by
      unfold deS at h ⊢
      split
      · rfl
      · split
        · rfl
        · split
          · rfl
          · split
            · rfl
            · rename_i h1 h2 h3 h4
              exact absurd (by rw [if_neg h1, if_neg h2, if_neg h3, if_neg h4]) h
    exact ⟨hb, none, 0, 0, none, 0, 0, he, by rw [h1]; exact Rd.empty, by unfold dR; rw [if_neg h]; exact Rd.empty⟩

set_option maxRecDepth 100000 in
set_option maxHeartbeats 2000000 in
theorem gotSame_true {K1 K2 K3 K4 : Nat → Prop} {a1 a2 a3 a4 : Option Addr} {n1 c1 n2 c2 n3 c3 n4 c4 : Nat} {xs ys : List Int} (x : Int) {W : World} (h1 : Rd K1 W .i64 a1 n1 c1 xs) (h2 : Rd K2 W .u8 a2 n2 c2 ys) (h3 : Rd K3 W .i64 a3 n3 c3 xs) (h4 : Rd K4 W .u8 a4 n4 c4 ys) :
    Calls Try.prog 26 #[.agg #[.slice a1 n1 c1, .slice a2 n2 c2, .int .i64 x], .agg #[.slice a3 n3 c3, .slice a4 n4 c4, .int .i64 x]] W fun e W' => e = .returned (.bool true) ∧ Below W.heap.size W W' := by
  have hbA : Below W.heap.size W ((W.alloc (.cells #[.slice a1 n1 c1, .slice a2 n2 c2, .int .i64 x] 46)).alloc (.cells #[.slice a3 n3 c3, .slice a4 n4 c4, .int .i64 x] 46)) := ((Below.refl _ _).alloc (Nat.le_refl _) _).alloc (by simp) _
  have T1 := (Tri.new W 46 (.slice a1 n1 c1) (.slice a2 n2 c2) (.int .i64 x)).below (n := W.heap.size + 1) (V := (W.alloc (.cells #[.slice a1 n1 c1, .slice a2 n2 c2, .int .i64 x] 46)).alloc (.cells #[.slice a3 n3 c3, .slice a4 n4 c4, .int .i64 x] 46)) ((Below.refl _ _).alloc (by simp) _) (Nat.lt_succ_self _)
  have T2 := Tri.new (W.alloc (.cells #[.slice a1 n1 c1, .slice a2 n2 c2, .int .i64 x] 46)) 46 (.slice a3 n3 c3) (.slice a4 n4 c4) (.int .i64 x)
  simp only [World.size_alloc] at T2
  have HT1 := Lib.hid T1
  have HT2 := Lib.hid T2
  have HBA := Lib.hid hbA
  have H1 := Lib.hid (h1.below hbA)
  have H2 := Lib.hid (h2.below hbA)
  have H3 := Lib.hid (h3.below hbA)
  have H4 := Lib.hid (h4.below hbA)
  have hxx : (x == x) = true := by simp
  clear h1 h2 h3 h4 hbA T1 T2
  obtain ⟨B, hB⟩ : ∃ B, W.heap.size = B := ⟨_, rfl⟩
  rw [hB] at HT1 HT2
  go_enter Try.func26, Try.ntmps26
  go_upto_region 1 with fail
  try rw [hB]
  clear hB
  generalize (W.alloc (.cells #[.slice a1 n1 c1, .slice a2 n2 c2, .int .i64 x] 46)).alloc (.cells #[.slice a3 n3 c3, .slice a4 n4 c4, .int .i64 x] 46) = V at *
  obtain ⟨p0, p1, p2⟩ := HT1.out.cell
  obtain ⟨q0, q1, q2⟩ := HT2.out.cell
  go_wp2_with fail
  clear p0 p1 p2 q0 q1 q2
  refine (ints_any H1.out H3.out).mono ?_
  rw [sameB_true rfl]
  rintro e w1 ⟨rfl, hb1⟩
  have hT1 := HT1.out.below hb1 HT1.out.lt
  have hT2 := HT2.out.below hb1 HT2.out.lt
  obtain ⟨p0, p1, p2⟩ := hT1.cell
  obtain ⟨q0, q1, q2⟩ := hT2.cell
  have HB1 := Lib.hid hb1
  clear hb1 hT1 hT2
  go_wp2_with fail
  refine (same_any (H2.out.below HB1.out) (H4.out.below HB1.out)).mono ?_
  rw [sameB_true rfl]
  rintro e w2 ⟨rfl, hb2⟩
  have HB2 := Lib.hid hb2
  clear hb2
  go_wp2
  go_ret
  exact ⟨rfl, HBA.out.trans ((HB1.out.trans (HB2.out.mono HB1.out.size)).mono HBA.out.size)⟩

/-- What a statement that expands on both sides leaves. -/
def TwoAt (V wx : World) (A B : Nat) (xl : List Int) (xe : Int) : Prop :=
  Below V.heap.size V wx ∧ ∃ a5 n5 c5 a6 n6 c6, Pair wx A 36 (.slice a5 n5 c5) (.int .i64 xe) ∧ Pair wx B 36 (.slice a6 n6 c6) (.int .i64 xe) ∧ Rd (fun _ => True) wx .i64 a5 n5 c5 xl ∧ Rd (fun _ => True) wx .i64 a6 n6 c6 xl

theorem pair_put {W : World} {B : Nat} {t : TypeId} {a b a' b' : Value} (h : Pair W B t a b) : Pair ((W.setCell ⟨B, 0, none⟩ a').setCell ⟨B, 1, none⟩ b') B t a' b' := by
  have h : W.heap[B]? = _ := h
  unfold Pair World.setCell
  simp only []
  rw [Array.getElem?_modify, if_pos rfl, Array.getElem?_modify, if_pos rfl, h]
  rfl
theorem pair_by {W : World} {B b : Nat} {t : TypeId} {x y : Value} (h : Pair W B t x y) (hne : B ≠ b) (o : Nat) (v : Value) : Pair (W.setCell ⟨b, o, none⟩ v) B t x y := (Below.heap_setCell _ _ _ _ hne).trans h

/-- Both blocks stood there ahead of the stores. -/
theorem two_old {V U : World} (hb : Below V.heap.size V U) {A B : Nat} {x y x' y' : Value} (hA : Pair U A 36 x y) (hB : Pair U B 36 x' y') (hAB : A ≠ B) (hVA : V.heap.size ≤ A) (hVB : V.heap.size ≤ B)
    {a5 a6 : Option Addr} {n5 c5 n6 c6 : Nat} {xl : List Int} {xe : Int} (h5 : Rd (fun b => b ≠ A ∧ b ≠ B) U .i64 a5 n5 c5 xl) (h6 : Rd (fun b => b ≠ A ∧ b ≠ B) U .i64 a6 n6 c6 xl) :
    TwoAt V ((((U.setCell ⟨A, 0, none⟩ (.slice a5 n5 c5)).setCell ⟨A, 1, none⟩ (.int .i64 xe)).setCell ⟨B, 0, none⟩ (.slice a6 n6 c6)).setCell ⟨B, 1, none⟩ (.int .i64 xe)) A B xl xe := by
  refine ⟨(((hb.setCell hVA _).setCell hVA _).setCell hVB _).setCell hVB _, a5, n5, c5, a6, n6, c6, ?_, ?_, ?_, ?_⟩
  · exact pair_by (pair_by (pair_put hA) hAB _ _) hAB _ _
  · exact pair_put (pair_by (pair_by hB (Ne.symm hAB) _ _) (Ne.symm hAB) _ _)
  · exact ((((h5.set ⟨A, 0, none⟩ _ (fun h => h.1 rfl)).set ⟨A, 1, none⟩ _ (fun h => h.1 rfl)).set ⟨B, 0, none⟩ _ (fun h => h.2 rfl)).set ⟨B, 1, none⟩ _ (fun h => h.2 rfl)).mono fun _ _ _ => trivial
  · exact ((((h6.set ⟨A, 0, none⟩ _ (fun h => h.1 rfl)).set ⟨A, 1, none⟩ _ (fun h => h.1 rfl)).set ⟨B, 0, none⟩ _ (fun h => h.2 rfl)).set ⟨B, 1, none⟩ _ (fun h => h.2 rfl)).mono fun _ _ _ => trivial

theorem set_size (W : World) (p q : Addr) (x y : Value) : ((W.setCell p x).setCell q y).heap.size = W.heap.size := by simp [World.setCell]
/-- The second block was made behind the calls. -/
theorem two_late {V U : World} (hb : Below V.heap.size V U) {A : Nat} {x y : Value} (hA : Pair U A 36 x y) (hVA : V.heap.size ≤ A)
    {a5 a6 : Option Addr} {n5 c5 n6 c6 : Nat} {xl : List Int} {xe : Int} (h5 : Rd (fun b => b ≠ A) U .i64 a5 n5 c5 xl) (h6 : Rd (fun b => b ≠ A) U .i64 a6 n6 c6 xl) :
    TwoAt V (((U.setCell ⟨A, 0, none⟩ (.slice a5 n5 c5)).setCell ⟨A, 1, none⟩ (.int .i64 xe)).alloc (.cells #[.slice a6 n6 c6, .int .i64 xe] 36)) A U.heap.size xl xe := by
  have hb2 : Below V.heap.size V ((U.setCell ⟨A, 0, none⟩ (.slice a5 n5 c5)).setCell ⟨A, 1, none⟩ (.int .i64 xe)) := (hb.setCell hVA _).setCell hVA _
  have hal : Below ((U.setCell ⟨A, 0, none⟩ (.slice a5 n5 c5)).setCell ⟨A, 1, none⟩ (.int .i64 xe)).heap.size ((U.setCell ⟨A, 0, none⟩ (.slice a5 n5 c5)).setCell ⟨A, 1, none⟩ (.int .i64 xe)) (((U.setCell ⟨A, 0, none⟩ (.slice a5 n5 c5)).setCell ⟨A, 1, none⟩ (.int .i64 xe)).alloc (.cells #[.slice a6 n6 c6, .int .i64 xe] 36)) := (Below.refl _ _).alloc (Nat.le_refl _) _
  refine ⟨hb2.alloc hb2.size _, a5, n5, c5, a6, n6, c6, (pair_put hA).alloc _, ?_, ?_, ?_⟩
  · have := Pair.new ((U.setCell ⟨A, 0, none⟩ (.slice a5 n5 c5)).setCell ⟨A, 1, none⟩ (.int .i64 xe)) 36 (.slice a6 n6 c6) (.int .i64 xe)
    rw [set_size] at this
    exact this
  · exact (((h5.set ⟨A, 0, none⟩ _ (fun h => h rfl)).set ⟨A, 1, none⟩ _ (fun h => h rfl)).below hal).mono fun _ _ _ => trivial
  · exact (((h6.set ⟨A, 0, none⟩ _ (fun h => h rfl)).set ⟨A, 1, none⟩ _ (fun h => h rfl)).below hal).mono fun _ _ _ => trivial
theorem TwoAt.swap {V wx : World} {A B : Nat} {xl : List Int} {xe : Int} (h : TwoAt V wx A B xl xe) : TwoAt V wx B A xl xe := by
  obtain ⟨hb, a5, n5, c5, a6, n6, c6, h1, h2, h3, h4⟩ := h
  exact ⟨hb, a6, n6, c6, a5, n5, c5, h2, h1, h4, h3⟩
/-- Both blocks were made behind the calls. -/
theorem two_both {V U : World} (hb : Below V.heap.size V U) {a5 a6 : Option Addr} {n5 c5 n6 c6 : Nat} {xl : List Int} {xe : Int} {K1 K2 : Nat → Prop} (h5 : Rd K1 U .i64 a5 n5 c5 xl) (h6 : Rd K2 U .i64 a6 n6 c6 xl) :
    TwoAt V ((U.alloc (.cells #[.slice a5 n5 c5, .int .i64 xe] 36)).alloc (.cells #[.slice a6 n6 c6, .int .i64 xe] 36)) U.heap.size (U.heap.size + 1) xl xe := by
  have hal : Below U.heap.size U ((U.alloc (.cells #[.slice a5 n5 c5, .int .i64 xe] 36)).alloc (.cells #[.slice a6 n6 c6, .int .i64 xe] 36)) := ((Below.refl _ _).alloc (Nat.le_refl _) _).alloc (by simp) _
  refine ⟨hb.trans (hal.mono hb.size), a5, n5, c5, a6, n6, c6, (Pair.new U _ _ _).alloc _, ?_, (h5.below hal).mono fun _ _ _ => trivial, (h6.below hal).mono fun _ _ _ => trivial⟩
  have := Pair.new (U.alloc (.cells #[.slice a5 n5 c5, .int .i64 xe] 36)) 36 (.slice a6 n6 c6) (.int .i64 xe)
  rw [World.size_alloc] at this
  exact this

end Go.Proofs.Ytmbcppkdnoccbaa
