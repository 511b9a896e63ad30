/-
  The reference's number out of bits. What the reference's reading back comes to, as functions on lists. The reference's reading back. What the reference reads of any bytes. The reference's opening and splitting.
-/
import Derived.Test.YtkfmgiacdlkmiaaCtmA
import Derived.Test.YtkfmgiacdlkmiaaCtmD
import Derived.Test.YtkfmgiacdlkmiaaCtRef2
import Derived.Test.YtkfmgiacdlkmiaaCtWrap
import Derived.StillTailTactics
import Derived.Lib.QuietBelow
import Derived.Test.YtkfmgiacdlkmiaaCtSplit2
namespace Go.Proofs.Ytkfmgiacdlkmiaa
open Go.RowKit Go.ChangeShapes Go.WideShapes Go.ChangeAt

theorem or_one (a : Int) (k : Nat) (ha : 0 ≤ a ∧ a < 2 ^ k) (hk : k < 64) : bits BinOp.or IntKind.u64 a (IntKind.u64.wrap (2 ^ k)) = a + 2 ^ k ∧ IntKind.u64.wrap ((2 : Int) ^ k) = 2 ^ k := by
  obtain ⟨m, rfl⟩ := Int.eq_ofNat_of_zero_le ha.1
  have hm : m < 2 ^ k := by have := ha.2; exact_mod_cast this
  have h63 : (2 : Nat) ^ k ≤ 2 ^ 63 := Nat.pow_le_pow_right (by decide) (by omega)
  have h64 : (2 : Nat) ^ 63 = 9223372036854775808 := rfl
  have e2 : ((2 : Int) ^ k) = ((2 ^ k : Nat) : Int) := by push_cast; rfl
  have e4 := Nat.shiftLeft_add_eq_or_of_lt hm 1
  rw [Nat.shiftLeft_eq, Nat.one_mul] at e4
  obtain ⟨P, hP⟩ : ∃ P : Nat, 2 ^ k = P := ⟨_, rfl⟩
  rw [hP] at hm h63 e4
  rw [e2, hP]
  have e3 : IntKind.u64.wrap ((P : Nat) : Int) = (P : Int) := by rw [IntKind.wrap_u64]; omega
  rw [e3, bits_or_u64_nat _ _ (by omega) (by omega), Nat.or_comm, ← e4]
  exact ⟨by omega, rfl⟩

set_option maxRecDepth 100000 in
set_option maxHeartbeats 4000000 in
theorem bitsR_any {K : Nat → Prop} {a : Option Addr} {len cap : Nat} {bs : List Int} (ho : Oct bs) {W : World} (hR : Rd K W .u8 a len cap bs) (at_ w : Nat) (hw : w ≤ 64) (hat : at_ + w ≤ 8 * len) :
    Calls Try.prog 56 #[.slice a len cap, .int .i64 at_, .int .i64 w] W fun e W' => e = .returned (.int .u64 (bitN bs at_ w)) ∧ W = W' := by
  have HR := Lib.hid hR
  have hfit := hR.fit
  have htop := hR.top
  have hsmall := hR.small
  have HL : Hid (len = bs.length) := hR.hl
  clear hR
  go_enter Try.func56, Try.ntmps56
  go_wp2
  go_loop [7, 8] (fun d i => ∃ k : Nat, k ≤ w ∧ i = .int .i64 k ∧ d = .int .u64 (bitN bs at_ k)) (fun _ i => w - (intOf i).toNat)
  case atStart => exact ⟨0, Nat.zero_le _, rfl, by rw [bitN_zero]⟩
  case round =>
    obtain ⟨k, hk, rfl, rfl⟩ := hrel
    by_cases hlt : k < w
    · have hkI : (k : Int) < (w : Int) := by omega
      obtain ⟨b, off, rfl, _, _, hcs⟩ := HR.out.cells (by omega)
      have hj : (at_ + k) / 8 < len := by omega
      have hcx := hcs _ hj
      have hx := ho.getD ((at_ + k) / 8)
      have hsc := bitN_succ bs at_ k (by have := HL.out; omega)
      have hrg := bitN_range (bs := bs) at_ k
      have hand := and1_u8 _ ((at_ + k) % 8) hx
      obtain ⟨hor, hwr⟩ := or_one _ k hrg (by omega)
      have hb01 : bs[(at_ + k) / 8]?.getD 0 / 2 ^ ((at_ + k) % 8) % 2 = 0 ∨ bs[(at_ + k) / 8]?.getD 0 / 2 ^ ((at_ + k) % 8) % 2 = 1 := by omega
      obtain ⟨x, hxe⟩ : ∃ x, bs[(at_ + k) / 8]?.getD 0 = x := ⟨_, rfl⟩
      rw [hxe] at hcx hx hsc hand hb01
      obtain ⟨p, hp⟩ : ∃ p, at_ + k = p := ⟨_, rfl⟩
      have hpI : (at_ : Int) + (k : Int) = (p : Int) := by omega
      rw [hp] at hcx hsc hand hb01 hj
      have hd8 : (p : Int) / 8 = ((p / 8 : Nat) : Int) := by omega
      have hm8 : (p : Int) % 8 = ((p % 8 : Nat) : Int) := by omega
      have hm8' : p % 8 < 8 := Nat.mod_lt _ (by decide)
      obtain ⟨p8, hp8e⟩ : ∃ z, p / 8 = z := ⟨_, rfl⟩
      obtain ⟨pm, hpme⟩ : ∃ z, p % 8 = z := ⟨_, rfl⟩
      rw [hp8e] at hd8 hcx hj
      rw [hpme] at hm8 hm8' hand hb01 hsc
      obtain ⟨hx1, hx2⟩ := hx
      obtain ⟨d, hd⟩ : ∃ d, bitN bs at_ k = d := ⟨_, rfl⟩
      rw [hd] at hsc hrg hor ⊢
      obtain ⟨hr1, hr2⟩ := hrg
      have hpb : p ≤ 8 * 140737488351232 := by omega
      rcases hb01 with hb | hb
      · rw [hb] at hsc hand
        rw [Int.zero_mul, Int.add_zero] at hsc
        have HSC := Lib.hid hsc
        clear hsc hb hcs hxe hp hp8e hpme hd
        go_wp2
        go_round
        case rel => exact ⟨k + 1, by omega, by go_num, by rw [HSC.out]⟩
        case measure => simp [intOf]; omega
      · rw [hb] at hsc hand
        rw [Int.one_mul] at hsc
        have HSC := Lib.hid hsc
        clear hsc hb hcs hxe hp hp8e hpme hd
        rw [hwr] at hor
        go_wp2
        go_round
        case rel => exact ⟨k + 1, by omega, by go_num, by rw [HSC.out]⟩
        case measure => simp [intOf]; omega
    · obtain rfl : k = w := by omega
      have hkI : ¬ (k : Int) < (k : Int) := by omega
      go_wp2
      go_ret
      exact ⟨rfl, rfl⟩

end Go.Proofs.Ytkfmgiacdlkmiaa

namespace Go.Proofs.Ytkfmgiacdlkmiaa
open Go.RowKit

theorem allBits_take (bs : List Int) (s : Nat) (hs : s ≤ bs.length) : allBits 8 (bs.take s) = (allBits 8 bs).take (8 * s) := by
  have h : allBits 8 bs = allBits 8 (bs.take s) ++ allBits 8 (bs.drop s) := by
    unfold allBits
    rw [← List.flatMap_append, List.take_append_drop]
  rw [h, List.take_left' (by rw [allBits_length, List.length_take]; omega)]

theorem up_at (b : Int) (wd n : Nat) (bs : List Int) (hs : (n * wd + 7) / 8 ≤ bs.length) (i : Nat) (hi : i < n) : (upList b wd n bs)[i]?.getD 0 = wrap64 (b + bitN bs (i * wd) wd) := by
  have hle : i * wd + wd ≤ n * wd := by
    have : (i + 1) * wd ≤ n * wd := Nat.mul_le_mul hi (Nat.le_refl _)
    rw [Nat.succ_mul] at this
    exact this
  unfold upList
  rw [elB_at _ _ _ _ _ _ hi]
  unfold elV bitN upBits
  have hlen : (allBits 8 (bs.take ((n * wd + 7) / 8))).length = (n * wd + 7) / 8 * 8 := by rw [allBits_length, List.length_take]; omega
  rw [hlen, Nat.mul_comm wd i, show min wd ((n * wd + 7) / 8 * 8 - i * wd) = wd by omega, allBits_take _ _ hs, List.drop_take, List.take_take, show min wd (8 * ((n * wd + 7) / 8) - i * wd) = wd by omega]

theorem up_len (b : Int) (wd n : Nat) (bs : List Int) : (upList b wd n bs).length = n := by unfold upList; exact elB_length ..
theorem up_small (b : Int) (wd n : Nat) (bs : List Int) : Smalls (upList b wd n bs) := by
  intro x hx
  unfold upList elB at hx
  obtain ⟨e, _, rfl⟩ := List.mem_map.1 hx
  unfold elV I64 wrap64
  omega

/-- The head of what is read back: how many, the base, the width. -/
structure HdS (bs : List Int) (n : Nat) (b : Int) (wd c1 c2 : Nat) : Prop where
  rd : rdS bs = ((n : Int), c1, 0)
  pos : 1 ≤ n
  le : n ≤ 4096
  fr : frS (bs.drop c1) = ((b, (wd : Int)), c2, 0)

theorem HdS.un {bs : List Int} {n : Nat} {b : Int} {wd c1 c2 : Nat} (h : HdS bs n b wd c1 c2) :
    unS bs = if (upS b wd n ((bs.drop c1).drop c2)).2.2 ≠ 0 then ([], 0, (upS b wd n ((bs.drop c1).drop c2)).2.2) else ((upS b wd n ((bs.drop c1).drop c2)).1, c1 + (c2 + (upS b wd n ((bs.drop c1).drop c2)).2.1), 0) := by
  have h1 := h.pos
  have h2 := h.le
  unfold unS
  rw [h.rd]
  simp only []
  rw [if_neg (by simp), if_neg (by omega), if_neg (by omega), h.fr]
  simp only [Int.toNat_natCast]
  rw [if_neg (by simp)]
theorem HdS.short {bs : List Int} {n : Nat} {b : Int} {wd c1 c2 : Nat} (h : HdS bs n b wd c1 c2) (hs : ((bs.drop c1).drop c2).length < (n * wd + 7) / 8) : (unS bs).2.2 = 7 := by
  rw [h.un]
  have : upS b wd n ((bs.drop c1).drop c2) = ([], 0, 7) := by unfold upS; rw [if_pos hs]
  rw [this]; rfl
theorem HdS.wrong {bs : List Int} {n : Nat} {b : Int} {wd c1 c2 : Nat} (h : HdS bs n b wd c1 c2) (hs : (n * wd + 7) / 8 ≤ ((bs.drop c1).drop c2).length) (ho : upOk b wd n ((bs.drop c1).drop c2) = false) : (unS bs).2.2 = 5 := by
  rw [h.un]
  have : upS b wd n ((bs.drop c1).drop c2) = ([], 0, 5) := by unfold upS; rw [if_neg (by omega), ho]; rfl
  rw [this]; rfl
theorem HdS.low {bs : List Int} {n : Nat} {b : Int} {wd c1 c2 : Nat} (h : HdS bs n b wd c1 c2) (hs : (n * wd + 7) / 8 ≤ ((bs.drop c1).drop c2).length) (i : Nat) (hi : i < n) (hlo : wrap64 (b + bitN ((bs.drop c1).drop c2) (i * wd) wd) < b) : (unS bs).2.2 = 5 := by
  refine h.wrong hs ?_
  have h1 := up_at b wd n _ hs i hi
  have hil : i < (upList b wd n ((bs.drop c1).drop c2)).length := by rw [up_len]; exact hi
  rw [List.getElem?_eq_getElem hil, Option.getD_some] at h1
  have h2 := min_le _ _ (List.getElem_mem hil)
  rw [h1] at h2
  unfold upOk
  have : (minS (upList b wd n ((bs.drop c1).drop c2)) == b) = false := by rw [beq_eq_false_iff_ne]; omega
  rw [this]; simp
theorem HdS.good {bs : List Int} {n : Nat} {b : Int} {wd c1 c2 : Nat} (h : HdS bs n b wd c1 c2) (hs : (n * wd + 7) / 8 ≤ ((bs.drop c1).drop c2).length)
    (he : packS (upList b wd n ((bs.drop c1).drop c2)) = bs.take (c1 + c2 + (n * wd + 7) / 8)) : unS bs = (upList b wd n ((bs.drop c1).drop c2), c1 + c2 + (n * wd + 7) / 8, 0) := by
  have hl : (packS (upList b wd n ((bs.drop c1).drop c2))).length = c1 + c2 + (n * wd + 7) / 8 := by
    rw [he, List.length_take]
    simp only [List.length_drop] at hs
    have := h.rd
    have hp := h.pos
    by_cases hz : (n * wd + 7) / 8 = 0
    · have hf := h.fr
      unfold frS at hf
      split at hf
      · rename_i hne; simp only [Prod.mk.injEq] at hf; exact absurd hf.2.2 hne
      · split at hf
        · simp at hf
        · split at hf
          · simp at hf
          · rename_i _ h3 _
            simp only [Prod.mk.injEq] at hf
            obtain ⟨_, h4, _⟩ := hf
            simp only [List.length_drop] at h3
            omega
    · omega
  have hb : bs = packS (upList b wd n ((bs.drop c1).drop c2)) ++ bs.drop (c1 + c2 + (n * wd + 7) / 8) := by
    rw [he]; exact (List.take_append_drop _ _).symm
  have h2 := un_pack (up_small b wd n ((bs.drop c1).drop c2)) (by rw [up_len]; exact h.le) (bs.drop (c1 + c2 + (n * wd + 7) / 8))
  rw [← hb, hl] at h2
  exact h2
theorem HdS.bad {bs : List Int} (ho : Oct bs) {n : Nat} {b : Int} {wd c1 c2 : Nat} (h : HdS bs n b wd c1 c2) (hs : (n * wd + 7) / 8 ≤ ((bs.drop c1).drop c2).length)
    (he : packS (upList b wd n ((bs.drop c1).drop c2)) ≠ bs.take (c1 + c2 + (n * wd + 7) / 8)) : (unS bs).2.2 = 5 := by
  cases hk : upOk b wd n ((bs.drop c1).drop c2) with
  | false => exact h.wrong hs hk
  | true =>
    exfalso
    have hu : upS b wd n ((bs.drop c1).drop c2) = (upList b wd n ((bs.drop c1).drop c2), (n * wd + 7) / 8, 0) := by unfold upS; rw [if_neg (by omega), hk]; rfl
    have hx := h.un
    rw [hu] at hx
    simp only [ne_eq, not_true_eq_false, if_false] at hx
    obtain ⟨_, h2, h3⟩ := un_canon ho hx
    refine he ?_
    have h4 : c1 + c2 + (n * wd + 7) / 8 = c1 + (c2 + (n * wd + 7) / 8) := by omega
    rw [h4]
    conv => rhs; rw [h3]
    rw [List.take_left' h2.symm]

end Go.Proofs.Ytkfmgiacdlkmiaa

namespace Go.Proofs.Ytkfmgiacdlkmiaa
open Go.RowKit Go.ChangeShapes Go.WideShapes Go.ChangeAt

theorem Try.infoN4 : (Try.prog.info? 3).map (fun i => (i.zero, i.size, i.bytes)) = some (some (.int .i64 0), 1, 8) := by kernel_rfl

/-- What the reference's reading back comes to. -/
def UnRPost (K : Nat → Prop) (bs : List Int) (W : World) (e : Ending) (W' : World) : Prop :=
  Below W.heap.size W W' ∧ (((unS bs).2.2 = 0 ∧ ∃ a1 n1 c1 a2 n2 c2, e = .returned (gotV 0 (.slice a1 n1 c1) (.slice a2 n2 c2) 0) ∧ Rd (fun b => W.heap.size ≤ b) W' .i64 a1 n1 c1 (unS bs).1 ∧ Rd K W .u8 a2 n2 c2 (bs.drop (unS bs).2.1)) ∨
    ((unS bs).2.2 ≠ 0 ∧ e = .returned (gotV 0 (.slice none 0 0) (.slice none 0 0) (unS bs).2.2)))
theorem UnRPost.bad {K : Nat → Prop} {bs : List Int} {W W' : World} {e : Ending} {x : Int} (hb : Below W.heap.size W W') (h : (unS bs).2.2 = x) (hx : x ≠ 0) (he : e = .returned (gotV 0 (.slice none 0 0) (.slice none 0 0) x)) : UnRPost K bs W e W' :=
  ⟨hb, .inr ⟨by rw [h]; exact hx, by rw [h]; exact he⟩⟩
theorem below_four {W V : World} (h : Below W.heap.size W V) (R : Nat) (hR : W.heap.size ≤ R) (a b c d : Value) : Below W.heap.size W ((((V.setCell ⟨R, 0, none⟩ a).setCell ⟨R, 1, none⟩ b).setCell ⟨R, 2, none⟩ c).setCell ⟨R, 3, none⟩ d) :=
  (((h.setCell hR _).setCell hR _).setCell hR _).setCell hR _

/-- The first of a slice that reads. -/
theorem Rd.upto {K : Nat → Prop} {W : World} {k : IntKind} {a : Option Addr} {len cap : Nat} {zs : List Int} (h : Rd K W k a len cap zs) (m : Nat) (hm : m ≤ len) : Rd K W k a m cap (zs.take m) := by
  refine ⟨by rw [List.length_take, ← h.hl]; omega, Nat.le_trans hm h.fit, h.top, Nat.le_trans hm h.small, fun h0 => ?_⟩
  obtain ⟨b, off, e, hb, hlt, hc⟩ := h.cells (by omega)
  exact ⟨b, off, e, hb, hlt, fun j hj => by rw [hc j (by omega), List.getElem?_take_of_lt hj]⟩

theorem un_rd {bs : List Int} {x : Int} (h : (rdS bs).2.2 = x) (hx : x ≠ 0) : (unS bs).2.2 = x := by unfold unS; rw [if_pos (by rw [h]; exact hx)]; exact h
theorem un_big {bs : List Int} (h : (rdS bs).2.2 = 0) (hb : 4096 < (rdS bs).1) : (unS bs).2.2 = 5 := by unfold unS; rw [if_neg (by simp [h]), if_pos hb]
theorem un_none {bs : List Int} (h : (rdS bs).2.2 = 0) (hb : (rdS bs).1 = 0) : unS bs = ([], (rdS bs).2.1, 0) := by unfold unS; rw [if_neg (by simp [h]), if_neg (by omega), if_pos hb]
theorem un_fr {bs : List Int} (h : (rdS bs).2.2 = 0) (hb : ¬ 4096 < (rdS bs).1) (h0 : (rdS bs).1 ≠ 0) {x : Int} (hf : (frS (bs.drop (rdS bs).2.1)).2.2 = x) (hx : x ≠ 0) : (unS bs).2.2 = x := by
  unfold unS; rw [if_neg (by simp [h]), if_neg hb, if_neg h0, if_pos (by rw [hf]; exact hx)]; exact hf

set_option maxRecDepth 100000 in
set_option maxHeartbeats 3000000 in
theorem unpackR_any {K : Nat → Prop} {a : Option Addr} {len cap : Nat} {bs : List Int} (ho : Oct bs) {W : World} (hR : Rd K W .u8 a len cap bs) :
    Calls Try.prog 38 #[.slice a len cap] W (UnRPost K bs W) := by
  obtain ⟨i0, hi, hz0, hz1, hz2⟩ := info_parts Try.infoN4
  have HR := Lib.hid (hR.mono (K' := fun b => K b ∧ b < W.heap.size) (fun b hlt hk => ⟨hk, hlt⟩))
  have hfit := hR.fit
  have htop := hR.top
  have hsmall := hR.small
  have HL : Hid (len = bs.length) := hR.hl
  clear hR
  go_enter Try.func38, Try.ntmps38
  go_upto_region 1 with fail
  have hq := Quad.new W 68 (.int .u64 0) (.slice none 0 0) (.slice none 0 0) (.int .i64 0)
  have hb : Below W.heap.size W (W.alloc (.cells #[.int .u64 0, .slice none 0 0, .slice none 0 0, .int .i64 0] 68)) := (Below.refl _ _).alloc (Nat.le_refl _) _
  have HRV := Lib.hid (HR.out.below hb)
  have HB := Lib.hid hb
  obtain ⟨R, hRe⟩ : ∃ B, W.heap.size = B := ⟨_, rfl⟩
  have HRE : Hid (W.heap.size ≤ R) := Nat.le_of_eq hRe
  rw [hRe] at hq ⊢
  have HQ := Lib.hid hq
  clear hRe hb hq
  generalize W.alloc (.cells #[.int .u64 0, .slice none 0 0, .slice none 0 0, .int .i64 0] 68) = V at *
  go_wp2_with fail
  refine (readR_any ho HRV.out).mono ?_
  rintro e w1 ⟨hb1, hp1⟩
  have HB1 : Hid (Below W.heap.size W w1) := HB.out.trans (hb1.mono HB.out.size)
  have HQ1 := Lib.hid (HQ.out.below hb1 HQ.out.lt)
  rcases hp1 with ⟨hrd, a3, n3, c3, rfl, hr3⟩ | ⟨hx, rfl⟩
  · have HR3 := Lib.hid (hr3.below hb1)
    have HRD := Lib.hid hrd
    have hub := rdS_u64 ho
    obtain ⟨u, hu⟩ := Int.eq_ofNat_of_zero_le hub.1
    have hun : u < 18446744073709551616 := by have := hub.2; rw [hu] at this; omega
    have HU := Lib.hid hu
    rw [hu]
    clear hb1 hr3 hrd hub hu HB HQ HRV
    simp only [gotV]
    go_upto_region 2 with fail
    have hbA : Below w1.heap.size w1 (w1.alloc (.cells #[.int .u64 u, .slice none 0 0, .slice a3 n3 c3, .int .i64 0] 68)) := (Below.refl _ _).alloc (Nat.le_refl _) _
    have HA := Lib.hid (Quad.new w1 68 (.int .u64 u) (.slice none 0 0) (.slice a3 n3 c3) (.int .i64 0))
    have HR3 := Lib.hid (HR3.out.below hbA)
    have HQ2 := Lib.hid (HQ1.out.below hbA HQ1.out.lt)
    have HB2 : Hid (Below W.heap.size W (w1.alloc (.cells #[.int .u64 u, .slice none 0 0, .slice a3 n3 c3, .int .i64 0] 68))) := HB1.out.trans (hbA.mono HB1.out.size)
    obtain ⟨A, hA⟩ : ∃ B, w1.heap.size = B := ⟨_, rfl⟩
    rw [hA] at HA ⊢
    clear hbA hA HB1 HQ1
    generalize w1.alloc (.cells #[.int .u64 u, .slice none 0 0, .slice a3 n3 c3, .int .i64 0] 68) = V2 at *
    obtain ⟨r0, r1, r2, r3⟩ := HA.out.cell
    obtain ⟨q0, q1, q2, q3⟩ := HQ2.out.cell
    have f0 := HQ2.out.f 0
    have f1 := HQ2.out.f 1
    have f2 := HQ2.out.f 2
    have f3 := HQ2.out.f 3
    have qlt := HQ2.out.lt
    by_cases hbig : 4096 < u
    · have HUN := Lib.hid (un_big HRD.out (by rw [HU.out]; omega))
      have hbI : (4096 : Int) < (u : Int) := by omega
      go_wp2
      refine bodyPost_ret (v := gotV 0 (.slice none 0 0) (.slice none 0 0) 5) (by simp [results, Try.results38, go_sem, q0, q1, q2, q3, gotV]) rfl (UnRPost.bad (below_four HB2.out R HRE.out _ _ _ _) HUN.out (by decide) rfl)
    · have hbI : ¬ (4096 : Int) < (u : Int) := by omega
      by_cases h0 : u = 0
      · have HUN := Lib.hid (un_none HRD.out (by rw [HU.out, h0]; rfl))
        have hR3' := HR3.out.back HB2.out
        subst h0
        go_wp2
        refine bodyPost_ret (v := gotV 0 (.slice none 0 0) (.slice a3 n3 c3) 0) (by simp [results, Try.results38, go_sem, q0, q1, q2, q3, gotV]) rfl ⟨below_four HB2.out R HRE.out _ _ _ _, .inl ?_⟩
        rw [HUN.out]
        exact ⟨rfl, none, 0, 0, a3, n3, c3, rfl, Rd.empty, hR3'⟩
      · have h0I : ((u : Int) == 0) = false := by rw [beq_eq_false_iff_ne]; omega
        clear q0 q1 q2 q3 f0 f1 f2 f3 qlt
        go_wp2_with fail
        clear r0 r1 r2 r3
        obtain ⟨k1, hk1⟩ : ∃ c, (rdS bs).2.1 = c := ⟨_, rfl⟩
        have HK1 := Lib.hid hk1
        rw [hk1] at HR3
        clear hk1
        have ho2 := ho.drop k1
        refine (readR_any ho2 HR3.out).mono ?_
        rintro e w5 ⟨hb5, hp5⟩
        have HB5 : Hid (Below W.heap.size W w5) := HB2.out.trans (hb5.mono HB2.out.size)
        have HQ5 := Lib.hid (HQ2.out.below hb5 HQ2.out.lt)
        have HA5 := Lib.hid (HA.out.below hb5 HA.out.lt)
        rcases hp5 with ⟨hrd5, a4, n4, c4, rfl, hr4⟩ | ⟨hx, rfl⟩
        · have HR4 := Lib.hid (hr4.below hb5)
          have HRD5 := Lib.hid hrd5
          have hub := rdS_u64 ho2
          obtain ⟨u2, hu2⟩ := Int.eq_ofNat_of_zero_le hub.1
          have hu2n : u2 < 18446744073709551616 := by have := hub.2; rw [hu2] at this; omega
          have HU2 := Lib.hid hu2
          obtain ⟨k2, hk2⟩ : ∃ c, (rdS (bs.drop k1)).2.1 = c := ⟨_, rfl⟩
          have HK2 := Lib.hid hk2
          rw [hk2] at HR4
          rw [hu2]
          clear hb5 hr4 hrd5 hub hu2 hk2 HB2 HQ2 HA HR3
          simp only [gotV]
          go_upto_region 9 with fail
          have hbA : Below w5.heap.size w5 (w5.alloc (.cells #[.int .u64 u2, .slice none 0 0, .slice a4 n4 c4, .int .i64 0] 68)) := (Below.refl _ _).alloc (Nat.le_refl _) _
          have HC := Lib.hid (Quad.new w5 68 (.int .u64 u2) (.slice none 0 0) (.slice a4 n4 c4) (.int .i64 0))
          have HR4 := Lib.hid (HR4.out.below hbA)
          have HQ6 := Lib.hid (HQ5.out.below hbA HQ5.out.lt)
          have HA6 := Lib.hid (HA5.out.below hbA HA5.out.lt)
          have HB6 : Hid (Below W.heap.size W (w5.alloc (.cells #[.int .u64 u2, .slice none 0 0, .slice a4 n4 c4, .int .i64 0] 68))) := HB5.out.trans (hbA.mono HB5.out.size)
          obtain ⟨C, hC⟩ : ∃ B, w5.heap.size = B := ⟨_, rfl⟩
          rw [hC] at HC ⊢
          clear hbA hC HB5 HQ5 HA5
          generalize w5.alloc (.cells #[.int .u64 u2, .slice none 0 0, .slice a4 n4 c4, .int .i64 0] 68) = V6 at *
          obtain ⟨r0, r1, r2, r3⟩ := HC.out.cell
          obtain ⟨q0, q1, q2, q3⟩ := HQ6.out.cell
          have f0 := HQ6.out.f 0
          have f1 := HQ6.out.f 1
          have f2 := HQ6.out.f 2
          have f3 := HQ6.out.f 3
          have qlt := HQ6.out.lt
          have ha0 := HA6.out.cell.1
          have hn4l := HR4.out.hl
          rw [List.length_drop] at hn4l
          by_cases hn4 : n4 = 0
          · have HFR : Hid ((frS (bs.drop k1)).2.2 = 7) := by
              show _ = _
              unfold frS
              rw [if_neg (by simp [HRD5.out]), if_pos (by rw [HK2.out]; omega)]
            have HUN := Lib.hid (un_fr (x := 7) HRD.out (by rw [HU.out]; omega) (by rw [HU.out]; omega) (by rw [HK1.out]; exact HFR.out) (by decide))
            subst hn4
            clear hn4l
            go_wp2
            refine bodyPost_ret (v := gotV 0 (.slice none 0 0) (.slice none 0 0) 7) (by simp [results, Try.results38, go_sem, q0, q1, q2, q3, gotV]) rfl (UnRPost.bad (below_four HB6.out R HRE.out _ _ _ _) HUN.out (by decide) rfl)
          · have hn4I : ((n4 : Int) == 0) = false := by rw [beq_eq_false_iff_ne]; omega
            have hn4J : (1 : Int) ≤ (n4 : Int) := by omega
            obtain ⟨b4, off4, rfl, _, _, hc4⟩ := HR4.out.cells (by omega)
            have hc0 := hc4 0 (by omega)
            have hx0 := (ho2.drop k2).getD 0
            have e0 : ((bs.drop k1).drop k2)[0]?.getD 0 = (bs.drop k1)[k2]?.getD 0 := by rw [List.getElem?_drop, Nat.add_zero]
            rw [Nat.add_zero] at hc0
            rw [e0] at hc0 hx0
            obtain ⟨wd, hwd⟩ := Int.eq_ofNat_of_zero_le hx0.1
            rw [hwd] at hc0 hx0
            have hwb : wd < 256 := by have := hx0.2; omega
            have HWD := Lib.hid hwd
            have hww : IntKind.i64.wrap (wd : Int) = wd := by rw [IntKind.wrap_i64]; omega
            have hk2l : ¬ (bs.drop k1).length ≤ k2 := by omega
            clear hc4 hx0 e0 hwd
            by_cases hw64 : 64 < wd
            · have HFR : Hid ((frS (bs.drop k1)).2.2 = 5) := by
                show _ = _
                unfold frS
                rw [if_neg (by simp [HRD5.out]), if_neg (by rw [HK2.out]; exact hk2l), HK2.out, HWD.out, if_pos (by omega)]
              have HUN := Lib.hid (un_fr (x := 5) HRD.out (by rw [HU.out]; omega) (by rw [HU.out]; omega) (by rw [HK1.out]; exact HFR.out) (by decide))
              have hwI : (64 : Int) < (wd : Int) := by omega
              clear hn4l
              go_wp2
              refine bodyPost_ret (v := gotV 0 (.slice none 0 0) (.slice none 0 0) 5) (by simp [results, Try.results38, go_sem, q0, q1, q2, q3, gotV]) rfl (UnRPost.bad (below_four HB6.out R HRE.out _ _ _ _) HUN.out (by decide) rfl)
            · have hwI : ¬ (64 : Int) < (wd : Int) := by omega
              have hfs : frS (bs.drop k1) = ((uz u2, (wd : Int)), k2 + 1, 0) := by
                unfold frS
                rw [if_neg (by simp [HRD5.out]), if_neg (by rw [HK2.out]; exact hk2l), HK2.out, HWD.out, if_neg (by omega), HU2.out]
              have hrs : rdS bs = ((u : Int), k1, 0) := by rw [← HU.out, ← HK1.out, ← HRD.out]
              have HH : Hid (HdS bs u (uz u2) wd k1 (k2 + 1)) := ⟨hrs, by omega, by omega, hfs⟩
              obtain ⟨T, hT⟩ : ∃ T : Nat, u * wd = T := ⟨_, rfl⟩
              have hTI : (u : Int) * (wd : Int) = (T : Int) := by rw [← hT, Int.natCast_mul]
              have hTb : T ≤ 262144 := by rw [← hT]; exact Nat.mul_le_mul (show u ≤ 4096 by omega) (show wd ≤ 64 by omega)
              obtain ⟨size, hsz⟩ : ∃ z, (T + 7) / 8 = z := ⟨_, rfl⟩
              have hszI : ((T : Int) + 7) / 8 = (size : Int) := by omega
              have hszb : size ≤ 32769 := by omega
              have HSZ : Hid ((u * wd + 7) / 8 = size) := by show _ = _; rw [hT, hsz]
              have HTT := Lib.hid hT
              have hwu : IntKind.i64.wrap (u : Int) = u := by rw [IntKind.wrap_i64]; omega
              obtain ⟨off6, he6⟩ : ∃ o, (if c4 = 1 then some ⟨b4, off4, none⟩ else some ⟨b4, off4 + 1, none⟩ : Option Addr) = some ⟨b4, o, none⟩ := by split; exact ⟨_, rfl⟩; exact ⟨_, rfl⟩
              have hf4 := HR4.out.fit
              have hbod := HR4.out.rest 1 (by omega) (c4 - 1) (by omega) (by omega) (some ⟨b4, off6, none⟩) (fun h => by rw [← he6, if_neg (by omega)])
              rw [List.drop_drop] at hbod
              have HBODY := Lib.hid hbod
              have HBL : Hid (n4 - 1 = ((bs.drop k1).drop (k2 + 1)).length) := hbod.hl
              have HN4 := Lib.hid hn4l
              clear hfs hrs hT hsz hbod hn4l hk2l
              by_cases hsh : n4 - 1 < size
              · have HUN := Lib.hid (HH.out.short (by rw [HSZ.out, ← HBL.out]; exact hsh))
                have hshI : (n4 : Int) - 1 < (size : Int) := by omega
                have hshN : ((n4 - 1 : Nat) : Int) < (size : Int) := by omega
                go_wp2
                refine bodyPost_ret (v := gotV 0 (.slice none 0 0) (.slice none 0 0) 7) (by simp [results, Try.results38, go_sem, q0, q1, q2, q3, gotV]) rfl (UnRPost.bad (below_four HB6.out R HRE.out _ _ _ _) HUN.out (by decide) rfl)
              · have hshN : ¬ ((n4 - 1 : Nat) : Int) < (size : Int) := by omega
                go_wp2_with fail
                refine (unzigzagR_any u2 ⟨by omega, by omega⟩ V6).mono ?_
                have hlowI := uz_i64 (u := (u2 : Int)) ⟨by omega, by omega⟩
                obtain ⟨low, hlow⟩ : ∃ l, uz (u2 : Int) = l := ⟨_, rfl⟩
                rw [hlow] at HH hlowI ⊢
                rintro e V6' ⟨rfl, rfl⟩
                have HLI := Lib.hid hlowI
                obtain ⟨body, hbody⟩ : ∃ l, (bs.drop k1).drop (k2 + 1) = l := ⟨_, rfl⟩
                have HBD := Lib.hid hbody
                rw [hbody] at HBODY HBL
                have HOB : Hid (Oct body) := by rw [← hbody]; exact ho2.drop (k2 + 1)
                obtain ⟨upL, hupL⟩ : ∃ l, upList low wd u body = l := ⟨_, rfl⟩
                have HUP := Lib.hid hupL
                have HUL : Hid (upL.length = u) := by rw [← hupL]; exact up_len ..
                have HUS : Hid (Smalls upL) := by
                  show Smalls upL
                  rw [← hupL]
                  exact up_small low wd u body
                have hrow0 := World.ownsRow_made V6 (base := V6.heap.size) (e := 3) (size := 1) #[] 0 (Nat.le_refl _) (by decide) rfl
                have HROW := Lib.hid hrow0
                have HBN : Hid (Below V6.heap.size V6 (V6.alloc (.cells #[] 3))) := (Below.refl _ _).alloc (Nat.le_refl _) _
                clear hlow hbody hupL hrow0 hlowI q0 q1 q2 q3 f0 f1 f2 f3 qlt r0 r1 r2 r3 ha0 hc0
                go_wp2
                go_loopw [9, 10] (fun s9 i wr => ∃ j g c : Nat, j ≤ u ∧ i = .int .i64 j ∧ s9 = .slice (some ⟨g, 0, none⟩) j c ∧ Hid (wr.ownsRow V6.heap.size 3 1 (.slice (some ⟨g, 0, none⟩) j c) j ((upL.take j).map (Value.int .i64))) ∧ Hid (Below V6.heap.size V6 wr)) (fun _ i _ => u - (intOf i).toNat)
                case atStart => exact ⟨0, V6.heap.size, 0, Nat.zero_le _, rfl, rfl, HROW, HBN⟩
                case round =>
                  obtain ⟨j, g, c, hj, rfl, rfl, HRW, HBW⟩ := hrel
                  have ha0 := (HA6.out.below HBW.out HA6.out.lt).cell.1
                  by_cases hlt : j < u
                  · have hltI : (j : Int) < (u : Int) := by omega
                    obtain ⟨jw, hjw⟩ : ∃ q : Nat, j * wd = q := ⟨_, rfl⟩
                    have hjwI : (j : Int) * (wd : Int) = (jw : Int) := by rw [← hjw, Int.natCast_mul]
                    have hjwT : jw + wd ≤ T := by
                      have : (j + 1) * wd ≤ u * wd := Nat.mul_le_mul (by omega) (Nat.le_refl _)
                      rw [Nat.succ_mul, HTT.out, hjw] at this
                      exact this
                    have hat := up_at low wd u body (by rw [HSZ.out, ← HBL.out]; omega) j hlt
                    rw [hjw, HUP.out] at hat
                    have hlowC := HH.out.low (by rw [HSZ.out, HBD.out, ← HBL.out]; omega) j hlt
                    rw [HBD.out, hjw] at hlowC
                    have hbr := bitN_range (bs := body) jw wd
                    have HBT : Hid (∀ V, Rd (fun b => K b ∧ b < W.heap.size) V .u8 (some ⟨b4, off6, none⟩) (n4 - 1) (c4 - 1) body → Calls Try.prog 56 #[.slice (some ⟨b4, off6, none⟩) (n4 - 1) (c4 - 1), .int .i64 jw, .int .i64 wd] V fun e W' => e = .returned (.int .u64 (bitN body jw wd)) ∧ V = W') := fun V h => bitsR_any HOB.out h jw wd (by omega) (by omega)
                    have hcv : IntKind.i64.wrap (IntKind.u64.wrap (IntKind.u64.wrap low + bitN body jw wd)) = wrap64 (low + bitN body jw wd) := by rw [IntKind.wrap_i64, IntKind.wrap_u64, IntKind.wrap_u64]; unfold wrap64; omega
                    have hcv2 : wrap64 (IntKind.u64.wrap (IntKind.u64.wrap low + bitN body jw wd)) = wrap64 (low + bitN body jw wd) := by rw [IntKind.wrap_u64, IntKind.wrap_u64]; unfold wrap64; omega
                    obtain ⟨v, hv⟩ : ∃ v, wrap64 (low + bitN body jw wd) = v := ⟨_, rfl⟩
                    rw [hv] at hat hlowC hcv hcv2
                    have HAT := Lib.hid hat
                    have HLC := Lib.hid hlowC
                    generalize bitN body jw wd = bv at *
                    clear hat hlowC hbr hv hjw
                    go_wp2_with fail
                    refine (HBT.out _ (HBODY.out.below HBW.out)).mono ?_
                    rintro e wr' ⟨rfl, rfl⟩
                    by_cases hvl : v < low
                    · have HUN := Lib.hid (HLC.out hvl)
                      have hqq := HQ6.out.below HBW.out HQ6.out.lt
                      obtain ⟨q0, q1, q2, q3⟩ := hqq.cell
                      have f0 := hqq.f 0
                      have f1 := hqq.f 1
                      have f2 := hqq.f 2
                      have f3 := hqq.f 3
                      have qlt := hqq.lt
                      have HBZ : Hid (Below W.heap.size W wr) := HB6.out.trans (HBW.out.mono HB6.out.size)
                      clear hqq
                      go_wp2
                      refine bodyPost_ret (v := gotV 0 (.slice none 0 0) (.slice none 0 0) 5) (by simp [results, Try.results38, go_sem, q0, q1, q2, q3, gotV]) rfl (UnRPost.bad (below_four HBZ.out R HRE.out _ _ _ _) HUN.out (by decide) rfl)
                    · obtain ⟨g5, c5, w8, hr8, hrow8, hg8, _, _⟩ := run_append_one (P := Try.prog) wr V6.heap.size 22 22 3 i0 _ 8 .i64 Try.underlying22 hi hz0 hz1 hz2 rfl g j c _ HRW.out v 3 (by unfold maxLen; omega) (by omega) HBW.out.size
                      have HB8 : Hid (Below V6.heap.size V6 w8) := (HBW.out.alloc HBW.out.size _).grown hg8 (HBW.out.alloc HBW.out.size _).size (fun r e => by cases e; exact row_base HRW.out)
                      have HROW8 : Hid (w8.ownsRow V6.heap.size 3 1 (.slice (some ⟨g5, 0, none⟩) (j + 1) c5) (j + 1) ((upL.take (j + 1)).map (Value.int .i64))) := by
                        show w8.ownsRow _ _ _ _ _ _
                        rw [take_getD_snoc upL j (by rw [HUL.out]; exact hlt), HAT.out, List.map_append]
                        exact hrow8
                      have HR8 := Lib.hid hr8
                      clear hr8 hrow8 hg8
                      go_wp2_with (at_builtin; refine wpList_append_want (o := ⟨some 96, _, _, _, _, _⟩) _ rfl _ _ _ _ rfl _ _ rfl rfl _ _ HR8.out ?_)
                      go_roundw
                      case rel => exact ⟨j + 1, g5, c5, by omega, by go_num, rfl, HROW8, HB8⟩
                      case measure => simp [intOf]; omega
                  · obtain rfl : j = u := by omega
                    have hltI : ¬ (j : Int) < (j : Int) := by omega
                    have hgc : j ≤ c := (by obtain ⟨cur, _, h, _⟩ := row_block HRW.out; exact h)
                    have HLR : Hid (Rd (fun b => V6.heap.size ≤ b) wr .i64 (some ⟨g, 0, none⟩) j c upL) := by
                      have h := HRW.out
                      rw [← HUL.out, List.take_length, HUL.out] at h
                      exact Rd.of_row HUL.out.symm hgc (by omega) h
                    have hlen := HL.out
                    have hn4l := HN4.out
                    rw [List.length_drop] at hn4l
                    obtain ⟨lim, hlim⟩ : ∃ m, k1 + (k2 + 1) + size = m := ⟨_, rfl⟩
                    have hlimI : (len : Int) - ((n4 - 1 : Nat) : Int) + (size : Int) = (lim : Int) := by omega
                    have hlimL : lim ≤ len := by omega
                    have hlimI2 : (lim : Int) ≤ (len : Int) := by omega
                    have hlimC : lim ≤ cap := by omega
                    obtain ⟨m4, hm4⟩ : ∃ m, n4 - 1 = m := ⟨_, rfl⟩
                    obtain ⟨d4, hd4⟩ : ∃ m, c4 - 1 = m := ⟨_, rfl⟩
                    have hsub : (len : Int) - (m4 : Int) = ((len - m4 : Nat) : Int) := by omega
                    have hsum : (len : Int) - (m4 : Int) + (size : Int) = (lim : Int) := by omega
                    have HLIM := Lib.hid hlim
                    have HGOOD := Lib.hid (HH.out.good (by rw [HSZ.out, HBD.out, ← HBL.out]; omega))
                    have HBAD := Lib.hid (HH.out.bad ho (by rw [HSZ.out, HBD.out, ← HBL.out]; omega))
                    rw [HSZ.out, HBD.out, HUP.out, hlim] at HGOOD HBAD
                    rw [hm4, hd4] at HBODY
                    rw [hm4, hd4]
                    rw [hm4] at HBL hsh hshN hlimI
                    have hsz4 : size ≤ m4 := by omega
                    have hszI4 : (size : Int) ≤ (m4 : Int) := by omega
                    have hmd := HBODY.out.fit
                    have hm4l : m4 ≤ len := by omega
                    have HBZ : Hid (Below W.heap.size W wr) := HB6.out.trans (HBW.out.mono HB6.out.size)
                    have HBR : Hid (Rd (fun b => K b ∧ b < W.heap.size) wr .u8 a lim cap (bs.take lim)) := (HR.out.below HBZ.out).upto lim hlimL
                    have HQ7 := Lib.hid (HQ6.out.below HBW.out HQ6.out.lt)
                    have HRV : Hid (R < V6.heap.size) := HQ6.out.lt
                    have hj4 : j ≤ 4096 := by omega
                    clear hm4 hd4 hlim hlen hn4l hlimI hsub hj hlt hbI hTI hszI HRW HROW HBN HA6 HC HR3 HR4
                    go_wp2_with fail
                    refine (formR_any HUS.out hj4 HLR.out).mono ?_
                    rintro e w8 ⟨g8, c8, rfl, hc8, hrow8, hb8⟩
                    have hl8 := pack_len upL HUS.out (by rw [HUL.out]; exact hj4)
                    obtain ⟨l8, hl8e⟩ : ∃ n, (packS upL).length = n := ⟨_, rfl⟩
                    rw [hl8e] at hrow8 hc8 hl8 ⊢
                    have HD8 := Lib.hid (Rd.of_row hl8e.symm hc8 (by omega) hrow8)
                    have HBR8 := Lib.hid (HBR.out.below hb8)
                    have HLR8 := Lib.hid (HLR.out.below hb8)
                    have HQ8 := Lib.hid (HQ7.out.below hb8 HQ7.out.lt)
                    have HB8 : Hid (Below W.heap.size W w8) := HBZ.out.trans (hb8.mono HBZ.out.size)
                    clear hrow8 hc8 hb8 hl8e HBR HLR HQ7 HBZ
                    go_wp2_with fail
                    refine (same_any HD8.out HBR8.out).mono ?_
                    by_cases he : packS upL = bs.take lim
                    · rw [sameB_true he]
                      rintro e w9 ⟨rfl, hb9⟩
                      have HUN := Lib.hid (HGOOD.out he)
                      have HLR9 := Lib.hid (HLR8.out.below hb9)
                      have hqq := HQ8.out.below hb9 HQ8.out.lt
                      have HB9 : Hid (Below W.heap.size W w9) := HB8.out.trans (hb9.mono HB8.out.size)
                      obtain ⟨q0, q1, q2, q3⟩ := hqq.cell
                      have f0 := hqq.f 0
                      have f1 := hqq.f 1
                      have f2 := hqq.f 2
                      have f3 := hqq.f 3
                      have qlt := hqq.lt
                      obtain ⟨e7, he7⟩ : ∃ a', (if d4 = size then some ⟨b4, off6, none⟩ else some ⟨b4, off6 + size, none⟩ : Option Addr) = a' := ⟨_, rfl⟩
                      have HREST := Lib.hid ((HBODY.out.rest size hsz4 (d4 - size) (by omega) (by omega) e7 (fun h => by rw [← he7, if_neg (by omega)])).back HB6.out)
                      clear he hb9 hqq HB8 HQ8 HLR8
                      go_wp2
                      refine bodyPost_ret (v := gotV 0 (.slice (some ⟨g, 0, none⟩) j c) (.slice e7 (m4 - size) (d4 - size)) 0) (by simp [results, Try.results38, go_sem, q0, q1, q2, q3, gotV]) rfl ⟨below_four HB9.out R HRE.out _ _ _ _, .inl ?_⟩
                      rw [HUN.out]
                      refine ⟨rfl, _, _, _, _, _, _, rfl, ?_, ?_⟩
                      · have hne : ¬ V6.heap.size ≤ R := by have := HRV.out; omega
                        exact ((((HLR9.out.set ⟨R, 0, none⟩ _ hne).set ⟨R, 1, none⟩ _ hne).set ⟨R, 2, none⟩ _ hne).set ⟨R, 3, none⟩ _ hne).mono fun b _ h => Nat.le_trans HB6.out.size h
                      · have h := HREST.out
                        rw [← HBD.out, List.drop_drop, List.drop_drop] at h
                        rw [show k1 + (k2 + 1 + size) = lim by have := HLIM.out; omega] at h
                        exact h
                    · rw [sameB_false he]
                      rintro e w9 ⟨rfl, hb9⟩
                      have HUN := Lib.hid (HBAD.out he)
                      have hqq := HQ8.out.below hb9 HQ8.out.lt
                      have HB9 : Hid (Below W.heap.size W w9) := HB8.out.trans (hb9.mono HB8.out.size)
                      obtain ⟨q0, q1, q2, q3⟩ := hqq.cell
                      have f0 := hqq.f 0
                      have f1 := hqq.f 1
                      have f2 := hqq.f 2
                      have f3 := hqq.f 3
                      have qlt := hqq.lt
                      clear he hb9 hqq HB8 HQ8 HLR8
                      go_wp2
                      refine bodyPost_ret (v := gotV 0 (.slice none 0 0) (.slice none 0 0) 5) (by simp [results, Try.results38, go_sem, q0, q1, q2, q3, gotV]) rfl (UnRPost.bad (below_four HB9.out R HRE.out _ _ _ _) HUN.out (by decide) rfl)
        · obtain ⟨x, hxe⟩ : ∃ x, (rdS (bs.drop k1)).2.2 = x := ⟨_, rfl⟩
          rw [hxe] at hx ⊢
          have HFR : Hid ((frS (bs.drop k1)).2.2 = x) := by
            show _ = _
            unfold frS
            rw [if_pos (by rw [hxe]; exact hx), hxe]
          have HUN := Lib.hid (un_fr HRD.out (by rw [HU.out]; omega) (by rw [HU.out]; omega) (by rw [HK1.out]; exact HFR.out) hx)
          have HX := Lib.hid hx
          have hxb : (x == 0) = false := by rw [beq_eq_false_iff_ne]; exact hx
          have hxn : (x != 0) = true := by rw [bne_iff_ne]; exact hx
          clear hb5 hxe hx HQ2 HB2 HA
          simp only [gotV]
          go_upto_region 9 with fail
          have hbA : Below w5.heap.size w5 (w5.alloc (.cells #[.int .u64 0, .slice none 0 0, .slice none 0 0, .int .i64 x] 68)) := (Below.refl _ _).alloc (Nat.le_refl _) _
          have HC := Lib.hid (Quad.new w5 68 (.int .u64 0) (.slice none 0 0) (.slice none 0 0) (.int .i64 x))
          have HQ6 := Lib.hid (HQ5.out.below hbA HQ5.out.lt)
          have HB6 : Hid (Below W.heap.size W (w5.alloc (.cells #[.int .u64 0, .slice none 0 0, .slice none 0 0, .int .i64 x] 68))) := HB5.out.trans (hbA.mono HB5.out.size)
          obtain ⟨C, hC⟩ : ∃ B, w5.heap.size = B := ⟨_, rfl⟩
          rw [hC] at HC ⊢
          clear hbA hC HB5 HQ5
          generalize w5.alloc (.cells #[.int .u64 0, .slice none 0 0, .slice none 0 0, .int .i64 x] 68) = V6 at *
          have r3 := HC.out.cell.2.2.2
          obtain ⟨q0, q1, q2, q3⟩ := HQ6.out.cell
          have f0 := HQ6.out.f 0
          have f1 := HQ6.out.f 1
          have f2 := HQ6.out.f 2
          have f3 := HQ6.out.f 3
          have qlt := HQ6.out.lt
          go_wp2
          refine bodyPost_ret (v := gotV 0 (.slice none 0 0) (.slice none 0 0) x) (by simp [results, Try.results38, go_sem, q0, q1, q2, q3, gotV]) rfl (UnRPost.bad (below_four HB6.out R HRE.out _ _ _ _) HUN.out HX.out rfl)
  · obtain ⟨x, hxe⟩ : ∃ x, (rdS bs).2.2 = x := ⟨_, rfl⟩
    rw [hxe] at hx ⊢
    have HUN := Lib.hid (un_rd hxe hx)
    have HX := Lib.hid hx
    have hxb : (x == 0) = false := by rw [beq_eq_false_iff_ne]; exact hx
    have hxn : (x != 0) = true := by rw [bne_iff_ne]; exact hx
    clear hb1 hxe hx HQ HB HRV
    simp only [gotV]
    go_upto_region 2 with fail
    have hbA : Below w1.heap.size w1 (w1.alloc (.cells #[.int .u64 0, .slice none 0 0, .slice none 0 0, .int .i64 x] 68)) := (Below.refl _ _).alloc (Nat.le_refl _) _
    have HA := Lib.hid (Quad.new w1 68 (.int .u64 0) (.slice none 0 0) (.slice none 0 0) (.int .i64 x))
    have HQ2 := Lib.hid (HQ1.out.below hbA HQ1.out.lt)
    have HB2 : Hid (Below W.heap.size W (w1.alloc (.cells #[.int .u64 0, .slice none 0 0, .slice none 0 0, .int .i64 x] 68))) := HB1.out.trans (hbA.mono HB1.out.size)
    obtain ⟨A, hA⟩ : ∃ B, w1.heap.size = B := ⟨_, rfl⟩
    rw [hA] at HA ⊢
    clear hbA hA HB1 HQ1
    generalize w1.alloc (.cells #[.int .u64 0, .slice none 0 0, .slice none 0 0, .int .i64 x] 68) = V2 at *
    have r3 := HA.out.cell.2.2.2
    obtain ⟨q0, q1, q2, q3⟩ := HQ2.out.cell
    have f0 := HQ2.out.f 0
    have f1 := HQ2.out.f 1
    have f2 := HQ2.out.f 2
    have f3 := HQ2.out.f 3
    have qlt := HQ2.out.lt
    go_wp2
    refine bodyPost_ret (v := gotV 0 (.slice none 0 0) (.slice none 0 0) x) (by simp [results, Try.results38, go_sem, q0, q1, q2, q3, gotV]) rfl (UnRPost.bad (below_four HB2.out R HRE.out _ _ _ _) HUN.out HX.out rfl)

end Go.Proofs.Ytkfmgiacdlkmiaa

namespace Go.Proofs.Ytkfmgiacdlkmiaa
open Go Go.RowKit Go.Shelf Go.Sort Go.ChangeShapes Go.WideShapes Go.ChangeAt

theorem fst_1 {bs : List Int} {x : Int} (h : letE letS bs = x) (hx : x ≠ 0) : fstE bs = x := by unfold fstE; rw [if_pos (by rw [h]; exact hx)]; exact h
theorem fst_2 {bs : List Int} {x : Int} (h1 : letE letS bs = 0) (h : kindE (bs.drop 3) = x) (hx : x ≠ 0) : fstE bs = x := by unfold fstE; rw [if_neg (fun c => c h1), if_pos (by rw [h]; exact hx)]; exact h
theorem fst_3 {bs : List Int} {x : Int} (h1 : letE letS bs = 0) (h2 : kindE (bs.drop 3) = 0) (h : idE (bs.drop 4) = x) (hx : x ≠ 0) : fstE bs = x := by unfold fstE; rw [if_neg (fun c => c h1), if_neg (fun c => c h2), if_pos (by rw [h]; exact hx)]; exact h
theorem fst_4 {bs : List Int} {x : Int} (h1 : letE letS bs = 0) (h2 : kindE (bs.drop 3) = 0) (h3 : idE (bs.drop 4) = 0) (h : dataE (bs.drop (atI bs)) = x) (hx : x ≠ 0) : fstE bs = x := by unfold fstE; rw [if_neg (fun c => c h1), if_neg (fun c => c h2), if_neg (fun c => c h3), if_pos (by rw [h]; exact hx)]; exact h
theorem fst_5 {bs : List Int} {x : Int} (h1 : letE letS bs = 0) (h2 : kindE (bs.drop 3) = 0) (h3 : idE (bs.drop 4) = 0) (h4 : dataE (bs.drop (atI bs)) = 0) (h : sumE (bs.take (atS bs)) (bs.drop (atS bs)) = x) : fstE bs = x := by unfold fstE; rw [if_neg (fun c => c h1), if_neg (fun c => c h2), if_neg (fun c => c h3), if_neg (fun c => c h4)]; exact h
theorem kind_bad {bs : List Int} {y : Int} (h : bs[3]?.getD 0 = y) (hl : 3 < bs.length) (hy : ¬ (1 ≤ y ∧ y ≤ 9)) : kindE (bs.drop 3) = 8 := by
  unfold kindE
  rw [if_neg (by rw [List.length_drop]; omega), List.getElem?_drop, Nat.add_zero, h, if_neg hy]
theorem kind_good {bs : List Int} {y : Int} (h : bs[3]?.getD 0 = y) (hl : 3 < bs.length) (hy : 1 ≤ y ∧ y ≤ 9) : kindE (bs.drop 3) = 0 := by
  unfold kindE
  rw [if_neg (by rw [List.length_drop]; omega), List.getElem?_drop, Nat.add_zero, h, if_pos hy]
theorem id_err {zs : List Int} {x : Int} (h : (unS zs).2.2 = x) (hx : x ≠ 0) : idE zs = rotE x := by unfold idE; rw [if_pos (by rw [h]; exact hx), h]
theorem id_long {zs : List Int} (h : (unS zs).2.2 = 0) (hl : 40 < (unS zs).1.length) : idE zs = 8 := by unfold idE; rw [if_neg (fun c => c h), if_pos hl]
theorem id_good {zs : List Int} (h : (unS zs).2.2 = 0) (hl : ¬ 40 < (unS zs).1.length) : idE zs = 0 := by unfold idE; rw [if_neg (fun c => c h), if_neg hl]
theorem data_err {zs : List Int} {x : Int} (h : (rdS zs).2.2 = x) (hx : x ≠ 0) : dataE zs = rotE x := by unfold dataE; rw [if_pos (by rw [h]; exact hx), h]
theorem data_big {zs : List Int} (h : (rdS zs).2.2 = 0) (hl : 65536 < (rdS zs).1) : dataE zs = 8 := by unfold dataE; rw [if_neg (fun c => c h), if_pos hl]
theorem data_short {zs : List Int} (h : (rdS zs).2.2 = 0) (hl : ¬ 65536 < (rdS zs).1) (hs : zs.length - (rdS zs).2.1 < (rdS zs).1.toNat) : dataE zs = 7 := by unfold dataE; rw [if_neg (fun c => c h), if_neg hl, if_pos hs]
theorem data_good {zs : List Int} (h : (rdS zs).2.2 = 0) (hl : ¬ 65536 < (rdS zs).1) (hs : ¬ zs.length - (rdS zs).2.1 < (rdS zs).1.toNat) : dataE zs = 0 := by unfold dataE; rw [if_neg (fun c => c h), if_neg hl, if_neg hs]
theorem rot_nz (x : Int) : rotE x ≠ 0 := by rcases rotE_bad x with h | h <;> rw [h] <;> decide

theorem rotR_any (x : Int) (w : World) : Calls Try.prog 39 #[.int .i64 x] w fun e V => e = .returned (.int .i64 (rotE x)) ∧ w = V := by
  by_cases h : x = 7
  · subst h
    go_enter Try.func39, Try.ntmps39
    go_wp2
    go_ret
    exact ⟨rfl, rfl⟩
  · have HE : Hid (rotE x = 8) := by show _ = _; unfold rotE; rw [if_neg h]
    have hxb : (x == 7) = false := beq_false_of_ne h
    rw [HE.out]
    go_enter Try.func39, Try.ntmps39
    go_wp2
    go_ret
    exact ⟨rfl, rfl⟩

theorem makes_byt {f : FuncId} {args : Array Value} {W : World} {zs : List Int} (hl : zs.length ≤ 100000000) (h : Calls Try.prog f args W fun e w' => Makes W e w' zs) : Calls Try.prog f args W fun e w' => ∃ v, e = .returned v ∧ BytF zs v w' ∧ Below W.heap.size W w' :=
  h.mono fun _ _ ⟨g, c, e1, h1, h2, h3⟩ => ⟨_, e1, ⟨g, _, c, rfl, (Rd.of_row rfl h1 (by omega) h2).mono fun _ _ _ => trivial⟩, h3⟩

/-- What the reference's reading of a sealed form comes to. -/
def FirRPost (K : Nat → Prop) (bs : List Int) (W : World) (e : Ending) (V : World) : Prop :=
  Below W.heap.size W V ∧ ((fstE bs = 0 ∧ ∃ a1 n1 c1 a2 n2 c2 a3 n3 c3, e = .returned (.agg #[.int .i64 (fstK bs), .slice a1 n1 c1, .slice a2 n2 c2, .slice a3 n3 c3, .int .i64 0]) ∧ Rd (fun b => W.heap.size ≤ b) V .i64 a1 n1 c1 (fstI bs) ∧ Rd K V .u8 a2 n2 c2 (fstD bs) ∧ Rd K V .u8 a3 n3 c3 (bs.drop (fstN bs))) ∨
    (fstE bs ≠ 0 ∧ e = .returned (.agg #[.int .i64 0, .slice none 0 0, .slice none 0 0, .slice none 0 0, .int .i64 (fstE bs)])))
theorem FirRPost.bad {K : Nat → Prop} {bs : List Int} {W V : World} {e : Ending} {x : Int} (hb : Below W.heap.size W V) (h : fstE bs = x) (hx : x ≠ 0) (he : e = .returned (.agg #[.int .i64 0, .slice none 0 0, .slice none 0 0, .slice none 0 0, .int .i64 x])) : FirRPost K bs W e V :=
  ⟨hb, .inr ⟨by rw [h]; exact hx, by rw [h]; exact he⟩⟩
theorem below_five {W V : World} {R : Nat} (h : Below W.heap.size W V) (hR : W.heap.size ≤ R) (a b c d e : Value) : Below W.heap.size W (((((V.setCell ⟨R, 0, none⟩ a).setCell ⟨R, 1, none⟩ b).setCell ⟨R, 2, none⟩ c).setCell ⟨R, 3, none⟩ d).setCell ⟨R, 4, none⟩ e) :=
  ((((h.setCell hR _).setCell hR _).setCell hR _).setCell hR _).setCell hR _

set_option maxRecDepth 100000 in
set_option maxHeartbeats 16000000 in
theorem firstR_any {K : Nat → Prop} {a : Option Addr} {n c : Nat} {bs : List Int} {W : World} (hR : Rd K W .u8 a n c bs) (ho : Oct bs) :
    Calls Try.prog 24 #[.slice a n c] W (FirRPost K bs W) := by
  have HO := Lib.hid ho
  have hfit := hR.fit
  have htop := hR.top
  have hsmall := hR.small
  have HL : Hid (n = bs.length) := hR.hl
  have hb1 : Below W.heap.size W (W.alloc (.cells #[.int .i64 0, .slice none 0 0, .slice none 0 0, .slice none 0 0, .int .i64 0] 42)) := (Below.refl _ _).alloc (Nat.le_refl _) _
  have hp1 := OpB.new W (.int .i64 0) (.slice none 0 0) (.slice none 0 0) (.slice none 0 0) (.int .i64 0)
  have hs1 : (W.alloc (.cells #[.int .i64 0, .slice none 0 0, .slice none 0 0, .slice none 0 0, .int .i64 0] 42)).heap.size = W.heap.size + 1 := World.size_alloc ..
  have HR0 := Lib.hid ((hR.mono (K' := fun b => K b ∧ b < W.heap.size) (fun b hlt hk => ⟨hk, hlt⟩)).below hb1)
  clear hR ho
  go_enter Try.func24, Try.ntmps24
  go_upto_region 1 with fail
  generalize W.alloc (.cells #[.int .i64 0, .slice none 0 0, .slice none 0 0, .slice none 0 0, .int .i64 0] 42) = V1 at *
  have hb2 : Below V1.heap.size V1 (V1.alloc (.cells #[.int .u8 67, .int .u8 72, .int .u8 77] 5)) := (Below.refl _ _).alloc (Nat.le_refl _) _
  have hl2 : (V1.alloc (.cells #[.int .u8 67, .int .u8 72, .int .u8 77] 5)).heap[V1.heap.size]? = some (.cells #[.int .u8 67, .int .u8 72, .int .u8 77] 5 (0, 0)) := World.alloc_heap_new V1 _
  have HB := Lib.hid (hb1.trans (hb2.mono hb1.size))
  have HP := Lib.hid (hp1.below hb2 hp1.lt)
  have HR := Lib.hid (HR0.out.below hb2)
  have HLT := Lib.hid hl2
  clear hb1 hp1 HR0 hb2 hl2
  go_upto_region 2 with fail
  generalize V1.alloc (.cells #[.int .u8 67, .int .u8 72, .int .u8 77] 5) = V at *
  obtain ⟨L, hL⟩ : ∃ L, W.heap.size + 1 = L := ⟨_, rfl⟩
  rw [hs1, hL] at HLT
  rw [hL]
  clear hL hs1
  go_wp2
  go_loopw [4] (fun i wr => ∃ k : Nat, k ≤ 3 ∧ k ≤ n ∧ i = .int .i64 (k : Int) ∧ Hid (letE (letS.drop k) (bs.drop k) = letE letS bs) ∧ Hid (Below V.heap.size V wr)) (fun i _ => 3 - (intOf i).toNat)
  case atStart => exact ⟨0, by decide, Nat.zero_le _, rfl, rfl, Below.self _⟩
  case round =>
    obtain ⟨k, hk, hkn, rfl, HE, HI⟩ := hrel
    have HB2 := Lib.hid (HB.out.trans (HI.out.mono HB.out.size))
    have HP2 := Lib.hid (HP.out.below HI.out HP.out.lt)
    have HR2 := Lib.hid (HR.out.below HI.out)
    have HL2 : Hid (wr.heap[L]? = some (.cells #[.int .u8 67, .int .u8 72, .int .u8 77] 5 (0, 0))) := (HI.out.block L (Array.getElem?_eq_some_iff.1 HLT.out).1).trans HLT.out
    by_cases hlt : k < 3
    · have hld : letS.drop k = letS[k]?.getD 0 :: letS.drop (k + 1) := drop_getD_cons letS k (by simpa [letS] using hlt)
      have hle2 := HE.out
      by_cases hn : k = n
      · have hkb : ((k : Int) == (n : Int)) = true := by rw [hn]; exact beq_self_eq_true _
        have hzn : bs.drop k = [] := List.eq_nil_of_length_eq_zero (by rw [List.length_drop, ← HL.out]; omega)
        rw [hld, hzn, letE] at hle2
        have HX := Lib.hid (fst_1 (x := 7) hle2.symm (by decide))
        clear hle2 hld hzn
        obtain ⟨p0, p1, p2, p3, p4⟩ := HP2.out.cell
        have pf0 := HP2.out.f 0
        have pf1 := HP2.out.f 1
        have pf2 := HP2.out.f 2
        have pf3 := HP2.out.f 3
        have pf4 := HP2.out.f 4
        have plt := HP2.out.lt
        go_wp2
        refine bodyPost_ret (v := .agg #[.int .i64 0, .slice none 0 0, .slice none 0 0, .slice none 0 0, .int .i64 7]) (by simp [results, Try.results24, go_sem, p0, p1, p2, p3, p4]) rfl (FirRPost.bad (below_five HB2.out (Nat.le_refl _) _ _ _ _ _) (HX.out) (by decide) rfl)
      · have hkb : ((k : Int) == (n : Int)) = false := by rw [beq_eq_false_iff_ne]; omega
        have hkl : k < n := by omega
        obtain ⟨b, off, rfl, _, hblt, hcs⟩ := HR2.out.cells (by omega)
        have hcx := hcs k hkl
        have hcl : wr.cell? ⟨L, k, none⟩ = some (.int .u8 (letS[k]?.getD 0)) := by
          unfold World.cell?; rw [HL2.out]
          rcases (by omega : k = 0 ∨ k = 1 ∨ k = 2) with rfl | rfl | rfl <;> rfl
        have hzd : bs.drop k = bs[k]?.getD 0 :: bs.drop (k + 1) := drop_getD_cons bs k (by rw [← HL.out]; omega)
        rw [hld, hzd, letE] at hle2
        clear hcs hld hzd
        generalize letS[k]?.getD 0 = x at *
        generalize bs[k]?.getD 0 = y at *
        by_cases hxy : y = x
        · have hyb : (y != x) = false := by simpa using hxy
          rw [if_pos hxy] at hle2
          have HE2 := Lib.hid hle2
          clear hle2 hxy
          have K0 := fun d os => cell_regrown hcx d os
          have K1 := fun d os => cell_regrown hcl d os
          go_upto_region 7 with fail
          refine wp_region_quiet_below (by kernel_rfl) (by kernel_rfl) ?_
          repeat (go_big_quiet_step (fail))
          refine wpQuiet_nil ?_
          intro _ hw'
          obtain ⟨⟨dq, osq⟩, hw''⟩ := hw'
          subst hw''
          have HBQ : Hid (Below wr.heap.size wr (grow (redrawn wr dq) osq)) := below_regrown wr dq osq
          generalize grow (redrawn wr dq) osq = WQ at *
          have HBX : Hid (Below V.heap.size V WQ) := HI.out.trans (HBQ.out.mono HI.out.size)
          clear K0 K1 hcx hcl
          go_wp2
          go_roundw
          case rel => exact ⟨k + 1, by omega, by omega, by go_num, HE2.out, HBX.out⟩
          case measure => simp [intOf]; omega
        · have hyb : (y != x) = true := by simpa using hxy
          rw [if_neg hxy] at hle2
          have HX := Lib.hid (fst_1 (x := 8) hle2.symm (by decide))
          clear hle2 hxy
          have K0 := fun d os => cell_regrown hcx d os
          have K1 := fun d os => cell_regrown hcl d os
          go_upto_region 7 with fail
          refine wp_region_quiet_below (by kernel_rfl) (by kernel_rfl) ?_
          repeat (go_big_quiet_step (fail))
          refine wpQuiet_nil ?_
          intro _ hw'
          obtain ⟨⟨dq, osq⟩, hw''⟩ := hw'
          subst hw''
          have HBQ : Hid (Below wr.heap.size wr (grow (redrawn wr dq) osq)) := below_regrown wr dq osq
          generalize grow (redrawn wr dq) osq = WQ at *
          have HB3 : Hid (Below W.heap.size W WQ) := HB2.out.trans (HBQ.out.mono HB2.out.size)
          have HP3 := Lib.hid (HP2.out.below HBQ.out HP2.out.lt)
          clear K0 K1 hcx hcl
          obtain ⟨p0, p1, p2, p3, p4⟩ := HP3.out.cell
          have pf0 := HP3.out.f 0
          have pf1 := HP3.out.f 1
          have pf2 := HP3.out.f 2
          have pf3 := HP3.out.f 3
          have pf4 := HP3.out.f 4
          have plt := HP3.out.lt
          go_wp2
          refine bodyPost_ret (v := .agg #[.int .i64 0, .slice none 0 0, .slice none 0 0, .slice none 0 0, .int .i64 8]) (by simp [results, Try.results24, go_sem, p0, p1, p2, p3, p4]) rfl (FirRPost.bad (below_five HB3.out (Nat.le_refl _) _ _ _ _ _) (HX.out) (by decide) rfl)
    · obtain rfl : k = 3 := by omega
      have HE1 : Hid (letE letS bs = 0) := HE.out.symm
      clear HE HI HB HP HR HLT hlt HL2
      obtain ⟨p0, p1, p2, p3, p4⟩ := HP2.out.cell
      have pf0 := HP2.out.f 0
      have pf1 := HP2.out.f 1
      have pf2 := HP2.out.f 2
      have pf3 := HP2.out.f 3
      have pf4 := HP2.out.f 4
      have plt := HP2.out.lt
      by_cases hn3 : n = 3
      · have hkb : ((n : Int) == 3) = true := by simp [hn3]
        have HX := Lib.hid (fst_2 (x := 7) HE1.out (by unfold kindE; rw [if_pos (by rw [List.length_drop, ← HL.out]; omega)]) (by decide))
        go_wp2
        refine bodyPost_ret (v := .agg #[.int .i64 0, .slice none 0 0, .slice none 0 0, .slice none 0 0, .int .i64 7]) (by simp [results, Try.results24, go_sem, p0, p1, p2, p3, p4]) rfl (FirRPost.bad (below_five HB2.out (Nat.le_refl _) _ _ _ _ _) (HX.out) (by decide) rfl)
      · have hkb : ((n : Int) == 3) = false := by rw [beq_eq_false_iff_ne]; omega
        have hn4 : 4 ≤ n := by omega
        obtain ⟨b, off, rfl, _, hblt, hcs⟩ := HR2.out.cells (by omega)
        have hc3 := hcs 3 (by omega)
        have hy := HO.out.getD 3
        obtain ⟨y, hye⟩ : ∃ y, bs[3]?.getD 0 = y := ⟨_, rfl⟩
        have HY := Lib.hid hye
        rw [hye] at hc3 hy
        have hyw : IntKind.i64.wrap y = y := by rw [IntKind.wrap_i64]; omega
        clear hcs hye
        by_cases hk9 : 1 ≤ y ∧ y ≤ 9
        · have hk1 : ¬ y < 1 := by omega
          have hk2 : ¬ 9 < y := by omega
          have HE2 := Lib.hid (kind_good HY.out (by rw [← HL.out]; omega) hk9)
          have HR4 := Lib.hid (HR2.out.rest 4 hn4 (c - 4) (by omega) (by omega))
          have HO4 := Lib.hid (HO.out.drop 4)
          obtain ⟨off6, he6⟩ : ∃ o, (if c = 4 then some ⟨b, off, none⟩ else some ⟨b, off + 4, none⟩ : Option Addr) = some ⟨b, o, none⟩ := by split; exact ⟨_, rfl⟩; exact ⟨_, rfl⟩
          have HR4a := Lib.hid (HR4.out (some ⟨b, off6, none⟩) (fun h => by rw [← he6, if_neg (by omega)]))
          clear HR4 hk9 hy hn3 hkn hk
          go_wp2_with fail
          refine (unpackR_any HO4.out HR4a.out).mono ?_
          rintro e w1 ⟨hb1, hp1⟩
          have HB3 := Lib.hid (HB2.out.trans (hb1.mono HB2.out.size))
          have HP3 := Lib.hid (HP2.out.below hb1 HP2.out.lt)
          have HR3 := Lib.hid (HR2.out.below hb1)
          have HWZ : Hid (W.heap.size < wr.heap.size) := plt
          clear p0 p1 p2 p3 p4 pf0 pf1 pf2 pf3 pf4 plt hkb hk1 hk2 he6
          clear HB2 HP2 HR2 hc3
          rcases hp1 with ⟨hz, a1, n1, c1, a2, n2, c2, rfl, hI, hD⟩ | ⟨hz, rfl⟩
          · have HZ := Lib.hid hz
            have HI3 := Lib.hid (hI.mono (K' := fun b => W.heap.size < b) (fun b _ h => Nat.lt_of_lt_of_le HWZ.out h))
            have HD3 := Lib.hid (hD.below hb1)
            clear hz hI hD HR4a hb1
            simp only [gotV]
            go_upto_region 15 with fail
            have hbA : Below w1.heap.size w1 (w1.alloc (.cells #[.int .u64 0, .slice a1 n1 c1, .slice a2 n2 c2, .int .i64 0] 68)) := (Below.refl _ _).alloc (Nat.le_refl _) _
            have HA := Lib.hid (Quad.new w1 68 (.int .u64 0) (.slice a1 n1 c1) (.slice a2 n2 c2) (.int .i64 0))
            have HB4 : Hid (Below W.heap.size W (w1.alloc (.cells #[.int .u64 0, .slice a1 n1 c1, .slice a2 n2 c2, .int .i64 0] 68))) := HB3.out.trans (hbA.mono HB3.out.size)
            have HP4 := Lib.hid (HP3.out.below hbA HP3.out.lt)
            have HR4 := Lib.hid (HR3.out.below hbA)
            have HI4 := Lib.hid (HI3.out.below hbA)
            have HD4 := Lib.hid (HD3.out.below hbA)
            obtain ⟨A, hA⟩ : ∃ B, w1.heap.size = B := ⟨_, rfl⟩
            rw [hA] at HA ⊢
            clear hbA hA
            generalize (w1.alloc (.cells #[.int .u64 0, .slice a1 n1 c1, .slice a2 n2 c2, .int .i64 0] 68)) = V3 at *
            clear HB3 HP3 HR3 HI3 HD3
            obtain ⟨k1, hk1⟩ : ∃ k, (unS (bs.drop 4)).2.1 = k := ⟨_, rfl⟩
            have HK1 := Lib.hid hk1
            rw [hk1] at HD4
            clear hk1
            have HZI : Hid (bs.drop (atI bs) = (bs.drop 4).drop k1) := by show _ = _; unfold atI; rw [HK1.out, List.drop_drop]
            obtain ⟨zs, hzs⟩ : ∃ l, (bs.drop 4).drop k1 = l := ⟨_, rfl⟩
            have HZS := Lib.hid hzs
            have HOZ : Hid (Oct zs) := by rw [← hzs]; exact HO4.out.drop k1
            rw [hzs] at HD4 HZI
            clear hzs HO4
            obtain ⟨r0, r1, r2, r3⟩ := HA.out.cell
            have HNI : Hid (n1 = (unS (bs.drop 4)).1.length) := HI4.out.hl
            obtain ⟨p0, p1, p2, p3, p4⟩ := HP4.out.cell
            have pf0 := HP4.out.f 0
            have pf1 := HP4.out.f 1
            have pf2 := HP4.out.f 2
            have pf3 := HP4.out.f 3
            have pf4 := HP4.out.f 4
            have plt := HP4.out.lt
            by_cases h40 : 40 < n1
            · have HX := Lib.hid (fst_3 (x := 8) HE1.out HE2.out (id_long HZ.out (by rw [← HNI.out]; exact h40)) (by decide))
              go_wp2
              refine bodyPost_ret (v := .agg #[.int .i64 0, .slice none 0 0, .slice none 0 0, .slice none 0 0, .int .i64 8]) (by simp [results, Try.results24, go_sem, p0, p1, p2, p3, p4]) rfl (FirRPost.bad (below_five HB4.out (Nat.le_refl _) _ _ _ _ _) (HX.out) (by decide) rfl)
            · have HE3 := Lib.hid (id_good HZ.out (by rw [← HNI.out]; exact h40))
              go_wp2_with fail
              refine (readR_any HOZ.out HD4.out).mono ?_
              rintro e w5 ⟨hb5, hp5⟩
              have HB5 := Lib.hid (HB4.out.trans (hb5.mono HB4.out.size))
              have HP5 := Lib.hid (HP4.out.below hb5 HP4.out.lt)
              have HR5 := Lib.hid (HR4.out.below hb5)
              have HI5 := Lib.hid (HI4.out.below hb5)
              have HA5 := Lib.hid (HA.out.below hb5 HA.out.lt)
              clear p0 p1 p2 p3 p4 pf0 pf1 pf2 pf3 pf4 plt r0 r1 r2 r3
              clear HB4 HP4 HR4 HI4 HA
              rcases hp5 with ⟨hz5, a4, n4, c4, rfl, hr4⟩ | ⟨hz5, rfl⟩
              · have HZ5 := Lib.hid hz5
                have HR6 := Lib.hid (hr4.below hb5)
                clear HD4 hb5
                have hub := rdS_u64 HOZ.out
                obtain ⟨u, hu⟩ := Int.eq_ofNat_of_zero_le hub.1
                have hun : u < 18446744073709551616 := by have := hub.2; rw [hu] at this; omega
                have HU := Lib.hid hu
                obtain ⟨k2, hk2⟩ : ∃ k, (rdS zs).2.1 = k := ⟨_, rfl⟩
                have HK2 := Lib.hid hk2
                rw [hk2] at HR6
                rw [hu]
                clear hub hu hk2 hz5 hr4
                simp only [gotV]
                go_upto_region 20 with fail
                have hbA : Below w5.heap.size w5 (w5.alloc (.cells #[.int .u64 (u : Int), .slice none 0 0, .slice a4 n4 c4, .int .i64 0] 68)) := (Below.refl _ _).alloc (Nat.le_refl _) _
                have HC := Lib.hid (Quad.new w5 68 (.int .u64 (u : Int)) (.slice none 0 0) (.slice a4 n4 c4) (.int .i64 0))
                have HB6 : Hid (Below W.heap.size W (w5.alloc (.cells #[.int .u64 (u : Int), .slice none 0 0, .slice a4 n4 c4, .int .i64 0] 68))) := HB5.out.trans (hbA.mono HB5.out.size)
                have HP6 := Lib.hid (HP5.out.below hbA HP5.out.lt)
                have HR6b := Lib.hid (HR5.out.below hbA)
                have HI6 := Lib.hid (HI5.out.below hbA)
                have HA6 := Lib.hid (HA5.out.below hbA HA5.out.lt)
                have HR7 := Lib.hid (HR6.out.below hbA)
                obtain ⟨C, hC⟩ : ∃ B, w5.heap.size = B := ⟨_, rfl⟩
                rw [hC] at HC ⊢
                clear hbA hC
                generalize (w5.alloc (.cells #[.int .u64 (u : Int), .slice none 0 0, .slice a4 n4 c4, .int .i64 0] 68)) = V5 at *
                clear HB5 HP5 HR5 HI5 HA5 HR6
                obtain ⟨s0, s1, s2, s3⟩ := HC.out.cell
                obtain ⟨p0, p1, p2, p3, p4⟩ := HP6.out.cell
                have pf0 := HP6.out.f 0
                have pf1 := HP6.out.f 1
                have pf2 := HP6.out.f 2
                have pf3 := HP6.out.f 3
                have pf4 := HP6.out.f 4
                have plt := HP6.out.lt
                by_cases h65 : 65536 < u
                · have HX := Lib.hid (fst_4 (x := 8) HE1.out HE2.out HE3.out (by rw [HZI.out]; exact data_big HZ5.out (by rw [HU.out]; omega)) (by decide))
                  have h65I : (65536 : Int) < (u : Int) := by omega
                  go_wp2
                  refine bodyPost_ret (v := .agg #[.int .i64 0, .slice none 0 0, .slice none 0 0, .slice none 0 0, .int .i64 8]) (by simp [results, Try.results24, go_sem, p0, p1, p2, p3, p4]) rfl (FirRPost.bad (below_five HB6.out (Nat.le_refl _) _ _ _ _ _) (HX.out) (by decide) rfl)
                · have hwu : IntKind.i64.wrap (u : Int) = u := by rw [IntKind.wrap_i64]; omega
                  have h65I : ¬ (65536 : Int) < (u : Int) := by omega
                  have hn4l : n4 = zs.length - k2 := by rw [HR7.out.hl, List.length_drop]
                  have hzl : zs.length = n - 4 - k1 := by rw [← HZS.out, List.length_drop, List.length_drop, ← HL.out]
                  have HATD : Hid (atD bs = 4 + k1 + k2) := by show _ = _; unfold atD; rw [HZI.out, HK2.out]; unfold atI; rw [HK1.out]
                  have HAT : Hid (atS bs = 4 + k1 + k2 + u) := by show _ = _; unfold atS; rw [HATD.out, HZI.out, HU.out]; rfl
                  by_cases hsh : n4 < u + 8
                  · have hshI : (n4 : Int) < (u : Int) + 8 := by omega
                    have HX : Hid (fstE bs = 7) := by
                      show _ = _
                      by_cases hs2 : n4 < u
                      · exact fst_4 HE1.out HE2.out HE3.out (by rw [HZI.out]; exact data_short HZ5.out (by rw [HU.out]; omega) (by rw [HK2.out, HU.out, ← hn4l]; exact hs2)) (by decide)
                      · refine fst_5 HE1.out HE2.out HE3.out (by rw [HZI.out]; exact data_good HZ5.out (by rw [HU.out]; omega) (by rw [HK2.out, HU.out, ← hn4l]; exact hs2)) ?_
                        unfold sumE
                        rw [if_pos (by rw [List.length_drop, HAT.out, ← HL.out]; omega)]
                    clear hn4l hzl
                    go_wp2
                    refine bodyPost_ret (v := .agg #[.int .i64 0, .slice none 0 0, .slice none 0 0, .slice none 0 0, .int .i64 7]) (by simp [results, Try.results24, go_sem, p0, p1, p2, p3, p4]) rfl (FirRPost.bad (below_five HB6.out (Nat.le_refl _) _ _ _ _ _) (HX.out) (by decide) rfl)
                  · have hshI : ¬ (n4 : Int) < (u : Int) + 8 := by omega
                    obtain ⟨p, hp⟩ : ∃ p, 4 + k1 + k2 + u = p := ⟨_, rfl⟩
                    have hpn8 : p + 8 ≤ n := by omega
                    have hpI : (n : Int) - (n4 : Int) + (u : Int) = (p : Int) := by omega
                    have HE4 : Hid (dataE (bs.drop (atI bs)) = 0) := by show _ = _; rw [HZI.out]; exact data_good HZ5.out (by rw [HU.out]; omega) (by rw [HK2.out, HU.out, ← hn4l]; omega)
                    rw [hp] at HAT
                    have HN4 : Hid (n4 = zs.length - k2 ∧ u + 8 ≤ n4) := ⟨hn4l, by omega⟩
                    have HPD : Hid (4 + k1 + k2 + u = p) := hp
                    have HRT := Lib.hid (HR6b.out.upto p (by omega))
                    have HOT := Lib.hid (HO.out.take p)
                    have HRS := Lib.hid ((HR6b.out.rest p (by omega) (c - p) (by omega) (by omega) (some ⟨b, off + p, none⟩) (fun _ => rfl)).upto 8 (by omega))
                    obtain ⟨sb, hsb⟩ : ∃ sb, sameB (sum8 (Dg.bytesD (bs.take p))) ((bs.drop p).take 8) = sb := ⟨_, rfl⟩
                    have HSB := Lib.hid hsb
                    clear hn4l hzl hp hsb h65 hsh h40
                    go_upto_region 28 with fail
                    obtain ⟨q, hq⟩ : ∃ q, p + 8 = q := ⟨_, rfl⟩
                    have hpq : (p : Int) + 8 = (q : Int) := by omega
                    have hq8 : q - p = 8 := by omega
                    have hqn : q ≤ n := by omega
                    have hpc : p ≤ c := by omega
                    have hpn : p ≤ n := by omega
                    have hqc : q ≤ c := by omega
                    have hpq2 : p ≤ q := by omega
                    have hpz : ¬ c = p := by omega
                    have hwq : IntKind.i64.wrap (q : Int) = q := by rw [IntKind.wrap_i64]; omega
                    have HQ : Hid (fstN bs = q) := by show _ = _; unfold fstN; rw [HAT.out, hq]
                    clear hq
                    clear p0 p1 p2 p3 p4 pf0 pf1 pf2 pf3 pf4 plt s0 s1 s2 s3
                    refine wp_region_facts (by kernel_rfl) (fs := [Fact.is (.slice (some ⟨b, off, none⟩) n c), Fact.is (.int .i64 (p : Int)), Fact.is (.slice (some ⟨b, off, none⟩) p c), BytF (sum8 (Dg.bytesD (bs.take p))), Fact.is (.slice (some ⟨b, off, none⟩) n c), Fact.is (.int .i64 (p : Int)), Fact.is (.int .i64 (p : Int)), Fact.is (.int .i64 (q : Int)), Fact.is (.slice (some ⟨b, off + p, none⟩) 8 (c - p)), Fact.is (.bool sb), Fact.is (.bool (!sb))]) (by kernel_rfl) (by kernel_rfl) ⟨Fact.is_stable _, Fact.is_stable _, Fact.is_stable _, bytF_stable _, Fact.is_stable _, Fact.is_stable _, Fact.is_stable _, Fact.is_stable _, Fact.is_stable _, Fact.is_stable _, Fact.is_stable _, trivial⟩ ?_ ?_
                    · exact ⟨by
                          intro a W hA hB hd
                          have hB := Lib.hid hB
                          have p0 : a.eval (.tmp 0) = .slice (some ⟨b, off, none⟩) n c := hA.at 0 (by kernel_rfl)
                          exact (step_pure (wanted_none rfl) (.slice (some ⟨b, off, none⟩) n c) (by simp [execOp, go_sem, tm p0]) rfl),
                        by
                          intro a W hA hB hd
                          have hB := Lib.hid hB
                          have p9 : a.eval (.tmp 9) = .int .i64 (p : Int) := hA.at 9 (by kernel_rfl)
                          exact (step_pure (wanted_none rfl) (.int .i64 (p : Int)) (by simp [execOp, go_sem, tm p9]) rfl),
                        by
                          intro a W hA hB hd
                          obtain ⟨q0, q1, -⟩ := hd
                          have h92 : a.eval (.tmp 92) = .slice (some ⟨b, off, none⟩) n c := q0
                          have h93 : a.eval (.tmp 93) = .int .i64 (p : Int) := q1
                          have hB := Lib.hid hB
                          exact (step_pure (wanted_none rfl) (.slice (some ⟨b, off, none⟩) p c) (by simp [execOp, go_sem, tm h92, tm h93, hpc]) rfl),
                        by
                          intro a W hA hB hd
                          obtain ⟨q0, -⟩ := hd
                          have h94 : a.eval (.tmp 94) = .slice (some ⟨b, off, none⟩) p c := q0
                          have hB := Lib.hid hB
                          exact (step_calls (wanted_none rfl) rfl (vals := #[.slice (some ⟨b, off, none⟩) p c]) (by simp [h94]) (enters_of Try.func34 (by kernel_rfl) rfl) (makes_byt (by rw [sum8_len]; decide) (checkR_any (HRT.out.below hB.out) HOT.out))),
                        by
                          intro a W hA hB hd
                          have hB := Lib.hid hB
                          have p0 : a.eval (.tmp 0) = .slice (some ⟨b, off, none⟩) n c := hA.at 0 (by kernel_rfl)
                          exact (step_pure (wanted_none rfl) (.slice (some ⟨b, off, none⟩) n c) (by simp [execOp, go_sem, tm p0]) rfl),
                        by
                          intro a W hA hB hd
                          have hB := Lib.hid hB
                          have p9 : a.eval (.tmp 9) = .int .i64 (p : Int) := hA.at 9 (by kernel_rfl)
                          exact (step_pure (wanted_none rfl) (.int .i64 (p : Int)) (by simp [execOp, go_sem, tm p9]) rfl),
                        by
                          intro a W hA hB hd
                          have hB := Lib.hid hB
                          have p9 : a.eval (.tmp 9) = .int .i64 (p : Int) := hA.at 9 (by kernel_rfl)
                          exact (step_pure (wanted_none rfl) (.int .i64 (p : Int)) (by simp [execOp, go_sem, tm p9]) rfl),
                        by
                          intro a W hA hB hd
                          obtain ⟨q0, -⟩ := hd
                          have h98 : a.eval (.tmp 98) = .int .i64 (p : Int) := q0
                          have hB := Lib.hid hB
                          exact (step_pure (wanted_none rfl) (.int .i64 (q : Int)) (by simp [execOp, go_sem, tm h98, hpq, hwq]) rfl),
                        by
                          intro a W hA hB hd
                          obtain ⟨q0, q1, q2, -⟩ := hd
                          have h96 : a.eval (.tmp 96) = .slice (some ⟨b, off, none⟩) n c := q0
                          have h97 : a.eval (.tmp 97) = .int .i64 (p : Int) := q1
                          have h99 : a.eval (.tmp 99) = .int .i64 (q : Int) := q2
                          have hB := Lib.hid hB
                          exact (step_pure (wanted_none rfl) (.slice (some ⟨b, off + p, none⟩) 8 (c - p)) (by simp [execOp, go_sem, tm h96, tm h97, tm h99, hqc, hpq2, hq8, hpz]) rfl),
                        by
                          intro a W hA hB hd
                          obtain ⟨q0, q1, q2, -⟩ := hd
                          have h95 : (BytF (sum8 (Dg.bytesD (bs.take p)))) (a.eval (.tmp 95)) W := q0
                          have h100 : a.eval (.tmp 100) = .slice (some ⟨b, off + p, none⟩) 8 (c - p) := q1
                          have hB := Lib.hid hB
                          obtain ⟨g0, n0, c0, e95, r95⟩ := h95
                          exact (step_calls (wanted_none rfl) rfl (vals := #[.slice (some ⟨g0, 0, none⟩) n0 c0, .slice (some ⟨b, off + p, none⟩) 8 (c - p)]) (by simp [e95, h100]) (enters_of Try.func8 (by kernel_rfl) rfl) ((same_any r95 (HRS.out.below hB.out)).mono fun e w' ⟨he, hw⟩ => ⟨_, he, by rw [HSB.out]; rfl, hw⟩)),
                        by
                          intro a W hA hB hd
                          obtain ⟨q0, -⟩ := hd
                          have h101 : a.eval (.tmp 101) = .bool sb := q0
                          have hB := Lib.hid hB
                          exact (step_pure (wanted_none rfl) (.bool (!sb)) (by simp [execOp, go_sem, tm h101]) rfl), trivial⟩
                    · intro zx V6 hA hB hE
                      have h102 : zx.eval (.tmp 102) = .bool (!sb) := hE.2.2.2.2.2.2.2.2.2.2.1
                      have hp := hA.puts [92, 93, 94, 95, 96, 97, 98, 99, 100, 101, 102] (by kernel_rfl)
                      clear hA hE
                      simp only [putAll, h102] at hp
                      clear h102
                      generalize zx.eval = ev at hp
                      subst hp
                      have HB7 : Hid (Below W.heap.size W V6) := HB6.out.trans (hB.mono HB6.out.size)
                      have HP7 := Lib.hid (HP6.out.below hB HP6.out.lt)
                      have HA7 := Lib.hid (HA6.out.below hB HA6.out.lt)
                      have HC7 := Lib.hid (HC.out.below hB HC.out.lt)
                      have HI7 := Lib.hid (HI6.out.below hB)
                      have HR8 := Lib.hid (HR6b.out.below hB)
                      have HR9 := Lib.hid (HR7.out.below hB)
                      clear hB HB6 HP6 HA6 HC HI6 HR6b HR7 HRT HOT HRS
                      simp only [Act.put, List.setIfInBounds_toArray, List.set_cons_succ, List.set_cons_zero]
                      have hlen8 : ¬ (bs.drop (atS bs)).length < 8 := by rw [List.length_drop, HAT.out, ← HL.out]; omega
                      cases sb
                      · have HX := Lib.hid (fst_5 (x := 8) HE1.out HE2.out HE3.out HE4.out (by unfold sumE; rw [if_neg hlen8, HAT.out, if_neg (fun e => by have h := HSB.out; rw [sameB_true e.symm] at h; cases h)]))
                        clear hlen8
                        obtain ⟨p0, p1, p2, p3, p4⟩ := HP7.out.cell
                        have pf0 := HP7.out.f 0
                        have pf1 := HP7.out.f 1
                        have pf2 := HP7.out.f 2
                        have pf3 := HP7.out.f 3
                        have pf4 := HP7.out.f 4
                        have plt := HP7.out.lt
                        go_wp2
                        refine bodyPost_ret (v := .agg #[.int .i64 0, .slice none 0 0, .slice none 0 0, .slice none 0 0, .int .i64 8]) (by simp [results, Try.results24, go_sem, p0, p1, p2, p3, p4]) rfl (FirRPost.bad (below_five HB7.out (Nat.le_refl _) _ _ _ _ _) (HX.out) (by decide) rfl)
                      · have HX := Lib.hid (fst_5 (x := 0) HE1.out HE2.out HE3.out HE4.out (by unfold sumE; rw [if_neg hlen8, HAT.out, if_pos (sameB_iff.1 HSB.out).symm]))
                        clear hlen8
                        obtain ⟨p0, p1, p2, p3, p4⟩ := HP7.out.cell
                        have pf0 := HP7.out.f 0
                        have pf1 := HP7.out.f 1
                        have pf2 := HP7.out.f 2
                        have pf3 := HP7.out.f 3
                        have pf4 := HP7.out.f 4
                        have plt := HP7.out.lt
                        obtain ⟨r0, r1, r2, r3⟩ := HA7.out.cell
                        obtain ⟨s0, s1, s2, s3⟩ := HC7.out.cell
                        obtain ⟨off9, he9⟩ : ∃ o, (if c = q then some ⟨b, off, none⟩ else some ⟨b, off + q, none⟩ : Option Addr) = some ⟨b, o, none⟩ := by split; exact ⟨_, rfl⟩; exact ⟨_, rfl⟩
                        have HRZ := Lib.hid (HR8.out.rest q hqn (c - q) (by omega) (by omega) (some ⟨b, off9, none⟩) (fun h => by rw [← he9, if_neg (by omega)]))
                        have hu4 : u ≤ n4 := by have := HN4.out; omega
                        have hn4c : n4 ≤ c4 := HR9.out.fit
                        have hu4c : u ≤ c4 := by omega
                        have HRD := Lib.hid (HR9.out.upto u hu4)
                        have HDD : Hid (fstD bs = (zs.drop k2).take u) := by show _ = _; unfold fstD; rw [HATD.out, HZI.out, HU.out, ← HZS.out, List.drop_drop, List.drop_drop, Int.toNat_natCast, Nat.add_assoc]
                        go_upto_region 30 with fail
                        go_still_tail 12, (by kernel_rfl)
                        go_wp2
                        have hK := (kept_stored5 V6 W.heap.size (.int .i64 y) (.slice a1 n1 c1) (.slice a4 u c4) (.slice (some ⟨b, off9, none⟩) (n - q) (c - q)) (.int .i64 0)).drew
                        refine bodyPost_ret (v := .agg #[.int .i64 y, .slice a1 n1 c1, .slice a4 u c4, .slice (some ⟨b, off9, none⟩) (n - q) (c - q), .int .i64 0]) (by simp [results, Try.results24, go_sem, p0, p1, p2, p3, p4]) rfl ⟨(below_five HB7.out (Nat.le_refl _) _ _ _ _ _).drew, .inl ⟨HX.out, a1, n1, c1, a4, u, c4, some ⟨b, off9, none⟩, n - q, c - q, by rw [show fstK bs = y from HY.out], (HI7.out.kept (hK.mono fun b h => by have h : _ < b := h; omega)).mono (fun b _ h => Nat.le_of_lt h), ?_, ?_⟩⟩
                        · rw [HDD.out]; exact (HRD.out.kept (hK.mono fun b h => by have := h.2; omega)).mono fun b _ h => h.1
                        · rw [HQ.out]; exact (HRZ.out.kept (hK.mono fun b h => by have := h.2; omega)).mono fun b _ h => h.1
              · obtain ⟨x, hxe⟩ : ∃ x, (rdS zs).2.2 = x := ⟨_, rfl⟩
                rw [hxe] at hz5 ⊢
                have HX := Lib.hid (fst_4 HE1.out HE2.out HE3.out (by rw [HZI.out]; exact data_err hxe hz5) (rot_nz x))
                have hxb : (x == 0) = false := by rw [beq_eq_false_iff_ne]; exact hz5
                have hxn : (x != 0) = true := by rw [bne_iff_ne]; exact hz5
                clear hxe hz5
                simp only [gotV]
                go_upto_region 20 with fail
                have hbA : Below w5.heap.size w5 (w5.alloc (.cells #[.int .u64 0, .slice none 0 0, .slice none 0 0, .int .i64 x] 68)) := (Below.refl _ _).alloc (Nat.le_refl _) _
                have HC := Lib.hid (Quad.new w5 68 (.int .u64 0) (.slice none 0 0) (.slice none 0 0) (.int .i64 x))
                have HB6 : Hid (Below W.heap.size W (w5.alloc (.cells #[.int .u64 0, .slice none 0 0, .slice none 0 0, .int .i64 x] 68))) := HB5.out.trans (hbA.mono HB5.out.size)
                have HP6 := Lib.hid (HP5.out.below hbA HP5.out.lt)
                obtain ⟨C, hC⟩ : ∃ B, w5.heap.size = B := ⟨_, rfl⟩
                rw [hC] at HC ⊢
                clear hbA hC
                generalize (w5.alloc (.cells #[.int .u64 0, .slice none 0 0, .slice none 0 0, .int .i64 x] 68)) = V5 at *
                have s3 := HC.out.cell.2.2.2
                obtain ⟨p0, p1, p2, p3, p4⟩ := HP6.out.cell
                have pf0 := HP6.out.f 0
                have pf1 := HP6.out.f 1
                have pf2 := HP6.out.f 2
                have pf3 := HP6.out.f 3
                have pf4 := HP6.out.f 4
                have plt := HP6.out.lt
                go_wp2_with (go_at_call 39; refine (rotR_any _ _).mono ?_; rintro e w' ⟨rfl, rfl⟩)
                refine bodyPost_ret (v := .agg #[.int .i64 0, .slice none 0 0, .slice none 0 0, .slice none 0 0, .int .i64 (rotE x)]) (by simp [results, Try.results24, go_sem, p0, p1, p2, p3, p4]) rfl (FirRPost.bad (below_five HB6.out (Nat.le_refl _) _ _ _ _ _) (HX.out) (rot_nz x) rfl)
          · obtain ⟨x, hxe⟩ : ∃ x, (unS (bs.drop 4)).2.2 = x := ⟨_, rfl⟩
            rw [hxe] at hz ⊢
            have HX := Lib.hid (fst_3 HE1.out HE2.out (id_err hxe hz) (rot_nz x))
            have hxb : (x == 0) = false := by rw [beq_eq_false_iff_ne]; exact hz
            have hxn : (x != 0) = true := by rw [bne_iff_ne]; exact hz
            clear hxe hz
            simp only [gotV]
            go_upto_region 15 with fail
            have hbA : Below w1.heap.size w1 (w1.alloc (.cells #[.int .u64 0, .slice none 0 0, .slice none 0 0, .int .i64 x] 68)) := (Below.refl _ _).alloc (Nat.le_refl _) _
            have HA := Lib.hid (Quad.new w1 68 (.int .u64 0) (.slice none 0 0) (.slice none 0 0) (.int .i64 x))
            have HB4 : Hid (Below W.heap.size W (w1.alloc (.cells #[.int .u64 0, .slice none 0 0, .slice none 0 0, .int .i64 x] 68))) := HB3.out.trans (hbA.mono HB3.out.size)
            have HP4 := Lib.hid (HP3.out.below hbA HP3.out.lt)
            obtain ⟨A, hA⟩ : ∃ B, w1.heap.size = B := ⟨_, rfl⟩
            rw [hA] at HA ⊢
            clear hbA hA
            generalize (w1.alloc (.cells #[.int .u64 0, .slice none 0 0, .slice none 0 0, .int .i64 x] 68)) = V3 at *
            have r3 := HA.out.cell.2.2.2
            obtain ⟨p0, p1, p2, p3, p4⟩ := HP4.out.cell
            have pf0 := HP4.out.f 0
            have pf1 := HP4.out.f 1
            have pf2 := HP4.out.f 2
            have pf3 := HP4.out.f 3
            have pf4 := HP4.out.f 4
            have plt := HP4.out.lt
            go_wp2_with (go_at_call 39; refine (rotR_any _ _).mono ?_; rintro e w' ⟨rfl, rfl⟩)
            refine bodyPost_ret (v := .agg #[.int .i64 0, .slice none 0 0, .slice none 0 0, .slice none 0 0, .int .i64 (rotE x)]) (by simp [results, Try.results24, go_sem, p0, p1, p2, p3, p4]) rfl (FirRPost.bad (below_five HB4.out (Nat.le_refl _) _ _ _ _ _) (HX.out) (rot_nz x) rfl)
        · have HX := Lib.hid (fst_2 (x := 8) HE1.out (kind_bad HY.out (by rw [← HL.out]; omega) hk9) (by decide))
          by_cases hk1 : y < 1
          · skip
            go_wp2
            refine bodyPost_ret (v := .agg #[.int .i64 0, .slice none 0 0, .slice none 0 0, .slice none 0 0, .int .i64 8]) (by simp [results, Try.results24, go_sem, p0, p1, p2, p3, p4]) rfl (FirRPost.bad (below_five HB2.out (Nat.le_refl _) _ _ _ _ _) (HX.out) (by decide) rfl)
          · have hk2 : 9 < y := by omega
            go_wp2
            refine bodyPost_ret (v := .agg #[.int .i64 0, .slice none 0 0, .slice none 0 0, .slice none 0 0, .int .i64 8]) (by simp [results, Try.results24, go_sem, p0, p1, p2, p3, p4]) rfl (FirRPost.bad (below_five HB2.out (Nat.le_refl _) _ _ _ _ _) (HX.out) (by decide) rfl)

end Go.Proofs.Ytkfmgiacdlkmiaa

namespace Go.Proofs.Ytkfmgiacdlkmiaa
open Go Go.RowKit Go.Shelf Go.Sort Go.ChangeShapes Go.WideShapes Go.ChangeAt

/-- What the reference's opening comes to. -/
def OpnRPost (bs : List Int) (W : World) (e : Ending) (V : World) : Prop :=
  Below W.heap.size W V ∧ ((openE bs = 0 ∧ ∃ a1 n1 c1 a2 n2 c2 a3 c3, e = .returned (.agg #[.int .i64 (fstK bs), .slice a1 n1 c1, .slice a2 n2 c2, .slice a3 0 c3, .int .i64 0]) ∧ Rd (fun _ => True) V .i64 a1 n1 c1 (fstI bs) ∧ Rd (fun _ => True) V .u8 a2 n2 c2 (fstD bs) ∧ Rd (fun _ => True) V .u8 a3 0 c3 []) ∨
    (openE bs ≠ 0 ∧ e = .returned (.agg #[.int .i64 0, .slice none 0 0, .slice none 0 0, .slice none 0 0, .int .i64 (openE bs)])))
theorem open_fst {bs : List Int} {x : Int} (h : fstE bs = x) (hx : x ≠ 0) : openE bs = x := by unfold openE; rw [if_pos (by rw [h]; exact hx), h]
theorem open_more9 {bs : List Int} (h : fstE bs = 0) (hl : fstN bs < bs.length) : openE bs = 8 := by unfold openE; rw [if_neg (fun c => c h), if_pos hl]
theorem open_all9 {bs : List Int} (h : fstE bs = 0) (hl : ¬ fstN bs < bs.length) : openE bs = 0 := by unfold openE; rw [if_neg (fun c => c h), if_neg hl]

set_option maxRecDepth 100000 in
set_option maxHeartbeats 4000000 in
theorem openR_any {K : Nat → Prop} {a : Option Addr} {n c : Nat} {bs : List Int} {W : World} (hR : Rd K W .u8 a n c bs) (ho : Oct bs) :
    Calls Try.prog 15 #[.slice a n c] W (OpnRPost bs W) := by
  have HL := Lib.hid hR.hl
  have HO := Lib.hid ho
  have hb1 : Below W.heap.size W (W.alloc (.cells #[.int .i64 0, .slice none 0 0, .slice none 0 0, .slice none 0 0, .int .i64 0] 42)) := (Below.refl _ _).alloc (Nat.le_refl _) _
  have HP1 := Lib.hid (OpB.new W (.int .i64 0) (.slice none 0 0) (.slice none 0 0) (.slice none 0 0) (.int .i64 0))
  have HT := Lib.hid (firstR_any ((hR.mono (K' := fun b => b < W.heap.size) (fun b hlt _ => hlt)).below hb1) ho)
  have HS1 : Hid ((W.alloc (.cells #[.int .i64 0, .slice none 0 0, .slice none 0 0, .slice none 0 0, .int .i64 0] 42)).heap.size = W.heap.size + 1) := World.size_alloc ..
  have HB1 := Lib.hid hb1
  clear hb1 hR ho
  go_enter Try.func15, Try.ntmps15
  go_wp2_with fail
  generalize (W.alloc (.cells #[.int .i64 0, .slice none 0 0, .slice none 0 0, .slice none 0 0, .int .i64 0] 42)) = V1 at *
  refine HT.out.mono ?_
  rintro e V ⟨hb, hp⟩
  have HB2 := Lib.hid (HB1.out.trans (hb.mono HB1.out.size))
  have HP2 := Lib.hid (HP1.out.below hb HP1.out.lt)
  clear HT HB1 HP1
  rcases hp with ⟨hz, a1, n1, c1, a2, n2, c2, a3, n3, c3, rfl, hI, hD, hR3⟩ | ⟨hz, rfl⟩
  · have HZ := Lib.hid hz
    have HT3 : Hid (c3 ≤ 9223372036854775807) := hR3.top
    have HN3 : Hid (n3 = n - fstN bs) := by show _ = _; rw [hR3.hl, List.length_drop, ← HL.out]
    have hbA : Below V.heap.size V (V.alloc (.cells #[.int .i64 (fstK bs), .slice a1 n1 c1, .slice a2 n2 c2, .slice a3 n3 c3, .int .i64 0] 42)) := (Below.refl _ _).alloc (Nat.le_refl _) _
    have HF3 := Lib.hid (OpB.new V (.int .i64 (fstK bs)) (.slice a1 n1 c1) (.slice a2 n2 c2) (.slice a3 n3 c3) (.int .i64 0))
    have HB3 : Hid (Below W.heap.size W (V.alloc (.cells #[.int .i64 (fstK bs), .slice a1 n1 c1, .slice a2 n2 c2, .slice a3 n3 c3, .int .i64 0] 42))) := HB2.out.trans (hbA.mono HB2.out.size)
    have HP3 := Lib.hid (HP2.out.below hbA HP2.out.lt)
    have HI3 := Lib.hid ((hI.below hbA).mono (K' := fun b => b ≠ W.heap.size) (fun b _ h => by have h : _ ≤ b := h; rw [HS1.out] at h; omega))
    have HD3 := Lib.hid ((hD.below hbA).mono (K' := fun b => b ≠ W.heap.size) (fun b _ h => by have h : b < _ := h; omega))
    clear hz hbA hI hD hR3 HB2 HP2
    go_upto_region 2 with fail
    generalize V.alloc (.cells #[.int .i64 (fstK bs), .slice a1 n1 c1, .slice a2 n2 c2, .slice a3 n3 c3, .int .i64 0] 42) = V3 at *
    generalize V.heap.size = F at *
    obtain ⟨q0, q1, q2, q3, q4⟩ := HF3.out.cell
    obtain ⟨p0, p1, p2, p3, p4⟩ := HP3.out.cell
    have pf0 := HP3.out.f 0
    have pf1 := HP3.out.f 1
    have pf2 := HP3.out.f 2
    have pf3 := HP3.out.f 3
    have pf4 := HP3.out.f 4
    have plt := HP3.out.lt
    by_cases hm : fstN bs < n
    · have HX := Lib.hid (open_more9 HZ.out (by rw [← HL.out]; exact hm))
      have hn3 : (0 : Int) < (n3 : Int) := by have := HN3.out; omega
      go_wp2
      exact bodyPost_ret (v := .agg #[.int .i64 0, .slice none 0 0, .slice none 0 0, .slice none 0 0, .int .i64 8]) (by simp [results, Try.results15, go_sem, p0, p1, p2, p3, p4]) rfl ⟨below_five HB3.out (Nat.le_refl _) _ _ _ _ _, .inr ⟨by rw [HX.out]; decide, by rw [HX.out]⟩⟩
    · have HX := Lib.hid (open_all9 HZ.out (by rw [← HL.out]; exact hm))
      have hn3 : n3 = 0 := by have := HN3.out; omega
      subst hn3
      go_wp2
      have hK := kept_stored5 V3 W.heap.size (.int .i64 (fstK bs)) (.slice a1 n1 c1) (.slice a2 n2 c2) (.slice a3 0 c3) (.int .i64 0)
      exact bodyPost_ret (v := .agg #[.int .i64 (fstK bs), .slice a1 n1 c1, .slice a2 n2 c2, .slice a3 0 c3, .int .i64 0]) (by simp [results, Try.results15, go_sem, p0, p1, p2, p3, p4]) rfl ⟨below_five HB3.out (Nat.le_refl _) _ _ _ _ _, .inl ⟨HX.out, a1, n1, c1, a2, n2, c2, a3, c3, rfl, (HI3.out.kept hK).mono fun _ _ _ => trivial, (HD3.out.kept hK).mono fun _ _ _ => trivial, ⟨rfl, Nat.zero_le _, HT3.out, by decide, fun h => absurd h (by decide)⟩⟩⟩
  · obtain ⟨x, hxe⟩ : ∃ x, fstE bs = x := ⟨_, rfl⟩
    rw [hxe] at hz ⊢
    have HX := Lib.hid (open_fst hxe hz)
    have HXN := Lib.hid hz
    have hxb : (x == 0) = false := by rw [beq_eq_false_iff_ne]; exact hz
    have hbA : Below V.heap.size V (V.alloc (.cells #[.int .i64 0, .slice none 0 0, .slice none 0 0, .slice none 0 0, .int .i64 x] 42)) := (Below.refl _ _).alloc (Nat.le_refl _) _
    have HF3 := Lib.hid (OpB.new V (.int .i64 0) (.slice none 0 0) (.slice none 0 0) (.slice none 0 0) (.int .i64 x))
    have HB3 : Hid (Below W.heap.size W (V.alloc (.cells #[.int .i64 0, .slice none 0 0, .slice none 0 0, .slice none 0 0, .int .i64 x] 42))) := HB2.out.trans (hbA.mono HB2.out.size)
    have HP3 := Lib.hid (HP2.out.below hbA HP2.out.lt)
    clear hz hxe hbA HB2 HP2
    go_upto_region 2 with fail
    generalize V.alloc (.cells #[.int .i64 0, .slice none 0 0, .slice none 0 0, .slice none 0 0, .int .i64 x] 42) = V3 at *
    generalize V.heap.size = F at *
    obtain ⟨q0, q1, q2, q3, q4⟩ := HF3.out.cell
    obtain ⟨p0, p1, p2, p3, p4⟩ := HP3.out.cell
    have pf0 := HP3.out.f 0
    have pf1 := HP3.out.f 1
    have pf2 := HP3.out.f 2
    have pf3 := HP3.out.f 3
    have pf4 := HP3.out.f 4
    have plt := HP3.out.lt
    go_wp2
    exact bodyPost_ret (v := .agg #[.int .i64 0, .slice none 0 0, .slice none 0 0, .slice none 0 0, .int .i64 x]) (by simp [results, Try.results15, go_sem, p0, p1, p2, p3, p4]) rfl ⟨below_five HB3.out (Nat.le_refl _) _ _ _ _ _, .inr ⟨by rw [HX.out]; exact HXN.out, by rw [HX.out]⟩⟩

/-- What the reference's splitting comes to. -/
def RSplPost (bs : List Int) (W : World) (e : Ending) (V : World) : Prop :=
  Below W.heap.size W V ∧ ∃ a1 n1 c1 a2 n2 c2, e = .returned (.agg #[.slice a1 n1 c1, .slice a2 n2 c2]) ∧ RdFs (fun _ => True) (fun _ => True) V a1 n1 c1 (splS bs).1 ∧ Rd (fun _ => True) V .u8 a2 n2 c2 (splS bs).2

theorem Pair.both {w : World} {B : Nat} {t : TypeId} {a b : Value} (h : Pair w B t a b) (x y : Value) : Pair ((w.setCell ⟨B, 0, none⟩ x).setCell ⟨B, 1, none⟩ y) B t x y := by unfold Pair at *; simp [World.setCell, Array.getElem?_modify, h]

structure SplI (bs : List Int) (n : Nat) (W : World) (wr : World) : Prop where
  b : Below W.heap.size W wr
  r : Pair wr W.heap.size 38 (.slice none 0 0) (.slice none 0 0)
  x : ∃ a' n' c' v m es fs bs', Pair wr (W.heap.size + 1) 38 v (.slice a' n' c') ∧ m + n' ≤ n ∧ Rd (fun b => b < W.heap.size) wr .u8 a' n' c' bs' ∧ wr.ownsRow (W.heap.size + 2) 25 3 v m (cellsE es) ∧
    AllE (fun b => (b < W.heap.size ∨ W.heap.size + 2 ≤ b) ∧ v.ownBlock ≠ some b) wr es fs ∧ splS bs = (fs ++ (splS bs').1, (splS bs').2) ∧ Oct bs'

set_option maxRecDepth 100000 in
set_option maxHeartbeats 8000000 in
theorem splitR_any {K : Nat → Prop} {a : Option Addr} {n c : Nat} {bs : List Int} {W : World} (hR : Rd K W .u8 a n c bs) (ho : Oct bs) (hn : n ≤ 900000) :
    Calls Try.prog 12 #[.slice a n c] W (RSplPost bs W) := by
  have hb1 : Below W.heap.size W (W.alloc (.cells #[.slice none 0 0, .slice none 0 0] 38)) := (Below.refl _ _).alloc (Nat.le_refl _) _
  have hs1 : (W.alloc (.cells #[.slice none 0 0, .slice none 0 0] 38)).heap.size = W.heap.size + 1 := World.size_alloc ..
  have hb2 : Below (W.alloc (.cells #[.slice none 0 0, .slice none 0 0] 38)).heap.size (W.alloc (.cells #[.slice none 0 0, .slice none 0 0] 38)) ((W.alloc (.cells #[.slice none 0 0, .slice none 0 0] 38)).alloc (.cells #[.slice none 0 0, .slice a n c] 38)) := (Below.refl _ _).alloc (Nat.le_refl _) _
  have hr2 : Pair ((W.alloc (.cells #[.slice none 0 0, .slice none 0 0] 38)).alloc (.cells #[.slice none 0 0, .slice a n c] 38)) W.heap.size 38 (.slice none 0 0) (.slice none 0 0) := (Pair.new W 38 (.slice none 0 0) (.slice none 0 0)).below hb2 (by simp)
  have ho2 := Pair.new (W.alloc (.cells #[.slice none 0 0, .slice none 0 0] 38)) 38 (.slice none 0 0) (.slice a n c)
  rw [hs1] at ho2
  have hbb := hb1.trans (hb2.mono hb1.size)
  have HI0 : Hid (SplI bs n W ((W.alloc (.cells #[.slice none 0 0, .slice none 0 0] 38)).alloc (.cells #[.slice none 0 0, .slice a n c] 38))) := ⟨hbb, hr2, a, n, c, .slice none 0 0, 0, [], [], bs, ho2, by omega, (hR.mono (K' := fun b => b < W.heap.size) (fun b hlt _ => hlt)).below hbb, ⟨rfl, .inl ⟨rfl, rfl⟩⟩, AllE.nil, rfl, ho⟩
  clear hb1 hs1 hb2 hr2 ho2 hbb hR ho
  go_enter Try.func12, Try.ntmps12
  go_wp2_with fail
  generalize ((W.alloc (.cells #[.slice none 0 0, .slice none 0 0] 38)).alloc (.cells #[.slice none 0 0, .slice a n c] 38)) = V0 at *
  go_loopw [4] (fun _ wr => Hid (SplI bs n W wr)) (fun _ wr => lenOf ((wr.cell? ⟨W.heap.size + 1, 1, none⟩).getD undef))
  case atStart => exact HI0.out
  case round =>
    clear HI0
    have HI := hrel
    obtain ⟨a', n', c', v, m, es, fs, bs', hP, hmn, hR, hROW, hA, hS, hO⟩ := HI.out.x
    have HT := Lib.hid (firstR_any hR hO)
    have HR := Lib.hid hR
    have HROW := Lib.hid hROW
    have HA := Lib.hid hA
    have HP := Lib.hid hP
    have HO := Lib.hid hO
    have hPc := hP.c1
    by_cases hz : fstE bs' = 0
    · have hnl := hR.hl
      have hfle := fstN_le hO hz
      have hfp := fstN_pos bs'
      have HSM : Hid (splS bs = ((fs ++ [⟨fstK bs', fstI bs', fstD bs'⟩]) ++ (splS (bs'.drop (fstN bs'))).1, (splS (bs'.drop (fstN bs'))).2)) := by
        show _ = _; rw [hS, splS_more hO hz]; simp
      have HO2 := Lib.hid (HO.out.drop (fstN bs'))
      have HZ := Lib.hid hz
      have HNL : Hid (n' = bs'.length ∧ fstN bs' ≤ bs'.length ∧ 8 ≤ fstN bs') := ⟨hnl, hfle, hfp⟩
      have HMN := Lib.hid hmn
      clear hz hS hnl hfle hfp hR hROW hA hP hO hmn
      go_wp2_with fail
      refine HT.out.mono ?_
      rintro e V ⟨hb, hp⟩
      obtain ⟨_, a1, n1, c1, a2, n2, c2, a3, n3, c3, rfl, hI, hD, hR3⟩ := hp.resolve_right (fun c => c.1 HZ.out)
      have hn3 : n3 = n' - fstN bs' := by rw [hR3.hl, List.length_drop, ← HNL.out.1]
      have HN3 : Hid (m + 1 + n3 ≤ n ∧ n3 < n') := by have := HNL.out; have := HMN.out; show _ ∧ _; omega
      obtain ⟨kk, hkk⟩ : ∃ k, fstK bs' = k := ⟨_, rfl⟩
      rw [hkk] at HSM ⊢
      have hbA : Below V.heap.size V (V.alloc (.cells #[.int .i64 kk, .slice a1 n1 c1, .slice a2 n2 c2, .slice a3 n3 c3, .int .i64 0] 42)) := (Below.refl _ _).alloc (Nat.le_refl _) _
      have HFA := Lib.hid (OpB.new V (.int .i64 kk) (.slice a1 n1 c1) (.slice a2 n2 c2) (.slice a3 n3 c3) (.int .i64 0))
      have HSA : Hid ((V.alloc (.cells #[.int .i64 kk, .slice a1 n1 c1, .slice a2 n2 c2, .slice a3 n3 c3, .int .i64 0] 42)).heap.size = V.heap.size + 1) := World.size_alloc ..
      have HBA := Lib.hid hbA
      have HBV := Lib.hid hb
      have HI3 := Lib.hid hI
      have HD3 := Lib.hid hD
      have HR3 := Lib.hid hR3
      have HWS : Hid (W.heap.size + 2 ≤ wr.heap.size) := by have h1 := HP.out.lt; show _ ≤ _; omega
      clear hp hI hD hR3 hbA hb hPc hn3 hkk HT
      go_upto_region 3 with fail
      generalize (V.alloc (.cells #[.int .i64 kk, .slice a1 n1 c1, .slice a2 n2 c2, .slice a3 n3 c3, .int .i64 0] 42)) = V2 at *
      obtain ⟨q0, q1, q2, q3, q4⟩ := HFA.out.cell
      have hbB : Below V2.heap.size V2 (V2.alloc (.cells #[.int .i64 kk, .slice a1 n1 c1, .slice a2 n2 c2] 25)) := (Below.refl _ _).alloc (Nat.le_refl _) _
      have hu0 := World.alloc_heap_new V2 (.cells #[.int .i64 kk, .slice a1 n1 c1, .slice a2 n2 c2] 25)
      have hbW2 : Below wr.heap.size wr V2 := HBV.out.trans (HBA.out.mono HBV.out.size)
      have hbW : Below wr.heap.size wr (V2.alloc (.cells #[.int .i64 kk, .slice a1 n1 c1, .slice a2 n2 c2] 25)) := hbW2.trans (hbB.mono hbW2.size)
      have hPA := HP.out.below hbW2 HP.out.lt
      have p0 := hPA.c0
      have HPA := Lib.hid hPA
      have hrow := row_below HROW.out hbW
      obtain ⟨g', cap', w', hr, h1, h2, h3, h4⟩ := append_file _ (W.heap.size + 2) v m es hrow V2.heap.size ⟨kk, a1, n1, c1, a2, n2, c2⟩ hu0 (by have := HMN.out; omega) (Nat.le_trans HWS.out hbW.size)
      have HRN : Hid ((Builtin.append_ #[30, 30] 30 #[v, .slice (some ⟨V2.heap.size, 0, none⟩) 1 1]).run Try.prog (V2.alloc (.cells #[.int .i64 kk, .slice a1 n1 c1, .slice a2 n2 c2] 25)) = .ok (.slice (some ⟨g', 0, none⟩) (m + 1) cap') w') := hr
      have hown : ∀ g, v.ownBlock = some g → W.heap.size + 2 ≤ g ∧ g < wr.heap.size := fun g hg => ⟨by
        rcases HROW.out.2 with ⟨e, _⟩ | ⟨g2, cap2, cur2, e, hb2, _⟩
        · rw [e] at hg; cases hg
        · rw [e] at hg; cases hg; exact hb2, own_lt HROW.out hg⟩
      have hkA : Kept (fun b => v.ownBlock ≠ some b) wr w' := (Kept.all hbW).trans (Kept.of_grownBy h2 (fun r e h => h e))
      have hkV : Kept (fun b => v.ownBlock ≠ some b) V2 w' := (Kept.all hbB).trans (Kept.of_grownBy h2 (fun r e h => h e))
      have hszB := hbB.size
      have hszA := HSA.out
      have hszV := HBV.out.size
      have hws := HWS.out
      have hg' : W.heap.size + 2 ≤ g' := by
        rcases h3 with h3 | h3
        · exact (hown _ h3).1
        · omega
      have hL : ∀ b, b < V2.heap.size → b ≠ W.heap.size + 1 → v.ownBlock ≠ some b → (Value.slice (some ⟨g', 0, none⟩) (m + 1) cap').ownBlock ≠ some b := fun b hlt _ hne e => by
        have e : some g' = some b := e
        injection e with e
        rcases h3 with h3 | h3
        · exact hne (e ▸ h3)
        · omega
      have hPw : Pair w' (W.heap.size + 1) 38 v (.slice a' n' c') := (hkV.block _ (by omega) (fun e => by have := (hown _ e).1; omega)).trans hPA
      have hFw : OpB w' V.heap.size (.int .i64 kk) (.slice a1 n1 c1) (.slice a2 n2 c2) (.slice a3 n3 c3) (.int .i64 0) := (hkV.block _ (by omega) (fun e => by have := (hown _ e).2; omega)).trans HFA.out
      have hK2 : Kept (fun b => b ≠ W.heap.size + 1) w' ((w'.setCell ⟨W.heap.size + 1, 0, none⟩ (.slice (some ⟨g', 0, none⟩) (m + 1) cap')).setCell ⟨W.heap.size + 1, 1, none⟩ (.slice a3 n3 c3)) := (kept_set w' _ 0 _).trans (kept_set _ _ 1 _)
      have hBw : Below W.heap.size W w' := HI.out.b.trans ((hbW.mono HI.out.b.size).grown h2 (Nat.le_trans HI.out.b.size hbW.size) (fun k hk => by have := (hown k hk).1; omega))
      have hA1 : AllE (fun b => (b < W.heap.size ∨ W.heap.size + 2 ≤ b) ∧ (Value.slice (some ⟨g', 0, none⟩) (m + 1) cap').ownBlock ≠ some b) w' es fs :=
        ((HA.out.mono (L' := fun b => (b < W.heap.size ∨ W.heap.size + 2 ≤ b) ∧ v.ownBlock ≠ some b ∧ b < wr.heap.size) (fun b hlt h => ⟨h.1, h.2, hlt⟩)).kept (hkA.mono fun b h => h.2.1)).mono (fun b _ h => ⟨h.1, hL b (by have := h.2.2; omega) (by have := h.1; omega) h.2.1⟩)
      have hE : HoldsE (fun b => (b < W.heap.size ∨ W.heap.size + 2 ≤ b) ∧ (Value.slice (some ⟨g', 0, none⟩) (m + 1) cap').ownBlock ≠ some b) w' ⟨kk, a1, n1, c1, a2, n2, c2⟩ ⟨kk, fstI bs', fstD bs'⟩ := by
        have hh : HoldsE (fun b => (b < W.heap.size ∨ wr.heap.size ≤ b) ∧ b < V2.heap.size) V2 ⟨kk, a1, n1, c1, a2, n2, c2⟩ ⟨kk, fstI bs', fstD bs'⟩ := ⟨rfl, (HI3.out.mono (K' := fun b => (b < W.heap.size ∨ wr.heap.size ≤ b) ∧ b < V2.heap.size) fun b hlt h => ⟨.inr h, by omega⟩).below HBA.out, (HD3.out.mono (K' := fun b => (b < W.heap.size ∨ wr.heap.size ≤ b) ∧ b < V2.heap.size) fun b hlt h => ⟨.inl h, by omega⟩).below HBA.out⟩
        have hne : ∀ b, (b < W.heap.size ∨ wr.heap.size ≤ b) → v.ownBlock ≠ some b := fun b h e => by have := hown b e; omega
        exact (hh.kept (hkV.mono fun b h => hne b h.1)).mono fun b _ h => ⟨by have := h.1; omega, hL b h.2 (by have := h.1; omega) (hne b h.1)⟩
      have HN : Hid (SplI bs n W ((w'.setCell ⟨W.heap.size + 1, 0, none⟩ (.slice (some ⟨g', 0, none⟩) (m + 1) cap')).setCell ⟨W.heap.size + 1, 1, none⟩ (.slice a3 n3 c3))) := by
        refine ⟨(hBw.setCell (p := ⟨W.heap.size + 1, 0, none⟩) (Nat.le_succ _) _).setCell (p := ⟨W.heap.size + 1, 1, none⟩) (Nat.le_succ _) _, ?_, a3, n3, c3, _, m + 1, _, _, _, hPw.both _ _, HN3.out.1, ?_, hK2.row h1 (by show g' ≠ _; omega), (hA1.snoc hE).kept (hK2.mono fun b h e => by have := h.1; omega), HSM.out, HO2.out⟩
        · exact (hK2.block _ (by have := hPw.lt; omega) (by omega)).trans ((hkV.block _ (by omega) (fun e => by have := (hown _ e).1; omega)).trans (HI.out.r.below hbW2 HI.out.r.lt))
        · exact ((HR3.out.below HBA.out).kept (hkV.mono fun b h e => by have h : b < _ := h; have := (hown b e).1; omega)).kept (hK2.mono fun b h e => by have h : b < _ := h; omega)
      have pw := hPw.c0
      have pwf := hPw.f 0
      have pwl := hPw.lt
      have hqw := hFw.cell.2.2.2.1
      have hne9 : V.heap.size ≠ W.heap.size + 1 := by omega
      have hq9 : (w'.setCell ⟨W.heap.size + 1, 0, none⟩ (.slice (some ⟨g', 0, none⟩) (m + 1) cap')).cell? ⟨V.heap.size, 3, none⟩ = some (.slice a3 n3 c3) := (World.cell?_of_block (w := w') ((kept_set w' (W.heap.size + 1) 0 _).block _ hFw.lt hne9)).trans hqw
      have hp9 := (hPw.both (.slice (some ⟨g', 0, none⟩) (m + 1) cap') (.slice a' n' c'))
      have HME : Hid (((w'.setCell ⟨W.heap.size + 1, 0, none⟩ (.slice (some ⟨g', 0, none⟩) (m + 1) cap')).setCell ⟨W.heap.size + 1, 1, none⟩ (.slice a3 n3 c3)).cell? ⟨W.heap.size + 1, 1, none⟩ = some (.slice a3 n3 c3)) := (hPw.both _ _).c1
      have pw1 := hPw.c1
      have pwf1 := hPw.f 1
      have HM0 : Hid (wr.cell? ⟨W.heap.size + 1, 1, none⟩ = some (.slice a' n' c')) := HP.out.c1
      clear hr h1 h2 h3 h4 hA1 hE hkA hkV hown hrow hbW hbB hbW2 hu0 hszB hszA hszV hws hg' hL hK2 hBw HR3 HI3 HD3 HA HROW HR HPA hPA HFA HBA HBV HSA HP hqw hPw hFw hp9
      go_wp2_with (at_builtin; refine wpList_append_want (o := ⟨some 19, _, _, _, _, _⟩) _ rfl _ _ _ _ rfl _ _ rfl rfl _ _ HRN.out ?_)
      go_roundw
      case rel => exact HN.out
      case measure => rw [HME.out, HM0.out]; exact HN3.out.2
    · obtain ⟨x, hxe⟩ : ∃ x, fstE bs' = x := ⟨_, rfl⟩
      have HSE : Hid (splS bs = (fs, bs')) := by show _ = _; rw [hS, splS_end hz, List.append_nil]
      have hxn : (x != 0) = true := by rw [bne_iff_ne, ← hxe]; exact hz
      have hxb : (x == 0) = false := by rw [beq_eq_false_iff_ne, ← hxe]; exact hz
      have HZ := Lib.hid hz
      have HXE := Lib.hid hxe
      have HMN := Lib.hid hmn
      clear hz hS hR hROW hA hP hO hmn hxe
      go_wp2_with fail
      refine HT.out.mono ?_
      rintro e V ⟨hb, hp⟩
      obtain ⟨_, rfl⟩ := hp.resolve_left (fun c => HZ.out c.1)
      rw [HXE.out]
      have hbA : Below V.heap.size V (V.alloc (.cells #[.int .i64 0, .slice none 0 0, .slice none 0 0, .slice none 0 0, .int .i64 x] 42)) := (Below.refl _ _).alloc (Nat.le_refl _) _
      have HFA := Lib.hid (OpB.new V (.int .i64 0) (.slice none 0 0) (.slice none 0 0) (.slice none 0 0) (.int .i64 x))
      have HBW : Hid (Below wr.heap.size wr (V.alloc (.cells #[.int .i64 0, .slice none 0 0, .slice none 0 0, .slice none 0 0, .int .i64 x] 42))) := hb.trans (hbA.mono hb.size)
      clear hp hbA hb hPc HT
      go_upto_region 3 with fail
      generalize (V.alloc (.cells #[.int .i64 0, .slice none 0 0, .slice none 0 0, .slice none 0 0, .int .i64 x] 42)) = V2 at *
      have q4 := HFA.out.cell.2.2.2.2
      have hrow := row_below HROW.out HBW.out
      have hAN := HA.out.below HBW.out
      obtain ⟨a1, cc, rfl, hRF⟩ := RdFs.of_row hrow hAN (by have := HMN.out; omega)
      have HRF := Lib.hid (hRF.mono (K' := fun b => b ≠ W.heap.size) (L' := fun b => b ≠ W.heap.size) (fun b _ h => by have h : _ ≤ b := h; omega) (fun b _ h => by have := h.1; omega))
      have HRX := Lib.hid ((HR.out.below HBW.out).mono (K' := fun b => b ≠ W.heap.size) (fun b _ h => by have h : b < _ := h; omega))
      have HPA := HP.out.below HBW.out HP.out.lt
      have HRA := HI.out.r.below HBW.out HI.out.r.lt
      have HBN : Hid (∀ v0 v1 : Value, Below W.heap.size W ((V2.setCell ⟨W.heap.size, 0, none⟩ v0).setCell ⟨W.heap.size, 1, none⟩ v1)) := fun v0 v1 => ((HI.out.b.trans (HBW.out.mono HI.out.b.size)).setCell (p := ⟨W.heap.size, 0, none⟩) (Nat.le_refl _) _).setCell (p := ⟨W.heap.size, 1, none⟩) (Nat.le_refl _) _
      have HKX : Hid (∀ v0 v1 : Value, Kept (fun b => b ≠ W.heap.size) V2 ((V2.setCell ⟨W.heap.size, 0, none⟩ v0).setCell ⟨W.heap.size, 1, none⟩ v1)) := fun v0 v1 => (kept_set V2 _ 0 v0).trans (kept_set _ _ 1 v1)
      have p0 := HPA.c0
      have p1 := HPA.c1
      have r0 := HRA.c0
      have r1 := HRA.c1
      have rf0 := HRA.f 0
      have rf1 := HRA.f 1
      have rlt := HRA.lt
      clear hrow hAN hRF HPA HRA HROW HA HR HP HFA HBW
      go_wp2
      exact bodyPost_ret (v := .agg #[.slice a1 m cc, .slice a' n' c']) (by simp [results, Try.results12, go_sem, r0, r1]) rfl
        ⟨HBN.out _ _, a1, m, cc, a', n', c', rfl, by rw [HSE.out]; exact (HRF.out.kept (HKX.out _ _) (HKX.out _ _)).mono (fun _ _ _ => trivial) (fun _ _ _ => trivial), by rw [HSE.out]; exact (HRX.out.kept (HKX.out _ _)).mono fun _ _ _ => trivial⟩

end Go.Proofs.Ytkfmgiacdlkmiaa
