/-
  Four cells in a block; what packing and unpacking come to; what the wrappers of any law stand on.
-/
import Derived.Test.YtdcapmbgnoahpaaPkUnp3
import Derived.Test.YtdcapmbgnoahpaaPkQuad
namespace Go.Proofs.Ytdcapmbgnoahpaa
open Go.RowKit Go.Shelf Go.ChangeShapes Go.WideShapes Go.ChangeAt

theorem Rd.set {K : Nat → Prop} {A : World} {k : IntKind} {a : Option Addr} {len cap : Nat} {zs : List Int} (h : Rd K A k a len cap zs) (p : Addr) (v : Value) (hp : ¬ K p.block) : Rd K (A.setCell p v) k a len cap zs :=
  h.kept (Kept.of_grownBy (grownBy_set A p v) (fun r e => by cases e; exact hp))
theorem pack_len (zs : List Int) (hz : Smalls zs) (hl : zs.length ≤ 4096) : (packS zs).length ≤ 32789 := by
  have h1 := head_len zs hz (by omega)
  have h2 := wide_le zs
  have h3 : zs.length * wideS zs ≤ 4096 * 64 := Nat.mul_le_mul hl h2
  unfold packS gatherS
  rw [List.length_append, gB_length]
  unfold spaceS
  omega

theorem un_good {K : Nat → Prop} {a : Option Addr} {len cap : Nat} {bs : List Int} (ho : Oct bs) {W : World} (hR : Rd K W .u8 a len cap bs) {l : List Int} {c : Nat} (h : unS bs = (l, c, 0)) :
    Calls Try.prog 129 #[.slice a len cap] W fun e W' => Below W.heap.size W W' ∧ ∃ a1 n1 a2 m, e = .returned (.tuple #[.slice a1 n1 n1, .slice a2 m m, .int .i64 0]) ∧ Rd (fun b => W.heap.size ≤ b) W' .i64 a1 n1 n1 l ∧ Rd K W .u8 a2 m m (bs.drop c) :=
  (Unpack_any ho hR).mono fun e W' ⟨hb, hp⟩ => by
    rcases hp with ⟨_, a1, n1, a2, m, he, hr1, hr2⟩ | ⟨h1, _⟩
    · rw [h] at hr1 hr2; exact ⟨hb, a1, n1, a2, m, he, hr1, hr2⟩
    · rw [h] at h1; exact absurd rfl h1
theorem un_bad {K : Nat → Prop} {a : Option Addr} {len cap : Nat} {bs : List Int} (ho : Oct bs) {W : World} (hR : Rd K W .u8 a len cap bs) {x : Int} (hx : x ≠ 0) (h : (unS bs).2.2 = x) :
    Calls Try.prog 129 #[.slice a len cap] W fun e W' => e = .returned (.tuple #[.slice none 0 0, .slice none 0 0, .int .i64 x]) ∧ Below W.heap.size W W' :=
  (Unpack_any ho hR).mono fun e W' ⟨hb, hp⟩ => by
    rcases hp with ⟨h1, _⟩ | ⟨_, he⟩
    · exact absurd (h.symm.trans h1) hx
    · rw [h] at he; exact ⟨he, hb⟩

theorem exP1 : packS [5, 3, 6] = [3, 6, 2, 50] := by
  have h1 : (zz (minS [5, 3, 6])).toNat = 6 := by decide +kernel
  have h2 : widthS [5, 3, 6] = 2 := by decide +kernel
  have h3 : gatherS (bitsS [5, 3, 6]) (spaceS [5, 3, 6]) = [50] := by decide +kernel
  unfold packS headS
  rw [if_neg (by decide), h1, h2, h3, varN_lo (by decide), varN_lo (by decide)]; rfl
theorem exP2 : packS [] = [0] := by
  have h3 : gatherS (bitsS []) (spaceS []) = [] := by decide +kernel
  unfold packS headS
  rw [if_pos rfl, h3, varN_lo (by decide)]; rfl
theorem exP3 : packS [7, 7] = [2, 14, 0] := by
  have h1 : (zz (minS [7, 7])).toNat = 14 := by decide +kernel
  have h2 : widthS [7, 7] = 0 := by decide +kernel
  have h3 : gatherS (bitsS [7, 7]) (spaceS [7, 7]) = [] := by decide +kernel
  unfold packS headS
  rw [if_neg (by decide), h1, h2, h3, varN_lo (by decide), varN_lo (by decide)]; rfl
theorem exV : varN 300 = [172, 2] := by rw [varN_hi (by decide), varN_lo (by decide)]; rfl
theorem exS : sizeS [7, 7] = 3 := by
  have h1 : (zz (minS [7, 7])).toNat = 14 := by decide +kernel
  have h2 : widthS [7, 7] = 0 := by decide +kernel
  have h3 : spaceS [7, 7] = 0 := by decide +kernel
  unfold sizeS headS
  rw [if_neg (by decide), h1, h2, h3, varN_lo (by decide), varN_lo (by decide)]; rfl
theorem exU1 : unS [3, 6, 2, 50, 9] = ([5, 3, 6], 4, 0) := by decide +kernel
theorem exU2 : (unS [3, 6, 2, 114]).2.2 = 5 := by decide +kernel
theorem exU3 : (unS [3, 6, 2]).2.2 = 7 := by decide +kernel
theorem exR1 : (rdS [128, 0]).2.2 = 5 := by decide +kernel
theorem exR2 : (rdS [128]).2.2 = 7 := by decide +kernel

theorem smalls_of (zs : List Int) (h : (zs.all fun z => decide (-9223372036854775808 ≤ z) && decide (z ≤ 9223372036854775807)) = true) : Smalls zs := fun z hz => by
  have := List.all_eq_true.1 h z hz
  rw [Bool.and_eq_true] at this
  exact ⟨of_decide_eq_true this.1, of_decide_eq_true this.2⟩
theorem oct_of (zs : List Int) (h : (zs.all fun z => decide (0 ≤ z) && decide (z < 256)) = true) : Oct zs := fun z hz => by
  have := List.all_eq_true.1 h z hz
  rw [Bool.and_eq_true] at this
  exact ⟨of_decide_eq_true this.1, of_decide_eq_true this.2⟩


end Go.Proofs.Ytdcapmbgnoahpaa
