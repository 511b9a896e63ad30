/-
  Four cells in a block; a row that is laid, read. Four cells in a block; what packing and unpacking come to; what the wrappers of any law stand on. What was packed is read back, as functions on lists. A proper beginning of a packed form is too short, as functions on lists. What is read back was packed so, as functions on lists.
-/
import Derived.Test.YtkfmgiacdlkmiaaPkSame1
import Derived.Test.YtkfmgiacdlkmiaaPkUnp3
import Derived.Test.YtkfmgiacdlkmiaaPkCdMath
namespace Go.Proofs.Ytkfmgiacdlkmiaa
open Go.RowKit Go.Shelf Go.ChangeShapes Go.WideShapes Go.ChangeAt

/-- Four cells in a block of their own. -/
def Quad (W : World) (B : Nat) (t : TypeId) (a b c d : Value) : Prop := W.heap[B]? = some (.cells #[a, b, c, d] t (0, 0))
theorem Quad.cell {W : World} {B : Nat} {t : TypeId} {a b c d : Value} (h : Quad W B t a b c d) : W.cell? ⟨B, 0, none⟩ = some a ∧ W.cell? ⟨B, 1, none⟩ = some b ∧ W.cell? ⟨B, 2, none⟩ = some c ∧ W.cell? ⟨B, 3, none⟩ = some d := by
  have h : W.heap[B]? = _ := h
  simp [World.cell?, h]
theorem Quad.f {W : World} {B : Nat} {t : TypeId} {a b c d : Value} (h : Quad W B t a b c d) (o : Nat) : W.frozen? ⟨B, o, none⟩ = false := by simp [World.frozen?, show W.heap[B]? = _ from h]
theorem Quad.lt {W : World} {B : Nat} {t : TypeId} {a b c d : Value} (h : Quad W B t a b c d) : B < W.heap.size := (Array.getElem?_eq_some_iff.1 h).1
theorem Quad.new (W : World) (t : TypeId) (a b c d : Value) : Quad (W.alloc (.cells #[a, b, c, d] t)) W.heap.size t a b c d := World.alloc_heap_new W _
theorem Quad.below {W V : World} {B n : Nat} {t : TypeId} {a b c d : Value} (h : Quad W B t a b c d) (hb : Below n W V) (hn : B < n) : Quad V B t a b c d := (hb.block B hn).trans h

theorem Rd.new (W : World) (k : IntKind) (t : TypeId) (zs : List Int) (n : Nat) (hn : n = zs.length) (hs : n ≤ 140737488351232) : Rd (fun b => W.heap.size ≤ b) (W.alloc (.cells (zs.map (Value.int k)).toArray t)) k (some ⟨W.heap.size, 0, none⟩) n n zs :=
  ⟨hn, Nat.le_refl _, by omega, hs, fun _ => ⟨W.heap.size, 0, rfl, Nat.le_refl _, by simp, fun j hj => by
    have h0 := World.alloc_heap_new W (.cells (zs.map (Value.int k)).toArray t)
    unfold World.cell?
    rw [h0]
    simp [List.getElem?_map, List.getElem?_eq_getElem (show j < zs.length by omega)]⟩⟩

end Go.Proofs.Ytkfmgiacdlkmiaa

namespace Go.Proofs.Ytkfmgiacdlkmiaa
open Go.RowKit Go.Shelf Go.ChangeShapes Go.WideShapes Go.ChangeAt

theorem Rd.set {K : Nat → Prop} {A : World} {k : IntKind} {a : Option Addr} {len cap : Nat} {zs : List Int} (h : Rd K A k a len cap zs) (p : Addr) (v : Value) (hp : ¬ K p.block) : Rd K (A.setCell p v) k a len cap zs :=
  h.kept (Kept.of_grownBy (grownBy_set A p v) (fun r e => by cases e; exact hp))
theorem pack_len (zs : List Int) (hz : Smalls zs) (hl : zs.length ≤ 4096) : (packS zs).length ≤ 32789 := by
  have h1 := head_len zs hz (by omega)
  have h2 := wide_le zs
  have h3 : zs.length * wideS zs ≤ 4096 * 64 := Nat.mul_le_mul hl h2
  unfold packS gatherS
  rw [List.length_append, gB_length]
  unfold spaceS
  omega

theorem un_good {K : Nat → Prop} {a : Option Addr} {len cap : Nat} {bs : List Int} (ho : Oct bs) {W : World} (hR : Rd K W .u8 a len cap bs) {l : List Int} {c : Nat} (h : unS bs = (l, c, 0)) :
    Calls Try.prog 69 #[.slice a len cap] W fun e W' => Below W.heap.size W W' ∧ ∃ a1 n1 a2 m, e = .returned (.tuple #[.slice a1 n1 n1, .slice a2 m m, .int .i64 0]) ∧ Rd (fun b => W.heap.size ≤ b) W' .i64 a1 n1 n1 l ∧ Rd K W .u8 a2 m m (bs.drop c) :=
  (Unpack_any ho hR).mono fun e W' ⟨hb, hp⟩ => by
    rcases hp with ⟨_, a1, n1, a2, m, he, hr1, hr2⟩ | ⟨h1, _⟩
    · rw [h] at hr1 hr2; exact ⟨hb, a1, n1, a2, m, he, hr1, hr2⟩
    · rw [h] at h1; exact absurd rfl h1
theorem un_bad {K : Nat → Prop} {a : Option Addr} {len cap : Nat} {bs : List Int} (ho : Oct bs) {W : World} (hR : Rd K W .u8 a len cap bs) {x : Int} (hx : x ≠ 0) (h : (unS bs).2.2 = x) :
    Calls Try.prog 69 #[.slice a len cap] W fun e W' => e = .returned (.tuple #[.slice none 0 0, .slice none 0 0, .int .i64 x]) ∧ Below W.heap.size W W' :=
  (Unpack_any ho hR).mono fun e W' ⟨hb, hp⟩ => by
    rcases hp with ⟨h1, _⟩ | ⟨_, he⟩
    · exact absurd (h.symm.trans h1) hx
    · rw [h] at he; exact ⟨he, hb⟩

theorem exP1 : packS [5, 3, 6] = [3, 6, 2, 50] := by
  have h1 : (zz (minS [5, 3, 6])).toNat = 6 := by decide +kernel
  have h2 : widthS [5, 3, 6] = 2 := by decide +kernel
  have h3 : gatherS (bitsS [5, 3, 6]) (spaceS [5, 3, 6]) = [50] := by decide +kernel
  unfold packS headS
  rw [if_neg (by decide), h1, h2, h3, varN_lo (by decide), varN_lo (by decide)]; rfl
theorem exP2 : packS [] = [0] := by
  have h3 : gatherS (bitsS []) (spaceS []) = [] := by decide +kernel
  unfold packS headS
  rw [if_pos rfl, h3, varN_lo (by decide)]; rfl
theorem exP3 : packS [7, 7] = [2, 14, 0] := by
  have h1 : (zz (minS [7, 7])).toNat = 14 := by decide +kernel
  have h2 : widthS [7, 7] = 0 := by decide +kernel
  have h3 : gatherS (bitsS [7, 7]) (spaceS [7, 7]) = [] := by decide +kernel
  unfold packS headS
  rw [if_neg (by decide), h1, h2, h3, varN_lo (by decide), varN_lo (by decide)]; rfl
theorem exV : varN 300 = [172, 2] := by rw [varN_hi (by decide), varN_lo (by decide)]; rfl
theorem exS : sizeS [7, 7] = 3 := by
  have h1 : (zz (minS [7, 7])).toNat = 14 := by decide +kernel
  have h2 : widthS [7, 7] = 0 := by decide +kernel
  have h3 : spaceS [7, 7] = 0 := by decide +kernel
  unfold sizeS headS
  rw [if_neg (by decide), h1, h2, h3, varN_lo (by decide), varN_lo (by decide)]; rfl
theorem exU1 : unS [3, 6, 2, 50, 9] = ([5, 3, 6], 4, 0) := by decide +kernel
theorem exU2 : (unS [3, 6, 2, 114]).2.2 = 5 := by decide +kernel
theorem exU3 : (unS [3, 6, 2]).2.2 = 7 := by decide +kernel
theorem exR1 : (rdS [128, 0]).2.2 = 5 := by decide +kernel
theorem exR2 : (rdS [128]).2.2 = 7 := by decide +kernel

theorem smalls_of (zs : List Int) (h : (zs.all fun z => decide (-9223372036854775808 ≤ z) && decide (z ≤ 9223372036854775807)) = true) : Smalls zs := fun z hz => by
  have := List.all_eq_true.1 h z hz
  rw [Bool.and_eq_true] at this
  exact ⟨of_decide_eq_true this.1, of_decide_eq_true this.2⟩
theorem oct_of (zs : List Int) (h : (zs.all fun z => decide (0 ≤ z) && decide (z < 256)) = true) : Oct zs := fun z hz => by
  have := List.all_eq_true.1 h z hz
  rw [Bool.and_eq_true] at this
  exact ⟨of_decide_eq_true this.1, of_decide_eq_true this.2⟩


end Go.Proofs.Ytkfmgiacdlkmiaa

namespace Go.Proofs.Ytkfmgiacdlkmiaa
open Go.RowKit

/-! ### Bits and numbers -/

theorem numB_digit : ∀ (l : List Int), Bin l → ∀ p : Nat, numB l / 2 ^ p % 2 = l[p]?.getD 0
  | [], _, p => by simp [numB]
  | x :: r, h, 0 => by
    have hx := h x (List.mem_cons_self ..)
    simp only [numB, Int.pow_zero, Int.ediv_one, List.getElem?_cons_zero, Option.getD_some]
    omega
  | x :: r, h, p + 1 => by
    have hx := h x (List.mem_cons_self ..)
    have ih := numB_digit r (fun y hy => h y (List.mem_cons_of_mem _ hy)) p
    rw [List.getElem?_cons_succ, ← ih, numB, Int.pow_succ, Int.mul_comm (2 ^ p) 2, ← Int.ediv_ediv_of_nonneg (by omega), show (x + 2 * numB r) / 2 = numB r by omega]

theorem numB_bits : ∀ (w : Nat) (d : Int), 0 ≤ d → d < 2 ^ w → numB (bitsN w d) = d
  | 0, d, h0, h1 => by
    have : d = 0 := by rw [Int.pow_zero] at h1; omega
    subst this; rfl
  | w + 1, d, h0, h1 => by
    have ih := numB_bits w (d / 2) (by omega) (by rw [Int.pow_succ] at h1; omega)
    have e : bitsN (w + 1) d = d % 2 :: bitsN w (d / 2) := by
      unfold bitsN
      rw [List.range_succ_eq_map, List.map_cons, List.map_map]
      congr 1
      · simp
      · apply List.map_congr_left
        intro p _
        show d / 2 ^ (p + 1) % 2 = d / 2 / 2 ^ p % 2
        rw [Int.pow_succ, Int.mul_comm (2 ^ p) 2, Int.ediv_ediv_of_nonneg (by omega)]
    rw [e, numB, ih]
    omega

theorem gather_bits_at (bl : List Int) (hb : Bin bl) (size : Nat) (j : Nat) (hj : j < 8 * size) : (allBits 8 (gatherS bl size))[j]?.getD 0 = bl[j]?.getD 0 := by
  have h := allBits_at 8 (gatherS bl size) (j / 8) (j % 8) (by unfold gatherS; rw [gB_length]; omega) (by omega)
  rw [show j / 8 * 8 + j % 8 = j by omega] at h
  rw [h, Option.getD_some]
  unfold gatherS
  rw [gB_at bl bl.length size (j / 8) (by omega), Option.getD_some, numB_digit _ (hb.part _ _), List.getElem?_take]
  by_cases h8 : j % 8 < min 8 (bl.length - 8 * (j / 8))
  · rw [if_pos h8, List.getElem?_drop, show 8 * (j / 8) + j % 8 = j by omega]
  · rw [if_neg h8, List.getElem?_eq_none (by omega)]

theorem lt_bitLen (x : Nat) (h : x < 2 ^ 64) : x < 2 ^ Lib.bitLen x := by
  by_cases h0 : x = 0
  · subst h0; exact Nat.two_pow_pos _
  · rw [Lib.bitLen_half x h0 h]
    have ih := lt_bitLen (x / 2) (by omega)
    rw [Nat.add_comm, Nat.pow_succ]
    omega
termination_by x
decreasing_by omega

theorem diff_lt {zs : List Int} (hz : Smalls zs) {z : Int} (h : z ∈ zs) : 0 ≤ diffS (minS zs) z ∧ diffS (minS zs) z < 2 ^ widthS zs := by
  have h0 : zs ≠ [] := fun e => by rw [e] at h; cases h
  have h1 := min_le zs z h
  have h2 := le_max zs z h
  have h3 := hz _ (min_mem zs h0)
  have h4 := hz _ (max_mem zs h0)
  have hz' := hz z h
  unfold I64 at h3 h4 hz'
  have hm := diff_u64 (minS zs) (maxS zs)
  unfold U64 at hm
  have h5 := lt_bitLen (diffS (minS zs) (maxS zs)).toNat (by omega)
  have h6 : (diffS (minS zs) (maxS zs)) < 2 ^ widthS zs := by
    unfold widthS
    generalize Lib.bitLen _ = k at *
    have : ((diffS (minS zs) (maxS zs)).toNat : Int) < ((2 ^ k : Nat) : Int) := by omega
    push_cast at this
    rwa [Int.toNat_of_nonneg hm.1] at this
  refine ⟨by unfold diffS; omega, Int.lt_of_le_of_lt ?_ h6⟩
  unfold diffS
  omega

theorem wrap_diff {b z : Int} (hz : I64 z) : wrap64 (b + diffS b z) = z := by
  unfold I64 at hz; unfold wrap64 diffS; omega

/-! ### The elements -/

/-- The packed differences are taken back, whatever follows. -/
theorem up_pack {zs : List Int} (hz : Smalls zs) (h0 : zs ≠ []) (rest : List Int) :
    upS (minS zs) (widthS zs) zs.length (gatherS (bitsS zs) (spaceS zs) ++ rest) = (zs, spaceS zs, 0) := by
  have hw : wideS zs = widthS zs := if_neg h0
  have hbase : baseS zs = minS zs := if_neg h0
  have hsp : (zs.length * widthS zs + 7) / 8 = spaceS zs := by unfold spaceS; rw [hw]
  have hgl : (gatherS (bitsS zs) (spaceS zs)).length = spaceS zs := gB_length _ _ _
  have hbl : (bitsS zs).length = zs.length * widthS zs := by rw [bitsS_length, hw]
  have hfit : (bitsS zs).length ≤ 8 * spaceS zs := by rw [hbl, ← hsp]; omega
  have hup : upBits (widthS zs) zs.length (gatherS (bitsS zs) (spaceS zs) ++ rest) = allBits 8 (gatherS (bitsS zs) (spaceS zs)) := by
    unfold upBits
    rw [hsp, List.take_append_of_le_length (by omega), List.take_of_length_le (by omega)]
  have hupl : (allBits 8 (gatherS (bitsS zs) (spaceS zs))).length = spaceS zs * 8 := by rw [allBits_length, hgl]
  have hlist : upList (minS zs) (widthS zs) zs.length (gatherS (bitsS zs) (spaceS zs) ++ rest) = zs := by
    unfold upList
    rw [hup, hupl]
    apply List.ext_getElem?
    intro e
    by_cases he : e < zs.length
    · unfold elB
      rw [List.getElem?_map, List.getElem?_range he, List.getElem?_eq_getElem he, Option.map_some]
      congr 1
      have hin : zs[e] ∈ zs := List.getElem_mem he
      obtain ⟨hd0, hd1⟩ := diff_lt hz hin
      have hle : widthS zs * e + widthS zs ≤ zs.length * widthS zs := by
        have : widthS zs * (e + 1) ≤ widthS zs * zs.length := Nat.mul_le_mul_left _ he
        rw [Nat.mul_succ, Nat.mul_comm (widthS zs) zs.length] at this
        exact this
      unfold elV
      rw [show min (widthS zs) (spaceS zs * 8 - widthS zs * e) = widthS zs by omega]
      have hbits : ((allBits 8 (gatherS (bitsS zs) (spaceS zs))).drop (widthS zs * e)).take (widthS zs) = bitsN (widthS zs) (diffS (minS zs) zs[e]) := by
        apply List.ext_getElem?
        intro p
        by_cases hp : p < widthS zs
        · have hj : widthS zs * e + p < 8 * spaceS zs := by omega
          have h1 := gather_bits_at (bitsS zs) (bitsS_bin zs) (spaceS zs) (widthS zs * e + p) hj
          rw [List.getElem?_take, if_pos hp, List.getElem?_drop, bitsN_at _ _ _ hp]
          rw [List.getElem?_eq_getElem (by rw [hupl]; omega), Option.getD_some] at h1
          rw [List.getElem?_eq_getElem (by rw [hupl]; omega), h1]
          congr 1
          have h2 := allBits_at (widthS zs) (diffs (minS zs) zs) e p (by unfold diffs; rw [List.length_map]; exact he) hp
          unfold bitsS
          rw [hw, hbase, Nat.mul_comm, h2, Option.getD_some]
          unfold diffs
          rw [List.getElem?_map, List.getElem?_eq_getElem he]
          rfl
        · rw [List.getElem?_eq_none (by rw [List.length_take]; omega), List.getElem?_eq_none (by rw [bitsN_length]; omega)]
      rw [hbits, numB_bits _ _ hd0 hd1]
      exact wrap_diff (hz _ hin)
    · rw [List.getElem?_eq_none (by rw [elB_length]; omega), List.getElem?_eq_none (by omega)]
  have hz0 : zerosB ((upBits (widthS zs) zs.length (gatherS (bitsS zs) (spaceS zs) ++ rest)).drop (zs.length * widthS zs)) = true := by
    rw [zerosB_iff, hup]
    intro j h1 h2
    rw [hupl] at h2
    rw [gather_bits_at (bitsS zs) (bitsS_bin zs) (spaceS zs) j (by omega), List.getElem?_eq_none (by omega)]
    rfl
  have hok : upOk (minS zs) (widthS zs) zs.length (gatherS (bitsS zs) (spaceS zs) ++ rest) = true := by
    unfold upOk
    rw [hz0, hlist]
    simp
  unfold upS
  rw [hsp, if_neg (by rw [List.length_append]; omega), if_pos hok, hlist]

theorem fr_pack {b : Int} (hb : I64 b) (w : Nat) (hw : w ≤ 64) (rest : List Int) : frS (varN (zz b).toNat ++ ((w : Int) :: rest)) = ((b, (w : Int)), (varN (zz b).toNat).length + 1, 0) := by
  have hu := zz_u64 hb
  unfold U64 at hu
  have h := rdS_var (zz b).toNat (by omega) ((w : Int) :: rest)
  have e : ((zz b).toNat : Int) = zz b := Int.toNat_of_nonneg hu.1
  unfold frS
  rw [h]
  simp only [e, uz_zz]
  rw [if_neg (by simp), if_neg (by rw [List.length_append, List.length_cons]; omega), List.getElem?_append_right (Nat.le_refl _), Nat.sub_self, List.getElem?_cons_zero, Option.getD_some, if_neg (by omega)]

/-- What was packed is read back, whatever follows. -/
theorem un_pack {zs : List Int} (hz : Smalls zs) (hl : zs.length ≤ 4096) (rest : List Int) : unS (packS zs ++ rest) = (zs, (packS zs).length, 0) := by
  by_cases h0 : zs = []
  · subst h0
    have e : packS [] = [0] := exP2
    have h := rdS_var 0 (by decide) rest
    rw [varN_lo (by decide)] at h
    have h : rdS ([0] ++ rest) = (0, 1, 0) := h
    rw [e]
    unfold unS
    rw [h]
    simp
  · have hne : 0 < zs.length := List.length_pos_iff.2 h0
    have eh : packS zs ++ rest = varN zs.length ++ (varN (zz (minS zs)).toNat ++ ((widthS zs : Int) :: (gatherS (bitsS zs) (spaceS zs) ++ rest))) := by
      unfold packS headS
      rw [if_neg h0]
      simp
    have el : (packS zs).length = (varN zs.length).length + ((varN (zz (minS zs)).toNat).length + 1 + spaceS zs) := by
      unfold packS headS
      rw [if_neg h0]
      have hgl : (gatherS (bitsS zs) (spaceS zs)).length = spaceS zs := gB_length _ _ _
      simp [hgl]
      omega
    have h1 := rdS_var zs.length (by omega) (varN (zz (minS zs)).toNat ++ ((widthS zs : Int) :: (gatherS (bitsS zs) (spaceS zs) ++ rest)))
    have h2 := fr_pack (hz _ (min_mem zs h0)) (widthS zs) (width_le zs) (gatherS (bitsS zs) (spaceS zs) ++ rest)
    have h3 := up_pack hz h0 rest
    rw [eh, el]
    unfold unS
    rw [h1]
    simp only [List.drop_left']
    rw [h2]
    have e3 : (varN (zz (minS zs)).toNat ++ ((widthS zs : Int) :: (gatherS (bitsS zs) (spaceS zs) ++ rest))).drop ((varN (zz (minS zs)).toNat).length + 1) = gatherS (bitsS zs) (spaceS zs) ++ rest := by
      rw [← List.drop_drop, List.drop_left]; rfl
    simp only [e3, Int.toNat_natCast, h3]
    rw [if_neg (by simp), if_neg (by omega), if_neg (by omega), if_neg (by simp), if_neg (by simp)]

end Go.Proofs.Ytkfmgiacdlkmiaa

namespace Go.Proofs.Ytkfmgiacdlkmiaa
open Go.RowKit

theorem rdF_short : ∀ (k i u : Nat) (a : Int) (m : Nat), i + k = 9 → u < 2 ^ (7 * k + 1) → m < (varN u).length → (rdF i a ((varN u).take m)).2.2 = 7
  | k, i, u, a, 0, hk, _, _ => by rw [List.take_zero]; unfold rdF; rw [if_pos (by omega)]
  | 0, i, u, a, m + 1, hk, hu, hm => by
    rw [varN_lo (by omega)] at hm
    simp at hm
  | k + 1, i, u, a, m + 1, hk, hu, hm => by
    by_cases h0 : u < 128
    · rw [varN_lo h0] at hm; simp at hm
    · rw [varN_hi h0, List.length_cons] at hm
      rw [varN_hi h0, List.take_succ_cons]
      unfold rdF
      rw [if_neg (by omega), if_pos (by omega)]
      exact rdF_short k (i + 1) (u / 128) _ m (by omega) (by rw [Nat.div_lt_iff_lt_mul (by decide)]; rw [show 7 * (k + 1) + 1 = (7 * k + 1) + 7 by omega, Nat.pow_add] at hu; exact hu) (by omega)

theorem rdS_short (u : Nat) (hu : u < 18446744073709551616) (m : Nat) (hm : m < (varN u).length) : (rdS ((varN u).take m)).2.2 = 7 :=
  rdF_short 9 0 u 0 m rfl hu hm

theorem fr_short {b : Int} (hb : I64 b) (w : Int) (rest : List Int) (m : Nat) (hm : m < (varN (zz b).toNat).length + 1) : (frS ((varN (zz b).toNat ++ (w :: rest)).take m)).2.2 = 7 := by
  have hu := zz_u64 hb
  unfold U64 at hu
  by_cases h : m < (varN (zz b).toNat).length
  · have h1 := rdS_short (zz b).toNat (by omega) m h
    rw [List.take_append_of_le_length (by omega)]
    unfold frS
    rw [if_pos (by rw [h1]; decide)]
    exact h1
  · have hmm : m = (varN (zz b).toNat).length := by omega
    subst hmm
    rw [List.take_left' rfl]
    have h1 := rdS_var (zz b).toNat (by omega) []
    rw [List.append_nil] at h1
    unfold frS
    rw [h1, if_neg (by simp), if_pos (Nat.le_refl _)]

/-- A proper beginning of a packed form is too short. -/
theorem un_short {zs : List Int} (hz : Smalls zs) (hl : zs.length ≤ 4096) (m : Nat) (hm : m < (packS zs).length) : (unS ((packS zs).take m)).2.2 = 7 := by
  by_cases h0 : zs = []
  · subst h0
    have e : packS [] = [0] := exP2
    rw [e] at hm ⊢
    simp at hm
    subst hm
    rfl
  · have hne : 0 < zs.length := List.length_pos_iff.2 h0
    have hgl : (gatherS (bitsS zs) (spaceS zs)).length = spaceS zs := gB_length _ _ _
    have eh : packS zs = varN zs.length ++ (varN (zz (minS zs)).toNat ++ ((widthS zs : Int) :: gatherS (bitsS zs) (spaceS zs))) := by
      unfold packS headS
      rw [if_neg h0]
      simp
    have el : (packS zs).length = (varN zs.length).length + ((varN (zz (minS zs)).toNat).length + 1 + spaceS zs) := by
      rw [eh]
      simp [hgl]
      omega
    rw [el] at hm
    rw [eh]
    by_cases h1 : m < (varN zs.length).length
    · have h2 := rdS_short zs.length (by omega) m h1
      rw [List.take_append_of_le_length (by omega)]
      unfold unS
      rw [if_pos (by rw [h2]; decide)]
      exact h2
    · obtain ⟨q, rfl⟩ : ∃ q, m = (varN zs.length).length + q := ⟨m - (varN zs.length).length, by omega⟩
      rw [List.take_length_add_append]
      have h3 := rdS_var zs.length (by omega) ((varN (zz (minS zs)).toNat ++ ((widthS zs : Int) :: gatherS (bitsS zs) (spaceS zs))).take q)
      unfold unS
      rw [h3]
      simp only [List.drop_left']
      by_cases h4 : q < (varN (zz (minS zs)).toNat).length + 1
      · have h5 := fr_short (hz _ (min_mem zs h0)) (widthS zs) (gatherS (bitsS zs) (spaceS zs)) q h4
        rw [if_neg (by simp), if_neg (by omega), if_neg (by omega), if_pos (by rw [h5]; decide)]
        exact h5
      · obtain ⟨r, rfl⟩ : ∃ r, q = (varN (zz (minS zs)).toNat).length + 1 + r := ⟨q - ((varN (zz (minS zs)).toNat).length + 1), by omega⟩
        have e1 : (varN (zz (minS zs)).toNat ++ ((widthS zs : Int) :: gatherS (bitsS zs) (spaceS zs))).take ((varN (zz (minS zs)).toNat).length + 1 + r) = varN (zz (minS zs)).toNat ++ ((widthS zs : Int) :: (gatherS (bitsS zs) (spaceS zs)).take r) := by
          rw [Nat.add_assoc, List.take_length_add_append, Nat.add_comm 1 r, List.take_succ_cons]
        have h5 := fr_pack (hz _ (min_mem zs h0)) (widthS zs) (width_le zs) ((gatherS (bitsS zs) (spaceS zs)).take r)
        have e3 : (varN (zz (minS zs)).toNat ++ ((widthS zs : Int) :: (gatherS (bitsS zs) (spaceS zs)).take r)).drop ((varN (zz (minS zs)).toNat).length + 1) = (gatherS (bitsS zs) (spaceS zs)).take r := by
          rw [← List.drop_drop, List.drop_left]; rfl
        have hw : wideS zs = widthS zs := if_neg h0
        have h6 : upS (minS zs) (widthS zs) zs.length ((gatherS (bitsS zs) (spaceS zs)).take r) = ([], 0, 7) := by
          unfold upS
          rw [if_pos (by rw [List.length_take, hgl]; unfold spaceS at hm ⊢; rw [hw] at hm ⊢; omega)]
        rw [e1, h5]
        simp only [e3, Int.toNat_natCast, h6]
        rw [if_neg (by simp), if_neg (by omega), if_neg (by omega), if_neg (by simp), if_pos (by decide)]

end Go.Proofs.Ytkfmgiacdlkmiaa

namespace Go.Proofs.Ytkfmgiacdlkmiaa
open Go.RowKit

theorem rdF_canon : ∀ (bs : List Int) (i : Nat) (a v : Int) (c : Nat), Oct bs → rdF i a bs = (v, c, 0) →
    ∃ u : Nat, v = a + u * 2 ^ (7 * i) ∧ c = i + (varN u).length ∧ bs.take (varN u).length = varN u ∧ (varN u).length ≤ bs.length ∧ (0 < i → 0 < u)
  | [], i, a, v, c, _, h => by unfold rdF at h; split at h <;> simp at h
  | x :: r, i, a, v, c, ho, h => by
    have hx := ho x (List.mem_cons_self ..)
    unfold rdF at h
    split at h
    · simp at h
    · split at h
      · obtain ⟨u', h1, h2, h3, h4, h5⟩ := rdF_canon r (i + 1) _ v c (fun y hy => ho y (List.mem_cons_of_mem _ hy)) h
        have hu' := h5 (by omega)
        have hn : ¬ ((x - 128).toNat + 128 * u') < 128 := by omega
        have e : varN ((x - 128).toNat + 128 * u') = x :: varN u' := by
          rw [varN_hi hn, show ((x - 128).toNat + 128 * u') / 128 = u' by omega, show ((((x - 128).toNat + 128 * u') % 128 : Nat) : Int) + 128 = x by omega]
        refine ⟨(x - 128).toNat + 128 * u', ?_, ?_, ?_, ?_, fun _ => by omega⟩
        · rw [h1, show 7 * (i + 1) = 7 * i + 7 by omega, Int.pow_add]
          have : ((((x - 128).toNat + 128 * u' : Nat)) : Int) = (x - 128) + u' * 128 := by omega
          rw [this, Int.add_mul, Int.mul_comm (2 ^ (7 * i)) (2 ^ 7), ← Int.mul_assoc, Int.add_assoc]
          rfl
        · rw [e, List.length_cons, h2]; omega
        · rw [e, List.length_cons, List.take_succ_cons, h3]
        · rw [e, List.length_cons, List.length_cons]; omega
      · split at h
        · rename_i h10 h128 he
          simp only [Prod.mk.injEq] at h
          obtain ⟨h1, h2, _⟩ := h
          have e : varN x.toNat = [x] := by rw [varN_lo (by omega), Int.toNat_of_nonneg hx.1]
          refine ⟨x.toNat, ?_, ?_, ?_, ?_, fun hi => ?_⟩
          · rw [← h1, Int.toNat_of_nonneg hx.1]
          · rw [e, ← h2]; rfl
          · rw [e]; rfl
          · rw [e]; simp
          · unfold ends at he
            split at he
            · have : x = 1 := by simpa using he
              omega
            · have : ¬ x = 0 := by
                have h0 : i ≠ 0 := by omega
                simpa [h0] using he
              omega
        · simp at h

theorem rdS_canon {bs : List Int} (ho : Oct bs) {v : Int} {c : Nat} (h : rdS bs = (v, c, 0)) : 0 ≤ v ∧ c = (varN v.toNat).length ∧ bs = varN v.toNat ++ bs.drop c := by
  obtain ⟨u, h1, h2, h3, h4, _⟩ := rdF_canon bs 0 0 v c ho h
  have hv : v = u := by rw [h1]; simp
  subst hv
  refine ⟨by omega, by rw [h2]; simp, ?_⟩
  have hc : c = (varN u).length := by rw [h2]; simp
  rw [Int.toNat_natCast, hc, ← h3, List.length_take, Nat.min_eq_left h4]
  exact (List.take_append_drop _ _).symm

theorem fr_canon {bs : List Int} (ho : Oct bs) {b w : Int} {c : Nat} (h : frS bs = ((b, w), c, 0)) : bs = varN (zz b).toNat ++ (w :: bs.drop c) ∧ c = (varN (zz b).toNat).length + 1 := by
  unfold frS at h
  split at h
  · rename_i h0; simp only [Prod.mk.injEq] at h; exact absurd h.2.2 h0
  · split at h
    · simp at h
    · split at h
      · simp at h
      · rename_i h0 h1 h2
        simp only [Prod.mk.injEq] at h
        obtain ⟨⟨hb, hw⟩, hc, _⟩ := h
        have hU := rdS_u64 ho
        obtain ⟨q1, q2, q3⟩ := rdS_canon ho (v := (rdS bs).1) (c := (rdS bs).2.1) (by
          have : (rdS bs).2.2 = 0 := by simpa using h0
          rw [← this])
        have hz : zz b = (rdS bs).1 := by rw [← hb, zz_uz hU]
        rw [hz]
        refine ⟨?_, by rw [← hc, q2]⟩
        have hlt : (rdS bs).2.1 < bs.length := by omega
        rw [← hc, ← hw, ← drop_getD_cons bs _ hlt]
        exact q3

theorem numB_zeros : ∀ (l : List Int) (k : Nat), numB (l ++ List.replicate k 0) = numB l
  | [], k => by
    rw [List.nil_append]
    induction k with
    | zero => rfl
    | succ k ih => rw [List.replicate_succ, show numB (0 :: List.replicate k 0) = 0 + 2 * numB (List.replicate k 0) from rfl, ih]; rfl
  | x :: r, k => by rw [List.cons_append, numB, numB_zeros r k, numB]

theorem diff_wrap (b x : Int) (h0 : 0 ≤ x) (h1 : x < 18446744073709551616) : diffS b (wrap64 (b + x)) = x := by
  unfold diffS wrap64; omega

/-- Bits in, bits out. -/
theorem bits_back {b : Int} {wd n : Nat} {bl : List Int} (hbl : Bin bl) (hwd : wd ≤ 64) (hn : n * wd ≤ bl.length) : allBits wd (diffs b (elB b bl wd bl.length n)) = bl.take (n * wd) := by
  apply List.ext_getElem?
  intro j
  have hlen : (diffs b (elB b bl wd bl.length n)).length = n := by unfold diffs; rw [List.length_map, elB_length]
  by_cases hj : j < n * wd
  · have hW : 0 < wd := by rcases Nat.eq_zero_or_pos wd with h | h; · subst h; omega
                           · exact h
    have he := div_lt_of hj
    have hp := Nat.mod_lt j hW
    have h1 := allBits_at wd (diffs b (elB b bl wd bl.length n)) (j / wd) (j % wd) (by rw [hlen]; exact he) hp
    rw [Nat.mul_comm, Nat.div_add_mod] at h1
    have hbj : bl[j]? = some (bl[j]'(by omega)) := List.getElem?_eq_getElem _
    rw [h1, List.getElem?_take_of_lt hj, hbj]
    congr 1
    have hdm := Nat.div_add_mod j wd
    have hle : wd * (j / wd) + wd ≤ n * wd := by
      have : wd * (j / wd + 1) ≤ wd * n := Nat.mul_le_mul_left _ he
      rw [Nat.mul_succ, Nat.mul_comm wd n] at this
      exact this
    unfold diffs elB
    rw [List.getElem?_map, List.getElem?_map, List.getElem?_range he]
    show diffS b (elV b bl wd bl.length (j / wd)) / 2 ^ (j % wd) % 2 = _
    unfold elV
    rw [show min wd (bl.length - wd * (j / wd)) = wd by omega]
    have hr := numB_range (hbl.part (wd * (j / wd)) wd)
    have hl2 : ((bl.drop (wd * (j / wd))).take wd).length = wd := by rw [List.length_take, List.length_drop]; omega
    rw [hl2] at hr
    have h64 : (2 : Int) ^ wd ≤ 18446744073709551616 := by
      have h : (2 : Nat) ^ wd ≤ 18446744073709551616 := Nat.le_trans (Nat.pow_le_pow_right (by decide) hwd) (by decide)
      have h' := Int.ofNat_le.2 h
      rw [Int.natCast_pow] at h'
      exact h'
    rw [diff_wrap _ _ hr.1 (by omega), numB_digit _ (hbl.part _ _), List.getElem?_take_of_lt hp, List.getElem?_drop, hdm, hbj]
    rfl
  · rw [List.getElem?_eq_none (by rw [allBits_length, hlen]; omega), List.getElem?_eq_none (by rw [List.length_take]; omega)]

/-- Bytes out of their own bits, the last ones of which are 0. -/
theorem gather_back {bs : List Int} (ho : Oct bs) (m : Nat) (hm : m ≤ 8 * bs.length) (hz : zerosB ((allBits 8 bs).drop m) = true) : gatherS ((allBits 8 bs).take m) bs.length = bs := by
  have hal : (allBits 8 bs).length = bs.length * 8 := allBits_length 8 bs
  apply List.ext_getElem?
  intro j
  by_cases hj : j < bs.length
  · unfold gatherS
    rw [gB_at _ _ _ _ hj, List.getElem?_eq_getElem hj]
    congr 1
    have hx := ho _ (List.getElem_mem hj)
    rw [← numB_bits 8 bs[j] hx.1 (by omega)]
    have hml : ((allBits 8 bs).take m).length = m := by rw [List.length_take]; omega
    rw [hml]
    have hb : bitsN 8 bs[j] = (((allBits 8 bs).take m).drop (8 * j)).take (min 8 (m - 8 * j)) ++ List.replicate (8 - min 8 (m - 8 * j)) 0 := by
      apply List.ext_getElem?
      intro p
      have hll : ((((allBits 8 bs).take m).drop (8 * j)).take (min 8 (m - 8 * j))).length = min 8 (m - 8 * j) := by
        rw [List.length_take, List.length_drop, hml]; omega
      by_cases hp : p < 8
      · have h1 := allBits_at 8 bs j p hj hp
        rw [List.getElem?_eq_getElem hj, Option.getD_some] at h1
        rw [bitsN_at _ _ _ hp, ← h1]
        by_cases hq : p < min 8 (m - 8 * j)
        · rw [List.getElem?_append_left (by omega), List.getElem?_take_of_lt hq, List.getElem?_drop, List.getElem?_take_of_lt (by omega), Nat.mul_comm]
        · rw [List.getElem?_append_right (by omega), hll, List.getElem?_replicate, if_pos (by omega)]
          have h2 := (zerosB_iff _ _).1 hz (j * 8 + p) (by omega) (by omega)
          rw [List.getElem?_eq_getElem (by omega), Option.getD_some] at h2
          rw [List.getElem?_eq_getElem (by omega), h2]
      · rw [List.getElem?_eq_none (by rw [bitsN_length]; omega), List.getElem?_eq_none (by rw [List.length_append, hll, List.length_replicate]; omega)]
    rw [hb, numB_zeros]
  · unfold gatherS
    rw [List.getElem?_eq_none (by rw [gB_length]; omega), List.getElem?_eq_none (by omega)]

theorem up_canon {bs : List Int} (ho : Oct bs) {b : Int} {wd n : Nat} (hwd : wd ≤ 64) (hn1 : 1 ≤ n) {l : List Int} {c : Nat} (h : upS b wd n bs = (l, c, 0)) :
    l.length = n ∧ minS l = b ∧ widthS l = wd ∧ c = spaceS l ∧ c ≤ bs.length ∧ gatherS (bitsS l) (spaceS l) = bs.take c := by
  unfold upS at h
  split at h
  · simp at h
  · split at h
    · rename_i h0 h1
      simp only [Prod.mk.injEq] at h
      obtain ⟨hl, hc, _⟩ := h
      unfold upOk at h1
      rw [hl] at h1
      simp only [Bool.and_eq_true, beq_iff_eq] at h1
      obtain ⟨hz, hmin, hwid⟩ := h1
      have hlen : l.length = n := by rw [← hl]; unfold upList; exact elB_length ..
      have hne : l ≠ [] := fun e => by rw [e] at hlen; simp at hlen; omega
      have hw : wideS l = widthS l := if_neg hne
      have hbase : baseS l = minS l := if_neg hne
      have hsp : spaceS l = c := by unfold spaceS; rw [hw, hwid, hlen, hc]
      have hul : (upBits wd n bs).length = c * 8 := by unfold upBits; rw [allBits_length, hc, List.length_take]; omega
      refine ⟨hlen, hmin, hwid, hsp.symm, by omega, ?_⟩
      have hbits : bitsS l = (upBits wd n bs).take (n * wd) := by
        unfold bitsS
        rw [hw, hbase, hwid, hmin, ← hl]
        exact bits_back (allBits_bin 8 _) hwd (by rw [hul]; omega)
      rw [hbits, hsp]
      have htl : (bs.take c).length = c := by rw [List.length_take]; omega
      have := gather_back (ho.take c) (n * wd) (by rw [htl]; omega) (by unfold upBits at hz; rw [hc] at hz; exact hz)
      rw [htl] at this
      unfold upBits
      rw [hc]
      exact this
    · simp at h

/-- What is read back was packed so: the bytes are the packed form of the list, and the rest. -/
theorem un_canon {bs : List Int} (ho : Oct bs) {l : List Int} {c : Nat} (h : unS bs = (l, c, 0)) : l.length ≤ 4096 ∧ c = (packS l).length ∧ bs = packS l ++ bs.drop c := by
  unfold unS at h
  split at h
  · rename_i h0; simp only [Prod.mk.injEq] at h; exact absurd h.2.2 h0
  · split at h
    · simp at h
    · rename_i h0 h1
      have hU := rdS_u64 ho
      obtain ⟨q1, q2, q3⟩ := rdS_canon ho (v := (rdS bs).1) (c := (rdS bs).2.1) (by
        have : (rdS bs).2.2 = 0 := by simpa using h0
        rw [← this])
      split at h
      · rename_i h2
        simp only [Prod.mk.injEq] at h
        obtain ⟨hl, hc, _⟩ := h
        subst hl
        have e : packS [] = varN 0 := by rw [varN_lo (by decide)]; exact exP2
        rw [h2] at q2 q3
        rw [e, ← hc]
        exact ⟨by simp, q2, q3⟩
      · rename_i h2
        split at h
        · rename_i h3; simp only [Prod.mk.injEq] at h; exact absurd h.2.2 h3
        · rename_i h3
          split at h
          · rename_i h4; simp only [Prod.mk.injEq] at h; exact absurd h.2.2 h4
          · rename_i h4
            simp only [Prod.mk.injEq] at h
            obtain ⟨hl, hc, _⟩ := h
            have ho2 := ho.drop (rdS bs).2.1
            generalize (rdS bs).2.1 = c1 at *
            generalize bs.drop c1 = b2 at *
            have hfr : frS b2 = (((frS b2).1.1, (frS b2).1.2), (frS b2).2.1, 0) := by
              have : (frS b2).2.2 = 0 := by simpa using h3
              rw [← this]
            obtain ⟨f1, f2⟩ := fr_canon ho2 hfr
            have hw := fr_wide ho2
            generalize (frS b2).1.1 = b at *
            generalize (frS b2).1.2 = w at *
            generalize (frS b2).2.1 = c2 at *
            have ho3 := ho2.drop c2
            generalize b2.drop c2 = b3 at *
            have hup : upS b w.toNat (rdS bs).1.toNat b3 = ((upS b w.toNat (rdS bs).1.toNat b3).1, (upS b w.toNat (rdS bs).1.toNat b3).2.1, 0) := by
              have : (upS b w.toNat (rdS bs).1.toNat b3).2.2 = 0 := by simpa using h4
              rw [← this]
            obtain ⟨g1, g2, g3, g4, g5, g6⟩ := up_canon ho3 (by omega) (by omega) hup
            rw [hl] at g1 g2 g3 g4 g6
            generalize (upS b w.toNat (rdS bs).1.toNat b3).2.1 = c3 at *
            have hne : l ≠ [] := fun e => by rw [e] at g1; simp at g1; omega
            have hgl : (gatherS (bitsS l) (spaceS l)).length = spaceS l := gB_length _ _ _
            have ep : packS l = varN l.length ++ (varN (zz b).toNat ++ (w :: b3.take c3)) := by
              unfold packS headS
              rw [if_neg hne, g6, g2, g3, Int.toNat_of_nonneg hw.1]
              simp
            have elen : (packS l).length = c1 + (c2 + c3) := by
              rw [ep, q2, f2, g1]
              simp
              omega
            have eb : bs = packS l ++ b3.drop c3 := by
              rw [ep, g1]
              simp only [List.append_assoc, List.cons_append, List.take_append_drop]
              rw [← f1]
              exact q3
            refine ⟨by omega, by rw [elen, ← hc], ?_⟩
            have : bs.drop c = b3.drop c3 := by
              rw [show c = (packS l).length by rw [elen, ← hc]]
              conv => lhs; rw [eb]
              exact List.drop_left' rfl
            rw [this]
            exact eb

end Go.Proofs.Ytkfmgiacdlkmiaa
