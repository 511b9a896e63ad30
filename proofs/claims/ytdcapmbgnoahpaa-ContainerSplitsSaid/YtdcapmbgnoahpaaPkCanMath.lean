/-
  What is read back was packed so, as functions on lists.
-/
import Derived.Test.YtdcapmbgnoahpaaPkInvMath
namespace Go.Proofs.Ytdcapmbgnoahpaa
open Go.RowKit

theorem rdF_canon : ∀ (bs : List Int) (i : Nat) (a v : Int) (c : Nat), Oct bs → rdF i a bs = (v, c, 0) →
    ∃ u : Nat, v = a + u * 2 ^ (7 * i) ∧ c = i + (varN u).length ∧ bs.take (varN u).length = varN u ∧ (varN u).length ≤ bs.length ∧ (0 < i → 0 < u)
  | [], i, a, v, c, _, h => by unfold rdF at h; split at h <;> simp at h
  | x :: r, i, a, v, c, ho, h => by
    have hx := ho x (List.mem_cons_self ..)
    unfold rdF at h
    split at h
    · simp at h
    · split at h
      · obtain ⟨u', h1, h2, h3, h4, h5⟩ := rdF_canon r (i + 1) _ v c (fun y hy => ho y (List.mem_cons_of_mem _ hy)) h
        have hu' := h5 (by omega)
        have hn : ¬ ((x - 128).toNat + 128 * u') < 128 := by omega
        have e : varN ((x - 128).toNat + 128 * u') = x :: varN u' := by
          rw [varN_hi hn, show ((x - 128).toNat + 128 * u') / 128 = u' by omega, show ((((x - 128).toNat + 128 * u') % 128 : Nat) : Int) + 128 = x by omega]
        refine ⟨(x - 128).toNat + 128 * u', ?_, ?_, ?_, ?_, fun _ => by omega⟩
        · rw [h1, show 7 * (i + 1) = 7 * i + 7 by omega, Int.pow_add]
          have : ((((x - 128).toNat + 128 * u' : Nat)) : Int) = (x - 128) + u' * 128 := by omega
          rw [this, Int.add_mul, Int.mul_comm (2 ^ (7 * i)) (2 ^ 7), ← Int.mul_assoc, Int.add_assoc]
          rfl
        · rw [e, List.length_cons, h2]; omega
        · rw [e, List.length_cons, List.take_succ_cons, h3]
        · rw [e, List.length_cons, List.length_cons]; omega
      · split at h
        · rename_i h10 h128 he
          simp only [Prod.mk.injEq] at h
          obtain ⟨h1, h2, _⟩ := h
          have e : varN x.toNat = [x] := by rw [varN_lo (by omega), Int.toNat_of_nonneg hx.1]
          refine ⟨x.toNat, ?_, ?_, ?_, ?_, fun hi => ?_⟩
          · rw [← h1, Int.toNat_of_nonneg hx.1]
          · rw [e, ← h2]; rfl
          · rw [e]; rfl
          · rw [e]; simp
          · unfold ends at he
            split at he
            · have : x = 1 := by simpa using he
              omega
            · have : ¬ x = 0 := by
                have h0 : i ≠ 0 := by omega
                simpa [h0] using he
              omega
        · simp at h

theorem rdS_canon {bs : List Int} (ho : Oct bs) {v : Int} {c : Nat} (h : rdS bs = (v, c, 0)) : 0 ≤ v ∧ c = (varN v.toNat).length ∧ bs = varN v.toNat ++ bs.drop c := by
  obtain ⟨u, h1, h2, h3, h4, _⟩ := rdF_canon bs 0 0 v c ho h
  have hv : v = u := by rw [h1]; simp
  subst hv
  refine ⟨by omega, by rw [h2]; simp, ?_⟩
  have hc : c = (varN u).length := by rw [h2]; simp
  rw [Int.toNat_natCast, hc, ← h3, List.length_take, Nat.min_eq_left h4]
  exact (List.take_append_drop _ _).symm

theorem fr_canon {bs : List Int} (ho : Oct bs) {b w : Int} {c : Nat} (h : frS bs = ((b, w), c, 0)) : bs = varN (zz b).toNat ++ (w :: bs.drop c) ∧ c = (varN (zz b).toNat).length + 1 := by
  unfold frS at h
  split at h
  · rename_i h0; simp only [Prod.mk.injEq] at h; exact absurd h.2.2 h0
  · split at h
    · simp at h
    · split at h
      · simp at h
      · rename_i h0 h1 h2
        simp only [Prod.mk.injEq] at h
        obtain ⟨⟨hb, hw⟩, hc, _⟩ := h
        have hU := rdS_u64 ho
        obtain ⟨q1, q2, q3⟩ := rdS_canon ho (v := (rdS bs).1) (c := (rdS bs).2.1) (by
          have : (rdS bs).2.2 = 0 := by simpa using h0
          rw [← this])
        have hz : zz b = (rdS bs).1 := by rw [← hb, zz_uz hU]
        rw [hz]
        refine ⟨?_, by rw [← hc, q2]⟩
        have hlt : (rdS bs).2.1 < bs.length := by omega
        rw [← hc, ← hw, ← drop_getD_cons bs _ hlt]
        exact q3

theorem numB_zeros : ∀ (l : List Int) (k : Nat), numB (l ++ List.replicate k 0) = numB l
  | [], k => by
    rw [List.nil_append]
    induction k with
    | zero => rfl
    | succ k ih => rw [List.replicate_succ, show numB (0 :: List.replicate k 0) = 0 + 2 * numB (List.replicate k 0) from rfl, ih]; rfl
  | x :: r, k => by rw [List.cons_append, numB, numB_zeros r k, numB]

theorem diff_wrap (b x : Int) (h0 : 0 ≤ x) (h1 : x < 18446744073709551616) : diffS b (wrap64 (b + x)) = x := by
  unfold diffS wrap64; omega

/-- Bits in, bits out. -/
theorem bits_back {b : Int} {wd n : Nat} {bl : List Int} (hbl : Bin bl) (hwd : wd ≤ 64) (hn : n * wd ≤ bl.length) : allBits wd (diffs b (elB b bl wd bl.length n)) = bl.take (n * wd) := by
  apply List.ext_getElem?
  intro j
  have hlen : (diffs b (elB b bl wd bl.length n)).length = n := by unfold diffs; rw [List.length_map, elB_length]
  by_cases hj : j < n * wd
  · have hW : 0 < wd := by rcases Nat.eq_zero_or_pos wd with h | h; · subst h; omega
                           · exact h
    have he := div_lt_of hj
    have hp := Nat.mod_lt j hW
    have h1 := allBits_at wd (diffs b (elB b bl wd bl.length n)) (j / wd) (j % wd) (by rw [hlen]; exact he) hp
    rw [Nat.mul_comm, Nat.div_add_mod] at h1
    have hbj : bl[j]? = some (bl[j]'(by omega)) := List.getElem?_eq_getElem _
    rw [h1, List.getElem?_take_of_lt hj, hbj]
    congr 1
    have hdm := Nat.div_add_mod j wd
    have hle : wd * (j / wd) + wd ≤ n * wd := by
      have : wd * (j / wd + 1) ≤ wd * n := Nat.mul_le_mul_left _ he
      rw [Nat.mul_succ, Nat.mul_comm wd n] at this
      exact this
    unfold diffs elB
    rw [List.getElem?_map, List.getElem?_map, List.getElem?_range he]
    show diffS b (elV b bl wd bl.length (j / wd)) / 2 ^ (j % wd) % 2 = _
    unfold elV
    rw [show min wd (bl.length - wd * (j / wd)) = wd by omega]
    have hr := numB_range (hbl.part (wd * (j / wd)) wd)
    have hl2 : ((bl.drop (wd * (j / wd))).take wd).length = wd := by rw [List.length_take, List.length_drop]; omega
    rw [hl2] at hr
    have h64 : (2 : Int) ^ wd ≤ 18446744073709551616 := by
      have h : (2 : Nat) ^ wd ≤ 18446744073709551616 := Nat.le_trans (Nat.pow_le_pow_right (by decide) hwd) (by decide)
      have h' := Int.ofNat_le.2 h
      rw [Int.natCast_pow] at h'
      exact h'
    rw [diff_wrap _ _ hr.1 (by omega), numB_digit _ (hbl.part _ _), List.getElem?_take_of_lt hp, List.getElem?_drop, hdm, hbj]
    rfl
  · rw [List.getElem?_eq_none (by rw [allBits_length, hlen]; omega), List.getElem?_eq_none (by rw [List.length_take]; omega)]

/-- Bytes out of their own bits, the last ones of which are 0. -/
theorem gather_back {bs : List Int} (ho : Oct bs) (m : Nat) (hm : m ≤ 8 * bs.length) (hz : zerosB ((allBits 8 bs).drop m) = true) : gatherS ((allBits 8 bs).take m) bs.length = bs := by
  have hal : (allBits 8 bs).length = bs.length * 8 := allBits_length 8 bs
  apply List.ext_getElem?
  intro j
  by_cases hj : j < bs.length
  · unfold gatherS
    rw [gB_at _ _ _ _ hj, List.getElem?_eq_getElem hj]
    congr 1
    have hx := ho _ (List.getElem_mem hj)
    rw [← numB_bits 8 bs[j] hx.1 (by omega)]
    have hml : ((allBits 8 bs).take m).length = m := by rw [List.length_take]; omega
    rw [hml]
    have hb : bitsN 8 bs[j] = (((allBits 8 bs).take m).drop (8 * j)).take (min 8 (m - 8 * j)) ++ List.replicate (8 - min 8 (m - 8 * j)) 0 := by
      apply List.ext_getElem?
      intro p
      have hll : ((((allBits 8 bs).take m).drop (8 * j)).take (min 8 (m - 8 * j))).length = min 8 (m - 8 * j) := by
        rw [List.length_take, List.length_drop, hml]; omega
      by_cases hp : p < 8
      · have h1 := allBits_at 8 bs j p hj hp
        rw [List.getElem?_eq_getElem hj, Option.getD_some] at h1
        rw [bitsN_at _ _ _ hp, ← h1]
        by_cases hq : p < min 8 (m - 8 * j)
        · rw [List.getElem?_append_left (by omega), List.getElem?_take_of_lt hq, List.getElem?_drop, List.getElem?_take_of_lt (by omega), Nat.mul_comm]
        · rw [List.getElem?_append_right (by omega), hll, List.getElem?_replicate, if_pos (by omega)]
          have h2 := (zerosB_iff _ _).1 hz (j * 8 + p) (by omega) (by omega)
          rw [List.getElem?_eq_getElem (by omega), Option.getD_some] at h2
          rw [List.getElem?_eq_getElem (by omega), h2]
      · rw [List.getElem?_eq_none (by rw [bitsN_length]; omega), List.getElem?_eq_none (by rw [List.length_append, hll, List.length_replicate]; omega)]
    rw [hb, numB_zeros]
  · unfold gatherS
    rw [List.getElem?_eq_none (by rw [gB_length]; omega), List.getElem?_eq_none (by omega)]

theorem up_canon {bs : List Int} (ho : Oct bs) {b : Int} {wd n : Nat} (hwd : wd ≤ 64) (hn1 : 1 ≤ n) {l : List Int} {c : Nat} (h : upS b wd n bs = (l, c, 0)) :
    l.length = n ∧ minS l = b ∧ widthS l = wd ∧ c = spaceS l ∧ c ≤ bs.length ∧ gatherS (bitsS l) (spaceS l) = bs.take c := by
  unfold upS at h
  split at h
  · simp at h
  · split at h
    · rename_i h0 h1
      simp only [Prod.mk.injEq] at h
      obtain ⟨hl, hc, _⟩ := h
      unfold upOk at h1
      rw [hl] at h1
      simp only [Bool.and_eq_true, beq_iff_eq] at h1
      obtain ⟨hz, hmin, hwid⟩ := h1
      have hlen : l.length = n := by rw [← hl]; unfold upList; exact elB_length ..
      have hne : l ≠ [] := fun e => by rw [e] at hlen; simp at hlen; omega
      have hw : wideS l = widthS l := if_neg hne
      have hbase : baseS l = minS l := if_neg hne
      have hsp : spaceS l = c := by unfold spaceS; rw [hw, hwid, hlen, hc]
      have hul : (upBits wd n bs).length = c * 8 := by unfold upBits; rw [allBits_length, hc, List.length_take]; omega
      refine ⟨hlen, hmin, hwid, hsp.symm, by omega, ?_⟩
      have hbits : bitsS l = (upBits wd n bs).take (n * wd) := by
        unfold bitsS
        rw [hw, hbase, hwid, hmin, ← hl]
        exact bits_back (allBits_bin 8 _) hwd (by rw [hul]; omega)
      rw [hbits, hsp]
      have htl : (bs.take c).length = c := by rw [List.length_take]; omega
      have := gather_back (ho.take c) (n * wd) (by rw [htl]; omega) (by unfold upBits at hz; rw [hc] at hz; exact hz)
      rw [htl] at this
      unfold upBits
      rw [hc]
      exact this
    · simp at h

/-- What is read back was packed so: the bytes are the packed form of the list, and the rest. -/
theorem un_canon {bs : List Int} (ho : Oct bs) {l : List Int} {c : Nat} (h : unS bs = (l, c, 0)) : l.length ≤ 4096 ∧ c = (packS l).length ∧ bs = packS l ++ bs.drop c := by
  unfold unS at h
  split at h
  · rename_i h0; simp only [Prod.mk.injEq] at h; exact absurd h.2.2 h0
  · split at h
    · simp at h
    · rename_i h0 h1
      have hU := rdS_u64 ho
      obtain ⟨q1, q2, q3⟩ := rdS_canon ho (v := (rdS bs).1) (c := (rdS bs).2.1) (by
        have : (rdS bs).2.2 = 0 := by simpa using h0
        rw [← this])
      split at h
      · rename_i h2
        simp only [Prod.mk.injEq] at h
        obtain ⟨hl, hc, _⟩ := h
        subst hl
        have e : packS [] = varN 0 := by rw [varN_lo (by decide)]; exact exP2
        rw [h2] at q2 q3
        rw [e, ← hc]
        exact ⟨by simp, q2, q3⟩
      · rename_i h2
        split at h
        · rename_i h3; simp only [Prod.mk.injEq] at h; exact absurd h.2.2 h3
        · rename_i h3
          split at h
          · rename_i h4; simp only [Prod.mk.injEq] at h; exact absurd h.2.2 h4
          · rename_i h4
            simp only [Prod.mk.injEq] at h
            obtain ⟨hl, hc, _⟩ := h
            have ho2 := ho.drop (rdS bs).2.1
            generalize (rdS bs).2.1 = c1 at *
            generalize bs.drop c1 = b2 at *
            have hfr : frS b2 = (((frS b2).1.1, (frS b2).1.2), (frS b2).2.1, 0) := by
              have : (frS b2).2.2 = 0 := by simpa using h3
              rw [← this]
            obtain ⟨f1, f2⟩ := fr_canon ho2 hfr
            have hw := fr_wide ho2
            generalize (frS b2).1.1 = b at *
            generalize (frS b2).1.2 = w at *
            generalize (frS b2).2.1 = c2 at *
            have ho3 := ho2.drop c2
            generalize b2.drop c2 = b3 at *
            have hup : upS b w.toNat (rdS bs).1.toNat b3 = ((upS b w.toNat (rdS bs).1.toNat b3).1, (upS b w.toNat (rdS bs).1.toNat b3).2.1, 0) := by
              have : (upS b w.toNat (rdS bs).1.toNat b3).2.2 = 0 := by simpa using h4
              rw [← this]
            obtain ⟨g1, g2, g3, g4, g5, g6⟩ := up_canon ho3 (by omega) (by omega) hup
            rw [hl] at g1 g2 g3 g4 g6
            generalize (upS b w.toNat (rdS bs).1.toNat b3).2.1 = c3 at *
            have hne : l ≠ [] := fun e => by rw [e] at g1; simp at g1; omega
            have hgl : (gatherS (bitsS l) (spaceS l)).length = spaceS l := gB_length _ _ _
            have ep : packS l = varN l.length ++ (varN (zz b).toNat ++ (w :: b3.take c3)) := by
              unfold packS headS
              rw [if_neg hne, g6, g2, g3, Int.toNat_of_nonneg hw.1]
              simp
            have elen : (packS l).length = c1 + (c2 + c3) := by
              rw [ep, q2, f2, g1]
              simp
              omega
            have eb : bs = packS l ++ b3.drop c3 := by
              rw [ep, g1]
              simp only [List.append_assoc, List.cons_append, List.take_append_drop]
              rw [← f1]
              exact q3
            refine ⟨by omega, by rw [elen, ← hc], ?_⟩
            have : bs.drop c = b3.drop c3 := by
              rw [show c = (packS l).length by rw [elen, ← hc]]
              conv => lhs; rw [eb]
              exact List.drop_left' rfl
            rw [this]
            exact eb

end Go.Proofs.Ytdcapmbgnoahpaa
