/-
  Codes of variable length are read back, what is read was written so, and a part of one is too short.
-/
import Derived.Test.YtkfmgiacdlkmiaaPkSpec
namespace Go.Proofs.Ytkfmgiacdlkmiaa
open Go.RowKit

theorem rdF_var5 (r : List Int) : ∀ (k i u : Nat) (a : Int), i + k = 9 → u < 2 ^ (7 * k + 1) → (i = 0 ∨ 0 < u) → rdF i a (varN u ++ r) = (a + u * 2 ^ (7 * i), i + (varN u).length, 0) := by
  intro k
  induction k with
  | zero =>
    intro i u a hi hu h0
    obtain rfl : i = 9 := by omega
    obtain rfl : u = 1 := by omega
    rw [varN_lo (by decide)]
    rfl
  | succ k ih =>
    intro i u a hi hu h0
    by_cases h1 : u < 128
    · rw [varN_lo h1]
      have he : ends i (u : Int) = true := by
        unfold ends
        rw [if_neg (by omega)]
        rcases h0 with h0 | h0
        · simp [h0]
        · simp; omega
      show rdF i a ((u : Int) :: ([] ++ r)) = _
      rw [rdF, if_neg (by omega), if_neg (by omega), if_pos he]
      rfl
    · rw [varN_hi h1, List.cons_append, rdF, if_neg (by omega), if_pos (by omega)]
      have hu2 : u / 128 < 2 ^ (7 * k + 1) := by
        rw [Nat.div_lt_iff_lt_mul (by decide)]
        rw [show 7 * (k + 1) + 1 = 7 * k + 1 + 7 by omega, Nat.pow_add] at hu
        exact hu
      rw [ih (i + 1) (u / 128) _ (by omega) hu2 (.inr (by omega)), List.length_cons]
      refine Prod.ext ?_ (Prod.ext ?_ rfl)
      · show a + (((u % 128 : Nat) : Int) + 128 - 128) * 2 ^ (7 * i) + ((u / 128 : Nat) : Int) * 2 ^ (7 * (i + 1)) = a + (u : Int) * 2 ^ (7 * i)
        rw [show 7 * (i + 1) = 7 * i + 7 by omega, Int.pow_add]
        generalize (2 : Int) ^ (7 * i) = P
        have hd : (u : Int) = ((u % 128 : Nat) : Int) + ((u / 128 : Nat) : Int) * 128 := by omega
        rw [show ((2 : Int) ^ 7) = 128 from rfl, show ((u % 128 : Nat) : Int) + 128 - 128 = ((u % 128 : Nat) : Int) by omega]
        conv => rhs; rw [hd]
        rw [Int.add_mul, Int.mul_assoc, Int.mul_comm P 128, Int.add_assoc]
      · show i + 1 + (varN (u / 128)).length = i + ((varN (u / 128)).length + 1)
        omega

theorem rdS_var5 (u : Nat) (hu : u < 18446744073709551616) (r : List Int) : rdS (varN u ++ r) = ((u : Int), (varN u).length, 0) := by
  have := rdF_var5 r 9 0 u 0 rfl hu (.inl rfl)
  unfold rdS
  rw [this]
  simp

theorem rdF_canon5 : ∀ (bs : List Int) (i : Nat) (a v : Int) (c : Nat), Oct bs → rdF i a bs = (v, c, 0) →
    ∃ u : Nat, v = a + u * 2 ^ (7 * i) ∧ c = i + (varN u).length ∧ bs.take (varN u).length = varN u ∧ (varN u).length ≤ bs.length ∧ (0 < i → 0 < u)
  | [], i, a, v, c, _, h => by unfold rdF at h; split at h <;> simp at h
  | x :: r, i, a, v, c, ho, h => by
    have hx := ho x (List.mem_cons_self ..)
    unfold rdF at h
    split at h
    · simp at h
    · split at h
      · obtain ⟨u', h1, h2, h3, h4, h5⟩ := rdF_canon5 r (i + 1) _ v c (fun y hy => ho y (List.mem_cons_of_mem _ hy)) h
        have hu' := h5 (by omega)
        have hn : ¬ ((x - 128).toNat + 128 * u') < 128 := by omega
        have e : varN ((x - 128).toNat + 128 * u') = x :: varN u' := by
          rw [varN_hi hn, show ((x - 128).toNat + 128 * u') / 128 = u' by omega, show ((((x - 128).toNat + 128 * u') % 128 : Nat) : Int) + 128 = x by omega]
        refine ⟨(x - 128).toNat + 128 * u', ?_, ?_, ?_, ?_, fun _ => by omega⟩
        · rw [h1, show 7 * (i + 1) = 7 * i + 7 by omega, Int.pow_add]
          have : ((((x - 128).toNat + 128 * u' : Nat)) : Int) = (x - 128) + u' * 128 := by omega
          rw [this, Int.add_mul, Int.mul_comm (2 ^ (7 * i)) (2 ^ 7), ← Int.mul_assoc, Int.add_assoc]
          rfl
        · rw [e, List.length_cons, h2]; omega
        · rw [e, List.length_cons, List.take_succ_cons, h3]
        · rw [e, List.length_cons, List.length_cons]; omega
      · split at h
        · rename_i h10 h128 he
          simp only [Prod.mk.injEq] at h
          obtain ⟨h1, h2, _⟩ := h
          have e : varN x.toNat = [x] := by rw [varN_lo (by omega), Int.toNat_of_nonneg hx.1]
          refine ⟨x.toNat, ?_, ?_, ?_, ?_, fun hi => ?_⟩
          · rw [← h1, Int.toNat_of_nonneg hx.1]
          · rw [e, ← h2]; rfl
          · rw [e]; rfl
          · rw [e]; simp
          · unfold ends at he
            split at he
            · have : x = 1 := by simpa using he
              omega
            · have : ¬ x = 0 := by
                have h0 : i ≠ 0 := by omega
                simpa [h0] using he
              omega
        · simp at h

theorem rdS_canon5 {bs : List Int} (ho : Oct bs) {v : Int} {c : Nat} (h : rdS bs = (v, c, 0)) : 0 ≤ v ∧ c = (varN v.toNat).length ∧ bs = varN v.toNat ++ bs.drop c := by
  obtain ⟨u, h1, h2, h3, h4, _⟩ := rdF_canon5 bs 0 0 v c ho h
  have hv : v = u := by rw [h1]; simp
  subst hv
  refine ⟨by omega, by rw [h2]; simp, ?_⟩
  have hc : c = (varN u).length := by rw [h2]; simp
  rw [Int.toNat_natCast, hc, ← h3, List.length_take, Nat.min_eq_left h4]
  exact (List.take_append_drop _ _).symm

theorem rdF_short5 : ∀ (k i u : Nat) (a : Int) (m : Nat), i + k = 9 → u < 2 ^ (7 * k + 1) → m < (varN u).length → (rdF i a ((varN u).take m)).2.2 = 7
  | k, i, u, a, 0, hk, _, _ => by rw [List.take_zero]; unfold rdF; rw [if_pos (by omega)]
  | 0, i, u, a, m + 1, hk, hu, hm => by
    rw [varN_lo (by omega)] at hm
    simp at hm
  | k + 1, i, u, a, m + 1, hk, hu, hm => by
    by_cases h0 : u < 128
    · rw [varN_lo h0] at hm; simp at hm
    · rw [varN_hi h0, List.length_cons] at hm
      rw [varN_hi h0, List.take_succ_cons]
      unfold rdF
      rw [if_neg (by omega), if_pos (by omega)]
      exact rdF_short5 k (i + 1) (u / 128) _ m (by omega) (by rw [Nat.div_lt_iff_lt_mul (by decide)]; rw [show 7 * (k + 1) + 1 = (7 * k + 1) + 7 by omega, Nat.pow_add] at hu; exact hu) (by omega)

theorem rdS_short5 (u : Nat) (hu : u < 18446744073709551616) (m : Nat) (hm : m < (varN u).length) : (rdS ((varN u).take m)).2.2 = 7 :=
  rdF_short5 9 0 u 0 m rfl hu hm

theorem rdF_err5 : ∀ (bs : List Int) (i : Nat) (a : Int), (rdF i a bs).2.2 = 0 ∨ (rdF i a bs).2.2 = 5 ∨ (rdF i a bs).2.2 = 7
  | [], i, a => by unfold rdF; split <;> simp
  | x :: r, i, a => by
    unfold rdF
    split
    · simp
    · split
      · exact rdF_err5 r _ _
      · split <;> simp
theorem rdS_err5 (bs : List Int) : (rdS bs).2.2 = 0 ∨ (rdS bs).2.2 = 5 ∨ (rdS bs).2.2 = 7 := rdF_err5 bs 0 0
theorem rdF_zero5 : ∀ (bs : List Int) (i : Nat) (a : Int), (rdF i a bs).2.2 ≠ 0 → rdF i a bs = (0, 0, (rdF i a bs).2.2)
  | [], i, a, h => by unfold rdF; split <;> rfl
  | x :: r, i, a, h => by
    unfold rdF at h ⊢
    split
    · rfl
    · rename_i h1
      rw [if_neg h1] at h
      split
      · rename_i h2
        rw [if_pos h2] at h
        exact rdF_zero5 r _ _ h
      · rename_i h2
        rw [if_neg h2] at h
        split
        · rename_i h3
          rw [if_pos h3] at h
          exact absurd rfl h
        · rfl
theorem rdS_len5 {bs : List Int} (ho : Oct bs) {v : Int} {c : Nat} (h : rdS bs = (v, c, 0)) : c ≤ bs.length := by
  obtain ⟨_, h2, h3⟩ := rdS_canon5 ho h
  have := congrArg List.length h3
  rw [List.length_append, ← h2] at this
  omega

theorem rdF_u645 : ∀ (l : List Int) (i : Nat) (a : Int), (∀ x ∈ l, 0 ≤ x ∧ x < 256) → (i ≤ 9 → 0 ≤ a ∧ a < 2 ^ (7 * i)) → U64 (rdF i a l).1
  | [], i, a, _, _ => by unfold rdF; split <;> exact ⟨by decide, by decide⟩
  | x :: r, i, a, ho, ha => by
    have hx := ho x (List.mem_cons_self ..)
    unfold rdF
    split
    · exact ⟨by decide, by decide⟩
    · rename_i hi
      have ha := ha (by omega)
      have hp : (0 : Int) < 2 ^ (7 * i) := Int.pow_pos (by decide)
      split
      · refine rdF_u645 r (i + 1) _ (fun y hy => ho y (List.mem_cons_of_mem _ hy)) (fun h9 => ?_)
        rename_i h128
        have h1 : (0 : Int) ≤ (x - 128) * 2 ^ (7 * i) := Int.mul_nonneg (by omega) (Int.le_of_lt hp)
        have h2 : (x - 128) * 2 ^ (7 * i) ≤ 127 * 2 ^ (7 * i) := Int.mul_le_mul_of_nonneg_right (by omega) (Int.le_of_lt hp)
        rw [show 7 * (i + 1) = 7 * i + 7 by omega, Int.pow_add]
        generalize (2 : Int) ^ (7 * i) = P at *
        refine ⟨by omega, ?_⟩
        show _ < P * 128
        omega
      · split
        · rename_i h128 he
          have h1 : (0 : Int) ≤ x * 2 ^ (7 * i) := Int.mul_nonneg hx.1 (Int.le_of_lt hp)
          refine ⟨by show 0 ≤ a + x * 2 ^ (7 * i); omega, ?_⟩
          show a + x * 2 ^ (7 * i) < _
          by_cases h9 : i = 9
          · subst h9
            have : x = 1 := by simpa [ends] using he
            subst this
            have := ha.2
            omega
          · have h2 : x * 2 ^ (7 * i) ≤ 127 * 2 ^ (7 * i) := Int.mul_le_mul_of_nonneg_right (by omega) (Int.le_of_lt hp)
            have h3 : (2 : Int) ^ (7 * i) ≤ 2 ^ 56 := by
              have : (2 : Nat) ^ (7 * i) ≤ 2 ^ 56 := Nat.pow_le_pow_right (by decide) (by omega)
              exact_mod_cast this
            generalize (2 : Int) ^ (7 * i) = P at *
            omega
        · exact ⟨by decide, by decide⟩
theorem rdS_u645 {bs : List Int} (ho : Oct bs) : U64 (rdS bs).1 := rdF_u645 bs 0 0 ho (fun _ => ⟨by decide, by decide⟩)

end Go.Proofs.Ytkfmgiacdlkmiaa
