/-
  Reading the parts of a packed form one after the other, as functions on lists.
-/
import Derived.Test.YtdcapmbgnoahpaaDcIter
namespace Go.Proofs.Ytdcapmbgnoahpaa
open Go Go.RowKit

theorem rp_shared {bs : List Int} (ho : Oct bs) (size : Nat) : (rpS bs size).1.1 ≤ size := by
  have h1 := (rdS_u645 ho).1
  unfold rpS
  split
  · exact Nat.zero_le _
  · split
    · exact Nat.zero_le _
    · split
      · exact Nat.zero_le _
      · split
        · exact Nat.zero_le _
        · show (rdS bs).1.toNat ≤ size
          omega

theorem rp_oct {bs : List Int} (ho : Oct bs) (size : Nat) : Oct (rpS bs size).1.2 := by
  unfold rpS
  split
  · exact Oct.nil
  · split
    · exact Oct.nil
    · split
      · exact Oct.nil
      · split
        · exact Oct.nil
        · exact ((ho.drop _).drop _).take _

/-- A result behind what was read before. -/
def wrapU (p : Nat) (r : List (List UInt8) × Nat × Int) : List (List UInt8) × Nat × Int := if r.2.2 ≠ 0 then ([], 0, r.2.2) else (r.1, p + r.2.1, 0)

theorem wrap_wrap (p q : Nat) (r : List (List UInt8) × Nat × Int) : wrapU p (wrapU q r) = wrapU (p + q) r := by
  unfold wrapU
  by_cases h : r.2.2 = 0
  · simp [h, Nat.add_assoc]
  · simp [h]

/-- k parts have been read: they are the strings d, and what follows stands behind pos bytes. -/
def UnAt (bs : List Int) (N k : Nat) (d : List (List UInt8)) (pos : Nat) : Prop :=
  k ≤ N ∧ d.length = k ∧ (∀ s ∈ d, s.length ≤ 255) ∧ (ptL bs N 0 0).drop k = ptL bs (N - k) pos (d.getLastD []).length ∧ unF N [] bs = wrapU pos (unF (N - k) d (bs.drop pos))

theorem unF_err : ∀ (n : Nat) (d : List (List UInt8)) (bs : List Int), (unF n d bs).2.2 ≠ 0 → unF n d bs = ([], 0, (unF n d bs).2.2)
  | 0, d, bs, h => absurd rfl h
  | n + 1, d, bs, h => by
    unfold unF at h ⊢
    split
    · rfl
    · rename_i h1
      rw [if_neg h1] at h
      split
      · rfl
      · rename_i h2
        rw [if_neg h2] at h
        split
        · rfl
        · rename_i h3
          rw [if_neg h3] at h
          exact absurd rfl h

theorem UnAt.start (bs : List Int) (N : Nat) : UnAt bs N 0 [] 0 := by
  refine ⟨Nat.zero_le _, rfl, fun s hs => (by cases hs), rfl, ?_⟩
  rw [Nat.sub_zero, List.drop_zero]
  unfold wrapU
  by_cases h : (unF N [] bs).2.2 = 0
  · rw [if_neg (by simp [h]), Nat.zero_add, ← h]
  · rw [if_pos h]; exact unF_err N [] bs h

theorem sb_nil5 (sh : Nat) (o : List Int) : sbS [] sh o = strU o ∧ sbB [] sh o = true := by unfold sbS sbB; exact ⟨if_pos rfl, by simp⟩

theorem last_snoc (d : List (List UInt8)) (s : List UInt8) : (d ++ [s]).getLastD [] = s := by simp [List.getLastD_eq_getLast?]

theorem last_le {d : List (List UInt8)} (h : ∀ s ∈ d, s.length ≤ 255) : (d.getLastD []).length ≤ 255 := by
  rw [List.getLastD_eq_getLast?]
  cases hl : d.getLast? with
  | none => exact Nat.zero_le _
  | some s => exact h s (List.mem_of_getLast? hl)

theorem sb_len {d : List (List UInt8)} {bs : List Int} (ho : Oct bs) : (sbS d (rpS bs (d.getLastD []).length).1.1 (rpS bs (d.getLastD []).length).1.2).length = (rpS bs (d.getLastD []).length).1.1 + (rpS bs (d.getLastD []).length).1.2.length := by
  have h1 := rp_shared ho (d.getLastD []).length
  unfold sbS
  by_cases h : d = []
  · subst h
    rw [if_pos rfl, strU_len]
    have h0 : (([] : List (List UInt8)).getLastD []).length = 0 := rfl
    omega
  · rw [if_neg h, List.length_append, List.length_take, strU_len]
    omega

theorem UnAt.more {bs : List Int} (ho : Oct bs) {N k pos : Nat} {d : List (List UInt8)} (h : UnAt bs N k d pos) (hk : k < N) (he : (rpS (bs.drop pos) (d.getLastD []).length).2.2 = 0)
    (hb : sbB d (rpS (bs.drop pos) (d.getLastD []).length).1.1 (rpS (bs.drop pos) (d.getLastD []).length).1.2 = true) :
    UnAt bs N (k + 1) (d ++ [sbS d (rpS (bs.drop pos) (d.getLastD []).length).1.1 (rpS (bs.drop pos) (d.getLastD []).length).1.2]) (pos + (rpS (bs.drop pos) (d.getLastD []).length).2.1) := by
  obtain ⟨_, h1, h2, h3, h4⟩ := h
  have hod := ho.drop pos
  have hN : N - k = (N - (k + 1)) + 1 := by omega
  refine ⟨hk, by rw [List.length_append, h1]; rfl, fun s hs => ?_, ?_, ?_⟩
  · rcases List.mem_append.1 hs with hs | hs
    · exact h2 s hs
    · rw [List.mem_singleton.1 hs, sb_len hod]
      exact rp_size hod _
  · rw [hN] at h3
    rw [(drop_part h3).2, if_neg (fun h => h he), last_snoc, sb_len hod]
  · rw [h4, hN]
    conv => lhs; rw [unF]
    rw [if_neg (fun h => h he), if_neg (by rw [hb]; decide), List.drop_drop]
    generalize unF (N - (k + 1)) _ _ = r
    unfold wrapU
    by_cases hr : r.2.2 = 0
    · simp [hr, Nat.add_assoc]
    · simp [hr]

theorem UnAt.bad {bs : List Int} {N k pos : Nat} {d : List (List UInt8)} (h : UnAt bs N k d pos) (hk : k < N) (he : (rpS (bs.drop pos) (d.getLastD []).length).2.2 ≠ 0) :
    unF N [] bs = ([], 0, (rpS (bs.drop pos) (d.getLastD []).length).2.2) := by
  obtain ⟨_, _, _, _, h4⟩ := h
  have hN : N - k = (N - (k + 1)) + 1 := by omega
  rw [h4, hN]
  conv => lhs; rw [unF]
  rw [if_pos he]
  unfold wrapU
  rw [if_pos he]

theorem UnAt.wrong {bs : List Int} {N k pos : Nat} {d : List (List UInt8)} (h : UnAt bs N k d pos) (hk : k < N) (he : (rpS (bs.drop pos) (d.getLastD []).length).2.2 = 0)
    (hb : sbB d (rpS (bs.drop pos) (d.getLastD []).length).1.1 (rpS (bs.drop pos) (d.getLastD []).length).1.2 = false) : unF N [] bs = ([], 0, 5) := by
  obtain ⟨_, _, _, _, h4⟩ := h
  have hN : N - k = (N - (k + 1)) + 1 := by omega
  rw [h4, hN]
  conv => lhs; rw [unF]
  rw [if_neg (fun h => h he), if_pos hb]
  rfl

theorem UnAt.done {bs : List Int} {N k pos : Nat} {d : List (List UInt8)} (h : UnAt bs N k d pos) (hk : k = (ptL bs N 0 0).length) : k = N ∧ unF N [] bs = (d, pos, 0) := by
  obtain ⟨h0, _, _, h3, h4⟩ := h
  have h5 := congrArg List.length h3
  rw [List.length_drop, hk, Nat.sub_self, ← hk] at h5
  have h6 : N - k = 0 := by
    cases hN : N - k with
    | zero => rfl
    | succ m => rw [hN] at h5; simp [ptL] at h5
  refine ⟨by omega, ?_⟩
  rw [h4, h6]
  unfold wrapU unF
  simp

end Go.Proofs.Ytdcapmbgnoahpaa
