/-
  A proper beginning of a packed form is too short, as functions on lists. What was encoded is decoded; what is decoded was encoded so; what is cut off is too short: as functions on lists. The law's own wrappers. Which errors there are; a row of the call's own, and a slice that came in, appended to it. The reference's forms of a list, and its encoding. The reference's encoding of a list.
-/
import Derived.Test.YtmbcppkdnoccbaaPkInvMath
import Derived.Test.YtmbcppkdnoccbaaRnDec
import Derived.Test.YtmbcppkdnoccbaaRnMake
import Derived.Test.YtmbcppkdnoccbaaRnRef4
namespace Go.Proofs.Ytmbcppkdnoccbaa
open Go.RowKit

theorem rdF_short : ∀ (k i u : Nat) (a : Int) (m : Nat), i + k = 9 → u < 2 ^ (7 * k + 1) → m < (varN u).length → (rdF i a ((varN u).take m)).2.2 = 7
  | k, i, u, a, 0, hk, _, _ => by rw [List.take_zero]; unfold rdF; rw [if_pos (by omega)]
  | 0, i, u, a, m + 1, hk, hu, hm => by
    rw [varN_lo (by omega)] at hm
    simp at hm
  | k + 1, i, u, a, m + 1, hk, hu, hm => by
    by_cases h0 : u < 128
    · rw [varN_lo h0] at hm; simp at hm
    · rw [varN_hi h0, List.length_cons] at hm
      rw [varN_hi h0, List.take_succ_cons]
      unfold rdF
      rw [if_neg (by omega), if_pos (by omega)]
      exact rdF_short k (i + 1) (u / 128) _ m (by omega) (by rw [Nat.div_lt_iff_lt_mul (by decide)]; rw [show 7 * (k + 1) + 1 = (7 * k + 1) + 7 by omega, Nat.pow_add] at hu; exact hu) (by omega)

theorem rdS_short (u : Nat) (hu : u < 18446744073709551616) (m : Nat) (hm : m < (varN u).length) : (rdS ((varN u).take m)).2.2 = 7 :=
  rdF_short 9 0 u 0 m rfl hu hm

theorem fr_short {b : Int} (hb : I64 b) (w : Int) (rest : List Int) (m : Nat) (hm : m < (varN (zz b).toNat).length + 1) : (frS ((varN (zz b).toNat ++ (w :: rest)).take m)).2.2 = 7 := by
  have hu := zz_u64 hb
  unfold U64 at hu
  by_cases h : m < (varN (zz b).toNat).length
  · have h1 := rdS_short (zz b).toNat (by omega) m h
    rw [List.take_append_of_le_length (by omega)]
    unfold frS
    rw [if_pos (by rw [h1]; decide)]
    exact h1
  · have hmm : m = (varN (zz b).toNat).length := by omega
    subst hmm
    rw [List.take_left' rfl]
    have h1 := rdS_var (zz b).toNat (by omega) []
    rw [List.append_nil] at h1
    unfold frS
    rw [h1, if_neg (by simp), if_pos (Nat.le_refl _)]

/-- A proper beginning of a packed form is too short. -/
theorem un_short {zs : List Int} (hz : Smalls zs) (hl : zs.length ≤ 4096) (m : Nat) (hm : m < (packS zs).length) : (unS ((packS zs).take m)).2.2 = 7 := by
  by_cases h0 : zs = []
  · subst h0
    have e : packS [] = [0] := exP2
    rw [e] at hm ⊢
    simp at hm
    subst hm
    rfl
  · have hne : 0 < zs.length := List.length_pos_iff.2 h0
    have hgl : (gatherS (bitsS zs) (spaceS zs)).length = spaceS zs := gB_length _ _ _
    have eh : packS zs = varN zs.length ++ (varN (zz (minS zs)).toNat ++ ((widthS zs : Int) :: gatherS (bitsS zs) (spaceS zs))) := by
      unfold packS headS
      rw [if_neg h0]
      simp
    have el : (packS zs).length = (varN zs.length).length + ((varN (zz (minS zs)).toNat).length + 1 + spaceS zs) := by
      rw [eh]
      simp [hgl]
      omega
    rw [el] at hm
    rw [eh]
    by_cases h1 : m < (varN zs.length).length
    · have h2 := rdS_short zs.length (by omega) m h1
      rw [List.take_append_of_le_length (by omega)]
      unfold unS
      rw [if_pos (by rw [h2]; decide)]
      exact h2
    · obtain ⟨q, rfl⟩ : ∃ q, m = (varN zs.length).length + q := ⟨m - (varN zs.length).length, by omega⟩
      rw [List.take_length_add_append]
      have h3 := rdS_var zs.length (by omega) ((varN (zz (minS zs)).toNat ++ ((widthS zs : Int) :: gatherS (bitsS zs) (spaceS zs))).take q)
      unfold unS
      rw [h3]
      simp only [List.drop_left']
      by_cases h4 : q < (varN (zz (minS zs)).toNat).length + 1
      · have h5 := fr_short (hz _ (min_mem zs h0)) (widthS zs) (gatherS (bitsS zs) (spaceS zs)) q h4
        rw [if_neg (by simp), if_neg (by omega), if_neg (by omega), if_pos (by rw [h5]; decide)]
        exact h5
      · obtain ⟨r, rfl⟩ : ∃ r, q = (varN (zz (minS zs)).toNat).length + 1 + r := ⟨q - ((varN (zz (minS zs)).toNat).length + 1), by omega⟩
        have e1 : (varN (zz (minS zs)).toNat ++ ((widthS zs : Int) :: gatherS (bitsS zs) (spaceS zs))).take ((varN (zz (minS zs)).toNat).length + 1 + r) = varN (zz (minS zs)).toNat ++ ((widthS zs : Int) :: (gatherS (bitsS zs) (spaceS zs)).take r) := by
          rw [Nat.add_assoc, List.take_length_add_append, Nat.add_comm 1 r, List.take_succ_cons]
        have h5 := fr_pack (hz _ (min_mem zs h0)) (widthS zs) (width_le zs) ((gatherS (bitsS zs) (spaceS zs)).take r)
        have e3 : (varN (zz (minS zs)).toNat ++ ((widthS zs : Int) :: (gatherS (bitsS zs) (spaceS zs)).take r)).drop ((varN (zz (minS zs)).toNat).length + 1) = (gatherS (bitsS zs) (spaceS zs)).take r := by
          rw [← List.drop_drop, List.drop_left]; rfl
        have hw : wideS zs = widthS zs := if_neg h0
        have h6 : upS (minS zs) (widthS zs) zs.length ((gatherS (bitsS zs) (spaceS zs)).take r) = ([], 0, 7) := by
          unfold upS
          rw [if_pos (by rw [List.length_take, hgl]; unfold spaceS at hm ⊢; rw [hw] at hm ⊢; omega)]
        rw [e1, h5]
        simp only [e3, Int.toNat_natCast, h6]
        rw [if_neg (by simp), if_neg (by omega), if_neg (by omega), if_neg (by simp), if_pos (by decide)]

end Go.Proofs.Ytmbcppkdnoccbaa

namespace Go.Proofs.Ytmbcppkdnoccbaa
open Go.RowKit

theorem ur_pack {zs : List Int} (hz : Smalls zs) (hl : zs.length ≤ 4096) (rest : List Int) :
    urS (packS (vals zs) ++ (packS (lens zs) ++ rest)) = (zs, (packS (vals zs)).length + (packS (lens zs)).length, 0) := by
  have hrl := rl_len zs
  have h1 := un_pack (vals_smalls hz) (by rw [vals_length]; omega) (packS (lens zs) ++ rest)
  have h2 := un_pack (lens_smalls (zs := zs) (by omega)) (by rw [lens_length]; omega) rest
  unfold urS
  rw [h1]
  simp only [List.drop_left]
  rw [h2]
  simp only []
  rw [xpS_runs zs hl, if_neg (by simp), if_neg (by simp), if_neg (by simp)]
theorem upk_pack {zs : List Int} (hz : Smalls zs) (hl : zs.length ≤ 4096) (k : Nat) (rest : List Int) : upkS k (formS k zs ++ rest) = (zs, (formS k zs).length, 0) := by
  have hd := df_smalls hz
  have hdl : (dfS zs).length ≤ 4096 := by rw [df_length]; exact hl
  unfold upkS formS partsS
  split
  · simp only [List.flatMap_cons, List.flatMap_nil, List.append_nil]
    exact un_pack hz hl rest
  · simp only [List.flatMap_cons, List.flatMap_nil, List.append_nil]
    rw [List.append_assoc, ur_pack hz hl rest, List.length_append]
  · simp only [List.flatMap_cons, List.flatMap_nil, List.append_nil]
    rw [un_pack hd hdl rest]
    show (smS (dfS zs), _) = _
    rw [sm_df hz]
  · simp only [List.flatMap_cons, List.flatMap_nil, List.append_nil]
    rw [List.append_assoc, ur_pack hd hdl rest, List.length_append]
    show (smS (dfS zs), _) = _
    rw [sm_df hz]
theorem de_en {zs : List Int} (hz : Smalls zs) (hl : zs.length ≤ 4096) (rest : List Int) : deS (enS zs ++ rest) = (zs, (enS zs).length, 0) := by
  have h := upk_pack hz hl (kindS zs) rest
  have e : (enS zs ++ rest).drop 1 = formS (kindS zs) zs ++ rest := rfl
  have := de_good (bs := enS zs ++ rest) (k := kindS zs) (by simp [enS]) rfl (kind_lt zs) (by rw [e, h]) (by rw [e, h])
  rw [this, e, h]
  simp [enS]

theorem ur_canon {bs : List Int} (ho : Oct bs) {l : List Int} {c : Nat} (h : urS bs = (l, c, 0)) : l.length ≤ 4096 ∧ c = (packS (vals l)).length + (packS (lens l)).length ∧ bs = packS (vals l) ++ (packS (lens l) ++ bs.drop c) := by
  unfold urS at h
  split at h
  · rename_i h1; exact absurd (congrArg (·.2.2) h) h1
  · rename_i h1
    split at h
    · rename_i h2; exact absurd (congrArg (·.2.2) h) h2
    · rename_i h2
      split at h
      · simp at h
      · rename_i h3
        simp at h1 h2 h3
        obtain ⟨vs, hv⟩ : ∃ vs, (unS bs).1 = vs := ⟨_, rfl⟩
        obtain ⟨c1, hc1⟩ : ∃ c1, (unS bs).2.1 = c1 := ⟨_, rfl⟩
        have e1 : unS bs = (vs, c1, 0) := by rw [← hv, ← hc1, ← h1]
        rw [e1] at h h2 h3
        simp only at h h2 h3
        obtain ⟨ns, hn⟩ : ∃ ns, (unS (bs.drop c1)).1 = ns := ⟨_, rfl⟩
        obtain ⟨c2, hc2⟩ : ∃ c2, (unS (bs.drop c1)).2.1 = c2 := ⟨_, rfl⟩
        have e2 : unS (bs.drop c1) = (ns, c2, 0) := by rw [← hn, ← hc2, ← h2]
        rw [e2] at h h3
        simp only at h h3
        obtain ⟨h4, h5⟩ : (xpS vs ns).1 = l ∧ c1 + c2 = c := by simpa using h
        have e3 : xpS vs ns = (l, 0) := by rw [← h4, ← h3]
        obtain ⟨b1, b2, b3⟩ := xpS_back e3
        obtain ⟨_, d1, d2⟩ := un_canon ho e1
        obtain ⟨_, d3, d4⟩ := un_canon (ho.drop c1) e2
        rw [b1, b2]
        refine ⟨b3, by rw [← h5, d1, d3], ?_⟩
        rw [← h5, ← List.drop_drop, ← d4]
        exact d2
theorem upk_canon {k : Nat} {bs : List Int} (ho : Oct bs) {l : List Int} {c : Nat} (h : upkS k bs = (l, c, 0)) : l.length ≤ 4096 ∧ c = (formS k l).length ∧ bs = formS k l ++ bs.drop c := by
  unfold upkS at h
  unfold formS partsS
  split at h
  · obtain ⟨h1, h2, h3⟩ := un_canon ho h
    simp only [List.flatMap_cons, List.flatMap_nil, List.append_nil]
    exact ⟨h1, h2, h3⟩
  · obtain ⟨h1, h2, h3⟩ := ur_canon ho h
    simp only [List.flatMap_cons, List.flatMap_nil, List.append_nil]
    exact ⟨h1, by rw [List.length_append]; exact h2, by rw [List.append_assoc]; exact h3⟩
  · obtain ⟨d, hd⟩ : ∃ d, (unS bs).1 = d := ⟨_, rfl⟩
    have hs := un_smalls4 bs
    have h' : (smS (unS bs).1, (unS bs).2) = (l, c, 0) := h
    rw [hd] at h' hs
    have e1 : smS d = l := congrArg Prod.fst h'
    have e2 : (unS bs).2 = (c, 0) := congrArg Prod.snd h'
    have e3 : unS bs = (d, c, 0) := by rw [← hd, ← e2]
    have e4 : dfS l = d := by rw [← e1, df_sm hs]
    obtain ⟨h1, h2, h3⟩ := un_canon ho e3
    simp only [List.flatMap_cons, List.flatMap_nil, List.append_nil, e4]
    exact ⟨by rw [← e1, sm_length]; exact h1, h2, h3⟩
  · obtain ⟨d, hd⟩ : ∃ d, (urS bs).1 = d := ⟨_, rfl⟩
    have hs := ur_smalls bs
    have h' : (smS (urS bs).1, (urS bs).2) = (l, c, 0) := h
    rw [hd] at h' hs
    have e1 : smS d = l := congrArg Prod.fst h'
    have e2 : (urS bs).2 = (c, 0) := congrArg Prod.snd h'
    have e3 : urS bs = (d, c, 0) := by rw [← hd, ← e2]
    have e4 : dfS l = d := by rw [← e1, df_sm hs]
    obtain ⟨h1, h2, h3⟩ := ur_canon ho e3
    simp only [List.flatMap_cons, List.flatMap_nil, List.append_nil, e4]
    exact ⟨by rw [← e1, sm_length]; exact h1, by rw [List.length_append]; exact h2, by rw [List.append_assoc]; exact h3⟩
theorem de_canon {bs : List Int} (ho : Oct bs) {l : List Int} {c : Nat} (h : deS bs = (l, c, 0)) : l.length ≤ 4096 ∧ Smalls l ∧ c = (enS l).length ∧ bs = enS l ++ bs.drop c := by
  unfold deS at h
  split at h
  · simp at h
  · rename_i hne
    split at h
    · simp at h
    · rename_i h4
      split at h
      · rename_i h1; exact absurd (congrArg (·.2.2) h) h1
      · rename_i h1
        split at h
        · simp at h
        · rename_i h2
          have h1 := Decidable.of_not_not h1
          have h2 := Decidable.of_not_not h2
          have hx := (ho.getD 0).1
          obtain ⟨k, hk⟩ := Int.eq_ofNat_of_zero_le hx
          rw [hk, Int.toNat_natCast] at h h1 h2
          obtain ⟨d, hd⟩ : ∃ d, (upkS k (bs.drop 1)).1 = d := ⟨_, rfl⟩
          obtain ⟨c1, hc1⟩ : ∃ c1, (upkS k (bs.drop 1)).2.1 = c1 := ⟨_, rfl⟩
          have e1 : upkS k (bs.drop 1) = (d, c1, 0) := by rw [← hd, ← hc1, ← h1]
          have hs := upk_smalls k (bs.drop 1)
          rw [e1] at h h2 hs
          simp only at h h2 hs
          obtain ⟨e2, e3⟩ : d = l ∧ c1 + 1 = c := by simpa using h
          obtain ⟨g1, g2, g3⟩ := upk_canon (ho.drop 1) e1
          subst e2
          refine ⟨g1, hs, ?_, ?_⟩
          · rw [← e3, g2]; unfold enS; rw [h2, List.length_cons]
          · have e5 : bs = (k : Int) :: bs.drop 1 := by
              cases bs with
              | nil => exact absurd rfl hne
              | cons x r => simp at hk; rw [← hk]; rfl
            have e6 : bs.drop c = (bs.drop 1).drop c1 := by rw [← e3, List.drop_drop, Nat.add_comm]
            rw [e6]
            unfold enS
            rw [h2, List.cons_append, ← g3]
            exact e5

theorem ur_short {zs : List Int} (hz : Smalls zs) (hl : zs.length ≤ 4096) (m : Nat) (hm : m < (packS (vals zs)).length + (packS (lens zs)).length) : (urS ((packS (vals zs) ++ packS (lens zs)).take m)).2.2 = 7 := by
  have hrl := rl_len zs
  have hv := vals_smalls hz
  have hn := lens_smalls (zs := zs) (by omega)
  by_cases h : m < (packS (vals zs)).length
  · have e := un_short hv (by rw [vals_length]; omega) m h
    rw [List.take_append_of_le_length (Nat.le_of_lt h)]
    unfold urS
    rw [if_pos (by rw [e]; decide)]
    exact e
  · have e0 : (packS (vals zs) ++ packS (lens zs)).take m = packS (vals zs) ++ (packS (lens zs)).take (m - (packS (vals zs)).length) := by
      rw [List.take_append, List.take_of_length_le (by omega)]
    have h1 := un_pack hv (by rw [vals_length]; omega) ((packS (lens zs)).take (m - (packS (vals zs)).length))
    have h2 := un_short hn (by rw [lens_length]; omega) (m - (packS (vals zs)).length) (by omega)
    rw [e0]
    unfold urS
    rw [h1]
    simp only [List.drop_left]
    rw [if_neg (by simp), if_pos (by rw [h2]; decide)]
    exact h2
theorem upk_short {zs : List Int} (hz : Smalls zs) (hl : zs.length ≤ 4096) (k m : Nat) (hm : m < (formS k zs).length) : (upkS k ((formS k zs).take m)).2.2 = 7 := by
  have hd := df_smalls hz
  have hdl : (dfS zs).length ≤ 4096 := by rw [df_length]; exact hl
  unfold upkS
  unfold formS partsS at hm ⊢
  split
  · simp only [List.flatMap_cons, List.flatMap_nil, List.append_nil] at hm ⊢
    exact un_short hz hl m hm
  · simp only [List.flatMap_cons, List.flatMap_nil, List.append_nil, List.length_append] at hm ⊢
    exact ur_short hz hl m hm
  · simp only [List.flatMap_cons, List.flatMap_nil, List.append_nil] at hm ⊢
    exact un_short hd hdl m hm
  · simp only [List.flatMap_cons, List.flatMap_nil, List.append_nil, List.length_append] at hm ⊢
    exact ur_short hd hdl m hm
theorem de_short {zs : List Int} (hz : Smalls zs) (hl : zs.length ≤ 4096) (m : Nat) (hm : m < (enS zs).length) : (deS ((enS zs).take m)).2.2 = 7 := by
  cases m with
  | zero => rfl
  | succ m =>
    have e : (enS zs).take (m + 1) = (kindS zs : Int) :: (formS (kindS zs) zs).take m := rfl
    have h := upk_short hz hl (kindS zs) m (by unfold enS at hm; simpa using hm)
    rw [e, de_bad (bs := (kindS zs : Int) :: (formS (kindS zs) zs).take m) (k := kindS zs) (x := 7) (by simp) rfl (kind_lt zs) h (by decide)]

theorem form_oct (k : Nat) (zs : List Int) (h : ∀ ps, Oct (packS ps)) : Oct (formS k zs) := by
  intro x hx
  unfold formS at hx
  obtain ⟨ps, _, hx⟩ := List.mem_flatMap.1 hx
  exact h ps x hx
theorem pack_oct4 (zs : List Int) : Oct (packS zs) := by
  have hh : Oct (headS zs) := by
    unfold headS
    split
    · exact var_oct 0
    · refine ((var_oct _).append (var_oct _)).append fun x hx => ?_
      rw [List.mem_singleton] at hx
      have := width_le zs
      omega
  unfold packS
  exact Oct.append hh (gather_oct _ (bitsS_bin zs) _)
theorem en_oct (zs : List Int) : Oct (enS zs) := by
  intro x hx
  unfold enS at hx
  rcases List.mem_cons.1 hx with rfl | hx
  · have := kind_lt zs; omega
  · exact form_oct _ _ pack_oct4 x hx
theorem en_len {zs : List Int} (hz : Smalls zs) (hl : zs.length ≤ 4096) : 1 ≤ (enS zs).length ∧ (enS zs).length ≤ 65579 := by
  have hf : ∀ (pss : List (List Int)), pss.length ≤ 2 → (∀ ps ∈ pss, (packS ps).length ≤ 32789) → (pss.flatMap packS).length ≤ 65578 := by
    intro pss h2 h
    match pss, h2, h with
    | [], _, _ => simp
    | [a], _, h => have := h a (by simp); simp; omega
    | [a, b], _, h => have := h a (by simp); have := h b (by simp); simp; omega
  have := hf (partsS (kindS zs) zs) (parts_two _ _) fun ps hps => pack_len ps (parts_fair hz (by omega) _ ps hps).1 (parts_len hl _ ps hps)
  unfold enS formS
  rw [List.length_cons]
  omega

end Go.Proofs.Ytmbcppkdnoccbaa

namespace Go.Proofs.Ytmbcppkdnoccbaa
open Go.RowKit Go.Shelf Go.ChangeShapes Go.WideShapes Go.ChangeAt

theorem kind_any {K : Nat → Prop} {a : Option Addr} {len cap : Nat} {zs : List Int} (hz : Smalls zs) (hl40 : len ≤ 1099511627776) {W : World} (hR : Rd K W .i64 a len cap zs) :
    Calls Try.prog 23 #[.slice a len cap] W fun e W' => e = .returned (.int .i64 (kindS zs)) ∧ Below W.heap.size W W' := kind_of forms_any hz hl40 hR
theorem encode_any {K : Nat → Prop} {a : Option Addr} {len cap : Nat} {zs : List Int} (hz : Smalls zs) (hl : len ≤ 4096) {W : World} (hR : Rd K W .i64 a len cap zs) :
    Calls Try.prog 47 #[.slice a len cap] W (EncE W (enS zs)) := encode_of forms_any hz hl hR
theorem decode_any {K : Nat → Prop} {a : Option Addr} {len cap : Nat} {bs : List Int} (ho : Oct bs) {W : World} (hR : Rd K W .u8 a len cap bs) :
    Calls Try.prog 57 #[.slice a len cap] W (DePost K bs W) := decode_of forms_any ho hR
theorem de_ok {K : Nat → Prop} {a : Option Addr} {len cap : Nat} {bs : List Int} (ho : Oct bs) {W : World} (hR : Rd K W .u8 a len cap bs) {l : List Int} {c : Nat} (h : deS bs = (l, c, 0)) :
    Calls Try.prog 57 #[.slice a len cap] W fun e W' => Below W.heap.size W W' ∧ ∃ a1 n1 c1 a2 m, e = .returned (.tuple #[.slice a1 n1 c1, .slice a2 m m, .int .i64 0]) ∧ Rd (fun b => W.heap.size ≤ b) W' .i64 a1 n1 c1 l ∧ Rd K W .u8 a2 m m (bs.drop c) :=
  (decode_any ho hR).mono fun e W' ⟨hb, hp⟩ => by
    rcases hp with ⟨_, a1, n1, c1, a2, m, he, hr1, hr2⟩ | ⟨h1, _⟩
    · rw [h] at hr1 hr2; exact ⟨hb, a1, n1, c1, a2, m, he, hr1, hr2⟩
    · rw [h] at h1; exact absurd rfl h1
theorem de_err {K : Nat → Prop} {a : Option Addr} {len cap : Nat} {bs : List Int} (ho : Oct bs) {W : World} (hR : Rd K W .u8 a len cap bs) {x : Int} (hx : x ≠ 0) (h : (deS bs).2.2 = x) :
    Calls Try.prog 57 #[.slice a len cap] W fun e W' => e = .returned (.tuple #[.slice none 0 0, .slice none 0 0, .int .i64 x]) ∧ Below W.heap.size W W' :=
  (decode_any ho hR).mono fun e W' ⟨hb, hp⟩ => by
    rcases hp with ⟨h1, _⟩ | ⟨_, he⟩
    · exact absurd (h.symm.trans h1) hx
    · rw [h] at he; exact ⟨he, hb⟩

/-- Three cells in a block of their own. -/
def Tri (W : World) (B : Nat) (t : TypeId) (a b c : Value) : Prop := W.heap[B]? = some (.cells #[a, b, c] t (0, 0))
theorem Tri.cell {W : World} {B : Nat} {t : TypeId} {a b c : Value} (h : Tri W B t a b c) : W.cell? ⟨B, 0, none⟩ = some a ∧ W.cell? ⟨B, 1, none⟩ = some b ∧ W.cell? ⟨B, 2, none⟩ = some c := by
  have h : W.heap[B]? = _ := h
  simp [World.cell?, h]
theorem Tri.f {W : World} {B : Nat} {t : TypeId} {a b c : Value} (h : Tri W B t a b c) (o : Nat) : W.frozen? ⟨B, o, none⟩ = false := by simp [World.frozen?, show W.heap[B]? = _ from h]
theorem Tri.lt {W : World} {B : Nat} {t : TypeId} {a b c : Value} (h : Tri W B t a b c) : B < W.heap.size := (Array.getElem?_eq_some_iff.1 h).1
theorem Tri.new (W : World) (t : TypeId) (a b c : Value) : Tri (W.alloc (.cells #[a, b, c] t)) W.heap.size t a b c := World.alloc_heap_new W _
theorem Tri.below {W V : World} {B n : Nat} {t : TypeId} {a b c : Value} (h : Tri W B t a b c) (hb : Below n W V) (hn : B < n) : Tri V B t a b c := (hb.block B hn).trans h

/-- What the law's encoding gives back. -/
def EncodedPost (W : World) (zs : List Int) (e : Ending) (W' : World) : Prop :=
  ∃ g n c : Nat, e = .returned (.agg #[.slice (some ⟨g, 0, none⟩) n c, .int .i64 0]) ∧ Rd (fun b => W.heap.size ≤ b) W' .u8 (some ⟨g, 0, none⟩) n c zs ∧ Below W.heap.size W W'

set_option maxHeartbeats 1000000 in
theorem encoded_any {K : Nat → Prop} {a : Option Addr} {len cap : Nat} {zs : List Int} (hz : Smalls zs) (hl : len ≤ 4096) {W : World} (hR : Rd K W .i64 a len cap zs) :
    Calls Try.prog 11 #[.slice a len cap] W (EncodedPost W (enS zs)) := by
  have H := Lib.hid hR
  clear hR
  go_enter Try.func11, Try.ntmps11
  go_wp2_with fail
  refine (encode_any hz hl (H.out.below ((Below.refl _ _).alloc (Nat.le_refl _) _))).mono ?_
  rintro e w1 ⟨g, n, c, rfl, hr, hb⟩
  have hp := (Pair.new W 33 (.slice none 0 0) (.int .i64 0)).below hb (by simp)
  have p0 := hp.c0
  have p1 := hp.c1
  have f0 := hp.f 0
  have f1 := hp.f 1
  have plt := hp.lt
  have HR : Hid (Rd (fun b => W.heap.size < b) w1 .u8 (some ⟨g, 0, none⟩) n c (enS zs)) := hr.mono fun i _ h => by simp at h; omega
  have HB : Hid (Below W.heap.size W w1) := ((Below.refl _ _).alloc (Nat.le_refl _) _).trans (hb.mono (by simp))
  clear hb hp hr
  go_wp2
  refine bodyPost_ret (v := .agg #[.slice (some ⟨g, 0, none⟩) n c, .int .i64 0]) (by simp [results, Try.results11, go_sem, p0, p1]) rfl ⟨g, n, c, rfl, ?_, (HB.out.setCell (Nat.le_refl _) _).setCell (Nat.le_refl _) _⟩
  exact ((HR.out.set ⟨W.heap.size, 0, none⟩ _ (fun h => by have h : W.heap.size < W.heap.size := h; omega)).set ⟨W.heap.size, 1, none⟩ _ (fun h => by have h : W.heap.size < W.heap.size := h; omega)).mono fun i _ h => Nat.le_of_lt h

set_option maxHeartbeats 1000000 in
theorem encoded_long (a : Option Addr) (len cap : Nat) (hl : 4096 < len) (hl2 : len ≤ 140737488351232) (W : World) :
    Calls Try.prog 11 #[.slice a len cap] W fun e W' => e = .returned (.agg #[.slice none 0 0, .int .i64 2]) ∧ Below W.heap.size W W' := by
  go_enter Try.func11, Try.ntmps11
  go_wp2_with fail
  refine (encode_long a len cap hl hl2 _).mono ?_
  rintro e w' ⟨rfl, rfl⟩
  go_wp2
  exact bodyPost_ret (v := .agg #[.slice none 0 0, .int .i64 2]) (by simp [results, Try.results11, go_sem]) rfl ⟨rfl, (Below.refl _ _).alloc (Nat.le_refl _) _⟩

/-- What the law's runs give back. -/
def RunsOfPost (W : World) (zs : List Int) (e : Ending) (W' : World) : Prop :=
  ∃ a1 n1 c1 a2 n2 c2, e = .returned (.agg #[.slice a1 n1 c1, .slice a2 n2 c2]) ∧ Rd (fun b => W.heap.size ≤ b) W' .i64 a1 n1 c1 (vals zs) ∧ Rd (fun b => W.heap.size ≤ b) W' .i64 a2 n2 c2 (lens zs) ∧ Below W.heap.size W W'

set_option maxHeartbeats 1000000 in
theorem runsOf_any {K : Nat → Prop} {a : Option Addr} {len cap : Nat} {zs : List Int} {W : World} (hR : Rd K W .i64 a len cap zs) (hl40 : len ≤ 1099511627776) :
    Calls Try.prog 16 #[.slice a len cap] W (RunsOfPost W zs) := by
  have H := Lib.hid hR
  clear hR
  go_enter Try.func16, Try.ntmps16
  go_wp2_with fail
  refine (runs_any (H.out.below ((Below.refl _ _).alloc (Nat.le_refl _) _)) hl40).mono ?_
  rintro e w1 ⟨a1, n1, c1, a2, n2, c2, rfl, hr1, hr2, hb⟩
  have hp := (Pair.new W 24 (.slice none 0 0) (.slice none 0 0)).below hb (by simp)
  have p0 := hp.c0
  have p1 := hp.c1
  have f0 := hp.f 0
  have f1 := hp.f 1
  have plt := hp.lt
  have HR1 : Hid (Rd (fun b => W.heap.size < b) w1 .i64 a1 n1 c1 (vals zs)) := hr1.mono fun i _ h => by simp at h; omega
  have HR2 : Hid (Rd (fun b => W.heap.size < b) w1 .i64 a2 n2 c2 (lens zs)) := hr2.mono fun i _ h => by simp at h; omega
  have HB : Hid (Below W.heap.size W w1) := ((Below.refl _ _).alloc (Nat.le_refl _) _).trans (hb.mono (by simp))
  clear hb hp hr1 hr2
  go_wp2
  refine bodyPost_ret (v := .agg #[.slice a1 n1 c1, .slice a2 n2 c2]) (by simp [results, Try.results16, go_sem, p0, p1]) rfl ⟨a1, n1, c1, a2, n2, c2, rfl, ?_, ?_, (HB.out.setCell (Nat.le_refl _) _).setCell (Nat.le_refl _) _⟩
  · exact ((HR1.out.set ⟨W.heap.size, 0, none⟩ _ (fun h => by have h : W.heap.size < W.heap.size := h; omega)).set ⟨W.heap.size, 1, none⟩ _ (fun h => by have h : W.heap.size < W.heap.size := h; omega)).mono fun i _ h => Nat.le_of_lt h
  · exact ((HR2.out.set ⟨W.heap.size, 0, none⟩ _ (fun h => by have h : W.heap.size < W.heap.size := h; omega)).set ⟨W.heap.size, 1, none⟩ _ (fun h => by have h : W.heap.size < W.heap.size := h; omega)).mono fun i _ h => Nat.le_of_lt h

/-- What the law's expanding gives back. -/
def ExpandedPost (W : World) (vs ns : List Int) (e : Ending) (W' : World) : Prop :=
  ∃ a n c, e = .returned (.agg #[.slice a n c, .int .i64 (xpS vs ns).2]) ∧ Rd (fun b => W.heap.size ≤ b) W' .i64 a n c (xpS vs ns).1 ∧ Below W.heap.size W W'

set_option maxHeartbeats 1000000 in
theorem expanded_any {K K' : Nat → Prop} {a a' : Option Addr} {len cap len' cap' : Nat} {vs ns : List Int} (hn : Smalls ns) {W : World} (hR : Rd K W .i64 a len cap vs) (hR' : Rd K' W .i64 a' len' cap' ns) :
    Calls Try.prog 13 #[.agg #[.slice a len cap, .slice a' len' cap']] W (ExpandedPost W vs ns) := by
  have H := Lib.hid hR
  have H' := Lib.hid hR'
  clear hR hR'
  go_enter Try.func13, Try.ntmps13
  go_wp2_with fail
  have hbA : Below W.heap.size W ((W.alloc (.cells #[.slice a len cap, .slice a' len' cap'] 24)).alloc (.cells #[.slice none 0 0, .int .i64 0] 36)) := ((Below.refl _ _).alloc (Nat.le_refl _) _).alloc (by simp) _
  refine (expand_any hn (H.out.below hbA) (H'.out.below hbA)).mono ?_
  rintro e w1 ⟨a1, n1, c1, rfl, hr1, hb⟩
  have hp := (Pair.new (W.alloc (.cells #[.slice a len cap, .slice a' len' cap'] 24)) 36 (.slice none 0 0) (.int .i64 0)).below hb (by simp)
  simp only [World.size_alloc] at hp
  have p0 := hp.c0
  have p1 := hp.c1
  have f0 := hp.f 0
  have f1 := hp.f 1
  have plt := hp.lt
  have HR1 : Hid (Rd (fun b => W.heap.size + 1 < b) w1 .i64 a1 n1 c1 (xpS vs ns).1) := hr1.mono fun i _ h => by simp at h; omega
  have HB : Hid (Below W.heap.size W w1) := hbA.trans (hb.mono hbA.size)
  clear hb hp hr1 hbA
  obtain ⟨x, hx⟩ : ∃ x, (xpS vs ns).2 = x := ⟨_, rfl⟩
  rw [hx]
  have HX := Lib.hid hx
  clear hx
  go_wp2
  refine bodyPost_ret (v := .agg #[.slice a1 n1 c1, .int .i64 x]) (by simp [results, Try.results13, go_sem, p0, p1]) rfl ?_
  refine ⟨a1, n1, c1, by rw [HX.out], ?_, (HB.out.setCell (Nat.le_succ _) _).setCell (Nat.le_succ _) _⟩
  exact ((HR1.out.set ⟨W.heap.size + 1, 0, none⟩ _ (fun h => by have h : W.heap.size + 1 < W.heap.size + 1 := h; omega)).set ⟨W.heap.size + 1, 1, none⟩ _ (fun h => by have h : W.heap.size + 1 < W.heap.size + 1 := h; omega)).mono fun i _ h => by omega

set_option maxHeartbeats 1000000 in
theorem decoded_good {K : Nat → Prop} {a : Option Addr} {len cap : Nat} {bs : List Int} (ho : Oct bs) {W : World} (hR : Rd K W .u8 a len cap bs) {l : List Int} {c : Nat} (h : deS bs = (l, c, 0)) :
    Calls Try.prog 27 #[.slice a len cap] W fun e W' => Below W.heap.size W W' ∧ ∃ a1 n1 c1 a2 m, e = .returned (.agg #[.slice a1 n1 c1, .slice a2 m m, .int .i64 0]) ∧ Rd (fun b => W.heap.size ≤ b) W' .i64 a1 n1 c1 l ∧ Rd K W .u8 a2 m m (bs.drop c) := by
  have H := Lib.hid (hR.mono (K' := fun b => K b ∧ b < W.heap.size) (fun b hlt hk => ⟨hk, hlt⟩))
  have HS := Lib.hid h
  clear hR h
  go_enter Try.func27, Try.ntmps27
  go_wp2_with fail
  refine (de_ok ho (H.out.below ((Below.refl _ _).alloc (Nat.le_refl _) _)) HS.out).mono ?_
  rintro e w1 ⟨hb, a1, n1, c1, a2, m, rfl, hR1, hR2⟩
  have hq := (Tri.new W 46 (.slice none 0 0) (.slice none 0 0) (.int .i64 0)).below hb (by simp)
  obtain ⟨q0, q1, q2⟩ := hq.cell
  have f0 := hq.f 0
  have f1 := hq.f 1
  have f2 := hq.f 2
  have qlt := hq.lt
  have HR2 := Lib.hid (hR2.back ((Below.refl _ _).alloc (Nat.le_refl _) _))
  have HR1 : Hid (Rd (fun b => W.heap.size < b) w1 .i64 a1 n1 c1 l) := hR1.mono (fun i _ h => by simp at h; omega)
  have HB : Hid (Below W.heap.size W w1) := ((Below.refl _ _).alloc (Nat.le_refl _) _).trans (hb.mono (by simp))
  clear hb hq hR1 hR2
  go_wp2
  refine bodyPost_ret (v := .agg #[.slice a1 n1 c1, .slice a2 m m, .int .i64 0]) (by simp [results, Try.results27, go_sem, q0, q1, q2]) rfl ⟨((HB.out.setCell (Nat.le_refl _) _).setCell (Nat.le_refl _) _).setCell (Nat.le_refl _) _, a1, n1, c1, a2, m, rfl, ?_, HR2.out⟩
  exact (((HR1.out.set ⟨W.heap.size, 0, none⟩ _ (fun h => by have h : W.heap.size < W.heap.size := h; omega)).set ⟨W.heap.size, 1, none⟩ _ (fun h => by have h : W.heap.size < W.heap.size := h; omega)).set ⟨W.heap.size, 2, none⟩ _ (fun h => by have h : W.heap.size < W.heap.size := h; omega)).mono fun i _ h => Nat.le_of_lt h

set_option maxHeartbeats 1000000 in
theorem decoded_bad {K : Nat → Prop} {a : Option Addr} {len cap : Nat} {bs : List Int} (ho : Oct bs) {W : World} (hR : Rd K W .u8 a len cap bs) {x : Int} (hx : x ≠ 0) (h : (deS bs).2.2 = x) :
    Calls Try.prog 27 #[.slice a len cap] W fun e W' => e = .returned (.agg #[.slice none 0 0, .slice none 0 0, .int .i64 x]) ∧ Below W.heap.size W W' := by
  have H := Lib.hid hR
  have HS := Lib.hid h
  have HX := Lib.hid hx
  clear hR h hx
  go_enter Try.func27, Try.ntmps27
  go_wp2_with fail
  refine (de_err ho (H.out.below ((Below.refl _ _).alloc (Nat.le_refl _) _)) HX.out HS.out).mono ?_
  rintro e w1 ⟨rfl, hb⟩
  have hq := (Tri.new W 46 (.slice none 0 0) (.slice none 0 0) (.int .i64 0)).below hb (by simp)
  obtain ⟨q0, q1, q2⟩ := hq.cell
  have f0 := hq.f 0
  have f1 := hq.f 1
  have f2 := hq.f 2
  have qlt := hq.lt
  have HB : Hid (Below W.heap.size W w1) := ((Below.refl _ _).alloc (Nat.le_refl _) _).trans (hb.mono (by simp))
  clear hb hq
  go_wp2
  exact bodyPost_ret (v := .agg #[.slice none 0 0, .slice none 0 0, .int .i64 x]) (by simp [results, Try.results27, go_sem, q0, q1, q2]) rfl ⟨rfl, ((HB.out.setCell (Nat.le_refl _) _).setCell (Nat.le_refl _) _).setCell (Nat.le_refl _) _⟩

set_option maxHeartbeats 1000000 in
theorem samePair_true {K1 K2 K3 K4 : Nat → Prop} {a1 a2 a3 a4 : Option Addr} {n1 c1 n2 c2 n3 c3 n4 c4 : Nat} {xs ys : List Int} {W : World} (h1 : Rd K1 W .i64 a1 n1 c1 xs) (h2 : Rd K2 W .i64 a2 n2 c2 ys) (h3 : Rd K3 W .i64 a3 n3 c3 xs) (h4 : Rd K4 W .i64 a4 n4 c4 ys) :
    Calls Try.prog 15 #[.agg #[.slice a1 n1 c1, .slice a2 n2 c2], .agg #[.slice a3 n3 c3, .slice a4 n4 c4]] W fun e W' => e = .returned (.bool true) ∧ Below W.heap.size W W' := by
  have hbA : Below W.heap.size W ((W.alloc (.cells #[.slice a1 n1 c1, .slice a2 n2 c2] 24)).alloc (.cells #[.slice a3 n3 c3, .slice a4 n4 c4] 24)) := ((Below.refl _ _).alloc (Nat.le_refl _) _).alloc (by simp) _
  have HI1 := Lib.hid (ints_any (h1.below hbA) (h3.below hbA))
  have HI2 : Hid (∀ V, Below ((W.alloc (.cells #[.slice a1 n1 c1, .slice a2 n2 c2] 24)).alloc (.cells #[.slice a3 n3 c3, .slice a4 n4 c4] 24)).heap.size ((W.alloc (.cells #[.slice a1 n1 c1, .slice a2 n2 c2] 24)).alloc (.cells #[.slice a3 n3 c3, .slice a4 n4 c4] 24)) V → Calls Try.prog 18 #[.slice a2 n2 c2, .slice a4 n4 c4] V fun e w' => e = .returned (.bool true) ∧ Below V.heap.size V w') := fun V hV => by
    have := ints_any ((h2.below hbA).below hV) ((h4.below hbA).below hV)
    rwa [sameB_true rfl] at this
  rw [sameB_true rfl] at HI1
  have P1 := (Pair.new W 24 (.slice a1 n1 c1) (.slice a2 n2 c2)).alloc (.cells #[.slice a3 n3 c3, .slice a4 n4 c4] 24)
  have P2 := Pair.new (W.alloc (.cells #[.slice a1 n1 c1, .slice a2 n2 c2] 24)) 24 (.slice a3 n3 c3) (.slice a4 n4 c4)
  simp only [World.size_alloc] at P2
  have HP1 := Lib.hid P1
  have HP2 := Lib.hid P2
  have HBA := Lib.hid hbA
  clear h1 h2 h3 h4 hbA P1 P2
  go_enter Try.func15, Try.ntmps15
  go_wp2_with fail
  refine HI1.out.mono ?_
  rintro e w1 ⟨rfl, hb1⟩
  have p1 := (HP1.out.below hb1 HP1.out.lt).c1
  have p2 := (HP2.out.below hb1 HP2.out.lt).c1
  have HB1 := Lib.hid hb1
  clear hb1
  go_wp2_with fail
  refine (HI2.out _ HB1.out).mono ?_
  rintro e w2 ⟨rfl, hb2⟩
  have HB2 := Lib.hid hb2
  clear hb2
  go_wp2
  go_ret
  have h := HB1.out.trans (HB2.out.mono HB1.out.size)
  exact ⟨rfl, HBA.out.trans (h.mono HBA.out.size)⟩

end Go.Proofs.Ytmbcppkdnoccbaa

namespace Go.Proofs.Ytmbcppkdnoccbaa
open Go.RowKit Go.ChangeShapes Go.WideShapes Go.ChangeAt

theorem rd_err4 : ∀ (bs : List Int) (i : Nat) (a : Int), (rdF i a bs).2.2 = 0 ∨ (rdF i a bs).2.2 = 5 ∨ (rdF i a bs).2.2 = 7
  | [], i, a => by unfold rdF; split <;> simp
  | x :: r, i, a => by
    unfold rdF
    split
    · simp
    · split
      · exact rd_err4 r _ _
      · split <;> simp
theorem fr_err4 (bs : List Int) : (frS bs).2.2 = 0 ∨ (frS bs).2.2 = 5 ∨ (frS bs).2.2 = 7 := by
  unfold frS
  split
  · exact rd_err4 bs 0 0
  · split
    · simp
    · split <;> simp
theorem up_err4 (b : Int) (wd n : Nat) (bs : List Int) : (upS b wd n bs).2.2 = 0 ∨ (upS b wd n bs).2.2 = 5 ∨ (upS b wd n bs).2.2 = 7 := by
  unfold upS
  split
  · simp
  · split <;> simp
theorem un_err4 (bs : List Int) : (unS bs).2.2 = 0 ∨ (unS bs).2.2 = 5 ∨ (unS bs).2.2 = 7 := by
  unfold unS
  split
  · exact rd_err4 bs 0 0
  · split
    · simp
    · split
      · simp
      · split
        · exact fr_err4 _
        · split
          · exact up_err4 _ _ _ _
          · simp
theorem ur_err4 (bs : List Int) : (urS bs).2.2 = 0 ∨ (urS bs).2.2 = 5 ∨ (urS bs).2.2 = 7 := by
  unfold urS
  split
  · exact un_err4 bs
  · split
    · exact un_err4 _
    · split <;> simp
theorem upk_err4 (k : Nat) (bs : List Int) : (upkS k bs).2.2 = 0 ∨ (upkS k bs).2.2 = 5 ∨ (upkS k bs).2.2 = 7 := by
  unfold upkS
  split
  · exact un_err4 bs
  · exact ur_err4 bs
  · exact un_err4 bs
  · exact ur_err4 bs
theorem de_err4 (bs : List Int) : (deS bs).2.2 = 0 ∨ (deS bs).2.2 = 5 ∨ (deS bs).2.2 = 7 := by
  unfold deS
  split
  · simp
  · split
    · simp
    · split
      · exact upk_err4 _ _
      · split <;> simp

/-- A row of the call's own, and a slice that came in, appended to it. -/
theorem run_append_reads {P : Program} (w : World) (base : Nat) (t ty e : TypeId) (i : TypeInfo) (z : Value) (bytes : Nat) (k : IntKind) (ht : P.underlying t = some (.slice e)) (hi : P.info? e = some i) (hz : i.zero = some z)
    (hsize : i.size = 1) (hby : i.bytes = bytes) (hzs : z.cells.size = 1) (g0 n cap0 : Nat) (xs : List Value) (hown : w.ownsRow base e 1 (.slice (some ⟨g0, 0, none⟩) n cap0) n xs)
    {K : Nat → Prop} (sv : Value) (zs : List Int) (len : Nat) (hlen : Hid (len = zs.length)) (hR : ReadsK K w k sv zs) (h63 : n + len ≤ maxLen) (hbytes : (n + len) * bytes ≤ 140737488355328) (hbase : base ≤ w.heap.size) :
    ∃ g cap w', (Builtin.append_ #[t, t] ty #[.slice (some ⟨g0, 0, none⟩) n cap0, sv]).run P w = .ok (.slice (some ⟨g, 0, none⟩) (n + len) cap) w' ∧
      w'.ownsRow base e 1 (.slice (some ⟨g, 0, none⟩) (n + len) cap) (n + len) (xs ++ zs.map (Value.int k)) ∧ w.grownBy w' (some g0) ∧ n + len ≤ cap ∧ base ≤ g := by
  obtain rfl : len = zs.length := hlen
  rcases hR with ⟨a, c, rfl, rfl⟩ | ⟨b, off, c, rfl, _, _, hc⟩
  · obtain ⟨g, cap, e1, hn, hb⟩ := row_form hown (by simp)
    obtain ⟨rfl, rfl⟩ : g0 = g ∧ cap0 = cap := by cases e1; exact ⟨rfl, rfl⟩
    exact ⟨g0, cap0, w, run_append_empty w t ty e i ht hi _ n cap0 hn a c, by simpa using hown, ⟨rfl, rfl, rfl, Nat.le_refl _, fun _ _ _ => rfl⟩, hn, hb⟩
  · obtain ⟨v', w', hr, h1, h2, h3⟩ := run_append_own (P := P) w base t ty e i z 1 bytes ht hi hz hsize hby hzs (by decide) _ n xs hown ⟨b, off, none⟩ zs.length c (zs.map (Value.int k)) (by simp)
      (reads_cells hc)
      (fun u hu => by obtain ⟨x, _, rfl⟩ := List.mem_map.1 hu; rfl) (by omega) hbytes hbase
    have hne : ¬ v' = .slice none 0 0 := fun e => by have := (h3.1 e).1; cases this
    obtain ⟨g, cap, rfl, hn, hb⟩ := row_form h1 hne
    exact ⟨g, cap, w', hr, h1, h2, hn, hb⟩

end Go.Proofs.Ytmbcppkdnoccbaa

namespace Go.Proofs.Ytmbcppkdnoccbaa
open Go.RowKit Go.Shelf Go.ChangeShapes Go.WideShapes Go.ChangeAt

def PkV (w : World) (p : List Int) (n : Nat) (v : Value) (w' : World) : Prop := ∃ g c, v = .agg #[.slice (some ⟨g, 0, none⟩) n c, .int .i64 0] ∧ Rd (fun b => w.heap.size ≤ b) w' .u8 (some ⟨g, 0, none⟩) n c p ∧ Below w.heap.size w w'
theorem packV {K : Nat → Prop} {a : Option Addr} {len cap : Nat} {zs : List Int} (hz : Smalls zs) (hl : len ≤ 4096) {W : World} (hR : Rd K W .i64 a len cap zs) {s : Nat} (hs : (packS zs).length = s) :
    Calls Try.prog 70 #[.slice a len cap] W fun e w' => ∃ v, e = .returned v ∧ PkV W (packS zs) s v w' :=
  (packR_any hz hl hR).mono fun e w' ⟨g, c, he, hr, hb⟩ => by
    rw [hs] at he hr
    exact ⟨_, he, g, c, rfl, hr, hb⟩

theorem fieldR (v e : Value) (W : World) : (Instr.field 105 (.agg #[v, e]) 0).run Try.prog W = .ok v W := by kernel_rfl

/-- What a form comes to. -/
def FormRPost (W : World) (zs : List Int) (e : Ending) (W' : World) : Prop :=
  ∃ g n c : Nat, e = .returned (.slice (some ⟨g, 0, none⟩) n c) ∧ Rd (fun b => W.heap.size ≤ b) W' .u8 (some ⟨g, 0, none⟩) n c zs ∧ Below W.heap.size W W'

set_option maxRecDepth 100000 in
set_option maxHeartbeats 2000000 in
theorem formR0 {K : Nat → Prop} {a : Option Addr} {len cap : Nat} {zs : List Int} (hz : Smalls zs) (hl : len ≤ 4096) {W : World} (hR : Rd K W .i64 a len cap zs) :
    Calls Try.prog 48 #[.int .i64 0, .slice a len cap] W (FormRPost W (packS zs)) := by
  obtain ⟨s, hs⟩ : ∃ s, (packS zs).length = s := ⟨_, rfl⟩
  have HS := Lib.hid (packV hz hl hR hs)
  clear hR hs
  go_enter Try.func48, Try.ntmps48
  go_wp2_with fail
  refine HS.out.mono ?_
  rintro e w1 ⟨_, rfl, g, c, rfl, hr, hb⟩
  have HR := Lib.hid hr
  have HB := Lib.hid hb
  have hfld := fieldR (.slice (some ⟨g, 0, none⟩) s c) (.int .i64 0) w1
  clear hb hr HS
  go_wp2
  go_ret
  exact ⟨g, s, c, rfl, HR.out, HB.out⟩

set_option maxRecDepth 100000 in
set_option maxHeartbeats 8000000 in
theorem formR1 {K : Nat → Prop} {a : Option Addr} {len cap : Nat} {zs : List Int} (hz : Smalls zs) (hl : len ≤ 4096) {W : World} (hR : Rd K W .i64 a len cap zs) :
    Calls Try.prog 48 #[.int .i64 1, .slice a len cap] W (FormRPost W (packS (vals zs) ++ packS (lens zs))) := by
  obtain ⟨i0, hi, hz0, hz1, hz2⟩ := info_parts Try.infoB
  have hlz : zs.length = len := hR.hl.symm
  have hrl := rl_le zs
  have hsv := vals_smalls hz
  have hsn := lens_smalls (zs := zs) (by omega)
  have hpv := pack_len (vals zs) hsv (by rw [vals_length]; omega)
  have hpn := pack_len (lens zs) hsn (by rw [lens_length]; omega)
  have HRU := Lib.hid (runsR_any (by omega) hR)
  clear hR
  go_enter Try.func48, Try.ntmps48
  go_wp2_with fail
  refine HRU.out.mono ?_
  rintro e w1 ⟨b1, n, d1, b2, d2, rfl, hr1, hr2, hb⟩
  have hn1 : n ≤ 4096 := by have := hr1.hl; rw [vals_length] at this; omega
  have hp0 := Pair.new w1 24 (.slice b1 n d1) (.slice b2 n d2)
  have hbV : Below w1.heap.size w1 (w1.alloc (.cells #[.slice b1 n d1, .slice b2 n d2] 24)) := (Below.refl _ _).alloc (Nat.le_refl _) _
  have HBV : Hid (Below W.heap.size W (w1.alloc (.cells #[.slice b1 n d1, .slice b2 n d2] 24))) := hb.trans (hbV.mono hb.size)
  have HV1 := Lib.hid (hr1.below hbV)
  have HV2 := Lib.hid (hr2.below hbV)
  obtain ⟨B, hB⟩ : ∃ B, w1.heap.size = B := ⟨_, rfl⟩
  rw [hB] at hp0
  go_wp2_with fail
  clear hB
  generalize w1.alloc (.cells #[.slice b1 n d1, .slice b2 n d2] 24) = V at *
  have k0 := hp0.c0
  have k1 := hp0.c1
  have kl := hp0.lt
  obtain ⟨s1, hs1⟩ : ∃ n, (packS (vals zs)).length = n := ⟨_, rfl⟩
  obtain ⟨s2, hs2⟩ : ∃ n, (packS (lens zs)).length = n := ⟨_, rfl⟩
  rw [hs1] at hpv
  rw [hs2] at hpn
  have HS1 := Lib.hid hs1
  have HS2 := Lib.hid hs2
  have hfld := fieldR
  clear hs1 hs2 hb hr1 hr2 hbV hp0 HRU w1
  go_region_law (first
    | (refine step_call_some (by go_simp) 70 #[.tmp 22] #[22] (by rfl) #[.slice b1 n d1] (by go_simp) (enters_of Try.func70 (by kernel_rfl) rfl _ _) _ (packV hsv hn1 (HV1.out.below (below_drew (Below.refl _ V))) HS1.out) ?_
       rintro _ w1 ⟨g1, c1, rfl, hr1, hb1⟩
       have HP1 := Lib.hid hr1
       have HK1 : Hid (Below V.heap.size V w1) := (below_drew (Below.refl _ V)).trans hb1
       have kb1 := (HK1.out.cell (p := ⟨B, 1, none⟩) kl).trans k1
       have kbl := Nat.lt_of_lt_of_le kl HK1.out.size
       clear hr1 hb1)
    | (refine step_call_some (by go_simp) 70 #[.tmp 22] #[22] (by rfl) #[.slice b1 n d1] (by go_simp) (enters_of Try.func70 (by kernel_rfl) rfl _ _) _ (packV hsv hn1 ((HV1.out.below (below_drew (Below.refl _ V))).below ((Below.refl _ V.drew).alloc (Nat.le_refl _) (.cells #[] 5))) HS1.out) ?_
       rintro _ w1 ⟨g1, c1, rfl, hr1, hb1⟩
       have HP1 := Lib.hid hr1
       have HK1 : Hid (Below V.heap.size V w1) := ((below_drew (Below.refl _ V)).trans ((Below.refl _ V.drew).alloc (Nat.le_refl _) (.cells #[] 5))).trans (hb1.mono ((Below.refl _ V.drew).alloc (Nat.le_refl _) (.cells #[] 5)).size)
       have HG1 : Hid (w1.ownsRow V.heap.size 5 1 (.slice (some ⟨V.heap.size, 0, none⟩) 0 0) 0 []) := (Kept.of_below hb1).row (own_nilr V.drew 5 V.heap.size (Nat.le_refl _)) (row_lt (own_nilr V.drew 5 V.heap.size (Nat.le_refl _)))
       have kb1 := (HK1.out.cell (p := ⟨B, 1, none⟩) kl).trans k1
       have kbl := Nat.lt_of_lt_of_le kl HK1.out.size
       clear hr1 hb1)
    | (refine step_call_some (by go_simp) 70 #[.tmp 27] #[22] (by rfl) #[.slice b2 n d2] (by go_simp) (enters_of Try.func70 (by kernel_rfl) rfl _ _) _ (packV hsn hn1 (HV2.out.below HKA.out) HS2.out) ?_
       rintro _ w2 ⟨g2, c2, rfl, hr2, hb2⟩
       have HP2 := Lib.hid hr2
       have HK2 : Hid (Below V.heap.size V w2) := HKA.out.trans (hb2.mono HKA.out.size)
       have HRA2 := Lib.hid ((Kept.of_below hb2).row HRA.out (row_lt HRA.out))
       clear hr2 hb2)
    | (refine step_call_some (by go_simp) 70 #[.tmp 27] #[22] (by rfl) #[.slice b2 n d2] (by go_simp) (enters_of Try.func70 (by kernel_rfl) rfl _ _) _ (packV hsn hn1 (HV2.out.below HK1.out) HS2.out) ?_
       rintro _ w2 ⟨g2, c2, rfl, hr2, hb2⟩
       have HG2 := Lib.hid ((Kept.of_below hb2).row HG1.out (row_lt HG1.out))
       have HP2 : Hid (Rd (fun b => b ≠ V.heap.size) w2 .u8 (some ⟨g2, 0, none⟩) s2 c2 (packS (lens zs))) := hr2.mono fun b _ h => by have := row_lt HG1.out; omega
       have HK2 : Hid (Below V.heap.size V w2) := HK1.out.trans (hb2.mono HK1.out.size)
       have HQ1 := Lib.hid (HP1.out.below hb2)
       clear hr2 hb2)
    | (refine step_call_some (by go_simp) 70 #[.tmp 27] #[22] (by rfl) #[.slice b2 n d2] (by go_simp) (enters_of Try.func70 (by kernel_rfl) rfl _ _) _ (packV hsn hn1 (HV2.out.below HK1.out) HS2.out) ?_
       rintro _ w2 ⟨g2, c2, rfl, hr2, hb2⟩
       have HP2 : Hid (Rd (fun b => b ≠ w2.heap.size) w2 .u8 (some ⟨g2, 0, none⟩) s2 c2 (packS (lens zs))) := hr2.mono fun b h _ => by omega
       have HK2 : Hid (Below V.heap.size V w2) := HK1.out.trans (hb2.mono HK1.out.size)
       have HQ1 := Lib.hid (HP1.out.below hb2)
       clear hr2 hb2)
    | (refine step_call_some (by go_simp) 70 #[.tmp 27] #[22] (by rfl) #[.slice b2 n d2] (by go_simp) (enters_of Try.func70 (by kernel_rfl) rfl _ _) _ (packV hsn hn1 ((HV2.out.below HK1.out).below ((Below.refl _ w1).alloc (Nat.le_refl _) (.cells #[] 5))) HS2.out) ?_
       rintro _ w2 ⟨g2, c2, rfl, hr2, hb2⟩
       have HP2 : Hid (Rd (fun b => b ≠ w1.heap.size) w2 .u8 (some ⟨g2, 0, none⟩) s2 c2 (packS (lens zs))) := hr2.mono fun b _ h => by simp at h; omega
       have HK2 : Hid (Below V.heap.size V w2) := (HK1.out.alloc HK1.out.size _).trans (hb2.mono (HK1.out.alloc HK1.out.size (.cells #[] 5)).size)
       have HQ1 := Lib.hid ((HP1.out.below ((Below.refl _ w1).alloc (Nat.le_refl _) (.cells #[] 5))).below hb2)
       have HG2 := Lib.hid ((Kept.of_below hb2).row (own_nilr w1 5 V.heap.size HK1.out.size) (row_lt (own_nilr w1 5 V.heap.size HK1.out.size)))
       clear hr2 hb2)
    | (obtain ⟨gA, cA, wA, hrA, hrowA, hgA, hcA, hgbA⟩ := run_append_reads (P := Try.prog) w2 V.heap.size 25 25 5 i0 _ 1 .u8 Try.underlying25 hi hz0 hz1 hz2 rfl V.heap.size 0 0 [] HG2.out (.slice (some ⟨g1, 0, none⟩) s1 c1) (packS (vals zs)) s1 (Lib.hid HS1.out.symm) HQ1.out.reads (by unfold maxLen; omega) (by omega) (HK2.out).size
       rw [Nat.zero_add] at hrA hrowA hcA
       rw [List.nil_append] at hrowA
       refine step_append_want (by go_simp) (.tmp 20) (.tmp 24) 25 25 (by rfl) (.slice (some ⟨V.heap.size, 0, none⟩) 0 0) (.slice (some ⟨g1, 0, none⟩) s1 c1) (by go_simp) (by go_simp) _ _ hrA ?_
       have HRA := Lib.hid hrowA
       have HKA : Hid (Below V.heap.size V wA) := (HK2.out).grown hgA (HK2.out).size (fun k e => by cases e; exact row_base HG2.out)
       have HPA2 := Lib.hid (HP2.out.kept (Kept.of_grownBy hgA (fun r e h => by cases e; exact h rfl)))
       have kbA := (HKA.out.cell (p := ⟨B, 1, none⟩) kl).trans k1
       have kbAl := Nat.lt_of_lt_of_le kl HKA.out.size
       clear hrA hrowA hgA hcA hgbA)
    | (obtain ⟨gA, cA, wA, hrA, hrowA, hgA, hcA, hgbA⟩ := run_append_reads (P := Try.prog) w2 V.heap.size 25 25 5 i0 _ 1 .u8 Try.underlying25 hi hz0 hz1 hz2 rfl w1.heap.size 0 0 [] HG2.out (.slice (some ⟨g1, 0, none⟩) s1 c1) (packS (vals zs)) s1 (Lib.hid HS1.out.symm) HQ1.out.reads (by unfold maxLen; omega) (by omega) (HK2.out).size
       rw [Nat.zero_add] at hrA hrowA hcA
       rw [List.nil_append] at hrowA
       refine step_append_want (by go_simp) (.tmp 20) (.tmp 24) 25 25 (by rfl) (.slice (some ⟨w1.heap.size, 0, none⟩) 0 0) (.slice (some ⟨g1, 0, none⟩) s1 c1) (by go_simp) (by go_simp) _ _ hrA ?_
       have HRA := Lib.hid hrowA
       have HKA : Hid (Below V.heap.size V wA) := (HK2.out).grown hgA (HK2.out).size (fun k e => by cases e; exact row_base HG2.out)
       have HPA2 := Lib.hid (HP2.out.kept (Kept.of_grownBy hgA (fun r e h => by cases e; exact h rfl)))
       have kbA := (HKA.out.cell (p := ⟨B, 1, none⟩) kl).trans k1
       have kbAl := Nat.lt_of_lt_of_le kl HKA.out.size
       clear hrA hrowA hgA hcA hgbA)
    | (obtain ⟨gA, cA, wA, hrA, hrowA, hgA, hcA, hgbA⟩ := run_append_reads (P := Try.prog) (w2.alloc (.cells #[] 5)) V.heap.size 25 25 5 i0 _ 1 .u8 Try.underlying25 hi hz0 hz1 hz2 rfl w2.heap.size 0 0 [] (own_nilr w2 5 V.heap.size HK2.out.size) (.slice (some ⟨g1, 0, none⟩) s1 c1) (packS (vals zs)) s1 (Lib.hid HS1.out.symm) (HQ1.out.below ((Below.refl _ w2).alloc (Nat.le_refl _) (.cells #[] 5))).reads (by unfold maxLen; omega) (by omega) (HK2.out.alloc HK2.out.size (.cells #[] 5)).size
       rw [Nat.zero_add] at hrA hrowA hcA
       rw [List.nil_append] at hrowA
       refine step_append_want (by go_simp) (.tmp 20) (.tmp 24) 25 25 (by rfl) (.slice (some ⟨w2.heap.size, 0, none⟩) 0 0) (.slice (some ⟨g1, 0, none⟩) s1 c1) (by go_simp) (by go_simp) _ _ hrA ?_
       have HRA := Lib.hid hrowA
       have HKA : Hid (Below V.heap.size V wA) := (HK2.out.alloc HK2.out.size (.cells #[] 5)).grown hgA (HK2.out.alloc HK2.out.size (.cells #[] 5)).size (fun k e => by cases e; exact row_base (own_nilr w2 5 V.heap.size HK2.out.size))
       have HPA2 := Lib.hid ((HP2.out.below ((Below.refl _ w2).alloc (Nat.le_refl _) (.cells #[] 5))).kept (Kept.of_grownBy hgA (fun r e h => by cases e; exact h rfl)))
       have kbA := (HKA.out.cell (p := ⟨B, 1, none⟩) kl).trans k1
       have kbAl := Nat.lt_of_lt_of_le kl HKA.out.size
       clear hrA hrowA hgA hcA hgbA)
    | (obtain ⟨gA, cA, wA, hrA, hrowA, hgA, hcA, hgbA⟩ := run_append_reads (P := Try.prog) w1 V.heap.size 25 25 5 i0 _ 1 .u8 Try.underlying25 hi hz0 hz1 hz2 rfl V.heap.size 0 0 [] HG1.out (.slice (some ⟨g1, 0, none⟩) s1 c1) (packS (vals zs)) s1 (Lib.hid HS1.out.symm) HP1.out.reads (by unfold maxLen; omega) (by omega) (HK1.out).size
       rw [Nat.zero_add] at hrA hrowA hcA
       rw [List.nil_append] at hrowA
       refine step_append_want (by go_simp) (.tmp 20) (.tmp 24) 25 25 (by rfl) (.slice (some ⟨V.heap.size, 0, none⟩) 0 0) (.slice (some ⟨g1, 0, none⟩) s1 c1) (by go_simp) (by go_simp) _ _ hrA ?_
       have HRA := Lib.hid hrowA
       have HKA : Hid (Below V.heap.size V wA) := (HK1.out).grown hgA (HK1.out).size (fun k e => by cases e; exact row_base HG1.out)
       have kbA := (HKA.out.cell (p := ⟨B, 1, none⟩) kl).trans k1
       have kbAl := Nat.lt_of_lt_of_le kl HKA.out.size
       clear hrA hrowA hgA hcA hgbA)
    | (obtain ⟨gA, cA, wA, hrA, hrowA, hgA, hcA, hgbA⟩ := run_append_reads (P := Try.prog) (w1.alloc (.cells #[] 5)) V.heap.size 25 25 5 i0 _ 1 .u8 Try.underlying25 hi hz0 hz1 hz2 rfl w1.heap.size 0 0 [] (own_nilr w1 5 V.heap.size HK1.out.size) (.slice (some ⟨g1, 0, none⟩) s1 c1) (packS (vals zs)) s1 (Lib.hid HS1.out.symm) (HP1.out.below ((Below.refl _ w1).alloc (Nat.le_refl _) (.cells #[] 5))).reads (by unfold maxLen; omega) (by omega) (HK1.out.alloc HK1.out.size (.cells #[] 5)).size
       rw [Nat.zero_add] at hrA hrowA hcA
       rw [List.nil_append] at hrowA
       refine step_append_want (by go_simp) (.tmp 20) (.tmp 24) 25 25 (by rfl) (.slice (some ⟨w1.heap.size, 0, none⟩) 0 0) (.slice (some ⟨g1, 0, none⟩) s1 c1) (by go_simp) (by go_simp) _ _ hrA ?_
       have HRA := Lib.hid hrowA
       have HKA : Hid (Below V.heap.size V wA) := (HK1.out.alloc HK1.out.size (.cells #[] 5)).grown hgA (HK1.out.alloc HK1.out.size (.cells #[] 5)).size (fun k e => by cases e; exact row_base (own_nilr w1 5 V.heap.size HK1.out.size))
       have kbA := (HKA.out.cell (p := ⟨B, 1, none⟩) kl).trans k1
       have kbAl := Nat.lt_of_lt_of_le kl HKA.out.size
       clear hrA hrowA hgA hcA hgbA)
    | (obtain ⟨gB, cB, wB, hrB, hrowB, hgB, hcB, hgbB⟩ := run_append_reads (P := Try.prog) w2 V.heap.size 25 25 5 i0 _ 1 .u8 Try.underlying25 hi hz0 hz1 hz2 rfl gA s1 cA _ HRA2.out (.slice (some ⟨g2, 0, none⟩) s2 c2) (packS (lens zs)) s2 (Lib.hid HS2.out.symm) HP2.out.reads (by unfold maxLen; omega) (by omega) HK2.out.size
       refine step_append_want (by go_simp) (.tmp 25) (.tmp 29) 25 25 (by rfl) (.slice (some ⟨gA, 0, none⟩) s1 cA) (.slice (some ⟨g2, 0, none⟩) s2 c2) (by go_simp) (by go_simp) _ _ hrB ?_
       have HFIN : Hid (Rd (fun b => V.heap.size ≤ b) wB .u8 (some ⟨gB, 0, none⟩) (s1 + s2) cB (packS (vals zs) ++ packS (lens zs))) := Rd.of_row (by rw [List.length_append, HS1.out, HS2.out]) hcB (by omega) (by rw [List.map_append]; exact hrowB)
       have HKB : Hid (Below V.heap.size V wB) := HK2.out.grown hgB HK2.out.size (fun k e => by cases e; exact row_base HRA2.out)
       clear hrB hrowB hgB hcB hgbB)
    | (obtain ⟨gB, cB, wB, hrB, hrowB, hgB, hcB, hgbB⟩ := run_append_reads (P := Try.prog) wA V.heap.size 25 25 5 i0 _ 1 .u8 Try.underlying25 hi hz0 hz1 hz2 rfl gA s1 cA _ HRA.out (.slice (some ⟨g2, 0, none⟩) s2 c2) (packS (lens zs)) s2 (Lib.hid HS2.out.symm) HPA2.out.reads (by unfold maxLen; omega) (by omega) HKA.out.size
       refine step_append_want (by go_simp) (.tmp 25) (.tmp 29) 25 25 (by rfl) (.slice (some ⟨gA, 0, none⟩) s1 cA) (.slice (some ⟨g2, 0, none⟩) s2 c2) (by go_simp) (by go_simp) _ _ hrB ?_
       have HFIN : Hid (Rd (fun b => V.heap.size ≤ b) wB .u8 (some ⟨gB, 0, none⟩) (s1 + s2) cB (packS (vals zs) ++ packS (lens zs))) := Rd.of_row (by rw [List.length_append, HS1.out, HS2.out]) hcB (by omega) (by rw [List.map_append]; exact hrowB)
       have HKB : Hid (Below V.heap.size V wB) := HKA.out.grown hgB HKA.out.size (fun k e => by cases e; exact row_base HRA.out)
       clear hrB hrowB hgB hcB hgbB)
    | (trace_state; fail "STOP"))
  all_goals
    (try simp [Act.put])
    go_wp2
    go_ret
    exact ⟨gB, _, cB, rfl, HFIN.out.mono fun i _ h => Nat.le_trans HBV.out.size h, HBV.out.trans (HKB.out.mono HBV.out.size)⟩

end Go.Proofs.Ytmbcppkdnoccbaa

namespace Go.Proofs.Ytmbcppkdnoccbaa
open Go.RowKit Go.Shelf Go.ChangeShapes Go.WideShapes Go.ChangeAt

theorem formR_low (k : Nat) (hk : k < 2) {K : Nat → Prop} {a : Option Addr} {len cap : Nat} {zs : List Int} (hz : Smalls zs) (hl : len ≤ 4096) {W : World} (hR : Rd K W .i64 a len cap zs) :
    Calls Try.prog 48 #[.int .i64 (k : Nat), .slice a len cap] W (FormRPost W (formS k zs)) := by
  match k, hk with
  | 0, _ =>
    rw [show formS 0 zs = packS zs by unfold formS partsS; simp]
    exact formR0 hz hl hR
  | 1, _ =>
    rw [show formS 1 zs = packS (vals zs) ++ packS (lens zs) by unfold formS partsS; simp]
    exact formR1 hz hl hR
theorem formS_up (k : Nat) (hk : k < 2) (zs : List Int) : formS (k + 2) zs = formS k (dfS zs) := by
  match k, hk with
  | 0, _ => rfl
  | 1, _ => rfl

set_option maxRecDepth 100000 in
set_option maxHeartbeats 2000000 in
theorem formRk_any (k : Nat) (hk : k < 4) {K : Nat → Prop} {a : Option Addr} {len cap : Nat} {zs : List Int} (hz : Smalls zs) (hl : len ≤ 4096) {W : World} (hR : Rd K W .i64 a len cap zs) :
    Calls Try.prog 48 #[.int .i64 (k : Nat), .slice a len cap] W (FormRPost W (formS k zs)) := by
  by_cases h2 : k < 2
  · exact formR_low k h2 hz hl hR
  · obtain ⟨j, rfl⟩ : ∃ j, k = j + 2 := ⟨k - 2, by omega⟩
    have hj : j < 2 := by omega
    rw [formS_up j hj]
    have HDL := Lib.hid (df_length zs)
    have HD := Lib.hid (diffR_any (by omega) hR)
    have HL := Lib.hid hR.hl
    have HZ : Hid (Smalls (dfS zs)) := df_smalls hz
    have hw : IntKind.i64.wrap (((j + 2 : Nat) : Int) - 2) = (j : Int) := by rw [IntKind.wrap_i64]; omega
    obtain ⟨k, hkk⟩ : ∃ k, j + 2 = k := ⟨_, rfl⟩
    have hk2 : (2 : Int) ≤ (k : Int) := by omega
    have hk3 : 2 ≤ k := by omega
    rw [hkk] at hw ⊢
    clear hR hkk h2
    go_enter Try.func48, Try.ntmps48
    go_wp2_with fail
    refine HD.out.mono ?_
    rintro e w1 ⟨b1, n, d1, rfl, hr1, hb⟩
    have hn : n ≤ 4096 := by have h1 := hr1.hl; have h2 := HDL.out; have h3 := HL.out; omega
    have HB := Lib.hid hb
    have HC := Lib.hid (formR_low j hj HZ.out hn hr1)
    clear hb hr1
    go_wp2_with fail
    refine HC.out.mono ?_
    rintro e w2 ⟨g, m, c, rfl, hr, hb⟩
    have HB2 : Hid (Below W.heap.size W w2) := HB.out.trans (hb.mono HB.out.size)
    have HR := Lib.hid (hr.mono (K' := fun b => W.heap.size ≤ b) fun i _ h => Nat.le_trans HB.out.size h)
    clear hb hr HC HD
    go_wp2
    go_ret
    exact ⟨g, m, c, rfl, HR.out, HB2.out⟩

theorem own_oner (W : World) (t : TypeId) (base : Nat) (hb : base ≤ W.heap.size) (x : Value) : (W.alloc (.cells #[x] t)).ownsRow base t 1 (.slice (some ⟨W.heap.size, 0, none⟩) 1 1) 1 [x] :=
  ⟨rfl, .inr ⟨W.heap.size, 1, #[x], rfl, hb, World.alloc_heap_new W _, Nat.le_refl _, by unfold maxLen; omega, rfl, rfl⟩⟩

set_option maxRecDepth 100000 in
set_option maxHeartbeats 2000000 in
theorem encodeR_any {K : Nat → Prop} {a : Option Addr} {len cap : Nat} {zs : List Int} (hz : Smalls zs) (hl : len ≤ 4096) {W : World} (hR : Rd K W .i64 a len cap zs) :
    Calls Try.prog 12 #[.slice a len cap] W (EncodedPost W (enS zs)) := by
  obtain ⟨i0, hi, hz0, hz1, hz2⟩ := info_parts Try.infoB
  have HEN : Hid (enS zs = ((kindS zs : Nat) : Int) :: formS (kindS zs) zs) := rfl
  have hel := (en_len hz (by rw [← hR.hl]; exact hl)).2
  rw [HEN.out, List.length_cons] at hel
  have hk := kind_lt zs
  have H := Lib.hid hR
  have HKI := Lib.hid (kindR_any hz hl (hR.below ((Below.refl _ _).alloc (Nat.le_refl _) (.cells #[.slice none 0 0, .int .i64 0] 33))))
  have HFO : Hid (∀ V : World, Rd K V .i64 a len cap zs → Calls Try.prog 48 #[.int .i64 (kindS zs : Nat), .slice a len cap] V (FormRPost V (formS (kindS zs) zs))) := fun V h => formRk_any _ hk hz hl h
  have hb0 : Below W.heap.size W (W.alloc (.cells #[.slice none 0 0, .int .i64 0] 33)) := (Below.refl _ _).alloc (Nat.le_refl _) _
  have hP0 := Pair.new W 33 (.slice none 0 0) (.int .i64 0)
  have HB0 := Lib.hid hb0
  have HP0 := Lib.hid hP0
  clear hR hb0 hP0
  generalize kindS zs = kd at *
  go_enter Try.func12, Try.ntmps12
  go_wp2_with fail
  refine HKI.out.mono ?_
  rintro e w1 ⟨rfl, hb1⟩
  have HB1 : Hid (Below W.heap.size W w1) := HB0.out.trans (hb1.mono HB0.out.size)
  have HP1 := Lib.hid (HP0.out.below hb1 HP0.out.lt)
  have hs1 : W.heap.size + 1 ≤ w1.heap.size := by have := hb1.size; simpa using this
  have hku : IntKind.u8.wrap (kd : Int) = kd := by rw [IntKind.wrap_u8]; omega
  clear hb1 HKI
  have hb2 : Below w1.heap.size w1 (w1.alloc (.cells #[.int .u8 kd] 5)) := (Below.refl _ _).alloc (Nat.le_refl _) _
  go_wp2_with fail
  refine (HFO.out _ ((H.out.below HB1.out).below hb2)).mono ?_
  rintro e w2 ⟨g, m, c, rfl, hr, hb⟩
  have hm := hr.hl
  rw [← hm] at hel
  have HB2 : Hid (Below w1.heap.size w1 w2) := hb2.trans (hb.mono hb2.size)
  have hrow := (Kept.of_below hb).row (own_oner w1 5 (W.heap.size + 1) hs1 (.int .u8 kd)) (row_lt (own_oner w1 5 (W.heap.size + 1) hs1 (.int .u8 kd)))
  obtain ⟨gA, cA, wA, hrA, hrowA, hgA, hcA, hgbA⟩ := run_append_reads (P := Try.prog) w2 (W.heap.size + 1) 25 25 5 i0 _ 1 .u8 Try.underlying25 hi hz0 hz1 hz2 rfl w1.heap.size 1 1 _ hrow (.slice (some ⟨g, 0, none⟩) m c) _ m hm hr.reads (by unfold maxLen; omega) (by omega) (Nat.le_trans hs1 HB2.out.size)
  have hP3 := ((HP1.out.below HB2.out HP1.out.lt)).other hgA (fun r e => by cases e; omega)
  have hb3 : Below W.heap.size W wA := (HB1.out.trans (HB2.out.mono HB1.out.size)).grown hgA (Nat.le_trans HB1.out.size HB2.out.size) (fun r e => by cases e; omega)
  have p0 := hP3.c0
  have p1 := hP3.c1
  have f0 := hP3.f 0
  have f1 := hP3.f 1
  have plt := hP3.lt
  have HFIN : Hid (EncodedPost W (enS zs) (.returned (.agg #[.slice (some ⟨gA, 0, none⟩) (1 + m) cA, .int .i64 0])) ((wA.setCell ⟨W.heap.size, 0, none⟩ (.slice (some ⟨gA, 0, none⟩) (1 + m) cA)).setCell ⟨W.heap.size, 1, none⟩ (.int .i64 0))) := by
    refine ⟨gA, 1 + m, cA, rfl, ?_, (hb3.setCell (Nat.le_refl _) _).setCell (Nat.le_refl _) _⟩
    rw [HEN.out]
    exact (((Rd.of_row (by rw [List.length_cons, ← hm]; omega) hcA (by omega) hrowA).set ⟨W.heap.size, 0, none⟩ _ (fun h => by have h : W.heap.size + 1 ≤ W.heap.size := h; omega)).set ⟨W.heap.size, 1, none⟩ _ (fun h => by have h : W.heap.size + 1 ≤ W.heap.size := h; omega)).mono fun i _ h => by omega
  have HRUN := Lib.hid hrA
  clear hrA hrowA hgA hcA hgbA hrow hb hb2 hr hm hP3 hb3 HFO HEN
  go_wp2_with (at_builtin; refine wpList_append_want (o := ⟨some 16, _, _, _, _, _⟩) _ rfl _ _ _ _ rfl _ _ rfl rfl _ _ HRUN.out ?_)
  exact bodyPost_ret (v := .agg #[.slice (some ⟨gA, 0, none⟩) (1 + m) cA, .int .i64 0]) (by simp [results, Try.results12, go_sem, p0, p1]) rfl HFIN.out

set_option maxHeartbeats 1000000 in
theorem encodeR_long (a : Option Addr) (len cap : Nat) (hl : 4096 < len) (W : World) :
    Calls Try.prog 12 #[.slice a len cap] W fun e W' => e = .returned (.agg #[.slice none 0 0, .int .i64 2]) ∧ Below W.heap.size W W' := by
  go_enter Try.func12, Try.ntmps12
  go_wp2
  exact bodyPost_ret (v := .agg #[.slice none 0 0, .int .i64 2]) (by simp [results, Try.results12, go_sem]) rfl ⟨rfl, (Below.refl _ _).alloc (Nat.le_refl _) _⟩

end Go.Proofs.Ytmbcppkdnoccbaa
