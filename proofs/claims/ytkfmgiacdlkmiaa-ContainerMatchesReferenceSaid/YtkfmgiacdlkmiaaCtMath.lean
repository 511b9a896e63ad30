/-
  Sealed files, as functions on lists of numbers: the sealed form, what is read of any bytes; that reading inverts sealing, that what is read was sealed, that beginnings are short.
-/
import Derived.Test.YtkfmgiacdlkmiaaCtmD
import Derived.Test.YtkfmgiacdlkmiaaDgTop
namespace Go.Proofs.Ytkfmgiacdlkmiaa
open Go.RowKit

/-- The eight bytes of a checksum. -/
def sum8 (d : Int) : List Int := [d % 256, d / 256 % 256, d / 65536 % 256, d / 16777216 % 256, d / 4294967296 % 256, d / 1099511627776 % 256, d / 281474976710656 % 256, d / 72057594037927936 % 256]

theorem sum8_length (d : Int) : (sum8 d).length = 8 := rfl
theorem sum8_oct (d : Int) : Oct (sum8 d) := by
  intro x hx
  simp only [sum8, List.mem_cons, List.not_mem_nil, or_false] at hx
  rcases hx with rfl | rfl | rfl | rfl | rfl | rfl | rfl | rfl <;> omega
theorem sum8_inj {a b : Int} (ha : 0 ≤ a ∧ a < 18446744073709551616) (hb : 0 ≤ b ∧ b < 18446744073709551616) (h : sum8 a = sum8 b) : a = b := by
  simp only [sum8, List.cons.injEq, and_true] at h
  obtain ⟨h0, h1, h2, h3, h4, h5, h6, h7⟩ := h
  omega

def letS : List Int := [67, 72, 77]
/-- What a sealed form has ahead of its checksum. -/
def sealA (k : Int) (id data : List Int) : List Int := letS ++ (k :: (packS id ++ (varN data.length ++ data)))
def sealS (k : Int) (id data : List Int) : List Int := sealA k id data ++ sum8 (Dg.bytesD (sealA k id data))

def letE : List Int → List Int → Int
  | [], _ => 0
  | _ :: _, [] => 7
  | x :: r, b :: bs => if b = x then letE r bs else 8
def kindE (bs : List Int) : Int := if bs.length = 0 then 7 else if (1 : Int) ≤ bs[0]?.getD 0 ∧ bs[0]?.getD 0 ≤ (9 : Int) then 0 else 8
def rotE (e : Int) : Int := if e = 7 then 7 else 8
def idE (bs : List Int) : Int := if (unS bs).2.2 ≠ 0 then rotE (unS bs).2.2 else if 40 < (unS bs).1.length then 8 else 0
def dataE (bs : List Int) : Int := if (rdS bs).2.2 ≠ 0 then rotE (rdS bs).2.2 else if 65536 < (rdS bs).1 then 8 else if bs.length - (rdS bs).2.1 < (rdS bs).1.toNat then 7 else 0
def sumE (ahead left : List Int) : Int := if left.length < 8 then 7 else if left.take 8 = sum8 (Dg.bytesD ahead) then 0 else 8

def atI (bs : List Int) : Nat := 4 + (unS (bs.drop 4)).2.1
def atD (bs : List Int) : Nat := atI bs + (rdS (bs.drop (atI bs))).2.1
def atS (bs : List Int) : Nat := atD bs + (rdS (bs.drop (atI bs))).1.toNat
/-- The error of what is read of bytes; the file; how many bytes it took. -/
def fstE (bs : List Int) : Int :=
  if letE letS bs ≠ 0 then letE letS bs else if kindE (bs.drop 3) ≠ 0 then kindE (bs.drop 3) else if idE (bs.drop 4) ≠ 0 then idE (bs.drop 4) else
    if dataE (bs.drop (atI bs)) ≠ 0 then dataE (bs.drop (atI bs)) else sumE (bs.take (atS bs)) (bs.drop (atS bs))
def fstK (bs : List Int) : Int := bs[3]?.getD 0
def fstI (bs : List Int) : List Int := (unS (bs.drop 4)).1
def fstD (bs : List Int) : List Int := (bs.drop (atD bs)).take (rdS (bs.drop (atI bs))).1.toNat
def fstN (bs : List Int) : Nat := atS bs + 8

theorem rotE_bad (e : Int) : rotE e = 7 ∨ rotE e = 8 := by unfold rotE; split <;> simp
theorem letE_of : ∀ (l bs : List Int), letE l bs = 0 ∨ letE l bs = 7 ∨ letE l bs = 8
  | [], _ => by simp [letE]
  | _ :: _, [] => by simp [letE]
  | x :: r, b :: bs => by unfold letE; split; exact letE_of r bs; simp
theorem fstE_of (bs : List Int) : fstE bs = 0 ∨ fstE bs = 7 ∨ fstE bs = 8 := by
  unfold fstE
  split
  · exact letE_of _ _
  · split
    · unfold kindE; split; simp; split <;> simp
    · split
      · unfold idE; split; exact .inr (rotE_bad _); split <;> simp
      · split
        · unfold dataE; split; exact .inr (rotE_bad _); split; simp; split <;> simp
        · unfold sumE; split; simp; split <;> simp

theorem letE_zero : ∀ (l bs : List Int), letE l bs = 0 → bs = l ++ bs.drop l.length
  | [], bs, _ => by simp
  | _ :: _, [], h => by simp [letE] at h
  | x :: r, b :: bs, h => by
    unfold letE at h
    split at h
    · next e => subst e; simpa using letE_zero r bs h
    · simp at h
theorem letE_self : ∀ (l r : List Int), letE l (l ++ r) = 0
  | [], _ => rfl
  | x :: l, r => by simp [letE, letE_self l r]
theorem letE_short : ∀ (l : List Int) (m : Nat), m < l.length → letE l (l.take m) = 7
  | [], m, h => by simp at h
  | x :: r, 0, _ => by simp [letE]
  | x :: r, m + 1, h => by simp [letE, letE_short r m (by simpa using h)]

/-! ### Sealed forms are opened -/

theorem drop_app (a b : List Int) (n : Nat) (h : n = a.length) : (a ++ b).drop n = b := by subst h; simp
theorem take_app (a b : List Int) (n : Nat) (h : n = a.length) : (a ++ b).take n = a := by subst h; simp

/-- The lengths of the parts. -/
theorem sealA_len (k : Int) (id data : List Int) : (sealA k id data).length = 4 + (packS id).length + (varN data.length).length + data.length := by
  unfold sealA letS; simp; omega
theorem sealS_len (k : Int) (id data : List Int) : (sealS k id data).length = (sealA k id data).length + 8 := by
  unfold sealS; simp [sum8_length]

section
variable {k : Int} {id data : List Int}

theorem seal_parts (rest : List Int) : sealS k id data ++ rest = letS ++ (k :: (packS id ++ (varN data.length ++ (data ++ (sum8 (Dg.bytesD (sealA k id data)) ++ rest))))) := by
  rw [sealS]; generalize sum8 (Dg.bytesD (sealA k id data)) = S; unfold sealA letS; simp
theorem seal_drop3 (rest : List Int) : (sealS k id data ++ rest).drop 3 = k :: (packS id ++ (varN data.length ++ (data ++ (sum8 (Dg.bytesD (sealA k id data)) ++ rest)))) := by
  rw [seal_parts]; rfl
theorem seal_drop4 (rest : List Int) : (sealS k id data ++ rest).drop 4 = packS id ++ (varN data.length ++ (data ++ (sum8 (Dg.bytesD (sealA k id data)) ++ rest))) := by
  rw [seal_parts]; rfl

variable (hz : Smalls id) (hl : id.length ≤ 40) (hd : data.length ≤ 65536)
include hz hl

theorem seal_atI (rest : List Int) : atI (sealS k id data ++ rest) = 4 + (packS id).length := by
  unfold atI; rw [seal_drop4, un_pack hz (by omega)]
theorem seal_dropI (rest : List Int) : (sealS k id data ++ rest).drop (atI (sealS k id data ++ rest)) = varN data.length ++ (data ++ (sum8 (Dg.bytesD (sealA k id data)) ++ rest)) := by
  rw [seal_atI hz hl, ← List.drop_drop, seal_drop4, drop_app _ _ _ rfl]
include hd
theorem seal_rd (rest : List Int) : rdS ((sealS k id data ++ rest).drop (atI (sealS k id data ++ rest))) = ((data.length : Int), (varN data.length).length, 0) := by
  rw [seal_dropI hz hl, rdS_var _ (by omega)]
theorem seal_atD (rest : List Int) : atD (sealS k id data ++ rest) = 4 + (packS id).length + (varN data.length).length := by
  unfold atD; rw [seal_rd hz hl hd, seal_atI hz hl]
theorem seal_dropD (rest : List Int) : (sealS k id data ++ rest).drop (atD (sealS k id data ++ rest)) = data ++ (sum8 (Dg.bytesD (sealA k id data)) ++ rest) := by
  rw [seal_atD hz hl hd, ← seal_atI hz hl (data := data) (k := k) rest, ← List.drop_drop, seal_dropI hz hl, drop_app _ _ _ rfl]
theorem seal_atS (rest : List Int) : atS (sealS k id data ++ rest) = (sealA k id data).length := by
  unfold atS; rw [seal_rd hz hl hd, seal_atD hz hl hd, sealA_len]; simp
theorem seal_first (hk : 1 ≤ k ∧ k ≤ 9) (rest : List Int) :
    fstE (sealS k id data ++ rest) = 0 ∧ fstK (sealS k id data ++ rest) = k ∧ fstI (sealS k id data ++ rest) = id ∧ fstD (sealS k id data ++ rest) = data ∧ fstN (sealS k id data ++ rest) = (sealS k id data).length := by
  refine ⟨?_, ?_, ?_, ?_, ?_⟩
  · unfold fstE
    have h1 : letE letS (sealS k id data ++ rest) = 0 := by rw [seal_parts]; exact letE_self _ _
    have h2 : kindE ((sealS k id data ++ rest).drop 3) = 0 := by rw [seal_drop3]; unfold kindE; simp [hk]
    have h3 : idE ((sealS k id data ++ rest).drop 4) = 0 := by rw [seal_drop4]; unfold idE; rw [un_pack hz (by omega)]; simp; omega
    have h4 : dataE ((sealS k id data ++ rest).drop (atI (sealS k id data ++ rest))) = 0 := by
      unfold dataE; rw [seal_rd hz hl hd, seal_dropI hz hl]
      rw [if_neg (by simp), if_neg (by simp; omega), if_neg (by simp)]
    rw [h1, h2, h3, h4, seal_atS hz hl hd]
    simp only [ne_eq, not_true, if_false]
    have e1 : (sealS k id data ++ rest).take (sealA k id data).length = sealA k id data := by
      unfold sealS; rw [List.append_assoc]; exact take_app _ _ _ rfl
    have e2 : (sealS k id data ++ rest).drop (sealA k id data).length = sum8 (Dg.bytesD (sealA k id data)) ++ rest := by
      unfold sealS; rw [List.append_assoc]; exact drop_app _ _ _ rfl
    rw [e1, e2]
    unfold sumE
    rw [if_neg (by rw [List.length_append, sum8_length]; omega), if_pos (take_app _ _ _ (sum8_length _).symm)]
  · unfold fstK; rw [seal_parts]; rfl
  · unfold fstI; rw [seal_drop4, un_pack hz (by omega)]
  · unfold fstD; rw [seal_dropD hz hl hd, seal_rd hz hl hd]; exact take_app _ _ _ (by simp)
  · unfold fstN; rw [seal_atS hz hl hd, sealS_len]
end

/-! ### What is opened was sealed -/

theorem first_canon {bs : List Int} (ho : Oct bs) (h : fstE bs = 0) :
    (1 ≤ fstK bs ∧ fstK bs ≤ 9) ∧ (fstI bs).length ≤ 40 ∧ (fstD bs).length ≤ 65536 ∧ bs.take (atS bs) = sealA (fstK bs) (fstI bs) (fstD bs) ∧ bs = sealS (fstK bs) (fstI bs) (fstD bs) ++ bs.drop (fstN bs) ∧ fstN bs = (sealS (fstK bs) (fstI bs) (fstD bs)).length := by
  unfold fstE at h
  have hL : letE letS bs = 0 := by
    apply Decidable.byContradiction; intro c; rw [if_pos c] at h; exact c h
  rw [if_neg (fun c => c hL)] at h
  have hK : kindE (bs.drop 3) = 0 := by
    apply Decidable.byContradiction; intro c; rw [if_pos c] at h; exact c h
  rw [if_neg (fun c => c hK)] at h
  have hI : idE (bs.drop 4) = 0 := by
    apply Decidable.byContradiction; intro c; rw [if_pos c] at h; exact c h
  rw [if_neg (fun c => c hI)] at h
  have hD : dataE (bs.drop (atI bs)) = 0 := by
    apply Decidable.byContradiction; intro c; rw [if_pos c] at h; exact c h
  rw [if_neg (fun c => c hD)] at h
  have b0 : bs = letS ++ bs.drop 3 := letE_zero _ _ hL
  have hk0 : ¬ (bs.drop 3).length = 0 := by intro c; unfold kindE at hK; rw [if_pos c] at hK; exact absurd hK (by decide)
  have hk1 : 1 ≤ fstK bs ∧ fstK bs ≤ 9 := by
    unfold kindE at hK; rw [if_neg hk0] at hK
    have e : (bs.drop 3)[0]?.getD 0 = fstK bs := by unfold fstK; rw [List.getElem?_drop]
    rw [e] at hK
    apply Decidable.byContradiction; intro c; rw [if_neg c] at hK; exact absurd hK (by decide)
  have b1 : bs.drop 3 = fstK bs :: bs.drop 4 := by
    have := drop_getD_cons bs 3 (by rw [List.length_drop] at hk0; omega)
    exact this
  -- the list
  have hu : (unS (bs.drop 4)).2.2 = 0 := by
    unfold idE at hI
    apply Decidable.byContradiction; intro c; rw [if_pos c] at hI
    rcases rotE_bad (unS (bs.drop 4)).2.2 with e | e <;> rw [e] at hI <;> exact absurd hI (by decide)
  have hi40 : (fstI bs).length ≤ 40 := by
    unfold idE at hI; rw [if_neg (fun c => c hu)] at hI
    apply Decidable.byContradiction; intro c
    rw [if_pos (show 40 < (unS (bs.drop 4)).1.length by unfold fstI at c; omega)] at hI; exact absurd hI (by decide)
  obtain ⟨-, u2, u3⟩ := un_canon (ho.drop 4) (l := fstI bs) (c := (unS (bs.drop 4)).2.1) (by rw [← hu]; rfl)
  have b2 : bs.drop 4 = packS (fstI bs) ++ bs.drop (atI bs) := by unfold atI; rw [← List.drop_drop]; exact u3
  -- the length
  have hr : (rdS (bs.drop (atI bs))).2.2 = 0 := by
    unfold dataE at hD
    apply Decidable.byContradiction; intro c; rw [if_pos c] at hD
    rcases rotE_bad (rdS (bs.drop (atI bs))).2.2 with e | e <;> rw [e] at hD <;> exact absurd hD (by decide)
  unfold dataE at hD
  rw [if_neg (fun c => c hr)] at hD
  have hn1 : (rdS (bs.drop (atI bs))).1 ≤ 65536 := by
    apply Decidable.byContradiction; intro c; rw [if_pos (by omega)] at hD; exact absurd hD (by decide)
  rw [if_neg (by omega)] at hD
  have hn2 : (rdS (bs.drop (atI bs))).1.toNat ≤ (bs.drop (atI bs)).length - (rdS (bs.drop (atI bs))).2.1 := by
    apply Decidable.byContradiction; intro c; rw [if_pos (by omega)] at hD; exact absurd hD (by decide)
  obtain ⟨r1, r2, r3⟩ := rdS_canon (ho.drop (atI bs)) (v := (rdS (bs.drop (atI bs))).1) (c := (rdS (bs.drop (atI bs))).2.1) (by rw [← hr])
  have b3 : bs.drop (atI bs) = varN (rdS (bs.drop (atI bs))).1.toNat ++ bs.drop (atD bs) := by
    unfold atD; rw [← List.drop_drop]; exact r3
  have hdl : (fstD bs).length = (rdS (bs.drop (atI bs))).1.toNat := by
    unfold fstD atD; rw [List.length_take, ← List.drop_drop, List.length_drop]; omega
  have b4 : bs.drop (atD bs) = fstD bs ++ bs.drop (atS bs) := by
    unfold atS fstD; rw [← List.drop_drop, List.take_append_drop]
  -- the checksum
  unfold sumE at h
  have h8 : 8 ≤ (bs.drop (atS bs)).length := by
    apply Decidable.byContradiction; intro c; rw [if_pos (by omega)] at h; exact absurd h (by decide)
  rw [if_neg (by omega)] at h
  have hs : (bs.drop (atS bs)).take 8 = sum8 (Dg.bytesD (bs.take (atS bs))) := by
    apply Decidable.byContradiction; intro c; rw [if_neg c] at h; exact absurd h (by decide)
  have e0 : bs = sealA (fstK bs) (fstI bs) (fstD bs) ++ bs.drop (atS bs) := by
    unfold sealA
    rw [hdl]
    rw [b1, b2, b3, b4] at b0
    simpa using b0
  have el : (sealA (fstK bs) (fstI bs) (fstD bs)).length = atS bs := by
    have h1 := congrArg List.length e0
    rw [List.length_append, List.length_drop] at h1
    rw [List.length_drop] at h8
    omega
  have ea : bs.take (atS bs) = sealA (fstK bs) (fstI bs) (fstD bs) := by
    have := congrArg (List.take (atS bs)) e0
    rw [take_app _ _ _ el.symm] at this
    exact this
  refine ⟨hk1, hi40, by omega, ea, ?_, by unfold fstN; rw [sealS_len, el]⟩
  unfold sealS
  rw [← ea, ← hs, List.append_assoc]
  have : (bs.drop (atS bs)).take 8 ++ bs.drop (fstN bs) = bs.drop (atS bs) := by unfold fstN; rw [← List.drop_drop, List.take_append_drop]
  rw [this, List.take_append_drop]

/-- Where the checksum begins lies within the bytes. -/
theorem parts_le {bs : List Int} (ho : Oct bs) (hK : kindE (bs.drop 3) = 0) (hI : idE (bs.drop 4) = 0) (hD : dataE (bs.drop (atI bs)) = 0) : atS bs ≤ bs.length ∧ 0 < bs.length := by
  have hk0 : ¬ (bs.drop 3).length = 0 := by intro c; unfold kindE at hK; rw [if_pos c] at hK; exact absurd hK (by decide)
  rw [List.length_drop] at hk0
  have hu : (unS (bs.drop 4)).2.2 = 0 := by
    unfold idE at hI
    apply Decidable.byContradiction; intro c; rw [if_pos c] at hI
    rcases rotE_bad (unS (bs.drop 4)).2.2 with e | e <;> rw [e] at hI <;> exact absurd hI (by decide)
  obtain ⟨-, u2, u3⟩ := un_canon (ho.drop 4) (l := fstI bs) (c := (unS (bs.drop 4)).2.1) (by rw [← hu]; rfl)
  have hr : (rdS (bs.drop (atI bs))).2.2 = 0 := by
    unfold dataE at hD
    apply Decidable.byContradiction; intro c; rw [if_pos c] at hD
    rcases rotE_bad (rdS (bs.drop (atI bs))).2.2 with e | e <;> rw [e] at hD <;> exact absurd hD (by decide)
  unfold dataE at hD
  rw [if_neg (fun c => c hr)] at hD
  have hn1 : (rdS (bs.drop (atI bs))).1 ≤ 65536 := by
    apply Decidable.byContradiction; intro c; rw [if_pos (by omega)] at hD; exact absurd hD (by decide)
  rw [if_neg (by omega)] at hD
  have hn2 : (rdS (bs.drop (atI bs))).1.toNat ≤ (bs.drop (atI bs)).length - (rdS (bs.drop (atI bs))).2.1 := by
    apply Decidable.byContradiction; intro c; rw [if_pos (by omega)] at hD; exact absurd hD (by decide)
  obtain ⟨r1, r2, r3⟩ := rdS_canon (ho.drop (atI bs)) (v := (rdS (bs.drop (atI bs))).1) (c := (rdS (bs.drop (atI bs))).2.1) (by rw [← hr])
  have l1 := congrArg List.length u3
  have l2 := congrArg List.length r3
  rw [List.length_append, ← u2, List.length_drop, List.length_drop] at l1
  rw [List.length_append, ← r2, List.length_drop] at l2
  rw [List.length_drop] at hn2
  simp only [List.length_drop] at l2
  have e1 : atI bs = 4 + (unS (bs.drop 4)).2.1 := rfl
  have e2 : atS bs = atI bs + (rdS (bs.drop (atI bs))).2.1 + (rdS (bs.drop (atI bs))).1.toNat := rfl
  omega

/-! ### Beginnings are short -/

theorem take_app_le (a b : List Int) (n : Nat) (h : n ≤ a.length) : (a ++ b).take n = a.take n := by
  rw [List.take_append, Nat.sub_eq_zero_of_le h]; simp
theorem take_app_ge (a b : List Int) (n : Nat) (h : a.length ≤ n) : (a ++ b).take n = a ++ b.take (n - a.length) := by
  rw [List.take_append, List.take_of_length_le h]

theorem first_short {k : Int} {id data : List Int} (hz : Smalls id) (hl : id.length ≤ 40) (hd : data.length ≤ 65536) (hk : 1 ≤ k ∧ k ≤ 9) (m : Nat) (hm : m < (sealS k id data).length) : fstE ((sealS k id data).take m) = 7 := by
  have hp := seal_parts (k := k) (id := id) (data := data) []
  rw [List.append_nil, List.append_nil] at hp
  obtain ⟨C, hC, hC8⟩ : ∃ C, sum8 (Dg.bytesD (sealA k id data)) = C ∧ C.length = 8 := ⟨_, rfl, sum8_length _⟩
  rw [sealS_len, sealA_len] at hm
  rw [hp, hC]
  clear hp hC
  unfold fstE
  by_cases h3 : m < 3
  · have e : letE letS ((letS ++ (k :: (packS id ++ (varN data.length ++ (data ++ C))))).take m) = 7 := by
      rw [take_app_le _ _ _ (by simp [letS]; omega)]; exact letE_short _ _ (by simpa [letS] using h3)
    rw [e]; rfl
  have e1 : (letS ++ (k :: (packS id ++ (varN data.length ++ (data ++ C))))).take m = letS ++ ((k :: (packS id ++ (varN data.length ++ (data ++ C)))).take (m - 3)) := take_app_ge _ _ _ (by simp [letS]; omega)
  rw [e1, letE_self, if_neg (by simp)]
  have d3 : ∀ l : List Int, (letS ++ l).drop 3 = l := fun l => rfl
  by_cases h4 : m = 3
  · subst h4
    have e : kindE ((letS ++ ((k :: (packS id ++ (varN data.length ++ (data ++ C)))).take (3 - 3))).drop 3) = 7 := by rw [d3]; simp [kindE]
    rw [e]; rfl
  obtain ⟨j, rfl⟩ : ∃ j, m = j + 4 := ⟨m - 4, by omega⟩
  have e2 : (k :: (packS id ++ (varN data.length ++ (data ++ C)))).take (j + 4 - 3) = k :: ((packS id ++ (varN data.length ++ (data ++ C))).take j) := by
    rw [show j + 4 - 3 = j + 1 by omega, List.take_succ_cons]
  rw [e2]
  have d4 : ∀ l : List Int, (letS ++ (k :: l)).drop 4 = l := fun l => rfl
  have ek : ∀ l : List Int, kindE ((letS ++ (k :: l)).drop 3) = 0 := fun l => by rw [d3]; unfold kindE; simp [hk]
  rw [ek, if_neg (by simp), d4]
  by_cases h5 : j < (packS id).length
  · have e : idE ((packS id ++ (varN data.length ++ (data ++ C))).take j) = 7 := by
      rw [take_app_le _ _ _ (by omega)]; unfold idE
      rw [un_short hz (by omega) j h5]; rfl
    rw [e]; rfl
  obtain ⟨i, rfl⟩ : ∃ i, j = (packS id).length + i := ⟨j - (packS id).length, by omega⟩
  rw [take_app_ge _ _ _ (by omega), show (packS id).length + i - (packS id).length = i by omega]
  have ei : ∀ l : List Int, idE (packS id ++ l) = 0 := fun l => by unfold idE; rw [un_pack hz (by omega)]; simp; omega
  have eI : ∀ l : List Int, atI (letS ++ (k :: (packS id ++ l))) = 4 + (packS id).length := fun l => by unfold atI; rw [d4, un_pack hz (by omega)]
  have dI : ∀ l : List Int, (letS ++ (k :: (packS id ++ l))).drop (4 + (packS id).length) = l := fun l => by rw [← List.drop_drop, d4, drop_app _ _ _ rfl]
  rw [ei, if_neg (by simp), eI, dI]
  by_cases h6 : i < (varN data.length).length
  · have e : dataE ((varN data.length ++ (data ++ C)).take i) = 7 := by
      rw [take_app_le _ _ _ (by omega)]; unfold dataE
      rw [rdS_short _ (by omega) i h6]; rfl
    rw [e]; rfl
  obtain ⟨q, rfl⟩ : ∃ q, i = (varN data.length).length + q := ⟨i - (varN data.length).length, by omega⟩
  rw [take_app_ge _ _ _ (by omega), show (varN data.length).length + q - (varN data.length).length = q by omega]
  have er : ∀ l : List Int, rdS (varN data.length ++ l) = ((data.length : Int), (varN data.length).length, 0) := fun l => rdS_var _ (by omega) l
  by_cases h7 : q < data.length
  · have e : dataE (varN data.length ++ (data ++ C).take q) = 7 := by
      unfold dataE
      rw [er, if_neg (by simp), if_neg (by simp; omega), if_pos (by simp; omega)]
    rw [e]; rfl
  have e : dataE (varN data.length ++ (data ++ C).take q) = 0 := by
    unfold dataE
    rw [er, if_neg (by simp), if_neg (by simp; omega), if_neg (by simp; omega)]
  rw [e, if_neg (by simp)]
  unfold sumE
  rw [if_pos]
  have eS : atS (letS ++ (k :: (packS id ++ (varN data.length ++ (data ++ C).take q)))) = 4 + (packS id).length + (varN data.length).length + data.length := by
    unfold atS atD
    rw [eI, dI, er]; simp
  rw [eS]
  simp [letS]
  omega

end Go.Proofs.Ytkfmgiacdlkmiaa
