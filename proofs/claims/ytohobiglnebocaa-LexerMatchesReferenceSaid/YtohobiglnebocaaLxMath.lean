/-
  The tokens of a source, as functions on lists of bytes.
-/
import Derived.Lib.Hide
namespace Go.Proofs.Ytohobiglnebocaa.Lx

def letB (b : UInt8) : Bool := decide (97 ≤ b.toNat) && decide (b.toNat ≤ 122)
def digB (b : UInt8) : Bool := decide (48 ≤ b.toNat) && decide (b.toNat ≤ 57)
def ldB (b : UInt8) : Bool := letB b || digB b
def txB (b : UInt8) : Bool := decide (32 ≤ b.toNat) && decide (b.toNat ≤ 126)
def blB (b : UInt8) : Bool := decide (b.toNat = 32) || decide (b.toNat = 9) || decide (b.toNat = 10)
def nlB (b : UInt8) : Bool := !decide (b.toNat = 10)
/-- The first byte; 0 where there is none. -/
def hd (l : List UInt8) : UInt8 := l[0]?.getD 0
theorem hd_cons (b : UInt8) (l : List UInt8) : hd (b :: l) = b := rfl
theorem hd_nil : hd [] = 0 := rfl
theorem hd_drop (l : List UInt8) (n : Nat) : hd (l.drop n) = l[n]?.getD 0 := by unfold hd; rw [List.getElem?_drop]; rfl

/-! ### Valid tokens and their spellings -/

def wordB (s : List UInt8) : Bool := decide (0 < s.length) && decide (s.length ≤ 16) && letB (hd s) && s.all ldB
def areD (s : List UInt8) : Bool := decide (0 < s.length) && s.all digB
def ptB (b : UInt8) : Bool := decide (b.toNat = 46)
def noPt (b : UInt8) : Bool := !ptB b
def numB (s : List UInt8) : Bool := decide (s.length ≤ 40) && areD (s.takeWhile noPt) && (!s.any ptB || areD ((s.dropWhile noPt).drop 1))
def txtB (s : List UInt8) : Bool := decide (s.length ≤ 40) && s.all txB
def signs : List (List UInt8) := [[40], [41], [44], [59], [58], [46], [61], [60], [60, 61], [43], [45], [42]]
def signB (s : List UInt8) : Bool := decide (s ∈ signs)
def vld (k : Int) (s : List UInt8) : Bool := if k = 1 then wordB s else if k = 2 then numB s else if k = 3 then txtB s else if k = 4 then signB s else false
def esc1 (b : UInt8) : List UInt8 := if b.toNat = 34 ∨ b.toNat = 92 then [92, b] else [b]
def esc : List UInt8 → List UInt8
  | [] => []
  | b :: l => esc1 b ++ esc l
theorem esc_append (a b : List UInt8) : esc (a ++ b) = esc a ++ esc b := by
  induction a with
  | nil => rfl
  | cons x a ih => rw [List.cons_append, esc, esc, ih, List.append_assoc]
theorem esc_len (s : List UInt8) : s.length ≤ (esc s).length ∧ (esc s).length ≤ 2 * s.length := by
  induction s with
  | nil => exact ⟨Nat.le_refl _, Nat.le_refl _⟩
  | cons b l ih =>
    have : (esc1 b).length = 1 ∨ (esc1 b).length = 2 := by unfold esc1; split <;> simp
    simp only [esc, List.length_append, List.length_cons]
    omega
def spl (k : Int) (s : List UInt8) : List UInt8 := if vld k s = false then [] else if k = 3 then 34 :: (esc s ++ [34]) else s

/-! ### What is read -/

/-- How many bytes of one class a list begins with. -/
def spN (p : UInt8 → Bool) : List UInt8 → Nat
  | [] => 0
  | b :: l => if p b then spN p l + 1 else 0
theorem sp_le (p : UInt8 → Bool) : ∀ l : List UInt8, spN p l ≤ l.length
  | [] => Nat.le_refl _
  | b :: l => by
    have := sp_le p l
    unfold spN
    split <;> simp <;> omega
theorem sp_all (p : UInt8 → Bool) : ∀ l : List UInt8, (l.take (spN p l)).all p = true
  | [] => rfl
  | b :: l => by
    unfold spN
    split
    · rename_i h; rw [List.take_succ_cons, List.all_cons, h, sp_all p l]; rfl
    · rfl
theorem sp_stop (p : UInt8 → Bool) (h0 : p 0 = false) : ∀ l : List UInt8, p (hd (l.drop (spN p l))) = false
  | [] => h0
  | b :: l => by
    unfold spN
    split
    · rw [List.drop_succ_cons]; exact sp_stop p h0 l
    · rename_i h; rw [List.drop_zero, hd_cons]; simpa using h
theorem sp_append (p : UInt8 → Bool) {s : List UInt8} (r : List UInt8) (hs : s.all p = true) : spN p (s ++ r) = s.length + spN p r := by
  induction s with
  | nil => simp
  | cons b l ih =>
    rw [List.all_cons, Bool.and_eq_true] at hs
    rw [List.cons_append, spN, if_pos hs.1, ih hs.2, List.length_cons]
    omega
theorem sp_zero (p : UInt8 → Bool) {r : List UInt8} (h : p (hd r) = false) : spN p r = 0 := by
  cases r with
  | nil => rfl
  | cons b l => unfold spN; rw [hd_cons] at h; rw [if_neg (by rw [h]; decide)]
theorem sp_pos (p : UInt8 → Bool) {r : List UInt8} (hr : r ≠ []) (h : p (hd r) = true) : 0 < spN p r := by
  cases r with
  | nil => exact absurd rfl hr
  | cons b l => unfold spN; rw [hd_cons] at h; rw [if_pos h]; omega
theorem sp_at (p : UInt8 → Bool) : ∀ (l : List UInt8) (n : Nat), n ≤ l.length → (∀ j, j < n → p (l[j]?.getD 0) = true) → (n < l.length → p (l[n]?.getD 0) = false) → spN p l = n
  | [], n, h, _, _ => by simp at h; subst h; rfl
  | b :: l, 0, _, _, h => by unfold spN; have := h (by simp); rw [if_neg (by simpa using this)]
  | b :: l, n + 1, h, h1, h2 => by
    unfold spN
    rw [if_pos (by simpa using h1 0 (by omega)), sp_at p l n (by simpa using h) (fun j hj => by simpa using h1 (j + 1) (by omega)) (fun hn => by simpa using h2 (by simpa using hn))]

def kdS (b : UInt8) : Int := if letB b then 1 else if digB b then 2 else if b.toNat = 34 then 3 else 4
/-- The digits, and those behind a point. -/
def digN (l : List UInt8) : Nat :=
  if ptB (hd (l.drop (spN digB l))) && digB (hd (l.drop (spN digB l + 1))) then spN digB l + 1 + spN digB (l.drop (spN digB l + 1)) else spN digB l
def numN (l : List UInt8) : Nat := digN l + spN letB (l.drop (digN l))
/-- What is read of a text, behind its quotation mark. -/
def rdT : List UInt8 → List UInt8 × Nat
  | [] => ([], 0)
  | [b] => if b.toNat = 34 then ([], 1) else ([b], 1)
  | b :: c :: l => if b.toNat = 34 then ([], 1) else if b.toNat = 92 then (c :: (rdT l).1, 2 + (rdT l).2) else (b :: (rdT (c :: l)).1, 1 + (rdT (c :: l)).2)
def sgN (l : List UInt8) : Nat := if l.take 2 = [60, 61] then 2 else 1
/-- The kind, the content, and how many bytes were read. -/
def tkR (l : List UInt8) : Int × List UInt8 × Nat :=
  if kdS (hd l) = 1 then (1, l.take (spN ldB l), spN ldB l) else if kdS (hd l) = 2 then (2, l.take (numN l), numN l) else if kdS (hd l) = 3 then (3, (rdT (l.drop 1)).1, 1 + (rdT (l.drop 1)).2) else (4, l.take (sgN l), sgN l)
def okR (l : List UInt8) : Bool := decide (spl (tkR l).1 (tkR l).2.1 = l.take (tkR l).2.2)

/-- White space at the beginning; in a comment. -/
def wsN : Bool → List UInt8 → Nat
  | _, [] => 0
  | true, b :: l => if b.toNat = 10 then 1 + wsN false l else 1 + wsN true l
  | false, b :: l => if blB b then 1 + wsN false l else if b.toNat = 35 then 1 + wsN true l else 0
def ws (l : List UInt8) : Nat := wsN false l

structure Tk where
  k : Int
  s : List UInt8
  a : Int
theorem Tk.ext {a b : Tk} (h1 : a.k = b.k) (h2 : a.s = b.s) (h3 : a.a = b.a) : a = b := by
  cases a; cases b; simp_all
instance : DecidableEq Tk := fun a b => if h : a.k = b.k ∧ a.s = b.s ∧ a.a = b.a then isTrue (Tk.ext h.1 h.2.1 h.2.2) else isFalse fun e => h (by subst e; exact ⟨rfl, rfl, rfl⟩)
def Tk.null : Tk := ⟨0, [], 0⟩

/-- The tokens of a rest that begins with no white space, at its offset: them, the error's offset, whether there is none. -/
def lxF : Nat → List UInt8 → Nat → List Tk × Nat × Bool
  | 0, _, _ => ([], 0, true)
  | f + 1, l, o =>
    if l = [] then ([], 0, true) else
    if okR l then
      (if (lxF f ((l.drop (tkR l).2.2).drop (ws (l.drop (tkR l).2.2))) (o + (tkR l).2.2 + ws (l.drop (tkR l).2.2))).2.2 then
        (⟨(tkR l).1, (tkR l).2.1, o⟩ :: (lxF f ((l.drop (tkR l).2.2).drop (ws (l.drop (tkR l).2.2))) (o + (tkR l).2.2 + ws (l.drop (tkR l).2.2))).1, 0, true)
      else ([], (lxF f ((l.drop (tkR l).2.2).drop (ws (l.drop (tkR l).2.2))) (o + (tkR l).2.2 + ws (l.drop (tkR l).2.2))).2.1, false))
    else ([], o, false)
def lxS (s : List UInt8) : List Tk × Nat × Bool := lxF (s.length + 1) (s.drop (ws s)) (ws s)
/-- The tokens, the offset, the error's number. -/
def lexS (s : List UInt8) : List Tk × Nat × Int := if 20000 < s.length then ([], 0, 2) else ((lxS s).1, (lxS s).2.1, if (lxS s).2.2 then 0 else 5)

/-! ### How much is read -/

theorem rdT_le : ∀ l, (rdT l).2 ≤ l.length ∧ (rdT l).1.length ≤ (rdT l).2
  | [] => ⟨Nat.le_refl _, Nat.le_refl _⟩
  | [b] => by unfold rdT; split <;> simp
  | b :: c :: l => by
    have h1 := rdT_le l
    have h2 := rdT_le (c :: l)
    unfold rdT
    split
    · simp
    · split
      · simp; omega
      · simp at h2 ⊢; omega
theorem dig_le (l : List UInt8) : digN l ≤ l.length := by
  have h1 := sp_le digB l
  have h2 := sp_le digB (l.drop (spN digB l + 1))
  unfold digN
  split
  · rename_i h
    rw [Bool.and_eq_true] at h
    have h0 : spN digB l < l.length := by
      rcases Nat.lt_or_ge (spN digB l) l.length with h0 | h0
      · exact h0
      · rw [List.drop_eq_nil_of_le h0] at h; exact absurd h.1 (by decide)
    rw [List.length_drop] at h2
    omega
  · exact h1
theorem num_le (l : List UInt8) : numN l ≤ l.length := by
  have h1 := dig_le l
  have h2 := sp_le letB (l.drop (digN l))
  rw [List.length_drop] at h2
  unfold numN; omega
theorem sg_le {l : List UInt8} (h : l ≠ []) : sgN l ≤ l.length := by
  unfold sgN
  split
  · rename_i h2
    have := congrArg List.length h2
    rw [List.length_take] at this
    simp at this; omega
  · have := List.length_pos_iff.2 h; omega
theorem kd_cases (b : UInt8) : kdS b = 1 ∨ kdS b = 2 ∨ kdS b = 3 ∨ kdS b = 4 := by
  unfold kdS
  split
  · exact .inl rfl
  · split
    · exact .inr (.inl rfl)
    · split
      · exact .inr (.inr (.inl rfl))
      · exact .inr (.inr (.inr rfl))
theorem kd_one {b : UInt8} (h : kdS b = 1) : letB b = true := by
  unfold kdS at h
  split at h
  · assumption
  · split at h
    · cases h
    · split at h <;> cases h
theorem kd_two {b : UInt8} (h : kdS b = 2) : digB b = true := by
  unfold kdS at h
  split at h
  · cases h
  · split at h
    · assumption
    · split at h <;> cases h
theorem kd_three {b : UInt8} (h : kdS b = 3) : b.toNat = 34 := by
  unfold kdS at h
  split at h
  · cases h
  · split at h
    · cases h
    · split at h
      · assumption
      · cases h
theorem tk_word {l : List UInt8} (h : kdS (hd l) = 1) : tkR l = (1, l.take (spN ldB l), spN ldB l) := by unfold tkR; rw [if_pos h]
theorem tk_num {l : List UInt8} (h : kdS (hd l) = 2) : tkR l = (2, l.take (numN l), numN l) := by unfold tkR; rw [if_neg (by rw [h]; decide), if_pos h]
theorem tk_text {l : List UInt8} (h : kdS (hd l) = 3) : tkR l = (3, (rdT (l.drop 1)).1, 1 + (rdT (l.drop 1)).2) := by unfold tkR; rw [if_neg (by rw [h]; decide), if_neg (by rw [h]; decide), if_pos h]
theorem tk_sign {l : List UInt8} (h : kdS (hd l) = 4) : tkR l = (4, l.take (sgN l), sgN l) := by unfold tkR; rw [if_neg (by rw [h]; decide), if_neg (by rw [h]; decide), if_neg (by rw [h]; decide)]

theorem tk_pos {l : List UInt8} (h : l ≠ []) : 0 < (tkR l).2.2 := by
  rcases kd_cases (hd l) with hk | hk | hk | hk
  · rw [tk_word hk]; exact sp_pos _ h (by unfold ldB; rw [kd_one hk]; rfl)
  · rw [tk_num hk]
    have := sp_pos digB h (kd_two hk)
    show 0 < numN l
    unfold numN digN
    split <;> omega
  · rw [tk_text hk]; show 0 < 1 + _; omega
  · rw [tk_sign hk]; show 0 < sgN l; unfold sgN; split <;> omega
theorem tk_le {l : List UInt8} (h : l ≠ []) : (tkR l).2.2 ≤ l.length := by
  rcases kd_cases (hd l) with hk | hk | hk | hk
  · rw [tk_word hk]; exact sp_le _ _
  · rw [tk_num hk]; exact num_le l
  · rw [tk_text hk]
    have h1 := rdT_le (l.drop 1)
    have h2 := List.length_pos_iff.2 h
    rw [List.length_drop] at h1
    show 1 + _ ≤ _; omega
  · rw [tk_sign hk]; exact sg_le h
theorem tk_kind (l : List UInt8) : (tkR l).1 = kdS (hd l) := by
  rcases kd_cases (hd l) with hk | hk | hk | hk
  · rw [tk_word hk, hk]
  · rw [tk_num hk, hk]
  · rw [tk_text hk, hk]
  · rw [tk_sign hk, hk]
theorem ws_le : ∀ (c : Bool) (l : List UInt8), wsN c l ≤ l.length
  | _, [] => by unfold wsN; exact Nat.le_refl _
  | true, b :: l => by
    have h1 := ws_le true l
    have h2 := ws_le false l
    unfold wsN
    split <;> simp <;> omega
  | false, b :: l => by
    have h1 := ws_le true l
    have h2 := ws_le false l
    unfold wsN
    split
    · simp; omega
    · split <;> simp <;> omega

end Go.Proofs.Ytohobiglnebocaa.Lx
