/-
  The orders of values and of lists of values are total orders.
-/
import Derived.Test.YtmmdbacejdhdaaaGreatDoorVlRef2
namespace Go.Proofs.YtmmdbacejdhdaaaGreatDoor
open Go

/-- Three comparisons fit: of a and b, of b and c, of a and c. -/
def Tr (p q r : Int) : Prop := (p ≤ 0 → q ≤ 0 → r ≤ 0) ∧ (p < 0 → q ≤ 0 → r < 0) ∧ (p ≤ 0 → q < 0 → r < 0)
def lexI (p q : Int) : Int := if p ≠ 0 then p else q
theorem lex_tr {p q r p' q' r' : Int} (h : Tr p q r) (hb : Tr (-q) (-p) (-r)) (h' : Tr p' q' r') : Tr (lexI p p') (lexI q q') (lexI r r') := by
  obtain ⟨a1, a2, a3⟩ := h
  obtain ⟨b1, b2, b3⟩ := hb
  obtain ⟨c1, c2, c3⟩ := h'
  unfold lexI Tr
  by_cases hp : p = 0 <;> by_cases hq : q = 0 <;> by_cases hr : r = 0 <;> simp only [hp, hq, hr, ne_eq, not_true, not_false_eq_true, if_true, if_false] <;> refine ⟨fun x y => ?_, fun x y => ?_, fun x y => ?_⟩ <;> first | exact c1 x y | exact c2 x y | exact c3 x y | omega
theorem lex_neg {p q p' q' : Int} (h : p = -p') (h' : q = -q') : lexI p q = -lexI p' q' := by
  unfold lexI
  by_cases hp : p' = 0
  · rw [if_neg (by omega), if_neg (by omega), h']
  · rw [if_pos (by omega), if_pos hp, h]

theorem sgI_neg (a b : Int) : sgI a b = -sgI b a := by
  unfold sgI; by_cases h : a < b <;> by_cases h' : b < a <;> simp only [h, h', if_true, if_false] <;> omega
theorem sgI_tr (a b c : Int) : Tr (sgI a b) (sgI b c) (sgI a c) := by
  unfold sgI Tr
  by_cases h : a < b <;> by_cases h' : b < a <;> by_cases k : b < c <;> by_cases k' : c < b <;> by_cases m : a < c <;> by_cases m' : c < a <;> simp only [h, h', k, k', m, m', if_true, if_false] <;> omega
theorem sgI_bd (a b : Int) : -1 ≤ sgI a b ∧ sgI a b ≤ 1 := by
  unfold sgI; split
  · omega
  · split <;> omega
theorem sgS_cases (a b : List UInt8) : (a < b ∧ ¬ b < a ∧ sgS a b = -1) ∨ (b < a ∧ ¬ a < b ∧ sgS a b = 1) ∨ (a = b ∧ sgS a b = 0) := by
  by_cases h : a < b
  · refine .inl ⟨h, fun h' => List.lt_irrefl _ (List.lt_trans h h'), ?_⟩
    unfold sgS; rw [if_pos h]
  · by_cases h' : b < a
    · refine .inr (.inl ⟨h', h, ?_⟩)
      unfold sgS; rw [if_neg h, if_pos h']
    · have h0 : sgS a b = 0 := by unfold sgS; rw [if_neg h, if_neg h']
      exact .inr (.inr ⟨sgS_zero h0, h0⟩)
theorem sgS_neg (a b : List UInt8) : sgS a b = -sgS b a := by
  rcases sgS_cases a b with ⟨h1, h2, h3⟩ | ⟨h1, h2, h3⟩ | ⟨rfl, h3⟩
  · rcases sgS_cases b a with ⟨k1, k2, k3⟩ | ⟨k1, k2, k3⟩ | ⟨k1, k3⟩
    · exact absurd k1 h2
    · omega
    · exact absurd (k1 ▸ h1) (List.lt_irrefl _)
  · rcases sgS_cases b a with ⟨k1, k2, k3⟩ | ⟨k1, k2, k3⟩ | ⟨k1, k3⟩
    · omega
    · exact absurd k1 h2
    · exact absurd (k1 ▸ h1) (List.lt_irrefl _)
  · omega
theorem sgS_bd (a b : List UInt8) : -1 ≤ sgS a b ∧ sgS a b ≤ 1 := by
  rcases sgS_cases a b with ⟨_, _, h⟩ | ⟨_, _, h⟩ | ⟨_, h⟩ <;> omega
theorem sgS_tr (a b c : List UInt8) : Tr (sgS a b) (sgS b c) (sgS a c) := by
  rcases sgS_cases a b with ⟨h1, h2, h3⟩ | ⟨h1, h2, h3⟩ | ⟨rfl, h3⟩
  · rcases sgS_cases b c with ⟨k1, k2, k3⟩ | ⟨k1, k2, k3⟩ | ⟨rfl, k3⟩
    · have h : sgS a c = -1 := by unfold sgS; rw [if_pos (List.lt_trans h1 k1)]
      rw [h]; exact ⟨fun _ _ => by omega, fun _ _ => by omega, fun _ _ => by omega⟩
    · rw [k3]; exact ⟨fun _ _ => by omega, fun _ _ => by omega, fun _ _ => by omega⟩
    · rw [h3]; exact ⟨fun _ _ => by omega, fun _ _ => by omega, fun _ _ => by omega⟩
  · rw [h3]; exact ⟨fun _ _ => by omega, fun _ _ => by omega, fun _ _ => by omega⟩
  · rw [h3]; exact ⟨fun _ h => h, fun h _ => by omega, fun _ h => h⟩
theorem cmpV_lex (a b : Vl) : cmpV a b = lexI (sgI a.k b.k) (lexI (sgI a.i b.i) (sgS a.s b.s)) := rfl
theorem cmpV_neg (a b : Vl) : cmpV a b = -cmpV b a := by
  rw [cmpV_lex, cmpV_lex]; exact lex_neg (sgI_neg _ _) (lex_neg (sgI_neg _ _) (sgS_neg _ _))
theorem lex_bd {p q : Int} (h : -1 ≤ p ∧ p ≤ 1) (h' : -1 ≤ q ∧ q ≤ 1) : -1 ≤ lexI p q ∧ lexI p q ≤ 1 := by
  unfold lexI; split <;> assumption
theorem cmpV_bd (a b : Vl) : -1 ≤ cmpV a b ∧ cmpV a b ≤ 1 := by
  rw [cmpV_lex]; exact lex_bd (sgI_bd _ _) (lex_bd (sgI_bd _ _) (sgS_bd _ _))
theorem sgI_back (a b c : Int) : Tr (-sgI b c) (-sgI a b) (-sgI a c) := by
  rw [← sgI_neg c b, ← sgI_neg b a, ← sgI_neg c a]; exact sgI_tr c b a
theorem cmpV_tr (a b c : Vl) : Tr (cmpV a b) (cmpV b c) (cmpV a c) := by
  rw [cmpV_lex, cmpV_lex, cmpV_lex]
  exact lex_tr (sgI_tr _ _ _) (sgI_back _ _ _) (lex_tr (sgI_tr _ _ _) (sgI_back _ _ _) (sgS_tr _ _ _))
theorem cmpV_back (a b c : Vl) : Tr (-cmpV b c) (-cmpV a b) (-cmpV a c) := by
  rw [← cmpV_neg c b, ← cmpV_neg b a, ← cmpV_neg c a]; exact cmpV_tr c b a
theorem cmpL_cons (a b : Vl) (x y : List Vl) : cmpL (a :: x) (b :: y) = lexI (cmpV a b) (cmpL x y) := rfl
theorem cmpL_neg : ∀ (x y : List Vl), cmpL x y = -cmpL y x
  | [], [] => rfl
  | [], _ :: _ => rfl
  | _ :: _, [] => rfl
  | a :: x, b :: y => by rw [cmpL_cons, cmpL_cons]; exact lex_neg (cmpV_neg a b) (cmpL_neg x y)
theorem cmpL_bd : ∀ (x y : List Vl), -1 ≤ cmpL x y ∧ cmpL x y ≤ 1
  | [], [] => by simp [cmpL]
  | [], _ :: _ => by simp [cmpL]
  | _ :: _, [] => by simp [cmpL]
  | a :: x, b :: y => by rw [cmpL_cons]; exact lex_bd (cmpV_bd a b) (cmpL_bd x y)
theorem cmpL_tr : ∀ (x y z : List Vl), Tr (cmpL x y) (cmpL y z) (cmpL x z)
  | [], [], [] => by simp [cmpL, Tr]
  | [], [], _ :: _ => by simp [cmpL, Tr]
  | [], _ :: _, [] => by simp [cmpL, Tr]
  | [], _ :: _, _ :: _ => by simp [cmpL, Tr]
  | _ :: _, [], [] => by simp [cmpL, Tr]
  | _ :: _, [], _ :: _ => by simp [cmpL, Tr]
  | _ :: _, _ :: _, [] => by simp [cmpL, Tr]
  | a :: x, b :: y, c :: z => by rw [cmpL_cons, cmpL_cons, cmpL_cons]; exact lex_tr (cmpV_tr a b c) (cmpV_back a b c) (cmpL_tr x y z)
theorem cmpL_zero_len {x y : List Vl} (h : cmpL x y = 0) : x.length = y.length := by rw [cmpL_zero h]

end Go.Proofs.YtmmdbacejdhdaaaGreatDoor
