/-
  Sources behind one another, beginnings of sources, spellings behind one another.
-/
import Derived.Test.YtohobiglnebocaaLxFwd
namespace Go.Proofs.Ytohobiglnebocaa.Lx
open Go

/-- The tokens of a rest, whatever the fuel. -/
theorem lx_fuel : ∀ (f g : Nat) (l : List UInt8) (o : Nat), l.length < f → l.length < g → lxF f l o = lxF g l o
  | 0, _, _, _, h, _ => absurd h (Nat.not_lt_zero _)
  | _ + 1, 0, _, _, _, h => absurd h (Nat.not_lt_zero _)
  | f + 1, g + 1, l, o, hf, hg => by
    by_cases hl : l = []
    · subst hl; rw [lx_end, lx_end]
    · cases hok : okR l
      · rw [lx_bad f o hl hok, lx_bad g o hl hok]
      · have h1 := lx_good f o [] hl hok
        have h2 := lx_good g o [] hl hok
        have hp := tk_pos hl
        have hlen : ((l.drop (tkR l).2.2).drop (ws (l.drop (tkR l).2.2))).length < l.length := by
          have := List.length_pos_iff.2 hl
          rw [List.length_drop, List.length_drop]; omega
        rw [lx_form] at h1 h2
        rw [h1, h2, lx_fuel f g _ _ (by omega) (by omega)]
def lxX (l : List UInt8) (o : Nat) : List Tk × Nat × Bool := lxF (l.length + 1) l o
/-- The tokens of a source at an offset. -/
def lxY (s : List UInt8) (o : Nat) : List Tk × Nat × Bool := lxX (s.drop (ws s)) (o + ws s)
theorem lxS_eq (s : List UInt8) : lxS s = lxY s 0 := by
  unfold lxS lxY lxX
  rw [Nat.zero_add]
  exact lx_fuel _ _ _ _ (by rw [List.length_drop]; omega) (by omega)
theorem x_nil (o : Nat) : lxX [] o = ([], 0, true) := lx_end 0 o
theorem x_bad {l : List UInt8} (o : Nat) (hl : l ≠ []) (h : okR l = false) : lxX l o = ([], o, false) := lx_bad _ o hl h
theorem x_good {l : List UInt8} (o : Nat) (hl : l ≠ []) {k : Int} {s : List UInt8} {n : Nat} (ht : tkR l = (k, s, n)) (h : okR l = true) : lxX l o = comb [⟨k, s, o⟩] (lxY (l.drop n) (o + n)) := by
  have h1 := lx_good l.length o [] hl h
  rw [lx_form, ht] at h1
  have hp := tk_pos hl
  rw [ht] at hp
  have hp : 0 < n := hp
  unfold lxX lxY
  rw [h1]
  show comb ([] ++ [⟨k, s, o⟩]) (lxF l.length ((l.drop n).drop (ws (l.drop n))) (o + n + ws (l.drop n))) = _
  rw [List.nil_append]
  have hlen := List.length_pos_iff.2 hl
  unfold lxX
  rw [lx_fuel l.length (((l.drop n).drop (ws (l.drop n))).length + 1) _ _ (by rw [List.length_drop, List.length_drop]; omega) (by omega)]
theorem comb_comb (a b : List Tk) (r : List Tk × Nat × Bool) : comb a (comb b r) = comb (a ++ b) r := by
  unfold comb
  cases h : r.2.2 <;> simp
theorem comb_ok (a : List Tk) (r : List Tk × Nat × Bool) : (comb a r).2.2 = r.2.2 := by
  unfold comb
  cases h : r.2.2 <;> simp
theorem comb_yes (a : List Tk) {r : List Tk × Nat × Bool} (h : r.2.2 = true) : comb a r = (a ++ r.1, 0, true) := by unfold comb; rw [if_pos h]
theorem comb_no (a : List Tk) {r : List Tk × Nat × Bool} (h : r.2.2 = false) : comb a r = ([], r.2.1, false) := by unfold comb; rw [if_neg (by rw [h]; decide)]
theorem y_form (s : List UInt8) (o : Nat) : comb [] (lxY s o) = lxY s o := lx_form _ _ _
theorem y_yes {s : List UInt8} {o : Nat} (h : (lxY s o).2.2 = true) : lxY s o = ((lxY s o).1, 0, true) := by
  have := y_form s o
  rw [comb_yes _ h] at this
  rw [← this]
theorem y_no {s : List UInt8} {o : Nat} (h : (lxY s o).2.2 = false) : lxY s o = ([], (lxY s o).2.1, false) := by
  have := y_form s o
  rw [comb_no _ h] at this
  rw [← this]

/-! ### At another offset -/

def shT (d : Nat) (t : Tk) : Tk := ⟨t.k, t.s, t.a + d⟩
def shR (d : Nat) (r : List Tk × Nat × Bool) : List Tk × Nat × Bool := if r.2.2 then (r.1.map (shT d), 0, true) else ([], r.2.1 + d, false)
theorem lx_shift (d : Nat) : ∀ (f : Nat) (l : List UInt8) (o : Nat), l.length < f → lxF f l (o + d) = shR d (lxF f l o)
  | 0, _, _, h => absurd h (Nat.not_lt_zero _)
  | f + 1, l, o, hf => by
    by_cases hl : l = []
    · subst hl; rw [lx_end, lx_end]; rfl
    · cases hok : okR l
      · rw [lx_bad f _ hl hok, lx_bad f o hl hok]; rfl
      · have h1 := lx_good f (o + d) [] hl hok
        have h2 := lx_good f o [] hl hok
        have hp := tk_pos hl
        have hlen : ((l.drop (tkR l).2.2).drop (ws (l.drop (tkR l).2.2))).length < l.length := by
          have := List.length_pos_iff.2 hl
          rw [List.length_drop, List.length_drop]; omega
        rw [lx_form] at h1 h2
        have ih := lx_shift d f ((l.drop (tkR l).2.2).drop (ws (l.drop (tkR l).2.2))) (o + (tkR l).2.2 + ws (l.drop (tkR l).2.2)) (by omega)
        rw [h1, h2, show o + d + (tkR l).2.2 + ws (l.drop (tkR l).2.2) = o + (tkR l).2.2 + ws (l.drop (tkR l).2.2) + d by omega, ih]
        generalize lxF f ((l.drop (tkR l).2.2).drop (ws (l.drop (tkR l).2.2))) (o + (tkR l).2.2 + ws (l.drop (tkR l).2.2)) = r
        unfold comb shR
        cases h : r.2.2 <;> simp [shT]
theorem y_shift (s : List UInt8) (o d : Nat) : lxY s (o + d) = shR d (lxY s o) := by
  unfold lxY lxX
  rw [show o + d + ws s = o + ws s + d by omega]
  exact lx_shift d _ _ _ (by omega)
theorem shR_ok (d : Nat) (r : List Tk × Nat × Bool) : (shR d r).2.2 = r.2.2 := by
  unfold shR
  cases h : r.2.2 <;> simp

/-! ### Behind one another -/

/-- Both sources. -/
theorem y_concat (b : List UInt8) : ∀ (n : Nat) (a : List UInt8) (o : Nat), a.length ≤ n → (lxY a o).2.2 = true → lxY (a ++ 10 :: b) o = comb (lxY a o).1 (lxY b (o + a.length + 1)) := by
  intro n
  induction n using Nat.strongRecOn with
  | ind n ih =>
    intro a o hn hok
    have hwl := ws_le false a
    by_cases hw : ws a = a.length
    · have h1 : ws (a ++ 10 :: b) = a.length + 1 + ws b := ws_whole false a b hw
      have h2 : lxY a o = ([], 0, true) := by unfold lxY; rw [hw, List.drop_length]; exact x_nil _
      rw [h2]
      have h3 : lxY (a ++ 10 :: b) o = lxY b (o + a.length + 1) := by
        unfold lxY
        rw [h1, show (a ++ 10 :: b).drop (a.length + 1 + ws b) = b.drop (ws b) by rw [Nat.add_assoc, ← List.drop_drop, List.drop_left, Nat.add_comm 1, List.drop_succ_cons], show o + (a.length + 1 + ws b) = o + a.length + 1 + ws b by omega]
      rw [h3]; exact (y_form _ _).symm
    · have hwlt : ws a < a.length := by unfold ws at hw ⊢; omega
      have h1 : ws (a ++ 10 :: b) = ws a := ws_more false a _ hwlt
      obtain ⟨l, hl⟩ : ∃ l, a.drop (ws a) = l := ⟨_, rfl⟩
      have hlen : l.length = a.length - ws a := by rw [← hl, List.length_drop]
      have hne : l ≠ [] := fun e => by rw [e] at hlen; simp at hlen; omega
      have e1 : lxY a o = lxX l (o + ws a) := by unfold lxY; rw [hl]
      have e2 : lxY (a ++ 10 :: b) o = lxX (l ++ 10 :: b) (o + ws a) := by
        unfold lxY
        rw [h1, List.drop_append_of_le_length (by omega), hl]
      obtain ⟨k, s, m, ht⟩ : ∃ k s m, tkR l = (k, s, m) := ⟨_, _, _, rfl⟩
      cases hor : okR l
      · rw [e1, x_bad _ hne hor] at hok; cases hok
      · obtain ⟨hv, hsp, hm, hmu⟩ := fwd hne ht hor
        have hpos : 0 < m := by have := tk_pos hne; rw [ht] at this; exact this
        have hmle : m ≤ l.length := by have := tk_le hne; rw [ht] at this; exact this
        have e3 : l ++ 10 :: b = spl k s ++ (l.drop m ++ 10 :: b) := by
          conv => lhs; rw [hsp]
          rw [List.append_assoc]
        have hmu2 := mun_more b hmu
        have ht2 : tkR (l ++ 10 :: b) = (k, s, m) := by rw [e3, back _ hv hmu2, ← hm]
        have hok2 : okR (l ++ 10 :: b) = true := by rw [e3]; exact back_ok _ hv hmu2
        have hd : (l ++ 10 :: b).drop m = l.drop m ++ 10 :: b := List.drop_append_of_le_length hmle
        rw [e1, x_good _ hne ht hor, comb_ok] at hok
        have hi := ih (l.drop m).length (by rw [List.length_drop]; omega) (l.drop m) (o + ws a + m) (Nat.le_refl _) hok
        rw [e2, x_good _ (by simp) ht2 hok2, hd, hi, e1, x_good _ hne ht hor, comb_comb, comb_yes _ hok]
        rw [show o + ws a + m + (l.drop m).length + 1 = o + a.length + 1 by rw [List.length_drop]; omega]
/-- The beginning up to an error, and where it is. -/
theorem y_ahead : ∀ (n : Nat) (a : List UInt8) (o : Nat), a.length ≤ n → (lxY a o).2.2 = false → o ≤ (lxY a o).2.1 ∧ (lxY a o).2.1 < o + a.length ∧ (lxY (a.take ((lxY a o).2.1 - o)) o).2.2 = true := by
  intro n
  induction n using Nat.strongRecOn with
  | ind n ih =>
    intro a o hn hok
    have hwl : ws a ≤ a.length := ws_le false a
    obtain ⟨l, hl⟩ : ∃ l, a.drop (ws a) = l := ⟨_, rfl⟩
    have hlen : l.length = a.length - ws a := by rw [← hl, List.length_drop]
    have e1 : lxY a o = lxX l (o + ws a) := by unfold lxY; rw [hl]
    have hne : l ≠ [] := fun e => by rw [e1, e, x_nil] at hok; cases hok
    have hlp := List.length_pos_iff.2 hne
    obtain ⟨k, s, m, ht⟩ : ∃ k s m, tkR l = (k, s, m) := ⟨_, _, _, rfl⟩
    cases hor : okR l
    · have e2 : lxY a o = ([], o + ws a, false) := by rw [e1, x_bad _ hne hor]
      rw [e2]
      refine ⟨by show o ≤ o + ws a; omega, by show o + ws a < _; omega, ?_⟩
      show (lxY (a.take (o + ws a - o)) o).2.2 = true
      rw [show o + ws a - o = ws a by omega]
      have h1 : ws (a.take (ws a)) = ws a := ws_cut false a (ws a) (Nat.le_refl _) hwl
      unfold lxY
      rw [h1, List.drop_eq_nil_of_le (by rw [List.length_take]; omega), x_nil]
    · obtain ⟨hv, hsp, hm, hmu⟩ := fwd hne ht hor
      have hpos : 0 < m := by have := tk_pos hne; rw [ht] at this; exact this
      have hmle : m ≤ l.length := by have := tk_le hne; rw [ht] at this; exact this
      have hok2 := hok
      rw [e1, x_good _ hne ht hor, comb_ok] at hok2
      have e2 : lxY a o = ([], (lxY (l.drop m) (o + ws a + m)).2.1, false) := by rw [e1, x_good _ hne ht hor, comb_no _ hok2]
      obtain ⟨i1, i2, i3⟩ := ih (l.drop m).length (by rw [List.length_drop]; omega) (l.drop m) (o + ws a + m) (Nat.le_refl _) hok2
      rw [e2]
      obtain ⟨p, hp⟩ : ∃ p, (lxY (l.drop m) (o + ws a + m)).2.1 = p := ⟨_, rfl⟩
      rw [hp] at i1 i2 i3 ⊢
      rw [List.length_drop] at i2
      refine ⟨by show o ≤ p; omega, by show p < _; omega, ?_⟩
      show (lxY (a.take (p - o)) o).2.2 = true
      have h1 : ws (a.take (p - o)) = ws a := ws_cut false a (p - o) (by unfold ws at *; omega) (by omega)
      have e3 : (a.take (p - o)).drop (ws a) = l.take (p - o - ws a) := by rw [List.drop_take, hl]
      have e4 : l.take (p - o - ws a) = spl k s ++ (l.drop m).take (p - o - ws a - m) := by
        conv => lhs; rw [hsp]
        rw [List.take_append, ← hm, List.take_of_length_le (by omega)]
      have hmu2 := mun_take (p - o - ws a - m) hmu
      have ht2 : tkR (l.take (p - o - ws a)) = (k, s, m) := by rw [e4, back _ hv hmu2, ← hm]
      have hok3 : okR (l.take (p - o - ws a)) = true := by rw [e4]; exact back_ok _ hv hmu2
      have hne2 : l.take (p - o - ws a) ≠ [] := by rw [e4]; exact fun e => spl_ne hv (List.append_eq_nil_iff.1 e).1
      unfold lxY
      rw [h1, e3, x_good _ hne2 ht2 hok3, comb_ok, List.drop_take]
      rw [show p - (o + ws a + m) = p - o - ws a - m by omega] at i3
      exact i3
/-- Where tokens are. -/
theorem y_at : ∀ (n : Nat) (a : List UInt8) (o : Nat), a.length ≤ n → ∀ t ∈ (lxY a o).1, (o : Int) ≤ t.a ∧ t.a < (o : Int) + a.length := by
  intro n
  induction n using Nat.strongRecOn with
  | ind n ih =>
    intro a o hn t htm
    have hwl : ws a ≤ a.length := ws_le false a
    obtain ⟨l, hl⟩ : ∃ l, a.drop (ws a) = l := ⟨_, rfl⟩
    have hlen : l.length = a.length - ws a := by rw [← hl, List.length_drop]
    have e1 : lxY a o = lxX l (o + ws a) := by unfold lxY; rw [hl]
    rw [e1] at htm
    by_cases hne : l = []
    · rw [hne, x_nil] at htm; cases htm
    · have hlp := List.length_pos_iff.2 hne
      obtain ⟨k, s, m, ht⟩ : ∃ k s m, tkR l = (k, s, m) := ⟨_, _, _, rfl⟩
      have hpos : 0 < m := by have := tk_pos hne; rw [ht] at this; exact this
      have hmle : m ≤ l.length := by have := tk_le hne; rw [ht] at this; exact this
      cases hor : okR l
      · rw [x_bad _ hne hor] at htm; cases htm
      · rw [x_good _ hne ht hor] at htm
        cases hy : (lxY (l.drop m) (o + ws a + m)).2.2
        · rw [comb_no _ hy] at htm; cases htm
        · rw [comb_yes _ hy] at htm
          rcases List.mem_append.1 htm with h | h
          · obtain rfl : t = ⟨k, s, ((o + ws a : Nat) : Int)⟩ := by simpa using h
            exact ⟨by show (o : Int) ≤ ((o + ws a : Nat) : Int); omega, by show ((o + ws a : Nat) : Int) < _; omega⟩
          · have := ih (l.drop m).length (by rw [List.length_drop]; omega) (l.drop m) (o + ws a + m) (Nat.le_refl _) t h
            rw [List.length_drop] at this
            omega
/-- A blank ahead. -/
theorem y_blank (a : List UInt8) (o : Nat) : lxY (32 :: a) o = lxY a (o + 1) := by
  unfold lxY
  have h1 : ws (32 :: a) = 1 + ws a := by
    show wsN false (32 :: a) = _
    rw [wsN, if_pos (by decide)]; rfl
  rw [h1, Nat.add_comm 1 (ws a), List.drop_succ_cons, show o + (ws a + 1) = o + 1 + ws a by omega]

end Go.Proofs.Ytohobiglnebocaa.Lx
