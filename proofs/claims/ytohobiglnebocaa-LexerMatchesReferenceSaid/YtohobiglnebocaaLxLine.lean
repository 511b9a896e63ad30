/-
  The line and the byte of an offset.
-/
import Derived.Test.YtohobiglnebocaaLxSame
namespace Go.Proofs.Ytohobiglnebocaa.Lx
open Go Go.RowKit Go.Shelf Go.Sort Go.ChangeShapes Go.WideShapes Go.ChangeAt
open Go.Proofs.Ytohobiglnebocaa

/-- The line and the byte behind a beginning of a source. -/
def lnS : List UInt8 → Nat × Nat → Nat × Nat
  | [], p => p
  | b :: l, p => lnS l (if b.toNat = 10 then (p.1 + 1, 1) else (p.1, p.2 + 1))
def lineS (s : List UInt8) (at_ : Int) : Nat × Nat := lnS (s.take (min (max at_ 0).toNat s.length)) (1, 1)
theorem lnS_append : ∀ (a b : List UInt8) (p : Nat × Nat), lnS (a ++ b) p = lnS b (lnS a p)
  | [], _, _ => rfl
  | x :: a, b, p => by rw [List.cons_append, lnS, lnS, lnS_append a b]
theorem lnS_snoc (s : List UInt8) (k : Nat) (hk : k < s.length) (p : Nat × Nat) : lnS (s.take (k + 1)) p = if (s[k]?.getD 0).toNat = 10 then ((lnS (s.take k) p).1 + 1, 1) else ((lnS (s.take k) p).1, (lnS (s.take k) p).2 + 1) := by
  rw [List.take_add_one, List.getElem?_eq_getElem hk, lnS_append]; rfl
theorem ten_iff (b : UInt8) : b.toNat = 10 ↔ b = 10 := (byte_nat b 10 (by decide)).symm
theorem lnS_count (l : List UInt8) : ∀ p, (lnS l p).1 = p.1 + Lib.countByte l 10 := by
  unfold Lib.countByte
  induction l with
  | nil => intro p; rfl
  | cons b l ih =>
    intro p
    rw [lnS, ih, List.count_cons]
    by_cases h : b = 10
    · subst h; simp; omega
    · have h2 : ¬ b.toNat = 10 := fun e => h ((ten_iff b).1 e)
      rw [if_neg h2, if_neg (by simpa using h)]; rfl
theorem bang_at (s : List UInt8) (k : Nat) (h : k < s.length) : (bsOf s).data[k]! = s[k]?.getD 0 := by
  rw [getElem!_pos (bsOf s).data k (by simp [bsOf]; omega), List.getElem?_eq_getElem (by omega)]
  rfl
theorem lnS_last (s : List UInt8) : ∀ k, k ≤ s.length → ((lnS (s.take k) (1, 1)).2 : Int) = 1 + k - (Lib.lastIdx (bsOf s) 10 k + 1)
  | 0, _ => by unfold Lib.lastIdx; rfl
  | k + 1, hk => by
    have hb := bang_at s k (by omega)
    have ih := lnS_last s k (by omega)
    rw [lnS_snoc s k (by omega)]
    unfold Lib.lastIdx
    rw [hb]
    by_cases h : (s[k]?.getD 0).toNat = 10
    · rw [if_pos h, if_pos (by omega)]; simp
    · rw [if_neg h, if_neg (by omega)]; simp; omega

set_option maxRecDepth 100000 in
theorem line_prog (s : List UInt8) (at_ : Int) (hs : s.length ≤ 9223372036854775) (w : World) : Calls Try.prog 33 #[.string (bsOf s), .int .i64 at_] w fun e w' => e = .returned (.tuple #[.int .i64 ((lineS s at_).1 : Int), .int .i64 ((lineS s at_).2 : Int)]) ∧ w = w' := by
  have hz := bs_size s
  obtain ⟨m, hm⟩ : ∃ m, (min (max at_ 0).toNat s.length) = m := ⟨_, rfl⟩
  have hms : m ≤ s.length := by omega
  have hmin : min (max at_ 0) ((bsOf s).size : Int) = (m : Int) := by omega
  have hmz : m ≤ (bsOf s).size := by omega
  have hcut : (bsOf s).extract 0 m = bsOf (s.take m) := by rw [bs_cut]; rfl
  have htz : (bsOf (s.take m)).size = m := by rw [bs_size, List.length_take]; omega
  have HE : Hid (lineS s at_ = lnS (s.take m) (1, 1)) := by show _ = _; unfold lineS; rw [hm]
  have h1 := lnS_count (s.take m) (1, 1)
  have h2 := lnS_last s m hms
  have h2b : Lib.lastIdx (bsOf (s.take m)) 10 m = Lib.lastIdx (bsOf s) 10 m := by
    have : ∀ k, k ≤ m → Lib.lastIdx (bsOf (s.take m)) 10 k = Lib.lastIdx (bsOf s) 10 k := by
      intro k
      induction k with
      | zero => intro _; rfl
      | succ k ih =>
        intro hk
        unfold Lib.lastIdx
        rw [ih (by omega)]
        have e : (bsOf (s.take m)).data[k]! = (bsOf s).data[k]! := by
          rw [bang_at _ k (by rw [List.length_take]; omega), bang_at _ k (by omega), List.getElem?_take_of_lt hk]
        rw [e]
    exact this m (Nat.le_refl _)
  have HLI := Lib.hid (fun w => Try.strings_LastIndex_one (bsOf (s.take m)) ⟨#[10]⟩ rfl (by rw [htz]; omega) w)
  have HCT := Lib.hid (fun w => Try.strings_Count_one (bsOf (s.take m)) 10 w)
  rw [bs_data] at HCT
  change Hid (∀ w, Calls _ _ _ _ fun e w' => e = .returned (.int .i64 (Lib.lastIndexByte (bsOf (s.take m)) 10)) ∧ w' = w) at HLI
  unfold Lib.lastIndexByte at HLI
  rw [htz, h2b] at HLI
  have hlb := Lib.lastIdx_spec (bsOf s) 10 m
  obtain ⟨li, hli⟩ : ∃ li, Lib.lastIdx (bsOf s) 10 m = li := ⟨_, rfl⟩
  rw [hli] at HLI hlb h2
  have hl1 : -1 ≤ li := by rcases hlb with h | ⟨i, _, h, _⟩ <;> omega
  have hl2 : li < m := by rcases hlb with h | ⟨i, _, h, _⟩ <;> omega
  obtain ⟨ct, hct⟩ : ∃ ct, Lib.countByte (s.take m) 10 = ct := ⟨_, rfl⟩
  have hcm : ct ≤ m := by
    rw [← hct]
    have := List.count_le_length (a := (10 : UInt8)) (l := s.take m)
    rw [List.length_take] at this
    unfold Lib.countByte; omega
  rw [hct] at HCT h1
  obtain ⟨q, hq⟩ : ∃ q, lnS (s.take m) (1, 1) = q := ⟨_, rfl⟩
  rw [hq] at HE h1 h2
  have H1 : Hid ((q.1 : Int) = 1 + (ct : Int)) := by have h1 : q.1 = 1 + ct := h1; show _ = _; omega
  have H2 : Hid ((q.2 : Int) = 1 + (m : Int) - (li + 1)) := h2
  clear h1 h2 h2b hlb hli hct hq hm
  have hm62 : (m : Int) ≤ 9223372036854775 := by omega
  have hcm2 : (ct : Int) ≤ 9223372036854775 := by omega
  have htz2 : (bsOf (s.take m)).size = m := htz
  generalize lineS s at_ = r at *
  generalize bsOf s = S at *
  obtain ⟨A, hA⟩ : ∃ A, bsOf (s.take m) = A := ⟨_, rfl⟩
  rw [hA] at HLI HCT hcut htz2 htz
  clear hA htz hz hms hs
  go_enter Try.func33, Try.ntmps33
  go_wp2_with (first
    | (go_at_call 47; ((with_reducible refine (HLI.out _).mono ?_); rintro e w' ⟨rfl, rfl⟩))
    | (go_at_call 48; ((with_reducible refine (HCT.out _).mono ?_); rintro e w' ⟨rfl, rfl⟩)))
  go_ret2
  exact ⟨by rw [HE.out, H1.out, H2.out]; rfl, rfl⟩

end Go.Proofs.Ytohobiglnebocaa.Lx
