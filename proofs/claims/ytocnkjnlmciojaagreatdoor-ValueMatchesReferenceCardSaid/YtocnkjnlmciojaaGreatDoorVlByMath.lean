/-
  Byte forms of values, mathematically: what is written is read back, whatever follows; what is read was written so; a proper beginning is too short.
-/
import Derived.Test.YtocnkjnlmciojaaGreatDoorVlReadL
import Derived.Test.YtocnkjnlmciojaaGreatDoorDcRd
namespace Go.Proofs.YtocnkjnlmciojaaGreatDoor
open Go Go.RowKit

theorem rdV_cons (x : Int) (r : List Int) : rdV (x :: r) = if x = 0 then (Vl.null, 1, 0) else if x = 1 then one (rdBool r) else if x = 2 then one (rdNum r) else if x = 3 then one (rdTxt r) else (Vl.null, 0, 5) := rfl
theorem one_ok {q : Vl × Nat × Int} {v : Vl} {c : Nat} (h : one q = (v, c, 0)) : q.2.2 = 0 ∧ v = q.1 ∧ c = q.2.1 + 1 := by
  unfold one at h
  by_cases h0 : q.2.2 = 0
  · rw [if_pos h0] at h
    injection h with h1 h2
    injection h2 with h2 _
    exact ⟨h0, h1.symm, h2.symm⟩
  · rw [if_neg h0] at h
    rw [h] at h0
    exact absurd rfl h0
theorem one_err {q : Vl × Nat × Int} {x : Int} (h : q.2.2 = x) (hx : x ≠ 0) : (one q).2.2 = x := by
  unfold one
  rw [if_neg (by rw [h]; exact hx)]
  exact h
theorem one_goodQ {q : Vl × Nat × Int} {v : Vl} {c : Nat} (h : q = (v, c, 0)) : one q = (v, c + 1, 0) := by subst h; rfl

theorem zz_nat {i : Int} (hi : I64 i) : (((zz i).toNat : Nat) : Int) = zz i ∧ (zz i).toNat < 18446744073709551616 := by
  have h := zz_u64 hi
  have h1 := h.1
  have h2 := h.2
  omega

theorem txt_len {s : List UInt8} (h : txtB s = true) : s.length ≤ 40 := by
  unfold txtB at h
  rw [Bool.and_eq_true] at h
  exact of_decide_eq_true h.1

theorem ok_k {k i : Int} {s : List UInt8} (h : k = 0 ∨ k = 1 ∨ k = 2 ∨ k = 3) (hi : I64 i) (hs : s.length ≤ 1048576) : (⟨k, i, s⟩ : Vl).Ok := ⟨⟨by show _ ≤ k; omega, by show k ≤ _; omega⟩, hi, hs⟩

/-- What is written is read back. -/
theorem rd_bytes {v : Vl} (hv : I64 v.i) (hw : widV v = true) (r : List Int) : rdV (bytesV v ++ r) = (v, (bytesV v).length, 0) := by
  obtain ⟨k, i, s⟩ := v
  dsimp only at hv
  rcases wid_parts hw with ⟨h0, h1, h2⟩ | ⟨h0, h1, h2⟩ | ⟨h0, h2⟩ | ⟨h0, h1, h2⟩
  · dsimp only at h0 h1 h2; subst h0 h1 h2; rfl
  · dsimp only at h0 h1 h2; subst h0 h2
    show rdV (1 :: i :: r) = _
    rw [rdV_cons, if_neg (by decide), if_pos rfl]
    refine one_goodQ (c := 1) ?_
    show (if i = 0 ∨ i = 1 then (⟨1, i, []⟩, 1, 0) else (Vl.null, 0, 5)) = _
    exact if_pos h1
  · dsimp only at h0 h2; subst h0 h2
    show rdV (2 :: (varN (zz i).toNat ++ r)) = (_, (varN (zz i).toNat).length + 1, 0)
    rw [rdV_cons, if_neg (by decide), if_neg (by decide), if_pos rfl]
    obtain ⟨e1, e2⟩ := zz_nat hv
    have hg := num_good (rdS_var5 (zz i).toNat e2 r)
    rw [e1, uz_zz, hw, if_pos rfl] at hg
    exact one_goodQ hg
  · dsimp only at h0 h1 h2; subst h0 h1
    have hl := txt_len h2
    show rdV (3 :: ((varN s.length ++ strI s) ++ r)) = (_, (varN s.length ++ strI s).length + 1, 0)
    rw [rdV_cons, if_neg (by decide), if_neg (by decide), if_neg (by decide), if_pos rfl, List.append_assoc]
    have hd : (varN s.length ++ (strI s ++ r)).drop (varN s.length).length = strI s ++ r := List.drop_left' rfl
    have ht : (strI s ++ r).take s.length = strI s := List.take_left' (strI_len s)
    have hg := txt_good (rdS_var5 s.length (by omega) (strI s ++ r)) (by omega) (by rw [hd, List.length_append, strI_len]; omega)
    rw [hd, ht, strU_strI, if_pos h2] at hg
    rw [List.length_append, strI_len]
    exact one_goodQ hg

/-- What is read was written so. -/
theorem rd_canon {bs : List Int} (ho : Oct bs) {v : Vl} {c : Nat} (h : rdV bs = (v, c, 0)) : widV v = true ∧ v.Ok ∧ c = (bytesV v).length ∧ bs = bytesV v ++ bs.drop c := by
  rcases bs with _ | ⟨x, r⟩
  · have h9 : (7 : Int) = 0 := congrArg (fun q => q.2.2) h
    omega
  · have hor : Oct r := fun y hy => ho y (List.mem_cons_of_mem _ hy)
    have dc : ∀ n, (x :: r).drop (n + 1) = r.drop n := fun n => rfl
    rw [rdV_cons] at h
    by_cases h0 : x = 0
    · subst h0
      rw [if_pos rfl] at h
      injection h with h1 h2
      injection h2 with h2 _
      subst h1 h2
      exact ⟨by decide, ⟨⟨by decide, by decide⟩, ⟨by decide, by decide⟩, by decide⟩, rfl, rfl⟩
    · rw [if_neg h0] at h
      by_cases h1 : x = 1
      · subst h1
        rw [if_pos rfl] at h
        obtain ⟨e0, e1, e2⟩ := one_ok h
        rcases r with _ | ⟨y, r⟩
        · exact absurd e0 (by decide)
        · have hq : rdBool (y :: r) = if y = 0 ∨ y = 1 then (⟨1, y, []⟩, 1, 0) else (Vl.null, 0, 5) := rfl
          by_cases hy : y = 0 ∨ y = 1
          · rw [if_pos hy] at hq
            rw [hq] at e1 e2
            subst e1 e2
            refine ⟨?_, ok_k (.inr (.inl rfl)) ?_ (Nat.zero_le _), rfl, rfl⟩
            · rcases hy with rfl | rfl <;> decide
            · rcases hy with rfl | rfl <;> exact ⟨by decide, by decide⟩
          · rw [if_neg hy] at hq
            rw [hq] at e0
            exact absurd e0 (by decide)
      · rw [if_neg h1] at h
        by_cases h2 : x = 2
        · subst h2
          rw [if_pos rfl] at h
          obtain ⟨e0, e1, e2⟩ := one_ok h
          have hu := rdS_u645 hor
          obtain ⟨u, n, z, hq⟩ : ∃ u n z, rdS r = (u, n, z) := ⟨_, _, _, rfl⟩
          by_cases hz : z = 0
          · subst hz
            rw [hq] at hu
            have hu : U64 u := hu
            have hg := num_good hq
            by_cases hw : widV ⟨2, uz u, []⟩ = true
            · rw [if_pos hw] at hg
              rw [hg] at e1 e2
              dsimp only at e1 e2
              obtain ⟨c1, c2, c3⟩ := rdS_canon5 hor hq
              have hb : bytesV ⟨2, uz u, []⟩ = 2 :: varN u.toNat := by show 2 :: varN (zz (uz u)).toNat = _; rw [zz_uz hu]
              subst e1
              refine ⟨hw, ok_k (.inr (.inr (.inl rfl))) (uz_i64 hu) (Nat.zero_le _), by rw [hb, e2, c2]; rfl, ?_⟩
              rw [hb, e2, dc]
              exact congrArg (fun t => (2 : Int) :: t) c3
            · rw [if_neg hw] at hg
              rw [hg] at e0
              exact absurd e0 (by decide)
          · have hg := num_bad (r := r) (x := z) (by rw [hq]) hz
            rw [hg] at e0
            exact absurd e0 hz
        · rw [if_neg h2] at h
          by_cases h3 : x = 3
          · subst h3
            rw [if_pos rfl] at h
            obtain ⟨e0, e1, e2⟩ := one_ok h
            have hu := rdS_u645 hor
            obtain ⟨u, n, z, hq⟩ : ∃ u n z, rdS r = (u, n, z) := ⟨_, _, _, rfl⟩
            by_cases hz : z = 0
            · subst hz
              rw [hq] at hu
              have hu : U64 u := hu
              obtain ⟨m, rfl⟩ : ∃ m : Nat, u = m := ⟨u.toNat, by have := hu.1; omega⟩
              by_cases h40 : 40 < (m : Int)
              · rw [txt_big hq h40] at e0
                exact absurd e0 (by decide)
              · by_cases hl : ((r.drop n).length : Int) < (m : Int)
                · rw [txt_short hq h40 hl] at e0
                  exact absurd e0 (by decide)
                · have hg := txt_good hq h40 hl
                  by_cases ht : txtB (strU ((r.drop n).take m)) = true
                  · rw [if_pos ht] at hg
                    rw [hg] at e1 e2
                    dsimp only at e1 e2
                    obtain ⟨c1, c2, c3⟩ := rdS_canon5 hor hq
                    have hlen : (strU ((r.drop n).take m)).length = m := by rw [strU_len, List.length_take]; omega
                    have hb : bytesV ⟨3, 0, strU ((r.drop n).take m)⟩ = 3 :: (varN m ++ (r.drop n).take m) := by
                      show 3 :: (varN (strU ((r.drop n).take m)).length ++ strI (strU ((r.drop n).take m))) = _
                      rw [hlen, strI_strU ((hor.drop n).take m)]
                    have hc2 : n = (varN m).length := c2
                    have hc3 : r = varN m ++ r.drop n := c3
                    have htl : ((r.drop n).take m).length = m := by rw [List.length_take]; omega
                    subst e1
                    refine ⟨?_, ok_k (.inr (.inr (.inr rfl))) ⟨by decide, by decide⟩ ?_, ?_, ?_⟩
                    · have : vldV ⟨3, 0, strU ((r.drop n).take m)⟩ = (decide ((0 : Int) = 0) && txtB (strU ((r.drop n).take m))) := rfl
                      unfold widV
                      rw [this, ht]; rfl
                    · show (strU ((r.drop n).take m)).length ≤ _
                      rw [hlen]; omega
                    · rw [hb, e2]
                      show n + m + 1 = (varN m ++ (r.drop n).take m).length + 1
                      rw [List.length_append, htl, ← hc2]
                    · rw [hb, e2, dc]
                      show 3 :: r = 3 :: (varN m ++ (r.drop n).take m ++ r.drop (n + m))
                      rw [List.append_assoc, ← List.drop_drop, List.take_append_drop, ← hc3]
                  · rw [if_neg ht] at hg
                    rw [hg] at e0
                    exact absurd e0 (by decide)
            · have hg := txt_err (r := r) (x := z) (by rw [hq]) hz
              rw [hg] at e0
              exact absurd e0 hz
          · rw [if_neg h3] at h
            have h9 : (5 : Int) = 0 := congrArg (fun q => q.2.2) h
            omega

/-- A proper beginning is too short. -/
theorem rd_short {v : Vl} (hv : I64 v.i) (hw : widV v = true) (m : Nat) (hm : m < (bytesV v).length) : (rdV ((bytesV v).take m)).2.2 = 7 := by
  obtain ⟨k, i, s⟩ := v
  dsimp only at hv
  rcases m with _ | m
  · rw [List.take_zero]; rfl
  · rcases wid_parts hw with ⟨h0, h1, h2⟩ | ⟨h0, h1, h2⟩ | ⟨h0, h2⟩ | ⟨h0, h1, h2⟩
    · dsimp only at h0 h1 h2; subst h0 h1 h2
      have : m + 1 < 1 := hm
      omega
    · dsimp only at h0 h1 h2; subst h0 h2
      have : m + 1 < 2 := hm
      obtain rfl : m = 0 := by omega
      rfl
    · dsimp only at h0 h2; subst h0 h2
      have hm : m + 1 < (varN (zz i).toNat).length + 1 := hm
      show (rdV (2 :: (varN (zz i).toNat).take m)).2.2 = 7
      rw [rdV_cons, if_neg (by decide), if_neg (by decide), if_pos rfl]
      obtain ⟨e1, e2⟩ := zz_nat hv
      exact one_err (by rw [num_bad (rdS_short5 (zz i).toNat e2 m (by omega)) (by decide)]) (by decide)
    · dsimp only at h0 h1 h2; subst h0 h1
      have hl := txt_len h2
      have hm : m + 1 < (varN s.length ++ strI s).length + 1 := hm
      rw [List.length_append, strI_len] at hm
      show (rdV (3 :: (varN s.length ++ strI s).take m)).2.2 = 7
      rw [rdV_cons, if_neg (by decide), if_neg (by decide), if_neg (by decide), if_pos rfl]
      refine one_err ?_ (by decide)
      by_cases h : m < (varN s.length).length
      · rw [List.take_append_of_le_length (by omega), txt_err (rdS_short5 s.length (by omega) m h) (by decide)]
      · obtain ⟨q, rfl⟩ : ∃ q, m = (varN s.length).length + q := ⟨m - (varN s.length).length, by omega⟩
        rw [List.take_length_add_append]
        have hd : (varN s.length ++ (strI s).take q).drop (varN s.length).length = (strI s).take q := List.drop_left' rfl
        rw [txt_short (rdS_var5 s.length (by omega) ((strI s).take q)) (by omega) (by rw [hd, List.length_take, strI_len]; omega)]

/-! ### Lists -/

def flatV (vs : List Vl) : List Int := vs.flatMap bytesV
def listV (vs : List Vl) : List Int := varN vs.length ++ flatV vs
theorem flatV_cons (v : Vl) (r : List Vl) : flatV (v :: r) = bytesV v ++ flatV r := rfl
theorem flatV_append (a b : List Vl) : flatV (a ++ b) = flatV a ++ flatV b := List.flatMap_append
/-- All are wide, and their numbers are a machine's. -/
def Wides (vs : List Vl) : Prop := ∀ v ∈ vs, widV v = true ∧ v.Ok
theorem Wides.tail {v : Vl} {r : List Vl} (h : Wides (v :: r)) : Wides r := fun u hu => h u (List.mem_cons_of_mem _ hu)
theorem Wides.head {v : Vl} {r : List Vl} (h : Wides (v :: r)) : widV v = true ∧ v.Ok := h v (List.mem_cons_self ..)
theorem Wides.snoc {r : List Vl} {v : Vl} (h : Wides r) (h1 : widV v = true) (h2 : v.Ok) : Wides (r ++ [v]) := fun u hu => by
  rcases List.mem_append.1 hu with hu | hu
  · exact h u hu
  · rw [List.mem_singleton] at hu; subst hu; exact ⟨h1, h2⟩
theorem Wides.short {vs : List Vl} (h : Wides vs) : ∀ v ∈ vs, v.s.length ≤ 1048576 := fun v hv => (h v hv).2.s

theorem bytes_oct {v : Vl} (hw : widV v = true) : Oct (bytesV v) := by
  obtain ⟨k, i, s⟩ := v
  rcases wid_parts hw with ⟨h0, h1, h2⟩ | ⟨h0, h1, h2⟩ | ⟨h0, h2⟩ | ⟨h0, h1, h2⟩
  · dsimp only at h0 h1 h2; subst h0 h1 h2
    exact fun x hx => by rw [show bytesV ⟨0, 0, []⟩ = [0] from rfl, List.mem_singleton] at hx; omega
  · dsimp only at h0 h1 h2; subst h0 h2
    intro x hx
    rw [show bytesV ⟨1, i, []⟩ = [1, i] from rfl] at hx
    simp at hx
    omega
  · dsimp only at h0 h2; subst h0 h2
    intro x hx
    rw [show bytesV ⟨2, i, []⟩ = 2 :: varN (zz i).toNat from rfl, List.mem_cons] at hx
    rcases hx with rfl | hx
    · decide
    · exact var_oct _ x hx
  · dsimp only at h0 h1 h2; subst h0 h1
    intro x hx
    rw [show bytesV ⟨3, 0, s⟩ = 3 :: (varN s.length ++ strI s) from rfl, List.mem_cons] at hx
    rcases hx with rfl | hx
    · decide
    · exact ((var_oct _).append (strI_oct _)) x hx
theorem flat_oct : ∀ {vs : List Vl}, Wides vs → Oct (flatV vs)
  | [], _ => Oct.nil
  | v :: r, h => by rw [flatV_cons]; exact (bytes_oct h.head.1).append (flat_oct h.tail)
theorem list_oct {vs : List Vl} (h : Wides vs) : Oct (listV vs) := (var_oct _).append (flat_oct h)
theorem bytes_len {v : Vl} (hw : widV v = true) (hv : I64 v.i) : 1 ≤ (bytesV v).length ∧ (bytesV v).length ≤ 100 := by
  obtain ⟨k, i, s⟩ := v
  rcases wid_parts hw with ⟨h0, h1, h2⟩ | ⟨h0, h1, h2⟩ | ⟨h0, h2⟩ | ⟨h0, h1, h2⟩
  · dsimp only at h0 h1 h2; subst h0 h1 h2; exact ⟨by decide, by decide⟩
  · dsimp only at h0 h1 h2; subst h0 h2; exact ⟨Nat.le_of_ble_eq_true rfl, Nat.le_of_ble_eq_true rfl⟩
  · dsimp only at h0 h2; subst h0 h2
    have hv : I64 i := hv
    have := var_len (zz_nat hv).2
    rw [show bytesV ⟨2, i, []⟩ = 2 :: varN (zz i).toNat from rfl, List.length_cons]; omega
  · dsimp only at h0 h1 h2; subst h0 h1
    have hl := txt_len h2
    have := var_len (u := s.length) (by omega)
    rw [show bytesV ⟨3, 0, s⟩ = 3 :: (varN s.length ++ strI s) from rfl, List.length_cons, List.length_append, strI_len]; omega
theorem flat_len : ∀ {vs : List Vl}, Wides vs → (flatV vs).length ≤ 100 * vs.length
  | [], _ => Nat.le_refl _
  | v :: r, h => by
    have h1 := flat_len h.tail
    have h2 := (bytes_len h.head.1 h.head.2.i).2
    rw [flatV_cons, List.length_append, List.length_cons]; omega
theorem list_len {vs : List Vl} (h : Wides vs) (hl : vs.length < 18446744073709551616) : 1 ≤ (listV vs).length ∧ (listV vs).length ≤ 10 + 100 * vs.length := by
  have h1 := flat_len h
  have h2 := var_len (u := vs.length) hl
  have h3 := var_pos vs.length
  unfold listV
  rw [List.length_append]; omega

theorem rdG_step {n : Nat} {acc : List Vl} {bs : List Int} {v : Vl} {c : Nat} (h : rdV bs = (v, c, 0)) : rdG (n + 1) acc bs = rdG n (acc ++ [v]) (bs.drop c) := by
  rw [rdG, if_neg (by rw [h]; exact fun e => e rfl), h]
theorem rdG_err {n : Nat} {acc : List Vl} {bs : List Int} {x : Int} (h : (rdV bs).2.2 = x) (hx : x ≠ 0) : rdG (n + 1) acc bs = ([], [], x) := by
  rw [rdG, if_pos (by rw [h]; exact hx), h]
theorem rdG_bytes : ∀ (vs acc : List Vl) (r : List Int), Wides vs → rdG vs.length acc (flatV vs ++ r) = (acc ++ vs, r, 0)
  | [], acc, r, _ => by rw [List.append_nil]; rfl
  | v :: t, acc, r, h => by
    rw [flatV_cons, List.append_assoc, List.length_cons, rdG_step (rd_bytes h.head.2.i h.head.1 (flatV t ++ r)), List.drop_left' rfl, rdG_bytes t (acc ++ [v]) r h.tail, List.append_assoc]; rfl
theorem rdL_bytes {vs : List Vl} (h : Wides vs) (hl : vs.length ≤ 4096) (r : List Int) : rdL (listV vs ++ r) = (vs, r, 0) := by
  unfold listV
  rw [List.append_assoc, l_good (rdS_var5 vs.length (by omega) (flatV vs ++ r)) (by omega), List.drop_left' rfl, rdG_bytes vs [] r h]; rfl
theorem rdG_canon : ∀ (n : Nat) (acc : List Vl) (bs : List Int) (vs : List Vl) (rest : List Int), Oct bs → rdG n acc bs = (vs, rest, 0) → ∃ us, vs = acc ++ us ∧ us.length = n ∧ Wides us ∧ bs = flatV us ++ rest
  | 0, acc, bs, vs, rest, _, h => by
    injection h with h1 h2
    injection h2 with h2 _
    exact ⟨[], by rw [List.append_nil]; exact h1.symm, rfl, fun v hv => (by cases hv), h2⟩
  | n + 1, acc, bs, vs, rest, ho, h => by
    obtain ⟨v, c, z, hq⟩ : ∃ v c z, rdV bs = (v, c, z) := ⟨_, _, _, rfl⟩
    by_cases hz : z = 0
    · subst hz
      rw [rdG_step hq] at h
      obtain ⟨c1, c2, c3, c4⟩ := rd_canon ho hq
      obtain ⟨us, e1, e2, e3, e4⟩ := rdG_canon n (acc ++ [v]) (bs.drop c) vs rest (ho.drop c) h
      refine ⟨v :: us, by rw [e1, List.append_assoc]; rfl, by rw [List.length_cons, e2], fun u hu => ?_, ?_⟩
      · rcases List.mem_cons.1 hu with rfl | hu
        · exact ⟨c1, c2⟩
        · exact e3 u hu
      · rw [flatV_cons, List.append_assoc, ← e4]; exact c4
    · rw [rdG_err (x := z) (by rw [hq]) hz] at h
      exact absurd (congrArg (fun q => q.2.2) h) hz
theorem rdL_canon {bs : List Int} (ho : Oct bs) {vs : List Vl} {rest : List Int} (h : rdL bs = (vs, rest, 0)) : Wides vs ∧ vs.length ≤ 4096 ∧ bs = listV vs ++ rest := by
  obtain ⟨u, c, z, hq⟩ : ∃ u c z, rdS bs = (u, c, z) := ⟨_, _, _, rfl⟩
  by_cases hz : z = 0
  · subst hz
    have hu := rdS_u645 ho
    rw [hq] at hu
    have hu : U64 u := hu
    obtain ⟨m, rfl⟩ : ∃ m : Nat, u = m := ⟨u.toNat, by have := hu.1; omega⟩
    by_cases h4 : 4096 < (m : Int)
    · rw [l_big hq h4] at h
      have h9 : (5 : Int) = 0 := congrArg (fun q => q.2.2) h
      omega
    · rw [l_good hq h4] at h
      obtain ⟨us, e1, e2, e3, e4⟩ := rdG_canon m [] (bs.drop c) vs rest (ho.drop c) h
      rw [List.nil_append] at e1
      subst e1
      obtain ⟨_, _, c3⟩ := rdS_canon5 ho hq
      have c3 : bs = varN m ++ bs.drop c := c3
      refine ⟨e3, by omega, ?_⟩
      unfold listV
      rw [e2, List.append_assoc, ← e4]; exact c3
  · rw [l_err (x := z) (by rw [hq]) hz] at h
    exact absurd (congrArg (fun q => q.2.2) h) hz
theorem rdG_short : ∀ (vs acc : List Vl) (m : Nat), Wides vs → m < (flatV vs).length → (rdG vs.length acc ((flatV vs).take m)).2.2 = 7
  | [], _, m, _, hm => absurd hm (Nat.not_lt_zero m)
  | v :: t, acc, m, h, hm => by
    rw [flatV_cons, List.length_append] at hm
    rw [flatV_cons, List.length_cons]
    by_cases hl : m < (bytesV v).length
    · rw [List.take_append_of_le_length (by omega), rdG_err (rd_short h.head.2.i h.head.1 m hl) (by decide)]
    · obtain ⟨q, rfl⟩ : ∃ q, m = (bytesV v).length + q := ⟨m - (bytesV v).length, by omega⟩
      rw [List.take_length_add_append, rdG_step (rd_bytes h.head.2.i h.head.1 _), List.drop_left' rfl]
      exact rdG_short t (acc ++ [v]) q h.tail (by omega)
theorem rdL_short {vs : List Vl} (h : Wides vs) (hl : vs.length ≤ 4096) (m : Nat) (hm : m < (listV vs).length) : (rdL ((listV vs).take m)).2.2 = 7 := by
  unfold listV at hm ⊢
  rw [List.length_append] at hm
  by_cases hv : m < (varN vs.length).length
  · rw [List.take_append_of_le_length (by omega), l_err (rdS_short5 vs.length (by omega) m hv) (by decide)]
  · obtain ⟨q, rfl⟩ : ∃ q, m = (varN vs.length).length + q := ⟨m - (varN vs.length).length, by omega⟩
    rw [List.take_length_add_append, l_good (rdS_var5 vs.length (by omega) _) (by omega), List.drop_left' rfl]
    exact rdG_short vs [] q h (by omega)

end Go.Proofs.YtocnkjnlmciojaaGreatDoor

namespace Go.Proofs.YtocnkjnlmciojaaGreatDoor
open Go Go.RowKit Go.Shelf Go.ChangeShapes Go.WideShapes Go.ChangeAt

def wides (l : List Vl) : List Vl := l.filter fun v => widV v
theorem wides_step {x : List Vl} {k : Nat} (h : k < x.length) : wides (x.take (k + 1)) = if widV (x[k]?.getD Vl.null) = true then wides (x.take k) ++ [x[k]?.getD Vl.null] else wides (x.take k) := by
  unfold wides
  rw [List.take_add_one, List.getElem?_eq_getElem h, Option.toList_some, List.filter_append, Option.getD_some]
  by_cases hw : widV x[k] = true
  · rw [if_pos hw, List.filter_cons_of_pos hw]; rfl
  · rw [if_neg hw, List.filter_cons_of_neg hw]; simp
theorem wides_len (l : List Vl) : (wides l).length ≤ l.length := List.length_filter_le _ _
theorem wides_wide {l : List Vl} (h : ∀ v ∈ l, v.Ok) : Wides (wides l) := fun v hv => by
  have := List.mem_filter.1 hv
  exact ⟨this.2, h v this.1⟩
theorem ok_at {x : List Vl} (h : ∀ v ∈ x, v.Ok) {k : Nat} (hk : k < x.length) : (x[k]?.getD Vl.null).Ok := by
  rw [List.getElem?_eq_getElem hk]; exact h _ (List.getElem_mem hk)

/-- The first of a slice that reads. -/
theorem Rd.first' {K : Nat → Prop} {W : World} {k : IntKind} {a : Option Addr} {len cap : Nat} {zs : List Int} (h : Rd K W k a len cap zs) (m : Nat) (hm : m ≤ len) : Rd K W k a m cap (zs.take m) := by
  refine ⟨by rw [List.length_take, ← h.hl]; omega, Nat.le_trans hm h.fit, h.top, Nat.le_trans hm h.small, fun h0 => ?_⟩
  obtain ⟨b, off, e, hb, hlt, hc⟩ := h.cells (by omega)
  exact ⟨b, off, e, hb, hlt, fun j hj => by rw [hc j (by omega), List.getElem?_take_of_lt hj]⟩

end Go.Proofs.YtocnkjnlmciojaaGreatDoor
