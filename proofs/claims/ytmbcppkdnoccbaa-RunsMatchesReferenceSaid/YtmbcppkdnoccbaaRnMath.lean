/-
  Runs and differences, as functions on lists; no program is named here.
-/
import Derived.Test.YtmbcppkdnoccbaaPkSpec
namespace Go.Proofs.Ytmbcppkdnoccbaa
open Go.RowKit

/-! ### Runs -/

/-- The runs of a list, each with its length. -/
def rl : List Int → List (Int × Nat)
  | [] => []
  | x :: r => match rl r with
    | [] => [(x, 1)]
    | (y, n) :: s => if x = y then (y, n + 1) :: s else (x, 1) :: (y, n) :: s

/-- The length of the first run. -/
def fr1 : List Int → Nat
  | [] => 0
  | x :: r => 1 + (r.takeWhile (fun y => y == x)).length

/-- The list that pairs of values and lengths stand for. -/
def ex (ps : List (Int × Nat)) : List Int := ps.flatMap fun p => List.replicate p.2 p.1

theorem rl_ne {x : Int} {r : List Int} : rl (x :: r) ≠ [] := by
  rw [rl]
  split
  · simp
  · split <;> simp

theorem rl_cons : ∀ (r : List Int) (x : Int), rl (x :: r) = (x, fr1 (x :: r)) :: rl ((x :: r).drop (fr1 (x :: r)))
  | [], x => rfl
  | y :: s, x => by
    have ih := rl_cons s y
    rw [rl, ih]
    by_cases h : x = y
    · subst h
      simp only [if_true]
      have e : fr1 (x :: x :: s) = 1 + fr1 (x :: s) := by simp [fr1]; omega
      rw [e, show 1 + fr1 (x :: s) = fr1 (x :: s) + 1 by omega, List.drop_succ_cons]
    · simp only [if_neg h]
      have e : fr1 (x :: y :: s) = 1 := by
        have : (y == x) = false := by simpa using fun h' => h h'.symm
        simp [fr1, this]
      rw [e, List.drop_succ_cons, List.drop_zero, ih]

theorem fr1_pos {l : List Int} (h : l ≠ []) : 1 ≤ fr1 l := by
  cases l with
  | nil => exact absurd rfl h
  | cons x r => simp [fr1]
theorem takeWhile_len (p : Int → Bool) (l : List Int) : (l.takeWhile p).length ≤ l.length := by
  induction l with
  | nil => simp
  | cons x r ih => rw [List.takeWhile_cons]; split <;> simp <;> omega
theorem fr1_le (l : List Int) : fr1 l ≤ l.length := by
  cases l with
  | nil => simp [fr1]
  | cons x r => have := takeWhile_len (fun y => y == x) r; simp [fr1]; omega

theorem ex_rl : ∀ zs : List Int, ex (rl zs) = zs
  | [] => rfl
  | x :: r => by
    have ih := ex_rl r
    rw [rl]
    split
    · rename_i h; rw [h] at ih; rw [← ih]; rfl
    · rename_i y n s h
      rw [h] at ih
      split
      · rename_i hxy
        subst hxy
        rw [← ih]
        simp [ex, List.replicate_succ]
      · rw [← ih]
        simp [ex]

/-- Are the pairs the runs of a list? -/
def okR : List (Int × Nat) → Prop
  | [] => True
  | (_, n) :: [] => 1 ≤ n
  | (x, n) :: (y, m) :: s => 1 ≤ n ∧ x ≠ y ∧ okR ((y, m) :: s)

theorem ok_rl : ∀ zs : List Int, okR (rl zs)
  | [] => trivial
  | x :: r => by
    have ih := ok_rl r
    rw [rl]
    split
    · exact Nat.le_refl 1
    · rename_i y n s h
      rw [h] at ih
      split
      · rename_i hxy
        cases s with
        | nil => exact Nat.le_add_left 1 n
        | cons q t => exact ⟨Nat.le_add_left 1 n, ih.2.1, ih.2.2⟩
      · rename_i hxy
        exact ⟨Nat.le_refl 1, hxy, ih⟩

theorem rl_rep_last (x : Int) : ∀ n : Nat, rl (List.replicate (n + 1) x) = [(x, n + 1)]
  | 0 => rfl
  | n + 1 => by rw [List.replicate_succ, rl, rl_rep_last x n]; simp
theorem rl_rep (x : Int) (ys : List Int) (y : Int) (m : Nat) (s : List (Int × Nat)) (h : rl ys = (y, m) :: s) (hne : x ≠ y) : ∀ n : Nat, rl (List.replicate (n + 1) x ++ ys) = (x, n + 1) :: (y, m) :: s
  | 0 => by rw [show List.replicate (0 + 1) x ++ ys = x :: ys from rfl, rl, h]; simp [hne]
  | n + 1 => by rw [List.replicate_succ, List.cons_append, rl, rl_rep x ys y m s h hne n]; simp

theorem rl_ex : ∀ ps : List (Int × Nat), okR ps → rl (ex ps) = ps
  | [], _ => rfl
  | (x, n) :: [], h => by
    have h : 1 ≤ n := h
    obtain ⟨k, rfl⟩ : ∃ k, n = k + 1 := ⟨n - 1, by omega⟩
    rw [show ex [(x, k + 1)] = List.replicate (k + 1) x by simp [ex]]
    exact rl_rep_last x k
  | (x, n) :: (y, m) :: s, h => by
    obtain ⟨h1, h2, h3⟩ := h
    obtain ⟨k, rfl⟩ : ∃ k, n = k + 1 := ⟨n - 1, by omega⟩
    have ih := rl_ex ((y, m) :: s) h3
    rw [show ex ((x, k + 1) :: (y, m) :: s) = List.replicate (k + 1) x ++ ex ((y, m) :: s) by simp [ex]]
    exact rl_rep x _ y m s ih h2 k

/-- The values and the lengths of the runs. -/
def vals (zs : List Int) : List Int := (rl zs).map (·.1)
def lens (zs : List Int) : List Int := (rl zs).map (fun p => (p.2 : Int))

theorem vals_length (zs : List Int) : (vals zs).length = (rl zs).length := List.length_map _
theorem lens_length (zs : List Int) : (lens zs).length = (rl zs).length := List.length_map _
theorem vals_at (zs : List Int) (i : Nat) (h : i < (rl zs).length) : (vals zs)[i]?.getD 0 = ((rl zs)[i]'h).1 := by
  unfold vals; rw [List.getElem?_map, List.getElem?_eq_getElem h]; rfl
theorem lens_at (zs : List Int) (i : Nat) (h : i < (rl zs).length) : (lens zs)[i]?.getD 0 = (((rl zs)[i]'h).2 : Int) := by
  unfold lens; rw [List.getElem?_map, List.getElem?_eq_getElem h]; rfl

/-- What is made of values and lengths that came in. -/
def pz (vs ns : List Int) : List (Int × Nat) := vs.zip (ns.map Int.toNat)
theorem pz_rl (zs : List Int) : pz (vals zs) (lens zs) = rl zs := by
  unfold pz vals lens
  generalize rl zs = l
  induction l with
  | nil => rfl
  | cons p r ih => simp at ih ⊢; exact ih

/-- Are values and lengths the runs of a list, of whatever length? -/
def AreR (vs ns : List Int) : Prop := vs.length = ns.length ∧ ∀ i, i < ns.length → 1 ≤ ns[i]?.getD 0 ∧ (0 < i → vs[i]?.getD 0 ≠ vs[i - 1]?.getD 0)
instance (vs ns : List Int) : Decidable (AreR vs ns) := by unfold AreR; infer_instance

theorem AreR.tail {v : Int} {vs : List Int} {n : Int} {ns : List Int} (h : AreR (v :: vs) (n :: ns)) : AreR vs ns := by
  obtain ⟨h1, h2⟩ := h
  refine ⟨by simpa using h1, fun i hi => ?_⟩
  have := h2 (i + 1) (by simpa using hi)
  refine ⟨by simpa using this.1, fun h0 => ?_⟩
  have h3 := this.2 (by omega)
  obtain ⟨j, rfl⟩ : ∃ j, i = j + 1 := ⟨i - 1, by omega⟩
  simpa using h3

theorem AreR.ok : ∀ {vs ns : List Int}, AreR vs ns → okR (pz vs ns)
  | [], [], _ => trivial
  | [], n :: ns, h => by have := h.1; simp at this
  | v :: vs, [], h => by have := h.1; simp at this
  | [v], [n], h => by
    have := (h.2 0 (by simp)).1
    show 1 ≤ n.toNat
    simp at this; omega
  | [v], n :: m :: ns, h => by have := h.1; simp at this
  | v :: u :: vs, [n], h => by have := h.1; simp at this
  | v :: u :: vs, n :: m :: ns, h => by
    have h1 := (h.2 0 (by simp)).1
    have h2 := (h.2 1 (by simp)).2 (by decide)
    refine ⟨?_, ?_, AreR.ok (AreR.tail h)⟩
    · simp at h1; omega
    · simp at h2; exact fun e => h2 e.symm

theorem okR_pos : ∀ {ps : List (Int × Nat)}, okR ps → ∀ i, (h : i < ps.length) → 1 ≤ (ps[i]'h).2
  | (x, n) :: [], h, 0, _ => h
  | (x, n) :: (y, m) :: s, h, 0, _ => h.1
  | (x, n) :: [], _, i + 1, hi => by simp at hi
  | (x, n) :: (y, m) :: s, h, i + 1, hi => by
    have := okR_pos h.2.2 i (by simpa using hi)
    simpa using this
theorem okR_apart : ∀ {ps : List (Int × Nat)}, okR ps → ∀ i, (h : i + 1 < ps.length) → (ps[i]'(Nat.lt_of_succ_lt h)).1 ≠ (ps[i + 1]'h).1
  | (x, n) :: [], _, i, hi => by simp at hi
  | (x, n) :: (y, m) :: s, h, 0, _ => h.2.1
  | (x, n) :: (y, m) :: s, h, i + 1, hi => by
    have := okR_apart h.2.2 i (by simpa using hi)
    simpa using this

theorem are_rl (zs : List Int) : AreR (vals zs) (lens zs) := by
  refine ⟨by rw [vals_length, lens_length], fun i hi => ?_⟩
  rw [lens_length] at hi
  have h1 := okR_pos (ok_rl zs) i hi
  refine ⟨by rw [lens_at zs i hi]; omega, fun h0 => ?_⟩
  obtain ⟨j, rfl⟩ : ∃ j, i = j + 1 := ⟨i - 1, by omega⟩
  have h2 := okR_apart (ok_rl zs) j hi
  rw [vals_at zs _ hi, show j + 1 - 1 = j by omega, vals_at zs j (by omega)]
  exact fun e => h2 e.symm

/-! ### The sum of lengths -/

def tot (ns : List Int) : Int := ns.foldl (· + ·) 0
theorem foldl_add (ns : List Int) : ∀ a : Int, ns.foldl (· + ·) a = a + ns.foldl (· + ·) 0 := by
  induction ns with
  | nil => intro a; simp
  | cons n r ih => intro a; rw [List.foldl_cons, ih (a + n), List.foldl_cons, ih (0 + n)]; omega
theorem tot_cons (n : Int) (r : List Int) : tot (n :: r) = n + tot r := by unfold tot; rw [List.foldl_cons, foldl_add]; omega
theorem tot_take_succ (ns : List Int) (k : Nat) (h : k < ns.length) : tot (ns.take (k + 1)) = tot (ns.take k) + ns[k]?.getD 0 := by
  rw [take_getD_snoc ns k h]
  unfold tot
  rw [List.foldl_append]; rfl
theorem tot_nonneg : ∀ {ns : List Int}, (∀ n ∈ ns, 0 ≤ n) → 0 ≤ tot ns
  | [], _ => by decide
  | n :: r, h => by
    rw [tot_cons]
    have := tot_nonneg (ns := r) fun m hm => h m (List.mem_cons_of_mem _ hm)
    have := h n (List.mem_cons_self ..)
    omega
theorem tot_take_le {ns : List Int} (h : ∀ n ∈ ns, 0 ≤ n) : ∀ k, tot (ns.take k) ≤ tot ns := by
  intro k
  have e : tot ns = tot (ns.take k) + tot (ns.drop k) := by
    conv => lhs; rw [← List.take_append_drop k ns]
    unfold tot
    rw [List.foldl_append, foldl_add]
  have := tot_nonneg (ns := ns.drop k) fun m hm => h m (List.mem_of_mem_drop hm)
  omega
theorem AreR.pos {vs ns : List Int} (h : AreR vs ns) : ∀ n ∈ ns, 1 ≤ n := by
  intro n hn
  obtain ⟨i, hi, rfl⟩ := List.mem_iff_getElem.1 hn
  have := (h.2 i hi).1
  rwa [List.getElem?_eq_getElem hi] at this
theorem ex_length : ∀ {vs ns : List Int}, vs.length = ns.length → (∀ n ∈ ns, 0 ≤ n) → ((ex (pz vs ns)).length : Int) = tot ns
  | [], [], _, _ => rfl
  | [], n :: ns, h, _ => by simp at h
  | v :: vs, [], h, _ => by simp at h
  | v :: vs, n :: ns, h, hp => by
    have ih := ex_length (vs := vs) (ns := ns) (by simpa using h) fun m hm => hp m (List.mem_cons_of_mem _ hm)
    have h0 := hp n (List.mem_cons_self ..)
    rw [tot_cons, ← ih]
    simp [ex, pz]
    omega
theorem tot_lens (zs : List Int) : tot (lens zs) = zs.length := by
  have h := are_rl zs
  rw [← ex_length h.1 (fun n hn => by have := h.pos n hn; omega), pz_rl, ex_rl]

/-- The list with these runs; the error. -/
def xpS (vs ns : List Int) : List Int × Int := if AreR vs ns then (if tot ns ≤ 4096 then (ex (pz vs ns), 0) else ([], 2)) else ([], 1)
theorem xpS_runs (zs : List Int) (h : zs.length ≤ 4096) : xpS (vals zs) (lens zs) = (zs, 0) := by
  unfold xpS
  rw [if_pos (are_rl zs), tot_lens, if_pos (by omega), pz_rl, ex_rl]
theorem xpS_back {vs ns zs : List Int} (h : xpS vs ns = (zs, 0)) : vals zs = vs ∧ lens zs = ns ∧ zs.length ≤ 4096 := by
  unfold xpS at h
  split at h
  · rename_i ha
    split at h
    · rename_i ht
      simp at h
      subst h
      have e := rl_ex _ ha.ok
      have hl := ex_length ha.1 (fun n hn => by have := ha.pos n hn; omega)
      refine ⟨?_, ?_, by omega⟩
      · unfold vals; rw [e]
        have h1 := ha.1
        clear e hl ht ha
        unfold pz
        rw [List.map_fst_zip]
        rw [List.length_map]; omega
      · unfold lens; rw [e]
        have h1 := ha.1
        have h2 := ha.pos
        clear e hl ht ha
        unfold pz
        rw [show (fun p : Int × Nat => (p.2 : Int)) = (fun n : Nat => (n : Int)) ∘ Prod.snd from rfl, ← List.map_map, List.map_snd_zip (by rw [List.length_map]; omega), List.map_map]
        conv => rhs; rw [← List.map_id ns]
        exact List.map_congr_left fun n hn => by have := h2 n hn; show ((n.toNat : Nat) : Int) = n; omega
    · simp at h
  · simp at h

/-! ### Differences and sums -/

def w64 (n : Int) : Int := (n + 9223372036854775808) % 18446744073709551616 - 9223372036854775808
theorem w64_wrap (n : Int) : wrap64 n = w64 n := by unfold wrap64 w64; omega
theorem w64_i64 (n : Int) : I64 (w64 n) := by unfold w64 I64; omega
theorem w64_id {n : Int} (h : I64 n) : w64 n = n := by unfold I64 at h; unfold w64; omega

def dfF : Int → List Int → List Int
  | _, [] => []
  | p, y :: s => w64 (y - p) :: dfF y s
def dfS : List Int → List Int
  | [] => []
  | x :: r => x :: dfF x r
def smF : Int → List Int → List Int
  | _, [] => []
  | a, y :: s => w64 (a + y) :: smF (w64 (a + y)) s
def smS : List Int → List Int
  | [] => []
  | x :: r => x :: smF x r

theorem dfF_length : ∀ (p : Int) (l : List Int), (dfF p l).length = l.length
  | _, [] => rfl
  | _, y :: s => by rw [dfF, List.length_cons, List.length_cons, dfF_length y s]
theorem smF_length : ∀ (p : Int) (l : List Int), (smF p l).length = l.length
  | _, [] => rfl
  | _, y :: s => by rw [smF, List.length_cons, List.length_cons, smF_length _ s]
theorem df_length (l : List Int) : (dfS l).length = l.length := by
  cases l with
  | nil => rfl
  | cons x r => rw [dfS, List.length_cons, List.length_cons, dfF_length]
theorem sm_length (l : List Int) : (smS l).length = l.length := by
  cases l with
  | nil => rfl
  | cons x r => rw [smS, List.length_cons, List.length_cons, smF_length]
theorem dfF_smalls : ∀ (p : Int) (l : List Int), Smalls (dfF p l)
  | _, [] => fun x hx => by cases hx
  | _, y :: s => fun x hx => by
    rw [dfF, List.mem_cons] at hx
    rcases hx with rfl | hx
    · exact w64_i64 _
    · exact dfF_smalls y s x hx
theorem smF_smalls : ∀ (p : Int) (l : List Int), Smalls (smF p l)
  | _, [] => fun x hx => by cases hx
  | _, y :: s => fun x hx => by
    rw [smF, List.mem_cons] at hx
    rcases hx with rfl | hx
    · exact w64_i64 _
    · exact smF_smalls _ s x hx
theorem df_smalls {l : List Int} (h : Smalls l) : Smalls (dfS l) := by
  cases l with
  | nil => exact h
  | cons x r =>
    intro y hy
    rw [dfS, List.mem_cons] at hy
    rcases hy with rfl | hy
    · exact h _ (List.mem_cons_self ..)
    · exact dfF_smalls x r y hy
theorem sm_smalls {l : List Int} (h : Smalls l) : Smalls (smS l) := by
  cases l with
  | nil => exact h
  | cons x r =>
    intro y hy
    rw [smS, List.mem_cons] at hy
    rcases hy with rfl | hy
    · exact h _ (List.mem_cons_self ..)
    · exact smF_smalls x r y hy
theorem smF_dfF : ∀ (p : Int) (l : List Int), Smalls l → smF p (dfF p l) = l
  | _, [], _ => rfl
  | p, y :: s, h => by
    have hy := h y (List.mem_cons_self ..)
    have e : w64 (p + w64 (y - p)) = y := by unfold I64 at hy; unfold w64; omega
    rw [dfF, smF, e, smF_dfF y s fun z hz => h z (List.mem_cons_of_mem _ hz)]
theorem dfF_smF : ∀ (p : Int) (l : List Int), Smalls l → dfF p (smF p l) = l
  | _, [], _ => rfl
  | p, y :: s, h => by
    have hy := h y (List.mem_cons_self ..)
    have e : w64 (w64 (p + y) - p) = y := by unfold I64 at hy; unfold w64; omega
    rw [smF, dfF, e, dfF_smF _ s fun z hz => h z (List.mem_cons_of_mem _ hz)]
theorem sm_df {l : List Int} (h : Smalls l) : smS (dfS l) = l := by
  cases l with
  | nil => rfl
  | cons x r => rw [dfS, smS, smF_dfF x r fun z hz => h z (List.mem_cons_of_mem _ hz)]
theorem df_sm {l : List Int} (h : Smalls l) : dfS (smS l) = l := by
  cases l with
  | nil => rfl
  | cons x r => rw [smS, dfS, dfF_smF x r fun z hz => h z (List.mem_cons_of_mem _ hz)]

theorem dfF_at : ∀ (l : List Int) (p : Int) (k : Nat), k < l.length → (dfF p l)[k]?.getD 0 = w64 (l[k]?.getD 0 - (p :: l)[k]?.getD 0)
  | [], _, _, h => by simp at h
  | y :: s, p, 0, _ => rfl
  | y :: s, p, k + 1, h => by
    have := dfF_at s y k (by simpa using h)
    simpa [dfF] using this
theorem df_at (l : List Int) (k : Nat) (h : k + 1 < l.length) : (dfS l)[k + 1]?.getD 0 = w64 (l[k + 1]?.getD 0 - l[k]?.getD 0) := by
  cases l with
  | nil => simp at h
  | cons x r =>
    have := dfF_at r x k (by simpa using h)
    simpa [dfS] using this
theorem df_zero (l : List Int) : (dfS l)[0]?.getD 0 = l[0]?.getD 0 := by cases l <;> rfl
theorem smF_at : ∀ (l : List Int) (p : Int) (k : Nat), k < l.length → (smF p l)[k]?.getD 0 = w64 ((p :: smF p l)[k]?.getD 0 + l[k]?.getD 0)
  | [], _, _, h => by simp at h
  | y :: s, p, 0, _ => rfl
  | y :: s, p, k + 1, h => by
    have := smF_at s (w64 (p + y)) k (by simpa using h)
    simpa [smF] using this
theorem sm_at (l : List Int) (k : Nat) (h : k + 1 < l.length) : (smS l)[k + 1]?.getD 0 = w64 ((smS l)[k]?.getD 0 + l[k + 1]?.getD 0) := by
  cases l with
  | nil => simp at h
  | cons x r =>
    have := smF_at r x k (by simpa using h)
    simpa [smS] using this
theorem sm_zero (l : List Int) : (smS l)[0]?.getD 0 = l[0]?.getD 0 := by cases l <;> rfl

theorem vals_smalls {zs : List Int} (h : Smalls zs) : Smalls (vals zs) := by
  intro v hv
  have key : ∀ (l : List Int) (p : Int × Nat), p ∈ rl l → p.1 ∈ l := by
    intro l
    induction l with
    | nil => intro p hp; simp [rl] at hp
    | cons x r ih =>
      intro p hp
      rw [rl] at hp
      split at hp
      · simp at hp; subst hp; simp
      · rename_i y n s e
        rw [e] at ih
        split at hp
        · rename_i hxy
          rcases List.mem_cons.1 hp with rfl | hp
          · simp [hxy]
          · exact List.mem_cons_of_mem _ (ih p (List.mem_cons_of_mem _ hp))
        · rcases List.mem_cons.1 hp with rfl | hp
          · simp
          · exact List.mem_cons_of_mem _ (ih p hp)
  obtain ⟨p, hp, rfl⟩ := List.mem_map.1 hv
  exact h _ (key zs p hp)
theorem rl_len (zs : List Int) : (rl zs).length ≤ zs.length := by
  have e := ex_rl zs
  have h := ok_rl zs
  have key : ∀ ps : List (Int × Nat), (∀ i, (h : i < ps.length) → 1 ≤ (ps[i]'h).2) → ps.length ≤ (ex ps).length := by
    intro ps
    induction ps with
    | nil => intro _; simp
    | cons p r ih =>
      intro hp
      have h0 := hp 0 (by simp)
      have := ih fun i hi => by have := hp (i + 1) (by simpa using hi); simpa using this
      simp [ex] at this h0 ⊢
      omega
  have := key (rl zs) fun i hi => okR_pos h i hi
  rwa [e] at this
theorem lens_le (zs : List Int) : ∀ n ∈ lens zs, 1 ≤ n ∧ n ≤ zs.length := by
  intro n hn
  have ha := are_rl zs
  refine ⟨ha.pos n hn, ?_⟩
  obtain ⟨i, hi, rfl⟩ := List.mem_iff_getElem.1 hn
  have h1 := tot_take_succ (lens zs) i hi
  have h2 := tot_take_le (fun n hn => by have := ha.pos n hn; omega) (i + 1)
  have h3 := tot_nonneg (ns := (lens zs).take i) fun n hn => by have := ha.pos n (List.mem_of_mem_take hn); omega
  rw [tot_lens] at h2
  rw [List.getElem?_eq_getElem hi] at h1
  simp at h1
  omega
theorem lens_smalls {zs : List Int} (h : zs.length ≤ 140737488351232) : Smalls (lens zs) := fun n hn => by
  have := lens_le zs n hn; unfold I64; omega

end Go.Proofs.Ytmbcppkdnoccbaa
