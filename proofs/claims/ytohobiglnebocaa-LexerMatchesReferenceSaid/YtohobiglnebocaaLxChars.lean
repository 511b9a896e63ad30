/-
  The classes of bytes, and strings of one class.
-/
import Derived.Test.YtohobiglnebocaaLxMath
import Derived.Test.YtohobiglnebocaaByRow
import Derived.Test.YtohobiglnebocaaRegNear
import Derived.Lib.QuietBelow
import Derived.Lib.ConvBytes
import Derived.Deep.DeepCutAuto
namespace Go.Proofs.Ytohobiglnebocaa.Lx
open Go Go.RowKit Go.Shelf Go.Sort Go.ChangeShapes Go.WideShapes Go.ChangeAt
open Go.Proofs.Ytohobiglnebocaa

theorem ret_b {b c : Bool} (h : b = c) : Ending.returned (.bool b) = .returned (.bool c) := by rw [h]
theorem ret_i {a b : Int} (h : a = b) : Ending.returned (.int .i64 a) = .returned (.int .i64 b) := by rw [h]
theorem ret_s {a b : List UInt8} (h : a = b) : Ending.returned (.string (bsOf a)) = .returned (.string (bsOf b)) := by rw [h]

/-- A function that tells a class of bytes. -/
def Says (g : FuncId) (p : UInt8 → Bool) : Prop := ∀ (b : UInt8) (w : World), Calls Try.prog g #[.int .u8 (b.toNat : Int)] w fun e w' => e = .returned (.bool (p b)) ∧ w = w'
structure Tells (g : FuncId) (p : UInt8 → Bool) : Prop where
  enters : ∀ args w, (callFunc g args).run Try.prog w = .ok (.enter g args) w
  says : Says g p

theorem isLetter_any : Says 34 letB := by
  intro b w
  have e : letB b = (decide (97 ≤ b.toNat) && decide (b.toNat ≤ 122)) := rfl
  rw [e]; clear e
  generalize b.toNat = n
  go_enter Try.func34, Try.ntmps34
  by_cases h : 97 ≤ n
  · go_wp2
    go_ret
    exact ⟨ret_b (by simp [h]; omega), rfl⟩
  · go_wp2
    go_ret
    exact ⟨ret_b (by simp), rfl⟩
theorem isDigit_any : Says 49 digB := by
  intro b w
  have e : digB b = (decide (48 ≤ b.toNat) && decide (b.toNat ≤ 57)) := rfl
  rw [e]; clear e
  generalize b.toNat = n
  go_enter Try.func49, Try.ntmps49
  by_cases h : 48 ≤ n
  · go_wp2
    go_ret
    exact ⟨ret_b (by simp [h]; omega), rfl⟩
  · go_wp2
    go_ret
    exact ⟨ret_b (by simp), rfl⟩
theorem isTextByte_any : Says 39 txB := by
  intro b w
  have e : txB b = (decide (32 ≤ b.toNat) && decide (b.toNat ≤ 126)) := rfl
  rw [e]; clear e
  generalize b.toNat = n
  go_enter Try.func39, Try.ntmps39
  by_cases h : 32 ≤ n
  · go_wp2
    go_ret
    exact ⟨ret_b (by simp [h]; omega), rfl⟩
  · go_wp2
    go_ret
    exact ⟨ret_b (by simp), rfl⟩
theorem isBlank_any : Says 52 blB := by
  intro b w
  have e : blB b = (decide (b.toNat = 32) || decide (b.toNat = 9) || decide (b.toNat = 10)) := rfl
  rw [e]; clear e
  generalize b.toNat = n
  go_enter Try.func52, Try.ntmps52
  by_cases h : n = 32
  · subst h
    go_wp2
    go_ret
    exact ⟨rfl, rfl⟩
  · have h1 : ((n : Int) == 32) = false := by simpa using (by omega : ¬ (n : Int) = 32)
    by_cases h2 : n = 9
    · subst h2
      go_wp2
      go_ret
      exact ⟨rfl, rfl⟩
    · have h3 : ((n : Int) == 9) = false := by simpa using (by omega : ¬ (n : Int) = 9)
      by_cases h4 : n = 10
      · subst h4
        go_wp2
        go_ret
        exact ⟨rfl, rfl⟩
      · have h5 : ((n : Int) == 10) = false := by simpa using (by omega : ¬ (n : Int) = 10)
        go_wp2
        go_ret
        exact ⟨ret_b (by simp [h, h2, h4]), rfl⟩
theorem isNoLF_any : Says 53 nlB := by
  intro b w
  have e : nlB b = !decide (b.toNat = 10) := rfl
  rw [e]; clear e
  generalize b.toNat = n
  go_enter Try.func53, Try.ntmps53
  go_wp2
  go_ret
  exact ⟨ret_b (by rw [Bool.eq_iff_iff]; simp; omega), rfl⟩
theorem isLetterOrDigit_any : Says 36 ldB := by
  intro b w
  have e : ldB b = (letB b || digB b) := rfl
  rw [e]; clear e
  have HL := Lib.hid (fun w => isLetter_any b w)
  have HD := Lib.hid (fun w => isDigit_any b w)
  generalize letB b = x at *
  generalize digB b = y at *
  go_enter Try.func36, Try.ntmps36
  cases x
  · go_wp2_with (first
      | (go_at_call 34; refine (HL.out _).mono ?_; rintro e w' ⟨rfl, rfl⟩)
      | (go_at_call 49; refine (HD.out _).mono ?_; rintro e w' ⟨rfl, rfl⟩))
    go_ret
    exact ⟨rfl, rfl⟩
  · go_wp2_with (first
      | (go_at_call 34; refine (HL.out _).mono ?_; rintro e w' ⟨rfl, rfl⟩)
      | (go_at_call 49; refine (HD.out _).mono ?_; rintro e w' ⟨rfl, rfl⟩))
    go_ret
    exact ⟨rfl, rfl⟩
theorem kd_of {b : UInt8} {x y : Bool} {n : Nat} (hx : letB b = x) (hy : digB b = y) (hn : b.toNat = n) : kdS b = if x then 1 else if y then 2 else if n = 34 then 3 else 4 := by subst hx hy hn; rfl
theorem kindOf_any (b : UInt8) (w : World) : Calls Try.prog 58 #[.int .u8 (b.toNat : Int)] w fun e w' => e = .returned (.int .i64 (kdS b)) ∧ w = w' := by
  have HL := Lib.hid (fun w => isLetter_any b w)
  have HD := Lib.hid (fun w => isDigit_any b w)
  obtain ⟨x, hx⟩ : ∃ x, letB b = x := ⟨_, rfl⟩
  obtain ⟨y, hy⟩ : ∃ y, digB b = y := ⟨_, rfl⟩
  obtain ⟨n, hn⟩ : ∃ n, b.toNat = n := ⟨_, rfl⟩
  have HE := Lib.hid (kd_of hx hy hn)
  rw [hx] at HL
  rw [hy] at HD
  rw [hn] at HL HD ⊢
  clear hx hy hn
  generalize kdS b = z at *
  go_enter Try.func58, Try.ntmps58
  cases x
  · cases y
    · by_cases h : n = 34
      · have HZ : Hid (z = 3) := HE.out.trans (by simp [h])
        subst h
        clear HE
        go_wp2_with (first
          | (go_at_call 34; refine (HL.out _).mono ?_; rintro e w' ⟨rfl, rfl⟩)
          | (go_at_call 49; refine (HD.out _).mono ?_; rintro e w' ⟨rfl, rfl⟩))
        go_ret
        exact ⟨ret_i HZ.out.symm, rfl⟩
      · have h1 : ((n : Int) == 34) = false := by simpa using (by omega : ¬ (n : Int) = 34)
        have HZ : Hid (z = 4) := HE.out.trans (by simp [h])
        clear h HE
        go_wp2_with (first
          | (go_at_call 34; refine (HL.out _).mono ?_; rintro e w' ⟨rfl, rfl⟩)
          | (go_at_call 49; refine (HD.out _).mono ?_; rintro e w' ⟨rfl, rfl⟩))
        go_ret
        exact ⟨ret_i HZ.out.symm, rfl⟩
    · have HZ : Hid (z = 2) := HE.out.trans (by simp)
      clear HE
      go_wp2_with (first
        | (go_at_call 34; refine (HL.out _).mono ?_; rintro e w' ⟨rfl, rfl⟩)
        | (go_at_call 49; refine (HD.out _).mono ?_; rintro e w' ⟨rfl, rfl⟩))
      go_ret
      exact ⟨ret_i HZ.out.symm, rfl⟩
  · have HZ : Hid (z = 1) := HE.out.trans (by simp)
    clear HE
    go_wp2_with (go_at_call 34; refine (HL.out _).mono ?_; rintro e w' ⟨rfl, rfl⟩)
    go_ret
    exact ⟨ret_i HZ.out.symm, rfl⟩

/-! ### Strings of one class -/

theorem isLetter_t : Tells 34 letB := ⟨enters_of Try.func34 (by kernel_rfl) rfl, isLetter_any⟩
theorem isDigit_t : Tells 49 digB := ⟨enters_of Try.func49 (by kernel_rfl) rfl, isDigit_any⟩
theorem isLetterOrDigit_t : Tells 36 ldB := ⟨enters_of Try.func36 (by kernel_rfl) rfl, isLetterOrDigit_any⟩
theorem isTextByte_t : Tells 39 txB := ⟨enters_of Try.func39 (by kernel_rfl) rfl, isTextByte_any⟩
theorem isBlank_t : Tells 52 blB := ⟨enters_of Try.func52 (by kernel_rfl) rfl, isBlank_any⟩
theorem isNoLF_t : Tells 53 nlB := ⟨enters_of Try.func53 (by kernel_rfl) rfl, isNoLF_any⟩

theorem all_of {p : UInt8 → Bool} {s : List UInt8} (h : ∀ j, j < s.length → p (s[j]?.getD 0) = true) : s.all p = true := by
  rw [List.all_eq_true]
  intro b hb
  obtain ⟨i, hi, e⟩ := List.getElem_of_mem hb
  have := h i hi
  rw [List.getElem?_eq_getElem hi] at this
  rw [← e]; exact this
theorem not_all {p : UInt8 → Bool} {s : List UInt8} {j : Nat} (hj : j < s.length) (h : p (s[j]?.getD 0) = false) : s.all p = false := by
  rw [List.all_eq_false]
  refine ⟨s[j], List.getElem_mem hj, ?_⟩
  rw [List.getElem?_eq_getElem hj] at h
  simpa using h

set_option maxRecDepth 100000 in
set_option maxHeartbeats 1000000 in
theorem all_any {g : FuncId} {p : UInt8 → Bool} (hg : Tells g p) (s : List UInt8) (hs : s.length ≤ 1048576) (w : World) : Calls Try.prog 35 #[.string (bsOf s), .func (.func g) #[] #[]] w fun e w' => e = .returned (.bool (s.all p)) ∧ Below w.heap.size w w' := by
  have hz := bs_size s
  have HG : Hid (Says g p) := hg.says
  have eg := hg.enters
  clear hg
  obtain ⟨V, cap, kc, hcap, hcm, hb, hsz, hc⟩ := conv_str s hs w
  have HB := Lib.hid hb
  have HC := Lib.hid hc
  clear hb hc
  obtain ⟨len, hlen⟩ : ∃ len, s.length = len := ⟨_, rfl⟩
  have HLen := Lib.hid hlen
  rw [hlen] at kc hz hcap hs HC
  clear hlen
  go_enter Try.func35, Try.ntmps35
  go_wp2
  go_loop [10] (fun i => ∃ k : Nat, k ≤ len ∧ i = .int .i64 k ∧ Hid (∀ j, j < k → p (s[j]?.getD 0) = true)) (fun i => len - (intOf i).toNat)
  case atStart => exact ⟨0, Nat.zero_le _, rfl, fun j h => by omega⟩
  case round =>
    obtain ⟨k, hk, rfl, HE⟩ := hrel
    by_cases hlt : k < len
    · have hcx := HC.out k hlt
      have HP := Lib.hid (fun w => HG.out (s[k]?.getD 0) w)
      cases hpx : p (s[k]?.getD 0)
      · have HT := Lib.hid (not_all (by rw [HLen.out]; exact hlt) hpx)
        rw [hpx] at HP
        clear hpx
        go_wp2_with fail
        refine (HP.out _).mono ?_
        rintro e w' ⟨rfl, rfl⟩
        go_wp2
        go_ret
        exact ⟨ret_b HT.out.symm, HB.out⟩
      · have HE2 : Hid (∀ j, j < k + 1 → p (s[j]?.getD 0) = true) := fun j hj => by
          by_cases h : j = k
          · rw [h]; exact hpx
          · exact HE.out j (by omega)
        rw [hpx] at HP
        clear hpx
        go_wp2_with fail
        refine (HP.out _).mono ?_
        rintro e w' ⟨rfl, rfl⟩
        go_wp2
        go_round
        case rel => exact ⟨k + 1, by omega, by go_num, HE2⟩
        case measure => simp [intOf]; omega
    · obtain rfl : k = len := by omega
      have HT := Lib.hid (all_of (p := p) (s := s) (by rw [HLen.out]; exact HE.out))
      go_wp2
      go_ret
      exact ⟨ret_b HT.out.symm, HB.out⟩

end Go.Proofs.Ytohobiglnebocaa.Lx
