/-
  Which texts are valid; values of each kind.
-/
import Derived.Test.YtnhffkgbnlnliaaGreatDoorVlBase
namespace Go.Proofs.YtnhffkgbnlnliaaGreatDoor
open Go Go.RowKit Go.Shelf Go.ChangeShapes Go.WideShapes Go.ChangeAt

theorem bool_any (n : Int) (w : World) : Calls Tryz.prog 39 #[.int .i64 n] w fun e w' => e = .returned (encV ⟨1, n, []⟩) ∧ Below w.heap.size w w' := by
  go_enter Tryz.func39, Tryz.ntmps39
  go_wp2
  exact bodyPost_ret (v := .agg #[.int .i64 1, .int .i64 n, .string ⟨#[]⟩]) (by simp [results, Tryz.results39, go_sem]) rfl ⟨rfl, (Below.refl _ _).alloc (Nat.le_refl _) _⟩
theorem num_any (n : Int) (w : World) : Calls Tryz.prog 40 #[.int .i64 n] w fun e w' => e = .returned (encV ⟨2, n, []⟩) ∧ Below w.heap.size w w' := by
  go_enter Tryz.func40, Tryz.ntmps40
  go_wp2
  exact bodyPost_ret (v := .agg #[.int .i64 2, .int .i64 n, .string ⟨#[]⟩]) (by simp [results, Tryz.results40, go_sem]) rfl ⟨rfl, (Below.refl _ _).alloc (Nat.le_refl _) _⟩
theorem txt_any (s : List UInt8) (w : World) : Calls Tryz.prog 42 #[.string (bsOf s)] w fun e w' => e = .returned (encV ⟨3, 0, s⟩) ∧ Below w.heap.size w w' := by
  go_enter Tryz.func42, Tryz.ntmps42
  go_wp2
  exact bodyPost_ret (v := .agg #[.int .i64 3, .int .i64 0, .string (bsOf s)]) (by simp [results, Tryz.results42, go_sem]) rfl ⟨rfl, (Below.refl _ _).alloc (Nat.le_refl _) _⟩

theorem graph_all {s : List UInt8} (h : ∀ j, j < s.length → 32 ≤ (s[j]?.getD 0).toNat ∧ (s[j]?.getD 0).toNat ≤ 126) : graphB s = true := by
  unfold graphB
  rw [List.all_eq_true]
  intro x hx
  obtain ⟨i, hi, rfl⟩ := List.getElem_of_mem hx
  have := h i hi
  rw [List.getElem?_eq_getElem hi] at this
  simpa using this
theorem graph_not {s : List UInt8} {j : Nat} (hj : j < s.length) (h : ¬ (32 ≤ (s[j]?.getD 0).toNat ∧ (s[j]?.getD 0).toNat ≤ 126)) : graphB s = false := by
  unfold graphB
  rw [List.all_eq_false]
  refine ⟨s[j], List.getElem_mem hj, ?_⟩
  rw [List.getElem?_eq_getElem hj] at h
  simpa using h
theorem txt_true {s : List UInt8} (h : s.length ≤ 40) (h2 : graphB s = true) : txtB s = true := by simp [txtB, h, h2]
theorem txt_bad {s : List UInt8} (h2 : graphB s = false) : txtB s = false := by simp [txtB, h2]
theorem txt_long {s : List UInt8} (h : 40 < s.length) : txtB s = false := by simp [txtB, show ¬ s.length ≤ 40 by omega]

set_option maxRecDepth 100000 in
set_option maxHeartbeats 1000000 in
theorem isText_any (s : List UInt8) (hs : s.length ≤ 1048576) (w : World) : Calls Tryz.prog 43 #[.string (bsOf s)] w fun e w' => e = .returned (.bool (txtB s)) ∧ Below w.heap.size w w' := by
  have hz := bs_size s
  by_cases h40 : 40 < s.length
  · have HT := Lib.hid (txt_long h40)
    go_enter Tryz.func43, Tryz.ntmps43
    go_wp2
    go_ret
    exact ⟨ret_bool HT.out.symm, Below.refl _ _⟩
  · have HL : Hid (s.length ≤ 40) := Nat.not_lt.1 h40
    obtain ⟨V, cap, kc, hcap, hcm, hb, hsz, hc⟩ := conv_str s hs w
    have HB := Lib.hid hb
    have HC := Lib.hid hc
    clear hb hc
    obtain ⟨len, hlen⟩ : ∃ len, s.length = len := ⟨_, rfl⟩
    have HLen := Lib.hid hlen
    rw [hlen] at h40 kc hz hcap hs HC
    clear hlen
    go_enter Tryz.func43, Tryz.ntmps43
    go_wp2
    go_loop [11] (fun i => ∃ k : Nat, k ≤ len ∧ i = .int .i64 k ∧ Hid (∀ j, j < k → 32 ≤ (s[j]?.getD 0).toNat ∧ (s[j]?.getD 0).toNat ≤ 126)) (fun i => len - (intOf i).toNat)
    case atStart => exact ⟨0, Nat.zero_le _, rfl, fun j h => by omega⟩
    case round =>
      obtain ⟨k, hk, rfl, HE⟩ := hrel
      by_cases hlt : k < len
      · have hcx := HC.out k hlt
        by_cases he : 32 ≤ (s[k]?.getD 0).toNat ∧ (s[k]?.getD 0).toNat ≤ 126
        · have HE2 : Hid (∀ j, j < k + 1 → 32 ≤ (s[j]?.getD 0).toNat ∧ (s[j]?.getD 0).toNat ≤ 126) := fun j hj => by
            by_cases h : j = k
            · rw [h]; exact he
            · exact HE.out j (by omega)
          obtain ⟨he1, he2⟩ := he
          generalize (s[k]?.getD 0).toNat = x at *
          go_wp2
          go_round
          case rel => exact ⟨k + 1, by omega, by go_num, HE2⟩
          case measure => simp [intOf]; omega
        · have HT := Lib.hid (txt_bad (graph_not (by rw [HLen.out]; exact hlt) he))
          generalize (s[k]?.getD 0).toNat = x at *
          by_cases he1 : 32 ≤ x
          · have he2 : 126 < x := by omega
            clear he
            go_wp2
            go_ret
            exact ⟨ret_bool HT.out.symm, HB.out⟩
          · clear he
            go_wp2
            go_ret
            exact ⟨ret_bool HT.out.symm, HB.out⟩
      · obtain rfl : k = len := by omega
        have HT := Lib.hid (txt_true HL.out (graph_all (by rw [HLen.out]; exact HE.out)))
        go_wp2
        go_ret
        exact ⟨ret_bool HT.out.symm, HB.out⟩

end Go.Proofs.YtnhffkgbnlnliaaGreatDoor
