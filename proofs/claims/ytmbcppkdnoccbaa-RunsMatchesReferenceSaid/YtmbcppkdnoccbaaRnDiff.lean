/-
  Differences and sums.
-/
import Derived.Test.YtmbcppkdnoccbaaRnRuns
import Derived.Test.YtmbcppkdnoccbaaShelf
import Derived.StillTailTactics
namespace Go.Proofs.Ytmbcppkdnoccbaa
open Go.RowKit Go.Shelf Go.ChangeShapes Go.WideShapes Go.ChangeAt

/-- What a function that makes a list gives back. -/
def MakesL (w : World) (zs : List Int) (e : Ending) (W' : World) : Prop :=
  ∃ a n c, e = .returned (.slice a n c) ∧ Rd (fun b => w.heap.size ≤ b) W' .i64 a n c zs ∧ Below w.heap.size w W'

theorem clone_any {K : Nat → Prop} {a : Option Addr} {len cap : Nat} {zs : List Int} {W : World} (hR : Rd K W .i64 a len cap zs) (hl40 : len ≤ 1099511627776) (h0 : 0 < len) :
    Calls Try.prog 51 #[.slice a len cap] W fun e w' => ∃ g c, e = .returned (.slice (some ⟨g, 0, none⟩) len c) ∧ w'.ownsRow W.heap.size 3 1 (.slice (some ⟨g, 0, none⟩) len c) len (zs.map (Value.int .i64)) ∧ Below W.heap.size W w' := by
  obtain ⟨b, off, rfl, _, _, hc⟩ := hR.cells h0
  refine (Try.slices_Clone_int b off len cap zs W (Nat.le_of_eq hR.hl) (by omega) (fun j hj => by rw [List.getD_eq_getElem?_getD]; exact hc j (by rw [hR.hl]; exact hj))).mono ?_
  rintro e w' ⟨v', he, hrow, hne, hb⟩
  rw [hR.hl, List.take_length, ← hR.hl] at hrow
  obtain ⟨g, c, rfl, _⟩ := row_form hrow hne
  exact ⟨g, c, he, hrow, hb⟩
theorem clone_none (a : Option Addr) (cap : Nat) (W : World) :
    Calls Try.prog 51 #[.slice a 0 cap] W fun e w' => (∃ a' c, e = .returned (.slice a' 0 c) ∧ c ≤ 9223372036854775807) ∧ Below W.heap.size W w' := by
  cases a with
  | none => exact (Try.slices_Clone_int_nil 0 cap W).mono fun e w' ⟨he, hw⟩ => ⟨⟨none, 0, he, by decide⟩, by rw [hw]; exact Below.refl _ _⟩
  | some a =>
    refine (Try.slices_Clone_int_zero a cap W).mono ?_
    rintro e w' ⟨v', he, hrow, hne, hb⟩
    obtain ⟨g, c, rfl, _⟩ := row_form hrow hne
    obtain ⟨cur, _, _, hm, _⟩ := row_block hrow
    exact ⟨⟨_, c, he, by unfold maxLen at hm; omega⟩, hb⟩

theorem mix_step {fs zs : List Int} (hl : fs.length = zs.length) (k : Nat) (hk : k < zs.length) : fs.take (k + 1) ++ zs.drop (k + 1) = (fs.take k ++ zs.drop k).set k (fs[k]?.getD 0) := by
  rw [take_getD_snoc fs k (by omega), drop_getD_cons zs k hk, List.set_append_right _ _ (by rw [List.length_take]; omega), List.length_take, show k - min k fs.length = 0 by omega]
  simp
theorem mix_at {fs zs : List Int} (hl : fs.length = zs.length) (k j : Nat) (hk : k ≤ zs.length) : (fs.take k ++ zs.drop k)[j]?.getD 0 = if j < k then fs[j]?.getD 0 else zs[j]?.getD 0 := by
  by_cases h : j < k
  · rw [if_pos h, List.getElem?_append_left (by rw [List.length_take]; omega), List.getElem?_take_of_lt h]
  · rw [if_neg h, List.getElem?_append_right (by rw [List.length_take]; omega), List.length_take, List.getElem?_drop, show k + (j - min k fs.length) = j by omega]

set_option maxRecDepth 100000 in
set_option maxHeartbeats 2000000 in
theorem diff_some {K : Nat → Prop} (b off len cap : Nat) (zs : List Int) (hz : Smalls zs) (h0 : 0 < len) (hl40 : len ≤ 1099511627776) (W : World) (hR : Rd K W .i64 (some ⟨b, off, none⟩) len cap zs) :
    Calls Try.prog 19 #[.slice (some ⟨b, off, none⟩) len cap] W (MakesL W (dfS zs)) := by
  have HR : Hid (Rd (fun b => b < W.heap.size) W .i64 (some ⟨b, off, none⟩) len cap zs) := hR.mono fun b h _ => h
  have HCL := Lib.hid (clone_any hR hl40 h0)
  have hfit := hR.fit
  have hlen : Hid (len = zs.length) := hR.hl
  have HZ := Lib.hid hz
  have hdl := df_length zs
  have HDL : Hid ((dfS zs).length = zs.length) := hdl
  clear hR hz hdl
  go_enter Try.func19, Try.ntmps19
  go_wp2_with fail
  refine HCL.out.mono ?_
  rintro e w1 ⟨g, c, rfl, hrow, hb1⟩
  have hg0 := row_base hrow
  have hlc : len ≤ c := by obtain ⟨cur, _, h, _⟩ := row_block hrow; exact h
  have HROW : Hid (w1.ownsRow W.heap.size 3 1 (.slice (some ⟨g, 0, none⟩) len c) len (((dfS zs).take 1 ++ zs.drop 1).map (Value.int .i64))) := by
    have e : (dfS zs).take 1 ++ zs.drop 1 = zs := by
      have := hlen.out
      cases zs with
      | nil => simp at this; omega
      | cons x r => rfl
    show w1.ownsRow _ _ _ _ _ _
    rw [e]; exact hrow
  have HB1 := Lib.hid hb1
  clear hrow hb1
  go_wp2
  go_loopw [4] (fun i wr => ∃ k : Nat, 1 ≤ k ∧ k ≤ len ∧ i = .int .i64 k ∧ Hid (wr.ownsRow W.heap.size 3 1 (.slice (some ⟨g, 0, none⟩) len c) len (((dfS zs).take k ++ zs.drop k).map (Value.int .i64))) ∧ Hid (Below W.heap.size W wr)) (fun i _ => len - (intOf i).toNat)
  case atStart => exact ⟨1, Nat.le_refl _, by omega, rfl, HROW, HB1⟩
  case round =>
    obtain ⟨k, hk1, hk, rfl, HRw, HBw⟩ := hrel
    by_cases hlt : k < len
    · have hRr := HR.out.below HBw.out
      obtain ⟨b', off', e, hbW, _, hcs⟩ := hRr.cells h0
      cases e
      obtain ⟨j, hj⟩ : ∃ j, k = j + 1 := ⟨k - 1, by omega⟩
      have hjl : j < len := by omega
      have hcx := hcs k hlt
      have hcy := hcs j hjl
      have hw : IntKind.i64.wrap ((k : Int) - 1) = (j : Int) := by rw [IntKind.wrap_i64]; omega
      have hfr := row_unfrozen (j := k) HRw.out
      have hcg := row_cell HRw.out (j := k) (by rw [List.length_append, List.length_take, List.length_drop, HDL.out, ← hlen.out]; omega)
      have hst := row_store (j := k) HRw.out (.int .i64 ((dfS zs)[k]?.getD 0))
      rw [← List.map_set, ← mix_step HDL.out k (by rw [← hlen.out]; exact hlt)] at hst
      have HST := Lib.hid hst
      have hval : IntKind.i64.wrap (zs[k]?.getD 0 - zs[j]?.getD 0) = (dfS zs)[k]?.getD 0 := by
        subst hj
        rw [df_at zs j (by rw [← hlen.out]; exact hlt), IntKind.wrap_i64]; unfold w64; omega
      have HBS : Hid (∀ v, Below W.heap.size W ((wr.setCell ⟨g, k, none⟩ v).drew)) := fun v => below_drew (HBw.out.setCell hg0 _)
      clear hst hRr hcs hbW hj
      generalize (dfS zs)[k]?.getD 0 = d at *
      generalize zs[k]?.getD 0 = x at *
      generalize zs[j]?.getD 0 = y at *
      go_wp2
      go_still_tail 13, (by kernel_rfl)
      go_wp2
      go_roundw
      case rel => exact ⟨k + 1, by omega, by omega, by go_num, (Kept.refl (fun _ => True) _).drew.row HST.out trivial, HBS.out _⟩
      case measure => simp [intOf]; omega
    · obtain rfl : k = len := by omega
      have HF := Lib.hid (HRw.out)
      go_wp2
      go_ret
      refine ⟨_, _, _, rfl, ?_, HBw.out⟩
      have := HF.out
      rw [List.take_of_length_le (Nat.le_of_eq (HDL.out.trans hlen.out.symm)), List.drop_of_length_le (Nat.le_of_eq hlen.out.symm), List.append_nil] at this
      exact Rd.of_row (by rw [HDL.out]; exact hlen.out) hlc (by omega) this

theorem diff_none (a : Option Addr) (cap : Nat) (W : World) :
    Calls Try.prog 19 #[.slice a 0 cap] W (MakesL W (dfS [])) := by
  go_enter Try.func19, Try.ntmps19
  go_wp2_with fail
  refine (clone_none a cap W).mono ?_
  rintro e w1 ⟨⟨a', c, rfl, hc⟩, hb1⟩
  have HB1 := Lib.hid hb1
  clear hb1
  go_wp2
  go_loopw [4] (fun i wr => i = .int .i64 1 ∧ Hid (Below W.heap.size W wr)) (fun _ _ => 0)
  case atStart => exact ⟨rfl, HB1⟩
  case round =>
    obtain ⟨rfl, HBw⟩ := hrel
    go_wp2
    go_ret
    exact ⟨_, _, c, rfl, ⟨rfl, Nat.zero_le _, hc, by decide, fun h => absurd h (by decide)⟩, HBw.out⟩

theorem diff_any {K : Nat → Prop} {a : Option Addr} {len cap : Nat} {zs : List Int} (hz : Smalls zs) (hl40 : len ≤ 1099511627776) {W : World} (hR : Rd K W .i64 a len cap zs) :
    Calls Try.prog 19 #[.slice a len cap] W (MakesL W (dfS zs)) := by
  by_cases h0 : 0 < len
  · obtain ⟨b, off, rfl, _⟩ := hR.cells h0
    exact diff_some b off len cap zs hz h0 hl40 W hR
  · obtain rfl : len = 0 := by omega
    obtain rfl : zs = [] := List.eq_nil_of_length_eq_zero hR.hl.symm
    exact diff_none a cap W

set_option maxRecDepth 100000 in
set_option maxHeartbeats 2000000 in
theorem sums_some {K : Nat → Prop} (b off len cap : Nat) (zs : List Int) (hz : Smalls zs) (h0 : 0 < len) (hl40 : len ≤ 1099511627776) (W : World) (hR : Rd K W .i64 (some ⟨b, off, none⟩) len cap zs) :
    Calls Try.prog 21 #[.slice (some ⟨b, off, none⟩) len cap] W (MakesL W (smS zs)) := by
  have HCL := Lib.hid (clone_any hR hl40 h0)
  have hfit := hR.fit
  have hlen : Hid (len = zs.length) := hR.hl
  have HZ := Lib.hid hz
  have hdl := sm_length zs
  have HDL : Hid ((smS zs).length = zs.length) := hdl
  clear hR hz hdl
  go_enter Try.func21, Try.ntmps21
  go_wp2_with fail
  refine HCL.out.mono ?_
  rintro e w1 ⟨g, c, rfl, hrow, hb1⟩
  have hg0 := row_base hrow
  have hlc : len ≤ c := by obtain ⟨cur, _, h, _⟩ := row_block hrow; exact h
  have HROW : Hid (w1.ownsRow W.heap.size 3 1 (.slice (some ⟨g, 0, none⟩) len c) len (((smS zs).take 1 ++ zs.drop 1).map (Value.int .i64))) := by
    have e : (smS zs).take 1 ++ zs.drop 1 = zs := by
      have := hlen.out
      cases zs with
      | nil => simp at this; omega
      | cons x r => rfl
    show w1.ownsRow _ _ _ _ _ _
    rw [e]; exact hrow
  have HB1 := Lib.hid hb1
  clear hrow hb1
  go_wp2
  go_loopw [4] (fun i wr => ∃ k : Nat, 1 ≤ k ∧ k ≤ len ∧ i = .int .i64 k ∧ Hid (wr.ownsRow W.heap.size 3 1 (.slice (some ⟨g, 0, none⟩) len c) len (((smS zs).take k ++ zs.drop k).map (Value.int .i64))) ∧ Hid (Below W.heap.size W wr)) (fun i _ => len - (intOf i).toNat)
  case atStart => exact ⟨1, Nat.le_refl _, by omega, rfl, HROW, HB1⟩
  case round =>
    obtain ⟨k, hk1, hk, rfl, HRw, HBw⟩ := hrel
    by_cases hlt : k < len
    · obtain ⟨j, hj⟩ : ∃ j, k = j + 1 := ⟨k - 1, by omega⟩
      have hjl : j < len := by omega
      have hlm : ((smS zs).take k ++ zs.drop k).length = zs.length := by rw [List.length_append, List.length_take, List.length_drop, HDL.out, ← hlen.out]; omega
      have hcx := row_cell HRw.out (j := k) (by rw [hlm, ← hlen.out]; exact hlt)
      have hcy := row_cell HRw.out (j := j) (by rw [hlm, ← hlen.out]; exact hjl)
      rw [mix_at HDL.out k k (by rw [← hlen.out]; exact hk), if_neg (by omega)] at hcx
      rw [mix_at HDL.out k j (by rw [← hlen.out]; exact hk), if_pos (by omega)] at hcy
      have hw : IntKind.i64.wrap ((k : Int) - 1) = (j : Int) := by rw [IntKind.wrap_i64]; omega
      have hfr := row_unfrozen (j := k) HRw.out
      have hst := row_store (j := k) HRw.out (.int .i64 ((smS zs)[k]?.getD 0))
      rw [← List.map_set, ← mix_step HDL.out k (by rw [← hlen.out]; exact hlt)] at hst
      have HST := Lib.hid hst
      have hval : IntKind.i64.wrap (zs[k]?.getD 0 + (smS zs)[j]?.getD 0) = (smS zs)[k]?.getD 0 := by
        subst hj
        rw [sm_at zs j (by rw [← hlen.out]; exact hlt), IntKind.wrap_i64]; unfold w64; omega
      have HBS : Hid (∀ v, Below W.heap.size W ((wr.setCell ⟨g, k, none⟩ v).drew)) := fun v => below_drew (HBw.out.setCell hg0 _)
      clear hst hlm hj
      generalize (smS zs)[k]?.getD 0 = d at *
      generalize zs[k]?.getD 0 = x at *
      generalize (smS zs)[j]?.getD 0 = y at *
      go_wp2
      go_still_tail 11, (by kernel_rfl)
      go_wp2
      go_roundw
      case rel => exact ⟨k + 1, by omega, by omega, by go_num, (Kept.refl (fun _ => True) _).drew.row HST.out trivial, HBS.out _⟩
      case measure => simp [intOf]; omega
    · obtain rfl : k = len := by omega
      have HF := Lib.hid (HRw.out)
      go_wp2
      go_ret
      refine ⟨_, _, _, rfl, ?_, HBw.out⟩
      have := HF.out
      rw [List.take_of_length_le (Nat.le_of_eq (HDL.out.trans hlen.out.symm)), List.drop_of_length_le (Nat.le_of_eq hlen.out.symm), List.append_nil] at this
      exact Rd.of_row (by rw [HDL.out]; exact hlen.out) hlc (by omega) this

theorem sums_none (a : Option Addr) (cap : Nat) (W : World) :
    Calls Try.prog 21 #[.slice a 0 cap] W (MakesL W (smS [])) := by
  go_enter Try.func21, Try.ntmps21
  go_wp2_with fail
  refine (clone_none a cap W).mono ?_
  rintro e w1 ⟨⟨a', c, rfl, hc⟩, hb1⟩
  have HB1 := Lib.hid hb1
  clear hb1
  go_wp2
  go_loopw [4] (fun i wr => i = .int .i64 1 ∧ Hid (Below W.heap.size W wr)) (fun _ _ => 0)
  case atStart => exact ⟨rfl, HB1⟩
  case round =>
    obtain ⟨rfl, HBw⟩ := hrel
    go_wp2
    go_ret
    exact ⟨_, _, c, rfl, ⟨rfl, Nat.zero_le _, hc, by decide, fun h => absurd h (by decide)⟩, HBw.out⟩

theorem sums_any {K : Nat → Prop} {a : Option Addr} {len cap : Nat} {zs : List Int} (hz : Smalls zs) (hl40 : len ≤ 1099511627776) {W : World} (hR : Rd K W .i64 a len cap zs) :
    Calls Try.prog 21 #[.slice a len cap] W (MakesL W (smS zs)) := by
  by_cases h0 : 0 < len
  · obtain ⟨b, off, rfl, _⟩ := hR.cells h0
    exact sums_some b off len cap zs hz h0 hl40 W hR
  · obtain rfl : len = 0 := by omega
    obtain rfl : zs = [] := List.eq_nil_of_length_eq_zero hR.hl.symm
    exact sums_none a cap W

end Go.Proofs.Ytmbcppkdnoccbaa
