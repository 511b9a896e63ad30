/-
  The forms of differences; what is unpacked of runs; the size of parts.
-/
import Derived.Test.YtmbcppkdnoccbaaRnForms
import Derived.Test.YtmbcppkdnoccbaaPkHere
namespace Go.Proofs.Ytmbcppkdnoccbaa
open Go.RowKit Go.Shelf Go.ChangeShapes Go.WideShapes Go.ChangeAt

/-- What makes parts, for a region that draws. -/
def PartsV (w : World) (pss : List (List Int)) (v : Value) (W' : World) : Prop := ∃ g m, v = .slice (some ⟨g, 0, none⟩) m m ∧ m = pss.length ∧ PartsAt W' g pss ∧ Below w.heap.size w W'
theorem parts_some {f : FuncId} {args : Array Value} {w : World} {pss : List (List Int)} (h : Calls Try.prog f args w (PartsPost w pss)) : Calls Try.prog f args w fun e w' => ∃ v, e = .returned v ∧ PartsV w pss v w' :=
  h.mono fun _ _ ⟨g, m, he, h1, h2, h3⟩ => ⟨_, he, g, m, rfl, h1, h2, h3⟩
def ListV (w : World) (zs : List Int) (v : Value) (W' : World) : Prop := ∃ a n c, v = .slice a n c ∧ Rd (fun b => w.heap.size ≤ b) W' .i64 a n c zs ∧ Below w.heap.size w W'
theorem list_some {f : FuncId} {args : Array Value} {w : World} {zs : List Int} (h : Calls Try.prog f args w (MakesL w zs)) : Calls Try.prog f args w fun e w' => ∃ v, e = .returned v ∧ ListV w zs v w' :=
  h.mono fun _ _ ⟨a, n, c, he, h1, h2⟩ => ⟨_, he, a, n, c, rfl, h1, h2⟩

set_option maxRecDepth 100000 in
set_option maxHeartbeats 2000000 in
theorem od1_whole {K : Nat → Prop} {a : Option Addr} {len cap : Nat} {zs : List Int} (hz : Smalls zs) (hl40 : len ≤ 1099511627776) {W : World} (hR : Rd K W .i64 a len cap zs) (B : Nat) (hP : Pair W B 84 (.func (.func 74) #[] #[]) (.func (.func 75) #[] #[])) :
    Calls Try.prog 99 #[.slice a len cap, .pointer (some ⟨B, 0, none⟩)] W (PartsPost W [dfS zs]) := by
  have HD : Hid (∀ V : World, V.heap = W.heap → Calls Try.prog 19 #[.slice a len cap] V fun e w' => ∃ v, e = .returned v ∧ ListV V (dfS zs) v w') := fun V hV => list_some (diff_any hz hl40 (hR.heap hV))
  have HP := Lib.hid hP
  have hc0 := hP.c0
  clear hR hP
  go_enter Try.func99, Try.ntmps99
  go_wp2
  go_region_law (first
    | (refine step_call_some (by go_simp) 19 #[.tmp 6] #[22] (by rfl) #[.slice a len cap] (by go_simp) (enters_of Try.func19 (by kernel_rfl) rfl _ _) _ (HD.out _ (by rfl)) ?_; rintro v w1 ⟨a1, n1, c1, rfl, hr1, hb1⟩; have HR1 := Lib.hid hr1; have HB1 : Hid (Below W.heap.size W w1) := (below_drew (Below.refl _ W)).trans hb1; have hc0 := (HB1.out.cell (p := ⟨B, 0, none⟩) HP.out.lt).trans HP.out.c0; clear hr1 hb1)
    | (refine step_call_val (by go_simp) 5 74 #[] #[.tmp 7] #[22] (by rfl) (by go_simp) #[.slice a1 n1 c1] (by go_simp) (enters_of Try.func74 (by kernel_rfl) rfl _ _) _ (parts_some (whole_any HR1.out)) ?_; rintro v w2 ⟨g, m, rfl, hm, hpa, hb2⟩; have HB2 := Lib.hid hb2; have HPA := Lib.hid hpa; have HM := Lib.hid hm; clear hb2 hpa hm))
  all_goals
    go_wp2
    go_ret
    exact ⟨g, m, rfl, HM.out, HPA.out, HB1.out.trans (HB2.out.mono HB1.out.size)⟩

set_option maxRecDepth 100000 in
set_option maxHeartbeats 2000000 in
theorem od1_both {K : Nat → Prop} {a : Option Addr} {len cap : Nat} {zs : List Int} (hz : Smalls zs) (hl40 : len ≤ 1099511627776) {W : World} (hR : Rd K W .i64 a len cap zs) (B : Nat) (hP : Pair W B 84 (.func (.func 76) #[] #[]) (.func (.func 77) #[] #[])) :
    Calls Try.prog 99 #[.slice a len cap, .pointer (some ⟨B, 0, none⟩)] W (PartsPost W [vals (dfS zs), lens (dfS zs)]) := by
  have HD : Hid (∀ V : World, V.heap = W.heap → Calls Try.prog 19 #[.slice a len cap] V fun e w' => ∃ v, e = .returned v ∧ ListV V (dfS zs) v w') := fun V hV => list_some (diff_any hz hl40 (hR.heap hV))
  have HP := Lib.hid hP
  have hc0 := hP.c0
  have HL : Hid ((dfS zs).length ≤ 1099511627776) := by show _ ≤ _; rw [df_length, ← hR.hl]; exact hl40
  clear hR hP
  go_enter Try.func99, Try.ntmps99
  go_wp2
  go_region_law (first
    | (refine step_call_some (by go_simp) 19 #[.tmp 6] #[22] (by rfl) #[.slice a len cap] (by go_simp) (enters_of Try.func19 (by kernel_rfl) rfl _ _) _ (HD.out _ (by rfl)) ?_; rintro v w1 ⟨a1, n1, c1, rfl, hr1, hb1⟩; have HR1 := Lib.hid hr1; have HB1 : Hid (Below W.heap.size W w1) := (below_drew (Below.refl _ W)).trans hb1; have hc0 := (HB1.out.cell (p := ⟨B, 0, none⟩) HP.out.lt).trans HP.out.c0; clear hr1 hb1)
    | (refine step_call_val (by go_simp) 5 76 #[] #[.tmp 7] #[22] (by rfl) (by go_simp) #[.slice a1 n1 c1] (by go_simp) (enters_of Try.func76 (by kernel_rfl) rfl _ _) _ (parts_some (both_any HR1.out (by rw [HR1.out.hl]; exact HL.out))) ?_; rintro v w2 ⟨g, m, rfl, hm, hpa, hb2⟩; have HB2 := Lib.hid hb2; have HPA := Lib.hid hpa; have HM := Lib.hid hm; clear hb2 hpa hm))
  all_goals
    go_wp2
    go_ret
    exact ⟨g, m, rfl, HM.out, HPA.out, HB1.out.trans (HB2.out.mono HB1.out.size)⟩

/-! ### The size of parts -/

def sumS (pss : List (List Int)) : Nat := (pss.map sizeS).sum
theorem size_le (zs : List Int) (hz : Smalls zs) (hl : zs.length ≤ 1099511627776) : sizeS zs ≤ 8796093022300 := by
  have h1 := head_len zs hz (by omega)
  have h2 := wide_le zs
  have h3 : zs.length * wideS zs ≤ 1099511627776 * 64 := Nat.mul_le_mul hl h2
  unfold sizeS spaceS
  omega

set_option maxRecDepth 100000 in
set_option maxHeartbeats 2000000 in
theorem psize_any {g m : Nat} {pss : List (List Int)} (hm : m = pss.length) (hm2 : m ≤ 2) (hz : ∀ ps ∈ pss, Smalls ps ∧ ps.length ≤ 1099511627776) {W : World} (hP : PartsAt W g pss) :
    Calls Try.prog 53 #[.slice (some ⟨g, 0, none⟩) m m] W fun e W' => e = .returned (.int .i64 (sumS pss)) ∧ Below W.heap.size W W' := by
  have HP := Lib.hid hP
  have HM := Lib.hid hm
  have HZ := Lib.hid hz
  have hglt := hP.lt
  clear hP hm hz
  go_enter Try.func53, Try.ntmps53
  go_wp2
  go_loopw [3, 5, 8] (fun s _ i wr => ∃ k t : Nat, k ≤ m ∧ i = .int .i64 k ∧ s = .int .i64 t ∧ t ≤ k * 8796093022300 ∧ Hid (t = sumS (pss.take k)) ∧ Hid (Below W.heap.size W wr)) (fun _ _ i _ => m - (intOf i).toNat)
  case atStart => exact ⟨0, 0, Nat.zero_le _, rfl, rfl, by decide, rfl, Below.refl _ _⟩
  case round =>
    obtain ⟨k, t, hk, rfl, rfl, ht, HT, HB⟩ := hrel
    by_cases hlt : k < m
    · obtain ⟨ps, hps⟩ : ∃ ps, pss[k]? = some ps := ⟨_, List.getElem?_eq_getElem (by rw [← HM.out]; exact hlt)⟩
      obtain ⟨a, n, c, hcell, hr⟩ := (HP.out.below HB.out).part k ps hps
      obtain ⟨hsz, hln⟩ := HZ.out ps (List.mem_of_getElem? hps)
      have hle := size_le ps hsz hln
      have HS : Hid (∀ V : World, Rd (fun _ => True) V .i64 a n c ps → Calls Try.prog 79 #[.slice a n c] V fun e W' => e = .returned (.int .i64 (sizeS ps)) ∧ Below V.heap.size V W') := fun V h => size_any hsz (by rw [h.hl]; exact hln) h
      have HT2 : Hid (t + sizeS ps = sumS (pss.take (k + 1))) := by
        show _ = _
        rw [HT.out]
        unfold sumS
        rw [List.take_add_one, hps, List.map_append, List.sum_append]; simp
      have HR := Lib.hid hr
      clear hsz hln hps hr
      generalize sizeS ps = z at *
      have htk : t ≤ 17592186044600 := Nat.le_trans ht (Nat.le_trans (Nat.mul_le_mul_right 8796093022300 (Nat.le_trans (Nat.le_of_lt hlt) hm2)) (by decide))
      have htz : t + z ≤ (k + 1) * 8796093022300 := by rw [Nat.succ_mul]; exact Nat.add_le_add ht hle
      clear ht
      rw [Nat.zero_add] at hcell
      go_wp2_with fail
      refine (HS.out _ HR.out).mono ?_
      rintro e w1 ⟨rfl, hb1⟩
      have HB1 : Hid (Below W.heap.size W w1) := HB.out.trans (hb1.mono HB.out.size)
      clear hb1
      go_wp2
      go_roundw
      case rel => exact ⟨k + 1, t + z, by omega, by go_num, by go_num, htz, HT2, HB1⟩
      case measure => simp [intOf]; omega
    · obtain rfl : k = m := by omega
      have HF : Hid (t = sumS pss) := by show _ = _; rw [HT.out, List.take_of_length_le (Nat.le_of_eq HM.out.symm)]
      go_wp2
      go_ret
      exact ⟨by rw [HF.out]; rfl, HB.out⟩

end Go.Proofs.Ytmbcppkdnoccbaa
