/-
  A proper beginning of a packed form is too short: for all lists and numbers the law returns true and changes nothing. No condition.
-/
import Derived.Test.YtdgihmekljeocaaRows
import Derived.Test.YtdgihmekljeocaaPkEx2
import Derived.Test.YtdgihmekljeocaaPkShortMath
import Derived.OpenShut
namespace Go.Proofs.Ytdgihmekljeocaa.bitpackShort
open Go.ChangeShapes Go.WideShapes Go.ChangeAt Go.RowKit
open Go.Proofs.Ytdgihmekljeocaa

theorem head_oct (zs : List Int) : Oct (headS zs) := by
  unfold headS
  split
  · exact var_oct 0
  · refine ((var_oct _).append (var_oct _)).append fun x hx => ?_
    rw [List.mem_singleton] at hx
    have := width_le zs
    omega
theorem pack_oct (zs : List Int) : Oct (packS zs) := by
  unfold packS
  exact Oct.append (head_oct zs) (gather_oct _ (bitsS_bin zs) _)

/-- The first of a slice that reads. -/
theorem Rd.first {K : Nat → Prop} {W : World} {k : IntKind} {a : Option Addr} {len cap : Nat} {zs : List Int} (h : Rd K W k a len cap zs) (m : Nat) (hm : m ≤ len) : Rd K W k a m cap (zs.take m) := by
  refine ⟨by rw [List.length_take, ← h.hl]; omega, Nat.le_trans hm h.fit, h.top, Nat.le_trans hm h.small, fun h0 => ?_⟩
  obtain ⟨b, off, e, hb, hlt, hc⟩ := h.cells (by omega)
  exact ⟨b, off, e, hb, hlt, fun j hj => by rw [hc j (by omega), List.getElem?_take_of_lt hj]⟩

set_option maxRecDepth 100000 in
set_option maxHeartbeats 4000000 in
theorem walk {K1 : Nat → Prop} {a1 : Option Addr} {n1 c1 : Nat} {zs : List Int} (hz : Smalls zs) (n : Nat) (hn : n < 65536) (h1 : n1 ≤ 300) (w : World) (hR1 : Rd K1 w .i64 a1 n1 c1 zs) :
    Calls Try.prog 7 #[.slice a1 n1 c1, .int .u16 n] w fun e w' => e = .returned (.bool true) ∧ Below w.heap.size w w' := by
  have H1 := Lib.hid hR1
  clear hR1
  go_enter Try.func7, Try.ntmps7
  go_wp2_with fail
  refine (examples_any _).mono ?_
  rintro e w1 ⟨rfl, hb1⟩
  have HB1 := Lib.hid hb1
  clear hb1
  go_wp2_with fail
  have hl := H1.out.hl
  refine (packed_any hz (by omega) (H1.out.below HB1.out)).mono ?_
  rintro e w2 ⟨gp, cp, rfl, hrp, hb2⟩
  have hpl := pack_len zs hz (by omega)
  have hpo : 1 ≤ (packS zs).length := by
    unfold packS
    rw [List.length_append]
    have := head_pos zs
    omega
  have hSH := un_short hz (by omega) (n % (packS zs).length) (Nat.mod_lt _ (by omega))
  obtain ⟨lp, hlp⟩ : ∃ lp, (packS zs).length = lp := ⟨_, rfl⟩
  rw [hlp] at hrp hpl hpo hSH ⊢
  obtain ⟨m, hm⟩ : ∃ m, n % lp = m := ⟨_, rfl⟩
  have hmlt : m < lp := by rw [← hm]; exact Nat.mod_lt _ (by omega)
  have hmod : (n : Int).tmod (lp : Int) = (m : Int) := by rw [Int.tmod_eq_emod_of_nonneg (by omega)]; omega
  rw [hm] at hSH
  have HSH := Lib.hid hSH
  have HP := Lib.hid hrp
  have HB2 : Hid (Below w.heap.size w w2) := HB1.out.trans (hb2.mono HB1.out.size)
  have hlp0 : ¬ lp = 0 := by omega
  have hfit := hrp.fit
  clear hrp hb2 hlp hl hm hSH
  have HOM : Hid (Oct ((packS zs).take m)) := (pack_oct zs).take m
  go_wp2_with fail
  have hbV : Below w2.heap.size w2 (w2.alloc (.cells #[.slice (some ⟨gp, 0, none⟩) lp cp, .int .i64 0] 28)) := (Below.refl _ _).alloc (Nat.le_refl _) _
  have hPV := Pair.new w2 28 (.slice (some ⟨gp, 0, none⟩) lp cp) (.int .i64 0)
  obtain ⟨B, hB⟩ : ∃ B, w2.heap.size = B := ⟨_, rfl⟩
  rw [hB] at hPV ⊢
  have hp0 := hPV.c0
  have hp1 := hPV.c1
  have hpf := hPV.lt
  have HVP : Hid (Rd (fun b => w1.heap.size ≤ b) (w2.alloc (.cells #[.slice (some ⟨gp, 0, none⟩) lp cp, .int .i64 0] 28)) .u8 (some ⟨gp, 0, none⟩) lp cp (packS zs)) := HP.out.below hbV
  have HBV : Hid (Below w.heap.size w (w2.alloc (.cells #[.slice (some ⟨gp, 0, none⟩) lp cp, .int .i64 0] 28))) := HB2.out.trans (hbV.mono HB2.out.size)
  clear hbV hPV
  generalize w2.alloc (.cells #[.slice (some ⟨gp, 0, none⟩) lp cp, .int .i64 0] 28) = V at *
  clear HB2 HP H1 hB
  have hwn : IntKind.i64.wrap (n : Int) = n := by rw [IntKind.wrap_i64]; omega
  have hmcp : m ≤ cp := by omega
  go_region_law (first
    | (refine step_call_want (by go_simp) 24 #[.tmp 33] #[23] (by rfl) #[.slice (some ⟨gp, 0, none⟩) m cp] (by go_simp) (enters_of Try.func24 (by kernel_rfl) rfl _ _) _ _ (unpacked_bad HOM.out (Rd.first (HVP.out.below (below_drew (Below.refl _ _))) m (Nat.le_of_lt hmlt)) (by decide) HSH.out) ?_
       intro w3 hb3
       have HB3 : Hid (Below w.heap.size w w3) := HBV.out.trans (((below_drew (Below.refl _ V)).trans hb3).mono HBV.out.size)
       clear hb3)
    | (refine step_call_want (by go_simp) 21 #[.tmp 34, .tmp 35] #[37, 37] (by rfl) #[gotV 0 (.slice none 0 0) (.slice none 0 0) 7, .agg #[.int .u64 0, .slice none 0 0, .slice none 0 0, .int .i64 7]] (by go_simp) (enters_of Try.func21 (by kernel_rfl) rfl _ _) _ _ (equal_true (K1 := fun _ => True) (K2 := fun _ => True) (K3 := fun _ => True) (K4 := fun _ => True) 0 7 Rd.empty Rd.empty Rd.empty Rd.empty) ?_
       intro w8 hb8
       have HB8 : Hid (Below w.heap.size w w8) := HB3.out.trans (hb8.mono HB3.out.size)
       clear hb8))
  all_goals
    simp [Act.put]
    go_wp2
    go_ret
    exact ⟨rfl, HB8.out⟩

end Go.Proofs.Ytdgihmekljeocaa.bitpackShort
