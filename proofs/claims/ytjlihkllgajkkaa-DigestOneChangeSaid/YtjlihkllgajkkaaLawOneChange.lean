/-
  One change: for all lists, byte sequences and words, the law returns true and changes nothing. No condition.
-/
import Derived.Test.YtjlihkllgajkkaaRows
import Derived.Test.YtjlihkllgajkkaaOneMath
import Derived.Carry
import Derived.BigQuiet
import Derived.Deep.QuietTactic
import Derived.Deep.RegionHeld3
import Derived.Deep.DeepCutAuto
namespace Go.Proofs.Ytjlihkllgajkkaa.digestOneChange
open Go.ChangeShapes Go.WideShapes Go.ChangeAt Go.RowKit
open Go.Proofs.Ytjlihkllgajkkaa

/-- What a call that makes memory keeps of the box. -/
theorem keepZ {A : Nat} {z0 z1 z2 z3 : Int} {w0 W W' : World} (hA : A < w0.heap.size) (hb : Below W.heap.size W W')
    (h : (W.cell? ⟨A, 0, none⟩ = some (.int .u64 z0) ∧ W.cell? ⟨A, 1, none⟩ = some (.int .u64 z1) ∧ W.cell? ⟨A, 2, none⟩ = some (.int .u64 z2) ∧ W.cell? ⟨A, 3, none⟩ = some (.int .u64 z3)) ∧ Below w0.heap.size w0 W) :
    (W'.cell? ⟨A, 0, none⟩ = some (.int .u64 z0) ∧ W'.cell? ⟨A, 1, none⟩ = some (.int .u64 z1) ∧ W'.cell? ⟨A, 2, none⟩ = some (.int .u64 z2) ∧ W'.cell? ⟨A, 3, none⟩ = some (.int .u64 z3)) ∧ Below w0.heap.size w0 W' := by
  obtain ⟨⟨h0, h1, h2, h3⟩, h4⟩ := h
  have hl : A < W.heap.size := Nat.lt_of_lt_of_le hA h4.size
  exact ⟨⟨(hb.cell (p := ⟨A, 0, none⟩) hl).trans h0, (hb.cell (p := ⟨A, 1, none⟩) hl).trans h1, (hb.cell (p := ⟨A, 2, none⟩) hl).trans h2, (hb.cell (p := ⟨A, 3, none⟩) hl).trans h3⟩, h4.trans (hb.mono h4.size)⟩

/-- Between two rounds: the changed copy, and the words of both lists so far, in rows of the call's own. -/
def LoopI (w0 : World) (zs os : List Int) (gO len cO : Nat) (k gx cx gy cy : Nat) (W : World) : Prop :=
  Below w0.heap.size w0 W ∧ W.ownsRow w0.heap.size 3 1 (.slice (some ⟨gO, 0, none⟩) len cO) len (os.map (Value.int .i64)) ∧
    W.ownsRow w0.heap.size 24 1 (.slice (some ⟨gx, 0, none⟩) k cx) k (((asWords zs).take k).map (Value.int .u64)) ∧
    W.ownsRow w0.heap.size 24 1 (.slice (some ⟨gy, 0, none⟩) k cy) k (((asWords os).take k).map (Value.int .u64)) ∧ gx ≠ gy ∧ gx ≠ gO ∧ gy ≠ gO

theorem words_more (zs : List Int) (k : Nat) (hk : k < zs.length) : ((asWords zs).take k).map (Value.int .u64) ++ [.int .u64 (IntKind.u64.wrap (zs[k]?.getD 0))] = ((asWords zs).take (k + 1)).map (Value.int .u64) := by
  rw [take_getD_snoc (asWords zs) k (by simpa [asWords] using hk), asWords_getD zs k hk, List.map_append]; rfl

theorem reads_at {k : IntKind} {a : Option Addr} {len cap j : Nat} {zs : List Int} {w0 W : World} (h : ReadsK (fun b => b < w0.heap.size) w0 k (.slice a len cap) zs) (hlen : len = zs.length) (hj : j < len) (hb : Below w0.heap.size w0 W) :
    ∃ b off, a = some ⟨b, off, none⟩ ∧ b < w0.heap.size ∧ W.cell? ⟨b, off + j, none⟩ = some (.int k (zs[j]?.getD 0)) := by
  rcases h with ⟨a', cap', e, rfl⟩ | ⟨b, off, cap', e, hbl, _, hc⟩
  · simp at hlen; omega
  · obtain rfl : a = some ⟨b, off, none⟩ := by cases e; rfl
    exact ⟨b, off, rfl, hbl, (hb.cell (p := ⟨b, off + j, none⟩) hbl).trans (hc j (by omega))⟩

/-- What a call that makes memory keeps of two cells. -/
theorem keep2 {p q : Addr} {u v : Value} {ws W W' : World} (hp : p.block < ws.heap.size) (hq : q.block < ws.heap.size) (hb : Below W.heap.size W W')
    (h : (W.cell? p = some u ∧ W.cell? q = some v) ∧ Below ws.heap.size ws W) : (W'.cell? p = some u ∧ W'.cell? q = some v) ∧ Below ws.heap.size ws W' := by
  obtain ⟨⟨h0, h1⟩, h4⟩ := h
  exact ⟨⟨(hb.cell (Nat.lt_of_lt_of_le hp h4.size)).trans h0, (hb.cell (Nat.lt_of_lt_of_le hq h4.size)).trans h1⟩, h4.trans (hb.mono h4.size)⟩

theorem Try.infoI : (Try.prog.info? 3).map (fun i => (i.zero, i.size, i.bytes)) = some (some (.int .i64 0), 1, 8) := by kernel_rfl
theorem Try.infoB : (Try.prog.info? 5).map (fun i => (i.zero, i.size, i.bytes)) = some (some (.int .u8 0), 1, 1) := by kernel_rfl

set_option maxRecDepth 100000 in
set_option maxHeartbeats 4000000 in
theorem walk (a a2 : Option Addr) (len cap len2 cap2 : Nat) (z0 z1 z2 z3 : Int) (zs bs : List Int) (hlen : Hid (len = zs.length)) (hlen2 : Hid (len2 = bs.length)) (hfit2 : len2 ≤ cap2) (hzs : Smalls zs) (hbs : Octets bs) (h200 : len ≤ 200) (h2002 : len2 ≤ 200)
    (k0 : 0 ≤ z0 ∧ z0 < 18446744073709551616) (k1 : 0 ≤ z1 ∧ z1 < 18446744073709551616) (k2 : 0 ≤ z2 ∧ z2 < 18446744073709551616) (k3 : 0 ≤ z3 ∧ z3 < 18446744073709551616) (w : World)
    (hR : ReadsK (fun b => b < w.heap.size) w .i64 (.slice a len cap) zs) (hR2 : ReadsK (fun b => b < w.heap.size) w .u8 (.slice a2 len2 cap2) bs) :
    Calls Try.prog 4 #[.slice a len cap, .slice a2 len2 cap2, .agg #[.int .u64 z0, .int .u64 z1, .int .u64 z2, .int .u64 z3]] w fun e w' => e = .returned (.bool true) ∧ Below w.heap.size w w' := by
  obtain ⟨i0, hi, hz0, hz1, hz2⟩ := info_parts Try.infoI
  obtain ⟨j0, hj, hy0, hy1, hy2⟩ := info_parts Try.infoB
  obtain ⟨u0, hu, hv0, hv1, hv2⟩ := info_parts Try.infoW
  have HR := Lib.hid hR
  have HR2 := Lib.hid hR2
  clear hR hR2
  go_enter Try.func4, Try.ntmps4
  go_wp2_with (go_at_call 9; refine (examples_any _).mono ?_; rintro e w1 ⟨rfl, hb1⟩)
  have bA := World.alloc_heap_new w (.cells #[.int .u64 z0, .int .u64 z1, .int .u64 z2, .int .u64 z3] 37)
  have hA : w.heap.size < (w.alloc (.cells #[.int .u64 z0, .int .u64 z1, .int .u64 z2, .int .u64 z3] 37)).heap.size := by simp
  have hW0 : Below w.heap.size w (w.alloc (.cells #[.int .u64 z0, .int .u64 z1, .int .u64 z2, .int .u64 z3] 37)) := (Below.refl _ w).alloc (Nat.le_refl _) _
  generalize w.alloc (.cells #[.int .u64 z0, .int .u64 z1, .int .u64 z2, .int .u64 z3] 37) = w0 at bA hA hW0 hb1 ⊢
  have HR0 : Hid (ReadsK (fun b => b < w0.heap.size) w0 .i64 (.slice a len cap) zs) := (HR.out.below hW0).mono (fun b _ h => Nat.lt_of_lt_of_le h hW0.size)
  have HR20 : Hid (ReadsK (fun b => b < w0.heap.size) w0 .u8 (.slice a2 len2 cap2) bs) := (HR2.out.below hW0).mono (fun b _ h => Nat.lt_of_lt_of_le h hW0.size)
  obtain ⟨A, hAA⟩ : ∃ A, A = w.heap.size := ⟨_, rfl⟩
  rw [← hAA] at bA hA ⊢
  have hS : (w1.cell? ⟨A, 0, none⟩ = some (.int .u64 z0) ∧ w1.cell? ⟨A, 1, none⟩ = some (.int .u64 z1) ∧ w1.cell? ⟨A, 2, none⟩ = some (.int .u64 z2) ∧ w1.cell? ⟨A, 3, none⟩ = some (.int .u64 z3)) ∧ Below w0.heap.size w0 w1 :=
    keepZ hA hb1 ⟨⟨by unfold World.cell?; rw [bA]; rfl, by unfold World.cell?; rw [bA]; rfl, by unfold World.cell?; rw [bA]; rfl, by unfold World.cell?; rw [bA]; rfl⟩, Below.refl _ _⟩
  have hS1 : (w1.drew.cell? ⟨A, 0, none⟩ = some (.int .u64 z0) ∧ w1.drew.cell? ⟨A, 1, none⟩ = some (.int .u64 z1) ∧ w1.drew.cell? ⟨A, 2, none⟩ = some (.int .u64 z2) ∧ w1.drew.cell? ⟨A, 3, none⟩ = some (.int .u64 z3)) ∧ Below w0.heap.size w0 w1.drew := ⟨hS.1, hS.2.drew⟩
  have HZ : Hid (∀ W, Below w0.heap.size w0 W → (W.cell? ⟨A, 0, none⟩ = some (.int .u64 z0) ∧ W.cell? ⟨A, 1, none⟩ = some (.int .u64 z1) ∧ W.cell? ⟨A, 2, none⟩ = some (.int .u64 z2) ∧ W.cell? ⟨A, 3, none⟩ = some (.int .u64 z3)) ∧ Below w0.heap.size w0 W) := fun W hW => keepZ hA hW ⟨⟨by unfold World.cell?; rw [bA]; rfl, by unfold World.cell?; rw [bA]; rfl, by unfold World.cell?; rw [bA]; rfl, by unfold World.cell?; rw [bA]; rfl⟩, Below.refl _ _⟩
  have q1 : ((joinD z0 z1 == joinD z2 z1) == (z0 == z2)) = true := by rw [joins_left z0 z1 z2 k0 k2]; simp
  have q2 : ((joinD z0 z1 == joinD z0 z2) == (z1 == z2)) = true := by rw [joins_right z0 z1 z2 k1 k2]; simp
  have HJ1 : Hid (∀ W, Calls Try.prog 14 #[.int .u64 z0, .int .u64 z1] W fun e W' => e = .returned (.int .u64 (joinD z0 z1)) ∧ Below W.heap.size W W') := fun W => join_any z0 z1 k0 k1 W
  have HJ2 : Hid (∀ W, Calls Try.prog 14 #[.int .u64 z2, .int .u64 z1] W fun e W' => e = .returned (.int .u64 (joinD z2 z1)) ∧ Below W.heap.size W W') := fun W => join_any z2 z1 k2 k1 W
  have HJ3 : Hid (∀ W, Calls Try.prog 14 #[.int .u64 z0, .int .u64 z2] W fun e W' => e = .returned (.int .u64 (joinD z0 z2)) ∧ Below W.heap.size W W') := fun W => join_any z0 z2 k0 k2 W
  have bA := Lib.hid bA
  clear hAA
  go_cut [62] (fun c wx => c = .bool false ∧ (wx.cell? ⟨A, 0, none⟩ = some (.int .u64 z0) ∧ wx.cell? ⟨A, 1, none⟩ = some (.int .u64 z1) ∧ wx.cell? ⟨A, 2, none⟩ = some (.int .u64 z2) ∧ wx.cell? ⟨A, 3, none⟩ = some (.int .u64 z3)) ∧ Below w0.heap.size w0 wx)
  case first =>
    go_region_held3 (fun W => (W.cell? ⟨A, 0, none⟩ = some (.int .u64 z0) ∧ W.cell? ⟨A, 1, none⟩ = some (.int .u64 z1) ∧ W.cell? ⟨A, 2, none⟩ = some (.int .u64 z2) ∧ W.cell? ⟨A, 3, none⟩ = some (.int .u64 z3)) ∧ Below w0.heap.size w0 W)
      (first | exact hS1 | assumption | (refine keepZ hA hb4 ?_; assumption) | (refine keepZ hA hb4 ?_; exact hS1))
      (first
        | (go_at_call 14; ((with_reducible refine (HJ1.out _).mono ?_); rintro e w4 ⟨rfl, hb4⟩))
        | (go_at_call 14; ((with_reducible refine (HJ2.out _).mono ?_); rintro e w4 ⟨rfl, hb4⟩))
        | (go_at_call 14; ((with_reducible refine (HJ3.out _).mono ?_); rintro e w4 ⟨rfl, hb4⟩)))
    rename_i hH
    go_wp2_with fail
    go_meet
    exact ⟨rfl, hH⟩
  case rest =>
   obtain ⟨rfl, hH⟩ := hcut
   clear hS hS1 q1 q2 HJ1 HJ2 HJ3 hb1 w1
   go_upto_if 65 with fail
   go_cut [] (fun wx => (wx.cell? ⟨A, 0, none⟩ = some (.int .u64 z0) ∧ wx.cell? ⟨A, 1, none⟩ = some (.int .u64 z1) ∧ wx.cell? ⟨A, 2, none⟩ = some (.int .u64 z2) ∧ wx.cell? ⟨A, 3, none⟩ = some (.int .u64 z3)) ∧ Below w0.heap.size w0 wx)
   case first =>
    have hb := hH.2
    by_cases hl0 : len = 0
    · subst hl0
      go_wp2_with fail
      go_meet
      exact hH
    · have hlp : 0 < len := by omega
      clear hl0
      obtain ⟨ii, hii⟩ : ∃ ii : Nat, (ii : Int) = z3 % (len : Int) := ⟨(z3 % (len : Int)).toNat, by have := Int.emod_nonneg z3 (show (len : Int) ≠ 0 by omega); omega⟩
      have hii1 : ii < len := by have := Int.emod_lt_of_pos z3 (show (0 : Int) < (len : Int) by omega); omega
      have e8 : z3 % (len : Int) = (ii : Int) := hii.symm
      have k30 := k3.1
      have k31 := k3.2
      have hZ0 : w0.cell? ⟨A, 0, none⟩ = some (.int .u64 z0) := by unfold World.cell?; rw [bA.out]; rfl
      have hZ3 : wc.cell? ⟨A, 3, none⟩ = some (.int .u64 z3) := hH.1.2.2.2
      clear hii hH
      go_wp2_with (first
        | (at_builtin; obtain ⟨gO, cO, w2, hr, hownO, hg1, hc1, hbgO⟩ := run_append_copy' _ w0.heap.size 22 22 3 i0 _ 8 .i64 Try.underlying22 hi hz0 hz1 hz2 rfl _ 0 (World.ownsRow_made _ #[] 0 hb.size (by decide) rfl) (.slice a len cap) zs len hlen (HR0.out.below (hb.alloc hb.size _)) (by unfold maxLen; omega) (by omega) (hb.alloc hb.size _).size; refine wpList_append_want (o := ⟨some 75, _, _, _, _, _⟩) _ rfl _ _ _ _ rfl _ _ rfl rfl _ _ hr ?_; replace hb := (hb.alloc hb.size (.cells #[] 3)).grown hg1 (hb.alloc hb.size _).size (fun k e => by cases e; exact hb.size); have hcO := row_cell hownO (j := ii) (by rw [← hlen.out]; exact hii1); have hfO := row_unfrozen (j := ii) hownO; have cZ0 := (hb.cell (p := ⟨A, 0, none⟩) hA).trans hZ0; clear hr hg1 hc1))
      have hxr : -9223372036854775808 ≤ wrap64 z0 ∧ wrap64 z0 ≤ 9223372036854775807 := by unfold wrap64; omega
      have hrowO := row_store hownO (j := ii) (.int .i64 (wrap64 z0))
      generalize wrap64 z0 = x at hxr hrowO ⊢
      rw [← List.map_set] at hrowO
      have hbO := hb.setCell (p := ⟨gO, ii, none⟩) hbgO (.int .i64 x)
      obtain ⟨os, hos⟩ : ∃ os, os = zs.set ii x := ⟨_, rfl⟩
      rw [← hos] at hrowO
      have HOL : Hid (len = os.length) := by show _ = _; rw [hos, List.length_set]; exact hlen.out
      have hrX := World.ownsRow_made (w2.setCell ⟨gO, ii, none⟩ (.int .i64 x)) #[] 0 (base := w0.heap.size) (e := 24) (size := 1) hbO.size (by decide) rfl
      have hrY := World.ownsRow_made ((w2.setCell ⟨gO, ii, none⟩ (.int .i64 x)).alloc (.cells #[] 24)) #[] 0 (base := w0.heap.size) (e := 24) (size := 1) (by have := hbO.size; rw [World.size_alloc]; omega) (by decide) rfl
      have hst : (w2.setCell ⟨gO, ii, none⟩ (.int .i64 x)).heap.size = w2.heap.size := by simp [World.setCell]
      simp only [World.size_alloc, hst] at hrX hrY
      have hgO := row_lt hownO
      have hI0 : LoopI w0 zs os gO len cO 0 w2.heap.size 0 (w2.heap.size + 1) 0 (((w2.setCell ⟨gO, ii, none⟩ (.int .i64 x)).alloc (.cells #[] 24)).alloc (.cells #[] 24)) :=
        ⟨(hbO.alloc hbO.size _).alloc (hbO.alloc hbO.size _).size _, (hrowO.alloc _).alloc _, hrX.alloc _, hrY, by omega, by omega, by omega⟩
      have HI0 := Lib.hid hI0
      have HOS := Lib.hid hos
      clear hI0 hrX hrY hst hrowO hbO hownO hcO hfO cZ0 hb hos
      go_loopw [10, 11, 12] (fun sx sy i wr => ∃ k gx cx gy cy : Nat, k ≤ len ∧ i = .int .i64 k ∧ sx = .slice (some ⟨gx, 0, none⟩) k cx ∧ sy = .slice (some ⟨gy, 0, none⟩) k cy ∧ LoopI w0 zs os gO len cO k gx cx gy cy wr)
        (fun _ _ i _ => len - (intOf i).toNat)
      case atStart => exact ⟨0, _, _, _, _, Nat.zero_le _, rfl, rfl, rfl, HI0.out⟩
      case round =>
        obtain ⟨k, gx, cx, gy, cy, hk, rfl, rfl, rfl, hI⟩ := hrel
        obtain ⟨hb, hO, hX, hY, hxy, hxo, hyo⟩ := hI
        by_cases hlt : k < len
        · obtain ⟨b, off, rfl, hbl, hcl⟩ := reads_at HR0.out hlen.out hlt hb
          have hbx : w0.heap.size ≤ gx := by obtain ⟨_, _, _, _, _, _, h, _⟩ := row_block hX; exact h
          have hby : w0.heap.size ≤ gy := by obtain ⟨_, _, _, _, _, _, h, _⟩ := row_block hY; exact h
          have HM := Lib.hid (words_more zs k (by rw [← hlen.out]; exact hlt))
          have HN := Lib.hid (words_more os k (by rw [← HOL.out]; exact hlt))
          go_wp2_with (first
            | (at_builtin; obtain ⟨gX, cX, wX, hr, hX', hg, _, hbX, hfX⟩ := run_append_one_at _ w0.heap.size 27 27 24 u0 _ 8 .u64 Try.underlying27 hu hv0 hv1 hv2 rfl gx k cx _ hX (IntKind.u64.wrap (zs[k]?.getD 0)) 24 (by unfold maxLen; omega) (by omega) hb.size; refine wpList_append_want (o := ⟨some 97, _, _, _, _, _⟩) _ rfl _ _ _ _ rfl _ _ rfl rfl _ _ hr ?_; have hbx0 := row_lt hX; have hby0 := row_lt hY; have hbo0 := row_lt hO; have hY1 := row_keep (row_keep hY (World.grownBy_alloc _ _ none) (by simp)) hg (by simpa using hxy); have hO1 := row_keep (row_keep hO (World.grownBy_alloc _ _ none) (by simp)) hg (by simpa using hxo); have hcO1 := row_cell hO1 (j := k) (by rw [← HOL.out]; exact hlt); replace hb := (hb.alloc hb.size (.cells #[.int .u64 (IntKind.u64.wrap (zs[k]?.getD 0))] 24)).grown hg (hb.alloc hb.size _).size (fun r e => by cases e; exact hbx); clear hr hg hX hY hO)
            | (at_builtin; obtain ⟨gY, cY, wY, hr, hY', hg, _, hbY, hfY⟩ := run_append_one_at _ w0.heap.size 27 27 24 u0 _ 8 .u64 Try.underlying27 hu hv0 hv1 hv2 rfl gy k cy _ hY1 (IntKind.u64.wrap (os[k]?.getD 0)) 24 (by unfold maxLen; omega) (by omega) hb.size; refine wpList_append_want (o := ⟨some 105, _, _, _, _, _⟩) _ rfl _ _ _ _ rfl _ _ rfl rfl _ _ hr ?_; have hx2 := row_lt hX'; have hbo2 := row_lt hO1; have hX2 := row_keep (row_keep hX' (World.grownBy_alloc _ _ none) (by simp)) hg (by simp; omega); have hO2 := row_keep (row_keep hO1 (World.grownBy_alloc _ _ none) (by simp)) hg (by simpa using hyo); replace hb := (hb.alloc hb.size (.cells #[.int .u64 (IntKind.u64.wrap (os[k]?.getD 0))] 24)).grown hg (hb.alloc hb.size _).size (fun r e => by cases e; exact hby); clear hr hg hX' hY1 hO1))
          go_roundw
          case rel => exact ⟨k + 1, gX, cX, gY, cY, by omega, by go_num, rfl, rfl, hb, hO2, by rw [← HM.out]; exact hX2, by rw [← HN.out]; exact hY', by omega, by omega, by omega⟩
          case measure => simp [intOf]; omega
        · obtain rfl : k = len := by omega
          clear HI0
          obtain ⟨b, off, rfl, hbl, hcl⟩ := reads_at HR0.out hlen.out hii1 hb
          have hco := row_cell hO (j := ii) (by rw [← HOL.out]; exact hii1)
          have hox : os[ii]?.getD 0 = x := by rw [HOS.out, List.getElem?_set_self (by rw [← hlen.out]; exact hii1)]; rfl
          rw [hox] at hco
          have hbw : b < wr.heap.size := Nat.lt_of_lt_of_le hbl hb.size
          have hgw := row_lt hO
          have q3 : ((wordsD zs == wordsD os) == (zs[ii]?.getD 0 == x)) = true := by rw [HOS.out, words_one zs hzs ii (by rw [← hlen.out]; exact hii1) x hxr]; simp
          have q4 : ((listD (asWords zs) == listD (asWords os)) == (zs[ii]?.getD 0 == x)) = true := by rw [HOS.out, list_one zs hzs ii (by rw [← hlen.out]; exact hii1) x hxr]; simp
          have hlx : k = (asWords zs).length := by rw [hlen.out]; simp [asWords]
          have hly : k = (asWords os).length := by rw [HOL.out]; simp [asWords]
          rw [List.take_of_length_le (by omega)] at hX hY
          have HWl : Hid (∀ W, (W.cell? ⟨b, off + ii, none⟩ = some (.int .i64 (zs[ii]?.getD 0)) ∧ W.cell? ⟨gO, ii, none⟩ = some (.int .i64 x)) ∧ Below wr.heap.size wr W → Calls Try.prog 16 #[.slice (some ⟨b, off, none⟩) k cap] W fun e W' => e = .returned (.int .u64 (wordsD zs)) ∧ Below W.heap.size W W') := fun W h =>
            words_any _ k cap zs hlen.out (by rw [← hlen.out]; omega) W ((HR0.out.below (hb.trans (h.2.mono hb.size))).mono (fun b _ hb2 => Nat.lt_of_lt_of_le hb2 (hb.trans (h.2.mono hb.size)).size))
          have HWo : Hid (∀ W, (W.cell? ⟨b, off + ii, none⟩ = some (.int .i64 (zs[ii]?.getD 0)) ∧ W.cell? ⟨gO, ii, none⟩ = some (.int .i64 x)) ∧ Below wr.heap.size wr W → Calls Try.prog 16 #[.slice (some ⟨gO, 0, none⟩) k cO] W fun e W' => e = .returned (.int .u64 (wordsD os)) ∧ Below W.heap.size W W') := fun W h =>
            words_any _ k cO os HOL.out (by rw [← HOL.out]; omega) W (((row_reads HOL.out hO).below h.2).mono (fun b _ hb2 => Nat.lt_of_lt_of_le hb2 h.2.size))
          have HLx : Hid (∀ W, (W.cell? ⟨b, off + ii, none⟩ = some (.int .i64 (zs[ii]?.getD 0)) ∧ W.cell? ⟨gO, ii, none⟩ = some (.int .i64 x)) ∧ Below wr.heap.size wr W → Calls Try.prog 10 #[.slice (some ⟨gx, 0, none⟩) k cx] W fun e W' => e = .returned (.int .u64 (listD (asWords zs))) ∧ Below W.heap.size W W') := fun W h =>
            list_any _ k cx (asWords zs) hlx (by rw [← hlx]; omega) (asWords_words zs) W (((row_reads hlx hX).below h.2).mono (fun b _ hb2 => Nat.lt_of_lt_of_le hb2 h.2.size))
          have HLy : Hid (∀ W, (W.cell? ⟨b, off + ii, none⟩ = some (.int .i64 (zs[ii]?.getD 0)) ∧ W.cell? ⟨gO, ii, none⟩ = some (.int .i64 x)) ∧ Below wr.heap.size wr W → Calls Try.prog 10 #[.slice (some ⟨gy, 0, none⟩) k cy] W fun e W' => e = .returned (.int .u64 (listD (asWords os))) ∧ Below W.heap.size W W') := fun W h =>
            list_any _ k cy (asWords os) hly (by rw [← hly]; omega) (asWords_words os) W (((row_reads hly hY).below h.2).mono (fun b _ hb2 => Nat.lt_of_lt_of_le hb2 h.2.size))
          have hS1 : (wr.drew.cell? ⟨b, off + ii, none⟩ = some (.int .i64 (zs[ii]?.getD 0)) ∧ wr.drew.cell? ⟨gO, ii, none⟩ = some (.int .i64 x)) ∧ Below wr.heap.size wr wr.drew := ⟨⟨hcl, hco⟩, (Below.refl _ wr).drew⟩
          have HB := Lib.hid hb
          clear hO hX hY hlx hly hox hb hcl hco
          go_wp2_with (fail)
          go_region_held3 (fun W => (W.cell? ⟨b, off + ii, none⟩ = some (.int .i64 (zs[ii]?.getD 0)) ∧ W.cell? ⟨gO, ii, none⟩ = some (.int .i64 x)) ∧ Below wr.heap.size wr W)
            (first | exact hS1 | assumption | (refine keep2 hbw hgw hb4 ?_; assumption) | (refine keep2 hbw hgw hb4 ?_; exact hS1))
            (first
              | (go_at_call 16; ((with_reducible refine Calls.mono (HWl.out _ ?_) ?_); (· assumption); rintro e w4 ⟨rfl, hb4⟩))
              | (go_at_call 16; ((with_reducible refine Calls.mono (HWo.out _ ?_) ?_); (· assumption); rintro e w4 ⟨rfl, hb4⟩))
              | (go_at_call 10; ((with_reducible refine Calls.mono (HLx.out _ ?_) ?_); (· assumption); rintro e w4 ⟨rfl, hb4⟩))
              | (go_at_call 10; ((with_reducible refine Calls.mono (HLy.out _ ?_) ?_); (· assumption); rintro e w4 ⟨rfl, hb4⟩)))
          rename_i hH
          go_wp2_with fail
          go_meet
          exact HZ.out _ (HB.out.trans (hH.2.mono HB.out.size))
   case rest =>
    have hb := hcut.2
    by_cases hl0 : len2 = 0
    · subst hl0
      go_wp2
      go_ret
      exact ⟨rfl, hW0.trans (hb.mono hW0.size)⟩
    · have hlp : 0 < len2 := by omega
      clear hl0
      obtain ⟨ii, hii⟩ : ∃ ii : Nat, (ii : Int) = z3 % (len2 : Int) := ⟨(z3 % (len2 : Int)).toNat, by have := Int.emod_nonneg z3 (show (len2 : Int) ≠ 0 by omega); omega⟩
      have hii1 : ii < len2 := by have := Int.emod_lt_of_pos z3 (show (0 : Int) < (len2 : Int) by omega); omega
      have e8 : z3 % (len2 : Int) = (ii : Int) := hii.symm
      have k30 := k3.1
      have k31 := k3.2
      have hZ0 : w0.cell? ⟨A, 0, none⟩ = some (.int .u64 z0) := by unfold World.cell?; rw [bA.out]; rfl
      have hZ3 : wc.cell? ⟨A, 3, none⟩ = some (.int .u64 z3) := hcut.1.2.2.2
      clear hii hcut
      go_wp2_with (first
        | (at_builtin; obtain ⟨gO, cO, w2, hr, hownO, hg1, hc1, hbgO⟩ := run_append_copy' _ w0.heap.size 23 23 5 j0 _ 1 .u8 Try.underlying23 hj hy0 hy1 hy2 rfl _ 0 (World.ownsRow_made _ #[] 0 hb.size (by decide) rfl) (.slice a2 len2 cap2) bs len2 hlen2 (HR20.out.below (hb.alloc hb.size _)) (by unfold maxLen; omega) (by omega) (hb.alloc hb.size _).size; refine wpList_append_want (o := ⟨some 150, _, _, _, _, _⟩) _ rfl _ _ _ _ rfl _ _ rfl rfl _ _ hr ?_; replace hb := (hb.alloc hb.size (.cells #[] 5)).grown hg1 (hb.alloc hb.size _).size (fun k e => by cases e; exact hb.size); have hcO := row_cell hownO (j := ii) (by rw [← hlen2.out]; exact hii1); have hfO := row_unfrozen (j := ii) hownO; have cZ0 := (hb.cell (p := ⟨A, 0, none⟩) hA).trans hZ0; clear hr hg1))
      have hxr : 0 ≤ z0 % 256 ∧ z0 % 256 < 256 := by omega
      have hrowO := row_store hownO (j := ii) (.int .u8 (z0 % 256))
      generalize z0 % 256 = x at hxr hrowO ⊢
      rw [← List.map_set] at hrowO
      have hbO := hb.setCell (p := ⟨gO, ii, none⟩) hbgO (.int .u8 x)
      clear hownO hcO hfO cZ0 hb
      generalize w2.setCell ⟨gO, ii, none⟩ (.int .u8 x) = wr at hrowO hbO ⊢
      obtain ⟨os, hos⟩ : ∃ os, os = bs.set ii x := ⟨_, rfl⟩
      rw [← hos] at hrowO
      have HOL : Hid (len2 = os.length) := by show _ = _; rw [hos, List.length_set]; exact hlen2.out
      have hoct : Octets os := fun y hy => by
        rw [hos] at hy
        rcases List.mem_or_eq_of_mem_set hy with h | h
        · exact hbs y h
        · rw [h]; exact hxr
      obtain ⟨b, off, rfl, hbl, hcl⟩ := reads_at HR20.out hlen2.out hii1 hbO
      have hco := row_cell hrowO (j := ii) (by rw [← HOL.out]; exact hii1)
      have hox : os[ii]?.getD 0 = x := by rw [hos, List.getElem?_set_self (by rw [← hlen2.out]; exact hii1)]; rfl
      rw [hox] at hco
      have hbw : b < wr.heap.size := Nat.lt_of_lt_of_le hbl hbO.size
      have hgw := row_lt hrowO
      have q3 : ((bytesD bs == bytesD os) == (bs[ii]?.getD 0 == x)) = true := by rw [hos, bytes_one bs hbs ii (by rw [← hlen2.out]; exact hii1) x hxr]; simp
      have HWl : Hid (∀ W, (W.cell? ⟨b, off + ii, none⟩ = some (.int .u8 (bs[ii]?.getD 0)) ∧ W.cell? ⟨gO, ii, none⟩ = some (.int .u8 x)) ∧ Below wr.heap.size wr W → Calls Try.prog 18 #[.slice (some ⟨b, off, none⟩) len2 cap2] W fun e W' => e = .returned (.int .u64 (bytesD bs)) ∧ Below W.heap.size W W') := fun W h =>
        bytes_any _ len2 cap2 bs hlen2.out (by rw [← hlen2.out]; omega) hfit2 hbs W ((HR20.out.below (hbO.trans (h.2.mono hbO.size))).mono (fun b _ hb2 => Nat.lt_of_lt_of_le hb2 (hbO.trans (h.2.mono hbO.size)).size))
      have HWo : Hid (∀ W, (W.cell? ⟨b, off + ii, none⟩ = some (.int .u8 (bs[ii]?.getD 0)) ∧ W.cell? ⟨gO, ii, none⟩ = some (.int .u8 x)) ∧ Below wr.heap.size wr W → Calls Try.prog 18 #[.slice (some ⟨gO, 0, none⟩) len2 cO] W fun e W' => e = .returned (.int .u64 (bytesD os)) ∧ Below W.heap.size W W') := fun W h =>
        bytes_any _ len2 cO os HOL.out (by rw [← HOL.out]; omega) hc1 hoct W (((row_reads HOL.out hrowO).below h.2).mono (fun b _ hb2 => Nat.lt_of_lt_of_le hb2 h.2.size))
      have hS1 : (wr.drew.cell? ⟨b, off + ii, none⟩ = some (.int .u8 (bs[ii]?.getD 0)) ∧ wr.drew.cell? ⟨gO, ii, none⟩ = some (.int .u8 x)) ∧ Below wr.heap.size wr wr.drew := ⟨⟨hcl, hco⟩, (Below.refl _ wr).drew⟩
      have HB := Lib.hid hbO
      clear hrowO hbO hos hox hcl hco
      go_region_held3 (fun W => (W.cell? ⟨b, off + ii, none⟩ = some (.int .u8 (bs[ii]?.getD 0)) ∧ W.cell? ⟨gO, ii, none⟩ = some (.int .u8 x)) ∧ Below wr.heap.size wr W)
        (first | exact hS1 | assumption | (refine keep2 hbw hgw hb4 ?_; assumption) | (refine keep2 hbw hgw hb4 ?_; exact hS1))
        (first
          | (go_at_call 18; ((with_reducible refine Calls.mono (HWl.out _ ?_) ?_); (· assumption); rintro e w4 ⟨rfl, hb4⟩))
          | (go_at_call 18; ((with_reducible refine Calls.mono (HWo.out _ ?_) ?_); (· assumption); rintro e w4 ⟨rfl, hb4⟩)))
      rename_i hH
      go_wp2
      go_ret
      exact ⟨rfl, hW0.trans ((HB.out.trans (hH.2.mono HB.out.size)).mono hW0.size)⟩

end Go.Proofs.Ytjlihkllgajkkaa.digestOneChange
