/-
  Tokens that bytes describe.
-/
import Derived.Test.YtpmciakmmchndaaLxOf
import Derived.Test.YtpmciakmmchndaaRnOpen
namespace Go.Proofs.Ytpmciakmmchndaa.Lx
open Go Go.RowKit Go.Shelf Go.Sort Go.ChangeShapes Go.WideShapes Go.ChangeAt
open Go.Proofs.Ytpmciakmmchndaa

def mdW : List (List UInt8) := [[115, 101, 116], [116], [97, 49], [105, 110, 115, 101, 114, 116], [108, 111, 110, 103, 101, 115, 116, 110, 97, 109, 101, 111, 102, 49, 54, 120], [110, 117, 108, 108]]
def mdN : List (List UInt8) := [[48], [49], [49, 50, 46, 53], [48, 48, 55], [51, 46, 49, 52, 48], [49, 48, 48, 48, 48, 48, 48, 48, 48, 48, 48, 48, 48, 48, 48, 48, 48, 48, 48, 48, 48, 48, 48, 48, 48, 48, 48, 48, 48, 48, 48, 48, 48, 48, 48, 48, 48, 48, 48, 48]]
def mdX : List (List UInt8) := [[], [97], [34], [97, 92, 98], [35, 32, 110, 111, 44, 32, 99, 111, 109, 109, 101, 110, 116, 59], [92, 34, 120, 32, 126]]
def mdS : List (List UInt8) := [[40], [41], [44], [59], [58], [46], [61], [60], [60, 61], [43], [45], [42]]
def madeT (x y : Nat) : Tk := if x % 4 = 0 then ⟨1, mdW[y % 6]?.getD [], 0⟩ else if x % 4 = 1 then ⟨2, mdN[y % 6]?.getD [], 0⟩ else if x % 4 = 2 then ⟨3, mdX[y % 6]?.getD [], 0⟩ else ⟨4, mdS[y % 12]?.getD [], 0⟩
def madeS (bs : List Int) (k : Nat) : List Tk := (List.range k).map fun j => madeT (bs[2 * j]?.getD 0).toNat (bs[2 * j + 1]?.getD 0).toNat
theorem madeS_len (bs : List Int) (k : Nat) : (madeS bs k).length = k := by unfold madeS; simp
theorem madeS_snoc (bs : List Int) (k : Nat) : madeS bs (k + 1) = madeS bs k ++ [madeT (bs[2 * k]?.getD 0).toNat (bs[2 * k + 1]?.getD 0).toNat] := by unfold madeS; rw [List.range_succ, List.map_append]; rfl
/-- How many tokens so many bytes describe. -/
def mdK (n : Nat) : Nat := min (n / 2) 30

/-- The slice at a reads as the bytes zs, however many. -/
structure RdB (W : World) (a : Option Addr) (n c : Nat) (zs : List Int) : Prop where
  hl : n = zs.length
  fit : n ≤ c
  top : c ≤ 9223372036854775807
  cells : 0 < n → ∃ b off, a = some ⟨b, off, none⟩ ∧ b < W.heap.size ∧ ∀ j, j < n → W.cell? ⟨b, off + j, none⟩ = some (.int .u8 (zs[j]?.getD 0))
theorem RdB.below {A C : World} {a : Option Addr} {n c : Nat} {zs : List Int} (h : RdB A a n c zs) (hk : Below A.heap.size A C) : RdB C a n c zs :=
  ⟨h.hl, h.fit, h.top, fun h0 => by
    obtain ⟨b, off, e, hlt, hc⟩ := h.cells h0
    exact ⟨b, off, e, Nat.lt_of_lt_of_le hlt hk.size, fun j hj => (World.cell?_of_block (w := A) (hk.block b hlt)).trans (hc j hj)⟩⟩
/-- A list of bytes that came in. -/
theorem open_bytes10 {H : Type} {enc : TypeId × Value → H} {P : Program} {W : World} {r : Reach} {b0 : Nat} {t e : TypeId} {v : Value} {d : DataW H} {ps : List MemPlace}
    (ht : P.underlying t = some (.slice e)) (he : P.underlying e = some (.int .u8)) (hc : P.cellsOf e = 1) (hval : Value.okWide P W r b0 t v) (hd : DataW.Trod enc P W 0 (fun _ => true) true t v d ps) :
    ∃ a n c zs, v = .slice a n c ∧ RdB W a n c zs ∧ (∀ x ∈ zs, (Lit.int .u8 x).wf = true) := by
  obtain ⟨a0, len, cap, rfl⟩ := okWide_slice ht hval
  obtain ⟨fuel, hf⟩ := hd
  rcases open_ints ht he hc hf with ⟨hcs, hx⟩ | ⟨a, len', cap', zs, hcs, _, hl, hm, hz, hx, hcell, hwz⟩
  · simp [Value.cells] at hcs
    obtain ⟨rfl, rfl, rfl⟩ := hcs
    exact ⟨none, 0, 0, [], rfl, ⟨rfl, Nat.le_refl _, by decide, fun h => absurd h (by decide)⟩, fun n hn => by cases hn⟩
  · simp [Value.cells] at hcs
    obtain ⟨rfl, rfl, rfl⟩ := hcs
    simp only [if_true] at hz
    have hm' : cap ≤ 9223372036854775807 := by unfold maxLen at hm; omega
    refine ⟨some a, len, cap, zs.take len, rfl, ⟨by simp; omega, hl, hm', fun h0 => ?_⟩, fun n hn => hwz n (List.mem_of_mem_take hn)⟩
    obtain ⟨b, off, spot⟩ := a
    have hspot : spot = none := by simpa [Addr.add] using World.cell?_spot (hcell 0 (by omega))
    subst hspot
    refine ⟨b, off, rfl, ?_, fun j hj => ?_⟩
    · obtain ⟨o, ho, _⟩ := cells_of_cell (hcell 0 (by omega))
      exact (Array.getElem?_eq_some_iff.1 ho).1
    · have := hcell j (by omega)
      rw [add_plain] at this
      rw [this, List.getElem?_take_of_lt hj, List.getD_eq_getElem?_getD]

theorem Trio.put1 {W : World} {B : Nat} {t : TypeId} {a b c : Value} (h : Trio W B t a b c) (v : Value) : Trio (W.setCell ⟨B, 1, none⟩ v) B t a v c := by
  have h : W.heap[B]? = _ := h
  show (W.setCell ⟨B, 1, none⟩ v).heap[B]? = _
  simp [World.setCell, Array.getElem?_modify, h]

set_option maxRecDepth 100000 in
set_option maxHeartbeats 8000000 in
theorem made_any {a : Option Addr} {n c : Nat} {bs : List Int} {w : World} (h : RdB w a n c bs) (hoct : Oct bs) :
    Calls Try.prog 25 #[.slice a n c] w fun e V => ∃ a' c', e = .returned (.slice a' (mdK n) c') ∧ RdK V a' (mdK n) c' (madeS bs (mdK n)) ∧ Below w.heap.size w V := by
  obtain ⟨i0, hi, hz0, hz1, hz2⟩ := info_R
  have hb0 := (Below.refl w.heap.size w).alloc (Nat.le_refl _) (.cells #[] 29)
  have hx0 := own_none w 29 3 w.heap.size (Nat.le_refl _)
  have HB0 := Lib.hid hb0
  have HX0 := Lib.hid hx0
  have HH := Lib.hid h
  have HO := Lib.hid hoct
  have hnc := h.fit
  have hct := h.top
  clear hb0 hx0 h hoct
  obtain ⟨q, hq⟩ : ∃ q, mdK n = q := ⟨_, rfl⟩
  have HK : Hid (q = min (n / 2) 30) := hq.symm
  rw [hq]
  clear hq
  go_enter Try.func25, Try.ntmps25
  go_wp2
  go_loopw [3, 4] (fun v i wr => ∃ k : Nat, k ≤ q ∧ i = .int .i64 (2 * (k : Int)) ∧ Hid (wr.ownsRow w.heap.size 29 3 v (madeS bs k).length (cellsK (madeS bs k)) ∧ Below w.heap.size w wr)) (fun _ i _ => 60 - (intOf i).toNat)
  case atStart => exact ⟨0, Nat.zero_le _, rfl, HX0.out, HB0.out⟩
  case round =>
    obtain ⟨k, hk, rfl, HI⟩ := hrel
    by_cases hlt : k < q
    · have hlt2 : 2 * (k : Int) + 1 < (n : Int) := by have := HK.out; omega
      have hlt3 : 2 * (k : Int) < 60 := by have := HK.out; omega
      have hkn : 2 * k + 1 < n := by omega
      obtain ⟨b, off, rfl, hlb, hc⟩ := HH.out.cells (by omega)
      have h0 := hc (2 * k) (by omega)
      have h1 := hc (2 * k + 1) hkn
      have HSN := Lib.hid (madeS_snoc bs k)
      have hoc : ∀ j, j < n → 0 ≤ bs[j]?.getD 0 ∧ bs[j]?.getD 0 < 256 := fun j hj => by
        rw [List.getElem?_eq_getElem (by rw [← HH.out.hl]; exact hj)]
        have := HO.out _ (List.getElem_mem (by rw [← HH.out.hl]; exact hj))
        show 0 ≤ bs[j]'_ ∧ bs[j]'_ < 256
        omega
      have hx256 := hoc (2 * k) (by omega)
      have hy256 := hoc (2 * k + 1) hkn
      clear hoc hc
      generalize bs[2 * k]?.getD 0 = xi at *
      generalize bs[2 * k + 1]?.getD 0 = yi at *
      obtain ⟨x, rfl⟩ : ∃ x : Nat, xi = (x : Int) := ⟨xi.toNat, by omega⟩
      obtain ⟨y, rfl⟩ : ∃ y : Nat, yi = (y : Int) := ⟨yi.toNat, by omega⟩
      have hx : x < 256 := by omega
      have hy : y < 256 := by omega
      rw [Int.toNat_natCast, Int.toNat_natCast] at HSN
      have d0 := (HI.out.2.cell (p := ⟨b, off + 2 * k, none⟩) hlb).trans h0
      have d1 := (HI.out.2.cell (p := ⟨b, off + (2 * k + 1), none⟩) hlb).trans h1
      have hbl : b < wr.heap.size := Nat.lt_of_lt_of_le hlb HI.out.2.size
      have hkk : k ≤ 30 := by have := HK.out; omega
      have hadd : (2 * (k : Int)).toNat = 2 * k := by omega
      have hadd1 : (2 * (k : Int) + 1).toNat = 2 * k + 1 := by omega
      have hwy : IntKind.i64.wrap (y : Int) = (y : Int) := by rw [IntKind.wrap_i64]; omega
      have HLT := Lib.hid hlt
      clear h0 h1 hx256 hy256 hlt hk
      rcases (by omega : x % 4 = 0 ∨ x % 4 = 1 ∨ x % 4 = 2 ∨ x % 4 = 3) with hr | hr | hr | hr
      · have hx4 : (x : Int).tmod 4 = 0 := by rw [Int.tmod_eq_emod_of_nonneg (by omega)]; omega
        obtain ⟨m, hm, hy6⟩ : ∃ m : Nat, m < 6 ∧ y % 6 = m := ⟨y % 6, Nat.mod_lt _ (by decide), rfl⟩
        have hyt : (y : Int).tmod 6 = (m : Int) := by rw [Int.tmod_eq_emod_of_nonneg (by omega)]; omega
        have HMT : Hid (madeT x y = ⟨1, mdW[m]?.getD [], 0⟩) := by show _ = _; unfold madeT; rw [if_pos hr]; rw [hy6]
        clear hr hx hy hy6
        rcases (by omega : m = 0 ∨ m = 1 ∨ m = 2 ∨ m = 3 ∨ m = 4 ∨ m = 5) with rfl | rfl | rfl | rfl | rfl | rfl
        · have HT := Lib.hid (HMT.out.trans (show _ = (⟨1, [115, 101, 116], 0⟩ : Tk) from rfl))
          clear HMT
          have hbA := (Below.refl wr.heap.size wr).alloc (Nat.le_refl _) (.cells #[.int .i64 1, .string ⟨#[115, 101, 116]⟩, .int .i64 0] 29)
          have HBC := Lib.hid (hbA.alloc (by simp) (.cells #[.string ⟨#[115, 101, 116]⟩, .string ⟨#[116]⟩, .string ⟨#[97, 49]⟩, .string ⟨#[105, 110, 115, 101, 114, 116]⟩, .string ⟨#[108, 111, 110, 103, 101, 115, 116, 110, 97, 109, 101, 111, 102, 49, 54, 120]⟩, .string ⟨#[110, 117, 108, 108]⟩] 9))
          have HUC := Lib.hid ((Trio.new wr 29 (.int .i64 1) (.string ⟨#[115, 101, 116]⟩) (.int .i64 0)).below (V := (wr.alloc (.cells #[.int .i64 1, .string ⟨#[115, 101, 116]⟩, .int .i64 0] 29)).alloc (.cells #[.string ⟨#[115, 101, 116]⟩, .string ⟨#[116]⟩, .string ⟨#[97, 49]⟩, .string ⟨#[105, 110, 115, 101, 114, 116]⟩, .string ⟨#[108, 111, 110, 103, 101, 115, 116, 110, 97, 109, 101, 111, 102, 49, 54, 120]⟩, .string ⟨#[110, 117, 108, 108]⟩] 9)) ((Below.refl (wr.alloc (.cells #[.int .i64 1, .string ⟨#[115, 101, 116]⟩, .int .i64 0] 29)).heap.size _).alloc (Nat.le_refl _) _) (by simp))
          clear hbA
          go_upto_region 15 with fail
          obtain ⟨wC, hwC⟩ : ∃ wC, (wr.alloc (.cells #[.int .i64 1, .string ⟨#[115, 101, 116]⟩, .int .i64 0] 29)).alloc (.cells #[.string ⟨#[115, 101, 116]⟩, .string ⟨#[116]⟩, .string ⟨#[97, 49]⟩, .string ⟨#[105, 110, 115, 101, 114, 116]⟩, .string ⟨#[108, 111, 110, 103, 101, 115, 116, 110, 97, 109, 101, 111, 102, 49, 54, 120]⟩, .string ⟨#[110, 117, 108, 108]⟩] 9) = wC := ⟨_, rfl⟩
          rw [hwC] at HUC HBC ⊢
          clear hwC d0 d1
          have HXC := Lib.hid (row_below HI.out.1 HBC.out)
          have HWC := Lib.hid (HI.out.2.trans (HBC.out.mono HI.out.2.size))
          generalize wr.heap.size = U at *
          have q0 := HUC.out.c0
          have q1 := HUC.out.c1
          have q2 := HUC.out.c2
          obtain ⟨v7, w7, hr7, hX7, hB7, _⟩ := append_tok (P := Try.prog) wC w.heap.size 22 22 29 29 i0 _ Try.underlying22 hi hz0 hz1 hz2 rfl u3 _ _ HXC.out ⟨1, [115, 101, 116], 0⟩ (by rw [madeS_len]; omega) HWC.out.size
          change (Builtin.append_ _ _ _).run Try.prog (wC.alloc (.cells #[.int .i64 1, .string ⟨#[115, 101, 116]⟩, .int .i64 0] 29)) = _ at hr7
          have HB7 := Lib.hid (HWC.out.trans hB7)
          have HX7 : Hid (w7.ownsRow w.heap.size 29 3 v7 (madeS bs (k + 1)).length (cellsK (madeS bs (k + 1)))) := by
            rw [HSN.out, HT.out, List.length_append]; exact hX7
          have HR7 := Lib.hid hr7
          clear hr7 hX7 hB7
          go_wp2_with (at_builtin; refine wpList_append_want (o := ⟨some 68, _, _, _, _, _⟩) _ rfl _ _ _ _ rfl _ _ rfl rfl _ _ HR7.out ?_)
          go_roundw
          case rel => exact ⟨k + 1, by have := HLT.out; omega, by go_num, HX7.out, HB7.out⟩
          case measure => simp [intOf]; omega
        · have HT := Lib.hid (HMT.out.trans (show _ = (⟨1, [116], 0⟩ : Tk) from rfl))
          clear HMT
          have hbA := (Below.refl wr.heap.size wr).alloc (Nat.le_refl _) (.cells #[.int .i64 1, .string ⟨#[116]⟩, .int .i64 0] 29)
          have HBC := Lib.hid (hbA.alloc (by simp) (.cells #[.string ⟨#[115, 101, 116]⟩, .string ⟨#[116]⟩, .string ⟨#[97, 49]⟩, .string ⟨#[105, 110, 115, 101, 114, 116]⟩, .string ⟨#[108, 111, 110, 103, 101, 115, 116, 110, 97, 109, 101, 111, 102, 49, 54, 120]⟩, .string ⟨#[110, 117, 108, 108]⟩] 9))
          have HUC := Lib.hid ((Trio.new wr 29 (.int .i64 1) (.string ⟨#[116]⟩) (.int .i64 0)).below (V := (wr.alloc (.cells #[.int .i64 1, .string ⟨#[116]⟩, .int .i64 0] 29)).alloc (.cells #[.string ⟨#[115, 101, 116]⟩, .string ⟨#[116]⟩, .string ⟨#[97, 49]⟩, .string ⟨#[105, 110, 115, 101, 114, 116]⟩, .string ⟨#[108, 111, 110, 103, 101, 115, 116, 110, 97, 109, 101, 111, 102, 49, 54, 120]⟩, .string ⟨#[110, 117, 108, 108]⟩] 9)) ((Below.refl (wr.alloc (.cells #[.int .i64 1, .string ⟨#[116]⟩, .int .i64 0] 29)).heap.size _).alloc (Nat.le_refl _) _) (by simp))
          clear hbA
          go_upto_region 15 with fail
          obtain ⟨wC, hwC⟩ : ∃ wC, (wr.alloc (.cells #[.int .i64 1, .string ⟨#[116]⟩, .int .i64 0] 29)).alloc (.cells #[.string ⟨#[115, 101, 116]⟩, .string ⟨#[116]⟩, .string ⟨#[97, 49]⟩, .string ⟨#[105, 110, 115, 101, 114, 116]⟩, .string ⟨#[108, 111, 110, 103, 101, 115, 116, 110, 97, 109, 101, 111, 102, 49, 54, 120]⟩, .string ⟨#[110, 117, 108, 108]⟩] 9) = wC := ⟨_, rfl⟩
          rw [hwC] at HUC HBC ⊢
          clear hwC d0 d1
          have HXC := Lib.hid (row_below HI.out.1 HBC.out)
          have HWC := Lib.hid (HI.out.2.trans (HBC.out.mono HI.out.2.size))
          generalize wr.heap.size = U at *
          have q0 := HUC.out.c0
          have q1 := HUC.out.c1
          have q2 := HUC.out.c2
          obtain ⟨v7, w7, hr7, hX7, hB7, _⟩ := append_tok (P := Try.prog) wC w.heap.size 22 22 29 29 i0 _ Try.underlying22 hi hz0 hz1 hz2 rfl u3 _ _ HXC.out ⟨1, [116], 0⟩ (by rw [madeS_len]; omega) HWC.out.size
          change (Builtin.append_ _ _ _).run Try.prog (wC.alloc (.cells #[.int .i64 1, .string ⟨#[116]⟩, .int .i64 0] 29)) = _ at hr7
          have HB7 := Lib.hid (HWC.out.trans hB7)
          have HX7 : Hid (w7.ownsRow w.heap.size 29 3 v7 (madeS bs (k + 1)).length (cellsK (madeS bs (k + 1)))) := by
            rw [HSN.out, HT.out, List.length_append]; exact hX7
          have HR7 := Lib.hid hr7
          clear hr7 hX7 hB7
          go_wp2_with (at_builtin; refine wpList_append_want (o := ⟨some 68, _, _, _, _, _⟩) _ rfl _ _ _ _ rfl _ _ rfl rfl _ _ HR7.out ?_)
          go_roundw
          case rel => exact ⟨k + 1, by have := HLT.out; omega, by go_num, HX7.out, HB7.out⟩
          case measure => simp [intOf]; omega
        · have HT := Lib.hid (HMT.out.trans (show _ = (⟨1, [97, 49], 0⟩ : Tk) from rfl))
          clear HMT
          have hbA := (Below.refl wr.heap.size wr).alloc (Nat.le_refl _) (.cells #[.int .i64 1, .string ⟨#[97, 49]⟩, .int .i64 0] 29)
          have HBC := Lib.hid (hbA.alloc (by simp) (.cells #[.string ⟨#[115, 101, 116]⟩, .string ⟨#[116]⟩, .string ⟨#[97, 49]⟩, .string ⟨#[105, 110, 115, 101, 114, 116]⟩, .string ⟨#[108, 111, 110, 103, 101, 115, 116, 110, 97, 109, 101, 111, 102, 49, 54, 120]⟩, .string ⟨#[110, 117, 108, 108]⟩] 9))
          have HUC := Lib.hid ((Trio.new wr 29 (.int .i64 1) (.string ⟨#[97, 49]⟩) (.int .i64 0)).below (V := (wr.alloc (.cells #[.int .i64 1, .string ⟨#[97, 49]⟩, .int .i64 0] 29)).alloc (.cells #[.string ⟨#[115, 101, 116]⟩, .string ⟨#[116]⟩, .string ⟨#[97, 49]⟩, .string ⟨#[105, 110, 115, 101, 114, 116]⟩, .string ⟨#[108, 111, 110, 103, 101, 115, 116, 110, 97, 109, 101, 111, 102, 49, 54, 120]⟩, .string ⟨#[110, 117, 108, 108]⟩] 9)) ((Below.refl (wr.alloc (.cells #[.int .i64 1, .string ⟨#[97, 49]⟩, .int .i64 0] 29)).heap.size _).alloc (Nat.le_refl _) _) (by simp))
          clear hbA
          go_upto_region 15 with fail
          obtain ⟨wC, hwC⟩ : ∃ wC, (wr.alloc (.cells #[.int .i64 1, .string ⟨#[97, 49]⟩, .int .i64 0] 29)).alloc (.cells #[.string ⟨#[115, 101, 116]⟩, .string ⟨#[116]⟩, .string ⟨#[97, 49]⟩, .string ⟨#[105, 110, 115, 101, 114, 116]⟩, .string ⟨#[108, 111, 110, 103, 101, 115, 116, 110, 97, 109, 101, 111, 102, 49, 54, 120]⟩, .string ⟨#[110, 117, 108, 108]⟩] 9) = wC := ⟨_, rfl⟩
          rw [hwC] at HUC HBC ⊢
          clear hwC d0 d1
          have HXC := Lib.hid (row_below HI.out.1 HBC.out)
          have HWC := Lib.hid (HI.out.2.trans (HBC.out.mono HI.out.2.size))
          generalize wr.heap.size = U at *
          have q0 := HUC.out.c0
          have q1 := HUC.out.c1
          have q2 := HUC.out.c2
          obtain ⟨v7, w7, hr7, hX7, hB7, _⟩ := append_tok (P := Try.prog) wC w.heap.size 22 22 29 29 i0 _ Try.underlying22 hi hz0 hz1 hz2 rfl u3 _ _ HXC.out ⟨1, [97, 49], 0⟩ (by rw [madeS_len]; omega) HWC.out.size
          change (Builtin.append_ _ _ _).run Try.prog (wC.alloc (.cells #[.int .i64 1, .string ⟨#[97, 49]⟩, .int .i64 0] 29)) = _ at hr7
          have HB7 := Lib.hid (HWC.out.trans hB7)
          have HX7 : Hid (w7.ownsRow w.heap.size 29 3 v7 (madeS bs (k + 1)).length (cellsK (madeS bs (k + 1)))) := by
            rw [HSN.out, HT.out, List.length_append]; exact hX7
          have HR7 := Lib.hid hr7
          clear hr7 hX7 hB7
          go_wp2_with (at_builtin; refine wpList_append_want (o := ⟨some 68, _, _, _, _, _⟩) _ rfl _ _ _ _ rfl _ _ rfl rfl _ _ HR7.out ?_)
          go_roundw
          case rel => exact ⟨k + 1, by have := HLT.out; omega, by go_num, HX7.out, HB7.out⟩
          case measure => simp [intOf]; omega
        · have HT := Lib.hid (HMT.out.trans (show _ = (⟨1, [105, 110, 115, 101, 114, 116], 0⟩ : Tk) from rfl))
          clear HMT
          have hbA := (Below.refl wr.heap.size wr).alloc (Nat.le_refl _) (.cells #[.int .i64 1, .string ⟨#[105, 110, 115, 101, 114, 116]⟩, .int .i64 0] 29)
          have HBC := Lib.hid (hbA.alloc (by simp) (.cells #[.string ⟨#[115, 101, 116]⟩, .string ⟨#[116]⟩, .string ⟨#[97, 49]⟩, .string ⟨#[105, 110, 115, 101, 114, 116]⟩, .string ⟨#[108, 111, 110, 103, 101, 115, 116, 110, 97, 109, 101, 111, 102, 49, 54, 120]⟩, .string ⟨#[110, 117, 108, 108]⟩] 9))
          have HUC := Lib.hid ((Trio.new wr 29 (.int .i64 1) (.string ⟨#[105, 110, 115, 101, 114, 116]⟩) (.int .i64 0)).below (V := (wr.alloc (.cells #[.int .i64 1, .string ⟨#[105, 110, 115, 101, 114, 116]⟩, .int .i64 0] 29)).alloc (.cells #[.string ⟨#[115, 101, 116]⟩, .string ⟨#[116]⟩, .string ⟨#[97, 49]⟩, .string ⟨#[105, 110, 115, 101, 114, 116]⟩, .string ⟨#[108, 111, 110, 103, 101, 115, 116, 110, 97, 109, 101, 111, 102, 49, 54, 120]⟩, .string ⟨#[110, 117, 108, 108]⟩] 9)) ((Below.refl (wr.alloc (.cells #[.int .i64 1, .string ⟨#[105, 110, 115, 101, 114, 116]⟩, .int .i64 0] 29)).heap.size _).alloc (Nat.le_refl _) _) (by simp))
          clear hbA
          go_upto_region 15 with fail
          obtain ⟨wC, hwC⟩ : ∃ wC, (wr.alloc (.cells #[.int .i64 1, .string ⟨#[105, 110, 115, 101, 114, 116]⟩, .int .i64 0] 29)).alloc (.cells #[.string ⟨#[115, 101, 116]⟩, .string ⟨#[116]⟩, .string ⟨#[97, 49]⟩, .string ⟨#[105, 110, 115, 101, 114, 116]⟩, .string ⟨#[108, 111, 110, 103, 101, 115, 116, 110, 97, 109, 101, 111, 102, 49, 54, 120]⟩, .string ⟨#[110, 117, 108, 108]⟩] 9) = wC := ⟨_, rfl⟩
          rw [hwC] at HUC HBC ⊢
          clear hwC d0 d1
          have HXC := Lib.hid (row_below HI.out.1 HBC.out)
          have HWC := Lib.hid (HI.out.2.trans (HBC.out.mono HI.out.2.size))
          generalize wr.heap.size = U at *
          have q0 := HUC.out.c0
          have q1 := HUC.out.c1
          have q2 := HUC.out.c2
          obtain ⟨v7, w7, hr7, hX7, hB7, _⟩ := append_tok (P := Try.prog) wC w.heap.size 22 22 29 29 i0 _ Try.underlying22 hi hz0 hz1 hz2 rfl u3 _ _ HXC.out ⟨1, [105, 110, 115, 101, 114, 116], 0⟩ (by rw [madeS_len]; omega) HWC.out.size
          change (Builtin.append_ _ _ _).run Try.prog (wC.alloc (.cells #[.int .i64 1, .string ⟨#[105, 110, 115, 101, 114, 116]⟩, .int .i64 0] 29)) = _ at hr7
          have HB7 := Lib.hid (HWC.out.trans hB7)
          have HX7 : Hid (w7.ownsRow w.heap.size 29 3 v7 (madeS bs (k + 1)).length (cellsK (madeS bs (k + 1)))) := by
            rw [HSN.out, HT.out, List.length_append]; exact hX7
          have HR7 := Lib.hid hr7
          clear hr7 hX7 hB7
          go_wp2_with (at_builtin; refine wpList_append_want (o := ⟨some 68, _, _, _, _, _⟩) _ rfl _ _ _ _ rfl _ _ rfl rfl _ _ HR7.out ?_)
          go_roundw
          case rel => exact ⟨k + 1, by have := HLT.out; omega, by go_num, HX7.out, HB7.out⟩
          case measure => simp [intOf]; omega
        · have HT := Lib.hid (HMT.out.trans (show _ = (⟨1, [108, 111, 110, 103, 101, 115, 116, 110, 97, 109, 101, 111, 102, 49, 54, 120], 0⟩ : Tk) from rfl))
          clear HMT
          have hbA := (Below.refl wr.heap.size wr).alloc (Nat.le_refl _) (.cells #[.int .i64 1, .string ⟨#[108, 111, 110, 103, 101, 115, 116, 110, 97, 109, 101, 111, 102, 49, 54, 120]⟩, .int .i64 0] 29)
          have HBC := Lib.hid (hbA.alloc (by simp) (.cells #[.string ⟨#[115, 101, 116]⟩, .string ⟨#[116]⟩, .string ⟨#[97, 49]⟩, .string ⟨#[105, 110, 115, 101, 114, 116]⟩, .string ⟨#[108, 111, 110, 103, 101, 115, 116, 110, 97, 109, 101, 111, 102, 49, 54, 120]⟩, .string ⟨#[110, 117, 108, 108]⟩] 9))
          have HUC := Lib.hid ((Trio.new wr 29 (.int .i64 1) (.string ⟨#[108, 111, 110, 103, 101, 115, 116, 110, 97, 109, 101, 111, 102, 49, 54, 120]⟩) (.int .i64 0)).below (V := (wr.alloc (.cells #[.int .i64 1, .string ⟨#[108, 111, 110, 103, 101, 115, 116, 110, 97, 109, 101, 111, 102, 49, 54, 120]⟩, .int .i64 0] 29)).alloc (.cells #[.string ⟨#[115, 101, 116]⟩, .string ⟨#[116]⟩, .string ⟨#[97, 49]⟩, .string ⟨#[105, 110, 115, 101, 114, 116]⟩, .string ⟨#[108, 111, 110, 103, 101, 115, 116, 110, 97, 109, 101, 111, 102, 49, 54, 120]⟩, .string ⟨#[110, 117, 108, 108]⟩] 9)) ((Below.refl (wr.alloc (.cells #[.int .i64 1, .string ⟨#[108, 111, 110, 103, 101, 115, 116, 110, 97, 109, 101, 111, 102, 49, 54, 120]⟩, .int .i64 0] 29)).heap.size _).alloc (Nat.le_refl _) _) (by simp))
          clear hbA
          go_upto_region 15 with fail
          obtain ⟨wC, hwC⟩ : ∃ wC, (wr.alloc (.cells #[.int .i64 1, .string ⟨#[108, 111, 110, 103, 101, 115, 116, 110, 97, 109, 101, 111, 102, 49, 54, 120]⟩, .int .i64 0] 29)).alloc (.cells #[.string ⟨#[115, 101, 116]⟩, .string ⟨#[116]⟩, .string ⟨#[97, 49]⟩, .string ⟨#[105, 110, 115, 101, 114, 116]⟩, .string ⟨#[108, 111, 110, 103, 101, 115, 116, 110, 97, 109, 101, 111, 102, 49, 54, 120]⟩, .string ⟨#[110, 117, 108, 108]⟩] 9) = wC := ⟨_, rfl⟩
          rw [hwC] at HUC HBC ⊢
          clear hwC d0 d1
          have HXC := Lib.hid (row_below HI.out.1 HBC.out)
          have HWC := Lib.hid (HI.out.2.trans (HBC.out.mono HI.out.2.size))
          generalize wr.heap.size = U at *
          have q0 := HUC.out.c0
          have q1 := HUC.out.c1
          have q2 := HUC.out.c2
          obtain ⟨v7, w7, hr7, hX7, hB7, _⟩ := append_tok (P := Try.prog) wC w.heap.size 22 22 29 29 i0 _ Try.underlying22 hi hz0 hz1 hz2 rfl u3 _ _ HXC.out ⟨1, [108, 111, 110, 103, 101, 115, 116, 110, 97, 109, 101, 111, 102, 49, 54, 120], 0⟩ (by rw [madeS_len]; omega) HWC.out.size
          change (Builtin.append_ _ _ _).run Try.prog (wC.alloc (.cells #[.int .i64 1, .string ⟨#[108, 111, 110, 103, 101, 115, 116, 110, 97, 109, 101, 111, 102, 49, 54, 120]⟩, .int .i64 0] 29)) = _ at hr7
          have HB7 := Lib.hid (HWC.out.trans hB7)
          have HX7 : Hid (w7.ownsRow w.heap.size 29 3 v7 (madeS bs (k + 1)).length (cellsK (madeS bs (k + 1)))) := by
            rw [HSN.out, HT.out, List.length_append]; exact hX7
          have HR7 := Lib.hid hr7
          clear hr7 hX7 hB7
          go_wp2_with (at_builtin; refine wpList_append_want (o := ⟨some 68, _, _, _, _, _⟩) _ rfl _ _ _ _ rfl _ _ rfl rfl _ _ HR7.out ?_)
          go_roundw
          case rel => exact ⟨k + 1, by have := HLT.out; omega, by go_num, HX7.out, HB7.out⟩
          case measure => simp [intOf]; omega
        · have HT := Lib.hid (HMT.out.trans (show _ = (⟨1, [110, 117, 108, 108], 0⟩ : Tk) from rfl))
          clear HMT
          have hbA := (Below.refl wr.heap.size wr).alloc (Nat.le_refl _) (.cells #[.int .i64 1, .string ⟨#[110, 117, 108, 108]⟩, .int .i64 0] 29)
          have HBC := Lib.hid (hbA.alloc (by simp) (.cells #[.string ⟨#[115, 101, 116]⟩, .string ⟨#[116]⟩, .string ⟨#[97, 49]⟩, .string ⟨#[105, 110, 115, 101, 114, 116]⟩, .string ⟨#[108, 111, 110, 103, 101, 115, 116, 110, 97, 109, 101, 111, 102, 49, 54, 120]⟩, .string ⟨#[110, 117, 108, 108]⟩] 9))
          have HUC := Lib.hid ((Trio.new wr 29 (.int .i64 1) (.string ⟨#[110, 117, 108, 108]⟩) (.int .i64 0)).below (V := (wr.alloc (.cells #[.int .i64 1, .string ⟨#[110, 117, 108, 108]⟩, .int .i64 0] 29)).alloc (.cells #[.string ⟨#[115, 101, 116]⟩, .string ⟨#[116]⟩, .string ⟨#[97, 49]⟩, .string ⟨#[105, 110, 115, 101, 114, 116]⟩, .string ⟨#[108, 111, 110, 103, 101, 115, 116, 110, 97, 109, 101, 111, 102, 49, 54, 120]⟩, .string ⟨#[110, 117, 108, 108]⟩] 9)) ((Below.refl (wr.alloc (.cells #[.int .i64 1, .string ⟨#[110, 117, 108, 108]⟩, .int .i64 0] 29)).heap.size _).alloc (Nat.le_refl _) _) (by simp))
          clear hbA
          go_upto_region 15 with fail
          obtain ⟨wC, hwC⟩ : ∃ wC, (wr.alloc (.cells #[.int .i64 1, .string ⟨#[110, 117, 108, 108]⟩, .int .i64 0] 29)).alloc (.cells #[.string ⟨#[115, 101, 116]⟩, .string ⟨#[116]⟩, .string ⟨#[97, 49]⟩, .string ⟨#[105, 110, 115, 101, 114, 116]⟩, .string ⟨#[108, 111, 110, 103, 101, 115, 116, 110, 97, 109, 101, 111, 102, 49, 54, 120]⟩, .string ⟨#[110, 117, 108, 108]⟩] 9) = wC := ⟨_, rfl⟩
          rw [hwC] at HUC HBC ⊢
          clear hwC d0 d1
          have HXC := Lib.hid (row_below HI.out.1 HBC.out)
          have HWC := Lib.hid (HI.out.2.trans (HBC.out.mono HI.out.2.size))
          generalize wr.heap.size = U at *
          have q0 := HUC.out.c0
          have q1 := HUC.out.c1
          have q2 := HUC.out.c2
          obtain ⟨v7, w7, hr7, hX7, hB7, _⟩ := append_tok (P := Try.prog) wC w.heap.size 22 22 29 29 i0 _ Try.underlying22 hi hz0 hz1 hz2 rfl u3 _ _ HXC.out ⟨1, [110, 117, 108, 108], 0⟩ (by rw [madeS_len]; omega) HWC.out.size
          change (Builtin.append_ _ _ _).run Try.prog (wC.alloc (.cells #[.int .i64 1, .string ⟨#[110, 117, 108, 108]⟩, .int .i64 0] 29)) = _ at hr7
          have HB7 := Lib.hid (HWC.out.trans hB7)
          have HX7 : Hid (w7.ownsRow w.heap.size 29 3 v7 (madeS bs (k + 1)).length (cellsK (madeS bs (k + 1)))) := by
            rw [HSN.out, HT.out, List.length_append]; exact hX7
          have HR7 := Lib.hid hr7
          clear hr7 hX7 hB7
          go_wp2_with (at_builtin; refine wpList_append_want (o := ⟨some 68, _, _, _, _, _⟩) _ rfl _ _ _ _ rfl _ _ rfl rfl _ _ HR7.out ?_)
          go_roundw
          case rel => exact ⟨k + 1, by have := HLT.out; omega, by go_num, HX7.out, HB7.out⟩
          case measure => simp [intOf]; omega
      · have hx4 : (x : Int).tmod 4 = 1 := by rw [Int.tmod_eq_emod_of_nonneg (by omega)]; omega
        obtain ⟨m, hm, hy6⟩ : ∃ m : Nat, m < 6 ∧ y % 6 = m := ⟨y % 6, Nat.mod_lt _ (by decide), rfl⟩
        have hyt : (y : Int).tmod 6 = (m : Int) := by rw [Int.tmod_eq_emod_of_nonneg (by omega)]; omega
        have HMT : Hid (madeT x y = ⟨2, mdN[m]?.getD [], 0⟩) := by show _ = _; unfold madeT; rw [if_neg (by omega), if_pos hr]; rw [hy6]
        clear hr hx hy hy6
        rcases (by omega : m = 0 ∨ m = 1 ∨ m = 2 ∨ m = 3 ∨ m = 4 ∨ m = 5) with rfl | rfl | rfl | rfl | rfl | rfl
        · have HT := Lib.hid (HMT.out.trans (show _ = (⟨2, [48], 0⟩ : Tk) from rfl))
          clear HMT
          have hbA := (Below.refl wr.heap.size wr).alloc (Nat.le_refl _) (.cells #[.int .i64 2, .string ⟨#[48]⟩, .int .i64 0] 29)
          have HBC := Lib.hid (hbA.alloc (by simp) (.cells #[.string ⟨#[48]⟩, .string ⟨#[49]⟩, .string ⟨#[49, 50, 46, 53]⟩, .string ⟨#[48, 48, 55]⟩, .string ⟨#[51, 46, 49, 52, 48]⟩, .string ⟨#[49, 48, 48, 48, 48, 48, 48, 48, 48, 48, 48, 48, 48, 48, 48, 48, 48, 48, 48, 48, 48, 48, 48, 48, 48, 48, 48, 48, 48, 48, 48, 48, 48, 48, 48, 48, 48, 48, 48, 48]⟩] 9))
          have HUC := Lib.hid ((Trio.new wr 29 (.int .i64 2) (.string ⟨#[48]⟩) (.int .i64 0)).below (V := (wr.alloc (.cells #[.int .i64 2, .string ⟨#[48]⟩, .int .i64 0] 29)).alloc (.cells #[.string ⟨#[48]⟩, .string ⟨#[49]⟩, .string ⟨#[49, 50, 46, 53]⟩, .string ⟨#[48, 48, 55]⟩, .string ⟨#[51, 46, 49, 52, 48]⟩, .string ⟨#[49, 48, 48, 48, 48, 48, 48, 48, 48, 48, 48, 48, 48, 48, 48, 48, 48, 48, 48, 48, 48, 48, 48, 48, 48, 48, 48, 48, 48, 48, 48, 48, 48, 48, 48, 48, 48, 48, 48, 48]⟩] 9)) ((Below.refl (wr.alloc (.cells #[.int .i64 2, .string ⟨#[48]⟩, .int .i64 0] 29)).heap.size _).alloc (Nat.le_refl _) _) (by simp))
          clear hbA
          go_upto_region 15 with fail
          obtain ⟨wC, hwC⟩ : ∃ wC, (wr.alloc (.cells #[.int .i64 2, .string ⟨#[48]⟩, .int .i64 0] 29)).alloc (.cells #[.string ⟨#[48]⟩, .string ⟨#[49]⟩, .string ⟨#[49, 50, 46, 53]⟩, .string ⟨#[48, 48, 55]⟩, .string ⟨#[51, 46, 49, 52, 48]⟩, .string ⟨#[49, 48, 48, 48, 48, 48, 48, 48, 48, 48, 48, 48, 48, 48, 48, 48, 48, 48, 48, 48, 48, 48, 48, 48, 48, 48, 48, 48, 48, 48, 48, 48, 48, 48, 48, 48, 48, 48, 48, 48]⟩] 9) = wC := ⟨_, rfl⟩
          rw [hwC] at HUC HBC ⊢
          clear hwC d0 d1
          have HXC := Lib.hid (row_below HI.out.1 HBC.out)
          have HWC := Lib.hid (HI.out.2.trans (HBC.out.mono HI.out.2.size))
          generalize wr.heap.size = U at *
          have q0 := HUC.out.c0
          have q1 := HUC.out.c1
          have q2 := HUC.out.c2
          obtain ⟨v7, w7, hr7, hX7, hB7, _⟩ := append_tok (P := Try.prog) wC w.heap.size 22 22 29 29 i0 _ Try.underlying22 hi hz0 hz1 hz2 rfl u3 _ _ HXC.out ⟨2, [48], 0⟩ (by rw [madeS_len]; omega) HWC.out.size
          change (Builtin.append_ _ _ _).run Try.prog (wC.alloc (.cells #[.int .i64 2, .string ⟨#[48]⟩, .int .i64 0] 29)) = _ at hr7
          have HB7 := Lib.hid (HWC.out.trans hB7)
          have HX7 : Hid (w7.ownsRow w.heap.size 29 3 v7 (madeS bs (k + 1)).length (cellsK (madeS bs (k + 1)))) := by
            rw [HSN.out, HT.out, List.length_append]; exact hX7
          have HR7 := Lib.hid hr7
          clear hr7 hX7 hB7
          go_wp2_with (at_builtin; refine wpList_append_want (o := ⟨some 68, _, _, _, _, _⟩) _ rfl _ _ _ _ rfl _ _ rfl rfl _ _ HR7.out ?_)
          go_roundw
          case rel => exact ⟨k + 1, by have := HLT.out; omega, by go_num, HX7.out, HB7.out⟩
          case measure => simp [intOf]; omega
        · have HT := Lib.hid (HMT.out.trans (show _ = (⟨2, [49], 0⟩ : Tk) from rfl))
          clear HMT
          have hbA := (Below.refl wr.heap.size wr).alloc (Nat.le_refl _) (.cells #[.int .i64 2, .string ⟨#[49]⟩, .int .i64 0] 29)
          have HBC := Lib.hid (hbA.alloc (by simp) (.cells #[.string ⟨#[48]⟩, .string ⟨#[49]⟩, .string ⟨#[49, 50, 46, 53]⟩, .string ⟨#[48, 48, 55]⟩, .string ⟨#[51, 46, 49, 52, 48]⟩, .string ⟨#[49, 48, 48, 48, 48, 48, 48, 48, 48, 48, 48, 48, 48, 48, 48, 48, 48, 48, 48, 48, 48, 48, 48, 48, 48, 48, 48, 48, 48, 48, 48, 48, 48, 48, 48, 48, 48, 48, 48, 48]⟩] 9))
          have HUC := Lib.hid ((Trio.new wr 29 (.int .i64 2) (.string ⟨#[49]⟩) (.int .i64 0)).below (V := (wr.alloc (.cells #[.int .i64 2, .string ⟨#[49]⟩, .int .i64 0] 29)).alloc (.cells #[.string ⟨#[48]⟩, .string ⟨#[49]⟩, .string ⟨#[49, 50, 46, 53]⟩, .string ⟨#[48, 48, 55]⟩, .string ⟨#[51, 46, 49, 52, 48]⟩, .string ⟨#[49, 48, 48, 48, 48, 48, 48, 48, 48, 48, 48, 48, 48, 48, 48, 48, 48, 48, 48, 48, 48, 48, 48, 48, 48, 48, 48, 48, 48, 48, 48, 48, 48, 48, 48, 48, 48, 48, 48, 48]⟩] 9)) ((Below.refl (wr.alloc (.cells #[.int .i64 2, .string ⟨#[49]⟩, .int .i64 0] 29)).heap.size _).alloc (Nat.le_refl _) _) (by simp))
          clear hbA
          go_upto_region 15 with fail
          obtain ⟨wC, hwC⟩ : ∃ wC, (wr.alloc (.cells #[.int .i64 2, .string ⟨#[49]⟩, .int .i64 0] 29)).alloc (.cells #[.string ⟨#[48]⟩, .string ⟨#[49]⟩, .string ⟨#[49, 50, 46, 53]⟩, .string ⟨#[48, 48, 55]⟩, .string ⟨#[51, 46, 49, 52, 48]⟩, .string ⟨#[49, 48, 48, 48, 48, 48, 48, 48, 48, 48, 48, 48, 48, 48, 48, 48, 48, 48, 48, 48, 48, 48, 48, 48, 48, 48, 48, 48, 48, 48, 48, 48, 48, 48, 48, 48, 48, 48, 48, 48]⟩] 9) = wC := ⟨_, rfl⟩
          rw [hwC] at HUC HBC ⊢
          clear hwC d0 d1
          have HXC := Lib.hid (row_below HI.out.1 HBC.out)
          have HWC := Lib.hid (HI.out.2.trans (HBC.out.mono HI.out.2.size))
          generalize wr.heap.size = U at *
          have q0 := HUC.out.c0
          have q1 := HUC.out.c1
          have q2 := HUC.out.c2
          obtain ⟨v7, w7, hr7, hX7, hB7, _⟩ := append_tok (P := Try.prog) wC w.heap.size 22 22 29 29 i0 _ Try.underlying22 hi hz0 hz1 hz2 rfl u3 _ _ HXC.out ⟨2, [49], 0⟩ (by rw [madeS_len]; omega) HWC.out.size
          change (Builtin.append_ _ _ _).run Try.prog (wC.alloc (.cells #[.int .i64 2, .string ⟨#[49]⟩, .int .i64 0] 29)) = _ at hr7
          have HB7 := Lib.hid (HWC.out.trans hB7)
          have HX7 : Hid (w7.ownsRow w.heap.size 29 3 v7 (madeS bs (k + 1)).length (cellsK (madeS bs (k + 1)))) := by
            rw [HSN.out, HT.out, List.length_append]; exact hX7
          have HR7 := Lib.hid hr7
          clear hr7 hX7 hB7
          go_wp2_with (at_builtin; refine wpList_append_want (o := ⟨some 68, _, _, _, _, _⟩) _ rfl _ _ _ _ rfl _ _ rfl rfl _ _ HR7.out ?_)
          go_roundw
          case rel => exact ⟨k + 1, by have := HLT.out; omega, by go_num, HX7.out, HB7.out⟩
          case measure => simp [intOf]; omega
        · have HT := Lib.hid (HMT.out.trans (show _ = (⟨2, [49, 50, 46, 53], 0⟩ : Tk) from rfl))
          clear HMT
          have hbA := (Below.refl wr.heap.size wr).alloc (Nat.le_refl _) (.cells #[.int .i64 2, .string ⟨#[49, 50, 46, 53]⟩, .int .i64 0] 29)
          have HBC := Lib.hid (hbA.alloc (by simp) (.cells #[.string ⟨#[48]⟩, .string ⟨#[49]⟩, .string ⟨#[49, 50, 46, 53]⟩, .string ⟨#[48, 48, 55]⟩, .string ⟨#[51, 46, 49, 52, 48]⟩, .string ⟨#[49, 48, 48, 48, 48, 48, 48, 48, 48, 48, 48, 48, 48, 48, 48, 48, 48, 48, 48, 48, 48, 48, 48, 48, 48, 48, 48, 48, 48, 48, 48, 48, 48, 48, 48, 48, 48, 48, 48, 48]⟩] 9))
          have HUC := Lib.hid ((Trio.new wr 29 (.int .i64 2) (.string ⟨#[49, 50, 46, 53]⟩) (.int .i64 0)).below (V := (wr.alloc (.cells #[.int .i64 2, .string ⟨#[49, 50, 46, 53]⟩, .int .i64 0] 29)).alloc (.cells #[.string ⟨#[48]⟩, .string ⟨#[49]⟩, .string ⟨#[49, 50, 46, 53]⟩, .string ⟨#[48, 48, 55]⟩, .string ⟨#[51, 46, 49, 52, 48]⟩, .string ⟨#[49, 48, 48, 48, 48, 48, 48, 48, 48, 48, 48, 48, 48, 48, 48, 48, 48, 48, 48, 48, 48, 48, 48, 48, 48, 48, 48, 48, 48, 48, 48, 48, 48, 48, 48, 48, 48, 48, 48, 48]⟩] 9)) ((Below.refl (wr.alloc (.cells #[.int .i64 2, .string ⟨#[49, 50, 46, 53]⟩, .int .i64 0] 29)).heap.size _).alloc (Nat.le_refl _) _) (by simp))
          clear hbA
          go_upto_region 15 with fail
          obtain ⟨wC, hwC⟩ : ∃ wC, (wr.alloc (.cells #[.int .i64 2, .string ⟨#[49, 50, 46, 53]⟩, .int .i64 0] 29)).alloc (.cells #[.string ⟨#[48]⟩, .string ⟨#[49]⟩, .string ⟨#[49, 50, 46, 53]⟩, .string ⟨#[48, 48, 55]⟩, .string ⟨#[51, 46, 49, 52, 48]⟩, .string ⟨#[49, 48, 48, 48, 48, 48, 48, 48, 48, 48, 48, 48, 48, 48, 48, 48, 48, 48, 48, 48, 48, 48, 48, 48, 48, 48, 48, 48, 48, 48, 48, 48, 48, 48, 48, 48, 48, 48, 48, 48]⟩] 9) = wC := ⟨_, rfl⟩
          rw [hwC] at HUC HBC ⊢
          clear hwC d0 d1
          have HXC := Lib.hid (row_below HI.out.1 HBC.out)
          have HWC := Lib.hid (HI.out.2.trans (HBC.out.mono HI.out.2.size))
          generalize wr.heap.size = U at *
          have q0 := HUC.out.c0
          have q1 := HUC.out.c1
          have q2 := HUC.out.c2
          obtain ⟨v7, w7, hr7, hX7, hB7, _⟩ := append_tok (P := Try.prog) wC w.heap.size 22 22 29 29 i0 _ Try.underlying22 hi hz0 hz1 hz2 rfl u3 _ _ HXC.out ⟨2, [49, 50, 46, 53], 0⟩ (by rw [madeS_len]; omega) HWC.out.size
          change (Builtin.append_ _ _ _).run Try.prog (wC.alloc (.cells #[.int .i64 2, .string ⟨#[49, 50, 46, 53]⟩, .int .i64 0] 29)) = _ at hr7
          have HB7 := Lib.hid (HWC.out.trans hB7)
          have HX7 : Hid (w7.ownsRow w.heap.size 29 3 v7 (madeS bs (k + 1)).length (cellsK (madeS bs (k + 1)))) := by
            rw [HSN.out, HT.out, List.length_append]; exact hX7
          have HR7 := Lib.hid hr7
          clear hr7 hX7 hB7
          go_wp2_with (at_builtin; refine wpList_append_want (o := ⟨some 68, _, _, _, _, _⟩) _ rfl _ _ _ _ rfl _ _ rfl rfl _ _ HR7.out ?_)
          go_roundw
          case rel => exact ⟨k + 1, by have := HLT.out; omega, by go_num, HX7.out, HB7.out⟩
          case measure => simp [intOf]; omega
        · have HT := Lib.hid (HMT.out.trans (show _ = (⟨2, [48, 48, 55], 0⟩ : Tk) from rfl))
          clear HMT
          have hbA := (Below.refl wr.heap.size wr).alloc (Nat.le_refl _) (.cells #[.int .i64 2, .string ⟨#[48, 48, 55]⟩, .int .i64 0] 29)
          have HBC := Lib.hid (hbA.alloc (by simp) (.cells #[.string ⟨#[48]⟩, .string ⟨#[49]⟩, .string ⟨#[49, 50, 46, 53]⟩, .string ⟨#[48, 48, 55]⟩, .string ⟨#[51, 46, 49, 52, 48]⟩, .string ⟨#[49, 48, 48, 48, 48, 48, 48, 48, 48, 48, 48, 48, 48, 48, 48, 48, 48, 48, 48, 48, 48, 48, 48, 48, 48, 48, 48, 48, 48, 48, 48, 48, 48, 48, 48, 48, 48, 48, 48, 48]⟩] 9))
          have HUC := Lib.hid ((Trio.new wr 29 (.int .i64 2) (.string ⟨#[48, 48, 55]⟩) (.int .i64 0)).below (V := (wr.alloc (.cells #[.int .i64 2, .string ⟨#[48, 48, 55]⟩, .int .i64 0] 29)).alloc (.cells #[.string ⟨#[48]⟩, .string ⟨#[49]⟩, .string ⟨#[49, 50, 46, 53]⟩, .string ⟨#[48, 48, 55]⟩, .string ⟨#[51, 46, 49, 52, 48]⟩, .string ⟨#[49, 48, 48, 48, 48, 48, 48, 48, 48, 48, 48, 48, 48, 48, 48, 48, 48, 48, 48, 48, 48, 48, 48, 48, 48, 48, 48, 48, 48, 48, 48, 48, 48, 48, 48, 48, 48, 48, 48, 48]⟩] 9)) ((Below.refl (wr.alloc (.cells #[.int .i64 2, .string ⟨#[48, 48, 55]⟩, .int .i64 0] 29)).heap.size _).alloc (Nat.le_refl _) _) (by simp))
          clear hbA
          go_upto_region 15 with fail
          obtain ⟨wC, hwC⟩ : ∃ wC, (wr.alloc (.cells #[.int .i64 2, .string ⟨#[48, 48, 55]⟩, .int .i64 0] 29)).alloc (.cells #[.string ⟨#[48]⟩, .string ⟨#[49]⟩, .string ⟨#[49, 50, 46, 53]⟩, .string ⟨#[48, 48, 55]⟩, .string ⟨#[51, 46, 49, 52, 48]⟩, .string ⟨#[49, 48, 48, 48, 48, 48, 48, 48, 48, 48, 48, 48, 48, 48, 48, 48, 48, 48, 48, 48, 48, 48, 48, 48, 48, 48, 48, 48, 48, 48, 48, 48, 48, 48, 48, 48, 48, 48, 48, 48]⟩] 9) = wC := ⟨_, rfl⟩
          rw [hwC] at HUC HBC ⊢
          clear hwC d0 d1
          have HXC := Lib.hid (row_below HI.out.1 HBC.out)
          have HWC := Lib.hid (HI.out.2.trans (HBC.out.mono HI.out.2.size))
          generalize wr.heap.size = U at *
          have q0 := HUC.out.c0
          have q1 := HUC.out.c1
          have q2 := HUC.out.c2
          obtain ⟨v7, w7, hr7, hX7, hB7, _⟩ := append_tok (P := Try.prog) wC w.heap.size 22 22 29 29 i0 _ Try.underlying22 hi hz0 hz1 hz2 rfl u3 _ _ HXC.out ⟨2, [48, 48, 55], 0⟩ (by rw [madeS_len]; omega) HWC.out.size
          change (Builtin.append_ _ _ _).run Try.prog (wC.alloc (.cells #[.int .i64 2, .string ⟨#[48, 48, 55]⟩, .int .i64 0] 29)) = _ at hr7
          have HB7 := Lib.hid (HWC.out.trans hB7)
          have HX7 : Hid (w7.ownsRow w.heap.size 29 3 v7 (madeS bs (k + 1)).length (cellsK (madeS bs (k + 1)))) := by
            rw [HSN.out, HT.out, List.length_append]; exact hX7
          have HR7 := Lib.hid hr7
          clear hr7 hX7 hB7
          go_wp2_with (at_builtin; refine wpList_append_want (o := ⟨some 68, _, _, _, _, _⟩) _ rfl _ _ _ _ rfl _ _ rfl rfl _ _ HR7.out ?_)
          go_roundw
          case rel => exact ⟨k + 1, by have := HLT.out; omega, by go_num, HX7.out, HB7.out⟩
          case measure => simp [intOf]; omega
        · have HT := Lib.hid (HMT.out.trans (show _ = (⟨2, [51, 46, 49, 52, 48], 0⟩ : Tk) from rfl))
          clear HMT
          have hbA := (Below.refl wr.heap.size wr).alloc (Nat.le_refl _) (.cells #[.int .i64 2, .string ⟨#[51, 46, 49, 52, 48]⟩, .int .i64 0] 29)
          have HBC := Lib.hid (hbA.alloc (by simp) (.cells #[.string ⟨#[48]⟩, .string ⟨#[49]⟩, .string ⟨#[49, 50, 46, 53]⟩, .string ⟨#[48, 48, 55]⟩, .string ⟨#[51, 46, 49, 52, 48]⟩, .string ⟨#[49, 48, 48, 48, 48, 48, 48, 48, 48, 48, 48, 48, 48, 48, 48, 48, 48, 48, 48, 48, 48, 48, 48, 48, 48, 48, 48, 48, 48, 48, 48, 48, 48, 48, 48, 48, 48, 48, 48, 48]⟩] 9))
          have HUC := Lib.hid ((Trio.new wr 29 (.int .i64 2) (.string ⟨#[51, 46, 49, 52, 48]⟩) (.int .i64 0)).below (V := (wr.alloc (.cells #[.int .i64 2, .string ⟨#[51, 46, 49, 52, 48]⟩, .int .i64 0] 29)).alloc (.cells #[.string ⟨#[48]⟩, .string ⟨#[49]⟩, .string ⟨#[49, 50, 46, 53]⟩, .string ⟨#[48, 48, 55]⟩, .string ⟨#[51, 46, 49, 52, 48]⟩, .string ⟨#[49, 48, 48, 48, 48, 48, 48, 48, 48, 48, 48, 48, 48, 48, 48, 48, 48, 48, 48, 48, 48, 48, 48, 48, 48, 48, 48, 48, 48, 48, 48, 48, 48, 48, 48, 48, 48, 48, 48, 48]⟩] 9)) ((Below.refl (wr.alloc (.cells #[.int .i64 2, .string ⟨#[51, 46, 49, 52, 48]⟩, .int .i64 0] 29)).heap.size _).alloc (Nat.le_refl _) _) (by simp))
          clear hbA
          go_upto_region 15 with fail
          obtain ⟨wC, hwC⟩ : ∃ wC, (wr.alloc (.cells #[.int .i64 2, .string ⟨#[51, 46, 49, 52, 48]⟩, .int .i64 0] 29)).alloc (.cells #[.string ⟨#[48]⟩, .string ⟨#[49]⟩, .string ⟨#[49, 50, 46, 53]⟩, .string ⟨#[48, 48, 55]⟩, .string ⟨#[51, 46, 49, 52, 48]⟩, .string ⟨#[49, 48, 48, 48, 48, 48, 48, 48, 48, 48, 48, 48, 48, 48, 48, 48, 48, 48, 48, 48, 48, 48, 48, 48, 48, 48, 48, 48, 48, 48, 48, 48, 48, 48, 48, 48, 48, 48, 48, 48]⟩] 9) = wC := ⟨_, rfl⟩
          rw [hwC] at HUC HBC ⊢
          clear hwC d0 d1
          have HXC := Lib.hid (row_below HI.out.1 HBC.out)
          have HWC := Lib.hid (HI.out.2.trans (HBC.out.mono HI.out.2.size))
          generalize wr.heap.size = U at *
          have q0 := HUC.out.c0
          have q1 := HUC.out.c1
          have q2 := HUC.out.c2
          obtain ⟨v7, w7, hr7, hX7, hB7, _⟩ := append_tok (P := Try.prog) wC w.heap.size 22 22 29 29 i0 _ Try.underlying22 hi hz0 hz1 hz2 rfl u3 _ _ HXC.out ⟨2, [51, 46, 49, 52, 48], 0⟩ (by rw [madeS_len]; omega) HWC.out.size
          change (Builtin.append_ _ _ _).run Try.prog (wC.alloc (.cells #[.int .i64 2, .string ⟨#[51, 46, 49, 52, 48]⟩, .int .i64 0] 29)) = _ at hr7
          have HB7 := Lib.hid (HWC.out.trans hB7)
          have HX7 : Hid (w7.ownsRow w.heap.size 29 3 v7 (madeS bs (k + 1)).length (cellsK (madeS bs (k + 1)))) := by
            rw [HSN.out, HT.out, List.length_append]; exact hX7
          have HR7 := Lib.hid hr7
          clear hr7 hX7 hB7
          go_wp2_with (at_builtin; refine wpList_append_want (o := ⟨some 68, _, _, _, _, _⟩) _ rfl _ _ _ _ rfl _ _ rfl rfl _ _ HR7.out ?_)
          go_roundw
          case rel => exact ⟨k + 1, by have := HLT.out; omega, by go_num, HX7.out, HB7.out⟩
          case measure => simp [intOf]; omega
        · have HT := Lib.hid (HMT.out.trans (show _ = (⟨2, [49, 48, 48, 48, 48, 48, 48, 48, 48, 48, 48, 48, 48, 48, 48, 48, 48, 48, 48, 48, 48, 48, 48, 48, 48, 48, 48, 48, 48, 48, 48, 48, 48, 48, 48, 48, 48, 48, 48, 48], 0⟩ : Tk) from rfl))
          clear HMT
          have hbA := (Below.refl wr.heap.size wr).alloc (Nat.le_refl _) (.cells #[.int .i64 2, .string ⟨#[49, 48, 48, 48, 48, 48, 48, 48, 48, 48, 48, 48, 48, 48, 48, 48, 48, 48, 48, 48, 48, 48, 48, 48, 48, 48, 48, 48, 48, 48, 48, 48, 48, 48, 48, 48, 48, 48, 48, 48]⟩, .int .i64 0] 29)
          have HBC := Lib.hid (hbA.alloc (by simp) (.cells #[.string ⟨#[48]⟩, .string ⟨#[49]⟩, .string ⟨#[49, 50, 46, 53]⟩, .string ⟨#[48, 48, 55]⟩, .string ⟨#[51, 46, 49, 52, 48]⟩, .string ⟨#[49, 48, 48, 48, 48, 48, 48, 48, 48, 48, 48, 48, 48, 48, 48, 48, 48, 48, 48, 48, 48, 48, 48, 48, 48, 48, 48, 48, 48, 48, 48, 48, 48, 48, 48, 48, 48, 48, 48, 48]⟩] 9))
          have HUC := Lib.hid ((Trio.new wr 29 (.int .i64 2) (.string ⟨#[49, 48, 48, 48, 48, 48, 48, 48, 48, 48, 48, 48, 48, 48, 48, 48, 48, 48, 48, 48, 48, 48, 48, 48, 48, 48, 48, 48, 48, 48, 48, 48, 48, 48, 48, 48, 48, 48, 48, 48]⟩) (.int .i64 0)).below (V := (wr.alloc (.cells #[.int .i64 2, .string ⟨#[49, 48, 48, 48, 48, 48, 48, 48, 48, 48, 48, 48, 48, 48, 48, 48, 48, 48, 48, 48, 48, 48, 48, 48, 48, 48, 48, 48, 48, 48, 48, 48, 48, 48, 48, 48, 48, 48, 48, 48]⟩, .int .i64 0] 29)).alloc (.cells #[.string ⟨#[48]⟩, .string ⟨#[49]⟩, .string ⟨#[49, 50, 46, 53]⟩, .string ⟨#[48, 48, 55]⟩, .string ⟨#[51, 46, 49, 52, 48]⟩, .string ⟨#[49, 48, 48, 48, 48, 48, 48, 48, 48, 48, 48, 48, 48, 48, 48, 48, 48, 48, 48, 48, 48, 48, 48, 48, 48, 48, 48, 48, 48, 48, 48, 48, 48, 48, 48, 48, 48, 48, 48, 48]⟩] 9)) ((Below.refl (wr.alloc (.cells #[.int .i64 2, .string ⟨#[49, 48, 48, 48, 48, 48, 48, 48, 48, 48, 48, 48, 48, 48, 48, 48, 48, 48, 48, 48, 48, 48, 48, 48, 48, 48, 48, 48, 48, 48, 48, 48, 48, 48, 48, 48, 48, 48, 48, 48]⟩, .int .i64 0] 29)).heap.size _).alloc (Nat.le_refl _) _) (by simp))
          clear hbA
          go_upto_region 15 with fail
          obtain ⟨wC, hwC⟩ : ∃ wC, (wr.alloc (.cells #[.int .i64 2, .string ⟨#[49, 48, 48, 48, 48, 48, 48, 48, 48, 48, 48, 48, 48, 48, 48, 48, 48, 48, 48, 48, 48, 48, 48, 48, 48, 48, 48, 48, 48, 48, 48, 48, 48, 48, 48, 48, 48, 48, 48, 48]⟩, .int .i64 0] 29)).alloc (.cells #[.string ⟨#[48]⟩, .string ⟨#[49]⟩, .string ⟨#[49, 50, 46, 53]⟩, .string ⟨#[48, 48, 55]⟩, .string ⟨#[51, 46, 49, 52, 48]⟩, .string ⟨#[49, 48, 48, 48, 48, 48, 48, 48, 48, 48, 48, 48, 48, 48, 48, 48, 48, 48, 48, 48, 48, 48, 48, 48, 48, 48, 48, 48, 48, 48, 48, 48, 48, 48, 48, 48, 48, 48, 48, 48]⟩] 9) = wC := ⟨_, rfl⟩
          rw [hwC] at HUC HBC ⊢
          clear hwC d0 d1
          have HXC := Lib.hid (row_below HI.out.1 HBC.out)
          have HWC := Lib.hid (HI.out.2.trans (HBC.out.mono HI.out.2.size))
          generalize wr.heap.size = U at *
          have q0 := HUC.out.c0
          have q1 := HUC.out.c1
          have q2 := HUC.out.c2
          obtain ⟨v7, w7, hr7, hX7, hB7, _⟩ := append_tok (P := Try.prog) wC w.heap.size 22 22 29 29 i0 _ Try.underlying22 hi hz0 hz1 hz2 rfl u3 _ _ HXC.out ⟨2, [49, 48, 48, 48, 48, 48, 48, 48, 48, 48, 48, 48, 48, 48, 48, 48, 48, 48, 48, 48, 48, 48, 48, 48, 48, 48, 48, 48, 48, 48, 48, 48, 48, 48, 48, 48, 48, 48, 48, 48], 0⟩ (by rw [madeS_len]; omega) HWC.out.size
          change (Builtin.append_ _ _ _).run Try.prog (wC.alloc (.cells #[.int .i64 2, .string ⟨#[49, 48, 48, 48, 48, 48, 48, 48, 48, 48, 48, 48, 48, 48, 48, 48, 48, 48, 48, 48, 48, 48, 48, 48, 48, 48, 48, 48, 48, 48, 48, 48, 48, 48, 48, 48, 48, 48, 48, 48]⟩, .int .i64 0] 29)) = _ at hr7
          have HB7 := Lib.hid (HWC.out.trans hB7)
          have HX7 : Hid (w7.ownsRow w.heap.size 29 3 v7 (madeS bs (k + 1)).length (cellsK (madeS bs (k + 1)))) := by
            rw [HSN.out, HT.out, List.length_append]; exact hX7
          have HR7 := Lib.hid hr7
          clear hr7 hX7 hB7
          go_wp2_with (at_builtin; refine wpList_append_want (o := ⟨some 68, _, _, _, _, _⟩) _ rfl _ _ _ _ rfl _ _ rfl rfl _ _ HR7.out ?_)
          go_roundw
          case rel => exact ⟨k + 1, by have := HLT.out; omega, by go_num, HX7.out, HB7.out⟩
          case measure => simp [intOf]; omega
      · have hx4 : (x : Int).tmod 4 = 2 := by rw [Int.tmod_eq_emod_of_nonneg (by omega)]; omega
        obtain ⟨m, hm, hy6⟩ : ∃ m : Nat, m < 6 ∧ y % 6 = m := ⟨y % 6, Nat.mod_lt _ (by decide), rfl⟩
        have hyt : (y : Int).tmod 6 = (m : Int) := by rw [Int.tmod_eq_emod_of_nonneg (by omega)]; omega
        have HMT : Hid (madeT x y = ⟨3, mdX[m]?.getD [], 0⟩) := by show _ = _; unfold madeT; rw [if_neg (by omega), if_neg (by omega), if_pos hr]; rw [hy6]
        clear hr hx hy hy6
        rcases (by omega : m = 0 ∨ m = 1 ∨ m = 2 ∨ m = 3 ∨ m = 4 ∨ m = 5) with rfl | rfl | rfl | rfl | rfl | rfl
        · have HT := Lib.hid (HMT.out.trans (show _ = (⟨3, [], 0⟩ : Tk) from rfl))
          clear HMT
          have hbA := (Below.refl wr.heap.size wr).alloc (Nat.le_refl _) (.cells #[.int .i64 3, .string ⟨#[]⟩, .int .i64 0] 29)
          have HBC := Lib.hid (hbA.alloc (by simp) (.cells #[.string ⟨#[]⟩, .string ⟨#[97]⟩, .string ⟨#[34]⟩, .string ⟨#[97, 92, 98]⟩, .string ⟨#[35, 32, 110, 111, 44, 32, 99, 111, 109, 109, 101, 110, 116, 59]⟩, .string ⟨#[92, 34, 120, 32, 126]⟩] 9))
          have HUC := Lib.hid ((Trio.new wr 29 (.int .i64 3) (.string ⟨#[]⟩) (.int .i64 0)).below (V := (wr.alloc (.cells #[.int .i64 3, .string ⟨#[]⟩, .int .i64 0] 29)).alloc (.cells #[.string ⟨#[]⟩, .string ⟨#[97]⟩, .string ⟨#[34]⟩, .string ⟨#[97, 92, 98]⟩, .string ⟨#[35, 32, 110, 111, 44, 32, 99, 111, 109, 109, 101, 110, 116, 59]⟩, .string ⟨#[92, 34, 120, 32, 126]⟩] 9)) ((Below.refl (wr.alloc (.cells #[.int .i64 3, .string ⟨#[]⟩, .int .i64 0] 29)).heap.size _).alloc (Nat.le_refl _) _) (by simp))
          clear hbA
          go_upto_region 15 with fail
          obtain ⟨wC, hwC⟩ : ∃ wC, (wr.alloc (.cells #[.int .i64 3, .string ⟨#[]⟩, .int .i64 0] 29)).alloc (.cells #[.string ⟨#[]⟩, .string ⟨#[97]⟩, .string ⟨#[34]⟩, .string ⟨#[97, 92, 98]⟩, .string ⟨#[35, 32, 110, 111, 44, 32, 99, 111, 109, 109, 101, 110, 116, 59]⟩, .string ⟨#[92, 34, 120, 32, 126]⟩] 9) = wC := ⟨_, rfl⟩
          rw [hwC] at HUC HBC ⊢
          clear hwC d0 d1
          have HXC := Lib.hid (row_below HI.out.1 HBC.out)
          have HWC := Lib.hid (HI.out.2.trans (HBC.out.mono HI.out.2.size))
          generalize wr.heap.size = U at *
          have q0 := HUC.out.c0
          have q1 := HUC.out.c1
          have q2 := HUC.out.c2
          obtain ⟨v7, w7, hr7, hX7, hB7, _⟩ := append_tok (P := Try.prog) wC w.heap.size 22 22 29 29 i0 _ Try.underlying22 hi hz0 hz1 hz2 rfl u3 _ _ HXC.out ⟨3, [], 0⟩ (by rw [madeS_len]; omega) HWC.out.size
          change (Builtin.append_ _ _ _).run Try.prog (wC.alloc (.cells #[.int .i64 3, .string ⟨#[]⟩, .int .i64 0] 29)) = _ at hr7
          have HB7 := Lib.hid (HWC.out.trans hB7)
          have HX7 : Hid (w7.ownsRow w.heap.size 29 3 v7 (madeS bs (k + 1)).length (cellsK (madeS bs (k + 1)))) := by
            rw [HSN.out, HT.out, List.length_append]; exact hX7
          have HR7 := Lib.hid hr7
          clear hr7 hX7 hB7
          go_wp2_with (at_builtin; refine wpList_append_want (o := ⟨some 68, _, _, _, _, _⟩) _ rfl _ _ _ _ rfl _ _ rfl rfl _ _ HR7.out ?_)
          go_roundw
          case rel => exact ⟨k + 1, by have := HLT.out; omega, by go_num, HX7.out, HB7.out⟩
          case measure => simp [intOf]; omega
        · have HT := Lib.hid (HMT.out.trans (show _ = (⟨3, [97], 0⟩ : Tk) from rfl))
          clear HMT
          have hbA := (Below.refl wr.heap.size wr).alloc (Nat.le_refl _) (.cells #[.int .i64 3, .string ⟨#[97]⟩, .int .i64 0] 29)
          have HBC := Lib.hid (hbA.alloc (by simp) (.cells #[.string ⟨#[]⟩, .string ⟨#[97]⟩, .string ⟨#[34]⟩, .string ⟨#[97, 92, 98]⟩, .string ⟨#[35, 32, 110, 111, 44, 32, 99, 111, 109, 109, 101, 110, 116, 59]⟩, .string ⟨#[92, 34, 120, 32, 126]⟩] 9))
          have HUC := Lib.hid ((Trio.new wr 29 (.int .i64 3) (.string ⟨#[97]⟩) (.int .i64 0)).below (V := (wr.alloc (.cells #[.int .i64 3, .string ⟨#[97]⟩, .int .i64 0] 29)).alloc (.cells #[.string ⟨#[]⟩, .string ⟨#[97]⟩, .string ⟨#[34]⟩, .string ⟨#[97, 92, 98]⟩, .string ⟨#[35, 32, 110, 111, 44, 32, 99, 111, 109, 109, 101, 110, 116, 59]⟩, .string ⟨#[92, 34, 120, 32, 126]⟩] 9)) ((Below.refl (wr.alloc (.cells #[.int .i64 3, .string ⟨#[97]⟩, .int .i64 0] 29)).heap.size _).alloc (Nat.le_refl _) _) (by simp))
          clear hbA
          go_upto_region 15 with fail
          obtain ⟨wC, hwC⟩ : ∃ wC, (wr.alloc (.cells #[.int .i64 3, .string ⟨#[97]⟩, .int .i64 0] 29)).alloc (.cells #[.string ⟨#[]⟩, .string ⟨#[97]⟩, .string ⟨#[34]⟩, .string ⟨#[97, 92, 98]⟩, .string ⟨#[35, 32, 110, 111, 44, 32, 99, 111, 109, 109, 101, 110, 116, 59]⟩, .string ⟨#[92, 34, 120, 32, 126]⟩] 9) = wC := ⟨_, rfl⟩
          rw [hwC] at HUC HBC ⊢
          clear hwC d0 d1
          have HXC := Lib.hid (row_below HI.out.1 HBC.out)
          have HWC := Lib.hid (HI.out.2.trans (HBC.out.mono HI.out.2.size))
          generalize wr.heap.size = U at *
          have q0 := HUC.out.c0
          have q1 := HUC.out.c1
          have q2 := HUC.out.c2
          obtain ⟨v7, w7, hr7, hX7, hB7, _⟩ := append_tok (P := Try.prog) wC w.heap.size 22 22 29 29 i0 _ Try.underlying22 hi hz0 hz1 hz2 rfl u3 _ _ HXC.out ⟨3, [97], 0⟩ (by rw [madeS_len]; omega) HWC.out.size
          change (Builtin.append_ _ _ _).run Try.prog (wC.alloc (.cells #[.int .i64 3, .string ⟨#[97]⟩, .int .i64 0] 29)) = _ at hr7
          have HB7 := Lib.hid (HWC.out.trans hB7)
          have HX7 : Hid (w7.ownsRow w.heap.size 29 3 v7 (madeS bs (k + 1)).length (cellsK (madeS bs (k + 1)))) := by
            rw [HSN.out, HT.out, List.length_append]; exact hX7
          have HR7 := Lib.hid hr7
          clear hr7 hX7 hB7
          go_wp2_with (at_builtin; refine wpList_append_want (o := ⟨some 68, _, _, _, _, _⟩) _ rfl _ _ _ _ rfl _ _ rfl rfl _ _ HR7.out ?_)
          go_roundw
          case rel => exact ⟨k + 1, by have := HLT.out; omega, by go_num, HX7.out, HB7.out⟩
          case measure => simp [intOf]; omega
        · have HT := Lib.hid (HMT.out.trans (show _ = (⟨3, [34], 0⟩ : Tk) from rfl))
          clear HMT
          have hbA := (Below.refl wr.heap.size wr).alloc (Nat.le_refl _) (.cells #[.int .i64 3, .string ⟨#[34]⟩, .int .i64 0] 29)
          have HBC := Lib.hid (hbA.alloc (by simp) (.cells #[.string ⟨#[]⟩, .string ⟨#[97]⟩, .string ⟨#[34]⟩, .string ⟨#[97, 92, 98]⟩, .string ⟨#[35, 32, 110, 111, 44, 32, 99, 111, 109, 109, 101, 110, 116, 59]⟩, .string ⟨#[92, 34, 120, 32, 126]⟩] 9))
          have HUC := Lib.hid ((Trio.new wr 29 (.int .i64 3) (.string ⟨#[34]⟩) (.int .i64 0)).below (V := (wr.alloc (.cells #[.int .i64 3, .string ⟨#[34]⟩, .int .i64 0] 29)).alloc (.cells #[.string ⟨#[]⟩, .string ⟨#[97]⟩, .string ⟨#[34]⟩, .string ⟨#[97, 92, 98]⟩, .string ⟨#[35, 32, 110, 111, 44, 32, 99, 111, 109, 109, 101, 110, 116, 59]⟩, .string ⟨#[92, 34, 120, 32, 126]⟩] 9)) ((Below.refl (wr.alloc (.cells #[.int .i64 3, .string ⟨#[34]⟩, .int .i64 0] 29)).heap.size _).alloc (Nat.le_refl _) _) (by simp))
          clear hbA
          go_upto_region 15 with fail
          obtain ⟨wC, hwC⟩ : ∃ wC, (wr.alloc (.cells #[.int .i64 3, .string ⟨#[34]⟩, .int .i64 0] 29)).alloc (.cells #[.string ⟨#[]⟩, .string ⟨#[97]⟩, .string ⟨#[34]⟩, .string ⟨#[97, 92, 98]⟩, .string ⟨#[35, 32, 110, 111, 44, 32, 99, 111, 109, 109, 101, 110, 116, 59]⟩, .string ⟨#[92, 34, 120, 32, 126]⟩] 9) = wC := ⟨_, rfl⟩
          rw [hwC] at HUC HBC ⊢
          clear hwC d0 d1
          have HXC := Lib.hid (row_below HI.out.1 HBC.out)
          have HWC := Lib.hid (HI.out.2.trans (HBC.out.mono HI.out.2.size))
          generalize wr.heap.size = U at *
          have q0 := HUC.out.c0
          have q1 := HUC.out.c1
          have q2 := HUC.out.c2
          obtain ⟨v7, w7, hr7, hX7, hB7, _⟩ := append_tok (P := Try.prog) wC w.heap.size 22 22 29 29 i0 _ Try.underlying22 hi hz0 hz1 hz2 rfl u3 _ _ HXC.out ⟨3, [34], 0⟩ (by rw [madeS_len]; omega) HWC.out.size
          change (Builtin.append_ _ _ _).run Try.prog (wC.alloc (.cells #[.int .i64 3, .string ⟨#[34]⟩, .int .i64 0] 29)) = _ at hr7
          have HB7 := Lib.hid (HWC.out.trans hB7)
          have HX7 : Hid (w7.ownsRow w.heap.size 29 3 v7 (madeS bs (k + 1)).length (cellsK (madeS bs (k + 1)))) := by
            rw [HSN.out, HT.out, List.length_append]; exact hX7
          have HR7 := Lib.hid hr7
          clear hr7 hX7 hB7
          go_wp2_with (at_builtin; refine wpList_append_want (o := ⟨some 68, _, _, _, _, _⟩) _ rfl _ _ _ _ rfl _ _ rfl rfl _ _ HR7.out ?_)
          go_roundw
          case rel => exact ⟨k + 1, by have := HLT.out; omega, by go_num, HX7.out, HB7.out⟩
          case measure => simp [intOf]; omega
        · have HT := Lib.hid (HMT.out.trans (show _ = (⟨3, [97, 92, 98], 0⟩ : Tk) from rfl))
          clear HMT
          have hbA := (Below.refl wr.heap.size wr).alloc (Nat.le_refl _) (.cells #[.int .i64 3, .string ⟨#[97, 92, 98]⟩, .int .i64 0] 29)
          have HBC := Lib.hid (hbA.alloc (by simp) (.cells #[.string ⟨#[]⟩, .string ⟨#[97]⟩, .string ⟨#[34]⟩, .string ⟨#[97, 92, 98]⟩, .string ⟨#[35, 32, 110, 111, 44, 32, 99, 111, 109, 109, 101, 110, 116, 59]⟩, .string ⟨#[92, 34, 120, 32, 126]⟩] 9))
          have HUC := Lib.hid ((Trio.new wr 29 (.int .i64 3) (.string ⟨#[97, 92, 98]⟩) (.int .i64 0)).below (V := (wr.alloc (.cells #[.int .i64 3, .string ⟨#[97, 92, 98]⟩, .int .i64 0] 29)).alloc (.cells #[.string ⟨#[]⟩, .string ⟨#[97]⟩, .string ⟨#[34]⟩, .string ⟨#[97, 92, 98]⟩, .string ⟨#[35, 32, 110, 111, 44, 32, 99, 111, 109, 109, 101, 110, 116, 59]⟩, .string ⟨#[92, 34, 120, 32, 126]⟩] 9)) ((Below.refl (wr.alloc (.cells #[.int .i64 3, .string ⟨#[97, 92, 98]⟩, .int .i64 0] 29)).heap.size _).alloc (Nat.le_refl _) _) (by simp))
          clear hbA
          go_upto_region 15 with fail
          obtain ⟨wC, hwC⟩ : ∃ wC, (wr.alloc (.cells #[.int .i64 3, .string ⟨#[97, 92, 98]⟩, .int .i64 0] 29)).alloc (.cells #[.string ⟨#[]⟩, .string ⟨#[97]⟩, .string ⟨#[34]⟩, .string ⟨#[97, 92, 98]⟩, .string ⟨#[35, 32, 110, 111, 44, 32, 99, 111, 109, 109, 101, 110, 116, 59]⟩, .string ⟨#[92, 34, 120, 32, 126]⟩] 9) = wC := ⟨_, rfl⟩
          rw [hwC] at HUC HBC ⊢
          clear hwC d0 d1
          have HXC := Lib.hid (row_below HI.out.1 HBC.out)
          have HWC := Lib.hid (HI.out.2.trans (HBC.out.mono HI.out.2.size))
          generalize wr.heap.size = U at *
          have q0 := HUC.out.c0
          have q1 := HUC.out.c1
          have q2 := HUC.out.c2
          obtain ⟨v7, w7, hr7, hX7, hB7, _⟩ := append_tok (P := Try.prog) wC w.heap.size 22 22 29 29 i0 _ Try.underlying22 hi hz0 hz1 hz2 rfl u3 _ _ HXC.out ⟨3, [97, 92, 98], 0⟩ (by rw [madeS_len]; omega) HWC.out.size
          change (Builtin.append_ _ _ _).run Try.prog (wC.alloc (.cells #[.int .i64 3, .string ⟨#[97, 92, 98]⟩, .int .i64 0] 29)) = _ at hr7
          have HB7 := Lib.hid (HWC.out.trans hB7)
          have HX7 : Hid (w7.ownsRow w.heap.size 29 3 v7 (madeS bs (k + 1)).length (cellsK (madeS bs (k + 1)))) := by
            rw [HSN.out, HT.out, List.length_append]; exact hX7
          have HR7 := Lib.hid hr7
          clear hr7 hX7 hB7
          go_wp2_with (at_builtin; refine wpList_append_want (o := ⟨some 68, _, _, _, _, _⟩) _ rfl _ _ _ _ rfl _ _ rfl rfl _ _ HR7.out ?_)
          go_roundw
          case rel => exact ⟨k + 1, by have := HLT.out; omega, by go_num, HX7.out, HB7.out⟩
          case measure => simp [intOf]; omega
        · have HT := Lib.hid (HMT.out.trans (show _ = (⟨3, [35, 32, 110, 111, 44, 32, 99, 111, 109, 109, 101, 110, 116, 59], 0⟩ : Tk) from rfl))
          clear HMT
          have hbA := (Below.refl wr.heap.size wr).alloc (Nat.le_refl _) (.cells #[.int .i64 3, .string ⟨#[35, 32, 110, 111, 44, 32, 99, 111, 109, 109, 101, 110, 116, 59]⟩, .int .i64 0] 29)
          have HBC := Lib.hid (hbA.alloc (by simp) (.cells #[.string ⟨#[]⟩, .string ⟨#[97]⟩, .string ⟨#[34]⟩, .string ⟨#[97, 92, 98]⟩, .string ⟨#[35, 32, 110, 111, 44, 32, 99, 111, 109, 109, 101, 110, 116, 59]⟩, .string ⟨#[92, 34, 120, 32, 126]⟩] 9))
          have HUC := Lib.hid ((Trio.new wr 29 (.int .i64 3) (.string ⟨#[35, 32, 110, 111, 44, 32, 99, 111, 109, 109, 101, 110, 116, 59]⟩) (.int .i64 0)).below (V := (wr.alloc (.cells #[.int .i64 3, .string ⟨#[35, 32, 110, 111, 44, 32, 99, 111, 109, 109, 101, 110, 116, 59]⟩, .int .i64 0] 29)).alloc (.cells #[.string ⟨#[]⟩, .string ⟨#[97]⟩, .string ⟨#[34]⟩, .string ⟨#[97, 92, 98]⟩, .string ⟨#[35, 32, 110, 111, 44, 32, 99, 111, 109, 109, 101, 110, 116, 59]⟩, .string ⟨#[92, 34, 120, 32, 126]⟩] 9)) ((Below.refl (wr.alloc (.cells #[.int .i64 3, .string ⟨#[35, 32, 110, 111, 44, 32, 99, 111, 109, 109, 101, 110, 116, 59]⟩, .int .i64 0] 29)).heap.size _).alloc (Nat.le_refl _) _) (by simp))
          clear hbA
          go_upto_region 15 with fail
          obtain ⟨wC, hwC⟩ : ∃ wC, (wr.alloc (.cells #[.int .i64 3, .string ⟨#[35, 32, 110, 111, 44, 32, 99, 111, 109, 109, 101, 110, 116, 59]⟩, .int .i64 0] 29)).alloc (.cells #[.string ⟨#[]⟩, .string ⟨#[97]⟩, .string ⟨#[34]⟩, .string ⟨#[97, 92, 98]⟩, .string ⟨#[35, 32, 110, 111, 44, 32, 99, 111, 109, 109, 101, 110, 116, 59]⟩, .string ⟨#[92, 34, 120, 32, 126]⟩] 9) = wC := ⟨_, rfl⟩
          rw [hwC] at HUC HBC ⊢
          clear hwC d0 d1
          have HXC := Lib.hid (row_below HI.out.1 HBC.out)
          have HWC := Lib.hid (HI.out.2.trans (HBC.out.mono HI.out.2.size))
          generalize wr.heap.size = U at *
          have q0 := HUC.out.c0
          have q1 := HUC.out.c1
          have q2 := HUC.out.c2
          obtain ⟨v7, w7, hr7, hX7, hB7, _⟩ := append_tok (P := Try.prog) wC w.heap.size 22 22 29 29 i0 _ Try.underlying22 hi hz0 hz1 hz2 rfl u3 _ _ HXC.out ⟨3, [35, 32, 110, 111, 44, 32, 99, 111, 109, 109, 101, 110, 116, 59], 0⟩ (by rw [madeS_len]; omega) HWC.out.size
          change (Builtin.append_ _ _ _).run Try.prog (wC.alloc (.cells #[.int .i64 3, .string ⟨#[35, 32, 110, 111, 44, 32, 99, 111, 109, 109, 101, 110, 116, 59]⟩, .int .i64 0] 29)) = _ at hr7
          have HB7 := Lib.hid (HWC.out.trans hB7)
          have HX7 : Hid (w7.ownsRow w.heap.size 29 3 v7 (madeS bs (k + 1)).length (cellsK (madeS bs (k + 1)))) := by
            rw [HSN.out, HT.out, List.length_append]; exact hX7
          have HR7 := Lib.hid hr7
          clear hr7 hX7 hB7
          go_wp2_with (at_builtin; refine wpList_append_want (o := ⟨some 68, _, _, _, _, _⟩) _ rfl _ _ _ _ rfl _ _ rfl rfl _ _ HR7.out ?_)
          go_roundw
          case rel => exact ⟨k + 1, by have := HLT.out; omega, by go_num, HX7.out, HB7.out⟩
          case measure => simp [intOf]; omega
        · have HT := Lib.hid (HMT.out.trans (show _ = (⟨3, [92, 34, 120, 32, 126], 0⟩ : Tk) from rfl))
          clear HMT
          have hbA := (Below.refl wr.heap.size wr).alloc (Nat.le_refl _) (.cells #[.int .i64 3, .string ⟨#[92, 34, 120, 32, 126]⟩, .int .i64 0] 29)
          have HBC := Lib.hid (hbA.alloc (by simp) (.cells #[.string ⟨#[]⟩, .string ⟨#[97]⟩, .string ⟨#[34]⟩, .string ⟨#[97, 92, 98]⟩, .string ⟨#[35, 32, 110, 111, 44, 32, 99, 111, 109, 109, 101, 110, 116, 59]⟩, .string ⟨#[92, 34, 120, 32, 126]⟩] 9))
          have HUC := Lib.hid ((Trio.new wr 29 (.int .i64 3) (.string ⟨#[92, 34, 120, 32, 126]⟩) (.int .i64 0)).below (V := (wr.alloc (.cells #[.int .i64 3, .string ⟨#[92, 34, 120, 32, 126]⟩, .int .i64 0] 29)).alloc (.cells #[.string ⟨#[]⟩, .string ⟨#[97]⟩, .string ⟨#[34]⟩, .string ⟨#[97, 92, 98]⟩, .string ⟨#[35, 32, 110, 111, 44, 32, 99, 111, 109, 109, 101, 110, 116, 59]⟩, .string ⟨#[92, 34, 120, 32, 126]⟩] 9)) ((Below.refl (wr.alloc (.cells #[.int .i64 3, .string ⟨#[92, 34, 120, 32, 126]⟩, .int .i64 0] 29)).heap.size _).alloc (Nat.le_refl _) _) (by simp))
          clear hbA
          go_upto_region 15 with fail
          obtain ⟨wC, hwC⟩ : ∃ wC, (wr.alloc (.cells #[.int .i64 3, .string ⟨#[92, 34, 120, 32, 126]⟩, .int .i64 0] 29)).alloc (.cells #[.string ⟨#[]⟩, .string ⟨#[97]⟩, .string ⟨#[34]⟩, .string ⟨#[97, 92, 98]⟩, .string ⟨#[35, 32, 110, 111, 44, 32, 99, 111, 109, 109, 101, 110, 116, 59]⟩, .string ⟨#[92, 34, 120, 32, 126]⟩] 9) = wC := ⟨_, rfl⟩
          rw [hwC] at HUC HBC ⊢
          clear hwC d0 d1
          have HXC := Lib.hid (row_below HI.out.1 HBC.out)
          have HWC := Lib.hid (HI.out.2.trans (HBC.out.mono HI.out.2.size))
          generalize wr.heap.size = U at *
          have q0 := HUC.out.c0
          have q1 := HUC.out.c1
          have q2 := HUC.out.c2
          obtain ⟨v7, w7, hr7, hX7, hB7, _⟩ := append_tok (P := Try.prog) wC w.heap.size 22 22 29 29 i0 _ Try.underlying22 hi hz0 hz1 hz2 rfl u3 _ _ HXC.out ⟨3, [92, 34, 120, 32, 126], 0⟩ (by rw [madeS_len]; omega) HWC.out.size
          change (Builtin.append_ _ _ _).run Try.prog (wC.alloc (.cells #[.int .i64 3, .string ⟨#[92, 34, 120, 32, 126]⟩, .int .i64 0] 29)) = _ at hr7
          have HB7 := Lib.hid (HWC.out.trans hB7)
          have HX7 : Hid (w7.ownsRow w.heap.size 29 3 v7 (madeS bs (k + 1)).length (cellsK (madeS bs (k + 1)))) := by
            rw [HSN.out, HT.out, List.length_append]; exact hX7
          have HR7 := Lib.hid hr7
          clear hr7 hX7 hB7
          go_wp2_with (at_builtin; refine wpList_append_want (o := ⟨some 68, _, _, _, _, _⟩) _ rfl _ _ _ _ rfl _ _ rfl rfl _ _ HR7.out ?_)
          go_roundw
          case rel => exact ⟨k + 1, by have := HLT.out; omega, by go_num, HX7.out, HB7.out⟩
          case measure => simp [intOf]; omega
      · have hx4 : (x : Int).tmod 4 = 3 := by rw [Int.tmod_eq_emod_of_nonneg (by omega)]; omega
        obtain ⟨m, hm, hy6⟩ : ∃ m : Nat, m < 12 ∧ y % 12 = m := ⟨y % 12, Nat.mod_lt _ (by decide), rfl⟩
        have hyt : (y : Int).tmod 12 = (m : Int) := by rw [Int.tmod_eq_emod_of_nonneg (by omega)]; omega
        have HMT : Hid (madeT x y = ⟨4, mdS[m]?.getD [], 0⟩) := by show _ = _; unfold madeT; rw [if_neg (by omega), if_neg (by omega), if_neg (by omega)]; rw [hy6]
        clear hr hx hy hy6
        rcases (by omega : m = 0 ∨ m = 1 ∨ m = 2 ∨ m = 3 ∨ m = 4 ∨ m = 5 ∨ m = 6 ∨ m = 7 ∨ m = 8 ∨ m = 9 ∨ m = 10 ∨ m = 11) with rfl | rfl | rfl | rfl | rfl | rfl | rfl | rfl | rfl | rfl | rfl | rfl
        · have HT := Lib.hid (HMT.out.trans (show _ = (⟨4, [40], 0⟩ : Tk) from rfl))
          clear HMT
          have hbA := (Below.refl wr.heap.size wr).alloc (Nat.le_refl _) (.cells #[.int .i64 4, .string ⟨#[40]⟩, .int .i64 0] 29)
          have HBC := Lib.hid (hbA.alloc (by simp) (.cells #[.string ⟨#[40]⟩, .string ⟨#[41]⟩, .string ⟨#[44]⟩, .string ⟨#[59]⟩, .string ⟨#[58]⟩, .string ⟨#[46]⟩, .string ⟨#[61]⟩, .string ⟨#[60]⟩, .string ⟨#[60, 61]⟩, .string ⟨#[43]⟩, .string ⟨#[45]⟩, .string ⟨#[42]⟩] 9))
          have HUC := Lib.hid ((Trio.new wr 29 (.int .i64 4) (.string ⟨#[40]⟩) (.int .i64 0)).below (V := (wr.alloc (.cells #[.int .i64 4, .string ⟨#[40]⟩, .int .i64 0] 29)).alloc (.cells #[.string ⟨#[40]⟩, .string ⟨#[41]⟩, .string ⟨#[44]⟩, .string ⟨#[59]⟩, .string ⟨#[58]⟩, .string ⟨#[46]⟩, .string ⟨#[61]⟩, .string ⟨#[60]⟩, .string ⟨#[60, 61]⟩, .string ⟨#[43]⟩, .string ⟨#[45]⟩, .string ⟨#[42]⟩] 9)) ((Below.refl (wr.alloc (.cells #[.int .i64 4, .string ⟨#[40]⟩, .int .i64 0] 29)).heap.size _).alloc (Nat.le_refl _) _) (by simp))
          clear hbA
          go_upto_region 15 with fail
          obtain ⟨wC, hwC⟩ : ∃ wC, (wr.alloc (.cells #[.int .i64 4, .string ⟨#[40]⟩, .int .i64 0] 29)).alloc (.cells #[.string ⟨#[40]⟩, .string ⟨#[41]⟩, .string ⟨#[44]⟩, .string ⟨#[59]⟩, .string ⟨#[58]⟩, .string ⟨#[46]⟩, .string ⟨#[61]⟩, .string ⟨#[60]⟩, .string ⟨#[60, 61]⟩, .string ⟨#[43]⟩, .string ⟨#[45]⟩, .string ⟨#[42]⟩] 9) = wC := ⟨_, rfl⟩
          rw [hwC] at HUC HBC ⊢
          clear hwC d0 d1
          have HXC := Lib.hid (row_below HI.out.1 HBC.out)
          have HWC := Lib.hid (HI.out.2.trans (HBC.out.mono HI.out.2.size))
          generalize wr.heap.size = U at *
          have q0 := HUC.out.c0
          have q1 := HUC.out.c1
          have q2 := HUC.out.c2
          obtain ⟨v7, w7, hr7, hX7, hB7, _⟩ := append_tok (P := Try.prog) wC w.heap.size 22 22 29 29 i0 _ Try.underlying22 hi hz0 hz1 hz2 rfl u3 _ _ HXC.out ⟨4, [40], 0⟩ (by rw [madeS_len]; omega) HWC.out.size
          change (Builtin.append_ _ _ _).run Try.prog (wC.alloc (.cells #[.int .i64 4, .string ⟨#[40]⟩, .int .i64 0] 29)) = _ at hr7
          have HB7 := Lib.hid (HWC.out.trans hB7)
          have HX7 : Hid (w7.ownsRow w.heap.size 29 3 v7 (madeS bs (k + 1)).length (cellsK (madeS bs (k + 1)))) := by
            rw [HSN.out, HT.out, List.length_append]; exact hX7
          have HR7 := Lib.hid hr7
          clear hr7 hX7 hB7
          go_wp2_with (at_builtin; refine wpList_append_want (o := ⟨some 68, _, _, _, _, _⟩) _ rfl _ _ _ _ rfl _ _ rfl rfl _ _ HR7.out ?_)
          go_roundw
          case rel => exact ⟨k + 1, by have := HLT.out; omega, by go_num, HX7.out, HB7.out⟩
          case measure => simp [intOf]; omega
        · have HT := Lib.hid (HMT.out.trans (show _ = (⟨4, [41], 0⟩ : Tk) from rfl))
          clear HMT
          have hbA := (Below.refl wr.heap.size wr).alloc (Nat.le_refl _) (.cells #[.int .i64 4, .string ⟨#[41]⟩, .int .i64 0] 29)
          have HBC := Lib.hid (hbA.alloc (by simp) (.cells #[.string ⟨#[40]⟩, .string ⟨#[41]⟩, .string ⟨#[44]⟩, .string ⟨#[59]⟩, .string ⟨#[58]⟩, .string ⟨#[46]⟩, .string ⟨#[61]⟩, .string ⟨#[60]⟩, .string ⟨#[60, 61]⟩, .string ⟨#[43]⟩, .string ⟨#[45]⟩, .string ⟨#[42]⟩] 9))
          have HUC := Lib.hid ((Trio.new wr 29 (.int .i64 4) (.string ⟨#[41]⟩) (.int .i64 0)).below (V := (wr.alloc (.cells #[.int .i64 4, .string ⟨#[41]⟩, .int .i64 0] 29)).alloc (.cells #[.string ⟨#[40]⟩, .string ⟨#[41]⟩, .string ⟨#[44]⟩, .string ⟨#[59]⟩, .string ⟨#[58]⟩, .string ⟨#[46]⟩, .string ⟨#[61]⟩, .string ⟨#[60]⟩, .string ⟨#[60, 61]⟩, .string ⟨#[43]⟩, .string ⟨#[45]⟩, .string ⟨#[42]⟩] 9)) ((Below.refl (wr.alloc (.cells #[.int .i64 4, .string ⟨#[41]⟩, .int .i64 0] 29)).heap.size _).alloc (Nat.le_refl _) _) (by simp))
          clear hbA
          go_upto_region 15 with fail
          obtain ⟨wC, hwC⟩ : ∃ wC, (wr.alloc (.cells #[.int .i64 4, .string ⟨#[41]⟩, .int .i64 0] 29)).alloc (.cells #[.string ⟨#[40]⟩, .string ⟨#[41]⟩, .string ⟨#[44]⟩, .string ⟨#[59]⟩, .string ⟨#[58]⟩, .string ⟨#[46]⟩, .string ⟨#[61]⟩, .string ⟨#[60]⟩, .string ⟨#[60, 61]⟩, .string ⟨#[43]⟩, .string ⟨#[45]⟩, .string ⟨#[42]⟩] 9) = wC := ⟨_, rfl⟩
          rw [hwC] at HUC HBC ⊢
          clear hwC d0 d1
          have HXC := Lib.hid (row_below HI.out.1 HBC.out)
          have HWC := Lib.hid (HI.out.2.trans (HBC.out.mono HI.out.2.size))
          generalize wr.heap.size = U at *
          have q0 := HUC.out.c0
          have q1 := HUC.out.c1
          have q2 := HUC.out.c2
          obtain ⟨v7, w7, hr7, hX7, hB7, _⟩ := append_tok (P := Try.prog) wC w.heap.size 22 22 29 29 i0 _ Try.underlying22 hi hz0 hz1 hz2 rfl u3 _ _ HXC.out ⟨4, [41], 0⟩ (by rw [madeS_len]; omega) HWC.out.size
          change (Builtin.append_ _ _ _).run Try.prog (wC.alloc (.cells #[.int .i64 4, .string ⟨#[41]⟩, .int .i64 0] 29)) = _ at hr7
          have HB7 := Lib.hid (HWC.out.trans hB7)
          have HX7 : Hid (w7.ownsRow w.heap.size 29 3 v7 (madeS bs (k + 1)).length (cellsK (madeS bs (k + 1)))) := by
            rw [HSN.out, HT.out, List.length_append]; exact hX7
          have HR7 := Lib.hid hr7
          clear hr7 hX7 hB7
          go_wp2_with (at_builtin; refine wpList_append_want (o := ⟨some 68, _, _, _, _, _⟩) _ rfl _ _ _ _ rfl _ _ rfl rfl _ _ HR7.out ?_)
          go_roundw
          case rel => exact ⟨k + 1, by have := HLT.out; omega, by go_num, HX7.out, HB7.out⟩
          case measure => simp [intOf]; omega
        · have HT := Lib.hid (HMT.out.trans (show _ = (⟨4, [44], 0⟩ : Tk) from rfl))
          clear HMT
          have hbA := (Below.refl wr.heap.size wr).alloc (Nat.le_refl _) (.cells #[.int .i64 4, .string ⟨#[44]⟩, .int .i64 0] 29)
          have HBC := Lib.hid (hbA.alloc (by simp) (.cells #[.string ⟨#[40]⟩, .string ⟨#[41]⟩, .string ⟨#[44]⟩, .string ⟨#[59]⟩, .string ⟨#[58]⟩, .string ⟨#[46]⟩, .string ⟨#[61]⟩, .string ⟨#[60]⟩, .string ⟨#[60, 61]⟩, .string ⟨#[43]⟩, .string ⟨#[45]⟩, .string ⟨#[42]⟩] 9))
          have HUC := Lib.hid ((Trio.new wr 29 (.int .i64 4) (.string ⟨#[44]⟩) (.int .i64 0)).below (V := (wr.alloc (.cells #[.int .i64 4, .string ⟨#[44]⟩, .int .i64 0] 29)).alloc (.cells #[.string ⟨#[40]⟩, .string ⟨#[41]⟩, .string ⟨#[44]⟩, .string ⟨#[59]⟩, .string ⟨#[58]⟩, .string ⟨#[46]⟩, .string ⟨#[61]⟩, .string ⟨#[60]⟩, .string ⟨#[60, 61]⟩, .string ⟨#[43]⟩, .string ⟨#[45]⟩, .string ⟨#[42]⟩] 9)) ((Below.refl (wr.alloc (.cells #[.int .i64 4, .string ⟨#[44]⟩, .int .i64 0] 29)).heap.size _).alloc (Nat.le_refl _) _) (by simp))
          clear hbA
          go_upto_region 15 with fail
          obtain ⟨wC, hwC⟩ : ∃ wC, (wr.alloc (.cells #[.int .i64 4, .string ⟨#[44]⟩, .int .i64 0] 29)).alloc (.cells #[.string ⟨#[40]⟩, .string ⟨#[41]⟩, .string ⟨#[44]⟩, .string ⟨#[59]⟩, .string ⟨#[58]⟩, .string ⟨#[46]⟩, .string ⟨#[61]⟩, .string ⟨#[60]⟩, .string ⟨#[60, 61]⟩, .string ⟨#[43]⟩, .string ⟨#[45]⟩, .string ⟨#[42]⟩] 9) = wC := ⟨_, rfl⟩
          rw [hwC] at HUC HBC ⊢
          clear hwC d0 d1
          have HXC := Lib.hid (row_below HI.out.1 HBC.out)
          have HWC := Lib.hid (HI.out.2.trans (HBC.out.mono HI.out.2.size))
          generalize wr.heap.size = U at *
          have q0 := HUC.out.c0
          have q1 := HUC.out.c1
          have q2 := HUC.out.c2
          obtain ⟨v7, w7, hr7, hX7, hB7, _⟩ := append_tok (P := Try.prog) wC w.heap.size 22 22 29 29 i0 _ Try.underlying22 hi hz0 hz1 hz2 rfl u3 _ _ HXC.out ⟨4, [44], 0⟩ (by rw [madeS_len]; omega) HWC.out.size
          change (Builtin.append_ _ _ _).run Try.prog (wC.alloc (.cells #[.int .i64 4, .string ⟨#[44]⟩, .int .i64 0] 29)) = _ at hr7
          have HB7 := Lib.hid (HWC.out.trans hB7)
          have HX7 : Hid (w7.ownsRow w.heap.size 29 3 v7 (madeS bs (k + 1)).length (cellsK (madeS bs (k + 1)))) := by
            rw [HSN.out, HT.out, List.length_append]; exact hX7
          have HR7 := Lib.hid hr7
          clear hr7 hX7 hB7
          go_wp2_with (at_builtin; refine wpList_append_want (o := ⟨some 68, _, _, _, _, _⟩) _ rfl _ _ _ _ rfl _ _ rfl rfl _ _ HR7.out ?_)
          go_roundw
          case rel => exact ⟨k + 1, by have := HLT.out; omega, by go_num, HX7.out, HB7.out⟩
          case measure => simp [intOf]; omega
        · have HT := Lib.hid (HMT.out.trans (show _ = (⟨4, [59], 0⟩ : Tk) from rfl))
          clear HMT
          have hbA := (Below.refl wr.heap.size wr).alloc (Nat.le_refl _) (.cells #[.int .i64 4, .string ⟨#[59]⟩, .int .i64 0] 29)
          have HBC := Lib.hid (hbA.alloc (by simp) (.cells #[.string ⟨#[40]⟩, .string ⟨#[41]⟩, .string ⟨#[44]⟩, .string ⟨#[59]⟩, .string ⟨#[58]⟩, .string ⟨#[46]⟩, .string ⟨#[61]⟩, .string ⟨#[60]⟩, .string ⟨#[60, 61]⟩, .string ⟨#[43]⟩, .string ⟨#[45]⟩, .string ⟨#[42]⟩] 9))
          have HUC := Lib.hid ((Trio.new wr 29 (.int .i64 4) (.string ⟨#[59]⟩) (.int .i64 0)).below (V := (wr.alloc (.cells #[.int .i64 4, .string ⟨#[59]⟩, .int .i64 0] 29)).alloc (.cells #[.string ⟨#[40]⟩, .string ⟨#[41]⟩, .string ⟨#[44]⟩, .string ⟨#[59]⟩, .string ⟨#[58]⟩, .string ⟨#[46]⟩, .string ⟨#[61]⟩, .string ⟨#[60]⟩, .string ⟨#[60, 61]⟩, .string ⟨#[43]⟩, .string ⟨#[45]⟩, .string ⟨#[42]⟩] 9)) ((Below.refl (wr.alloc (.cells #[.int .i64 4, .string ⟨#[59]⟩, .int .i64 0] 29)).heap.size _).alloc (Nat.le_refl _) _) (by simp))
          clear hbA
          go_upto_region 15 with fail
          obtain ⟨wC, hwC⟩ : ∃ wC, (wr.alloc (.cells #[.int .i64 4, .string ⟨#[59]⟩, .int .i64 0] 29)).alloc (.cells #[.string ⟨#[40]⟩, .string ⟨#[41]⟩, .string ⟨#[44]⟩, .string ⟨#[59]⟩, .string ⟨#[58]⟩, .string ⟨#[46]⟩, .string ⟨#[61]⟩, .string ⟨#[60]⟩, .string ⟨#[60, 61]⟩, .string ⟨#[43]⟩, .string ⟨#[45]⟩, .string ⟨#[42]⟩] 9) = wC := ⟨_, rfl⟩
          rw [hwC] at HUC HBC ⊢
          clear hwC d0 d1
          have HXC := Lib.hid (row_below HI.out.1 HBC.out)
          have HWC := Lib.hid (HI.out.2.trans (HBC.out.mono HI.out.2.size))
          generalize wr.heap.size = U at *
          have q0 := HUC.out.c0
          have q1 := HUC.out.c1
          have q2 := HUC.out.c2
          obtain ⟨v7, w7, hr7, hX7, hB7, _⟩ := append_tok (P := Try.prog) wC w.heap.size 22 22 29 29 i0 _ Try.underlying22 hi hz0 hz1 hz2 rfl u3 _ _ HXC.out ⟨4, [59], 0⟩ (by rw [madeS_len]; omega) HWC.out.size
          change (Builtin.append_ _ _ _).run Try.prog (wC.alloc (.cells #[.int .i64 4, .string ⟨#[59]⟩, .int .i64 0] 29)) = _ at hr7
          have HB7 := Lib.hid (HWC.out.trans hB7)
          have HX7 : Hid (w7.ownsRow w.heap.size 29 3 v7 (madeS bs (k + 1)).length (cellsK (madeS bs (k + 1)))) := by
            rw [HSN.out, HT.out, List.length_append]; exact hX7
          have HR7 := Lib.hid hr7
          clear hr7 hX7 hB7
          go_wp2_with (at_builtin; refine wpList_append_want (o := ⟨some 68, _, _, _, _, _⟩) _ rfl _ _ _ _ rfl _ _ rfl rfl _ _ HR7.out ?_)
          go_roundw
          case rel => exact ⟨k + 1, by have := HLT.out; omega, by go_num, HX7.out, HB7.out⟩
          case measure => simp [intOf]; omega
        · have HT := Lib.hid (HMT.out.trans (show _ = (⟨4, [58], 0⟩ : Tk) from rfl))
          clear HMT
          have hbA := (Below.refl wr.heap.size wr).alloc (Nat.le_refl _) (.cells #[.int .i64 4, .string ⟨#[58]⟩, .int .i64 0] 29)
          have HBC := Lib.hid (hbA.alloc (by simp) (.cells #[.string ⟨#[40]⟩, .string ⟨#[41]⟩, .string ⟨#[44]⟩, .string ⟨#[59]⟩, .string ⟨#[58]⟩, .string ⟨#[46]⟩, .string ⟨#[61]⟩, .string ⟨#[60]⟩, .string ⟨#[60, 61]⟩, .string ⟨#[43]⟩, .string ⟨#[45]⟩, .string ⟨#[42]⟩] 9))
          have HUC := Lib.hid ((Trio.new wr 29 (.int .i64 4) (.string ⟨#[58]⟩) (.int .i64 0)).below (V := (wr.alloc (.cells #[.int .i64 4, .string ⟨#[58]⟩, .int .i64 0] 29)).alloc (.cells #[.string ⟨#[40]⟩, .string ⟨#[41]⟩, .string ⟨#[44]⟩, .string ⟨#[59]⟩, .string ⟨#[58]⟩, .string ⟨#[46]⟩, .string ⟨#[61]⟩, .string ⟨#[60]⟩, .string ⟨#[60, 61]⟩, .string ⟨#[43]⟩, .string ⟨#[45]⟩, .string ⟨#[42]⟩] 9)) ((Below.refl (wr.alloc (.cells #[.int .i64 4, .string ⟨#[58]⟩, .int .i64 0] 29)).heap.size _).alloc (Nat.le_refl _) _) (by simp))
          clear hbA
          go_upto_region 15 with fail
          obtain ⟨wC, hwC⟩ : ∃ wC, (wr.alloc (.cells #[.int .i64 4, .string ⟨#[58]⟩, .int .i64 0] 29)).alloc (.cells #[.string ⟨#[40]⟩, .string ⟨#[41]⟩, .string ⟨#[44]⟩, .string ⟨#[59]⟩, .string ⟨#[58]⟩, .string ⟨#[46]⟩, .string ⟨#[61]⟩, .string ⟨#[60]⟩, .string ⟨#[60, 61]⟩, .string ⟨#[43]⟩, .string ⟨#[45]⟩, .string ⟨#[42]⟩] 9) = wC := ⟨_, rfl⟩
          rw [hwC] at HUC HBC ⊢
          clear hwC d0 d1
          have HXC := Lib.hid (row_below HI.out.1 HBC.out)
          have HWC := Lib.hid (HI.out.2.trans (HBC.out.mono HI.out.2.size))
          generalize wr.heap.size = U at *
          have q0 := HUC.out.c0
          have q1 := HUC.out.c1
          have q2 := HUC.out.c2
          obtain ⟨v7, w7, hr7, hX7, hB7, _⟩ := append_tok (P := Try.prog) wC w.heap.size 22 22 29 29 i0 _ Try.underlying22 hi hz0 hz1 hz2 rfl u3 _ _ HXC.out ⟨4, [58], 0⟩ (by rw [madeS_len]; omega) HWC.out.size
          change (Builtin.append_ _ _ _).run Try.prog (wC.alloc (.cells #[.int .i64 4, .string ⟨#[58]⟩, .int .i64 0] 29)) = _ at hr7
          have HB7 := Lib.hid (HWC.out.trans hB7)
          have HX7 : Hid (w7.ownsRow w.heap.size 29 3 v7 (madeS bs (k + 1)).length (cellsK (madeS bs (k + 1)))) := by
            rw [HSN.out, HT.out, List.length_append]; exact hX7
          have HR7 := Lib.hid hr7
          clear hr7 hX7 hB7
          go_wp2_with (at_builtin; refine wpList_append_want (o := ⟨some 68, _, _, _, _, _⟩) _ rfl _ _ _ _ rfl _ _ rfl rfl _ _ HR7.out ?_)
          go_roundw
          case rel => exact ⟨k + 1, by have := HLT.out; omega, by go_num, HX7.out, HB7.out⟩
          case measure => simp [intOf]; omega
        · have HT := Lib.hid (HMT.out.trans (show _ = (⟨4, [46], 0⟩ : Tk) from rfl))
          clear HMT
          have hbA := (Below.refl wr.heap.size wr).alloc (Nat.le_refl _) (.cells #[.int .i64 4, .string ⟨#[46]⟩, .int .i64 0] 29)
          have HBC := Lib.hid (hbA.alloc (by simp) (.cells #[.string ⟨#[40]⟩, .string ⟨#[41]⟩, .string ⟨#[44]⟩, .string ⟨#[59]⟩, .string ⟨#[58]⟩, .string ⟨#[46]⟩, .string ⟨#[61]⟩, .string ⟨#[60]⟩, .string ⟨#[60, 61]⟩, .string ⟨#[43]⟩, .string ⟨#[45]⟩, .string ⟨#[42]⟩] 9))
          have HUC := Lib.hid ((Trio.new wr 29 (.int .i64 4) (.string ⟨#[46]⟩) (.int .i64 0)).below (V := (wr.alloc (.cells #[.int .i64 4, .string ⟨#[46]⟩, .int .i64 0] 29)).alloc (.cells #[.string ⟨#[40]⟩, .string ⟨#[41]⟩, .string ⟨#[44]⟩, .string ⟨#[59]⟩, .string ⟨#[58]⟩, .string ⟨#[46]⟩, .string ⟨#[61]⟩, .string ⟨#[60]⟩, .string ⟨#[60, 61]⟩, .string ⟨#[43]⟩, .string ⟨#[45]⟩, .string ⟨#[42]⟩] 9)) ((Below.refl (wr.alloc (.cells #[.int .i64 4, .string ⟨#[46]⟩, .int .i64 0] 29)).heap.size _).alloc (Nat.le_refl _) _) (by simp))
          clear hbA
          go_upto_region 15 with fail
          obtain ⟨wC, hwC⟩ : ∃ wC, (wr.alloc (.cells #[.int .i64 4, .string ⟨#[46]⟩, .int .i64 0] 29)).alloc (.cells #[.string ⟨#[40]⟩, .string ⟨#[41]⟩, .string ⟨#[44]⟩, .string ⟨#[59]⟩, .string ⟨#[58]⟩, .string ⟨#[46]⟩, .string ⟨#[61]⟩, .string ⟨#[60]⟩, .string ⟨#[60, 61]⟩, .string ⟨#[43]⟩, .string ⟨#[45]⟩, .string ⟨#[42]⟩] 9) = wC := ⟨_, rfl⟩
          rw [hwC] at HUC HBC ⊢
          clear hwC d0 d1
          have HXC := Lib.hid (row_below HI.out.1 HBC.out)
          have HWC := Lib.hid (HI.out.2.trans (HBC.out.mono HI.out.2.size))
          generalize wr.heap.size = U at *
          have q0 := HUC.out.c0
          have q1 := HUC.out.c1
          have q2 := HUC.out.c2
          obtain ⟨v7, w7, hr7, hX7, hB7, _⟩ := append_tok (P := Try.prog) wC w.heap.size 22 22 29 29 i0 _ Try.underlying22 hi hz0 hz1 hz2 rfl u3 _ _ HXC.out ⟨4, [46], 0⟩ (by rw [madeS_len]; omega) HWC.out.size
          change (Builtin.append_ _ _ _).run Try.prog (wC.alloc (.cells #[.int .i64 4, .string ⟨#[46]⟩, .int .i64 0] 29)) = _ at hr7
          have HB7 := Lib.hid (HWC.out.trans hB7)
          have HX7 : Hid (w7.ownsRow w.heap.size 29 3 v7 (madeS bs (k + 1)).length (cellsK (madeS bs (k + 1)))) := by
            rw [HSN.out, HT.out, List.length_append]; exact hX7
          have HR7 := Lib.hid hr7
          clear hr7 hX7 hB7
          go_wp2_with (at_builtin; refine wpList_append_want (o := ⟨some 68, _, _, _, _, _⟩) _ rfl _ _ _ _ rfl _ _ rfl rfl _ _ HR7.out ?_)
          go_roundw
          case rel => exact ⟨k + 1, by have := HLT.out; omega, by go_num, HX7.out, HB7.out⟩
          case measure => simp [intOf]; omega
        · have HT := Lib.hid (HMT.out.trans (show _ = (⟨4, [61], 0⟩ : Tk) from rfl))
          clear HMT
          have hbA := (Below.refl wr.heap.size wr).alloc (Nat.le_refl _) (.cells #[.int .i64 4, .string ⟨#[61]⟩, .int .i64 0] 29)
          have HBC := Lib.hid (hbA.alloc (by simp) (.cells #[.string ⟨#[40]⟩, .string ⟨#[41]⟩, .string ⟨#[44]⟩, .string ⟨#[59]⟩, .string ⟨#[58]⟩, .string ⟨#[46]⟩, .string ⟨#[61]⟩, .string ⟨#[60]⟩, .string ⟨#[60, 61]⟩, .string ⟨#[43]⟩, .string ⟨#[45]⟩, .string ⟨#[42]⟩] 9))
          have HUC := Lib.hid ((Trio.new wr 29 (.int .i64 4) (.string ⟨#[61]⟩) (.int .i64 0)).below (V := (wr.alloc (.cells #[.int .i64 4, .string ⟨#[61]⟩, .int .i64 0] 29)).alloc (.cells #[.string ⟨#[40]⟩, .string ⟨#[41]⟩, .string ⟨#[44]⟩, .string ⟨#[59]⟩, .string ⟨#[58]⟩, .string ⟨#[46]⟩, .string ⟨#[61]⟩, .string ⟨#[60]⟩, .string ⟨#[60, 61]⟩, .string ⟨#[43]⟩, .string ⟨#[45]⟩, .string ⟨#[42]⟩] 9)) ((Below.refl (wr.alloc (.cells #[.int .i64 4, .string ⟨#[61]⟩, .int .i64 0] 29)).heap.size _).alloc (Nat.le_refl _) _) (by simp))
          clear hbA
          go_upto_region 15 with fail
          obtain ⟨wC, hwC⟩ : ∃ wC, (wr.alloc (.cells #[.int .i64 4, .string ⟨#[61]⟩, .int .i64 0] 29)).alloc (.cells #[.string ⟨#[40]⟩, .string ⟨#[41]⟩, .string ⟨#[44]⟩, .string ⟨#[59]⟩, .string ⟨#[58]⟩, .string ⟨#[46]⟩, .string ⟨#[61]⟩, .string ⟨#[60]⟩, .string ⟨#[60, 61]⟩, .string ⟨#[43]⟩, .string ⟨#[45]⟩, .string ⟨#[42]⟩] 9) = wC := ⟨_, rfl⟩
          rw [hwC] at HUC HBC ⊢
          clear hwC d0 d1
          have HXC := Lib.hid (row_below HI.out.1 HBC.out)
          have HWC := Lib.hid (HI.out.2.trans (HBC.out.mono HI.out.2.size))
          generalize wr.heap.size = U at *
          have q0 := HUC.out.c0
          have q1 := HUC.out.c1
          have q2 := HUC.out.c2
          obtain ⟨v7, w7, hr7, hX7, hB7, _⟩ := append_tok (P := Try.prog) wC w.heap.size 22 22 29 29 i0 _ Try.underlying22 hi hz0 hz1 hz2 rfl u3 _ _ HXC.out ⟨4, [61], 0⟩ (by rw [madeS_len]; omega) HWC.out.size
          change (Builtin.append_ _ _ _).run Try.prog (wC.alloc (.cells #[.int .i64 4, .string ⟨#[61]⟩, .int .i64 0] 29)) = _ at hr7
          have HB7 := Lib.hid (HWC.out.trans hB7)
          have HX7 : Hid (w7.ownsRow w.heap.size 29 3 v7 (madeS bs (k + 1)).length (cellsK (madeS bs (k + 1)))) := by
            rw [HSN.out, HT.out, List.length_append]; exact hX7
          have HR7 := Lib.hid hr7
          clear hr7 hX7 hB7
          go_wp2_with (at_builtin; refine wpList_append_want (o := ⟨some 68, _, _, _, _, _⟩) _ rfl _ _ _ _ rfl _ _ rfl rfl _ _ HR7.out ?_)
          go_roundw
          case rel => exact ⟨k + 1, by have := HLT.out; omega, by go_num, HX7.out, HB7.out⟩
          case measure => simp [intOf]; omega
        · have HT := Lib.hid (HMT.out.trans (show _ = (⟨4, [60], 0⟩ : Tk) from rfl))
          clear HMT
          have hbA := (Below.refl wr.heap.size wr).alloc (Nat.le_refl _) (.cells #[.int .i64 4, .string ⟨#[60]⟩, .int .i64 0] 29)
          have HBC := Lib.hid (hbA.alloc (by simp) (.cells #[.string ⟨#[40]⟩, .string ⟨#[41]⟩, .string ⟨#[44]⟩, .string ⟨#[59]⟩, .string ⟨#[58]⟩, .string ⟨#[46]⟩, .string ⟨#[61]⟩, .string ⟨#[60]⟩, .string ⟨#[60, 61]⟩, .string ⟨#[43]⟩, .string ⟨#[45]⟩, .string ⟨#[42]⟩] 9))
          have HUC := Lib.hid ((Trio.new wr 29 (.int .i64 4) (.string ⟨#[60]⟩) (.int .i64 0)).below (V := (wr.alloc (.cells #[.int .i64 4, .string ⟨#[60]⟩, .int .i64 0] 29)).alloc (.cells #[.string ⟨#[40]⟩, .string ⟨#[41]⟩, .string ⟨#[44]⟩, .string ⟨#[59]⟩, .string ⟨#[58]⟩, .string ⟨#[46]⟩, .string ⟨#[61]⟩, .string ⟨#[60]⟩, .string ⟨#[60, 61]⟩, .string ⟨#[43]⟩, .string ⟨#[45]⟩, .string ⟨#[42]⟩] 9)) ((Below.refl (wr.alloc (.cells #[.int .i64 4, .string ⟨#[60]⟩, .int .i64 0] 29)).heap.size _).alloc (Nat.le_refl _) _) (by simp))
          clear hbA
          go_upto_region 15 with fail
          obtain ⟨wC, hwC⟩ : ∃ wC, (wr.alloc (.cells #[.int .i64 4, .string ⟨#[60]⟩, .int .i64 0] 29)).alloc (.cells #[.string ⟨#[40]⟩, .string ⟨#[41]⟩, .string ⟨#[44]⟩, .string ⟨#[59]⟩, .string ⟨#[58]⟩, .string ⟨#[46]⟩, .string ⟨#[61]⟩, .string ⟨#[60]⟩, .string ⟨#[60, 61]⟩, .string ⟨#[43]⟩, .string ⟨#[45]⟩, .string ⟨#[42]⟩] 9) = wC := ⟨_, rfl⟩
          rw [hwC] at HUC HBC ⊢
          clear hwC d0 d1
          have HXC := Lib.hid (row_below HI.out.1 HBC.out)
          have HWC := Lib.hid (HI.out.2.trans (HBC.out.mono HI.out.2.size))
          generalize wr.heap.size = U at *
          have q0 := HUC.out.c0
          have q1 := HUC.out.c1
          have q2 := HUC.out.c2
          obtain ⟨v7, w7, hr7, hX7, hB7, _⟩ := append_tok (P := Try.prog) wC w.heap.size 22 22 29 29 i0 _ Try.underlying22 hi hz0 hz1 hz2 rfl u3 _ _ HXC.out ⟨4, [60], 0⟩ (by rw [madeS_len]; omega) HWC.out.size
          change (Builtin.append_ _ _ _).run Try.prog (wC.alloc (.cells #[.int .i64 4, .string ⟨#[60]⟩, .int .i64 0] 29)) = _ at hr7
          have HB7 := Lib.hid (HWC.out.trans hB7)
          have HX7 : Hid (w7.ownsRow w.heap.size 29 3 v7 (madeS bs (k + 1)).length (cellsK (madeS bs (k + 1)))) := by
            rw [HSN.out, HT.out, List.length_append]; exact hX7
          have HR7 := Lib.hid hr7
          clear hr7 hX7 hB7
          go_wp2_with (at_builtin; refine wpList_append_want (o := ⟨some 68, _, _, _, _, _⟩) _ rfl _ _ _ _ rfl _ _ rfl rfl _ _ HR7.out ?_)
          go_roundw
          case rel => exact ⟨k + 1, by have := HLT.out; omega, by go_num, HX7.out, HB7.out⟩
          case measure => simp [intOf]; omega
        · have HT := Lib.hid (HMT.out.trans (show _ = (⟨4, [60, 61], 0⟩ : Tk) from rfl))
          clear HMT
          have hbA := (Below.refl wr.heap.size wr).alloc (Nat.le_refl _) (.cells #[.int .i64 4, .string ⟨#[60, 61]⟩, .int .i64 0] 29)
          have HBC := Lib.hid (hbA.alloc (by simp) (.cells #[.string ⟨#[40]⟩, .string ⟨#[41]⟩, .string ⟨#[44]⟩, .string ⟨#[59]⟩, .string ⟨#[58]⟩, .string ⟨#[46]⟩, .string ⟨#[61]⟩, .string ⟨#[60]⟩, .string ⟨#[60, 61]⟩, .string ⟨#[43]⟩, .string ⟨#[45]⟩, .string ⟨#[42]⟩] 9))
          have HUC := Lib.hid ((Trio.new wr 29 (.int .i64 4) (.string ⟨#[60, 61]⟩) (.int .i64 0)).below (V := (wr.alloc (.cells #[.int .i64 4, .string ⟨#[60, 61]⟩, .int .i64 0] 29)).alloc (.cells #[.string ⟨#[40]⟩, .string ⟨#[41]⟩, .string ⟨#[44]⟩, .string ⟨#[59]⟩, .string ⟨#[58]⟩, .string ⟨#[46]⟩, .string ⟨#[61]⟩, .string ⟨#[60]⟩, .string ⟨#[60, 61]⟩, .string ⟨#[43]⟩, .string ⟨#[45]⟩, .string ⟨#[42]⟩] 9)) ((Below.refl (wr.alloc (.cells #[.int .i64 4, .string ⟨#[60, 61]⟩, .int .i64 0] 29)).heap.size _).alloc (Nat.le_refl _) _) (by simp))
          clear hbA
          go_upto_region 15 with fail
          obtain ⟨wC, hwC⟩ : ∃ wC, (wr.alloc (.cells #[.int .i64 4, .string ⟨#[60, 61]⟩, .int .i64 0] 29)).alloc (.cells #[.string ⟨#[40]⟩, .string ⟨#[41]⟩, .string ⟨#[44]⟩, .string ⟨#[59]⟩, .string ⟨#[58]⟩, .string ⟨#[46]⟩, .string ⟨#[61]⟩, .string ⟨#[60]⟩, .string ⟨#[60, 61]⟩, .string ⟨#[43]⟩, .string ⟨#[45]⟩, .string ⟨#[42]⟩] 9) = wC := ⟨_, rfl⟩
          rw [hwC] at HUC HBC ⊢
          clear hwC d0 d1
          have HXC := Lib.hid (row_below HI.out.1 HBC.out)
          have HWC := Lib.hid (HI.out.2.trans (HBC.out.mono HI.out.2.size))
          generalize wr.heap.size = U at *
          have q0 := HUC.out.c0
          have q1 := HUC.out.c1
          have q2 := HUC.out.c2
          obtain ⟨v7, w7, hr7, hX7, hB7, _⟩ := append_tok (P := Try.prog) wC w.heap.size 22 22 29 29 i0 _ Try.underlying22 hi hz0 hz1 hz2 rfl u3 _ _ HXC.out ⟨4, [60, 61], 0⟩ (by rw [madeS_len]; omega) HWC.out.size
          change (Builtin.append_ _ _ _).run Try.prog (wC.alloc (.cells #[.int .i64 4, .string ⟨#[60, 61]⟩, .int .i64 0] 29)) = _ at hr7
          have HB7 := Lib.hid (HWC.out.trans hB7)
          have HX7 : Hid (w7.ownsRow w.heap.size 29 3 v7 (madeS bs (k + 1)).length (cellsK (madeS bs (k + 1)))) := by
            rw [HSN.out, HT.out, List.length_append]; exact hX7
          have HR7 := Lib.hid hr7
          clear hr7 hX7 hB7
          go_wp2_with (at_builtin; refine wpList_append_want (o := ⟨some 68, _, _, _, _, _⟩) _ rfl _ _ _ _ rfl _ _ rfl rfl _ _ HR7.out ?_)
          go_roundw
          case rel => exact ⟨k + 1, by have := HLT.out; omega, by go_num, HX7.out, HB7.out⟩
          case measure => simp [intOf]; omega
        · have HT := Lib.hid (HMT.out.trans (show _ = (⟨4, [43], 0⟩ : Tk) from rfl))
          clear HMT
          have hbA := (Below.refl wr.heap.size wr).alloc (Nat.le_refl _) (.cells #[.int .i64 4, .string ⟨#[43]⟩, .int .i64 0] 29)
          have HBC := Lib.hid (hbA.alloc (by simp) (.cells #[.string ⟨#[40]⟩, .string ⟨#[41]⟩, .string ⟨#[44]⟩, .string ⟨#[59]⟩, .string ⟨#[58]⟩, .string ⟨#[46]⟩, .string ⟨#[61]⟩, .string ⟨#[60]⟩, .string ⟨#[60, 61]⟩, .string ⟨#[43]⟩, .string ⟨#[45]⟩, .string ⟨#[42]⟩] 9))
          have HUC := Lib.hid ((Trio.new wr 29 (.int .i64 4) (.string ⟨#[43]⟩) (.int .i64 0)).below (V := (wr.alloc (.cells #[.int .i64 4, .string ⟨#[43]⟩, .int .i64 0] 29)).alloc (.cells #[.string ⟨#[40]⟩, .string ⟨#[41]⟩, .string ⟨#[44]⟩, .string ⟨#[59]⟩, .string ⟨#[58]⟩, .string ⟨#[46]⟩, .string ⟨#[61]⟩, .string ⟨#[60]⟩, .string ⟨#[60, 61]⟩, .string ⟨#[43]⟩, .string ⟨#[45]⟩, .string ⟨#[42]⟩] 9)) ((Below.refl (wr.alloc (.cells #[.int .i64 4, .string ⟨#[43]⟩, .int .i64 0] 29)).heap.size _).alloc (Nat.le_refl _) _) (by simp))
          clear hbA
          go_upto_region 15 with fail
          obtain ⟨wC, hwC⟩ : ∃ wC, (wr.alloc (.cells #[.int .i64 4, .string ⟨#[43]⟩, .int .i64 0] 29)).alloc (.cells #[.string ⟨#[40]⟩, .string ⟨#[41]⟩, .string ⟨#[44]⟩, .string ⟨#[59]⟩, .string ⟨#[58]⟩, .string ⟨#[46]⟩, .string ⟨#[61]⟩, .string ⟨#[60]⟩, .string ⟨#[60, 61]⟩, .string ⟨#[43]⟩, .string ⟨#[45]⟩, .string ⟨#[42]⟩] 9) = wC := ⟨_, rfl⟩
          rw [hwC] at HUC HBC ⊢
          clear hwC d0 d1
          have HXC := Lib.hid (row_below HI.out.1 HBC.out)
          have HWC := Lib.hid (HI.out.2.trans (HBC.out.mono HI.out.2.size))
          generalize wr.heap.size = U at *
          have q0 := HUC.out.c0
          have q1 := HUC.out.c1
          have q2 := HUC.out.c2
          obtain ⟨v7, w7, hr7, hX7, hB7, _⟩ := append_tok (P := Try.prog) wC w.heap.size 22 22 29 29 i0 _ Try.underlying22 hi hz0 hz1 hz2 rfl u3 _ _ HXC.out ⟨4, [43], 0⟩ (by rw [madeS_len]; omega) HWC.out.size
          change (Builtin.append_ _ _ _).run Try.prog (wC.alloc (.cells #[.int .i64 4, .string ⟨#[43]⟩, .int .i64 0] 29)) = _ at hr7
          have HB7 := Lib.hid (HWC.out.trans hB7)
          have HX7 : Hid (w7.ownsRow w.heap.size 29 3 v7 (madeS bs (k + 1)).length (cellsK (madeS bs (k + 1)))) := by
            rw [HSN.out, HT.out, List.length_append]; exact hX7
          have HR7 := Lib.hid hr7
          clear hr7 hX7 hB7
          go_wp2_with (at_builtin; refine wpList_append_want (o := ⟨some 68, _, _, _, _, _⟩) _ rfl _ _ _ _ rfl _ _ rfl rfl _ _ HR7.out ?_)
          go_roundw
          case rel => exact ⟨k + 1, by have := HLT.out; omega, by go_num, HX7.out, HB7.out⟩
          case measure => simp [intOf]; omega
        · have HT := Lib.hid (HMT.out.trans (show _ = (⟨4, [45], 0⟩ : Tk) from rfl))
          clear HMT
          have hbA := (Below.refl wr.heap.size wr).alloc (Nat.le_refl _) (.cells #[.int .i64 4, .string ⟨#[45]⟩, .int .i64 0] 29)
          have HBC := Lib.hid (hbA.alloc (by simp) (.cells #[.string ⟨#[40]⟩, .string ⟨#[41]⟩, .string ⟨#[44]⟩, .string ⟨#[59]⟩, .string ⟨#[58]⟩, .string ⟨#[46]⟩, .string ⟨#[61]⟩, .string ⟨#[60]⟩, .string ⟨#[60, 61]⟩, .string ⟨#[43]⟩, .string ⟨#[45]⟩, .string ⟨#[42]⟩] 9))
          have HUC := Lib.hid ((Trio.new wr 29 (.int .i64 4) (.string ⟨#[45]⟩) (.int .i64 0)).below (V := (wr.alloc (.cells #[.int .i64 4, .string ⟨#[45]⟩, .int .i64 0] 29)).alloc (.cells #[.string ⟨#[40]⟩, .string ⟨#[41]⟩, .string ⟨#[44]⟩, .string ⟨#[59]⟩, .string ⟨#[58]⟩, .string ⟨#[46]⟩, .string ⟨#[61]⟩, .string ⟨#[60]⟩, .string ⟨#[60, 61]⟩, .string ⟨#[43]⟩, .string ⟨#[45]⟩, .string ⟨#[42]⟩] 9)) ((Below.refl (wr.alloc (.cells #[.int .i64 4, .string ⟨#[45]⟩, .int .i64 0] 29)).heap.size _).alloc (Nat.le_refl _) _) (by simp))
          clear hbA
          go_upto_region 15 with fail
          obtain ⟨wC, hwC⟩ : ∃ wC, (wr.alloc (.cells #[.int .i64 4, .string ⟨#[45]⟩, .int .i64 0] 29)).alloc (.cells #[.string ⟨#[40]⟩, .string ⟨#[41]⟩, .string ⟨#[44]⟩, .string ⟨#[59]⟩, .string ⟨#[58]⟩, .string ⟨#[46]⟩, .string ⟨#[61]⟩, .string ⟨#[60]⟩, .string ⟨#[60, 61]⟩, .string ⟨#[43]⟩, .string ⟨#[45]⟩, .string ⟨#[42]⟩] 9) = wC := ⟨_, rfl⟩
          rw [hwC] at HUC HBC ⊢
          clear hwC d0 d1
          have HXC := Lib.hid (row_below HI.out.1 HBC.out)
          have HWC := Lib.hid (HI.out.2.trans (HBC.out.mono HI.out.2.size))
          generalize wr.heap.size = U at *
          have q0 := HUC.out.c0
          have q1 := HUC.out.c1
          have q2 := HUC.out.c2
          obtain ⟨v7, w7, hr7, hX7, hB7, _⟩ := append_tok (P := Try.prog) wC w.heap.size 22 22 29 29 i0 _ Try.underlying22 hi hz0 hz1 hz2 rfl u3 _ _ HXC.out ⟨4, [45], 0⟩ (by rw [madeS_len]; omega) HWC.out.size
          change (Builtin.append_ _ _ _).run Try.prog (wC.alloc (.cells #[.int .i64 4, .string ⟨#[45]⟩, .int .i64 0] 29)) = _ at hr7
          have HB7 := Lib.hid (HWC.out.trans hB7)
          have HX7 : Hid (w7.ownsRow w.heap.size 29 3 v7 (madeS bs (k + 1)).length (cellsK (madeS bs (k + 1)))) := by
            rw [HSN.out, HT.out, List.length_append]; exact hX7
          have HR7 := Lib.hid hr7
          clear hr7 hX7 hB7
          go_wp2_with (at_builtin; refine wpList_append_want (o := ⟨some 68, _, _, _, _, _⟩) _ rfl _ _ _ _ rfl _ _ rfl rfl _ _ HR7.out ?_)
          go_roundw
          case rel => exact ⟨k + 1, by have := HLT.out; omega, by go_num, HX7.out, HB7.out⟩
          case measure => simp [intOf]; omega
        · have HT := Lib.hid (HMT.out.trans (show _ = (⟨4, [42], 0⟩ : Tk) from rfl))
          clear HMT
          have hbA := (Below.refl wr.heap.size wr).alloc (Nat.le_refl _) (.cells #[.int .i64 4, .string ⟨#[42]⟩, .int .i64 0] 29)
          have HBC := Lib.hid (hbA.alloc (by simp) (.cells #[.string ⟨#[40]⟩, .string ⟨#[41]⟩, .string ⟨#[44]⟩, .string ⟨#[59]⟩, .string ⟨#[58]⟩, .string ⟨#[46]⟩, .string ⟨#[61]⟩, .string ⟨#[60]⟩, .string ⟨#[60, 61]⟩, .string ⟨#[43]⟩, .string ⟨#[45]⟩, .string ⟨#[42]⟩] 9))
          have HUC := Lib.hid ((Trio.new wr 29 (.int .i64 4) (.string ⟨#[42]⟩) (.int .i64 0)).below (V := (wr.alloc (.cells #[.int .i64 4, .string ⟨#[42]⟩, .int .i64 0] 29)).alloc (.cells #[.string ⟨#[40]⟩, .string ⟨#[41]⟩, .string ⟨#[44]⟩, .string ⟨#[59]⟩, .string ⟨#[58]⟩, .string ⟨#[46]⟩, .string ⟨#[61]⟩, .string ⟨#[60]⟩, .string ⟨#[60, 61]⟩, .string ⟨#[43]⟩, .string ⟨#[45]⟩, .string ⟨#[42]⟩] 9)) ((Below.refl (wr.alloc (.cells #[.int .i64 4, .string ⟨#[42]⟩, .int .i64 0] 29)).heap.size _).alloc (Nat.le_refl _) _) (by simp))
          clear hbA
          go_upto_region 15 with fail
          obtain ⟨wC, hwC⟩ : ∃ wC, (wr.alloc (.cells #[.int .i64 4, .string ⟨#[42]⟩, .int .i64 0] 29)).alloc (.cells #[.string ⟨#[40]⟩, .string ⟨#[41]⟩, .string ⟨#[44]⟩, .string ⟨#[59]⟩, .string ⟨#[58]⟩, .string ⟨#[46]⟩, .string ⟨#[61]⟩, .string ⟨#[60]⟩, .string ⟨#[60, 61]⟩, .string ⟨#[43]⟩, .string ⟨#[45]⟩, .string ⟨#[42]⟩] 9) = wC := ⟨_, rfl⟩
          rw [hwC] at HUC HBC ⊢
          clear hwC d0 d1
          have HXC := Lib.hid (row_below HI.out.1 HBC.out)
          have HWC := Lib.hid (HI.out.2.trans (HBC.out.mono HI.out.2.size))
          generalize wr.heap.size = U at *
          have q0 := HUC.out.c0
          have q1 := HUC.out.c1
          have q2 := HUC.out.c2
          obtain ⟨v7, w7, hr7, hX7, hB7, _⟩ := append_tok (P := Try.prog) wC w.heap.size 22 22 29 29 i0 _ Try.underlying22 hi hz0 hz1 hz2 rfl u3 _ _ HXC.out ⟨4, [42], 0⟩ (by rw [madeS_len]; omega) HWC.out.size
          change (Builtin.append_ _ _ _).run Try.prog (wC.alloc (.cells #[.int .i64 4, .string ⟨#[42]⟩, .int .i64 0] 29)) = _ at hr7
          have HB7 := Lib.hid (HWC.out.trans hB7)
          have HX7 : Hid (w7.ownsRow w.heap.size 29 3 v7 (madeS bs (k + 1)).length (cellsK (madeS bs (k + 1)))) := by
            rw [HSN.out, HT.out, List.length_append]; exact hX7
          have HR7 := Lib.hid hr7
          clear hr7 hX7 hB7
          go_wp2_with (at_builtin; refine wpList_append_want (o := ⟨some 68, _, _, _, _, _⟩) _ rfl _ _ _ _ rfl _ _ rfl rfl _ _ HR7.out ?_)
          go_roundw
          case rel => exact ⟨k + 1, by have := HLT.out; omega, by go_num, HX7.out, HB7.out⟩
          case measure => simp [intOf]; omega
    · obtain rfl : k = q := by omega
      have hml := madeS_len bs k
      have HI1 := Lib.hid HI.out.1
      rw [hml] at HI1
      have hr3 := RdK.of_row (ts := madeS bs k) (by rw [hml]; exact HI1.out) (by rw [hml]; have := HK.out; omega)
      rw [hml] at hr3
      obtain ⟨a3, c3, rfl, hr3⟩ := hr3
      have HR3 := Lib.hid hr3
      have hkb : k ≤ 30 := by have := HK.out; omega
      have HGE : Hid (2 * (k : Int) + 1 < (n : Int) → ¬ 2 * (k : Int) < 60) := fun h => by have := HK.out; omega
      clear hr3 hml
      by_cases hg : 2 * (k : Int) + 1 < (n : Int)
      · have hg2 := HGE.out hg
        go_wp2
        go_ret
        exact ⟨a3, c3, rfl, HR3.out, HI.out.2⟩
      · go_wp2
        go_ret
        exact ⟨a3, c3, rfl, HR3.out, HI.out.2⟩

end Go.Proofs.Ytpmciakmmchndaa.Lx
