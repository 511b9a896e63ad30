/-
  The frame of a list: the least element, and the width of the greatest difference.
-/
import Derived.Test.YtkfmgiacdlkmiaaPkSame
import Derived.Test.YtkfmgiacdlkmiaaShelf
import Derived.Deep.RegionWith
namespace Go.Proofs.Ytkfmgiacdlkmiaa
open Go.RowKit Go.Shelf Go.ChangeShapes Go.WideShapes Go.ChangeAt

def diffS (b n : Int) : Int := (n - b) % 18446744073709551616
theorem diff_u64 (b n : Int) : U64 (diffS b n) := by unfold diffS U64; omega
theorem diff_text (b n : Int) : IntKind.u64.wrap (IntKind.u64.wrap n - IntKind.u64.wrap b) = diffS b n := by
  rw [IntKind.wrap_u64, IntKind.wrap_u64, IntKind.wrap_u64]; unfold diffS; omega

def frameV (b : Int) (w : Int) : Value := .agg #[.int .i64 b, .int .i64 w]

theorem difference_any (b wd n : Int) (w : World) :
    Calls Try.prog 60 #[.agg #[.int .i64 b, .int .i64 wd], .int .i64 n] w fun e w' => e = .returned (.int .u64 (diffS b n)) ∧ Below w.heap.size w w' := by
  have HT := Lib.hid (diff_text b n)
  go_enter Try.func60, Try.ntmps60
  go_wp2
  go_ret
  exact ⟨ret_int HT.out, (Below.refl _ _).alloc (Nat.le_refl _) _⟩

theorem space_any (b : Int) (wd n p : Nat) (hp : n * wd = p) (hp2 : p ≤ 1152921504606846976) (w : World) :
    Calls Try.prog 44 #[.agg #[.int .i64 b, .int .i64 wd], .int .i64 n] w fun e w' => e = .returned (.int .i64 ((p + 7) / 8 : Nat)) ∧ Below w.heap.size w w' := by
  have hpi : (n : Int) * (wd : Int) = (p : Int) := by rw [← hp]; push_cast; rfl
  clear hp
  go_enter Try.func44, Try.ntmps44
  go_wp2
  go_ret
  exact ⟨ret_int (by omega), (Below.refl _ _).alloc (Nat.le_refl _) _⟩

def minS (zs : List Int) : Int := Lib.minOf zs
def maxS (zs : List Int) : Int := Lib.maxOf zs
def widthS (zs : List Int) : Nat := Lib.bitLen (diffS (minS zs) (maxS zs)).toNat

theorem min_any {K : Nat → Prop} {b off len cap : Nat} {zs : List Int} {W : World} (hR : Rd K W .i64 (some ⟨b, off, none⟩) len cap zs) (h0 : 0 < len) :
    Calls Try.prog 74 #[.slice (some ⟨b, off, none⟩) len cap] W fun e w' => e = .returned (.int .i64 (minS zs)) ∧ W = w' := by
  obtain ⟨b', off', e, _, _, hc⟩ := hR.cells h0
  cases e
  have hl := hR.hl
  refine (Try.slices_Min_int b off len cap zs W h0 (by omega) (by have := hR.small; omega) (fun j hj => by rw [List.getD_eq_getElem?_getD]; exact hc j (by omega))).mono fun e w' ⟨he, hw⟩ => ⟨?_, hw.symm⟩
  rw [he, hl, List.take_length]; rfl
theorem max_any {K : Nat → Prop} {b off len cap : Nat} {zs : List Int} {W : World} (hR : Rd K W .i64 (some ⟨b, off, none⟩) len cap zs) (h0 : 0 < len) :
    Calls Try.prog 76 #[.slice (some ⟨b, off, none⟩) len cap] W fun e w' => e = .returned (.int .i64 (maxS zs)) ∧ W = w' := by
  obtain ⟨b', off', e, _, _, hc⟩ := hR.cells h0
  cases e
  have hl := hR.hl
  refine (Try.slices_Max_int b off len cap zs W h0 (by omega) (by have := hR.small; omega) (fun j hj => by rw [List.getD_eq_getElem?_getD]; exact hc j (by omega))).mono fun e w' ⟨he, hw⟩ => ⟨?_, hw.symm⟩
  rw [he, hl, List.take_length]; rfl
theorem len64_any (u : Int) (hu : U64 u) (W : World) :
    Calls Try.prog 75 #[.int .u64 u] W fun e w' => e = .returned (.int .i64 (Lib.bitLen u.toNat : Nat)) ∧ W = w' :=
  (Try.bits_Len64 u W hu.1 (by have := hu.2; omega)).mono fun e w' ⟨he, hw⟩ => ⟨he, hw.symm⟩

theorem below_drew {B : Nat} {a w : World} (h : Below B a w) : Below B a w.drew := h.trans ⟨rfl, rfl, rfl, Nat.le_refl _, fun _ _ => rfl⟩

/-- Two structs of two integers that lie at the blocks r and r + 1, in memory made since. -/
structure Two (W V : World) (r : Nat) (a b c d : Value) : Prop where
  lo : W.heap.size ≤ r
  sz : r + 1 < V.heap.size
  c0 : V.cell? ⟨r, 0, none⟩ = some a
  c1 : V.cell? ⟨r, 1, none⟩ = some b
  d0 : V.cell? ⟨r + 1, 0, none⟩ = some c
  d1 : V.cell? ⟨r + 1, 1, none⟩ = some d
  f0 : V.frozen? ⟨r, 0, none⟩ = false
  f1 : V.frozen? ⟨r, 1, none⟩ = false
  g0 : V.frozen? ⟨r + 1, 0, none⟩ = false
  g1 : V.frozen? ⟨r + 1, 1, none⟩ = false
  bl : Below W.heap.size W V

theorem Two.later {W V U : World} {r : Nat} {a b c d : Value} (h : Two W V r a b c d) (hb : Below V.heap.size V U) : Two W U r a b c d :=
  have h0 : r < V.heap.size := Nat.lt_of_succ_lt h.sz
  ⟨h.lo, Nat.lt_of_lt_of_le h.sz hb.size, (hb.cell (p := ⟨r, 0, none⟩) h0).trans h.c0, (hb.cell (p := ⟨r, 1, none⟩) h0).trans h.c1,
    (hb.cell (p := ⟨r + 1, 0, none⟩) h.sz).trans h.d0, (hb.cell (p := ⟨r + 1, 1, none⟩) h.sz).trans h.d1,
    (hb.frozen (p := ⟨r, 0, none⟩) h0).trans h.f0, (hb.frozen (p := ⟨r, 1, none⟩) h0).trans h.f1,
    (hb.frozen (p := ⟨r + 1, 0, none⟩) h.sz).trans h.g0, (hb.frozen (p := ⟨r + 1, 1, none⟩) h.sz).trans h.g1, h.bl.trans (hb.mono h.bl.size)⟩
theorem Two.drew {W V : World} {r : Nat} {a b c d : Value} (h : Two W V r a b c d) : Two W V.drew r a b c d :=
  ⟨h.lo, h.sz, h.c0, h.c1, h.d0, h.d1, h.f0, h.f1, h.g0, h.g1, below_drew h.bl⟩
theorem Two.new (W : World) (a b c d : Value) (t : TypeId) : Two W ((W.alloc (.cells #[a, b] t)).alloc (.cells #[c, d] t)) W.heap.size a b c d :=
  ⟨Nat.le_refl _, by simp, by simp [go_sem], by simp [go_sem], by simp [go_sem], by simp [go_sem], by simp [go_sem], by simp [go_sem], by simp [go_sem], by simp [go_sem], ((Below.refl _ _).alloc (Nat.le_refl _) _).alloc (by simp) _⟩

set_option maxRecDepth 100000 in
set_option maxHeartbeats 1000000 in
theorem frameOf_any {K : Nat → Prop} {b off len cap : Nat} {zs : List Int} {W : World} (hR : Rd K W .i64 (some ⟨b, off, none⟩) len cap zs) (h0 : 0 < len) :
    Calls Try.prog 57 #[.slice (some ⟨b, off, none⟩) len cap] W fun e w' => e = .returned (.agg #[.int .i64 (minS zs), .int .i64 (widthS zs)]) ∧ Below W.heap.size W w' := by
  have hb := Below.refl W.heap.size W
  have H := Lib.hid hR
  clear hR
  generalize hm : minS zs = m
  generalize hx : maxS zs = x
  have HW : Hid (widthS zs = Lib.bitLen (diffS m x).toNat) := by show _ = _; unfold widthS; rw [hm, hx]
  have Hm := Lib.hid hm
  have Hx := Lib.hid hx
  have hd := diff_u64 m x
  clear hm hx
  go_enter Try.func57, Try.ntmps57
  go_wp2_with (go_at_call 74; ((with_reducible refine (min_any (H.out.below (hb.alloc (Nat.le_refl _) _)) h0).mono ?_); rintro e w' ⟨rfl, rfl⟩; rw [Hm.out]))
  have HR := Lib.hid ((H.out.below (hb.alloc (Nat.le_refl _) (.cells #[.int .i64 0, .int .i64 0] 72))).below ((Below.refl _ _).alloc (Nat.le_refl _) (.cells #[.int .i64 m, .int .i64 0] 72)))
  have HB : Hid (Below W.heap.size W ((W.alloc (.cells #[.int .i64 0, .int .i64 0] 72)).alloc (.cells #[.int .i64 m, .int .i64 0] 72))) := (hb.alloc (Nat.le_refl _) _).alloc (by simp) _
  have HX : Hid (∀ V : World, V.heap = ((W.alloc (.cells #[.int .i64 0, .int .i64 0] 72)).alloc (.cells #[.int .i64 m, .int .i64 0] 72)).heap → Calls Try.prog 76 #[.slice (some ⟨b, off, none⟩) len cap] V fun e w' => e = .returned (.int .i64 x) ∧ V = w') := fun V hV => by
    have hRV : Rd K V .i64 (some ⟨b, off, none⟩) len cap zs := HR.out.heap hV
    have := max_any hRV h0
    rwa [Hx.out] at this
  have HTw := Lib.hid (Two.new W (.int .i64 0) (.int .i64 0) (.int .i64 m) (.int .i64 0) 72)
  clear H hb
  go_region_with (first
    | (go_at_call 76; refine (HX.out _ (by rfl)).mono ?_; rintro e w' ⟨rfl, rfl⟩)
    | (go_at_call 60; refine (difference_any _ _ _ _).mono ?_; rintro e w1 ⟨rfl, hb1⟩; obtain ⟨_, k3, r0, r1, k0, k1, r2, r3, k5, k2, hb2⟩ := HTw.out.drew.later hb1; have HB1 := Lib.hid hb2; clear hb1 hb2; have k4 : W.heap.size < w1.heap.size := by omega)
    | (go_at_call 75; refine (len64_any _ hd _).mono ?_; rintro e w' ⟨rfl, rfl⟩))
  all_goals
    go_wp2
    exact bodyPost_ret (v := .agg #[.int .i64 m, .int .i64 (Lib.bitLen (diffS m x).toNat : Nat)]) (by simp [results, Try.results57, go_sem, r0, r1]) rfl ⟨by rw [HW.out], ((HB1.out.setCell (Nat.le_succ _) _).setCell (Nat.le_refl _) _).setCell (Nat.le_refl _) _⟩

theorem bits_any (b wd : Int) (a : Option Addr) (len cap : Nat) (w : World) :
    Calls Try.prog 43 #[.agg #[.int .i64 b, .int .i64 wd], .slice a len cap] w fun e w' =>
      e = .returned (.func (.func 59) #[] #[.pointer (some ⟨w.heap.size + 1, 0, none⟩), .pointer (some ⟨w.heap.size, 0, none⟩)]) ∧
      w' = (w.alloc (.cells #[.int .i64 b, .int .i64 wd] 72)).alloc (.cells #[.slice a len cap] 22) := by
  go_enter Try.func43, Try.ntmps43
  go_wp2
  go_ret
  exact ⟨rfl, rfl⟩

theorem bitsOf_any (a : Option Addr) (len cap : Nat) (w : World) :
    Calls Try.prog 89 #[.slice a len cap] w fun e w' =>
      e = .returned (.func (.func 91) #[] #[.pointer (some ⟨w.heap.size, 0, none⟩)]) ∧ w' = w.alloc (.cells #[.slice a len cap] 23) := by
  go_enter Try.func89, Try.ntmps89
  go_wp2
  go_ret
  exact ⟨rfl, rfl⟩

end Go.Proofs.Ytkfmgiacdlkmiaa
