/-
  Equal results, as the reference tells; the law's own wrappers.
-/
import Derived.Test.YtnhffkgbnlnliaaGreatDoorVlRef2
import Derived.Test.YtnhffkgbnlnliaaGreatDoorVlReadL
import Derived.Test.YtnhffkgbnlnliaaGreatDoorVlParsed
import Derived.Test.YtnhffkgbnlnliaaGreatDoorPkSame1
namespace Go.Proofs.YtnhffkgbnlnliaaGreatDoor
open Go Go.RowKit Go.Shelf Go.ChangeShapes Go.WideShapes Go.ChangeAt

/-- A result, as the reference's struct. -/
def encG (v : Vl) (l r : Value) (e : Int) : Value := .agg #[.int .i64 v.k, .int .i64 v.i, .string (bsOf v.s), l, r, .int .i64 e]

/-- Six cells in a block of their own. -/
def Six (W : World) (B : Nat) (t : TypeId) (a b c d e f : Value) : Prop := W.heap[B]? = some (.cells #[a, b, c, d, e, f] t (0, 0))
theorem Six.new (W : World) (t : TypeId) (a b c d e f : Value) : Six (W.alloc (.cells #[a, b, c, d, e, f] t)) W.heap.size t a b c d e f := World.alloc_heap_new W _
theorem Six.lt {W : World} {B : Nat} {t : TypeId} {a b c d e f : Value} (h : Six W B t a b c d e f) : B < W.heap.size := (Array.getElem?_eq_some_iff.1 h).1
theorem Six.below {W V : World} {B n : Nat} {t : TypeId} {a b c d e f : Value} (h : Six W B t a b c d e f) (hb : Below n W V) (hn : B < n) : Six V B t a b c d e f := (hb.block B hn).trans h
theorem Six.c3 {W : World} {B : Nat} {t : TypeId} {a b c d e f : Value} (h : Six W B t a b c d e f) : W.cell? ⟨B, 3, none⟩ = some d := by simp [World.cell?, show W.heap[B]? = _ from h]
theorem Six.c4 {W : World} {B : Nat} {t : TypeId} {a b c d e f : Value} (h : Six W B t a b c d e f) : W.cell? ⟨B, 4, none⟩ = some e := by simp [World.cell?, show W.heap[B]? = _ from h]
theorem Six.fz {W : World} {B : Nat} {t : TypeId} {a b c d e f : Value} (h : Six W B t a b c d e f) (o : Nat) : W.frozen? ⟨B, o, none⟩ = false := by simp [World.frozen?, show W.heap[B]? = _ from h]

set_option maxRecDepth 100000 in
set_option maxHeartbeats 2000000 in
theorem equalG_true {K1 K2 K3 K4 : Nat → Prop} {a1 a2 a3 a4 : Option Addr} {n1 c1 n2 c2 n3 c3 n4 c4 : Nat} {x : List Vl} {zs : List Int} {w : World} (v : Vl) (e : Int)
    (h1 : RdV K1 w a1 n1 c1 x) (h2 : Rd K2 w .u8 a2 n2 c2 zs) (h3 : RdV K3 w a3 n3 c3 x) (h4 : Rd K4 w .u8 a4 n4 c4 zs) (hx : Short x) :
    Calls Tryz.prog 21 #[encG v (.slice a1 n1 c1) (.slice a2 n2 c2) e, encG v (.slice a3 n3 c3) (.slice a4 n4 c4) e] w fun e w' => e = .returned (.bool true) ∧ Below w.heap.size w w' := by
  obtain ⟨k, i, s⟩ := v
  unfold encG
  dsimp only
  have hbA : Below w.heap.size w (w.alloc (.cells #[.int .i64 k, .int .i64 i, .string (bsOf s), .slice a1 n1 c1, .slice a2 n2 c2, .int .i64 e] 39)) := (Below.self w).alloc (Nat.le_refl _) _
  have hbB : Below w.heap.size w ((w.alloc (.cells #[.int .i64 k, .int .i64 i, .string (bsOf s), .slice a1 n1 c1, .slice a2 n2 c2, .int .i64 e] 39)).alloc (.cells #[.int .i64 k, .int .i64 i, .string (bsOf s), .slice a3 n3 c3, .slice a4 n4 c4, .int .i64 e] 39)) := hbA.alloc (by simp) _
  have HT1 : Hid (Six ((w.alloc (.cells #[.int .i64 k, .int .i64 i, .string (bsOf s), .slice a1 n1 c1, .slice a2 n2 c2, .int .i64 e] 39)).alloc (.cells #[.int .i64 k, .int .i64 i, .string (bsOf s), .slice a3 n3 c3, .slice a4 n4 c4, .int .i64 e] 39)) w.heap.size 39 (.int .i64 k) (.int .i64 i) (.string (bsOf s)) (.slice a1 n1 c1) (.slice a2 n2 c2) (.int .i64 e)) :=
    (Below.heap_alloc _ _ _ (by simp)).trans (Six.new w _ _ _ _ _ _ _)
  have hT2 := Six.new (w.alloc (.cells #[.int .i64 k, .int .i64 i, .string (bsOf s), .slice a1 n1 c1, .slice a2 n2 c2, .int .i64 e] 39)) 39 (.int .i64 k) (.int .i64 i) (.string (bsOf s)) (.slice a3 n3 c3) (.slice a4 n4 c4) (.int .i64 e)
  rw [World.size_alloc] at hT2
  have HT2 := Lib.hid hT2
  have H1 := Lib.hid (h1.below hbB)
  have H2 := Lib.hid (h2.below hbB)
  have H3 := Lib.hid (h3.below hbB)
  have H4 := Lib.hid (h4.below hbB)
  have HB := Lib.hid hbB
  have HX := Lib.hid hx
  clear hbA hbB hT2 h1 h2 h3 h4 hx
  go_enter Tryz.func21, Tryz.ntmps21
  go_wp2_with fail
  obtain ⟨S, hS⟩ : ∃ S, w.heap.size = S := ⟨_, rfl⟩
  rw [hS] at HT1 HT2 ⊢
  have HZ := Lib.hid hS
  clear hS
  generalize (w.alloc (.cells #[.int .i64 k, .int .i64 i, .string (bsOf s), .slice a1 n1 c1, .slice a2 n2 c2, .int .i64 e] 39)).alloc (.cells #[.int .i64 k, .int .i64 i, .string (bsOf s), .slice a3 n3 c3, .slice a4 n4 c4, .int .i64 e] 39) = V at *
  rw [← HZ.out]
  refine (rsame_any H1.out H3.out HX.out HX.out).mono ?_
  rintro e w1 ⟨rfl, hb⟩
  rw [sameL_self, HZ.out]
  have HB1 : Hid (Below w.heap.size w w1) := HB.out.trans (hb.mono HB.out.size)
  have HR2 := Lib.hid (H2.out.below hb)
  have HR4 := Lib.hid (H4.out.below hb)
  have p1 := (HT1.out.below hb HT1.out.lt).c4
  have p2 := (HT2.out.below hb HT2.out.lt).c4
  clear hb
  go_wp2_with fail
  refine (same_any HR2.out HR4.out).mono ?_
  rintro e w2 ⟨rfl, hb⟩
  rw [sameB_true rfl]
  have HB2 : Hid (Below w.heap.size w w2) := HB1.out.trans (hb.mono HB1.out.size)
  clear hb
  go_wp2
  go_ret
  exact ⟨rfl, HB2.out⟩

end Go.Proofs.YtnhffkgbnlnliaaGreatDoor
