/-
  Values, as the program holds them.
-/
import Derived.Test.YtocnkjnlmciojaaGreatDoorDcBase
import Derived.Test.YtocnkjnlmciojaaGreatDoorDecParse
import Derived.Lib.ConvBytes
import Derived.Lib.QuietBelow
import Derived.Test.YtocnkjnlmciojaaGreatDoorRegFacts
namespace Go.Proofs.YtocnkjnlmciojaaGreatDoor
open Go Go.RowKit Go.Shelf Go.ChangeShapes Go.WideShapes Go.ChangeAt

/-- A value. -/
structure Vl where
  k : Int
  i : Int
  s : List UInt8
theorem Vl.ext {a b : Vl} (h1 : a.k = b.k) (h2 : a.i = b.i) (h3 : a.s = b.s) : a = b := by
  cases a; cases b; simp_all
def Vl.null : Vl := ⟨0, 0, []⟩
def Vl.ofBool (b : Bool) : Vl := ⟨1, if b then 1 else 0, []⟩
def Vl.num (n : Int) : Vl := ⟨2, n, []⟩
def Vl.str (s : List UInt8) : Vl := ⟨3, 0, s⟩
def encV (v : Vl) : Value := .agg #[.int .i64 v.k, .int .i64 v.i, .string (bsOf v.s)]
/-- Its parts are integers and a string of the program's. -/
structure Vl.Ok (v : Vl) : Prop where
  k : I64 v.k
  i : I64 v.i
  s : v.s.length ≤ 1048576

/-! ### What is valid -/

def graphB (s : List UInt8) : Bool := s.all fun c => decide (32 ≤ c.toNat ∧ c.toNat ≤ 126)
def txtB (s : List UInt8) : Bool := decide (s.length ≤ 40) && graphB s
def numB (m n : Int) : Bool := decide (-m ≤ n ∧ n ≤ m)
def vldV (v : Vl) : Bool :=
  if v.k = 0 then decide (v.i = 0 ∧ v.s = []) else if v.k = 1 then decide ((v.i = 0 ∨ v.i = 1) ∧ v.s = [])
  else if v.k = 2 then decide (v.s = []) && numB 1000000000000000 v.i else if v.k = 3 then decide (v.i = 0) && txtB v.s else false
def widV (v : Vl) : Bool := vldV v || (decide (v.k = 2 ∧ v.s = []) && numB 4000000000000000000 v.i)

/-- A type. -/
structure Ty where
  k : Int
  scale : Int
  null : Bool
def encT (t : Ty) : Value := .agg #[.int .i64 t.k, .int .i64 t.scale, .bool t.null]
structure Ty.Ok (t : Ty) : Prop where
  k : I64 t.k
  scale : I64 t.scale
def vldT (t : Ty) : Bool := if t.k = 1 ∨ t.k = 3 then decide (t.scale = 0) else if t.k = 2 then decide (0 ≤ t.scale ∧ t.scale ≤ 6) else false
def hasV (t : Ty) (v : Vl) : Bool := vldT t && vldV v && (if v.k = 0 then t.null else if v.k = 2 then decide (t.k = 2) && De.fitsB v.i t.scale else decide (t.k = v.k))

/-! ### Three cells in a block of their own -/

def Trio (W : World) (B : Nat) (t : TypeId) (a b c : Value) : Prop := W.heap[B]? = some (.cells #[a, b, c] t (0, 0))
theorem Trio.new (W : World) (t : TypeId) (a b c : Value) : Trio (W.alloc (.cells #[a, b, c] t)) W.heap.size t a b c := World.alloc_heap_new W _
theorem Trio.lt {W : World} {B : Nat} {t : TypeId} {a b c : Value} (h : Trio W B t a b c) : B < W.heap.size := (Array.getElem?_eq_some_iff.1 h).1
theorem Trio.c0 {W : World} {B : Nat} {t : TypeId} {a b c : Value} (h : Trio W B t a b c) : W.cell? ⟨B, 0, none⟩ = some a := by simp [World.cell?, show W.heap[B]? = _ from h]
theorem Trio.c1 {W : World} {B : Nat} {t : TypeId} {a b c : Value} (h : Trio W B t a b c) : W.cell? ⟨B, 1, none⟩ = some b := by simp [World.cell?, show W.heap[B]? = _ from h]
theorem Trio.c2 {W : World} {B : Nat} {t : TypeId} {a b c : Value} (h : Trio W B t a b c) : W.cell? ⟨B, 2, none⟩ = some c := by simp [World.cell?, show W.heap[B]? = _ from h]
theorem Trio.f {W : World} {B : Nat} {t : TypeId} {a b c : Value} (h : Trio W B t a b c) (o : Nat) : W.frozen? ⟨B, o, none⟩ = false := by simp [World.frozen?, show W.heap[B]? = _ from h]
theorem Trio.below {W V : World} {B n : Nat} {t : TypeId} {a b c : Value} (h : Trio W B t a b c) (hb : Below n W V) (hn : B < n) : Trio V B t a b c := (hb.block B hn).trans h

/-! ### A string's bytes, in memory -/

theorem strI_len' (s : List UInt8) : (strI s).length = s.length := by unfold strI; simp
theorem strI_at (s : List UInt8) (j : Nat) (hj : j < s.length) : (strI s)[j]?.getD 0 = ((s[j]?.getD 0).toNat : Int) := by
  unfold strI; simp [List.getElem?_eq_getElem hj]

theorem conv_str (s : List UInt8) (hs : s.length ≤ 1048576) (w : World) : ∃ V cap, (convert 9 42 (.string (bsOf s))).run Tryz.prog w = .ok (.slice (some ⟨w.heap.size, 0, none⟩) s.length cap) V ∧ s.length ≤ cap ∧ cap ≤ 9223372036854775807 ∧
    Below w.heap.size w V ∧ V.heap.size = w.heap.size + 1 ∧ ∀ j, j < s.length → V.cell? ⟨w.heap.size, j, none⟩ = some (.int .u8 ((s[j]?.getD 0).toNat : Int)) := by
  have h1 := Lib.run_convert_string_bytes (P := Tryz.prog) w 9 42 5 (bsOf s) Tryz.underlying9 Tryz.underlying42 Tryz.underlying5
  rw [bs_size] at h1
  refine ⟨_, _, h1, grownCap_ge w s.length 0 5, ?_, ?_, Lib.bytesWorld_size w 5 (bsOf s), fun j hj => ?_⟩
  · have := grownCap_le_maxLen w s.length 0 5 (by unfold maxLen; omega)
    unfold maxLen at this; omega
  · exact ⟨rfl, rfl, rfl, by rw [Lib.bytesWorld_size]; omega, fun k hk => Lib.bytesWorld_at_old w 5 (bsOf s) k hk⟩
  · have := Lib.bytesWorld_cell w 5 (bsOf s) j (by rw [bs_size]; exact hj)
    rw [this, bs_data, List.getD_eq_getElem?_getD]

end Go.Proofs.YtocnkjnlmciojaaGreatDoor
