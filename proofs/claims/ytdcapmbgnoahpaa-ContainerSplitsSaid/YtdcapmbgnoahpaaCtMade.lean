/-
  A file that is made of a raw one.
-/
import Derived.Test.YtdcapmbgnoahpaaCtSame
namespace Go.Proofs.Ytdcapmbgnoahpaa
open Go Go.RowKit Go.Shelf Go.ChangeShapes Go.WideShapes Go.ChangeAt

def RawB (W : World) (B : Nat) (k : Int) (s1 s2 : Value) : Prop := W.heap[B]? = some (.cells #[.int .u8 k, s1, s2] 54 (0, 0))
theorem RawB.cell {W : World} {B : Nat} {k : Int} {s1 s2 : Value} (h : RawB W B k s1 s2) : W.cell? ⟨B, 0, none⟩ = some (.int .u8 k) ∧ W.cell? ⟨B, 1, none⟩ = some s1 ∧ W.cell? ⟨B, 2, none⟩ = some s2 := by
  have h : W.heap[B]? = _ := h
  simp [World.cell?, h]
theorem RawB.new (W : World) (k : Int) (s1 s2 : Value) : RawB (W.alloc (.cells #[.int .u8 k, s1, s2] 54)) W.heap.size k s1 s2 := World.alloc_heap_new W _
theorem RawB.lt {W : World} {B : Nat} {k : Int} {s1 s2 : Value} (h : RawB W B k s1 s2) : B < W.heap.size := (Array.getElem?_eq_some_iff.1 h).1
theorem RawB.below {W V : World} {B n : Nat} {k : Int} {s1 s2 : Value} (h : RawB W B k s1 s2) (hb : Below n W V) (hn : B < n) : RawB V B k s1 s2 := (hb.block B hn).trans h

set_option maxRecDepth 100000 in
set_option maxHeartbeats 2000000 in
theorem made_any {k : Nat} (hk : k < 256) {a1 a2 : Option Addr} {n1 c1 n2 c2 : Nat} (h1 : n1 ≤ c1) (h2 : n2 ≤ c2) (hs1 : n1 ≤ 9223372036854775807) (hs2 : n2 ≤ 9223372036854775807) (w : World) :
    Calls Try.prog 30 #[.agg #[.int .u8 (k : Int), .slice a1 n1 c1, .slice a2 n2 c2]] w fun e V => e = .returned (.agg #[.int .i64 ((1 + k % 9 : Nat) : Int), .slice a1 (min n1 40) c1, .slice a2 (min n2 200) c2]) ∧ Below w.heap.size w V := by
  have hb1 : Below w.heap.size w (w.alloc (.cells #[.int .u8 (k : Int), .slice a1 n1 c1, .slice a2 n2 c2] 54)) := (Below.refl _ _).alloc (Nat.le_refl _) _
  have hr1 := RawB.new w (k : Int) (.slice a1 n1 c1) (.slice a2 n2 c2)
  have hs : (w.alloc (.cells #[.int .u8 (k : Int), .slice a1 n1 c1, .slice a2 n2 c2] 54)).heap.size = w.heap.size + 1 := World.size_alloc ..
  have hb2 := hb1.alloc hb1.size (.cells #[.int .i64 0, .slice none 0 0, .slice none 0 0] 52)
  have hf2 := FileB.new (w.alloc (.cells #[.int .u8 (k : Int), .slice a1 n1 c1, .slice a2 n2 c2] 54)) 0 (.slice none 0 0) (.slice none 0 0)
  have hr2 := hr1.below ((Below.refl (w.alloc (.cells #[.int .u8 (k : Int), .slice a1 n1 c1, .slice a2 n2 c2] 54)).heap.size _).alloc (Nat.le_refl _) (.cells #[.int .i64 0, .slice none 0 0, .slice none 0 0] 52)) hr1.lt
  rw [hs] at hf2
  have hmod : (k : Int).tmod 9 = ((k % 9 : Nat) : Int) := by rw [Int.tmod_eq_emod_of_nonneg (by omega)]; omega
  have hw1 : IntKind.u8.wrap ((k % 9 : Nat) : Int) = ((k % 9 : Nat) : Int) := by rw [IntKind.wrap_u8]; omega
  have hw2 : IntKind.i64.wrap ((k % 9 : Nat) : Int) = ((k % 9 : Nat) : Int) := by rw [IntKind.wrap_i64]; omega
  have hm1 : min n1 40 ≤ c1 := by omega
  have hm2 : min n2 200 ≤ c2 := by omega
  have HBX := Lib.hid hb2
  have HF := Lib.hid hf2
  have HR := Lib.hid hr2
  clear hb1 hr1 hs hb2 hf2 hr2
  go_enter Try.func30, Try.ntmps30
  go_upto_region 1 with fail
  generalize ((w.alloc (.cells #[.int .u8 (k : Int), .slice a1 n1 c1, .slice a2 n2 c2] 54)).alloc (.cells #[.int .i64 0, .slice none 0 0, .slice none 0 0] 52)) = V at *
  obtain ⟨r0, r1, r2⟩ := HR.out.cell
  have rlt := HR.out.lt
  have f0 := HF.out.c0
  have f1 := HF.out.c1
  have f2 := HF.out.c2
  have ff0 := HF.out.f 0
  have ff1 := HF.out.f 1
  have ff2 := HF.out.f 2
  have flt := HF.out.lt
  go_region
  have hX : FileB (((V.setCell ⟨w.heap.size + 1, 0, none⟩ (.int .i64 (1 + (k : Int) % 9))).setCell ⟨w.heap.size + 1, 1, none⟩ (.slice a1 (min (n1 : Int) 40).toNat c1)).setCell ⟨w.heap.size + 1, 2, none⟩ (.slice a2 (min (n2 : Int) 200).toNat c2)).drew (w.heap.size + 1) (1 + (k : Int) % 9) (.slice a1 (min (n1 : Int) 40).toNat c1) (.slice a2 (min (n2 : Int) 200).toNat c2) :=
    HF.out.stored (k' := 1 + (k : Int) % 9) (s1' := .slice a1 (min (n1 : Int) 40).toNat c1) (s2' := .slice a2 (min (n2 : Int) 200).toNat c2)
  have HB : Hid (Below w.heap.size w (((V.setCell ⟨w.heap.size + 1, 0, none⟩ (.int .i64 (1 + (k : Int) % 9))).setCell ⟨w.heap.size + 1, 1, none⟩ (.slice a1 (min (n1 : Int) 40).toNat c1)).setCell ⟨w.heap.size + 1, 2, none⟩ (.slice a2 (min (n2 : Int) 200).toNat c2)).drew) :=
    (((HBX.out.setCell (Nat.le_succ _) _).setCell (Nat.le_succ _) _).setCell (Nat.le_succ _) _).drew
  have e0 : 1 + (k : Int) % 9 = ((1 + k % 9 : Nat) : Int) := by omega
  have e1 : (min (n1 : Int) 40).toNat = min n1 40 := by omega
  have e2 : (min (n2 : Int) 200).toNat = min n2 200 := by omega
  have g0 := hX.c0
  have g1 := hX.c1
  have g2 := hX.c2
  clear hX f0 f1 f2 ff0 ff1 ff2 flt r0 r1 r2 rlt HF HR HBX
  generalize (((V.setCell ⟨w.heap.size + 1, 0, none⟩ (.int .i64 (1 + (k : Int) % 9))).setCell ⟨w.heap.size + 1, 1, none⟩ (.slice a1 (min (n1 : Int) 40).toNat c1)).setCell ⟨w.heap.size + 1, 2, none⟩ (.slice a2 (min (n2 : Int) 200).toNat c2)).drew = X at *
  rw [e0, e1, e2] at *
  go_wp2
  exact bodyPost_ret (v := .agg #[.int .i64 ((1 + k % 9 : Nat) : Int), .slice a1 (min n1 40) c1, .slice a2 (min n2 200) c2]) (by simp only [results, Try.results30]; simp [go_sem, g0, g1, g2]) rfl ⟨rfl, HB.out⟩

end Go.Proofs.Ytdcapmbgnoahpaa
