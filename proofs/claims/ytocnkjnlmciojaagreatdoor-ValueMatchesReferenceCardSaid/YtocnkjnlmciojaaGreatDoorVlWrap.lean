/-
  The law's own wrappers; the reference's values.
-/
import Derived.Test.YtocnkjnlmciojaaGreatDoorVlRef2
import Derived.Test.YtocnkjnlmciojaaGreatDoorVlReadL
import Derived.Test.YtocnkjnlmciojaaGreatDoorVlParsed
import Derived.Test.YtocnkjnlmciojaaGreatDoorPkSame1
namespace Go.Proofs.YtocnkjnlmciojaaGreatDoor
open Go Go.RowKit Go.Shelf Go.ChangeShapes Go.WideShapes Go.ChangeAt

/-- A result, as the reference's struct. -/
def encG (v : Vl) (l r : Value) (e : Int) : Value := .agg #[.int .i64 v.k, .int .i64 v.i, .string (bsOf v.s), l, r, .int .i64 e]

/-- Six cells in a block of their own. -/
def Six (W : World) (B : Nat) (t : TypeId) (a b c d e f : Value) : Prop := W.heap[B]? = some (.cells #[a, b, c, d, e, f] t (0, 0))
theorem Six.new (W : World) (t : TypeId) (a b c d e f : Value) : Six (W.alloc (.cells #[a, b, c, d, e, f] t)) W.heap.size t a b c d e f := World.alloc_heap_new W _
theorem Six.lt {W : World} {B : Nat} {t : TypeId} {a b c d e f : Value} (h : Six W B t a b c d e f) : B < W.heap.size := (Array.getElem?_eq_some_iff.1 h).1
theorem Six.below {W V : World} {B n : Nat} {t : TypeId} {a b c d e f : Value} (h : Six W B t a b c d e f) (hb : Below n W V) (hn : B < n) : Six V B t a b c d e f := (hb.block B hn).trans h
theorem Six.c3 {W : World} {B : Nat} {t : TypeId} {a b c d e f : Value} (h : Six W B t a b c d e f) : W.cell? ⟨B, 3, none⟩ = some d := by simp [World.cell?, show W.heap[B]? = _ from h]
theorem Six.c4 {W : World} {B : Nat} {t : TypeId} {a b c d e f : Value} (h : Six W B t a b c d e f) : W.cell? ⟨B, 4, none⟩ = some e := by simp [World.cell?, show W.heap[B]? = _ from h]
theorem Six.fz {W : World} {B : Nat} {t : TypeId} {a b c d e f : Value} (h : Six W B t a b c d e f) (o : Nat) : W.frozen? ⟨B, o, none⟩ = false := by simp [World.frozen?, show W.heap[B]? = _ from h]

set_option maxRecDepth 100000 in
set_option maxHeartbeats 2000000 in
theorem equalG_true {K1 K2 K3 K4 : Nat → Prop} {a1 a2 a3 a4 : Option Addr} {n1 c1 n2 c2 n3 c3 n4 c4 : Nat} {x : List Vl} {zs : List Int} {w : World} (v : Vl) (e : Int)
    (h1 : RdV K1 w a1 n1 c1 x) (h2 : Rd K2 w .u8 a2 n2 c2 zs) (h3 : RdV K3 w a3 n3 c3 x) (h4 : Rd K4 w .u8 a4 n4 c4 zs) (hx : Short x) :
    Calls Tryz.prog 43 #[encG v (.slice a1 n1 c1) (.slice a2 n2 c2) e, encG v (.slice a3 n3 c3) (.slice a4 n4 c4) e] w fun e w' => e = .returned (.bool true) ∧ Below w.heap.size w w' := by
  obtain ⟨k, i, s⟩ := v
  unfold encG
  dsimp only
  have hbA : Below w.heap.size w (w.alloc (.cells #[.int .i64 k, .int .i64 i, .string (bsOf s), .slice a1 n1 c1, .slice a2 n2 c2, .int .i64 e] 54)) := (Below.self w).alloc (Nat.le_refl _) _
  have hbB : Below w.heap.size w ((w.alloc (.cells #[.int .i64 k, .int .i64 i, .string (bsOf s), .slice a1 n1 c1, .slice a2 n2 c2, .int .i64 e] 54)).alloc (.cells #[.int .i64 k, .int .i64 i, .string (bsOf s), .slice a3 n3 c3, .slice a4 n4 c4, .int .i64 e] 54)) := hbA.alloc (by simp) _
  have HT1 : Hid (Six ((w.alloc (.cells #[.int .i64 k, .int .i64 i, .string (bsOf s), .slice a1 n1 c1, .slice a2 n2 c2, .int .i64 e] 54)).alloc (.cells #[.int .i64 k, .int .i64 i, .string (bsOf s), .slice a3 n3 c3, .slice a4 n4 c4, .int .i64 e] 54)) w.heap.size 54 (.int .i64 k) (.int .i64 i) (.string (bsOf s)) (.slice a1 n1 c1) (.slice a2 n2 c2) (.int .i64 e)) :=
    (Below.heap_alloc _ _ _ (by simp)).trans (Six.new w _ _ _ _ _ _ _)
  have hT2 := Six.new (w.alloc (.cells #[.int .i64 k, .int .i64 i, .string (bsOf s), .slice a1 n1 c1, .slice a2 n2 c2, .int .i64 e] 54)) 54 (.int .i64 k) (.int .i64 i) (.string (bsOf s)) (.slice a3 n3 c3) (.slice a4 n4 c4) (.int .i64 e)
  rw [World.size_alloc] at hT2
  have HT2 := Lib.hid hT2
  have H1 := Lib.hid (h1.below hbB)
  have H2 := Lib.hid (h2.below hbB)
  have H3 := Lib.hid (h3.below hbB)
  have H4 := Lib.hid (h4.below hbB)
  have HB := Lib.hid hbB
  have HX := Lib.hid hx
  clear hbA hbB hT2 h1 h2 h3 h4 hx
  go_enter Tryz.func43, Tryz.ntmps43
  go_wp2_with fail
  obtain ⟨S, hS⟩ : ∃ S, w.heap.size = S := ⟨_, rfl⟩
  rw [hS] at HT1 HT2 ⊢
  have HZ := Lib.hid hS
  clear hS
  generalize (w.alloc (.cells #[.int .i64 k, .int .i64 i, .string (bsOf s), .slice a1 n1 c1, .slice a2 n2 c2, .int .i64 e] 54)).alloc (.cells #[.int .i64 k, .int .i64 i, .string (bsOf s), .slice a3 n3 c3, .slice a4 n4 c4, .int .i64 e] 54) = V at *
  rw [← HZ.out]
  refine (rsame_any H1.out H3.out HX.out HX.out).mono ?_
  rintro e w1 ⟨rfl, hb⟩
  rw [sameL_self, HZ.out]
  have HB1 : Hid (Below w.heap.size w w1) := HB.out.trans (hb.mono HB.out.size)
  have HR2 := Lib.hid (H2.out.below hb)
  have HR4 := Lib.hid (H4.out.below hb)
  have p1 := (HT1.out.below hb HT1.out.lt).c4
  have p2 := (HT2.out.below hb HT2.out.lt).c4
  clear hb
  go_wp2_with fail
  refine (same_any HR2.out HR4.out).mono ?_
  rintro e w2 ⟨rfl, hb⟩
  rw [sameB_true rfl]
  have HB2 : Hid (Below w.heap.size w w2) := HB1.out.trans (hb.mono HB1.out.size)
  clear hb
  go_wp2
  go_ret
  exact ⟨rfl, HB2.out⟩

end Go.Proofs.YtocnkjnlmciojaaGreatDoor

namespace Go.Proofs.YtocnkjnlmciojaaGreatDoor
open Go Go.RowKit Go.Shelf Go.ChangeShapes Go.WideShapes Go.ChangeAt

theorem Six.c0 {W : World} {B : Nat} {t : TypeId} {a b c d e f : Value} (h : Six W B t a b c d e f) : W.cell? ⟨B, 0, none⟩ = some a := by simp [World.cell?, show W.heap[B]? = _ from h]
theorem Six.c1 {W : World} {B : Nat} {t : TypeId} {a b c d e f : Value} (h : Six W B t a b c d e f) : W.cell? ⟨B, 1, none⟩ = some b := by simp [World.cell?, show W.heap[B]? = _ from h]
theorem Six.c2 {W : World} {B : Nat} {t : TypeId} {a b c d e f : Value} (h : Six W B t a b c d e f) : W.cell? ⟨B, 2, none⟩ = some c := by simp [World.cell?, show W.heap[B]? = _ from h]
theorem Six.c5 {W : World} {B : Nat} {t : TypeId} {a b c d e f : Value} (h : Six W B t a b c d e f) : W.cell? ⟨B, 5, none⟩ = some f := by simp [World.cell?, show W.heap[B]? = _ from h]
theorem below_put6 {W w : World} {B : Nat} (h : Below w.heap.size w W) (hB : w.heap.size ≤ B) (a b c d e f : Value) : Below w.heap.size w ((((((W.setCell ⟨B, 0, none⟩ a).setCell ⟨B, 1, none⟩ b).setCell ⟨B, 2, none⟩ c).setCell ⟨B, 3, none⟩ d).setCell ⟨B, 4, none⟩ e).setCell ⟨B, 5, none⟩ f) :=
  (((((h.setCell hB a).setCell hB b).setCell hB c).setCell hB d).setCell hB e).setCell hB f
theorem Rd.set1 {K : Nat → Prop} {W : World} {k : IntKind} {a : Option Addr} {len cap : Nat} {zs : List Int} {B i : Nat} (h : Rd K W k a len cap zs) (hK : ∀ b, K b → b ≠ B) (x : Value) : Rd K (W.setCell ⟨B, i, none⟩ x) k a len cap zs := by
  refine ⟨h.hl, h.fit, h.top, h.small, fun h0 => ?_⟩
  obtain ⟨b, off, e, hk, hlt, hc⟩ := h.cells h0
  refine ⟨b, off, e, hk, by simpa using hlt, fun j hj => ?_⟩
  have hne := hK b hk
  refine (World.cell?_of_block (w := W) ?_).trans (hc j hj)
  simp [World.setCell, Array.getElem?_modify, Ne.symm hne]
theorem RdV.set1 {K : Nat → Prop} {W : World} {a : Option Addr} {len cap : Nat} {vs : List Vl} {B i : Nat} (h : RdV K W a len cap vs) (hK : ∀ b, K b → b ≠ B) (x : Value) : RdV K (W.setCell ⟨B, i, none⟩ x) a len cap vs := by
  refine ⟨h.hl, h.fit, h.top, h.small, fun h0 => ?_⟩
  obtain ⟨b, off, e, hk, hlt, hc⟩ := h.cells h0
  have hne := hK b hk
  have hb : (W.setCell ⟨B, i, none⟩ x).heap[b]? = W.heap[b]? := by simp [World.setCell, Array.getElem?_modify, Ne.symm hne]
  exact ⟨b, off, e, hk, by simpa using hlt, fun j hj => ⟨(World.cell?_of_block (w := W) hb).trans (hc j hj).1, (World.cell?_of_block (w := W) hb).trans (hc j hj).2.1, (World.cell?_of_block (w := W) hb).trans (hc j hj).2.2⟩⟩

set_option maxRecDepth 100000 in
set_option maxHeartbeats 2000000 in
theorem parsedW_any (s : List UInt8) (hs : s.length ≤ 1048576) (w : World) (hV : De.Vars w) : Calls Tryz.prog 44 #[.string (bsOf s)] w fun e w' => e = .returned (encG (parsedV s).1 (.slice none 0 0) (.slice none 0 0) (parsedV s).2) ∧ Below w.heap.size w w' := by
  have hb0 : Below w.heap.size w (w.alloc (.cells #[.int .i64 0, .int .i64 0, .string ⟨#[]⟩, .slice none 0 0, .slice none 0 0, .int .i64 0] 54)) := (Below.self w).alloc (Nat.le_refl _) _
  have HT := Lib.hid (Six.new w 54 (.int .i64 0) (.int .i64 0) (.string ⟨#[]⟩) (.slice none 0 0) (.slice none 0 0) (.int .i64 0))
  have HP := Lib.hid (parse_any s hs _ (hV.below hb0))
  have HB0 := Lib.hid hb0
  clear hb0 hV
  generalize parsedV s = res at *
  obtain ⟨⟨k, i, t⟩, x⟩ := res
  unfold encV at HP
  unfold encG
  dsimp only at HP ⊢
  go_enter Tryz.func44, Tryz.ntmps44
  go_wp2_with fail
  refine HP.out.mono ?_
  rintro e w1 ⟨rfl, hb⟩
  have hB1 := HB0.out.trans (hb.mono HB0.out.size)
  have hT1 := HT.out.below hb HT.out.lt
  have hbA : Below w1.heap.size w1 (w1.alloc (.cells #[.int .i64 k, .int .i64 i, .string (bsOf t)] 45)) := (Below.self w1).alloc (Nat.le_refl _) _
  have hN := Trio.new w1 45 (.int .i64 k) (.int .i64 i) (.string (bsOf t))
  have HB2 : Hid (Below w.heap.size w (w1.alloc (.cells #[.int .i64 k, .int .i64 i, .string (bsOf t)] 45))) := hB1.trans (hbA.mono hB1.size)
  have hT2 := hT1.below hbA hT1.lt
  have c0 := hT2.c0
  have c1 := hT2.c1
  have c2 := hT2.c2
  have c3 := hT2.c3
  have c4 := hT2.c4
  have c5 := hT2.c5
  have f0 := hT2.fz 0
  have f1 := hT2.fz 1
  have f2 := hT2.fz 2
  have f3 := hT2.fz 3
  have f4 := hT2.fz 4
  have f5 := hT2.fz 5
  have plt := hT2.lt
  obtain ⟨B, hB⟩ : ∃ B, w1.heap.size = B := ⟨_, rfl⟩
  rw [hB] at hN
  have d0 := hN.c0
  have d1 := hN.c1
  have d2 := hN.c2
  clear hb hB1 hT1 hbA hN hT2 HB0 HT HP
  go_upto_region 2 with fail
  clear hB
  generalize w1.alloc (.cells #[.int .i64 k, .int .i64 i, .string (bsOf t)] 45) = V at *
  go_wp2
  exact bodyPost_ret (v := .agg #[.int .i64 k, .int .i64 i, .string (bsOf t), .slice none 0 0, .slice none 0 0, .int .i64 x]) (by simp [results, Tryz.results44, go_sem, c0, c1, c2, c3, c4, c5]) rfl ⟨rfl, below_put6 HB2.out (Nat.le_refl _) _ _ _ _ _ _⟩

/-- What reading a list gives the law. -/
def ReadLW (K : Nat → Prop) (q : List Vl × List Int × Int) (W : World) (e : Ending) (W' : World) : Prop :=
  Below W.heap.size W W' ∧ ((q.2.2 = 0 ∧ ∃ a1 n1 c1 a2 m, e = .returned (encG Vl.null (.slice a1 n1 c1) (.slice a2 m m) 0) ∧ RdV (fun b => W.heap.size < b) W' a1 n1 c1 q.1 ∧ Rd K W' .u8 a2 m m q.2.1) ∨
    (q.2.2 ≠ 0 ∧ e = .returned (encG Vl.null (.slice none 0 0) (.slice none 0 0) q.2.2)))

set_option maxRecDepth 100000 in
set_option maxHeartbeats 2000000 in
theorem readListW_any {K : Nat → Prop} {a : Option Addr} {len cap : Nat} {bs : List Int} (ho : Oct bs) {w : World} (hR : Rd K w .u8 a len cap bs) (hK : ∀ b, K b → b < w.heap.size) :
    Calls Tryz.prog 54 #[.slice a len cap] w (ReadLW K (rdL bs) w) := by
  have hb0 : Below w.heap.size w (w.alloc (.cells #[.int .i64 0, .int .i64 0, .string ⟨#[]⟩, .slice none 0 0, .slice none 0 0, .int .i64 0] 54)) := (Below.self w).alloc (Nat.le_refl _) _
  have HT := Lib.hid (Six.new w 54 (.int .i64 0) (.int .i64 0) (.string ⟨#[]⟩) (.slice none 0 0) (.slice none 0 0) (.int .i64 0))
  have HP := Lib.hid (readList_any ho (hR.below hb0) (fun b hb => Nat.lt_of_lt_of_le (hK b hb) hb0.size))
  have HB0 := Lib.hid hb0
  have HK := Lib.hid hK
  clear hb0 hR hK
  generalize rdL bs = q at *
  obtain ⟨vs, rest, x⟩ := q
  go_enter Tryz.func54, Tryz.ntmps54
  go_wp2_with fail
  refine HP.out.mono ?_
  rintro e w1 ⟨hb, hp⟩
  have HB1 : Hid (Below w.heap.size w w1) := HB0.out.trans (hb.mono HB0.out.size)
  have hT2 := HT.out.below hb HT.out.lt
  have c0 := hT2.c0
  have c1 := hT2.c1
  have c2 := hT2.c2
  have c3 := hT2.c3
  have c4 := hT2.c4
  have c5 := hT2.c5
  have f0 := hT2.fz 0
  have f1 := hT2.fz 1
  have f2 := hT2.fz 2
  have f3 := hT2.fz 3
  have f4 := hT2.fz 4
  have f5 := hT2.fz 5
  have plt : w.heap.size < w1.heap.size := hT2.lt
  clear hb hT2 HB0 HT HP
  rcases hp with ⟨hz, a1, n1, c1', a2, m, rfl, hr1, hr2⟩ | ⟨hz, rfl⟩
  · obtain rfl : x = 0 := hz
    have HR1 : Hid (RdV (fun b => w.heap.size < b) w1 a1 n1 c1' vs) := hr1.mono fun b _ h => by simp at h; omega
    have HR2 := Lib.hid hr2
    clear hr1 hr2
    go_wp2
    refine bodyPost_ret (v := .agg #[.int .i64 0, .int .i64 0, .string ⟨#[]⟩, .slice a1 n1 c1', .slice a2 m m, .int .i64 0]) (by simp [results, Tryz.results54, go_sem, c0, c1, c2, c3, c4, c5]) rfl ⟨below_put6 HB1.out (Nat.le_refl _) _ _ _ _ _ _, .inl ⟨rfl, a1, n1, c1', a2, m, rfl, ?_, ?_⟩⟩
    · have k1 : ∀ b, w.heap.size < b → b ≠ w.heap.size := fun b hb e => by omega
      exact (((((HR1.out.set1 k1 _).set1 k1 _).set1 k1 _).set1 k1 _).set1 k1 _).set1 k1 _
    · have k1 : ∀ b, K b → b ≠ w.heap.size := fun b hb e => by have := HK.out b hb; omega
      exact (((((HR2.out.set1 k1 _).set1 k1 _).set1 k1 _).set1 k1 _).set1 k1 _).set1 k1 _
  · have HZ := Lib.hid hz
    clear hz
    go_wp2
    exact bodyPost_ret (v := .agg #[.int .i64 0, .int .i64 0, .string ⟨#[]⟩, .slice none 0 0, .slice none 0 0, .int .i64 x]) (by simp [results, Tryz.results54, go_sem, c0, c1, c2, c3, c4, c5]) rfl ⟨below_put6 HB1.out (Nat.le_refl _) _ _ _ _ _ _, .inr ⟨HZ.out, rfl⟩⟩

/-! ### The reference's values -/

theorem rNum_any (n : Int) (w : World) : Calls Tryz.prog 80 #[.int .i64 n] w fun e w' => e = .returned (encV ⟨2, n, []⟩) ∧ Below w.heap.size w w' := by
  go_enter Tryz.func80, Tryz.ntmps80
  go_wp2
  exact bodyPost_ret (v := .agg #[.int .i64 2, .int .i64 n, .string ⟨#[]⟩]) (by simp [results, Tryz.results80, go_sem]) rfl ⟨rfl, (Below.refl _ _).alloc (Nat.le_refl _) _⟩
theorem rStr_any (s : ByteArray) (w : World) : Calls Tryz.prog 81 #[.string s] w fun e w' => e = .returned (.agg #[.int .i64 3, .int .i64 0, .string s]) ∧ Below w.heap.size w w' := by
  go_enter Tryz.func81, Tryz.ntmps81
  go_wp2
  exact bodyPost_ret (v := .agg #[.int .i64 3, .int .i64 0, .string s]) (by simp [results, Tryz.results81, go_sem]) rfl ⟨rfl, (Below.refl _ _).alloc (Nat.le_refl _) _⟩
theorem rNull_any (w : World) : Calls Tryz.prog 82 #[] w fun e w' => e = .returned (encV Vl.null) ∧ Below w.heap.size w w' := by
  go_enter Tryz.func82, Tryz.ntmps82
  go_wp2
  exact bodyPost_ret (v := .agg #[.int .i64 0, .int .i64 0, .string ⟨#[]⟩]) (by simp [results, Tryz.results82, go_sem]) rfl ⟨rfl, (Below.refl _ _).alloc (Nat.le_refl _) _⟩
theorem rBool_any (b : Bool) (w : World) : Calls Tryz.prog 83 #[.bool b] w fun e w' => e = .returned (encV (Vl.ofBool b)) ∧ Below w.heap.size w w' := by
  cases b with
  | true =>
    go_enter Tryz.func83, Tryz.ntmps83
    go_wp2
    exact bodyPost_ret (v := .agg #[.int .i64 1, .int .i64 1, .string ⟨#[]⟩]) (by simp [results, Tryz.results83, go_sem]) rfl ⟨rfl, (Below.refl _ _).alloc (Nat.le_refl _) _⟩
  | false =>
    go_enter Tryz.func83, Tryz.ntmps83
    go_wp2
    exact bodyPost_ret (v := .agg #[.int .i64 1, .int .i64 0, .string ⟨#[]⟩]) (by simp [results, Tryz.results83, go_sem]) rfl ⟨rfl, (Below.refl _ _).alloc (Nat.le_refl _) _⟩
theorem rWhole_one (w : World) : Calls Tryz.prog 84 #[.int .i64 1] w fun e w' => e = .returned (encV ⟨2, 1000000, []⟩) ∧ Below w.heap.size w w' := by
  have HT := Lib.hid (Trio.new w 45 (.int .i64 0) (.int .i64 0) (.string ⟨#[]⟩))
  have HB0 : Hid (Below w.heap.size w (w.alloc (.cells #[.int .i64 0, .int .i64 0, .string ⟨#[]⟩] 45))) := (Below.self w).alloc (Nat.le_refl _) _
  have HN : Hid (∀ (n : Int) (W : World), Calls Tryz.prog 80 #[.int .i64 n] W fun e w' => e = .returned (.agg #[.int .i64 2, .int .i64 n, .string ⟨#[]⟩]) ∧ Below W.heap.size W w') := fun n W => rNum_any n W
  go_enter Tryz.func84, Tryz.ntmps84
  go_wp2_with fail
  refine (HN.out _ _).mono ?_
  rintro e w1 ⟨rfl, hb⟩
  have HB1 : Hid (Below w.heap.size w w1) := HB0.out.trans (hb.mono HB0.out.size)
  have hT2 := HT.out.below hb HT.out.lt
  have c0 := hT2.c0
  have c1 := hT2.c1
  have c2 := hT2.c2
  have f0 := hT2.f 0
  have f1 := hT2.f 1
  have f2 := hT2.f 2
  have plt : w.heap.size < w1.heap.size := hT2.lt
  clear hb hT2 HB0 HT
  go_wp2
  exact bodyPost_ret (v := .agg #[.int .i64 2, .int .i64 1000000, .string ⟨#[]⟩]) (by simp [results, Tryz.results84, go_sem, c0, c1, c2]) rfl ⟨rfl, below_put3 HB1.out (Nat.le_refl _) _ _ _⟩

end Go.Proofs.YtocnkjnlmciojaaGreatDoor

namespace Go.Proofs.YtocnkjnlmciojaaGreatDoor
open Go Go.RowKit Go.Shelf Go.ChangeShapes Go.WideShapes Go.ChangeAt

/-- What reading a value gives the law. -/
def ReadVW (K : Nat → Prop) (q : Vl × Nat × Int) (bs : List Int) (W : World) (e : Ending) (W' : World) : Prop :=
  Below W.heap.size W W' ∧ ((q.2.2 = 0 ∧ ∃ a2 m, e = .returned (encG q.1 (.slice none 0 0) (.slice a2 m m) 0) ∧ Rd K W' .u8 a2 m m (bs.drop q.2.1)) ∨
    (q.2.2 ≠ 0 ∧ e = .returned (encG Vl.null (.slice none 0 0) (.slice none 0 0) q.2.2)))

set_option maxRecDepth 100000 in
set_option maxHeartbeats 2000000 in
theorem readW_any {K : Nat → Prop} {a : Option Addr} {len cap : Nat} {bs : List Int} (ho : Oct bs) {w : World} (hR : Rd K w .u8 a len cap bs) (hK : ∀ b, K b → b < w.heap.size) :
    Calls Tryz.prog 52 #[.slice a len cap] w (ReadVW K (rdV bs) bs w) := by
  have hb0 : Below w.heap.size w (w.alloc (.cells #[.int .i64 0, .int .i64 0, .string ⟨#[]⟩, .slice none 0 0, .slice none 0 0, .int .i64 0] 54)) := (Below.self w).alloc (Nat.le_refl _) _
  have HT := Lib.hid (Six.new w 54 (.int .i64 0) (.int .i64 0) (.string ⟨#[]⟩) (.slice none 0 0) (.slice none 0 0) (.int .i64 0))
  have HP := Lib.hid (readV_any ho (hR.below hb0) (fun b hb => Nat.lt_of_lt_of_le (hK b hb) hb0.size))
  have HB0 := Lib.hid hb0
  have HK := Lib.hid hK
  clear hb0 hR hK
  generalize rdV bs = q at *
  obtain ⟨⟨k, i, t⟩, c, x⟩ := q
  go_enter Tryz.func52, Tryz.ntmps52
  go_wp2_with fail
  refine HP.out.mono ?_
  clear HP
  rintro e w1 ⟨hb, hp⟩
  have hB1 : Below w.heap.size w w1 := HB0.out.trans (hb.mono HB0.out.size)
  have hT1 := HT.out.below hb HT.out.lt
  clear hb HT HB0
  rcases hp with ⟨hz, a2, m, rfl, hr2⟩ | ⟨hz, rfl⟩
  · obtain rfl : x = 0 := hz
    unfold encV
    dsimp only
    have hbA : Below w1.heap.size w1 (w1.alloc (.cells #[.int .i64 k, .int .i64 i, .string (bsOf t)] 45)) := (Below.self w1).alloc (Nat.le_refl _) _
    have hN := Trio.new w1 45 (.int .i64 k) (.int .i64 i) (.string (bsOf t))
    have HB2 : Hid (Below w.heap.size w (w1.alloc (.cells #[.int .i64 k, .int .i64 i, .string (bsOf t)] 45))) := hB1.trans (hbA.mono hB1.size)
    have hT2 := hT1.below hbA hT1.lt
    have HR2 : Hid (Rd K (w1.alloc (.cells #[.int .i64 k, .int .i64 i, .string (bsOf t)] 45)) .u8 a2 m m (bs.drop c)) := Lib.hid (Rd.below hr2 hbA)
    have c0 := hT2.c0
    have c1 := hT2.c1
    have c2 := hT2.c2
    have c3 := hT2.c3
    have c4 := hT2.c4
    have c5 := hT2.c5
    have f0 := hT2.fz 0
    have f1 := hT2.fz 1
    have f2 := hT2.fz 2
    have f3 := hT2.fz 3
    have f4 := hT2.fz 4
    have f5 := hT2.fz 5
    have plt := hT2.lt
    obtain ⟨B, hB⟩ : ∃ B, w1.heap.size = B := ⟨_, rfl⟩
    rw [hB] at hN
    have d0 := hN.c0
    have d1 := hN.c1
    have d2 := hN.c2
    clear hB1 hT1 hbA hN hT2 hr2
    go_upto_region 2 with fail
    clear hB
    generalize w1.alloc (.cells #[.int .i64 k, .int .i64 i, .string (bsOf t)] 45) = V at *
    go_wp2
    refine bodyPost_ret (v := .agg #[.int .i64 k, .int .i64 i, .string (bsOf t), .slice none 0 0, .slice a2 m m, .int .i64 0]) (by simp [results, Tryz.results52, go_sem, c0, c1, c2, c3, c4, c5]) rfl ⟨below_put6 HB2.out (Nat.le_refl _) _ _ _ _ _ _, .inl ⟨rfl, a2, m, rfl, ?_⟩⟩
    have k1 : ∀ b, K b → b ≠ w.heap.size := fun b hb e => by have := HK.out b hb; omega
    exact (((((HR2.out.set1 k1 _).set1 k1 _).set1 k1 _).set1 k1 _).set1 k1 _).set1 k1 _
  · have HZ := Lib.hid hz
    unfold encV
    dsimp only [Vl.null]
    rw [show bsOf [] = (⟨#[]⟩ : ByteArray) from rfl]
    have hbA : Below w1.heap.size w1 (w1.alloc (.cells #[.int .i64 0, .int .i64 0, .string ⟨#[]⟩] 45)) := (Below.self w1).alloc (Nat.le_refl _) _
    have hN := Trio.new w1 45 (.int .i64 0) (.int .i64 0) (.string ⟨#[]⟩)
    have HB2 : Hid (Below w.heap.size w (w1.alloc (.cells #[.int .i64 0, .int .i64 0, .string ⟨#[]⟩] 45))) := hB1.trans (hbA.mono hB1.size)
    have hT2 := hT1.below hbA hT1.lt
    have c0 := hT2.c0
    have c1 := hT2.c1
    have c2 := hT2.c2
    have c3 := hT2.c3
    have c4 := hT2.c4
    have c5 := hT2.c5
    have f0 := hT2.fz 0
    have f1 := hT2.fz 1
    have f2 := hT2.fz 2
    have f3 := hT2.fz 3
    have f4 := hT2.fz 4
    have f5 := hT2.fz 5
    have plt := hT2.lt
    obtain ⟨B, hB⟩ : ∃ B, w1.heap.size = B := ⟨_, rfl⟩
    rw [hB] at hN
    have d0 := hN.c0
    have d1 := hN.c1
    have d2 := hN.c2
    clear hB1 hT1 hbA hN hT2 hz
    go_upto_region 2 with fail
    clear hB
    generalize w1.alloc (.cells #[.int .i64 0, .int .i64 0, .string ⟨#[]⟩] 45) = V at *
    go_wp2
    exact bodyPost_ret (v := .agg #[.int .i64 0, .int .i64 0, .string ⟨#[]⟩, .slice none 0 0, .slice none 0 0, .int .i64 x]) (by simp [results, Tryz.results52, go_sem, c0, c1, c2, c3, c4, c5]) rfl ⟨below_put6 HB2.out (Nat.le_refl _) _ _ _ _ _ _, .inr ⟨HZ.out, rfl⟩⟩

end Go.Proofs.YtocnkjnlmciojaaGreatDoor
