/-
  The law's own wrappers; the reference's values.
-/
import Derived.Test.YtnhffkgbnlnliaaGreatDoorVlEq
namespace Go.Proofs.YtnhffkgbnlnliaaGreatDoor
open Go Go.RowKit Go.Shelf Go.ChangeShapes Go.WideShapes Go.ChangeAt

theorem Six.c0 {W : World} {B : Nat} {t : TypeId} {a b c d e f : Value} (h : Six W B t a b c d e f) : W.cell? ⟨B, 0, none⟩ = some a := by simp [World.cell?, show W.heap[B]? = _ from h]
theorem Six.c1 {W : World} {B : Nat} {t : TypeId} {a b c d e f : Value} (h : Six W B t a b c d e f) : W.cell? ⟨B, 1, none⟩ = some b := by simp [World.cell?, show W.heap[B]? = _ from h]
theorem Six.c2 {W : World} {B : Nat} {t : TypeId} {a b c d e f : Value} (h : Six W B t a b c d e f) : W.cell? ⟨B, 2, none⟩ = some c := by simp [World.cell?, show W.heap[B]? = _ from h]
theorem Six.c5 {W : World} {B : Nat} {t : TypeId} {a b c d e f : Value} (h : Six W B t a b c d e f) : W.cell? ⟨B, 5, none⟩ = some f := by simp [World.cell?, show W.heap[B]? = _ from h]
theorem below_put6 {W w : World} {B : Nat} (h : Below w.heap.size w W) (hB : w.heap.size ≤ B) (a b c d e f : Value) : Below w.heap.size w ((((((W.setCell ⟨B, 0, none⟩ a).setCell ⟨B, 1, none⟩ b).setCell ⟨B, 2, none⟩ c).setCell ⟨B, 3, none⟩ d).setCell ⟨B, 4, none⟩ e).setCell ⟨B, 5, none⟩ f) :=
  (((((h.setCell hB a).setCell hB b).setCell hB c).setCell hB d).setCell hB e).setCell hB f
theorem Rd.set1 {K : Nat → Prop} {W : World} {k : IntKind} {a : Option Addr} {len cap : Nat} {zs : List Int} {B i : Nat} (h : Rd K W k a len cap zs) (hK : ∀ b, K b → b ≠ B) (x : Value) : Rd K (W.setCell ⟨B, i, none⟩ x) k a len cap zs := by
  refine ⟨h.hl, h.fit, h.top, h.small, fun h0 => ?_⟩
  obtain ⟨b, off, e, hk, hlt, hc⟩ := h.cells h0
  refine ⟨b, off, e, hk, by simpa using hlt, fun j hj => ?_⟩
  have hne := hK b hk
  refine (World.cell?_of_block (w := W) ?_).trans (hc j hj)
  simp [World.setCell, Array.getElem?_modify, Ne.symm hne]
theorem RdV.set1 {K : Nat → Prop} {W : World} {a : Option Addr} {len cap : Nat} {vs : List Vl} {B i : Nat} (h : RdV K W a len cap vs) (hK : ∀ b, K b → b ≠ B) (x : Value) : RdV K (W.setCell ⟨B, i, none⟩ x) a len cap vs := by
  refine ⟨h.hl, h.fit, h.top, h.small, fun h0 => ?_⟩
  obtain ⟨b, off, e, hk, hlt, hc⟩ := h.cells h0
  have hne := hK b hk
  have hb : (W.setCell ⟨B, i, none⟩ x).heap[b]? = W.heap[b]? := by simp [World.setCell, Array.getElem?_modify, Ne.symm hne]
  exact ⟨b, off, e, hk, by simpa using hlt, fun j hj => ⟨(World.cell?_of_block (w := W) hb).trans (hc j hj).1, (World.cell?_of_block (w := W) hb).trans (hc j hj).2.1, (World.cell?_of_block (w := W) hb).trans (hc j hj).2.2⟩⟩

set_option maxRecDepth 100000 in
set_option maxHeartbeats 2000000 in
theorem parsedW_any (s : List UInt8) (hs : s.length ≤ 1048576) (w : World) (hV : De.Vars w) : Calls Tryz.prog 22 #[.string (bsOf s)] w fun e w' => e = .returned (encG (parsedV s).1 (.slice none 0 0) (.slice none 0 0) (parsedV s).2) ∧ Below w.heap.size w w' := by
  have hb0 : Below w.heap.size w (w.alloc (.cells #[.int .i64 0, .int .i64 0, .string ⟨#[]⟩, .slice none 0 0, .slice none 0 0, .int .i64 0] 39)) := (Below.self w).alloc (Nat.le_refl _) _
  have HT := Lib.hid (Six.new w 39 (.int .i64 0) (.int .i64 0) (.string ⟨#[]⟩) (.slice none 0 0) (.slice none 0 0) (.int .i64 0))
  have HP := Lib.hid (parse_any s hs _ (hV.below hb0))
  have HB0 := Lib.hid hb0
  clear hb0 hV
  generalize parsedV s = res at *
  obtain ⟨⟨k, i, t⟩, x⟩ := res
  unfold encV at HP
  unfold encG
  dsimp only at HP ⊢
  go_enter Tryz.func22, Tryz.ntmps22
  go_wp2_with fail
  refine HP.out.mono ?_
  rintro e w1 ⟨rfl, hb⟩
  have hB1 := HB0.out.trans (hb.mono HB0.out.size)
  have hT1 := HT.out.below hb HT.out.lt
  have hbA : Below w1.heap.size w1 (w1.alloc (.cells #[.int .i64 k, .int .i64 i, .string (bsOf t)] 29)) := (Below.self w1).alloc (Nat.le_refl _) _
  have hN := Trio.new w1 29 (.int .i64 k) (.int .i64 i) (.string (bsOf t))
  have HB2 : Hid (Below w.heap.size w (w1.alloc (.cells #[.int .i64 k, .int .i64 i, .string (bsOf t)] 29))) := hB1.trans (hbA.mono hB1.size)
  have hT2 := hT1.below hbA hT1.lt
  have c0 := hT2.c0
  have c1 := hT2.c1
  have c2 := hT2.c2
  have c3 := hT2.c3
  have c4 := hT2.c4
  have c5 := hT2.c5
  have f0 := hT2.fz 0
  have f1 := hT2.fz 1
  have f2 := hT2.fz 2
  have f3 := hT2.fz 3
  have f4 := hT2.fz 4
  have f5 := hT2.fz 5
  have plt := hT2.lt
  obtain ⟨B, hB⟩ : ∃ B, w1.heap.size = B := ⟨_, rfl⟩
  rw [hB] at hN
  have d0 := hN.c0
  have d1 := hN.c1
  have d2 := hN.c2
  clear hb hB1 hT1 hbA hN hT2 HB0 HT HP
  go_upto_region 2 with fail
  clear hB
  generalize w1.alloc (.cells #[.int .i64 k, .int .i64 i, .string (bsOf t)] 29) = V at *
  go_wp2
  exact bodyPost_ret (v := .agg #[.int .i64 k, .int .i64 i, .string (bsOf t), .slice none 0 0, .slice none 0 0, .int .i64 x]) (by simp [results, Tryz.results22, go_sem, c0, c1, c2, c3, c4, c5]) rfl ⟨rfl, below_put6 HB2.out (Nat.le_refl _) _ _ _ _ _ _⟩

/-- What reading a list gives the law. -/
def ReadLW (K : Nat → Prop) (q : List Vl × List Int × Int) (W : World) (e : Ending) (W' : World) : Prop :=
  Below W.heap.size W W' ∧ ((q.2.2 = 0 ∧ ∃ a1 n1 c1 a2 m, e = .returned (encG Vl.null (.slice a1 n1 c1) (.slice a2 m m) 0) ∧ RdV (fun b => W.heap.size < b) W' a1 n1 c1 q.1 ∧ Rd K W' .u8 a2 m m q.2.1) ∨
    (q.2.2 ≠ 0 ∧ e = .returned (encG Vl.null (.slice none 0 0) (.slice none 0 0) q.2.2)))

set_option maxRecDepth 100000 in
set_option maxHeartbeats 2000000 in
theorem readListW_any {K : Nat → Prop} {a : Option Addr} {len cap : Nat} {bs : List Int} (ho : Oct bs) {w : World} (hR : Rd K w .u8 a len cap bs) (hK : ∀ b, K b → b < w.heap.size) :
    Calls Tryz.prog 32 #[.slice a len cap] w (ReadLW K (rdL bs) w) := by
  have hb0 : Below w.heap.size w (w.alloc (.cells #[.int .i64 0, .int .i64 0, .string ⟨#[]⟩, .slice none 0 0, .slice none 0 0, .int .i64 0] 39)) := (Below.self w).alloc (Nat.le_refl _) _
  have HT := Lib.hid (Six.new w 39 (.int .i64 0) (.int .i64 0) (.string ⟨#[]⟩) (.slice none 0 0) (.slice none 0 0) (.int .i64 0))
  have HP := Lib.hid (readList_any ho (hR.below hb0) (fun b hb => Nat.lt_of_lt_of_le (hK b hb) hb0.size))
  have HB0 := Lib.hid hb0
  have HK := Lib.hid hK
  clear hb0 hR hK
  generalize rdL bs = q at *
  obtain ⟨vs, rest, x⟩ := q
  go_enter Tryz.func32, Tryz.ntmps32
  go_wp2_with fail
  refine HP.out.mono ?_
  rintro e w1 ⟨hb, hp⟩
  have HB1 : Hid (Below w.heap.size w w1) := HB0.out.trans (hb.mono HB0.out.size)
  have hT2 := HT.out.below hb HT.out.lt
  have c0 := hT2.c0
  have c1 := hT2.c1
  have c2 := hT2.c2
  have c3 := hT2.c3
  have c4 := hT2.c4
  have c5 := hT2.c5
  have f0 := hT2.fz 0
  have f1 := hT2.fz 1
  have f2 := hT2.fz 2
  have f3 := hT2.fz 3
  have f4 := hT2.fz 4
  have f5 := hT2.fz 5
  have plt : w.heap.size < w1.heap.size := hT2.lt
  clear hb hT2 HB0 HT HP
  rcases hp with ⟨hz, a1, n1, c1', a2, m, rfl, hr1, hr2⟩ | ⟨hz, rfl⟩
  · obtain rfl : x = 0 := hz
    have HR1 : Hid (RdV (fun b => w.heap.size < b) w1 a1 n1 c1' vs) := hr1.mono fun b _ h => by simp at h; omega
    have HR2 := Lib.hid hr2
    clear hr1 hr2
    go_wp2
    refine bodyPost_ret (v := .agg #[.int .i64 0, .int .i64 0, .string ⟨#[]⟩, .slice a1 n1 c1', .slice a2 m m, .int .i64 0]) (by simp [results, Tryz.results32, go_sem, c0, c1, c2, c3, c4, c5]) rfl ⟨below_put6 HB1.out (Nat.le_refl _) _ _ _ _ _ _, .inl ⟨rfl, a1, n1, c1', a2, m, rfl, ?_, ?_⟩⟩
    · have k1 : ∀ b, w.heap.size < b → b ≠ w.heap.size := fun b hb e => by omega
      exact (((((HR1.out.set1 k1 _).set1 k1 _).set1 k1 _).set1 k1 _).set1 k1 _).set1 k1 _
    · have k1 : ∀ b, K b → b ≠ w.heap.size := fun b hb e => by have := HK.out b hb; omega
      exact (((((HR2.out.set1 k1 _).set1 k1 _).set1 k1 _).set1 k1 _).set1 k1 _).set1 k1 _
  · have HZ := Lib.hid hz
    clear hz
    go_wp2
    exact bodyPost_ret (v := .agg #[.int .i64 0, .int .i64 0, .string ⟨#[]⟩, .slice none 0 0, .slice none 0 0, .int .i64 x]) (by simp [results, Tryz.results32, go_sem, c0, c1, c2, c3, c4, c5]) rfl ⟨below_put6 HB1.out (Nat.le_refl _) _ _ _ _ _ _, .inr ⟨HZ.out, rfl⟩⟩

/-! ### The reference's values -/

theorem rNum_any (n : Int) (w : World) : Calls Tryz.prog 34 #[.int .i64 n] w fun e w' => e = .returned (encV ⟨2, n, []⟩) ∧ Below w.heap.size w w' := by
  go_enter Tryz.func34, Tryz.ntmps34
  go_wp2
  exact bodyPost_ret (v := .agg #[.int .i64 2, .int .i64 n, .string ⟨#[]⟩]) (by simp [results, Tryz.results34, go_sem]) rfl ⟨rfl, (Below.refl _ _).alloc (Nat.le_refl _) _⟩
theorem rStr_any (s : ByteArray) (w : World) : Calls Tryz.prog 35 #[.string s] w fun e w' => e = .returned (.agg #[.int .i64 3, .int .i64 0, .string s]) ∧ Below w.heap.size w w' := by
  go_enter Tryz.func35, Tryz.ntmps35
  go_wp2
  exact bodyPost_ret (v := .agg #[.int .i64 3, .int .i64 0, .string s]) (by simp [results, Tryz.results35, go_sem]) rfl ⟨rfl, (Below.refl _ _).alloc (Nat.le_refl _) _⟩
theorem rNull_any (w : World) : Calls Tryz.prog 36 #[] w fun e w' => e = .returned (encV Vl.null) ∧ Below w.heap.size w w' := by
  go_enter Tryz.func36, Tryz.ntmps36
  go_wp2
  exact bodyPost_ret (v := .agg #[.int .i64 0, .int .i64 0, .string ⟨#[]⟩]) (by simp [results, Tryz.results36, go_sem]) rfl ⟨rfl, (Below.refl _ _).alloc (Nat.le_refl _) _⟩
theorem rBool_any (b : Bool) (w : World) : Calls Tryz.prog 37 #[.bool b] w fun e w' => e = .returned (encV (Vl.ofBool b)) ∧ Below w.heap.size w w' := by
  cases b with
  | true =>
    go_enter Tryz.func37, Tryz.ntmps37
    go_wp2
    exact bodyPost_ret (v := .agg #[.int .i64 1, .int .i64 1, .string ⟨#[]⟩]) (by simp [results, Tryz.results37, go_sem]) rfl ⟨rfl, (Below.refl _ _).alloc (Nat.le_refl _) _⟩
  | false =>
    go_enter Tryz.func37, Tryz.ntmps37
    go_wp2
    exact bodyPost_ret (v := .agg #[.int .i64 1, .int .i64 0, .string ⟨#[]⟩]) (by simp [results, Tryz.results37, go_sem]) rfl ⟨rfl, (Below.refl _ _).alloc (Nat.le_refl _) _⟩
theorem rWhole_one (w : World) : Calls Tryz.prog 38 #[.int .i64 1] w fun e w' => e = .returned (encV ⟨2, 1000000, []⟩) ∧ Below w.heap.size w w' := by
  have HT := Lib.hid (Trio.new w 29 (.int .i64 0) (.int .i64 0) (.string ⟨#[]⟩))
  have HB0 : Hid (Below w.heap.size w (w.alloc (.cells #[.int .i64 0, .int .i64 0, .string ⟨#[]⟩] 29))) := (Below.self w).alloc (Nat.le_refl _) _
  have HN : Hid (∀ (n : Int) (W : World), Calls Tryz.prog 34 #[.int .i64 n] W fun e w' => e = .returned (.agg #[.int .i64 2, .int .i64 n, .string ⟨#[]⟩]) ∧ Below W.heap.size W w') := fun n W => rNum_any n W
  go_enter Tryz.func38, Tryz.ntmps38
  go_wp2_with fail
  refine (HN.out _ _).mono ?_
  rintro e w1 ⟨rfl, hb⟩
  have HB1 : Hid (Below w.heap.size w w1) := HB0.out.trans (hb.mono HB0.out.size)
  have hT2 := HT.out.below hb HT.out.lt
  have c0 := hT2.c0
  have c1 := hT2.c1
  have c2 := hT2.c2
  have f0 := hT2.f 0
  have f1 := hT2.f 1
  have f2 := hT2.f 2
  have plt : w.heap.size < w1.heap.size := hT2.lt
  clear hb hT2 HB0 HT
  go_wp2
  exact bodyPost_ret (v := .agg #[.int .i64 2, .int .i64 1000000, .string ⟨#[]⟩]) (by simp [results, Tryz.results38, go_sem, c0, c1, c2]) rfl ⟨rfl, below_put3 HB1.out (Nat.le_refl _) _ _ _⟩

end Go.Proofs.YtnhffkgbnlnliaaGreatDoor

namespace Go.Proofs.YtnhffkgbnlnliaaGreatDoor
open Go Go.RowKit Go.Shelf Go.ChangeShapes Go.WideShapes Go.ChangeAt

/-- What reading a value gives the law. -/
def ReadVW (K : Nat → Prop) (q : Vl × Nat × Int) (bs : List Int) (W : World) (e : Ending) (W' : World) : Prop :=
  Below W.heap.size W W' ∧ ((q.2.2 = 0 ∧ ∃ a2 m, e = .returned (encG q.1 (.slice none 0 0) (.slice a2 m m) 0) ∧ Rd K W' .u8 a2 m m (bs.drop q.2.1)) ∨
    (q.2.2 ≠ 0 ∧ e = .returned (encG Vl.null (.slice none 0 0) (.slice none 0 0) q.2.2)))

set_option maxRecDepth 100000 in
set_option maxHeartbeats 2000000 in
theorem readW_any {K : Nat → Prop} {a : Option Addr} {len cap : Nat} {bs : List Int} (ho : Oct bs) {w : World} (hR : Rd K w .u8 a len cap bs) (hK : ∀ b, K b → b < w.heap.size) :
    Calls Tryz.prog 30 #[.slice a len cap] w (ReadVW K (rdV bs) bs w) := by
  have hb0 : Below w.heap.size w (w.alloc (.cells #[.int .i64 0, .int .i64 0, .string ⟨#[]⟩, .slice none 0 0, .slice none 0 0, .int .i64 0] 39)) := (Below.self w).alloc (Nat.le_refl _) _
  have HT := Lib.hid (Six.new w 39 (.int .i64 0) (.int .i64 0) (.string ⟨#[]⟩) (.slice none 0 0) (.slice none 0 0) (.int .i64 0))
  have HP := Lib.hid (readV_any ho (hR.below hb0) (fun b hb => Nat.lt_of_lt_of_le (hK b hb) hb0.size))
  have HB0 := Lib.hid hb0
  have HK := Lib.hid hK
  clear hb0 hR hK
  generalize rdV bs = q at *
  obtain ⟨⟨k, i, t⟩, c, x⟩ := q
  go_enter Tryz.func30, Tryz.ntmps30
  go_wp2_with fail
  refine HP.out.mono ?_
  clear HP
  rintro e w1 ⟨hb, hp⟩
  have hB1 : Below w.heap.size w w1 := HB0.out.trans (hb.mono HB0.out.size)
  have hT1 := HT.out.below hb HT.out.lt
  clear hb HT HB0
  rcases hp with ⟨hz, a2, m, rfl, hr2⟩ | ⟨hz, rfl⟩
  · obtain rfl : x = 0 := hz
    unfold encV
    dsimp only
    have hbA : Below w1.heap.size w1 (w1.alloc (.cells #[.int .i64 k, .int .i64 i, .string (bsOf t)] 29)) := (Below.self w1).alloc (Nat.le_refl _) _
    have hN := Trio.new w1 29 (.int .i64 k) (.int .i64 i) (.string (bsOf t))
    have HB2 : Hid (Below w.heap.size w (w1.alloc (.cells #[.int .i64 k, .int .i64 i, .string (bsOf t)] 29))) := hB1.trans (hbA.mono hB1.size)
    have hT2 := hT1.below hbA hT1.lt
    have HR2 : Hid (Rd K (w1.alloc (.cells #[.int .i64 k, .int .i64 i, .string (bsOf t)] 29)) .u8 a2 m m (bs.drop c)) := Lib.hid (Rd.below hr2 hbA)
    have c0 := hT2.c0
    have c1 := hT2.c1
    have c2 := hT2.c2
    have c3 := hT2.c3
    have c4 := hT2.c4
    have c5 := hT2.c5
    have f0 := hT2.fz 0
    have f1 := hT2.fz 1
    have f2 := hT2.fz 2
    have f3 := hT2.fz 3
    have f4 := hT2.fz 4
    have f5 := hT2.fz 5
    have plt := hT2.lt
    obtain ⟨B, hB⟩ : ∃ B, w1.heap.size = B := ⟨_, rfl⟩
    rw [hB] at hN
    have d0 := hN.c0
    have d1 := hN.c1
    have d2 := hN.c2
    clear hB1 hT1 hbA hN hT2 hr2
    go_upto_region 2 with fail
    clear hB
    generalize w1.alloc (.cells #[.int .i64 k, .int .i64 i, .string (bsOf t)] 29) = V at *
    go_wp2
    refine bodyPost_ret (v := .agg #[.int .i64 k, .int .i64 i, .string (bsOf t), .slice none 0 0, .slice a2 m m, .int .i64 0]) (by simp [results, Tryz.results30, go_sem, c0, c1, c2, c3, c4, c5]) rfl ⟨below_put6 HB2.out (Nat.le_refl _) _ _ _ _ _ _, .inl ⟨rfl, a2, m, rfl, ?_⟩⟩
    have k1 : ∀ b, K b → b ≠ w.heap.size := fun b hb e => by have := HK.out b hb; omega
    exact (((((HR2.out.set1 k1 _).set1 k1 _).set1 k1 _).set1 k1 _).set1 k1 _).set1 k1 _
  · have HZ := Lib.hid hz
    unfold encV
    dsimp only [Vl.null]
    rw [show bsOf [] = (⟨#[]⟩ : ByteArray) from rfl]
    have hbA : Below w1.heap.size w1 (w1.alloc (.cells #[.int .i64 0, .int .i64 0, .string ⟨#[]⟩] 29)) := (Below.self w1).alloc (Nat.le_refl _) _
    have hN := Trio.new w1 29 (.int .i64 0) (.int .i64 0) (.string ⟨#[]⟩)
    have HB2 : Hid (Below w.heap.size w (w1.alloc (.cells #[.int .i64 0, .int .i64 0, .string ⟨#[]⟩] 29))) := hB1.trans (hbA.mono hB1.size)
    have hT2 := hT1.below hbA hT1.lt
    have c0 := hT2.c0
    have c1 := hT2.c1
    have c2 := hT2.c2
    have c3 := hT2.c3
    have c4 := hT2.c4
    have c5 := hT2.c5
    have f0 := hT2.fz 0
    have f1 := hT2.fz 1
    have f2 := hT2.fz 2
    have f3 := hT2.fz 3
    have f4 := hT2.fz 4
    have f5 := hT2.fz 5
    have plt := hT2.lt
    obtain ⟨B, hB⟩ : ∃ B, w1.heap.size = B := ⟨_, rfl⟩
    rw [hB] at hN
    have d0 := hN.c0
    have d1 := hN.c1
    have d2 := hN.c2
    clear hB1 hT1 hbA hN hT2 hz
    go_upto_region 2 with fail
    clear hB
    generalize w1.alloc (.cells #[.int .i64 0, .int .i64 0, .string ⟨#[]⟩] 29) = V at *
    go_wp2
    exact bodyPost_ret (v := .agg #[.int .i64 0, .int .i64 0, .string ⟨#[]⟩, .slice none 0 0, .slice none 0 0, .int .i64 x]) (by simp [results, Tryz.results30, go_sem, c0, c1, c2, c3, c4, c5]) rfl ⟨below_put6 HB2.out (Nat.le_refl _) _ _ _ _ _ _, .inr ⟨HZ.out, rfl⟩⟩

end Go.Proofs.YtnhffkgbnlnliaaGreatDoor
