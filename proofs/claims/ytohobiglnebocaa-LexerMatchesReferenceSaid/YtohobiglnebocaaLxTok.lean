/-
  Valid tokens and their spellings, as the program tells them.
-/
import Derived.Test.YtohobiglnebocaaLxSpell
namespace Go.Proofs.Ytohobiglnebocaa.Lx
open Go Go.RowKit Go.Shelf Go.Sort Go.ChangeShapes Go.WideShapes Go.ChangeAt
open Go.Proofs.Ytohobiglnebocaa

/-- A token, as both sides hold it. -/
def encK (k : Int) (s : ByteArray) (a : Int) : Value := .agg #[.int .i64 k, .string s, .int .i64 a]

/-! ### Three cells in a block of their own -/

def Trio (W : World) (B : Nat) (t : TypeId) (a b c : Value) : Prop := W.heap[B]? = some (.cells #[a, b, c] t (0, 0))
section
variable {W V : World} {B n : Nat} {t : TypeId} {a b c : Value}
theorem Trio.new (W : World) (t : TypeId) (a b c : Value) : Trio (W.alloc (.cells #[a, b, c] t)) W.heap.size t a b c := World.alloc_heap_new W _
theorem Trio.lt (h : Trio W B t a b c) : B < W.heap.size := (Array.getElem?_eq_some_iff.1 h).1
theorem Trio.c0 (h : Trio W B t a b c) : W.cell? ⟨B, 0, none⟩ = some a := by simp [World.cell?, show W.heap[B]? = _ from h]
theorem Trio.c1 (h : Trio W B t a b c) : W.cell? ⟨B, 1, none⟩ = some b := by simp [World.cell?, show W.heap[B]? = _ from h]
theorem Trio.c2 (h : Trio W B t a b c) : W.cell? ⟨B, 2, none⟩ = some c := by simp [World.cell?, show W.heap[B]? = _ from h]
theorem Trio.f (h : Trio W B t a b c) (o : Nat) : W.frozen? ⟨B, o, none⟩ = false := by simp [World.frozen?, show W.heap[B]? = _ from h]
theorem Trio.below (h : Trio W B t a b c) (hb : Below n W V) (hn : B < n) : Trio V B t a b c := (hb.block B hn).trans h
end

theorem vld_1 (s : List UInt8) : vld 1 s = wordB s := rfl
theorem vld_2 (s : List UInt8) : vld 2 s = numB s := rfl
theorem vld_3 (s : List UInt8) : vld 3 s = txtB s := rfl
theorem vld_4 (s : List UInt8) : vld 4 s = signB s := rfl
theorem vld_9 {k : Int} (s : List UInt8) (h1 : k ≠ 1) (h2 : k ≠ 2) (h3 : k ≠ 3) (h4 : k ≠ 4) : vld k s = false := by unfold vld; rw [if_neg h1, if_neg h2, if_neg h3, if_neg h4]

set_option maxRecDepth 100000 in
set_option maxHeartbeats 1000000 in
theorem valid_any (k a : Int) (s : List UInt8) (hs : s.length ≤ 1048576) (w : World) (hV : Vars w) : Calls Try.prog 6 #[encK k (bsOf s) a] w fun e w' => e = .returned (.bool (vld k s)) ∧ Below w.heap.size w w' := by
  unfold encK
  have hb0 : Below w.heap.size w (w.alloc (.cells #[.int .i64 k, .string (bsOf s), .int .i64 a] 27)) := (Below.refl _ _).alloc (Nat.le_refl _) _
  have hT := Trio.new w 27 (.int .i64 k) (.string (bsOf s)) (.int .i64 a)
  have HV := Lib.hid (hV.below hb0)
  have HB := Lib.hid hb0
  have HT := Lib.hid hT
  clear hb0 hT hV
  obtain ⟨z, hz⟩ : ∃ z, vld k s = z := ⟨_, rfl⟩
  have HZ := Lib.hid hz
  rw [hz]
  clear hz
  have HW := Lib.hid (fun w => isWord_any s hs w)
  have HN := Lib.hid (fun w hV => isNumber_any s hs w hV)
  have HX := Lib.hid (fun w => isText_any s hs w)
  have HS := Lib.hid (fun w => isSign_any s w)
  generalize bsOf s = S at *
  obtain ⟨V0, hV0⟩ : ∃ V0, w.alloc (.cells #[.int .i64 k, .string S, .int .i64 a] 27) = V0 := ⟨_, rfl⟩
  rw [hV0] at HV HB HT
  obtain ⟨B0, hB0⟩ : ∃ B0, w.heap.size = B0 := ⟨_, rfl⟩
  rw [hB0] at HT
  have q0 := HT.out.c0
  have q1 := HT.out.c1
  go_enter Try.func6, Try.ntmps6
  go_upto_region 1 with fail
  have HB0 := Lib.hid hB0
  clear hV0 hB0
  by_cases h1 : k = 1
  · subst h1
    have HE : Hid (wordB s = z) := HZ.out
    go_wp2_with (go_at_call 18; ((with_reducible refine (HW.out _).mono ?_); rintro e w1 ⟨rfl, hb1⟩))
    go_ret
    exact ⟨ret_b HE.out, HB0.out ▸ HB.out.trans (hb1.mono HB.out.size)⟩
  · have e1 : (k == 1) = false := beq_false_of_ne h1
    by_cases h2 : k = 2
    · subst h2
      have HE : Hid (numB s = z) := HZ.out
      clear h1
      go_wp2_with (go_at_call 19; ((with_reducible refine (HN.out _ HV.out).mono ?_); rintro e w1 ⟨rfl, hb1⟩))
      go_ret
      exact ⟨ret_b HE.out, HB0.out ▸ HB.out.trans (hb1.mono HB.out.size)⟩
    · have e2 : (k == 2) = false := beq_false_of_ne h2
      by_cases h3 : k = 3
      · subst h3
        have HE : Hid (txtB s = z) := HZ.out
        clear h1 h2
        go_wp2_with (go_at_call 20; ((with_reducible refine (HX.out _).mono ?_); rintro e w1 ⟨rfl, hb1⟩))
        go_ret
        exact ⟨ret_b HE.out, HB0.out ▸ HB.out.trans (hb1.mono HB.out.size)⟩
      · have e3 : (k == 3) = false := beq_false_of_ne h3
        by_cases h4 : k = 4
        · subst h4
          have HE : Hid (signB s = z) := HZ.out
          clear h1 h2 h3
          go_wp2_with (go_at_call 21; ((with_reducible refine (HS.out _).mono ?_); rintro e w1 ⟨rfl, rfl⟩))
          go_ret
          exact ⟨ret_b HE.out, HB0.out ▸ HB.out⟩
        · have e4 : (k == 4) = false := beq_false_of_ne h4
          have HE : Hid (false = z) := (vld_9 s h1 h2 h3 h4).symm.trans HZ.out
          clear h1 h2 h3 h4
          go_wp2
          go_ret
          exact ⟨ret_b HE.out, HB0.out ▸ HB.out⟩

theorem spl_no {k : Int} {s : List UInt8} (h : vld k s = false) : spl k s = [] := by unfold spl; rw [if_pos h]
theorem spl_3 {s : List UInt8} (h : vld 3 s = true) : spl 3 s = 34 :: (esc s ++ [34]) := by unfold spl; rw [if_neg (by rw [h]; decide), if_pos rfl]
theorem spl_k {k : Int} {s : List UInt8} (h : vld k s = true) (hk : k ≠ 3) : spl k s = s := by unfold spl; rw [if_neg (by rw [h]; decide), if_neg hk]

set_option maxRecDepth 100000 in
set_option maxHeartbeats 1000000 in
theorem spell_any (k a : Int) (s : List UInt8) (hs : s.length ≤ 1048576) (w : World) (hV : Vars w) : Calls Try.prog 9 #[encK k (bsOf s) a] w fun e w' => e = .returned (.string (bsOf (spl k s))) ∧ Below w.heap.size w w' := by
  have hb0 : Below w.heap.size w (w.alloc (.cells #[.int .i64 k, .string (bsOf s), .int .i64 a] 27)) := (Below.refl _ _).alloc (Nat.le_refl _) _
  have hT := Trio.new w 27 (.int .i64 k) (.string (bsOf s)) (.int .i64 a)
  have HVA := Lib.hid (valid_any k a s hs _ (hV.below hb0))
  have HB := Lib.hid hb0
  have HT := Lib.hid hT
  clear hb0 hT hV
  unfold encK at *
  have HQ := Lib.hid (fun w => quoted_any s hs w)
  have HZ := Lib.hid (show spl k s = spl k s from rfl)
  have HL := Lib.hid (quoteL_eq s)
  obtain ⟨V0, hV0⟩ : ∃ V0, w.alloc (.cells #[.int .i64 k, .string (bsOf s), .int .i64 a] 27) = V0 := ⟨_, rfl⟩
  rw [hV0] at HVA HB HT
  obtain ⟨B0, hB0⟩ : ∃ B0, w.heap.size = B0 := ⟨_, rfl⟩
  rw [hB0] at HT
  have q0 := HT.out.c0
  have q1 := HT.out.c1
  have q2 := HT.out.c2
  obtain ⟨z, hz⟩ : ∃ z, vld k s = z := ⟨_, rfl⟩
  have HZ2 := Lib.hid hz
  rw [hz] at HVA
  clear hz
  obtain ⟨y, hy⟩ : ∃ y, spl k s = y := ⟨_, rfl⟩
  have HY := Lib.hid hy
  rw [hy]
  clear hy
  clear HZ
  go_enter Try.func9, Try.ntmps9
  go_upto_region 1 with fail
  have HB0 := Lib.hid hB0
  clear hV0 hB0
  obtain ⟨S, hS⟩ : ∃ S, bsOf s = S := ⟨_, rfl⟩
  rw [hS] at HVA HT HQ q1
  have HSS := Lib.hid hS
  clear hS
  go_wp2_with fail
  refine HVA.out.mono ?_
  rintro e w1 ⟨rfl, hb1⟩
  have HT1 := Lib.hid (HT.out.below hb1 HT.out.lt)
  have HB1 : Hid (Below w.heap.size w w1) := HB.out.trans (hb1.mono HB.out.size)
  clear hb1 q0 q1 q2
  have q0 := HT1.out.c0
  have q1 := HT1.out.c1
  cases z
  · have HE : Hid (y = []) := HY.out.symm.trans (spl_no HZ2.out)
    go_wp2
    go_ret
    exact ⟨by rw [HE.out]; rfl, HB1.out⟩
  · by_cases h3 : k = 3
    · subst h3
      have HE : Hid (quoteL s = y) := HL.out.trans ((spl_3 HZ2.out).symm.trans HY.out)
      go_wp2_with (go_at_call 26; ((with_reducible refine (HQ.out _).mono ?_); rintro e w2 ⟨rfl, hb2⟩))
      go_ret
      exact ⟨ret_s HE.out, HB1.out.trans (hb2.mono HB1.out.size)⟩
    · have e3 : (k == 3) = false := beq_false_of_ne h3
      have HE : Hid (s = y) := (spl_k HZ2.out h3).symm.trans HY.out
      clear h3
      go_wp2
      go_ret
      exact ⟨by rw [← HE.out, HSS.out]; rfl, HB1.out⟩

end Go.Proofs.Ytohobiglnebocaa.Lx
