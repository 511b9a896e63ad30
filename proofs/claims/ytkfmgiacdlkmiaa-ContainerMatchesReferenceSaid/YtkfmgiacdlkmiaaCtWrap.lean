/-
  The laws' own wrappers: sealed, opened, split; whether two files, two lists of files, two opened files are equal; made files.
-/
import Derived.Test.YtkfmgiacdlkmiaaCtmE
import Derived.Test.YtkfmgiacdlkmiaaCtSplit2
namespace Go.Proofs.Ytkfmgiacdlkmiaa
open Go Go.RowKit Go.Shelf Go.ChangeShapes Go.WideShapes Go.ChangeAt

def SealedPost (k : Int) (id data : List Int) (W : World) (e : Ending) (V : World) : Prop :=
  Below W.heap.size W V ∧ ((sealE k id data = 0 ∧ ∃ g n c, e = .returned (.agg #[.slice (some ⟨g, 0, none⟩) n c, .int .i64 0]) ∧ Rd (fun b => W.heap.size ≤ b) V .u8 (some ⟨g, 0, none⟩) n c (sealS k id data)) ∨
    (sealE k id data ≠ 0 ∧ e = .returned (.agg #[.slice none 0 0, .int .i64 (sealE k id data)])))

set_option maxRecDepth 100000 in
set_option maxHeartbeats 1000000 in
theorem sealed_any {K1 K2 : Nat → Prop} {k : Int} {a1 a2 : Option Addr} {n1 c1 n2 c2 : Nat} {id data : List Int} {W : World} (h1 : Rd K1 W .i64 a1 n1 c1 id) (h2 : Rd K2 W .u8 a2 n2 c2 data) (hz : Smalls id) (ho : Oct data) :
    Calls Try.prog 6 #[.agg #[.int .i64 k, .slice a1 n1 c1, .slice a2 n2 c2]] W (SealedPost k id data W) := by
  have hb1 : Below W.heap.size W (W.alloc (.cells #[.int .i64 k, .slice a1 n1 c1, .slice a2 n2 c2] 25)) := (Below.refl _ _).alloc (Nat.le_refl _) _
  have hf1 := FileB.new W k (.slice a1 n1 c1) (.slice a2 n2 c2)
  have hs1 : (W.alloc (.cells #[.int .i64 k, .slice a1 n1 c1, .slice a2 n2 c2] 25)).heap.size = W.heap.size + 1 := World.size_alloc ..
  have hb2 := hb1.alloc hb1.size (.cells #[.slice none 0 0, .int .i64 0] 33)
  have hp2 := Pair.new (W.alloc (.cells #[.int .i64 k, .slice a1 n1 c1, .slice a2 n2 c2] 25)) 33 (.slice none 0 0) (.int .i64 0)
  rw [hs1] at hp2
  have hf2 := hf1.below ((Below.refl (W.alloc (.cells #[.int .i64 k, .slice a1 n1 c1, .slice a2 n2 c2] 25)).heap.size (W.alloc (.cells #[.int .i64 k, .slice a1 n1 c1, .slice a2 n2 c2] 25))).alloc (Nat.le_refl _) (.cells #[.slice none 0 0, .int .i64 0] 33)) hf1.lt
  have q0 := hf2.c0
  have q1 := hf2.c1
  have q2 := hf2.c2
  have HT := Lib.hid (seal_any (k := k) (h1.below hb2) (h2.below hb2) hz ho)
  have HB2 := Lib.hid hb2
  have HP2 := Lib.hid hp2
  have HS2 : Hid (W.heap.size + 1 < ((W.alloc (.cells #[.int .i64 k, .slice a1 n1 c1, .slice a2 n2 c2] 25)).alloc (.cells #[.slice none 0 0, .int .i64 0] 33)).heap.size) := hp2.lt
  clear h1 h2 hz ho hb1 hf1 hs1 hb2 hp2 hf2
  go_enter Try.func6, Try.ntmps6
  go_wp2_with fail
  refine HT.out.mono ?_
  rintro e V ⟨hb, hp⟩
  have hpV := HP2.out.below hb HP2.out.lt
  have HBV : Hid (Below W.heap.size W V) := HB2.out.trans (hb.mono HB2.out.size)
  have HBX : Hid (∀ v0 v1 : Value, Below W.heap.size W ((V.setCell ⟨W.heap.size + 1, 0, none⟩ v0).setCell ⟨W.heap.size + 1, 1, none⟩ v1)) := fun v0 v1 => (HBV.out.setCell (Nat.le_succ _) _).setCell (Nat.le_succ _) _
  have HKX : Hid (∀ v0 v1 : Value, Kept (fun b => b ≠ W.heap.size + 1) V ((V.setCell ⟨W.heap.size + 1, 0, none⟩ v0).setCell ⟨W.heap.size + 1, 1, none⟩ v1)) := fun v0 v1 => (kept_set V _ 0 v0).trans (kept_set _ _ 1 v1)
  clear hb HT q0 q1 q2
  have p0 := hpV.c0
  have p1 := hpV.c1
  have pf0 := hpV.f 0
  have pf1 := hpV.f 1
  have plt := hpV.lt
  clear hpV
  rcases hp with ⟨hz, g, n, c, rfl, hR⟩ | ⟨hz, rfl⟩
  · have HZ := Lib.hid hz
    have hR' := hR.mono (K' := fun b => W.heap.size ≤ b ∧ b ≠ W.heap.size + 1) (fun b _ h => ⟨by have := HS2.out; have h : _ ≤ b := h; omega, by have := HS2.out; have h : _ ≤ b := h; omega⟩)
    have HR := Lib.hid hR'
    clear hz hR hR' HS2 HP2 HB2
    go_wp2
    exact bodyPost_ret (v := .agg #[.slice (some ⟨g, 0, none⟩) n c, .int .i64 0]) (by simp [results, Try.results6, go_sem, p0, p1]) rfl ⟨HBX.out _ _, .inl ⟨HZ.out, g, n, c, rfl, (HR.out.kept ((HKX.out _ _).mono fun b h => h.2)).mono fun b _ h => h.1⟩⟩
  · have HZ := Lib.hid hz
    clear hz HS2 HP2 HB2
    obtain ⟨x, hx⟩ : ∃ x, sealE k id data = x := ⟨_, rfl⟩
    have HX := Lib.hid hx
    rw [hx]
    clear hx
    go_wp2
    exact bodyPost_ret (v := .agg #[.slice none 0 0, .int .i64 x]) (by simp [results, Try.results6, go_sem, p0, p1]) rfl ⟨HBX.out _ _, .inr ⟨HZ.out, by rw [HX.out]⟩⟩

/-- An opened file, as the laws have it. -/
def OpenedPost (bs : List Int) (W : World) (e : Ending) (V : World) : Prop :=
  Below W.heap.size W V ∧ ((openE bs = 0 ∧ ∃ a1 n1 c1 a2 n2 c2, e = .returned (.agg #[.int .i64 (fstK bs), .slice a1 n1 c1, .slice a2 n2 c2, .slice none 0 0, .int .i64 0]) ∧ Rd (fun b => W.heap.size ≤ b) V .i64 a1 n1 c1 (fstI bs) ∧ Rd (fun b => W.heap.size ≤ b) V .u8 a2 n2 c2 (fstD bs)) ∨
    (openE bs ≠ 0 ∧ e = .returned (.agg #[.int .i64 0, .slice none 0 0, .slice none 0 0, .slice none 0 0, .int .i64 (openE bs)])))

/-- The five cells of an opened file. -/
def OpB (W : World) (B : Nat) (a b c d e : Value) : Prop := W.heap[B]? = some (.cells #[a, b, c, d, e] 42 (0, 0))
theorem OpB.cell {W : World} {B : Nat} {a b c d e : Value} (h : OpB W B a b c d e) : W.cell? ⟨B, 0, none⟩ = some a ∧ W.cell? ⟨B, 1, none⟩ = some b ∧ W.cell? ⟨B, 2, none⟩ = some c ∧ W.cell? ⟨B, 3, none⟩ = some d ∧ W.cell? ⟨B, 4, none⟩ = some e := by
  have h : W.heap[B]? = _ := h
  simp [World.cell?, h]
theorem OpB.f {W : World} {B : Nat} {a b c d e : Value} (h : OpB W B a b c d e) (o : Nat) : W.frozen? ⟨B, o, none⟩ = false := by simp [World.frozen?, show W.heap[B]? = _ from h]
theorem OpB.lt {W : World} {B : Nat} {a b c d e : Value} (h : OpB W B a b c d e) : B < W.heap.size := (Array.getElem?_eq_some_iff.1 h).1
theorem OpB.new (W : World) (a b c d e : Value) : OpB (W.alloc (.cells #[a, b, c, d, e] 42)) W.heap.size a b c d e := World.alloc_heap_new W _
theorem OpB.stored {W : World} {B : Nat} {a b c d e a' b' c' d' e' : Value} (h : OpB W B a b c d e) : OpB (((((W.setCell ⟨B, 0, none⟩ a').setCell ⟨B, 1, none⟩ b').setCell ⟨B, 2, none⟩ c').setCell ⟨B, 3, none⟩ d').setCell ⟨B, 4, none⟩ e') B a' b' c' d' e' := by
  have h : W.heap[B]? = _ := h
  show (((((W.setCell ⟨B, 0, none⟩ a').setCell ⟨B, 1, none⟩ b').setCell ⟨B, 2, none⟩ c').setCell ⟨B, 3, none⟩ d').setCell ⟨B, 4, none⟩ e').heap[B]? = _
  simp [World.setCell, Array.getElem?_modify, h]
theorem kept_stored5 (W : World) (B : Nat) (v0 v1 v2 v3 v4 : Value) : Kept (fun b => b ≠ B) W (((((W.setCell ⟨B, 0, none⟩ v0).setCell ⟨B, 1, none⟩ v1).setCell ⟨B, 2, none⟩ v2).setCell ⟨B, 3, none⟩ v3).setCell ⟨B, 4, none⟩ v4) :=
  ((((kept_set W B 0 v0).trans (kept_set _ B 1 v1)).trans (kept_set _ B 2 v2)).trans (kept_set _ B 3 v3)).trans (kept_set _ B 4 v4)
theorem OpB.below {W V : World} {B n : Nat} {a b c d e : Value} (h : OpB W B a b c d e) (hb : Below n W V) (hn : B < n) : OpB V B a b c d e := (hb.block B hn).trans h

set_option maxRecDepth 100000 in
set_option maxHeartbeats 1000000 in
theorem opened_any {K : Nat → Prop} {a : Option Addr} {n c : Nat} {bs : List Int} {W : World} (hR : Rd K W .u8 a n c bs) (ho : Oct bs) :
    Calls Try.prog 14 #[.slice a n c] W (OpenedPost bs W) := by
  have hb1 : Below W.heap.size W (W.alloc (.cells #[.int .i64 0, .slice none 0 0, .slice none 0 0, .slice none 0 0, .int .i64 0] 42)) := (Below.refl _ _).alloc (Nat.le_refl _) _
  have hp1 := OpB.new W (.int .i64 0) (.slice none 0 0) (.slice none 0 0) (.slice none 0 0) (.int .i64 0)
  have HT := Lib.hid (open_any (hR.below hb1) ho)
  have HB1 := Lib.hid hb1
  have HP1 := Lib.hid hp1
  have HS1 : Hid ((W.alloc (.cells #[.int .i64 0, .slice none 0 0, .slice none 0 0, .slice none 0 0, .int .i64 0] 42)).heap.size = W.heap.size + 1) := World.size_alloc ..
  clear hb1 hp1 hR ho
  go_enter Try.func14, Try.ntmps14
  go_wp2_with fail
  refine HT.out.mono ?_
  rintro e V ⟨hb, hp⟩
  have hpV := HP1.out.below hb HP1.out.lt
  have HBV : Hid (Below W.heap.size W V) := HB1.out.trans (hb.mono HB1.out.size)
  have HSV : Hid (W.heap.size < V.heap.size) := hpV.lt
  obtain ⟨p0, p1, p2, p3, p4⟩ := hpV.cell
  have pf0 := hpV.f 0
  have pf1 := hpV.f 1
  have pf2 := hpV.f 2
  have pf3 := hpV.f 3
  have pf4 := hpV.f 4
  have plt := hpV.lt
  have HPV := Lib.hid hpV
  clear hb HT hpV
  rcases hp with ⟨hz, a1, n1, c1, a2, n2, c2, rfl, hI, hD⟩ | ⟨hz, rfl⟩
  · have HZ := Lib.hid hz
    have HI := Lib.hid (hI.mono (K' := fun b => b ≠ W.heap.size ∧ W.heap.size ≤ b) (fun b _ h => by have h : _ ≤ b := h; rw [HS1.out] at h; exact ⟨by omega, by omega⟩))
    have HD := Lib.hid (hD.mono (K' := fun b => b ≠ W.heap.size ∧ W.heap.size ≤ b) (fun b _ h => by have h : _ ≤ b := h; rw [HS1.out] at h; exact ⟨by omega, by omega⟩))
    clear hz hI hD HS1 HB1 HP1
    go_wp2
    have hX := HPV.out.stored (a' := (.int .i64 (fstK bs))) (b' := (.slice a1 n1 c1)) (c' := (.slice a2 n2 c2)) (d' := (.slice none 0 0)) (e' := (.int .i64 0))
    have hK := kept_stored5 V W.heap.size (.int .i64 (fstK bs)) (.slice a1 n1 c1) (.slice a2 n2 c2) (.slice none 0 0) (.int .i64 0)
    have HBX := HBV.out.trans (Below.of_but hK (Nat.le_refl _) (Nat.le_of_lt HSV.out))
    clear p0 p1 p2 p3 p4 pf0 pf1 pf2 pf3 pf4
    generalize ((((V.setCell ⟨W.heap.size, 0, none⟩ (.int .i64 (fstK bs))).setCell ⟨W.heap.size, 1, none⟩ (.slice a1 n1 c1)).setCell ⟨W.heap.size, 2, none⟩ (.slice a2 n2 c2)).setCell ⟨W.heap.size, 3, none⟩ (.slice none 0 0)).setCell ⟨W.heap.size, 4, none⟩ (.int .i64 0) = X at *
    have hbA : Below X.heap.size X (X.alloc (.cells #[.int .i64 (fstK bs), .slice a1 n1 c1, .slice a2 n2 c2] 25)) := (Below.refl _ _).alloc (Nat.le_refl _) _
    obtain ⟨g0, g1, g2, g3, g4⟩ := (hX.below hbA hX.lt).cell
    exact bodyPost_ret (v := .agg #[.int .i64 (fstK bs), .slice a1 n1 c1, .slice a2 n2 c2, .slice none 0 0, .int .i64 0]) (by simp [results, Try.results14, go_sem, g0, g1, g2, g3, g4]) rfl ⟨HBX.alloc HBX.size _, .inl ⟨HZ.out, a1, n1, c1, a2, n2, c2, rfl, ((HI.out.kept (hK.mono fun b h => h.1)).below hbA).mono fun b _ h => h.2, ((HD.out.kept (hK.mono fun b h => h.1)).below hbA).mono fun b _ h => h.2⟩⟩
  · have HZ := Lib.hid hz
    clear hz HS1 HB1 HP1
    obtain ⟨x, hx⟩ : ∃ x, openE bs = x := ⟨_, rfl⟩
    have HX := Lib.hid hx
    rw [hx]
    clear hx
    go_wp2
    have hX := HPV.out.stored (a' := (.int .i64 0)) (b' := (.slice none 0 0)) (c' := (.slice none 0 0)) (d' := (.slice none 0 0)) (e' := (.int .i64 x))
    have hK := kept_stored5 V W.heap.size (.int .i64 0) (.slice none 0 0) (.slice none 0 0) (.slice none 0 0) (.int .i64 x)
    have HBX := HBV.out.trans (Below.of_but hK (Nat.le_refl _) (Nat.le_of_lt HSV.out))
    clear p0 p1 p2 p3 p4 pf0 pf1 pf2 pf3 pf4
    generalize ((((V.setCell ⟨W.heap.size, 0, none⟩ (.int .i64 0)).setCell ⟨W.heap.size, 1, none⟩ (.slice none 0 0)).setCell ⟨W.heap.size, 2, none⟩ (.slice none 0 0)).setCell ⟨W.heap.size, 3, none⟩ (.slice none 0 0)).setCell ⟨W.heap.size, 4, none⟩ (.int .i64 x) = X at *
    have hbA : Below X.heap.size X (X.alloc (.cells #[.int .i64 0, .slice none 0 0, .slice none 0 0] 25)) := (Below.refl _ _).alloc (Nat.le_refl _) _
    obtain ⟨g0, g1, g2, g3, g4⟩ := (hX.below hbA hX.lt).cell
    exact bodyPost_ret (v := .agg #[.int .i64 0, .slice none 0 0, .slice none 0 0, .slice none 0 0, .int .i64 x]) (by simp [results, Try.results14, go_sem, g0, g1, g2, g3, g4]) rfl ⟨HBX.alloc HBX.size _, .inr ⟨HZ.out, by rw [HX.out]⟩⟩

/-- What splitting comes to, as the laws have it. -/
def PartsPost (K : Nat → Prop) (bs : List Int) (W : World) (e : Ending) (V : World) : Prop :=
  Below W.heap.size W V ∧ ∃ a1 n1 c1 a2 n2 c2, e = .returned (.agg #[.slice a1 n1 c1, .slice a2 n2 c2]) ∧ RdFs (fun b => W.heap.size ≤ b) (fun b => W.heap.size ≤ b) V a1 n1 c1 (splS bs).1 ∧ Rd K V .u8 a2 n2 c2 (splS bs).2

theorem RdFs.kept {K L : Nat → Prop} {A B : World} {a : Option Addr} {len cap : Nat} {fs : List Fl} (h : RdFs K L A a len cap fs) (hk : Kept K A B) (hk2 : Kept L A B) : RdFs K L B a len cap fs :=
  ⟨h.hl, h.fit, h.top, h.small, fun h0 => by
    obtain ⟨b, off, e, hb, hlt, hc⟩ := h.cells h0
    exact ⟨b, off, e, hb, Nat.lt_of_lt_of_le hlt hk.size, fun j hj => by
      obtain ⟨e, h1, h2, h3, h4⟩ := hc j hj
      exact ⟨e, (World.cell?_of_block (w := A) (hk.block b hlt hb)).trans h1, (World.cell?_of_block (w := A) (hk.block b hlt hb)).trans h2, (World.cell?_of_block (w := A) (hk.block b hlt hb)).trans h3, h4.kept hk2⟩⟩⟩

set_option maxRecDepth 100000 in
set_option maxHeartbeats 1000000 in
theorem parts_any {K : Nat → Prop} {a : Option Addr} {n c : Nat} {bs : List Int} {W : World} (hR : Rd K W .u8 a n c bs) (ho : Oct bs) (hn : n ≤ 900000) :
    Calls Try.prog 11 #[.slice a n c] W (PartsPost K bs W) := by
  have hb1 : Below W.heap.size W (W.alloc (.cells #[.slice none 0 0, .slice none 0 0] 38)) := (Below.refl _ _).alloc (Nat.le_refl _) _
  have hp1 := Pair.new W 38 (.slice none 0 0) (.slice none 0 0)
  have HT := Lib.hid (split_any ((hR.mono (K' := fun b => K b ∧ b < W.heap.size) (fun b hlt hk => ⟨hk, hlt⟩)).below hb1) ho hn)
  have HB1 := Lib.hid hb1
  have HP1 := Lib.hid hp1
  have HS1 : Hid ((W.alloc (.cells #[.slice none 0 0, .slice none 0 0] 38)).heap.size = W.heap.size + 1) := World.size_alloc ..
  clear hb1 hp1 hR ho
  go_enter Try.func11, Try.ntmps11
  go_wp2_with fail
  refine HT.out.mono ?_
  rintro e V ⟨hb, a1, n1, c1, a2, n2, c2, rfl, hF, hR⟩
  have hpV := HP1.out.below hb HP1.out.lt
  have HBV : Hid (Below W.heap.size W V) := HB1.out.trans (hb.mono HB1.out.size)
  have HF := Lib.hid (hF.mono (K' := fun b => b ≠ W.heap.size ∧ W.heap.size ≤ b) (L' := fun b => b ≠ W.heap.size ∧ W.heap.size ≤ b) (fun b _ h => by have h : _ ≤ b := h; rw [HS1.out] at h; exact ⟨by omega, by omega⟩) (fun b _ h => by have h : _ ≤ b := h; rw [HS1.out] at h; exact ⟨by omega, by omega⟩))
  have HR := Lib.hid hR
  have HBX : Hid (∀ v0 v1 : Value, Below W.heap.size W ((V.setCell ⟨W.heap.size, 0, none⟩ v0).setCell ⟨W.heap.size, 1, none⟩ v1)) := fun v0 v1 => (HBV.out.setCell (Nat.le_refl _) _).setCell (Nat.le_refl _) _
  have HKX : Hid (∀ v0 v1 : Value, Kept (fun b => b ≠ W.heap.size) V ((V.setCell ⟨W.heap.size, 0, none⟩ v0).setCell ⟨W.heap.size, 1, none⟩ v1)) := fun v0 v1 => (kept_set V _ 0 v0).trans (kept_set _ _ 1 v1)
  have p0 := hpV.c0
  have p1 := hpV.c1
  have pf0 := hpV.f 0
  have pf1 := hpV.f 1
  have plt := hpV.lt
  clear hb hF hR hpV HT HS1 HB1 HP1
  go_wp2
  exact bodyPost_ret (v := .agg #[.slice a1 n1 c1, .slice a2 n2 c2]) (by simp [results, Try.results11, go_sem, p0, p1]) rfl
    ⟨HBX.out _ _, a1, n1, c1, a2, n2, c2, rfl, (HF.out.kept ((HKX.out _ _).mono fun b h => h.1) ((HKX.out _ _).mono fun b h => h.1)).mono (fun b _ h => h.2) (fun b _ h => h.2), (HR.out.kept ((HKX.out _ _).mono fun b h => by have := h.2; omega)).mono fun b _ h => h.1⟩

/-! ### Equal files -/

def sameX (k : Int) (id data : List Int) (k' : Int) (id' data' : List Int) : Bool := decide ((k = k' ∧ id = id') ∧ data = data')
theorem sameX_iff {k k' : Int} {id data id' data' : List Int} : sameX k id data k' id' data' = true ↔ k = k' ∧ id = id' ∧ data = data' := by unfold sameX; rw [decide_eq_true_iff, and_assoc]

set_option maxRecDepth 100000 in
set_option maxHeartbeats 1000000 in
theorem rsame_any {K1 K2 K3 K4 : Nat → Prop} {k k' : Int} {a1 a2 a1' a2' : Option Addr} {n1 c1 n2 c2 n1' c1' n2' c2' : Nat} {id data id' data' : List Int} {w : World} (h1 : Rd K1 w .i64 a1 n1 c1 id) (h2 : Rd K2 w .u8 a2 n2 c2 data) (h1' : Rd K3 w .i64 a1' n1' c1' id') (h2' : Rd K4 w .u8 a2' n2' c2' data')
    (hn : n1 ≤ 100000000) (hn' : n1' ≤ 100000000) :
    Calls Try.prog 25 #[.agg #[.int .i64 k, .slice a1 n1 c1, .slice a2 n2 c2], .agg #[.int .i64 k', .slice a1' n1' c1', .slice a2' n2' c2']] w fun e V => e = .returned (.bool (sameX k id data k' id' data')) ∧ Below w.heap.size w V := by
  have hb1 : Below w.heap.size w (w.alloc (.cells #[.int .i64 k, .slice a1 n1 c1, .slice a2 n2 c2] 25)) := (Below.refl _ _).alloc (Nat.le_refl _) _
  have hq1 := FileB.new w k (.slice a1 n1 c1) (.slice a2 n2 c2)
  have hs1 : (w.alloc (.cells #[.int .i64 k, .slice a1 n1 c1, .slice a2 n2 c2] 25)).heap.size = w.heap.size + 1 := World.size_alloc ..
  generalize hW1 : w.alloc (.cells #[.int .i64 k, .slice a1 n1 c1, .slice a2 n2 c2] 25) = W1 at *
  have hb2 : Below W1.heap.size W1 (W1.alloc (.cells #[.int .i64 k', .slice a1' n1' c1', .slice a2' n2' c2'] 25)) := (Below.refl _ _).alloc (Nat.le_refl _) _
  have hq2 := FileB.new W1 k' (.slice a1' n1' c1') (.slice a2' n2' c2')
  have hq1' := hq1.below hb2 hq1.lt
  rw [hs1] at hq2
  have hbb := hb1.trans (hb2.mono hb1.size)
  have HR1 := Lib.hid (h1.below hbb)
  have HR2 := Lib.hid (h2.below hbb)
  have HR1' := Lib.hid (h1'.below hbb)
  have HR2' := Lib.hid (h2'.below hbb)
  have HBB := Lib.hid hbb
  have HC := Lib.hid (rcmp_any (k := k) (k' := k') HR1.out HR1'.out hn hn' (.slice a2 n2 c2) (.slice a2' n2' c2'))
  have HQ1 := Lib.hid hq1'
  have HQ2 := Lib.hid hq2
  have HW1 := Lib.hid hW1
  clear h1 h2 h1' h2' hb1 hb2 hq1 hq1' hq2 hbb hs1 hn hn'
  rw [← hW1] at HR1 HR2 HR1' HR2' HBB HC HQ1 HQ2
  have q0 := HQ1.out.c0
  have q1 := HQ1.out.c1
  have q2 := HQ1.out.c2
  have r0 := HQ2.out.c0
  have r1 := HQ2.out.c1
  have r2 := HQ2.out.c2
  clear hW1 HW1
  by_cases hz : cmpF k id k' id' = 0
  · have HZ := Lib.hid (cmpF_zero.1 hz)
    have hzb : (cmpF k id k' id' == 0) = true := by simpa using hz
    clear hz
    generalize cmpF k id k' id' = x at *
    have HSD : Hid (sameB data data' = sameX k id data k' id' data') := by
      show _ = _; unfold sameB sameX; rw [decide_eq_decide]; exact ⟨fun h => ⟨HZ.out, h⟩, fun h => h.2⟩
    go_enter Try.func25, Try.ntmps25
    go_wp2_with fail
    refine HC.out.mono ?_
    rintro e V ⟨rfl, hb⟩
    have hQ1 := HQ1.out.below hb HQ1.out.lt
    have hQ2 := HQ2.out.below hb HQ2.out.lt
    have HS1 := Lib.hid (HR2.out.below hb)
    have HS2 := Lib.hid (HR2'.out.below hb)
    have HBV : Hid (Below w.heap.size w V) := HBB.out.trans (hb.mono HBB.out.size)
    clear HC hb q0 q1 q2 r0 r1 r2 HR1 HR2 HR1' HR2' HBB HQ1 HQ2
    have q2 := hQ1.c2
    have r2 := hQ2.c2
    clear hQ1 hQ2
    go_wp2_with (go_at_call 8; refine (same_any HS1.out HS2.out).mono ?_; rintro e w' ⟨rfl, hb2⟩; have HB2 := Lib.hid hb2; clear hb2; rw [HSD.out])
    go_ret
    exact ⟨rfl, HBV.out.trans (HB2.out.mono HBV.out.size)⟩
  · have HZ : Hid (sameX k id data k' id' data' = false) := decide_eq_false (fun h => hz (cmpF_zero.2 h.1))
    have hzb : (cmpF k id k' id' == 0) = false := by simpa using hz
    clear hz
    generalize cmpF k id k' id' = x at *
    go_enter Try.func25, Try.ntmps25
    go_wp2_with (go_at_call 10; refine HC.out.mono ?_; rintro e V ⟨rfl, hb⟩; have HBV : Hid (Below w.heap.size w V) := HBB.out.trans (hb.mono HBB.out.size); clear hb)
    go_ret
    exact ⟨by rw [HZ.out]; rfl, HBV.out⟩

end Go.Proofs.Ytkfmgiacdlkmiaa
