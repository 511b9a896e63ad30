/-
  The law's own wrappers; fixed examples.
-/
import Derived.Test.YthmgbnlffkhblaaPkUnp3
namespace Go.Proofs.Ythmgbnlffkhblaa
open Go.RowKit Go.Shelf Go.ChangeShapes Go.WideShapes Go.ChangeAt

/-- Four cells in a block of their own. -/
def Quad (W : World) (B : Nat) (t : TypeId) (a b c d : Value) : Prop := W.heap[B]? = some (.cells #[a, b, c, d] t (0, 0))
theorem Quad.cell {W : World} {B : Nat} {t : TypeId} {a b c d : Value} (h : Quad W B t a b c d) : W.cell? ⟨B, 0, none⟩ = some a ∧ W.cell? ⟨B, 1, none⟩ = some b ∧ W.cell? ⟨B, 2, none⟩ = some c ∧ W.cell? ⟨B, 3, none⟩ = some d := by
  have h : W.heap[B]? = _ := h
  simp [World.cell?, h]
theorem Quad.f {W : World} {B : Nat} {t : TypeId} {a b c d : Value} (h : Quad W B t a b c d) (o : Nat) : W.frozen? ⟨B, o, none⟩ = false := by simp [World.frozen?, show W.heap[B]? = _ from h]
theorem Quad.lt {W : World} {B : Nat} {t : TypeId} {a b c d : Value} (h : Quad W B t a b c d) : B < W.heap.size := (Array.getElem?_eq_some_iff.1 h).1
theorem Quad.new (W : World) (t : TypeId) (a b c d : Value) : Quad (W.alloc (.cells #[a, b, c, d] t)) W.heap.size t a b c d := World.alloc_heap_new W _
theorem Quad.below {W V : World} {B n : Nat} {t : TypeId} {a b c d : Value} (h : Quad W B t a b c d) (hb : Below n W V) (hn : B < n) : Quad V B t a b c d := (hb.block B hn).trans h

theorem Rd.set {K : Nat → Prop} {A : World} {k : IntKind} {a : Option Addr} {len cap : Nat} {zs : List Int} (h : Rd K A k a len cap zs) (p : Addr) (v : Value) (hp : ¬ K p.block) : Rd K (A.setCell p v) k a len cap zs :=
  h.kept (Kept.of_grownBy (grownBy_set A p v) (fun r e => by cases e; exact hp))
theorem Rd.new (W : World) (k : IntKind) (t : TypeId) (zs : List Int) (n : Nat) (hn : n = zs.length) (hs : n ≤ 140737488351232) : Rd (fun b => W.heap.size ≤ b) (W.alloc (.cells (zs.map (Value.int k)).toArray t)) k (some ⟨W.heap.size, 0, none⟩) n n zs :=
  ⟨hn, Nat.le_refl _, by omega, hs, fun _ => ⟨W.heap.size, 0, rfl, Nat.le_refl _, by simp, fun j hj => by
    have h0 := World.alloc_heap_new W (.cells (zs.map (Value.int k)).toArray t)
    unfold World.cell?
    rw [h0]
    simp [List.getElem?_map, List.getElem?_eq_getElem (show j < zs.length by omega)]⟩⟩

/-- What the law's packing gives back. -/
def PackedPost (W : World) (zs : List Int) (e : Ending) (W' : World) : Prop :=
  ∃ g cap : Nat, e = .returned (.agg #[.slice (some ⟨g, 0, none⟩) zs.length cap, .int .i64 0]) ∧ Rd (fun b => W.heap.size ≤ b) W' .u8 (some ⟨g, 0, none⟩) zs.length cap zs ∧ Below W.heap.size W W'

theorem pack_len (zs : List Int) (hz : Smalls zs) (hl : zs.length ≤ 4096) : (packS zs).length ≤ 32789 := by
  have h1 := head_len zs hz (by omega)
  have h2 := wide_le zs
  have h3 : zs.length * wideS zs ≤ 4096 * 64 := Nat.mul_le_mul hl h2
  unfold packS gatherS
  rw [List.length_append, gB_length]
  unfold spaceS
  omega

set_option maxHeartbeats 1000000 in
theorem packed_any {K : Nat → Prop} {a : Option Addr} {len cap : Nat} {zs : List Int} (hz : Smalls zs) (hl : len ≤ 4096) {W : World} (hR : Rd K W .i64 a len cap zs) :
    Calls Try.prog 12 #[.slice a len cap] W (PackedPost W (packS zs)) := by
  have H := Lib.hid hR
  have hpl := pack_len zs hz (by rw [← hR.hl]; exact hl)
  clear hR
  go_enter Try.func12, Try.ntmps12
  go_wp2_with fail
  refine (pack_any hz hl (H.out.below ((Below.refl _ _).alloc (Nat.le_refl _) _))).mono ?_
  rintro e w1 ⟨g, c, rfl, hf, hrow, hb⟩
  have hp := (Pair.new W 28 (.slice none 0 0) (.int .i64 0)).below hb (by simp)
  have p0 := hp.c0
  have p1 := hp.c1
  have f0 := hp.f 0
  have f1 := hp.f 1
  have plt := hp.lt
  have hg := row_base hrow
  simp only [World.size_alloc] at hg
  have HR := Lib.hid (Rd.of_row rfl hf (by omega) hrow)
  have HB : Hid (Below W.heap.size W w1) := ((Below.refl _ _).alloc (Nat.le_refl _) _).trans (hb.mono (by simp))
  clear hb hp hrow
  go_wp2
  refine bodyPost_ret (v := .agg #[.slice (some ⟨g, 0, none⟩) (packS zs).length c, .int .i64 0]) (by simp [results, Try.results12, go_sem, p0, p1]) rfl ⟨g, c, rfl, ?_, (HB.out.setCell (Nat.le_refl _) _).setCell (Nat.le_refl _) _⟩
  refine ((HR.out.mono (K' := fun b => W.heap.size < b) (fun i _ h => by simp at h; omega)).kept ((Kept.of_grownBy (K := fun b => W.heap.size < b) (grownBy_set w1 ⟨W.heap.size, 0, none⟩ _) (fun r e => by cases e; exact fun h => by have h : W.heap.size < W.heap.size := h; omega)).trans (Kept.of_grownBy (grownBy_set _ ⟨W.heap.size, 1, none⟩ _) (fun r e => by cases e; exact fun h => by have h : W.heap.size < W.heap.size := h; omega)))).mono (fun i _ h => Nat.le_of_lt h)

set_option maxHeartbeats 1000000 in
theorem packed_long (a : Option Addr) (len cap : Nat) (hl : 4096 < len) (hl2 : len ≤ 140737488351232) (W : World) :
    Calls Try.prog 12 #[.slice a len cap] W fun e W' => e = .returned (.agg #[.slice none 0 0, .int .i64 2]) ∧ Below W.heap.size W W' := by
  go_enter Try.func12, Try.ntmps12
  go_wp2_with (go_at_call 47; ((with_reducible refine (pack_long a len cap hl hl2 _).mono ?_); rintro e w' ⟨rfl, rfl⟩))
  exact bodyPost_ret (v := .agg #[.slice none 0 0, .int .i64 2]) (by simp [results, Try.results12, go_sem]) rfl ⟨rfl, (Below.refl _ _).alloc (Nat.le_refl _) _⟩

set_option maxHeartbeats 1000000 in
theorem lread_good {K : Nat → Prop} {a : Option Addr} {len cap : Nat} {zs : List Int} (ho : Oct zs) {W : World} (hR : Rd K W .u8 a len cap zs) {u : Int} {c : Nat} (h : rdS zs = (u, c, 0)) :
    Calls Try.prog 24 #[.slice a len cap] W fun e W' => Below W.heap.size W W' ∧ ∃ a' n, e = .returned (gotV u (.slice none 0 0) (.slice a' n n) 0) ∧ Rd K W .u8 a' n n (zs.drop c) := by
  have H := Lib.hid (hR.mono (K' := fun b => K b ∧ b < W.heap.size) (fun b hlt hk => ⟨hk, hlt⟩))
  have HS := Lib.hid h
  clear hR h
  go_enter Try.func24, Try.ntmps24
  go_wp2_with fail
  refine (read_good ho (H.out.below ((Below.refl _ _).alloc (Nat.le_refl _) _)) HS.out).mono ?_
  rintro e w1 ⟨rfl, a', n, rfl, hR1⟩
  have HR1 := Lib.hid (hR1.back ((Below.refl _ _).alloc (Nat.le_refl _) _))
  clear hR1
  go_wp2
  exact bodyPost_ret (v := gotV u (.slice none 0 0) (.slice a' n n) 0) (by simp [results, Try.results24, go_sem, gotV]) rfl ⟨(Below.refl _ _).alloc (Nat.le_refl _) _, a', n, rfl, HR1.out⟩

set_option maxHeartbeats 1000000 in
theorem lread_bad {K : Nat → Prop} {a : Option Addr} {len cap : Nat} {zs : List Int} (ho : Oct zs) {W : World} (hR : Rd K W .u8 a len cap zs) {x : Int} (hx : x ≠ 0) (h : (rdS zs).2.2 = x) :
    Calls Try.prog 24 #[.slice a len cap] W fun e W' => e = .returned (gotV 0 (.slice none 0 0) (.slice none 0 0) x) ∧ Below W.heap.size W W' := by
  have H := Lib.hid hR
  have HS := Lib.hid h
  have HX := Lib.hid hx
  clear hR h hx
  go_enter Try.func24, Try.ntmps24
  go_wp2_with fail
  refine (read_bad ho (H.out.below ((Below.refl _ _).alloc (Nat.le_refl _) _)) HX.out HS.out).mono ?_
  rintro e w1 ⟨rfl, rfl⟩
  go_wp2
  exact bodyPost_ret (v := gotV 0 (.slice none 0 0) (.slice none 0 0) x) (by simp [results, Try.results24, go_sem, gotV]) rfl ⟨rfl, (Below.refl _ _).alloc (Nat.le_refl _) _⟩

theorem un_good {K : Nat → Prop} {a : Option Addr} {len cap : Nat} {bs : List Int} (ho : Oct bs) {W : World} (hR : Rd K W .u8 a len cap bs) {l : List Int} {c : Nat} (h : unS bs = (l, c, 0)) :
    Calls Try.prog 53 #[.slice a len cap] W fun e W' => Below W.heap.size W W' ∧ ∃ a1 n1 a2 m, e = .returned (.tuple #[.slice a1 n1 n1, .slice a2 m m, .int .i64 0]) ∧ Rd (fun b => W.heap.size ≤ b) W' .i64 a1 n1 n1 l ∧ Rd K W .u8 a2 m m (bs.drop c) :=
  (Unpack_any ho hR).mono fun e W' ⟨hb, hp⟩ => by
    rcases hp with ⟨_, a1, n1, a2, m, he, hr1, hr2⟩ | ⟨h1, _⟩
    · rw [h] at hr1 hr2; exact ⟨hb, a1, n1, a2, m, he, hr1, hr2⟩
    · rw [h] at h1; exact absurd rfl h1
theorem un_bad {K : Nat → Prop} {a : Option Addr} {len cap : Nat} {bs : List Int} (ho : Oct bs) {W : World} (hR : Rd K W .u8 a len cap bs) {x : Int} (hx : x ≠ 0) (h : (unS bs).2.2 = x) :
    Calls Try.prog 53 #[.slice a len cap] W fun e W' => e = .returned (.tuple #[.slice none 0 0, .slice none 0 0, .int .i64 x]) ∧ Below W.heap.size W W' :=
  (Unpack_any ho hR).mono fun e W' ⟨hb, hp⟩ => by
    rcases hp with ⟨h1, _⟩ | ⟨_, he⟩
    · exact absurd (h.symm.trans h1) hx
    · rw [h] at he; exact ⟨he, hb⟩

set_option maxHeartbeats 1000000 in
theorem unpacked_good {K : Nat → Prop} {a : Option Addr} {len cap : Nat} {bs : List Int} (ho : Oct bs) {W : World} (hR : Rd K W .u8 a len cap bs) {l : List Int} {c : Nat} (h : unS bs = (l, c, 0)) :
    Calls Try.prog 26 #[.slice a len cap] W fun e W' => Below W.heap.size W W' ∧ ∃ a1 n1 a2 m, e = .returned (gotV 0 (.slice a1 n1 n1) (.slice a2 m m) 0) ∧ Rd (fun b => W.heap.size ≤ b) W' .i64 a1 n1 n1 l ∧ Rd K W .u8 a2 m m (bs.drop c) := by
  have H := Lib.hid (hR.mono (K' := fun b => K b ∧ b < W.heap.size) (fun b hlt hk => ⟨hk, hlt⟩))
  have HS := Lib.hid h
  clear hR h
  go_enter Try.func26, Try.ntmps26
  go_wp2_with fail
  refine (un_good ho (H.out.below ((Below.refl _ _).alloc (Nat.le_refl _) _)) HS.out).mono ?_
  rintro e w1 ⟨hb, a1, n1, a2, m, rfl, hR1, hR2⟩
  have hq := (Quad.new W 37 (.int .u64 0) (.slice none 0 0) (.slice none 0 0) (.int .i64 0)).below hb (by simp)
  obtain ⟨q0, q1, q2, q3⟩ := hq.cell
  have f0 := hq.f 0
  have f1 := hq.f 1
  have f2 := hq.f 2
  have f3 := hq.f 3
  have qlt := hq.lt
  have HR2 := Lib.hid (hR2.back ((Below.refl _ _).alloc (Nat.le_refl _) _))
  have HR1 : Hid (Rd (fun b => W.heap.size < b) w1 .i64 a1 n1 n1 l) := hR1.mono (fun i _ h => by simp at h; omega)
  have HB : Hid (Below W.heap.size W w1) := ((Below.refl _ _).alloc (Nat.le_refl _) _).trans (hb.mono (by simp))
  clear hb hq hR1 hR2
  go_wp2
  refine bodyPost_ret (v := gotV 0 (.slice a1 n1 n1) (.slice a2 m m) 0) (by simp [results, Try.results26, go_sem, gotV, q0, q1, q2, q3]) rfl ⟨(((HB.out.setCell (Nat.le_refl _) _).setCell (Nat.le_refl _) _).setCell (Nat.le_refl _) _).setCell (Nat.le_refl _) _, a1, n1, a2, m, rfl, ?_, HR2.out⟩
  exact ((((HR1.out.set ⟨W.heap.size, 0, none⟩ _ (fun h => by have h : W.heap.size < W.heap.size := h; omega)).set ⟨W.heap.size, 1, none⟩ _ (fun h => by have h : W.heap.size < W.heap.size := h; omega)).set ⟨W.heap.size, 2, none⟩ _ (fun h => by have h : W.heap.size < W.heap.size := h; omega)).set ⟨W.heap.size, 3, none⟩ _ (fun h => by have h : W.heap.size < W.heap.size := h; omega)).mono fun i _ h => Nat.le_of_lt h

set_option maxHeartbeats 1000000 in
theorem unpacked_bad {K : Nat → Prop} {a : Option Addr} {len cap : Nat} {bs : List Int} (ho : Oct bs) {W : World} (hR : Rd K W .u8 a len cap bs) {x : Int} (hx : x ≠ 0) (h : (unS bs).2.2 = x) :
    Calls Try.prog 26 #[.slice a len cap] W fun e W' => e = .returned (gotV 0 (.slice none 0 0) (.slice none 0 0) x) ∧ Below W.heap.size W W' := by
  have H := Lib.hid hR
  have HS := Lib.hid h
  have HX := Lib.hid hx
  clear hR h hx
  go_enter Try.func26, Try.ntmps26
  go_wp2_with fail
  refine (un_bad ho (H.out.below ((Below.refl _ _).alloc (Nat.le_refl _) _)) HX.out HS.out).mono ?_
  rintro e w1 ⟨rfl, hb⟩
  have hq := (Quad.new W 37 (.int .u64 0) (.slice none 0 0) (.slice none 0 0) (.int .i64 0)).below hb (by simp)
  obtain ⟨q0, q1, q2, q3⟩ := hq.cell
  have f0 := hq.f 0
  have f1 := hq.f 1
  have f2 := hq.f 2
  have f3 := hq.f 3
  have qlt := hq.lt
  have HB : Hid (Below W.heap.size W w1) := ((Below.refl _ _).alloc (Nat.le_refl _) _).trans (hb.mono (by simp))
  clear hb hq
  go_wp2
  exact bodyPost_ret (v := gotV 0 (.slice none 0 0) (.slice none 0 0) x) (by simp [results, Try.results26, go_sem, gotV, q0, q1, q2, q3]) rfl ⟨rfl, (((HB.out.setCell (Nat.le_refl _) _).setCell (Nat.le_refl _) _).setCell (Nat.le_refl _) _).setCell (Nat.le_refl _) _⟩

/-! ### The examples' values -/
theorem exP1 : packS [5, 3, 6] = [3, 6, 2, 50] := by
  have h1 : (zz (minS [5, 3, 6])).toNat = 6 := by decide +kernel
  have h2 : widthS [5, 3, 6] = 2 := by decide +kernel
  have h3 : gatherS (bitsS [5, 3, 6]) (spaceS [5, 3, 6]) = [50] := by decide +kernel
  unfold packS headS
  rw [if_neg (by decide), h1, h2, h3, varN_lo (by decide), varN_lo (by decide)]; rfl
theorem exP2 : packS [] = [0] := by
  have h3 : gatherS (bitsS []) (spaceS []) = [] := by decide +kernel
  unfold packS headS
  rw [if_pos rfl, h3, varN_lo (by decide)]; rfl
theorem exP3 : packS [7, 7] = [2, 14, 0] := by
  have h1 : (zz (minS [7, 7])).toNat = 14 := by decide +kernel
  have h2 : widthS [7, 7] = 0 := by decide +kernel
  have h3 : gatherS (bitsS [7, 7]) (spaceS [7, 7]) = [] := by decide +kernel
  unfold packS headS
  rw [if_neg (by decide), h1, h2, h3, varN_lo (by decide), varN_lo (by decide)]; rfl
theorem exV : varN 300 = [172, 2] := by rw [varN_hi (by decide), varN_lo (by decide)]; rfl
theorem exS : sizeS [7, 7] = 3 := by
  have h1 : (zz (minS [7, 7])).toNat = 14 := by decide +kernel
  have h2 : widthS [7, 7] = 0 := by decide +kernel
  have h3 : spaceS [7, 7] = 0 := by decide +kernel
  unfold sizeS headS
  rw [if_neg (by decide), h1, h2, h3, varN_lo (by decide), varN_lo (by decide)]; rfl
theorem exU1 : unS [3, 6, 2, 50, 9] = ([5, 3, 6], 4, 0) := by decide +kernel
theorem exU2 : (unS [3, 6, 2, 114]).2.2 = 5 := by decide +kernel
theorem exU3 : (unS [3, 6, 2]).2.2 = 7 := by decide +kernel
theorem exR1 : (rdS [128, 0]).2.2 = 5 := by decide +kernel
theorem exR2 : (rdS [128]).2.2 = 7 := by decide +kernel

end Go.Proofs.Ythmgbnlffkhblaa
