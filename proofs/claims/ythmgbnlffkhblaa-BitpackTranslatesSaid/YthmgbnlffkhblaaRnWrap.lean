/-
  The law's own wrappers.
-/
import Derived.Test.YthmgbnlffkhblaaRnDec
import Derived.Test.YthmgbnlffkhblaaRnMake
namespace Go.Proofs.Ythmgbnlffkhblaa
open Go.RowKit Go.Shelf Go.ChangeShapes Go.WideShapes Go.ChangeAt

theorem kind_any {K : Nat → Prop} {a : Option Addr} {len cap : Nat} {zs : List Int} (hz : Smalls zs) (hl40 : len ≤ 1099511627776) {W : World} (hR : Rd K W .i64 a len cap zs) :
    Calls Try.prog 41 #[.slice a len cap] W fun e W' => e = .returned (.int .i64 (kindS zs)) ∧ Below W.heap.size W W' := kind_of forms_any hz hl40 hR
theorem encode_any {K : Nat → Prop} {a : Option Addr} {len cap : Nat} {zs : List Int} (hz : Smalls zs) (hl : len ≤ 4096) {W : World} (hR : Rd K W .i64 a len cap zs) :
    Calls Try.prog 55 #[.slice a len cap] W (EncE W (enS zs)) := encode_of forms_any hz hl hR
theorem decode_any {K : Nat → Prop} {a : Option Addr} {len cap : Nat} {bs : List Int} (ho : Oct bs) {W : World} (hR : Rd K W .u8 a len cap bs) :
    Calls Try.prog 65 #[.slice a len cap] W (DePost K bs W) := decode_of forms_any ho hR
theorem de_ok {K : Nat → Prop} {a : Option Addr} {len cap : Nat} {bs : List Int} (ho : Oct bs) {W : World} (hR : Rd K W .u8 a len cap bs) {l : List Int} {c : Nat} (h : deS bs = (l, c, 0)) :
    Calls Try.prog 65 #[.slice a len cap] W fun e W' => Below W.heap.size W W' ∧ ∃ a1 n1 c1 a2 m, e = .returned (.tuple #[.slice a1 n1 c1, .slice a2 m m, .int .i64 0]) ∧ Rd (fun b => W.heap.size ≤ b) W' .i64 a1 n1 c1 l ∧ Rd K W .u8 a2 m m (bs.drop c) :=
  (decode_any ho hR).mono fun e W' ⟨hb, hp⟩ => by
    rcases hp with ⟨_, a1, n1, c1, a2, m, he, hr1, hr2⟩ | ⟨h1, _⟩
    · rw [h] at hr1 hr2; exact ⟨hb, a1, n1, c1, a2, m, he, hr1, hr2⟩
    · rw [h] at h1; exact absurd rfl h1
theorem de_err {K : Nat → Prop} {a : Option Addr} {len cap : Nat} {bs : List Int} (ho : Oct bs) {W : World} (hR : Rd K W .u8 a len cap bs) {x : Int} (hx : x ≠ 0) (h : (deS bs).2.2 = x) :
    Calls Try.prog 65 #[.slice a len cap] W fun e W' => e = .returned (.tuple #[.slice none 0 0, .slice none 0 0, .int .i64 x]) ∧ Below W.heap.size W W' :=
  (decode_any ho hR).mono fun e W' ⟨hb, hp⟩ => by
    rcases hp with ⟨h1, _⟩ | ⟨_, he⟩
    · exact absurd (h.symm.trans h1) hx
    · rw [h] at he; exact ⟨he, hb⟩

/-- Three cells in a block of their own. -/
def Tri (W : World) (B : Nat) (t : TypeId) (a b c : Value) : Prop := W.heap[B]? = some (.cells #[a, b, c] t (0, 0))
theorem Tri.cell {W : World} {B : Nat} {t : TypeId} {a b c : Value} (h : Tri W B t a b c) : W.cell? ⟨B, 0, none⟩ = some a ∧ W.cell? ⟨B, 1, none⟩ = some b ∧ W.cell? ⟨B, 2, none⟩ = some c := by
  have h : W.heap[B]? = _ := h
  simp [World.cell?, h]
theorem Tri.f {W : World} {B : Nat} {t : TypeId} {a b c : Value} (h : Tri W B t a b c) (o : Nat) : W.frozen? ⟨B, o, none⟩ = false := by simp [World.frozen?, show W.heap[B]? = _ from h]
theorem Tri.lt {W : World} {B : Nat} {t : TypeId} {a b c : Value} (h : Tri W B t a b c) : B < W.heap.size := (Array.getElem?_eq_some_iff.1 h).1
theorem Tri.new (W : World) (t : TypeId) (a b c : Value) : Tri (W.alloc (.cells #[a, b, c] t)) W.heap.size t a b c := World.alloc_heap_new W _
theorem Tri.below {W V : World} {B n : Nat} {t : TypeId} {a b c : Value} (h : Tri W B t a b c) (hb : Below n W V) (hn : B < n) : Tri V B t a b c := (hb.block B hn).trans h

/-- What the law's encoding gives back. -/
def EncodedPost (W : World) (zs : List Int) (e : Ending) (W' : World) : Prop :=
  ∃ g n c : Nat, e = .returned (.agg #[.slice (some ⟨g, 0, none⟩) n c, .int .i64 0]) ∧ Rd (fun b => W.heap.size ≤ b) W' .u8 (some ⟨g, 0, none⟩) n c zs ∧ Below W.heap.size W W'

set_option maxHeartbeats 1000000 in
theorem encoded_any {K : Nat → Prop} {a : Option Addr} {len cap : Nat} {zs : List Int} (hz : Smalls zs) (hl : len ≤ 4096) {W : World} (hR : Rd K W .i64 a len cap zs) :
    Calls Try.prog 29 #[.slice a len cap] W (EncodedPost W (enS zs)) := by
  have H := Lib.hid hR
  clear hR
  go_enter Try.func29, Try.ntmps29
  go_wp2_with fail
  refine (encode_any hz hl (H.out.below ((Below.refl _ _).alloc (Nat.le_refl _) _))).mono ?_
  rintro e w1 ⟨g, n, c, rfl, hr, hb⟩
  have hp := (Pair.new W 47 (.slice none 0 0) (.int .i64 0)).below hb (by simp)
  have p0 := hp.c0
  have p1 := hp.c1
  have f0 := hp.f 0
  have f1 := hp.f 1
  have plt := hp.lt
  have HR : Hid (Rd (fun b => W.heap.size < b) w1 .u8 (some ⟨g, 0, none⟩) n c (enS zs)) := hr.mono fun i _ h => by simp at h; omega
  have HB : Hid (Below W.heap.size W w1) := ((Below.refl _ _).alloc (Nat.le_refl _) _).trans (hb.mono (by simp))
  clear hb hp hr
  go_wp2
  refine bodyPost_ret (v := .agg #[.slice (some ⟨g, 0, none⟩) n c, .int .i64 0]) (by simp [results, Try.results29, go_sem, p0, p1]) rfl ⟨g, n, c, rfl, ?_, (HB.out.setCell (Nat.le_refl _) _).setCell (Nat.le_refl _) _⟩
  exact ((HR.out.set ⟨W.heap.size, 0, none⟩ _ (fun h => by have h : W.heap.size < W.heap.size := h; omega)).set ⟨W.heap.size, 1, none⟩ _ (fun h => by have h : W.heap.size < W.heap.size := h; omega)).mono fun i _ h => Nat.le_of_lt h

set_option maxHeartbeats 1000000 in
theorem encoded_long (a : Option Addr) (len cap : Nat) (hl : 4096 < len) (hl2 : len ≤ 140737488351232) (W : World) :
    Calls Try.prog 29 #[.slice a len cap] W fun e W' => e = .returned (.agg #[.slice none 0 0, .int .i64 2]) ∧ Below W.heap.size W W' := by
  go_enter Try.func29, Try.ntmps29
  go_wp2_with fail
  refine (encode_long a len cap hl hl2 _).mono ?_
  rintro e w' ⟨rfl, rfl⟩
  go_wp2
  exact bodyPost_ret (v := .agg #[.slice none 0 0, .int .i64 2]) (by simp [results, Try.results29, go_sem]) rfl ⟨rfl, (Below.refl _ _).alloc (Nat.le_refl _) _⟩

/-- What the law's runs give back. -/
def RunsOfPost (W : World) (zs : List Int) (e : Ending) (W' : World) : Prop :=
  ∃ a1 n1 c1 a2 n2 c2, e = .returned (.agg #[.slice a1 n1 c1, .slice a2 n2 c2]) ∧ Rd (fun b => W.heap.size ≤ b) W' .i64 a1 n1 c1 (vals zs) ∧ Rd (fun b => W.heap.size ≤ b) W' .i64 a2 n2 c2 (lens zs) ∧ Below W.heap.size W W'

set_option maxHeartbeats 1000000 in
theorem runsOf_any {K : Nat → Prop} {a : Option Addr} {len cap : Nat} {zs : List Int} {W : World} (hR : Rd K W .i64 a len cap zs) (hl40 : len ≤ 1099511627776) :
    Calls Try.prog 34 #[.slice a len cap] W (RunsOfPost W zs) := by
  have H := Lib.hid hR
  clear hR
  go_enter Try.func34, Try.ntmps34
  go_wp2_with fail
  refine (runs_any (H.out.below ((Below.refl _ _).alloc (Nat.le_refl _) _)) hl40).mono ?_
  rintro e w1 ⟨a1, n1, c1, a2, n2, c2, rfl, hr1, hr2, hb⟩
  have hp := (Pair.new W 42 (.slice none 0 0) (.slice none 0 0)).below hb (by simp)
  have p0 := hp.c0
  have p1 := hp.c1
  have f0 := hp.f 0
  have f1 := hp.f 1
  have plt := hp.lt
  have HR1 : Hid (Rd (fun b => W.heap.size < b) w1 .i64 a1 n1 c1 (vals zs)) := hr1.mono fun i _ h => by simp at h; omega
  have HR2 : Hid (Rd (fun b => W.heap.size < b) w1 .i64 a2 n2 c2 (lens zs)) := hr2.mono fun i _ h => by simp at h; omega
  have HB : Hid (Below W.heap.size W w1) := ((Below.refl _ _).alloc (Nat.le_refl _) _).trans (hb.mono (by simp))
  clear hb hp hr1 hr2
  go_wp2
  refine bodyPost_ret (v := .agg #[.slice a1 n1 c1, .slice a2 n2 c2]) (by simp [results, Try.results34, go_sem, p0, p1]) rfl ⟨a1, n1, c1, a2, n2, c2, rfl, ?_, ?_, (HB.out.setCell (Nat.le_refl _) _).setCell (Nat.le_refl _) _⟩
  · exact ((HR1.out.set ⟨W.heap.size, 0, none⟩ _ (fun h => by have h : W.heap.size < W.heap.size := h; omega)).set ⟨W.heap.size, 1, none⟩ _ (fun h => by have h : W.heap.size < W.heap.size := h; omega)).mono fun i _ h => Nat.le_of_lt h
  · exact ((HR2.out.set ⟨W.heap.size, 0, none⟩ _ (fun h => by have h : W.heap.size < W.heap.size := h; omega)).set ⟨W.heap.size, 1, none⟩ _ (fun h => by have h : W.heap.size < W.heap.size := h; omega)).mono fun i _ h => Nat.le_of_lt h

/-- What the law's expanding gives back. -/
def ExpandedPost (W : World) (vs ns : List Int) (e : Ending) (W' : World) : Prop :=
  ∃ a n c, e = .returned (.agg #[.slice a n c, .int .i64 (xpS vs ns).2]) ∧ Rd (fun b => W.heap.size ≤ b) W' .i64 a n c (xpS vs ns).1 ∧ Below W.heap.size W W'

set_option maxHeartbeats 1000000 in
theorem expanded_any {K K' : Nat → Prop} {a a' : Option Addr} {len cap len' cap' : Nat} {vs ns : List Int} (hn : Smalls ns) {W : World} (hR : Rd K W .i64 a len cap vs) (hR' : Rd K' W .i64 a' len' cap' ns) :
    Calls Try.prog 31 #[.agg #[.slice a len cap, .slice a' len' cap']] W (ExpandedPost W vs ns) := by
  have H := Lib.hid hR
  have H' := Lib.hid hR'
  clear hR hR'
  go_enter Try.func31, Try.ntmps31
  go_wp2_with fail
  have hbA : Below W.heap.size W ((W.alloc (.cells #[.slice a len cap, .slice a' len' cap'] 42)).alloc (.cells #[.slice none 0 0, .int .i64 0] 50)) := ((Below.refl _ _).alloc (Nat.le_refl _) _).alloc (by simp) _
  refine (expand_any hn (H.out.below hbA) (H'.out.below hbA)).mono ?_
  rintro e w1 ⟨a1, n1, c1, rfl, hr1, hb⟩
  have hp := (Pair.new (W.alloc (.cells #[.slice a len cap, .slice a' len' cap'] 42)) 50 (.slice none 0 0) (.int .i64 0)).below hb (by simp)
  simp only [World.size_alloc] at hp
  have p0 := hp.c0
  have p1 := hp.c1
  have f0 := hp.f 0
  have f1 := hp.f 1
  have plt := hp.lt
  have HR1 : Hid (Rd (fun b => W.heap.size + 1 < b) w1 .i64 a1 n1 c1 (xpS vs ns).1) := hr1.mono fun i _ h => by simp at h; omega
  have HB : Hid (Below W.heap.size W w1) := hbA.trans (hb.mono hbA.size)
  clear hb hp hr1 hbA
  obtain ⟨x, hx⟩ : ∃ x, (xpS vs ns).2 = x := ⟨_, rfl⟩
  rw [hx]
  have HX := Lib.hid hx
  clear hx
  go_wp2
  refine bodyPost_ret (v := .agg #[.slice a1 n1 c1, .int .i64 x]) (by simp [results, Try.results31, go_sem, p0, p1]) rfl ?_
  refine ⟨a1, n1, c1, by rw [HX.out], ?_, (HB.out.setCell (Nat.le_succ _) _).setCell (Nat.le_succ _) _⟩
  exact ((HR1.out.set ⟨W.heap.size + 1, 0, none⟩ _ (fun h => by have h : W.heap.size + 1 < W.heap.size + 1 := h; omega)).set ⟨W.heap.size + 1, 1, none⟩ _ (fun h => by have h : W.heap.size + 1 < W.heap.size + 1 := h; omega)).mono fun i _ h => by omega

set_option maxHeartbeats 1000000 in
theorem decoded_good {K : Nat → Prop} {a : Option Addr} {len cap : Nat} {bs : List Int} (ho : Oct bs) {W : World} (hR : Rd K W .u8 a len cap bs) {l : List Int} {c : Nat} (h : deS bs = (l, c, 0)) :
    Calls Try.prog 44 #[.slice a len cap] W fun e W' => Below W.heap.size W W' ∧ ∃ a1 n1 c1 a2 m, e = .returned (.agg #[.slice a1 n1 c1, .slice a2 m m, .int .i64 0]) ∧ Rd (fun b => W.heap.size ≤ b) W' .i64 a1 n1 c1 l ∧ Rd K W .u8 a2 m m (bs.drop c) := by
  have H := Lib.hid (hR.mono (K' := fun b => K b ∧ b < W.heap.size) (fun b hlt hk => ⟨hk, hlt⟩))
  have HS := Lib.hid h
  clear hR h
  go_enter Try.func44, Try.ntmps44
  go_wp2_with fail
  refine (de_ok ho (H.out.below ((Below.refl _ _).alloc (Nat.le_refl _) _)) HS.out).mono ?_
  rintro e w1 ⟨hb, a1, n1, c1, a2, m, rfl, hR1, hR2⟩
  have hq := (Tri.new W 58 (.slice none 0 0) (.slice none 0 0) (.int .i64 0)).below hb (by simp)
  obtain ⟨q0, q1, q2⟩ := hq.cell
  have f0 := hq.f 0
  have f1 := hq.f 1
  have f2 := hq.f 2
  have qlt := hq.lt
  have HR2 := Lib.hid (hR2.back ((Below.refl _ _).alloc (Nat.le_refl _) _))
  have HR1 : Hid (Rd (fun b => W.heap.size < b) w1 .i64 a1 n1 c1 l) := hR1.mono (fun i _ h => by simp at h; omega)
  have HB : Hid (Below W.heap.size W w1) := ((Below.refl _ _).alloc (Nat.le_refl _) _).trans (hb.mono (by simp))
  clear hb hq hR1 hR2
  go_wp2
  refine bodyPost_ret (v := .agg #[.slice a1 n1 c1, .slice a2 m m, .int .i64 0]) (by simp [results, Try.results44, go_sem, q0, q1, q2]) rfl ⟨((HB.out.setCell (Nat.le_refl _) _).setCell (Nat.le_refl _) _).setCell (Nat.le_refl _) _, a1, n1, c1, a2, m, rfl, ?_, HR2.out⟩
  exact (((HR1.out.set ⟨W.heap.size, 0, none⟩ _ (fun h => by have h : W.heap.size < W.heap.size := h; omega)).set ⟨W.heap.size, 1, none⟩ _ (fun h => by have h : W.heap.size < W.heap.size := h; omega)).set ⟨W.heap.size, 2, none⟩ _ (fun h => by have h : W.heap.size < W.heap.size := h; omega)).mono fun i _ h => Nat.le_of_lt h

set_option maxHeartbeats 1000000 in
theorem decoded_bad {K : Nat → Prop} {a : Option Addr} {len cap : Nat} {bs : List Int} (ho : Oct bs) {W : World} (hR : Rd K W .u8 a len cap bs) {x : Int} (hx : x ≠ 0) (h : (deS bs).2.2 = x) :
    Calls Try.prog 44 #[.slice a len cap] W fun e W' => e = .returned (.agg #[.slice none 0 0, .slice none 0 0, .int .i64 x]) ∧ Below W.heap.size W W' := by
  have H := Lib.hid hR
  have HS := Lib.hid h
  have HX := Lib.hid hx
  clear hR h hx
  go_enter Try.func44, Try.ntmps44
  go_wp2_with fail
  refine (de_err ho (H.out.below ((Below.refl _ _).alloc (Nat.le_refl _) _)) HX.out HS.out).mono ?_
  rintro e w1 ⟨rfl, hb⟩
  have hq := (Tri.new W 58 (.slice none 0 0) (.slice none 0 0) (.int .i64 0)).below hb (by simp)
  obtain ⟨q0, q1, q2⟩ := hq.cell
  have f0 := hq.f 0
  have f1 := hq.f 1
  have f2 := hq.f 2
  have qlt := hq.lt
  have HB : Hid (Below W.heap.size W w1) := ((Below.refl _ _).alloc (Nat.le_refl _) _).trans (hb.mono (by simp))
  clear hb hq
  go_wp2
  exact bodyPost_ret (v := .agg #[.slice none 0 0, .slice none 0 0, .int .i64 x]) (by simp [results, Try.results44, go_sem, q0, q1, q2]) rfl ⟨rfl, ((HB.out.setCell (Nat.le_refl _) _).setCell (Nat.le_refl _) _).setCell (Nat.le_refl _) _⟩

set_option maxHeartbeats 1000000 in
theorem samePair_true {K1 K2 K3 K4 : Nat → Prop} {a1 a2 a3 a4 : Option Addr} {n1 c1 n2 c2 n3 c3 n4 c4 : Nat} {xs ys : List Int} {W : World} (h1 : Rd K1 W .i64 a1 n1 c1 xs) (h2 : Rd K2 W .i64 a2 n2 c2 ys) (h3 : Rd K3 W .i64 a3 n3 c3 xs) (h4 : Rd K4 W .i64 a4 n4 c4 ys) :
    Calls Try.prog 33 #[.agg #[.slice a1 n1 c1, .slice a2 n2 c2], .agg #[.slice a3 n3 c3, .slice a4 n4 c4]] W fun e W' => e = .returned (.bool true) ∧ Below W.heap.size W W' := by
  have hbA : Below W.heap.size W ((W.alloc (.cells #[.slice a1 n1 c1, .slice a2 n2 c2] 42)).alloc (.cells #[.slice a3 n3 c3, .slice a4 n4 c4] 42)) := ((Below.refl _ _).alloc (Nat.le_refl _) _).alloc (by simp) _
  have HI1 := Lib.hid (ints_any (h1.below hbA) (h3.below hbA))
  have HI2 : Hid (∀ V, Below ((W.alloc (.cells #[.slice a1 n1 c1, .slice a2 n2 c2] 42)).alloc (.cells #[.slice a3 n3 c3, .slice a4 n4 c4] 42)).heap.size ((W.alloc (.cells #[.slice a1 n1 c1, .slice a2 n2 c2] 42)).alloc (.cells #[.slice a3 n3 c3, .slice a4 n4 c4] 42)) V → Calls Try.prog 36 #[.slice a2 n2 c2, .slice a4 n4 c4] V fun e w' => e = .returned (.bool true) ∧ Below V.heap.size V w') := fun V hV => by
    have := ints_any ((h2.below hbA).below hV) ((h4.below hbA).below hV)
    rwa [sameB_true rfl] at this
  rw [sameB_true rfl] at HI1
  have P1 := (Pair.new W 42 (.slice a1 n1 c1) (.slice a2 n2 c2)).alloc (.cells #[.slice a3 n3 c3, .slice a4 n4 c4] 42)
  have P2 := Pair.new (W.alloc (.cells #[.slice a1 n1 c1, .slice a2 n2 c2] 42)) 42 (.slice a3 n3 c3) (.slice a4 n4 c4)
  simp only [World.size_alloc] at P2
  have HP1 := Lib.hid P1
  have HP2 := Lib.hid P2
  have HBA := Lib.hid hbA
  clear h1 h2 h3 h4 hbA P1 P2
  go_enter Try.func33, Try.ntmps33
  go_wp2_with fail
  refine HI1.out.mono ?_
  rintro e w1 ⟨rfl, hb1⟩
  have p1 := (HP1.out.below hb1 HP1.out.lt).c1
  have p2 := (HP2.out.below hb1 HP2.out.lt).c1
  have HB1 := Lib.hid hb1
  clear hb1
  go_wp2_with fail
  refine (HI2.out _ HB1.out).mono ?_
  rintro e w2 ⟨rfl, hb2⟩
  have HB2 := Lib.hid hb2
  clear hb2
  go_wp2
  go_ret
  have h := HB1.out.trans (HB2.out.mono HB1.out.size)
  exact ⟨rfl, HBA.out.trans (h.mono HBA.out.size)⟩

end Go.Proofs.Ythmgbnlffkhblaa
