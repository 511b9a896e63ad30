/-
  What the reference unpacks.
-/
import Derived.Test.YtdcapmbgnoahpaaDcRf5
import Derived.Test.YtdcapmbgnoahpaaDcRfM
import Derived.Lib.QuietBelow
namespace Go.Proofs.Ytdcapmbgnoahpaa
open Go Go.RowKit Go.Shelf Go.Sort Go.ChangeShapes Go.WideShapes Go.ChangeAt

/-- Three cells in a block of their own. -/
def Tre (W : World) (B : Nat) (t : TypeId) (a b c : Value) : Prop := W.heap[B]? = some (.cells #[a, b, c] t (0, 0))
theorem Tre.new (W : World) (t : TypeId) (a b c : Value) : Tre (W.alloc (.cells #[a, b, c] t)) W.heap.size t a b c := World.alloc_heap_new W _
theorem Tre.lt {W : World} {B : Nat} {t : TypeId} {a b c : Value} (h : Tre W B t a b c) : B < W.heap.size := (Array.getElem?_eq_some_iff.1 h).1
theorem Tre.cell {W : World} {B : Nat} {t : TypeId} {a b c : Value} (h : Tre W B t a b c) : W.cell? ⟨B, 0, none⟩ = some a ∧ W.cell? ⟨B, 1, none⟩ = some b ∧ W.cell? ⟨B, 2, none⟩ = some c := by
  have h : W.heap[B]? = _ := h
  simp [World.cell?, h]
theorem Tre.f {W : World} {B : Nat} {t : TypeId} {a b c : Value} (h : Tre W B t a b c) (o : Nat) : W.frozen? ⟨B, o, none⟩ = false := by simp [World.frozen?, show W.heap[B]? = _ from h]
theorem Tre.below {W V : World} {B n : Nat} {t : TypeId} {a b c : Value} (h : Tre W B t a b c) (hb : Below n W V) (hn : B < n) : Tre V B t a b c := (hb.block B hn).trans h
theorem Tre.grown {W V : World} {B : Nat} {t : TypeId} {a b c : Value} {r : Option Nat} (h : Tre W B t a b c) (hg : W.grownBy V r) (hr : some B ≠ r) : Tre V B t a b c := (hg.block B h.lt hr).trans h
theorem Quad.grown {W V : World} {B : Nat} {t : TypeId} {a b c d : Value} {r : Option Nat} (h : Quad W B t a b c d) (hg : W.grownBy V r) (hr : some B ≠ r) : Quad V B t a b c d := (hg.block B h.lt hr).trans h
theorem Tre.put0 {W : World} {B : Nat} {t : TypeId} {a b c : Value} (h : Tre W B t a b c) (x : Value) : Tre (W.setCell ⟨B, 0, none⟩ x) B t x b c := by unfold Tre at *; simp [World.setCell, Array.getElem?_modify, h]
theorem Tre.put1 {W : World} {B : Nat} {t : TypeId} {a b c : Value} (h : Tre W B t a b c) (x : Value) : Tre (W.setCell ⟨B, 1, none⟩ x) B t a x c := by unfold Tre at *; simp [World.setCell, Array.getElem?_modify, h]
theorem Tre.other {W : World} {B B' i : Nat} {t : TypeId} {a b c : Value} (h : Tre W B t a b c) (hn : B ≠ B') (x : Value) : Tre (W.setCell ⟨B', i, none⟩ x) B t a b c := by unfold Tre at *; simp [World.setCell, Array.getElem?_modify, Ne.symm hn, h]
theorem Quad.other {W : World} {B B' i : Nat} {t : TypeId} {a b c d : Value} (h : Quad W B t a b c d) (hn : B ≠ B') (x : Value) : Quad (W.setCell ⟨B', i, none⟩ x) B t a b c d := by unfold Quad at *; simp [World.setCell, Array.getElem?_modify, Ne.symm hn, h]
theorem below_three {W V : World} {R : Nat} (h : Below W.heap.size W V) (hR : W.heap.size ≤ R) (a b c : Value) : Below W.heap.size W (((V.setCell ⟨R, 0, none⟩ a).setCell ⟨R, 1, none⟩ b).setCell ⟨R, 2, none⟩ c) := ((h.setCell hR _).setCell hR _).setCell hR _

def unE (bs : List Int) : Int := (unD bs).2.2
def unL (bs : List Int) : List (List UInt8) := if (unD bs).2.2 = 0 then (unD bs).1 else []
def unR (bs : List Int) : List Int := if (unD bs).2.2 = 0 then bs.drop (unD bs).2.1 else []
def UnP (bs : List Int) (W : World) (e : Ending) (W' : World) : Prop :=
  ∃ a1 n1 c1 a2 n2 c2, e = .returned (.agg #[.slice a1 n1 c1, .slice a2 n2 c2, .int .i64 (unE bs)]) ∧ RdS (fun _ => True) W' a1 n1 c1 (unL bs) ∧ Rd (fun _ => True) W' .u8 a2 n2 c2 (unR bs) ∧ Below W.heap.size W W'
theorem UnP.bad {bs : List Int} {W W' : World} {e : Ending} {x : Int} (h : (unD bs).2.2 = x) (hx : x ≠ 0) (he : e = .returned (.agg #[.slice none 0 0, .slice none 0 0, .int .i64 x])) (hb : Below W.heap.size W W') : UnP bs W e W' := by
  refine ⟨none, 0, 0, none, 0, 0, ?_, ?_, ?_, hb⟩
  · unfold unE; rw [h]; exact he
  · unfold unL; rw [if_neg (by rw [h]; exact hx)]; exact RdS.empty
  · unfold unR; rw [if_neg (by rw [h]; exact hx)]; exact Rd.empty
theorem unpW_any {a : Option Addr} {len cap : Nat} {bs : List Int} (ho : Oct bs) {K : Nat → Prop} {W : World} (hR : Rd K W .u8 a len cap bs) :
    Calls Try.prog 27 #[.slice a len cap] W (UnP bs W) := by
  refine (unpackedW_any ho hR).mono ?_
  rintro e W' ⟨hb, hp⟩
  rcases hp with ⟨hz, a1, n1, c1, a2, m, rfl, h1, h2⟩ | ⟨hz, rfl⟩
  · refine ⟨a1, n1, c1, a2, m, m, by unfold unE; rw [hz], ?_, ?_, hb⟩
    · unfold unL; rw [if_pos hz]; exact h1.mono fun _ _ _ => trivial
    · unfold unR; rw [if_pos hz]; exact (h2.below hb).mono fun _ _ _ => trivial
  · exact UnP.bad rfl hz rfl hb

/-- A string, behind a row of the call's own, or behind nothing. -/
theorem append_str {W : World} {base : Nat} {v : Value} {d : List (List UInt8)} (hO : W.ownsRow base 9 1 v d.length (d.map encStr)) (hl : d.length ≤ 1000000) (s : List UInt8) {X : ByteArray} (hX : bsOf s = X) (hb : base ≤ W.heap.size) :
    ∃ g c w', (Builtin.append_ #[23, 23] 23 #[v, .slice (some ⟨W.heap.size, 0, none⟩) 1 1]).run Try.prog (W.alloc (.cells #[.string X] 9)) = .ok (.slice (some ⟨g, 0, none⟩) (d.length + 1) c) w' ∧
      w'.ownsRow base 9 1 (.slice (some ⟨g, 0, none⟩) (d.length + 1) c) (d.length + 1) ((d ++ [s]).map encStr) ∧ W.grownBy w' v.ownBlock ∧ d.length + 1 ≤ c := by
  obtain ⟨i0, hi, hz0, hz1, hz2⟩ := info_parts Try.infoS5
  have hO2 : (W.alloc (.cells #[.string X] 9)).ownsRow base 9 1 v d.length (d.map encStr) := rowS_below hO ((Below.refl _ W).alloc (Nat.le_refl _) _)
  obtain ⟨v', w', hr, h3, h4, h5⟩ := run_append_own (P := Try.prog) (W.alloc (.cells #[.string X] 9)) base 23 23 9 i0 _ 1 16 Try.underlying23 hi hz0 hz1 hz2 rfl (by decide) v d.length (d.map encStr) hO2
    ⟨W.heap.size, 0, none⟩ 1 1 [.string X] rfl (fun j u hu => by
      cases j with
      | zero =>
        cases hu
        have h0 := World.alloc_heap_new W (.cells #[.string X] 9)
        show (W.alloc _).cell? (Addr.add ⟨W.heap.size, 0, none⟩ 0) = _
        have h1 : (Addr.add ⟨W.heap.size, 0, none⟩ 0) = ⟨W.heap.size, 0, none⟩ := by simp [Addr.add]
        rw [h1]
        unfold World.cell?
        rw [h0]
        rfl
      | succ j => simp at hu) (fun u hu => by rw [List.mem_singleton.1 hu]; rfl) (by unfold maxLen; omega) (by omega) (Nat.le_trans hb (by simp))
  have hne : ¬ v' = .slice none 0 0 := fun e => by have := (h5.1 e).2; omega
  obtain ⟨g, c, rfl, hn, _⟩ := row_form h3 hne
  refine ⟨g, c, w', hr, ?_, ?_, hn⟩
  · rw [List.map_append]; rw [← hX] at h3; exact h3
  · exact ⟨h4.os, h4.tape, h4.output, Nat.le_trans (by simp) h4.size, fun k hk hkr => (h4.block k (by rw [World.size_alloc]; exact Nat.lt_succ_of_lt hk) hkr).trans (Below.heap_alloc _ _ _ hk)⟩

section
variable {P : Program} {K : Nat → Prop} {W : World} {p : Option Addr} {len cap : Nat} {zs : List Int}
theorem cutB_low (t : TypeId) (ht : P.underlying t = some (.slice (P.elem t))) (hs : ∀ w, (sizeOf (P.elem t)).run P w = .ok 1 w) (hR : Rd K W .u8 p len cap zs) (k : Nat) (hk : k ≤ len) :
    ∃ p' c', (∀ W' : World, (Instr.sliceAt t (.slice p len cap) none (some (.int .i64 (k : Int))) none).run P W' = .ok (.slice p' k c') W') ∧ Rd K W .u8 p' k c' (zs.take k) := by
  have hl := hR.hl
  have hf := hR.fit
  have ht' := hR.top
  refine ⟨if cap = 0 then p else p.map (·.add (0 * 1)), cap - 0, fun W' => ?_, ?_⟩
  · rw [run_sliceAt_slice (P := P) W' t _ _ _ _ ht, run_slice_h (P := P) W' t p len cap ht .i64 (k : Int) (by omega) (by omega), hs W']
    simp [Result.andThen, sliced]
  · refine ⟨by rw [List.length_take]; omega, by omega, hR.top, by have := hR.small; omega, fun h0 => ?_⟩
    obtain ⟨b, off, rfl, hb, hlt, hcell⟩ := hR.cells (by omega)
    refine ⟨b, off, by split <;> simp [Addr.add], hb, hlt, fun j hj => ?_⟩
    rw [List.getElem?_take_of_lt hj]
    exact hcell j (by omega)
theorem cutB_high (t : TypeId) (ht : P.underlying t = some (.slice (P.elem t))) (hs : ∀ w, (sizeOf (P.elem t)).run P w = .ok 1 w) (hR : Rd K W .u8 p len cap zs) (k : Nat) (hk : k ≤ len) :
    ∃ p' c', (∀ W' : World, (Instr.sliceAt t (.slice p len cap) (some (.int .i64 (k : Int))) none none).run P W' = .ok (.slice p' (len - k) c') W') ∧ Rd K W .u8 p' (len - k) c' (zs.drop k) := by
  have hl := hR.hl
  have hf := hR.fit
  have ht' := hR.top
  refine ⟨if cap = k then p else p.map (·.add (k * 1)), cap - k, fun W' => ?_, ?_⟩
  · rw [run_sliceAt_slice (P := P) W' t _ _ _ _ ht, run_slice_l (P := P) W' t p len cap ht .i64 (k : Int) (by omega) (by omega), hs W']
    simp [Result.andThen, sliced]
  · refine ⟨by rw [List.length_drop]; omega, by omega, by have := hR.top; omega, by have := hR.small; omega, fun h0 => ?_⟩
    obtain ⟨b, off, rfl, hb, hlt, hcell⟩ := hR.cells (by omega)
    rw [if_neg (by omega)]
    refine ⟨b, off + k, ?_, hb, hlt, fun j hj => ?_⟩
    · by_cases h0 : k = 0
      · simp [Addr.add, h0]
      · simp [Addr.add, h0]
    · rw [List.getElem?_drop, show off + k + j = off + (k + j) by omega]
      exact hcell (k + j) (by omega)
end
def Short255 (d : List (List UInt8)) : Prop := ∀ s ∈ d, s.length ≤ 255
theorem own_ne {W : World} {base : Nat} {e : TypeId} {v : Value} {n : Nat} {xs : List Value} (h : W.ownsRow base e 1 v n xs) {B : Nat} (hB : B < base) : some B ≠ v.ownBlock := by
  rcases h.2 with ⟨rfl, _⟩ | ⟨g, cap, cur, rfl, hbg, _⟩
  · simp [Value.ownBlock]
  · intro e'
    obtain rfl : B = g := by simpa [Value.ownBlock] using e'
    omega
theorem tre_quad_ne {W : World} {B B' : Nat} {t t' : TypeId} {a b c x y z u : Value} (h : Tre W B t a b c) (h' : Quad W B' t' x y z u) : B' ≠ B := by
  rintro rfl
  have h : W.heap[B']? = _ := h
  have h' : W.heap[B']? = _ := h'
  rw [h] at h'
  injection h' with h'
  injection h' with h'
  have := congrArg Array.size h'
  simp at this
theorem last_short {d : List (List UInt8)} (h : Short255 d) : (d.getLastD []).length ≤ 255 := by
  by_cases hd : d = []
  · subst hd; exact Nat.zero_le _
  · have : d.getLastD [] ∈ d := by
      rw [List.getLastD_eq_getLast?, List.getLast?_eq_some_getLast hd]; exact List.getLast_mem hd
    exact h _ this
theorem sbS_eq (d : List (List UInt8)) (p : Nat) (o : List Int) : sbS d p o = (d.getLastD []).take p ++ strU o := by
  unfold sbS
  split
  · rename_i h; subst h; simp
  · rfl
theorem rowS_grown {A B : World} {base : Nat} {e : TypeId} {v : Value} {n : Nat} {xs : List Value} {r : Option Nat} (h : A.ownsRow base e 1 v n xs) (hg : A.grownBy B r) (hr : ∀ g, base ≤ g → some g ≠ r) : B.ownsRow base e 1 v n xs :=
  ⟨h.1, h.2.imp id fun ⟨g, c, cur, e1, h1, h2, h3⟩ => ⟨g, c, cur, e1, h1, (hg.block g (Array.getElem?_eq_some_iff.1 h2).1 (hr g h1)).trans h2, h3⟩⟩
theorem thru5 {P : Program} {c : Code} {Q : Exit → Act → World → Prop} {a : Act} {w : World} (D : List Nat) (t : Nat) (v : Value)
    (h1 : c.wp P (fun e a' w' => e = .normal ∧ Below w.heap.size w w' ∧ ∃ ev : Nat → Value, ev t = v ∧ a' = putAll ev D a) a w)
    (h2 : ∀ ev w', ev t = v → Below w.heap.size w w' → Q .normal (putAll ev D a) w') : c.wp P Q a w :=
  Code.wp_mono (fun e a' w' ⟨he, hb, ev, h, ha⟩ => by subst he; subst ha; exact h2 ev w' h hb) h1
theorem shown5 {D : List Nat} {t : Nat} {v : Value} {a a' : Act} {w w' : World} (hb : Below w.heap.size w w') (h1 : a'.eval (.tmp t) = v) (h2 : a' = putAll (fun t => a'.eval (.tmp t)) D a) :
    Exit.normal = .normal ∧ Below w.heap.size w w' ∧ ∃ ev : Nat → Value, ev t = v ∧ a' = putAll ev D a := ⟨rfl, hb, _, h1, h2⟩
theorem sharedB_any (s t : List UInt8) (hs : s.length ≤ 140737488351232) (ht : t.length ≤ 140737488351232) (W : World) :
    Calls Try.prog 46 #[.string (bsOf s), .string (bsOf t)] W fun e w' => e = .returned (.int .i64 (shN s t : Nat)) ∧ Below W.heap.size W w' :=
  (sharedR_any s t hs ht W).mono fun e w' ⟨he, n, hw⟩ => ⟨he, by rw [hw]; exact below_drewN (Below.refl _ _) n⟩
theorem quad_ne {W : World} {base : Nat} {t e : TypeId} {v : Value} {n : Nat} {xs : List Value} {B : Nat} {a b c d : Value} (hq : Quad W B t a b c d) (hte : t ≠ e) (h : W.ownsRow base e 1 v n xs) : some B ≠ v.ownBlock := by
  rcases h.2 with ⟨rfl, _⟩ | ⟨g, cap, cur, rfl, _, hgb, _⟩
  · simp [Value.ownBlock]
  · intro e'
    obtain rfl : B = g := by simpa [Value.ownBlock] using e'
    have hq : W.heap[B]? = _ := hq
    rw [hq] at hgb
    cases hgb
    exact hte rfl

set_option maxRecDepth 100000 in
set_option maxHeartbeats 16000000 in
theorem unpR_any {a : Option Addr} {len cap : Nat} {bs : List Int} (ho : Oct bs) {K : Nat → Prop} {W : World} (hR : Rd K W .u8 a len cap bs) :
    Calls Try.prog 28 #[.slice a len cap] W (UnP bs W) := by
  have HO := Lib.hid ho
  have hq := Tre.new W 48 (.slice none 0 0) (.slice none 0 0) (.int .i64 0)
  have hb : Below W.heap.size W (W.alloc (.cells #[.slice none 0 0, .slice none 0 0, .int .i64 0] 48)) := (Below.refl _ _).alloc (Nat.le_refl _) _
  have HRV : Hid (Rd (fun b => b < W.heap.size) (W.alloc (.cells #[.slice none 0 0, .slice none 0 0, .int .i64 0] 48)) .u8 a len cap bs) := (hR.mono (K' := fun b => b < W.heap.size) fun b hb _ => hb).below hb
  have HB := Lib.hid hb
  obtain ⟨R, hRe⟩ : ∃ B, W.heap.size = B := ⟨_, rfl⟩
  have HRE : Hid (W.heap.size ≤ R) := Nat.le_of_eq hRe
  rw [hRe] at hq
  have HQ := Lib.hid hq
  clear hb hq hR
  go_enter Try.func28, Try.ntmps28
  go_upto_region 1 with fail
  try rw [hRe]
  clear hRe
  generalize W.alloc (.cells #[.slice none 0 0, .slice none 0 0, .int .i64 0] 48) = V at *
  go_wp2_with fail
  refine (readR_any HO.out HRV.out).mono ?_
  rintro e w1 ⟨hb1, hp1⟩
  replace HQ := Lib.hid (HQ.out.below hb1 HQ.out.lt)
  replace HB : Hid (Below W.heap.size W w1) := HB.out.trans (hb1.mono HB.out.size)
  rcases hp1 with ⟨hrd1, a1, n1, c1, rfl, hr1⟩ | ⟨hx1, rfl⟩
  rotate_left
  · obtain ⟨x, hxe⟩ : ∃ x, (rdS (bs)).2.2 = x := ⟨_, rfl⟩
    rw [hxe] at hx1 ⊢
    have HE : Hid ((unD bs).2.2 = x) := by show _ = _; rw [unD_err (by rw [hxe]; exact hx1), hxe]
    have HX := Lib.hid hx1
    have hxb : (x == 0) = false := by rw [beq_eq_false_iff_ne]; exact hx1
    simp only [gotV]
    clear hxe hx1
    go_upto_region 2 with fail
    have hbA : Below w1.heap.size w1 (w1.alloc (.cells #[.int .u64 0, .slice none 0 0, .slice none 0 0, .int .i64 x] 90)) := (Below.refl _ _).alloc (Nat.le_refl _) _
    have HA : Hid (Quad (w1.alloc (.cells #[.int .u64 0, .slice none 0 0, .slice none 0 0, .int .i64 x] 90)) w1.heap.size 90 (.int .u64 0) (.slice none 0 0) (.slice none 0 0) (.int .i64 x)) := Quad.new w1 90 _ _ _ _
    replace HQ := Lib.hid (HQ.out.below hbA HQ.out.lt)
    replace HB : Hid (Below W.heap.size W (w1.alloc (.cells #[.int .u64 0, .slice none 0 0, .slice none 0 0, .int .i64 x] 90))) := HB.out.trans (hbA.mono HB.out.size)
    obtain ⟨A, hA⟩ : ∃ B, w1.heap.size = B := ⟨_, rfl⟩
    have HEA := Lib.hid hA
    rw [hA] at HA ⊢
    clear hbA hA
    generalize w1.alloc (.cells #[.int .u64 0, .slice none 0 0, .slice none 0 0, .int .i64 x] 90) = V1 at *
    obtain ⟨r0, r1, r2, r3⟩ := HA.out.cell
    obtain ⟨q0, q1, q2⟩ := HQ.out.cell
    have f0 := HQ.out.f 0
    have f1 := HQ.out.f 1
    have f2 := HQ.out.f 2
    have qlt := HQ.out.lt
    go_wp2_with fail
    exact bodyPost_ret (v := .agg #[.slice none 0 0, .slice none 0 0, .int .i64 x]) (by simp [results, Try.results28, go_sem, q0, q1, q2]) rfl (UnP.bad HE.out HX.out rfl (below_three HB.out HRE.out _ _ _))
  have HR1 := Lib.hid (hr1.below hb1)
  have HRD1 := Lib.hid hrd1
  obtain ⟨u1, hu1⟩ := Int.eq_ofNat_of_zero_le (rdS_u645 HO.out).1
  have hun1 : u1 < 18446744073709551616 := by have := (rdS_u645 HO.out).2; rw [hu1] at this; omega
  have HU1 := Lib.hid hu1
  rw [hu1]
  obtain ⟨k1, hk1⟩ : ∃ c, (rdS (bs)).2.1 = c := ⟨_, rfl⟩
  have HK1 := Lib.hid hk1
  rw [hk1] at HR1
  clear hr1 hb1 hrd1 hu1 hk1
  simp only [gotV]
  go_upto_region 2 with fail
  have hbA : Below w1.heap.size w1 (w1.alloc (.cells #[.int .u64 u1, .slice none 0 0, .slice a1 n1 c1, .int .i64 0] 90)) := (Below.refl _ _).alloc (Nat.le_refl _) _
  have HA : Hid (Quad (w1.alloc (.cells #[.int .u64 u1, .slice none 0 0, .slice a1 n1 c1, .int .i64 0] 90)) w1.heap.size 90 (.int .u64 u1) (.slice none 0 0) (.slice a1 n1 c1) (.int .i64 0)) := Quad.new w1 90 _ _ _ _
  replace HQ := Lib.hid (HQ.out.below hbA HQ.out.lt)
  replace HR1 := Lib.hid (HR1.out.below hbA)
  replace HB : Hid (Below W.heap.size W (w1.alloc (.cells #[.int .u64 u1, .slice none 0 0, .slice a1 n1 c1, .int .i64 0] 90))) := HB.out.trans (hbA.mono HB.out.size)
  obtain ⟨A, hA⟩ : ∃ B, w1.heap.size = B := ⟨_, rfl⟩
  have HEA := Lib.hid hA
  rw [hA] at HA ⊢
  clear hbA hA
  generalize w1.alloc (.cells #[.int .u64 u1, .slice none 0 0, .slice a1 n1 c1, .int .i64 0] 90) = V1 at *
  clear HRV
  by_cases hbig : 4096 < u1
  · have HE : Hid ((unD bs).2.2 = 5) := unD_many HRD1.out (by rw [HU1.out]; omega)
    have hbI : (u1 : Int) > 4096 := by omega
    obtain ⟨r0, r1, r2, r3⟩ := HA.out.cell
    obtain ⟨q0, q1, q2⟩ := HQ.out.cell
    have f0 := HQ.out.f 0
    have f1 := HQ.out.f 1
    have f2 := HQ.out.f 2
    have qlt := HQ.out.lt
    go_wp2_with fail
    exact bodyPost_ret (v := .agg #[.slice none 0 0, .slice none 0 0, .int .i64 5]) (by simp [results, Try.results28, go_sem, q0, q1, q2]) rfl (UnP.bad HE.out (by decide) rfl (below_three HB.out HRE.out _ _ _))
  have hbI : ¬ (u1 : Int) > 4096 := by omega
  have HGO : Hid (Goes bs u1 [] (bs.drop k1)) := by rw [← HK1.out]; exact goes_start HRD1.out HU1.out (by omega)
  have HW1 : Hid (IntKind.i64.wrap (u1 : Int) = (u1 : Int)) := by show _ = _; rw [IntKind.wrap_i64]; omega
  obtain ⟨r0, r1, r2, r3⟩ := HA.out.cell
  go_upto_region 7 with fail
  clear r0 r1 r2 r3
  have hbA : Below V1.heap.size V1 (V1.alloc (.cells #[.slice none 0 0, .slice a1 n1 c1, .int .i64 0] 48)) := (Below.refl _ _).alloc (Nat.le_refl _) _
  have HT : Hid (Tre (V1.alloc (.cells #[.slice none 0 0, .slice a1 n1 c1, .int .i64 0] 48)) V1.heap.size 48 (.slice none 0 0) (.slice a1 n1 c1) (.int .i64 0)) := Tre.new V1 48 _ _ _
  have HTE : Hid (W.heap.size ≤ V1.heap.size ∧ R ≠ V1.heap.size ∧ A ≠ V1.heap.size) := ⟨HB.out.size, Nat.ne_of_lt HQ.out.lt, Nat.ne_of_lt HA.out.lt⟩
  have HRT0 := Lib.hid HQ.out.lt
  have HAT0 := Lib.hid HA.out.lt
  replace HQ := Lib.hid (HQ.out.below hbA HQ.out.lt)
  replace HA := Lib.hid (HA.out.below hbA HA.out.lt)
  replace HR1 := Lib.hid (HR1.out.below hbA)
  replace HB : Hid (Below W.heap.size W (V1.alloc (.cells #[.slice none 0 0, .slice a1 n1 c1, .int .i64 0] 48))) := HB.out.trans (hbA.mono HB.out.size)
  skip
  obtain ⟨T, hT⟩ : ∃ B, V1.heap.size = B := ⟨_, rfl⟩
  have HRT : Hid (R < T + 1) := by show _ < _; rw [← hT]; exact Nat.lt_succ_of_lt HRT0.out
  have HAT : Hid (A < T + 1) := by show _ < _; rw [← hT]; exact Nat.lt_succ_of_lt HAT0.out
  rw [hT] at HT HTE ⊢
  clear hbA hT HRT0 HAT0
  generalize V1.alloc (.cells #[.slice none 0 0, .slice a1 n1 c1, .int .i64 0] 48) = VL at *
  skip
  go_wp2_with fail
  go_loopw [5, 6] (fun vs vi wr => ∃ (k : Nat) (d : List (List UInt8)) (v : Value) (bk : List Int) (a0 : Option Addr) (n0 c0 : Nat), k ≤ u1 ∧ vi = .int .i64 (k : Int) ∧ vs = .string (bsOf (d.getLastD [])) ∧ Hid (d.length = k ∧ Short255 d) ∧ Hid (wr.ownsRow (T + 1) 9 1 v d.length (d.map encStr)) ∧ Hid (Tre wr T 48 v (.slice a0 n0 c0) (.int .i64 0)) ∧ Hid (Tre wr R 48 (.slice none 0 0) (.slice none 0 0) (.int .i64 0)) ∧ Hid (Quad wr A 90 (.int .u64 u1) (.slice none 0 0) (.slice a1 n1 c1) (.int .i64 0)) ∧ Hid (Rd (fun b => b < W.heap.size) wr .u8 a0 n0 c0 bk) ∧ Hid (Oct bk) ∧ Hid (Goes bs (u1 - k) d bk) ∧ Hid (Below W.heap.size W wr)) (fun _ vi _ => u1 - (intOf vi).toNat)
  case atStart => exact ⟨0, [], .slice none 0 0, bs.drop k1, a1, n1, c1, Nat.zero_le _, rfl, rfl, ⟨rfl, fun s hs => by cases hs⟩, ⟨rfl, .inl ⟨rfl, rfl⟩⟩, HT, HQ, HA, HR1, HO.out.drop k1, HGO, HB⟩
  case round =>
    obtain ⟨k, d, v, bk, a0, n0, c0, hk, rfl, rfl, HDL, HD, HTK, HQK, HAK, HRK, HOK, HGK, HBK⟩ := hrel
    clear HT HQ HA HR1 HGO HB
    have HT := HTK
    have HQ := HQK
    have HA := HAK
    have HB := HBK
    clear HTK HQK HAK HBK
    obtain ⟨r0, r1, r2, r3⟩ := HA.out.cell
    by_cases hlt : k < u1
    · skip
      obtain ⟨m, hm⟩ : ∃ m, u1 - k = m + 1 := ⟨u1 - k - 1, by omega⟩
      have HGM : Hid (Goes bs (m + 1) d bk) := by show _; rw [← hm]; exact HGK.out
      have HMM : Hid (u1 - (k + 1) = m) := by show _ = _; omega
      have HLT : Hid (k + 1 ≤ u1) := hlt
      have hltI : (k : Int) < (u1 : Int) := by omega
      clear hm HGK
      obtain ⟨t0, t1, t2⟩ := HT.out.cell
      go_wp2_with fail
      clear r0 r1 r2 r3 t0 t1 t2
      refine (readR_any HOK.out HRK.out).mono ?_
      rintro e w2 ⟨hb2, hp2⟩
      replace HQ := Lib.hid (HQ.out.below hb2 HQ.out.lt)
      replace HA := Lib.hid (HA.out.below hb2 HA.out.lt)
      replace HT := Lib.hid (HT.out.below hb2 HT.out.lt)
      replace HRK := Lib.hid (HRK.out.below hb2)
      replace HD := Lib.hid (rowS_below HD.out hb2)
      replace HB : Hid (Below W.heap.size W w2) := HB.out.trans (hb2.mono HB.out.size)
      rcases hp2 with ⟨hrd2, a2, n2, c2, rfl, hr2⟩ | ⟨hx2, rfl⟩
      rotate_left
      · obtain ⟨x, hxe⟩ : ∃ x, (rdS (bk)).2.2 = x := ⟨_, rfl⟩
        rw [hxe] at hx2 ⊢
        have HE : Hid ((unD bs).2.2 = x) := goes_err HGM.out (by rw [rp_e1 (by rw [hxe]; exact hx2), hxe]) hx2
        have HX := Lib.hid hx2
        have hxb : (x == 0) = false := by rw [beq_eq_false_iff_ne]; exact hx2
        simp only [gotV]
        clear hxe hx2
        go_upto_region 11 with fail
        have hbA : Below w2.heap.size w2 (w2.alloc (.cells #[.int .u64 0, .slice none 0 0, .slice none 0 0, .int .i64 x] 90)) := (Below.refl _ _).alloc (Nat.le_refl _) _
        have HP : Hid (Quad (w2.alloc (.cells #[.int .u64 0, .slice none 0 0, .slice none 0 0, .int .i64 x] 90)) w2.heap.size 90 (.int .u64 0) (.slice none 0 0) (.slice none 0 0) (.int .i64 x)) := Quad.new w2 90 _ _ _ _
        replace HQ := Lib.hid (HQ.out.below hbA HQ.out.lt)
        replace HA := Lib.hid (HA.out.below hbA HA.out.lt)
        replace HT := Lib.hid (HT.out.below hbA HT.out.lt)
        replace HRK := Lib.hid (HRK.out.below hbA)
        replace HD := Lib.hid (rowS_below HD.out hbA)
        replace HB : Hid (Below W.heap.size W (w2.alloc (.cells #[.int .u64 0, .slice none 0 0, .slice none 0 0, .int .i64 x] 90))) := HB.out.trans (hbA.mono HB.out.size)
        obtain ⟨P, hP⟩ : ∃ B, w2.heap.size = B := ⟨_, rfl⟩
        have HEP := Lib.hid hP
        rw [hP] at HP ⊢
        clear hbA hP
        generalize w2.alloc (.cells #[.int .u64 0, .slice none 0 0, .slice none 0 0, .int .i64 x] 90) = V2 at *
        obtain ⟨r0, r1, r2, r3⟩ := HP.out.cell
        obtain ⟨q0, q1, q2⟩ := HQ.out.cell
        have f0 := HQ.out.f 0
        have f1 := HQ.out.f 1
        have f2 := HQ.out.f 2
        have qlt := HQ.out.lt
        go_wp2_with fail
        exact bodyPost_ret (v := .agg #[.slice none 0 0, .slice none 0 0, .int .i64 x]) (by simp [results, Try.results28, go_sem, q0, q1, q2]) rfl (UnP.bad HE.out HX.out rfl (below_three HB.out HRE.out _ _ _))
      have HR2 := Lib.hid (hr2.below hb2)
      have HRD2 := Lib.hid hrd2
      obtain ⟨u2, hu2⟩ := Int.eq_ofNat_of_zero_le (rdS_u645 HOK.out).1
      have hun2 : u2 < 18446744073709551616 := by have := (rdS_u645 HOK.out).2; rw [hu2] at this; omega
      have HU2 := Lib.hid hu2
      rw [hu2]
      obtain ⟨k2, hk2⟩ : ∃ c, (rdS (bk)).2.1 = c := ⟨_, rfl⟩
      have HK2 := Lib.hid hk2
      rw [hk2] at HR2
      clear hr2 hb2 hrd2 hu2 hk2
      simp only [gotV]
      go_upto_region 11 with fail
      have hbA : Below w2.heap.size w2 (w2.alloc (.cells #[.int .u64 u2, .slice none 0 0, .slice a2 n2 c2, .int .i64 0] 90)) := (Below.refl _ _).alloc (Nat.le_refl _) _
      have HP : Hid (Quad (w2.alloc (.cells #[.int .u64 u2, .slice none 0 0, .slice a2 n2 c2, .int .i64 0] 90)) w2.heap.size 90 (.int .u64 u2) (.slice none 0 0) (.slice a2 n2 c2) (.int .i64 0)) := Quad.new w2 90 _ _ _ _
      replace HQ := Lib.hid (HQ.out.below hbA HQ.out.lt)
      replace HA := Lib.hid (HA.out.below hbA HA.out.lt)
      replace HT := Lib.hid (HT.out.below hbA HT.out.lt)
      replace HRK := Lib.hid (HRK.out.below hbA)
      replace HD := Lib.hid (rowS_below HD.out hbA)
      replace HR2 := Lib.hid (HR2.out.below hbA)
      replace HB : Hid (Below W.heap.size W (w2.alloc (.cells #[.int .u64 u2, .slice none 0 0, .slice a2 n2 c2, .int .i64 0] 90))) := HB.out.trans (hbA.mono HB.out.size)
      obtain ⟨P, hP⟩ : ∃ B, w2.heap.size = B := ⟨_, rfl⟩
      have HEP := Lib.hid hP
      rw [hP] at HP ⊢
      clear hbA hP
      generalize w2.alloc (.cells #[.int .u64 u2, .slice none 0 0, .slice a2 n2 c2, .int .i64 0] 90) = V2 at *
      have HOK2 := Lib.hid (HOK.out.drop k2)
      obtain ⟨r0, r1, r2, r3⟩ := HP.out.cell
      go_wp2_with fail
      clear r0 r1 r2 r3
      refine (readR_any HOK2.out HR2.out).mono ?_
      rintro e w3 ⟨hb3, hp3⟩
      replace HQ := Lib.hid (HQ.out.below hb3 HQ.out.lt)
      replace HA := Lib.hid (HA.out.below hb3 HA.out.lt)
      replace HT := Lib.hid (HT.out.below hb3 HT.out.lt)
      replace HRK := Lib.hid (HRK.out.below hb3)
      replace HD := Lib.hid (rowS_below HD.out hb3)
      replace HP := Lib.hid (HP.out.below hb3 HP.out.lt)
      replace HR2 := Lib.hid (HR2.out.below hb3)
      replace HB : Hid (Below W.heap.size W w3) := HB.out.trans (hb3.mono HB.out.size)
      rcases hp3 with ⟨hrd3, a3, n3, c3, rfl, hr3⟩ | ⟨hx3, rfl⟩
      rotate_left
      · obtain ⟨x, hxe⟩ : ∃ x, (rdS (bk.drop k2)).2.2 = x := ⟨_, rfl⟩
        rw [hxe] at hx3 ⊢
        have HE : Hid ((unD bs).2.2 = x) := by have h := rp_e2 (L := (d.getLastD []).length) HRD2.out (by rw [HK2.out, hxe]; exact hx3); rw [HK2.out, hxe] at h; exact goes_err HGM.out h hx3
        have HX := Lib.hid hx3
        have hxb : (x == 0) = false := by rw [beq_eq_false_iff_ne]; exact hx3
        simp only [gotV]
        clear hxe hx3
        go_upto_region 14 with fail
        have hbA : Below w3.heap.size w3 (w3.alloc (.cells #[.int .u64 0, .slice none 0 0, .slice none 0 0, .int .i64 x] 90)) := (Below.refl _ _).alloc (Nat.le_refl _) _
        have HU : Hid (Quad (w3.alloc (.cells #[.int .u64 0, .slice none 0 0, .slice none 0 0, .int .i64 x] 90)) w3.heap.size 90 (.int .u64 0) (.slice none 0 0) (.slice none 0 0) (.int .i64 x)) := Quad.new w3 90 _ _ _ _
        replace HQ := Lib.hid (HQ.out.below hbA HQ.out.lt)
        replace HA := Lib.hid (HA.out.below hbA HA.out.lt)
        replace HT := Lib.hid (HT.out.below hbA HT.out.lt)
        replace HRK := Lib.hid (HRK.out.below hbA)
        replace HD := Lib.hid (rowS_below HD.out hbA)
        replace HP := Lib.hid (HP.out.below hbA HP.out.lt)
        replace HR2 := Lib.hid (HR2.out.below hbA)
        replace HB : Hid (Below W.heap.size W (w3.alloc (.cells #[.int .u64 0, .slice none 0 0, .slice none 0 0, .int .i64 x] 90))) := HB.out.trans (hbA.mono HB.out.size)
        obtain ⟨U, hU⟩ : ∃ B, w3.heap.size = B := ⟨_, rfl⟩
        have HEU := Lib.hid hU
        rw [hU] at HU ⊢
        clear hbA hU
        generalize w3.alloc (.cells #[.int .u64 0, .slice none 0 0, .slice none 0 0, .int .i64 x] 90) = V3 at *
        obtain ⟨r0, r1, r2, r3⟩ := HU.out.cell
        obtain ⟨q0, q1, q2⟩ := HQ.out.cell
        have f0 := HQ.out.f 0
        have f1 := HQ.out.f 1
        have f2 := HQ.out.f 2
        have qlt := HQ.out.lt
        go_wp2_with fail
        exact bodyPost_ret (v := .agg #[.slice none 0 0, .slice none 0 0, .int .i64 x]) (by simp [results, Try.results28, go_sem, q0, q1, q2]) rfl (UnP.bad HE.out HX.out rfl (below_three HB.out HRE.out _ _ _))
      have HR3 := Lib.hid (hr3.below hb3)
      have HRD3 := Lib.hid hrd3
      obtain ⟨u3, hu3⟩ := Int.eq_ofNat_of_zero_le (rdS_u645 HOK2.out).1
      have hun3 : u3 < 18446744073709551616 := by have := (rdS_u645 HOK2.out).2; rw [hu3] at this; omega
      have HU3 := Lib.hid hu3
      rw [hu3]
      obtain ⟨k3, hk3⟩ : ∃ c, (rdS (bk.drop k2)).2.1 = c := ⟨_, rfl⟩
      have HK3 := Lib.hid hk3
      rw [hk3] at HR3
      clear hr3 hb3 hrd3 hu3 hk3
      simp only [gotV]
      go_upto_region 14 with fail
      have hbA : Below w3.heap.size w3 (w3.alloc (.cells #[.int .u64 u3, .slice none 0 0, .slice a3 n3 c3, .int .i64 0] 90)) := (Below.refl _ _).alloc (Nat.le_refl _) _
      have HU : Hid (Quad (w3.alloc (.cells #[.int .u64 u3, .slice none 0 0, .slice a3 n3 c3, .int .i64 0] 90)) w3.heap.size 90 (.int .u64 u3) (.slice none 0 0) (.slice a3 n3 c3) (.int .i64 0)) := Quad.new w3 90 _ _ _ _
      replace HQ := Lib.hid (HQ.out.below hbA HQ.out.lt)
      replace HA := Lib.hid (HA.out.below hbA HA.out.lt)
      replace HT := Lib.hid (HT.out.below hbA HT.out.lt)
      replace HRK := Lib.hid (HRK.out.below hbA)
      replace HD := Lib.hid (rowS_below HD.out hbA)
      replace HP := Lib.hid (HP.out.below hbA HP.out.lt)
      replace HR2 := Lib.hid (HR2.out.below hbA)
      replace HR3 := Lib.hid (HR3.out.below hbA)
      replace HB : Hid (Below W.heap.size W (w3.alloc (.cells #[.int .u64 u3, .slice none 0 0, .slice a3 n3 c3, .int .i64 0] 90))) := HB.out.trans (hbA.mono HB.out.size)
      obtain ⟨U, hU⟩ : ∃ B, w3.heap.size = B := ⟨_, rfl⟩
      have HEU := Lib.hid hU
      rw [hU] at HU ⊢
      clear hbA hU
      generalize w3.alloc (.cells #[.int .u64 u3, .slice none 0 0, .slice a3 n3 c3, .int .i64 0] 90) = V3 at *
      clear HR2 HRK
      obtain ⟨dl, hdl⟩ : ∃ x, d.getLastD [] = x := ⟨_, rfl⟩
      have HDE := Lib.hid hdl
      rw [hdl]
      have hl255 : dl.length ≤ 255 := by rw [← hdl]; exact last_short HDL.out.2
      obtain ⟨ldl, hll⟩ : ∃ n, dl.length = n := ⟨_, rfl⟩
      have HLL := Lib.hid hll
      rw [hll] at hl255
      have hsz : (bsOf dl).size = ldl := by rw [bs_size]; exact hll
      have hwl : IntKind.u64.wrap (ldl : Int) = (ldl : Int) := by rw [IntKind.wrap_u64]; omega
      have HL2 : Hid ((d.getLastD []).length = ldl) := by show _ = _; rw [hdl]; exact hll
      clear hdl hll
      obtain ⟨BL, hBL⟩ : ∃ x, bsOf dl = x := ⟨_, rfl⟩
      have HBL := Lib.hid hBL
      rw [hBL] at hsz ⊢
      clear hBL
      obtain ⟨z, hz⟩ : ∃ z, u2 + u3 = z := ⟨_, rfl⟩
      have hzI : (u2 : Int) + (u3 : Int) = (z : Int) := by omega
      obtain ⟨r0, r1, r2, r3⟩ := HP.out.cell
      obtain ⟨s0, s1, s2, s3⟩ := HU.out.cell
      obtain ⟨q0, q1, q2⟩ := HQ.out.cell
      have f0 := HQ.out.f 0
      have f1 := HQ.out.f 1
      have f2 := HQ.out.f 2
      have qlt := HQ.out.lt
      by_cases hF : ldl < u2 ∨ 255 < u2 + u3
      · have HE : Hid ((unD bs).2.2 = 5) := goes_err HGM.out (rp_form HRD2.out (by rw [HK2.out]; exact HRD3.out) (by rw [HU2.out, HK2.out, HU3.out, HL2.out]; omega)) (by decide)
        by_cases hA : ldl < u2
        · have hAI : (u2 : Int) > (ldl : Int) := by omega
          clear hF
          go_wp2_with fail
          exact bodyPost_ret (v := .agg #[.slice none 0 0, .slice none 0 0, .int .i64 5]) (by simp [results, Try.results28, go_sem, q0, q1, q2]) rfl (UnP.bad HE.out (by decide) rfl (below_three HB.out HRE.out _ _ _))
        · have hAI : ¬ (u2 : Int) > (ldl : Int) := by omega
          by_cases hBq : 255 < u3
          · have hBI : (u3 : Int) > 255 := by omega
            clear hF
            go_wp2_with fail
            exact bodyPost_ret (v := .agg #[.slice none 0 0, .slice none 0 0, .int .i64 5]) (by simp [results, Try.results28, go_sem, q0, q1, q2]) rfl (UnP.bad HE.out (by decide) rfl (below_three HB.out HRE.out _ _ _))
          · have hBI : ¬ (u3 : Int) > 255 := by omega
            have hCI : (z : Int) > 255 := by omega
            have hwz : IntKind.u64.wrap (z : Int) = (z : Int) := by rw [IntKind.wrap_u64]; omega
            clear hF
            go_wp2_with fail
            exact bodyPost_ret (v := .agg #[.slice none 0 0, .slice none 0 0, .int .i64 5]) (by simp [results, Try.results28, go_sem, q0, q1, q2]) rfl (UnP.bad HE.out (by decide) rfl (below_three HB.out HRE.out _ _ _))
      have hAI : ¬ (u2 : Int) > (ldl : Int) := by omega
      have hBI : ¬ (u3 : Int) > 255 := by omega
      have hCI : ¬ (z : Int) > 255 := by omega
      have hwz : IntKind.u64.wrap (z : Int) = (z : Int) := by rw [IntKind.wrap_u64]; omega
      have HW3 : Hid (IntKind.i64.wrap (u3 : Int) = (u3 : Int)) := by show _ = _; rw [IntKind.wrap_i64]; omega
      have HW2 : Hid (IntKind.i64.wrap (u2 : Int) = (u2 : Int)) := by show _ = _; rw [IntKind.wrap_i64]; omega
      have hw3 := HW3.out
      have hP : u2 ≤ ldl := by omega
      have hPQ : u2 + u3 ≤ 255 := by omega
      by_cases hS : n3 < u3
      · have HE : Hid ((unD bs).2.2 = 7) := by
          have h := rp_less (L := ldl) HRD2.out (by rw [HK2.out]; exact HRD3.out) (by rw [HU2.out, HK2.out, HU3.out]; omega) (by rw [HK2.out, HK3.out, HU3.out, ← HR3.out.hl]; omega)
          rw [← HL2.out] at h
          exact goes_err HGM.out h (by decide)
        have hSI : (u3 : Int) > (n3 : Int) := by omega
        clear hF
        go_wp2_with fail
        exact bodyPost_ret (v := .agg #[.slice none 0 0, .slice none 0 0, .int .i64 7]) (by simp [results, Try.results28, go_sem, q0, q1, q2]) rfl (UnP.bad HE.out (by decide) rfl (below_three HB.out HRE.out _ _ _))
      have hSI : ¬ (u3 : Int) > (n3 : Int) := by omega
      have hS3 : u3 ≤ n3 := by omega
      obtain ⟨o, ho3⟩ : ∃ o, ((bk.drop k2).drop k3).take u3 = o := ⟨_, rfl⟩
      have HRP : Hid (rpS bk (d.getLastD []).length = ((u2, o), k2 + (k3 + u3), 0)) := by
        show _ = _
        rw [← ho3]
        exact rp_good HRD2.out HU2.out HK2.out HRD3.out HU3.out HK3.out (by rw [HL2.out]; exact hP) hPQ (by rw [← HR3.out.hl]; exact hS3)
      obtain ⟨p1, m1, hc1, hp1⟩ := cutB_low (P := Try.prog) 22 (by kernel_rfl) (fun _ => by kernel_rfl) HR3.out u3 hS3
      obtain ⟨p2, m2, hc2, hp2⟩ := cutB_high (P := Try.prog) 22 (by kernel_rfl) (fun _ => by kernel_rfl) HR3.out u3 hS3
      rw [ho3] at hp1
      have HC1 := Lib.hid hc1
      have HC2 := Lib.hid hc2
      have HP2 := Lib.hid hp2
      have hol : o.length = u3 := hp1.hl.symm
      have HCV : Hid (∀ W', Below V3.heap.size V3 W' → (convert 22 9 (.slice p1 u3 m1)).run Try.prog W' = .ok (.string (bsOf (strU o))) W') := fun W' hb => conv_any (hp1.below hb) W' rfl
      obtain ⟨BO, hBO⟩ : ∃ x, bsOf (strU o) = x := ⟨_, rfl⟩
      obtain ⟨BT2, hBT2⟩ : ∃ x, bsOf (dl.take u2) = x := ⟨_, rfl⟩
      have HCU : Hid (∀ W', (Instr.sliceAt 9 (.string BL) none (some (.int .i64 (u2 : Int))) none).run Try.prog W' = .ok (.string BT2) W') := fun W' => by
        have h := bs_take dl u2
        rw [HBL.out, hBT2] at h
        have h2 : u2 ≤ BL.size := by rw [hsz]; exact hP
        simp [go_sem, Try.underlying9, h, h2]
      obtain ⟨sn, hsn⟩ : ∃ x, sbS d u2 o = x := ⟨_, rfl⟩
      have HSN := Lib.hid hsn
      obtain ⟨BS, hBS⟩ : ∃ x, bsOf sn = x := ⟨_, rfl⟩
      have HBS := Lib.hid hBS
      have HCT : Hid (BT2 ++ BO = BS) := by show _ = _; rw [← hBT2, ← hBO, ← hBS, ← hsn, bs_append, sbS_eq, HDE.out]
      have HSZC : Hid (BT2.size + BO.size ≤ 9223372036854775807) := by show _ ≤ _; rw [← hBT2, ← hBO, bs_size, bs_size, strU_len, hol, List.length_take]; omega
      rw [hBO] at HCV
      have hsl : sn.length ≤ 255 := by rw [← hsn, sbS_eq, HDE.out, List.length_append, List.length_take, HLL.out, strU_len, hol]; omega
      clear hF hc1 hp1 hc2 hp2 hBO hBT2 hsn hBS ho3 hol
      go_upto_region 20 with fail
      clear r0 r1 r2 r3 s0 s1 s2 s3 q0 q1 q2 f0 f1 f2 qlt
      refine wp_region_writes (base := V3.heap.size) (us := [none, none, none, none, none, none, none, none, none, none, none, none, none, none]) (ws := []) (bs := [true, true, true, true, true, true, true, true, true, true, true, true, true, true]) (fs := [Fact.is (.string BL), Fact.is (.pointer (some ⟨P, 0, none⟩)), Fact.is (.int .u64 (u2 : Int)), Fact.is (.int .i64 (u2 : Int)), Fact.is (.string BT2), Fact.is (.pointer (some ⟨U, 2, none⟩)), Fact.is (.slice a3 n3 c3), Fact.is (.pointer (some ⟨U, 0, none⟩)), Fact.is (.int .u64 (u3 : Int)), Fact.is (.int .i64 (u3 : Int)), Fact.is (.slice p1 u3 m1), Fact.is (.string BO), Fact.is (.string BS), Fact.is (.string BS)]) 8 (by kernel_rfl) (by kernel_rfl) (by kernel_rfl) (by kernel_rfl) (Nat.le_refl _) ⟨Fact.is_stable _, Fact.is_stable _, Fact.is_stable _, Fact.is_stable _, Fact.is_stable _, Fact.is_stable _, Fact.is_stable _, Fact.is_stable _, Fact.is_stable _, Fact.is_stable _, Fact.is_stable _, Fact.is_stable _, Fact.is_stable _, Fact.is_stable _, trivial⟩ ⟨(fun _ => Fact.is_firm _ _), (fun _ => Fact.is_firm _ _), (fun _ => Fact.is_firm _ _), (fun _ => Fact.is_firm _ _), (fun _ => Fact.is_firm _ _), (fun _ => Fact.is_firm _ _), (fun _ => Fact.is_firm _ _), (fun _ => Fact.is_firm _ _), (fun _ => Fact.is_firm _ _), (fun _ => Fact.is_firm _ _), (fun _ => Fact.is_firm _ _), (fun _ => Fact.is_firm _ _), (fun _ => Fact.is_firm _ _), (fun _ => Fact.is_firm _ _), trivial⟩ ?_ ?_
      · exact ⟨by
            intro a W hA hB hd
            have hB := Lib.hid hB
            have p5 : a.eval (.tmp 5) = .string BL := hA.at 5 (by kernel_rfl)
            have p7 : a.eval (.tmp 7) = .pointer (some ⟨P, 0, none⟩) := hA.at 7 (by kernel_rfl)
            have p8 : a.eval (.tmp 8) = .pointer (some ⟨U, 0, none⟩) := hA.at 8 (by kernel_rfl)
            exact step2_of (step_pure (wanted_none rfl) (.string BL) (by simp [execOp, go_sem, tm p5]) rfl),
          by
            intro a W hA hB hd
            have hB := Lib.hid hB
            have p5 : a.eval (.tmp 5) = .string BL := hA.at 5 (by kernel_rfl)
            have p7 : a.eval (.tmp 7) = .pointer (some ⟨P, 0, none⟩) := hA.at 7 (by kernel_rfl)
            have p8 : a.eval (.tmp 8) = .pointer (some ⟨U, 0, none⟩) := hA.at 8 (by kernel_rfl)
            exact step2_of (step_pure (wanted_none rfl) (.pointer (some ⟨P, 0, none⟩)) (by simp [execOp, go_sem, tm p7]) rfl),
          by
            intro a W hA hB hd
            obtain ⟨q0, -⟩ := hd
            have h79 : a.eval (.tmp 79) = .pointer (some ⟨P, 0, none⟩) := q0
            have hB := Lib.hid hB
            have p5 : a.eval (.tmp 5) = .string BL := hA.at 5 (by kernel_rfl)
            have p7 : a.eval (.tmp 7) = .pointer (some ⟨P, 0, none⟩) := hA.at 7 (by kernel_rfl)
            have p8 : a.eval (.tmp 8) = .pointer (some ⟨U, 0, none⟩) := hA.at 8 (by kernel_rfl)
            obtain ⟨s0, s1, s2, s3⟩ := (HP.out.below hB.out HP.out.lt).cell
            exact step2_of (step_pure (wanted_none rfl) (.int .u64 (u2 : Int)) (by simp [execOp, go_sem, tm h79, s0]) rfl),
          by
            intro a W hA hB hd
            obtain ⟨q0, -⟩ := hd
            have h80 : a.eval (.tmp 80) = .int .u64 (u2 : Int) := q0
            have hB := Lib.hid hB
            have p5 : a.eval (.tmp 5) = .string BL := hA.at 5 (by kernel_rfl)
            have p7 : a.eval (.tmp 7) = .pointer (some ⟨P, 0, none⟩) := hA.at 7 (by kernel_rfl)
            have p8 : a.eval (.tmp 8) = .pointer (some ⟨U, 0, none⟩) := hA.at 8 (by kernel_rfl)
            exact step2_of (step_pure (wanted_none rfl) (.int .i64 (u2 : Int)) (by simp [execOp, go_sem, tm h80, HW2.out]) rfl),
          by
            intro a W hA hB hd
            obtain ⟨q0, q1, -⟩ := hd
            have h78 : a.eval (.tmp 78) = .string BL := q0
            have h81 : a.eval (.tmp 81) = .int .i64 (u2 : Int) := q1
            have hB := Lib.hid hB
            have p5 : a.eval (.tmp 5) = .string BL := hA.at 5 (by kernel_rfl)
            have p7 : a.eval (.tmp 7) = .pointer (some ⟨P, 0, none⟩) := hA.at 7 (by kernel_rfl)
            have p8 : a.eval (.tmp 8) = .pointer (some ⟨U, 0, none⟩) := hA.at 8 (by kernel_rfl)
            exact step2_of (step_pure (wanted_none rfl) (.string BT2) (by simp [execOp, go_sem, tm h78, tm h81, HCU.out]) rfl),
          by
            intro a W hA hB hd
            have hB := Lib.hid hB
            have p5 : a.eval (.tmp 5) = .string BL := hA.at 5 (by kernel_rfl)
            have p7 : a.eval (.tmp 7) = .pointer (some ⟨P, 0, none⟩) := hA.at 7 (by kernel_rfl)
            have p8 : a.eval (.tmp 8) = .pointer (some ⟨U, 0, none⟩) := hA.at 8 (by kernel_rfl)
            exact step2_of (step_pure (wanted_none rfl) (.pointer (some ⟨U, 2, none⟩)) (by simp [execOp, go_sem, tm p8]) rfl),
          by
            intro a W hA hB hd
            obtain ⟨q0, -⟩ := hd
            have h83 : a.eval (.tmp 83) = .pointer (some ⟨U, 2, none⟩) := q0
            have hB := Lib.hid hB
            have p5 : a.eval (.tmp 5) = .string BL := hA.at 5 (by kernel_rfl)
            have p7 : a.eval (.tmp 7) = .pointer (some ⟨P, 0, none⟩) := hA.at 7 (by kernel_rfl)
            have p8 : a.eval (.tmp 8) = .pointer (some ⟨U, 0, none⟩) := hA.at 8 (by kernel_rfl)
            obtain ⟨s0, s1, s2, s3⟩ := (HU.out.below hB.out HU.out.lt).cell
            exact step2_of (step_pure (wanted_none rfl) (.slice a3 n3 c3) (by simp [execOp, go_sem, tm h83, s2]) rfl),
          by
            intro a W hA hB hd
            have hB := Lib.hid hB
            have p5 : a.eval (.tmp 5) = .string BL := hA.at 5 (by kernel_rfl)
            have p7 : a.eval (.tmp 7) = .pointer (some ⟨P, 0, none⟩) := hA.at 7 (by kernel_rfl)
            have p8 : a.eval (.tmp 8) = .pointer (some ⟨U, 0, none⟩) := hA.at 8 (by kernel_rfl)
            exact step2_of (step_pure (wanted_none rfl) (.pointer (some ⟨U, 0, none⟩)) (by simp [execOp, go_sem, tm p8]) rfl),
          by
            intro a W hA hB hd
            obtain ⟨q0, -⟩ := hd
            have h85 : a.eval (.tmp 85) = .pointer (some ⟨U, 0, none⟩) := q0
            have hB := Lib.hid hB
            have p5 : a.eval (.tmp 5) = .string BL := hA.at 5 (by kernel_rfl)
            have p7 : a.eval (.tmp 7) = .pointer (some ⟨P, 0, none⟩) := hA.at 7 (by kernel_rfl)
            have p8 : a.eval (.tmp 8) = .pointer (some ⟨U, 0, none⟩) := hA.at 8 (by kernel_rfl)
            obtain ⟨s0, s1, s2, s3⟩ := (HU.out.below hB.out HU.out.lt).cell
            exact step2_of (step_pure (wanted_none rfl) (.int .u64 (u3 : Int)) (by simp [execOp, go_sem, tm h85, s0]) rfl),
          by
            intro a W hA hB hd
            obtain ⟨q0, -⟩ := hd
            have h86 : a.eval (.tmp 86) = .int .u64 (u3 : Int) := q0
            have hB := Lib.hid hB
            have p5 : a.eval (.tmp 5) = .string BL := hA.at 5 (by kernel_rfl)
            have p7 : a.eval (.tmp 7) = .pointer (some ⟨P, 0, none⟩) := hA.at 7 (by kernel_rfl)
            have p8 : a.eval (.tmp 8) = .pointer (some ⟨U, 0, none⟩) := hA.at 8 (by kernel_rfl)
            exact step2_of (step_pure (wanted_none rfl) (.int .i64 (u3 : Int)) (by simp [execOp, go_sem, tm h86, HW3.out]) rfl),
          by
            intro a W hA hB hd
            obtain ⟨q0, q1, -⟩ := hd
            have h84 : a.eval (.tmp 84) = .slice a3 n3 c3 := q0
            have h87 : a.eval (.tmp 87) = .int .i64 (u3 : Int) := q1
            have hB := Lib.hid hB
            have p5 : a.eval (.tmp 5) = .string BL := hA.at 5 (by kernel_rfl)
            have p7 : a.eval (.tmp 7) = .pointer (some ⟨P, 0, none⟩) := hA.at 7 (by kernel_rfl)
            have p8 : a.eval (.tmp 8) = .pointer (some ⟨U, 0, none⟩) := hA.at 8 (by kernel_rfl)
            exact step2_of (step_pure (wanted_none rfl) (.slice p1 u3 m1) (by simp [execOp, h84, h87, HC1.out]) rfl),
          by
            intro a W hA hB hd
            obtain ⟨q0, -⟩ := hd
            have h88 : a.eval (.tmp 88) = .slice p1 u3 m1 := q0
            have hB := Lib.hid hB
            have p5 : a.eval (.tmp 5) = .string BL := hA.at 5 (by kernel_rfl)
            have p7 : a.eval (.tmp 7) = .pointer (some ⟨P, 0, none⟩) := hA.at 7 (by kernel_rfl)
            have p8 : a.eval (.tmp 8) = .pointer (some ⟨U, 0, none⟩) := hA.at 8 (by kernel_rfl)
            have hcv := HCV.out W hB.out
            exact step2_of (step_pure (wanted_none rfl) (.string BO) (by simp [execOp, h88, hcv]) rfl),
          by
            intro a W hA hB hd
            obtain ⟨q0, q1, -⟩ := hd
            have h82 : a.eval (.tmp 82) = .string BT2 := q0
            have h89 : a.eval (.tmp 89) = .string BO := q1
            have hB := Lib.hid hB
            have p5 : a.eval (.tmp 5) = .string BL := hA.at 5 (by kernel_rfl)
            have p7 : a.eval (.tmp 7) = .pointer (some ⟨P, 0, none⟩) := hA.at 7 (by kernel_rfl)
            have p8 : a.eval (.tmp 8) = .pointer (some ⟨U, 0, none⟩) := hA.at 8 (by kernel_rfl)
            exact step2_of (step_pure (wanted_none rfl) (.string BS) (by simp [execOp, go_sem, tm h82, tm h89, HCT.out, HSZC.out]) rfl),
          by
            intro a W hA hB hd
            obtain ⟨q0, -⟩ := hd
            have h90 : a.eval (.tmp 90) = .string BS := q0
            have hB := Lib.hid hB
            have p5 : a.eval (.tmp 5) = .string BL := hA.at 5 (by kernel_rfl)
            have p7 : a.eval (.tmp 7) = .pointer (some ⟨P, 0, none⟩) := hA.at 7 (by kernel_rfl)
            have p8 : a.eval (.tmp 8) = .pointer (some ⟨U, 0, none⟩) := hA.at 8 (by kernel_rfl)
            exact step2_of (step_pure (wanted_none rfl) (.string BS) (by simp [execOp, go_sem, tm h90]) rfl), trivial⟩
      · intro ax V4 hA hB4 hE
        have e9 : ax.eval (.tmp 9) = .string BS := hE.2.2.2.2.2.2.2.2.2.2.2.2.2.1
        have hp := hA.puts [78, 79, 80, 81, 82, 83, 84, 85, 86, 87, 88, 89, 90, 9] (by kernel_rfl)
        clear hA hE
        simp only [putAll, e9] at hp
        clear e9
        generalize ax.eval = ev at hp
        subst hp
        replace HB : Hid (Below W.heap.size W V4) := HB.out.trans (hB4.mono HB.out.size)
        replace HQ := Lib.hid (HQ.out.below hB4 HQ.out.lt)
        replace HA := Lib.hid (HA.out.below hB4 HA.out.lt)
        replace HT := Lib.hid (HT.out.below hB4 HT.out.lt)
        replace HU := Lib.hid (HU.out.below hB4 HU.out.lt)
        replace HP := Lib.hid (HP.out.below hB4 HP.out.lt)
        replace HD := Lib.hid (rowS_below HD.out hB4)
        replace HP2 := Lib.hid (HP2.out.below hB4)
        clear hB4 HC1 HCV HCU HCT HR3
        simp [Act.put]
        have HSH := Lib.hid (fun W => sharedB_any dl sn (by rw [HLL.out]; omega) (by omega) W)
        rw [HBL.out, HBS.out] at HSH
        obtain ⟨e0, he0⟩ : ∃ n, shN dl sn = n := ⟨_, rfl⟩
        rw [he0] at HSH
        have HE0 := Lib.hid he0
        have hel := bs_less sn dl
        have hes := bs_same sn dl
        have hbl := bs_less dl sn
        rw [HBL.out, HBS.out] at hel hes hbl
        clear he0
        have HK0 : Hid (d = [] ↔ k = 0) := by
          show _ ↔ _
          rw [← HDL.out.1]
          exact List.length_eq_zero_iff.symm
        go_upto_region 21 with fail
        by_cases hk0 : k = 0
        · have HKI : Hid (k = 0) := hk0
          have hd0 : d = [] := HK0.out.2 hk0
          have hdl0 : dl = [] := by rw [← HDE.out, hd0]; rfl
          have hl0 : ldl = 0 := by rw [← HLL.out, hdl0]; rfl
          have hu0 : u2 = 0 := by omega
          have he0 : e0 = 0 := by rw [← HE0.out, hdl0]; exact sh_nil _
          have HSB : Hid (sbB d u2 o = true) := by show _ = _; unfold sbB; rw [hd0]; rfl
          have HEE : Hid (((e0 : Int) != (u2 : Int)) = false) := by show _ = _; rw [he0, hu0]; rfl
          clear hd0 hdl0 hl0 hu0 he0 hel hes hbl
          refine wp_region_writes (base := V4.heap.size) (us := [none, none, none, none, none, none, none, none, none, none, none, none, none, none, none, none]) (ws := []) (bs := [true, true, true, true, true, true, true, true, true, true, true, true, true, true, true, true]) (fs := [Fact.is (.int .i64 (k : Int)), Fact.is (.bool false), Fact.is (.bool false), Fact.no, Fact.no, Fact.no, Fact.is (.bool false), Fact.is (.bool false), Fact.is (.string BL), Fact.is (.string BS), Fact.is (.int .i64 (e0 : Int)), Fact.is (.pointer (some ⟨P, 0, none⟩)), Fact.is (.int .u64 (u2 : Int)), Fact.is (.int .i64 (u2 : Int)), Fact.is (.bool false), Fact.is (.bool false)]) 8 (by kernel_rfl) (by kernel_rfl) (by kernel_rfl) (by kernel_rfl) (Nat.le_refl _) ⟨Fact.is_stable _, Fact.is_stable _, Fact.is_stable _, Fact.no_stable, Fact.no_stable, Fact.no_stable, Fact.is_stable _, Fact.is_stable _, Fact.is_stable _, Fact.is_stable _, Fact.is_stable _, Fact.is_stable _, Fact.is_stable _, Fact.is_stable _, Fact.is_stable _, Fact.is_stable _, trivial⟩ ⟨(fun _ => Fact.is_firm _ _), (fun _ => Fact.is_firm _ _), (fun _ => Fact.is_firm _ _), (fun _ => Fact.no_firm _), (fun _ => Fact.no_firm _), (fun _ => Fact.no_firm _), (fun _ => Fact.is_firm _ _), (fun _ => Fact.is_firm _ _), (fun _ => Fact.is_firm _ _), (fun _ => Fact.is_firm _ _), (fun _ => Fact.is_firm _ _), (fun _ => Fact.is_firm _ _), (fun _ => Fact.is_firm _ _), (fun _ => Fact.is_firm _ _), (fun _ => Fact.is_firm _ _), (fun _ => Fact.is_firm _ _), trivial⟩ ?_ ?_
          · exact ⟨by
                intro a W hA hB hd
                have hB := Lib.hid hB
                have p5 : a.eval (.tmp 5) = .string BL := hA.at 5 (by kernel_rfl)
                have p6 : a.eval (.tmp 6) = .int .i64 (k : Int) := hA.at 6 (by kernel_rfl)
                have p7 : a.eval (.tmp 7) = .pointer (some ⟨P, 0, none⟩) := hA.at 7 (by kernel_rfl)
                have p9 : a.eval (.tmp 9) = .string BS := hA.at 9 (by kernel_rfl)
                exact step2_of (step_pure (wanted_none rfl) (.int .i64 (k : Int)) (by simp [execOp, go_sem, tm p6]) rfl),
              by
                intro a W hA hB hd
                obtain ⟨q0, -⟩ := hd
                have h91 : a.eval (.tmp 91) = .int .i64 (k : Int) := q0
                have hB := Lib.hid hB
                have p5 : a.eval (.tmp 5) = .string BL := hA.at 5 (by kernel_rfl)
                have p6 : a.eval (.tmp 6) = .int .i64 (k : Int) := hA.at 6 (by kernel_rfl)
                have p7 : a.eval (.tmp 7) = .pointer (some ⟨P, 0, none⟩) := hA.at 7 (by kernel_rfl)
                have p9 : a.eval (.tmp 9) = .string BS := hA.at 9 (by kernel_rfl)
                exact step2_of (step_pure (wanted_none rfl) (.bool false) (by simp [execOp, go_sem, tm h91, HKI.out]) rfl),
              by
                intro a W hA hB hd
                obtain ⟨q0, -⟩ := hd
                have h92 : a.eval (.tmp 92) = .bool false := q0
                have hB := Lib.hid hB
                have p5 : a.eval (.tmp 5) = .string BL := hA.at 5 (by kernel_rfl)
                have p6 : a.eval (.tmp 6) = .int .i64 (k : Int) := hA.at 6 (by kernel_rfl)
                have p7 : a.eval (.tmp 7) = .pointer (some ⟨P, 0, none⟩) := hA.at 7 (by kernel_rfl)
                have p9 : a.eval (.tmp 9) = .string BS := hA.at 9 (by kernel_rfl)
                exact step2_of (step_pure (wanted_none rfl) (.bool false) (by simp [execOp, go_sem, tm h92]) rfl),
              by
                intro a W hA hB hd
                obtain ⟨q0, -⟩ := hd
                have h93 : a.eval (.tmp 93) = .bool false := q0
                have hB := Lib.hid hB
                have p5 : a.eval (.tmp 5) = .string BL := hA.at 5 (by kernel_rfl)
                have p6 : a.eval (.tmp 6) = .int .i64 (k : Int) := hA.at 6 (by kernel_rfl)
                have p7 : a.eval (.tmp 7) = .pointer (some ⟨P, 0, none⟩) := hA.at 7 (by kernel_rfl)
                have p9 : a.eval (.tmp 9) = .string BS := hA.at 9 (by kernel_rfl)
                exact step2_of (step_not ((wanted_guard rfl 93 rfl h93).trans rfl) trivial),
              by
                intro a W hA hB hd
                obtain ⟨q0, -⟩ := hd
                have h93 : a.eval (.tmp 93) = .bool false := q0
                have hB := Lib.hid hB
                have p5 : a.eval (.tmp 5) = .string BL := hA.at 5 (by kernel_rfl)
                have p6 : a.eval (.tmp 6) = .int .i64 (k : Int) := hA.at 6 (by kernel_rfl)
                have p7 : a.eval (.tmp 7) = .pointer (some ⟨P, 0, none⟩) := hA.at 7 (by kernel_rfl)
                have p9 : a.eval (.tmp 9) = .string BS := hA.at 9 (by kernel_rfl)
                exact step2_of (step_not ((wanted_guard rfl 93 rfl h93).trans rfl) trivial),
              by
                intro a W hA hB hd
                obtain ⟨q0, q1, q2, -⟩ := hd
                have h93 : a.eval (.tmp 93) = .bool false := q2
                have hB := Lib.hid hB
                have p5 : a.eval (.tmp 5) = .string BL := hA.at 5 (by kernel_rfl)
                have p6 : a.eval (.tmp 6) = .int .i64 (k : Int) := hA.at 6 (by kernel_rfl)
                have p7 : a.eval (.tmp 7) = .pointer (some ⟨P, 0, none⟩) := hA.at 7 (by kernel_rfl)
                have p9 : a.eval (.tmp 9) = .string BS := hA.at 9 (by kernel_rfl)
                exact step2_of (step_not ((wanted_guard rfl 93 rfl h93).trans rfl) trivial),
              by
                intro a W hA hB hd
                obtain ⟨q0, q1, -⟩ := hd
                have h93 : a.eval (.tmp 93) = .bool false := q0
                have hB := Lib.hid hB
                have p5 : a.eval (.tmp 5) = .string BL := hA.at 5 (by kernel_rfl)
                have p6 : a.eval (.tmp 6) = .int .i64 (k : Int) := hA.at 6 (by kernel_rfl)
                have p7 : a.eval (.tmp 7) = .pointer (some ⟨P, 0, none⟩) := hA.at 7 (by kernel_rfl)
                have p9 : a.eval (.tmp 9) = .string BS := hA.at 9 (by kernel_rfl)
                exact step2_of (step_pure (wanted_none rfl) (.bool false) (by simp [execOp, go_sem, tm h93]) rfl),
              by
                intro a W hA hB hd
                obtain ⟨q0, q1, -⟩ := hd
                have h97 : a.eval (.tmp 97) = .bool false := q0
                have h93 : a.eval (.tmp 93) = .bool false := q1
                have hB := Lib.hid hB
                have p5 : a.eval (.tmp 5) = .string BL := hA.at 5 (by kernel_rfl)
                have p6 : a.eval (.tmp 6) = .int .i64 (k : Int) := hA.at 6 (by kernel_rfl)
                have p7 : a.eval (.tmp 7) = .pointer (some ⟨P, 0, none⟩) := hA.at 7 (by kernel_rfl)
                have p9 : a.eval (.tmp 9) = .string BS := hA.at 9 (by kernel_rfl)
                exact step2_of (step_pure (wanted_none rfl) (.bool false) (by simp [execOp, go_sem, tm h97]) rfl),
              by
                intro a W hA hB hd
                obtain ⟨q0, -⟩ := hd
                have h98 : a.eval (.tmp 98) = .bool false := q0
                have hB := Lib.hid hB
                have p5 : a.eval (.tmp 5) = .string BL := hA.at 5 (by kernel_rfl)
                have p6 : a.eval (.tmp 6) = .int .i64 (k : Int) := hA.at 6 (by kernel_rfl)
                have p7 : a.eval (.tmp 7) = .pointer (some ⟨P, 0, none⟩) := hA.at 7 (by kernel_rfl)
                have p9 : a.eval (.tmp 9) = .string BS := hA.at 9 (by kernel_rfl)
                exact step2_of (step_pure ((wanted_guard rfl 98 rfl h98).trans rfl) (.string BL) (by simp [execOp, go_sem, tm p5]) rfl),
              by
                intro a W hA hB hd
                obtain ⟨q0, -⟩ := hd
                have h98 : a.eval (.tmp 98) = .bool false := q0
                have hB := Lib.hid hB
                have p5 : a.eval (.tmp 5) = .string BL := hA.at 5 (by kernel_rfl)
                have p6 : a.eval (.tmp 6) = .int .i64 (k : Int) := hA.at 6 (by kernel_rfl)
                have p7 : a.eval (.tmp 7) = .pointer (some ⟨P, 0, none⟩) := hA.at 7 (by kernel_rfl)
                have p9 : a.eval (.tmp 9) = .string BS := hA.at 9 (by kernel_rfl)
                exact step2_of (step_pure ((wanted_guard rfl 98 rfl h98).trans rfl) (.string BS) (by simp [execOp, go_sem, tm p9]) rfl),
              by
                intro a W hA hB hd
                obtain ⟨q0, q1, q2, q3, -⟩ := hd
                have h99 : a.eval (.tmp 99) = .string BL := q0
                have h100 : a.eval (.tmp 100) = .string BS := q1
                have h98 : a.eval (.tmp 98) = .bool false := q2
                have hB := Lib.hid hB
                have p5 : a.eval (.tmp 5) = .string BL := hA.at 5 (by kernel_rfl)
                have p6 : a.eval (.tmp 6) = .int .i64 (k : Int) := hA.at 6 (by kernel_rfl)
                have p7 : a.eval (.tmp 7) = .pointer (some ⟨P, 0, none⟩) := hA.at 7 (by kernel_rfl)
                have p9 : a.eval (.tmp 9) = .string BS := hA.at 9 (by kernel_rfl)
                exact step2_of (step_calls ((wanted_guard rfl 98 rfl h98).trans rfl) rfl (vals := #[.string BL, .string BS]) (by simp [h99, h100]) (enters_of Try.func46 (by kernel_rfl) rfl) ((HSH.out W).mono fun e w' ⟨he, hb⟩ => ⟨_, he, rfl, hb⟩)),
              by
                intro a W hA hB hd
                obtain ⟨q0, -⟩ := hd
                have h98 : a.eval (.tmp 98) = .bool false := q0
                have hB := Lib.hid hB
                have p5 : a.eval (.tmp 5) = .string BL := hA.at 5 (by kernel_rfl)
                have p6 : a.eval (.tmp 6) = .int .i64 (k : Int) := hA.at 6 (by kernel_rfl)
                have p7 : a.eval (.tmp 7) = .pointer (some ⟨P, 0, none⟩) := hA.at 7 (by kernel_rfl)
                have p9 : a.eval (.tmp 9) = .string BS := hA.at 9 (by kernel_rfl)
                exact step2_of (step_pure ((wanted_guard rfl 98 rfl h98).trans rfl) (.pointer (some ⟨P, 0, none⟩)) (by simp [execOp, go_sem, tm p7]) rfl),
              by
                intro a W hA hB hd
                obtain ⟨q0, q1, -⟩ := hd
                have h102 : a.eval (.tmp 102) = .pointer (some ⟨P, 0, none⟩) := q0
                have h98 : a.eval (.tmp 98) = .bool false := q1
                have hB := Lib.hid hB
                have p5 : a.eval (.tmp 5) = .string BL := hA.at 5 (by kernel_rfl)
                have p6 : a.eval (.tmp 6) = .int .i64 (k : Int) := hA.at 6 (by kernel_rfl)
                have p7 : a.eval (.tmp 7) = .pointer (some ⟨P, 0, none⟩) := hA.at 7 (by kernel_rfl)
                have p9 : a.eval (.tmp 9) = .string BS := hA.at 9 (by kernel_rfl)
                have c0 := (HP.out.below hB.out HP.out.lt).cell.1
                exact step2_of (step_pure ((wanted_guard rfl 98 rfl h98).trans rfl) (.int .u64 (u2 : Int)) (by simp [execOp, go_sem, tm h102, c0]) rfl),
              by
                intro a W hA hB hd
                obtain ⟨q0, q1, -⟩ := hd
                have h103 : a.eval (.tmp 103) = .int .u64 (u2 : Int) := q0
                have h98 : a.eval (.tmp 98) = .bool false := q1
                have hB := Lib.hid hB
                have p5 : a.eval (.tmp 5) = .string BL := hA.at 5 (by kernel_rfl)
                have p6 : a.eval (.tmp 6) = .int .i64 (k : Int) := hA.at 6 (by kernel_rfl)
                have p7 : a.eval (.tmp 7) = .pointer (some ⟨P, 0, none⟩) := hA.at 7 (by kernel_rfl)
                have p9 : a.eval (.tmp 9) = .string BS := hA.at 9 (by kernel_rfl)
                exact step2_of (step_pure ((wanted_guard rfl 98 rfl h98).trans rfl) (.int .i64 (u2 : Int)) (by simp [execOp, go_sem, tm h103, HW2.out]) rfl),
              by
                intro a W hA hB hd
                obtain ⟨q0, q1, q2, -⟩ := hd
                have h101 : a.eval (.tmp 101) = .int .i64 (e0 : Int) := q0
                have h104 : a.eval (.tmp 104) = .int .i64 (u2 : Int) := q1
                have h98 : a.eval (.tmp 98) = .bool false := q2
                have hB := Lib.hid hB
                have p5 : a.eval (.tmp 5) = .string BL := hA.at 5 (by kernel_rfl)
                have p6 : a.eval (.tmp 6) = .int .i64 (k : Int) := hA.at 6 (by kernel_rfl)
                have p7 : a.eval (.tmp 7) = .pointer (some ⟨P, 0, none⟩) := hA.at 7 (by kernel_rfl)
                have p9 : a.eval (.tmp 9) = .string BS := hA.at 9 (by kernel_rfl)
                exact step2_of (step_pure ((wanted_guard rfl 98 rfl h98).trans rfl) (.bool false) (by simp [execOp, go_sem, tm h101, tm h104, HEE.out]) rfl),
              by
                intro a W hA hB hd
                obtain ⟨q0, q1, -⟩ := hd
                have h98 : a.eval (.tmp 98) = .bool false := q0
                have h105 : a.eval (.tmp 105) = .bool false := q1
                have hB := Lib.hid hB
                have p5 : a.eval (.tmp 5) = .string BL := hA.at 5 (by kernel_rfl)
                have p6 : a.eval (.tmp 6) = .int .i64 (k : Int) := hA.at 6 (by kernel_rfl)
                have p7 : a.eval (.tmp 7) = .pointer (some ⟨P, 0, none⟩) := hA.at 7 (by kernel_rfl)
                have p9 : a.eval (.tmp 9) = .string BS := hA.at 9 (by kernel_rfl)
                exact step2_of (step_pure (wanted_none rfl) (.bool false) (by simp [execOp, go_sem, tm h98, tm h105]) rfl), trivial⟩
          · intro ax V5 hA hB5 hE
            have hev : ax.eval (.tmp 106) = .bool false := hE.2.2.2.2.2.2.2.2.2.2.2.2.2.2.2.1
            have hp := hA.puts [91, 92, 93, 94, 95, 96, 97, 98, 99, 100, 101, 102, 103, 104, 105, 106] (by kernel_rfl)
            clear hA hE
            simp only [putAll, hev] at hp
            clear hev
            generalize ax.eval = ev at hp
            subst hp
            replace HB : Hid (Below W.heap.size W V5) := HB.out.trans (hB5.mono HB.out.size)
            replace HQ := Lib.hid (HQ.out.below hB5 HQ.out.lt)
            replace HA := Lib.hid (HA.out.below hB5 HA.out.lt)
            replace HT := Lib.hid (HT.out.below hB5 HT.out.lt)
            replace HU := Lib.hid (HU.out.below hB5 HU.out.lt)
            replace HD := Lib.hid (rowS_below HD.out hB5)
            replace HP2 := Lib.hid (HP2.out.below hB5)
            clear hB5 HSH HP
            simp [Act.put]
            have HGN := Lib.hid (goes_next HGM.out HRP.out HSB.out)
            rw [HSN.out] at HGN
            have hdl2 : d.length ≤ 1000000 := by rw [HDL.out.1]; omega
            obtain ⟨gn, cn, w6, hrun, hown, hgr, hcap⟩ := append_str HD.out hdl2 sn HBS.out (Nat.succ_le_of_lt HT.out.lt)
            have hTn : some T ≠ v.ownBlock := own_ne HD.out (Nat.lt_succ_self T)
            have hWT := HTE.out.1
            have HT6 := Lib.hid (HT.out.grown hgr hTn)
            have HQ6 := Lib.hid (HQ.out.grown hgr (own_ne HD.out (HRT.out)))
            have HA6 := Lib.hid (HA.out.grown hgr (own_ne HD.out (HAT.out)))
            have HU6 := Lib.hid (HU.out.grown hgr (quad_ne HU.out (by decide) HD.out))
            have HP6 : Hid (Rd (fun b => b < W.heap.size) w6 .u8 p2 (n3 - u3) m2 (((bk.drop k2).drop k3).drop u3)) := HP2.out.kept (Kept.of_grownBy hgr (fun r e h => by have h : r < W.heap.size := h; exact own_ne HD.out (show r < T + 1 by omega) e.symm))
            have HB6 : Hid (Below W.heap.size W w6) := HB.out.grown hgr HB.out.size (fun r e => by
              refine (Nat.lt_or_ge r (T + 1)).elim (fun h => absurd e.symm (own_ne HD.out h)) (fun h => by omega))
            have HUT := Lib.hid (tre_quad_ne HT.out HU.out)
            have HRUN := Lib.hid hrun
            have HOWN := Lib.hid hown
            have HCAP := Lib.hid hcap
            obtain ⟨t0, t1, t2⟩ := HT.out.cell
            obtain ⟨x0, x1, x2⟩ := HT6.out.cell
            have y0 := HT6.out.f 0
            have ylt := HT6.out.lt
            clear hrun hown hgr hcap hTn HT HQ HA HU HP2 HB HD HGM HRP HSB
            go_upto_region 24 with (refine Lib.wpList_append_run _ rfl _ _ _ _ rfl _ _ rfl rfl _ _ HRUN.out ?_)
            have HT7 : Hid (Tre (w6.setCell ⟨T, 0, none⟩ (.slice (some ⟨gn, 0, none⟩) (d.length + 1) cn)) T 48 (.slice (some ⟨gn, 0, none⟩) (d.length + 1) cn) (.slice a0 n0 c0) (.int .i64 0)) := HT6.out.put0 _
            have HQ7 := Lib.hid (HQ6.out.other (i := 0) HTE.out.2.1 (.slice (some ⟨gn, 0, none⟩) (d.length + 1) cn))
            have HA7 := Lib.hid (HA6.out.other (i := 0) HTE.out.2.2 (.slice (some ⟨gn, 0, none⟩) (d.length + 1) cn))
            have HU7 := Lib.hid (HU6.out.other (i := 0) HUT.out (.slice (some ⟨gn, 0, none⟩) (d.length + 1) cn))
            have HP7 := Lib.hid (HP6.out.set5 ⟨T, 0, none⟩ (.slice (some ⟨gn, 0, none⟩) (d.length + 1) cn) (fun h => by have h : T < W.heap.size := h; omega))
            have HB7 : Hid (Below W.heap.size W (w6.setCell ⟨T, 0, none⟩ (.slice (some ⟨gn, 0, none⟩) (d.length + 1) cn))) := HB6.out.setCell hWT _
            have HO7 : Hid ((w6.setCell ⟨T, 0, none⟩ (.slice (some ⟨gn, 0, none⟩) (d.length + 1) cn)).ownsRow (T + 1) 9 1 (.slice (some ⟨gn, 0, none⟩) (d.length + 1) cn) (d.length + 1) ((d ++ [sn]).map encStr)) := rowS_grown HOWN.out (grownBy_set5 _ _ _) (fun g h e => by injection e with e; have e : g = T := e; omega)
            clear t0 t1 t2 x0 x1 x2 y0 ylt HT6 HQ6 HA6 HU6 HP6 HB6 HOWN HRUN
            generalize w6.setCell ⟨T, 0, none⟩ (.slice (some ⟨gn, 0, none⟩) (d.length + 1) cn) = V7 at *
            obtain ⟨s0, s1, s2, s3⟩ := HU7.out.cell
            obtain ⟨x0, x1, x2⟩ := HT7.out.cell
            have y1 := HT7.out.f 1
            have ylt := HT7.out.lt
            have hc2 := HC2.out
            have hw3b := HW3.out
            have HT8 : Hid (Tre (V7.setCell ⟨T, 1, none⟩ (.slice p2 (n3 - u3) m2)) T 48 (.slice (some ⟨gn, 0, none⟩) (d.length + 1) cn) (.slice p2 (n3 - u3) m2) (.int .i64 0)) := HT7.out.put1 _
            have HQ8 := Lib.hid (HQ7.out.other (i := 1) HTE.out.2.1 (.slice p2 (n3 - u3) m2))
            have HA8 := Lib.hid (HA7.out.other (i := 1) HTE.out.2.2 (.slice p2 (n3 - u3) m2))
            have HP8 := Lib.hid (HP7.out.set5 ⟨T, 1, none⟩ (.slice p2 (n3 - u3) m2) (fun h => by have h : T < W.heap.size := h; omega))
            have HB8 : Hid (Below W.heap.size W (V7.setCell ⟨T, 1, none⟩ (.slice p2 (n3 - u3) m2))) := HB7.out.setCell hWT _
            have HO8 : Hid ((V7.setCell ⟨T, 1, none⟩ (.slice p2 (n3 - u3) m2)).ownsRow (T + 1) 9 1 (.slice (some ⟨gn, 0, none⟩) (d.length + 1) cn) (d.length + 1) ((d ++ [sn]).map encStr)) := rowS_grown HO7.out (grownBy_set5 _ _ _) (fun g h e => by injection e with e; have e : g = T := e; omega)
            have HDN : Hid ((d ++ [sn]).length = k + 1 ∧ Short255 (d ++ [sn])) := ⟨by rw [List.length_append, HDL.out.1]; rfl, fun s hs => by
              rcases List.mem_append.1 hs with h | h
              · exact HDL.out.2 s h
              · rw [List.mem_singleton.1 h]; exact hsl⟩
            have HLN : Hid ((d ++ [sn]).getLastD [] = sn) := by show _ = _; simp
            have HLE : Hid ((d ++ [sn]).length = d.length + 1) := by show _ = _; simp
            have HDR : Hid (bk.drop (k2 + (k3 + u3)) = ((bk.drop k2).drop k3).drop u3) := by show _ = _; rw [← List.drop_drop, ← List.drop_drop]
            rw [HDR.out] at HGN
            have HON := Lib.hid (((HOK.out.drop k2).drop k3).drop u3)
            clear hw3 hwl hwz hzI hsz HT7 HQ7 HA7 HU7 HP7 HB7 HO7 HDR HUT
            go_wp2_with fail
            go_roundw
            case rel => exact ⟨k + 1, d ++ [sn], .slice (some ⟨gn, 0, none⟩) (d.length + 1) cn, ((bk.drop k2).drop k3).drop u3, p2, n3 - u3, m2, HLT.out, by go_num, by rw [HLN.out, HBS.out], HDN.out, by rw [HLE.out]; exact HO8, HT8, HQ8, HA8, HP8, HON, by rw [HMM.out]; exact HGN, HB8⟩
            case measure => have := HLT.out; simp [intOf]; omega
        · have HKI : Hid (0 < k) := by show _ < _; omega
          have hd0 : ¬ d = [] := fun h => hk0 (HK0.out.1 h)
          by_cases hls : dl < sn
          · have hng : ¬ sn < dl := slt_asymm hls
            have hne : ¬ sn = dl := fun e => slt_irrefl _ (e ▸ hls)
            rw [decide_eq_false hng] at hel
            rw [decide_eq_false hne] at hes
            rw [decide_eq_true hls] at hbl
            have HEL := Lib.hid hel
            have HES := Lib.hid hes
            have HBL2 := Lib.hid hbl
            by_cases he : e0 = u2
            · have HEE : Hid (((e0 : Int) != (u2 : Int)) = false) := by show _ = _; rw [he]; simp
              have HSB : Hid (sbB d u2 o = true) := by
                show _ = _
                unfold sbB
                rw [HSN.out, HDE.out, HE0.out, he, decide_eq_false hd0, decide_eq_true hls]
                simp
              clear hd0 hng hne hls he hk0 hel hes hbl
              refine wp_region_writes (base := V4.heap.size) (us := [none, none, none, none, none, none, none, none, none, none, none, none, none, none, none, none]) (ws := []) (bs := [true, true, true, true, true, true, true, true, true, true, true, true, true, true, true, true]) (fs := [Fact.is (.int .i64 (k : Int)), Fact.is (.bool true), Fact.is (.bool true), Fact.is (.string BS), Fact.is (.string BL), Fact.is (.bool false), Fact.is (.bool false), Fact.is (.bool false), Fact.is (.string BL), Fact.is (.string BS), Fact.is (.int .i64 (e0 : Int)), Fact.is (.pointer (some ⟨P, 0, none⟩)), Fact.is (.int .u64 (u2 : Int)), Fact.is (.int .i64 (u2 : Int)), Fact.is (.bool false), Fact.is (.bool false)]) 8 (by kernel_rfl) (by kernel_rfl) (by kernel_rfl) (by kernel_rfl) (Nat.le_refl _) ⟨Fact.is_stable _, Fact.is_stable _, Fact.is_stable _, Fact.is_stable _, Fact.is_stable _, Fact.is_stable _, Fact.is_stable _, Fact.is_stable _, Fact.is_stable _, Fact.is_stable _, Fact.is_stable _, Fact.is_stable _, Fact.is_stable _, Fact.is_stable _, Fact.is_stable _, Fact.is_stable _, trivial⟩ ⟨(fun _ => Fact.is_firm _ _), (fun _ => Fact.is_firm _ _), (fun _ => Fact.is_firm _ _), (fun _ => Fact.is_firm _ _), (fun _ => Fact.is_firm _ _), (fun _ => Fact.is_firm _ _), (fun _ => Fact.is_firm _ _), (fun _ => Fact.is_firm _ _), (fun _ => Fact.is_firm _ _), (fun _ => Fact.is_firm _ _), (fun _ => Fact.is_firm _ _), (fun _ => Fact.is_firm _ _), (fun _ => Fact.is_firm _ _), (fun _ => Fact.is_firm _ _), (fun _ => Fact.is_firm _ _), (fun _ => Fact.is_firm _ _), trivial⟩ ?_ ?_
              · exact ⟨by
                    intro a W hA hB hd
                    have hB := Lib.hid hB
                    have p5 : a.eval (.tmp 5) = .string BL := hA.at 5 (by kernel_rfl)
                    have p6 : a.eval (.tmp 6) = .int .i64 (k : Int) := hA.at 6 (by kernel_rfl)
                    have p7 : a.eval (.tmp 7) = .pointer (some ⟨P, 0, none⟩) := hA.at 7 (by kernel_rfl)
                    have p9 : a.eval (.tmp 9) = .string BS := hA.at 9 (by kernel_rfl)
                    exact step2_of (step_pure (wanted_none rfl) (.int .i64 (k : Int)) (by simp [execOp, go_sem, tm p6]) rfl),
                  by
                    intro a W hA hB hd
                    obtain ⟨q0, -⟩ := hd
                    have h91 : a.eval (.tmp 91) = .int .i64 (k : Int) := q0
                    have hB := Lib.hid hB
                    have p5 : a.eval (.tmp 5) = .string BL := hA.at 5 (by kernel_rfl)
                    have p6 : a.eval (.tmp 6) = .int .i64 (k : Int) := hA.at 6 (by kernel_rfl)
                    have p7 : a.eval (.tmp 7) = .pointer (some ⟨P, 0, none⟩) := hA.at 7 (by kernel_rfl)
                    have p9 : a.eval (.tmp 9) = .string BS := hA.at 9 (by kernel_rfl)
                    exact step2_of (step_pure (wanted_none rfl) (.bool true) (by simp [execOp, go_sem, tm h91, HKI.out]) rfl),
                  by
                    intro a W hA hB hd
                    obtain ⟨q0, -⟩ := hd
                    have h92 : a.eval (.tmp 92) = .bool true := q0
                    have hB := Lib.hid hB
                    have p5 : a.eval (.tmp 5) = .string BL := hA.at 5 (by kernel_rfl)
                    have p6 : a.eval (.tmp 6) = .int .i64 (k : Int) := hA.at 6 (by kernel_rfl)
                    have p7 : a.eval (.tmp 7) = .pointer (some ⟨P, 0, none⟩) := hA.at 7 (by kernel_rfl)
                    have p9 : a.eval (.tmp 9) = .string BS := hA.at 9 (by kernel_rfl)
                    exact step2_of (step_pure (wanted_none rfl) (.bool true) (by simp [execOp, go_sem, tm h92]) rfl),
                  by
                    intro a W hA hB hd
                    obtain ⟨q0, -⟩ := hd
                    have h93 : a.eval (.tmp 93) = .bool true := q0
                    have hB := Lib.hid hB
                    have p5 : a.eval (.tmp 5) = .string BL := hA.at 5 (by kernel_rfl)
                    have p6 : a.eval (.tmp 6) = .int .i64 (k : Int) := hA.at 6 (by kernel_rfl)
                    have p7 : a.eval (.tmp 7) = .pointer (some ⟨P, 0, none⟩) := hA.at 7 (by kernel_rfl)
                    have p9 : a.eval (.tmp 9) = .string BS := hA.at 9 (by kernel_rfl)
                    exact step2_of (step_pure ((wanted_guard rfl 93 rfl h93).trans rfl) (.string BS) (by simp [execOp, go_sem, tm p9]) rfl),
                  by
                    intro a W hA hB hd
                    obtain ⟨q0, -⟩ := hd
                    have h93 : a.eval (.tmp 93) = .bool true := q0
                    have hB := Lib.hid hB
                    have p5 : a.eval (.tmp 5) = .string BL := hA.at 5 (by kernel_rfl)
                    have p6 : a.eval (.tmp 6) = .int .i64 (k : Int) := hA.at 6 (by kernel_rfl)
                    have p7 : a.eval (.tmp 7) = .pointer (some ⟨P, 0, none⟩) := hA.at 7 (by kernel_rfl)
                    have p9 : a.eval (.tmp 9) = .string BS := hA.at 9 (by kernel_rfl)
                    exact step2_of (step_pure ((wanted_guard rfl 93 rfl h93).trans rfl) (.string BL) (by simp [execOp, go_sem, tm p5]) rfl),
                  by
                    intro a W hA hB hd
                    obtain ⟨q0, q1, q2, -⟩ := hd
                    have h94 : a.eval (.tmp 94) = .string BS := q0
                    have h95 : a.eval (.tmp 95) = .string BL := q1
                    have h93 : a.eval (.tmp 93) = .bool true := q2
                    have hB := Lib.hid hB
                    have p5 : a.eval (.tmp 5) = .string BL := hA.at 5 (by kernel_rfl)
                    have p6 : a.eval (.tmp 6) = .int .i64 (k : Int) := hA.at 6 (by kernel_rfl)
                    have p7 : a.eval (.tmp 7) = .pointer (some ⟨P, 0, none⟩) := hA.at 7 (by kernel_rfl)
                    have p9 : a.eval (.tmp 9) = .string BS := hA.at 9 (by kernel_rfl)
                    exact step2_of (step_pure ((wanted_guard rfl 93 rfl h93).trans rfl) (.bool false) (by simp [execOp, go_sem, tm h94, tm h95, HEL.out, HES.out]) rfl),
                  by
                    intro a W hA hB hd
                    obtain ⟨q0, q1, -⟩ := hd
                    have h93 : a.eval (.tmp 93) = .bool true := q0
                    have h96 : a.eval (.tmp 96) = .bool false := q1
                    have hB := Lib.hid hB
                    have p5 : a.eval (.tmp 5) = .string BL := hA.at 5 (by kernel_rfl)
                    have p6 : a.eval (.tmp 6) = .int .i64 (k : Int) := hA.at 6 (by kernel_rfl)
                    have p7 : a.eval (.tmp 7) = .pointer (some ⟨P, 0, none⟩) := hA.at 7 (by kernel_rfl)
                    have p9 : a.eval (.tmp 9) = .string BS := hA.at 9 (by kernel_rfl)
                    exact step2_of (step_pure (wanted_none rfl) (.bool false) (by simp [execOp, go_sem, tm h93, tm h96]) rfl),
                  by
                    intro a W hA hB hd
                    obtain ⟨q0, q1, -⟩ := hd
                    have h97 : a.eval (.tmp 97) = .bool false := q0
                    have h93 : a.eval (.tmp 93) = .bool true := q1
                    have hB := Lib.hid hB
                    have p5 : a.eval (.tmp 5) = .string BL := hA.at 5 (by kernel_rfl)
                    have p6 : a.eval (.tmp 6) = .int .i64 (k : Int) := hA.at 6 (by kernel_rfl)
                    have p7 : a.eval (.tmp 7) = .pointer (some ⟨P, 0, none⟩) := hA.at 7 (by kernel_rfl)
                    have p9 : a.eval (.tmp 9) = .string BS := hA.at 9 (by kernel_rfl)
                    exact step2_of (step_pure (wanted_none rfl) (.bool false) (by simp [execOp, go_sem, tm h97]) rfl),
                  by
                    intro a W hA hB hd
                    obtain ⟨q0, -⟩ := hd
                    have h98 : a.eval (.tmp 98) = .bool false := q0
                    have hB := Lib.hid hB
                    have p5 : a.eval (.tmp 5) = .string BL := hA.at 5 (by kernel_rfl)
                    have p6 : a.eval (.tmp 6) = .int .i64 (k : Int) := hA.at 6 (by kernel_rfl)
                    have p7 : a.eval (.tmp 7) = .pointer (some ⟨P, 0, none⟩) := hA.at 7 (by kernel_rfl)
                    have p9 : a.eval (.tmp 9) = .string BS := hA.at 9 (by kernel_rfl)
                    exact step2_of (step_pure ((wanted_guard rfl 98 rfl h98).trans rfl) (.string BL) (by simp [execOp, go_sem, tm p5]) rfl),
                  by
                    intro a W hA hB hd
                    obtain ⟨q0, -⟩ := hd
                    have h98 : a.eval (.tmp 98) = .bool false := q0
                    have hB := Lib.hid hB
                    have p5 : a.eval (.tmp 5) = .string BL := hA.at 5 (by kernel_rfl)
                    have p6 : a.eval (.tmp 6) = .int .i64 (k : Int) := hA.at 6 (by kernel_rfl)
                    have p7 : a.eval (.tmp 7) = .pointer (some ⟨P, 0, none⟩) := hA.at 7 (by kernel_rfl)
                    have p9 : a.eval (.tmp 9) = .string BS := hA.at 9 (by kernel_rfl)
                    exact step2_of (step_pure ((wanted_guard rfl 98 rfl h98).trans rfl) (.string BS) (by simp [execOp, go_sem, tm p9]) rfl),
                  by
                    intro a W hA hB hd
                    obtain ⟨q0, q1, q2, q3, -⟩ := hd
                    have h99 : a.eval (.tmp 99) = .string BL := q0
                    have h100 : a.eval (.tmp 100) = .string BS := q1
                    have h98 : a.eval (.tmp 98) = .bool false := q2
                    have hB := Lib.hid hB
                    have p5 : a.eval (.tmp 5) = .string BL := hA.at 5 (by kernel_rfl)
                    have p6 : a.eval (.tmp 6) = .int .i64 (k : Int) := hA.at 6 (by kernel_rfl)
                    have p7 : a.eval (.tmp 7) = .pointer (some ⟨P, 0, none⟩) := hA.at 7 (by kernel_rfl)
                    have p9 : a.eval (.tmp 9) = .string BS := hA.at 9 (by kernel_rfl)
                    exact step2_of (step_calls ((wanted_guard rfl 98 rfl h98).trans rfl) rfl (vals := #[.string BL, .string BS]) (by simp [h99, h100]) (enters_of Try.func46 (by kernel_rfl) rfl) ((HSH.out W).mono fun e w' ⟨he, hb⟩ => ⟨_, he, rfl, hb⟩)),
                  by
                    intro a W hA hB hd
                    obtain ⟨q0, -⟩ := hd
                    have h98 : a.eval (.tmp 98) = .bool false := q0
                    have hB := Lib.hid hB
                    have p5 : a.eval (.tmp 5) = .string BL := hA.at 5 (by kernel_rfl)
                    have p6 : a.eval (.tmp 6) = .int .i64 (k : Int) := hA.at 6 (by kernel_rfl)
                    have p7 : a.eval (.tmp 7) = .pointer (some ⟨P, 0, none⟩) := hA.at 7 (by kernel_rfl)
                    have p9 : a.eval (.tmp 9) = .string BS := hA.at 9 (by kernel_rfl)
                    exact step2_of (step_pure ((wanted_guard rfl 98 rfl h98).trans rfl) (.pointer (some ⟨P, 0, none⟩)) (by simp [execOp, go_sem, tm p7]) rfl),
                  by
                    intro a W hA hB hd
                    obtain ⟨q0, q1, -⟩ := hd
                    have h102 : a.eval (.tmp 102) = .pointer (some ⟨P, 0, none⟩) := q0
                    have h98 : a.eval (.tmp 98) = .bool false := q1
                    have hB := Lib.hid hB
                    have p5 : a.eval (.tmp 5) = .string BL := hA.at 5 (by kernel_rfl)
                    have p6 : a.eval (.tmp 6) = .int .i64 (k : Int) := hA.at 6 (by kernel_rfl)
                    have p7 : a.eval (.tmp 7) = .pointer (some ⟨P, 0, none⟩) := hA.at 7 (by kernel_rfl)
                    have p9 : a.eval (.tmp 9) = .string BS := hA.at 9 (by kernel_rfl)
                    have c0 := (HP.out.below hB.out HP.out.lt).cell.1
                    exact step2_of (step_pure ((wanted_guard rfl 98 rfl h98).trans rfl) (.int .u64 (u2 : Int)) (by simp [execOp, go_sem, tm h102, c0]) rfl),
                  by
                    intro a W hA hB hd
                    obtain ⟨q0, q1, -⟩ := hd
                    have h103 : a.eval (.tmp 103) = .int .u64 (u2 : Int) := q0
                    have h98 : a.eval (.tmp 98) = .bool false := q1
                    have hB := Lib.hid hB
                    have p5 : a.eval (.tmp 5) = .string BL := hA.at 5 (by kernel_rfl)
                    have p6 : a.eval (.tmp 6) = .int .i64 (k : Int) := hA.at 6 (by kernel_rfl)
                    have p7 : a.eval (.tmp 7) = .pointer (some ⟨P, 0, none⟩) := hA.at 7 (by kernel_rfl)
                    have p9 : a.eval (.tmp 9) = .string BS := hA.at 9 (by kernel_rfl)
                    exact step2_of (step_pure ((wanted_guard rfl 98 rfl h98).trans rfl) (.int .i64 (u2 : Int)) (by simp [execOp, go_sem, tm h103, HW2.out]) rfl),
                  by
                    intro a W hA hB hd
                    obtain ⟨q0, q1, q2, -⟩ := hd
                    have h101 : a.eval (.tmp 101) = .int .i64 (e0 : Int) := q0
                    have h104 : a.eval (.tmp 104) = .int .i64 (u2 : Int) := q1
                    have h98 : a.eval (.tmp 98) = .bool false := q2
                    have hB := Lib.hid hB
                    have p5 : a.eval (.tmp 5) = .string BL := hA.at 5 (by kernel_rfl)
                    have p6 : a.eval (.tmp 6) = .int .i64 (k : Int) := hA.at 6 (by kernel_rfl)
                    have p7 : a.eval (.tmp 7) = .pointer (some ⟨P, 0, none⟩) := hA.at 7 (by kernel_rfl)
                    have p9 : a.eval (.tmp 9) = .string BS := hA.at 9 (by kernel_rfl)
                    exact step2_of (step_pure ((wanted_guard rfl 98 rfl h98).trans rfl) (.bool false) (by simp [execOp, go_sem, tm h101, tm h104, HEE.out]) rfl),
                  by
                    intro a W hA hB hd
                    obtain ⟨q0, q1, -⟩ := hd
                    have h98 : a.eval (.tmp 98) = .bool false := q0
                    have h105 : a.eval (.tmp 105) = .bool false := q1
                    have hB := Lib.hid hB
                    have p5 : a.eval (.tmp 5) = .string BL := hA.at 5 (by kernel_rfl)
                    have p6 : a.eval (.tmp 6) = .int .i64 (k : Int) := hA.at 6 (by kernel_rfl)
                    have p7 : a.eval (.tmp 7) = .pointer (some ⟨P, 0, none⟩) := hA.at 7 (by kernel_rfl)
                    have p9 : a.eval (.tmp 9) = .string BS := hA.at 9 (by kernel_rfl)
                    exact step2_of (step_pure (wanted_none rfl) (.bool false) (by simp [execOp, go_sem, tm h98, tm h105]) rfl), trivial⟩
              · intro ax V5 hA hB5 hE
                have hev : ax.eval (.tmp 106) = .bool false := hE.2.2.2.2.2.2.2.2.2.2.2.2.2.2.2.1
                have hp := hA.puts [91, 92, 93, 94, 95, 96, 97, 98, 99, 100, 101, 102, 103, 104, 105, 106] (by kernel_rfl)
                clear hA hE
                simp only [putAll, hev] at hp
                clear hev
                generalize ax.eval = ev at hp
                subst hp
                replace HB : Hid (Below W.heap.size W V5) := HB.out.trans (hB5.mono HB.out.size)
                replace HQ := Lib.hid (HQ.out.below hB5 HQ.out.lt)
                replace HA := Lib.hid (HA.out.below hB5 HA.out.lt)
                replace HT := Lib.hid (HT.out.below hB5 HT.out.lt)
                replace HU := Lib.hid (HU.out.below hB5 HU.out.lt)
                replace HD := Lib.hid (rowS_below HD.out hB5)
                replace HP2 := Lib.hid (HP2.out.below hB5)
                clear hB5 HSH HP
                simp [Act.put]
                have HGN := Lib.hid (goes_next HGM.out HRP.out HSB.out)
                rw [HSN.out] at HGN
                have hdl2 : d.length ≤ 1000000 := by rw [HDL.out.1]; omega
                obtain ⟨gn, cn, w6, hrun, hown, hgr, hcap⟩ := append_str HD.out hdl2 sn HBS.out (Nat.succ_le_of_lt HT.out.lt)
                have hTn : some T ≠ v.ownBlock := own_ne HD.out (Nat.lt_succ_self T)
                have hWT := HTE.out.1
                have HT6 := Lib.hid (HT.out.grown hgr hTn)
                have HQ6 := Lib.hid (HQ.out.grown hgr (own_ne HD.out (HRT.out)))
                have HA6 := Lib.hid (HA.out.grown hgr (own_ne HD.out (HAT.out)))
                have HU6 := Lib.hid (HU.out.grown hgr (quad_ne HU.out (by decide) HD.out))
                have HP6 : Hid (Rd (fun b => b < W.heap.size) w6 .u8 p2 (n3 - u3) m2 (((bk.drop k2).drop k3).drop u3)) := HP2.out.kept (Kept.of_grownBy hgr (fun r e h => by have h : r < W.heap.size := h; exact own_ne HD.out (show r < T + 1 by omega) e.symm))
                have HB6 : Hid (Below W.heap.size W w6) := HB.out.grown hgr HB.out.size (fun r e => by
                  refine (Nat.lt_or_ge r (T + 1)).elim (fun h => absurd e.symm (own_ne HD.out h)) (fun h => by omega))
                have HUT := Lib.hid (tre_quad_ne HT.out HU.out)
                have HRUN := Lib.hid hrun
                have HOWN := Lib.hid hown
                have HCAP := Lib.hid hcap
                obtain ⟨t0, t1, t2⟩ := HT.out.cell
                obtain ⟨x0, x1, x2⟩ := HT6.out.cell
                have y0 := HT6.out.f 0
                have ylt := HT6.out.lt
                clear hrun hown hgr hcap hTn HT HQ HA HU HP2 HB HD HGM HRP HSB
                go_upto_region 24 with (refine Lib.wpList_append_run _ rfl _ _ _ _ rfl _ _ rfl rfl _ _ HRUN.out ?_)
                have HT7 : Hid (Tre (w6.setCell ⟨T, 0, none⟩ (.slice (some ⟨gn, 0, none⟩) (d.length + 1) cn)) T 48 (.slice (some ⟨gn, 0, none⟩) (d.length + 1) cn) (.slice a0 n0 c0) (.int .i64 0)) := HT6.out.put0 _
                have HQ7 := Lib.hid (HQ6.out.other (i := 0) HTE.out.2.1 (.slice (some ⟨gn, 0, none⟩) (d.length + 1) cn))
                have HA7 := Lib.hid (HA6.out.other (i := 0) HTE.out.2.2 (.slice (some ⟨gn, 0, none⟩) (d.length + 1) cn))
                have HU7 := Lib.hid (HU6.out.other (i := 0) HUT.out (.slice (some ⟨gn, 0, none⟩) (d.length + 1) cn))
                have HP7 := Lib.hid (HP6.out.set5 ⟨T, 0, none⟩ (.slice (some ⟨gn, 0, none⟩) (d.length + 1) cn) (fun h => by have h : T < W.heap.size := h; omega))
                have HB7 : Hid (Below W.heap.size W (w6.setCell ⟨T, 0, none⟩ (.slice (some ⟨gn, 0, none⟩) (d.length + 1) cn))) := HB6.out.setCell hWT _
                have HO7 : Hid ((w6.setCell ⟨T, 0, none⟩ (.slice (some ⟨gn, 0, none⟩) (d.length + 1) cn)).ownsRow (T + 1) 9 1 (.slice (some ⟨gn, 0, none⟩) (d.length + 1) cn) (d.length + 1) ((d ++ [sn]).map encStr)) := rowS_grown HOWN.out (grownBy_set5 _ _ _) (fun g h e => by injection e with e; have e : g = T := e; omega)
                clear t0 t1 t2 x0 x1 x2 y0 ylt HT6 HQ6 HA6 HU6 HP6 HB6 HOWN HRUN
                generalize w6.setCell ⟨T, 0, none⟩ (.slice (some ⟨gn, 0, none⟩) (d.length + 1) cn) = V7 at *
                obtain ⟨s0, s1, s2, s3⟩ := HU7.out.cell
                obtain ⟨x0, x1, x2⟩ := HT7.out.cell
                have y1 := HT7.out.f 1
                have ylt := HT7.out.lt
                have hc2 := HC2.out
                have hw3b := HW3.out
                have HT8 : Hid (Tre (V7.setCell ⟨T, 1, none⟩ (.slice p2 (n3 - u3) m2)) T 48 (.slice (some ⟨gn, 0, none⟩) (d.length + 1) cn) (.slice p2 (n3 - u3) m2) (.int .i64 0)) := HT7.out.put1 _
                have HQ8 := Lib.hid (HQ7.out.other (i := 1) HTE.out.2.1 (.slice p2 (n3 - u3) m2))
                have HA8 := Lib.hid (HA7.out.other (i := 1) HTE.out.2.2 (.slice p2 (n3 - u3) m2))
                have HP8 := Lib.hid (HP7.out.set5 ⟨T, 1, none⟩ (.slice p2 (n3 - u3) m2) (fun h => by have h : T < W.heap.size := h; omega))
                have HB8 : Hid (Below W.heap.size W (V7.setCell ⟨T, 1, none⟩ (.slice p2 (n3 - u3) m2))) := HB7.out.setCell hWT _
                have HO8 : Hid ((V7.setCell ⟨T, 1, none⟩ (.slice p2 (n3 - u3) m2)).ownsRow (T + 1) 9 1 (.slice (some ⟨gn, 0, none⟩) (d.length + 1) cn) (d.length + 1) ((d ++ [sn]).map encStr)) := rowS_grown HO7.out (grownBy_set5 _ _ _) (fun g h e => by injection e with e; have e : g = T := e; omega)
                have HDN : Hid ((d ++ [sn]).length = k + 1 ∧ Short255 (d ++ [sn])) := ⟨by rw [List.length_append, HDL.out.1]; rfl, fun s hs => by
                  rcases List.mem_append.1 hs with h | h
                  · exact HDL.out.2 s h
                  · rw [List.mem_singleton.1 h]; exact hsl⟩
                have HLN : Hid ((d ++ [sn]).getLastD [] = sn) := by show _ = _; simp
                have HLE : Hid ((d ++ [sn]).length = d.length + 1) := by show _ = _; simp
                have HDR : Hid (bk.drop (k2 + (k3 + u3)) = ((bk.drop k2).drop k3).drop u3) := by show _ = _; rw [← List.drop_drop, ← List.drop_drop]
                rw [HDR.out] at HGN
                have HON := Lib.hid (((HOK.out.drop k2).drop k3).drop u3)
                clear hw3 hwl hwz hzI hsz HT7 HQ7 HA7 HU7 HP7 HB7 HO7 HDR HUT
                go_wp2_with fail
                go_roundw
                case rel => exact ⟨k + 1, d ++ [sn], .slice (some ⟨gn, 0, none⟩) (d.length + 1) cn, ((bk.drop k2).drop k3).drop u3, p2, n3 - u3, m2, HLT.out, by go_num, by rw [HLN.out, HBS.out], HDN.out, by rw [HLE.out]; exact HO8, HT8, HQ8, HA8, HP8, HON, by rw [HMM.out]; exact HGN, HB8⟩
                case measure => have := HLT.out; simp [intOf]; omega
            · have HEE : Hid (((e0 : Int) != (u2 : Int)) = true) := by show _ = _; simp; omega
              have HSB : Hid (sbB d u2 o = false) := by
                show _ = _
                unfold sbB
                rw [HSN.out, HDE.out, HE0.out, decide_eq_false hd0, decide_eq_true hls]
                simp [he]
              clear hd0 hng hne hls he hk0 hel hes hbl
              refine wp_region_writes (base := V4.heap.size) (us := [none, none, none, none, none, none, none, none, none, none, none, none, none, none, none, none]) (ws := []) (bs := [true, true, true, true, true, true, true, true, true, true, true, true, true, true, true, true]) (fs := [Fact.is (.int .i64 (k : Int)), Fact.is (.bool true), Fact.is (.bool true), Fact.is (.string BS), Fact.is (.string BL), Fact.is (.bool false), Fact.is (.bool false), Fact.is (.bool false), Fact.is (.string BL), Fact.is (.string BS), Fact.is (.int .i64 (e0 : Int)), Fact.is (.pointer (some ⟨P, 0, none⟩)), Fact.is (.int .u64 (u2 : Int)), Fact.is (.int .i64 (u2 : Int)), Fact.is (.bool true), Fact.is (.bool true)]) 8 (by kernel_rfl) (by kernel_rfl) (by kernel_rfl) (by kernel_rfl) (Nat.le_refl _) ⟨Fact.is_stable _, Fact.is_stable _, Fact.is_stable _, Fact.is_stable _, Fact.is_stable _, Fact.is_stable _, Fact.is_stable _, Fact.is_stable _, Fact.is_stable _, Fact.is_stable _, Fact.is_stable _, Fact.is_stable _, Fact.is_stable _, Fact.is_stable _, Fact.is_stable _, Fact.is_stable _, trivial⟩ ⟨(fun _ => Fact.is_firm _ _), (fun _ => Fact.is_firm _ _), (fun _ => Fact.is_firm _ _), (fun _ => Fact.is_firm _ _), (fun _ => Fact.is_firm _ _), (fun _ => Fact.is_firm _ _), (fun _ => Fact.is_firm _ _), (fun _ => Fact.is_firm _ _), (fun _ => Fact.is_firm _ _), (fun _ => Fact.is_firm _ _), (fun _ => Fact.is_firm _ _), (fun _ => Fact.is_firm _ _), (fun _ => Fact.is_firm _ _), (fun _ => Fact.is_firm _ _), (fun _ => Fact.is_firm _ _), (fun _ => Fact.is_firm _ _), trivial⟩ ?_ ?_
              · exact ⟨by
                    intro a W hA hB hd
                    have hB := Lib.hid hB
                    have p5 : a.eval (.tmp 5) = .string BL := hA.at 5 (by kernel_rfl)
                    have p6 : a.eval (.tmp 6) = .int .i64 (k : Int) := hA.at 6 (by kernel_rfl)
                    have p7 : a.eval (.tmp 7) = .pointer (some ⟨P, 0, none⟩) := hA.at 7 (by kernel_rfl)
                    have p9 : a.eval (.tmp 9) = .string BS := hA.at 9 (by kernel_rfl)
                    exact step2_of (step_pure (wanted_none rfl) (.int .i64 (k : Int)) (by simp [execOp, go_sem, tm p6]) rfl),
                  by
                    intro a W hA hB hd
                    obtain ⟨q0, -⟩ := hd
                    have h91 : a.eval (.tmp 91) = .int .i64 (k : Int) := q0
                    have hB := Lib.hid hB
                    have p5 : a.eval (.tmp 5) = .string BL := hA.at 5 (by kernel_rfl)
                    have p6 : a.eval (.tmp 6) = .int .i64 (k : Int) := hA.at 6 (by kernel_rfl)
                    have p7 : a.eval (.tmp 7) = .pointer (some ⟨P, 0, none⟩) := hA.at 7 (by kernel_rfl)
                    have p9 : a.eval (.tmp 9) = .string BS := hA.at 9 (by kernel_rfl)
                    exact step2_of (step_pure (wanted_none rfl) (.bool true) (by simp [execOp, go_sem, tm h91, HKI.out]) rfl),
                  by
                    intro a W hA hB hd
                    obtain ⟨q0, -⟩ := hd
                    have h92 : a.eval (.tmp 92) = .bool true := q0
                    have hB := Lib.hid hB
                    have p5 : a.eval (.tmp 5) = .string BL := hA.at 5 (by kernel_rfl)
                    have p6 : a.eval (.tmp 6) = .int .i64 (k : Int) := hA.at 6 (by kernel_rfl)
                    have p7 : a.eval (.tmp 7) = .pointer (some ⟨P, 0, none⟩) := hA.at 7 (by kernel_rfl)
                    have p9 : a.eval (.tmp 9) = .string BS := hA.at 9 (by kernel_rfl)
                    exact step2_of (step_pure (wanted_none rfl) (.bool true) (by simp [execOp, go_sem, tm h92]) rfl),
                  by
                    intro a W hA hB hd
                    obtain ⟨q0, -⟩ := hd
                    have h93 : a.eval (.tmp 93) = .bool true := q0
                    have hB := Lib.hid hB
                    have p5 : a.eval (.tmp 5) = .string BL := hA.at 5 (by kernel_rfl)
                    have p6 : a.eval (.tmp 6) = .int .i64 (k : Int) := hA.at 6 (by kernel_rfl)
                    have p7 : a.eval (.tmp 7) = .pointer (some ⟨P, 0, none⟩) := hA.at 7 (by kernel_rfl)
                    have p9 : a.eval (.tmp 9) = .string BS := hA.at 9 (by kernel_rfl)
                    exact step2_of (step_pure ((wanted_guard rfl 93 rfl h93).trans rfl) (.string BS) (by simp [execOp, go_sem, tm p9]) rfl),
                  by
                    intro a W hA hB hd
                    obtain ⟨q0, -⟩ := hd
                    have h93 : a.eval (.tmp 93) = .bool true := q0
                    have hB := Lib.hid hB
                    have p5 : a.eval (.tmp 5) = .string BL := hA.at 5 (by kernel_rfl)
                    have p6 : a.eval (.tmp 6) = .int .i64 (k : Int) := hA.at 6 (by kernel_rfl)
                    have p7 : a.eval (.tmp 7) = .pointer (some ⟨P, 0, none⟩) := hA.at 7 (by kernel_rfl)
                    have p9 : a.eval (.tmp 9) = .string BS := hA.at 9 (by kernel_rfl)
                    exact step2_of (step_pure ((wanted_guard rfl 93 rfl h93).trans rfl) (.string BL) (by simp [execOp, go_sem, tm p5]) rfl),
                  by
                    intro a W hA hB hd
                    obtain ⟨q0, q1, q2, -⟩ := hd
                    have h94 : a.eval (.tmp 94) = .string BS := q0
                    have h95 : a.eval (.tmp 95) = .string BL := q1
                    have h93 : a.eval (.tmp 93) = .bool true := q2
                    have hB := Lib.hid hB
                    have p5 : a.eval (.tmp 5) = .string BL := hA.at 5 (by kernel_rfl)
                    have p6 : a.eval (.tmp 6) = .int .i64 (k : Int) := hA.at 6 (by kernel_rfl)
                    have p7 : a.eval (.tmp 7) = .pointer (some ⟨P, 0, none⟩) := hA.at 7 (by kernel_rfl)
                    have p9 : a.eval (.tmp 9) = .string BS := hA.at 9 (by kernel_rfl)
                    exact step2_of (step_pure ((wanted_guard rfl 93 rfl h93).trans rfl) (.bool false) (by simp [execOp, go_sem, tm h94, tm h95, HEL.out, HES.out]) rfl),
                  by
                    intro a W hA hB hd
                    obtain ⟨q0, q1, -⟩ := hd
                    have h93 : a.eval (.tmp 93) = .bool true := q0
                    have h96 : a.eval (.tmp 96) = .bool false := q1
                    have hB := Lib.hid hB
                    have p5 : a.eval (.tmp 5) = .string BL := hA.at 5 (by kernel_rfl)
                    have p6 : a.eval (.tmp 6) = .int .i64 (k : Int) := hA.at 6 (by kernel_rfl)
                    have p7 : a.eval (.tmp 7) = .pointer (some ⟨P, 0, none⟩) := hA.at 7 (by kernel_rfl)
                    have p9 : a.eval (.tmp 9) = .string BS := hA.at 9 (by kernel_rfl)
                    exact step2_of (step_pure (wanted_none rfl) (.bool false) (by simp [execOp, go_sem, tm h93, tm h96]) rfl),
                  by
                    intro a W hA hB hd
                    obtain ⟨q0, q1, -⟩ := hd
                    have h97 : a.eval (.tmp 97) = .bool false := q0
                    have h93 : a.eval (.tmp 93) = .bool true := q1
                    have hB := Lib.hid hB
                    have p5 : a.eval (.tmp 5) = .string BL := hA.at 5 (by kernel_rfl)
                    have p6 : a.eval (.tmp 6) = .int .i64 (k : Int) := hA.at 6 (by kernel_rfl)
                    have p7 : a.eval (.tmp 7) = .pointer (some ⟨P, 0, none⟩) := hA.at 7 (by kernel_rfl)
                    have p9 : a.eval (.tmp 9) = .string BS := hA.at 9 (by kernel_rfl)
                    exact step2_of (step_pure (wanted_none rfl) (.bool false) (by simp [execOp, go_sem, tm h97]) rfl),
                  by
                    intro a W hA hB hd
                    obtain ⟨q0, -⟩ := hd
                    have h98 : a.eval (.tmp 98) = .bool false := q0
                    have hB := Lib.hid hB
                    have p5 : a.eval (.tmp 5) = .string BL := hA.at 5 (by kernel_rfl)
                    have p6 : a.eval (.tmp 6) = .int .i64 (k : Int) := hA.at 6 (by kernel_rfl)
                    have p7 : a.eval (.tmp 7) = .pointer (some ⟨P, 0, none⟩) := hA.at 7 (by kernel_rfl)
                    have p9 : a.eval (.tmp 9) = .string BS := hA.at 9 (by kernel_rfl)
                    exact step2_of (step_pure ((wanted_guard rfl 98 rfl h98).trans rfl) (.string BL) (by simp [execOp, go_sem, tm p5]) rfl),
                  by
                    intro a W hA hB hd
                    obtain ⟨q0, -⟩ := hd
                    have h98 : a.eval (.tmp 98) = .bool false := q0
                    have hB := Lib.hid hB
                    have p5 : a.eval (.tmp 5) = .string BL := hA.at 5 (by kernel_rfl)
                    have p6 : a.eval (.tmp 6) = .int .i64 (k : Int) := hA.at 6 (by kernel_rfl)
                    have p7 : a.eval (.tmp 7) = .pointer (some ⟨P, 0, none⟩) := hA.at 7 (by kernel_rfl)
                    have p9 : a.eval (.tmp 9) = .string BS := hA.at 9 (by kernel_rfl)
                    exact step2_of (step_pure ((wanted_guard rfl 98 rfl h98).trans rfl) (.string BS) (by simp [execOp, go_sem, tm p9]) rfl),
                  by
                    intro a W hA hB hd
                    obtain ⟨q0, q1, q2, q3, -⟩ := hd
                    have h99 : a.eval (.tmp 99) = .string BL := q0
                    have h100 : a.eval (.tmp 100) = .string BS := q1
                    have h98 : a.eval (.tmp 98) = .bool false := q2
                    have hB := Lib.hid hB
                    have p5 : a.eval (.tmp 5) = .string BL := hA.at 5 (by kernel_rfl)
                    have p6 : a.eval (.tmp 6) = .int .i64 (k : Int) := hA.at 6 (by kernel_rfl)
                    have p7 : a.eval (.tmp 7) = .pointer (some ⟨P, 0, none⟩) := hA.at 7 (by kernel_rfl)
                    have p9 : a.eval (.tmp 9) = .string BS := hA.at 9 (by kernel_rfl)
                    exact step2_of (step_calls ((wanted_guard rfl 98 rfl h98).trans rfl) rfl (vals := #[.string BL, .string BS]) (by simp [h99, h100]) (enters_of Try.func46 (by kernel_rfl) rfl) ((HSH.out W).mono fun e w' ⟨he, hb⟩ => ⟨_, he, rfl, hb⟩)),
                  by
                    intro a W hA hB hd
                    obtain ⟨q0, -⟩ := hd
                    have h98 : a.eval (.tmp 98) = .bool false := q0
                    have hB := Lib.hid hB
                    have p5 : a.eval (.tmp 5) = .string BL := hA.at 5 (by kernel_rfl)
                    have p6 : a.eval (.tmp 6) = .int .i64 (k : Int) := hA.at 6 (by kernel_rfl)
                    have p7 : a.eval (.tmp 7) = .pointer (some ⟨P, 0, none⟩) := hA.at 7 (by kernel_rfl)
                    have p9 : a.eval (.tmp 9) = .string BS := hA.at 9 (by kernel_rfl)
                    exact step2_of (step_pure ((wanted_guard rfl 98 rfl h98).trans rfl) (.pointer (some ⟨P, 0, none⟩)) (by simp [execOp, go_sem, tm p7]) rfl),
                  by
                    intro a W hA hB hd
                    obtain ⟨q0, q1, -⟩ := hd
                    have h102 : a.eval (.tmp 102) = .pointer (some ⟨P, 0, none⟩) := q0
                    have h98 : a.eval (.tmp 98) = .bool false := q1
                    have hB := Lib.hid hB
                    have p5 : a.eval (.tmp 5) = .string BL := hA.at 5 (by kernel_rfl)
                    have p6 : a.eval (.tmp 6) = .int .i64 (k : Int) := hA.at 6 (by kernel_rfl)
                    have p7 : a.eval (.tmp 7) = .pointer (some ⟨P, 0, none⟩) := hA.at 7 (by kernel_rfl)
                    have p9 : a.eval (.tmp 9) = .string BS := hA.at 9 (by kernel_rfl)
                    have c0 := (HP.out.below hB.out HP.out.lt).cell.1
                    exact step2_of (step_pure ((wanted_guard rfl 98 rfl h98).trans rfl) (.int .u64 (u2 : Int)) (by simp [execOp, go_sem, tm h102, c0]) rfl),
                  by
                    intro a W hA hB hd
                    obtain ⟨q0, q1, -⟩ := hd
                    have h103 : a.eval (.tmp 103) = .int .u64 (u2 : Int) := q0
                    have h98 : a.eval (.tmp 98) = .bool false := q1
                    have hB := Lib.hid hB
                    have p5 : a.eval (.tmp 5) = .string BL := hA.at 5 (by kernel_rfl)
                    have p6 : a.eval (.tmp 6) = .int .i64 (k : Int) := hA.at 6 (by kernel_rfl)
                    have p7 : a.eval (.tmp 7) = .pointer (some ⟨P, 0, none⟩) := hA.at 7 (by kernel_rfl)
                    have p9 : a.eval (.tmp 9) = .string BS := hA.at 9 (by kernel_rfl)
                    exact step2_of (step_pure ((wanted_guard rfl 98 rfl h98).trans rfl) (.int .i64 (u2 : Int)) (by simp [execOp, go_sem, tm h103, HW2.out]) rfl),
                  by
                    intro a W hA hB hd
                    obtain ⟨q0, q1, q2, -⟩ := hd
                    have h101 : a.eval (.tmp 101) = .int .i64 (e0 : Int) := q0
                    have h104 : a.eval (.tmp 104) = .int .i64 (u2 : Int) := q1
                    have h98 : a.eval (.tmp 98) = .bool false := q2
                    have hB := Lib.hid hB
                    have p5 : a.eval (.tmp 5) = .string BL := hA.at 5 (by kernel_rfl)
                    have p6 : a.eval (.tmp 6) = .int .i64 (k : Int) := hA.at 6 (by kernel_rfl)
                    have p7 : a.eval (.tmp 7) = .pointer (some ⟨P, 0, none⟩) := hA.at 7 (by kernel_rfl)
                    have p9 : a.eval (.tmp 9) = .string BS := hA.at 9 (by kernel_rfl)
                    exact step2_of (step_pure ((wanted_guard rfl 98 rfl h98).trans rfl) (.bool true) (by simp [execOp, go_sem, tm h101, tm h104, HEE.out]) rfl),
                  by
                    intro a W hA hB hd
                    obtain ⟨q0, q1, -⟩ := hd
                    have h98 : a.eval (.tmp 98) = .bool false := q0
                    have h105 : a.eval (.tmp 105) = .bool true := q1
                    have hB := Lib.hid hB
                    have p5 : a.eval (.tmp 5) = .string BL := hA.at 5 (by kernel_rfl)
                    have p6 : a.eval (.tmp 6) = .int .i64 (k : Int) := hA.at 6 (by kernel_rfl)
                    have p7 : a.eval (.tmp 7) = .pointer (some ⟨P, 0, none⟩) := hA.at 7 (by kernel_rfl)
                    have p9 : a.eval (.tmp 9) = .string BS := hA.at 9 (by kernel_rfl)
                    exact step2_of (step_pure (wanted_none rfl) (.bool true) (by simp [execOp, go_sem, tm h98, tm h105]) rfl), trivial⟩
              · intro ax V5 hA hB5 hE
                have hev : ax.eval (.tmp 106) = .bool true := hE.2.2.2.2.2.2.2.2.2.2.2.2.2.2.2.1
                have hp := hA.puts [91, 92, 93, 94, 95, 96, 97, 98, 99, 100, 101, 102, 103, 104, 105, 106] (by kernel_rfl)
                clear hA hE
                simp only [putAll, hev] at hp
                clear hev
                generalize ax.eval = ev at hp
                subst hp
                replace HB : Hid (Below W.heap.size W V5) := HB.out.trans (hB5.mono HB.out.size)
                replace HQ := Lib.hid (HQ.out.below hB5 HQ.out.lt)
                replace HA := Lib.hid (HA.out.below hB5 HA.out.lt)
                replace HT := Lib.hid (HT.out.below hB5 HT.out.lt)
                replace HU := Lib.hid (HU.out.below hB5 HU.out.lt)
                replace HD := Lib.hid (rowS_below HD.out hB5)
                replace HP2 := Lib.hid (HP2.out.below hB5)
                clear hB5 HSH HP
                simp [Act.put]
                have HE : Hid ((unD bs).2.2 = 5) := goes_form HGM.out HRP.out HSB.out
                obtain ⟨q0, q1, q2⟩ := HQ.out.cell
                have f0 := HQ.out.f 0
                have f1 := HQ.out.f 1
                have f2 := HQ.out.f 2
                have qlt := HQ.out.lt
                go_wp2_with fail
                exact bodyPost_ret (v := .agg #[.slice none 0 0, .slice none 0 0, .int .i64 5]) (by simp [results, Try.results28, go_sem, q0, q1, q2]) rfl (UnP.bad HE.out (by decide) rfl (below_three HB.out HRE.out _ _ _))
          · have HSB : Hid (sbB d u2 o = false) := by
              show _ = _
              unfold sbB
              rw [HSN.out, HDE.out, decide_eq_false hd0, decide_eq_false hls]
              rfl
            rw [decide_eq_false hls] at hbl
            have HBL2 := Lib.hid hbl
            by_cases e : sn = dl
            · rw [decide_eq_false (fun h => slt_irrefl dl (by rw [e] at h; exact h))] at hel
              rw [decide_eq_true e] at hes
              have HEL := Lib.hid hel
              have HES := Lib.hid hes
              clear hd0 hls hk0 hel hes hbl e
              refine wp_region_writes (base := V4.heap.size) (us := [none, none, none, none, none, none, none, none, none, none, none, none, none, none, none, none]) (ws := []) (bs := [true, true, true, true, true, true, true, true, true, true, true, true, true, true, true, true]) (fs := [Fact.is (.int .i64 (k : Int)), Fact.is (.bool true), Fact.is (.bool true), Fact.is (.string BS), Fact.is (.string BL), Fact.is (.bool true), Fact.is (.bool true), Fact.is (.bool true), Fact.no, Fact.no, Fact.no, Fact.no, Fact.no, Fact.no, Fact.no, Fact.is (.bool true)]) 8 (by kernel_rfl) (by kernel_rfl) (by kernel_rfl) (by kernel_rfl) (Nat.le_refl _) ⟨Fact.is_stable _, Fact.is_stable _, Fact.is_stable _, Fact.is_stable _, Fact.is_stable _, Fact.is_stable _, Fact.is_stable _, Fact.is_stable _, Fact.no_stable, Fact.no_stable, Fact.no_stable, Fact.no_stable, Fact.no_stable, Fact.no_stable, Fact.no_stable, Fact.is_stable _, trivial⟩ ⟨(fun _ => Fact.is_firm _ _), (fun _ => Fact.is_firm _ _), (fun _ => Fact.is_firm _ _), (fun _ => Fact.is_firm _ _), (fun _ => Fact.is_firm _ _), (fun _ => Fact.is_firm _ _), (fun _ => Fact.is_firm _ _), (fun _ => Fact.is_firm _ _), (fun _ => Fact.no_firm _), (fun _ => Fact.no_firm _), (fun _ => Fact.no_firm _), (fun _ => Fact.no_firm _), (fun _ => Fact.no_firm _), (fun _ => Fact.no_firm _), (fun _ => Fact.no_firm _), (fun _ => Fact.is_firm _ _), trivial⟩ ?_ ?_
              · exact ⟨by
                    intro a W hA hB hd
                    have hB := Lib.hid hB
                    have p5 : a.eval (.tmp 5) = .string BL := hA.at 5 (by kernel_rfl)
                    have p6 : a.eval (.tmp 6) = .int .i64 (k : Int) := hA.at 6 (by kernel_rfl)
                    have p7 : a.eval (.tmp 7) = .pointer (some ⟨P, 0, none⟩) := hA.at 7 (by kernel_rfl)
                    have p9 : a.eval (.tmp 9) = .string BS := hA.at 9 (by kernel_rfl)
                    exact step2_of (step_pure (wanted_none rfl) (.int .i64 (k : Int)) (by simp [execOp, go_sem, tm p6]) rfl),
                  by
                    intro a W hA hB hd
                    obtain ⟨q0, -⟩ := hd
                    have h91 : a.eval (.tmp 91) = .int .i64 (k : Int) := q0
                    have hB := Lib.hid hB
                    have p5 : a.eval (.tmp 5) = .string BL := hA.at 5 (by kernel_rfl)
                    have p6 : a.eval (.tmp 6) = .int .i64 (k : Int) := hA.at 6 (by kernel_rfl)
                    have p7 : a.eval (.tmp 7) = .pointer (some ⟨P, 0, none⟩) := hA.at 7 (by kernel_rfl)
                    have p9 : a.eval (.tmp 9) = .string BS := hA.at 9 (by kernel_rfl)
                    exact step2_of (step_pure (wanted_none rfl) (.bool true) (by simp [execOp, go_sem, tm h91, HKI.out]) rfl),
                  by
                    intro a W hA hB hd
                    obtain ⟨q0, -⟩ := hd
                    have h92 : a.eval (.tmp 92) = .bool true := q0
                    have hB := Lib.hid hB
                    have p5 : a.eval (.tmp 5) = .string BL := hA.at 5 (by kernel_rfl)
                    have p6 : a.eval (.tmp 6) = .int .i64 (k : Int) := hA.at 6 (by kernel_rfl)
                    have p7 : a.eval (.tmp 7) = .pointer (some ⟨P, 0, none⟩) := hA.at 7 (by kernel_rfl)
                    have p9 : a.eval (.tmp 9) = .string BS := hA.at 9 (by kernel_rfl)
                    exact step2_of (step_pure (wanted_none rfl) (.bool true) (by simp [execOp, go_sem, tm h92]) rfl),
                  by
                    intro a W hA hB hd
                    obtain ⟨q0, -⟩ := hd
                    have h93 : a.eval (.tmp 93) = .bool true := q0
                    have hB := Lib.hid hB
                    have p5 : a.eval (.tmp 5) = .string BL := hA.at 5 (by kernel_rfl)
                    have p6 : a.eval (.tmp 6) = .int .i64 (k : Int) := hA.at 6 (by kernel_rfl)
                    have p7 : a.eval (.tmp 7) = .pointer (some ⟨P, 0, none⟩) := hA.at 7 (by kernel_rfl)
                    have p9 : a.eval (.tmp 9) = .string BS := hA.at 9 (by kernel_rfl)
                    exact step2_of (step_pure ((wanted_guard rfl 93 rfl h93).trans rfl) (.string BS) (by simp [execOp, go_sem, tm p9]) rfl),
                  by
                    intro a W hA hB hd
                    obtain ⟨q0, -⟩ := hd
                    have h93 : a.eval (.tmp 93) = .bool true := q0
                    have hB := Lib.hid hB
                    have p5 : a.eval (.tmp 5) = .string BL := hA.at 5 (by kernel_rfl)
                    have p6 : a.eval (.tmp 6) = .int .i64 (k : Int) := hA.at 6 (by kernel_rfl)
                    have p7 : a.eval (.tmp 7) = .pointer (some ⟨P, 0, none⟩) := hA.at 7 (by kernel_rfl)
                    have p9 : a.eval (.tmp 9) = .string BS := hA.at 9 (by kernel_rfl)
                    exact step2_of (step_pure ((wanted_guard rfl 93 rfl h93).trans rfl) (.string BL) (by simp [execOp, go_sem, tm p5]) rfl),
                  by
                    intro a W hA hB hd
                    obtain ⟨q0, q1, q2, -⟩ := hd
                    have h94 : a.eval (.tmp 94) = .string BS := q0
                    have h95 : a.eval (.tmp 95) = .string BL := q1
                    have h93 : a.eval (.tmp 93) = .bool true := q2
                    have hB := Lib.hid hB
                    have p5 : a.eval (.tmp 5) = .string BL := hA.at 5 (by kernel_rfl)
                    have p6 : a.eval (.tmp 6) = .int .i64 (k : Int) := hA.at 6 (by kernel_rfl)
                    have p7 : a.eval (.tmp 7) = .pointer (some ⟨P, 0, none⟩) := hA.at 7 (by kernel_rfl)
                    have p9 : a.eval (.tmp 9) = .string BS := hA.at 9 (by kernel_rfl)
                    exact step2_of (step_pure ((wanted_guard rfl 93 rfl h93).trans rfl) (.bool true) (by simp [execOp, go_sem, tm h94, tm h95, HEL.out, HES.out]) rfl),
                  by
                    intro a W hA hB hd
                    obtain ⟨q0, q1, -⟩ := hd
                    have h93 : a.eval (.tmp 93) = .bool true := q0
                    have h96 : a.eval (.tmp 96) = .bool true := q1
                    have hB := Lib.hid hB
                    have p5 : a.eval (.tmp 5) = .string BL := hA.at 5 (by kernel_rfl)
                    have p6 : a.eval (.tmp 6) = .int .i64 (k : Int) := hA.at 6 (by kernel_rfl)
                    have p7 : a.eval (.tmp 7) = .pointer (some ⟨P, 0, none⟩) := hA.at 7 (by kernel_rfl)
                    have p9 : a.eval (.tmp 9) = .string BS := hA.at 9 (by kernel_rfl)
                    exact step2_of (step_pure (wanted_none rfl) (.bool true) (by simp [execOp, go_sem, tm h93, tm h96]) rfl),
                  by
                    intro a W hA hB hd
                    obtain ⟨q0, q1, -⟩ := hd
                    have h97 : a.eval (.tmp 97) = .bool true := q0
                    have h93 : a.eval (.tmp 93) = .bool true := q1
                    have hB := Lib.hid hB
                    have p5 : a.eval (.tmp 5) = .string BL := hA.at 5 (by kernel_rfl)
                    have p6 : a.eval (.tmp 6) = .int .i64 (k : Int) := hA.at 6 (by kernel_rfl)
                    have p7 : a.eval (.tmp 7) = .pointer (some ⟨P, 0, none⟩) := hA.at 7 (by kernel_rfl)
                    have p9 : a.eval (.tmp 9) = .string BS := hA.at 9 (by kernel_rfl)
                    exact step2_of (step_pure (wanted_none rfl) (.bool true) (by simp [execOp, go_sem, tm h97]) rfl),
                  by
                    intro a W hA hB hd
                    obtain ⟨q0, -⟩ := hd
                    have h98 : a.eval (.tmp 98) = .bool true := q0
                    have hB := Lib.hid hB
                    have p5 : a.eval (.tmp 5) = .string BL := hA.at 5 (by kernel_rfl)
                    have p6 : a.eval (.tmp 6) = .int .i64 (k : Int) := hA.at 6 (by kernel_rfl)
                    have p7 : a.eval (.tmp 7) = .pointer (some ⟨P, 0, none⟩) := hA.at 7 (by kernel_rfl)
                    have p9 : a.eval (.tmp 9) = .string BS := hA.at 9 (by kernel_rfl)
                    exact step2_of (step_not ((wanted_guard rfl 98 rfl h98).trans rfl) trivial),
                  by
                    intro a W hA hB hd
                    obtain ⟨q0, -⟩ := hd
                    have h98 : a.eval (.tmp 98) = .bool true := q0
                    have hB := Lib.hid hB
                    have p5 : a.eval (.tmp 5) = .string BL := hA.at 5 (by kernel_rfl)
                    have p6 : a.eval (.tmp 6) = .int .i64 (k : Int) := hA.at 6 (by kernel_rfl)
                    have p7 : a.eval (.tmp 7) = .pointer (some ⟨P, 0, none⟩) := hA.at 7 (by kernel_rfl)
                    have p9 : a.eval (.tmp 9) = .string BS := hA.at 9 (by kernel_rfl)
                    exact step2_of (step_not ((wanted_guard rfl 98 rfl h98).trans rfl) trivial),
                  by
                    intro a W hA hB hd
                    obtain ⟨q0, q1, q2, q3, -⟩ := hd
                    have h98 : a.eval (.tmp 98) = .bool true := q2
                    have hB := Lib.hid hB
                    have p5 : a.eval (.tmp 5) = .string BL := hA.at 5 (by kernel_rfl)
                    have p6 : a.eval (.tmp 6) = .int .i64 (k : Int) := hA.at 6 (by kernel_rfl)
                    have p7 : a.eval (.tmp 7) = .pointer (some ⟨P, 0, none⟩) := hA.at 7 (by kernel_rfl)
                    have p9 : a.eval (.tmp 9) = .string BS := hA.at 9 (by kernel_rfl)
                    exact step2_of (step_not ((wanted_guard rfl 98 rfl h98).trans rfl) trivial),
                  by
                    intro a W hA hB hd
                    obtain ⟨q0, -⟩ := hd
                    have h98 : a.eval (.tmp 98) = .bool true := q0
                    have hB := Lib.hid hB
                    have p5 : a.eval (.tmp 5) = .string BL := hA.at 5 (by kernel_rfl)
                    have p6 : a.eval (.tmp 6) = .int .i64 (k : Int) := hA.at 6 (by kernel_rfl)
                    have p7 : a.eval (.tmp 7) = .pointer (some ⟨P, 0, none⟩) := hA.at 7 (by kernel_rfl)
                    have p9 : a.eval (.tmp 9) = .string BS := hA.at 9 (by kernel_rfl)
                    exact step2_of (step_not ((wanted_guard rfl 98 rfl h98).trans rfl) trivial),
                  by
                    intro a W hA hB hd
                    obtain ⟨q0, q1, -⟩ := hd
                    have h98 : a.eval (.tmp 98) = .bool true := q1
                    have hB := Lib.hid hB
                    have p5 : a.eval (.tmp 5) = .string BL := hA.at 5 (by kernel_rfl)
                    have p6 : a.eval (.tmp 6) = .int .i64 (k : Int) := hA.at 6 (by kernel_rfl)
                    have p7 : a.eval (.tmp 7) = .pointer (some ⟨P, 0, none⟩) := hA.at 7 (by kernel_rfl)
                    have p9 : a.eval (.tmp 9) = .string BS := hA.at 9 (by kernel_rfl)
                    exact step2_of (step_not ((wanted_guard rfl 98 rfl h98).trans rfl) trivial),
                  by
                    intro a W hA hB hd
                    obtain ⟨q0, q1, -⟩ := hd
                    have h98 : a.eval (.tmp 98) = .bool true := q1
                    have hB := Lib.hid hB
                    have p5 : a.eval (.tmp 5) = .string BL := hA.at 5 (by kernel_rfl)
                    have p6 : a.eval (.tmp 6) = .int .i64 (k : Int) := hA.at 6 (by kernel_rfl)
                    have p7 : a.eval (.tmp 7) = .pointer (some ⟨P, 0, none⟩) := hA.at 7 (by kernel_rfl)
                    have p9 : a.eval (.tmp 9) = .string BS := hA.at 9 (by kernel_rfl)
                    exact step2_of (step_not ((wanted_guard rfl 98 rfl h98).trans rfl) trivial),
                  by
                    intro a W hA hB hd
                    obtain ⟨q0, q1, q2, -⟩ := hd
                    have h98 : a.eval (.tmp 98) = .bool true := q2
                    have hB := Lib.hid hB
                    have p5 : a.eval (.tmp 5) = .string BL := hA.at 5 (by kernel_rfl)
                    have p6 : a.eval (.tmp 6) = .int .i64 (k : Int) := hA.at 6 (by kernel_rfl)
                    have p7 : a.eval (.tmp 7) = .pointer (some ⟨P, 0, none⟩) := hA.at 7 (by kernel_rfl)
                    have p9 : a.eval (.tmp 9) = .string BS := hA.at 9 (by kernel_rfl)
                    exact step2_of (step_not ((wanted_guard rfl 98 rfl h98).trans rfl) trivial),
                  by
                    intro a W hA hB hd
                    obtain ⟨q0, q1, -⟩ := hd
                    have h98 : a.eval (.tmp 98) = .bool true := q0
                    have hB := Lib.hid hB
                    have p5 : a.eval (.tmp 5) = .string BL := hA.at 5 (by kernel_rfl)
                    have p6 : a.eval (.tmp 6) = .int .i64 (k : Int) := hA.at 6 (by kernel_rfl)
                    have p7 : a.eval (.tmp 7) = .pointer (some ⟨P, 0, none⟩) := hA.at 7 (by kernel_rfl)
                    have p9 : a.eval (.tmp 9) = .string BS := hA.at 9 (by kernel_rfl)
                    exact step2_of (step_pure (wanted_none rfl) (.bool true) (by simp [execOp, go_sem, tm h98]) rfl), trivial⟩
              · intro ax V5 hA hB5 hE
                have hev : ax.eval (.tmp 106) = .bool true := hE.2.2.2.2.2.2.2.2.2.2.2.2.2.2.2.1
                have hp := hA.puts [91, 92, 93, 94, 95, 96, 97, 98, 99, 100, 101, 102, 103, 104, 105, 106] (by kernel_rfl)
                clear hA hE
                simp only [putAll, hev] at hp
                clear hev
                generalize ax.eval = ev at hp
                subst hp
                replace HB : Hid (Below W.heap.size W V5) := HB.out.trans (hB5.mono HB.out.size)
                replace HQ := Lib.hid (HQ.out.below hB5 HQ.out.lt)
                replace HA := Lib.hid (HA.out.below hB5 HA.out.lt)
                replace HT := Lib.hid (HT.out.below hB5 HT.out.lt)
                replace HU := Lib.hid (HU.out.below hB5 HU.out.lt)
                replace HD := Lib.hid (rowS_below HD.out hB5)
                replace HP2 := Lib.hid (HP2.out.below hB5)
                clear hB5 HSH HP
                simp [Act.put]
                have HE : Hid ((unD bs).2.2 = 5) := goes_form HGM.out HRP.out HSB.out
                obtain ⟨q0, q1, q2⟩ := HQ.out.cell
                have f0 := HQ.out.f 0
                have f1 := HQ.out.f 1
                have f2 := HQ.out.f 2
                have qlt := HQ.out.lt
                go_wp2_with fail
                exact bodyPost_ret (v := .agg #[.slice none 0 0, .slice none 0 0, .int .i64 5]) (by simp [results, Try.results28, go_sem, q0, q1, q2]) rfl (UnP.bad HE.out (by decide) rfl (below_three HB.out HRE.out _ _ _))
            · rw [decide_eq_true (slt_of_le (List.not_lt.1 hls) e)] at hel
              rw [decide_eq_false e] at hes
              have HEL := Lib.hid hel
              have HES := Lib.hid hes
              clear hd0 hls hk0 hel hes hbl e
              refine wp_region_writes (base := V4.heap.size) (us := [none, none, none, none, none, none, none, none, none, none, none, none, none, none, none, none]) (ws := []) (bs := [true, true, true, true, true, true, true, true, true, true, true, true, true, true, true, true]) (fs := [Fact.is (.int .i64 (k : Int)), Fact.is (.bool true), Fact.is (.bool true), Fact.is (.string BS), Fact.is (.string BL), Fact.is (.bool true), Fact.is (.bool true), Fact.is (.bool true), Fact.no, Fact.no, Fact.no, Fact.no, Fact.no, Fact.no, Fact.no, Fact.is (.bool true)]) 8 (by kernel_rfl) (by kernel_rfl) (by kernel_rfl) (by kernel_rfl) (Nat.le_refl _) ⟨Fact.is_stable _, Fact.is_stable _, Fact.is_stable _, Fact.is_stable _, Fact.is_stable _, Fact.is_stable _, Fact.is_stable _, Fact.is_stable _, Fact.no_stable, Fact.no_stable, Fact.no_stable, Fact.no_stable, Fact.no_stable, Fact.no_stable, Fact.no_stable, Fact.is_stable _, trivial⟩ ⟨(fun _ => Fact.is_firm _ _), (fun _ => Fact.is_firm _ _), (fun _ => Fact.is_firm _ _), (fun _ => Fact.is_firm _ _), (fun _ => Fact.is_firm _ _), (fun _ => Fact.is_firm _ _), (fun _ => Fact.is_firm _ _), (fun _ => Fact.is_firm _ _), (fun _ => Fact.no_firm _), (fun _ => Fact.no_firm _), (fun _ => Fact.no_firm _), (fun _ => Fact.no_firm _), (fun _ => Fact.no_firm _), (fun _ => Fact.no_firm _), (fun _ => Fact.no_firm _), (fun _ => Fact.is_firm _ _), trivial⟩ ?_ ?_
              · exact ⟨by
                    intro a W hA hB hd
                    have hB := Lib.hid hB
                    have p5 : a.eval (.tmp 5) = .string BL := hA.at 5 (by kernel_rfl)
                    have p6 : a.eval (.tmp 6) = .int .i64 (k : Int) := hA.at 6 (by kernel_rfl)
                    have p7 : a.eval (.tmp 7) = .pointer (some ⟨P, 0, none⟩) := hA.at 7 (by kernel_rfl)
                    have p9 : a.eval (.tmp 9) = .string BS := hA.at 9 (by kernel_rfl)
                    exact step2_of (step_pure (wanted_none rfl) (.int .i64 (k : Int)) (by simp [execOp, go_sem, tm p6]) rfl),
                  by
                    intro a W hA hB hd
                    obtain ⟨q0, -⟩ := hd
                    have h91 : a.eval (.tmp 91) = .int .i64 (k : Int) := q0
                    have hB := Lib.hid hB
                    have p5 : a.eval (.tmp 5) = .string BL := hA.at 5 (by kernel_rfl)
                    have p6 : a.eval (.tmp 6) = .int .i64 (k : Int) := hA.at 6 (by kernel_rfl)
                    have p7 : a.eval (.tmp 7) = .pointer (some ⟨P, 0, none⟩) := hA.at 7 (by kernel_rfl)
                    have p9 : a.eval (.tmp 9) = .string BS := hA.at 9 (by kernel_rfl)
                    exact step2_of (step_pure (wanted_none rfl) (.bool true) (by simp [execOp, go_sem, tm h91, HKI.out]) rfl),
                  by
                    intro a W hA hB hd
                    obtain ⟨q0, -⟩ := hd
                    have h92 : a.eval (.tmp 92) = .bool true := q0
                    have hB := Lib.hid hB
                    have p5 : a.eval (.tmp 5) = .string BL := hA.at 5 (by kernel_rfl)
                    have p6 : a.eval (.tmp 6) = .int .i64 (k : Int) := hA.at 6 (by kernel_rfl)
                    have p7 : a.eval (.tmp 7) = .pointer (some ⟨P, 0, none⟩) := hA.at 7 (by kernel_rfl)
                    have p9 : a.eval (.tmp 9) = .string BS := hA.at 9 (by kernel_rfl)
                    exact step2_of (step_pure (wanted_none rfl) (.bool true) (by simp [execOp, go_sem, tm h92]) rfl),
                  by
                    intro a W hA hB hd
                    obtain ⟨q0, -⟩ := hd
                    have h93 : a.eval (.tmp 93) = .bool true := q0
                    have hB := Lib.hid hB
                    have p5 : a.eval (.tmp 5) = .string BL := hA.at 5 (by kernel_rfl)
                    have p6 : a.eval (.tmp 6) = .int .i64 (k : Int) := hA.at 6 (by kernel_rfl)
                    have p7 : a.eval (.tmp 7) = .pointer (some ⟨P, 0, none⟩) := hA.at 7 (by kernel_rfl)
                    have p9 : a.eval (.tmp 9) = .string BS := hA.at 9 (by kernel_rfl)
                    exact step2_of (step_pure ((wanted_guard rfl 93 rfl h93).trans rfl) (.string BS) (by simp [execOp, go_sem, tm p9]) rfl),
                  by
                    intro a W hA hB hd
                    obtain ⟨q0, -⟩ := hd
                    have h93 : a.eval (.tmp 93) = .bool true := q0
                    have hB := Lib.hid hB
                    have p5 : a.eval (.tmp 5) = .string BL := hA.at 5 (by kernel_rfl)
                    have p6 : a.eval (.tmp 6) = .int .i64 (k : Int) := hA.at 6 (by kernel_rfl)
                    have p7 : a.eval (.tmp 7) = .pointer (some ⟨P, 0, none⟩) := hA.at 7 (by kernel_rfl)
                    have p9 : a.eval (.tmp 9) = .string BS := hA.at 9 (by kernel_rfl)
                    exact step2_of (step_pure ((wanted_guard rfl 93 rfl h93).trans rfl) (.string BL) (by simp [execOp, go_sem, tm p5]) rfl),
                  by
                    intro a W hA hB hd
                    obtain ⟨q0, q1, q2, -⟩ := hd
                    have h94 : a.eval (.tmp 94) = .string BS := q0
                    have h95 : a.eval (.tmp 95) = .string BL := q1
                    have h93 : a.eval (.tmp 93) = .bool true := q2
                    have hB := Lib.hid hB
                    have p5 : a.eval (.tmp 5) = .string BL := hA.at 5 (by kernel_rfl)
                    have p6 : a.eval (.tmp 6) = .int .i64 (k : Int) := hA.at 6 (by kernel_rfl)
                    have p7 : a.eval (.tmp 7) = .pointer (some ⟨P, 0, none⟩) := hA.at 7 (by kernel_rfl)
                    have p9 : a.eval (.tmp 9) = .string BS := hA.at 9 (by kernel_rfl)
                    exact step2_of (step_pure ((wanted_guard rfl 93 rfl h93).trans rfl) (.bool true) (by simp [execOp, go_sem, tm h94, tm h95, HEL.out, HES.out]) rfl),
                  by
                    intro a W hA hB hd
                    obtain ⟨q0, q1, -⟩ := hd
                    have h93 : a.eval (.tmp 93) = .bool true := q0
                    have h96 : a.eval (.tmp 96) = .bool true := q1
                    have hB := Lib.hid hB
                    have p5 : a.eval (.tmp 5) = .string BL := hA.at 5 (by kernel_rfl)
                    have p6 : a.eval (.tmp 6) = .int .i64 (k : Int) := hA.at 6 (by kernel_rfl)
                    have p7 : a.eval (.tmp 7) = .pointer (some ⟨P, 0, none⟩) := hA.at 7 (by kernel_rfl)
                    have p9 : a.eval (.tmp 9) = .string BS := hA.at 9 (by kernel_rfl)
                    exact step2_of (step_pure (wanted_none rfl) (.bool true) (by simp [execOp, go_sem, tm h93, tm h96]) rfl),
                  by
                    intro a W hA hB hd
                    obtain ⟨q0, q1, -⟩ := hd
                    have h97 : a.eval (.tmp 97) = .bool true := q0
                    have h93 : a.eval (.tmp 93) = .bool true := q1
                    have hB := Lib.hid hB
                    have p5 : a.eval (.tmp 5) = .string BL := hA.at 5 (by kernel_rfl)
                    have p6 : a.eval (.tmp 6) = .int .i64 (k : Int) := hA.at 6 (by kernel_rfl)
                    have p7 : a.eval (.tmp 7) = .pointer (some ⟨P, 0, none⟩) := hA.at 7 (by kernel_rfl)
                    have p9 : a.eval (.tmp 9) = .string BS := hA.at 9 (by kernel_rfl)
                    exact step2_of (step_pure (wanted_none rfl) (.bool true) (by simp [execOp, go_sem, tm h97]) rfl),
                  by
                    intro a W hA hB hd
                    obtain ⟨q0, -⟩ := hd
                    have h98 : a.eval (.tmp 98) = .bool true := q0
                    have hB := Lib.hid hB
                    have p5 : a.eval (.tmp 5) = .string BL := hA.at 5 (by kernel_rfl)
                    have p6 : a.eval (.tmp 6) = .int .i64 (k : Int) := hA.at 6 (by kernel_rfl)
                    have p7 : a.eval (.tmp 7) = .pointer (some ⟨P, 0, none⟩) := hA.at 7 (by kernel_rfl)
                    have p9 : a.eval (.tmp 9) = .string BS := hA.at 9 (by kernel_rfl)
                    exact step2_of (step_not ((wanted_guard rfl 98 rfl h98).trans rfl) trivial),
                  by
                    intro a W hA hB hd
                    obtain ⟨q0, -⟩ := hd
                    have h98 : a.eval (.tmp 98) = .bool true := q0
                    have hB := Lib.hid hB
                    have p5 : a.eval (.tmp 5) = .string BL := hA.at 5 (by kernel_rfl)
                    have p6 : a.eval (.tmp 6) = .int .i64 (k : Int) := hA.at 6 (by kernel_rfl)
                    have p7 : a.eval (.tmp 7) = .pointer (some ⟨P, 0, none⟩) := hA.at 7 (by kernel_rfl)
                    have p9 : a.eval (.tmp 9) = .string BS := hA.at 9 (by kernel_rfl)
                    exact step2_of (step_not ((wanted_guard rfl 98 rfl h98).trans rfl) trivial),
                  by
                    intro a W hA hB hd
                    obtain ⟨q0, q1, q2, q3, -⟩ := hd
                    have h98 : a.eval (.tmp 98) = .bool true := q2
                    have hB := Lib.hid hB
                    have p5 : a.eval (.tmp 5) = .string BL := hA.at 5 (by kernel_rfl)
                    have p6 : a.eval (.tmp 6) = .int .i64 (k : Int) := hA.at 6 (by kernel_rfl)
                    have p7 : a.eval (.tmp 7) = .pointer (some ⟨P, 0, none⟩) := hA.at 7 (by kernel_rfl)
                    have p9 : a.eval (.tmp 9) = .string BS := hA.at 9 (by kernel_rfl)
                    exact step2_of (step_not ((wanted_guard rfl 98 rfl h98).trans rfl) trivial),
                  by
                    intro a W hA hB hd
                    obtain ⟨q0, -⟩ := hd
                    have h98 : a.eval (.tmp 98) = .bool true := q0
                    have hB := Lib.hid hB
                    have p5 : a.eval (.tmp 5) = .string BL := hA.at 5 (by kernel_rfl)
                    have p6 : a.eval (.tmp 6) = .int .i64 (k : Int) := hA.at 6 (by kernel_rfl)
                    have p7 : a.eval (.tmp 7) = .pointer (some ⟨P, 0, none⟩) := hA.at 7 (by kernel_rfl)
                    have p9 : a.eval (.tmp 9) = .string BS := hA.at 9 (by kernel_rfl)
                    exact step2_of (step_not ((wanted_guard rfl 98 rfl h98).trans rfl) trivial),
                  by
                    intro a W hA hB hd
                    obtain ⟨q0, q1, -⟩ := hd
                    have h98 : a.eval (.tmp 98) = .bool true := q1
                    have hB := Lib.hid hB
                    have p5 : a.eval (.tmp 5) = .string BL := hA.at 5 (by kernel_rfl)
                    have p6 : a.eval (.tmp 6) = .int .i64 (k : Int) := hA.at 6 (by kernel_rfl)
                    have p7 : a.eval (.tmp 7) = .pointer (some ⟨P, 0, none⟩) := hA.at 7 (by kernel_rfl)
                    have p9 : a.eval (.tmp 9) = .string BS := hA.at 9 (by kernel_rfl)
                    exact step2_of (step_not ((wanted_guard rfl 98 rfl h98).trans rfl) trivial),
                  by
                    intro a W hA hB hd
                    obtain ⟨q0, q1, -⟩ := hd
                    have h98 : a.eval (.tmp 98) = .bool true := q1
                    have hB := Lib.hid hB
                    have p5 : a.eval (.tmp 5) = .string BL := hA.at 5 (by kernel_rfl)
                    have p6 : a.eval (.tmp 6) = .int .i64 (k : Int) := hA.at 6 (by kernel_rfl)
                    have p7 : a.eval (.tmp 7) = .pointer (some ⟨P, 0, none⟩) := hA.at 7 (by kernel_rfl)
                    have p9 : a.eval (.tmp 9) = .string BS := hA.at 9 (by kernel_rfl)
                    exact step2_of (step_not ((wanted_guard rfl 98 rfl h98).trans rfl) trivial),
                  by
                    intro a W hA hB hd
                    obtain ⟨q0, q1, q2, -⟩ := hd
                    have h98 : a.eval (.tmp 98) = .bool true := q2
                    have hB := Lib.hid hB
                    have p5 : a.eval (.tmp 5) = .string BL := hA.at 5 (by kernel_rfl)
                    have p6 : a.eval (.tmp 6) = .int .i64 (k : Int) := hA.at 6 (by kernel_rfl)
                    have p7 : a.eval (.tmp 7) = .pointer (some ⟨P, 0, none⟩) := hA.at 7 (by kernel_rfl)
                    have p9 : a.eval (.tmp 9) = .string BS := hA.at 9 (by kernel_rfl)
                    exact step2_of (step_not ((wanted_guard rfl 98 rfl h98).trans rfl) trivial),
                  by
                    intro a W hA hB hd
                    obtain ⟨q0, q1, -⟩ := hd
                    have h98 : a.eval (.tmp 98) = .bool true := q0
                    have hB := Lib.hid hB
                    have p5 : a.eval (.tmp 5) = .string BL := hA.at 5 (by kernel_rfl)
                    have p6 : a.eval (.tmp 6) = .int .i64 (k : Int) := hA.at 6 (by kernel_rfl)
                    have p7 : a.eval (.tmp 7) = .pointer (some ⟨P, 0, none⟩) := hA.at 7 (by kernel_rfl)
                    have p9 : a.eval (.tmp 9) = .string BS := hA.at 9 (by kernel_rfl)
                    exact step2_of (step_pure (wanted_none rfl) (.bool true) (by simp [execOp, go_sem, tm h98]) rfl), trivial⟩
              · intro ax V5 hA hB5 hE
                have hev : ax.eval (.tmp 106) = .bool true := hE.2.2.2.2.2.2.2.2.2.2.2.2.2.2.2.1
                have hp := hA.puts [91, 92, 93, 94, 95, 96, 97, 98, 99, 100, 101, 102, 103, 104, 105, 106] (by kernel_rfl)
                clear hA hE
                simp only [putAll, hev] at hp
                clear hev
                generalize ax.eval = ev at hp
                subst hp
                replace HB : Hid (Below W.heap.size W V5) := HB.out.trans (hB5.mono HB.out.size)
                replace HQ := Lib.hid (HQ.out.below hB5 HQ.out.lt)
                replace HA := Lib.hid (HA.out.below hB5 HA.out.lt)
                replace HT := Lib.hid (HT.out.below hB5 HT.out.lt)
                replace HU := Lib.hid (HU.out.below hB5 HU.out.lt)
                replace HD := Lib.hid (rowS_below HD.out hB5)
                replace HP2 := Lib.hid (HP2.out.below hB5)
                clear hB5 HSH HP
                simp [Act.put]
                have HE : Hid ((unD bs).2.2 = 5) := goes_form HGM.out HRP.out HSB.out
                obtain ⟨q0, q1, q2⟩ := HQ.out.cell
                have f0 := HQ.out.f 0
                have f1 := HQ.out.f 1
                have f2 := HQ.out.f 2
                have qlt := HQ.out.lt
                go_wp2_with fail
                exact bodyPost_ret (v := .agg #[.slice none 0 0, .slice none 0 0, .int .i64 5]) (by simp [results, Try.results28, go_sem, q0, q1, q2]) rfl (UnP.bad HE.out (by decide) rfl (below_three HB.out HRE.out _ _ _))
    · obtain rfl : k = u1 := by omega
      rw [Nat.sub_self] at HGK
      obtain ⟨z1, z2, z3⟩ := goes_end HGK.out
      have HZ1 := Lib.hid z1
      have HZ2 := Lib.hid z2
      have HZ3 := Lib.hid z3
      clear z1 z2 z3 hlt
      have hltI : ¬ (k : Int) < (k : Int) := Int.lt_irrefl _
      have HVV : Hid (∃ av nv cv, v = .slice av nv cv ∧ RdS (fun b => T + 1 ≤ b) wr av nv cv d) := by
        show ∃ _, _
        rcases HD.out.2 with ⟨rfl, h0⟩ | ⟨gg, cc, cur, rfl, _⟩
        · obtain rfl : d = [] := List.eq_nil_of_length_eq_zero h0
          exact ⟨none, 0, 0, rfl, RdS.empty⟩
        · exact ⟨_, _, _, rfl, RdS.of_row rfl (by rw [HDL.out.1]; omega) (fun s hs => Nat.le_trans (HDL.out.2 s hs) (by unfold maxLen; omega)) HD.out⟩
      obtain ⟨av, nv, cv, rfl, hrv⟩ := HVV.out
      have HRV2 := Lib.hid hrv
      clear hrv HVV
      obtain ⟨t0, t1, t2⟩ := HT.out.cell
      obtain ⟨q0, q1, q2⟩ := HQ.out.cell
      have f0 := HQ.out.f 0
      have f1 := HQ.out.f 1
      have f2 := HQ.out.f 2
      have qlt := HQ.out.lt
      go_wp2_with fail
      refine bodyPost_ret (v := .agg #[.slice av nv cv, .slice a0 n0 c0, .int .i64 0]) (by simp [results, Try.results28, go_sem, q0, q1, q2]) rfl ⟨av, nv, cv, a0, n0, c0, by unfold unE; rw [HZ1.out], ?_, ?_, below_three HB.out HRE.out _ _ _⟩
      · unfold unL; rw [if_pos HZ1.out, HZ2.out]
        exact (((HRV2.out.set5 ⟨R, 0, none⟩ _ (fun h => by have h : T + 1 ≤ R := h; have := HRT.out; omega)).set5 ⟨R, 1, none⟩ _ (fun h => by have h : T + 1 ≤ R := h; have := HRT.out; omega)).set5 ⟨R, 2, none⟩ _ (fun h => by have h : T + 1 ≤ R := h; have := HRT.out; omega)).mono fun _ _ _ => trivial
      · unfold unR; rw [if_pos HZ1.out, HZ3.out]
        exact (((HRK.out.set5 ⟨R, 0, none⟩ _ (fun h => by have h : R < W.heap.size := h; have := HRE.out; omega)).set5 ⟨R, 1, none⟩ _ (fun h => by have h : R < W.heap.size := h; have := HRE.out; omega)).set5 ⟨R, 2, none⟩ _ (fun h => by have h : R < W.heap.size := h; have := HRE.out; omega)).mono fun _ _ _ => trivial

end Go.Proofs.Ytdcapmbgnoahpaa
