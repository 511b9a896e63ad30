/-
  The packed form.
-/
import Derived.Test.YtkfmgiacdlkmiaaPkBegin
namespace Go.Proofs.Ytkfmgiacdlkmiaa
open Go.RowKit Go.Shelf Go.ChangeShapes Go.WideShapes Go.ChangeAt

def bitsS (zs : List Int) : List Int := allBits (wideS zs) (diffs (baseS zs) zs)
def packS (zs : List Int) : List Int := headS zs ++ gatherS (bitsS zs) (spaceS zs)

theorem bitsS_bin (zs : List Int) : Bin (bitsS zs) := by
  intro x hx
  unfold bitsS allBits at hx
  obtain ⟨d, _, hx⟩ := List.mem_flatMap.1 hx
  unfold bitsN at hx
  obtain ⟨p, _, rfl⟩ := List.mem_map.1 hx
  generalize d / 2 ^ p = y
  omega
theorem bitsS_length (zs : List Int) : (bitsS zs).length = zs.length * wideS zs := by
  unfold bitsS; rw [allBits_length, diffs, List.length_map]

theorem head_pos (zs : List Int) : 1 ≤ (headS zs).length := by
  unfold headS; split
  · exact var_pos _
  · rw [List.length_append, List.length_singleton]; omega

/-- The bits of a list's differences, gathered. -/
theorem gather_bits {K : Nat → Prop} {a : Option Addr} {len cap : Nat} {zs : List Int} (hl40 : len ≤ 1099511627776) {w : World} (hR : Rd K w .i64 a len cap zs) (S p : Nat) (hp : len * wideS zs = p)
    (hP : Pair w S 72 (.int .i64 (baseS zs)) (.int .i64 (wideS zs))) (hB : Boxed w (S + 1) 22 (.slice a len cap)) :
    Calls Try.prog 42 #[.func (.func 59) #[] #[.pointer (some ⟨S + 1, 0, none⟩), .pointer (some ⟨S, 0, none⟩)], .int .i64 ((p + 7) / 8 : Nat)] w fun e W' =>
      e = .returned (.slice (some ⟨w.heap.size, 0, none⟩) ((p + 7) / 8) ((p + 7) / 8)) ∧
        (W'.ownsRow w.heap.size 5 1 (.slice (some ⟨w.heap.size, 0, none⟩) ((p + 7) / 8) ((p + 7) / 8)) ((p + 7) / 8) ((gatherS (bitsS zs) (spaceS zs)).map (Value.int .u8)) ∧ Below w.heap.size w W') := by
  have hw64 := wide_le zs
  have hpw : p ≤ 1099511627776 * 64 := by rw [← hp]; exact Nat.mul_le_mul hl40 hw64
  have hsp : spaceS zs = (p + 7) / 8 := by unfold spaceS; rw [← hR.hl, hp]
  have hbl : (bitsS zs).length = p := by rw [bitsS_length, ← hR.hl, hp]
  have := gather_in 8 (by decide) 59 #[.pointer (some ⟨S + 1, 0, none⟩), .pointer (some ⟨S, 0, none⟩)] (enters_of Try.func59 (by kernel_rfl) rfl)
    (bitsS zs) (bitsS_bin zs) ((p + 7) / 8) (by omega) (by omega) w (by omega) (fun w' hw' => by
      have hR' := (hR.below hw').mono (fun b _ h => h)
      have hP' := hP.below hw' hP.lt
      have hB' : Boxed w' (S + 1) 22 (.slice a len cap) := (hw'.block _ hB.lt).trans hB
      refine bits_gives 7 (by decide) (S + 1) S _ (baseS zs) (wideS zs) hw64 a len cap zs w' hB'.lt hP.lt hP'.lt hB'.cell hP'.c0 hP'.c1 ?_
      refine ⟨hR'.hl, hR'.fit, hR'.top, hR'.small, fun h0 => ?_⟩
      obtain ⟨b, off, e, hb, hlt, hc⟩ := hR.cells h0
      obtain ⟨b', off', e', _, hlt', hc'⟩ := hR'.cells h0
      exact ⟨b, off, e, hlt, by have := hw'.size; omega, fun j hj => by rw [e] at e'; cases e'; exact hc' j hj⟩)
  rw [hsp]
  exact callsIn_wide.1 this

/-- What a function that makes a row of bytes gives back, with no error. -/
def MakesE (w : World) (e : Ending) (w' : World) (zs : List Int) : Prop :=
  ∃ g cap : Nat, e = .returned (.tuple #[.slice (some ⟨g, 0, none⟩) zs.length cap, .int .i64 0]) ∧ zs.length ≤ cap ∧ w'.ownsRow w.heap.size 5 1 (.slice (some ⟨g, 0, none⟩) zs.length cap) zs.length (zs.map (Value.int .u8)) ∧ Below w.heap.size w w'

set_option maxRecDepth 100000 in
set_option maxHeartbeats 2000000 in
theorem pack_any {K : Nat → Prop} {a : Option Addr} {len cap : Nat} {zs : List Int} (hz : Smalls zs) (hl : len ≤ 4096) {W : World} (hR : Rd K W .i64 a len cap zs) :
    Calls Try.prog 28 #[.slice a len cap] W fun e W' => MakesE W e W' (packS zs) := by
  obtain ⟨i0, hi, hz0, hz1, hz2⟩ := info_parts Try.infoB
  have hbeg := Lib.hid (begin_any hz hR)
  have HR := Lib.hid hR
  have hhl := head_len zs hz (by rw [← hR.hl]; exact hR.small)
  have hwl := wide_le zs
  clear hR
  obtain ⟨p, hp⟩ : ∃ p, len * wideS zs = p := ⟨_, rfl⟩
  have hpw : p ≤ 1099511627776 * 64 := by rw [← hp]; exact Nat.mul_le_mul (by omega) hwl
  obtain ⟨q, hq⟩ : ∃ q, (p + 7) / 8 = q := ⟨_, rfl⟩
  have hqs : q ≤ 8796093022208 := by omega
  have HSQ : Hid (spaceS zs = q) := by show _ = _; unfold spaceS; rw [← HR.out.hl, hp, hq]
  have HSP : Hid (∀ V : World, Calls Try.prog 44 #[.agg #[.int .i64 (baseS zs), .int .i64 (wideS zs)], .int .i64 len] V fun e w' => e = .returned (.int .i64 q) ∧ Below V.heap.size V w') := fun V => by
    have := space_any (baseS zs) (wideS zs) len p hp (by omega) V
    rwa [hq] at this
  have HPQ : Hid (len * wideS zs = p ∧ (p + 7) / 8 = q) := ⟨hp, hq⟩
  clear hp hq
  go_enter Try.func28, Try.ntmps28
  go_wp2_with fail
  refine hbeg.out.mono ?_
  rintro e w1 ⟨g1, c1, rfl, hf1, hr1, hb1⟩
  have HB1 := Lib.hid hb1
  have HR1 := Lib.hid hr1
  clear hr1 hb1 hbeg
  have HGB : Hid (∀ (V : World), Rd K V .i64 a len cap zs → Pair V (w1.heap.size + 1) 72 (.int .i64 (baseS zs)) (.int .i64 (wideS zs)) → Boxed V (w1.heap.size + 1 + 1) 22 (.slice a len cap) →
    Calls Try.prog 42 #[.func (.func 59) #[] #[.pointer (some ⟨w1.heap.size + 1 + 1, 0, none⟩), .pointer (some ⟨w1.heap.size + 1, 0, none⟩)], .int .i64 q] V fun e W' =>
      e = .returned (.slice (some ⟨V.heap.size, 0, none⟩) q q) ∧ (W'.ownsRow V.heap.size 5 1 (.slice (some ⟨V.heap.size, 0, none⟩) q q) q ((gatherS (bitsS zs) (spaceS zs)).map (Value.int .u8)) ∧ Below V.heap.size V W')) := fun V h1 h2 h3 => by
    have := gather_bits (by omega) h1 (w1.heap.size + 1) p HPQ.out.1 h2 h3
    rwa [HPQ.out.2] at this
  go_wp2
  have hq := ((Pair.new (w1.alloc (.cells #[.int .i64 (baseS zs), .int .i64 (wideS zs)] 72)) 72 (.int .i64 (baseS zs)) (.int .i64 (wideS zs)))).alloc (.cells #[.slice a len cap] 22)
  have hq2 := Boxed.new ((w1.alloc (.cells #[.int .i64 (baseS zs), .int .i64 (wideS zs)] 72)).alloc (.cells #[.int .i64 (baseS zs), .int .i64 (wideS zs)] 72)) 22 (.slice a len cap)
  simp only [World.size_alloc] at hq hq2
  have HQ := Lib.hid hq
  have HQ2 := Lib.hid hq2
  have HBB : Hid (Below w1.heap.size w1 (((w1.alloc (.cells #[.int .i64 (baseS zs), .int .i64 (wideS zs)] 72)).alloc (.cells #[.int .i64 (baseS zs), .int .i64 (wideS zs)] 72)).alloc (.cells #[.slice a len cap] 22))) :=
    (((Below.refl _ _).alloc (Nat.le_refl _) _).alloc (by simp) _).alloc (by simp; omega) _
  clear hq hq2
  go_region_law (first
    | (refine step_call_run (by rfl) 43 #[.tmp 15, .tmp 16] #[72, 22] (by rfl) #[.agg #[.int .i64 (baseS zs), .int .i64 (wideS zs)], .slice a len cap] (by go_simp) (enters_of Try.func43 (by kernel_rfl) rfl _ _) _ _ (bits_any _ _ _ _ _ _) ?_; rintro w2 rfl)
    | (refine step_call_run (by rfl) 44 #[.tmp 18, .tmp 20] #[72, 3] (by rfl) #[.agg #[.int .i64 (baseS zs), .int .i64 (wideS zs)], .int .i64 len] (by go_simp) (enters_of Try.func44 (by kernel_rfl) rfl _ _) _ _ (HSP.out _) ?_; intro w3 hb3; have hP3 : Pair w3 (w1.heap.size + 1) 72 (.int .i64 (baseS zs)) (.int .i64 (wideS zs)) := (hb3.block (w1.heap.size + 1) (by simp; try omega)).trans HQ.out; have hB3 : Boxed w3 (w1.heap.size + 1 + 1) 22 (.slice a len cap) := (hb3.block (w1.heap.size + 1 + 1) (by simp; try omega)).trans HQ2.out; have HW3 : Hid (Below w1.heap.size w1 w3) := (below_drew HBB.out).trans (hb3.mono (by simp; try omega)); have HP3 := Lib.hid hP3; have HB3 := Lib.hid hB3; clear hb3 hP3 hB3)
    | (refine step_call_run (by rfl) 42 #[.tmp 17, .tmp 21] #[77, 3] (by rfl) #[.func (.func 59) #[] #[.pointer (some ⟨w1.heap.size + 1 + 1, 0, none⟩), .pointer (some ⟨w1.heap.size + 1, 0, none⟩)], .int .i64 q] (by go_simp) (enters_of Try.func42 (by kernel_rfl) rfl _ _) _ _ (HGB.out _ ((HR.out.below HB1.out).below HW3.out) HP3.out HB3.out) ?_; rintro w4 ⟨hrow4, hb4⟩; have HR4 := Lib.hid hrow4; have HB4 : Hid (Below w1.heap.size w1 w4) := HW3.out.trans (hb4.mono HW3.out.size); have hw3lt : w1.heap.size ≤ w3.heap.size := HW3.out.size; clear hrow4 hb4)
    | (obtain ⟨v5, w5, hr5, hrow5, hg5, _⟩ := run_append_own (P := Try.prog) w4 W.heap.size 23 23 5 i0 _ 1 1 Try.underlying23 hi hz0 hz1 hz2 rfl (by decide) _ (headS zs).length _ ((Kept.of_below HB4.out).row HR1.out (row_lt HR1.out)) ⟨w3.heap.size, 0, none⟩ q q ((gatherS (bitsS zs) (spaceS zs)).map (Value.int .u8)) (by rw [List.length_map]; unfold gatherS; rw [gB_length, HSQ.out]; omega) (fun j u hu => HR4.out.cells (g := w3.heap.size) rfl j u hu) (fun u hu => by obtain ⟨x, _, rfl⟩ := List.mem_map.1 hu; rfl) (by unfold maxLen; omega) (by omega) (Nat.le_trans HB1.out.size HB4.out.size); refine step_append_run (by rfl) (.tmp 14) (.tmp 22) 23 23 (by rfl) (.slice (some ⟨g1, 0, none⟩) (headS zs).length c1) (.slice (some ⟨w3.heap.size, 0, none⟩) q q) (by go_simp) (by go_simp) _ _ hr5 ?_; have HR5 := Lib.hid hrow5; have HG5 := Lib.hid hg5; clear hrow5 hg5 hr5))
  all_goals
    simp [Act.put]
    have hpos := head_pos zs
    have hne : ¬ v5 = .slice none 0 0 := fun e => by
      subst e
      obtain ⟨q1, q2 | ⟨g', cap', cur, e1, _⟩⟩ := HR5.out
      · have := q2.2; omega
      · cases e1
    obtain ⟨g, cp, rfl, hn, hb⟩ := row_form HR5.out hne
    go_wp2
    go_ret2
    have e1 : (headS zs).length + q = (packS zs).length := by unfold packS gatherS; rw [List.length_append, gB_length, HSQ.out]
    refine ⟨g, cp, by rw [e1]; rfl, by rw [← e1]; exact hn, ?_, (HB1.out.trans (HB4.out.mono HB1.out.size)).grown HG5.out (Nat.le_trans HB1.out.size HB4.out.size) (fun r e => by cases e; exact row_base HR1.out)⟩
    rw [← e1]
    unfold packS
    rw [List.map_append]
    exact HR5.out

/-- Too long a list is not packed. -/
theorem pack_long (a : Option Addr) (len cap : Nat) (hl : 4096 < len) (hl2 : len ≤ 140737488351232) (W : World) :
    Calls Try.prog 28 #[.slice a len cap] W fun e W' => e = .returned (.tuple #[.slice none 0 0, .int .i64 2]) ∧ W = W' := by
  go_enter Try.func28, Try.ntmps28
  go_wp2
  go_ret2
  exact ⟨rfl, rfl⟩

end Go.Proofs.Ytkfmgiacdlkmiaa
