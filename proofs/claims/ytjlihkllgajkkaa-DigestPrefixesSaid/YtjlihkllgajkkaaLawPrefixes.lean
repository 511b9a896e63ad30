/-
  Prefixes: for all lists of numbers, the law returns true and changes nothing. No condition.
-/
import Derived.Test.YtjlihkllgajkkaaRows
import Derived.Test.YtjlihkllgajkkaaOpenInts
import Derived.Carry
namespace Go.Proofs.Ytjlihkllgajkkaa.digestPrefixes
open Go.ChangeShapes Go.WideShapes Go.ChangeAt Go.RowKit
open Go.Proofs.Ytjlihkllgajkkaa

theorem asWords_snoc (l : List Int) (v : Int) : asWords (l ++ [v]) = asWords l ++ [IntKind.u64.wrap v] := by simp [asWords]

/-- Two lists of one length have equal digests exactly if they have behind one further number. -/
theorem further (l m : List Int) (v : Int) (hlm : l.length = m.length) : (wordsD l == wordsD m) = (wordsD (l ++ [v]) == wordsD (m ++ [v])) := by
  have hl := foldI_range 512970876019 (by omega) (asWords l)
  have hm := foldI_range 512970876019 (by omega) (asWords m)
  unfold wordsD
  rw [asWords_snoc, asWords_snoc, List.foldl_append, List.foldl_append, List.length_append, List.length_append, hlm]
  generalize (asWords l).foldl stepI 512970876019 = A at hl ⊢
  generalize (asWords m).foldl stepI 512970876019 = B at hm ⊢
  by_cases h : A = B
  · subst h; simp
  · have h1 : ¬ stepI A m.length = stepI B m.length := fun e => h (stepI_left' e hl hm)
    have h2 : ¬ stepI ([IntKind.u64.wrap v].foldl stepI A) ((m.length + [v].length : Nat) : Int) = stepI ([IntKind.u64.wrap v].foldl stepI B) ((m.length + [v].length : Nat) : Int) := fun e =>
      h (stepI_left' (stepI_left' e ⟨stepI_lo _ _, stepI_hi _ _⟩ ⟨stepI_lo _ _, stepI_hi _ _⟩) hl hm)
    rw [beq_false_of_ne h1, beq_false_of_ne h2]

theorem walk_long1 (a a2 : Option Addr) (len cap len2 cap2 : Nat) (v : Int) (hlen : 100 < len) (hmax : len ≤ 9223372036854775807) (w : World) :
    Calls Try.prog 8 #[.slice a len cap, .slice a2 len2 cap2, .int .i64 v] w fun e w' => e = .returned (.bool true) ∧ Below w.heap.size w w' := by
  go_enter Try.func8, Try.ntmps8
  go_wp2_with (go_at_call 9; refine (examples_any _).mono ?_; rintro e w1 ⟨rfl, hb1⟩)
  go_ret
  exact ⟨rfl, hb1⟩
theorem walk_long2 (a a2 : Option Addr) (len cap len2 cap2 : Nat) (v : Int) (hlen : len ≤ 100) (hlen2 : 100 < len2) (hmax : len2 ≤ 9223372036854775807) (w : World) :
    Calls Try.prog 8 #[.slice a len cap, .slice a2 len2 cap2, .int .i64 v] w fun e w' => e = .returned (.bool true) ∧ Below w.heap.size w w' := by
  go_enter Try.func8, Try.ntmps8
  go_wp2_with (go_at_call 9; refine (examples_any _).mono ?_; rintro e w1 ⟨rfl, hb1⟩)
  go_ret
  exact ⟨rfl, hb1⟩

theorem Try.infoI : (Try.prog.info? 3).map (fun i => (i.zero, i.size, i.bytes)) = some (some (.int .i64 0), 1, 8) := by kernel_rfl

theorem natW (k : Nat) {n : Nat} (hk : k ≤ n) (hn : n ≤ 100) : 0 ≤ (k : Int) ∧ (k : Int) < 18446744073709551616 := by omega

/-- The loop over the beginnings, and what stands behind it: a cut of the walk that both ways to it share. -/
theorem words_begin (a : Option Addr) (len cap k : Nat) (zs : List Int) (hlen : len = zs.length) (hk : k < len) (h100 : len ≤ 100) (w wc : World) (hR : ReadsK (fun b => b < w.heap.size) w .i64 (.slice a len cap) zs) (hb : Below w.heap.size w wc) :
    ∃ b off, a = some ⟨b, off, none⟩ ∧ wc.cell? ⟨b, off + k, none⟩ = some (.int .i64 (zs[k]?.getD 0)) ∧
      Calls Try.prog 16 #[.slice (some ⟨b, off, none⟩) k cap] wc fun e W' => e = .returned (.int .u64 (stepI (((asWords zs).take k).foldl stepI 512970876019) k)) ∧ Below wc.heap.size wc W' := by
  rcases hR with ⟨a', cap', e, rfl⟩ | ⟨b, off, cap', e, hbl, _, hc⟩
  · simp at hlen; omega
  · obtain rfl : a = some ⟨b, off, none⟩ := by cases e; rfl
    refine ⟨b, off, rfl, (hb.cell (p := ⟨b, off + k, none⟩) hbl).trans (hc k (by omega)), ?_⟩
    have hl : (zs.take k).length = k := by simp; omega
    have := words_any (some ⟨b, off, none⟩) k cap (zs.take k) hl.symm (by omega) wc
      (.inr ⟨b, off, cap, by rw [hl], Nat.lt_of_lt_of_le hbl hb.size, Nat.lt_of_lt_of_le hbl hb.size, fun j hj => by
        rw [hl] at hj
        rw [hb.cell (p := ⟨b, off + j, none⟩) hbl, hc j (by omega), List.getElem?_take_of_lt hj]⟩)
    unfold wordsD at this
    rw [hl, show asWords (zs.take k) = (asWords zs).take k by simp [asWords, List.map_take]] at this
    exact this

set_option maxRecDepth 100000 in
set_option maxHeartbeats 4000000 in
theorem walk_equal_true (a a2 : Option Addr) (len cap cap2 : Nat) (v : Int) (zs ms : List Int) (hlen : Hid (len = zs.length)) (hfit : len ≤ cap) (h100 : len ≤ 100) (hlen2 : Hid (len = ms.length))
    (w : World) (hR : ReadsK (fun b => b < w.heap.size) w .i64 (.slice a len cap) zs) (h1 : (wordsD zs == wordsD ms) = true) (hR2 : ReadsK (fun b => b < w.heap.size) w .i64 (.slice a2 len cap2) ms) :
    Calls Try.prog 8 #[.slice a len cap, .slice a2 len cap2, .int .i64 v] w fun e w' => e = .returned (.bool true) ∧ Below w.heap.size w w' := by
  obtain ⟨i0, hi, hz0, hz1, hz2⟩ := info_parts Try.infoI
  have HR := Lib.hid hR
  have hb := Below.refl w.heap.size w
  clear hR
  have HR2 := Lib.hid hR2
  clear hR2
  have hF : (wordsD zs == wordsD ms) = (wordsD (zs ++ [v]) == wordsD (ms ++ [v])) := by
    have e1 := hlen.out
    have e2 := hlen2.out
    exact further zs ms v (by omega)
  have HL : Hid (len + 1 = (zs ++ [v]).length) := by have := hlen.out; show _ = _; simp; omega
  have HL2 : Hid (len + 1 = (ms ++ [v]).length) := by have := hlen2.out; show _ = _; simp; omega
  have h2 : (wordsD (zs ++ [v]) == wordsD (ms ++ [v])) = true := by rw [← hF]; exact h1
  clear hF
  go_enter Try.func8, Try.ntmps8
  go_wp2_with (first
      | (go_at_call 9; refine (examples_any _).mono ?_; rintro e w1 ⟨rfl, hb1⟩; replace hb := hb.trans (hb1.mono hb.size); clear hb1)
      | (go_at_call 16; ((with_reducible refine (words_any a len cap zs hlen.out (by rw [← hlen.out]; omega) _ ((HR.out.below hb).mono (fun b _ h => Nat.lt_of_lt_of_le h hb.size))).mono ?_); rintro e w5 ⟨rfl, hb5⟩; replace hb := hb.trans (hb5.mono hb.size); clear hb5))
      | (go_at_call 16; ((with_reducible refine (words_any a2 len cap2 ms hlen2.out (by rw [← hlen2.out]; omega) _ ((HR2.out.below hb).mono (fun b _ h => Nat.lt_of_lt_of_le h hb.size))).mono ?_); rintro e w5 ⟨rfl, hb5⟩; replace hb := hb.trans (hb5.mono hb.size); clear hb5))
      | (at_builtin; obtain ⟨gZ, cZ, w2, hr, hownZ, hg1, hc1, hbgZ⟩ := run_append_copy' _ w.heap.size 22 22 3 i0 _ 8 .i64 Try.underlying22 hi hz0 hz1 hz2 rfl _ 0 (World.ownsRow_made _ #[] 0 hb.size (by decide) rfl) (.slice a len cap) zs len hlen (HR.out.below (hb.alloc hb.size _)) (by unfold maxLen; omega) (by omega) (hb.alloc hb.size _).size; refine wpList_append_want (o := ⟨some 35, _, _, _, _, _⟩) _ rfl _ _ _ _ rfl _ _ rfl rfl _ _ hr ?_; replace hb := (hb.alloc hb.size (.cells #[] 3)).grown hg1 (hb.alloc hb.size _).size (fun k e => by cases e; exact hb.size); clear hr hg1 hc1)
      | (at_builtin; obtain ⟨gM, cM, w2, hr, hownM, hg1, hc1, hbgM⟩ := run_append_copy' _ w.heap.size 22 22 3 i0 _ 8 .i64 Try.underlying22 hi hz0 hz1 hz2 rfl _ 0 (World.ownsRow_made _ #[] 0 hb.size (by decide) rfl) (.slice a2 len cap2) ms len hlen2 (HR2.out.below (hb.alloc hb.size _)) (by unfold maxLen; omega) (by omega) (hb.alloc hb.size _).size; refine wpList_append_want (o := ⟨some 42, _, _, _, _, _⟩) _ rfl _ _ _ _ rfl _ _ rfl rfl _ _ hr ?_; replace hb := (hb.alloc hb.size (.cells #[] 3)).grown hg1 (hb.alloc hb.size _).size (fun k e => by cases e; exact hb.size); clear hr hg1 hc1)
      | (at_builtin; obtain ⟨hZ, dZ, w3, hr2, hownZ2, hg2, hccZ, hbhZ⟩ := run_append_one _ w.heap.size 22 22 3 i0 _ 8 .i64 Try.underlying22 hi hz0 hz1 hz2 rfl gZ len cZ _ hownZ v 3 (by unfold maxLen; omega) (by omega) hb.size; refine wpList_append_want (o := ⟨some 38, _, _, _, _, _⟩) _ rfl _ _ _ _ rfl _ _ rfl rfl _ _ hr2 ?_; replace hb := (hb.alloc hb.size (.cells #[.int .i64 v] 3)).grown hg2 (hb.alloc hb.size _).size (fun k e => by cases e; exact hbgZ); have HQZ := Lib.hid (row_reads (zs := zs ++ [v]) HL.out (by rw [List.map_append]; exact hownZ2)); clear hr2 hg2 hownZ hbgZ hbhZ hownZ2)
      | (at_builtin; obtain ⟨hM, dM, w3, hr2, hownM2, hg2, hccM, hbhM⟩ := run_append_one _ w.heap.size 22 22 3 i0 _ 8 .i64 Try.underlying22 hi hz0 hz1 hz2 rfl gM len cM _ hownM v 3 (by unfold maxLen; omega) (by omega) hb.size; refine wpList_append_want (o := ⟨some 45, _, _, _, _, _⟩) _ rfl _ _ _ _ rfl _ _ rfl rfl _ _ hr2 ?_; replace hb := (hb.alloc hb.size (.cells #[.int .i64 v] 3)).grown hg2 (hb.alloc hb.size _).size (fun k e => by cases e; exact hbgM); have HQM := Lib.hid (row_reads (zs := ms ++ [v]) HL2.out (by rw [List.map_append]; exact hownM2)); clear hr2 hg2 hownM hbgM hbhM hownM2)
      | (go_at_call 16; ((with_reducible refine (words_any _ (len + 1) dZ (zs ++ [v]) HL.out (by rw [← HL.out]; omega) _ HQZ.out).mono ?_); rintro e w6 ⟨rfl, hb6⟩; replace hb := hb.trans (hb6.mono hb.size); clear hb6 HQZ))
      | (go_at_call 16; ((with_reducible refine (words_any _ (len + 1) dM (ms ++ [v]) HL2.out (by rw [← HL2.out]; omega) _ HQM.out).mono ?_); rintro e w6 ⟨rfl, hb6⟩; replace hb := hb.trans (hb6.mono hb.size); clear hb6 HQM)))
  go_loopw [8, 9] (fun h i wr => ∃ k : Nat, k ≤ len ∧ i = .int .i64 k ∧ h = .int .u64 (((asWords zs).take k).foldl stepI 512970876019) ∧ Below w.heap.size w wr)
    (fun _ i _ => len - (intOf i).toNat)
  case atStart => exact ⟨0, Nat.zero_le _, rfl, rfl, hb⟩
  case round =>
    obtain ⟨k, hk, rfl, rfl, hbr⟩ := hrel
    have hfo := foldI_range 512970876019 (by omega) ((asWords zs).take k)
    clear hb
    by_cases hlt : k < len
    · have hkc : k ≤ cap := by omega
      obtain ⟨b, off, rfl, hcx, hcall⟩ := words_begin a len cap k zs hlen.out hlt h100 w wr HR.out hbr
      have HC := Lib.hid hcall
      have hxw := (asWords_words zs).getD k
      rw [asWords_getD zs k (by rw [← hlen.out]; exact hlt)] at hxw
      have HS := Lib.hid (foldI_snoc 512970876019 (asWords zs) k (by rw [asWords, List.length_map, ← hlen.out]; exact hlt))
      rw [asWords_getD zs k (by rw [← hlen.out]; exact hlt)] at HS
      have hcx2 : ∀ wn, Below wr.heap.size wr wn → wn.cell? ⟨b, off + k, none⟩ = some (.int .i64 (zs[k]?.getD 0)) := by
        intro wn hbn
        obtain ⟨o, ho, _⟩ := cells_of_cell hcx
        exact (hbn.cell (p := ⟨b, off + k, none⟩) (Array.getElem?_eq_some_iff.1 ho).1).trans hcx
      have HX := Lib.hid hcx2
      clear hcall hcx hcx2
      go_wp2_with (first
        | (go_at_call 16; refine HC.out.mono ?_; rintro e w7 ⟨rfl, hb7⟩; have hcx7 := HX.out _ hb7; replace hbr := hbr.trans (hb7.mono hbr.size); clear hb7)
        | (go_at_call 12; ((with_reducible refine (step_any _ _ hfo (natW k hk h100) _).mono ?_); rintro e w' ⟨rfl, rfl⟩))
        | (go_at_call 12; ((with_reducible refine (step_any _ _ hfo hxw _).mono ?_); rintro e w' ⟨rfl, rfl⟩)))
      go_roundw
      case rel => exact ⟨k + 1, by omega, by go_num, by rw [HS.out], hbr⟩
      case measure => simp [intOf]; omega
    · obtain rfl : k = len := by omega
      have HE : Hid (((asWords zs).take k) = asWords zs) := by show _ = _; rw [List.take_of_length_le (by rw [asWords, List.length_map, hlen.out]; exact Nat.le_refl _)]
      have HWD : Hid (wordsD zs = stepI ((asWords zs).foldl stepI 512970876019) k) := by show _ = _; rw [hlen.out]; rfl
      rw [HE.out] at hfo ⊢
      go_wp2_with (first
        | (go_at_call 16; ((with_reducible refine (words_any a k cap zs hlen.out (by rw [← hlen.out]; omega) _ ((HR.out.below hbr).mono (fun b _ h => Nat.lt_of_lt_of_le h hbr.size))).mono ?_); rintro e w5 ⟨rfl, hb5⟩; replace hbr := hbr.trans (hb5.mono hbr.size); clear hb5; rw [HWD.out]))
        | (go_at_call 12; ((with_reducible refine (step_any _ _ hfo (natW k (Nat.le_refl k) h100) _).mono ?_); rintro e w' ⟨rfl, rfl⟩)))
      go_ret
      exact ⟨rfl, hbr⟩

set_option maxRecDepth 100000 in
set_option maxHeartbeats 4000000 in
theorem walk_equal_false (a a2 : Option Addr) (len cap cap2 : Nat) (v : Int) (zs ms : List Int) (hlen : Hid (len = zs.length)) (hfit : len ≤ cap) (h100 : len ≤ 100) (hlen2 : Hid (len = ms.length))
    (w : World) (hR : ReadsK (fun b => b < w.heap.size) w .i64 (.slice a len cap) zs) (h1 : (wordsD zs == wordsD ms) = false) (hR2 : ReadsK (fun b => b < w.heap.size) w .i64 (.slice a2 len cap2) ms) :
    Calls Try.prog 8 #[.slice a len cap, .slice a2 len cap2, .int .i64 v] w fun e w' => e = .returned (.bool true) ∧ Below w.heap.size w w' := by
  obtain ⟨i0, hi, hz0, hz1, hz2⟩ := info_parts Try.infoI
  have HR := Lib.hid hR
  have hb := Below.refl w.heap.size w
  clear hR
  have HR2 := Lib.hid hR2
  clear hR2
  have hF : (wordsD zs == wordsD ms) = (wordsD (zs ++ [v]) == wordsD (ms ++ [v])) := by
    have e1 := hlen.out
    have e2 := hlen2.out
    exact further zs ms v (by omega)
  have HL : Hid (len + 1 = (zs ++ [v]).length) := by have := hlen.out; show _ = _; simp; omega
  have HL2 : Hid (len + 1 = (ms ++ [v]).length) := by have := hlen2.out; show _ = _; simp; omega
  have h2 : (wordsD (zs ++ [v]) == wordsD (ms ++ [v])) = false := by rw [← hF]; exact h1
  clear hF
  go_enter Try.func8, Try.ntmps8
  go_wp2_with (first
      | (go_at_call 9; refine (examples_any _).mono ?_; rintro e w1 ⟨rfl, hb1⟩; replace hb := hb.trans (hb1.mono hb.size); clear hb1)
      | (go_at_call 16; ((with_reducible refine (words_any a len cap zs hlen.out (by rw [← hlen.out]; omega) _ ((HR.out.below hb).mono (fun b _ h => Nat.lt_of_lt_of_le h hb.size))).mono ?_); rintro e w5 ⟨rfl, hb5⟩; replace hb := hb.trans (hb5.mono hb.size); clear hb5))
      | (go_at_call 16; ((with_reducible refine (words_any a2 len cap2 ms hlen2.out (by rw [← hlen2.out]; omega) _ ((HR2.out.below hb).mono (fun b _ h => Nat.lt_of_lt_of_le h hb.size))).mono ?_); rintro e w5 ⟨rfl, hb5⟩; replace hb := hb.trans (hb5.mono hb.size); clear hb5))
      | (at_builtin; obtain ⟨gZ, cZ, w2, hr, hownZ, hg1, hc1, hbgZ⟩ := run_append_copy' _ w.heap.size 22 22 3 i0 _ 8 .i64 Try.underlying22 hi hz0 hz1 hz2 rfl _ 0 (World.ownsRow_made _ #[] 0 hb.size (by decide) rfl) (.slice a len cap) zs len hlen (HR.out.below (hb.alloc hb.size _)) (by unfold maxLen; omega) (by omega) (hb.alloc hb.size _).size; refine wpList_append_want (o := ⟨some 35, _, _, _, _, _⟩) _ rfl _ _ _ _ rfl _ _ rfl rfl _ _ hr ?_; replace hb := (hb.alloc hb.size (.cells #[] 3)).grown hg1 (hb.alloc hb.size _).size (fun k e => by cases e; exact hb.size); clear hr hg1 hc1)
      | (at_builtin; obtain ⟨gM, cM, w2, hr, hownM, hg1, hc1, hbgM⟩ := run_append_copy' _ w.heap.size 22 22 3 i0 _ 8 .i64 Try.underlying22 hi hz0 hz1 hz2 rfl _ 0 (World.ownsRow_made _ #[] 0 hb.size (by decide) rfl) (.slice a2 len cap2) ms len hlen2 (HR2.out.below (hb.alloc hb.size _)) (by unfold maxLen; omega) (by omega) (hb.alloc hb.size _).size; refine wpList_append_want (o := ⟨some 42, _, _, _, _, _⟩) _ rfl _ _ _ _ rfl _ _ rfl rfl _ _ hr ?_; replace hb := (hb.alloc hb.size (.cells #[] 3)).grown hg1 (hb.alloc hb.size _).size (fun k e => by cases e; exact hb.size); clear hr hg1 hc1)
      | (at_builtin; obtain ⟨hZ, dZ, w3, hr2, hownZ2, hg2, hccZ, hbhZ⟩ := run_append_one _ w.heap.size 22 22 3 i0 _ 8 .i64 Try.underlying22 hi hz0 hz1 hz2 rfl gZ len cZ _ hownZ v 3 (by unfold maxLen; omega) (by omega) hb.size; refine wpList_append_want (o := ⟨some 38, _, _, _, _, _⟩) _ rfl _ _ _ _ rfl _ _ rfl rfl _ _ hr2 ?_; replace hb := (hb.alloc hb.size (.cells #[.int .i64 v] 3)).grown hg2 (hb.alloc hb.size _).size (fun k e => by cases e; exact hbgZ); have HQZ := Lib.hid (row_reads (zs := zs ++ [v]) HL.out (by rw [List.map_append]; exact hownZ2)); clear hr2 hg2 hownZ hbgZ hbhZ hownZ2)
      | (at_builtin; obtain ⟨hM, dM, w3, hr2, hownM2, hg2, hccM, hbhM⟩ := run_append_one _ w.heap.size 22 22 3 i0 _ 8 .i64 Try.underlying22 hi hz0 hz1 hz2 rfl gM len cM _ hownM v 3 (by unfold maxLen; omega) (by omega) hb.size; refine wpList_append_want (o := ⟨some 45, _, _, _, _, _⟩) _ rfl _ _ _ _ rfl _ _ rfl rfl _ _ hr2 ?_; replace hb := (hb.alloc hb.size (.cells #[.int .i64 v] 3)).grown hg2 (hb.alloc hb.size _).size (fun k e => by cases e; exact hbgM); have HQM := Lib.hid (row_reads (zs := ms ++ [v]) HL2.out (by rw [List.map_append]; exact hownM2)); clear hr2 hg2 hownM hbgM hbhM hownM2)
      | (go_at_call 16; ((with_reducible refine (words_any _ (len + 1) dZ (zs ++ [v]) HL.out (by rw [← HL.out]; omega) _ HQZ.out).mono ?_); rintro e w6 ⟨rfl, hb6⟩; replace hb := hb.trans (hb6.mono hb.size); clear hb6 HQZ))
      | (go_at_call 16; ((with_reducible refine (words_any _ (len + 1) dM (ms ++ [v]) HL2.out (by rw [← HL2.out]; omega) _ HQM.out).mono ?_); rintro e w6 ⟨rfl, hb6⟩; replace hb := hb.trans (hb6.mono hb.size); clear hb6 HQM)))
  go_loopw [8, 9] (fun h i wr => ∃ k : Nat, k ≤ len ∧ i = .int .i64 k ∧ h = .int .u64 (((asWords zs).take k).foldl stepI 512970876019) ∧ Below w.heap.size w wr)
    (fun _ i _ => len - (intOf i).toNat)
  case atStart => exact ⟨0, Nat.zero_le _, rfl, rfl, hb⟩
  case round =>
    obtain ⟨k, hk, rfl, rfl, hbr⟩ := hrel
    have hfo := foldI_range 512970876019 (by omega) ((asWords zs).take k)
    clear hb
    by_cases hlt : k < len
    · have hkc : k ≤ cap := by omega
      obtain ⟨b, off, rfl, hcx, hcall⟩ := words_begin a len cap k zs hlen.out hlt h100 w wr HR.out hbr
      have HC := Lib.hid hcall
      have hxw := (asWords_words zs).getD k
      rw [asWords_getD zs k (by rw [← hlen.out]; exact hlt)] at hxw
      have HS := Lib.hid (foldI_snoc 512970876019 (asWords zs) k (by rw [asWords, List.length_map, ← hlen.out]; exact hlt))
      rw [asWords_getD zs k (by rw [← hlen.out]; exact hlt)] at HS
      have hcx2 : ∀ wn, Below wr.heap.size wr wn → wn.cell? ⟨b, off + k, none⟩ = some (.int .i64 (zs[k]?.getD 0)) := by
        intro wn hbn
        obtain ⟨o, ho, _⟩ := cells_of_cell hcx
        exact (hbn.cell (p := ⟨b, off + k, none⟩) (Array.getElem?_eq_some_iff.1 ho).1).trans hcx
      have HX := Lib.hid hcx2
      clear hcall hcx hcx2
      go_wp2_with (first
        | (go_at_call 16; refine HC.out.mono ?_; rintro e w7 ⟨rfl, hb7⟩; have hcx7 := HX.out _ hb7; replace hbr := hbr.trans (hb7.mono hbr.size); clear hb7)
        | (go_at_call 12; ((with_reducible refine (step_any _ _ hfo (natW k hk h100) _).mono ?_); rintro e w' ⟨rfl, rfl⟩))
        | (go_at_call 12; ((with_reducible refine (step_any _ _ hfo hxw _).mono ?_); rintro e w' ⟨rfl, rfl⟩)))
      go_roundw
      case rel => exact ⟨k + 1, by omega, by go_num, by rw [HS.out], hbr⟩
      case measure => simp [intOf]; omega
    · obtain rfl : k = len := by omega
      have HE : Hid (((asWords zs).take k) = asWords zs) := by show _ = _; rw [List.take_of_length_le (by rw [asWords, List.length_map, hlen.out]; exact Nat.le_refl _)]
      have HWD : Hid (wordsD zs = stepI ((asWords zs).foldl stepI 512970876019) k) := by show _ = _; rw [hlen.out]; rfl
      rw [HE.out] at hfo ⊢
      go_wp2_with (first
        | (go_at_call 16; ((with_reducible refine (words_any a k cap zs hlen.out (by rw [← hlen.out]; omega) _ ((HR.out.below hbr).mono (fun b _ h => Nat.lt_of_lt_of_le h hbr.size))).mono ?_); rintro e w5 ⟨rfl, hb5⟩; replace hbr := hbr.trans (hb5.mono hbr.size); clear hb5; rw [HWD.out]))
        | (go_at_call 12; ((with_reducible refine (step_any _ _ hfo (natW k (Nat.le_refl k) h100) _).mono ?_); rintro e w' ⟨rfl, rfl⟩)))
      go_ret
      exact ⟨rfl, hbr⟩

set_option maxRecDepth 100000 in
set_option maxHeartbeats 4000000 in
theorem walk_other (a a2 : Option Addr) (len cap len2 cap2 : Nat) (v : Int) (zs : List Int) (hlen : Hid (len = zs.length)) (hfit : len ≤ cap) (h100 : len ≤ 100) (h1002 : len2 ≤ 100) (hne : ¬ len = len2)
    (w : World) (hR : ReadsK (fun b => b < w.heap.size) w .i64 (.slice a len cap) zs) :
    Calls Try.prog 8 #[.slice a len cap, .slice a2 len2 cap2, .int .i64 v] w fun e w' => e = .returned (.bool true) ∧ Below w.heap.size w w' := by
  obtain ⟨i0, hi, hz0, hz1, hz2⟩ := info_parts Try.infoI
  have HR := Lib.hid hR
  have hb := Below.refl w.heap.size w
  clear hR
  have hq : ((len : Int) == (len2 : Int)) = false := beq_false_of_ne (by omega)
  go_enter Try.func8, Try.ntmps8
  go_wp2_with (first
      | (go_at_call 9; refine (examples_any _).mono ?_; rintro e w1 ⟨rfl, hb1⟩; replace hb := hb.trans (hb1.mono hb.size); clear hb1)
)
  go_loopw [8, 9] (fun h i wr => ∃ k : Nat, k ≤ len ∧ i = .int .i64 k ∧ h = .int .u64 (((asWords zs).take k).foldl stepI 512970876019) ∧ Below w.heap.size w wr)
    (fun _ i _ => len - (intOf i).toNat)
  case atStart => exact ⟨0, Nat.zero_le _, rfl, rfl, hb⟩
  case round =>
    obtain ⟨k, hk, rfl, rfl, hbr⟩ := hrel
    have hfo := foldI_range 512970876019 (by omega) ((asWords zs).take k)
    clear hb
    by_cases hlt : k < len
    · have hkc : k ≤ cap := by omega
      obtain ⟨b, off, rfl, hcx, hcall⟩ := words_begin a len cap k zs hlen.out hlt h100 w wr HR.out hbr
      have HC := Lib.hid hcall
      have hxw := (asWords_words zs).getD k
      rw [asWords_getD zs k (by rw [← hlen.out]; exact hlt)] at hxw
      have HS := Lib.hid (foldI_snoc 512970876019 (asWords zs) k (by rw [asWords, List.length_map, ← hlen.out]; exact hlt))
      rw [asWords_getD zs k (by rw [← hlen.out]; exact hlt)] at HS
      have hcx2 : ∀ wn, Below wr.heap.size wr wn → wn.cell? ⟨b, off + k, none⟩ = some (.int .i64 (zs[k]?.getD 0)) := by
        intro wn hbn
        obtain ⟨o, ho, _⟩ := cells_of_cell hcx
        exact (hbn.cell (p := ⟨b, off + k, none⟩) (Array.getElem?_eq_some_iff.1 ho).1).trans hcx
      have HX := Lib.hid hcx2
      clear hcall hcx hcx2
      go_wp2_with (first
        | (go_at_call 16; refine HC.out.mono ?_; rintro e w7 ⟨rfl, hb7⟩; have hcx7 := HX.out _ hb7; replace hbr := hbr.trans (hb7.mono hbr.size); clear hb7)
        | (go_at_call 12; ((with_reducible refine (step_any _ _ hfo (natW k hk h100) _).mono ?_); rintro e w' ⟨rfl, rfl⟩))
        | (go_at_call 12; ((with_reducible refine (step_any _ _ hfo hxw _).mono ?_); rintro e w' ⟨rfl, rfl⟩)))
      go_roundw
      case rel => exact ⟨k + 1, by omega, by go_num, by rw [HS.out], hbr⟩
      case measure => simp [intOf]; omega
    · obtain rfl : k = len := by omega
      have HE : Hid (((asWords zs).take k) = asWords zs) := by show _ = _; rw [List.take_of_length_le (by rw [asWords, List.length_map, hlen.out]; exact Nat.le_refl _)]
      have HWD : Hid (wordsD zs = stepI ((asWords zs).foldl stepI 512970876019) k) := by show _ = _; rw [hlen.out]; rfl
      rw [HE.out] at hfo ⊢
      go_wp2_with (first
        | (go_at_call 16; ((with_reducible refine (words_any a k cap zs hlen.out (by rw [← hlen.out]; omega) _ ((HR.out.below hbr).mono (fun b _ h => Nat.lt_of_lt_of_le h hbr.size))).mono ?_); rintro e w5 ⟨rfl, hb5⟩; replace hbr := hbr.trans (hb5.mono hbr.size); clear hb5; rw [HWD.out]))
        | (go_at_call 12; ((with_reducible refine (step_any _ _ hfo (natW k (Nat.le_refl k) h100) _).mono ?_); rintro e w' ⟨rfl, rfl⟩)))
      go_ret
      exact ⟨rfl, hbr⟩

theorem walk (a a2 : Option Addr) (len cap len2 cap2 : Nat) (v : Int) (zs ms : List Int) (hlen : len = zs.length) (hfit : len ≤ cap) (hmax : len ≤ 9223372036854775807) (hlen2 : len2 = ms.length) (hmax2 : len2 ≤ 9223372036854775807)
    (w : World) (hR : ReadsK (fun b => b < w.heap.size) w .i64 (.slice a len cap) zs) (hR2 : ReadsK (fun b => b < w.heap.size) w .i64 (.slice a2 len2 cap2) ms) :
    Calls Try.prog 8 #[.slice a len cap, .slice a2 len2 cap2, .int .i64 v] w fun e w' => e = .returned (.bool true) ∧ Below w.heap.size w w' := by
  by_cases h1 : 100 < len
  · exact walk_long1 a a2 len cap len2 cap2 v h1 hmax w
  · by_cases h2 : 100 < len2
    · exact walk_long2 a a2 len cap len2 cap2 v (by omega) h2 hmax2 w
    · by_cases he : len = len2
      · subst he
        rcases Bool.eq_false_or_eq_true (wordsD zs == wordsD ms) with hq | hq
        · exact walk_equal_true a a2 len cap cap2 v zs ms hlen hfit (by omega) hlen2 w hR hq hR2
        · exact walk_equal_false a a2 len cap cap2 v zs ms hlen hfit (by omega) hlen2 w hR hq hR2
      · exact walk_other a a2 len cap len2 cap2 v zs hlen hfit (by omega) (by omega) he w hR

theorem own : ownKnob Try.prog.godebug = none := by kernel_rfl
theorem laidOut : laidOutB Try.prog = true := by kernel_rfl
theorem cells : Try.prog.cellsOf 3 = 1 := by kernel_rfl

set_option maxRecDepth 100000 in
theorem lifted (os : Os) (started : os.Started) (H : Type) (enc : TypeId × Value → H) :
    ReturnsInHanded {} Try.checked os 8 .any (Rows.digestPrefixesSpec.pre6 enc Try.prog Try.f8 Rows.digestPrefixesRow.domain false) (Rows.digestPrefixesSpec.post enc Try.prog Try.f8 false true false false) := by
  refine returnsInHanded_of_change (C := Try.checked) own started (by kernel_rfl) Try.func8
    (ChangeSpec.witness6 (enc := enc) (C := Try.checked) false ⟨#[], #[.slice none 0 0, .slice none 0 0, .int .i64 0], []⟩ 8 (by kernel_rfl) (by kernel_rfl) (by kernel_rfl) (by kernel_rfl)) ?_
  intro W base args ds gs before hval0 hW hcnd _
  have hval : ∀ (j : Nat) t v, Try.f8.params[j]? = some t → args[j]? = some v → Value.okWide Try.prog W .any base t v := hval0
  have hW' := hW
  obtain ⟨p, q, hA0, hV, rfl, hfz, hnd⟩ := hW
  have hA : DataW.TrodAll enc Try.prog W 0 (fun _ => true) true Try.f8.params.toList args.toList ds p := hA0
  rw [Try.params8] at hA hval
  obtain ⟨v0, v1, v2, d0, d1, d2, p0, p1, p2, rfl, rfl, rfl, h0, h1, h2⟩ := trodAll_three hA
  obtain ⟨rfl, rfl⟩ := trodVars_none hV
  obtain ⟨a, len, cap, zs, rfl, hlen, hfit, hmax, hR, _⟩ := open_reads Try.underlying22 Try.underlying3 cells (hval 0 22 v0 rfl rfl) h0
  obtain ⟨a2, len2, cap2, ms, rfl, hlen2, hfit2, hmax2, hR2, _⟩ := open_reads Try.underlying22 Try.underlying3 cells (hval 1 22 v1 rfl rfl) h1
  obtain ⟨v, rfl, rfl, rfl, w2⟩ := open_int Try.underlying3 (hval 2 3 v2 rfl rfl) h2
  clear hA0 hval0
  simp only [List.append_nil] at hW'
  have hlt : ∀ x ∈ p0, x.block < W.heap.size := fun x hx => by simpa using hW'.lt x (by simp; exact .inl hx)
  have hlt2 : ∀ x ∈ p1, x.block < W.heap.size := fun x hx => by simpa using hW'.lt x (by simp; exact .inr hx)
  refine (walk a a2 len cap len2 cap2 v zs ms hlen hfit hmax hlen2 hmax2 W hR hR2).mono fun e W' ⟨he, hg⟩ => ?_
  subst he
  exact ⟨_, rfl, ⟨_, _, _, [], p0 ++ (p1 ++ []), [], hW', trodAll_mk1 (shut_bool Try.underlying4 _), trodAll_mk3 (Below.trod laidOut (by kernel_rfl) (of_decide_eq_true (by kernel_rfl)) h0 hg hlt) (Below.trod laidOut (by kernel_rfl) (of_decide_eq_true (by kernel_rfl)) h1 hg hlt2) (shut_int Try.underlying3 w2), rfl, hg.frame _, fun h => by cases h⟩⟩

theorem over : Rows.digestPrefixesRow.holds Try.pinned (OpenSpec.ofChange Rows.digestPrefixesSpec) :=
  OpenClaim.holds_of_wide 8 Try.f8 rfl rfl rfl rfl rfl rfl rfl ⟨rfl, rfl, rfl, rfl, rfl⟩ rfl rfl rfl rfl rfl (by kernel_rfl) Try.func8 (by kernel_rfl)
    (of_decide_eq_true (by kernel_rfl)) (by unfold Func.isWrapper; first | (rw [if_pos (by decide +kernel)]; kernel_rfl) | (rw [if_neg (by decide +kernel)]; exact ⟨rfl, rfl⟩))
    (fun os started H enc _ => lifted os started H enc)

/-- The statement. -/
theorem proved : Rows.DigestPrefixesSaid := over
#print axioms proved

end Go.Proofs.Ytjlihkllgajkkaa.digestPrefixes
