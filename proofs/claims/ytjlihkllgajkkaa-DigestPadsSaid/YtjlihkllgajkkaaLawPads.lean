/-
  Padding: for all byte sequences, the law returns true and changes nothing. No condition.
-/
import Derived.Test.YtjlihkllgajkkaaRows
import Derived.Test.YtjlihkllgajkkaaOpenInts
import Derived.Carry
namespace Go.Proofs.Ytjlihkllgajkkaa.digestPads
open Go.ChangeShapes Go.WideShapes Go.ChangeAt Go.RowKit
open Go.Proofs.Ytjlihkllgajkkaa

theorem wordOf_zeros : ∀ (l : List Int) (m : Nat), wordOf (l ++ List.replicate m 0) = wordOf l
  | [], 0 => rfl
  | [], m + 1 => by
    have := wordOf_zeros [] m
    simp only [List.nil_append] at this
    simp [List.replicate_succ, wordOf, this]
  | b :: r, m => by simp [wordOf, wordOf_zeros r m]

theorem groups_pad (bs : List Int) (n : Nat) (h : (bs.length + n + 7) / 8 = (bs.length + 7) / 8) : groupsOf (bs ++ List.replicate n 0) = groupsOf bs := by
  unfold groupsOf
  rw [List.length_append, List.length_replicate, h]
  apply List.map_congr_left
  intro k hk
  have hk' : 8 * k < bs.length := by rw [List.mem_range] at hk; omega
  unfold group
  rw [List.drop_append_of_le_length (by omega), List.take_append, List.take_replicate, wordOf_zeros]

theorem pad_differs (bs : List Int) (n : Nat) (h : (bs.length + n + 7) / 8 = (bs.length + 7) / 8) (hl : bs.length + n ≤ 1000) : (bytesD (bs ++ List.replicate n 0) == bytesD bs) = decide (n = 0) := by
  unfold bytesD
  rw [groups_pad bs n h, List.length_append, List.length_replicate]
  by_cases hn : n = 0
  · subst hn; simp
  · have hne : ¬ stepI ((groupsOf bs).foldl stepI 422944466291) ((bs.length + n : Nat) : Int) = stepI ((groupsOf bs).foldl stepI 422944466291) bs.length := by
      intro e
      have := stepI_right' e (by omega) (by omega)
      omega
    rw [beq_false_of_ne hne, decide_eq_false hn]

theorem walk_long (a : Option Addr) (len cap : Nat) (k : Int) (hlen : 200 < len) (hmax : len ≤ 9223372036854775807) (w : World) :
    Calls Try.prog 6 #[.slice a len cap, .int .u8 k] w fun e w' => e = .returned (.bool true) ∧ Below w.heap.size w w' := by
  go_enter Try.func6, Try.ntmps6
  go_wp2_with (go_at_call 9; refine (examples_any _).mono ?_; rintro e w1 ⟨rfl, hb1⟩)
  go_ret
  exact ⟨rfl, hb1⟩

theorem Try.infoB : (Try.prog.info? 5).map (fun i => (i.zero, i.size, i.bytes)) = some (some (.int .u8 0), 1, 1) := by kernel_rfl

set_option maxRecDepth 100000 in
set_option maxHeartbeats 4000000 in
theorem walk_short (a : Option Addr) (len cap kk : Nat) (bs : List Int) (hlen : Hid (len = bs.length)) (hfit : len ≤ cap) (h200 : len ≤ 200) (hk : kk < 256) (hw : Octets bs) (w : World) (hR : ReadsK (fun b => b < w.heap.size) w .u8 (.slice a len cap) bs) :
    Calls Try.prog 6 #[.slice a len cap, .int .u8 kk] w fun e w' => e = .returned (.bool true) ∧ Below w.heap.size w w' := by
  obtain ⟨i0, hi, hz0, hz1, hz2⟩ := info_parts Try.infoB
  obtain ⟨rm, hrm⟩ : ∃ rm, rm = (8 - len % 8) % 8 := ⟨_, rfl⟩
  have hrm8 : rm < 8 := by omega
  have e6 : -((len : Int) % 8) % 8 = (rm : Int) := by omega
  obtain ⟨N, hN⟩ : ∃ N, N = kk % (rm + 1) := ⟨_, rfl⟩
  have hNr : N ≤ rm := by rw [hN]; have := Nat.mod_lt kk (show 0 < rm + 1 by omega); omega
  have e7 : (kk : Int) % ((rm : Int) + 1) = (N : Int) := by rw [hN]; rfl
  have HPD : Hid ((bytesD (bs ++ List.replicate N 0) == bytesD bs) = decide (N = 0)) := by
    have := hlen.out
    exact pad_differs bs N (by omega) (by omega)
  have HLZ : Hid (len + N = (bs ++ List.replicate N 0).length) := by have := hlen.out; show _ = _; rw [List.length_append, List.length_replicate]; omega
  have hwz : Octets (bs ++ List.replicate N 0) := fun x hx => by
    rcases List.mem_append.1 hx with h | h
    · exact hw x h
    · rw [List.eq_of_mem_replicate h]; omega
  have HMZ : Hid ((bs ++ List.replicate N 0).map (Value.int .u8) = bs.map (Value.int .u8) ++ List.replicate N (.int .u8 0)) := by show _ = _; rw [List.map_append, List.map_replicate]
  have HR := Lib.hid hR
  have hb := Below.refl w.heap.size w
  clear hrm hN hR
  have hT : ((bytesD (bs ++ List.replicate N 0) == bytesD bs) == ((N : Int) == 0)) = true := by
    rw [HPD.out]
    by_cases h : N = 0
    · subst h; rfl
    · have : ¬ (N : Int) = 0 := by omega
      rw [decide_eq_false h, beq_false_of_ne this]; rfl
  go_enter Try.func6, Try.ntmps6
  go_wp2_with (first
    | (go_at_call 9; refine (examples_any _).mono ?_; rintro e w1 ⟨rfl, hb1⟩; replace hb := hb.trans (hb1.mono hb.size); clear hb1)
    | (at_builtin; obtain ⟨g, cap1, w2, hr, hown1, hg1, hc1, hbg1⟩ := run_append_copy' _ w.heap.size 23 23 5 i0 _ 1 .u8 Try.underlying23 hi hz0 hz1 hz2 rfl _ 0 (World.ownsRow_made _ #[] 0 hb.size (by decide) rfl) (.slice a len cap) bs len hlen (HR.out.below (hb.alloc hb.size _)) (by unfold maxLen; omega) (by omega) (hb.alloc hb.size _).size; refine wpList_append_want _ rfl _ _ _ _ rfl _ _ rfl rfl _ _ hr ?_; replace hb := (hb.alloc hb.size (.cells #[] 5)).grown hg1 (hb.alloc hb.size _).size (fun k e => by cases e; exact hb.size); clear hr hg1)
    | (at_builtin; obtain ⟨g2, cap2, w3, hr2, hown2, hg2, hc2⟩ := run_append_zeros_own _ w.heap.size 23 3 23 5 i0 _ 1 .i64 .i64 Try.underlying23 Try.underlying3 hi hz0 hz1 hz2 rfl rfl g len cap1 _ hown1 N (by unfold maxLen; omega) (by omega) hb.size; refine Lib.wpList_append_run _ rfl _ _ _ _ rfl _ _ rfl rfl _ _ hr2 ?_; replace hb := hb.grown hg2 hb.size (fun k e => by cases e; exact hbg1); clear hr2 hg2)
    | (go_at_call 18; ((with_reducible refine (bytes_any _ (len + N) cap2 (bs ++ List.replicate N 0) HLZ.out (by rw [← HLZ.out]; omega) hc2 hwz w3 (row_reads HLZ.out (by rw [HMZ.out]; exact hown2))).mono ?_); rintro e w4 ⟨rfl, hb4⟩; replace hb := hb.trans (hb4.mono hb.size); clear hb4 hown2))
    | (go_at_call 18; ((with_reducible refine (bytes_any a len cap bs hlen.out (by rw [← hlen.out]; omega) hfit hw _ ((HR.out.below hb).mono (fun b _ h => Nat.lt_of_lt_of_le h hb.size))).mono ?_); rintro e w5 ⟨rfl, hb5⟩; replace hb := hb.trans (hb5.mono hb.size); clear hb5))
    | (go_at_call 18; ((with_reducible refine (bytes_any _ len cap1 bs hlen.out (by rw [← hlen.out]; omega) hc1 hw _ (row_reads hlen.out hown1)).mono ?_); rintro e w6 ⟨rfl, hb6⟩; replace hb := hb.trans (hb6.mono hb.size); clear hb6)))
  go_ret
  exact ⟨rfl, hb⟩

theorem walk (a : Option Addr) (len cap kk : Nat) (bs : List Int) (hlen : len = bs.length) (hfit : len ≤ cap) (hmax : len ≤ 9223372036854775807) (hk : kk < 256) (hw : Octets bs) (w : World) (hR : ReadsK (fun b => b < w.heap.size) w .u8 (.slice a len cap) bs) :
    Calls Try.prog 6 #[.slice a len cap, .int .u8 kk] w fun e w' => e = .returned (.bool true) ∧ Below w.heap.size w w' := by
  by_cases h : len ≤ 200
  · exact walk_short a len cap kk bs hlen hfit h hk hw w hR
  · exact walk_long a len cap kk (by omega) hmax w

theorem own : ownKnob Try.prog.godebug = none := by kernel_rfl
theorem laidOut : laidOutB Try.prog = true := by kernel_rfl
theorem cells : Try.prog.cellsOf 5 = 1 := by kernel_rfl

set_option maxRecDepth 100000 in
theorem lifted (os : Os) (started : os.Started) (H : Type) (enc : TypeId × Value → H) :
    ReturnsInHanded {} Try.checked os 6 .any (Rows.digestPadsSpec.pre6 enc Try.prog Try.f6 Rows.digestPadsRow.domain false) (Rows.digestPadsSpec.post enc Try.prog Try.f6 false true false false) := by
  refine returnsInHanded_of_change (C := Try.checked) own started (by kernel_rfl) Try.func6
    (ChangeSpec.witness6 (enc := enc) (C := Try.checked) false ⟨#[], #[.slice none 0 0, .int .u8 0], []⟩ 8 (by kernel_rfl) (by kernel_rfl) (by kernel_rfl) (by kernel_rfl)) ?_
  intro W base args ds gs before hval0 hW hcnd _
  have hval : ∀ (j : Nat) t v, Try.f6.params[j]? = some t → args[j]? = some v → Value.okWide Try.prog W .any base t v := hval0
  have hW' := hW
  obtain ⟨p, q, hA0, hV, rfl, hfz, hnd⟩ := hW
  have hA : DataW.TrodAll enc Try.prog W 0 (fun _ => true) true Try.f6.params.toList args.toList ds p := hA0
  rw [Try.params6] at hA hval
  obtain ⟨v0, v1, d0, d1, p0, p1, rfl, rfl, rfl, h0, h1⟩ := trodAll_two hA
  obtain ⟨rfl, rfl⟩ := trodVars_none hV
  obtain ⟨a, len, cap, bs, rfl, hlen, hfit, hmax, hR, hwf⟩ := open_reads Try.underlying23 Try.underlying5 cells (hval 0 23 v0 rfl rfl) h0
  obtain ⟨k, rfl, rfl, rfl, w1⟩ := open_int Try.underlying5 (hval 1 5 v1 rfl rfl) h1
  clear hA0 hval0
  simp only [List.append_nil] at hW'
  have hlt : ∀ x ∈ p0, x.block < W.heap.size := fun x hx => by simpa using hW'.lt x (by simpa using hx)
  have hw : Octets bs := fun x hx => by
    have := hwf x hx
    simp [Lit.wf, IntKind.min, IntKind.max, IntKind.signed, IntKind.bits] at this; omega
  have k1 : 0 ≤ k ∧ k < 256 := by simp [Lit.wf, IntKind.min, IntKind.max, IntKind.signed, IntKind.bits] at w1; omega
  obtain ⟨kk, rfl⟩ := Int.eq_ofNat_of_zero_le k1.1
  refine (walk a len cap kk bs hlen hfit hmax (by omega) hw W hR).mono fun e W' ⟨he, hg⟩ => ?_
  subst he
  exact ⟨_, rfl, ⟨_, _, _, [], p0 ++ [], [], hW', trodAll_mk1 (shut_bool Try.underlying4 _), trodAll_mk2 (Below.trod laidOut (by kernel_rfl) (of_decide_eq_true (by kernel_rfl)) h0 hg hlt) (shut_int Try.underlying5 w1), rfl, hg.frame _, fun h => by cases h⟩⟩

theorem over : Rows.digestPadsRow.holds Try.pinned (OpenSpec.ofChange Rows.digestPadsSpec) :=
  OpenClaim.holds_of_wide 6 Try.f6 rfl rfl rfl rfl rfl rfl rfl ⟨rfl, rfl, rfl, rfl, rfl⟩ rfl rfl rfl rfl rfl (by kernel_rfl) Try.func6 (by kernel_rfl)
    (of_decide_eq_true (by kernel_rfl)) (by unfold Func.isWrapper; first | (rw [if_pos (by decide +kernel)]; kernel_rfl) | (rw [if_neg (by decide +kernel)]; exact ⟨rfl, rfl⟩))
    (fun os started H enc _ => lifted os started H enc)

/-- The statement. -/
theorem proved : Rows.DigestPadsSaid := over
#print axioms proved

end Go.Proofs.Ytjlihkllgajkkaa.digestPads
