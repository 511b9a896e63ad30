/-
  Buckets: for all digests, numbers of buckets and factors, the law returns true and changes nothing. No condition.
-/
import Derived.Test.YtjlihkllgajkkaaRows
import Derived.Test.YtjlihkllgajkkaaDigEx
import Derived.OpenShut
import Derived.BigQuiet
import Derived.Deep.QuietTactic
import Derived.Deep.RegionHeld3
namespace Go.Proofs.Ytjlihkllgajkkaa.digestBuckets
open Go.ChangeShapes Go.WideShapes Go.ChangeAt Go.RowKit
open Go.Proofs.Ytjlihkllgajkkaa

/-- The number of buckets is out of range. -/
theorem walk_bad (d n k : Int) (hd : 0 ≤ d ∧ d < 18446744073709551616) (hbad : n < 1 ∨ 1000000 < n) (w : World) :
    Calls Try.prog 7 #[.int .u64 d, .int .i64 n, .int .u8 k] w fun e w' => e = .returned (.bool true) ∧ Below w.heap.size w w' := by
  have HB : Hid (∀ W, Calls Try.prog 20 #[.int .u64 d, .int .i64 n] W fun e w' => e = .returned (.agg #[.int .i64 0, .int .i64 1]) ∧ Below W.heap.size W w') := fun W => by
    have := lbucket_any d n hd W
    rwa [bucketN_bad hbad, bucketE_bad hbad] at this
  have hb := Below.refl w.heap.size w
  rcases hbad with h1 | h1
  all_goals
    go_enter Try.func7, Try.ntmps7
    go_wp2_with (first
      | (go_at_call 9; refine (examples_any _).mono ?_; rintro e w1 ⟨rfl, hb1⟩; replace hb := hb.trans (hb1.mono hb.size); clear hb1)
      | (go_at_call 20; refine (HB.out _).mono ?_; rintro e w2 ⟨rfl, hb2⟩; replace hb := hb.trans (hb2.mono hb.size); clear hb2))
    go_ret
    exact ⟨rfl, hb.alloc hb.size _⟩

theorem xor_low (d n : Int) (hd : 0 ≤ d ∧ d < 18446744073709551616) (hn : 1 ≤ n) (hn2 : n ≤ 1000000) : 0 ≤ bits BinOp.xor IntKind.u64 d n ∧ bits BinOp.xor IntKind.u64 d n < 18446744073709551616 ∧ bits BinOp.xor IntKind.u64 d n / 4294967296 = d / 4294967296 := by
  obtain ⟨a, rfl⟩ := Int.eq_ofNat_of_zero_le hd.1
  obtain ⟨b, rfl⟩ := Int.eq_ofNat_of_zero_le (show 0 ≤ n by omega)
  have ha : a < 18446744073709551616 := by omega
  have hb : b < 18446744073709551616 := by omega
  rw [bits_xor_u64_nat a b ha hb]
  have hx : a ^^^ b < 18446744073709551616 := Nat.xor_lt_two_pow (n := 64) ha hb
  have e : (a ^^^ b) / 2 ^ 32 = a / 2 ^ 32 := by
    rw [Nat.xor_div_two_pow, Nat.div_eq_of_lt (a := b) (by omega), Nat.xor_zero]
  have e2 : (2 : Nat) ^ 32 = 4294967296 := by decide
  rw [e2] at e
  refine ⟨by omega, by omega, by omega⟩

theorem bucket_mul (d n m : Int) : d / 4294967296 % (n * m) % n = d / 4294967296 % n := Int.emod_emod_of_dvd _ (Int.dvd_mul_right n m)

theorem below_on {n₀ : Nat} {A B C : World} (h : Below n₀ A B) (h' : Below B.heap.size B C) (hn : n₀ ≤ A.heap.size := by exact Nat.le_refl _) : Below n₀ A C := h.trans (h'.mono (Nat.le_trans hn h.size))

/-- The number of buckets is in range. -/
theorem walk_good (d n k : Int) (hd : 0 ≤ d ∧ d < 18446744073709551616) (h1 : 1 ≤ n) (h2 : n ≤ 1000000) (hk : 0 ≤ k ∧ k < 256) (w : World) :
    Calls Try.prog 7 #[.int .u64 d, .int .i64 n, .int .u8 k] w fun e w' => e = .returned (.bool true) ∧ Below w.heap.size w w' := by
  obtain ⟨v, hv⟩ : ∃ v, v = d / 4294967296 % n := ⟨_, rfl⟩
  have hv0 : 0 ≤ v := by rw [hv]; exact Int.emod_nonneg _ (by omega)
  have hv1 : v < n := by rw [hv]; exact Int.emod_lt_of_pos _ (by omega)
  have HB : Hid (∀ W, Calls Try.prog 20 #[.int .u64 d, .int .i64 n] W fun e w' => e = .returned (.agg #[.int .i64 v, .int .i64 0]) ∧ Below W.heap.size W w') := fun W => by
    have := lbucket_any d n hd W
    rwa [bucketN_good h1 h2, bucketE_good h1 h2, ← hv] at this
  have hx := xor_low d n hd h1 h2
  have HX : Hid (∀ W, Calls Try.prog 20 #[.int .u64 (bits BinOp.xor IntKind.u64 d (IntKind.u64.wrap n)), .int .i64 n] W fun e w' => e = .returned (.agg #[.int .i64 v, .int .i64 0]) ∧ Below W.heap.size W w') := fun W => by
    have := lbucket_any _ n ⟨hx.1, hx.2.1⟩ W
    rw [show IntKind.u64.wrap n = n by rw [IntKind.wrap_u64]; omega]
    rwa [bucketN_good h1 h2, bucketE_good h1 h2, hx.2.2, ← hv] at this
  have hk0 := hk.1
  have hk1 := hk.2
  have hb := Below.refl w.heap.size w
  have HV := Lib.hid hv
  have hnn : n * (1 + k) ≤ 256000000 := by
    have h3 : n * (1 + k) ≤ 1000000 * (1 + k) := Int.mul_le_mul_of_nonneg_right h2 (by omega)
    omega
  have hnp : 1 ≤ n * (1 + k) := by
    have h3 : 1 * (1 + k) ≤ n * (1 + k) := Int.mul_le_mul_of_nonneg_right h1 (by omega)
    omega
  have hnw : wrap64 (n * (1 + k)) = n * (1 + k) := IntWalk.wrap64_in _ (by omega)
  clear hv hx hk
  go_enter Try.func7, Try.ntmps7
  go_wp2_with (first
    | (go_at_call 9; refine (examples_any _).mono ?_; rintro e w1 ⟨rfl, hb1⟩; replace hb := hb.trans (hb1.mono hb.size); clear hb1)
    | (go_at_call 20; refine (HB.out _).mono ?_; rintro e w2 ⟨rfl, hb2⟩; replace hb := hb.trans (hb2.mono hb.size); clear hb2))
  have bA := World.alloc_heap_new w2 (.cells #[.int .i64 v, .int .i64 0] 34)
  have hbA := hb.alloc hb.size (.cells #[.int .i64 v, .int .i64 0] 34)
  have hsA : w2.heap.size < (w2.alloc (.cells #[.int .i64 v, .int .i64 0] 34)).heap.size := by simp
  generalize w2.alloc (.cells #[.int .i64 v, .int .i64 0] 34) = w3 at bA hbA hsA ⊢
  clear hb
  have hc0 : w3.cell? ⟨w2.heap.size, 0, none⟩ = some (.int .i64 v) := by unfold World.cell?; rw [bA]; rfl
  have hc1 : w3.cell? ⟨w2.heap.size, 1, none⟩ = some (.int .i64 0) := by unfold World.cell?; rw [bA]; rfl
  generalize w2.heap.size = B at bA hsA hc0 hc1 ⊢
  have d1 : decide (v < 0) = false := by simp; omega
  have d2 : decide (n ≤ v) = false := by simp; omega
  clear bA
  go_region_held3 (fun W => (W.cell? ⟨B, 0, none⟩ = some (.int .i64 v) ∧ W.cell? ⟨B, 1, none⟩ = some (.int .i64 0)) ∧ Below w.heap.size w W ∧ B < W.heap.size) (first
      | exact ⟨⟨hc0, hc1⟩, hbA.drew, hsA⟩ | exact ⟨hbA.drew, hsA⟩ | exact hbA.drew | assumption
      | exact ⟨⟨(hb4.cell (p := ⟨B, 0, none⟩) hsA).trans hc0, (hb4.cell (p := ⟨B, 1, none⟩) hsA).trans hc1⟩, hbA.drew.trans (hb4.mono hbA.size), Nat.lt_of_lt_of_le hsA hb4.size⟩
      | exact (hb4.cell (p := ⟨B, 0, none⟩) hsA).trans hc0 | exact (hb4.cell (p := ⟨B, 1, none⟩) hsA).trans hc1 | exact Nat.lt_of_lt_of_le hsA hb4.size | exact hbA.drew.trans (hb4.mono hbA.size))
    (first | (go_at_call 20; ((with_reducible refine (HX.out _).mono ?_); rintro e w4 ⟨rfl, hb4⟩)))
  rename_i hH
  obtain ⟨⟨hc40, hc41⟩, hb5, hs5⟩ := hH
  clear hb4 hc0 hc1 hbA d1 d2
  by_cases hbig : 1000000 < n * (1 + k)
  · have HM : Hid (∀ W, Calls Try.prog 20 #[.int .u64 d, .int .i64 (n * (1 + k))] W fun e w' => e = .returned (.agg #[.int .i64 0, .int .i64 1]) ∧ Below W.heap.size W w') := fun W => by
      have := lbucket_any d (n * (1 + k)) hd W
      rwa [bucketN_bad (.inr hbig), bucketE_bad (.inr hbig)] at this
    go_wp2_with (go_at_call 20; ((with_reducible refine (HM.out _).mono ?_); rintro e w6 ⟨rfl, hb6⟩; replace hb5 := hb5.trans (hb6.mono hb5.size); clear hb6))
    go_ret
    exact ⟨rfl, hb5.alloc hb5.size _⟩
  · obtain ⟨u, hu⟩ : ∃ u, u = d / 4294967296 % (n * (1 + k)) := ⟨_, rfl⟩
    have HM : Hid (∀ W, Calls Try.prog 20 #[.int .u64 d, .int .i64 (n * (1 + k))] W fun e w' => e = .returned (.agg #[.int .i64 u, .int .i64 0]) ∧ Below W.heap.size W w') := fun W => by
      have := lbucket_any d (n * (1 + k)) hd W
      rwa [bucketN_good hnp (by omega), bucketE_good hnp (by omega), ← hu] at this
    have hu0 : 0 ≤ u := by rw [hu]; exact Int.emod_nonneg _ (by omega)
    have hu1 : u < n * (1 + k) := by rw [hu]; exact Int.emod_lt_of_pos _ (by omega)
    have hun : u % n = v := by rw [hu, HV.out]; exact bucket_mul d n (1 + k)
    have hut : u.tmod n = v := by rw [Int.tmod_eq_emod_of_nonneg hu0]; exact hun
    have hle : n * (1 + k) ≤ 1000000 := by omega
    clear hu hbig
    have HUN := Lib.hid hun
    have HUT := Lib.hid hut
    clear hun hut
    go_wp2_with (go_at_call 20; ((with_reducible refine (HM.out _).mono ?_); rintro e w6 ⟨rfl, hb6⟩))
    have hb7 := (hb5.trans (hb6.mono hb5.size)).alloc (hb5.trans (hb6.mono hb5.size)).size (.cells #[.int .i64 u, .int .i64 0] 34)
    have bU := World.alloc_heap_new w6 (.cells #[.int .i64 u, .int .i64 0] 34)
    have hB0 : (w6.alloc (.cells #[.int .i64 u, .int .i64 0] 34)).cell? ⟨B, 0, none⟩ = some (.int .i64 v) := (World.grownBy_alloc w6 _ none).cell ((hb6.cell (p := ⟨B, 0, none⟩) hs5).trans hc40) (by simp)
    generalize w6.alloc (.cells #[.int .i64 u, .int .i64 0] 34) = w7 at hb7 bU hB0 ⊢
    generalize w6.heap.size = C at bU ⊢
    have hU0 : w7.cell? ⟨C, 0, none⟩ = some (.int .i64 u) := by unfold World.cell?; rw [bU]; rfl
    have hU1 : w7.cell? ⟨C, 1, none⟩ = some (.int .i64 0) := by unfold World.cell?; rw [bU]; rfl
    clear bU hc40 hc41 hb6 hb5
    have d3 : decide (0 ≤ u) = true := by simp; omega
    have d4 : (u.tmod n == v) = true := by rw [HUT.out]; simp
    have d5 : (u % n == v) = true := by rw [HUN.out]; simp
    have hn0 : ¬ n = 0 := by omega
    go_quiet (fail)
    go_wp2
    go_ret
    exact ⟨rfl, hb7.os, hb7.tape, hb7.output, hb7.size, hb7.block⟩

theorem walk (d n k : Int) (hd : 0 ≤ d ∧ d < 18446744073709551616) (hk : 0 ≤ k ∧ k < 256) (w : World) :
    Calls Try.prog 7 #[.int .u64 d, .int .i64 n, .int .u8 k] w fun e w' => e = .returned (.bool true) ∧ Below w.heap.size w w' := by
  by_cases h : n < 1 ∨ 1000000 < n
  · exact walk_bad d n k hd h w
  · exact walk_good d n k hd (by omega) (by omega) hk w

theorem own : ownKnob Try.prog.godebug = none := by kernel_rfl
theorem laidOut : laidOutB Try.prog = true := by kernel_rfl

set_option maxRecDepth 100000 in
theorem lifted (os : Os) (started : os.Started) (H : Type) (enc : TypeId × Value → H) :
    ReturnsInHanded {} Try.checked os 7 .any (Rows.digestBucketsSpec.pre6 enc Try.prog Try.f7 Rows.digestBucketsRow.domain false) (Rows.digestBucketsSpec.post enc Try.prog Try.f7 false true false false) := by
  refine returnsInHanded_of_change (C := Try.checked) own started (by kernel_rfl) Try.func7
    (ChangeSpec.witness6 (enc := enc) (C := Try.checked) false ⟨#[], #[.int .u64 0, .int .i64 0, .int .u8 0], []⟩ 8 (by kernel_rfl) (by kernel_rfl) (by kernel_rfl) (by kernel_rfl)) ?_
  intro W base args ds gs before hval0 hW hcnd _
  have hval : ∀ (j : Nat) t v, Try.f7.params[j]? = some t → args[j]? = some v → Value.okWide Try.prog W .any base t v := hval0
  have hW' := hW
  obtain ⟨p, q, hA0, hV, rfl, hfz, hnd⟩ := hW
  have hA : DataW.TrodAll enc Try.prog W 0 (fun _ => true) true Try.f7.params.toList args.toList ds p := hA0
  rw [Try.params7] at hA hval
  obtain ⟨v0, vs0, d0, ds0, p0, q0, hargs, rfl, rfl, h0, r0⟩ := trodAll_cons hA
  obtain ⟨v1, vs1, d1, ds1, p1, q1, rfl, rfl, rfl, h1, r1⟩ := trodAll_cons r0
  obtain ⟨v2, vs2, d2, ds2, p2, q2, rfl, rfl, rfl, h2, r2⟩ := trodAll_cons r1
  obtain ⟨rfl, rfl, rfl⟩ := trodAll_nil r2
  obtain rfl : args = #[v0, v1, v2] := by cases args; simp_all
  obtain ⟨rfl, rfl⟩ := trodVars_none hV
  obtain ⟨a0, rfl, rfl, rfl, w0⟩ := open_int Try.underlying24 (hval 0 24 v0 rfl rfl) h0
  obtain ⟨a1, rfl, rfl, rfl, w1⟩ := open_int Try.underlying3 (hval 1 3 v1 rfl rfl) h1
  obtain ⟨a2, rfl, rfl, rfl, w2⟩ := open_int Try.underlying5 (hval 2 5 v2 rfl rfl) h2
  clear hA0 hval0
  simp only [List.append_nil] at hW'
  have k0 : 0 ≤ a0 ∧ a0 < 18446744073709551616 := by simp [Lit.wf, IntKind.min, IntKind.max, IntKind.signed, IntKind.bits] at w0; omega
  have k2 : 0 ≤ a2 ∧ a2 < 256 := by simp [Lit.wf, IntKind.min, IntKind.max, IntKind.signed, IntKind.bits] at w2; omega
  refine (walk a0 a1 a2 k0 k2 W).mono fun e W' ⟨he, hg⟩ => ?_
  subst he
  exact ⟨_, rfl, ⟨_, _, _, [], [], [], hW', trodAll_mk1 (shut_bool Try.underlying4 _), trodAll_mk3 (shut_int Try.underlying24 w0) (shut_int Try.underlying3 w1) (shut_int Try.underlying5 w2), rfl, hg.frame _, fun h => by cases h⟩⟩

theorem over : Rows.digestBucketsRow.holds Try.pinned (OpenSpec.ofChange Rows.digestBucketsSpec) :=
  OpenClaim.holds_of_wide 7 Try.f7 rfl rfl rfl rfl rfl rfl rfl ⟨rfl, rfl, rfl, rfl, rfl⟩ rfl rfl rfl rfl rfl (by kernel_rfl) Try.func7 (by kernel_rfl)
    (of_decide_eq_true (by kernel_rfl)) (by unfold Func.isWrapper; first | (rw [if_pos (by decide +kernel)]; kernel_rfl) | (rw [if_neg (by decide +kernel)]; exact ⟨rfl, rfl⟩))
    (fun os started H enc _ => lifted os started H enc)

/-- The statement. -/
theorem proved : Rows.DigestBucketsSaid := over
#print axioms proved

end Go.Proofs.Ytjlihkllgajkkaa.digestBuckets
