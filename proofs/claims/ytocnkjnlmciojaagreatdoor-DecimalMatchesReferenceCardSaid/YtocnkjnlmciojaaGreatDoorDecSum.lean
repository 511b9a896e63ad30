/-
  The contract of Sum.
-/
import Derived.Test.YtocnkjnlmciojaaGreatDoorDecInts
import Derived.Laws.Externs
namespace Go.Proofs.YtocnkjnlmciojaaGreatDoor.De
open Go.RowKit Go.Shelf

theorem add64_run (x y : Nat) (hx : x < 18446744073709551616) (hy : y < 18446744073709551616) (w : World) :
    (callFunc 154 #[.int .u64 (x : Int), .int .u64 (y : Int), .int .u64 0]).run Tryz.prog w =
      .ok (.value (.tuple #[.int .u64 (((x + y) % 18446744073709551616 : Nat) : Int), .int .u64 (((x + y) / 18446744073709551616 : Nat) : Int)])) w := by
  rw [run_callFunc_extern Tryz.func154 (by kernel_rfl) (by kernel_rfl) (by kernel_rfl) (e := add64Entry) (by kernel_rfl), run_add64 x y 0 (by omega) (by omega) (by omega) (by omega)]
  simp only [Result.andThen]
  congr 5

/-- The parts of a total. -/
def hiOf (T : Int) : Int := T / 18446744073709551616
def loOf (T : Int) : Nat := (T % 18446744073709551616).toNat

/-- A total that is far from overflowing. -/
def Far (T : Int) : Prop := -20000000000000000000000000000000 ≤ T ∧ T ≤ 20000000000000000000000000000000

structure Plus (T n : Int) (lo' carry m : Nat) : Prop where
  p_conv : IntKind.u64.wrap n = (m : Int)
  p_lo : (loOf T + m) % 18446744073709551616 = lo'
  p_carry : (loOf T + m) / 18446744073709551616 = carry
  p_mlt : m < 18446744073709551616
  p_llt : loOf T < 18446744073709551616
  p_loxlt : lo' < 18446744073709551616
  p_clt : carry ≤ 1
  p_hi : hiOf (T + n) = hiOf T + n / 9223372036854775808 + (carry : Int)
  p_lo2 : loOf (T + n) = lo'
  p_hlo : -2000000000000 ≤ hiOf T
  p_hhi : hiOf T ≤ 2000000000000
  p_nlo : -1 ≤ n / 9223372036854775808
  p_nhi : n / 9223372036854775808 ≤ 0

theorem plus_math (T n : Int) (hT : Far T) (hn : I64 n) : ∃ lo' carry m, Plus T n lo' carry m := by
  obtain ⟨h0, h1⟩ := hT
  obtain ⟨h2, h3⟩ := hn
  refine ⟨(loOf T + (n % 18446744073709551616).toNat) % 18446744073709551616, (loOf T + (n % 18446744073709551616).toNat) / 18446744073709551616, (n % 18446744073709551616).toNat, ?_⟩
  have e1 : loOf T = (T % 18446744073709551616).toNat := rfl
  have e2 : hiOf T = T / 18446744073709551616 := rfl
  have e3 : hiOf (T + n) = (T + n) / 18446744073709551616 := rfl
  have e4 : loOf (T + n) = ((T + n) % 18446744073709551616).toNat := rfl
  refine ⟨?_, rfl, rfl, by omega, by omega, by omega, by omega, by omega, by omega, by omega, by omega, by omega, by omega⟩
  rw [IntKind.wrap_u64]; omega

set_option maxHeartbeats 1000000 in
theorem plus_any (T n : Int) (hT : Far T) (hn : I64 n) (w : World) :
    Calls Tryz.prog 128 #[.agg #[.int .i64 (hiOf T), .int .u64 (loOf T : Int)], .int .i64 n] w fun e w' => e = .returned (.agg #[.int .i64 (hiOf (T + n)), .int .u64 (loOf (T + n) : Int)]) ∧ Below w.heap.size w w' := by
  obtain ⟨lo', carry, m, P⟩ := plus_math T n hT hn
  have hr := add64_run (loOf T) m P.p_llt P.p_mlt
  rw [P.p_lo, P.p_carry] at hr
  have h1 := P.p_conv
  have h2 := P.p_hlo
  have h3 := P.p_hhi
  have h4 := P.p_nlo
  have h5 := P.p_nhi
  have h6 : (carry : Int) ≤ 1 := by have := P.p_clt; omega
  have HH := Lib.hid P.p_hi
  have HL := Lib.hid P.p_lo2
  clear P hT hn
  generalize loOf T = L at hr
  generalize hiOf T = Hh at h2 h3 HH
  generalize hiOf (T + n) = H2 at HH
  generalize loOf (T + n) = L2 at HL
  have hb := Below.refl w.heap.size w
  go_enter Tryz.func128, Tryz.ntmps128
  go_wp2
  exact bodyPost_ret (v := .agg #[.int .i64 (Hh + n / 9223372036854775808 + (carry : Int)), .int .u64 (lo' : Int)]) (by simp [results, Tryz.results128, go_sem]) rfl ⟨by rw [HH.out, HL.out], (hb.alloc hb.size _).alloc (by simp) _⟩

def i64B (T : Int) : Bool := decide (-9223372036854775808 ≤ T ∧ T ≤ 9223372036854775807)

structure Num (T : Int) (v : Int) : Prop where
  n_conv : IntKind.i64.wrap (loOf T : Int) = v
  n_conv2 : wrap64 (loOf T : Int) = v
  n_test : (hiOf T == v / 9223372036854775808) = i64B T
  n_val : i64B T = true → v = T
  n_rng : I64 v
  n_llt : loOf T < 18446744073709551616

theorem num_math (T : Int) (hT : Far T) : Num T (wrap64 T) := by
  obtain ⟨h0, h1⟩ := hT
  have e1 : loOf T = (T % 18446744073709551616).toNat := rfl
  have e2 : hiOf T = T / 18446744073709551616 := rfl
  have e3 : wrap64 T = (T + 9223372036854775808) % 18446744073709551616 - 9223372036854775808 := by unfold wrap64; omega
  refine ⟨by rw [wrap_i64]; omega, by unfold wrap64; omega, ?_, fun h => ?_, by unfold I64; omega, by omega⟩
  · unfold i64B
    by_cases h : -9223372036854775808 ≤ T ∧ T ≤ 9223372036854775807
    · rw [decide_eq_true h, beq_iff_eq]; omega
    · rw [decide_eq_false h, beq_eq_false_iff_ne]; omega
  · have := of_decide_eq_true h; omega

theorem number_any (T : Int) (hT : Far T) (w : World) :
    Calls Tryz.prog 129 #[.agg #[.int .i64 (hiOf T), .int .u64 (loOf T : Int)]] w fun e w' => e = .returned (.tuple #[.int .i64 (wrap64 T), .bool (i64B T)]) ∧ Below w.heap.size w w' := by
  have N := num_math T hT
  have h1 := N.n_conv
  have h2 := N.n_conv2
  have h3 := N.n_test
  clear N hT
  generalize wrap64 T = v at h1 h2 h3
  generalize i64B T = ok at h3
  generalize loOf T = L at h1 h2
  generalize hiOf T = H at h3
  have hb := (Below.refl w.heap.size w).alloc (Nat.le_refl _) (.cells #[.int .i64 H, .int .u64 (L : Int)] 125)
  go_enter Tryz.func129, Tryz.ntmps129
  go_wp2
  go_quiet (fail)
  go_wp2
  go_ret2
  exact ⟨rfl, below_drewN hb _⟩

theorem sumOf_step (zs : List Int) (k : Nat) (h : k < zs.length) : sumOf (zs.take (k + 1)) = sumOf (zs.take k) + zs[k]?.getD 0 := by
  unfold sumOf
  rw [List.take_add_one, List.getElem?_eq_getElem h, Option.toList_some, List.foldl_append]
  rfl

theorem all_step (zs : List Int) (k : Nat) (h : k < zs.length) (ha : (zs.take k).all smallB = true) (hx : smallB (zs[k]?.getD 0) = true) : (zs.take (k + 1)).all smallB = true := by
  rw [List.take_add_one, List.getElem?_eq_getElem h, Option.toList_some, List.all_append, ha]
  rw [List.getElem?_eq_getElem h] at hx
  simpa using hx

theorem all_bad (zs : List Int) (k : Nat) (h : k < zs.length) (hx : smallB (zs[k]?.getD 0) = false) : zs.all smallB = false := by
  rw [List.all_eq_false]
  rw [List.getElem?_eq_getElem h] at hx
  exact ⟨zs[k], List.getElem_mem h, by simpa using hx⟩

theorem fold_far : ∀ (zs : List Int) (a : Int), zs.all smallB = true → -4000000000000000000 * (zs.length : Int) ≤ zs.foldl (· + ·) a - a ∧ zs.foldl (· + ·) a - a ≤ 4000000000000000000 * (zs.length : Int)
  | [], a, _ => by simp
  | x :: r, a, h => by
    rw [List.all_cons, Bool.and_eq_true] at h
    have ih := fold_far r (a + x) h.2
    have hx := of_decide_eq_true h.1
    rw [List.foldl_cons, List.length_cons]
    omega

theorem far_of (zs : List Int) (h : zs.all smallB = true) (hl : zs.length ≤ 1000000) : Far (sumOf zs) := by
  have := fold_far zs 0 h
  unfold Far sumOf
  omega

set_option maxHeartbeats 2000000 in
theorem sum_some (b off len cap : Nat) (zs : List Int) (hlen : Hid (len = zs.length)) (hl : len ≤ 1000000) (hz : ∀ z ∈ zs, I64 z) (w : World) (hbw : b < w.heap.size)
    (hc : ∀ j, j < len → w.cell? ⟨b, off + j, none⟩ = some (.int .i64 (zs[j]?.getD 0))) :
    Calls Tryz.prog 79 #[.slice (some ⟨b, off, none⟩) len cap] w fun e w' => e = .returned (.tuple #[.int .i64 (sumS zs).1, .int .i64 (sumS zs).2]) ∧ Below w.heap.size w w' := by
  obtain ⟨res, hres⟩ : ∃ res, res = sumS zs := ⟨_, rfl⟩
  rw [← hres]
  have HRES := Lib.hid hres
  clear hres
  have hb0 := (Below.refl w.heap.size w).alloc (Nat.le_refl _) (.cells #[.int .i64 0, .int .u64 0] 125)
  have hblk0 : (w.alloc (.cells #[.int .i64 0, .int .u64 0] 125)).heap[w.heap.size]? = some (.cells #[.int .i64 0, .int .u64 0] 125 (0, 0)) := World.alloc_heap_new w _
  have HC := Lib.hid hc
  have HZ := Lib.hid hz
  clear hc hz
  go_enter Tryz.func79, Tryz.ntmps79
  go_wp2
  go_loopw [11] (fun i wr => ∃ k : Nat, k ≤ len ∧ i = .int .i64 k ∧ (zs.take k).all smallB = true ∧ Below w.heap.size w wr ∧ w.heap.size < wr.heap.size ∧ wr.heap[w.heap.size]? = some (.cells #[.int .i64 (hiOf (sumOf (zs.take k))), .int .u64 (loOf (sumOf (zs.take k)) : Int)] 125 (0, 0))) (fun i _ => len - (intOf i).toNat)
  case atStart => exact ⟨0, Nat.zero_le _, rfl, rfl, hb0, by simp, hblk0⟩
  case round =>
    obtain ⟨k, hk, rfl, hall, hb, hsz, hblk⟩ := hrel
    clear hb0 hblk0
    have hfar := far_of (zs.take k) hall (by have := List.length_take_le k zs; omega)
    have c0 := Joins.cell_of_block hblk 0
    have c1 := Joins.cell_of_block hblk 1
    have f0 := Joins.unfrozen_of_block hblk 0
    have f1 := Joins.unfrozen_of_block hblk 1
    simp only [List.getElem?_toArray, List.getElem?_cons_zero, List.getElem?_cons_succ] at c0 c1
    have HALL := Lib.hid hall
    have HBLK := Lib.hid hblk
    clear hall hblk
    by_cases hlt : k < len
    · have hx := (hb.cell (p := ⟨b, off + k, none⟩) hbw).trans (HC.out k hlt)
      have hkl : k < zs.length := by rw [← hlen.out]; exact hlt
      obtain ⟨x, hxe⟩ : ∃ x, x = zs[k]?.getD 0 := ⟨_, rfl⟩
      have hxI : I64 x := by rw [hxe, List.getElem?_eq_getElem hkl]; exact HZ.out _ (List.getElem_mem hkl)
      rw [← hxe] at hx
      have HW := Lib.hid (within_any x 4000000000000000000 hxI ⟨by decide, by decide⟩)
      rw [show withinB x 4000000000000000000 = smallB x from rfl] at HW
      have hk1 : (off : Int) + (k : Int) = ((off + k : Nat) : Int) := by omega
      cases hs : smallB x
      · have HE := Lib.hid (show res = (0, 2) by
          rw [HRES.out]
          unfold sumS
          rw [all_bad zs k hkl (by rw [← hxe]; exact hs)]
          rfl)
        rw [hs] at HW
        clear hxe hkl hk1
        go_wp2_with (go_at_call 65; ((with_reducible refine (HW.out _).mono ?_); rintro e w' ⟨rfl, rfl⟩))
        go_ret2
        exact ⟨by rw [HE.out]; rfl, hb⟩
      · have hst := sumOf_step zs k hkl
        rw [← hxe] at hst
        have HALL2 := Lib.hid (all_step zs k hkl HALL.out (by rw [← hxe]; exact hs))
        have HP := Lib.hid (plus_any _ x hfar hxI)
        rw [← hst] at HP
        have hfar2 := far_of (zs.take (k + 1)) HALL2.out (by have := List.length_take_le (k + 1) zs; omega)
        rw [hs] at HW
        clear hxe hkl hk1 hst hfar hfar2
        generalize hiOf (sumOf (zs.take k)) = H at c0 HP HBLK
        generalize loOf (sumOf (zs.take k)) = L at c1 HP HBLK
        go_wp2_with (first
          | (go_at_call 65; ((with_reducible refine (HW.out _).mono ?_); rintro e w' ⟨rfl, rfl⟩))
          | (go_at_call 128; ((with_reducible refine (HP.out _).mono ?_); rintro e w1 ⟨rfl, hb1⟩; have HBLK1 := Lib.hid ((hb1.block _ hsz).trans HBLK.out); have d0 := Joins.cell_of_block HBLK1.out 0; have d1 := Joins.cell_of_block HBLK1.out 1; have g0 := Joins.unfrozen_of_block HBLK1.out 0; have g1 := Joins.unfrozen_of_block HBLK1.out 1; simp only [List.getElem?_toArray, List.getElem?_cons_zero] at d0; simp only [List.getElem?_toArray, List.getElem?_cons_zero, List.getElem?_cons_succ] at d1)))
        go_roundw
        case rel =>
          refine ⟨k + 1, by omega, by go_num, HALL2.out, ?_, ?_, ?_⟩
          · exact ((hb.trans (hb1.mono hb.size)).setCell (Nat.le_refl _) _).setCell (Nat.le_refl _) _
          · exact Nat.lt_of_lt_of_le hsz (by simpa using hb1.size)
          · exact Joins.block_setCell (Joins.block_setCell HBLK1.out _) _
        case measure => simp [intOf]; omega
    · obtain rfl : k = len := by omega
      have hT : zs.take k = zs := by rw [hlen.out, List.take_length]
      rw [hT] at HALL HBLK hfar c0 c1
      have HN := Lib.hid (number_any _ hfar)
      have N := num_math _ hfar
      have HNV := Lib.hid N.n_val
      have HW := Lib.hid (within_any _ 4000000000000000000 N.n_rng ⟨by decide, by decide⟩)
      rw [show ∀ v, withinB v 4000000000000000000 = smallB v from fun _ => rfl] at HW
      clear N
      have HS := Lib.hid (show res = if smallB (sumOf zs) then (sumOf zs, 0) else (0, 2) by rw [HRES.out]; unfold sumS; rw [HALL.out]; rfl)
      cases hi : i64B (sumOf zs)
      · have HE := Lib.hid (show res = (0, 2) by
          rw [HS.out, show smallB (sumOf zs) = false from decide_eq_false (by have := of_decide_eq_false hi; omega)]
          rfl)
        rw [hi] at HN
        clear hT hfar
        generalize hiOf (sumOf zs) = H at c0 HN
        generalize loOf (sumOf zs) = L at c1 HN
        generalize wrap64 (sumOf zs) = v at HN
        go_wp2_with (go_at_call 129; ((with_reducible refine (HN.out _).mono ?_); rintro e w1 ⟨rfl, hb1⟩))
        go_ret2
        exact ⟨by rw [HE.out]; rfl, hb.trans (hb1.mono hb.size)⟩
      · rw [HNV.out hi] at HN HW
        rw [hi] at HN
        cases hs : smallB (sumOf zs)
        all_goals
          rw [hs] at HW HS
          clear hT hfar hs
          generalize hiOf (sumOf zs) = H at c0 HN
          generalize loOf (sumOf zs) = L at c1 HN
          generalize sumOf zs = v at HN HW HS
          go_wp2_with (first
            | (go_at_call 129; ((with_reducible refine (HN.out _).mono ?_); rintro e w1 ⟨rfl, hb1⟩))
            | (go_at_call 65; ((with_reducible refine (HW.out _).mono ?_); rintro e w' ⟨rfl, rfl⟩)))
          go_ret2
          exact ⟨by rw [HS.out]; rfl, hb.trans (hb1.mono hb.size)⟩

theorem sum_empty (a : Option Addr) (cap : Nat) (w : World) :
    Calls Tryz.prog 79 #[.slice a 0 cap] w fun e w' => e = .returned (.tuple #[.int .i64 0, .int .i64 0]) ∧ Below w.heap.size w w' := by
  have hb0 := (Below.refl w.heap.size w).alloc (Nat.le_refl _) (.cells #[.int .i64 0, .int .u64 0] 125)
  have HN := Lib.hid (number_any 0 ⟨by omega, by omega⟩)
  rw [show hiOf 0 = 0 from rfl, show loOf 0 = 0 from rfl, show ((0 : Nat) : Int) = 0 from rfl, show wrap64 0 = 0 by unfold wrap64; decide, show i64B 0 = true from rfl] at HN
  have HW := Lib.hid (within_any 0 4000000000000000000 ⟨by decide, by decide⟩ ⟨by decide, by decide⟩)
  rw [show withinB 0 4000000000000000000 = true from rfl] at HW
  go_enter Tryz.func79, Tryz.ntmps79
  go_wp2
  go_loopw [11] (fun i wr => i = .int .i64 0 ∧ wr = w.alloc (.cells #[.int .i64 0, .int .u64 0] 125)) (fun _ _ => 0)
  case atStart => exact ⟨rfl, rfl⟩
  case round =>
    obtain ⟨rfl, rfl⟩ := hrel
    go_wp2_with (first
      | (go_at_call 129; ((with_reducible refine (HN.out _).mono ?_); rintro e w1 ⟨rfl, hb1⟩))
      | (go_at_call 65; ((with_reducible refine (HW.out _).mono ?_); rintro e w' ⟨rfl, rfl⟩)))
    go_ret2
    exact ⟨rfl, hb0.trans (hb1.mono hb0.size)⟩

theorem sum_any (sv : Value) (zs : List Int) (hl : zs.length ≤ 1000000) (hz : ∀ z ∈ zs, I64 z) (w : World) (hR : ReadsK (fun b => b < w.heap.size) w .i64 sv zs) :
    Calls Tryz.prog 79 #[sv] w fun e w' => e = .returned (.tuple #[.int .i64 (sumS zs).1, .int .i64 (sumS zs).2]) ∧ Below w.heap.size w w' := by
  rcases hR with ⟨a, cap, rfl, rfl⟩ | ⟨b, off, cap, rfl, _, hlt, hc⟩
  · exact sum_empty a cap w
  · exact sum_some b off _ cap zs rfl hl hz w hlt hc

end Go.Proofs.YtocnkjnlmciojaaGreatDoor.De
