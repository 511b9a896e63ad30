/-
  Truncates: for all numbers and scales, the law returns true and changes nothing.
-/
import Derived.Test.YtlleodcjenaliaaDoorDecEx2
import Derived.Test.YtlleodcjenaliaaDoorDecTrMath
import Derived.WalkLawsBesides
namespace Go.Proofs.YtlleodcjenaliaaDoor.decimalTruncates
open Go.RowKit Go.Shelf
open Go.Proofs.YtlleodcjenaliaaDoor

/-- Behind the loop: the numbers are what the mathematics says. -/
structure Facts (a b X Y Z : Int) (U : Nat) (fa : Bool) : Prop where
  p1 : 0 ≤ a → 0 ≤ X ∧ X ≤ a ∧ a - X < U
  p2 : a < 0 → X ≤ 0 ∧ a ≤ X ∧ X - a < U
  p3 : (X == a) = fa
  p4 : a ≤ b → X ≤ Y
  m1 : X.tmod (U : Int) = 0
  m2 : X % (U : Int) = 0
  u1 : 1 ≤ U
  u2 : U ≤ 1000000

theorem facts (a b : Int) (s t : Nat) : Facts a b (trN a (unitN s)) (trN b (unitN s)) (trN a (unitN (min s t))) (unitN s) (decide (a.tmod (unitN s : Int) = 0)) where
  p1 := (trN_near a _ (unitN_pos s)).1
  p2 := (trN_near a _ (unitN_pos s)).2
  p3 := by
    by_cases h : a.tmod (unitN s : Int) = 0
    · rw [decide_eq_true h, beq_iff_eq]; exact (trN_eq a _ (unitN_pos s)).2 h
    · rw [decide_eq_false h, beq_eq_false_iff_ne]; exact fun e => h ((trN_eq a _ (unitN_pos s)).1 e)
  p4 := trN_mono a b _ (unitN_pos s)
  m1 := trN_tmod _ _
  m2 := trN_emod _ _
  u1 := unitN_pos s
  u2 := unitN_le s

set_option maxRecDepth 100000 in
set_option maxHeartbeats 4000000 in
theorem walk (a b : Int) (k0 k1 : Nat) (ha : I64 a) (hb' : I64 b) (hk0 : k0 < 256) (hk1 : k1 < 256) (w : World) (hV : Vars w) :
    Calls Tryd.prog 7 #[.int .i64 a, .int .i64 b, .agg #[.int .u8 (k0 : Int), .int .u8 (k1 : Int)]] w fun e w' => e = .returned (.bool true) ∧ Below w.heap.size w w' := by
  obtain ⟨s, hs⟩ : ∃ s, s = k0 % 7 := ⟨_, rfl⟩
  obtain ⟨t, ht⟩ : ∃ t, t = k1 % 7 := ⟨_, rfl⟩
  have hs6 : s ≤ 6 := by omega
  have ht6 : t ≤ 6 := by omega
  have es : (k0 : Int) % 7 = (s : Int) := by omega
  have et : (k1 : Int) % 7 = (t : Int) := by omega
  have hb0 := (Below.refl w.heap.size w).alloc (Nat.le_refl _) (.cells #[.int .u8 (k0 : Int), .int .u8 (k1 : Int)] 35)
  have hblk : (w.alloc (.cells #[.int .u8 (k0 : Int), .int .u8 (k1 : Int)] 35)).heap[w.heap.size]? = some (.cells #[.int .u8 (k0 : Int), .int .u8 (k1 : Int)] 35 (0, 0)) := World.alloc_heap_new w _
  have hsz0 : w.heap.size < (w.alloc (.cells #[.int .u8 (k0 : Int), .int .u8 (k1 : Int)] 35)).heap.size := by simp
  have HBLK := Lib.hid hblk
  have HEX := Lib.hid (examples_any _ (hV.below hb0))
  have HV := Lib.hid (fun W (h : Below w.heap.size w W) => hV.below h)
  clear hs ht hblk hV
  go_enter Tryd.func7, Tryd.ntmps7
  go_upto_region 4 with (go_at_call 8; ((with_reducible refine HEX.out.mono ?_); rintro e w1 ⟨rfl, hb1⟩; have hb := hb0.trans (hb1.mono hb0.size); have HBLK1 := Lib.hid ((hb1.block _ hsz0).trans HBLK.out); have d0 := Joins.cell_of_block HBLK1.out 0; have d1 := Joins.cell_of_block HBLK1.out 1; simp only [List.getElem?_toArray, List.getElem?_cons_zero] at d0; simp only [List.getElem?_toArray, List.getElem?_cons_zero, List.getElem?_cons_succ] at d1))
  go_quiet (fail)
  go_wp2
  have hbW := below_drewN hb nq
  generalize w1.drewN nq = W at hbW ⊢
  clear hb d0 d1 HBLK HBLK1 hb1 hb0 hsz0 HEX es et hk0 hk1
  have F := facts a b s t
  have hXI : I64 (trN a (unitN s)) := by
    have h1 := ha.1
    have h2 := ha.2
    by_cases h : 0 ≤ a
    · have := F.p1 h; exact ⟨by omega, by omega⟩
    · have := F.p2 (by omega); exact ⟨by omega, by omega⟩
  have hsI : I64 (s : Int) := ⟨by omega, by omega⟩
  have htI : I64 (t : Int) := ⟨by omega, by omega⟩
  have HTA := Lib.hid (fun (W : World) (h : Vars W) => trunc_any a (s : Int) ha hsI W h)
  have HTB := Lib.hid (fun (W : World) (h : Vars W) => trunc_any b (s : Int) hb' hsI W h)
  have HTX := Lib.hid (fun (W : World) (h : Vars W) => trunc_any (trN a (unitN s)) (t : Int) hXI htI W h)
  have HTM := Lib.hid (fun (W : World) (h : Vars W) => trunc_any a ((min s t : Nat) : Int) ha ⟨by omega, by omega⟩ W h)
  rw [truncS_in _ _ hs6] at HTA HTB
  rw [truncS_in _ _ ht6, trN_twice a s t hs6 ht6] at HTX
  rw [truncS_in _ _ (by omega)] at HTM
  have HFX := Lib.hid (fun (W : World) (h : Vars W) => fits_any (trN a (unitN s)) (s : Int) hXI hsI W h)
  have HFA := Lib.hid (fun (W : World) (h : Vars W) => fits_any a (s : Int) ha hsI W h)
  rw [fitsB_in _ _ hs6, F.m1, show decide ((0 : Int) = 0) = true from rfl] at HFX
  rw [fitsB_in _ _ hs6] at HFA
  obtain ⟨U, hU⟩ : ∃ U, U = unitN s := ⟨_, rfl⟩
  rw [← hU] at F HTA HTB HTX HFX HFA
  have HU := Lib.hid hU
  clear hU hXI
  generalize trN a U = X at F HTA HTX HFX
  generalize trN b U = Y at F HTB
  generalize trN a (unitN (min s t)) = Z at F HTX HTM
  generalize decide (a.tmod (U : Int) = 0) = fa at F HFA
  have ha0 := ha.1
  have ha1 := ha.2
  have HF := Lib.hid F
  clear F
  go_loop [10, 11] (fun st i => ∃ k ST : Nat, s ≤ k ∧ k ≤ 6 ∧ i = .int .i64 (k : Int) ∧ st = .int .i64 (ST : Int) ∧ ST * unitN k = U) (fun _ i => 6 - (intOf i).toNat)
  case atStart => exact ⟨s, 1, Nat.le_refl _, hs6, rfl, rfl, by rw [HU.out, Nat.one_mul]⟩
  case round =>
    obtain ⟨k, ST, hsk, hk6, rfl, rfl, hST⟩ := hrel
    by_cases hlt : k < 6
    · have hST2 : ST * 10 * unitN (k + 1) = U := by rw [← hST, unitN_step k hlt, Nat.mul_assoc]
      have hle : ST ≤ 1000000 := by
        have h1 := unitN_pos k
        have h2 := HF.out.u2
        rw [← hST] at h2
        exact Nat.le_trans (Nat.le_mul_of_pos_right _ h1) h2
      have HS := Lib.hid hST2
      have HC := Lib.hid (show ((ST * 10 : Nat) : Int) = 10 * (ST : Int) by omega)
      clear hST hST2
      go_wp2
      go_round
      case rel => exact ⟨k + 1, ST * 10, by omega, by omega, by go_num, by rw [HC.out], HS.out⟩
      case measure => simp [intOf]; omega
    · obtain rfl : k = 6 := by omega
      obtain rfl : ST = U := by rw [← hST]; show ST = ST * 1; omega
      clear hST hsk hk6 HU hlt
      have F := HF.out
      have hU1 : (1 : Int) ≤ (ST : Int) := by have := F.u1; omega
      have hUn : ¬ ST = 0 := by have := F.u1; omega
      have hU2 : (ST : Int) ≤ 1000000 := by have := F.u2; omega
      have m1 := F.m1
      have m2 := F.m2
      have p3 := F.p3
      have hmin : (min (s : Int) (t : Int)) = ((min s t : Nat) : Int) := by omega
      by_cases h0 : 0 ≤ a
      · obtain ⟨x0, x1, x2⟩ := F.p1 h0
        have h0' : ¬ a < 0 := by omega
        by_cases hab : a ≤ b
        · have xy := F.p4 hab
          have hab' : ¬ b < a := by omega
          clear F
          cases fa
          all_goals
            go_wp2_with (first
              | (go_at_call 18; ((with_reducible refine (HTA.out _ (HV.out _ hbW)).mono ?_); rintro e w2 ⟨rfl, hb2⟩; replace hbW := hbW.trans (hb2.mono hbW.size); clear hb2))
              | (go_at_call 18; ((with_reducible refine (HTB.out _ (HV.out _ hbW)).mono ?_); rintro e w2 ⟨rfl, hb2⟩; replace hbW := hbW.trans (hb2.mono hbW.size); clear hb2))
              | (go_at_call 18; ((with_reducible refine (HTX.out _ (HV.out _ hbW)).mono ?_); rintro e w2 ⟨rfl, hb2⟩; replace hbW := hbW.trans (hb2.mono hbW.size); clear hb2))
              | (go_at_call 18; ((with_reducible refine (HTM.out _ (HV.out _ hbW)).mono ?_); rintro e w2 ⟨rfl, hb2⟩; replace hbW := hbW.trans (hb2.mono hbW.size); clear hb2))
              | (go_at_call 11; ((with_reducible refine (HFX.out _ (HV.out _ hbW)).mono ?_); rintro e w' ⟨rfl, rfl⟩))
              | (go_at_call 11; ((with_reducible refine (HFA.out _ (HV.out _ hbW)).mono ?_); rintro e w' ⟨rfl, rfl⟩)))
            go_ret
            exact ⟨rfl, hbW⟩
        · have hab' : b < a := by omega
          clear F
          cases fa
          all_goals
            go_wp2_with (first
              | (go_at_call 18; ((with_reducible refine (HTA.out _ (HV.out _ hbW)).mono ?_); rintro e w2 ⟨rfl, hb2⟩; replace hbW := hbW.trans (hb2.mono hbW.size); clear hb2))
              | (go_at_call 18; ((with_reducible refine (HTB.out _ (HV.out _ hbW)).mono ?_); rintro e w2 ⟨rfl, hb2⟩; replace hbW := hbW.trans (hb2.mono hbW.size); clear hb2))
              | (go_at_call 18; ((with_reducible refine (HTX.out _ (HV.out _ hbW)).mono ?_); rintro e w2 ⟨rfl, hb2⟩; replace hbW := hbW.trans (hb2.mono hbW.size); clear hb2))
              | (go_at_call 18; ((with_reducible refine (HTM.out _ (HV.out _ hbW)).mono ?_); rintro e w2 ⟨rfl, hb2⟩; replace hbW := hbW.trans (hb2.mono hbW.size); clear hb2))
              | (go_at_call 11; ((with_reducible refine (HFX.out _ (HV.out _ hbW)).mono ?_); rintro e w' ⟨rfl, rfl⟩))
              | (go_at_call 11; ((with_reducible refine (HFA.out _ (HV.out _ hbW)).mono ?_); rintro e w' ⟨rfl, rfl⟩)))
            go_ret
            exact ⟨rfl, hbW⟩
      · have h0' : a < 0 := by omega
        obtain ⟨x0, x1, x2⟩ := F.p2 h0'
        by_cases hab : a ≤ b
        · have xy := F.p4 hab
          have hab' : ¬ b < a := by omega
          clear F
          cases fa
          all_goals
            go_wp2_with (first
              | (go_at_call 18; ((with_reducible refine (HTA.out _ (HV.out _ hbW)).mono ?_); rintro e w2 ⟨rfl, hb2⟩; replace hbW := hbW.trans (hb2.mono hbW.size); clear hb2))
              | (go_at_call 18; ((with_reducible refine (HTB.out _ (HV.out _ hbW)).mono ?_); rintro e w2 ⟨rfl, hb2⟩; replace hbW := hbW.trans (hb2.mono hbW.size); clear hb2))
              | (go_at_call 18; ((with_reducible refine (HTX.out _ (HV.out _ hbW)).mono ?_); rintro e w2 ⟨rfl, hb2⟩; replace hbW := hbW.trans (hb2.mono hbW.size); clear hb2))
              | (go_at_call 18; ((with_reducible refine (HTM.out _ (HV.out _ hbW)).mono ?_); rintro e w2 ⟨rfl, hb2⟩; replace hbW := hbW.trans (hb2.mono hbW.size); clear hb2))
              | (go_at_call 11; ((with_reducible refine (HFX.out _ (HV.out _ hbW)).mono ?_); rintro e w' ⟨rfl, rfl⟩))
              | (go_at_call 11; ((with_reducible refine (HFA.out _ (HV.out _ hbW)).mono ?_); rintro e w' ⟨rfl, rfl⟩)))
            go_ret
            exact ⟨rfl, hbW⟩
        · have hab' : b < a := by omega
          clear F
          cases fa
          all_goals
            go_wp2_with (first
              | (go_at_call 18; ((with_reducible refine (HTA.out _ (HV.out _ hbW)).mono ?_); rintro e w2 ⟨rfl, hb2⟩; replace hbW := hbW.trans (hb2.mono hbW.size); clear hb2))
              | (go_at_call 18; ((with_reducible refine (HTB.out _ (HV.out _ hbW)).mono ?_); rintro e w2 ⟨rfl, hb2⟩; replace hbW := hbW.trans (hb2.mono hbW.size); clear hb2))
              | (go_at_call 18; ((with_reducible refine (HTX.out _ (HV.out _ hbW)).mono ?_); rintro e w2 ⟨rfl, hb2⟩; replace hbW := hbW.trans (hb2.mono hbW.size); clear hb2))
              | (go_at_call 18; ((with_reducible refine (HTM.out _ (HV.out _ hbW)).mono ?_); rintro e w2 ⟨rfl, hb2⟩; replace hbW := hbW.trans (hb2.mono hbW.size); clear hb2))
              | (go_at_call 11; ((with_reducible refine (HFX.out _ (HV.out _ hbW)).mono ?_); rintro e w' ⟨rfl, rfl⟩))
              | (go_at_call 11; ((with_reducible refine (HFA.out _ (HV.out _ hbW)).mono ?_); rintro e w' ⟨rfl, rfl⟩)))
            go_ret
            exact ⟨rfl, hbW⟩

end Go.Proofs.YtlleodcjenaliaaDoor.decimalTruncates
