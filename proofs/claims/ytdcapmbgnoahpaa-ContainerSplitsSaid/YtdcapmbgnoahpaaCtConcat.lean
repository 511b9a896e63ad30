/-
  Byte sequences, one behind the other, in new memory: slices.Concat of any number of them.
-/
import Derived.Test.YtdcapmbgnoahpaaByRow
import Derived.Lib.AppendZeros
namespace Go.Proofs.Ytdcapmbgnoahpaa
open Go Go.RowKit Go.Shelf Go.ChangeShapes Go.WideShapes Go.ChangeAt

set_option maxRecDepth 100000 in
set_option maxHeartbeats 2000000 in
theorem growP_nil (n : Nat) (h0 : 0 < n) (hn : n ≤ 140737488355328) (w : World) : Calls Try.prog 99 #[.slice none 0 0, .int .i64 n] w fun e w' =>
    ∃ cap, e = .returned (.slice (some ⟨w.heap.size, 0, none⟩) 0 cap) ∧ cap ≤ 9223372036854775807 ∧ w'.ownsRow w.heap.size 5 1 (.slice (some ⟨w.heap.size, 0, none⟩) 0 cap) 0 [] ∧ Below w.heap.size w w' := by
  obtain ⟨i0, hi, hz0, hz1, hz2⟩ := info_parts Try.infoB
  have hr := Lib.run_append_nil_zeros (P := Try.prog) w 22 3 22 5 i0 (.int .u8 0) .i64 .i64 Try.underlying22 Try.underlying3 hi hz0 n h0 (by omega) (by omega) (by rw [hz2]; omega)
  have hge := grownCap_ge w n 0 5
  have hle := grownCap_le_maxLen w n 0 5 (by unfold maxLen; omega)
  generalize grownCap w n 0 5 = cap at *
  have hcm : cap ≤ 9223372036854775807 := by unfold maxLen at hle; omega
  have HO : Hid (World.ownsRow (w.drew.alloc (.cells (Builtin.zeroCells (Value.int .u8 0).cells n ++ Builtin.zeroCells (Value.int .u8 0).cells (cap - n)) 5)) w.heap.size 5 1 (.slice (some ⟨w.heap.size, 0, none⟩) 0 cap) 0 []) :=
    ⟨rfl, .inr ⟨w.heap.size, cap, _, rfl, Nat.le_refl _, World.alloc_heap_new w.drew _, Nat.zero_le _, hle, by simp [Builtin.zeroCells, Value.cells]; omega, rfl⟩⟩
  have HB : Hid (Below w.heap.size w (w.drew.alloc (.cells (Builtin.zeroCells (Value.int .u8 0).cells n ++ Builtin.zeroCells (Value.int .u8 0).cells (cap - n)) 5))) := (below_drewN (Below.self w) 1).alloc (Nat.le_refl _) _
  generalize w.drew.alloc (.cells (Builtin.zeroCells (Value.int .u8 0).cells n ++ Builtin.zeroCells (Value.int .u8 0).cells (cap - n)) 5) = V at *
  have HR := Lib.hid hr
  clear hr
  go_enter Try.func99, Try.ntmps99
  go_wp2_with (at_builtin; refine wpList_append_want (o := ⟨some 22, _, _, _, _, _⟩) _ rfl _ _ _ _ rfl _ _ rfl rfl _ _ HR.out ?_)
  go_ret
  exact ⟨cap, rfl, hcm, HO.out, HB.out⟩

/-- A byte sequence, as it lies in memory. -/
structure SlP where
  a : Option Addr
  n : Nat
  c : Nat
  zs : List Int
def lenP (ps : List SlP) : Nat := (ps.map fun p => p.zs.length).sum
def catP (ps : List SlP) : List Int := ps.flatMap fun p => p.zs
def RowsP (w : World) (S : Nat) (ps : List SlP) : Prop := S < w.heap.size ∧ ∀ (j : Nat) (h : j < ps.length), w.cell? ⟨S, j, none⟩ = some (.slice ps[j].a ps[j].n ps[j].c) ∧ Rd (fun _ => True) w .u8 ps[j].a ps[j].n ps[j].c ps[j].zs
theorem RowsP.below {w V : World} {S : Nat} {ps : List SlP} (h : RowsP w S ps) (hb : Below w.heap.size w V) : RowsP V S ps :=
  ⟨Nat.lt_of_lt_of_le h.1 hb.size, fun j hj => ⟨(hb.cell (p := ⟨S, j, none⟩) h.1).trans (h.2 j hj).1, (h.2 j hj).2.below hb⟩⟩
theorem len_cat (ps : List SlP) : (catP ps).length = lenP ps := by unfold catP lenP; rw [List.length_flatMap]
theorem lenP_succ (ps : List SlP) (m : Nat) (h : m < ps.length) : lenP (ps.take (m + 1)) = lenP (ps.take m) + ps[m].zs.length := by
  unfold lenP; rw [List.take_succ_eq_append_getElem h, List.map_append, List.sum_append, List.map_cons, List.map_nil, List.sum_cons, List.sum_nil, Nat.add_zero]
theorem catP_succ (ps : List SlP) (m : Nat) (h : m < ps.length) : catP (ps.take (m + 1)) = catP (ps.take m) ++ ps[m].zs := by
  unfold catP; rw [List.take_succ_eq_append_getElem h, List.flatMap_append, List.flatMap_cons, List.flatMap_nil, List.append_nil]
theorem lenP_le (ps : List SlP) (m : Nat) : lenP (ps.take m) ≤ lenP ps := by
  have : lenP ps = lenP (ps.take m) + lenP (ps.drop m) := by unfold lenP; rw [← List.sum_append, ← List.map_append, List.take_append_drop]
  omega

set_option maxRecDepth 100000 in
set_option maxHeartbeats 2000000 in
theorem concatP_any {ps : List SlP} {S k : Nat} {w : World} (hk : ps.length = k) (hk2 : k ≤ 1000) (hS : RowsP w S ps) (h0 : 0 < lenP ps) (hl : lenP ps ≤ 140737488340000) :
    Calls Try.prog 71 #[.slice (some ⟨S, 0, none⟩) k k] w fun e w' => Makes w e w' (catP ps) := by
  obtain ⟨i0, hi, hz0, hz1, hz2⟩ := info_parts Try.infoB
  have HS := Lib.hid hS
  have HKL := Lib.hid hk
  have HL := Lib.hid hl
  have H0 := Lib.hid h0
  clear hS hk hl h0
  go_enter Try.func71, Try.ntmps71
  go_wp2
  go_loop [3, 11] (fun sz j => ∃ m s : Nat, m ≤ k ∧ j = .int .i64 m ∧ sz = .int .i64 (s : Int) ∧ Hid (s = lenP (ps.take m)) ∧ s ≤ 140737488340000) (fun _ j => k - (intOf j).toNat)
  case atStart => exact ⟨0, 0, Nat.zero_le _, rfl, rfl, rfl, by decide⟩
  case round =>
    obtain ⟨m, s, hm, rfl, rfl, HSM, hsl⟩ := hrel
    by_cases hlt : m < k
    · have hmp : m < ps.length := by rw [HKL.out]; exact hlt
      obtain ⟨cm, rm⟩ := HS.out.2 m hmp
      have hln := rm.hl
      have hsc := lenP_succ ps m hmp
      have hle := lenP_le ps (m + 1)
      have HL2 := HL.out
      rw [← HSM.out] at hsc
      generalize ps[m].zs.length = z at *
      generalize ps[m].a = am at *
      generalize ps[m].n = nm at *
      generalize ps[m].c = cpm at *
      subst hln
      have hsum : s + nm ≤ 140737488340000 := by omega
      have HNX : Hid (s + nm = lenP (ps.take (m + 1))) := hsc.symm
      clear hsc hle HL2 rm hmp
      go_wp2
      go_round
      case rel => exact ⟨m + 1, s + nm, by omega, by go_num, by go_num, HNX, hsum⟩
      case measure => simp [intOf]; omega
    · obtain rfl : m = k := by omega
      have hs : s = lenP ps := by rw [HSM.out, ← HKL.out, List.take_length]
      have hs0 : 0 < s := by rw [hs]; exact H0.out
      have HSS := Lib.hid hs
      clear hs
      go_wp2_with fail
      refine (growP_nil s hs0 (by omega) w).mono ?_
      rintro e w1 ⟨cap, rfl, hcm, hrow, hb⟩
      have HB := Lib.hid hb
      have HRW := Lib.hid hrow
      have HSV := Lib.hid (HS.out.below hb)
      clear hb hrow
      go_wp2
      go_loopw [6, 27] (fun v j wr => ∃ i q : Nat, i ≤ m ∧ j = .int .i64 i ∧ ∃ g c : Nat, v = .slice (some ⟨g, 0, none⟩) q c ∧ Hid (q = (catP (ps.take i)).length) ∧ Hid (wr.ownsRow w.heap.size 5 1 (.slice (some ⟨g, 0, none⟩) q c) q ((catP (ps.take i)).map (Value.int .u8))) ∧ Hid (Below w.heap.size w wr) ∧ q ≤ c) (fun _ j _ => m - (intOf j).toNat)
      case atStart => exact ⟨0, 0, Nat.zero_le _, rfl, w.heap.size, cap, rfl, rfl, HRW.out, HB.out, Nat.zero_le _⟩
      case round =>
        obtain ⟨i, q, hi', rfl, g, c, rfl, HQ, HX, HBR, hqc⟩ := hrel
        have HSR := Lib.hid (HS.out.below HBR.out)
        by_cases hlt : i < m
        · have hmp : i < ps.length := by rw [HKL.out]; exact hlt
          obtain ⟨cm, rm⟩ := HSR.out.2 i hmp
          have hln := rm.hl
          have hcs := catP_succ ps i hmp
          have hle := lenP_le ps (i + 1)
          rw [← len_cat, hcs, List.length_append, ← HQ.out, ← hln, ← HSS.out] at hle
          generalize ps[i].zs = zs at *
          generalize ps[i].a = am at *
          generalize ps[i].n = nm at *
          generalize ps[i].c = cpm at *
          obtain ⟨g2, cp2, wX, hr, hX', hbX, hcX⟩ := run_append_rd wr w.heap.size 22 22 5 i0 _ 1 .u8 Try.underlying22 hi hz0 hz1 hz2 rfl g q c (catP (ps.take i)) HX.out am nm cpm zs rm (by unfold maxLen; omega) (by omega) HBR.out.size
          have HR := Lib.hid hr
          have HX2 := Lib.hid hX'
          have HB2 : Hid (Below w.heap.size w wX) := HBR.out.trans hbX
          have HQ2 : Hid (q + nm = (catP (ps.take (i + 1))).length) := by show _ = _; rw [hcs, List.length_append, ← HQ.out, hln]
          rw [← hcs] at HX2
          clear hr hX' hbX rm hcs hle hln hmp
          go_wp2_with (at_builtin; refine wpList_append_want (o := ⟨some 33, _, _, _, _, _⟩) _ rfl _ _ _ _ rfl _ _ rfl rfl _ _ HR.out ?_)
          go_roundw
          case rel => exact ⟨i + 1, q + nm, by omega, by go_num, g2, cp2, rfl, HQ2, HX2, HB2, hcX⟩
          case measure => simp [intOf]; omega
        · obtain rfl : i = m := by omega
          have hall : ps.take i = ps := by rw [← HKL.out, List.take_length]
          rw [hall] at HQ HX
          have hqe := HQ.out
          go_wp2
          go_ret
          exact ⟨g, c, by rw [← hqe]; rfl, by rw [← hqe]; exact hqc, by rw [← hqe]; exact HX.out, HBR.out⟩

end Go.Proofs.Ytdcapmbgnoahpaa
