/-
  The list with given runs.
-/
import Derived.Test.YtmbcppkdnoccbaaRnAre
import Derived.Test.YtmbcppkdnoccbaaRnRuns
namespace Go.Proofs.Ytmbcppkdnoccbaa
open Go.RowKit Go.Shelf Go.ChangeShapes Go.WideShapes Go.ChangeAt

theorem ex_take_succ (ps : List (Int × Nat)) (k : Nat) (h : k < ps.length) : ex (ps.take (k + 1)) = ex (ps.take k) ++ List.replicate (ps[k]'h).2 (ps[k]'h).1 := by
  unfold ex
  rw [List.take_succ_eq_append_getElem h, List.flatMap_append]
  simp
theorem ex_take_le (ps : List (Int × Nat)) (k : Nat) : (ex (ps.take k)).length ≤ (ex ps).length := by
  have h : ex ps = ex (ps.take k) ++ ex (ps.drop k) := by
    unfold ex; rw [← List.flatMap_append, List.take_append_drop]
  rw [h, List.length_append]; omega
theorem pz_at {vs ns : List Int} (hl : vs.length = ns.length) (k : Nat) (hk : k < vs.length) : ∃ h : k < (pz vs ns).length, (pz vs ns)[k]'h = (vs[k]?.getD 0, (ns[k]?.getD 0).toNat) := by
  refine List.getElem?_eq_some_iff.1 ?_
  unfold pz
  rw [List.getElem?_zip_eq_some]
  exact ⟨by rw [List.getElem?_eq_getElem hk]; rfl, by rw [List.getElem?_map, List.getElem?_eq_getElem (by omega)]; rfl⟩

/-- What expanding comes to. -/
def ExPost (w : World) (vs ns : List Int) (e : Ending) (W' : World) : Prop :=
  ∃ a n c, e = .returned (.tuple #[.slice a n c, .int .i64 (xpS vs ns).2]) ∧ Rd (fun b => w.heap.size ≤ b) W' .i64 a n c (xpS vs ns).1 ∧ Below w.heap.size w W'

theorem ExPost.bad {w W' : World} {vs ns : List Int} {e : Ending} {x : Int} (h : xpS vs ns = ([], x)) (he : e = .returned (.tuple #[.slice none 0 0, .int .i64 x])) (hb : Below w.heap.size w W') : ExPost w vs ns e W' :=
  ⟨none, 0, 0, by rw [h]; exact he, by rw [h]; exact Rd.empty, hb⟩

set_option maxRecDepth 100000 in
set_option maxHeartbeats 2000000 in
theorem expand_good {K K' : Nat → Prop} {a a' : Option Addr} {len cap len' cap' : Nat} {vs ns : List Int} (hn : Smalls ns) (ha : AreR vs ns) (ht : tot ns ≤ 4096) {W : World} (hR : Rd K W .i64 a len cap vs) (hR' : Rd K' W .i64 a' len' cap' ns) :
    Calls Try.prog 49 #[.slice a len cap, .slice a' len' cap'] W (ExPost W vs ns) := by
  obtain ⟨i0, hi, hz0, hz1, hz2⟩ := info_parts Try.infoN
  have hpos := ha.pos
  obtain ⟨T, hT⟩ : ∃ T : Nat, tot ns = (T : Int) := ⟨(tot ns).toNat, by have := tot_nonneg (ns := ns) (fun n hn => by have := hpos n hn; omega); omega⟩
  have hexl : (ex (pz vs ns)).length = T := by have := ex_length ha.1 (fun n hn => by have := hpos n hn; omega); omega
  have hTl : T ≤ 4096 := by omega
  have HEX : Hid (xpS vs ns = (ex (pz vs ns), 0)) := by show _ = _; unfold xpS; rw [if_pos ha, if_pos ht]
  have HTS : Hid (∀ V, Rd K' V .i64 a' len' cap' ns → Calls Try.prog 72 #[.slice a' len' cap'] V fun e V' => e = .returned (.tuple #[.int .i64 T, .bool true]) ∧ V = V') := fun V h => (total_any hpos hn h).mono fun e V' ⟨hw, hp⟩ => by
    rcases hp with ⟨_, he⟩ | ⟨h1, _⟩
    · rw [hT] at he; exact ⟨he, hw⟩
    · exact absurd ht h1
  have HAR : Hid (Calls Try.prog 71 #[.slice a len cap, .slice a' len' cap'] W fun e w' => e = .returned (.bool true) ∧ Below W.heap.size W w') := by
    have := are_any hR hR'
    rwa [areB_true ha] at this
  have HA := Lib.hid ha
  have HXL := Lib.hid hexl
  have HR := Lib.hid hR
  have HR' := Lib.hid hR'
  have hfit := hR.fit
  have hfit' := hR'.fit
  have hsm := hR.small
  have hll : len = len' := by rw [hR.hl, hR'.hl, ha.1]
  have HLV : Hid (len = vs.length) := hR.hl
  subst hll
  clear hR hR' hT hexl ha ht hn hpos
  go_enter Try.func49, Try.ntmps49
  go_wp2_with fail
  refine HAR.out.mono ?_
  rintro e w1 ⟨rfl, hb1⟩
  have HB1 := Lib.hid hb1
  clear hb1
  go_wp2_with fail
  refine (HTS.out w1 (HR'.out.below HB1.out)).mono ?_
  rintro e w' ⟨rfl, rfl⟩
  have hmk : (Instr.makeSlice 22 (.int .i64 0) (.int .i64 T)).run Try.prog w1 = .ok (.slice (some ⟨w1.heap.size, 0, none⟩) 0 T) (w1.alloc (.cells (madeCells (Value.int .i64 0).cells (T * 1)) 3)) := by
    have := run_make (P := Try.prog) w1 22 3 i0 _ Try.underlying22 hi hz0 .i64 .i64 0 T (by omega) (by omega) (by rw [hz2]; omega) (by omega)
    rw [hz1] at this
    exact this
  have hrow := World.ownsRow_made w1 (base := W.heap.size) (e := 3) (size := 1) (madeCells (Value.int .i64 0).cells (T * 1)) T HB1.out.size (by unfold maxLen; omega) (size_madeCells _ _)
  generalize madeCells (Value.int .i64 0).cells (T * 1) = mc at *
  have HROW := Lib.hid hrow
  have HB2 : Hid (Below W.heap.size W (w1.alloc (.cells mc 3))) := HB1.out.alloc HB1.out.size _
  clear hrow
  go_wp2
  clear hmk
  go_loopw [8, 9, 10, 26] (fun s _ _ i wr => ∃ k g c m : Nat, k ≤ len ∧ i = .int .i64 k ∧ m ≤ 4096 ∧ s = .slice (some ⟨g, 0, none⟩) m c ∧ Hid (m = (ex ((pz vs ns).take k)).length) ∧ Hid (wr.ownsRow W.heap.size 3 1 (.slice (some ⟨g, 0, none⟩) m c) m ((ex ((pz vs ns).take k)).map (Value.int .i64))) ∧ Hid (Below W.heap.size W wr)) (fun _ _ _ i _ => len - (intOf i).toNat)
  case atStart => exact ⟨0, w1.heap.size, T, 0, Nat.zero_le _, rfl, Nat.zero_le _, rfl, rfl, HROW, HB2⟩
  case round =>
    obtain ⟨k, g, c, m, hk, rfl, hm, rfl, HM, HRW, HBW⟩ := hrel
    by_cases hlt : k < len
    · obtain ⟨b, off, rfl, _, _, hcs⟩ := (HR.out.below HBW.out).cells (by omega)
      obtain ⟨b', off', rfl, _, hb', hcs'⟩ := (HR'.out.below HBW.out).cells (by omega)
      have hcx := hcs k hlt
      have hcy := hcs' k hlt
      obtain ⟨hkp, hpk⟩ := pz_at HA.out.1 k (by rw [← HLV.out]; exact hlt)
      obtain ⟨x, hx⟩ : ∃ x : Nat, ns[k]?.getD 0 = (x : Int) := ⟨(ns[k]?.getD 0).toNat, by have := (HA.out.2 k (by rw [← HA.out.1, ← HLV.out]; exact hlt)).1; omega⟩
      rw [hx] at hpk hcy
      rw [Int.toNat_natCast] at hpk
      have hE := ex_take_succ (pz vs ns) k hkp
      rw [hpk] at hE
      have hle := ex_take_le (pz vs ns) (k + 1)
      rw [HXL.out, hE, List.length_append, List.length_replicate, ← HM.out] at hle
      have HE := Lib.hid hE
      clear hcs hcs' hx hpk hE hkp
      generalize vs[k]?.getD 0 = v at *
      simp only at HE
      go_wp2
      obtain ⟨wa, hwa⟩ : ∃ wa : World, wa = wr := ⟨_, rfl⟩
      rw [← hwa] at HRW HBW hcx hcy hb' ⊢
      clear hwa
      go_loopw [8, 35] (fun s i wr => ∃ j g c : Nat, j ≤ x ∧ i = .int .i64 j ∧ s = .slice (some ⟨g, 0, none⟩) (m + j) c ∧ Hid (wr.ownsRow W.heap.size 3 1 (.slice (some ⟨g, 0, none⟩) (m + j) c) (m + j) ((ex ((pz vs ns).take k) ++ List.replicate j v).map (Value.int .i64))) ∧ Hid (Below W.heap.size W wr)) (fun _ i _ => x - (intOf i).toNat)
      case atStart => exact ⟨0, g, c, Nat.zero_le _, rfl, rfl, by simpa using HRW, HBW⟩
      case round =>
        obtain ⟨j, g', c', hj, rfl, rfl, HRJ, HBJ⟩ := hrel
        by_cases hjx : j < x
        · obtain ⟨g2, c2, w2, hr2, hrow2, hg2, _, _⟩ := run_append_one (P := Try.prog) wr W.heap.size 22 22 3 i0 _ 8 .i64 Try.underlying22 hi hz0 hz1 hz2 rfl g' (m + j) c' _ HRJ.out v 3 (by unfold maxLen; omega) (by omega) HBJ.out.size
          have HB2' : Hid (Below W.heap.size W w2) := (HBJ.out.alloc HBJ.out.size _).grown hg2 (HBJ.out.alloc HBJ.out.size _).size (fun r e => by cases e; exact row_base HRJ.out)
          have HRW2 : Hid (w2.ownsRow W.heap.size 3 1 (.slice (some ⟨g2, 0, none⟩) (m + (j + 1)) c2) (m + (j + 1)) ((ex ((pz vs ns).take k) ++ List.replicate (j + 1) v).map (Value.int .i64))) := by
            show w2.ownsRow _ _ _ _ _ _
            rw [List.replicate_succ', ← List.append_assoc, List.map_append]
            exact hrow2
          have HR2 := Lib.hid hr2
          clear hrow2 hg2 hr2
          go_wp2_with (at_builtin; refine wpList_append_want (o := ⟨some 40, _, _, _, _, _⟩) _ rfl _ _ _ _ rfl _ _ rfl rfl _ _ HR2.out ?_)
          go_roundw
          case rel => exact ⟨j + 1, g2, c2, by omega, by go_num, by go_num, HRW2, HB2'⟩
          case measure => simp [intOf]; omega
        · obtain rfl : j = x := by omega
          go_wp2
          go_roundw
          case rel =>
            refine ⟨k + 1, g', c', m + j, by omega, by go_num, by omega, rfl, ?_, ?_, HBJ⟩
            · show _ = _; rw [HE.out, List.length_append, List.length_replicate, HM.out]
            · show wr.ownsRow _ _ _ _ _ _; rw [HE.out]; exact HRJ.out
          case measure => simp [intOf]; omega
    · obtain rfl : k = len := by omega
      have HF : Hid (pz vs ns = (pz vs ns).take k) := by
        show _ = _
        rw [List.take_of_length_le]
        unfold pz
        rw [List.length_zip, ← HLV.out]; omega
      go_wp2
      go_ret2
      refine ⟨some ⟨g, 0, none⟩, m, c, by rw [HEX.out]; rfl, ?_, HBW.out⟩
      rw [HEX.out, HF.out]
      exact Rd.of_row HM.out (by obtain ⟨cur, _, h, _⟩ := row_block HRW.out; exact h) (by omega) HRW.out

set_option maxRecDepth 100000 in
set_option maxHeartbeats 1000000 in
theorem expand_any {K K' : Nat → Prop} {a a' : Option Addr} {len cap len' cap' : Nat} {vs ns : List Int} (hn : Smalls ns) {W : World} (hR : Rd K W .i64 a len cap vs) (hR' : Rd K' W .i64 a' len' cap' ns) :
    Calls Try.prog 49 #[.slice a len cap, .slice a' len' cap'] W (ExPost W vs ns) := by
  by_cases ha : AreR vs ns
  · by_cases ht : tot ns ≤ 4096
    · exact expand_good hn ha ht hR hR'
    · have HEX : Hid (xpS vs ns = ([], 2)) := by show _ = _; unfold xpS; rw [if_pos ha, if_neg ht]
      have HTS : Hid (∀ V, Rd K' V .i64 a' len' cap' ns → Calls Try.prog 72 #[.slice a' len' cap'] V fun e V' => e = .returned (.tuple #[.int .i64 0, .bool false]) ∧ V = V') := fun V h => (total_any ha.pos hn h).mono fun e V' ⟨hw, hp⟩ => by
        rcases hp with ⟨h1, _⟩ | ⟨_, he⟩
        · exact absurd h1 ht
        · exact ⟨he, hw⟩
      have HAR : Hid (Calls Try.prog 71 #[.slice a len cap, .slice a' len' cap'] W fun e w' => e = .returned (.bool true) ∧ Below W.heap.size W w') := by
        have := are_any hR hR'
        rwa [areB_true ha] at this
      have HR' := Lib.hid hR'
      clear hR hR' ha ht hn
      go_enter Try.func49, Try.ntmps49
      go_wp2_with fail
      refine HAR.out.mono ?_
      rintro e w1 ⟨rfl, hb1⟩
      have HB1 := Lib.hid hb1
      clear hb1
      go_wp2_with fail
      refine (HTS.out w1 (HR'.out.below HB1.out)).mono ?_
      rintro e w' ⟨rfl, rfl⟩
      go_wp2
      go_ret2
      exact ExPost.bad HEX.out rfl HB1.out
  · have HEX : Hid (xpS vs ns = ([], 1)) := by show _ = _; unfold xpS; rw [if_neg ha]
    have HAR : Hid (Calls Try.prog 71 #[.slice a len cap, .slice a' len' cap'] W fun e w' => e = .returned (.bool false) ∧ Below W.heap.size W w') := by
      have := are_any hR hR'
      rwa [areB_false ha] at this
    clear hR hR' ha hn
    go_enter Try.func49, Try.ntmps49
    go_wp2_with fail
    refine HAR.out.mono ?_
    rintro e w1 ⟨rfl, hb1⟩
    have HB1 := Lib.hid hb1
    clear hb1
    go_wp2
    go_ret2
    exact ExPost.bad HEX.out rfl HB1.out

end Go.Proofs.Ytmbcppkdnoccbaa
