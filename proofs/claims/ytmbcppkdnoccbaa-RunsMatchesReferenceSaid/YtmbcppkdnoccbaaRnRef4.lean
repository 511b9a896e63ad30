/-
  The reference's list with given runs.
-/
import Derived.Test.YtmbcppkdnoccbaaRnRef3
namespace Go.Proofs.Ytmbcppkdnoccbaa
open Go.RowKit Go.Shelf Go.ChangeShapes Go.WideShapes Go.ChangeAt

/-- What expanding comes to. -/
def ExRPost (w : World) (vs ns : List Int) (e : Ending) (W' : World) : Prop :=
  ∃ a n c, e = .returned (.agg #[.slice a n c, .int .i64 (xpS vs ns).2]) ∧ Rd (fun b => w.heap.size ≤ b) W' .i64 a n c (xpS vs ns).1 ∧ Below w.heap.size w W'
theorem ExRPost.bad {w W' : World} {vs ns : List Int} {e : Ending} {x : Int} (h : xpS vs ns = ([], x)) (he : e = .returned (.agg #[.slice none 0 0, .int .i64 x])) (hb : Below w.heap.size w W') : ExRPost w vs ns e W' :=
  ⟨none, 0, 0, by rw [h]; exact he, by rw [h]; exact Rd.empty, hb⟩

theorem xp_bad {vs ns : List Int} (h : ¬ AreR vs ns) : xpS vs ns = ([], 1) := by unfold xpS; rw [if_neg h]
theorem xp_long {vs ns : List Int} (h : AreR vs ns) (ht : ¬ tot ns ≤ 4096) : xpS vs ns = ([], 2) := by unfold xpS; rw [if_pos h, if_neg ht]
theorem tot_small {ns : List Int} (h : ∀ n ∈ ns, 1 ≤ n) (k : Nat) (hk : k < ns.length) (hb : 4096 < tot (ns.take k) + ns[k]?.getD 0) : ¬ tot ns ≤ 4096 := by
  have h1 := tot_take_le (ns := ns) (fun n hn => by have := h n hn; omega) (k + 1)
  rw [tot_take_succ ns k hk] at h1
  omega

set_option maxRecDepth 100000 in
set_option maxHeartbeats 2000000 in
theorem expandR_len {K K' : Nat → Prop} {a a' : Option Addr} {len cap len' cap' : Nat} {vs ns : List Int} (hne : len ≠ len') {W : World} (hR : Rd K W .i64 a len cap vs) (hR' : Rd K' W .i64 a' len' cap' ns) :
    Calls Try.prog 14 #[.agg #[.slice a len cap, .slice a' len' cap']] W (ExRPost W vs ns) := by
  have HX : Hid (xpS vs ns = ([], 1)) := xp_bad fun h => hne (by rw [hR.hl, hR'.hl, h.1])
  have hbe : ((len : Int) != (len' : Int)) = true := by rw [bne_iff_ne]; omega
  have hbn : (len != len') = true := by rw [bne_iff_ne]; exact hne
  clear hR hR'
  go_enter Try.func14, Try.ntmps14
  go_wp2
  refine bodyPost_ret (v := .agg #[.slice none 0 0, .int .i64 1]) (by simp [results, Try.results14, go_sem]) rfl (ExRPost.bad HX.out rfl ?_)
  exact ((Below.refl _ _).alloc (Nat.le_refl _) _).alloc (by simp) _

theorem drewN_twice (W : World) (n m : Nat) : (W.drewN n).drewN m = W.drewN (n + m) := by
  simp [World.drewN, Nat.add_assoc]

/-- The world in which the loops go on. -/
structure ExAt (W U : World) (a : Option Addr) (len cap : Nat) (a' : Option Addr) (cap' : Nat) : Prop where
  p : Pair U W.heap.size 24 (.slice a len cap) (.slice a' len cap')
  q : Pair U (W.heap.size + 1) 36 (.slice none 0 0) (.int .i64 0)
  b : Below W.heap.size W U
theorem ExAt.drewN {W U : World} {a : Option Addr} {len cap : Nat} {a' : Option Addr} {cap' : Nat} (h : ExAt W U a len cap a' cap') (n : Nat) : ExAt W (U.drewN n) a len cap a' cap' := ⟨h.p, h.q, below_drewN h.b n⟩
theorem ExAt.below {W U V : World} {a : Option Addr} {len cap : Nat} {a' : Option Addr} {cap' : Nat} (h : ExAt W U a len cap a' cap') (hb : Below U.heap.size U V) : ExAt W V a len cap a' cap' :=
  ⟨h.p.below hb h.p.lt, h.q.below hb h.q.lt, h.b.trans (hb.mono h.b.size)⟩
theorem ExAt.bad {W U : World} {a : Option Addr} {len cap : Nat} {a' : Option Addr} {cap' : Nat} (h : ExAt W U a len cap a' cap') (x y : Value) : Below W.heap.size W ((U.setCell ⟨W.heap.size + 1, 0, none⟩ x).setCell ⟨W.heap.size + 1, 1, none⟩ y) :=
  (h.b.setCell (by show W.heap.size ≤ W.heap.size + 1; omega) _).setCell (by show W.heap.size ≤ W.heap.size + 1; omega) _

set_option maxRecDepth 100000 in
set_option maxHeartbeats 4000000 in
theorem expandR_same {K K' : Nat → Prop} {a a' : Option Addr} {len cap cap' : Nat} {vs ns : List Int} {W : World} (hR : Rd K W .i64 a len cap vs) (hR' : Rd K' W .i64 a' len cap' ns) :
    Calls Try.prog 14 #[.agg #[.slice a len cap, .slice a' len cap']] W (ExRPost W vs ns) := by
  obtain ⟨i0, hi, hz0, hz1, hz2⟩ := info_parts Try.infoN
  have HLV : Hid (len = vs.length) := hR.hl
  have HLN : Hid (len = ns.length) := hR'.hl
  have hfit := hR.fit
  have hfit' := hR'.fit
  have hsm := hR.small
  have HA : Hid (ExAt W ((W.alloc (.cells #[.slice a len cap, .slice a' len cap'] 24)).alloc (.cells #[.slice none 0 0, .int .i64 0] 36)) a len cap a' cap') := by
    refine ⟨(Pair.new W 24 _ _).below ((Below.refl _ _).alloc (Nat.le_refl _) _) (by simp), ?_, ((Below.refl _ _).alloc (Nat.le_refl _) _).alloc (by simp) _⟩
    have := Pair.new (W.alloc (.cells #[.slice a len cap, .slice a' len cap'] 24)) 36 (.slice none 0 0) (.int .i64 0)
    rw [World.size_alloc] at this
    exact this
  have HR := Lib.hid (hR.below HA.out.b)
  have HR' := Lib.hid (hR'.below HA.out.b)
  clear hR hR'
  go_enter Try.func14, Try.ntmps14
  go_wp2
  generalize (W.alloc (.cells #[.slice a len cap, .slice a' len cap'] 24)).alloc (.cells #[.slice none 0 0, .int .i64 0] 36) = V at *
  go_loopw [3] (fun i wr => ∃ k : Nat, k ≤ len ∧ i = .int .i64 k ∧ Hid (∀ j, j < k → 1 ≤ ns[j]?.getD 0 ∧ (0 < j → vs[j]?.getD 0 ≠ vs[j - 1]?.getD 0)) ∧ ∃ q, wr = V.drewN q) (fun i _ => len - (intOf i).toNat)
  case atStart => exact ⟨0, Nat.zero_le _, rfl, (fun j h => absurd h (by omega)), 0, rfl⟩
  case round =>
    obtain ⟨k, hk, rfl, HOK, q, rfl⟩ := hrel
    have p0 := HA.out.p.c0
    have p1 := HA.out.p.c1
    have plt := HA.out.p.lt
    have q0 := HA.out.q.c0
    have q1 := HA.out.q.c1
    have f0 := HA.out.q.f 0
    have f1 := HA.out.q.f 1
    have qlt := HA.out.q.lt
    by_cases hlt : k < len
    · obtain ⟨b', off', rfl, _, hb', hcs'⟩ := HR'.out.cells (by omega)
      have hcy := hcs' k hlt
      obtain ⟨b, off, rfl, _, hb, hcs⟩ := HR.out.cells (by omega)
      have hcx := hcs k hlt
      have hkl : (k : Int) < (len : Int) := by omega
      by_cases hy : ns[k]?.getD 0 < 1
      · have HX : Hid (xpS vs ns = ([], 1)) := xp_bad fun h => by have := (h.2 k (by rw [← HLN.out]; exact hlt)).1; omega
        clear hcs hcs' hcx
        generalize ns[k]?.getD 0 = y at *
        go_wp2_with fail
        go_quiet (fail)
        go_wp2
        exact bodyPost_ret (v := .agg #[.slice none 0 0, .int .i64 1]) (by simp [results, Try.results14, go_sem, q0, q1]) rfl (ExRPost.bad HX.out rfl ((HA.out.drewN _).bad _ _))
      · have hy1 : 1 ≤ ns[k]?.getD 0 := by omega
        have hy2 : decide (ns[k]?.getD 0 < 1) = false := decide_eq_false hy
        have hy3 : ¬ ns[k]?.getD 0 ≤ 0 := by omega
        have hy4 : 0 < ns[k]?.getD 0 := by omega
        by_cases h0 : k = 0
        · subst h0
          have HOK2 : Hid (∀ j, j < 0 + 1 → 1 ≤ ns[j]?.getD 0 ∧ (0 < j → vs[j]?.getD 0 ≠ vs[j - 1]?.getD 0)) := fun j hj => by
            obtain rfl : j = 0 := by omega
            exact ⟨hy1, fun h => absurd h (by omega)⟩
          have hg0 : decide ((0 : Int) < 0) = false := rfl
          rw [Nat.add_zero] at hcy
          clear hcs hcs' hcx
          generalize ns[0]?.getD 0 = y at *
          go_wp2_with fail
          go_quiet (fail)
          go_wp2
          go_roundw
          case rel => exact ⟨0 + 1, by omega, by go_num, HOK2, _, rfl⟩
          case measure => simp [intOf]; omega
        · have hcw := hcs (k - 1) (by omega)
          have hk0 : 0 < k := by omega
          have hg0 : (0 : Int) < (k : Int) := by omega
          by_cases he : vs[k]?.getD 0 = vs[k - 1]?.getD 0
          · have HX : Hid (xpS vs ns = ([], 1)) := xp_bad fun h => (h.2 k (by rw [← HLN.out]; exact hlt)).2 hk0 he
            rw [← he] at hcw
            obtain ⟨j, hj⟩ : ∃ j, k - 1 = j := ⟨_, rfl⟩
            have hw : IntKind.i64.wrap ((k : Int) - 1) = (j : Int) := by rw [IntKind.wrap_i64]; omega
            have hjl : (j : Int) < (len : Int) := by omega
            rw [hj] at hcw
            clear hcs hcs' he hj
            generalize ns[k]?.getD 0 = y at *
            generalize vs[k]?.getD 0 = x at *
            go_wp2_with fail
            go_quiet (fail)
            go_wp2
            exact bodyPost_ret (v := .agg #[.slice none 0 0, .int .i64 1]) (by simp [results, Try.results14, go_sem, q0, q1]) rfl (ExRPost.bad HX.out rfl ((HA.out.drewN _).bad _ _))
          · have HOK2 : Hid (∀ j, j < k + 1 → 1 ≤ ns[j]?.getD 0 ∧ (0 < j → vs[j]?.getD 0 ≠ vs[j - 1]?.getD 0)) := fun j hj => by
              by_cases h : j < k
              · exact HOK.out j h
              · obtain rfl : j = k := by omega
                exact ⟨hy1, fun _ => he⟩
            obtain ⟨j, hj⟩ : ∃ j, k - 1 = j := ⟨_, rfl⟩
            have hw : IntKind.i64.wrap ((k : Int) - 1) = (j : Int) := by rw [IntKind.wrap_i64]; omega
            have hjl : (j : Int) < (len : Int) := by omega
            rw [hj] at hcw he
            clear hcs hcs' hj
            generalize ns[k]?.getD 0 = y at *
            generalize vs[k]?.getD 0 = x at *
            generalize vs[j]?.getD 0 = z at *
            have he2 : (x == z) = false := by rw [beq_eq_false_iff_ne]; exact he
            go_wp2_with fail
            go_quiet (fail)
            go_wp2
            go_roundw
            case rel => exact ⟨k + 1, by omega, by go_num, HOK2, _, rfl⟩
            case measure => simp [intOf]; omega
    · obtain rfl : k = len := by omega
      have hare : AreR vs ns := ⟨by rw [← HLV.out]; exact HLN.out, fun i hi => HOK.out i (by rw [HLN.out]; exact hi)⟩
      have hpos := hare.pos
      have HAR := Lib.hid hare
      have HPOS := Lib.hid hpos
      clear hare hpos
      obtain ⟨U, hU⟩ : ∃ U, V.drewN q = U := ⟨_, rfl⟩
      have HAU : Hid (ExAt W U a k cap a' cap') := by rw [← hU]; exact HA.out.drewN q
      have HRU : Hid (Rd K U .i64 a k cap vs) := by rw [← hU]; exact HR.out.heap rfl
      have HRU' : Hid (Rd K' U .i64 a' k cap' ns) := by rw [← hU]; exact HR'.out.heap rfl
      rw [hU]
      clear hU p0 p1 plt q0 q1 f0 f1 qlt HA HR HR' HOK hlt hk
      have p0 := HAU.out.p.c0
      have p1 := HAU.out.p.c1
      have plt := HAU.out.p.lt
      have HB0 : Hid (Below U.heap.size U (U.alloc (.cells #[] 3))) := (Below.refl _ _).alloc (Nat.le_refl _) _
      have HO0 : Hid ((U.alloc (.cells #[] 3)).ownsRow U.heap.size 3 1 (.slice (some ⟨U.heap.size, 0, none⟩) 0 0) 0 ((ex ((pz vs ns).take 0)).map (Value.int .i64))) := own_nilr U _ _ (Nat.le_refl _)
      go_wp2
      clear p0 p1 plt
      go_loopw [4, 5] (fun s i wr => ∃ j g c m : Nat, j ≤ k ∧ i = .int .i64 j ∧ m ≤ 4096 ∧ s = .slice (some ⟨g, 0, none⟩) m c ∧ Hid (m = (ex ((pz vs ns).take j)).length ∧ (m : Int) = tot (ns.take j)) ∧ Hid (wr.ownsRow U.heap.size 3 1 (.slice (some ⟨g, 0, none⟩) m c) m ((ex ((pz vs ns).take j)).map (Value.int .i64))) ∧ Hid (Below U.heap.size U wr)) (fun _ i _ => k - (intOf i).toNat)
      case atStart => exact ⟨0, U.heap.size, 0, 0, Nat.zero_le _, rfl, Nat.zero_le _, rfl, ⟨rfl, rfl⟩, HO0, HB0⟩
      case round =>
        obtain ⟨j, g, c, m, hj, rfl, hm, rfl, HM, HRW, HBW⟩ := hrel
        have p0 := (HAU.out.below HBW.out).p.c0
        have p1 := (HAU.out.below HBW.out).p.c1
        have plt := (HAU.out.below HBW.out).p.lt
        by_cases hlt : j < k
        · obtain ⟨b, off, rfl, _, hbb, hcs⟩ := HRU.out.cells (by omega)
          obtain ⟨b', off', rfl, _, hb', hcs'⟩ := HRU'.out.cells (by omega)
          have hcx := hcs j hlt
          have hcy := hcs' j hlt
          have hjk : (j : Int) < (k : Int) := by omega
          have hpos := (HAR.out.2 j (by rw [← HLN.out]; exact hlt)).1
          obtain ⟨hkp, hpk⟩ := pz_at HAR.out.1 j (by rw [← HLV.out]; exact hlt)
          have hts := tot_take_succ ns j (by rw [← HLN.out]; exact hlt)
          obtain ⟨x, hx⟩ : ∃ x : Nat, ns[j]?.getD 0 = (x : Int) := ⟨(ns[j]?.getD 0).toNat, by omega⟩
          have HTS := Lib.hid (tot_small HPOS.out j (by rw [← HLN.out]; exact hlt))
          rw [hx] at hpk hcy hts HTS hpos
          rw [Int.toNat_natCast] at hpk
          have hE := ex_take_succ (pz vs ns) j hkp
          rw [hpk] at hE
          have HE := Lib.hid hE
          have HTT := Lib.hid hts
          clear hcs hcs' hx hpk hE hkp hts
          generalize vs[j]?.getD 0 = v at *
          simp only at HE
          have HCX : Hid (b < U.heap.size ∧ U.cell? ⟨b, off + j, none⟩ = some (.int .i64 v)) := ⟨hbb, hcx⟩
          have HCY : Hid (b' < U.heap.size ∧ U.cell? ⟨b', off' + j, none⟩ = some (.int .i64 x)) := ⟨hb', hcy⟩
          have hcx := (HBW.out.cell (p := ⟨b, off + j, none⟩) hbb).trans hcx
          have hcy := (HBW.out.cell (p := ⟨b', off' + j, none⟩) hb').trans hcy
          have hxI : IntKind.i64.wrap (4096 - (m : Int)) = ((4096 - m : Nat) : Int) := by rw [IntKind.wrap_i64]; omega
          by_cases hbig : 4096 - m < x
          · have HX : Hid (xpS vs ns = ([], 2)) := xp_long HAR.out (HTS.out (by have := HM.out.2; omega))
            have hbI : ((4096 - m : Nat) : Int) < (x : Int) := by omega
            have q0 := (HAU.out.below HBW.out).q.c0
            have q1 := (HAU.out.below HBW.out).q.c1
            have f0 := (HAU.out.below HBW.out).q.f 0
            have f1 := (HAU.out.below HBW.out).q.f 1
            have qlt := (HAU.out.below HBW.out).q.lt
            obtain ⟨d, hd⟩ : ∃ d : Nat, 4096 - m = d := ⟨_, rfl⟩
            rw [hd] at hxI hbI hbig
            clear hd
            go_wp2
            exact bodyPost_ret (v := .agg #[.slice none 0 0, .int .i64 2]) (by simp [results, Try.results14, go_sem, q0, q1]) rfl (ExRPost.bad HX.out rfl ((HAU.out.below HBW.out).bad _ _))
          · have hmx : m + x ≤ 4096 := by omega
            have hbI : ¬ ((4096 - m : Nat) : Int) < (x : Int) := by omega
            obtain ⟨d, hd⟩ : ∃ d : Nat, 4096 - m = d := ⟨_, rfl⟩
            rw [hd] at hxI hbI hbig
            clear hd
            go_wp2
            clear p0 p1 plt hcx hcy hxI hbI hbig
            go_loopw [4, 6] (fun s i wx => ∃ l g c : Nat, l ≤ x ∧ i = .int .i64 l ∧ s = .slice (some ⟨g, 0, none⟩) (m + l) c ∧ Hid (wx.ownsRow U.heap.size 3 1 (.slice (some ⟨g, 0, none⟩) (m + l) c) (m + l) ((ex ((pz vs ns).take j) ++ List.replicate l v).map (Value.int .i64))) ∧ Hid (Below U.heap.size U wx)) (fun _ i _ => x - (intOf i).toNat)
            case atStart => exact ⟨0, g, c, Nat.zero_le _, rfl, rfl, by simpa using HRW, HBW⟩
            case round =>
              obtain ⟨l, g', c', hl, rfl, rfl, HRJ, HBJ⟩ := hrel
              have p0 := (HAU.out.below HBJ.out).p.c0
              have p1 := (HAU.out.below HBJ.out).p.c1
              have plt := (HAU.out.below HBJ.out).p.lt
              have hcx := (HBJ.out.cell (p := ⟨b, off + j, none⟩) HCX.out.1).trans HCX.out.2
              have hcy := (HBJ.out.cell (p := ⟨b', off' + j, none⟩) HCY.out.1).trans HCY.out.2
              by_cases hjx : l < x
              · obtain ⟨g2, c2, w2, hr2, hrow2, hg2, _⟩ := own_append (P := Try.prog) wr U.heap.size 22 22 3 i0 _ 8 .i64 Try.underlying22 hi hz0 hz1 hz2 rfl _ (m + l) _ HRJ.out v 3 (by unfold maxLen; omega) (by omega) HBJ.out.size
                have hgb := row_base HRJ.out
                have HB2' : Hid (Below U.heap.size U w2) := (HBJ.out.alloc HBJ.out.size _).grown hg2 (HBJ.out.alloc HBJ.out.size _).size (fun r e => by cases e; exact hgb)
                have HRW2 : Hid (w2.ownsRow U.heap.size 3 1 (.slice (some ⟨g2, 0, none⟩) (m + (l + 1)) c2) (m + (l + 1)) ((ex ((pz vs ns).take j) ++ List.replicate (l + 1) v).map (Value.int .i64))) := by
                  show w2.ownsRow _ _ _ _ _ _
                  rw [List.replicate_succ', ← List.append_assoc, List.map_append]
                  exact hrow2
                have HR2 := Lib.hid hr2
                clear hrow2 hg2 hr2
                go_wp2_with (at_builtin; refine wpList_append_want (o := ⟨some 81, _, _, _, _, _⟩) _ rfl _ _ _ _ rfl _ _ rfl rfl _ _ HR2.out ?_)
                go_roundw
                case rel => exact ⟨l + 1, g2, c2, by omega, by go_num, by go_num, HRW2, HB2'⟩
                case measure => simp [intOf]; omega
              · obtain rfl : l = x := by omega
                go_wp2
                go_roundw
                case rel =>
                  refine ⟨j + 1, g', c', m + l, by omega, by go_num, by omega, rfl, ⟨?_, ?_⟩, ?_, HBJ⟩
                  · rw [HE.out, List.length_append, List.length_replicate, ← HM.out.1]
                  · rw [HTT.out, ← HM.out.2]; omega
                  · show wr.ownsRow _ _ _ _ _ _; rw [HE.out]; exact HRJ.out
                case measure => simp [intOf]; omega
        · obtain rfl : j = k := by omega
          have HF : Hid (ex (pz vs ns) = ex ((pz vs ns).take j) ∧ tot ns = (m : Int) ∧ m = (ex (pz vs ns)).length) := by
            have e1 : (pz vs ns).take j = pz vs ns := List.take_of_length_le (by unfold pz; rw [List.length_zip, ← HLV.out]; omega)
            have e2 : ns.take j = ns := List.take_of_length_le (by rw [← HLN.out]; exact Nat.le_refl _)
            have h1 := HM.out
            rw [e1, e2] at h1
            exact ⟨by rw [e1], h1.2.symm, h1.1⟩
          have HX : Hid (xpS vs ns = (ex (pz vs ns), 0)) := by show _ = _; unfold xpS; rw [if_pos HAR.out, if_pos (by have := HF.out.2.1; omega)]
          have hmc : m ≤ c := by obtain ⟨cur, _, h, _⟩ := row_block HRW.out; exact h
          have q0 := (HAU.out.below HBW.out).q.c0
          have q1 := (HAU.out.below HBW.out).q.c1
          have f0 := (HAU.out.below HBW.out).q.f 0
          have f1 := (HAU.out.below HBW.out).q.f 1
          have qlt := (HAU.out.below HBW.out).q.lt
          have hul := HAU.out.q.lt
          have HFIN : Hid (ExRPost W vs ns (.returned (.agg #[.slice (some ⟨g, 0, none⟩) m c, .int .i64 0])) ((wr.setCell ⟨W.heap.size + 1, 0, none⟩ (.slice (some ⟨g, 0, none⟩) m c)).setCell ⟨W.heap.size + 1, 1, none⟩ (.int .i64 0))) := by
            refine ⟨some ⟨g, 0, none⟩, m, c, by rw [HX.out], ?_, (HAU.out.below HBW.out).bad _ _⟩
            rw [HX.out]
            have hr := HRW.out
            rw [← HF.out.1] at hr
            exact (((Rd.of_row HF.out.2.2 hmc (by omega) hr).set ⟨W.heap.size + 1, 0, none⟩ _ (fun h => by have h : U.heap.size ≤ W.heap.size + 1 := h; omega)).set ⟨W.heap.size + 1, 1, none⟩ _ (fun h => by have h : U.heap.size ≤ W.heap.size + 1 := h; omega)).mono fun i _ h => by omega
          clear hul
          go_wp2
          exact bodyPost_ret (v := .agg #[.slice (some ⟨g, 0, none⟩) m c, .int .i64 0]) (by simp [results, Try.results14, go_sem, q0, q1]) rfl HFIN.out

theorem expandR_any {K K' : Nat → Prop} {a a' : Option Addr} {len cap len' cap' : Nat} {vs ns : List Int} {W : World} (hR : Rd K W .i64 a len cap vs) (hR' : Rd K' W .i64 a' len' cap' ns) :
    Calls Try.prog 14 #[.agg #[.slice a len cap, .slice a' len' cap']] W (ExRPost W vs ns) := by
  by_cases h : len = len'
  · subst h; exact expandR_same hR hR'
  · exact expandR_len h hR hR'

end Go.Proofs.Ytmbcppkdnoccbaa
