/-
  What is accepted is the packed form and the rest: for all bytes the law returns true and changes nothing. No condition.
-/
import Derived.Test.YtdgihmekljeocaaRows
import Derived.Test.YtdgihmekljeocaaPkEx2
import Derived.Test.YtdgihmekljeocaaPkCanMath
import Derived.OpenShut
namespace Go.Proofs.Ytdgihmekljeocaa.bitpackCanonical
open Go.ChangeShapes Go.WideShapes Go.ChangeAt Go.RowKit
open Go.Proofs.Ytdgihmekljeocaa

/-- A call that is wanted, some of whose result is not named, as a step of a region that draws its order. -/
theorem step_call_some {P : Program} {ops : Array Oper} {o : Oper} {a : Act} {w : World} {K : Act → World → Prop} {Q : Exit → Act → World → Prop} {E : Prop} (hw : Region.wanted o (yielded ops a.tmps) = true) (f : FuncId) (args : Array Operand) (ts : Array TypeId)
    (ho : o.op = .call { callee := .value (.func f), args := args, argTypes := ts }) (vals : Array Value) (hs : args.map a.eval = vals) (eg : (callFunc f vals).run P w = .ok (.enter f vals) w)
    (R : Value → World → Prop) (hc : Calls P f vals w fun e w' => ∃ v, e = .returned v ∧ R v w') (hK : ∀ v w', R v w' → K (a.put o.dst v) w') : if Region.wanted o (yielded ops a.tmps) = true then Oper.wp P o a w K Q else E := by
  rw [if_pos hw]
  unfold Oper.wp
  simp [execOp, ho, resolve, invoke, hs, eg, go_sem]
  exact hc.mono fun e w' ⟨v, he, hr⟩ => by subst he; exact hK v w' hr

/-- An append that is wanted, whose run is known, as a step of a region that draws its order. -/
theorem step_append_want {P : Program} {ops : Array Oper} {o : Oper} {a : Act} {w : World} {K : Act → World → Prop} {Q : Exit → Act → World → Prop} {E : Prop} (hw : Region.wanted o (yielded ops a.tmps) = true) (s x : Operand) (t tn : TypeId)
    (ho : o.op = .call { callee := .builtin .append, args := #[s, x], argTypes := #[t, tn] }) (vs vx : Value) (hs : a.eval s = vs) (hx : a.eval x = vx)
    (v' : Value) (w' : World) (hr : (Builtin.append_ #[t, tn] o.type #[vs, vx]).run P w = .ok v' w') (hK : K (a.put o.dst v') w') : if Region.wanted o (yielded ops a.tmps) = true then Oper.wp P o a w K Q else E := by
  rw [if_pos hw]
  unfold Oper.wp
  simp [execOp, ho, resolve, invoke, builtin, hs, hx, hr, Result.andThen]
  exact hK

/-- A row of the call's own, and a slice that came in, appended to it. -/
theorem run_append_reads {P : Program} (w : World) (base : Nat) (t ty e : TypeId) (i : TypeInfo) (z : Value) (bytes : Nat) (k : IntKind) (ht : P.underlying t = some (.slice e)) (hi : P.info? e = some i) (hz : i.zero = some z)
    (hsize : i.size = 1) (hby : i.bytes = bytes) (hzs : z.cells.size = 1) (g0 n cap0 : Nat) (xs : List Value) (hown : w.ownsRow base e 1 (.slice (some ⟨g0, 0, none⟩) n cap0) n xs)
    {K : Nat → Prop} (sv : Value) (zs : List Int) (len : Nat) (hlen : Hid (len = zs.length)) (hR : ReadsK K w k sv zs) (h63 : n + len ≤ maxLen) (hbytes : (n + len) * bytes ≤ 140737488355328) (hbase : base ≤ w.heap.size) :
    ∃ g cap w', (Builtin.append_ #[t, t] ty #[.slice (some ⟨g0, 0, none⟩) n cap0, sv]).run P w = .ok (.slice (some ⟨g, 0, none⟩) (n + len) cap) w' ∧
      w'.ownsRow base e 1 (.slice (some ⟨g, 0, none⟩) (n + len) cap) (n + len) (xs ++ zs.map (Value.int k)) ∧ w.grownBy w' (some g0) ∧ n + len ≤ cap ∧ base ≤ g := by
  obtain rfl : len = zs.length := hlen
  rcases hR with ⟨a, c, rfl, rfl⟩ | ⟨b, off, c, rfl, _, _, hc⟩
  · obtain ⟨g, cap, e1, hn, hb⟩ := row_form hown (by simp)
    obtain ⟨rfl, rfl⟩ : g0 = g ∧ cap0 = cap := by cases e1; exact ⟨rfl, rfl⟩
    exact ⟨g0, cap0, w, run_append_empty w t ty e i ht hi _ n cap0 hn a c, by simpa using hown, ⟨rfl, rfl, rfl, Nat.le_refl _, fun _ _ _ => rfl⟩, hn, hb⟩
  · obtain ⟨v', w', hr, h1, h2, h3⟩ := run_append_own (P := P) w base t ty e i z 1 bytes ht hi hz hsize hby hzs (by decide) _ n xs hown ⟨b, off, none⟩ zs.length c (zs.map (Value.int k)) (by simp)
      (fun j u hu => by
        rw [List.getElem?_map] at hu
        cases hj : zs[j]? with
        | none => rw [hj] at hu; cases hu
        | some x =>
          rw [hj] at hu
          have hlt := (List.getElem?_eq_some_iff.1 hj).1
          have := hc j hlt
          rw [hj] at this
          rw [add_plain, this]
          exact hu)
      (fun u hu => by obtain ⟨x, _, rfl⟩ := List.mem_map.1 hu; rfl) (by omega) hbytes hbase
    have hne : ¬ v' = .slice none 0 0 := fun e => by have := (h3.1 e).1; cases this
    obtain ⟨g, cap, rfl, hn, hb⟩ := row_form h1 hne
    exact ⟨g, cap, w', hr, h1, h2, hn, hb⟩

theorem head_oct (zs : List Int) : Oct (headS zs) := by
  unfold headS
  split
  · exact var_oct 0
  · refine ((var_oct _).append (var_oct _)).append fun x hx => ?_
    rw [List.mem_singleton] at hx
    have := width_le zs
    omega

/-! ### Errors, and what range a list is of -/

theorem rdF_err : ∀ (bs : List Int) (i : Nat) (a : Int), (rdF i a bs).2.2 = 0 ∨ (rdF i a bs).2.2 = 5 ∨ (rdF i a bs).2.2 = 7
  | [], i, a => by unfold rdF; split <;> simp
  | x :: r, i, a => by
    unfold rdF
    split
    · simp
    · split
      · exact rdF_err r _ _
      · split <;> simp
theorem fr_err (bs : List Int) : (frS bs).2.2 = 0 ∨ (frS bs).2.2 = 5 ∨ (frS bs).2.2 = 7 := by
  unfold frS
  split
  · exact rdF_err bs 0 0
  · split
    · simp
    · split <;> simp
theorem up_err (b : Int) (wd n : Nat) (bs : List Int) : (upS b wd n bs).2.2 = 0 ∨ (upS b wd n bs).2.2 = 5 ∨ (upS b wd n bs).2.2 = 7 := by
  unfold upS
  split
  · simp
  · split <;> simp
theorem un_err (bs : List Int) : (unS bs).2.2 = 0 ∨ (unS bs).2.2 = 5 ∨ (unS bs).2.2 = 7 := by
  unfold unS
  split
  · exact rdF_err bs 0 0
  · split
    · simp
    · split
      · simp
      · split
        · exact fr_err _
        · split
          · exact up_err _ _ _ _
          · simp
theorem up_smalls (b : Int) (wd n : Nat) (bs : List Int) : Smalls (upS b wd n bs).1 := by
  unfold upS
  split
  · intro x hx; cases hx
  · split
    · intro x hx
      unfold upList elB at hx
      obtain ⟨e, _, rfl⟩ := List.mem_map.1 hx
      unfold elV I64 wrap64
      omega
    · intro x hx; cases hx
theorem un_smalls (bs : List Int) : Smalls (unS bs).1 := by
  unfold unS
  split
  · intro x hx; cases hx
  · split
    · intro x hx; cases hx
    · split
      · intro x hx; cases hx
      · split
        · intro x hx; cases hx
        · split
          · intro x hx; cases hx
          · exact up_smalls _ _ _ _

set_option maxRecDepth 100000 in
set_option maxHeartbeats 4000000 in
theorem walk_bad {K2 : Nat → Prop} {a2 : Option Addr} {n2 c2 : Nat} {bs : List Int} (ho : Oct bs) (h2 : n2 ≤ 300) (w : World) (hR2 : Rd K2 w .u8 a2 n2 c2 bs) (x : Int) (hx : x = 5 ∨ x = 7) (he : (unS bs).2.2 = x) :
    Calls Try.prog 5 #[.slice a2 n2 c2] w fun e w' => e = .returned (.bool true) ∧ Below w.heap.size w w' := by
  have H2 := Lib.hid hR2
  have HE := Lib.hid he
  have HX : Hid (x ≠ 0) := by show _ ≠ _; omega
  clear hR2 he
  rcases hx with rfl | rfl
  all_goals
    go_enter Try.func5, Try.ntmps5
    go_wp2_with fail
    refine (examples_any _).mono ?_
    rintro e w1 ⟨rfl, hb1⟩
    have HB1 := Lib.hid hb1
    clear hb1
    go_wp2_with fail
    refine (unpacked_bad ho (H2.out.below HB1.out) HX.out HE.out).mono ?_
    rintro e w2 ⟨rfl, hb2⟩
    have HB2 : Hid (Below w.heap.size w w2) := HB1.out.trans (hb2.mono HB1.out.size)
    clear hb2
    simp only [gotV]
    go_wp2
    go_ret
    exact ⟨rfl, HB2.out.alloc HB2.out.size _⟩

set_option maxRecDepth 100000 in
set_option maxHeartbeats 4000000 in
theorem walk_good {K2 : Nat → Prop} {a2 : Option Addr} {n2 c2 : Nat} {bs : List Int} (ho : Oct bs) (h2 : n2 ≤ 300) (w : World) (hR2 : Rd K2 w .u8 a2 n2 c2 bs) (zs : List Int) (c : Nat) (hun : unS bs = (zs, c, 0)) :
    Calls Try.prog 5 #[.slice a2 n2 c2] w fun e w' => e = .returned (.bool true) ∧ Below w.heap.size w w' := by
  obtain ⟨i0, hi, hz0, hz1, hz2⟩ := info_parts Try.infoB
  have hz : Smalls zs := by have := un_smalls bs; rwa [hun] at this
  obtain ⟨hl4, hc, hcan⟩ := un_canon ho hun
  have HW2 : Hid (Rd (fun b => b < w.heap.size) w .u8 a2 n2 c2 bs) := hR2.mono fun b h _ => h
  have HUN := Lib.hid hun
  have HCAN : Hid (packS zs ++ bs.drop c = bs) := hcan.symm
  have HL4 := Lib.hid hl4
  have HC := Lib.hid hc
  clear hR2 hun hl4 hc hcan
  go_enter Try.func5, Try.ntmps5
  go_wp2_with fail
  refine (examples_any _).mono ?_
  rintro e w1 ⟨rfl, hb1⟩
  have HB1 := Lib.hid hb1
  clear hb1
  go_wp2_with fail
  refine (unpacked_good ho (HW2.out.below HB1.out) HUN.out).mono ?_
  rintro e w2 ⟨hb2, a3, n3, a4, n4, rfl, hr3, hr4⟩
  have HB2 : Hid (Below w.heap.size w w2) := HB1.out.trans (hb2.mono HB1.out.size)
  have HR3 := Lib.hid hr3
  have HR4 := Lib.hid (hr4.below hb2)
  have HN4 : Hid (n4 ≤ 300) := by
    have := hr4.hl
    have h' := HW2.out.hl
    rw [List.length_drop] at this
    show _ ≤ _
    omega
  clear hb2 hr3 hr4
  simp only [gotV]
  go_wp2_with fail
  have hbA : Below w2.heap.size w2 (w2.alloc (.cells #[.int .u64 0, .slice a3 n3 n3, .slice a4 n4 n4, .int .i64 0] 37)) := (Below.refl _ _).alloc (Nat.le_refl _) _
  refine (packed_any hz (by have := HR3.out.hl; have := HL4.out; omega) (HR3.out.below hbA)).mono ?_
  rintro e w3 ⟨gp, cp, rfl, hrp, hb3⟩
  have hq := (Quad.new w2 37 (.int .u64 0) (.slice a3 n3 n3) (.slice a4 n4 n4) (.int .i64 0)).below hb3 (by simp)
  have HB3 : Hid (Below w.heap.size w w3) := (HB2.out.trans (hbA.mono HB2.out.size)).trans (hb3.mono (HB2.out.trans (hbA.mono HB2.out.size)).size)
  have HR5 : Hid (Rd (fun b => b < w.heap.size) w3 .u8 a4 n4 n4 (bs.drop c)) := (HR4.out.below hbA).below hb3
  have hpl := pack_len zs hz HL4.out
  obtain ⟨lp, hlp⟩ : ∃ lp, (packS zs).length = lp := ⟨_, rfl⟩
  rw [hlp] at hrp hpl ⊢
  obtain ⟨G, hG⟩ : ∃ G, w2.heap.size = G := ⟨_, rfl⟩
  rw [hG] at hq ⊢
  have hq2 := hq.cell.2.2.1
  have hql := hq.lt
  have HP := Lib.hid hrp
  have HLP := Lib.hid hlp
  clear hrp hb3 hlp hbA hG hq HR3 HR4
  go_wp2_with fail
  have hbV : Below w3.heap.size w3 (w3.alloc (.cells #[.slice (some ⟨gp, 0, none⟩) lp cp, .int .i64 0] 28)) := (Below.refl _ _).alloc (Nat.le_refl _) _
  have hPV := Pair.new w3 28 (.slice (some ⟨gp, 0, none⟩) lp cp) (.int .i64 0)
  obtain ⟨B, hB⟩ : ∃ B, w3.heap.size = B := ⟨_, rfl⟩
  have hqv : (w3.alloc (.cells #[.slice (some ⟨gp, 0, none⟩) lp cp, .int .i64 0] 28)).cell? ⟨G, 2, none⟩ = some (.slice a4 n4 n4) := (hbV.cell (p := ⟨G, 2, none⟩) hql).trans hq2
  have hqvl : G < (w3.alloc (.cells #[.slice (some ⟨gp, 0, none⟩) lp cp, .int .i64 0] 28)).heap.size := Nat.lt_of_lt_of_le hql hbV.size
  rw [hB] at hPV ⊢
  have hp0 := hPV.c0
  have hp1 := hPV.c1
  have hpf := hPV.lt
  have HV2 : Hid (Rd (fun b => b < w.heap.size) (w3.alloc (.cells #[.slice (some ⟨gp, 0, none⟩) lp cp, .int .i64 0] 28)) .u8 a4 n4 n4 (bs.drop c)) := HR5.out.below hbV
  have HVP : Hid (Rd (fun _ => True) (w3.alloc (.cells #[.slice (some ⟨gp, 0, none⟩) lp cp, .int .i64 0] 28)) .u8 (some ⟨gp, 0, none⟩) lp cp (packS zs)) := (HP.out.below hbV).mono fun _ _ _ => trivial
  have HBV : Hid (Below w.heap.size w (w3.alloc (.cells #[.slice (some ⟨gp, 0, none⟩) lp cp, .int .i64 0] 28))) := HB3.out.trans (hbV.mono HB3.out.size)
  clear hbV hPV hq2 hql
  generalize w3.alloc (.cells #[.slice (some ⟨gp, 0, none⟩) lp cp, .int .i64 0] 28) = V at *
  clear HB3 HP HR5 hB HB2
  have hsv : w.heap.size ≤ V.heap.size := HBV.out.size
  go_region_law (first
    | (obtain ⟨g5, c5, w5, hr5, hrow5, hg5, hc5, hbg5⟩ := run_append_copy' (V.drew.alloc (.cells #[] 5)) w.heap.size 23 23 5 i0 _ 1 .u8 Try.underlying23 hi hz0 hz1 hz2 rfl V.heap.size 0 (World.ownsRow_made V.drew #[] 0 hsv (by decide) rfl) (.slice (some ⟨gp, 0, none⟩) lp cp) (packS zs) lp HLP.out.symm ((HVP.out.below (below_drew (Below.refl _ V))).below ((Below.refl _ _).alloc (Nat.le_refl _) _)).reads (by unfold maxLen; omega) (by omega) ((below_drew HBV.out).alloc hsv (.cells #[] 5)).size
       refine step_append_want (by go_simp) (.tmp 46) (.tmp 48) 23 23 (by rfl) (.slice (some ⟨V.heap.size, 0, none⟩) 0 0) (.slice (some ⟨gp, 0, none⟩) lp cp) (by go_simp) (by go_simp) _ _ hr5 ?_
       have HROW5 := Lib.hid hrow5
       have HK5 : Hid (Below V.heap.size V w5) := (below_drew ((Below.refl _ V))).trans (((Below.refl _ V.drew).alloc (Nat.le_refl _) (.cells #[] 5)).grown hg5 (by simp) (fun k e => by cases e; exact Nat.le_refl _))
       have HB5 : Hid (Below w.heap.size w w5) := HBV.out.trans (HK5.out.mono hsv)
       have hq5 := (HK5.out.cell (p := ⟨G, 2, none⟩) hqvl).trans hqv
       clear hr5 hrow5 hg5 hc5 hbg5)
    | (obtain ⟨g6, c6, w6, hr6, hrow6, hg6, hc6, hbg6⟩ := run_append_reads w5 w.heap.size 23 23 5 i0 _ 1 .u8 Try.underlying23 hi hz0 hz1 hz2 rfl g5 lp c5 _ HROW5.out (.slice a4 n4 n4) (bs.drop c) n4 HV2.out.hl (HV2.out.below HK5.out).reads (by have := HN4.out; unfold maxLen; omega) (by have := HN4.out; omega) HB5.out.size
       refine step_append_want (by go_simp) (.tmp 49) (.tmp 51) 23 23 (by rfl) (.slice (some ⟨g5, 0, none⟩) lp c5) (.slice a4 n4 n4) (by go_simp) (by go_simp) _ _ hr6 ?_
       have HB6 : Hid (Below w.heap.size w w6) := HB5.out.grown hg6 HB5.out.size (fun k e => by cases e; exact row_base HROW5.out)
       have HR6 : Hid (Rd (fun b => w.heap.size ≤ b) w6 .u8 (some ⟨g6, 0, none⟩) (lp + n4) c6 bs) := by
         have h := Rd.of_row (zs := packS zs ++ bs.drop c) (by rw [List.length_append, HLP.out, ← HV2.out.hl]) hc6 (by have := HN4.out; omega) (by rw [List.map_append]; exact hrow6)
         rwa [HCAN.out] at h
       clear hr6 hrow6 hg6 hc6 hbg6)
    | (refine step_call_want (by go_simp) 12 #[.tmp 52, .tmp 53] #[23, 23] (by rfl) #[.slice (some ⟨g6, 0, none⟩) (lp + n4) c6, .slice a2 n2 c2] (by go_simp) (enters_of Try.func12 (by kernel_rfl) rfl _ _) _ _ (same_any HR6.out (HW2.out.kept (Kept.of_below HB6.out))) ?_
       intro w8 hb8
       have HB8 : Hid (Below w.heap.size w w8) := HB6.out.trans (hb8.mono HB6.out.size)
       have hsame : sameB bs bs = true := sameB_true rfl
       clear hb8)
    | (trace_state; fail "STOP"))
  all_goals
    simp [Act.put]
    go_wp2
    go_ret
    exact ⟨rfl, HB8.out⟩

end Go.Proofs.Ytdgihmekljeocaa.bitpackCanonical
