/-
  What was packed is read back: for all lists and bytes the law returns true and changes nothing. No condition.
-/
import Derived.Test.YtdgihmekljeocaaRows
import Derived.Test.YtdgihmekljeocaaPkEx2
import Derived.Test.YtdgihmekljeocaaPkInvMath
import Derived.OpenShut
namespace Go.Proofs.Ytdgihmekljeocaa.bitpackInverse
open Go.ChangeShapes Go.WideShapes Go.ChangeAt Go.RowKit
open Go.Proofs.Ytdgihmekljeocaa

/-- A call that is wanted, some of whose result is not named, as a step of a region that draws its order. -/
theorem step_call_some {P : Program} {ops : Array Oper} {o : Oper} {a : Act} {w : World} {K : Act → World → Prop} {Q : Exit → Act → World → Prop} {E : Prop} (hw : Region.wanted o (yielded ops a.tmps) = true) (f : FuncId) (args : Array Operand) (ts : Array TypeId)
    (ho : o.op = .call { callee := .value (.func f), args := args, argTypes := ts }) (vals : Array Value) (hs : args.map a.eval = vals) (eg : (callFunc f vals).run P w = .ok (.enter f vals) w)
    (R : Value → World → Prop) (hc : Calls P f vals w fun e w' => ∃ v, e = .returned v ∧ R v w') (hK : ∀ v w', R v w' → K (a.put o.dst v) w') : if Region.wanted o (yielded ops a.tmps) = true then Oper.wp P o a w K Q else E := by
  rw [if_pos hw]
  unfold Oper.wp
  simp [execOp, ho, resolve, invoke, hs, eg, go_sem]
  exact hc.mono fun e w' ⟨v, he, hr⟩ => by subst he; exact hK v w' hr

/-- An append that is wanted, whose run is known, as a step of a region that draws its order. -/
theorem step_append_want {P : Program} {ops : Array Oper} {o : Oper} {a : Act} {w : World} {K : Act → World → Prop} {Q : Exit → Act → World → Prop} {E : Prop} (hw : Region.wanted o (yielded ops a.tmps) = true) (s x : Operand) (t tn : TypeId)
    (ho : o.op = .call { callee := .builtin .append, args := #[s, x], argTypes := #[t, tn] }) (vs vx : Value) (hs : a.eval s = vs) (hx : a.eval x = vx)
    (v' : Value) (w' : World) (hr : (Builtin.append_ #[t, tn] o.type #[vs, vx]).run P w = .ok v' w') (hK : K (a.put o.dst v') w') : if Region.wanted o (yielded ops a.tmps) = true then Oper.wp P o a w K Q else E := by
  rw [if_pos hw]
  unfold Oper.wp
  simp [execOp, ho, resolve, invoke, builtin, hs, hx, hr, Result.andThen]
  exact hK

/-- A row of the call's own, and a slice that came in, appended to it. -/
theorem run_append_reads {P : Program} (w : World) (base : Nat) (t ty e : TypeId) (i : TypeInfo) (z : Value) (bytes : Nat) (k : IntKind) (ht : P.underlying t = some (.slice e)) (hi : P.info? e = some i) (hz : i.zero = some z)
    (hsize : i.size = 1) (hby : i.bytes = bytes) (hzs : z.cells.size = 1) (g0 n cap0 : Nat) (xs : List Value) (hown : w.ownsRow base e 1 (.slice (some ⟨g0, 0, none⟩) n cap0) n xs)
    {K : Nat → Prop} (sv : Value) (zs : List Int) (len : Nat) (hlen : Hid (len = zs.length)) (hR : ReadsK K w k sv zs) (h63 : n + len ≤ maxLen) (hbytes : (n + len) * bytes ≤ 140737488355328) (hbase : base ≤ w.heap.size) :
    ∃ g cap w', (Builtin.append_ #[t, t] ty #[.slice (some ⟨g0, 0, none⟩) n cap0, sv]).run P w = .ok (.slice (some ⟨g, 0, none⟩) (n + len) cap) w' ∧
      w'.ownsRow base e 1 (.slice (some ⟨g, 0, none⟩) (n + len) cap) (n + len) (xs ++ zs.map (Value.int k)) ∧ w.grownBy w' (some g0) ∧ n + len ≤ cap ∧ base ≤ g := by
  obtain rfl : len = zs.length := hlen
  rcases hR with ⟨a, c, rfl, rfl⟩ | ⟨b, off, c, rfl, _, _, hc⟩
  · obtain ⟨g, cap, e1, hn, hb⟩ := row_form hown (by simp)
    obtain ⟨rfl, rfl⟩ : g0 = g ∧ cap0 = cap := by cases e1; exact ⟨rfl, rfl⟩
    exact ⟨g0, cap0, w, run_append_empty w t ty e i ht hi _ n cap0 hn a c, by simpa using hown, ⟨rfl, rfl, rfl, Nat.le_refl _, fun _ _ _ => rfl⟩, hn, hb⟩
  · obtain ⟨v', w', hr, h1, h2, h3⟩ := run_append_own (P := P) w base t ty e i z 1 bytes ht hi hz hsize hby hzs (by decide) _ n xs hown ⟨b, off, none⟩ zs.length c (zs.map (Value.int k)) (by simp)
      (fun j u hu => by
        rw [List.getElem?_map] at hu
        cases hj : zs[j]? with
        | none => rw [hj] at hu; cases hu
        | some x =>
          rw [hj] at hu
          have hlt := (List.getElem?_eq_some_iff.1 hj).1
          have := hc j hlt
          rw [hj] at this
          rw [add_plain, this]
          exact hu)
      (fun u hu => by obtain ⟨x, _, rfl⟩ := List.mem_map.1 hu; rfl) (by omega) hbytes hbase
    have hne : ¬ v' = .slice none 0 0 := fun e => by have := (h3.1 e).1; cases this
    obtain ⟨g, cap, rfl, hn, hb⟩ := row_form h1 hne
    exact ⟨g, cap, w', hr, h1, h2, hn, hb⟩

theorem head_oct (zs : List Int) : Oct (headS zs) := by
  unfold headS
  split
  · exact var_oct 0
  · refine ((var_oct _).append (var_oct _)).append fun x hx => ?_
    rw [List.mem_singleton] at hx
    have := width_le zs
    omega
theorem size_pack (zs : List Int) : sizeS zs = (packS zs).length := by
  have hgl : (gatherS (bitsS zs) (spaceS zs)).length = spaceS zs := gB_length _ _ _
  unfold sizeS packS
  rw [List.length_append, hgl]

set_option maxRecDepth 100000 in
set_option maxHeartbeats 40000000 in
theorem walk {K1 K2 : Nat → Prop} {a1 a2 : Option Addr} {n1 c1 n2 c2 : Nat} {zs bs : List Int} (hz : Smalls zs) (ho : Oct bs) (h1 : n1 ≤ 300) (h2 : n2 ≤ 300) (w : World) (hR1 : Rd K1 w .i64 a1 n1 c1 zs) (hR2 : Rd K2 w .u8 a2 n2 c2 bs) :
    Calls Try.prog 4 #[.slice a1 n1 c1, .slice a2 n2 c2] w fun e w' => e = .returned (.bool true) ∧ Below w.heap.size w w' := by
  obtain ⟨i0, hi, hz0, hz1, hz2⟩ := info_parts Try.infoB
  have H1 := Lib.hid hR1
  have H2 := Lib.hid hR2
  have HW1 : Hid (Rd (fun b => b < w.heap.size) w .i64 a1 n1 c1 zs) := hR1.mono fun b h _ => h
  have HW2 : Hid (Rd (fun b => b < w.heap.size) w .u8 a2 n2 c2 bs) := hR2.mono fun b h _ => h
  clear hR1 hR2
  go_enter Try.func4, Try.ntmps4
  go_wp2_with fail
  refine (examples_any _).mono ?_
  rintro e w1 ⟨rfl, hb1⟩
  have HB1 := Lib.hid hb1
  clear hb1
  go_wp2_with fail
  have hl := H1.out.hl
  refine (packed_any hz (by omega) (H1.out.below HB1.out)).mono ?_
  rintro e w2 ⟨gp, cp, rfl, hrp, hb2⟩
  have hpl := pack_len zs hz (by omega)
  obtain ⟨lp, hlp⟩ : ∃ lp, (packS zs).length = lp := ⟨_, rfl⟩
  rw [hlp] at hrp hpl ⊢
  have HP := Lib.hid hrp
  have HB2 : Hid (Below w.heap.size w w2) := HB1.out.trans (hb2.mono HB1.out.size)
  have HLP := Lib.hid hlp
  clear hrp hb2 hlp hl
  go_wp2_with fail
  have hbV : Below w2.heap.size w2 (w2.alloc (.cells #[.slice (some ⟨gp, 0, none⟩) lp cp, .int .i64 0] 28)) := (Below.refl _ _).alloc (Nat.le_refl _) _
  have hPV := Pair.new w2 28 (.slice (some ⟨gp, 0, none⟩) lp cp) (.int .i64 0)
  obtain ⟨B, hB⟩ : ∃ B, w2.heap.size = B := ⟨_, rfl⟩
  rw [hB] at hPV ⊢
  have hp0 := hPV.c0
  have hp1 := hPV.c1
  have hpf := hPV.lt
  have HV1 : Hid (Rd K1 (w2.alloc (.cells #[.slice (some ⟨gp, 0, none⟩) lp cp, .int .i64 0] 28)) .i64 a1 n1 c1 zs) := (H1.out.below HB2.out).below hbV
  have HV2 : Hid (Rd K2 (w2.alloc (.cells #[.slice (some ⟨gp, 0, none⟩) lp cp, .int .i64 0] 28)) .u8 a2 n2 c2 bs) := (H2.out.below HB2.out).below hbV
  have HVP : Hid (Rd (fun b => w1.heap.size ≤ b) (w2.alloc (.cells #[.slice (some ⟨gp, 0, none⟩) lp cp, .int .i64 0] 28)) .u8 (some ⟨gp, 0, none⟩) lp cp (packS zs)) := HP.out.below hbV
  have HBV : Hid (Below w.heap.size w (w2.alloc (.cells #[.slice (some ⟨gp, 0, none⟩) lp cp, .int .i64 0] 28))) := HB2.out.trans (hbV.mono HB2.out.size)
  have HPV := Lib.hid hPV
  clear hbV hPV
  generalize w2.alloc (.cells #[.slice (some ⟨gp, 0, none⟩) lp cp, .int .i64 0] 28) = V at *
  clear HB2 HP H1 H2 hB
  have HSZ : Hid (∀ W, Rd K1 W .i64 a1 n1 c1 zs → Calls Try.prog 13 #[.slice a1 n1 c1] W fun e W' => e = .returned (.int .i64 (lp : Nat)) ∧ Below W.heap.size W W') := fun W h => by
    have := size_any hz (by omega) h
    rwa [size_pack, HLP.out] at this
  have HO : Hid (Oct (packS zs ++ bs)) := by
    refine Oct.append ?_ ho
    unfold packS
    exact Oct.append (head_oct zs) (gather_oct _ (bitsS_bin zs) _)
  have HUN : Hid (unS (packS zs ++ bs) = (zs, lp, 0)) := by
    have := un_pack hz (by have := HV1.out.hl; omega) bs
    rwa [HLP.out] at this
  have HDR : Hid ((packS zs ++ bs).drop lp = bs) := List.drop_left' HLP.out
  have HUNP : Hid (∀ {g c : Nat} {W : World}, Rd (fun b => w.heap.size ≤ b) W .u8 (some ⟨g, 0, none⟩) (lp + n2) c (packS zs ++ bs) → Calls Try.prog 24 #[.slice (some ⟨g, 0, none⟩) (lp + n2) c] W fun e W' =>
      ∃ v, e = .returned v ∧ (Below W.heap.size W W' ∧ ∃ a3 n3 a4 n4, v = gotV 0 (.slice a3 n3 n3) (.slice a4 n4 n4) 0 ∧ Rd (fun b => W.heap.size ≤ b) W' .i64 a3 n3 n3 zs ∧ Rd (fun b => w.heap.size ≤ b) W .u8 a4 n4 n4 bs)) := fun {g c W} h =>
    (unpacked_good HO.out h HUN.out).mono fun e W' ⟨hb, a3, n3, a4, n4, he, hr1, hr2⟩ => ⟨_, he, hb, a3, n3, a4, n4, rfl, hr1, by rwa [HDR.out] at hr2⟩
  go_region_law (first
    | (refine step_call_want (by go_simp) 13 #[.tmp 28] #[22] (by rfl) #[.slice a1 n1 c1] (by go_simp) (enters_of Try.func13 (by kernel_rfl) rfl _ _) _ _ (HSZ.out _ (HV1.out.below (below_drew (Below.refl _ _)))) ?_; intro w3 hb3; have hb4 := (below_drew (Below.refl V.heap.size V)).trans hb3; have hp3 := (hb4.cell (p := ⟨B, 0, none⟩) hpf).trans hp0; have hp4 : B < w3.heap.size := Nat.lt_of_lt_of_le hpf hb4.size; have HB4 := Lib.hid hb4; clear hb3 hb4)
    | (obtain ⟨g5, c5, w5, hr5, hrow5, hg5, hc5, hbg5⟩ := run_append_copy' (w3.alloc (.cells #[] 5)) w.heap.size 23 23 5 i0 _ 1 .u8 Try.underlying23 hi hz0 hz1 hz2 rfl w3.heap.size 0 (World.ownsRow_made _ #[] 0 (HBV.out.trans (HB4.out.mono HBV.out.size)).size (by decide) rfl) (.slice (some ⟨gp, 0, none⟩) lp cp) (packS zs) lp HLP.out.symm ((HVP.out.below HB4.out).below ((Below.refl _ _).alloc (Nat.le_refl _) _)).reads (by unfold maxLen; omega) (by omega) ((HBV.out.trans (HB4.out.mono HBV.out.size)).alloc (HBV.out.trans (HB4.out.mono HBV.out.size)).size (.cells #[] 5)).size
       refine step_append_want (by go_simp) (.tmp 33) (.tmp 35) 23 23 (by rfl) (.slice (some ⟨w3.heap.size, 0, none⟩) 0 0) (.slice (some ⟨gp, 0, none⟩) lp cp) (by go_simp) (by go_simp) _ _ hr5 ?_
       have HROW5 := Lib.hid hrow5; have HB3' := Lib.hid (HBV.out.trans (HB4.out.mono HBV.out.size))
       have HB5 : Hid (Below w.heap.size w w5) := (HB3'.out.alloc HB3'.out.size (.cells #[] 5)).grown hg5 (HB3'.out.alloc HB3'.out.size _).size (fun k e => by cases e; exact HB3'.out.size)
       have HK5 : Hid (Below w3.heap.size w3 w5) := ((Below.refl _ w3).alloc (Nat.le_refl _) (.cells #[] 5)).grown hg5 (by simp) (fun k e => by cases e; exact Nat.le_refl _)
       clear hr5 hrow5 hg5 hc5 hbg5)
    | (obtain ⟨g6, c6, w6, hr6, hrow6, hg6, hc6, hbg6⟩ := run_append_reads w5 w.heap.size 23 23 5 i0 _ 1 .u8 Try.underlying23 hi hz0 hz1 hz2 rfl g5 lp c5 _ HROW5.out (.slice a2 n2 c2) bs n2 HV2.out.hl ((HV2.out.below HB4.out).below HK5.out).reads (by unfold maxLen; omega) (by omega) HB5.out.size
       refine step_append_want (by go_simp) (.tmp 36) (.tmp 37) 23 23 (by rfl) (.slice (some ⟨g5, 0, none⟩) lp c5) (.slice a2 n2 c2) (by go_simp) (by go_simp) _ _ hr6 ?_
       have HB6 : Hid (Below w.heap.size w w6) := HB5.out.grown hg6 HB5.out.size (fun k e => by cases e; exact row_base HROW5.out)
       have HR6 : Hid (Rd (fun b => w.heap.size ≤ b) w6 .u8 (some ⟨g6, 0, none⟩) (lp + n2) c6 (packS zs ++ bs)) := Rd.of_row (by rw [List.length_append, HLP.out, ← HV2.out.hl]) hc6 (by omega) (by rw [List.map_append]; exact hrow6)
       have HG6 := Lib.hid hg6
       clear hr6 hrow6 hg6 hc6 hbg6)
    | (refine step_call_some (by go_simp) 24 #[.tmp 38] #[23] (by rfl) #[.slice (some ⟨g6, 0, none⟩) (lp + n2) c6] (by go_simp) (enters_of Try.func24 (by kernel_rfl) rfl _ _) _ (HUNP.out HR6.out) ?_
       rintro v7 w7 ⟨hb7, a3, n3, a4, n4, rfl, hr7, hr8⟩
       have HB7 : Hid (Below w.heap.size w w7) := HB6.out.trans (hb7.mono HB6.out.size)
       have HR7 := Lib.hid hr7; have HR8 := Lib.hid (hr8.below hb7)
       clear hb7 hr7 hr8)
    | (refine step_call_want (by go_simp) 21 #[.tmp 39, .tmp 42] #[37, 37] (by rfl) #[gotV 0 (.slice a3 n3 n3) (.slice a4 n4 n4) 0, .agg #[.int .u64 0, .slice a1 n1 c1, .slice a2 n2 c2, .int .i64 0]] (by go_simp) (enters_of Try.func21 (by kernel_rfl) rfl _ _) _ _ (equal_true 0 0 HR7.out HR8.out (HW1.out.kept (Kept.of_below HB7.out)) (HW2.out.kept (Kept.of_below HB7.out))) ?_
       intro w8 hb8
       have HB8 : Hid (Below w.heap.size w w8) := HB7.out.trans (hb8.mono HB7.out.size)
       clear hb8)
    | (trace_state; fail "STOP"))
  all_goals
    simp [Act.put]
    go_wp2
    go_ret
    exact ⟨rfl, HB8.out⟩

end Go.Proofs.Ytdgihmekljeocaa.bitpackInverse
