/-
  The byte form of a value.
-/
import Derived.Test.YtocnkjnlmciojaaGreatDoorVlTextf
import Derived.Lib.AppendStr
import Derived.Lib.IndexBytes
import Derived.OwnWalk
namespace Go.Proofs.YtocnkjnlmciojaaGreatDoor
open Go Go.RowKit Go.Shelf Go.ChangeShapes Go.WideShapes Go.ChangeAt

def bytesV (v : Vl) : List Int := if v.k = 1 then [1, v.i] else if v.k = 2 then 2 :: varN (zz v.i).toNat else if v.k = 3 then 3 :: (varN v.s.length ++ strI v.s) else [0]

/-- Some of what a call gives back is not named. -/
theorem step6_some {P : Program} {ops : Array Oper} {o : Oper} {a : Act} {w : World} {K : Act → World → Prop} {Q : Exit → Act → World → Prop} {E : Prop} (hw : Region.wanted o (yielded ops a.tmps) = true) (f : FuncId) (args : Array Operand) (ts : Array TypeId)
    (ho : o.op = .call { callee := .value (.func f), args := args, argTypes := ts }) (vals : Array Value) (hs : args.map a.eval = vals) (eg : (callFunc f vals).run P w = .ok (.enter f vals) w)
    (R : Value → World → Prop) (hc : Calls P f vals w fun e w' => ∃ v, e = .returned v ∧ R v w') (hK : ∀ v w', R v w' → K (a.put o.dst v) w') : if Region.wanted o (yielded ops a.tmps) = true then Oper.wp P o a w K Q else E := by
  rw [if_pos hw]
  unfold Oper.wp
  simp [execOp, ho, resolve, invoke, hs, eg, go_sem]
  exact hc.mono fun e w' ⟨v, he, hr⟩ => by subst he; exact hK v w' hr
/-- An append whose run is known. -/
theorem step6_append {P : Program} {ops : Array Oper} {o : Oper} {a : Act} {w : World} {K : Act → World → Prop} {Q : Exit → Act → World → Prop} {E : Prop} (hw : Region.wanted o (yielded ops a.tmps) = true) (s x : Operand) (t tn : TypeId)
    (ho : o.op = .call { callee := .builtin .append, args := #[s, x], argTypes := #[t, tn] }) (vs vx : Value) (hs : a.eval s = vs) (hx : a.eval x = vx)
    (v' : Value) (w' : World) (hr : (Builtin.append_ #[t, tn] o.type #[vs, vx]).run P w = .ok v' w') (hK : K (a.put o.dst v') w') : if Region.wanted o (yielded ops a.tmps) = true then Oper.wp P o a w K Q else E := by
  rw [if_pos hw]
  unfold Oper.wp
  simp [execOp, ho, resolve, invoke, builtin, hs, hx, hr, Result.andThen]
  exact hK

/-- A row that is laid is the call's own. -/
theorem own_new (W : World) (t : TypeId) (k : IntKind) (zs : List Int) (n base : Nat) (hn : n = zs.length) (hs : n ≤ 1000000) (hb : base ≤ W.heap.size) :
    (W.alloc (.cells (zs.map (Value.int k)).toArray t)).ownsRow base t 1 (.slice (some ⟨W.heap.size, 0, none⟩) n n) n (zs.map (Value.int k)) :=
  ⟨by simp [hn], .inr ⟨W.heap.size, n, (zs.map (Value.int k)).toArray, rfl, hb, World.alloc_heap_new W _, Nat.le_refl _, by unfold maxLen; omega, by simp [hn], by subst hn; rw [Nat.mul_one]; exact List.take_of_length_le (by simp)⟩⟩

theorem strCells_bs (s : List UInt8) : Lib.strCells (bsOf s) = (strI s).map (Value.int .u8) := by
  unfold Lib.strCells strI
  rw [bs_data, List.map_map]; rfl

set_option maxRecDepth 100000 in
set_option maxHeartbeats 4000000 in
theorem byteForm_any (v : Vl) (hv : v.Ok) (hw : widV v = true) (w : World) : Calls Tryz.prog 102 #[encV v] w fun e w' => Makes w e w' (bytesV v) := by
  obtain ⟨i0, hi, hz0, hz1, hz2⟩ := info_parts Tryz.infoB
  obtain ⟨k, i, s⟩ := v
  have hii : I64 i := hv.i
  have hs : s.length ≤ 1048576 := hv.s
  have hp := wid_parts hw
  clear hv hw
  unfold encV
  dsimp only at hp ⊢
  have hW : w.heap.size ≤ (w.alloc (.cells #[.int .i64 k, .int .i64 i, .string (bsOf s)] 45)).heap.size := by simp
  have hb0 := (Below.refl w.heap.size w).alloc (Nat.le_refl _) (.cells #[.int .i64 k, .int .i64 i, .string (bsOf s)] 45)
  have hb1 : ∀ x : Int, Below w.heap.size w ((w.alloc (.cells #[.int .i64 k, .int .i64 i, .string (bsOf s)] 45)).alloc (.cells #[.int .u8 x] 5)) := fun x => hb0.alloc hW _
  have hrow : ∀ x : Int, ((w.alloc (.cells #[.int .i64 k, .int .i64 i, .string (bsOf s)] 45)).alloc (.cells #[.int .u8 x] 5)).ownsRow w.heap.size 5 1 (.slice (some ⟨w.heap.size + 1, 0, none⟩) 1 1) 1 ([x].map (Value.int .u8)) := fun x => by
    have := own_new (w.alloc (.cells #[.int .i64 k, .int .i64 i, .string (bsOf s)] 45)) 5 .u8 [x] 1 w.heap.size rfl (by decide) hW
    rw [World.size_alloc] at this
    exact this
  rcases hp with ⟨rfl, rfl, rfl⟩ | ⟨rfl, h1, rfl⟩ | ⟨rfl, rfl⟩ | ⟨rfl, rfl, _⟩
  · have HB := Lib.hid (hb1 0)
    have HR := Lib.hid (hrow 0)
    clear hb0 hb1 hrow hW
    go_enter Tryz.func102, Tryz.ntmps102
    go_wp2
    go_ret
    exact ⟨_, _, rfl, Nat.le_refl _, HR.out, HB.out⟩
  · have HT : Hid (Tail w.heap.size 5 .u8 _ (.slice (some ⟨w.heap.size + 1, 0, none⟩) 1 1) [1]) := Tail.row (zs := [1]) rfl (hrow 1)
    have HB := Lib.hid (hb1 1)
    have hwi : IntKind.u8.wrap i = i := by rcases h1 with rfl | rfl <;> decide
    obtain ⟨g, c, wX, hr, hX', hbX, hcX⟩ := tail_append _ w.heap.size 42 42 5 i0 _ 1 .u8 Tryz.underlying42 hi hz0 hz1 hz2 rfl _ [1] HT.out i 5 (by decide) (by decide) (HB.out.size)
    have HBX : Hid (Below w.heap.size w wX) := HB.out.trans hbX
    have HX := Lib.hid hX'
    have HR := Lib.hid hr
    have HV : Hid (bytesV ⟨1, i, []⟩ = [1, i]) := rfl
    clear hb0 hb1 hrow hW hr hX' hbX h1 hii
    simp only [World.size_alloc, List.length_cons, List.length_nil, Nat.zero_add, Nat.reduceAdd] at HR HX hcX
    go_enter Tryz.func102, Tryz.ntmps102
    go_wp2_with (at_builtin; refine wpList_append_want (o := ⟨some 17, _, _, _, _, _⟩) _ rfl _ _ _ _ rfl _ _ rfl rfl _ _ HR.out ?_)
    go_ret
    exact ⟨g, c, rfl, hcX, HX.out, HBX.out⟩
  · have HR : Hid (Rd (fun _ => True) _ .u8 (some ⟨w.heap.size + 1, 0, none⟩) 1 1 [2]) := (Rd.of_row (zs := [2]) rfl (Nat.le_refl _) (by decide) (hrow 2)).mono fun _ _ _ => trivial
    have HB := Lib.hid (hb1 2)
    have hu := zz_u64 hii
    have HZ := Lib.hid (zigzag_any i hii)
    obtain ⟨u, hu2⟩ : ∃ u : Nat, zz i = u := ⟨(zz i).toNat, by have := hu.1; omega⟩
    have hub : u < 18446744073709551616 := by have := hu.2; omega
    have HV : Hid (bytesV ⟨2, i, []⟩ = [2] ++ varN u) := by show [2] ++ varN (zz i).toNat = _; rw [hu2]; rfl
    rw [hu2] at HZ
    clear hb0 hb1 hrow hW hu hu2 hii
    go_enter Tryz.func102, Tryz.ntmps102
    go_wp2_with (go_at_call 135; (refine (HZ.out _).mono ?_); rintro e w' ⟨rfl, rfl⟩)
    refine (varint_any _ _ 1 1 [2] u hub _ HR.out (by decide)).mono ?_
    rintro e w4 ⟨g, c, rfl, hfit, hrow, hb⟩
    have HRW := Lib.hid hrow
    have HBW : Hid (Below w.heap.size w w4) := HB.out.trans (hb.mono HB.out.size)
    have HSZ := Lib.hid HB.out.size
    rw [← HV.out] at *
    clear hb hrow
    go_wp2
    go_ret
    exact ⟨g, c, rfl, hfit, HRW.out.mono HSZ.out, HBW.out⟩
  · have HR : Hid (Rd (fun _ => True) _ .u8 (some ⟨w.heap.size + 1, 0, none⟩) 1 1 [3]) := (Rd.of_row (zs := [3]) rfl (Nat.le_refl _) (by decide) (hrow 3)).mono fun _ _ _ => trivial
    have HB := Lib.hid (hb1 3)
    have HT : Hid (Trio _ w.heap.size 45 (.int .i64 3) (.int .i64 0) (.string (bsOf s))) := (Trio.new w 45 (.int .i64 3) (.int .i64 0) (.string (bsOf s))).below (V := (w.alloc (.cells #[.int .i64 3, .int .i64 0, .string (bsOf s)] 45)).alloc (.cells #[.int .u8 3] 5)) ((Below.refl (w.alloc (.cells #[.int .i64 3, .int .i64 0, .string (bsOf s)] 45)).heap.size _).alloc (Nat.le_refl _) _) (by simp)
    have HSC := Lib.hid (strCells_bs s)
    have HBZ := Lib.hid (bs_size s)
    have HV : Hid (bytesV ⟨3, 0, s⟩ = [3] ++ varN s.length ++ strI s) := by show [3] ++ (varN s.length ++ strI s) = _; rw [List.append_assoc]
    have HLS := Lib.hid (strI_len s)
    obtain ⟨n, hn⟩ : ∃ n, s.length = n := ⟨_, rfl⟩
    rw [hn] at hs HV HBZ HLS
    have hszB : (bsOf s).size = n := HBZ.out
    have hcu : IntKind.u64.wrap (n : Int) = n := by simp [IntKind.wrap, IntKind.bits, IntKind.signed]; omega
    clear hb0 hb1 hrow hW hn
    generalize bsOf s = S at *
    generalize strI s = ss at *
    go_enter Tryz.func102, Tryz.ntmps102
    go_upto_region 8 with fail
    obtain ⟨B, hB⟩ : ∃ B, w.heap.size = B := ⟨_, rfl⟩
    rw [hB] at HT HR ⊢
    have HZ := Lib.hid hB
    clear hB
    generalize (w.alloc (.cells #[.int .i64 3, .int .i64 0, .string S] 45)).alloc (.cells #[.int .u8 3] 5) = V at *
    have c0 := HT.out.c0
    have c1 := HT.out.c1
    have c2 := HT.out.c2
    have clt := HT.out.lt
    obtain ⟨m, hm⟩ : ∃ m, ([3] ++ varN n).length = m := ⟨_, rfl⟩
    have hm11 : m ≤ 11 := by
      have := var_len (u := n) (by omega)
      rw [← hm, List.length_append]; simp; omega
    have HM := Lib.hid hm
    have HC : Hid (Calls Tryz.prog 109 #[.slice (some ⟨B + 1, 0, none⟩) 1 1, .int .u64 n] V.drew fun e w' => ∃ v, e = .returned v ∧ ∃ g c, v = .slice (some ⟨g, 0, none⟩) m c ∧ m ≤ c ∧ w'.ownsRow V.heap.size 5 1 (.slice (some ⟨g, 0, none⟩) m c) m (([3] ++ varN n).map (Value.int .u8)) ∧ Below V.heap.size V w') :=
      (varint_any (fun _ => True) (some ⟨B + 1, 0, none⟩) 1 1 [3] n (by omega) V.drew (HR.out.heap rfl) (by decide)).mono fun e w' ⟨g, c, he, h1, h2, h3⟩ => by
        rw [hm] at he h1 h2
        exact ⟨_, he, g, c, rfl, h1, h2, (below_drewN (Below.self V) 1).trans h3⟩
    clear hm
    go_region_law (first
      | (refine step6_some (by rfl) 109 #[.tmp 27, .tmp 31] #[42, 66] (by rfl) #[.slice (some ⟨B + 1, 0, none⟩) 1 1, .int .u64 n] (by go_simp) (enters_of Tryz.func109 (by kernel_rfl) rfl _ _) _ HC.out ?_
         rintro v w4 ⟨g, c, rfl, hfit, hrow, hb⟩
         have d2 := (hb.cell (p := ⟨B, 2, none⟩) clt).trans c2
         have HB4 : Hid (Below V.heap.size V w4) := hb
         have HRW := Lib.hid hrow
         clear hb hrow)
      | (obtain ⟨v5, w5, hr5, hown5, hgr5, hnil5⟩ := Lib.run_append_own_string (P := Tryz.prog) w4 V.heap.size 42 9 42 5 i0 Tryz.underlying42 Tryz.underlying9 hi hz0 hz1 hz2 _ m _ HRW.out S (by rw [hszB]; unfold maxLen; omega) (by rw [hszB]; omega) HB4.out.size
         obtain ⟨g5, c5, rfl, hn5, hb5⟩ := row_form hown5 (fun e => by have := (hnil5.1 e).1; cases this)
         refine step6_append (by rfl) (.tmp 32) (.tmp 34) 42 9 (by rfl) _ _ (by go_simp) (by go_simp) _ _ hr5 ?_
         have HB5 : Hid (Below V.heap.size V w5) := HB4.out.grown hgr5 HB4.out.size (fun r e => by cases e; exact row_base HRW.out)
         have HO5 := Lib.hid hown5
         clear hr5 hown5 hgr5 hnil5))
    all_goals
      simp [Act.put]
      go_wp2
      go_ret
      rw [hszB] at hn5 HO5
      have hlen : m + n = (bytesV ⟨3, 0, s⟩).length := by rw [HV.out, List.length_append, HM.out, HLS.out]
      have hO := HO5.out
      rw [HSC.out, ← List.map_append, ← HV.out, hlen] at hO
      rw [hlen] at hn5
      refine ⟨g5, c5, ?_, hn5, hO.mono HB.out.size, HB.out.trans (HB5.out.mono HB.out.size)⟩
      rw [← hlen]; simp

end Go.Proofs.YtocnkjnlmciojaaGreatDoor
