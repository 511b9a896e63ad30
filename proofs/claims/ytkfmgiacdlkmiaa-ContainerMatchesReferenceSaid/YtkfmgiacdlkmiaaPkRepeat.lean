/-
  A list of one element, repeated: the library's doubling copies, walked.
-/
import Derived.Test.YtkfmgiacdlkmiaaPkGather
import Derived.Laws.CopyRow
import Derived.Deep.RegionLaw
namespace Go.Proofs.Ytkfmgiacdlkmiaa
open Go.RowKit Go.Shelf Go.ChangeShapes Go.WideShapes Go.ChangeAt

theorem Try.infoI : (Try.prog.info? 3).map (fun i => (i.zero, i.size, i.bytes)) = some (some (.int .i64 0), 1, 8) := by kernel_rfl

/-- A copy whose run is known. -/
theorem wpList_copy_run {P : Program} (w : World) {ops : Array Oper} {rest : List Oper} {o : Oper} {a : Act} {Q : Exit → Act → World → Prop} (hg : o.guard = none) (s x : Operand) (t tn : TypeId)
    (ho : o.op = .call { callee := .builtin .copy, args := #[s, x], argTypes := #[t, tn] }) (vs vx : Value) (hs : a.eval s = vs) (hx : a.eval x = vx)
    (v' : Value) (w' : World) (hr : (Builtin.copy_ #[t, tn] o.type #[vs, vx]).run P w = .ok v' w') (h : wpList P ops Q rest (a.put o.dst v') w') : wpList P ops Q (o :: rest) a w :=
  wpList_plain hg fun K hK => by
    unfold Oper.wp execOp
    simp only [ho, resolve, invoke, builtin, Sem.run_bind, Sem.run_pure, Result.andThen_ok, List.map_toArray, List.map_cons, List.map_nil, hs, hx, hr]
    exact hK _ _ h

/-- The same, as a step of a region that draws its order. -/
theorem step_copy_run {P : Program} {ops : Array Oper} {o : Oper} {a : Act} {w : World} {K : Act → World → Prop} {Q : Exit → Act → World → Prop} {E : Prop} (hgd : o.guard = none) (s x : Operand) (t tn : TypeId)
    (ho : o.op = .call { callee := .builtin .copy, args := #[s, x], argTypes := #[t, tn] }) (vs vx : Value) (hs : a.eval s = vs) (hx : a.eval x = vx)
    (v' : Value) (w' : World) (hr : (Builtin.copy_ #[t, tn] o.type #[vs, vx]).run P w = .ok v' w') (hK : K (a.put o.dst v') w') : if Region.wanted o (yielded ops a.tmps) = true then Oper.wp P o a w K Q else E := by
  have hw : Region.wanted o (yielded ops a.tmps) = true := by simp [Region.wanted, hgd]
  rw [if_pos hw]
  unfold Oper.wp
  simp [execOp, ho, resolve, invoke, builtin, hs, hx, hr, Result.andThen]
  exact hK

theorem copy_row {P : Program} (w : World) (base : Nat) (t ty e : TypeId) (ht : P.underlying t = some (.slice e)) (hs : (P.info? e).map (·.size) = some 1) (k : IntKind) (g n : Nat) (zs : List Int)
    (hrow : w.ownsRow base e 1 (.slice (some ⟨g, 0, none⟩) n n) n (zs.map (Value.int k))) (m dl dc sl sc : Nat) (a : Addr) (cs : List Int) (hn : cs.length = Nat.min sl dl) (hm : m + cs.length ≤ n)
    (hsrc : ∀ j, j < cs.length → w.cell? (a.add j) = some (.int k (cs[j]?.getD 0))) :
    ∃ w', (Builtin.copy_ #[t, t] ty #[.slice (some ⟨g, m, none⟩) dl dc, .slice (some a) sl sc]).run P w = .ok (.int .i64 cs.length) w' ∧
      w'.ownsRow base e 1 (.slice (some ⟨g, 0, none⟩) n n) n ((zs.take m ++ cs ++ zs.drop (m + cs.length)).map (Value.int k)) ∧ w.grownBy w' (some g) := by
  obtain ⟨cur, hg, hnc, hcm, hcs, htk, hb, hl⟩ := row_block hrow
  have hzl : zs.length = n := by simpa using hl
  have hcur : cur.toList = zs.map (Value.int k) := by rw [← htk, List.take_of_length_le (by simp; omega)]
  have hr := run_copy_row (P := P) w t t ty e g m dl dc a sl sc cur e (cs.map (Value.int k)) ht hs hg (by rw [List.length_map]; exact hn)
    (fun j v hv => by
      rw [List.getElem?_map] at hv
      cases hj : cs[j]? with
      | none => rw [hj] at hv; cases hv
      | some y =>
        rw [hj] at hv
        have := hsrc j (List.getElem?_eq_some_iff.1 hj).1
        rw [hj] at this
        rw [this]; exact hv) (by rw [List.length_map]; omega) (fun v hv => by obtain ⟨y, _, rfl⟩ := List.mem_map.1 hv; rfl)
  rw [List.length_map] at hr
  refine ⟨_, hr, ⟨by simp; omega, .inr ⟨g, n, _, rfl, hb, setRow_heap w g cur _ e _ hg, Nat.le_refl _, hcm, ?_, ?_⟩⟩, ⟨rfl, rfl, rfl, by simp, fun j _ hj => setRow_other w g j _ (fun e => hj (by simp [e]))⟩⟩
  · simp; omega
  · rw [hcur, List.take_of_length_le (by simp; omega)]
    simp [List.map_take, List.map_drop]

theorem replicate_step (v : Int) (m n c : Nat) :
    (List.replicate m v ++ List.replicate (n - m) 0).take m ++ List.replicate c v ++ (List.replicate m v ++ List.replicate (n - m) 0).drop (m + c) = List.replicate (m + c) v ++ List.replicate (n - (m + c)) 0 := by
  rw [List.take_left' (by simp), List.drop_append, List.length_replicate, List.drop_replicate, List.drop_replicate, List.replicate_append_replicate,
    show m - (m + c) = 0 by omega, show m + c - m = c by omega, show n - m - c = n - (m + c) by omega]
  simp

theorem mul1_any (n : Nat) (hn : n ≤ 1099511627776) (w : World) :
    Calls Try.prog 92 #[.int .u64 1, .int .u64 n] w fun e w' => e = .returned (.tuple #[.int .u64 0, .int .u64 n]) ∧ w = w' :=
  (Try.bits_Mul 1 n (by omega) (by omega) w).mono fun e w' ⟨he, hw⟩ => ⟨by rw [he, Nat.one_mul, Nat.div_eq_of_lt (by omega), Nat.mod_eq_of_lt (by omega)]; rfl, hw.symm⟩

set_option maxRecDepth 100000 in
set_option maxHeartbeats 2000000 in
theorem repeat_any (b off cap : Nat) (v : Int) (n : Nat) (hn1 : 1 ≤ n) (hn : n ≤ 1099511627776) (w : World) (hb : b < w.heap.size) (hc : w.cell? ⟨b, off, none⟩ = some (.int .i64 v)) :
    Calls Try.prog 90 #[.slice (some ⟨b, off, none⟩) 1 cap, .int .i64 n] w fun e w' =>
      e = .returned (.slice (some ⟨w.heap.size, 0, none⟩) n n) ∧ w'.ownsRow w.heap.size 3 1 (.slice (some ⟨w.heap.size, 0, none⟩) n n) n ((List.replicate n v).map (Value.int .i64)) ∧ Below w.heap.size w w' := by
  obtain ⟨i0, hi, hz0, hz1, hz2⟩ := info_parts Try.infoI
  have hs1 : (Try.prog.info? 3).map (·.size) = some 1 := by rw [hi]; simp [hz1]
  have hmk : (Instr.makeSlice 22 (.int .i64 n) (.int .i64 n)).run Try.prog w = .ok (.slice (some ⟨w.heap.size, 0, none⟩) n n) (w.alloc (.cells (madeCells (Value.int .i64 0).cells (n * 1)) 3)) := by
    have := run_make (P := Try.prog) w 22 3 i0 _ Try.underlying22 hi hz0 .i64 .i64 n n (by omega) (by omega) (by rw [hz2]; omega) (by omega)
    rw [hz1] at this
    exact this
  have hrow : (w.alloc (.cells (madeCells (Value.int .i64 0).cells (n * 1)) 3)).ownsRow w.heap.size 3 1 (.slice (some ⟨w.heap.size, 0, none⟩) n n) n ((List.replicate n 0).map (Value.int .i64)) := by
    refine ⟨by simp, .inr ⟨w.heap.size, n, _, rfl, Nat.le_refl _, World.alloc_heap_new w _, Nat.le_refl _, by unfold maxLen; omega, size_madeCells _ _, ?_⟩⟩
    rw [List.map_replicate, madeCells_one]
    simp
  generalize madeCells (Value.int .i64 0).cells (n * 1) = mc at *
  have hcA : (w.alloc (.cells mc 3)).cell? ⟨b, off, none⟩ = some (.int .i64 v) := (World.cell?_of_block (w := w) (Below.heap_alloc _ _ _ hb)).trans hc
  obtain ⟨w1, hr1, hrow1, hg1⟩ := copy_row (P := Try.prog) (w.alloc (.cells mc 3)) w.heap.size 22 3 3 Try.underlying22 hs1 .i64 w.heap.size n _ hrow 0 n n 1 cap ⟨b, off, none⟩ [v] (Nat.min_eq_left hn1).symm (by simp; omega)
    (fun j hj => by obtain rfl : j = 0 := by simpa using hj
                    rw [add_plain]; exact hcA)
  have hb1 : Below w.heap.size w w1 := ((Below.refl _ w).alloc (Nat.le_refl _) _).grown hg1 (by simp) (fun r e => by cases e; exact Nat.le_refl _)
  have hrow1' : Hid (w1.ownsRow w.heap.size 3 1 (.slice (some ⟨w.heap.size, 0, none⟩) n n) n ((List.replicate 1 v ++ List.replicate (n - 1) 0).map (Value.int .i64))) := by
    show w1.ownsRow _ _ _ _ _ _
    have e := replicate_step v 0 n 1
    simpa using hrow1
  have HS1 := Lib.hid hs1
  simp only [List.length_singleton] at hr1
  clear hrow hcA hrow1 hg1 hc hs1
  have hnz : ¬ ((n : Int) < 0) := by omega
  go_enter Try.func90, Try.ntmps90
  go_wp2_with (first
    | (go_at_call 92; ((with_reducible refine (mul1_any n hn _).mono ?_); rintro e w' ⟨rfl, rfl⟩))
    | (refine wpList_copy_run (o := ⟨some 33, _, _, _, _, _⟩) _ rfl _ _ _ _ rfl _ _ rfl rfl _ _ hr1 ?_))
  go_loopw [8] (fun q wr => ∃ m : Nat, 1 ≤ m ∧ m ≤ n ∧ q = .int .i64 m ∧ Hid (wr.ownsRow w.heap.size 3 1 (.slice (some ⟨w.heap.size, 0, none⟩) n n) n ((List.replicate m v ++ List.replicate (n - m) 0).map (Value.int .i64))) ∧ Below w.heap.size w wr)
    (fun q _ => n - (intOf q).toNat)
  case atStart => exact ⟨1, Nat.le_refl _, hn1, rfl, hrow1', hb1⟩
  case round =>
    obtain ⟨m, hm1, hmn, rfl, hR, hB⟩ := hrel
    by_cases hlt : m < n
    · obtain ⟨c, hc⟩ : ∃ c, c = Nat.min m (n - m) := ⟨_, rfl⟩
      have hc1 : 1 ≤ c := by rw [hc]; exact Nat.le_min.2 ⟨hm1, by omega⟩
      have hcm : c ≤ m := by rw [hc]; exact Nat.min_le_left _ _
      have hcn : c ≤ n - m := by rw [hc]; exact Nat.min_le_right _ _
      obtain ⟨w2, hr2, hrow2, hg2⟩ := copy_row (P := Try.prog) wr.drew w.heap.size 22 3 3 Try.underlying22 HS1.out .i64 w.heap.size n _ ((Kept.refl (fun _ => True) wr).drew.row hR.out trivial) m (n - m) (n - m) m n ⟨w.heap.size, 0, none⟩ (List.replicate c v)
        (by rw [List.length_replicate]; exact hc) (by rw [List.length_replicate]; omega)
        (fun j hj => by
          rw [List.length_replicate] at hj
          have h1 := row_cells ((Kept.refl (fun _ => True) wr).drew.row hR.out trivial) j (by simp; omega)
          rw [add_plain, h1, List.getElem?_append_left (by simp; omega), List.getElem?_replicate, if_pos (by omega), List.getElem?_replicate, if_pos (by omega)])
      rw [List.length_replicate] at hr2 hrow2
      rw [replicate_step] at hrow2
      have HR2 := Lib.hid hrow2
      have HB2 : Hid (Below w.heap.size w w2) := hB.drew.grown hg2 hB.size (fun r e => by cases e; exact Nat.le_refl _)
      clear hrow2 hg2 hc hmk hr1
      have hnm : ¬ n = m := by omega
      go_wp2
      have hmc : IntKind.i64.wrap ((m : Int) + c) = ((m + c : Nat) : Int) := by rw [IntKind.wrap_i64]; omega
      go_region_law (refine step_copy_run (by rfl) (.tmp 41) (.tmp 44) 22 22 (by rfl) (.slice (some ⟨w.heap.size, m, none⟩) (n - m) (n - m)) (.slice (some ⟨w.heap.size, 0, none⟩) m n) (by go_simp) (by go_simp) _ _ hr2 ?_)
      clear hr2
      simp [Act.put]

      go_roundw
      case rel =>
        (repeat apply Exists.intro)
        refine ⟨?_, rfl⟩
        exact ⟨m + c, by omega, by omega, by go_num, HR2, HB2.out⟩
      case measure => simp [intOf]; omega
    · obtain rfl : m = n := by omega
      go_wp2
      go_ret
      refine ⟨rfl, ?_, hB⟩
      have := hR.out
      rwa [Nat.sub_self, List.replicate_zero, List.append_nil] at this

end Go.Proofs.Ytkfmgiacdlkmiaa
