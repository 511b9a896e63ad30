/-
  Rows of bytes of a region's own, as facts; strings as bytes.
-/
import Derived.Test.YtkfmgiacdlkmiaaDcBase
import Derived.Test.YtkfmgiacdlkmiaaRegFresh
import Derived.Lib.ConvBytes
import Derived.ArgAppend
namespace Go.Proofs.Ytkfmgiacdlkmiaa
open Go Go.RowKit Go.Shelf Go.Sort Go.ChangeShapes Go.WideShapes Go.ChangeAt

theorem strI_len' (s : List UInt8) : (strI s).length = s.length := by unfold strI; simp
theorem strI_at (s : List UInt8) (j : Nat) (hj : j < s.length) : (strI s)[j]?.getD 0 = ((s[j]?.getD 0).toNat : Int) := by
  unfold strI; simp [List.getElem?_eq_getElem hj]
theorem conv_str (s : List UInt8) (hs : s.length ≤ 1048576) (w : World) : ∃ V cap, (convert 9 23 (.string (bsOf s))).run Try.prog w = .ok (.slice (some ⟨w.heap.size, 0, none⟩) s.length cap) V ∧ s.length ≤ cap ∧ cap ≤ 9223372036854775807 ∧
    Below w.heap.size w V ∧ V.heap.size = w.heap.size + 1 ∧ ∀ j, j < s.length → V.cell? ⟨w.heap.size, j, none⟩ = some (.int .u8 ((s[j]?.getD 0).toNat : Int)) := by
  have h1 := Lib.run_convert_string_bytes (P := Try.prog) w 9 23 5 (bsOf s) Try.underlying9 Try.underlying23 Try.underlying5
  rw [bs_size] at h1
  refine ⟨_, _, h1, grownCap_ge w s.length 0 5, ?_, ?_, Lib.bytesWorld_size w 5 (bsOf s), fun j hj => ?_⟩
  · have := grownCap_le_maxLen w s.length 0 5 (by unfold maxLen; omega)
    unfold maxLen at this; omega
  · exact ⟨rfl, rfl, rfl, by rw [Lib.bytesWorld_size]; omega, fun k hk => Lib.bytesWorld_at_old w 5 (bsOf s) k hk⟩
  · have := Lib.bytesWorld_cell w 5 (bsOf s) j (by rw [bs_size]; exact hj)
    rw [this, bs_data, List.getD_eq_getElem?_getD]
theorem row_below {A B : World} {base : Nat} {e : TypeId} {size : Nat} {v : Value} {n : Nat} {xs : List Value} (h : A.ownsRow base e size v n xs) (hb : Below A.heap.size A B) : B.ownsRow base e size v n xs := by
  refine ⟨h.1, ?_⟩
  rcases h.2 with h | ⟨g, cap, cur, h1, h2, h3, h4⟩
  · exact .inl h
  · exact .inr ⟨g, cap, cur, h1, h2, (hb.block g (Array.getElem?_eq_some_iff.1 h3).1).trans h3, h4⟩
theorem rd_cells {w : World} {k : IntKind} {b off : Nat} {zs : List Int} (hc : ∀ j, j < zs.length → w.cell? ⟨b, off + j, none⟩ = some (.int k (zs[j]?.getD 0))) : ∀ j u, (zs.map (Value.int k))[j]? = some u → w.cell? ((⟨b, off, none⟩ : Addr).add j) = some u := by
  intro j u hu
  rw [List.getElem?_map] at hu
  cases hj : zs[j]? with
  | none => rw [hj] at hu; cases hu
  | some x =>
    rw [hj] at hu
    have hlt := (List.getElem?_eq_some_iff.1 hj).1
    have := hc j hlt
    rw [hj] at this
    rw [add_plain, this]
    exact hu
/-- A row of the call's own, and what reads as a list, appended to it. -/
theorem run_append_rd {P : Program} (w : World) (base : Nat) (t ty e : TypeId) (i : TypeInfo) (z : Value) (bytes : Nat) (k : IntKind) (ht : P.underlying t = some (.slice e)) (hi : P.info? e = some i) (hz : i.zero = some z)
    (hsize : i.size = 1) (hby : i.bytes = bytes) (hzs : z.cells.size = 1) (g0 n cap0 : Nat) (xs : List Int) (hown : w.ownsRow base e 1 (.slice (some ⟨g0, 0, none⟩) n cap0) n (xs.map (Value.int k)))
    {K : Nat → Prop} (a : Option Addr) (len cp : Nat) (zs : List Int) (hR : Rd K w k a len cp zs) (h63 : n + len ≤ maxLen) (hbytes : (n + len) * bytes ≤ 140737488355328) (hbase : base ≤ w.heap.size) :
    ∃ g cap w', (Builtin.append_ #[t, t] ty #[.slice (some ⟨g0, 0, none⟩) n cap0, .slice a len cp]).run P w = .ok (.slice (some ⟨g, 0, none⟩) (n + len) cap) w' ∧
      w'.ownsRow base e 1 (.slice (some ⟨g, 0, none⟩) (n + len) cap) (n + len) ((xs ++ zs).map (Value.int k)) ∧ Below base w w' ∧ n + len ≤ cap := by
  have hl := hR.hl
  have hbw : Below base w w := ⟨rfl, rfl, rfl, Nat.le_refl _, fun _ _ => rfl⟩
  by_cases h0 : 0 < len
  · obtain ⟨b, off, rfl, _, _, hc⟩ := hR.cells h0
    subst hl
    obtain ⟨v', w', hr, h1, h2, h3⟩ := run_append_own (P := P) w base t ty e i z 1 bytes ht hi hz hsize hby hzs (by decide) _ n _ hown ⟨b, off, none⟩ zs.length cp (zs.map (Value.int k)) (by simp)
      (rd_cells hc)
      (fun u hu => by obtain ⟨x, _, rfl⟩ := List.mem_map.1 hu; rfl) h63 hbytes hbase
    have hne : ¬ v' = .slice none 0 0 := fun e => by have := (h3.1 e).1; cases this
    obtain ⟨g, cap, rfl, hn, hb⟩ := row_form h1 hne
    exact ⟨g, cap, w', hr, by rw [List.map_append]; exact h1, hbw.grown h2 hbase (fun r e => by cases e; exact row_base hown), hn⟩
  · obtain rfl : len = 0 := by omega
    obtain rfl : zs = [] := List.eq_nil_of_length_eq_zero hl.symm
    obtain ⟨g, cap, e1, hn, hb⟩ := row_form hown (by simp)
    obtain ⟨rfl, rfl⟩ : g0 = g ∧ cap0 = cap := by cases e1; exact ⟨rfl, rfl⟩
    exact ⟨g0, cap0, w, run_append_empty w t ty e i ht hi _ n cap0 hn a cp, by simpa using hown, hbw, hn⟩
/-- A row that is laid is the call's own. -/
theorem own_new (W : World) (t : TypeId) (k : IntKind) (zs : List Int) (n base : Nat) (hn : n = zs.length) (hs : n ≤ 1000000) (hb : base ≤ W.heap.size) :
    (W.alloc (.cells (zs.map (Value.int k)).toArray t)).ownsRow base t 1 (.slice (some ⟨W.heap.size, 0, none⟩) n n) n (zs.map (Value.int k)) :=
  ⟨by simp [hn], .inr ⟨W.heap.size, n, (zs.map (Value.int k)).toArray, rfl, hb, World.alloc_heap_new W _, Nat.le_refl _, by unfold maxLen; omega, by simp [hn], by subst hn; rw [Nat.mul_one]; exact List.take_of_length_le (by simp)⟩⟩
def SlRd (zs : List Int) : Fact := fun v W => ∃ g n c : Nat, v = .slice (some ⟨g, 0, none⟩) n c ∧ Rd (fun _ => True) W .u8 (some ⟨g, 0, none⟩) n c zs
theorem slrd_stable (zs : List Int) : (SlRd zs).Stable := fun _ _ _ ⟨g, n, c, e, r⟩ hb => ⟨g, n, c, e, r.below hb⟩
theorem slrd_new (W : World) (zs : List Int) (h : zs.length ≤ 1000 := by decide) : SlRd zs (.slice (some ⟨W.heap.size, 0, none⟩) zs.length zs.length) (W.alloc (.cells (zs.map (Value.int .u8)).toArray 5)) :=
  ⟨_, _, _, rfl, (Rd.of_row rfl (Nat.le_refl _) (by omega) (own_new W 5 .u8 zs zs.length W.heap.size rfl (by omega) (Nat.le_refl _))).mono fun _ _ _ => trivial⟩
/-- A row of bytes of the region's own. -/
def RowF (base : Nat) (zs : List Int) : Fact := fun v W => ∃ g c : Nat, v = .slice (some ⟨g, 0, none⟩) zs.length c ∧ zs.length ≤ c ∧ W.ownsRow base 5 1 (.slice (some ⟨g, 0, none⟩) zs.length c) zs.length (zs.map (Value.int .u8))
theorem rowF_stable (base : Nat) (zs : List Int) : (RowF base zs).Stable := fun _ _ _ ⟨g, c, e, h1, h2⟩ hb => ⟨g, c, e, h1, row_below h2 hb⟩
theorem rowF_rd {base : Nat} {zs : List Int} {v : Value} {W : World} (h : RowF base zs v W) (hl : zs.length ≤ 100000000) : ∃ g c : Nat, v = .slice (some ⟨g, 0, none⟩) zs.length c ∧ Rd (fun b => base ≤ b) W .u8 (some ⟨g, 0, none⟩) zs.length c zs := by
  obtain ⟨g, c, e, h1, h2⟩ := h
  exact ⟨g, c, e, Rd.of_row rfl h1 (by omega) h2⟩
theorem rowF_lt {base : Nat} {zs : List Int} {v : Value} {W : World} {g c : Nat} (h : RowF base zs v W) (e : v = .slice (some ⟨g, 0, none⟩) zs.length c) : base ≤ g ∧ g < W.heap.size := by
  obtain ⟨g', c', e', _, h2⟩ := h
  rw [e'] at e
  cases e
  rcases h2.2 with ⟨h, _⟩ | ⟨g2, cap, cur, h, hb, hg, _⟩
  · cases h
  · cases h; exact ⟨hb, (Array.getElem?_eq_some_iff.1 hg).1⟩
theorem makes_row {base : Nat} {f : FuncId} {args : Array Value} {W : World} {zs : List Int} (hb : base ≤ W.heap.size) (h : Calls Try.prog f args W fun e w' => Makes W e w' zs) : Calls Try.prog f args W fun e w' => ∃ v, e = .returned v ∧ RowF base zs v w' ∧ Below W.heap.size W w' :=
  h.mono fun _ _ ⟨g, c, e1, h1, h2, h3⟩ => ⟨_, e1, ⟨g, c, rfl, h1, h2.mono hb⟩, h3⟩
theorem rowF_append {base : Nat} {zs ys : List Int} {v : Value} {W : World} (h : RowF base zs v W) {K : Nat → Prop} {a : Option Addr} {len cap : Nat} (hR : Rd K W .u8 a len cap ys) (hb : base ≤ W.heap.size) (hl : zs.length + len ≤ 100000000) :
    ∃ v' w', (Builtin.append_ #[23, 23] 23 #[v, .slice a len cap]).run Try.prog W = .ok v' w' ∧ RowF base (zs ++ ys) v' w' ∧ Below base W w' := by
  obtain ⟨i0, hi, hz0, hz1, hz2⟩ := info_parts Try.infoB
  obtain ⟨g, c, rfl, h1, h2⟩ := h
  obtain ⟨g', c', w', hr, h3, h4, h5⟩ := run_append_rd (P := Try.prog) W base 23 23 5 i0 _ 1 .u8 Try.underlying23 hi hz0 hz1 hz2 rfl g zs.length c zs h2 a len cap ys hR (by unfold maxLen; omega) (by omega) hb
  have hl2 : zs.length + len = (zs ++ ys).length := by rw [List.length_append, ← hR.hl]
  rw [hl2] at hr h3 h5
  exact ⟨_, w', hr, ⟨g', c', rfl, h5, h3⟩, h4⟩
/-- A row of the region's own that holds nothing, with no room. -/
def Row0F (base : Nat) : Fact := fun v W => ∃ g : Nat, v = .slice (some ⟨g, 0, none⟩) 0 0 ∧ W.ownsRow base 5 1 (.slice (some ⟨g, 0, none⟩) 0 0) 0 []
theorem row0F_stable (base : Nat) : (Row0F base).Stable := fun _ _ _ ⟨g, e, h⟩ hb => ⟨g, e, row_below h hb⟩
theorem row0F_new (W : World) (base : Nat) (hb : base ≤ W.heap.size) : Row0F base (.slice (some ⟨W.heap.size, 0, none⟩) 0 0) (W.alloc (.cells #[] 5)) :=
  ⟨_, rfl, World.ownsRow_made W (base := base) (e := 5) (size := 1) #[] 0 hb (by decide) rfl⟩
theorem row0F_append {base : Nat} {ys : List Int} {v : Value} {W : World} (h : Row0F base v W) {K : Nat → Prop} {a : Option Addr} {n c : Nat} (hR : Rd K W .u8 a n c ys) (hb : base ≤ W.heap.size) (hl : n ≤ 100000000) :
    ∃ v' w', (Builtin.append_ #[23, 23] 23 #[v, .slice a n c]).run Try.prog W = .ok v' w' ∧ RowF base ys v' w' ∧ Below W.heap.size W w' := by
  obtain ⟨i0, hi, hz0, hz1, hz2⟩ := info_parts Try.infoB
  obtain ⟨g, rfl, h2⟩ := h
  have hl1 := hR.hl
  by_cases h0 : n = 0
  · subst h0
    obtain rfl : ys = [] := List.eq_nil_of_length_eq_zero hl1.symm
    exact ⟨_, W, run_append_empty W 23 23 5 i0 Try.underlying23 hi _ 0 0 (Nat.le_refl _) a c, ⟨g, 0, rfl, Nat.le_refl _, h2⟩, Below.refl _ W⟩
  · obtain ⟨b, off, rfl, _, _, hc⟩ := hR.cells (by omega)
    subst hl1
    obtain ⟨v', w', hr, h3, h4⟩ := run_append_arg_grows (P := Try.prog) W 23 23 5 i0 _ 1 1 Try.underlying23 hi hz0 hz1 hz2 rfl (by decide) ⟨g, 0, none⟩ 0 0 [] rfl (fun j u hu => by simp at hu) ⟨b, off, none⟩ ys.length c (ys.map (Value.int .u8)) (by simp)
      (rd_cells hc) (by omega) (by unfold maxLen; omega) (by omega)
    rw [Nat.zero_add, List.nil_append] at h3
    have hne : ¬ v' = .slice none 0 0 := fun e => by
      subst e
      rcases h3.2 with ⟨_, e⟩ | ⟨g', c', cur, e, _⟩
      · exact h0 e
      · cases e
    obtain ⟨g', cap, rfl, hn, hg⟩ := row_form h3 hne
    exact ⟨_, w', hr, ⟨g', cap, rfl, hn, ⟨h3.1, h3.2.imp id (fun ⟨g, c, cur, e, h, r⟩ => ⟨g, c, cur, e, Nat.le_trans hb h, r⟩)⟩⟩, (Below.refl W.heap.size W).grown h4 (Nat.le_refl _) (fun r e => by cases e)⟩
/-- An append whose run is known, which writes nothing that there was. -/
theorem step_appendB {P : Program} {ops : Array Oper} {Q : Exit → Act → World → Prop} {φ : Fact} {o : Oper} {a : Act} {W : World} (hw : Region.wanted o (yielded ops a.tmps) = true) (s x : Operand) (t tn : TypeId)
    (ho : o.op = .call { callee := .builtin .append, args := #[s, x], argTypes := #[t, tn] }) {vs vx : Value} (hs : a.eval s = vs) (hx : a.eval x = vx)
    {v' : Value} {w' : World} (hr : (Builtin.append_ #[t, tn] o.type #[vs, vx]).run P W = .ok v' w') (hb : Below W.heap.size W w') (hv : φ v' w') : StepOk P ops Q φ o a W := by
  unfold StepOk
  rw [if_pos hw]
  unfold Oper.wp
  simp [execOp, ho, resolve, invoke, builtin, hs, hx, hr, Result.andThen]
  exact ⟨v', rfl, hb, hv⟩
theorem slrd_conv {s : List UInt8} {V : World} {g cap : Nat} (hcap : s.length ≤ cap) (hcm : cap ≤ 9223372036854775807) (hs : s.length ≤ 1048576) (hg : g < V.heap.size) (hc : ∀ k, k < s.length → V.cell? ⟨g, k, none⟩ = some (.int .u8 ((s[k]?.getD 0).toNat : Int))) : SlRd (strI s) (.slice (some ⟨g, 0, none⟩) s.length cap) V := by
  refine ⟨g, s.length, cap, rfl, ⟨(strI_len s).symm, hcap, hcm, by omega, fun _ => ⟨g, 0, rfl, trivial, hg, fun j hj => ?_⟩⟩⟩
  rw [Nat.zero_add, hc j hj]
  unfold strI
  rw [List.getElem?_map]
  rw [List.getElem?_eq_getElem hj]; rfl

end Go.Proofs.Ytkfmgiacdlkmiaa
