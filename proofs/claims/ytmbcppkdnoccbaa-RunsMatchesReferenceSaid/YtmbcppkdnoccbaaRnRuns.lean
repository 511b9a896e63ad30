/-
  The runs of a list, as two rows of the call's own.
-/
import Derived.Test.YtmbcppkdnoccbaaRnIter
import Derived.Test.YtmbcppkdnoccbaaPkGather
import Derived.BigRegionIn
import Derived.Maps.AppendAt
namespace Go.Proofs.Ytmbcppkdnoccbaa
open Go.RowKit Go.Shelf Go.ChangeShapes Go.WideShapes Go.ChangeAt
attribute [local go_sem] Oper.semAt_some

theorem Try.infoN : (Try.prog.info? 3).map (fun i => (i.zero, i.size, i.bytes)) = some (some (.int .i64 0), 1, 8) := by kernel_rfl

theorem own_keep {A B : World} {base : Nat} {e : TypeId} {size k : Nat} {v : Value} {xs : List Value} {row : Option Nat}
    (hr : A.ownsRow base e size v k xs) (hg : A.grownBy B row) (hne : ∀ r, row = some r → v.ownBlock ≠ some r) : B.ownsRow base e size v k xs := by
  obtain ⟨h1, ⟨rfl, h0⟩ | ⟨g, cap, cur, rfl, h2, h3, h4⟩⟩ := hr
  · exact ⟨h1, .inl ⟨rfl, h0⟩⟩
  · exact ⟨h1, .inr ⟨g, cap, cur, rfl, h2, (hg.block g (Array.getElem?_eq_some_iff.1 h3).1 (fun e => hne g e.symm rfl)).trans h3, h4⟩⟩
theorem own_lt {A : World} {base : Nat} {e : TypeId} {size k : Nat} {v : Value} {xs : List Value} (hr : A.ownsRow base e size v k xs) : ∀ g, v.ownBlock = some g → base ≤ g ∧ g < A.heap.size := by
  intro g hg
  obtain ⟨h1, ⟨rfl, h0⟩ | ⟨g', cap, cur, rfl, h2, h3, h4⟩⟩ := hr
  · cases hg
  · obtain rfl : g' = g := by simpa [Value.ownBlock] using hg
    exact ⟨h2, (Array.getElem?_eq_some_iff.1 h3).1⟩

/-- One more element, behind a row of the call's own that may be nil. -/
theorem own_append {P : Program} (w : World) (base : Nat) (t ty e : TypeId) (i : TypeInfo) (z : Value) (bytes : Nat) (k : IntKind) (ht : P.underlying t = some (.slice e)) (hi : P.info? e = some i) (hz : i.zero = some z)
    (hsize : i.size = 1) (hby : i.bytes = bytes) (hzs : z.cells.size = 1) (v : Value) (n : Nat) (xs : List Value) (hown : w.ownsRow base e 1 v n xs) (x : Int) (te : TypeId)
    (h63 : n + 1 ≤ maxLen) (hbytes : (n + 1) * bytes ≤ 140737488355328) (hbase : base ≤ w.heap.size) :
    ∃ g' c' w', (Builtin.append_ #[t, t] ty #[v, .slice (some ⟨w.heap.size, 0, none⟩) 1 1]).run P (w.alloc (.cells #[.int k x] te)) = .ok (.slice (some ⟨g', 0, none⟩) (n + 1) c') w' ∧
      w'.ownsRow base e 1 (.slice (some ⟨g', 0, none⟩) (n + 1) c') (n + 1) (xs ++ [.int k x]) ∧ (w.alloc (.cells #[.int k x] te)).grownBy w' v.ownBlock ∧ (some g' = v.ownBlock ∨ g' = w.heap.size + 1) := by
  obtain ⟨v', w', hr, h1, h2, h3, h4⟩ := run_append_own_at (P := P) (w.alloc (.cells #[.int k x] te)) base t ty e i z 1 bytes ht hi hz hsize hby hzs (by decide) _ n xs (hown.alloc _) ⟨w.heap.size, 0, none⟩ 1 1 [.int k x] rfl (cell_one_new _ _ _)
    (fun u hu => by rw [List.mem_singleton.1 hu]; rfl) h63 hbytes (by simp; omega)
  have hne : ¬ v' = .slice none 0 0 := fun e => by have := (h3.1 e).2; omega
  obtain ⟨g', c', rfl, _⟩ := row_form h1 hne
  exact ⟨g', c', w', hr, h1, h2, by simpa [Value.ownBlock] using h4⟩

theorem setc (W : World) (b o : Nat) (v : Value) : W.grownBy (W.setCell ⟨b, o, none⟩ v) (some b) := grownBy_set W ⟨b, o, none⟩ v

/-- An append whose run is known, inside a fence. -/
theorem wpListIn_append_run {F : Fence} {n : Nat} {P : Program} (w : World) {ops : Array Oper} {rest : List Oper} {o : Oper} {a : Act} {Q : Exit → Act → World → Prop}
    (hg : o.guard = none) (s x : Operand) (t : TypeId) (hop : o.op = Op.call { callee := Callee.builtin Builtin.append, args := #[s, x], argTypes := #[t, t] }) (vs vx : Value) (hs : a.eval s = vs) (hx : a.eval x = vx)
    (v' : Value) (w' : World) (hrun : (Builtin.append_ #[t, t] o.type #[vs, vx]).run P w = .ok v' w') (hK : wpListIn F n P ops Q rest (a.put o.dst v') w') :
    wpListIn F n P ops Q (o :: rest) a w := by
  refine wpListIn_plain hg fun K hK' => ?_
  unfold Oper.wpIn
  refine ⟨?_, ?_⟩
  · simp [Oper.about, hop, resolve, Target.leads, Sem.run_pure]
  · rw [Oper.semAt_plain F _ _ (by rw [hop]; intro c hc'; cases hc')]
    simp [execOp, hop, resolve, invoke, builtin, hs, hx, hrun, Result.andThen]
    exact hK' _ _ hK

theorem own_cells {A : World} {base : Nat} {e : TypeId} {size k : Nat} {v : Value} {xs : List Value} (hr : A.ownsRow base e size v k xs) {g : Nat} (hg : v.ownBlock = some g) : ∃ cur, A.heap[g]? = some (.cells cur e (0, 0)) := by
  obtain ⟨h1, ⟨rfl, h0⟩ | ⟨g', cap, cur, rfl, h2, h3, h4⟩⟩ := hr
  · cases hg
  · obtain rfl : g' = g := by simpa [Value.ownBlock] using hg
    exact ⟨cur, h3⟩

/-- Between two runs: k of them are in. -/
def runsI (w : World) (zs : List Int) (k : Nat) (V : World) : Prop :=
  ∃ v1 v2, Boxed V w.heap.size 22 v1 ∧ Boxed V (w.heap.size + 1) 22 v2 ∧ V.ownsRow (w.heap.size + 5) 3 1 v1 k (((vals zs).take k).map (Value.int .i64)) ∧ V.ownsRow (w.heap.size + 5) 3 1 v2 k (((lens zs).take k).map (Value.int .i64)) ∧
    Hid (∀ g, v1.ownBlock = some g → v2.ownBlock ≠ some g) ∧ Below w.heap.size w V

theorem runsI_own {w : World} {zs : List Int} : OwnFrom (w.heap.size + 3) (runsI w zs) := by
  rintro k V V' row ⟨v1, v2, h1, h2, h3, h4, h5, h6⟩ hg hr
  have hne : ∀ {v : Value} {xs : List Value}, V.ownsRow (w.heap.size + 5) 3 1 v k xs → ∀ r, row = some r → v.ownBlock ≠ some r := fun {v xs} hv r e he => by
    obtain ⟨_, o, ho, hc⟩ := hr r e
    obtain ⟨cur, hcur⟩ := own_cells hv he
    rw [hcur] at ho
    cases ho
    cases hc
  have hk : Kept (fun b => b < w.heap.size + 3) V V' := Kept.of_grownBy hg (fun r e hlt => by have := (hr r e).1; omega)
  have hs := h6.size
  exact ⟨v1, v2, hk.boxed h1 (by omega), hk.boxed h2 (by omega), own_keep h3 hg (hne h3), own_keep h4 hg (hne h4), h5, h6.trans ⟨hk.os, hk.tape, hk.output, hk.size, fun i hi => hk.block i (by omega) (by omega)⟩⟩

theorem Rd.of_own {A : World} {base : Nat} {e : TypeId} {k : IntKind} {v : Value} {zs : List Int} {n : Nat} (hn : n = zs.length) (hm : n ≤ 140737488351232) (hr : A.ownsRow base e 1 v n (zs.map (Value.int k))) :
    ∃ a c, v = .slice a n c ∧ Rd (fun b => base ≤ b) A k a n c zs := by
  by_cases hv : v = .slice none 0 0
  · subst hv
    obtain ⟨h1, ⟨_, h0⟩ | ⟨g', cap, cur, e1, _⟩⟩ := hr
    · subst h0
      obtain rfl : zs = [] := List.eq_nil_of_length_eq_zero hn.symm
      exact ⟨none, 0, rfl, Rd.empty⟩
    · cases e1
  · obtain ⟨g, cap, rfl, hf, _⟩ := row_form hr hv
    exact ⟨some ⟨g, 0, none⟩, cap, rfl, Rd.of_row hn hf hm hr⟩

/-- What the runs come to. -/
def RunsPost (w : World) (zs : List Int) (e : Ending) (W' : World) : Prop :=
  ∃ a1 n1 c1 a2 n2 c2, e = .returned (.tuple #[.slice a1 n1 c1, .slice a2 n2 c2]) ∧ Rd (fun b => w.heap.size ≤ b) W' .i64 a1 n1 c1 (vals zs) ∧ Rd (fun b => w.heap.size ≤ b) W' .i64 a2 n2 c2 (lens zs) ∧ Below w.heap.size w W'

set_option maxRecDepth 100000 in
set_option maxHeartbeats 4000000 in
theorem runs_in (n : Nat) (hn : 4 ≤ n) {K : Nat → Prop} {a : Option Addr} {len cap : Nat} {zs : List Int} {w : World} (hR : Rd K w .i64 a len cap zs) (hl40 : len ≤ 1099511627776) :
    CallsIn Fence.wide n Try.prog 50 #[.slice a len cap] w (RunsPost w zs) := by
  have hro : Fence.wide.round = none := rfl
  have h1 : 1 ≤ n := by omega
  have hfe : Fence.wide.fn 73 := trivial
  obtain ⟨i0, hi, hz0, hz1, hz2⟩ := info_parts Try.infoN
  have HR := Lib.hid hR
  clear hR
  refine callsIn_of_wp_marks Try.func50 rfl trivial ?_ rfl
  simp only [Try.ntmps50, List.size_toArray, List.length_cons, List.length_nil, Nat.reduceAdd, Nat.reduceSub, Array.replicate_succ, Array.replicate_zero, List.push_toArray, List.append_toArray, List.nil_append, List.cons_append]
  gi_wp2_with fail
  refine (callsIn_wide.2 (eachRun_any _ _ _ _)).mono ?_
  rintro e w1 ⟨rfl, rfl⟩
  gi_wp2
  have bA := ((Boxed.new w 22 (.slice none 0 0)).alloc (.cells #[.slice none 0 0] 22)).alloc (.cells #[.slice a len cap] 22)
  have bB := (Boxed.new (w.alloc (.cells #[.slice none 0 0] 22)) 22 (.slice none 0 0)).alloc (.cells #[.slice a len cap] 22)
  have bC := Boxed.new ((w.alloc (.cells #[.slice none 0 0] 22)).alloc (.cells #[.slice none 0 0] 22)) 22 (.slice a len cap)
  simp only [World.size_alloc] at bB bC
  have hW0 : Below w.heap.size w (((w.alloc (.cells #[.slice none 0 0] 22)).alloc (.cells #[.slice none 0 0] 22)).alloc (.cells #[.slice a len cap] 22)) := (((Below.refl _ w).alloc (Nat.le_refl _) _).alloc (by simp) _).alloc (by simp; omega) _
  have hsz : (((w.alloc (.cells #[.slice none 0 0] 22)).alloc (.cells #[.slice none 0 0] 22)).alloc (.cells #[.slice a len cap] 22)).heap.size = w.heap.size + 3 := by simp
  have hI0 : runsI w zs 0 (((w.alloc (.cells #[.slice none 0 0] 22)).alloc (.cells #[.slice none 0 0] 22)).alloc (.cells #[.slice a len cap] 22)) :=
    ⟨_, _, bA, bB, World.ownsRow_nil _ _ _ _, World.ownsRow_nil _ _ _ _, (show ∀ g, _ from fun g h => by cases h), hW0⟩
  have hG := eachRun_gives (n - 1) (by omega) (w.heap.size + 2) (fun b => b < w.heap.size ∨ b = w.heap.size + 2) a len cap zs _ (.inr rfl) (by rw [hsz]; omega) bC.cell ((HR.out.mono (K' := fun b => b < w.heap.size ∨ b = w.heap.size + 2) (fun b hb _ => .inl hb)).below hW0)
  have HL : Hid (len = zs.length) := HR.out.hl
  have hrl := rl_len zs
  rw [← HL.out] at hrl
  generalize hW0' : ((w.alloc (.cells #[.slice none 0 0] 22)).alloc (.cells #[.slice none 0 0] 22)).alloc (.cells #[.slice a len cap] 22) = W0 at *
  clear hW0' bA bB bC HR
  refine wpIn_rangeKeeps hro h1 (gf := 95) (lb := #[.pointer (some ⟨w.heap.size + 1 + 1, 0, none⟩)]) rfl trivial (enters_of Try.func95 (by kernel_rfl) rfl) hG (fun _ => rfl) (runsI w zs) (by rw [hsz]; exact runsI_own) (fun _ => False) (fun _ _ _ _ h _ _ => h) hI0
    (fun x => { tmps := #[.slice a len cap, undef, .slice none 0 0, .slice none 0 0, .pointer (some ⟨w.heap.size, 0, none⟩), .pointer (some ⟨w.heap.size + 1, 0, none⟩), .int .i64 x.1, .int .i64 x.2, .slice a len cap,
      .func (.func 95) #[] #[.pointer (some ⟨w.heap.size + 1 + 1, 0, none⟩)], .int .i64 x.1, .int .i64 x.2, undef, undef, undef, undef, undef, undef, undef, undef, undef, undef], defers := [] }) ?assign ?body ?done ?stop
  case assign =>
    intro l x W R hR
    simp only [encR]
    gi_wp2
    exact hR
  case stop =>
    intro D W _ _ h
    exact h.elim
  case body =>
    rintro l k x W hx ⟨v1, v2, hB1, hB2, hR1, hR2, hne, hWW⟩ hWz
    rw [hsz] at hWz
    have hkl : k < (rl zs).length := (List.getElem?_eq_some_iff.1 hx).1
    have hxk : (rl zs)[k]'hkl = x := (List.getElem?_eq_some_iff.1 hx).2
    have hv := vals_at zs k hkl
    have hn' := lens_at zs k hkl
    rw [hxk] at hv hn'
    have HT1 : Hid ((vals zs).take (k + 1) = (vals zs).take k ++ [x.1]) := by show _ = _; rw [take_getD_snoc _ k (by rw [vals_length]; exact hkl), hv]
    have HT2 : Hid ((lens zs).take (k + 1) = (lens zs).take k ++ [(x.2 : Int)]) := by show _ = _; rw [take_getD_snoc _ k (by rw [lens_length]; exact hkl), hn']
    have h1' : 1 ≤ n - 1 - 1 := by omega
    have hl1 := own_lt hR1
    have hl2 := own_lt hR2
    clear hx hxk hv hn'
    obtain ⟨y, m⟩ := x
    simp only at HT1 HT2
    -- the first append
    obtain ⟨g1, c1, wA, hrA, hoA, hgA, hatA⟩ := own_append (P := Try.prog) W (w.heap.size + 5) 22 22 3 i0 _ 8 .i64 Try.underlying22 hi hz0 hz1 hz2 rfl v1 k _ hR1 y 3 (by unfold maxLen; omega) (by omega) hWz
    have hB1A : Boxed wA w.heap.size 22 v1 := (Kept.of_grownBy (K := fun b => b = w.heap.size) hgA (fun r e h => by have := (hl1 r e).1; have h : r = _ := h; omega)).boxed (hB1.alloc _) rfl
    have hB2A : Boxed wA (w.heap.size + 1) 22 v2 := (Kept.of_grownBy (K := fun b => b = w.heap.size + 1) hgA (fun r e h => by have := (hl1 r e).1; have h : r = _ := h; omega)).boxed (hB2.alloc _) rfl
    have hR2A := own_keep (hR2.alloc (.cells #[.int .i64 y] 3)) hgA (fun r e => hne.out r e)
    have hsA : W.heap.size + 1 ≤ wA.heap.size := by have := hgA.size; simpa using this
    have HB1A := Lib.hid hB1A
    have HoA := Lib.hid hoA
    have hcA := hB1.cell
    have hcB := hB1A.cell
    have hfB := hB1A.frozen
    have HB2A := Lib.hid hB2A
    have HR2A := Lib.hid hR2A
    have HGA := Lib.hid hgA
    clear hB1A hoA hB2A hR2A hgA
    -- the store
    obtain ⟨WS, hWS⟩ : ∃ WS, wA.setCell ⟨w.heap.size, 0, none⟩ (.slice (some ⟨g1, 0, none⟩) (k + 1) c1) = WS := ⟨_, rfl⟩
    have hgS : wA.grownBy WS (some w.heap.size) := hWS ▸ setc wA w.heap.size 0 _
    have hBS1 : Boxed WS w.heap.size 22 (.slice (some ⟨g1, 0, none⟩) (k + 1) c1) := hWS ▸ HB1A.out.set (.slice (some ⟨g1, 0, none⟩) (k + 1) c1)
    have hBS2 : Boxed WS (w.heap.size + 1) 22 v2 := (Kept.of_grownBy (K := fun b => b = w.heap.size + 1) hgS (fun r e h => by cases e; have h : w.heap.size = _ := h; omega)).boxed HB2A.out rfl
    have hRS1 := own_keep HoA.out hgS (fun r e h => by cases e; have := (own_lt HoA.out _ h).1; omega)
    have hRS2 := own_keep HR2A.out hgS (fun r e h => by cases e; have := (own_lt HR2A.out _ h).1; omega)
    have hsS : wA.heap.size ≤ WS.heap.size := hgS.size
    -- the second append
    obtain ⟨g2, c2, wB, hrB, hoB, hgB, hatB⟩ := own_append (P := Try.prog) WS (w.heap.size + 5) 22 22 3 i0 _ 8 .i64 Try.underlying22 hi hz0 hz1 hz2 rfl v2 k _ hRS2 m 3 (by unfold maxLen; omega) (by omega) (by omega)
    have hne2 : ∀ g, Value.ownBlock (.slice (some ⟨g1, 0, none⟩) (k + 1) c1) = some g → v2.ownBlock ≠ some g := by
      intro g h1 h2
      have := (hl2 g h2).2
      obtain rfl : g1 = g := by simpa [Value.ownBlock] using h1
      rcases hatA with e | e
      · exact hne.out g1 e.symm h2
      · omega
    have hBS2c := hBS2.cell
    have hlt1' := own_lt hRS1
    have hBT2 : Boxed wB (w.heap.size + 1) 22 v2 := (Kept.of_grownBy (K := fun b => b = w.heap.size + 1) hgB (fun r e h => by have := (hl2 r e).1; have h : r = _ := h; omega)).boxed (hBS2.alloc _) rfl
    have hBT1 : Boxed wB w.heap.size 22 (.slice (some ⟨g1, 0, none⟩) (k + 1) c1) := (Kept.of_grownBy (K := fun b => b = w.heap.size) hgB (fun r e h => by have := (hl2 r e).1; have h : r = _ := h; omega)).boxed (hBS1.alloc _) rfl
    have hRT1 := own_keep (hRS1.alloc (.cells #[.int .i64 m] 3)) hgB (fun r e h => hne2 r h e)
    have hfT := hBT2.frozen
    have hcT := hBT2.cell
    have HFIN : Hid (∀ WT, WT = wB.setCell ⟨w.heap.size + 1, 0, none⟩ (.slice (some ⟨g2, 0, none⟩) (k + 1) c2) → Kept (fun b => (b < w.heap.size ∨ b = w.heap.size + 2) ∨ b = w.heap.size + 3 ∨ b = w.heap.size + 3 + 1) W WT ∧ runsI w zs (k + 1) WT) := by
      rintro WT rfl
      have hgT := setc wB (w.heap.size + 1) 0 (.slice (some ⟨g2, 0, none⟩) (k + 1) c2)
      have hKK : ∀ K : Nat → Prop, (∀ b, K b → b < w.heap.size ∨ b = w.heap.size + 2 ∨ b = w.heap.size + 3 ∨ b = w.heap.size + 4) → Kept K W (wB.setCell ⟨w.heap.size + 1, 0, none⟩ (.slice (some ⟨g2, 0, none⟩) (k + 1) c2)) := fun K hK => by
        have hc1 : Kept K W (W.alloc (.cells #[.int .i64 y] 3)) := (Kept.of_below (Below.refl W.heap.size W |>.alloc (Nat.le_refl _) (.cells #[.int .i64 y] 3))).mono' fun b hb _ => hb
        have hc2 : Kept K (W.alloc (.cells #[.int .i64 y] 3)) wA := Kept.of_grownBy HGA.out (fun r e h => by have := (hl1 r e).1; have := hK r h; omega)
        have hc3 : Kept K wA WS := Kept.of_grownBy hgS (fun r e h => by cases e; have := hK _ h; omega)
        have hc4 : Kept K WS (WS.alloc (.cells #[.int .i64 m] 3)) := (Kept.of_below (Below.refl WS.heap.size WS |>.alloc (Nat.le_refl _) (.cells #[.int .i64 m] 3))).mono' fun b hb _ => hb
        have hc5 : Kept K (WS.alloc (.cells #[.int .i64 m] 3)) wB := Kept.of_grownBy hgB (fun r e h => by have := (hl2 r e).1; have := hK r h; omega)
        have hc6 : Kept K wB (wB.setCell ⟨w.heap.size + 1, 0, none⟩ (.slice (some ⟨g2, 0, none⟩) (k + 1) c2)) := Kept.of_grownBy hgT (fun r e h => by cases e; have := hK _ h; omega)
        exact ((((hc1.trans hc2).trans hc3).trans hc4).trans hc5).trans hc6
      refine ⟨hKK _ (fun b h => by omega), (.slice (some ⟨g1, 0, none⟩) (k + 1) c1), (.slice (some ⟨g2, 0, none⟩) (k + 1) c2), ?_, hBT2.set _, ?_, ?_, ?_, hWW.trans ((hKK (fun b => b < w.heap.size) (fun b h => .inl h)).below (fun k h => h) (by omega))⟩
      · exact (Kept.of_grownBy (K := fun b => b = w.heap.size) hgT (fun r e h => by cases e; have h : w.heap.size + 1 = _ := h; omega)).boxed hBT1 rfl
      · have := own_keep hRT1 hgT (fun r e h => by cases e; have := (hlt1' _ h).1; omega)
        rw [HT1.out, List.map_append]; exact this
      · have := own_keep hoB hgT (fun r e h => by cases e; have := (own_lt hoB _ h).1; omega)
        rw [HT2.out, List.map_append]; exact this
      · show ∀ g, Value.ownBlock (.slice (some ⟨g1, 0, none⟩) (k + 1) c1) = some g → Value.ownBlock (.slice (some ⟨g2, 0, none⟩) (k + 1) c2) ≠ some g
        intro g h1 h2
        have := (hlt1' g h1).2
        obtain rfl : g2 = g := by simpa [Value.ownBlock] using h2
        rcases hatB with e | e
        · exact hne2 g2 h1 e.symm
        · omega
    clear hB1 hB2 hR1 hR2 hBS1 hBS2 hRS1 hRS2 hRT1 hBT1 hBT2 hoB HB1A HoA HB2A HR2A hlt1'
    have HRA := Lib.hid hrA
    have HRB := Lib.hid hrB
    clear hrA hrB
    gi_wp2_with (first
      | (gi_at_builtin; refine wpListIn_append_run (o := ⟨some 15, _, _, _, _, _⟩) _ rfl _ _ 22 rfl v1 (.slice (some ⟨W.heap.size, 0, none⟩) 1 1) rfl rfl _ _ HRA.out ?_)
      | (gi_at_builtin; refine wpListIn_append_run (o := ⟨some 19, _, _, _, _, _⟩) _ rfl _ _ 22 rfl v2 (.slice (some ⟨WS.heap.size, 0, none⟩) 1 1) rfl rfl _ _ HRB.out ?_))
    rw [hsz]
    exact HFIN.out _ rfl
  case done =>
    rintro D W hD hWz ⟨v1, v2, hB1, hB2, hR1, hR2, hne, hWW⟩ hDx
    rw [hsz] at hWz hD
    rw [← vals_length, List.take_length, vals_length] at hR1
    rw [← lens_length, List.take_length, lens_length] at hR2
    have hD1 : v1.ownBlock ≠ some D := fun h => by
      obtain ⟨cur, hcur⟩ := own_cells hR1 h
      rw [hcur] at hDx; cases hDx
    have hD2 : v2.ownBlock ≠ some D := fun h => by
      obtain ⟨cur, hcur⟩ := own_cells hR2 h
      rw [hcur] at hDx; cases hDx
    have HF : Hid (∀ V : World, W.grownBy V (some D) → RunsPost w zs (.returned (.tuple #[v1, v2])) V) := by
      intro V hg
      obtain ⟨a1, c1, rfl, hr1⟩ := Rd.of_own (vals_length zs).symm (by omega) (own_keep hR1 hg (fun r e => by cases e; exact hD1))
      obtain ⟨a2, c2, rfl, hr2⟩ := Rd.of_own (lens_length zs).symm (by omega) (own_keep hR2 hg (fun r e => by cases e; exact hD2))
      exact ⟨a1, _, c1, a2, _, c2, rfl, hr1.mono (fun b _ h => by omega), hr2.mono (fun b _ h => by omega), hWW.grown hg hWW.size (fun r e => by cases e; omega)⟩
    have hcA := hB1.cell
    have hcB := hB2.cell
    have HDX := Lib.hid hDx
    clear hR1 hR2 hD1 hD2 hB1 hB2 hDx
    gi_wp2
    gi_big_region
    all_goals
      gi_wp2
      refine ⟨by simp, .inl ⟨_, _, rfl, run_takeDeferred (w := W.drew) HDX.out, ?_⟩⟩
      exact ⟨.tuple #[v1, v2], by simp [results, Try.results50, go_sem], HF.out _ ((show W.grownBy W.drew (some D) from ⟨rfl, rfl, rfl, Nat.le_refl _, fun _ _ _ => rfl⟩).trans (grownBy_putObj' _ _ _))⟩

theorem runs_any {K : Nat → Prop} {a : Option Addr} {len cap : Nat} {zs : List Int} {w : World} (hR : Rd K w .i64 a len cap zs) (hl40 : len ≤ 1099511627776) :
    Calls Try.prog 50 #[.slice a len cap] w (RunsPost w zs) := callsIn_wide.1 (runs_in 8 (by decide) hR hl40)

end Go.Proofs.Ytmbcppkdnoccbaa
