/-
  The reference's runs.
-/
import Derived.Test.YtmbcppkdnoccbaaRnRef1
import Derived.Test.YtmbcppkdnoccbaaRnRfMath
import Derived.Test.YtmbcppkdnoccbaaPkHere
import Derived.BigQuiet
import Derived.Deep.DeepCutAuto
namespace Go.Proofs.Ytmbcppkdnoccbaa
open Go.RowKit Go.Shelf Go.ChangeShapes Go.WideShapes Go.ChangeAt

theorem Pair.other {A B : World} {T : Nat} {t : TypeId} {a b : Value} {row : Option Nat} (h : Pair A T t a b) (hg : A.grownBy B row) (hne : ∀ r, row = some r → T ≠ r) : Pair B T t a b :=
  (hg.block T h.lt (fun e => hne T e.symm rfl)).trans h
theorem Pair.put0 {W : World} {B : Nat} {t : TypeId} {a b : Value} (h : Pair W B t a b) (v : Value) : Pair (W.setCell ⟨B, 0, none⟩ v) B t v b := by
  obtain ⟨hlt, hk⟩ := Array.getElem?_eq_some_iff.1 (show W.heap[B]? = _ from h)
  show (W.heap.modify B _)[B]? = _
  rw [Array.getElem?_eq_getElem (by rw [Array.size_modify]; exact hlt), Array.getElem_modify_self, hk]; rfl
theorem Pair.put1 {W : World} {B : Nat} {t : TypeId} {a b : Value} (h : Pair W B t a b) (v : Value) : Pair (W.setCell ⟨B, 1, none⟩ v) B t a v := by
  obtain ⟨hlt, hk⟩ := Array.getElem?_eq_some_iff.1 (show W.heap[B]? = _ from h)
  show (W.heap.modify B _)[B]? = _
  rw [Array.getElem?_eq_getElem (by rw [Array.size_modify]; exact hlt), Array.getElem_modify_self, hk]; rfl

/-- The two rows between two rounds. -/
structure RunsAt (W : World) (zs : List Int) (V : World) (k n : Nat) (a1 : Option Addr) (c1 : Nat) (a2 : Option Addr) (c2 : Nat) : Prop where
  hn : n = (rl (zs.take k)).length
  p : Pair V (W.heap.size + 1) 24 (.slice a1 n c1) (.slice a2 n c2)
  q : Pair V W.heap.size 24 (.slice none 0 0) (.slice none 0 0)
  r1 : V.ownsRow (W.heap.size + 2) 3 1 (.slice a1 n c1) n ((vals (zs.take k)).map (Value.int .i64))
  r2 : V.ownsRow (W.heap.size + 2) 3 1 (.slice a2 n c2) n ((lens (zs.take k)).map (Value.int .i64))
  ne : ∀ g, Value.ownBlock (.slice a1 n c1) = some g → Value.ownBlock (.slice a2 n c2) ≠ some g
  b : Below W.heap.size W V

theorem RunsAt.quiet {W : World} {zs : List Int} {V : World} {k n : Nat} {a1 : Option Addr} {c1 : Nat} {a2 : Option Addr} {c2 : Nat} (h : RunsAt W zs V k n a1 c1 a2 c2) {U : World} (hg : V.grownBy U none) : RunsAt W zs U k n a1 c1 a2 c2 :=
  ⟨h.hn, h.p.other hg (fun _ e => by cases e), h.q.other hg (fun _ e => by cases e), own_keep h.r1 hg (fun _ e => by cases e), own_keep h.r2 hg (fun _ e => by cases e), h.ne, h.b.grown hg h.b.size (fun _ e => by cases e)⟩

theorem grown_drew (V : World) (row : Option Nat) : V.grownBy V.drew row := ⟨rfl, rfl, rfl, Nat.le_refl _, fun _ _ _ => rfl⟩
theorem grown_drewN (V : World) (n : Nat) (row : Option Nat) : V.grownBy (V.drewN n) row := ⟨rfl, rfl, rfl, Nat.le_refl _, fun _ _ _ => rfl⟩

set_option maxRecDepth 100000 in
set_option maxHeartbeats 1000000 in
/-- Two appends and two stores. -/
theorem RunsAt.more {W : World} {zs : List Int} {V : World} {k n : Nat} {a1 : Option Addr} {c1 : Nat} {a2 : Option Addr} {c2 : Nat} (h : RunsAt W zs V k n a1 c1 a2 c2) (hl : k < zs.length) (h40 : zs.length ≤ 1099511627776) (hd : k = 0 ∨ zs[k]?.getD 0 ≠ zs[k - 1]?.getD 0) :
    ∃ g1 d1 VA g2 d2 VB, (Builtin.append_ #[22, 22] 22 #[.slice a1 n c1, .slice (some ⟨V.heap.size, 0, none⟩) 1 1]).run Try.prog (V.alloc (.cells #[.int .i64 (zs[k]?.getD 0)] 3)) = .ok (.slice (some ⟨g1, 0, none⟩) (n + 1) d1) VA ∧
      VA.frozen? ⟨W.heap.size + 1, 0, none⟩ = false ∧ W.heap.size + 1 < VA.heap.size ∧
      VA.cell? ⟨W.heap.size + 1, 1, none⟩ = some (.slice a2 n c2) ∧
      (Builtin.append_ #[22, 22] 22 #[.slice a2 n c2, .slice (some ⟨VA.heap.size, 0, none⟩) 1 1]).run Try.prog ((VA.setCell ⟨W.heap.size + 1, 0, none⟩ (.slice (some ⟨g1, 0, none⟩) (n + 1) d1)).alloc (.cells #[.int .i64 1] 3)) = .ok (.slice (some ⟨g2, 0, none⟩) (n + 1) d2) VB ∧
      VB.frozen? ⟨W.heap.size + 1, 1, none⟩ = false ∧ W.heap.size + 1 < VB.heap.size ∧ (∃ x, VB.cell? ⟨W.heap.size + 1, 1, none⟩ = some x) ∧ (∃ x, VA.cell? ⟨W.heap.size + 1, 0, none⟩ = some x) ∧
      RunsAt W zs (VB.setCell ⟨W.heap.size + 1, 1, none⟩ (.slice (some ⟨g2, 0, none⟩) (n + 1) d2)) (k + 1) (n + 1) (some ⟨g1, 0, none⟩) d1 (some ⟨g2, 0, none⟩) d2 := by
  obtain ⟨i0, hi, hz0, hz1, hz2⟩ := info_parts Try.infoN
  obtain ⟨hv, hln, hrl⟩ := runs_diff zs k hl hd
  obtain ⟨hn, hp, hq, hr1, hr2, hne, hb⟩ := h
  have hnl : n ≤ 1099511627776 := by
    have h1 := rl_le (zs.take k)
    have h2 := List.length_take_le k zs
    omega
  have hpl := hp.lt
  have hl1 := own_lt hr1
  have hl2 := own_lt hr2
  obtain ⟨g1, d1, VA, hrA, hoA, hgA, hatA⟩ := own_append (P := Try.prog) V (W.heap.size + 2) 22 22 3 i0 _ 8 .i64 Try.underlying22 hi hz0 hz1 hz2 rfl (.slice a1 n c1) n _ hr1 (zs[k]?.getD 0) 3 (by unfold maxLen; omega) (by omega) (by omega)
  have hg0 : V.grownBy (V.alloc (.cells #[.int .i64 (zs[k]?.getD 0)] 3)) none := World.grownBy_alloc _ _ _
  have hpA := (hp.other hg0 (fun _ e => by cases e)).other hgA (fun r e => by have := (hl1 r e).1; omega)
  have hqA := (hq.other hg0 (fun _ e => by cases e)).other hgA (fun r e => by have := (hl1 r e).1; omega)
  have hr2A := own_keep (hr2.alloc (.cells #[.int .i64 (zs[k]?.getD 0)] 3)) hgA (fun r e => hne r e)
  have hlA := own_lt hoA
  have hgS := setc VA (W.heap.size + 1) 0 (.slice (some ⟨g1, 0, none⟩) (n + 1) d1)
  have hpS := hpA.put0 (.slice (some ⟨g1, 0, none⟩) (n + 1) d1)
  have hqS := hqA.other hgS (fun r e => by cases e; omega)
  have hr1S := own_keep hoA hgS (fun r e h => by cases e; have := (hlA _ h).1; omega)
  have hr2S := own_keep hr2A hgS (fun r e h => by cases e; have := (own_lt hr2A _ h).1; omega)
  have hne2 : ∀ g, Value.ownBlock (.slice (some ⟨g1, 0, none⟩) (n + 1) d1) = some g → Value.ownBlock (.slice a2 n c2) ≠ some g := by
    intro g h1 h2
    have := (hl2 g h2).2
    obtain rfl : g1 = g := by simpa [Value.ownBlock] using h1
    rcases hatA with e | e
    · exact hne g1 e.symm h2
    · omega
  have hsA : V.heap.size + 1 ≤ VA.heap.size := by have := hgA.size; simpa using this
  have hsS := hgS.size
  have hbA : Below W.heap.size W VA := (hb.alloc hb.size _).grown hgA (by simp; have := hb.size; omega) (fun r e => by have := (hl1 r e).1; omega)
  have hbS : Below W.heap.size W (VA.setCell ⟨W.heap.size + 1, 0, none⟩ (.slice (some ⟨g1, 0, none⟩) (n + 1) d1)) := hbA.setCell (by show W.heap.size ≤ W.heap.size + 1; omega) _
  obtain ⟨VS, hVS⟩ : ∃ VS, VA.setCell ⟨W.heap.size + 1, 0, none⟩ (.slice (some ⟨g1, 0, none⟩) (n + 1) d1) = VS := ⟨_, rfl⟩
  have hl1S := own_lt hr1S
  have hsz : VS.heap.size = VA.heap.size := by rw [← hVS]; simp [World.setCell]
  rw [hVS] at hgS hpS hqS hr1S hr2S hsS hbS hl1S
  obtain ⟨g2, d2, VB, hrB, hoB, hgB, hatB⟩ := own_append (P := Try.prog) VS (W.heap.size + 2) 22 22 3 i0 _ 8 .i64 Try.underlying22 hi hz0 hz1 hz2 rfl (.slice a2 n c2) n _ hr2S 1 3 (by unfold maxLen; omega) (by omega) (by omega)
  have hl2S := own_lt hr2S
  have hg1 : VS.grownBy (VS.alloc (.cells #[.int .i64 1] 3)) none := World.grownBy_alloc _ _ _
  have hpB := (hpS.other hg1 (fun _ e => by cases e)).other hgB (fun r e => by have := (hl2S r e).1; omega)
  have hqB := (hqS.other hg1 (fun _ e => by cases e)).other hgB (fun r e => by have := (hl2S r e).1; omega)
  have hr1B := own_keep (hr1S.alloc (.cells #[.int .i64 1] 3)) hgB (fun r e h => hne2 r h e)
  have hlB := own_lt hoB
  have hgT := setc VB (W.heap.size + 1) 1 (.slice (some ⟨g2, 0, none⟩) (n + 1) d2)
  have hbB : Below W.heap.size W VB := (hbS.alloc hbS.size _).grown hgB (by simp; have := hbS.size; omega) (fun r e => by have := (hl2S r e).1; omega)
  refine ⟨g1, d1, VA, g2, d2, VB, hrA, hpA.f 0, hpA.lt, hpA.c1, by rw [hVS, ← hsz]; exact hrB, hpB.f 1, hpB.lt, ⟨_, hpB.c1⟩, ⟨_, hpA.c0⟩, ?_⟩
  refine ⟨by rw [hn, hrl], hpB.put1 _, hqB.other hgT (fun r e => by cases e; omega), ?_, ?_, ?_, hbB.setCell (by show W.heap.size ≤ W.heap.size + 1; omega) _⟩
  · rw [hv, List.map_append]
    exact own_keep hr1B hgT (fun r e h => by cases e; have := (hl1S _ h).1; omega)
  · rw [hln, List.map_append]
    exact own_keep hoB hgT (fun r e h => by cases e; have := (hlB _ h).1; omega)
  · intro g h1 h2
    have := (hl1S g h1).2
    obtain rfl : g2 = g := by simpa [Value.ownBlock] using h2
    rcases hatB with e | e
    · exact hne2 g2 h1 e.symm
    · omega

theorem runs_start (W : World) (zs : List Int) : RunsAt W zs ((W.alloc (.cells #[.slice none 0 0, .slice none 0 0] 24)).alloc (.cells #[.slice none 0 0, .slice none 0 0] 24)) 0 0 none 0 none 0 := by
  refine ⟨rfl, ?_, ?_, World.ownsRow_nil _ _ _ _, World.ownsRow_nil _ _ _ _, (fun g h => by cases h), ((Below.refl _ W).alloc (Nat.le_refl _) _).alloc (by simp) _⟩
  · have := Pair.new (W.alloc (.cells #[.slice none 0 0, .slice none 0 0] 24)) 24 (.slice none 0 0) (.slice none 0 0)
    rw [World.size_alloc] at this
    exact this
  · exact (Pair.new W 24 (.slice none 0 0) (.slice none 0 0)).below ((Below.refl _ _).alloc (Nat.le_refl _) _) (by simp)

set_option maxHeartbeats 1000000 in
/-- One more in the last run. -/
theorem RunsAt.longer {W : World} {zs : List Int} {V : World} {k n : Nat} {a1 : Option Addr} {c1 : Nat} {a2 : Option Addr} {c2 : Nat} (h : RunsAt W zs V k n a1 c1 a2 c2) (hl : k < zs.length) (h40 : zs.length ≤ 1099511627776) (h0 : 0 < k) (he : zs[k]?.getD 0 = zs[k - 1]?.getD 0) :
    ∃ m g2 L, n = m + 1 ∧ a2 = some ⟨g2, 0, none⟩ ∧ n ≤ c2 ∧ 1 ≤ L ∧ L ≤ 1099511627776 ∧ V.cell? ⟨g2, m, none⟩ = some (.int .i64 L) ∧ V.frozen? ⟨g2, m, none⟩ = false ∧ g2 < V.heap.size ∧
      RunsAt W zs (V.setCell ⟨g2, m, none⟩ (.int .i64 (L + 1))) (k + 1) n a1 c1 a2 c2 := by
  obtain ⟨hv, m, hm, hm1, hL, hset⟩ := runs_same zs k h0 hl he
  obtain ⟨hn, hp, hq, hr1, hr2, hne, hb⟩ := h
  obtain rfl : n = m + 1 := by omega
  obtain ⟨g2, cap, e2, hfit, hbase⟩ := row_form hr2 (fun e => by cases e)
  cases e2
  have hlm : m < (lens (zs.take k)).length := by rw [lens_length]; omega
  have hcx := row_cell (j := m) hr2 hlm
  have hst := row_store (j := m) hr2 (.int .i64 ((lens (zs.take k))[m]?.getD 0 + 1))
  rw [← List.map_set, ← hset] at hst
  have hgT := setc V g2 m (.int .i64 ((lens (zs.take k))[m]?.getD 0 + 1))
  have hlt := row_lt hr2
  refine ⟨m, g2, (lens (zs.take k))[m]?.getD 0, rfl, rfl, hfit, hL, ?_, hcx, row_unfrozen hr2, hlt, ?_⟩
  · have h1 := (lens_le (zs.take k) ((lens (zs.take k))[m]?.getD 0) (by rw [List.getElem?_eq_getElem hlm]; exact List.getElem_mem hlm)).2
    have h2 := List.length_take_le k zs
    omega
  · refine ⟨by omega, hp.other hgT (fun r e => by cases e; omega), hq.other hgT (fun r e => by cases e; omega), ?_, hst, hne, hb.setCell (by show W.heap.size ≤ g2; omega) _⟩
    rw [hv]
    exact own_keep hr1 hgT (fun r e h => by cases e; exact hne _ h rfl)

/-- What the reference's runs come to. -/
def RunsRPost (w : World) (zs : List Int) (e : Ending) (W' : World) : Prop :=
  ∃ a1 n c1 a2 c2, e = .returned (.agg #[.slice a1 n c1, .slice a2 n c2]) ∧ Rd (fun b => w.heap.size ≤ b) W' .i64 a1 n c1 (vals zs) ∧ Rd (fun b => w.heap.size ≤ b) W' .i64 a2 n c2 (lens zs) ∧ Below w.heap.size w W'

set_option maxRecDepth 100000 in
set_option maxHeartbeats 4000000 in
theorem runsR_any {K : Nat → Prop} {a : Option Addr} {len cap : Nat} {zs : List Int} (hl40 : len ≤ 1099511627776) {W : World} (hR : Rd K W .i64 a len cap zs) :
    Calls Try.prog 17 #[.slice a len cap] W (RunsRPost W zs) := by
  have hfit := hR.fit
  have HL : Hid (len = zs.length) := hR.hl
  have H := Lib.hid hR
  have HS := Lib.hid (runs_start W zs)
  clear hR
  go_enter Try.func17, Try.ntmps17
  go_wp2
  go_loopw [4] (fun i wr => ∃ k n a1 c1 a2 c2, k ≤ len ∧ i = .int .i64 (k : Nat) ∧ Hid (RunsAt W zs wr k n a1 c1 a2 c2)) (fun i _ => len - (intOf i).toNat)
  case atStart => exact ⟨0, 0, none, 0, none, 0, Nat.zero_le _, rfl, HS⟩
  case round =>
    obtain ⟨k, n, a1, c1, a2, c2, hk, rfl, HA⟩ := hrel
    have hc0 := HA.out.p.c0
    have hc1 := HA.out.p.c1
    have hpl := HA.out.p.lt
    by_cases hlt : k < len
    · have hlz : k < zs.length := by rw [← HL.out]; exact hlt
      have h40 : zs.length ≤ 1099511627776 := by rw [← HL.out]; exact hl40
      obtain ⟨b, off, rfl, _, hblt, hcs⟩ := (H.out.below HA.out.b).cells (by omega)
      have hcx := hcs k hlt
      have HC := Lib.hid hcs
      clear hcs
      by_cases hsame : 0 < k ∧ zs[k]?.getD 0 = zs[k - 1]?.getD 0
      · obtain ⟨h0, he⟩ := hsame
        have hcy := HC.out (k - 1) (by omega)
        obtain ⟨j, hj⟩ : ∃ j, k - 1 = j := ⟨_, rfl⟩
        have hw : IntKind.i64.wrap ((k : Int) - 1) = (j : Int) := by rw [IntKind.wrap_i64]; omega
        have HE : Hid (zs[k]?.getD 0 = zs[k - 1]?.getD 0) := he
        rw [← he] at hcy
        rw [hj] at hcy
        have hg0 : (0 : Int) < (k : Int) := by omega
        have hjl : (j : Int) < (len : Int) := by omega
        have hkl : (k : Int) < (len : Int) := by omega
        clear he
        generalize hx : zs[k]?.getD 0 = x at hcx hcy
        go_wp2_with fail
        go_quiet (fail)
        obtain ⟨V2, hV2⟩ : ∃ V2, wr.drewN nq = V2 := ⟨_, rfl⟩
        have HA2 : Hid (RunsAt W zs V2 k n a1 c1 a2 c2) := by rw [← hV2]; exact HA.out.quiet (grown_drewN _ _ _)
        rw [hV2]
        clear hV2 hc0 hc1 hpl hcx hcy
        obtain ⟨m, g2, L, hnm, rfl, hnc, hL1, hL2, hcL, hfL, hgL, hnew⟩ := HA2.out.longer hlz h40 h0 HE.out
        have HN := Lib.hid hnew
        have hc1 := HA2.out.p.c1
        have hpl := HA2.out.p.lt
        have hwm : IntKind.i64.wrap ((n : Int) - 1) = (m : Int) := by rw [IntKind.wrap_i64]; have := HA2.out.hn; have h1 := rl_le (zs.take k); have h2 := List.length_take_le k zs; omega
        have hwL : IntKind.i64.wrap (L + 1) = L + 1 := by rw [IntKind.wrap_i64]; omega
        have hml : (m : Int) < (n : Int) := by omega
        clear hnew hnm
        go_wp2
        go_roundw
        case rel => exact ⟨k + 1, n, a1, c1, _, c2, by omega, by go_num, HN⟩
        case measure => simp [intOf]; omega
      · have hd : k = 0 ∨ zs[k]?.getD 0 ≠ zs[k - 1]?.getD 0 := by
          by_cases h0 : k = 0
          · exact .inl h0
          · exact .inr fun e => hsame ⟨by omega, e⟩
        have HMORE : Hid (∀ V : World, RunsAt W zs V k n a1 c1 a2 c2 → _) := fun V hV => RunsAt.more (V := V) hV hlz h40 hd
        have hnl : n ≤ 1099511627776 := by have := HA.out.hn; have h1 := rl_le (zs.take k); have h2 := List.length_take_le k zs; omega
        go_upto_region 6 with fail
        go_cut [29] (fun t wx => t = .bool false ∧ ∃ nq, wx = wr.drewN nq)
        case first =>
          rcases hd with h0 | h0
          · subst h0
            have hg0 : decide ((0 : Int) < 0) = false := rfl
            go_quiet (fail)
            go_wp2_with fail
            go_meet
            exact ⟨rfl, _, rfl⟩
          · by_cases h00 : k = 0
            · subst h00
              have hg0 : decide ((0 : Int) < 0) = false := rfl
              go_quiet (fail)
              go_wp2_with fail
              go_meet
              exact ⟨rfl, _, rfl⟩
            · have hcy := HC.out (k - 1) (by omega)
              obtain ⟨j, hj⟩ : ∃ j, k - 1 = j := ⟨_, rfl⟩
              have hw : IntKind.i64.wrap ((k : Int) - 1) = (j : Int) := by rw [IntKind.wrap_i64]; omega
              rw [hj] at hcy h0
              have hk0 : 0 < k := by omega
              have hg0 : (0 : Int) < (k : Int) := by omega
              have hjl : (j : Int) < (len : Int) := by omega
              have hkl : (k : Int) < (len : Int) := by omega
              generalize zs[k]?.getD 0 = x at *
              generalize zs[j]?.getD 0 = y at *
              have hxy : (x == y) = false := by rw [beq_eq_false_iff_ne]; exact h0
              have hxy2 : ¬ x = y := h0
              go_quiet (fail)
              go_wp2_with fail
              go_meet
              exact ⟨rfl, _, rfl⟩
        case rest =>
          obtain ⟨rfl, nq, hwc⟩ := hcut
          subst hwc
          obtain ⟨V2, hV2⟩ : ∃ V2, wr.drewN nq = V2 := ⟨_, rfl⟩
          have HA2 : Hid (RunsAt W zs V2 k n a1 c1 a2 c2) := by rw [← hV2]; exact HA.out.quiet (grown_drewN _ _ _)
          have hcx2 : V2.cell? ⟨b, off + k, none⟩ = some (.int .i64 (zs[k]?.getD 0)) := by rw [← hV2]; exact hcx
          rw [hV2]
          clear hV2 hc0 hc1 hpl hcx HC
          obtain ⟨g1, d1, VA, g2, d2, VB, hrA, hfA, hlA, hcA1, hrB, hfB, hlB, ⟨x1, hxB⟩, ⟨x2, hxA⟩, hnew⟩ := HMORE.out V2.drew (HA2.out.quiet (grown_drew _ _))
          have HN := Lib.hid hnew
          have HRA := Lib.hid hrA
          have HRB := Lib.hid hrB
          have hc0 := HA2.out.p.c0
          have hpl := HA2.out.p.lt
          have hkl : (k : Int) < (len : Int) := by omega
          clear HMORE hnew hrA hrB hd hsame
          generalize zs[k]?.getD 0 = x at *
          go_wp2_with fail
          go_region_law (refine step_append_run (by rfl) (.tmp 39) (.tmp 44) 22 22 (by rfl) (.slice a1 n c1) (.slice (some ⟨V2.heap.size, 0, none⟩) 1 1) (by go_simp) (by go_simp) _ _ HRA.out ?_)
          all_goals
            (try simp [Act.put])
            go_wp2_with (at_builtin; refine wpList_append_want (o := ⟨some 50, _, _, _, _, _⟩) _ rfl _ _ _ _ rfl _ _ rfl rfl _ _ HRB.out ?_)
            go_roundw
            case rel => exact ⟨k + 1, n + 1, _, d1, _, d2, by omega, by go_num, HN⟩
            case measure => simp [intOf]; omega
    · obtain rfl : k = len := by omega
      have hq0 := HA.out.q.c0
      have hq1 := HA.out.q.c1
      have hf0 := HA.out.q.f 0
      have hf1 := HA.out.q.f 1
      have hql := HA.out.q.lt
      have hnl : n ≤ 1099511627776 := by have := HA.out.hn; have h1 := rl_le (zs.take k); have h2 := List.length_take_le k zs; have := HL.out; omega
      have HF : Hid (RunsRPost W zs (.returned (.agg #[.slice a1 n c1, .slice a2 n c2])) ((wr.setCell ⟨W.heap.size, 0, none⟩ (.slice a1 n c1)).setCell ⟨W.heap.size, 1, none⟩ (.slice a2 n c2))) := by
        have htk : zs.take k = zs := List.take_of_length_le (by rw [← HL.out]; exact Nat.le_refl _)
        have h1 := HA.out.r1
        have h2 := HA.out.r2
        have hn := HA.out.hn
        rw [htk] at h1 h2 hn
        obtain ⟨b1, d1, e1, hr1⟩ := Rd.of_own (by rw [vals_length]; exact hn) (by omega) h1
        obtain ⟨b2, d2, e2, hr2⟩ := Rd.of_own (by rw [lens_length]; exact hn) (by omega) h2
        cases e1
        cases e2
        refine ⟨a1, n, c1, a2, c2, rfl, ?_, ?_, (HA.out.b.setCell (Nat.le_refl _) _).setCell (Nat.le_refl _) _⟩
        · exact ((hr1.set ⟨W.heap.size, 0, none⟩ _ (fun h => by have h : W.heap.size + 2 ≤ W.heap.size := h; omega)).set ⟨W.heap.size, 1, none⟩ _ (fun h => by have h : W.heap.size + 2 ≤ W.heap.size := h; omega)).mono fun i _ h => by omega
        · exact ((hr2.set ⟨W.heap.size, 0, none⟩ _ (fun h => by have h : W.heap.size + 2 ≤ W.heap.size := h; omega)).set ⟨W.heap.size, 1, none⟩ _ (fun h => by have h : W.heap.size + 2 ≤ W.heap.size := h; omega)).mono fun i _ h => by omega
      go_wp2
      exact bodyPost_ret (v := .agg #[.slice a1 n c1, .slice a2 n c2]) (by simp [results, Try.results17, go_sem, hq0, hq1]) rfl HF.out

end Go.Proofs.Ytmbcppkdnoccbaa
