/-
  The iterator over the words of a byte sequence, and the digest of bytes.
-/
import Derived.Test.YtjlihkllgajkkaaDigChunk
namespace Go.Proofs.Ytjlihkllgajkkaa
open Go.RowKit Go.Shelf
attribute [local go_sem] Oper.semAt_some

theorem room_none {F : Fence} (hd : F.depth = none) (k : Nat) : F.room k := fun d h => by rw [hd] at h; cases h
theorem RoundIn.depths {F : Fence} (hd : F.depth = none) {m m' : Nat} {P : Program} {l : Nat} {f : FuncId} {tmps : Array Value} {assign body : Code} {w : World} {R : Ending → World → Prop}
    (h : RoundIn F m P l f tmps assign body w R) : RoundIn F m' P l f tmps assign body w R := ⟨h.1, fun c cs _ => h.2 c cs (room_none hd _)⟩

set_option maxRecDepth 100000 in
set_option maxHeartbeats 1000000 in
theorem chunk1_nil_in (F : Fence) (n : Nat) (hF : Lets F) (l Bs Bn : Nat) (a : Option Addr) (cap : Nat) (J : Nat → World → Prop) (W : World) (hBs : W.cell? ⟨Bs, 0, none⟩ = some (.slice a 0 cap)) (h0 : J 0 W) :
    CallsIn F n Try.prog 35 #[.func (.yield l) #[] #[], .pointer (some ⟨Bs, 0, none⟩), .pointer (some ⟨Bn, 0, none⟩)] W fun e W' => (∃ v, e = .returned v) ∧ J 0 W' ∧ W.heap.size ≤ W'.heap.size := by
  have hro := hF.round
  refine callsIn_of_wp Try.func35 rfl (hF.fn _) ?_ hF.round
  simp only [Try.ntmps35, List.size_toArray, List.length_cons, List.length_nil, Nat.reduceAdd, Nat.reduceSub, Array.replicate_succ, Array.replicate_zero, List.push_toArray, List.append_toArray, List.nil_append, List.cons_append]
  gi_wp2
  gi_loopw [4] (fun i wr => i = .int .i64 0 ∧ wr = W) (fun _ _ => 0)
  case atStart => exact ⟨rfl, rfl⟩
  case round =>
    obtain ⟨rfl, rfl⟩ := hrel
    gi_wp2
    go_end0
    exact ⟨⟨_, rfl⟩, h0, Nat.le_refl _⟩

/-- The slice of a byte sequence that lies in one block that K names; or nil. -/
theorem chunk_gives (F : Fence) (n : Nat) (hF : Lets F) (hn : 1 ≤ n) (Bs Bn b off len cap : Nat) (K : Nat → Prop) (hcap : len ≤ cap) (hmax : len ≤ 140737488351232) (w : World) (hKs : K Bs) (hKn : K Bn) (hbs : Bs < w.heap.size) (hbn : Bn < w.heap.size)
    (hBs : w.cell? ⟨Bs, 0, none⟩ = some (.slice (some ⟨b, off, none⟩) len cap)) (hBn : w.cell? ⟨Bn, 0, none⟩ = some (.int .i64 8)) :
    GivesAll F n Try.prog 35 #[.pointer (some ⟨Bs, 0, none⟩), .pointer (some ⟨Bn, 0, none⟩)] (fun k : Nat => #[groupAt b off len k]) K (List.range ((len + 7) / 8)) w := by
  intro l J W hW hJ hY h0
  have := chunk1_in F n hF hn l Bs Bn b off len cap ((len + 7) / 8) K rfl hcap hmax J W hKs hKn (Nat.lt_of_lt_of_le hbs hW.size) (Nat.lt_of_lt_of_le hbn hW.size) hJ hY
    ((hW.cell (p := ⟨Bs, 0, none⟩) hbs).trans hBs) ((hW.cell (p := ⟨Bn, 0, none⟩) hbn).trans hBn) h0
  rwa [List.length_range]
theorem chunk_gives_nil (F : Fence) (n : Nat) (hF : Lets F) (Bs Bn : Nat) (a : Option Addr) (cap : Nat) (K : Nat → Prop) (w : World) (hbs : Bs < w.heap.size)
    (hBs : w.cell? ⟨Bs, 0, none⟩ = some (.slice a 0 cap)) :
    GivesAll F n Try.prog 35 #[.pointer (some ⟨Bs, 0, none⟩), .pointer (some ⟨Bn, 0, none⟩)] (fun v : Value => #[v]) K [] w := by
  intro l J W hW hJ hY h0
  exact chunk1_nil_in F n hF l Bs Bn a cap J W ((hW.cell (p := ⟨Bs, 0, none⟩) hbs).trans hBs) h0

/-- The words of a byte sequence. -/
def group (bs : List Int) (k : Nat) : List Int := (bs.drop (8 * k)).take 8
def groupsOf (bs : List Int) : List Int := (List.range ((bs.length + 7) / 8)).map fun k => wordOf (group bs k)

theorem groupsOf_at (bs : List Int) (k : Nat) (hk : k < (bs.length + 7) / 8) : (groupsOf bs)[k]? = some (wordOf (group bs k)) := by
  unfold groupsOf; rw [List.getElem?_map, List.getElem?_range hk]; rfl
theorem group_length (bs : List Int) (k : Nat) : (group bs k).length = groupLen bs.length k := by
  unfold group groupLen
  rw [List.length_take, List.length_drop]
  split <;> omega
theorem group_getD (bs : List Int) (k j : Nat) (hj : j < groupLen bs.length k) : (group bs k)[j]?.getD 0 = bs[8 * k + j]?.getD 0 := by
  unfold groupLen at hj
  unfold group
  rw [List.getElem?_take_of_lt (by split at hj <;> omega), List.getElem?_drop]
theorem group_octets {bs : List Int} (h : Octets bs) (k : Nat) : Octets (group bs k) := fun x hx => h x (List.mem_of_mem_drop (List.mem_of_mem_take hx))

set_option maxRecDepth 100000 in
set_option maxHeartbeats 4000000 in
theorem groups1_in (F : Fence) (n : Nat) (hF : Lets F) (hn : 6 ≤ n) (l Bs b off len cap : Nat) (K : Nat → Prop) (bs : List Int) (hlen : Hid (len = bs.length)) (hcap : len ≤ cap) (hmax : len ≤ 140737488351232) (hw : Octets bs)
    (J : Nat → World → Prop) (W : World) (hKb : K b) (hb : b < W.heap.size) (hJ : OwnFrom W.heap.size J)
    (hY : ∀ k x W1, (groupsOf bs)[k]? = some x → J k W1 → W.heap.size ≤ W1.heap.size → YieldAt F (n - 1) Try.prog l #[.int .u64 x] W1 fun e W2 => e = .returned (.bool true) ∧ J (k + 1) W2 ∧ Kept (fun b => K b ∨ W.heap.size ≤ b) W1 W2)
    (hBs : W.cell? ⟨Bs, 0, none⟩ = some (.slice (some ⟨b, off, none⟩) len cap)) (hc : ∀ j, j < len → W.cell? ⟨b, off + j, none⟩ = some (.int .u8 (bs[j]?.getD 0))) (h0 : J 0 W) :
    CallsIn F n Try.prog 32 #[.func (.yield l) #[] #[], .pointer (some ⟨Bs, 0, none⟩)] W fun e W' => (∃ v, e = .returned v) ∧ J ((len + 7) / 8) W' ∧ W.heap.size ≤ W'.heap.size := by
  have hro := hF.round
  have h1 : 1 ≤ n := by omega
  have hf := hF.fn 33
  have hf2 := hF.fn 34
  refine callsIn_of_wp_marks Try.func32 rfl (hF.fn _) ?_ hF.round
  simp only [Try.ntmps32, List.size_toArray, List.length_cons, List.length_nil, Nat.reduceAdd, Nat.reduceSub, Array.replicate_succ, Array.replicate_zero, List.push_toArray, List.append_toArray, List.nil_append, List.cons_append]
  have hBs' : (W.alloc (.cells #[.func (.yield l) #[] #[]] 57)).cell? ⟨Bs, 0, none⟩ = some (.slice (some ⟨b, off, none⟩) len cap) := (World.grownBy_alloc W _ none).cell hBs (by simp)
  clear hBs
  gi_wp2_with (gi_at_call 33; refine (chunk_in F (n - 1) hF _ _ _ _).mono ?_; rintro e w' ⟨rfl, rfl⟩)
  have bY := ((Boxed.new W 57 (.func (.yield l) #[] #[])).alloc (.cells #[.slice (some ⟨b, off, none⟩) len cap] 23)).alloc (.cells #[.int .i64 8] 3)
  have bS := (Boxed.new (W.alloc (.cells #[.func (.yield l) #[] #[]] 57)) 23 (.slice (some ⟨b, off, none⟩) len cap)).alloc (.cells #[.int .i64 8] 3)
  have bE := Boxed.new ((W.alloc (.cells #[.func (.yield l) #[] #[]] 57)).alloc (.cells #[.slice (some ⟨b, off, none⟩) len cap] 23)) 3 (.int .i64 8)
  simp only [World.size_alloc] at bS bE
  have hW0 : Below W.heap.size W (((W.alloc (.cells #[.func (.yield l) #[] #[]] 57)).alloc (.cells #[.slice (some ⟨b, off, none⟩) len cap] 23)).alloc (.cells #[.int .i64 8] 3)) :=
    (((Below.refl _ W).alloc (Nat.le_refl _) _).alloc (by simp) _).alloc (by simp; omega) _
  have hsz : (((W.alloc (.cells #[.func (.yield l) #[] #[]] 57)).alloc (.cells #[.slice (some ⟨b, off, none⟩) len cap] 23)).alloc (.cells #[.int .i64 8] 3)).heap.size = W.heap.size + 3 := by simp
  have hJ0 : J 0 (((W.alloc (.cells #[.func (.yield l) #[] #[]] 57)).alloc (.cells #[.slice (some ⟨b, off, none⟩) len cap] 23)).alloc (.cells #[.int .i64 8] 3)) := hJ.alloc _ (hJ.alloc _ (hJ.alloc _ h0))
  generalize hW0' : ((W.alloc (.cells #[.func (.yield l) #[] #[]] 57)).alloc (.cells #[.slice (some ⟨b, off, none⟩) len cap] 23)).alloc (.cells #[.int .i64 8] 3) = W0 at *
  clear hW0'
  have hG := chunk_gives F (n - 1) hF (by omega) (W.heap.size + 1) (W.heap.size + 1 + 1) b off len cap (fun i => K i ∨ W.heap.size ≤ i) hcap hmax W0 (.inr (by omega)) (.inr (by omega)) (by omega) (by omega) bS.cell bE.cell
  refine wpIn_rangeAll hro h1 (gf := 35) (lb := #[.pointer (some ⟨W.heap.size + 1, 0, none⟩), .pointer (some ⟨W.heap.size + 1 + 1, 0, none⟩)]) rfl (hF.fn _) (enters_of Try.func35 (by kernel_rfl) rfl) hG (fun _ => rfl)
    (fun k W' => J k W' ∧ Kept (fun i => K i ∨ W.heap.size ≤ i) W0 W') ?own ⟨hJ0, Kept.refl _ _⟩
    (fun k => { tmps := #[.func (.yield l) #[] #[], .pointer (some ⟨Bs, 0, none⟩), .pointer (some ⟨W.heap.size, 0, none⟩), groupAt b off len k, .slice (some ⟨b, off, none⟩) len cap,
      .func (.func 35) #[] #[.pointer (some ⟨W.heap.size + 1, 0, none⟩), .pointer (some ⟨W.heap.size + 1 + 1, 0, none⟩)], groupAt b off len k, undef, undef, undef, undef, undef], defers := [] }) ?assign ?body ?done
  case own =>
    rintro k A B row ⟨hj, hk⟩ hg hr
    have hs := hk.size
    refine ⟨hJ k A B row hj hg (fun r e => ⟨by have := (hr r e).1; omega, (hr r e).2⟩), ⟨hg.os.trans hk.os, hg.tape.trans hk.tape, hg.output.trans hk.output, Nat.le_trans hk.size hg.size, fun i hi hki => ?_⟩⟩
    refine (hg.block i (by omega) (fun e => ?_)).trans (hk.block i hi hki)
    have := (hr i e.symm).1
    omega
  case assign =>
    intro l2 k W' R hR
    gi_wp2
    exact hR
  case body =>
    rintro l2 k x W' hx ⟨hj, hkp⟩ hz
    have hk : k < (len + 7) / 8 := by
      have := (List.getElem?_eq_some_iff.1 hx).1
      rwa [List.length_range] at this
    obtain rfl : k = x := by rw [List.getElem?_range hk] at hx; exact Option.some.inj hx
    have hcY := (hkp.boxed bY (.inr (Nat.le_refl _))).cell
    have HC : Hid (∀ j, j < len → W'.cell? ⟨b, off + j, none⟩ = some (.int .u8 (bs[j]?.getD 0))) := fun j hj =>
      (World.cell?_of_block (w := W0) (hkp.block b (by omega) (.inl hKb))).trans ((World.cell?_of_block (w := W) (hW0.block b hb)).trans (hc j hj))
    obtain ⟨g, hg⟩ : ∃ g, g = groupLen len k := ⟨_, rfl⟩
    obtain ⟨o, ho⟩ : ∃ o, o = off + 8 * k := ⟨_, rfl⟩
    have hga : groupAt b off len k = .slice (some ⟨b, o, none⟩) g g := by rw [hg, ho]; rfl
    have hg8 : g ≤ 8 := by rw [hg]; unfold groupLen; split <;> omega
    have hgl : 8 * k + g ≤ len := by rw [hg]; unfold groupLen; split <;> omega
    have HW : ∀ V : World, (∀ a, V.cell? a = W'.cell? a) → Hid (CallsIn F (n - 1 - 1 - 1) Try.prog 34 #[.slice (some ⟨b, o, none⟩) g g] V fun e V' => e = .returned (.int .u64 (wordOf (group bs k))) ∧ V = V') := by
      intro V hV
      refine word_some_in F (n - 1 - 1 - 1) hF b o g g (group bs k) ?_ hg8 (group_octets hw k) V ?_
      · show g = _; rw [group_length, hg, hlen.out]
      · intro j hj
        rw [hV, ho, group_getD bs k j (by rw [← hlen.out, ← hg]; exact hj), Nat.add_assoc]
        exact HC.out (8 * k + j) (by omega)
    have HW1 := HW W'.drew (fun _ => rfl)
    obtain ⟨fn, tmps, assign, body, hy, hR⟩ := hY k _ W'.drew (groupsOf_at bs k (by rw [← hlen.out]; exact hk)) (hJ k W' W'.drew none hj ⟨rfl, rfl, rfl, Nat.le_refl _, fun _ _ _ => rfl⟩ (fun r e => by cases e)) (by simpa using by omega)
    rw [hga]
    have hmix : Try.prog.follows .mixedOrders = true := by kernel_rfl
    have h1' : 1 ≤ n - 1 - 1 := by omega
    clear hga HW hg ho hg8 hgl hx hc
    gi_wp2
    gi_region_with_o (first
      | (gi_at_call 34; refine (CallsIn.inRound l2 HW1.out).mono ?_; rintro e w' ⟨rfl, rfl⟩)
      | (refine (RoundIn.depths hF.depth hR).mono ?_; rintro e W3 ⟨rfl, hJ3, hk3⟩))
    all_goals
      gi_wp2
      have hk4 : Kept (fun i => K i ∨ W.heap.size ≤ i) W' W3 := ⟨hk3.os, hk3.tape, hk3.output, hk3.size, hk3.block⟩
      exact ⟨hk4.mono fun i h => h.elim id (fun h => .inr (by omega)), hJ3, hkp.trans hk4⟩
  case done =>
    rintro D W' hD hz ⟨hj, hkp⟩ hDx
    rw [List.length_range] at hj
    gi_wp2
    refine ⟨by simp, .inl ⟨_, _, rfl, run_takeDeferred hDx, ?_⟩⟩
    exact ⟨_, results_none rfl _ _ _, ⟨_, rfl⟩, hJ.putObj _ hj (by omega) hDx rfl, by simp; omega⟩

set_option maxRecDepth 100000 in
set_option maxHeartbeats 4000000 in
theorem groups1_nil_in (F : Fence) (n : Nat) (hF : Lets F) (hn : 6 ≤ n) (l Bs : Nat) (a : Option Addr) (cap : Nat)
    (J : Nat → World → Prop) (W : World) (hJ : OwnFrom W.heap.size J) (hBs : W.cell? ⟨Bs, 0, none⟩ = some (.slice a 0 cap)) (h0 : J 0 W) :
    CallsIn F n Try.prog 32 #[.func (.yield l) #[] #[], .pointer (some ⟨Bs, 0, none⟩)] W fun e W' => (∃ v, e = .returned v) ∧ J 0 W' ∧ W.heap.size ≤ W'.heap.size := by
  have hro := hF.round
  have h1 : 1 ≤ n := by omega
  have hf := hF.fn 33
  refine callsIn_of_wp_marks Try.func32 rfl (hF.fn _) ?_ hF.round
  simp only [Try.ntmps32, List.size_toArray, List.length_cons, List.length_nil, Nat.reduceAdd, Nat.reduceSub, Array.replicate_succ, Array.replicate_zero, List.push_toArray, List.append_toArray, List.nil_append, List.cons_append]
  have hBs' : (W.alloc (.cells #[.func (.yield l) #[] #[]] 57)).cell? ⟨Bs, 0, none⟩ = some (.slice a 0 cap) := (World.grownBy_alloc W _ none).cell hBs (by simp)
  clear hBs
  gi_wp2_with (gi_at_call 33; refine (chunk_in F (n - 1) hF _ _ _ _).mono ?_; rintro e w' ⟨rfl, rfl⟩)
  have bS := (Boxed.new (W.alloc (.cells #[.func (.yield l) #[] #[]] 57)) 23 (.slice a 0 cap)).alloc (.cells #[.int .i64 8] 3)
  simp only [World.size_alloc] at bS
  have hsz : (((W.alloc (.cells #[.func (.yield l) #[] #[]] 57)).alloc (.cells #[.slice a 0 cap] 23)).alloc (.cells #[.int .i64 8] 3)).heap.size = W.heap.size + 3 := by simp
  have hJ0 : J 0 (((W.alloc (.cells #[.func (.yield l) #[] #[]] 57)).alloc (.cells #[.slice a 0 cap] 23)).alloc (.cells #[.int .i64 8] 3)) := hJ.alloc _ (hJ.alloc _ (hJ.alloc _ h0))
  generalize hW0' : ((W.alloc (.cells #[.func (.yield l) #[] #[]] 57)).alloc (.cells #[.slice a 0 cap] 23)).alloc (.cells #[.int .i64 8] 3) = W0 at *
  clear hW0'
  have hG := chunk_gives_nil F (n - 1) hF (W.heap.size + 1) (W.heap.size + 1 + 1) a cap (fun _ => True) W0 (by omega) bS.cell
  refine wpIn_rangeAll hro h1 (gf := 35) (lb := #[.pointer (some ⟨W.heap.size + 1, 0, none⟩), .pointer (some ⟨W.heap.size + 1 + 1, 0, none⟩)]) rfl (hF.fn _) (enters_of Try.func35 (by kernel_rfl) rfl) hG (fun _ => rfl)
    J (fun k A B row hj hg hr => hJ k A B row hj hg (fun r e => ⟨by have := (hr r e).1; omega, (hr r e).2⟩)) hJ0
    (fun v => { tmps := #[.func (.yield l) #[] #[], .pointer (some ⟨Bs, 0, none⟩), .pointer (some ⟨W.heap.size, 0, none⟩), v, .slice a 0 cap,
      .func (.func 35) #[] #[.pointer (some ⟨W.heap.size + 1, 0, none⟩), .pointer (some ⟨W.heap.size + 1 + 1, 0, none⟩)], v, undef, undef, undef, undef, undef], defers := [] }) ?assign ?body ?done
  case assign =>
    intro l2 v W' R hR
    gi_wp2
    exact hR
  case body =>
    rintro l2 k x W' hx _ _
    cases hx
  case done =>
    rintro D W' hD hz hj hDx
    gi_wp2
    refine ⟨by simp, .inl ⟨_, _, rfl, run_takeDeferred hDx, ?_⟩⟩
    exact ⟨_, results_none rfl _ _ _, ⟨_, rfl⟩, hJ.putObj _ hj (by omega) hDx rfl, by simp; omega⟩

set_option maxHeartbeats 1000000 in
theorem groups_in (F : Fence) (n : Nat) (hF : Lets F) (a : Option Addr) (len cap : Nat) (w : World) :
    CallsIn F n Try.prog 27 #[.slice a len cap] w fun e w' => e = .returned (.func (.func 32) #[] #[.pointer (some ⟨w.heap.size, 0, none⟩)]) ∧ w' = w.alloc (.cells #[.slice a len cap] 23) := by
  have hro := hF.round
  refine callsIn_of_wp Try.func27 rfl (hF.fn _) ?_ hF.round
  simp only [Try.ntmps27, List.size_toArray, List.length_cons, List.length_nil, Nat.reduceAdd, Nat.reduceSub, Array.replicate_succ, Array.replicate_zero, List.push_toArray, List.append_toArray, List.nil_append, List.cons_append]
  gi_wp2
  go_ret
  exact ⟨rfl, rfl⟩

/-- A slice's length is within its capacity. -/
def Fits : Value → Prop
  | .slice _ len cap => len ≤ cap
  | _ => True

theorem groups_gives (F : Fence) (n : Nat) (hF : Lets F) (hn : 6 ≤ n) (Bs : Nat) (K : Nat → Prop) (sv : Value) (bs : List Int) (hmax : bs.length ≤ 140737488351232) (hfit : Fits sv) (hw : Octets bs) (w : World) (hbs : Bs < w.heap.size)
    (hBs : w.cell? ⟨Bs, 0, none⟩ = some sv) (hR : ReadsK K w .u8 sv bs) :
    GivesAll F n Try.prog 32 #[.pointer (some ⟨Bs, 0, none⟩)] (fun x : Int => #[Value.int .u64 x]) K (groupsOf bs) w := by
  intro l J W hW hJ hY h0
  have hBs' := (hW.cell (p := ⟨Bs, 0, none⟩) hbs).trans hBs
  rcases hR.below hW with ⟨a, cap, rfl, rfl⟩ | ⟨b, off, cap, rfl, hb, hlt, hc⟩
  · exact groups1_nil_in F n hF hn l Bs a cap J W hJ hBs' h0
  · have := groups1_in F n hF hn l Bs b off bs.length cap K bs rfl hfit hmax hw J W hb hlt hJ hY hBs' hc h0
    rwa [show (groupsOf bs).length = (bs.length + 7) / 8 by simp [groupsOf]]

theorem groupsOf_words {bs : List Int} (h : Octets bs) : Words (groupsOf bs) := by
  intro x hx
  obtain ⟨k, _, rfl⟩ := List.mem_map.1 hx
  have hr := wordOf_range _ (group_octets h k)
  have hl : (group bs k).length ≤ 8 := by rw [group_length]; unfold groupLen; split <;> omega
  have hp : (256 : Int) ^ (group bs k).length ≤ 256 ^ 8 := by
    have := Nat.pow_le_pow_right (n := 256) (by decide) hl
    have e1 : ((256 : Int) ^ (group bs k).length) = ((256 ^ (group bs k).length : Nat) : Int) := by rw [Int.natCast_pow]; rfl
    rw [e1]
    have e2 : (256 : Int) ^ 8 = ((256 ^ 8 : Nat) : Int) := by decide
    rw [e2]
    exact Int.ofNat_le.2 this
  have e8 : (256 : Int) ^ 8 = 18446744073709551616 := by decide
  omega

/-- The digest of a byte sequence. -/
def bytesD (bs : List Int) : Int := stepI ((groupsOf bs).foldl stepI 422944466291) bs.length

set_option maxRecDepth 100000 in
set_option maxHeartbeats 2000000 in
theorem bytes_in (F : Fence) (n : Nat) (hF : Lets F) (hn : 12 ≤ n) (a : Option Addr) (len cap : Nat) (bs : List Int) (hlen : len = bs.length) (hmax : bs.length ≤ 140737488351232) (hfit : len ≤ cap) (hw : Octets bs) (w : World)
    (hR : ReadsK (fun b => b < w.heap.size) w .u8 (.slice a len cap) bs) :
    CallsIn F n Try.prog 18 #[.slice a len cap] w fun e W' =>
      e = .returned (.int .u64 (bytesD bs)) ∧ Below w.heap.size w W' := by
  have hro := hF.round
  have hf := hF.fn 27
  have hf2 := hF.fn 23
  have h1 : 1 ≤ n := by omega
  have hmax' : len ≤ 140737488351232 := by omega
  have HC : Hid (CallsIn F (n - 1) Try.prog 23 #[.int .u64 422944466291, .func (.func 32) #[] #[.pointer (some ⟨w.heap.size, 0, none⟩)], .int .i64 len] (w.alloc (.cells #[.slice a len cap] 23)) fun e W' =>
      e = .returned (.int .u64 (stepI ((groupsOf bs).foldl stepI 422944466291) len)) ∧ Below (w.alloc (.cells #[.slice a len cap] 23)).heap.size (w.alloc (.cells #[.slice a len cap] 23)) W') := by
    refine counted_in F (n - 1) hF (by omega) 32 _ (enters_of Try.func32 (by kernel_rfl) rfl) 422944466291 (by omega) (groupsOf bs) (groupsOf_words hw) len hmax' _ ?_
    intro K w' hb hK
    have hB := Boxed.new w 23 (.slice a len cap)
    refine groups_gives F (n - 1 - 1 - 1) hF (by omega) w.heap.size K (.slice a len cap) bs hmax hfit hw w' (Nat.lt_of_lt_of_le hB.lt hb.size) ((hb.cell (p := ⟨w.heap.size, 0, none⟩) hB.lt).trans hB.cell) ?_
    have hbw : Below w.heap.size w w' := ((Below.refl _ w).alloc (Nat.le_refl _) _).trans (hb.mono (by simp))
    refine (hR.below hbw).mono ?_
    intro b _ hb2
    exact hK b (by simp; omega)
  have HE : Hid (stepI ((groupsOf bs).foldl stepI 422944466291) len = bytesD bs) := by subst hlen; rfl
  clear hlen hR
  refine callsIn_of_wp Try.func18 rfl (hF.fn _) ?_ hF.round
  simp only [Try.ntmps18, List.size_toArray, List.length_cons, List.length_nil, Nat.reduceAdd, Nat.reduceSub, Array.replicate_succ, Array.replicate_zero, List.push_toArray, List.append_toArray, List.nil_append, List.cons_append]
  gi_wp2_with (first
    | (gi_at_call 27; refine (groups_in F (n - 1) hF a len cap _).mono ?_; rintro e W1 ⟨rfl, rfl⟩)
    | (gi_at_call 23; refine HC.out.mono ?_; rintro e W2 ⟨rfl, hb2⟩))
  go_ret
  exact ⟨ret_int HE.out, ((Below.refl _ w).alloc (Nat.le_refl _) _).trans (hb2.mono (by simp))⟩

end Go.Proofs.Ytjlihkllgajkkaa
