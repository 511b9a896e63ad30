/-
  The reference: for all lists, byte sequences and words, the law returns true and changes nothing. No condition.
-/
import Derived.Test.YtjlihkllgajkkaaRows
import Derived.Test.YtjlihkllgajkkaaOneMath
import Derived.Test.YtjlihkllgajkkaaOpenArr
import Derived.Carry
import Derived.BigQuiet
import Derived.Deep.QuietTactic
import Derived.Deep.RegionHeld3
import Derived.Deep.DeepCutAuto
import Derived.Deep.AppendLies
namespace Go.Proofs.Ytjlihkllgajkkaa.digestMatchesReference
open Go.ChangeShapes Go.WideShapes Go.ChangeAt Go.RowKit
open Go.Proofs.Ytjlihkllgajkkaa

/-- The words that the law makes of the numbers. -/
def zAt (z0 z1 z2 : Int) (k : Nat) : Int := [z0, z1, z2][k % 3]?.getD 0
def mixed (zs : List Int) (z0 z1 z2 : Int) : List Int := (List.range zs.length).map fun k => bits BinOp.xor IntKind.u64 (IntKind.u64.wrap (zs[k]?.getD 0)) (zAt z0 z1 z2 k)

theorem mixed_words (zs : List Int) (z0 z1 z2 : Int) : Words (mixed zs z0 z1 z2) := by
  intro x hx
  obtain ⟨k, _, rfl⟩ := List.mem_map.1 hx
  exact word_bounds (wf_bits _ _ _ _)
theorem mixed_more (zs : List Int) (z0 z1 z2 : Int) (k : Nat) (hk : k < zs.length) :
    ((mixed zs z0 z1 z2).take k).map (Value.int .u64) ++ [.int .u64 (bits BinOp.xor IntKind.u64 (IntKind.u64.wrap (zs[k]?.getD 0)) (zAt z0 z1 z2 k))] = ((mixed zs z0 z1 z2).take (k + 1)).map (Value.int .u64) := by
  have hl : (mixed zs z0 z1 z2).length = zs.length := by simp [mixed]
  have hg : (mixed zs z0 z1 z2)[k]?.getD 0 = bits BinOp.xor IntKind.u64 (IntKind.u64.wrap (zs[k]?.getD 0)) (zAt z0 z1 z2 k) := by
    unfold mixed; rw [List.getElem?_map, List.getElem?_range hk]; rfl
  rw [take_getD_snoc _ k (by omega), hg, List.map_append]; rfl

theorem keepZ {A : Nat} {z0 z1 z2 : Int} {w0 W W' : World} (hA : A < w0.heap.size) (hb : Below W.heap.size W W')
    (h : (W.cell? ⟨A, 0, none⟩ = some (.int .u64 z0) ∧ W.cell? ⟨A, 1, none⟩ = some (.int .u64 z1) ∧ W.cell? ⟨A, 2, none⟩ = some (.int .u64 z2)) ∧ Below w0.heap.size w0 W) :
    (W'.cell? ⟨A, 0, none⟩ = some (.int .u64 z0) ∧ W'.cell? ⟨A, 1, none⟩ = some (.int .u64 z1) ∧ W'.cell? ⟨A, 2, none⟩ = some (.int .u64 z2)) ∧ Below w0.heap.size w0 W' := by
  obtain ⟨⟨h0, h1, h2⟩, h4⟩ := h
  have hl : A < W.heap.size := Nat.lt_of_lt_of_le hA h4.size
  exact ⟨⟨(hb.cell (p := ⟨A, 0, none⟩) hl).trans h0, (hb.cell (p := ⟨A, 1, none⟩) hl).trans h1, (hb.cell (p := ⟨A, 2, none⟩) hl).trans h2⟩, h4.trans (hb.mono h4.size)⟩

theorem zCell {A : Nat} {z0 z1 z2 : Int} {w0 W : World} (h : (W.cell? ⟨A, 0, none⟩ = some (.int .u64 z0) ∧ W.cell? ⟨A, 1, none⟩ = some (.int .u64 z1) ∧ W.cell? ⟨A, 2, none⟩ = some (.int .u64 z2)) ∧ Below w0.heap.size w0 W) (k : Nat) : W.cell? ⟨A, k % 3, none⟩ = some (.int .u64 (zAt z0 z1 z2 k)) := by
  obtain ⟨⟨h0, h1, h2⟩, _⟩ := h
  unfold zAt
  obtain e | e | e : k % 3 = 0 ∨ k % 3 = 1 ∨ k % 3 = 2 := by omega
  · rw [e]; exact h0
  · rw [e]; exact h1
  · rw [e]; exact h2

theorem reads_at {k : IntKind} {a : Option Addr} {len cap j : Nat} {zs : List Int} {w0 W : World} (h : ReadsK (fun b => b < w0.heap.size) w0 k (.slice a len cap) zs) (hlen : len = zs.length) (hj : j < len) (hb : Below w0.heap.size w0 W) :
    ∃ b off, a = some ⟨b, off, none⟩ ∧ b < w0.heap.size ∧ W.cell? ⟨b, off + j, none⟩ = some (.int k (zs[j]?.getD 0)) := by
  rcases h with ⟨a', cap', e, rfl⟩ | ⟨b, off, cap', e, hbl, _, hc⟩
  · simp at hlen; omega
  · obtain rfl : a = some ⟨b, off, none⟩ := by cases e; rfl
    exact ⟨b, off, rfl, hbl, (hb.cell (p := ⟨b, off + j, none⟩) hbl).trans (hc j (by omega))⟩

theorem reads_take {K : Nat → Prop} {W : World} {k : IntKind} {g n c : Nat} {zs : List Int} (h : ReadsK K W k (.slice (some ⟨g, 0, none⟩) n c) zs) (hn : n = zs.length) (j : Nat) (hj : j ≤ n) :
    ReadsK K W k (.slice (some ⟨g, 0, none⟩) j c) (zs.take j) := by
  rcases h with ⟨a', cap', e, rfl⟩ | ⟨b, off, cap', e, hbl, hw, hc⟩
  · obtain rfl : j = 0 := by simp at hn; omega
    exact .inl ⟨_, _, rfl, by simp⟩
  · obtain ⟨rfl, rfl, rfl⟩ : g = b ∧ 0 = off ∧ c = cap' := by cases e; exact ⟨rfl, rfl, rfl⟩
    have hl : (zs.take j).length = j := by simp; omega
    exact .inr ⟨g, 0, c, by rw [hl], hbl, hw, fun i hi => by rw [hl] at hi; rw [hc i (by omega), List.getElem?_take_of_lt hi]⟩

theorem Words_take {zs : List Int} (h : Words zs) (j : Nat) : Words (zs.take j) := fun x hx => h x (List.mem_of_mem_take hx)

set_option maxRecDepth 100000 in
set_option maxHeartbeats 4000000 in
theorem walk (a a2 : Option Addr) (len cap len2 cap2 : Nat) (z0 z1 z2 : Int) (zs bs : List Int) (hlen : Hid (len = zs.length)) (hlen2 : Hid (len2 = bs.length)) (hfit2 : len2 ≤ cap2) (hbs : Octets bs) (h200 : len ≤ 200) (h2002 : len2 ≤ 200)
    (k0 : 0 ≤ z0 ∧ z0 < 18446744073709551616) (k1 : 0 ≤ z1 ∧ z1 < 18446744073709551616) (w : World)
    (hR : ReadsK (fun b => b < w.heap.size) w .i64 (.slice a len cap) zs) (hR2 : ReadsK (fun b => b < w.heap.size) w .u8 (.slice a2 len2 cap2) bs) :
    Calls Try.prog 3 #[.slice a len cap, .slice a2 len2 cap2, .agg #[.int .u64 z0, .int .u64 z1, .int .u64 z2]] w fun e w' => e = .returned (.bool true) ∧ Below w.heap.size w w' := by
  obtain ⟨u0, hu, hv0, hv1, hv2⟩ := info_parts Try.infoW
  have HR := Lib.hid hR
  have HR2 := Lib.hid hR2
  clear hR hR2
  go_enter Try.func3, Try.ntmps3
  go_wp2_with (go_at_call 9; refine (examples_any _).mono ?_; rintro e w1 ⟨rfl, hb1⟩)
  have bA := World.alloc_heap_new w (.cells #[.int .u64 z0, .int .u64 z1, .int .u64 z2] 25)
  have hA : w.heap.size < (w.alloc (.cells #[.int .u64 z0, .int .u64 z1, .int .u64 z2] 25)).heap.size := by simp
  have hW0 : Below w.heap.size w (w.alloc (.cells #[.int .u64 z0, .int .u64 z1, .int .u64 z2] 25)) := (Below.refl _ w).alloc (Nat.le_refl _) _
  generalize w.alloc (.cells #[.int .u64 z0, .int .u64 z1, .int .u64 z2] 25) = w0 at bA hA hW0 hb1 ⊢
  have HR0 : Hid (ReadsK (fun b => b < w0.heap.size) w0 .i64 (.slice a len cap) zs) := (HR.out.below hW0).mono (fun b _ h => Nat.lt_of_lt_of_le h hW0.size)
  have HR20 : Hid (ReadsK (fun b => b < w0.heap.size) w0 .u8 (.slice a2 len2 cap2) bs) := (HR2.out.below hW0).mono (fun b _ h => Nat.lt_of_lt_of_le h hW0.size)
  obtain ⟨A, hAA⟩ : ∃ A, A = w.heap.size := ⟨_, rfl⟩
  rw [← hAA] at bA hA ⊢
  have HZ : Hid (∀ W, Below w0.heap.size w0 W → (W.cell? ⟨A, 0, none⟩ = some (.int .u64 z0) ∧ W.cell? ⟨A, 1, none⟩ = some (.int .u64 z1) ∧ W.cell? ⟨A, 2, none⟩ = some (.int .u64 z2)) ∧ Below w0.heap.size w0 W) := fun W hW => keepZ hA hW ⟨⟨by unfold World.cell?; rw [bA]; rfl, by unfold World.cell?; rw [bA]; rfl, by unfold World.cell?; rw [bA]; rfl⟩, Below.refl _ _⟩
  clear bA hAA
  have hI0 : Below w0.heap.size w0 (w1.alloc (.cells #[] 24)) := hb1.alloc hb1.size _
  have hrX := World.ownsRow_made w1 #[] 0 (base := w0.heap.size) (e := 24) (size := 1) hb1.size (by decide) rfl
  obtain ⟨ds, hds⟩ : ∃ ds, ds = mixed zs z0 z1 z2 := ⟨_, rfl⟩
  have HDS := Lib.hid hds
  have hdw : Words ds := by rw [hds]; exact mixed_words zs z0 z1 z2
  have HDL : Hid (len = ds.length) := by have := hlen.out; show _ = _; rw [hds]; simp [mixed]; exact this
  clear hds
  go_loopw [8, 9] (fun sx i wr => ∃ k g c : Nat, k ≤ len ∧ i = .int .i64 k ∧ sx = .slice (some ⟨g, 0, none⟩) k c ∧ Below w0.heap.size w0 wr ∧ wr.ownsRow w0.heap.size 24 1 (.slice (some ⟨g, 0, none⟩) k c) k ((ds.take k).map (Value.int .u64)))
    (fun _ i _ => len - (intOf i).toNat)
  case atStart => exact ⟨0, _, _, Nat.zero_le _, rfl, rfl, hI0, hrX⟩
  case round =>
    obtain ⟨k, g, c, hk, rfl, rfl, hb, hX⟩ := hrel
    clear hI0 hrX hb1
    by_cases hlt : k < len
    · obtain ⟨b, off, rfl, hbl, hcl⟩ := reads_at HR0.out hlen.out hlt hb
      obtain ⟨m, hm⟩ : ∃ m, m = k % 3 := ⟨_, rfl⟩
      have hcz : wr.cell? ⟨A, m, none⟩ = some (.int .u64 (zAt z0 z1 z2 k)) := by rw [hm]; exact zCell (HZ.out wr hb) k
      have hm0 : (0 : Int) ≤ (m : Int) := by omega
      have hm3 : (m : Int) < 3 := by omega
      have hbx : w0.heap.size ≤ g := by obtain ⟨_, _, _, _, _, _, h, _⟩ := row_block hX; exact h
      have HM := Lib.hid (mixed_more zs z0 z1 z2 k (by rw [← hlen.out]; exact hlt))
      rw [← HDS.out] at HM
      have e3 : (k : Int).tmod 3 = (m : Int) := by rw [Int.tmod_eq_emod_of_nonneg (by omega)]; omega
      clear hm
      have hgw := row_lt hX
      have hbw : b < wr.heap.size := Nat.lt_of_lt_of_le hbl hb.size
      have hAw : A < wr.heap.size := Nat.lt_of_lt_of_le hA hb.size
      have hbg : b ≠ g := by omega
      have hAg : A ≠ g := by omega
      go_wp2_with fail
      go_region_held3 (fun W => W.cell? ⟨b, off + k, none⟩ = some (.int .i64 (zs[k]?.getD 0)) ∧ W.cell? ⟨A, m, none⟩ = some (.int .u64 (zAt z0 z1 z2 k)))
        (first
          | go_keep
          | (go_split_ands
             refine ⟨?_, ?_⟩
             · (rw [hgrow.cell_far _ (by simp; omega) (by simpa [Value.ownBlock] using hbg)]; assumption)
             · (rw [hgrow.cell_far _ (by simp; omega) (by simpa [Value.ownBlock] using hAg)]; assumption)))
        ((refine step_append_lies _ (by rfl) _ _ _ (by rfl) w0.heap.size 24 u0 _ 1 8 Try.underlying27 hu hv0 hv1 hv2 rfl (by omega) (.slice (some ⟨g, 0, none⟩) k c) k _ (by rfl) ((hX.alloc _).drew)
              ⟨wr.heap.size, 0, none⟩ 1 1 [.int .u64 (bits BinOp.xor IntKind.u64 (IntKind.u64.wrap (zs[k]?.getD 0)) (zAt z0 z1 z2 k))] (by rfl) (by rfl) (World.news_of_block (cs := #[.int .u64 (bits BinOp.xor IntKind.u64 (IntKind.u64.wrap (zs[k]?.getD 0)) (zAt z0 z1 z2 k))]) (t := 24) (fr := (0, 0)) (heap_alloc_new wr _)) (by simp [Value.oneCell'])
              (by omega) (by unfold maxLen; omega) (by omega) (by have := hb.size; simp; omega) (wr.heap.size + 1) (by simp) ?_; intro gg cX wX hX' hgrow hat hltX))
      have hbn := ((hb.alloc hb.size (.cells #[.int .u64 (bits BinOp.xor IntKind.u64 (IntKind.u64.wrap (zs[k]?.getD 0)) (zAt z0 z1 z2 k))] 24)).drew).grown hgrow (hb.alloc hb.size _).size (fun r e => by cases e; exact hbx)
      go_wp2
      go_roundw
      case rel => exact ⟨k + 1, gg, cX, by omega, by go_num, rfl, hbn, by rw [← HM.out]; exact hX'⟩
      case measure => simp [intOf]; omega
    · obtain rfl : k = len := by omega
      have hc1 : wr.cell? ⟨A, 1, none⟩ = some (.int .u64 z1) := (HZ.out wr hb).1.2.1
      rw [List.take_of_length_le (Nat.le_of_eq HDL.out.symm)] at hX
      obtain ⟨_, _, hkc, _, _, _, _, _⟩ := row_block hX
      have hRr := row_reads HDL.out hX
      have HLs : Hid (∀ (W : World) (j : Nat), j ≤ k → Below wr.heap.size wr W → Calls Try.prog 10 #[.slice (some ⟨g, 0, none⟩) j c] W fun e W' => e = .returned (.int .u64 (listD (ds.take j))) ∧ Below W.heap.size W W') := fun W j hj h =>
        list_any _ j c (ds.take j) (by rw [List.length_take, ← HDL.out]; omega) (by rw [List.length_take, ← HDL.out]; omega) (Words_take hdw j) W ((reads_take (hRr.below h) HDL.out j hj).mono (fun b _ hb2 => Nat.lt_of_lt_of_le hb2 h.size))
      have HLr : Hid (∀ (W : World) (j : Nat), j ≤ k → Below wr.heap.size wr W → Calls Try.prog 11 #[.slice (some ⟨g, 0, none⟩) j c] W fun e W' => e = .returned (.int .u64 (listD (ds.take j))) ∧ W = W') := fun W j hj h =>
        rlist_any _ (ds.take j) (by rw [List.length_take, ← HDL.out]; omega) (Words_take hdw j) W (reads_take (hRr.below h) HDL.out j hj)
      have HB := Lib.hid hb
      have hb0 := Below.refl wr.heap.size wr
      clear hX hRr hb hlt hk
      generalize wr = wa at hc1 HLs HLr HB hb0 ⊢
      go_wp2
      generalize wrap64 z1 = m
      go_loopw [11] (fun i wz => ∃ j : Nat, j ≤ k + 1 ∧ i = .int .i64 j ∧ Below wa.heap.size wa wz)
        (fun i _ => k + 1 - (intOf i).toNat)
      case atStart => exact ⟨0, Nat.zero_le _, rfl, hb0⟩
      case round =>
        obtain ⟨j, hj, rfl, hs⟩ := hrel
        clear hb0 hc1
        by_cases hlt : j ≤ k
        · have hjc : j ≤ c := by omega
          have hS1 : Below wa.heap.size wa wr.drew := hs.drew
          go_wp2_with fail
          go_region_held3 (fun W => Below wa.heap.size wa W)
            (first | exact hS1 | assumption | (refine Below.trans ?_ (hb4.mono ?_); (· assumption); exact Below.size ‹_›))
            (first
              | (go_at_call 10; ((with_reducible refine Calls.mono (HLs.out _ j hlt ?_) ?_); (· assumption); rintro e w4 ⟨rfl, hb4⟩))
              | (go_at_call 11; ((with_reducible refine Calls.mono (HLr.out _ j hlt ?_) ?_); (· assumption); rintro e w4 ⟨rfl, rfl⟩)))
          rename_i hH
          go_wp2
          go_roundw
          case rel => exact ⟨j + 1, by omega, by go_num, hH⟩
          case measure => simp [intOf]; omega
        · obtain rfl : j = k + 1 := by omega
          have hb := HB.out.trans (hs.mono HB.out.size)
          have hS1 : (wr.drew.cell? ⟨A, 0, none⟩ = some (.int .u64 z0) ∧ wr.drew.cell? ⟨A, 1, none⟩ = some (.int .u64 z1)) ∧ Below w0.heap.size w0 wr.drew := ⟨⟨(HZ.out _ hb.drew).1.1, (HZ.out _ hb.drew).1.2.1⟩, hb.drew⟩
          have HK : Hid (∀ W W' : World, Below W.heap.size W W' → ((W.cell? ⟨A, 0, none⟩ = some (.int .u64 z0) ∧ W.cell? ⟨A, 1, none⟩ = some (.int .u64 z1)) ∧ Below w0.heap.size w0 W) → ((W'.cell? ⟨A, 0, none⟩ = some (.int .u64 z0) ∧ W'.cell? ⟨A, 1, none⟩ = some (.int .u64 z1)) ∧ Below w0.heap.size w0 W')) := fun W W' h1 h2 => by
            have h3 := h2.2.trans (h1.mono h2.2.size)
            exact ⟨⟨(HZ.out _ h3).1.1, (HZ.out _ h3).1.2.1⟩, h3⟩
          have HS : Hid (∀ W, Calls Try.prog 12 #[.int .u64 z0, .int .u64 z1] W fun e W' => e = .returned (.int .u64 (stepI z0 z1)) ∧ W = W') := fun W => step_any z0 z1 k0 k1 W
          have HSr : Hid (∀ W, Calls Try.prog 13 #[.int .u64 z0, .int .u64 z1] W fun e W' => e = .returned (.int .u64 (stepI z0 z1)) ∧ W = W') := fun W => rstep_any z0 z1 k0 k1 W
          have HJ : Hid (∀ W, Calls Try.prog 14 #[.int .u64 z0, .int .u64 z1] W fun e W' => e = .returned (.int .u64 (joinD z0 z1)) ∧ Below W.heap.size W W') := fun W => join_any z0 z1 k0 k1 W
          have HJr : Hid (∀ W, Calls Try.prog 15 #[.int .u64 z0, .int .u64 z1] W fun e W' => e = .returned (.int .u64 (joinD z0 z1)) ∧ W = W') := fun W => rjoin_any z0 z1 k0 k1 W
          have HW : Hid (∀ W, ((W.cell? ⟨A, 0, none⟩ = some (.int .u64 z0) ∧ W.cell? ⟨A, 1, none⟩ = some (.int .u64 z1)) ∧ Below w0.heap.size w0 W) → Calls Try.prog 16 #[.slice a k cap] W fun e W' => e = .returned (.int .u64 (wordsD zs)) ∧ Below W.heap.size W W') := fun W h =>
            words_any _ k cap zs hlen.out (by rw [← hlen.out]; omega) W ((HR0.out.below h.2).mono (fun b _ hb2 => Nat.lt_of_lt_of_le hb2 h.2.size))
          have HWr : Hid (∀ W, ((W.cell? ⟨A, 0, none⟩ = some (.int .u64 z0) ∧ W.cell? ⟨A, 1, none⟩ = some (.int .u64 z1)) ∧ Below w0.heap.size w0 W) → Calls Try.prog 17 #[.slice a k cap] W fun e W' => e = .returned (.int .u64 (wordsD zs)) ∧ W = W') := fun W h =>
            rwords_any _ zs (by rw [← hlen.out]; omega) W (HR0.out.below h.2)
          have HY : Hid (∀ W, ((W.cell? ⟨A, 0, none⟩ = some (.int .u64 z0) ∧ W.cell? ⟨A, 1, none⟩ = some (.int .u64 z1)) ∧ Below w0.heap.size w0 W) → Calls Try.prog 18 #[.slice a2 len2 cap2] W fun e W' => e = .returned (.int .u64 (bytesD bs)) ∧ Below W.heap.size W W') := fun W h =>
            bytes_any _ len2 cap2 bs hlen2.out (by rw [← hlen2.out]; omega) hfit2 hbs W ((HR20.out.below h.2).mono (fun b _ hb2 => Nat.lt_of_lt_of_le hb2 h.2.size))
          have HYr : Hid (∀ W, ((W.cell? ⟨A, 0, none⟩ = some (.int .u64 z0) ∧ W.cell? ⟨A, 1, none⟩ = some (.int .u64 z1)) ∧ Below w0.heap.size w0 W) → Calls Try.prog 19 #[.slice a2 len2 cap2] W fun e W' => e = .returned (.int .u64 (bytesD bs)) ∧ W = W') := fun W h =>
            rbytes_any _ bs (by rw [← hlen2.out]; omega) hbs W (HR20.out.below h.2)
          have HK1 : Hid (∀ (n : Int) (W : World), Calls Try.prog 20 #[.int .u64 z0, .int .i64 n] W fun e W' => e = .returned (.agg #[.int .i64 (bucketN z0 n), .int .i64 (bucketE n)]) ∧ Below W.heap.size W W') := fun n W => lbucket_any z0 n k0 W
          have HK2 : Hid (∀ (n : Int) (W : World), Calls Try.prog 21 #[.int .u64 z0, .int .i64 n] W fun e W' => e = .returned (.agg #[.int .i64 (bucketN z0 n), .int .i64 (bucketE n)]) ∧ Below W.heap.size W W') := fun n W => rbucket_any z0 n k0 W
          clear hb hs hlt HLs HLr HB hfit2 hkc hdw
          go_wp2_with fail
          simp only [List.append_eq, List.cons_append, List.nil_append]
          go_region_held3 (fun W => (W.cell? ⟨A, 0, none⟩ = some (.int .u64 z0) ∧ W.cell? ⟨A, 1, none⟩ = some (.int .u64 z1)) ∧ Below w0.heap.size w0 W)
            (first | exact hS1 | assumption | (refine HK.out _ _ hb4 ?_; assumption) | (refine HK.out _ _ hb4 ?_; exact hS1))
            (first
              | (go_at_call 12; ((with_reducible refine Calls.mono (HS.out _) ?_); rintro e w4 ⟨rfl, rfl⟩))
              | (go_at_call 13; ((with_reducible refine Calls.mono (HSr.out _) ?_); rintro e w4 ⟨rfl, rfl⟩))
              | (go_at_call 14; ((with_reducible refine Calls.mono (HJ.out _) ?_); rintro e w4 ⟨rfl, hb4⟩))
              | (go_at_call 15; ((with_reducible refine Calls.mono (HJr.out _) ?_); rintro e w4 ⟨rfl, rfl⟩))
              | (go_at_call 16; ((with_reducible refine Calls.mono (HW.out _ ?_) ?_); (· assumption); rintro e w4 ⟨rfl, hb4⟩))
              | (go_at_call 17; ((with_reducible refine Calls.mono (HWr.out _ ?_) ?_); (· assumption); rintro e w4 ⟨rfl, rfl⟩))
              | (go_at_call 18; ((with_reducible refine Calls.mono (HY.out _ ?_) ?_); (· assumption); rintro e w4 ⟨rfl, hb4⟩))
              | (go_at_call 19; ((with_reducible refine Calls.mono (HYr.out _ ?_) ?_); (· assumption); rintro e w4 ⟨rfl, rfl⟩))
              | (go_at_call 20; ((with_reducible refine Calls.mono (HK1.out _ _) ?_); rintro e w4 ⟨rfl, hb4⟩))
              | (go_at_call 21; ((with_reducible refine Calls.mono (HK2.out _ _) ?_); rintro e w4 ⟨rfl, hb4⟩)))
          rename_i hH
          go_wp2
          go_ret
          exact ⟨rfl, hW0.trans (hH.2.mono hW0.size)⟩

end Go.Proofs.Ytjlihkllgajkkaa.digestMatchesReference
