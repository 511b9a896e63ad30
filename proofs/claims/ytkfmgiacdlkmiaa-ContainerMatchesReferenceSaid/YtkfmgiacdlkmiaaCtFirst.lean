/-
  What is read of any bytes: the file that they begin with; a panic of the reader is recovered.
-/
import Derived.Test.YtkfmgiacdlkmiaaCtRead
import Derived.Test.YtkfmgiacdlkmiaaCtmE
namespace Go.Proofs.Ytkfmgiacdlkmiaa
open Go Go.RowKit Go.Shelf Go.ChangeShapes Go.WideShapes Go.ChangeAt

theorem assert_fail (x : Int) (w : World) : (Instr.typeAssert (.iface 85 (.int .i64 x)) 20 85 true).run Try.prog w = .ok (.tuple #[.int .i64 x, .bool true]) w := by kernel_rfl

set_option maxRecDepth 100000 in
set_option maxHeartbeats 2000000 in
theorem catch_fail (p : Addr) (x y : Int) (older : List PanicEntry) (w : World) (hc : w.cell? p = some (.int .i64 y)) (hz : w.frozen? p = false) :
    CallsD Try.prog 49 #[.pointer (some p)] (.panicking ({ v := .iface 85 (.int .i64 x), recovered := false } :: older)) w fun e u' w' =>
      e = .returned (.tuple #[]) ∧ u' = .panicking ({ v := .iface 85 (.int .i64 x), recovered := true } :: older) ∧ w' = w.setCell p (.int .i64 x) := by
  have has := assert_fail x w
  refine callsD_of_wpS Try.func49 rfl fun c₀ cs hu => ?_
  simp only [Try.ntmps49, List.size_toArray, List.length_cons, List.length_nil, Nat.reduceAdd, Nat.reduceSub, Array.replicate_succ, Array.replicate_zero, List.push_toArray, List.append_toArray, List.nil_append, List.cons_append]
  apply wpS_seq
  apply wpS_region
  simp [wpOpsS, go_sem, recoverD, hu, Exit.thenS]
  refine wpS_of_wp ?_
  go_wp2
  cases c₀
  simp_all [bodyPostS, results, Try.results49]

set_option maxRecDepth 100000 in
set_option maxHeartbeats 2000000 in
theorem catch_idle (p : Addr) (w : World) :
    CallsD Try.prog 49 #[.pointer (some p)] .returning w fun e u' w' => e = .returned (.tuple #[]) ∧ u' = .returning ∧ w' = w := by
  refine callsD_of_wpS Try.func49 rfl fun c₀ cs hu => ?_
  simp only [Try.ntmps49, List.size_toArray, List.length_cons, List.length_nil, Nat.reduceAdd, Nat.reduceSub, Array.replicate_succ, Array.replicate_zero, List.push_toArray, List.append_toArray, List.nil_append, List.cons_append]
  apply wpS_seq
  apply wpS_region
  simp [wpOpsS, go_sem, recoverD, hu, Exit.thenS]
  refine wpS_of_wp ?_
  go_wp2
  cases c₀
  simp_all [bodyPostS, results, Try.results49]

/-- What reading a sealed form comes to. -/
def FstPost (K : Nat → Prop) (bs : List Int) (W : World) (e : Ending) (V : World) : Prop :=
  Below W.heap.size W V ∧ ((fstE bs = 0 ∧ ∃ a1 n1 c1 a2 n2 c2 a3 n3 c3, e = .returned (.tuple #[.agg #[.int .i64 (fstK bs), .slice a1 n1 c1, .slice a2 n2 c2], .slice a3 n3 c3, .int .i64 0]) ∧ Rd (fun b => W.heap.size ≤ b) V .i64 a1 n1 c1 (fstI bs) ∧ Rd (fun b => W.heap.size ≤ b) V .u8 a2 n2 c2 (fstD bs) ∧ Rd K V .u8 a3 n3 c3 (bs.drop (fstN bs))) ∨
    (fstE bs ≠ 0 ∧ e = .returned (.tuple #[.agg #[.int .i64 0, .slice none 0 0, .slice none 0 0], .slice none 0 0, .int .i64 (fstE bs)])))

theorem idx0 (B : Nat) (w : World) : (Instr.index 89 (.agg #[.func (.func 50) #[.pointer (some ⟨B, 0, none⟩)] #[], .func (.func 51) #[.pointer (some ⟨B, 0, none⟩)] #[], .func (.func 52) #[.pointer (some ⟨B, 0, none⟩)] #[], .func (.func 53) #[.pointer (some ⟨B, 0, none⟩)] #[], .func (.func 54) #[.pointer (some ⟨B, 0, none⟩)] #[]]) (.int .i64 0)).run Try.prog w = .ok (.func (.func 50) #[.pointer (some ⟨B, 0, none⟩)] #[]) w := by kernel_rfl
theorem idx1 (B : Nat) (w : World) : (Instr.index 89 (.agg #[.func (.func 50) #[.pointer (some ⟨B, 0, none⟩)] #[], .func (.func 51) #[.pointer (some ⟨B, 0, none⟩)] #[], .func (.func 52) #[.pointer (some ⟨B, 0, none⟩)] #[], .func (.func 53) #[.pointer (some ⟨B, 0, none⟩)] #[], .func (.func 54) #[.pointer (some ⟨B, 0, none⟩)] #[]]) (.int .i64 1)).run Try.prog w = .ok (.func (.func 51) #[.pointer (some ⟨B, 0, none⟩)] #[]) w := by kernel_rfl
theorem idx2 (B : Nat) (w : World) : (Instr.index 89 (.agg #[.func (.func 50) #[.pointer (some ⟨B, 0, none⟩)] #[], .func (.func 51) #[.pointer (some ⟨B, 0, none⟩)] #[], .func (.func 52) #[.pointer (some ⟨B, 0, none⟩)] #[], .func (.func 53) #[.pointer (some ⟨B, 0, none⟩)] #[], .func (.func 54) #[.pointer (some ⟨B, 0, none⟩)] #[]]) (.int .i64 2)).run Try.prog w = .ok (.func (.func 52) #[.pointer (some ⟨B, 0, none⟩)] #[]) w := by kernel_rfl
theorem idx3 (B : Nat) (w : World) : (Instr.index 89 (.agg #[.func (.func 50) #[.pointer (some ⟨B, 0, none⟩)] #[], .func (.func 51) #[.pointer (some ⟨B, 0, none⟩)] #[], .func (.func 52) #[.pointer (some ⟨B, 0, none⟩)] #[], .func (.func 53) #[.pointer (some ⟨B, 0, none⟩)] #[], .func (.func 54) #[.pointer (some ⟨B, 0, none⟩)] #[]]) (.int .i64 3)).run Try.prog w = .ok (.func (.func 53) #[.pointer (some ⟨B, 0, none⟩)] #[]) w := by kernel_rfl
theorem idx4 (B : Nat) (w : World) : (Instr.index 89 (.agg #[.func (.func 50) #[.pointer (some ⟨B, 0, none⟩)] #[], .func (.func 51) #[.pointer (some ⟨B, 0, none⟩)] #[], .func (.func 52) #[.pointer (some ⟨B, 0, none⟩)] #[], .func (.func 53) #[.pointer (some ⟨B, 0, none⟩)] #[], .func (.func 54) #[.pointer (some ⟨B, 0, none⟩)] #[]]) (.int .i64 4)).run Try.prog w = .ok (.func (.func 54) #[.pointer (some ⟨B, 0, none⟩)] #[]) w := by kernel_rfl

set_option maxRecDepth 100000 in
set_option maxHeartbeats 8000000 in
theorem first_any {K : Nat → Prop} {a : Option Addr} {n c : Nat} {bs : List Int} {W : World} (hR : Rd K W .u8 a n c bs) (ho : Oct bs) :
    Calls Try.prog 36 #[.slice a n c] W (FstPost K bs W) := by
  have hmf : ∀ (fn : Fn) (first cap : Array Value) (w : World), (Instr.makeFunc fn first cap).run Try.prog w = .ok (.func fn first cap) w := fun _ _ _ _ => rfl
  have HO := Lib.hid ho
  have HR0 := Lib.hid (hR.mono (K' := fun b => K b ∧ b < W.heap.size) (fun b hlt hk => ⟨hk, hlt⟩))
  clear hR ho
  go_enter_defers Try.func36, Try.ntmps36
  go_wp2
  clear hmf
  obtain ⟨F0, hF0⟩ : ∃ x, W.heap.size = x := ⟨_, rfl⟩
  have hq1 : Below W.heap.size W (W.alloc (.cells #[.int .i64 0, .slice none 0 0, .slice none 0 0] 25)) := (Below.refl _ _).alloc (Nat.le_refl _) _
  have hf1 := FileB.new W 0 (.slice none 0 0) (.slice none 0 0)
  have hs1 : (W.alloc (.cells #[.int .i64 0, .slice none 0 0, .slice none 0 0] 25)).heap.size = F0 + 1 := by rw [World.size_alloc, hF0]
  rw [hF0] at hf1
  generalize W.alloc (.cells #[.int .i64 0, .slice none 0 0, .slice none 0 0] 25) = W1 at *
  have hq2 : Below W.heap.size W (W1.alloc (.cells #[.int .i64 0] 31)) := hq1.alloc hq1.size _
  have hf2 := hf1.below ((Below.refl W1.heap.size W1).alloc (Nat.le_refl _) (.cells #[.int .i64 0] 31)) hf1.lt
  have he2 : (W1.alloc (.cells #[.int .i64 0] 31)).heap[W1.heap.size]? = some (.cells #[.int .i64 0] 31 (0, 0)) := World.alloc_heap_new W1 _
  have hs2 : (W1.alloc (.cells #[.int .i64 0] 31)).heap.size = F0 + 1 + 1 := by rw [World.size_alloc, hs1]
  rw [hs1] at he2
  generalize W1.alloc (.cells #[.int .i64 0] 31) = W2 at *
  have hq3 : Below W.heap.size W (W2.alloc (.cells #[.slice a n c, .slice a n c, .int .i64 0, .slice none 0 0, .slice none 0 0] 88)) := hq2.alloc hq2.size _
  have hb3 : Below W2.heap.size W2 (W2.alloc (.cells #[.slice a n c, .slice a n c, .int .i64 0, .slice none 0 0, .slice none 0 0] 88)) := (Below.refl _ _).alloc (Nat.le_refl _) _
  have hf3 := hf2.below hb3 hf2.lt
  have he3 := (hb3.block (F0 + 1) (by rw [hs2]; omega)).trans he2
  have hr3 := Five.new W2 (.slice a n c) (.slice a n c) (.int .i64 0) (.slice none 0 0) (.slice none 0 0)
  rw [hs2] at hr3
  generalize W2.alloc (.cells #[.slice a n c, .slice a n c, .int .i64 0, .slice none 0 0, .slice none 0 0] 88) = V0 at *
  rw [hF0]
  have HF0 := Lib.hid hF0
  obtain ⟨E0, hE0⟩ : ∃ x, F0 + 1 = x := ⟨_, rfl⟩
  obtain ⟨B, hB⟩ : ∃ x, E0 + 1 = x := ⟨_, rfl⟩
  rw [hE0] at hr3 he3
  rw [hB] at hr3
  rw [hE0, hB]
  have HQ := Lib.hid hq3
  have HFB := Lib.hid hf3
  have HEB := Lib.hid he3
  have HV := Lib.hid hr3
  have HNF : Hid (F0 ≠ B ∧ E0 ≠ B ∧ W.heap.size ≤ F0 ∧ W.heap.size ≤ E0 ∧ W.heap.size ≤ B ∧ F0 ≠ E0) := by show _ ∧ _ ∧ _ ∧ _ ∧ _ ∧ _; omega
  have HNL : Hid (F0 < B ∧ E0 < B) := by show _ ∧ _; omega
  have HRV := Lib.hid (HR0.out.below hq3)
  have HNK : Hid (¬ (K B ∧ B < W.heap.size)) := by show ¬ _; omega
  clear hq1 hq2 hq3 hf1 hf2 hf3 he2 he3 hr3 hb3 hs1 hs2 hF0 hE0 hB HR0
  have HSW := Lib.hid HRV.out
  go_loopw [24] (fun i wr => Hid (Kept (fun b => b ≠ B) V0 wr) ∧ ((i = .int .i64 0 ∧ Hid (True) ∧ ∃ a0 n0 c0, Hid (Five wr B (.slice a n c) (.slice a0 n0 c0) (.int .i64 0) (.slice none 0 0) (.slice none 0 0)) ∧ Hid (Rd (fun b => K b ∧ b < W.heap.size) wr .u8 a0 n0 c0 bs)) ∨ (i = .int .i64 1 ∧ Hid (letE letS bs = 0) ∧ ∃ a0 n0 c0, Hid (Five wr B (.slice a n c) (.slice a0 n0 c0) (.int .i64 0) (.slice none 0 0) (.slice none 0 0)) ∧ Hid (Rd (fun b => K b ∧ b < W.heap.size) wr .u8 a0 n0 c0 (bs.drop 3))) ∨ (i = .int .i64 2 ∧ Hid (letE letS bs = 0 ∧ kindE (bs.drop 3) = 0) ∧ ∃ a0 n0 c0, Hid (Five wr B (.slice a n c) (.slice a0 n0 c0) (.int .i64 (fstK bs)) (.slice none 0 0) (.slice none 0 0)) ∧ Hid (Rd (fun b => K b ∧ b < W.heap.size) wr .u8 a0 n0 c0 (bs.drop 4))) ∨ (i = .int .i64 3 ∧ Hid (letE letS bs = 0 ∧ kindE (bs.drop 3) = 0 ∧ idE (bs.drop 4) = 0) ∧ ∃ a0 n0 c0 a1 n1 c1, Hid (Five wr B (.slice a n c) (.slice a0 n0 c0) (.int .i64 (fstK bs)) (.slice a1 n1 c1) (.slice none 0 0)) ∧ Hid (Rd (fun b => K b ∧ b < W.heap.size) wr .u8 a0 n0 c0 (bs.drop (atI bs))) ∧ Hid (Rd (fun b => W.heap.size ≤ b ∧ B < b) wr .i64 a1 n1 c1 (fstI bs))) ∨ (i = .int .i64 4 ∧ Hid (letE letS bs = 0 ∧ kindE (bs.drop 3) = 0 ∧ idE (bs.drop 4) = 0 ∧ dataE (bs.drop (atI bs)) = 0) ∧ ∃ a0 n0 c0 a1 n1 c1 a2 n2 c2, Hid (Five wr B (.slice a n c) (.slice a0 n0 c0) (.int .i64 (fstK bs)) (.slice a1 n1 c1) (.slice a2 n2 c2)) ∧ Hid (Rd (fun b => K b ∧ b < W.heap.size) wr .u8 a0 n0 c0 (bs.drop (atS bs))) ∧ Hid (Rd (fun b => W.heap.size ≤ b ∧ B < b) wr .i64 a1 n1 c1 (fstI bs)) ∧ Hid (Rd (fun b => W.heap.size ≤ b ∧ B < b) wr .u8 a2 n2 c2 (fstD bs))) ∨ (i = .int .i64 5 ∧ Hid (fstE bs = 0) ∧ ∃ a0 n0 c0 a1 n1 c1 a2 n2 c2, Hid (Five wr B (.slice a n c) (.slice a0 n0 c0) (.int .i64 (fstK bs)) (.slice a1 n1 c1) (.slice a2 n2 c2)) ∧ Hid (Rd (fun b => K b ∧ b < W.heap.size) wr .u8 a0 n0 c0 (bs.drop (fstN bs))) ∧ Hid (Rd (fun b => W.heap.size ≤ b ∧ B < b) wr .i64 a1 n1 c1 (fstI bs)) ∧ Hid (Rd (fun b => W.heap.size ≤ b ∧ B < b) wr .u8 a2 n2 c2 (fstD bs))))) (fun i _ => 5 - (intOf i).toNat)
  case atStart => exact ⟨Kept.refl _ _, .inl ⟨rfl, trivial, a, n, c, HV.out, HRV.out⟩⟩
  case round =>
    obtain ⟨HKP, hst⟩ := hrel
    have HFB1 : Hid (FileB wr F0 0 (.slice none 0 0) (.slice none 0 0)) := (HKP.out.block F0 HFB.out.lt HNF.out.1).trans HFB.out
    have HEB1 : Hid (wr.heap[E0]? = some (.cells #[.int .i64 0] 31 (0, 0))) := (HKP.out.block E0 (Array.getElem?_eq_some_iff.1 HEB.out).1 HNF.out.2.1).trans HEB.out
    rcases hst with ⟨rfl, HE, hst⟩ | ⟨rfl, HE, hst⟩ | ⟨rfl, HE, hst⟩ | ⟨rfl, HE, hst⟩ | ⟨rfl, HE, hst⟩ | ⟨rfl, HE, hst⟩
    · obtain ⟨a0, n0, c0, HF, HR⟩ := hst
      have HT := Lib.hid (letters_any HF.out HR.out HNK.out)
      have hix := idx0 B
      by_cases hz : letE letS bs = 0
      · have HZ := Lib.hid hz
        clear hz
        go_wp2_with (go_at_call 50; refine HT.out.mono ?_; rintro e V ⟨hk, hpost⟩; obtain ⟨_, rfl, a', c', hF, hR⟩ := hpost.resolve_right (fun c => c.1 HZ.out); have HK2 := Lib.hid hk; have HF2 := Lib.hid hF; have HR2 := Lib.hid hR; clear hk hpost hF hR)
        go_roundw
        case rel =>
          refine ⟨HKP.out.trans HK2.out, .inr (.inl ⟨rfl, HZ.out, a', n0 - 3, c', HF2.out, HR2.out⟩)⟩
        case measure => simp [intOf]
      · have HZ := Lib.hid hz
        clear hz
        go_wp2_with (go_at_call 50; refine HT.out.mono ?_; rintro e V ⟨hk, hpost⟩; obtain ⟨_, rfl⟩ := hpost.resolve_left (fun c => HZ.out c.1); have HK2 := Lib.hid hk; clear hk hpost)
        have HFB2 : Hid (FileB V F0 0 (.slice none 0 0) (.slice none 0 0)) := (HK2.out.block F0 HFB1.out.lt HNF.out.1).trans HFB1.out
        have HEB2 : Hid (V.heap[E0]? = some (.cells #[.int .i64 0] 31 (0, 0))) := (HK2.out.block E0 (Array.getElem?_eq_some_iff.1 HEB1.out).1 HNF.out.2.1).trans HEB1.out
        have f0 := HFB2.out.c0
        have f1 := HFB2.out.c1
        have f2 := HFB2.out.c2
        refine leaves_cons (f := 49) (args := #[.pointer (some ⟨E0, 0, none⟩)]) (by simp) (by simp [go_sem]) ?_
        refine (catch_fail ⟨E0, 0, none⟩ _ 0 [] _ (by simp [World.cell?, HEB2.out]) (by simp [World.frozen?, HEB2.out])).mono ?_
        rintro e u' w'' ⟨rfl, rfl, rfl⟩
        have hfe : fstE bs = letE letS bs := by unfold fstE; rw [if_pos HZ.out]
        have HBW : Hid (Below W.heap.size W (V.setCell ⟨E0, 0, none⟩ (.int .i64 (letE letS bs)))) := ((HQ.out.trans (Below.of_but HKP.out HNF.out.2.2.2.2.1 HQ.out.size)).trans (Below.of_but HK2.out HNF.out.2.2.2.2.1 (Nat.le_trans HQ.out.size HKP.out.size))).setCell HNF.out.2.2.2.1 _
        have hFe := HNF.out.2.2.2.2.2
        have g0 : (V.setCell ⟨E0, 0, none⟩ (.int .i64 (letE letS bs))).cell? ⟨F0, 0, none⟩ = some (.int .i64 0) := (World.cell?_of_block (w := V) (Below.heap_setCell V _ _ F0 hFe)).trans f0
        have g1 : (V.setCell ⟨E0, 0, none⟩ (.int .i64 (letE letS bs))).cell? ⟨F0, 1, none⟩ = some (.slice none 0 0) := (World.cell?_of_block (w := V) (Below.heap_setCell V _ _ F0 hFe)).trans f1
        have g2 : (V.setCell ⟨E0, 0, none⟩ (.int .i64 (letE letS bs))).cell? ⟨F0, 2, none⟩ = some (.slice none 0 0) := (World.cell?_of_block (w := V) (Below.heap_setCell V _ _ F0 hFe)).trans f2
        have ge : (V.setCell ⟨E0, 0, none⟩ (.int .i64 (letE letS bs))).cell? ⟨E0, 0, none⟩ = some (.int .i64 (letE letS bs)) := by
          have h : V.heap[E0]? = _ := HEB2.out
          simp [World.cell?, World.setCell, Array.getElem?_modify, h]
        have HPost : Hid (FstPost K bs W (.returned (.tuple #[.agg #[.int .i64 0, .slice none 0 0, .slice none 0 0], .slice none 0 0, .int .i64 (letE letS bs)])) (V.setCell ⟨E0, 0, none⟩ (.int .i64 (letE letS bs)))) := ⟨HBW.out, .inr ⟨by rw [hfe]; exact HZ.out, by rw [hfe]⟩⟩
        clear HBW hfe f0 f1 f2 HT hix HEB2 HFB2
        generalize V.setCell ⟨E0, 0, none⟩ (.int .i64 (letE letS bs)) = VE at *
        generalize letE letS bs = x at *
        simp [Leaves, settle, results, Try.results36, go_sem, g0, g1, g2, ge]
        exact HPost.out
    · obtain ⟨a0, n0, c0, HF, HR⟩ := hst
      have HT := Lib.hid (kind_any HF.out HR.out (HO.out.drop 3) HNK.out)
      have hix := idx1 B
      by_cases hz : kindE (bs.drop 3) = 0
      · have HZ := Lib.hid hz
        clear hz
        go_wp2_with (go_at_call 51; refine HT.out.mono ?_; rintro e V ⟨hk, hpost⟩; obtain ⟨_, rfl, a', c', hF, hR⟩ := hpost.resolve_right (fun c => c.1 HZ.out); have HK2 := Lib.hid hk; have HF2 := Lib.hid hF; have HR2 := Lib.hid hR; clear hk hpost hF hR)
        go_roundw
        case rel =>
          refine ⟨HKP.out.trans HK2.out, .inr (.inr (.inl ⟨rfl, ⟨HE.out, HZ.out⟩, a', n0 - 1, c', ?_, ?_⟩))⟩
          · have h := HF2.out
            rwa [List.getElem?_drop] at h
          · have h := HR2.out
            rwa [List.drop_drop] at h
        case measure => simp [intOf]
      · have HZ := Lib.hid hz
        clear hz
        go_wp2_with (go_at_call 51; refine HT.out.mono ?_; rintro e V ⟨hk, hpost⟩; obtain ⟨_, rfl⟩ := hpost.resolve_left (fun c => HZ.out c.1); have HK2 := Lib.hid hk; clear hk hpost)
        have HFB2 : Hid (FileB V F0 0 (.slice none 0 0) (.slice none 0 0)) := (HK2.out.block F0 HFB1.out.lt HNF.out.1).trans HFB1.out
        have HEB2 : Hid (V.heap[E0]? = some (.cells #[.int .i64 0] 31 (0, 0))) := (HK2.out.block E0 (Array.getElem?_eq_some_iff.1 HEB1.out).1 HNF.out.2.1).trans HEB1.out
        have f0 := HFB2.out.c0
        have f1 := HFB2.out.c1
        have f2 := HFB2.out.c2
        refine leaves_cons (f := 49) (args := #[.pointer (some ⟨E0, 0, none⟩)]) (by simp) (by simp [go_sem]) ?_
        refine (catch_fail ⟨E0, 0, none⟩ _ 0 [] _ (by simp [World.cell?, HEB2.out]) (by simp [World.frozen?, HEB2.out])).mono ?_
        rintro e u' w'' ⟨rfl, rfl, rfl⟩
        have hfe : fstE bs = kindE (bs.drop 3) := by unfold fstE; rw [if_neg (fun c => c HE.out), if_pos HZ.out]
        have HBW : Hid (Below W.heap.size W (V.setCell ⟨E0, 0, none⟩ (.int .i64 (kindE (bs.drop 3))))) := ((HQ.out.trans (Below.of_but HKP.out HNF.out.2.2.2.2.1 HQ.out.size)).trans (Below.of_but HK2.out HNF.out.2.2.2.2.1 (Nat.le_trans HQ.out.size HKP.out.size))).setCell HNF.out.2.2.2.1 _
        have hFe := HNF.out.2.2.2.2.2
        have g0 : (V.setCell ⟨E0, 0, none⟩ (.int .i64 (kindE (bs.drop 3)))).cell? ⟨F0, 0, none⟩ = some (.int .i64 0) := (World.cell?_of_block (w := V) (Below.heap_setCell V _ _ F0 hFe)).trans f0
        have g1 : (V.setCell ⟨E0, 0, none⟩ (.int .i64 (kindE (bs.drop 3)))).cell? ⟨F0, 1, none⟩ = some (.slice none 0 0) := (World.cell?_of_block (w := V) (Below.heap_setCell V _ _ F0 hFe)).trans f1
        have g2 : (V.setCell ⟨E0, 0, none⟩ (.int .i64 (kindE (bs.drop 3)))).cell? ⟨F0, 2, none⟩ = some (.slice none 0 0) := (World.cell?_of_block (w := V) (Below.heap_setCell V _ _ F0 hFe)).trans f2
        have ge : (V.setCell ⟨E0, 0, none⟩ (.int .i64 (kindE (bs.drop 3)))).cell? ⟨E0, 0, none⟩ = some (.int .i64 (kindE (bs.drop 3))) := by
          have h : V.heap[E0]? = _ := HEB2.out
          simp [World.cell?, World.setCell, Array.getElem?_modify, h]
        have HPost : Hid (FstPost K bs W (.returned (.tuple #[.agg #[.int .i64 0, .slice none 0 0, .slice none 0 0], .slice none 0 0, .int .i64 (kindE (bs.drop 3))])) (V.setCell ⟨E0, 0, none⟩ (.int .i64 (kindE (bs.drop 3))))) := ⟨HBW.out, .inr ⟨by rw [hfe]; exact HZ.out, by rw [hfe]⟩⟩
        clear HBW hfe f0 f1 f2 HT hix HEB2 HFB2
        generalize V.setCell ⟨E0, 0, none⟩ (.int .i64 (kindE (bs.drop 3))) = VE at *
        generalize kindE (bs.drop 3) = x at *
        simp [Leaves, settle, results, Try.results36, go_sem, g0, g1, g2, ge]
        exact HPost.out
    · obtain ⟨a0, n0, c0, HF, HR⟩ := hst
      have HT := Lib.hid (id_any HF.out HR.out (HO.out.drop 4) HNK.out)
      have hix := idx2 B
      by_cases hz : idE (bs.drop 4) = 0
      · have HZ := Lib.hid hz
        clear hz
        go_wp2_with (go_at_call 52; refine HT.out.mono ?_; rintro e V ⟨hk, hpost⟩; obtain ⟨_, rfl, a', n', a1, n1, hF, hR, hI⟩ := hpost.resolve_right (fun c => c.1 HZ.out); have HK2 := Lib.hid hk; have HF2 := Lib.hid hF; have HR2 := Lib.hid hR; have HI2 := Lib.hid hI; clear hI; clear hk hpost hF hR)
        go_roundw
        case rel =>
          refine ⟨HKP.out.trans HK2.out, .inr (.inr (.inr (.inl ⟨rfl, ⟨HE.out.1, HE.out.2, HZ.out⟩, a', n', n', a1, n1, n1, HF2.out, ?_, HI2.out.mono fun b _ hb => ?_⟩)))⟩
          · have h := HR2.out
            rwa [List.drop_drop] at h
          · have h1 := HF.out.lt
            have h2 := HQ.out.size
            have h3 := HKP.out.size
            have hb' : wr.heap.size ≤ b := hb
            exact ⟨by omega, by omega⟩
        case measure => simp [intOf]
      · have HZ := Lib.hid hz
        clear hz
        go_wp2_with (go_at_call 52; refine HT.out.mono ?_; rintro e V ⟨hk, hpost⟩; obtain ⟨_, rfl⟩ := hpost.resolve_left (fun c => HZ.out c.1); have HK2 := Lib.hid hk; clear hk hpost)
        have HFB2 : Hid (FileB V F0 0 (.slice none 0 0) (.slice none 0 0)) := (HK2.out.block F0 HFB1.out.lt HNF.out.1).trans HFB1.out
        have HEB2 : Hid (V.heap[E0]? = some (.cells #[.int .i64 0] 31 (0, 0))) := (HK2.out.block E0 (Array.getElem?_eq_some_iff.1 HEB1.out).1 HNF.out.2.1).trans HEB1.out
        have f0 := HFB2.out.c0
        have f1 := HFB2.out.c1
        have f2 := HFB2.out.c2
        refine leaves_cons (f := 49) (args := #[.pointer (some ⟨E0, 0, none⟩)]) (by simp) (by simp [go_sem]) ?_
        refine (catch_fail ⟨E0, 0, none⟩ _ 0 [] _ (by simp [World.cell?, HEB2.out]) (by simp [World.frozen?, HEB2.out])).mono ?_
        rintro e u' w'' ⟨rfl, rfl, rfl⟩
        have hfe : fstE bs = idE (bs.drop 4) := by unfold fstE; rw [if_neg (fun c => c HE.out.1), if_neg (fun c => c HE.out.2), if_pos HZ.out]
        have HBW : Hid (Below W.heap.size W (V.setCell ⟨E0, 0, none⟩ (.int .i64 (idE (bs.drop 4))))) := ((HQ.out.trans (Below.of_but HKP.out HNF.out.2.2.2.2.1 HQ.out.size)).trans (Below.of_but HK2.out HNF.out.2.2.2.2.1 (Nat.le_trans HQ.out.size HKP.out.size))).setCell HNF.out.2.2.2.1 _
        have hFe := HNF.out.2.2.2.2.2
        have g0 : (V.setCell ⟨E0, 0, none⟩ (.int .i64 (idE (bs.drop 4)))).cell? ⟨F0, 0, none⟩ = some (.int .i64 0) := (World.cell?_of_block (w := V) (Below.heap_setCell V _ _ F0 hFe)).trans f0
        have g1 : (V.setCell ⟨E0, 0, none⟩ (.int .i64 (idE (bs.drop 4)))).cell? ⟨F0, 1, none⟩ = some (.slice none 0 0) := (World.cell?_of_block (w := V) (Below.heap_setCell V _ _ F0 hFe)).trans f1
        have g2 : (V.setCell ⟨E0, 0, none⟩ (.int .i64 (idE (bs.drop 4)))).cell? ⟨F0, 2, none⟩ = some (.slice none 0 0) := (World.cell?_of_block (w := V) (Below.heap_setCell V _ _ F0 hFe)).trans f2
        have ge : (V.setCell ⟨E0, 0, none⟩ (.int .i64 (idE (bs.drop 4)))).cell? ⟨E0, 0, none⟩ = some (.int .i64 (idE (bs.drop 4))) := by
          have h : V.heap[E0]? = _ := HEB2.out
          simp [World.cell?, World.setCell, Array.getElem?_modify, h]
        have HPost : Hid (FstPost K bs W (.returned (.tuple #[.agg #[.int .i64 0, .slice none 0 0, .slice none 0 0], .slice none 0 0, .int .i64 (idE (bs.drop 4))])) (V.setCell ⟨E0, 0, none⟩ (.int .i64 (idE (bs.drop 4))))) := ⟨HBW.out, .inr ⟨by rw [hfe]; exact HZ.out, by rw [hfe]⟩⟩
        clear HBW hfe f0 f1 f2 HT hix HEB2 HFB2
        generalize V.setCell ⟨E0, 0, none⟩ (.int .i64 (idE (bs.drop 4))) = VE at *
        generalize idE (bs.drop 4) = x at *
        simp [Leaves, settle, results, Try.results36, go_sem, g0, g1, g2, ge]
        exact HPost.out
    · obtain ⟨a0, n0, c0, a1, n1, c1, HF, HR, HI⟩ := hst
      have HT := Lib.hid (data_any HF.out HR.out (HO.out.drop _) HNK.out)
      have hix := idx3 B
      by_cases hz : dataE (bs.drop (atI bs)) = 0
      · have HZ := Lib.hid hz
        clear hz
        go_wp2_with (go_at_call 53; refine HT.out.mono ?_; rintro e V ⟨hk, hpost⟩; obtain ⟨_, rfl, a', n', c', a2, n2, c2, hF, hR, hD⟩ := hpost.resolve_right (fun c => c.1 HZ.out); have HK2 := Lib.hid hk; have HF2 := Lib.hid hF; have HR2 := Lib.hid hR; have HD2 := Lib.hid hD; clear hD; clear hk hpost hF hR)
        go_roundw
        case rel =>
          refine ⟨HKP.out.trans HK2.out, .inr (.inr (.inr (.inr (.inl ⟨rfl, ⟨HE.out.1, HE.out.2.1, HE.out.2.2, HZ.out⟩, a', n', c', a1, n1, c1, a2, n2, c2, HF2.out, ?_, HI.out.kept (HK2.out.mono fun k hk => Nat.ne_of_gt hk.2), ?_⟩))))⟩
          · have h := HR2.out
            rwa [List.drop_drop, ← Nat.add_assoc] at h
          · have h := HD2.out
            rw [List.drop_drop] at h
            refine h.mono fun b _ hb => ?_
            have h1 := HF.out.lt
            have h2 := HQ.out.size
            have h3 := HKP.out.size
            have hb' : wr.heap.size ≤ b := hb
            exact ⟨by omega, by omega⟩
        case measure => simp [intOf]
      · have HZ := Lib.hid hz
        clear hz
        go_wp2_with (go_at_call 53; refine HT.out.mono ?_; rintro e V ⟨hk, hpost⟩; obtain ⟨_, rfl⟩ := hpost.resolve_left (fun c => HZ.out c.1); have HK2 := Lib.hid hk; clear hk hpost)
        have HFB2 : Hid (FileB V F0 0 (.slice none 0 0) (.slice none 0 0)) := (HK2.out.block F0 HFB1.out.lt HNF.out.1).trans HFB1.out
        have HEB2 : Hid (V.heap[E0]? = some (.cells #[.int .i64 0] 31 (0, 0))) := (HK2.out.block E0 (Array.getElem?_eq_some_iff.1 HEB1.out).1 HNF.out.2.1).trans HEB1.out
        have f0 := HFB2.out.c0
        have f1 := HFB2.out.c1
        have f2 := HFB2.out.c2
        refine leaves_cons (f := 49) (args := #[.pointer (some ⟨E0, 0, none⟩)]) (by simp) (by simp [go_sem]) ?_
        refine (catch_fail ⟨E0, 0, none⟩ _ 0 [] _ (by simp [World.cell?, HEB2.out]) (by simp [World.frozen?, HEB2.out])).mono ?_
        rintro e u' w'' ⟨rfl, rfl, rfl⟩
        have hfe : fstE bs = dataE (bs.drop (atI bs)) := by unfold fstE; rw [if_neg (fun c => c HE.out.1), if_neg (fun c => c HE.out.2.1), if_neg (fun c => c HE.out.2.2), if_pos HZ.out]
        have HBW : Hid (Below W.heap.size W (V.setCell ⟨E0, 0, none⟩ (.int .i64 (dataE (bs.drop (atI bs)))))) := ((HQ.out.trans (Below.of_but HKP.out HNF.out.2.2.2.2.1 HQ.out.size)).trans (Below.of_but HK2.out HNF.out.2.2.2.2.1 (Nat.le_trans HQ.out.size HKP.out.size))).setCell HNF.out.2.2.2.1 _
        have hFe := HNF.out.2.2.2.2.2
        have g0 : (V.setCell ⟨E0, 0, none⟩ (.int .i64 (dataE (bs.drop (atI bs))))).cell? ⟨F0, 0, none⟩ = some (.int .i64 0) := (World.cell?_of_block (w := V) (Below.heap_setCell V _ _ F0 hFe)).trans f0
        have g1 : (V.setCell ⟨E0, 0, none⟩ (.int .i64 (dataE (bs.drop (atI bs))))).cell? ⟨F0, 1, none⟩ = some (.slice none 0 0) := (World.cell?_of_block (w := V) (Below.heap_setCell V _ _ F0 hFe)).trans f1
        have g2 : (V.setCell ⟨E0, 0, none⟩ (.int .i64 (dataE (bs.drop (atI bs))))).cell? ⟨F0, 2, none⟩ = some (.slice none 0 0) := (World.cell?_of_block (w := V) (Below.heap_setCell V _ _ F0 hFe)).trans f2
        have ge : (V.setCell ⟨E0, 0, none⟩ (.int .i64 (dataE (bs.drop (atI bs))))).cell? ⟨E0, 0, none⟩ = some (.int .i64 (dataE (bs.drop (atI bs)))) := by
          have h : V.heap[E0]? = _ := HEB2.out
          simp [World.cell?, World.setCell, Array.getElem?_modify, h]
        have HPost : Hid (FstPost K bs W (.returned (.tuple #[.agg #[.int .i64 0, .slice none 0 0, .slice none 0 0], .slice none 0 0, .int .i64 (dataE (bs.drop (atI bs)))])) (V.setCell ⟨E0, 0, none⟩ (.int .i64 (dataE (bs.drop (atI bs)))))) := ⟨HBW.out, .inr ⟨by rw [hfe]; exact HZ.out, by rw [hfe]⟩⟩
        clear HBW hfe f0 f1 f2 HT hix HEB2 HFB2
        generalize V.setCell ⟨E0, 0, none⟩ (.int .i64 (dataE (bs.drop (atI bs)))) = VE at *
        generalize dataE (bs.drop (atI bs)) = x at *
        simp [Leaves, settle, results, Try.results36, go_sem, g0, g1, g2, ge]
        exact HPost.out
    · obtain ⟨a0, n0, c0, a1, n1, c1, a2, n2, c2, HF, HR, HI, HD⟩ := hst
      have HSP : Hid (atS bs ≤ bs.length ∧ 0 < n) := by
        have := parts_le HO.out HE.out.2.1 HE.out.2.2.1 HE.out.2.2.2
        exact ⟨this.1, by rw [HSW.out.hl]; exact this.2⟩
      have HT := Lib.hid (sum_any (p := atS bs) HF.out (HSW.out.kept (HKP.out.mono fun k hk e => HNK.out (e ▸ hk))) HR.out HO.out HNK.out HSP.out.1 HSP.out.2)
      have hix := idx4 B
      by_cases hz : sumE (bs.take (atS bs)) (bs.drop (atS bs)) = 0
      · have HZ := Lib.hid hz
        clear hz
        go_wp2_with (go_at_call 54; refine HT.out.mono ?_; rintro e V ⟨hk, hpost⟩; obtain ⟨_, rfl, a', c', hF, hR⟩ := hpost.resolve_right (fun c => c.1 HZ.out); have HK2 := Lib.hid hk; have HF2 := Lib.hid hF; have HR2 := Lib.hid hR; clear hk hpost hF hR)
        go_roundw
        case rel =>
          refine ⟨HKP.out.trans HK2.out, .inr (.inr (.inr (.inr (.inr ⟨rfl, ?_, a', n0 - 8, c', a1, n1, c1, a2, n2, c2, HF2.out, HR2.out, HI.out.kept (HK2.out.mono fun k hk => Nat.ne_of_gt hk.2), HD.out.kept (HK2.out.mono fun k hk => Nat.ne_of_gt hk.2)⟩))))⟩
          show fstE bs = 0
          unfold fstE
          rw [if_neg (fun c => c HE.out.1), if_neg (fun c => c HE.out.2.1), if_neg (fun c => c HE.out.2.2.1), if_neg (fun c => c HE.out.2.2.2)]
          exact HZ.out
        case measure => simp [intOf]
      · have HZ := Lib.hid hz
        clear hz
        go_wp2_with (go_at_call 54; refine HT.out.mono ?_; rintro e V ⟨hk, hpost⟩; obtain ⟨_, rfl⟩ := hpost.resolve_left (fun c => HZ.out c.1); have HK2 := Lib.hid hk; clear hk hpost)
        have HFB2 : Hid (FileB V F0 0 (.slice none 0 0) (.slice none 0 0)) := (HK2.out.block F0 HFB1.out.lt HNF.out.1).trans HFB1.out
        have HEB2 : Hid (V.heap[E0]? = some (.cells #[.int .i64 0] 31 (0, 0))) := (HK2.out.block E0 (Array.getElem?_eq_some_iff.1 HEB1.out).1 HNF.out.2.1).trans HEB1.out
        have f0 := HFB2.out.c0
        have f1 := HFB2.out.c1
        have f2 := HFB2.out.c2
        refine leaves_cons (f := 49) (args := #[.pointer (some ⟨E0, 0, none⟩)]) (by simp) (by simp [go_sem]) ?_
        refine (catch_fail ⟨E0, 0, none⟩ _ 0 [] _ (by simp [World.cell?, HEB2.out]) (by simp [World.frozen?, HEB2.out])).mono ?_
        rintro e u' w'' ⟨rfl, rfl, rfl⟩
        have hfe : fstE bs = sumE (bs.take (atS bs)) (bs.drop (atS bs)) := by unfold fstE; rw [if_neg (fun c => c HE.out.1), if_neg (fun c => c HE.out.2.1), if_neg (fun c => c HE.out.2.2.1), if_neg (fun c => c HE.out.2.2.2)]
        have HBW : Hid (Below W.heap.size W (V.setCell ⟨E0, 0, none⟩ (.int .i64 (sumE (bs.take (atS bs)) (bs.drop (atS bs)))))) := ((HQ.out.trans (Below.of_but HKP.out HNF.out.2.2.2.2.1 HQ.out.size)).trans (Below.of_but HK2.out HNF.out.2.2.2.2.1 (Nat.le_trans HQ.out.size HKP.out.size))).setCell HNF.out.2.2.2.1 _
        have hFe := HNF.out.2.2.2.2.2
        have g0 : (V.setCell ⟨E0, 0, none⟩ (.int .i64 (sumE (bs.take (atS bs)) (bs.drop (atS bs))))).cell? ⟨F0, 0, none⟩ = some (.int .i64 0) := (World.cell?_of_block (w := V) (Below.heap_setCell V _ _ F0 hFe)).trans f0
        have g1 : (V.setCell ⟨E0, 0, none⟩ (.int .i64 (sumE (bs.take (atS bs)) (bs.drop (atS bs))))).cell? ⟨F0, 1, none⟩ = some (.slice none 0 0) := (World.cell?_of_block (w := V) (Below.heap_setCell V _ _ F0 hFe)).trans f1
        have g2 : (V.setCell ⟨E0, 0, none⟩ (.int .i64 (sumE (bs.take (atS bs)) (bs.drop (atS bs))))).cell? ⟨F0, 2, none⟩ = some (.slice none 0 0) := (World.cell?_of_block (w := V) (Below.heap_setCell V _ _ F0 hFe)).trans f2
        have ge : (V.setCell ⟨E0, 0, none⟩ (.int .i64 (sumE (bs.take (atS bs)) (bs.drop (atS bs))))).cell? ⟨E0, 0, none⟩ = some (.int .i64 (sumE (bs.take (atS bs)) (bs.drop (atS bs)))) := by
          have h : V.heap[E0]? = _ := HEB2.out
          simp [World.cell?, World.setCell, Array.getElem?_modify, h]
        have HPost : Hid (FstPost K bs W (.returned (.tuple #[.agg #[.int .i64 0, .slice none 0 0, .slice none 0 0], .slice none 0 0, .int .i64 (sumE (bs.take (atS bs)) (bs.drop (atS bs)))])) (V.setCell ⟨E0, 0, none⟩ (.int .i64 (sumE (bs.take (atS bs)) (bs.drop (atS bs)))))) := ⟨HBW.out, .inr ⟨by rw [hfe]; exact HZ.out, by rw [hfe]⟩⟩
        clear HBW hfe f0 f1 f2 HT hix HEB2 HFB2
        generalize V.setCell ⟨E0, 0, none⟩ (.int .i64 (sumE (bs.take (atS bs)) (bs.drop (atS bs)))) = VE at *
        generalize sumE (bs.take (atS bs)) (bs.drop (atS bs)) = x at *
        simp [Leaves, settle, results, Try.results36, go_sem, g0, g1, g2, ge]
        exact HPost.out
    · obtain ⟨a0, n0, c0, a1, n1, c1, a2, n2, c2, HF, HR, HI, HD⟩ := hst
      have b1 := HF.out.c1
      have b2 := HF.out.c2
      have b3 := HF.out.c3
      have b4 := HF.out.c4
      have blt := HF.out.lt
      have f0 := HFB1.out.c0
      have f1 := HFB1.out.c1
      have f2 := HFB1.out.c2
      have ff0 := HFB1.out.f 0
      have ff1 := HFB1.out.f 1
      have ff2 := HFB1.out.f 2
      have e0 : wr.cell? ⟨E0, 0, none⟩ = some (.int .i64 0) := by simp [World.cell?, HEB1.out]
      have ef : wr.frozen? ⟨E0, 0, none⟩ = false := by simp [World.frozen?, HEB1.out]
      have hFe := HNF.out.2.2.2.2.2
      have hFb := HNF.out.1
      have hEb := HNF.out.2.1
      go_wp2
      go_region
      have hX : ∃ X, ((((wr.setCell ⟨F0, 0, none⟩ (.int .i64 (fstK bs))).setCell ⟨F0, 1, none⟩ (.slice a1 n1 c1)).setCell ⟨F0, 2, none⟩ (.slice a2 n2 c2)).setCell ⟨E0, 0, none⟩ (.int .i64 0)).drew = X := ⟨_, rfl⟩
      obtain ⟨X, hX⟩ := hX
      have HBX : Hid (Below W.heap.size W X) := by
        rw [← hX]
        exact (((((HQ.out.trans (Below.of_but HKP.out HNF.out.2.2.2.2.1 HQ.out.size)).setCell HNF.out.2.2.1 _).setCell HNF.out.2.2.1 _).setCell HNF.out.2.2.1 _).setCell HNF.out.2.2.2.1 _).drew
      have HKX : Hid (Kept (fun b => b ≠ F0 ∧ b ≠ E0) wr X) := by
        rw [← hX]
        exact (((((Kept.of_grownBy (grownBy_cell wr ⟨F0, 0, none⟩ _) (fun r e h => by cases e; exact h.1 rfl)).trans (Kept.of_grownBy (grownBy_cell _ ⟨F0, 1, none⟩ _) (fun r e h => by cases e; exact h.1 rfl))).trans (Kept.of_grownBy (grownBy_cell _ ⟨F0, 2, none⟩ _) (fun r e h => by cases e; exact h.1 rfl))).trans (Kept.of_grownBy (grownBy_cell _ ⟨E0, 0, none⟩ _) (fun r e h => by cases e; exact h.2 rfl)))).drew
      have hFX : FileB X F0 (fstK bs) (.slice a1 n1 c1) (.slice a2 n2 c2) := by
        have h : wr.heap[F0]? = _ := HFB1.out
        rw [← hX]
        show (((((wr.setCell ⟨F0, 0, none⟩ (.int .i64 (fstK bs))).setCell ⟨F0, 1, none⟩ (.slice a1 n1 c1)).setCell ⟨F0, 2, none⟩ (.slice a2 n2 c2)).setCell ⟨E0, 0, none⟩ (.int .i64 0)).heap[F0]?) = _
        rw [Below.heap_setCell _ _ _ F0 hFe]
        simp [World.setCell, Array.getElem?_modify, h]
      have hEX : X.cell? ⟨E0, 0, none⟩ = some (.int .i64 0) := by
        have h : wr.heap[E0]? = _ := HEB1.out
        rw [← hX]
        unfold World.cell?
        show (match ((((wr.setCell ⟨F0, 0, none⟩ (.int .i64 (fstK bs))).setCell ⟨F0, 1, none⟩ (.slice a1 n1 c1)).setCell ⟨F0, 2, none⟩ (.slice a2 n2 c2)).setCell ⟨E0, 0, none⟩ (.int .i64 0)).heap[E0]? with | some (.cells c _ _) => c[0]? | _ => none) = _
        simp [World.setCell, Array.getElem?_modify, h, hFe]
      rw [hX]
      clear hX b1 b2 b3 b4 f0 f1 f2 ff0 ff1 ff2 e0 ef
      have g0 := hFX.c0
      have g1 := hFX.c1
      have g2 := hFX.c2
      have HPost : Hid (FstPost K bs W (.returned (.tuple #[.agg #[.int .i64 (fstK bs), .slice a1 n1 c1, .slice a2 n2 c2], .slice a0 n0 c0, .int .i64 0])) X) :=
        ⟨HBX.out, .inl ⟨HE.out, a1, n1, c1, a2, n2, c2, a0, n0, c0, rfl,
          (HI.out.kept (HKX.out.mono fun k hk => ⟨by have := HNL.out; have := hk.2; omega, by have := HNL.out; have := hk.2; omega⟩)).mono (fun b _ hb => hb.1),
          (HD.out.kept (HKX.out.mono fun k hk => ⟨by have := HNL.out; have := hk.2; omega, by have := HNL.out; have := hk.2; omega⟩)).mono (fun b _ hb => hb.1),
          (HR.out.kept (HKX.out.mono fun k hk => ⟨by have := HNF.out.2.2.1; have := hk.2; omega, by have := HNF.out.2.2.2.1; have := hk.2; omega⟩)).mono (fun b _ hb => hb.1)⟩⟩
      clear hFX
      go_wp2
      refine leaves_cons (f := 49) (args := #[.pointer (some ⟨E0, 0, none⟩)]) (by simp) (by simp [go_sem]) ?_
      refine (catch_idle ⟨E0, 0, none⟩ _).mono ?_
      rintro e u' w'' ⟨rfl, rfl, rfl⟩
      simp [Leaves, settle, results, Try.results36, go_sem, g0, g1, g2, hEX]
      exact HPost.out

end Go.Proofs.Ytkfmgiacdlkmiaa
