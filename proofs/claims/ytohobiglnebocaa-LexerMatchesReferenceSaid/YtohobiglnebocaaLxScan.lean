/-
  The scanner's cells; skipping.
-/
import Derived.Test.YtohobiglnebocaaLxChars
namespace Go.Proofs.Ytohobiglnebocaa.Lx
open Go Go.RowKit Go.Shelf Go.Sort Go.ChangeShapes Go.WideShapes Go.ChangeAt
open Go.Proofs.Ytohobiglnebocaa

theorem bs_at (l : List UInt8) (k : Nat) (h : k < (bsOf l).size) : (bsOf l)[k]'h = l[k]?.getD 0 := by
  have h2 : k < l.length := by rw [← bs_size l]; exact h
  rw [List.getElem?_eq_getElem h2]
  rfl

/-- The two cells of a scanner. -/
def Two (W : World) (B : Nat) (s : ByteArray) (a : Nat) : Prop := W.heap[B]? = some (.cells #[.string s, .int .i64 (a : Int)] 64 (0, 0))
section
variable {W V : World} {B : Nat} {s : ByteArray} {a : Nat}
theorem Two.c0 (h : Two W B s a) : W.cell? ⟨B, 0, none⟩ = some (.string s) := by simp [World.cell?, show W.heap[B]? = _ from h]
theorem Two.c1 (h : Two W B s a) : W.cell? ⟨B, 1, none⟩ = some (.int .i64 (a : Int)) := by simp [World.cell?, show W.heap[B]? = _ from h]
theorem Two.f (h : Two W B s a) (o : Nat) : W.frozen? ⟨B, o, none⟩ = false := by simp [World.frozen?, show W.heap[B]? = _ from h]
theorem Two.lt (h : Two W B s a) : B < W.heap.size := (Array.getElem?_eq_some_iff.1 h).1
theorem Two.new (W : World) (s : ByteArray) (a : Nat) : Two (W.alloc (.cells #[.string s, .int .i64 (a : Int)] 64)) W.heap.size s a := World.alloc_heap_new W _
theorem Two.below {n : Nat} (h : Two W B s a) (hb : Below n W V) (hn : B < n) : Two V B s a := (hb.block B hn).trans h
theorem Two.set1 (h : Two W B s a) (b : Nat) : Two (W.setCell ⟨B, 1, none⟩ (.int .i64 (b : Int))) B s b := by
  have h : W.heap[B]? = _ := h
  show (W.setCell ⟨B, 1, none⟩ _).heap[B]? = _
  simp [World.setCell, Array.getElem?_modify, h]
end
theorem grownBy_cell (W : World) (p : Addr) (v : Value) : W.grownBy (W.setCell p v) (some p.block) :=
  ⟨rfl, rfl, rfl, by simp [World.setCell], fun i _ hne => Below.heap_setCell W p v i (fun e => hne (by rw [e]))⟩
theorem kept_set (W : World) (B o : Nat) (v : Value) : Kept (fun b => b ≠ B) W (W.setCell ⟨B, o, none⟩ v) :=
  Kept.of_grownBy (grownBy_cell W ⟨B, o, none⟩ v) (fun r e => by cases e; exact fun h => h rfl)
theorem Kept.all {K : Nat → Prop} {A B : World} (h : Below A.heap.size A B) : Kept K A B := ⟨h.os, h.tape, h.output, h.size, fun i hi _ => h.block i hi⟩

theorem sp_step (p : UInt8 → Bool) {s : List UInt8} {k : Nat} (h : k < s.length) : spN p (s.drop k) = if p (s[k]?.getD 0) then spN p (s.drop (k + 1)) + 1 else 0 := by
  rw [List.drop_eq_getElem_cons h, List.getElem?_eq_getElem h]; rfl
theorem sp_end (p : UInt8 → Bool) {s : List UInt8} {k : Nat} (h : s.length ≤ k) : spN p (s.drop k) = 0 := by
  rw [List.drop_eq_nil_of_le h]; rfl

set_option maxRecDepth 100000 in
set_option maxHeartbeats 2000000 in
theorem skip_any {g : FuncId} {p : UInt8 → Bool} (hg : Tells g p) {s : List UInt8} {B a : Nat} {w : World} (h : Two w B (bsOf s) a) (ha : a ≤ s.length) (hs : s.length ≤ 1048576) :
    Calls Try.prog 51 #[.pointer (some ⟨B, 0, none⟩), .func (.func g) #[] #[]] w fun e V => e = .returned (.tuple #[]) ∧ Two V B (bsOf s) (a + spN p (s.drop a)) ∧ Kept (fun b => b ≠ B) w V := by
  have HZ := Lib.hid (bs_size s)
  have HAT := Lib.hid (bs_at s)
  have HG : Hid (Says g p) := hg.says
  have eg := hg.enters
  clear hg
  obtain ⟨S, hS⟩ : ∃ S, bsOf s = S := ⟨_, rfl⟩
  rw [hS] at HZ HAT h ⊢
  have hsz : S.size ≤ 1048576 := by rw [HZ.out]; exact hs
  have haz : a ≤ S.size := by rw [HZ.out]; exact ha
  have H0 := Lib.hid h
  clear hS hs ha h
  go_enter Try.func51, Try.ntmps51
  go_wp2
  go_loopw [] (fun wr => ∃ k : Nat, k ≤ S.size ∧ Hid (Two wr B S k ∧ k + spN p (s.drop k) = a + spN p (s.drop a) ∧ Kept (fun b => b ≠ B) w wr)) (fun wr => S.size - (intOf ((wr.cell? ⟨B, 1, none⟩).getD undef)).toNat)
  case atStart => exact ⟨a, haz, H0.out, rfl, Kept.refl _ _⟩
  case round =>
    obtain ⟨k, hk, HI⟩ := hrel
    have c0 := HI.out.1.c0
    have c1 := HI.out.1.c1
    have hf := HI.out.1.f 1
    have K0 := fun d os => cell_regrown c0 d os
    have K1 := fun d os => cell_regrown c1 d os
    by_cases hlt : k < S.size
    · have hx := HAT.out k hlt
      have HS := Lib.hid (sp_step p (s := s) (k := k) (by rw [← HZ.out]; exact hlt))
      have HP := Lib.hid (fun w => HG.out (s[k]?.getD 0) w)
      obtain ⟨q, hq⟩ : ∃ q, p (s[k]?.getD 0) = q := ⟨_, rfl⟩
      rw [hq] at HP HS
      clear hq
      generalize s[k]?.getD 0 = x at *
      cases q
      · go_upto_region 0 with fail
        refine wp_region_quiet_below (by kernel_rfl) (by kernel_rfl) ?_
        repeat (go_big_quiet_step (first
          | (with_reducible exact Calls.regrown_of ((HP.out _).mono fun e w' ⟨he, hw⟩ => ⟨he, hw ▸ Below.self _⟩))))
        refine wpQuiet_nil ?_
        intro _ hw'
        obtain ⟨⟨dq, osq⟩, hw''⟩ := hw'
        subst hw''
        have HBQ : Hid (Below wr.heap.size wr (grow (redrawn wr dq) osq)) := below_regrown wr dq osq
        generalize grow (redrawn wr dq) osq = WQ at *
        have HT : Hid (Two WQ B S k) := HI.out.1.below HBQ.out HI.out.1.lt
        have HK : Hid (Kept (fun b => b ≠ B) w WQ) := HI.out.2.2.trans (Kept.all HBQ.out)
        clear K0 K1 c0 c1 hf
        go_wp2
        go_end0
        exact ⟨rfl, by have := HI.out.2.1; have h2 := HS.out; rw [← this, h2]; exact HT.out, HK.out⟩
      · go_upto_region 0 with fail
        refine wp_region_quiet_below (by kernel_rfl) (by kernel_rfl) ?_
        repeat (go_big_quiet_step (first
          | (with_reducible exact Calls.regrown_of ((HP.out _).mono fun e w' ⟨he, hw⟩ => ⟨he, hw ▸ Below.self _⟩))))
        refine wpQuiet_nil ?_
        intro _ hw'
        obtain ⟨⟨dq, osq⟩, hw''⟩ := hw'
        subst hw''
        have HBQ : Hid (Below wr.heap.size wr (grow (redrawn wr dq) osq)) := below_regrown wr dq osq
        generalize grow (redrawn wr dq) osq = WQ at *
        have HT : Hid (Two WQ B S k) := HI.out.1.below HBQ.out HI.out.1.lt
        have HK : Hid (Kept (fun b => b ≠ B) w WQ) := HI.out.2.2.trans (Kept.all HBQ.out)
        clear K0 K1 c0 c1 hf
        have c1 := HT.out.c1
        have hf := HT.out.f 1
        go_wp2
        go_roundw
        case rel => exact ⟨k + 1, by omega, HT.out.set1 (k + 1), by have := HI.out.2.1; have h2 := HS.out; rw [if_pos rfl] at h2; omega, HK.out.trans (kept_set _ _ _ _)⟩
        case measure => rw [show ((WQ.setCell ⟨B, 1, none⟩ (.int .i64 ((k : Int) + 1))).cell? ⟨B, 1, none⟩) = some (.int .i64 ((k + 1 : Nat) : Int)) from (HT.out.set1 (k + 1)).c1, HI.out.1.c1]; simp [intOf]; omega
    · obtain rfl : k = S.size := by omega
      have HE := Lib.hid (sp_end p (s := s) (k := S.size) (by rw [HZ.out]; exact Nat.le_refl _))
      go_upto_region 0 with fail
      refine wp_region_quiet_below (by kernel_rfl) (by kernel_rfl) ?_
      repeat (go_big_quiet_step (first
        | (with_reducible exact Calls.regrown_of ((HP.out _).mono fun e w' ⟨he, hw⟩ => ⟨he, hw ▸ Below.self _⟩))))
      refine wpQuiet_nil ?_
      intro _ hw'
      obtain ⟨⟨dq, osq⟩, hw''⟩ := hw'
      subst hw''
      have HBQ : Hid (Below wr.heap.size wr (grow (redrawn wr dq) osq)) := below_regrown wr dq osq
      generalize grow (redrawn wr dq) osq = WQ at *
      have HT : Hid (Two WQ B S _) := HI.out.1.below HBQ.out HI.out.1.lt
      have HK : Hid (Kept (fun b => b ≠ B) w WQ) := HI.out.2.2.trans (Kept.all HBQ.out)
      clear K0 K1 c0 c1 hf
      go_wp2
      go_end0
      exact ⟨rfl, by have := HI.out.2.1; have h2 := HE.out; rw [← this, h2]; exact HT.out, HK.out⟩

end Go.Proofs.Ytohobiglnebocaa.Lx
