/-
  The contract of the method that takes any number of words: it goes on by a step for each, in the chain's own cell, and nothing else turns.
-/
import Derived.Test.YtjlihkllgajkkaaDigStep
import Derived.Maps.AppendAt
namespace Go.Proofs.Ytjlihkllgajkkaa
open Go.RowKit Go.Shelf

/-- The slice value sv reads as the integers zs of kind k, in block b alone; or it is nil, and there are none. -/
def Reads (W : World) (k : IntKind) (sv : Value) (zs : List Int) : Prop :=
  (sv = .slice none 0 0 ∧ zs = []) ∨ ∃ b off cap, sv = .slice (some ⟨b, off, none⟩) zs.length cap ∧ b < W.heap.size ∧ ∀ j, j < zs.length → W.cell? ⟨b, off + j, none⟩ = some (.int k (zs[j]?.getD 0))

/-- All of a list are words. -/
def Words (ws : List Int) : Prop := ∀ x ∈ ws, 0 ≤ x ∧ x < 18446744073709551616

theorem Words.getD {ws : List Int} (h : Words ws) (k : Nat) : 0 ≤ ws[k]?.getD 0 ∧ ws[k]?.getD 0 < 18446744073709551616 := by
  by_cases hk : k < ws.length
  · rw [List.getElem?_eq_getElem hk]; exact h _ (List.getElem_mem hk)
  · rw [List.getElem?_eq_none (by omega)]; simp

theorem foldI_range (h : Int) (hh : 0 ≤ h ∧ h < 18446744073709551616) : ∀ ws : List Int, 0 ≤ ws.foldl stepI h ∧ ws.foldl stepI h < 18446744073709551616 := by
  intro ws
  induction ws generalizing h with
  | nil => exact hh
  | cons x r ih => exact ih _ ⟨stepI_lo _ _, stepI_hi _ _⟩

theorem take_getD_snoc (ws : List Int) (k : Nat) (hk : k < ws.length) : ws.take (k + 1) = ws.take k ++ [ws[k]?.getD 0] := by
  rw [List.take_succ_eq_append_getElem hk, List.getElem?_eq_getElem hk]; rfl

theorem foldI_snoc (h : Int) (ws : List Int) (k : Nat) (hk : k < ws.length) : (ws.take (k + 1)).foldl stepI h = stepI ((ws.take k).foldl stepI h) (ws[k]?.getD 0) := by
  rw [take_getD_snoc ws k hk, List.foldl_append]; rfl

set_option maxRecDepth 100000 in
set_option maxHeartbeats 1000000 in
theorem take_some_in (F : Fence) (n : Nat) (hF : Lets F) (hn : 1 ≤ n) (B b off len cap : Nat) (h : Int) (hh : 0 ≤ h ∧ h < 18446744073709551616) (ws : List Int) (hlen : Hid (len = ws.length)) (hmax : len ≤ 140737488351232) (hw : Words ws) (hne : b ≠ B) (W : World)
    (hB : Boxed W B 50 (.int .u64 h)) (hb : b < W.heap.size) (hc : ∀ j, j < len → W.cell? ⟨b, off + j, none⟩ = some (.int .u64 (ws[j]?.getD 0))) :
    CallsIn F n Try.prog 25 #[.pointer (some ⟨B, 0, none⟩), .slice (some ⟨b, off, none⟩) len cap] W fun e W' =>
      (∃ v, e = .returned v) ∧ Boxed W' B 50 (.int .u64 (ws.foldl stepI h)) ∧ W.grownBy W' (some B) := by
  have hro := hF.round
  have hf := hF.fn 12
  refine callsIn_of_wp Try.func25 rfl (hF.fn _) ?_ hF.round
  simp only [Try.ntmps25, List.size_toArray, List.length_cons, List.length_nil, Nat.reduceAdd, Nat.reduceSub, Array.replicate_succ, Array.replicate_zero, List.push_toArray, List.append_toArray, List.nil_append, List.cons_append]
  gi_wp2
  gi_loopw [8] (fun i wr => ∃ k : Nat, k ≤ len ∧ i = .int .i64 k ∧ Boxed wr B 50 (.int .u64 ((ws.take k).foldl stepI h)) ∧ W.grownBy wr (some B))
    (fun i _ => len - (intOf i).toNat)
  case atStart => exact ⟨0, Nat.zero_le _, rfl, hB, World.grownBy.refl _ _⟩
  case round =>
    obtain ⟨k, hk, rfl, hBx, hg⟩ := hrel
    have hcB := hBx.cell
    have hfB := hBx.frozen
    by_cases hlt : k < len
    · have hcx : wr.cell? ⟨b, off + k, none⟩ = some (.int .u64 (ws[k]?.getD 0)) := (World.cell?_of_block (w := W) (hg.block b hb (fun e => hne (by cases e; rfl)))).trans (hc k hlt)
      have hr := foldI_range h hh (ws.take k)
      have hx := hw.getD k
      have HS := Lib.hid (foldI_snoc h ws k (by rw [← hlen.out]; exact hlt))
      gi_wp2_with (gi_at_call 12; refine (step_in F (n - 1) hF _ _ hr hx _).mono ?_; rintro e w' ⟨rfl, rfl⟩)
      go_roundw
      case rel => exact ⟨k + 1, by omega, by simp, by rw [HS.out]; exact hBx.set _, hg.trans (grownBy_setCell' _ _ _)⟩
      case measure => simp [intOf]; omega
    · obtain rfl : k = len := by omega
      gi_wp2
      go_end0
      exact ⟨⟨_, rfl⟩, by rw [hlen.out, List.take_length] at hBx; exact hBx, hg⟩

end Go.Proofs.Ytjlihkllgajkkaa
