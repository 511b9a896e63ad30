/-
  The reference's digests of numbers, digests and bytes are the same functions.
-/
import Derived.Test.YtjlihkllgajkkaaDigBytes
namespace Go.Proofs.Ytjlihkllgajkkaa
open Go.RowKit Go.Shelf
attribute [local go_sem] Oper.semAt_some

theorem asWords_getD (zs : List Int) (k : Nat) (hk : k < zs.length) : (asWords zs)[k]?.getD 0 = IntKind.u64.wrap (zs[k]?.getD 0) := by
  unfold asWords; rw [List.getElem?_map, List.getElem?_eq_getElem hk]; rfl

set_option maxRecDepth 100000 in
set_option maxHeartbeats 1000000 in
theorem rwords_some_in (F : Fence) (n : Nat) (hF : Lets F) (hn : 2 ≤ n) (b off len cap : Nat) (zs : List Int) (hlen : Hid (len = zs.length)) (hmax : len ≤ 140737488351232) (W : World)
    (hc : ∀ j, j < len → W.cell? ⟨b, off + j, none⟩ = some (.int .i64 (zs[j]?.getD 0))) :
    CallsIn F n Try.prog 17 #[.slice (some ⟨b, off, none⟩) len cap] W fun e W' => e = .returned (.int .u64 (wordsD zs)) ∧ W = W' := by
  have hro := hF.round
  have h1 : 1 ≤ n := by omega
  have hf := hF.fn 13
  refine callsIn_of_wp Try.func17 rfl (hF.fn _) ?_ hF.round
  simp only [Try.ntmps17, List.size_toArray, List.length_cons, List.length_nil, Nat.reduceAdd, Nat.reduceSub, Array.replicate_succ, Array.replicate_zero, List.push_toArray, List.append_toArray, List.nil_append, List.cons_append]
  gi_wp2
  gi_loop [3, 4] (fun v i => ∃ k : Nat, k ≤ len ∧ i = .int .i64 k ∧ v = .int .u64 (((asWords zs).take k).foldl stepI 512970876019))
    (fun _ i => len - (intOf i).toNat)
  case atStart => exact ⟨0, Nat.zero_le _, rfl, rfl⟩
  case round =>
    obtain ⟨k, hk, rfl, rfl⟩ := hrel
    have hfo := foldI_range 512970876019 (by omega) ((asWords zs).take k)
    by_cases hlt : k < len
    · have hcx := hc k hlt
      have hxw := (asWords_words zs).getD k
      rw [asWords_getD zs k (by rw [← hlen.out]; exact hlt)] at hxw
      have HS := Lib.hid (foldI_snoc 512970876019 (asWords zs) k (by rw [asWords, List.length_map, ← hlen.out]; exact hlt))
      rw [asWords_getD zs k (by rw [← hlen.out]; exact hlt)] at HS
      clear hc
      gi_wp2_with (gi_at_call 13; refine (rstep_in F (n - 1) hF _ _ hfo hxw _).mono ?_; rintro e w' ⟨rfl, rfl⟩)
      go_round
      case rel => exact ⟨k + 1, by omega, by go_num, by rw [HS.out]⟩
      case measure => simp [intOf]; omega
    · obtain rfl : k = len := by omega
      have HE : Hid (stepI (((asWords zs).take k).foldl stepI 512970876019) k = wordsD zs) := by
        show _ = _
        unfold wordsD
        rw [hlen.out, List.take_of_length_le (by simp [asWords])]
      gi_wp2_with (gi_at_call 13; refine (rstep_in F (n - 1) hF _ _ hfo (by omega) _).mono ?_; rintro e w' ⟨rfl, rfl⟩)
      go_ret
      exact ⟨ret_int HE.out, rfl⟩

set_option maxRecDepth 100000 in
set_option maxHeartbeats 1000000 in
theorem rwords_nil_in (F : Fence) (n : Nat) (hF : Lets F) (hn : 2 ≤ n) (a : Option Addr) (cap : Nat) (W : World) :
    CallsIn F n Try.prog 17 #[.slice a 0 cap] W fun e W' => e = .returned (.int .u64 (wordsD [])) ∧ W = W' := by
  have hro := hF.round
  have h1 : 1 ≤ n := by omega
  have hf := hF.fn 13
  refine callsIn_of_wp Try.func17 rfl (hF.fn _) ?_ hF.round
  simp only [Try.ntmps17, List.size_toArray, List.length_cons, List.length_nil, Nat.reduceAdd, Nat.reduceSub, Array.replicate_succ, Array.replicate_zero, List.push_toArray, List.append_toArray, List.nil_append, List.cons_append]
  gi_wp2
  gi_loop [3, 4] (fun v i => i = .int .i64 0 ∧ v = .int .u64 512970876019) (fun _ _ => 0)
  case atStart => exact ⟨rfl, rfl⟩
  case round =>
    obtain ⟨rfl, rfl⟩ := hrel
    gi_wp2_with (gi_at_call 13; refine (rstep_in F (n - 1) hF 512970876019 0 (by omega) (by omega) _).mono ?_; rintro e w' ⟨rfl, rfl⟩)
    go_ret
    exact ⟨ret_int rfl, rfl⟩

theorem rwords_in (F : Fence) (n : Nat) (hF : Lets F) (hn : 2 ≤ n) (K : Nat → Prop) (sv : Value) (zs : List Int) (hmax : zs.length ≤ 140737488351232) (W : World) (hR : ReadsK K W .i64 sv zs) :
    CallsIn F n Try.prog 17 #[sv] W fun e W' => e = .returned (.int .u64 (wordsD zs)) ∧ W = W' := by
  rcases hR with ⟨a, cap, rfl, rfl⟩ | ⟨b, off, cap, rfl, _, _, hc⟩
  · exact rwords_nil_in F n hF hn a cap W
  · exact rwords_some_in F n hF hn b off zs.length cap zs rfl hmax W hc

set_option maxRecDepth 100000 in
set_option maxHeartbeats 1000000 in
theorem rlist_some_in (F : Fence) (n : Nat) (hF : Lets F) (hn : 2 ≤ n) (b off len cap : Nat) (zs : List Int) (hlen : Hid (len = zs.length)) (hmax : len ≤ 140737488351232) (hw : Words zs) (W : World)
    (hc : ∀ j, j < len → W.cell? ⟨b, off + j, none⟩ = some (.int .u64 (zs[j]?.getD 0))) :
    CallsIn F n Try.prog 11 #[.slice (some ⟨b, off, none⟩) len cap] W fun e W' => e = .returned (.int .u64 (listD zs)) ∧ W = W' := by
  have hro := hF.round
  have h1 : 1 ≤ n := by omega
  have hf := hF.fn 13
  refine callsIn_of_wp Try.func11 rfl (hF.fn _) ?_ hF.round
  simp only [Try.ntmps11, List.size_toArray, List.length_cons, List.length_nil, Nat.reduceAdd, Nat.reduceSub, Array.replicate_succ, Array.replicate_zero, List.push_toArray, List.append_toArray, List.nil_append, List.cons_append]
  gi_wp2
  gi_loop [3, 4] (fun v i => ∃ k : Nat, k ≤ len ∧ i = .int .i64 k ∧ v = .int .u64 ((zs.take k).foldl stepI 1818850164))
    (fun _ i => len - (intOf i).toNat)
  case atStart => exact ⟨0, Nat.zero_le _, rfl, rfl⟩
  case round =>
    obtain ⟨k, hk, rfl, rfl⟩ := hrel
    have hfo := foldI_range 1818850164 (by omega) (zs.take k)
    by_cases hlt : k < len
    · have hcx := hc k hlt
      have hxw := hw.getD k
      have HS := Lib.hid (foldI_snoc 1818850164 zs k (by rw [← hlen.out]; exact hlt))
      clear hc
      gi_wp2_with (gi_at_call 13; refine (rstep_in F (n - 1) hF _ _ hfo hxw _).mono ?_; rintro e w' ⟨rfl, rfl⟩)
      go_round
      case rel => exact ⟨k + 1, by omega, by go_num, by rw [HS.out]⟩
      case measure => simp [intOf]; omega
    · obtain rfl : k = len := by omega
      have HE : Hid (stepI ((zs.take k).foldl stepI 1818850164) k = listD zs) := by
        show _ = _
        unfold listD
        rw [hlen.out, List.take_length]
      gi_wp2_with (gi_at_call 13; refine (rstep_in F (n - 1) hF _ _ hfo (by omega) _).mono ?_; rintro e w' ⟨rfl, rfl⟩)
      go_ret
      exact ⟨ret_int HE.out, rfl⟩

set_option maxRecDepth 100000 in
set_option maxHeartbeats 1000000 in
theorem rlist_nil_in (F : Fence) (n : Nat) (hF : Lets F) (hn : 2 ≤ n) (a : Option Addr) (cap : Nat) (W : World) :
    CallsIn F n Try.prog 11 #[.slice a 0 cap] W fun e W' => e = .returned (.int .u64 (listD [])) ∧ W = W' := by
  have hro := hF.round
  have h1 : 1 ≤ n := by omega
  have hf := hF.fn 13
  refine callsIn_of_wp Try.func11 rfl (hF.fn _) ?_ hF.round
  simp only [Try.ntmps11, List.size_toArray, List.length_cons, List.length_nil, Nat.reduceAdd, Nat.reduceSub, Array.replicate_succ, Array.replicate_zero, List.push_toArray, List.append_toArray, List.nil_append, List.cons_append]
  gi_wp2
  gi_loop [3, 4] (fun v i => i = .int .i64 0 ∧ v = .int .u64 1818850164) (fun _ _ => 0)
  case atStart => exact ⟨rfl, rfl⟩
  case round =>
    obtain ⟨rfl, rfl⟩ := hrel
    gi_wp2_with (gi_at_call 13; refine (rstep_in F (n - 1) hF 1818850164 0 (by omega) (by omega) _).mono ?_; rintro e w' ⟨rfl, rfl⟩)
    go_ret
    exact ⟨ret_int rfl, rfl⟩

theorem rlist_in (F : Fence) (n : Nat) (hF : Lets F) (hn : 2 ≤ n) (K : Nat → Prop) (sv : Value) (zs : List Int) (hmax : zs.length ≤ 140737488351232) (hw : Words zs) (W : World) (hR : ReadsK K W .u64 sv zs) :
    CallsIn F n Try.prog 11 #[sv] W fun e W' => e = .returned (.int .u64 (listD zs)) ∧ W = W' := by
  rcases hR with ⟨a, cap, rfl, rfl⟩ | ⟨b, off, cap, rfl, _, _, hc⟩
  · exact rlist_nil_in F n hF hn a cap W
  · exact rlist_some_in F n hF hn b off zs.length cap zs rfl hmax hw W hc

end Go.Proofs.Ytjlihkllgajkkaa
