/-
  The reference's digest of bytes is the same function.
-/
import Derived.Test.YtkfmgiacdlkmiaaCtMath
namespace Go.Proofs.Ytkfmgiacdlkmiaa.Dg
open Go.RowKit Go.Shelf
attribute [local go_sem] Oper.semAt_some

theorem groups_snoc (h : Int) (bs : List Int) (k : Nat) (hk : k < (bs.length + 7) / 8) : ((groupsOf bs).take (k + 1)).foldl stepI h = stepI (((groupsOf bs).take k).foldl stepI h) (wordOf (group bs k)) := by
  have hl : (groupsOf bs).length = (bs.length + 7) / 8 := by simp [groupsOf]
  rw [foldI_snoc h (groupsOf bs) k (by omega), groupsOf_at bs k hk]
  rfl

set_option maxRecDepth 100000 in
set_option maxHeartbeats 2000000 in
theorem rbytes_some_in (F : Fence) (n : Nat) (hF : Lets F) (hn : 2 ≤ n) (b off len cap : Nat) (bs : List Int) (hlen : Hid (len = bs.length)) (hmax : len ≤ 140737488351232) (hw : Octets bs) (W : World)
    (hc : ∀ j, j < len → W.cell? ⟨b, off + j, none⟩ = some (.int .u8 (bs[j]?.getD 0))) :
    CallsIn F n Try.prog 48 #[.slice (some ⟨b, off, none⟩) len cap] W fun e W' => e = .returned (.int .u64 (bytesD bs)) ∧ W = W' := by
  have hro := hF.round
  have h1 : 1 ≤ n := by omega
  have hf := hF.fn 66
  have HC : Hid (∀ j, j < len → W.cell? ⟨b, off + j, none⟩ = some (.int .u8 (bs[j]?.getD 0))) := hc
  have HGW := Lib.hid (groupsOf_words hw)
  have hgL : Hid ((groupsOf bs).length = (bs.length + 7) / 8) := by show _ = _; simp [groupsOf]
  clear hc
  refine callsIn_of_wp Try.func48 rfl (hF.fn _) ?_ hF.round
  simp only [Try.ntmps48, List.size_toArray, List.length_cons, List.length_nil, Nat.reduceAdd, Nat.reduceSub, Array.replicate_succ, Array.replicate_zero, List.push_toArray, List.append_toArray, List.nil_append, List.cons_append]
  gi_wp2
  gi_loop [3, 4] (fun v i => ∃ k m : Nat, k ≤ (len + 7) / 8 ∧ Hid (m = 8 * k) ∧ i = .int .i64 m ∧ v = .int .u64 (((groupsOf bs).take k).foldl stepI 422944466291))
    (fun _ i => len + 8 - (intOf i).toNat)
  case atStart => exact ⟨0, 0, Nat.zero_le _, rfl, rfl, rfl⟩
  case round =>
    obtain ⟨k, m, hk, hm, rfl, rfl⟩ := hrel
    have hfo := foldI_range 422944466291 (by omega) ((groupsOf bs).take k)
    by_cases hlt : m < len
    · have hkG : k < (len + 7) / 8 := by have := hm.out; omega
      obtain ⟨g, hg⟩ : ∃ g, g = groupLen len k := ⟨_, rfl⟩
      have hg8 : g ≤ 8 := by rw [hg]; unfold groupLen; split <;> omega
      have hg0 : 0 < g := by have := hm.out; rw [hg]; unfold groupLen; split <;> omega
      have hgl : m + g ≤ len := by have := hm.out; rw [hg]; unfold groupLen; split <;> omega
      have hge : g < 8 → m + g = len := by intro hlt8; have := hm.out; rw [hg] at hlt8 ⊢; unfold groupLen at hlt8 ⊢; split at hlt8 <;> (try omega); rw [if_neg (by omega)]; omega
      have HGE := Lib.hid hge
      have hgL2 : Hid ((group bs k).length = g) := by show _ = _; rw [group_length, hg, hlen.out]
      have HGO := Lib.hid (group_octets hw k)
      have HGC : Hid (∀ j, j < g → W.cell? ⟨b, off + (m + j), none⟩ = some (.int .u8 ((group bs k)[j]?.getD 0))) := by
        intro j hj
        have h8 := hm.out
        rw [group_getD bs k j (by rw [← hlen.out, ← hg]; exact hj), ← h8]
        exact HC.out (m + j) (by omega)
      have HWR := Lib.hid (wordOf_range _ (group_octets hw k))
      have HST := Lib.hid (groups_snoc 422944466291 bs k (by rw [← hlen.out]; exact hkG))
      clear hg hge
      gi_wp2
      gi_loop [5, 6] (fun v i => ∃ j : Nat, j ≤ g ∧ i = .int .i64 j ∧ v = .int .u64 (wordOf ((group bs k).take j)))
        (fun _ i => 8 - (intOf i).toNat)
      case atStart => exact ⟨0, Nat.zero_le _, rfl, by simp [wordOf]⟩
      case round =>
        obtain ⟨j, hj, rfl, rfl⟩ := hrel
        by_cases hjg : j < g
        · have hj8 : j < 8 := by omega
          have hjl : m + j < len := by omega
          have hcx := HGC.out j hjg
          have hx := HGO.out.getD j
          have hx0 := hx.1
          have hx1 := hx.2
          have HW := Lib.hid (wordOf_take _ HGO.out j (by rw [hgL2.out]; exact hjg) (by omega))
          clear hx
          gi_wp2
          go_round
          case rel => exact ⟨j + 1, by omega, by go_num, by rw [HW.out]⟩
          case measure => simp [intOf]; omega
        · obtain rfl : j = g := by omega
          have HTL : Hid ((group bs k).take j = group bs k) := by show _ = _; rw [List.take_of_length_le (by rw [hgL2.out]; exact Nat.le_refl _)]
          rw [HTL.out]
          have hwr : 0 ≤ wordOf (group bs k) ∧ wordOf (group bs k) < 18446744073709551616 := HGW.out _ (List.mem_of_getElem? (groupsOf_at bs k (by rw [← hlen.out]; exact hkG)))
          by_cases h8 : j = 8
          · subst h8
            gi_wp2_with (gi_at_call 66; refine (rstep_in F (n - 1) hF _ _ hfo hwr _).mono ?_; rintro e w' ⟨rfl, rfl⟩)
            go_round
            case rel => exact ⟨k + 1, m + 8, by omega, by have := hm.out; show _ = _; omega, by go_num, by rw [HST.out]⟩
            case measure => simp [intOf]; omega
          · have hj8 : j < 8 := by omega
            have hle : len ≤ m + j := by have := HGE.out hj8; omega
            gi_wp2_with (gi_at_call 66; refine (rstep_in F (n - 1) hF _ _ hfo hwr _).mono ?_; rintro e w' ⟨rfl, rfl⟩)
            go_round
            case rel => exact ⟨k + 1, m + 8, by omega, by have := hm.out; show _ = _; omega, by go_num, by rw [HST.out]⟩
            case measure => simp [intOf]; omega
    · have hkG : k = (len + 7) / 8 := by have := hm.out; omega
      have HE : Hid (stepI (((groupsOf bs).take k).foldl stepI 422944466291) len = bytesD bs) := by
        have h2 := hgL.out
        have h3 := hlen.out
        show _ = _
        unfold bytesD
        rw [List.take_of_length_le (by omega), h3]
      clear hkG
      gi_wp2_with (gi_at_call 66; refine (rstep_in F (n - 1) hF _ _ hfo (by omega) _).mono ?_; rintro e w' ⟨rfl, rfl⟩)
      go_ret
      exact ⟨ret_int HE.out, rfl⟩

set_option maxRecDepth 100000 in
set_option maxHeartbeats 1000000 in
theorem rbytes_nil_in (F : Fence) (n : Nat) (hF : Lets F) (hn : 2 ≤ n) (a : Option Addr) (cap : Nat) (W : World) :
    CallsIn F n Try.prog 48 #[.slice a 0 cap] W fun e W' => e = .returned (.int .u64 (bytesD [])) ∧ W = W' := by
  have hro := hF.round
  have h1 : 1 ≤ n := by omega
  have hf := hF.fn 66
  refine callsIn_of_wp Try.func48 rfl (hF.fn _) ?_ hF.round
  simp only [Try.ntmps48, List.size_toArray, List.length_cons, List.length_nil, Nat.reduceAdd, Nat.reduceSub, Array.replicate_succ, Array.replicate_zero, List.push_toArray, List.append_toArray, List.nil_append, List.cons_append]
  gi_wp2
  gi_loop [3, 4] (fun v i => i = .int .i64 0 ∧ v = .int .u64 422944466291) (fun _ _ => 0)
  case atStart => exact ⟨rfl, rfl⟩
  case round =>
    obtain ⟨rfl, rfl⟩ := hrel
    gi_wp2_with (gi_at_call 66; refine (rstep_in F (n - 1) hF 422944466291 0 (by omega) (by omega) _).mono ?_; rintro e w' ⟨rfl, rfl⟩)
    go_ret
    exact ⟨ret_int rfl, rfl⟩

theorem rbytes_in (F : Fence) (n : Nat) (hF : Lets F) (hn : 2 ≤ n) (K : Nat → Prop) (sv : Value) (bs : List Int) (hmax : bs.length ≤ 140737488351232) (hw : Octets bs) (W : World) (hR : ReadsK K W .u8 sv bs) :
    CallsIn F n Try.prog 48 #[sv] W fun e W' => e = .returned (.int .u64 (bytesD bs)) ∧ W = W' := by
  rcases hR with ⟨a, cap, rfl, rfl⟩ | ⟨b, off, cap, rfl, _, _, hc⟩
  · exact rbytes_nil_in F n hF hn a cap W
  · exact rbytes_some_in F n hF hn b off bs.length cap bs rfl hmax hw W hc

end Go.Proofs.Ytkfmgiacdlkmiaa.Dg
