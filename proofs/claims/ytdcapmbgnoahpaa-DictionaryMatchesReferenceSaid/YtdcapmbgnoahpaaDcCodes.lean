/-
  The codes of strings in a dictionary.
-/
import Derived.Test.YtdcapmbgnoahpaaDcValid
import Derived.Test.YtdcapmbgnoahpaaDcPack
import Derived.Maps.OwnSet
namespace Go.Proofs.Ytdcapmbgnoahpaa
open Go Go.RowKit Go.Shelf Go.Maps Go.ChangeShapes Go.WideShapes Go.ChangeAt

theorem Try.infoI5 : (Try.prog.info? 3).map (fun i => (i.zero, i.size, i.bytes)) = some (some (.int .i64 0), 1, 8) := by kernel_rfl
theorem law5 : Keyed Try.prog 9 := string_keyed Try.underlying9
theorem zero5 (w : World) : (zeroValue 3).run Try.prog w = .ok (.int .i64 0) w := by kernel_rfl

/-- A map is made, whatever number of entries is foreseen. -/
theorem make_hint {P : Program} (t k e : TypeId) (ht : P.underlying t = some (.map k e)) (q : IntKind) (n : Int) (w : World) : (Instr.makeMap t (some (.int q n))).run P w = .ok (.map (some w.heap.size)) (w.alloc (.map #[] 0)) := by
  simp [Instr.makeMap, run_underlying ht, asInt, asIntOf, Result.andThen]

/-- The map from a dictionary's strings to their codes, when k of them are in. -/
def mpD (d : List (List UInt8)) : Nat → DataW Unit
  | 0 => .map []
  | k + 1 => (mpD d k).put (.string (d[k]?.getD [])) (.lit (.int .i64 k))

theorem mp_isMap (d : List (List UInt8)) : ∀ k, IsMap (mpD d k)
  | 0 => isMap_empty
  | k + 1 => (mp_isMap d k).put _ _
theorem mp_has (d : List (List UInt8)) (s : List UInt8) : ∀ k, k ≤ d.length → Maps.has (mpD d k) (.string s) = decide (s ∈ d.take k)
  | 0, _ => by rw [List.take_zero]; simp [mpD, Maps.has]
  | k + 1, hk => by
    rw [List.take_succ_eq_append_getElem (by omega)]
    have e : d[k]?.getD [] = d[k] := by rw [List.getElem?_eq_getElem (by omega)]; rfl
    by_cases h : s = d[k]
    · subst h
      rw [mpD, e, has_put_same (mp_isMap d k) (k := .string d[k]) trivial]
      exact (decide_eq_true (List.mem_append_right _ (List.mem_singleton.2 rfl))).symm
    · rw [mpD, e, has_put_other (by intro h2; cases h2; exact h rfl), mp_has d s k (by omega)]
      exact decide_eq_decide.2 ⟨fun h2 => List.mem_append_left _ h2, fun h2 => (List.mem_append.1 h2).resolve_right fun h3 => h (List.mem_singleton.1 h3)⟩
theorem mp_at (d : List (List UInt8)) (hd : d.Nodup) (s : List UInt8) (z : DataW Unit) : ∀ k, k ≤ d.length → s ∈ d.take k → (mpD d k).atKey (.string s) z = .lit (.int .i64 (d.idxOf s : Nat))
  | 0, _, h => by rw [List.take_zero] at h; cases h
  | k + 1, hk, h => by
    rw [List.take_succ_eq_append_getElem (by omega)] at h
    have e : d[k]?.getD [] = d[k] := by rw [List.getElem?_eq_getElem (by omega)]; rfl
    by_cases h1 : s = d[k]
    · subst h1
      rw [mpD, e, atKey_put_same (mp_isMap d k) (k := .string d[k]) trivial, List.Nodup.idxOf_getElem hd k (by omega)]
    · rw [mpD, e, atKey_put_other (by intro h2; cases h2; exact h1 rfl)]
      refine mp_at d hd s z k (by omega) ?_
      rcases List.mem_append.1 h with h | h
      · exact h
      · exact absurd (List.mem_singleton.1 h) h1

/-- k of the values are laid, the rest are zero. -/
def fillS {α : Type} (z : α) (cs : List α) (k : Nat) : List α := cs.take k ++ List.replicate (cs.length - k) z
theorem fill_zero {α : Type} (z : α) (cs : List α) : fillS z cs 0 = List.replicate cs.length z := by simp [fillS]
theorem fill_all {α : Type} (z : α) (cs : List α) : fillS z cs cs.length = cs := by simp [fillS]
theorem fill_len {α : Type} (z : α) (cs : List α) (k : Nat) (hk : k ≤ cs.length) : (fillS z cs k).length = cs.length := by simp [fillS]; omega
theorem fill_set {α : Type} (z : α) (cs : List α) (k : Nat) (hk : k < cs.length) (x : α) (hx : cs[k]? = some x) : (fillS z cs k).set k x = fillS z cs (k + 1) := by
  unfold fillS
  have e : cs.take (k + 1) = cs.take k ++ [x] := by
    rw [List.take_succ_eq_append_getElem hk]
    rw [List.getElem?_eq_getElem hk] at hx
    cases hx; rfl
  have hl : (cs.take k).length = k := by rw [List.length_take]; omega
  rw [e, List.set_append_right _ _ (by omega), hl, Nat.sub_self, List.append_assoc]
  congr 1
  rw [show cs.length - k = (cs.length - (k + 1)) + 1 by omega, List.replicate_succ]
  rfl

theorem own_made (w : World) (base : Nat) (e : TypeId) (z : Value) (n : Nat) (hn : n ≤ maxLen) (hb : base ≤ w.heap.size) :
    (w.alloc (.cells (madeCells #[z] n) e)).ownsRow base e 1 (.slice (some ⟨w.heap.size, 0, none⟩) n n) n (List.replicate n z) := by
  refine ⟨by simp, .inr ⟨w.heap.size, n, madeCells #[z] n, rfl, hb, World.alloc_heap_new w _, Nat.le_refl _, hn, by simp [size_madeCells], ?_⟩⟩
  apply List.ext_getElem?
  intro j
  unfold madeCells
  by_cases hj : j < n
  · simp [hj, Nat.mod_one]
  · simp [hj]

/-- What the codes come to. -/
def CodesPost (W : World) (d l : List (List UInt8)) (e : Ending) (W' : World) : Prop :=
  Below W.heap.size W W' ∧ (((∀ s ∈ l, s ∈ d) ∧ ∃ g n : Nat, e = .returned (.tuple #[.slice (some ⟨g, 0, none⟩) n n, .int .i64 0]) ∧ Rd (fun b => W.heap.size ≤ b) W' .i64 (some ⟨g, 0, none⟩) n n (l.map fun s => ((d.idxOf s : Nat) : Int))) ∨
    ((∃ s ∈ l, s ∉ d) ∧ e = .returned (.tuple #[.slice none 0 0, .int .i64 4])))

theorem codes_bad {K : Nat → Prop} {a : Option Addr} {len cap : Nat} {d : List (List UInt8)} {W : World} (hR : RdS K W a len cap d) (hv : vlB d = false) (l : Value) :
    Calls Try.prog 41 #[.slice a len cap, l] W fun e w' => e = .returned (.tuple #[.slice none 0 0, .int .i64 1]) ∧ W = w' := by
  have HV := Lib.hid (valid_any hR)
  rw [hv] at HV
  clear hv hR
  go_enter Try.func41, Try.ntmps41
  go_wp2_with fail
  refine HV.out.mono ?_
  rintro e w1 ⟨rfl, rfl⟩
  go_wp2
  go_ret2
  exact ⟨rfl, rfl⟩

set_option maxRecDepth 100000 in
set_option maxHeartbeats 4000000 in
theorem codes_good {K K' : Nat → Prop} {a a' : Option Addr} {len cap len' cap' : Nat} {d l : List (List UInt8)} {W : World} (hR : RdS K W a len cap d) (hR' : RdS K' W a' len' cap' l) (hv : vlB d = true) :
    Calls Try.prog 41 #[.slice a len cap, .slice a' len' cap'] W (CodesPost W d l) := by
  obtain ⟨i0, hi, hz0, hz1, hz2⟩ := info_parts Try.infoI5
  obtain ⟨hv1, hv2, hv3⟩ := vl_iff.1 hv
  have HND := Lib.hid (inc_nodup hv3)
  have HV := Lib.hid (valid_any hR)
  rw [hv] at HV
  have HL := Lib.hid hR.hl
  have HL' := Lib.hid hR'.hl
  have hlen : len ≤ 4096 := by rw [HL.out]; exact hv1
  have hfit := hR.fit
  have hfit' := hR'.fit
  have hsm' := hR'.small
  have H := Lib.hid hR
  have H' := Lib.hid hR'
  clear hv hR hR' hv1 hv2 hv3
  have hmm := make_hint (P := Try.prog) 102 _ _ Try.underlying102
  go_enter Try.func41, Try.ntmps41
  go_wp2_with fail
  refine HV.out.mono ?_
  rintro e w1 ⟨rfl, rfl⟩
  go_wp2
  go_loopw [22] (fun i wr => ∃ k : Nat, k ≤ len ∧ i = .int .i64 k ∧ Hid (wr.ownsMap Try.prog 9 (plainElem Try.prog 3) W.heap.size k (mpD d k)) ∧ Hid (Below W.heap.size W wr) ∧ W.heap.size < wr.heap.size) (fun i _ => len - (intOf i).toNat)
  case atStart => exact ⟨0, Nat.zero_le _, rfl, World.ownsMap_made _ _ _ _, (Below.refl _ _).alloc (Nat.le_refl _) _, by simp⟩
  case round =>
    obtain ⟨k, hk, rfl, HM, HB, hBl⟩ := hrel
    by_cases hlt : k < len
    · obtain ⟨b, off, rfl, _, hblt, hc⟩ := H.out.cells (by omega)
      have hcx := (HB.out.cell (p := ⟨b, off + k, none⟩) hblt).trans (hc k hlt)
      have hkey : keyOf Try.prog 9 (.string (bsOf (d[k]?.getD []))) = some (.string (d[k]?.getD [])) := by
        have := WideMaps.keyOf_string_mk (k := 9) Try.underlying9 (s := bsOf (d[k]?.getD [])) (by rw [bs_size]; exact H.out.wideAt k)
        rw [bs_data] at this
        exact this
      have HKEY := Lib.hid hkey
      have HST : Hid (mpD d (k + 1) = (mpD d k).put (.string (d[k]?.getD [])) (.lit (.int .i64 k))) := rfl
      clear hc hkey
      generalize d[k]?.getD [] = x at *
      generalize bsOf x = X at *
      go_wp2_with (at_mapUpdate; refine wpList_mapUpdate_own _ rfl _ _ _ 102 rfl 9 3 law5 Try.underlying102 _ W.heap.size k _ rfl HM.out (by unfold maxLen; omega) _ _ _ rfl rfl HKEY.out _ [] (plainElem_int Try.underlying3 (WalkArith.wf_i64 (by omega))) ?_; intro w1 hown1 hgrow1; have HO1 := Lib.hid hown1; have HB1 : Hid (Below W.heap.size W w1) := HB.out.grown hgrow1 HB.out.size (fun j hj => by cases hj; exact Nat.le_refl _); have hs1 := hgrow1.size; clear hown1 hgrow1)
      go_roundw
      case rel => exact ⟨k + 1, by omega, by go_num, by rw [HST.out]; exact HO1, HB1, by omega⟩
      case measure => simp [intOf]; omega
    · obtain rfl : k = len := by omega
      have hmk : (Instr.makeSlice 24 (.int .i64 len') (.int .i64 len')).run Try.prog wr = .ok (.slice (some ⟨wr.heap.size, 0, none⟩) len' len') (wr.alloc (.cells (madeCells #[.int .i64 0] len') 3)) := by
        have := run_make (P := Try.prog) wr 24 3 i0 _ Try.underlying24 hi hz0 .i64 .i64 len' len' (by omega) (by omega) (by rw [hz2]; omega) (by omega)
        rw [hz1, Nat.mul_one, Int.toNat_natCast] at this
        exact this
      have HOM := Lib.hid (own_made wr (W.heap.size + 1) 3 (.int .i64 0) len' (by unfold maxLen; omega) (by omega))
      have HM2 : Hid ((wr.alloc (.cells (madeCells #[.int .i64 0] len') 3)).ownsMap Try.prog 9 (plainElem Try.prog 3) W.heap.size k (mpD d k)) := HM.out.alloc _
      have HB2 : Hid (Below W.heap.size W (wr.alloc (.cells (madeCells #[.int .i64 0] len') 3))) := HB.out.alloc HB.out.size _
      have hB2l : W.heap.size < (wr.alloc (.cells (madeCells #[.int .i64 0] len') 3)).heap.size := by simp; omega
      have hgl : W.heap.size < wr.heap.size := hBl
      clear hi hz0 hz1 hz2 HM HB hBl
      go_wp2
      clear hmk hmm
      generalize wr.alloc (.cells (madeCells #[.int .i64 0] len') 3) = V at *
      generalize wr.heap.size = g at *
      have HCS : Hid ((l.map fun s => ((d.idxOf s : Nat) : Int)).length = len') := by show _ = _; rw [List.length_map]; exact HL'.out.symm
      go_loopw [36] (fun i w2 => ∃ m : Nat, m ≤ len' ∧ i = .int .i64 m ∧ Hid (w2.ownsMap Try.prog 9 (plainElem Try.prog 3) W.heap.size k (mpD d k)) ∧
        Hid (w2.ownsRow (W.heap.size + 1) 3 1 (.slice (some ⟨g, 0, none⟩) len' len') len' ((fillS 0 (l.map fun s => ((d.idxOf s : Nat) : Int)) m).map (Value.int .i64))) ∧ Hid (Below W.heap.size W w2) ∧ Hid (∀ j, j < m → l[j]?.getD [] ∈ d)) (fun i _ => len' - (intOf i).toNat)
      case atStart => exact ⟨0, Nat.zero_le _, rfl, HM2, by rw [fill_zero, HCS.out, List.map_replicate]; exact HOM, HB2, fun j hj => by omega⟩
      case round =>
        obtain ⟨m, hm, rfl, HMm, HRm, HBm, HAm⟩ := hrel
        by_cases hlt2 : m < len'
        · obtain ⟨b, off, rfl, _, hblt, hc⟩ := H'.out.cells (by omega)
          have hcx := (HBm.out.cell (p := ⟨b, off + m, none⟩) hblt).trans (hc m hlt2)
          have hkey : keyOf Try.prog 9 (.string (bsOf (l[m]?.getD []))) = some (.string (l[m]?.getD [])) := by
            have := WideMaps.keyOf_string_mk (k := 9) Try.underlying9 (s := bsOf (l[m]?.getD [])) (by rw [bs_size]; exact H'.out.wideAt m)
            rw [bs_data] at this
            exact this
          have HKEY := Lib.hid hkey
          have hmem : l[m]?.getD [] ∈ l := by rw [List.getElem?_eq_getElem (by rw [← HL'.out]; exact hlt2)]; exact List.getElem_mem _
          have HMEM := Lib.hid hmem
          have hhas := mp_has d (l[m]?.getD []) k (by rw [← HL.out]; exact Nat.le_refl _)
          rw [List.take_of_length_le (by rw [← HL.out]; exact Nat.le_refl _)] at hhas
          have HCSM : Hid ((l.map fun s => ((d.idxOf s : Nat) : Int))[m]? = some ((d.idxOf (l[m]?.getD []) : Nat) : Int)) := by
            show _ = _
            rw [List.getElem?_map, List.getElem?_eq_getElem (by rw [← HL'.out]; exact hlt2)]; rfl
          have HAT0 : Hid (l[m]?.getD [] ∈ d → (mpD d k).atKey (.string (l[m]?.getD [])) (.lit (.int .i64 0)) = .lit (.int .i64 (d.idxOf (l[m]?.getD []) : Nat))) := fun hd =>
            mp_at d HND.out _ _ k (by rw [← HL.out]; exact Nat.le_refl _) (by rw [List.take_of_length_le (by rw [← HL.out]; exact Nat.le_refl _)]; exact hd)
          have HFS : Hid (∀ x, (l.map fun s => ((d.idxOf s : Nat) : Int))[m]? = some x → (fillS 0 (l.map fun s => ((d.idxOf s : Nat) : Int)) m).set m x = fillS 0 (l.map fun s => ((d.idxOf s : Nat) : Int)) (m + 1)) := fun x hx => fill_set 0 _ m (by rw [HCS.out]; exact hlt2) x hx
          have HFL : Hid ((fillS 0 (l.map fun s => ((d.idxOf s : Nat) : Int)) m).length = len') := by show _ = _; rw [fill_len _ _ _ (by rw [HCS.out]; exact hm), HCS.out]
          have HAM2 : Hid (l[m]?.getD [] ∈ d → ∀ j, j < m + 1 → l[j]?.getD [] ∈ d) := fun hd j hj => by
            by_cases e : j = m
            · rw [e]; exact hd
            · exact HAm.out j (by omega)
          have HNO : Hid (l[m]?.getD [] ∉ d → ∃ s ∈ l, s ∉ d) := fun hd => ⟨_, HMEM.out, hd⟩
          have hold := row_cell HRm.out (j := m) (by rw [HFL.out]; exact hlt2)
          have hfz := row_unfrozen (j := m) HRm.out
          clear hc hkey hmem
          generalize l[m]?.getD [] = y at *
          generalize bsOf y = Y at *
          generalize (fillS 0 (l.map fun s => ((d.idxOf s : Nat) : Int)) m)[m]?.getD 0 = old at *
          by_cases hyd : y ∈ d
          · rw [decide_eq_true hyd] at hhas
            have HYD := Lib.hid hyd
            clear hyd
            go_wp2_with (at_lookup; refine wpList_lookup_own_ok_int _ rfl _ _ 102 rfl 9 3 .i64 law5 Try.underlying102 Try.underlying3 (zero5 _) W.heap.size k _ rfl HMm.out _ _ rfl HKEY.out ?_; intro cd hat hwc; have HAT := Lib.hid hat; clear hat hwc)
            have HCD : Hid (cd = ((d.idxOf y : Nat) : Int)) := by
              have h1 := HAT.out
              rw [HAT0.out HYD.out] at h1
              injection h1 with h1
              injection h1 with _ h1
              exact h1.symm
            go_roundw
            case rel =>
              refine ⟨m + 1, by omega, by go_num, HMm.out.setCell (a := ⟨g, m, none⟩) (by show W.heap.size ≠ g; omega) _, ?_, HBm.out.setCell (Nat.le_of_lt hgl) _, HAM2.out HYD.out⟩
              have h2 := row_store (j := m) HRm.out (.int .i64 cd)
              rw [← List.map_set, HFS.out cd (by rw [HCSM.out, HCD.out])] at h2
              exact h2
            case measure => simp [intOf]; omega
          · rw [decide_eq_false hyd] at hhas
            have HYD := Lib.hid hyd
            clear hyd
            go_wp2_with (at_lookup; refine wpList_lookup_own_ok_int _ rfl _ _ 102 rfl 9 3 .i64 law5 Try.underlying102 Try.underlying3 (zero5 _) W.heap.size k _ rfl HMm.out _ _ rfl HKEY.out ?_; intro cd hat hwc; have HAT := Lib.hid hat; clear hat hwc)
            go_ret2
            exact ⟨HBm.out, .inr ⟨HNO.out HYD.out, rfl⟩⟩
        · obtain rfl : m = len' := by omega
          go_wp2
          go_ret2
          refine ⟨HBm.out, .inl ⟨fun s hs => ?_, g, m, rfl, ?_⟩⟩
          · obtain ⟨j, hj, e⟩ := List.getElem_of_mem hs
            have := HAm.out j (by rw [HL'.out]; exact hj)
            rw [List.getElem?_eq_getElem hj] at this
            rw [← e]; exact this
          · have := HRm.out
            rw [← HCS.out, fill_all, HCS.out] at this
            exact (Rd.of_row HCS.out.symm (Nat.le_refl _) (by omega) this).mono fun b _ h => by omega

end Go.Proofs.Ytdcapmbgnoahpaa
