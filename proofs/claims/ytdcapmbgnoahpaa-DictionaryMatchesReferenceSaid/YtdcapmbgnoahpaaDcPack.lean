/-
  The packed form of a dictionary.
-/
import Derived.Test.YtdcapmbgnoahpaaDcValid
import Derived.Test.YtdcapmbgnoahpaaDcShared
import Derived.Lib.AppendStr
import Derived.Lib.IndexBytes
import Derived.OwnWalk
import Derived.Lib.AppendZeros
namespace Go.Proofs.Ytdcapmbgnoahpaa
open Go Go.RowKit Go.Shelf Go.ChangeShapes Go.WideShapes Go.ChangeAt

theorem varint_nil5 (u : Nat) (hu2 : u < 18446744073709551616) (W : World) :
    Calls Try.prog 62 #[.slice none 0 0, .int .u64 u] W fun e W' => Makes W e W' (varN u) :=
  varint_any (fun _ => True) none 0 0 [] u hu2 W Rd.empty (by decide)

theorem reads_cells5 {w : World} {k : IntKind} {b off : Nat} {zs : List Int} (hc : ∀ j, j < zs.length → w.cell? ⟨b, off + j, none⟩ = some (.int k (zs[j]?.getD 0))) : ∀ j u, (zs.map (Value.int k))[j]? = some u → w.cell? ((⟨b, off, none⟩ : Addr).add j) = some u := by
  intro j u hu
  rw [List.getElem?_map] at hu
  cases hj : zs[j]? with
  | none => rw [hj] at hu; cases hu
  | some x =>
    rw [hj] at hu
    have hlt := (List.getElem?_eq_some_iff.1 hj).1
    have := hc j hlt
    rw [hj] at this
    rw [add_plain, this]
    exact hu

/-- A row of the call's own, and a slice that came in, appended to it. -/
theorem run_append_reads5 {P : Program} (w : World) (base : Nat) (t ty e : TypeId) (i : TypeInfo) (z : Value) (bytes : Nat) (k : IntKind) (ht : P.underlying t = some (.slice e)) (hi : P.info? e = some i) (hz : i.zero = some z)
    (hsize : i.size = 1) (hby : i.bytes = bytes) (hzs : z.cells.size = 1) (g0 n cap0 : Nat) (xs : List Value) (hown : w.ownsRow base e 1 (.slice (some ⟨g0, 0, none⟩) n cap0) n xs)
    {K : Nat → Prop} (sv : Value) (zs : List Int) (len : Nat) (hlen : Hid (len = zs.length)) (hR : ReadsK K w k sv zs) (h63 : n + len ≤ maxLen) (hbytes : (n + len) * bytes ≤ 140737488355328) (hbase : base ≤ w.heap.size) :
    ∃ g cap w', (Builtin.append_ #[t, t] ty #[.slice (some ⟨g0, 0, none⟩) n cap0, sv]).run P w = .ok (.slice (some ⟨g, 0, none⟩) (n + len) cap) w' ∧
      w'.ownsRow base e 1 (.slice (some ⟨g, 0, none⟩) (n + len) cap) (n + len) (xs ++ zs.map (Value.int k)) ∧ w.grownBy w' (some g0) ∧ n + len ≤ cap ∧ base ≤ g := by
  obtain rfl : len = zs.length := hlen
  rcases hR with ⟨a, c, rfl, rfl⟩ | ⟨b, off, c, rfl, _, _, hc⟩
  · obtain ⟨g, cap, e1, hn, hb⟩ := row_form hown (by simp)
    obtain ⟨rfl, rfl⟩ : g0 = g ∧ cap0 = cap := by cases e1; exact ⟨rfl, rfl⟩
    exact ⟨g0, cap0, w, run_append_empty w t ty e i ht hi _ n cap0 hn a c, by simpa using hown, ⟨rfl, rfl, rfl, Nat.le_refl _, fun _ _ _ => rfl⟩, hn, hb⟩
  · obtain ⟨v', w', hr, h1, h2, h3⟩ := run_append_own (P := P) w base t ty e i z 1 bytes ht hi hz hsize hby hzs (by decide) _ n xs hown ⟨b, off, none⟩ zs.length c (zs.map (Value.int k)) (by simp)
      (reads_cells5 hc)
      (fun u hu => by obtain ⟨x, _, rfl⟩ := List.mem_map.1 hu; rfl) (by omega) hbytes hbase
    have hne : ¬ v' = .slice none 0 0 := fun e => by have := (h3.1 e).1; cases this
    obtain ⟨g, cap, rfl, hn, hb⟩ := row_form h1 hne
    exact ⟨g, cap, w', hr, h1, h2, hn, hb⟩

theorem cells_drop (t : List UInt8) (k : Nat) : Lib.strCells ((bsOf t).extract k (bsOf t).size) = (strI (t.drop k)).map (Value.int .u8) := by
  unfold Lib.strCells strI
  rw [Lib.extract_to_end, bs_data, List.map_map]
  rfl

set_option maxRecDepth 100000 in
set_option maxHeartbeats 2000000 in
theorem packString_any (s t : List UInt8) (hs : s.length ≤ 255) (ht : t.length ≤ 255) (W : World) :
    Calls Try.prog 63 #[.string (bsOf s), .string (bsOf t)] W fun e W' => Makes W e W' (stP s t) := by
  obtain ⟨i0, hi, hz0, hz1, hz2⟩ := info_parts Try.infoB
  have hk := (sh_le s t).1
  have hk2 := (sh_le s t).2
  have HSH := Lib.hid (shared_any s t (by omega) (by omega) W)
  have HST : Hid (stP s t = varN (shN s t) ++ (varN (t.length - shN s t) ++ strI (t.drop (shN s t)))) := rfl
  have HSZ := Lib.hid (bs_size t)
  have HCD := Lib.hid (cells_drop t)
  have HLD : Hid (∀ k, (strI (t.drop k)).length = t.length - k) := fun k => by rw [strI_len, List.length_drop]
  generalize shN s t = k at *
  have hk3 : k ≤ 255 := by omega
  generalize bsOf s = S at *
  generalize bsOf t = T at *
  have hT : T.size ≤ 255 := by rw [HSZ.out]; exact ht
  have hkT : k ≤ T.size := by rw [HSZ.out]; exact hk2
  go_enter Try.func63, Try.ntmps63
  go_wp2_with fail
  refine HSH.out.mono ?_
  rintro e w1 ⟨rfl, n1, rfl⟩
  go_wp2_with fail
  refine (varint_nil5 k (by omega) _).mono ?_
  rintro e w2 ⟨g, c, rfl, hfit, hrow, hb⟩
  obtain ⟨n, hn⟩ : ∃ n, (varN k).length = n := ⟨_, rfl⟩
  rw [hn] at hfit hrow ⊢
  have hn4 : n ≤ 2 := by rw [← hn]; exact var_two hk3
  have HR := Lib.hid (Rd.of_row hn.symm hfit (by omega) hrow)
  have HB : Hid (Below W.heap.size W w2) := (below_drewN (Below.refl _ W) n1).trans hb
  clear hrow hb hn
  go_wp2_with fail
  obtain ⟨m, hm⟩ : ∃ m, T.size - k = m := ⟨_, rfl⟩
  rw [show ((T.size : Int) - (k : Int)) = (m : Int) by omega]
  have hm3 : m ≤ 255 := by omega
  refine (varint_any _ _ n c (varN k) m (by omega) w2 HR.out (by omega)).mono ?_
  rintro e w3 ⟨g2, c2, rfl, hfit2, hrow2, hb2⟩
  obtain ⟨n2, hn2⟩ : ∃ n, (varN k ++ varN m).length = n := ⟨_, rfl⟩
  rw [hn2] at hfit2 hrow2 ⊢
  have hn24 : n2 ≤ 4 := by rw [← hn2, List.length_append]; have := var_two hk3; have := var_two hm3; omega
  have HROW := Lib.hid hrow2
  have HN2 := Lib.hid hn2
  have HB2 : Hid (Below W.heap.size W w3) := HB.out.trans (hb2.mono HB.out.size)
  have HSZ2 := Lib.hid (show (T.extract k T.size).size = m by rw [← hm]; simp [ByteArray.size_extract])
  have HSM : Hid (t.length - k = m) := by show _ = _; rw [← HSZ.out]; exact hm
  have HBW := Lib.hid hb2.size
  have HW0 := Lib.hid HB.out.size
  have HCD2 := Lib.hid (HCD.out k)
  clear hrow2 hb2 hn2 hm HCD HSZ
  have h255 : m ≤ 255 := hm3
  obtain ⟨X, hX⟩ : ∃ X, T.extract k T.size = X := ⟨_, rfl⟩
  rw [hX] at HSZ2 HCD2
  have hXs : X.size ≤ 255 := by rw [HSZ2.out]; exact hm3
  go_wp2_with (at_builtin; refine Lib.wpList_append_own_string _ rfl _ _ 22 9 rfl w2.heap.size 5 i0 Try.underlying22 Try.underlying9 hi hz0 hz1 hz2 _ n2 _ rfl HROW.out X rfl (by unfold maxLen; omega) (by omega) HBW.out ?_; intro v' w4 hown hgr hnil; obtain ⟨g3, c3, rfl, hn3, hb3⟩ := row_form hown (fun e => by have := (hnil.1 e).1; cases this))
  go_ret
  have hlen : n2 + X.size = (stP s t).length := by
    rw [HST.out, ← HN2.out, HSZ2.out, HSM.out, List.length_append, List.length_append, List.length_append, HLD.out, HSM.out]; omega
  have hcells : (varN k ++ varN m).map (Value.int .u8) ++ Lib.strCells X = (stP s t).map (Value.int .u8) := by
    rw [HST.out, HCD2.out, HSM.out, ← List.map_append, List.append_assoc]
  rw [hcells, hlen] at hown
  rw [hlen] at hn3 ⊢
  exact ⟨g3, c3, rfl, hn3, hown.mono HW0.out, HB2.out.grown hgr (Nat.le_trans HW0.out HBW.out) (fun r e => by cases e; exact Nat.le_trans HW0.out (row_base HROW.out))⟩

/-- What packing gives back. -/
def PackPost (W : World) (zs : List Int) (e : Ending) (W' : World) : Prop :=
  ∃ g n c : Nat, e = .returned (.tuple #[.slice (some ⟨g, 0, none⟩) n c, .int .i64 0]) ∧ Rd (fun b => W.heap.size ≤ b) W' .u8 (some ⟨g, 0, none⟩) n c zs ∧ Below W.heap.size W W'

theorem pack_bad {K : Nat → Prop} {a : Option Addr} {len cap : Nat} {ss : List (List UInt8)} {W : World} (hR : RdS K W a len cap ss) (hv : vlB ss = false) :
    Calls Try.prog 44 #[.slice a len cap] W fun e w' => e = .returned (.tuple #[.slice none 0 0, .int .i64 1]) ∧ W = w' := by
  have HV := Lib.hid (valid_any hR)
  rw [hv] at HV
  clear hv hR
  go_enter Try.func44, Try.ntmps44
  go_wp2_with fail
  refine HV.out.mono ?_
  rintro e w1 ⟨rfl, rfl⟩
  go_wp2
  go_ret2
  exact ⟨rfl, rfl⟩

theorem take_more (d : List (List UInt8)) (k : Nat) (hk : k < d.length) : ptP [] (d.take (k + 1)) = ptP [] (d.take k) ++ stP (([] :: d)[k]?.getD []) (d[k]?.getD []) := by
  have h1 : d.take (k + 1) = d.take k ++ [d[k]?.getD []] := by
    rw [List.take_succ_eq_append_getElem hk, List.getElem?_eq_getElem hk]; rfl
  have h2 : (d.take k).length = k := by rw [List.length_take]; omega
  rw [h1, pt_snoc, h2]
  congr 2
  cases k with
  | zero => rfl
  | succ m => rw [List.getElem?_cons_succ, List.getElem?_cons_succ, List.getElem?_take_of_lt (by omega)]

set_option maxRecDepth 100000 in
set_option maxHeartbeats 2000000 in
theorem pack_some {K : Nat → Prop} {b off len cap : Nat} {ss : List (List UInt8)} {W : World} (hR : RdS K W (some ⟨b, off, none⟩) len cap ss) (h0 : 0 < len) (hv : vlB ss = true) :
    Calls Try.prog 44 #[.slice (some ⟨b, off, none⟩) len cap] W (PackPost W (pkD ss)) := by
  obtain ⟨i0, hi, hz0, hz1, hz2⟩ := info_parts Try.infoB
  obtain ⟨hv1, hv2, _⟩ := vl_iff.1 hv
  have HV := Lib.hid (valid_any hR)
  rw [hv] at HV
  have hl := hR.hl
  have hlen : len ≤ 4096 := by omega
  have H255 : Hid (∀ k : Nat, (ss[k]?.getD []).length ≤ 255) := fun k => by
    by_cases hk : k < ss.length
    · rw [List.getElem?_eq_getElem hk]; exact hv2 _ (List.getElem_mem hk)
    · rw [List.getElem?_eq_none (by omega)]; exact Nat.zero_le _
  have H255' : Hid (∀ k : Nat, (([] :: ss)[k]?.getD []).length ≤ 255) := fun k => by
    cases k with
    | zero => exact Nat.zero_le _
    | succ m => rw [List.getElem?_cons_succ]; exact H255.out m
  have HPL : Hid (∀ k : Nat, (varN len ++ ptP [] (ss.take k)).length ≤ 1060900) := fun k => by
    have h4 : (varN len).length ≤ 2 := varN_len 1 _ (by omega)
    have h5 := pt_len (ss.take k) [] (fun s hs => hv2 s (List.mem_of_mem_take hs))
    have h6 : (ss.take k).length ≤ ss.length := by rw [List.length_take]; omega
    rw [List.length_append]
    omega
  obtain ⟨b', off', e', _, hblt, hc⟩ := hR.cells h0
  cases e'
  have HC := Lib.hid hc
  have HL := Lib.hid hl
  clear hv hR hv1 hv2 hc hl
  have e0 : bsOf [] = ⟨#[]⟩ := rfl
  go_enter Try.func44, Try.ntmps44
  rw [← e0]
  have E0 := Lib.hid e0
  clear e0
  go_wp2_with fail
  refine HV.out.mono ?_
  rintro e w1 ⟨rfl, rfl⟩
  go_wp2_with fail
  refine (varint_nil5 len (by omega) _).mono ?_
  rintro e w2 ⟨g, c, rfl, hfit, hrow, hb⟩
  obtain ⟨n, hn⟩ : ∃ n, (varN len).length = n := ⟨_, rfl⟩
  rw [hn] at hfit hrow ⊢
  have HN := Lib.hid hn
  have HROW := Lib.hid hrow
  have HB := Lib.hid hb
  clear hrow hb hn
  go_wp2
  go_loopw [4, 5, 17] (fun v s i wr => ∃ k n g c : Nat, k ≤ len ∧ i = .int .i64 k ∧ s = .string (bsOf (([] :: ss)[k]?.getD [])) ∧ v = .slice (some ⟨g, 0, none⟩) n c ∧ Hid (n = (varN len ++ ptP [] (ss.take k)).length) ∧ n ≤ c ∧
      Hid (wr.ownsRow W.heap.size 5 1 (.slice (some ⟨g, 0, none⟩) n c) n ((varN len ++ ptP [] (ss.take k)).map (Value.int .u8))) ∧ Below W.heap.size W wr) (fun _ _ i _ => len - (intOf i).toNat)
  case atStart => exact ⟨0, n, g, c, Nat.zero_le _, rfl, by first | rfl | simp [bsOf], rfl, by show n = _; rw [List.take_zero]; simp [ptP, HN.out], hfit, by rw [List.take_zero]; exact Lib.hid (by simpa [ptP] using HROW.out), HB.out⟩
  case round =>
    obtain ⟨k, n, g, c, hk, rfl, rfl, rfl, HNK, hfk, HRK, hBK⟩ := hrel
    by_cases hlt : k < len
    · have hcx := (hBK.cell (p := ⟨b, off + k, none⟩) hblt).trans (HC.out k hlt)
      have hps := packString_any _ _ (H255'.out k) (H255.out k)
      have HTM := Lib.hid (take_more ss k (by rw [← HL.out]; exact hlt))
      have HST := Lib.hid (st_len (([] :: ss)[k]?.getD []) (ss[k]?.getD []) (H255.out k))
      have HNX : Hid (([] :: ss)[k + 1]?.getD [] = ss[k]?.getD []) := by show _ = _; rw [List.getElem?_cons_succ]
      have HBK := Lib.hid hBK
      have hnb : n ≤ 1060900 := by rw [HNK.out]; exact HPL.out k
      generalize ([] :: ss)[k]?.getD [] = x at *
      generalize ss[k]?.getD [] = y at *
      have HPS := Lib.hid (hps wr)
      generalize stP x y = zs at *
      clear hps hBK
      generalize bsOf x = X at *
      obtain ⟨Y, hY⟩ : ∃ Y, bsOf y = Y := ⟨_, rfl⟩
      rw [hY] at hcx HPS
      have HY := Lib.hid hY
      clear hY
      go_wp2_with fail
      refine HPS.out.mono ?_
      rintro e w3 ⟨g3, c3, rfl, hfit3, hrow3, hb3⟩
      have HZ := HST.out
      obtain ⟨m, hm⟩ : ∃ m, zs.length = m := ⟨_, rfl⟩
      rw [hm] at hfit3 hrow3 HZ ⊢
      have hm1 := HZ.2
      obtain ⟨G, C, w4, hrun, hown, hgr, hcap, hbase⟩ := run_append_reads5 (P := Try.prog) w3 W.heap.size 22 22 5 i0 _ 1 .u8 Try.underlying22 hi hz0 hz1 hz2 (by rfl) g n c _ ((Kept.of_below hb3).row HRK.out (row_lt HRK.out))
        (.slice (some ⟨g3, 0, none⟩) m c3) zs m hm.symm (Rd.of_row hm.symm hfit3 (by omega) hrow3).reads (by unfold maxLen; omega) (by omega) (by have := HBK.out.size; have := hb3.size; omega)
      have HRUN := Lib.hid hrun
      have HOWN := Lib.hid hown
      have HM := Lib.hid hm
      have HB4 : Hid (Below W.heap.size W w4) := (HBK.out.trans (hb3.mono HBK.out.size)).grown hgr (by have := HBK.out.size; have := hb3.size; omega) (fun r e => by cases e; exact row_base HRK.out)
      clear hrun hown hrow3 hb3 hgr HZ hm
      go_wp2_with (refine Lib.wpList_append_run _ rfl _ _ _ _ rfl _ _ rfl rfl _ _ HRUN.out ?_)
      go_roundw
      case rel =>
        refine ⟨k + 1, n + m, G, C, by omega, by go_num, by rw [HNX.out, HY.out], rfl, ?_, hcap, ?_, HB4.out⟩
        · show _ = _
          rw [HTM.out, ← List.append_assoc, List.length_append, ← HNK.out, HM.out]
        · rw [HTM.out, ← List.append_assoc, List.map_append]
          exact HOWN.out
      case measure => simp [intOf]; omega
    · obtain rfl : k = len := by omega
      have HTK : Hid (ss.take k = ss) := List.take_of_length_le (by rw [← HL.out]; exact Nat.le_refl _)
      rw [HTK.out] at HNK HRK
      have HBK := Lib.hid hBK
      clear hBK
      have hnb : n ≤ 1060900 := by have := HPL.out k; rw [HTK.out, ← HNK.out] at this; exact this
      go_wp2
      go_ret2
      refine ⟨g, n, c, rfl, ?_, HBK.out⟩
      have hpk : varN k ++ ptP [] ss = pkD ss := by unfold pkD; rw [← HL.out]
      exact Rd.of_row (by rw [HNK.out, hpk]) hfk (by omega) (by rw [← hpk]; exact HRK.out)

set_option maxRecDepth 100000 in
set_option maxHeartbeats 2000000 in
theorem pack_none {K : Nat → Prop} {a : Option Addr} {cap : Nat} {W : World} (hR : RdS K W a 0 cap []) :
    Calls Try.prog 44 #[.slice a 0 cap] W (PackPost W (pkD [])) := by
  have HV := Lib.hid (valid_any hR)
  rw [show vlB [] = true by decide] at HV
  clear hR
  go_enter Try.func44, Try.ntmps44
  go_wp2_with fail
  refine HV.out.mono ?_
  rintro e w1 ⟨rfl, rfl⟩
  go_wp2_with fail
  refine (varint_nil5 0 (by omega) _).mono ?_
  rintro e w2 ⟨g, c, rfl, hfit, hrow, hb⟩
  obtain ⟨n, hn⟩ : ∃ n, (varN 0).length = n := ⟨_, rfl⟩
  rw [hn] at hfit hrow ⊢
  have hn1 : n ≤ 2 := by rw [← hn]; exact var_two (by decide)
  have HR := Lib.hid (Rd.of_row hn.symm hfit (by omega) hrow)
  have HB := Lib.hid hb
  clear hrow hb hn
  go_wp2
  go_loop [4, 17] (fun v i => v = .slice (some ⟨g, 0, none⟩) n c ∧ i = .int .i64 0) (fun _ _ => 0)
  case atStart => exact ⟨rfl, rfl⟩
  case round =>
    obtain ⟨rfl, rfl⟩ := hrel
    go_wp2
    go_ret2
    exact ⟨g, n, c, rfl, by unfold pkD; simpa [ptP] using HR.out, HB.out⟩

theorem pack_good {K : Nat → Prop} {a : Option Addr} {len cap : Nat} {ss : List (List UInt8)} {W : World} (hR : RdS K W a len cap ss) (hv : vlB ss = true) :
    Calls Try.prog 44 #[.slice a len cap] W (PackPost W (pkD ss)) := by
  by_cases h0 : 0 < len
  · obtain ⟨b, off, rfl, _⟩ := hR.cells h0
    exact pack_some hR h0 hv
  · obtain rfl : len = 0 := by omega
    obtain rfl : ss = [] := List.eq_nil_of_length_eq_zero hR.hl.symm
    exact pack_none hR

end Go.Proofs.Ytdcapmbgnoahpaa
