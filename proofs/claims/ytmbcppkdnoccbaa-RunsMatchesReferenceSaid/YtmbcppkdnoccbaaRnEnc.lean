/-
  The encoding of a list.
-/
import Derived.Test.YtmbcppkdnoccbaaRnKind
namespace Go.Proofs.Ytmbcppkdnoccbaa
open Go.RowKit Go.Shelf Go.ChangeShapes Go.WideShapes Go.ChangeAt

theorem Tail.below {base : Nat} {e : TypeId} {k : IntKind} {A B : World} {v : Value} {zs : List Int} (h : Tail base e k A v zs) (hb : Below A.heap.size A B) : Tail base e k B v zs := by
  rcases h with h | ⟨b, off, rfl, hlt, hc⟩ | ⟨g, cap, rfl, hrow⟩
  · exact .inl h
  · exact .inr (.inl ⟨b, off, rfl, Nat.lt_of_lt_of_le hlt hb.size, fun j hj => (hb.cell (p := ⟨b, off + j, none⟩) hlt).trans (hc j hj)⟩)
  · exact .inr (.inr ⟨g, cap, rfl, (Kept.of_below hb).row hrow (row_lt hrow)⟩)

theorem reads_cells {w : World} {k : IntKind} {b off : Nat} {zs : List Int} (hc : ∀ j, j < zs.length → w.cell? ⟨b, off + j, none⟩ = some (.int k (zs[j]?.getD 0))) : ∀ j u, (zs.map (Value.int k))[j]? = some u → w.cell? ((⟨b, off, none⟩ : Addr).add j) = some u := by
  intro j u hu
  rw [List.getElem?_map] at hu
  cases hj : zs[j]? with
  | none => rw [hj] at hu; cases hu
  | some x =>
    rw [hj] at hu
    have hlt := (List.getElem?_eq_some_iff.1 hj).1
    have := hc j hlt
    rw [hj] at this
    rw [add_plain, this]
    exact hu

/-- A slice that is full or a row of the call's own, and a slice that came in, appended to it. -/
theorem tail_append_reads {P : Program} (w : World) (base : Nat) (t ty e : TypeId) (i : TypeInfo) (z : Value) (bytes : Nat) (k : IntKind) (ht : P.underlying t = some (.slice e)) (hi : P.info? e = some i) (hz : i.zero = some z)
    (hsize : i.size = 1) (hby : i.bytes = bytes) (hzs : z.cells.size = 1) (g0 n cap0 : Nat) (ys : List Int) (hne : ys ≠ []) (hT : Tail base e k w (.slice (some ⟨g0, 0, none⟩) n cap0) ys)
    {K : Nat → Prop} (sv : Value) (zs : List Int) (len : Nat) (hlen : Hid (len = zs.length)) (h1 : 1 ≤ len) (hR : ReadsK K w k sv zs) (h63 : n + len ≤ maxLen) (hbytes : (n + len) * bytes ≤ 140737488355328) (hbase : base ≤ w.heap.size) :
    ∃ g cap w', (Builtin.append_ #[t, t] ty #[.slice (some ⟨g0, 0, none⟩) n cap0, sv]).run P w = .ok (.slice (some ⟨g, 0, none⟩) (n + len) cap) w' ∧
      w'.ownsRow base e 1 (.slice (some ⟨g, 0, none⟩) (n + len) cap) (n + len) (ys.map (Value.int k) ++ zs.map (Value.int k)) ∧ Below base w w' ∧ n + len ≤ cap := by
  obtain rfl : len = zs.length := hlen
  rcases hR with ⟨a, c, rfl, rfl⟩ | ⟨b, off, c, rfl, _, _, hc⟩
  · simp at h1
  · have hcs := reads_cells hc
    have hone : ∀ u ∈ zs.map (Value.int k), u.oneCell' = true := fun u hu => by obtain ⟨x, _, rfl⟩ := List.mem_map.1 hu; rfl
    rcases hT with ⟨a, e1, e2⟩ | ⟨b2, off2, e1, hlt, hc2⟩ | ⟨g2, cap2, e1, hrow⟩
    · exact absurd e2 hne
    · obtain ⟨rfl, rfl⟩ : n = ys.length ∧ cap0 = ys.length := by cases e1; exact ⟨rfl, rfl⟩
      obtain ⟨rfl, rfl⟩ : g0 = b2 ∧ 0 = off2 := by cases e1; exact ⟨rfl, rfl⟩
      obtain ⟨v', w', hr, h2, h3⟩ := run_append_arg_grows (P := P) w t ty e i z 1 bytes ht hi hz hsize hby hzs (by decide) ⟨g0, 0, none⟩ ys.length ys.length (ys.map (Value.int k)) (by simp) (reads_cells hc2) ⟨b, off, none⟩ zs.length c (zs.map (Value.int k)) (by simp) hcs
        (by omega) h63 hbytes
      have hnv : ¬ v' = .slice none 0 0 := fun e => by
        subst e
        obtain ⟨q1, q2 | ⟨g', cap', cur, e1, _⟩⟩ := h2
        · have := q2.2; omega
        · cases e1
      obtain ⟨g, cap, rfl, hn, hb⟩ := row_form h2 hnv
      exact ⟨g, cap, w', hr, h2.mono hbase, ((Below.refl _ w).mono hbase).grown h3 hbase (fun r e => by cases e), hn⟩
    · obtain ⟨rfl, rfl, rfl⟩ : n = ys.length ∧ cap0 = cap2 ∧ g0 = g2 := by cases e1; exact ⟨rfl, rfl, rfl⟩
      obtain ⟨v', w', hr, h2, h3, h4⟩ := run_append_own (P := P) w base t ty e i z 1 bytes ht hi hz hsize hby hzs (by decide) _ ys.length _ hrow ⟨b, off, none⟩ zs.length c (zs.map (Value.int k)) (by simp) hcs hone h63 hbytes hbase
      have hnv : ¬ v' = .slice none 0 0 := fun e => by have := (h4.1 e).1; cases this
      obtain ⟨g, cap, rfl, hn, hb⟩ := row_form h2 hnv
      exact ⟨g, cap, w', hr, h2, ((Below.refl _ w).mono hbase).grown h3 hbase (fun r e => by cases e; exact row_base hrow), hn⟩

/-- Behind j parts: the bytes so far. -/
structure EncAt (w4 wr : World) (j g n c : Nat) (bs : List Int) : Prop where
  tail : Tail w4.heap.size 5 .u8 wr (.slice (some ⟨g, 0, none⟩) n c) bs
  row : 0 < j → wr.ownsRow w4.heap.size 5 1 (.slice (some ⟨g, 0, none⟩) n c) n (bs.map (Value.int .u8)) ∧ n ≤ c

/-- The form k of a list; its encoding. -/
def formS (k : Nat) (zs : List Int) : List Int := (partsS k zs).flatMap packS
def enS (zs : List Int) : List Int := (kindS zs : Int) :: formS (kindS zs) zs

theorem parts_len {zs : List Int} (hl : zs.length ≤ 4096) (k : Nat) : ∀ ps ∈ partsS k zs, ps.length ≤ 4096 := by
  have h1 := rl_len zs
  have h2 := rl_len (dfS zs)
  have h3 := df_length zs
  intro ps hps
  unfold partsS at hps
  split at hps
  · rcases List.mem_singleton.1 hps with rfl; exact hl
  · rcases List.mem_cons.1 hps with rfl | hps
    · rw [vals_length]; omega
    · rcases List.mem_singleton.1 hps with rfl; rw [lens_length]; omega
  · rcases List.mem_singleton.1 hps with rfl; omega
  · rcases List.mem_cons.1 hps with rfl | hps
    · rw [vals_length]; omega
    · rcases List.mem_singleton.1 hps with rfl; rw [lens_length]; omega
theorem parts_two (k : Nat) (zs : List Int) : (partsS k zs).length ≤ 2 := by unfold partsS; split <;> simp
theorem packs_take (pss : List (List Int)) (k : Nat) (ps : List Int) (h : pss[k]? = some ps) : (pss.take (k + 1)).flatMap packS = (pss.take k).flatMap packS ++ packS ps := by
  rw [List.take_add_one, h, List.flatMap_append]; simp

theorem field_0 (x y : Value) (W : World) : (Instr.field 84 (.agg #[x, y]) 0).run Try.prog W = .ok x W := by kernel_rfl
theorem field_1 (x y : Value) (W : World) : (Instr.field 84 (.agg #[x, y]) 1).run Try.prog W = .ok y W := by kernel_rfl

/-- What encoding gives back, with no error. -/
def EncE (w : World) (zs : List Int) (e : Ending) (w' : World) : Prop :=
  ∃ g n c : Nat, e = .returned (.tuple #[.slice (some ⟨g, 0, none⟩) n c, .int .i64 0]) ∧ Rd (fun b => w.heap.size ≤ b) w' .u8 (some ⟨g, 0, none⟩) n c zs ∧ Below w.heap.size w w'

set_option maxRecDepth 100000 in
set_option maxHeartbeats 4000000 in
theorem encode_k (hfo : ∀ w, Calls Try.prog 52 #[] w (FormsPost w)) {K : Nat → Prop} {a : Option Addr} {len cap : Nat} {zs : List Int} (hz : Smalls zs) (hl : len ≤ 4096) {W : World} (hR : Rd K W .i64 a len cap zs) (k : Nat) (hk : k = 0 ∨ k = 1 ∨ k = 2 ∨ k = 3) (hkd : kindS zs = k) :
    Calls Try.prog 47 #[.slice a len cap] W (EncE W (enS zs)) := by
  obtain ⟨i0, hi, hz0, hz1, hz2⟩ := info_parts Try.infoB
  have HFO := Lib.hid hfo
  have HR := Lib.hid hR
  have HKD : Hid (∀ V : World, Rd K V .i64 a len cap zs → Calls Try.prog 23 #[.slice a len cap] V fun e W' => e = .returned (.int .i64 k) ∧ Below V.heap.size V W') := fun V h => by
    have := kind_of hfo hz (by omega) h
    rwa [hkd] at this
  have HEN : Hid (enS zs = (k : Int) :: (partsS k zs).flatMap packS) := by show _ = _; unfold enS formS; rw [hkd]
  have HPF := Lib.hid (parts_fair hz (by rw [← hR.hl]; omega) k)
  have HPL := Lib.hid (parts_len (zs := zs) (by rw [← hR.hl]; exact hl) k)
  have HP2 := Lib.hid (parts_two k zs)
  clear hR hfo hkd
  have hfl := field_0
  go_enter Try.func47, Try.ntmps47
  rcases hk with rfl | rfl | rfl | rfl
  · have hix := form_ix0
    go_wp2_with fail
    refine (HKD.out _ HR.out).mono ?_
    rintro e w1 ⟨rfl, hb1⟩
    have HB1 := Lib.hid hb1
    clear hb1
    go_wp2_with fail
    have hrow0 := World.ownsRow_lit (base := W.heap.size) (e := 5) (size := 1) w1 #[.int .u8 0] 1 HB1.out.size (by decide) rfl
    have HB2 : Hid (Below W.heap.size W (w1.alloc (.cells #[.int .u8 0] 5))) := HB1.out.alloc HB1.out.size _
    refine (HFO.out _).mono ?_
    rintro e w3 ⟨p, q, rfl, hp, hq, hb3⟩
    have HB3 : Hid (Below W.heap.size W w3) := HB2.out.trans (hb3.mono HB2.out.size)
    have HROW3 := Lib.hid ((Kept.of_below hb3).row hrow0 (row_lt hrow0))
    have HP := Lib.hid hp
    have HQ := Lib.hid hq
    clear hb3 hp hq hrow0 HB2
    simp only [formsV]
    go_wp2_with fail
    refine (whole_any (HR.out.below HB3.out)).mono ?_
    rintro e w4 ⟨g4, m, rfl, hm, hpa, hb4⟩
    have HB4 : Hid (Below W.heap.size W w4) := HB3.out.trans (hb4.mono HB3.out.size)
    have HROW4 := (Kept.of_below hb4).row HROW3.out (row_lt HROW3.out)
    have HT4 : Hid (Tail w4.heap.size 5 .u8 w4 (.slice (some ⟨w1.heap.size, 0, none⟩) 1 1) (0 :: [])) := .inr (.inl ⟨_, 0, rfl, row_lt HROW4, fun j hj => row_cells (zs := [0]) HROW4 j hj⟩)
    have HPA := Lib.hid hpa
    have HM : Hid (m = (partsS 0 zs).length) := hm
    have hm2 : m ≤ 2 := by have := HP2.out; have := HM.out; omega
    have hm1 : 1 ≤ m := by have := HM.out; simp [partsS] at this; omega
    have hglt := hpa.lt
    clear hb4 hpa hm HP HQ HROW3 HROW4 hix
    go_wp2
    go_loopw [5, 7, 8, 9, 25] (fun s _ _ _ i wr => ∃ j n g c : Nat, j ≤ m ∧ i = .int .i64 j ∧ s = .slice (some ⟨g, 0, none⟩) n c ∧ n ≤ 1 + j * 32789 ∧ Hid (EncAt w4 wr j g n c (((0 : Int) :: ((partsS 0 zs).take j).flatMap packS))) ∧ Hid (Below w4.heap.size w4 wr)) (fun _ _ _ _ i _ => m - (intOf i).toNat)
    case atStart => exact ⟨0, 1, _, 1, Nat.zero_le _, rfl, rfl, by decide, ⟨HT4.out, fun h => absurd h (by decide)⟩, Below.refl _ _⟩
    case round =>
      obtain ⟨j, n, g, c, hj, rfl, rfl, hn, HROW, HBW⟩ := hrel
      by_cases hlt : j < m
      · obtain ⟨ps, hps⟩ : ∃ ps, (partsS 0 zs)[j]? = some ps := ⟨_, List.getElem?_eq_getElem (by rw [← HM.out]; exact hlt)⟩
        obtain ⟨a5, n5, c5, hcell, hr5⟩ := (HPA.out.below HBW.out).part j ps hps
        obtain ⟨hsz, _⟩ := HPF.out ps (List.mem_of_getElem? hps)
        have hln := HPL.out ps (List.mem_of_getElem? hps)
        have HPK := Lib.hid (pack_any hsz (by rw [hr5.hl]; exact hln) hr5)
        have hpl := pack_len ps hsz hln
        have hz1' : 1 ≤ (packS ps).length := by unfold packS; rw [List.length_append]; have := head_pos ps; omega
        have HTK := Lib.hid (packs_take _ j ps hps)
        have hbw := HBW.out.size
        have hbs := HB4.out.size
        obtain ⟨z, hzz⟩ : ∃ z, (packS ps).length = z := ⟨_, rfl⟩
        rw [hzz] at hpl hz1'
        have HZ := Lib.hid hzz
        clear hps hr5 hsz hln hzz
        rw [Nat.zero_add] at hcell
        have hjm : n ≤ 65579 := Nat.le_trans hn (Nat.le_trans (Nat.add_le_add_left (Nat.mul_le_mul_right 32789 (Nat.le_trans hj hm2)) 1) (by decide))
        have hn2 : n + z ≤ 1 + (j + 1) * 32789 := by rw [Nat.succ_mul, ← Nat.add_assoc]; exact Nat.add_le_add hn hpl
        clear hn
        go_wp2_with fail
        refine HPK.out.mono ?_
        rintro e w6 ⟨g6, c6, rfl, hf6, hr6, hb6⟩
        rw [HZ.out] at hf6 hr6 ⊢
        have HBW6 : Hid (Below w4.heap.size w4 w6) := HBW.out.trans (hb6.mono HBW.out.size)
        have hR6 : Rd (fun b => wr.heap.size ≤ b) w6 .u8 (some ⟨g6, 0, none⟩) z c6 (packS ps) := Rd.of_row HZ.out.symm hf6 (by omega) hr6
        obtain ⟨g7, c7, w7, hr7, hrow7, hb7, hc7⟩ := tail_append_reads (P := Try.prog) w6 w4.heap.size 25 25 5 i0 _ 1 .u8 Try.underlying25 hi hz0 hz1 hz2 rfl g n c _ (by simp) (HROW.out.1.below hb6) (.slice (some ⟨g6, 0, none⟩) z c6) (packS ps) z HZ.out.symm hz1' hR6.reads (by unfold maxLen; omega) (by omega) HBW6.out.size
        have HROW7 : Hid (EncAt w4 w7 (j + 1) g7 (n + z) c7 (((0 : Int) :: ((partsS 0 zs).take (j + 1)).flatMap packS))) := by
          rw [← List.map_append, List.cons_append, ← HTK.out] at hrow7
          refine ⟨Tail.row ?_ hrow7, fun _ => ⟨hrow7, hc7⟩⟩
          have := hrow7.1
          simpa using this.symm
        have HB7 : Hid (Below w4.heap.size w4 w7) := HBW6.out.trans hb7
        have HR7 := Lib.hid hr7
        clear hf6 hr6 hb6 hR6 hr7 hrow7 hb7 hc7
        go_wp2_with (at_builtin; refine wpList_append_want (o := ⟨some 39, _, _, _, _, _⟩) _ rfl _ _ _ _ rfl _ _ rfl rfl _ _ HR7.out ?_)
        go_roundw
        case rel => exact ⟨j + 1, n + z, g7, c7, by omega, by go_num, rfl, hn2, HROW7, HB7⟩
        case measure => simp [intOf]; omega
      · obtain rfl : j = m := by omega
        have hn3 : n ≤ 65579 := Nat.le_trans hn (Nat.le_trans (Nat.add_le_add_left (Nat.mul_le_mul_right 32789 hm2) 1) (by decide))
        clear hn
        go_wp2
        go_ret2
        obtain ⟨hrow, hc⟩ := HROW.out.2 (by omega)
        rw [List.take_of_length_le (Nat.le_of_eq HM.out.symm)] at hrow
        have hrl : n = ((0 : Int) :: (partsS 0 zs).flatMap packS).length := by have := hrow.1; simpa using this.symm
        refine ⟨g, n, c, rfl, ?_, HB4.out.trans (HBW.out.mono HB4.out.size)⟩
        rw [HEN.out]
        exact (Rd.of_row hrl hc (by omega) hrow).mono fun b _ h => Nat.le_trans HB4.out.size h
  · have hix := form_ix1
    go_wp2_with fail
    refine (HKD.out _ HR.out).mono ?_
    rintro e w1 ⟨rfl, hb1⟩
    have HB1 := Lib.hid hb1
    clear hb1
    go_wp2_with fail
    have hrow0 := World.ownsRow_lit (base := W.heap.size) (e := 5) (size := 1) w1 #[.int .u8 1] 1 HB1.out.size (by decide) rfl
    have HB2 : Hid (Below W.heap.size W (w1.alloc (.cells #[.int .u8 1] 5))) := HB1.out.alloc HB1.out.size _
    refine (HFO.out _).mono ?_
    rintro e w3 ⟨p, q, rfl, hp, hq, hb3⟩
    have HB3 : Hid (Below W.heap.size W w3) := HB2.out.trans (hb3.mono HB2.out.size)
    have HROW3 := Lib.hid ((Kept.of_below hb3).row hrow0 (row_lt hrow0))
    have HP := Lib.hid hp
    have HQ := Lib.hid hq
    clear hb3 hp hq hrow0 HB2
    simp only [formsV]
    go_wp2_with fail
    refine (both_any (HR.out.below HB3.out) (by omega)).mono ?_
    rintro e w4 ⟨g4, m, rfl, hm, hpa, hb4⟩
    have HB4 : Hid (Below W.heap.size W w4) := HB3.out.trans (hb4.mono HB3.out.size)
    have HROW4 := (Kept.of_below hb4).row HROW3.out (row_lt HROW3.out)
    have HT4 : Hid (Tail w4.heap.size 5 .u8 w4 (.slice (some ⟨w1.heap.size, 0, none⟩) 1 1) (1 :: [])) := .inr (.inl ⟨_, 0, rfl, row_lt HROW4, fun j hj => row_cells (zs := [1]) HROW4 j hj⟩)
    have HPA := Lib.hid hpa
    have HM : Hid (m = (partsS 1 zs).length) := hm
    have hm2 : m ≤ 2 := by have := HP2.out; have := HM.out; omega
    have hm1 : 1 ≤ m := by have := HM.out; simp [partsS] at this; omega
    have hglt := hpa.lt
    clear hb4 hpa hm HP HQ HROW3 HROW4 hix
    go_wp2
    go_loopw [5, 7, 8, 9, 25] (fun s _ _ _ i wr => ∃ j n g c : Nat, j ≤ m ∧ i = .int .i64 j ∧ s = .slice (some ⟨g, 0, none⟩) n c ∧ n ≤ 1 + j * 32789 ∧ Hid (EncAt w4 wr j g n c (((1 : Int) :: ((partsS 1 zs).take j).flatMap packS))) ∧ Hid (Below w4.heap.size w4 wr)) (fun _ _ _ _ i _ => m - (intOf i).toNat)
    case atStart => exact ⟨0, 1, _, 1, Nat.zero_le _, rfl, rfl, by decide, ⟨HT4.out, fun h => absurd h (by decide)⟩, Below.refl _ _⟩
    case round =>
      obtain ⟨j, n, g, c, hj, rfl, rfl, hn, HROW, HBW⟩ := hrel
      by_cases hlt : j < m
      · obtain ⟨ps, hps⟩ : ∃ ps, (partsS 1 zs)[j]? = some ps := ⟨_, List.getElem?_eq_getElem (by rw [← HM.out]; exact hlt)⟩
        obtain ⟨a5, n5, c5, hcell, hr5⟩ := (HPA.out.below HBW.out).part j ps hps
        obtain ⟨hsz, _⟩ := HPF.out ps (List.mem_of_getElem? hps)
        have hln := HPL.out ps (List.mem_of_getElem? hps)
        have HPK := Lib.hid (pack_any hsz (by rw [hr5.hl]; exact hln) hr5)
        have hpl := pack_len ps hsz hln
        have hz1' : 1 ≤ (packS ps).length := by unfold packS; rw [List.length_append]; have := head_pos ps; omega
        have HTK := Lib.hid (packs_take _ j ps hps)
        have hbw := HBW.out.size
        have hbs := HB4.out.size
        obtain ⟨z, hzz⟩ : ∃ z, (packS ps).length = z := ⟨_, rfl⟩
        rw [hzz] at hpl hz1'
        have HZ := Lib.hid hzz
        clear hps hr5 hsz hln hzz
        rw [Nat.zero_add] at hcell
        have hjm : n ≤ 65579 := Nat.le_trans hn (Nat.le_trans (Nat.add_le_add_left (Nat.mul_le_mul_right 32789 (Nat.le_trans hj hm2)) 1) (by decide))
        have hn2 : n + z ≤ 1 + (j + 1) * 32789 := by rw [Nat.succ_mul, ← Nat.add_assoc]; exact Nat.add_le_add hn hpl
        clear hn
        go_wp2_with fail
        refine HPK.out.mono ?_
        rintro e w6 ⟨g6, c6, rfl, hf6, hr6, hb6⟩
        rw [HZ.out] at hf6 hr6 ⊢
        have HBW6 : Hid (Below w4.heap.size w4 w6) := HBW.out.trans (hb6.mono HBW.out.size)
        have hR6 : Rd (fun b => wr.heap.size ≤ b) w6 .u8 (some ⟨g6, 0, none⟩) z c6 (packS ps) := Rd.of_row HZ.out.symm hf6 (by omega) hr6
        obtain ⟨g7, c7, w7, hr7, hrow7, hb7, hc7⟩ := tail_append_reads (P := Try.prog) w6 w4.heap.size 25 25 5 i0 _ 1 .u8 Try.underlying25 hi hz0 hz1 hz2 rfl g n c _ (by simp) (HROW.out.1.below hb6) (.slice (some ⟨g6, 0, none⟩) z c6) (packS ps) z HZ.out.symm hz1' hR6.reads (by unfold maxLen; omega) (by omega) HBW6.out.size
        have HROW7 : Hid (EncAt w4 w7 (j + 1) g7 (n + z) c7 (((1 : Int) :: ((partsS 1 zs).take (j + 1)).flatMap packS))) := by
          rw [← List.map_append, List.cons_append, ← HTK.out] at hrow7
          refine ⟨Tail.row ?_ hrow7, fun _ => ⟨hrow7, hc7⟩⟩
          have := hrow7.1
          simpa using this.symm
        have HB7 : Hid (Below w4.heap.size w4 w7) := HBW6.out.trans hb7
        have HR7 := Lib.hid hr7
        clear hf6 hr6 hb6 hR6 hr7 hrow7 hb7 hc7
        go_wp2_with (at_builtin; refine wpList_append_want (o := ⟨some 39, _, _, _, _, _⟩) _ rfl _ _ _ _ rfl _ _ rfl rfl _ _ HR7.out ?_)
        go_roundw
        case rel => exact ⟨j + 1, n + z, g7, c7, by omega, by go_num, rfl, hn2, HROW7, HB7⟩
        case measure => simp [intOf]; omega
      · obtain rfl : j = m := by omega
        have hn3 : n ≤ 65579 := Nat.le_trans hn (Nat.le_trans (Nat.add_le_add_left (Nat.mul_le_mul_right 32789 hm2) 1) (by decide))
        clear hn
        go_wp2
        go_ret2
        obtain ⟨hrow, hc⟩ := HROW.out.2 (by omega)
        rw [List.take_of_length_le (Nat.le_of_eq HM.out.symm)] at hrow
        have hrl : n = ((1 : Int) :: (partsS 1 zs).flatMap packS).length := by have := hrow.1; simpa using this.symm
        refine ⟨g, n, c, rfl, ?_, HB4.out.trans (HBW.out.mono HB4.out.size)⟩
        rw [HEN.out]
        exact (Rd.of_row hrl hc (by omega) hrow).mono fun b _ h => Nat.le_trans HB4.out.size h
  · have hix := form_ix2
    go_wp2_with fail
    refine (HKD.out _ HR.out).mono ?_
    rintro e w1 ⟨rfl, hb1⟩
    have HB1 := Lib.hid hb1
    clear hb1
    go_wp2_with fail
    have hrow0 := World.ownsRow_lit (base := W.heap.size) (e := 5) (size := 1) w1 #[.int .u8 2] 1 HB1.out.size (by decide) rfl
    have HB2 : Hid (Below W.heap.size W (w1.alloc (.cells #[.int .u8 2] 5))) := HB1.out.alloc HB1.out.size _
    refine (HFO.out _).mono ?_
    rintro e w3 ⟨p, q, rfl, hp, hq, hb3⟩
    have HB3 : Hid (Below W.heap.size W w3) := HB2.out.trans (hb3.mono HB2.out.size)
    have HROW3 := Lib.hid ((Kept.of_below hb3).row hrow0 (row_lt hrow0))
    have HP := Lib.hid hp
    have HQ := Lib.hid hq
    clear hb3 hp hq hrow0 HB2
    simp only [formsV]
    go_wp2_with fail
    refine (od1_whole hz (by omega) (HR.out.below HB3.out) p HP.out).mono ?_
    rintro e w4 ⟨g4, m, rfl, hm, hpa, hb4⟩
    have HB4 : Hid (Below W.heap.size W w4) := HB3.out.trans (hb4.mono HB3.out.size)
    have HROW4 := (Kept.of_below hb4).row HROW3.out (row_lt HROW3.out)
    have HT4 : Hid (Tail w4.heap.size 5 .u8 w4 (.slice (some ⟨w1.heap.size, 0, none⟩) 1 1) (2 :: [])) := .inr (.inl ⟨_, 0, rfl, row_lt HROW4, fun j hj => row_cells (zs := [2]) HROW4 j hj⟩)
    have HPA := Lib.hid hpa
    have HM : Hid (m = (partsS 2 zs).length) := hm
    have hm2 : m ≤ 2 := by have := HP2.out; have := HM.out; omega
    have hm1 : 1 ≤ m := by have := HM.out; simp [partsS] at this; omega
    have hglt := hpa.lt
    clear hb4 hpa hm HP HQ HROW3 HROW4 hix
    go_wp2
    go_loopw [5, 7, 8, 9, 25] (fun s _ _ _ i wr => ∃ j n g c : Nat, j ≤ m ∧ i = .int .i64 j ∧ s = .slice (some ⟨g, 0, none⟩) n c ∧ n ≤ 1 + j * 32789 ∧ Hid (EncAt w4 wr j g n c (((2 : Int) :: ((partsS 2 zs).take j).flatMap packS))) ∧ Hid (Below w4.heap.size w4 wr)) (fun _ _ _ _ i _ => m - (intOf i).toNat)
    case atStart => exact ⟨0, 1, _, 1, Nat.zero_le _, rfl, rfl, by decide, ⟨HT4.out, fun h => absurd h (by decide)⟩, Below.refl _ _⟩
    case round =>
      obtain ⟨j, n, g, c, hj, rfl, rfl, hn, HROW, HBW⟩ := hrel
      by_cases hlt : j < m
      · obtain ⟨ps, hps⟩ : ∃ ps, (partsS 2 zs)[j]? = some ps := ⟨_, List.getElem?_eq_getElem (by rw [← HM.out]; exact hlt)⟩
        obtain ⟨a5, n5, c5, hcell, hr5⟩ := (HPA.out.below HBW.out).part j ps hps
        obtain ⟨hsz, _⟩ := HPF.out ps (List.mem_of_getElem? hps)
        have hln := HPL.out ps (List.mem_of_getElem? hps)
        have HPK := Lib.hid (pack_any hsz (by rw [hr5.hl]; exact hln) hr5)
        have hpl := pack_len ps hsz hln
        have hz1' : 1 ≤ (packS ps).length := by unfold packS; rw [List.length_append]; have := head_pos ps; omega
        have HTK := Lib.hid (packs_take _ j ps hps)
        have hbw := HBW.out.size
        have hbs := HB4.out.size
        obtain ⟨z, hzz⟩ : ∃ z, (packS ps).length = z := ⟨_, rfl⟩
        rw [hzz] at hpl hz1'
        have HZ := Lib.hid hzz
        clear hps hr5 hsz hln hzz
        rw [Nat.zero_add] at hcell
        have hjm : n ≤ 65579 := Nat.le_trans hn (Nat.le_trans (Nat.add_le_add_left (Nat.mul_le_mul_right 32789 (Nat.le_trans hj hm2)) 1) (by decide))
        have hn2 : n + z ≤ 1 + (j + 1) * 32789 := by rw [Nat.succ_mul, ← Nat.add_assoc]; exact Nat.add_le_add hn hpl
        clear hn
        go_wp2_with fail
        refine HPK.out.mono ?_
        rintro e w6 ⟨g6, c6, rfl, hf6, hr6, hb6⟩
        rw [HZ.out] at hf6 hr6 ⊢
        have HBW6 : Hid (Below w4.heap.size w4 w6) := HBW.out.trans (hb6.mono HBW.out.size)
        have hR6 : Rd (fun b => wr.heap.size ≤ b) w6 .u8 (some ⟨g6, 0, none⟩) z c6 (packS ps) := Rd.of_row HZ.out.symm hf6 (by omega) hr6
        obtain ⟨g7, c7, w7, hr7, hrow7, hb7, hc7⟩ := tail_append_reads (P := Try.prog) w6 w4.heap.size 25 25 5 i0 _ 1 .u8 Try.underlying25 hi hz0 hz1 hz2 rfl g n c _ (by simp) (HROW.out.1.below hb6) (.slice (some ⟨g6, 0, none⟩) z c6) (packS ps) z HZ.out.symm hz1' hR6.reads (by unfold maxLen; omega) (by omega) HBW6.out.size
        have HROW7 : Hid (EncAt w4 w7 (j + 1) g7 (n + z) c7 (((2 : Int) :: ((partsS 2 zs).take (j + 1)).flatMap packS))) := by
          rw [← List.map_append, List.cons_append, ← HTK.out] at hrow7
          refine ⟨Tail.row ?_ hrow7, fun _ => ⟨hrow7, hc7⟩⟩
          have := hrow7.1
          simpa using this.symm
        have HB7 : Hid (Below w4.heap.size w4 w7) := HBW6.out.trans hb7
        have HR7 := Lib.hid hr7
        clear hf6 hr6 hb6 hR6 hr7 hrow7 hb7 hc7
        go_wp2_with (at_builtin; refine wpList_append_want (o := ⟨some 39, _, _, _, _, _⟩) _ rfl _ _ _ _ rfl _ _ rfl rfl _ _ HR7.out ?_)
        go_roundw
        case rel => exact ⟨j + 1, n + z, g7, c7, by omega, by go_num, rfl, hn2, HROW7, HB7⟩
        case measure => simp [intOf]; omega
      · obtain rfl : j = m := by omega
        have hn3 : n ≤ 65579 := Nat.le_trans hn (Nat.le_trans (Nat.add_le_add_left (Nat.mul_le_mul_right 32789 hm2) 1) (by decide))
        clear hn
        go_wp2
        go_ret2
        obtain ⟨hrow, hc⟩ := HROW.out.2 (by omega)
        rw [List.take_of_length_le (Nat.le_of_eq HM.out.symm)] at hrow
        have hrl : n = ((2 : Int) :: (partsS 2 zs).flatMap packS).length := by have := hrow.1; simpa using this.symm
        refine ⟨g, n, c, rfl, ?_, HB4.out.trans (HBW.out.mono HB4.out.size)⟩
        rw [HEN.out]
        exact (Rd.of_row hrl hc (by omega) hrow).mono fun b _ h => Nat.le_trans HB4.out.size h
  · have hix := form_ix3
    go_wp2_with fail
    refine (HKD.out _ HR.out).mono ?_
    rintro e w1 ⟨rfl, hb1⟩
    have HB1 := Lib.hid hb1
    clear hb1
    go_wp2_with fail
    have hrow0 := World.ownsRow_lit (base := W.heap.size) (e := 5) (size := 1) w1 #[.int .u8 3] 1 HB1.out.size (by decide) rfl
    have HB2 : Hid (Below W.heap.size W (w1.alloc (.cells #[.int .u8 3] 5))) := HB1.out.alloc HB1.out.size _
    refine (HFO.out _).mono ?_
    rintro e w3 ⟨p, q, rfl, hp, hq, hb3⟩
    have HB3 : Hid (Below W.heap.size W w3) := HB2.out.trans (hb3.mono HB2.out.size)
    have HROW3 := Lib.hid ((Kept.of_below hb3).row hrow0 (row_lt hrow0))
    have HP := Lib.hid hp
    have HQ := Lib.hid hq
    clear hb3 hp hq hrow0 HB2
    simp only [formsV]
    go_wp2_with fail
    refine (od1_both hz (by omega) (HR.out.below HB3.out) q HQ.out).mono ?_
    rintro e w4 ⟨g4, m, rfl, hm, hpa, hb4⟩
    have HB4 : Hid (Below W.heap.size W w4) := HB3.out.trans (hb4.mono HB3.out.size)
    have HROW4 := (Kept.of_below hb4).row HROW3.out (row_lt HROW3.out)
    have HT4 : Hid (Tail w4.heap.size 5 .u8 w4 (.slice (some ⟨w1.heap.size, 0, none⟩) 1 1) (3 :: [])) := .inr (.inl ⟨_, 0, rfl, row_lt HROW4, fun j hj => row_cells (zs := [3]) HROW4 j hj⟩)
    have HPA := Lib.hid hpa
    have HM : Hid (m = (partsS 3 zs).length) := hm
    have hm2 : m ≤ 2 := by have := HP2.out; have := HM.out; omega
    have hm1 : 1 ≤ m := by have := HM.out; simp [partsS] at this; omega
    have hglt := hpa.lt
    clear hb4 hpa hm HP HQ HROW3 HROW4 hix
    go_wp2
    go_loopw [5, 7, 8, 9, 25] (fun s _ _ _ i wr => ∃ j n g c : Nat, j ≤ m ∧ i = .int .i64 j ∧ s = .slice (some ⟨g, 0, none⟩) n c ∧ n ≤ 1 + j * 32789 ∧ Hid (EncAt w4 wr j g n c (((3 : Int) :: ((partsS 3 zs).take j).flatMap packS))) ∧ Hid (Below w4.heap.size w4 wr)) (fun _ _ _ _ i _ => m - (intOf i).toNat)
    case atStart => exact ⟨0, 1, _, 1, Nat.zero_le _, rfl, rfl, by decide, ⟨HT4.out, fun h => absurd h (by decide)⟩, Below.refl _ _⟩
    case round =>
      obtain ⟨j, n, g, c, hj, rfl, rfl, hn, HROW, HBW⟩ := hrel
      by_cases hlt : j < m
      · obtain ⟨ps, hps⟩ : ∃ ps, (partsS 3 zs)[j]? = some ps := ⟨_, List.getElem?_eq_getElem (by rw [← HM.out]; exact hlt)⟩
        obtain ⟨a5, n5, c5, hcell, hr5⟩ := (HPA.out.below HBW.out).part j ps hps
        obtain ⟨hsz, _⟩ := HPF.out ps (List.mem_of_getElem? hps)
        have hln := HPL.out ps (List.mem_of_getElem? hps)
        have HPK := Lib.hid (pack_any hsz (by rw [hr5.hl]; exact hln) hr5)
        have hpl := pack_len ps hsz hln
        have hz1' : 1 ≤ (packS ps).length := by unfold packS; rw [List.length_append]; have := head_pos ps; omega
        have HTK := Lib.hid (packs_take _ j ps hps)
        have hbw := HBW.out.size
        have hbs := HB4.out.size
        obtain ⟨z, hzz⟩ : ∃ z, (packS ps).length = z := ⟨_, rfl⟩
        rw [hzz] at hpl hz1'
        have HZ := Lib.hid hzz
        clear hps hr5 hsz hln hzz
        rw [Nat.zero_add] at hcell
        have hjm : n ≤ 65579 := Nat.le_trans hn (Nat.le_trans (Nat.add_le_add_left (Nat.mul_le_mul_right 32789 (Nat.le_trans hj hm2)) 1) (by decide))
        have hn2 : n + z ≤ 1 + (j + 1) * 32789 := by rw [Nat.succ_mul, ← Nat.add_assoc]; exact Nat.add_le_add hn hpl
        clear hn
        go_wp2_with fail
        refine HPK.out.mono ?_
        rintro e w6 ⟨g6, c6, rfl, hf6, hr6, hb6⟩
        rw [HZ.out] at hf6 hr6 ⊢
        have HBW6 : Hid (Below w4.heap.size w4 w6) := HBW.out.trans (hb6.mono HBW.out.size)
        have hR6 : Rd (fun b => wr.heap.size ≤ b) w6 .u8 (some ⟨g6, 0, none⟩) z c6 (packS ps) := Rd.of_row HZ.out.symm hf6 (by omega) hr6
        obtain ⟨g7, c7, w7, hr7, hrow7, hb7, hc7⟩ := tail_append_reads (P := Try.prog) w6 w4.heap.size 25 25 5 i0 _ 1 .u8 Try.underlying25 hi hz0 hz1 hz2 rfl g n c _ (by simp) (HROW.out.1.below hb6) (.slice (some ⟨g6, 0, none⟩) z c6) (packS ps) z HZ.out.symm hz1' hR6.reads (by unfold maxLen; omega) (by omega) HBW6.out.size
        have HROW7 : Hid (EncAt w4 w7 (j + 1) g7 (n + z) c7 (((3 : Int) :: ((partsS 3 zs).take (j + 1)).flatMap packS))) := by
          rw [← List.map_append, List.cons_append, ← HTK.out] at hrow7
          refine ⟨Tail.row ?_ hrow7, fun _ => ⟨hrow7, hc7⟩⟩
          have := hrow7.1
          simpa using this.symm
        have HB7 : Hid (Below w4.heap.size w4 w7) := HBW6.out.trans hb7
        have HR7 := Lib.hid hr7
        clear hf6 hr6 hb6 hR6 hr7 hrow7 hb7 hc7
        go_wp2_with (at_builtin; refine wpList_append_want (o := ⟨some 39, _, _, _, _, _⟩) _ rfl _ _ _ _ rfl _ _ rfl rfl _ _ HR7.out ?_)
        go_roundw
        case rel => exact ⟨j + 1, n + z, g7, c7, by omega, by go_num, rfl, hn2, HROW7, HB7⟩
        case measure => simp [intOf]; omega
      · obtain rfl : j = m := by omega
        have hn3 : n ≤ 65579 := Nat.le_trans hn (Nat.le_trans (Nat.add_le_add_left (Nat.mul_le_mul_right 32789 hm2) 1) (by decide))
        clear hn
        go_wp2
        go_ret2
        obtain ⟨hrow, hc⟩ := HROW.out.2 (by omega)
        rw [List.take_of_length_le (Nat.le_of_eq HM.out.symm)] at hrow
        have hrl : n = ((3 : Int) :: (partsS 3 zs).flatMap packS).length := by have := hrow.1; simpa using this.symm
        refine ⟨g, n, c, rfl, ?_, HB4.out.trans (HBW.out.mono HB4.out.size)⟩
        rw [HEN.out]
        exact (Rd.of_row hrl hc (by omega) hrow).mono fun b _ h => Nat.le_trans HB4.out.size h

theorem encode_of (hfo : ∀ w, Calls Try.prog 52 #[] w (FormsPost w)) {K : Nat → Prop} {a : Option Addr} {len cap : Nat} {zs : List Int} (hz : Smalls zs) (hl : len ≤ 4096) {W : World} (hR : Rd K W .i64 a len cap zs) :
    Calls Try.prog 47 #[.slice a len cap] W (EncE W (enS zs)) :=
  encode_k hfo hz hl hR (kindS zs) (by have := kind_lt zs; omega) rfl

theorem encode_long (a : Option Addr) (len cap : Nat) (hl : 4096 < len) (hl2 : len ≤ 140737488351232) (W : World) :
    Calls Try.prog 47 #[.slice a len cap] W fun e W' => e = .returned (.tuple #[.slice none 0 0, .int .i64 2]) ∧ W = W' := by
  go_enter Try.func47, Try.ntmps47
  go_wp2
  go_ret2
  exact ⟨rfl, rfl⟩

end Go.Proofs.Ytmbcppkdnoccbaa
