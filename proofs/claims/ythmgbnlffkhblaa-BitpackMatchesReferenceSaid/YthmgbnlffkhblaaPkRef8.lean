/-
  The reference's reading back.
-/
import Derived.Test.YthmgbnlffkhblaaPkRef7
namespace Go.Proofs.Ythmgbnlffkhblaa
open Go.RowKit Go.ChangeShapes Go.WideShapes Go.ChangeAt

theorem Try.infoN4 : (Try.prog.info? 3).map (fun i => (i.zero, i.size, i.bytes)) = some (some (.int .i64 0), 1, 8) := by kernel_rfl

/-- What the reference's reading back comes to. -/
def UnRPost (K : Nat → Prop) (bs : List Int) (W : World) (e : Ending) (W' : World) : Prop :=
  Below W.heap.size W W' ∧ (((unS bs).2.2 = 0 ∧ ∃ a1 n1 c1 a2 n2 c2, e = .returned (gotV 0 (.slice a1 n1 c1) (.slice a2 n2 c2) 0) ∧ Rd (fun b => W.heap.size ≤ b) W' .i64 a1 n1 c1 (unS bs).1 ∧ Rd K W .u8 a2 n2 c2 (bs.drop (unS bs).2.1)) ∨
    ((unS bs).2.2 ≠ 0 ∧ e = .returned (gotV 0 (.slice none 0 0) (.slice none 0 0) (unS bs).2.2)))
theorem UnRPost.bad {K : Nat → Prop} {bs : List Int} {W W' : World} {e : Ending} {x : Int} (hb : Below W.heap.size W W') (h : (unS bs).2.2 = x) (hx : x ≠ 0) (he : e = .returned (gotV 0 (.slice none 0 0) (.slice none 0 0) x)) : UnRPost K bs W e W' :=
  ⟨hb, .inr ⟨by rw [h]; exact hx, by rw [h]; exact he⟩⟩
theorem below_four {W V : World} (h : Below W.heap.size W V) (R : Nat) (hR : W.heap.size ≤ R) (a b c d : Value) : Below W.heap.size W ((((V.setCell ⟨R, 0, none⟩ a).setCell ⟨R, 1, none⟩ b).setCell ⟨R, 2, none⟩ c).setCell ⟨R, 3, none⟩ d) :=
  (((h.setCell hR _).setCell hR _).setCell hR _).setCell hR _

/-- The first of a slice that reads. -/
theorem Rd.upto {K : Nat → Prop} {W : World} {k : IntKind} {a : Option Addr} {len cap : Nat} {zs : List Int} (h : Rd K W k a len cap zs) (m : Nat) (hm : m ≤ len) : Rd K W k a m cap (zs.take m) := by
  refine ⟨by rw [List.length_take, ← h.hl]; omega, Nat.le_trans hm h.fit, h.top, Nat.le_trans hm h.small, fun h0 => ?_⟩
  obtain ⟨b, off, e, hb, hlt, hc⟩ := h.cells (by omega)
  exact ⟨b, off, e, hb, hlt, fun j hj => by rw [hc j (by omega), List.getElem?_take_of_lt hj]⟩

theorem un_rd {bs : List Int} {x : Int} (h : (rdS bs).2.2 = x) (hx : x ≠ 0) : (unS bs).2.2 = x := by unfold unS; rw [if_pos (by rw [h]; exact hx)]; exact h
theorem un_big {bs : List Int} (h : (rdS bs).2.2 = 0) (hb : 4096 < (rdS bs).1) : (unS bs).2.2 = 5 := by unfold unS; rw [if_neg (by simp [h]), if_pos hb]
theorem un_none {bs : List Int} (h : (rdS bs).2.2 = 0) (hb : (rdS bs).1 = 0) : unS bs = ([], (rdS bs).2.1, 0) := by unfold unS; rw [if_neg (by simp [h]), if_neg (by omega), if_pos hb]
theorem un_fr {bs : List Int} (h : (rdS bs).2.2 = 0) (hb : ¬ 4096 < (rdS bs).1) (h0 : (rdS bs).1 ≠ 0) {x : Int} (hf : (frS (bs.drop (rdS bs).2.1)).2.2 = x) (hx : x ≠ 0) : (unS bs).2.2 = x := by
  unfold unS; rw [if_neg (by simp [h]), if_neg hb, if_neg h0, if_pos (by rw [hf]; exact hx)]; exact hf

set_option maxRecDepth 100000 in
set_option maxHeartbeats 3000000 in
theorem unpackR_any {K : Nat → Prop} {a : Option Addr} {len cap : Nat} {bs : List Int} (ho : Oct bs) {W : World} (hR : Rd K W .u8 a len cap bs) :
    Calls Try.prog 27 #[.slice a len cap] W (UnRPost K bs W) := by
  obtain ⟨i0, hi, hz0, hz1, hz2⟩ := info_parts Try.infoN4
  have HR := Lib.hid (hR.mono (K' := fun b => K b ∧ b < W.heap.size) (fun b hlt hk => ⟨hk, hlt⟩))
  have hfit := hR.fit
  have htop := hR.top
  have hsmall := hR.small
  have HL : Hid (len = bs.length) := hR.hl
  clear hR
  go_enter Try.func27, Try.ntmps27
  go_upto_region 1 with fail
  have hq := Quad.new W 37 (.int .u64 0) (.slice none 0 0) (.slice none 0 0) (.int .i64 0)
  have hb : Below W.heap.size W (W.alloc (.cells #[.int .u64 0, .slice none 0 0, .slice none 0 0, .int .i64 0] 37)) := (Below.refl _ _).alloc (Nat.le_refl _) _
  have HRV := Lib.hid (HR.out.below hb)
  have HB := Lib.hid hb
  obtain ⟨R, hRe⟩ : ∃ B, W.heap.size = B := ⟨_, rfl⟩
  have HRE : Hid (W.heap.size ≤ R) := Nat.le_of_eq hRe
  rw [hRe] at hq ⊢
  have HQ := Lib.hid hq
  clear hRe hb hq
  generalize W.alloc (.cells #[.int .u64 0, .slice none 0 0, .slice none 0 0, .int .i64 0] 37) = V at *
  go_wp2_with fail
  refine (readR_any ho HRV.out).mono ?_
  rintro e w1 ⟨hb1, hp1⟩
  have HB1 : Hid (Below W.heap.size W w1) := HB.out.trans (hb1.mono HB.out.size)
  have HQ1 := Lib.hid (HQ.out.below hb1 HQ.out.lt)
  rcases hp1 with ⟨hrd, a3, n3, c3, rfl, hr3⟩ | ⟨hx, rfl⟩
  · have HR3 := Lib.hid (hr3.below hb1)
    have HRD := Lib.hid hrd
    have hub := rdS_u64 ho
    obtain ⟨u, hu⟩ := Int.eq_ofNat_of_zero_le hub.1
    have hun : u < 18446744073709551616 := by have := hub.2; rw [hu] at this; omega
    have HU := Lib.hid hu
    rw [hu]
    clear hb1 hr3 hrd hub hu HB HQ HRV
    simp only [gotV]
    go_upto_region 2 with fail
    have hbA : Below w1.heap.size w1 (w1.alloc (.cells #[.int .u64 u, .slice none 0 0, .slice a3 n3 c3, .int .i64 0] 37)) := (Below.refl _ _).alloc (Nat.le_refl _) _
    have HA := Lib.hid (Quad.new w1 37 (.int .u64 u) (.slice none 0 0) (.slice a3 n3 c3) (.int .i64 0))
    have HR3 := Lib.hid (HR3.out.below hbA)
    have HQ2 := Lib.hid (HQ1.out.below hbA HQ1.out.lt)
    have HB2 : Hid (Below W.heap.size W (w1.alloc (.cells #[.int .u64 u, .slice none 0 0, .slice a3 n3 c3, .int .i64 0] 37))) := HB1.out.trans (hbA.mono HB1.out.size)
    obtain ⟨A, hA⟩ : ∃ B, w1.heap.size = B := ⟨_, rfl⟩
    rw [hA] at HA ⊢
    clear hbA hA HB1 HQ1
    generalize w1.alloc (.cells #[.int .u64 u, .slice none 0 0, .slice a3 n3 c3, .int .i64 0] 37) = V2 at *
    obtain ⟨r0, r1, r2, r3⟩ := HA.out.cell
    obtain ⟨q0, q1, q2, q3⟩ := HQ2.out.cell
    have f0 := HQ2.out.f 0
    have f1 := HQ2.out.f 1
    have f2 := HQ2.out.f 2
    have f3 := HQ2.out.f 3
    have qlt := HQ2.out.lt
    by_cases hbig : 4096 < u
    · have HUN := Lib.hid (un_big HRD.out (by rw [HU.out]; omega))
      have hbI : (4096 : Int) < (u : Int) := by omega
      go_wp2
      refine bodyPost_ret (v := gotV 0 (.slice none 0 0) (.slice none 0 0) 5) (by simp [results, Try.results27, go_sem, q0, q1, q2, q3, gotV]) rfl (UnRPost.bad (below_four HB2.out R HRE.out _ _ _ _) HUN.out (by decide) rfl)
    · have hbI : ¬ (4096 : Int) < (u : Int) := by omega
      by_cases h0 : u = 0
      · have HUN := Lib.hid (un_none HRD.out (by rw [HU.out, h0]; rfl))
        have hR3' := HR3.out.back HB2.out
        subst h0
        go_wp2
        refine bodyPost_ret (v := gotV 0 (.slice none 0 0) (.slice a3 n3 c3) 0) (by simp [results, Try.results27, go_sem, q0, q1, q2, q3, gotV]) rfl ⟨below_four HB2.out R HRE.out _ _ _ _, .inl ?_⟩
        rw [HUN.out]
        exact ⟨rfl, none, 0, 0, a3, n3, c3, rfl, Rd.empty, hR3'⟩
      · have h0I : ((u : Int) == 0) = false := by rw [beq_eq_false_iff_ne]; omega
        clear q0 q1 q2 q3 f0 f1 f2 f3 qlt
        go_wp2_with fail
        clear r0 r1 r2 r3
        obtain ⟨k1, hk1⟩ : ∃ c, (rdS bs).2.1 = c := ⟨_, rfl⟩
        have HK1 := Lib.hid hk1
        rw [hk1] at HR3
        clear hk1
        have ho2 := ho.drop k1
        refine (readR_any ho2 HR3.out).mono ?_
        rintro e w5 ⟨hb5, hp5⟩
        have HB5 : Hid (Below W.heap.size W w5) := HB2.out.trans (hb5.mono HB2.out.size)
        have HQ5 := Lib.hid (HQ2.out.below hb5 HQ2.out.lt)
        have HA5 := Lib.hid (HA.out.below hb5 HA.out.lt)
        rcases hp5 with ⟨hrd5, a4, n4, c4, rfl, hr4⟩ | ⟨hx, rfl⟩
        · have HR4 := Lib.hid (hr4.below hb5)
          have HRD5 := Lib.hid hrd5
          have hub := rdS_u64 ho2
          obtain ⟨u2, hu2⟩ := Int.eq_ofNat_of_zero_le hub.1
          have hu2n : u2 < 18446744073709551616 := by have := hub.2; rw [hu2] at this; omega
          have HU2 := Lib.hid hu2
          obtain ⟨k2, hk2⟩ : ∃ c, (rdS (bs.drop k1)).2.1 = c := ⟨_, rfl⟩
          have HK2 := Lib.hid hk2
          rw [hk2] at HR4
          rw [hu2]
          clear hb5 hr4 hrd5 hub hu2 hk2 HB2 HQ2 HA HR3
          simp only [gotV]
          go_upto_region 9 with fail
          have hbA : Below w5.heap.size w5 (w5.alloc (.cells #[.int .u64 u2, .slice none 0 0, .slice a4 n4 c4, .int .i64 0] 37)) := (Below.refl _ _).alloc (Nat.le_refl _) _
          have HC := Lib.hid (Quad.new w5 37 (.int .u64 u2) (.slice none 0 0) (.slice a4 n4 c4) (.int .i64 0))
          have HR4 := Lib.hid (HR4.out.below hbA)
          have HQ6 := Lib.hid (HQ5.out.below hbA HQ5.out.lt)
          have HA6 := Lib.hid (HA5.out.below hbA HA5.out.lt)
          have HB6 : Hid (Below W.heap.size W (w5.alloc (.cells #[.int .u64 u2, .slice none 0 0, .slice a4 n4 c4, .int .i64 0] 37))) := HB5.out.trans (hbA.mono HB5.out.size)
          obtain ⟨C, hC⟩ : ∃ B, w5.heap.size = B := ⟨_, rfl⟩
          rw [hC] at HC ⊢
          clear hbA hC HB5 HQ5 HA5
          generalize w5.alloc (.cells #[.int .u64 u2, .slice none 0 0, .slice a4 n4 c4, .int .i64 0] 37) = V6 at *
          obtain ⟨r0, r1, r2, r3⟩ := HC.out.cell
          obtain ⟨q0, q1, q2, q3⟩ := HQ6.out.cell
          have f0 := HQ6.out.f 0
          have f1 := HQ6.out.f 1
          have f2 := HQ6.out.f 2
          have f3 := HQ6.out.f 3
          have qlt := HQ6.out.lt
          have ha0 := HA6.out.cell.1
          have hn4l := HR4.out.hl
          rw [List.length_drop] at hn4l
          by_cases hn4 : n4 = 0
          · have HFR : Hid ((frS (bs.drop k1)).2.2 = 7) := by
              show _ = _
              unfold frS
              rw [if_neg (by simp [HRD5.out]), if_pos (by rw [HK2.out]; omega)]
            have HUN := Lib.hid (un_fr (x := 7) HRD.out (by rw [HU.out]; omega) (by rw [HU.out]; omega) (by rw [HK1.out]; exact HFR.out) (by decide))
            subst hn4
            clear hn4l
            go_wp2
            refine bodyPost_ret (v := gotV 0 (.slice none 0 0) (.slice none 0 0) 7) (by simp [results, Try.results27, go_sem, q0, q1, q2, q3, gotV]) rfl (UnRPost.bad (below_four HB6.out R HRE.out _ _ _ _) HUN.out (by decide) rfl)
          · have hn4I : ((n4 : Int) == 0) = false := by rw [beq_eq_false_iff_ne]; omega
            have hn4J : (1 : Int) ≤ (n4 : Int) := by omega
            obtain ⟨b4, off4, rfl, _, _, hc4⟩ := HR4.out.cells (by omega)
            have hc0 := hc4 0 (by omega)
            have hx0 := (ho2.drop k2).getD 0
            have e0 : ((bs.drop k1).drop k2)[0]?.getD 0 = (bs.drop k1)[k2]?.getD 0 := by rw [List.getElem?_drop, Nat.add_zero]
            rw [Nat.add_zero] at hc0
            rw [e0] at hc0 hx0
            obtain ⟨wd, hwd⟩ := Int.eq_ofNat_of_zero_le hx0.1
            rw [hwd] at hc0 hx0
            have hwb : wd < 256 := by have := hx0.2; omega
            have HWD := Lib.hid hwd
            have hww : IntKind.i64.wrap (wd : Int) = wd := by rw [IntKind.wrap_i64]; omega
            have hk2l : ¬ (bs.drop k1).length ≤ k2 := by omega
            clear hc4 hx0 e0 hwd
            by_cases hw64 : 64 < wd
            · have HFR : Hid ((frS (bs.drop k1)).2.2 = 5) := by
                show _ = _
                unfold frS
                rw [if_neg (by simp [HRD5.out]), if_neg (by rw [HK2.out]; exact hk2l), HK2.out, HWD.out, if_pos (by omega)]
              have HUN := Lib.hid (un_fr (x := 5) HRD.out (by rw [HU.out]; omega) (by rw [HU.out]; omega) (by rw [HK1.out]; exact HFR.out) (by decide))
              have hwI : (64 : Int) < (wd : Int) := by omega
              clear hn4l
              go_wp2
              refine bodyPost_ret (v := gotV 0 (.slice none 0 0) (.slice none 0 0) 5) (by simp [results, Try.results27, go_sem, q0, q1, q2, q3, gotV]) rfl (UnRPost.bad (below_four HB6.out R HRE.out _ _ _ _) HUN.out (by decide) rfl)
            · have hwI : ¬ (64 : Int) < (wd : Int) := by omega
              have hfs : frS (bs.drop k1) = ((uz u2, (wd : Int)), k2 + 1, 0) := by
                unfold frS
                rw [if_neg (by simp [HRD5.out]), if_neg (by rw [HK2.out]; exact hk2l), HK2.out, HWD.out, if_neg (by omega), HU2.out]
              have hrs : rdS bs = ((u : Int), k1, 0) := by rw [← HU.out, ← HK1.out, ← HRD.out]
              have HH : Hid (HdS bs u (uz u2) wd k1 (k2 + 1)) := ⟨hrs, by omega, by omega, hfs⟩
              obtain ⟨T, hT⟩ : ∃ T : Nat, u * wd = T := ⟨_, rfl⟩
              have hTI : (u : Int) * (wd : Int) = (T : Int) := by rw [← hT, Int.natCast_mul]
              have hTb : T ≤ 262144 := by rw [← hT]; exact Nat.mul_le_mul (show u ≤ 4096 by omega) (show wd ≤ 64 by omega)
              obtain ⟨size, hsz⟩ : ∃ z, (T + 7) / 8 = z := ⟨_, rfl⟩
              have hszI : ((T : Int) + 7) / 8 = (size : Int) := by omega
              have hszb : size ≤ 32769 := by omega
              have HSZ : Hid ((u * wd + 7) / 8 = size) := by show _ = _; rw [hT, hsz]
              have HTT := Lib.hid hT
              have hwu : IntKind.i64.wrap (u : Int) = u := by rw [IntKind.wrap_i64]; omega
              obtain ⟨off6, he6⟩ : ∃ o, (if c4 = 1 then some ⟨b4, off4, none⟩ else some ⟨b4, off4 + 1, none⟩ : Option Addr) = some ⟨b4, o, none⟩ := by split; exact ⟨_, rfl⟩; exact ⟨_, rfl⟩
              have hf4 := HR4.out.fit
              have hbod := HR4.out.rest 1 (by omega) (c4 - 1) (by omega) (by omega) (some ⟨b4, off6, none⟩) (fun h => by rw [← he6, if_neg (by omega)])
              rw [List.drop_drop] at hbod
              have HBODY := Lib.hid hbod
              have HBL : Hid (n4 - 1 = ((bs.drop k1).drop (k2 + 1)).length) := hbod.hl
              have HN4 := Lib.hid hn4l
              clear hfs hrs hT hsz hbod hn4l hk2l
              by_cases hsh : n4 - 1 < size
              · have HUN := Lib.hid (HH.out.short (by rw [HSZ.out, ← HBL.out]; exact hsh))
                have hshI : (n4 : Int) - 1 < (size : Int) := by omega
                have hshN : ((n4 - 1 : Nat) : Int) < (size : Int) := by omega
                go_wp2
                refine bodyPost_ret (v := gotV 0 (.slice none 0 0) (.slice none 0 0) 7) (by simp [results, Try.results27, go_sem, q0, q1, q2, q3, gotV]) rfl (UnRPost.bad (below_four HB6.out R HRE.out _ _ _ _) HUN.out (by decide) rfl)
              · have hshN : ¬ ((n4 - 1 : Nat) : Int) < (size : Int) := by omega
                go_wp2_with fail
                refine (unzigzagR_any u2 ⟨by omega, by omega⟩ V6).mono ?_
                have hlowI := uz_i64 (u := (u2 : Int)) ⟨by omega, by omega⟩
                obtain ⟨low, hlow⟩ : ∃ l, uz (u2 : Int) = l := ⟨_, rfl⟩
                rw [hlow] at HH hlowI ⊢
                rintro e V6' ⟨rfl, rfl⟩
                have HLI := Lib.hid hlowI
                obtain ⟨body, hbody⟩ : ∃ l, (bs.drop k1).drop (k2 + 1) = l := ⟨_, rfl⟩
                have HBD := Lib.hid hbody
                rw [hbody] at HBODY HBL
                have HOB : Hid (Oct body) := by rw [← hbody]; exact ho2.drop (k2 + 1)
                obtain ⟨upL, hupL⟩ : ∃ l, upList low wd u body = l := ⟨_, rfl⟩
                have HUP := Lib.hid hupL
                have HUL : Hid (upL.length = u) := by rw [← hupL]; exact up_len ..
                have HUS : Hid (Smalls upL) := by
                  show Smalls upL
                  rw [← hupL]
                  exact up_small low wd u body
                have hrow0 := World.ownsRow_made V6 (base := V6.heap.size) (e := 3) (size := 1) #[] 0 (Nat.le_refl _) (by decide) rfl
                have HROW := Lib.hid hrow0
                have HBN : Hid (Below V6.heap.size V6 (V6.alloc (.cells #[] 3))) := (Below.refl _ _).alloc (Nat.le_refl _) _
                clear hlow hbody hupL hrow0 hlowI q0 q1 q2 q3 f0 f1 f2 f3 qlt r0 r1 r2 r3 ha0 hc0
                go_wp2
                go_loopw [9, 10] (fun s9 i wr => ∃ j g c : Nat, j ≤ u ∧ i = .int .i64 j ∧ s9 = .slice (some ⟨g, 0, none⟩) j c ∧ Hid (wr.ownsRow V6.heap.size 3 1 (.slice (some ⟨g, 0, none⟩) j c) j ((upL.take j).map (Value.int .i64))) ∧ Hid (Below V6.heap.size V6 wr)) (fun _ i _ => u - (intOf i).toNat)
                case atStart => exact ⟨0, V6.heap.size, 0, Nat.zero_le _, rfl, rfl, HROW, HBN⟩
                case round =>
                  obtain ⟨j, g, c, hj, rfl, rfl, HRW, HBW⟩ := hrel
                  have ha0 := (HA6.out.below HBW.out HA6.out.lt).cell.1
                  by_cases hlt : j < u
                  · have hltI : (j : Int) < (u : Int) := by omega
                    obtain ⟨jw, hjw⟩ : ∃ q : Nat, j * wd = q := ⟨_, rfl⟩
                    have hjwI : (j : Int) * (wd : Int) = (jw : Int) := by rw [← hjw, Int.natCast_mul]
                    have hjwT : jw + wd ≤ T := by
                      have : (j + 1) * wd ≤ u * wd := Nat.mul_le_mul (by omega) (Nat.le_refl _)
                      rw [Nat.succ_mul, HTT.out, hjw] at this
                      exact this
                    have hat := up_at low wd u body (by rw [HSZ.out, ← HBL.out]; omega) j hlt
                    rw [hjw, HUP.out] at hat
                    have hlowC := HH.out.low (by rw [HSZ.out, HBD.out, ← HBL.out]; omega) j hlt
                    rw [HBD.out, hjw] at hlowC
                    have hbr := bitN_range (bs := body) jw wd
                    have HBT : Hid (∀ V, Rd (fun b => K b ∧ b < W.heap.size) V .u8 (some ⟨b4, off6, none⟩) (n4 - 1) (c4 - 1) body → Calls Try.prog 54 #[.slice (some ⟨b4, off6, none⟩) (n4 - 1) (c4 - 1), .int .i64 jw, .int .i64 wd] V fun e W' => e = .returned (.int .u64 (bitN body jw wd)) ∧ V = W') := fun V h => bitsR_any HOB.out h jw wd (by omega) (by omega)
                    have hcv : IntKind.i64.wrap (IntKind.u64.wrap (IntKind.u64.wrap low + bitN body jw wd)) = wrap64 (low + bitN body jw wd) := by rw [IntKind.wrap_i64, IntKind.wrap_u64, IntKind.wrap_u64]; unfold wrap64; omega
                    have hcv2 : wrap64 (IntKind.u64.wrap (IntKind.u64.wrap low + bitN body jw wd)) = wrap64 (low + bitN body jw wd) := by rw [IntKind.wrap_u64, IntKind.wrap_u64]; unfold wrap64; omega
                    obtain ⟨v, hv⟩ : ∃ v, wrap64 (low + bitN body jw wd) = v := ⟨_, rfl⟩
                    rw [hv] at hat hlowC hcv hcv2
                    have HAT := Lib.hid hat
                    have HLC := Lib.hid hlowC
                    generalize bitN body jw wd = bv at *
                    clear hat hlowC hbr hv hjw
                    go_wp2_with fail
                    refine (HBT.out _ (HBODY.out.below HBW.out)).mono ?_
                    rintro e wr' ⟨rfl, rfl⟩
                    by_cases hvl : v < low
                    · have HUN := Lib.hid (HLC.out hvl)
                      have hqq := HQ6.out.below HBW.out HQ6.out.lt
                      obtain ⟨q0, q1, q2, q3⟩ := hqq.cell
                      have f0 := hqq.f 0
                      have f1 := hqq.f 1
                      have f2 := hqq.f 2
                      have f3 := hqq.f 3
                      have qlt := hqq.lt
                      have HBZ : Hid (Below W.heap.size W wr) := HB6.out.trans (HBW.out.mono HB6.out.size)
                      clear hqq
                      go_wp2
                      refine bodyPost_ret (v := gotV 0 (.slice none 0 0) (.slice none 0 0) 5) (by simp [results, Try.results27, go_sem, q0, q1, q2, q3, gotV]) rfl (UnRPost.bad (below_four HBZ.out R HRE.out _ _ _ _) HUN.out (by decide) rfl)
                    · obtain ⟨g5, c5, w8, hr8, hrow8, hg8, _, _⟩ := run_append_one (P := Try.prog) wr V6.heap.size 22 22 3 i0 _ 8 .i64 Try.underlying22 hi hz0 hz1 hz2 rfl g j c _ HRW.out v 3 (by unfold maxLen; omega) (by omega) HBW.out.size
                      have HB8 : Hid (Below V6.heap.size V6 w8) := (HBW.out.alloc HBW.out.size _).grown hg8 (HBW.out.alloc HBW.out.size _).size (fun r e => by cases e; exact row_base HRW.out)
                      have HROW8 : Hid (w8.ownsRow V6.heap.size 3 1 (.slice (some ⟨g5, 0, none⟩) (j + 1) c5) (j + 1) ((upL.take (j + 1)).map (Value.int .i64))) := by
                        show w8.ownsRow _ _ _ _ _ _
                        rw [take_getD_snoc upL j (by rw [HUL.out]; exact hlt), HAT.out, List.map_append]
                        exact hrow8
                      have HR8 := Lib.hid hr8
                      clear hr8 hrow8 hg8
                      go_wp2_with (at_builtin; refine wpList_append_want (o := ⟨some 96, _, _, _, _, _⟩) _ rfl _ _ _ _ rfl _ _ rfl rfl _ _ HR8.out ?_)
                      go_roundw
                      case rel => exact ⟨j + 1, g5, c5, by omega, by go_num, rfl, HROW8, HB8⟩
                      case measure => simp [intOf]; omega
                  · obtain rfl : j = u := by omega
                    have hltI : ¬ (j : Int) < (j : Int) := by omega
                    have hgc : j ≤ c := (by obtain ⟨cur, _, h, _⟩ := row_block HRW.out; exact h)
                    have HLR : Hid (Rd (fun b => V6.heap.size ≤ b) wr .i64 (some ⟨g, 0, none⟩) j c upL) := by
                      have h := HRW.out
                      rw [← HUL.out, List.take_length, HUL.out] at h
                      exact Rd.of_row HUL.out.symm hgc (by omega) h
                    have hlen := HL.out
                    have hn4l := HN4.out
                    rw [List.length_drop] at hn4l
                    obtain ⟨lim, hlim⟩ : ∃ m, k1 + (k2 + 1) + size = m := ⟨_, rfl⟩
                    have hlimI : (len : Int) - ((n4 - 1 : Nat) : Int) + (size : Int) = (lim : Int) := by omega
                    have hlimL : lim ≤ len := by omega
                    have hlimI2 : (lim : Int) ≤ (len : Int) := by omega
                    have hlimC : lim ≤ cap := by omega
                    obtain ⟨m4, hm4⟩ : ∃ m, n4 - 1 = m := ⟨_, rfl⟩
                    obtain ⟨d4, hd4⟩ : ∃ m, c4 - 1 = m := ⟨_, rfl⟩
                    have hsub : (len : Int) - (m4 : Int) = ((len - m4 : Nat) : Int) := by omega
                    have hsum : (len : Int) - (m4 : Int) + (size : Int) = (lim : Int) := by omega
                    have HLIM := Lib.hid hlim
                    have HGOOD := Lib.hid (HH.out.good (by rw [HSZ.out, HBD.out, ← HBL.out]; omega))
                    have HBAD := Lib.hid (HH.out.bad ho (by rw [HSZ.out, HBD.out, ← HBL.out]; omega))
                    rw [HSZ.out, HBD.out, HUP.out, hlim] at HGOOD HBAD
                    rw [hm4, hd4] at HBODY
                    rw [hm4, hd4]
                    rw [hm4] at HBL hsh hshN hlimI
                    have hsz4 : size ≤ m4 := by omega
                    have hszI4 : (size : Int) ≤ (m4 : Int) := by omega
                    have hmd := HBODY.out.fit
                    have hm4l : m4 ≤ len := by omega
                    have HBZ : Hid (Below W.heap.size W wr) := HB6.out.trans (HBW.out.mono HB6.out.size)
                    have HBR : Hid (Rd (fun b => K b ∧ b < W.heap.size) wr .u8 a lim cap (bs.take lim)) := (HR.out.below HBZ.out).upto lim hlimL
                    have HQ7 := Lib.hid (HQ6.out.below HBW.out HQ6.out.lt)
                    have HRV : Hid (R < V6.heap.size) := HQ6.out.lt
                    have hj4 : j ≤ 4096 := by omega
                    clear hm4 hd4 hlim hlen hn4l hlimI hsub hj hlt hbI hTI hszI HRW HROW HBN HA6 HC HR3 HR4
                    go_wp2_with fail
                    refine (formR_any HUS.out hj4 HLR.out).mono ?_
                    rintro e w8 ⟨g8, c8, rfl, hc8, hrow8, hb8⟩
                    have hl8 := pack_len upL HUS.out (by rw [HUL.out]; exact hj4)
                    obtain ⟨l8, hl8e⟩ : ∃ n, (packS upL).length = n := ⟨_, rfl⟩
                    rw [hl8e] at hrow8 hc8 hl8 ⊢
                    have HD8 := Lib.hid (Rd.of_row hl8e.symm hc8 (by omega) hrow8)
                    have HBR8 := Lib.hid (HBR.out.below hb8)
                    have HLR8 := Lib.hid (HLR.out.below hb8)
                    have HQ8 := Lib.hid (HQ7.out.below hb8 HQ7.out.lt)
                    have HB8 : Hid (Below W.heap.size W w8) := HBZ.out.trans (hb8.mono HBZ.out.size)
                    clear hrow8 hc8 hb8 hl8e HBR HLR HQ7 HBZ
                    go_wp2_with fail
                    refine (same_any HD8.out HBR8.out).mono ?_
                    by_cases he : packS upL = bs.take lim
                    · rw [sameB_true he]
                      rintro e w9 ⟨rfl, hb9⟩
                      have HUN := Lib.hid (HGOOD.out he)
                      have HLR9 := Lib.hid (HLR8.out.below hb9)
                      have hqq := HQ8.out.below hb9 HQ8.out.lt
                      have HB9 : Hid (Below W.heap.size W w9) := HB8.out.trans (hb9.mono HB8.out.size)
                      obtain ⟨q0, q1, q2, q3⟩ := hqq.cell
                      have f0 := hqq.f 0
                      have f1 := hqq.f 1
                      have f2 := hqq.f 2
                      have f3 := hqq.f 3
                      have qlt := hqq.lt
                      obtain ⟨e7, he7⟩ : ∃ a', (if d4 = size then some ⟨b4, off6, none⟩ else some ⟨b4, off6 + size, none⟩ : Option Addr) = a' := ⟨_, rfl⟩
                      have HREST := Lib.hid ((HBODY.out.rest size hsz4 (d4 - size) (by omega) (by omega) e7 (fun h => by rw [← he7, if_neg (by omega)])).back HB6.out)
                      clear he hb9 hqq HB8 HQ8 HLR8
                      go_wp2
                      refine bodyPost_ret (v := gotV 0 (.slice (some ⟨g, 0, none⟩) j c) (.slice e7 (m4 - size) (d4 - size)) 0) (by simp [results, Try.results27, go_sem, q0, q1, q2, q3, gotV]) rfl ⟨below_four HB9.out R HRE.out _ _ _ _, .inl ?_⟩
                      rw [HUN.out]
                      refine ⟨rfl, _, _, _, _, _, _, rfl, ?_, ?_⟩
                      · have hne : ¬ V6.heap.size ≤ R := by have := HRV.out; omega
                        exact ((((HLR9.out.set ⟨R, 0, none⟩ _ hne).set ⟨R, 1, none⟩ _ hne).set ⟨R, 2, none⟩ _ hne).set ⟨R, 3, none⟩ _ hne).mono fun b _ h => Nat.le_trans HB6.out.size h
                      · have h := HREST.out
                        rw [← HBD.out, List.drop_drop, List.drop_drop] at h
                        rw [show k1 + (k2 + 1 + size) = lim by have := HLIM.out; omega] at h
                        exact h
                    · rw [sameB_false he]
                      rintro e w9 ⟨rfl, hb9⟩
                      have HUN := Lib.hid (HBAD.out he)
                      have hqq := HQ8.out.below hb9 HQ8.out.lt
                      have HB9 : Hid (Below W.heap.size W w9) := HB8.out.trans (hb9.mono HB8.out.size)
                      obtain ⟨q0, q1, q2, q3⟩ := hqq.cell
                      have f0 := hqq.f 0
                      have f1 := hqq.f 1
                      have f2 := hqq.f 2
                      have f3 := hqq.f 3
                      have qlt := hqq.lt
                      clear he hb9 hqq HB8 HQ8 HLR8
                      go_wp2
                      refine bodyPost_ret (v := gotV 0 (.slice none 0 0) (.slice none 0 0) 5) (by simp [results, Try.results27, go_sem, q0, q1, q2, q3, gotV]) rfl (UnRPost.bad (below_four HB9.out R HRE.out _ _ _ _) HUN.out (by decide) rfl)
        · obtain ⟨x, hxe⟩ : ∃ x, (rdS (bs.drop k1)).2.2 = x := ⟨_, rfl⟩
          rw [hxe] at hx ⊢
          have HFR : Hid ((frS (bs.drop k1)).2.2 = x) := by
            show _ = _
            unfold frS
            rw [if_pos (by rw [hxe]; exact hx), hxe]
          have HUN := Lib.hid (un_fr HRD.out (by rw [HU.out]; omega) (by rw [HU.out]; omega) (by rw [HK1.out]; exact HFR.out) hx)
          have HX := Lib.hid hx
          have hxb : (x == 0) = false := by rw [beq_eq_false_iff_ne]; exact hx
          have hxn : (x != 0) = true := by rw [bne_iff_ne]; exact hx
          clear hb5 hxe hx HQ2 HB2 HA
          simp only [gotV]
          go_upto_region 9 with fail
          have hbA : Below w5.heap.size w5 (w5.alloc (.cells #[.int .u64 0, .slice none 0 0, .slice none 0 0, .int .i64 x] 37)) := (Below.refl _ _).alloc (Nat.le_refl _) _
          have HC := Lib.hid (Quad.new w5 37 (.int .u64 0) (.slice none 0 0) (.slice none 0 0) (.int .i64 x))
          have HQ6 := Lib.hid (HQ5.out.below hbA HQ5.out.lt)
          have HB6 : Hid (Below W.heap.size W (w5.alloc (.cells #[.int .u64 0, .slice none 0 0, .slice none 0 0, .int .i64 x] 37))) := HB5.out.trans (hbA.mono HB5.out.size)
          obtain ⟨C, hC⟩ : ∃ B, w5.heap.size = B := ⟨_, rfl⟩
          rw [hC] at HC ⊢
          clear hbA hC HB5 HQ5
          generalize w5.alloc (.cells #[.int .u64 0, .slice none 0 0, .slice none 0 0, .int .i64 x] 37) = V6 at *
          have r3 := HC.out.cell.2.2.2
          obtain ⟨q0, q1, q2, q3⟩ := HQ6.out.cell
          have f0 := HQ6.out.f 0
          have f1 := HQ6.out.f 1
          have f2 := HQ6.out.f 2
          have f3 := HQ6.out.f 3
          have qlt := HQ6.out.lt
          go_wp2
          refine bodyPost_ret (v := gotV 0 (.slice none 0 0) (.slice none 0 0) x) (by simp [results, Try.results27, go_sem, q0, q1, q2, q3, gotV]) rfl (UnRPost.bad (below_four HB6.out R HRE.out _ _ _ _) HUN.out HX.out rfl)
  · obtain ⟨x, hxe⟩ : ∃ x, (rdS bs).2.2 = x := ⟨_, rfl⟩
    rw [hxe] at hx ⊢
    have HUN := Lib.hid (un_rd hxe hx)
    have HX := Lib.hid hx
    have hxb : (x == 0) = false := by rw [beq_eq_false_iff_ne]; exact hx
    have hxn : (x != 0) = true := by rw [bne_iff_ne]; exact hx
    clear hb1 hxe hx HQ HB HRV
    simp only [gotV]
    go_upto_region 2 with fail
    have hbA : Below w1.heap.size w1 (w1.alloc (.cells #[.int .u64 0, .slice none 0 0, .slice none 0 0, .int .i64 x] 37)) := (Below.refl _ _).alloc (Nat.le_refl _) _
    have HA := Lib.hid (Quad.new w1 37 (.int .u64 0) (.slice none 0 0) (.slice none 0 0) (.int .i64 x))
    have HQ2 := Lib.hid (HQ1.out.below hbA HQ1.out.lt)
    have HB2 : Hid (Below W.heap.size W (w1.alloc (.cells #[.int .u64 0, .slice none 0 0, .slice none 0 0, .int .i64 x] 37))) := HB1.out.trans (hbA.mono HB1.out.size)
    obtain ⟨A, hA⟩ : ∃ B, w1.heap.size = B := ⟨_, rfl⟩
    rw [hA] at HA ⊢
    clear hbA hA HB1 HQ1
    generalize w1.alloc (.cells #[.int .u64 0, .slice none 0 0, .slice none 0 0, .int .i64 x] 37) = V2 at *
    have r3 := HA.out.cell.2.2.2
    obtain ⟨q0, q1, q2, q3⟩ := HQ2.out.cell
    have f0 := HQ2.out.f 0
    have f1 := HQ2.out.f 1
    have f2 := HQ2.out.f 2
    have f3 := HQ2.out.f 3
    have qlt := HQ2.out.lt
    go_wp2
    refine bodyPost_ret (v := gotV 0 (.slice none 0 0) (.slice none 0 0) x) (by simp [results, Try.results27, go_sem, q0, q1, q2, q3, gotV]) rfl (UnRPost.bad (below_four HB2.out R HRE.out _ _ _ _) HUN.out HX.out rfl)

end Go.Proofs.Ythmgbnlffkhblaa
