/-
  What is unpacked in each of the forms.
-/
import Derived.Test.YtmbcppkdnoccbaaRnParts
import Derived.Test.YtmbcppkdnoccbaaPkCanMath
namespace Go.Proofs.Ytmbcppkdnoccbaa
open Go.RowKit Go.Shelf Go.ChangeShapes Go.WideShapes Go.ChangeAt

theorem up_smalls4 (b : Int) (wd n : Nat) (bs : List Int) : Smalls (upS b wd n bs).1 := by
  unfold upS
  split
  · intro x hx; cases hx
  · split
    · intro x hx
      unfold upList elB at hx
      obtain ⟨e, _, rfl⟩ := List.mem_map.1 hx
      unfold elV I64 wrap64
      omega
    · intro x hx; cases hx
theorem un_smalls4 (bs : List Int) : Smalls (unS bs).1 := by
  unfold unS
  split
  · intro x hx; cases hx
  · split
    · intro x hx; cases hx
    · split
      · intro x hx; cases hx
      · split
        · intro x hx; cases hx
        · split
          · intro x hx; cases hx
          · exact up_smalls4 _ _ _ _
theorem ex_smalls {vs ns : List Int} (h : Smalls vs) : Smalls (ex (pz vs ns)) := by
  intro x hx
  unfold ex pz at hx
  obtain ⟨p, hp, hx⟩ := List.mem_flatMap.1 hx
  have := (List.mem_replicate.1 hx).2
  subst this
  exact h _ (List.of_mem_zip hp).1
theorem xp_smalls {vs ns : List Int} (h : Smalls vs) : Smalls (xpS vs ns).1 := by
  unfold xpS
  split
  · split
    · exact ex_smalls h
    · intro x hx; cases hx
  · intro x hx; cases hx

/-- What is unpacked of runs: the list, how many bytes it took, the error. -/
def urS (bs : List Int) : List Int × Nat × Int :=
  if (unS bs).2.2 ≠ 0 then ([], 0, (unS bs).2.2) else
  if (unS (bs.drop (unS bs).2.1)).2.2 ≠ 0 then ([], 0, (unS (bs.drop (unS bs).2.1)).2.2) else
  if (xpS (unS bs).1 (unS (bs.drop (unS bs).2.1)).1).2 ≠ 0 then ([], 0, 5) else
  ((xpS (unS bs).1 (unS (bs.drop (unS bs).2.1)).1).1, (unS bs).2.1 + (unS (bs.drop (unS bs).2.1)).2.1, 0)
theorem ur_smalls (bs : List Int) : Smalls (urS bs).1 := by
  unfold urS
  split
  · intro x hx; cases hx
  · split
    · intro x hx; cases hx
    · split
      · intro x hx; cases hx
      · exact xp_smalls (un_smalls4 _)

/-- What unpacking comes to, in whichever form. -/
def UkPost (K : Nat → Prop) (bs : List Int) (us : List Int × Nat × Int) (W : World) (e : Ending) (W' : World) : Prop :=
  Below W.heap.size W W' ∧ ((us.2.2 = 0 ∧ ∃ a1 n1 c1 a2 m, e = .returned (.tuple #[.slice a1 n1 c1, .slice a2 m m, .int .i64 0]) ∧ Rd (fun b => W.heap.size ≤ b) W' .i64 a1 n1 c1 us.1 ∧ Rd K W .u8 a2 m m (bs.drop us.2.1)) ∨
    (us.2.2 ≠ 0 ∧ ∃ a1 c1, e = .returned (.tuple #[.slice a1 0 c1, .slice none 0 0, .int .i64 us.2.2]) ∧ c1 ≤ 9223372036854775807))

theorem UkPost.bad {K : Nat → Prop} {bs : List Int} {us : List Int × Nat × Int} {W W' : World} {e : Ending} {x : Int} (h : us = ([], 0, x)) (hx : x ≠ 0) (hb : Below W.heap.size W W') (he : e = .returned (.tuple #[.slice none 0 0, .slice none 0 0, .int .i64 x])) : UkPost K bs us W e W' :=
  ⟨hb, .inr ⟨by rw [h]; exact hx, none, 0, by rw [h]; exact he, by decide⟩⟩

theorem uk0_any {K : Nat → Prop} {a : Option Addr} {len cap : Nat} {bs : List Int} (ho : Oct bs) {W : World} (hR : Rd K W .u8 a len cap bs) :
    Calls Try.prog 75 #[.slice a len cap] W (UkPost K bs (unS bs) W) :=
  (Unpack_any ho hR).mono fun _ _ ⟨hb, hp⟩ => ⟨hb, hp.imp (fun ⟨h1, a1, n1, a2, m, he, h2, h3⟩ => ⟨h1, a1, n1, n1, a2, m, he, h2, h3⟩) (fun ⟨h1, he⟩ => ⟨h1, none, 0, he, by decide⟩)⟩

set_option maxRecDepth 100000 in
set_option maxHeartbeats 2000000 in
theorem uk1_any {K : Nat → Prop} {a : Option Addr} {len cap : Nat} {bs : List Int} (ho : Oct bs) {W : World} (hR : Rd K W .u8 a len cap bs) :
    Calls Try.prog 77 #[.slice a len cap] W (UkPost K bs (urS bs) W) := by
  by_cases h1 : (unS bs).2.2 = 0
  · obtain ⟨vs, hv⟩ : ∃ vs, (unS bs).1 = vs := ⟨_, rfl⟩
    obtain ⟨c1, hc1⟩ : ∃ c1, (unS bs).2.1 = c1 := ⟨_, rfl⟩
    have hu1 : unS bs = (vs, c1, 0) := by rw [← hv, ← hc1, ← h1]
    have hvs : Smalls vs := by have := un_smalls4 bs; rwa [hv] at this
    have hur : urS bs = if (unS (bs.drop c1)).2.2 ≠ 0 then ([], 0, (unS (bs.drop c1)).2.2) else if (xpS vs (unS (bs.drop c1)).1).2 ≠ 0 then ([], 0, 5) else ((xpS vs (unS (bs.drop c1)).1).1, c1 + (unS (bs.drop c1)).2.1, 0) := by
      unfold urS; rw [hu1, if_neg (by simp)]
    have HU1 := Lib.hid (un_good ho (hR.mono (K' := fun b => K b ∧ b < W.heap.size) fun b hlt hk => ⟨hk, hlt⟩) hu1)
    have hod := ho.drop c1
    clear hv hc1 h1 hu1 hR
    by_cases h2 : (unS (bs.drop c1)).2.2 = 0
    · obtain ⟨ns, hn⟩ : ∃ ns, (unS (bs.drop c1)).1 = ns := ⟨_, rfl⟩
      obtain ⟨c2, hc2⟩ : ∃ c2, (unS (bs.drop c1)).2.1 = c2 := ⟨_, rfl⟩
      have hu2 : unS (bs.drop c1) = (ns, c2, 0) := by rw [← hn, ← hc2, ← h2]
      have hns : Smalls ns := by have := un_smalls4 (bs.drop c1); rwa [hn] at this
      rw [hu2, if_neg (by simp)] at hur
      simp only at hur
      have HU2 := Lib.hid hu2
      clear hn hc2 h2 hu2
      by_cases h3 : (xpS vs ns).2 = 0
      · rw [if_neg (by rw [h3]; simp)] at hur
        have HUR := Lib.hid hur
        have H3 := Lib.hid h3
        clear hur h3
        go_enter Try.func77, Try.ntmps77
        go_wp2_with fail
        refine HU1.out.mono ?_
        rintro e w1 ⟨hb1, a1, n1, a2, m1, rfl, hr1, hr2⟩
        have HB1 := Lib.hid hb1
        have HR1 := Lib.hid hr1
        have HR2 := Lib.hid hr2
        clear hb1 hr1 hr2
        go_wp2_with fail
        refine (un_good hod (HR2.out.below HB1.out) HU2.out).mono ?_
        rintro e w2 ⟨hb2, a3, n3, a4, m4, rfl, hr3, hr4⟩
        have HB2 : Hid (Below W.heap.size W w2) := HB1.out.trans (hb2.mono HB1.out.size)
        have HR3 := Lib.hid hr3
        have HR1' := Lib.hid (HR1.out.below hb2)
        have HR4 : Hid (Rd K W .u8 a4 m4 m4 ((bs.drop c1).drop c2)) := hr4.back HB1.out
        clear hb2 hr3 hr4
        go_wp2_with fail
        refine (expand_any hns HR1'.out HR3.out).mono ?_
        rintro e w3 ⟨a5, n5, c5, rfl, hr5, hb3⟩
        have HB3 : Hid (Below W.heap.size W w3) := HB2.out.trans (hb3.mono HB2.out.size)
        have HR5 := Lib.hid hr5
        have hlt2 := HB2.out.size
        clear hr5 hb3
        rw [H3.out]
        go_wp2
        go_ret3
        refine ⟨HB3.out, .inl ⟨by rw [HUR.out], a5, n5, c5, a4, m4, rfl, ?_, ?_⟩⟩
        · rw [HUR.out]; exact HR5.out.mono fun b _ h => by omega
        · rw [HUR.out]; have := HR4.out; rwa [List.drop_drop] at this
      · rw [if_pos h3] at hur
        have HUR := Lib.hid hur
        generalize hx : (xpS vs ns).2 = x at *
        have HX := Lib.hid hx
        have hxb : (x != 0) = true := by simpa using h3
        clear hur hx h3
        go_enter Try.func77, Try.ntmps77
        go_wp2_with fail
        refine HU1.out.mono ?_
        rintro e w1 ⟨hb1, a1, n1, a2, m1, rfl, hr1, hr2⟩
        have HB1 := Lib.hid hb1
        have HR1 := Lib.hid hr1
        have HR2 := Lib.hid hr2
        clear hb1 hr1 hr2
        go_wp2_with fail
        refine (un_good hod (HR2.out.below HB1.out) HU2.out).mono ?_
        rintro e w2 ⟨hb2, a3, n3, a4, m4, rfl, hr3, hr4⟩
        have HB2 : Hid (Below W.heap.size W w2) := HB1.out.trans (hb2.mono HB1.out.size)
        have HR3 := Lib.hid hr3
        have HR1' := Lib.hid (HR1.out.below hb2)
        clear hb2 hr3 hr4
        go_wp2_with fail
        refine (expand_any hns HR1'.out HR3.out).mono ?_
        rintro e w3 ⟨a5, n5, c5, rfl, hr5, hb3⟩
        have HB3 : Hid (Below W.heap.size W w3) := HB2.out.trans (hb3.mono HB2.out.size)
        clear hr5 hb3
        rw [HX.out]
        go_wp2
        go_ret3
        exact UkPost.bad HUR.out (by decide) HB3.out rfl
    · rw [if_pos h2] at hur
      have HU2 := Lib.hid h2
      generalize hx : (unS (bs.drop c1)).2.2 = x at *
      have HX := Lib.hid hx
      have HUR := Lib.hid hur
      have hxb : (x != 0) = true := by simpa using h2
      clear hur hx h2
      go_enter Try.func77, Try.ntmps77
      go_wp2_with fail
      refine HU1.out.mono ?_
      rintro e w1 ⟨hb1, a1, n1, a2, m1, rfl, hr1, hr2⟩
      have HB1 := Lib.hid hb1
      have HR2 := Lib.hid hr2
      clear hb1 hr1 hr2
      go_wp2_with fail
      refine (un_bad hod (HR2.out.below HB1.out) HU2.out HX.out).mono ?_
      rintro e w2 ⟨rfl, hb2⟩
      have HB2 : Hid (Below W.heap.size W w2) := HB1.out.trans (hb2.mono HB1.out.size)
      clear hb2
      go_wp2
      go_ret3
      exact UkPost.bad HUR.out HU2.out HB2.out rfl
  · have hur : urS bs = ([], 0, (unS bs).2.2) := by unfold urS; rw [if_pos h1]
    have HU1 := Lib.hid (un_bad ho hR h1 rfl)
    have HX := Lib.hid h1
    have hxb : ((unS bs).2.2 != 0) = true := by simpa using h1
    clear h1 hR
    generalize (unS bs).2.2 = x at *
    have HUR := Lib.hid hur
    clear hur
    go_enter Try.func77, Try.ntmps77
    go_wp2_with fail
    refine HU1.out.mono ?_
    rintro e w1 ⟨rfl, hb1⟩
    have HB1 := Lib.hid hb1
    clear hb1
    go_wp2
    go_ret3
    exact UkPost.bad HUR.out HX.out HB1.out rfl

/-- The same, of differences. -/
def smU (us : List Int × Nat × Int) : List Int × Nat × Int := (smS us.1, us.2)

theorem un_len {bs : List Int} (ho : Oct bs) (h : (unS bs).2.2 = 0) : (unS bs).1.length ≤ 4096 := (un_canon ho (show unS bs = ((unS bs).1, (unS bs).2.1, 0) by rw [← h])).1
theorem ur_len {bs : List Int} (h : (urS bs).2.2 = 0) : (urS bs).1.length ≤ 4096 := by
  unfold urS at h ⊢
  split at h
  · rename_i h1; exact absurd h h1
  · rename_i h1
    split at h
    · rename_i h2; exact absurd h h2
    · rename_i h2
      split at h
      · simp at h
      · rename_i h3
        rw [if_neg h1, if_neg h2, if_neg h3]
        have h3 : (xpS (unS bs).1 (unS (bs.drop (unS bs).2.1)).1).2 = 0 := by simpa using h3
        exact (xpS_back (zs := (xpS (unS bs).1 (unS (bs.drop (unS bs).2.1)).1).1) (by rw [← h3])).2.2

set_option maxRecDepth 100000 in
set_option maxHeartbeats 2000000 in
theorem od2_0 {K : Nat → Prop} {a : Option Addr} {len cap : Nat} {bs : List Int} (ho : Oct bs) {W : World} (hR : Rd K W .u8 a len cap bs) (B : Nat) (hP : Pair W B 84 (.func (.func 74) #[] #[]) (.func (.func 75) #[] #[])) :
    Calls Try.prog 100 #[.slice a len cap, .pointer (some ⟨B, 0, none⟩)] W (UkPost K bs (smU (unS bs)) W) := by
  have HU := Lib.hid (uk0_any ho hR)
  have hc := hP.c1
  have HSM := Lib.hid (un_smalls4 bs)
  have HLN : Hid ((unS bs).2.2 = 0 → (unS bs).1.length ≤ 1099511627776) := fun h => Nat.le_trans (un_len ho h) (by decide)
  clear hP hR
  go_enter Try.func100, Try.ntmps100
  go_wp2_with fail
  refine HU.out.mono ?_
  rintro e w1 ⟨hb1, ⟨h0, a1, n1, c1, a2, m, rfl, hr1, hr2⟩ | ⟨hx, a1, c1, rfl, hc1⟩⟩
  · have HB1 := Lib.hid hb1
    have HR2 := Lib.hid hr2
    have HSU : Hid (Calls Try.prog 21 #[.slice a1 n1 c1] w1 (MakesL w1 (smS (unS bs).1))) := sums_any HSM.out (by rw [hr1.hl]; exact HLN.out h0) hr1
    have H0 := Lib.hid h0
    have hlt := hb1.size
    clear hb1 hr1 hr2 h0
    go_wp2_with fail
    refine HSU.out.mono ?_
    rintro e w2 ⟨a3, n3, c3, rfl, hr3, hb2⟩
    have HB2 : Hid (Below W.heap.size W w2) := HB1.out.trans (hb2.mono HB1.out.size)
    have HR3 := Lib.hid hr3
    clear hb2 hr3
    go_wp2
    go_ret3
    exact ⟨HB2.out, .inl ⟨H0.out, a3, n3, c3, a2, m, rfl, HR3.out.mono fun b _ h => by omega, HR2.out⟩⟩
  · have HB1 := Lib.hid hb1
    have HX := Lib.hid hx
    clear hb1 hx
    have HSU : Hid (Calls Try.prog 21 #[.slice a1 0 c1] w1 (MakesL w1 (smS []))) := sums_any (K := fun _ => True) (fun x hx => by cases hx) (by decide) ⟨rfl, Nat.zero_le _, hc1, by decide, fun h => absurd h (by decide)⟩
    obtain ⟨x, hxe⟩ : ∃ x, (unS bs).2.2 = x := ⟨_, rfl⟩
    rw [hxe]
    have HXE := Lib.hid hxe
    clear hxe
    go_wp2_with fail
    refine HSU.out.mono ?_
    rintro e w2 ⟨a3, n3, c3, rfl, hr3, hb2⟩
    have HB2 : Hid (Below W.heap.size W w2) := HB1.out.trans (hb2.mono HB1.out.size)
    obtain rfl : n3 = 0 := hr3.hl
    have hc3 := hr3.top
    clear hb2 hr3
    go_wp2
    go_ret3
    exact ⟨HB2.out, .inr ⟨HX.out, a3, c3, by rw [show (smU (unS bs)).2.2 = x from HXE.out]; rfl, hc3⟩⟩

set_option maxRecDepth 100000 in
set_option maxHeartbeats 2000000 in
theorem od2_1 {K : Nat → Prop} {a : Option Addr} {len cap : Nat} {bs : List Int} (ho : Oct bs) {W : World} (hR : Rd K W .u8 a len cap bs) (B : Nat) (hP : Pair W B 84 (.func (.func 76) #[] #[]) (.func (.func 77) #[] #[])) :
    Calls Try.prog 100 #[.slice a len cap, .pointer (some ⟨B, 0, none⟩)] W (UkPost K bs (smU (urS bs)) W) := by
  have HU := Lib.hid (uk1_any ho hR)
  have hc := hP.c1
  have HSM := Lib.hid (ur_smalls bs)
  have HLN : Hid ((urS bs).2.2 = 0 → (urS bs).1.length ≤ 1099511627776) := fun h => Nat.le_trans (ur_len h) (by decide)
  clear hP hR
  go_enter Try.func100, Try.ntmps100
  go_wp2_with fail
  refine HU.out.mono ?_
  rintro e w1 ⟨hb1, ⟨h0, a1, n1, c1, a2, m, rfl, hr1, hr2⟩ | ⟨hx, a1, c1, rfl, hc1⟩⟩
  · have HB1 := Lib.hid hb1
    have HR2 := Lib.hid hr2
    have HSU : Hid (Calls Try.prog 21 #[.slice a1 n1 c1] w1 (MakesL w1 (smS (urS bs).1))) := sums_any HSM.out (by rw [hr1.hl]; exact HLN.out h0) hr1
    have H0 := Lib.hid h0
    have hlt := hb1.size
    clear hb1 hr1 hr2 h0
    go_wp2_with fail
    refine HSU.out.mono ?_
    rintro e w2 ⟨a3, n3, c3, rfl, hr3, hb2⟩
    have HB2 : Hid (Below W.heap.size W w2) := HB1.out.trans (hb2.mono HB1.out.size)
    have HR3 := Lib.hid hr3
    clear hb2 hr3
    go_wp2
    go_ret3
    exact ⟨HB2.out, .inl ⟨H0.out, a3, n3, c3, a2, m, rfl, HR3.out.mono fun b _ h => by omega, HR2.out⟩⟩
  · have HB1 := Lib.hid hb1
    have HX := Lib.hid hx
    clear hb1 hx
    have HSU : Hid (Calls Try.prog 21 #[.slice a1 0 c1] w1 (MakesL w1 (smS []))) := sums_any (K := fun _ => True) (fun x hx => by cases hx) (by decide) ⟨rfl, Nat.zero_le _, hc1, by decide, fun h => absurd h (by decide)⟩
    obtain ⟨x, hxe⟩ : ∃ x, (urS bs).2.2 = x := ⟨_, rfl⟩
    rw [hxe]
    have HXE := Lib.hid hxe
    clear hxe
    go_wp2_with fail
    refine HSU.out.mono ?_
    rintro e w2 ⟨a3, n3, c3, rfl, hr3, hb2⟩
    have HB2 : Hid (Below W.heap.size W w2) := HB1.out.trans (hb2.mono HB1.out.size)
    obtain rfl : n3 = 0 := hr3.hl
    have hc3 := hr3.top
    clear hb2 hr3
    go_wp2
    go_ret3
    exact ⟨HB2.out, .inr ⟨HX.out, a3, c3, by rw [show (smU (urS bs)).2.2 = x from HXE.out]; rfl, hc3⟩⟩

end Go.Proofs.Ytmbcppkdnoccbaa
