/-
  What is read of a packed form.
-/
import Derived.Test.YtkfmgiacdlkmiaaPkUnp2
namespace Go.Proofs.Ytkfmgiacdlkmiaa
open Go.RowKit Go.Shelf Go.ChangeShapes Go.WideShapes Go.ChangeAt

/-- The list that bytes begin with; how many bytes it took; the error. -/
def unS (bs : List Int) : List Int × Nat × Int :=
  if (rdS bs).2.2 ≠ 0 then ([], 0, (rdS bs).2.2) else if 4096 < (rdS bs).1 then ([], 0, 5) else if (rdS bs).1 = 0 then ([], (rdS bs).2.1, 0) else
    if (frS (bs.drop (rdS bs).2.1)).2.2 ≠ 0 then ([], 0, (frS (bs.drop (rdS bs).2.1)).2.2) else
      if (upS (frS (bs.drop (rdS bs).2.1)).1.1 (frS (bs.drop (rdS bs).2.1)).1.2.toNat (rdS bs).1.toNat ((bs.drop (rdS bs).2.1).drop (frS (bs.drop (rdS bs).2.1)).2.1)).2.2 ≠ 0 then
        ([], 0, (upS (frS (bs.drop (rdS bs).2.1)).1.1 (frS (bs.drop (rdS bs).2.1)).1.2.toNat (rdS bs).1.toNat ((bs.drop (rdS bs).2.1).drop (frS (bs.drop (rdS bs).2.1)).2.1)).2.2)
      else ((upS (frS (bs.drop (rdS bs).2.1)).1.1 (frS (bs.drop (rdS bs).2.1)).1.2.toNat (rdS bs).1.toNat ((bs.drop (rdS bs).2.1).drop (frS (bs.drop (rdS bs).2.1)).2.1)).1,
        (rdS bs).2.1 + ((frS (bs.drop (rdS bs).2.1)).2.1 + (upS (frS (bs.drop (rdS bs).2.1)).1.1 (frS (bs.drop (rdS bs).2.1)).1.2.toNat (rdS bs).1.toNat ((bs.drop (rdS bs).2.1).drop (frS (bs.drop (rdS bs).2.1)).2.1)).2.1), 0)

theorem fr_base {bs : List Int} (ho : Oct bs) : I64 (frS bs).1.1 := by
  unfold frS
  split
  · exact ⟨by show (_ : Int) ≤ 0; decide, by show (0 : Int) ≤ _; decide⟩
  · split
    · exact ⟨by decide, by decide⟩
    · split
      · exact ⟨by decide, by decide⟩
      · exact uz_i64 (rdS_u64 ho)
theorem fr_wide {bs : List Int} (ho : Oct bs) : 0 ≤ (frS bs).1.2 ∧ (frS bs).1.2 ≤ 64 := by
  unfold frS
  split
  · exact ⟨by show (0 : Int) ≤ 0; decide, by show (0 : Int) ≤ 64; decide⟩
  · split
    · exact ⟨by decide, by decide⟩
    · split
      · exact ⟨by decide, by decide⟩
      · exact ⟨(ho.getD _).1, by show bs[_]?.getD 0 ≤ 64; omega⟩

theorem fr_good {K : Nat → Prop} {a : Option Addr} {len cap : Nat} {bs : List Int} (ho : Oct bs) {W : World} (hR : Rd K W .u8 a len cap bs) {b w : Int} {c : Nat} (h : frS bs = ((b, w), c, 0)) :
    Calls Try.prog 82 #[.slice a len cap] W fun e W' => Below W.heap.size W W' ∧ ∃ a' n, e = .returned (.tuple #[.agg #[.int .i64 b, .int .i64 w], .slice a' n n, .int .i64 0]) ∧ Rd K W .u8 a' n n (bs.drop c) :=
  (readFrame_any ho hR).mono fun e W' ⟨hb, hp⟩ => by
    rcases hp with ⟨_, a', n, he, hr⟩ | ⟨h1, _⟩
    · rw [h] at he hr; exact ⟨hb, a', n, he, hr⟩
    · rw [h] at h1; exact absurd rfl h1
theorem fr_bad {K : Nat → Prop} {a : Option Addr} {len cap : Nat} {bs : List Int} (ho : Oct bs) {W : World} (hR : Rd K W .u8 a len cap bs) {x : Int} (hx : x ≠ 0) (h : (frS bs).2.2 = x) :
    Calls Try.prog 82 #[.slice a len cap] W fun e W' => e = .returned (.tuple #[.agg #[.int .i64 0, .int .i64 0], .slice none 0 0, .int .i64 x]) ∧ Below W.heap.size W W' :=
  (readFrame_any ho hR).mono fun e W' ⟨hb, hp⟩ => by
    rcases hp with ⟨h1, _⟩ | ⟨_, he⟩
    · exact absurd (h.symm.trans h1) hx
    · rw [h] at he; exact ⟨he, hb⟩
theorem up_good {K : Nat → Prop} {a : Option Addr} {len : Nat} {bs : List Int} (ho : Oct bs) {b : Int} (hb : I64 b) {wd n : Nat} (hwd : wd ≤ 64) (hn1 : 1 ≤ n) (hn : n ≤ 4096) {W : World} (hR : Rd K W .u8 a len len bs) {l : List Int} {c : Nat} (h : upS b wd n bs = (l, c, 0)) :
    Calls Try.prog 83 #[.agg #[.int .i64 b, .int .i64 wd], .int .i64 n, .slice a len len] W fun e W' => Below W.heap.size W W' ∧ ∃ g a' m, e = .returned (.tuple #[.slice (some ⟨g, 0, none⟩) n n, .slice a' m m, .int .i64 0]) ∧
      W'.ownsRow W.heap.size 3 1 (.slice (some ⟨g, 0, none⟩) n n) n (l.map (Value.int .i64)) ∧ Rd K W .u8 a' m m (bs.drop c) :=
  (unpack_any ho b hb wd n hwd hn1 hn hR).mono fun e W' ⟨hbl, hp⟩ => by
    rcases hp with ⟨_, g, a', m, he, hrow, hr⟩ | ⟨h1, _⟩
    · rw [h] at hrow hr; exact ⟨hbl, g, a', m, he, hrow, hr⟩
    · rw [h] at h1; exact absurd rfl h1
theorem up_bad {K : Nat → Prop} {a : Option Addr} {len : Nat} {bs : List Int} (ho : Oct bs) {b : Int} (hb : I64 b) {wd n : Nat} (hwd : wd ≤ 64) (hn1 : 1 ≤ n) (hn : n ≤ 4096) {W : World} (hR : Rd K W .u8 a len len bs) {x : Int} (hx : x ≠ 0) (h : (upS b wd n bs).2.2 = x) :
    Calls Try.prog 83 #[.agg #[.int .i64 b, .int .i64 wd], .int .i64 n, .slice a len len] W fun e W' => e = .returned (.tuple #[.slice none 0 0, .slice none 0 0, .int .i64 x]) ∧ Below W.heap.size W W' :=
  (unpack_any ho b hb wd n hwd hn1 hn hR).mono fun e W' ⟨hbl, hp⟩ => by
    rcases hp with ⟨h1, _⟩ | ⟨_, he⟩
    · exact absurd (h.symm.trans h1) hx
    · rw [h] at he; exact ⟨he, hbl⟩

/-- What reading a packed form comes to. -/
def UnPost (K : Nat → Prop) (bs : List Int) (W : World) (e : Ending) (W' : World) : Prop :=
  Below W.heap.size W W' ∧ (((unS bs).2.2 = 0 ∧ ∃ a1 n1 a2 m, e = .returned (.tuple #[.slice a1 n1 n1, .slice a2 m m, .int .i64 0]) ∧ Rd (fun b => W.heap.size ≤ b) W' .i64 a1 n1 n1 (unS bs).1 ∧ Rd K W .u8 a2 m m (bs.drop (unS bs).2.1)) ∨
    ((unS bs).2.2 ≠ 0 ∧ e = .returned (.tuple #[.slice none 0 0, .slice none 0 0, .int .i64 (unS bs).2.2])))

theorem UnPost.bad {K : Nat → Prop} {bs : List Int} {W W' : World} {e : Ending} {x : Int} (h : unS bs = ([], 0, x)) (hx : x ≠ 0) (hb : Below W.heap.size W W') (he : e = .returned (.tuple #[.slice none 0 0, .slice none 0 0, .int .i64 x])) : UnPost K bs W e W' :=
  ⟨hb, .inr ⟨by rw [h]; exact hx, by rw [h]; exact he⟩⟩
theorem UnPost.good {K : Nat → Prop} {bs : List Int} {W W' : World} {e : Ending} {l : List Int} {c : Nat} {a1 a2 : Option Addr} {n1 m : Nat} (h : unS bs = (l, c, 0)) (hb : Below W.heap.size W W') (he : e = .returned (.tuple #[.slice a1 n1 n1, .slice a2 m m, .int .i64 0]))
    (hR : Rd (fun b => W.heap.size ≤ b) W' .i64 a1 n1 n1 l) (hR2 : Rd K W .u8 a2 m m (bs.drop c)) : UnPost K bs W e W' :=
  ⟨hb, .inl ⟨by rw [h], a1, n1, a2, m, he, by rw [h]; exact hR, by rw [h]; exact hR2⟩⟩

set_option maxRecDepth 100000 in
set_option maxHeartbeats 2000000 in
theorem Unpack_any {K : Nat → Prop} {a : Option Addr} {len cap : Nat} {bs : List Int} (ho : Oct bs) {W : World} (hR : Rd K W .u8 a len cap bs) :
    Calls Try.prog 69 #[.slice a len cap] W (UnPost K bs W) := by
  have huu := rdS_u64 ho
  by_cases hx : (rdS bs).2.2 = 0
  · obtain ⟨u, hue⟩ : ∃ u, (rdS bs).1 = u := ⟨_, rfl⟩
    obtain ⟨c, hce⟩ : ∃ c, (rdS bs).2.1 = c := ⟨_, rfl⟩
    have hrd : rdS bs = (u, c, 0) := by rw [← hue, ← hce, ← hx]
    rw [hue] at huu
    obtain ⟨n, rfl⟩ := Int.eq_ofNat_of_zero_le huu.1
    have hun : unS bs = if 4096 < (n : Int) then ([], 0, 5) else if (n : Int) = 0 then ([], c, 0) else
      if (frS (bs.drop c)).2.2 ≠ 0 then ([], 0, (frS (bs.drop c)).2.2) else
      if (upS (frS (bs.drop c)).1.1 (frS (bs.drop c)).1.2.toNat n ((bs.drop c).drop (frS (bs.drop c)).2.1)).2.2 ≠ 0 then ([], 0, (upS (frS (bs.drop c)).1.1 (frS (bs.drop c)).1.2.toNat n ((bs.drop c).drop (frS (bs.drop c)).2.1)).2.2)
      else ((upS (frS (bs.drop c)).1.1 (frS (bs.drop c)).1.2.toNat n ((bs.drop c).drop (frS (bs.drop c)).2.1)).1, c + ((frS (bs.drop c)).2.1 + (upS (frS (bs.drop c)).1.1 (frS (bs.drop c)).1.2.toNat n ((bs.drop c).drop (frS (bs.drop c)).2.1)).2.1), 0) := by
      unfold unS
      rw [hrd, if_neg (by simp)]
      rfl
    have HRG := Lib.hid (read_good ho (hR.mono (K' := fun b => K b ∧ b < W.heap.size) (fun b hlt hk => ⟨hk, hlt⟩)) hrd)
    clear hx hue hce hrd
    have hod := ho.drop c
    by_cases h1 : 4096 < (n : Int)
    · rw [if_pos h1] at hun
      have HF := Lib.hid hun
      clear hun hR
      go_enter Try.func69, Try.ntmps69
      go_wp2_with fail
      refine HRG.out.mono ?_
      rintro e w' ⟨rfl, a1, m, rfl, hR1⟩
      clear hR1
      go_wp2
      go_ret3
      exact UnPost.bad HF.out (by decide) (Below.refl _ _) rfl
    · rw [if_neg h1] at hun
      by_cases h0 : n = 0
      · subst h0
        rw [if_pos (by rfl)] at hun
        have HF := Lib.hid hun
        clear hun hR h1
        go_enter Try.func69, Try.ntmps69
        go_wp2_with fail
        refine HRG.out.mono ?_
        rintro e w' ⟨rfl, a1, m, rfl, hR1⟩
        have HR1 := Lib.hid hR1
        clear hR1
        go_wp2
        go_ret3
        exact UnPost.good HF.out (Below.refl _ _) rfl Rd.empty (HR1.out.mono fun _ _ h => h.1)
      · rw [if_neg (by omega)] at hun
        have hn4 : n ≤ 4096 := by omega
        have hn1 : 1 ≤ n := by omega
        have hnb : ((n : Int) == 0) = false := by rw [beq_eq_false_iff_ne]; omega
        clear h1 h0
        by_cases hf : (frS (bs.drop c)).2.2 = 0
        · rw [if_neg (by rw [hf]; simp)] at hun
          obtain ⟨b, hbe⟩ : ∃ b, (frS (bs.drop c)).1.1 = b := ⟨_, rfl⟩
          obtain ⟨wI, hwe⟩ : ∃ w, (frS (bs.drop c)).1.2 = w := ⟨_, rfl⟩
          obtain ⟨c2, hce2⟩ : ∃ c2, (frS (bs.drop c)).2.1 = c2 := ⟨_, rfl⟩
          have hb64 := fr_base hod
          have hw64 := fr_wide hod
          have hfr : frS (bs.drop c) = ((b, wI), c2, 0) := by rw [← hbe, ← hwe, ← hce2, ← hf]
          rw [hbe, hwe, hce2] at hun
          rw [hbe] at hb64
          rw [hwe] at hw64
          obtain ⟨wd, rfl⟩ := Int.eq_ofNat_of_zero_le hw64.1
          rw [Int.toNat_natCast] at hun
          have hwd : wd ≤ 64 := by omega
          have HFR := Lib.hid hfr
          have hodd := hod.drop c2
          clear hf hbe hwe hce2 hfr hw64
          by_cases hu : (upS b wd n ((bs.drop c).drop c2)).2.2 = 0
          · rw [if_neg (by rw [hu]; simp)] at hun
            obtain ⟨l, hle⟩ : ∃ l, (upS b wd n ((bs.drop c).drop c2)).1 = l := ⟨_, rfl⟩
            obtain ⟨c3, hce3⟩ : ∃ c3, (upS b wd n ((bs.drop c).drop c2)).2.1 = c3 := ⟨_, rfl⟩
            have hup : upS b wd n ((bs.drop c).drop c2) = (l, c3, 0) := by rw [← hle, ← hce3, ← hu]
            rw [hle, hce3] at hun
            have HF := Lib.hid hun
            have HUP := Lib.hid hup
            clear hun hR hu hle hce3 hup
            go_enter Try.func69, Try.ntmps69
            go_wp2_with fail
            refine HRG.out.mono ?_
            rintro e w' ⟨rfl, a1, m, rfl, hR1⟩
            have HR1 := Lib.hid hR1
            clear hR1
            go_wp2_with fail
            refine (fr_good hod HR1.out HFR.out).mono ?_
            rintro e w2 ⟨hb2, a2, m2, rfl, hR2⟩
            have HB2 := Lib.hid hb2
            have HR2 := Lib.hid hR2
            clear hb2 hR2
            go_wp2_with fail
            refine (up_good hodd hb64 hwd hn1 hn4 ((HR2.out.below HB2.out).below ((Below.refl _ _).alloc (Nat.le_refl _) _)) HUP.out).mono ?_
            rintro e w3 ⟨hb3, g, a3, m3, rfl, hrow, hR3⟩
            have HBA : Hid (Below W.heap.size W (w2.alloc (.cells #[.int .i64 b, .int .i64 wd] 72))) := HB2.out.alloc HB2.out.size _
            have HB3 : Hid (Below W.heap.size W w3) := HBA.out.trans (hb3.mono (by have := HB2.out.size; simp; omega))
            have HRR : Hid (Rd K W .u8 a3 m3 m3 (bs.drop (c + (c2 + c3)))) := by
              have := hR3.back HBA.out
              rwa [List.drop_drop, List.drop_drop] at this
            have hll : n = l.length := by
              have := hrow.1
              rw [List.length_map] at this
              omega
            have HROW : Hid (Rd (fun b => W.heap.size ≤ b) w3 .i64 (some ⟨g, 0, none⟩) n n l) := (Rd.of_row hll (Nat.le_refl _) (by omega) hrow).mono fun i _ h => by have := HB2.out.size; simp at h; omega
            clear hb3 hR3 hrow hll
            go_wp2
            go_ret3
            exact UnPost.good HF.out HB3.out rfl HROW.out HRR.out
          · rw [if_pos hu] at hun
            have HUP := Lib.hid hu
            generalize hxe : (upS b wd n ((bs.drop c).drop c2)).2.2 = x at *
            have HXE := Lib.hid hxe
            have HF := Lib.hid hun
            clear hun hR hxe hu
            go_enter Try.func69, Try.ntmps69
            go_wp2_with fail
            refine HRG.out.mono ?_
            rintro e w' ⟨rfl, a1, m, rfl, hR1⟩
            have HR1 := Lib.hid hR1
            clear hR1
            go_wp2_with fail
            refine (fr_good hod HR1.out HFR.out).mono ?_
            rintro e w2 ⟨hb2, a2, m2, rfl, hR2⟩
            have HB2 := Lib.hid hb2
            have HR2 := Lib.hid hR2
            clear hb2 hR2
            go_wp2_with fail
            refine (up_bad hodd hb64 hwd hn1 hn4 ((HR2.out.below HB2.out).below ((Below.refl _ _).alloc (Nat.le_refl _) _)) HUP.out HXE.out).mono ?_
            rintro e w3 ⟨rfl, hb3⟩
            have HB3 : Hid (Below W.heap.size W w3) := (HB2.out.alloc HB2.out.size _).trans (hb3.mono (by have := HB2.out.size; simp; omega))
            clear hb3
            go_wp2
            go_ret3
            exact UnPost.bad HF.out HUP.out HB3.out rfl
        · rw [if_pos hf] at hun
          have HFF := Lib.hid hf
          generalize hxe : (frS (bs.drop c)).2.2 = x at *
          have HXE := Lib.hid hxe
          have HF := Lib.hid hun
          have hxb : (x != 0) = true := by simpa using hf
          clear hun hR hxe hf
          go_enter Try.func69, Try.ntmps69
          go_wp2_with fail
          refine HRG.out.mono ?_
          rintro e w' ⟨rfl, a1, m, rfl, hR1⟩
          have HR1 := Lib.hid hR1
          clear hR1
          go_wp2_with fail
          refine (fr_bad hod HR1.out HFF.out HXE.out).mono ?_
          rintro e w2 ⟨rfl, hb2⟩
          have HB2 := Lib.hid hb2
          clear hb2
          go_wp2
          go_ret3
          exact UnPost.bad HF.out HFF.out (HB2.out.alloc HB2.out.size _) rfl
  · have hun : unS bs = ([], 0, (rdS bs).2.2) := by unfold unS; rw [if_pos hx]
    have HRB := Lib.hid (read_bad ho hR hx rfl)
    have HXX := Lib.hid hx
    have hxb : ((rdS bs).2.2 != 0) = true := by simpa using hx
    clear hx hR
    generalize (rdS bs).2.2 = x at *
    have HF := Lib.hid hun
    clear hun
    go_enter Try.func69, Try.ntmps69
    go_wp2_with fail
    refine HRB.out.mono ?_
    rintro e w' ⟨rfl, rfl⟩
    go_wp2
    go_ret3
    exact UnPost.bad HF.out HXX.out (Below.refl _ _) rfl

end Go.Proofs.Ytkfmgiacdlkmiaa
