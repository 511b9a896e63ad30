/-
  What is read of a packed form: its frame.
-/
import Derived.Test.YtkfmgiacdlkmiaaPkZig
import Derived.Test.YtkfmgiacdlkmiaaPkPack
import Derived.BigRegion
namespace Go.Proofs.Ytkfmgiacdlkmiaa
open Go.RowKit Go.Shelf Go.ChangeShapes Go.WideShapes Go.ChangeAt

/-- The frame that bytes begin with: base, width; how many bytes it took; the error. -/
def frS (bs : List Int) : (Int × Int) × Nat × Int :=
  if (rdS bs).2.2 ≠ 0 then ((0, 0), 0, (rdS bs).2.2) else if bs.length ≤ (rdS bs).2.1 then ((0, 0), 0, 7) else
    if 64 < bs[(rdS bs).2.1]?.getD 0 then ((0, 0), 0, 5) else ((uz (rdS bs).1, bs[(rdS bs).2.1]?.getD 0), (rdS bs).2.1 + 1, 0)

theorem rdF_u64 : ∀ (l : List Int) (i : Nat) (a : Int), (∀ x ∈ l, 0 ≤ x ∧ x < 256) → (i ≤ 9 → 0 ≤ a ∧ a < 2 ^ (7 * i)) → U64 (rdF i a l).1
  | [], i, a, _, _ => by unfold rdF; split <;> exact ⟨by decide, by decide⟩
  | x :: r, i, a, ho, ha => by
    have hx := ho x (List.mem_cons_self ..)
    unfold rdF
    split
    · exact ⟨by decide, by decide⟩
    · rename_i hi
      have ha := ha (by omega)
      have hp : (0 : Int) < 2 ^ (7 * i) := Int.pow_pos (by decide)
      split
      · refine rdF_u64 r (i + 1) _ (fun y hy => ho y (List.mem_cons_of_mem _ hy)) (fun h9 => ?_)
        rename_i h128
        have h1 : (0 : Int) ≤ (x - 128) * 2 ^ (7 * i) := Int.mul_nonneg (by omega) (Int.le_of_lt hp)
        have h2 : (x - 128) * 2 ^ (7 * i) ≤ 127 * 2 ^ (7 * i) := Int.mul_le_mul_of_nonneg_right (by omega) (Int.le_of_lt hp)
        rw [show 7 * (i + 1) = 7 * i + 7 by omega, Int.pow_add]
        generalize (2 : Int) ^ (7 * i) = P at *
        refine ⟨by omega, ?_⟩
        show _ < P * 128
        omega
      · split
        · rename_i h128 he
          have h1 : (0 : Int) ≤ x * 2 ^ (7 * i) := Int.mul_nonneg hx.1 (Int.le_of_lt hp)
          refine ⟨by show 0 ≤ a + x * 2 ^ (7 * i); omega, ?_⟩
          show a + x * 2 ^ (7 * i) < _
          by_cases h9 : i = 9
          · subst h9
            have : x = 1 := by simpa [ends] using he
            subst this
            have := ha.2
            omega
          · have h2 : x * 2 ^ (7 * i) ≤ 127 * 2 ^ (7 * i) := Int.mul_le_mul_of_nonneg_right (by omega) (Int.le_of_lt hp)
            have h3 : (2 : Int) ^ (7 * i) ≤ 2 ^ 56 := by
              have : (2 : Nat) ^ (7 * i) ≤ 2 ^ 56 := Nat.pow_le_pow_right (by decide) (by omega)
              exact_mod_cast this
            generalize (2 : Int) ^ (7 * i) = P at *
            omega
        · exact ⟨by decide, by decide⟩
theorem rdS_u64 {bs : List Int} (ho : Oct bs) : U64 (rdS bs).1 := rdF_u64 bs 0 0 ho (fun _ => ⟨by decide, by decide⟩)

/-- What reading a frame comes to. -/
def FramePost (K : Nat → Prop) (bs : List Int) (W : World) (e : Ending) (W' : World) : Prop :=
  Below W.heap.size W W' ∧ (((frS bs).2.2 = 0 ∧ ∃ a' n, e = .returned (.tuple #[.agg #[.int .i64 (frS bs).1.1, .int .i64 (frS bs).1.2], .slice a' n n, .int .i64 0]) ∧ Rd K W .u8 a' n n (bs.drop (frS bs).2.1)) ∨
    ((frS bs).2.2 ≠ 0 ∧ e = .returned (.tuple #[.agg #[.int .i64 0, .int .i64 0], .slice none 0 0, .int .i64 (frS bs).2.2])))

theorem FramePost.bad {K : Nat → Prop} {bs : List Int} {W W' : World} {e : Ending} {x : Int} (h : frS bs = ((0, 0), 0, x)) (hx : x ≠ 0) (hb : Below W.heap.size W W') (he : e = .returned (.tuple #[.agg #[.int .i64 0, .int .i64 0], .slice none 0 0, .int .i64 x])) : FramePost K bs W e W' :=
  ⟨hb, .inr ⟨by rw [h]; exact hx, by rw [h]; exact he⟩⟩
theorem FramePost.good {K : Nat → Prop} {bs : List Int} {W W' : World} {e : Ending} {b w : Int} {c : Nat} {a' : Option Addr} {n : Nat} (h : frS bs = ((b, w), c, 0)) (hb : Below W.heap.size W W') (he : e = .returned (.tuple #[.agg #[.int .i64 b, .int .i64 w], .slice a' n n, .int .i64 0])) (hR : Rd K W .u8 a' n n (bs.drop c)) : FramePost K bs W e W' :=
  ⟨hb, .inl ⟨by rw [h], a', n, by rw [h]; exact he, by rw [h]; exact hR⟩⟩

/-- What lies in blocks that were there before can be read in the world before. -/
theorem Rd.back {K : Nat → Prop} {W V : World} {k : IntKind} {a : Option Addr} {len cap : Nat} {zs : List Int} (h : Rd (fun b => K b ∧ b < W.heap.size) V k a len cap zs) (hb : Below W.heap.size W V) : Rd K W k a len cap zs :=
  ⟨h.hl, h.fit, h.top, h.small, fun h0 => by
    obtain ⟨b, off, e, hk, hlt, hc⟩ := h.cells h0
    exact ⟨b, off, e, hk.1, hk.2, fun j hj => (World.cell?_of_block (w := W) (hb.block b hk.2)).symm.trans (hc j hj)⟩⟩

set_option maxRecDepth 100000 in
set_option maxHeartbeats 2000000 in
theorem readFrame_any {K : Nat → Prop} {a : Option Addr} {len cap : Nat} {bs : List Int} (ho : Oct bs) {W : World} (hR : Rd K W .u8 a len cap bs) :
    Calls Try.prog 82 #[.slice a len cap] W (FramePost K bs W) := by
  have H := Lib.hid hR
  have hu := rdS_u64 ho
  clear hR
  by_cases hx : (rdS bs).2.2 = 0
  · have hrd : rdS bs = ((rdS bs).1, (rdS bs).2.1, 0) := by rw [← hx]
    obtain ⟨u, hue⟩ : ∃ u, (rdS bs).1 = u := ⟨_, rfl⟩
    obtain ⟨c, hce⟩ : ∃ c, (rdS bs).2.1 = c := ⟨_, rfl⟩
    rw [hue, hce] at hrd
    rw [hue] at hu
    have HRD := Lib.hid hrd
    clear hrd hx hue hce
    go_enter Try.func82, Try.ntmps82
    go_wp2_with fail
    have hbV : Below W.heap.size W (W.alloc (.cells #[.int .i64 0, .int .i64 0] 72)) := (Below.refl _ _).alloc (Nat.le_refl _) _
    have hpV := Pair.new W 72 (.int .i64 0) (.int .i64 0)
    have hRV := (H.out.mono (K' := fun b => K b ∧ b < W.heap.size) (fun b hlt hk => ⟨hk, hlt⟩)).below hbV
    generalize W.alloc (.cells #[.int .i64 0, .int .i64 0] 72) = V at *
    have HBV := Lib.hid hbV
    refine (read_good ho hRV HRD.out).mono ?_
    rintro e w' ⟨rfl, a1, n, rfl, hR1⟩
    have p0 := hpV.c0
    have p1 := hpV.c1
    have pf0 := hpV.f 0
    have pf1 := hpV.f 1
    have plt := hpV.lt
    clear hbV hpV hRV
    have HR1 := Lib.hid hR1
    have hn1 := hR1.small
    clear hR1
    by_cases h0 : n = 0
    · subst h0
      have HF : Hid (frS bs = ((0, 0), 0, 7)) := by
        show _ = _
        have := HR1.out.hl
        rw [List.length_drop] at this
        unfold frS
        rw [HRD.out, if_neg (by simp), if_pos (by show bs.length ≤ c; omega)]
      go_wp2
      exact bodyPost_ret (v := .tuple #[.agg #[.int .i64 0, .int .i64 0], .slice none 0 0, .int .i64 7]) (by simp [results, Try.results82, go_sem, p0, p1]) rfl (FramePost.bad HF.out (by decide) ((HBV.out.setCell (Nat.le_refl _) _).setCell (Nat.le_refl _) _) rfl)
    · obtain ⟨b1, off1, rfl, hKb1, hlt1, hcs1⟩ := HR1.out.cells (by omega)
      have hcx := hcs1 0 (by omega)
      rw [Nat.add_zero] at hcx
      have hnb : ((n : Int) == 0) = false := by rw [beq_eq_false_iff_ne]; omega
      have hn0 : 0 < n := by omega
      have HX : Hid (bs[c]?.getD 0 = (bs.drop c)[0]?.getD 0) := by show _ = _; rw [List.getElem?_drop]; rfl
      have hxr := (ho.drop c).getD 0
      have HC : Hid (¬ bs.length ≤ c) := by
        have := HR1.out.hl
        rw [List.length_drop] at this
        show ¬ _
        omega
      generalize (bs.drop c)[0]?.getD 0 = x at *
      obtain ⟨hx1, hx2⟩ := hxr
      clear h0 hcs1
      by_cases h64 : 64 < x
      · have HF : Hid (frS bs = ((0, 0), 0, 5)) := by
          show _ = _
          unfold frS
          rw [HRD.out, if_neg (by simp), if_neg HC.out, if_pos (by show 64 < bs[c]?.getD 0; rw [HX.out]; exact h64)]
        clear HR1
        go_wp2
        go_region_with (go_at_call 87; refine (unzigzag_any u hu _).mono ?_; rintro e w' ⟨rfl, rfl⟩)
        all_goals
          go_wp2
          exact bodyPost_ret (v := .tuple #[.agg #[.int .i64 0, .int .i64 0], .slice none 0 0, .int .i64 5]) (by simp [results, Try.results82, go_sem, p0, p1, plt]) rfl (FramePost.bad HF.out (by decide) (by first | exact ((((HBV.out.alloc HBV.out.size _).setCell (Nat.le_refl _) _).setCell (Nat.le_refl _) _)).drew | exact ((((HBV.out.setCell (Nat.le_refl _) _).setCell (Nat.le_refl _) _).alloc HBV.out.size _)).drew | exact ((((HBV.out.setCell (Nat.le_refl _) _).setCell (Nat.le_refl _) _).alloc (by simp; omega) _)).drew) rfl)
      · have HF : Hid (frS bs = ((uz u, x), c + 1, 0)) := by
          show _ = _
          unfold frS
          rw [HRD.out, if_neg (by simp), if_neg HC.out, if_neg (by show ¬ 64 < bs[c]?.getD 0; rw [HX.out]; exact h64)]
          show ((uz u, bs[c]?.getD 0), c + 1, 0) = _
          rw [HX.out]
        by_cases hn : n = 1
        · subst hn
          have HRR : Hid (Rd K W .u8 (some ⟨b1, off1, none⟩) 0 0 (bs.drop (c + 1))) := by
            have := HR1.out.rest 1 (by omega) 0 (by omega) (by omega) (some ⟨b1, off1, none⟩) (fun h => by omega)
            rw [List.drop_drop] at this
            exact this.back HBV.out
          clear HR1
          go_wp2
          go_region_with (go_at_call 87; refine (unzigzag_any u hu _).mono ?_; rintro e w' ⟨rfl, rfl⟩)
          all_goals
            go_wp2
            go_region
          all_goals
            go_wp2
            exact bodyPost_ret (v := .tuple #[.agg #[.int .i64 (uz u), .int .i64 x], .slice (some ⟨b1, off1, none⟩) 0 0, .int .i64 0]) (by simp [results, Try.results82, go_sem, p0, p1, plt]) rfl (FramePost.good HF.out (by first | exact ((((HBV.out.setCell (Nat.le_refl _) _).setCell (Nat.le_refl _) _).alloc HBV.out.size _)).drew.drew | exact ((((HBV.out.setCell (Nat.le_refl _) _).setCell (Nat.le_refl _) _).alloc (by simp; omega) _)).drew.drew) rfl HRR.out)
        · have HRR : Hid (Rd K W .u8 (some ⟨b1, off1 + 1, none⟩) (n - 1) (n - 1) (bs.drop (c + 1))) := by
            have := HR1.out.rest 1 (by omega) (n - 1) (Nat.le_refl _) (by omega) (some ⟨b1, off1 + 1, none⟩) (fun _ => rfl)
            rw [List.drop_drop] at this
            exact this.back HBV.out
          have hn2 : 1 < n := by omega
          clear HR1
          go_wp2
          go_region_with (go_at_call 87; refine (unzigzag_any u hu _).mono ?_; rintro e w' ⟨rfl, rfl⟩)
          all_goals
            go_wp2
            go_region
          all_goals
            go_wp2
            exact bodyPost_ret (v := .tuple #[.agg #[.int .i64 (uz u), .int .i64 x], .slice (some ⟨b1, off1 + 1, none⟩) (n - 1) (n - 1), .int .i64 0]) (by simp [results, Try.results82, go_sem, p0, p1, plt]) rfl (FramePost.good HF.out (by first | exact ((((HBV.out.setCell (Nat.le_refl _) _).setCell (Nat.le_refl _) _).alloc HBV.out.size _)).drew.drew | exact ((((HBV.out.setCell (Nat.le_refl _) _).setCell (Nat.le_refl _) _).alloc (by simp; omega) _)).drew.drew) rfl HRR.out)
  · have HF : Hid (frS bs = ((0, 0), 0, (rdS bs).2.2)) := by
      show _ = _
      unfold frS
      rw [if_pos hx]
    have HRB := Lib.hid (read_bad ho (H.out.below ((Below.refl _ _).alloc (Nat.le_refl _) (.cells #[.int .i64 0, .int .i64 0] 72))) hx rfl)
    have hxb : ((rdS bs).2.2 != 0) = true := by simpa using hx
    have HXX := Lib.hid hx
    clear hx
    generalize (rdS bs).2.2 = x at *
    go_enter Try.func82, Try.ntmps82
    go_wp2_with fail
    refine HRB.out.mono ?_
    rintro e w' ⟨rfl, rfl⟩
    go_wp2
    exact bodyPost_ret (v := .tuple #[.agg #[.int .i64 0, .int .i64 0], .slice none 0 0, .int .i64 x]) (by simp [results, Try.results82, go_sem]) rfl (FramePost.bad HF.out HXX.out ((Below.refl _ _).alloc (Nat.le_refl _) _) rfl)

end Go.Proofs.Ytkfmgiacdlkmiaa
