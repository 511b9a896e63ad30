/-
  The comparison of byte sequences of the reference.
-/
import Derived.Test.YtkfmgiacdlkmiaaPkCodes
import Derived.Deep.QuietTactic
import Derived.BigQuiet
namespace Go.Proofs.Ytkfmgiacdlkmiaa
open Go.RowKit Go.Shelf Go.ChangeShapes Go.WideShapes Go.ChangeAt

theorem Try.infoB : (Try.prog.info? 5).map (fun i => (i.zero, i.size, i.bytes)) = some (some (.int .u8 0), 1, 1) := by kernel_rfl

/-- A slice to which a next element goes into memory of the call's own: it is full, or it is a row of the call's own. -/
def Tail (base : Nat) (e : TypeId) (k : IntKind) (W : World) (v : Value) (zs : List Int) : Prop :=
  (∃ a, v = .slice a 0 0 ∧ zs = []) ∨
  (∃ b off, v = .slice (some ⟨b, off, none⟩) zs.length zs.length ∧ b < W.heap.size ∧ ∀ j, j < zs.length → W.cell? ⟨b, off + j, none⟩ = some (.int k (zs[j]?.getD 0))) ∨
  (∃ g cap, v = .slice (some ⟨g, 0, none⟩) zs.length cap ∧ W.ownsRow base e 1 (.slice (some ⟨g, 0, none⟩) zs.length cap) zs.length (zs.map (Value.int k)))

theorem Tail.row {base : Nat} {e : TypeId} {k : IntKind} {W : World} {g len cap : Nat} {zs : List Int} (hl : len = zs.length)
    (h : W.ownsRow base e 1 (.slice (some ⟨g, 0, none⟩) len cap) len (zs.map (Value.int k))) : Tail base e k W (.slice (some ⟨g, 0, none⟩) len cap) zs := by
  subst hl; exact .inr (.inr ⟨g, cap, rfl, h⟩)

theorem Rd.tail {K : Nat → Prop} {A : World} {k : IntKind} {a : Option Addr} {len cap : Nat} {zs : List Int} (h : Rd K A k a len cap zs) (base : Nat) (e : TypeId) : Tail base e k A (.slice a len len) zs := by
  obtain ⟨rfl, h2, h3, _, h4⟩ := h
  by_cases h0 : 0 < zs.length
  · obtain ⟨b, off, rfl, hb, hlt, hc⟩ := h4 h0
    exact .inr (.inl ⟨b, off, rfl, hlt, hc⟩)
  · obtain rfl : zs = [] := List.eq_nil_of_length_eq_zero (by omega)
    exact .inl ⟨a, rfl, rfl⟩

theorem tail_append {P : Program} (w : World) (base : Nat) (t ty e : TypeId) (i : TypeInfo) (z : Value) (bytes : Nat) (k : IntKind) (ht : P.underlying t = some (.slice e)) (hi : P.info? e = some i) (hz : i.zero = some z)
    (hsize : i.size = 1) (hby : i.bytes = bytes) (hzs : z.cells.size = 1) (v : Value) (zs : List Int) (hT : Tail base e k w v zs) (x : Int) (te : TypeId)
    (h63 : zs.length + 1 ≤ maxLen) (hbytes : (zs.length + 1) * bytes ≤ 140737488355328) (hbase : base ≤ w.heap.size) :
    ∃ g' cap' w', (Builtin.append_ #[t, t] ty #[v, .slice (some ⟨w.heap.size, 0, none⟩) 1 1]).run P (w.alloc (.cells #[.int k x] te)) = .ok (.slice (some ⟨g', 0, none⟩) (zs.length + 1) cap') w' ∧
      w'.ownsRow base e 1 (.slice (some ⟨g', 0, none⟩) (zs.length + 1) cap') (zs.length + 1) ((zs ++ [x]).map (Value.int k)) ∧ Below base w w' ∧ zs.length + 1 ≤ cap' := by
  have hb1 : Below base w (w.alloc (.cells #[.int k x] te)) := (Below.refl _ _).alloc hbase _
  have hb1' : base ≤ (w.alloc (.cells #[.int k x] te)).heap.size := by simp; omega
  rcases hT with ⟨a, rfl, rfl⟩ | ⟨b, off, rfl, hlt, hc⟩ | ⟨g, cap, rfl, hrow⟩
  · cases a with
    | none =>
      obtain ⟨v', w', hr, h1, h2, h3⟩ := run_append_own (P := P) (w.alloc (.cells #[.int k x] te)) base t ty e i z 1 bytes ht hi hz hsize hby hzs (by decide) (.slice none 0 0) 0 [] (World.ownsRow_nil _ base e 1) ⟨w.heap.size, 0, none⟩ 1 1 [.int k x] rfl (cell_one_new _ _ _)
        (fun u hu => by rw [List.mem_singleton.1 hu]; rfl) h63 hbytes hb1'
      have hne : ¬ v' = .slice none 0 0 := fun e => by have := (h3.1 e).2; omega
      obtain ⟨g', cap', rfl, hn, hb⟩ := row_form h1 hne
      exact ⟨g', cap', w', hr, h1, hb1.grown h2 hb1' (fun r e => by cases e), hn⟩
    | some a =>
      obtain ⟨v', w', hr, h1, h2⟩ := run_append_arg_grows (P := P) (w.alloc (.cells #[.int k x] te)) t ty e i z 1 bytes ht hi hz hsize hby hzs (by decide) a 0 0 [] rfl (fun j u hu => by cases hu) ⟨w.heap.size, 0, none⟩ 1 1 [.int k x] rfl (cell_one_new _ _ _)
        (by decide) h63 hbytes
      have hne : ¬ v' = .slice none 0 0 := fun e => by
        subst e
        obtain ⟨q1, q2 | ⟨g', cap', cur, e1, _⟩⟩ := h1
        · have := q2.2; omega
        · cases e1
      obtain ⟨g', cap', rfl, hn, hb⟩ := row_form h1 hne
      exact ⟨g', cap', w', hr, h1.mono hb1', hb1.grown h2 hb1' (fun r e => by cases e), hn⟩
  · obtain ⟨v', w', hr, h1, h2⟩ := run_append_arg_grows (P := P) (w.alloc (.cells #[.int k x] te)) t ty e i z 1 bytes ht hi hz hsize hby hzs (by decide) ⟨b, off, none⟩ zs.length zs.length (zs.map (Value.int k)) (by simp)
      (fun j u hu => by
        rw [List.getElem?_map] at hu
        cases hj : zs[j]? with
        | none => rw [hj] at hu; cases hu
        | some y =>
          rw [hj] at hu
          have hjl := (List.getElem?_eq_some_iff.1 hj).1
          have := hc j hjl
          rw [hj] at this
          rw [add_plain, World.cell?_of_block (w := w) (Below.heap_alloc _ _ _ hlt), this]
          exact hu) ⟨w.heap.size, 0, none⟩ 1 1 [.int k x] rfl (cell_one_new _ _ _)
      (by omega) h63 hbytes
    have hne : ¬ v' = .slice none 0 0 := fun e => by
      subst e
      obtain ⟨q1, q2 | ⟨g', cap', cur, e1, _⟩⟩ := h1
      · have := q2.2; omega
      · cases e1
    obtain ⟨g', cap', rfl, hn, hb⟩ := row_form h1 hne
    exact ⟨g', cap', w', hr, by rw [List.map_append]; exact h1.mono hb1', hb1.grown h2 hb1' (fun r e => by cases e), hn⟩
  · obtain ⟨v', w', hr, h1, h2, h3⟩ := run_append_own (P := P) (w.alloc (.cells #[.int k x] te)) base t ty e i z 1 bytes ht hi hz hsize hby hzs (by decide) _ zs.length _ (hrow.alloc _) ⟨w.heap.size, 0, none⟩ 1 1 [.int k x] rfl (cell_one_new _ _ _)
      (fun u hu => by rw [List.mem_singleton.1 hu]; rfl) h63 hbytes hb1'
    have hne : ¬ v' = .slice none 0 0 := fun e => by have := (h3.1 e).1; cases this
    obtain ⟨g', cap', rfl, hn, hb⟩ := row_form h1 hne
    exact ⟨g', cap', w', hr, by rw [List.map_append]; exact h1, hb1.grown h2 hb1' (fun r e => by cases e; exact row_base hrow), hn⟩

/-- What a function that makes a row of bytes gives back. -/
def Makes (w : World) (e : Ending) (w' : World) (zs : List Int) : Prop :=
  ∃ g cap, e = .returned (.slice (some ⟨g, 0, none⟩) zs.length cap) ∧ zs.length ≤ cap ∧ w'.ownsRow w.heap.size 5 1 (.slice (some ⟨g, 0, none⟩) zs.length cap) zs.length (zs.map (Value.int .u8)) ∧ Below w.heap.size w w'

set_option maxRecDepth 100000 in
set_option maxHeartbeats 1000000 in
theorem varint_any (K : Nat → Prop) (a : Option Addr) (len cap : Nat) (zs : List Int) (u : Nat) (hu2 : u < 18446744073709551616) (W : World) (hR : Rd K W .u8 a len cap zs) (hm : len ≤ 140737488340000) :
    Calls Try.prog 29 #[.slice a len cap, .int .u64 u] W fun e W' => Makes W e W' (zs ++ varN u) := by
  obtain ⟨i0, hi, hz0, hz1, hz2⟩ := info_parts Try.infoB
  have hfit := hR.fit
  have htop := hR.top
  have hsmall := hR.small
  have HT : Hid (Tail W.heap.size 5 .u8 W (.slice a len len) zs) := hR.tail _ _
  have hvl := var_len hu2
  have HL : Hid (len = zs.length) := hR.hl
  clear hR
  go_enter Try.func29, Try.ntmps29
  go_wp2_with (go_at_call 37; ((with_reducible refine (clip_any _ _ _ hfit htop _).mono ?_); rintro e w' ⟨rfl, rfl⟩))
  go_loopw [0, 1] (fun v q wr => ∃ (m : Nat) (ys : List Int), q = .int .u64 m ∧ m < 18446744073709551616 ∧ Hid (ys ++ varN m = zs ++ varN u) ∧ Hid (Tail W.heap.size 5 .u8 wr v ys) ∧ Below W.heap.size W wr)
    (fun _ q _ => (intOf q).toNat)
  case atStart => exact ⟨u, zs, rfl, hu2, rfl, HT, Below.refl _ _⟩
  case round =>
    obtain ⟨m, ys, rfl, hm2, HV, HX, hb⟩ := hrel
    have hyl : ys.length + 1 ≤ 140737488350000 := by
      have h1 := congrArg List.length HV.out
      have h2 := HL.out
      have h3 := var_pos m
      simp only [List.length_append] at h1
      omega
    by_cases hlt : m < 128
    · have HE : Hid (varN m = [(m : Int)]) := varN_lo hlt
      have hw8 : IntKind.u8.wrap (m : Int) = m := by simp [IntKind.wrap, IntKind.bits, IntKind.signed]; omega
      obtain ⟨g, c, wX, hr, hX', hbX, hcX⟩ := tail_append wr W.heap.size 23 23 5 i0 _ 1 .u8 Try.underlying23 hi hz0 hz1 hz2 rfl _ ys HX.out m 5 (by unfold maxLen; omega) (by omega) hb.size
      have hdec : ¬ (128 ≤ m) := by omega
      go_wp2_with (at_builtin; refine wpList_append_want (o := ⟨some 21, _, _, _, _, _⟩) _ rfl _ _ _ _ rfl _ _ rfl rfl _ _ hr ?_)
      go_ret
      have e1 : ys.length + 1 = (zs ++ varN u).length := by rw [← HV.out, HE.out]; simp
      refine ⟨g, c, ?_, ?_, ?_, hb.trans hbX⟩
      · rw [e1]; rfl
      · rw [← e1]; exact hcX
      · rw [← e1, ← HV.out, HE.out]; exact hX'
    · have HE : Hid (varN m = ((m % 128 : Nat) + 128 : Int) :: varN (m / 128)) := varN_hi hlt
      have ho8 := or128 m
      obtain ⟨g, c, wX, hr, hX', hbX, hcX⟩ := tail_append wr W.heap.size 23 23 5 i0 _ 1 .u8 Try.underlying23 hi hz0 hz1 hz2 rfl _ ys HX.out ((m % 128 : Nat) + 128 : Int) 5 (by unfold maxLen; omega) (by omega) hb.size
      have hdec : 128 ≤ m := by omega
      go_wp2_with (at_builtin; refine wpList_append_want (o := ⟨some 14, _, _, _, _, _⟩) _ rfl _ _ _ _ rfl _ _ rfl rfl _ _ hr ?_)
      go_roundw
      case rel => exact ⟨m / 128, ys ++ [((m % 128 : Nat) + 128 : Int)], by go_num, by omega, by show _ = _; rw [← HV.out, HE.out]; simp, .inr (.inr ⟨g, c, by simp, by simpa using hX'⟩), hb.trans hbX⟩
      case measure => simp [intOf]; omega

/-- What reading a code comes to. -/
def ReadPost (K : Nat → Prop) (zs : List Int) (W : World) (e : Ending) (W' : World) : Prop :=
  W = W' ∧ (((rdS zs).2.2 = 0 ∧ ∃ a' n, e = .returned (.tuple #[.int .u64 (rdS zs).1, .slice a' n n, .int .i64 0]) ∧ Rd K W .u8 a' n n (zs.drop (rdS zs).2.1)) ∨
    ((rdS zs).2.2 ≠ 0 ∧ e = .returned (.tuple #[.int .u64 0, .slice none 0 0, .int .i64 (rdS zs).2.2])))

theorem ReadPost.good {K : Nat → Prop} {zs : List Int} {W : World} {e : Ending} {u : Int} {c : Nat} {a' : Option Addr} {n : Nat} (h : rdS zs = (u, c, 0)) (he : e = .returned (.tuple #[.int .u64 u, .slice a' n n, .int .i64 0])) (hR : Rd K W .u8 a' n n (zs.drop c)) : ReadPost K zs W e W :=
  ⟨rfl, .inl ⟨by rw [h], a', n, by rw [h]; exact he, by rw [h]; exact hR⟩⟩
theorem ReadPost.bad {K : Nat → Prop} {zs : List Int} {W : World} {e : Ending} {x : Int} (h : rdS zs = (0, 0, x)) (hx : x ≠ 0) (he : e = .returned (.tuple #[.int .u64 0, .slice none 0 0, .int .i64 x])) : ReadPost K zs W e W :=
  ⟨rfl, .inr ⟨by rw [h]; exact hx, by rw [h]; exact he⟩⟩

/-- A round's head: what is still to be read, and what has been gathered. -/
def RdAt (zs : List Int) (k : Nat) (a : Int) : Prop := (k ≤ 9 → 0 ≤ a ∧ a < 2 ^ (7 * k)) ∧ rdS zs = rdF k a (zs.drop k)

theorem RdAt.start (zs : List Int) : RdAt zs 0 0 := ⟨fun _ => ⟨by decide, by decide⟩, rfl⟩
theorem RdAt.more {zs : List Int} {k : Nat} {a : Int} (h : RdAt zs k a) (hk : k < zs.length) (hk9 : k ≤ 9) (hx : 0 ≤ zs[k]?.getD 0 ∧ zs[k]?.getD 0 < 256) (h128 : 128 ≤ zs[k]?.getD 0) :
    RdAt zs (k + 1) (bits BinOp.or IntKind.u64 a (IntKind.u64.wrap ((zs[k]?.getD 0 - 128) * 2 ^ (7 * k)))) := by
  obtain ⟨h1, h2⟩ := h
  have h1 := h1 hk9
  rw [drop_getD_cons zs k hk] at h2
  generalize zs[k]?.getD 0 = x at *
  rw [rdF, if_neg (by omega), if_pos h128] at h2
  by_cases h8 : k ≤ 8
  · have HO := or_text a (x - 128) k h1 ⟨by omega, by omega⟩ (.inl (by omega))
    rw [HO]
    refine ⟨fun _ => ⟨?_, ?_⟩, h2⟩
    · have : (0 : Int) ≤ (x - 128) * 2 ^ (7 * k) := Int.mul_nonneg (by omega) (Int.le_of_lt (Int.pow_pos (by decide)))
      omega
    · rw [show 7 * (k + 1) = 7 * k + 7 by omega, Int.pow_add]
      have h3 : (x - 128) * 2 ^ (7 * k) ≤ 127 * 2 ^ (7 * k) := Int.mul_le_mul_of_nonneg_right (by omega) (Int.le_of_lt (Int.pow_pos (by decide)))
      generalize (2 : Int) ^ (7 * k) = P at *
      show _ < P * 128
      omega
  · obtain rfl : k = 9 := by omega
    exact ⟨fun h => absurd h (by decide), by rw [h2, rdF_ten, rdF_ten]⟩
theorem RdAt.over {zs : List Int} {k : Nat} {a : Int} (h : RdAt zs k a) (hk : k = zs.length) (h10 : k < 10) : rdS zs = (0, 0, 7) := by
  rw [h.2, hk, List.drop_length, rdF, if_pos (by omega)]
theorem RdAt.long {zs : List Int} {k : Nat} {a : Int} (h : RdAt zs k a) (hk : k = 10) : rdS zs = (0, 0, 5) := by
  rw [h.2, hk, rdF_ten]
theorem RdAt.ended {zs : List Int} {k : Nat} {a : Int} (h : RdAt zs k a) (hk : k < zs.length) (hk9 : k ≤ 9) (hx : 0 ≤ zs[k]?.getD 0) (h128 : ¬ 128 ≤ zs[k]?.getD 0) (he : ends k (zs[k]?.getD 0) = true) :
    rdS zs = (bits BinOp.or IntKind.u64 a (IntKind.u64.wrap (zs[k]?.getD 0 * 2 ^ (7 * k))), k + 1, 0) := by
  obtain ⟨h1, h2⟩ := h
  have h1 := h1 hk9
  rw [drop_getD_cons zs k hk] at h2
  generalize zs[k]?.getD 0 = x at *
  rw [rdF, if_neg (by omega), if_neg h128, if_pos he] at h2
  rw [h2, or_text a x k h1 ⟨hx, by omega⟩ ?_]
  by_cases h9 : k = 9
  · subst h9; exact .inr ⟨rfl, by simp [ends] at he; omega⟩
  · exact .inl (by omega)
theorem RdAt.wrong {zs : List Int} {k : Nat} {a : Int} (h : RdAt zs k a) (hk : k < zs.length) (hk9 : k ≤ 9) (h128 : ¬ 128 ≤ zs[k]?.getD 0) (he : ends k (zs[k]?.getD 0) = false) : rdS zs = (0, 0, 5) := by
  obtain ⟨h1, h2⟩ := h
  rw [drop_getD_cons zs k hk] at h2
  rw [h2, rdF, if_neg (by omega), if_neg h128, he]; rfl

set_option maxRecDepth 100000 in
set_option maxHeartbeats 4000000 in
theorem read_some (K : Nat → Prop) (b off len cap : Nat) (zs : List Int) (ho : Oct zs) (h0 : 0 < len) (W : World) (hR : Hid (Rd K W .u8 (some ⟨b, off, none⟩) len cap zs)) :
    Calls Try.prog 71 #[.slice (some ⟨b, off, none⟩) len cap] W (ReadPost K zs W) := by
  have hfit := hR.out.fit
  have htop := hR.out.top
  have hsmall := hR.out.small
  have HL : Hid (len = zs.length) := hR.out.hl
  have hc : Hid (∀ j, j < len → W.cell? ⟨b, off + j, none⟩ = some (.int .u8 (zs[j]?.getD 0))) := by
    obtain ⟨b', off', e, _, _, hc⟩ := hR.out.cells h0
    cases e; exact hc
  by_cases h10 : len ≤ 10
  · go_enter Try.func71, Try.ntmps71
    go_wp2
    go_loop [5, 14] (fun u i => ∃ (k : Nat) (a : Int), k ≤ len ∧ i = .int .i64 k ∧ u = .int .u64 a ∧ Hid (RdAt zs k a)) (fun _ i => len - (intOf i).toNat)
    case atStart => exact ⟨0, 0, Nat.zero_le _, rfl, rfl, RdAt.start zs⟩
    case round =>
      obtain ⟨k, a, hk, rfl, rfl, HV⟩ := hrel
      by_cases hlt : k < len
      · have hkl : k < len := by omega
        have hcx := hc.out k hkl
        have hx := ho.getD k
        have hk9 : k ≤ 9 := by omega
        have han := and128 _ hx
        have hnot := andNot128 _ hx
        by_cases h128 : 128 ≤ zs[k]?.getD 0
        · have HS : Hid (RdAt zs (k + 1) (bits BinOp.or IntKind.u64 a (IntKind.u64.wrap ((zs[k]?.getD 0 - 128) * 2 ^ (7 * k))))) := HV.out.more (by have := HL.out; omega) hk9 hx h128
          rw [if_pos h128] at hnot
          rw [decide_eq_true h128] at han
          obtain ⟨hx1, hx2⟩ := hx
          generalize zs[k]?.getD 0 = x at *
          go_wp2
          go_round
          case rel => exact ⟨k + 1, _, by omega, by go_num, rfl, HS⟩
          case measure => simp [intOf]; omega
        · rw [if_neg h128] at hnot
          rw [decide_eq_false h128] at han
          cases he : ends k (zs[k]?.getD 0) with
          | true =>
            have HS := Lib.hid (HV.out.ended (by have := HL.out; omega) hk9 hx.1 h128 he)
            have hbit : (bits BinOp.or IntKind.u64 a (IntKind.u64.wrap (zs[k]?.getD 0 * 2 ^ (7 * k)))) = bits BinOp.or IntKind.u64 a (IntKind.u64.wrap (zs[k]?.getD 0 * 2 ^ (7 * k))) := rfl
            obtain ⟨hx1, hx2⟩ := hx
            generalize zs[k]?.getD 0 = x at *
            clear hbit
            have he' := ends_any k x hk9 W
            rw [he] at he'
            have hE := Lib.hid he'
            clear he' he
            have hw : wrap64 ((k : Int) + 1) = (k : Int) + 1 := by unfold wrap64; omega
            by_cases hcap : cap = k + 1
            · obtain rfl : len = k + 1 := by omega
              subst hcap
              have hRR : Hid (Rd K W .u8 (some ⟨b, off, none⟩) 0 0 (zs.drop (k + 1))) := by
                have := hR.out.rest (k + 1) (by omega) 0 (by omega) (by omega) (some ⟨b, off, none⟩) (fun h => by omega)
                rwa [show k + 1 - (k + 1) = 0 by omega] at this
              have hk1 : k + 1 ≤ 140737488351232 := by omega
              go_wp2_with (first
                | (go_at_call 84; ((with_reducible refine (hE.out).mono ?_); rintro e w' ⟨rfl, rfl⟩))
                | (go_at_call 37; ((refine (clip_any _ 0 0 (Nat.le_refl _) (by decide) _).mono ?_); rintro e w' ⟨rfl, rfl⟩)))
              go_ret3
              exact ReadPost.good HS.out rfl hRR.out
            · have hcap2 : k + 1 < cap := by omega
              have hRR : Hid (Rd K W .u8 (some ⟨b, off + (k + 1), none⟩) (len - (k + 1)) (len - (k + 1)) (zs.drop (k + 1))) :=
                hR.out.rest (k + 1) (by omega) _ (Nat.le_refl _) (by omega) _ (fun _ => rfl)
              clear hcap
              go_wp2_with (first
                | (go_at_call 84; ((with_reducible refine (hE.out).mono ?_); rintro e w' ⟨rfl, rfl⟩))
                | (go_at_call 37; ((refine (clip_any _ (len - (k + 1)) (cap - (k + 1)) (by omega) (by omega) _).mono ?_); rintro e w' ⟨rfl, rfl⟩)))
              go_ret3
              exact ReadPost.good HS.out rfl hRR.out
          | false =>
            have HS := Lib.hid (HV.out.wrong (by have := HL.out; omega) hk9 h128 he)
            obtain ⟨hx1, hx2⟩ := hx
            generalize zs[k]?.getD 0 = x at *
            have he' := ends_any k x hk9 W
            rw [he] at he'
            have hE := Lib.hid he'
            clear he' he
            go_wp2_with (go_at_call 84; ((with_reducible refine (hE.out).mono ?_); rintro e w' ⟨rfl, rfl⟩))
            go_ret3
            exact ReadPost.bad HS.out (by decide) rfl
      · obtain rfl : k = len := by omega
        by_cases h11 : k < 10
        · have HS := Lib.hid (HV.out.over HL.out h11)
          go_wp2
          go_ret3
          exact ReadPost.bad HS.out (by decide) rfl
        · have HS := Lib.hid (HV.out.long (by omega))
          go_wp2
          go_ret3
          exact ReadPost.bad HS.out (by decide) rfl
  · have h11 : 10 < len := by omega
    go_enter Try.func71, Try.ntmps71
    go_wp2
    go_loop [5, 14] (fun u i => ∃ (k : Nat) (a : Int), k ≤ 10 ∧ i = .int .i64 k ∧ u = .int .u64 a ∧ Hid (RdAt zs k a)) (fun _ i => 10 - (intOf i).toNat)
    case atStart => exact ⟨0, 0, Nat.zero_le _, rfl, rfl, RdAt.start zs⟩
    case round =>
      obtain ⟨k, a, hk, rfl, rfl, HV⟩ := hrel
      by_cases hlt : k < 10
      · have hkl : k < len := by omega
        have hcx := hc.out k hkl
        have hx := ho.getD k
        have hk9 : k ≤ 9 := by omega
        have han := and128 _ hx
        have hnot := andNot128 _ hx
        by_cases h128 : 128 ≤ zs[k]?.getD 0
        · have HS : Hid (RdAt zs (k + 1) (bits BinOp.or IntKind.u64 a (IntKind.u64.wrap ((zs[k]?.getD 0 - 128) * 2 ^ (7 * k))))) := HV.out.more (by have := HL.out; omega) hk9 hx h128
          rw [if_pos h128] at hnot
          rw [decide_eq_true h128] at han
          obtain ⟨hx1, hx2⟩ := hx
          generalize zs[k]?.getD 0 = x at *
          go_wp2
          go_round
          case rel => exact ⟨k + 1, _, by omega, by go_num, rfl, HS⟩
          case measure => simp [intOf]; omega
        · rw [if_neg h128] at hnot
          rw [decide_eq_false h128] at han
          cases he : ends k (zs[k]?.getD 0) with
          | true =>
            have HS := Lib.hid (HV.out.ended (by have := HL.out; omega) hk9 hx.1 h128 he)
            have hbit : (bits BinOp.or IntKind.u64 a (IntKind.u64.wrap (zs[k]?.getD 0 * 2 ^ (7 * k)))) = bits BinOp.or IntKind.u64 a (IntKind.u64.wrap (zs[k]?.getD 0 * 2 ^ (7 * k))) := rfl
            obtain ⟨hx1, hx2⟩ := hx
            generalize zs[k]?.getD 0 = x at *
            clear hbit
            have he' := ends_any k x hk9 W
            rw [he] at he'
            have hE := Lib.hid he'
            clear he' he
            have hw : wrap64 ((k : Int) + 1) = (k : Int) + 1 := by unfold wrap64; omega
            by_cases hcap : cap = k + 1
            · exact absurd hcap (by omega)
            · have hcap2 : k + 1 < cap := by omega
              have hRR : Hid (Rd K W .u8 (some ⟨b, off + (k + 1), none⟩) (len - (k + 1)) (len - (k + 1)) (zs.drop (k + 1))) :=
                hR.out.rest (k + 1) (by omega) _ (Nat.le_refl _) (by omega) _ (fun _ => rfl)
              clear hcap
              go_wp2_with (first
                | (go_at_call 84; ((with_reducible refine (hE.out).mono ?_); rintro e w' ⟨rfl, rfl⟩))
                | (go_at_call 37; ((refine (clip_any _ (len - (k + 1)) (cap - (k + 1)) (by omega) (by omega) _).mono ?_); rintro e w' ⟨rfl, rfl⟩)))
              go_ret3
              exact ReadPost.good HS.out rfl hRR.out
          | false =>
            have HS := Lib.hid (HV.out.wrong (by have := HL.out; omega) hk9 h128 he)
            obtain ⟨hx1, hx2⟩ := hx
            generalize zs[k]?.getD 0 = x at *
            have he' := ends_any k x hk9 W
            rw [he] at he'
            have hE := Lib.hid he'
            clear he' he
            go_wp2_with (go_at_call 84; ((with_reducible refine (hE.out).mono ?_); rintro e w' ⟨rfl, rfl⟩))
            go_ret3
            exact ReadPost.bad HS.out (by decide) rfl
      · obtain rfl : k = 10 := by omega
        have HS := Lib.hid (HV.out.long rfl)
        go_wp2
        go_ret3
        exact ReadPost.bad HS.out (by decide) rfl

set_option maxHeartbeats 1000000 in
theorem read_none (K : Nat → Prop) (a : Option Addr) (cap : Nat) (W : World) (_hcap : cap ≤ 9223372036854775807) :
    Calls Try.prog 71 #[.slice a 0 cap] W (ReadPost K [] W) := by
  have HS : Hid (rdS [] = (0, 0, 7)) := rfl
  go_enter Try.func71, Try.ntmps71
  go_wp2
  go_loop [14] (fun i => i = .int .i64 0) (fun _ => 0)
  case atStart => exact rfl
  case round =>
    obtain rfl := hrel
    go_wp2
    go_ret3
    exact ReadPost.bad HS.out (by decide) rfl

theorem read_any (K : Nat → Prop) (a : Option Addr) (len cap : Nat) (zs : List Int) (ho : Oct zs) (W : World) (hR : Rd K W .u8 a len cap zs) :
    Calls Try.prog 71 #[.slice a len cap] W (ReadPost K zs W) := by
  by_cases h0 : 0 < len
  · obtain ⟨b, off, rfl, _⟩ := hR.cells h0
    exact read_some K b off len cap zs ho h0 W hR
  · obtain rfl : len = 0 := by omega
    obtain rfl : zs = [] := List.eq_nil_of_length_eq_zero hR.hl.symm
    exact read_none K a cap W hR.top

theorem read_good {K : Nat → Prop} {a : Option Addr} {len cap : Nat} {zs : List Int} (ho : Oct zs) {W : World} (hR : Rd K W .u8 a len cap zs) {u : Int} {c : Nat} (h : rdS zs = (u, c, 0)) :
    Calls Try.prog 71 #[.slice a len cap] W fun e W' => W = W' ∧ ∃ a' n, e = .returned (.tuple #[.int .u64 u, .slice a' n n, .int .i64 0]) ∧ Rd K W .u8 a' n n (zs.drop c) :=
  (read_any K a len cap zs ho W hR).mono fun e W' ⟨hW, hp⟩ => by
    rcases hp with ⟨_, a', n, he, hr⟩ | ⟨h1, _⟩
    · rw [h] at he hr; exact ⟨hW, a', n, he, hr⟩
    · rw [h] at h1; exact absurd rfl h1

theorem read_bad {K : Nat → Prop} {a : Option Addr} {len cap : Nat} {zs : List Int} (ho : Oct zs) {W : World} (hR : Rd K W .u8 a len cap zs) {x : Int} (hx : x ≠ 0) (h : (rdS zs).2.2 = x) :
    Calls Try.prog 71 #[.slice a len cap] W fun e W' => e = .returned (.tuple #[.int .u64 0, .slice none 0 0, .int .i64 x]) ∧ W = W' :=
  (read_any K a len cap zs ho W hR).mono fun e W' ⟨hW, hp⟩ => by
    rcases hp with ⟨h1, _⟩ | ⟨_, he⟩
    · exact absurd (h.symm.trans h1) hx
    · rw [h] at he; exact ⟨he, hW⟩

end Go.Proofs.Ytkfmgiacdlkmiaa

namespace Go.Proofs.Ytkfmgiacdlkmiaa
open Go.RowKit Go.Shelf Go.ChangeShapes Go.WideShapes Go.ChangeAt

/-- Are the lists equal? -/
def sameB (a b : List Int) : Bool := decide (a = b)
theorem sameB_true {a b : List Int} (h : a = b) : sameB a b = true := decide_eq_true h
theorem sameB_false {a b : List Int} (h : a ≠ b) : sameB a b = false := decide_eq_false h
theorem sameB_iff {a b : List Int} : sameB a b = true ↔ a = b := by unfold sameB; exact decide_eq_true_iff

theorem eq_of_getD {a b : List Int} (hl : a.length = b.length) (h : ∀ j, j < a.length → a[j]?.getD 0 = b[j]?.getD 0) : a = b := by
  apply List.ext_getElem hl
  intro j h1 h2
  have := h j h1
  rw [List.getElem?_eq_getElem h1, List.getElem?_eq_getElem h2] at this
  exact this

theorem below_drewN {B : Nat} {a w : World} (h : Below B a w) (n : Nat) : Below B a (w.drewN n) := h.trans ⟨rfl, rfl, rfl, Nat.le_refl _, fun _ _ => rfl⟩

set_option maxRecDepth 100000 in
set_option maxHeartbeats 1000000 in
theorem same_some (b off cap b' off' cap' : Nat) (len : Nat) (h0 : 0 < len) (zs ys : List Int) (hl : Hid (len = zs.length)) (hl' : Hid (len = ys.length)) (hf : len ≤ cap) (_hf' : len ≤ cap') (ht : len ≤ 140737488351232) (W : World)
    (hb : b < W.heap.size) (hb' : b' < W.heap.size)
    (hc : Hid (∀ j, j < len → W.cell? ⟨b, off + j, none⟩ = some (.int .u8 (zs[j]?.getD 0)))) (hc' : Hid (∀ j, j < len → W.cell? ⟨b', off' + j, none⟩ = some (.int .u8 (ys[j]?.getD 0)))) :
    Calls Try.prog 8 #[.slice (some ⟨b, off, none⟩) len cap, .slice (some ⟨b', off', none⟩) len cap'] W fun e w' => e = .returned (.bool (sameB zs ys)) ∧ Below W.heap.size W w' := by
  go_enter Try.func8, Try.ntmps8
  go_wp2
  go_loopw [5] (fun i wr => ∃ k : Nat, k ≤ len ∧ i = .int .i64 k ∧ Hid (∀ j, j < k → zs[j]?.getD 0 = ys[j]?.getD 0) ∧ Below W.heap.size W wr) (fun i _ => len - (intOf i).toNat)
  case atStart => exact ⟨0, Nat.zero_le _, rfl, fun j h => by omega, Below.refl _ _⟩
  case round =>
    obtain ⟨k, hk, rfl, HE, hB⟩ := hrel
    by_cases hlt : k < len
    · have hcx := (hB.cell (p := ⟨b, off + k, none⟩) hb).trans (hc.out k hlt)
      have hcx' := (hB.cell (p := ⟨b', off' + k, none⟩) hb').trans (hc'.out k hlt)
      by_cases he : zs[k]?.getD 0 = ys[k]?.getD 0
      · have HE2 : Hid (∀ j, j < k + 1 → zs[j]?.getD 0 = ys[j]?.getD 0) := fun j hj => by
          by_cases h : j = k
          · rw [h]; exact he
          · exact HE.out j (by omega)
        have hbe : (zs[k]?.getD 0 != ys[k]?.getD 0) = false := by simp [he]
        clear he
        generalize zs[k]?.getD 0 = x at *
        generalize ys[k]?.getD 0 = y at *
        go_wp2
        go_quiet (fail)
        go_wp2
        go_roundw
        case rel => exact ⟨k + 1, by omega, by go_num, HE2, below_drewN hB _⟩
        case measure => simp [intOf]; omega
      · have HS : Hid (sameB zs ys = false) := sameB_false fun e => he (by rw [e])
        have hbe : (zs[k]?.getD 0 != ys[k]?.getD 0) = true := by simpa using he
        clear he
        generalize zs[k]?.getD 0 = x at *
        generalize ys[k]?.getD 0 = y at *
        go_wp2
        go_quiet (fail)
        go_wp2
        go_ret
        exact ⟨ret_bool HS.out.symm, below_drewN hB _⟩
    · obtain rfl : k = len := by omega
      have HS : Hid (sameB zs ys = true) := sameB_true (eq_of_getD (hl.out.symm.trans hl'.out) (by rw [← hl.out]; exact HE.out))
      go_wp2
      go_ret
      exact ⟨ret_bool HS.out.symm, hB⟩

set_option maxHeartbeats 1000000 in
theorem same_none (a a' : Option Addr) (cap cap' : Nat) (W : World) :
    Calls Try.prog 8 #[.slice a 0 cap, .slice a' 0 cap'] W fun e w' => e = .returned (.bool (sameB [] [])) ∧ Below W.heap.size W w' := by
  have HS : Hid (sameB [] [] = true) := rfl
  go_enter Try.func8, Try.ntmps8
  go_wp2
  go_loop [5] (fun i => i = .int .i64 0) (fun _ => 0)
  case atStart => exact rfl
  case round =>
    obtain rfl := hrel
    go_wp2
    go_ret
    exact ⟨ret_bool HS.out.symm, Below.refl _ _⟩

theorem same_any {K K' : Nat → Prop} {a a' : Option Addr} {len cap len' cap' : Nat} {zs ys : List Int} {W : World} (hR : Rd K W .u8 a len cap zs) (hR' : Rd K' W .u8 a' len' cap' ys) :
    Calls Try.prog 8 #[.slice a len cap, .slice a' len' cap'] W fun e w' => e = .returned (.bool (sameB zs ys)) ∧ Below W.heap.size W w' := by
  by_cases hne : len = len'
  · subst hne
    by_cases h0 : 0 < len
    · obtain ⟨b, off, rfl, _, hb, hc⟩ := hR.cells h0
      obtain ⟨b', off', rfl, _, hb', hc'⟩ := hR'.cells h0
      exact same_some b off cap b' off' cap' len h0 zs ys hR.hl hR'.hl hR.fit hR'.fit hR.small W hb hb' hc hc'
    · obtain rfl : len = 0 := by omega
      obtain rfl : zs = [] := List.eq_nil_of_length_eq_zero hR.hl.symm
      obtain rfl : ys = [] := List.eq_nil_of_length_eq_zero hR'.hl.symm
      exact same_none a a' cap cap' W
  · have HS : Hid (sameB zs ys = false) := sameB_false fun e => hne (by rw [hR.hl, hR'.hl, e])
    have hbe : (len != len') = true := by simpa using hne
    have hbe2 : ((len : Int) != (len' : Int)) = true := by rw [bne_iff_ne]; omega
    clear hne hR hR'
    go_enter Try.func8, Try.ntmps8
    go_wp2
    go_ret
    exact ⟨ret_bool HS.out.symm, Below.refl _ _⟩

/-- A result of reading, as the program's struct. -/
def gotV (u : Int) (l r : Value) (e : Int) : Value := .agg #[.int .u64 u, l, r, .int .i64 e]

end Go.Proofs.Ytkfmgiacdlkmiaa
