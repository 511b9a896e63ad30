/-
  The byte form of a list, read back.
-/
import Derived.Test.YtocnkjnlmciojaaGreatDoorVlRead2
import Derived.Test.YtocnkjnlmciojaaGreatDoorVlList
namespace Go.Proofs.YtocnkjnlmciojaaGreatDoor
open Go Go.RowKit Go.Shelf Go.ChangeShapes Go.WideShapes Go.ChangeAt

/-! ### Rows of values -/

def cellsV (vs : List Vl) : List Value := vs.flatMap fun u => [.int .i64 u.k, .int .i64 u.i, .string (bsOf u.s)]
theorem cellsV_len (vs : List Vl) : (cellsV vs).length = vs.length * 3 := by
  unfold cellsV
  induction vs with
  | nil => rfl
  | cons a r ih => rw [List.flatMap_cons, List.length_append, ih]; simp; omega
theorem cellsV_append (a b : List Vl) : cellsV (a ++ b) = cellsV a ++ cellsV b := by unfold cellsV; exact List.flatMap_append
theorem cellsV_at : ∀ (vs : List Vl) (j : Nat), j < vs.length → (cellsV vs)[j * 3]? = some (.int .i64 (vs[j]?.getD Vl.null).k) ∧ (cellsV vs)[j * 3 + 1]? = some (.int .i64 (vs[j]?.getD Vl.null).i) ∧ (cellsV vs)[j * 3 + 2]? = some (.string (bsOf (vs[j]?.getD Vl.null).s))
  | [], j, h => absurd h (Nat.not_lt_zero j)
  | a :: r, 0, _ => ⟨rfl, rfl, rfl⟩
  | a :: r, j + 1, h => by
    have := cellsV_at r j (by simpa using h)
    have e : cellsV (a :: r) = [.int .i64 a.k, .int .i64 a.i, .string (bsOf a.s)] ++ cellsV r := rfl
    rw [e, show (j + 1) * 3 = j * 3 + 3 by omega, show j * 3 + 3 + 1 = j * 3 + 1 + 3 by omega, show j * 3 + 3 + 2 = j * 3 + 2 + 3 by omega]
    simpa using this
theorem Tryz.infoV : (Tryz.prog.info? 45).map (fun i => (i.zero, i.size, i.bytes)) = some (some (.agg #[.int .i64 0, .int .i64 0, .string ⟨#[]⟩]), 3, 32) := by kernel_rfl
theorem info_partsV : ∃ i, Tryz.prog.info? 45 = some i ∧ i.zero = some (.agg #[.int .i64 0, .int .i64 0, .string ⟨#[]⟩]) ∧ i.size = 3 ∧ i.bytes = 32 := by
  have h := Tryz.infoV
  cases hi : Tryz.prog.info? 45 with
  | none => rw [hi] at h; cases h
  | some i =>
    rw [hi] at h
    simp at h
    exact ⟨i, rfl, h.1, h.2.1, h.2.2⟩

theorem RdV.of_row {W : World} {base : Nat} {t : TypeId} {v : Value} {n : Nat} {vs : List Vl} (hr : W.ownsRow base t 3 v n (cellsV vs)) (hs : n ≤ 1000000) : ∃ a cap, v = .slice a n cap ∧ RdV (fun b => base ≤ b) W a n cap vs := by
  have hn : n = vs.length := by have := hr.1; rw [cellsV_len] at this; omega
  rcases hr.2 with ⟨rfl, rfl⟩ | ⟨g, cap, cur, rfl, hb, hg, hc, hm, hcs, ht⟩
  · obtain rfl : vs = [] := List.eq_nil_of_length_eq_zero hn.symm
    exact ⟨none, 0, rfl, RdV.empty⟩
  · refine ⟨_, _, rfl, ⟨hn, hc, by unfold maxLen at hm; omega, by omega, fun h0 => ⟨g, 0, rfl, hb, (Array.getElem?_eq_some_iff.1 hg).1, fun j hj => ?_⟩⟩⟩
    have h3 := cellsV_at vs j (by omega)
    rw [← ht] at h3
    have get : ∀ m u, (cur.toList.take (n * 3))[m]? = some u → W.cell? ⟨g, 0 + m, none⟩ = some u := fun m u h => by
      rw [List.getElem?_take] at h
      split at h
      · rw [Array.getElem?_toList] at h
        simp [World.cell?, hg, h]
      · cases h
    exact ⟨get _ _ h3.1, by have := get _ _ h3.2.1; rwa [← Nat.add_assoc] at this, by have := get _ _ h3.2.2; rwa [← Nat.add_assoc] at this⟩

theorem row_below {A B : World} {base : Nat} {e : TypeId} {size : Nat} {v : Value} {n : Nat} {xs : List Value} (h : A.ownsRow base e size v n xs) (hb : Below A.heap.size A B) : B.ownsRow base e size v n xs := by
  refine ⟨h.1, ?_⟩
  rcases h.2 with h | ⟨g, cap, cur, h1, h2, h3, h4⟩
  · exact .inl h
  · exact .inr ⟨g, cap, cur, h1, h2, (hb.block g (Array.getElem?_eq_some_iff.1 h3).1).trans h3, h4⟩

/-- One more value, behind a row of the call's own. -/
theorem append_val {P : Program} (w : World) (base : Nat) (t ty e te : TypeId) (i : TypeInfo) (z : Value) (ht : P.underlying t = some (.slice e)) (hi : P.info? e = some i) (hz : i.zero = some z)
    (hsize : i.size = 3) (hby : i.bytes = 32) (hzs : z.cells.size = 3) (v : Value) (n : Nat) (vs : List Vl) (hown : w.ownsRow base e 3 v n (cellsV vs)) (u : Vl) (hn : n ≤ 1000000) (hbase : base ≤ w.heap.size) :
    ∃ v' w', (Builtin.append_ #[t, t] ty #[v, .slice (some ⟨w.heap.size, 0, none⟩) 1 1]).run P (w.alloc (.cells #[.int .i64 u.k, .int .i64 u.i, .string (bsOf u.s)] te)) = .ok v' w' ∧
      w'.ownsRow base e 3 v' (n + 1) (cellsV (vs ++ [u])) ∧ Below base w w' := by
  have hb1 : base ≤ (w.alloc (.cells #[.int .i64 u.k, .int .i64 u.i, .string (bsOf u.s)] te)).heap.size := by simp; omega
  have hbb : Below base w (w.alloc (.cells #[.int .i64 u.k, .int .i64 u.i, .string (bsOf u.s)] te)) := (Below.refl base w).alloc hbase _
  obtain ⟨v', w', hr, h1, h2, _⟩ := run_append_own (P := P) (w.alloc (.cells #[.int .i64 u.k, .int .i64 u.i, .string (bsOf u.s)] te)) base t ty e i z 3 32 ht hi hz hsize hby hzs (by decide) v n (cellsV vs) (hown.alloc _) ⟨w.heap.size, 0, none⟩ 1 1 (cellsV [u]) (by rw [cellsV_len]; rfl)
    (fun j x hx => by
      have h0 := World.alloc_heap_new w (.cells #[.int .i64 u.k, .int .i64 u.i, .string (bsOf u.s)] te)
      rw [add_plain]
      have : (#[.int .i64 u.k, .int .i64 u.i, .string (bsOf u.s)] : Array Value)[0 + j]? = some x := by rw [Nat.zero_add]; simpa [cellsV] using hx
      simp only [World.cell?, h0]
      exact this)
    (fun x hx => by
      have : x = .int .i64 u.k ∨ x = .int .i64 u.i ∨ x = .string (bsOf u.s) := by simpa [cellsV] using hx
      rcases this with rfl | rfl | rfl <;> rfl) (by unfold maxLen; omega) (by omega) hb1
  rw [← cellsV_append] at h1
  refine ⟨v', w', hr, h1, hbb.grown h2 hb1 (fun r e => ?_)⟩
  rcases hown.2 with ⟨rfl, _⟩ | ⟨g, cap, cur, rfl, hb, _⟩
  · cases e
  · cases e; exact hb

/-! ### What is read -/

/-- The values behind one another: those, what is left, the error. -/
def rdG : Nat → List Vl → List Int → List Vl × List Int × Int
  | 0, acc, bs => (acc, bs, 0)
  | n + 1, acc, bs => if (rdV bs).2.2 ≠ 0 then ([], [], (rdV bs).2.2) else rdG n (acc ++ [(rdV bs).1]) (bs.drop (rdV bs).2.1)
def rdL (bs : List Int) : List Vl × List Int × Int := if (rdS bs).2.2 ≠ 0 then ([], [], (rdS bs).2.2) else if 4096 < (rdS bs).1 then ([], [], 5) else rdG (rdS bs).1.toNat [] (bs.drop (rdS bs).2.1)

def RdLPost (K : Nat → Prop) (q : List Vl × List Int × Int) (W : World) (e : Ending) (W' : World) : Prop :=
  Below W.heap.size W W' ∧ ((q.2.2 = 0 ∧ ∃ a1 n1 c1 a2 m, e = .returned (.tuple #[.slice a1 n1 c1, .slice a2 m m, .int .i64 0]) ∧ RdV (fun b => W.heap.size ≤ b) W' a1 n1 c1 q.1 ∧ Rd K W' .u8 a2 m m q.2.1) ∨
    (q.2.2 ≠ 0 ∧ e = .returned (.tuple #[.slice none 0 0, .slice none 0 0, .int .i64 q.2.2])))

theorem l_err {r : List Int} {x : Int} (h : (rdS r).2.2 = x) (hx : x ≠ 0) : rdL r = ([], [], x) := by unfold rdL; rw [if_pos (by rw [h]; exact hx), h]
theorem l_big {r : List Int} {u : Int} {c : Nat} (h : rdS r = (u, c, 0)) (h4 : 4096 < u) : rdL r = ([], [], 5) := by unfold rdL; rw [h, if_neg (fun h => h rfl), if_pos h4]
theorem l_good {r : List Int} {u c : Nat} (h : rdS r = ((u : Int), c, 0)) (h4 : ¬ 4096 < (u : Int)) : rdL r = rdG u [] (r.drop c) := by unfold rdL; rw [h, if_neg (fun h => h rfl), if_neg h4]; rfl

set_option maxRecDepth 100000 in
set_option maxHeartbeats 4000000 in
theorem readList_any {K : Nat → Prop} {a : Option Addr} {len cap : Nat} {bs : List Int} (ho : Oct bs) {w : World} (hR : Rd K w .u8 a len cap bs) (hK : ∀ b, K b → b < w.heap.size) :
    Calls Tryz.prog 114 #[.slice a len cap] w (RdLPost K (rdL bs) w) := by
  obtain ⟨i0, hi, hz0, hz1, hz2⟩ := info_partsV
  have hu := rdS_u645 ho
  obtain ⟨u, c, x, hq⟩ : ∃ u c x, rdS bs = (u, c, x) := ⟨_, _, _, rfl⟩
  rw [hq] at hu
  have hu : U64 u := hu
  have HK := Lib.hid hK
  by_cases hx : x = 0
  · subst hx
    have HRG := Lib.hid (read_good ho hR hq)
    obtain ⟨n, rfl⟩ : ∃ n : Nat, u = n := ⟨u.toNat, by have := hu.1; omega⟩
    have hn64 : n < 18446744073709551616 := by have := hu.2; omega
    have HQ := Lib.hid hq
    have HO := Lib.hid (ho.drop c)
    clear hq hu hR hK ho
    by_cases h4 : 4096 < n
    · have HE := Lib.hid (l_big HQ.out (by omega))
      go_enter Tryz.func114, Tryz.ntmps114
      go_wp2_with fail
      refine HRG.out.mono ?_
      rintro e w1 ⟨rfl, a', m, rfl, hr⟩
      clear hr HRG
      go_wp2
      go_ret3
      exact ⟨Below.self _, .inr ⟨by rw [HE.out]; decide, by rw [HE.out]; rfl⟩⟩
    · have HE := Lib.hid (l_good HQ.out (by omega))
      go_enter Tryz.func114, Tryz.ntmps114
      go_wp2_with fail
      refine HRG.out.mono ?_
      rintro e w1 ⟨rfl, a', m, rfl, hr⟩
      have HR1 := Lib.hid hr
      clear hr HRG
      go_wp2
      go_loopw [0, 7, 23] (fun sb sl si wr => ∃ (k : Nat) (vs : List Vl) (rest : List Int) (a2 : Option Addr) (m2 : Nat), k ≤ n ∧ si = .int .u64 k ∧ sb = .slice a2 m2 m2 ∧ Hid (rdL bs = rdG (n - k) vs rest ∧ Oct rest ∧ wr.ownsRow w.heap.size 45 3 sl k (cellsV vs) ∧ Rd K wr .u8 a2 m2 m2 rest ∧ Below w.heap.size w wr)) (fun _ _ si _ => n - (intOf si).toNat)
      case atStart => exact ⟨0, [], bs.drop c, a', m, Nat.zero_le _, rfl, rfl, HE.out, HO.out, ⟨rfl, .inl ⟨rfl, rfl⟩⟩, HR1.out, Below.self _⟩
      case round =>
        obtain ⟨k, vs, rest, a2, m2, hk, rfl, rfl, HI⟩ := hrel
        by_cases hlt : k < n
        · have HC := Lib.hid (readV_any HI.out.2.1 HI.out.2.2.2.1 (fun b hb => Nat.lt_of_lt_of_le (HK.out b hb) HI.out.2.2.2.2.size))
          have HS : Hid (rdG (n - k) vs rest = if (rdV rest).2.2 ≠ 0 then ([], [], (rdV rest).2.2) else rdG (n - (k + 1)) (vs ++ [(rdV rest).1]) (rest.drop (rdV rest).2.1)) := by
            show _ = _
            rw [show n - k = (n - (k + 1)) + 1 by omega]; rfl
          go_wp2_with fail
          refine HC.out.mono ?_
          clear HC
          generalize rdV rest = q at *
          obtain ⟨⟨vk, vi, vt⟩, c3, z⟩ := q
          rintro e w3 ⟨hb3, hp⟩
          have hB3 : Below w.heap.size w w3 := HI.out.2.2.2.2.trans (hb3.mono HI.out.2.2.2.2.size)
          have hO3 : w3.ownsRow w.heap.size 45 3 u7 k (cellsV vs) := row_below HI.out.2.2.1 hb3
          have HRL : Hid (rdL bs = if z ≠ 0 then ([], [], z) else rdG (n - (k + 1)) (vs ++ [⟨vk, vi, vt⟩]) (rest.drop c3)) := HI.out.1.trans HS.out
          have HOr := Lib.hid (HI.out.2.1.drop c3)
          rcases hp with ⟨hz, a3, m3, rfl, hr3⟩ | ⟨hz, rfl⟩
          · obtain rfl : z = 0 := hz
            have HRL2 : Hid (rdL bs = rdG (n - (k + 1)) (vs ++ [⟨vk, vi, vt⟩]) (rest.drop c3)) := HRL.out.trans (if_neg (fun h => h rfl))
            have hbA : Below w3.heap.size w3 (w3.alloc (.cells #[.int .i64 vk, .int .i64 vi, .string (bsOf vt)] 45)) := (Below.self w3).alloc (Nat.le_refl _) _
            have hB4 : Below w.heap.size w (w3.alloc (.cells #[.int .i64 vk, .int .i64 vi, .string (bsOf vt)] 45)) := hB3.trans (hbA.mono hB3.size)
            obtain ⟨v', w', hr, hO', hbX⟩ := append_val (P := Tryz.prog) (w3.alloc (.cells #[.int .i64 vk, .int .i64 vi, .string (bsOf vt)] 45)) w.heap.size 39 39 45 45 i0 _ Tryz.underlying39 hi hz0 hz1 hz2 rfl u7 k vs (row_below hO3 hbA) ⟨vk, vi, vt⟩ (by omega) hB4.size
            rw [World.size_alloc] at hr
            have HT := Lib.hid (Trio.new w3 45 (.int .i64 vk) (.int .i64 vi) (.string (bsOf vt)))
            have HR := Lib.hid hr
            have HI2 : Hid (Oct (rest.drop c3) ∧ w'.ownsRow w.heap.size 45 3 v' (k + 1) (cellsV (vs ++ [⟨vk, vi, vt⟩])) ∧ Rd K w' .u8 a3 m3 m3 (rest.drop c3) ∧ Below w.heap.size w w') := by
              refine ⟨HOr.out, hO', ?_, hB4.trans hbX⟩
              have h4 : Rd K (w3.alloc (.cells #[.int .i64 vk, .int .i64 vi, .string (bsOf vt)] 45)) .u8 a3 m3 m3 (rest.drop c3) := Rd.below hr3 hbA
              exact (h4.mono (K' := fun b => K b) fun _ _ h => h).kept ⟨hbX.os, hbX.tape, hbX.output, hbX.size, fun i _ hk => hbX.block i (HK.out i hk)⟩
            clear hr hO' hbX hb3 hO3 hB3 hbA hB4 hr3 HS HRL HI
            unfold encV
            dsimp only
            have c0 := HT.out.c0
            have c1 := HT.out.c1
            have c2 := HT.out.c2
            have plt := HT.out.lt
            go_wp2_with (at_builtin; refine wpList_append_want (o := ⟨some 37, _, _, _, _, _⟩) _ rfl _ _ _ _ rfl _ _ rfl rfl _ _ HR.out ?_)
            go_roundw
            case rel => exact ⟨k + 1, _, _, a3, m3, by omega, by go_num, rfl, HRL2.out, HI2.out⟩
            case measure => simp [intOf]; omega
          · have hz : z ≠ 0 := hz
            have HRL2 : Hid (rdL bs = ([], [], z)) := HRL.out.trans (if_pos hz)
            have HZ := Lib.hid hz
            have hzz : (z != 0) = true := by simpa using hz
            have HB4 : Hid (Below w.heap.size w (w3.alloc (.cells #[.int .i64 0, .int .i64 0, .string (bsOf [])] 45))) := hB3.alloc hB3.size _
            clear hb3 hO3 hB3 HS HRL HI hz
            unfold encV
            dsimp only [Vl.null]
            go_wp2
            go_ret3
            exact ⟨HB4.out, .inr ⟨by rw [HRL2.out]; exact HZ.out, by rw [HRL2.out]; rfl⟩⟩
        · obtain rfl : k = n := by omega
          have HE2 : Hid (rdL bs = (vs, rest, 0)) := by
            show _ = _
            rw [HI.out.1, Nat.sub_self]; rfl
          obtain ⟨a1, c1, rfl, hRV⟩ := RdV.of_row HI.out.2.2.1 (by omega)
          have HRV := Lib.hid hRV
          clear hRV
          go_wp2
          go_ret3
          refine ⟨HI.out.2.2.2.2, .inl ⟨by rw [HE2.out], a1, k, c1, a2, m2, rfl, ?_, ?_⟩⟩
          · rw [HE2.out]; exact HRV.out
          · rw [HE2.out]; exact HI.out.2.2.2.1
  · have HQ := Lib.hid (l_err (r := bs) (x := x) (by rw [hq]) hx)
    have HRG := Lib.hid (read_bad ho hR hx (by rw [hq]))
    have HX := Lib.hid hx
    have hxx : (x != 0) = true := by simpa using hx
    clear hq hu hx hR hK
    go_enter Tryz.func114, Tryz.ntmps114
    go_wp2_with fail
    refine HRG.out.mono ?_
    rintro e w1 ⟨rfl, rfl⟩
    go_wp2
    go_ret3
    exact ⟨Below.self _, .inr ⟨by rw [HQ.out]; exact HX.out, by rw [HQ.out]; rfl⟩⟩

end Go.Proofs.YtocnkjnlmciojaaGreatDoor
