/-
  The tokens of joined tokens are these tokens, but for their offsets: the walk.
-/
import Derived.Test.YtpmciakmmchndaaLxEx
import Derived.Test.YtpmciakmmchndaaLxMade
import Derived.Test.YtpmciakmmchndaaLxAlike
namespace Go.Proofs.Ytpmciakmmchndaa.Lx
open Go Go.RowKit Go.Shelf Go.Sort Go.ChangeShapes Go.WideShapes Go.ChangeAt
open Go.Proofs.Ytpmciakmmchndaa

def jn : List Tk → List (Tk × List UInt8)
  | [] => []
  | [t] => [(t, [])]
  | t :: u :: r => (t, [32]) :: jn (u :: r)
theorem jn_fst : ∀ ts : List Tk, (jn ts).map (fun p => (p.1.k, p.1.s)) = alk ts
  | [] => rfl
  | [t] => rfl
  | t :: u :: r => by show _ :: (jn (u :: r)).map _ = _; rw [jn_fst (u :: r)]; rfl
theorem jn_ok : ∀ (ts : List Tk), (∀ t ∈ ts, vld t.k t.s = true) → ∀ p ∈ jn ts, vld p.1.k p.1.s = true ∧ Closed p.2 ∧ (Gap p.2 ∨ p.2 = [])
  | [], _, p, hp => by cases hp
  | [t], h, p, hp => by
    obtain rfl : p = (t, []) := by simpa [jn] using hp
    exact ⟨h t (by simp), closed_nil, .inr rfl⟩
  | t :: u :: r, h, p, hp => by
    rcases List.mem_cons.1 hp with rfl | hp
    · exact ⟨h t (by simp), gap_blank.closed, .inl gap_blank⟩
    · exact jn_ok (u :: r) (fun q hq => h q (List.mem_cons_of_mem _ hq)) p hp
theorem jn_last : ∀ (ts : List Tk) (a b : List (Tk × List UInt8)) (p : Tk × List UInt8), jn ts = a ++ p :: b → p.2 = [] → b = []
  | [], a, b, p, e, _ => by cases a <;> cases e
  | [t], a, b, p, e, _ => by
    have := congrArg List.length e
    simp [jn] at this
    exact List.eq_nil_of_length_eq_zero (by omega)
  | t :: u :: r, [], b, p, e, h => by
    have e : (t, ([32] : List UInt8)) :: jn (u :: r) = p :: b := e
    obtain ⟨e1, _⟩ := List.cons.inj e
    rw [← e1] at h; cases h
  | t :: u :: r, q :: a, b, p, e, h => by
    have e : (t, ([32] : List UInt8)) :: jn (u :: r) = q :: (a ++ p :: b) := e
    exact jn_last (u :: r) a b p (List.cons.inj e).2 h
theorem join_cons (x y : List UInt8) (r : List (List UInt8)) : Lib.join (x :: y :: r) [32] = x ++ ([32] ++ Lib.join (y :: r) [32]) := by unfold Lib.join; simp [List.intercalate, List.intersperse]
theorem join_one (x : List UInt8) : Lib.join [x] [32] = x := by unfold Lib.join; simp
theorem spells_all : ∀ (ts : List Tk), (∀ t ∈ ts, vld t.k t.s = true) → spellsS ts = ts.map fun t => spl t.k t.s
  | [], _ => rfl
  | t :: r, h => by
    rw [show t :: r = [t] ++ r from rfl, spells_append, spells_yes (h t (by simp)), spells_all r (fun q hq => h q (List.mem_cons_of_mem _ hq))]; rfl
theorem jn_spaced : ∀ (ts : List Tk), (∀ t ∈ ts, vld t.k t.s = true) → spaced (jn ts) = joinS ts
  | [], _ => rfl
  | [t], h => by
    unfold joinS
    rw [spells_all _ h]
    show spl t.k t.s ++ ([] ++ []) = Lib.join [spl t.k t.s] [32]
    rw [join_one]; simp
  | t :: u :: r, h => by
    have ih := jn_spaced (u :: r) (fun q hq => h q (List.mem_cons_of_mem _ hq))
    unfold joinS at ih ⊢
    rw [spells_all _ (fun q hq => h q (List.mem_cons_of_mem _ hq))] at ih
    rw [spells_all _ h]
    show spl t.k t.s ++ ([32] ++ spaced (jn (u :: r))) = Lib.join (spl t.k t.s :: spl u.k u.s :: r.map _) [32]
    rw [join_cons, ih]; rfl
theorem y_join {ts : List Tk} (h : ∀ t ∈ ts, vld t.k t.s = true) : (lxY (joinS ts) 0).2.2 = true ∧ alk (lxY (joinS ts) 0).1 = alk ts := by
  have := y_spaced (jn ts) 0 (jn_ok ts h) (jn_last ts)
  rw [jn_spaced ts h, jn_fst] at this
  exact this

theorem mdW_ok : ∀ m, m < 6 → vld 1 (mdW[m]?.getD []) = true := by decide
theorem mdN_ok : ∀ m, m < 6 → vld 2 (mdN[m]?.getD []) = true := by decide
theorem mdX_ok : ∀ m, m < 6 → vld 3 (mdX[m]?.getD []) = true := by decide
theorem mdS_ok : ∀ m, m < 12 → vld 4 (mdS[m]?.getD []) = true := by decide
theorem madeT_ok (x y : Nat) : vld (madeT x y).k (madeT x y).s = true := by
  unfold madeT
  split
  · exact mdW_ok _ (Nat.mod_lt _ (by decide))
  · split
    · exact mdN_ok _ (Nat.mod_lt _ (by decide))
    · split
      · exact mdX_ok _ (Nat.mod_lt _ (by decide))
      · exact mdS_ok _ (Nat.mod_lt _ (by decide))
theorem madeS_ok (bs : List Int) (k : Nat) : ∀ t ∈ madeS bs k, vld t.k t.s = true := by
  intro t ht
  unfold madeS at ht
  obtain ⟨j, _, rfl⟩ := List.mem_map.1 ht
  exact madeT_ok _ _
theorem mdK_le (n : Nat) : mdK n ≤ 30 := by unfold mdK; omega
theorem lexS_ok {s : List UInt8} (h : s.length ≤ 20000) (h2 : (lxY s 0).2.2 = true) : lexS s = ((lxY s 0).1, 0, 0) := by
  unfold lexS
  rw [if_neg (by omega), lxS_eq, y_yes h2]; rfl

end Go.Proofs.Ytpmciakmmchndaa.Lx
namespace Go.Proofs.Ytpmciakmmchndaa.lexerJoins
open Go Go.RowKit Go.Shelf Go.Sort Go.ChangeShapes Go.WideShapes Go.ChangeAt
open Go.Proofs.Ytpmciakmmchndaa Go.Proofs.Ytpmciakmmchndaa.Lx

set_option maxRecDepth 100000 in
set_option maxHeartbeats 4000000 in
theorem walk {a : Option Addr} {n c : Nat} {bs : List Int} {w : World} (hR : RdB w a n c bs) (ho : Oct bs) (hV : Vars w) :
    Calls Try.prog 5 #[.slice a n c] w fun e V => e = .returned (.bool true) ∧ Below w.heap.size w V := by
  have HX := Lib.hid (examples10_any w hV)
  have HV := Lib.hid hV
  have HR := Lib.hid hR
  have HO := Lib.hid ho
  clear hV hR ho
  go_enter Try.func5, Try.ntmps5
  go_wp2_with fail
  refine HX.out.mono ?_
  rintro e w1 ⟨rfl, hb1⟩
  have HB1 := Lib.hid hb1
  have HC := Lib.hid (made_any (HR.out.below hb1) HO.out)
  clear hb1 HX
  go_wp2_with fail
  refine HC.out.mono ?_
  rintro e w2 ⟨a2, c2, rfl, hr2, hb2⟩
  have HB2 := Lib.hid (HB1.out.trans (hb2.mono HB1.out.size))
  have HR2 := Lib.hid hr2
  have HOK := Lib.hid (madeS_ok bs (mdK n))
  have HN := Lib.hid (mdK_le n)
  clear hb2 hr2 HC HR HO
  generalize madeS bs (mdK n) = ts at *
  generalize mdK n = q at *
  have HTL : Hid (ts.length = q) := HR2.out.hl.symm
  have HWD : Hid (∀ t ∈ ts, t.s.length ≤ 1048576) := fun t ht => Nat.le_trans (vld_len (HOK.out t ht)) (by decide)
  have HJ := Lib.hid (joined_any HR2.out (by have := HN.out; omega) HWD.out (HV.out.below HB2.out))
  have HJL : Hid ((joinS ts).length ≤ 20000) := by
    have h1 := joinS_len ts
    have h2 := HTL.out
    have h3 := HN.out
    show _ ≤ _; omega
  have HY := Lib.hid (y_join HOK.out)
  have HLX := Lib.hid (lexS_ok HJL.out HY.out.1)
  go_wp2_with fail
  refine HJ.out.mono ?_
  rintro e w3 ⟨rfl, hb3⟩
  have HB3 := Lib.hid (HB2.out.trans (hb3.mono HB2.out.size))
  have HR3 := Lib.hid (HR2.out.below hb3)
  clear hb3 HJ HR2
  have HC := Lib.hid (lexed_any (joinS ts) (by have := HJL.out; omega) w3 (HV.out.below HB3.out))
  rw [HLX.out] at HC
  generalize hxs : (lxY (joinS ts) 0).1 = xs at *
  clear hxs
  go_wp2_with fail
  refine HC.out.mono ?_
  rintro e w4 ⟨a4, c4, rfl, hr4, hb4, hl4⟩
  dsimp only at hr4 hl4 ⊢
  rw [show ((0 : Nat) : Int) = 0 from rfl]
  have hb5 := (Below.refl w4.heap.size w4).alloc (Nat.le_refl _) (.cells #[.slice a4 xs.length c4, .int .i64 0, .int .i64 0] 37)
  have HB5 := Lib.hid (HB3.out.trans ((hb4.trans (hb5.mono hb4.size)).mono HB3.out.size))
  have HU5 := Lib.hid (Trio.new w4 37 (.slice a4 xs.length c4) (.int .i64 0) (.int .i64 0))
  have HR5 := Lib.hid ((HR3.out.below hb4).below hb5)
  have HX5 := Lib.hid (hr4.below hb5)
  have HL5 := Lib.hid hl4
  clear hb4 hr4 hl4 hb5 HC HR3
  go_upto_region 6 with fail
  obtain ⟨w5, hw5⟩ : ∃ w5, w4.alloc (.cells #[.slice a4 xs.length c4, .int .i64 0, .int .i64 0] 37) = w5 := ⟨_, rfl⟩
  rw [hw5] at HB5 HU5 HR5 HX5 ⊢
  clear hw5
  generalize w4.heap.size = U at *
  have d0 := HU5.out.c0
  have d2 := HU5.out.c2
  have HA := Lib.hid (alike_any HX5.out HR5.out)
  rw [HY.out.2, decide_eq_true rfl] at HA
  go_wp2_with fail
  refine HA.out.mono ?_
  rintro e w6 ⟨rfl, hb6⟩
  have HB6 := Lib.hid (HB5.out.trans (hb6.mono HB5.out.size))
  have HU6 := Lib.hid (HU5.out.below hb6 HU5.out.lt)
  have HR6 := Lib.hid (HR5.out.below hb6)
  have HX6 := Lib.hid (HX5.out.below hb6)
  clear hb6 HA d0 d2 HU5 HR5 HX5
  have d0 := HU6.out.c0
  have HJ1 := Lib.hid (joined_any HX6.out (by have := HL5.out; omega) (wide_alk HY.out.2 HWD.out) (HV.out.below HB6.out))
  rw [joinS_alk HY.out.2] at HJ1
  go_wp2_with fail
  refine HJ1.out.mono ?_
  rintro e w7 ⟨rfl, hb7⟩
  have HB7 := Lib.hid (HB6.out.trans (hb7.mono HB6.out.size))
  have HR7 := Lib.hid (HR6.out.below hb7)
  clear hb7 HJ1 d0 HU6 HR6 HX6
  have HJ2 := Lib.hid (joined_any HR7.out (by have := HN.out; omega) HWD.out (HV.out.below HB7.out))
  go_wp2_with fail
  refine HJ2.out.mono ?_
  rintro e w8 ⟨rfl, hb8⟩
  have HB8 := Lib.hid (HB7.out.trans (hb8.mono HB7.out.size))
  clear hb8 HJ2 HR7
  generalize bsOf (joinS ts) = JS at *
  have hself : (JS.toList == JS.toList) = true := by simp
  go_wp2
  go_ret
  exact ⟨rfl, HB8.out⟩

end Go.Proofs.Ytpmciakmmchndaa.lexerJoins
