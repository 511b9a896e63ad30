/-
  Dictionaries match the reference: what the law's calls give, as facts.
-/
import Derived.Test.YtdcapmbgnoahpaaDcRf6
import Derived.Test.YtdcapmbgnoahpaaDcWords
import Derived.Test.YtdcapmbgnoahpaaRegSrcs
namespace Go.Proofs.Ytdcapmbgnoahpaa
open Go Go.RowKit Go.Shelf Go.Sort Go.ChangeShapes Go.WideShapes Go.ChangeAt

/-! ### A store into a pair leaves what reads elsewhere -/
theorem rd_put {K : Nat → Prop} {W W' : World} {k : IntKind} {a : Option Addr} {n c : Nat} {zs : List Int} {B : Nat} {ty : TypeId} {cs : Array Value} (h : Rd K W k a n c zs) (hz : W.heap[B]? = some (.cells #[.slice none 0 0, .int .i64 0] ty (0, 0)))
    (hp : Puts W B cs ty W') (hno : k ≠ .i64 ∨ Z0 a) : Rd K W' k a n c zs := by
  refine ⟨h.hl, h.fit, h.top, h.small, fun h0 => ?_⟩
  obtain ⟨b, off, rfl, hb, hlt, hc⟩ := h.cells h0
  have hne : b ≠ B := by
    rintro rfl
    have h1 := hc 0 h0
    rw [Nat.add_zero] at h1
    simp only [World.cell?, hz] at h1
    rcases off with _ | _ | off
    · simp at h1
    · simp at h1
      rcases hno with hn | hn
      · exact hn h1.1.symm
      · have := hn _ _ _ rfl
        omega
    · simp at h1
  refine ⟨b, off, rfl, hb, by rw [hp.2.2.2.1]; exact hlt, fun j hj => ?_⟩
  rw [← hc j hj]
  simp only [World.cell?, hp.2.2.2.2.2 b hne]
theorem rds_put {K : Nat → Prop} {W W' : World} {a : Option Addr} {n c : Nat} {ss : List (List UInt8)} {B : Nat} {ty : TypeId} {cs : Array Value} (h : RdS K W a n c ss) (hz : W.heap[B]? = some (.cells #[.slice none 0 0, .int .i64 0] ty (0, 0)))
    (hp : Puts W B cs ty W') : RdS K W' a n c ss := by
  refine ⟨h.hl, h.fit, h.top, h.small, h.wide, fun h0 => ?_⟩
  obtain ⟨b, off, rfl, hb, hlt, hc⟩ := h.cells h0
  have hne : b ≠ B := by
    rintro rfl
    have h1 := hc 0 h0
    rw [Nat.add_zero] at h1
    simp only [World.cell?, hz] at h1
    rcases off with _ | _ | off <;> simp at h1
  refine ⟨b, off, rfl, hb, by rw [hp.2.2.2.1]; exact hlt, fun j hj => ?_⟩
  rw [← hc j hj]
  simp only [World.cell?, hp.2.2.2.2.2 b hne]

/-! ### Facts -/
def AnyS (ss : List (List UInt8)) : Fact := fun v W => ∃ a n c, v = .slice a n c ∧ RdS (fun _ => True) W a n c ss
theorem anyS_stable (ss : List (List UInt8)) : (AnyS ss).Stable := fun _ _ _ ⟨a, n, c, e, h⟩ hb => ⟨a, n, c, e, h.below hb⟩
def CdF (d l : List (List UInt8)) : Fact := fun v W => ∃ a n c, v = .agg #[.slice a n c, .int .i64 (cdE d l)] ∧ Rd (fun _ => True) W .i64 a n c (cdL d l) ∧ Z0 a
theorem cdF_stable (d l : List (List UInt8)) : (CdF d l).Stable := fun _ _ _ ⟨a, n, c, e, h, z⟩ hb => ⟨a, n, c, e, h.below hb, z⟩
def StF (d : List (List UInt8)) (cs : List Int) : Fact := fun v W => ∃ a n c, v = .agg #[.slice a n c, .int .i64 (stE d cs)] ∧ RdS (fun _ => True) W a n c (stL d cs)
theorem stF_stable (d : List (List UInt8)) (cs : List Int) : (StF d cs).Stable := fun _ _ _ ⟨a, n, c, e, h⟩ hb => ⟨a, n, c, e, h.below hb⟩
def PkF (ss : List (List UInt8)) : Fact := fun v W => ∃ a n c, v = .agg #[.slice a n c, .int .i64 (pkE ss)] ∧ Rd (fun _ => True) W .u8 a n c (pkL ss)
theorem pkF_stable (ss : List (List UInt8)) : (PkF ss).Stable := fun _ _ _ ⟨a, n, c, e, h⟩ hb => ⟨a, n, c, e, h.below hb⟩
def UnF (bs : List Int) : Fact := fun v W => ∃ a1 n1 c1 a2 n2 c2, v = .agg #[.slice a1 n1 c1, .slice a2 n2 c2, .int .i64 (unE bs)] ∧ RdS (fun _ => True) W a1 n1 c1 (unL bs) ∧ Rd (fun _ => True) W .u8 a2 n2 c2 (unR bs)
theorem unF_stable (bs : List Int) : (UnF bs).Stable := fun _ _ _ ⟨a1, n1, c1, a2, n2, c2, e, h1, h2⟩ hb => ⟨a1, n1, c1, a2, n2, c2, e, h1.below hb, h2.below hb⟩
def Duos (vs : List VarSrc) : Prop := ∀ v ∈ vs, v.z = #[.slice none 0 0, .int .i64 0]
theorem cdF_putS {vs : List VarSrc} (hv : Duos vs) (d l : List (List UInt8)) : (CdF d l).PutS vs := fun _ _ _ _ _ v hm ⟨a, n, c, e, h, z⟩ hz hp => ⟨a, n, c, e, rd_put h (by rw [hv v hm] at hz; exact hz) hp (.inr z), z⟩
theorem stF_putS {vs : List VarSrc} (hv : Duos vs) (d : List (List UInt8)) (cs : List Int) : (StF d cs).PutS vs := fun _ _ _ _ _ v hm ⟨a, n, c, e, h⟩ hz hp => ⟨a, n, c, e, rds_put h (by rw [hv v hm] at hz; exact hz) hp⟩
theorem pkF_putS {vs : List VarSrc} (hv : Duos vs) (ss : List (List UInt8)) : (PkF ss).PutS vs := fun _ _ _ _ _ v hm ⟨a, n, c, e, h⟩ hz hp => ⟨a, n, c, e, rd_put h (by rw [hv v hm] at hz; exact hz) hp (.inl (by decide))⟩

/-! ### Calls, as facts -/
abbrev Yields (W : World) (φ : Fact) : Ending → World → Prop := fun e w' => ∃ v, e = .returned v ∧ φ v w' ∧ Below W.heap.size W w'
section
variable {K K' : Nat → Prop} {a a' : Option Addr} {len cap len' cap' : Nat} {d l : List (List UInt8)} {W : World}
theorem codesW_f (hR : RdS K W a len cap d) (hR' : RdS K' W a' len' cap' l) : Calls Try.prog 14 #[.slice a len cap, .slice a' len' cap'] W (Yields W (CdF d l)) :=
  (codesW_p hR hR').mono fun _ _ ⟨hb, a, n, c, e, h, z⟩ => ⟨_, e, ⟨a, n, c, rfl, h, z⟩, hb⟩
theorem codesR_f (hR : RdS K W a len cap d) (hR' : RdS K' W a' len' cap' l) : Calls Try.prog 15 #[.slice a len cap, .slice a' len' cap'] W (Yields W (CdF d l)) :=
  (codesR_any hR hR').mono fun _ _ ⟨hb, a, n, c, e, h, z⟩ => ⟨_, e, ⟨a, n, c, rfl, h, z⟩, hb⟩
theorem stringsW_f {cs : List Int} (hR : RdS K W a len cap d) (hR' : Rd K' W .i64 a' len' cap' cs) (hs : len' ≤ 1000) : Calls Try.prog 16 #[.slice a len cap, .slice a' len' cap'] W (Yields W (StF d cs)) :=
  (stringsW_p hR hR' (by omega)).mono fun _ _ ⟨hb, a, n, c, e, h⟩ => ⟨_, e, ⟨a, n, c, rfl, h⟩, hb⟩
theorem stringsR_f {cs : List Int} (hR : RdS K W a len cap d) (hR' : Rd K' W .i64 a' len' cap' cs) (hs : len' ≤ 1000) : Calls Try.prog 17 #[.slice a len cap, .slice a' len' cap'] W (Yields W (StF d cs)) :=
  (stringsR_any hR hR' (by omega)).mono fun _ _ ⟨hb, a, n, c, e, h⟩ => ⟨_, e, ⟨a, n, c, rfl, h⟩, hb⟩
theorem packedW_f (hR : RdS K W a len cap d) : Calls Try.prog 18 #[.slice a len cap] W (Yields W (PkF d)) :=
  (packedW_p hR).mono fun _ _ ⟨a, n, c, e, h, hb⟩ => ⟨_, e, ⟨a, n, c, rfl, h⟩, hb⟩
theorem packR_f (hR : RdS K W a len cap d) : Calls Try.prog 19 #[.slice a len cap] W (Yields W (PkF d)) :=
  (packR_any hR).mono fun _ _ ⟨a, n, c, e, h, hb⟩ => ⟨_, e, ⟨a, n, c, rfl, h⟩, hb⟩
theorem ofW_f (hR : RdS K W a len cap d) : Calls Try.prog 21 #[.slice a len cap] W (Yields W (AnyS (ofS d))) :=
  (of_any hR).mono fun _ _ ⟨a, n, c, e, h, hb⟩ => ⟨_, e, ⟨a, n, c, rfl, h.mono fun _ _ _ => trivial⟩, hb⟩
theorem ofR_f (hR : RdS K W a len cap d) (hl : len ≤ 1000000) : Calls Try.prog 13 #[.slice a len cap] W (Yields W (AnyS (ofS d))) :=
  (ofR_any hR hl).mono fun _ _ ⟨a, n, c, e, h, hb⟩ => ⟨_, e, ⟨a, n, c, rfl, h.mono fun _ _ _ => trivial⟩, hb⟩
theorem unpW_f {bs : List Int} (ho : Oct bs) (hR : Rd K W .u8 a len cap bs) : Calls Try.prog 27 #[.slice a len cap] W (Yields W (UnF bs)) :=
  (unpW_any ho hR).mono fun _ _ ⟨a1, n1, c1, a2, n2, c2, e, h1, h2, hb⟩ => ⟨_, e, ⟨a1, n1, c1, a2, n2, c2, rfl, h1, h2⟩, hb⟩
theorem unpR_f {bs : List Int} (ho : Oct bs) (hR : Rd K W .u8 a len cap bs) : Calls Try.prog 28 #[.slice a len cap] W (Yields W (UnF bs)) :=
  (unpR_any ho hR).mono fun _ _ ⟨a1, n1, c1, a2, n2, c2, e, h1, h2, hb⟩ => ⟨_, e, ⟨a1, n1, c1, a2, n2, c2, rfl, h1, h2⟩, hb⟩
theorem equal_f {bs : List Int} {u v : Value} (h1 : UnF bs u W) (h2 : UnF bs v W) : Calls Try.prog 26 #[u, v] W fun e w' => e = .returned (.bool true) ∧ Below W.heap.size W w' := by
  obtain ⟨a1, n1, c1, a2, n2, c2, rfl, r1, r2⟩ := h1
  obtain ⟨a3, n3, c3, a4, n4, c4, rfl, r3, r4⟩ := h2
  refine (equalD_any (unE bs) (unE bs) r1 r2 r3 r4).mono ?_
  rintro e w' ⟨rfl, hb⟩
  exact ⟨by rw [beq_self_eq_true, sameS_true rfl, sameB_true rfl]; rfl, hb⟩
end

/-! ### The law's own short -/
def shortD (l : List (List UInt8)) : Bool := (l.take 31).all (fun s => decide (s.length ≤ 300)) && decide (l.length ≤ 30)
set_option maxRecDepth 100000 in
theorem short5_any {K : Nat → Prop} {a : Option Addr} {len cap : Nat} {ss : List (List UInt8)} {W : World} (hR : RdS K W a len cap ss) :
    Calls Try.prog 11 #[.slice a len cap] W fun e w' => e = .returned (.bool (shortD ss)) ∧ Below W.heap.size W w' := by
  have HL := Lib.hid hR.hl
  have H := Lib.hid hR
  have hfit := hR.fit
  obtain ⟨r, hr⟩ : ∃ r, shortD ss = r := ⟨_, rfl⟩
  have HR := Lib.hid hr
  rw [hr]
  clear hR hr
  go_enter Try.func11, Try.ntmps11
  go_wp2
  go_loop [3] (fun i => ∃ k : Nat, k ≤ len ∧ k ≤ 31 ∧ i = .int .i64 (k : Int) ∧ Hid ((ss.take k).all (fun s => decide (s.length ≤ 300)) = true)) (fun i => 31 - (intOf i).toNat)
  case atStart => exact ⟨0, Nat.zero_le _, by omega, rfl, rfl⟩
  case round =>
    obtain ⟨k, hk, hk31, rfl, HA⟩ := hrel
    by_cases hlt : k < len
    · have hltI : (k : Int) < (len : Int) := by omega
      by_cases h31 : k < 31
      · have h31I : (k : Int) < 31 := by omega
        obtain ⟨b, off, rfl, _, hblt, hc⟩ := H.out.cells (by omega)
        have hcx := hc k hlt
        have hks : k < ss.length := by rw [← HL.out]; exact hlt
        have HT := Lib.hid (take_snocS ss k hks)
        obtain ⟨x, hx⟩ : ∃ x, ss[k]?.getD [] = x := ⟨_, rfl⟩
        have HXM : Hid (x ∈ ss.take 31) := by
          show _ ∈ _
          rw [← hx, List.getElem?_eq_getElem hks, List.mem_take_iff_getElem]
          exact ⟨k, by omega, rfl⟩
        rw [hx] at hcx HT
        have hxs := bs_size x
        obtain ⟨X, hX⟩ : ∃ X, bsOf x = X := ⟨_, rfl⟩
        rw [hX] at hcx hxs
        clear hX hx hks hc
        by_cases hb : 300 < x.length
        · have hbI : (x.length : Int) > 300 := by omega
          have HF : Hid (false = r) := by
            show _ = _
            rw [← HR.out]
            unfold shortD
            symm
            rw [Bool.and_eq_false_iff]
            left
            rw [List.all_eq_false]
            exact ⟨x, HXM.out, by simp; omega⟩
          go_wp2
          go_ret
          exact ⟨by rw [← HF.out]; rfl, Below.refl _ _⟩
        · have hbI : ¬ (x.length : Int) > 300 := by omega
          have HA2 : Hid ((ss.take (k + 1)).all (fun s => decide (s.length ≤ 300)) = true) := by
            show _ = _
            rw [HT.out, List.all_append, HA.out]
            simp
            omega
          go_wp2
          go_round
          case rel => exact ⟨k + 1, by omega, by omega, by go_num, HA2⟩
          case measure => simp [intOf]; omega
      · have h31I : ¬ (k : Int) < 31 := by omega
        have HF : Hid (decide ((len : Int) ≤ 30) = r) := by
          show _ = _
          rw [← HR.out]
          unfold shortD
          rw [decide_eq_false (by omega), decide_eq_false (by rw [← HL.out]; omega), Bool.and_false]
        have hl30 : decide ((len : Int) ≤ 30) = r := HF.out
        go_wp2
        go_ret
        exact ⟨rfl, Below.refl _ _⟩
    · obtain rfl : k = len := by omega
      have hltI : ¬ (k : Int) < (k : Int) := Int.lt_irrefl _
      have HF : Hid (decide ((k : Int) ≤ 30) = r) := by
        show _ = _
        rw [← HR.out]
        unfold shortD
        have hT : ss.take 31 = ss := List.take_of_length_le (by rw [← HL.out]; omega)
        have hT2 : ss.take k = ss := List.take_of_length_le (by rw [← HL.out]; exact Nat.le_refl _)
        have hA := HA.out
        rw [hT2] at hA
        rw [hT, hA, Bool.true_and, ← HL.out]
        by_cases h : k ≤ 30
        · rw [decide_eq_true h, decide_eq_true (by omega)]
        · rw [decide_eq_false h, decide_eq_false (by omega)]
      have hl30 : decide ((k : Int) ≤ 30) = r := HF.out
      go_wp2
      go_ret
      exact ⟨rfl, Below.refl _ _⟩
theorem shortD_parts {l : List (List UInt8)} (h : shortD l = true) : l.length ≤ 30 := by
  unfold shortD at h
  rw [Bool.and_eq_true] at h
  exact of_decide_eq_true h.2

/-! ### The box of the strings, codes, bytes and three more bytes; stores of pairs -/
def Hex (W : World) (B : Nat) (t : TypeId) (a b c x y z : Value) : Prop := W.heap[B]? = some (.cells #[a, b, c, x, y, z] t (0, 0))
theorem Hex.new (W : World) (t : TypeId) (a b c x y z : Value) : Hex (W.alloc (.cells #[a, b, c, x, y, z] t)) W.heap.size t a b c x y z := World.alloc_heap_new W _
section
variable {W : World} {B : Nat} {t : TypeId} {a b c x y z : Value}
theorem Hex.lt (h : Hex W B t a b c x y z) : B < W.heap.size := (Array.getElem?_eq_some_iff.1 h).1
theorem Hex.c0 (h : Hex W B t a b c x y z) : W.cell? ⟨B, 0, none⟩ = some a := by simp [World.cell?, show W.heap[B]? = _ from h]
theorem Hex.c1 (h : Hex W B t a b c x y z) : W.cell? ⟨B, 1, none⟩ = some b := by simp [World.cell?, show W.heap[B]? = _ from h]
theorem Hex.c2 (h : Hex W B t a b c x y z) : W.cell? ⟨B, 2, none⟩ = some c := by simp [World.cell?, show W.heap[B]? = _ from h]
theorem Hex.c3 (h : Hex W B t a b c x y z) : W.cell? ⟨B, 3, none⟩ = some x := by simp [World.cell?, show W.heap[B]? = _ from h]
theorem Hex.c4 (h : Hex W B t a b c x y z) : W.cell? ⟨B, 4, none⟩ = some y := by simp [World.cell?, show W.heap[B]? = _ from h]
theorem Hex.c5 (h : Hex W B t a b c x y z) : W.cell? ⟨B, 5, none⟩ = some z := by simp [World.cell?, show W.heap[B]? = _ from h]
theorem Hex.below {V : World} {n : Nat} (h : Hex W B t a b c x y z) (hb : Below n W V) (hn : B < n) : Hex V B t a b c x y z := (hb.block B hn).trans h
end
theorem puts_duo {W : World} {B : Nat} {a b x y : Value} {ty : TypeId} (h : W.heap[B]? = some (.cells #[a, b] ty (0, 0))) : Puts W B #[x, y] ty ((W.setCell ⟨B, 0, none⟩ x).setCell ⟨B, 1, none⟩ y) := by
  refine ⟨rfl, rfl, rfl, by simp [World.setCell], ?_, fun c hc => ?_⟩
  · simp only [World.setCell, Array.getElem?_modify]
    simp [h]
  · simp only [World.setCell, Array.getElem?_modify]
    rw [if_neg (fun e => hc e.symm), if_neg (fun e => hc e.symm)]
theorem store_cd {Q : Exit → Act → World → Prop} {o : Oper} {a : Act} {W : World} {B : Nat} {s1 s2 : Nat} {p : Option Addr} {n c : Nat} {e : Int} (ho : o.op = .store 35 (.tmp s1) (.tmp s2)) (hd : o.dst = none) (hp : a.eval (.tmp s1) = .pointer (some ⟨B, 0, none⟩)) (hx : a.eval (.tmp s2) = .agg #[.slice p n c, .int .i64 e])
    (hk : W.heap[B]? = some (.cells #[.slice none 0 0, .int .i64 0] 35 (0, 0))) : o.wp Try.prog a W (fun a' W' => a' = a ∧ ∃ cs, a.eval (.tmp s2) = .agg cs ∧ Puts W B cs 35 W') Q := by
  have hD : Duo W B 35 (.slice none 0 0) (.int .i64 0) := hk
  have c0 := hD.c0
  have c1 := hD.c1
  have g0 := hD.f 0
  have g1 := hD.f 1
  unfold Oper.wp
  simp [execOp, ho, go_sem, tm hp, tm hx, c0, c1, g0, g1, Oper.upon, hd]
  exact puts_duo hk
theorem store_li {Q : Exit → Act → World → Prop} {o : Oper} {a : Act} {W : World} {B : Nat} {s1 s2 : Nat} {p : Option Addr} {n c : Nat} {e : Int} (ho : o.op = .store 38 (.tmp s1) (.tmp s2)) (hd : o.dst = none) (hp : a.eval (.tmp s1) = .pointer (some ⟨B, 0, none⟩)) (hx : a.eval (.tmp s2) = .agg #[.slice p n c, .int .i64 e])
    (hk : W.heap[B]? = some (.cells #[.slice none 0 0, .int .i64 0] 38 (0, 0))) : o.wp Try.prog a W (fun a' W' => a' = a ∧ ∃ cs, a.eval (.tmp s2) = .agg cs ∧ Puts W B cs 38 W') Q := by
  have hD : Duo W B 38 (.slice none 0 0) (.int .i64 0) := hk
  have c0 := hD.c0
  have c1 := hD.c1
  have g0 := hD.f 0
  have g1 := hD.f 1
  unfold Oper.wp
  simp [execOp, ho, go_sem, tm hp, tm hx, c0, c1, g0, g1, Oper.upon, hd]
  exact puts_duo hk
theorem store_by {Q : Exit → Act → World → Prop} {o : Oper} {a : Act} {W : World} {B : Nat} {s1 s2 : Nat} {p : Option Addr} {n c : Nat} {e : Int} (ho : o.op = .store 41 (.tmp s1) (.tmp s2)) (hd : o.dst = none) (hp : a.eval (.tmp s1) = .pointer (some ⟨B, 0, none⟩)) (hx : a.eval (.tmp s2) = .agg #[.slice p n c, .int .i64 e])
    (hk : W.heap[B]? = some (.cells #[.slice none 0 0, .int .i64 0] 41 (0, 0))) : o.wp Try.prog a W (fun a' W' => a' = a ∧ ∃ cs, a.eval (.tmp s2) = .agg cs ∧ Puts W B cs 41 W') Q := by
  have hD : Duo W B 41 (.slice none 0 0) (.int .i64 0) := hk
  have c0 := hD.c0
  have c1 := hD.c1
  have g0 := hD.f 0
  have g1 := hD.f 1
  unfold Oper.wp
  simp [execOp, ho, go_sem, tm hp, tm hx, c0, c1, g0, g1, Oper.upon, hd]
  exact puts_duo hk
theorem rowS_rd {base : Nat} {ss : List (List UInt8)} {v : Value} {W : World} (h : RowS base ss v W) (hw : ∀ s ∈ ss, s.length ≤ maxLen) (hl : ss.length ≤ 1000000) : ∃ g c : Nat, v = .slice (some ⟨g, 0, none⟩) ss.length c ∧ RdS (fun _ => True) W (some ⟨g, 0, none⟩) ss.length c ss := by
  obtain ⟨g, c, e, h1, h2⟩ := h
  exact ⟨g, c, e, (RdS.of_row rfl (by omega) hw h2).mono fun _ _ _ => trivial⟩
/-- The four lists. -/
def AllF (u1 u2 u3 : Value) (ss : List (List UInt8)) : Fact := fun v W => ∃ B a n c, v = .slice (some ⟨B, 0, none⟩) 4 4 ∧ Quad W B 23 u1 u2 u3 (.slice a n c) ∧ RdS (fun _ => True) W a n c ss
theorem allF_stable (u1 u2 u3 : Value) (ss : List (List UInt8)) : (AllF u1 u2 u3 ss).Stable := fun _ _ _ ⟨B, a, n, c, e, h1, h2⟩ hb => ⟨B, a, n, c, e, h1.below hb h1.lt, h2.below hb⟩

end Go.Proofs.Ytdcapmbgnoahpaa
