/-
  Facts on byte rows of a region's own, and on what was read.
-/
import Derived.Test.YtocnkjnlmciojaaGreatDoorVlExPre
import Derived.Test.YtocnkjnlmciojaaGreatDoorVlAppL
import Derived.Test.YtocnkjnlmciojaaGreatDoorVlWrap
import Derived.Test.YtocnkjnlmciojaaGreatDoorVlByMath
import Derived.Test.YtocnkjnlmciojaaGreatDoorRegFacts
namespace Go.Proofs.YtocnkjnlmciojaaGreatDoor
open Go Go.RowKit Go.Shelf Go.ChangeShapes Go.WideShapes Go.ChangeAt

/-- A row of bytes of the region's own. -/
def RowF (base : Nat) (zs : List Int) : Fact := fun v W => ∃ g c : Nat, v = .slice (some ⟨g, 0, none⟩) zs.length c ∧ zs.length ≤ c ∧ W.ownsRow base 5 1 (.slice (some ⟨g, 0, none⟩) zs.length c) zs.length (zs.map (Value.int .u8))
theorem rowF_stable (base : Nat) (zs : List Int) : (RowF base zs).Stable := fun _ _ _ ⟨g, c, e, h1, h2⟩ hb => ⟨g, c, e, h1, row_below h2 hb⟩
theorem rowF_rd {base : Nat} {zs : List Int} {v : Value} {W : World} (h : RowF base zs v W) (hl : zs.length ≤ 100000000) : ∃ g c : Nat, v = .slice (some ⟨g, 0, none⟩) zs.length c ∧ Rd (fun b => base ≤ b) W .u8 (some ⟨g, 0, none⟩) zs.length c zs := by
  obtain ⟨g, c, e, h1, h2⟩ := h
  exact ⟨g, c, e, Rd.of_row rfl h1 (by omega) h2⟩
theorem rowF_lt {base : Nat} {zs : List Int} {v : Value} {W : World} {g c : Nat} (h : RowF base zs v W) (e : v = .slice (some ⟨g, 0, none⟩) zs.length c) : base ≤ g ∧ g < W.heap.size := by
  obtain ⟨g', c', e', _, h2⟩ := h
  rw [e'] at e
  cases e
  rcases h2.2 with ⟨h, _⟩ | ⟨g2, cap, cur, h, hb, hg, _⟩
  · cases h
  · cases h; exact ⟨hb, (Array.getElem?_eq_some_iff.1 hg).1⟩
theorem makes_row {base : Nat} {f : FuncId} {args : Array Value} {W : World} {zs : List Int} (hb : base ≤ W.heap.size) (h : Calls Tryz.prog f args W fun e w' => Makes W e w' zs) : Calls Tryz.prog f args W fun e w' => ∃ v, e = .returned v ∧ RowF base zs v w' ∧ Below W.heap.size W w' :=
  h.mono fun _ _ ⟨g, c, e1, h1, h2, h3⟩ => ⟨_, e1, ⟨g, c, rfl, h1, h2.mono hb⟩, h3⟩
theorem rowF_append {base : Nat} {zs ys : List Int} {v : Value} {W : World} (h : RowF base zs v W) {K : Nat → Prop} {a : Option Addr} {len cap : Nat} (hR : Rd K W .u8 a len cap ys) (hb : base ≤ W.heap.size) (hl : zs.length + len ≤ 100000000) :
    ∃ v' w', (Builtin.append_ #[42, 42] 42 #[v, .slice a len cap]).run Tryz.prog W = .ok v' w' ∧ RowF base (zs ++ ys) v' w' ∧ Below base W w' := by
  obtain ⟨i0, hi, hz0, hz1, hz2⟩ := info_parts Tryz.infoB
  obtain ⟨g, c, rfl, h1, h2⟩ := h
  obtain ⟨g', c', w', hr, h3, h4, h5⟩ := run_append_rd (P := Tryz.prog) W base 42 42 5 i0 _ 1 .u8 Tryz.underlying42 hi hz0 hz1 hz2 rfl g zs.length c zs h2 a len cap ys hR (by unfold maxLen; omega) (by omega) hb
  have hl2 : zs.length + len = (zs ++ ys).length := by rw [List.length_append, ← hR.hl]
  rw [hl2] at hr h3 h5
  exact ⟨_, w', hr, ⟨g', c', rfl, h5, h3⟩, h4⟩

/-- What was read: a value, and the rest, or an error. -/
def GotVF (v : Vl) (rest : List Int) (x : Int) : Fact := fun u W => ∃ (a : Option Addr) (m : Nat), u = .agg #[.int .i64 v.k, .int .i64 v.i, .string (bsOf v.s), .slice none 0 0, .slice a m m, .int .i64 x] ∧ Rd (fun _ => True) W .u8 a m m rest
theorem gotVF_stable (v : Vl) (rest : List Int) (x : Int) : (GotVF v rest x).Stable := fun _ _ _ ⟨a, m, e, r⟩ hb => ⟨a, m, e, r.below hb⟩
/-- A list, and the rest, or an error. -/
def GotLF (vs : List Vl) (rest : List Int) (x : Int) : Fact := fun u W => ∃ (a1 : Option Addr) (n1 c1 : Nat) (a : Option Addr) (m : Nat), u = .agg #[.int .i64 0, .int .i64 0, .string ⟨#[]⟩, .slice a1 n1 c1, .slice a m m, .int .i64 x] ∧ RdV (fun _ => True) W a1 n1 c1 vs ∧ Rd (fun _ => True) W .u8 a m m rest
theorem gotLF_stable (vs : List Vl) (rest : List Int) (x : Int) : (GotLF vs rest x).Stable := fun _ _ _ ⟨a1, n1, c1, a, m, e, r1, r2⟩ hb => ⟨a1, n1, c1, a, m, e, r1.below hb, r2.below hb⟩
/-- What reading gives, with nothing beside an error. -/
def nvV (bs : List Int) : Vl := if (rdV bs).2.2 = 0 then (rdV bs).1 else Vl.null
def nrV (bs : List Int) : List Int := if (rdV bs).2.2 = 0 then bs.drop (rdV bs).2.1 else []
def nvL (bs : List Int) : List Vl := if (rdL bs).2.2 = 0 then (rdL bs).1 else []
def nrL (bs : List Int) : List Int := if (rdL bs).2.2 = 0 then (rdL bs).2.1 else []
theorem readW_all {K : Nat → Prop} {a : Option Addr} {len cap : Nat} {bs : List Int} (ho : Oct bs) {W : World} (hR : Rd K W .u8 a len cap bs) :
    Calls Tryz.prog 52 #[.slice a len cap] W fun e w' => ∃ u', e = .returned u' ∧ GotVF (nvV bs) (nrV bs) (rdV bs).2.2 u' w' ∧ Below W.heap.size W w' := by
  refine (readW_any ho (hR.mono (K' := fun b => b < W.heap.size) fun b hb _ => hb) (fun b hb => hb)).mono ?_
  unfold nvV nrV
  generalize rdV bs = q
  rintro e w' ⟨hb, hp⟩
  rcases hp with ⟨hz, a2, m, rfl, hr2⟩ | ⟨hz, rfl⟩
  · rw [if_pos hz, if_pos hz, hz]
    exact ⟨_, rfl, ⟨a2, m, rfl, hr2.mono fun _ _ _ => trivial⟩, hb⟩
  · rw [if_neg hz, if_neg hz]
    exact ⟨_, rfl, ⟨none, 0, rfl, Rd.empty⟩, hb⟩
theorem readListW_all {K : Nat → Prop} {a : Option Addr} {len cap : Nat} {bs : List Int} (ho : Oct bs) {W : World} (hR : Rd K W .u8 a len cap bs) :
    Calls Tryz.prog 54 #[.slice a len cap] W fun e w' => ∃ u', e = .returned u' ∧ GotLF (nvL bs) (nrL bs) (rdL bs).2.2 u' w' ∧ Below W.heap.size W w' := by
  refine (readListW_any ho (hR.mono (K' := fun b => b < W.heap.size) fun b hb _ => hb) (fun b hb => hb)).mono ?_
  unfold nvL nrL
  generalize rdL bs = q
  rintro e w' ⟨hb, hp⟩
  rcases hp with ⟨hz, a1, n1, c1, a2, m, rfl, hr1, hr2⟩ | ⟨hz, rfl⟩
  · rw [if_pos hz, if_pos hz, hz]
    exact ⟨_, rfl, ⟨a1, n1, c1, a2, m, rfl, hr1.mono fun _ _ _ => trivial, hr2.mono fun _ _ _ => trivial⟩, hb⟩
  · rw [if_neg hz, if_neg hz]
    exact ⟨_, rfl, ⟨none, 0, 0, none, 0, rfl, RdV.empty, Rd.empty⟩, hb⟩
theorem readW_good {base : Nat} {zs : List Int} {u : Value} {W : World} (h : RowF base zs u W) (hl : zs.length ≤ 100000000) (ho : Oct zs) {v : Vl} {c : Nat} {rest : List Int} (hq : rdV zs = (v, c, 0)) (hr : zs.drop c = rest) :
    Calls Tryz.prog 52 #[u] W fun e w' => ∃ u', e = .returned u' ∧ GotVF v rest 0 u' w' ∧ Below W.heap.size W w' := by
  obtain ⟨g, c', rfl, hR⟩ := rowF_rd h hl
  have := readW_all ho hR
  unfold nvV nrV at this
  rw [hq, if_pos rfl, if_pos rfl] at this
  rw [← hr]; exact this
theorem readListW_good {base : Nat} {zs : List Int} {u : Value} {W : World} (h : RowF base zs u W) (hl : zs.length ≤ 100000000) (ho : Oct zs) {vs : List Vl} {rest : List Int} (hq : rdL zs = (vs, rest, 0)) :
    Calls Tryz.prog 54 #[u] W fun e w' => ∃ u', e = .returned u' ∧ GotLF vs rest 0 u' w' ∧ Below W.heap.size W w' := by
  obtain ⟨g, c', rfl, hR⟩ := rowF_rd h hl
  have := readListW_all ho hR
  unfold nvL nrL at this
  rw [hq, if_pos rfl, if_pos rfl] at this
  exact this

/-- What is read was written so. -/
theorem rdV_back {bs : List Int} (ho : Oct bs) (hz : (rdV bs).2.2 = 0) : widV (nvV bs) = true ∧ (nvV bs).Ok ∧ bytesV (nvV bs) ++ nrV bs = bs := by
  unfold nvV nrV
  rw [if_pos hz, if_pos hz]
  obtain ⟨v, c, z, hq⟩ : ∃ v c z, rdV bs = (v, c, z) := ⟨_, _, _, rfl⟩
  rw [hq] at hz ⊢
  have hz : z = 0 := hz
  subst hz
  obtain ⟨h1, h2, h3, h4⟩ := rd_canon ho hq
  exact ⟨h1, h2, h4.symm⟩
theorem rdL_back {bs : List Int} (ho : Oct bs) (hz : (rdL bs).2.2 = 0) : listV (nvL bs) ++ nrL bs = bs := by
  unfold nvL nrL
  rw [if_pos hz, if_pos hz]
  obtain ⟨vs, r, z, hq⟩ : ∃ vs r z, rdL bs = (vs, r, z) := ⟨_, _, _, rfl⟩
  rw [hq] at hz ⊢
  have hz : z = 0 := hz
  subst hz
  exact (rdL_canon ho hq).2.2.symm
theorem nvL_wides {bs : List Int} (ho : Oct bs) : Wides (nvL bs) ∧ (nvL bs).length ≤ 4096 := by
  unfold nvL
  by_cases hz : (rdL bs).2.2 = 0
  · rw [if_pos hz]
    obtain ⟨vs, r, z, hq⟩ : ∃ vs r z, rdL bs = (vs, r, z) := ⟨_, _, _, rfl⟩
    rw [hq] at hz ⊢
    have hz : z = 0 := hz
    subst hz
    exact ⟨(rdL_canon ho hq).1, (rdL_canon ho hq).2.1⟩
  · rw [if_neg hz]
    exact ⟨fun v hv => (by cases hv), Nat.zero_le _⟩

end Go.Proofs.YtocnkjnlmciojaaGreatDoor
