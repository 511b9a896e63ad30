/-
  The reference's parsing of numbers.
-/
import Derived.Test.YtocnkjnlmciojaaGreatDoorR2Text
import Derived.Deep.DeepCutAuto
namespace Go.Proofs.YtocnkjnlmciojaaGreatDoor.De
open Go Go.RowKit Go.Shelf

def numrB (s : List UInt8) : Bool := digitsB s && !s.isEmpty

set_option maxRecDepth 100000 in
set_option maxHeartbeats 1000000 in
theorem numeral_any (s : List UInt8) (hs : s.length ≤ 1048576) (w : World) : Calls Tryz.prog 74 #[.string (bsOf s)] w fun e w' => e = .returned (.bool (numrB s)) ∧ w' = w := by
  have HS := Lib.hid (bs_size s)
  have HAS := Lib.hid (bs_get2 s)
  have HAT : Hid (∀ k, k < s.length → s[k]? = some (s[k]?.getD 0)) := fun k hk => by rw [List.getElem?_eq_getElem hk]; rfl
  obtain ⟨S, hS⟩ : ∃ S, bsOf s = S := ⟨_, rfl⟩
  rw [hS] at HS HAS
  rw [hS]
  have hs1 : S.size ≤ 1048576 := by rw [HS.out]; exact hs
  clear hS hs
  go_enter Tryz.func74, Tryz.ntmps74
  go_wp2
  go_loop [3] (fun i => ∃ k : Nat, k ≤ S.size ∧ i = .int .i64 k ∧ Hid (digitsB (s.take k) = true)) (fun i => S.size - (intOf i).toNat)
  case atStart => exact ⟨0, Nat.zero_le _, rfl, rfl⟩
  case round =>
    obtain ⟨k, hk, rfl, HE⟩ := hrel
    by_cases hlt : k < S.size
    · have hx := HAS.out k hlt
      have HX := Lib.hid (HAT.out k (by rw [← HS.out]; exact hlt))
      have hkI : (k : Int) < (S.size : Int) := by omega
      generalize s[k]?.getD 0 = x at *
      by_cases hd : digitB x = true
      · have HE2 := Lib.hid (digitsB_step HX.out hd HE.out)
        have hd := of_decide_eq_true hd
        have h1 : ¬ ((x.toNat : Int) < 48) := by omega
        have h2 : ¬ (57 < (x.toNat : Int)) := by omega
        clear hd
        go_wp2
        go_round
        case rel => exact ⟨k + 1, by omega, by go_num, HE2.out⟩
        case measure => simp [intOf]; omega
      · have HB : Hid (false = numrB s) := by show _ = _; unfold numrB; rw [digitsB_bad HX.out (by simpa using hd)]; rfl
        have hd : ¬ (48 ≤ x.toNat ∧ x.toNat ≤ 57) := fun h => hd (decide_eq_true h)
        by_cases h48 : 48 ≤ x.toNat
        · have h1 : ¬ ((x.toNat : Int) < 48) := by omega
          have h2 : 57 < (x.toNat : Int) := by omega
          clear hd h48
          go_wp2
          go_ret
          exact ⟨ret_bool2 HB.out, rfl⟩
        · have h1 : (x.toNat : Int) < 48 := by omega
          clear hd h48
          go_wp2
          go_ret
          exact ⟨ret_bool2 HB.out, rfl⟩
    · obtain rfl : k = S.size := by omega
      have HD : Hid (digitsB s = true) := by have h := HE.out; rwa [List.take_of_length_le (by rw [HS.out]; exact Nat.le_refl _)] at h
      have hm : ¬ ((S.size : Int) < (S.size : Int)) := Int.lt_irrefl _
      by_cases h0 : 0 < S.size
      · have HB : Hid (true = numrB s) := by
          show _ = _
          unfold numrB
          rw [HD.out]
          cases s with
          | nil => rw [HS.out] at h0; exact absurd h0 (Nat.lt_irrefl _)
          | cons a r => rfl
        have h0I : (0 : Int) < (S.size : Int) := by omega
        go_wp2
        go_ret
        exact ⟨ret_bool2 HB.out, rfl⟩
      · have HB : Hid (false = numrB s) := by
          show _ = _
          rw [List.eq_nil_of_length_eq_zero (l := s) (by rw [← HS.out]; omega)]; rfl
        have h0I : ¬ ((0 : Int) < (S.size : Int)) := by omega
        go_wp2
        go_ret
        exact ⟨ret_bool2 HB.out, rfl⟩

/-! ### Four cells in a block of their own -/

def Four (W : World) (B : Nat) (t : TypeId) (a b c d : Value) : Prop := W.heap[B]? = some (.cells #[a, b, c, d] t (0, 0))
theorem Four.new (W : World) (t : TypeId) (a b c d : Value) : Four (W.alloc (.cells #[a, b, c, d] t)) W.heap.size t a b c d := World.alloc_heap_new W _
theorem Four.lt {W : World} {B : Nat} {t : TypeId} {a b c d : Value} (h : Four W B t a b c d) : B < W.heap.size := (Array.getElem?_eq_some_iff.1 h).1
theorem Four.c0 {W : World} {B : Nat} {t : TypeId} {a b c d : Value} (h : Four W B t a b c d) : W.cell? ⟨B, 0, none⟩ = some a := by simp [World.cell?, show W.heap[B]? = _ from h]
theorem Four.c1 {W : World} {B : Nat} {t : TypeId} {a b c d : Value} (h : Four W B t a b c d) : W.cell? ⟨B, 1, none⟩ = some b := by simp [World.cell?, show W.heap[B]? = _ from h]
theorem Four.c2 {W : World} {B : Nat} {t : TypeId} {a b c d : Value} (h : Four W B t a b c d) : W.cell? ⟨B, 2, none⟩ = some c := by simp [World.cell?, show W.heap[B]? = _ from h]
theorem Four.c3 {W : World} {B : Nat} {t : TypeId} {a b c d : Value} (h : Four W B t a b c d) : W.cell? ⟨B, 3, none⟩ = some d := by simp [World.cell?, show W.heap[B]? = _ from h]
theorem Four.f {W : World} {B : Nat} {t : TypeId} {a b c d : Value} (h : Four W B t a b c d) (o : Nat) : W.frozen? ⟨B, o, none⟩ = false := by simp [World.frozen?, show W.heap[B]? = _ from h]
theorem Four.below {W V : World} {B n : Nat} {t : TypeId} {a b c d : Value} (h : Four W B t a b c d) (hb : Below n W V) (hn : B < n) : Four V B t a b c d := (hb.block B hn).trans h
theorem Four.set0 {W : World} {B : Nat} {t : TypeId} {a b c d : Value} (h : Four W B t a b c d) (x : Value) : Four (W.setCell ⟨B, 0, none⟩ x) B t x b c d := by unfold Four at *; simp [World.setCell, Array.getElem?_modify, h]
theorem Four.set1 {W : World} {B : Nat} {t : TypeId} {a b c d : Value} (h : Four W B t a b c d) (x : Value) : Four (W.setCell ⟨B, 1, none⟩ x) B t a x c d := by unfold Four at *; simp [World.setCell, Array.getElem?_modify, h]
theorem Four.set2 {W : World} {B : Nat} {t : TypeId} {a b c d : Value} (h : Four W B t a b c d) (x : Value) : Four (W.setCell ⟨B, 2, none⟩ x) B t a b x d := by unfold Four at *; simp [World.setCell, Array.getElem?_modify, h]
theorem Four.set3 {W : World} {B : Nat} {t : TypeId} {a b c d : Value} (h : Four W B t a b c d) (x : Value) : Four (W.setCell ⟨B, 3, none⟩ x) B t a b c x := by unfold Four at *; simp [World.setCell, Array.getElem?_modify, h]
theorem Four.other {W : World} {B B' i : Nat} {t : TypeId} {a b c d : Value} (h : Four W B t a b c d) (hn : B ≠ B') (x : Value) : Four (W.setCell ⟨B', i, none⟩ x) B t a b c d := by unfold Four at *; simp [World.setCell, Array.getElem?_modify, Ne.symm hn, h]

/-! ### Where the point stands -/

/-- What has been found among the first k bytes. -/
def Found (l : List UInt8) (k : Nat) (pt : Bool) (wh pa : List UInt8) : Prop :=
  (pt = false ∧ wh = [] ∧ pa = [] ∧ (46 : UInt8) ∉ l.take k) ∨ (pt = true ∧ Lib.cut l [46] = (wh, pa, true))
theorem found_start (l : List UInt8) : Found l 0 false [] [] := .inl ⟨rfl, rfl, rfl, by rw [List.take_zero]; simp⟩
theorem found_other {l : List UInt8} {k : Nat} {pt : Bool} {wh pa : List UInt8} (h : Found l k pt wh pa) (hk : k < l.length) (hx : ¬ l[k]?.getD 0 = 46) : Found l (k + 1) pt wh pa := by
  rcases h with ⟨h1, h2, h3, h4⟩ | h
  · refine .inl ⟨h1, h2, h3, ?_⟩
    rw [List.take_succ_eq_append_getElem hk, List.mem_append, List.mem_singleton]
    rw [List.getElem?_eq_getElem hk] at hx
    rintro (h | h)
    · exact h4 h
    · exact hx h.symm
  · exact .inr h
theorem found_more {l : List UInt8} {k : Nat} {wh pa : List UInt8} (h : Found l k true wh pa) : Found l (k + 1) true wh pa := by
  rcases h with ⟨h1, _⟩ | h
  · cases h1
  · exact .inr h
theorem found_here {l : List UInt8} {k : Nat} {wh pa : List UInt8} (h : Found l k false wh pa) (hk : k < l.length) (hx : l[k]?.getD 0 = 46) : Found l (k + 1) true (l.take k) (l.drop (k + 1)) := by
  rcases h with ⟨_, _, _, h4⟩ | ⟨h1, _⟩
  · refine .inr ⟨rfl, ?_⟩
    have e : l = l.take k ++ 46 :: l.drop (k + 1) := by
      conv => lhs; rw [← List.take_append_drop k l, List.drop_eq_getElem_cons hk]
      rw [List.getElem?_eq_getElem hk] at hx
      rw [show l[k] = 46 from hx]
    have hi := index_hit 46 (l.drop (k + 1)) (l.take k) h4
    rw [← e] at hi
    have hl : (l.take k).length = k := by rw [List.length_take]; omega
    unfold Lib.cut
    rw [hi, hl, if_pos (by omega)]
    simp
  · cases h1
theorem found_end {l : List UInt8} {k : Nat} {pt : Bool} {wh pa : List UInt8} (h : Found l k pt wh pa) (hk : k = l.length) : Lib.cut l [46] = (if pt = true then wh else l, pa, pt) := by
  rcases h with ⟨rfl, rfl, rfl, h4⟩ | ⟨rfl, h⟩
  · rw [List.take_of_length_le (by omega)] at h4
    unfold Lib.cut
    rw [index_miss 46 l h4, if_neg (by decide)]; rfl
  · rw [if_pos rfl]; exact h

def encSplit (mn pt : Bool) (wh pa : List UInt8) : Value := .agg #[.bool mn, .bool pt, .string (bsOf wh), .string (bsOf pa)]

set_option maxRecDepth 100000 in
set_option maxHeartbeats 2000000 in
theorem split_any (s : List UInt8) (hs : s.length ≤ 1048576) (w : World) : Calls Tryz.prog 73 #[.string (bsOf s)] w fun e w' => e = .returned (encSplit (negL s) (cutD s) (cutW s) (cutP s)) ∧ Below w.heap.size w w' := by
  have hsz := bs_size s
  have hbA : Below w.heap.size w ((w.alloc (.cells #[.bool false, .bool false, .string ⟨#[]⟩, .string ⟨#[]⟩] 72)).alloc (.cells #[.bool false, .bool false, .string ⟨#[]⟩, .string ⟨#[]⟩] 72)) := ((Below.self w).alloc (Nat.le_refl _) _).alloc (by simp) _
  have hZ0 := (Four.new w 72 (.bool false) (.bool false) (.string ⟨#[]⟩) (.string ⟨#[]⟩)).below (V := (w.alloc (.cells #[.bool false, .bool false, .string ⟨#[]⟩, .string ⟨#[]⟩] 72)).alloc (.cells #[.bool false, .bool false, .string ⟨#[]⟩, .string ⟨#[]⟩] 72)) ((Below.self _).alloc (Nat.le_refl _) _) (Four.new w 72 (.bool false) (.bool false) (.string ⟨#[]⟩) (.string ⟨#[]⟩)).lt
  have hQ0 := Four.new (w.alloc (.cells #[.bool false, .bool false, .string ⟨#[]⟩, .string ⟨#[]⟩] 72)) 72 (.bool false) (.bool false) (.string ⟨#[]⟩) (.string ⟨#[]⟩)
  rw [World.size_alloc] at hQ0
  have HZ0 := Lib.hid hZ0
  have HQ0 := Lib.hid hQ0
  have HBV := Lib.hid hbA
  have HRES : Hid (∀ mn pt wh pa, (mn, pt, wh, pa) = (negL s, cutD s, cutW s, cutP s) → Ending.returned (.agg #[.bool mn, .bool pt, .string (bsOf wh), .string (bsOf pa)]) = .returned (encSplit (negL s) (cutD s) (cutW s) (cutP s))) := fun mn pt wh pa h => by
    injection h with h1 h; injection h with h2 h; injection h with h3 h4
    rw [h1, h2, h3, h4]; rfl
  have HC0 : Hid (cutW s = (Lib.cut (Lib.trimPrefix s [45]) [46]).1 ∧ cutP s = (Lib.cut (Lib.trimPrefix s [45]) [46]).2.1 ∧ cutD s = (Lib.cut (Lib.trimPrefix s [45]) [46]).2.2) := ⟨rfl, rfl, rfl⟩
  clear hbA hZ0 hQ0
  generalize encSplit (negL s) (cutD s) (cutW s) (cutP s) = RV at *
  go_enter Tryz.func73, Tryz.ntmps73
  go_upto_region 2 with fail
  obtain ⟨B, hB⟩ : ∃ B, w.heap.size = B := ⟨_, rfl⟩
  have HEB := Lib.hid hB
  rw [hB] at HZ0 HQ0 ⊢
  clear hB
  generalize (w.alloc (.cells #[.bool false, .bool false, .string ⟨#[]⟩, .string ⟨#[]⟩] 72)).alloc (.cells #[.bool false, .bool false, .string ⟨#[]⟩, .string ⟨#[]⟩] 72) = V at *
  rw [← HEB.out]
  rw [HEB.out]
  by_cases hm : ∃ l, s = 45 :: l
  · obtain ⟨l, rfl⟩ := hm
    have HNG : Hid (negL (45 :: l) = true) := by show _ = _; unfold negL; simp [Lib.hasPrefix]
    have HTP : Hid (Lib.trimPrefix (45 :: l) [45] = l) := by show _ = _; unfold Lib.trimPrefix; rw [if_pos (by simp [Lib.hasPrefix])]; rfl
    replace hsz : (bsOf (45 :: l)).size = l.length + 1 := hsz
    have hsd : (bsOf (45 :: l)).extract 1 (l.length + 1) = bsOf l := by have h := bs_drop2 (45 :: l) 1; rw [hsz] at h; exact h
    have hlen : 0 < (bsOf (45 :: l)).size := by omega
    have hx0 : (bsOf (45 :: l))[0] = 45 := bs_get2 (45 :: l) 0 hlen
    have q0 := HQ0.out.c0
    have q1 := HQ0.out.c1
    have q2 := HQ0.out.c2
    have q3 := HQ0.out.c3
    have qf0 := HQ0.out.f 0
    have qf1 := HQ0.out.f 1
    have qf2 := HQ0.out.f 2
    have qf3 := HQ0.out.f 3
    have qlt := HQ0.out.lt
    have HQ1 := Lib.hid (HQ0.out.set0 (.bool true))
    have HZ1 := Lib.hid (HZ0.out.other (B' := B + 1) (i := 0) (by omega) (.bool true))
    have HBV1 := Lib.hid (HBV.out.setCell (p := ⟨B + 1, 0, none⟩) (by have := HEB.out; show w.heap.size ≤ B + 1; omega) (.bool true))
    replace hs : l.length + 1 ≤ 1048576 := hs
    have h0I : (0 : Int) < (l.length : Int) + 1 := by omega
    go_upto_region 5 with fail
    clear q0 q1 q2 q3 qf0 qf1 qf2 qf3 qlt HQ0 HZ0 HBV hx0 hsd
    generalize V.setCell ⟨B + 1, 0, none⟩ (.bool true) = V1 at *
    go_wp2_with fail
    have HFS := Lib.hid (found_start l)
    have hls := bs_size l
    have HAS := Lib.hid (bs_get2 l)
    go_loopw [4] (fun i wr => ∃ (k : Nat) (pt : Bool) (wh pa : List UInt8), k ≤ l.length ∧ i = .int .i64 k ∧ Hid (Found l k pt wh pa ∧ Four wr (B + 1) 72 (.bool true) (.bool pt) (.string (bsOf wh)) (.string (bsOf pa)) ∧ Four wr B 72 (.bool false) (.bool false) (.string ⟨#[]⟩) (.string ⟨#[]⟩) ∧ Below w.heap.size w wr)) (fun i _ => l.length - (intOf i).toNat)
    case atStart => exact ⟨0, false, [], [], Nat.zero_le _, rfl, HFS.out, HQ1.out, HZ1.out, HBV1.out⟩
    case round =>
      obtain ⟨k, pt, wh, pa, hk, rfl, HI⟩ := hrel
      have q0 := HI.out.2.1.c0
      have q1 := HI.out.2.1.c1
      have q2 := HI.out.2.1.c2
      have q3 := HI.out.2.1.c3
      have qf0 := HI.out.2.1.f 0
      have qf1 := HI.out.2.1.f 1
      have qf2 := HI.out.2.1.f 2
      have qf3 := HI.out.2.1.f 3
      have qlt := HI.out.2.1.lt
      by_cases hlt : k < l.length
      · have hx := HAS.out k (by omega)
        have HFO := Lib.hid (fun h => found_other HI.out.1 hlt h)
        have hkI : (k : Int) < (l.length : Int) := by omega
        by_cases hz : l[k]?.getD 0 = 46
        · rw [hz] at hx
          cases pt with
          | true =>
            have HI2 : Hid (Found l (k + 1) true wh pa) := found_more HI.out.1
            clear HFO hz
            go_wp2
            go_roundw
            case rel => exact ⟨k + 1, true, wh, pa, by omega, by go_num, HI2.out, HI.out.2.1, HI.out.2.2.1, HI.out.2.2.2⟩
            case measure => simp [intOf]; omega
          | false =>
            have HI2 : Hid (Found l (k + 1) true (l.take k) (l.drop (k + 1))) := found_here HI.out.1 hlt hz
            have hd := bs_drop2 l (k + 1)
            rw [hls] at hd
            have ht := bs_take2 l k
            have HQ2 := Lib.hid (((HI.out.2.1.set1 (.bool true)).set3 (.string (bsOf (l.drop (k + 1))))).set2 (.string (bsOf (l.take k))))
            have HZ2 := Lib.hid (((HI.out.2.2.1.other (B' := B + 1) (i := 1) (by omega) (.bool true)).other (B' := B + 1) (i := 3) (by omega) (.string (bsOf (l.drop (k + 1))))).other (B' := B + 1) (i := 2) (by omega) (.string (bsOf (l.take k))))
            have hBl : w.heap.size ≤ B + 1 := by have := HEB.out; omega
            have HB2 := Lib.hid (((HI.out.2.2.2.setCell (p := ⟨B + 1, 1, none⟩) hBl (.bool true)).setCell (p := ⟨B + 1, 3, none⟩) hBl (.string (bsOf (l.drop (k + 1))))).setCell (p := ⟨B + 1, 2, none⟩) hBl (.string (bsOf (l.take k))))
            clear HFO hz HI
            go_wp2
            go_roundw
            case rel => exact ⟨k + 1, true, l.take k, l.drop (k + 1), by omega, by go_num, HI2.out, HQ2.out, HZ2.out, HB2.out⟩
            case measure => simp [intOf]; omega
        · have HI2 := Lib.hid (HFO.out hz)
          generalize l[k]?.getD 0 = c at *
          have hcT : ((c.toNat : Int) == 46) = false := by
            rw [beq_eq_false_iff_ne]
            exact fun h => hz (UInt8.toNat_inj.1 (by show c.toNat = 46; omega))
          clear HFO hz
          go_wp2
          go_roundw
          case rel => exact ⟨k + 1, pt, wh, pa, by omega, by go_num, HI2.out, HI.out.2.1, HI.out.2.2.1, HI.out.2.2.2⟩
          case measure => simp [intOf]; omega
      · obtain rfl : k = l.length := by omega
        have HE := Lib.hid (found_end HI.out.1 rfl)
        have hjj : ¬ ((l.length : Int) < (l.length : Int)) := Int.lt_irrefl _
        have z0 := HI.out.2.2.1.c0
        have z1 := HI.out.2.2.1.c1
        have z2 := HI.out.2.2.1.c2
        have z3 := HI.out.2.2.1.c3
        have zf0 := HI.out.2.2.1.f 0
        have zf1 := HI.out.2.2.1.f 1
        have zf2 := HI.out.2.2.1.f 2
        have zf3 := HI.out.2.2.1.f 3
        have zlt := HI.out.2.2.1.lt
        have HBW := Lib.hid HI.out.2.2.2
        have hBl : w.heap.size ≤ B := Nat.le_of_eq HEB.out
        have hBl2 : w.heap.size ≤ B + 1 := by omega
        cases pt with
        | true =>
          have HR := Lib.hid (HRES.out true true wh pa (by rw [HNG.out, HC0.out.1, HC0.out.2.1, HC0.out.2.2, HTP.out, HE.out]; rfl))
          clear HI
          go_wp2
          exact bodyPost_ret (v := .agg #[.bool true, .bool true, .string (bsOf wh), .string (bsOf pa)]) (by simp [results, Tryz.results73, go_sem, z0, z1, z2, z3]) rfl ⟨HR.out, (((HBW.out.setCell (p := ⟨B, 0, none⟩) hBl _).setCell (p := ⟨B, 1, none⟩) hBl _).setCell (p := ⟨B, 2, none⟩) hBl _).setCell (p := ⟨B, 3, none⟩) hBl _⟩
        | false =>
          have HR := Lib.hid (HRES.out true false l pa (by rw [HNG.out, HC0.out.1, HC0.out.2.1, HC0.out.2.2, HTP.out, HE.out]; rfl))
          clear HI
          go_wp2
          exact bodyPost_ret (v := .agg #[.bool true, .bool false, .string (bsOf l), .string (bsOf pa)]) (by simp [results, Tryz.results73, go_sem, z0, z1, z2, z3]) rfl ⟨HR.out, ((((HBW.out.setCell (p := ⟨B + 1, 2, none⟩) hBl2 _).setCell (p := ⟨B, 0, none⟩) hBl _).setCell (p := ⟨B, 1, none⟩) hBl _).setCell (p := ⟨B, 2, none⟩) hBl _).setCell (p := ⟨B, 3, none⟩) hBl _⟩
  · have HNG : Hid (negL s = false) := by
      show _ = _
      unfold negL
      cases s with
      | nil => rfl
      | cons c r =>
        have : c ≠ 45 := fun e => hm ⟨r, by rw [e]⟩
        exact pre_ne r (fun e => this e.symm)
    have HTP : Hid (Lib.trimPrefix s [45] = s) := by show _ = _; unfold Lib.trimPrefix; rw [if_neg (by have h := HNG.out; unfold negL at h; rw [h]; decide)]
    have HX : Hid (∀ h : 0 < (bsOf s).size, ((((bsOf s)[0]).toNat : Int) == 45) = false) := fun h => by
      rw [beq_eq_false_iff_ne, bs_get2 s 0 h]
      intro e
      cases s with
      | nil => exact absurd h (by decide)
      | cons c r => exact hm ⟨r, by have : c = 45 := UInt8.toNat_inj.1 (by have e : ((c.toNat : Nat) : Int) = 45 := e; show c.toNat = 45; omega); rw [this]⟩
    have HQ1 := HQ0
    have HZ1 := HZ0
    have HBV1 := HBV
    clear hm HQ0 HZ0 HBV
    by_cases h0 : 0 < s.length
    · have hx0 := HX.out (by omega)
      have h0I : (0 : Int) < (s.length : Int) := by omega
      have hlen0 : 0 < (bsOf s).size := by omega
      generalize hcc : (bsOf s)[0] = c0 at *
      go_wp2_with fail
      clear hx0 hcc hlen0
      clear HX h0 h0I hsz
      have HFS := Lib.hid (found_start s)
      have hls := bs_size s
      have HAS := Lib.hid (bs_get2 s)
      go_loopw [4] (fun i wr => ∃ (k : Nat) (pt : Bool) (wh pa : List UInt8), k ≤ s.length ∧ i = .int .i64 k ∧ Hid (Found s k pt wh pa ∧ Four wr (B + 1) 72 (.bool false) (.bool pt) (.string (bsOf wh)) (.string (bsOf pa)) ∧ Four wr B 72 (.bool false) (.bool false) (.string ⟨#[]⟩) (.string ⟨#[]⟩) ∧ Below w.heap.size w wr)) (fun i _ => s.length - (intOf i).toNat)
      case atStart => exact ⟨0, false, [], [], Nat.zero_le _, rfl, HFS.out, HQ1.out, HZ1.out, HBV1.out⟩
      case round =>
        obtain ⟨k, pt, wh, pa, hk, rfl, HI⟩ := hrel
        have q0 := HI.out.2.1.c0
        have q1 := HI.out.2.1.c1
        have q2 := HI.out.2.1.c2
        have q3 := HI.out.2.1.c3
        have qf0 := HI.out.2.1.f 0
        have qf1 := HI.out.2.1.f 1
        have qf2 := HI.out.2.1.f 2
        have qf3 := HI.out.2.1.f 3
        have qlt := HI.out.2.1.lt
        by_cases hlt : k < s.length
        · have hx := HAS.out k (by omega)
          have HFO := Lib.hid (fun h => found_other HI.out.1 hlt h)
          have hkI : (k : Int) < (s.length : Int) := by omega
          by_cases hz : s[k]?.getD 0 = 46
          · rw [hz] at hx
            cases pt with
            | true =>
              have HI2 : Hid (Found s (k + 1) true wh pa) := found_more HI.out.1
              clear HFO hz
              go_wp2
              go_roundw
              case rel => exact ⟨k + 1, true, wh, pa, by omega, by go_num, HI2.out, HI.out.2.1, HI.out.2.2.1, HI.out.2.2.2⟩
              case measure => simp [intOf]; omega
            | false =>
              have HI2 : Hid (Found s (k + 1) true (s.take k) (s.drop (k + 1))) := found_here HI.out.1 hlt hz
              have hd := bs_drop2 s (k + 1)
              rw [hls] at hd
              have ht := bs_take2 s k
              have HQ2 := Lib.hid (((HI.out.2.1.set1 (.bool true)).set3 (.string (bsOf (s.drop (k + 1))))).set2 (.string (bsOf (s.take k))))
              have HZ2 := Lib.hid (((HI.out.2.2.1.other (B' := B + 1) (i := 1) (by omega) (.bool true)).other (B' := B + 1) (i := 3) (by omega) (.string (bsOf (s.drop (k + 1))))).other (B' := B + 1) (i := 2) (by omega) (.string (bsOf (s.take k))))
              have hBl : w.heap.size ≤ B + 1 := by have := HEB.out; omega
              have HB2 := Lib.hid (((HI.out.2.2.2.setCell (p := ⟨B + 1, 1, none⟩) hBl (.bool true)).setCell (p := ⟨B + 1, 3, none⟩) hBl (.string (bsOf (s.drop (k + 1))))).setCell (p := ⟨B + 1, 2, none⟩) hBl (.string (bsOf (s.take k))))
              clear HFO hz HI
              go_wp2
              go_roundw
              case rel => exact ⟨k + 1, true, s.take k, s.drop (k + 1), by omega, by go_num, HI2.out, HQ2.out, HZ2.out, HB2.out⟩
              case measure => simp [intOf]; omega
          · have HI2 := Lib.hid (HFO.out hz)
            generalize s[k]?.getD 0 = c at *
            have hcT : ((c.toNat : Int) == 46) = false := by
              rw [beq_eq_false_iff_ne]
              exact fun h => hz (UInt8.toNat_inj.1 (by show c.toNat = 46; omega))
            clear HFO hz
            go_wp2
            go_roundw
            case rel => exact ⟨k + 1, pt, wh, pa, by omega, by go_num, HI2.out, HI.out.2.1, HI.out.2.2.1, HI.out.2.2.2⟩
            case measure => simp [intOf]; omega
        · obtain rfl : k = s.length := by omega
          have HE := Lib.hid (found_end HI.out.1 rfl)
          have hjj : ¬ ((s.length : Int) < (s.length : Int)) := Int.lt_irrefl _
          have z0 := HI.out.2.2.1.c0
          have z1 := HI.out.2.2.1.c1
          have z2 := HI.out.2.2.1.c2
          have z3 := HI.out.2.2.1.c3
          have zf0 := HI.out.2.2.1.f 0
          have zf1 := HI.out.2.2.1.f 1
          have zf2 := HI.out.2.2.1.f 2
          have zf3 := HI.out.2.2.1.f 3
          have zlt := HI.out.2.2.1.lt
          have HBW := Lib.hid HI.out.2.2.2
          have hBl : w.heap.size ≤ B := Nat.le_of_eq HEB.out
          have hBl2 : w.heap.size ≤ B + 1 := by omega
          cases pt with
          | true =>
            have HR := Lib.hid (HRES.out false true wh pa (by rw [HNG.out, HC0.out.1, HC0.out.2.1, HC0.out.2.2, HTP.out, HE.out]; rfl))
            clear HI
            go_wp2
            exact bodyPost_ret (v := .agg #[.bool false, .bool true, .string (bsOf wh), .string (bsOf pa)]) (by simp [results, Tryz.results73, go_sem, z0, z1, z2, z3]) rfl ⟨HR.out, (((HBW.out.setCell (p := ⟨B, 0, none⟩) hBl _).setCell (p := ⟨B, 1, none⟩) hBl _).setCell (p := ⟨B, 2, none⟩) hBl _).setCell (p := ⟨B, 3, none⟩) hBl _⟩
          | false =>
            have HR := Lib.hid (HRES.out false false s pa (by rw [HNG.out, HC0.out.1, HC0.out.2.1, HC0.out.2.2, HTP.out, HE.out]; rfl))
            clear HI
            go_wp2
            exact bodyPost_ret (v := .agg #[.bool false, .bool false, .string (bsOf s), .string (bsOf pa)]) (by simp [results, Tryz.results73, go_sem, z0, z1, z2, z3]) rfl ⟨HR.out, ((((HBW.out.setCell (p := ⟨B + 1, 2, none⟩) hBl2 _).setCell (p := ⟨B, 0, none⟩) hBl _).setCell (p := ⟨B, 1, none⟩) hBl _).setCell (p := ⟨B, 2, none⟩) hBl _).setCell (p := ⟨B, 3, none⟩) hBl _⟩
    · have h0I : ¬ ((0 : Int) < (s.length : Int)) := by omega
      go_wp2_with fail
      clear HX h0 h0I hsz
      have HFS := Lib.hid (found_start s)
      have hls := bs_size s
      have HAS := Lib.hid (bs_get2 s)
      go_loopw [4] (fun i wr => ∃ (k : Nat) (pt : Bool) (wh pa : List UInt8), k ≤ s.length ∧ i = .int .i64 k ∧ Hid (Found s k pt wh pa ∧ Four wr (B + 1) 72 (.bool false) (.bool pt) (.string (bsOf wh)) (.string (bsOf pa)) ∧ Four wr B 72 (.bool false) (.bool false) (.string ⟨#[]⟩) (.string ⟨#[]⟩) ∧ Below w.heap.size w wr)) (fun i _ => s.length - (intOf i).toNat)
      case atStart => exact ⟨0, false, [], [], Nat.zero_le _, rfl, HFS.out, HQ1.out, HZ1.out, HBV1.out⟩
      case round =>
        obtain ⟨k, pt, wh, pa, hk, rfl, HI⟩ := hrel
        have q0 := HI.out.2.1.c0
        have q1 := HI.out.2.1.c1
        have q2 := HI.out.2.1.c2
        have q3 := HI.out.2.1.c3
        have qf0 := HI.out.2.1.f 0
        have qf1 := HI.out.2.1.f 1
        have qf2 := HI.out.2.1.f 2
        have qf3 := HI.out.2.1.f 3
        have qlt := HI.out.2.1.lt
        by_cases hlt : k < s.length
        · have hx := HAS.out k (by omega)
          have HFO := Lib.hid (fun h => found_other HI.out.1 hlt h)
          have hkI : (k : Int) < (s.length : Int) := by omega
          by_cases hz : s[k]?.getD 0 = 46
          · rw [hz] at hx
            cases pt with
            | true =>
              have HI2 : Hid (Found s (k + 1) true wh pa) := found_more HI.out.1
              clear HFO hz
              go_wp2
              go_roundw
              case rel => exact ⟨k + 1, true, wh, pa, by omega, by go_num, HI2.out, HI.out.2.1, HI.out.2.2.1, HI.out.2.2.2⟩
              case measure => simp [intOf]; omega
            | false =>
              have HI2 : Hid (Found s (k + 1) true (s.take k) (s.drop (k + 1))) := found_here HI.out.1 hlt hz
              have hd := bs_drop2 s (k + 1)
              rw [hls] at hd
              have ht := bs_take2 s k
              have HQ2 := Lib.hid (((HI.out.2.1.set1 (.bool true)).set3 (.string (bsOf (s.drop (k + 1))))).set2 (.string (bsOf (s.take k))))
              have HZ2 := Lib.hid (((HI.out.2.2.1.other (B' := B + 1) (i := 1) (by omega) (.bool true)).other (B' := B + 1) (i := 3) (by omega) (.string (bsOf (s.drop (k + 1))))).other (B' := B + 1) (i := 2) (by omega) (.string (bsOf (s.take k))))
              have hBl : w.heap.size ≤ B + 1 := by have := HEB.out; omega
              have HB2 := Lib.hid (((HI.out.2.2.2.setCell (p := ⟨B + 1, 1, none⟩) hBl (.bool true)).setCell (p := ⟨B + 1, 3, none⟩) hBl (.string (bsOf (s.drop (k + 1))))).setCell (p := ⟨B + 1, 2, none⟩) hBl (.string (bsOf (s.take k))))
              clear HFO hz HI
              go_wp2
              go_roundw
              case rel => exact ⟨k + 1, true, s.take k, s.drop (k + 1), by omega, by go_num, HI2.out, HQ2.out, HZ2.out, HB2.out⟩
              case measure => simp [intOf]; omega
          · have HI2 := Lib.hid (HFO.out hz)
            generalize s[k]?.getD 0 = c at *
            have hcT : ((c.toNat : Int) == 46) = false := by
              rw [beq_eq_false_iff_ne]
              exact fun h => hz (UInt8.toNat_inj.1 (by show c.toNat = 46; omega))
            clear HFO hz
            go_wp2
            go_roundw
            case rel => exact ⟨k + 1, pt, wh, pa, by omega, by go_num, HI2.out, HI.out.2.1, HI.out.2.2.1, HI.out.2.2.2⟩
            case measure => simp [intOf]; omega
        · obtain rfl : k = s.length := by omega
          have HE := Lib.hid (found_end HI.out.1 rfl)
          have hjj : ¬ ((s.length : Int) < (s.length : Int)) := Int.lt_irrefl _
          have z0 := HI.out.2.2.1.c0
          have z1 := HI.out.2.2.1.c1
          have z2 := HI.out.2.2.1.c2
          have z3 := HI.out.2.2.1.c3
          have zf0 := HI.out.2.2.1.f 0
          have zf1 := HI.out.2.2.1.f 1
          have zf2 := HI.out.2.2.1.f 2
          have zf3 := HI.out.2.2.1.f 3
          have zlt := HI.out.2.2.1.lt
          have HBW := Lib.hid HI.out.2.2.2
          have hBl : w.heap.size ≤ B := Nat.le_of_eq HEB.out
          have hBl2 : w.heap.size ≤ B + 1 := by omega
          cases pt with
          | true =>
            have HR := Lib.hid (HRES.out false true wh pa (by rw [HNG.out, HC0.out.1, HC0.out.2.1, HC0.out.2.2, HTP.out, HE.out]; rfl))
            clear HI
            go_wp2
            exact bodyPost_ret (v := .agg #[.bool false, .bool true, .string (bsOf wh), .string (bsOf pa)]) (by simp [results, Tryz.results73, go_sem, z0, z1, z2, z3]) rfl ⟨HR.out, (((HBW.out.setCell (p := ⟨B, 0, none⟩) hBl _).setCell (p := ⟨B, 1, none⟩) hBl _).setCell (p := ⟨B, 2, none⟩) hBl _).setCell (p := ⟨B, 3, none⟩) hBl _⟩
          | false =>
            have HR := Lib.hid (HRES.out false false s pa (by rw [HNG.out, HC0.out.1, HC0.out.2.1, HC0.out.2.2, HTP.out, HE.out]; rfl))
            clear HI
            go_wp2
            exact bodyPost_ret (v := .agg #[.bool false, .bool false, .string (bsOf s), .string (bsOf pa)]) (by simp [results, Tryz.results73, go_sem, z0, z1, z2, z3]) rfl ⟨HR.out, ((((HBW.out.setCell (p := ⟨B + 1, 2, none⟩) hBl2 _).setCell (p := ⟨B, 0, none⟩) hBl _).setCell (p := ⟨B, 1, none⟩) hBl _).setCell (p := ⟨B, 2, none⟩) hBl _).setCell (p := ⟨B, 3, none⟩) hBl _⟩

end Go.Proofs.YtocnkjnlmciojaaGreatDoor.De

namespace Go.Proofs.YtocnkjnlmciojaaGreatDoor.De
open Go Go.RowKit Go.Shelf

/-- The first test fails a text. -/
def t1B (s W : List UInt8) : Bool := !(wholeB W && !(s == [45, 48]))
def t2B (D : Bool) (P : List UInt8) (k : Int) : Bool := !(!D || placesB P k)
theorem t1_num {s W : List UInt8} (h : numrB W = false) : t1B s W = true := by
  unfold t1B
  have : wholeB W = false := by
    cases hw : wholeB W with
    | false => rfl
    | true =>
      have hd := wholeB_digits hw
      unfold numrB at h
      rw [hd] at h
      cases W with
      | nil => exact absurd hw (by decide)
      | cons a r => exact absurd (show true = false from h) (by decide)
  rw [this]; rfl
theorem t1_lead {s W : List UInt8} (h1 : 1 < W.length) (h : W[0]?.getD 0 = 48) : t1B s W = true := by
  unfold t1B
  have hne : ¬ W = [48] := fun e => by rw [e] at h1; exact absurd h1 (by decide)
  have h0 : W.head? = some 48 := by
    cases W with
    | nil => exact absurd h1 (by decide)
    | cons a r => have h : a = 48 := h; rw [h]; rfl
  rw [whole_lead hne h0]; rfl
theorem t1_rest {s W : List UInt8} (hn : numrB W = true) (h : ¬ (1 < W.length ∧ W[0]?.getD 0 = 48)) : t1B s W = (s == [45, 48]) := by
  unfold numrB at hn
  rw [Bool.and_eq_true] at hn
  unfold t1B
  have : wholeB W = true := by
    cases W with
    | nil => exact absurd hn.2 (by decide)
    | cons a r =>
      by_cases h48 : a = 48
      · subst h48
        cases r with
        | nil => decide
        | cons b r => exact absurd ⟨by simp, rfl⟩ h
      · rw [whole_rest (fun e => h48 (by injection e)) (by simp) (fun e => h48 (by injection e))]
        exact hn.1
  rw [this]; cases (s == [45, 48]) <;> rfl
theorem t2_none {P : List UInt8} {k : Int} : t2B false P k = false := rfl
theorem t2_num {P : List UInt8} {k : Int} (h : numrB P = false) : t2B true P k = true := by
  unfold t2B
  have : placesB P k = false := by
    cases hp : placesB P k with
    | false => rfl
    | true =>
      have hd := placesB_digits hp
      unfold numrB at h
      rw [hd.1] at h
      cases P with
      | nil => exact absurd (places_none (s := k) rfl) (by rw [hp]; decide)
      | cons a r => exact absurd (show true = false from h) (by decide)
  rw [this]; rfl
theorem t2_long {P : List UInt8} {k : Int} (h : k < (P.length : Int)) : t2B true P k = true := by
  unfold t2B; rw [places_long (by omega)]; rfl
theorem t2_last {P : List UInt8} {k : Int} (h : P.getLast? = some 48) : t2B true P k = true := by
  unfold t2B; rw [places_last h]; rfl
theorem t2_rest {P : List UInt8} {k : Int} (hn : numrB P = true) (hl : ¬ k < (P.length : Int)) (h : ¬ P.getLast? = some 48) : t2B true P k = false := by
  unfold numrB at hn
  rw [Bool.and_eq_true] at hn
  unfold t2B
  rw [places_rest (fun e => by rw [e] at hn; exact absurd hn.2 (by decide)) (by omega) h, hn.1]; rfl
theorem last_get {P : List UInt8} {m : Nat} (hm : m + 1 = P.length) : P.getLast? = some (P[m]?.getD 0) := by
  rw [List.getLast?_eq_getElem?, show P.length - 1 = m by omega, List.getElem?_eq_getElem (by omega)]; rfl

theorem parse_scale {s : List UInt8} {k : Int} (h : scaleB k = false) : parseS s k = (0, 1) := by unfold parseS; rw [h]; rfl
theorem parse_t1 {s : List UInt8} {k : Int} (h : scaleB k = true) (h1 : t1B s (cutW s) = true) : parseS s k = (0, 5) := by
  unfold t1B at h1
  unfold parseS formB
  rw [h, if_pos rfl, if_neg]
  intro hf
  rw [Bool.and_eq_true, Bool.and_eq_true] at hf
  rw [hf.1.1, hf.1.2] at h1
  exact absurd h1 (by decide)
theorem parse_t2 {s : List UInt8} {k : Int} (h : scaleB k = true) (h1 : t2B (cutD s) (cutP s) k = true) : parseS s k = (0, 5) := by
  unfold t2B at h1
  unfold parseS formB
  rw [h, if_pos rfl, if_neg]
  intro hf
  rw [Bool.and_eq_true] at hf
  rw [hf.2] at h1
  exact absurd h1 (by decide)
theorem parse_form {s : List UInt8} {k : Int} (h1 : t1B s (cutW s) = false) (h2 : t2B (cutD s) (cutP s) k = false) : formB s k = true := by
  unfold t1B at h1
  unfold t2B at h2
  unfold formB
  cases ha : wholeB (cutW s) with
  | false => rw [ha] at h1; exact absurd (show true = false from h1) (by decide)
  | true =>
    cases hb : (s == [45, 48]) with
    | true => rw [ha, hb] at h1; exact absurd h1 (by decide)
    | false =>
      cases hc : (!cutD s || placesB (cutP s) k) with
      | false => rw [hc] at h2; exact absurd h2 (by decide)
      | true => rfl
theorem parse_long {s : List UInt8} {k : Int} (h : scaleB k = true) (hf : formB s k = true) (hl : 10 < (cutW s).length) : parseS s k = (0, 2) := by
  unfold parseS; rw [h, if_pos rfl, if_pos hf, if_pos hl]
theorem parse_rest {s : List UInt8} {k : Int} (h : scaleB k = true) (hf : formB s k = true) (hl : ¬ 10 < (cutW s).length) : parseS s k = chk (sgn (negL s) (numL s)) := by
  unfold parseS; rw [h, if_pos rfl, if_pos hf, if_neg hl]
theorem num_parts {s : List UInt8} {k : Int} (hf : formB s k = true) (hs : k ≤ 6) (hl : ¬ 10 < (cutW s).length) :
    digitsB (cutW s ++ cutP s) = true ∧ (cutW s ++ cutP s).length ≤ 16 ∧ (cutP s).length ≤ 6 ∧ readN (cutW s ++ cutP s) * unitN (cutP s).length = numL s ∧ numL s < 20000000000000000 := by
  obtain ⟨h1, h2, h3⟩ := formB_parts hf hs
  have hd : digitsB (cutW s ++ cutP s) = true := by rw [digitsB_append, h1, h2]; rfl
  have hw := readN_lt _ h1
  have hw2 : readN (cutW s) < 10 ^ 10 := Nat.lt_of_lt_of_le hw (Nat.pow_le_pow_right (by decide) (by omega))
  have hp := places_val h2 h3
  refine ⟨hd, by rw [List.length_append]; omega, h3, ?_, ?_⟩
  · unfold numL
    rw [readN_append, Nat.add_mul, Nat.mul_assoc, unit_mul _ h3]
  · unfold numL
    omega

/-! ### Two cells in a block of their own -/

theorem big_wraps (M : Nat) (h : M < 20000000000000000) : IntKind.i64.wrap (M : Int) = (M : Int) ∧ wrap64 (M : Int) = (M : Int) ∧ IntKind.i64.wrap (-(M : Int)) = -(M : Int) ∧ wrap64 (-(M : Int)) = -(M : Int) := by
  refine ⟨?_, ?_, ?_, ?_⟩
  · rw [wrap_i64]; omega
  · unfold wrap64; omega
  · rw [wrap_i64]; omega
  · unfold wrap64; omega
theorem dig_wraps (v c : Nat) (hv : v < 1000000000000000) (h1 : 48 ≤ c) (h2 : c ≤ 57) : (IntKind.i64.wrap (10 * (v : Int)) = 10 * (v : Int) ∧ wrap64 (10 * (v : Int)) = 10 * (v : Int)) ∧ IntKind.u8.wrap ((c : Int) - 48) = (c : Int) - 48 ∧ (IntKind.i64.wrap ((c : Int) - 48) = (c : Int) - 48 ∧ wrap64 ((c : Int) - 48) = (c : Int) - 48) ∧
    IntKind.i64.wrap (10 * (v : Int) + ((c : Int) - 48)) = 10 * (v : Int) + ((c : Int) - 48) ∧ wrap64 (10 * (v : Int) + ((c : Int) - 48)) = 10 * (v : Int) + ((c : Int) - 48) := by
  refine ⟨⟨?_, ?_⟩, ?_, ⟨?_, ?_⟩, ?_, ?_⟩
  · rw [wrap_i64]; omega
  · unfold wrap64; omega
  · simp [IntKind.wrap, IntKind.bits, IntKind.signed]; omega
  · rw [wrap_i64]; omega
  · unfold wrap64; omega
  · rw [wrap_i64]; omega
  · unfold wrap64; omega

def Two (W : World) (B : Nat) (t : TypeId) (a b : Value) : Prop := W.heap[B]? = some (.cells #[a, b] t (0, 0))
theorem Two.new (W : World) (t : TypeId) (a b : Value) : Two (W.alloc (.cells #[a, b] t)) W.heap.size t a b := World.alloc_heap_new W _
theorem Two.lt {W : World} {B : Nat} {t : TypeId} {a b : Value} (h : Two W B t a b) : B < W.heap.size := (Array.getElem?_eq_some_iff.1 h).1
theorem Two.c0 {W : World} {B : Nat} {t : TypeId} {a b : Value} (h : Two W B t a b) : W.cell? ⟨B, 0, none⟩ = some a := by simp [World.cell?, show W.heap[B]? = _ from h]
theorem Two.c1 {W : World} {B : Nat} {t : TypeId} {a b : Value} (h : Two W B t a b) : W.cell? ⟨B, 1, none⟩ = some b := by simp [World.cell?, show W.heap[B]? = _ from h]
theorem Two.f {W : World} {B : Nat} {t : TypeId} {a b : Value} (h : Two W B t a b) (o : Nat) : W.frozen? ⟨B, o, none⟩ = false := by simp [World.frozen?, show W.heap[B]? = _ from h]
theorem Two.below {W V : World} {B n : Nat} {t : TypeId} {a b : Value} (h : Two W B t a b) (hb : Below n W V) (hn : B < n) : Two V B t a b := (hb.block B hn).trans h
theorem below_put2 {W w : World} {B : Nat} (h : Below w.heap.size w W) (hB : w.heap.size ≤ B) (a b : Value) : Below w.heap.size w ((W.setCell ⟨B, 0, none⟩ a).setCell ⟨B, 1, none⟩ b) := (h.setCell hB a).setCell hB b

set_option maxRecDepth 100000 in
set_option maxHeartbeats 4000000 in
theorem rparse_any (s : List UInt8) (k : Int) (hs : s.length ≤ 1048576) (w : World) : Calls Tryz.prog 21 #[.string (bsOf s), .int .i64 k] w fun e w' => e = .returned (.agg #[.int .i64 (parseS s k).1, .int .i64 (parseS s k).2]) ∧ Below w.heap.size w w' := by
  have hres : ∃ r, parseS s k = r := ⟨_, rfl⟩
  obtain ⟨⟨r1, r2⟩, hres⟩ := hres
  have HRES : Hid (∀ n x, parseS s k = (n, x) → Ending.returned (.agg #[.int .i64 n, .int .i64 x]) = .returned (.agg #[.int .i64 r1, .int .i64 r2])) := fun n x h => by rw [hres] at h; injection h with h1 h2; rw [h1, h2]
  rw [hres]
  clear hres
  have hb0 : Below w.heap.size w (w.alloc (.cells #[.int .i64 0, .int .i64 0] 30)) := (Below.self w).alloc (Nat.le_refl _) _
  have HB0 := Lib.hid hb0
  have HK0 := Lib.hid (Two.new w 30 (.int .i64 0) (.int .i64 0))
  clear hb0
  cases hsc : scaleB k with
  | false =>
    have HSC := Lib.hid (rscaled_any k)
    rw [hsc] at HSC
    have HR := Lib.hid (HRES.out 0 1 (parse_scale hsc))
    have HB1 : Hid (Below w.heap.size w (w.alloc (.cells #[.int .i64 0, .int .i64 1] 30))) := (Below.self w).alloc (Nat.le_refl _) _
    clear hsc
    go_enter Tryz.func21, Tryz.ntmps21
    go_wp2_with (go_at_call 72; (with_reducible refine (HSC.out _).mono ?_); rintro e w' ⟨rfl, rfl⟩)
    exact bodyPost_ret (v := .agg #[.int .i64 0, .int .i64 1]) (by simp [results, Tryz.results21, go_sem]) rfl ⟨HR.out, HB1.out⟩
  | true =>
    have HSC := Lib.hid (rscaled_any k)
    rw [hsc] at HSC
    have hk6 := scaleB_true hsc
    have HT1 := Lib.hid (@parse_t1 s k hsc)
    have HT2 := Lib.hid (@parse_t2 s k hsc)
    have HTF := Lib.hid (@parse_form s k)
    have HTL := Lib.hid (@parse_long s k hsc)
    have HTR := Lib.hid (@parse_rest s k hsc)
    have HTN := Lib.hid (fun hf => @num_parts s k hf hk6.2)
    have hWl : (cutW s).length ≤ 1048576 := by
      unfold cutW Lib.cut
      have := Lib.trimPrefix_le s [45]
      split
      · exact Nat.le_trans (by rw [List.length_take]; exact Nat.min_le_right _ _) (by omega)
      · show (Lib.trimPrefix s [45]).length ≤ _; omega
    have hPl : (cutP s).length ≤ 1048576 := by
      unfold cutP Lib.cut
      have := Lib.trimPrefix_le s [45]
      split
      · show (List.drop _ _).length ≤ _; rw [List.length_drop]; omega
      · exact Nat.zero_le _
    have HNW := Lib.hid (numeral_any (cutW s) hWl)
    have HNP := Lib.hid (numeral_any (cutP s) hPl)
    have hWs := bs_size (cutW s)
    have hPs := bs_size (cutP s)
    have HAW := Lib.hid (bs_get2 (cutW s))
    have HAP := Lib.hid (bs_get2 (cutP s))
    clear hsc
    go_enter Tryz.func21, Tryz.ntmps21
    go_wp2_with (go_at_call 72; (with_reducible refine (HSC.out _).mono ?_); rintro e w' ⟨rfl, rfl⟩)
    refine (split_any s hs _).mono ?_
    rintro e w1 ⟨rfl, hb1⟩
    have hB1 := HB0.out.trans (hb1.mono HB0.out.size)
    have hK1 := HK0.out.below hb1 HK0.out.lt
    unfold encSplit
    generalize cutW s = W at *
    generalize cutP s = P at *
    generalize cutD s = D at *
    generalize negL s = N at *
    have hbA : Below w1.heap.size w1 (w1.alloc (.cells #[.bool N, .bool D, .string (bsOf W), .string (bsOf P)] 72)) := (Below.self w1).alloc (Nat.le_refl _) _
    have HBV : Hid (Below w.heap.size w _) := hB1.trans (hbA.mono hB1.size)
    have HKV := Lib.hid (hK1.below hbA hK1.lt)
    have HF := Lib.hid (Four.new w1 72 (.bool N) (.bool D) (.string (bsOf W)) (.string (bsOf P)))
    clear hB1 hK1 hbA hb1 HB0 HK0 HSC
    go_upto_region 4 with fail
    obtain ⟨B, hB⟩ : ∃ B, w1.heap.size = B := ⟨_, rfl⟩
    rw [hB] at HF ⊢
    clear hB
    generalize w1.alloc (.cells #[.bool N, .bool D, .string (bsOf W), .string (bsOf P)] 72) = V at *
    have x0 := HF.out.c0
    have x1 := HF.out.c1
    have x2 := HF.out.c2
    have x3 := HF.out.c3
    have z0 := HKV.out.c0
    have z1 := HKV.out.c1
    have zf0 := HKV.out.f 0
    have zf1 := HKV.out.f 1
    have zlt := HKV.out.lt
    have hbl := bs_list s
    have hb45 : (⟨#[45, 48]⟩ : ByteArray).toList = [45, 48] := bs_list [45, 48]
    clear HF HKV
    go_cut [34] (fun t wx => t = .bool (t1B s W) ∧ wx = V)
    case first =>
      cases hn : numrB W with
      | false =>
        rw [hn] at HNW
        have HE := Lib.hid (@t1_num s W hn)
        go_wp2_with (go_at_call 74; (with_reducible refine (HNW.out _).mono ?_); rintro e w' ⟨rfl, rfl⟩)
        go_meet
        exact ⟨by rw [HE.out], rfl⟩
      | true =>
        rw [hn] at HNW
        have hW0 : 0 < W.length := by
          cases W with
          | nil => exact absurd (show false = true from hn) (by decide)
          | cons a r => exact Nat.succ_pos _
        have hx := HAW.out 0 (by omega)
        have HR0 := Lib.hid (@t1_rest s W hn)
        have HLD := Lib.hid (@t1_lead s W)
        have hw0 : 0 < (bsOf W).size := by omega
        by_cases h1 : 1 < W.length
        · have h1I : (1 : Int) < (W.length : Int) := by omega
          by_cases h48 : W[0]?.getD 0 = 48
          · have HE := Lib.hid (HLD.out h1 h48)
            rw [h48] at hx
            clear HR0 HLD h48
            go_wp2_with (go_at_call 74; (with_reducible refine (HNW.out _).mono ?_); rintro e w' ⟨rfl, rfl⟩)
            go_meet
            exact ⟨by rw [HE.out], rfl⟩
          · have HE := Lib.hid (HR0.out (fun h => h48 h.2))
            generalize W[0]?.getD 0 = c at *
            have hcT : ((c.toNat : Int) == 48) = false := by
              rw [beq_eq_false_iff_ne]
              exact fun h => h48 (UInt8.toNat_inj.1 (by show c.toNat = 48; omega))
            clear HR0 HLD h48
            by_cases hse : s = [45, 48]
            · have hsb : (s == [45, 48]) = true := by simpa using hse
              rw [hsb] at HE
              clear hse
              go_wp2_with (go_at_call 74; (with_reducible refine (HNW.out _).mono ?_); rintro e w' ⟨rfl, rfl⟩)
              go_meet
              exact ⟨by rw [HE.out], rfl⟩
            · have hsb : (s == [45, 48]) = false := by simpa using hse
              rw [hsb] at HE
              clear hse
              go_wp2_with (go_at_call 74; (with_reducible refine (HNW.out _).mono ?_); rintro e w' ⟨rfl, rfl⟩)
              go_meet
              exact ⟨by rw [HE.out], rfl⟩
        · have h1I : ¬ ((1 : Int) < (W.length : Int)) := by omega
          have HE := Lib.hid (HR0.out (fun h => h1 h.1))
          clear HR0 HLD
          by_cases hse : s = [45, 48]
          · have hsb : (s == [45, 48]) = true := by simpa using hse
            rw [hsb] at HE
            clear hse
            go_wp2_with (go_at_call 74; (with_reducible refine (HNW.out _).mono ?_); rintro e w' ⟨rfl, rfl⟩)
            go_meet
            exact ⟨by rw [HE.out], rfl⟩
          · have hsb : (s == [45, 48]) = false := by simpa using hse
            rw [hsb] at HE
            clear hse
            go_wp2_with (go_at_call 74; (with_reducible refine (HNW.out _).mono ?_); rintro e w' ⟨rfl, rfl⟩)
            go_meet
            exact ⟨by rw [HE.out], rfl⟩
    case rest =>
      obtain ⟨rfl, rfl⟩ := hcut
      cases h1 : t1B s W with
      | true =>
        have HR := Lib.hid (HRES.out 0 5 (HT1.out h1))
        clear h1
        go_wp2
        exact bodyPost_ret (v := .agg #[.int .i64 0, .int .i64 5]) (by simp [results, Tryz.results21, go_sem, z0, z1]) rfl ⟨HR.out, below_put2 HBV.out (Nat.le_refl _) _ _⟩
      | false =>
        clear hbl hb45 HT1
        go_upto_region 6 with fail
        go_cut [60] (fun t wx => t = .bool (t2B D P k) ∧ wx = wc)
        case first =>
          cases D with
          | false =>
            go_wp2_with fail
            go_meet
            exact ⟨rfl, rfl⟩
          | true =>
            cases hn : numrB P with
            | false =>
              rw [hn] at HNP
              have HE := Lib.hid (@t2_num P k hn)
              go_wp2_with (go_at_call 74; (with_reducible refine (HNP.out _).mono ?_); rintro e w' ⟨rfl, rfl⟩)
              go_meet
              exact ⟨by rw [HE.out], rfl⟩
            | true =>
              rw [hn] at HNP
              have hP0 : 0 < P.length := by
                cases P with
                | nil => exact absurd (show false = true from hn) (by decide)
                | cons a r => exact Nat.succ_pos _
              have HLG := Lib.hid (@t2_long P k)
              have HLS := Lib.hid (@t2_last P k)
              have HRS := Lib.hid (@t2_rest P k hn)
              by_cases hkl : k < (P.length : Int)
              · have HE := Lib.hid (HLG.out hkl)
                clear HLG HLS HRS
                go_wp2_with (go_at_call 74; (with_reducible refine (HNP.out _).mono ?_); rintro e w' ⟨rfl, rfl⟩)
                go_meet
                exact ⟨by rw [HE.out], rfl⟩
              · obtain ⟨m, hm⟩ : ∃ m, m + 1 = P.length := ⟨P.length - 1, by omega⟩
                have HLT := Lib.hid (last_get hm)
                have hPm : m < (bsOf P).size := by omega
                have hx := HAP.out m hPm
                rw [← hm] at hPs hkl
                by_cases h48 : P[m]?.getD 0 = 48
                · have HE := Lib.hid (HLS.out (by rw [HLT.out, h48]))
                  rw [h48] at hx
                  clear HLG HLS HRS HLT h48 hm hn hP0
                  go_wp2_with (go_at_call 74; (with_reducible refine (HNP.out _).mono ?_); rintro e w' ⟨rfl, rfl⟩)
                  go_meet
                  exact ⟨by rw [HE.out], rfl⟩
                · have HE := Lib.hid (HRS.out (by rw [← hm]; exact hkl) (by rw [HLT.out]; exact fun e => h48 (Option.some.inj e)))
                  generalize P[m]?.getD 0 = c at *
                  have hcT : ((c.toNat : Int) == 48) = false := by
                    rw [beq_eq_false_iff_ne]
                    exact fun h => h48 (UInt8.toNat_inj.1 (by show c.toNat = 48; omega))
                  have HKN : Hid (¬ (k < (m : Int) + 1)) := by show ¬ _; omega
                  clear HLG HLS HRS HLT h48 hm hn hP0
                  go_wp2_with (go_at_call 74; (with_reducible refine (HNP.out _).mono ?_); rintro e w' ⟨rfl, rfl⟩)
                  go_meet
                  exact ⟨by rw [HE.out]; exact congrArg Value.bool (decide_eq_false (Int.not_lt.2 HKN.out)), rfl⟩
        case rest =>
          obtain ⟨rfl, rfl⟩ := hcut
          cases h2 : t2B D P k with
          | true =>
            have HR := Lib.hid (HRES.out 0 5 (HT2.out h2))
            clear h2
            go_wp2
            exact bodyPost_ret (v := .agg #[.int .i64 0, .int .i64 5]) (by simp [results, Tryz.results21, go_sem, z0, z1]) rfl ⟨HR.out, below_put2 HBV.out (Nat.le_refl _) _ _⟩
          | false =>
            have hf := HTF.out h1 h2
            by_cases hl : 10 < W.length
            · have HR := Lib.hid (HRES.out 0 2 (HTL.out hf hl))
              have hlI : (10 : Int) < (W.length : Int) := by omega
              clear hf h1 h2
              go_wp2
              exact bodyPost_ret (v := .agg #[.int .i64 0, .int .i64 2]) (by simp [results, Tryz.results21, go_sem, z0, z1]) rfl ⟨HR.out, below_put2 HBV.out (Nat.le_refl _) _ _⟩
            · have hlI : ¬ ((10 : Int) < (W.length : Int)) := by omega
              obtain ⟨n1, n2, n3, n4, n5⟩ := HTN.out hf hl
              have HPR := Lib.hid (HTR.out hf hl)
              have hcat := bs_cat W P
              have hcs := bs_size (W ++ P)
              have HND := Lib.hid n1
              have HNV := Lib.hid n4
              have HN5 := Lib.hid n5
              have HN3 := Lib.hid n3
              clear hf h1 h2 n1 n4 n5 HAW HAP HTF HTL HTR HTN HT2 hl
              have HAA := Lib.hid (bs_get2 (W ++ P))
              have HAT : Hid (∀ j, j < (W ++ P).length → (W ++ P)[j]? = some ((W ++ P)[j]?.getD 0)) := fun j hj => by rw [List.getElem?_eq_getElem hj]; rfl
              have HST := Lib.hid (rstep2_any P.length HN3.out)
              have hUb := unitN_le P.length
              generalize W ++ P = A at *
              generalize numL s = M at *
              generalize unitN P.length = U at *
              go_wp2_with fail
              go_loop [6, 8] (fun n i => ∃ j : Nat, j ≤ A.length ∧ i = .int .i64 j ∧ n = .int .i64 (readN (A.take j) : Int)) (fun _ i => A.length - (intOf i).toNat)
              case atStart => exact ⟨0, Nat.zero_le _, rfl, rfl⟩
              case round =>
                obtain ⟨j, hj, rfl, rfl⟩ := hrel
                by_cases hjl : j < A.length
                · have hjS : j < (bsOf A).size := by omega
                  have hx := HAA.out j hjS
                  have HX := Lib.hid (HAT.out j hjl)
                  have hjI : (j : Int) < (A.length : Int) := by omega
                  have HRN := Lib.hid (readN_step HX.out)
                  have hxd := List.all_eq_true.1 HND.out _ (List.mem_of_getElem? HX.out)
                  have hx3 := of_decide_eq_true hxd
                  generalize A[j]?.getD 0 = c at *
                  have hx4 : (48 : Int) ≤ (c.toNat : Int) := by omega
                  have hx5 : (c.toNat : Int) ≤ 57 := by omega
                  have hb := readN_lt _ (digitsB_take HND.out j)
                  have hl15 : (A.take j).length ≤ 15 := by rw [List.length_take]; omega
                  have hb2 : readN (A.take j) < 1000000000000000 := Nat.lt_of_lt_of_le hb (Nat.le_trans (Nat.pow_le_pow_right (by decide) hl15) (by decide))
                  obtain ⟨v, hv⟩ : ∃ v, v = readN (A.take j) := ⟨_, rfl⟩
                  rw [← hv] at hb2 HRN ⊢
                  have HC := Lib.hid (show ((v * 10 + (c.toNat - 48) : Nat) : Int) = 10 * (v : Int) + ((c.toNat : Int) - 48) by omega)
                  obtain ⟨⟨e1, e1b⟩, e2, ⟨e3, e3b⟩, e4, e4b⟩ := dig_wraps v c.toNat hb2 hx3.1 hx3.2
                  clear hxd hx3 hb hl15 hv hb2 hUb
                  go_wp2
                  go_round
                  case rel => exact ⟨j + 1, by omega, by go_num, by rw [HRN.out, HC.out]⟩
                  case measure => simp [intOf]; omega
                · obtain rfl : j = A.length := by omega
                  have hjj : ¬ ((A.length : Int) < (A.length : Int)) := Int.lt_irrefl _
                  rw [List.take_of_length_le (Nat.le_refl _)]
                  have hM := HN5.out
                  have hMI : ((readN A : Nat) : Int) * (U : Int) = (M : Int) := by rw [← HNV.out]; exact (Int.natCast_mul _ _).symm
                  obtain ⟨e1, e1b, e2, e2b⟩ := big_wraps M hM
                  clear hM hUb hjl
                  generalize ((readN A : Nat) : Int) = RA at *
                  cases N with
                  | true =>
                    have HPR : Hid (parseS s k = chk (-(M : Int))) := HPR.out
                    have HVD := Lib.hid (rvalid2_any (-(M : Int)))
                    cases hv : validB (-(M : Int)) with
                    | true =>
                      rw [hv] at HVD
                      have HR := Lib.hid (HRES.out (-(M : Int)) 0 (by rw [HPR.out]; unfold chk; rw [hv]; rfl))
                      clear hv
                      go_wp2_with (first | (go_at_call 75; (with_reducible refine (HST.out _).mono ?_); rintro e w' ⟨rfl, rfl⟩) | (go_at_call 17; (with_reducible refine (HVD.out _).mono ?_); rintro e w' ⟨rfl, rfl⟩))
                      exact bodyPost_ret (v := .agg #[.int .i64 (-(M : Int)), .int .i64 0]) (by simp [results, Tryz.results21, go_sem, z0, z1]) rfl ⟨HR.out, below_put2 HBV.out (Nat.le_refl _) _ _⟩
                    | false =>
                      rw [hv] at HVD
                      have HR := Lib.hid (HRES.out 0 2 (by rw [HPR.out]; unfold chk; rw [hv]; rfl))
                      clear hv
                      go_wp2_with (first | (go_at_call 75; (with_reducible refine (HST.out _).mono ?_); rintro e w' ⟨rfl, rfl⟩) | (go_at_call 17; (with_reducible refine (HVD.out _).mono ?_); rintro e w' ⟨rfl, rfl⟩))
                      exact bodyPost_ret (v := .agg #[.int .i64 0, .int .i64 2]) (by simp [results, Tryz.results21, go_sem, z0, z1]) rfl ⟨HR.out, below_put2 HBV.out (Nat.le_refl _) _ _⟩
                  | false =>
                    have HPR : Hid (parseS s k = chk (M : Int)) := HPR.out
                    have HVD := Lib.hid (rvalid2_any (M : Int))
                    cases hv : validB (M : Int) with
                    | true =>
                      rw [hv] at HVD
                      have HR := Lib.hid (HRES.out (M : Int) 0 (by rw [HPR.out]; unfold chk; rw [hv]; rfl))
                      clear hv
                      go_wp2_with (first | (go_at_call 75; (with_reducible refine (HST.out _).mono ?_); rintro e w' ⟨rfl, rfl⟩) | (go_at_call 17; (with_reducible refine (HVD.out _).mono ?_); rintro e w' ⟨rfl, rfl⟩))
                      exact bodyPost_ret (v := .agg #[.int .i64 (M : Int), .int .i64 0]) (by simp [results, Tryz.results21, go_sem, z0, z1]) rfl ⟨HR.out, below_put2 HBV.out (Nat.le_refl _) _ _⟩
                    | false =>
                      rw [hv] at HVD
                      have HR := Lib.hid (HRES.out 0 2 (by rw [HPR.out]; unfold chk; rw [hv]; rfl))
                      clear hv
                      go_wp2_with (first | (go_at_call 75; (with_reducible refine (HST.out _).mono ?_); rintro e w' ⟨rfl, rfl⟩) | (go_at_call 17; (with_reducible refine (HVD.out _).mono ?_); rintro e w' ⟨rfl, rfl⟩))
                      exact bodyPost_ret (v := .agg #[.int .i64 0, .int .i64 2]) (by simp [results, Tryz.results21, go_sem, z0, z1]) rfl ⟨HR.out, below_put2 HBV.out (Nat.le_refl _) _ _⟩

end Go.Proofs.YtocnkjnlmciojaaGreatDoor.De
