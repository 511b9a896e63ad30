/-
  The reference's ParseIn of values.
-/
import Derived.Test.YtocnkjnlmciojaaGreatDoorVlRWide
import Derived.Test.YtocnkjnlmciojaaGreatDoorVlTextf
import Derived.Test.YtocnkjnlmciojaaGreatDoorR2Text
import Derived.Test.YtocnkjnlmciojaaGreatDoorVlTxMath
import Derived.Test.YtocnkjnlmciojaaGreatDoorR2Parse
import Derived.Test.YtocnkjnlmciojaaGreatDoorVlWrap
namespace Go.Proofs.YtocnkjnlmciojaaGreatDoor
open Go Go.RowKit Go.Shelf Go.ChangeShapes Go.WideShapes Go.ChangeAt

theorem bs_one (s : List UInt8) (k : Nat) (hk : k < s.length) : (bsOf s).extract k (k + 1) = bsOf [s[k]?.getD 0] := by
  apply ByteArray.ext
  simp only [bsOf, ByteArray.extract_mk]
  apply Array.ext'
  rw [List.getElem?_eq_getElem hk]
  simp
  rw [List.drop_eq_getElem_cons hk]; rfl
theorem quL_snoc (s : List UInt8) (k : Nat) (hk : k < s.length) (c : UInt8) (hc : s[k]?.getD 0 = c) : (34 : UInt8) :: quB (s.take (k + 1)) = (34 :: quB (s.take k)) ++ quC c := by
  rw [take_snoc8 s k hk, quB_snoc, hc]; rfl

set_option maxRecDepth 100000 in
set_option maxHeartbeats 1000000 in
theorem rtextv_any (v : Vl) (hv : v.Ok) (hl : v.s.length ≤ 1000000) (w : World) : Calls Tryz.prog 39 #[encV v] w fun e w' => e = .returned (.string (bsOf (textV v))) ∧ Below w.heap.size w w' := by
  have HA : Hid (∀ W : World, Calls Tryz.prog 33 #[encV v] W fun e w' => e = .returned (.bool (widV v)) ∧ Below W.heap.size W w') := fun W => rwide_any v hv W
  have HP := Lib.hid (@wid_parts v)
  have HTX : Hid (∀ z, z = textV v → Ending.returned (.string (bsOf z)) = .returned (.string (bsOf (textV v)))) := fun z h => by rw [h]
  have HTV : Hid (textV v = if widV v = false then [] else if v.k = 1 then boolL (decide (v.i = 1)) else if v.k = 2 then De.textL v.i else if v.k = 3 then quoteL v.s else nullL) := rfl
  generalize textV v = tv at *
  generalize widV v = bv at *
  obtain ⟨k, i, s⟩ := v
  have hi : I64 i := hv.i
  clear hv
  unfold encV at HA ⊢
  dsimp only at HA HP HTV hl ⊢
  have HT := Lib.hid (Trio.new w 45 (.int .i64 k) (.int .i64 i) (.string (bsOf s)))
  have HB0 := Lib.hid ((Below.refl w.heap.size w).alloc (Nat.le_refl _) (.cells #[.int .i64 k, .int .i64 i, .string (bsOf s)] 45))
  go_enter Tryz.func39, Tryz.ntmps39
  go_wp2_with fail
  obtain ⟨B, hB⟩ : ∃ B, w.heap.size = B := ⟨_, rfl⟩
  rw [hB] at HT ⊢
  have HZ := Lib.hid hB
  clear hB
  generalize w.alloc (.cells #[.int .i64 k, .int .i64 i, .string (bsOf s)] 45) = V at *
  rw [← HZ.out]
  refine (HA.out _).mono ?_
  rintro e w1 ⟨rfl, hb⟩
  have HB1 : Hid (Below w.heap.size w w1) := HB0.out.trans (hb.mono HB0.out.size)
  have ht1 := HT.out.below hb HT.out.lt
  clear hb HB0 HT
  have HT := Lib.hid ht1
  rw [HZ.out]
  have c0 := ht1.c0
  have c1 := ht1.c1
  have c2 := ht1.c2
  clear ht1
  cases bv with
  | false =>
    have HR := HTX.out [] (by rw [HTV.out]; rfl)
    go_wp2
    go_ret
    exact ⟨HR, HB1.out⟩
  | true =>
    rcases HP.out rfl with ⟨rfl, rfl, rfl⟩ | ⟨rfl, h1, rfl⟩ | ⟨rfl, rfl⟩ | ⟨rfl, rfl, _⟩
    · have HR := HTX.out nullL (by rw [HTV.out]; rfl)
      go_wp2
      go_ret
      exact ⟨HR, HB1.out⟩
    · rcases h1 with rfl | rfl
      · have HR := HTX.out falseL (by rw [HTV.out]; rfl)
        go_wp2
        go_ret
        exact ⟨HR, HB1.out⟩
      · have HR := HTX.out trueL (by rw [HTV.out]; rfl)
        go_wp2
        go_ret
        exact ⟨HR, HB1.out⟩
    · have HR := Lib.hid (HTX.out (De.textL i) (by rw [HTV.out]; rfl))
      have HCT := Lib.hid (De.rtext_any i hi w1)
      clear HA HP HTX HTV
      go_wp2_with fail
      refine HCT.out.mono ?_
      rintro e w2 ⟨rfl, hb⟩
      have HB2 : Hid (Below w.heap.size w w2) := HB1.out.trans (hb.mono HB1.out.size)
      clear hb
      go_wp2
      go_ret
      exact ⟨HR.out, HB2.out⟩
    · have HR := Lib.hid (HTX.out (quoteL s) (by rw [HTV.out]; rfl))
      have HS := Lib.hid (bs_size s)
      have HAS := Lib.hid (bs_get s)
      have HON := Lib.hid (bs_one s)
      obtain ⟨S, hS⟩ : ∃ S, bsOf s = S := ⟨_, rfl⟩
      rw [hS] at HS HAS HON c2
      have hs1 : S.size ≤ 1000000 := by rw [HS.out]; exact hl
      clear HA HP HTX HTV hS HT
      go_wp2_with fail
      clear c0 c1
      go_loop [3, 4] (fun o i => ∃ k : Nat, k ≤ S.size ∧ i = .int .i64 k ∧ o = .string (bsOf (34 :: quB (s.take k)))) (fun _ i => S.size - (intOf i).toNat)
      case atStart => exact ⟨0, Nat.zero_le _, rfl, by simp [quB]; rfl⟩
      case round =>
        obtain ⟨k, hk, rfl, rfl⟩ := hrel
        have hql : (34 :: quB (s.take k)).length ≤ 2 * S.size + 1 := by
          have h1 := quB_len (s.take k)
          rw [List.length_cons]
          have h2 : (s.take k).length ≤ k := List.length_take_le ..
          omega
        by_cases hlt : k < S.size
        · have hx := HAS.out k hlt
          have hx2 := HON.out k (by rw [← HS.out]; exact hlt)
          have hkI : (k : Int) < (S.size : Int) := by omega
          have HQ := Lib.hid (quL_snoc s k (by rw [← HS.out]; exact hlt) _ rfl)
          generalize (34 : UInt8) :: quB (s.take k) = acc at *
          generalize s[k]?.getD 0 = c at *
          have hac := bs_size acc
          have ho : (bsOf [c]).size = 1 := bs_size [c]
          by_cases hq : c = 34 ∨ c = 92
          · have HE : Hid ((34 : UInt8) :: quB (s.take (k + 1)) = acc ++ [92] ++ [c]) := by show _ = _; rw [HQ.out, quC, if_pos hq]; simp
            have k1 : bsOf acc ++ (⟨#[92]⟩ : ByteArray) = bsOf (acc ++ [92]) := De.bs_cat acc [92]
            have k2 : bsOf (acc ++ [92]) ++ bsOf [c] = bsOf (acc ++ [92] ++ [c]) := De.bs_cat (acc ++ [92]) [c]
            have k3 : (bsOf (acc ++ [92])).size = acc.length + 1 := by rw [bs_size, List.length_append]; rfl
            have k4 : (⟨#[92]⟩ : ByteArray).size = 1 := rfl
            clear HQ
            generalize bsOf [c] = C1 at *
            rcases hq with rfl | rfl
            all_goals
              have e1 : ((34 : UInt8).toNat : Int) = 34 := rfl
              have e2 : ((92 : UInt8).toNat : Int) = 92 := rfl
              go_wp2
              go_round
              case rel => exact ⟨k + 1, by omega, by go_num, by rw [HE.out]; try simp⟩
              case measure => simp [intOf]; omega
          · have HE : Hid ((34 : UInt8) :: quB (s.take (k + 1)) = acc ++ [c]) := by show _ = _; rw [HQ.out, quC, if_neg hq]
            have k2 : bsOf acc ++ bsOf [c] = bsOf (acc ++ [c]) := De.bs_cat acc [c]
            have e1 : ((c.toNat : Int) == 34) = false := by
              rw [beq_eq_false_iff_ne]; intro h
              exact hq (.inl ((byte_nat c 34 (by decide)).2 (by omega)))
            have e2 : ((c.toNat : Int) == 92) = false := by
              rw [beq_eq_false_iff_ne]; intro h
              exact hq (.inr ((byte_nat c 92 (by decide)).2 (by omega)))
            clear HQ hq
            generalize bsOf [c] = C1 at *
            go_wp2
            go_round
            case rel => exact ⟨k + 1, by omega, by go_num, by rw [HE.out]; try simp⟩
            case measure => simp [intOf]; omega
        · obtain rfl : k = S.size := by omega
          have HE : Hid (34 :: quB (s.take S.size) ++ [34] = quoteL s) := by
            show _ = _
            rw [HS.out, List.take_length]; rfl
          have hm : ¬ ((S.size : Int) < (S.size : Int)) := Int.lt_irrefl _
          generalize (34 : UInt8) :: quB (s.take S.size) = acc at *
          have hac := bs_size acc
          have k1 : bsOf acc ++ (⟨#[34]⟩ : ByteArray) = bsOf (acc ++ [34]) := De.bs_cat acc [34]
          have k4 : (⟨#[34]⟩ : ByteArray).size = 1 := rfl
          rw [HE.out] at k1
          go_wp2
          go_ret
          exact ⟨HR.out, HB1.out⟩

end Go.Proofs.YtocnkjnlmciojaaGreatDoor

namespace Go.Proofs.YtocnkjnlmciojaaGreatDoor
open Go Go.RowKit Go.Shelf Go.ChangeShapes Go.WideShapes Go.ChangeAt

/-- What is quoted, whatever stands behind backslashes: all but the last byte. -/
def ruq : List UInt8 → List UInt8
  | c :: d :: r => if c = 92 then d :: ruq r else c :: ruq (d :: r)
  | _ => []
theorem ruq_short {l : List UInt8} (h : l.length ≤ 1) : ruq l = [] := by
  match l, h with
  | [], _ => simp [ruq]
  | [c], _ => simp [ruq]
theorem ruq_at {s : List UInt8} {k : Nat} (h : k + 1 < s.length) : ruq (s.drop k) = if s[k]?.getD 0 = 92 then s[k + 1]?.getD 0 :: ruq (s.drop (k + 2)) else s[k]?.getD 0 :: ruq (s.drop (k + 1)) := by
  have h1 := drop8 (s := s) (k := k) (by omega)
  have h2 := drop8 (s := s) (k := k + 1) (by omega)
  rw [h1, h2, ruq]
theorem quB_ne (s : List UInt8) : ∃ c r, quB s ++ [34] = c :: r := by
  cases h : quB s ++ [34] with
  | nil => simp at h
  | cons c r => exact ⟨c, r, rfl⟩
theorem ruq_qu : ∀ s : List UInt8, ruq (quB s ++ [34]) = s
  | [] => by simp [quB, ruq]
  | c :: s => by
    have ih := ruq_qu s
    obtain ⟨x, r, hx⟩ := quB_ne s
    have e : quB (c :: s) ++ [34] = quC c ++ (quB s ++ [34]) := by unfold quB; rw [List.flatMap_cons, List.append_assoc]
    rw [e]
    by_cases h : c = 34 ∨ c = 92
    · rw [quC, if_pos h]
      show ruq (92 :: c :: (quB s ++ [34])) = _
      rw [ruq, if_pos rfl, ih]
    · rw [quC, if_neg h]
      show ruq (c :: (quB s ++ [34])) = _
      rw [hx] at ih ⊢
      rw [ruq, if_neg (fun e => h (.inr e)), ih]

set_option maxRecDepth 100000 in
set_option maxHeartbeats 1000000 in
theorem runquoted_any (s : List UInt8) (hl : s.length ≤ 1000000) (w : World) : Calls Tryz.prog 107 #[.string (bsOf s)] w fun e w' => e = .returned (.string (bsOf (ruq (s.drop 1)))) ∧ Below w.heap.size w w' := by
  have HS := Lib.hid (bs_size s)
  have HAS := Lib.hid (bs_get s)
  have HON := Lib.hid (bs_one s)
  have HR : Hid (∀ z, ruq (s.drop 1) = z → Ending.returned (.string (bsOf z)) = .returned (.string (bsOf (ruq (s.drop 1))))) := fun z h => by rw [h]
  obtain ⟨res, hres⟩ : ∃ z, ruq (s.drop 1) = z := ⟨_, rfl⟩
  have HRS := Lib.hid hres
  rw [hres] at HR ⊢
  obtain ⟨S, hS⟩ : ∃ S, bsOf s = S := ⟨_, rfl⟩
  rw [hS] at HS HAS HON ⊢
  have hs1 : S.size ≤ 1000000 := by rw [HS.out]; exact hl
  clear hS hl hres
  go_enter Tryz.func107, Tryz.ntmps107
  go_wp2
  go_loop [3, 4] (fun o i => ∃ (k : Nat) (acc : List UInt8), 1 ≤ k ∧ k ≤ S.size + 1 ∧ i = .int .i64 k ∧ o = .string (bsOf acc) ∧ acc.length ≤ k ∧ Hid (res = acc ++ ruq (s.drop k))) (fun _ i => S.size + 1 - (intOf i).toNat)
  case atStart => exact ⟨1, [], Nat.le_refl _, by omega, rfl, rfl, Nat.zero_le _, HRS.out.symm⟩
  case round =>
    obtain ⟨k, acc, hk1, hk, rfl, rfl, hal, HI⟩ := hrel
    by_cases hlt : k + 1 < S.size
    · have hx := HAS.out k (by omega)
      have hx2 := HON.out k (by rw [← HS.out]; omega)
      have hy2 := HON.out (k + 1) (by rw [← HS.out]; omega)
      have HQ := Lib.hid (ruq_at (s := s) (k := k) (by rw [← HS.out]; exact hlt))
      have hkI : (k : Int) + 1 < (S.size : Int) := by omega
      have hac := bs_size acc
      generalize s[k]?.getD 0 = c at *
      generalize s[k + 1]?.getD 0 = d at *
      by_cases hc : c = 92
      · subst hc
        have HE : Hid (res = (acc ++ [d]) ++ ruq (s.drop (k + 2))) := by show _ = _; rw [HI.out, HQ.out, if_pos rfl]; simp
        have k1 : bsOf acc ++ bsOf [d] = bsOf (acc ++ [d]) := De.bs_cat acc [d]
        have hdl : (bsOf [d]).size = 1 := bs_size [d]
        have e2 : ((92 : UInt8).toNat : Int) = 92 := rfl
        clear HQ HI hx2
        generalize bsOf [d] = D1 at *
        go_wp2
        go_round
        case rel => exact ⟨k + 2, acc ++ [d], by omega, by omega, by go_num, by rfl, by simp; omega, HE.out⟩
        case measure => simp [intOf]; omega
      · have HE : Hid (res = (acc ++ [c]) ++ ruq (s.drop (k + 1))) := by show _ = _; rw [HI.out, HQ.out, if_neg hc]; simp
        have k1 : bsOf acc ++ bsOf [c] = bsOf (acc ++ [c]) := De.bs_cat acc [c]
        have hdl : (bsOf [c]).size = 1 := bs_size [c]
        have e2 : ((c.toNat : Int) == 92) = false := by
          rw [beq_eq_false_iff_ne]; intro h
          exact hc ((byte_nat c 92 (by decide)).2 (by omega))
        clear HQ HI hy2 hc
        generalize bsOf [c] = D1 at *
        go_wp2
        go_round
        case rel => exact ⟨k + 1, acc ++ [c], by omega, by omega, by go_num, by rfl, by simp; omega, HE.out⟩
        case measure => simp [intOf]; omega
    · have HE := Lib.hid (HR.out acc (by rw [HI.out, ruq_short (by rw [List.length_drop, ← HS.out]; omega), List.append_nil]))
      have hkI : ¬ ((k : Int) + 1 < (S.size : Int)) := by omega
      go_wp2
      go_ret
      exact ⟨HE.out, Below.self _⟩

/-! ### The guess -/
def refG (s : List UInt8) : Option Vl :=
  if s = trueL ∨ s = falseL then some ⟨1, if s = trueL then 1 else 0, []⟩
  else if 1 < s.length ∧ s[0]?.getD 0 = 34 then some ⟨3, 0, ruq (s.drop 1)⟩
  else if s = nullL then some Vl.null
  else if (De.parseS s 6).2 = 0 then some ⟨2, (De.parseS s 6).1, []⟩ else none
theorem refG_text {v : Vl} (h : vldV v = true) : refG (textV v) = some v := by
  have hw : widV v = true := by unfold widV; rw [h]; rfl
  obtain ⟨k, i, s⟩ := v
  rcases wid_parts hw with ⟨h0, h1, h2⟩ | ⟨h0, h1, h2⟩ | ⟨h0, h2⟩ | ⟨h0, h1, h2⟩
  · dsimp only at h0 h1 h2; subst h0 h1 h2
    unfold textV; rw [hw]; rfl
  · dsimp only at h0 h1 h2; subst h0 h2
    rcases h1 with rfl | rfl
    · unfold textV; rw [hw]; rfl
    · unfold textV; rw [hw]; rfl
  · dsimp only at h0 h2; subst h0 h2
    rw [text_num_v hw rfl]
    obtain ⟨c, r, hc, _⟩ := text_head i
    obtain ⟨n1, n2, n3, n4⟩ := text_ne hc
    have hv : De.validB i = true := by
      have : vldV ⟨2, i, []⟩ = (decide (([] : List UInt8) = []) && numB 1000000000000000 i) := rfl
      rw [this] at h
      simpa [De.validB, numB] using h
    unfold refG
    rw [if_neg (by rw [hc]; unfold trueL falseL; rintro (e | e) <;> injection e with e _ <;> first | exact n4 e | exact n3 e), if_neg (by rw [hc]; rintro ⟨_, e⟩; exact n1 e), if_neg (by rw [hc]; unfold nullL; intro e; injection e with e _; exact n2 e), parse_six, hv]
    rfl
  · dsimp only at h0 h1 h2; subst h0 h1
    have e : textV ⟨3, 0, s⟩ = quoteL s := by unfold textV; rw [hw]; rfl
    rw [e]
    unfold refG quoteL
    rw [if_neg (by unfold trueL falseL; rintro (e | e) <;> injection e with e _ <;> exact absurd e (by decide)), if_pos (by simp)]
    rw [List.drop_one, List.tail_cons, ruq_qu]
/-- What it reads: the value that it guesses, if that is valid and has this text. -/
theorem parsed_ref (s : List UInt8) : parsedV s = match refG s with
    | some v => if vldV v = true ∧ textV v = s then (v, 0) else (Vl.null, 5)
    | none => (Vl.null, 5) := by
  rcases parsed_any s with h | ⟨v, h, h1, h2⟩
  · rw [h]
    cases refG s with
    | none => rfl
    | some v =>
      dsimp only
      by_cases hc : vldV v = true ∧ textV v = s
      · have := parse_valid hc.1
        rw [hc.2, h] at this
        cases this
      · rw [if_neg hc]
  · have := refG_text h1
    rw [h2] at this
    rw [this, h]
    dsimp only
    rw [if_pos ⟨h1, h2⟩]

end Go.Proofs.YtocnkjnlmciojaaGreatDoor

namespace Go.Proofs.YtocnkjnlmciojaaGreatDoor
open Go Go.RowKit Go.Shelf Go.ChangeShapes Go.WideShapes Go.ChangeAt

theorem rnull_any (w : World) : Calls Tryz.prog 82 #[] w fun e w' => e = .returned (.agg #[.int .i64 0, .int .i64 0, .string ⟨#[]⟩]) ∧ Below w.heap.size w w' := by
  go_enter Tryz.func82, Tryz.ntmps82
  go_wp2
  exact bodyPost_ret (v := .agg #[.int .i64 0, .int .i64 0, .string ⟨#[]⟩]) (by simp [results, Tryz.results82, go_sem]) rfl ⟨rfl, (Below.refl _ _).alloc (Nat.le_refl _) _⟩
theorem rbool_any (b : Bool) (w : World) : Calls Tryz.prog 83 #[.bool b] w fun e w' => e = .returned (.agg #[.int .i64 1, .int .i64 (if b = true then 1 else 0), .string ⟨#[]⟩]) ∧ Below w.heap.size w w' := by
  cases b with
  | false =>
    go_enter Tryz.func83, Tryz.ntmps83
    go_wp2
    exact bodyPost_ret (v := .agg #[.int .i64 1, .int .i64 0, .string ⟨#[]⟩]) (by simp [results, Tryz.results83, go_sem]) rfl ⟨rfl, (Below.refl _ _).alloc (Nat.le_refl _) _⟩
  | true =>
    go_enter Tryz.func83, Tryz.ntmps83
    go_wp2
    exact bodyPost_ret (v := .agg #[.int .i64 1, .int .i64 1, .string ⟨#[]⟩]) (by simp [results, Tryz.results83, go_sem]) rfl ⟨rfl, (Below.refl _ _).alloc (Nat.le_refl _) _⟩
theorem rstr_any (s : List UInt8) (w : World) : Calls Tryz.prog 81 #[.string (bsOf s)] w fun e w' => e = .returned (.agg #[.int .i64 3, .int .i64 0, .string (bsOf s)]) ∧ Below w.heap.size w w' := by
  go_enter Tryz.func81, Tryz.ntmps81
  go_wp2
  exact bodyPost_ret (v := .agg #[.int .i64 3, .int .i64 0, .string (bsOf s)]) (by simp [results, Tryz.results81, go_sem]) rfl ⟨rfl, (Below.refl _ _).alloc (Nat.le_refl _) _⟩
theorem rnum_any (n : Int) (w : World) : Calls Tryz.prog 80 #[.int .i64 n] w fun e w' => e = .returned (.agg #[.int .i64 2, .int .i64 n, .string ⟨#[]⟩]) ∧ Below w.heap.size w w' := by
  go_enter Tryz.func80, Tryz.ntmps80
  go_wp2
  exact bodyPost_ret (v := .agg #[.int .i64 2, .int .i64 n, .string ⟨#[]⟩]) (by simp [results, Tryz.results80, go_sem]) rfl ⟨rfl, (Below.refl _ _).alloc (Nat.le_refl _) _⟩
theorem six_put3 {W : World} {B C : Nat} {t : TypeId} {a b c d e f : Value} (h : Six W B t a b c d e f) (hn : C ≠ B) (x y z : Value) : Six (((W.setCell ⟨C, 0, none⟩ x).setCell ⟨C, 1, none⟩ y).setCell ⟨C, 2, none⟩ z) B t a b c d e f := by
  have hk : W.heap[B]? = some (.cells #[a, b, c, d, e, f] t (0, 0)) := h
  show (((W.setCell ⟨C, 0, none⟩ x).setCell ⟨C, 1, none⟩ y).setCell ⟨C, 2, none⟩ z).heap[B]? = _
  simp only [World.setCell, Array.getElem?_modify]
  simp [hn, hk]
theorem ruq_len : ∀ l : List UInt8, (ruq l).length ≤ l.length
  | [] => by simp [ruq]
  | [c] => by simp [ruq]
  | c :: d :: r => by
    rw [ruq]
    split
    · have := ruq_len r
      simp only [List.length_cons]; omega
    · have := ruq_len (d :: r)
      simp only [List.length_cons] at this ⊢; omega

set_option maxRecDepth 100000 in
set_option maxHeartbeats 4000000 in
theorem rparsev_any (s : List UInt8) (hs : s.length ≤ 1000000) (w : World) : Calls Tryz.prog 45 #[.string (bsOf s)] w fun e w' => e = .returned (encG (parsedV s).1 (.slice none 0 0) (.slice none 0 0) (parsedV s).2) ∧ Below w.heap.size w w' := by
  have hn : ((bsOf s).toList == [110, 117, 108, 108]) = decide (s = nullL) := str_in s nullL
  have hf : ((bsOf s).toList == [102, 97, 108, 115, 101]) = decide (s = falseL) := str_in s falseL
  have ht : ((bsOf s).toList == [116, 114, 117, 101]) = decide (s = trueL) := str_in s trueL
  have HR : Hid (∀ r, parsedV s = r → Ending.returned (.agg #[.int .i64 r.1.k, .int .i64 r.1.i, .string (bsOf r.1.s), .slice none 0 0, .slice none 0 0, .int .i64 r.2]) = .returned (encG (parsedV s).1 (.slice none 0 0) (.slice none 0 0) (parsedV s).2)) := fun r h => by rw [h]; rfl
  have HREF : Hid (refG s = if s = trueL ∨ s = falseL then some ⟨1, if s = trueL then 1 else 0, []⟩
    else if 1 < s.length ∧ s[0]?.getD 0 = 34 then some ⟨3, 0, ruq (s.drop 1)⟩
    else if s = nullL then some Vl.null
    else if (De.parseS s 6).2 = 0 then some ⟨2, (De.parseS s 6).1, []⟩ else none) := rfl
  have HUQ := Lib.hid (runquoted_any s hs)
  have HDP : Hid (∀ W : World, Calls Tryz.prog 21 #[.string (bsOf s), .int .i64 6] W fun e w' => e = .returned (.agg #[.int .i64 (De.parseS s 6).1, .int .i64 (De.parseS s 6).2]) ∧ Below W.heap.size W w') := fun W => De.rparse_any s 6 (by omega) W
  have HI := Lib.hid (parseS_i64 s)
  have hrl := ruq_len (s.drop 1)
  have hdl : (s.drop 1).length ≤ s.length := by rw [List.length_drop]; omega
  have HS := Lib.hid (bs_size s)
  have HAS := Lib.hid (bs_get s)
  have hb0 : Below w.heap.size w (w.alloc (.cells #[.int .i64 0, .int .i64 0, .string ⟨#[]⟩, .slice none 0 0, .slice none 0 0, .int .i64 0] 54)) := (Below.self w).alloc (Nat.le_refl _) _
  have HG0' := Lib.hid (Six.new w 54 (.int .i64 0) (.int .i64 0) (.string ⟨#[]⟩) (.slice none 0 0) (.slice none 0 0) (.int .i64 0))
  obtain ⟨S, hS⟩ : ∃ S, bsOf s = S := ⟨_, rfl⟩
  rw [hS] at hn hf ht HUQ HDP HS HAS ⊢
  have HNU := Lib.hid rnull_any
  have HBO := Lib.hid rbool_any
  have HST := Lib.hid (rstr_any (ruq (s.drop 1)))
  have HNM := Lib.hid rnum_any
  generalize De.parseS s 6 = pr at *
  obtain ⟨pn, pe⟩ := pr
  dsimp only at HREF HDP HI
  generalize ruq (s.drop 1) = us at *
  by_cases hA : s = trueL ∨ s = falseL
  · rcases hA with hs1 | hs1
    · have HG0 : Hid (refG s = some ⟨1, 1, []⟩) := by show _ = _; rw [HREF.out, if_pos (.inl hs1), if_pos hs1]
      have HOK : Hid ((⟨1, 1, []⟩ : Vl).Ok) := ⟨⟨by decide, by decide⟩, ⟨by decide, by decide⟩, by decide⟩
      have HOL : Hid ((⟨1, 1, []⟩ : Vl).s.length ≤ 1000000) := by show _ ≤ _; decide
      rw [decide_eq_true hs1] at ht
      clear hs1 HREF HUQ HDP HI hrl hdl HST HNM hn
      go_enter Tryz.func45, Tryz.ntmps45
      go_wp2_with fail
      refine (HNU.out _).mono ?_
      rintro e w1 ⟨rfl, hb⟩
      have HB1 : Hid (Below w.heap.size w w1) := hb0.trans (hb.mono hb0.size)
      have HG1 := Lib.hid (HG0'.out.below hb HG0'.out.lt)
      have hlt1 : w.heap.size < w1.heap.size := HG1.out.lt
      have hbA : Below w1.heap.size w1 (w1.alloc (.cells #[.int .i64 0, .int .i64 0, .string ⟨#[]⟩] 45)) := (Below.self w1).alloc (Nat.le_refl _) _
      have HTb := Lib.hid (Trio.new w1 45 (.int .i64 0) (.int .i64 0) (.string ⟨#[]⟩))
      have HBb : Hid (Below w.heap.size w (w1.alloc (.cells #[.int .i64 0, .int .i64 0, .string ⟨#[]⟩] 45))) := HB1.out.trans (hbA.mono HB1.out.size)
      have HGb := Lib.hid (HG1.out.below hbA HG1.out.lt)
      obtain ⟨B, hB⟩ : ∃ B, w1.heap.size = B := ⟨_, rfl⟩
      have HBB : Hid (w.heap.size ≤ B) := by show _ ≤ _; omega
      have HBN : Hid (B ≠ w.heap.size) := by show _ ≠ _; omega
      rw [hB] at HTb
      clear hb HB1 HG1 hbA hb0 HG0' hlt1
      go_upto_region 2 with fail
      try rw [hB]
      clear hB
      generalize w1.alloc (.cells #[.int .i64 0, .int .i64 0, .string ⟨#[]⟩] 45) = wb at *
      go_wp2_with fail
      refine (HBO.out true _).mono ?_
      rintro e wc ⟨rfl, hb⟩
      have HBc : Hid (Below w.heap.size w wc) := HBb.out.trans (hb.mono HBb.out.size)
      have HGc := Lib.hid (HGb.out.below hb HGb.out.lt)
      have HTc := Lib.hid (HTb.out.below hb HTb.out.lt)
      clear hb HBb HGb HTb
      simp only [if_true]
      have tlt := HTc.out.lt
      have d0 := HTc.out.c0
      have d1 := HTc.out.c1
      have d2 := HTc.out.c2
      have g0 := HTc.out.f 0
      have g1 := HTc.out.f 1
      have g2 := HTc.out.f 2
      go_upto_region 11 with fail
      clear d0 d1 d2 g0 g1 g2 tlt
      have HTd : Hid (Trio (((wc.setCell ⟨B, 0, none⟩ (.int .i64 1)).setCell ⟨B, 1, none⟩ (.int .i64 1)).setCell ⟨B, 2, none⟩ (.string ⟨#[]⟩)) B 45 (.int .i64 1) (.int .i64 1) (.string ⟨#[]⟩)) := put3 HTc.out _ _ _
      have HBd : Hid (Below w.heap.size w (((wc.setCell ⟨B, 0, none⟩ (.int .i64 1)).setCell ⟨B, 1, none⟩ (.int .i64 1)).setCell ⟨B, 2, none⟩ (.string ⟨#[]⟩))) := below_put3 HBc.out HBB.out _ _ _
      have HGd : Hid (Six (((wc.setCell ⟨B, 0, none⟩ (.int .i64 1)).setCell ⟨B, 1, none⟩ (.int .i64 1)).setCell ⟨B, 2, none⟩ (.string ⟨#[]⟩)) w.heap.size 54 (.int .i64 0) (.int .i64 0) (.string ⟨#[]⟩) (.slice none 0 0) (.slice none 0 0) (.int .i64 0)) := six_put3 HGc.out HBN.out _ _ _
      clear HTc HBc HGc
      generalize ((wc.setCell ⟨B, 0, none⟩ (.int .i64 1)).setCell ⟨B, 1, none⟩ (.int .i64 1)).setCell ⟨B, 2, none⟩ (.string ⟨#[]⟩) = wd at *
      have HPR : Hid (parsedV s = if vldV ⟨1, 1, []⟩ = true ∧ textV ⟨1, 1, []⟩ = s then (⟨1, 1, []⟩, 0) else (Vl.null, 5)) := by
        have h := parsed_ref s
        rw [HG0.out] at h
        exact h
      have HVL : Hid (∀ W : World, Calls Tryz.prog 31 #[encV ⟨1, 1, []⟩] W fun e w' => e = .returned (.bool (vldV ⟨1, 1, []⟩)) ∧ Below W.heap.size W w') := fun W => rvalid_any _ HOK.out W
      have HTX : Hid (∀ W : World, Calls Tryz.prog 39 #[encV ⟨1, 1, []⟩] W fun e w' => e = .returned (.string (bsOf (textV ⟨1, 1, []⟩))) ∧ Below W.heap.size W w') := fun W => rtextv_any _ HOK.out HOL.out W
      have hst := bs_same (textV ⟨1, 1, []⟩) s
      rw [hS] at hst
      clear HOK HOL HG0
      generalize textV ⟨1, 1, []⟩ = tx at *
      generalize vldV ⟨1, 1, []⟩ = bv at *
      unfold encV at HVL HTX
      dsimp only at HVL HTX
      rw [show bsOf [] = (⟨#[]⟩ : ByteArray) from rfl] at HVL HTX
      have d0 := HTd.out.c0
      have g0 := HTd.out.f 0
      have d1 := HTd.out.c1
      have g1 := HTd.out.f 1
      have d2 := HTd.out.c2
      have g2 := HTd.out.f 2
      have c0 := HGd.out.c0
      have f0 := HGd.out.fz 0
      have c1 := HGd.out.c1
      have f1 := HGd.out.fz 1
      have c2 := HGd.out.c2
      have f2 := HGd.out.fz 2
      have c3 := HGd.out.c3
      have f3 := HGd.out.fz 3
      have c4 := HGd.out.c4
      have f4 := HGd.out.fz 4
      have c5 := HGd.out.c5
      have f5 := HGd.out.fz 5
      have plt := HGd.out.lt
      have tlt := HTd.out.lt
      go_wp2_with fail
      refine (HVL.out _).mono ?_
      rintro e wv ⟨rfl, hb⟩
      clear d0 d1 d2 g0 g1 g2 c0 c1 c2 c3 c4 c5 f0 f1 f2 f3 f4 f5 plt tlt
      have HBv : Hid (Below w.heap.size w wv) := HBd.out.trans (hb.mono HBd.out.size)
      have HGv := Lib.hid (HGd.out.below hb HGd.out.lt)
      have HTv := Lib.hid (HTd.out.below hb HTd.out.lt)
      clear hb HBd HGd HTd
      have d0 := HTv.out.c0
      have g0 := HTv.out.f 0
      have d1 := HTv.out.c1
      have g1 := HTv.out.f 1
      have d2 := HTv.out.c2
      have g2 := HTv.out.f 2
      have c0 := HGv.out.c0
      have f0 := HGv.out.fz 0
      have c1 := HGv.out.c1
      have f1 := HGv.out.fz 1
      have c2 := HGv.out.c2
      have f2 := HGv.out.fz 2
      have c3 := HGv.out.c3
      have f3 := HGv.out.fz 3
      have c4 := HGv.out.c4
      have f4 := HGv.out.fz 4
      have c5 := HGv.out.c5
      have f5 := HGv.out.fz 5
      have plt := HGv.out.lt
      have tlt := HTv.out.lt
      cases bv with
      | false =>
        have HE := Lib.hid (HR.out (Vl.null, 5) (by rw [HPR.out, if_neg (by rintro ⟨h, _⟩; cases h)]))
        clear HPR HR
        go_wp2
        exact bodyPost_ret (v := .agg #[.int .i64 0, .int .i64 0, .string ⟨#[]⟩, .slice none 0 0, .slice none 0 0, .int .i64 5]) (by simp [results, Tryz.results45, go_sem, c0, c1, c2, c3, c4, c5]) rfl ⟨HE.out, below_put6 HBv.out (Nat.le_refl _) _ _ _ _ _ _⟩
      | true =>
        go_wp2_with fail
        refine (HTX.out _).mono ?_
        rintro e wt ⟨rfl, hb⟩
        clear d0 d1 d2 g0 g1 g2 c0 c1 c2 c3 c4 c5 f0 f1 f2 f3 f4 f5 plt tlt
        have HBt : Hid (Below w.heap.size w wt) := HBv.out.trans (hb.mono HBv.out.size)
        have HGt := Lib.hid (HGv.out.below hb HGv.out.lt)
        have HTt := Lib.hid (HTv.out.below hb HTv.out.lt)
        clear hb HBv HGv HTv
        have d0 := HTt.out.c0
        have g0 := HTt.out.f 0
        have d1 := HTt.out.c1
        have g1 := HTt.out.f 1
        have d2 := HTt.out.c2
        have g2 := HTt.out.f 2
        have c0 := HGt.out.c0
        have f0 := HGt.out.fz 0
        have c1 := HGt.out.c1
        have f1 := HGt.out.fz 1
        have c2 := HGt.out.c2
        have f2 := HGt.out.fz 2
        have c3 := HGt.out.c3
        have f3 := HGt.out.fz 3
        have c4 := HGt.out.c4
        have f4 := HGt.out.fz 4
        have c5 := HGt.out.c5
        have f5 := HGt.out.fz 5
        have plt := HGt.out.lt
        have tlt := HTt.out.lt
        by_cases hts : tx = s
        · have HE := Lib.hid (HR.out (⟨1, 1, []⟩, 0) (by rw [HPR.out, if_pos ⟨by first | trivial | rfl, hts⟩]))
          rw [decide_eq_true hts] at hst
          clear HPR HR hts
          go_wp2
          exact bodyPost_ret (v := .agg #[.int .i64 1, .int .i64 1, .string ⟨#[]⟩, .slice none 0 0, .slice none 0 0, .int .i64 0]) (by simp [results, Tryz.results45, go_sem, c0, c1, c2, c3, c4, c5]) rfl ⟨HE.out, below_put6 HBt.out (Nat.le_refl _) _ _ _ _ _ _⟩
        · have HE := Lib.hid (HR.out (Vl.null, 5) (by rw [HPR.out, if_neg (by rintro ⟨_, h⟩; exact hts h)]))
          rw [decide_eq_false hts] at hst
          clear HPR HR hts
          go_wp2
          exact bodyPost_ret (v := .agg #[.int .i64 0, .int .i64 0, .string ⟨#[]⟩, .slice none 0 0, .slice none 0 0, .int .i64 5]) (by simp [results, Tryz.results45, go_sem, c0, c1, c2, c3, c4, c5]) rfl ⟨HE.out, below_put6 HBt.out (Nat.le_refl _) _ _ _ _ _ _⟩
    · have HG0 : Hid (refG s = some ⟨1, 0, []⟩) := by show _ = _; rw [HREF.out, if_pos (.inr hs1), if_neg (by rw [hs1]; decide)]
      have HOK : Hid ((⟨1, 0, []⟩ : Vl).Ok) := ⟨⟨by decide, by decide⟩, ⟨by decide, by decide⟩, by decide⟩
      have HOL : Hid ((⟨1, 0, []⟩ : Vl).s.length ≤ 1000000) := by show _ ≤ _; decide
      rw [decide_eq_true hs1] at hf
      rw [decide_eq_false (by rw [hs1]; decide)] at ht
      clear hs1 HREF HUQ HDP HI hrl hdl HST HNM hn
      go_enter Tryz.func45, Tryz.ntmps45
      go_wp2_with fail
      refine (HNU.out _).mono ?_
      rintro e w1 ⟨rfl, hb⟩
      have HB1 : Hid (Below w.heap.size w w1) := hb0.trans (hb.mono hb0.size)
      have HG1 := Lib.hid (HG0'.out.below hb HG0'.out.lt)
      have hlt1 : w.heap.size < w1.heap.size := HG1.out.lt
      have hbA : Below w1.heap.size w1 (w1.alloc (.cells #[.int .i64 0, .int .i64 0, .string ⟨#[]⟩] 45)) := (Below.self w1).alloc (Nat.le_refl _) _
      have HTb := Lib.hid (Trio.new w1 45 (.int .i64 0) (.int .i64 0) (.string ⟨#[]⟩))
      have HBb : Hid (Below w.heap.size w (w1.alloc (.cells #[.int .i64 0, .int .i64 0, .string ⟨#[]⟩] 45))) := HB1.out.trans (hbA.mono HB1.out.size)
      have HGb := Lib.hid (HG1.out.below hbA HG1.out.lt)
      obtain ⟨B, hB⟩ : ∃ B, w1.heap.size = B := ⟨_, rfl⟩
      have HBB : Hid (w.heap.size ≤ B) := by show _ ≤ _; omega
      have HBN : Hid (B ≠ w.heap.size) := by show _ ≠ _; omega
      rw [hB] at HTb
      clear hb HB1 HG1 hbA hb0 HG0' hlt1
      go_upto_region 2 with fail
      try rw [hB]
      clear hB
      generalize w1.alloc (.cells #[.int .i64 0, .int .i64 0, .string ⟨#[]⟩] 45) = wb at *
      go_wp2_with fail
      refine (HBO.out false _).mono ?_
      rintro e wc ⟨rfl, hb⟩
      have HBc : Hid (Below w.heap.size w wc) := HBb.out.trans (hb.mono HBb.out.size)
      have HGc := Lib.hid (HGb.out.below hb HGb.out.lt)
      have HTc := Lib.hid (HTb.out.below hb HTb.out.lt)
      clear hb HBb HGb HTb
      simp only [Bool.false_eq_true, if_false]
      have tlt := HTc.out.lt
      have d0 := HTc.out.c0
      have d1 := HTc.out.c1
      have d2 := HTc.out.c2
      have g0 := HTc.out.f 0
      have g1 := HTc.out.f 1
      have g2 := HTc.out.f 2
      go_upto_region 11 with fail
      clear d0 d1 d2 g0 g1 g2 tlt
      have HTd : Hid (Trio (((wc.setCell ⟨B, 0, none⟩ (.int .i64 1)).setCell ⟨B, 1, none⟩ (.int .i64 0)).setCell ⟨B, 2, none⟩ (.string ⟨#[]⟩)) B 45 (.int .i64 1) (.int .i64 0) (.string ⟨#[]⟩)) := put3 HTc.out _ _ _
      have HBd : Hid (Below w.heap.size w (((wc.setCell ⟨B, 0, none⟩ (.int .i64 1)).setCell ⟨B, 1, none⟩ (.int .i64 0)).setCell ⟨B, 2, none⟩ (.string ⟨#[]⟩))) := below_put3 HBc.out HBB.out _ _ _
      have HGd : Hid (Six (((wc.setCell ⟨B, 0, none⟩ (.int .i64 1)).setCell ⟨B, 1, none⟩ (.int .i64 0)).setCell ⟨B, 2, none⟩ (.string ⟨#[]⟩)) w.heap.size 54 (.int .i64 0) (.int .i64 0) (.string ⟨#[]⟩) (.slice none 0 0) (.slice none 0 0) (.int .i64 0)) := six_put3 HGc.out HBN.out _ _ _
      clear HTc HBc HGc
      generalize ((wc.setCell ⟨B, 0, none⟩ (.int .i64 1)).setCell ⟨B, 1, none⟩ (.int .i64 0)).setCell ⟨B, 2, none⟩ (.string ⟨#[]⟩) = wd at *
      have HPR : Hid (parsedV s = if vldV ⟨1, 0, []⟩ = true ∧ textV ⟨1, 0, []⟩ = s then (⟨1, 0, []⟩, 0) else (Vl.null, 5)) := by
        have h := parsed_ref s
        rw [HG0.out] at h
        exact h
      have HVL : Hid (∀ W : World, Calls Tryz.prog 31 #[encV ⟨1, 0, []⟩] W fun e w' => e = .returned (.bool (vldV ⟨1, 0, []⟩)) ∧ Below W.heap.size W w') := fun W => rvalid_any _ HOK.out W
      have HTX : Hid (∀ W : World, Calls Tryz.prog 39 #[encV ⟨1, 0, []⟩] W fun e w' => e = .returned (.string (bsOf (textV ⟨1, 0, []⟩))) ∧ Below W.heap.size W w') := fun W => rtextv_any _ HOK.out HOL.out W
      have hst := bs_same (textV ⟨1, 0, []⟩) s
      rw [hS] at hst
      clear HOK HOL HG0
      generalize textV ⟨1, 0, []⟩ = tx at *
      generalize vldV ⟨1, 0, []⟩ = bv at *
      unfold encV at HVL HTX
      dsimp only at HVL HTX
      rw [show bsOf [] = (⟨#[]⟩ : ByteArray) from rfl] at HVL HTX
      have d0 := HTd.out.c0
      have g0 := HTd.out.f 0
      have d1 := HTd.out.c1
      have g1 := HTd.out.f 1
      have d2 := HTd.out.c2
      have g2 := HTd.out.f 2
      have c0 := HGd.out.c0
      have f0 := HGd.out.fz 0
      have c1 := HGd.out.c1
      have f1 := HGd.out.fz 1
      have c2 := HGd.out.c2
      have f2 := HGd.out.fz 2
      have c3 := HGd.out.c3
      have f3 := HGd.out.fz 3
      have c4 := HGd.out.c4
      have f4 := HGd.out.fz 4
      have c5 := HGd.out.c5
      have f5 := HGd.out.fz 5
      have plt := HGd.out.lt
      have tlt := HTd.out.lt
      go_wp2_with fail
      refine (HVL.out _).mono ?_
      rintro e wv ⟨rfl, hb⟩
      clear d0 d1 d2 g0 g1 g2 c0 c1 c2 c3 c4 c5 f0 f1 f2 f3 f4 f5 plt tlt
      have HBv : Hid (Below w.heap.size w wv) := HBd.out.trans (hb.mono HBd.out.size)
      have HGv := Lib.hid (HGd.out.below hb HGd.out.lt)
      have HTv := Lib.hid (HTd.out.below hb HTd.out.lt)
      clear hb HBd HGd HTd
      have d0 := HTv.out.c0
      have g0 := HTv.out.f 0
      have d1 := HTv.out.c1
      have g1 := HTv.out.f 1
      have d2 := HTv.out.c2
      have g2 := HTv.out.f 2
      have c0 := HGv.out.c0
      have f0 := HGv.out.fz 0
      have c1 := HGv.out.c1
      have f1 := HGv.out.fz 1
      have c2 := HGv.out.c2
      have f2 := HGv.out.fz 2
      have c3 := HGv.out.c3
      have f3 := HGv.out.fz 3
      have c4 := HGv.out.c4
      have f4 := HGv.out.fz 4
      have c5 := HGv.out.c5
      have f5 := HGv.out.fz 5
      have plt := HGv.out.lt
      have tlt := HTv.out.lt
      cases bv with
      | false =>
        have HE := Lib.hid (HR.out (Vl.null, 5) (by rw [HPR.out, if_neg (by rintro ⟨h, _⟩; cases h)]))
        clear HPR HR
        go_wp2
        exact bodyPost_ret (v := .agg #[.int .i64 0, .int .i64 0, .string ⟨#[]⟩, .slice none 0 0, .slice none 0 0, .int .i64 5]) (by simp [results, Tryz.results45, go_sem, c0, c1, c2, c3, c4, c5]) rfl ⟨HE.out, below_put6 HBv.out (Nat.le_refl _) _ _ _ _ _ _⟩
      | true =>
        go_wp2_with fail
        refine (HTX.out _).mono ?_
        rintro e wt ⟨rfl, hb⟩
        clear d0 d1 d2 g0 g1 g2 c0 c1 c2 c3 c4 c5 f0 f1 f2 f3 f4 f5 plt tlt
        have HBt : Hid (Below w.heap.size w wt) := HBv.out.trans (hb.mono HBv.out.size)
        have HGt := Lib.hid (HGv.out.below hb HGv.out.lt)
        have HTt := Lib.hid (HTv.out.below hb HTv.out.lt)
        clear hb HBv HGv HTv
        have d0 := HTt.out.c0
        have g0 := HTt.out.f 0
        have d1 := HTt.out.c1
        have g1 := HTt.out.f 1
        have d2 := HTt.out.c2
        have g2 := HTt.out.f 2
        have c0 := HGt.out.c0
        have f0 := HGt.out.fz 0
        have c1 := HGt.out.c1
        have f1 := HGt.out.fz 1
        have c2 := HGt.out.c2
        have f2 := HGt.out.fz 2
        have c3 := HGt.out.c3
        have f3 := HGt.out.fz 3
        have c4 := HGt.out.c4
        have f4 := HGt.out.fz 4
        have c5 := HGt.out.c5
        have f5 := HGt.out.fz 5
        have plt := HGt.out.lt
        have tlt := HTt.out.lt
        by_cases hts : tx = s
        · have HE := Lib.hid (HR.out (⟨1, 0, []⟩, 0) (by rw [HPR.out, if_pos ⟨by first | trivial | rfl, hts⟩]))
          rw [decide_eq_true hts] at hst
          clear HPR HR hts
          go_wp2
          exact bodyPost_ret (v := .agg #[.int .i64 1, .int .i64 0, .string ⟨#[]⟩, .slice none 0 0, .slice none 0 0, .int .i64 0]) (by simp [results, Tryz.results45, go_sem, c0, c1, c2, c3, c4, c5]) rfl ⟨HE.out, below_put6 HBt.out (Nat.le_refl _) _ _ _ _ _ _⟩
        · have HE := Lib.hid (HR.out (Vl.null, 5) (by rw [HPR.out, if_neg (by rintro ⟨_, h⟩; exact hts h)]))
          rw [decide_eq_false hts] at hst
          clear HPR HR hts
          go_wp2
          exact bodyPost_ret (v := .agg #[.int .i64 0, .int .i64 0, .string ⟨#[]⟩, .slice none 0 0, .slice none 0 0, .int .i64 5]) (by simp [results, Tryz.results45, go_sem, c0, c1, c2, c3, c4, c5]) rfl ⟨HE.out, below_put6 HBt.out (Nat.le_refl _) _ _ _ _ _ _⟩
  · have htf := hA
    rw [decide_eq_false (fun h => hA (.inl h))] at ht
    rw [decide_eq_false (fun h => hA (.inr h))] at hf
    clear htf
    by_cases hQ : 1 < s.length ∧ s[0]?.getD 0 = 34
    · have HG0 : Hid (refG s = some ⟨3, 0, us⟩) := by show _ = _; rw [HREF.out, if_neg hA, if_pos hQ]
      have HOK : Hid ((⟨3, 0, us⟩ : Vl).Ok) := ⟨⟨by show (-9223372036854775808 : Int) ≤ 3; decide, by show (3 : Int) ≤ 9223372036854775807; decide⟩, ⟨by show (-9223372036854775808 : Int) ≤ 0; decide, by show (0 : Int) ≤ 9223372036854775807; decide⟩, by show (us).length ≤ _; omega⟩
      have HOL : Hid ((⟨3, 0, us⟩ : Vl).s.length ≤ 1000000) := by show (us).length ≤ _; omega
      have hsz1 : (1 : Int) < (S.size : Int) := by have := HS.out; omega
      have hsz0 : 0 < S.size := by have := HS.out; omega
      have hx0 := HAS.out 0 hsz0
      rw [hQ.2] at hx0
      have e34 : ((34 : UInt8).toNat : Int) = 34 := rfl
      clear hQ HREF HDP HI hrl hdl HNM HBO hn
      go_enter Tryz.func45, Tryz.ntmps45
      go_wp2_with fail
      refine (HNU.out _).mono ?_
      rintro e w1 ⟨rfl, hb⟩
      have HB1 : Hid (Below w.heap.size w w1) := hb0.trans (hb.mono hb0.size)
      have HG1 := Lib.hid (HG0'.out.below hb HG0'.out.lt)
      have hlt1 : w.heap.size < w1.heap.size := HG1.out.lt
      have hbA : Below w1.heap.size w1 (w1.alloc (.cells #[.int .i64 0, .int .i64 0, .string ⟨#[]⟩] 45)) := (Below.self w1).alloc (Nat.le_refl _) _
      have HTb := Lib.hid (Trio.new w1 45 (.int .i64 0) (.int .i64 0) (.string ⟨#[]⟩))
      have HBb : Hid (Below w.heap.size w (w1.alloc (.cells #[.int .i64 0, .int .i64 0, .string ⟨#[]⟩] 45))) := HB1.out.trans (hbA.mono HB1.out.size)
      have HGb := Lib.hid (HG1.out.below hbA HG1.out.lt)
      obtain ⟨B, hB⟩ : ∃ B, w1.heap.size = B := ⟨_, rfl⟩
      have HBB : Hid (w.heap.size ≤ B) := by show _ ≤ _; omega
      have HBN : Hid (B ≠ w.heap.size) := by show _ ≠ _; omega
      rw [hB] at HTb
      clear hb HB1 HG1 hbA hb0 HG0' hlt1
      go_upto_region 2 with fail
      try rw [hB]
      clear hB
      generalize w1.alloc (.cells #[.int .i64 0, .int .i64 0, .string ⟨#[]⟩] 45) = wb at *
      go_wp2_with fail
      refine (HUQ.out _).mono ?_
      rintro e wc ⟨rfl, hb⟩
      have HBc : Hid (Below w.heap.size w wc) := HBb.out.trans (hb.mono HBb.out.size)
      have HGc := Lib.hid (HGb.out.below hb HGb.out.lt)
      have HTc := Lib.hid (HTb.out.below hb HTb.out.lt)
      clear hb HBb HGb HTb
      go_wp2_with fail
      refine (HST.out _).mono ?_
      rintro e we ⟨rfl, hb⟩
      have HBe : Hid (Below w.heap.size w we) := HBc.out.trans (hb.mono HBc.out.size)
      have HGe := Lib.hid (HGc.out.below hb HGc.out.lt)
      have HTe := Lib.hid (HTc.out.below hb HTc.out.lt)
      clear hb HBc HGc HTc
      have tlt := HTe.out.lt
      have d0 := HTe.out.c0
      have d1 := HTe.out.c1
      have d2 := HTe.out.c2
      have g0 := HTe.out.f 0
      have g1 := HTe.out.f 1
      have g2 := HTe.out.f 2
      go_upto_region 11 with fail
      clear d0 d1 d2 g0 g1 g2 tlt
      have HTd : Hid (Trio (((we.setCell ⟨B, 0, none⟩ (.int .i64 3)).setCell ⟨B, 1, none⟩ (.int .i64 0)).setCell ⟨B, 2, none⟩ (.string (bsOf (us)))) B 45 (.int .i64 3) (.int .i64 0) (.string (bsOf (us)))) := put3 HTe.out _ _ _
      have HBd : Hid (Below w.heap.size w (((we.setCell ⟨B, 0, none⟩ (.int .i64 3)).setCell ⟨B, 1, none⟩ (.int .i64 0)).setCell ⟨B, 2, none⟩ (.string (bsOf (us))))) := below_put3 HBe.out HBB.out _ _ _
      have HGd : Hid (Six (((we.setCell ⟨B, 0, none⟩ (.int .i64 3)).setCell ⟨B, 1, none⟩ (.int .i64 0)).setCell ⟨B, 2, none⟩ (.string (bsOf (us)))) w.heap.size 54 (.int .i64 0) (.int .i64 0) (.string ⟨#[]⟩) (.slice none 0 0) (.slice none 0 0) (.int .i64 0)) := six_put3 HGe.out HBN.out _ _ _
      clear HTe HBe HGe
      generalize ((we.setCell ⟨B, 0, none⟩ (.int .i64 3)).setCell ⟨B, 1, none⟩ (.int .i64 0)).setCell ⟨B, 2, none⟩ (.string (bsOf (us))) = wd at *
      have HPR : Hid (parsedV s = if vldV ⟨3, 0, us⟩ = true ∧ textV ⟨3, 0, us⟩ = s then (⟨3, 0, us⟩, 0) else (Vl.null, 5)) := by
        have h := parsed_ref s
        rw [HG0.out] at h
        exact h
      have HVL : Hid (∀ W : World, Calls Tryz.prog 31 #[encV ⟨3, 0, us⟩] W fun e w' => e = .returned (.bool (vldV ⟨3, 0, us⟩)) ∧ Below W.heap.size W w') := fun W => rvalid_any _ HOK.out W
      have HTX : Hid (∀ W : World, Calls Tryz.prog 39 #[encV ⟨3, 0, us⟩] W fun e w' => e = .returned (.string (bsOf (textV ⟨3, 0, us⟩))) ∧ Below W.heap.size W w') := fun W => rtextv_any _ HOK.out HOL.out W
      have hst := bs_same (textV ⟨3, 0, us⟩) s
      rw [hS] at hst
      clear HOK HOL HG0
      generalize textV ⟨3, 0, us⟩ = tx at *
      generalize vldV ⟨3, 0, us⟩ = bv at *
      unfold encV at HVL HTX
      dsimp only at HVL HTX
      have d0 := HTd.out.c0
      have g0 := HTd.out.f 0
      have d1 := HTd.out.c1
      have g1 := HTd.out.f 1
      have d2 := HTd.out.c2
      have g2 := HTd.out.f 2
      have c0 := HGd.out.c0
      have f0 := HGd.out.fz 0
      have c1 := HGd.out.c1
      have f1 := HGd.out.fz 1
      have c2 := HGd.out.c2
      have f2 := HGd.out.fz 2
      have c3 := HGd.out.c3
      have f3 := HGd.out.fz 3
      have c4 := HGd.out.c4
      have f4 := HGd.out.fz 4
      have c5 := HGd.out.c5
      have f5 := HGd.out.fz 5
      have plt := HGd.out.lt
      have tlt := HTd.out.lt
      go_wp2_with fail
      refine (HVL.out _).mono ?_
      rintro e wv ⟨rfl, hb⟩
      clear d0 d1 d2 g0 g1 g2 c0 c1 c2 c3 c4 c5 f0 f1 f2 f3 f4 f5 plt tlt
      have HBv : Hid (Below w.heap.size w wv) := HBd.out.trans (hb.mono HBd.out.size)
      have HGv := Lib.hid (HGd.out.below hb HGd.out.lt)
      have HTv := Lib.hid (HTd.out.below hb HTd.out.lt)
      clear hb HBd HGd HTd
      have d0 := HTv.out.c0
      have g0 := HTv.out.f 0
      have d1 := HTv.out.c1
      have g1 := HTv.out.f 1
      have d2 := HTv.out.c2
      have g2 := HTv.out.f 2
      have c0 := HGv.out.c0
      have f0 := HGv.out.fz 0
      have c1 := HGv.out.c1
      have f1 := HGv.out.fz 1
      have c2 := HGv.out.c2
      have f2 := HGv.out.fz 2
      have c3 := HGv.out.c3
      have f3 := HGv.out.fz 3
      have c4 := HGv.out.c4
      have f4 := HGv.out.fz 4
      have c5 := HGv.out.c5
      have f5 := HGv.out.fz 5
      have plt := HGv.out.lt
      have tlt := HTv.out.lt
      cases bv with
      | false =>
        have HE := Lib.hid (HR.out (Vl.null, 5) (by rw [HPR.out, if_neg (by rintro ⟨h, _⟩; cases h)]))
        clear HPR HR
        go_wp2
        exact bodyPost_ret (v := .agg #[.int .i64 0, .int .i64 0, .string ⟨#[]⟩, .slice none 0 0, .slice none 0 0, .int .i64 5]) (by simp [results, Tryz.results45, go_sem, c0, c1, c2, c3, c4, c5]) rfl ⟨HE.out, below_put6 HBv.out (Nat.le_refl _) _ _ _ _ _ _⟩
      | true =>
        go_wp2_with fail
        refine (HTX.out _).mono ?_
        rintro e wt ⟨rfl, hb⟩
        clear d0 d1 d2 g0 g1 g2 c0 c1 c2 c3 c4 c5 f0 f1 f2 f3 f4 f5 plt tlt
        have HBt : Hid (Below w.heap.size w wt) := HBv.out.trans (hb.mono HBv.out.size)
        have HGt := Lib.hid (HGv.out.below hb HGv.out.lt)
        have HTt := Lib.hid (HTv.out.below hb HTv.out.lt)
        clear hb HBv HGv HTv
        have d0 := HTt.out.c0
        have g0 := HTt.out.f 0
        have d1 := HTt.out.c1
        have g1 := HTt.out.f 1
        have d2 := HTt.out.c2
        have g2 := HTt.out.f 2
        have c0 := HGt.out.c0
        have f0 := HGt.out.fz 0
        have c1 := HGt.out.c1
        have f1 := HGt.out.fz 1
        have c2 := HGt.out.c2
        have f2 := HGt.out.fz 2
        have c3 := HGt.out.c3
        have f3 := HGt.out.fz 3
        have c4 := HGt.out.c4
        have f4 := HGt.out.fz 4
        have c5 := HGt.out.c5
        have f5 := HGt.out.fz 5
        have plt := HGt.out.lt
        have tlt := HTt.out.lt
        by_cases hts : tx = s
        · have HE := Lib.hid (HR.out (⟨3, 0, us⟩, 0) (by rw [HPR.out, if_pos ⟨by first | trivial | rfl, hts⟩]))
          rw [decide_eq_true hts] at hst
          clear HPR HR hts
          go_wp2
          exact bodyPost_ret (v := .agg #[.int .i64 3, .int .i64 0, .string (bsOf (us)), .slice none 0 0, .slice none 0 0, .int .i64 0]) (by simp [results, Tryz.results45, go_sem, c0, c1, c2, c3, c4, c5]) rfl ⟨HE.out, below_put6 HBt.out (Nat.le_refl _) _ _ _ _ _ _⟩
        · have HE := Lib.hid (HR.out (Vl.null, 5) (by rw [HPR.out, if_neg (by rintro ⟨_, h⟩; exact hts h)]))
          rw [decide_eq_false hts] at hst
          clear HPR HR hts
          go_wp2
          exact bodyPost_ret (v := .agg #[.int .i64 0, .int .i64 0, .string ⟨#[]⟩, .slice none 0 0, .slice none 0 0, .int .i64 5]) (by simp [results, Tryz.results45, go_sem, c0, c1, c2, c3, c4, c5]) rfl ⟨HE.out, below_put6 HBt.out (Nat.le_refl _) _ _ _ _ _ _⟩
    · have HQ4 : Hid (1 < S.size → ∃ c : UInt8, (∃ h : 0 < S.size, S[0]'h = c) ∧ ((c.toNat : Int) == 34) = false) := fun h => ⟨s[0]?.getD 0, ⟨by omega, HAS.out 0 (by omega)⟩, by
        rw [beq_eq_false_iff_ne]; intro he
        exact hQ ⟨by have := HS.out; omega, (byte_nat _ 34 (by decide)).2 (by omega)⟩⟩
      by_cases hN : s = nullL
      · have HG0 : Hid (refG s = some Vl.null) := by show _ = _; rw [HREF.out, if_neg hA, if_neg hQ, if_pos hN]
        have HOK : Hid ((⟨0, 0, []⟩ : Vl).Ok) := ⟨⟨by decide, by decide⟩, ⟨by decide, by decide⟩, by decide⟩
        have HOL : Hid ((⟨0, 0, []⟩ : Vl).s.length ≤ 1000000) := by show _ ≤ _; decide
        rw [decide_eq_true hN] at hn
        clear hN hQ HREF HUQ HDP HI hrl hdl HST HNM HBO
        by_cases hl1 : 1 < S.size
        · have hsz1 : (1 : Int) < (S.size : Int) := by omega
          obtain ⟨c34, ⟨hsz0, hx0⟩, e34⟩ := HQ4.out hl1
          go_enter Tryz.func45, Tryz.ntmps45
          go_wp2_with fail
          refine (HNU.out _).mono ?_
          rintro e w1 ⟨rfl, hb⟩
          have HB1 : Hid (Below w.heap.size w w1) := hb0.trans (hb.mono hb0.size)
          have HG1 := Lib.hid (HG0'.out.below hb HG0'.out.lt)
          have hlt1 : w.heap.size < w1.heap.size := HG1.out.lt
          have hbA : Below w1.heap.size w1 (w1.alloc (.cells #[.int .i64 0, .int .i64 0, .string ⟨#[]⟩] 45)) := (Below.self w1).alloc (Nat.le_refl _) _
          have HTb := Lib.hid (Trio.new w1 45 (.int .i64 0) (.int .i64 0) (.string ⟨#[]⟩))
          have HBb : Hid (Below w.heap.size w (w1.alloc (.cells #[.int .i64 0, .int .i64 0, .string ⟨#[]⟩] 45))) := HB1.out.trans (hbA.mono HB1.out.size)
          have HGb := Lib.hid (HG1.out.below hbA HG1.out.lt)
          obtain ⟨B, hB⟩ : ∃ B, w1.heap.size = B := ⟨_, rfl⟩
          have HBB : Hid (w.heap.size ≤ B) := by show _ ≤ _; omega
          have HBN : Hid (B ≠ w.heap.size) := by show _ ≠ _; omega
          rw [hB] at HTb
          clear hb HB1 HG1 hbA hb0 HG0' hlt1
          go_upto_region 2 with fail
          try rw [hB]
          clear hB
          generalize w1.alloc (.cells #[.int .i64 0, .int .i64 0, .string ⟨#[]⟩] 45) = wb at *
          have HPR : Hid (parsedV s = if vldV ⟨0, 0, []⟩ = true ∧ textV ⟨0, 0, []⟩ = s then (⟨0, 0, []⟩, 0) else (Vl.null, 5)) := by
            have h := parsed_ref s
            rw [HG0.out] at h
            exact h
          have HVL : Hid (∀ W : World, Calls Tryz.prog 31 #[encV ⟨0, 0, []⟩] W fun e w' => e = .returned (.bool (vldV ⟨0, 0, []⟩)) ∧ Below W.heap.size W w') := fun W => rvalid_any _ HOK.out W
          have HTX : Hid (∀ W : World, Calls Tryz.prog 39 #[encV ⟨0, 0, []⟩] W fun e w' => e = .returned (.string (bsOf (textV ⟨0, 0, []⟩))) ∧ Below W.heap.size W w') := fun W => rtextv_any _ HOK.out HOL.out W
          have hst := bs_same (textV ⟨0, 0, []⟩) s
          rw [hS] at hst
          clear HOK HOL HG0
          generalize textV ⟨0, 0, []⟩ = tx at *
          generalize vldV ⟨0, 0, []⟩ = bv at *
          unfold encV at HVL HTX
          dsimp only at HVL HTX
          rw [show bsOf [] = (⟨#[]⟩ : ByteArray) from rfl] at HVL HTX
          have d0 := HTb.out.c0
          have g0 := HTb.out.f 0
          have d1 := HTb.out.c1
          have g1 := HTb.out.f 1
          have d2 := HTb.out.c2
          have g2 := HTb.out.f 2
          have c0 := HGb.out.c0
          have f0 := HGb.out.fz 0
          have c1 := HGb.out.c1
          have f1 := HGb.out.fz 1
          have c2 := HGb.out.c2
          have f2 := HGb.out.fz 2
          have c3 := HGb.out.c3
          have f3 := HGb.out.fz 3
          have c4 := HGb.out.c4
          have f4 := HGb.out.fz 4
          have c5 := HGb.out.c5
          have f5 := HGb.out.fz 5
          have plt := HGb.out.lt
          have tlt := HTb.out.lt
          go_wp2_with fail
          refine (HVL.out _).mono ?_
          rintro e wv ⟨rfl, hb⟩
          clear d0 d1 d2 g0 g1 g2 c0 c1 c2 c3 c4 c5 f0 f1 f2 f3 f4 f5 plt tlt
          have HBv : Hid (Below w.heap.size w wv) := HBb.out.trans (hb.mono HBb.out.size)
          have HGv := Lib.hid (HGb.out.below hb HGb.out.lt)
          have HTv := Lib.hid (HTb.out.below hb HTb.out.lt)
          clear hb HBb HGb HTb
          have d0 := HTv.out.c0
          have g0 := HTv.out.f 0
          have d1 := HTv.out.c1
          have g1 := HTv.out.f 1
          have d2 := HTv.out.c2
          have g2 := HTv.out.f 2
          have c0 := HGv.out.c0
          have f0 := HGv.out.fz 0
          have c1 := HGv.out.c1
          have f1 := HGv.out.fz 1
          have c2 := HGv.out.c2
          have f2 := HGv.out.fz 2
          have c3 := HGv.out.c3
          have f3 := HGv.out.fz 3
          have c4 := HGv.out.c4
          have f4 := HGv.out.fz 4
          have c5 := HGv.out.c5
          have f5 := HGv.out.fz 5
          have plt := HGv.out.lt
          have tlt := HTv.out.lt
          cases bv with
          | false =>
            have HE := Lib.hid (HR.out (Vl.null, 5) (by rw [HPR.out, if_neg (by rintro ⟨h, _⟩; cases h)]))
            clear HPR HR
            go_wp2
            exact bodyPost_ret (v := .agg #[.int .i64 0, .int .i64 0, .string ⟨#[]⟩, .slice none 0 0, .slice none 0 0, .int .i64 5]) (by simp [results, Tryz.results45, go_sem, c0, c1, c2, c3, c4, c5]) rfl ⟨HE.out, below_put6 HBv.out (Nat.le_refl _) _ _ _ _ _ _⟩
          | true =>
            go_wp2_with fail
            refine (HTX.out _).mono ?_
            rintro e wt ⟨rfl, hb⟩
            clear d0 d1 d2 g0 g1 g2 c0 c1 c2 c3 c4 c5 f0 f1 f2 f3 f4 f5 plt tlt
            have HBt : Hid (Below w.heap.size w wt) := HBv.out.trans (hb.mono HBv.out.size)
            have HGt := Lib.hid (HGv.out.below hb HGv.out.lt)
            have HTt := Lib.hid (HTv.out.below hb HTv.out.lt)
            clear hb HBv HGv HTv
            have d0 := HTt.out.c0
            have g0 := HTt.out.f 0
            have d1 := HTt.out.c1
            have g1 := HTt.out.f 1
            have d2 := HTt.out.c2
            have g2 := HTt.out.f 2
            have c0 := HGt.out.c0
            have f0 := HGt.out.fz 0
            have c1 := HGt.out.c1
            have f1 := HGt.out.fz 1
            have c2 := HGt.out.c2
            have f2 := HGt.out.fz 2
            have c3 := HGt.out.c3
            have f3 := HGt.out.fz 3
            have c4 := HGt.out.c4
            have f4 := HGt.out.fz 4
            have c5 := HGt.out.c5
            have f5 := HGt.out.fz 5
            have plt := HGt.out.lt
            have tlt := HTt.out.lt
            by_cases hts : tx = s
            · have HE := Lib.hid (HR.out (⟨0, 0, []⟩, 0) (by rw [HPR.out, if_pos ⟨by first | trivial | rfl, hts⟩]))
              rw [decide_eq_true hts] at hst
              clear HPR HR hts
              go_wp2
              exact bodyPost_ret (v := .agg #[.int .i64 0, .int .i64 0, .string ⟨#[]⟩, .slice none 0 0, .slice none 0 0, .int .i64 0]) (by simp [results, Tryz.results45, go_sem, c0, c1, c2, c3, c4, c5]) rfl ⟨HE.out, below_put6 HBt.out (Nat.le_refl _) _ _ _ _ _ _⟩
            · have HE := Lib.hid (HR.out (Vl.null, 5) (by rw [HPR.out, if_neg (by rintro ⟨_, h⟩; exact hts h)]))
              rw [decide_eq_false hts] at hst
              clear HPR HR hts
              go_wp2
              exact bodyPost_ret (v := .agg #[.int .i64 0, .int .i64 0, .string ⟨#[]⟩, .slice none 0 0, .slice none 0 0, .int .i64 5]) (by simp [results, Tryz.results45, go_sem, c0, c1, c2, c3, c4, c5]) rfl ⟨HE.out, below_put6 HBt.out (Nat.le_refl _) _ _ _ _ _ _⟩
        · have hsz1 : ¬ (1 : Int) < (S.size : Int) := by omega
          go_enter Tryz.func45, Tryz.ntmps45
          go_wp2_with fail
          refine (HNU.out _).mono ?_
          rintro e w1 ⟨rfl, hb⟩
          have HB1 : Hid (Below w.heap.size w w1) := hb0.trans (hb.mono hb0.size)
          have HG1 := Lib.hid (HG0'.out.below hb HG0'.out.lt)
          have hlt1 : w.heap.size < w1.heap.size := HG1.out.lt
          have hbA : Below w1.heap.size w1 (w1.alloc (.cells #[.int .i64 0, .int .i64 0, .string ⟨#[]⟩] 45)) := (Below.self w1).alloc (Nat.le_refl _) _
          have HTb := Lib.hid (Trio.new w1 45 (.int .i64 0) (.int .i64 0) (.string ⟨#[]⟩))
          have HBb : Hid (Below w.heap.size w (w1.alloc (.cells #[.int .i64 0, .int .i64 0, .string ⟨#[]⟩] 45))) := HB1.out.trans (hbA.mono HB1.out.size)
          have HGb := Lib.hid (HG1.out.below hbA HG1.out.lt)
          obtain ⟨B, hB⟩ : ∃ B, w1.heap.size = B := ⟨_, rfl⟩
          have HBB : Hid (w.heap.size ≤ B) := by show _ ≤ _; omega
          have HBN : Hid (B ≠ w.heap.size) := by show _ ≠ _; omega
          rw [hB] at HTb
          clear hb HB1 HG1 hbA hb0 HG0' hlt1
          go_upto_region 2 with fail
          try rw [hB]
          clear hB
          generalize w1.alloc (.cells #[.int .i64 0, .int .i64 0, .string ⟨#[]⟩] 45) = wb at *
          have HPR : Hid (parsedV s = if vldV ⟨0, 0, []⟩ = true ∧ textV ⟨0, 0, []⟩ = s then (⟨0, 0, []⟩, 0) else (Vl.null, 5)) := by
            have h := parsed_ref s
            rw [HG0.out] at h
            exact h
          have HVL : Hid (∀ W : World, Calls Tryz.prog 31 #[encV ⟨0, 0, []⟩] W fun e w' => e = .returned (.bool (vldV ⟨0, 0, []⟩)) ∧ Below W.heap.size W w') := fun W => rvalid_any _ HOK.out W
          have HTX : Hid (∀ W : World, Calls Tryz.prog 39 #[encV ⟨0, 0, []⟩] W fun e w' => e = .returned (.string (bsOf (textV ⟨0, 0, []⟩))) ∧ Below W.heap.size W w') := fun W => rtextv_any _ HOK.out HOL.out W
          have hst := bs_same (textV ⟨0, 0, []⟩) s
          rw [hS] at hst
          clear HOK HOL HG0
          generalize textV ⟨0, 0, []⟩ = tx at *
          generalize vldV ⟨0, 0, []⟩ = bv at *
          unfold encV at HVL HTX
          dsimp only at HVL HTX
          rw [show bsOf [] = (⟨#[]⟩ : ByteArray) from rfl] at HVL HTX
          have d0 := HTb.out.c0
          have g0 := HTb.out.f 0
          have d1 := HTb.out.c1
          have g1 := HTb.out.f 1
          have d2 := HTb.out.c2
          have g2 := HTb.out.f 2
          have c0 := HGb.out.c0
          have f0 := HGb.out.fz 0
          have c1 := HGb.out.c1
          have f1 := HGb.out.fz 1
          have c2 := HGb.out.c2
          have f2 := HGb.out.fz 2
          have c3 := HGb.out.c3
          have f3 := HGb.out.fz 3
          have c4 := HGb.out.c4
          have f4 := HGb.out.fz 4
          have c5 := HGb.out.c5
          have f5 := HGb.out.fz 5
          have plt := HGb.out.lt
          have tlt := HTb.out.lt
          go_wp2_with fail
          refine (HVL.out _).mono ?_
          rintro e wv ⟨rfl, hb⟩
          clear d0 d1 d2 g0 g1 g2 c0 c1 c2 c3 c4 c5 f0 f1 f2 f3 f4 f5 plt tlt
          have HBv : Hid (Below w.heap.size w wv) := HBb.out.trans (hb.mono HBb.out.size)
          have HGv := Lib.hid (HGb.out.below hb HGb.out.lt)
          have HTv := Lib.hid (HTb.out.below hb HTb.out.lt)
          clear hb HBb HGb HTb
          have d0 := HTv.out.c0
          have g0 := HTv.out.f 0
          have d1 := HTv.out.c1
          have g1 := HTv.out.f 1
          have d2 := HTv.out.c2
          have g2 := HTv.out.f 2
          have c0 := HGv.out.c0
          have f0 := HGv.out.fz 0
          have c1 := HGv.out.c1
          have f1 := HGv.out.fz 1
          have c2 := HGv.out.c2
          have f2 := HGv.out.fz 2
          have c3 := HGv.out.c3
          have f3 := HGv.out.fz 3
          have c4 := HGv.out.c4
          have f4 := HGv.out.fz 4
          have c5 := HGv.out.c5
          have f5 := HGv.out.fz 5
          have plt := HGv.out.lt
          have tlt := HTv.out.lt
          cases bv with
          | false =>
            have HE := Lib.hid (HR.out (Vl.null, 5) (by rw [HPR.out, if_neg (by rintro ⟨h, _⟩; cases h)]))
            clear HPR HR
            go_wp2
            exact bodyPost_ret (v := .agg #[.int .i64 0, .int .i64 0, .string ⟨#[]⟩, .slice none 0 0, .slice none 0 0, .int .i64 5]) (by simp [results, Tryz.results45, go_sem, c0, c1, c2, c3, c4, c5]) rfl ⟨HE.out, below_put6 HBv.out (Nat.le_refl _) _ _ _ _ _ _⟩
          | true =>
            go_wp2_with fail
            refine (HTX.out _).mono ?_
            rintro e wt ⟨rfl, hb⟩
            clear d0 d1 d2 g0 g1 g2 c0 c1 c2 c3 c4 c5 f0 f1 f2 f3 f4 f5 plt tlt
            have HBt : Hid (Below w.heap.size w wt) := HBv.out.trans (hb.mono HBv.out.size)
            have HGt := Lib.hid (HGv.out.below hb HGv.out.lt)
            have HTt := Lib.hid (HTv.out.below hb HTv.out.lt)
            clear hb HBv HGv HTv
            have d0 := HTt.out.c0
            have g0 := HTt.out.f 0
            have d1 := HTt.out.c1
            have g1 := HTt.out.f 1
            have d2 := HTt.out.c2
            have g2 := HTt.out.f 2
            have c0 := HGt.out.c0
            have f0 := HGt.out.fz 0
            have c1 := HGt.out.c1
            have f1 := HGt.out.fz 1
            have c2 := HGt.out.c2
            have f2 := HGt.out.fz 2
            have c3 := HGt.out.c3
            have f3 := HGt.out.fz 3
            have c4 := HGt.out.c4
            have f4 := HGt.out.fz 4
            have c5 := HGt.out.c5
            have f5 := HGt.out.fz 5
            have plt := HGt.out.lt
            have tlt := HTt.out.lt
            by_cases hts : tx = s
            · have HE := Lib.hid (HR.out (⟨0, 0, []⟩, 0) (by rw [HPR.out, if_pos ⟨by first | trivial | rfl, hts⟩]))
              rw [decide_eq_true hts] at hst
              clear HPR HR hts
              go_wp2
              exact bodyPost_ret (v := .agg #[.int .i64 0, .int .i64 0, .string ⟨#[]⟩, .slice none 0 0, .slice none 0 0, .int .i64 0]) (by simp [results, Tryz.results45, go_sem, c0, c1, c2, c3, c4, c5]) rfl ⟨HE.out, below_put6 HBt.out (Nat.le_refl _) _ _ _ _ _ _⟩
            · have HE := Lib.hid (HR.out (Vl.null, 5) (by rw [HPR.out, if_neg (by rintro ⟨_, h⟩; exact hts h)]))
              rw [decide_eq_false hts] at hst
              clear HPR HR hts
              go_wp2
              exact bodyPost_ret (v := .agg #[.int .i64 0, .int .i64 0, .string ⟨#[]⟩, .slice none 0 0, .slice none 0 0, .int .i64 5]) (by simp [results, Tryz.results45, go_sem, c0, c1, c2, c3, c4, c5]) rfl ⟨HE.out, below_put6 HBt.out (Nat.le_refl _) _ _ _ _ _ _⟩
      · rw [decide_eq_false hN] at hn
        by_cases hpe : pe = 0
        · have HG0 : Hid (refG s = some ⟨2, pn, []⟩) := by show _ = _; rw [HREF.out, if_neg hA, if_neg hQ, if_neg hN, if_pos hpe]
          have HOK : Hid ((⟨2, pn, []⟩ : Vl).Ok) := ⟨⟨by show (-9223372036854775808 : Int) ≤ 2; decide, by show (2 : Int) ≤ 9223372036854775807; decide⟩, HI.out, by show ([] : List UInt8).length ≤ _; decide⟩
          have HOL : Hid ((⟨2, pn, []⟩ : Vl).s.length ≤ 1000000) := by show ([] : List UInt8).length ≤ _; decide
          subst hpe
          clear hN hQ HREF HUQ HI hrl hdl HST HBO
          by_cases hl1 : 1 < S.size
          · have hsz1 : (1 : Int) < (S.size : Int) := by omega
            obtain ⟨c34, ⟨hsz0, hx0⟩, e34⟩ := HQ4.out hl1
            go_enter Tryz.func45, Tryz.ntmps45
            go_wp2_with fail
            refine (HNU.out _).mono ?_
            rintro e w1 ⟨rfl, hb⟩
            have HB1 : Hid (Below w.heap.size w w1) := hb0.trans (hb.mono hb0.size)
            have HG1 := Lib.hid (HG0'.out.below hb HG0'.out.lt)
            have hlt1 : w.heap.size < w1.heap.size := HG1.out.lt
            have hbA : Below w1.heap.size w1 (w1.alloc (.cells #[.int .i64 0, .int .i64 0, .string ⟨#[]⟩] 45)) := (Below.self w1).alloc (Nat.le_refl _) _
            have HTb := Lib.hid (Trio.new w1 45 (.int .i64 0) (.int .i64 0) (.string ⟨#[]⟩))
            have HBb : Hid (Below w.heap.size w (w1.alloc (.cells #[.int .i64 0, .int .i64 0, .string ⟨#[]⟩] 45))) := HB1.out.trans (hbA.mono HB1.out.size)
            have HGb := Lib.hid (HG1.out.below hbA HG1.out.lt)
            obtain ⟨B, hB⟩ : ∃ B, w1.heap.size = B := ⟨_, rfl⟩
            have HBB : Hid (w.heap.size ≤ B) := by show _ ≤ _; omega
            have HBN : Hid (B ≠ w.heap.size) := by show _ ≠ _; omega
            rw [hB] at HTb
            clear hb HB1 HG1 hbA hb0 HG0' hlt1
            go_upto_region 2 with fail
            try rw [hB]
            clear hB
            generalize w1.alloc (.cells #[.int .i64 0, .int .i64 0, .string ⟨#[]⟩] 45) = wb at *
            go_wp2_with fail
            refine (HDP.out _).mono ?_
            rintro e wc ⟨rfl, hb⟩
            have HBc : Hid (Below w.heap.size w wc) := HBb.out.trans (hb.mono HBb.out.size)
            have HGc := Lib.hid (HGb.out.below hb HGb.out.lt)
            have HTc := Lib.hid (HTb.out.below hb HTb.out.lt)
            clear hb HBb HGb HTb
            have hbA : Below wc.heap.size wc (wc.alloc (.cells #[.int .i64 pn, .int .i64 0] 30)) := (Below.self wc).alloc (Nat.le_refl _) _
            have hkR : (wc.alloc (.cells #[.int .i64 pn, .int .i64 0] 30)).heap[wc.heap.size]? = some (.cells #[.int .i64 pn, .int .i64 0] 30 (0, 0)) := World.alloc_heap_new wc _
            have HBr : Hid (Below w.heap.size w (wc.alloc (.cells #[.int .i64 pn, .int .i64 0] 30))) := HBc.out.trans (hbA.mono HBc.out.size)
            have HGr := Lib.hid (HGc.out.below hbA HGc.out.lt)
            have HTr := Lib.hid (HTc.out.below hbA HTc.out.lt)
            go_upto_region 8 with fail
            clear hbA HBc HGc HTc
            generalize wc.alloc (.cells #[.int .i64 pn, .int .i64 0] 30) = wr at *
            generalize wc.heap.size = BR at *
            have r0 := Joins.cell_of_block hkR 0
            have r1 := Joins.cell_of_block hkR 1
            simp only [List.getElem?_toArray, List.getElem?_cons_zero] at r0
            simp only [List.getElem?_toArray, List.getElem?_cons_zero, List.getElem?_cons_succ] at r1
            clear hkR
            go_wp2_with fail
            refine (HNM.out pn _).mono ?_
            rintro e we ⟨rfl, hb⟩
            have HBe : Hid (Below w.heap.size w we) := HBr.out.trans (hb.mono HBr.out.size)
            have HGe := Lib.hid (HGr.out.below hb HGr.out.lt)
            have HTe := Lib.hid (HTr.out.below hb HTr.out.lt)
            clear hb HBr HGr HTr
            clear r0 r1
            have tlt := HTe.out.lt
            have d0 := HTe.out.c0
            have d1 := HTe.out.c1
            have d2 := HTe.out.c2
            have g0 := HTe.out.f 0
            have g1 := HTe.out.f 1
            have g2 := HTe.out.f 2
            go_upto_region 11 with fail
            clear d0 d1 d2 g0 g1 g2 tlt
            have HTd : Hid (Trio (((we.setCell ⟨B, 0, none⟩ (.int .i64 2)).setCell ⟨B, 1, none⟩ (.int .i64 pn)).setCell ⟨B, 2, none⟩ (.string ⟨#[]⟩)) B 45 (.int .i64 2) (.int .i64 pn) (.string ⟨#[]⟩)) := put3 HTe.out _ _ _
            have HBd : Hid (Below w.heap.size w (((we.setCell ⟨B, 0, none⟩ (.int .i64 2)).setCell ⟨B, 1, none⟩ (.int .i64 pn)).setCell ⟨B, 2, none⟩ (.string ⟨#[]⟩))) := below_put3 HBe.out HBB.out _ _ _
            have HGd : Hid (Six (((we.setCell ⟨B, 0, none⟩ (.int .i64 2)).setCell ⟨B, 1, none⟩ (.int .i64 pn)).setCell ⟨B, 2, none⟩ (.string ⟨#[]⟩)) w.heap.size 54 (.int .i64 0) (.int .i64 0) (.string ⟨#[]⟩) (.slice none 0 0) (.slice none 0 0) (.int .i64 0)) := six_put3 HGe.out HBN.out _ _ _
            clear HTe HBe HGe
            generalize ((we.setCell ⟨B, 0, none⟩ (.int .i64 2)).setCell ⟨B, 1, none⟩ (.int .i64 pn)).setCell ⟨B, 2, none⟩ (.string ⟨#[]⟩) = wd at *
            have HPR : Hid (parsedV s = if vldV ⟨2, pn, []⟩ = true ∧ textV ⟨2, pn, []⟩ = s then (⟨2, pn, []⟩, 0) else (Vl.null, 5)) := by
              have h := parsed_ref s
              rw [HG0.out] at h
              exact h
            have HVL : Hid (∀ W : World, Calls Tryz.prog 31 #[encV ⟨2, pn, []⟩] W fun e w' => e = .returned (.bool (vldV ⟨2, pn, []⟩)) ∧ Below W.heap.size W w') := fun W => rvalid_any _ HOK.out W
            have HTX : Hid (∀ W : World, Calls Tryz.prog 39 #[encV ⟨2, pn, []⟩] W fun e w' => e = .returned (.string (bsOf (textV ⟨2, pn, []⟩))) ∧ Below W.heap.size W w') := fun W => rtextv_any _ HOK.out HOL.out W
            have hst := bs_same (textV ⟨2, pn, []⟩) s
            rw [hS] at hst
            clear HOK HOL HG0
            generalize textV ⟨2, pn, []⟩ = tx at *
            generalize vldV ⟨2, pn, []⟩ = bv at *
            unfold encV at HVL HTX
            dsimp only at HVL HTX
            rw [show bsOf [] = (⟨#[]⟩ : ByteArray) from rfl] at HVL HTX
            have d0 := HTd.out.c0
            have g0 := HTd.out.f 0
            have d1 := HTd.out.c1
            have g1 := HTd.out.f 1
            have d2 := HTd.out.c2
            have g2 := HTd.out.f 2
            have c0 := HGd.out.c0
            have f0 := HGd.out.fz 0
            have c1 := HGd.out.c1
            have f1 := HGd.out.fz 1
            have c2 := HGd.out.c2
            have f2 := HGd.out.fz 2
            have c3 := HGd.out.c3
            have f3 := HGd.out.fz 3
            have c4 := HGd.out.c4
            have f4 := HGd.out.fz 4
            have c5 := HGd.out.c5
            have f5 := HGd.out.fz 5
            have plt := HGd.out.lt
            have tlt := HTd.out.lt
            go_wp2_with fail
            refine (HVL.out _).mono ?_
            rintro e wv ⟨rfl, hb⟩
            clear d0 d1 d2 g0 g1 g2 c0 c1 c2 c3 c4 c5 f0 f1 f2 f3 f4 f5 plt tlt
            have HBv : Hid (Below w.heap.size w wv) := HBd.out.trans (hb.mono HBd.out.size)
            have HGv := Lib.hid (HGd.out.below hb HGd.out.lt)
            have HTv := Lib.hid (HTd.out.below hb HTd.out.lt)
            clear hb HBd HGd HTd
            have d0 := HTv.out.c0
            have g0 := HTv.out.f 0
            have d1 := HTv.out.c1
            have g1 := HTv.out.f 1
            have d2 := HTv.out.c2
            have g2 := HTv.out.f 2
            have c0 := HGv.out.c0
            have f0 := HGv.out.fz 0
            have c1 := HGv.out.c1
            have f1 := HGv.out.fz 1
            have c2 := HGv.out.c2
            have f2 := HGv.out.fz 2
            have c3 := HGv.out.c3
            have f3 := HGv.out.fz 3
            have c4 := HGv.out.c4
            have f4 := HGv.out.fz 4
            have c5 := HGv.out.c5
            have f5 := HGv.out.fz 5
            have plt := HGv.out.lt
            have tlt := HTv.out.lt
            cases bv with
            | false =>
              have HE := Lib.hid (HR.out (Vl.null, 5) (by rw [HPR.out, if_neg (by rintro ⟨h, _⟩; cases h)]))
              clear HPR HR
              go_wp2
              exact bodyPost_ret (v := .agg #[.int .i64 0, .int .i64 0, .string ⟨#[]⟩, .slice none 0 0, .slice none 0 0, .int .i64 5]) (by simp [results, Tryz.results45, go_sem, c0, c1, c2, c3, c4, c5]) rfl ⟨HE.out, below_put6 HBv.out (Nat.le_refl _) _ _ _ _ _ _⟩
            | true =>
              go_wp2_with fail
              refine (HTX.out _).mono ?_
              rintro e wt ⟨rfl, hb⟩
              clear d0 d1 d2 g0 g1 g2 c0 c1 c2 c3 c4 c5 f0 f1 f2 f3 f4 f5 plt tlt
              have HBt : Hid (Below w.heap.size w wt) := HBv.out.trans (hb.mono HBv.out.size)
              have HGt := Lib.hid (HGv.out.below hb HGv.out.lt)
              have HTt := Lib.hid (HTv.out.below hb HTv.out.lt)
              clear hb HBv HGv HTv
              have d0 := HTt.out.c0
              have g0 := HTt.out.f 0
              have d1 := HTt.out.c1
              have g1 := HTt.out.f 1
              have d2 := HTt.out.c2
              have g2 := HTt.out.f 2
              have c0 := HGt.out.c0
              have f0 := HGt.out.fz 0
              have c1 := HGt.out.c1
              have f1 := HGt.out.fz 1
              have c2 := HGt.out.c2
              have f2 := HGt.out.fz 2
              have c3 := HGt.out.c3
              have f3 := HGt.out.fz 3
              have c4 := HGt.out.c4
              have f4 := HGt.out.fz 4
              have c5 := HGt.out.c5
              have f5 := HGt.out.fz 5
              have plt := HGt.out.lt
              have tlt := HTt.out.lt
              by_cases hts : tx = s
              · have HE := Lib.hid (HR.out (⟨2, pn, []⟩, 0) (by rw [HPR.out, if_pos ⟨by first | trivial | rfl, hts⟩]))
                rw [decide_eq_true hts] at hst
                clear HPR HR hts
                go_wp2
                exact bodyPost_ret (v := .agg #[.int .i64 2, .int .i64 pn, .string ⟨#[]⟩, .slice none 0 0, .slice none 0 0, .int .i64 0]) (by simp [results, Tryz.results45, go_sem, c0, c1, c2, c3, c4, c5]) rfl ⟨HE.out, below_put6 HBt.out (Nat.le_refl _) _ _ _ _ _ _⟩
              · have HE := Lib.hid (HR.out (Vl.null, 5) (by rw [HPR.out, if_neg (by rintro ⟨_, h⟩; exact hts h)]))
                rw [decide_eq_false hts] at hst
                clear HPR HR hts
                go_wp2
                exact bodyPost_ret (v := .agg #[.int .i64 0, .int .i64 0, .string ⟨#[]⟩, .slice none 0 0, .slice none 0 0, .int .i64 5]) (by simp [results, Tryz.results45, go_sem, c0, c1, c2, c3, c4, c5]) rfl ⟨HE.out, below_put6 HBt.out (Nat.le_refl _) _ _ _ _ _ _⟩
          · have hsz1 : ¬ (1 : Int) < (S.size : Int) := by omega
            go_enter Tryz.func45, Tryz.ntmps45
            go_wp2_with fail
            refine (HNU.out _).mono ?_
            rintro e w1 ⟨rfl, hb⟩
            have HB1 : Hid (Below w.heap.size w w1) := hb0.trans (hb.mono hb0.size)
            have HG1 := Lib.hid (HG0'.out.below hb HG0'.out.lt)
            have hlt1 : w.heap.size < w1.heap.size := HG1.out.lt
            have hbA : Below w1.heap.size w1 (w1.alloc (.cells #[.int .i64 0, .int .i64 0, .string ⟨#[]⟩] 45)) := (Below.self w1).alloc (Nat.le_refl _) _
            have HTb := Lib.hid (Trio.new w1 45 (.int .i64 0) (.int .i64 0) (.string ⟨#[]⟩))
            have HBb : Hid (Below w.heap.size w (w1.alloc (.cells #[.int .i64 0, .int .i64 0, .string ⟨#[]⟩] 45))) := HB1.out.trans (hbA.mono HB1.out.size)
            have HGb := Lib.hid (HG1.out.below hbA HG1.out.lt)
            obtain ⟨B, hB⟩ : ∃ B, w1.heap.size = B := ⟨_, rfl⟩
            have HBB : Hid (w.heap.size ≤ B) := by show _ ≤ _; omega
            have HBN : Hid (B ≠ w.heap.size) := by show _ ≠ _; omega
            rw [hB] at HTb
            clear hb HB1 HG1 hbA hb0 HG0' hlt1
            go_upto_region 2 with fail
            try rw [hB]
            clear hB
            generalize w1.alloc (.cells #[.int .i64 0, .int .i64 0, .string ⟨#[]⟩] 45) = wb at *
            go_wp2_with fail
            refine (HDP.out _).mono ?_
            rintro e wc ⟨rfl, hb⟩
            have HBc : Hid (Below w.heap.size w wc) := HBb.out.trans (hb.mono HBb.out.size)
            have HGc := Lib.hid (HGb.out.below hb HGb.out.lt)
            have HTc := Lib.hid (HTb.out.below hb HTb.out.lt)
            clear hb HBb HGb HTb
            have hbA : Below wc.heap.size wc (wc.alloc (.cells #[.int .i64 pn, .int .i64 0] 30)) := (Below.self wc).alloc (Nat.le_refl _) _
            have hkR : (wc.alloc (.cells #[.int .i64 pn, .int .i64 0] 30)).heap[wc.heap.size]? = some (.cells #[.int .i64 pn, .int .i64 0] 30 (0, 0)) := World.alloc_heap_new wc _
            have HBr : Hid (Below w.heap.size w (wc.alloc (.cells #[.int .i64 pn, .int .i64 0] 30))) := HBc.out.trans (hbA.mono HBc.out.size)
            have HGr := Lib.hid (HGc.out.below hbA HGc.out.lt)
            have HTr := Lib.hid (HTc.out.below hbA HTc.out.lt)
            go_upto_region 8 with fail
            clear hbA HBc HGc HTc
            generalize wc.alloc (.cells #[.int .i64 pn, .int .i64 0] 30) = wr at *
            generalize wc.heap.size = BR at *
            have r0 := Joins.cell_of_block hkR 0
            have r1 := Joins.cell_of_block hkR 1
            simp only [List.getElem?_toArray, List.getElem?_cons_zero] at r0
            simp only [List.getElem?_toArray, List.getElem?_cons_zero, List.getElem?_cons_succ] at r1
            clear hkR
            go_wp2_with fail
            refine (HNM.out pn _).mono ?_
            rintro e we ⟨rfl, hb⟩
            have HBe : Hid (Below w.heap.size w we) := HBr.out.trans (hb.mono HBr.out.size)
            have HGe := Lib.hid (HGr.out.below hb HGr.out.lt)
            have HTe := Lib.hid (HTr.out.below hb HTr.out.lt)
            clear hb HBr HGr HTr
            clear r0 r1
            have tlt := HTe.out.lt
            have d0 := HTe.out.c0
            have d1 := HTe.out.c1
            have d2 := HTe.out.c2
            have g0 := HTe.out.f 0
            have g1 := HTe.out.f 1
            have g2 := HTe.out.f 2
            go_upto_region 11 with fail
            clear d0 d1 d2 g0 g1 g2 tlt
            have HTd : Hid (Trio (((we.setCell ⟨B, 0, none⟩ (.int .i64 2)).setCell ⟨B, 1, none⟩ (.int .i64 pn)).setCell ⟨B, 2, none⟩ (.string ⟨#[]⟩)) B 45 (.int .i64 2) (.int .i64 pn) (.string ⟨#[]⟩)) := put3 HTe.out _ _ _
            have HBd : Hid (Below w.heap.size w (((we.setCell ⟨B, 0, none⟩ (.int .i64 2)).setCell ⟨B, 1, none⟩ (.int .i64 pn)).setCell ⟨B, 2, none⟩ (.string ⟨#[]⟩))) := below_put3 HBe.out HBB.out _ _ _
            have HGd : Hid (Six (((we.setCell ⟨B, 0, none⟩ (.int .i64 2)).setCell ⟨B, 1, none⟩ (.int .i64 pn)).setCell ⟨B, 2, none⟩ (.string ⟨#[]⟩)) w.heap.size 54 (.int .i64 0) (.int .i64 0) (.string ⟨#[]⟩) (.slice none 0 0) (.slice none 0 0) (.int .i64 0)) := six_put3 HGe.out HBN.out _ _ _
            clear HTe HBe HGe
            generalize ((we.setCell ⟨B, 0, none⟩ (.int .i64 2)).setCell ⟨B, 1, none⟩ (.int .i64 pn)).setCell ⟨B, 2, none⟩ (.string ⟨#[]⟩) = wd at *
            have HPR : Hid (parsedV s = if vldV ⟨2, pn, []⟩ = true ∧ textV ⟨2, pn, []⟩ = s then (⟨2, pn, []⟩, 0) else (Vl.null, 5)) := by
              have h := parsed_ref s
              rw [HG0.out] at h
              exact h
            have HVL : Hid (∀ W : World, Calls Tryz.prog 31 #[encV ⟨2, pn, []⟩] W fun e w' => e = .returned (.bool (vldV ⟨2, pn, []⟩)) ∧ Below W.heap.size W w') := fun W => rvalid_any _ HOK.out W
            have HTX : Hid (∀ W : World, Calls Tryz.prog 39 #[encV ⟨2, pn, []⟩] W fun e w' => e = .returned (.string (bsOf (textV ⟨2, pn, []⟩))) ∧ Below W.heap.size W w') := fun W => rtextv_any _ HOK.out HOL.out W
            have hst := bs_same (textV ⟨2, pn, []⟩) s
            rw [hS] at hst
            clear HOK HOL HG0
            generalize textV ⟨2, pn, []⟩ = tx at *
            generalize vldV ⟨2, pn, []⟩ = bv at *
            unfold encV at HVL HTX
            dsimp only at HVL HTX
            rw [show bsOf [] = (⟨#[]⟩ : ByteArray) from rfl] at HVL HTX
            have d0 := HTd.out.c0
            have g0 := HTd.out.f 0
            have d1 := HTd.out.c1
            have g1 := HTd.out.f 1
            have d2 := HTd.out.c2
            have g2 := HTd.out.f 2
            have c0 := HGd.out.c0
            have f0 := HGd.out.fz 0
            have c1 := HGd.out.c1
            have f1 := HGd.out.fz 1
            have c2 := HGd.out.c2
            have f2 := HGd.out.fz 2
            have c3 := HGd.out.c3
            have f3 := HGd.out.fz 3
            have c4 := HGd.out.c4
            have f4 := HGd.out.fz 4
            have c5 := HGd.out.c5
            have f5 := HGd.out.fz 5
            have plt := HGd.out.lt
            have tlt := HTd.out.lt
            go_wp2_with fail
            refine (HVL.out _).mono ?_
            rintro e wv ⟨rfl, hb⟩
            clear d0 d1 d2 g0 g1 g2 c0 c1 c2 c3 c4 c5 f0 f1 f2 f3 f4 f5 plt tlt
            have HBv : Hid (Below w.heap.size w wv) := HBd.out.trans (hb.mono HBd.out.size)
            have HGv := Lib.hid (HGd.out.below hb HGd.out.lt)
            have HTv := Lib.hid (HTd.out.below hb HTd.out.lt)
            clear hb HBd HGd HTd
            have d0 := HTv.out.c0
            have g0 := HTv.out.f 0
            have d1 := HTv.out.c1
            have g1 := HTv.out.f 1
            have d2 := HTv.out.c2
            have g2 := HTv.out.f 2
            have c0 := HGv.out.c0
            have f0 := HGv.out.fz 0
            have c1 := HGv.out.c1
            have f1 := HGv.out.fz 1
            have c2 := HGv.out.c2
            have f2 := HGv.out.fz 2
            have c3 := HGv.out.c3
            have f3 := HGv.out.fz 3
            have c4 := HGv.out.c4
            have f4 := HGv.out.fz 4
            have c5 := HGv.out.c5
            have f5 := HGv.out.fz 5
            have plt := HGv.out.lt
            have tlt := HTv.out.lt
            cases bv with
            | false =>
              have HE := Lib.hid (HR.out (Vl.null, 5) (by rw [HPR.out, if_neg (by rintro ⟨h, _⟩; cases h)]))
              clear HPR HR
              go_wp2
              exact bodyPost_ret (v := .agg #[.int .i64 0, .int .i64 0, .string ⟨#[]⟩, .slice none 0 0, .slice none 0 0, .int .i64 5]) (by simp [results, Tryz.results45, go_sem, c0, c1, c2, c3, c4, c5]) rfl ⟨HE.out, below_put6 HBv.out (Nat.le_refl _) _ _ _ _ _ _⟩
            | true =>
              go_wp2_with fail
              refine (HTX.out _).mono ?_
              rintro e wt ⟨rfl, hb⟩
              clear d0 d1 d2 g0 g1 g2 c0 c1 c2 c3 c4 c5 f0 f1 f2 f3 f4 f5 plt tlt
              have HBt : Hid (Below w.heap.size w wt) := HBv.out.trans (hb.mono HBv.out.size)
              have HGt := Lib.hid (HGv.out.below hb HGv.out.lt)
              have HTt := Lib.hid (HTv.out.below hb HTv.out.lt)
              clear hb HBv HGv HTv
              have d0 := HTt.out.c0
              have g0 := HTt.out.f 0
              have d1 := HTt.out.c1
              have g1 := HTt.out.f 1
              have d2 := HTt.out.c2
              have g2 := HTt.out.f 2
              have c0 := HGt.out.c0
              have f0 := HGt.out.fz 0
              have c1 := HGt.out.c1
              have f1 := HGt.out.fz 1
              have c2 := HGt.out.c2
              have f2 := HGt.out.fz 2
              have c3 := HGt.out.c3
              have f3 := HGt.out.fz 3
              have c4 := HGt.out.c4
              have f4 := HGt.out.fz 4
              have c5 := HGt.out.c5
              have f5 := HGt.out.fz 5
              have plt := HGt.out.lt
              have tlt := HTt.out.lt
              by_cases hts : tx = s
              · have HE := Lib.hid (HR.out (⟨2, pn, []⟩, 0) (by rw [HPR.out, if_pos ⟨by first | trivial | rfl, hts⟩]))
                rw [decide_eq_true hts] at hst
                clear HPR HR hts
                go_wp2
                exact bodyPost_ret (v := .agg #[.int .i64 2, .int .i64 pn, .string ⟨#[]⟩, .slice none 0 0, .slice none 0 0, .int .i64 0]) (by simp [results, Tryz.results45, go_sem, c0, c1, c2, c3, c4, c5]) rfl ⟨HE.out, below_put6 HBt.out (Nat.le_refl _) _ _ _ _ _ _⟩
              · have HE := Lib.hid (HR.out (Vl.null, 5) (by rw [HPR.out, if_neg (by rintro ⟨_, h⟩; exact hts h)]))
                rw [decide_eq_false hts] at hst
                clear HPR HR hts
                go_wp2
                exact bodyPost_ret (v := .agg #[.int .i64 0, .int .i64 0, .string ⟨#[]⟩, .slice none 0 0, .slice none 0 0, .int .i64 5]) (by simp [results, Tryz.results45, go_sem, c0, c1, c2, c3, c4, c5]) rfl ⟨HE.out, below_put6 HBt.out (Nat.le_refl _) _ _ _ _ _ _⟩
        · have HE : Hid (Ending.returned (.agg #[.int .i64 0, .int .i64 0, .string ⟨#[]⟩, .slice none 0 0, .slice none 0 0, .int .i64 5]) = .returned (encG (parsedV s).1 (.slice none 0 0) (.slice none 0 0) (parsedV s).2)) := HR.out (Vl.null, 5) (by
            have h := parsed_ref s
            rw [HREF.out, if_neg hA, if_neg hQ, if_neg hN, if_neg hpe] at h
            exact h)
          have hpeB : (pe == 0) = false := by simpa using hpe
          have hpeN : (pe != 0) = true := by simpa using hpe
          clear hN hQ HREF HUQ HI hrl hdl HST HBO HR hpe
          by_cases hl1 : 1 < S.size
          · have hsz1 : (1 : Int) < (S.size : Int) := by omega
            obtain ⟨c34, ⟨hsz0, hx0⟩, e34⟩ := HQ4.out hl1
            go_enter Tryz.func45, Tryz.ntmps45
            go_wp2_with fail
            refine (HNU.out _).mono ?_
            rintro e w1 ⟨rfl, hb⟩
            have HB1 : Hid (Below w.heap.size w w1) := hb0.trans (hb.mono hb0.size)
            have HG1 := Lib.hid (HG0'.out.below hb HG0'.out.lt)
            have hlt1 : w.heap.size < w1.heap.size := HG1.out.lt
            have hbA : Below w1.heap.size w1 (w1.alloc (.cells #[.int .i64 0, .int .i64 0, .string ⟨#[]⟩] 45)) := (Below.self w1).alloc (Nat.le_refl _) _
            have HTb := Lib.hid (Trio.new w1 45 (.int .i64 0) (.int .i64 0) (.string ⟨#[]⟩))
            have HBb : Hid (Below w.heap.size w (w1.alloc (.cells #[.int .i64 0, .int .i64 0, .string ⟨#[]⟩] 45))) := HB1.out.trans (hbA.mono HB1.out.size)
            have HGb := Lib.hid (HG1.out.below hbA HG1.out.lt)
            obtain ⟨B, hB⟩ : ∃ B, w1.heap.size = B := ⟨_, rfl⟩
            have HBB : Hid (w.heap.size ≤ B) := by show _ ≤ _; omega
            have HBN : Hid (B ≠ w.heap.size) := by show _ ≠ _; omega
            rw [hB] at HTb
            clear hb HB1 HG1 hbA hb0 HG0' hlt1
            go_upto_region 2 with fail
            try rw [hB]
            clear hB
            generalize w1.alloc (.cells #[.int .i64 0, .int .i64 0, .string ⟨#[]⟩] 45) = wb at *
            go_wp2_with fail
            refine (HDP.out _).mono ?_
            rintro e wc ⟨rfl, hb⟩
            have HBc : Hid (Below w.heap.size w wc) := HBb.out.trans (hb.mono HBb.out.size)
            have HGc := Lib.hid (HGb.out.below hb HGb.out.lt)
            have HTc := Lib.hid (HTb.out.below hb HTb.out.lt)
            clear hb HBb HGb HTb
            have hbA : Below wc.heap.size wc (wc.alloc (.cells #[.int .i64 pn, .int .i64 pe] 30)) := (Below.self wc).alloc (Nat.le_refl _) _
            have hkR : (wc.alloc (.cells #[.int .i64 pn, .int .i64 pe] 30)).heap[wc.heap.size]? = some (.cells #[.int .i64 pn, .int .i64 pe] 30 (0, 0)) := World.alloc_heap_new wc _
            have HBr : Hid (Below w.heap.size w (wc.alloc (.cells #[.int .i64 pn, .int .i64 pe] 30))) := HBc.out.trans (hbA.mono HBc.out.size)
            have HGr := Lib.hid (HGc.out.below hbA HGc.out.lt)
            have HTr := Lib.hid (HTc.out.below hbA HTc.out.lt)
            go_upto_region 8 with fail
            clear hbA HBc HGc HTc
            generalize wc.alloc (.cells #[.int .i64 pn, .int .i64 pe] 30) = wr at *
            generalize wc.heap.size = BR at *
            have r0 := Joins.cell_of_block hkR 0
            have r1 := Joins.cell_of_block hkR 1
            simp only [List.getElem?_toArray, List.getElem?_cons_zero] at r0
            simp only [List.getElem?_toArray, List.getElem?_cons_zero, List.getElem?_cons_succ] at r1
            clear hkR
            have d0 := HTr.out.c0
            have g0 := HTr.out.f 0
            have d1 := HTr.out.c1
            have g1 := HTr.out.f 1
            have d2 := HTr.out.c2
            have g2 := HTr.out.f 2
            have c0 := HGr.out.c0
            have f0 := HGr.out.fz 0
            have c1 := HGr.out.c1
            have f1 := HGr.out.fz 1
            have c2 := HGr.out.c2
            have f2 := HGr.out.fz 2
            have c3 := HGr.out.c3
            have f3 := HGr.out.fz 3
            have c4 := HGr.out.c4
            have f4 := HGr.out.fz 4
            have c5 := HGr.out.c5
            have f5 := HGr.out.fz 5
            have plt := HGr.out.lt
            have tlt := HTr.out.lt
            go_wp2
            exact bodyPost_ret (v := .agg #[.int .i64 0, .int .i64 0, .string ⟨#[]⟩, .slice none 0 0, .slice none 0 0, .int .i64 5]) (by simp [results, Tryz.results45, go_sem, c0, c1, c2, c3, c4, c5]) rfl ⟨HE.out, below_put6 HBr.out (Nat.le_refl _) _ _ _ _ _ _⟩
          · have hsz1 : ¬ (1 : Int) < (S.size : Int) := by omega
            go_enter Tryz.func45, Tryz.ntmps45
            go_wp2_with fail
            refine (HNU.out _).mono ?_
            rintro e w1 ⟨rfl, hb⟩
            have HB1 : Hid (Below w.heap.size w w1) := hb0.trans (hb.mono hb0.size)
            have HG1 := Lib.hid (HG0'.out.below hb HG0'.out.lt)
            have hlt1 : w.heap.size < w1.heap.size := HG1.out.lt
            have hbA : Below w1.heap.size w1 (w1.alloc (.cells #[.int .i64 0, .int .i64 0, .string ⟨#[]⟩] 45)) := (Below.self w1).alloc (Nat.le_refl _) _
            have HTb := Lib.hid (Trio.new w1 45 (.int .i64 0) (.int .i64 0) (.string ⟨#[]⟩))
            have HBb : Hid (Below w.heap.size w (w1.alloc (.cells #[.int .i64 0, .int .i64 0, .string ⟨#[]⟩] 45))) := HB1.out.trans (hbA.mono HB1.out.size)
            have HGb := Lib.hid (HG1.out.below hbA HG1.out.lt)
            obtain ⟨B, hB⟩ : ∃ B, w1.heap.size = B := ⟨_, rfl⟩
            have HBB : Hid (w.heap.size ≤ B) := by show _ ≤ _; omega
            have HBN : Hid (B ≠ w.heap.size) := by show _ ≠ _; omega
            rw [hB] at HTb
            clear hb HB1 HG1 hbA hb0 HG0' hlt1
            go_upto_region 2 with fail
            try rw [hB]
            clear hB
            generalize w1.alloc (.cells #[.int .i64 0, .int .i64 0, .string ⟨#[]⟩] 45) = wb at *
            go_wp2_with fail
            refine (HDP.out _).mono ?_
            rintro e wc ⟨rfl, hb⟩
            have HBc : Hid (Below w.heap.size w wc) := HBb.out.trans (hb.mono HBb.out.size)
            have HGc := Lib.hid (HGb.out.below hb HGb.out.lt)
            have HTc := Lib.hid (HTb.out.below hb HTb.out.lt)
            clear hb HBb HGb HTb
            have hbA : Below wc.heap.size wc (wc.alloc (.cells #[.int .i64 pn, .int .i64 pe] 30)) := (Below.self wc).alloc (Nat.le_refl _) _
            have hkR : (wc.alloc (.cells #[.int .i64 pn, .int .i64 pe] 30)).heap[wc.heap.size]? = some (.cells #[.int .i64 pn, .int .i64 pe] 30 (0, 0)) := World.alloc_heap_new wc _
            have HBr : Hid (Below w.heap.size w (wc.alloc (.cells #[.int .i64 pn, .int .i64 pe] 30))) := HBc.out.trans (hbA.mono HBc.out.size)
            have HGr := Lib.hid (HGc.out.below hbA HGc.out.lt)
            have HTr := Lib.hid (HTc.out.below hbA HTc.out.lt)
            go_upto_region 8 with fail
            clear hbA HBc HGc HTc
            generalize wc.alloc (.cells #[.int .i64 pn, .int .i64 pe] 30) = wr at *
            generalize wc.heap.size = BR at *
            have r0 := Joins.cell_of_block hkR 0
            have r1 := Joins.cell_of_block hkR 1
            simp only [List.getElem?_toArray, List.getElem?_cons_zero] at r0
            simp only [List.getElem?_toArray, List.getElem?_cons_zero, List.getElem?_cons_succ] at r1
            clear hkR
            have d0 := HTr.out.c0
            have g0 := HTr.out.f 0
            have d1 := HTr.out.c1
            have g1 := HTr.out.f 1
            have d2 := HTr.out.c2
            have g2 := HTr.out.f 2
            have c0 := HGr.out.c0
            have f0 := HGr.out.fz 0
            have c1 := HGr.out.c1
            have f1 := HGr.out.fz 1
            have c2 := HGr.out.c2
            have f2 := HGr.out.fz 2
            have c3 := HGr.out.c3
            have f3 := HGr.out.fz 3
            have c4 := HGr.out.c4
            have f4 := HGr.out.fz 4
            have c5 := HGr.out.c5
            have f5 := HGr.out.fz 5
            have plt := HGr.out.lt
            have tlt := HTr.out.lt
            go_wp2
            exact bodyPost_ret (v := .agg #[.int .i64 0, .int .i64 0, .string ⟨#[]⟩, .slice none 0 0, .slice none 0 0, .int .i64 5]) (by simp [results, Tryz.results45, go_sem, c0, c1, c2, c3, c4, c5]) rfl ⟨HE.out, below_put6 HBr.out (Nat.le_refl _) _ _ _ _ _ _⟩

end Go.Proofs.YtocnkjnlmciojaaGreatDoor
