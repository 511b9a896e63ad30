/-
  The different strings of a list, in increasing order.
-/
import Derived.Test.YtdcapmbgnoahpaaDcBase
import Derived.Test.YtdcapmbgnoahpaaShelf
import Derived.Sort.OwnSorted
import Derived.Sort.Grow
import Derived.Lib.OwnBridge
import Derived.Lib.RowBridge
namespace Go.Proofs.Ytdcapmbgnoahpaa
open Go Go.RowKit Go.Shelf Go.Sort Go.ChangeShapes Go.WideShapes Go.ChangeAt

/-- What comes of it: a row of the call's own, or nothing. -/
def OfPost (W : World) (ds : List (List UInt8)) (e : Ending) (W' : World) : Prop :=
  ∃ a n c, e = .returned (.slice a n c) ∧ RdS (fun b => W.heap.size ≤ b) W' a n c ds ∧ Below W.heap.size W W'

theorem RdS.of_row {A : World} {base : Nat} {e : TypeId} {g len cap : Nat} {ss : List (List UInt8)} (hl : len = ss.length) (hm : len ≤ 8796093021952) (hw : ∀ s ∈ ss, s.length ≤ maxLen)
    (hr : A.ownsRow base e 1 (.slice (some ⟨g, 0, none⟩) len cap) len (ss.map encStr)) : RdS (fun b => base ≤ b) A (some ⟨g, 0, none⟩) len cap ss := by
  obtain ⟨cur, hg, h1, h2, h3, h4, h5, h6⟩ := row_block hr
  refine ⟨hl, h1, by unfold maxLen at h2; omega, hm, hw, fun _ => ⟨g, 0, rfl, h5, (Array.getElem?_eq_some_iff.1 hg).1, fun j hj => ?_⟩⟩
  have e2 : cur.toList[j]? = some (.string (bsOf (ss[j]?.getD []))) := by
    have e3 : (cur.toList.take len)[j]? = some (encStr (ss[j]?.getD [])) := by
      rw [h4, List.getElem?_map, List.getElem?_eq_getElem (by omega)]; rfl
    rw [List.getElem?_take_of_lt hj] at e3
    exact e3
  rw [Array.getElem?_toList] at e2
  simp [World.cell?, hg, e2]

theorem of_left {w w1 : World} {g cap n nn q : Nat} {os : Array Obj} {ss : List (List UInt8)} (hown : w1.ownsRow w.heap.size 9 1 (.slice (some ⟨g, 0, none⟩) n cap) n (ss.map encStr)) (hbel : Below w.heap.size w w1) (hbg : w.heap.size ≤ g) (hlen : ss.length = n)
    (hm : n ≤ 8796093021952) (hw : ∀ s ∈ ss, s.length ≤ maxLen) :
    OfPost w (ofS ss) (.returned (.slice (some ⟨g, 0, none⟩) (ofS ss).length cap))
      (putRow encStr (Sort.ahead (grow (putRow encStr (Sort.ahead w1 nn) g 0 (ss.mergeSort fun x y => decide (x ≤ y)).toArray) os) q) g 0 (ofS ss ++ List.replicate (n - (ofS ss).length) []).toArray) := by
  have hl2 : (ss.mergeSort fun x y => decide (x ≤ y)).length = ss.length := List.length_mergeSort ss
  have hle : (ofS ss).length ≤ ss.length := of_len ss
  subst hlen
  rcases hown.2 with ⟨h0, _⟩ | ⟨g', cap', cur, hv, hbase, hb, h1, h2, h3, h4⟩
  · cases h0
  cases hv
  have hs := ownsRow_sorted (n := nn) (os := os) (ts := ss.mergeSort fun x y => decide (x ≤ y)) hl2 hbase hb h1 h2 h3
  have hc := Lib.ownsRow_putRow (q := q) (k := (ofS ss).length) (ys := ofS ss ++ List.replicate (ss.length - (ofS ss).length) []) hs (by simp; omega) (by omega)
  rw [List.take_left] at hc
  exact ⟨some ⟨g, 0, none⟩, _, cap, rfl, RdS.of_row rfl (by omega) (fun s hs => hw s ((mem_of ss s).1 hs)) hc, Lib.below_putRow (hbel.grown (grownBy_sorted _) hbel.size (fun j hj => by cases hj; exact hbase)) hbg⟩

set_option maxHeartbeats 2000000 in
set_option maxRecDepth 100000 in
theorem of_tail (n : Nat) (arg : Value) (ss : List (List UInt8)) (w : World) (hn : n ≤ 8796093021952) (hw : ∀ s ∈ ss, s.length ≤ maxLen)
    (hclone : Calls Try.prog 47 #[arg] w fun e w' => ∃ v', e = .returned v' ∧ w'.ownsRow w.heap.size 9 1 v' n (ss.map encStr) ∧ v' ≠ .slice none 0 0 ∧ Below w.heap.size w w') :
    Calls Try.prog 21 #[arg] w (OfPost w (ofS ss)) := by
  have HW := Lib.hid hw
  clear hw
  go_enter Try.func21, Try.ntmps21
  go_wp2_with fail
  refine hclone.mono ?_
  rintro e w1 ⟨v1, rfl, hown, hnn, hbel⟩
  obtain ⟨g, cap, rfl, hbg, hgl, hncap, hcm, hlen, hH⟩ := Lib.holds_of_ownsRow hown hnn
  have HSORT := Lib.hid (Try.slices_Sort_string g 0 cap ss w1 hH hgl (by omega))
  have HLEN := Lib.hid hlen
  have HOWN := Lib.hid hown
  have HBEL := Lib.hid hbel
  have HH := Lib.hid hH
  rw [hlen] at HSORT
  clear hclone hown hbel hH hnn hlen
  go_wp2_with fail
  refine HSORT.out.mono ?_
  rintro e w2 ⟨rfl, nn, os, rfl⟩
  have hl2 : (ss.mergeSort fun x y => decide (x ≤ y)).length = n := by rw [List.length_mergeSort]; exact HLEN.out
  have hH2 : Holds encStr (grow (putRow encStr (Sort.ahead w1 nn) g 0 (ss.mergeSort fun x y => decide (x ≤ y)).toArray) os) g 0 (ss.mergeSort fun x y => decide (x ≤ y)).toArray :=
    holds_grow encStr _ os g 0 _ (by simpa [putRow, mapBlock, Sort.ahead] using hgl) (holds_putRow encStr _ g 0 _ _ (holds_ahead encStr w1 nn g 0 _ HH.out) (by simp))
  have hcomp := Try.slices_Compact_string g 0 cap (ss.mergeSort fun x y => decide (x ≤ y)) _ hH2 (by omega) (by omega)
  rw [hl2] at hcomp
  have HCOMP := Lib.hid hcomp
  clear hH2 hcomp hl2
  go_wp2_with fail
  refine HCOMP.out.mono ?_
  rintro e w3 ⟨rfl, q, rfl⟩
  go_wp2
  go_ret
  exact of_left HOWN.out HBEL.out hbg HLEN.out hn HW.out

set_option maxHeartbeats 2000000 in
theorem of_nil (n c : Nat) (w : World) : Calls Try.prog 21 #[.slice none n c] w fun e w' => e = .returned (.slice none 0 0) ∧ w' = w := by
  go_enter Try.func21, Try.ntmps21
  go_wp2_with fail
  refine (Try.slices_Clone_string_nil n c _).mono ?_
  rintro e w' ⟨rfl, rfl⟩
  go_wp2_with fail
  refine (Try.slices_Sort_string_none none 0 _).mono ?_
  rintro e w' ⟨rfl, rfl⟩
  go_wp2_with fail
  refine (Try.slices_Compact_string_empty none 0 _).mono ?_
  rintro e w' ⟨rfl, rfl⟩
  go_wp2
  go_ret
  exact ⟨rfl, rfl⟩

theorem of_any {K : Nat → Prop} {a : Option Addr} {len cap : Nat} {ss : List (List UInt8)} {W : World} (hR : RdS K W a len cap ss) :
    Calls Try.prog 21 #[.slice a len cap] W (OfPost W (ofS ss)) := by
  by_cases h0 : 0 < len
  · obtain ⟨b, off, rfl, _, hb, hc⟩ := hR.cells h0
    have hl := hR.hl
    have hsm := hR.small
    refine of_tail len _ ss W hsm hR.wide ((Try.slices_Clone_string b off len cap (ss.map bsOf) W (by simp; omega) (by omega) (fun j hj => ?_)).mono fun e w' ⟨v', he, hown, hnn, hbel⟩ => ⟨v', he, ?_, hnn, hbel⟩)
    · have hj' : j < ss.length := by simpa using hj
      rw [hc j (by omega)]
      congr 2
      rw [List.getD_eq_getElem?_getD, List.getElem?_map, List.getElem?_eq_getElem hj']; rfl
    · have e1 : ((ss.map bsOf).take len).map Value.string = ss.map encStr := by
        rw [List.take_of_length_le (by simp; omega), List.map_map]; rfl
      rw [e1] at hown
      exact hown
  · obtain rfl : len = 0 := by omega
    obtain rfl : ss = [] := List.eq_nil_of_length_eq_zero hR.hl.symm
    have e0 : ofS [] = [] := List.eq_nil_of_length_eq_zero (Nat.le_zero.1 (of_len []))
    cases a with
    | none =>
      rw [e0]
      exact (of_nil 0 cap W).mono fun e w' ⟨he, hw⟩ => by subst hw; exact ⟨none, 0, 0, he, RdS.empty, Below.refl _ _⟩
    | some a =>
      exact of_tail 0 _ [] W (by omega) (fun s hs => by cases hs) (Try.slices_Clone_string_zero a cap W)

end Go.Proofs.Ytdcapmbgnoahpaa
