/-
  The four forms, as one value.
-/
import Derived.Test.YtmbcppkdnoccbaaRnForms
namespace Go.Proofs.Ytmbcppkdnoccbaa
open Go.RowKit Go.Shelf Go.ChangeShapes Go.WideShapes Go.ChangeAt

theorem Pair.far {W : World} {B b : Nat} {t : TypeId} {x y : Value} (h : Pair W B t x y) (hne : B ≠ b) (o : Nat) (v : Value) : Pair (W.setCell ⟨b, o, none⟩ v) B t x y := (Below.heap_setCell _ _ _ _ hne).trans h

set_option maxRecDepth 100000 in
set_option maxHeartbeats 40000000 in
theorem forms_any (w : World) : Calls Try.prog 52 #[] w (FormsPost w) := by
  go_enter Try.func52, Try.ntmps52
  go_wp2
  have hFM : FM w (w.heap.size + 1) (((w.alloc (.cells #[.nilFunc, .nilFunc, .nilFunc, .nilFunc, .nilFunc, .nilFunc, .nilFunc, .nilFunc] 85)).alloc (.cells #[.func (.func 74) #[] #[], .func (.func 75) #[] #[]] 84)).alloc (.cells #[.func (.func 76) #[] #[], .func (.func 77) #[] #[]] 84)) := by
    have h1 := (Pair.new (w.alloc (.cells #[.nilFunc, .nilFunc, .nilFunc, .nilFunc, .nilFunc, .nilFunc, .nilFunc, .nilFunc] 85)) 84 (.func (.func 74) #[] #[]) (.func (.func 75) #[] #[])).alloc (.cells #[.func (.func 76) #[] #[], .func (.func 77) #[] #[]] 84)
    have h2 := Pair.new ((w.alloc (.cells #[.nilFunc, .nilFunc, .nilFunc, .nilFunc, .nilFunc, .nilFunc, .nilFunc, .nilFunc] 85)).alloc (.cells #[.func (.func 74) #[] #[], .func (.func 75) #[] #[]] 84)) 84 (.func (.func 76) #[] #[]) (.func (.func 77) #[] #[])
    simp only [World.size_alloc] at h1 h2
    exact ⟨h1, h2, (((Below.refl _ _).alloc (Nat.le_refl _) _).alloc (by simp) _).alloc (by simp; omega) _⟩
  have h8 : (((w.alloc (.cells #[.nilFunc, .nilFunc, .nilFunc, .nilFunc, .nilFunc, .nilFunc, .nilFunc, .nilFunc] 85)).alloc (.cells #[.func (.func 74) #[] #[], .func (.func 75) #[] #[]] 84)).alloc (.cells #[.func (.func 76) #[] #[], .func (.func 77) #[] #[]] 84)).heap[w.heap.size]? = some (.cells #[.nilFunc, .nilFunc, .nilFunc, .nilFunc, .nilFunc, .nilFunc, .nilFunc, .nilFunc] 85 (0, 0)) := by
    rw [Below.heap_alloc _ _ _ (by simp; omega), Below.heap_alloc _ _ _ (by simp), World.alloc_heap_new]
  have HF := Lib.hid hFM
  have H8 := Lib.hid h8
  have c0 := hFM.p.c0
  have c1 := hFM.p.c1
  have c2 := hFM.q.c0
  have c3 := hFM.q.c1
  clear hFM h8
  generalize ((w.alloc (.cells #[.nilFunc, .nilFunc, .nilFunc, .nilFunc, .nilFunc, .nilFunc, .nilFunc, .nilFunc] 85)).alloc (.cells #[.func (.func 74) #[] #[], .func (.func 75) #[] #[]] 84)).alloc (.cells #[.func (.func 76) #[] #[], .func (.func 77) #[] #[]] 84) = W0 at *
  go_region_law (first
    | (refine step_call_some (by go_simp) 78 #[.tmp 7] #[84] (by rfl) #[.agg #[(.func (.func 74) #[] #[]), (.func (.func 75) #[] #[])]] (by go_simp) (enters_of Try.func78 (by kernel_rfl) rfl _ _) _ (ofd_some (.func (.func 74) #[] #[]) (.func (.func 75) #[] #[]) _) ?_; rintro v V ⟨⟨bp, rfl, hbp, hpp⟩, hb⟩; have nbp : Hid (bp ≠ w.heap.size) := Nat.ne_of_gt (Nat.lt_of_lt_of_le (Array.getElem?_eq_some_iff.1 H8.out).1 hbp); have HF := Lib.hid (show FM w _ V from (by first | exact HF.out.later hb | exact HF.out.drew.later hb)); have H8 := Lib.hid (show V.heap[w.heap.size]? = some (.cells #[.nilFunc, .nilFunc, .nilFunc, .nilFunc, .nilFunc, .nilFunc, .nilFunc, .nilFunc] 85 (0, 0)) from (hb.block _ (Array.getElem?_eq_some_iff.1 H8.out).1).trans H8.out); have c0 := HF.out.p.c0; have c1 := HF.out.p.c1; have c2 := HF.out.q.c0; have c3 := HF.out.q.c1; have HPP := Lib.hid hpp; clear hpp hb)
    | (refine step_call_some (by go_simp) 78 #[.tmp 9] #[84] (by rfl) #[.agg #[(.func (.func 76) #[] #[]), (.func (.func 77) #[] #[])]] (by go_simp) (enters_of Try.func78 (by kernel_rfl) rfl _ _) _ (ofd_some (.func (.func 76) #[] #[]) (.func (.func 77) #[] #[]) _) ?_; rintro v V ⟨⟨bq, rfl, hbq, hpq⟩, hb⟩; have nbq : Hid (bq ≠ w.heap.size) := Nat.ne_of_gt (Nat.lt_of_lt_of_le (Array.getElem?_eq_some_iff.1 H8.out).1 hbq); have HF := Lib.hid (show FM w _ V from (by first | exact HF.out.later hb | exact HF.out.drew.later hb)); have H8 := Lib.hid (show V.heap[w.heap.size]? = some (.cells #[.nilFunc, .nilFunc, .nilFunc, .nilFunc, .nilFunc, .nilFunc, .nilFunc, .nilFunc] 85 (0, 0)) from (hb.block _ (Array.getElem?_eq_some_iff.1 H8.out).1).trans H8.out); have c0 := HF.out.p.c0; have c1 := HF.out.p.c1; have c2 := HF.out.q.c0; have c3 := HF.out.q.c1; have HPQ := Lib.hid hpq; have HPP := Lib.hid (show Pair V bp _ _ _ from (hb.block _ HPP.out.lt).trans HPP.out); obtain ⟨⟨e0, e1, e2, e3, e4, e5, e6, e7⟩, ef⟩ := eight H8.out; have ef0 := ef 0; have ef1 := ef 1; have ef2 := ef 2; have ef3 := ef 3; have ef4 := ef 4; have ef5 := ef 5; have ef6 := ef 6; have ef7 := ef 7; have elt : w.heap.size < V.heap.size := (Array.getElem?_eq_some_iff.1 H8.out).1; clear hpq hb ef)
    | (trace_state; fail "STOP"))
  all_goals
    have hn1 := nbp.out
    have hn2 := nbq.out
    go_wp2
    refine bodyPost_ret (v := formsV bp bq) (by simp [results, Try.results52, go_sem, formsV, e0, e1, e2, e3, e4, e5, e6, e7]) rfl ⟨bp, bq, rfl, ?_, ?_, ?_⟩
    · exact ((((((((HPP.out.far hn1 _ _).far hn1 _ _).far hn1 _ _).far hn1 _ _).far hn1 _ _).far hn1 _ _).far hn1 _ _).far hn1 _ _)
    · exact ((((((((HPQ.out.far hn2 _ _).far hn2 _ _).far hn2 _ _).far hn2 _ _).far hn2 _ _).far hn2 _ _).far hn2 _ _).far hn2 _ _)
    · exact ((((((((HF.out.b.setCell (Nat.le_refl _) _).setCell (Nat.le_refl _) _).setCell (Nat.le_refl _) _).setCell (Nat.le_refl _) _).setCell (Nat.le_refl _) _).setCell (Nat.le_refl _) _).setCell (Nat.le_refl _) _).setCell (Nat.le_refl _) _)

end Go.Proofs.Ytmbcppkdnoccbaa
