/-
  What is ahead of an error offset is well-formed; a blank ahead shifts it: the walk.
-/
import Derived.Test.YtohobiglnebocaaLxEx
import Derived.Test.YtohobiglnebocaaLxRun
namespace Go.Proofs.Ytohobiglnebocaa.lexerErrors
open Go Go.RowKit Go.Shelf Go.Sort Go.ChangeShapes Go.WideShapes Go.ChangeAt
open Go.Proofs.Ytohobiglnebocaa Go.Proofs.Ytohobiglnebocaa.Lx

theorem bs_cons (b : UInt8) (s : List UInt8) : (⟨#[b]⟩ : ByteArray) ++ bsOf s = bsOf (b :: s) := by
  apply ByteArray.ext
  rw [ByteArray.data_append]
  show #[b] ++ s.toArray = (b :: s).toArray
  simp
theorem lex_ok {s : List UInt8} (h : s.length ≤ 20000) (h2 : (lxY s 0).2.2 = true) : lexS s = ((lxY s 0).1, 0, 0) := by
  unfold lexS
  rw [if_neg (by omega), lxS_eq, y_yes h2]; rfl
theorem lex_err {s : List UInt8} (h : s.length ≤ 20000) (h2 : (lxY s 0).2.2 = false) : lexS s = ([], (lxY s 0).2.1, 5) := by
  unfold lexS
  rw [if_neg (by omega), lxS_eq, y_no h2]; rfl
theorem lex_shift {s : List UInt8} (h : s.length ≤ 19999) (h2 : (lxY s 0).2.2 = false) : lexS (32 :: s) = ([], (lxY s 0).2.1 + 1, 5) := by
  have e : lxY (32 :: s) 0 = ([], (lxY s 0).2.1 + 1, false) := by
    rw [y_blank, y_shift, shR, if_neg (by rw [h2]; decide)]
  rw [lex_err (by simp; omega) (by rw [e]), e]
theorem lex_ahead {s : List UInt8} (h : s.length ≤ 20000) (h2 : (lxY s 0).2.2 = false) : (lxY s 0).2.1 < s.length ∧ ∃ ts, lexS (s.take (lxY s 0).2.1) = (ts, 0, 0) := by
  obtain ⟨_, h3, h4⟩ := y_ahead s.length s 0 (Nat.le_refl _) h2
  exact ⟨by omega, _, lex_ok (by rw [List.length_take]; omega) h4⟩

end Go.Proofs.Ytohobiglnebocaa.lexerErrors
