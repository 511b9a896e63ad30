/-
  A source of blanks.
-/
import Derived.Test.YtohobiglnebocaaLxRefG
namespace Go.Proofs.Ytohobiglnebocaa.Lx
open Go Go.RowKit Go.Shelf Go.Sort Go.ChangeShapes Go.WideShapes Go.ChangeAt
open Go.Proofs.Ytohobiglnebocaa

theorem ws_blanks : ∀ n, ws (List.replicate n 32) = n
  | 0 => rfl
  | n + 1 => by
    show wsN false (32 :: List.replicate n 32) = _
    rw [wsN, if_pos (by decide), show wsN false (List.replicate n 32) = n from ws_blanks n]
    omega
theorem lex_blanks {n : Nat} (h : n ≤ 20000) : lexS (List.replicate n 32) = ([], 0, 0) := by
  refine lexS_good (by rw [List.length_replicate]; exact h) ?_
  show lxX ((List.replicate n 32).drop (ws (List.replicate n 32))) (0 + ws (List.replicate n 32)) = _
  rw [ws_blanks, List.drop_eq_nil_of_le (by rw [List.length_replicate]; exact Nat.le_refl _), x_nil]
theorem lex_more : lexS (List.replicate 20000 32 ++ [32]) = ([], 0, 2) :=
  lex_big (by rw [List.length_append, List.length_replicate]; decide)

end Go.Proofs.Ytohobiglnebocaa.Lx
