/-
  The codes of single integers: zigzag.
-/
import Derived.Test.YtkfmgiacdlkmiaaPkCodes
namespace Go.Proofs.Ytkfmgiacdlkmiaa
open Go.RowKit Go.Shelf Go.ChangeShapes Go.WideShapes Go.ChangeAt

theorem zigzag_any (n : Int) (hn : I64 n) (w : World) :
    Calls Try.prog 58 #[.int .i64 n] w fun e w' => e = .returned (.int .u64 (zz n)) ∧ w = w' := by
  have HT := Lib.hid (zz_text n hn)
  clear hn
  go_enter Try.func58, Try.ntmps58
  go_wp2
  go_ret
  exact ⟨ret_int HT.out, rfl⟩

theorem unzigzag_any (u : Int) (hu : U64 u) (w : World) :
    Calls Try.prog 87 #[.int .u64 u] w fun e w' => e = .returned (.int .i64 (uz u)) ∧ w = w' := by
  have HT := Lib.hid (uz_text u hu)
  clear hu
  go_enter Try.func87, Try.ntmps87
  go_wp2
  go_ret
  exact ⟨ret_int HT.out, rfl⟩

end Go.Proofs.Ytkfmgiacdlkmiaa
