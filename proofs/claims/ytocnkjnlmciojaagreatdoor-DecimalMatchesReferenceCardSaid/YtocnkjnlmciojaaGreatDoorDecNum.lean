/-
  The contracts of package decimal's functions on numbers (no memory is read but the table of units).
-/
import Derived.Test.YtocnkjnlmciojaaGreatDoorDecDiv
import Derived.Test.YtocnkjnlmciojaaGreatDoorDecSpec
import Derived.OpenShut
import Derived.Deep.RegionHeld3
import Derived.StillTailTactics
namespace Go.Proofs.YtocnkjnlmciojaaGreatDoor.De
open Go.RowKit Go.Shelf

theorem add_any (a b : Int) (ha : I64 a) (hb : I64 b) (w : World) :
    Calls Tryz.prog 56 #[.int .i64 a, .int .i64 b] w fun e w' => e = .returned (.tuple #[.int .i64 (addS a b).1, .int .i64 (addS a b).2]) ∧ w = w' := by
  unfold addS
  cases hv : validB a
  · go_enter Tryz.func56, Tryz.ntmps56
    go_wp2_with (go_at_call 16; (with_reducible refine (valid_any a ha _).mono ?_); rintro e w' ⟨rfl, rfl⟩; rw [hv])
    go_ret2
    exact ⟨rfl, rfl⟩
  · cases hu : validB b
    · go_enter Tryz.func56, Tryz.ntmps56
      go_wp2_with (first
        | (go_at_call 16; (with_reducible refine (valid_any a ha _).mono ?_); rintro e w' ⟨rfl, rfl⟩; rw [hv])
        | (go_at_call 16; (with_reducible refine (valid_any b hb _).mono ?_); rintro e w' ⟨rfl, rfl⟩; rw [hu]))
      go_ret2
      exact ⟨rfl, rfl⟩
    · have h1 := validB_true hv
      have h2 := validB_true hu
      have h3 : I64 (a + b) := ⟨by omega, by omega⟩
      go_enter Tryz.func56, Tryz.ntmps56
      go_wp2_with (first
        | (go_at_call 16; (with_reducible refine (valid_any a ha _).mono ?_); rintro e w' ⟨rfl, rfl⟩; rw [hv])
        | (go_at_call 16; (with_reducible refine (valid_any b hb _).mono ?_); rintro e w' ⟨rfl, rfl⟩; rw [hu])
        | (go_at_call 115; (with_reducible refine (checked_any (a + b) h3 _).mono ?_); rintro e w' ⟨rfl, rfl⟩))
      go_ret2
      exact ⟨rfl, rfl⟩

theorem sub_any (a b : Int) (ha : I64 a) (hb : I64 b) (w : World) :
    Calls Tryz.prog 58 #[.int .i64 a, .int .i64 b] w fun e w' => e = .returned (.tuple #[.int .i64 (subS a b).1, .int .i64 (subS a b).2]) ∧ w = w' := by
  unfold subS
  cases hv : validB a
  · go_enter Tryz.func58, Tryz.ntmps58
    go_wp2_with (go_at_call 16; (with_reducible refine (valid_any a ha _).mono ?_); rintro e w' ⟨rfl, rfl⟩; rw [hv])
    go_ret2
    exact ⟨rfl, rfl⟩
  · cases hu : validB b
    · go_enter Tryz.func58, Tryz.ntmps58
      go_wp2_with (first
        | (go_at_call 16; (with_reducible refine (valid_any a ha _).mono ?_); rintro e w' ⟨rfl, rfl⟩; rw [hv])
        | (go_at_call 16; (with_reducible refine (valid_any b hb _).mono ?_); rintro e w' ⟨rfl, rfl⟩; rw [hu]))
      go_ret2
      exact ⟨rfl, rfl⟩
    · have h1 := validB_true hv
      have h2 := validB_true hu
      have h3 : I64 (a - b) := ⟨by omega, by omega⟩
      go_enter Tryz.func58, Tryz.ntmps58
      go_wp2_with (first
        | (go_at_call 16; (with_reducible refine (valid_any a ha _).mono ?_); rintro e w' ⟨rfl, rfl⟩; rw [hv])
        | (go_at_call 16; (with_reducible refine (valid_any b hb _).mono ?_); rintro e w' ⟨rfl, rfl⟩; rw [hu])
        | (go_at_call 115; (with_reducible refine (checked_any (a - b) h3 _).mono ?_); rintro e w' ⟨rfl, rfl⟩))
      go_ret2
      exact ⟨rfl, rfl⟩

theorem cmp_any (a b : Int) (w : World) :
    Calls Tryz.prog 14 #[.int .i64 a, .int .i64 b] w fun e w' => e = .returned (.int .i64 (Lib.compareInt a b)) ∧ w = w' := by
  go_enter Tryz.func14, Tryz.ntmps14
  go_wp2_with (go_at_call 64; refine (Tryz.cmp_Compare_int a b _).mono ?_; rintro e w' ⟨rfl, rfl⟩)
  go_ret
  exact ⟨rfl, rfl⟩

end Go.Proofs.YtocnkjnlmciojaaGreatDoor.De
