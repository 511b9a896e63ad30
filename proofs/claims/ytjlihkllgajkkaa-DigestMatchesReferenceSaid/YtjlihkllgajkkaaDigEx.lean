/-
  The fixed examples come out true.
-/
import Derived.Test.YtjlihkllgajkkaaDigAny
import Derived.Lib.SlBytesConst
namespace Go.Proofs.Ytjlihkllgajkkaa
open Go.RowKit Go.Shelf

set_option maxRecDepth 100000 in
set_option maxHeartbeats 4000000 in
theorem examples_any (w : World) : Calls Try.prog 9 #[] w fun e W' => e = .returned (.bool true) ∧ Below w.heap.size w W' := by
  have hj := ex_joins
  have hj2 : (joinD 1 2 != joinD 1 3) = true := by simp [bne, hj]
  have hl := ex_lists
  have hl2 : (listD [] != listD [0]) = true := by simp [bne, hl]
  have kc := fun (w : World) (C : Array Value) (n c : Nat) => Lib.run_convert_bytes_const (P := Try.prog) w 23 5 C n c Try.underlying23 Try.underlying5
  have hfl : ∀ W : World, (Instr.field 34 (.agg #[.int .i64 0, .int .i64 1]) 1).run Try.prog W = .ok (.int .i64 1) W := fun _ => by kernel_rfl
  have hb := Below.refl w.heap.size w
  go_enter Try.func9, Try.ntmps9
  go_wp2_with (first
    | (go_at_call 12; ((with_reducible refine (ex_step1 _).mono ?_); rintro e w' ⟨rfl, rfl⟩))
    | (go_at_call 12; ((with_reducible refine (ex_step2 _).mono ?_); rintro e w' ⟨rfl, rfl⟩))
    | (go_at_call 12; ((with_reducible refine (ex_step3 _).mono ?_); rintro e w' ⟨rfl, rfl⟩))
    | (go_at_call 13; ((with_reducible refine (ex_rstep _).mono ?_); rintro e w' ⟨rfl, rfl⟩))
    | (go_at_call 16; ((with_reducible refine (ex_words _).mono ?_); rintro e wW ⟨rfl, hbW⟩; replace hb := hb.trans (hbW.mono hb.size); clear hbW))
    | (go_at_call 18; ((with_reducible refine (ex_bytes _).mono ?_); rintro e wB ⟨rfl, hbB⟩; replace hb := (hb.alloc hb.size _).trans (hbB.mono (by have := hb.size; simp; omega)); clear hbB))
    | (go_at_call 19; ((with_reducible refine (ex_rbytes _).mono ?_); rintro e w' ⟨rfl, rfl⟩; replace hb := hb.alloc hb.size (.cells #[.int .u8 97] 5 (1, 2))))
    | (go_at_call 20; ((with_reducible refine (ex_bucket1 _).mono ?_); rintro e wK1 ⟨rfl, hbK1⟩; replace hb := hb.trans (hbK1.mono hb.size); clear hbK1))
    | (go_at_call 20; ((with_reducible refine (ex_bucket2 _).mono ?_); rintro e wK2 ⟨rfl, hbK2⟩; replace hb := hb.trans (hbK2.mono hb.size); clear hbK2))
    | (go_at_call 20; ((with_reducible refine (ex_bucket3 _).mono ?_); rintro e wK3 ⟨rfl, hbK3⟩; replace hb := hb.trans (hbK3.mono hb.size); clear hbK3))
    | (go_at_call 14; ((with_reducible refine (ex_join2 _).mono ?_); rintro e wJ2 ⟨rfl, hbJ2⟩; replace hb := hb.trans (hbJ2.mono hb.size); clear hbJ2))
    | (go_at_call 14; ((with_reducible refine (ex_join3 _).mono ?_); rintro e wJ3 ⟨rfl, hbJ3⟩; replace hb := hb.trans (hbJ3.mono hb.size); clear hbJ3))
    | (go_at_call 10; ((with_reducible refine (ex_list0 _).mono ?_); rintro e wL0 ⟨rfl, hbL0⟩; replace hb := hb.trans (hbL0.mono hb.size); clear hbL0))
    | (go_at_call 10; ((with_reducible refine (ex_list1 _).mono ?_); rintro e wL1 ⟨rfl, hbL1⟩; replace hb := (hb.alloc hb.size _).trans (hbL1.mono (by have := hb.size; simp; omega)); clear hbL1)))
  go_ret
  exact ⟨rfl, hb⟩

end Go.Proofs.Ytjlihkllgajkkaa
