/-
  The contracts of the codes of single integers: zigzag, variable length, and what reads them.
-/
import Derived.Test.YtnhffkgbnlnliaaGreatDoorPkBase
import Derived.Test.YtnhffkgbnlnliaaGreatDoorPkSpec
import Derived.ArgAppend
import Derived.Deep.Onto
namespace Go.Proofs.YtnhffkgbnlnliaaGreatDoor
open Go.RowKit Go.Shelf Go.ChangeShapes Go.WideShapes Go.ChangeAt

/-- The slice at a, of len elements and capacity cap, reads as the integers zs of kind k, in one block that K names. -/
structure Rd (K : Nat → Prop) (W : World) (k : IntKind) (a : Option Addr) (len cap : Nat) (zs : List Int) : Prop where
  hl : len = zs.length
  fit : len ≤ cap
  top : cap ≤ 9223372036854775807
  small : len ≤ 140737488351232
  cells : 0 < len → ∃ b off, a = some ⟨b, off, none⟩ ∧ K b ∧ b < W.heap.size ∧ ∀ j, j < len → W.cell? ⟨b, off + j, none⟩ = some (.int k (zs[j]?.getD 0))

theorem Rd.kept {K : Nat → Prop} {A B : World} {k : IntKind} {a : Option Addr} {len cap : Nat} {zs : List Int} (h : Rd K A k a len cap zs) (hk : Kept K A B) : Rd K B k a len cap zs :=
  ⟨h.hl, h.fit, h.top, h.small, fun h0 => by
    obtain ⟨b, off, e, hb, hlt, hc⟩ := h.cells h0
    exact ⟨b, off, e, hb, Nat.lt_of_lt_of_le hlt hk.size, fun j hj => (World.cell?_of_block (w := A) (hk.block b hlt hb)).trans (hc j hj)⟩⟩
theorem Rd.below {K : Nat → Prop} {A B : World} {k : IntKind} {a : Option Addr} {len cap : Nat} {zs : List Int} (h : Rd K A k a len cap zs) (hk : Below A.heap.size A B) : Rd K B k a len cap zs :=
  ⟨h.hl, h.fit, h.top, h.small, fun h0 => by
    obtain ⟨b, off, e, hb, hlt, hc⟩ := h.cells h0
    exact ⟨b, off, e, hb, Nat.lt_of_lt_of_le hlt hk.size, fun j hj => (World.cell?_of_block (w := A) (hk.block b hlt)).trans (hc j hj)⟩⟩
theorem Rd.mono {K K' : Nat → Prop} {A : World} {k : IntKind} {a : Option Addr} {len cap : Nat} {zs : List Int} (h : Rd K A k a len cap zs) (hk : ∀ b, b < A.heap.size → K b → K' b) : Rd K' A k a len cap zs :=
  ⟨h.hl, h.fit, h.top, h.small, fun h0 => by
    obtain ⟨b, off, e, hb, hlt, hc⟩ := h.cells h0
    exact ⟨b, off, e, hk b hlt hb, hlt, hc⟩⟩
theorem Rd.heap {K : Nat → Prop} {A B : World} {k : IntKind} {a : Option Addr} {len cap : Nat} {zs : List Int} (h : Rd K A k a len cap zs) (hk : B.heap = A.heap) : Rd K B k a len cap zs :=
  ⟨h.hl, h.fit, h.top, h.small, fun h0 => by
    obtain ⟨b, off, e, hb, hlt, hc⟩ := h.cells h0
    exact ⟨b, off, e, hb, by rw [hk]; exact hlt, fun j hj => (World.cell?_of_block (w := A) (by rw [hk])).trans (hc j hj)⟩⟩
theorem Rd.empty {K : Nat → Prop} {A : World} {k : IntKind} {a : Option Addr} : Rd K A k a 0 0 [] := ⟨rfl, Nat.le_refl _, by decide, by decide, fun h => absurd h (by decide)⟩
theorem Rd.of_row {A : World} {base : Nat} {e : TypeId} {k : IntKind} {g len cap : Nat} {zs : List Int} (hl : len = zs.length) (hf : len ≤ cap) (hm : len ≤ 140737488351232)
    (hr : A.ownsRow base e 1 (.slice (some ⟨g, 0, none⟩) len cap) len (zs.map (Value.int k))) : Rd (fun b => base ≤ b) A k (some ⟨g, 0, none⟩) len cap zs :=
  ⟨hl, hf, by obtain ⟨cur, _, _, h, _⟩ := row_block hr; unfold maxLen at h; omega, hm, fun _ => ⟨g, 0, rfl, row_base hr, row_lt hr, fun j hj => row_cells hr j (by omega)⟩⟩
theorem Rd.reads {K : Nat → Prop} {A : World} {k : IntKind} {a : Option Addr} {len cap : Nat} {zs : List Int} (h : Rd K A k a len cap zs) : ReadsK K A k (.slice a len cap) zs := by
  obtain ⟨rfl, h2, h3, _, h4⟩ := h
  by_cases h0 : 0 < zs.length
  · obtain ⟨b, off, rfl, hb, hlt, hc⟩ := h4 h0
    exact .inr ⟨b, off, cap, rfl, hb, hlt, hc⟩
  · obtain rfl : zs = [] := List.eq_nil_of_length_eq_zero (by omega)
    exact .inl ⟨a, cap, rfl, rfl⟩

/-- What a walk is told of the rest of a slice: from its k-th element on. -/
theorem Rd.rest {K : Nat → Prop} {A : World} {k : IntKind} {b off len cap : Nat} {zs : List Int} (h : Rd K A k (some ⟨b, off, none⟩) len cap zs) (m : Nat) (hm : m ≤ len) (c : Nat) (hc : len - m ≤ c) (hc2 : c ≤ cap) (a' : Option Addr) (ha : m < len → a' = some ⟨b, off + m, none⟩) :
    Rd K A k a' (len - m) c (zs.drop m) := by
  have hl := h.hl
  refine ⟨by rw [List.length_drop]; omega, hc, Nat.le_trans hc2 h.top, by have := h.small; omega, fun h0 => ?_⟩
  obtain ⟨b', off', e, hb, hlt, hcs⟩ := h.cells (by omega)
  cases e
  refine ⟨b, off + m, ha (by omega), hb, hlt, fun j hj => ?_⟩
  have := hcs (m + j) (by omega)
  rw [List.getElem?_drop, ← this, Nat.add_assoc]

/-! ### The codes of single integers -/

theorem zigzag_any (n : Int) (hn : I64 n) (w : World) :
    Calls Tryz.prog 87 #[.int .i64 n] w fun e w' => e = .returned (.int .u64 (zz n)) ∧ w = w' := by
  have HT := Lib.hid (zz_text n hn)
  clear hn
  go_enter Tryz.func87, Tryz.ntmps87
  go_wp2
  go_ret
  exact ⟨ret_int HT.out, rfl⟩

theorem unzigzag_any (u : Int) (hu : U64 u) (w : World) :
    Calls Tryz.prog 109 #[.int .u64 u] w fun e w' => e = .returned (.int .i64 (uz u)) ∧ w = w' := by
  have HT := Lib.hid (uz_text u hu)
  clear hu
  go_enter Tryz.func109, Tryz.ntmps109
  go_wp2
  go_ret
  exact ⟨ret_int HT.out, rfl⟩

theorem ends_any (i : Nat) (x : Int) (hi2 : i ≤ 9) (w : World) :
    Calls Tryz.prog 110 #[.int .i64 i, .int .u8 x] w fun e w' => e = .returned (.bool (ends i x)) ∧ w = w' := by
  by_cases h9 : i = 9
  · subst h9
    go_enter Tryz.func110, Tryz.ntmps110
    go_wp2
    go_ret
    exact ⟨rfl, rfl⟩
  · have HE : Hid (ends i x = (((i : Int) == 0) || x != 0)) := by
      show _ = _
      unfold ends
      rw [if_neg h9]
      congr 1
      rw [Bool.eq_iff_iff]; simp
    have h9' : ((i : Int) == 9) = false := by rw [beq_eq_false_iff_ne]; omega
    clear h9
    go_enter Tryz.func110, Tryz.ntmps110
    by_cases h0 : i = 0
    · subst h0
      go_wp2
      go_ret
      exact ⟨ret_bool HE.out.symm, rfl⟩
    · have h0' : ((i : Int) == 0) = false := by rw [beq_eq_false_iff_ne]; omega
      rw [h0'] at HE
      clear h0
      go_wp2
      go_ret
      exact ⟨ret_bool HE.out.symm, rfl⟩

theorem clip_any (a : Option Addr) (len cap : Nat) (hc : len ≤ cap) (_hm : cap ≤ 9223372036854775807) (w : World) :
    Calls Tryz.prog 94 #[.slice a len cap] w fun e w' => e = .returned (.slice a len len) ∧ w = w' := by
  go_enter Tryz.func94, Tryz.ntmps94
  go_wp2
  go_ret
  exact ⟨rfl, rfl⟩

end Go.Proofs.YtnhffkgbnlnliaaGreatDoor
