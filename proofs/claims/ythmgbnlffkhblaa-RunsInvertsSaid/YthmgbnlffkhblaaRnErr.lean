/-
  Which errors there are; a row of the call's own, and a slice that came in, appended to it.
-/
import Derived.Test.YthmgbnlffkhblaaRnDeMath
import Derived.Test.YthmgbnlffkhblaaRnWrap
namespace Go.Proofs.Ythmgbnlffkhblaa
open Go.RowKit Go.ChangeShapes Go.WideShapes Go.ChangeAt

theorem rd_err4 : ∀ (bs : List Int) (i : Nat) (a : Int), (rdF i a bs).2.2 = 0 ∨ (rdF i a bs).2.2 = 5 ∨ (rdF i a bs).2.2 = 7
  | [], i, a => by unfold rdF; split <;> simp
  | x :: r, i, a => by
    unfold rdF
    split
    · simp
    · split
      · exact rd_err4 r _ _
      · split <;> simp
theorem fr_err4 (bs : List Int) : (frS bs).2.2 = 0 ∨ (frS bs).2.2 = 5 ∨ (frS bs).2.2 = 7 := by
  unfold frS
  split
  · exact rd_err4 bs 0 0
  · split
    · simp
    · split <;> simp
theorem up_err4 (b : Int) (wd n : Nat) (bs : List Int) : (upS b wd n bs).2.2 = 0 ∨ (upS b wd n bs).2.2 = 5 ∨ (upS b wd n bs).2.2 = 7 := by
  unfold upS
  split
  · simp
  · split <;> simp
theorem un_err4 (bs : List Int) : (unS bs).2.2 = 0 ∨ (unS bs).2.2 = 5 ∨ (unS bs).2.2 = 7 := by
  unfold unS
  split
  · exact rd_err4 bs 0 0
  · split
    · simp
    · split
      · simp
      · split
        · exact fr_err4 _
        · split
          · exact up_err4 _ _ _ _
          · simp
theorem ur_err4 (bs : List Int) : (urS bs).2.2 = 0 ∨ (urS bs).2.2 = 5 ∨ (urS bs).2.2 = 7 := by
  unfold urS
  split
  · exact un_err4 bs
  · split
    · exact un_err4 _
    · split <;> simp
theorem upk_err4 (k : Nat) (bs : List Int) : (upkS k bs).2.2 = 0 ∨ (upkS k bs).2.2 = 5 ∨ (upkS k bs).2.2 = 7 := by
  unfold upkS
  split
  · exact un_err4 bs
  · exact ur_err4 bs
  · exact un_err4 bs
  · exact ur_err4 bs
theorem de_err4 (bs : List Int) : (deS bs).2.2 = 0 ∨ (deS bs).2.2 = 5 ∨ (deS bs).2.2 = 7 := by
  unfold deS
  split
  · simp
  · split
    · simp
    · split
      · exact upk_err4 _ _
      · split <;> simp

/-- A row of the call's own, and a slice that came in, appended to it. -/
theorem run_append_reads {P : Program} (w : World) (base : Nat) (t ty e : TypeId) (i : TypeInfo) (z : Value) (bytes : Nat) (k : IntKind) (ht : P.underlying t = some (.slice e)) (hi : P.info? e = some i) (hz : i.zero = some z)
    (hsize : i.size = 1) (hby : i.bytes = bytes) (hzs : z.cells.size = 1) (g0 n cap0 : Nat) (xs : List Value) (hown : w.ownsRow base e 1 (.slice (some ⟨g0, 0, none⟩) n cap0) n xs)
    {K : Nat → Prop} (sv : Value) (zs : List Int) (len : Nat) (hlen : Hid (len = zs.length)) (hR : ReadsK K w k sv zs) (h63 : n + len ≤ maxLen) (hbytes : (n + len) * bytes ≤ 140737488355328) (hbase : base ≤ w.heap.size) :
    ∃ g cap w', (Builtin.append_ #[t, t] ty #[.slice (some ⟨g0, 0, none⟩) n cap0, sv]).run P w = .ok (.slice (some ⟨g, 0, none⟩) (n + len) cap) w' ∧
      w'.ownsRow base e 1 (.slice (some ⟨g, 0, none⟩) (n + len) cap) (n + len) (xs ++ zs.map (Value.int k)) ∧ w.grownBy w' (some g0) ∧ n + len ≤ cap ∧ base ≤ g := by
  obtain rfl : len = zs.length := hlen
  rcases hR with ⟨a, c, rfl, rfl⟩ | ⟨b, off, c, rfl, _, _, hc⟩
  · obtain ⟨g, cap, e1, hn, hb⟩ := row_form hown (by simp)
    obtain ⟨rfl, rfl⟩ : g0 = g ∧ cap0 = cap := by cases e1; exact ⟨rfl, rfl⟩
    exact ⟨g0, cap0, w, run_append_empty w t ty e i ht hi _ n cap0 hn a c, by simpa using hown, ⟨rfl, rfl, rfl, Nat.le_refl _, fun _ _ _ => rfl⟩, hn, hb⟩
  · obtain ⟨v', w', hr, h1, h2, h3⟩ := run_append_own (P := P) w base t ty e i z 1 bytes ht hi hz hsize hby hzs (by decide) _ n xs hown ⟨b, off, none⟩ zs.length c (zs.map (Value.int k)) (by simp)
      (reads_cells hc)
      (fun u hu => by obtain ⟨x, _, rfl⟩ := List.mem_map.1 hu; rfl) (by omega) hbytes hbase
    have hne : ¬ v' = .slice none 0 0 := fun e => by have := (h3.1 e).1; cases this
    obtain ⟨g, cap, rfl, hn, hb⟩ := row_form h1 hne
    exact ⟨g, cap, w', hr, h1, h2, hn, hb⟩

end Go.Proofs.Ythmgbnlffkhblaa
