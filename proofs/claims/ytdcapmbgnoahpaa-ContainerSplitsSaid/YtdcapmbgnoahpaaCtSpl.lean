/-
  Sealed forms one behind the other are split into their files; cut off anywhere, into those that are whole. A list of raw files that came in; rows of one's own beside each other. Rows of bytes and of numbers that grow; where sealed forms end.
-/
import Derived.Test.YtdcapmbgnoahpaaCtDamage
import Derived.Deep.Slices
namespace Go.Proofs.Ytdcapmbgnoahpaa

/-- A valid file. -/
def Good (f : Fl) : Prop := (1 ≤ f.k ∧ f.k ≤ 9) ∧ Smalls f.id ∧ f.id.length ≤ 40 ∧ Oct f.data ∧ f.data.length ≤ 65536
/-- The sealed forms of files, one behind the other. -/
def joinS : List Fl → List Int
  | [] => []
  | f :: r => sealS f.k f.id f.data ++ joinS r

theorem joinS_append : ∀ (a b : List Fl), joinS (a ++ b) = joinS a ++ joinS b
  | [], _ => rfl
  | f :: r, b => by simp [joinS, joinS_append r b, List.append_assoc]
theorem joinS_oct : ∀ (fs : List Fl), (∀ f ∈ fs, Good f) → Oct (joinS fs)
  | [], _ => Oct.nil
  | f :: r, h => (sealS_oct (h f (by simp)).1 (h f (by simp)).2.2.2.1).append (joinS_oct r fun g hg => h g (by simp [hg]))
theorem spl_join : ∀ (fs : List Fl), (∀ f ∈ fs, Good f) → ∀ r : List Int, Oct r → splS (joinS fs ++ r) = (fs ++ (splS r).1, (splS r).2)
  | [], _, r, _ => rfl
  | f :: t, h, r, hr => by
    obtain ⟨hk, hz, hl, ho, hd⟩ := h f (by simp)
    have ht : ∀ g ∈ t, Good g := fun g hg => h g (by simp [hg])
    have hO : Oct (joinS t ++ r) := (joinS_oct t ht).append hr
    obtain ⟨h1, h2, h3, h4, h5⟩ := seal_first (data := f.data) hz hl hd hk (joinS t ++ r)
    show splS ((sealS f.k f.id f.data ++ joinS t) ++ r) = _
    rw [List.append_assoc, splS_more ((sealS_oct hk ho).append hO) h1, h2, h3, h4, h5, drop_app _ _ _ rfl, spl_join t ht r hr]
    rfl
theorem joinS_take (fs : List Fl) (m : Nat) : joinS fs = joinS (fs.take m) ++ joinS (fs.drop m) := by
  rw [← joinS_append, List.take_append_drop]

theorem spl_cut {fs : List Fl} (h : ∀ f ∈ fs, Good f) {m n : Nat} (hm : m ≤ fs.length) (h1 : (joinS (fs.take m)).length ≤ n) (h2 : m < fs.length → n < (joinS (fs.take (m + 1))).length) :
    splS ((joinS fs).take n) = (fs.take m, ((joinS fs).take n).drop (joinS (fs.take m)).length) := by
  have hg : ∀ f ∈ fs.take m, Good f := fun f hf => h f (List.mem_of_mem_take hf)
  have e1 : (joinS fs).take n = joinS (fs.take m) ++ (joinS (fs.drop m)).take (n - (joinS (fs.take m)).length) := by
    rw [joinS_take fs m]; exact take_app_ge _ _ _ h1
  have hO : Oct ((joinS (fs.drop m)).take (n - (joinS (fs.take m)).length)) := (joinS_oct _ fun f hf => h f (List.mem_of_mem_drop hf)).take _
  have e2 : splS ((joinS (fs.drop m)).take (n - (joinS (fs.take m)).length)) = ([], (joinS (fs.drop m)).take (n - (joinS (fs.take m)).length)) := by
    by_cases hmf : m < fs.length
    · obtain ⟨hk, hz, hl, ho, hd⟩ := h fs[m] (List.getElem_mem hmf)
      have e3 : fs.drop m = fs[m] :: fs.drop (m + 1) := (List.getElem_cons_drop hmf).symm
      have e4 : fs.take (m + 1) = fs.take m ++ [fs[m]] := by rw [List.take_add_one, List.getElem?_eq_getElem hmf]; rfl
      have h3 := h2 hmf
      rw [e4, joinS_append, List.length_append] at h3
      simp only [joinS, List.append_nil] at h3
      have e5 : (joinS (fs.drop m)).take (n - (joinS (fs.take m)).length) = (sealS fs[m].k fs[m].id fs[m].data).take (n - (joinS (fs.take m)).length) := by
        rw [e3]
        exact take_app_le _ _ _ (by omega)
      rw [e5]
      exact splS_end (by rw [first_short hz hl hd hk _ (by omega)]; decide)
    · have e3 : fs.drop m = [] := List.drop_eq_nil_of_le (by omega)
      rw [e3]
      simp only [joinS, List.take_nil]
      exact splS_end (by decide)
  rw [e1, spl_join _ hg _ hO, e2, List.append_nil, drop_app _ _ _ rfl]

end Go.Proofs.Ytdcapmbgnoahpaa

namespace Go.Proofs.Ytdcapmbgnoahpaa
open Go Go.RowKit Go.Shelf Go.ChangeShapes Go.WideShapes Go.ChangeAt

/-- A raw file, as it lies in memory. -/
structure Rw where
  k : Nat
  a1 : Option Addr
  n1 : Nat
  c1 : Nat
  id : List Int
  a2 : Option Addr
  n2 : Nat
  c2 : Nat
  da : List Int
def Rw.Ok (W : World) (r : Rw) : Prop := r.k < 256 ∧ RdM W .i64 r.a1 r.n1 r.c1 r.id ∧ RdM W .u8 r.a2 r.n2 r.c2 r.da ∧ Smalls r.id ∧ Oct r.da
theorem Rw.Ok.below {A B : World} {r : Rw} (h : r.Ok A) (hb : Below A.heap.size A B) : r.Ok B := ⟨h.1, h.2.1.below hb, h.2.2.1.below hb, h.2.2.2.1, h.2.2.2.2⟩
/-- A list of raw files, however long. -/
structure RdR (W : World) (a : Option Addr) (n c : Nat) : Prop where
  fit : n ≤ c
  top : c ≤ 9223372036854775807
  cells : 0 < n → ∃ b off, a = some ⟨b, off, none⟩ ∧ b < W.heap.size ∧ ∀ j, j < n → ∃ r : Rw, W.cell? ⟨b, off + j * 3, none⟩ = some (.int .u8 (r.k : Int)) ∧ W.cell? ⟨b, off + j * 3 + 1, none⟩ = some (.slice r.a1 r.n1 r.c1) ∧ W.cell? ⟨b, off + j * 3 + 2, none⟩ = some (.slice r.a2 r.n2 r.c2) ∧ r.Ok W
theorem RdR.below {A B : World} {a : Option Addr} {n c : Nat} (h : RdR A a n c) (hk : Below A.heap.size A B) : RdR B a n c :=
  ⟨h.fit, h.top, fun h0 => by
    obtain ⟨b, off, e, hlt, hc⟩ := h.cells h0
    exact ⟨b, off, e, Nat.lt_of_lt_of_le hlt hk.size, fun j hj => by
      obtain ⟨r, h1, h2, h3, h4⟩ := hc j hj
      exact ⟨r, (World.cell?_of_block (w := A) (hk.block b hlt)).trans h1, (World.cell?_of_block (w := A) (hk.block b hlt)).trans h2, (World.cell?_of_block (w := A) (hk.block b hlt)).trans h3, h4.below hk⟩⟩⟩

set_option maxRecDepth 100000 in
theorem open_raw_cells {H : Type} {enc : TypeId × Value → H} {W : World} {cs : List Value} {fuel : Nat} {y : DataW H × List MemPlace}
    (hf : DataW.trod enc Try.prog W 0 (fun _ => true) true fuel 54 cs = some y) :
    ∃ r : Rw, cs = [.int .u8 (r.k : Int), .slice r.a1 r.n1 r.c1, .slice r.a2 r.n2 r.c2] ∧ r.Ok W := by
  have hc3 : Try.prog.cellsOf 54 = 3 := by kernel_rfl
  have hcI : Try.prog.cellsOf 24 = 1 := by kernel_rfl
  have hcB : Try.prog.cellsOf 22 = 1 := by kernel_rfl
  obtain ⟨_, _, _, _, hl, _, _⟩ := DataW.trod_struct Try.underlying54 hf
  rw [hc3] at hl
  obtain ⟨x, y', z, rfl⟩ : ∃ x y z, cs = [x, y, z] := by
    rcases cs with _ | ⟨x, _ | ⟨y, _ | ⟨z, _ | ⟨u, r⟩⟩⟩⟩ <;> first | exact ⟨_, _, _, rfl⟩ | (simp at hl)
  obtain ⟨y0, y1, y2, m, h0, h1, h2⟩ := trod_three Try.underlying54 hf
  simp only [hcI, hcB, cellsB4] at h0 h1 h2
  obtain ⟨k, e0, _, w0⟩ := DataW.trod_int Try.underlying5 h0
  obtain ⟨a1, n1, c1, id, e1, r1, f1⟩ := open_rdm Try.underlying24 Try.underlying3 cellsN4 h1
  obtain ⟨a2, n2, c2, da, e2, r2, f2⟩ := open_rdm Try.underlying22 Try.underlying5 cellsB4 h2
  simp at e0 e1 e2
  subst e0 e1 e2
  have hk : 0 ≤ k ∧ k < 256 := by
    simp [Lit.wf, IntKind.min, IntKind.max, IntKind.signed, IntKind.bits] at w0; omega
  obtain ⟨k, rfl⟩ := Int.eq_ofNat_of_zero_le hk.1
  exact ⟨⟨k, a1, n1, c1, id, a2, n2, c2, da⟩, rfl, by have := hk.2; show k < 256; omega, r1, r2, smalls_wf f1, oct_wf f2⟩

set_option maxRecDepth 100000 in
/-- A list of raw files that came in. -/
theorem open_raws9 {H : Type} {enc : TypeId × Value → H} {W : World} {r : Reach} {b0 : Nat} {v : Value} {d : DataW H} {ps : List MemPlace}
    (hval : Value.okWide Try.prog W r b0 73 v) (hd : DataW.Trod enc Try.prog W 0 (fun _ => true) true 73 v d ps) :
    ∃ a n c, v = .slice a n c ∧ RdR W a n c := by
  obtain ⟨a0, len, cap, rfl⟩ := okWide_slice Try.underlying73 hval
  obtain ⟨fuel, hf⟩ := hd
  have hc3 : Try.prog.cellsOf 54 = 3 := by kernel_rfl
  rcases Go.Deep.open_slice Try.underlying73 hf with ⟨hcs, hx⟩ | ⟨a, len', cap', m, n, D, Pl, hcs, _, hl, hm, hmm, hx, he⟩
  · simp [Value.cells] at hcs
    obtain ⟨rfl, rfl, rfl⟩ := hcs
    exact ⟨none, 0, 0, rfl, Nat.le_refl _, by decide, fun h => absurd h (by decide)⟩
  · simp [Value.cells] at hcs
    obtain ⟨rfl, rfl, rfl⟩ := hcs
    have hm' : cap ≤ 9223372036854775807 := by unfold maxLen at hm; omega
    simp only [if_true] at hmm
    rw [hc3] at he
    refine ⟨some a, len, cap, rfl, hl, hm', fun h0 => ?_⟩
    have each : ∀ j, j < len → ∃ r : Rw, W.cell? (a.add (j * 3)) = some (.int .u8 (r.k : Int)) ∧ W.cell? ((a.add (j * 3)).add 1) = some (.slice r.a1 r.n1 r.c1) ∧ W.cell? ((a.add (j * 3)).add 2) = some (.slice r.a2 r.n2 r.c2) ∧ r.Ok W := fun j hj => by
      obtain ⟨cs', h1, h2⟩ := he j (by omega)
      obtain ⟨q, rfl, hq⟩ := open_raw_cells h2
      obtain ⟨_, _, h3⟩ := World.cells?_some h1
      exact ⟨q, by simpa [Addr.add] using h3 0 (by decide), by simpa using h3 1 (by decide), by simpa using h3 2 (by decide), hq⟩
    obtain ⟨b, off, spot⟩ := a
    have hspot : spot = none := by
      obtain ⟨q, h1, _⟩ := each 0 h0
      simpa [Addr.add] using World.cell?_spot h1
    subst hspot
    refine ⟨b, off, rfl, ?_, fun j hj => ?_⟩
    · obtain ⟨q, h1, _⟩ := each 0 h0
      obtain ⟨o, ho, _⟩ := cells_of_cell h1
      exact (Array.getElem?_eq_some_iff.1 ho).1
    · obtain ⟨q, h1, h2, h3, h4⟩ := each j hj
      rw [add_plain] at h1 h2 h3
      rw [add_plain] at h2 h3
      exact ⟨q, h1, h2, h3, h4⟩

/-- A row of one's own stands while its block does. -/
theorem row_keepB {W W' : World} {base : Nat} {e : TypeId} {s n : Nat} {v : Value} {xs : List Value} (h : W.ownsRow base e s v n xs) (hk : ∀ g, v.ownBlock = some g → W'.heap[g]? = W.heap[g]?) : W'.ownsRow base e s v n xs :=
  ⟨h.1, h.2.imp id fun ⟨g, c, cur, e1, hb, hg, r⟩ => ⟨g, c, cur, e1, hb, (hk g (by rw [e1]; rfl)).trans hg, r⟩⟩
/-- Rows of different kinds lie in different blocks. -/
theorem row_apart {W : World} {b1 b2 : Nat} {e1 e2 : TypeId} {s1 s2 n1 n2 : Nat} {v1 v2 : Value} {xs1 xs2 : List Value} (h1 : W.ownsRow b1 e1 s1 v1 n1 xs1) (h2 : W.ownsRow b2 e2 s2 v2 n2 xs2) (he : e1 ≠ e2) {g : Nat} (hg : v1.ownBlock = some g) : some g ≠ v2.ownBlock := fun hc => by
  rcases h1.2 with ⟨rfl, _⟩ | ⟨g1, c1, cur1, rfl, _, hh1, _⟩
  · cases hg
  · rcases h2.2 with ⟨rfl, _⟩ | ⟨g2, c2, cur2, rfl, _, hh2, _⟩
    · cases hc
    · have e3 : some g1 = some g := hg
      have e4 : some g = some g2 := hc
      injection e3 with e3
      injection e4 with e4
      subst e3 e4
      rw [hh1] at hh2
      injection hh2 with hh2
      injection hh2 with _ hh2
      exact he hh2

end Go.Proofs.Ytdcapmbgnoahpaa

namespace Go.Proofs.Ytdcapmbgnoahpaa
open Go Go.RowKit Go.Shelf Go.ChangeShapes Go.WideShapes Go.ChangeAt

theorem bytes_grow {W : World} {base g n c : Nat} {zs ys : List Int} (h : W.ownsRow base 5 1 (.slice (some ⟨g, 0, none⟩) n c) n (zs.map (Value.int .u8))) {K : Nat → Prop} {b off len cap : Nat} (hR : Rd K W .u8 (some ⟨b, off, none⟩) len cap ys) (h0 : 0 < len) (hb : base ≤ W.heap.size) (hl : n + len ≤ 100000000) :
    ∃ g' c' w', (Builtin.append_ #[22, 22] 22 #[.slice (some ⟨g, 0, none⟩) n c, .slice (some ⟨b, off, none⟩) len cap]).run Try.prog W = .ok (.slice (some ⟨g', 0, none⟩) (n + len) c') w' ∧
      w'.ownsRow base 5 1 (.slice (some ⟨g', 0, none⟩) (n + len) c') (n + len) ((zs ++ ys).map (Value.int .u8)) ∧ W.grownBy w' (some g) := by
  obtain ⟨i0, hi, hz0, hz1, hz2⟩ := info_parts Try.infoB
  have hlen := hR.hl
  obtain ⟨b2, off2, e, _, _, hc⟩ := hR.cells h0
  cases e
  subst hlen
  obtain ⟨v', w', hr, h3, h4, h5⟩ := run_append_own (P := Try.prog) W base 22 22 5 i0 _ 1 1 Try.underlying22 hi hz0 hz1 hz2 rfl (by decide) _ n _ h ⟨b, off, none⟩ ys.length cap (ys.map (Value.int .u8)) (by simp)
    (rd_cells hc) (fun u hu => by obtain ⟨x, _, rfl⟩ := List.mem_map.1 hu; rfl) (by unfold maxLen; omega) (by omega) hb
  have hne : ¬ v' = .slice none 0 0 := fun e => by have := (h5.1 e).1; cases this
  obtain ⟨g', cap', rfl, hn, hg⟩ := row_form h3 hne
  rw [← List.map_append] at h3
  exact ⟨g', cap', w', hr, h3, h4⟩

theorem ints_grow {W : World} {base g n c : Nat} {zs ys : List Int} (h : W.ownsRow base 3 1 (.slice (some ⟨g, 0, none⟩) n c) n (zs.map (Value.int .i64))) {K : Nat → Prop} {b off len cap : Nat} (hR : Rd K W .i64 (some ⟨b, off, none⟩) len cap ys) (h0 : 0 < len) (hb : base ≤ W.heap.size) (hl : n + len ≤ 100000000) :
    ∃ g' c' w', (Builtin.append_ #[24, 24] 24 #[.slice (some ⟨g, 0, none⟩) n c, .slice (some ⟨b, off, none⟩) len cap]).run Try.prog W = .ok (.slice (some ⟨g', 0, none⟩) (n + len) c') w' ∧
      w'.ownsRow base 3 1 (.slice (some ⟨g', 0, none⟩) (n + len) c') (n + len) ((zs ++ ys).map (Value.int .i64)) ∧ W.grownBy w' (some g) := by
  obtain ⟨i0, hi, hz0, hz1, hz2⟩ := info_parts Try.infoI9
  have hlen := hR.hl
  obtain ⟨b2, off2, e, _, _, hc⟩ := hR.cells h0
  cases e
  subst hlen
  obtain ⟨v', w', hr, h3, h4, h5⟩ := run_append_own (P := Try.prog) W base 24 24 3 i0 _ 1 8 Try.underlying24 hi hz0 hz1 hz2 rfl (by decide) _ n _ h ⟨b, off, none⟩ ys.length cap (ys.map (Value.int .i64)) (by simp)
    (rd_cells hc) (fun u hu => by obtain ⟨x, _, rfl⟩ := List.mem_map.1 hu; rfl) (by unfold maxLen; omega) (by omega) hb
  have hne : ¬ v' = .slice none 0 0 := fun e => by have := (h5.1 e).1; cases this
  obtain ⟨g', cap', rfl, hn, hg⟩ := row_form h3 hne
  rw [← List.map_append] at h3
  exact ⟨g', cap', w', hr, h3, h4⟩

/-- Where each sealed form ends. -/
def endsS (fs : List Fl) : List Int := (List.range fs.length).map fun j => ((joinS (fs.take (j + 1))).length : Int)
theorem endsS_snoc (fs : List Fl) (f : Fl) : endsS (fs ++ [f]) = endsS fs ++ [((joinS (fs ++ [f])).length : Int)] := by
  unfold endsS
  rw [List.length_append, List.length_singleton, List.range_succ, List.map_append, List.map_singleton]
  congr 1
  · refine List.map_congr_left fun j hj => ?_
    have := List.mem_range.1 hj
    rw [List.take_append_of_le_length (by omega)]
  · rw [List.take_of_length_le (by simp)]
theorem fld57_0 (a e : Value) (w : World) : (Instr.field 57 (.agg #[a, e]) 0).run Try.prog w = .ok a w := by kernel_rfl
theorem joinS_len : ∀ (fs : List Fl), (∀ f ∈ fs, f.id.length ≤ 40 ∧ f.data.length ≤ 200 ∧ Smalls f.id) → (joinS fs).length ≤ fs.length * 1000
  | [], _ => by simp [joinS]
  | f :: r, h => by
    have h1 := joinS_len r fun g hg => h g (by simp [hg])
    obtain ⟨h2, h3, h4⟩ := h f (by simp)
    have h5 := seal_len_le (k := f.k) h2 h3 h4
    simp only [joinS, List.length_append, List.length_cons]
    omega

end Go.Proofs.Ytdcapmbgnoahpaa
