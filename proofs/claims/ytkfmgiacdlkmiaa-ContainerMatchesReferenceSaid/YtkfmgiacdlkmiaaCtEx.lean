/-
  The fixed examples that each law of container begins with come out true.
-/
import Derived.Test.YtkfmgiacdlkmiaaCtmC
namespace Go.Proofs.Ytkfmgiacdlkmiaa
open Go Go.RowKit Go.Shelf Go.ChangeShapes Go.WideShapes Go.ChangeAt

theorem exC_pack : packS [5] = [1, 10, 0] := by
  have h1 : (zz (minS [5])).toNat = 10 := by decide +kernel
  have h2 : widthS [5] = 0 := by decide +kernel
  have h3 : gatherS (bitsS [5]) (spaceS [5]) = [] := by decide +kernel
  unfold packS headS
  rw [if_neg (by decide), h1, h2, h3, varN_lo (by decide), varN_lo (by decide)]; rfl
theorem exC_A : sealA 2 [5] [9] = [67, 72, 77, 2, 1, 10, 0, 1, 9] := by
  unfold sealA; rw [exC_pack, varN_lo (by decide)]; rfl
theorem exC_len : (sealS 2 [5] [9]).length = 17 := by rw [sealS_len, exC_A]; rfl
theorem exC_take9 : (sealS 2 [5] [9]).take 9 = [67, 72, 77, 2, 1, 10, 0, 1, 9] := by
  unfold sealS; rw [exC_A]; rfl
theorem smalls5 : Smalls [5] := fun x hx => by simp at hx; subst hx; exact ⟨by decide, by decide⟩
theorem oct9 : Oct [9] := fun x hx => by simp at hx; omega
theorem exC_sealE : sealE 2 [5] [9] = 0 := by decide
theorem exC_sealE10 : sealE 10 [] [] = 1 := by decide
theorem exC_short : openE ((sealS 2 [5] [9]).take 16) = 7 := by
  have h := first_short (k := 2) (id := [5]) (data := [9]) smalls5 (by decide) (by decide) ⟨by decide, by decide⟩ 16 (by rw [exC_len]; decide)
  unfold openE; rw [if_pos (by rw [h]; decide), h]
theorem exC_first (rest : List Int) : fstE (sealS 2 [5] [9] ++ rest) = 0 ∧ fstK (sealS 2 [5] [9] ++ rest) = 2 ∧ fstI (sealS 2 [5] [9] ++ rest) = [5] ∧ fstD (sealS 2 [5] [9] ++ rest) = [9] ∧ fstN (sealS 2 [5] [9] ++ rest) = (sealS 2 [5] [9]).length :=
  seal_first smalls5 (by decide) (by decide) ⟨by decide, by decide⟩ rest
theorem exC_open : openE (sealS 2 [5] [9]) = 0 ∧ fstK (sealS 2 [5] [9]) = 2 ∧ fstI (sealS 2 [5] [9]) = [5] ∧ fstD (sealS 2 [5] [9]) = [9] := by
  obtain ⟨h1, h2, h3, h4, h5⟩ := exC_first []
  rw [List.append_nil] at h1 h2 h3 h4 h5
  exact ⟨by unfold openE; rw [if_neg (fun c => c h1), if_neg (by rw [h5]; omega)], h2, h3, h4⟩
theorem exC_odd : openE ((sealS 2 [5] [9]).set 0 66) = 8 := by
  have h : sealS 2 [5] [9] = [67, 72, 77, 2, 1, 10, 0, 1, 9] ++ sum8 (Dg.bytesD (sealA 2 [5] [9])) := by rw [← exC_A]; rfl
  generalize sum8 (Dg.bytesD (sealA 2 [5] [9])) = S at h
  have hl : fstE ((sealS 2 [5] [9]).set 0 66) = 8 := by rw [h]; simp [fstE, letE, letS]
  unfold openE; rw [if_pos (by rw [hl]; decide), hl]
theorem oct_seal : Oct (sealS 2 [5] [9]) := sealS_oct ⟨by decide, by decide⟩ oct9
theorem exC_split : splS (sealS 2 [5] [9] ++ sealS 2 [5] [9]) = ([⟨2, [5], [9]⟩, ⟨2, [5], [9]⟩], []) := by
  have hd : ∀ r : List Int, (sealS 2 [5] [9] ++ r).drop (fstN (sealS 2 [5] [9] ++ r)) = r := fun r => by rw [(exC_first r).2.2.2.2]; exact drop_app _ _ _ rfl
  have hs : ∀ r : List Int, Oct r → splS (sealS 2 [5] [9] ++ r) = (⟨2, [5], [9]⟩ :: (splS r).1, (splS r).2) := fun r hr => by
    obtain ⟨h1, h2, h3, h4, _⟩ := exC_first r
    rw [splS_more (oct_seal.append hr) h1, hd, h2, h3, h4]
  have e0 : splS [] = ([], []) := splS_end (by decide)
  have e1 : splS (sealS 2 [5] [9]) = ([⟨2, [5], [9]⟩], []) := by
    have := hs [] Oct.nil
    rw [List.append_nil, e0] at this
    exact this
  rw [hs _ oct_seal, e1]

/-- What the examples have in memory. -/
structure Exm (w0 : World) (gi gd Bf gs cs S : Nat) (W : World) : Prop where
  b : Below w0.heap.size w0 W
  i : Rd (fun _ => True) W .i64 (some ⟨gi, 0, none⟩) 1 1 [5]
  d : Rd (fun _ => True) W .u8 (some ⟨gd, 0, none⟩) 1 1 [9]
  f : FileB W Bf 2 (.slice (some ⟨gi, 0, none⟩) 1 1) (.slice (some ⟨gd, 0, none⟩) 1 1)
  s : Rd (fun _ => True) W .u8 (some ⟨gs, 0, none⟩) 17 cs (sealS 2 [5] [9])
  p : Pair W S 33 (.slice (some ⟨gs, 0, none⟩) 17 cs) (.int .i64 0)
theorem Exm.below {w0 : World} {gi gd Bf gs cs S : Nat} {W V : World} (h : Exm w0 gi gd Bf gs cs S W) (hb : Below W.heap.size W V) : Exm w0 gi gd Bf gs cs S V :=
  ⟨h.b.trans (hb.mono h.b.size), h.i.below hb, h.d.below hb, h.f.below hb h.f.lt, h.s.below hb, h.p.below hb h.p.lt⟩

theorem fld57 (a e : Value) (w : World) : (Instr.field 33 (.agg #[a, e]) 1).run Try.prog w = .ok e w := by kernel_rfl
theorem fld65 (a b c d e : Value) (w : World) : (Instr.field 42 (.agg #[a, b, c, d, e]) 2).run Try.prog w = .ok e w := by kernel_rfl

/-- What reads as bytes. -/
def BytesF (zs : List Int) : Fact := fun v W => ∃ g n c, v = .slice (some ⟨g, 0, none⟩) n c ∧ Rd (fun _ => True) W .u8 (some ⟨g, 0, none⟩) n c zs
theorem bytesF_stable (zs : List Int) : (BytesF zs).Stable := fun _ _ _ ⟨g, n, c, e, h⟩ hb => ⟨g, n, c, e, h.below hb⟩
theorem rowF_near {base : Nat} {zs ys : List Int} {v : Value} {W : World} (h : RowF base zs v W) {K : Nat → Prop} {b off len cap : Nat} (hR : Rd K W .u8 (some ⟨b, off, none⟩) len cap ys) (h0 : 0 < len) (hb : base ≤ W.heap.size) (hl : zs.length + len ≤ 100000000) :
    ∃ v' w', (Builtin.append_ #[23, 23] 23 #[v, .slice (some ⟨b, off, none⟩) len cap]).run Try.prog W = .ok v' w' ∧ BytesF (zs ++ ys) v' w' ∧ Near base W w' := by
  obtain ⟨i0, hi, hz0, hz1, hz2⟩ := info_parts Try.infoB
  obtain ⟨g, c, rfl, h1, h2⟩ := h
  have hlen := hR.hl
  obtain ⟨b2, off2, e, _, _, hc⟩ := hR.cells h0
  cases e
  subst hlen
  obtain ⟨v', w', hr, h3, h4, h5⟩ := run_append_own (P := Try.prog) W base 23 23 5 i0 _ 1 1 Try.underlying23 hi hz0 hz1 hz2 rfl (by decide) _ zs.length _ h2 ⟨b, off, none⟩ ys.length cap (ys.map (Value.int .u8)) (by simp)
    (rd_cells hc) (fun u hu => by obtain ⟨x, _, rfl⟩ := List.mem_map.1 hu; rfl) (by unfold maxLen; omega) (by omega) hb
  have hne : ¬ v' = .slice none 0 0 := fun e => by have := (h5.1 e).1; cases this
  obtain ⟨g', cap', rfl, hn, hg⟩ := row_form h3 hne
  rw [← List.map_append] at h3
  refine ⟨_, w', hr, ⟨g', _, cap', rfl, (Rd.of_row (by simp) hn (by omega) h3).mono fun _ _ _ => trivial⟩, Near.grown h4 (fun k hk => ?_)⟩
  cases hk
  rcases h2.2 with ⟨h, _⟩ | ⟨g2, cap2, cur, h, hb2, hg2, _⟩
  · cases h
  · cases h; exact ⟨hb2, _, _, hg2⟩
/-- A variable for what splitting gives, empty. -/
def VarP (base : Nat) : Fact := fun v W => ∃ B, v = .pointer (some ⟨B, 0, none⟩) ∧ base ≤ B ∧ Pair W B 38 (.slice none 0 0) (.slice none 0 0)
theorem varP_stable (base : Nat) : (VarP base).Stable := fun _ _ _ ⟨B, e, h, p⟩ hb => ⟨B, e, h, p.below hb p.lt⟩
theorem varP_firm (base : Nat) : (VarP base).FirmN base := fun _ W _ ⟨B, e, h, p⟩ hb => ⟨B, e, h, (hb.block B p.lt (.inr (by
  rintro ⟨cs, fr, hx⟩
  have hp : W.heap[B]? = _ := p
  rw [hp] at hx
  injection hx with hx
  injection hx with _ hx _
  exact absurd hx (by decide)))).trans p⟩
theorem pair_ne {W : World} {T : Nat} {t : TypeId} {a1 a2 : Option Addr} {n1 c1 n2 c2 : Nat} (h : Pair W T t (.slice a1 n1 c1) (.slice a2 n2 c2)) {b off : Nat} {k : IntKind} {x : Int} (hc : W.cell? ⟨b, off, none⟩ = some (.int k x)) : b ≠ T := fun e => by
  subst e
  have hp : W.heap[b]? = _ := h
  unfold World.cell? at hc
  rw [hp] at hc
  have hc : (#[.slice a1 n1 c1, .slice a2 n2 c2] : Array Value)[off]? = some (.int k x) := hc
  rcases off with _ | _ | off <;> simp at hc
theorem Rd.ne {K : Nat → Prop} {W : World} {k : IntKind} {a : Option Addr} {n c : Nat} {zs : List Int} (hR : Rd K W k a n c zs) {T : Nat} {t : TypeId} {a1 a2 : Option Addr} {n1 c1 n2 c2 : Nat} (h : Pair W T t (.slice a1 n1 c1) (.slice a2 n2 c2)) : Rd (fun b => b ≠ T) W k a n c zs :=
  ⟨hR.hl, hR.fit, hR.top, hR.small, fun h0 => by
    obtain ⟨b, off, e, _, hlt, hc⟩ := hR.cells h0
    exact ⟨b, off, e, pair_ne h (hc 0 h0), hlt, hc⟩⟩
theorem RdFs.ne {K L : Nat → Prop} {W : World} {a : Option Addr} {n c : Nat} {fs : List Fl} (hR : RdFs K L W a n c fs) {T : Nat} {t : TypeId} {a1 a2 : Option Addr} {n1 c1 n2 c2 : Nat} (h : Pair W T t (.slice a1 n1 c1) (.slice a2 n2 c2)) : RdFs (fun b => b ≠ T) (fun b => b ≠ T) W a n c fs :=
  ⟨hR.hl, hR.fit, hR.top, hR.small, fun h0 => by
    obtain ⟨b, off, e, _, hlt, hc⟩ := hR.cells h0
    obtain ⟨e0, x0, _⟩ := hc 0 h0
    exact ⟨b, off, e, pair_ne h x0, hlt, fun j hj => by
      obtain ⟨e1, x1, x2, x3, x4⟩ := hc j hj
      exact ⟨e1, x1, x2, x3, x4.1, x4.2.1.ne h, x4.2.2.ne h⟩⟩⟩
/-- Two files, one behind the other. -/
def TwoFs (fs : List Fl) : Fact := fun v W => ∃ g, v = .slice (some ⟨g, 0, none⟩) 2 2 ∧ RdFs (fun _ => True) (fun _ => True) W (some ⟨g, 0, none⟩) 2 2 fs
theorem twoFs_stable (fs : List Fl) : (TwoFs fs).Stable := fun _ _ _ ⟨g, e, h⟩ hb => ⟨g, e, h.below hb⟩
theorem twoFs_new (W : World) {e : Fe} {f : Fl} (he : HoldsE (fun _ => True) W e f) : TwoFs [f, f] (.slice (some ⟨W.heap.size, 0, none⟩) 2 2) (W.alloc (.cells #[.int .i64 e.k, e.s1, e.s2, .int .i64 e.k, e.s1, e.s2] 25)) := by
  have h : (W.alloc (.cells #[.int .i64 e.k, e.s1, e.s2, .int .i64 e.k, e.s1, e.s2] 25)).heap[W.heap.size]? = some (.cells #[.int .i64 e.k, e.s1, e.s2, .int .i64 e.k, e.s1, e.s2] 25 (0, 0)) := World.alloc_heap_new W _
  have hb : Below W.heap.size W (W.alloc (.cells #[.int .i64 e.k, e.s1, e.s2, .int .i64 e.k, e.s1, e.s2] 25)) := (Below.refl _ _).alloc (Nat.le_refl _) _
  refine ⟨_, rfl, rfl, Nat.le_refl _, by decide, by decide, fun _ => ⟨_, 0, rfl, trivial, (Array.getElem?_eq_some_iff.1 h).1, fun j hj => ⟨e, ?_, ?_, ?_, ?_⟩⟩⟩
  · rcases (by omega : j = 0 ∨ j = 1) with rfl | rfl <;> (unfold World.cell?; rw [h]; rfl)
  · rcases (by omega : j = 0 ∨ j = 1) with rfl | rfl <;> (unfold World.cell?; rw [h]; rfl)
  · rcases (by omega : j = 0 ∨ j = 1) with rfl | rfl <;> (unfold World.cell?; rw [h]; rfl)
  · rcases (by omega : j = 0 ∨ j = 1) with rfl | rfl <;> exact he.below hb
/-- An opened file. -/
def OpnF (k : Int) (id data : List Int) : Fact := fun v W => ∃ a1 n1 c1 a2 n2 c2, v = .agg #[.int .i64 k, .slice a1 n1 c1, .slice a2 n2 c2, .slice none 0 0, .int .i64 0] ∧ Rd (fun _ => True) W .i64 a1 n1 c1 id ∧ Rd (fun _ => True) W .u8 a2 n2 c2 data
theorem opnF_stable (k : Int) (id data : List Int) : (OpnF k id data).Stable := fun _ _ _ ⟨a1, n1, c1, a2, n2, c2, e, h, h2⟩ hb => ⟨a1, n1, c1, a2, n2, c2, e, h.below hb, h2.below hb⟩
/-- A file without contents. -/
def BareF (k : Int) (id : List Int) : Fact := fun v W => ∃ a n c, v = .agg #[.int .i64 k, .slice a n c, .slice none 0 0] ∧ Rd (fun _ => True) W .i64 a n c id
theorem bareF_stable (k : Int) (id : List Int) : (BareF k id).Stable := fun _ _ _ ⟨a, n, c, e, h⟩ hb => ⟨a, n, c, e, h.below hb⟩
theorem intsF_new (W : World) (zs : List Int) (h : zs.length ≤ 1000 := by decide) : IntsF zs (.slice (some ⟨W.heap.size, 0, none⟩) zs.length zs.length) (W.alloc (.cells (zs.map (Value.int .i64)).toArray 3)) :=
  ⟨_, _, _, rfl, (Rd.new W .i64 3 zs zs.length rfl (by omega)).mono fun _ _ _ => trivial⟩
theorem exC_c1 : cmpF 2 [5] 2 [4, 9] = 1 := by decide
theorem exC_c2 : cmpF 2 [5] 2 [5] = 0 := by decide
theorem exC_c3 : cmpF 2 [5] 2 [5, 0] = -1 := by decide
/-- What splitting gives. -/
def PartsF (fs : List Fl) (r : List Int) : Fact := fun v W => ∃ a1 n1 c1 a2 n2 c2, v = .agg #[.slice a1 n1 c1, .slice a2 n2 c2] ∧ RdFs (fun _ => True) (fun _ => True) W a1 n1 c1 fs ∧ Rd (fun _ => True) W .u8 a2 n2 c2 r
theorem partsF_stable (fs : List Fl) (r : List Int) : (PartsF fs r).Stable := fun _ _ _ ⟨a1, n1, c1, a2, n2, c2, e, h, h2⟩ hb => ⟨a1, n1, c1, a2, n2, c2, e, h.below hb, h2.below hb⟩

set_option maxRecDepth 100000 in
set_option maxHeartbeats 4000000 in
theorem examples9_any (w : World) : Calls Try.prog 4 #[] w fun e V => e = .returned (.bool true) ∧ Below w.heap.size w V := by
  go_enter Try.func4, Try.ntmps4
  go_wp2_with fail
  have hw1 : Below w.heap.size w (w.alloc (.cells #[.int .i64 5] 3)) := (Below.refl _ _).alloc (Nat.le_refl _) _
  have hs1 : (w.alloc (.cells #[.int .i64 5] 3)).heap.size = w.heap.size + 1 := World.size_alloc ..
  have hi1 : Rd (fun b => w.heap.size ≤ b) (w.alloc (.cells #[.int .i64 5] 3)) .i64 (some ⟨w.heap.size, 0, none⟩) 1 1 [5] := Rd.new w .i64 3 [5] 1 rfl (by decide)
  generalize w.alloc (.cells #[.int .i64 5] 3) = w1 at *
  have hd2 : Rd (fun b => w1.heap.size ≤ b) (w1.alloc (.cells #[.int .u8 9] 5)) .u8 (some ⟨w1.heap.size, 0, none⟩) 1 1 [9] := Rd.new w1 .u8 5 [9] 1 rfl (by decide)
  have hb2 : Below w1.heap.size w1 (w1.alloc (.cells #[.int .u8 9] 5)) := (Below.refl _ _).alloc (Nat.le_refl _) _
  have hs2 : (w1.alloc (.cells #[.int .u8 9] 5)).heap.size = w.heap.size + 1 + 1 := by rw [World.size_alloc, hs1]
  rw [hs1] at hd2
  generalize w1.alloc (.cells #[.int .u8 9] 5) = w2 at *
  have hb3 : Below w2.heap.size w2 (w2.alloc (.cells #[.int .i64 2, .slice (some ⟨w.heap.size, 0, none⟩) 1 1, .slice (some ⟨w.heap.size + 1, 0, none⟩) 1 1] 25)) := (Below.refl _ _).alloc (Nat.le_refl _) _
  have hf3 := FileB.new w2 2 (.slice (some ⟨w.heap.size, 0, none⟩) 1 1) (.slice (some ⟨w.heap.size + 1, 0, none⟩) 1 1)
  rw [hs2] at hf3
  generalize w2.alloc (.cells #[.int .i64 2, .slice (some ⟨w.heap.size, 0, none⟩) 1 1, .slice (some ⟨w.heap.size + 1, 0, none⟩) 1 1] 25) = w3 at *
  have HI3 := Lib.hid ((hi1.below hb2).below hb3)
  have HD3 := Lib.hid (hd2.below hb3)
  have HF3 := Lib.hid hf3
  have HB3 : Hid (Below w.heap.size w w3) := (hw1.trans (hb2.mono hw1.size)).trans (hb3.mono (by omega))
  clear hw1 hs1 hi1 hd2 hb2 hs2 hb3 hf3
  generalize w.heap.size + 1 + 1 = Bf at *
  generalize w.heap.size + 1 = gd at *
  obtain ⟨gi, hgi⟩ : ∃ g, w.heap.size = g := ⟨_, rfl⟩
  rw [hgi] at HI3 HF3 ⊢
  have HGI := Lib.hid hgi
  clear hgi
  refine (sealed_any (k := 2) HI3.out HD3.out smalls5 oct9).mono ?_
  rintro e w4 ⟨hb, hp⟩
  obtain ⟨_, gs, ns, cs, rfl, hS⟩ := hp.resolve_right (fun c => c.1 exC_sealE)
  obtain rfl : ns = 17 := hS.hl.trans exC_len
  clear hp
  have HI4 := Lib.hid (HI3.out.below hb)
  have HD4 := Lib.hid (HD3.out.below hb)
  have HF4 := Lib.hid (HF3.out.below hb HF3.out.lt)
  have HB4 : Hid (Below w.heap.size w w4) := HB3.out.trans (hb.mono HB3.out.size)
  have HS4 := Lib.hid hS
  have hcs := hS.fit
  have hct := hS.top
  clear hb hS HI3 HD3 HF3 HB3
  have f57 := fld57
  have f65 := fld65
  go_wp2_with fail
  have hb5 : Below w4.heap.size w4 (w4.alloc (.cells #[.slice (some ⟨gs, 0, none⟩) 17 cs, .int .i64 0] 33)) := (Below.refl _ _).alloc (Nat.le_refl _) _
  have hp5 := Pair.new w4 33 (.slice (some ⟨gs, 0, none⟩) 17 cs) (.int .i64 0)
  have hs5 : (w4.alloc (.cells #[.slice (some ⟨gs, 0, none⟩) 17 cs, .int .i64 0] 33)).heap.size = w4.heap.size + 1 := World.size_alloc ..
  have hE5 : Exm w gi gd Bf gs cs w4.heap.size (w4.alloc (.cells #[.slice (some ⟨gs, 0, none⟩) 17 cs, .int .i64 0] 33)) :=
    ⟨HB4.out.trans (hb5.mono HB4.out.size), (HI4.out.below hb5).mono fun _ _ _ => trivial, (HD4.out.below hb5).mono fun _ _ _ => trivial, HF4.out.below hb5 HF4.out.lt, (HS4.out.below hb5).mono fun _ _ _ => trivial, hp5⟩
  generalize (w4.alloc (.cells #[.slice (some ⟨gs, 0, none⟩) 17 cs, .int .i64 0] 33)) = w5 at *
  have hb6 : Below w5.heap.size w5 (w5.alloc (.cells (([67, 72, 77, 2, 1, 10, 0, 1, 9] : List Int).map (Value.int .u8)).toArray 5)) := (Below.refl _ _).alloc (Nat.le_refl _) _
  have hl6 := Rd.new w5 .u8 5 [67, 72, 77, 2, 1, 10, 0, 1, 9] 9 rfl (by decide)
  have hE6 := hE5.below hb6
  rw [hs5] at hl6
  have e6 : (([67, 72, 77, 2, 1, 10, 0, 1, 9] : List Int).map (Value.int .u8)).toArray = #[.int .u8 67, .int .u8 72, .int .u8 77, .int .u8 2, .int .u8 1, .int .u8 10, .int .u8 0, .int .u8 1, .int .u8 9] := rfl
  rw [e6] at hl6 hE6
  generalize w5.alloc (.cells #[.int .u8 67, .int .u8 72, .int .u8 77, .int .u8 2, .int .u8 1, .int .u8 10, .int .u8 0, .int .u8 1, .int .u8 9] 5) = w6 at *
  have h9 := hE6.s.first9 9 (by decide)
  rw [exC_take9] at h9
  have HE6 := Lib.hid hE6
  clear hb5 hp5 hs5 hE5 hb6 hE6 e6 HI4 HD4 HF4 HB4 HS4
  refine (same_any h9 hl6).mono ?_
  rintro e w7 ⟨rfl, hb⟩
  rw [sameB_true rfl]
  have HE7 := Lib.hid (HE6.out.below hb)
  clear hb hl6 h9 HE6
  generalize w4.heap.size + 1 = g9 at *
  generalize w4.heap.size = S at *
  have p0 := HE7.out.p.c0
  have p1 := HE7.out.p.c1
  have nilI : ∀ W : World, Rd (fun _ => True) W .i64 none 0 0 [] := fun W => ⟨rfl, Nat.le_refl _, by decide, by decide, fun h => absurd h (by decide)⟩
  have nilB : ∀ W : World, Rd (fun _ => True) W .u8 none 0 0 [] := fun W => ⟨rfl, Nat.le_refl _, by decide, by decide, fun h => absurd h (by decide)⟩
  have NILI : Hid (∀ W : World, Rd (fun _ => True) W .i64 none 0 0 []) := nilI
  have NILB : Hid (∀ W : World, Rd (fun _ => True) W .u8 none 0 0 []) := nilB
  clear nilI nilB
  go_upto_region 5 with (first
    | (go_at_call 6; refine (sealed_any (k := 10) (NILI.out _) (NILB.out _) (fun x hx => by cases hx) (fun x hx => by cases hx)).mono ?_; rintro e w8 ⟨hb, hp⟩; obtain ⟨_, rfl⟩ := hp.resolve_left (fun c => absurd c.1 (by rw [exC_sealE10]; decide)); rw [exC_sealE10]; have HE8 := Lib.hid (HE7.out.below hb); clear hb hp p0 p1; have p0 := HE8.out.p.c0; have p1 := HE8.out.p.c1)
    | (go_at_call 14; refine (opened_any (HE8.out.s.first9 16 (by decide)) (oct_seal.take 16)).mono ?_; rintro e w9 ⟨hb, hp⟩; obtain ⟨_, rfl⟩ := hp.resolve_left (fun c => absurd c.1 (by rw [exC_short]; decide)); rw [exC_short]; have HE9 := Lib.hid (HE8.out.below hb); clear hb hp p0 p1))
  have p0 := HE9.out.p.c0
  have plt := HE9.out.p.lt
  have hb0 : Below w9.heap.size w9 (w9.alloc (.cells #[] 5)) := (Below.refl _ _).alloc (Nat.le_refl _) _
  obtain ⟨v', w10, hr, hrow, hbr⟩ := row0F_append (row0F_new w9 w9.heap.size (Nat.le_refl _)) (HE9.out.s.below hb0) hb0.size (by decide)
  obtain ⟨go, co, rfl, hco, hown⟩ := hrow
  rw [exC_len] at hr hco hown
  have HE10 := Lib.hid (HE9.out.below (hb0.trans (hbr.mono hb0.size)))
  have HB10 : Hid (Below w9.heap.size w9 w10) := hb0.trans (hbr.mono hb0.size)
  have HR := Lib.hid hr
  have HROW := Lib.hid hown
  have hfz := row_unfrozen (j := 0) hown
  have hcl := row_cell (j := 0) hown (by rw [exC_len]; decide)
  have hlt := row_lt hown
  have hst := row_store (j := 0) hown (.int .u8 66)
  rw [← List.map_set] at hst
  have hbase : w9.heap.size ≤ go := row_base hown
  have HST := Lib.hid hst
  clear hr hown hst hbr hb0
  go_upto_region 7 with (at_builtin; refine wpList_append_want (o := ⟨some 44, _, _, _, _, _⟩) _ rfl _ _ _ _ rfl _ _ rfl rfl _ _ HR.out ?_)
  clear HR hfz hcl hlt plt p0
  have hE11 : Exm w gi gd Bf gs cs S (w10.setCell ⟨go, 0, none⟩ (.int .u8 66)) := HE9.out.below (HB10.out.setCell hbase _)
  have hO11 : Rd (fun _ => True) (w10.setCell ⟨go, 0, none⟩ (.int .u8 66)) .u8 (some ⟨go, 0, none⟩) 17 co ((sealS 2 [5] [9]).set 0 66) := (Rd.of_row (by rw [List.length_set, exC_len]) hco (by decide) HST.out).mono fun _ _ _ => trivial
  generalize w10.setCell ⟨go, 0, none⟩ (.int .u8 66) = w11 at *
  have HE11 := Lib.hid hE11
  have HO11 := Lib.hid hO11
  clear hE11 hO11 HST HROW HB10 HE10 hbase
  refine wp_region_last (base := w11.heap.size) (us := [some 3, none, none, some 6, none, none, none, none, none]) (ws := [6]) (bs := [false, true, true, false, true, true, false, false, true]) (fs := [Row0F w11.heap.size, Fact.is (.pointer (some ⟨S, 0, none⟩)), Fact.is (.slice (some ⟨gs, 0, none⟩) 17 cs), RowF w11.heap.size (sealS 2 [5] [9]), Fact.is (.pointer (some ⟨S, 0, none⟩)), Fact.is (.slice (some ⟨gs, 0, none⟩) 17 cs), BytesF (sealS 2 [5] [9] ++ sealS 2 [5] [9]), PartsF [⟨2, [5], [9]⟩, ⟨2, [5], [9]⟩] [], VarP w11.heap.size]) 8 9 _ rfl rfl (by kernel_rfl) rfl (by kernel_rfl) (by kernel_rfl) (by kernel_rfl) (by kernel_rfl) (Nat.le_refl _) ⟨row0F_stable _, Fact.is_stable _, Fact.is_stable _, rowF_stable _ _, Fact.is_stable _, Fact.is_stable _, bytesF_stable _, partsF_stable _ _, varP_stable _, trivial⟩ ⟨(fun h => by cases h), (fun _ => Fact.is_firmN _ _), (fun _ => Fact.is_firmN _ _), (fun h => by cases h), (fun _ => Fact.is_firmN _ _), (fun _ => Fact.is_firmN _ _), (fun h => by cases h), (fun h => by cases h), (fun _ => varP_firm _), trivial⟩ ?_ ?_
  · exact ⟨by
        intro a W hA hB hd
        have HBX := Lib.hid hB
        exact stepN_of (step_lays (wanted_none rfl) (.slice (some ⟨W.heap.size, 0, none⟩) 0 0) (W.alloc (.cells #[] 5)) (by simp [execOp, go_sem]) ((Below.refl _ W).alloc (Nat.le_refl _) _) (row0F_new W _ HBX.out.size)),
      by
        intro a W hA hB hd
        have HBX := Lib.hid hB
        have p2 : a.eval (.tmp 2) = .pointer (some ⟨S, 0, none⟩) := hA.at 2 (by kernel_rfl)
        exact stepN_of (step_pure (wanted_none rfl) (.pointer (some ⟨S, 0, none⟩)) (by simp [execOp, go_sem, tm p2]) rfl),
      by
        intro a W hA hB hd
        obtain ⟨q0, -⟩ := hd
        have h48 : a.eval (.tmp 48) = .pointer (some ⟨S, 0, none⟩) := q0
        have HBX := Lib.hid hB
        have c0 := (HE11.out.below HBX.out).p.c0
        exact stepN_of (step_pure (wanted_none rfl) (.slice (some ⟨gs, 0, none⟩) 17 cs) (by simp [execOp, go_sem, tm h48, c0]) rfl),
      by
        intro a W hA hB hd
        obtain ⟨q0, q1, -⟩ := hd
        have h47 : (Row0F w11.heap.size) (a.eval (.tmp 47)) W := q0
        have h49 : a.eval (.tmp 49) = .slice (some ⟨gs, 0, none⟩) 17 cs := q1
        have HBX := Lib.hid hB
        obtain ⟨v', w', hr, z1, z2⟩ := row0F_append h47 (HE11.out.below HBX.out).s HBX.out.size (by decide)
        exact stepN_of (step_appendF (wanted_none rfl) (.tmp 47) (.tmp 49) 23 23 rfl h49 hr z2 z1),
      by
        intro a W hA hB hd
        have HBX := Lib.hid hB
        have p2 : a.eval (.tmp 2) = .pointer (some ⟨S, 0, none⟩) := hA.at 2 (by kernel_rfl)
        exact stepN_of (step_pure (wanted_none rfl) (.pointer (some ⟨S, 0, none⟩)) (by simp [execOp, go_sem, tm p2]) rfl),
      by
        intro a W hA hB hd
        obtain ⟨q0, -⟩ := hd
        have h51 : a.eval (.tmp 51) = .pointer (some ⟨S, 0, none⟩) := q0
        have HBX := Lib.hid hB
        have c0 := (HE11.out.below HBX.out).p.c0
        exact stepN_of (step_pure (wanted_none rfl) (.slice (some ⟨gs, 0, none⟩) 17 cs) (by simp [execOp, go_sem, tm h51, c0]) rfl),
      by
        intro a W hA hB hd
        obtain ⟨q0, q1, q2, -⟩ := hd
        have h50 : (RowF w11.heap.size (sealS 2 [5] [9])) (a.eval (.tmp 50)) W := q0
        have h52 : a.eval (.tmp 52) = .slice (some ⟨gs, 0, none⟩) 17 cs := q1
        have HBX := Lib.hid hB
        obtain ⟨v', w', hr, z1, z2⟩ := rowF_near h50 (HE11.out.below HBX.out).s (by decide) HBX.out.size (by rw [exC_len]; decide)
        exact stepN_append (wanted_none rfl) (.tmp 50) (.tmp 52) 23 23 rfl rfl h52 hr z2 z1,
      by
        intro a W hA hB hd
        obtain ⟨q0, q1, -⟩ := hd
        have h53 : (BytesF (sealS 2 [5] [9] ++ sealS 2 [5] [9])) (a.eval (.tmp 53)) W := q0
        have HBX := Lib.hid hB
        obtain ⟨g, n, c, e53, r53⟩ := h53
        exact stepN_of (step_calls (wanted_none rfl) rfl (vals := #[.slice (some ⟨g, 0, none⟩) n c]) (by simp [e53]) (enters_of Try.func11 (by kernel_rfl) rfl) ((parts_any r53 (oct_seal.append oct_seal) (by rw [r53.hl, List.length_append, exC_len]; decide)).mono fun e w' ⟨hb, a1, n1, c1, a2, n2, c2, he, hF, hR⟩ => ⟨_, he, ⟨a1, n1, c1, a2, n2, c2, rfl, by rw [← show (splS (sealS 2 [5] [9] ++ sealS 2 [5] [9])).1 = [⟨2, [5], [9]⟩, ⟨2, [5], [9]⟩] by rw [exC_split]]; exact hF.mono (fun _ _ _ => trivial) (fun _ _ _ => trivial), by rw [← show (splS (sealS 2 [5] [9] ++ sealS 2 [5] [9])).2 = [] by rw [exC_split]]; exact hR⟩, hb⟩)),
      by
        intro a W hA hB hd
        have HBX := Lib.hid hB
        exact stepN_of (step_lays (wanted_none rfl) (.pointer (some ⟨W.heap.size, 0, none⟩)) (W.alloc (.cells #[.slice none 0 0, .slice none 0 0] 38)) (by simp [execOp, go_sem]) ((Below.refl _ W).alloc (Nat.le_refl _) _) ⟨_, rfl, HBX.out.size, Pair.new W _ _ _⟩), trivial⟩
  · intro zx w12 hA hB hE
    have f54 : (PartsF [⟨2, [5], [9]⟩, ⟨2, [5], [9]⟩] []) (zx.eval (.tmp 54)) w12 := hE.2.2.2.2.2.2.2.1
    have f4 : (VarP w11.heap.size) (zx.eval (.tmp 4)) w12 := hE.2.2.2.2.2.2.2.2.1
    obtain ⟨T, e4, hT, hP⟩ := f4
    obtain ⟨la, ln, lc, ra, rn, rc, e54, hF, hR⟩ := f54
    have hE12 := HE11.out.below hB
    have hO12 := HO11.out.below hB
    have t0 := hP.c0
    have t1 := hP.c1
    have tf0 := hP.f 0
    have tf1 := hP.f 1
    have hp := hA.puts [47, 48, 49, 50, 51, 52, 53, 54, 4] (by kernel_rfl)
    have hK13 := (kept_set w12 T 0 (.slice la ln lc)).trans (kept_set _ T 1 (.slice ra rn rc))
    have hB13 : Below w11.heap.size w11 ((w12.setCell ⟨T, 0, none⟩ (.slice la ln lc)).setCell ⟨T, 1, none⟩ (.slice ra rn rc)) := (hB.setCell hT _).setCell hT _
    have hP13 : Pair ((w12.setCell ⟨T, 0, none⟩ (.slice la ln lc)).setCell ⟨T, 1, none⟩ (.slice ra rn rc)) T 38 (.slice la ln lc) (.slice ra rn rc) := by
      have h : w12.heap[T]? = _ := hP
      show ((w12.setCell ⟨T, 0, none⟩ (.slice la ln lc)).setCell ⟨T, 1, none⟩ (.slice ra rn rc)).heap[T]? = _
      simp [World.setCell, Array.getElem?_modify, h]
    unfold Oper.wp
    simp [execOp, go_sem, tm e4, tm e54, t0, t1, tf0, tf1]
    have hF13 := (hF.ne hP).kept hK13 (hK13)
    have hR13 := (hR.ne hP).kept hK13
    have hE13 := HE11.out.below hB13
    have hO13 := HO11.out.below hB13
    clear hF hR hE12 hO12 hE hK13 t0 t1 tf0 tf1 hP hA hB
    simp only [putAll, e4] at hp
    clear e4 e54
    generalize (w12.setCell ⟨T, 0, none⟩ (.slice la ln lc)).setCell ⟨T, 1, none⟩ (.slice ra rn rc) = w13 at *
    generalize zx.eval = ev7 at hp
    subst hp
    obtain rfl : rn = 0 := hR13.hl
    have HE13 := Lib.hid hE13
    have HO13 := Lib.hid hO13
    have HF13 := Lib.hid (hF13.mono (K' := fun _ => True) (L' := fun _ => True) (fun _ _ _ => trivial) (fun _ _ _ => trivial))
    have HP13 := Lib.hid hP13
    have HB13 : Hid (Below w.heap.size w w13) := hE13.b
    clear hE13 hO13 hF13 hR13 hP13 hB13 hT HE11 HO11 HE9 HE8 HE7
    go_upto_region 8 with fail
    simp only [Act.put, List.setIfInBounds_toArray, List.set_cons_succ, List.set_cons_zero]
    refine wp_region_facts (by kernel_rfl) (fs := [Fact.is (.slice (some ⟨go, 0, none⟩) 17 co), Fact.is (.agg #[.int .i64 0, .slice none 0 0, .slice none 0 0, .slice none 0 0, .int .i64 8]), Fact.is (.int .i64 8), Fact.is (.bool true), Fact.is (.bool true), Fact.is (.pointer (some ⟨S, 0, none⟩)), Fact.is (.slice (some ⟨gs, 0, none⟩) 17 cs), OpnF 2 [5] [9], Fact.is (.agg #[.int .i64 2, .slice (some ⟨gi, 0, none⟩) 1 1, .slice (some ⟨gd, 0, none⟩) 1 1]), Fact.is (.agg #[.int .i64 2, .slice (some ⟨gi, 0, none⟩) 1 1, .slice (some ⟨gd, 0, none⟩) 1 1, .slice none 0 0, .int .i64 0]), Fact.is (.bool true), Fact.is (.bool true), Fact.is (.bool true), Fact.is (.pointer (some ⟨T, 0, none⟩)), Fact.is (.slice la ln lc), Fact.is (.agg #[.int .i64 2, .slice (some ⟨gi, 0, none⟩) 1 1, .slice (some ⟨gd, 0, none⟩) 1 1]), Fact.is (.agg #[.int .i64 2, .slice (some ⟨gi, 0, none⟩) 1 1, .slice (some ⟨gd, 0, none⟩) 1 1]), TwoFs [⟨2, [5], [9]⟩, ⟨2, [5], [9]⟩], Fact.is (.bool true), Fact.is (.bool true), Fact.is (.bool true), Fact.is (.pointer (some ⟨T, 1, none⟩)), Fact.is (.slice ra 0 rc), Fact.is (.int .i64 0), Fact.is (.bool true), Fact.is (.bool true), Fact.is (.bool true), Fact.is (.agg #[.int .i64 2, .slice (some ⟨gi, 0, none⟩) 1 1, .slice (some ⟨gd, 0, none⟩) 1 1]), IntsF [4, 9], BareF 2 [4, 9], Fact.is (.int .i64 (1)), Fact.is (.bool true), Fact.is (.bool true), Fact.is (.bool true), Fact.is (.agg #[.int .i64 2, .slice (some ⟨gi, 0, none⟩) 1 1, .slice (some ⟨gd, 0, none⟩) 1 1]), IntsF [5], BareF 2 [5], Fact.is (.int .i64 (0)), Fact.is (.bool true), Fact.is (.bool true), Fact.is (.bool true), Fact.is (.agg #[.int .i64 2, .slice (some ⟨gi, 0, none⟩) 1 1, .slice (some ⟨gd, 0, none⟩) 1 1]), IntsF [5, 0], BareF 2 [5, 0], Fact.is (.int .i64 (-1)), Fact.is (.bool true), Fact.is (.bool true), Fact.is (.bool true)]) (by kernel_rfl) (by kernel_rfl) ⟨Fact.is_stable _, Fact.is_stable _, Fact.is_stable _, Fact.is_stable _, Fact.is_stable _, Fact.is_stable _, Fact.is_stable _, opnF_stable _ _ _, Fact.is_stable _, Fact.is_stable _, Fact.is_stable _, Fact.is_stable _, Fact.is_stable _, Fact.is_stable _, Fact.is_stable _, Fact.is_stable _, Fact.is_stable _, twoFs_stable _, Fact.is_stable _, Fact.is_stable _, Fact.is_stable _, Fact.is_stable _, Fact.is_stable _, Fact.is_stable _, Fact.is_stable _, Fact.is_stable _, Fact.is_stable _, Fact.is_stable _, intsF_stable _, bareF_stable _ _, Fact.is_stable _, Fact.is_stable _, Fact.is_stable _, Fact.is_stable _, Fact.is_stable _, intsF_stable _, bareF_stable _ _, Fact.is_stable _, Fact.is_stable _, Fact.is_stable _, Fact.is_stable _, Fact.is_stable _, intsF_stable _, bareF_stable _ _, Fact.is_stable _, Fact.is_stable _, Fact.is_stable _, Fact.is_stable _, trivial⟩ ?_ ?_
    · exact ⟨by
          intro a W hA hB hd
          have hB := Lib.hid hB
          have p3 : a.eval (.tmp 3) = .slice (some ⟨go, 0, none⟩) 17 co := hA.at 3 (by kernel_rfl)
          exact (step_pure (wanted_none rfl) (.slice (some ⟨go, 0, none⟩) 17 co) (by simp [execOp, go_sem, tm p3]) rfl),
        by
          intro a W hA hB hd
          obtain ⟨q0, -⟩ := hd
          have h55 : a.eval (.tmp 55) = .slice (some ⟨go, 0, none⟩) 17 co := q0
          have hB := Lib.hid hB
          exact (step_calls (wanted_none rfl) rfl (vals := #[.slice (some ⟨go, 0, none⟩) 17 co]) (by simp [h55]) (enters_of Try.func14 (by kernel_rfl) rfl) ((opened_any (HO13.out.below hB.out) (fun x hx => (List.mem_or_eq_of_mem_set hx).elim (oct_seal x) (fun e => by subst e; decide))).mono fun e w' ⟨hb, hp⟩ => ⟨_, (hp.resolve_left (fun c => absurd c.1 (by rw [exC_odd]; decide))).2, by rw [exC_odd]; rfl, hb⟩)),
        by
          intro a W hA hB hd
          obtain ⟨q0, -⟩ := hd
          have h56 : a.eval (.tmp 56) = .agg #[.int .i64 0, .slice none 0 0, .slice none 0 0, .slice none 0 0, .int .i64 8] := q0
          have hB := Lib.hid hB
          exact (step_pure (wanted_none rfl) (.int .i64 8) (by simp [execOp, go_sem, tm h56, f65]) rfl),
        by
          intro a W hA hB hd
          obtain ⟨q0, -⟩ := hd
          have h57 : a.eval (.tmp 57) = .int .i64 8 := q0
          have hB := Lib.hid hB
          exact (step_pure (wanted_none rfl) (.bool true) (by simp [execOp, go_sem, tm h57]) rfl),
        by
          intro a W hA hB hd
          obtain ⟨q0, q1, -⟩ := hd
          have h58 : a.eval (.tmp 58) = .bool true := q0
          have h56 : a.eval (.tmp 56) = .agg #[.int .i64 0, .slice none 0 0, .slice none 0 0, .slice none 0 0, .int .i64 8] := q1
          have hB := Lib.hid hB
          exact (step_pure (wanted_none rfl) (.bool true) (by simp [execOp, go_sem, tm h58]) rfl),
        by
          intro a W hA hB hd
          obtain ⟨q0, -⟩ := hd
          have h59 : a.eval (.tmp 59) = .bool true := q0
          have hB := Lib.hid hB
          have p2 : a.eval (.tmp 2) = .pointer (some ⟨S, 0, none⟩) := hA.at 2 (by kernel_rfl)
          exact (step_pure ((wanted_guard rfl 59 rfl h59).trans rfl) (.pointer (some ⟨S, 0, none⟩)) (by simp [execOp, go_sem, tm p2]) rfl),
        by
          intro a W hA hB hd
          obtain ⟨q0, q1, -⟩ := hd
          have h60 : a.eval (.tmp 60) = .pointer (some ⟨S, 0, none⟩) := q0
          have h59 : a.eval (.tmp 59) = .bool true := q1
          have hB := Lib.hid hB
          have c0 := (HE13.out.below hB.out).p.c0
          exact (step_pure ((wanted_guard rfl 59 rfl h59).trans rfl) (.slice (some ⟨gs, 0, none⟩) 17 cs) (by simp [execOp, go_sem, tm h60, c0]) rfl),
        by
          intro a W hA hB hd
          obtain ⟨q0, q1, q2, -⟩ := hd
          have h61 : a.eval (.tmp 61) = .slice (some ⟨gs, 0, none⟩) 17 cs := q0
          have h59 : a.eval (.tmp 59) = .bool true := q1
          have hB := Lib.hid hB
          exact (step_calls ((wanted_guard rfl 59 rfl h59).trans rfl) rfl (vals := #[.slice (some ⟨gs, 0, none⟩) 17 cs]) (by simp [h61]) (enters_of Try.func14 (by kernel_rfl) rfl) ((opened_any (HE13.out.below hB.out).s oct_seal).mono fun e w' ⟨hb, hp⟩ => by
            obtain ⟨_, a1, n1, c1, a2, n2, c2, he, hI, hD⟩ := hp.resolve_right (fun c => c.1 exC_open.1)
            rw [exC_open.2.1] at he
            rw [exC_open.2.2.1] at hI
            rw [exC_open.2.2.2] at hD
            exact ⟨_, he, ⟨a1, n1, c1, a2, n2, c2, rfl, hI.mono fun _ _ _ => trivial, hD.mono fun _ _ _ => trivial⟩, hb⟩)),
        by
          intro a W hA hB hd
          obtain ⟨q0, -⟩ := hd
          have h59 : a.eval (.tmp 59) = .bool true := q0
          have hB := Lib.hid hB
          have p1 : a.eval (.tmp 1) = .pointer (some ⟨Bf, 0, none⟩) := hA.at 1 (by kernel_rfl)
          have c0 := (HE13.out.below hB.out).f.c0
          have c1 := (HE13.out.below hB.out).f.c1
          have c2 := (HE13.out.below hB.out).f.c2
          exact (step_pure ((wanted_guard rfl 59 rfl h59).trans rfl) (.agg #[.int .i64 2, .slice (some ⟨gi, 0, none⟩) 1 1, .slice (some ⟨gd, 0, none⟩) 1 1]) (by simp [execOp, go_sem, tm p1, c0, c1, c2]) rfl),
        by
          intro a W hA hB hd
          obtain ⟨q0, q1, -⟩ := hd
          have h63 : a.eval (.tmp 63) = .agg #[.int .i64 2, .slice (some ⟨gi, 0, none⟩) 1 1, .slice (some ⟨gd, 0, none⟩) 1 1] := q0
          have h59 : a.eval (.tmp 59) = .bool true := q1
          have hB := Lib.hid hB
          exact (step_pure ((wanted_guard rfl 59 rfl h59).trans rfl) (.agg #[.int .i64 2, .slice (some ⟨gi, 0, none⟩) 1 1, .slice (some ⟨gd, 0, none⟩) 1 1, .slice none 0 0, .int .i64 0]) (by simp [execOp, go_sem, tm h63]) rfl),
        by
          intro a W hA hB hd
          obtain ⟨q0, q1, q2, q3, -⟩ := hd
          have h62 : (OpnF 2 [5] [9]) (a.eval (.tmp 62)) W := q0
          have h64 : a.eval (.tmp 64) = .agg #[.int .i64 2, .slice (some ⟨gi, 0, none⟩) 1 1, .slice (some ⟨gd, 0, none⟩) 1 1, .slice none 0 0, .int .i64 0] := q1
          have h59 : a.eval (.tmp 59) = .bool true := q3
          have hB := Lib.hid hB
          obtain ⟨xa, xn, xc, ya, yn, yc, eb, rb, rd⟩ := h62
          exact (step_calls ((wanted_guard rfl 59 rfl h59).trans rfl) rfl (vals := #[.agg #[.int .i64 2, .slice xa xn xc, .slice ya yn yc, .slice none 0 0, .int .i64 0], .agg #[.int .i64 2, .slice (some ⟨gi, 0, none⟩) 1 1, .slice (some ⟨gd, 0, none⟩) 1 1, .slice none 0 0, .int .i64 0]]) (by simp [eb, h64]) (enters_of Try.func13 (by kernel_rfl) rfl) ((same9_any rb rd (NILB.out W) (HE13.out.below hB.out).i (HE13.out.below hB.out).d (NILB.out W) (by rw [rb.hl]; decide) (by decide)).mono fun e w' ⟨he, hb⟩ => ⟨_, he, rfl, hb⟩)),
        by
          intro a W hA hB hd
          obtain ⟨q0, q1, -⟩ := hd
          have h59 : a.eval (.tmp 59) = .bool true := q0
          have h65 : a.eval (.tmp 65) = .bool true := q1
          have hB := Lib.hid hB
          exact (step_pure (wanted_none rfl) (.bool true) (by simp [execOp, go_sem, tm h59, tm h65]) rfl),
        by
          intro a W hA hB hd
          obtain ⟨q0, q1, -⟩ := hd
          have h66 : a.eval (.tmp 66) = .bool true := q0
          have h65 : a.eval (.tmp 65) = .bool true := q1
          have hB := Lib.hid hB
          exact (step_pure (wanted_none rfl) (.bool true) (by simp [execOp, go_sem, tm h66]) rfl),
        by
          intro a W hA hB hd
          obtain ⟨q0, -⟩ := hd
          have h67 : a.eval (.tmp 67) = .bool true := q0
          have hB := Lib.hid hB
          have p4 : a.eval (.tmp 4) = .pointer (some ⟨T, 0, none⟩) := hA.at 4 (by kernel_rfl)
          exact (step_pure ((wanted_guard rfl 67 rfl h67).trans rfl) (.pointer (some ⟨T, 0, none⟩)) (by simp [execOp, go_sem, tm p4]) rfl),
        by
          intro a W hA hB hd
          obtain ⟨q0, q1, -⟩ := hd
          have h68 : a.eval (.tmp 68) = .pointer (some ⟨T, 0, none⟩) := q0
          have h67 : a.eval (.tmp 67) = .bool true := q1
          have hB := Lib.hid hB
          have c0 := (HP13.out.below hB.out HP13.out.lt).c0
          exact (step_pure ((wanted_guard rfl 67 rfl h67).trans rfl) (.slice la ln lc) (by simp [execOp, go_sem, tm h68, c0]) rfl),
        by
          intro a W hA hB hd
          obtain ⟨q0, -⟩ := hd
          have h67 : a.eval (.tmp 67) = .bool true := q0
          have hB := Lib.hid hB
          have p1 : a.eval (.tmp 1) = .pointer (some ⟨Bf, 0, none⟩) := hA.at 1 (by kernel_rfl)
          have c0 := (HE13.out.below hB.out).f.c0
          have c1 := (HE13.out.below hB.out).f.c1
          have c2 := (HE13.out.below hB.out).f.c2
          exact (step_pure ((wanted_guard rfl 67 rfl h67).trans rfl) (.agg #[.int .i64 2, .slice (some ⟨gi, 0, none⟩) 1 1, .slice (some ⟨gd, 0, none⟩) 1 1]) (by simp [execOp, go_sem, tm p1, c0, c1, c2]) rfl),
        by
          intro a W hA hB hd
          obtain ⟨q0, -⟩ := hd
          have h67 : a.eval (.tmp 67) = .bool true := q0
          have hB := Lib.hid hB
          have p1 : a.eval (.tmp 1) = .pointer (some ⟨Bf, 0, none⟩) := hA.at 1 (by kernel_rfl)
          have c0 := (HE13.out.below hB.out).f.c0
          have c1 := (HE13.out.below hB.out).f.c1
          have c2 := (HE13.out.below hB.out).f.c2
          exact (step_pure ((wanted_guard rfl 67 rfl h67).trans rfl) (.agg #[.int .i64 2, .slice (some ⟨gi, 0, none⟩) 1 1, .slice (some ⟨gd, 0, none⟩) 1 1]) (by simp [execOp, go_sem, tm p1, c0, c1, c2]) rfl),
        by
          intro a W hA hB hd
          obtain ⟨q0, q1, q2, -⟩ := hd
          have h70 : a.eval (.tmp 70) = .agg #[.int .i64 2, .slice (some ⟨gi, 0, none⟩) 1 1, .slice (some ⟨gd, 0, none⟩) 1 1] := q0
          have h71 : a.eval (.tmp 71) = .agg #[.int .i64 2, .slice (some ⟨gi, 0, none⟩) 1 1, .slice (some ⟨gd, 0, none⟩) 1 1] := q1
          have h67 : a.eval (.tmp 67) = .bool true := q2
          have hB := Lib.hid hB
          exact (step_lays ((wanted_guard rfl 67 rfl h67).trans rfl) (.slice (some ⟨W.heap.size, 0, none⟩) 2 2) (W.alloc (.cells #[.int .i64 2, .slice (some ⟨gi, 0, none⟩) 1 1, .slice (some ⟨gd, 0, none⟩) 1 1, .int .i64 2, .slice (some ⟨gi, 0, none⟩) 1 1, .slice (some ⟨gd, 0, none⟩) 1 1] 25)) (by simp [execOp, go_sem, tm h70, tm h71]) ((Below.refl _ W).alloc (Nat.le_refl _) _) (twoFs_new W (e := ⟨2, some ⟨gi, 0, none⟩, 1, 1, some ⟨gd, 0, none⟩, 1, 1⟩) ⟨rfl, (HE13.out.below hB.out).i, (HE13.out.below hB.out).d⟩)),
        by
          intro a W hA hB hd
          obtain ⟨q0, q1, q2, q3, -⟩ := hd
          have h69 : a.eval (.tmp 69) = .slice la ln lc := q0
          have h72 : (TwoFs [⟨2, [5], [9]⟩, ⟨2, [5], [9]⟩]) (a.eval (.tmp 72)) W := q1
          have h67 : a.eval (.tmp 67) = .bool true := q2
          have hB := Lib.hid hB
          obtain ⟨g, eb, rb⟩ := h72
          exact (step_calls ((wanted_guard rfl 67 rfl h67).trans rfl) rfl (vals := #[.slice la ln lc, .slice (some ⟨g, 0, none⟩) 2 2]) (by simp [eb, h69]) (enters_of Try.func16 (by kernel_rfl) rfl) ((sameFiles_any (HF13.out.below hB.out) rb (by simp) (by simp)).mono fun e w' ⟨he, hb⟩ => ⟨_, he, rfl, hb⟩)),
        by
          intro a W hA hB hd
          obtain ⟨q0, q1, -⟩ := hd
          have h67 : a.eval (.tmp 67) = .bool true := q0
          have h73 : a.eval (.tmp 73) = .bool true := q1
          have hB := Lib.hid hB
          exact (step_pure (wanted_none rfl) (.bool true) (by simp [execOp, go_sem, tm h67, tm h73]) rfl),
        by
          intro a W hA hB hd
          obtain ⟨q0, q1, -⟩ := hd
          have h74 : a.eval (.tmp 74) = .bool true := q0
          have h73 : a.eval (.tmp 73) = .bool true := q1
          have hB := Lib.hid hB
          exact (step_pure (wanted_none rfl) (.bool true) (by simp [execOp, go_sem, tm h74]) rfl),
        by
          intro a W hA hB hd
          obtain ⟨q0, -⟩ := hd
          have h75 : a.eval (.tmp 75) = .bool true := q0
          have hB := Lib.hid hB
          have p4 : a.eval (.tmp 4) = .pointer (some ⟨T, 0, none⟩) := hA.at 4 (by kernel_rfl)
          exact (step_pure ((wanted_guard rfl 75 rfl h75).trans rfl) (.pointer (some ⟨T, 1, none⟩)) (by simp [execOp, go_sem, tm p4]) rfl),
        by
          intro a W hA hB hd
          obtain ⟨q0, q1, -⟩ := hd
          have h76 : a.eval (.tmp 76) = .pointer (some ⟨T, 1, none⟩) := q0
          have h75 : a.eval (.tmp 75) = .bool true := q1
          have hB := Lib.hid hB
          have c0 := (HP13.out.below hB.out HP13.out.lt).c1
          exact (step_pure ((wanted_guard rfl 75 rfl h75).trans rfl) (.slice ra 0 rc) (by simp [execOp, go_sem, tm h76, c0]) rfl),
        by
          intro a W hA hB hd
          obtain ⟨q0, q1, -⟩ := hd
          have h77 : a.eval (.tmp 77) = .slice ra 0 rc := q0
          have h75 : a.eval (.tmp 75) = .bool true := q1
          have hB := Lib.hid hB
          exact (step_pure ((wanted_guard rfl 75 rfl h75).trans rfl) (.int .i64 0) (by simp [go_sem, tm h77]) rfl),
        by
          intro a W hA hB hd
          obtain ⟨q0, q1, -⟩ := hd
          have h78 : a.eval (.tmp 78) = .int .i64 0 := q0
          have h75 : a.eval (.tmp 75) = .bool true := q1
          have hB := Lib.hid hB
          exact (step_pure ((wanted_guard rfl 75 rfl h75).trans rfl) (.bool true) (by simp [execOp, go_sem, tm h78]) rfl),
        by
          intro a W hA hB hd
          obtain ⟨q0, q1, -⟩ := hd
          have h75 : a.eval (.tmp 75) = .bool true := q0
          have h79 : a.eval (.tmp 79) = .bool true := q1
          have hB := Lib.hid hB
          exact (step_pure (wanted_none rfl) (.bool true) (by simp [execOp, go_sem, tm h75, tm h79]) rfl),
        by
          intro a W hA hB hd
          obtain ⟨q0, q1, -⟩ := hd
          have h80 : a.eval (.tmp 80) = .bool true := q0
          have h75 : a.eval (.tmp 75) = .bool true := q1
          have hB := Lib.hid hB
          exact (step_pure (wanted_none rfl) (.bool true) (by simp [execOp, go_sem, tm h80]) rfl),
        by
          intro a W hA hB hd
          obtain ⟨q0, -⟩ := hd
          have h81 : a.eval (.tmp 81) = .bool true := q0
          have hB := Lib.hid hB
          have p1 : a.eval (.tmp 1) = .pointer (some ⟨Bf, 0, none⟩) := hA.at 1 (by kernel_rfl)
          have c0 := (HE13.out.below hB.out).f.c0
          have c1 := (HE13.out.below hB.out).f.c1
          have c2 := (HE13.out.below hB.out).f.c2
          exact (step_pure ((wanted_guard rfl 81 rfl h81).trans rfl) (.agg #[.int .i64 2, .slice (some ⟨gi, 0, none⟩) 1 1, .slice (some ⟨gd, 0, none⟩) 1 1]) (by simp [execOp, go_sem, tm p1, c0, c1, c2]) rfl),
        by
          intro a W hA hB hd
          obtain ⟨q0, -⟩ := hd
          have h81 : a.eval (.tmp 81) = .bool true := q0
          have hB := Lib.hid hB
          exact (step_lays ((wanted_guard rfl 81 rfl h81).trans rfl) (.slice (some ⟨W.heap.size, 0, none⟩) 2 2) (W.alloc (.cells (([4, 9] : List Int).map (Value.int .i64)).toArray 3)) (by simp [execOp, go_sem]) ((Below.refl _ W).alloc (Nat.le_refl _) _) (intsF_new W [4, 9])),
        by
          intro a W hA hB hd
          obtain ⟨q0, q1, -⟩ := hd
          have h83 : (IntsF [4, 9]) (a.eval (.tmp 83)) W := q0
          have h81 : a.eval (.tmp 81) = .bool true := q1
          have hB := Lib.hid hB
          obtain ⟨xa, xn, xc, eb, rb⟩ := h83
          exact (step_pure ((wanted_guard rfl 81 rfl h81).trans rfl) (.agg #[.int .i64 2, .slice xa xn xc, .slice none 0 0]) (by simp [execOp, go_sem, tm eb]) ⟨xa, xn, xc, rfl, rb⟩),
        by
          intro a W hA hB hd
          obtain ⟨q0, q1, q2, q3, -⟩ := hd
          have h82 : a.eval (.tmp 82) = .agg #[.int .i64 2, .slice (some ⟨gi, 0, none⟩) 1 1, .slice (some ⟨gd, 0, none⟩) 1 1] := q0
          have h84 : (BareF 2 [4, 9]) (a.eval (.tmp 84)) W := q1
          have h81 : a.eval (.tmp 81) = .bool true := q2
          have hB := Lib.hid hB
          obtain ⟨xa, xn, xc, eb, rb⟩ := h84
          exact (step_calls ((wanted_guard rfl 81 rfl h81).trans rfl) rfl (vals := #[.agg #[.int .i64 2, .slice (some ⟨gi, 0, none⟩) 1 1, .slice (some ⟨gd, 0, none⟩) 1 1], .agg #[.int .i64 2, .slice xa xn xc, .slice none 0 0]]) (by simp [h82, eb]) (enters_of Try.func9 (by kernel_rfl) rfl) ((ccmp_any (k := 2) (k' := 2) (HE13.out.below hB.out).i rb _ _).mono fun e w' ⟨he, hb⟩ => ⟨_, he, by rw [exC_c1]; rfl, hb⟩)),
        by
          intro a W hA hB hd
          obtain ⟨q0, q1, -⟩ := hd
          have h85 : a.eval (.tmp 85) = .int .i64 (1) := q0
          have h81 : a.eval (.tmp 81) = .bool true := q1
          have hB := Lib.hid hB
          exact (step_pure ((wanted_guard rfl 81 rfl h81).trans rfl) (.bool true) (by simp [execOp, go_sem, tm h85]) rfl),
        by
          intro a W hA hB hd
          obtain ⟨q0, q1, -⟩ := hd
          have h81 : a.eval (.tmp 81) = .bool true := q0
          have h86 : a.eval (.tmp 86) = .bool true := q1
          have hB := Lib.hid hB
          exact (step_pure (wanted_none rfl) (.bool true) (by simp [execOp, go_sem, tm h81, tm h86]) rfl),
        by
          intro a W hA hB hd
          obtain ⟨q0, q1, -⟩ := hd
          have h87 : a.eval (.tmp 87) = .bool true := q0
          have h85 : a.eval (.tmp 85) = .int .i64 (1) := q1
          have hB := Lib.hid hB
          exact (step_pure (wanted_none rfl) (.bool true) (by simp [execOp, go_sem, tm h87]) rfl),
        by
          intro a W hA hB hd
          obtain ⟨q0, -⟩ := hd
          have h88 : a.eval (.tmp 88) = .bool true := q0
          have hB := Lib.hid hB
          have p1 : a.eval (.tmp 1) = .pointer (some ⟨Bf, 0, none⟩) := hA.at 1 (by kernel_rfl)
          have c0 := (HE13.out.below hB.out).f.c0
          have c1 := (HE13.out.below hB.out).f.c1
          have c2 := (HE13.out.below hB.out).f.c2
          exact (step_pure ((wanted_guard rfl 88 rfl h88).trans rfl) (.agg #[.int .i64 2, .slice (some ⟨gi, 0, none⟩) 1 1, .slice (some ⟨gd, 0, none⟩) 1 1]) (by simp [execOp, go_sem, tm p1, c0, c1, c2]) rfl),
        by
          intro a W hA hB hd
          obtain ⟨q0, -⟩ := hd
          have h88 : a.eval (.tmp 88) = .bool true := q0
          have hB := Lib.hid hB
          exact (step_lays ((wanted_guard rfl 88 rfl h88).trans rfl) (.slice (some ⟨W.heap.size, 0, none⟩) 1 1) (W.alloc (.cells (([5] : List Int).map (Value.int .i64)).toArray 3)) (by simp [execOp, go_sem]) ((Below.refl _ W).alloc (Nat.le_refl _) _) (intsF_new W [5])),
        by
          intro a W hA hB hd
          obtain ⟨q0, q1, -⟩ := hd
          have h90 : (IntsF [5]) (a.eval (.tmp 90)) W := q0
          have h88 : a.eval (.tmp 88) = .bool true := q1
          have hB := Lib.hid hB
          obtain ⟨xa, xn, xc, eb, rb⟩ := h90
          exact (step_pure ((wanted_guard rfl 88 rfl h88).trans rfl) (.agg #[.int .i64 2, .slice xa xn xc, .slice none 0 0]) (by simp [execOp, go_sem, tm eb]) ⟨xa, xn, xc, rfl, rb⟩),
        by
          intro a W hA hB hd
          obtain ⟨q0, q1, q2, q3, -⟩ := hd
          have h89 : a.eval (.tmp 89) = .agg #[.int .i64 2, .slice (some ⟨gi, 0, none⟩) 1 1, .slice (some ⟨gd, 0, none⟩) 1 1] := q0
          have h91 : (BareF 2 [5]) (a.eval (.tmp 91)) W := q1
          have h88 : a.eval (.tmp 88) = .bool true := q2
          have hB := Lib.hid hB
          obtain ⟨xa, xn, xc, eb, rb⟩ := h91
          exact (step_calls ((wanted_guard rfl 88 rfl h88).trans rfl) rfl (vals := #[.agg #[.int .i64 2, .slice (some ⟨gi, 0, none⟩) 1 1, .slice (some ⟨gd, 0, none⟩) 1 1], .agg #[.int .i64 2, .slice xa xn xc, .slice none 0 0]]) (by simp [h89, eb]) (enters_of Try.func9 (by kernel_rfl) rfl) ((ccmp_any (k := 2) (k' := 2) (HE13.out.below hB.out).i rb _ _).mono fun e w' ⟨he, hb⟩ => ⟨_, he, by rw [exC_c2]; rfl, hb⟩)),
        by
          intro a W hA hB hd
          obtain ⟨q0, q1, -⟩ := hd
          have h92 : a.eval (.tmp 92) = .int .i64 (0) := q0
          have h88 : a.eval (.tmp 88) = .bool true := q1
          have hB := Lib.hid hB
          exact (step_pure ((wanted_guard rfl 88 rfl h88).trans rfl) (.bool true) (by simp [execOp, go_sem, tm h92]) rfl),
        by
          intro a W hA hB hd
          obtain ⟨q0, q1, -⟩ := hd
          have h88 : a.eval (.tmp 88) = .bool true := q0
          have h93 : a.eval (.tmp 93) = .bool true := q1
          have hB := Lib.hid hB
          exact (step_pure (wanted_none rfl) (.bool true) (by simp [execOp, go_sem, tm h88, tm h93]) rfl),
        by
          intro a W hA hB hd
          obtain ⟨q0, q1, -⟩ := hd
          have h94 : a.eval (.tmp 94) = .bool true := q0
          have h92 : a.eval (.tmp 92) = .int .i64 (0) := q1
          have hB := Lib.hid hB
          exact (step_pure (wanted_none rfl) (.bool true) (by simp [execOp, go_sem, tm h94]) rfl),
        by
          intro a W hA hB hd
          obtain ⟨q0, -⟩ := hd
          have h95 : a.eval (.tmp 95) = .bool true := q0
          have hB := Lib.hid hB
          have p1 : a.eval (.tmp 1) = .pointer (some ⟨Bf, 0, none⟩) := hA.at 1 (by kernel_rfl)
          have c0 := (HE13.out.below hB.out).f.c0
          have c1 := (HE13.out.below hB.out).f.c1
          have c2 := (HE13.out.below hB.out).f.c2
          exact (step_pure ((wanted_guard rfl 95 rfl h95).trans rfl) (.agg #[.int .i64 2, .slice (some ⟨gi, 0, none⟩) 1 1, .slice (some ⟨gd, 0, none⟩) 1 1]) (by simp [execOp, go_sem, tm p1, c0, c1, c2]) rfl),
        by
          intro a W hA hB hd
          obtain ⟨q0, -⟩ := hd
          have h95 : a.eval (.tmp 95) = .bool true := q0
          have hB := Lib.hid hB
          exact (step_lays ((wanted_guard rfl 95 rfl h95).trans rfl) (.slice (some ⟨W.heap.size, 0, none⟩) 2 2) (W.alloc (.cells (([5, 0] : List Int).map (Value.int .i64)).toArray 3)) (by simp [execOp, go_sem]) ((Below.refl _ W).alloc (Nat.le_refl _) _) (intsF_new W [5, 0])),
        by
          intro a W hA hB hd
          obtain ⟨q0, q1, -⟩ := hd
          have h97 : (IntsF [5, 0]) (a.eval (.tmp 97)) W := q0
          have h95 : a.eval (.tmp 95) = .bool true := q1
          have hB := Lib.hid hB
          obtain ⟨xa, xn, xc, eb, rb⟩ := h97
          exact (step_pure ((wanted_guard rfl 95 rfl h95).trans rfl) (.agg #[.int .i64 2, .slice xa xn xc, .slice none 0 0]) (by simp [execOp, go_sem, tm eb]) ⟨xa, xn, xc, rfl, rb⟩),
        by
          intro a W hA hB hd
          obtain ⟨q0, q1, q2, q3, -⟩ := hd
          have h96 : a.eval (.tmp 96) = .agg #[.int .i64 2, .slice (some ⟨gi, 0, none⟩) 1 1, .slice (some ⟨gd, 0, none⟩) 1 1] := q0
          have h98 : (BareF 2 [5, 0]) (a.eval (.tmp 98)) W := q1
          have h95 : a.eval (.tmp 95) = .bool true := q2
          have hB := Lib.hid hB
          obtain ⟨xa, xn, xc, eb, rb⟩ := h98
          exact (step_calls ((wanted_guard rfl 95 rfl h95).trans rfl) rfl (vals := #[.agg #[.int .i64 2, .slice (some ⟨gi, 0, none⟩) 1 1, .slice (some ⟨gd, 0, none⟩) 1 1], .agg #[.int .i64 2, .slice xa xn xc, .slice none 0 0]]) (by simp [h96, eb]) (enters_of Try.func9 (by kernel_rfl) rfl) ((ccmp_any (k := 2) (k' := 2) (HE13.out.below hB.out).i rb _ _).mono fun e w' ⟨he, hb⟩ => ⟨_, he, by rw [exC_c3]; rfl, hb⟩)),
        by
          intro a W hA hB hd
          obtain ⟨q0, q1, -⟩ := hd
          have h99 : a.eval (.tmp 99) = .int .i64 (-1) := q0
          have h95 : a.eval (.tmp 95) = .bool true := q1
          have hB := Lib.hid hB
          exact (step_pure ((wanted_guard rfl 95 rfl h95).trans rfl) (.bool true) (by simp [execOp, go_sem, tm h99]) rfl),
        by
          intro a W hA hB hd
          obtain ⟨q0, q1, -⟩ := hd
          have h95 : a.eval (.tmp 95) = .bool true := q0
          have h100 : a.eval (.tmp 100) = .bool true := q1
          have hB := Lib.hid hB
          exact (step_pure (wanted_none rfl) (.bool true) (by simp [execOp, go_sem, tm h95, tm h100]) rfl),
        by
          intro a W hA hB hd
          obtain ⟨q0, q1, -⟩ := hd
          have h101 : a.eval (.tmp 101) = .bool true := q0
          have h99 : a.eval (.tmp 99) = .int .i64 (-1) := q1
          have hB := Lib.hid hB
          exact (step_pure (wanted_none rfl) (.bool true) (by simp [execOp, go_sem, tm h101]) rfl), trivial⟩
    · intro zx w14 hA hB hE
      have h0 : zx.eval (.tmp 0) = .bool true := hE.2.2.2.2.2.2.2.2.2.2.2.2.2.2.2.2.2.2.2.2.2.2.2.2.2.2.2.2.2.2.2.2.2.2.2.2.2.2.2.2.2.2.2.2.2.2.2.1
      have HB14 : Hid (Below w.heap.size w w14) := HB13.out.trans (hB.mono HB13.out.size)
      have hp := hA.puts [55, 56, 57, 58, 59, 60, 61, 62, 63, 64, 65, 66, 67, 68, 69, 70, 71, 72, 73, 74, 75, 76, 77, 78, 79, 80, 81, 82, 83, 84, 85, 86, 87, 88, 89, 90, 91, 92, 93, 94, 95, 96, 97, 98, 99, 100, 101, 0] (by kernel_rfl)
      clear hA hE
      simp only [putAll, h0] at hp
      clear h0 hB
      generalize zx.eval = ev8 at hp
      subst hp
      simp [Act.put]
      go_wp2
      go_ret
      exact ⟨rfl, HB14.out⟩

end Go.Proofs.Ytkfmgiacdlkmiaa
