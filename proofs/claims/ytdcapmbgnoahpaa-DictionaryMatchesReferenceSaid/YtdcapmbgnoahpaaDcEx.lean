/-
  Fixed calls, whose results the documentation determines, come out true.
-/
import Derived.Test.YtdcapmbgnoahpaaDcWrap
import Derived.Test.YtdcapmbgnoahpaaDcThm
namespace Go.Proofs.Ytdcapmbgnoahpaa
open Go Go.RowKit Go.Shelf Go.ChangeShapes Go.WideShapes Go.ChangeAt

theorem Rd.new5 (W : World) (k : IntKind) (t : TypeId) (zs : List Int) (n : Nat) (hn : n = zs.length) (hs : n ≤ 140737488351232) : Rd (fun b => W.heap.size ≤ b) (W.alloc (.cells (zs.map (Value.int k)).toArray t)) k (some ⟨W.heap.size, 0, none⟩) n n zs :=
  ⟨hn, Nat.le_refl _, by omega, hs, fun _ => ⟨W.heap.size, 0, rfl, Nat.le_refl _, by simp, fun j hj => by
    have h0 := World.alloc_heap_new W (.cells (zs.map (Value.int k)).toArray t)
    unfold World.cell?
    rw [h0]
    simp [List.getElem?_map, List.getElem?_eq_getElem (show j < zs.length by omega)]⟩⟩
theorem RdS.new5 (W : World) (t : TypeId) (ss : List (List UInt8)) (n : Nat) (hn : n = ss.length) (hs : n ≤ 8796093021952) (hw : ∀ s ∈ ss, s.length ≤ maxLen) : RdS (fun b => W.heap.size ≤ b) (W.alloc (.cells (ss.map encStr).toArray t)) (some ⟨W.heap.size, 0, none⟩) n n ss :=
  ⟨hn, Nat.le_refl _, by omega, hs, hw, fun _ => ⟨W.heap.size, 0, rfl, Nat.le_refl _, by simp, fun j hj => by
    have h0 := World.alloc_heap_new W (.cells (ss.map encStr).toArray t)
    unfold World.cell?
    rw [h0]
    simp [List.getElem?_map, List.getElem?_eq_getElem (show j < ss.length by omega), bsOf]⟩⟩
theorem wide_of {ss : List (List UInt8)} (h : ss.all (fun s => decide (s.length ≤ 255)) = true) : ∀ s ∈ ss, s.length ≤ maxLen := fun s hs => by
  have := List.all_eq_true.1 h s hs
  have : s.length ≤ 255 := by simpa using this
  unfold maxLen; omega
theorem oct_of5 (zs : List Int) (h : zs.all (fun x => decide (0 ≤ x ∧ x < 256)) = true) : Oct zs := fun x hx => by
  have := List.all_eq_true.1 h x hx
  simpa using this

/-! ### The example's lists -/

def exL : List (List UInt8) := [[98], [97, 98, 99], [97, 98], [98]]
def exD : List (List UInt8) := [[97, 98], [97, 98, 99], [98]]
def exB : List Int := [3, 0, 2, 97, 98, 2, 1, 99, 0, 1, 98]

theorem ex_inc : Inc exD := by decide +kernel
theorem ex_of : ofS exL = exD := by
  refine inc_ext (of_inc _) ex_inc fun x => ?_
  rw [mem_of]
  unfold exL exD
  simp only [List.mem_cons, List.not_mem_nil, or_false]
  constructor
  · rintro (h | h | h | h)
    · exact .inr (.inr h)
    · exact .inr (.inl h)
    · exact .inl h
    · exact .inr (.inr h)
  · rintro (h | h | h)
    · exact .inr (.inr (.inl h))
    · exact .inr (.inl h)
    · exact .inl h
theorem ex_vl : vlB exD = true := by decide +kernel
theorem ex_pk : pkD exD = exB := by
  have h0 : varN 3 = [3] := varN_lo (by decide)
  have h1 : varN 0 = [0] := varN_lo (by decide)
  have h2 : varN 2 = [2] := varN_lo (by decide)
  have h3 : varN 1 = [1] := varN_lo (by decide)
  have s1 : shN [] [97, 98] = 0 := by decide
  have s2 : shN [97, 98] [97, 98, 99] = 2 := by decide
  have s3 : shN [97, 98, 99] [98] = 0 := by decide
  have p1 : stP [] [97, 98] = [0, 2, 97, 98] := by unfold stP; rw [s1, h1, show ([97, 98] : List UInt8).length - 0 = 2 from rfl, h2]; rfl
  have p2 : stP [97, 98] [97, 98, 99] = [2, 1, 99] := by unfold stP; rw [s2, h2, show ([97, 98, 99] : List UInt8).length - 2 = 1 from rfl, h3]; rfl
  have p3 : stP [97, 98, 99] [98] = [0, 1, 98] := by unfold stP; rw [s3, h1, show ([98] : List UInt8).length - 0 = 1 from rfl, h3]; rfl
  unfold pkD exD
  simp only [ptP, p1, p2, p3]
  rw [show ([[97, 98], [97, 98, 99], [98]] : List (List UInt8)).length = 3 from rfl, h0]
  rfl
theorem ex_un : unD exB = (exD, 11, 0) := by
  have := un_pk ex_vl []
  rw [List.append_nil, ex_pk] at this
  exact this
theorem ex_bad1 : vlB [[98], [97]] = false := by decide +kernel
theorem ex_bad2 : vlB [[98], [98]] = false := by decide +kernel
theorem ex_short : (unD []).2.2 = 7 := by decide +kernel
theorem ex_form : (unD [1, 1, 0]).2.2 = 5 := by decide +kernel

theorem fieldC (v e : Value) (W : World) : (Instr.field 35 (.agg #[v, e]) 1).run Try.prog W = .ok e W := by kernel_rfl
theorem fieldL (v e : Value) (W : World) : (Instr.field 38 (.agg #[v, e]) 1).run Try.prog W = .ok e W := by kernel_rfl
theorem fieldP (v e : Value) (W : World) : (Instr.field 41 (.agg #[v, e]) 1).run Try.prog W = .ok e W := by kernel_rfl
theorem fieldU (d r e : Value) (W : World) : (Instr.field 48 (.agg #[d, r, e]) 2).run Try.prog W = .ok e W := by kernel_rfl

/-! ### The example's calls -/

theorem below_lit {W W' : World} {o : Obj} (hb : Below (W.alloc o).heap.size (W.alloc o) W') : Below W.heap.size W W' :=
  ((Below.refl _ W).alloc (Nat.le_refl _) _).trans (hb.mono (by simp))

def OfK (W : World) (e : Ending) (W' : World) : Prop := ∃ a n c, e = .returned (.slice a n c) ∧ RdS (fun _ => True) W' a n c exD ∧ Below W.heap.size W W'
theorem ex_Of (W : World) : Calls Try.prog 21 #[.slice (some ⟨W.heap.size, 0, none⟩) 4 4] (W.alloc (.cells #[.string ⟨#[98]⟩, .string ⟨#[97, 98, 99]⟩, .string ⟨#[97, 98]⟩, .string ⟨#[98]⟩] 9)) (OfK W) :=
  (of_any (RdS.new5 W 9 exL 4 rfl (by decide) (wide_of (by decide)))).mono fun e W' ⟨a, n, c, he, hr, hb⟩ => by
    rw [ex_of] at hr
    exact ⟨a, n, c, he, hr.mono (fun _ _ _ => trivial), below_lit hb⟩

def PkK (W : World) (e : Ending) (W' : World) : Prop := ∃ g n c : Nat, e = .returned (.agg #[.slice (some ⟨g, 0, none⟩) n c, .int .i64 0]) ∧ Rd (fun _ => True) W' .u8 (some ⟨g, 0, none⟩) n c exB ∧ Below W.heap.size W W'
theorem ex_packed {K : Nat → Prop} {W : World} {a : Option Addr} {n c : Nat} (h : RdS K W a n c exD) : Calls Try.prog 18 #[.slice a n c] W (PkK W) :=
  (packedW_good h ex_vl).mono fun e W' ⟨g, n, c, he, hr, hb⟩ => by
    rw [ex_pk] at hr
    exact ⟨g, n, c, he, hr.mono (fun _ _ _ => trivial), hb⟩

def CdK (W : World) (e : Ending) (W' : World) : Prop := ∃ g n : Nat, e = .returned (.agg #[.slice (some ⟨g, 0, none⟩) n n, .int .i64 0]) ∧ Rd (fun _ => True) W' .i64 (some ⟨g, 0, none⟩) n n [2, 0] ∧ Below W.heap.size W W'
theorem ex_codes {K : Nat → Prop} {W : World} {a : Option Addr} {n c : Nat} (h : RdS K W a n c exD) (B : Nat) (hB : W.heap.size = B) :
    Calls Try.prog 14 #[.slice a n c, .slice (some ⟨B, 0, none⟩) 2 2] (W.alloc (.cells #[.string ⟨#[98]⟩, .string ⟨#[97, 98]⟩] 9)) (CdK W) := by
  subst hB
  refine (codesW_good (h.below ((Below.refl _ _).alloc (Nat.le_refl _) _)) (RdS.new5 W 9 [[98], [97, 98]] 2 rfl (by decide) (wide_of (by decide))) ex_vl).mono fun e W' ⟨hb, hp⟩ => ?_
  rcases hp with ⟨_, g, n, he, hr⟩ | ⟨⟨s, hs, hn⟩, _⟩
  · rw [show ([[98], [97, 98]] : List (List UInt8)).map (fun s => ((exD.idxOf s : Nat) : Int)) = [2, 0] by decide +kernel] at hr
    exact ⟨g, n, he, hr.mono (fun _ _ _ => trivial), below_lit hb⟩
  · exact absurd (show s ∈ exD by simp only [List.mem_cons, List.not_mem_nil, or_false] at hs; rcases hs with rfl | rfl <;> decide) hn
theorem ex_none {K : Nat → Prop} {W : World} {a : Option Addr} {n c : Nat} (h : RdS K W a n c exD) (B : Nat) (hB : W.heap.size = B) :
    Calls Try.prog 14 #[.slice a n c, .slice (some ⟨B, 0, none⟩) 1 1] (W.alloc (.cells #[.string ⟨#[97]⟩] 9)) fun e W' => e = .returned (.agg #[.slice none 0 0, .int .i64 4]) ∧ Below W.heap.size W W' := by
  subst hB
  refine (codesW_good (h.below ((Below.refl _ _).alloc (Nat.le_refl _) _)) (RdS.new5 W 9 [[97]] 1 rfl (by decide) (wide_of (by decide))) ex_vl).mono fun e W' ⟨hb, hp⟩ => ?_
  rcases hp with ⟨hall, _⟩ | ⟨_, he⟩
  · exact absurd (hall [97] (List.mem_cons_self ..)) (by decide)
  · exact ⟨he, below_lit hb⟩
theorem ex_codesbad (W : World) (B : Nat) (hB : W.heap.size = B) :
    Calls Try.prog 14 #[.slice (some ⟨B, 0, none⟩) 2 2, .slice none 0 0] (W.alloc (.cells #[.string ⟨#[98]⟩, .string ⟨#[97]⟩] 9)) fun e W' => e = .returned (.agg #[.slice none 0 0, .int .i64 1]) ∧ Below W.heap.size W W' := by
  subst hB
  exact (codesW_bad (RdS.new5 W 9 [[98], [97]] 2 rfl (by decide) (wide_of (by decide))) ex_bad1 none 0 0).mono fun e W' ⟨he, hb⟩ => ⟨he, below_lit hb⟩
theorem ex_packbad (W : World) (B : Nat) (hB : W.heap.size = B) :
    Calls Try.prog 18 #[.slice (some ⟨B, 0, none⟩) 2 2] (W.alloc (.cells #[.string ⟨#[98]⟩, .string ⟨#[98]⟩] 9)) fun e W' => e = .returned (.agg #[.slice none 0 0, .int .i64 1]) ∧ Below W.heap.size W W' := by
  subst hB
  exact (packedW_bad (RdS.new5 W 9 [[98], [98]] 2 rfl (by decide) (wide_of (by decide))) ex_bad2).mono fun e W' ⟨he, hb⟩ => ⟨he, below_lit hb⟩
theorem ex_sameD {K : Nat → Prop} {W : World} {a : Option Addr} {n c : Nat} (h : RdS K W a n c exD) (B : Nat) (hB : W.heap.size = B) :
    Calls Try.prog 20 #[.slice a n c, .slice (some ⟨B, 0, none⟩) 3 3] (W.alloc (.cells #[.string ⟨#[97, 98]⟩, .string ⟨#[97, 98, 99]⟩, .string ⟨#[98]⟩] 9)) fun e W' => e = .returned (.bool true) ∧ Below W.heap.size W W' := by
  subst hB
  exact (sames_any (h.below ((Below.refl _ _).alloc (Nat.le_refl _) _)) (RdS.new5 W 9 exD 3 rfl (by decide) (wide_of (by decide)))).mono fun e W' ⟨he, hb⟩ => by
    rw [sameS_true rfl] at he
    exact ⟨he, below_lit hb⟩
theorem ex_sameS {K : Nat → Prop} {W : World} {a : Option Addr} {n c : Nat} (h : RdS K W a n c [[97, 98, 99], [97, 98, 99]]) (B : Nat) (hB : W.heap.size = B) :
    Calls Try.prog 20 #[.slice a n c, .slice (some ⟨B, 0, none⟩) 2 2] (W.alloc (.cells #[.string ⟨#[97, 98, 99]⟩, .string ⟨#[97, 98, 99]⟩] 9)) fun e W' => e = .returned (.bool true) ∧ Below W.heap.size W W' := by
  subst hB
  exact (sames_any (h.below ((Below.refl _ _).alloc (Nat.le_refl _) _)) (RdS.new5 W 9 [[97, 98, 99], [97, 98, 99]] 2 rfl (by decide) (wide_of (by decide)))).mono fun e W' ⟨he, hb⟩ => by
    rw [sameS_true rfl] at he
    exact ⟨he, below_lit hb⟩
theorem ex_ints {K : Nat → Prop} {W : World} {a : Option Addr} {n c : Nat} (h : Rd K W .i64 a n c [2, 0]) (B : Nat) (hB : W.heap.size = B) :
    Calls Try.prog 24 #[.slice a n c, .slice (some ⟨B, 0, none⟩) 2 2] (W.alloc (.cells #[.int .i64 2, .int .i64 0] 3)) fun e W' => e = .returned (.bool true) ∧ Below W.heap.size W W' := by
  subst hB
  exact (ints_any (h.below ((Below.refl _ _).alloc (Nat.le_refl _) _)) (Rd.new5 W .i64 3 [2, 0] 2 rfl (by decide))).mono fun e W' ⟨he, hb⟩ => by
    rw [sameB_true rfl] at he
    exact ⟨he, below_lit hb⟩
theorem ex_sameB {K : Nat → Prop} {W : World} {a : Option Addr} {n c : Nat} (h : Rd K W .u8 a n c exB) (B : Nat) (hB : W.heap.size = B) :
    Calls Try.prog 25 #[.slice a n c, .slice (some ⟨B, 0, none⟩) 11 11] (W.alloc (.cells #[.int .u8 3, .int .u8 0, .int .u8 2, .int .u8 97, .int .u8 98, .int .u8 2, .int .u8 1, .int .u8 99, .int .u8 0, .int .u8 1, .int .u8 98] 5)) fun e W' => e = .returned (.bool true) ∧ Below W.heap.size W W' := by
  subst hB
  exact (same_any (h.below ((Below.refl _ _).alloc (Nat.le_refl _) _)) (Rd.new5 W .u8 5 exB 11 rfl (by decide))).mono fun e W' ⟨he, hb⟩ => by
    rw [sameB_true rfl] at he
    exact ⟨he, below_lit hb⟩
def UnK (W : World) (e : Ending) (W' : World) : Prop := ∃ a1 n1 c1 a2 m, e = .returned (.agg #[.slice a1 n1 c1, .slice a2 m m, .int .i64 0]) ∧ RdS (fun _ => True) W' a1 n1 c1 exD ∧ Rd (fun _ => True) W' .u8 a2 m m [] ∧ Below W.heap.size W W'
theorem ex_unp {W : World} {a : Option Addr} {n c : Nat} (h : Rd (fun _ => True) W .u8 a n c exB) : Calls Try.prog 27 #[.slice a n c] W (UnK W) :=
  (unpackedW_good (oct_of5 exB (by decide)) h ex_un).mono fun e W' ⟨hb, a1, n1, c1, a2, m, he, hr1, hr2⟩ =>
    ⟨a1, n1, c1, a2, m, he, hr1.mono (fun _ _ _ => trivial), hr2.below hb, hb⟩
theorem ex_unp7 (W : World) : Calls Try.prog 27 #[.slice none 0 0] W fun e W' => e = .returned (.agg #[.slice none 0 0, .slice none 0 0, .int .i64 7]) ∧ Below W.heap.size W W' :=
  unpackedW_bad (K := fun _ => True) Oct.nil Rd.empty (by decide) ex_short
theorem ex_unp5 (W : World) (B : Nat) (hB : W.heap.size = B) : Calls Try.prog 27 #[.slice (some ⟨B, 0, none⟩) 3 3] (W.alloc (.cells #[.int .u8 1, .int .u8 1, .int .u8 0] 5)) fun e W' => e = .returned (.agg #[.slice none 0 0, .slice none 0 0, .int .i64 5]) ∧ Below W.heap.size W W' := by
  subst hB
  exact (unpackedW_bad (oct_of5 [1, 1, 0] (by decide)) (Rd.new5 W .u8 5 [1, 1, 0] 3 rfl (by decide)) (by decide) ex_form).mono fun e W' ⟨he, hb⟩ => ⟨he, below_lit hb⟩
theorem ex_equal {W : World} {a1 a2 a3 : Option Addr} {n1 c1 m n3 c3 : Nat} (h1 : RdS (fun _ => True) W a1 n1 c1 exD) (h2 : Rd (fun _ => True) W .u8 a2 m m []) (h3 : RdS (fun _ => True) W a3 n3 c3 exD) :
    Calls Try.prog 26 #[.agg #[.slice a1 n1 c1, .slice a2 m m, .int .i64 0], .agg #[.slice a3 n3 c3, .slice none 0 0, .int .i64 0]] W fun e W' => e = .returned (.bool true) ∧ Below W.heap.size W W' :=
  (equalD_any 0 0 h1 h2 h3 (Rd.empty (K := fun _ => True))).mono fun e W' ⟨he, hb⟩ => by
    rw [sameS_true rfl, sameB_true rfl] at he
    exact ⟨he, hb⟩
def StK (W : World) (e : Ending) (W' : World) : Prop := ∃ g n : Nat, e = .returned (.agg #[.slice (some ⟨g, 0, none⟩) n n, .int .i64 0]) ∧ RdS (fun _ => True) W' (some ⟨g, 0, none⟩) n n [[97, 98, 99], [97, 98, 99]] ∧ Below W.heap.size W W'
theorem ex_strings {K : Nat → Prop} {W : World} {a : Option Addr} {n c : Nat} (h : RdS K W a n c exD) (B : Nat) (hB : W.heap.size = B) :
    Calls Try.prog 16 #[.slice a n c, .slice (some ⟨B, 0, none⟩) 2 2] (W.alloc (.cells #[.int .i64 1, .int .i64 1] 3)) (StK W) := by
  subst hB
  refine (stringsW_good (h.below ((Below.refl _ _).alloc (Nat.le_refl _) _)) (Rd.new5 W .i64 3 [1, 1] 2 rfl (by decide)) (by decide) ex_vl).mono fun e W' ⟨hb, hp⟩ => ?_
  rcases hp with ⟨_, g, n, he, hr⟩ | ⟨⟨s, hs, hn⟩, _⟩
  · exact ⟨g, n, he, hr.mono (fun _ _ _ => trivial), below_lit hb⟩
  · have : s = 1 := by simpa using hs
    subst this
    exact absurd ⟨by decide, by decide⟩ hn
theorem ex_stringsbad {K : Nat → Prop} {W : World} {a : Option Addr} {n c : Nat} (h : RdS K W a n c exD) (B : Nat) (hB : W.heap.size = B) :
    Calls Try.prog 16 #[.slice a n c, .slice (some ⟨B, 0, none⟩) 1 1] (W.alloc (.cells #[.int .i64 3] 3)) fun e W' => e = .returned (.agg #[.slice none 0 0, .int .i64 1]) ∧ Below W.heap.size W W' := by
  subst hB
  refine (stringsW_good (h.below ((Below.refl _ _).alloc (Nat.le_refl _) _)) (Rd.new5 W .i64 3 [3] 1 rfl (by decide)) (by decide) ex_vl).mono fun e W' ⟨hb, hp⟩ => ?_
  rcases hp with ⟨hall, _⟩ | ⟨_, he⟩
  · exact absurd (hall 3 (List.mem_cons_self ..)).2 (by decide)
  · exact ⟨he, below_lit hb⟩
theorem ex_valid {K : Nat → Prop} {W : World} {a : Option Addr} {n c : Nat} (h : RdS K W a n c exD) : Calls Try.prog 22 #[.slice a n c] W fun e W' => e = .returned (.bool true) ∧ W = W' := by
  have := valid_any h
  rw [ex_vl] at this
  exact this
theorem ex_invalid (W : World) (B : Nat) (hB : W.heap.size = B) : Calls Try.prog 22 #[.slice (some ⟨B, 0, none⟩) 2 2] (W.alloc (.cells #[.string ⟨#[98]⟩, .string ⟨#[97]⟩] 9)) fun e W' => e = .returned (.bool false) ∧ Below W.heap.size W W' := by
  subst hB
  have := valid_any (RdS.new5 W 9 [[98], [97]] 2 rfl (by decide) (wide_of (by decide)))
  rw [ex_bad1] at this
  exact this.mono fun e W' ⟨he, hw⟩ => by subst hw; exact ⟨he, (Below.refl _ _).alloc (Nat.le_refl _) _⟩

/-- What lies there from the third call on. -/
structure ExSt (w V : World) (a : Option Addr) (n c gp np cp B2 gc nc B3 : Nat) : Prop where
  b : Below w.heap.size w V
  d : RdS (fun _ => True) V a n c exD
  p : Rd (fun _ => True) V .u8 (some ⟨gp, 0, none⟩) np cp exB
  q : Duo V B2 41 (.slice (some ⟨gp, 0, none⟩) np cp) (.int .i64 0)
  cd : Rd (fun _ => True) V .i64 (some ⟨gc, 0, none⟩) nc nc [2, 0]
  v : Duo V B3 35 (.slice (some ⟨gc, 0, none⟩) nc nc) (.int .i64 0)
theorem ExSt.later {w V U : World} {a : Option Addr} {n c gp np cp B2 gc nc B3 : Nat} (h : ExSt w V a n c gp np cp B2 gc nc B3) (hb : Below V.heap.size V U) : ExSt w U a n c gp np cp B2 gc nc B3 :=
  ⟨h.b.trans (hb.mono h.b.size), h.d.below hb, h.p.below hb, h.q.below hb h.q.lt, h.cd.below hb, h.v.below hb h.v.lt⟩

set_option maxRecDepth 100000 in
set_option maxHeartbeats 4000000 in
theorem examples5_any (w : World) : Calls Try.prog 10 #[] w fun e W' => e = .returned (.bool true) ∧ Below w.heap.size w W' := by
  have fC := fieldC
  have fL := fieldL
  have fP := fieldP
  have fU := fieldU
  go_enter Try.func10, Try.ntmps10
  go_wp2_with fail
  refine (ex_Of _).mono ?_
  rintro e w1 ⟨a, n, c, rfl, hD, hb⟩
  have HB1 := Lib.hid hb
  have HD1 := Lib.hid hD
  clear hb hD
  go_wp2_with fail
  refine (ex_packed HD1.out).mono ?_
  rintro e w2 ⟨gp, np, cp, rfl, hP, hb⟩
  have HB2 : Hid (Below w.heap.size w w2) := HB1.out.trans (hb.mono HB1.out.size)
  have HD2 := Lib.hid (HD1.out.below hb)
  have HP2 := Lib.hid hP
  clear hb hP HD1 HB1
  go_wp2_with fail
  -- the packed form in a variable
  have hbA : Below w2.heap.size w2 (w2.alloc (.cells #[.slice (some ⟨gp, 0, none⟩) np cp, .int .i64 0] 41)) := (Below.refl _ _).alloc (Nat.le_refl _) _
  have hpA := Duo.new w2 41 (.slice (some ⟨gp, 0, none⟩) np cp) (.int .i64 0)
  have HBA : Hid (Below w.heap.size w (w2.alloc (.cells #[.slice (some ⟨gp, 0, none⟩) np cp, .int .i64 0] 41))) := HB2.out.trans (hbA.mono HB2.out.size)
  have HDA := Lib.hid (HD2.out.below hbA)
  have HPA := Lib.hid (HP2.out.below hbA)
  have HZA : Hid ((w2.alloc (.cells #[.slice (some ⟨gp, 0, none⟩) np cp, .int .i64 0] 41)).heap.size = w2.heap.size + 1) := by show _ = _; simp
  have HQA := Lib.hid hpA
  clear hbA hpA HB2 HD2 HP2
  generalize w2.alloc (.cells #[.slice (some ⟨gp, 0, none⟩) np cp, .int .i64 0] 41) = VA at *
  obtain ⟨B2, hB2⟩ : ∃ B, w2.heap.size = B := ⟨_, rfl⟩
  rw [hB2] at HZA HQA
  refine (ex_codes HDA.out _ (by rw [HZA.out, hB2])).mono ?_
  rw [hB2]
  clear hB2
  rintro e w3 ⟨gc, nc, rfl, hC, hb⟩
  have HB3 : Hid (Below w.heap.size w w3) := HBA.out.trans (hb.mono HBA.out.size)
  have HD3 := Lib.hid (HDA.out.below hb)
  have HP3 := Lib.hid (HPA.out.below hb)
  have HQ3 := Lib.hid (HQA.out.below hb HQA.out.lt)
  have HC3 := Lib.hid hC
  clear hb hC HBA HDA HPA HQA HZA
  go_wp2_with fail
  -- the codes in a variable
  have HS4 : Hid (ExSt w (w3.alloc (.cells #[.slice (some ⟨gc, 0, none⟩) nc nc, .int .i64 0] 35)) a n c gp np cp B2 gc nc w3.heap.size) := by
    have hbA : Below w3.heap.size w3 (w3.alloc (.cells #[.slice (some ⟨gc, 0, none⟩) nc nc, .int .i64 0] 35)) := (Below.refl _ _).alloc (Nat.le_refl _) _
    exact ⟨HB3.out.trans (hbA.mono HB3.out.size), HD3.out.below hbA, HP3.out.below hbA, HQ3.out.below hbA HQ3.out.lt, HC3.out.below hbA, Duo.new w3 _ _ _⟩
  have HZ4 : Hid ((w3.alloc (.cells #[.slice (some ⟨gc, 0, none⟩) nc nc, .int .i64 0] 35)).heap.size = w3.heap.size + 1) := by show _ = _; simp
  clear HB3 HD3 HP3 HQ3 HC3
  generalize w3.alloc (.cells #[.slice (some ⟨gc, 0, none⟩) nc nc, .int .i64 0] 35) = w4 at *
  obtain ⟨B3, hB3⟩ : ∃ B, w3.heap.size = B := ⟨_, rfl⟩
  rw [hB3] at HZ4 HS4 ⊢
  clear hB3
  refine (ex_sameD HS4.out.d _ HZ4.out).mono ?_
  rintro e w5 ⟨rfl, hb⟩
  have HS5 := Lib.hid (HS4.out.later hb)
  clear hb HS4 HZ4
  have e0 := HS5.out.v.c0
  have e1 := HS5.out.v.c1
  go_wp2_with fail
  clear e0 e1
  refine (ex_ints HS5.out.cd _ rfl).mono ?_
  rintro e w6 ⟨rfl, hb⟩
  have HS6 := Lib.hid (HS5.out.later hb)
  clear hb HS5
  have e0 := HS6.out.q.c0
  have e1 := HS6.out.q.c1
  go_wp2_with fail
  clear e0 e1
  refine (ex_sameB HS6.out.p _ rfl).mono ?_
  rintro e w7 ⟨rfl, hb⟩
  have HS7 := Lib.hid (HS6.out.later hb)
  clear hb HS6
  have e0 := HS7.out.q.c0
  have e1 := HS7.out.q.c1
  go_wp2_with fail
  clear e0 e1
  refine (ex_unp HS7.out.p).mono ?_
  rintro e w8 ⟨a1, n1, c1, a2, m, rfl, hd, hr, hb⟩
  have HS8 := Lib.hid (HS7.out.later hb)
  have HD8 := Lib.hid hd
  have HR8 := Lib.hid hr
  clear hb hd hr HS7
  go_wp2_with fail
  refine (ex_equal HD8.out HR8.out HS8.out.d).mono ?_
  rintro e w9 ⟨rfl, hb⟩
  have HS9 := Lib.hid (HS8.out.later hb)
  clear hb HS8 HD8 HR8
  go_wp2_with fail
  refine (ex_strings HS9.out.d _ rfl).mono ?_
  rintro e w10 ⟨gs, ns, rfl, hs, hb⟩
  have HS10 := Lib.hid (HS9.out.later hb)
  have HL10 := Lib.hid hs
  clear hb hs HS9
  go_wp2_with fail
  have hbA : Below w10.heap.size w10 (w10.alloc (.cells #[.slice (some ⟨gs, 0, none⟩) ns ns, .int .i64 0] 38)) := (Below.refl _ _).alloc (Nat.le_refl _) _
  have HS11 := Lib.hid (HS10.out.later hbA)
  have HL11 := Lib.hid (HL10.out.below hbA)
  have HZ11 : Hid ((w10.alloc (.cells #[.slice (some ⟨gs, 0, none⟩) ns ns, .int .i64 0] 38)).heap.size = w10.heap.size + 1) := by show _ = _; simp
  clear hbA HS10 HL10
  generalize w10.alloc (.cells #[.slice (some ⟨gs, 0, none⟩) ns ns, .int .i64 0] 38) = w11 at *
  refine (ex_sameS HL11.out _ HZ11.out).mono ?_
  rintro e w12 ⟨rfl, hb⟩
  have HS12 := Lib.hid (HS11.out.later hb)
  clear hb HS11 HL11 HZ11
  go_wp2_with fail
  refine (ex_stringsbad HS12.out.d _ rfl).mono ?_
  rintro e w13 ⟨rfl, hb⟩
  have HS13 := Lib.hid (HS12.out.later hb)
  clear hb HS12
  go_wp2_with fail
  refine (ex_none HS13.out.d _ rfl).mono ?_
  rintro e w14 ⟨rfl, hb⟩
  have HS14 := Lib.hid (HS13.out.later hb)
  clear hb HS13
  go_wp2_with fail
  refine (ex_codesbad _ _ rfl).mono ?_
  rintro e w15 ⟨rfl, hb⟩
  have HS15 := Lib.hid (HS14.out.later hb)
  clear hb HS14
  go_wp2_with fail
  refine (ex_packbad _ _ rfl).mono ?_
  rintro e w16 ⟨rfl, hb⟩
  have HS16 := Lib.hid (HS15.out.later hb)
  clear hb HS15
  go_wp2_with fail
  refine (ex_unp7 _).mono ?_
  rintro e w17 ⟨rfl, hb⟩
  have HS17 := Lib.hid (HS16.out.later hb)
  clear hb HS16
  go_wp2_with fail
  refine (ex_unp5 _ _ rfl).mono ?_
  rintro e w18 ⟨rfl, hb⟩
  have HS18 := Lib.hid (HS17.out.later hb)
  clear hb HS17
  go_wp2_with fail
  refine (ex_valid HS18.out.d).mono ?_
  rintro e w' ⟨rfl, rfl⟩
  go_wp2_with fail
  refine (ex_invalid _ _ rfl).mono ?_
  rintro e w19 ⟨rfl, hb⟩
  have HS19 := Lib.hid (HS18.out.later hb)
  clear hb HS18
  go_wp2
  go_ret
  exact ⟨rfl, HS19.out.b⟩

end Go.Proofs.Ytdcapmbgnoahpaa
