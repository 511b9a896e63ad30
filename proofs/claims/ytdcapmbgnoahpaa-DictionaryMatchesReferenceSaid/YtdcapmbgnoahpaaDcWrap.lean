/-
  The law's own wrappers.
-/
import Derived.Test.YtdcapmbgnoahpaaDcUnpack
import Derived.Test.YtdcapmbgnoahpaaDcSame
namespace Go.Proofs.Ytdcapmbgnoahpaa
open Go Go.RowKit Go.Shelf Go.ChangeShapes Go.WideShapes Go.ChangeAt

/-- Two cells in a block of their own. -/
def Duo (W : World) (B : Nat) (t : TypeId) (a b : Value) : Prop := W.heap[B]? = some (.cells #[a, b] t (0, 0))
theorem Duo.lt {W : World} {B : Nat} {t : TypeId} {a b : Value} (h : Duo W B t a b) : B < W.heap.size := (Array.getElem?_eq_some_iff.1 h).1
theorem Duo.c0 {W : World} {B : Nat} {t : TypeId} {a b : Value} (h : Duo W B t a b) : W.cell? ⟨B, 0, none⟩ = some a := by simp [World.cell?, show W.heap[B]? = _ from h]
theorem Duo.c1 {W : World} {B : Nat} {t : TypeId} {a b : Value} (h : Duo W B t a b) : W.cell? ⟨B, 1, none⟩ = some b := by simp [World.cell?, show W.heap[B]? = _ from h]
theorem Duo.f {W : World} {B : Nat} {t : TypeId} {a b : Value} (h : Duo W B t a b) (o : Nat) : W.frozen? ⟨B, o, none⟩ = false := by simp [World.frozen?, show W.heap[B]? = _ from h]
theorem Duo.new (W : World) (t : TypeId) (a b : Value) : Duo (W.alloc (.cells #[a, b] t)) W.heap.size t a b := World.alloc_heap_new W _
theorem Duo.below {W V : World} {B n : Nat} {t : TypeId} {a b : Value} (h : Duo W B t a b) (hb : Below n W V) (hn : B < n) : Duo V B t a b := (hb.block B hn).trans h

theorem Rd.set5 {K : Nat → Prop} {W : World} {k : IntKind} {a : Option Addr} {len cap : Nat} {zs : List Int} (h : Rd K W k a len cap zs) (p : Addr) (v : Value) (hp : ¬ K p.block) : Rd K (W.setCell p v) k a len cap zs :=
  h.kept (Kept.of_grownBy (grownBy_set5 W p v) (fun r e => by cases e; exact hp))
theorem RdS.set5 {K : Nat → Prop} {W : World} {a : Option Addr} {len cap : Nat} {ss : List (List UInt8)} (h : RdS K W a len cap ss) (p : Addr) (v : Value) (hp : ¬ K p.block) : RdS K (W.setCell p v) a len cap ss :=
  h.kept (Kept.of_grownBy (grownBy_set5 W p v) (fun r e => by cases e; exact hp))

/-- What packing gives the law. -/
def PackedPost (W : World) (zs : List Int) (e : Ending) (W' : World) : Prop :=
  ∃ g n c : Nat, e = .returned (.agg #[.slice (some ⟨g, 0, none⟩) n c, .int .i64 0]) ∧ Rd (fun b => W.heap.size ≤ b) W' .u8 (some ⟨g, 0, none⟩) n c zs ∧ Below W.heap.size W W'

set_option maxHeartbeats 1000000 in
theorem packedW_good {K : Nat → Prop} {a : Option Addr} {len cap : Nat} {ss : List (List UInt8)} {W : World} (hR : RdS K W a len cap ss) (hv : vlB ss = true) :
    Calls Try.prog 18 #[.slice a len cap] W (PackedPost W (pkD ss)) := by
  have hb0 : Below W.heap.size W (W.alloc (.cells #[.slice none 0 0, .int .i64 0] 41)) := (Below.refl _ _).alloc (Nat.le_refl _) _
  have HP := Lib.hid (pack_good (hR.below hb0) hv)
  clear hR hv hb0
  go_enter Try.func18, Try.ntmps18
  go_wp2_with fail
  refine HP.out.mono ?_
  rintro e w1 ⟨g, n, c, rfl, hr, hb⟩
  have hp := (Duo.new W 41 (.slice none 0 0) (.int .i64 0)).below hb (by simp)
  have p0 := hp.c0
  have p1 := hp.c1
  have f0 := hp.f 0
  have f1 := hp.f 1
  have plt := hp.lt
  have HR : Hid (Rd (fun b => W.heap.size < b) w1 .u8 (some ⟨g, 0, none⟩) n c (pkD ss)) := hr.mono fun i _ h => by simp at h; omega
  have HB : Hid (Below W.heap.size W w1) := ((Below.refl _ _).alloc (Nat.le_refl _) _).trans (hb.mono (by simp))
  clear hb hp hr
  go_wp2
  refine bodyPost_ret (v := .agg #[.slice (some ⟨g, 0, none⟩) n c, .int .i64 0]) (by simp [results, Try.results18, go_sem, p0, p1]) rfl ⟨g, n, c, rfl, ?_, (HB.out.setCell (Nat.le_refl _) _).setCell (Nat.le_refl _) _⟩
  exact ((HR.out.set5 ⟨W.heap.size, 0, none⟩ _ (fun h => by have h : W.heap.size < W.heap.size := h; omega)).set5 ⟨W.heap.size, 1, none⟩ _ (fun h => by have h : W.heap.size < W.heap.size := h; omega)).mono fun i _ h => Nat.le_of_lt h

set_option maxHeartbeats 1000000 in
theorem packedW_bad {K : Nat → Prop} {a : Option Addr} {len cap : Nat} {ss : List (List UInt8)} {W : World} (hR : RdS K W a len cap ss) (hv : vlB ss = false) :
    Calls Try.prog 18 #[.slice a len cap] W fun e W' => e = .returned (.agg #[.slice none 0 0, .int .i64 1]) ∧ Below W.heap.size W W' := by
  have hb0 : Below W.heap.size W (W.alloc (.cells #[.slice none 0 0, .int .i64 0] 41)) := (Below.refl _ _).alloc (Nat.le_refl _) _
  have HP := Lib.hid (pack_bad (hR.below hb0) hv)
  clear hR hv hb0
  go_enter Try.func18, Try.ntmps18
  go_wp2_with fail
  refine HP.out.mono ?_
  rintro e w' ⟨rfl, rfl⟩
  go_wp2
  exact bodyPost_ret (v := .agg #[.slice none 0 0, .int .i64 1]) (by simp [results, Try.results18, go_sem]) rfl ⟨rfl, (Below.refl _ _).alloc (Nat.le_refl _) _⟩

/-- What reading gives the law. -/
def UnpackedPost (K : Nat → Prop) (bs : List Int) (W : World) (e : Ending) (W' : World) : Prop :=
  Below W.heap.size W W' ∧ (((unD bs).2.2 = 0 ∧ ∃ a1 n1 c1 a2 m, e = .returned (.agg #[.slice a1 n1 c1, .slice a2 m m, .int .i64 0]) ∧ RdS (fun b => W.heap.size ≤ b) W' a1 n1 c1 (unD bs).1 ∧ Rd K W .u8 a2 m m (bs.drop (unD bs).2.1)) ∨
    ((unD bs).2.2 ≠ 0 ∧ e = .returned (.agg #[.slice none 0 0, .slice none 0 0, .int .i64 (unD bs).2.2])))

set_option maxHeartbeats 1000000 in
theorem unpackedW_any {K : Nat → Prop} {a : Option Addr} {len cap : Nat} {bs : List Int} (ho : Oct bs) {W : World} (hR : Rd K W .u8 a len cap bs) :
    Calls Try.prog 27 #[.slice a len cap] W (UnpackedPost K bs W) := by
  have hb0 : Below W.heap.size W (W.alloc (.cells #[.slice none 0 0, .slice none 0 0, .int .i64 0] 48)) := (Below.refl _ _).alloc (Nat.le_refl _) _
  have HP := Lib.hid (unpack_dict ho ((hR.mono (K' := fun b => K b ∧ b < W.heap.size) fun b h1 h2 => ⟨h2, h1⟩).below hb0))
  have HB0 := Lib.hid hb0
  clear hR hb0
  go_enter Try.func27, Try.ntmps27
  go_wp2_with fail
  refine HP.out.mono ?_
  rintro e w1 ⟨hb, hp⟩
  have ht := (Tri5.new W 48 (.slice none 0 0) (.slice none 0 0) (.int .i64 0)).below hb (by simp)
  obtain ⟨p0, p1, p2⟩ := ht.cell
  have f0 := ht.f 0
  have f1 := ht.f 1
  have f2 := ht.f 2
  have plt := ht.lt
  have HB : Hid (Below W.heap.size W w1) := HB0.out.trans (hb.mono HB0.out.size)
  have hbs := hb.size
  clear hb ht HP
  rcases hp with ⟨he, a1, n1, c1, a2, m, rfl, hr1, hr2⟩ | ⟨he, rfl⟩
  · have HE := Lib.hid he
    have HR2 := Lib.hid (hr2.back5 HB0.out)
    have HR1 : Hid (RdS (fun b => W.heap.size < b) w1 a1 n1 c1 (unD bs).1) := hr1.mono fun i _ h => by simp at h; omega
    clear he hr1 hr2
    go_wp2
    refine bodyPost_ret (v := .agg #[.slice a1 n1 c1, .slice a2 m m, .int .i64 0]) (by simp [results, Try.results27, go_sem, p0, p1, p2]) rfl ⟨((HB.out.setCell (Nat.le_refl _) _).setCell (Nat.le_refl _) _).setCell (Nat.le_refl _) _, .inl ⟨HE.out, a1, n1, c1, a2, m, rfl, ?_, HR2.out⟩⟩
    exact (((HR1.out.set5 ⟨W.heap.size, 0, none⟩ _ (fun h => by have h : W.heap.size < W.heap.size := h; omega)).set5 ⟨W.heap.size, 1, none⟩ _ (fun h => by have h : W.heap.size < W.heap.size := h; omega)).set5 ⟨W.heap.size, 2, none⟩ _ (fun h => by have h : W.heap.size < W.heap.size := h; omega)).mono fun i _ h => Nat.le_of_lt h
  · have HE := Lib.hid he
    clear he
    obtain ⟨x, hx⟩ : ∃ x, (unD bs).2.2 = x := ⟨_, rfl⟩
    have HX := Lib.hid hx
    rw [hx]
    clear hx
    go_wp2
    exact bodyPost_ret (v := .agg #[.slice none 0 0, .slice none 0 0, .int .i64 x]) (by simp [results, Try.results27, go_sem, p0, p1, p2]) rfl ⟨((HB.out.setCell (Nat.le_refl _) _).setCell (Nat.le_refl _) _).setCell (Nat.le_refl _) _, .inr ⟨HE.out, by rw [HX.out]⟩⟩

theorem unpackedW_good {K : Nat → Prop} {a : Option Addr} {len cap : Nat} {bs : List Int} (ho : Oct bs) {W : World} (hR : Rd K W .u8 a len cap bs) {d : List (List UInt8)} {c : Nat} (h : unD bs = (d, c, 0)) :
    Calls Try.prog 27 #[.slice a len cap] W fun e W' => Below W.heap.size W W' ∧ ∃ a1 n1 c1 a2 m, e = .returned (.agg #[.slice a1 n1 c1, .slice a2 m m, .int .i64 0]) ∧ RdS (fun b => W.heap.size ≤ b) W' a1 n1 c1 d ∧ Rd K W .u8 a2 m m (bs.drop c) :=
  (unpackedW_any ho hR).mono fun e W' ⟨hb, hp⟩ => by
    rcases hp with ⟨_, a1, n1, c1, a2, m, he, hr1, hr2⟩ | ⟨h1, _⟩
    · rw [h] at hr1 hr2; exact ⟨hb, a1, n1, c1, a2, m, he, hr1, hr2⟩
    · rw [h] at h1; exact absurd rfl h1
theorem unpackedW_bad {K : Nat → Prop} {a : Option Addr} {len cap : Nat} {bs : List Int} (ho : Oct bs) {W : World} (hR : Rd K W .u8 a len cap bs) {x : Int} (hx : x ≠ 0) (h : (unD bs).2.2 = x) :
    Calls Try.prog 27 #[.slice a len cap] W fun e W' => e = .returned (.agg #[.slice none 0 0, .slice none 0 0, .int .i64 x]) ∧ Below W.heap.size W W' :=
  (unpackedW_any ho hR).mono fun e W' ⟨hb, hp⟩ => by
    rcases hp with ⟨h1, _⟩ | ⟨_, he⟩
    · exact absurd (h.symm.trans h1) hx
    · rw [h] at he; exact ⟨he, hb⟩

/-- What codes give the law. -/
def CodesWPost (W : World) (d l : List (List UInt8)) (e : Ending) (W' : World) : Prop :=
  Below W.heap.size W W' ∧ (((∀ s ∈ l, s ∈ d) ∧ ∃ g n : Nat, e = .returned (.agg #[.slice (some ⟨g, 0, none⟩) n n, .int .i64 0]) ∧ Rd (fun b => W.heap.size ≤ b) W' .i64 (some ⟨g, 0, none⟩) n n (l.map fun s => ((d.idxOf s : Nat) : Int))) ∨
    ((∃ s ∈ l, s ∉ d) ∧ e = .returned (.agg #[.slice none 0 0, .int .i64 4])))

set_option maxHeartbeats 1000000 in
theorem codesW_good {K K' : Nat → Prop} {a a' : Option Addr} {len cap len' cap' : Nat} {d l : List (List UInt8)} {W : World} (hR : RdS K W a len cap d) (hR' : RdS K' W a' len' cap' l) (hv : vlB d = true) :
    Calls Try.prog 14 #[.slice a len cap, .slice a' len' cap'] W (CodesWPost W d l) := by
  have hb0 : Below W.heap.size W (W.alloc (.cells #[.slice none 0 0, .int .i64 0] 35)) := (Below.refl _ _).alloc (Nat.le_refl _) _
  have HP := Lib.hid (codes_good (hR.below hb0) (hR'.below hb0) hv)
  have HB0 := Lib.hid hb0
  clear hR hR' hv hb0
  go_enter Try.func14, Try.ntmps14
  go_wp2_with fail
  refine HP.out.mono ?_
  rintro e w1 ⟨hb, hp⟩
  have ht := (Duo.new W 35 (.slice none 0 0) (.int .i64 0)).below hb (by simp)
  have p0 := ht.c0
  have p1 := ht.c1
  have f0 := ht.f 0
  have f1 := ht.f 1
  have plt := ht.lt
  have HB : Hid (Below W.heap.size W w1) := HB0.out.trans (hb.mono HB0.out.size)
  clear hb ht HP
  rcases hp with ⟨hall, g, n, rfl, hr⟩ | ⟨hno, rfl⟩
  · have HA := Lib.hid hall
    have HR : Hid (Rd (fun b => W.heap.size < b) w1 .i64 (some ⟨g, 0, none⟩) n n (l.map fun s => ((d.idxOf s : Nat) : Int))) := hr.mono fun i _ h => by simp at h; omega
    clear hall hr
    go_wp2
    refine bodyPost_ret (v := .agg #[.slice (some ⟨g, 0, none⟩) n n, .int .i64 0]) (by simp [results, Try.results14, go_sem, p0, p1]) rfl ⟨(HB.out.setCell (Nat.le_refl _) _).setCell (Nat.le_refl _) _, .inl ⟨HA.out, g, n, rfl, ?_⟩⟩
    exact ((HR.out.set5 ⟨W.heap.size, 0, none⟩ _ (fun h => by have h : W.heap.size < W.heap.size := h; omega)).set5 ⟨W.heap.size, 1, none⟩ _ (fun h => by have h : W.heap.size < W.heap.size := h; omega)).mono fun i _ h => Nat.le_of_lt h
  · have HN := Lib.hid hno
    clear hno
    go_wp2
    exact bodyPost_ret (v := .agg #[.slice none 0 0, .int .i64 4]) (by simp [results, Try.results14, go_sem, p0, p1]) rfl ⟨(HB.out.setCell (Nat.le_refl _) _).setCell (Nat.le_refl _) _, .inr ⟨HN.out, rfl⟩⟩

set_option maxHeartbeats 1000000 in
theorem codesW_bad {K : Nat → Prop} {a : Option Addr} {len cap : Nat} {d : List (List UInt8)} {W : World} (hR : RdS K W a len cap d) (hv : vlB d = false) (a' : Option Addr) (len' cap' : Nat) :
    Calls Try.prog 14 #[.slice a len cap, .slice a' len' cap'] W fun e W' => e = .returned (.agg #[.slice none 0 0, .int .i64 1]) ∧ Below W.heap.size W W' := by
  have hb0 : Below W.heap.size W (W.alloc (.cells #[.slice none 0 0, .int .i64 0] 35)) := (Below.refl _ _).alloc (Nat.le_refl _) _
  have HP := Lib.hid (codes_bad (hR.below hb0) hv (.slice a' len' cap'))
  clear hR hv hb0
  go_enter Try.func14, Try.ntmps14
  go_wp2_with fail
  refine HP.out.mono ?_
  rintro e w' ⟨rfl, rfl⟩
  go_wp2
  exact bodyPost_ret (v := .agg #[.slice none 0 0, .int .i64 1]) (by simp [results, Try.results14, go_sem]) rfl ⟨rfl, (Below.refl _ _).alloc (Nat.le_refl _) _⟩

/-- What strings give the law. -/
def StringsWPost (W : World) (d : List (List UInt8)) (cs : List Int) (e : Ending) (W' : World) : Prop :=
  Below W.heap.size W W' ∧ (((∀ c ∈ cs, InD d c) ∧ ∃ g n : Nat, e = .returned (.agg #[.slice (some ⟨g, 0, none⟩) n n, .int .i64 0]) ∧ RdS (fun b => W.heap.size ≤ b) W' (some ⟨g, 0, none⟩) n n (cs.map (strD d))) ∨
    ((∃ c ∈ cs, ¬ InD d c) ∧ e = .returned (.agg #[.slice none 0 0, .int .i64 1])))

set_option maxHeartbeats 1000000 in
theorem stringsW_good {K K' : Nat → Prop} {a a' : Option Addr} {len cap len' cap' : Nat} {d : List (List UInt8)} {cs : List Int} {W : World} (hR : RdS K W a len cap d) (hR' : Rd K' W .i64 a' len' cap' cs) (hs13 : len' ≤ 8796093021952) (hv : vlB d = true) :
    Calls Try.prog 16 #[.slice a len cap, .slice a' len' cap'] W (StringsWPost W d cs) := by
  have hb0 : Below W.heap.size W (W.alloc (.cells #[.slice none 0 0, .int .i64 0] 38)) := (Below.refl _ _).alloc (Nat.le_refl _) _
  have HP := Lib.hid (strings_good (hR.below hb0) (hR'.below hb0) hs13 hv)
  have HB0 := Lib.hid hb0
  clear hR hR' hv hb0
  go_enter Try.func16, Try.ntmps16
  go_wp2_with fail
  refine HP.out.mono ?_
  rintro e w1 ⟨hb, hp⟩
  have ht := (Duo.new W 38 (.slice none 0 0) (.int .i64 0)).below hb (by simp)
  have p0 := ht.c0
  have p1 := ht.c1
  have f0 := ht.f 0
  have f1 := ht.f 1
  have plt := ht.lt
  have HB : Hid (Below W.heap.size W w1) := HB0.out.trans (hb.mono HB0.out.size)
  clear hb ht HP
  rcases hp with ⟨hall, g, n, rfl, hr⟩ | ⟨hno, rfl⟩
  · have HA := Lib.hid hall
    have HR : Hid (RdS (fun b => W.heap.size < b) w1 (some ⟨g, 0, none⟩) n n (cs.map (strD d))) := hr.mono fun i _ h => by simp at h; omega
    clear hall hr
    go_wp2
    refine bodyPost_ret (v := .agg #[.slice (some ⟨g, 0, none⟩) n n, .int .i64 0]) (by simp [results, Try.results16, go_sem, p0, p1]) rfl ⟨(HB.out.setCell (Nat.le_refl _) _).setCell (Nat.le_refl _) _, .inl ⟨HA.out, g, n, rfl, ?_⟩⟩
    exact ((HR.out.set5 ⟨W.heap.size, 0, none⟩ _ (fun h => by have h : W.heap.size < W.heap.size := h; omega)).set5 ⟨W.heap.size, 1, none⟩ _ (fun h => by have h : W.heap.size < W.heap.size := h; omega)).mono fun i _ h => Nat.le_of_lt h
  · have HN := Lib.hid hno
    clear hno
    go_wp2
    exact bodyPost_ret (v := .agg #[.slice none 0 0, .int .i64 1]) (by simp [results, Try.results16, go_sem, p0, p1]) rfl ⟨(HB.out.setCell (Nat.le_refl _) _).setCell (Nat.le_refl _) _, .inr ⟨HN.out, rfl⟩⟩

set_option maxHeartbeats 1000000 in
theorem stringsW_bad {K : Nat → Prop} {a : Option Addr} {len cap : Nat} {d : List (List UInt8)} {W : World} (hR : RdS K W a len cap d) (hv : vlB d = false) (a' : Option Addr) (len' cap' : Nat) :
    Calls Try.prog 16 #[.slice a len cap, .slice a' len' cap'] W fun e W' => e = .returned (.agg #[.slice none 0 0, .int .i64 1]) ∧ Below W.heap.size W W' := by
  have hb0 : Below W.heap.size W (W.alloc (.cells #[.slice none 0 0, .int .i64 0] 38)) := (Below.refl _ _).alloc (Nat.le_refl _) _
  have HP := Lib.hid (strings_bad (hR.below hb0) hv (.slice a' len' cap'))
  clear hR hv hb0
  go_enter Try.func16, Try.ntmps16
  go_wp2_with fail
  refine HP.out.mono ?_
  rintro e w' ⟨rfl, rfl⟩
  go_wp2
  exact bodyPost_ret (v := .agg #[.slice none 0 0, .int .i64 1]) (by simp [results, Try.results16, go_sem]) rfl ⟨rfl, (Below.refl _ _).alloc (Nat.le_refl _) _⟩

end Go.Proofs.Ytdcapmbgnoahpaa
