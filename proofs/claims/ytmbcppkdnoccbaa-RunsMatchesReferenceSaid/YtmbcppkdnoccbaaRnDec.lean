/-
  What is decoded.
-/
import Derived.Test.YtmbcppkdnoccbaaRnEnc
namespace Go.Proofs.Ytmbcppkdnoccbaa
open Go.RowKit Go.Shelf Go.ChangeShapes Go.WideShapes Go.ChangeAt

/-- What is unpacked in the form k. -/
def upkS (k : Nat) (bs : List Int) : List Int × Nat × Int :=
  match k with
  | 0 => unS bs
  | 1 => urS bs
  | 2 => smU (unS bs)
  | _ => smU (urS bs)
/-- The list, how many bytes it took, the error. -/
def deS (bs : List Int) : List Int × Nat × Int :=
  if bs = [] then ([], 0, 7) else if (4 : Int) ≤ bs[0]?.getD 0 then ([], 0, 5) else
  if (upkS (bs[0]?.getD 0).toNat (bs.drop 1)).2.2 ≠ 0 then ([], 0, (upkS (bs[0]?.getD 0).toNat (bs.drop 1)).2.2) else
  if kindS (upkS (bs[0]?.getD 0).toNat (bs.drop 1)).1 ≠ (bs[0]?.getD 0).toNat then ([], 0, 5) else
  ((upkS (bs[0]?.getD 0).toNat (bs.drop 1)).1, (upkS (bs[0]?.getD 0).toNat (bs.drop 1)).2.1 + 1, 0)

theorem upk_smalls (k : Nat) (bs : List Int) : Smalls (upkS k bs).1 := by
  unfold upkS
  split
  · exact un_smalls4 bs
  · exact ur_smalls bs
  · exact sm_smalls (un_smalls4 bs)
  · exact sm_smalls (ur_smalls bs)
theorem upk_len {k : Nat} {bs : List Int} (ho : Oct bs) (h : (upkS k bs).2.2 = 0) : (upkS k bs).1.length ≤ 4096 := by
  unfold upkS at h ⊢
  split at h
  · exact un_len ho h
  · exact ur_len h
  · show (smS _).length ≤ _; rw [sm_length]; exact un_len ho h
  · show (smS _).length ≤ _; rw [sm_length]; exact ur_len h

theorem de_bad {bs : List Int} {k : Nat} (hne : bs ≠ []) (h : bs[0]?.getD 0 = (k : Int)) (hk : k < 4) {x : Int} (hx : (upkS k (bs.drop 1)).2.2 = x) (h0 : x ≠ 0) : deS bs = ([], 0, x) := by
  unfold deS
  rw [if_neg hne, h, if_neg (by omega), Int.toNat_natCast, hx, if_pos h0]
theorem de_kind {bs : List Int} {k : Nat} (hne : bs ≠ []) (h : bs[0]?.getD 0 = (k : Int)) (hk : k < 4) (hx : (upkS k (bs.drop 1)).2.2 = 0) (h0 : kindS (upkS k (bs.drop 1)).1 ≠ k) : deS bs = ([], 0, 5) := by
  unfold deS
  rw [if_neg hne, h, if_neg (by omega), Int.toNat_natCast, hx, if_neg (by simp), if_pos h0]
theorem de_good {bs : List Int} {k : Nat} (hne : bs ≠ []) (h : bs[0]?.getD 0 = (k : Int)) (hk : k < 4) (hx : (upkS k (bs.drop 1)).2.2 = 0) (h0 : kindS (upkS k (bs.drop 1)).1 = k) : deS bs = ((upkS k (bs.drop 1)).1, (upkS k (bs.drop 1)).2.1 + 1, 0) := by
  unfold deS
  rw [if_neg hne, h, if_neg (by omega), Int.toNat_natCast, hx, if_neg (by simp), if_neg (fun h => h h0)]

/-- What decoding comes to. -/
def DePost (K : Nat → Prop) (bs : List Int) (W : World) (e : Ending) (W' : World) : Prop :=
  Below W.heap.size W W' ∧ (((deS bs).2.2 = 0 ∧ ∃ a1 n1 c1 a2 m, e = .returned (.tuple #[.slice a1 n1 c1, .slice a2 m m, .int .i64 0]) ∧ Rd (fun b => W.heap.size ≤ b) W' .i64 a1 n1 c1 (deS bs).1 ∧ Rd K W .u8 a2 m m (bs.drop (deS bs).2.1)) ∨
    ((deS bs).2.2 ≠ 0 ∧ e = .returned (.tuple #[.slice none 0 0, .slice none 0 0, .int .i64 (deS bs).2.2])))
theorem DePost.bad {K : Nat → Prop} {bs : List Int} {W W' : World} {e : Ending} {x : Int} (h : deS bs = ([], 0, x)) (hx : x ≠ 0) (hb : Below W.heap.size W W') (he : e = .returned (.tuple #[.slice none 0 0, .slice none 0 0, .int .i64 x])) : DePost K bs W e W' :=
  ⟨hb, .inr ⟨by rw [h]; exact hx, by rw [h]; exact he⟩⟩

theorem decode_none (a : Option Addr) (cap : Nat) (W : World) {K : Nat → Prop} :
    Calls Try.prog 57 #[.slice a 0 cap] W (DePost K [] W) := by
  go_enter Try.func57, Try.ntmps57
  go_wp2
  go_ret3
  exact DePost.bad (x := 7) rfl (by decide) (Below.refl _ _) rfl

theorem decode_four {K : Nat → Prop} {b off len cap : Nat} {bs : List Int} (h0 : 0 < len) (ho : Oct bs) (h4 : (4 : Int) ≤ bs[0]?.getD 0) {W : World} (hR : Rd K W .u8 (some ⟨b, off, none⟩) len cap bs) :
    Calls Try.prog 57 #[.slice (some ⟨b, off, none⟩) len cap] W (DePost K bs W) := by
  obtain ⟨b', off', e, _, _, hc⟩ := hR.cells h0
  cases e
  have hc0 : W.cell? ⟨b, off, none⟩ = some (.int .u8 (bs[0]?.getD 0)) := hc 0 h0
  have hne : bs ≠ [] := fun e => by have := hR.hl; rw [e] at this; simp at this; omega
  have HD : Hid (deS bs = ([], 0, 5)) := by show _ = _; unfold deS; rw [if_neg hne, if_pos h4]
  have hx := ho.getD 0
  have hx2 := hx.2
  have hx1 := hx.1
  have hfit := hR.fit
  have hsm := hR.small
  clear hR hc hne hx
  generalize bs[0]?.getD 0 = x at *
  have hz : ((len : Int) == 0) = false := by rw [beq_eq_false_iff_ne]; omega
  go_enter Try.func57, Try.ntmps57
  go_wp2
  go_ret3
  exact DePost.bad HD.out (by decide) (Below.refl _ _) rfl

theorem uk_good {f : FuncId} {args : Array Value} {K : Nat → Prop} {bs : List Int} {us : List Int × Nat × Int} {W : World} (h : Calls Try.prog f args W (UkPost K bs us W)) (h0 : us.2.2 = 0) :
    Calls Try.prog f args W fun e W' => ∃ v, e = .returned v ∧ ((∃ a1 n1 c1 a2 m, v = .tuple #[.slice a1 n1 c1, .slice a2 m m, .int .i64 0] ∧ Rd (fun b => W.heap.size ≤ b) W' .i64 a1 n1 c1 us.1 ∧ Rd K W .u8 a2 m m (bs.drop us.2.1)) ∧ Below W.heap.size W W') :=
  h.mono fun _ _ ⟨hb, hp⟩ => by
    rcases hp with ⟨_, a1, n1, c1, a2, m, he, h1, h2⟩ | ⟨h1, _⟩
    · exact ⟨_, he, ⟨a1, n1, c1, a2, m, rfl, h1, h2⟩, hb⟩
    · exact absurd h0 h1
theorem uk_bad {f : FuncId} {args : Array Value} {K : Nat → Prop} {bs : List Int} {us : List Int × Nat × Int} {W : World} (h : Calls Try.prog f args W (UkPost K bs us W)) {x : Int} (hx : us.2.2 = x) (h0 : x ≠ 0) :
    Calls Try.prog f args W fun e W' => ∃ v, e = .returned v ∧ ((∃ a1 c1, v = .tuple #[.slice a1 0 c1, .slice none 0 0, .int .i64 x]) ∧ Below W.heap.size W W') :=
  h.mono fun _ _ ⟨hb, hp⟩ => by
    rcases hp with ⟨h1, _⟩ | ⟨_, a1, c1, he, _⟩
    · exact absurd (hx.symm.trans h1) h0
    · exact ⟨_, he, ⟨a1, c1, by rw [← hx]⟩, hb⟩
def FormsV (w : World) (v : Value) (W' : World) : Prop :=
  ∃ p q, v = formsV p q ∧ Pair W' p 84 (.func (.func 74) #[] #[]) (.func (.func 75) #[] #[]) ∧
    Pair W' q 84 (.func (.func 76) #[] #[]) (.func (.func 77) #[] #[]) ∧ Below w.heap.size w W'
theorem forms_some (hfo : ∀ w, Calls Try.prog 52 #[] w (FormsPost w)) (w : World) : Calls Try.prog 52 #[] w fun e W' => ∃ v, e = .returned v ∧ FormsV w v W' :=
  (hfo w).mono fun _ _ ⟨p, q, he, h1, h2, h3⟩ => ⟨_, he, p, q, rfl, h1, h2, h3⟩

set_option maxRecDepth 100000 in
set_option maxHeartbeats 8000000 in
theorem decode_bad0 (hfo : ∀ w, Calls Try.prog 52 #[] w (FormsPost w)) {K : Nat → Prop} {b off len cap : Nat} {bs : List Int} (h0 : 0 < len) (ho : Oct bs) (h4 : bs[0]?.getD 0 = 0) (x : Int) (hx : (upkS 0 (bs.drop 1)).2.2 = x) (hx0 : x ≠ 0) {W : World} (hR : Rd K W .u8 (some ⟨b, off, none⟩) len cap bs) :
    Calls Try.prog 57 #[.slice (some ⟨b, off, none⟩) len cap] W (DePost K bs W) := by
  obtain ⟨b', off', e, _, _, hc⟩ := hR.cells h0
  cases e
  have hc0 : W.cell? ⟨b, off, none⟩ = some (.int .u8 0) := by rw [← h4]; exact hc 0 h0
  have hne : bs ≠ [] := fun e => by have := hR.hl; rw [e] at this; simp at this; omega
  have hfit := hR.fit
  have hsm := hR.small
  have hz : ((len : Int) == 0) = false := by rw [beq_eq_false_iff_ne]; omega
  have HFO := Lib.hid hfo
  have hix := form_ix0
  have hfl := field_1
  obtain ⟨a', ha'⟩ : ∃ a', (if cap = 1 then some ⟨b, off, none⟩ else some ⟨b, off + 1, none⟩ : Option Addr) = a' := ⟨_, rfl⟩
  have h1l : (1 : Int) ≤ (len : Int) := by omega
  have HR1 := Lib.hid ((hR.mono (K' := fun b => K b ∧ b < W.heap.size) fun b hlt hk => ⟨hk, hlt⟩).rest 1 (by omega) (cap - 1) (by omega) (by omega) a' (fun h => by rw [← ha', if_neg (by omega)]))
  have hod := ho.drop 1
  have HD : Hid (deS bs = ([], 0, x)) := de_bad (k := 0) hne h4 (by decide) hx hx0
  have HX := Lib.hid hx
  have HX0 := Lib.hid hx0
  have hxb : (x != 0) = true := by simpa using hx0
  clear hc hfo hR hx hx0 h4 hne
  go_enter Try.func57, Try.ntmps57
  go_wp2
  go_region_law (first
    | (refine step_call_some (by go_simp) 52 #[] #[] (by rfl) #[] (by go_simp) (enters_of Try.func52 (by kernel_rfl) rfl _ _) _ (forms_some HFO.out _) ?_; rintro v w1 ⟨p, q, rfl, hp, hq, hb1⟩; simp only [formsV]; have HB1 : Hid (Below W.heap.size W w1) := (below_drew (Below.refl _ W)).trans hb1; have HP := Lib.hid hp; have HQ := Lib.hid hq; clear hp hq hb1)
    | (refine step_call_val (by go_simp) 22 75 #[] #[.tmp 24] #[25] (by rfl) (by go_simp) #[.slice a' (len - 1) (cap - 1)] (by go_simp) (enters_of Try.func75 (by kernel_rfl) rfl _ _) _ (uk_bad (uk0_any hod (HR1.out.below HB1.out)) HX.out HX0.out) ?_; rintro v w2 ⟨⟨a1, c1, rfl⟩, hb2⟩; have HB2 : Hid (Below W.heap.size W w2) := HB1.out.trans (hb2.mono HB1.out.size); clear hb2))
  all_goals
    simp [Act.put]
    go_wp2
    go_ret3
    exact DePost.bad HD.out HX0.out HB2.out rfl

set_option maxRecDepth 100000 in
set_option maxHeartbeats 8000000 in
theorem decode_kind0 (hfo : ∀ w, Calls Try.prog 52 #[] w (FormsPost w)) {K : Nat → Prop} {b off len cap : Nat} {bs : List Int} (h0 : 0 < len) (ho : Oct bs) (h4 : bs[0]?.getD 0 = 0) (hx : (upkS 0 (bs.drop 1)).2.2 = 0) (hk : kindS (upkS 0 (bs.drop 1)).1 ≠ 0) {W : World} (hR : Rd K W .u8 (some ⟨b, off, none⟩) len cap bs) :
    Calls Try.prog 57 #[.slice (some ⟨b, off, none⟩) len cap] W (DePost K bs W) := by
  obtain ⟨b', off', e, _, _, hc⟩ := hR.cells h0
  cases e
  have hc0 : W.cell? ⟨b, off, none⟩ = some (.int .u8 0) := by rw [← h4]; exact hc 0 h0
  have hne : bs ≠ [] := fun e => by have := hR.hl; rw [e] at this; simp at this; omega
  have hfit := hR.fit
  have hsm := hR.small
  have hz : ((len : Int) == 0) = false := by rw [beq_eq_false_iff_ne]; omega
  have HFO := Lib.hid hfo
  have hix := form_ix0
  have hfl := field_1
  obtain ⟨a', ha'⟩ : ∃ a', (if cap = 1 then some ⟨b, off, none⟩ else some ⟨b, off + 1, none⟩ : Option Addr) = a' := ⟨_, rfl⟩
  have h1l : (1 : Int) ≤ (len : Int) := by omega
  have HR1 := Lib.hid ((hR.mono (K' := fun b => K b ∧ b < W.heap.size) fun b hlt hk => ⟨hk, hlt⟩).rest 1 (by omega) (cap - 1) (by omega) (by omega) a' (fun h => by rw [← ha', if_neg (by omega)]))
  have hod := ho.drop 1
  have HD : Hid (deS bs = ([], 0, 5)) := de_kind (k := 0) hne h4 (by decide) hx hk
  have HX := Lib.hid hx
  have HLN : Hid ((upkS 0 (bs.drop 1)).1.length ≤ 1099511627776) := Nat.le_trans (upk_len hod hx) (by decide)
  have hkb : (((kindS (upkS 0 (bs.drop 1)).1 : Nat) : Int) != 0) = true := by rw [bne_iff_ne]; omega
  have HKD : Hid (∀ {a : Option Addr} {n c : Nat} (V : World), Rd (fun _ => True) V .i64 a n c (upkS 0 (bs.drop 1)).1 → Calls Try.prog 23 #[.slice a n c] V fun e W' => e = .returned (.int .i64 (kindS (upkS 0 (bs.drop 1)).1)) ∧ Below V.heap.size V W') := fun V h => kind_of hfo (upk_smalls _ _) (by rw [h.hl]; exact HLN.out) h
  generalize hkk : kindS (upkS 0 (bs.drop 1)).1 = kk at *
  clear hkk
  clear hc hfo hR hx hk h4 hne
  go_enter Try.func57, Try.ntmps57
  go_wp2
  go_region_law (first
    | (refine step_call_some (by go_simp) 52 #[] #[] (by rfl) #[] (by go_simp) (enters_of Try.func52 (by kernel_rfl) rfl _ _) _ (forms_some HFO.out _) ?_; rintro v w1 ⟨p, q, rfl, hp, hq, hb1⟩; simp only [formsV]; have HB1 : Hid (Below W.heap.size W w1) := (below_drew (Below.refl _ W)).trans hb1; have HP := Lib.hid hp; have HQ := Lib.hid hq; clear hp hq hb1)
    | (refine step_call_val (by go_simp) 22 75 #[] #[.tmp 24] #[25] (by rfl) (by go_simp) #[.slice a' (len - 1) (cap - 1)] (by go_simp) (enters_of Try.func75 (by kernel_rfl) rfl _ _) _ (uk_good (uk0_any hod (HR1.out.below HB1.out)) HX.out) ?_; rintro v w2 ⟨⟨a1, n1, c1, a2, m, rfl, hr1, hr2⟩, hb2⟩; have HB2 : Hid (Below W.heap.size W w2) := HB1.out.trans (hb2.mono HB1.out.size); have HL1 := Lib.hid hr1; have HL2 := Lib.hid (hr2.back HB1.out); have hbz := HB1.out.size; clear hb2 hr1 hr2))
  all_goals
    simp [Act.put]
    go_wp2_with fail
    refine (HKD.out _ (HL1.out.mono (fun _ _ _ => trivial))).mono ?_
    rintro e w3 ⟨rfl, hb3⟩
    have HB3 : Hid (Below W.heap.size W w3) := HB2.out.trans (hb3.mono HB2.out.size)
    have HL3 := Lib.hid (HL1.out.below hb3)
    clear hb3
    go_wp2
    go_ret3
    exact DePost.bad HD.out (by decide) HB3.out rfl

set_option maxRecDepth 100000 in
set_option maxHeartbeats 8000000 in
theorem decode_good0 (hfo : ∀ w, Calls Try.prog 52 #[] w (FormsPost w)) {K : Nat → Prop} {b off len cap : Nat} {bs : List Int} (h0 : 0 < len) (ho : Oct bs) (h4 : bs[0]?.getD 0 = 0) (hx : (upkS 0 (bs.drop 1)).2.2 = 0) (hk : kindS (upkS 0 (bs.drop 1)).1 = 0) {W : World} (hR : Rd K W .u8 (some ⟨b, off, none⟩) len cap bs) :
    Calls Try.prog 57 #[.slice (some ⟨b, off, none⟩) len cap] W (DePost K bs W) := by
  obtain ⟨b', off', e, _, _, hc⟩ := hR.cells h0
  cases e
  have hc0 : W.cell? ⟨b, off, none⟩ = some (.int .u8 0) := by rw [← h4]; exact hc 0 h0
  have hne : bs ≠ [] := fun e => by have := hR.hl; rw [e] at this; simp at this; omega
  have hfit := hR.fit
  have hsm := hR.small
  have hz : ((len : Int) == 0) = false := by rw [beq_eq_false_iff_ne]; omega
  have HFO := Lib.hid hfo
  have hix := form_ix0
  have hfl := field_1
  obtain ⟨a', ha'⟩ : ∃ a', (if cap = 1 then some ⟨b, off, none⟩ else some ⟨b, off + 1, none⟩ : Option Addr) = a' := ⟨_, rfl⟩
  have h1l : (1 : Int) ≤ (len : Int) := by omega
  have HR1 := Lib.hid ((hR.mono (K' := fun b => K b ∧ b < W.heap.size) fun b hlt hk => ⟨hk, hlt⟩).rest 1 (by omega) (cap - 1) (by omega) (by omega) a' (fun h => by rw [← ha', if_neg (by omega)]))
  have hod := ho.drop 1
  have HD : Hid (deS bs = ((upkS 0 (bs.drop 1)).1, (upkS 0 (bs.drop 1)).2.1 + 1, 0)) := de_good (k := 0) hne h4 (by decide) hx hk
  have HX := Lib.hid hx
  have HLN : Hid ((upkS 0 (bs.drop 1)).1.length ≤ 1099511627776) := Nat.le_trans (upk_len hod hx) (by decide)
  have hkb : (((kindS (upkS 0 (bs.drop 1)).1 : Nat) : Int) != 0) = false := by rw [hk]; rfl
  have HKD : Hid (∀ {a : Option Addr} {n c : Nat} (V : World), Rd (fun _ => True) V .i64 a n c (upkS 0 (bs.drop 1)).1 → Calls Try.prog 23 #[.slice a n c] V fun e W' => e = .returned (.int .i64 (kindS (upkS 0 (bs.drop 1)).1)) ∧ Below V.heap.size V W') := fun V h => kind_of hfo (upk_smalls _ _) (by rw [h.hl]; exact HLN.out) h
  generalize hkk : kindS (upkS 0 (bs.drop 1)).1 = kk at *
  clear hkk
  clear hc hfo hR hx hk h4 hne
  go_enter Try.func57, Try.ntmps57
  go_wp2
  go_region_law (first
    | (refine step_call_some (by go_simp) 52 #[] #[] (by rfl) #[] (by go_simp) (enters_of Try.func52 (by kernel_rfl) rfl _ _) _ (forms_some HFO.out _) ?_; rintro v w1 ⟨p, q, rfl, hp, hq, hb1⟩; simp only [formsV]; have HB1 : Hid (Below W.heap.size W w1) := (below_drew (Below.refl _ W)).trans hb1; have HP := Lib.hid hp; have HQ := Lib.hid hq; clear hp hq hb1)
    | (refine step_call_val (by go_simp) 22 75 #[] #[.tmp 24] #[25] (by rfl) (by go_simp) #[.slice a' (len - 1) (cap - 1)] (by go_simp) (enters_of Try.func75 (by kernel_rfl) rfl _ _) _ (uk_good (uk0_any hod (HR1.out.below HB1.out)) HX.out) ?_; rintro v w2 ⟨⟨a1, n1, c1, a2, m, rfl, hr1, hr2⟩, hb2⟩; have HB2 : Hid (Below W.heap.size W w2) := HB1.out.trans (hb2.mono HB1.out.size); have HL1 := Lib.hid hr1; have HL2 := Lib.hid (hr2.back HB1.out); have hbz := HB1.out.size; clear hb2 hr1 hr2))
  all_goals
    simp [Act.put]
    go_wp2_with fail
    refine (HKD.out _ (HL1.out.mono (fun _ _ _ => trivial))).mono ?_
    rintro e w3 ⟨rfl, hb3⟩
    have HB3 : Hid (Below W.heap.size W w3) := HB2.out.trans (hb3.mono HB2.out.size)
    have HL3 := Lib.hid (HL1.out.below hb3)
    clear hb3
    go_wp2
    go_ret3
    refine ⟨HB3.out, .inl ⟨by rw [HD.out], a1, n1, c1, a2, m, rfl, ?_, ?_⟩⟩
    · rw [HD.out]; exact HL3.out.mono fun b _ h => by omega
    · rw [HD.out]; have := HL2.out; rw [List.drop_drop] at this; rwa [Nat.add_comm] at this

set_option maxRecDepth 100000 in
set_option maxHeartbeats 8000000 in
theorem decode_bad1 (hfo : ∀ w, Calls Try.prog 52 #[] w (FormsPost w)) {K : Nat → Prop} {b off len cap : Nat} {bs : List Int} (h0 : 0 < len) (ho : Oct bs) (h4 : bs[0]?.getD 0 = 1) (x : Int) (hx : (upkS 1 (bs.drop 1)).2.2 = x) (hx0 : x ≠ 0) {W : World} (hR : Rd K W .u8 (some ⟨b, off, none⟩) len cap bs) :
    Calls Try.prog 57 #[.slice (some ⟨b, off, none⟩) len cap] W (DePost K bs W) := by
  obtain ⟨b', off', e, _, _, hc⟩ := hR.cells h0
  cases e
  have hc0 : W.cell? ⟨b, off, none⟩ = some (.int .u8 1) := by rw [← h4]; exact hc 0 h0
  have hne : bs ≠ [] := fun e => by have := hR.hl; rw [e] at this; simp at this; omega
  have hfit := hR.fit
  have hsm := hR.small
  have hz : ((len : Int) == 0) = false := by rw [beq_eq_false_iff_ne]; omega
  have HFO := Lib.hid hfo
  have hix := form_ix1
  have hfl := field_1
  obtain ⟨a', ha'⟩ : ∃ a', (if cap = 1 then some ⟨b, off, none⟩ else some ⟨b, off + 1, none⟩ : Option Addr) = a' := ⟨_, rfl⟩
  have h1l : (1 : Int) ≤ (len : Int) := by omega
  have HR1 := Lib.hid ((hR.mono (K' := fun b => K b ∧ b < W.heap.size) fun b hlt hk => ⟨hk, hlt⟩).rest 1 (by omega) (cap - 1) (by omega) (by omega) a' (fun h => by rw [← ha', if_neg (by omega)]))
  have hod := ho.drop 1
  have HD : Hid (deS bs = ([], 0, x)) := de_bad (k := 1) hne h4 (by decide) hx hx0
  have HX := Lib.hid hx
  have HX0 := Lib.hid hx0
  have hxb : (x != 0) = true := by simpa using hx0
  clear hc hfo hR hx hx0 h4 hne
  go_enter Try.func57, Try.ntmps57
  go_wp2
  go_region_law (first
    | (refine step_call_some (by go_simp) 52 #[] #[] (by rfl) #[] (by go_simp) (enters_of Try.func52 (by kernel_rfl) rfl _ _) _ (forms_some HFO.out _) ?_; rintro v w1 ⟨p, q, rfl, hp, hq, hb1⟩; simp only [formsV]; have HB1 : Hid (Below W.heap.size W w1) := (below_drew (Below.refl _ W)).trans hb1; have HP := Lib.hid hp; have HQ := Lib.hid hq; clear hp hq hb1)
    | (refine step_call_val (by go_simp) 22 77 #[] #[.tmp 24] #[25] (by rfl) (by go_simp) #[.slice a' (len - 1) (cap - 1)] (by go_simp) (enters_of Try.func77 (by kernel_rfl) rfl _ _) _ (uk_bad (uk1_any hod (HR1.out.below HB1.out)) HX.out HX0.out) ?_; rintro v w2 ⟨⟨a1, c1, rfl⟩, hb2⟩; have HB2 : Hid (Below W.heap.size W w2) := HB1.out.trans (hb2.mono HB1.out.size); clear hb2))
  all_goals
    simp [Act.put]
    go_wp2
    go_ret3
    exact DePost.bad HD.out HX0.out HB2.out rfl

set_option maxRecDepth 100000 in
set_option maxHeartbeats 8000000 in
theorem decode_kind1 (hfo : ∀ w, Calls Try.prog 52 #[] w (FormsPost w)) {K : Nat → Prop} {b off len cap : Nat} {bs : List Int} (h0 : 0 < len) (ho : Oct bs) (h4 : bs[0]?.getD 0 = 1) (hx : (upkS 1 (bs.drop 1)).2.2 = 0) (hk : kindS (upkS 1 (bs.drop 1)).1 ≠ 1) {W : World} (hR : Rd K W .u8 (some ⟨b, off, none⟩) len cap bs) :
    Calls Try.prog 57 #[.slice (some ⟨b, off, none⟩) len cap] W (DePost K bs W) := by
  obtain ⟨b', off', e, _, _, hc⟩ := hR.cells h0
  cases e
  have hc0 : W.cell? ⟨b, off, none⟩ = some (.int .u8 1) := by rw [← h4]; exact hc 0 h0
  have hne : bs ≠ [] := fun e => by have := hR.hl; rw [e] at this; simp at this; omega
  have hfit := hR.fit
  have hsm := hR.small
  have hz : ((len : Int) == 0) = false := by rw [beq_eq_false_iff_ne]; omega
  have HFO := Lib.hid hfo
  have hix := form_ix1
  have hfl := field_1
  obtain ⟨a', ha'⟩ : ∃ a', (if cap = 1 then some ⟨b, off, none⟩ else some ⟨b, off + 1, none⟩ : Option Addr) = a' := ⟨_, rfl⟩
  have h1l : (1 : Int) ≤ (len : Int) := by omega
  have HR1 := Lib.hid ((hR.mono (K' := fun b => K b ∧ b < W.heap.size) fun b hlt hk => ⟨hk, hlt⟩).rest 1 (by omega) (cap - 1) (by omega) (by omega) a' (fun h => by rw [← ha', if_neg (by omega)]))
  have hod := ho.drop 1
  have HD : Hid (deS bs = ([], 0, 5)) := de_kind (k := 1) hne h4 (by decide) hx hk
  have HX := Lib.hid hx
  have HLN : Hid ((upkS 1 (bs.drop 1)).1.length ≤ 1099511627776) := Nat.le_trans (upk_len hod hx) (by decide)
  have hkb : (((kindS (upkS 1 (bs.drop 1)).1 : Nat) : Int) != 1) = true := by rw [bne_iff_ne]; omega
  have HKD : Hid (∀ {a : Option Addr} {n c : Nat} (V : World), Rd (fun _ => True) V .i64 a n c (upkS 1 (bs.drop 1)).1 → Calls Try.prog 23 #[.slice a n c] V fun e W' => e = .returned (.int .i64 (kindS (upkS 1 (bs.drop 1)).1)) ∧ Below V.heap.size V W') := fun V h => kind_of hfo (upk_smalls _ _) (by rw [h.hl]; exact HLN.out) h
  generalize hkk : kindS (upkS 1 (bs.drop 1)).1 = kk at *
  clear hkk
  clear hc hfo hR hx hk h4 hne
  go_enter Try.func57, Try.ntmps57
  go_wp2
  go_region_law (first
    | (refine step_call_some (by go_simp) 52 #[] #[] (by rfl) #[] (by go_simp) (enters_of Try.func52 (by kernel_rfl) rfl _ _) _ (forms_some HFO.out _) ?_; rintro v w1 ⟨p, q, rfl, hp, hq, hb1⟩; simp only [formsV]; have HB1 : Hid (Below W.heap.size W w1) := (below_drew (Below.refl _ W)).trans hb1; have HP := Lib.hid hp; have HQ := Lib.hid hq; clear hp hq hb1)
    | (refine step_call_val (by go_simp) 22 77 #[] #[.tmp 24] #[25] (by rfl) (by go_simp) #[.slice a' (len - 1) (cap - 1)] (by go_simp) (enters_of Try.func77 (by kernel_rfl) rfl _ _) _ (uk_good (uk1_any hod (HR1.out.below HB1.out)) HX.out) ?_; rintro v w2 ⟨⟨a1, n1, c1, a2, m, rfl, hr1, hr2⟩, hb2⟩; have HB2 : Hid (Below W.heap.size W w2) := HB1.out.trans (hb2.mono HB1.out.size); have HL1 := Lib.hid hr1; have HL2 := Lib.hid (hr2.back HB1.out); have hbz := HB1.out.size; clear hb2 hr1 hr2))
  all_goals
    simp [Act.put]
    go_wp2_with fail
    refine (HKD.out _ (HL1.out.mono (fun _ _ _ => trivial))).mono ?_
    rintro e w3 ⟨rfl, hb3⟩
    have HB3 : Hid (Below W.heap.size W w3) := HB2.out.trans (hb3.mono HB2.out.size)
    have HL3 := Lib.hid (HL1.out.below hb3)
    clear hb3
    go_wp2
    go_ret3
    exact DePost.bad HD.out (by decide) HB3.out rfl

set_option maxRecDepth 100000 in
set_option maxHeartbeats 8000000 in
theorem decode_good1 (hfo : ∀ w, Calls Try.prog 52 #[] w (FormsPost w)) {K : Nat → Prop} {b off len cap : Nat} {bs : List Int} (h0 : 0 < len) (ho : Oct bs) (h4 : bs[0]?.getD 0 = 1) (hx : (upkS 1 (bs.drop 1)).2.2 = 0) (hk : kindS (upkS 1 (bs.drop 1)).1 = 1) {W : World} (hR : Rd K W .u8 (some ⟨b, off, none⟩) len cap bs) :
    Calls Try.prog 57 #[.slice (some ⟨b, off, none⟩) len cap] W (DePost K bs W) := by
  obtain ⟨b', off', e, _, _, hc⟩ := hR.cells h0
  cases e
  have hc0 : W.cell? ⟨b, off, none⟩ = some (.int .u8 1) := by rw [← h4]; exact hc 0 h0
  have hne : bs ≠ [] := fun e => by have := hR.hl; rw [e] at this; simp at this; omega
  have hfit := hR.fit
  have hsm := hR.small
  have hz : ((len : Int) == 0) = false := by rw [beq_eq_false_iff_ne]; omega
  have HFO := Lib.hid hfo
  have hix := form_ix1
  have hfl := field_1
  obtain ⟨a', ha'⟩ : ∃ a', (if cap = 1 then some ⟨b, off, none⟩ else some ⟨b, off + 1, none⟩ : Option Addr) = a' := ⟨_, rfl⟩
  have h1l : (1 : Int) ≤ (len : Int) := by omega
  have HR1 := Lib.hid ((hR.mono (K' := fun b => K b ∧ b < W.heap.size) fun b hlt hk => ⟨hk, hlt⟩).rest 1 (by omega) (cap - 1) (by omega) (by omega) a' (fun h => by rw [← ha', if_neg (by omega)]))
  have hod := ho.drop 1
  have HD : Hid (deS bs = ((upkS 1 (bs.drop 1)).1, (upkS 1 (bs.drop 1)).2.1 + 1, 0)) := de_good (k := 1) hne h4 (by decide) hx hk
  have HX := Lib.hid hx
  have HLN : Hid ((upkS 1 (bs.drop 1)).1.length ≤ 1099511627776) := Nat.le_trans (upk_len hod hx) (by decide)
  have hkb : (((kindS (upkS 1 (bs.drop 1)).1 : Nat) : Int) != 1) = false := by rw [hk]; rfl
  have HKD : Hid (∀ {a : Option Addr} {n c : Nat} (V : World), Rd (fun _ => True) V .i64 a n c (upkS 1 (bs.drop 1)).1 → Calls Try.prog 23 #[.slice a n c] V fun e W' => e = .returned (.int .i64 (kindS (upkS 1 (bs.drop 1)).1)) ∧ Below V.heap.size V W') := fun V h => kind_of hfo (upk_smalls _ _) (by rw [h.hl]; exact HLN.out) h
  generalize hkk : kindS (upkS 1 (bs.drop 1)).1 = kk at *
  clear hkk
  clear hc hfo hR hx hk h4 hne
  go_enter Try.func57, Try.ntmps57
  go_wp2
  go_region_law (first
    | (refine step_call_some (by go_simp) 52 #[] #[] (by rfl) #[] (by go_simp) (enters_of Try.func52 (by kernel_rfl) rfl _ _) _ (forms_some HFO.out _) ?_; rintro v w1 ⟨p, q, rfl, hp, hq, hb1⟩; simp only [formsV]; have HB1 : Hid (Below W.heap.size W w1) := (below_drew (Below.refl _ W)).trans hb1; have HP := Lib.hid hp; have HQ := Lib.hid hq; clear hp hq hb1)
    | (refine step_call_val (by go_simp) 22 77 #[] #[.tmp 24] #[25] (by rfl) (by go_simp) #[.slice a' (len - 1) (cap - 1)] (by go_simp) (enters_of Try.func77 (by kernel_rfl) rfl _ _) _ (uk_good (uk1_any hod (HR1.out.below HB1.out)) HX.out) ?_; rintro v w2 ⟨⟨a1, n1, c1, a2, m, rfl, hr1, hr2⟩, hb2⟩; have HB2 : Hid (Below W.heap.size W w2) := HB1.out.trans (hb2.mono HB1.out.size); have HL1 := Lib.hid hr1; have HL2 := Lib.hid (hr2.back HB1.out); have hbz := HB1.out.size; clear hb2 hr1 hr2))
  all_goals
    simp [Act.put]
    go_wp2_with fail
    refine (HKD.out _ (HL1.out.mono (fun _ _ _ => trivial))).mono ?_
    rintro e w3 ⟨rfl, hb3⟩
    have HB3 : Hid (Below W.heap.size W w3) := HB2.out.trans (hb3.mono HB2.out.size)
    have HL3 := Lib.hid (HL1.out.below hb3)
    clear hb3
    go_wp2
    go_ret3
    refine ⟨HB3.out, .inl ⟨by rw [HD.out], a1, n1, c1, a2, m, rfl, ?_, ?_⟩⟩
    · rw [HD.out]; exact HL3.out.mono fun b _ h => by omega
    · rw [HD.out]; have := HL2.out; rw [List.drop_drop] at this; rwa [Nat.add_comm] at this

set_option maxRecDepth 100000 in
set_option maxHeartbeats 8000000 in
theorem decode_bad2 (hfo : ∀ w, Calls Try.prog 52 #[] w (FormsPost w)) {K : Nat → Prop} {b off len cap : Nat} {bs : List Int} (h0 : 0 < len) (ho : Oct bs) (h4 : bs[0]?.getD 0 = 2) (x : Int) (hx : (upkS 2 (bs.drop 1)).2.2 = x) (hx0 : x ≠ 0) {W : World} (hR : Rd K W .u8 (some ⟨b, off, none⟩) len cap bs) :
    Calls Try.prog 57 #[.slice (some ⟨b, off, none⟩) len cap] W (DePost K bs W) := by
  obtain ⟨b', off', e, _, _, hc⟩ := hR.cells h0
  cases e
  have hc0 : W.cell? ⟨b, off, none⟩ = some (.int .u8 2) := by rw [← h4]; exact hc 0 h0
  have hne : bs ≠ [] := fun e => by have := hR.hl; rw [e] at this; simp at this; omega
  have hfit := hR.fit
  have hsm := hR.small
  have hz : ((len : Int) == 0) = false := by rw [beq_eq_false_iff_ne]; omega
  have HFO := Lib.hid hfo
  have hix := form_ix2
  have hfl := field_1
  obtain ⟨a', ha'⟩ : ∃ a', (if cap = 1 then some ⟨b, off, none⟩ else some ⟨b, off + 1, none⟩ : Option Addr) = a' := ⟨_, rfl⟩
  have h1l : (1 : Int) ≤ (len : Int) := by omega
  have HR1 := Lib.hid ((hR.mono (K' := fun b => K b ∧ b < W.heap.size) fun b hlt hk => ⟨hk, hlt⟩).rest 1 (by omega) (cap - 1) (by omega) (by omega) a' (fun h => by rw [← ha', if_neg (by omega)]))
  have hod := ho.drop 1
  have HD : Hid (deS bs = ([], 0, x)) := de_bad (k := 2) hne h4 (by decide) hx hx0
  have HX := Lib.hid hx
  have HX0 := Lib.hid hx0
  have hxb : (x != 0) = true := by simpa using hx0
  clear hc hfo hR hx hx0 h4 hne
  go_enter Try.func57, Try.ntmps57
  go_wp2
  go_region_law (first
    | (refine step_call_some (by go_simp) 52 #[] #[] (by rfl) #[] (by go_simp) (enters_of Try.func52 (by kernel_rfl) rfl _ _) _ (forms_some HFO.out _) ?_; rintro v w1 ⟨p, q, rfl, hp, hq, hb1⟩; simp only [formsV]; have HB1 : Hid (Below W.heap.size W w1) := (below_drew (Below.refl _ W)).trans hb1; have HP := Lib.hid hp; have HQ := Lib.hid hq; clear hp hq hb1)
    | (refine step_call_val (by go_simp) 22 100 #[.pointer (some ⟨p, 0, none⟩)] #[.tmp 24] #[25] (by rfl) (by go_simp) #[.slice a' (len - 1) (cap - 1)] (by go_simp) (enters_of Try.func100 (by kernel_rfl) rfl _ _) _ (uk_bad (od2_0 hod (HR1.out.below HB1.out) p HP.out) HX.out HX0.out) ?_; rintro v w2 ⟨⟨a1, c1, rfl⟩, hb2⟩; have HB2 : Hid (Below W.heap.size W w2) := HB1.out.trans (hb2.mono HB1.out.size); clear hb2))
  all_goals
    simp [Act.put]
    go_wp2
    go_ret3
    exact DePost.bad HD.out HX0.out HB2.out rfl

set_option maxRecDepth 100000 in
set_option maxHeartbeats 8000000 in
theorem decode_kind2 (hfo : ∀ w, Calls Try.prog 52 #[] w (FormsPost w)) {K : Nat → Prop} {b off len cap : Nat} {bs : List Int} (h0 : 0 < len) (ho : Oct bs) (h4 : bs[0]?.getD 0 = 2) (hx : (upkS 2 (bs.drop 1)).2.2 = 0) (hk : kindS (upkS 2 (bs.drop 1)).1 ≠ 2) {W : World} (hR : Rd K W .u8 (some ⟨b, off, none⟩) len cap bs) :
    Calls Try.prog 57 #[.slice (some ⟨b, off, none⟩) len cap] W (DePost K bs W) := by
  obtain ⟨b', off', e, _, _, hc⟩ := hR.cells h0
  cases e
  have hc0 : W.cell? ⟨b, off, none⟩ = some (.int .u8 2) := by rw [← h4]; exact hc 0 h0
  have hne : bs ≠ [] := fun e => by have := hR.hl; rw [e] at this; simp at this; omega
  have hfit := hR.fit
  have hsm := hR.small
  have hz : ((len : Int) == 0) = false := by rw [beq_eq_false_iff_ne]; omega
  have HFO := Lib.hid hfo
  have hix := form_ix2
  have hfl := field_1
  obtain ⟨a', ha'⟩ : ∃ a', (if cap = 1 then some ⟨b, off, none⟩ else some ⟨b, off + 1, none⟩ : Option Addr) = a' := ⟨_, rfl⟩
  have h1l : (1 : Int) ≤ (len : Int) := by omega
  have HR1 := Lib.hid ((hR.mono (K' := fun b => K b ∧ b < W.heap.size) fun b hlt hk => ⟨hk, hlt⟩).rest 1 (by omega) (cap - 1) (by omega) (by omega) a' (fun h => by rw [← ha', if_neg (by omega)]))
  have hod := ho.drop 1
  have HD : Hid (deS bs = ([], 0, 5)) := de_kind (k := 2) hne h4 (by decide) hx hk
  have HX := Lib.hid hx
  have HLN : Hid ((upkS 2 (bs.drop 1)).1.length ≤ 1099511627776) := Nat.le_trans (upk_len hod hx) (by decide)
  have hkb : (((kindS (upkS 2 (bs.drop 1)).1 : Nat) : Int) != 2) = true := by rw [bne_iff_ne]; omega
  have HKD : Hid (∀ {a : Option Addr} {n c : Nat} (V : World), Rd (fun _ => True) V .i64 a n c (upkS 2 (bs.drop 1)).1 → Calls Try.prog 23 #[.slice a n c] V fun e W' => e = .returned (.int .i64 (kindS (upkS 2 (bs.drop 1)).1)) ∧ Below V.heap.size V W') := fun V h => kind_of hfo (upk_smalls _ _) (by rw [h.hl]; exact HLN.out) h
  generalize hkk : kindS (upkS 2 (bs.drop 1)).1 = kk at *
  clear hkk
  clear hc hfo hR hx hk h4 hne
  go_enter Try.func57, Try.ntmps57
  go_wp2
  go_region_law (first
    | (refine step_call_some (by go_simp) 52 #[] #[] (by rfl) #[] (by go_simp) (enters_of Try.func52 (by kernel_rfl) rfl _ _) _ (forms_some HFO.out _) ?_; rintro v w1 ⟨p, q, rfl, hp, hq, hb1⟩; simp only [formsV]; have HB1 : Hid (Below W.heap.size W w1) := (below_drew (Below.refl _ W)).trans hb1; have HP := Lib.hid hp; have HQ := Lib.hid hq; clear hp hq hb1)
    | (refine step_call_val (by go_simp) 22 100 #[.pointer (some ⟨p, 0, none⟩)] #[.tmp 24] #[25] (by rfl) (by go_simp) #[.slice a' (len - 1) (cap - 1)] (by go_simp) (enters_of Try.func100 (by kernel_rfl) rfl _ _) _ (uk_good (od2_0 hod (HR1.out.below HB1.out) p HP.out) HX.out) ?_; rintro v w2 ⟨⟨a1, n1, c1, a2, m, rfl, hr1, hr2⟩, hb2⟩; have HB2 : Hid (Below W.heap.size W w2) := HB1.out.trans (hb2.mono HB1.out.size); have HL1 := Lib.hid hr1; have HL2 := Lib.hid (hr2.back HB1.out); have hbz := HB1.out.size; clear hb2 hr1 hr2))
  all_goals
    simp [Act.put]
    go_wp2_with fail
    refine (HKD.out _ (HL1.out.mono (fun _ _ _ => trivial))).mono ?_
    rintro e w3 ⟨rfl, hb3⟩
    have HB3 : Hid (Below W.heap.size W w3) := HB2.out.trans (hb3.mono HB2.out.size)
    have HL3 := Lib.hid (HL1.out.below hb3)
    clear hb3
    go_wp2
    go_ret3
    exact DePost.bad HD.out (by decide) HB3.out rfl

set_option maxRecDepth 100000 in
set_option maxHeartbeats 8000000 in
theorem decode_good2 (hfo : ∀ w, Calls Try.prog 52 #[] w (FormsPost w)) {K : Nat → Prop} {b off len cap : Nat} {bs : List Int} (h0 : 0 < len) (ho : Oct bs) (h4 : bs[0]?.getD 0 = 2) (hx : (upkS 2 (bs.drop 1)).2.2 = 0) (hk : kindS (upkS 2 (bs.drop 1)).1 = 2) {W : World} (hR : Rd K W .u8 (some ⟨b, off, none⟩) len cap bs) :
    Calls Try.prog 57 #[.slice (some ⟨b, off, none⟩) len cap] W (DePost K bs W) := by
  obtain ⟨b', off', e, _, _, hc⟩ := hR.cells h0
  cases e
  have hc0 : W.cell? ⟨b, off, none⟩ = some (.int .u8 2) := by rw [← h4]; exact hc 0 h0
  have hne : bs ≠ [] := fun e => by have := hR.hl; rw [e] at this; simp at this; omega
  have hfit := hR.fit
  have hsm := hR.small
  have hz : ((len : Int) == 0) = false := by rw [beq_eq_false_iff_ne]; omega
  have HFO := Lib.hid hfo
  have hix := form_ix2
  have hfl := field_1
  obtain ⟨a', ha'⟩ : ∃ a', (if cap = 1 then some ⟨b, off, none⟩ else some ⟨b, off + 1, none⟩ : Option Addr) = a' := ⟨_, rfl⟩
  have h1l : (1 : Int) ≤ (len : Int) := by omega
  have HR1 := Lib.hid ((hR.mono (K' := fun b => K b ∧ b < W.heap.size) fun b hlt hk => ⟨hk, hlt⟩).rest 1 (by omega) (cap - 1) (by omega) (by omega) a' (fun h => by rw [← ha', if_neg (by omega)]))
  have hod := ho.drop 1
  have HD : Hid (deS bs = ((upkS 2 (bs.drop 1)).1, (upkS 2 (bs.drop 1)).2.1 + 1, 0)) := de_good (k := 2) hne h4 (by decide) hx hk
  have HX := Lib.hid hx
  have HLN : Hid ((upkS 2 (bs.drop 1)).1.length ≤ 1099511627776) := Nat.le_trans (upk_len hod hx) (by decide)
  have hkb : (((kindS (upkS 2 (bs.drop 1)).1 : Nat) : Int) != 2) = false := by rw [hk]; rfl
  have HKD : Hid (∀ {a : Option Addr} {n c : Nat} (V : World), Rd (fun _ => True) V .i64 a n c (upkS 2 (bs.drop 1)).1 → Calls Try.prog 23 #[.slice a n c] V fun e W' => e = .returned (.int .i64 (kindS (upkS 2 (bs.drop 1)).1)) ∧ Below V.heap.size V W') := fun V h => kind_of hfo (upk_smalls _ _) (by rw [h.hl]; exact HLN.out) h
  generalize hkk : kindS (upkS 2 (bs.drop 1)).1 = kk at *
  clear hkk
  clear hc hfo hR hx hk h4 hne
  go_enter Try.func57, Try.ntmps57
  go_wp2
  go_region_law (first
    | (refine step_call_some (by go_simp) 52 #[] #[] (by rfl) #[] (by go_simp) (enters_of Try.func52 (by kernel_rfl) rfl _ _) _ (forms_some HFO.out _) ?_; rintro v w1 ⟨p, q, rfl, hp, hq, hb1⟩; simp only [formsV]; have HB1 : Hid (Below W.heap.size W w1) := (below_drew (Below.refl _ W)).trans hb1; have HP := Lib.hid hp; have HQ := Lib.hid hq; clear hp hq hb1)
    | (refine step_call_val (by go_simp) 22 100 #[.pointer (some ⟨p, 0, none⟩)] #[.tmp 24] #[25] (by rfl) (by go_simp) #[.slice a' (len - 1) (cap - 1)] (by go_simp) (enters_of Try.func100 (by kernel_rfl) rfl _ _) _ (uk_good (od2_0 hod (HR1.out.below HB1.out) p HP.out) HX.out) ?_; rintro v w2 ⟨⟨a1, n1, c1, a2, m, rfl, hr1, hr2⟩, hb2⟩; have HB2 : Hid (Below W.heap.size W w2) := HB1.out.trans (hb2.mono HB1.out.size); have HL1 := Lib.hid hr1; have HL2 := Lib.hid (hr2.back HB1.out); have hbz := HB1.out.size; clear hb2 hr1 hr2))
  all_goals
    simp [Act.put]
    go_wp2_with fail
    refine (HKD.out _ (HL1.out.mono (fun _ _ _ => trivial))).mono ?_
    rintro e w3 ⟨rfl, hb3⟩
    have HB3 : Hid (Below W.heap.size W w3) := HB2.out.trans (hb3.mono HB2.out.size)
    have HL3 := Lib.hid (HL1.out.below hb3)
    clear hb3
    go_wp2
    go_ret3
    refine ⟨HB3.out, .inl ⟨by rw [HD.out], a1, n1, c1, a2, m, rfl, ?_, ?_⟩⟩
    · rw [HD.out]; exact HL3.out.mono fun b _ h => by omega
    · rw [HD.out]; have := HL2.out; rw [List.drop_drop] at this; rwa [Nat.add_comm] at this

set_option maxRecDepth 100000 in
set_option maxHeartbeats 8000000 in
theorem decode_bad3 (hfo : ∀ w, Calls Try.prog 52 #[] w (FormsPost w)) {K : Nat → Prop} {b off len cap : Nat} {bs : List Int} (h0 : 0 < len) (ho : Oct bs) (h4 : bs[0]?.getD 0 = 3) (x : Int) (hx : (upkS 3 (bs.drop 1)).2.2 = x) (hx0 : x ≠ 0) {W : World} (hR : Rd K W .u8 (some ⟨b, off, none⟩) len cap bs) :
    Calls Try.prog 57 #[.slice (some ⟨b, off, none⟩) len cap] W (DePost K bs W) := by
  obtain ⟨b', off', e, _, _, hc⟩ := hR.cells h0
  cases e
  have hc0 : W.cell? ⟨b, off, none⟩ = some (.int .u8 3) := by rw [← h4]; exact hc 0 h0
  have hne : bs ≠ [] := fun e => by have := hR.hl; rw [e] at this; simp at this; omega
  have hfit := hR.fit
  have hsm := hR.small
  have hz : ((len : Int) == 0) = false := by rw [beq_eq_false_iff_ne]; omega
  have HFO := Lib.hid hfo
  have hix := form_ix3
  have hfl := field_1
  obtain ⟨a', ha'⟩ : ∃ a', (if cap = 1 then some ⟨b, off, none⟩ else some ⟨b, off + 1, none⟩ : Option Addr) = a' := ⟨_, rfl⟩
  have h1l : (1 : Int) ≤ (len : Int) := by omega
  have HR1 := Lib.hid ((hR.mono (K' := fun b => K b ∧ b < W.heap.size) fun b hlt hk => ⟨hk, hlt⟩).rest 1 (by omega) (cap - 1) (by omega) (by omega) a' (fun h => by rw [← ha', if_neg (by omega)]))
  have hod := ho.drop 1
  have HD : Hid (deS bs = ([], 0, x)) := de_bad (k := 3) hne h4 (by decide) hx hx0
  have HX := Lib.hid hx
  have HX0 := Lib.hid hx0
  have hxb : (x != 0) = true := by simpa using hx0
  clear hc hfo hR hx hx0 h4 hne
  go_enter Try.func57, Try.ntmps57
  go_wp2
  go_region_law (first
    | (refine step_call_some (by go_simp) 52 #[] #[] (by rfl) #[] (by go_simp) (enters_of Try.func52 (by kernel_rfl) rfl _ _) _ (forms_some HFO.out _) ?_; rintro v w1 ⟨p, q, rfl, hp, hq, hb1⟩; simp only [formsV]; have HB1 : Hid (Below W.heap.size W w1) := (below_drew (Below.refl _ W)).trans hb1; have HP := Lib.hid hp; have HQ := Lib.hid hq; clear hp hq hb1)
    | (refine step_call_val (by go_simp) 22 100 #[.pointer (some ⟨q, 0, none⟩)] #[.tmp 24] #[25] (by rfl) (by go_simp) #[.slice a' (len - 1) (cap - 1)] (by go_simp) (enters_of Try.func100 (by kernel_rfl) rfl _ _) _ (uk_bad (od2_1 hod (HR1.out.below HB1.out) q HQ.out) HX.out HX0.out) ?_; rintro v w2 ⟨⟨a1, c1, rfl⟩, hb2⟩; have HB2 : Hid (Below W.heap.size W w2) := HB1.out.trans (hb2.mono HB1.out.size); clear hb2))
  all_goals
    simp [Act.put]
    go_wp2
    go_ret3
    exact DePost.bad HD.out HX0.out HB2.out rfl

set_option maxRecDepth 100000 in
set_option maxHeartbeats 8000000 in
theorem decode_kind3 (hfo : ∀ w, Calls Try.prog 52 #[] w (FormsPost w)) {K : Nat → Prop} {b off len cap : Nat} {bs : List Int} (h0 : 0 < len) (ho : Oct bs) (h4 : bs[0]?.getD 0 = 3) (hx : (upkS 3 (bs.drop 1)).2.2 = 0) (hk : kindS (upkS 3 (bs.drop 1)).1 ≠ 3) {W : World} (hR : Rd K W .u8 (some ⟨b, off, none⟩) len cap bs) :
    Calls Try.prog 57 #[.slice (some ⟨b, off, none⟩) len cap] W (DePost K bs W) := by
  obtain ⟨b', off', e, _, _, hc⟩ := hR.cells h0
  cases e
  have hc0 : W.cell? ⟨b, off, none⟩ = some (.int .u8 3) := by rw [← h4]; exact hc 0 h0
  have hne : bs ≠ [] := fun e => by have := hR.hl; rw [e] at this; simp at this; omega
  have hfit := hR.fit
  have hsm := hR.small
  have hz : ((len : Int) == 0) = false := by rw [beq_eq_false_iff_ne]; omega
  have HFO := Lib.hid hfo
  have hix := form_ix3
  have hfl := field_1
  obtain ⟨a', ha'⟩ : ∃ a', (if cap = 1 then some ⟨b, off, none⟩ else some ⟨b, off + 1, none⟩ : Option Addr) = a' := ⟨_, rfl⟩
  have h1l : (1 : Int) ≤ (len : Int) := by omega
  have HR1 := Lib.hid ((hR.mono (K' := fun b => K b ∧ b < W.heap.size) fun b hlt hk => ⟨hk, hlt⟩).rest 1 (by omega) (cap - 1) (by omega) (by omega) a' (fun h => by rw [← ha', if_neg (by omega)]))
  have hod := ho.drop 1
  have HD : Hid (deS bs = ([], 0, 5)) := de_kind (k := 3) hne h4 (by decide) hx hk
  have HX := Lib.hid hx
  have HLN : Hid ((upkS 3 (bs.drop 1)).1.length ≤ 1099511627776) := Nat.le_trans (upk_len hod hx) (by decide)
  have hkb : (((kindS (upkS 3 (bs.drop 1)).1 : Nat) : Int) != 3) = true := by rw [bne_iff_ne]; omega
  have HKD : Hid (∀ {a : Option Addr} {n c : Nat} (V : World), Rd (fun _ => True) V .i64 a n c (upkS 3 (bs.drop 1)).1 → Calls Try.prog 23 #[.slice a n c] V fun e W' => e = .returned (.int .i64 (kindS (upkS 3 (bs.drop 1)).1)) ∧ Below V.heap.size V W') := fun V h => kind_of hfo (upk_smalls _ _) (by rw [h.hl]; exact HLN.out) h
  generalize hkk : kindS (upkS 3 (bs.drop 1)).1 = kk at *
  clear hkk
  clear hc hfo hR hx hk h4 hne
  go_enter Try.func57, Try.ntmps57
  go_wp2
  go_region_law (first
    | (refine step_call_some (by go_simp) 52 #[] #[] (by rfl) #[] (by go_simp) (enters_of Try.func52 (by kernel_rfl) rfl _ _) _ (forms_some HFO.out _) ?_; rintro v w1 ⟨p, q, rfl, hp, hq, hb1⟩; simp only [formsV]; have HB1 : Hid (Below W.heap.size W w1) := (below_drew (Below.refl _ W)).trans hb1; have HP := Lib.hid hp; have HQ := Lib.hid hq; clear hp hq hb1)
    | (refine step_call_val (by go_simp) 22 100 #[.pointer (some ⟨q, 0, none⟩)] #[.tmp 24] #[25] (by rfl) (by go_simp) #[.slice a' (len - 1) (cap - 1)] (by go_simp) (enters_of Try.func100 (by kernel_rfl) rfl _ _) _ (uk_good (od2_1 hod (HR1.out.below HB1.out) q HQ.out) HX.out) ?_; rintro v w2 ⟨⟨a1, n1, c1, a2, m, rfl, hr1, hr2⟩, hb2⟩; have HB2 : Hid (Below W.heap.size W w2) := HB1.out.trans (hb2.mono HB1.out.size); have HL1 := Lib.hid hr1; have HL2 := Lib.hid (hr2.back HB1.out); have hbz := HB1.out.size; clear hb2 hr1 hr2))
  all_goals
    simp [Act.put]
    go_wp2_with fail
    refine (HKD.out _ (HL1.out.mono (fun _ _ _ => trivial))).mono ?_
    rintro e w3 ⟨rfl, hb3⟩
    have HB3 : Hid (Below W.heap.size W w3) := HB2.out.trans (hb3.mono HB2.out.size)
    have HL3 := Lib.hid (HL1.out.below hb3)
    clear hb3
    go_wp2
    go_ret3
    exact DePost.bad HD.out (by decide) HB3.out rfl

set_option maxRecDepth 100000 in
set_option maxHeartbeats 8000000 in
theorem decode_good3 (hfo : ∀ w, Calls Try.prog 52 #[] w (FormsPost w)) {K : Nat → Prop} {b off len cap : Nat} {bs : List Int} (h0 : 0 < len) (ho : Oct bs) (h4 : bs[0]?.getD 0 = 3) (hx : (upkS 3 (bs.drop 1)).2.2 = 0) (hk : kindS (upkS 3 (bs.drop 1)).1 = 3) {W : World} (hR : Rd K W .u8 (some ⟨b, off, none⟩) len cap bs) :
    Calls Try.prog 57 #[.slice (some ⟨b, off, none⟩) len cap] W (DePost K bs W) := by
  obtain ⟨b', off', e, _, _, hc⟩ := hR.cells h0
  cases e
  have hc0 : W.cell? ⟨b, off, none⟩ = some (.int .u8 3) := by rw [← h4]; exact hc 0 h0
  have hne : bs ≠ [] := fun e => by have := hR.hl; rw [e] at this; simp at this; omega
  have hfit := hR.fit
  have hsm := hR.small
  have hz : ((len : Int) == 0) = false := by rw [beq_eq_false_iff_ne]; omega
  have HFO := Lib.hid hfo
  have hix := form_ix3
  have hfl := field_1
  obtain ⟨a', ha'⟩ : ∃ a', (if cap = 1 then some ⟨b, off, none⟩ else some ⟨b, off + 1, none⟩ : Option Addr) = a' := ⟨_, rfl⟩
  have h1l : (1 : Int) ≤ (len : Int) := by omega
  have HR1 := Lib.hid ((hR.mono (K' := fun b => K b ∧ b < W.heap.size) fun b hlt hk => ⟨hk, hlt⟩).rest 1 (by omega) (cap - 1) (by omega) (by omega) a' (fun h => by rw [← ha', if_neg (by omega)]))
  have hod := ho.drop 1
  have HD : Hid (deS bs = ((upkS 3 (bs.drop 1)).1, (upkS 3 (bs.drop 1)).2.1 + 1, 0)) := de_good (k := 3) hne h4 (by decide) hx hk
  have HX := Lib.hid hx
  have HLN : Hid ((upkS 3 (bs.drop 1)).1.length ≤ 1099511627776) := Nat.le_trans (upk_len hod hx) (by decide)
  have hkb : (((kindS (upkS 3 (bs.drop 1)).1 : Nat) : Int) != 3) = false := by rw [hk]; rfl
  have HKD : Hid (∀ {a : Option Addr} {n c : Nat} (V : World), Rd (fun _ => True) V .i64 a n c (upkS 3 (bs.drop 1)).1 → Calls Try.prog 23 #[.slice a n c] V fun e W' => e = .returned (.int .i64 (kindS (upkS 3 (bs.drop 1)).1)) ∧ Below V.heap.size V W') := fun V h => kind_of hfo (upk_smalls _ _) (by rw [h.hl]; exact HLN.out) h
  generalize hkk : kindS (upkS 3 (bs.drop 1)).1 = kk at *
  clear hkk
  clear hc hfo hR hx hk h4 hne
  go_enter Try.func57, Try.ntmps57
  go_wp2
  go_region_law (first
    | (refine step_call_some (by go_simp) 52 #[] #[] (by rfl) #[] (by go_simp) (enters_of Try.func52 (by kernel_rfl) rfl _ _) _ (forms_some HFO.out _) ?_; rintro v w1 ⟨p, q, rfl, hp, hq, hb1⟩; simp only [formsV]; have HB1 : Hid (Below W.heap.size W w1) := (below_drew (Below.refl _ W)).trans hb1; have HP := Lib.hid hp; have HQ := Lib.hid hq; clear hp hq hb1)
    | (refine step_call_val (by go_simp) 22 100 #[.pointer (some ⟨q, 0, none⟩)] #[.tmp 24] #[25] (by rfl) (by go_simp) #[.slice a' (len - 1) (cap - 1)] (by go_simp) (enters_of Try.func100 (by kernel_rfl) rfl _ _) _ (uk_good (od2_1 hod (HR1.out.below HB1.out) q HQ.out) HX.out) ?_; rintro v w2 ⟨⟨a1, n1, c1, a2, m, rfl, hr1, hr2⟩, hb2⟩; have HB2 : Hid (Below W.heap.size W w2) := HB1.out.trans (hb2.mono HB1.out.size); have HL1 := Lib.hid hr1; have HL2 := Lib.hid (hr2.back HB1.out); have hbz := HB1.out.size; clear hb2 hr1 hr2))
  all_goals
    simp [Act.put]
    go_wp2_with fail
    refine (HKD.out _ (HL1.out.mono (fun _ _ _ => trivial))).mono ?_
    rintro e w3 ⟨rfl, hb3⟩
    have HB3 : Hid (Below W.heap.size W w3) := HB2.out.trans (hb3.mono HB2.out.size)
    have HL3 := Lib.hid (HL1.out.below hb3)
    clear hb3
    go_wp2
    go_ret3
    refine ⟨HB3.out, .inl ⟨by rw [HD.out], a1, n1, c1, a2, m, rfl, ?_, ?_⟩⟩
    · rw [HD.out]; exact HL3.out.mono fun b _ h => by omega
    · rw [HD.out]; have := HL2.out; rw [List.drop_drop] at this; rwa [Nat.add_comm] at this

theorem decode_of (hfo : ∀ w, Calls Try.prog 52 #[] w (FormsPost w)) {K : Nat → Prop} {a : Option Addr} {len cap : Nat} {bs : List Int} (ho : Oct bs) {W : World} (hR : Rd K W .u8 a len cap bs) :
    Calls Try.prog 57 #[.slice a len cap] W (DePost K bs W) := by
  by_cases h0 : 0 < len
  · obtain ⟨b, off, rfl, _⟩ := hR.cells h0
    by_cases h4 : (4 : Int) ≤ bs[0]?.getD 0
    · exact decode_four h0 ho h4 hR
    · have hx := ho.getD 0
      rcases (by omega : bs[0]?.getD 0 = 0 ∨ bs[0]?.getD 0 = 1 ∨ bs[0]?.getD 0 = 2 ∨ bs[0]?.getD 0 = 3) with h | h | h | h
      · by_cases hx : (upkS 0 (bs.drop 1)).2.2 = 0
        · by_cases hk : kindS (upkS 0 (bs.drop 1)).1 = 0
          · exact decode_good0 hfo h0 ho h hx hk hR
          · exact decode_kind0 hfo h0 ho h hx hk hR
        · exact decode_bad0 hfo h0 ho h _ rfl hx hR
      · by_cases hx : (upkS 1 (bs.drop 1)).2.2 = 0
        · by_cases hk : kindS (upkS 1 (bs.drop 1)).1 = 1
          · exact decode_good1 hfo h0 ho h hx hk hR
          · exact decode_kind1 hfo h0 ho h hx hk hR
        · exact decode_bad1 hfo h0 ho h _ rfl hx hR
      · by_cases hx : (upkS 2 (bs.drop 1)).2.2 = 0
        · by_cases hk : kindS (upkS 2 (bs.drop 1)).1 = 2
          · exact decode_good2 hfo h0 ho h hx hk hR
          · exact decode_kind2 hfo h0 ho h hx hk hR
        · exact decode_bad2 hfo h0 ho h _ rfl hx hR
      · by_cases hx : (upkS 3 (bs.drop 1)).2.2 = 0
        · by_cases hk : kindS (upkS 3 (bs.drop 1)).1 = 3
          · exact decode_good3 hfo h0 ho h hx hk hR
          · exact decode_kind3 hfo h0 ho h hx hk hR
        · exact decode_bad3 hfo h0 ho h _ rfl hx hR
  · obtain rfl : len = 0 := by omega
    obtain rfl : bs = [] := List.eq_nil_of_length_eq_zero hR.hl.symm
    exact decode_none a cap W

end Go.Proofs.Ytmbcppkdnoccbaa
