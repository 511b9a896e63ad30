/-
  The reference's words: at most 20, of bytes.
-/
import Derived.Test.YtdcapmbgnoahpaaDcOf
import Derived.Test.YtdcapmbgnoahpaaDcBehind
import Derived.Test.YtdcapmbgnoahpaaDcUnpack
import Derived.Deep.DeepCutAuto
namespace Go.Proofs.Ytdcapmbgnoahpaa
open Go Go.RowKit Go.Shelf Go.ChangeShapes Go.WideShapes Go.ChangeAt

def wdA : List (List UInt8) := [[], [97], [97, 98], [97, 98, 99], [98], [98, 97]]
def wdB : List (List UInt8) := [[], [97], [99], [97, 98]]
/-- The word of a byte. -/
def wordD (n : Nat) : List UInt8 := wdA[n % 6]?.getD [] ++ wdB[n / 6 % 4]?.getD [] ++ (if 240 ≤ n then [UInt8.ofNat n, 0] else [])
def wordsD (bs : List Int) : List (List UInt8) := (bs.take 20).map fun x => wordD x.toNat

theorem wd_len (n : Nat) : (wdA[n % 6]?.getD []).length ≤ 3 ∧ (wdB[n / 6 % 4]?.getD []).length ≤ 2 := by
  have h1 : ∀ k : Fin 6, (wdA[k.val]?.getD []).length ≤ 3 := by decide
  have h2 : ∀ k : Fin 4, (wdB[k.val]?.getD []).length ≤ 2 := by decide
  exact ⟨h1 ⟨n % 6, Nat.mod_lt _ (by decide)⟩, h2 ⟨n / 6 % 4, Nat.mod_lt _ (by decide)⟩⟩
theorem word_len (n : Nat) : (wordD n).length ≤ 7 := by
  have := wd_len n
  unfold wordD
  rw [List.length_append, List.length_append]
  split <;> simp <;> omega
theorem words_len (bs : List Int) : (wordsD bs).length ≤ 20 := by unfold wordsD; rw [List.length_map, List.length_take]; omega
theorem words_wide (bs : List Int) : ∀ s ∈ wordsD bs, s.length ≤ 7 := fun s hs => by
  obtain ⟨x, _, rfl⟩ := List.mem_map.1 hs
  exact word_len _
theorem words_vl (bs : List Int) : vlB (ofS (wordsD bs)) = true := by
  refine vl_iff.2 ⟨?_, fun s hs => ?_, of_inc _⟩
  · have h1 := of_len (wordsD bs)
    have h2 := words_len bs
    omega
  · have := words_wide bs s ((mem_of _ s).1 hs)
    omega

theorem words_snoc (bs : List Int) (k : Nat) (hk : k < bs.length) (h20 : k < 20) : wordsD (bs.take (k + 1)) = wordsD (bs.take k) ++ [wordD (bs[k]?.getD 0).toNat] := by
  unfold wordsD
  rw [List.take_take, List.take_take, Nat.min_eq_right (by omega), Nat.min_eq_right (by omega), take_getD_snoc bs k hk, List.map_append]
  rfl
theorem words_stop (bs : List Int) : wordsD (bs.take 20) = wordsD bs := by
  unfold wordsD
  rw [List.take_take, Nat.min_self]
theorem words_all (bs : List Int) (k : Nat) (h : bs.length ≤ k) : wordsD (bs.take k) = wordsD bs := by rw [List.take_of_length_le h]

theorem wdA_at (k : Nat) (h : k < 6) : (#[.string ⟨#[]⟩, .string ⟨#[97]⟩, .string ⟨#[97, 98]⟩, .string ⟨#[97, 98, 99]⟩, .string ⟨#[98]⟩, .string ⟨#[98, 97]⟩] : Array Value)[k]? = some (.string (bsOf (wdA[k]?.getD []))) ∧
    ([.string ⟨#[]⟩, .string ⟨#[97]⟩, .string ⟨#[97, 98]⟩, .string ⟨#[97, 98, 99]⟩, .string ⟨#[98]⟩, .string ⟨#[98, 97]⟩] : List Value)[k]? = some (.string (bsOf (wdA[k]?.getD []))) := by
  match k, h with
  | 0, _ => exact ⟨rfl, rfl⟩
  | 1, _ => exact ⟨rfl, rfl⟩
  | 2, _ => exact ⟨rfl, rfl⟩
  | 3, _ => exact ⟨rfl, rfl⟩
  | 4, _ => exact ⟨rfl, rfl⟩
  | 5, _ => exact ⟨rfl, rfl⟩
theorem wdB_at (k : Nat) (h : k < 4) : (#[.string ⟨#[]⟩, .string ⟨#[97]⟩, .string ⟨#[99]⟩, .string ⟨#[97, 98]⟩] : Array Value)[k]? = some (.string (bsOf (wdB[k]?.getD []))) ∧
    ([.string ⟨#[]⟩, .string ⟨#[97]⟩, .string ⟨#[99]⟩, .string ⟨#[97, 98]⟩] : List Value)[k]? = some (.string (bsOf (wdB[k]?.getD []))) := by
  match k, h with
  | 0, _ => exact ⟨rfl, rfl⟩
  | 1, _ => exact ⟨rfl, rfl⟩
  | 2, _ => exact ⟨rfl, rfl⟩
  | 3, _ => exact ⟨rfl, rfl⟩

theorem cell_one_at (W : World) (v : Value) (t : TypeId) (g : Nat) (hg : W.heap.size = g) : ∀ j u, [v][j]? = some u → (W.alloc (.cells #[v] t)).cell? ((⟨g, 0, none⟩ : Addr).add j) = some u := by
  subst hg
  exact cell_one_new W v t

/-- The slice at a, however long, reads as the integers zs. -/
structure RdL (K : Nat → Prop) (W : World) (k : IntKind) (a : Option Addr) (len cap : Nat) (zs : List Int) : Prop where
  hl : len = zs.length
  fit : len ≤ cap
  top : cap ≤ 9223372036854775807
  cells : 0 < len → ∃ b off, a = some ⟨b, off, none⟩ ∧ K b ∧ b < W.heap.size ∧ ∀ j, j < len → W.cell? ⟨b, off + j, none⟩ = some (.int k (zs[j]?.getD 0))
theorem RdL.below {K : Nat → Prop} {A B : World} {k : IntKind} {a : Option Addr} {len cap : Nat} {zs : List Int} (h : RdL K A k a len cap zs) (hk : Below A.heap.size A B) : RdL K B k a len cap zs :=
  ⟨h.hl, h.fit, h.top, fun h0 => by
    obtain ⟨b, off, e, hb, hlt, hc⟩ := h.cells h0
    exact ⟨b, off, e, hb, Nat.lt_of_lt_of_le hlt hk.size, fun j hj => (World.cell?_of_block (w := A) (hk.block b hlt)).trans (hc j hj)⟩⟩

/-- What the words come to. -/
def WordsPost (W : World) (ss : List (List UInt8)) (e : Ending) (W' : World) : Prop :=
  ∃ g n c, e = .returned (.slice (some ⟨g, 0, none⟩) n c) ∧ RdS (fun b => W.heap.size ≤ b) W' (some ⟨g, 0, none⟩) n c ss ∧ W'.ownsRow W.heap.size 9 1 (.slice (some ⟨g, 0, none⟩) n c) n (ss.map encStr) ∧ Below W.heap.size W W'

theorem Rd.new6 (W : World) (zs : List Int) (hs : zs.length ≤ 140737488351232 := by decide) : Rd (fun b => W.heap.size ≤ b) (W.alloc (.cells (zs.map (Value.int .u8)).toArray 5)) .u8 (some ⟨W.heap.size, 0, none⟩) zs.length zs.length zs :=
  ⟨rfl, Nat.le_refl _, by omega, hs, fun _ => ⟨W.heap.size, 0, rfl, Nat.le_refl _, by simp, fun j hj => by
    have h0 := World.alloc_heap_new W (.cells (zs.map (Value.int .u8)).toArray 5)
    unfold World.cell?
    rw [h0]
    simp [List.getElem?_map, List.getElem?_eq_getElem hj]⟩⟩

set_option maxRecDepth 100000 in
set_option maxHeartbeats 4000000 in
theorem words_any {K : Nat → Prop} {a : Option Addr} {len cap : Nat} {bs : List Int} (ho : Oct bs) {W : World} (hR : RdL K W .u8 a len cap bs) :
    Calls Try.prog 12 #[.slice a len cap] W (WordsPost W (wordsD bs)) := by
  obtain ⟨i0, hi, hz0, hz1, hz2⟩ := info_parts Try.infoS5
  have hfit := hR.fit
  have hsm := hR.top
  have HL := Lib.hid hR.hl
  have H := Lib.hid hR
  clear hR
  have hW0 : Below W.heap.size W (W.alloc (.cells #[] 9)) := (Below.refl _ _).alloc (Nat.le_refl _) _
  have hown0 : (W.alloc (.cells #[] 9)).ownsRow W.heap.size 9 1 (.slice (some ⟨W.heap.size, 0, none⟩) 0 0) 0 (([] : List (List UInt8)).map encStr) :=
    ⟨rfl, .inr ⟨W.heap.size, 0, #[], rfl, Nat.le_refl _, World.alloc_heap_new W _, Nat.le_refl _, by unfold maxLen; omega, rfl, rfl⟩⟩
  have HW0 := Lib.hid hW0
  have HOWN0 := Lib.hid hown0
  clear hW0 hown0
  go_enter Try.func12, Try.ntmps12
  go_wp2
  go_loopw [3, 4] (fun v i wr => ∃ k g c : Nat, k ≤ len ∧ k ≤ 20 ∧ i = .int .i64 k ∧ v = .slice (some ⟨g, 0, none⟩) k c ∧ k ≤ c ∧ Hid (wr.ownsRow W.heap.size 9 1 (.slice (some ⟨g, 0, none⟩) k c) k ((wordsD (bs.take k)).map encStr)) ∧ Hid (Below W.heap.size W wr)) (fun _ i _ => len - (intOf i).toNat)
  case atStart => exact ⟨0, W.heap.size, 0, Nat.zero_le _, by decide, rfl, rfl, Nat.le_refl _, HOWN0, HW0⟩
  case round =>
    obtain ⟨k, g, c, hk, hk20, rfl, rfl, hkc, HO, HB⟩ := hrel
    by_cases hlt : k < len
    · by_cases h20 : k < 20
      · obtain ⟨b, off, rfl, _, hblt, hc⟩ := H.out.cells (by omega)
        have hcx := (HB.out.cell (p := ⟨b, off + k, none⟩) hblt).trans (hc k hlt)
        have HSN := Lib.hid (words_snoc bs k (by rw [← HL.out]; exact hlt) h20)
        have hoct := ho.getD k
        obtain ⟨x, hx⟩ := Int.eq_ofNat_of_zero_le hoct.1
        rw [hx] at hcx hoct HSN
        rw [Int.toNat_natCast] at HSN
        have hx256 : x < 256 := by omega
        have HXE := Lib.hid hx
        clear hc hx hoct
        have hwx : IntKind.i64.wrap (x : Int) = x := by rw [IntKind.wrap_i64]; omega
        obtain ⟨hwl1, hwl2⟩ := wd_len x
        have hr6 : (x : Int).tmod 6 = ((x % 6 : Nat) : Int) := by rw [Int.tmod_eq_emod_of_nonneg (by omega)]; omega
        have hq6 : (x : Int).tdiv 6 = ((x / 6 : Nat) : Int) := by rw [Int.tdiv_eq_ediv_of_nonneg (by omega)]; omega
        have hr4 : ((x / 6 : Nat) : Int).tmod 4 = ((x / 6 % 4 : Nat) : Int) := by rw [Int.tmod_eq_emod_of_nonneg (by omega)]; omega
        have h6l : x % 6 < 6 := Nat.mod_lt _ (by decide)
        have h4l : x / 6 % 4 < 4 := Nat.mod_lt _ (by decide)
        have HWD : Hid (wordD x = wdA[x % 6]?.getD [] ++ wdB[x / 6 % 4]?.getD [] ++ (if 240 ≤ x then [UInt8.ofNat x, 0] else [])) := rfl
        generalize e6 : x % 6 = m6 at *
        generalize e4 : x / 6 % 4 = m4 at *
        have tA := List.getElem_eq_iff (by simpa using h6l) |>.2 (wdA_at m6 h6l).2
        have tB := List.getElem_eq_iff (by simpa using h4l) |>.2 (wdB_at m4 h4l).2
        have HAB := Lib.hid (bs_append (wdA[m6]?.getD []) (wdB[m4]?.getD []))
        have hsA : (bsOf (wdA[m6]?.getD [])).size ≤ 3 := by rw [bs_size]; exact hwl1
        have hsB : (bsOf (wdB[m4]?.getD [])).size ≤ 2 := by rw [bs_size]; exact hwl2
        generalize bsOf (wdA[m6]?.getD []) = A at *
        generalize bsOf (wdB[m4]?.getD []) = B at *
        go_upto_region 6 with fail
        go_cut [6] (fun t wx => t = .string (A ++ B) ∧ Hid (Below wr.heap.size wr wx))
        case first =>
          go_region
          all_goals (go_wp2_with fail; go_meet)
          all_goals exact ⟨rfl, below_drew5 (((Below.refl _ wr).alloc (Nat.le_refl _) _).alloc (by simp) _)⟩
        case rest =>
          obtain ⟨rfl, HC⟩ := hcut
          have HBC : Hid (Below W.heap.size W wc) := HB.out.trans (HC.out.mono HB.out.size)
          have hcx2 := (HBC.out.cell (p := ⟨b, off + k, none⟩) hblt).trans ((HB.out.cell (p := ⟨b, off + k, none⟩) hblt).symm.trans hcx)
          have HOC' : Hid (wc.ownsRow W.heap.size 9 1 (.slice (some ⟨g, 0, none⟩) k c) k ((wordsD (bs.take k)).map encStr)) := (Kept.of_below HC.out).row HO.out (row_lt HO.out)
          have hbs := HBC.out.size
          have HAB2 := Lib.hid (show (A ++ B).size ≤ 5 by rw [ByteArray.size_append]; omega)
          clear tA tB hr6 hq6 hr4 e6 e4 hcx hwl1 hwl2 hsA hsB
          by_cases h240 : 240 ≤ x
          · have HWE : Hid ((([wordD x] : List (List UInt8)).map encStr) = [.string ((A ++ B) ++ bsOf (strU [(x : Int), 0]))]) := by
              show _ = _
              have e : wordD x = wdA[m6]?.getD [] ++ wdB[m4]?.getD [] ++ strU [(x : Int), 0] := by
                rw [HWD.out, if_pos h240]; rfl
              rw [List.map_cons, List.map_nil, e]
              show [Value.string (bsOf _)] = _
              rw [← bs_append, ← HAB.out]
            have hR2 := Rd.new6 wc [(x : Int), 0] (by show 2 ≤ _; decide)
            have HOC : Hid ((wc.alloc (.cells #[.int .u8 x, .int .u8 0] 5)).ownsRow W.heap.size 9 1 (.slice (some ⟨g, 0, none⟩) k c) k ((wordsD (bs.take k)).map encStr)) := HOC'.out.alloc _
            have HBQ : Hid (Below W.heap.size W (wc.alloc (.cells #[.int .u8 x, .int .u8 0] 5))) := HBC.out.alloc HBC.out.size _
            have hcv : (convert 22 9 (.slice (some ⟨wc.heap.size, 0, none⟩) 2 2)).run Try.prog (wc.alloc (.cells #[.int .u8 x, .int .u8 0] 5)) = .ok (.string (bsOf (strU [(x : Int), 0]))) (wc.alloc (.cells #[.int .u8 x, .int .u8 0] 5)) := conv_any hR2 _ rfl
            have hz3 : (bsOf (strU [(x : Int), 0])).size = 2 := by rw [bs_size]; rfl
            have hAB := HAB2.out
            generalize A ++ B = AB at *
            generalize bsOf (strU [(x : Int), 0]) = X2 at *
            have hsum : ¬ ((AB.size : Int) + (X2.size : Int) > 9223372036854775807) := by omega
            obtain ⟨S, hS⟩ : ∃ S, AB ++ X2 = S := ⟨_, rfl⟩
            rw [hS] at HWE
            have hwq : (wc.alloc (.cells #[.int .u8 x, .int .u8 0] 5)).heap.size = wc.heap.size + 1 := by simp
            clear hR2
            go_wp2_with (at_builtin; refine wpList_append_own _ rfl _ _ 23 rfl W.heap.size 9 i0 (.string ⟨#[]⟩) 1 16 Try.underlying23 hi hz0 hz1 hz2 rfl (by decide) _ k _ rfl (HOC.out.alloc _) ⟨_, 0, none⟩ 1 1 [.string S] rfl rfl (cell_one_at _ _ _ _ hwq) (fun u hu => by rw [List.mem_singleton.1 hu]; rfl) (by unfold maxLen; omega) (by omega) (by simp; omega) ?_; intro v' w2 hown' hgr hnil; obtain ⟨g2, c2, rfl, hn2, hb2⟩ := row_form hown' (fun e => by have := (hnil.1 e).2; omega); have HOWN2 := Lib.hid hown'; have HB2 : Hid (Below W.heap.size W w2) := (HBQ.out.alloc HBQ.out.size _).grown hgr (by simp; omega) (fun r e => by cases e; exact row_base HOC.out); clear hown' hgr hnil)
            go_roundw
            case rel =>
              refine ⟨k + 1, g2, c2, by omega, by omega, by go_num, rfl, hn2, ?_, HB2⟩
              rw [HSN.out, List.map_append, HWE.out]
              exact HOWN2
            case measure => simp [intOf]; omega
          · have HWE : Hid ((([wordD x] : List (List UInt8)).map encStr) = [.string (A ++ B)]) := by
              show _ = _
              have e : wordD x = wdA[m6]?.getD [] ++ wdB[m4]?.getD [] := by
                rw [HWD.out, if_neg h240, List.append_nil]
              rw [List.map_cons, List.map_nil, e]
              show [Value.string (bsOf _)] = _
              rw [← HAB.out]
            have HOC := HOC'
            have HBQ := HBC
            have hAB := HAB2.out
            generalize A ++ B = S at *
            go_wp2_with (at_builtin; refine wpList_append_own _ rfl _ _ 23 rfl W.heap.size 9 i0 (.string ⟨#[]⟩) 1 16 Try.underlying23 hi hz0 hz1 hz2 rfl (by decide) _ k _ rfl (HOC.out.alloc _) ⟨_, 0, none⟩ 1 1 [.string S] rfl rfl (cell_one_new _ _ _) (fun u hu => by rw [List.mem_singleton.1 hu]; rfl) (by unfold maxLen; omega) (by omega) (by simp; omega) ?_; intro v' w2 hown' hgr hnil; obtain ⟨g2, c2, rfl, hn2, hb2⟩ := row_form hown' (fun e => by have := (hnil.1 e).2; omega); have HOWN2 := Lib.hid hown'; have HB2 : Hid (Below W.heap.size W w2) := (HBQ.out.alloc HBQ.out.size _).grown hgr (by simp; omega) (fun r e => by cases e; exact row_base HOC.out); clear hown' hgr hnil)
            go_roundw
            case rel =>
              refine ⟨k + 1, g2, c2, by omega, by omega, by go_num, rfl, hn2, ?_, HB2⟩
              rw [HSN.out, List.map_append, HWE.out]
              exact HOWN2
            case measure => simp [intOf]; omega
      · obtain rfl : k = 20 := by omega
        have HWS := Lib.hid (words_stop bs)
        rw [HWS.out] at HO
        have hl20 : (wordsD bs).length = 20 := by have := HO.out.1; simpa using this
        go_wp2
        go_ret
        exact ⟨g, 20, c, rfl, (RdS.of_row hl20.symm (by omega) (fun s hs => by have := words_wide bs s hs; unfold maxLen; omega) HO.out), HO.out, HB.out⟩
    · obtain rfl : k = len := by omega
      rw [words_all bs k (by rw [← HL.out]; exact Nat.le_refl _)] at HO
      have hlk : (wordsD bs).length = k := by have := HO.out.1; simpa using this
      by_cases h20 : k < 20
      · go_wp2
        go_ret
        exact ⟨g, k, c, rfl, (RdS.of_row hlk.symm (by omega) (fun s hs => by have := words_wide bs s hs; unfold maxLen; omega) HO.out), HO.out, HB.out⟩
      · go_wp2
        go_ret
        exact ⟨g, k, c, rfl, (RdS.of_row hlk.symm (by omega) (fun s hs => by have := words_wide bs s hs; unfold maxLen; omega) HO.out), HO.out, HB.out⟩

end Go.Proofs.Ytdcapmbgnoahpaa
