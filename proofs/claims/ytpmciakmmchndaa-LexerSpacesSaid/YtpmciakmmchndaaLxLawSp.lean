/-
  White space between tokens changes nothing but their offsets: the walk.
-/
import Derived.Test.YtpmciakmmchndaaLxLawJo
namespace Go.Proofs.Ytpmciakmmchndaa.Lx
open Go Go.RowKit Go.Shelf Go.Sort Go.ChangeShapes Go.WideShapes Go.ChangeAt
open Go.Proofs.Ytpmciakmmchndaa

def spcS : List (List UInt8) := [[32], [10], [9, 32], [35, 120, 10], [32, 35, 32, 34, 97, 10], [10, 10], [32, 32]]
def spcN (b : Nat) : List UInt8 := spcS[b % 7]?.getD []
theorem spc_gap (b : Nat) : Gap (spcN b) := by
  unfold spcN
  have h7 := Nat.mod_lt b (show 0 < 7 by decide)
  generalize b % 7 = m at *
  have cl : ∀ m, m < 7 → Closed (spcS[m]?.getD []) := fun m hm r => by
    rcases (by omega : m = 0 ∨ m = 1 ∨ m = 2 ∨ m = 3 ∨ m = 4 ∨ m = 5 ∨ m = 6) with rfl | rfl | rfl | rfl | rfl | rfl | rfl
    · show wsN false (32 :: r) = _; simp [wsN, blB, spcS, ws]
    · show wsN false (10 :: r) = _; simp [wsN, blB, spcS, ws]
    · show wsN false (9 :: 32 :: r) = _; simp [wsN, blB, spcS, ws]; omega
    · show wsN false (35 :: 120 :: 10 :: r) = _; simp [wsN, blB, spcS, ws]; omega
    · show wsN false (32 :: 35 :: 32 :: 34 :: 97 :: 10 :: r) = _; simp [wsN, blB, spcS, ws]; omega
    · show wsN false (10 :: 10 :: r) = _; simp [wsN, blB, spcS, ws]; omega
    · show wsN false (32 :: 32 :: r) = _; simp [wsN, blB, spcS, ws]; omega
  have rest : ∀ m, m < 7 → spcS[m]?.getD [] ≠ [] ∧ ldB (hd (spcS[m]?.getD [])) = false ∧ ptB (hd (spcS[m]?.getD [])) = false ∧ hd (spcS[m]?.getD []) ≠ 61 := by decide
  exact ⟨cl m h7, (rest m h7).1, (rest m h7).2.1, (rest m h7).2.2.1, (rest m h7).2.2.2⟩
theorem spc_len (b : Nat) : (spcN b).length ≤ 6 := by
  unfold spcN
  have : ∀ m, m < 7 → (spcS[m]?.getD []).length ≤ 6 := by decide
  exact this _ (Nat.mod_lt b (by decide))

set_option maxRecDepth 100000 in
set_option maxHeartbeats 2000000 in
theorem space_any (b : Nat) (hb : b < 256) (w : World) : Calls Try.prog 27 #[.int .u8 (b : Int)] w fun e V => e = .returned (.string (bsOf (spcN b))) ∧ Below w.heap.size w V := by
  obtain ⟨m, hm7, hm⟩ : ∃ m, m < 7 ∧ b % 7 = m := ⟨b % 7, Nat.mod_lt _ (by decide), rfl⟩
  have hmt : (b : Int).tmod 7 = (m : Int) := by rw [Int.tmod_eq_emod_of_nonneg (by omega)]; omega
  have HS : Hid (spcN b = spcS[m]?.getD []) := by show _ = _; unfold spcN; rw [hm]
  have HB := Lib.hid ((Below.refl w.heap.size w).alloc (Nat.le_refl _) (.cells #[.string ⟨#[32]⟩, .string ⟨#[10]⟩, .string ⟨#[9, 32]⟩, .string ⟨#[35, 120, 10]⟩, .string ⟨#[32, 35, 32, 34, 97, 10]⟩, .string ⟨#[10, 10]⟩, .string ⟨#[32, 32]⟩] 9))
  generalize spcN b = z at *
  clear hm hb
  rcases (by omega : m = 0 ∨ m = 1 ∨ m = 2 ∨ m = 3 ∨ m = 4 ∨ m = 5 ∨ m = 6) with rfl | rfl | rfl | rfl | rfl | rfl | rfl
  all_goals
    have HZ := Lib.hid HS.out
    clear HS
    go_enter Try.func27, Try.ntmps27
    go_wp2
    go_ret
    exact ⟨by rw [HZ.out]; rfl, HB.out⟩

/-! ### The source -/

def spcAt (zs : List Int) (n i : Nat) : List UInt8 := spcN (zs[i % n]?.getD 0).toNat
def gapS (zs : List Int) (n i : Nat) : Nat → List UInt8
  | 0 => []
  | k + 1 => gapS zs n i k ++ spcAt zs n (3 * i + k)
theorem gapS_gap (zs : List Int) (n i : Nat) : ∀ (k : Nat) (y : List UInt8), Gap y → Gap (gapS zs n i k ++ y)
  | 0, y, h => h
  | k + 1, y, h => by
    rw [gapS, List.append_assoc]
    exact gapS_gap zs n i k _ ((spc_gap _).more h.closed)
theorem gapS_len (zs : List Int) (n i : Nat) : ∀ k, (gapS zs n i k).length ≤ 6 * k
  | 0 => Nat.le_refl _
  | k + 1 => by
    have h1 := gapS_len zs n i k
    have h2 := spc_len (zs[(3 * i + k) % n]?.getD 0).toNat
    rw [gapS, List.length_append]
    unfold spcAt; omega
def gapK (zs : List Int) (n i : Nat) : List UInt8 := gapS zs n i (min 3 n)
def srcL (zs : List Int) (n : Nat) : Nat → List Tk → List UInt8
  | i, [] => gapK zs n i ++ [32]
  | i, t :: r => gapK zs n i ++ [32] ++ (spl t.k t.s ++ srcL zs n (i + 1) r)
def mkL (zs : List Int) (n : Nat) : Nat → List Tk → List (Tk × List UInt8)
  | _, [] => []
  | i, t :: r => (t, gapK zs n i ++ [32]) :: mkL zs n (i + 1) r
theorem gapK_gap (zs : List Int) (n i : Nat) : Gap (gapK zs n i ++ [32]) := gapS_gap zs n i _ _ gap_blank
theorem src_spaced (zs : List Int) (n : Nat) : ∀ (ts : List Tk) (i : Nat), srcL zs n i ts = (gapK zs n i ++ [32]) ++ spaced (mkL zs n (i + 1) ts)
  | [], i => by show gapK zs n i ++ [32] = _ ++ []; rw [List.append_nil]
  | t :: r, i => by
    show gapK zs n i ++ [32] ++ (spl t.k t.s ++ srcL zs n (i + 1) r) = (gapK zs n i ++ [32]) ++ (spl t.k t.s ++ ((gapK zs n (i + 1) ++ [32]) ++ spaced (mkL zs n (i + 1 + 1) r)))
    rw [src_spaced zs n r (i + 1)]
theorem mkL_fst (zs : List Int) (n : Nat) : ∀ (ts : List Tk) (i : Nat), (mkL zs n i ts).map (fun p => (p.1.k, p.1.s)) = alk ts
  | [], _ => rfl
  | t :: r, i => by show _ :: (mkL zs n (i + 1) r).map _ = _; rw [mkL_fst zs n r (i + 1)]; rfl
theorem mkL_ok (zs : List Int) (n : Nat) : ∀ (ts : List Tk) (i : Nat), (∀ t ∈ ts, vld t.k t.s = true) → ∀ p ∈ mkL zs n i ts, vld p.1.k p.1.s = true ∧ Closed p.2 ∧ (Gap p.2 ∨ p.2 = [])
  | [], _, _, p, hp => by cases hp
  | t :: r, i, h, p, hp => by
    rcases List.mem_cons.1 hp with rfl | hp
    · exact ⟨h t (by simp), (gapK_gap zs n i).closed, .inl (gapK_gap zs n i)⟩
    · exact mkL_ok zs n r (i + 1) (fun q hq => h q (List.mem_cons_of_mem _ hq)) p hp
theorem y_src (zs : List Int) (n : Nat) {ts : List Tk} (h : ∀ t ∈ ts, vld t.k t.s = true) : (lxY (srcL zs n 0 ts) 0).2.2 = true ∧ alk (lxY (srcL zs n 0 ts) 0).1 = alk ts := by
  have := y_spaced (mkL zs n 1 ts) (0 + (gapK zs n 0 ++ [32]).length) (mkL_ok zs n ts 1 h) (fun a b p e hp => by
    have hm : p ∈ mkL zs n 1 ts := by rw [e]; simp
    rcases (mkL_ok zs n ts 1 h p hm).2.2 with hg | _
    · exact absurd hp hg.ne
    · have : ∀ (ts : List Tk) (i : Nat) (p : Tk × List UInt8), p ∈ mkL zs n i ts → p.2 ≠ [] := by
        intro ts
        induction ts with
        | nil => intro i p hp; cases hp
        | cons t r ih =>
          intro i p hp
          rcases List.mem_cons.1 hp with rfl | hp
          · exact (gapK_gap zs n i).ne
          · exact ih (i + 1) p hp
      exact absurd hp (this ts 1 p hm))
  rw [mkL_fst] at this
  rw [src_spaced, y_closed (gapK_gap zs n 0).closed]
  exact this
theorem src_len (zs : List Int) (n : Nat) : ∀ (ts : List Tk) (i : Nat), (srcL zs n i ts).length ≤ 19 + 101 * ts.length
  | [], i => by
    have := gapS_len zs n i (min 3 n)
    show (gapK zs n i ++ [32]).length ≤ _
    unfold gapK
    rw [List.length_append]; simp; omega
  | t :: r, i => by
    have h1 := gapS_len zs n i (min 3 n)
    have h2 := src_len zs n r (i + 1)
    have h3 := spl_len t.k t.s
    show (gapK zs n i ++ [32] ++ (spl t.k t.s ++ srcL zs n (i + 1) r)).length ≤ _
    unfold gapK
    rw [List.length_append, List.length_append, List.length_append]; simp; omega
theorem src_step (zs : List Int) (n : Nat) {ts : List Tk} {i : Nat} (h : i < ts.length) : srcL zs n i (ts.drop i) = gapK zs n i ++ [32] ++ (spl (ts[i]?.getD Tk.null).k (ts[i]?.getD Tk.null).s ++ srcL zs n (i + 1) (ts.drop (i + 1))) := by
  rw [List.drop_eq_getElem_cons h, List.getElem?_eq_getElem h]; rfl
theorem bs_cat (a b : List UInt8) : bsOf a ++ bsOf b = bsOf (a ++ b) := by
  apply ByteArray.ext
  rw [ByteArray.data_append]
  show a.toArray ++ b.toArray = (a ++ b).toArray
  simp

end Go.Proofs.Ytpmciakmmchndaa.Lx
namespace Go.Proofs.Ytpmciakmmchndaa.lexerSpaces
open Go Go.RowKit Go.Shelf Go.Sort Go.ChangeShapes Go.WideShapes Go.ChangeAt
open Go.Proofs.Ytpmciakmmchndaa Go.Proofs.Ytpmciakmmchndaa.Lx

set_option maxRecDepth 100000 in
set_option maxHeartbeats 8000000 in
theorem walk {a : Option Addr} {n c : Nat} {bs : List Int} {a' : Option Addr} {m c' : Nat} {zs : List Int} {w : World} (hR : RdB w a n c bs) (ho : Oct bs) (hR' : RdB w a' m c' zs) (ho' : Oct zs) (hV : Vars w) :
    Calls Try.prog 6 #[.slice a n c, .slice a' m c'] w fun e V => e = .returned (.bool true) ∧ Below w.heap.size w V := by
  have HX := Lib.hid (examples10_any w hV)
  have HV := Lib.hid hV
  have HR := Lib.hid hR
  have HO := Lib.hid ho
  have HRZ := Lib.hid hR'
  have HOZ := Lib.hid ho'
  have hmc := hR'.fit
  have hct := hR'.top
  clear hV hR ho hR' ho'
  go_enter Try.func6, Try.ntmps6
  go_wp2_with fail
  refine HX.out.mono ?_
  rintro e w1 ⟨rfl, hb1⟩
  have HB1 := Lib.hid hb1
  have HC := Lib.hid (made_any (HR.out.below hb1) HO.out)
  clear hb1 HX
  go_wp2_with fail
  refine HC.out.mono ?_
  rintro e w2 ⟨a2, c2, rfl, hr2, hb2⟩
  have HB2 := Lib.hid (HB1.out.trans (hb2.mono HB1.out.size))
  have HR2 := Lib.hid hr2
  have HOK := Lib.hid (madeS_ok bs (mdK n))
  have HN := Lib.hid (mdK_le n)
  have HZ2 := Lib.hid (HRZ.out.below HB2.out)
  have hfit2 := hr2.fit
  have htop2 := hr2.top
  clear hb2 hr2 HC HR HO HRZ
  generalize madeS bs (mdK n) = ts at *
  generalize mdK n = q at *
  have HTL : Hid (ts.length = q) := HR2.out.hl.symm
  have HWD : Hid (∀ t ∈ ts, t.s.length ≤ 1048576) := fun t ht => Nat.le_trans (vld_len (HOK.out t ht)) (by decide)
  have hq30 : q ≤ 30 := HN.out
  go_wp2
  go_loopw [7, 8] (fun sv i wr => ∃ (i' : Nat) (acc : List UInt8), sv = .string (bsOf acc) ∧ i = .int .i64 (i' : Int) ∧ i' ≤ q + 1 ∧ Hid ((i' ≤ q ∧ acc ++ srcL zs m i' (ts.drop i') = srcL zs m 0 ts ∨ i' = q + 1 ∧ acc = srcL zs m 0 ts) ∧ Below w2.heap.size w2 wr)) (fun _ i _ => q + 1 - (intOf i).toNat)
  case atStart => exact ⟨0, [], rfl, rfl, by omega, .inl ⟨Nat.zero_le _, rfl⟩, Below.self _⟩
  case round =>
    obtain ⟨i, acc, rfl, rfl, hi, HI⟩ := hrel
    by_cases hiq : i ≤ q
    · have HE : Hid (acc ++ srcL zs m i (ts.drop i) = srcL zs m 0 ts) := by
        rcases HI.out.1 with h | h
        · exact h.2
        · exact absurd h.1 (by omega)
      have HBI := Lib.hid HI.out.2
      have HACC : Hid (acc.length ≤ 20000) := by
        have h1 := congrArg List.length HE.out
        have h2 := src_len zs m ts 0
        have h3 := HTL.out
        rw [List.length_append] at h1
        show _ ≤ _; omega
      clear HI
      go_wp2
      go_loopw [7, 9] (fun sv kk wr' => ∃ k : Nat, sv = .string (bsOf (acc ++ gapS zs m i k)) ∧ kk = .int .i64 (k : Int) ∧ k ≤ min 3 m ∧ Hid (Below w2.heap.size w2 wr')) (fun _ kk _ => 3 - (intOf kk).toNat)
      case atStart => exact ⟨0, by rw [gapS, List.append_nil], rfl, Nat.zero_le _, HBI.out⟩
      case round =>
        obtain ⟨k, rfl, rfl, hk, HJ⟩ := hrel
        by_cases hkl : k < min 3 m
        · have hk3 : (k : Int) < 3 := by omega
          have hkm : (k : Int) < (m : Int) := by omega
          have hm0 : ¬ (m : Int) = 0 := by omega
          have hm0' : ¬ m = 0 := by omega
          obtain ⟨x, hx⟩ : ∃ x : Nat, (3 * i + k) % m = x := ⟨_, rfl⟩
          have hxm : x < m := by rw [← hx]; exact Nat.mod_lt _ (by omega)
          have hmod : (3 * (i : Int) + (k : Int)).tmod (m : Int) = (x : Int) := by
            rw [Int.tmod_eq_emod_of_nonneg (by omega), ← hx]; simp
          obtain ⟨b, off, rfl, hlb, hc⟩ := HZ2.out.cells (by omega)
          have h0 := hc x hxm
          have hoz : 0 ≤ zs[x]?.getD 0 ∧ zs[x]?.getD 0 < 256 := by
            rw [List.getElem?_eq_getElem (by rw [← HZ2.out.hl]; exact hxm)]
            have := HOZ.out _ (List.getElem_mem (by rw [← HZ2.out.hl]; exact hxm))
            show 0 ≤ zs[x]'_ ∧ zs[x]'_ < 256
            omega
          have HAT : Hid (spcAt zs m (3 * i + k) = spcN (zs[x]?.getD 0).toNat) := by show _ = _; unfold spcAt; rw [hx]
          have HHX := Lib.hid hx
          generalize zs[x]?.getD 0 = yi at *
          obtain ⟨y, rfl⟩ : ∃ y : Nat, yi = (y : Int) := ⟨yi.toNat, by omega⟩
          rw [Int.toNat_natCast] at HAT
          have d0 := (HJ.out.cell (p := ⟨b, off + x, none⟩) hlb).trans h0
          have HSP := Lib.hid (fun w => space_any y (by omega) w)
          have hcat := bs_cat (acc ++ gapS zs m i k) (spcN y)
          have HG : Hid (acc ++ gapS zs m i k ++ spcN y = acc ++ gapS zs m i (k + 1)) := by
            show _ = _
            rw [gapS, HAT.out, List.append_assoc]
          rw [HG.out] at hcat
          have hAS : (bsOf (acc ++ gapS zs m i k)).size ≤ 20100 := by
            rw [bs_size, List.length_append]
            have h1 := gapS_len zs m i k
            have h2 := HACC.out
            omega
          have hSS : (bsOf (spcN y)).size ≤ 6 := by rw [bs_size]; exact spc_len y
          clear hx h0 hc hoz hkl
          generalize bsOf (acc ++ gapS zs m i k) = A at *
          generalize hsp : bsOf (spcN y) = SP at *
          clear hsp
          go_wp2_with fail
          refine (HSP.out _).mono ?_
          rintro e w5 ⟨rfl, hb5⟩
          have HB5 := Lib.hid (HJ.out.trans (hb5.mono HJ.out.size))
          clear hb5 HSP d0
          go_wp2
          go_roundw
          case rel => exact ⟨k + 1, rfl, by go_num, by omega, HB5.out⟩
          case measure => simp [intOf]; omega
        · obtain rfl : min 3 m = k := by omega
          have HGK : Hid (gapS zs m i (min 3 m) = gapK zs m i) := (rfl : gapS zs m i (min 3 m) = gapK zs m i)
          have HBJ := Lib.hid HJ.out
          rw [HGK.out]
          clear HJ hkl hk
          have hGL : (bsOf (acc ++ gapK zs m i)).size ≤ 20100 := by
            have h0 := gapS_len zs m i (min 3 m)
            rw [HGK.out] at h0
            rw [bs_size, List.length_append]
            have h2 := HACC.out
            omega
          clear HGK
          have hcat := bs_cat (acc ++ gapK zs m i) [32]
          rw [show bsOf [32] = (⟨#[32]⟩ : ByteArray) from rfl] at hcat
          have hmin : ((min 3 m : Nat) : Int) < 3 → ¬ ((min 3 m : Nat) : Int) < (m : Int) := fun h => by omega
          generalize min 3 m = k at *
          by_cases hiq3 : i < q
          · obtain ⟨b, off, rfl, hlb, hc⟩ := HR2.out.cells (by omega)
            obtain ⟨h0, h1, h2⟩ := hc i hiq3
            have HST := Lib.hid (src_step zs m (ts := ts) (i := i) (by rw [HTL.out]; exact hiq3))
            have HTW := Lib.hid (wide_at HWD.out i)
            generalize ts[i]?.getD Tk.null = u at *
            obtain ⟨tk, tt, ta⟩ := u
            dsimp only at h0 h1 h2 HST HTW
            have d0 := (HBJ.out.cell (p := ⟨b, off + i * 3, none⟩) hlb).trans h0
            have d1 := (HBJ.out.cell (p := ⟨b, off + i * 3 + 1, none⟩) hlb).trans h1
            have d2 := (HBJ.out.cell (p := ⟨b, off + i * 3 + 2, none⟩) hlb).trans h2
            clear h0 h1 h2 hc
            have hcat2 := bs_cat (acc ++ gapK zs m i ++ [32]) (spl tk tt)
            have hBL : (bsOf (acc ++ gapK zs m i ++ [32])).size ≤ 20200 := by
              rw [bs_size, List.length_append]; rw [bs_size] at hGL; simp at hGL ⊢; omega
            have hPL : (bsOf (spl tk tt)).size ≤ 82 := by rw [bs_size]; exact spl_len tk tt
            have HNX : Hid (acc ++ gapK zs m i ++ [32] ++ spl tk tt ++ srcL zs m (i + 1) (ts.drop (i + 1)) = srcL zs m 0 ts) := by
              have h := HE.out
              rw [HST.out] at h
              show _ = _
              rw [← h]; simp
            have HTL2 := Lib.hid (fun w => token_law tk ta (bsOf tt) w)
            unfold encK at HTL2
            generalize bsOf (acc ++ gapK zs m i) = A at *
            generalize hA2 : bsOf (acc ++ gapK zs m i ++ [32]) = A2 at *
            clear hA2
            by_cases hk3 : (k : Int) < 3
            all_goals
              go_wp2_with fail
              refine (HTL2.out _).mono ?_
              rintro e w5 ⟨rfl, hb5⟩
              have HB5 := Lib.hid (HBJ.out.trans (hb5.mono HBJ.out.size))
              have HSPL := Lib.hid (spell_any tk ta tt HTW.out w5 (HV.out.below (HB2.out.trans (HB5.out.mono HB2.out.size))))
              unfold encK at HSPL
              clear hb5 d0 d1 d2
              generalize hsp : bsOf (spl tk tt) = SP at *
              clear hsp
              go_wp2_with fail
              refine HSPL.out.mono ?_
              rintro e w6 ⟨rfl, hb6⟩
              have HB6 := Lib.hid (HB5.out.trans (hb6.mono HB5.out.size))
              clear hb6 HSPL
              go_wp2
              go_roundw
              case rel => exact ⟨i + 1, acc ++ gapK zs m i ++ [32] ++ spl tk tt, by simp, by go_num, by omega, .inl ⟨by omega, HNX.out⟩, HB6.out⟩
              case measure => simp [intOf]; omega
          · have hqe : i = q := by omega
            have HFE : Hid (acc ++ gapK zs m i ++ [32] = srcL zs m 0 ts) := by
              have h := HE.out
              rw [List.drop_eq_nil_of_le (by rw [HTL.out]; omega)] at h
              show _ = _
              rw [← h]; show _ = acc ++ (gapK zs m i ++ [32]); simp
            have hnq : ¬ (i : Int) < (q : Int) := by omega
            generalize bsOf (acc ++ gapK zs m i) = A at *
            by_cases hk3 : (k : Int) < 3
            all_goals
              go_wp2
              go_roundw
              case rel => exact ⟨i + 1, acc ++ gapK zs m i ++ [32], by simp [hqe], by go_num, by omega, .inr ⟨by omega, HFE.out⟩, HBJ.out⟩
              case measure => simp [intOf]; omega
    · have hiq2 : i = q + 1 := by omega
      have HE : Hid (acc = srcL zs m 0 ts) := by
        rcases HI.out.1 with h | h
        · exact absurd h.1 (by omega)
        · exact h.2
      have HBI := Lib.hid HI.out.2
      have hlen := src_len zs m ts 0
      have HSL : Hid ((srcL zs m 0 ts).length ≤ 20000) := by have := HTL.out; show _ ≤ _; omega
      have HY := Lib.hid (y_src zs m HOK.out)
      have HLX := Lib.hid (lexS_ok HSL.out HY.out.1)
      rw [HE.out]
      clear hlen HI
      have HC := Lib.hid (lexed_any (srcL zs m 0 ts) (by have := HSL.out; omega) wr (HV.out.below (HB2.out.trans (HBI.out.mono HB2.out.size))))
      rw [HLX.out] at HC
      generalize hxs : (lxY (srcL zs m 0 ts) 0).1 = xs at *
      generalize hss : bsOf (srcL zs m 0 ts) = SS at *
      clear hxs hss
      have hnq : ¬ (i : Int) ≤ (q : Int) := by omega
      clear hiq hiq2
      go_wp2_with fail
      refine HC.out.mono ?_
      rintro e w4 ⟨a4, c4, rfl, hr4, hb4, hl4⟩
      dsimp only at hr4 hl4 ⊢
      rw [show ((0 : Nat) : Int) = 0 from rfl]
      have hb5 := (Below.refl w4.heap.size w4).alloc (Nat.le_refl _) (.cells #[.slice a4 xs.length c4, .int .i64 0, .int .i64 0] 37)
      have HB5 := Lib.hid ((HB2.out.trans (HBI.out.mono HB2.out.size)).trans ((hb4.trans (hb5.mono hb4.size)).mono (HB2.out.trans (HBI.out.mono HB2.out.size)).size))
      have HU5 := Lib.hid (Trio.new w4 37 (.slice a4 xs.length c4) (.int .i64 0) (.int .i64 0))
      have HR5 := Lib.hid (((HR2.out.below HBI.out).below hb4).below hb5)
      have HX5 := Lib.hid (hr4.below hb5)
      clear hb4 hr4 hl4 hb5 HC
      go_upto_region 17 with fail
      obtain ⟨w5, hw5⟩ : ∃ w5, w4.alloc (.cells #[.slice a4 xs.length c4, .int .i64 0, .int .i64 0] 37) = w5 := ⟨_, rfl⟩
      rw [hw5] at HB5 HU5 HR5 HX5 ⊢
      clear hw5
      generalize w4.heap.size = U at *
      have d0 := HU5.out.c0
      have d2 := HU5.out.c2
      have HA := Lib.hid (alike_any HX5.out HR5.out)
      rw [HY.out.2, decide_eq_true rfl] at HA
      go_wp2_with fail
      refine HA.out.mono ?_
      rintro e w6 ⟨rfl, hb6⟩
      have HB6 := Lib.hid (HB5.out.trans (hb6.mono HB5.out.size))
      clear hb6 HA
      go_wp2
      go_ret
      exact ⟨rfl, HB6.out⟩

end Go.Proofs.Ytpmciakmmchndaa.lexerSpaces
