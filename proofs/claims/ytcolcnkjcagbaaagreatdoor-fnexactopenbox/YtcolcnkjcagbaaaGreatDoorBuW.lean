/-
  What opens a law's argument and its listed table at this program. No condition.
  What opens a slice of epochs that comes in. No condition.
  The law of OpenBox returns true. Conditions: the slices read; the table of powers of ten lies; errNoBox holds a pointer, the errors package's errorType is the type error.
  What opens a box that comes in; what the laid variables errNoBox and errorType give; a world where they lie. No condition.
-/
import Derived.Test.YtcolcnkjcagbaaaGreatDoorTxF
import Derived.Test.YtcolcnkjcagbaaaGreatDoorStrs
import Derived.Test.YtcolcnkjcagbaaaGreatDoorRows
import Derived.Test.YtcolcnkjcagbaaaGreatDoorTie
import Derived.Test.YtcolcnkjcagbaaaGreatDoorCards
import Derived.ProofKit
import Derived.OpenShut
import Derived.ShutString
import Derived.ChangeOld
import Derived.Lay
import Derived.Lib.LaidTab
import Derived.Deep.DeepHandedRow
import Derived.Test.YtcolcnkjcagbaaaGreatDoorBuP
import Derived.Deep.SlicePairs
import Derived.Test.YtcolcnkjcagbaaaGreatDoorBuX
import Derived.Stop.LaidErr
import Derived.LaidHandle
import Derived.LaidSub
import Derived.MakeChecks
namespace Go.Proofs.YtcolcnkjcagbaaaGreatDoor
open Go.ChangeShapes Go.WideShapes Go.ChangeAt Go.RowKit Go.Deep
set_option linter.unusedVariables false

theorem ownN : ownKnob Tryz.prog.godebug = none := by kernel_rfl
theorem laidOutN : laidOutB Tryz.prog = true := by kernel_rfl
theorem cells9 : Tryz.prog.cellsOf 9 = 1 := by kernel_rfl

/-- a slice of texts that came in reads as texts -/
theorem open_strs {H : Type} {enc : TypeId × Value → H} {W : World} {n : Nat} {v : Value} {x : DataW H × List MemPlace} (h : DataW.trod enc Tryz.prog W 0 (fun _ => true) true n 23 [v] = some x) :
    ∃ a len cap S, v = .slice a len cap ∧ IsStrs W a len cap S ∧ ∀ i, i < len → (S i).size ≤ 9223372036854775807 := by
  rcases open_slice Tryz.underlying23 h with ⟨hcs, _⟩ | ⟨a, len, cap, m, n', D, Pl, hcs, _, hl, hm, hmm, _, hall⟩
  · simp at hcs
    exact ⟨none, 0, 0, fun _ => ⟨#[]⟩, hcs, ⟨Nat.le_refl _, by omega, fun h => absurd h (by omega)⟩, fun i h => absurd h (by omega)⟩
  · simp at hcs hmm
    subst hmm
    rw [cells9] at hall
    have key : ∀ i, i < len → ∃ s : ByteArray, W.cell? (a.add (i * 1)) = some (.string s) ∧ s.size ≤ 9223372036854775807 := by
      intro i hi
      obtain ⟨cs', h1, h2⟩ := hall i (by omega)
      obtain ⟨_, hlen, hcell⟩ := World.cells?_some h1
      obtain ⟨s, rfl, _, hs⟩ := DataW.trod_string Tryz.underlying9 h2
      have e0 := hcell 0 (by omega)
      rw [add_add] at e0
      exact ⟨s, by simpa using e0, by unfold maxLen at hs; omega⟩
    obtain ⟨q, hq⟩ := choose_lt key
    refine ⟨some a, len, _, q, hcs, ⟨hl, by unfold maxLen at hm; omega, fun hp => ?_⟩, fun i hi => (hq i hi).2⟩
    obtain ⟨b, off, spot⟩ := a
    have hc0 := (hq 0 hp).1
    have hspot : spot = none := by simpa [Addr.add] using World.cell?_spot hc0
    subst hspot
    refine ⟨b, off, rfl, ?_, fun i hi => ?_⟩
    · rw [add_plain] at hc0; exact cell_lt hc0
    · have h1 := (hq i hi).1
      rw [add_plain, Nat.mul_one] at h1
      exact h1


theorem cells209 : Tryz.prog.cellsOf 209 = 20 := by kernel_rfl
theorem cells148 : Tryz.prog.cellsOf 148 = 1 := by kernel_rfl
theorem gPT : (Tryz.prog.globals[3]?).map (·.type) = some 209 := by kernel_rfl
theorem pow_of_one {W : World} (h : laidMetH Tryz.prog [("internal/strconv.uint64pow10", Rows.laid_internal_strconv_uint64pow10)] W) : Pow W :=
  Lib.tabIs_of_head (zs := Lib.pow10Tab) (rest := []) gP gPT Tryz.underlying209 Tryz.underlying148 cells148 cells209 h
end Go.Proofs.YtcolcnkjcagbaaaGreatDoor

namespace Go.Proofs.YtcolcnkjcagbaaaGreatDoor
open Go.ChangeShapes Go.WideShapes Go.ChangeAt Go.RowKit Go.Deep
set_option linter.unusedVariables false

/-- epochs: keys, lengths, members -/
def IsEps (w : World) (a : Option Addr) (len cap : Nat) (D : (Nat → Int) × (Nat → Nat) × (Nat → Nat → Int)) : Prop := Ep.IsEps w a len cap D.1 D.2.1 D.2.2
def EFine (_ : (Nat → Int) × (Nat → Nat) × (Nat → Nat → Int)) (_ : Nat) : Prop := True
theorem cells2E : Tryz.prog.cellsOf 2 = 1 := by kernel_rfl
theorem cells45E : Tryz.prog.cellsOf 45 = 1 := by kernel_rfl
theorem cells59E : Tryz.prog.cellsOf 59 = 2 := by kernel_rfl

/-- a slice of int64 that came in reads as numbers -/
theorem open_i64 {H : Type} {enc : TypeId × Value → H} {W : World} {n : Nat} {v : Value} {x : DataW H × List MemPlace} (h : DataW.trod enc Tryz.prog W 0 (fun _ => true) true n 45 [v] = some x) :
    ∃ a len cap Z, v = .slice a len cap ∧ Ep.IsI64 W a len cap Z := by
  rcases open_ints Tryz.underlying45 Tryz.underlying2 cells2E h with ⟨hcs, _⟩ | ⟨a, l, c, zs, hcs, _, hl, hm, hz, _, hcell, hwz⟩
  · simp at hcs
    exact ⟨none, 0, 0, fun _ => 0, hcs, Nat.le_refl _, by omega, fun h => absurd h (by omega)⟩
  · simp at hcs
    refine ⟨some a, l, c, fun i => zs.getD i 0, hcs, hl, by unfold maxLen at hm; omega, fun hp => ?_⟩
    obtain ⟨b, off, spot⟩ := a
    have hc0 := hcell 0 (by simp at hz; omega)
    have hspot : spot = none := by simpa [Addr.add] using World.cell?_spot hc0
    subst hspot
    refine ⟨b, off, rfl, ?_, fun i hi => ?_⟩
    · rcases Nat.lt_or_ge b W.heap.size with h' | h'
      · exact h'
      · simp [Addr.add, World.cell?, Array.getElem?_eq_none h'] at hc0
    · have := hcell i (by simp at hz; omega)
      rw [add_plain] at this
      exact this

/-- a slice of epochs that came in reads as epochs -/
theorem open_epsK {H : Type} {enc : TypeId × Value → H} {W : World} {n : Nat} {v : Value} {x : DataW H × List MemPlace} (h : DataW.trod enc Tryz.prog W 0 (fun _ => true) true n 22 [v] = some x) :
    ∃ a len cap D, v = .slice a len cap ∧ IsEps W a len cap D ∧ EFine D len := by
  rcases open_slice_pairs Tryz.underlying22 Tryz.underlying59 cells59E rfl rfl cells2E cells45E h with ⟨hcs, _⟩ | ⟨a, len, cap, m, n', V0, V1, D0, D1, P0, P1, hcs, _, hl, hm, hmm, _, hall⟩
  · simp at hcs
    exact ⟨none, 0, 0, (fun _ => 0, fun _ => 0, fun _ _ => 0), hcs, ⟨Nat.le_refl _, by omega, fun h => absurd h (by omega)⟩, trivial⟩
  · simp at hcs hmm
    subst hmm
    have key : ∀ i, i < len → ∃ q : Int × Option Addr × Nat × Nat × (Nat → Int), W.cell? (a.add (i * 2)) = some (.int .i64 q.1) ∧ W.cell? (a.add (i * 2 + 1)) = some (.slice q.2.1 q.2.2.1 q.2.2.2.1) ∧ Ep.IsI64 W q.2.1 q.2.2.1 q.2.2.2.1 q.2.2.2.2 := by
      intro i hi
      obtain ⟨c0, c1, t0, t1⟩ := hall i (by omega)
      obtain ⟨z, e0, _, _⟩ := DataW.trod_int Tryz.underlying2 t0
      obtain ⟨a', l', c', Z', e1, hI⟩ := open_i64 t1
      simp at e0
      exact ⟨(z, a', l', c', Z'), by rw [c0, e0], by rw [c1, e1], hI⟩
    obtain ⟨q, hq⟩ := choose_lt key
    refine ⟨some a, len, _, (fun i => (q i).1, fun i => (q i).2.2.1, fun i => (q i).2.2.2.2), hcs, ⟨hl, by unfold maxLen at hm; omega, fun hp => ?_⟩, trivial⟩
    obtain ⟨b, off, spot⟩ := a
    have hc0 := (hq 0 hp).1
    have hspot : spot = none := by simpa [Addr.add] using World.cell?_spot hc0
    subst hspot
    refine ⟨b, off, fun i => (q i).2.1, fun i => (q i).2.2.2.1, rfl, ?_, fun i hi => ?_⟩
    · rcases Nat.lt_or_ge b W.heap.size with h' | h'
      · exact h'
      · simp [Addr.add, World.cell?, Array.getElem?_eq_none h'] at hc0
    · obtain ⟨h1, h2, h3⟩ := hq i hi
      rw [add_plain] at h1 h2
      exact ⟨h1, h2, h3⟩
end Go.Proofs.YtcolcnkjcagbaaaGreatDoor

namespace Go.Proofs.YtcolcnkjcagbaaaGreatDoor
open Go.RowKit Go.Maps
set_option linter.unusedVariables false

def SzR (r : Int) (len : Nat) (S : Nat → ByteArray) : Prop := r < 0 ∨ (0 ≤ r ∧ r ≤ 1048576 ∧ len ≤ 1048576 ∧ ∀ i, i < len → (S i).size ≤ 1048576)
set_option maxHeartbeats 400000 in
theorem szStringS_left (a : Option Addr) (len cap : Nat) (S : Nat → ByteArray) (left : Int) (w : World) (h : IsStrs w a len cap S) (hS : ∀ i, i < len → (S i).size ≤ 9223372036854775807) (h0 : 0 ≤ left) (h1 : left ≤ 1048576) :
    Calls Tryz.prog 8 #[.slice a len cap, .int .i64 left] w fun e w' => ∃ r : Int, e = .returned (.int .i64 r) ∧ SzR r len S ∧ w' = w := by
  obtain ⟨hlc, hcm, hc⟩ := h
  have HM1 : SzR (-1) len S := .inl (by decide)
  by_cases hneg : left - (len : Int) < 0
  · go_enter Tryz.func8, Tryz.ntmps8
    go_wp2
    go_ret
    exact ⟨_, rfl, HM1, rfl⟩
  have hlen : len ≤ 1048576 := by omega
  go_enter Tryz.func8, Tryz.ntmps8
  go_wp2
  go_loop [1, 5] (fun x i => ∃ (k : Nat) (r : Int), k ≤ len ∧ i = .int .i64 k ∧ x = .int .i64 r ∧ 0 ≤ r ∧ r ≤ 1048576 ∧ Hid (∀ j, j < k → (S j).size ≤ 1048576)) (fun _ i => len - (intOf i).toNat)
  case atStart => exact ⟨0, _, Nat.zero_le _, rfl, rfl, by omega, by omega, fun j hj => absurd hj (Nat.not_lt_zero _)⟩
  case round =>
    obtain ⟨k, r, hk, rfl, rfl, hr0, hr1, HA⟩ := hrel
    by_cases hlt : k < len
    · obtain ⟨b, off, rfl, hbs, hcell⟩ := hc (by omega)
      have d1 := hcell k hlt
      have hsz := hS k hlt
      have hltI : (k : Int) < (len : Int) := by omega
      clear hcell hc
      by_cases hng : r - ((S k).size : Int) < 0
      · go_wp2
        go_ret
        exact ⟨_, rfl, HM1, rfl⟩
      · have HA' : Hid (∀ j, j < k + 1 → (S j).size ≤ 1048576) := by
          intro j hj
          rcases Nat.lt_succ_iff_lt_or_eq.1 hj with h1 | rfl
          · exact HA.out j h1
          · omega
        go_wp2
        go_round
        case rel => exact ⟨k + 1, _, by omega, by go_num, rfl, by omega, by omega, HA'⟩
        case measure => simp [intOf]; omega
    · have hke : k = len := by omega
      subst hke
      have HF : SzR r k S := .inr ⟨hr0, hr1, hlen, HA.out⟩
      go_wp2
      go_ret
      exact ⟨_, rfl, HF, rfl⟩

theorem szBox_left (key : Int) (s : ByteArray) (left : Int) (h0 : 0 ≤ left) (h1 : left ≤ 1048576) (hs : s.size ≤ 9223372036854775807) (w : World) :
    Calls Tryz.prog 9 #[.agg #[.int .i64 key, .string s], .int .i64 left] w fun e w' => ∃ r : Int, e = .returned (.int .i64 r) ∧ Hid (r < 0 ∨ 0 ≤ r ∧ s.size ≤ 1048576) ∧ Below w.heap.size w w' := by
  by_cases h : (s.size : Int) ≤ left
  · have hI : ¬ (left - (s.size : Int) < 0) := by omega
    have HH : Hid (left - s.size < 0 ∨ 0 ≤ left - s.size ∧ s.size ≤ 1048576) := .inr ⟨by omega, by omega⟩
    clear h
    go_enter Tryz.func9, Tryz.ntmps9
    go_wp2
    go_ret
    exact ⟨_, rfl, HH, (Below.refl _ _).alloc (Nat.le_refl _) _⟩
  · have hI : (left - (s.size : Int) < 0) := by omega
    have HH : Hid ((-1 : Int) < 0 ∨ 0 ≤ (-1 : Int) ∧ s.size ≤ 1048576) := .inl (by omega)
    clear h
    go_enter Tryz.func9, Tryz.ntmps9
    go_wp2
    go_ret
    exact ⟨_, rfl, HH, (Below.refl _ _).alloc (Nat.le_refl _) _⟩

set_option maxHeartbeats 4000000 in
theorem openBox_walk (a : Option Addr) (len cap : Nat) (D : (Nat → Int) × (Nat → Nat) × (Nat → Nat → Int)) (u : Option Addr) (m uc : Nat) (S : Nat → ByteArray) (key : Int) (s : ByteArray) (b : Addr) (w : World) (hI : IsEps w a len cap D) (_ : EFine D len) (hS : IsStrs w u m uc S) (hSs : ∀ i, i < m → (S i).size ≤ 9223372036854775807) (k1 : -9223372036854775808 ≤ key) (k2 : key ≤ 9223372036854775807) (hs9 : s.size ≤ 9223372036854775807) (hP : Pow w)
    (hG : w.cell? ⟨0, 0, none⟩ = some (.iface 216 (.pointer (some b)))) (hE : w.cell? ⟨1, 0, none⟩ = some (.iface 170 (.agg #[.pointer (some ⟨6, 65, none⟩)]))) (h1 : 1 < w.heap.size) :
    Calls Tryz.prog 3 #[.slice a len cap, .slice u m uc, .agg #[.int .i64 key, .string s]] w fun e w' => e = .returned (.bool true) ∧ Below w.heap.size w w' := by
  obtain ⟨K, L, M⟩ := D
  have HI : Hid (Ep.IsEps w a len cap K L M) := hI
  have HS : Hid (IsStrs w u m uc S) := hS
  have HP : Hid (Pow w) := hP
  have HG := (show Hid _ from hG)
  have HE := (show Hid _ from hE)
  have H1 := (show Hid _ from h1)
  have HK : Hid (-9223372036854775808 ≤ key ∧ key ≤ 9223372036854775807 ∧ s.size ≤ 9223372036854775807) := ⟨k1, k2, hs9⟩
  have HB0 : Hid (Below w.heap.size w (w.alloc (.cells #[.int .i64 key, .string s] 25))) := (Below.refl _ _).alloc (Nat.le_refl _) _
  have HX : Hid ((w.alloc (.cells #[.int .i64 key, .string s] 25)).heap[w.heap.size]? = some (.cells #[.int .i64 key, .string s] 25 (0, 0))) := heap_alloc_new w _
  have HC : Hid (∀ v, Below (w.alloc (.cells #[.int .i64 key, .string s] 25)).heap.size (w.alloc (.cells #[.int .i64 key, .string s] 25)) v → v.cell? ⟨w.heap.size, 0, none⟩ = some (.int .i64 key) ∧ v.cell? ⟨w.heap.size, 1, none⟩ = some (.string s)) := fun v hv =>
    ⟨cell_of_row v _ 0 _ _ _ ((hv.block _ (lt_of_block HX.out)).trans HX.out), cell_of_row v _ 1 _ _ _ ((hv.block _ (lt_of_block HX.out)).trans HX.out)⟩
  clear hI hS hP hG hE h1 k1 k2 hs9
  go_enter Tryz.func3, Tryz.ntmps3
  go_wp2_with fail
  refine (Ep.szEpochS_any a len cap K L M _ (HI.out.below HB0.out)).mono ?_
  rintro e w1 ⟨r, rfl, hr, d1⟩
  have b1 := HB0.out.trans (d1.mono HB0.out.size)
  rcases hr with hr | ⟨hr0, hr1, hl, hL⟩
  · go_wp2
    go_ret
    exact ⟨rfl, b1⟩
  have HL : Hid (∀ i, i < len → L i ≤ 1048576) := hL
  clear hL
  go_wp2_with fail
  refine (szStringS_left u m uc S r _ (HS.out.below b1) hSs hr0 hr1).mono ?_
  rintro e w2 ⟨r2, rfl, hr2, hw2⟩
  rw [hw2]
  clear hw2 w2
  unfold SzR at hr2
  rcases hr2 with hr2 | ⟨hr20, hr21, hml, hms⟩
  · go_wp2
    go_ret
    exact ⟨rfl, b1⟩
  clear hSs hr0 hr1
  obtain ⟨c10, c11⟩ := HC.out _ d1
  go_wp2_with fail
  refine (szBox_left key s r2 hr20 hr21 HK.out.2.2 _).mono ?_
  rintro e w2 ⟨r3, rfl, hr3, hB2⟩
  have b2 := b1.trans (hB2.mono b1.size)
  have d2 := d1.trans (hB2.mono d1.size)
  clear c10 c11 d1
  rcases hr3.out with hr3 | ⟨hr30, hsz⟩
  · go_wp2
    go_ret
    exact ⟨rfl, b2⟩
  clear hr20 hr21 hr3 hB2
  obtain ⟨c20, c21⟩ := HC.out _ d2
  have B2 : Hid (Below w.heap.size w w2) := b2
  have D2 : Hid (Below (w.alloc (.cells #[.int .i64 key, .string s] 25)).heap.size (w.alloc (.cells #[.int .i64 key, .string s] 25)) w2) := d2
  clear b2 d2
  go_wp2_with fail
  go_region_with (first
    | (go_at_call 11; (refine (Ep.toEpochS_any a len cap K L M w2.drew (HI.out.below B2.out.drew) hl HL).mono ?_; rintro e wa ⟨ga, rfl, ja, hBa⟩; have BA : Hid (Below w.heap.size w wa) := B2.out.drew.trans (hBa.mono B2.out.drew.size); have da := D2.out.drew.trans (hBa.mono D2.out.drew.size); obtain ⟨ca0, ca1⟩ := HC.out _ da; have DA : Hid (Below (w.alloc (.cells #[.int .i64 key, .string s] 25)).heap.size (w.alloc (.cells #[.int .i64 key, .string s] 25)) wa) := da; have JA : Hid (Ep.IsEps wa (some ⟨ga, 0, none⟩) len len K L M) := ja; clear da ja hBa))
    | (go_at_call 12; (refine (toStrs_own u m uc S wa (HS.out.below BA.out) hml).mono ?_; rintro e wb ⟨tb, rfl, jb, hBb, _, _⟩; have BB : Hid (Below w.heap.size w wb) := BA.out.trans (hBb.mono BA.out.size); have db := DA.out.trans (hBb.mono DA.out.size); obtain ⟨cb0, cb1⟩ := HC.out _ db; have DB : Hid (Below (w.alloc (.cells #[.int .i64 key, .string s] 25)).heap.size (w.alloc (.cells #[.int .i64 key, .string s] 25)) wb) := db; have JB : Hid (IsStrs wb (some ⟨tb, 0, none⟩) m m S) := jb; have JA2 : Hid (Ep.IsEps wb (some ⟨ga, 0, none⟩) len len K L M) := JA.out.below hBb; clear db jb hBb))
    | (go_at_call 13; (refine (toBox_any key s wb).mono ?_; rintro e wc ⟨rfl, hBc⟩; have BC : Hid (Below w.heap.size w wc) := BB.out.trans (hBc.mono BB.out.size); have DC : Hid (Below (w.alloc (.cells #[.int .i64 key, .string s] 25)).heap.size (w.alloc (.cells #[.int .i64 key, .string s] 25)) wc) := DB.out.trans (hBc.mono DB.out.size); have JB2 : Hid (IsStrs wc (some ⟨tb, 0, none⟩) m m S) := JB.out.below hBc; have JA3 : Hid (Ep.IsEps wc (some ⟨ga, 0, none⟩) len len K L M) := JA2.out.below hBc; clear hBc))
    | (go_at_call 10; (refine (specOpenBox_any (some ⟨ga, 0, none⟩) len len K L M (some ⟨tb, 0, none⟩) m m S key s wc JA3.out JB2.out hms HK.out.1 HK.out.2.1).mono ?_; rintro e wd ⟨x, g, rfl, hR, hBd⟩; have BDD : Hid (Below w.heap.size w wd) := BC.out.trans (hBd.mono BC.out.size); have DD : Hid (Below (w.alloc (.cells #[.int .i64 key, .string s] 25)).heap.size (w.alloc (.cells #[.int .i64 key, .string s] 25)) wd) := DC.out.trans (hBd.mono DC.out.size); have HR : Hid (OpenG K L M len S m key s x g) := hR; clear hR hBd)))
  all_goals
    have bd := BDD.out
    have dd := DD.out
    clear BDD DD B2 D2 BA DA JA BB DB JB JA2 BC DC JB2 JA3
    go_wp2_with fail
    refine (Ep.toEpochS_any a len cap K L M _ (HI.out.below bd) hl HL).mono ?_
    rintro e we ⟨ge, rfl, je, hBe⟩
    have be := bd.trans (hBe.mono bd.size)
    go_wp2_with fail
    refine (toStrs_own u m uc S _ (HS.out.below be) hml).mono ?_
    rintro e wf ⟨tf, rfl, jf, hBf, _, _⟩
    have bf := be.trans (hBf.mono be.size)
    have df := dd.trans ((hBe.trans (hBf.mono hBe.size)).mono dd.size)
    obtain ⟨c10, c11⟩ := HC.out _ df
    go_wp2_with fail
    refine (toBox_any key s _).mono ?_
    rintro e wg ⟨rfl, hBg⟩
    have bg := bf.trans (hBg.mono bf.size)
    clear c10 c11 df dd
    have jeg := (je.below hBf).below hBg
    have jfg := jf.below hBg
    clear je jf hBe hBf hBg
    go_wp2_with fail
    refine (implOpenBox_any (some ⟨ge, 0, none⟩) len len K L M (some ⟨tf, 0, none⟩) m m S key s b _ jeg jfg hms (HP.out.below bg) hsz ((bg.cell (p := ⟨0, 0, none⟩) (by show 0 < _; have := H1.out; omega)).trans HG.out) ((bg.cell (p := ⟨1, 0, none⟩) H1.out).trans HE.out) (Nat.lt_of_lt_of_le H1.out bg.size)).mono ?_
    rintro e wh ⟨x2, g2, rfl, hR2, hBh⟩
    obtain ⟨rfl, rfl⟩ := HR.out.unique hR2
    have bh := bg.trans (hBh.mono bg.size)
    have jeh := jeg.below hBh
    have jfh := jfg.below hBh
    have hx0 : (x != x) = false := by simp
    have hg0 : (g != g) = false := by cases g <;> rfl
    clear hR2 hBh jeg jfg
    go_wp2_with fail
    refine (Ep.toEpochS_any a len cap K L M _ (HI.out.below bh) hl HL).mono ?_
    rintro e wi ⟨gi, rfl, ji, hBi⟩
    have bi := bh.trans (hBi.mono bh.size)
    go_wp2_with fail
    refine (Ep.eqEpochS_same _ _ _ _ _ K L M _ (jeh.below hBi) ji).mono ?_
    rintro e wj ⟨rfl, hBj⟩
    have bj := bi.trans (hBj.mono bi.size)
    have jfj := (jfh.below hBi).below hBj
    clear hBi hBj ji jeh jfh
    go_wp2_with fail
    refine (toStrs_own u m uc S _ (HS.out.below bj) hml).mono ?_
    rintro e wk ⟨tk, rfl, jk, hBk, _, _⟩
    have bk := bj.trans (hBk.mono bj.size)
    go_wp2_with fail
    refine (eqStringS_same _ _ _ _ _ S _ (jfj.below hBk) jk).mono ?_
    rintro e wl ⟨rfl, hBl⟩
    have bl := bk.trans (hBl.mono bk.size)
    go_wp2
    go_ret
    exact ⟨rfl, bl⟩
end Go.Proofs.YtcolcnkjcagbaaaGreatDoor

namespace Go.Proofs.YtcolcnkjcagbaaaGreatDoor
open Go.ChangeShapes Go.WideShapes Go.ChangeAt Go.RowKit Go.Deep
set_option linter.unusedVariables false

theorem cells9B : Tryz.prog.cellsOf 9 = 1 := by kernel_rfl
theorem cells2B : Tryz.prog.cellsOf 2 = 1 := by kernel_rfl
theorem cellsBoxL : Tryz.prog.cellsOf 25 = 2 := by kernel_rfl
theorem cellsErr : Tryz.prog.cellsOf 236 = 1 := by kernel_rfl
theorem gE : Tryz.prog.globalNamed "loop.example/g00318/impl.errNoBox" = some 0 := by kernel_rfl
theorem gEType : (Tryz.prog.globals[0]?).map (·.type) = some 65 := by kernel_rfl
theorem bStar : "*" ++ "errors.errorString" = "*errors.errorString" := by decide
theorem bRowE (u : TypeId) (h : Tryz.prog.typeName? 3 u = some "*errors.errorString") : u = 216 :=
  typeName_ptr_named (nm := "errors.errorString") (by rw [bStar]; kernel_rfl) (by kernel_rfl) (by decide) u (by rw [bStar]; exact h)
theorem two_of {α : Type} {l : List α} (h : l.length = 2) : ∃ a b, l = [a, b] := by
  match l, h with
  | [a, b], _ => exact ⟨a, b, rfl⟩
theorem open_box {H : Type} {enc : TypeId × Value → H} {W : World} {n : Nat} {cs : Array Value} {x : DataW H × List MemPlace} (h : DataW.trod enc Tryz.prog W 0 (fun _ => true) true n 25 cs.toList = some x) :
    ∃ key s, cs = #[.int .i64 key, .string s] ∧ -9223372036854775808 ≤ key ∧ key ≤ 9223372036854775807 ∧ s.size ≤ 9223372036854775807 := by
  obtain ⟨xs, m, _, _, hl, hxl, hf⟩ := DataW.trod_struct Tryz.underlying25 h
  rw [cellsBoxL] at hl
  obtain ⟨u0, u1, hcs⟩ := two_of hl
  obtain ⟨y0, y1, rfl⟩ := two_of (show xs.length = 2 from hxl)
  have g0 := hf 0 _ rfl
  have g1 := hf 1 _ rfl
  rw [hcs] at g0 g1
  simp [cells2B, cells9B] at g0 g1
  obtain ⟨z0, q0, _, w0⟩ := DataW.trod_int Tryz.underlying2 g0
  obtain ⟨s1, q1, _, l1⟩ := DataW.trod_string Tryz.underlying9 g1
  simp at q0 q1
  subst q0 q1
  have hr : -9223372036854775808 ≤ z0 ∧ z0 ≤ 9223372036854775807 := by
    simp [Lit.wf] at w0
    exact ⟨w0.1, w0.2⟩
  exact ⟨z0, s1, Array.ext' (by rw [hcs]), hr.1, hr.2, by unfold maxLen at l1; omega⟩
theorem errVar_below {W W' : World} {x : Value} (h : W.var? Tryz.prog "loop.example/g00318/impl.errNoBox" = some #[x]) (h0 : 0 < W.heap.size) (hB : Go.RowKit.Below W.heap.size W W') : W'.var? Tryz.prog "loop.example/g00318/impl.errNoBox" = some #[x] := by
  unfold World.var? at h ⊢
  rw [gE] at h ⊢
  simp only [Option.bind_some] at h ⊢
  rw [hB.block 0 h0]
  exact h


theorem gET : Tryz.prog.globalNamed "errors.errorType" = some 1 := by kernel_rfl
theorem etRt : (Tryz.prog.cutTypes.find? (·.1 == "internal/reflectlite.rtype")).map (·.2) = some 170 := by kernel_rfl
theorem etRow : ((List.range 248).filter fun t => Tryz.prog.rowNamed t [101, 114, 114, 111, 114]) = [65] := by kernel_rfl
theorem etSize : Tryz.prog.types.size = 248 := by kernel_rfl
theorem errorType_of {W : World} (h : laidMetH Tryz.prog [("errors.errorType", Rows.laid_errors_errorType)] W) : W.cell? ⟨1, 0, none⟩ = some (.iface 170 (.agg #[.pointer (some ⟨6, 65, none⟩)])) := by
  have h' : laidMet Tryz.prog [] W ∧ handlesMet Tryz.prog [("errors.errorType", Rows.laid_errors_errorType)] W := h
  obtain ⟨name, u, ty, e1, e2, e3, e4, e5⟩ := h'.2 _ (List.mem_singleton.2 rfl)
  have en : name = [101, 114, 114, 111, 114] := (Option.some.inj e1).symm
  subst en
  obtain rfl := Option.some.inj (etRt.symm.trans e2)
  have hm : ty ∈ (List.range 248).filter fun t => Tryz.prog.rowNamed t [101, 114, 114, 111, 114] := List.mem_filter.2 ⟨List.mem_range.2 (by rw [← etSize]; exact e3), e4⟩
  rw [etRow] at hm
  obtain rfl := List.mem_singleton.1 hm
  have hh : typeHandle Tryz.prog 65 = .pointer (some ⟨6, 65, none⟩) := by kernel_rfl
  rw [hh] at e5
  simpa using World.var?_cell gET e5 0
theorem errNoBox_of {W : World} (h : laidMetH Tryz.prog [("loop.example/g00318/impl.errNoBox", Rows.laid_loop_example_g00318_impl_errNoBox)] W) : ∃ (a : Addr), W.var? Tryz.prog "loop.example/g00318/impl.errNoBox" = some #[.iface 216 (.pointer (some a))] := by
  rw [MakeChecks.laidMetH_plain _ _ _ rfl] at h
  obtain ⟨a, _, h1, _⟩ := laid_sentinel h gE gEType Tryz.underlying65 bRowE Tryz.underlying216 Tryz.underlying236 rfl rfl Tryz.underlying9 cellsErr cells9B
  exact ⟨a, h1⟩

/-- the variables that are plain data -/
def laidP : List (String × DataW Unit) := [("math/bits.deBruijn32tab", Rows.laid_math_bits_deBruijn32tab), ("math/bits.deBruijn64tab", Rows.laid_math_bits_deBruijn64tab), ("internal/strconv.uint64pow10", Rows.laid_internal_strconv_uint64pow10), ("loop.example/g00318/impl.errNoBox", Rows.laid_loop_example_g00318_impl_errNoBox)]
def laidF : List (String × DataW Unit) := [("math/bits.deBruijn32tab", Rows.laid_math_bits_deBruijn32tab), ("math/bits.deBruijn64tab", Rows.laid_math_bits_deBruijn64tab), ("internal/strconv.uint64pow10", Rows.laid_internal_strconv_uint64pow10), ("errors.errorType", Rows.laid_errors_errorType), ("loop.example/g00318/impl.errNoBox", Rows.laid_loop_example_g00318_impl_errNoBox)]
theorem laidW_os (os : Os) : ((({ World.holding Tryz.prog os ⟨#[], #[], []⟩ with heap := (World.holding Tryz.prog os ⟨#[], #[], []⟩).heap.modify 1 fun | .cells _ t frozen => .cells #[.iface 170 (.agg #[.pointer (some ⟨6, 65, none⟩)])] t frozen | o => o } : World)).layVars Tryz.prog laidP).os = os := World.layVars_os _ _ _
theorem laid_plain (os : Os) (args : Array Value) : laidMet Tryz.prog laidP (((({ World.holding Tryz.prog os ⟨#[], #[], []⟩ with heap := (World.holding Tryz.prog os ⟨#[], #[], []⟩).heap.modify 1 fun | .cells _ t frozen => .cells #[.iface 170 (.agg #[.pointer (some ⟨6, 65, none⟩)])] t frozen | o => o } : World)).layVars Tryz.prog laidP).forCall (fun _ _ => 0) ⟨#[], args, []⟩).memory := by
  have e1 : (laidP.filter fun x => (laidP.map (·.1)).contains x.1) = laidP := List.filter_eq_self.2 fun x hx => List.contains_iff_mem.2 (List.mem_map.2 ⟨x, hx, rfl⟩)
  have e2 : (laidP.filter fun x => !(laidP.map (·.1)).contains x.1) = [] := List.filter_eq_nil_iff.2 fun x hx => by rw [List.contains_iff_mem.2 (List.mem_map.2 ⟨x, hx, rfl⟩)]; simp
  have h : laidMet Tryz.prog laidP ((({ World.holding Tryz.prog os ⟨#[], #[], []⟩ with heap := (World.holding Tryz.prog os ⟨#[], #[], []⟩).heap.modify 1 fun | .cells _ t frozen => .cells #[.iface 170 (.agg #[.pointer (some ⟨6, 65, none⟩)])] t frozen | o => o } : World)).layVars Tryz.prog laidP) := laidMet_layVars (w0 := ({ World.holding Tryz.prog os ⟨#[], #[], []⟩ with heap := (World.holding Tryz.prog os ⟨#[], #[], []⟩).heap.modify 1 fun | .cells _ t frozen => .cells #[.iface 170 (.agg #[.pointer (some ⟨6, 65, none⟩)])] t frozen | o => o } : World)) (laidP.map (·.1)) [] (by rw [e1]) (by rw [e1]; kernel_rfl) (by rw [e1]; kernel_rfl) (by rw [e2]; exact LaidIn.none)
  exact h.of_heap (by simp [World.memory, World.forCall, Input.heap])
theorem laid_full (os : Os) (args : Array Value) (hh : (laidF.filter fun x => x.2.handleName?.isSome).all (handleAtB Tryz.prog (((({ World.holding Tryz.prog os ⟨#[], #[], []⟩ with heap := (World.holding Tryz.prog os ⟨#[], #[], []⟩).heap.modify 1 fun | .cells _ t frozen => .cells #[.iface 170 (.agg #[.pointer (some ⟨6, 65, none⟩)])] t frozen | o => o } : World)).layVars Tryz.prog laidP).forCall (fun _ _ => 0) ⟨#[], args, []⟩).memory) = true) : laidMetH Tryz.prog laidF (((({ World.holding Tryz.prog os ⟨#[], #[], []⟩ with heap := (World.holding Tryz.prog os ⟨#[], #[], []⟩).heap.modify 1 fun | .cells _ t frozen => .cells #[.iface 170 (.agg #[.pointer (some ⟨6, 65, none⟩)])] t frozen | o => o } : World)).layVars Tryz.prog laidP).forCall (fun _ _ => 0) ⟨#[], args, []⟩).memory :=
  laidMetH_of_parts (show laidMet Tryz.prog (laidF.filter fun x => x.2.handleName?.isNone) _ from (show (laidF.filter fun x => x.2.handleName?.isNone) = laidP by kernel_rfl) ▸ laid_plain os args) hh
end Go.Proofs.YtcolcnkjcagbaaaGreatDoor
