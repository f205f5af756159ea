/-
  OpenBox, the small parts: slices.Contains of int64, what OpenBox answers, that it is one answer. No condition but that the slices read.
  The program's OpenBox. Conditions: the slices read; the texts and the box's text are not huge; the table of powers of ten lies; errNoBox holds a pointer, the errors package's errorType is the type error.
  The specification's OpenBox. Conditions: the slices read; the texts and the box's text are not huge.
-/
import Derived.Test.YtcolcnkjcagbaaaGreatDoorBuB
import Derived.Test.YtcolcnkjcagbaaaGreatDoorBuF
import Derived.Test.YtcolcnkjcagbaaaGreatDoorBuI
namespace Go.Proofs.YtcolcnkjcagbaaaGreatDoor
open Go.RowKit Go.Maps
set_option linter.unusedVariables false

def atI (L : List Int) (i : Nat) : Int := L.getD i 0
theorem ints_of_own {w : World} {base : Nat} {v : Value} {n : Nat} {xs : List Value} {Z : Nat → Int} (h : w.ownsRow base 2 1 v n xs) (hx : ∀ i, i < n → xs[i]? = some (.int .i64 (Z i))) :
    ∃ a cap, v = .slice a n cap ∧ Ep.IsI64 w a n cap Z ∧ ∀ b off, a = some ⟨b, off, none⟩ → base ≤ b ∧ b < w.heap.size := by
  have hlt := h.lt
  rcases h.2 with ⟨rfl, rfl⟩ | ⟨g, cap, cur, rfl, hb, hg, hnc, hcm, hcs, htake⟩
  · exact ⟨none, 0, rfl, ⟨Nat.le_refl _, by omega, fun h => absurd h (Nat.lt_irrefl _)⟩, fun b off e => by cases e⟩
  · refine ⟨_, cap, rfl, ⟨hnc, by unfold maxLen at hcm; omega, fun hp => ⟨g, 0, rfl, (Array.getElem?_eq_some_iff.1 hg).1, fun i hi => ?_⟩⟩, fun b off e => ?_⟩
    · have := h.cells (g := g) rfl i _ (hx i hi)
      have hadd : (⟨g, 0, none⟩ : Addr).add i = ⟨g, i, none⟩ := by unfold Addr.add; split <;> simp_all
      rw [hadd] at this
      rw [Nat.zero_add]
      exact this
    · simp only [Option.some.injEq, Addr.mk.injEq, and_true] at e
      obtain ⟨rfl, rfl⟩ := e
      exact hlt g rfl
theorem ints_of_row {w : World} {base : Nat} {v : Value} {L : List Int} (h : OwnK w base v L) : ∃ a cap, v = .slice a L.length cap ∧ Ep.IsI64 w a L.length cap (atI L) ∧ ∀ b off, a = some ⟨b, off, none⟩ → base ≤ b ∧ b < w.heap.size :=
  ints_of_own (Z := atI L) h (fun i hi => by
    rw [List.getElem?_map]
    simp [atI, List.getD, hi])

def hasZ (Z : Nat → Int) (len : Nat) (n : Int) : Bool := (List.range len).any fun j => Z j == n
theorem hasZ_yes {Z : Nat → Int} {len k : Nat} {n : Int} (hk : k < len) (h : (Z k == n) = true) : hasZ Z len n = true := by
  unfold hasZ
  rw [List.any_eq_true]
  exact ⟨k, List.mem_range.2 hk, h⟩
theorem hasZ_no {Z : Nat → Int} {len : Nat} {n : Int} (h : ∀ j, j < len → (Z j == n) = false) : hasZ Z len n = false := by
  unfold hasZ
  rw [List.any_eq_false]
  intro j hj
  rw [h j (List.mem_range.1 hj)]
  simp

set_option maxHeartbeats 1000000 in
theorem contains_any (a : Option Addr) (m cap : Nat) (Z : Nat → Int) (n : Int) (w : World) (h : Ep.IsI64 w a m cap Z) :
    Calls Tryz.prog 59 #[.slice a m cap, .int .i64 n] w fun e w' => e = .returned (.bool (hasZ Z m n)) ∧ Below w.heap.size w w' := by
  obtain ⟨hlc, hcm, hc⟩ := h
  have hidx : Calls Tryz.prog 74 #[.slice a m cap, .int .i64 n] w fun e w' => ∃ j : Int, e = .returned (.int .i64 j) ∧ decide (0 ≤ j) = hasZ Z m n ∧ Below w.heap.size w w' := by
    go_enter Tryz.func74, Tryz.ntmps74
    go_wp2
    go_loopw [8] (fun i wr => ∃ (k : Nat), k ≤ m ∧ i = .int .i64 k ∧ Hid (∀ j, j < k → (Z j == n) = false) ∧ Hid (Below w.heap.size w wr)) (fun i _ => m - (intOf i).toNat)
    case atStart => exact ⟨0, Nat.zero_le _, rfl, fun j hj => absurd hj (Nat.not_lt_zero _), Below.refl _ _⟩
    case round =>
      obtain ⟨k, hk, rfl, HA, HB⟩ := hrel
      by_cases hlt : k < m
      · obtain ⟨b, off, rfl, hbs, hcell⟩ := hc (by omega)
        have hck := (HB.out.cell (p := ⟨b, off + k, none⟩) hbs).trans (hcell k hlt)
        have hltI : (k : Int) < (m : Int) := by omega
        obtain ⟨y, hy⟩ : ∃ y, y = Z k := ⟨_, rfl⟩
        rw [← hy] at hck
        have HY : Hid (y = Z k) := hy
        clear hy hcell hc
        have hyn : (y == n) = (n == y) := by
          by_cases h : y = n
          · subst h; rfl
          · have h' : ¬ n = y := fun q => h q.symm
            rw [beq_eq_false_iff_ne.2 h, beq_eq_false_iff_ne.2 h']
        have HYN : Hid ((y == n) = (n == y)) := hyn
        clear hyn
        cases hq : (n == y) with
        | true =>
          have hr : decide (0 ≤ (k : Int)) = hasZ Z m n := by
            rw [hasZ_yes (k := k) hlt (by rw [← HY.out, HYN.out]; exact hq)]
            exact decide_eq_true (by omega)
          have HR : Hid (decide (0 ≤ (k : Int)) = hasZ Z m n) := hr
          clear hr
          go_wp2
          go_ret
          exact ⟨k, rfl, HR.out, HB.out⟩
        | false =>
          have HS : Hid (∀ j, j < k + 1 → (Z j == n) = false) := fun j hj => by
            rcases Nat.lt_succ_iff_lt_or_eq.1 hj with h1 | rfl
            · exact HA.out j h1
            · rw [← HY.out, HYN.out]; exact hq
          go_wp2
          go_roundw
          case rel => exact ⟨k + 1, by omega, by go_num, HS, HB⟩
          case measure => simp [intOf]; omega
      · have hke : k = m := by omega
        subst hke
        have hr : hasZ Z k n = false := hasZ_no HA.out
        go_wp2
        go_ret
        exact ⟨-1, rfl, by rw [hr]; rfl, HB.out⟩
  have HX := (show Hid (Calls Tryz.prog 74 #[.slice a m cap, .int .i64 n] w fun e w' => ∃ j : Int, e = .returned (.int .i64 j) ∧ decide (0 ≤ j) = hasZ Z m n ∧ Below w.heap.size w w') from hidx)
  clear hidx hc
  go_enter Tryz.func59, Tryz.ntmps59
  go_wp2_with fail
  refine HX.out.mono ?_
  rintro e w1 ⟨j, rfl, hj, hB1⟩
  have HJ : Hid (decide (0 ≤ j) = hasZ Z m n) := hj
  have HB := (show Hid _ from hB1)
  clear hj hB1
  go_wp2
  go_ret
  exact ⟨by rw [← HJ.out]; rfl, HB.out⟩

/-- x is the number of the body that s is, sealed by key -/
def NumT (key : Int) (s : ByteArray) (x : Int) : Prop := ∃ n : Nat, x = n ∧ n ≤ 60 ∧ 0 ≤ key ∧ key ≤ 199 ∧ s = (boxTr key.toNat n).txt
theorem NumT.unique {key : Int} {s : ByteArray} {x y : Int} (h : NumT key s x) (h' : NumT key s y) : x = y := by
  obtain ⟨n, rfl, hn, k0, k1, hs⟩ := h
  obtain ⟨n', rfl, hn', _, _, hs'⟩ := h'
  have e1 := box_ok (K := key.toNat) (n := n) (by omega) hn
  have e2 := box_ok (K := key.toNat) (n := n') (by omega) hn'
  rw [← hs, hs', e2] at e1
  unfold boxTr at e1
  rw [Tr.val, Tr.val, Tr.val, Tr.val] at e1
  simp at e1
  omega
theorem NumI.num {key : Int} {s : ByteArray} {x : Int} (h : NumI key s x) (hok : okB key s = true) : NumT key s x := by
  unfold okB rangeB at hok
  simp only [Bool.and_eq_true, decide_eq_true_eq] at hok
  obtain ⟨⟨h1, h2⟩, h3⟩ := hok
  obtain ⟨n, hx, hn, hs⟩ := h h3
  exact ⟨n, hx, hn, by omega, h2, by rw [← boxI_txt (by omega)]; exact toL_inj hs⟩
/-- what OpenBox answers: x and g -/
def OpenG (K : Nat → Int) (L : Nat → Nat) (M : Nat → Nat → Int) (len : Nat) (S : Nat → ByteArray) (kl : Nat) (key : Int) (s : ByteArray) (x : Int) (g : Bool) : Prop :=
  (okB key s = false → g = false) ∧ (okB key s = true → ∃ R, KeysR K L M len S kl R ∧ g = hasZ (atI R) R.length key) ∧ (g = false → x = 0) ∧ (g = true → NumT key s x)
theorem OpenG.unique {K : Nat → Int} {L : Nat → Nat} {M : Nat → Nat → Int} {len : Nat} {S : Nat → ByteArray} {kl : Nat} {key : Int} {s : ByteArray} {x x' : Int} {g g' : Bool} (h : OpenG K L M len S kl key s x g) (h' : OpenG K L M len S kl key s x' g') : x = x' ∧ g = g' := by
  have eg : g = g' := by
    cases hok : okB key s with
    | false => rw [h.1 hok, h'.1 hok]
    | true =>
      obtain ⟨R, hR, e⟩ := h.2.1 hok
      obtain ⟨R', hR', e'⟩ := h'.2.1 hok
      rw [e, e', hR.unique hR']
  subst eg
  refine ⟨?_, rfl⟩
  cases g with
  | false => rw [h.2.2.1 rfl, h'.2.2.1 rfl]
  | true => exact (h.2.2.2 rfl).unique (h'.2.2.2 rfl)
end Go.Proofs.YtcolcnkjcagbaaaGreatDoor

namespace Go.Proofs.YtcolcnkjcagbaaaGreatDoor
open Go.RowKit Go.Maps
set_option linter.unusedVariables false

/-- the box's key is out of reach -/
def farV (key : Int) (t : ByteArray) : Value := .iface 97 (.agg #[.int .i64 key, .iface 95 (.agg #[.string t])])
/-- what bodyFor answers -/
def ForV (K : Nat → Int) (L : Nat → Nat) (M : Nat → Nat → Int) (len : Nat) (S : Nat → ByteArray) (kl : Nat) (key : Int) (s : ByteArray) (b : Addr) (v : Value) : Prop :=
  (okB key s = false ∧ v = .tuple #[.int .i64 0, refusal key b]) ∨
  (okB key s = true ∧ ∃ R, KeysR K L M len S kl R ∧ ((hasZ (atI R) R.length key = false ∧ ∃ t, v = .tuple #[.int .i64 0, farV key t]) ∨ (hasZ (atI R) R.length key = true ∧ ∃ n : Nat, NumT key s n ∧ v = .tuple #[.int .i64 n, .nilIface])))

set_option maxHeartbeats 1000000 in
theorem bodyFor_any (a : Option Addr) (len cap : Nat) (K : Nat → Int) (L : Nat → Nat) (M : Nat → Nat → Int) (ka : Option Addr) (kl kc : Nat) (S : Nat → ByteArray) (key : Int) (s : ByteArray) (b : Addr) (w : World) (h : Ep.IsEps w a len cap K L M) (hs : IsStrs w ka kl kc S) (hz : ∀ i, i < kl → (S i).size ≤ 1048576) (hP : Pow w) (hsz : s.size ≤ 1048576) (hG : w.cell? ⟨0, 0, none⟩ = some (.iface 216 (.pointer (some b)))) (h0 : 0 < w.heap.size) :
    Calls Tryz.prog 36 #[.slice a len cap, .slice ka kl kc, .agg #[.int .i64 key, .string s]] w fun e w' => ∃ v, e = .returned v ∧ ForV K L M len S kl key s b v ∧ Below w.heap.size w w' := by
  have hB0 : Below w.heap.size w (w.alloc (.cells #[.int .i64 key, .string s] 34)) := (Below.refl _ _).alloc (Nat.le_refl _) _
  have HX : Hid ((w.alloc (.cells #[.int .i64 key, .string s] 34)).heap[w.heap.size]? = some (.cells #[.int .i64 key, .string s] 34 (0, 0))) := heap_alloc_new w _
  have hG' : (w.alloc (.cells #[.int .i64 key, .string s] 34)).cell? ⟨0, 0, none⟩ = some (.iface 216 (.pointer (some b))) := (hB0.cell (p := ⟨0, 0, none⟩) h0).trans hG
  obtain ⟨r, hr, hn, HC⟩ := bodyOf_any key s b _ hsz hG' (Nat.lt_of_lt_of_le h0 hB0.size)
  have HI : Hid (Ep.IsEps w a len cap K L M) := h
  have HS : Hid (IsStrs w ka kl kc S) := hs
  have HP : Hid (Pow w) := hP
  have HB0 := (show Hid _ from hB0)
  have HN : Hid (∀ n, r = some n → NumT key s n) := fun n e => by
    obtain ⟨h1, h2, h3, h4⟩ := hn n e
    exact ⟨n, rfl, h1, h2, h3, h4⟩
  have HR : Hid (r.isSome = okB key s) := hr
  clear hG hG' h0 hB0 hn hr h hs hP hsz
  go_enter Tryz.func36, Tryz.ntmps36
  go_wp2_with fail
  refine HC.mono ?_
  rintro e w1 ⟨rfl, hB1⟩
  have HB1 : Hid (Below w.heap.size w w1) := HB0.out.trans (hB1.mono HB0.out.size)
  have x1 := (hB1.block _ (lt_of_block HX.out)).trans HX.out
  have HX1 := (show Hid _ from x1)
  clear hB1
  cases r with
  | none =>
    have HOK : Hid (okB key s = false) := HR.out.symm
    unfold bodyV refusal
    clear x1
    go_wp2
    go_ret2
    exact ⟨_, rfl, .inl ⟨HOK.out, rfl⟩, HB1.out⟩
  | some n =>
    have HOK : Hid (okB key s = true) := HR.out.symm
    unfold bodyV
    have c0 : w1.cell? ⟨w.heap.size, 0, none⟩ = some (.int .i64 key) := cell_of_row w1 _ 0 _ _ _ x1
    have HK : Hid (∀ v, Below w1.heap.size w1 v → Calls Tryz.prog 60 #[.slice a len cap, .slice ka kl kc] v fun e w' => ∃ v' R, e = .returned v' ∧ OwnK w' v.heap.size v' R ∧ KeysR K L M len S kl R ∧ Below v.heap.size v w') := fun v hv => by
      have hb := HB1.out.trans (hv.mono HB1.out.size)
      exact implKeysOf_any a len cap K L M ka kl kc S v (HI.out.below hb) (HS.out.below hb) hz (HP.out.below hb)
    clear x1 hz
    go_wp2_with fail
    go_region_with (first
      | (go_at_call 60; refine (HK.out w1.drew (Below.refl _ _).drew).mono ?_; rintro e w2 ⟨v2, R, rfl, o2, hR, hB2⟩; obtain ⟨ra, rc, rfl, ir, _⟩ := ints_of_row o2; have HB2 : Hid (Below w1.heap.size w1 w2) := Below.trans (show Below w1.heap.size w1 w1.drew from (Below.refl _ _).drew) hB2; have c2 : w2.cell? ⟨w.heap.size, 0, none⟩ = some (.int .i64 key) := cell_of_row w2 _ 0 _ _ _ ((HB2.out.block _ (lt_of_block HX1.out)).trans HX1.out); have HKR : Hid (KeysR K L M len S kl R) := hR; have HIR : Hid (Ep.IsI64 w2 ra R.length rc (atI R)) := ir; clear hR ir o2 hB2)
      | (go_at_call 59; refine (contains_any _ _ _ _ key _ HIR.out).mono ?_; rintro e w3 ⟨rfl, hB3⟩; have HB3 : Hid (Below w2.heap.size w2 w3) := hB3; clear hB3))
    all_goals
      have HB : Hid (Below w.heap.size w w3) := HB1.out.trans ((HB2.out.trans (HB3.out.mono HB2.out.size)).mono HB1.out.size)
      obtain ⟨g, hg⟩ : ∃ g, g = hasZ (atI R) R.length key := ⟨_, rfl⟩
      have HG : Hid (g = hasZ (atI R) R.length key) := hg
      rw [← hg]
      clear hg
      cases g with
      | false =>
        have c3 : w3.cell? ⟨w.heap.size, 0, none⟩ = some (.int .i64 key) := cell_of_row w3 _ 0 _ _ _ (((HB2.out.trans (HB3.out.mono HB2.out.size)).block _ (lt_of_block HX1.out)).trans HX1.out)
        go_wp2
        go_quiet (fail)
        go_wp2
        go_ret2
        exact ⟨_, rfl, .inr ⟨HOK.out, R, HKR.out, .inl ⟨HG.out.symm, _, rfl⟩⟩, HB.out.trans ⟨rfl, rfl, rfl, Nat.le_refl _, fun _ _ => rfl⟩⟩
      | true =>
        go_wp2
        go_ret2
        exact ⟨_, rfl, .inr ⟨HOK.out, R, HKR.out, .inr ⟨HG.out.symm, n, HN.out n rfl, rfl⟩⟩, HB.out⟩

set_option maxHeartbeats 1000000 in
theorem implOpenBox_any (a : Option Addr) (len cap : Nat) (K : Nat → Int) (L : Nat → Nat) (M : Nat → Nat → Int) (ka : Option Addr) (kl kc : Nat) (S : Nat → ByteArray) (key : Int) (s : ByteArray) (b : Addr) (w : World) (h : Ep.IsEps w a len cap K L M) (hs : IsStrs w ka kl kc S) (hz : ∀ i, i < kl → (S i).size ≤ 1048576) (hP : Pow w) (hsz : s.size ≤ 1048576) (hG : w.cell? ⟨0, 0, none⟩ = some (.iface 216 (.pointer (some b)))) (hE : w.cell? ⟨1, 0, none⟩ = some (.iface 170 (.agg #[.pointer (some ⟨6, 65, none⟩)]))) (h1 : 1 < w.heap.size) :
    Calls Tryz.prog 14 #[.slice a len cap, .slice ka kl kc, .agg #[.int .i64 key, .string s]] w fun e w' => ∃ x g, e = .returned (.tuple #[.int .i64 x, .bool g]) ∧ OpenG K L M len S kl key s x g ∧ Below w.heap.size w w' := by
  have hB0 : Below w.heap.size w (w.alloc (.cells #[.int .i64 key, .string s] 34)) := (Below.refl _ _).alloc (Nat.le_refl _) _
  have hG' := (hB0.cell (p := ⟨0, 0, none⟩) (by show 0 < _; omega)).trans hG
  have hE' := (hB0.cell (p := ⟨1, 0, none⟩) h1).trans hE
  have HC := bodyFor_any a len cap K L M ka kl kc S key s b _ (h.below hB0) (hs.below hB0) hz (hP.below hB0) hsz hG' (by have := hB0.size; omega)
  have HG := (show Hid _ from hG')
  have HE := (show Hid _ from hE')
  have H1 : Hid (1 < (w.alloc (.cells #[.int .i64 key, .string s] 34)).heap.size) := Nat.lt_of_lt_of_le h1 hB0.size
  have HB0 := (show Hid _ from hB0)
  clear h hs hz hP hG hE h1 hG' hE' hB0
  go_enter Tryz.func14, Tryz.ntmps14
  go_wp2_with fail
  refine HC.mono ?_
  rintro e w1 ⟨v, rfl, hv, hB1⟩
  have HB1 := (show Hid _ from hB1)
  have g1 : w1.cell? ⟨0, 0, none⟩ = some (.iface 216 (.pointer (some b))) := (hB1.cell (p := ⟨0, 0, none⟩) (by show 0 < _; have := H1.out; omega)).trans HG.out
  have e1 : w1.cell? ⟨1, 0, none⟩ = some (.iface 170 (.agg #[.pointer (some ⟨6, 65, none⟩)])) := (hB1.cell (p := ⟨1, 0, none⟩) H1.out).trans HE.out
  have z1 : 1 < w1.heap.size := Nat.lt_of_lt_of_le H1.out hB1.size
  clear hB1
  rcases hv with ⟨hok, rfl⟩ | ⟨hok, R, hR, ⟨hz, t, rfl⟩ | ⟨hz, n, hn, rfl⟩⟩
  · have HO : Hid (OpenG K L M len S kl key s 0 false) := ⟨fun _ => rfl, fun q => absurd (q.symm.trans hok) (by decide), fun _ => rfl, fun q => (by cases q)⟩
    have HH := heldBox_any key b w1 g1 (by omega)
    unfold refusal
    clear hok g1 e1 z1
    go_wp2_with fail
    refine HH.mono ?_
    rintro e w2 ⟨rfl, hB2⟩
    go_wp2
    go_ret2
    exact ⟨_, _, rfl, HO.out, HB0.out.trans ((HB1.out.trans (hB2.mono HB1.out.size)).mono HB0.out.size)⟩
  · have HO : Hid (OpenG K L M len S kl key s 0 false) := ⟨fun q => absurd (q.symm.trans hok) (by decide), fun _ => ⟨R, hR, hz.symm⟩, fun _ => rfl, fun q => by cases q⟩
    have HH := heldFar_any key t b w1 g1 e1 z1
    unfold farV
    clear hok hR hz g1 e1 z1
    go_wp2_with fail
    refine HH.mono ?_
    rintro e w2 ⟨rfl, hB2⟩
    go_wp2
    go_ret2
    exact ⟨_, _, rfl, HO.out, HB0.out.trans ((HB1.out.trans (hB2.mono HB1.out.size)).mono HB0.out.size)⟩
  · have HO : Hid (OpenG K L M len S kl key s n true) := ⟨fun q => absurd (q.symm.trans hok) (by decide), fun _ => ⟨R, hR, hz.symm⟩, fun q => (by cases q), fun _ => hn⟩
    have HH := heldNil_any b w1 g1 (by omega)
    clear hok hR hz hn g1 e1 z1
    go_wp2_with fail
    refine HH.mono ?_
    rintro e w2 ⟨rfl, hB2⟩
    go_wp2
    go_ret2
    exact ⟨_, _, rfl, HO.out, HB0.out.trans ((HB1.out.trans (hB2.mono HB1.out.size)).mono HB0.out.size)⟩
end Go.Proofs.YtcolcnkjcagbaaaGreatDoor

namespace Go.Proofs.YtcolcnkjcagbaaaGreatDoor
open Go.RowKit Go.Maps
set_option linter.unusedVariables false

set_option maxHeartbeats 2000000 in
theorem specOpenBox_any (a : Option Addr) (len cap : Nat) (K : Nat → Int) (L : Nat → Nat) (M : Nat → Nat → Int) (ka : Option Addr) (kl kc : Nat) (S : Nat → ByteArray) (key : Int) (s : ByteArray) (w : World) (h : Ep.IsEps w a len cap K L M) (hs : IsStrs w ka kl kc S) (hz : ∀ i, i < kl → (S i).size ≤ 1048576) (k1 : -9223372036854775808 ≤ key) (k2 : key ≤ 9223372036854775807) :
    Calls Tryz.prog 10 #[.slice a len cap, .slice ka kl kc, .agg #[.int .i64 key, .string s]] w fun e w' => ∃ x g, e = .returned (.tuple #[.int .i64 x, .bool g]) ∧ OpenG K L M len S kl key s x g ∧ Below w.heap.size w w' := by
  have HB0 : Hid (Below w.heap.size w (w.alloc (.cells #[.int .i64 key, .string s] 34))) := (Below.refl _ _).alloc (Nat.le_refl _) _
  have HX : Hid ((w.alloc (.cells #[.int .i64 key, .string s] 34)).heap[w.heap.size]? = some (.cells #[.int .i64 key, .string s] 34 (0, 0))) := heap_alloc_new w _
  obtain ⟨eb, heb⟩ : ∃ eb, eb = Ep.epsB K L M len := ⟨_, rfl⟩
  have HEB : Hid (eb = Ep.epsB K L M len) := heb
  obtain ⟨kb, hkb⟩ : ∃ kb, kb = knownB S kl := ⟨_, rfl⟩
  have HKB : Hid (kb = knownB S kl) := hkb
  obtain ⟨ob, hob⟩ : ∃ ob, ob = okB key s := ⟨_, rfl⟩
  have HOB : Hid (ob = okB key s) := hob
  have HE : Hid (∀ v, Below w.heap.size w v → Calls Tryz.prog 28 #[.slice a len cap] v fun e w' => e = .returned (.bool eb) ∧ Below v.heap.size v w') := fun v hv => by
    rw [HEB.out]
    exact Ep.specEpochsOk_any a len cap K L M v (h.below hv)
  have HK : Hid (∀ v, Below w.heap.size w v → Calls Tryz.prog 31 #[.slice ka kl kc] v fun e w' => e = .returned (.bool kb) ∧ Below v.heap.size v w') := fun v hv => by
    rw [HKB.out]
    exact specKnown_any ka kl kc S v (hs.below hv) hz
  have HO : Hid (∀ v, Calls Tryz.prog 27 #[.agg #[.int .i64 key, .string s]] v fun e w' => e = .returned (.bool ob) ∧ Below v.heap.size v w') := fun v => by
    rw [HOB.out]
    exact specBoxOk_any key s k1 k2 v
  have HKY : Hid (∀ v, Below w.heap.size w v → Calls Tryz.prog 33 #[.slice a len cap, .slice ka kl kc] v fun e w' => ∃ v' R, e = .returned v' ∧ OwnK w' v.heap.size v' R ∧ KeysR K L M len S kl R ∧ Below v.heap.size v w') := fun v hv => specKeysOf_any a len cap K L M ka kl kc S v (h.below hv) (hs.below hv) hz
  have HNB : Hid (∀ v, Calls Tryz.prog 34 #[.agg #[.int .i64 key, .string s]] v fun e w' => ∃ x, e = .returned (.tuple #[.int .i64 x, .bool (anyI key s 61)]) ∧ Hid (NumI key s x) ∧ Below v.heap.size v w') := fun v => l12Body_num key s k1 k2 v
  have HNE : Hid (eb = false ∨ kb = false ∨ ob = false → OpenG K L M len S kl key s 0 false) := fun q => by
    refine ⟨fun _ => rfl, fun hok => ?_, fun _ => rfl, fun q => (by cases q)⟩
    rw [HEB.out, HKB.out, HOB.out] at q
    refine ⟨[], ⟨fun h1 h2 => ?_, fun _ => rfl⟩, rfl⟩
    rw [h1, h2, hok] at q
    rcases q with q | q | q <;> cases q
  clear heb hkb hob h hs hz k1 k2
  go_enter Tryz.func10, Tryz.ntmps10
  go_wp2_with fail
  refine (HE.out _ HB0.out).mono ?_
  rintro e w1 ⟨rfl, hB1⟩
  have HB1 : Hid (Below w.heap.size w w1) := HB0.out.trans (hB1.mono HB0.out.size)
  have X1 := (hB1.block _ (lt_of_block HX.out)).trans HX.out
  have HX1 := (show Hid _ from X1)
  clear hB1 X1
  cases eb with
  | false =>
    go_wp2
    go_ret2
    exact ⟨_, _, rfl, HNE.out (by simp), HB1.out⟩
  | true =>
  go_wp2_with fail
  refine (HK.out _ HB1.out).mono ?_
  rintro e w2 ⟨rfl, hB2⟩
  have HB2 : Hid (Below w.heap.size w w2) := HB1.out.trans (hB2.mono HB1.out.size)
  have X2 := (hB2.block _ (lt_of_block HX1.out)).trans HX1.out
  have HX2 := (show Hid _ from X2)
  clear hB2
  cases kb with
  | false =>
    clear X2
    go_wp2
    go_ret2
    exact ⟨_, _, rfl, HNE.out (by simp), HB2.out⟩
  | true =>
  have c20 : w2.cell? ⟨w.heap.size, 0, none⟩ = some (.int .i64 key) := cell_of_row w2 _ 0 _ _ _ X2
  have c21 : w2.cell? ⟨w.heap.size, 1, none⟩ = some (.string s) := cell_of_row w2 _ 1 _ _ _ X2
  clear X2
  go_wp2_with fail
  refine (HO.out _).mono ?_
  rintro e w3 ⟨rfl, hB3⟩
  have HB3 : Hid (Below w.heap.size w w3) := HB2.out.trans (hB3.mono HB2.out.size)
  have X3 := (hB3.block _ (lt_of_block HX2.out)).trans HX2.out
  have HX3 := (show Hid _ from X3)
  clear hB3 c20 c21 X3
  cases ob with
  | false =>
    go_wp2
    go_ret2
    exact ⟨_, _, rfl, HNE.out (by simp), HB3.out⟩
  | true =>
  go_wp2_with fail
  refine (HKY.out _ HB3.out).mono ?_
  rintro e w4 ⟨v4, R, rfl, o4, hR, hB4⟩
  obtain ⟨ra, rc, rfl, ir, _⟩ := ints_of_row o4
  have HB4 : Hid (Below w.heap.size w w4) := HB3.out.trans (hB4.mono HB3.out.size)
  have X4 := (hB4.block _ (lt_of_block HX3.out)).trans HX3.out
  have HX4 := (show Hid _ from X4)
  have HR : Hid (KeysR K L M len S kl R) := hR
  obtain ⟨m, hm⟩ : ∃ m, m = R.length := ⟨_, rfl⟩
  obtain ⟨Z, hZ⟩ : ∃ Z, Z = atI R := ⟨_, rfl⟩
  have HMZ : Hid (m = R.length ∧ Z = atI R) := ⟨hm, hZ⟩
  rw [← hm, ← hZ] at ir
  rw [← hm]
  obtain ⟨ilc, icm, ic⟩ := ir
  have HOK : Hid (okB key s = true) := HOB.out.symm
  clear hB4 X4 hR hm hZ o4
  go_wp2
  go_loopw [9] (fun i wr => ∃ k : Nat, k ≤ m ∧ i = .int .i64 k ∧ Hid (∀ j, j < k → (Z j == key) = false) ∧ Hid (Below w4.heap.size w4 wr)) (fun i _ => m - (intOf i).toNat)
  case atStart => exact ⟨0, Nat.zero_le _, rfl, fun j hj => absurd hj (Nat.not_lt_zero _), Below.refl _ _⟩
  case round =>
    obtain ⟨k, hk, rfl, HA, HB⟩ := hrel
    by_cases hlt : k < m
    · obtain ⟨b, off, rfl, hbs, hcell⟩ := ic (by omega)
      have hck := (HB.out.cell (p := ⟨b, off + k, none⟩) hbs).trans (hcell k hlt)
      have hltI : (k : Int) < (m : Int) := by omega
      have X5 := (HB.out.block _ (lt_of_block HX4.out)).trans HX4.out
      have c50 : wr.cell? ⟨w.heap.size, 0, none⟩ = some (.int .i64 key) := cell_of_row wr _ 0 _ _ _ X5
      have c51 : wr.cell? ⟨w.heap.size, 1, none⟩ = some (.string s) := cell_of_row wr _ 1 _ _ _ X5
      obtain ⟨y, hy⟩ : ∃ y, y = Z k := ⟨_, rfl⟩
      rw [← hy] at hck
      have HY : Hid (y = Z k) := hy
      clear hy hcell ic X5
      cases hq : (y == key) with
      | true =>
        have HG : Hid (∀ x, NumI key s x → OpenG K L M len S kl key s x true) := fun x hx => ⟨fun q => (by rw [HOK.out] at q; cases q), fun _ => ⟨R, HR.out, (by rw [← HMZ.out.1, ← HMZ.out.2]; exact (hasZ_yes hlt (by rw [← HY.out]; exact hq)).symm)⟩, fun q => (by cases q), fun _ => hx.num HOK.out⟩
        have HAI : Hid (anyI key s 61 = true) := by
          have := HOK.out
          unfold okB at this
          rw [Bool.and_eq_true] at this
          exact this.2
        have HBd : ∀ n, Below w4.heap.size w4 (wr.drewN n) := fun n => HB.out.trans ⟨rfl, rfl, rfl, Nat.le_refl _, fun _ _ => rfl⟩
        go_wp2
        go_quiet (fail)
        go_wp2_with fail
        refine (HNB.out _).mono ?_
        rintro e w6 ⟨x, rfl, hN, hB6⟩
        rw [HAI.out]
        have HGX : Hid (OpenG K L M len S kl key s x true) := HG.out x hN.out
        have HB6 : Hid (Below w.heap.size w w6) := HB4.out.trans (((HBd _).trans (hB6.mono (HBd _).size)).mono HB4.out.size)
        clear hB6 hN
        go_wp2
        go_ret2
        exact ⟨_, _, rfl, HGX.out, HB6.out⟩
      | false =>
        have HS : Hid (∀ j, j < k + 1 → (Z j == key) = false) := fun j hj => by
          rcases Nat.lt_succ_iff_lt_or_eq.1 hj with h1 | rfl
          · exact HA.out j h1
          · rw [← HY.out]; exact hq
        go_wp2
        go_quiet (fail)
        go_wp2
        go_roundw
        case rel => exact ⟨k + 1, by omega, by go_num, HS, HB.out.trans ⟨rfl, rfl, rfl, Nat.le_refl _, fun _ _ => rfl⟩⟩
        case measure => simp [intOf]; omega
    · have hke : k = m := by omega
      subst hke
      have HG : Hid (OpenG K L M len S kl key s 0 false) := ⟨fun q => rfl, fun _ => ⟨R, HR.out, (by rw [← HMZ.out.1, ← HMZ.out.2]; exact (hasZ_no HA.out).symm)⟩, fun _ => rfl, fun q => (by cases q)⟩
      go_wp2
      go_ret2
      exact ⟨_, _, rfl, HG.out, HB4.out.trans (HB.out.mono HB4.out.size)⟩
end Go.Proofs.YtcolcnkjcagbaaaGreatDoor
