/-
  KeysOf's arguments copied, marked and held: slices of numbers and of epochs that can be written. No condition but that the slices read.
  What opens a slice of epochs that comes in. No condition.
  The law of KeysOf returns true. Conditions: the slices read; the table of powers of ten lies.
-/
import Derived.Test.YtpcbhjejpebogaaDoorTgK
import Derived.Test.YtpcbhjejpebogaaDoorOqOpen
import Derived.Test.YtpcbhjejpebogaaDoorTgP
import Derived.Deep.SlicePairs
import Derived.Test.YtpcbhjejpebogaaDoorTgI
namespace Go.Proofs.YtpcbhjejpebogaaDoor.Ep
open Go.RowKit
set_option linter.unusedVariables false

set_option maxHeartbeats 400000 in
theorem toInt64S_own (a : Option Addr) (len cap : Nat) (Z : Nat → Int) (w : World) (h : IsI64 w a len cap Z) (hlen : len ≤ 1048576) :
    Calls Tryd.prog 80 #[.slice a len cap] w fun e w' => e = .returned (.slice (some ⟨w.heap.size, 0, none⟩) len len) ∧ w.heap.size < w'.heap.size ∧ IsI64 w' (some ⟨w.heap.size, 0, none⟩) len len Z ∧ w'.ownsRow w.heap.size 2 1 (.slice (some ⟨w.heap.size, 0, none⟩) len len) len (copyTo Z len len) ∧ Below w.heap.size w w' := by
  obtain ⟨hlc, hcm, hc⟩ := h
  obtain ⟨i0, hi, hz0, hz1, hz2⟩ := info_parts info2
  have hb2 : i0.bytes * len ≤ 281474976710656 := by rw [hz2]; omega
  have hb3 : len ≤ maxLen := by unfold maxLen; omega
  go_enter Tryd.func80, Tryd.ntmps80
  go_wp2_with (at_make; refine wpList_make_full _ rfl _ _ 30 rfl w.heap.size 2 i0 (.int .i64 0) 1 Tryd.underlying30 hi hz0 hz1 .i64 .i64 _ _ len rfl rfl rfl rfl hb2 hb3 (Nat.le_refl _) ?_; intro w1 hown hgrow)
  have hB1 : Below w.heap.size w w1 := (Below.refl _ w).grown hgrow (Nat.le_refl _) (fun k hk => by cases hk)
  rw [made_ints Z len] at hown
  clear hgrow
  go_loopw [4] (fun i wr => ∃ k : Nat, k ≤ len ∧ i = .int .i64 k ∧ wr.ownsRow w.heap.size 2 1 (.slice (some ⟨w.heap.size, 0, none⟩) len len) len (copyTo Z len k) ∧ Below w.heap.size w wr)
    (fun i _ => len - (intOf i).toNat)
  case atStart => exact ⟨0, Nat.zero_le _, rfl, hown, hB1⟩
  case round =>
    obtain ⟨k, hk, rfl, how, hB⟩ := hrel
    by_cases hlt : k < len
    · obtain ⟨b, off, rfl, hbs, hcell⟩ := hc (by omega)
      have hck : wr.cell? ⟨b, off + k, none⟩ = some (.int .i64 (Z k)) := (hB.cell (p := ⟨b, off + k, none⟩) hbs).trans (hcell k hlt)
      have hfz := how.frozenAt k
      have hcl : ∃ v, wr.cell? ⟨w.heap.size, k, none⟩ = some v := by
        rw [how.cellAt k (by omega)]
        simp [copyTo, hlt]
      obtain ⟨v0, hcl⟩ := hcl
      have hst := (how.stored k (.int .i64 (Z k))).1
      rw [copyTo_set Z len k hlt] at hst
      have hB' : Below w.heap.size w (wr.setCell ⟨w.heap.size, k, none⟩ (.int .i64 (Z k))) := hB.setCell (p := ⟨w.heap.size, k, none⟩) (Nat.le_refl _) _
      clear how hown hB hB1
      go_wp2
      go_roundw
      case rel => exact ⟨k + 1, by omega, by go_num, hst, hB'⟩
      case measure => simp [intOf]; omega
    · have hke : k = len := by omega
      subst hke
      have hlive : w.heap.size < wr.heap.size := by
        rcases how.2 with ⟨h', _⟩ | ⟨g', cap', cur, h', _, hg, _⟩
        · simp at h'
        · simp only [Value.slice.injEq, Option.some.injEq, Addr.mk.injEq, and_true, true_and] at h'
          obtain ⟨rfl, rfl⟩ := h'
          exact lt_of_block hg
      have hfin : IsI64 wr (some ⟨w.heap.size, 0, none⟩) k k Z := by
        refine ⟨Nat.le_refl _, by omega, fun _ => ⟨w.heap.size, 0, rfl, hlive, fun i hi => ?_⟩⟩
        rw [Nat.zero_add, how.cellAt i (by omega), copyTo_all Z k i hi]
      have HO : Hid (wr.ownsRow w.heap.size 2 1 (.slice (some ⟨w.heap.size, 0, none⟩) k k) k (copyTo Z k k)) := how
      clear how hown hB1
      go_wp2
      go_ret
      exact ⟨rfl, hlive, hfin, HO.out, hB⟩

theorem row_at {w w' : World} {base g cap size n : Nat} {e : TypeId} {xs : List Value} (h : w.ownsRow base e size (.slice (some ⟨g, 0, none⟩) n cap) n xs) (he : w'.heap[g]? = w.heap[g]?) : w'.ownsRow base e size (.slice (some ⟨g, 0, none⟩) n cap) n xs := by
  refine ⟨h.1, ?_⟩
  rcases h.2 with ⟨h', _⟩ | ⟨g', cap', cur, e', hb, hg, r⟩
  · cases h'
  · have e2 := e'
    simp only [Value.slice.injEq, Option.some.injEq, Addr.mk.injEq, and_true, true_and] at e2
    obtain ⟨rfl, rfl⟩ := e2
    exact .inr ⟨_, _, cur, rfl, hb, he.trans hg, r⟩
theorem row_lt {w : World} {base g cap size n : Nat} {e : TypeId} {xs : List Value} (h : w.ownsRow base e size (.slice (some ⟨g, 0, none⟩) n cap) n xs) : base ≤ g ∧ g < w.heap.size := h.lt g rfl

set_option maxHeartbeats 400000 in
theorem toEpoch_own (K : Int) (a : Option Addr) (len cap : Nat) (Z : Nat → Int) (w : World) (h : IsI64 w a len cap Z) (hlen : len ≤ 1048576) :
    Calls Tryd.prog 49 #[.agg #[.int .i64 K, .slice a len cap]] w fun e w' => ∃ g, e = .returned (.agg #[.int .i64 K, .slice (some ⟨g, 0, none⟩) len len]) ∧ w.heap.size < g ∧ g < w'.heap.size ∧ IsI64 w' (some ⟨g, 0, none⟩) len len Z ∧ w'.ownsRow w.heap.size 2 1 (.slice (some ⟨g, 0, none⟩) len len) len (copyTo Z len len) ∧ Below w.heap.size w w' := by
  go_enter Tryd.func49, Tryd.ntmps49
  go_wp2_with fail
  have hB3 : Below w.heap.size w (((w.alloc (Obj.cells #[Value.int IntKind.i64 K, Value.slice a len cap] 69)).alloc (Obj.cells #[Value.int IntKind.i64 0, Value.slice none 0 0] 74)).alloc (Obj.cells #[Value.int IntKind.i64 K, Value.slice none 0 0] 74)) :=
    (((Below.refl _ _).alloc (Nat.le_refl _) _).alloc (by simp) _).alloc (by simp; omega) _
  refine (toInt64S_own a len cap Z _ (h.below hB3) hlen).mono ?_
  rintro e w1 ⟨rfl, hlt, hI, hO, hB⟩
  have HO : Hid (w1.ownsRow w.heap.size 2 1 (.slice (some ⟨w.heap.size + 1 + 1 + 1, 0, none⟩) len len) len (copyTo Z len len)) := by
    simp only [World.size_alloc] at hO
    exact mono_base hO (by omega)
  clear hO
  obtain ⟨hc, hf⟩ := bcell hB
  have hz : w.heap.size + 3 < w1.heap.size := by simpa using hlt
  have hBB : Below w.heap.size w w1 := hB3.trans (hB.mono (by simp; omega))
  simp only [World.size_alloc] at hI hc hf
  clear hB hB3 hlt
  go_wp2
  refine bodyPost_ret (v := .agg #[.int .i64 K, .slice (some ⟨w.heap.size + 1 + 1 + 1, 0, none⟩) len len]) (by simp [results, Tryd.results49, go_sem, hc]) rfl ⟨w.heap.size + 1 + 1 + 1, rfl, by omega, by simp [World.setCell]; omega, ?_, ?_, ?_⟩
  · exact ((hI.other _ (by simp) _).other _ (by simp) _).other _ (by simp) _
  · refine row_at HO.out ((Below.heap_setCell _ _ _ _ ?_).trans ((Below.heap_setCell _ _ _ _ ?_).trans (Below.heap_setCell _ _ _ _ ?_))) <;> (dsimp only; omega)
  · exact ((hBB.setCell (by simp; omega) _).setCell (by simp) _).setCell (by simp) _

/-- epochs in blocks of their own, which can be written -/
def OwnEp (w : World) (base top g len : Nat) (L : Nat → Nat) : Prop :=
  ∃ (xs : List Value) (G : Nat → Nat), w.ownsRow base 74 2 (.slice (some ⟨g, 0, none⟩) len len) len xs ∧ g < top ∧
    ∀ j, j < len → (∃ z : Int, xs[j * 2]? = some (.int .i64 z)) ∧ xs[j * 2 + 1]? = some (.slice (some ⟨G j, 0, none⟩) (L j) (L j)) ∧ G j ≠ g ∧ G j < top ∧ (∃ zs, w.ownsRow base 2 1 (.slice (some ⟨G j, 0, none⟩) (L j) (L j)) (L j) zs) ∧ ∀ i, i < len → i ≠ j → G i ≠ G j
theorem OwnEp.below {w w' : World} {base top g len : Nat} {L : Nat → Nat} (h : OwnEp w base top g len L) (hB : Below w.heap.size w w') : OwnEp w' base top g len L := by
  obtain ⟨xs, G, h1, h0, h2⟩ := h
  refine ⟨xs, G, ownsRow_below h1 hB, h0, fun j hj => ?_⟩
  obtain ⟨p1, p2, p3, p6, ⟨zs, p4⟩, p5⟩ := h2 j hj
  exact ⟨p1, p2, p3, p6, ⟨zs, ownsRow_below p4 hB⟩, p5⟩

set_option maxHeartbeats 400000 in
theorem toEpochS_own (a : Option Addr) (len cap : Nat) (K : Nat → Int) (L : Nat → Nat) (M : Nat → Nat → Int) (w : World) (h : IsEps w a len cap K L M) (hl : len ≤ 1048576) (hL : Hid (∀ i, i < len → L i ≤ 1048576)) :
    Calls Tryd.prog 19 #[.slice a len cap] w fun e w' => ∃ g, e = .returned (.slice (some ⟨g, 0, none⟩) len len) ∧ IsEps w' (some ⟨g, 0, none⟩) len len K L M ∧ OwnEp w' w.heap.size w'.heap.size g len L ∧ Below w.heap.size w w' := by
  obtain ⟨hlc, hcm, hc⟩ := h
  obtain ⟨i0, hi, hz0, hz1, hz2⟩ := info_parts info35
  have hb2 : i0.bytes * len ≤ 281474976710656 := by rw [hz2]; omega
  have hb3 : len ≤ maxLen := by unfold maxLen; omega
  go_enter Tryd.func19, Tryd.ntmps19
  go_wp2_with (at_make; refine wpList_make_full _ rfl _ _ 32 rfl w.heap.size 74 i0 (.agg #[.int .i64 0, .slice none 0 0]) 2 Tryd.underlying32 hi hz0 hz1 .i64 .i64 _ _ len rfl rfl rfl rfl hb2 hb3 (Nat.le_refl _) ?_; intro w1 hown hgrow)
  have hB1 : Below w.heap.size w w1 := (Below.refl _ w).grown hgrow (Nat.le_refl _) (fun k hk => by cases hk)
  clear hgrow
  go_loopw [4] (fun i wr => ∃ (k : Nat) (xs : List Value) (G : Nat → Nat), k ≤ len ∧ i = .int .i64 k ∧ wr.ownsRow w.heap.size 74 2 (.slice (some ⟨w.heap.size, 0, none⟩) len len) len xs ∧
      (∀ j, j < k → xs[j * 2]? = some (.int .i64 (K j)) ∧ G j ≠ w.heap.size ∧ G j < wr.heap.size ∧ xs[j * 2 + 1]? = some (.slice (some ⟨G j, 0, none⟩) (L j) (L j)) ∧ IsI64 wr (some ⟨G j, 0, none⟩) (L j) (L j) (M j) ∧ wr.ownsRow w.heap.size 2 1 (.slice (some ⟨G j, 0, none⟩) (L j) (L j)) (L j) (copyTo (M j) (L j) (L j)) ∧ ∀ i, i < j → G i < G j) ∧ Below w.heap.size w wr)
    (fun i _ => len - (intOf i).toNat)
  case atStart => exact ⟨0, _, fun _ => 0, Nat.zero_le _, rfl, hown, fun j hj => absurd hj (Nat.not_lt_zero _), hB1⟩
  case round =>
    obtain ⟨k, xs, G, hk, rfl, how, hall, hB⟩ := hrel
    have HA := (show Hid _ from hall)
    clear hall
    by_cases hlt : k < len
    · obtain ⟨b, off, A, C, rfl, hbs, hcell⟩ := hc (by omega)
      obtain ⟨c1, c2, c3⟩ := hcell k hlt
      have d1 := (hB.cell (p := ⟨b, off + k * 2, none⟩) hbs).trans c1
      have d2 := (hB.cell (p := ⟨b, off + k * 2 + 1, none⟩) hbs).trans c2
      have c3' := c3.below (hB.mono (Nat.le_refl _))
      clear hcell hc c1 c2 c3
      have hws : w.heap.size < wr.heap.size := by
        rcases how.2 with ⟨h', _⟩ | ⟨g', cap', cur, h', _, hg, _⟩
        · simp at h'
        · simp only [Value.slice.injEq, Option.some.injEq, Addr.mk.injEq, and_true, true_and] at h'
          obtain ⟨rfl, rfl⟩ := h'
          exact lt_of_block hg
      have hxl : xs.length = len * 2 := how.1
      have HO := (show Hid _ from how)
      clear how hown
      go_wp2_with (go_at_call 49; refine (toEpoch_own _ _ _ _ _ _ c3' (hL.out k hlt)).mono ?_; rintro e w' ⟨g, rfl, hgw, hgs, hI, hOg, hB2⟩; have HOG : Hid (w'.ownsRow wr.heap.size 2 1 (.slice (some ⟨g, 0, none⟩) (L k) (L k)) (L k) (copyTo (M k) (L k) (L k))) := hOg; clear hOg; have f1 := (ownsRow_below HO.out hB2).frozenAt (k * 2); have f2 := (ownsRow_below HO.out hB2).frozenAt (k * 2 + 1); obtain ⟨v1, e1⟩ := own_some (ownsRow_below HO.out hB2) (k * 2) (by omega); obtain ⟨v2, e2⟩ := own_some (ownsRow_below HO.out hB2) (k * 2 + 1) (by omega))
      go_roundw
      case rel =>
        refine ⟨k + 1, (xs.set (k * 2) (.int .i64 (K k))).set (k * 2 + 1) (.slice (some ⟨g, 0, none⟩) (L k) (L k)), fun j => if j = k then g else G j, by omega, by go_num, ?_, ?_, ?_⟩
        · exact ((ownsRow_below HO.out hB2).stored _ _).1.stored _ _ |>.1
        · intro j hj
          rcases Nat.lt_succ_iff_lt_or_eq.1 hj with h1 | rfl
          · obtain ⟨q1, hg', hs', q2, q3, q4, q5⟩ := HA.out j h1
            dsimp only
            rw [if_neg (show ¬ j = k by omega)]
            refine ⟨?_, hg', ?_, ?_, ?_, ?_, ?_⟩
            · rw [List.getElem?_set_ne (by omega), List.getElem?_set_ne (by omega)]; exact q1
            · have := hB2.size; simp [World.setCell]; omega
            · rw [List.getElem?_set_ne (by omega), List.getElem?_set_ne (by omega)]; exact q2
            · exact ((q3.below hB2).other _ (fun h => hg' h.symm) _).other _ (fun h => hg' h.symm) _
            · refine row_at (ownsRow_below q4 hB2) ?_
              rw [Below.heap_setCell _ _ _ _ hg', Below.heap_setCell _ _ _ _ hg']
            · intro i hi
              rw [if_neg (show ¬ i = k by omega)]
              exact q5 i hi
          · dsimp only
            rw [if_pos rfl]
            refine ⟨?_, by omega, ?_, ?_, ?_, ?_, ?_⟩
            · rw [List.getElem?_set_ne (by omega), List.getElem?_set_self (by omega)]
            · simp [World.setCell]; omega
            · rw [List.getElem?_set_self (by simp; omega)]
            · exact (hI.other _ (by simp; omega) _).other _ (by simp; omega) _
            · refine row_at (mono_base HOG.out (by omega)) ?_
              rw [Below.heap_setCell _ _ _ _ (by simp; omega), Below.heap_setCell _ _ _ _ (by simp; omega)]
            · intro i hi
              rw [if_neg (show ¬ i = j by omega)]
              have := (HA.out i hi).2.2.1
              omega
        · exact ((hB.trans (hB2.mono hB.size)).setCell (Nat.le_refl _) _).setCell (Nat.le_refl _) _
      case measure => simp [intOf]; omega
    · have hke : k = len := by omega
      subst hke
      have hfin : IsEps wr (some ⟨w.heap.size, 0, none⟩) k k K L M := by
        refine ⟨Nat.le_refl _, by omega, fun hp => ?_⟩
        have hws : w.heap.size < wr.heap.size := by
          rcases how.2 with ⟨h', _⟩ | ⟨g', cap', cur, h', _, hg, _⟩
          · simp at h'
          · simp only [Value.slice.injEq, Option.some.injEq, Addr.mk.injEq, and_true, true_and] at h'
            obtain ⟨rfl, rfl⟩ := h'
            exact lt_of_block hg
        refine ⟨w.heap.size, 0, fun j => some ⟨G j, 0, none⟩, fun j => L j, rfl, hws, fun j hj => ⟨?_, ?_, (HA.out j hj).2.2.2.2.1⟩⟩
        · rw [Nat.zero_add, how.cellAt _ (by omega)]; exact (HA.out j hj).1
        · rw [Nat.zero_add, how.cellAt _ (by omega)]; exact (HA.out j hj).2.2.2.1
      have hown2 : OwnEp wr w.heap.size wr.heap.size w.heap.size k L := by
        refine ⟨xs, G, how, (row_lt how).2, fun j hj => ?_⟩
        obtain ⟨q1, q2, q3, q4, q5, q6, q7⟩ := HA.out j hj
        refine ⟨⟨_, q1⟩, q4, q2, q3, ⟨_, q6⟩, fun i hi hne => ?_⟩
        rcases Nat.lt_or_gt_of_ne hne with h1 | h1
        · have := q7 i h1; omega
        · have := (HA.out i hi).2.2.2.2.2.2 j h1; omega
      have HO2 : Hid (OwnEp wr w.heap.size wr.heap.size w.heap.size k L) := hown2
      clear hown2
      clear how hown hB1 HA
      go_wp2
      go_ret
      exact ⟨_, rfl, hfin, HO2.out, hB⟩


def imarksK (k0 n : Nat) : List Value := (List.range n).map fun i => .int .i64 ((k0 + i : Nat) : Int)
theorem imarksK_at {k0 n i : Nat} (h : i < n) : (imarksK k0 n)[i]? = some (.int .i64 ((k0 + i : Nat) : Int)) := by unfold imarksK; simp [h]
theorem imarksK_of {k0 n : Nat} {xs : List Value} (hl : xs.length = n) (h : ∀ i, i < n → xs[i]? = some (.int .i64 ((k0 + i : Nat) : Int))) : xs = imarksK k0 n := by
  apply List.ext_getElem?
  intro i
  by_cases hi : i < n
  · rw [h i hi, imarksK_at hi]
  · rw [List.getElem?_eq_none (by omega), List.getElem?_eq_none (by unfold imarksK; simp; omega)]

set_option maxHeartbeats 1000000 in
theorem markInt64S_any (a : Option Addr) (len cap base : Nat) (xs0 : List Value) (k0 : Nat) (w : World) (h : w.ownsRow base 2 1 (.slice a len cap) len xs0) (hb : k0 + len ≤ 1152921504606846976) :
    Calls Tryd.prog 24 #[.slice a len cap, .int .i64 k0] w fun e w' => e = .returned (.int .i64 ((k0 + len : Nat) : Int)) ∧ w'.ownsRow base 2 1 (.slice a len cap) len (imarksK k0 len) ∧ w.grownBy w' (Value.slice a len cap).ownBlock := by
  go_enter Tryd.func24, Tryd.ntmps24
  go_wp2
  go_loopw [1, 5] (fun x i wr => ∃ (j : Nat) (xs : List Value), j ≤ len ∧ i = .int .i64 j ∧ x = .int .i64 ((k0 + j : Nat) : Int) ∧ wr.ownsRow base 2 1 (.slice a len cap) len xs ∧ Hid (∀ t, t < j → xs[t]? = some (.int .i64 ((k0 + t : Nat) : Int))) ∧ w.grownBy wr (Value.slice a len cap).ownBlock)
    (fun _ i _ => len - (intOf i).toNat)
  case atStart => exact ⟨0, xs0, Nat.zero_le _, rfl, rfl, h, fun t ht => absurd ht (Nat.not_lt_zero _), World.grownBy.refl _ _⟩
  case round =>
    obtain ⟨j, xs, hj, rfl, rfl, how, HA, hG⟩ := hrel
    by_cases hlt : j < len
    · obtain ⟨g, rfl⟩ : ∃ g, a = some ⟨g, 0, none⟩ := by
        rcases how.2 with ⟨h', h0⟩ | ⟨g, cap', cur, h', _⟩
        · omega
        · simp only [Value.slice.injEq] at h'
          exact ⟨g, h'.1⟩
      have hltI : (j : Int) < (len : Int) := by omega
      have hxl : xs.length = len * 1 := how.1
      have f1 := how.frozenAt j
      obtain ⟨v1, e1⟩ := own_some how j (by omega)
      have HO : Hid (_) := how
      have HG : Hid (_) := hG
      clear how hG h
      go_wp2
      go_roundw
      case rel =>
        refine ⟨j + 1, xs.set j (.int .i64 ((k0 + j : Nat) : Int)), by omega, by go_num, by go_num, (World.ownsRow.stored HO.out _ _).1, ?_, HG.out.trans (World.ownsRow.stored HO.out _ _).2⟩
        intro t ht
        rcases Nat.lt_succ_iff_lt_or_eq.1 ht with h1 | rfl
        · rw [List.getElem?_set_ne (by omega)]
          exact HA.out t h1
        · rw [List.getElem?_set_self (by omega)]
      case measure => simp [intOf]; omega
    · have hje : j = len := by omega
      subst hje
      have hm : xs = imarksK k0 j := imarksK_of (by have := how.1; omega) HA.out
      have HO : Hid (wr.ownsRow base 2 1 (.slice a j cap) j (imarksK k0 j)) := by rw [← hm]; exact how
      clear how hm
      go_wp2
      go_ret
      exact ⟨rfl, HO.out, hG⟩

set_option maxHeartbeats 1000000 in
theorem heldInt64S_any (a : Option Addr) (len cap : Nat) (w : World) (h : IsI64 w a len cap (fun i => ((1 + i : Nat) : Int))) (hb : len ≤ 1000000) :
    Calls Tryd.prog 25 #[.slice a len cap, .int .i64 1] w fun e w' => e = .returned (.int .i64 ((1 + len : Nat) : Int)) ∧ Below w.heap.size w w' := by
  obtain ⟨hlc, hcm, hc⟩ := h
  go_enter Tryd.func25, Tryd.ntmps25
  go_wp2
  go_loopw [1, 5] (fun x i wr => ∃ (j : Nat), j ≤ len ∧ i = .int .i64 j ∧ x = .int .i64 ((1 + j : Nat) : Int) ∧ Below w.heap.size w wr)
    (fun _ i _ => len - (intOf i).toNat)
  case atStart => exact ⟨0, Nat.zero_le _, rfl, rfl, Below.refl _ _⟩
  case round =>
    obtain ⟨j, hj, rfl, rfl, hB⟩ := hrel
    by_cases hlt : j < len
    · obtain ⟨b, off, rfl, hbs, hcell⟩ := hc (by omega)
      have hltI : (j : Int) < (len : Int) := by omega
      have d1 := (hB.cell (p := ⟨b, off + j, none⟩) hbs).trans (hcell j hlt)
      have hss : ((((1 + j : Nat) : Int)) != ((1 + j : Nat) : Int)) = false := by simp
      clear hcell hc
      go_wp2
      go_roundw
      case rel => exact ⟨j + 1, by omega, by go_num, by go_num, hB⟩
      case measure => simp [intOf]; omega
    · have hje : j = len := by omega
      subst hje
      go_wp2
      go_ret
      exact ⟨rfl, hB⟩

set_option maxHeartbeats 1000000 in
theorem eqInt64_same (a a' : Option Addr) (len cap cap' : Nat) (Z : Nat → Int) (w : World) (h : IsI64 w a len cap Z) (h' : IsI64 w a' len cap' Z) :
    Calls Tryd.prog 21 #[.slice a len cap, .slice a' len cap'] w fun e w' => e = .returned (.bool true) ∧ Below w.heap.size w w' := by
  obtain ⟨hlc, hcm, hc⟩ := h
  obtain ⟨hlc', hcm', hc'⟩ := h'
  have hbn : ((len : Int) != (len : Int)) = false := by simp
  go_enter Tryd.func21, Tryd.ntmps21
  go_wp2
  go_loopw [5] (fun i wr => ∃ (k : Nat), k ≤ len ∧ i = .int .i64 k ∧ Below w.heap.size w wr)
    (fun i _ => len - (intOf i).toNat)
  case atStart => exact ⟨0, Nat.zero_le _, rfl, Below.refl _ _⟩
  case round =>
    obtain ⟨k, hk, rfl, hB⟩ := hrel
    by_cases hlt : k < len
    · obtain ⟨b, off, rfl, hbs, hcell⟩ := hc (by omega)
      obtain ⟨b', off', rfl, hbs', hcell'⟩ := hc' (by omega)
      have d1 := (hB.cell (p := ⟨b, off + k, none⟩) hbs).trans (hcell k hlt)
      have d1' := (hB.cell (p := ⟨b', off' + k, none⟩) hbs').trans (hcell' k hlt)
      have hss : ((Z k) != (Z k)) = false := by simp
      clear hcell hc hcell' hc'
      go_wp2
      go_quiet (fail)
      go_wp2
      go_roundw
      case rel => exact ⟨k + 1, by omega, by go_num, hB.trans ⟨rfl, rfl, rfl, Nat.le_refl _, fun _ _ => rfl⟩⟩
      case measure => simp [intOf]; omega
    · have hke : k = len := by omega
      subst hke
      go_wp2
      go_ret
      exact ⟨rfl, hB⟩

theorem ints_of_own {w : World} {base : Nat} {v : Value} {n : Nat} {xs : List Value} {Z : Nat → Int} (h : w.ownsRow base 2 1 v n xs) (hx : ∀ i, i < n → xs[i]? = some (.int .i64 (Z i))) :
    ∃ a cap, v = .slice a n cap ∧ IsI64 w a n cap Z ∧ ∀ b off, a = some ⟨b, off, none⟩ → base ≤ b ∧ b < w.heap.size := by
  have hlt := h.lt
  rcases h.2 with ⟨rfl, rfl⟩ | ⟨g, cap, cur, rfl, hb, hg, hnc, hcm, hcs, htake⟩
  · exact ⟨none, 0, rfl, ⟨Nat.le_refl _, by omega, fun h => absurd h (Nat.lt_irrefl _)⟩, fun b off e => by cases e⟩
  · refine ⟨_, cap, rfl, ⟨hnc, by unfold maxLen at hcm; omega, fun hp => ⟨g, 0, rfl, (Array.getElem?_eq_some_iff.1 hg).1, fun i hi => ?_⟩⟩, fun b off e => ?_⟩
    · have := h.cells (g := g) rfl i _ (hx i hi)
      have hadd : (⟨g, 0, none⟩ : Addr).add i = ⟨g, i, none⟩ := by unfold Addr.add; split <;> simp_all
      rw [hadd] at this
      rw [Nat.zero_add]
      exact this
    · simp only [Option.some.injEq, Addr.mk.injEq, and_true] at e
      obtain ⟨rfl, rfl⟩ := e
      exact hlt g rfl

def atI (L : List Int) (i : Nat) : Int := L.getD i 0
theorem ints_of_row {w : World} {base : Nat} {v : Value} {L : List Int} (h : OwnK w base v L) : ∃ a cap, v = .slice a L.length cap ∧ IsI64 w a L.length cap (atI L) ∧ ∀ b off, a = some ⟨b, off, none⟩ → base ≤ b ∧ b < w.heap.size :=
  ints_of_own (Z := atI L) h (fun i hi => by
    rw [List.getElem?_map]
    simp [atI, List.getD, hi])
theorem IsI64.kept {p : Nat → Prop} {w w' : World} {a : Option Addr} {len cap : Nat} {Z : Nat → Int} (h : IsI64 w a len cap Z) (hK : Kept p w w') (hp : ∀ b off, a = some ⟨b, off, none⟩ → p b) : IsI64 w' a len cap Z := by
  obtain ⟨h1, h2, h3⟩ := h
  refine ⟨h1, h2, fun h0 => ?_⟩
  obtain ⟨b, off, e, hb, hc⟩ := h3 h0
  refine ⟨b, off, e, by have := hK.size; omega, fun i hi => ?_⟩
  have := hc i hi
  unfold World.cell? at this ⊢
  rw [hK.block b hb (hp b off e)]
  exact this

set_option maxHeartbeats 400000 in
theorem szStringS_left (a : Option Addr) (len cap : Nat) (S : Nat → ByteArray) (left : Int) (w : World) (h : IsStrs w a len cap S) (hS : ∀ i, i < len → (S i).size ≤ 9223372036854775807) (h0 : 0 ≤ left) (h1 : left ≤ 1048576) :
    Calls Tryd.prog 8 #[.slice a len cap, .int .i64 left] w fun e w' => ∃ r : Int, e = .returned (.int .i64 r) ∧ (r < 0 ∨ (0 ≤ r ∧ len ≤ 1048576 ∧ ∀ i, i < len → (S i).size ≤ 1048576)) ∧ w' = w := by
  obtain ⟨hlc, hcm, hc⟩ := h
  by_cases hneg : left - (len : Int) < 0
  · go_enter Tryd.func8, Tryd.ntmps8
    go_wp2
    go_ret
    exact ⟨_, rfl, .inl (by decide), rfl⟩
  have hlen : len ≤ 1048576 := by omega
  go_enter Tryd.func8, Tryd.ntmps8
  go_wp2
  go_loop [1, 5] (fun x i => ∃ (k : Nat) (r : Int), k ≤ len ∧ i = .int .i64 k ∧ x = .int .i64 r ∧ 0 ≤ r ∧ r ≤ 1048576 ∧ Hid (∀ j, j < k → (S j).size ≤ 1048576)) (fun _ i => len - (intOf i).toNat)
  case atStart => exact ⟨0, _, Nat.zero_le _, rfl, rfl, by omega, by omega, fun j hj => absurd hj (Nat.not_lt_zero _)⟩
  case round =>
    obtain ⟨k, r, hk, rfl, rfl, hr0, hr1, HA⟩ := hrel
    by_cases hlt : k < len
    · obtain ⟨b, off, rfl, hbs, hcell⟩ := hc (by omega)
      have d1 := hcell k hlt
      have hsz := hS k hlt
      have hltI : (k : Int) < (len : Int) := by omega
      clear hcell hc
      by_cases hng : r - ((S k).size : Int) < 0
      · go_wp2
        go_ret
        exact ⟨_, rfl, .inl (by decide), rfl⟩
      · have HA' : Hid (∀ j, j < k + 1 → (S j).size ≤ 1048576) := by
          intro j hj
          rcases Nat.lt_succ_iff_lt_or_eq.1 hj with h1 | rfl
          · exact HA.out j h1
          · omega
        go_wp2
        go_round
        case rel => exact ⟨k + 1, _, by omega, by go_num, rfl, by omega, by omega, HA'⟩
        case measure => simp [intOf]; omega
    · have hke : k = len := by omega
      subst hke
      go_wp2
      go_ret
      exact ⟨_, rfl, .inr ⟨hr0, HA.out⟩, rfl⟩


set_option maxHeartbeats 4000000 in
theorem markEpochS_any (base top g len : Nat) (L : Nat → Nat) (w : World) (h : OwnEp w base top g len L) (hl : len ≤ 1048576) (hL : Hid (∀ i, i < len → L i ≤ 1048576)) :
    Calls Tryd.prog 23 #[.slice (some ⟨g, 0, none⟩) len len, .int .i64 1] w fun e w' => ∃ r : Nat, e = .returned (.int .i64 (r : Int)) ∧ 0 < r ∧ r ≤ 1 + len * 1048577 ∧ Kept (fun b => b < base ∨ top ≤ b) w w' := by
  go_enter Tryd.func23, Tryd.ntmps23
  go_wp2
  go_loopw [1, 5] (fun x i wr => ∃ (j r : Nat), j ≤ len ∧ i = .int .i64 j ∧ x = .int .i64 (r : Int) ∧ 0 < r ∧ Hid (r ≤ 1 + j * 1048577 ∧ OwnEp wr base top g len L ∧ Kept (fun b => b < base ∨ top ≤ b) w wr))
    (fun _ i _ => len - (intOf i).toNat)
  case atStart => exact ⟨0, 1, Nat.zero_le _, rfl, rfl, by decide, by omega, h, Kept.refl _ _⟩
  case round =>
    obtain ⟨j, r, hj, rfl, rfl, hr0, HW⟩ := hrel
    by_cases hlt : j < len
    · obtain ⟨hr1, ⟨xs, G, ho, hgt, hall⟩, hBw⟩ := HW.out
      obtain ⟨⟨z, e1⟩, e2, hne, hgj0, ⟨zs, hrow⟩, hdis⟩ := hall j hlt
      have hlI : L j ≤ 1048576 := hL.out j hlt
      have hjl : j * 1048577 ≤ len * 1048577 := Nat.mul_le_mul_right _ hj
      have d1 : wr.cell? ⟨g, j * 2, none⟩ = some (.int .i64 z) := (ho.cellAt _ (by omega)).trans e1
      have f1 := ho.frozenAt (j * 2)
      obtain ⟨w1, hw1⟩ : ∃ w1, w1 = wr.setCell ⟨g, j * 2, none⟩ (.int .i64 (r : Int)) := ⟨_, rfl⟩
      have HW1 : Hid (w1 = wr.setCell ⟨g, j * 2, none⟩ (.int .i64 (r : Int))) := hw1
      have hst := (ho.stored (j * 2) (.int .i64 (r : Int))).1
      rw [← hw1] at hst
      have hxl : xs.length = len * 2 := ho.1
      have d2 : w1.cell? ⟨g, j * 2 + 1, none⟩ = some (.slice (some ⟨G j, 0, none⟩) (L j) (L j)) := by
        rw [hst.cellAt _ (by omega), List.getElem?_set_ne (by omega)]; exact e2
      have hrw : w1.ownsRow base 2 1 (.slice (some ⟨G j, 0, none⟩) (L j) (L j)) (L j) zs := row_at hrow (by rw [hw1]; exact Below.heap_setCell _ _ _ _ hne)
      have hB1 : Kept (fun b => b < base ∨ top ≤ b) w w1 := by
        rw [hw1]
        exact hBw.trans (Kept.of_grown (ho.stored (j * 2) (.int .i64 (r : Int))).2 (fun k hk => by cases hk; have := (row_lt ho).1; omega))
      obtain ⟨gj, hgj⟩ : ∃ gj, gj = G j := ⟨_, rfl⟩
      obtain ⟨lj, hlj⟩ : ∃ lj, lj = L j := ⟨_, rfl⟩
      rw [← hgj, ← hlj] at d2 hrw
      rw [← hgj] at hgj0
      rw [← hlj] at hlI
      have HM : Hid (Calls Tryd.prog 24 #[.slice (some ⟨gj, 0, none⟩) lj lj, .int .i64 ((r + 1 : Nat) : Int)] w1 fun e w' => e = .returned (.int .i64 ((r + 1 + lj : Nat) : Int)) ∧ w'.ownsRow base 2 1 (.slice (some ⟨gj, 0, none⟩) lj lj) lj (imarksK (r + 1) lj) ∧ w1.grownBy w' (Value.slice (some ⟨gj, 0, none⟩) lj lj).ownBlock) :=
        markInt64S_any (some ⟨gj, 0, none⟩) lj lj base zs (r + 1) w1 hrw (by omega)
      have HNX : Hid (∀ w2, w1.grownBy w2 (some gj) → w2.ownsRow base 2 1 (.slice (some ⟨gj, 0, none⟩) lj lj) lj (imarksK (r + 1) lj) → OwnEp w2 base top g len L ∧ Kept (fun b => b < base ∨ top ≤ b) w w2) := by
        intro w2 hg2 ho2
        have hbj := (row_lt hrw).1
        refine ⟨⟨xs.set (j * 2) (.int .i64 (r : Int)), G, row_at hst (hg2.block g (row_lt hst).2 (fun e => hne (by rw [← hgj]; exact (Option.some.inj e).symm))), hgt, fun i hi => ?_⟩, hB1.trans (Kept.of_grown hg2 (fun k hk => by cases hk; omega))⟩
        obtain ⟨⟨zi, p1⟩, p2, p3, p6, ⟨zsi, p4⟩, p5⟩ := hall i hi
        refine ⟨?_, ?_, p3, p6, ?_, p5⟩
        · by_cases hij : i = j
          · subst hij
            exact ⟨_, List.getElem?_set_self (by omega)⟩
          · exact ⟨zi, by rw [List.getElem?_set_ne (by omega)]; exact p1⟩
        · rw [List.getElem?_set_ne (by omega)]; exact p2
        · by_cases hij : i = j
          · subst hij
            rw [← hgj, ← hlj]
            exact ⟨_, ho2⟩
          · refine ⟨zsi, row_at p4 ?_⟩
            have hG := hdis i hi hij
            rw [← hgj] at hG
            have h4 := (row_lt p4).2
            have h5 : w1.heap[G i]? = wr.heap[G i]? := by rw [hw1]; exact Below.heap_setCell _ _ _ _ p3
            have h6 : w1.heap.size = wr.heap.size := by rw [hw1]; simp [World.setCell]
            rw [← h5]
            exact hg2.block (G i) (by omega) (fun e => hG (Option.some.inj e))
      have hgb : (Value.slice (some (⟨gj, 0, none⟩ : Addr)) lj lj).ownBlock = some gj := rfl
      have hltI : (j : Int) < (len : Int) := by omega
      have HR : Hid (lj ≤ 1048576 ∧ r + 1 + lj ≤ 1 + (j + 1) * 1048577) := ⟨hlI, by omega⟩
      have hrb : r + 1 + lj ≤ 4611686018427387904 := by omega
      clear hr1 hjl ho hall hBw e1 e2 hne hrow hdis hst hrw hB1 hgj hlj hxl h hgt hgj0
      obtain ⟨r1, hr1⟩ : ∃ r1, r1 = r + 1 := ⟨_, rfl⟩
      have hrI : (r : Int) + 1 = (r1 : Int) := by omega
      have HR1 : Hid (r1 = r + 1) := hr1
      rw [← hr1] at HM HNX HR hrb
      clear hr1
      rw [HW1.out] at d2
      go_wp2_with fail
      rw [← HW1.out]
      refine HM.out.mono ?_
      rintro e w2 ⟨rfl, ho2, hg2⟩
      have HN2 : Hid (OwnEp w2 base top g len L ∧ Kept (fun b => b < base ∨ top ≤ b) w w2) := HNX.out w2 hg2 ho2
      clear ho2 hg2
      go_wp2
      go_roundw
      case rel => exact ⟨j + 1, r1 + lj, by omega, by go_num, by go_num, by omega, HR.out.2, HN2.out⟩
      case measure => simp [intOf]; omega
    · have hje : j = len := by omega
      subst hje
      go_wp2
      go_ret
      exact ⟨r, rfl, hr0, HW.out.1, HW.out.2.2⟩

end Go.Proofs.YtpcbhjejpebogaaDoor.Ep

namespace Go.Proofs.YtpcbhjejpebogaaDoor
open Go.ChangeShapes Go.WideShapes Go.ChangeAt Go.RowKit Go.Deep
set_option linter.unusedVariables false

/-- epochs: keys, lengths, members -/
def IsEps (w : World) (a : Option Addr) (len cap : Nat) (D : (Nat → Int) × (Nat → Nat) × (Nat → Nat → Int)) : Prop := Ep.IsEps w a len cap D.1 D.2.1 D.2.2
def EFine (_ : (Nat → Int) × (Nat → Nat) × (Nat → Nat → Int)) (_ : Nat) : Prop := True
theorem cells2E : Tryd.prog.cellsOf 2 = 1 := by kernel_rfl
theorem cells30E : Tryd.prog.cellsOf 30 = 1 := by kernel_rfl
theorem cells69E : Tryd.prog.cellsOf 69 = 2 := by kernel_rfl

/-- a slice of int64 that came in reads as numbers -/
theorem open_i64 {H : Type} {enc : TypeId × Value → H} {W : World} {n : Nat} {v : Value} {x : DataW H × List MemPlace} (h : DataW.trod enc Tryd.prog W 0 (fun _ => true) true n 30 [v] = some x) :
    ∃ a len cap Z, v = .slice a len cap ∧ Ep.IsI64 W a len cap Z := by
  rcases open_ints Tryd.underlying30 Tryd.underlying2 cells2E h with ⟨hcs, _⟩ | ⟨a, l, c, zs, hcs, _, hl, hm, hz, _, hcell, hwz⟩
  · simp at hcs
    exact ⟨none, 0, 0, fun _ => 0, hcs, Nat.le_refl _, by omega, fun h => absurd h (by omega)⟩
  · simp at hcs
    refine ⟨some a, l, c, fun i => zs.getD i 0, hcs, hl, by unfold maxLen at hm; omega, fun hp => ?_⟩
    obtain ⟨b, off, spot⟩ := a
    have hc0 := hcell 0 (by simp at hz; omega)
    have hspot : spot = none := by simpa [Addr.add] using World.cell?_spot hc0
    subst hspot
    refine ⟨b, off, rfl, ?_, fun i hi => ?_⟩
    · rcases Nat.lt_or_ge b W.heap.size with h' | h'
      · exact h'
      · simp [Addr.add, World.cell?, Array.getElem?_eq_none h'] at hc0
    · have := hcell i (by simp at hz; omega)
      rw [add_plain] at this
      exact this

/-- a slice of epochs that came in reads as epochs -/
theorem open_epsK {H : Type} {enc : TypeId × Value → H} {W : World} {n : Nat} {v : Value} {x : DataW H × List MemPlace} (h : DataW.trod enc Tryd.prog W 0 (fun _ => true) true n 28 [v] = some x) :
    ∃ a len cap D, v = .slice a len cap ∧ IsEps W a len cap D ∧ EFine D len := by
  rcases open_slice_pairs Tryd.underlying28 Tryd.underlying69 cells69E rfl rfl cells2E cells30E h with ⟨hcs, _⟩ | ⟨a, len, cap, m, n', V0, V1, D0, D1, P0, P1, hcs, _, hl, hm, hmm, _, hall⟩
  · simp at hcs
    exact ⟨none, 0, 0, (fun _ => 0, fun _ => 0, fun _ _ => 0), hcs, ⟨Nat.le_refl _, by omega, fun h => absurd h (by omega)⟩, trivial⟩
  · simp at hcs hmm
    subst hmm
    have key : ∀ i, i < len → ∃ q : Int × Option Addr × Nat × Nat × (Nat → Int), W.cell? (a.add (i * 2)) = some (.int .i64 q.1) ∧ W.cell? (a.add (i * 2 + 1)) = some (.slice q.2.1 q.2.2.1 q.2.2.2.1) ∧ Ep.IsI64 W q.2.1 q.2.2.1 q.2.2.2.1 q.2.2.2.2 := by
      intro i hi
      obtain ⟨c0, c1, t0, t1⟩ := hall i (by omega)
      obtain ⟨z, e0, _, _⟩ := DataW.trod_int Tryd.underlying2 t0
      obtain ⟨a', l', c', Z', e1, hI⟩ := open_i64 t1
      simp at e0
      exact ⟨(z, a', l', c', Z'), by rw [c0, e0], by rw [c1, e1], hI⟩
    obtain ⟨q, hq⟩ := choose_lt key
    refine ⟨some a, len, _, (fun i => (q i).1, fun i => (q i).2.2.1, fun i => (q i).2.2.2.2), hcs, ⟨hl, by unfold maxLen at hm; omega, fun hp => ?_⟩, trivial⟩
    obtain ⟨b, off, spot⟩ := a
    have hc0 := (hq 0 hp).1
    have hspot : spot = none := by simpa [Addr.add] using World.cell?_spot hc0
    subst hspot
    refine ⟨b, off, fun i => (q i).2.1, fun i => (q i).2.2.2.1, rfl, ?_, fun i hi => ?_⟩
    · rcases Nat.lt_or_ge b W.heap.size with h' | h'
      · exact h'
      · simp [Addr.add, World.cell?, Array.getElem?_eq_none h'] at hc0
    · obtain ⟨h1, h2, h3⟩ := hq i hi
      rw [add_plain] at h1 h2
      exact ⟨h1, h2, h3⟩
end Go.Proofs.YtpcbhjejpebogaaDoor

namespace Go.Proofs.YtpcbhjejpebogaaDoor
open Go.RowKit Go.Maps
set_option linter.unusedVariables false

theorem KeysR.small {K : Nat → Int} {L : Nat → Nat} {M : Nat → Nat → Int} {len : Nat} {S : Nat → ByteArray} {kl : Nat} {R : List Int} (h : KeysR K L M len S kl R) : R.length ≤ 1000 := by
  cases he : Ep.epsB K L M len with
  | false => rw [h.2 (.inl he)]; simp
  | true =>
    cases hk : knownB S kl with
    | false => rw [h.2 (.inr hk)]; simp
    | true =>
      obtain ⟨O, _, _, e⟩ := h.1 he hk
      have h1 := keysL_len O K len
      rw [e]
      rcases Nat.eq_zero_or_pos len with h0 | h0
      · omega
      · have := (eps_few he h0).2; omega
theorem OwnK.kept {p : Nat → Prop} {w w' : World} {base n : Nat} {v : Value} {xs : List Value} (h : w.ownsRow base 2 1 v n xs) (hK : Kept p w w') (hp : ∀ b, base ≤ b → p b) : w'.ownsRow base 2 1 v n xs := by
  obtain ⟨h1, h2⟩ := h
  refine ⟨h1, ?_⟩
  rcases h2 with h2 | ⟨g, cap, cur, hv, hg, hh, r⟩
  · exact Or.inl h2
  · exact Or.inr ⟨g, cap, cur, hv, hg, (hK.block _ (lt_of_block hh) (hp _ hg)).trans hh, r⟩

set_option maxHeartbeats 8000000 in
theorem keysOf_walk (a : Option Addr) (len cap : Nat) (D : (Nat → Int) × (Nat → Nat) × (Nat → Nat → Int)) (u : Option Addr) (m uc : Nat) (S : Nat → ByteArray) (w : World) (hI : IsEps w a len cap D) (_ : EFine D len) (hS : IsStrs w u m uc S) (hSs : ∀ i, i < m → (S i).size ≤ 9223372036854775807) (hP : Pow w) :
    Calls Tryd.prog 5 #[.slice a len cap, .slice u m uc] w fun e w' => e = .returned (.bool true) ∧ Below w.heap.size w w' := by
  obtain ⟨K, L, M⟩ := D
  have HI : Hid (Ep.IsEps w a len cap K L M) := hI
  have HS : Hid (IsStrs w u m uc S) := hS
  have HP : Hid (Pow w) := hP
  clear hI hS hP
  go_enter Tryd.func5, Tryd.ntmps5
  go_wp2_with fail
  refine (Ep.szEpochS_any a len cap K L M w HI.out).mono ?_
  rintro e w1 ⟨r, rfl, hr, b1⟩
  rcases hr with hr | ⟨hr0, hr1, hl, hL⟩
  · go_wp2
    go_ret
    exact ⟨rfl, b1⟩
  have HL : Hid (∀ i, i < len → L i ≤ 1048576) := hL
  clear hL
  go_wp2_with fail
  refine (Ep.szStringS_left u m uc S r _ (HS.out.below b1) hSs hr0 hr1).mono ?_
  rintro e w2 ⟨r2, rfl, hr2, hw2⟩
  rw [hw2]
  clear hw2 w2
  rcases hr2 with hr2 | ⟨hr2, hml, hms⟩
  · go_wp2
    go_ret
    exact ⟨rfl, b1⟩
  clear hSs hr0 hr1
  go_wp2_with fail
  refine (Ep.toEpochS_any a len cap K L M _ (HI.out.below b1) hl HL).mono ?_
  rintro e wa ⟨ga, rfl, ja, hBa⟩
  have ba := b1.trans (hBa.mono b1.size)
  go_wp2_with fail
  refine (toStrs_own u m uc S _ (HS.out.below ba) hml).mono ?_
  rintro e wb ⟨tb, rfl, jb, hBb, _, _⟩
  have bb := ba.trans (hBb.mono ba.size)
  go_wp2_with fail
  refine (specKeysOf_any (some ⟨ga, 0, none⟩) len len K L M (some ⟨tb, 0, none⟩) m m S _ (ja.below hBb) jb hms).mono ?_
  rintro e wc ⟨vc, R, rfl, oc, hR, hBc⟩
  have bc := bb.trans (hBc.mono bb.size)
  have HR : Hid (KeysR K L M len S m R) := hR
  have HRS : Hid (R.length ≤ 1000) := hR.small
  obtain ⟨ac, cc, rfl, ic, _⟩ := Ep.ints_of_row oc
  obtain ⟨n, hn⟩ : ∃ n, n = R.length := ⟨_, rfl⟩
  have HN : Hid (n = R.length ∧ n ≤ 1000) := ⟨hn, by rw [hn]; exact HRS.out⟩
  rw [← hn] at ic ⊢
  clear hR hBa hBb hBc ja jb oc hn
  go_wp2_with fail
  refine (Ep.toEpochS_own a len cap K L M _ (HI.out.below bc) hl HL).mono ?_
  rintro e wd ⟨gd, rfl, jd, od, hBd⟩
  have bd := bc.trans (hBd.mono bc.size)
  go_wp2_with fail
  refine (toStrs_own u m uc S _ (HS.out.below bd) hml).mono ?_
  rintro e we ⟨te, rfl, je, hBe, hte, re⟩
  have be := bd.trans (hBe.mono bd.size)
  have HRW : Hid (Rw we te m) := re
  have HTE : Hid (wd.heap.size ≤ te ∧ te < we.heap.size ∧ wc.heap.size ≤ wd.heap.size ∧ w.heap.size ≤ wc.heap.size) := ⟨hte, re.lt, hBd.size, bc.size⟩
  clear re hte
  go_wp2_with fail
  refine (implKeysOf_any (some ⟨gd, 0, none⟩) len len K L M (some ⟨te, 0, none⟩) m m S _ (jd.below hBe) je hms (HP.out.below be)).mono ?_
  rintro e wf ⟨vf, R2, rfl, of, hR2, hBf⟩
  have e2 := hR2.unique HR.out
  rw [e2] at of
  have bf := be.trans (hBf.mono be.size)
  obtain ⟨af, cf, rfl, jf, qf⟩ := Ep.ints_of_row of
  unfold OwnK at of
  rw [← HN.out.1] at jf of ⊢
  have HOF : Hid (wf.ownsRow we.heap.size 2 1 (.slice af n cf) n (R.map (.int .i64 ·))) := of
  have HQF : Hid (∀ b off, af = some ⟨b, off, none⟩ → we.heap.size ≤ b ∧ b < wf.heap.size) := qf
  have Ccf : Below wc.heap.size wc wf := hBd.trans ((hBe.trans (hBf.mono hBe.size)).mono hBd.size)
  have Hdf : Below wd.heap.size wd wf := hBe.trans (hBf.mono hBe.size)
  clear of qf e2 hR2
  go_wp2_with fail
  refine (Ep.eqInt64_same af ac n cf cc (Ep.atI R) _ jf (ic.below Ccf)).mono ?_
  rintro e wg ⟨rfl, hBg⟩
  have bg := bf.trans (hBg.mono bf.size)
  have Hdg : Below wd.heap.size wd wg := Hdf.trans (hBg.mono Hdf.size)
  have Heg : Below we.heap.size we wg := hBf.trans (hBg.mono hBf.size)
  go_wp2_with fail
  refine (Ep.toEpochS_any a len cap K L M _ (HI.out.below bg) hl HL).mono ?_
  rintro e wh ⟨gh, rfl, jh, hBh⟩
  have bh := bg.trans (hBh.mono bg.size)
  have Hdh : Below wd.heap.size wd wh := Hdg.trans (hBh.mono Hdg.size)
  have Heh : Below we.heap.size we wh := Heg.trans (hBh.mono Heg.size)
  go_wp2_with fail
  refine (Ep.eqEpochS_same _ _ _ _ _ K L M _ (jd.below Hdh) jh).mono ?_
  rintro e wi ⟨rfl, hBi⟩
  have bi := bh.trans (hBi.mono bh.size)
  have Hdi : Below wd.heap.size wd wi := Hdh.trans (hBi.mono Hdh.size)
  have Hei : Below we.heap.size we wi := Heh.trans (hBi.mono Heh.size)
  go_wp2_with fail
  refine (toStrs_own u m uc S _ (HS.out.below bi) hml).mono ?_
  rintro e wj ⟨tj, rfl, jj, hBj, _, _⟩
  have bj := bi.trans (hBj.mono bi.size)
  have Hej : Below we.heap.size we wj := Hei.trans (hBj.mono Hei.size)
  go_wp2_with fail
  refine (eqStringS_same _ _ _ _ _ S _ (je.below Hej) jj).mono ?_
  rintro e wk ⟨rfl, hBk⟩
  have bk := bj.trans (hBk.mono bj.size)
  have Hek : Below we.heap.size we wk := Hej.trans (hBk.mono Hej.size)
  have Hdk : Below wd.heap.size wd wk := Hdi.trans ((hBj.trans (hBk.mono hBj.size)).mono Hdi.size)
  have Hfk : Below wf.heap.size wf wk := hBg.trans ((hBh.trans ((hBi.trans ((hBj.trans (hBk.mono hBj.size)).mono hBi.size)).mono hBh.size)).mono hBg.size)
  have Cck : Below wc.heap.size wc wk := hBd.trans (Hdk.mono hBd.size)
  have ok := od.below Hdk
  have jfk := jf.below Hfk
  have ofk : wk.ownsRow we.heap.size 2 1 (.slice af n cf) n (R.map (.int .i64 ·)) := Ep.ownsRow_below HOF.out Hfk
  obtain ⟨xse, xe⟩ := HRW.out.below Hek
  have sck : wc.heap.size ≤ wk.heap.size := Cck.size
  have sek : we.heap.size ≤ wk.heap.size := Hek.size
  clear hBd hBe hBf hBg hBh hBi hBj hBk Hdf Hdg Heg Hdh Heh Hdi Hei Hej Hek Hdk Hfk Ccf jd je jf jh jj od
  go_wp2_with fail
  refine (Ep.markEpochS_any wc.heap.size wd.heap.size gd len L _ ok hl HL).mono ?_
  rintro e wl ⟨kr, rfl, hk0, hk1, hKl⟩
  have hkb : kr + m ≤ 1152921504606846976 := by
    have : len * 1048577 ≤ 1048576 * 1048577 := Nat.mul_le_mul_right _ hl
    omega
  have Ccl0 : Below wc.heap.size wk wl := (hKl.mono (q := fun k => k < wc.heap.size) (fun k hk => .inl hk)).below sck
  have bl := bk.trans (Ccl0.mono bc.size)
  have Ccl := Cck.trans Ccl0
  have jfl := jfk.kept hKl (fun b off e => .inr (by have := HQF.out b off e; have := HTE.out; omega))
  have ofl := OwnK.kept ofk hKl (fun b hb => .inr (by have := HTE.out; omega))
  have xl := Ep.row_at xe (hKl.block te (by have := HTE.out; omega) (.inr HTE.out.1))
  have HK1 : Hid (kr ≤ 1 + len * 1048577) := hk1
  clear hKl jfk ofk xe ok Ccl0 hk1
  go_wp2_with fail
  refine (markStringS_any (some ⟨te, 0, none⟩) m m 0 xse kr _ xl hk0 hkb).mono ?_
  rintro e wm ⟨rfl, _, hGm⟩
  have hrow : ∀ k, (Value.slice (some (⟨te, 0, none⟩ : Addr)) m m).ownBlock = some k → k = te := fun k hk => by
    have hk' : some te = some k := hk
    cases hk'
    rfl
  have bm := bl.grown hGm bl.size (fun k hk => by have := hrow k hk; have := HTE.out; omega)
  have Ccm := Ccl.grown hGm Ccl.size (fun k hk => by have := hrow k hk; have := HTE.out; omega)
  have Km : Kept (fun b => we.heap.size ≤ b) wl wm := Kept.of_grown hGm (fun k hk => by have := hrow k hk; have := HTE.out; omega)
  have jfm := jfl.kept Km (fun b off e => (HQF.out b off e).1)
  have ofm := OwnK.kept ofl Km (fun b hb => hb)
  have hkn : decide (((kr + m : Nat) : Int) < 0) = false := by simp; omega
  clear hGm hrow Km jfl ofl xl
  go_wp2_with fail
  refine (Ep.eqInt64_same af ac n cf cc (Ep.atI R) _ jfm (ic.below Ccm)).mono ?_
  rintro e wn ⟨rfl, hBn⟩
  have bn := bm.trans (hBn.mono bm.size)
  have Ccn := Ccm.trans (hBn.mono Ccm.size)
  have ofn : wn.ownsRow we.heap.size 2 1 (.slice af n cf) n (R.map (.int .i64 ·)) := Ep.ownsRow_below ofm hBn
  clear hkn jfm ofm hBn
  go_wp2_with fail
  refine (Ep.markInt64S_any af n cf we.heap.size (R.map (.int .i64 ·)) 1 _ ofn (by have := HN.out.2; omega)).mono ?_
  rintro e wo ⟨rfl, oo, hGo⟩
  have hrow : ∀ k, (Value.slice af n cf).ownBlock = some k → we.heap.size ≤ k := fun k hk => (ofn.lt k hk).1
  have bo := bn.grown hGo bn.size (fun k hk => by have := hrow k hk; have := be.size; omega)
  have Cco := Ccn.grown hGo Ccn.size (fun k hk => by have := hrow k hk; have := HTE.out; omega)
  have io : Ep.IsI64 wo af n cf (fun i => ((1 + i : Nat) : Int)) := by
    obtain ⟨a', cap', e', hI, _⟩ := Ep.ints_of_own (Z := fun i => ((1 + i : Nat) : Int)) oo (fun i hi => Ep.imarksK_at hi)
    simp only [Value.slice.injEq, true_and] at e'
    obtain ⟨rfl, rfl⟩ := e'
    exact hI
  clear ofn hGo hrow oo
  have hq1 : decide (((1 + n : Nat) : Int) < 0) = false := by simp; omega
  have hq2 : ((((1 + n : Nat) : Int)) != ((1 + n : Nat) : Int)) = false := by simp
  go_wp2_with fail
  refine (Ep.heldInt64S_any af n cf _ io (by have := HN.out.2; omega)).mono ?_
  rintro e wp ⟨rfl, hBp⟩
  have bp := bo.trans (hBp.mono bo.size)
  have Ccp := Cco.trans (hBp.mono Cco.size)
  go_wp2_with fail
  refine (Ep.toEpochS_any a len cap K L M _ (HI.out.below bp) hl HL).mono ?_
  rintro e wq ⟨gq, rfl, jq, hBq⟩
  have bq := bp.trans (hBq.mono bp.size)
  have Ccq := Ccp.trans (hBq.mono Ccp.size)
  go_wp2_with fail
  refine (toStrs_own u m uc S _ (HS.out.below bq) hml).mono ?_
  rintro e wr ⟨tr, rfl, jr, hBr, _, _⟩
  have br := bq.trans (hBr.mono bq.size)
  have Ccr := Ccq.trans (hBr.mono Ccq.size)
  go_wp2_with fail
  refine (implKeysOf_any (some ⟨gq, 0, none⟩) len len K L M (some ⟨tr, 0, none⟩) m m S _ (jq.below hBr) jr hms (HP.out.below br)).mono ?_
  rintro e ws ⟨vs, R3, rfl, os, hR3, hBs⟩
  have e3 := hR3.unique HR.out
  rw [e3] at os
  have bs := br.trans (hBs.mono br.size)
  have Ccs := Ccr.trans (hBs.mono Ccr.size)
  obtain ⟨as1, cs, rfl, js, _⟩ := Ep.ints_of_row os
  rw [← HN.out.1] at js ⊢
  have Hos : Below wo.heap.size wo ws := hBp.trans ((hBq.trans ((hBr.trans (hBs.mono hBr.size)).mono hBq.size)).mono hBp.size)
  clear hR3 e3 os hBp hBq hBr hBs
  go_wp2_with fail
  refine (Ep.eqInt64_same as1 ac n cs cc (Ep.atI R) _ js (ic.below Ccs)).mono ?_
  rintro e wt ⟨rfl, hBt⟩
  have bt := bs.trans (hBt.mono bs.size)
  go_wp2_with fail
  refine (Ep.heldInt64S_any af n cf _ (io.below (Hos.trans (hBt.mono Hos.size))) (by have := HN.out.2; omega)).mono ?_
  rintro e wu ⟨rfl, hBu⟩
  have bu := bt.trans (hBu.mono bt.size)
  go_wp2
  go_ret
  exact ⟨rfl, bu⟩
end Go.Proofs.YtpcbhjejpebogaaDoor
