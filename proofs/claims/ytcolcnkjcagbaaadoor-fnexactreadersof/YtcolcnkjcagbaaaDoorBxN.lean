/-
  ReadersOf's arguments copied, marked and held: slices of numbers and of epochs that can be written. No condition but that the slices read.
-/
import Derived.Test.YtcolcnkjcagbaaaDoorBxU
import Derived.Laws.MakeOwn
import Derived.Laws.CopyOwn
import Derived.Laws.Cells
namespace Go.Proofs.YtcolcnkjcagbaaaDoor
open Go.RowKit
set_option linter.unusedVariables false

/-- nothing outside has turned, and no old block that p names -/
structure Kept (p : Nat → Prop) (w w' : World) : Prop where
  os : w'.os = w.os
  tape : w'.tape = w.tape
  output : w'.output = w.output
  size : w.heap.size ≤ w'.heap.size
  block : ∀ k, k < w.heap.size → p k → w'.heap[k]? = w.heap[k]?

theorem Kept.refl (p : Nat → Prop) (w : World) : Kept p w w := ⟨rfl, rfl, rfl, Nat.le_refl _, fun _ _ _ => rfl⟩

theorem Kept.trans {p : Nat → Prop} {a b c : World} (h : Kept p a b) (k : Kept p b c) : Kept p a c :=
  ⟨k.os.trans h.os, k.tape.trans h.tape, k.output.trans h.output, Nat.le_trans h.size k.size, fun i hi hp => (k.block i (by have := h.size; omega) hp).trans (h.block i hi hp)⟩

theorem Kept.of_below {p : Nat → Prop} {w w' : World} (h : Below w.heap.size w w') : Kept p w w' := ⟨h.os, h.tape, h.output, h.size, fun k hk _ => h.block k hk⟩

theorem Kept.of_grown {p : Nat → Prop} {w w' : World} {row : Option Nat} (h : w.grownBy w' row) (hr : ∀ k, row = some k → ¬ p k) : Kept p w w' :=
  ⟨h.os, h.tape, h.output, h.size, fun k hk hp => h.block k hk (fun e => hr k e.symm hp)⟩

theorem Kept.mono {p q : Nat → Prop} {w w' : World} (h : Kept p w w') (hq : ∀ k, q k → p k) : Kept q w w' := ⟨h.os, h.tape, h.output, h.size, fun k hk hp => h.block k hk (hq k hp)⟩

theorem Kept.below {B : Nat} {w w' : World} (h : Kept (fun k => k < B) w w') (hB : B ≤ w.heap.size) : Below B w w' := ⟨h.os, h.tape, h.output, h.size, fun k hk => h.block k (by omega) hk⟩
theorem mono_base {w : World} {base base' : Nat} {e : TypeId} {size : Nat} {v : Value} {n : Nat} {xs : List Value} (h : w.ownsRow base e size v n xs) (hb : base' ≤ base) : w.ownsRow base' e size v n xs := by
  obtain ⟨h1, h2⟩ := h
  refine ⟨h1, ?_⟩
  rcases h2 with h2 | ⟨g, cap, cur, hv, hg, r⟩
  · exact Or.inl h2
  · exact Or.inr ⟨g, cap, cur, hv, Nat.le_trans hb hg, r⟩
end Go.Proofs.YtcolcnkjcagbaaaDoor
namespace Go.Proofs.YtcolcnkjcagbaaaDoor.Ep
open Go.RowKit
set_option linter.unusedVariables false

set_option maxHeartbeats 400000 in
theorem toInt64S_own (a : Option Addr) (len cap : Nat) (Z : Nat → Int) (w : World) (h : IsI64 w a len cap Z) (hlen : len ≤ 1048576) :
    Calls Tryd.prog 40 #[.slice a len cap] w fun e w' => e = .returned (.slice (some ⟨w.heap.size, 0, none⟩) len len) ∧ w.heap.size < w'.heap.size ∧ IsI64 w' (some ⟨w.heap.size, 0, none⟩) len len Z ∧ w'.ownsRow w.heap.size 2 1 (.slice (some ⟨w.heap.size, 0, none⟩) len len) len (copyTo Z len len) ∧ Below w.heap.size w w' := by
  obtain ⟨hlc, hcm, hc⟩ := h
  obtain ⟨i0, hi, hz0, hz1, hz2⟩ := info_parts info2
  have hb2 : i0.bytes * len ≤ 281474976710656 := by rw [hz2]; omega
  have hb3 : len ≤ maxLen := by unfold maxLen; omega
  go_enter Tryd.func40, Tryd.ntmps40
  go_wp2_with (at_make; refine wpList_make_full _ rfl _ _ 38 rfl w.heap.size 2 i0 (.int .i64 0) 1 Tryd.underlying38 hi hz0 hz1 .i64 .i64 _ _ len rfl rfl rfl rfl hb2 hb3 (Nat.le_refl _) ?_; intro w1 hown hgrow)
  have hB1 : Below w.heap.size w w1 := (Below.refl _ w).grown hgrow (Nat.le_refl _) (fun k hk => by cases hk)
  rw [made_ints Z len] at hown
  clear hgrow
  go_loopw [4] (fun i wr => ∃ k : Nat, k ≤ len ∧ i = .int .i64 k ∧ wr.ownsRow w.heap.size 2 1 (.slice (some ⟨w.heap.size, 0, none⟩) len len) len (copyTo Z len k) ∧ Below w.heap.size w wr)
    (fun i _ => len - (intOf i).toNat)
  case atStart => exact ⟨0, Nat.zero_le _, rfl, hown, hB1⟩
  case round =>
    obtain ⟨k, hk, rfl, how, hB⟩ := hrel
    by_cases hlt : k < len
    · obtain ⟨b, off, rfl, hbs, hcell⟩ := hc (by omega)
      have hck : wr.cell? ⟨b, off + k, none⟩ = some (.int .i64 (Z k)) := (hB.cell (p := ⟨b, off + k, none⟩) hbs).trans (hcell k hlt)
      have hfz := how.frozenAt k
      have hcl : ∃ v, wr.cell? ⟨w.heap.size, k, none⟩ = some v := by
        rw [how.cellAt k (by omega)]
        simp [copyTo, hlt]
      obtain ⟨v0, hcl⟩ := hcl
      have hst := (how.stored k (.int .i64 (Z k))).1
      rw [copyTo_set Z len k hlt] at hst
      have hB' : Below w.heap.size w (wr.setCell ⟨w.heap.size, k, none⟩ (.int .i64 (Z k))) := hB.setCell (p := ⟨w.heap.size, k, none⟩) (Nat.le_refl _) _
      clear how hown hB hB1
      go_wp2
      go_roundw
      case rel => exact ⟨k + 1, by omega, by go_num, hst, hB'⟩
      case measure => simp [intOf]; omega
    · have hke : k = len := by omega
      subst hke
      have hlive : w.heap.size < wr.heap.size := by
        rcases how.2 with ⟨h', _⟩ | ⟨g', cap', cur, h', _, hg, _⟩
        · simp at h'
        · simp only [Value.slice.injEq, Option.some.injEq, Addr.mk.injEq, and_true, true_and] at h'
          obtain ⟨rfl, rfl⟩ := h'
          exact lt_of_block hg
      have hfin : IsI64 wr (some ⟨w.heap.size, 0, none⟩) k k Z := by
        refine ⟨Nat.le_refl _, by omega, fun _ => ⟨w.heap.size, 0, rfl, hlive, fun i hi => ?_⟩⟩
        rw [Nat.zero_add, how.cellAt i (by omega), copyTo_all Z k i hi]
      have HO : Hid (wr.ownsRow w.heap.size 2 1 (.slice (some ⟨w.heap.size, 0, none⟩) k k) k (copyTo Z k k)) := how
      clear how hown hB1
      go_wp2
      go_ret
      exact ⟨rfl, hlive, hfin, HO.out, hB⟩

theorem row_at {w w' : World} {base g cap size n : Nat} {e : TypeId} {xs : List Value} (h : w.ownsRow base e size (.slice (some ⟨g, 0, none⟩) n cap) n xs) (he : w'.heap[g]? = w.heap[g]?) : w'.ownsRow base e size (.slice (some ⟨g, 0, none⟩) n cap) n xs := by
  refine ⟨h.1, ?_⟩
  rcases h.2 with ⟨h', _⟩ | ⟨g', cap', cur, e', hb, hg, r⟩
  · cases h'
  · have e2 := e'
    simp only [Value.slice.injEq, Option.some.injEq, Addr.mk.injEq, and_true, true_and] at e2
    obtain ⟨rfl, rfl⟩ := e2
    exact .inr ⟨_, _, cur, rfl, hb, he.trans hg, r⟩
theorem row_lt {w : World} {base g cap size n : Nat} {e : TypeId} {xs : List Value} (h : w.ownsRow base e size (.slice (some ⟨g, 0, none⟩) n cap) n xs) : base ≤ g ∧ g < w.heap.size := h.lt g rfl

set_option maxHeartbeats 400000 in
theorem toEpoch_own (K : Int) (a : Option Addr) (len cap : Nat) (Z : Nat → Int) (w : World) (h : IsI64 w a len cap Z) (hlen : len ≤ 1048576) :
    Calls Tryd.prog 30 #[.agg #[.int .i64 K, .slice a len cap]] w fun e w' => ∃ g, e = .returned (.agg #[.int .i64 K, .slice (some ⟨g, 0, none⟩) len len]) ∧ w.heap.size < g ∧ g < w'.heap.size ∧ IsI64 w' (some ⟨g, 0, none⟩) len len Z ∧ w'.ownsRow w.heap.size 2 1 (.slice (some ⟨g, 0, none⟩) len len) len (copyTo Z len len) ∧ Below w.heap.size w w' := by
  go_enter Tryd.func30, Tryd.ntmps30
  go_wp2_with fail
  have hB3 : Below w.heap.size w (((w.alloc (Obj.cells #[Value.int IntKind.i64 K, Value.slice a len cap] 54)).alloc (Obj.cells #[Value.int IntKind.i64 0, Value.slice none 0 0] 58)).alloc (Obj.cells #[Value.int IntKind.i64 K, Value.slice none 0 0] 58)) :=
    (((Below.refl _ _).alloc (Nat.le_refl _) _).alloc (by simp) _).alloc (by simp; omega) _
  refine (toInt64S_own a len cap Z _ (h.below hB3) hlen).mono ?_
  rintro e w1 ⟨rfl, hlt, hI, hO, hB⟩
  have HO : Hid (w1.ownsRow w.heap.size 2 1 (.slice (some ⟨w.heap.size + 1 + 1 + 1, 0, none⟩) len len) len (copyTo Z len len)) := by
    simp only [World.size_alloc] at hO
    exact mono_base hO (by omega)
  clear hO
  obtain ⟨hc, hf⟩ := bcell hB
  have hz : w.heap.size + 3 < w1.heap.size := by simpa using hlt
  have hBB : Below w.heap.size w w1 := hB3.trans (hB.mono (by simp; omega))
  simp only [World.size_alloc] at hI hc hf
  clear hB hB3 hlt
  go_wp2
  refine bodyPost_ret (v := .agg #[.int .i64 K, .slice (some ⟨w.heap.size + 1 + 1 + 1, 0, none⟩) len len]) (by simp [results, Tryd.results30, go_sem, hc]) rfl ⟨w.heap.size + 1 + 1 + 1, rfl, by omega, by simp [World.setCell]; omega, ?_, ?_, ?_⟩
  · exact ((hI.other _ (by simp) _).other _ (by simp) _).other _ (by simp) _
  · refine row_at HO.out ((Below.heap_setCell _ _ _ _ ?_).trans ((Below.heap_setCell _ _ _ _ ?_).trans (Below.heap_setCell _ _ _ _ ?_))) <;> (dsimp only; omega)
  · exact ((hBB.setCell (by simp; omega) _).setCell (by simp) _).setCell (by simp) _

/-- epochs in blocks of their own, which can be written -/
def OwnEp (w : World) (base top g len : Nat) (L : Nat → Nat) : Prop :=
  ∃ (xs : List Value) (G : Nat → Nat), w.ownsRow base 58 2 (.slice (some ⟨g, 0, none⟩) len len) len xs ∧ g < top ∧
    ∀ j, j < len → (∃ z : Int, xs[j * 2]? = some (.int .i64 z)) ∧ xs[j * 2 + 1]? = some (.slice (some ⟨G j, 0, none⟩) (L j) (L j)) ∧ G j ≠ g ∧ G j < top ∧ (∃ zs, w.ownsRow base 2 1 (.slice (some ⟨G j, 0, none⟩) (L j) (L j)) (L j) zs) ∧ ∀ i, i < len → i ≠ j → G i ≠ G j
theorem OwnEp.below {w w' : World} {base top g len : Nat} {L : Nat → Nat} (h : OwnEp w base top g len L) (hB : Below w.heap.size w w') : OwnEp w' base top g len L := by
  obtain ⟨xs, G, h1, h0, h2⟩ := h
  refine ⟨xs, G, ownsRow_below h1 hB, h0, fun j hj => ?_⟩
  obtain ⟨p1, p2, p3, p6, ⟨zs, p4⟩, p5⟩ := h2 j hj
  exact ⟨p1, p2, p3, p6, ⟨zs, ownsRow_below p4 hB⟩, p5⟩

set_option maxHeartbeats 400000 in
theorem toEpochS_own (a : Option Addr) (len cap : Nat) (K : Nat → Int) (L : Nat → Nat) (M : Nat → Nat → Int) (w : World) (h : IsEps w a len cap K L M) (hl : len ≤ 1048576) (hL : Hid (∀ i, i < len → L i ≤ 1048576)) :
    Calls Tryd.prog 12 #[.slice a len cap] w fun e w' => ∃ g, e = .returned (.slice (some ⟨g, 0, none⟩) len len) ∧ IsEps w' (some ⟨g, 0, none⟩) len len K L M ∧ OwnEp w' w.heap.size w'.heap.size g len L ∧ Below w.heap.size w w' := by
  obtain ⟨hlc, hcm, hc⟩ := h
  obtain ⟨i0, hi, hz0, hz1, hz2⟩ := info_parts info35
  have hb2 : i0.bytes * len ≤ 281474976710656 := by rw [hz2]; omega
  have hb3 : len ≤ maxLen := by unfold maxLen; omega
  go_enter Tryd.func12, Tryd.ntmps12
  go_wp2_with (at_make; refine wpList_make_full _ rfl _ _ 33 rfl w.heap.size 58 i0 (.agg #[.int .i64 0, .slice none 0 0]) 2 Tryd.underlying33 hi hz0 hz1 .i64 .i64 _ _ len rfl rfl rfl rfl hb2 hb3 (Nat.le_refl _) ?_; intro w1 hown hgrow)
  have hB1 : Below w.heap.size w w1 := (Below.refl _ w).grown hgrow (Nat.le_refl _) (fun k hk => by cases hk)
  clear hgrow
  go_loopw [4] (fun i wr => ∃ (k : Nat) (xs : List Value) (G : Nat → Nat), k ≤ len ∧ i = .int .i64 k ∧ wr.ownsRow w.heap.size 58 2 (.slice (some ⟨w.heap.size, 0, none⟩) len len) len xs ∧
      (∀ j, j < k → xs[j * 2]? = some (.int .i64 (K j)) ∧ G j ≠ w.heap.size ∧ G j < wr.heap.size ∧ xs[j * 2 + 1]? = some (.slice (some ⟨G j, 0, none⟩) (L j) (L j)) ∧ IsI64 wr (some ⟨G j, 0, none⟩) (L j) (L j) (M j) ∧ wr.ownsRow w.heap.size 2 1 (.slice (some ⟨G j, 0, none⟩) (L j) (L j)) (L j) (copyTo (M j) (L j) (L j)) ∧ ∀ i, i < j → G i < G j) ∧ Below w.heap.size w wr)
    (fun i _ => len - (intOf i).toNat)
  case atStart => exact ⟨0, _, fun _ => 0, Nat.zero_le _, rfl, hown, fun j hj => absurd hj (Nat.not_lt_zero _), hB1⟩
  case round =>
    obtain ⟨k, xs, G, hk, rfl, how, hall, hB⟩ := hrel
    have HA := (show Hid _ from hall)
    clear hall
    by_cases hlt : k < len
    · obtain ⟨b, off, A, C, rfl, hbs, hcell⟩ := hc (by omega)
      obtain ⟨c1, c2, c3⟩ := hcell k hlt
      have d1 := (hB.cell (p := ⟨b, off + k * 2, none⟩) hbs).trans c1
      have d2 := (hB.cell (p := ⟨b, off + k * 2 + 1, none⟩) hbs).trans c2
      have c3' := c3.below (hB.mono (Nat.le_refl _))
      clear hcell hc c1 c2 c3
      have hws : w.heap.size < wr.heap.size := by
        rcases how.2 with ⟨h', _⟩ | ⟨g', cap', cur, h', _, hg, _⟩
        · simp at h'
        · simp only [Value.slice.injEq, Option.some.injEq, Addr.mk.injEq, and_true, true_and] at h'
          obtain ⟨rfl, rfl⟩ := h'
          exact lt_of_block hg
      have hxl : xs.length = len * 2 := how.1
      have HO := (show Hid _ from how)
      clear how hown
      go_wp2_with (go_at_call 30; refine (toEpoch_own _ _ _ _ _ _ c3' (hL.out k hlt)).mono ?_; rintro e w' ⟨g, rfl, hgw, hgs, hI, hOg, hB2⟩; have HOG : Hid (w'.ownsRow wr.heap.size 2 1 (.slice (some ⟨g, 0, none⟩) (L k) (L k)) (L k) (copyTo (M k) (L k) (L k))) := hOg; clear hOg; have f1 := (ownsRow_below HO.out hB2).frozenAt (k * 2); have f2 := (ownsRow_below HO.out hB2).frozenAt (k * 2 + 1); obtain ⟨v1, e1⟩ := own_some (ownsRow_below HO.out hB2) (k * 2) (by omega); obtain ⟨v2, e2⟩ := own_some (ownsRow_below HO.out hB2) (k * 2 + 1) (by omega))
      go_roundw
      case rel =>
        refine ⟨k + 1, (xs.set (k * 2) (.int .i64 (K k))).set (k * 2 + 1) (.slice (some ⟨g, 0, none⟩) (L k) (L k)), fun j => if j = k then g else G j, by omega, by go_num, ?_, ?_, ?_⟩
        · exact ((ownsRow_below HO.out hB2).stored _ _).1.stored _ _ |>.1
        · intro j hj
          rcases Nat.lt_succ_iff_lt_or_eq.1 hj with h1 | rfl
          · obtain ⟨q1, hg', hs', q2, q3, q4, q5⟩ := HA.out j h1
            dsimp only
            rw [if_neg (show ¬ j = k by omega)]
            refine ⟨?_, hg', ?_, ?_, ?_, ?_, ?_⟩
            · rw [List.getElem?_set_ne (by omega), List.getElem?_set_ne (by omega)]; exact q1
            · have := hB2.size; simp [World.setCell]; omega
            · rw [List.getElem?_set_ne (by omega), List.getElem?_set_ne (by omega)]; exact q2
            · exact ((q3.below hB2).other _ (fun h => hg' h.symm) _).other _ (fun h => hg' h.symm) _
            · refine row_at (ownsRow_below q4 hB2) ?_
              rw [Below.heap_setCell _ _ _ _ hg', Below.heap_setCell _ _ _ _ hg']
            · intro i hi
              rw [if_neg (show ¬ i = k by omega)]
              exact q5 i hi
          · dsimp only
            rw [if_pos rfl]
            refine ⟨?_, by omega, ?_, ?_, ?_, ?_, ?_⟩
            · rw [List.getElem?_set_ne (by omega), List.getElem?_set_self (by omega)]
            · simp [World.setCell]; omega
            · rw [List.getElem?_set_self (by simp; omega)]
            · exact (hI.other _ (by simp; omega) _).other _ (by simp; omega) _
            · refine row_at (mono_base HOG.out (by omega)) ?_
              rw [Below.heap_setCell _ _ _ _ (by simp; omega), Below.heap_setCell _ _ _ _ (by simp; omega)]
            · intro i hi
              rw [if_neg (show ¬ i = j by omega)]
              have := (HA.out i hi).2.2.1
              omega
        · exact ((hB.trans (hB2.mono hB.size)).setCell (Nat.le_refl _) _).setCell (Nat.le_refl _) _
      case measure => simp [intOf]; omega
    · have hke : k = len := by omega
      subst hke
      have hfin : IsEps wr (some ⟨w.heap.size, 0, none⟩) k k K L M := by
        refine ⟨Nat.le_refl _, by omega, fun hp => ?_⟩
        have hws : w.heap.size < wr.heap.size := by
          rcases how.2 with ⟨h', _⟩ | ⟨g', cap', cur, h', _, hg, _⟩
          · simp at h'
          · simp only [Value.slice.injEq, Option.some.injEq, Addr.mk.injEq, and_true, true_and] at h'
            obtain ⟨rfl, rfl⟩ := h'
            exact lt_of_block hg
        refine ⟨w.heap.size, 0, fun j => some ⟨G j, 0, none⟩, fun j => L j, rfl, hws, fun j hj => ⟨?_, ?_, (HA.out j hj).2.2.2.2.1⟩⟩
        · rw [Nat.zero_add, how.cellAt _ (by omega)]; exact (HA.out j hj).1
        · rw [Nat.zero_add, how.cellAt _ (by omega)]; exact (HA.out j hj).2.2.2.1
      have hown2 : OwnEp wr w.heap.size wr.heap.size w.heap.size k L := by
        refine ⟨xs, G, how, (row_lt how).2, fun j hj => ?_⟩
        obtain ⟨q1, q2, q3, q4, q5, q6, q7⟩ := HA.out j hj
        refine ⟨⟨_, q1⟩, q4, q2, q3, ⟨_, q6⟩, fun i hi hne => ?_⟩
        rcases Nat.lt_or_gt_of_ne hne with h1 | h1
        · have := q7 i h1; omega
        · have := (HA.out i hi).2.2.2.2.2.2 j h1; omega
      have HO2 : Hid (OwnEp wr w.heap.size wr.heap.size w.heap.size k L) := hown2
      clear hown2
      clear how hown hB1 HA
      go_wp2
      go_ret
      exact ⟨_, rfl, hfin, HO2.out, hB⟩


def imarksK (k0 n : Nat) : List Value := (List.range n).map fun i => .int .i64 ((k0 + i : Nat) : Int)
theorem imarksK_at {k0 n i : Nat} (h : i < n) : (imarksK k0 n)[i]? = some (.int .i64 ((k0 + i : Nat) : Int)) := by unfold imarksK; simp [h]
theorem imarksK_of {k0 n : Nat} {xs : List Value} (hl : xs.length = n) (h : ∀ i, i < n → xs[i]? = some (.int .i64 ((k0 + i : Nat) : Int))) : xs = imarksK k0 n := by
  apply List.ext_getElem?
  intro i
  by_cases hi : i < n
  · rw [h i hi, imarksK_at hi]
  · rw [List.getElem?_eq_none (by omega), List.getElem?_eq_none (by unfold imarksK; simp; omega)]

set_option maxHeartbeats 1000000 in
theorem markInt64S_any (a : Option Addr) (len cap base : Nat) (xs0 : List Value) (k0 : Nat) (w : World) (h : w.ownsRow base 2 1 (.slice a len cap) len xs0) (hb : k0 + len ≤ 1152921504606846976) :
    Calls Tryd.prog 20 #[.slice a len cap, .int .i64 k0] w fun e w' => e = .returned (.int .i64 ((k0 + len : Nat) : Int)) ∧ w'.ownsRow base 2 1 (.slice a len cap) len (imarksK k0 len) ∧ w.grownBy w' (Value.slice a len cap).ownBlock := by
  go_enter Tryd.func20, Tryd.ntmps20
  go_wp2
  go_loopw [1, 5] (fun x i wr => ∃ (j : Nat) (xs : List Value), j ≤ len ∧ i = .int .i64 j ∧ x = .int .i64 ((k0 + j : Nat) : Int) ∧ wr.ownsRow base 2 1 (.slice a len cap) len xs ∧ Hid (∀ t, t < j → xs[t]? = some (.int .i64 ((k0 + t : Nat) : Int))) ∧ w.grownBy wr (Value.slice a len cap).ownBlock)
    (fun _ i _ => len - (intOf i).toNat)
  case atStart => exact ⟨0, xs0, Nat.zero_le _, rfl, rfl, h, fun t ht => absurd ht (Nat.not_lt_zero _), World.grownBy.refl _ _⟩
  case round =>
    obtain ⟨j, xs, hj, rfl, rfl, how, HA, hG⟩ := hrel
    by_cases hlt : j < len
    · obtain ⟨g, rfl⟩ : ∃ g, a = some ⟨g, 0, none⟩ := by
        rcases how.2 with ⟨h', h0⟩ | ⟨g, cap', cur, h', _⟩
        · omega
        · simp only [Value.slice.injEq] at h'
          exact ⟨g, h'.1⟩
      have hltI : (j : Int) < (len : Int) := by omega
      have hxl : xs.length = len * 1 := how.1
      have f1 := how.frozenAt j
      obtain ⟨v1, e1⟩ := own_some how j (by omega)
      have HO : Hid (_) := how
      have HG : Hid (_) := hG
      clear how hG h
      go_wp2
      go_roundw
      case rel =>
        refine ⟨j + 1, xs.set j (.int .i64 ((k0 + j : Nat) : Int)), by omega, by go_num, by go_num, (World.ownsRow.stored HO.out _ _).1, ?_, HG.out.trans (World.ownsRow.stored HO.out _ _).2⟩
        intro t ht
        rcases Nat.lt_succ_iff_lt_or_eq.1 ht with h1 | rfl
        · rw [List.getElem?_set_ne (by omega)]
          exact HA.out t h1
        · rw [List.getElem?_set_self (by omega)]
      case measure => simp [intOf]; omega
    · have hje : j = len := by omega
      subst hje
      have hm : xs = imarksK k0 j := imarksK_of (by have := how.1; omega) HA.out
      have HO : Hid (wr.ownsRow base 2 1 (.slice a j cap) j (imarksK k0 j)) := by rw [← hm]; exact how
      clear how hm
      go_wp2
      go_ret
      exact ⟨rfl, HO.out, hG⟩

set_option maxHeartbeats 1000000 in
theorem heldInt64S_any (a : Option Addr) (len cap : Nat) (w : World) (h : IsI64 w a len cap (fun i => ((1 + i : Nat) : Int))) (hb : len ≤ 1000000) :
    Calls Tryd.prog 21 #[.slice a len cap, .int .i64 1] w fun e w' => e = .returned (.int .i64 ((1 + len : Nat) : Int)) ∧ Below w.heap.size w w' := by
  obtain ⟨hlc, hcm, hc⟩ := h
  go_enter Tryd.func21, Tryd.ntmps21
  go_wp2
  go_loopw [1, 5] (fun x i wr => ∃ (j : Nat), j ≤ len ∧ i = .int .i64 j ∧ x = .int .i64 ((1 + j : Nat) : Int) ∧ Below w.heap.size w wr)
    (fun _ i _ => len - (intOf i).toNat)
  case atStart => exact ⟨0, Nat.zero_le _, rfl, rfl, Below.refl _ _⟩
  case round =>
    obtain ⟨j, hj, rfl, rfl, hB⟩ := hrel
    by_cases hlt : j < len
    · obtain ⟨b, off, rfl, hbs, hcell⟩ := hc (by omega)
      have hltI : (j : Int) < (len : Int) := by omega
      have d1 := (hB.cell (p := ⟨b, off + j, none⟩) hbs).trans (hcell j hlt)
      have hss : ((((1 + j : Nat) : Int)) != ((1 + j : Nat) : Int)) = false := by simp
      clear hcell hc
      go_wp2
      go_roundw
      case rel => exact ⟨j + 1, by omega, by go_num, by go_num, hB⟩
      case measure => simp [intOf]; omega
    · have hje : j = len := by omega
      subst hje
      go_wp2
      go_ret
      exact ⟨rfl, hB⟩

set_option maxHeartbeats 1000000 in
theorem eqInt64_same (a a' : Option Addr) (len cap cap' : Nat) (Z : Nat → Int) (w : World) (h : IsI64 w a len cap Z) (h' : IsI64 w a' len cap' Z) :
    Calls Tryd.prog 18 #[.slice a len cap, .slice a' len cap'] w fun e w' => e = .returned (.bool true) ∧ Below w.heap.size w w' := by
  obtain ⟨hlc, hcm, hc⟩ := h
  obtain ⟨hlc', hcm', hc'⟩ := h'
  have hbn : ((len : Int) != (len : Int)) = false := by simp
  go_enter Tryd.func18, Tryd.ntmps18
  go_wp2
  go_loopw [5] (fun i wr => ∃ (k : Nat), k ≤ len ∧ i = .int .i64 k ∧ Below w.heap.size w wr)
    (fun i _ => len - (intOf i).toNat)
  case atStart => exact ⟨0, Nat.zero_le _, rfl, Below.refl _ _⟩
  case round =>
    obtain ⟨k, hk, rfl, hB⟩ := hrel
    by_cases hlt : k < len
    · obtain ⟨b, off, rfl, hbs, hcell⟩ := hc (by omega)
      obtain ⟨b', off', rfl, hbs', hcell'⟩ := hc' (by omega)
      have d1 := (hB.cell (p := ⟨b, off + k, none⟩) hbs).trans (hcell k hlt)
      have d1' := (hB.cell (p := ⟨b', off' + k, none⟩) hbs').trans (hcell' k hlt)
      have hss : ((Z k) != (Z k)) = false := by simp
      clear hcell hc hcell' hc'
      go_wp2
      go_quiet (fail)
      go_wp2
      go_roundw
      case rel => exact ⟨k + 1, by omega, by go_num, hB.trans ⟨rfl, rfl, rfl, Nat.le_refl _, fun _ _ => rfl⟩⟩
      case measure => simp [intOf]; omega
    · have hke : k = len := by omega
      subst hke
      go_wp2
      go_ret
      exact ⟨rfl, hB⟩

theorem ints_of_own {w : World} {base : Nat} {v : Value} {n : Nat} {xs : List Value} {Z : Nat → Int} (h : w.ownsRow base 2 1 v n xs) (hx : ∀ i, i < n → xs[i]? = some (.int .i64 (Z i))) :
    ∃ a cap, v = .slice a n cap ∧ IsI64 w a n cap Z ∧ ∀ b off, a = some ⟨b, off, none⟩ → base ≤ b ∧ b < w.heap.size := by
  have hlt := h.lt
  rcases h.2 with ⟨rfl, rfl⟩ | ⟨g, cap, cur, rfl, hb, hg, hnc, hcm, hcs, htake⟩
  · exact ⟨none, 0, rfl, ⟨Nat.le_refl _, by omega, fun h => absurd h (Nat.lt_irrefl _)⟩, fun b off e => by cases e⟩
  · refine ⟨_, cap, rfl, ⟨hnc, by unfold maxLen at hcm; omega, fun hp => ⟨g, 0, rfl, (Array.getElem?_eq_some_iff.1 hg).1, fun i hi => ?_⟩⟩, fun b off e => ?_⟩
    · have := h.cells (g := g) rfl i _ (hx i hi)
      have hadd : (⟨g, 0, none⟩ : Addr).add i = ⟨g, i, none⟩ := by unfold Addr.add; split <;> simp_all
      rw [hadd] at this
      rw [Nat.zero_add]
      exact this
    · simp only [Option.some.injEq, Addr.mk.injEq, and_true] at e
      obtain ⟨rfl, rfl⟩ := e
      exact hlt g rfl

theorem IsI64.kept {p : Nat → Prop} {w w' : World} {a : Option Addr} {len cap : Nat} {Z : Nat → Int} (h : IsI64 w a len cap Z) (hK : Kept p w w') (hp : ∀ b off, a = some ⟨b, off, none⟩ → p b) : IsI64 w' a len cap Z := by
  obtain ⟨h1, h2, h3⟩ := h
  refine ⟨h1, h2, fun h0 => ?_⟩
  obtain ⟨b, off, e, hb, hc⟩ := h3 h0
  refine ⟨b, off, e, by have := hK.size; omega, fun i hi => ?_⟩
  have := hc i hi
  unfold World.cell? at this ⊢
  rw [hK.block b hb (hp b off e)]
  exact this

set_option maxHeartbeats 4000000 in
theorem markEpochS_any (base top g len : Nat) (L : Nat → Nat) (w : World) (h : OwnEp w base top g len L) (hl : len ≤ 1048576) (hL : Hid (∀ i, i < len → L i ≤ 1048576)) :
    Calls Tryd.prog 19 #[.slice (some ⟨g, 0, none⟩) len len, .int .i64 1] w fun e w' => ∃ r : Nat, e = .returned (.int .i64 (r : Int)) ∧ 0 < r ∧ r ≤ 1 + len * 1048577 ∧ Kept (fun b => b < base ∨ top ≤ b) w w' := by
  go_enter Tryd.func19, Tryd.ntmps19
  go_wp2
  go_loopw [1, 5] (fun x i wr => ∃ (j r : Nat), j ≤ len ∧ i = .int .i64 j ∧ x = .int .i64 (r : Int) ∧ 0 < r ∧ Hid (r ≤ 1 + j * 1048577 ∧ OwnEp wr base top g len L ∧ Kept (fun b => b < base ∨ top ≤ b) w wr))
    (fun _ i _ => len - (intOf i).toNat)
  case atStart => exact ⟨0, 1, Nat.zero_le _, rfl, rfl, by decide, by omega, h, Kept.refl _ _⟩
  case round =>
    obtain ⟨j, r, hj, rfl, rfl, hr0, HW⟩ := hrel
    by_cases hlt : j < len
    · obtain ⟨hr1, ⟨xs, G, ho, hgt, hall⟩, hBw⟩ := HW.out
      obtain ⟨⟨z, e1⟩, e2, hne, hgj0, ⟨zs, hrow⟩, hdis⟩ := hall j hlt
      have hlI : L j ≤ 1048576 := hL.out j hlt
      have hjl : j * 1048577 ≤ len * 1048577 := Nat.mul_le_mul_right _ hj
      have d1 : wr.cell? ⟨g, j * 2, none⟩ = some (.int .i64 z) := (ho.cellAt _ (by omega)).trans e1
      have f1 := ho.frozenAt (j * 2)
      obtain ⟨w1, hw1⟩ : ∃ w1, w1 = wr.setCell ⟨g, j * 2, none⟩ (.int .i64 (r : Int)) := ⟨_, rfl⟩
      have HW1 : Hid (w1 = wr.setCell ⟨g, j * 2, none⟩ (.int .i64 (r : Int))) := hw1
      have hst := (ho.stored (j * 2) (.int .i64 (r : Int))).1
      rw [← hw1] at hst
      have hxl : xs.length = len * 2 := ho.1
      have d2 : w1.cell? ⟨g, j * 2 + 1, none⟩ = some (.slice (some ⟨G j, 0, none⟩) (L j) (L j)) := by
        rw [hst.cellAt _ (by omega), List.getElem?_set_ne (by omega)]; exact e2
      have hrw : w1.ownsRow base 2 1 (.slice (some ⟨G j, 0, none⟩) (L j) (L j)) (L j) zs := row_at hrow (by rw [hw1]; exact Below.heap_setCell _ _ _ _ hne)
      have hB1 : Kept (fun b => b < base ∨ top ≤ b) w w1 := by
        rw [hw1]
        exact hBw.trans (Kept.of_grown (ho.stored (j * 2) (.int .i64 (r : Int))).2 (fun k hk => by cases hk; have := (row_lt ho).1; omega))
      obtain ⟨gj, hgj⟩ : ∃ gj, gj = G j := ⟨_, rfl⟩
      obtain ⟨lj, hlj⟩ : ∃ lj, lj = L j := ⟨_, rfl⟩
      rw [← hgj, ← hlj] at d2 hrw
      rw [← hgj] at hgj0
      rw [← hlj] at hlI
      have HM : Hid (Calls Tryd.prog 20 #[.slice (some ⟨gj, 0, none⟩) lj lj, .int .i64 ((r + 1 : Nat) : Int)] w1 fun e w' => e = .returned (.int .i64 ((r + 1 + lj : Nat) : Int)) ∧ w'.ownsRow base 2 1 (.slice (some ⟨gj, 0, none⟩) lj lj) lj (imarksK (r + 1) lj) ∧ w1.grownBy w' (Value.slice (some ⟨gj, 0, none⟩) lj lj).ownBlock) :=
        markInt64S_any (some ⟨gj, 0, none⟩) lj lj base zs (r + 1) w1 hrw (by omega)
      have HNX : Hid (∀ w2, w1.grownBy w2 (some gj) → w2.ownsRow base 2 1 (.slice (some ⟨gj, 0, none⟩) lj lj) lj (imarksK (r + 1) lj) → OwnEp w2 base top g len L ∧ Kept (fun b => b < base ∨ top ≤ b) w w2) := by
        intro w2 hg2 ho2
        have hbj := (row_lt hrw).1
        refine ⟨⟨xs.set (j * 2) (.int .i64 (r : Int)), G, row_at hst (hg2.block g (row_lt hst).2 (fun e => hne (by rw [← hgj]; exact (Option.some.inj e).symm))), hgt, fun i hi => ?_⟩, hB1.trans (Kept.of_grown hg2 (fun k hk => by cases hk; omega))⟩
        obtain ⟨⟨zi, p1⟩, p2, p3, p6, ⟨zsi, p4⟩, p5⟩ := hall i hi
        refine ⟨?_, ?_, p3, p6, ?_, p5⟩
        · by_cases hij : i = j
          · subst hij
            exact ⟨_, List.getElem?_set_self (by omega)⟩
          · exact ⟨zi, by rw [List.getElem?_set_ne (by omega)]; exact p1⟩
        · rw [List.getElem?_set_ne (by omega)]; exact p2
        · by_cases hij : i = j
          · subst hij
            rw [← hgj, ← hlj]
            exact ⟨_, ho2⟩
          · refine ⟨zsi, row_at p4 ?_⟩
            have hG := hdis i hi hij
            rw [← hgj] at hG
            have h4 := (row_lt p4).2
            have h5 : w1.heap[G i]? = wr.heap[G i]? := by rw [hw1]; exact Below.heap_setCell _ _ _ _ p3
            have h6 : w1.heap.size = wr.heap.size := by rw [hw1]; simp [World.setCell]
            rw [← h5]
            exact hg2.block (G i) (by omega) (fun e => hG (Option.some.inj e))
      have hgb : (Value.slice (some (⟨gj, 0, none⟩ : Addr)) lj lj).ownBlock = some gj := rfl
      have hltI : (j : Int) < (len : Int) := by omega
      have HR : Hid (lj ≤ 1048576 ∧ r + 1 + lj ≤ 1 + (j + 1) * 1048577) := ⟨hlI, by omega⟩
      have hrb : r + 1 + lj ≤ 4611686018427387904 := by omega
      clear hr1 hjl ho hall hBw e1 e2 hne hrow hdis hst hrw hB1 hgj hlj hxl h hgt hgj0
      obtain ⟨r1, hr1⟩ : ∃ r1, r1 = r + 1 := ⟨_, rfl⟩
      have hrI : (r : Int) + 1 = (r1 : Int) := by omega
      have HR1 : Hid (r1 = r + 1) := hr1
      rw [← hr1] at HM HNX HR hrb
      clear hr1
      rw [HW1.out] at d2
      go_wp2_with fail
      rw [← HW1.out]
      refine HM.out.mono ?_
      rintro e w2 ⟨rfl, ho2, hg2⟩
      have HN2 : Hid (OwnEp w2 base top g len L ∧ Kept (fun b => b < base ∨ top ≤ b) w w2) := HNX.out w2 hg2 ho2
      clear ho2 hg2
      go_wp2
      go_roundw
      case rel => exact ⟨j + 1, r1 + lj, by omega, by go_num, by go_num, by omega, HR.out.2, HN2.out⟩
      case measure => simp [intOf]; omega
    · have hje : j = len := by omega
      subst hje
      go_wp2
      go_ret
      exact ⟨r, rfl, hr0, HW.out.1, HW.out.2.2⟩

end Go.Proofs.YtcolcnkjcagbaaaDoor.Ep
