/-
  Small laws for a range over a map of nodes or over a set of texts. No condition.
  Slices of numbers: how they read, slices that the call owns, the laws' own functions over them. No condition but that the slices read.
  The laws' own functions over numbers: the size left, a copy. No condition but that the slice reads.
  Rows: how they read, rows that the call owns, the laws' own functions over them. No condition but that the slices read.
  Copies of rows, and rows held against each other. No condition but that the slices read.
  The specification's test of rows. No condition but that the slices read.
  Tallies: the numbers of a row as an array, and all tallies in a map. No condition but that the slices read.
  Settled, the program's: what a tally covers, whether it covers all that stands behind an id. No condition but that the dag is right and lies.
  Settled, the program's, whole: the rising list of the ids that are settled. No condition but that the slices read and that the tables lie.
  Settled, the specification's. No condition but that the slices read.
  A tally as a list. No condition.
  The last number of one in a dag, plainly, and by the program. No condition but that the slice reads.
  CountsOf, plainly, and the program's. No condition but that the slice reads and that the tables lie.
  The specification's CountsOf. No condition but that the slice reads.
-/
import Derived.Test.YtlibipbpaigmdaaGreatDoorDgB
import Derived.Test.YtlibipbpaigmdaaGreatDoorBase
import Derived.Laws.AppendOwn
import Derived.Deep.AppendLies
import Derived.Deep.Onto
import Derived.Laws.CopyOwn
import Derived.Test.YtlibipbpaigmdaaGreatDoorDgC
import Derived.Deep.Slices
import Derived.Lib.Small
import Derived.Handy
import Derived.Maps.OwnSet
import Derived.Maps.OwnOps
import Derived.Maps.Own
import Derived.Maps.Views
import Derived.Laws.Tables
import Derived.Laws.ResultCell
import Derived.Test.YtlibipbpaigmdaaGreatDoorDgA
import Derived.Test.YtlibipbpaigmdaaGreatDoorDag2
import Derived.Test.YtlibipbpaigmdaaGreatDoorDag7
import Derived.StillTailTactics
namespace Go.Proofs.YtlibipbpaigmdaaGreatDoor
open Go.RowKit Go.Maps
set_option linter.unusedVariables false

def unitV : Unit → Value := fun _ => .agg #[]
theorem unitV_inv (v : Value) (y : DataW Value × List MemPlace) (h : unitElem v = some y) : ∃ c : Unit, v = unitV c := ⟨(), (unitElem_inv h).1⟩

theorem ranges_kept' {w w' : World} {R : Value → Option (DataW Value × List MemPlace)} {B r n cnt K : Nat} {E : DataW Value} {left : Lit → Bool} (h : w.ranges Tryz.prog 9 R B r n E left cnt) (hg : w.grownBy w' (some K)) (h1 : B ≠ K) (h2 : r ≠ K) : w'.ranges Tryz.prog 9 R B r n E left cnt :=
  h.kept hg (by simpa using h1) (by simpa using h2)
theorem ranges_below {w w' : World} {R : Value → Option (DataW Value × List MemPlace)} {B r n cnt : Nat} {E : DataW Value} {left : Lit → Bool} (h : w.ranges Tryz.prog 9 R B r n E left cnt) (hB : Below w.heap.size w w') : w'.ranges Tryz.prog 9 R B r n E left cnt :=
  h.kept (row := none) (grown_below hB) (by simp) (by simp)

theorem struck (left : Lit → Bool) (D : Nat → Nd) {len i : Nat} {x : ByteArray} (hr : riseB (ids D) len = true) (hi : i < len) (hix : (ids D i).toList = x.toList) (i' : Nat) (hi' : i' < len) :
    (left (keyL (ids D i')) && !(keyL (ids D i')).sameKey (keyL x)) = false ↔ left (keyL (ids D i')) = false ∨ i' = i := by
  constructor
  · intro h
    by_cases hl : left (keyL (ids D i')) = false
    · exact .inl hl
    · have hl : left (keyL (ids D i')) = true := by simpa using hl
      rw [hl] at h
      have hk := keyL_inj (WideAt.sameKey_eq (show (keyL (ids D i')).sameKey (keyL x) = true by simpa using h))
      exact .inr (rise_inj hr hi' hi (hk.trans hix.symm))
  · rintro (h | rfl)
    · rw [h]; rfl
    · have : (keyL (ids D i')).sameKey (keyL x) = true := by rw [keyL_eq hix]; simp [keyL, Lit.sameKey]
      rw [this]; simp

theorem node_of {D : Nat → Nd} {b off len : Nat} {x : ByteArray} {c : Option Addr} {y : DataW Value} {ps : List MemPlace} (hRv : PR (Value.pointer c) = some (y, ps)) (hat : ∀ zd, (mapD D b off len).atKey (keyL x) zd = y) : ∃ i, i < len ∧ (ids D i).toList = x.toList ∧ c = some ⟨b, off + i * 6, none⟩ := by
  have hy : y = .held (.pointer c) := by
    simp only [PR, Option.some.injEq, Prod.mk.injEq] at hRv
    exact hRv.1.symm
  cases ho : outB (ids D) len x with
  | true =>
    have h1 := hat .nil
    rw [(mapD_at D b off x len).1 ho, hy] at h1
    cases h1
  | false =>
    obtain ⟨i, hi, e, ha⟩ := (mapD_at D b off x len).2 ho
    have h1 := hat .nil
    rw [ha, hy] at h1
    simp only [ptr, DataW.held.injEq, Value.pointer.injEq] at h1
    exact ⟨i, hi, e, h1.symm⟩
end Go.Proofs.YtlibipbpaigmdaaGreatDoor

namespace Go.Proofs.YtlibipbpaigmdaaGreatDoor
open Go.RowKit
set_option linter.unusedVariables false

theorem infoI : (Tryz.prog.info? 2).map (fun i => (i.zero, i.size, i.bytes)) = some (some (.int .i64 0), 1, 8) := by kernel_rfl
/-- a slice of numbers that reads as L -/
def RdI (w : World) (v : Value) (L : List Int) : Prop :=
  ∃ a cap, v = .slice a L.length cap ∧ L.length ≤ cap ∧ cap ≤ 9223372036854775807 ∧ (0 < L.length → ∃ b off, a = some ⟨b, off, none⟩ ∧ b < w.heap.size ∧ ∀ i, i < L.length → w.cell? ⟨b, off + i, none⟩ = some (.int .i64 (L.getD i 0)))
theorem RdI.below {w w' : World} {v : Value} {L : List Int} (h : RdI w v L) (hB : Below w.heap.size w w') : RdI w' v L := by
  obtain ⟨a, cap, rfl, h1, h2, h3⟩ := h
  refine ⟨a, cap, rfl, h1, h2, fun hp => ?_⟩
  obtain ⟨b, off, e, hb, hc⟩ := h3 hp
  exact ⟨b, off, e, Nat.lt_of_lt_of_le hb hB.size, fun i hi => (hB.cell (p := ⟨b, off + i, none⟩) hb).trans (hc i hi)⟩
/-- numbers in memory of the call's own -/
def OwnI (w : World) (base : Nat) (v : Value) (L : List Int) : Prop := w.ownsRow base 2 1 v L.length (L.map (.int .i64 ·))
theorem OwnI.below {w w' : World} {base : Nat} {v : Value} {L : List Int} (h : OwnI w base v L) (hB : Below w.heap.size w w') : OwnI w' base v L := ownsRow_below h hB
theorem OwnI.rd {w : World} {base : Nat} {v : Value} {L : List Int} (h : OwnI w base v L) : RdI w v L := by
  have h' := h
  obtain ⟨h1, h2⟩ := h
  rcases h2 with ⟨rfl, h0⟩ | ⟨g, cap, cur, rfl, hb, hh, hn, hc, hs, ht⟩
  · have hL : L = [] := List.eq_nil_of_length_eq_zero h0
    subst hL
    exact ⟨none, 0, rfl, Nat.le_refl _, by omega, fun h => absurd h (Nat.lt_irrefl _)⟩
  · refine ⟨_, cap, rfl, hn, by unfold maxLen at hc; omega, fun _ => ⟨g, 0, rfl, lt_of_block hh, fun i hi => ?_⟩⟩
    rw [Nat.zero_add, World.ownsRow.cellAt h' i (by omega)]
    simp [hi]
theorem OwnI.base {w : World} {base base' : Nat} {v : Value} {L : List Int} (h : OwnI w base v L) (hb : base' ≤ base) : OwnI w base' v L := World.ownsRow.mono h hb

theorem RdI.shape {w : World} {v : Value} {L : List Int} (h : RdI w v L) : ∃ a c, v = .slice a L.length c ∧ True := by
  obtain ⟨a, c, e, _⟩ := h
  exact ⟨a, c, e, trivial⟩
theorem OwnI.slice {w : World} {base : Nat} {v : Value} {L : List Int} (h : OwnI w base v L) : ∃ a c, v = .slice a L.length c := by
  obtain ⟨a, c, e, _⟩ := h.rd
  exact ⟨a, c, e⟩

theorem OwnI.kept {w w' : World} {base : Nat} {v : Value} {L : List Int} {r : Option Nat} (h : OwnI w base v L) (hG : w.grownBy w' r) (hne : ∀ k, v.ownBlock = some k → some k ≠ r) : OwnI w' base v L := by
  have hlt := World.ownsRow.lt h
  obtain ⟨h1, h2⟩ := h
  refine ⟨h1, ?_⟩
  rcases h2 with h2 | ⟨g, cap, cur, hv, hb, hh, q⟩
  · exact .inl h2
  · have hg : v.ownBlock = some g := by rw [hv]; rfl
    exact .inr ⟨g, cap, cur, hv, hb, (hG.block g (hlt g hg).2 (hne g hg)).trans hh, q⟩
theorem OwnI.nil (w : World) (base : Nat) : OwnI w base (.slice none 0 0) [] := ⟨rfl, .inl ⟨rfl, rfl⟩⟩

set_option maxHeartbeats 1000000 in
theorem eqI_same (v v' : Value) (L : List Int) (w : World) (h : RdI w v L) (h' : RdI w v' L) :
    Calls Tryz.prog 22 #[v, v'] w fun e w' => e = .returned (.bool true) ∧ Below w.heap.size w w' := by
  obtain ⟨a, cap, rfl, hlc, hcm, hc⟩ := h
  obtain ⟨a', cap', rfl, hlc', hcm', hc'⟩ := h'
  obtain ⟨len, hlen⟩ : ∃ len, len = L.length := ⟨_, rfl⟩
  rw [← hlen] at hlc hlc' hc hc' ⊢
  clear hlen
  have hbn : ((len : Int) != (len : Int)) = false := by simp
  go_enter Tryz.func22, Tryz.ntmps22
  go_wp2
  go_loopw [5] (fun i wr => ∃ (k : Nat), k ≤ len ∧ i = .int .i64 k ∧ Below w.heap.size w wr)
    (fun i _ => len - (intOf i).toNat)
  case atStart => exact ⟨0, Nat.zero_le _, rfl, Below.refl _ _⟩
  case round =>
    obtain ⟨k, hk, rfl, hB⟩ := hrel
    by_cases hlt : k < len
    · obtain ⟨b, off, rfl, hbs, hcell⟩ := hc (by omega)
      obtain ⟨b', off', rfl, hbs', hcell'⟩ := hc' (by omega)
      have d1 := (hB.cell (p := ⟨b, off + k, none⟩) hbs).trans (hcell k hlt)
      have d1' := (hB.cell (p := ⟨b', off' + k, none⟩) hbs').trans (hcell' k hlt)
      obtain ⟨z, hz⟩ : ∃ z, z = L.getD k 0 := ⟨_, rfl⟩
      rw [← hz] at d1 d1'
      have hss : (z != z) = false := by simp
      clear hcell hc hcell' hc' hz
      go_wp2
      go_quiet (fail)
      go_wp2
      go_roundw
      case rel => exact ⟨k + 1, by omega, by go_num, hB.trans ⟨rfl, rfl, rfl, Nat.le_refl _, fun _ _ => rfl⟩⟩
      case measure => simp [intOf]; omega
    · have hke : k = len := by omega
      subst hke
      go_wp2
      go_ret
      exact ⟨rfl, hB⟩

/-- n marks, from s on -/
def marksI (s n : Nat) : List Int := (List.range n).map fun i => ((s + i : Nat) : Int)
theorem marksI_len (s n : Nat) : (marksI s n).length = n := by unfold marksI; simp
theorem marksI_at {s n i : Nat} (h : i < n) : (marksI s n).getD i 0 = ((s + i : Nat) : Int) := by unfold marksI; simp [h]
theorem marksI_of {s n : Nat} {xs : List Value} (hl : xs.length = n) (h : ∀ i, i < n → xs[i]? = some (.int .i64 ((s + i : Nat) : Int))) : xs = (marksI s n).map (.int .i64 ·) := by
  apply List.ext_getElem?
  intro i
  by_cases hi : i < n
  · rw [h i hi]; unfold marksI; simp [hi]
  · rw [List.getElem?_eq_none (by omega), List.getElem?_eq_none (by simp [marksI_len]; omega)]

set_option maxHeartbeats 1000000 in
theorem markI_any (base : Nat) (v : Value) (L : List Int) (s : Nat) (w : World) (h : OwnI w base v L) (hb : L.length ≤ 1048576) (hs : s ≤ 2199023255552) :
    Calls Tryz.prog 24 #[v, .int .i64 (s : Int)] w fun e w' => e = .returned (.int .i64 ((s + L.length : Nat) : Int)) ∧ OwnI w' base v (marksI s L.length) ∧ w.grownBy w' v.ownBlock := by
  obtain ⟨a, cap, rfl⟩ := h.slice
  obtain ⟨len, hlen⟩ : ∃ len, len = L.length := ⟨_, rfl⟩
  have HO0 : Hid (w.ownsRow base 2 1 (.slice a len cap) len (L.map (.int .i64 ·))) := by rw [hlen]; exact h
  have hr : ∀ w' : World, w'.ownsRow base 2 1 (.slice a len cap) len ((marksI s len).map (.int .i64 ·)) → OwnI w' base (.slice a len cap) (marksI s len) := fun w' q => by unfold OwnI; rw [marksI_len]; exact q
  have HR := (show Hid _ from hr)
  have hcap : cap ≤ 9223372036854775807 ∧ len ≤ cap := by
    obtain ⟨a', c', e, h1, h2, _⟩ := h.rd
    simp at e
    obtain ⟨_, rfl⟩ := e
    rw [hlen]
    exact ⟨h2, h1⟩
  rw [← hlen] at hb ⊢
  clear hlen h hr
  obtain ⟨hcm, hlc⟩ := hcap
  go_enter Tryz.func24, Tryz.ntmps24
  go_wp2
  go_loopw [1, 5] (fun x i wr => ∃ (j : Nat) (xs : List Value), j ≤ len ∧ i = .int .i64 j ∧ x = .int .i64 ((s + j : Nat) : Int) ∧ wr.ownsRow base 2 1 (.slice a len cap) len xs ∧ Hid (∀ t, t < j → xs[t]? = some (.int .i64 ((s + t : Nat) : Int))) ∧ w.grownBy wr (Value.slice a len cap).ownBlock)
    (fun _ i _ => len - (intOf i).toNat)
  case atStart => exact ⟨0, _, Nat.zero_le _, rfl, rfl, HO0.out, fun t ht => absurd ht (Nat.not_lt_zero _), World.grownBy.refl _ _⟩
  case round =>
    obtain ⟨j, xs, hj, rfl, rfl, how, HA, hG⟩ := hrel
    by_cases hlt : j < len
    · obtain ⟨g, rfl⟩ : ∃ g, a = some ⟨g, 0, none⟩ := by
        rcases how.2 with ⟨h', h0⟩ | ⟨g, cap', cur, h', _⟩
        · omega
        · simp only [Value.slice.injEq] at h'
          exact ⟨g, h'.1⟩
      have hltI : (j : Int) < (len : Int) := by omega
      have hxl : xs.length = len * 1 := how.1
      have f1 := how.frozenAt j
      obtain ⟨v1, e1⟩ := own_some how j (by omega)
      have HO : Hid (_) := how
      have HG : Hid (_) := hG
      clear how hG
      go_wp2
      go_roundw
      case rel =>
        refine ⟨j + 1, xs.set j (.int .i64 ((s + j : Nat) : Int)), by omega, by go_num, by go_num, (World.ownsRow.stored HO.out _ _).1, ?_, HG.out.trans (World.ownsRow.stored HO.out _ _).2⟩
        intro t ht
        rcases Nat.lt_succ_iff_lt_or_eq.1 ht with h1 | rfl
        · rw [List.getElem?_set_ne (by omega)]
          exact HA.out t h1
        · rw [List.getElem?_set_self (by omega)]
      case measure => simp [intOf]; omega
    · have hje : j = len := by omega
      subst hje
      have hm : xs = (marksI s j).map (.int .i64 ·) := marksI_of (by have := how.1; omega) HA.out
      have HO : Hid (wr.ownsRow base 2 1 (.slice a j cap) j ((marksI s j).map (.int .i64 ·))) := by rw [← hm]; exact how
      clear how hm
      go_wp2
      go_ret
      exact ⟨rfl, HR.out _ HO.out, hG⟩

end Go.Proofs.YtlibipbpaigmdaaGreatDoor

namespace Go.Proofs.YtlibipbpaigmdaaGreatDoor
open Go.RowKit
set_option linter.unusedVariables false

/-- what toInt64S has written when k rounds are over -/
def copyTo (Z : Nat → Int) (n k : Nat) : List Value := (List.range n).map fun i => .int .i64 (if i < k then Z i else 0)

theorem made_ints (Z : Nat → Int) (n : Nat) : (madeCells (Value.int .i64 0).cells (n * 1)).toList = copyTo Z n 0 := by
  apply List.ext_getElem?
  intro i
  simp only [copyTo, madeCells, Value.cells, List.getElem?_map]
  by_cases h : i < n
  · simp [h, Nat.mod_one]
  · simp [h]

theorem copyTo_set (Z : Nat → Int) (n k : Nat) (hk : k < n) : (copyTo Z n k).set k (.int .i64 (Z k)) = copyTo Z n (k + 1) := by
  apply List.ext_getElem?
  intro i
  unfold copyTo
  rw [List.getElem?_set]
  by_cases hik : k = i
  · subst hik
    simp [hk]
  · rw [if_neg hik, List.getElem?_map, List.getElem?_map]
    have e : (i < k) ↔ (i < k + 1) := by omega
    by_cases h : i < n
    · simp [h, e]
    · simp [h]

theorem copyTo_all (L : List Int) : copyTo (fun i => L.getD i 0) L.length L.length = L.map (.int .i64 ·) := by
  apply List.ext_getElem?
  intro i
  unfold copyTo
  by_cases h : i < L.length
  · simp [h]
  · simp [h]

set_option maxHeartbeats 400000 in
theorem toI_any (v : Value) (L : List Int) (w : World) (h : RdI w v L) (hlen : L.length ≤ 1048576) :
    Calls Tryz.prog 18 #[v] w fun e w' => e = .returned (.slice (some ⟨w.heap.size, 0, none⟩) L.length L.length) ∧ OwnI w' w.heap.size (.slice (some ⟨w.heap.size, 0, none⟩) L.length L.length) L ∧ Below w.heap.size w w' := by
  obtain ⟨a, cap, rfl, hlc, hcm, hc⟩ := h
  have HF : Hid (copyTo (fun i => L.getD i 0) L.length L.length = L.map (.int .i64 ·)) := copyTo_all L
  obtain ⟨Z, hZ⟩ : ∃ Z : Nat → Int, Z = fun i => L.getD i 0 := ⟨_, rfl⟩
  have hc' : 0 < L.length → ∃ b off, a = some ⟨b, off, none⟩ ∧ b < w.heap.size ∧ ∀ i, i < L.length → w.cell? ⟨b, off + i, none⟩ = some (.int .i64 (Z i)) := by rw [hZ]; exact hc
  rw [← hZ] at HF
  obtain ⟨len, hl⟩ : ∃ len, len = L.length := ⟨_, rfl⟩
  have HL : Hid (len = L.length) := hl
  rw [← hl] at hlc hlen hc' HF ⊢
  clear hc hZ hl
  obtain ⟨i0, hi, hz0, hz1, hz2⟩ := info_parts infoI
  have hb2 : i0.bytes * len ≤ 281474976710656 := by rw [hz2]; omega
  have hb3 : len ≤ maxLen := by unfold maxLen; omega
  go_enter Tryz.func18, Tryz.ntmps18
  go_wp2_with (at_make; refine wpList_make_full _ rfl _ _ 23 rfl w.heap.size 2 i0 (.int .i64 0) 1 Tryz.underlying23 hi hz0 hz1 .i64 .i64 _ _ len rfl rfl rfl rfl hb2 hb3 (Nat.le_refl _) ?_; intro w1 hown hgrow)
  have hB1 : Below w.heap.size w w1 := (Below.refl _ w).grown hgrow (Nat.le_refl _) (fun k hk => by cases hk)
  rw [made_ints Z len] at hown
  clear hgrow
  go_loopw [4] (fun i wr => ∃ k : Nat, k ≤ len ∧ i = .int .i64 k ∧ wr.ownsRow w.heap.size 2 1 (.slice (some ⟨w.heap.size, 0, none⟩) len len) len (copyTo Z len k) ∧ Below w.heap.size w wr)
    (fun i _ => len - (intOf i).toNat)
  case atStart => exact ⟨0, Nat.zero_le _, rfl, hown, hB1⟩
  case round =>
    obtain ⟨k, hk, rfl, how, hB⟩ := hrel
    by_cases hlt : k < len
    · obtain ⟨b, off, rfl, hbs, hcell⟩ := hc' (by omega)
      have hck : wr.cell? ⟨b, off + k, none⟩ = some (.int .i64 (Z k)) := (hB.cell (p := ⟨b, off + k, none⟩) hbs).trans (hcell k hlt)
      have hfz := how.frozenAt k
      have hcl : ∃ v, wr.cell? ⟨w.heap.size, k, none⟩ = some v := by
        rw [how.cellAt k (by omega)]
        simp [copyTo, hlt]
      obtain ⟨v0, hcl⟩ := hcl
      have hst := (how.stored k (.int .i64 (Z k))).1
      rw [copyTo_set Z len k hlt] at hst
      have hB' : Below w.heap.size w (wr.setCell ⟨w.heap.size, k, none⟩ (.int .i64 (Z k))) := hB.setCell (p := ⟨w.heap.size, k, none⟩) (Nat.le_refl _) _
      clear how hown hB hB1
      go_wp2
      go_roundw
      case rel => exact ⟨k + 1, by omega, by go_num, hst, hB'⟩
      case measure => simp [intOf]; omega
    · have hke : k = len := by omega
      subst hke
      have hfin : Hid (OwnI wr w.heap.size (.slice (some ⟨w.heap.size, 0, none⟩) k k) L) := by
        show OwnI _ _ _ _
        unfold OwnI
        rw [← HL.out, ← HF.out]
        exact how
      clear how hown hB1 HF
      go_wp2
      go_ret
      exact ⟨rfl, hfin.out, hB⟩
end Go.Proofs.YtlibipbpaigmdaaGreatDoor

namespace Go.Proofs.YtlibipbpaigmdaaGreatDoor
open Go.RowKit
set_option linter.unusedVariables false

/-- a row as plain data -/
structure RwE where
  who : Int
  cs : List Int
def rwZ : RwE := ⟨0, []⟩
/-- a slice, nil or not, that reads as the rows L -/
def RdR (w : World) (v : Value) (L : List RwE) : Prop :=
  ∃ a cap, v = .slice a L.length cap ∧ L.length ≤ cap ∧ cap ≤ 9223372036854775807 ∧ (0 < L.length → ∃ b off, a = some ⟨b, off, none⟩ ∧ b < w.heap.size ∧
    ∀ i, i < L.length → w.cell? ⟨b, off + i * 2, none⟩ = some (.int .i64 (L.getD i rwZ).who) ∧ ∃ u, w.cell? ⟨b, off + i * 2 + 1, none⟩ = some u ∧ RdI w u (L.getD i rwZ).cs)
theorem RdR.below {w w' : World} {v : Value} {L : List RwE} (h : RdR w v L) (hB : Below w.heap.size w w') : RdR w' v L := by
  obtain ⟨a, cap, rfl, h1, h2, h3⟩ := h
  refine ⟨a, cap, rfl, h1, h2, fun hp => ?_⟩
  obtain ⟨b, off, e, hb, hc⟩ := h3 hp
  refine ⟨b, off, e, Nat.lt_of_lt_of_le hb hB.size, fun i hi => ?_⟩
  obtain ⟨c0, u, c1, c2⟩ := hc i hi
  exact ⟨(hB.cell (p := ⟨b, _, none⟩) hb).trans c0, u, (hB.cell (p := ⟨b, _, none⟩) hb).trans c1, c2.below hB⟩

theorem OwnI.blk {w w' : World} {base : Nat} {v : Value} {L : List Int} (h : OwnI w base v L) (he : ∀ k, v.ownBlock = some k → w'.heap[k]? = w.heap[k]?) : OwnI w' base v L := by
  obtain ⟨h1, h2⟩ := h
  refine ⟨h1, ?_⟩
  rcases h2 with h2 | ⟨g, cap, cur, hv, hb, hh, r⟩
  · exact .inl h2
  · exact .inr ⟨g, cap, cur, hv, hb, (he g (by rw [hv]; rfl)).trans hh, r⟩
/-- rows in memory of the call's own, in blocks from lo on and below hi -/
def OwnR (w : World) (lo hi : Nat) (v : Value) (L : List RwE) : Prop :=
  ∃ (xs : List Value) (u : Nat → Value), w.ownsRow lo 77 2 v L.length xs ∧ (∀ k, v.ownBlock = some k → k < hi) ∧
    (∀ i, i < L.length → xs[i * 2]? = some (.int .i64 (L.getD i rwZ).who) ∧ xs[i * 2 + 1]? = some (u i) ∧ OwnI w lo (u i) (L.getD i rwZ).cs ∧ ∀ k, (u i).ownBlock = some k → k < hi) ∧
    (∀ i j, i < L.length → j < i → ∀ k, (u i).ownBlock = some k → (u j).ownBlock ≠ some k)
theorem own_int {w : World} {base k : Nat} {v : Value} {L : List Int} (h : OwnI w base v L) (hk : v.ownBlock = some k) : ∃ cs, w.heap[k]? = some (.cells cs 2 (0, 0)) := by
  rcases h.2 with ⟨h1, _⟩ | ⟨g, cap, cur, hv, hg, hh, _⟩
  · rw [h1] at hk; cases hk
  · rw [hv] at hk
    have e : some g = some k := hk
    cases e
    exact ⟨_, hh⟩
theorem own_row {w : World} {base k n : Nat} {v : Value} {xs : List Value} (h : w.ownsRow base 77 2 v n xs) (hk : v.ownBlock = some k) : ∃ cs, w.heap[k]? = some (.cells cs 77 (0, 0)) := by
  rcases h.2 with ⟨h1, _⟩ | ⟨g, cap, cur, hv, hg, hh, _⟩
  · rw [h1] at hk; cases hk
  · rw [hv] at hk
    have e : some g = some k := hk
    cases e
    exact ⟨_, hh⟩
theorem row_ne_int {w : World} {b1 b2 k n : Nat} {v v' : Value} {xs : List Value} {L : List Int} (h : w.ownsRow b1 77 2 v n xs) (h' : OwnI w b2 v' L) (hk : v'.ownBlock = some k) : v.ownBlock ≠ some k := fun e => by
  obtain ⟨c1, e1⟩ := own_row h e
  obtain ⟨c2, e2⟩ := own_int h' hk
  rw [e1] at e2
  cases e2
theorem OwnR.at {w w' : World} {lo hi : Nat} {v : Value} {L : List RwE} (h : OwnR w lo hi v L) (he : ∀ k, lo ≤ k → k < hi → w'.heap[k]? = w.heap[k]?) : OwnR w' lo hi v L := by
  obtain ⟨xs, u, h1, h2, h3, h4⟩ := h
  refine ⟨xs, u, ?_, h2, fun i hi' => ?_, h4⟩
  · obtain ⟨q1, q2⟩ := h1
    refine ⟨q1, ?_⟩
    rcases q2 with q2 | ⟨g, cap, cur, hv, hb, hh, r⟩
    · exact .inl q2
    · exact .inr ⟨g, cap, cur, hv, hb, (he g hb (h2 g (by rw [hv]; rfl))).trans hh, r⟩
  · obtain ⟨c0, c1, c2, c3⟩ := h3 i hi'
    exact ⟨c0, c1, c2.blk (fun k hk => he k (World.ownsRow.lt c2 k hk).1 (c3 k hk)), c3⟩
theorem OwnR.lt {w : World} {lo hi : Nat} {v : Value} {L : List RwE} (h : OwnR w lo hi v L) (hh : hi ≤ w.heap.size) : OwnR w lo w.heap.size v L := by
  obtain ⟨xs, u, h1, h2, h3, h4⟩ := h
  exact ⟨xs, u, h1, fun k hk => Nat.lt_of_lt_of_le (h2 k hk) hh, fun i hi' => ⟨(h3 i hi').1, (h3 i hi').2.1, (h3 i hi').2.2.1, fun k hk => Nat.lt_of_lt_of_le ((h3 i hi').2.2.2 k hk) hh⟩, h4⟩
theorem OwnR.below {w w' : World} {lo hi : Nat} {v : Value} {L : List RwE} (h : OwnR w lo hi v L) (hh : hi ≤ w.heap.size) (hB : Below w.heap.size w w') : OwnR w' lo hi v L :=
  h.at fun k _ hk => hB.block k (Nat.lt_of_lt_of_le hk hh)
theorem OwnR.slice {w : World} {lo hi : Nat} {v : Value} {L : List RwE} (h : OwnR w lo hi v L) : (v = .slice none 0 0 ∧ L = []) ∨ ∃ g cap, v = .slice (some ⟨g, 0, none⟩) L.length cap ∧ L.length ≤ cap ∧ cap ≤ 9223372036854775807 ∧ lo ≤ g ∧ g < w.heap.size := by
  obtain ⟨xs, u, h1, h2, h3, h4⟩ := h
  rcases h1.2 with ⟨q1, q2⟩ | ⟨g, cap, cur, hv, hb, hh, r1, r2, _⟩
  · exact .inl ⟨q1, List.length_eq_zero_iff.1 q2⟩
  · unfold maxLen at r2
    exact .inr ⟨g, cap, hv, r1, by omega, hb, lt_of_block hh⟩
theorem OwnR.rd {w : World} {lo hi : Nat} {v : Value} {L : List RwE} (h : OwnR w lo hi v L) : RdR w v L := by
  rcases h.slice with ⟨rfl, rfl⟩ | ⟨g, cap, rfl, hc1, hc2, _, hg⟩
  · exact ⟨none, 0, rfl, Nat.le_refl _, by omega, fun h => absurd h (Nat.lt_irrefl _)⟩
  · obtain ⟨xs, u, h1, h2, h3, h4⟩ := h
    refine ⟨_, cap, rfl, hc1, hc2, fun _ => ⟨g, 0, rfl, hg, fun i hi => ?_⟩⟩
    obtain ⟨c0, c1, c2, c3⟩ := h3 i hi
    refine ⟨?_, u i, ?_, c2.rd⟩
    · rw [Nat.zero_add, h1.cellAt _ (by omega)]; exact c0
    · rw [Nat.zero_add, h1.cellAt _ (by omega)]; exact c1

end Go.Proofs.YtlibipbpaigmdaaGreatDoor

namespace Go.Proofs.YtlibipbpaigmdaaGreatDoor
open Go.RowKit
set_option linter.unusedVariables false

theorem infoR : (Tryz.prog.info? 77).map (fun i => (i.zero, i.size, i.bytes)) = some (some (.agg #[.int .i64 0, .slice none 0 0]), 2, 32) := by kernel_rfl

end Go.Proofs.YtlibipbpaigmdaaGreatDoor

namespace Go.Proofs.YtlibipbpaigmdaaGreatDoor
open Go.RowKit
set_option linter.unusedVariables false

theorem allB_at {p : Nat → Bool} {n k : Nat} (h : allB p n = true) (hk : k < n) : p k = true := by
  unfold allB at h
  rw [List.all_eq_true] at h
  exact h k (List.mem_range.2 hk)
theorem in_later {n lo hi : Int} {b : Bool} (hb : inB lo hi n = b) {w : World} (t : Later w) : Calls Tryz.prog 108 #[.int .i64 n, .int .i64 lo, .int .i64 hi] t.val fun e w'' => e = .returned (.bool b) ∧ ∃ s' : Later w, w'' = s'.val :=
  (in_any n lo hi b hb t.val).mono fun e w' ⟨h1, h2⟩ => ⟨h1, t, h2⟩

/-- a number of a row -/
def cAt (cs : List Int) (i : Nat) : Bool := inB 0 1000000 (cs.getD i 0)
/-- the numbers of a row are right -/
def csB (cs : List Int) : Bool := decide (cs.length = 9) && allB (cAt cs) cs.length
/-- the row at place i is right by itself and stands behind the one ahead of it -/
def okR (L : List RwE) (i : Nat) : Bool := (inB 1 9 (L.getD i rwZ).who && (i == 0 || decide ((L.getD (i - 1) rwZ).who < (L.getD i rwZ).who))) && csB (L.getD i rwZ).cs
def rowsB (L : List RwE) : Bool := allB (okR L) L.length
theorem rowsB_false {L : List RwE} {k : Nat} (hk : k < L.length) (h : okR L k = false) : rowsB L = false := allB_false hk h

theorem IL_at {w : World} {a : Option Addr} {n cap : Nat} {L : List Int} (h : RdI w (.slice a n cap) L) : n = L.length := by
  obtain ⟨a', c', e, _⟩ := h
  simp at e
  exact e.2.1
set_option maxRecDepth 10000 in
set_option maxHeartbeats 4000000 in
theorem specRows_any (v : Value) (L : List RwE) (w : World) (h : RdR w v L) :
    Calls Tryz.prog 83 #[v] w fun e w' => e = .returned (.bool (rowsB L)) ∧ Below w.heap.size w w' := by
  obtain ⟨a, cap, rfl, hlc, hcm, hc⟩ := h
  obtain ⟨n, hn⟩ : ∃ n, n = L.length := ⟨_, rfl⟩
  have HN : Hid (n = L.length) := hn
  rw [← hn] at hlc hc ⊢
  clear hn
  go_enter Tryz.func83, Tryz.ntmps83
  go_wp2
  go_loopw [3] (fun i wr => ∃ (k : Nat), k ≤ n ∧ i = .int .i64 k ∧ Hid (allB (okR L) k = true) ∧ Hid (Below w.heap.size w wr)) (fun i _ => n - (intOf i).toNat)
  case atStart => exact ⟨0, Nat.zero_le _, rfl, rfl, Below.refl _ _⟩
  case round =>
    obtain ⟨k, hk, rfl, HA, HB⟩ := hrel
    by_cases hlt : k < n
    · have hltI : (k : Int) < (n : Int) := by omega
      obtain ⟨b, off, rfl, hbs, hcell⟩ := hc (by omega)
      obtain ⟨c0, u, c1, c2⟩ := hcell k hlt
      obtain ⟨au, cu, hu, _⟩ := c2.shape
      subst hu
      obtain ⟨y, hy⟩ : ∃ y, y = L.getD k rwZ := ⟨_, rfl⟩
      rw [← hy] at c0 c1 c2
      have HU0 : Hid (∀ w', Below w.heap.size w w' → RdI w' (.slice au y.cs.length cu) y.cs) := fun w' h => c2.below h
      obtain ⟨m, hm⟩ : ∃ m, m = y.cs.length := ⟨_, rfl⟩
      have HML : Hid (m = y.cs.length) := hm
      have HU : Hid (∀ w', Below w.heap.size w w' → RdI w' (.slice au m cu) y.cs) := by rw [hm]; exact HU0
      rw [← hm] at c1
      have HD : Hid (w.cell? ⟨b, off + k * 2, none⟩ = some (.int .i64 y.who) ∧ w.cell? ⟨b, off + k * 2 + 1, none⟩ = some (.slice au m cu)) := ⟨c0, c1⟩
      have HY : Hid (y = L.getD k rwZ) := hy
      have d0 := (HB.out.cell (p := ⟨b, off + k * 2, none⟩) hbs).trans c0
      have d1 := (HB.out.cell (p := ⟨b, off + k * 2 + 1, none⟩) hbs).trans c1
      clear c0 c1 c2 hy hm HU0
      by_cases hk0 : k = 0
      · have HK0 : Hid ((k == 0) = true) := by show _ = _; simpa using hk0
        have hk0n : ¬ (0 < k) := by omega
        have hk0i : (k : Int) ≤ 0 := by omega
        have hk0d : decide ((0 : Int) < (k : Int)) = false := by simp; omega
        clear hcell hc hk0
        have hne := Later.any wr
        have p0 : ∀ s : Later wr, s.val.cell? ⟨b, off + (k) * 2, none⟩ = some (.int .i64 y.who) := fun s => s.cell d0
        have p1 : ∀ s : Later wr, s.val.cell? ⟨b, off + (k) * 2 + 1, none⟩ = some (.slice au m cu) := fun s => s.cell d1
        cases hw : inB 1 9 y.who with
        | false =>
          have HR : Hid (rowsB L = false) := rowsB_false (by rw [← HN.out]; exact hlt) (by unfold okR; rw [← HY.out, hw]; rfl)
          go_wp2
          refine wp_region_later (by kernel_rfl) (by kernel_rfl) ?_
          repeat (go_big_quiet_step ((rename_i t; first | with_reducible exact in_later hw t)))
          refine wpQuiet_nil ?_
          rintro w2 ⟨s, hs⟩
          have HB2 : Hid (Below w.heap.size w w2) := by rw [hs]; exact HB.out.trans (s.ok.mono HB.out.size)
          clear hs s
          go_wp2
          go_ret
          exact ⟨ret_bool HR.out.symm, HB2.out⟩
        | true =>
          by_cases h9 : m = 9
          · subst h9
            have hm9 : ((9 : Int) != 9) = false := by decide
            have HL9 : Hid (decide (y.cs.length = 9) = true) := by show _ = _; rw [← HML.out]; rfl
            go_wp2
            refine wp_region_later (by kernel_rfl) (by kernel_rfl) ?_
            repeat (go_big_quiet_step ((rename_i t; first | with_reducible exact in_later hw t)))
            refine wpQuiet_nil ?_
            rintro w2 ⟨s, hs⟩
            have HB2 : Hid (Below w.heap.size w w2) := by rw [hs]; exact HB.out.trans (s.ok.mono HB.out.size)
            clear hs s
            have HI : Hid (∀ w', Below w.heap.size w w' → RdI w' (.slice au 9 cu) y.cs) := fun w' h => HU.out w' h
            clear p0 p1 hne
            go_wp2
            try go_simp
            go_loopw [4] (fun j wq => ∃ (q : Nat), q ≤ 9 ∧ j = .int .i64 q ∧ Hid (allB (cAt y.cs) q = true) ∧ Hid (Below w.heap.size w wq)) (fun j _ => 9 - (intOf j).toNat)
            case atStart => exact ⟨0, Nat.zero_le _, rfl, rfl, HB2⟩
            case round =>
              obtain ⟨q, hq, rfl, HC, HBq⟩ := hrel
              by_cases hq9 : q < 9
              · have hqI : (q : Int) < 9 := by omega
                obtain ⟨a', c', e', hl1, hl2, hcc⟩ := HI.out wr HBq.out
                simp at e'
                obtain ⟨rfl, hml, rfl⟩ := e'
                obtain ⟨bu, ou, rfl, hbu, hcu⟩ := hcc (by omega)
                have dq := hcu q (by omega)
                obtain ⟨z, hz⟩ : ∃ z, z = y.cs.getD q 0 := ⟨_, rfl⟩
                rw [← hz] at dq
                have hcz : cAt y.cs q = inB 0 1000000 z := by rw [hz]; rfl
                have hne := Later.any wr
                have p0 : ∀ s : Later wr, s.val.cell? ⟨b, off + (k) * 2, none⟩ = some (.int .i64 y.who) := fun s => s.cell ((HBq.out.cell (p := ⟨b, _, none⟩) hbs).trans HD.out.1)
                have p1 : ∀ s : Later wr, s.val.cell? ⟨b, off + (k) * 2 + 1, none⟩ = some (.slice (some ⟨bu, ou, none⟩) 9 cu) := fun s => s.cell ((HBq.out.cell (p := ⟨b, _, none⟩) hbs).trans HD.out.2)
                have p3 : ∀ s : Later wr, s.val.cell? ⟨bu, ou + q, none⟩ = some (.int .i64 z) := fun s => s.cell dq
                have o0 := (HBq.out.cell (p := ⟨b, off + (k) * 2, none⟩) hbs).trans HD.out.1
                have o1 := (HBq.out.cell (p := ⟨b, off + (k) * 2 + 1, none⟩) hbs).trans HD.out.2
                have HML9 : Hid (9 = y.cs.length) := hml
                clear hcu hcc hz p0 p1 p3 hne hml
                cases hin : inB 0 1000000 z with
                | false =>
                  have HR : Hid (rowsB L = false) := rowsB_false (by rw [← HN.out]; exact hlt) (by unfold okR; rw [show csB (L.getD (k) rwZ).cs = false by rw [← HY.out]; unfold csB; rw [allB_false (p := cAt y.cs) (k := q) (by have := HML9.out; omega) (by rw [hcz, hin])]; simp]; simp)
                  clear hcz
                  go_wp2_with fail
                  refine (in_any z 0 1000000 _ hin _).mono ?_
                  rintro e w2 ⟨rfl, hw2⟩
                  rw [hw2]
                  clear hw2 w2
                  have HB2 : Hid (Below w.heap.size w wr) := HBq
                  go_wp2
                  go_ret
                  exact ⟨ret_bool HR.out.symm, HB2.out⟩
                | true =>
                  have HC' : Hid (allB (cAt y.cs) (q + 1) = true) := by show _ = _; rw [allB_succ, HC.out, hcz, hin]; rfl
                  clear hcz
                  go_wp2_with fail
                  refine (in_any z 0 1000000 _ hin _).mono ?_
                  rintro e w2 ⟨rfl, hw2⟩
                  rw [hw2]
                  clear hw2 w2
                  have HB2 : Hid (Below w.heap.size w wr) := HBq
                  go_wp2
                  go_roundw
                  case rel => first | exact ⟨q + 1, by omega, by go_num, HC', HB2⟩ | (repeat (refine Exists.intro _ ?_); refine ⟨?_, rfl⟩; exact ⟨q + 1, by omega, by go_num, HC', HB2⟩)
                  case measure => simp [intOf]; omega
              · have hqe : q = 9 := by omega
                subst hqe
                have o0 := (HBq.out.cell (p := ⟨b, off + (k) * 2, none⟩) hbs).trans HD.out.1
                have o1 := (HBq.out.cell (p := ⟨b, off + (k) * 2 + 1, none⟩) hbs).trans HD.out.2
                have HK : Hid (allB (okR L) (k + 1) = true) := by
                  show _ = _
                  rw [allB_succ, HA.out]
                  show okR L (k) = true
                  unfold okR
                  rw [show csB (L.getD (k) rwZ).cs = true by rw [← HY.out]; unfold csB; rw [HL9.out, show y.cs.length = 9 from HML.out.symm, HC.out]; rfl]
                  rw [← HY.out, hw, HK0.out]; rfl
                go_wp2
                go_roundw
                case rel => exact ⟨k + 1, by omega, by go_num, HK, HBq⟩
                case measure => simp [intOf]; omega
          · have hm9 : ((m : Int) != 9) = true := by simp; omega
            have HR : Hid (rowsB L = false) := rowsB_false (by rw [← HN.out]; exact hlt) (by unfold okR; rw [show csB (L.getD (k) rwZ).cs = false by rw [← HY.out]; unfold csB; rw [← HML.out, decide_eq_false h9]; rfl]; simp)
            go_wp2
            refine wp_region_later (by kernel_rfl) (by kernel_rfl) ?_
            repeat (go_big_quiet_step ((rename_i t; first | with_reducible exact in_later hw t)))
            refine wpQuiet_nil ?_
            rintro w2 ⟨s, hs⟩
            have HB2 : Hid (Below w.heap.size w w2) := by rw [hs]; exact HB.out.trans (s.ok.mono HB.out.size)
            clear hs s
            go_wp2
            go_ret
            exact ⟨ret_bool HR.out.symm, HB2.out⟩
      · obtain ⟨j, rfl⟩ : ∃ j, k = j + 1 := ⟨k - 1, by omega⟩
        obtain ⟨z, hz0⟩ : ∃ z, z = (L.getD j rwZ).who := ⟨_, rfl⟩
        have dz := (HB.out.cell (p := ⟨b, off + j * 2, none⟩) hbs).trans (hcell j (by omega)).1
        rw [← hz0] at dz
        have HZ : Hid (z = (L.getD j rwZ).who) := hz0
        clear hcell hc hk0 hz0
        have hne := Later.any wr
        have p0 : ∀ s : Later wr, s.val.cell? ⟨b, off + (j + 1) * 2, none⟩ = some (.int .i64 y.who) := fun s => s.cell d0
        have p1 : ∀ s : Later wr, s.val.cell? ⟨b, off + (j + 1) * 2 + 1, none⟩ = some (.slice au m cu) := fun s => s.cell d1
        have p2 : ∀ s : Later wr, s.val.cell? ⟨b, off + j * 2, none⟩ = some (.int .i64 z) := fun s => s.cell dz
        cases hw : inB 1 9 y.who with
        | false =>
          have HR : Hid (rowsB L = false) := rowsB_false (by rw [← HN.out]; exact hlt) (by unfold okR; rw [← HY.out, hw]; rfl)
          go_wp2
          refine wp_region_later (by kernel_rfl) (by kernel_rfl) ?_
          repeat (go_big_quiet_step ((rename_i t; first | with_reducible exact in_later hw t)))
          refine wpQuiet_nil ?_
          rintro w2 ⟨s, hs⟩
          have HB2 : Hid (Below w.heap.size w w2) := by rw [hs]; exact HB.out.trans (s.ok.mono HB.out.size)
          clear hs s
          go_wp2
          go_ret
          exact ⟨ret_bool HR.out.symm, HB2.out⟩
        | true =>
          by_cases hz : z < y.who
          · have hzd : decide (y.who ≤ z) = false := decide_eq_false (by omega)
            by_cases h9 : m = 9
            · subst h9
              have hm9 : ((9 : Int) != 9) = false := by decide
              have HL9 : Hid (decide (y.cs.length = 9) = true) := by show _ = _; rw [← HML.out]; rfl
              go_wp2
              refine wp_region_later (by kernel_rfl) (by kernel_rfl) ?_
              repeat (go_big_quiet_step ((rename_i t; first | with_reducible exact in_later hw t)))
              refine wpQuiet_nil ?_
              rintro w2 ⟨s, hs⟩
              have HB2 : Hid (Below w.heap.size w w2) := by rw [hs]; exact HB.out.trans (s.ok.mono HB.out.size)
              clear hs s
              have HP : Hid ((inB 1 9 (L.getD (j + 1) rwZ).who && (j + 1 == 0 || decide ((L.getD (j + 1 - 1) rwZ).who < (L.getD (j + 1) rwZ).who))) = true) := by show _ = _; rw [← HY.out, hw, show (j + 1 == 0) = false from rfl]; simp only [Nat.add_sub_cancel]; rw [← HZ.out, decide_eq_true hz]; rfl
              clear hz hzd p2 dz hw HZ d0 d1 p0 p1
              generalize hKJ : j + 1 = k at *
              have HKJ : Hid (j + 1 = k) := hKJ
              clear hKJ
              have HI : Hid (∀ w', Below w.heap.size w w' → RdI w' (.slice au 9 cu) y.cs) := fun w' h => HU.out w' h
              clear hne
              go_wp2
              try go_simp
              go_loopw [4] (fun j wq => ∃ (q : Nat), q ≤ 9 ∧ j = .int .i64 q ∧ Hid (allB (cAt y.cs) q = true) ∧ Hid (Below w.heap.size w wq)) (fun j _ => 9 - (intOf j).toNat)
              case atStart => exact ⟨0, Nat.zero_le _, rfl, rfl, HB2⟩
              case round =>
                obtain ⟨q, hq, rfl, HC, HBq⟩ := hrel
                by_cases hq9 : q < 9
                · have hqI : (q : Int) < 9 := by omega
                  obtain ⟨a', c', e', hl1, hl2, hcc⟩ := HI.out wr HBq.out
                  simp at e'
                  obtain ⟨rfl, hml, rfl⟩ := e'
                  obtain ⟨bu, ou, rfl, hbu, hcu⟩ := hcc (by omega)
                  have dq := hcu q (by omega)
                  obtain ⟨z, hz⟩ : ∃ z, z = y.cs.getD q 0 := ⟨_, rfl⟩
                  rw [← hz] at dq
                  have hcz : cAt y.cs q = inB 0 1000000 z := by rw [hz]; rfl
                  have hne := Later.any wr
                  have p0 : ∀ s : Later wr, s.val.cell? ⟨b, off + (k) * 2, none⟩ = some (.int .i64 y.who) := fun s => s.cell ((HBq.out.cell (p := ⟨b, _, none⟩) hbs).trans HD.out.1)
                  have p1 : ∀ s : Later wr, s.val.cell? ⟨b, off + (k) * 2 + 1, none⟩ = some (.slice (some ⟨bu, ou, none⟩) 9 cu) := fun s => s.cell ((HBq.out.cell (p := ⟨b, _, none⟩) hbs).trans HD.out.2)
                  have p3 : ∀ s : Later wr, s.val.cell? ⟨bu, ou + q, none⟩ = some (.int .i64 z) := fun s => s.cell dq
                  have o0 := (HBq.out.cell (p := ⟨b, off + (k) * 2, none⟩) hbs).trans HD.out.1
                  have o1 := (HBq.out.cell (p := ⟨b, off + (k) * 2 + 1, none⟩) hbs).trans HD.out.2
                  have HML9 : Hid (9 = y.cs.length) := hml
                  clear hcu hcc hz p0 p1 p3 hne hml
                  cases hin : inB 0 1000000 z with
                  | false =>
                    have HR : Hid (rowsB L = false) := rowsB_false (by rw [← HN.out]; exact hlt) (by unfold okR; rw [show csB (L.getD (k) rwZ).cs = false by rw [← HY.out]; unfold csB; rw [allB_false (p := cAt y.cs) (k := q) (by have := HML9.out; omega) (by rw [hcz, hin])]; simp]; simp)
                    clear hcz
                    go_wp2_with fail
                    refine (in_any z 0 1000000 _ hin _).mono ?_
                    rintro e w2 ⟨rfl, hw2⟩
                    rw [hw2]
                    clear hw2 w2
                    have HB2 : Hid (Below w.heap.size w wr) := HBq
                    go_wp2
                    go_ret
                    exact ⟨ret_bool HR.out.symm, HB2.out⟩
                  | true =>
                    have HC' : Hid (allB (cAt y.cs) (q + 1) = true) := by show _ = _; rw [allB_succ, HC.out, hcz, hin]; rfl
                    clear hcz
                    go_wp2_with fail
                    refine (in_any z 0 1000000 _ hin _).mono ?_
                    rintro e w2 ⟨rfl, hw2⟩
                    rw [hw2]
                    clear hw2 w2
                    have HB2 : Hid (Below w.heap.size w wr) := HBq
                    go_wp2
                    go_roundw
                    case rel => first | exact ⟨q + 1, by omega, by go_num, HC', HB2⟩ | (repeat (refine Exists.intro _ ?_); refine ⟨?_, rfl⟩; exact ⟨q + 1, by omega, by go_num, HC', HB2⟩)
                    case measure => simp [intOf]; omega
                · have hqe : q = 9 := by omega
                  subst hqe
                  have o0 := (HBq.out.cell (p := ⟨b, off + (k) * 2, none⟩) hbs).trans HD.out.1
                  have o1 := (HBq.out.cell (p := ⟨b, off + (k) * 2 + 1, none⟩) hbs).trans HD.out.2
                  have HK : Hid (allB (okR L) (k + 1) = true) := by
                    show _ = _
                    rw [allB_succ, HA.out]
                    show okR L (k) = true
                    unfold okR
                    rw [show csB (L.getD (k) rwZ).cs = true by rw [← HY.out]; unfold csB; rw [HL9.out, show y.cs.length = 9 from HML.out.symm, HC.out]; rfl]
                    rw [HP.out]; rfl
                  go_wp2
                  go_roundw
                  case rel => exact ⟨k + 1, by omega, by go_num, HK, HBq⟩
                  case measure => have := HKJ.out; simp [intOf]; omega
            · have hm9 : ((m : Int) != 9) = true := by simp; omega
              have HR : Hid (rowsB L = false) := rowsB_false (by rw [← HN.out]; exact hlt) (by unfold okR; rw [show csB (L.getD (j + 1) rwZ).cs = false by rw [← HY.out]; unfold csB; rw [← HML.out, decide_eq_false h9]; rfl]; simp)
              go_wp2
              refine wp_region_later (by kernel_rfl) (by kernel_rfl) ?_
              repeat (go_big_quiet_step ((rename_i t; first | with_reducible exact in_later hw t)))
              refine wpQuiet_nil ?_
              rintro w2 ⟨s, hs⟩
              have HB2 : Hid (Below w.heap.size w w2) := by rw [hs]; exact HB.out.trans (s.ok.mono HB.out.size)
              clear hs s
              go_wp2
              go_ret
              exact ⟨ret_bool HR.out.symm, HB2.out⟩
          · have hzd : y.who ≤ z := by omega
            have HR : Hid (rowsB L = false) := rowsB_false (by rw [← HN.out]; exact hlt) (by unfold okR; rw [← HY.out, hw, show (j + 1 == 0) = false from rfl]; simp only [Nat.add_sub_cancel]; rw [← HZ.out, decide_eq_false hz]; rfl)
            go_wp2
            refine wp_region_later (by kernel_rfl) (by kernel_rfl) ?_
            repeat (go_big_quiet_step ((rename_i t; first | with_reducible exact in_later hw t)))
            refine wpQuiet_nil ?_
            rintro w2 ⟨s, hs⟩
            have HB2 : Hid (Below w.heap.size w w2) := by rw [hs]; exact HB.out.trans (s.ok.mono HB.out.size)
            clear hs s
            go_wp2
            go_ret
            exact ⟨ret_bool HR.out.symm, HB2.out⟩
    · have hke : k = n := by omega
      subst hke
      have HR : Hid (rowsB L = true) := by show _ = _; unfold rowsB; rw [← HN.out]; exact HA.out
      clear hc
      go_wp2
      go_ret
      exact ⟨ret_bool HR.out.symm, HB.out⟩
end Go.Proofs.YtlibipbpaigmdaaGreatDoor

namespace Go.Proofs.YtlibipbpaigmdaaGreatDoor
open Go.RowKit Go.Maps
set_option linter.unusedVariables false

theorem results_row_tmp {P : Program} {fn : Func} {p u : Tmp} {ty : TypeId} (h : fn.results = #[.cell p ty, .tmp u]) (tmps : Array Value) (w : World) (g : Nat) (t : TypeId) (cs : Array Value) (fr : Nat × Nat) (d : TypeDesc)
    (hp : tmps.getD p undef = .pointer (some ⟨g, 0, none⟩)) (hg : w.heap[g]? = some (.cells cs t fr))
    (hu : P.underlying ty = some d) (hd : (match d with | .struct _ | .array _ _ => true | _ => false) = true) (hi : (P.info? ty).map (·.size) = some cs.size) :
    (results fn tmps).run P w = .ok (.tuple #[.agg cs, tmps.getD u undef]) w := by
  rw [results_cell_tmp h, hp]
  simp [asAddr, run_loadVar_row w g t ty cs fr d hg hu hd hi, Result.andThen]

/-- an array of numbers as its cells -/
def tlC (cs : List Int) : Array Value := (cs.map (fun z => Value.int .i64 z)).toArray
def z9 : List Int := [0, 0, 0, 0, 0, 0, 0, 0, 0]
theorem tlC_size (cs : List Int) : (tlC cs).size = cs.length := by unfold tlC; simp
theorem tlC_one (cs : List Int) : (tlC cs).all (·.oneCell') = true := by
  unfold tlC
  simp [Value.oneCell']
theorem infoT : (Tryz.prog.info? 85).map (·.size) = some 9 := by kernel_rfl
theorem copy_arr {cs : List Int} (h : cs.length = 9) : (copyTo (fun i => cs.getD i 0) 9 9).toArray = tlC cs := by
  have := copyTo_all cs
  rw [h] at this
  rw [this]
  rfl

set_option maxRecDepth 10000 in
set_option maxHeartbeats 4000000 in
theorem tallyOf_any (u : Value) (cs : List Int) (w : World) (h : RdI w u cs) :
    Calls Tryz.prog 89 #[u] w fun e w' => e = .returned (.tuple #[.agg (tlC (if csB cs = true then cs else z9)), .bool (csB cs)]) ∧ Below w.heap.size w w' := by
  obtain ⟨a, cap, rfl, hlc, hcm, hc⟩ := h
  obtain ⟨m, hm⟩ : ∃ m, m = cs.length := ⟨_, rfl⟩
  have HM : Hid (m = cs.length) := hm
  obtain ⟨R, hR⟩ : ∃ R, R = if csB cs = true then cs else z9 := ⟨_, rfl⟩
  obtain ⟨ok, hok⟩ : ∃ ok, ok = csB cs := ⟨_, rfl⟩
  have HR : Hid (R = (if csB cs = true then cs else z9) ∧ ok = csB cs) := ⟨hR, hok⟩
  rw [← hm] at hlc hc ⊢
  rw [← hR, ← hok]
  clear hm hR hok
  have HZ : Hid (tlC z9 = #[.int .i64 0, .int .i64 0, .int .i64 0, .int .i64 0, .int .i64 0, .int .i64 0, .int .i64 0, .int .i64 0, .int .i64 0]) := rfl
  have HB2 : Hid (∀ o o', Below w.heap.size w ((w.alloc o).alloc o')) := fun o o' => ((Below.refl _ _).alloc (Nat.le_refl _) _).alloc (by simp) _
  have HB1 : Hid (∀ o, Below w.heap.size w (w.alloc o)) := fun o => (Below.refl _ _).alloc (Nat.le_refl _) _
  by_cases h9 : m = 9
  · subst h9
    have h9b : ((9 : Int) != 9) = false := by decide
    obtain ⟨b, off, rfl, hbs, hcell⟩ := hc (by omega)
    obtain ⟨Z, hZ⟩ : ∃ Z : Nat → Int, Z = fun i => cs.getD i 0 := ⟨_, rfl⟩
    have HZZ : Hid (Z = fun i => cs.getD i 0) := hZ
    have HC : Hid (∀ i, i < 9 → w.cell? ⟨b, off + i, none⟩ = some (.int .i64 (Z i))) := by rw [hZ]; exact hcell
    have HG0 : Hid (∀ o, ((w.alloc (.cells #[.int .i64 0, .int .i64 0, .int .i64 0, .int .i64 0, .int .i64 0, .int .i64 0, .int .i64 0, .int .i64 0, .int .i64 0] 85)).alloc o).heap[w.heap.size]? = some (.cells (tlC z9) 85)) := fun o => by rw [Below.heap_alloc _ _ _ (by simp)]; exact heap_alloc_new _ _
    have HT0 : Hid (∀ o, ((w.alloc o).alloc (.cells #[.int .i64 0, .int .i64 0, .int .i64 0, .int .i64 0, .int .i64 0, .int .i64 0, .int .i64 0, .int .i64 0, .int .i64 0] 85)).heap[w.heap.size + 1]? = some (.cells (copyTo Z 9 0).toArray 85)) := fun o => by
      have h1 : (w.alloc o).heap.size = w.heap.size + 1 := by simp
      have h2 : (copyTo Z 9 0).toArray = #[.int .i64 0, .int .i64 0, .int .i64 0, .int .i64 0, .int .i64 0, .int .i64 0, .int .i64 0, .int .i64 0, .int .i64 0] := rfl
      rw [← h1, h2]
      exact heap_alloc_new _ _
    clear hc hcell hZ
    go_enter Tryz.func89, Tryz.ntmps89
    go_wp2
    go_loopw [13] (fun i wr => ∃ (k : Nat) (A : Array Value), k ≤ 9 ∧ i = .int .i64 k ∧ Hid (A = (copyTo Z 9 k).toArray) ∧ Hid (wr.heap[w.heap.size + 1]? = some (.cells A 85)) ∧ Hid (wr.heap[w.heap.size]? = some (.cells (tlC z9) 85)) ∧ Hid (allB (cAt cs) k = true) ∧ Hid (Below w.heap.size w wr)) (fun i _ => 9 - (intOf i).toNat)
    case atStart => exact ⟨0, _, Nat.zero_le _, rfl, rfl, HT0.out _, HG0.out _, rfl, HB2.out _ _⟩
    case round =>
      obtain ⟨k, A, hk, rfl, HA, HT, HG, HK, HB⟩ := hrel
      have hAs : A.size = 9 := by rw [HA.out]; simp [copyTo]
      clear HG0 HT0 HB2 HB1
      by_cases hlt : k < 9
      · have hltI : (k : Int) < 9 := by omega
        have ck := (HB.out.cell (p := ⟨b, off + k, none⟩) hbs).trans (HC.out k hlt)
        obtain ⟨z, hz⟩ : ∃ z, z = Z k := ⟨_, rfl⟩
        rw [← hz] at ck
        have hcz : cAt cs k = inB 0 1000000 z := by rw [hz, HZZ.out]; rfl
        have HZk : Hid (z = Z k) := hz
        have hbad : inB 0 1000000 z = false → R = z9 ∧ ok = false := fun hi => by
          have : csB cs = false := by unfold csB; rw [allB_false (p := cAt cs) (k := k) (by rw [← HM.out]; exact hlt) (by rw [hcz, hi])]; simp
          exact ⟨by rw [HR.out.1, this]; rfl, by rw [HR.out.2, this]⟩
        clear hz
        obtain ⟨q, hq⟩ : ∃ q, q = (#[.int .i64 0, .int .i64 0, .int .i64 0, .int .i64 0, .int .i64 0, .int .i64 0, .int .i64 0, .int .i64 0, .int .i64 0] : Array Value) := ⟨_, rfl⟩
        have hqi : (Tryz.prog.info? 85).map (·.size) = some q.size := by rw [hq]; exact infoT
        have hqo : (tlC z9).size = q.size := by rw [hq]; rfl
        have hq1 : q.all (·.oneCell') = true := by rw [hq]; simp [Value.oneCell']
        have HQ : Hid (q = tlC z9) := hq
        by_cases hz0 : z < 0
        · have hz0d : decide (z < 0) = true := decide_eq_true hz0
          have HRR : Hid (R = z9 ∧ ok = false) := hbad (by unfold inB; simp; omega)
          clear hbad hcz
          go_wp2_with (refine wpList_store_row rfl 85 _ _ rfl w.heap.size q rfl (congrArg Value.agg hq.symm) 85 _ HG.out hqi hqo hq1 ?_)
          refine bodyPost_ret (results_row_tmp rfl _ _ w.heap.size 85 _ _ _ rfl (setRow_heap _ _ _ _ _ _ HG.out) Tryz.underlying85 rfl infoT) rfl ⟨by rw [HRR.out.1, HRR.out.2]; rfl, below_setRow HB.out (Nat.le_refl _) _⟩
        · have hz0d : decide (z < 0) = false := decide_eq_false hz0
          by_cases hz1 : 1000000 < z
          · have hz1d : decide ((1000000 : Int) < z) = true := decide_eq_true hz1
            have HRR : Hid (R = z9 ∧ ok = false) := hbad (by unfold inB; simp; omega)
            clear hbad hcz
            go_wp2_with (refine wpList_store_row rfl 85 _ _ rfl w.heap.size q rfl (congrArg Value.agg hq.symm) 85 _ HG.out hqi hqo hq1 ?_)
            refine bodyPost_ret (results_row_tmp rfl _ _ w.heap.size 85 _ _ _ rfl (setRow_heap _ _ _ _ _ _ HG.out) Tryz.underlying85 rfl infoT) rfl ⟨by rw [HRR.out.1, HRR.out.2]; rfl, below_setRow HB.out (Nat.le_refl _) _⟩
          · have hz1d : decide ((1000000 : Int) < z) = false := decide_eq_false hz1
            have HK' : Hid (allB (cAt cs) (k + 1) = true) := by show _ = _; rw [allB_succ, HK.out, hcz]; unfold inB; simp; omega
            have f1 : wr.frozen? ⟨w.heap.size + 1, k, none⟩ = false := frozN HT.out
            have d1 : ∃ v, wr.cell? ⟨w.heap.size + 1, k, none⟩ = some v := ⟨A[k]'(by omega), by rw [cellN HT.out]; exact Array.getElem?_eq_getElem (by omega)⟩
            obtain ⟨v1, d1⟩ := d1
            have HT' : Hid ((wr.setCell ⟨w.heap.size + 1, k, none⟩ (.int .i64 z)).heap[w.heap.size + 1]? = some (.cells (copyTo Z 9 (k + 1)).toArray 85)) := by
              show _ = _
              rw [heap_setCell_same _ _ _ _ 85 _ HT.out, ← copyTo_set Z 9 k hlt, HA.out, HZk.out]
              simp
            have HG' : Hid ((wr.setCell ⟨w.heap.size + 1, k, none⟩ (.int .i64 z)).heap[w.heap.size]? = some (.cells (tlC z9) 85)) := by
              show _ = _
              rw [Below.heap_setCell _ _ _ _ (by simp)]
              exact HG.out
            have HB' : Hid (Below w.heap.size w (wr.setCell ⟨w.heap.size + 1, k, none⟩ (.int .i64 z))) := HB.out.setCell (p := ⟨w.heap.size + 1, k, none⟩) (by show w.heap.size ≤ w.heap.size + 1; omega) _
            clear hbad hcz hq hqi hqo hq1
            go_wp2
            go_roundw
            case rel => exact ⟨k + 1, _, by omega, by go_num, rfl, HT', HG', HK', HB'⟩
            case measure => simp [intOf]; omega
      · have hke : k = 9 := by omega
        subst hke
        have HRR : Hid (R = cs ∧ ok = true) := by
          have : csB cs = true := by unfold csB; rw [← HM.out, HK.out]; rfl
          exact ⟨by rw [HR.out.1, this]; rfl, by rw [HR.out.2, this]⟩
        have HAe : Hid (A = tlC cs) := by show _ = _; rw [HA.out, HZZ.out]; exact copy_arr HM.out.symm
        have hAi : (Tryz.prog.info? 85).map (·.size) = some A.size := by rw [hAs]; exact infoT
        have hAo : (tlC z9).size = A.size := by rw [hAs]; rfl
        have hA1 : A.all (·.oneCell') = true := by rw [HAe.out]; exact tlC_one _
        go_wp2_with (first
          | (refine wpList_load_row rfl 85 _ rfl (w.heap.size + 1) rfl 85 A _ _ HT.out Tryz.underlying85 rfl hAi ?_)
          | (refine wpList_store_row rfl 85 _ _ rfl w.heap.size A rfl rfl 85 _ HG.out hAi hAo hA1 ?_))
        refine bodyPost_ret (results_row_tmp rfl _ _ w.heap.size 85 _ _ _ rfl (setRow_heap _ _ _ _ _ _ HG.out) Tryz.underlying85 rfl hAi) rfl ⟨by rw [HRR.out.1, HRR.out.2, ← HAe.out]; rfl, below_setRow HB.out (Nat.le_refl _) _⟩
  · have h9b : ((m : Int) != 9) = true := by simp; omega
    have HRR : Hid (R = z9 ∧ ok = false) := by
      have : csB cs = false := by unfold csB; rw [← HM.out, decide_eq_false h9]; rfl
      exact ⟨by rw [HR.out.1, this]; rfl, by rw [HR.out.2, this]⟩
    go_enter Tryz.func89, Tryz.ntmps89
    go_wp2
    refine bodyPost_ret (results_row_tmp rfl _ _ w.heap.size 85 _ _ _ rfl (heap_alloc_new _ _) Tryz.underlying85 rfl infoT) rfl ⟨by rw [HRR.out.1, HRR.out.2]; rfl, HB1.out _⟩
end Go.Proofs.YtlibipbpaigmdaaGreatDoor

namespace Go.Proofs.YtlibipbpaigmdaaGreatDoor
open Go.RowKit Go.Maps
set_option linter.unusedVariables false

theorem tlC_at {cs : List Int} {i : Nat} (h : i < cs.length) : (tlC cs)[i]? = some (.int .i64 (cs.getD i 0)) := by
  unfold tlC
  simp [h]

set_option maxRecDepth 10000 in
set_option maxHeartbeats 2000000 in
theorem has_any (cs : List Int) (hcs : cs.length = 9) (b o : Nat) (d : Nd) (w : World) (nd : NdAt w b o d) (ha : 1 ≤ d.a ∧ d.a ≤ 9) :
    Calls Tryz.prog 151 #[.agg (tlC cs), .pointer (some ⟨b, o, none⟩)] w fun e w' => e = .returned (.bool (covB cs d)) ∧ Below w.heap.size w w' := by
  obtain ⟨p, hp⟩ : ∃ p, p = tlC cs := ⟨_, rfl⟩
  have nd2 := nd.below ((Below.refl _ _).alloc (Nat.le_refl _) (.cells p 85))
  obtain ⟨c0, c1, _, _, _, _, _⟩ := nd2
  obtain ⟨i, hi⟩ : ∃ i : Nat, d.a = (i : Int) + 1 := ⟨(d.a - 1).toNat, by omega⟩
  have hi9 : i < 9 := by omega
  have hi9I : (i : Int) < 9 := by omega
  obtain ⟨x, hx⟩ : ∃ x, x = cs.getD i 0 := ⟨_, rfl⟩
  obtain ⟨s, hs⟩ : ∃ s, s = d.s := ⟨_, rfl⟩
  have HR : Hid (covB cs d = decide (s ≤ x)) := by
    show _ = _
    unfold covB numOf
    rw [hs, hx, hi]
    have : ((i : Int) + 1 - 1).toNat = i := by omega
    rw [this]
  have hck : (w.alloc (.cells p 85)).cell? ⟨w.heap.size, i, none⟩ = some (.int .i64 x) := by
    rw [cellN (heap_alloc_new w _), hp, tlC_at (by omega), hx]
  have HB : Hid (Below w.heap.size w (w.alloc (.cells p 85))) := (Below.refl _ _).alloc (Nat.le_refl _) _
  have hg1 : decide ((1 : Int) ≤ (i : Int) + 1) = true := by simp; omega
  have hg2 : decide ((i : Int) + 1 ≤ 9) = true := by simp; omega
  have hsub : ((i : Int) + 1) - 1 = (i : Int) := by omega
  have hwr : IntKind.i64.wrap ((i : Int) + 1 - 1) = (i : Int) := by rw [IntKind.wrap_i64]; omega
  have hwi : IntKind.i64.wrap (i : Int) = (i : Int) := by rw [IntKind.wrap_i64]; omega
  rw [hi] at c0
  rw [← hs] at c1
  rw [← hp]
  clear nd ha hi hx hs hp
  go_enter Tryz.func151, Tryz.ntmps151
  go_wp2
  go_quiet (fail)
  go_wp2
  go_ret
  exact ⟨ret_v (by rw [HR.out]; rfl), HB.out.trans ⟨rfl, rfl, rfl, Nat.le_refl _, fun _ _ => rfl⟩⟩

theorem key_size {z : ByteArray} {kl : Lit} (hkz : keyOf Tryz.prog 9 (.string z) = some kl) : z.size ≤ 9223372036854775807 := by
  have h1 := hkz
  simp [keyOf, Tryz.underlying9, mapKey] at h1
  have := h1.1
  unfold maxLen at this
  omega

set_option maxRecDepth 10000 in
set_option maxHeartbeats 4000000 in
theorem hasBehind_any (cs : List Int) (hcs : cs.length = 9) (D : Nat → Nd) (len b off B : Nat) (x : ByteArray) (w : World) (hq : dagB D len = true) (hfin : Fine D len) (hnd : ∀ i, i < len → NdAt w b (off + i * 6) (D i)) (hmap : w.ownsMap Tryz.prog 9 PR B len (mapD D b off len)) (hx : x.size ≤ 9223372036854775807) :
    Calls Tryz.prog 92 #[.agg (tlC cs), .map (some B), .string x] w fun e w' => ∃ r : Bool, e = .returned (.bool r) ∧ (r = true ↔ CovP D len cs x) ∧ Below w.heap.size w w' := by
  obtain ⟨p, hp⟩ : ∃ p, p = tlC cs := ⟨_, rfl⟩
  obtain ⟨w2, hw2⟩ : ∃ w2, w2 = (w.alloc (.cells p 85)).alloc (.cells #[.string x] 9) := ⟨_, rfl⟩
  have s1 : (w.alloc (.cells p 85)).heap.size = w.heap.size + 1 := by simp
  have hB2 : Below w.heap.size w w2 := by rw [hw2]; exact ((Below.refl _ _).alloc (Nat.le_refl _) _).alloc (by rw [s1]; omega) _
  have g2 : w2.heap[w.heap.size + 1]? = some (.cells #[.string x] 9 (0, 0)) := by rw [hw2, ← s1]; exact heap_alloc_new _ _
  have g1 : w2.heap[w.heap.size]? = some (.cells p 85 (0, 0)) := by
    rw [hw2, Below.heap_alloc _ _ _ (by rw [s1]; omega)]; exact heap_alloc_new _ _
  have hlt2 : w.heap.size + 1 < w2.heap.size := lt_of_block g2
  have hT : IsStrs w2 (some ⟨w.heap.size + 1, 0, none⟩) 1 1 (one x) := by
    refine ⟨Nat.le_refl _, by omega, fun _ => ⟨_, 0, rfl, hlt2, fun i hi => ?_⟩⟩
    obtain rfl : i = 0 := by omega
    exact cellN g2
  have HK : Hid (Calls Tryz.prog 98 #[.map (some B), .slice (some ⟨w.heap.size + 1, 0, none⟩) 1 1] w2 fun e w' => ∃ F E, e = .returned (.map (some F)) ∧ w2.heap.size ≤ F ∧ SetOf w' F len E ∧ (∀ y, has E (.string y) = true ↔ Reach D len (one x) 1 y) ∧ Below w2.heap.size w2 w') :=
    idsBehind_any D len b off B _ 1 1 (one x) w2 hq hfin (fun i hi => (hnd i hi).below hB2) (ownsMap_below hmap hB2) hT (fun j _ => hx)
  have HG1 : Hid (w2.heap[w.heap.size]? = some (.cells p 85 (0, 0)) ∧ w.heap.size < w2.heap.size) := ⟨g1, by omega⟩
  have HB2 : Hid (Below w.heap.size w w2) := hB2
  have HW2 : Hid (w2 = (w.alloc (.cells p 85)).alloc (.cells #[.string x] 9)) := hw2
  have HQ : Hid (dagB D len = true) := hq
  have HND : Hid (∀ v, Below w2.heap.size w2 v → (∀ i, i < len → NdAt v b (off + i * 6) (D i)) ∧ v.ownsMap Tryz.prog 9 PR B len (mapD D b off len)) := fun v hv => by
    have hb := hB2.trans (hv.mono hB2.size)
    exact ⟨fun i hi => (hnd i hi).below hb, ownsMap_below hmap hb⟩
  have HPC : Hid (p = tlC cs) := hp
  have hpi : (Tryz.prog.info? 85).map (·.size) = some p.size := by rw [hp, tlC_size, hcs]; exact infoT
  rw [← hp]
  clear hq hfin hnd hmap hT g1 g2 hB2 hw2 s1 hlt2 hp
  go_enter Tryz.func92, Tryz.ntmps92
  go_wp2_with fail
  rw [← HW2.out]
  refine HK.out.mono ?_
  rintro e w3 ⟨F, E, rfl, hF, hS, hR, hB3⟩
  have HFS : Hid (w2.heap.size ≤ F) := hF
  have HS : Hid (w3.ownsMap Tryz.prog 9 unitElem F len E) := hS
  have HR : Hid (∀ y, has E (.string y) = true ↔ Reach D len (one x) 1 y) := hR
  have HB3 : Hid (Below w2.heap.size w2 w3) := hB3
  clear hF hS hR hB3 HK
  go_wp2_with (first
    | (at_range
       refine wpList_range_own _ rfl _ 97 rfl 9 117 lawS Tryz.underlying97 unitElem F len E rfl HS.out ?_
       intro w4 hrg4 hg4 hs4))
  go_frame
  have HR4 : Hid (w4.ranges Tryz.prog 9 unitElem F w3.heap.size len E (has E) (Maps.size E)) := hrg4
  have HB4 : Hid (Below w2.heap.size w2 w4) := HB3.out.grown hg4 HB3.out.size (fun j hj => by cases hj)
  clear hrg4 hg4 hs4
  go_loopw [7] (fun _ wr => ∃ (left : Lit → Bool) (cnt : Nat), wr.ranges Tryz.prog 9 unitElem F w3.heap.size len E left cnt ∧ Hid (∀ i, i < len → has E (.string (ids D i).toList) = true → left (.string (ids D i).toList) = false → covB cs (D i) = true) ∧ Below w2.heap.size w2 wr) (fun _ wr => wr.rangeLeft F w3.heap.size)
  case atStart => exact ⟨_, _, HR4.out, (fun i hi h1 h2 => by rw [h1] at h2; cases h2), HB4.out⟩
  case round =>
    obtain ⟨left, cnt, hrg, HC, hB⟩ := hrel
    have HG : Hid (wr.ranges Tryz.prog 9 unitElem F w3.heap.size len E left cnt) := hrg
    have HB : Hid (Below w2.heap.size w2 wr) := hB
    clear hB
    go_wp2_with (first
      | (at_next; refine wpList_next_ranges _ rfl _ rfl 9 lawS unitElem Value.string unitV keyS_inv unitV_inv F w3.heap.size len _ _ _ rfl hrg ?_ ?_))
    · intro _ hl0
      have HF : Hid (CovP D len cs x) := fun i hi hr => HC.out i hi ((HR.out _).2 hr) (hl0 _)
      clear hrg hl0
      go_wp2
      go_ret
      exact ⟨true, rfl, ⟨fun _ => HF.out, fun _ => rfl⟩, HB2.out.trans (HB.out.mono HB2.out.size)⟩
    · intro z c kl y ps w6 cnt6 hkz hlk hRv hat hrg6 hlt6 hg6 hs6 hen
      have hkl := keyS_lit hkz
      subst hkl
      have hzr : Reach D len (one x) 1 z.toList := by
        rw [← HR.out, ← keyL_list]
        exact has_true_of_atKey hat
      obtain ⟨i, hi, hiz⟩ := hzr.isId HQ.out
      have hB6 : Below w2.heap.size w2 w6 := HB.out.grown hg6 HB.out.size (fun j hj => by cases hj; exact HB3.out.size)
      obtain ⟨q, hrun, ho1, ho2⟩ := look_node (HND.out w6 hB6).2 z (key_size hkz)
      obtain ⟨i2, hi2, hi2z, hq2⟩ := ho2 ((outB_iff (ids D) z len).2 ⟨i, hi, hiz⟩)
      subst hq2
      have HI : Hid (i2 < len ∧ (ids D i2).toList = z.toList ∧ Reach D len (one x) 1 z.toList) := ⟨hi2, hi2z, hzr⟩
      have HG6 : Hid (w6.ranges Tryz.prog 9 unitElem F w3.heap.size len E (fun s => left s && !s.sameKey (keyL z)) cnt6) := hrg6
      have HB6 : Hid (Below w2.heap.size w2 w6) := hB6
      have HLT : Hid (cnt6 < cnt) := hlt6
      have hgb : w6.heap[w.heap.size]? = some (.cells p 85 (0, 0)) := (hB6.block _ HG1.out.2).trans HG1.out.1
      have HGB : Hid (w6.heap[w.heap.size]? = some (.cells p 85 (0, 0))) := hgb
      have HH : Hid (Calls Tryz.prog 151 #[.agg p, .pointer (some ⟨b, off + i2 * 6, none⟩)] w6 fun e w' => e = .returned (.bool (covB cs (D i2))) ∧ Below w6.heap.size w6 w') := by
        have := has_any cs hcs b (off + i2 * 6) (D i2) w6 ((HND.out w6 hB6).1 i2 hi2) (node_right (ok_at HQ.out hi2)).1
        rw [← HPC.out] at this
        exact this
      clear hrg hrg6 hRv hat hkz hlk hg6 hs6 hB6 hlt6 ho1 ho2 hiz hi2z hzr hgb hi hi2
      cases hcv : covB cs (D i2) with
      | true =>
        rw [hcv] at HH
        have HC' : Hid (∀ j, j < len → has E (.string (ids D j).toList) = true → (left (.string (ids D j).toList) && !(Lit.string (ids D j).toList).sameKey (keyL z)) = false → covB cs (D j) = true) := fun j hj h1 h2 => by
          by_cases hl : left (.string (ids D j).toList) = false
          · exact HC.out j hj h1 hl
          · have hl : left (.string (ids D j).toList) = true := by simpa using hl
            rw [hl, keyL_list] at h2
            have e : (ids D j).toList = z.toList := by simpa [Lit.sameKey] using h2
            rw [rise_inj (dagB_parts HQ.out).2.2.1 hj HI.out.1 (e.trans HI.out.2.1.symm)]
            exact hcv
        clear hcv
        go_wp2_with (first
          | (refine wpList_load_row rfl 85 _ rfl w.heap.size rfl 85 p _ _ HGB.out Tryz.underlying85 rfl hpi ?_)
          | (go_at_call 151; refine HH.out.mono ?_; rintro e w7 ⟨rfl, hB7⟩))
        have HB7 : Hid (Below w6.heap.size w6 w7) := hB7
        clear hB7
        go_roundw
        case rel => exact ⟨_, cnt6, ranges_below HG6.out HB7.out, HC'.out, HB6.out.trans (HB7.out.mono HB6.out.size)⟩
        case measure => rw [(ranges_below HG6.out HB7.out).left_eq, HG.out.left_eq]; exact HLT.out
      | false =>
        rw [hcv] at HH
        have HN : Hid (¬ CovP D len cs x) := fun hc => by
          have h1 := hc i2 HI.out.1 (by rw [HI.out.2.1]; exact HI.out.2.2)
          rw [hcv] at h1
          cases h1
        clear hcv
        go_wp2_with (first
          | (refine wpList_load_row rfl 85 _ rfl w.heap.size rfl 85 p _ _ HGB.out Tryz.underlying85 rfl hpi ?_)
          | (go_at_call 151; refine HH.out.mono ?_; rintro e w7 ⟨rfl, hB7⟩))
        go_ret
        exact ⟨false, rfl, ⟨fun h => (by cases h), fun h => absurd h HN.out⟩, HB2.out.trans ((HB6.out.trans (hB7.mono HB6.out.size)).mono HB2.out.size)⟩
end Go.Proofs.YtlibipbpaigmdaaGreatDoor

namespace Go.Proofs.YtlibipbpaigmdaaGreatDoor
open Go.RowKit Go.Maps
set_option linter.unusedVariables false

theorem csB_len {cs : List Int} (h : csB cs = true) : cs.length = 9 := by
  unfold csB at h
  simp only [Bool.and_eq_true, decide_eq_true_eq] at h
  exact h.1
theorem Up.snoc {L : List (List UInt8)} {x : List UInt8} (h : Up L) (hx : ∀ y ∈ L, Op.bytesLess y x = true) : Up (L ++ [x]) := by
  unfold Up
  rw [List.pairwise_append]
  exact ⟨h, by simp, fun y hy z hz => by simp at hz; subst hz; exact hx y hy⟩
theorem Up.at {L : List (List UInt8)} (h : Up L) {i j : Nat} (hij : i < j) (hj : j < L.length) : Op.bytesLess (L.getD i []) (L.getD j []) = true := by
  have := List.pairwise_iff_getElem.1 h i j (by omega) hj hij
  simpa [List.getD_eq_getElem?_getD, List.getElem?_eq_getElem hj, List.getElem?_eq_getElem (show i < L.length by omega)] using this
theorem mem_getD {L : List (List UInt8)} {x : List UInt8} : x ∈ L ↔ ∃ i, i < L.length ∧ L.getD i [] = x := by
  rw [List.mem_iff_getElem]
  constructor
  · rintro ⟨i, hi, e⟩
    exact ⟨i, hi, by rw [List.getD_eq_getElem?_getD, List.getElem?_eq_getElem hi]; exact e⟩
  · rintro ⟨i, hi, e⟩
    exact ⟨i, hi, by rw [List.getD_eq_getElem?_getD, List.getElem?_eq_getElem hi] at e; exact e⟩

/-- those of the first k of S that P holds for: kept in a list that rises -/
structure Sel (S : List (List UInt8)) (P : List UInt8 → Prop) (k : Nat) (L : List (List UInt8)) : Prop where
  up : Up L
  mem : ∀ x, x ∈ L ↔ ∃ i, i < k ∧ S.getD i [] = x ∧ P x
  len : L.length ≤ k
theorem Sel.nil (S : List (List UInt8)) (P : List UInt8 → Prop) : Sel S P 0 [] := ⟨by simp [Up], fun x => by simp, Nat.le_refl _⟩
theorem Sel.skip {S : List (List UInt8)} {P : List UInt8 → Prop} {k : Nat} {L : List (List UInt8)} (h : Sel S P k L) (hp : ¬ P (S.getD k [])) : Sel S P (k + 1) L :=
  ⟨h.up, fun x => by
    rw [h.mem x]
    constructor
    · rintro ⟨i, hi, e⟩; exact ⟨i, by omega, e⟩
    · rintro ⟨i, hi, e, hx⟩
      rcases Nat.lt_succ_iff_lt_or_eq.1 hi with h1 | rfl
      · exact ⟨i, h1, e, hx⟩
      · exact absurd (by rw [e]; exact hx) hp, by have := h.len; omega⟩
theorem Sel.add {S : List (List UInt8)} {P : List UInt8 → Prop} {k : Nat} {L : List (List UInt8)} (h : Sel S P k L) (hS : Up S) (hk : k < S.length) (hp : P (S.getD k [])) : Sel S P (k + 1) (L ++ [S.getD k []]) :=
  ⟨h.up.snoc (fun y hy => by
    obtain ⟨i, hi, e, _⟩ := (h.mem y).1 hy
    rw [← e]
    exact hS.at hi hk), fun x => by
    rw [List.mem_append, h.mem x, List.mem_singleton]
    constructor
    · rintro (⟨i, hi, e⟩ | rfl)
      · exact ⟨i, by omega, e⟩
      · exact ⟨k, by omega, rfl, hp⟩
    · rintro ⟨i, hi, e, hx⟩
      rcases Nat.lt_succ_iff_lt_or_eq.1 hi with h1 | rfl
      · exact .inl ⟨i, h1, e, hx⟩
      · exact .inr e.symm, by have := h.len; simp; omega⟩

set_option maxRecDepth 10000 in
set_option maxHeartbeats 8000000 in
theorem implSettled_any (a : Option Addr) (len cap : Nat) (D : Nat → Nd) (u : Value) (cs : List Int) (w : World) (h : IsNds w a len cap D) (hf : Fine D len) (hU : RdI w u cs) (hP : AllT w) :
    Calls Tryz.prog 19 #[.slice a len cap, u] w fun e w' => ∃ v L, e = .returned (.tuple #[v, .bool (dagB D len && csB cs)]) ∧ OwnL w' w.heap.size v L ∧ Up L ∧ (∀ x, x ∈ L ↔ (dagB D len && csB cs) = true ∧ SetP D len cs x) ∧ Below w.heap.size w w' := by
  obtain ⟨i0, hi, hz0, hz1, hz2⟩ := info_parts info9
  have HN : Hid (IsNds w a len cap D) := h
  have HF : Hid (Fine D len) := hf
  have HD : Hid (Calls Tryz.prog 88 #[.slice a len cap] w fun e w' => ∃ v, e = .returned (.tuple #[v, .bool (dagB D len)]) ∧ (dagB D len = true → ∃ B b off, v = .map (some B) ∧ w.heap.size ≤ B ∧ (0 < len → a = some ⟨b, off, none⟩) ∧ w'.ownsMap Tryz.prog 9 PR B len (mapD D b off len)) ∧ Below w.heap.size w w') := dagOf_any a len cap D w h hf hP
  have HT : Hid (∀ w', Below w.heap.size w w' → Calls Tryz.prog 89 #[u] w' fun e w'' => e = .returned (.tuple #[.agg (tlC (if csB cs = true then cs else z9)), .bool (csB cs)]) ∧ Below w'.heap.size w' w'') := fun w' hB => tallyOf_any u cs w' (hU.below hB)
  obtain ⟨R, hR⟩ : ∃ R, R = if csB cs = true then cs else z9 := ⟨_, rfl⟩
  have hR9 : R.length = 9 := by
    rw [hR]
    split
    · exact csB_len (by assumption)
    · rfl
  obtain ⟨q, hq⟩ : ∃ q, q = tlC R := ⟨_, rfl⟩
  have hqs : q.size = 9 := by rw [hq, tlC_size, hR9]
  have hqi : (Tryz.prog.info? 85).map (·.size) = some q.size := by rw [hqs]; exact infoT
  have hqo : (#[.int .i64 0, .int .i64 0, .int .i64 0, .int .i64 0, .int .i64 0, .int .i64 0, .int .i64 0, .int .i64 0, .int .i64 0] : Array Value).size = q.size := by rw [hqs]; rfl
  have hq1 : q.all (·.oneCell') = true := by rw [hq]; exact tlC_one _
  have HQ : Hid (q = tlC R ∧ R.length = 9 ∧ (csB cs = true → R = cs)) := ⟨hq, hR9, fun h => by rw [hR, if_pos h]⟩
  rw [← hR, ← hq] at HT
  clear hq hqs hR hR9 h hf hU
  obtain ⟨ok, hok⟩ : ∃ ok, ok = dagB D len := ⟨_, rfl⟩
  obtain ⟨ck, hck⟩ : ∃ ck, ck = csB cs := ⟨_, rfl⟩
  have HOK : Hid (ok = dagB D len ∧ ck = csB cs) := ⟨hok, hck⟩
  rw [← hok] at HD ⊢
  rw [← hck] at HT ⊢
  clear hok hck
  go_enter Tryz.func19, Tryz.ntmps19
  go_wp2_with fail
  refine HD.out.mono ?_
  rintro e w1 ⟨v, rfl, hv, hB1⟩
  have HB1 : Hid (Below w.heap.size w w1) := hB1
  have HV : Hid (ok = true → ∃ B b off, v = .map (some B) ∧ w.heap.size ≤ B ∧ (0 < len → a = some ⟨b, off, none⟩) ∧ w1.ownsMap Tryz.prog 9 PR B len (mapD D b off len)) := hv
  clear hB1 hv
  go_wp2_with fail
  refine (HT.out w1 HB1.out).mono ?_
  rintro e w2 ⟨rfl, hB2⟩
  have HB2 : Hid (Below w1.heap.size w1 w2) := hB2
  obtain ⟨w3, hw3⟩ : ∃ w3, w3 = (w2.alloc (.cells #[.int .i64 0, .int .i64 0, .int .i64 0, .int .i64 0, .int .i64 0, .int .i64 0, .int .i64 0, .int .i64 0, .int .i64 0] 85)).setRow w2.heap.size q := ⟨_, rfl⟩
  have hb3 : Below w2.heap.size w2 w3 := by rw [hw3]; exact below_setRow ((Below.refl _ _).alloc (Nat.le_refl _) _) (Nat.le_refl _) _
  have HG3 : Hid (w3.heap[w2.heap.size]? = some (.cells q 85 (0, 0))) := by rw [hw3]; exact setRow_heap _ _ _ _ _ _ (heap_alloc_new _ _)
  have HB3 : Hid (Below w1.heap.size w1 w3) := hB2.trans (hb3.mono hB2.size)
  have HW3 : Hid (w3 = (w2.alloc (.cells #[.int .i64 0, .int .i64 0, .int .i64 0, .int .i64 0, .int .i64 0, .int .i64 0, .int .i64 0, .int .i64 0, .int .i64 0] 85)).setRow w2.heap.size q) := hw3
  clear hB2 hb3 hw3
  cases ok with
  | false =>
    go_wp2_with (first
      | (refine wpList_store_row rfl 85 _ _ rfl w2.heap.size q rfl rfl 85 _ (heap_alloc_new _ _) hqi hqo hq1 ?_
         rw [← HW3.out]))
    go_ret2
    exact ⟨_, [], rfl, World.ownsRow_nil _ _ _ _, by simp [Up], fun x => by simp, HB1.out.trans (HB3.out.mono HB1.out.size)⟩
  | true =>
    cases ck with
    | false =>
      go_wp2_with (first
        | (refine wpList_store_row rfl 85 _ _ rfl w2.heap.size q rfl rfl 85 _ (heap_alloc_new _ _) hqi hqo hq1 ?_
           rw [← HW3.out]))
      go_ret2
      exact ⟨_, [], rfl, World.ownsRow_nil _ _ _ _, by simp [Up], fun x => by simp, HB1.out.trans (HB3.out.mono HB1.out.size)⟩
    | true =>
      obtain ⟨B, b, off, rfl, hBB, hab, hown⟩ := HV.out rfl
      have HDQ : Hid (dagB D len = true) := HOK.out.1.symm
      have HRC : Hid (q = tlC cs ∧ cs.length = 9) := by
        have h1 := HQ.out.2.2 HOK.out.2.symm
        exact ⟨by rw [HQ.out.1, h1], by rw [← h1]; exact HQ.out.2.1⟩
      have HM : Hid (∀ w', Below w1.heap.size w1 w' → (∀ i, i < len → NdAt w' b (off + i * 6) (D i)) ∧ w'.ownsMap Tryz.prog 9 PR B len (mapD D b off len)) := fun w' hB => ⟨fun i hi => dag_at (HN.out.below (HB1.out.trans (hB.mono HB1.out.size))) (hab (by omega)) i hi, ownsMap_below hown hB⟩
      have HLE : Hid (len ≤ 30) := (dagB_parts HDQ.out).1
      have HLN : Hid (len ≤ 1000000) := by show _ ≤ _; have := HLE.out; omega
      clear hown hab hBB HV
      go_wp2_with (first
        | (refine wpList_store_row rfl 85 _ _ rfl w2.heap.size q rfl rfl 85 _ (heap_alloc_new _ _) hqi hqo hq1 ?_
           rw [← HW3.out])
        | (go_at_call 91; refine (Tryz.maps_Keys_40 _ _).mono ?_; rintro e w4 ⟨rfl, hw4⟩; rw [hw4]; clear hw4 w4)
        | (go_at_call 90; refine (sorted40 B len _ PR w3 (HM.out w3 HB3.out).2 HLN.out).mono ?_; rintro e w5 ⟨v5, S, rfl, hU, hMS, hO5, hB5⟩; obtain ⟨sa, sc, rfl, hIS, _⟩ := hO5.strs2; have hn1 := hIS.1; have hn2 := hIS.2.1))
      have HB5 : Hid (Below w1.heap.size w1 w5) := HB3.out.trans (hB5.mono HB3.out.size)
      have HG5 : Hid (w5.heap[w2.heap.size]? = some (.cells q 85 (0, 0)) ∧ w2.heap.size < w5.heap.size) := by
        have := (hB5.block _ (lt_of_block HG3.out)).trans HG3.out
        exact ⟨this, lt_of_block this⟩
      have HS : Hid (Up S ∧ (∀ x, x ∈ S ↔ IsId D len x) ∧ S.length ≤ len) := by
        have hm : ∀ x, x ∈ S ↔ IsId D len x := fun x => by
          rw [hMS x]
          constructor
          · intro hx
            cases ho : outB (ids D) len (tx x) with
            | true =>
              have h1 := (mapD_at D b off (tx x) len).1 ho
              have h2 : has (mapD D b off len) (keyL (tx x)) = false := has_false_of_atKey h1
              rw [keyL_list, tx_list] at h2
              rw [h2] at hx
              cases hx
            | false =>
              obtain ⟨i, hi, e⟩ := (outB_iff (ids D) (tx x) len).1 ho
              exact ⟨i, hi, by rw [e, tx_list]⟩
          · rintro ⟨i, hi, e⟩
            have := mapD_has D b off len i hi
            rw [keyL_list, e] at this
            exact this
        exact ⟨hU, hm, up_len hU (fun x hx => (hm x).1 hx)⟩
      obtain ⟨n, hn⟩ : ∃ n, n = S.length := ⟨_, rfl⟩
      have HIS : Hid (∀ w', Below w5.heap.size w5 w' → IsStrs w' sa n sc (atL S)) := fun w' hB => by rw [hn]; exact hIS.below hB
      have HNS : Hid (n = S.length ∧ n ≤ 30) := ⟨hn, by rw [hn]; have := HS.out.2.2; have := HLE.out; omega⟩
      rw [← hn]
      clear hIS hO5 hB5 hU hMS hn hn1 hn2
      go_loopw [33, 10] (fun i u wr => ∃ (k : Nat) (L : List (List UInt8)) (v : Value), k ≤ n ∧ i = .int .i64 k ∧ v = u ∧ OwnL wr w5.heap.size v L ∧ Hid (Sel S (fun x => CovP D len cs (tx x)) k L) ∧ Below w5.heap.size w5 wr) (fun i _ _ => n - (Go.RowKit.intOf i).toNat)
      case atStart => exact ⟨0, [], _, Nat.zero_le _, rfl, rfl, World.ownsRow_nil _ _ _ _, Sel.nil _ _, Below.refl _ _⟩
      case round =>
        obtain ⟨k, L, v, hk, rfl, rfl, hO, HL, hB⟩ := hrel
        have HO : Hid (OwnL wr w5.heap.size v L) := hO
        have HB : Hid (Below w5.heap.size w5 wr) := hB
        have HIr := HIS.out wr hB
        obtain ⟨hlc, hcm, hc⟩ := HIr
        clear hO hB
        by_cases hlt : k < n
        · have hltI : (k : Int) < (n : Int) := by omega
          obtain ⟨sb, so, rfl, _, hcell⟩ := hc (by omega)
          have ck := hcell k hlt
          obtain ⟨z, hz⟩ : ∃ z, z = atL S k := ⟨_, rfl⟩
          rw [← hz] at ck
          have hzl : z.toList = S.getD k [] := by rw [hz, atL_list]
          have HB1r : Hid (Below w1.heap.size w1 wr) := HB5.out.trans (HB.out.mono HB5.out.size)
          have HGr : Hid (wr.heap[w2.heap.size]? = some (.cells q 85 (0, 0))) := (HB.out.block _ HG5.out.2).trans HG5.out.1
          have hid : IsId D len z.toList := by
            rw [hzl]
            exact (HS.out.2.1 _).1 (mem_getD.2 ⟨k, by rw [← HNS.out.1]; exact hlt, rfl⟩)
          have hzs : z.size ≤ 9223372036854775807 := by
            obtain ⟨i, hi, e⟩ := hid
            have h64 : (ids D i).size = 64 := id_size (ok_at HDQ.out hi)
            have : z = ids D i := by rw [← tx_toList z, ← tx_toList (ids D i), e]
            rw [this, h64]
            omega
          have HC : Hid (Calls Tryz.prog 92 #[.agg q, .map (some B), .string z] wr fun e w' => ∃ r : Bool, e = .returned (.bool r) ∧ (r = true ↔ CovP D len cs z) ∧ Below wr.heap.size wr w') := by
            rw [HRC.out.1]
            exact hasBehind_any cs HRC.out.2 D len b off B z wr HDQ.out HF.out (HM.out wr HB1r.out).1 (HM.out wr HB1r.out).2 hzs
          have HZ : Hid (z.toList = S.getD k [] ∧ k < S.length) := ⟨hzl, by rw [← HNS.out.1]; exact hlt⟩
          clear hcell hc hid hzs hz hzl
          go_wp2_with (first
            | (refine wpList_load_row rfl 85 _ rfl w2.heap.size rfl 85 q _ _ HGr.out Tryz.underlying85 rfl hqi ?_))
          refine HC.out.mono ?_
          rintro e w6 ⟨r, rfl, hr, hB6⟩
          have HB6 : Hid (Below w5.heap.size w5 w6) := HB.out.trans (hB6.mono HB.out.size)
          have HO6 : Hid (OwnL w6 w5.heap.size v L) := HO.out.below hB6
          have HR6 : Hid (r = true ↔ CovP D len cs z) := hr
          clear hB6 hr HC
          cases r with
          | false =>
            have HL' : Hid (Sel S (fun x => CovP D len cs (tx x)) (k + 1) L) := HL.out.skip (fun hp => by
              rw [← HZ.out.1, tx_toList] at hp
              have := HR6.out.2 hp
              cases this)
            go_wp2
            go_roundw
            case rel => exact ⟨k + 1, L, _, by omega, by go_num, rfl, HO6.out, HL'.out, HB6.out⟩
            case measure => simp [Go.RowKit.intOf]; omega
          | true =>
            have HL' : Hid (Sel S (fun x => CovP D len cs (tx x)) (k + 1) (L ++ [S.getD k []])) := HL.out.add HS.out.1 HZ.out.2 (by
              show CovP _ _ _ _
              rw [← HZ.out.1, tx_toList]
              exact HR6.out.1 rfl)
            have HLk : Hid (L.length ≤ 30) := by show _ ≤ _; have := HL.out.len; have := HNS.out.2; omega
            have HC1 : Hid (L.length + 1 ≤ maxLen ∧ (L.length + 1) * 16 ≤ 140737488355328) := ⟨by unfold maxLen; have := HLk.out; omega, by have := HLk.out; omega⟩
            have HO6x : Hid (w6.ownsRow w5.heap.size 9 1 v L.length (L.map encStr)) := HO6.out
            go_wp2_with (at_builtin; refine wpList_append_own _ rfl _ _ 25 rfl w5.heap.size 9 i0 (.string ⟨#[]⟩) 1 16 Tryz.underlying25 hi hz0 hz1 hz2 rfl (by decide) _ L.length _ rfl (HO6x.out.alloc _) ⟨w6.heap.size, 0, none⟩ 1 1 [.string z] rfl rfl (World.news_of_block (heap_alloc_new _ _)) (fun u hu => by simp at hu; subst hu; rfl) HC1.out.1 HC1.out.2 (by have := HB6.out.size; simp; omega) ?_; intro v7 w7 hown7 hgrow7 hnil7)
            have HF7 : Hid (OwnL w7 w5.heap.size v7 (L ++ [S.getD k []]) ∧ Below w5.heap.size w5 w7) := by
              refine ⟨?_, (HB6.out.alloc HB6.out.size _).grown hgrow7 (by have := HB6.out.size; simp; omega) (fun x hx => (World.ownsRow.lt HO6x.out x hx).1)⟩
              unfold OwnL
              rw [List.map_append, List.map_cons, List.map_nil, ← HZ.out.1, enc_str, List.length_append]
              exact hown7
            clear hown7 hgrow7 hnil7
            go_wp2
            go_roundw
            case rel => exact ⟨k + 1, _, _, by omega, by go_num, rfl, HF7.out.1, HL'.out, HF7.out.2⟩
            case measure => simp [Go.RowKit.intOf]; omega
        · have hke : k = n := by omega
          subst hke
          have HX : Hid (∀ x, x ∈ L ↔ SetP D len cs x) := fun x => by
            rw [HL.out.mem x]
            constructor
            · rintro ⟨i, hi, e, hp⟩
              exact ⟨(HS.out.2.1 x).1 (mem_getD.2 ⟨i, by rw [← HNS.out.1]; exact hi, e⟩), hp⟩
            · rintro ⟨h1, h2⟩
              obtain ⟨i, hi, e⟩ := mem_getD.1 ((HS.out.2.1 x).2 h1)
              exact ⟨i, by rw [HNS.out.1]; exact hi, e, h2⟩
          clear hc
          go_wp2
          go_ret2
          exact ⟨v, L, rfl, mono_base HO.out (Nat.le_trans HB1.out.size HB5.out.size), HL.out.up, fun x => by rw [HX.out x]; simp, HB1.out.trans ((HB5.out.trans (HB.out.mono HB5.out.size)).mono HB1.out.size)⟩
end Go.Proofs.YtlibipbpaigmdaaGreatDoor

namespace Go.Proofs.YtlibipbpaigmdaaGreatDoor
open Go.RowKit Go.Maps
set_option linter.unusedVariables false

theorem rows_one (cs : List Int) : rowsB [⟨1, cs⟩] = csB cs := by
  unfold rowsB
  show allB (okR [⟨1, cs⟩]) 1 = _
  rw [allB_succ]
  show (allB _ 0 && okR [⟨1, cs⟩] 0) = _
  unfold okR
  simp [allB, rwZ, inB]

theorem idsR_up {D : Nat → Nd} {len : Nat} (hq : dagB D len = true) : Up (idsL D len) := by
  unfold Up idsL
  rw [List.pairwise_map, List.pairwise_iff_getElem]
  intro i j hi hj hij
  simp only [List.length_range] at hi hj
  rw [List.getElem_range, List.getElem_range]
  have := rise_less (dagB_parts hq).2.2.1 i (j - i - 1) (by omega)
  rw [show i + (j - i - 1) + 1 = j by omega] at this
  exact this
theorem idsL_at {D : Nat → Nd} {len k : Nat} (hk : k < len) : (idsL D len).getD k [] = (ids D k).toList := by
  unfold idsL
  simp [hk]
theorem cov_iff {cs : List Int} {d : Nd} {x : Int} (hx : x = numOf cs d) : covB cs d = !(decide (x < d.s)) := by
  unfold covB
  rw [← hx]
  by_cases h : d.s ≤ x
  · rw [decide_eq_true h, decide_eq_false (by omega)]; rfl
  · rw [decide_eq_false h, decide_eq_true (by omega)]; rfl

set_option maxRecDepth 10000 in
set_option maxHeartbeats 8000000 in
theorem specSettled_any (a : Option Addr) (len cap : Nat) (D : Nat → Nd) (u : Value) (cs : List Int) (w : World) (h : IsNds w a len cap D) (hf : Fine D len) (hU : RdI w u cs) :
    Calls Tryz.prog 16 #[.slice a len cap, u] w fun e w' => ∃ v L, e = .returned (.tuple #[v, .bool (dagB D len && csB cs)]) ∧ OwnL w' w.heap.size v L ∧ Up L ∧ (∀ x, x ∈ L ↔ (dagB D len && csB cs) = true ∧ SetP D len cs x) ∧ Below w.heap.size w w' := by
  obtain ⟨i0, hi, hz0, hz1, hz2⟩ := info_parts info9
  obtain ⟨ua, uc, hue, _⟩ : ∃ ua uc, u = .slice ua cs.length uc ∧ True := hU.shape
  subst hue
  obtain ⟨m, hm⟩ : ∃ m, m = cs.length := ⟨_, rfl⟩
  have HN : Hid (∀ w', Below w.heap.size w w' → IsNds w' a len cap D) := fun w' hB => h.below hB
  have HF : Hid (Fine D len) := hf
  have HU : Hid (∀ w', Below w.heap.size w w' → RdI w' (.slice ua m uc) cs) := fun w' hB => by rw [hm]; exact hU.below hB
  have HM : Hid (m = cs.length) := hm
  rw [← hm]
  obtain ⟨hlc, hcm, _⟩ := h
  clear hf hU hm
  obtain ⟨ok, hok⟩ : ∃ ok, ok = (dagB D len && csB cs) := ⟨_, rfl⟩
  have HOK : Hid (ok = (dagB D len && csB cs)) := hok
  rw [← hok]
  clear hok
  go_enter Tryz.func16, Tryz.ntmps16
  go_wp2_with fail
  refine (specDagOk_any a len cap D w (HN.out w (Below.refl _ _)) HF.out).mono ?_
  rintro e w1 ⟨rfl, hB1⟩
  have HB1 : Hid (Below w.heap.size w w1) := hB1
  clear hB1
  cases hq : dagB D len with
  | false =>
    obtain rfl : ok = false := by rw [HOK.out, hq]; rfl
    go_wp2
    go_ret2
    exact ⟨_, [], rfl, World.ownsRow_nil _ _ _ _, by simp [Up], fun x => by simp, HB1.out⟩
  | true =>
    have HQ : Hid (dagB D len = true) := hq
    have HLE : Hid (len ≤ 30) := (dagB_parts hq).1
    obtain ⟨w2, hw2⟩ : ∃ w2, w2 = w1.alloc (.cells #[.int .i64 1, .slice ua m uc] 77) := ⟨_, rfl⟩
    have hB2 : Below w1.heap.size w1 w2 := by rw [hw2]; exact (Below.refl _ _).alloc (Nat.le_refl _) _
    have HRd : Hid (RdR w2 (.slice (some ⟨w1.heap.size, 0, none⟩) 1 1) [⟨1, cs⟩]) := by
      have g2 : w2.heap[w1.heap.size]? = some (.cells #[.int .i64 1, .slice ua m uc] 77 (0, 0)) := by rw [hw2]; exact heap_alloc_new _ _
      refine ⟨_, 1, rfl, Nat.le_refl _, by omega, fun _ => ⟨w1.heap.size, 0, rfl, lt_of_block g2, fun i hi => ?_⟩⟩
      have h0 : i < 1 := hi
      obtain rfl : i = 0 := by omega
      exact ⟨cellN g2, _, cellN g2, HU.out w2 (HB1.out.trans (hB2.mono HB1.out.size))⟩
    have HB2 : Hid (Below w1.heap.size w1 w2) := hB2
    have HW2 : Hid (w2 = w1.alloc (.cells #[.int .i64 1, .slice ua m uc] 77)) := hw2
    clear hq hB2 hw2
    go_wp2_with fail
    rw [← HW2.out]
    refine (specRows_any _ _ w2 HRd.out).mono ?_
    rintro e w3 ⟨rfl, hB3⟩
    rw [rows_one]
    have HB3 : Hid (Below w.heap.size w w3) := HB1.out.trans ((HB2.out.trans (hB3.mono HB2.out.size)).mono HB1.out.size)
    clear hB3 HB2 HW2 HRd
    cases hcb : csB cs with
    | false =>
      obtain rfl : ok = false := by rw [HOK.out, hcb]; simp
      go_wp2
      go_ret2
      exact ⟨_, [], rfl, World.ownsRow_nil _ _ _ _, by simp [Up], fun x => by simp, HB3.out⟩
    | true =>
      have hm9 : m = 9 := HM.out.trans (csB_len hcb)
      subst hm9
      have H9L : Hid (9 = cs.length) := HM.out
      obtain rfl : ok = true := by rw [HOK.out, HQ.out, hcb]; rfl
      clear hcb
      go_wp2_with fail
      refine (l6All_any a len cap D w3 (HN.out w3 HB3.out) HF.out HLE.out).mono ?_
      rintro e w4 ⟨g, gc, rfl, hI4, hB4⟩
      obtain ⟨hglc, hgcm, hgc⟩ := hI4
      have HI4 : Hid (∀ w', Below w4.heap.size w4 w' → IsStrs w' g len gc (ids D)) := fun w' hB => IsStrs.below ⟨hglc, hgcm, hgc⟩ hB
      obtain ⟨w5, hw5⟩ : ∃ w5, w5 = w4.alloc (.cells #[] 9) := ⟨_, rfl⟩
      have hB45 : Below w4.heap.size w4 w5 := by rw [hw5]; exact (Below.refl _ _).alloc (Nat.le_refl _) _
      have HO5 : Hid (OwnL w5 w4.heap.size (.slice (some ⟨w4.heap.size, 0, none⟩) 0 0) []) := by rw [hw5]; exact World.ownsRow_made w4 #[] 0 (Nat.le_refl _) (by decide) rfl
      have HB4 : Hid (Below w.heap.size w w4) := HB3.out.trans (hB4.mono HB3.out.size)
      have HB45 : Hid (Below w4.heap.size w4 w5) := hB45
      have HW5 : Hid (w5 = w4.alloc (.cells #[] 9)) := hw5
      clear hB4 hB45 hw5 hgc
      go_wp2
      rw [← HW5.out]
      clear HW5
      go_loopw [8, 7] (fun i u wr => ∃ (k : Nat) (L : List (List UInt8)) (v : Value), k ≤ len ∧ i = .int .i64 k ∧ v = u ∧ OwnL wr w4.heap.size v L ∧ Hid (Sel (idsL D len) (fun x => CovP D len cs (tx x)) k L) ∧ Below w4.heap.size w4 wr) (fun i _ _ => len - (Go.RowKit.intOf i).toNat)
      case atStart => exact ⟨0, [], _, Nat.zero_le _, rfl, rfl, HO5.out, Sel.nil _ _, HB45.out⟩
      case round =>
        obtain ⟨k, L, v, hk, rfl, rfl, hO, HL, hB⟩ := hrel
        have HO : Hid (OwnL wr w4.heap.size v L) := hO
        have HB : Hid (Below w4.heap.size w4 wr) := hB
        clear hO hB
        by_cases hlt : k < len
        · have hltI : (k : Int) < (len : Int) := by omega
          obtain ⟨gb, goff, rfl, _, hgcell⟩ := (HI4.out wr HB.out).2.2 (by omega)
          have hck := hgcell k hlt
          obtain ⟨z, hz⟩ : ∃ z, z = ids D k := ⟨_, rfl⟩
          rw [← hz] at hck
          obtain ⟨w6, hw6⟩ : ∃ w6, w6 = wr.alloc (.cells #[.string z] 9) := ⟨_, rfl⟩
          have hB6 : Below wr.heap.size wr w6 := by rw [hw6]; exact (Below.refl _ _).alloc (Nat.le_refl _) _
          have hT : IsStrs w6 (some ⟨wr.heap.size, 0, none⟩) 1 1 (one z) := by
            have g6 : w6.heap[wr.heap.size]? = some (.cells #[.string z] 9 (0, 0)) := by rw [hw6]; exact heap_alloc_new _ _
            refine ⟨Nat.le_refl _, by omega, fun _ => ⟨_, 0, rfl, lt_of_block g6, fun i hi => ?_⟩⟩
            obtain rfl : i = 0 := by omega
            exact cellN g6
          have HBw6 : Hid (Below w4.heap.size w4 w6) := HB.out.trans (hB6.mono HB.out.size)
          have HC6 : Hid (Calls Tryz.prog 85 #[.slice a len cap, .slice (some ⟨gb, goff, none⟩) len gc, .slice (some ⟨wr.heap.size, 0, none⟩) 1 1] w6 fun e w' => ∃ go oc L, e = .returned (.slice (some ⟨go, 0, none⟩) L.length oc) ∧ OwnS w' w6.heap.size go oc L ∧ Up L ∧ (∀ x, x ∈ L ↔ Reach D len (one z) 1 x) ∧ Below w6.heap.size w6 w') :=
            l6Behind_any a len cap D _ gc _ 1 1 (one z) w6 HQ.out (HN.out w6 (HB4.out.trans (HBw6.out.mono HB4.out.size))) (HI4.out w6 HBw6.out) hT
          have HW6 : Hid (w6 = wr.alloc (.cells #[.string z] 9)) := hw6
          have HZ : Hid (z = ids D k) := hz
          have HO6 : Hid (OwnL w6 w4.heap.size v L) := HO.out.below hB6
          clear hT hB6 hw6 hz hgcell
          go_wp2_with fail
          rw [← HW6.out]
          refine HC6.out.mono ?_
          rintro e w7 ⟨go, oc, R, rfl, hOR, hUR, hMR, hB7⟩
          have HB7 : Hid (Below w6.heap.size w6 w7) := hB7
          obtain ⟨n, hn⟩ : ∃ n, n = R.length := ⟨_, rfl⟩
          have HR : Hid (∀ w', Below w7.heap.size w7 w' → IsStrs w' (some ⟨go, 0, none⟩) n oc (atL R)) := fun w' hB => by rw [hn]; exact hOR.strs.below hB
          have HMR : Hid (∀ x : ByteArray, outB (atL R) n x = false ↔ Reach D len (one z) 1 x.toList) := fun x => by rw [hn, out_mem, hMR]
          have HO7 : Hid (OwnL w7 w4.heap.size v L) := HO6.out.below hB7
          have HBw7 : Hid (Below w4.heap.size w4 w7) := HBw6.out.trans (hB7.mono HBw6.out.size)
          rw [← hn]
          clear hOR hUR hMR hB7 hn HC6 HW6
          go_wp2
          go_loopw [11, 10] (fun i f ws => ∃ (j : Nat) (c : Bool), j ≤ len ∧ i = .int .i64 j ∧ f = .bool c ∧ Hid (c = true ↔ ∀ t, t < j → Reach D len (one z) 1 (ids D t).toList → covB cs (D t) = true) ∧ Below w7.heap.size w7 ws) (fun i _ _ => len - (Go.RowKit.intOf i).toNat)
          case atStart => exact ⟨0, true, Nat.zero_le _, rfl, rfl, ⟨fun _ t ht => absurd ht (Nat.not_lt_zero _), fun _ => rfl⟩, Below.refl _ _⟩
          case round =>
            obtain ⟨j, c, hj, rfl, rfl, HC, hBs⟩ := hrel
            have HBs : Hid (Below w7.heap.size w7 wr) := hBs
            clear hBs
            by_cases hjt : j < len
            · have hjI : (j : Int) < (len : Int) := by omega
              have hBww : Below w.heap.size w wr := HB4.out.trans ((HBw7.out.trans (HBs.out.mono HBw7.out.size)).mono HB4.out.size)
              have hN := HN.out wr hBww
              obtain ⟨_, _, hc⟩ := hN
              obtain ⟨b, off, rfl, _, hcell⟩ := hc (by omega)
              have nd := hcell j hjt
              obtain ⟨da, hda⟩ : ∃ x, x = (D j).a := ⟨_, rfl⟩
              obtain ⟨ds, hds⟩ : ∃ x, x = (D j).s := ⟨_, rfl⟩
              have hr := (node_right (ok_at HQ.out hjt)).1
              rw [← hda] at hr
              obtain ⟨t, ht⟩ : ∃ t : Nat, da = (t : Int) + 1 := ⟨(da - 1).toNat, by omega⟩
              have ht9 : t < 9 := by omega
              have ht9I : (t : Int) < 9 := by omega
              obtain ⟨ub, uo, hue, hucell⟩ : ∃ ub uo, ua = some ⟨ub, uo, none⟩ ∧ ∀ i, i < 9 → wr.cell? ⟨ub, uo + i, none⟩ = some (.int .i64 (cs.getD i 0)) := by
                obtain ⟨a', c', e', _, _, hx⟩ := HU.out wr hBww
                rw [← H9L.out] at hx
                obtain ⟨ub, uo, e2, _, hx2⟩ := hx (by omega)
                simp only [Value.slice.injEq] at e'
                obtain ⟨rfl, _, rfl⟩ := e'
                exact ⟨ub, uo, e2, hx2⟩
              subst hue
              obtain ⟨x, hx⟩ : ∃ x, x = cs.getD t 0 := ⟨_, rfl⟩
              have hnum : x = numOf cs (D j) := by
                unfold numOf
                rw [← hda, ht, hx]
                have : ((t : Int) + 1 - 1).toNat = t := by omega
                rw [this]
              have e0 := nd.c0
              have e1 := nd.c1
              rw [← hda, ht] at e0
              rw [← hds] at e1
              have e2 := hucell t ht9
              rw [← hx] at e2
              have e3 : wr.cell? ⟨gb, goff + j, none⟩ = some (.string (ids D j)) := by
                obtain ⟨gb', go', e', _, hx⟩ := (HI4.out wr (HBw7.out.trans (HBs.out.mono HBw7.out.size))).2.2 (by omega)
                simp only [Option.some.injEq, Addr.mk.injEq, and_true] at e'
                obtain ⟨rfl, rfl⟩ := e'
                exact hx j hjt
              obtain ⟨y, hy⟩ : ∃ y, y = ids D j := ⟨_, rfl⟩
              rw [← hy] at e3
              have HY : Hid (y = ids D j) := hy
              have HCV : Hid (covB cs (D j) = !(decide (x < ds))) := by show _ = _; rw [hds]; exact cov_iff hnum
              have p0 : ∀ s : Later wr, s.val.cell? ⟨b, off + j * 6, none⟩ = some (.int .i64 ((t : Int) + 1)) := fun s => s.cell e0
              have p1 : ∀ s : Later wr, s.val.cell? ⟨b, off + j * 6 + 1, none⟩ = some (.int .i64 ds) := fun s => s.cell e1
              have p2 : ∀ s : Later wr, s.val.cell? ⟨ub, uo + t, none⟩ = some (.int .i64 x) := fun s => s.cell e2
              have p3 : ∀ s : Later wr, s.val.cell? ⟨gb, goff + j, none⟩ = some (.string y) := fun s => s.cell e3
              have hne := Later.any wr
              have hg1 : decide ((9 : Int) < (t : Int) + 1) = false := by simp; omega
              have hsub : ((t : Int) + 1) - 1 = (t : Int) := by omega
              have hwr : IntKind.i64.wrap ((t : Int) + 1 - 1) = (t : Int) := by rw [IntKind.wrap_i64]; omega
              have hwi : IntKind.i64.wrap (t : Int) = (t : Int) := by rw [IntKind.wrap_i64]; omega
              obtain ⟨r, hrr⟩ : ∃ r, r = !(outB (atL R) n y) := ⟨_, rfl⟩
              have HRR : Hid (r = true ↔ Reach D len (one z) 1 (ids D j).toList) := by
                show _ ↔ _
                rw [← hy, ← HMR.out y, hrr]
                simp
              have HHS : Hid (∀ s : Later wr, Calls Tryz.prog 86 #[.slice (some ⟨go, 0, none⟩) n oc, .string y] s.val fun e w' => e = .returned (.bool r) ∧ Below s.val.heap.size s.val w') := fun s =>
                l1Has_below _ n oc (atL R) y s.val (HR.out s.val (HBs.out.trans (s.ok.mono HBs.out.size))) r hrr.symm
              clear hrr hy e0 e1 e2 e3 hda hds hr ht hx hnum nd hcell hc hucell hBww
              cases r with
              | false =>
                have HC' : Hid (c = true ↔ ∀ t, t < j + 1 → Reach D len (one z) 1 (ids D t).toList → covB cs (D t) = true) := by
                  show _ ↔ _
                  rw [HC.out]
                  refine ⟨fun h t ht hr => ?_, fun h t ht => h t (by omega)⟩
                  rcases Nat.lt_succ_iff_lt_or_eq.1 ht with h1 | rfl
                  · exact h t h1 hr
                  · exact absurd (HRR.out.2 hr) (by simp)
                go_wp2
                refine wp_region_later (by kernel_rfl) (by kernel_rfl) ?_
                repeat (go_big_quiet_step ((rename_i s; with_reducible exact Calls.later (HHS.out s))))
                refine wpQuiet_nil ?_
                rintro _ ⟨⟨w', hB2⟩, rfl⟩
                go_wp2
                go_roundw
                case rel => exact ⟨j + 1, c, by omega, by go_num, rfl, HC', HBs.out.trans (hB2.mono HBs.out.size)⟩
                case measure => simp [Go.RowKit.intOf]; omega
              | true =>
                cases hlx : decide (x < ds) with
                | false =>
                  have HC' : Hid (c = true ↔ ∀ t, t < j + 1 → Reach D len (one z) 1 (ids D t).toList → covB cs (D t) = true) := by
                    show _ ↔ _
                    rw [HC.out]
                    refine ⟨fun h t ht hr => ?_, fun h t ht => h t (by omega)⟩
                    rcases Nat.lt_succ_iff_lt_or_eq.1 ht with h1 | rfl
                    · exact h t h1 hr
                    · rw [HCV.out, hlx]; rfl
                  go_wp2
                  refine wp_region_later (by kernel_rfl) (by kernel_rfl) ?_
                  repeat (go_big_quiet_step ((rename_i s; with_reducible exact Calls.later (HHS.out s))))
                  refine wpQuiet_nil ?_
                  rintro _ ⟨⟨w', hB2⟩, rfl⟩
                  go_wp2
                  go_roundw
                  case rel => exact ⟨j + 1, c, by omega, by go_num, rfl, HC', HBs.out.trans (hB2.mono HBs.out.size)⟩
                  case measure => simp [Go.RowKit.intOf]; omega
                | true =>
                  have HC' : Hid (false = true ↔ ∀ t, t < j + 1 → Reach D len (one z) 1 (ids D t).toList → covB cs (D t) = true) := by
                    show _ ↔ _
                    refine ⟨fun h => (by cases h), fun h => ?_⟩
                    have := h j (by omega) (HRR.out.1 rfl)
                    rw [HCV.out, hlx] at this
                    cases this
                  go_wp2
                  refine wp_region_later (by kernel_rfl) (by kernel_rfl) ?_
                  repeat (go_big_quiet_step ((rename_i s; with_reducible exact Calls.later (HHS.out s))))
                  refine wpQuiet_nil ?_
                  rintro _ ⟨⟨w', hB2⟩, rfl⟩
                  go_wp2
                  go_roundw
                  case rel => exact ⟨j + 1, false, by omega, by go_num, rfl, HC', HBs.out.trans (hB2.mono HBs.out.size)⟩
                  case measure => simp [Go.RowKit.intOf]; omega
            · have hje : j = len := by omega
              have HCP : Hid (c = true ↔ CovP D len cs z) := by
                show _ ↔ _
                rw [HC.out, hje]
                rfl
              have HBs8 : Hid (Below w4.heap.size w4 wr) := HBw7.out.trans (HBs.out.mono HBw7.out.size)
              have HO8 : Hid (OwnL wr w4.heap.size v L) := HO7.out.below HBs.out
              have hzt : tx ((idsL D len).getD k []) = z := by rw [idsL_at hlt, HZ.out, tx_toList]
              have hzl : (idsL D len).getD k [] = z.toList := by rw [← hzt, tx_list]
              cases c with
              | false =>
                have HL' : Hid (Sel (idsL D len) (fun x => CovP D len cs (tx x)) (k + 1) L) := HL.out.skip (fun hp => by
                  rw [hzt] at hp
                  have := HCP.out.2 hp
                  cases this)
                clear hzt hzl
                go_wp2
                go_roundw
                case rel => exact ⟨k + 1, L, _, by omega, by go_num, rfl, HO8.out, HL'.out, HBs8.out⟩
                case measure => simp [Go.RowKit.intOf]; omega
              | true =>
                have HL' : Hid (Sel (idsL D len) (fun x => CovP D len cs (tx x)) (k + 1) (L ++ [z.toList])) := by
                  rw [← hzl]
                  exact HL.out.add (idsR_up HQ.out) (by rw [idsL_len]; exact hlt) (by
                    show CovP _ _ _ _
                    rw [hzt]
                    exact HCP.out.1 rfl)
                have HLk : Hid (L.length ≤ 30) := by show _ ≤ _; have := HL.out.len; have := HLE.out; omega
                have HC1 : Hid (L.length + 1 ≤ maxLen ∧ (L.length + 1) * 16 ≤ 140737488355328) := ⟨by unfold maxLen; have := HLk.out; omega, by have := HLk.out; omega⟩
                have HO8x : Hid (wr.ownsRow w4.heap.size 9 1 v L.length (L.map encStr)) := HO8.out
                have e3 : wr.cell? ⟨gb, goff + k, none⟩ = some (.string z) := by
                  obtain ⟨gb', go', e', _, hx⟩ := (HI4.out wr HBs8.out).2.2 (by omega)
                  simp only [Option.some.injEq, Addr.mk.injEq, and_true] at e'
                  obtain ⟨rfl, rfl⟩ := e'
                  rw [HZ.out]
                  exact hx k hlt
                clear hzt hzl
                go_wp2_with (at_builtin; refine wpList_append_own _ rfl _ _ 25 rfl w4.heap.size 9 i0 (.string ⟨#[]⟩) 1 16 Tryz.underlying25 hi hz0 hz1 hz2 rfl (by decide) _ L.length _ rfl (HO8x.out.alloc _) ⟨wr.heap.size, 0, none⟩ 1 1 [.string z] rfl rfl (World.news_of_block (heap_alloc_new _ _)) (fun u hu => by simp at hu; subst hu; rfl) HC1.out.1 HC1.out.2 (by have := HBs8.out.size; simp; omega) ?_; intro v7 w9 hown7 hgrow7 hnil7)
                have HF7 : Hid (OwnL w9 w4.heap.size v7 (L ++ [z.toList]) ∧ Below w4.heap.size w4 w9) := by
                  refine ⟨?_, (HBs8.out.alloc HBs8.out.size _).grown hgrow7 (by have := HBs8.out.size; simp; omega) (fun x hx => (World.ownsRow.lt HO8x.out x hx).1)⟩
                  unfold OwnL
                  rw [List.map_append, List.map_cons, List.map_nil, enc_str, List.length_append]
                  exact hown7
                clear hown7 hgrow7 hnil7
                go_wp2
                go_roundw
                case rel => exact ⟨k + 1, _, _, by omega, by go_num, rfl, HF7.out.1, HL'.out, HF7.out.2⟩
                case measure => simp [Go.RowKit.intOf]; omega
        · have hke : k = len := by omega
          have HX : Hid (∀ x, x ∈ L ↔ SetP D len cs x) := fun x => by
            rw [HL.out.mem x]
            constructor
            · rintro ⟨i, hi, e, hp⟩
              exact ⟨⟨i, by omega, by rw [← e, idsL_at (by omega)]⟩, hp⟩
            · rintro ⟨⟨i, hi, e⟩, h2⟩
              exact ⟨i, by omega, by rw [idsL_at hi]; exact e, h2⟩
          clear hk
          go_wp2
          go_ret2
          exact ⟨v, rfl, L, mono_base HO.out HB4.out.size, HL.out.up, fun x => by rw [HX.out x] <;> simp, HB4.out.trans (HB.out.mono HB4.out.size)⟩
end Go.Proofs.YtlibipbpaigmdaaGreatDoor

namespace Go.Proofs.YtlibipbpaigmdaaGreatDoor
open Go.RowKit
set_option linter.unusedVariables false

def lst9 (X : Nat → Int) : List Int := (List.range 9).map X
theorem lst9_len (X : Nat → Int) : (lst9 X).length = 9 := by unfold lst9; simp
def arr9 (X : Nat → Int) : Array Value := ((lst9 X).map (Value.int .i64 ·)).toArray
theorem arr9_list (X : Nat → Int) : (arr9 X).toList = (lst9 X).map (.int .i64 ·) := rfl
theorem arr9_size (X : Nat → Int) : (arr9 X).size = 9 := by unfold arr9 lst9; simp
theorem arr9_at (X : Nat → Int) {i : Nat} (h : i < 9) : (arr9 X)[i]? = some (.int .i64 (X i)) := by
  unfold arr9 lst9
  simp [h]
theorem arr9_one (X : Nat → Int) : (arr9 X).all (·.oneCell') = true := by
  unfold arr9 lst9
  simp [Value.oneCell']
theorem arr9_ext {X Y : Nat → Int} (h : ∀ i, i < 9 → X i = Y i) : arr9 X = arr9 Y := by
  unfold arr9 lst9
  congr 2
  exact List.map_congr_left (fun i hi => h i (List.mem_range.1 hi))
theorem arr9_set (X : Nat → Int) {k : Nat} (h : k < 9) (z : Int) : (arr9 X).setIfInBounds k (.int .i64 z) = arr9 (fun i => if i = k then z else X i) := by
  apply Array.ext'
  rw [Array.toList_setIfInBounds, arr9_list, arr9_list]
  apply List.ext_getElem?
  intro j
  unfold lst9
  by_cases hj : j < 9
  · by_cases e : k = j
    · subst e
      rw [List.getElem?_set_self (by simp; omega)]
      simp [hj]
    · rw [List.getElem?_set_ne e]
      simp [hj, Ne.symm e]
  · rw [List.getElem?_eq_none (by simp; omega), List.getElem?_eq_none (by simp; omega)]
theorem setC_heap {w : World} {B o : Nat} {v : Value} {cs : Array Value} {T : TypeId} {fr : Nat × Nat} (h : w.heap[B]? = some (.cells cs T fr)) : (w.setCell ⟨B, o, none⟩ v).heap[B]? = some (.cells (cs.setIfInBounds o v) T fr) := by
  simp [World.setCell, Array.getElem?_modify, h]
theorem cellC {w : World} {b i : Nat} {cs : Array Value} {t : TypeId} (h : w.heap[b]? = some (.cells cs t (0, 0))) : w.cell? ⟨b, i, none⟩ = cs[i]? := by simp [World.cell?, h]
theorem frozC {w : World} {b i : Nat} {cs : Array Value} {t : TypeId} (h : w.heap[b]? = some (.cells cs t (0, 0))) : w.frozen? ⟨b, i, none⟩ = false := by simp [World.frozen?, h]

theorem nilS (a : Addr) (n c : Nat) (w : World) : (binOp .eql 23 (.slice (some a) n c) (.slice none 0 0)).run Tryz.prog w = .ok (.bool false) w := by kernel_rfl

set_option maxHeartbeats 1000000 in
theorem clone_any (b c : Nat) (X : Nat → Int) (w : World) (hb : w.heap[b]? = some (.cells (arr9 X) 85)) :
    Calls Tryz.prog 160 #[.slice (some ⟨b, 0, none⟩) 9 9] w fun e w' => ∃ v, e = .returned v ∧ OwnI w' w.heap.size v (lst9 X) ∧ Below w.heap.size w w' := by
  obtain ⟨i0, hi, hz0, hz1, hz2⟩ := info_parts infoI
  have HM : Hid (∀ j u, ((lst9 X).map (Value.int .i64 ·))[j]? = some u → (w.alloc (.cells #[] 2)).cell? ((⟨b, 0, none⟩ : Addr).add j) = some u) := fun j u hu => by
    have hbl := lt_of_block hb
    have hb' : (w.alloc (.cells #[] 2)).heap[b]? = some (.cells (arr9 X) 85) := by rw [Below.heap_alloc _ _ _ hbl]; exact hb
    have e : (⟨b, 0, none⟩ : Addr).add j = ⟨b, j, none⟩ := by unfold Addr.add; split <;> simp_all
    rw [e, cellC hb', ← hu, ← arr9_list]
    simp
  have HO0 : Hid (OwnI (w.alloc (.cells #[] 2)) w.heap.size (.slice (some ⟨w.heap.size, 0, none⟩) 0 0) []) := World.ownsRow_made w #[] 0 (Nat.le_refl _) (by decide) rfl
  have HB0 : Hid (Below w.heap.size w (w.alloc (.cells #[] 2))) := (Below.refl _ _).alloc (Nat.le_refl _) _
  have HLL : Hid (((lst9 X).map (Value.int .i64 ·)).length = 9 * 1) := by show _ = _; rw [List.length_map, lst9_len]
  have HMX : Hid (0 + 9 ≤ maxLen ∧ (0 + 9) * 8 ≤ 140737488355328) := ⟨by unfold maxLen; omega, by omega⟩
  clear hb
  have hnn := nilS ⟨b, 0, none⟩ 9 9
  go_enter Tryz.func160, Tryz.ntmps160
  go_wp2_with (at_builtin; refine wpList_append_own _ rfl _ _ 23 rfl w.heap.size 2 i0 (.int .i64 0) 1 8 Tryz.underlying23 hi hz0 hz1 hz2 rfl (by decide) _ 0 [] rfl HO0.out ⟨b, 0, none⟩ 9 9 ((lst9 X).map (.int .i64 ·)) rfl HLL.out HM.out (by intro u hu; obtain ⟨z, _, rfl⟩ := List.mem_map.1 hu; rfl) HMX.out.1 HMX.out.2 HB0.out.size ?_; intro v4 w4 hown4 hgrow4 hnil4)
  have HF : Hid (OwnI w4 w.heap.size v4 (lst9 X) ∧ Below w.heap.size w w4) := by
    refine ⟨?_, HB0.out.grown hgrow4 HB0.out.size (fun x hx => (World.ownsRow.lt HO0.out x hx).1)⟩
    unfold OwnI
    rw [lst9_len]
    exact hown4
  clear hown4 hgrow4 hnil4
  go_wp2
  go_ret
  exact ⟨_, rfl, HF.out.1, HF.out.2⟩

set_option maxHeartbeats 1000000 in
theorem list_any (X : Nat → Int) (w : World) :
    Calls Tryz.prog 107 #[.agg (arr9 X)] w fun e w' => ∃ v, e = .returned v ∧ OwnI w' w.heap.size v (lst9 X) ∧ Below w.heap.size w w' := by
  obtain ⟨p, hp⟩ : ∃ p, p = arr9 X := ⟨_, rfl⟩
  rw [← hp]
  have HP : Hid (p = arr9 X) := hp
  clear hp
  have HB : Hid (Below w.heap.size w (w.alloc (.cells p 85))) := (Below.refl _ _).alloc (Nat.le_refl _) _
  have HG : Hid ((w.alloc (.cells p 85)).heap[w.heap.size]? = some (.cells (arr9 X) 85)) := by rw [← HP.out]; exact heap_alloc_new _ _
  go_enter Tryz.func107, Tryz.ntmps107
  go_wp2_with fail
  refine (clone_any w.heap.size 9 X _ HG.out).mono ?_
  rintro e w1 ⟨v, rfl, hO, hB⟩
  have HF : Hid (OwnI w1 w.heap.size v (lst9 X) ∧ Below w.heap.size w w1) := ⟨hO.base HB.out.size, HB.out.trans (hB.mono HB.out.size)⟩
  clear hO hB
  go_wp2
  go_ret
  exact ⟨_, rfl, HF.out.1, HF.out.2⟩

end Go.Proofs.YtlibipbpaigmdaaGreatDoor

namespace Go.Proofs.YtlibipbpaigmdaaGreatDoor
open Go.RowKit
set_option linter.unusedVariables false

/-- the last number of one among the first k nodes -/
def cnt (D : Nat → Nd) (who : Int) : Nat → Int
  | 0 => 0
  | k + 1 => if (D k).a = who then max (cnt D who k) (D k).s else cnt D who k
def cntF (D : Nat → Nd) (len : Nat) : Nat → Int := fun i => cnt D ((i : Int) + 1) len
theorem cnt_yes {D : Nat → Nd} {who : Int} {k : Nat} (h : (D k).a = who) : cnt D who (k + 1) = max (cnt D who k) (D k).s := by
  show (if _ then _ else _) = _
  rw [if_pos h]
theorem cnt_no {D : Nat → Nd} {who : Int} {k : Nat} (h : (D k).a ≠ who) : cnt D who (k + 1) = cnt D who k := by
  show (if _ then _ else _) = _
  rw [if_neg h]

set_option maxRecDepth 10000 in
set_option maxHeartbeats 2000000 in
theorem lastSeq_any (a : Option Addr) (len cap : Nat) (D : Nat → Nd) (who : Int) (w : World) (h : IsNds w a len cap D) :
    Calls Tryz.prog 106 #[.slice a len cap, .int .i64 who] w fun e w' => e = .returned (.int .i64 (cnt D who len)) ∧ Below w.heap.size w w' := by
  have HE := (show Hid _ from h)
  obtain ⟨hlc, hcm, hc⟩ := h
  go_enter Tryz.func106, Tryz.ntmps106
  go_wp2
  go_loopw [5, 10] (fun u i wr => ∃ (k : Nat) (c : Int), k ≤ len ∧ u = .int .i64 c ∧ i = .int .i64 k ∧ Hid (c = cnt D who k) ∧ Hid (Below w.heap.size w wr)) (fun _ i _ => len - (Go.RowKit.intOf i).toNat)
  case atStart => exact ⟨0, 0, Nat.zero_le _, rfl, rfl, rfl, Below.refl _ _⟩
  case round =>
    obtain ⟨k, c, hk, rfl, rfl, HC, HB⟩ := hrel
    by_cases hlt : k < len
    · obtain ⟨b, off, rfl, hbs, hcell⟩ := hc (by omega)
      have hltI : (k : Int) < (len : Int) := by omega
      have hBa := HB.out
      have nd : NdAt wr b (off + k * 6) (D k) := by
        have n1 := hcell k hlt
        exact ⟨(hBa.cell (p := ⟨b, _, none⟩) hbs).trans n1.c0, (hBa.cell (p := ⟨b, _, none⟩) hbs).trans n1.c1, (hBa.cell (p := ⟨b, _, none⟩) hbs).trans n1.c2, (hBa.cell (p := ⟨b, _, none⟩) hbs).trans n1.c3, (hBa.cell (p := ⟨b, _, none⟩) hbs).trans n1.c4, (hBa.cell (p := ⟨b, _, none⟩) hbs).trans n1.c5, n1.i.below hBa⟩
      obtain ⟨c0, c1, c2, c3, c4, c5, _⟩ := nd
      clear hBa hcell
      obtain ⟨da, hda⟩ : ∃ x, x = (D k).a := ⟨_, rfl⟩
      obtain ⟨ds, hds⟩ : ∃ x, x = (D k).s := ⟨_, rfl⟩
      rw [← hda] at c0
      rw [← hds] at c1
      have HB2 : Hid (∀ o, Below w.heap.size w (wr.alloc o)) := fun o => HB.out.alloc HB.out.size _
      cases hq : (da == who) with
      | false =>
        have HN : Hid (c = cnt D who (k + 1)) := by
          show _ = _
          rw [cnt_no (by rw [← hda]; simpa using hq)]
          exact HC.out
        clear hda hds
        go_wp2
        go_roundw
        case rel => exact ⟨k + 1, c, by omega, rfl, by go_num, HN.out, HB2.out _⟩
        case measure => simp [Go.RowKit.intOf]; omega
      | true =>
        have HN : Hid (max c ds = cnt D who (k + 1)) := by
          show _ = _
          rw [cnt_yes (by rw [← hda]; simpa using hq), ← hds, HC.out]
        clear hda hds
        go_wp2
        go_roundw
        case rel => exact ⟨k + 1, max c ds, by omega, rfl, by go_num, HN.out, HB2.out _⟩
        case measure => simp [Go.RowKit.intOf]; omega
    · have hke : k = len := by omega
      subst hke
      go_wp2
      go_ret
      exact ⟨by rw [← HC.out]; rfl, HB.out⟩
end Go.Proofs.YtlibipbpaigmdaaGreatDoor

namespace Go.Proofs.YtlibipbpaigmdaaGreatDoor
open Go.RowKit
set_option linter.unusedVariables false

def cntR (D : Nat → Nd) (len : Nat) : List Int := if dagB D len = true then lst9 (cntF D len) else []
/-- the tally when k of its numbers are set -/
def mixC (D : Nat → Nd) (len k : Nat) : Nat → Int := fun i => if i < k then cntF D len i else 0

set_option maxRecDepth 10000 in
set_option maxHeartbeats 4000000 in
theorem implCountsOf_any (a : Option Addr) (len cap : Nat) (D : Nat → Nd) (w : World) (h : IsNds w a len cap D) (hf : Fine D len) (hP : AllT w) :
    Calls Tryz.prog 40 #[.slice a len cap] w fun e w' => ∃ v, e = .returned (.tuple #[v, .bool (dagB D len)]) ∧ OwnI w' w.heap.size v (cntR D len) ∧ Below w.heap.size w w' := by
  have HE : Hid (∀ w', Below w.heap.size w w' → IsNds w' a len cap D) := fun w' hB => h.below hB
  have HF := (show Hid _ from hf)
  have HP := (show Hid _ from hP)
  go_enter Tryz.func40, Tryz.ntmps40
  go_wp2_with fail
  refine (implDagOk_any a len cap D w (HE.out w (Below.refl _ _)) HF.out HP.out).mono ?_
  rintro e w1 ⟨rfl, hB1⟩
  have HB1 := (show Hid _ from hB1)
  clear h hf hP hB1
  cases hd : dagB D len with
  | false =>
    have HR : Hid (OwnI w1 w.heap.size (.slice none 0 0) (cntR D len)) := by
      unfold cntR
      rw [hd]
      exact OwnI.nil _ _
    go_wp2
    go_ret2
    exact ⟨_, by rw [hd]; rfl, HR.out, HB1.out⟩
  | true =>
    have HD : Hid (cntR D len = lst9 (cntF D len)) := by show _ = _; unfold cntR; rw [if_pos hd]
    obtain ⟨w2, hw2⟩ : ∃ w2, w2 = w1.alloc (.cells #[.int .i64 0, .int .i64 0, .int .i64 0, .int .i64 0, .int .i64 0, .int .i64 0, .int .i64 0, .int .i64 0, .int .i64 0] 85) := ⟨_, rfl⟩
    obtain ⟨g, hg⟩ : ∃ g, g = w1.heap.size := ⟨_, rfl⟩
    have HA : Hid (w2.heap[g]? = some (.cells (arr9 (mixC D len 0)) 85 (0, 0))) := by
      have e : arr9 (mixC D len 0) = #[.int .i64 0, .int .i64 0, .int .i64 0, .int .i64 0, .int .i64 0, .int .i64 0, .int .i64 0, .int .i64 0, .int .i64 0] := by
        rw [arr9_ext (Y := fun _ => 0) (fun i _ => by unfold mixC; rw [if_neg (by omega)])]
        rfl
      rw [e, hw2, hg]
      exact heap_alloc_new _ _
    have HB2 : Hid (Below w1.heap.size w1 w2) := by rw [hw2]; exact (Below.refl _ _).alloc (Nat.le_refl _) _
    have HGE : Hid (w1.heap.size ≤ g) := by rw [hg]; exact Nat.le_refl _
    have HW2 := (show Hid _ from hw2)
    have HDD := (show Hid _ from hd)
    clear hw2 hd
    go_wp2
    rw [← HW2.out, ← hg]
    clear HW2 hg
    go_loopw [9] (fun i wr => ∃ (k : Nat), k ≤ 9 ∧ i = .int .i64 k ∧ Hid (wr.heap[g]? = some (.cells (arr9 (mixC D len k)) 85 (0, 0))) ∧ Hid (Below w1.heap.size w1 wr)) (fun i _ => 9 - (Go.RowKit.intOf i).toNat)
    case atStart => exact ⟨0, Nat.zero_le _, rfl, HA.out, HB2.out⟩
    case round =>
      obtain ⟨k, hk, rfl, HT, HBr⟩ := hrel
      by_cases hlt : k < 9
      · have hltI : (k : Int) < 9 := by omega
        go_wp2_with fail
        refine (lastSeq_any a len cap D ((k : Int) + 1) wr (HE.out wr (HB1.out.trans (HBr.out.mono HB1.out.size)))).mono ?_
        rintro e w3 ⟨rfl, hB3⟩
        have HT3 : Hid (w3.heap[g]? = some (.cells (arr9 (mixC D len k)) 85 (0, 0))) := (hB3.block _ (lt_of_block HT.out)).trans HT.out
        have HB3 : Hid (Below w1.heap.size w1 w3) := HBr.out.trans (hB3.mono HBr.out.size)
        have hck : w3.cell? ⟨g, k, none⟩ = some (.int .i64 (mixC D len k k)) := by rw [cellC HT3.out]; exact arr9_at _ hlt
        have hfz : w3.frozen? ⟨g, k, none⟩ = false := frozC HT3.out
        obtain ⟨z, hz⟩ : ∃ z, z = cnt D ((k : Int) + 1) len := ⟨_, rfl⟩
        have HN : Hid ((w3.setCell ⟨g, k, none⟩ (.int .i64 z)).heap[g]? = some (.cells (arr9 (mixC D len (k + 1))) 85 (0, 0)) ∧ Below w1.heap.size w1 (w3.setCell ⟨g, k, none⟩ (.int .i64 z))) := by
          refine ⟨?_, HB3.out.setCell HGE.out _⟩
          rw [setC_heap HT3.out, arr9_set _ hlt]
          have : arr9 (fun i => if i = k then z else mixC D len k i) = arr9 (mixC D len (k + 1)) := arr9_ext (fun i hi => by
            unfold mixC
            by_cases e : i = k
            · subst e
              rw [if_pos rfl, if_pos (by omega), hz]
              rfl
            · rw [if_neg e]
              by_cases h2 : i < k
              · rw [if_pos h2, if_pos (by omega)]
              · rw [if_neg h2, if_neg (by omega)])
          rw [this]
        rw [← hz]
        clear hB3 HT HT3 hz
        go_wp2
        go_roundw
        case rel => exact ⟨k + 1, by omega, by go_num, HN.out.1, HN.out.2⟩
        case measure => simp [Go.RowKit.intOf]; omega
      · have hke : k = 9 := by omega
        subst hke
        obtain ⟨A, hA⟩ : ∃ A, A = arr9 (mixC D len 9) := ⟨_, rfl⟩
        have HTA : Hid (wr.heap[g]? = some (.cells A 85 (0, 0))) := by rw [hA]; exact HT.out
        have hAi : (Tryz.prog.info? 85).map (·.size) = some A.size := by rw [hA, arr9_size]; kernel_rfl
        have HL : Hid (Calls Tryz.prog 107 #[.agg A] wr fun e w' => ∃ v, e = .returned v ∧ OwnI w' wr.heap.size v (lst9 (cntF D len)) ∧ Below wr.heap.size wr w') := by
          have e : A = arr9 (cntF D len) := by rw [hA]; exact arr9_ext (fun i hi => by unfold mixC; rw [if_pos hi])
          rw [e]
          exact list_any _ wr
        clear hA HT
        go_wp2_with (first | (refine wpList_load_row rfl 85 _ rfl g rfl 85 A _ _ HTA.out Tryz.underlying85 rfl hAi ?_))
        refine HL.out.mono ?_
        rintro e w4 ⟨v4, rfl, hO4, hB4⟩
        have HF : Hid (OwnI w4 w.heap.size v4 (cntR D len) ∧ Below w.heap.size w w4) := by
          have hB := HBr.out.trans (hB4.mono HBr.out.size)
          refine ⟨?_, HB1.out.trans (hB.mono HB1.out.size)⟩
          rw [HD.out]
          exact hO4.base (Nat.le_trans HB1.out.size HBr.out.size)
        clear hO4 hB4
        go_wp2
        go_ret2
        exact ⟨_, by rw [HDD.out]; rfl, HF.out.1, HF.out.2⟩
end Go.Proofs.YtlibipbpaigmdaaGreatDoor

namespace Go.Proofs.YtlibipbpaigmdaaGreatDoor
open Go.RowKit
set_option linter.unusedVariables false

theorem allB_atC {p : Nat → Bool} {n k : Nat} (h : allB p n = true) (hk : k < n) : p k = true := by
  cases h2 : p k with
  | true => rfl
  | false => rw [allB_false hk h2] at h; cases h
theorem arr9_zero : arr9 (fun _ => 0) = #[.int .i64 0, .int .i64 0, .int .i64 0, .int .i64 0, .int .i64 0, .int .i64 0, .int .i64 0, .int .i64 0, .int .i64 0] := rfl
theorem make9 (w : World) : (Instr.makeSlice 23 (.int .i64 9) (.int .i64 9)).run Tryz.prog w = .ok (.slice (some ⟨w.heap.size, 0, none⟩) 9 9) (w.alloc (.cells (arr9 (fun _ => 0)) 2)) := by
  obtain ⟨i0, hi, hz0, hz1, hz2⟩ := info_parts infoI
  have := run_make (P := Tryz.prog) w 23 2 i0 (.int .i64 0) Tryz.underlying23 hi hz0 .i64 .i64 9 9 (by omega) (by omega) (by rw [hz2]; omega) (by omega)
  rw [hz1] at this
  have hm : madeCells #[Value.int IntKind.i64 0] 9 = arr9 (fun _ => 0) := by kernel_rfl
  rw [← hm]
  simpa [Value.cells] using this

set_option maxRecDepth 10000 in
set_option maxHeartbeats 4000000 in
theorem specCountsOf_any (a : Option Addr) (len cap : Nat) (D : Nat → Nd) (w : World) (h : IsNds w a len cap D) (hf : Fine D len) :
    Calls Tryz.prog 41 #[.slice a len cap] w fun e w' => ∃ v, e = .returned (.tuple #[v, .bool (dagB D len)]) ∧ OwnI w' w.heap.size v (cntR D len) ∧ Below w.heap.size w w' := by
  have HE : Hid (∀ w', Below w.heap.size w w' → IsNds w' a len cap D) := fun w' hB => h.below hB
  have HF := (show Hid _ from hf)
  go_enter Tryz.func41, Tryz.ntmps41
  go_wp2_with fail
  refine (specDagOk_any a len cap D w (HE.out w (Below.refl _ _)) HF.out).mono ?_
  rintro e w1 ⟨rfl, hB1⟩
  have HB1 := (show Hid _ from hB1)
  clear h hf hB1
  cases hd : dagB D len with
  | false =>
    have HR : Hid (OwnI w1 w.heap.size (.slice none 0 0) (cntR D len)) := by
      unfold cntR
      rw [hd]
      exact OwnI.nil _ _
    go_wp2
    go_ret2
    exact ⟨_, by rw [hd]; rfl, HR.out, HB1.out⟩
  | true =>
    have HD : Hid (cntR D len = lst9 (cntF D len)) := by show _ = _; unfold cntR; rw [if_pos hd]
    have HAU : Hid (∀ k, k < len → 1 ≤ (D k).a ∧ (D k).a ≤ 9) := fun k hk => by
      unfold dagB at hd
      simp only [Bool.and_eq_true] at hd
      have := allB_atC hd.2.1 hk
      exact (node_right this).1
    have hl30 : len ≤ 30 := by
      unfold dagB at hd
      simp only [Bool.and_eq_true, decide_eq_true_eq] at hd
      exact hd.1
    obtain ⟨w2, hw2⟩ : ∃ w2, w2 = w1.alloc (.cells (arr9 (fun _ => 0)) 2) := ⟨_, rfl⟩
    obtain ⟨g, hg⟩ : ∃ g, g = w1.heap.size := ⟨_, rfl⟩
    have hmk := make9 w1
    rw [← hw2, ← hg] at hmk
    have HA : Hid (w2.heap[g]? = some (.cells (arr9 (fun i => cnt D ((i : Int) + 1) 0)) 2 (0, 0))) := by
      rw [hw2, hg]
      exact heap_alloc_new _ _
    have HB2 : Hid (Below w1.heap.size w1 w2) := by rw [hw2]; exact (Below.refl _ _).alloc (Nat.le_refl _) _
    have HGE : Hid (w1.heap.size ≤ g) := by rw [hg]; exact Nat.le_refl _
    have HDD := (show Hid _ from hd)
    have HC : Hid (∀ w', Below w.heap.size w w' → ∀ k, k < len → ∃ b off, a = some ⟨b, off, none⟩ ∧ NdAt w' b (off + k * 6) (D k)) := fun w' hB k hk => by
      obtain ⟨_, _, hc⟩ := HE.out w' hB
      obtain ⟨b, off, rfl, _, hcell⟩ := hc (by omega)
      exact ⟨b, off, rfl, hcell k hk⟩
    clear hw2 hd hg
    go_wp2
    clear hmk
    go_loopw [5] (fun i wr => ∃ (k : Nat), k ≤ len ∧ i = .int .i64 k ∧ Hid (wr.heap[g]? = some (.cells (arr9 (fun i => cnt D ((i : Int) + 1) k)) 2 (0, 0))) ∧ Hid (Below w1.heap.size w1 wr)) (fun i _ => len - (Go.RowKit.intOf i).toNat)
    case atStart => exact ⟨0, Nat.zero_le _, rfl, HA.out, HB2.out⟩
    case round =>
      obtain ⟨k, hk, rfl, HT, HBr⟩ := hrel
      by_cases hlt : k < len
      · have hltI : (k : Int) < (len : Int) := by omega
        obtain ⟨b, off, rfl, nd⟩ := HC.out wr (HB1.out.trans (HBr.out.mono HB1.out.size)) k hlt
        obtain ⟨c0, c1, c2, c3, c4, c5, _⟩ := nd
        obtain ⟨da, hda⟩ : ∃ x, x = (D k).a := ⟨_, rfl⟩
        obtain ⟨ds, hds⟩ : ∃ x, x = (D k).s := ⟨_, rfl⟩
        rw [← hda] at c0
        rw [← hds] at c1
        have hr := HAU.out k hlt
        rw [← hda] at hr
        obtain ⟨i, hi⟩ : ∃ i : Nat, da = (i : Int) + 1 := ⟨(da - 1).toNat, by omega⟩
        have hi9 : i < 9 := by omega
        have hin : inB 1 9 da = true := by
          unfold inB
          rw [decide_eq_true hr.1, decide_eq_true hr.2]
          rfl
        have HC1 : Hid (∀ w', Calls Tryz.prog 108 #[.int .i64 da, .int .i64 1, .int .i64 9] w' fun e w'' => e = .returned (.bool true) ∧ w'' = w') := fun w' => in_any da 1 9 true hin w'
        have hsub : da - 1 = (i : Int) := by omega
        have hwr : IntKind.i64.wrap (da - 1) = (i : Int) := by rw [IntKind.wrap_i64]; omega
        have hwi : IntKind.i64.wrap (i : Int) = (i : Int) := by rw [IntKind.wrap_i64]; omega
        have hi9I : (i : Int) < 9 := by omega
        obtain ⟨c, hc⟩ : ∃ c, c = cnt D ((i : Int) + 1) k := ⟨_, rfl⟩
        have hck : wr.cell? ⟨g, i, none⟩ = some (.int .i64 c) := by rw [cellC HT.out, hc]; exact arr9_at _ hi9
        have hfz : wr.frozen? ⟨g, i, none⟩ = false := frozC HT.out
        obtain ⟨wd, hwd⟩ : ∃ wd, wd = ({ wr with drawn := wr.drawn + 1 } : World) := ⟨_, rfl⟩
        have f0 : wd.cell? ⟨b, off + k * 6, none⟩ = some (.int .i64 da) := by rw [hwd]; exact c0
        have f1 : wd.cell? ⟨b, off + k * 6 + 1, none⟩ = some (.int .i64 ds) := by rw [hwd]; exact c1
        have fck : wd.cell? ⟨g, i, none⟩ = some (.int .i64 c) := by rw [hwd]; exact hck
        have ffz : wd.frozen? ⟨g, i, none⟩ = false := by rw [hwd]; exact hfz
        have HN : Hid ((wr.setCell ⟨g, i, none⟩ (.int .i64 (max c ds))).heap[g]? = some (.cells (arr9 (fun i => cnt D ((i : Int) + 1) (k + 1))) 2 (0, 0)) ∧ Below w1.heap.size w1 (wr.setCell ⟨g, i, none⟩ (.int .i64 (max c ds)))) := by
          refine ⟨?_, HBr.out.setCell HGE.out _⟩
          rw [setC_heap HT.out, arr9_set _ hi9]
          have : arr9 (fun j => if j = i then max c ds else cnt D ((j : Int) + 1) k) = arr9 (fun j => cnt D ((j : Int) + 1) (k + 1)) := arr9_ext (fun j hj => by
            by_cases e : j = i
            · subst e
              rw [if_pos rfl, cnt_yes (by rw [← hda]; exact hi), ← hds, hc]
            · rw [if_neg e, cnt_no (by rw [← hda]; omega)])
          rw [this]
        have HN2 : Hid ((wd.setCell ⟨g, i, none⟩ (.int .i64 (max c ds))).heap[g]? = some (.cells (arr9 (fun i => cnt D ((i : Int) + 1) (k + 1))) 2 (0, 0)) ∧ Below w1.heap.size w1 (wd.setCell ⟨g, i, none⟩ (.int .i64 (max c ds)))) := by
          rw [hwd]
          refine ⟨HN.out.1, ?_⟩
          have : Below w1.heap.size w1 ({ wr with drawn := wr.drawn + 1 } : World) := HBr.out.trans ⟨rfl, rfl, rfl, Nat.le_refl _, fun _ _ => rfl⟩
          exact this.setCell HGE.out _
        clear HT hda hds hr hi hin hc
        go_wp2_with fail
        refine (HC1.out wr).mono ?_
        rintro e w3 ⟨rfl, hw3⟩
        rw [hw3]
        clear hw3 w3
        go_wp2
        refine wp_region_still_tail 22 (by kernel_rfl) (by kernel_rfl) ?_
        simp only [List.take_succ_cons, List.take_zero, List.drop_succ_cons, List.drop_zero]
        rw [show ({ wr with drawn := wr.drawn + 1 } : World) = wd from hwd.symm]
        clear hwd
        repeat still_step
        refine wpStill_nil ?_
        go_wp2
        go_roundw
        case rel => exact ⟨k + 1, by omega, by go_num, HN2.out.1, HN2.out.2⟩
        case measure => simp [Go.RowKit.intOf]; omega
      · have hke : k = len := by omega
        subst hke
        have HF : Hid (OwnI wr w.heap.size (.slice (some ⟨g, 0, none⟩) 9 9) (cntR D k) ∧ Below w.heap.size w wr) := by
          refine ⟨?_, HB1.out.trans (HBr.out.mono HB1.out.size)⟩
          rw [HD.out]
          refine ⟨?_, .inr ⟨g, 9, _, ?_, ?_, HT.out, ?_, ?_, ?_, ?_⟩⟩
          · rw [List.length_map, lst9_len]
          · rw [lst9_len]
          · have := HGE.out; have := HB1.out.size; omega
          · rw [lst9_len]; omega
          · unfold maxLen; omega
          · rw [arr9_size]
          · rw [lst9_len, arr9_list, List.take_of_length_le (by rw [List.length_map, lst9_len]; omega)]
            rfl
        clear HT
        go_wp2
        go_ret2
        exact ⟨_, by rw [HDD.out]; rfl, HF.out.1, HF.out.2⟩
end Go.Proofs.YtlibipbpaigmdaaGreatDoor
