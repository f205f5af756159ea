/-
  Small laws for a range over a map of nodes or over a set of texts. No condition.
  Slices of numbers: how they read, slices that the call owns, the laws' own functions over them. No condition but that the slices read.
  The laws' own functions over numbers: the size left, a copy. No condition but that the slice reads.
  Rows: how they read, rows that the call owns, the laws' own functions over them. No condition but that the slices read.
  Copies of rows, and rows held against each other. No condition but that the slices read.
  The specification's test of rows. No condition but that the slices read.
  Tallies: the numbers of a row as an array, and all tallies in a map. No condition but that the slices read.
  Settled, the program's: what a tally covers, whether it covers all that stands behind an id. No condition but that the dag is right and lies.
  The specification's Part: what it answers, plainly. No condition but that the dag's texts are held by a machine.
  impl.copyOf, nodesOf: nodes behind pointers, copied. No condition but that the nodes lie there.
  impl.nodesOf: the nodes of a map, copied, by rising id. No condition but that the nodes lie there.
  impl.Part: what it answers, plainly. No condition but that the arguments read and that the tables lie.
  heldNodeS at nodes that were marked: it counts through. No condition but that the marks lie there.
  markNodeS at a dag of one's own whose ups lie apart: what it writes. No condition but that the dag is not too long.
  The law of Part returns true. No condition but that the slices read and that the tables lie.
-/
import Derived.Test.YtlibipbpaigmdaaGreatDoorDgB
import Derived.Test.YtlibipbpaigmdaaGreatDoorBase
import Derived.Laws.AppendOwn
import Derived.Deep.AppendLies
import Derived.Deep.Onto
import Derived.Laws.CopyOwn
import Derived.Test.YtlibipbpaigmdaaGreatDoorDgC
import Derived.Deep.Slices
import Derived.Lib.Small
import Derived.Handy
import Derived.Maps.OwnSet
import Derived.Maps.OwnOps
import Derived.Maps.Own
import Derived.Maps.Views
import Derived.Laws.Tables
import Derived.Laws.ResultCell
import Derived.Test.YtlibipbpaigmdaaGreatDoorDgA
import Derived.Test.YtlibipbpaigmdaaGreatDoorDgF
namespace Go.Proofs.YtlibipbpaigmdaaGreatDoor
open Go.RowKit Go.Maps
set_option linter.unusedVariables false

def unitV : Unit → Value := fun _ => .agg #[]
theorem unitV_inv (v : Value) (y : DataW Value × List MemPlace) (h : unitElem v = some y) : ∃ c : Unit, v = unitV c := ⟨(), (unitElem_inv h).1⟩

theorem ranges_kept' {w w' : World} {R : Value → Option (DataW Value × List MemPlace)} {B r n cnt K : Nat} {E : DataW Value} {left : Lit → Bool} (h : w.ranges Tryz.prog 9 R B r n E left cnt) (hg : w.grownBy w' (some K)) (h1 : B ≠ K) (h2 : r ≠ K) : w'.ranges Tryz.prog 9 R B r n E left cnt :=
  h.kept hg (by simpa using h1) (by simpa using h2)
theorem ranges_below {w w' : World} {R : Value → Option (DataW Value × List MemPlace)} {B r n cnt : Nat} {E : DataW Value} {left : Lit → Bool} (h : w.ranges Tryz.prog 9 R B r n E left cnt) (hB : Below w.heap.size w w') : w'.ranges Tryz.prog 9 R B r n E left cnt :=
  h.kept (row := none) (grown_below hB) (by simp) (by simp)

theorem struck (left : Lit → Bool) (D : Nat → Nd) {len i : Nat} {x : ByteArray} (hr : riseB (ids D) len = true) (hi : i < len) (hix : (ids D i).toList = x.toList) (i' : Nat) (hi' : i' < len) :
    (left (keyL (ids D i')) && !(keyL (ids D i')).sameKey (keyL x)) = false ↔ left (keyL (ids D i')) = false ∨ i' = i := by
  constructor
  · intro h
    by_cases hl : left (keyL (ids D i')) = false
    · exact .inl hl
    · have hl : left (keyL (ids D i')) = true := by simpa using hl
      rw [hl] at h
      have hk := keyL_inj (WideAt.sameKey_eq (show (keyL (ids D i')).sameKey (keyL x) = true by simpa using h))
      exact .inr (rise_inj hr hi' hi (hk.trans hix.symm))
  · rintro (h | rfl)
    · rw [h]; rfl
    · have : (keyL (ids D i')).sameKey (keyL x) = true := by rw [keyL_eq hix]; simp [keyL, Lit.sameKey]
      rw [this]; simp

theorem node_of {D : Nat → Nd} {b off len : Nat} {x : ByteArray} {c : Option Addr} {y : DataW Value} {ps : List MemPlace} (hRv : PR (Value.pointer c) = some (y, ps)) (hat : ∀ zd, (mapD D b off len).atKey (keyL x) zd = y) : ∃ i, i < len ∧ (ids D i).toList = x.toList ∧ c = some ⟨b, off + i * 6, none⟩ := by
  have hy : y = .held (.pointer c) := by
    simp only [PR, Option.some.injEq, Prod.mk.injEq] at hRv
    exact hRv.1.symm
  cases ho : outB (ids D) len x with
  | true =>
    have h1 := hat .nil
    rw [(mapD_at D b off x len).1 ho, hy] at h1
    cases h1
  | false =>
    obtain ⟨i, hi, e, ha⟩ := (mapD_at D b off x len).2 ho
    have h1 := hat .nil
    rw [ha, hy] at h1
    simp only [ptr, DataW.held.injEq, Value.pointer.injEq] at h1
    exact ⟨i, hi, e, h1.symm⟩
end Go.Proofs.YtlibipbpaigmdaaGreatDoor

namespace Go.Proofs.YtlibipbpaigmdaaGreatDoor
open Go.RowKit
set_option linter.unusedVariables false

theorem infoI : (Tryz.prog.info? 2).map (fun i => (i.zero, i.size, i.bytes)) = some (some (.int .i64 0), 1, 8) := by kernel_rfl
/-- a slice of numbers that reads as L -/
def RdI (w : World) (v : Value) (L : List Int) : Prop :=
  ∃ a cap, v = .slice a L.length cap ∧ L.length ≤ cap ∧ cap ≤ 9223372036854775807 ∧ (0 < L.length → ∃ b off, a = some ⟨b, off, none⟩ ∧ b < w.heap.size ∧ ∀ i, i < L.length → w.cell? ⟨b, off + i, none⟩ = some (.int .i64 (L.getD i 0)))
theorem RdI.below {w w' : World} {v : Value} {L : List Int} (h : RdI w v L) (hB : Below w.heap.size w w') : RdI w' v L := by
  obtain ⟨a, cap, rfl, h1, h2, h3⟩ := h
  refine ⟨a, cap, rfl, h1, h2, fun hp => ?_⟩
  obtain ⟨b, off, e, hb, hc⟩ := h3 hp
  exact ⟨b, off, e, Nat.lt_of_lt_of_le hb hB.size, fun i hi => (hB.cell (p := ⟨b, off + i, none⟩) hb).trans (hc i hi)⟩
/-- numbers in memory of the call's own -/
def OwnI (w : World) (base : Nat) (v : Value) (L : List Int) : Prop := w.ownsRow base 2 1 v L.length (L.map (.int .i64 ·))
theorem OwnI.below {w w' : World} {base : Nat} {v : Value} {L : List Int} (h : OwnI w base v L) (hB : Below w.heap.size w w') : OwnI w' base v L := ownsRow_below h hB
theorem OwnI.rd {w : World} {base : Nat} {v : Value} {L : List Int} (h : OwnI w base v L) : RdI w v L := by
  have h' := h
  obtain ⟨h1, h2⟩ := h
  rcases h2 with ⟨rfl, h0⟩ | ⟨g, cap, cur, rfl, hb, hh, hn, hc, hs, ht⟩
  · have hL : L = [] := List.eq_nil_of_length_eq_zero h0
    subst hL
    exact ⟨none, 0, rfl, Nat.le_refl _, by omega, fun h => absurd h (Nat.lt_irrefl _)⟩
  · refine ⟨_, cap, rfl, hn, by unfold maxLen at hc; omega, fun _ => ⟨g, 0, rfl, lt_of_block hh, fun i hi => ?_⟩⟩
    rw [Nat.zero_add, World.ownsRow.cellAt h' i (by omega)]
    simp [hi]
theorem OwnI.base {w : World} {base base' : Nat} {v : Value} {L : List Int} (h : OwnI w base v L) (hb : base' ≤ base) : OwnI w base' v L := World.ownsRow.mono h hb

theorem RdI.shape {w : World} {v : Value} {L : List Int} (h : RdI w v L) : ∃ a c, v = .slice a L.length c ∧ True := by
  obtain ⟨a, c, e, _⟩ := h
  exact ⟨a, c, e, trivial⟩
theorem OwnI.slice {w : World} {base : Nat} {v : Value} {L : List Int} (h : OwnI w base v L) : ∃ a c, v = .slice a L.length c := by
  obtain ⟨a, c, e, _⟩ := h.rd
  exact ⟨a, c, e⟩

theorem OwnI.kept {w w' : World} {base : Nat} {v : Value} {L : List Int} {r : Option Nat} (h : OwnI w base v L) (hG : w.grownBy w' r) (hne : ∀ k, v.ownBlock = some k → some k ≠ r) : OwnI w' base v L := by
  have hlt := World.ownsRow.lt h
  obtain ⟨h1, h2⟩ := h
  refine ⟨h1, ?_⟩
  rcases h2 with h2 | ⟨g, cap, cur, hv, hb, hh, q⟩
  · exact .inl h2
  · have hg : v.ownBlock = some g := by rw [hv]; rfl
    exact .inr ⟨g, cap, cur, hv, hb, (hG.block g (hlt g hg).2 (hne g hg)).trans hh, q⟩
theorem OwnI.nil (w : World) (base : Nat) : OwnI w base (.slice none 0 0) [] := ⟨rfl, .inl ⟨rfl, rfl⟩⟩

set_option maxHeartbeats 1000000 in
theorem eqI_same (v v' : Value) (L : List Int) (w : World) (h : RdI w v L) (h' : RdI w v' L) :
    Calls Tryz.prog 22 #[v, v'] w fun e w' => e = .returned (.bool true) ∧ Below w.heap.size w w' := by
  obtain ⟨a, cap, rfl, hlc, hcm, hc⟩ := h
  obtain ⟨a', cap', rfl, hlc', hcm', hc'⟩ := h'
  obtain ⟨len, hlen⟩ : ∃ len, len = L.length := ⟨_, rfl⟩
  rw [← hlen] at hlc hlc' hc hc' ⊢
  clear hlen
  have hbn : ((len : Int) != (len : Int)) = false := by simp
  go_enter Tryz.func22, Tryz.ntmps22
  go_wp2
  go_loopw [5] (fun i wr => ∃ (k : Nat), k ≤ len ∧ i = .int .i64 k ∧ Below w.heap.size w wr)
    (fun i _ => len - (intOf i).toNat)
  case atStart => exact ⟨0, Nat.zero_le _, rfl, Below.refl _ _⟩
  case round =>
    obtain ⟨k, hk, rfl, hB⟩ := hrel
    by_cases hlt : k < len
    · obtain ⟨b, off, rfl, hbs, hcell⟩ := hc (by omega)
      obtain ⟨b', off', rfl, hbs', hcell'⟩ := hc' (by omega)
      have d1 := (hB.cell (p := ⟨b, off + k, none⟩) hbs).trans (hcell k hlt)
      have d1' := (hB.cell (p := ⟨b', off' + k, none⟩) hbs').trans (hcell' k hlt)
      obtain ⟨z, hz⟩ : ∃ z, z = L.getD k 0 := ⟨_, rfl⟩
      rw [← hz] at d1 d1'
      have hss : (z != z) = false := by simp
      clear hcell hc hcell' hc' hz
      go_wp2
      go_quiet (fail)
      go_wp2
      go_roundw
      case rel => exact ⟨k + 1, by omega, by go_num, hB.trans ⟨rfl, rfl, rfl, Nat.le_refl _, fun _ _ => rfl⟩⟩
      case measure => simp [intOf]; omega
    · have hke : k = len := by omega
      subst hke
      go_wp2
      go_ret
      exact ⟨rfl, hB⟩

/-- n marks, from s on -/
def marksI (s n : Nat) : List Int := (List.range n).map fun i => ((s + i : Nat) : Int)
theorem marksI_len (s n : Nat) : (marksI s n).length = n := by unfold marksI; simp
theorem marksI_at {s n i : Nat} (h : i < n) : (marksI s n).getD i 0 = ((s + i : Nat) : Int) := by unfold marksI; simp [h]
theorem marksI_of {s n : Nat} {xs : List Value} (hl : xs.length = n) (h : ∀ i, i < n → xs[i]? = some (.int .i64 ((s + i : Nat) : Int))) : xs = (marksI s n).map (.int .i64 ·) := by
  apply List.ext_getElem?
  intro i
  by_cases hi : i < n
  · rw [h i hi]; unfold marksI; simp [hi]
  · rw [List.getElem?_eq_none (by omega), List.getElem?_eq_none (by simp [marksI_len]; omega)]

set_option maxHeartbeats 1000000 in
theorem markI_any (base : Nat) (v : Value) (L : List Int) (s : Nat) (w : World) (h : OwnI w base v L) (hb : L.length ≤ 1048576) (hs : s ≤ 2199023255552) :
    Calls Tryz.prog 24 #[v, .int .i64 (s : Int)] w fun e w' => e = .returned (.int .i64 ((s + L.length : Nat) : Int)) ∧ OwnI w' base v (marksI s L.length) ∧ w.grownBy w' v.ownBlock := by
  obtain ⟨a, cap, rfl⟩ := h.slice
  obtain ⟨len, hlen⟩ : ∃ len, len = L.length := ⟨_, rfl⟩
  have HO0 : Hid (w.ownsRow base 2 1 (.slice a len cap) len (L.map (.int .i64 ·))) := by rw [hlen]; exact h
  have hr : ∀ w' : World, w'.ownsRow base 2 1 (.slice a len cap) len ((marksI s len).map (.int .i64 ·)) → OwnI w' base (.slice a len cap) (marksI s len) := fun w' q => by unfold OwnI; rw [marksI_len]; exact q
  have HR := (show Hid _ from hr)
  have hcap : cap ≤ 9223372036854775807 ∧ len ≤ cap := by
    obtain ⟨a', c', e, h1, h2, _⟩ := h.rd
    simp at e
    obtain ⟨_, rfl⟩ := e
    rw [hlen]
    exact ⟨h2, h1⟩
  rw [← hlen] at hb ⊢
  clear hlen h hr
  obtain ⟨hcm, hlc⟩ := hcap
  go_enter Tryz.func24, Tryz.ntmps24
  go_wp2
  go_loopw [1, 5] (fun x i wr => ∃ (j : Nat) (xs : List Value), j ≤ len ∧ i = .int .i64 j ∧ x = .int .i64 ((s + j : Nat) : Int) ∧ wr.ownsRow base 2 1 (.slice a len cap) len xs ∧ Hid (∀ t, t < j → xs[t]? = some (.int .i64 ((s + t : Nat) : Int))) ∧ w.grownBy wr (Value.slice a len cap).ownBlock)
    (fun _ i _ => len - (intOf i).toNat)
  case atStart => exact ⟨0, _, Nat.zero_le _, rfl, rfl, HO0.out, fun t ht => absurd ht (Nat.not_lt_zero _), World.grownBy.refl _ _⟩
  case round =>
    obtain ⟨j, xs, hj, rfl, rfl, how, HA, hG⟩ := hrel
    by_cases hlt : j < len
    · obtain ⟨g, rfl⟩ : ∃ g, a = some ⟨g, 0, none⟩ := by
        rcases how.2 with ⟨h', h0⟩ | ⟨g, cap', cur, h', _⟩
        · omega
        · simp only [Value.slice.injEq] at h'
          exact ⟨g, h'.1⟩
      have hltI : (j : Int) < (len : Int) := by omega
      have hxl : xs.length = len * 1 := how.1
      have f1 := how.frozenAt j
      obtain ⟨v1, e1⟩ := own_some how j (by omega)
      have HO : Hid (_) := how
      have HG : Hid (_) := hG
      clear how hG
      go_wp2
      go_roundw
      case rel =>
        refine ⟨j + 1, xs.set j (.int .i64 ((s + j : Nat) : Int)), by omega, by go_num, by go_num, (World.ownsRow.stored HO.out _ _).1, ?_, HG.out.trans (World.ownsRow.stored HO.out _ _).2⟩
        intro t ht
        rcases Nat.lt_succ_iff_lt_or_eq.1 ht with h1 | rfl
        · rw [List.getElem?_set_ne (by omega)]
          exact HA.out t h1
        · rw [List.getElem?_set_self (by omega)]
      case measure => simp [intOf]; omega
    · have hje : j = len := by omega
      subst hje
      have hm : xs = (marksI s j).map (.int .i64 ·) := marksI_of (by have := how.1; omega) HA.out
      have HO : Hid (wr.ownsRow base 2 1 (.slice a j cap) j ((marksI s j).map (.int .i64 ·))) := by rw [← hm]; exact how
      clear how hm
      go_wp2
      go_ret
      exact ⟨rfl, HR.out _ HO.out, hG⟩

end Go.Proofs.YtlibipbpaigmdaaGreatDoor

namespace Go.Proofs.YtlibipbpaigmdaaGreatDoor
open Go.RowKit
set_option linter.unusedVariables false

/-- what toInt64S has written when k rounds are over -/
def copyTo (Z : Nat → Int) (n k : Nat) : List Value := (List.range n).map fun i => .int .i64 (if i < k then Z i else 0)

theorem made_ints (Z : Nat → Int) (n : Nat) : (madeCells (Value.int .i64 0).cells (n * 1)).toList = copyTo Z n 0 := by
  apply List.ext_getElem?
  intro i
  simp only [copyTo, madeCells, Value.cells, List.getElem?_map]
  by_cases h : i < n
  · simp [h, Nat.mod_one]
  · simp [h]

theorem copyTo_set (Z : Nat → Int) (n k : Nat) (hk : k < n) : (copyTo Z n k).set k (.int .i64 (Z k)) = copyTo Z n (k + 1) := by
  apply List.ext_getElem?
  intro i
  unfold copyTo
  rw [List.getElem?_set]
  by_cases hik : k = i
  · subst hik
    simp [hk]
  · rw [if_neg hik, List.getElem?_map, List.getElem?_map]
    have e : (i < k) ↔ (i < k + 1) := by omega
    by_cases h : i < n
    · simp [h, e]
    · simp [h]

theorem copyTo_all (L : List Int) : copyTo (fun i => L.getD i 0) L.length L.length = L.map (.int .i64 ·) := by
  apply List.ext_getElem?
  intro i
  unfold copyTo
  by_cases h : i < L.length
  · simp [h]
  · simp [h]

set_option maxHeartbeats 400000 in
theorem toI_any (v : Value) (L : List Int) (w : World) (h : RdI w v L) (hlen : L.length ≤ 1048576) :
    Calls Tryz.prog 18 #[v] w fun e w' => e = .returned (.slice (some ⟨w.heap.size, 0, none⟩) L.length L.length) ∧ OwnI w' w.heap.size (.slice (some ⟨w.heap.size, 0, none⟩) L.length L.length) L ∧ Below w.heap.size w w' := by
  obtain ⟨a, cap, rfl, hlc, hcm, hc⟩ := h
  have HF : Hid (copyTo (fun i => L.getD i 0) L.length L.length = L.map (.int .i64 ·)) := copyTo_all L
  obtain ⟨Z, hZ⟩ : ∃ Z : Nat → Int, Z = fun i => L.getD i 0 := ⟨_, rfl⟩
  have hc' : 0 < L.length → ∃ b off, a = some ⟨b, off, none⟩ ∧ b < w.heap.size ∧ ∀ i, i < L.length → w.cell? ⟨b, off + i, none⟩ = some (.int .i64 (Z i)) := by rw [hZ]; exact hc
  rw [← hZ] at HF
  obtain ⟨len, hl⟩ : ∃ len, len = L.length := ⟨_, rfl⟩
  have HL : Hid (len = L.length) := hl
  rw [← hl] at hlc hlen hc' HF ⊢
  clear hc hZ hl
  obtain ⟨i0, hi, hz0, hz1, hz2⟩ := info_parts infoI
  have hb2 : i0.bytes * len ≤ 281474976710656 := by rw [hz2]; omega
  have hb3 : len ≤ maxLen := by unfold maxLen; omega
  go_enter Tryz.func18, Tryz.ntmps18
  go_wp2_with (at_make; refine wpList_make_full _ rfl _ _ 23 rfl w.heap.size 2 i0 (.int .i64 0) 1 Tryz.underlying23 hi hz0 hz1 .i64 .i64 _ _ len rfl rfl rfl rfl hb2 hb3 (Nat.le_refl _) ?_; intro w1 hown hgrow)
  have hB1 : Below w.heap.size w w1 := (Below.refl _ w).grown hgrow (Nat.le_refl _) (fun k hk => by cases hk)
  rw [made_ints Z len] at hown
  clear hgrow
  go_loopw [4] (fun i wr => ∃ k : Nat, k ≤ len ∧ i = .int .i64 k ∧ wr.ownsRow w.heap.size 2 1 (.slice (some ⟨w.heap.size, 0, none⟩) len len) len (copyTo Z len k) ∧ Below w.heap.size w wr)
    (fun i _ => len - (intOf i).toNat)
  case atStart => exact ⟨0, Nat.zero_le _, rfl, hown, hB1⟩
  case round =>
    obtain ⟨k, hk, rfl, how, hB⟩ := hrel
    by_cases hlt : k < len
    · obtain ⟨b, off, rfl, hbs, hcell⟩ := hc' (by omega)
      have hck : wr.cell? ⟨b, off + k, none⟩ = some (.int .i64 (Z k)) := (hB.cell (p := ⟨b, off + k, none⟩) hbs).trans (hcell k hlt)
      have hfz := how.frozenAt k
      have hcl : ∃ v, wr.cell? ⟨w.heap.size, k, none⟩ = some v := by
        rw [how.cellAt k (by omega)]
        simp [copyTo, hlt]
      obtain ⟨v0, hcl⟩ := hcl
      have hst := (how.stored k (.int .i64 (Z k))).1
      rw [copyTo_set Z len k hlt] at hst
      have hB' : Below w.heap.size w (wr.setCell ⟨w.heap.size, k, none⟩ (.int .i64 (Z k))) := hB.setCell (p := ⟨w.heap.size, k, none⟩) (Nat.le_refl _) _
      clear how hown hB hB1
      go_wp2
      go_roundw
      case rel => exact ⟨k + 1, by omega, by go_num, hst, hB'⟩
      case measure => simp [intOf]; omega
    · have hke : k = len := by omega
      subst hke
      have hfin : Hid (OwnI wr w.heap.size (.slice (some ⟨w.heap.size, 0, none⟩) k k) L) := by
        show OwnI _ _ _ _
        unfold OwnI
        rw [← HL.out, ← HF.out]
        exact how
      clear how hown hB1 HF
      go_wp2
      go_ret
      exact ⟨rfl, hfin.out, hB⟩
end Go.Proofs.YtlibipbpaigmdaaGreatDoor

namespace Go.Proofs.YtlibipbpaigmdaaGreatDoor
open Go.RowKit
set_option linter.unusedVariables false

/-- a row as plain data -/
structure RwE where
  who : Int
  cs : List Int
def rwZ : RwE := ⟨0, []⟩
/-- a slice, nil or not, that reads as the rows L -/
def RdR (w : World) (v : Value) (L : List RwE) : Prop :=
  ∃ a cap, v = .slice a L.length cap ∧ L.length ≤ cap ∧ cap ≤ 9223372036854775807 ∧ (0 < L.length → ∃ b off, a = some ⟨b, off, none⟩ ∧ b < w.heap.size ∧
    ∀ i, i < L.length → w.cell? ⟨b, off + i * 2, none⟩ = some (.int .i64 (L.getD i rwZ).who) ∧ ∃ u, w.cell? ⟨b, off + i * 2 + 1, none⟩ = some u ∧ RdI w u (L.getD i rwZ).cs)
theorem RdR.below {w w' : World} {v : Value} {L : List RwE} (h : RdR w v L) (hB : Below w.heap.size w w') : RdR w' v L := by
  obtain ⟨a, cap, rfl, h1, h2, h3⟩ := h
  refine ⟨a, cap, rfl, h1, h2, fun hp => ?_⟩
  obtain ⟨b, off, e, hb, hc⟩ := h3 hp
  refine ⟨b, off, e, Nat.lt_of_lt_of_le hb hB.size, fun i hi => ?_⟩
  obtain ⟨c0, u, c1, c2⟩ := hc i hi
  exact ⟨(hB.cell (p := ⟨b, _, none⟩) hb).trans c0, u, (hB.cell (p := ⟨b, _, none⟩) hb).trans c1, c2.below hB⟩

theorem OwnI.blk {w w' : World} {base : Nat} {v : Value} {L : List Int} (h : OwnI w base v L) (he : ∀ k, v.ownBlock = some k → w'.heap[k]? = w.heap[k]?) : OwnI w' base v L := by
  obtain ⟨h1, h2⟩ := h
  refine ⟨h1, ?_⟩
  rcases h2 with h2 | ⟨g, cap, cur, hv, hb, hh, r⟩
  · exact .inl h2
  · exact .inr ⟨g, cap, cur, hv, hb, (he g (by rw [hv]; rfl)).trans hh, r⟩
/-- rows in memory of the call's own, in blocks from lo on and below hi -/
def OwnR (w : World) (lo hi : Nat) (v : Value) (L : List RwE) : Prop :=
  ∃ (xs : List Value) (u : Nat → Value), w.ownsRow lo 77 2 v L.length xs ∧ (∀ k, v.ownBlock = some k → k < hi) ∧
    (∀ i, i < L.length → xs[i * 2]? = some (.int .i64 (L.getD i rwZ).who) ∧ xs[i * 2 + 1]? = some (u i) ∧ OwnI w lo (u i) (L.getD i rwZ).cs ∧ ∀ k, (u i).ownBlock = some k → k < hi) ∧
    (∀ i j, i < L.length → j < i → ∀ k, (u i).ownBlock = some k → (u j).ownBlock ≠ some k)
theorem own_int {w : World} {base k : Nat} {v : Value} {L : List Int} (h : OwnI w base v L) (hk : v.ownBlock = some k) : ∃ cs, w.heap[k]? = some (.cells cs 2 (0, 0)) := by
  rcases h.2 with ⟨h1, _⟩ | ⟨g, cap, cur, hv, hg, hh, _⟩
  · rw [h1] at hk; cases hk
  · rw [hv] at hk
    have e : some g = some k := hk
    cases e
    exact ⟨_, hh⟩
theorem own_row {w : World} {base k n : Nat} {v : Value} {xs : List Value} (h : w.ownsRow base 77 2 v n xs) (hk : v.ownBlock = some k) : ∃ cs, w.heap[k]? = some (.cells cs 77 (0, 0)) := by
  rcases h.2 with ⟨h1, _⟩ | ⟨g, cap, cur, hv, hg, hh, _⟩
  · rw [h1] at hk; cases hk
  · rw [hv] at hk
    have e : some g = some k := hk
    cases e
    exact ⟨_, hh⟩
theorem row_ne_int {w : World} {b1 b2 k n : Nat} {v v' : Value} {xs : List Value} {L : List Int} (h : w.ownsRow b1 77 2 v n xs) (h' : OwnI w b2 v' L) (hk : v'.ownBlock = some k) : v.ownBlock ≠ some k := fun e => by
  obtain ⟨c1, e1⟩ := own_row h e
  obtain ⟨c2, e2⟩ := own_int h' hk
  rw [e1] at e2
  cases e2
theorem OwnR.at {w w' : World} {lo hi : Nat} {v : Value} {L : List RwE} (h : OwnR w lo hi v L) (he : ∀ k, lo ≤ k → k < hi → w'.heap[k]? = w.heap[k]?) : OwnR w' lo hi v L := by
  obtain ⟨xs, u, h1, h2, h3, h4⟩ := h
  refine ⟨xs, u, ?_, h2, fun i hi' => ?_, h4⟩
  · obtain ⟨q1, q2⟩ := h1
    refine ⟨q1, ?_⟩
    rcases q2 with q2 | ⟨g, cap, cur, hv, hb, hh, r⟩
    · exact .inl q2
    · exact .inr ⟨g, cap, cur, hv, hb, (he g hb (h2 g (by rw [hv]; rfl))).trans hh, r⟩
  · obtain ⟨c0, c1, c2, c3⟩ := h3 i hi'
    exact ⟨c0, c1, c2.blk (fun k hk => he k (World.ownsRow.lt c2 k hk).1 (c3 k hk)), c3⟩
theorem OwnR.lt {w : World} {lo hi : Nat} {v : Value} {L : List RwE} (h : OwnR w lo hi v L) (hh : hi ≤ w.heap.size) : OwnR w lo w.heap.size v L := by
  obtain ⟨xs, u, h1, h2, h3, h4⟩ := h
  exact ⟨xs, u, h1, fun k hk => Nat.lt_of_lt_of_le (h2 k hk) hh, fun i hi' => ⟨(h3 i hi').1, (h3 i hi').2.1, (h3 i hi').2.2.1, fun k hk => Nat.lt_of_lt_of_le ((h3 i hi').2.2.2 k hk) hh⟩, h4⟩
theorem OwnR.below {w w' : World} {lo hi : Nat} {v : Value} {L : List RwE} (h : OwnR w lo hi v L) (hh : hi ≤ w.heap.size) (hB : Below w.heap.size w w') : OwnR w' lo hi v L :=
  h.at fun k _ hk => hB.block k (Nat.lt_of_lt_of_le hk hh)
theorem OwnR.slice {w : World} {lo hi : Nat} {v : Value} {L : List RwE} (h : OwnR w lo hi v L) : (v = .slice none 0 0 ∧ L = []) ∨ ∃ g cap, v = .slice (some ⟨g, 0, none⟩) L.length cap ∧ L.length ≤ cap ∧ cap ≤ 9223372036854775807 ∧ lo ≤ g ∧ g < w.heap.size := by
  obtain ⟨xs, u, h1, h2, h3, h4⟩ := h
  rcases h1.2 with ⟨q1, q2⟩ | ⟨g, cap, cur, hv, hb, hh, r1, r2, _⟩
  · exact .inl ⟨q1, List.length_eq_zero_iff.1 q2⟩
  · unfold maxLen at r2
    exact .inr ⟨g, cap, hv, r1, by omega, hb, lt_of_block hh⟩
theorem OwnR.rd {w : World} {lo hi : Nat} {v : Value} {L : List RwE} (h : OwnR w lo hi v L) : RdR w v L := by
  rcases h.slice with ⟨rfl, rfl⟩ | ⟨g, cap, rfl, hc1, hc2, _, hg⟩
  · exact ⟨none, 0, rfl, Nat.le_refl _, by omega, fun h => absurd h (Nat.lt_irrefl _)⟩
  · obtain ⟨xs, u, h1, h2, h3, h4⟩ := h
    refine ⟨_, cap, rfl, hc1, hc2, fun _ => ⟨g, 0, rfl, hg, fun i hi => ?_⟩⟩
    obtain ⟨c0, c1, c2, c3⟩ := h3 i hi
    refine ⟨?_, u i, ?_, c2.rd⟩
    · rw [Nat.zero_add, h1.cellAt _ (by omega)]; exact c0
    · rw [Nat.zero_add, h1.cellAt _ (by omega)]; exact c1

end Go.Proofs.YtlibipbpaigmdaaGreatDoor

namespace Go.Proofs.YtlibipbpaigmdaaGreatDoor
open Go.RowKit
set_option linter.unusedVariables false

theorem infoR : (Tryz.prog.info? 77).map (fun i => (i.zero, i.size, i.bytes)) = some (some (.agg #[.int .i64 0, .slice none 0 0]), 2, 32) := by kernel_rfl

end Go.Proofs.YtlibipbpaigmdaaGreatDoor

namespace Go.Proofs.YtlibipbpaigmdaaGreatDoor
open Go.RowKit
set_option linter.unusedVariables false

theorem allB_at {p : Nat → Bool} {n k : Nat} (h : allB p n = true) (hk : k < n) : p k = true := by
  unfold allB at h
  rw [List.all_eq_true] at h
  exact h k (List.mem_range.2 hk)
theorem in_later {n lo hi : Int} {b : Bool} (hb : inB lo hi n = b) {w : World} (t : Later w) : Calls Tryz.prog 108 #[.int .i64 n, .int .i64 lo, .int .i64 hi] t.val fun e w'' => e = .returned (.bool b) ∧ ∃ s' : Later w, w'' = s'.val :=
  (in_any n lo hi b hb t.val).mono fun e w' ⟨h1, h2⟩ => ⟨h1, t, h2⟩

/-- a number of a row -/
def cAt (cs : List Int) (i : Nat) : Bool := inB 0 1000000 (cs.getD i 0)
/-- the numbers of a row are right -/
def csB (cs : List Int) : Bool := decide (cs.length = 9) && allB (cAt cs) cs.length
/-- the row at place i is right by itself and stands behind the one ahead of it -/
def okR (L : List RwE) (i : Nat) : Bool := (inB 1 9 (L.getD i rwZ).who && (i == 0 || decide ((L.getD (i - 1) rwZ).who < (L.getD i rwZ).who))) && csB (L.getD i rwZ).cs
def rowsB (L : List RwE) : Bool := allB (okR L) L.length
theorem rowsB_false {L : List RwE} {k : Nat} (hk : k < L.length) (h : okR L k = false) : rowsB L = false := allB_false hk h

theorem IL_at {w : World} {a : Option Addr} {n cap : Nat} {L : List Int} (h : RdI w (.slice a n cap) L) : n = L.length := by
  obtain ⟨a', c', e, _⟩ := h
  simp at e
  exact e.2.1
set_option maxRecDepth 10000 in
set_option maxHeartbeats 4000000 in
theorem specRows_any (v : Value) (L : List RwE) (w : World) (h : RdR w v L) :
    Calls Tryz.prog 83 #[v] w fun e w' => e = .returned (.bool (rowsB L)) ∧ Below w.heap.size w w' := by
  obtain ⟨a, cap, rfl, hlc, hcm, hc⟩ := h
  obtain ⟨n, hn⟩ : ∃ n, n = L.length := ⟨_, rfl⟩
  have HN : Hid (n = L.length) := hn
  rw [← hn] at hlc hc ⊢
  clear hn
  go_enter Tryz.func83, Tryz.ntmps83
  go_wp2
  go_loopw [3] (fun i wr => ∃ (k : Nat), k ≤ n ∧ i = .int .i64 k ∧ Hid (allB (okR L) k = true) ∧ Hid (Below w.heap.size w wr)) (fun i _ => n - (intOf i).toNat)
  case atStart => exact ⟨0, Nat.zero_le _, rfl, rfl, Below.refl _ _⟩
  case round =>
    obtain ⟨k, hk, rfl, HA, HB⟩ := hrel
    by_cases hlt : k < n
    · have hltI : (k : Int) < (n : Int) := by omega
      obtain ⟨b, off, rfl, hbs, hcell⟩ := hc (by omega)
      obtain ⟨c0, u, c1, c2⟩ := hcell k hlt
      obtain ⟨au, cu, hu, _⟩ := c2.shape
      subst hu
      obtain ⟨y, hy⟩ : ∃ y, y = L.getD k rwZ := ⟨_, rfl⟩
      rw [← hy] at c0 c1 c2
      have HU0 : Hid (∀ w', Below w.heap.size w w' → RdI w' (.slice au y.cs.length cu) y.cs) := fun w' h => c2.below h
      obtain ⟨m, hm⟩ : ∃ m, m = y.cs.length := ⟨_, rfl⟩
      have HML : Hid (m = y.cs.length) := hm
      have HU : Hid (∀ w', Below w.heap.size w w' → RdI w' (.slice au m cu) y.cs) := by rw [hm]; exact HU0
      rw [← hm] at c1
      have HD : Hid (w.cell? ⟨b, off + k * 2, none⟩ = some (.int .i64 y.who) ∧ w.cell? ⟨b, off + k * 2 + 1, none⟩ = some (.slice au m cu)) := ⟨c0, c1⟩
      have HY : Hid (y = L.getD k rwZ) := hy
      have d0 := (HB.out.cell (p := ⟨b, off + k * 2, none⟩) hbs).trans c0
      have d1 := (HB.out.cell (p := ⟨b, off + k * 2 + 1, none⟩) hbs).trans c1
      clear c0 c1 c2 hy hm HU0
      by_cases hk0 : k = 0
      · have HK0 : Hid ((k == 0) = true) := by show _ = _; simpa using hk0
        have hk0n : ¬ (0 < k) := by omega
        have hk0i : (k : Int) ≤ 0 := by omega
        have hk0d : decide ((0 : Int) < (k : Int)) = false := by simp; omega
        clear hcell hc hk0
        have hne := Later.any wr
        have p0 : ∀ s : Later wr, s.val.cell? ⟨b, off + (k) * 2, none⟩ = some (.int .i64 y.who) := fun s => s.cell d0
        have p1 : ∀ s : Later wr, s.val.cell? ⟨b, off + (k) * 2 + 1, none⟩ = some (.slice au m cu) := fun s => s.cell d1
        cases hw : inB 1 9 y.who with
        | false =>
          have HR : Hid (rowsB L = false) := rowsB_false (by rw [← HN.out]; exact hlt) (by unfold okR; rw [← HY.out, hw]; rfl)
          go_wp2
          refine wp_region_later (by kernel_rfl) (by kernel_rfl) ?_
          repeat (go_big_quiet_step ((rename_i t; first | with_reducible exact in_later hw t)))
          refine wpQuiet_nil ?_
          rintro w2 ⟨s, hs⟩
          have HB2 : Hid (Below w.heap.size w w2) := by rw [hs]; exact HB.out.trans (s.ok.mono HB.out.size)
          clear hs s
          go_wp2
          go_ret
          exact ⟨ret_bool HR.out.symm, HB2.out⟩
        | true =>
          by_cases h9 : m = 9
          · subst h9
            have hm9 : ((9 : Int) != 9) = false := by decide
            have HL9 : Hid (decide (y.cs.length = 9) = true) := by show _ = _; rw [← HML.out]; rfl
            go_wp2
            refine wp_region_later (by kernel_rfl) (by kernel_rfl) ?_
            repeat (go_big_quiet_step ((rename_i t; first | with_reducible exact in_later hw t)))
            refine wpQuiet_nil ?_
            rintro w2 ⟨s, hs⟩
            have HB2 : Hid (Below w.heap.size w w2) := by rw [hs]; exact HB.out.trans (s.ok.mono HB.out.size)
            clear hs s
            have HI : Hid (∀ w', Below w.heap.size w w' → RdI w' (.slice au 9 cu) y.cs) := fun w' h => HU.out w' h
            clear p0 p1 hne
            go_wp2
            try go_simp
            go_loopw [4] (fun j wq => ∃ (q : Nat), q ≤ 9 ∧ j = .int .i64 q ∧ Hid (allB (cAt y.cs) q = true) ∧ Hid (Below w.heap.size w wq)) (fun j _ => 9 - (intOf j).toNat)
            case atStart => exact ⟨0, Nat.zero_le _, rfl, rfl, HB2⟩
            case round =>
              obtain ⟨q, hq, rfl, HC, HBq⟩ := hrel
              by_cases hq9 : q < 9
              · have hqI : (q : Int) < 9 := by omega
                obtain ⟨a', c', e', hl1, hl2, hcc⟩ := HI.out wr HBq.out
                simp at e'
                obtain ⟨rfl, hml, rfl⟩ := e'
                obtain ⟨bu, ou, rfl, hbu, hcu⟩ := hcc (by omega)
                have dq := hcu q (by omega)
                obtain ⟨z, hz⟩ : ∃ z, z = y.cs.getD q 0 := ⟨_, rfl⟩
                rw [← hz] at dq
                have hcz : cAt y.cs q = inB 0 1000000 z := by rw [hz]; rfl
                have hne := Later.any wr
                have p0 : ∀ s : Later wr, s.val.cell? ⟨b, off + (k) * 2, none⟩ = some (.int .i64 y.who) := fun s => s.cell ((HBq.out.cell (p := ⟨b, _, none⟩) hbs).trans HD.out.1)
                have p1 : ∀ s : Later wr, s.val.cell? ⟨b, off + (k) * 2 + 1, none⟩ = some (.slice (some ⟨bu, ou, none⟩) 9 cu) := fun s => s.cell ((HBq.out.cell (p := ⟨b, _, none⟩) hbs).trans HD.out.2)
                have p3 : ∀ s : Later wr, s.val.cell? ⟨bu, ou + q, none⟩ = some (.int .i64 z) := fun s => s.cell dq
                have o0 := (HBq.out.cell (p := ⟨b, off + (k) * 2, none⟩) hbs).trans HD.out.1
                have o1 := (HBq.out.cell (p := ⟨b, off + (k) * 2 + 1, none⟩) hbs).trans HD.out.2
                have HML9 : Hid (9 = y.cs.length) := hml
                clear hcu hcc hz p0 p1 p3 hne hml
                cases hin : inB 0 1000000 z with
                | false =>
                  have HR : Hid (rowsB L = false) := rowsB_false (by rw [← HN.out]; exact hlt) (by unfold okR; rw [show csB (L.getD (k) rwZ).cs = false by rw [← HY.out]; unfold csB; rw [allB_false (p := cAt y.cs) (k := q) (by have := HML9.out; omega) (by rw [hcz, hin])]; simp]; simp)
                  clear hcz
                  go_wp2_with fail
                  refine (in_any z 0 1000000 _ hin _).mono ?_
                  rintro e w2 ⟨rfl, hw2⟩
                  rw [hw2]
                  clear hw2 w2
                  have HB2 : Hid (Below w.heap.size w wr) := HBq
                  go_wp2
                  go_ret
                  exact ⟨ret_bool HR.out.symm, HB2.out⟩
                | true =>
                  have HC' : Hid (allB (cAt y.cs) (q + 1) = true) := by show _ = _; rw [allB_succ, HC.out, hcz, hin]; rfl
                  clear hcz
                  go_wp2_with fail
                  refine (in_any z 0 1000000 _ hin _).mono ?_
                  rintro e w2 ⟨rfl, hw2⟩
                  rw [hw2]
                  clear hw2 w2
                  have HB2 : Hid (Below w.heap.size w wr) := HBq
                  go_wp2
                  go_roundw
                  case rel => first | exact ⟨q + 1, by omega, by go_num, HC', HB2⟩ | (repeat (refine Exists.intro _ ?_); refine ⟨?_, rfl⟩; exact ⟨q + 1, by omega, by go_num, HC', HB2⟩)
                  case measure => simp [intOf]; omega
              · have hqe : q = 9 := by omega
                subst hqe
                have o0 := (HBq.out.cell (p := ⟨b, off + (k) * 2, none⟩) hbs).trans HD.out.1
                have o1 := (HBq.out.cell (p := ⟨b, off + (k) * 2 + 1, none⟩) hbs).trans HD.out.2
                have HK : Hid (allB (okR L) (k + 1) = true) := by
                  show _ = _
                  rw [allB_succ, HA.out]
                  show okR L (k) = true
                  unfold okR
                  rw [show csB (L.getD (k) rwZ).cs = true by rw [← HY.out]; unfold csB; rw [HL9.out, show y.cs.length = 9 from HML.out.symm, HC.out]; rfl]
                  rw [← HY.out, hw, HK0.out]; rfl
                go_wp2
                go_roundw
                case rel => exact ⟨k + 1, by omega, by go_num, HK, HBq⟩
                case measure => simp [intOf]; omega
          · have hm9 : ((m : Int) != 9) = true := by simp; omega
            have HR : Hid (rowsB L = false) := rowsB_false (by rw [← HN.out]; exact hlt) (by unfold okR; rw [show csB (L.getD (k) rwZ).cs = false by rw [← HY.out]; unfold csB; rw [← HML.out, decide_eq_false h9]; rfl]; simp)
            go_wp2
            refine wp_region_later (by kernel_rfl) (by kernel_rfl) ?_
            repeat (go_big_quiet_step ((rename_i t; first | with_reducible exact in_later hw t)))
            refine wpQuiet_nil ?_
            rintro w2 ⟨s, hs⟩
            have HB2 : Hid (Below w.heap.size w w2) := by rw [hs]; exact HB.out.trans (s.ok.mono HB.out.size)
            clear hs s
            go_wp2
            go_ret
            exact ⟨ret_bool HR.out.symm, HB2.out⟩
      · obtain ⟨j, rfl⟩ : ∃ j, k = j + 1 := ⟨k - 1, by omega⟩
        obtain ⟨z, hz0⟩ : ∃ z, z = (L.getD j rwZ).who := ⟨_, rfl⟩
        have dz := (HB.out.cell (p := ⟨b, off + j * 2, none⟩) hbs).trans (hcell j (by omega)).1
        rw [← hz0] at dz
        have HZ : Hid (z = (L.getD j rwZ).who) := hz0
        clear hcell hc hk0 hz0
        have hne := Later.any wr
        have p0 : ∀ s : Later wr, s.val.cell? ⟨b, off + (j + 1) * 2, none⟩ = some (.int .i64 y.who) := fun s => s.cell d0
        have p1 : ∀ s : Later wr, s.val.cell? ⟨b, off + (j + 1) * 2 + 1, none⟩ = some (.slice au m cu) := fun s => s.cell d1
        have p2 : ∀ s : Later wr, s.val.cell? ⟨b, off + j * 2, none⟩ = some (.int .i64 z) := fun s => s.cell dz
        cases hw : inB 1 9 y.who with
        | false =>
          have HR : Hid (rowsB L = false) := rowsB_false (by rw [← HN.out]; exact hlt) (by unfold okR; rw [← HY.out, hw]; rfl)
          go_wp2
          refine wp_region_later (by kernel_rfl) (by kernel_rfl) ?_
          repeat (go_big_quiet_step ((rename_i t; first | with_reducible exact in_later hw t)))
          refine wpQuiet_nil ?_
          rintro w2 ⟨s, hs⟩
          have HB2 : Hid (Below w.heap.size w w2) := by rw [hs]; exact HB.out.trans (s.ok.mono HB.out.size)
          clear hs s
          go_wp2
          go_ret
          exact ⟨ret_bool HR.out.symm, HB2.out⟩
        | true =>
          by_cases hz : z < y.who
          · have hzd : decide (y.who ≤ z) = false := decide_eq_false (by omega)
            by_cases h9 : m = 9
            · subst h9
              have hm9 : ((9 : Int) != 9) = false := by decide
              have HL9 : Hid (decide (y.cs.length = 9) = true) := by show _ = _; rw [← HML.out]; rfl
              go_wp2
              refine wp_region_later (by kernel_rfl) (by kernel_rfl) ?_
              repeat (go_big_quiet_step ((rename_i t; first | with_reducible exact in_later hw t)))
              refine wpQuiet_nil ?_
              rintro w2 ⟨s, hs⟩
              have HB2 : Hid (Below w.heap.size w w2) := by rw [hs]; exact HB.out.trans (s.ok.mono HB.out.size)
              clear hs s
              have HP : Hid ((inB 1 9 (L.getD (j + 1) rwZ).who && (j + 1 == 0 || decide ((L.getD (j + 1 - 1) rwZ).who < (L.getD (j + 1) rwZ).who))) = true) := by show _ = _; rw [← HY.out, hw, show (j + 1 == 0) = false from rfl]; simp only [Nat.add_sub_cancel]; rw [← HZ.out, decide_eq_true hz]; rfl
              clear hz hzd p2 dz hw HZ d0 d1 p0 p1
              generalize hKJ : j + 1 = k at *
              have HKJ : Hid (j + 1 = k) := hKJ
              clear hKJ
              have HI : Hid (∀ w', Below w.heap.size w w' → RdI w' (.slice au 9 cu) y.cs) := fun w' h => HU.out w' h
              clear hne
              go_wp2
              try go_simp
              go_loopw [4] (fun j wq => ∃ (q : Nat), q ≤ 9 ∧ j = .int .i64 q ∧ Hid (allB (cAt y.cs) q = true) ∧ Hid (Below w.heap.size w wq)) (fun j _ => 9 - (intOf j).toNat)
              case atStart => exact ⟨0, Nat.zero_le _, rfl, rfl, HB2⟩
              case round =>
                obtain ⟨q, hq, rfl, HC, HBq⟩ := hrel
                by_cases hq9 : q < 9
                · have hqI : (q : Int) < 9 := by omega
                  obtain ⟨a', c', e', hl1, hl2, hcc⟩ := HI.out wr HBq.out
                  simp at e'
                  obtain ⟨rfl, hml, rfl⟩ := e'
                  obtain ⟨bu, ou, rfl, hbu, hcu⟩ := hcc (by omega)
                  have dq := hcu q (by omega)
                  obtain ⟨z, hz⟩ : ∃ z, z = y.cs.getD q 0 := ⟨_, rfl⟩
                  rw [← hz] at dq
                  have hcz : cAt y.cs q = inB 0 1000000 z := by rw [hz]; rfl
                  have hne := Later.any wr
                  have p0 : ∀ s : Later wr, s.val.cell? ⟨b, off + (k) * 2, none⟩ = some (.int .i64 y.who) := fun s => s.cell ((HBq.out.cell (p := ⟨b, _, none⟩) hbs).trans HD.out.1)
                  have p1 : ∀ s : Later wr, s.val.cell? ⟨b, off + (k) * 2 + 1, none⟩ = some (.slice (some ⟨bu, ou, none⟩) 9 cu) := fun s => s.cell ((HBq.out.cell (p := ⟨b, _, none⟩) hbs).trans HD.out.2)
                  have p3 : ∀ s : Later wr, s.val.cell? ⟨bu, ou + q, none⟩ = some (.int .i64 z) := fun s => s.cell dq
                  have o0 := (HBq.out.cell (p := ⟨b, off + (k) * 2, none⟩) hbs).trans HD.out.1
                  have o1 := (HBq.out.cell (p := ⟨b, off + (k) * 2 + 1, none⟩) hbs).trans HD.out.2
                  have HML9 : Hid (9 = y.cs.length) := hml
                  clear hcu hcc hz p0 p1 p3 hne hml
                  cases hin : inB 0 1000000 z with
                  | false =>
                    have HR : Hid (rowsB L = false) := rowsB_false (by rw [← HN.out]; exact hlt) (by unfold okR; rw [show csB (L.getD (k) rwZ).cs = false by rw [← HY.out]; unfold csB; rw [allB_false (p := cAt y.cs) (k := q) (by have := HML9.out; omega) (by rw [hcz, hin])]; simp]; simp)
                    clear hcz
                    go_wp2_with fail
                    refine (in_any z 0 1000000 _ hin _).mono ?_
                    rintro e w2 ⟨rfl, hw2⟩
                    rw [hw2]
                    clear hw2 w2
                    have HB2 : Hid (Below w.heap.size w wr) := HBq
                    go_wp2
                    go_ret
                    exact ⟨ret_bool HR.out.symm, HB2.out⟩
                  | true =>
                    have HC' : Hid (allB (cAt y.cs) (q + 1) = true) := by show _ = _; rw [allB_succ, HC.out, hcz, hin]; rfl
                    clear hcz
                    go_wp2_with fail
                    refine (in_any z 0 1000000 _ hin _).mono ?_
                    rintro e w2 ⟨rfl, hw2⟩
                    rw [hw2]
                    clear hw2 w2
                    have HB2 : Hid (Below w.heap.size w wr) := HBq
                    go_wp2
                    go_roundw
                    case rel => first | exact ⟨q + 1, by omega, by go_num, HC', HB2⟩ | (repeat (refine Exists.intro _ ?_); refine ⟨?_, rfl⟩; exact ⟨q + 1, by omega, by go_num, HC', HB2⟩)
                    case measure => simp [intOf]; omega
                · have hqe : q = 9 := by omega
                  subst hqe
                  have o0 := (HBq.out.cell (p := ⟨b, off + (k) * 2, none⟩) hbs).trans HD.out.1
                  have o1 := (HBq.out.cell (p := ⟨b, off + (k) * 2 + 1, none⟩) hbs).trans HD.out.2
                  have HK : Hid (allB (okR L) (k + 1) = true) := by
                    show _ = _
                    rw [allB_succ, HA.out]
                    show okR L (k) = true
                    unfold okR
                    rw [show csB (L.getD (k) rwZ).cs = true by rw [← HY.out]; unfold csB; rw [HL9.out, show y.cs.length = 9 from HML.out.symm, HC.out]; rfl]
                    rw [HP.out]; rfl
                  go_wp2
                  go_roundw
                  case rel => exact ⟨k + 1, by omega, by go_num, HK, HBq⟩
                  case measure => have := HKJ.out; simp [intOf]; omega
            · have hm9 : ((m : Int) != 9) = true := by simp; omega
              have HR : Hid (rowsB L = false) := rowsB_false (by rw [← HN.out]; exact hlt) (by unfold okR; rw [show csB (L.getD (j + 1) rwZ).cs = false by rw [← HY.out]; unfold csB; rw [← HML.out, decide_eq_false h9]; rfl]; simp)
              go_wp2
              refine wp_region_later (by kernel_rfl) (by kernel_rfl) ?_
              repeat (go_big_quiet_step ((rename_i t; first | with_reducible exact in_later hw t)))
              refine wpQuiet_nil ?_
              rintro w2 ⟨s, hs⟩
              have HB2 : Hid (Below w.heap.size w w2) := by rw [hs]; exact HB.out.trans (s.ok.mono HB.out.size)
              clear hs s
              go_wp2
              go_ret
              exact ⟨ret_bool HR.out.symm, HB2.out⟩
          · have hzd : y.who ≤ z := by omega
            have HR : Hid (rowsB L = false) := rowsB_false (by rw [← HN.out]; exact hlt) (by unfold okR; rw [← HY.out, hw, show (j + 1 == 0) = false from rfl]; simp only [Nat.add_sub_cancel]; rw [← HZ.out, decide_eq_false hz]; rfl)
            go_wp2
            refine wp_region_later (by kernel_rfl) (by kernel_rfl) ?_
            repeat (go_big_quiet_step ((rename_i t; first | with_reducible exact in_later hw t)))
            refine wpQuiet_nil ?_
            rintro w2 ⟨s, hs⟩
            have HB2 : Hid (Below w.heap.size w w2) := by rw [hs]; exact HB.out.trans (s.ok.mono HB.out.size)
            clear hs s
            go_wp2
            go_ret
            exact ⟨ret_bool HR.out.symm, HB2.out⟩
    · have hke : k = n := by omega
      subst hke
      have HR : Hid (rowsB L = true) := by show _ = _; unfold rowsB; rw [← HN.out]; exact HA.out
      clear hc
      go_wp2
      go_ret
      exact ⟨ret_bool HR.out.symm, HB.out⟩
end Go.Proofs.YtlibipbpaigmdaaGreatDoor

namespace Go.Proofs.YtlibipbpaigmdaaGreatDoor
open Go.RowKit Go.Maps
set_option linter.unusedVariables false

theorem results_row_tmp {P : Program} {fn : Func} {p u : Tmp} {ty : TypeId} (h : fn.results = #[.cell p ty, .tmp u]) (tmps : Array Value) (w : World) (g : Nat) (t : TypeId) (cs : Array Value) (fr : Nat × Nat) (d : TypeDesc)
    (hp : tmps.getD p undef = .pointer (some ⟨g, 0, none⟩)) (hg : w.heap[g]? = some (.cells cs t fr))
    (hu : P.underlying ty = some d) (hd : (match d with | .struct _ | .array _ _ => true | _ => false) = true) (hi : (P.info? ty).map (·.size) = some cs.size) :
    (results fn tmps).run P w = .ok (.tuple #[.agg cs, tmps.getD u undef]) w := by
  rw [results_cell_tmp h, hp]
  simp [asAddr, run_loadVar_row w g t ty cs fr d hg hu hd hi, Result.andThen]

/-- an array of numbers as its cells -/
def tlC (cs : List Int) : Array Value := (cs.map (fun z => Value.int .i64 z)).toArray
def z9 : List Int := [0, 0, 0, 0, 0, 0, 0, 0, 0]
theorem tlC_size (cs : List Int) : (tlC cs).size = cs.length := by unfold tlC; simp
theorem tlC_one (cs : List Int) : (tlC cs).all (·.oneCell') = true := by
  unfold tlC
  simp [Value.oneCell']
theorem infoT : (Tryz.prog.info? 85).map (·.size) = some 9 := by kernel_rfl
theorem copy_arr {cs : List Int} (h : cs.length = 9) : (copyTo (fun i => cs.getD i 0) 9 9).toArray = tlC cs := by
  have := copyTo_all cs
  rw [h] at this
  rw [this]
  rfl

set_option maxRecDepth 10000 in
set_option maxHeartbeats 4000000 in
theorem tallyOf_any (u : Value) (cs : List Int) (w : World) (h : RdI w u cs) :
    Calls Tryz.prog 89 #[u] w fun e w' => e = .returned (.tuple #[.agg (tlC (if csB cs = true then cs else z9)), .bool (csB cs)]) ∧ Below w.heap.size w w' := by
  obtain ⟨a, cap, rfl, hlc, hcm, hc⟩ := h
  obtain ⟨m, hm⟩ : ∃ m, m = cs.length := ⟨_, rfl⟩
  have HM : Hid (m = cs.length) := hm
  obtain ⟨R, hR⟩ : ∃ R, R = if csB cs = true then cs else z9 := ⟨_, rfl⟩
  obtain ⟨ok, hok⟩ : ∃ ok, ok = csB cs := ⟨_, rfl⟩
  have HR : Hid (R = (if csB cs = true then cs else z9) ∧ ok = csB cs) := ⟨hR, hok⟩
  rw [← hm] at hlc hc ⊢
  rw [← hR, ← hok]
  clear hm hR hok
  have HZ : Hid (tlC z9 = #[.int .i64 0, .int .i64 0, .int .i64 0, .int .i64 0, .int .i64 0, .int .i64 0, .int .i64 0, .int .i64 0, .int .i64 0]) := rfl
  have HB2 : Hid (∀ o o', Below w.heap.size w ((w.alloc o).alloc o')) := fun o o' => ((Below.refl _ _).alloc (Nat.le_refl _) _).alloc (by simp) _
  have HB1 : Hid (∀ o, Below w.heap.size w (w.alloc o)) := fun o => (Below.refl _ _).alloc (Nat.le_refl _) _
  by_cases h9 : m = 9
  · subst h9
    have h9b : ((9 : Int) != 9) = false := by decide
    obtain ⟨b, off, rfl, hbs, hcell⟩ := hc (by omega)
    obtain ⟨Z, hZ⟩ : ∃ Z : Nat → Int, Z = fun i => cs.getD i 0 := ⟨_, rfl⟩
    have HZZ : Hid (Z = fun i => cs.getD i 0) := hZ
    have HC : Hid (∀ i, i < 9 → w.cell? ⟨b, off + i, none⟩ = some (.int .i64 (Z i))) := by rw [hZ]; exact hcell
    have HG0 : Hid (∀ o, ((w.alloc (.cells #[.int .i64 0, .int .i64 0, .int .i64 0, .int .i64 0, .int .i64 0, .int .i64 0, .int .i64 0, .int .i64 0, .int .i64 0] 85)).alloc o).heap[w.heap.size]? = some (.cells (tlC z9) 85)) := fun o => by rw [Below.heap_alloc _ _ _ (by simp)]; exact heap_alloc_new _ _
    have HT0 : Hid (∀ o, ((w.alloc o).alloc (.cells #[.int .i64 0, .int .i64 0, .int .i64 0, .int .i64 0, .int .i64 0, .int .i64 0, .int .i64 0, .int .i64 0, .int .i64 0] 85)).heap[w.heap.size + 1]? = some (.cells (copyTo Z 9 0).toArray 85)) := fun o => by
      have h1 : (w.alloc o).heap.size = w.heap.size + 1 := by simp
      have h2 : (copyTo Z 9 0).toArray = #[.int .i64 0, .int .i64 0, .int .i64 0, .int .i64 0, .int .i64 0, .int .i64 0, .int .i64 0, .int .i64 0, .int .i64 0] := rfl
      rw [← h1, h2]
      exact heap_alloc_new _ _
    clear hc hcell hZ
    go_enter Tryz.func89, Tryz.ntmps89
    go_wp2
    go_loopw [13] (fun i wr => ∃ (k : Nat) (A : Array Value), k ≤ 9 ∧ i = .int .i64 k ∧ Hid (A = (copyTo Z 9 k).toArray) ∧ Hid (wr.heap[w.heap.size + 1]? = some (.cells A 85)) ∧ Hid (wr.heap[w.heap.size]? = some (.cells (tlC z9) 85)) ∧ Hid (allB (cAt cs) k = true) ∧ Hid (Below w.heap.size w wr)) (fun i _ => 9 - (intOf i).toNat)
    case atStart => exact ⟨0, _, Nat.zero_le _, rfl, rfl, HT0.out _, HG0.out _, rfl, HB2.out _ _⟩
    case round =>
      obtain ⟨k, A, hk, rfl, HA, HT, HG, HK, HB⟩ := hrel
      have hAs : A.size = 9 := by rw [HA.out]; simp [copyTo]
      clear HG0 HT0 HB2 HB1
      by_cases hlt : k < 9
      · have hltI : (k : Int) < 9 := by omega
        have ck := (HB.out.cell (p := ⟨b, off + k, none⟩) hbs).trans (HC.out k hlt)
        obtain ⟨z, hz⟩ : ∃ z, z = Z k := ⟨_, rfl⟩
        rw [← hz] at ck
        have hcz : cAt cs k = inB 0 1000000 z := by rw [hz, HZZ.out]; rfl
        have HZk : Hid (z = Z k) := hz
        have hbad : inB 0 1000000 z = false → R = z9 ∧ ok = false := fun hi => by
          have : csB cs = false := by unfold csB; rw [allB_false (p := cAt cs) (k := k) (by rw [← HM.out]; exact hlt) (by rw [hcz, hi])]; simp
          exact ⟨by rw [HR.out.1, this]; rfl, by rw [HR.out.2, this]⟩
        clear hz
        obtain ⟨q, hq⟩ : ∃ q, q = (#[.int .i64 0, .int .i64 0, .int .i64 0, .int .i64 0, .int .i64 0, .int .i64 0, .int .i64 0, .int .i64 0, .int .i64 0] : Array Value) := ⟨_, rfl⟩
        have hqi : (Tryz.prog.info? 85).map (·.size) = some q.size := by rw [hq]; exact infoT
        have hqo : (tlC z9).size = q.size := by rw [hq]; rfl
        have hq1 : q.all (·.oneCell') = true := by rw [hq]; simp [Value.oneCell']
        have HQ : Hid (q = tlC z9) := hq
        by_cases hz0 : z < 0
        · have hz0d : decide (z < 0) = true := decide_eq_true hz0
          have HRR : Hid (R = z9 ∧ ok = false) := hbad (by unfold inB; simp; omega)
          clear hbad hcz
          go_wp2_with (refine wpList_store_row rfl 85 _ _ rfl w.heap.size q rfl (congrArg Value.agg hq.symm) 85 _ HG.out hqi hqo hq1 ?_)
          refine bodyPost_ret (results_row_tmp rfl _ _ w.heap.size 85 _ _ _ rfl (setRow_heap _ _ _ _ _ _ HG.out) Tryz.underlying85 rfl infoT) rfl ⟨by rw [HRR.out.1, HRR.out.2]; rfl, below_setRow HB.out (Nat.le_refl _) _⟩
        · have hz0d : decide (z < 0) = false := decide_eq_false hz0
          by_cases hz1 : 1000000 < z
          · have hz1d : decide ((1000000 : Int) < z) = true := decide_eq_true hz1
            have HRR : Hid (R = z9 ∧ ok = false) := hbad (by unfold inB; simp; omega)
            clear hbad hcz
            go_wp2_with (refine wpList_store_row rfl 85 _ _ rfl w.heap.size q rfl (congrArg Value.agg hq.symm) 85 _ HG.out hqi hqo hq1 ?_)
            refine bodyPost_ret (results_row_tmp rfl _ _ w.heap.size 85 _ _ _ rfl (setRow_heap _ _ _ _ _ _ HG.out) Tryz.underlying85 rfl infoT) rfl ⟨by rw [HRR.out.1, HRR.out.2]; rfl, below_setRow HB.out (Nat.le_refl _) _⟩
          · have hz1d : decide ((1000000 : Int) < z) = false := decide_eq_false hz1
            have HK' : Hid (allB (cAt cs) (k + 1) = true) := by show _ = _; rw [allB_succ, HK.out, hcz]; unfold inB; simp; omega
            have f1 : wr.frozen? ⟨w.heap.size + 1, k, none⟩ = false := frozN HT.out
            have d1 : ∃ v, wr.cell? ⟨w.heap.size + 1, k, none⟩ = some v := ⟨A[k]'(by omega), by rw [cellN HT.out]; exact Array.getElem?_eq_getElem (by omega)⟩
            obtain ⟨v1, d1⟩ := d1
            have HT' : Hid ((wr.setCell ⟨w.heap.size + 1, k, none⟩ (.int .i64 z)).heap[w.heap.size + 1]? = some (.cells (copyTo Z 9 (k + 1)).toArray 85)) := by
              show _ = _
              rw [heap_setCell_same _ _ _ _ 85 _ HT.out, ← copyTo_set Z 9 k hlt, HA.out, HZk.out]
              simp
            have HG' : Hid ((wr.setCell ⟨w.heap.size + 1, k, none⟩ (.int .i64 z)).heap[w.heap.size]? = some (.cells (tlC z9) 85)) := by
              show _ = _
              rw [Below.heap_setCell _ _ _ _ (by simp)]
              exact HG.out
            have HB' : Hid (Below w.heap.size w (wr.setCell ⟨w.heap.size + 1, k, none⟩ (.int .i64 z))) := HB.out.setCell (p := ⟨w.heap.size + 1, k, none⟩) (by show w.heap.size ≤ w.heap.size + 1; omega) _
            clear hbad hcz hq hqi hqo hq1
            go_wp2
            go_roundw
            case rel => exact ⟨k + 1, _, by omega, by go_num, rfl, HT', HG', HK', HB'⟩
            case measure => simp [intOf]; omega
      · have hke : k = 9 := by omega
        subst hke
        have HRR : Hid (R = cs ∧ ok = true) := by
          have : csB cs = true := by unfold csB; rw [← HM.out, HK.out]; rfl
          exact ⟨by rw [HR.out.1, this]; rfl, by rw [HR.out.2, this]⟩
        have HAe : Hid (A = tlC cs) := by show _ = _; rw [HA.out, HZZ.out]; exact copy_arr HM.out.symm
        have hAi : (Tryz.prog.info? 85).map (·.size) = some A.size := by rw [hAs]; exact infoT
        have hAo : (tlC z9).size = A.size := by rw [hAs]; rfl
        have hA1 : A.all (·.oneCell') = true := by rw [HAe.out]; exact tlC_one _
        go_wp2_with (first
          | (refine wpList_load_row rfl 85 _ rfl (w.heap.size + 1) rfl 85 A _ _ HT.out Tryz.underlying85 rfl hAi ?_)
          | (refine wpList_store_row rfl 85 _ _ rfl w.heap.size A rfl rfl 85 _ HG.out hAi hAo hA1 ?_))
        refine bodyPost_ret (results_row_tmp rfl _ _ w.heap.size 85 _ _ _ rfl (setRow_heap _ _ _ _ _ _ HG.out) Tryz.underlying85 rfl hAi) rfl ⟨by rw [HRR.out.1, HRR.out.2, ← HAe.out]; rfl, below_setRow HB.out (Nat.le_refl _) _⟩
  · have h9b : ((m : Int) != 9) = true := by simp; omega
    have HRR : Hid (R = z9 ∧ ok = false) := by
      have : csB cs = false := by unfold csB; rw [← HM.out, decide_eq_false h9]; rfl
      exact ⟨by rw [HR.out.1, this]; rfl, by rw [HR.out.2, this]⟩
    go_enter Tryz.func89, Tryz.ntmps89
    go_wp2
    refine bodyPost_ret (results_row_tmp rfl _ _ w.heap.size 85 _ _ _ rfl (heap_alloc_new _ _) Tryz.underlying85 rfl infoT) rfl ⟨by rw [HRR.out.1, HRR.out.2]; rfl, HB1.out _⟩
end Go.Proofs.YtlibipbpaigmdaaGreatDoor

namespace Go.Proofs.YtlibipbpaigmdaaGreatDoor
open Go.RowKit Go.Maps
set_option linter.unusedVariables false

theorem tlC_at {cs : List Int} {i : Nat} (h : i < cs.length) : (tlC cs)[i]? = some (.int .i64 (cs.getD i 0)) := by
  unfold tlC
  simp [h]

set_option maxRecDepth 10000 in
set_option maxHeartbeats 2000000 in
theorem has_any (cs : List Int) (hcs : cs.length = 9) (b o : Nat) (d : Nd) (w : World) (nd : NdAt w b o d) (ha : 1 ≤ d.a ∧ d.a ≤ 9) :
    Calls Tryz.prog 151 #[.agg (tlC cs), .pointer (some ⟨b, o, none⟩)] w fun e w' => e = .returned (.bool (covB cs d)) ∧ Below w.heap.size w w' := by
  obtain ⟨p, hp⟩ : ∃ p, p = tlC cs := ⟨_, rfl⟩
  have nd2 := nd.below ((Below.refl _ _).alloc (Nat.le_refl _) (.cells p 85))
  obtain ⟨c0, c1, _, _, _, _, _⟩ := nd2
  obtain ⟨i, hi⟩ : ∃ i : Nat, d.a = (i : Int) + 1 := ⟨(d.a - 1).toNat, by omega⟩
  have hi9 : i < 9 := by omega
  have hi9I : (i : Int) < 9 := by omega
  obtain ⟨x, hx⟩ : ∃ x, x = cs.getD i 0 := ⟨_, rfl⟩
  obtain ⟨s, hs⟩ : ∃ s, s = d.s := ⟨_, rfl⟩
  have HR : Hid (covB cs d = decide (s ≤ x)) := by
    show _ = _
    unfold covB numOf
    rw [hs, hx, hi]
    have : ((i : Int) + 1 - 1).toNat = i := by omega
    rw [this]
  have hck : (w.alloc (.cells p 85)).cell? ⟨w.heap.size, i, none⟩ = some (.int .i64 x) := by
    rw [cellN (heap_alloc_new w _), hp, tlC_at (by omega), hx]
  have HB : Hid (Below w.heap.size w (w.alloc (.cells p 85))) := (Below.refl _ _).alloc (Nat.le_refl _) _
  have hg1 : decide ((1 : Int) ≤ (i : Int) + 1) = true := by simp; omega
  have hg2 : decide ((i : Int) + 1 ≤ 9) = true := by simp; omega
  have hsub : ((i : Int) + 1) - 1 = (i : Int) := by omega
  have hwr : IntKind.i64.wrap ((i : Int) + 1 - 1) = (i : Int) := by rw [IntKind.wrap_i64]; omega
  have hwi : IntKind.i64.wrap (i : Int) = (i : Int) := by rw [IntKind.wrap_i64]; omega
  rw [hi] at c0
  rw [← hs] at c1
  rw [← hp]
  clear nd ha hi hx hs hp
  go_enter Tryz.func151, Tryz.ntmps151
  go_wp2
  go_quiet (fail)
  go_wp2
  go_ret
  exact ⟨ret_v (by rw [HR.out]; rfl), HB.out.trans ⟨rfl, rfl, rfl, Nat.le_refl _, fun _ _ => rfl⟩⟩

theorem key_size {z : ByteArray} {kl : Lit} (hkz : keyOf Tryz.prog 9 (.string z) = some kl) : z.size ≤ 9223372036854775807 := by
  have h1 := hkz
  simp [keyOf, Tryz.underlying9, mapKey] at h1
  have := h1.1
  unfold maxLen at this
  omega

set_option maxRecDepth 10000 in
set_option maxHeartbeats 4000000 in
theorem hasBehind_any (cs : List Int) (hcs : cs.length = 9) (D : Nat → Nd) (len b off B : Nat) (x : ByteArray) (w : World) (hq : dagB D len = true) (hfin : Fine D len) (hnd : ∀ i, i < len → NdAt w b (off + i * 6) (D i)) (hmap : w.ownsMap Tryz.prog 9 PR B len (mapD D b off len)) (hx : x.size ≤ 9223372036854775807) :
    Calls Tryz.prog 92 #[.agg (tlC cs), .map (some B), .string x] w fun e w' => ∃ r : Bool, e = .returned (.bool r) ∧ (r = true ↔ CovP D len cs x) ∧ Below w.heap.size w w' := by
  obtain ⟨p, hp⟩ : ∃ p, p = tlC cs := ⟨_, rfl⟩
  obtain ⟨w2, hw2⟩ : ∃ w2, w2 = (w.alloc (.cells p 85)).alloc (.cells #[.string x] 9) := ⟨_, rfl⟩
  have s1 : (w.alloc (.cells p 85)).heap.size = w.heap.size + 1 := by simp
  have hB2 : Below w.heap.size w w2 := by rw [hw2]; exact ((Below.refl _ _).alloc (Nat.le_refl _) _).alloc (by rw [s1]; omega) _
  have g2 : w2.heap[w.heap.size + 1]? = some (.cells #[.string x] 9 (0, 0)) := by rw [hw2, ← s1]; exact heap_alloc_new _ _
  have g1 : w2.heap[w.heap.size]? = some (.cells p 85 (0, 0)) := by
    rw [hw2, Below.heap_alloc _ _ _ (by rw [s1]; omega)]; exact heap_alloc_new _ _
  have hlt2 : w.heap.size + 1 < w2.heap.size := lt_of_block g2
  have hT : IsStrs w2 (some ⟨w.heap.size + 1, 0, none⟩) 1 1 (one x) := by
    refine ⟨Nat.le_refl _, by omega, fun _ => ⟨_, 0, rfl, hlt2, fun i hi => ?_⟩⟩
    obtain rfl : i = 0 := by omega
    exact cellN g2
  have HK : Hid (Calls Tryz.prog 98 #[.map (some B), .slice (some ⟨w.heap.size + 1, 0, none⟩) 1 1] w2 fun e w' => ∃ F E, e = .returned (.map (some F)) ∧ w2.heap.size ≤ F ∧ SetOf w' F len E ∧ (∀ y, has E (.string y) = true ↔ Reach D len (one x) 1 y) ∧ Below w2.heap.size w2 w') :=
    idsBehind_any D len b off B _ 1 1 (one x) w2 hq hfin (fun i hi => (hnd i hi).below hB2) (ownsMap_below hmap hB2) hT (fun j _ => hx)
  have HG1 : Hid (w2.heap[w.heap.size]? = some (.cells p 85 (0, 0)) ∧ w.heap.size < w2.heap.size) := ⟨g1, by omega⟩
  have HB2 : Hid (Below w.heap.size w w2) := hB2
  have HW2 : Hid (w2 = (w.alloc (.cells p 85)).alloc (.cells #[.string x] 9)) := hw2
  have HQ : Hid (dagB D len = true) := hq
  have HND : Hid (∀ v, Below w2.heap.size w2 v → (∀ i, i < len → NdAt v b (off + i * 6) (D i)) ∧ v.ownsMap Tryz.prog 9 PR B len (mapD D b off len)) := fun v hv => by
    have hb := hB2.trans (hv.mono hB2.size)
    exact ⟨fun i hi => (hnd i hi).below hb, ownsMap_below hmap hb⟩
  have HPC : Hid (p = tlC cs) := hp
  have hpi : (Tryz.prog.info? 85).map (·.size) = some p.size := by rw [hp, tlC_size, hcs]; exact infoT
  rw [← hp]
  clear hq hfin hnd hmap hT g1 g2 hB2 hw2 s1 hlt2 hp
  go_enter Tryz.func92, Tryz.ntmps92
  go_wp2_with fail
  rw [← HW2.out]
  refine HK.out.mono ?_
  rintro e w3 ⟨F, E, rfl, hF, hS, hR, hB3⟩
  have HFS : Hid (w2.heap.size ≤ F) := hF
  have HS : Hid (w3.ownsMap Tryz.prog 9 unitElem F len E) := hS
  have HR : Hid (∀ y, has E (.string y) = true ↔ Reach D len (one x) 1 y) := hR
  have HB3 : Hid (Below w2.heap.size w2 w3) := hB3
  clear hF hS hR hB3 HK
  go_wp2_with (first
    | (at_range
       refine wpList_range_own _ rfl _ 97 rfl 9 117 lawS Tryz.underlying97 unitElem F len E rfl HS.out ?_
       intro w4 hrg4 hg4 hs4))
  go_frame
  have HR4 : Hid (w4.ranges Tryz.prog 9 unitElem F w3.heap.size len E (has E) (Maps.size E)) := hrg4
  have HB4 : Hid (Below w2.heap.size w2 w4) := HB3.out.grown hg4 HB3.out.size (fun j hj => by cases hj)
  clear hrg4 hg4 hs4
  go_loopw [7] (fun _ wr => ∃ (left : Lit → Bool) (cnt : Nat), wr.ranges Tryz.prog 9 unitElem F w3.heap.size len E left cnt ∧ Hid (∀ i, i < len → has E (.string (ids D i).toList) = true → left (.string (ids D i).toList) = false → covB cs (D i) = true) ∧ Below w2.heap.size w2 wr) (fun _ wr => wr.rangeLeft F w3.heap.size)
  case atStart => exact ⟨_, _, HR4.out, (fun i hi h1 h2 => by rw [h1] at h2; cases h2), HB4.out⟩
  case round =>
    obtain ⟨left, cnt, hrg, HC, hB⟩ := hrel
    have HG : Hid (wr.ranges Tryz.prog 9 unitElem F w3.heap.size len E left cnt) := hrg
    have HB : Hid (Below w2.heap.size w2 wr) := hB
    clear hB
    go_wp2_with (first
      | (at_next; refine wpList_next_ranges _ rfl _ rfl 9 lawS unitElem Value.string unitV keyS_inv unitV_inv F w3.heap.size len _ _ _ rfl hrg ?_ ?_))
    · intro _ hl0
      have HF : Hid (CovP D len cs x) := fun i hi hr => HC.out i hi ((HR.out _).2 hr) (hl0 _)
      clear hrg hl0
      go_wp2
      go_ret
      exact ⟨true, rfl, ⟨fun _ => HF.out, fun _ => rfl⟩, HB2.out.trans (HB.out.mono HB2.out.size)⟩
    · intro z c kl y ps w6 cnt6 hkz hlk hRv hat hrg6 hlt6 hg6 hs6 hen
      have hkl := keyS_lit hkz
      subst hkl
      have hzr : Reach D len (one x) 1 z.toList := by
        rw [← HR.out, ← keyL_list]
        exact has_true_of_atKey hat
      obtain ⟨i, hi, hiz⟩ := hzr.isId HQ.out
      have hB6 : Below w2.heap.size w2 w6 := HB.out.grown hg6 HB.out.size (fun j hj => by cases hj; exact HB3.out.size)
      obtain ⟨q, hrun, ho1, ho2⟩ := look_node (HND.out w6 hB6).2 z (key_size hkz)
      obtain ⟨i2, hi2, hi2z, hq2⟩ := ho2 ((outB_iff (ids D) z len).2 ⟨i, hi, hiz⟩)
      subst hq2
      have HI : Hid (i2 < len ∧ (ids D i2).toList = z.toList ∧ Reach D len (one x) 1 z.toList) := ⟨hi2, hi2z, hzr⟩
      have HG6 : Hid (w6.ranges Tryz.prog 9 unitElem F w3.heap.size len E (fun s => left s && !s.sameKey (keyL z)) cnt6) := hrg6
      have HB6 : Hid (Below w2.heap.size w2 w6) := hB6
      have HLT : Hid (cnt6 < cnt) := hlt6
      have hgb : w6.heap[w.heap.size]? = some (.cells p 85 (0, 0)) := (hB6.block _ HG1.out.2).trans HG1.out.1
      have HGB : Hid (w6.heap[w.heap.size]? = some (.cells p 85 (0, 0))) := hgb
      have HH : Hid (Calls Tryz.prog 151 #[.agg p, .pointer (some ⟨b, off + i2 * 6, none⟩)] w6 fun e w' => e = .returned (.bool (covB cs (D i2))) ∧ Below w6.heap.size w6 w') := by
        have := has_any cs hcs b (off + i2 * 6) (D i2) w6 ((HND.out w6 hB6).1 i2 hi2) (node_right (ok_at HQ.out hi2)).1
        rw [← HPC.out] at this
        exact this
      clear hrg hrg6 hRv hat hkz hlk hg6 hs6 hB6 hlt6 ho1 ho2 hiz hi2z hzr hgb hi hi2
      cases hcv : covB cs (D i2) with
      | true =>
        rw [hcv] at HH
        have HC' : Hid (∀ j, j < len → has E (.string (ids D j).toList) = true → (left (.string (ids D j).toList) && !(Lit.string (ids D j).toList).sameKey (keyL z)) = false → covB cs (D j) = true) := fun j hj h1 h2 => by
          by_cases hl : left (.string (ids D j).toList) = false
          · exact HC.out j hj h1 hl
          · have hl : left (.string (ids D j).toList) = true := by simpa using hl
            rw [hl, keyL_list] at h2
            have e : (ids D j).toList = z.toList := by simpa [Lit.sameKey] using h2
            rw [rise_inj (dagB_parts HQ.out).2.2.1 hj HI.out.1 (e.trans HI.out.2.1.symm)]
            exact hcv
        clear hcv
        go_wp2_with (first
          | (refine wpList_load_row rfl 85 _ rfl w.heap.size rfl 85 p _ _ HGB.out Tryz.underlying85 rfl hpi ?_)
          | (go_at_call 151; refine HH.out.mono ?_; rintro e w7 ⟨rfl, hB7⟩))
        have HB7 : Hid (Below w6.heap.size w6 w7) := hB7
        clear hB7
        go_roundw
        case rel => exact ⟨_, cnt6, ranges_below HG6.out HB7.out, HC'.out, HB6.out.trans (HB7.out.mono HB6.out.size)⟩
        case measure => rw [(ranges_below HG6.out HB7.out).left_eq, HG.out.left_eq]; exact HLT.out
      | false =>
        rw [hcv] at HH
        have HN : Hid (¬ CovP D len cs x) := fun hc => by
          have h1 := hc i2 HI.out.1 (by rw [HI.out.2.1]; exact HI.out.2.2)
          rw [hcv] at h1
          cases h1
        clear hcv
        go_wp2_with (first
          | (refine wpList_load_row rfl 85 _ rfl w.heap.size rfl 85 p _ _ HGB.out Tryz.underlying85 rfl hpi ?_)
          | (go_at_call 151; refine HH.out.mono ?_; rintro e w7 ⟨rfl, hB7⟩))
        go_ret
        exact ⟨false, rfl, ⟨fun h => (by cases h), fun h => absurd h HN.out⟩, HB2.out.trans ((HB6.out.trans (hB7.mono HB6.out.size)).mono HB2.out.size)⟩
end Go.Proofs.YtlibipbpaigmdaaGreatDoor

namespace Go.Proofs.YtlibipbpaigmdaaGreatDoor
open Go.RowKit
set_option linter.unusedVariables false

/-- whether there is a part -/
def ptB (D : Nat → Nd) (len : Nat) (T : Nat → ByteArray) (m : Nat) : Bool := dagB D len && (decide (m ≤ 30) && allB (fun j => !outB (ids D) len (T j)) m)
/-- what the part holds: the ids behind, by rising id, and a copy of the node of each -/
def PtP (D : Nat → Nd) (len : Nat) (T : Nat → ByteArray) (m : Nat) (A : List Nd) : Prop :=
  (ptB D len T m = false → A = []) ∧ (ptB D len T m = true → ∃ B, Up B ∧ (∀ x, x ∈ B ↔ Reach D len T m x) ∧ A.length = B.length ∧ ∀ j, j < B.length → ∃ i, i < len ∧ (ids D i).toList = B.getD j [] ∧ (D i).Like (gN A j))
theorem beh_ex {D : Nat → Nd} {len : Nat} (hq : dagB D len = true) (T : Nat → ByteArray) (m : Nat) : ∃ B, Up B ∧ ∀ x, x ∈ B ↔ Reach D len T m x := by
  classical
  refine ⟨(idsL D len).filter fun x => decide (Reach D len T m x), List.Pairwise.filter _ ?_, fun x => ?_⟩
  · unfold idsL
    rw [List.pairwise_map]
    refine List.Pairwise.imp_of_mem (fun {a b} ha hb hlt => ?_) (List.pairwise_lt_range (n := len))
    have := rise_less (dagB_parts hq).2.2.1 a (b - a - 1) (by have := List.mem_range.1 hb; omega)
    rw [show a + (b - a - 1) + 1 = b by omega] at this
    exact this
  · rw [List.mem_filter]
    constructor
    · rintro ⟨_, h⟩; simpa using h
    · intro h
      obtain ⟨i, hi, e⟩ := h.isId hq
      exact ⟨List.mem_map.2 ⟨i, List.mem_range.2 hi, e⟩, by simpa using h⟩
/-- which nodes of the first k are in B -/
def inJ (D : Nat → Nd) (B : List (List UInt8)) (k : Nat) : List Nat := (List.range k).filter fun i => decide ((ids D i).toList ∈ B)
theorem inJ_yes {D : Nat → Nd} {B : List (List UInt8)} {k : Nat} (h : (ids D k).toList ∈ B) : inJ D B (k + 1) = inJ D B k ++ [k] := by
  unfold inJ; rw [List.range_succ, List.filter_append]; simp [h]
theorem inJ_no {D : Nat → Nd} {B : List (List UInt8)} {k : Nat} (h : ¬ (ids D k).toList ∈ B) : inJ D B (k + 1) = inJ D B k := by
  unfold inJ; rw [List.range_succ, List.filter_append]; simp [h]
theorem inJ_len (D : Nat → Nd) (B : List (List UInt8)) (k : Nat) : (inJ D B k).length ≤ k := by
  unfold inJ
  have := List.length_filter_le (fun i => decide ((ids D i).toList ∈ B)) (List.range k)
  rw [List.length_range] at this
  exact this
def LikeJ (D : Nat → Nd) (J : List Nat) (A : List Nd) : Prop := A.length = J.length ∧ ∀ j, j < J.length → (D (J.getD j 0)).Like (gN A j)
theorem LikeJ.add {D : Nat → Nd} {J : List Nat} {A : List Nd} {k : Nat} {d : Nd} (h : LikeJ D J A) (hd : (D k).Like d) : LikeJ D (J ++ [k]) (A ++ [d]) := by
  refine ⟨by rw [List.length_append, List.length_append, h.1]; rfl, fun i hi => ?_⟩
  rw [List.length_append] at hi
  rcases Nat.lt_succ_iff_lt_or_eq.1 hi with h1 | rfl
  · rw [gN_app1 (by rw [h.1]; exact h1), List.getD_eq_getElem?_getD, List.getElem?_append_left h1, ← List.getD_eq_getElem?_getD]
    exact h.2 i h1
  · have e := gN_app2 (A := A) (d := d)
    rw [h.1] at e
    rw [e, List.getD_eq_getElem?_getD, List.getElem?_append_right (Nat.le_refl _), Nat.sub_self]
    exact hd
theorem part_of {D : Nat → Nd} {len : Nat} {T : Nat → ByteArray} {m : Nat} {A : List Nd} {B : List (List UInt8)} (hp : ptB D len T m = true) (hU : Up B) (hM : ∀ x, x ∈ B ↔ Reach D len T m x) (h : LikeJ D (inJ D B len) A) : PtP D len T m A := by
  have hq : dagB D len = true := by unfold ptB at hp; rw [Bool.and_eq_true] at hp; exact hp.1
  obtain ⟨J, hJ⟩ : ∃ J, J = inJ D B len := ⟨_, rfl⟩
  rw [← hJ] at h
  have e : J.map (fun i => (ids D i).toList) = B := by
    rw [hJ]
    refine up_unique ?_ hU fun x => ?_
    · unfold Up
      rw [List.pairwise_map]
      unfold inJ
      refine List.Pairwise.filter _ (List.Pairwise.imp_of_mem (fun {a b} ha hb hlt => ?_) (List.pairwise_lt_range (n := len)))
      have := rise_less (dagB_parts hq).2.2.1 a (b - a - 1) (by have := List.mem_range.1 hb; omega)
      rw [show a + (b - a - 1) + 1 = b by omega] at this
      exact this
    · rw [List.mem_map]
      constructor
      · rintro ⟨i, hi, rfl⟩
        have := (List.mem_filter.1 hi).2
        simpa using this
      · intro hx
        obtain ⟨i, hi, e⟩ := ((hM x).1 hx).isId hq
        exact ⟨i, List.mem_filter.2 ⟨List.mem_range.2 hi, by simpa [e] using hx⟩, e⟩
  have hlen : J.length = B.length := by rw [← e, List.length_map]
  have hall : ∀ x, x ∈ J → x < len := by rw [hJ]; exact fun x hx => List.mem_range.1 (List.mem_filter.1 hx).1
  refine ⟨fun h' => (by rw [hp] at h'; cases h'), fun _ => ⟨B, hU, hM, by rw [h.1, hlen], fun j hj => ?_⟩⟩
  have hj' : j < J.length := by omega
  refine ⟨J.getD j 0, ?_, ?_, h.2 j hj'⟩
  · rw [List.getD_eq_getElem?_getD, List.getElem?_eq_getElem hj']
    exact hall _ (List.getElem_mem hj')
  · rw [← e, List.getD_eq_getElem?_getD, List.getD_eq_getElem?_getD, List.getElem?_map, List.getElem?_eq_getElem hj']
    rfl
theorem allB_more {p : Nat → Bool} {k : Nat} (h : allB p k = true) (hk : p k = true) : allB p (k + 1) = true := by rw [allB_succ, h, hk]; rfl
theorem ptB_dag {D : Nat → Nd} {len : Nat} {T : Nat → ByteArray} {m : Nat} (h : dagB D len = false) : ptB D len T m = false := by unfold ptB; rw [h]; rfl
theorem ptB_many {D : Nat → Nd} {len : Nat} {T : Nat → ByteArray} {m : Nat} (h : ¬ m ≤ 30) : ptB D len T m = false := by unfold ptB; rw [decide_eq_false h]; simp
theorem ptB_out {D : Nat → Nd} {len : Nat} {T : Nat → ByteArray} {m k : Nat} (hk : k < m) (h : outB (ids D) len (T k) = true) : ptB D len T m = false := by
  unfold ptB
  rw [allB_false (p := fun j => !outB (ids D) len (T j)) hk (by simp [h])]
  simp
theorem ptB_yes {D : Nat → Nd} {len : Nat} {T : Nat → ByteArray} {m : Nat} (hq : dagB D len = true) (hm : m ≤ 30) (h : allB (fun j => !outB (ids D) len (T j)) m = true) : ptB D len T m = true := by unfold ptB; rw [hq, decide_eq_true hm, h]; rfl
theorem part_none {D : Nat → Nd} {len : Nat} {T : Nat → ByteArray} {m : Nat} (h : ptB D len T m = false) : PtP D len T m [] := ⟨fun _ => rfl, fun h' => by rw [h] at h'; cases h'⟩
theorem ownD_nil (w : World) (base : Nat) : OwnD w base (.slice none 0 0) [] := ⟨World.ownsRow_nil _ _ _ _, fun d hd => by cases hd⟩

set_option maxRecDepth 10000 in
set_option maxHeartbeats 4000000 in
theorem specPart_any (a : Option Addr) (len cap : Nat) (D : Nat → Nd) (u : Option Addr) (m uc : Nat) (T : Nat → ByteArray) (w : World) (h : IsNds w a len cap D) (hf : Fine D len) (hu : dagB D len = true → OkUs D len) (hT : IsStrs w u m uc T) :
    Calls Tryz.prog 28 #[.slice a len cap, .slice u m uc] w fun e w' => ∃ v A, e = .returned (.tuple #[v, .bool (ptB D len T m)]) ∧ OwnD w' w.heap.size v A ∧ PtP D len T m A ∧ Below w.heap.size w w' := by
  have HN : Hid (∀ w', Below w.heap.size w w' → IsNds w' a len cap D) := fun w' hB => h.below hB
  have HT : Hid (∀ w', Below w.heap.size w w' → IsStrs w' u m uc T) := fun w' hB => hT.below hB
  have HU0 : Hid (dagB D len = true → OkUs D len) := hu
  have HF : Hid (Fine D len) := hf
  have hlc := h.1
  have hcm := h.2.1
  have hmc := hT.1
  have hmm := hT.2.1
  have HQ0 : Hid (Calls Tryz.prog 46 #[.slice a len cap] w fun e w' => e = .returned (.bool (dagB D len)) ∧ Below w.heap.size w w') := specDagOk_any a len cap D w h hf
  clear h hf hu hT
  go_enter Tryz.func28, Tryz.ntmps28
  go_wp2_with fail
  refine HQ0.out.mono ?_
  rintro e w1 ⟨rfl, hB1⟩
  have HB1 : Hid (Below w.heap.size w w1) := hB1
  clear hB1 HQ0
  cases hq : dagB D len with
  | false =>
    have HR : Hid (ptB D len T m = false) := ptB_dag hq
    go_wp2
    go_ret2
    exact ⟨.slice none 0 0, [], ret_v (by rw [HR.out]; rfl), ownD_nil _ _, part_none HR.out, HB1.out⟩
  | true =>
  have HQ : Hid (dagB D len = true) := hq
  have HU : Hid (OkUs D len) := HU0.out hq
  have hl30 := (dagB_parts hq).1
  clear hq
  by_cases hm : m ≤ 30
  · have hm30 : decide ((30 : Int) < (m : Int)) = false := decide_eq_false (by omega)
    have hmI : ¬ (30 : Int) < (m : Int) := by omega
    go_wp2_with fail
    refine (l6All_any a len cap D w1 (HN.out w1 HB1.out) HF.out hl30).mono ?_
    rintro e w2 ⟨g, gc, rfl, hI2, hB2⟩
    have HI2 : Hid (∀ w', Below w2.heap.size w2 w' → IsStrs w' g len gc (ids D)) := fun w' hB => (show IsStrs w2 g len gc (ids D) from hI2).below hB
    have HB2 : Hid (Below w.heap.size w w2) := HB1.out.trans (hB2.mono HB1.out.size)
    have hgc1 := hI2.1
    have hgc2 := hI2.2.1
    clear hI2 hB2
    go_wp2
    go_loopw [7] (fun i wr => ∃ k : Nat, k ≤ m ∧ i = .int .i64 k ∧ wr = w2 ∧ Hid (allB (fun j => !outB (ids D) len (T j)) k = true)) (fun i _ => m - (Go.RowKit.intOf i).toNat)
    case atStart => exact ⟨0, Nat.zero_le _, (by first | rfl | trivial), (by first | rfl | trivial), (by first | rfl | trivial)⟩
    case round =>
      obtain ⟨k, hk, rfl, hw, HA⟩ := hrel
      rw [hw]
      clear hw wr
      by_cases hlt : k < m
      · have hltI : (k : Int) < (m : Int) := by omega
        obtain ⟨ub, uo, rfl, _, hcell⟩ := (HT.out w2 HB2.out).2.2 (by omega)
        have c0 := hcell k hlt
        clear hcell
        cases ho : outB (ids D) len (T k) with
        | true =>
          have HR : Hid (ptB D len T m = false) := ptB_out hlt ho
          have HC : Hid (Calls Tryz.prog 95 #[.slice g len gc, .string (T k)] w2 fun e w' => ∃ r : Int, e = .returned (.int .i64 r) ∧ decide (r < 0) = true ∧ w' = w2) := l6At_lit g len gc (ids D) (T k) w2 (HI2.out w2 (Below.refl _ _)) true ho
          clear ho
          go_wp2_with fail
          refine HC.out.mono ?_
          rintro e w3 ⟨r, rfl, hr, hw3⟩
          rw [hw3]
          clear hw3 w3
          have hrI : r < 0 := of_decide_eq_true hr
          go_wp2
          go_ret2
          exact ⟨.slice none 0 0, [], ret_v (by rw [HR.out]; rfl), ownD_nil _ _, part_none HR.out, HB2.out⟩
        | false =>
          have HC : Hid (Calls Tryz.prog 95 #[.slice g len gc, .string (T k)] w2 fun e w' => ∃ r : Int, e = .returned (.int .i64 r) ∧ decide (r < 0) = false ∧ w' = w2) := l6At_lit g len gc (ids D) (T k) w2 (HI2.out w2 (Below.refl _ _)) false ho
          have HA2 : Hid (allB (fun j => !outB (ids D) len (T j)) (k + 1) = true) := allB_more HA.out (by simp [ho])
          clear ho
          go_wp2_with fail
          refine HC.out.mono ?_
          rintro e w3 ⟨r, rfl, hr, hw3⟩
          rw [hw3]
          clear hw3 w3
          have hrI : ¬ r < 0 := of_decide_eq_false hr
          go_wp2
          go_roundw
          case rel => exact ⟨k + 1, by omega, by go_num, (by first | rfl | trivial), HA2⟩
          case measure => simp [Go.RowKit.intOf]; omega
      · obtain rfl : k = m := by omega
        have HR : Hid (ptB D len T k = true) := ptB_yes HQ.out hm HA.out
        obtain ⟨lo, hlo⟩ := isLo_ex
        obtain ⟨B, hBU, hBM⟩ := beh_ex HQ.out T k
        have hbr : behR lo D len T k = B := by
          unfold behR
          exact (listOf_is hlo hBU (fun x => ⟨fun hx => ⟨HQ.out, hm, (hBM x).1 hx⟩, fun hx => (hBM x).2 hx.2.2⟩)).symm
        have HC : Hid (Calls Tryz.prog 49 #[.slice a len cap, .slice u k uc] w2 fun e w' => ∃ v, e = .returned v ∧ OwnL w' w2.heap.size v B ∧ Below w2.heap.size w2 w') := by
          rw [← hbr]
          exact specBehind_R lo hlo a len cap D u k uc T w2 (HN.out w2 HB2.out) HF.out (HT.out w2 HB2.out)
        have HBU : Hid (Up B ∧ ∀ x, x ∈ B ↔ Reach D len T k x) := ⟨hBU, hBM⟩
        clear hbr hBU hBM hlo
        go_wp2_with fail
        refine HC.out.mono ?_
        rintro e w3 ⟨v3, rfl, o3, hB3⟩
        obtain ⟨a3, c3, rfl, i3, _⟩ := o3.strs
        obtain ⟨bl, hbl⟩ : ∃ bl, bl = B.length := ⟨_, rfl⟩
        rw [← hbl] at i3 ⊢
        have HBL : Hid (bl = B.length) := hbl
        have HI3 : Hid (∀ w', Below w3.heap.size w3 w' → IsStrs w' a3 bl c3 (atL B)) := fun w' hB => i3.below hB
        have HB3 : Hid (Below w.heap.size w w3) := HB2.out.trans (hB3.mono HB2.out.size)
        have HB23 : Hid (Below w2.heap.size w2 w3) := hB3
        have HO0 : Hid (OwnD (w3.alloc (.cells #[] 50)) w3.heap.size (.slice (some ⟨w3.heap.size, 0, none⟩) 0 0) []) := ⟨World.ownsRow_made w3 #[] 0 (Nat.le_refl _) (by decide) rfl, fun d hd => by cases hd⟩
        have HB30 : Hid (Below w3.heap.size w3 (w3.alloc (.cells #[] 50))) := (Below.refl _ _).alloc (Nat.le_refl _) _
        have hb1 := i3.1
        have hb2 := i3.2.1
        clear o3 i3 hB3 HC hbl
        go_wp2
        go_loopw [10, 9] (fun i u wr => ∃ (k : Nat) (A : List Nd) (v : Value), k ≤ len ∧ i = .int .i64 k ∧ v = u ∧ OwnD wr w3.heap.size v A ∧ Hid (LikeJ D (inJ D B k) A) ∧ Below w3.heap.size w3 wr) (fun i _ _ => len - (Go.RowKit.intOf i).toNat)
        case atStart => exact ⟨0, [], _, Nat.zero_le _, rfl, rfl, HO0.out, ⟨rfl, fun i hi => absurd hi (Nat.not_lt_zero _)⟩, HB30.out⟩
        case round =>
          obtain ⟨i, A, v, hi, rfl, rfl, hO, HL, hB⟩ := hrel
          have HO : Hid (OwnD wr w3.heap.size v A) := hO
          have HB : Hid (Below w3.heap.size w3 wr) := hB
          have HBw : Hid (Below w.heap.size w wr) := HB3.out.trans (hB.mono HB3.out.size)
          clear hO hB HO0 HB30
          by_cases hlt : i < len
          · have hltI : (i : Int) < (len : Int) := by omega
            obtain ⟨gb, go, hge, _, hgcell⟩ := (HI2.out wr (HB23.out.trans (HB.out.mono HB23.out.size))).2.2 (by omega)
            have e0 := hgcell i hlt
            obtain ⟨b, off, hae, hbs, hcell⟩ := (HN.out wr HBw.out).2.2 (by omega)
            obtain ⟨c0, c1, c2, c3', c4, c5, ci⟩ := hcell i hlt
            subst hge hae
            clear hgcell hcell
            by_cases hin : (ids D i).toList ∈ B
            · have HH : Hid (Calls Tryz.prog 86 #[.slice a3 bl c3, .string (ids D i)] wr fun e w' => e = .returned (.bool true) ∧ w' = wr) := l1Has_lit a3 bl c3 (atL B) (ids D i) wr (HI3.out wr HB.out) true (by rw [HBL.out]; exact (out_mem B _).2 hin)
              have HJ : Hid (inJ D B (i + 1) = inJ D B i ++ [i]) := inJ_yes hin
              have HC : Hid (Calls Tryz.prog 96 #[.agg #[.int .i64 (D i).a, .int .i64 (D i).s, .int .i64 (D i).k, .string (D i).key, .string (D i).text, .slice (D i).u (D i).n (D i).cap]] wr fun e w' => ∃ u c, e = .returned (.agg #[.int .i64 (D i).a, .int .i64 (D i).s, .int .i64 (D i).k, .string (D i).key, .string (D i).text, .slice u (D i).n c]) ∧ UpO w' wr.heap.size ((D i).put u c) ∧ Below wr.heap.size wr w') := copyNode_any (D i) wr ci (HU.out i hlt)
              have HK : Hid (A.length ≤ 30) := by
                have h1 := HL.out.1
                have h2 := inJ_len D B i
                show _ ≤ _
                omega
              clear ci hin
              go_wp2_with (first
                | (go_at_call 86
                   refine HH.out.mono ?_
                   rintro e w4 ⟨rfl, hw4⟩
                   rw [hw4]
                   clear hw4 w4)
                | (go_at_call 96
                   refine HC.out.mono ?_
                   rintro e w5 ⟨u5, q5, rfl, hU5, hB5⟩
                   have HU5 : Hid (UpO w5 wr.heap.size ((D i).put u5 q5)) := hU5
                   have HO5 : Hid (OwnD w5 w3.heap.size v A) := HO.out.below hB5
                   have HB5 : Hid (Below w3.heap.size w3 w5) := HB.out.trans (hB5.mono HB.out.size)
                   clear hU5 hB5)
                | (at_builtin
                   go_loud (refine wpList_appD rfl _ _ rfl w3.heap.size v A [(D i).put u5 q5] (some ⟨w5.heap.size, 0, none⟩) 1 rfl rfl (HO5.out.below ((Below.refl _ _).alloc (Nat.le_refl _) _)) (fun _ => ⟨w5.heap.size, 0, rfl, news_lit rfl⟩) (fun d hd => by rw [List.mem_singleton.1 hd]; exact (HU5.out.base HB.out.size).keep (fun j _ hj => by obtain ⟨cs, hj⟩ := hj; exact Below.heap_alloc _ _ _ (lt_of_block hj))) (fun h => by cases h) (by have := HK.out; simp; omega) (by have := HB5.out.size; simp; omega) ?_)
                   intro v6 w6 hO6 hG6))
              have HB6 : Hid (Below w3.heap.size w3 w6) := (HB5.out.alloc HB5.out.size _).grown hG6 (by have := HB5.out.size; simp; omega) (fun x hx => (World.ownsRow.lt HO5.out.1 x hx).1)
              have HO6 : Hid (OwnD w6 w3.heap.size v6 (A ++ [(D i).put u5 q5])) := hO6
              have HL6 : Hid (LikeJ D (inJ D B (i + 1)) (A ++ [(D i).put u5 q5])) := by
                show LikeJ _ _ _
                rw [HJ.out]
                exact HL.out.add ((D i).put_like u5 q5)
              clear hO6 hG6
              go_roundw
              case rel => exact ⟨i + 1, _, _, by omega, by go_num, rfl, HO6.out, HL6.out, HB6.out⟩
              case measure => simp [Go.RowKit.intOf]; omega
            · have HH : Hid (Calls Tryz.prog 86 #[.slice a3 bl c3, .string (ids D i)] wr fun e w' => e = .returned (.bool false) ∧ w' = wr) := l1Has_lit a3 bl c3 (atL B) (ids D i) wr (HI3.out wr HB.out) false (by
                rw [HBL.out]
                cases h3 : outB (atL B) B.length (ids D i) with
                | true => rfl
                | false => exact absurd ((out_mem B _).1 h3) hin)
              have HL6 : Hid (LikeJ D (inJ D B (i + 1)) A) := by
                show LikeJ _ _ _
                rw [inJ_no hin]
                exact HL.out
              clear ci hin
              go_wp2_with fail
              refine HH.out.mono ?_
              rintro e w4 ⟨rfl, hw4⟩
              rw [hw4]
              clear hw4 w4
              go_wp2
              go_roundw
              case rel => exact ⟨i + 1, A, _, by omega, by go_num, rfl, HO.out, HL6.out, HB.out⟩
              case measure => simp [Go.RowKit.intOf]; omega
          · obtain rfl : i = len := by omega
            go_wp2
            go_ret2
            exact ⟨v, A, ret_v (by rw [HR.out]; rfl), HO.out.base HB3.out.size, part_of HR.out HBU.out.1 HBU.out.2 HL.out, HBw.out⟩
  · have hmI : (30 : Int) < (m : Int) := by omega
    have HR : Hid (ptB D len T m = false) := ptB_many hm
    go_wp2
    go_ret2
    exact ⟨.slice none 0 0, [], ret_v (by rw [HR.out]; rfl), ownD_nil _ _, part_none HR.out, HB1.out⟩
end Go.Proofs.YtlibipbpaigmdaaGreatDoor

namespace Go.Proofs.YtlibipbpaigmdaaGreatDoor
open Go.RowKit
set_option linter.unusedVariables false

theorem nilSN (n c : Nat) (w : World) : (binOp .eql 25 (.slice none n c) (.slice none 0 0)).run Tryz.prog w = .ok (.bool true) w := by kernel_rfl
theorem nilSS (a : Addr) (n c : Nat) (w : World) : (binOp .eql 25 (.slice (some a) n c) (.slice none 0 0)).run Tryz.prog w = .ok (.bool false) w := by kernel_rfl

set_option maxHeartbeats 1000000 in
theorem cloneS_any (u : Option Addr) (n cap : Nat) (S : Nat → ByteArray) (w : World) (h : IsStrs w u n cap S) (h0 : u = none → n = 0 ∧ cap = 0) (hn : n ≤ 100000) :
    Calls Tryz.prog 189 #[.slice u n cap] w fun e w' => ∃ u' c, e = .returned (.slice u' n c) ∧ (∃ xs, w'.ownsRow w.heap.size 9 1 (.slice u' n c) n xs ∧ ∀ i, i < n → xs[i]? = some (.string (S i))) ∧ Below w.heap.size w w' := by
  cases u with
  | none =>
    have HN0 : Hid (n = 0) := (h0 rfl).1
    have hnn := nilSN n cap
    clear h h0 hn
    go_enter Tryz.func189, Tryz.ntmps189
    go_wp2
    go_ret
    have e := HN0.out
    subst e
    exact ⟨none, 0, rfl, ⟨[], World.ownsRow_nil w w.heap.size 9 1, fun i hi => absurd hi (Nat.not_lt_zero _)⟩, Below.refl _ _⟩
  | some ad =>
    have HI : Hid (IsStrs w (some ad) n cap S) := h
    have hnn := nilSS ad n cap
    have HN : Hid (n ≤ 100000) := hn
    clear h h0 hn
    go_enter Tryz.func189, Tryz.ntmps189
    go_wp2_with (at_builtin
                 refine wpList_appS rfl _ _ rfl w.heap.size (.slice (some ⟨w.heap.size, 0, none⟩) 0 0) 0 [] (some ad) n cap S rfl rfl (World.ownsRow_made w #[] 0 (Nat.le_refl _) (by decide) rfl) (HI.out.below ((Below.refl _ _).alloc (Nat.le_refl _) _)) (fun h => by cases h) (by have := HN.out; omega) (by simp) ?_
                 intro v4 w4 ho4 hg4)
    rw [Nat.zero_add] at ho4
    obtain ⟨u4, q4, rfl⟩ := own_slice ho4
    have HB : Hid (Below w.heap.size w w4) := ((Below.refl _ w).alloc (Nat.le_refl _) _).grown hg4 (by simp) (fun x hx => by have hx' : some w.heap.size = some x := hx; cases hx'; exact Nat.le_refl _)
    have HO : Hid (∃ xs, w4.ownsRow w.heap.size 9 1 (.slice u4 n q4) n xs ∧ ∀ i, i < n → xs[i]? = some (.string (S i))) := ⟨_, ho4, fun i hi => by simp [hi]⟩
    clear ho4 hg4
    go_ret
    exact ⟨u4, q4, rfl, HO.out, HB.out⟩

set_option maxRecDepth 20000 in
set_option maxHeartbeats 2000000 in
theorem copyOf_any (d : Nd) (b o : Nat) (w : World) (h : NdAt w b o d) (hn : OkU d) :
    Calls Tryz.prog 154 #[.pointer (some ⟨b, o, none⟩)] w fun e w' => ∃ u c, e = .returned (.agg #[.int .i64 d.a, .int .i64 d.s, .int .i64 d.k, .string d.key, .string d.text, .slice u d.n c]) ∧ UpO w' w.heap.size (d.put u c) ∧ Below w.heap.size w w' := by
  obtain ⟨a, s, k, key, text, u, n, cap, S⟩ := d
  obtain ⟨q0, hq0⟩ : ∃ q, q = #[Value.int .i64 a, .int .i64 s, .int .i64 k, .string key, .string text, .slice u n cap] := ⟨_, rfl⟩
  have hi0 : (Tryz.prog.info? 50).map (·.size) = some q0.size := by rw [hq0]; kernel_rfl
  have ho0 : (#[.int .i64 0, .int .i64 0, .int .i64 0, .string ⟨#[]⟩, .string ⟨#[]⟩, .slice none 0 0] : Array Value).size = q0.size := by rw [hq0]; rfl
  have h10 : q0.all (·.oneCell') = true := by rw [hq0]; simp [Value.oneCell']
  obtain ⟨W1, hW1⟩ : ∃ W1, W1 = w.alloc (.cells #[.int .i64 0, .int .i64 0, .int .i64 0, .string ⟨#[]⟩, .string ⟨#[]⟩, .slice none 0 0] 50) := ⟨_, rfl⟩
  have hs1 : W1.heap.size = w.heap.size + 1 := by rw [hW1]; simp
  have hB1 : Below w.heap.size w W1 := by rw [hW1]; exact (Below.refl _ _).alloc (Nat.le_refl _) _
  have g1 : W1.heap[w.heap.size]? = some (.cells #[.int .i64 0, .int .i64 0, .int .i64 0, .string ⟨#[]⟩, .string ⟨#[]⟩, .slice none 0 0] 50 (0, 0)) := by rw [hW1]; exact heap_alloc_new _ _
  obtain ⟨W2, hW2⟩ : ∃ W2, W2 = (W1.alloc (.cells #[.int .i64 0, .int .i64 0, .int .i64 0, .string ⟨#[]⟩, .string ⟨#[]⟩, .slice none 0 0] 50)).setRow (w.heap.size + 1) q0 := ⟨_, rfl⟩
  have gz : (W1.alloc (.cells #[.int .i64 0, .int .i64 0, .int .i64 0, .string ⟨#[]⟩, .string ⟨#[]⟩, .slice none 0 0] 50)).heap[w.heap.size + 1]? = some (.cells #[.int .i64 0, .int .i64 0, .int .i64 0, .string ⟨#[]⟩, .string ⟨#[]⟩, .slice none 0 0] 50 (0, 0)) := by rw [← hs1]; exact heap_alloc_new _ _
  have g2 : W2.heap[w.heap.size + 1]? = some (.cells q0 50 (0, 0)) := by rw [hW2]; exact setRow_heap _ _ _ _ _ _ gz
  have hB12 : Below W1.heap.size W1 W2 := by rw [hW2]; exact below_setRow ((Below.refl _ _).alloc (Nat.le_refl _) _) (by omega) _
  have hB2 : Below w.heap.size w W2 := hB1.trans (hB12.mono hB1.size)
  have g3 : W2.heap[w.heap.size]? = some (.cells #[.int .i64 0, .int .i64 0, .int .i64 0, .string ⟨#[]⟩, .string ⟨#[]⟩, .slice none 0 0] 50 (0, 0)) := (hB12.block _ (by omega)).trans g1
  have hz2 : w.heap.size + 1 < W2.heap.size := lt_of_block g2
  have nd1 := h.below hB1
  rw [hW1] at nd1 hW2 gz
  have nd2 := h.below hB2
  have HQ0 : Hid (q0 = #[Value.int .i64 a, .int .i64 s, .int .i64 k, .string key, .string text, .slice u n cap]) := hq0
  have HG2 : Hid (W2.heap[w.heap.size + 1]? = some (.cells #[Value.int .i64 a, .int .i64 s, .int .i64 k, .string key, .string text, .slice u n cap] 50 (0, 0))) := by show _ = _; rw [← hq0]; exact g2
  have HG3 : Hid (W2.heap[w.heap.size]? = some (.cells #[.int .i64 0, .int .i64 0, .int .i64 0, .string ⟨#[]⟩, .string ⟨#[]⟩, .slice none 0 0] 50 (0, 0))) := g3
  have HZ : Hid (((w.alloc (.cells #[.int .i64 0, .int .i64 0, .int .i64 0, .string ⟨#[]⟩, .string ⟨#[]⟩, .slice none 0 0] 50)).alloc (.cells #[.int .i64 0, .int .i64 0, .int .i64 0, .string ⟨#[]⟩, .string ⟨#[]⟩, .slice none 0 0] 50)).heap[w.heap.size + 1]? = some (.cells #[.int .i64 0, .int .i64 0, .int .i64 0, .string ⟨#[]⟩, .string ⟨#[]⟩, .slice none 0 0] 50 (0, 0))) := gz
  have HW2 : Hid (W2 = ((w.alloc (.cells #[.int .i64 0, .int .i64 0, .int .i64 0, .string ⟨#[]⟩, .string ⟨#[]⟩, .slice none 0 0] 50)).alloc (.cells #[.int .i64 0, .int .i64 0, .int .i64 0, .string ⟨#[]⟩, .string ⟨#[]⟩, .slice none 0 0] 50)).setRow (w.heap.size + 1) q0) := hW2
  have HB2 : Hid (Below w.heap.size w W2) := hB2
  have HZ2 : Hid (w.heap.size + 1 < W2.heap.size) := hz2
  have HC : Hid (Calls Tryz.prog 189 #[.slice u n cap] W2 fun e w' => ∃ u' c, e = .returned (.slice u' n c) ∧ (∃ xs, w'.ownsRow W2.heap.size 9 1 (.slice u' n c) n xs ∧ ∀ i, i < n → xs[i]? = some (.string (S i))) ∧ Below W2.heap.size W2 w') := cloneS_any u n cap S W2 nd2.i hn.2 hn.1
  obtain ⟨c0, c1, c2, c3, c4, c5, _⟩ := nd1
  obtain ⟨_, _, _, _, _, e5, _⟩ := nd2
  clear hq0 hs1 hB1 g1 gz g2 hB12 hB2 g3 hz2 hW1 hW2 h hn W1
  go_enter Tryz.func154, Tryz.ntmps154
  go_wp2_with (first
    | (refine wpList_store_row rfl 50 _ _ rfl (w.heap.size + 1) q0 rfl (congrArg Value.agg HQ0.out.symm) 50 _ HZ.out hi0 ho0 h10 ?_
       rw [← HW2.out])
    | (go_at_call 189
       refine HC.out.mono ?_
       rintro e w4 ⟨u4, q4, rfl, ho4, hB4⟩
       have g0 := (hB4.block _ (lt_of_block HG2.out)).trans HG2.out
       have g1 := (hB4.block _ (lt_of_block HG3.out)).trans HG3.out
       obtain ⟨d0, d1, d2, d3, d4, d5⟩ := row_cells g0
       obtain ⟨f0, f1, f2, f3, f4, f5⟩ := row_froz g0
       have HO4 := (show Hid _ from ho4)
       have HB4 : Hid (Below w.heap.size w w4) := HB2.out.trans (hB4.mono HB2.out.size)
       have H5 : Hid ((w4.setCell ⟨w.heap.size + 1, 5, none⟩ (.slice u4 n q4)).heap[w.heap.size]? = some (.cells #[.int .i64 0, .int .i64 0, .int .i64 0, .string ⟨#[]⟩, .string ⟨#[]⟩, .slice none 0 0] 50 (0, 0))) := by
         show _ = _
         rw [Below.heap_setCell _ _ _ _ (by simp)]
         exact g1
       obtain ⟨q, hq⟩ : ∃ q, q = #[Value.int .i64 a, .int .i64 s, .int .i64 k, .string key, .string text, .slice u4 n q4] := ⟨_, rfl⟩
       have hi6 : (Tryz.prog.info? 50).map (·.size) = some q.size := by rw [hq]; kernel_rfl
       have ho6 : (#[.int .i64 0, .int .i64 0, .int .i64 0, .string ⟨#[]⟩, .string ⟨#[]⟩, .slice none 0 0] : Array Value).size = q.size := by rw [hq]; rfl
       have h16 : q.all (·.oneCell') = true := by rw [hq]; simp [Value.oneCell']
       have HQ : Hid (q = #[Value.int .i64 a, .int .i64 s, .int .i64 k, .string key, .string text, .slice u4 n q4]) := hq
       clear g0 g1 ho4 hB4 hq)
    | (refine wpList_store_row rfl 50 _ _ rfl w.heap.size q rfl (congrArg Value.agg HQ.out.symm) 50 _ H5.out hi6 ho6 h16 ?_))
  refine bodyPost_ret (v := .agg q) (results_cell_row rfl _ _ w.heap.size 50 _ _ _ rfl (setRow_heap _ _ _ _ _ _ H5.out) Tryz.underlying50 rfl hi6) rfl ⟨u4, q4, ret_val (by rw [HQ.out]), ?_, ?_⟩
  · obtain ⟨xs, ho, hx⟩ := HO4.out
    have h1 : UpO w4 W2.heap.size (Nd.put ⟨a, s, k, key, text, u, n, cap, S⟩ u4 q4) := ⟨xs, ho, hx⟩
    have hz := HZ2.out
    refine (h1.keep (fun j hj _ => ?_)).base (by omega)
    rw [setRow_other _ _ _ _ (by omega), Below.heap_setCell _ _ _ _ (show j ≠ w.heap.size + 1 by omega)]
  · exact below_setRow (HB4.out.setCell (p := ⟨w.heap.size + 1, 5, none⟩) (by show w.heap.size ≤ w.heap.size + 1; omega) _) (Nat.le_refl _) _

/-- the place of a node's ups -/
def upV (A : List Nd) (i : Nat) : Value := .slice (gN A i).u (gN A i).n (gN A i).cap
/-- no two nodes' ups share a row -/
def ApU (A : List Nd) : Prop := ∀ i i', i < A.length → i' < A.length → i ≠ i' → ∀ b, (upV A i).ownBlock = some b → (upV A i').ownBlock ≠ some b
theorem apU_nil : ApU [] := fun i i' hi => absurd hi (Nat.not_lt_zero _)
theorem ApU.add {A : List Nd} {d : Nd} {w w5 : World} {base : Nat} {v : Value} (h : ApU A) (hO : OwnD w base v A) (hd : UpO w5 w.heap.size d) : ApU (A ++ [d]) := by
  have hA : ∀ i, i < A.length → ∀ b, (upV (A ++ [d]) i).ownBlock = some b → b < w.heap.size ∧ (upV A i).ownBlock = some b := fun i hi b hb => by
    unfold upV at hb ⊢
    rw [gN_app1 hi] at hb
    obtain ⟨xs, ho, _⟩ := hO.2 _ (gN_mem hi)
    exact ⟨(World.ownsRow.lt ho b hb).2, hb⟩
  have hD : ∀ b, (upV (A ++ [d]) A.length).ownBlock = some b → w.heap.size ≤ b := fun b hb => by
    unfold upV at hb
    rw [gN_app2] at hb
    obtain ⟨xs, ho, _⟩ := hd
    exact (World.ownsRow.lt ho b hb).1
  intro i i' hi hi' hne b hb hb'
  rw [List.length_append] at hi hi'
  have hi : i < A.length + 1 := hi
  have hi' : i' < A.length + 1 := hi'
  by_cases h1 : i < A.length
  · by_cases h2 : i' < A.length
    · exact h i i' h1 h2 hne b (hA i h1 b hb).2 (hA i' h2 b hb').2
    · obtain rfl : i' = A.length := by omega
      have h3 := (hA i h1 b hb).1
      have h4 := hD b hb'
      omega
  · obtain rfl : i = A.length := by omega
    have h3 := (hA i' (by omega) b hb').1
    have h4 := hD b hb
    omega
end Go.Proofs.YtlibipbpaigmdaaGreatDoor

namespace Go.Proofs.YtlibipbpaigmdaaGreatDoor
open Go.RowKit Go.Maps
set_option linter.unusedVariables false

/-- a map from ids to their nodes -/
def PtM (D : Nat → Nd) (len b off : Nat) (M : DataW Value) : Prop := IsMap M ∧ ∀ x : ByteArray, has M (keyL x) = true → ∃ i, i < len ∧ (ids D i).toList = x.toList ∧ ∀ z, M.atKey (keyL x) z = .held (ptr b off i)
theorem look_ptr {w : World} {B n b off i : Nat} {M : DataW Value} (h : w.ownsMap Tryz.prog 9 PR B n M) (x : ByteArray) (hs : x.size ≤ 9223372036854775807) (ha : ∀ z, M.atKey (keyL x) z = .held (ptr b off i)) :
    (Instr.lookup 81 (.map (some B)) (.string x) false).run Tryz.prog w = .ok (.pointer (some ⟨b, off + i * 6, none⟩)) w := by
  obtain ⟨v, ps, hrun, hv⟩ := h.lookup (e := 92) lawS Tryz.underlying81 (zeroP w) (zd := .held (.pointer none)) (zp := []) rfl (keyS hs)
  obtain ⟨p, rfl⟩ := PR_inv _ _ hv
  have hp : DataW.held (Value.pointer p) = M.atKey (keyL x) (.held (.pointer none)) := by
    simp only [PR, Option.some.injEq, Prod.mk.injEq] at hv
    exact hv.1
  rw [ha] at hp
  simp only [ptr, DataW.held.injEq, Value.pointer.injEq] at hp
  rw [hrun, hp]
/-- copies of the nodes of the ids of L, the first k -/
def CopyL (D : Nat → Nd) (len : Nat) (L : List (List UInt8)) (k : Nat) (A : List Nd) : Prop := A.length = k ∧ ApU A ∧ ∀ j, j < k → ∃ i, i < len ∧ (ids D i).toList = L.getD j [] ∧ (D i).Like (gN A j)
theorem CopyL.add {D : Nat → Nd} {len : Nat} {L : List (List UInt8)} {k i : Nat} {A : List Nd} {d : Nd} (h : CopyL D len L k A) (hi : i < len) (he : (ids D i).toList = L.getD k []) (hd : (D i).Like d) (ha : ApU (A ++ [d])) : CopyL D len L (k + 1) (A ++ [d]) := by
  refine ⟨by rw [List.length_append, h.1]; rfl, ha, fun j hj => ?_⟩
  rcases Nat.lt_succ_iff_lt_or_eq.1 hj with h1 | rfl
  · obtain ⟨t, ht, e, hl⟩ := h.2.2 j h1
    exact ⟨t, ht, e, by rw [gN_app1 (by rw [h.1]; exact h1)]; exact hl⟩
  · have e := gN_app2 (A := A) (d := d)
    rw [h.1] at e
    exact ⟨i, hi, he, by rw [e]; exact hd⟩

set_option maxRecDepth 10000 in
set_option maxHeartbeats 4000000 in
theorem nodesOf_any (D : Nat → Nd) (len b off P n : Nat) (M : DataW Value) (w : World) (hown : w.ownsMap Tryz.prog 9 PR P n M) (hn : n ≤ 1000) (hM : PtM D len b off M) (hl : len ≤ 30) (hnd : ∀ i, i < len → NdAt w b (off + i * 6) (D i)) (hu : OkUs D len) (hz : ∀ i, i < len → (ids D i).size = 64) :
    Calls Tryz.prog 99 #[.map (some P)] w fun e w' => ∃ v A L, e = .returned v ∧ OwnD w' w.heap.size v A ∧ Up L ∧ (∀ x, x ∈ L ↔ has M (.string x) = true) ∧ CopyL D len L L.length A ∧ Below w.heap.size w w' := by
  have HO : Hid (∀ w', Below w.heap.size w w' → w'.ownsMap Tryz.prog 9 PR P n M) := fun w' hB => ownsMap_below hown hB
  have HN : Hid (∀ w', Below w.heap.size w w' → ∀ i, i < len → NdAt w' b (off + i * 6) (D i)) := fun w' hB i hi => (hnd i hi).below hB
  have HU : Hid (OkUs D len) := hu
  have HZ : Hid (∀ i, i < len → (ids D i).size = 64) := hz
  have HM : Hid (PtM D len b off M) := hM
  have HL : Hid (len ≤ 30) := hl
  have HNN : Hid (n ≤ 1000) := hn
  clear hown hn hM hnd hu hz hl
  go_enter Tryz.func99, Tryz.ntmps99
  go_wp2_with (first
    | (go_at_call 91; refine (Tryz.maps_Keys_40 _ _).mono ?_; rintro e w' ⟨rfl, hw'⟩; rw [hw']; clear hw' w')
    | (go_at_call 90
       refine (sorted40 P n M PR w (HO.out w (Below.refl _ _)) (by have := HNN.out; omega)).mono ?_
       rintro e w4 ⟨v4, L, rfl, hU, hMm, hO4, hB4⟩
       obtain ⟨a4, c4, rfl, i4, _⟩ := hO4.strs
       obtain ⟨ll, hll⟩ : ∃ ll, ll = L.length := ⟨_, rfl⟩
       rw [← hll] at i4 ⊢
       have HLL : Hid (ll = L.length) := hll
       have HUP : Hid (Up L ∧ ∀ x, x ∈ L ↔ has M (.string x) = true) := ⟨hU, hMm⟩
       have HI4 : Hid (∀ w', Below w4.heap.size w4 w' → IsStrs w' a4 ll c4 (atL L)) := fun w' hB => i4.below hB
       have HB4 : Hid (Below w.heap.size w w4) := hB4
       have hl1 := i4.1
       have hl2 := i4.2.1
       clear hU hMm hO4 hB4 i4 hll))
  have HIS : Hid (∀ k, k < ll → ∃ i, i < len ∧ (ids D i).toList = L.getD k [] ∧ (atL L k).size = 64 ∧ ∀ z, M.atKey (keyL (atL L k)) z = .held (ptr b off i)) := fun k hk => by
    have hm : (atL L k).toList ∈ L := by
      rw [atL_list, List.getD_eq_getElem?_getD, List.getElem?_eq_getElem (by rw [← HLL.out]; exact hk)]
      exact List.getElem_mem _
    have hh := (HUP.out.2 _).1 hm
    rw [← keyL_list] at hh
    obtain ⟨i, hi, e, ha⟩ := HM.out.2 _ hh
    refine ⟨i, hi, by rw [e, atL_list], ?_, ha⟩
    have h1 := HZ.out i hi
    have h2 : (ids D i).toList.length = (atL L k).toList.length := by rw [e]
    rw [ByteArray.toList_eq, ByteArray.toList_eq] at h2
    have h3 : (ids D i).size = (atL L k).size := by simpa using h2
    omega
  have HLE : Hid (ll ≤ 30) := by
    have h1 : L.length ≤ len := up_len HUP.out.1 (fun x hx => by
      obtain ⟨k, hk, rfl⟩ := List.getElem_of_mem hx
      obtain ⟨i, hi, e, _⟩ := HIS.out k (by rw [HLL.out]; exact hk)
      exact ⟨i, hi, by rw [e, List.getD_eq_getElem?_getD, List.getElem?_eq_getElem hk]; rfl⟩)
    have h2 := HL.out
    have h3 := HLL.out
    show _ ≤ _
    omega
  go_loopw [10, 3] (fun i u wr => ∃ (k : Nat) (A : List Nd) (v : Value), k ≤ ll ∧ i = .int .i64 k ∧ v = u ∧ OwnD wr w4.heap.size v A ∧ Hid (CopyL D len L k A) ∧ Below w4.heap.size w4 wr) (fun i _ _ => ll - (Go.RowKit.intOf i).toNat)
  case atStart => exact ⟨0, [], _, Nat.zero_le _, rfl, rfl, ownD_nil _ _, ⟨rfl, apU_nil, fun i hi => absurd hi (Nat.not_lt_zero _)⟩, Below.refl _ _⟩
  case round =>
    obtain ⟨k, A, v, hk, rfl, rfl, hO, HC, hB⟩ := hrel
    by_cases hlt : k < ll
    · have hltI : (k : Int) < (ll : Int) := by omega
      obtain ⟨lb, lo, hae, _, hcell⟩ := (HI4.out wr hB).2.2 (by omega)
      have e0 := hcell k hlt
      subst hae
      obtain ⟨i, hi, hid, hz, ha⟩ := HIS.out k hlt
      have hlk := look_ptr (HO.out wr (HB4.out.trans (hB.mono HB4.out.size))) (atL L k) (by omega) ha
      have HCP : Hid (Calls Tryz.prog 154 #[.pointer (some ⟨b, off + i * 6, none⟩)] wr fun e w' => ∃ u c, e = .returned (.agg #[.int .i64 (D i).a, .int .i64 (D i).s, .int .i64 (D i).k, .string (D i).key, .string (D i).text, .slice u (D i).n c]) ∧ UpO w' wr.heap.size ((D i).put u c) ∧ Below wr.heap.size wr w') := copyOf_any (D i) b (off + i * 6) wr (HN.out wr (HB4.out.trans (hB.mono HB4.out.size)) i hi) (HU.out i hi)
      have HID : Hid ((ids D i).toList = L.getD k []) := hid
      have HI : Hid (i < len) := hi
      have HO0 : Hid (OwnD wr w4.heap.size v A) := hO
      have HB : Hid (Below w4.heap.size w4 wr) := hB
      have HK : Hid (A.length ≤ 30) := by
        have h1 := HC.out.1
        have h2 := HLE.out
        show _ ≤ _
        omega
      clear hcell hid hz ha hO hB hi
      go_wp2_with (first
        | (go_at_call 154
           refine HCP.out.mono ?_
           rintro e w5 ⟨u5, q5, rfl, hU5, hB5⟩
           have HU5 : Hid (UpO w5 wr.heap.size ((D i).put u5 q5)) := hU5
           have HO5 : Hid (OwnD w5 w4.heap.size v A) := HO0.out.below hB5
           have HB5 : Hid (Below w4.heap.size w4 w5) := HB.out.trans (hB5.mono HB.out.size)
           clear hU5 hB5)
        | (at_builtin
           go_loud (refine wpList_appD rfl _ _ rfl w4.heap.size v A [(D i).put u5 q5] (some ⟨w5.heap.size, 0, none⟩) 1 rfl rfl (HO5.out.below ((Below.refl _ _).alloc (Nat.le_refl _) _)) (fun _ => ⟨w5.heap.size, 0, rfl, news_lit rfl⟩) (fun d hd => by rw [List.mem_singleton.1 hd]; exact (HU5.out.base HB.out.size).keep (fun j _ hj => by obtain ⟨cs, hj⟩ := hj; exact Below.heap_alloc _ _ _ (lt_of_block hj))) (fun h => by cases h) (by have := HK.out; simp; omega) (by have := HB5.out.size; simp; omega) ?_)
           intro v6 w6 hO6 hG6))
      have HB6 : Hid (Below w4.heap.size w4 w6) := (HB5.out.alloc HB5.out.size _).grown hG6 (by have := HB5.out.size; simp; omega) (fun x hx => (World.ownsRow.lt HO5.out.1 x hx).1)
      have HO6 : Hid (OwnD w6 w4.heap.size v6 (A ++ [(D i).put u5 q5])) := hO6
      have HL6 : Hid (CopyL D len L (k + 1) (A ++ [(D i).put u5 q5])) := HC.out.add HI.out HID.out ((D i).put_like u5 q5) (HC.out.2.1.add HO0.out HU5.out)
      clear hO6 hG6
      go_roundw
      case rel => exact ⟨k + 1, _, _, by omega, by go_num, rfl, HO6.out, HL6.out, HB6.out⟩
      case measure => simp [Go.RowKit.intOf]; omega
    · obtain rfl : k = ll := by omega
      have HO0 : Hid (OwnD wr w4.heap.size v A) := hO
      have HB : Hid (Below w4.heap.size w4 wr) := hB
      clear hO hB
      go_wp2
      go_ret
      exact ⟨v, A, L, rfl, HO0.out.base HB4.out.size, HUP.out.1, HUP.out.2, by rw [← HLL.out]; exact HC.out, HB4.out.trans (HB.out.mono HB4.out.size)⟩
end Go.Proofs.YtlibipbpaigmdaaGreatDoor

namespace Go.Proofs.YtlibipbpaigmdaaGreatDoor
open Go.RowKit Go.Maps
set_option linter.unusedVariables false

theorem size_pos {w : World} {B n : Nat} {E : DataW Value} (h : SetOf w B n E) : 0 < Maps.size E ↔ ∃ x, has E (.string x) = true := by
  obtain ⟨_, hm⟩ := strKeys_spec (show w.ownsMap Tryz.prog 9 unitElem B n E from h) lawS Tryz.underlying9
  rw [← strKeys_size E h.isMap]
  constructor
  · intro hp
    exact ⟨_, (hm _).1 (List.getElem_mem hp)⟩
  · rintro ⟨x, hx⟩
    exact List.length_pos_of_mem ((hm x).2 hx)
/-- the map of the part, behind the keys that are no longer left -/
def PtL (D : Nat → Nd) (len b off : Nat) (E : DataW Value) (left : Lit → Bool) (M : DataW Value) : Prop :=
  IsMap M ∧ (∀ x : ByteArray, has M (keyL x) = true ↔ has E (keyL x) = true ∧ left (keyL x) = false) ∧ ∀ x : ByteArray, has M (keyL x) = true → ∃ i, i < len ∧ (ids D i).toList = x.toList ∧ ∀ z, M.atKey (keyL x) z = .held (ptr b off i)
theorem PtL.put {D : Nat → Nd} {len b off i : Nat} {E M : DataW Value} {left : Lit → Bool} {z : ByteArray} (h : PtL D len b off E left M) (hi : i < len) (he : (ids D i).toList = z.toList) (hE : has E (keyL z) = true) :
    PtL D len b off E (fun s => left s && !s.sameKey (keyL z)) (M.put (keyL z) (.held (ptr b off i))) := by
  obtain ⟨h1, h2, h3⟩ := h
  refine ⟨h1.put _ _, fun x => ?_, fun x hx => ?_⟩
  · by_cases hxz : x.toList = z.toList
    · rw [keyL_eq hxz]
      rw [has_put_same h1 (keyL_is _)]
      refine ⟨fun _ => ⟨hE, ?_⟩, fun _ => rfl⟩
      show (left (keyL z) && !(keyL z).sameKey (keyL z)) = false
      rw [keyL_list]
      simp [Lit.sameKey]
    · have hne : keyL x ≠ keyL z := fun e => hxz (keyL_inj e)
      rw [has_put_other hne, h2 x]
      refine and_congr Iff.rfl ?_
      show _ ↔ (left (keyL x) && !(keyL x).sameKey (keyL z)) = false
      have : (keyL x).sameKey (keyL z) = false := by
        rw [keyL_list, keyL_list]
        simp [Lit.sameKey, hxz]
      rw [this]
      simp
  · by_cases hxz : x.toList = z.toList
    · refine ⟨i, hi, by rw [he, hxz], fun y => ?_⟩
      rw [keyL_eq hxz]
      exact atKey_put_same h1 (keyL_is _) _ _
    · have hne : keyL x ≠ keyL z := fun e => hxz (keyL_inj e)
      rw [has_put_other hne] at hx
      obtain ⟨j, hj, e, ha⟩ := h3 x hx
      refine ⟨j, hj, e, fun y => ?_⟩
      rw [atKey_put_other hne]
      exact ha y
theorem copy_part {D : Nat → Nd} {len : Nat} {T : Nat → ByteArray} {m : Nat} {A : List Nd} {L : List (List UInt8)} (hU : Up L) (hM : ∀ x, x ∈ L ↔ Reach D len T m x) (h : CopyL D len L L.length A) (hp : ptB D len T m = true) : PtP D len T m A :=
  ⟨fun h' => (by rw [hp] at h'; cases h'), fun _ => ⟨L, hU, hM, h.1, h.2.2⟩⟩

set_option maxRecDepth 10000 in
set_option maxHeartbeats 8000000 in
theorem implPart_any (a : Option Addr) (len cap : Nat) (D : Nat → Nd) (u : Option Addr) (m uc : Nat) (T : Nat → ByteArray) (w : World) (h : IsNds w a len cap D) (hf : Fine D len) (hu : dagB D len = true → OkUs D len) (hT : IsStrs w u m uc T) (hTs : ∀ j, j < m → (T j).size ≤ 9223372036854775807) (hP : AllT w) :
    Calls Tryz.prog 30 #[.slice a len cap, .slice u m uc] w fun e w' => ∃ v A, e = .returned (.tuple #[v, .bool (ptB D len T m)]) ∧ OwnD w' w.heap.size v A ∧ PtP D len T m A ∧ ApU A ∧ Below w.heap.size w w' := by
  have HN : Hid (∀ w', Below w.heap.size w w' → IsNds w' a len cap D) := fun w' hB => h.below hB
  have HT : Hid (∀ w', Below w.heap.size w w' → IsStrs w' u m uc T) := fun w' hB => hT.below hB
  have HU0 : Hid (dagB D len = true → OkUs D len) := hu
  have HF : Hid (Fine D len) := hf
  have HTS : Hid (∀ j, j < m → (T j).size ≤ 9223372036854775807) := hTs
  have HD : Hid (Calls Tryz.prog 88 #[.slice a len cap] w fun e w' => ∃ v, e = .returned (.tuple #[v, .bool (dagB D len)]) ∧ (dagB D len = true → ∃ B b off, v = .map (some B) ∧ w.heap.size ≤ B ∧ (0 < len → a = some ⟨b, off, none⟩) ∧ w'.ownsMap Tryz.prog 9 PR B len (mapD D b off len)) ∧ Below w.heap.size w w') := dagOf_any a len cap D w h hf hP
  have hmc := hT.1
  have hmm' := hT.2.1
  have hmm := @run_makeMap Tryz.prog
  clear h hf hu hT hTs
  cases hq : dagB D len with
  | false =>
    have HR : Hid (ptB D len T m = false) := ptB_dag hq
    rw [hq] at HD
    go_enter Tryz.func30, Tryz.ntmps30
    go_wp2_with (go_at_call 88; refine HD.out.mono ?_; rintro e w1 ⟨v, rfl, _, hB1⟩)
    go_ret2
    exact ⟨.slice none 0 0, [], ret_v (by rw [HR.out]; rfl), ownD_nil _ _, part_none HR.out, apU_nil, hB1⟩
  | true =>
  have HQ : Hid (dagB D len = true) := hq
  have HU : Hid (OkUs D len) := HU0.out hq
  have hl30 := (dagB_parts hq).1
  have HL30 : Hid (len ≤ 30) := hl30
  rw [hq] at HD
  clear hq hl30
  go_enter Tryz.func30, Tryz.ntmps30
  go_wp2_with fail
  refine HD.out.mono ?_
  rintro e w1 ⟨v, rfl, hm, hB1⟩
  obtain ⟨B, b, off, rfl, hBB, hab, hown⟩ := hm (by first | rfl | trivial)
  have HO1 : Hid (∀ w', Below w1.heap.size w1 w' → w'.ownsMap Tryz.prog 9 PR B len (mapD D b off len)) := fun w' hB => ownsMap_below hown hB
  have HB1 : Hid (Below w.heap.size w w1) := hB1
  have HND : Hid (∀ w', Below w.heap.size w w' → ∀ i, i < len → NdAt w' b (off + i * 6) (D i)) := fun w' hB i hi => dag_at (HN.out w' hB) (hab (by omega)) i hi
  clear hm hBB hab hown hB1 HD
  by_cases hm : m ≤ 30
  · have hm30 : decide ((30 : Int) < (m : Int)) = false := decide_eq_false (by omega)
    have hmI : ¬ (30 : Int) < (m : Int) := by omega
    go_wp2_with fail
    refine (lackingIn_any D len B b off u m uc T w1 (HO1.out w1 (Below.refl _ _)) (HT.out w1 HB1.out) HTS.out hm).mono ?_
    rintro e w2 ⟨E, rfl, hS2, hM2, hB2⟩
    obtain ⟨sz, hsz⟩ : ∃ sz, sz = Maps.size E := ⟨_, rfl⟩
    have hlen : ∀ ty, (Builtin.len_ #[98] ty #[.map (some w1.heap.size)]).run Tryz.prog w2 = .ok (.int .i64 sz) w2 := fun ty => by
      rw [hsz]
      exact World.ownsMap.len (show w2.ownsMap Tryz.prog 9 unitElem w1.heap.size m E from hS2) Tryz.underlying98 ty
    have HB12 : Hid (Below w1.heap.size w1 w2) := hB2
    have HB2 : Hid (Below w.heap.size w w2) := HB1.out.trans (hB2.mono HB1.out.size)
    have hpos : 0 < sz ↔ ∃ x, x ∈ lkIn (ids D) len T m := by
      rw [hsz, size_pos hS2]
      exact ⟨fun ⟨x, hx⟩ => ⟨x, (hM2 x).1 hx⟩, fun ⟨x, hx⟩ => ⟨x, (hM2 x).2 hx⟩⟩
    clear hS2 hM2 hB2 hsz
    cases hA : allB (fun j => !outB (ids D) len (T j)) m with
    | false =>
      have HR : Hid (ptB D len T m = false) := by show _ = _; unfold ptB; rw [hA]; simp
      have h0 : 0 < sz := by
        rw [hpos]
        cases hl : lkIn (ids D) len T m with
        | nil =>
          exfalso
          have h1 := (lkIn_nil (ids D) len T m).1 hl
          have h2 : allB (fun j => !outB (ids D) len (T j)) m = true := allB_true fun j hj => by simp [h1 j hj]
          rw [hA] at h2
          cases h2
        | cons x l => exact ⟨x, by simp⟩
      have h0I : (0 : Int) < (sz : Int) := by omega
      clear hpos hA
      go_wp2
      go_ret2
      exact ⟨.slice none 0 0, [], ret_v (by rw [HR.out]; rfl), ownD_nil _ _, part_none HR.out, apU_nil, HB2.out⟩
    | true =>
      have HR : Hid (ptB D len T m = true) := ptB_yes HQ.out hm hA
      have h0 : sz = 0 := by
        rcases Nat.eq_zero_or_pos sz with h | h
        · exact h
        · exfalso
          obtain ⟨x, hx⟩ := hpos.1 h
          have h1 : lkIn (ids D) len T m = [] := (lkIn_nil (ids D) len T m).2 fun j hj => by
            cases ho : outB (ids D) len (T j) with
            | false => rfl
            | true =>
              have := allB_false (p := fun j => !outB (ids D) len (T j)) hj (by simp [ho])
              rw [hA] at this
              cases this
          rw [h1] at hx
          cases hx
      subst h0
      clear hpos hA
      obtain ⟨w4, hw4⟩ : ∃ w4, w4 = w2.alloc (.map #[] 0) := ⟨_, rfl⟩
      have hB24 : Below w2.heap.size w2 w4 := by rw [hw4]; exact (Below.refl _ _).alloc (Nat.le_refl _) _
      have hs4 : w4.heap.size = w2.heap.size + 1 := by rw [hw4]; simp
      have HP4 : Hid (w4.ownsMap Tryz.prog 9 PR w2.heap.size 0 (.map [])) := by
        show World.ownsMap _ _ _ _ _ _ _
        rw [hw4]
        exact World.ownsMap_made _ _ _ _
      have hB4 : Below w.heap.size w w4 := HB2.out.trans (hB24.mono HB2.out.size)
      have HIB : Hid (Calls Tryz.prog 98 #[.map (some B), .slice u m uc] w4 fun e w' => ∃ F E, e = .returned (.map (some F)) ∧ w4.heap.size ≤ F ∧ SetOf w' F len E ∧ (∀ x, has E (.string x) = true ↔ Reach D len T m x) ∧ Below w4.heap.size w4 w') :=
        idsBehind_any D len b off B u m uc T w4 HQ.out HF.out (HND.out w4 hB4) (HO1.out w4 (HB12.out.trans (hB24.mono HB12.out.size))) (HT.out w4 hB4) HTS.out
      have HW4 : Hid (w4 = w2.alloc (.map #[] 0)) := hw4
      have HB24 : Hid (Below w2.heap.size w2 w4 ∧ w4.heap.size = w2.heap.size + 1) := ⟨hB24, hs4⟩
      clear hw4 hB24 hs4 hB4
      go_wp2_with fail
      rw [← HW4.out]
      refine HIB.out.mono ?_
      rintro e w5 ⟨F, E5, rfl, hF, hS5, hR5, hB5⟩
      have HS5 : Hid (w5.ownsMap Tryz.prog 9 unitElem F len E5) := hS5
      have HR5 : Hid (∀ x, has E5 (.string x) = true ↔ Reach D len T m x) := hR5
      have HB25 : Hid (Below w2.heap.size w2 w5) := HB24.out.1.trans (hB5.mono HB24.out.1.size)
      have HP5 : Hid (w5.ownsMap Tryz.prog 9 PR w2.heap.size 0 (.map [])) := ownsMap_below HP4.out hB5
      have HNE : Hid (F ≠ w2.heap.size ∧ w5.heap.size ≠ w2.heap.size ∧ w2.heap.size ≤ w5.heap.size) := by
        have h1 := HB24.out.2
        have h2 := hB5.size
        exact ⟨by omega, by omega, by omega⟩
      have HSZ : Hid (Maps.size E5 ≤ len) := World.ownsMap.size_le HS5.out
      clear hF hS5 hR5 hB5 HIB HP4
      go_wp2_with (first
        | (at_range
           refine wpList_range_own _ rfl _ 97 rfl 9 117 lawS Tryz.underlying97 unitElem F len E5 rfl HS5.out ?_
           intro w6 hrg6 hg6 hs6))
      go_frame
      have HR6 : Hid (w6.ranges Tryz.prog 9 unitElem F w5.heap.size len E5 (has E5) (Maps.size E5)) := hrg6
      have HB26 : Hid (Below w2.heap.size w2 w6) := HB25.out.grown hg6 HB25.out.size (fun j hj => by cases hj)
      have HP6 : Hid (w6.ownsMap Tryz.prog 9 PR w2.heap.size 0 (.map [])) := HP5.out.kept hg6 (by simp)
      clear hrg6 hg6 hs6
      go_loopw [9] (fun _ wr => ∃ (left : Lit → Bool) (cnt k : Nat) (M : DataW Value), wr.ranges Tryz.prog 9 unitElem F w5.heap.size len E5 left cnt ∧ wr.ownsMap Tryz.prog 9 PR w2.heap.size k M ∧ Hid (PtL D len b off E5 left M ∧ k + cnt ≤ len) ∧ Below w2.heap.size w2 wr) (fun _ wr => wr.rangeLeft F w5.heap.size)
      case atStart => exact ⟨_, _, 0, .map [], HR6.out, HP6.out, ⟨⟨isMap_empty, fun x => ⟨fun h => by simp [has] at h, fun h => by rw [h.1] at h; cases h.2⟩, fun x h => by simp [has] at h⟩, by have := HSZ.out; omega⟩, HB26.out⟩
      case round =>
        obtain ⟨left, cnt, k, M, hrg, hPm, HL, hB⟩ := hrel
        have HG : Hid (wr.ranges Tryz.prog 9 unitElem F w5.heap.size len E5 left cnt) := hrg
        have HPm : Hid (wr.ownsMap Tryz.prog 9 PR w2.heap.size k M) := hPm
        have HB : Hid (Below w2.heap.size w2 wr) := hB
        clear hB hPm
        go_wp2_with (first
          | (at_next; refine wpList_next_ranges _ rfl _ rfl 9 lawS unitElem Value.string unitV keyS_inv unitV_inv F w5.heap.size len _ _ _ rfl hrg ?_ ?_))
        · intro _ hl0
          have HPT : Hid (PtM D len b off M) := ⟨HL.out.1.1, HL.out.1.2.2⟩
          have HMR : Hid (∀ x, has M (.string x) = true ↔ Reach D len T m x) := fun x => by
            have h1 := HL.out.1.2.1 (tx x)
            rw [lit_of] at h1
            rw [h1, HR5.out]
            exact ⟨fun h => h.1, fun h => ⟨h, hl0 _⟩⟩
          have hBw : Below w.heap.size w wr := HB2.out.trans (HB.out.mono HB2.out.size)
          have HBw : Hid (Below w.heap.size w wr) := hBw
          have HNO : Hid (Calls Tryz.prog 99 #[.map (some w2.heap.size)] wr fun e w' => ∃ v A L, e = .returned v ∧ OwnD w' wr.heap.size v A ∧ Up L ∧ (∀ x, x ∈ L ↔ has M (.string x) = true) ∧ CopyL D len L L.length A ∧ Below wr.heap.size wr w') :=
            nodesOf_any D len b off w2.heap.size k M wr HPm.out (by have h1 := HL.out.2; have h2 := HL30.out; omega) HPT.out HL30.out (HND.out wr hBw) HU.out (fun i hi => id_size (ok_at HQ.out hi))
          clear hrg hl0 hBw
          go_wp2_with fail
          refine HNO.out.mono ?_
          rintro e w9 ⟨v, A, L, rfl, hO9, hU9, hM9, hC9, hB9⟩
          have HX : Hid (OwnD w9 w.heap.size v A ∧ PtP D len T m A ∧ ApU A ∧ Below w.heap.size w w9) := ⟨hO9.base HBw.out.size, copy_part hU9 (fun x => by rw [hM9, HMR.out]) hC9 HR.out, hC9.2.1, HBw.out.trans (hB9.mono HBw.out.size)⟩
          clear hO9 hU9 hM9 hC9 hB9
          go_wp2
          go_ret2
          exact ⟨v, A, ret_v (by rw [HR.out]; rfl), HX.out.1, HX.out.2.1, HX.out.2.2.1, HX.out.2.2.2⟩
        · intro z c kl y ps w7 cnt7 hkz hlk hRv hat hrg7 hlt7 hg7 hs7 hen
          have hkl := keyS_lit hkz
          subst hkl
          have hzE : has E5 (keyL z) = true := has_true_of_atKey hat
          have hzr : Reach D len T m z.toList := by
            rw [← HR5.out, ← keyL_list]
            exact hzE
          obtain ⟨i, hi, hiz⟩ := hzr.isId HQ.out
          have hB7 : Below w2.heap.size w2 w7 := HB.out.grown hg7 HB.out.size (fun j hj => by cases hj; exact HNE.out.2.2)
          obtain ⟨q, hrun, ho1, ho2⟩ := look_node (HO1.out w7 (HB12.out.trans (hB7.mono HB12.out.size))) z (key_size hkz)
          obtain ⟨i2, hi2, hi2z, hq2⟩ := ho2 ((outB_iff (ids D) z len).2 ⟨i, hi, hiz⟩)
          subst hq2
          have hne2 : w2.heap.size ≠ w5.heap.size := fun e => HNE.out.2.1 e.symm
          have HPm7 : Hid (w7.ownsMap Tryz.prog 9 PR w2.heap.size k M) := World.ownsMap.kept HPm.out hg7 (by simpa using hne2)
          have HL7 : Hid (PtL D len b off E5 (fun s => left s && !s.sameKey (keyL z)) (M.put (keyL z) (.held (ptr b off i2)))) := HL.out.1.put hi2 hi2z hzE
          have HG7 : Hid (w7.ranges Tryz.prog 9 unitElem F w5.heap.size len E5 (fun s => left s && !s.sameKey (keyL z)) cnt7) := hrg7
          have HB7 : Hid (Below w2.heap.size w2 w7) := hB7
          have HLT : Hid (cnt7 < cnt) := hlt7
          have HKZ : Hid (keyOf Tryz.prog 9 (.string z) = some (keyL z)) := hkz
          have HKM : Hid (k < maxLen) := by
            have h1 := HL.out.2
            have h2 := HL30.out
            show _ < _
            unfold maxLen
            omega
          clear hrg hrg7 hRv hat hkz hlk hg7 hs7 hB7 hlt7 ho1 ho2 hiz hi2z hzr hi hi2 hzE hne2
          go_wp2_with (first
            | (at_mapUpdate; refine wpList_mapUpdate_own _ rfl _ _ _ 81 rfl 9 92 lawS Tryz.underlying81 PR w2.heap.size k M rfl HPm7.out HKM.out _ _ _ rfl rfl HKZ.out (.held (ptr b off i2)) [] rfl ?_; intro w8 hown8 hgrow8))
          go_frame
          have HG8 : Hid (w8.ranges Tryz.prog 9 unitElem F w5.heap.size len E5 (fun s => left s && !s.sameKey (keyL z)) cnt7) := HG7.out.kept hgrow8 (by simpa using HNE.out.1) (by simpa using HNE.out.2.1)
          have HO8 : Hid (w8.ownsMap Tryz.prog 9 PR w2.heap.size (k + 1) (M.put (keyL z) (.held (ptr b off i2)))) := hown8
          have HB8 : Hid (Below w2.heap.size w2 w8) := HB7.out.grown hgrow8 HB7.out.size (fun j hj => by cases hj; exact Nat.le_refl _)
          clear hown8 hgrow8
          go_roundw
          case rel => exact ⟨_, cnt7, k + 1, _, HG8.out, HO8.out, ⟨HL7.out, by have h1 := HL.out.2; have h2 := HLT.out; omega⟩, HB8.out⟩
          case measure => rw [HG8.out.left_eq, HG.out.left_eq]; exact HLT.out
  · have hmI : (30 : Int) < (m : Int) := by omega
    have HR : Hid (ptB D len T m = false) := ptB_many hm
    go_wp2
    go_ret2
    exact ⟨.slice none 0 0, [], ret_v (by rw [HR.out]; rfl), ownD_nil _ _, part_none HR.out, apU_nil, HB1.out⟩
end Go.Proofs.YtlibipbpaigmdaaGreatDoor

namespace Go.Proofs.YtlibipbpaigmdaaGreatDoor
open Go.RowKit
set_option linter.unusedVariables false

/-- the number behind the marks of i nodes -/
def kAt (n : Nat → Nat) : Nat → Nat
  | 0 => 1
  | i + 1 => kAt n i + 5 + n i
/-- node i bears its marks -/
structure MkN (D : Nat → Nd) (n : Nat → Nat) (i : Nat) : Prop where
  a : (D i).a = (kAt n i : Nat)
  s : (D i).s = (kAt n i : Nat) + 1
  k : (D i).k = (kAt n i : Nat) + 1 + 1
  key : (D i).key = mt (kAt n i + 3)
  text : (D i).text = mt (kAt n i + 4)
  cnt : (D i).n = n i
  ups : ∀ j, j < n i → (D i).S j = mt (kAt n i + 5 + j)
theorem strs_cg {w : World} {a : Option Addr} {len cap : Nat} {S T : Nat → ByteArray} (h : IsStrs w a len cap S) (e : ∀ i, i < len → S i = T i) : IsStrs w a len cap T := by
  obtain ⟨h1, h2, h3⟩ := h
  refine ⟨h1, h2, fun hp => ?_⟩
  obtain ⟨b, off, e1, hb, hc⟩ := h3 hp
  exact ⟨b, off, e1, hb, fun i hi => by rw [← e i hi]; exact hc i hi⟩
theorem held_int (z : Int) (a : Option Addr) (len cap k0 : Nat) (hz : z = (k0 : Int)) (w : World) (h : IsStrs w a len cap (fun i => mt (k0 + i))) (hk : 0 < k0) (hb : k0 + len ≤ 1152921504606846976) :
    Calls Tryz.prog 26 #[.slice a len cap, .int .i64 z] w fun e w' => e = .returned (.int .i64 ((k0 + len : Nat) : Int)) ∧ Below w.heap.size w w' := by
  rw [hz]
  exact heldStringS_any a len cap k0 w h hk hb

set_option maxRecDepth 10000 in
set_option maxHeartbeats 4000000 in
theorem heldNodeS_any (a : Option Addr) (len cap : Nat) (D : Nat → Nd) (n : Nat → Nat) (w : World) (h : IsNds w a len cap D) (hM : ∀ i, i < len → MkN D n i) (hl : len ≤ 1048576) (hn : ∀ i, i < len → n i ≤ 1048576) :
    Calls Tryz.prog 31 #[.slice a len cap, .int .i64 1] w fun e w' => e = .returned (.int .i64 ((kAt n len : Nat) : Int)) ∧ Below w.heap.size w w' := by
  have HN : Hid (∀ w', Below w.heap.size w w' → IsNds w' a len cap D) := fun w' hB => h.below hB
  have HM : Hid (∀ i, i < len → MkN D n i) := hM
  have HNN : Hid (∀ i, i < len → n i ≤ 1048576) := hn
  have hlc := h.1
  have hcm := h.2.1
  clear h hM hn
  go_enter Tryz.func31, Tryz.ntmps31
  go_wp2
  go_loopw [1, 5] (fun x i wr => ∃ (j k : Nat), j ≤ len ∧ i = .int .i64 j ∧ x = .int .i64 k ∧ Hid (k = kAt n j) ∧ 0 < k ∧ k ≤ 1 + j * 1048581 ∧ Below w.heap.size w wr)
    (fun _ i _ => len - (intOf i).toNat)
  case atStart => exact ⟨0, 1, Nat.zero_le _, rfl, rfl, rfl, by omega, by omega, Below.refl _ _⟩
  case round =>
    obtain ⟨j, k, hj, rfl, rfl, HK, hk0, hk, hB⟩ := hrel
    by_cases hlt : j < len
    · have hltI : (j : Int) < (len : Int) := by omega
      have HB : Hid (Below w.heap.size w wr) := hB
      obtain ⟨b, off, hae, hbs, hcell⟩ := (HN.out wr hB).2.2 (by omega)
      obtain ⟨c0, c1, c2, c3, c4, c5, ci⟩ := hcell j hlt
      have hm := HM.out j hlt
      have hnj := HNN.out j hlt
      obtain ⟨un, hun⟩ : ∃ un, un = n j := ⟨_, rfl⟩
      obtain ⟨uu, huu⟩ : ∃ uu, uu = (D j).u := ⟨_, rfl⟩
      obtain ⟨uc, huc⟩ : ∃ uc, uc = (D j).cap := ⟨_, rfl⟩
      rw [hm.a, ← HK.out] at c0
      rw [hm.s, ← HK.out] at c1
      rw [hm.k, ← HK.out] at c2
      rw [hm.key, ← HK.out] at c3
      rw [hm.text, ← HK.out] at c4
      rw [hm.cnt, ← hun, ← huu, ← huc] at c5
      have hci : IsStrs wr uu un uc (fun i => mt (k + 5 + i)) := by
        rw [hm.cnt, ← hun, ← huu, ← huc] at ci
        exact strs_cg ci fun i hi => by rw [hm.ups i (by rw [← hun]; exact hi), ← HK.out]
      rw [← hun] at hnj
      have HUN : Hid (un = n j) := hun
      have HCI : Hid (∀ w', Below wr.heap.size wr w' → IsStrs w' uu un uc (fun i => mt (k + 5 + i))) := fun w' hB => hci.below hB
      have C3 : Hid (wr.cell? ⟨b, off + j * 6 + 3, none⟩ = some (.string (mt (k + 3)))) := c3
      have C4 : Hid (wr.cell? ⟨b, off + j * 6 + 4, none⟩ = some (.string (mt (k + 4)))) := c4
      have C5 : Hid (wr.cell? ⟨b, off + j * 6 + 5, none⟩ = some (.slice uu un uc)) := c5
      have d3 : ∀ s : Later wr, s.val.cell? ⟨b, off + j * 6 + 3, none⟩ = some (.string (mt (k + 3))) := fun s => s.cell c3
      have HX3 : Hid (∀ s : Later wr, Calls Tryz.prog 94 #[.int .i64 ((k : Int) + 1 + 1 + 1)] s.val fun e w' => e = .returned (.string (mt (k + 3))) ∧ Below s.val.heap.size s.val w') := fun s => mt_int _ (k + 3) (by omega) (by omega) (by omega) s.val
      have hs3 : ((mt (k + 3)).toList != (mt (k + 3)).toList) = false := by simp
      have hs4 : ((mt (k + 4)).toList != (mt (k + 4)).toList) = false := by simp
      haveI := Later.any wr
      subst hae
      clear hcell hB c3 c4 c5 ci hci hm hun huu huc
      go_wp2
      refine wp_region_later (by kernel_rfl) (by kernel_rfl) ?_
      repeat (go_big_quiet_step ((rename_i s; exact Calls.later (HX3.out s))))
      refine wpQuiet_nil ?_
      rintro w5 ⟨⟨v5, hB5⟩, e5⟩
      obtain rfl : w5 = v5 := e5
      have HB5 : Hid (Below wr.heap.size wr w5) := hB5
      have d4 : ∀ s : Later w5, s.val.cell? ⟨b, off + j * 6 + 4, none⟩ = some (.string (mt (k + 4))) := fun s => s.cell ((hB5.cell (p := ⟨b, off + j * 6 + 4, none⟩) hbs).trans C4.out)
      have HX4 : Hid (∀ s : Later w5, Calls Tryz.prog 94 #[.int .i64 ((k : Int) + 1 + 1 + 1 + 1)] s.val fun e w' => e = .returned (.string (mt (k + 4))) ∧ Below s.val.heap.size s.val w') := fun s => mt_int _ (k + 4) (by omega) (by omega) (by omega) s.val
      haveI := Later.any w5
      clear hB5 d3 HX3
      go_wp2
      refine wp_region_later (by kernel_rfl) (by kernel_rfl) ?_
      repeat (go_big_quiet_step ((rename_i s; exact Calls.later (HX4.out s))))
      refine wpQuiet_nil ?_
      rintro w6 ⟨⟨v6, hB6⟩, e6⟩
      obtain rfl : w6 = v6 := e6
      have HB6 : Hid (Below wr.heap.size wr w6) := HB5.out.trans (hB6.mono HB5.out.size)
      have c5 : w6.cell? ⟨b, off + j * 6 + 5, none⟩ = some (.slice uu un uc) := (HB6.out.cell (p := ⟨b, off + j * 6 + 5, none⟩) hbs).trans C5.out
      have HH : Hid (Calls Tryz.prog 26 #[.slice uu un uc, .int .i64 ((k : Int) + 1 + 1 + 1 + 1 + 1)] w6 fun e w' => e = .returned (.int .i64 ((k + 5 + un : Nat) : Int)) ∧ Below w6.heap.size w6 w') := held_int _ uu un uc (k + 5) (by omega) w6 (HCI.out w6 HB6.out) (by omega) (by omega)
      clear hB6 d4 HX4
      go_wp2_with fail
      refine HH.out.mono ?_
      rintro e w7 ⟨rfl, hB7⟩
      have HB7 : Hid (Below w.heap.size w w7) := HB.out.trans ((HB6.out.trans (hB7.mono HB6.out.size)).mono HB.out.size)
      have hneg : ¬ ((k + 5 + un : Nat) : Int) < 0 := by omega
      clear hB7 c5
      go_wp2
      go_roundw
      case rel => exact ⟨j + 1, k + 5 + un, by omega, by go_num, by go_num, by show _ = kAt n j + 5 + n j; rw [← HK.out, HUN.out], by omega, by omega, HB7.out⟩
      case measure => simp [intOf]; omega
    · obtain rfl : j = len := by omega
      have HB : Hid (Below w.heap.size w wr) := hB
      go_wp2
      go_ret
      have e := HK.out
      subst e
      exact ⟨rfl, HB.out⟩
end Go.Proofs.YtlibipbpaigmdaaGreatDoor

namespace Go.Proofs.YtlibipbpaigmdaaGreatDoor
open Go.RowKit
set_option linter.unusedVariables false

def cN (A : List Nd) (i : Nat) : Nat := (gN A i).n
theorem up_ne {w : World} {base g n cap m : Nat} {ys xs : List Value} {v : Value} (h : w.ownsRow base 50 6 (.slice (some ⟨g, 0, none⟩) n cap) n ys) (h' : w.ownsRow base 9 1 v m xs) (k : Nat) (hk : v.ownBlock = some k) : k ≠ g := by
  intro e
  subst e
  obtain ⟨cs, h1⟩ := own_blk h (k := k) rfl
  obtain ⟨cs', h2⟩ := own_blk h' hk
  rw [h1] at h2
  simp at h2
/-- the first j nodes of the row ys bear their marks -/
structure MkR (A : List Nd) (len j : Nat) (ys : List Value) : Prop where
  up : ∀ i, i < len → ys[i * 6 + 5]? = some (upV A i)
  m0 : ∀ i, i < j → ys[i * 6]? = some (.int .i64 (kAt (cN A) i : Nat))
  m1 : ∀ i, i < j → ys[i * 6 + 1]? = some (.int .i64 ((kAt (cN A) i : Nat) + 1))
  m2 : ∀ i, i < j → ys[i * 6 + 2]? = some (.int .i64 ((kAt (cN A) i : Nat) + 1 + 1))
  m3 : ∀ i, i < j → ys[i * 6 + 3]? = some (.string (mt (kAt (cN A) i + 3)))
  m4 : ∀ i, i < j → ys[i * 6 + 4]? = some (.string (mt (kAt (cN A) i + 4)))
def MkU (A : List Nd) (base len j : Nat) (w : World) : Prop := ∀ i, i < len → ∃ xs, w.ownsRow base 9 1 (upV A i) (cN A i) xs ∧ (i < j → xs = marks (kAt (cN A) i + 5) (cN A i))
theorem MkU.keep {A : List Nd} {base len j : Nat} {w w' : World} (h : MkU A base len j w) (he : ∀ i, i < len → ∀ k, (upV A i).ownBlock = some k → w'.heap[k]? = w.heap[k]?) : MkU A base len j w' := fun i hi => by
  obtain ⟨xs, ho, hx⟩ := h i hi
  exact ⟨xs, own_keep ho (he i hi), hx⟩
theorem MkU.below {A : List Nd} {base len j : Nat} {w w' : World} (h : MkU A base len j w) (hB : Below w.heap.size w w') : MkU A base len j w' := fun i hi => by
  obtain ⟨xs, ho, hx⟩ := h i hi
  exact ⟨xs, ownsRow_below ho hB, hx⟩
theorem MkR.next {A : List Nd} {len j : Nat} {ys : List Value} (h : MkR A len j ys) (hl : ys.length = len * 6) (hj : j < len) {k : Nat} (hk : k = kAt (cN A) j) :
    MkR A len (j + 1) (((((ys.set (j * 6) (.int .i64 (k : Int))).set (j * 6 + 1) (.int .i64 ((k : Int) + 1))).set (j * 6 + 2) (.int .i64 ((k : Int) + 1 + 1))).set (j * 6 + 3) (.string (mt (k + 3)))).set (j * 6 + 4) (.string (mt (k + 4)))) := by
  have g : ∀ (t c : Nat), t < len → c < 6 → ∀ v, ys[t * 6 + c]? = some v → t ≠ j ∨ c = 5 → (((((ys.set (j * 6) (.int .i64 (k : Int))).set (j * 6 + 1) (.int .i64 ((k : Int) + 1))).set (j * 6 + 2) (.int .i64 ((k : Int) + 1 + 1))).set (j * 6 + 3) (.string (mt (k + 3)))).set (j * 6 + 4) (.string (mt (k + 4))))[t * 6 + c]? = some v := fun t c ht hc v hv hne => by
    rw [List.getElem?_set_ne (by omega), List.getElem?_set_ne (by omega), List.getElem?_set_ne (by omega), List.getElem?_set_ne (by omega), List.getElem?_set_ne (by omega)]
    exact hv
  refine ⟨fun i hi => g i 5 hi (by omega) _ (h.up i hi) (.inr rfl), fun i hi => ?_, fun i hi => ?_, fun i hi => ?_, fun i hi => ?_, fun i hi => ?_⟩
  · by_cases he : i = j
    · subst he
      rw [List.getElem?_set_ne (by omega), List.getElem?_set_ne (by omega), List.getElem?_set_ne (by omega), List.getElem?_set_ne (by omega), List.getElem?_set_self (by omega), hk]
    · exact g i 0 (by omega) (by omega) _ (h.m0 i (by omega)) (.inl he)
  · by_cases he : i = j
    · subst he
      rw [List.getElem?_set_ne (by omega), List.getElem?_set_ne (by omega), List.getElem?_set_ne (by omega), List.getElem?_set_self (by simp; omega), hk]
    · exact g i 1 (by omega) (by omega) _ (h.m1 i (by omega)) (.inl he)
  · by_cases he : i = j
    · subst he
      rw [List.getElem?_set_ne (by omega), List.getElem?_set_ne (by omega), List.getElem?_set_self (by simp; omega), hk]
    · exact g i 2 (by omega) (by omega) _ (h.m2 i (by omega)) (.inl he)
  · by_cases he : i = j
    · subst he
      rw [List.getElem?_set_ne (by omega), List.getElem?_set_self (by simp; omega), hk]
    · exact g i 3 (by omega) (by omega) _ (h.m3 i (by omega)) (.inl he)
  · by_cases he : i = j
    · subst he
      rw [List.getElem?_set_self (by simp; omega), hk]
    · exact g i 4 (by omega) (by omega) _ (h.m4 i (by omega)) (.inl he)
theorem flat_up {A : List Nd} {i : Nat} (hi : i < A.length) : (flat6 A)[i * 6 + 5]? = some (upV A i) := by
  rw [flat6_at A hi (by omega)]
  unfold upV
  rw [gN_at hi]
  rfl

set_option maxRecDepth 10000 in
set_option maxHeartbeats 4000000 in
theorem markD_any (A : List Nd) (base g cap len : Nat) (hlen : len = A.length) (w : World) (h : OwnD w base (.slice (some ⟨g, 0, none⟩) len cap) A) (hap : ApU A) (hl : len ≤ 1048576) (hn : ∀ i, i < len → cN A i ≤ 1048576) :
    Calls Tryz.prog 23 #[.slice (some ⟨g, 0, none⟩) len cap, .int .i64 1] w fun e w' => e = .returned (.int .i64 (kAt (cN A) len : Nat)) ∧ (∃ ys, w'.ownsRow base 50 6 (.slice (some ⟨g, 0, none⟩) len cap) len ys ∧ MkR A len len ys) ∧ MkU A base len len w' ∧ Kept (fun b => b < base) w w' := by
  have hgb : ¬ g < base := by
    have := World.ownsRow.lt h.1 g rfl
    omega
  have HAP : Hid (∀ i i', i < len → i' < len → i ≠ i' → ∀ b, (upV A i).ownBlock = some b → (upV A i').ownBlock ≠ some b) := by rw [hlen]; exact hap
  have h0 : ∃ ys, w.ownsRow base 50 6 (.slice (some ⟨g, 0, none⟩) len cap) len ys ∧ MkR A len 0 ys := by
    refine ⟨flat6 A, by rw [hlen]; rw [hlen] at h; exact h.1, fun i hi => flat_up (by omega), fun i hi => ?_, fun i hi => ?_, fun i hi => ?_, fun i hi => ?_, fun i hi => ?_⟩ <;> exact absurd hi (Nat.not_lt_zero _)
  have hu0 : MkU A base len 0 w := fun i hi => by
    obtain ⟨xs, ho, _⟩ := h.2 _ (gN_mem (show i < A.length by omega))
    exact ⟨xs, ho, fun hh => absurd hh (Nat.not_lt_zero _)⟩
  clear h hap hlen
  go_enter Tryz.func23, Tryz.ntmps23
  go_wp2
  go_loopw [1, 5] (fun x i wr => ∃ (j k : Nat), j ≤ len ∧ i = .int .i64 j ∧ x = .int .i64 k ∧ Hid (k = kAt (cN A) j) ∧ 0 < k ∧ k ≤ 1 + j * 1048581 ∧ (∃ ys, wr.ownsRow base 50 6 (.slice (some ⟨g, 0, none⟩) len cap) len ys ∧ MkR A len j ys) ∧ MkU A base len j wr ∧ Kept (fun b => b < base) w wr)
    (fun _ i _ => len - (intOf i).toNat)
  case atStart => exact ⟨0, 1, Nat.zero_le _, rfl, rfl, rfl, by omega, by omega, h0, hu0, Kept.refl _ _⟩
  case round =>
    obtain ⟨j, k, hj, rfl, rfl, HKE, hk0, hk, hO, hU, hK⟩ := hrel
    clear h0 hu0
    by_cases hlt : j < len
    · have hltI : (j : Int) < (len : Int) := by omega
      obtain ⟨ys, ho, hR⟩ := hO
      have hnj := hn j hlt
      have hyl : ys.length = len * 6 := ho.1
      have HO : Hid (wr.ownsRow base 50 6 (.slice (some ⟨g, 0, none⟩) len cap) len ys) := ho
      have HR : Hid (MkR A len j ys) := hR
      have f0 := ho.frozenAt (j * 6)
      obtain ⟨t0, y0⟩ := own_some ho (j * 6) (by omega)
      have f1 := ho.frozenAt (j * 6 + 1)
      obtain ⟨t1, y1⟩ := own_some ho (j * 6 + 1) (by omega)
      have f2 := ho.frozenAt (j * 6 + 2)
      obtain ⟨t2, y2⟩ := own_some ho (j * 6 + 2) (by omega)
      clear ho hR
      go_wp2_with fail
      obtain ⟨wa, hwa⟩ : ∃ wa, wa = ((wr.setCell ⟨g, j * 6, none⟩ (.int .i64 (k : Int))).setCell ⟨g, j * 6 + 1, none⟩ (.int .i64 ((k : Int) + 1))).setCell ⟨g, j * 6 + 2, none⟩ (.int .i64 ((k : Int) + 1 + 1)) := ⟨_, rfl⟩
      rw [← hwa]
      have hoa : wa.ownsRow base 50 6 (.slice (some ⟨g, 0, none⟩) len cap) len (((ys.set (j * 6) (.int .i64 (k : Int))).set (j * 6 + 1) (.int .i64 ((k : Int) + 1))).set (j * 6 + 2) (.int .i64 ((k : Int) + 1 + 1))) := by
        rw [hwa]
        exact (((((World.ownsRow.stored HO.out _ _).1).stored _ _).1).stored _ _).1
      have hua : MkU A base len j wa := hU.keep fun i hi b hb => by
        obtain ⟨xs, hx, _⟩ := hU i hi
        have hne := up_ne HO.out hx b hb
        rw [hwa, Below.heap_setCell _ _ _ _ hne, Below.heap_setCell _ _ _ _ hne, Below.heap_setCell _ _ _ _ hne]
      have hKa : Kept (fun b => b < base) w wa := by
        rw [hwa]
        exact kept_setCell (kept_setCell (kept_setCell hK hgb _) hgb _) hgb _
      clear hwa f0 y0 f1 y1 f2 y2 hK hU
      refine (mt_int _ (k + 3) (by omega) (by omega) (by omega) _).mono ?_
      rintro e w1 ⟨rfl, hB1⟩
      have ho1 := ownsRow_below hoa hB1
      have hu1 := hua.below hB1
      have hK1 : Kept (fun b => b < base) w w1 := hKa.trans (Kept.of_below hB1)
      have f3 := ho1.frozenAt (j * 6 + 3)
      obtain ⟨t3, y3⟩ := own_some ho1 (j * 6 + 3) (by omega)
      have HO1 : Hid (_) := ho1
      have HU1 : Hid (MkU A base len j w1) := hu1
      have HK1 : Hid (Kept (fun b => b < base) w w1) := hK1
      clear hoa hua hKa ho1 hu1 hK1 hB1
      go_wp2_with fail
      obtain ⟨wb, hwb⟩ : ∃ wb, wb = w1.setCell ⟨g, j * 6 + 3, none⟩ (.string (mt (k + 3))) := ⟨_, rfl⟩
      rw [← hwb]
      have hob := (World.ownsRow.stored HO1.out (j * 6 + 3) (.string (mt (k + 3)))).1
      have hub : MkU A base len j wb := HU1.out.keep fun i hi b hb => by
        obtain ⟨xs, hx, _⟩ := HU1.out i hi
        rw [hwb, Below.heap_setCell _ _ _ _ (up_ne HO1.out hx b hb)]
      have hKb : Kept (fun b => b < base) w wb := by
        rw [hwb]
        exact kept_setCell HK1.out hgb _
      rw [← hwb] at hob
      clear hwb f3 y3 HO1 HU1 HK1
      refine (mt_int _ (k + 4) (by omega) (by omega) (by omega) _).mono ?_
      rintro e w2 ⟨rfl, hB2⟩
      have ho2 := ownsRow_below hob hB2
      have hu2 := hub.below hB2
      have hK2 : Kept (fun b => b < base) w w2 := hKb.trans (Kept.of_below hB2)
      have f4 := ho2.frozenAt (j * 6 + 4)
      obtain ⟨t4, y4⟩ := own_some ho2 (j * 6 + 4) (by omega)
      have y5 : w2.cell? ⟨g, j * 6 + 5, none⟩ = some (upV A j) := by
        rw [ho2.cellAt _ (by omega), List.getElem?_set_ne (by omega), List.getElem?_set_ne (by omega), List.getElem?_set_ne (by omega), List.getElem?_set_ne (by omega)]
        exact HR.out.up j hlt
      have HO2 : Hid (_) := ho2
      have HU2 : Hid (MkU A base len j w2) := hu2
      have HK2 : Hid (Kept (fun b => b < base) w w2) := hK2
      clear hob hub hKb ho2 hu2 hK2 hB2
      go_wp2_with fail
      obtain ⟨wc, hwc⟩ : ∃ wc, wc = w2.setCell ⟨g, j * 6 + 4, none⟩ (.string (mt (k + 4))) := ⟨_, rfl⟩
      rw [← hwc]
      have hoc := (World.ownsRow.stored HO2.out (j * 6 + 4) (.string (mt (k + 4)))).1
      have huc : MkU A base len j wc := HU2.out.keep fun i hi b hb => by
        obtain ⟨xs, hx, _⟩ := HU2.out i hi
        rw [hwc, Below.heap_setCell _ _ _ _ (up_ne HO2.out hx b hb)]
      have hKc : Kept (fun b => b < base) w wc := by
        rw [hwc]
        exact kept_setCell HK2.out hgb _
      rw [← hwc] at hoc
      clear hwc f4 y4 y5 HO2 HU2 HK2
      obtain ⟨xs0, hx0, _⟩ := huc j hlt
      have hne0 := up_ne hoc hx0
      refine (markStringS_int _ (gN A j).u (cN A j) (gN A j).cap base xs0 (k + 5) (by omega) _ hx0 (by omega) (by omega)).mono ?_
      rintro e w3 ⟨rfl, ho3, hG3⟩
      have ho4 := hoc.kept hG3 (.inr (fun e => hne0 g e.symm rfl))
      have hu4 : MkU A base len (j + 1) w3 := fun i hi => by
        by_cases he : i = j
        · subst he
          exact ⟨_, ho3, fun _ => by rw [← HKE.out]⟩
        · obtain ⟨xs, hx, hxm⟩ := huc i hi
          refine ⟨xs, hx.kept hG3 ?_, fun hh => hxm (by omega)⟩
          cases hb : (upV A i).ownBlock with
          | none => exact .inl rfl
          | some b => exact .inr (fun e => HAP.out i j hi hlt he b hb e.symm)
      have hK4 : Kept (fun b => b < base) w w3 := hKc.trans (Kept.of_grown hG3 (fun b hb => by
        have := (World.ownsRow.lt hx0 b hb).1
        omega))
      have HF : Hid ((∃ ys, w3.ownsRow base 50 6 (.slice (some ⟨g, 0, none⟩) len cap) len ys ∧ MkR A len (j + 1) ys) ∧ MkU A base len (j + 1) w3 ∧ Kept (fun b => b < base) w w3) := ⟨⟨_, ho4, HR.out.next hyl hlt HKE.out⟩, hu4, hK4⟩
      clear hoc huc hKc hx0 ho3 hG3 ho4 hu4 hK4 HO HR hne0
      go_wp2
      go_roundw
      case rel => exact ⟨j + 1, k + 5 + cN A j, by omega, by go_num, by go_num, by show _ = kAt (cN A) j + 5 + cN A j; rw [← HKE.out], by omega, by omega, HF.out.1, HF.out.2.1, HF.out.2.2⟩
      case measure => simp [intOf]; omega
    · obtain rfl : j = len := by omega
      go_wp2
      go_ret
      have e := HKE.out
      subst e
      exact ⟨rfl, hO, hU, hK⟩

/-- a marked dag reads as its marks -/
theorem mk_nds {A : List Nd} {base g cap len : Nat} {w : World} (hl : len ≤ cap ∧ cap ≤ 9223372036854775807) (hr : ∃ ys, w.ownsRow base 50 6 (.slice (some ⟨g, 0, none⟩) len cap) len ys ∧ MkR A len len ys) (hu : MkU A base len len w) :
    ∃ D, IsNds w (some ⟨g, 0, none⟩) len cap D ∧ ∀ i, i < len → MkN D (cN A) i := by
  obtain ⟨ys, ho, hR⟩ := hr
  refine ⟨fun i => ⟨(kAt (cN A) i : Nat), (kAt (cN A) i : Nat) + 1, (kAt (cN A) i : Nat) + 1 + 1, mt (kAt (cN A) i + 3), mt (kAt (cN A) i + 4), (gN A i).u, (gN A i).n, (gN A i).cap, fun j => mt (kAt (cN A) i + 5 + j)⟩, ⟨hl.1, hl.2, fun hp => ⟨g, 0, rfl, (World.ownsRow.lt ho g rfl).2, fun i hi => ?_⟩⟩, fun i hi => ⟨rfl, rfl, rfl, rfl, rfl, rfl, fun j _ => rfl⟩⟩
  have c := fun t (ht : t < 6) => ho.cellAt (i * 6 + t) (by omega)
  obtain ⟨xs, hx, hm⟩ := hu i hi
  refine ⟨?_, ?_, ?_, ?_, ?_, ?_, ?_⟩
  · rw [Nat.zero_add]; exact (c 0 (by omega)).trans (hR.m0 i hi)
  · rw [Nat.zero_add]; exact (c 1 (by omega)).trans (hR.m1 i hi)
  · rw [Nat.zero_add]; exact (c 2 (by omega)).trans (hR.m2 i hi)
  · rw [Nat.zero_add]; exact (c 3 (by omega)).trans (hR.m3 i hi)
  · rw [Nat.zero_add]; exact (c 4 (by omega)).trans (hR.m4 i hi)
  · rw [Nat.zero_add]; exact (c 5 (by omega)).trans (hR.up i hi)
  · have hxm := hm hi
    obtain ⟨a', c', e, hI⟩ := strs_of_own (S := fun j => mt (kAt (cN A) i + 5 + j)) hx (fun j hj => by rw [hxm]; exact marks_at hj)
    unfold upV at e
    simp only [Value.slice.injEq] at e
    obtain ⟨rfl, _, rfl⟩ := e
    exact hI
end Go.Proofs.YtlibipbpaigmdaaGreatDoor

namespace Go.Proofs.YtlibipbpaigmdaaGreatDoor
open Go.RowKit
set_option linter.unusedVariables false

theorem PtP.at {D : Nat → Nd} {G : Nat → Nat} {len : Nat} {T : Nat → ByteArray} {m : Nat} {A : List Nd} (h : PtP (fun i => (D i).at (G i)) len T m A) : PtP D len T m A := by
  refine ⟨h.1, fun hp => ?_⟩
  obtain ⟨B, hU, hM, hl, hx⟩ := h.2 hp
  refine ⟨B, hU, fun x => (hM x).trans (reach_at D G len T m x), hl, fun j hj => ?_⟩
  obtain ⟨i, hi, e, hL⟩ := hx j hj
  exact ⟨i, hi, e, ⟨hL.1, hL.2, hL.3, hL.4, hL.5, hL.6, hL.7⟩⟩
theorem PtP.like {D : Nat → Nd} {len : Nat} {T : Nat → ByteArray} {m : Nat} {A A' : List Nd} (h : PtP D len T m A) (h' : PtP D len T m A') : A'.length = A.length ∧ ∀ j, j < A.length → (gN A j).Like (gN A' j) := by
  cases hp : ptB D len T m with
  | false =>
    rw [h.1 hp, h'.1 hp]
    exact ⟨rfl, fun j hj => absurd hj (Nat.not_lt_zero _)⟩
  | true =>
    have hq : dagB D len = true := by unfold ptB at hp; rw [Bool.and_eq_true] at hp; exact hp.1
    obtain ⟨B, hU, hM, hl, hx⟩ := h.2 hp
    obtain ⟨B', hU', hM', hl', hx'⟩ := h'.2 hp
    obtain rfl : B' = B := up_unique hU' hU (fun x => by rw [hM', hM])
    refine ⟨by omega, fun j hj => ?_⟩
    obtain ⟨i, hi, e, hL⟩ := hx j (by omega)
    obtain ⟨i', hi', e', hL'⟩ := hx' j (by omega)
    obtain rfl : i' = i := rise_inj (dagB_parts hq).2.2.1 hi' hi (e'.trans e.symm)
    exact ⟨hL.1.symm.trans hL'.1, hL.2.symm.trans hL'.2, hL.3.symm.trans hL'.3, hL.4.symm.trans hL'.4, hL.5.symm.trans hL'.5, hL.6.symm.trans hL'.6, hL.7.symm.trans hL'.7⟩
theorem PtP.few {D : Nat → Nd} {len : Nat} {T : Nat → ByteArray} {m : Nat} {A : List Nd} (h : PtP D len T m A) : A.length ≤ 30 ∧ ∀ j, j < A.length → cN A j ≤ 5 := by
  cases hp : ptB D len T m with
  | false =>
    rw [h.1 hp]
    exact ⟨by simp, fun j hj => absurd hj (Nat.not_lt_zero _)⟩
  | true =>
    have hq : dagB D len = true := by unfold ptB at hp; rw [Bool.and_eq_true] at hp; exact hp.1
    obtain ⟨B, hU, hM, hl, hx⟩ := h.2 hp
    have h1 : B.length ≤ len := up_len hU (fun x hx => ((hM x).1 hx).isId hq)
    have h2 := (dagB_parts hq).1
    refine ⟨by omega, fun j hj => ?_⟩
    obtain ⟨i, hi, e, hL⟩ := hx j (by omega)
    have h3 := (node_right (ok_at hq hi)).2.2.2.2.2.1
    have h4 : (D i).n = (gN A j).n := by
      first | exact hL.6 | exact hL.7
    show (gN A j).n ≤ 5
    rw [← h4]
    exact h3
theorem okus_at {D : Nat → Nd} {G : Nat → Nat} {len : Nat} (hq : dagB D len = true) : OkUs (fun i => (D i).at (G i)) len := fun i hi =>
  ⟨Nat.le_trans (node_right (ok_at hq hi)).2.2.2.2.2.1 (by decide), fun h => by cases h⟩
theorem Rw.kept3 {p : Nat → Prop} {w w' : World} {g n : Nat} (h : Rw w g n) (hK : Kept p w w') (hp : p g) : Rw w' g n := h.kept (hK.block g h.lt hp)
theorem OwnD.kept {p : Nat → Prop} {w w' : World} {base : Nat} {v : Value} {L : List Nd} (h : OwnD w base v L) (hK : Kept p w w') (hp : ∀ b, base ≤ b → p b) : OwnD w' base v L := h.keep fun k hk hs => hK.block k hs (hp k hk)

set_option maxHeartbeats 1000000 in
theorem markNil (w : World) : Calls Tryz.prog 23 #[.slice none 0 0, .int .i64 1] w fun e w' => e = .returned (.int .i64 1) ∧ w' = w := by
  go_enter Tryz.func23, Tryz.ntmps23
  go_wp2
  go_loopw [1, 5] (fun x i wr => x = .int .i64 1 ∧ i = .int .i64 0 ∧ wr = w) (fun _ i _ => 0)
  case atStart => exact ⟨rfl, rfl, by first | rfl | trivial⟩
  case round =>
    obtain ⟨rfl, rfl, hw⟩ := hrel
    rw [hw]
    go_wp2
    go_ret
    exact ⟨rfl, rfl⟩
theorem markR_any (A : List Nd) (base : Nat) (v : Value) (w : World) (h : OwnD w base v A) (hap : ApU A) (hl : A.length ≤ 30) (hn : ∀ i, i < A.length → cN A i ≤ 5) :
    Calls Tryz.prog 23 #[v, .int .i64 1] w fun e w' => e = .returned (.int .i64 (kAt (cN A) A.length : Nat)) ∧ (∃ a cap D, v = .slice a A.length cap ∧ IsNds w' a A.length cap D ∧ ∀ i, i < A.length → MkN D (cN A) i) ∧ Kept (fun b => b < base) w w' := by
  rcases h.1.2 with ⟨rfl, h2⟩ | ⟨g, cap, cur, rfl, hb, hh, hnc, hcm, _⟩
  · have h0 : A.length = 0 := by first | exact h2 | omega | simpa using h2
    refine (markNil w).mono ?_
    rintro e w' ⟨rfl, rfl⟩
    rw [h0]
    exact ⟨rfl, ⟨none, 0, fun _ => ndZ, rfl, ⟨Nat.le_refl _, by decide, fun h => absurd h (Nat.lt_irrefl _)⟩, fun i hi => absurd hi (Nat.not_lt_zero _)⟩, Kept.refl _ _⟩
  · refine (markD_any A base g cap A.length rfl w h hap (by omega) (fun i hi => Nat.le_trans (hn i hi) (by decide))).mono ?_
    rintro e w' ⟨rfl, hr, hu, hK⟩
    obtain ⟨_, cx, hve, hND, _⟩ := h.nds
    simp only [Value.slice.injEq, true_and] at hve
    obtain ⟨D, hI, hM⟩ := mk_nds (by obtain ⟨e1, e2⟩ := hve; rw [e2]; exact ⟨hND.1, hND.2.1⟩) hr hu
    exact ⟨rfl, ⟨_, cap, D, rfl, hI, hM⟩, hK⟩
theorem kAt_le {n : Nat → Nat} : ∀ {k : Nat}, (∀ i, i < k → n i ≤ 5) → 1 ≤ kAt n k ∧ kAt n k ≤ 1 + k * 10
  | 0, _ => ⟨Nat.le_refl _, by simp [kAt]⟩
  | k + 1, h => by
    obtain ⟨h1, h2⟩ := kAt_le (k := k) (fun i hi => h i (by omega))
    have := h k (by omega)
    show 1 ≤ kAt n k + 5 + n k ∧ kAt n k + 5 + n k ≤ _
    omega

set_option maxHeartbeats 4000000 in
theorem lawPt_walk (a : Option Addr) (len cap : Nat) (D : Nat → Nd) (u : Option Addr) (m uc : Nat) (S : Nat → ByteArray) (w : World) (h : IsNds w a len cap D) (hf : Fine D len) (hS : IsStrs w u m uc S) (hSs : ∀ j, j < m → (S j).size ≤ 9223372036854775807) (hP : AllT w) :
    Calls Tryz.prog 4 #[.slice a len cap, .slice u m uc] w fun e w' => e = .returned (.bool true) ∧ Below w.heap.size w w' := by
  go_enter Tryz.func4, Tryz.ntmps4
  go_wp2_with fail
  refine (szNodeS_top a len cap D _ h hf).mono ?_
  rintro e w1 ⟨r, rfl, hr, b1⟩
  rcases hr with hr | ⟨hr, hr2, hl, hz⟩
  · go_wp2
    go_ret
    exact ⟨rfl, b1⟩
  go_wp2_with fail
  refine (szStrings2 u m uc S _ (hS.below b1) r hr hr2 hSs).mono ?_
  rintro e w1' ⟨r', rfl, hr', hw⟩
  rw [hw]
  clear hw w1'
  rcases hr' with hr' | ⟨hr', _, hml, hms⟩
  · go_wp2
    go_ret
    exact ⟨rfl, b1⟩
  clear hr2
  go_wp2_with fail
  refine (toNodeS_any a len cap D _ (h.below b1) hl hz).mono ?_
  rintro e w2 ⟨g2, G2, rfl, i2, hB2⟩
  have b2 := b1.trans (hB2.mono b1.size)
  have f2 : Fine (fun i => (D i).at (G2 i)) len := hf
  go_wp2_with fail
  refine (toStrs_any u m uc S _ (hS.below b2) hml).mono ?_
  rintro e w2' ⟨t2, rfl, j2, hB2', _⟩
  have b2' := b2.trans (hB2'.mono b2.size)
  obtain ⟨ok, hok⟩ : ∃ ok, ok = ptB D len S m := ⟨_, rfl⟩
  have HOK : Hid (ok = ptB D len S m) := hok
  have HS3 : Hid (Calls Tryz.prog 28 #[.slice (some ⟨g2, 0, none⟩) len len, .slice (some ⟨t2, 0, none⟩) m m] w2' fun e w' => ∃ v A, e = .returned (.tuple #[v, .bool ok]) ∧ OwnD w' w2'.heap.size v A ∧ PtP D len S m A ∧ Below w2'.heap.size w2' w') := by
    refine (specPart_any _ len len _ _ m m S w2' (i2.below hB2') f2 (fun hq => okus_at hq) j2).mono ?_
    rintro e w' ⟨v, A, rfl, ho, hp, hB⟩
    exact ⟨v, A, by rw [HOK.out]; rfl, ho, hp.at, hB⟩
  have hokn : (ok != ok) = false := by simp
  clear hok hB2 i2 f2 j2 hB2'
  go_wp2_with fail
  refine HS3.out.mono ?_
  rintro e w3 ⟨v3, A3, rfl, o3, hp3, hB3⟩
  have b3 := b2'.trans (hB3.mono b2'.size)
  have HP3 : Hid (PtP D len S m A3) := hp3
  obtain ⟨a3, c3, rfl, i3, _⟩ := o3.nds
  obtain ⟨n, hn⟩ : ∃ n, n = A3.length := ⟨_, rfl⟩
  rw [← hn] at i3 ⊢
  have HN : Hid (n = A3.length) := hn
  clear hB3 HS3 b2' hp3 o3 hn
  go_wp2_with fail
  refine (toNodeS_own a len cap D _ (h.below b3) hl hz).mono ?_
  rintro e w4 ⟨g4, G4, rfl, i4, hB4, n4⟩
  have b4 := b3.trans (hB4.mono b3.size)
  have f4 : Fine (fun i => (D i).at (G4 i)) len := hf
  go_wp2_with fail
  refine (toStrs_own u m uc S _ (hS.below b4) hml).mono ?_
  rintro e w5 ⟨t5, rfl, j5, hB5, ht5, r5⟩
  have b5 := b4.trans (hB5.mono b4.size)
  have H45 := hB5
  have HI6 : Hid (Calls Tryz.prog 30 #[.slice (some ⟨g4, 0, none⟩) len len, .slice (some ⟨t5, 0, none⟩) m m] w5 fun e w' => ∃ v A, e = .returned (.tuple #[v, .bool ok]) ∧ OwnD w' w5.heap.size v A ∧ PtP D len S m A ∧ ApU A ∧ Below w5.heap.size w5 w') := by
    refine (implPart_any _ len len _ _ m m S w5 (i4.below hB5) f4 (fun hq => okus_at hq) j5 hSs (hP.below b5)).mono ?_
    rintro e w' ⟨v, A, rfl, ho, hp, ha, hB⟩
    exact ⟨v, A, by rw [HOK.out]; rfl, ho, hp.at, ha, hB⟩
  clear f4
  go_wp2_with fail
  refine HI6.out.mono ?_
  rintro e w6 ⟨v6, A6, rfl, o6, hp6, hap6, hB6⟩
  have b6 := b5.trans (hB6.mono b5.size)
  have B5 : Below w3.heap.size w3 w5 := hB4.trans (hB5.mono hB4.size)
  have B6 : Below w3.heap.size w3 w6 := B5.trans (hB6.mono B5.size)
  obtain ⟨hl6, hk6⟩ := hp6.like HP3.out
  have hl6' : A6.length = n := by rw [HN.out]; exact hl6.symm
  obtain ⟨a6, c6, rfl, i6, _⟩ := o6.nds
  rw [hl6'] at i6 o6 ⊢
  have HA6 : Hid (ApU A6 ∧ PtP D len S m A6 ∧ A6.length = n) := ⟨hap6, hp6, hl6'⟩
  have HK6 : Hid (∀ i, i < n → (gN A6 i).Like (gN A3 i)) := fun i hi => hk6 i (by rw [hl6']; exact hi)
  clear hap6 hp6 hl6 hk6 hl6' HI6
  go_wp2_with fail
  refine (eqNodeS_like _ _ n c6 c3 _ _ _ i6 (i3.below B6) HK6.out).mono ?_
  rintro e w7 ⟨rfl, hB7⟩
  have b7 := b6.trans (hB7.mono b6.size)
  go_wp2_with fail
  refine (toNodeS_any a len cap D _ (h.below b7) hl hz).mono ?_
  rintro e w8 ⟨g8, G8, rfl, i8, hB8⟩
  have b8 := b7.trans (hB8.mono b7.size)
  have H68 : Below w6.heap.size w6 w8 := hB7.trans (hB8.mono hB7.size)
  have H58 : Below w5.heap.size w5 w8 := hB6.trans (H68.mono hB6.size)
  have H48 : Below w4.heap.size w4 w8 := hB5.trans (H58.mono hB5.size)
  go_wp2_with fail
  refine (eqNodeS_like _ _ len len len _ _ _ (i4.below H48) i8 (fun i hi => ⟨rfl, rfl, rfl, rfl, rfl, rfl, rfl⟩)).mono ?_
  rintro e w9 ⟨rfl, hB9⟩
  have b9 := b8.trans (hB9.mono b8.size)
  have H59 : Below w5.heap.size w5 w9 := H58.trans (hB9.mono H58.size)
  go_wp2_with fail
  refine (toStrs_any u m uc S _ (hS.below b9) hml).mono ?_
  rintro e w10 ⟨t10, rfl, j10, hB10, _⟩
  have b10 := b9.trans (hB10.mono b9.size)
  have H510 : Below w5.heap.size w5 w10 := H59.trans (hB10.mono H59.size)
  go_wp2_with fail
  refine (eqStringS_same _ _ _ _ _ _ _ (j5.below H510) j10).mono ?_
  rintro e w11 ⟨rfl, hB11⟩
  have b11 := b10.trans (hB11.mono b10.size)
  have H611 : Below w6.heap.size w6 w11 := H68.trans ((hB9.trans ((hB10.trans (hB11.mono hB10.size)).mono hB9.size)).mono H68.size)
  have H511 : Below w5.heap.size w5 w11 := H510.trans (hB11.mono H510.size)
  have H411 : Below w4.heap.size w4 w11 := H45.trans (H511.mono H45.size)
  have B11 : Below w3.heap.size w3 w11 := hB4.trans (H411.mono hB4.size)
  have n11 := n4.below H411
  have r11 := r5.below H511
  go_wp2_with fail
  refine (markNodeS_any g4 len w3.heap.size w4.heap.size G4 _ _ n11 hl hz n4.top.1 n4.top.2).mono ?_
  rintro e w12 ⟨k12, rfl, hk12, hk12', K12⟩
  have s34 : w3.heap.size ≤ w4.heap.size := hB4.size
  have s45 : w4.heap.size ≤ w5.heap.size := H45.size
  have s311 : w3.heap.size ≤ w11.heap.size := B11.size
  have B12 : Below w3.heap.size w3 w12 := B11.trans ((K12.mono (fun k hk => .inl hk)).below s311)
  have b12 : Below w.heap.size w w12 := b11.trans (((K12.mono (fun k hk => .inl hk)).below s311).mono b3.size)
  have o12 : OwnD w12 w5.heap.size (.slice a6 n c6) A6 := (o6.below H611).kept K12 (fun b hb => .inr (by omega))
  have r12 : Rw w12 t5 m := r11.kept3 K12 (.inr ht5)
  have ht5' : t5 < w5.heap.size := r5.lt
  obtain ⟨xs12, x12⟩ := r12
  clear hB4 hB5 hB6 hB7 hB8 hB9 hB10 hB11 H45 H48 H58 H59 H68 H510 H511 H411 H611 n4 n11 r5 r11 i8 i4 j5 j10 i6 B5 B6 B11 o6
  go_wp2_with fail
  refine (markStringS_int _ _ _ _ 0 xs12 k12 rfl _ x12 hk12 (by omega)).mono ?_
  rintro e w13 ⟨rfl, _, hG13⟩
  have hrow : ∀ k, (Value.slice (some (⟨t5, 0, none⟩ : Addr)) m m).ownBlock = some k → k = t5 := fun k hk => by
    have hk' : some t5 = some k := hk
    cases hk'
    rfl
  have s312 : w3.heap.size ≤ w12.heap.size := B12.size
  have B13 : Below w3.heap.size w3 w13 := B12.grown hG13 B12.size (fun k hk => by have := hrow k hk; omega)
  have b13 : Below w.heap.size w w13 := b12.grown hG13 b12.size (fun k hk => by have := hrow k hk; have := b4.size; omega)
  have K13 : Kept (fun b => w5.heap.size ≤ b) w12 w13 := Kept.of_grown hG13 (fun k hk => by have := hrow k hk; omega)
  have o13 : OwnD w13 w5.heap.size (.slice a6 n c6) A6 := o12.kept K13 (fun b hb => hb)
  have hkn : decide (((k12 + m : Nat) : Int) < 0) = false := by simp; omega
  have hknI : ¬ ((k12 + m : Nat) : Int) < 0 := by omega
  have H313 := i3.below B13
  obtain ⟨a13, c13, e13, i13, _⟩ := o13.nds
  rw [HA6.out.2.2] at e13 i13
  simp only [Value.slice.injEq, true_and] at e13
  obtain ⟨rfl, rfl⟩ := e13
  clear hG13 hrow K12 K13 o12 x12
  go_wp2_with fail
  refine (eqNodeS_like _ _ n c6 c3 _ _ _ i13 H313 HK6.out).mono ?_
  rintro e w14 ⟨rfl, hB14⟩
  have b14 := b13.trans (hB14.mono b13.size)
  have B14 := B13.trans (hB14.mono B13.size)
  have o14 := o13.below hB14
  have hfew := HA6.out.2.1.few
  obtain ⟨K, hK⟩ : ∃ K, K = kAt (cN A6) n := ⟨_, rfl⟩
  have HKK : Hid (K = kAt (cN A6) n) := hK
  have hKb : 1 ≤ K ∧ K ≤ 1 + n * 10 := by rw [hK]; exact kAt_le (fun i hi => hfew.2 i (by rw [HA6.out.2.2]; exact hi))
  have hn30 : n ≤ 30 := by have := hfew.1; rw [HA6.out.2.2] at this; exact this
  have HM15 : Hid (Calls Tryz.prog 23 #[.slice a6 n c6, .int .i64 1] w14 fun e w' => e = .returned (.int .i64 (K : Nat)) ∧ (∃ D', IsNds w' a6 n c6 D' ∧ ∀ i, i < n → MkN D' (cN A6) i) ∧ Kept (fun b => b < w5.heap.size) w14 w') := by
    refine (markR_any A6 w5.heap.size _ w14 o14 HA6.out.1 hfew.1 hfew.2).mono ?_
    rintro e w' ⟨rfl, ⟨a', c', D', e', hI', hM'⟩, hK'⟩
    rw [HA6.out.2.2] at e' hI' hM' ⊢
    simp only [Value.slice.injEq, true_and] at e'
    obtain ⟨rfl, rfl⟩ := e'
    exact ⟨by rw [HKK.out], ⟨D', hI', hM'⟩, hK'⟩
  clear hkn hknI H313 i13 o13 o14 hK
  go_wp2_with fail
  refine HM15.out.mono ?_
  rintro e w15 ⟨rfl, ⟨D15, i15, m15⟩, hK15⟩
  have b15 : Below w.heap.size w w15 := b14.trans ((hK15.mono (fun k hk => by have := b5.size; omega)).below b14.size)
  have B15 : Below w3.heap.size w3 w15 := B14.trans ((hK15.mono (fun k hk => by omega)).below B14.size)
  have HI15 : Hid (∀ w', Below w15.heap.size w15 w' → Calls Tryz.prog 31 #[.slice a6 n c6, .int .i64 1] w' fun e w'' => e = .returned (.int .i64 (K : Nat)) ∧ Below w'.heap.size w' w'') := fun w' hB => by
    rw [HKK.out]
    exact heldNodeS_any a6 n c6 D15 (cN A6) w' (i15.below hB) m15 (by omega) (fun i hi => Nat.le_trans (hfew.2 i (by rw [HA6.out.2.2]; exact hi)) (by decide))
  have hq1 : decide (((K : Nat) : Int) < 0) = false := decide_eq_false (by omega)
  have hq1I : ¬ ((K : Nat) : Int) < 0 := by omega
  have hq2 : ((((K : Nat) : Int)) != ((K : Nat) : Int)) = false := by simp
  clear hK15 i15 m15 HM15 hfew
  go_wp2_with fail
  refine (HI15.out w15 (Below.refl _ _)).mono ?_
  rintro e w16 ⟨rfl, hB16⟩
  have b16 := b15.trans (hB16.mono b15.size)
  have B16 := B15.trans (hB16.mono B15.size)
  go_wp2_with fail
  refine (toNodeS_any a len cap D _ (h.below b16) hl hz).mono ?_
  rintro e w17 ⟨g17, G17, rfl, i17, hB17⟩
  have b17 := b16.trans (hB17.mono b16.size)
  have B17 := B16.trans (hB17.mono B16.size)
  have f17 : Fine (fun i => (D i).at (G17 i)) len := hf
  go_wp2_with fail
  refine (toStrs_any u m uc S _ (hS.below b17) hml).mono ?_
  rintro e w18 ⟨t18, rfl, j18, hB18, _⟩
  have b18 := b17.trans (hB18.mono b17.size)
  have B18 := B17.trans (hB18.mono B17.size)
  have HI19 : Hid (Calls Tryz.prog 30 #[.slice (some ⟨g17, 0, none⟩) len len, .slice (some ⟨t18, 0, none⟩) m m] w18 fun e w' => ∃ v A, e = .returned (.tuple #[v, .bool ok]) ∧ OwnD w' w18.heap.size v A ∧ PtP D len S m A ∧ Below w18.heap.size w18 w') := by
    refine (implPart_any _ len len _ _ m m S w18 (i17.below hB18) f17 (fun hq => okus_at hq) j18 hSs (hP.below b18)).mono ?_
    rintro e w' ⟨v, A, rfl, ho, hp, ha, hB⟩
    exact ⟨v, A, by rw [HOK.out]; rfl, ho, hp.at, hB⟩
  clear f17
  go_wp2_with fail
  refine HI19.out.mono ?_
  rintro e w19 ⟨v19, A19, rfl, o19, hp19, hB19⟩
  have b19 := b18.trans (hB19.mono b18.size)
  have B19 := B18.trans (hB19.mono B18.size)
  obtain ⟨hl19, hk19⟩ := hp19.like HP3.out
  have hl19' : A19.length = n := by rw [HN.out]; exact hl19.symm
  obtain ⟨a19, c19, rfl, i19, _⟩ := o19.nds
  rw [hl19'] at i19 ⊢
  have H3 := i3.below B19
  have HK19 : Hid (∀ i, i < n → (gN A19 i).Like (gN A3 i)) := fun i hi => hk19 i (by rw [hl19']; exact hi)
  clear o19 hl19 hk19 hp19 hl19'
  go_wp2_with fail
  refine (eqNodeS_like _ _ n c19 c3 _ _ _ i19 H3 HK19.out).mono ?_
  rintro e w20 ⟨rfl, hB20⟩
  have b20 := b19.trans (hB20.mono b19.size)
  have B1520 : Below w15.heap.size w15 w20 := hB16.trans ((hB17.trans ((hB18.trans ((hB19.trans (hB20.mono hB19.size)).mono hB18.size)).mono hB17.size)).mono hB16.size)
  go_wp2_with fail
  refine (HI15.out w20 B1520).mono ?_
  rintro e w21 ⟨rfl, hB21⟩
  go_wp2
  go_ret
  exact ⟨rfl, b20.trans (hB21.mono b20.size)⟩
end Go.Proofs.YtlibipbpaigmdaaGreatDoor
