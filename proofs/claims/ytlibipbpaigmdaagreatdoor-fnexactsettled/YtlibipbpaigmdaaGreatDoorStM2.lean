/-
  What is settled, plainly: the ids behind which all is covered by the numbers. No condition.
  Slices of numbers: how they read, slices that the call owns, the laws' own functions over them. No condition but that the slices read.
  The laws' own functions over numbers: the size left, a copy. No condition but that the slice reads.
  Rows: how they read, rows that the call owns, the laws' own functions over them. No condition but that the slices read.
  Copies of rows, and rows held against each other. No condition but that the slices read.
  The specification's test of rows. No condition but that the slices read.
  Tallies: the numbers of a row as an array, and all tallies in a map. No condition but that the slices read.
-/
import Derived.Test.YtlibipbpaigmdaaGreatDoorStM1
import Derived.Test.YtlibipbpaigmdaaGreatDoorDag7
import Derived.Test.YtlibipbpaigmdaaGreatDoorBase
import Derived.Laws.AppendOwn
import Derived.Deep.AppendLies
import Derived.Deep.Onto
import Derived.Laws.CopyOwn
import Derived.Deep.Slices
import Derived.Lib.Small
import Derived.Handy
import Derived.Maps.OwnSet
import Derived.Maps.OwnOps
import Derived.Maps.Own
import Derived.Maps.Views
import Derived.Laws.Tables
import Derived.Laws.ResultCell
namespace Go.Proofs.YtlibipbpaigmdaaGreatDoor
open Go.RowKit
set_option linter.unusedVariables false

/-- the number for the author of d -/
def numOf (cs : List Int) (d : Nd) : Int := cs.getD (d.a - 1).toNat 0
/-- node d is covered -/
def covB (cs : List Int) (d : Nd) : Bool := decide (d.s ≤ numOf cs d)
def one (x : ByteArray) : Nat → ByteArray := fun _ => x
/-- all that stands behind x, and x, is covered -/
def CovP (D : Nat → Nd) (len : Nat) (cs : List Int) (x : ByteArray) : Prop := ∀ i, i < len → Reach D len (one x) 1 (ids D i).toList → covB cs (D i) = true
/-- x is the id of a node, and settled -/
def SetP (D : Nat → Nd) (len : Nat) (cs : List Int) (x : List UInt8) : Prop := IsId D len x ∧ CovP D len cs (tx x)

theorem tx_toList (x : ByteArray) : tx x.toList = x := by unfold tx; rw [ByteArray.toList_eq]

theorem reach_one {D : Nat → Nd} {len i : Nat} (hi : i < len) : Reach D len (one (ids D i)) 1 (ids D i).toList := .base (T := one (ids D i)) 0 i (by omega) hi rfl

/-- a right node's author -/
theorem author_in {d : Nd} (h : d.ok = true) : 1 ≤ d.a ∧ d.a ≤ 9 := by
  unfold Nd.ok nodeB at h
  simp only [Bool.and_eq_true] at h
  have h1 := h.1
  simp only [Bool.and_eq_true, inB, decide_eq_true_eq] at h1
  grind
theorem ok_at {D : Nat → Nd} {len i : Nat} (hq : dagB D len = true) (hi : i < len) : (D i).ok = true := (dagB_parts hq).2.1 i hi
end Go.Proofs.YtlibipbpaigmdaaGreatDoor

namespace Go.Proofs.YtlibipbpaigmdaaGreatDoor
open Go.RowKit
set_option linter.unusedVariables false

theorem infoI : (Tryz.prog.info? 2).map (fun i => (i.zero, i.size, i.bytes)) = some (some (.int .i64 0), 1, 8) := by kernel_rfl
/-- a slice of numbers that reads as L -/
def RdI (w : World) (v : Value) (L : List Int) : Prop :=
  ∃ a cap, v = .slice a L.length cap ∧ L.length ≤ cap ∧ cap ≤ 9223372036854775807 ∧ (0 < L.length → ∃ b off, a = some ⟨b, off, none⟩ ∧ b < w.heap.size ∧ ∀ i, i < L.length → w.cell? ⟨b, off + i, none⟩ = some (.int .i64 (L.getD i 0)))
theorem RdI.below {w w' : World} {v : Value} {L : List Int} (h : RdI w v L) (hB : Below w.heap.size w w') : RdI w' v L := by
  obtain ⟨a, cap, rfl, h1, h2, h3⟩ := h
  refine ⟨a, cap, rfl, h1, h2, fun hp => ?_⟩
  obtain ⟨b, off, e, hb, hc⟩ := h3 hp
  exact ⟨b, off, e, Nat.lt_of_lt_of_le hb hB.size, fun i hi => (hB.cell (p := ⟨b, off + i, none⟩) hb).trans (hc i hi)⟩
/-- numbers in memory of the call's own -/
def OwnI (w : World) (base : Nat) (v : Value) (L : List Int) : Prop := w.ownsRow base 2 1 v L.length (L.map (.int .i64 ·))
theorem OwnI.below {w w' : World} {base : Nat} {v : Value} {L : List Int} (h : OwnI w base v L) (hB : Below w.heap.size w w') : OwnI w' base v L := ownsRow_below h hB
theorem OwnI.rd {w : World} {base : Nat} {v : Value} {L : List Int} (h : OwnI w base v L) : RdI w v L := by
  have h' := h
  obtain ⟨h1, h2⟩ := h
  rcases h2 with ⟨rfl, h0⟩ | ⟨g, cap, cur, rfl, hb, hh, hn, hc, hs, ht⟩
  · have hL : L = [] := List.eq_nil_of_length_eq_zero h0
    subst hL
    exact ⟨none, 0, rfl, Nat.le_refl _, by omega, fun h => absurd h (Nat.lt_irrefl _)⟩
  · refine ⟨_, cap, rfl, hn, by unfold maxLen at hc; omega, fun _ => ⟨g, 0, rfl, lt_of_block hh, fun i hi => ?_⟩⟩
    rw [Nat.zero_add, World.ownsRow.cellAt h' i (by omega)]
    simp [hi]
theorem OwnI.base {w : World} {base base' : Nat} {v : Value} {L : List Int} (h : OwnI w base v L) (hb : base' ≤ base) : OwnI w base' v L := World.ownsRow.mono h hb

theorem RdI.shape {w : World} {v : Value} {L : List Int} (h : RdI w v L) : ∃ a c, v = .slice a L.length c ∧ True := by
  obtain ⟨a, c, e, _⟩ := h
  exact ⟨a, c, e, trivial⟩
theorem OwnI.slice {w : World} {base : Nat} {v : Value} {L : List Int} (h : OwnI w base v L) : ∃ a c, v = .slice a L.length c := by
  obtain ⟨a, c, e, _⟩ := h.rd
  exact ⟨a, c, e⟩

theorem OwnI.kept {w w' : World} {base : Nat} {v : Value} {L : List Int} {r : Option Nat} (h : OwnI w base v L) (hG : w.grownBy w' r) (hne : ∀ k, v.ownBlock = some k → some k ≠ r) : OwnI w' base v L := by
  have hlt := World.ownsRow.lt h
  obtain ⟨h1, h2⟩ := h
  refine ⟨h1, ?_⟩
  rcases h2 with h2 | ⟨g, cap, cur, hv, hb, hh, q⟩
  · exact .inl h2
  · have hg : v.ownBlock = some g := by rw [hv]; rfl
    exact .inr ⟨g, cap, cur, hv, hb, (hG.block g (hlt g hg).2 (hne g hg)).trans hh, q⟩
theorem OwnI.nil (w : World) (base : Nat) : OwnI w base (.slice none 0 0) [] := ⟨rfl, .inl ⟨rfl, rfl⟩⟩

set_option maxHeartbeats 1000000 in
theorem eqI_same (v v' : Value) (L : List Int) (w : World) (h : RdI w v L) (h' : RdI w v' L) :
    Calls Tryz.prog 22 #[v, v'] w fun e w' => e = .returned (.bool true) ∧ Below w.heap.size w w' := by
  obtain ⟨a, cap, rfl, hlc, hcm, hc⟩ := h
  obtain ⟨a', cap', rfl, hlc', hcm', hc'⟩ := h'
  obtain ⟨len, hlen⟩ : ∃ len, len = L.length := ⟨_, rfl⟩
  rw [← hlen] at hlc hlc' hc hc' ⊢
  clear hlen
  have hbn : ((len : Int) != (len : Int)) = false := by simp
  go_enter Tryz.func22, Tryz.ntmps22
  go_wp2
  go_loopw [5] (fun i wr => ∃ (k : Nat), k ≤ len ∧ i = .int .i64 k ∧ Below w.heap.size w wr)
    (fun i _ => len - (intOf i).toNat)
  case atStart => exact ⟨0, Nat.zero_le _, rfl, Below.refl _ _⟩
  case round =>
    obtain ⟨k, hk, rfl, hB⟩ := hrel
    by_cases hlt : k < len
    · obtain ⟨b, off, rfl, hbs, hcell⟩ := hc (by omega)
      obtain ⟨b', off', rfl, hbs', hcell'⟩ := hc' (by omega)
      have d1 := (hB.cell (p := ⟨b, off + k, none⟩) hbs).trans (hcell k hlt)
      have d1' := (hB.cell (p := ⟨b', off' + k, none⟩) hbs').trans (hcell' k hlt)
      obtain ⟨z, hz⟩ : ∃ z, z = L.getD k 0 := ⟨_, rfl⟩
      rw [← hz] at d1 d1'
      have hss : (z != z) = false := by simp
      clear hcell hc hcell' hc' hz
      go_wp2
      go_quiet (fail)
      go_wp2
      go_roundw
      case rel => exact ⟨k + 1, by omega, by go_num, hB.trans ⟨rfl, rfl, rfl, Nat.le_refl _, fun _ _ => rfl⟩⟩
      case measure => simp [intOf]; omega
    · have hke : k = len := by omega
      subst hke
      go_wp2
      go_ret
      exact ⟨rfl, hB⟩

/-- n marks, from s on -/
def marksI (s n : Nat) : List Int := (List.range n).map fun i => ((s + i : Nat) : Int)
theorem marksI_len (s n : Nat) : (marksI s n).length = n := by unfold marksI; simp
theorem marksI_at {s n i : Nat} (h : i < n) : (marksI s n).getD i 0 = ((s + i : Nat) : Int) := by unfold marksI; simp [h]
theorem marksI_of {s n : Nat} {xs : List Value} (hl : xs.length = n) (h : ∀ i, i < n → xs[i]? = some (.int .i64 ((s + i : Nat) : Int))) : xs = (marksI s n).map (.int .i64 ·) := by
  apply List.ext_getElem?
  intro i
  by_cases hi : i < n
  · rw [h i hi]; unfold marksI; simp [hi]
  · rw [List.getElem?_eq_none (by omega), List.getElem?_eq_none (by simp [marksI_len]; omega)]

set_option maxHeartbeats 1000000 in
theorem markI_any (base : Nat) (v : Value) (L : List Int) (s : Nat) (w : World) (h : OwnI w base v L) (hb : L.length ≤ 1048576) (hs : s ≤ 2199023255552) :
    Calls Tryz.prog 24 #[v, .int .i64 (s : Int)] w fun e w' => e = .returned (.int .i64 ((s + L.length : Nat) : Int)) ∧ OwnI w' base v (marksI s L.length) ∧ w.grownBy w' v.ownBlock := by
  obtain ⟨a, cap, rfl⟩ := h.slice
  obtain ⟨len, hlen⟩ : ∃ len, len = L.length := ⟨_, rfl⟩
  have HO0 : Hid (w.ownsRow base 2 1 (.slice a len cap) len (L.map (.int .i64 ·))) := by rw [hlen]; exact h
  have hr : ∀ w' : World, w'.ownsRow base 2 1 (.slice a len cap) len ((marksI s len).map (.int .i64 ·)) → OwnI w' base (.slice a len cap) (marksI s len) := fun w' q => by unfold OwnI; rw [marksI_len]; exact q
  have HR := (show Hid _ from hr)
  have hcap : cap ≤ 9223372036854775807 ∧ len ≤ cap := by
    obtain ⟨a', c', e, h1, h2, _⟩ := h.rd
    simp at e
    obtain ⟨_, rfl⟩ := e
    rw [hlen]
    exact ⟨h2, h1⟩
  rw [← hlen] at hb ⊢
  clear hlen h hr
  obtain ⟨hcm, hlc⟩ := hcap
  go_enter Tryz.func24, Tryz.ntmps24
  go_wp2
  go_loopw [1, 5] (fun x i wr => ∃ (j : Nat) (xs : List Value), j ≤ len ∧ i = .int .i64 j ∧ x = .int .i64 ((s + j : Nat) : Int) ∧ wr.ownsRow base 2 1 (.slice a len cap) len xs ∧ Hid (∀ t, t < j → xs[t]? = some (.int .i64 ((s + t : Nat) : Int))) ∧ w.grownBy wr (Value.slice a len cap).ownBlock)
    (fun _ i _ => len - (intOf i).toNat)
  case atStart => exact ⟨0, _, Nat.zero_le _, rfl, rfl, HO0.out, fun t ht => absurd ht (Nat.not_lt_zero _), World.grownBy.refl _ _⟩
  case round =>
    obtain ⟨j, xs, hj, rfl, rfl, how, HA, hG⟩ := hrel
    by_cases hlt : j < len
    · obtain ⟨g, rfl⟩ : ∃ g, a = some ⟨g, 0, none⟩ := by
        rcases how.2 with ⟨h', h0⟩ | ⟨g, cap', cur, h', _⟩
        · omega
        · simp only [Value.slice.injEq] at h'
          exact ⟨g, h'.1⟩
      have hltI : (j : Int) < (len : Int) := by omega
      have hxl : xs.length = len * 1 := how.1
      have f1 := how.frozenAt j
      obtain ⟨v1, e1⟩ := own_some how j (by omega)
      have HO : Hid (_) := how
      have HG : Hid (_) := hG
      clear how hG
      go_wp2
      go_roundw
      case rel =>
        refine ⟨j + 1, xs.set j (.int .i64 ((s + j : Nat) : Int)), by omega, by go_num, by go_num, (World.ownsRow.stored HO.out _ _).1, ?_, HG.out.trans (World.ownsRow.stored HO.out _ _).2⟩
        intro t ht
        rcases Nat.lt_succ_iff_lt_or_eq.1 ht with h1 | rfl
        · rw [List.getElem?_set_ne (by omega)]
          exact HA.out t h1
        · rw [List.getElem?_set_self (by omega)]
      case measure => simp [intOf]; omega
    · have hje : j = len := by omega
      subst hje
      have hm : xs = (marksI s j).map (.int .i64 ·) := marksI_of (by have := how.1; omega) HA.out
      have HO : Hid (wr.ownsRow base 2 1 (.slice a j cap) j ((marksI s j).map (.int .i64 ·))) := by rw [← hm]; exact how
      clear how hm
      go_wp2
      go_ret
      exact ⟨rfl, HR.out _ HO.out, hG⟩

end Go.Proofs.YtlibipbpaigmdaaGreatDoor

namespace Go.Proofs.YtlibipbpaigmdaaGreatDoor
open Go.RowKit
set_option linter.unusedVariables false

/-- what toInt64S has written when k rounds are over -/
def copyTo (Z : Nat → Int) (n k : Nat) : List Value := (List.range n).map fun i => .int .i64 (if i < k then Z i else 0)

theorem made_ints (Z : Nat → Int) (n : Nat) : (madeCells (Value.int .i64 0).cells (n * 1)).toList = copyTo Z n 0 := by
  apply List.ext_getElem?
  intro i
  simp only [copyTo, madeCells, Value.cells, List.getElem?_map]
  by_cases h : i < n
  · simp [h, Nat.mod_one]
  · simp [h]

theorem copyTo_set (Z : Nat → Int) (n k : Nat) (hk : k < n) : (copyTo Z n k).set k (.int .i64 (Z k)) = copyTo Z n (k + 1) := by
  apply List.ext_getElem?
  intro i
  unfold copyTo
  rw [List.getElem?_set]
  by_cases hik : k = i
  · subst hik
    simp [hk]
  · rw [if_neg hik, List.getElem?_map, List.getElem?_map]
    have e : (i < k) ↔ (i < k + 1) := by omega
    by_cases h : i < n
    · simp [h, e]
    · simp [h]

theorem copyTo_all (L : List Int) : copyTo (fun i => L.getD i 0) L.length L.length = L.map (.int .i64 ·) := by
  apply List.ext_getElem?
  intro i
  unfold copyTo
  by_cases h : i < L.length
  · simp [h]
  · simp [h]

set_option maxHeartbeats 400000 in
theorem toI_any (v : Value) (L : List Int) (w : World) (h : RdI w v L) (hlen : L.length ≤ 1048576) :
    Calls Tryz.prog 18 #[v] w fun e w' => e = .returned (.slice (some ⟨w.heap.size, 0, none⟩) L.length L.length) ∧ OwnI w' w.heap.size (.slice (some ⟨w.heap.size, 0, none⟩) L.length L.length) L ∧ Below w.heap.size w w' := by
  obtain ⟨a, cap, rfl, hlc, hcm, hc⟩ := h
  have HF : Hid (copyTo (fun i => L.getD i 0) L.length L.length = L.map (.int .i64 ·)) := copyTo_all L
  obtain ⟨Z, hZ⟩ : ∃ Z : Nat → Int, Z = fun i => L.getD i 0 := ⟨_, rfl⟩
  have hc' : 0 < L.length → ∃ b off, a = some ⟨b, off, none⟩ ∧ b < w.heap.size ∧ ∀ i, i < L.length → w.cell? ⟨b, off + i, none⟩ = some (.int .i64 (Z i)) := by rw [hZ]; exact hc
  rw [← hZ] at HF
  obtain ⟨len, hl⟩ : ∃ len, len = L.length := ⟨_, rfl⟩
  have HL : Hid (len = L.length) := hl
  rw [← hl] at hlc hlen hc' HF ⊢
  clear hc hZ hl
  obtain ⟨i0, hi, hz0, hz1, hz2⟩ := info_parts infoI
  have hb2 : i0.bytes * len ≤ 281474976710656 := by rw [hz2]; omega
  have hb3 : len ≤ maxLen := by unfold maxLen; omega
  go_enter Tryz.func18, Tryz.ntmps18
  go_wp2_with (at_make; refine wpList_make_full _ rfl _ _ 23 rfl w.heap.size 2 i0 (.int .i64 0) 1 Tryz.underlying23 hi hz0 hz1 .i64 .i64 _ _ len rfl rfl rfl rfl hb2 hb3 (Nat.le_refl _) ?_; intro w1 hown hgrow)
  have hB1 : Below w.heap.size w w1 := (Below.refl _ w).grown hgrow (Nat.le_refl _) (fun k hk => by cases hk)
  rw [made_ints Z len] at hown
  clear hgrow
  go_loopw [4] (fun i wr => ∃ k : Nat, k ≤ len ∧ i = .int .i64 k ∧ wr.ownsRow w.heap.size 2 1 (.slice (some ⟨w.heap.size, 0, none⟩) len len) len (copyTo Z len k) ∧ Below w.heap.size w wr)
    (fun i _ => len - (intOf i).toNat)
  case atStart => exact ⟨0, Nat.zero_le _, rfl, hown, hB1⟩
  case round =>
    obtain ⟨k, hk, rfl, how, hB⟩ := hrel
    by_cases hlt : k < len
    · obtain ⟨b, off, rfl, hbs, hcell⟩ := hc' (by omega)
      have hck : wr.cell? ⟨b, off + k, none⟩ = some (.int .i64 (Z k)) := (hB.cell (p := ⟨b, off + k, none⟩) hbs).trans (hcell k hlt)
      have hfz := how.frozenAt k
      have hcl : ∃ v, wr.cell? ⟨w.heap.size, k, none⟩ = some v := by
        rw [how.cellAt k (by omega)]
        simp [copyTo, hlt]
      obtain ⟨v0, hcl⟩ := hcl
      have hst := (how.stored k (.int .i64 (Z k))).1
      rw [copyTo_set Z len k hlt] at hst
      have hB' : Below w.heap.size w (wr.setCell ⟨w.heap.size, k, none⟩ (.int .i64 (Z k))) := hB.setCell (p := ⟨w.heap.size, k, none⟩) (Nat.le_refl _) _
      clear how hown hB hB1
      go_wp2
      go_roundw
      case rel => exact ⟨k + 1, by omega, by go_num, hst, hB'⟩
      case measure => simp [intOf]; omega
    · have hke : k = len := by omega
      subst hke
      have hfin : Hid (OwnI wr w.heap.size (.slice (some ⟨w.heap.size, 0, none⟩) k k) L) := by
        show OwnI _ _ _ _
        unfold OwnI
        rw [← HL.out, ← HF.out]
        exact how
      clear how hown hB1 HF
      go_wp2
      go_ret
      exact ⟨rfl, hfin.out, hB⟩
end Go.Proofs.YtlibipbpaigmdaaGreatDoor

namespace Go.Proofs.YtlibipbpaigmdaaGreatDoor
open Go.RowKit
set_option linter.unusedVariables false

/-- a row as plain data -/
structure RwE where
  who : Int
  cs : List Int
def rwZ : RwE := ⟨0, []⟩
/-- a slice, nil or not, that reads as the rows L -/
def RdR (w : World) (v : Value) (L : List RwE) : Prop :=
  ∃ a cap, v = .slice a L.length cap ∧ L.length ≤ cap ∧ cap ≤ 9223372036854775807 ∧ (0 < L.length → ∃ b off, a = some ⟨b, off, none⟩ ∧ b < w.heap.size ∧
    ∀ i, i < L.length → w.cell? ⟨b, off + i * 2, none⟩ = some (.int .i64 (L.getD i rwZ).who) ∧ ∃ u, w.cell? ⟨b, off + i * 2 + 1, none⟩ = some u ∧ RdI w u (L.getD i rwZ).cs)
theorem RdR.below {w w' : World} {v : Value} {L : List RwE} (h : RdR w v L) (hB : Below w.heap.size w w') : RdR w' v L := by
  obtain ⟨a, cap, rfl, h1, h2, h3⟩ := h
  refine ⟨a, cap, rfl, h1, h2, fun hp => ?_⟩
  obtain ⟨b, off, e, hb, hc⟩ := h3 hp
  refine ⟨b, off, e, Nat.lt_of_lt_of_le hb hB.size, fun i hi => ?_⟩
  obtain ⟨c0, u, c1, c2⟩ := hc i hi
  exact ⟨(hB.cell (p := ⟨b, _, none⟩) hb).trans c0, u, (hB.cell (p := ⟨b, _, none⟩) hb).trans c1, c2.below hB⟩

theorem OwnI.blk {w w' : World} {base : Nat} {v : Value} {L : List Int} (h : OwnI w base v L) (he : ∀ k, v.ownBlock = some k → w'.heap[k]? = w.heap[k]?) : OwnI w' base v L := by
  obtain ⟨h1, h2⟩ := h
  refine ⟨h1, ?_⟩
  rcases h2 with h2 | ⟨g, cap, cur, hv, hb, hh, r⟩
  · exact .inl h2
  · exact .inr ⟨g, cap, cur, hv, hb, (he g (by rw [hv]; rfl)).trans hh, r⟩
/-- rows in memory of the call's own, in blocks from lo on and below hi -/
def OwnR (w : World) (lo hi : Nat) (v : Value) (L : List RwE) : Prop :=
  ∃ (xs : List Value) (u : Nat → Value), w.ownsRow lo 77 2 v L.length xs ∧ (∀ k, v.ownBlock = some k → k < hi) ∧
    (∀ i, i < L.length → xs[i * 2]? = some (.int .i64 (L.getD i rwZ).who) ∧ xs[i * 2 + 1]? = some (u i) ∧ OwnI w lo (u i) (L.getD i rwZ).cs ∧ ∀ k, (u i).ownBlock = some k → k < hi) ∧
    (∀ i j, i < L.length → j < i → ∀ k, (u i).ownBlock = some k → (u j).ownBlock ≠ some k)
theorem own_int {w : World} {base k : Nat} {v : Value} {L : List Int} (h : OwnI w base v L) (hk : v.ownBlock = some k) : ∃ cs, w.heap[k]? = some (.cells cs 2 (0, 0)) := by
  rcases h.2 with ⟨h1, _⟩ | ⟨g, cap, cur, hv, hg, hh, _⟩
  · rw [h1] at hk; cases hk
  · rw [hv] at hk
    have e : some g = some k := hk
    cases e
    exact ⟨_, hh⟩
theorem own_row {w : World} {base k n : Nat} {v : Value} {xs : List Value} (h : w.ownsRow base 77 2 v n xs) (hk : v.ownBlock = some k) : ∃ cs, w.heap[k]? = some (.cells cs 77 (0, 0)) := by
  rcases h.2 with ⟨h1, _⟩ | ⟨g, cap, cur, hv, hg, hh, _⟩
  · rw [h1] at hk; cases hk
  · rw [hv] at hk
    have e : some g = some k := hk
    cases e
    exact ⟨_, hh⟩
theorem row_ne_int {w : World} {b1 b2 k n : Nat} {v v' : Value} {xs : List Value} {L : List Int} (h : w.ownsRow b1 77 2 v n xs) (h' : OwnI w b2 v' L) (hk : v'.ownBlock = some k) : v.ownBlock ≠ some k := fun e => by
  obtain ⟨c1, e1⟩ := own_row h e
  obtain ⟨c2, e2⟩ := own_int h' hk
  rw [e1] at e2
  cases e2
theorem OwnR.at {w w' : World} {lo hi : Nat} {v : Value} {L : List RwE} (h : OwnR w lo hi v L) (he : ∀ k, lo ≤ k → k < hi → w'.heap[k]? = w.heap[k]?) : OwnR w' lo hi v L := by
  obtain ⟨xs, u, h1, h2, h3, h4⟩ := h
  refine ⟨xs, u, ?_, h2, fun i hi' => ?_, h4⟩
  · obtain ⟨q1, q2⟩ := h1
    refine ⟨q1, ?_⟩
    rcases q2 with q2 | ⟨g, cap, cur, hv, hb, hh, r⟩
    · exact .inl q2
    · exact .inr ⟨g, cap, cur, hv, hb, (he g hb (h2 g (by rw [hv]; rfl))).trans hh, r⟩
  · obtain ⟨c0, c1, c2, c3⟩ := h3 i hi'
    exact ⟨c0, c1, c2.blk (fun k hk => he k (World.ownsRow.lt c2 k hk).1 (c3 k hk)), c3⟩
theorem OwnR.lt {w : World} {lo hi : Nat} {v : Value} {L : List RwE} (h : OwnR w lo hi v L) (hh : hi ≤ w.heap.size) : OwnR w lo w.heap.size v L := by
  obtain ⟨xs, u, h1, h2, h3, h4⟩ := h
  exact ⟨xs, u, h1, fun k hk => Nat.lt_of_lt_of_le (h2 k hk) hh, fun i hi' => ⟨(h3 i hi').1, (h3 i hi').2.1, (h3 i hi').2.2.1, fun k hk => Nat.lt_of_lt_of_le ((h3 i hi').2.2.2 k hk) hh⟩, h4⟩
theorem OwnR.below {w w' : World} {lo hi : Nat} {v : Value} {L : List RwE} (h : OwnR w lo hi v L) (hh : hi ≤ w.heap.size) (hB : Below w.heap.size w w') : OwnR w' lo hi v L :=
  h.at fun k _ hk => hB.block k (Nat.lt_of_lt_of_le hk hh)
theorem OwnR.slice {w : World} {lo hi : Nat} {v : Value} {L : List RwE} (h : OwnR w lo hi v L) : (v = .slice none 0 0 ∧ L = []) ∨ ∃ g cap, v = .slice (some ⟨g, 0, none⟩) L.length cap ∧ L.length ≤ cap ∧ cap ≤ 9223372036854775807 ∧ lo ≤ g ∧ g < w.heap.size := by
  obtain ⟨xs, u, h1, h2, h3, h4⟩ := h
  rcases h1.2 with ⟨q1, q2⟩ | ⟨g, cap, cur, hv, hb, hh, r1, r2, _⟩
  · exact .inl ⟨q1, List.length_eq_zero_iff.1 q2⟩
  · unfold maxLen at r2
    exact .inr ⟨g, cap, hv, r1, by omega, hb, lt_of_block hh⟩
theorem OwnR.rd {w : World} {lo hi : Nat} {v : Value} {L : List RwE} (h : OwnR w lo hi v L) : RdR w v L := by
  rcases h.slice with ⟨rfl, rfl⟩ | ⟨g, cap, rfl, hc1, hc2, _, hg⟩
  · exact ⟨none, 0, rfl, Nat.le_refl _, by omega, fun h => absurd h (Nat.lt_irrefl _)⟩
  · obtain ⟨xs, u, h1, h2, h3, h4⟩ := h
    refine ⟨_, cap, rfl, hc1, hc2, fun _ => ⟨g, 0, rfl, hg, fun i hi => ?_⟩⟩
    obtain ⟨c0, c1, c2, c3⟩ := h3 i hi
    refine ⟨?_, u i, ?_, c2.rd⟩
    · rw [Nat.zero_add, h1.cellAt _ (by omega)]; exact c0
    · rw [Nat.zero_add, h1.cellAt _ (by omega)]; exact c1

end Go.Proofs.YtlibipbpaigmdaaGreatDoor

namespace Go.Proofs.YtlibipbpaigmdaaGreatDoor
open Go.RowKit
set_option linter.unusedVariables false

theorem infoR : (Tryz.prog.info? 77).map (fun i => (i.zero, i.size, i.bytes)) = some (some (.agg #[.int .i64 0, .slice none 0 0]), 2, 32) := by kernel_rfl

end Go.Proofs.YtlibipbpaigmdaaGreatDoor

namespace Go.Proofs.YtlibipbpaigmdaaGreatDoor
open Go.RowKit
set_option linter.unusedVariables false

theorem allB_at {p : Nat → Bool} {n k : Nat} (h : allB p n = true) (hk : k < n) : p k = true := by
  unfold allB at h
  rw [List.all_eq_true] at h
  exact h k (List.mem_range.2 hk)
theorem in_later {n lo hi : Int} {b : Bool} (hb : inB lo hi n = b) {w : World} (t : Later w) : Calls Tryz.prog 108 #[.int .i64 n, .int .i64 lo, .int .i64 hi] t.val fun e w'' => e = .returned (.bool b) ∧ ∃ s' : Later w, w'' = s'.val :=
  (in_any n lo hi b hb t.val).mono fun e w' ⟨h1, h2⟩ => ⟨h1, t, h2⟩

/-- a number of a row -/
def cAt (cs : List Int) (i : Nat) : Bool := inB 0 1000000 (cs.getD i 0)
/-- the numbers of a row are right -/
def csB (cs : List Int) : Bool := decide (cs.length = 9) && allB (cAt cs) cs.length
/-- the row at place i is right by itself and stands behind the one ahead of it -/
def okR (L : List RwE) (i : Nat) : Bool := (inB 1 9 (L.getD i rwZ).who && (i == 0 || decide ((L.getD (i - 1) rwZ).who < (L.getD i rwZ).who))) && csB (L.getD i rwZ).cs
def rowsB (L : List RwE) : Bool := allB (okR L) L.length
theorem rowsB_false {L : List RwE} {k : Nat} (hk : k < L.length) (h : okR L k = false) : rowsB L = false := allB_false hk h

theorem IL_at {w : World} {a : Option Addr} {n cap : Nat} {L : List Int} (h : RdI w (.slice a n cap) L) : n = L.length := by
  obtain ⟨a', c', e, _⟩ := h
  simp at e
  exact e.2.1
set_option maxRecDepth 10000 in
set_option maxHeartbeats 4000000 in
theorem specRows_any (v : Value) (L : List RwE) (w : World) (h : RdR w v L) :
    Calls Tryz.prog 83 #[v] w fun e w' => e = .returned (.bool (rowsB L)) ∧ Below w.heap.size w w' := by
  obtain ⟨a, cap, rfl, hlc, hcm, hc⟩ := h
  obtain ⟨n, hn⟩ : ∃ n, n = L.length := ⟨_, rfl⟩
  have HN : Hid (n = L.length) := hn
  rw [← hn] at hlc hc ⊢
  clear hn
  go_enter Tryz.func83, Tryz.ntmps83
  go_wp2
  go_loopw [3] (fun i wr => ∃ (k : Nat), k ≤ n ∧ i = .int .i64 k ∧ Hid (allB (okR L) k = true) ∧ Hid (Below w.heap.size w wr)) (fun i _ => n - (intOf i).toNat)
  case atStart => exact ⟨0, Nat.zero_le _, rfl, rfl, Below.refl _ _⟩
  case round =>
    obtain ⟨k, hk, rfl, HA, HB⟩ := hrel
    by_cases hlt : k < n
    · have hltI : (k : Int) < (n : Int) := by omega
      obtain ⟨b, off, rfl, hbs, hcell⟩ := hc (by omega)
      obtain ⟨c0, u, c1, c2⟩ := hcell k hlt
      obtain ⟨au, cu, hu, _⟩ := c2.shape
      subst hu
      obtain ⟨y, hy⟩ : ∃ y, y = L.getD k rwZ := ⟨_, rfl⟩
      rw [← hy] at c0 c1 c2
      have HU0 : Hid (∀ w', Below w.heap.size w w' → RdI w' (.slice au y.cs.length cu) y.cs) := fun w' h => c2.below h
      obtain ⟨m, hm⟩ : ∃ m, m = y.cs.length := ⟨_, rfl⟩
      have HML : Hid (m = y.cs.length) := hm
      have HU : Hid (∀ w', Below w.heap.size w w' → RdI w' (.slice au m cu) y.cs) := by rw [hm]; exact HU0
      rw [← hm] at c1
      have HD : Hid (w.cell? ⟨b, off + k * 2, none⟩ = some (.int .i64 y.who) ∧ w.cell? ⟨b, off + k * 2 + 1, none⟩ = some (.slice au m cu)) := ⟨c0, c1⟩
      have HY : Hid (y = L.getD k rwZ) := hy
      have d0 := (HB.out.cell (p := ⟨b, off + k * 2, none⟩) hbs).trans c0
      have d1 := (HB.out.cell (p := ⟨b, off + k * 2 + 1, none⟩) hbs).trans c1
      clear c0 c1 c2 hy hm HU0
      by_cases hk0 : k = 0
      · have HK0 : Hid ((k == 0) = true) := by show _ = _; simpa using hk0
        have hk0n : ¬ (0 < k) := by omega
        have hk0i : (k : Int) ≤ 0 := by omega
        have hk0d : decide ((0 : Int) < (k : Int)) = false := by simp; omega
        clear hcell hc hk0
        have hne := Later.any wr
        have p0 : ∀ s : Later wr, s.val.cell? ⟨b, off + (k) * 2, none⟩ = some (.int .i64 y.who) := fun s => s.cell d0
        have p1 : ∀ s : Later wr, s.val.cell? ⟨b, off + (k) * 2 + 1, none⟩ = some (.slice au m cu) := fun s => s.cell d1
        cases hw : inB 1 9 y.who with
        | false =>
          have HR : Hid (rowsB L = false) := rowsB_false (by rw [← HN.out]; exact hlt) (by unfold okR; rw [← HY.out, hw]; rfl)
          go_wp2
          refine wp_region_later (by kernel_rfl) (by kernel_rfl) ?_
          repeat (go_big_quiet_step ((rename_i t; first | with_reducible exact in_later hw t)))
          refine wpQuiet_nil ?_
          rintro w2 ⟨s, hs⟩
          have HB2 : Hid (Below w.heap.size w w2) := by rw [hs]; exact HB.out.trans (s.ok.mono HB.out.size)
          clear hs s
          go_wp2
          go_ret
          exact ⟨ret_bool HR.out.symm, HB2.out⟩
        | true =>
          by_cases h9 : m = 9
          · subst h9
            have hm9 : ((9 : Int) != 9) = false := by decide
            have HL9 : Hid (decide (y.cs.length = 9) = true) := by show _ = _; rw [← HML.out]; rfl
            go_wp2
            refine wp_region_later (by kernel_rfl) (by kernel_rfl) ?_
            repeat (go_big_quiet_step ((rename_i t; first | with_reducible exact in_later hw t)))
            refine wpQuiet_nil ?_
            rintro w2 ⟨s, hs⟩
            have HB2 : Hid (Below w.heap.size w w2) := by rw [hs]; exact HB.out.trans (s.ok.mono HB.out.size)
            clear hs s
            have HI : Hid (∀ w', Below w.heap.size w w' → RdI w' (.slice au 9 cu) y.cs) := fun w' h => HU.out w' h
            clear p0 p1 hne
            go_wp2
            try go_simp
            go_loopw [4] (fun j wq => ∃ (q : Nat), q ≤ 9 ∧ j = .int .i64 q ∧ Hid (allB (cAt y.cs) q = true) ∧ Hid (Below w.heap.size w wq)) (fun j _ => 9 - (intOf j).toNat)
            case atStart => exact ⟨0, Nat.zero_le _, rfl, rfl, HB2⟩
            case round =>
              obtain ⟨q, hq, rfl, HC, HBq⟩ := hrel
              by_cases hq9 : q < 9
              · have hqI : (q : Int) < 9 := by omega
                obtain ⟨a', c', e', hl1, hl2, hcc⟩ := HI.out wr HBq.out
                simp at e'
                obtain ⟨rfl, hml, rfl⟩ := e'
                obtain ⟨bu, ou, rfl, hbu, hcu⟩ := hcc (by omega)
                have dq := hcu q (by omega)
                obtain ⟨z, hz⟩ : ∃ z, z = y.cs.getD q 0 := ⟨_, rfl⟩
                rw [← hz] at dq
                have hcz : cAt y.cs q = inB 0 1000000 z := by rw [hz]; rfl
                have hne := Later.any wr
                have p0 : ∀ s : Later wr, s.val.cell? ⟨b, off + (k) * 2, none⟩ = some (.int .i64 y.who) := fun s => s.cell ((HBq.out.cell (p := ⟨b, _, none⟩) hbs).trans HD.out.1)
                have p1 : ∀ s : Later wr, s.val.cell? ⟨b, off + (k) * 2 + 1, none⟩ = some (.slice (some ⟨bu, ou, none⟩) 9 cu) := fun s => s.cell ((HBq.out.cell (p := ⟨b, _, none⟩) hbs).trans HD.out.2)
                have p3 : ∀ s : Later wr, s.val.cell? ⟨bu, ou + q, none⟩ = some (.int .i64 z) := fun s => s.cell dq
                have o0 := (HBq.out.cell (p := ⟨b, off + (k) * 2, none⟩) hbs).trans HD.out.1
                have o1 := (HBq.out.cell (p := ⟨b, off + (k) * 2 + 1, none⟩) hbs).trans HD.out.2
                have HML9 : Hid (9 = y.cs.length) := hml
                clear hcu hcc hz p0 p1 p3 hne hml
                cases hin : inB 0 1000000 z with
                | false =>
                  have HR : Hid (rowsB L = false) := rowsB_false (by rw [← HN.out]; exact hlt) (by unfold okR; rw [show csB (L.getD (k) rwZ).cs = false by rw [← HY.out]; unfold csB; rw [allB_false (p := cAt y.cs) (k := q) (by have := HML9.out; omega) (by rw [hcz, hin])]; simp]; simp)
                  clear hcz
                  go_wp2_with fail
                  refine (in_any z 0 1000000 _ hin _).mono ?_
                  rintro e w2 ⟨rfl, hw2⟩
                  rw [hw2]
                  clear hw2 w2
                  have HB2 : Hid (Below w.heap.size w wr) := HBq
                  go_wp2
                  go_ret
                  exact ⟨ret_bool HR.out.symm, HB2.out⟩
                | true =>
                  have HC' : Hid (allB (cAt y.cs) (q + 1) = true) := by show _ = _; rw [allB_succ, HC.out, hcz, hin]; rfl
                  clear hcz
                  go_wp2_with fail
                  refine (in_any z 0 1000000 _ hin _).mono ?_
                  rintro e w2 ⟨rfl, hw2⟩
                  rw [hw2]
                  clear hw2 w2
                  have HB2 : Hid (Below w.heap.size w wr) := HBq
                  go_wp2
                  go_roundw
                  case rel => first | exact ⟨q + 1, by omega, by go_num, HC', HB2⟩ | (repeat (refine Exists.intro _ ?_); refine ⟨?_, rfl⟩; exact ⟨q + 1, by omega, by go_num, HC', HB2⟩)
                  case measure => simp [intOf]; omega
              · have hqe : q = 9 := by omega
                subst hqe
                have o0 := (HBq.out.cell (p := ⟨b, off + (k) * 2, none⟩) hbs).trans HD.out.1
                have o1 := (HBq.out.cell (p := ⟨b, off + (k) * 2 + 1, none⟩) hbs).trans HD.out.2
                have HK : Hid (allB (okR L) (k + 1) = true) := by
                  show _ = _
                  rw [allB_succ, HA.out]
                  show okR L (k) = true
                  unfold okR
                  rw [show csB (L.getD (k) rwZ).cs = true by rw [← HY.out]; unfold csB; rw [HL9.out, show y.cs.length = 9 from HML.out.symm, HC.out]; rfl]
                  rw [← HY.out, hw, HK0.out]; rfl
                go_wp2
                go_roundw
                case rel => exact ⟨k + 1, by omega, by go_num, HK, HBq⟩
                case measure => simp [intOf]; omega
          · have hm9 : ((m : Int) != 9) = true := by simp; omega
            have HR : Hid (rowsB L = false) := rowsB_false (by rw [← HN.out]; exact hlt) (by unfold okR; rw [show csB (L.getD (k) rwZ).cs = false by rw [← HY.out]; unfold csB; rw [← HML.out, decide_eq_false h9]; rfl]; simp)
            go_wp2
            refine wp_region_later (by kernel_rfl) (by kernel_rfl) ?_
            repeat (go_big_quiet_step ((rename_i t; first | with_reducible exact in_later hw t)))
            refine wpQuiet_nil ?_
            rintro w2 ⟨s, hs⟩
            have HB2 : Hid (Below w.heap.size w w2) := by rw [hs]; exact HB.out.trans (s.ok.mono HB.out.size)
            clear hs s
            go_wp2
            go_ret
            exact ⟨ret_bool HR.out.symm, HB2.out⟩
      · obtain ⟨j, rfl⟩ : ∃ j, k = j + 1 := ⟨k - 1, by omega⟩
        obtain ⟨z, hz0⟩ : ∃ z, z = (L.getD j rwZ).who := ⟨_, rfl⟩
        have dz := (HB.out.cell (p := ⟨b, off + j * 2, none⟩) hbs).trans (hcell j (by omega)).1
        rw [← hz0] at dz
        have HZ : Hid (z = (L.getD j rwZ).who) := hz0
        clear hcell hc hk0 hz0
        have hne := Later.any wr
        have p0 : ∀ s : Later wr, s.val.cell? ⟨b, off + (j + 1) * 2, none⟩ = some (.int .i64 y.who) := fun s => s.cell d0
        have p1 : ∀ s : Later wr, s.val.cell? ⟨b, off + (j + 1) * 2 + 1, none⟩ = some (.slice au m cu) := fun s => s.cell d1
        have p2 : ∀ s : Later wr, s.val.cell? ⟨b, off + j * 2, none⟩ = some (.int .i64 z) := fun s => s.cell dz
        cases hw : inB 1 9 y.who with
        | false =>
          have HR : Hid (rowsB L = false) := rowsB_false (by rw [← HN.out]; exact hlt) (by unfold okR; rw [← HY.out, hw]; rfl)
          go_wp2
          refine wp_region_later (by kernel_rfl) (by kernel_rfl) ?_
          repeat (go_big_quiet_step ((rename_i t; first | with_reducible exact in_later hw t)))
          refine wpQuiet_nil ?_
          rintro w2 ⟨s, hs⟩
          have HB2 : Hid (Below w.heap.size w w2) := by rw [hs]; exact HB.out.trans (s.ok.mono HB.out.size)
          clear hs s
          go_wp2
          go_ret
          exact ⟨ret_bool HR.out.symm, HB2.out⟩
        | true =>
          by_cases hz : z < y.who
          · have hzd : decide (y.who ≤ z) = false := decide_eq_false (by omega)
            by_cases h9 : m = 9
            · subst h9
              have hm9 : ((9 : Int) != 9) = false := by decide
              have HL9 : Hid (decide (y.cs.length = 9) = true) := by show _ = _; rw [← HML.out]; rfl
              go_wp2
              refine wp_region_later (by kernel_rfl) (by kernel_rfl) ?_
              repeat (go_big_quiet_step ((rename_i t; first | with_reducible exact in_later hw t)))
              refine wpQuiet_nil ?_
              rintro w2 ⟨s, hs⟩
              have HB2 : Hid (Below w.heap.size w w2) := by rw [hs]; exact HB.out.trans (s.ok.mono HB.out.size)
              clear hs s
              have HP : Hid ((inB 1 9 (L.getD (j + 1) rwZ).who && (j + 1 == 0 || decide ((L.getD (j + 1 - 1) rwZ).who < (L.getD (j + 1) rwZ).who))) = true) := by show _ = _; rw [← HY.out, hw, show (j + 1 == 0) = false from rfl]; simp only [Nat.add_sub_cancel]; rw [← HZ.out, decide_eq_true hz]; rfl
              clear hz hzd p2 dz hw HZ d0 d1 p0 p1
              generalize hKJ : j + 1 = k at *
              have HKJ : Hid (j + 1 = k) := hKJ
              clear hKJ
              have HI : Hid (∀ w', Below w.heap.size w w' → RdI w' (.slice au 9 cu) y.cs) := fun w' h => HU.out w' h
              clear hne
              go_wp2
              try go_simp
              go_loopw [4] (fun j wq => ∃ (q : Nat), q ≤ 9 ∧ j = .int .i64 q ∧ Hid (allB (cAt y.cs) q = true) ∧ Hid (Below w.heap.size w wq)) (fun j _ => 9 - (intOf j).toNat)
              case atStart => exact ⟨0, Nat.zero_le _, rfl, rfl, HB2⟩
              case round =>
                obtain ⟨q, hq, rfl, HC, HBq⟩ := hrel
                by_cases hq9 : q < 9
                · have hqI : (q : Int) < 9 := by omega
                  obtain ⟨a', c', e', hl1, hl2, hcc⟩ := HI.out wr HBq.out
                  simp at e'
                  obtain ⟨rfl, hml, rfl⟩ := e'
                  obtain ⟨bu, ou, rfl, hbu, hcu⟩ := hcc (by omega)
                  have dq := hcu q (by omega)
                  obtain ⟨z, hz⟩ : ∃ z, z = y.cs.getD q 0 := ⟨_, rfl⟩
                  rw [← hz] at dq
                  have hcz : cAt y.cs q = inB 0 1000000 z := by rw [hz]; rfl
                  have hne := Later.any wr
                  have p0 : ∀ s : Later wr, s.val.cell? ⟨b, off + (k) * 2, none⟩ = some (.int .i64 y.who) := fun s => s.cell ((HBq.out.cell (p := ⟨b, _, none⟩) hbs).trans HD.out.1)
                  have p1 : ∀ s : Later wr, s.val.cell? ⟨b, off + (k) * 2 + 1, none⟩ = some (.slice (some ⟨bu, ou, none⟩) 9 cu) := fun s => s.cell ((HBq.out.cell (p := ⟨b, _, none⟩) hbs).trans HD.out.2)
                  have p3 : ∀ s : Later wr, s.val.cell? ⟨bu, ou + q, none⟩ = some (.int .i64 z) := fun s => s.cell dq
                  have o0 := (HBq.out.cell (p := ⟨b, off + (k) * 2, none⟩) hbs).trans HD.out.1
                  have o1 := (HBq.out.cell (p := ⟨b, off + (k) * 2 + 1, none⟩) hbs).trans HD.out.2
                  have HML9 : Hid (9 = y.cs.length) := hml
                  clear hcu hcc hz p0 p1 p3 hne hml
                  cases hin : inB 0 1000000 z with
                  | false =>
                    have HR : Hid (rowsB L = false) := rowsB_false (by rw [← HN.out]; exact hlt) (by unfold okR; rw [show csB (L.getD (k) rwZ).cs = false by rw [← HY.out]; unfold csB; rw [allB_false (p := cAt y.cs) (k := q) (by have := HML9.out; omega) (by rw [hcz, hin])]; simp]; simp)
                    clear hcz
                    go_wp2_with fail
                    refine (in_any z 0 1000000 _ hin _).mono ?_
                    rintro e w2 ⟨rfl, hw2⟩
                    rw [hw2]
                    clear hw2 w2
                    have HB2 : Hid (Below w.heap.size w wr) := HBq
                    go_wp2
                    go_ret
                    exact ⟨ret_bool HR.out.symm, HB2.out⟩
                  | true =>
                    have HC' : Hid (allB (cAt y.cs) (q + 1) = true) := by show _ = _; rw [allB_succ, HC.out, hcz, hin]; rfl
                    clear hcz
                    go_wp2_with fail
                    refine (in_any z 0 1000000 _ hin _).mono ?_
                    rintro e w2 ⟨rfl, hw2⟩
                    rw [hw2]
                    clear hw2 w2
                    have HB2 : Hid (Below w.heap.size w wr) := HBq
                    go_wp2
                    go_roundw
                    case rel => first | exact ⟨q + 1, by omega, by go_num, HC', HB2⟩ | (repeat (refine Exists.intro _ ?_); refine ⟨?_, rfl⟩; exact ⟨q + 1, by omega, by go_num, HC', HB2⟩)
                    case measure => simp [intOf]; omega
                · have hqe : q = 9 := by omega
                  subst hqe
                  have o0 := (HBq.out.cell (p := ⟨b, off + (k) * 2, none⟩) hbs).trans HD.out.1
                  have o1 := (HBq.out.cell (p := ⟨b, off + (k) * 2 + 1, none⟩) hbs).trans HD.out.2
                  have HK : Hid (allB (okR L) (k + 1) = true) := by
                    show _ = _
                    rw [allB_succ, HA.out]
                    show okR L (k) = true
                    unfold okR
                    rw [show csB (L.getD (k) rwZ).cs = true by rw [← HY.out]; unfold csB; rw [HL9.out, show y.cs.length = 9 from HML.out.symm, HC.out]; rfl]
                    rw [HP.out]; rfl
                  go_wp2
                  go_roundw
                  case rel => exact ⟨k + 1, by omega, by go_num, HK, HBq⟩
                  case measure => have := HKJ.out; simp [intOf]; omega
            · have hm9 : ((m : Int) != 9) = true := by simp; omega
              have HR : Hid (rowsB L = false) := rowsB_false (by rw [← HN.out]; exact hlt) (by unfold okR; rw [show csB (L.getD (j + 1) rwZ).cs = false by rw [← HY.out]; unfold csB; rw [← HML.out, decide_eq_false h9]; rfl]; simp)
              go_wp2
              refine wp_region_later (by kernel_rfl) (by kernel_rfl) ?_
              repeat (go_big_quiet_step ((rename_i t; first | with_reducible exact in_later hw t)))
              refine wpQuiet_nil ?_
              rintro w2 ⟨s, hs⟩
              have HB2 : Hid (Below w.heap.size w w2) := by rw [hs]; exact HB.out.trans (s.ok.mono HB.out.size)
              clear hs s
              go_wp2
              go_ret
              exact ⟨ret_bool HR.out.symm, HB2.out⟩
          · have hzd : y.who ≤ z := by omega
            have HR : Hid (rowsB L = false) := rowsB_false (by rw [← HN.out]; exact hlt) (by unfold okR; rw [← HY.out, hw, show (j + 1 == 0) = false from rfl]; simp only [Nat.add_sub_cancel]; rw [← HZ.out, decide_eq_false hz]; rfl)
            go_wp2
            refine wp_region_later (by kernel_rfl) (by kernel_rfl) ?_
            repeat (go_big_quiet_step ((rename_i t; first | with_reducible exact in_later hw t)))
            refine wpQuiet_nil ?_
            rintro w2 ⟨s, hs⟩
            have HB2 : Hid (Below w.heap.size w w2) := by rw [hs]; exact HB.out.trans (s.ok.mono HB.out.size)
            clear hs s
            go_wp2
            go_ret
            exact ⟨ret_bool HR.out.symm, HB2.out⟩
    · have hke : k = n := by omega
      subst hke
      have HR : Hid (rowsB L = true) := by show _ = _; unfold rowsB; rw [← HN.out]; exact HA.out
      clear hc
      go_wp2
      go_ret
      exact ⟨ret_bool HR.out.symm, HB.out⟩
end Go.Proofs.YtlibipbpaigmdaaGreatDoor

namespace Go.Proofs.YtlibipbpaigmdaaGreatDoor
open Go.RowKit Go.Maps
set_option linter.unusedVariables false

theorem results_row_tmp {P : Program} {fn : Func} {p u : Tmp} {ty : TypeId} (h : fn.results = #[.cell p ty, .tmp u]) (tmps : Array Value) (w : World) (g : Nat) (t : TypeId) (cs : Array Value) (fr : Nat × Nat) (d : TypeDesc)
    (hp : tmps.getD p undef = .pointer (some ⟨g, 0, none⟩)) (hg : w.heap[g]? = some (.cells cs t fr))
    (hu : P.underlying ty = some d) (hd : (match d with | .struct _ | .array _ _ => true | _ => false) = true) (hi : (P.info? ty).map (·.size) = some cs.size) :
    (results fn tmps).run P w = .ok (.tuple #[.agg cs, tmps.getD u undef]) w := by
  rw [results_cell_tmp h, hp]
  simp [asAddr, run_loadVar_row w g t ty cs fr d hg hu hd hi, Result.andThen]

/-- an array of numbers as its cells -/
def tlC (cs : List Int) : Array Value := (cs.map (fun z => Value.int .i64 z)).toArray
def z9 : List Int := [0, 0, 0, 0, 0, 0, 0, 0, 0]
theorem tlC_size (cs : List Int) : (tlC cs).size = cs.length := by unfold tlC; simp
theorem tlC_one (cs : List Int) : (tlC cs).all (·.oneCell') = true := by
  unfold tlC
  simp [Value.oneCell']
theorem infoT : (Tryz.prog.info? 85).map (·.size) = some 9 := by kernel_rfl
theorem copy_arr {cs : List Int} (h : cs.length = 9) : (copyTo (fun i => cs.getD i 0) 9 9).toArray = tlC cs := by
  have := copyTo_all cs
  rw [h] at this
  rw [this]
  rfl

set_option maxRecDepth 10000 in
set_option maxHeartbeats 4000000 in
theorem tallyOf_any (u : Value) (cs : List Int) (w : World) (h : RdI w u cs) :
    Calls Tryz.prog 89 #[u] w fun e w' => e = .returned (.tuple #[.agg (tlC (if csB cs = true then cs else z9)), .bool (csB cs)]) ∧ Below w.heap.size w w' := by
  obtain ⟨a, cap, rfl, hlc, hcm, hc⟩ := h
  obtain ⟨m, hm⟩ : ∃ m, m = cs.length := ⟨_, rfl⟩
  have HM : Hid (m = cs.length) := hm
  obtain ⟨R, hR⟩ : ∃ R, R = if csB cs = true then cs else z9 := ⟨_, rfl⟩
  obtain ⟨ok, hok⟩ : ∃ ok, ok = csB cs := ⟨_, rfl⟩
  have HR : Hid (R = (if csB cs = true then cs else z9) ∧ ok = csB cs) := ⟨hR, hok⟩
  rw [← hm] at hlc hc ⊢
  rw [← hR, ← hok]
  clear hm hR hok
  have HZ : Hid (tlC z9 = #[.int .i64 0, .int .i64 0, .int .i64 0, .int .i64 0, .int .i64 0, .int .i64 0, .int .i64 0, .int .i64 0, .int .i64 0]) := rfl
  have HB2 : Hid (∀ o o', Below w.heap.size w ((w.alloc o).alloc o')) := fun o o' => ((Below.refl _ _).alloc (Nat.le_refl _) _).alloc (by simp) _
  have HB1 : Hid (∀ o, Below w.heap.size w (w.alloc o)) := fun o => (Below.refl _ _).alloc (Nat.le_refl _) _
  by_cases h9 : m = 9
  · subst h9
    have h9b : ((9 : Int) != 9) = false := by decide
    obtain ⟨b, off, rfl, hbs, hcell⟩ := hc (by omega)
    obtain ⟨Z, hZ⟩ : ∃ Z : Nat → Int, Z = fun i => cs.getD i 0 := ⟨_, rfl⟩
    have HZZ : Hid (Z = fun i => cs.getD i 0) := hZ
    have HC : Hid (∀ i, i < 9 → w.cell? ⟨b, off + i, none⟩ = some (.int .i64 (Z i))) := by rw [hZ]; exact hcell
    have HG0 : Hid (∀ o, ((w.alloc (.cells #[.int .i64 0, .int .i64 0, .int .i64 0, .int .i64 0, .int .i64 0, .int .i64 0, .int .i64 0, .int .i64 0, .int .i64 0] 85)).alloc o).heap[w.heap.size]? = some (.cells (tlC z9) 85)) := fun o => by rw [Below.heap_alloc _ _ _ (by simp)]; exact heap_alloc_new _ _
    have HT0 : Hid (∀ o, ((w.alloc o).alloc (.cells #[.int .i64 0, .int .i64 0, .int .i64 0, .int .i64 0, .int .i64 0, .int .i64 0, .int .i64 0, .int .i64 0, .int .i64 0] 85)).heap[w.heap.size + 1]? = some (.cells (copyTo Z 9 0).toArray 85)) := fun o => by
      have h1 : (w.alloc o).heap.size = w.heap.size + 1 := by simp
      have h2 : (copyTo Z 9 0).toArray = #[.int .i64 0, .int .i64 0, .int .i64 0, .int .i64 0, .int .i64 0, .int .i64 0, .int .i64 0, .int .i64 0, .int .i64 0] := rfl
      rw [← h1, h2]
      exact heap_alloc_new _ _
    clear hc hcell hZ
    go_enter Tryz.func89, Tryz.ntmps89
    go_wp2
    go_loopw [13] (fun i wr => ∃ (k : Nat) (A : Array Value), k ≤ 9 ∧ i = .int .i64 k ∧ Hid (A = (copyTo Z 9 k).toArray) ∧ Hid (wr.heap[w.heap.size + 1]? = some (.cells A 85)) ∧ Hid (wr.heap[w.heap.size]? = some (.cells (tlC z9) 85)) ∧ Hid (allB (cAt cs) k = true) ∧ Hid (Below w.heap.size w wr)) (fun i _ => 9 - (intOf i).toNat)
    case atStart => exact ⟨0, _, Nat.zero_le _, rfl, rfl, HT0.out _, HG0.out _, rfl, HB2.out _ _⟩
    case round =>
      obtain ⟨k, A, hk, rfl, HA, HT, HG, HK, HB⟩ := hrel
      have hAs : A.size = 9 := by rw [HA.out]; simp [copyTo]
      clear HG0 HT0 HB2 HB1
      by_cases hlt : k < 9
      · have hltI : (k : Int) < 9 := by omega
        have ck := (HB.out.cell (p := ⟨b, off + k, none⟩) hbs).trans (HC.out k hlt)
        obtain ⟨z, hz⟩ : ∃ z, z = Z k := ⟨_, rfl⟩
        rw [← hz] at ck
        have hcz : cAt cs k = inB 0 1000000 z := by rw [hz, HZZ.out]; rfl
        have HZk : Hid (z = Z k) := hz
        have hbad : inB 0 1000000 z = false → R = z9 ∧ ok = false := fun hi => by
          have : csB cs = false := by unfold csB; rw [allB_false (p := cAt cs) (k := k) (by rw [← HM.out]; exact hlt) (by rw [hcz, hi])]; simp
          exact ⟨by rw [HR.out.1, this]; rfl, by rw [HR.out.2, this]⟩
        clear hz
        obtain ⟨q, hq⟩ : ∃ q, q = (#[.int .i64 0, .int .i64 0, .int .i64 0, .int .i64 0, .int .i64 0, .int .i64 0, .int .i64 0, .int .i64 0, .int .i64 0] : Array Value) := ⟨_, rfl⟩
        have hqi : (Tryz.prog.info? 85).map (·.size) = some q.size := by rw [hq]; exact infoT
        have hqo : (tlC z9).size = q.size := by rw [hq]; rfl
        have hq1 : q.all (·.oneCell') = true := by rw [hq]; simp [Value.oneCell']
        have HQ : Hid (q = tlC z9) := hq
        by_cases hz0 : z < 0
        · have hz0d : decide (z < 0) = true := decide_eq_true hz0
          have HRR : Hid (R = z9 ∧ ok = false) := hbad (by unfold inB; simp; omega)
          clear hbad hcz
          go_wp2_with (refine wpList_store_row rfl 85 _ _ rfl w.heap.size q rfl (congrArg Value.agg hq.symm) 85 _ HG.out hqi hqo hq1 ?_)
          refine bodyPost_ret (results_row_tmp rfl _ _ w.heap.size 85 _ _ _ rfl (setRow_heap _ _ _ _ _ _ HG.out) Tryz.underlying85 rfl infoT) rfl ⟨by rw [HRR.out.1, HRR.out.2]; rfl, below_setRow HB.out (Nat.le_refl _) _⟩
        · have hz0d : decide (z < 0) = false := decide_eq_false hz0
          by_cases hz1 : 1000000 < z
          · have hz1d : decide ((1000000 : Int) < z) = true := decide_eq_true hz1
            have HRR : Hid (R = z9 ∧ ok = false) := hbad (by unfold inB; simp; omega)
            clear hbad hcz
            go_wp2_with (refine wpList_store_row rfl 85 _ _ rfl w.heap.size q rfl (congrArg Value.agg hq.symm) 85 _ HG.out hqi hqo hq1 ?_)
            refine bodyPost_ret (results_row_tmp rfl _ _ w.heap.size 85 _ _ _ rfl (setRow_heap _ _ _ _ _ _ HG.out) Tryz.underlying85 rfl infoT) rfl ⟨by rw [HRR.out.1, HRR.out.2]; rfl, below_setRow HB.out (Nat.le_refl _) _⟩
          · have hz1d : decide ((1000000 : Int) < z) = false := decide_eq_false hz1
            have HK' : Hid (allB (cAt cs) (k + 1) = true) := by show _ = _; rw [allB_succ, HK.out, hcz]; unfold inB; simp; omega
            have f1 : wr.frozen? ⟨w.heap.size + 1, k, none⟩ = false := frozN HT.out
            have d1 : ∃ v, wr.cell? ⟨w.heap.size + 1, k, none⟩ = some v := ⟨A[k]'(by omega), by rw [cellN HT.out]; exact Array.getElem?_eq_getElem (by omega)⟩
            obtain ⟨v1, d1⟩ := d1
            have HT' : Hid ((wr.setCell ⟨w.heap.size + 1, k, none⟩ (.int .i64 z)).heap[w.heap.size + 1]? = some (.cells (copyTo Z 9 (k + 1)).toArray 85)) := by
              show _ = _
              rw [heap_setCell_same _ _ _ _ 85 _ HT.out, ← copyTo_set Z 9 k hlt, HA.out, HZk.out]
              simp
            have HG' : Hid ((wr.setCell ⟨w.heap.size + 1, k, none⟩ (.int .i64 z)).heap[w.heap.size]? = some (.cells (tlC z9) 85)) := by
              show _ = _
              rw [Below.heap_setCell _ _ _ _ (by simp)]
              exact HG.out
            have HB' : Hid (Below w.heap.size w (wr.setCell ⟨w.heap.size + 1, k, none⟩ (.int .i64 z))) := HB.out.setCell (p := ⟨w.heap.size + 1, k, none⟩) (by show w.heap.size ≤ w.heap.size + 1; omega) _
            clear hbad hcz hq hqi hqo hq1
            go_wp2
            go_roundw
            case rel => exact ⟨k + 1, _, by omega, by go_num, rfl, HT', HG', HK', HB'⟩
            case measure => simp [intOf]; omega
      · have hke : k = 9 := by omega
        subst hke
        have HRR : Hid (R = cs ∧ ok = true) := by
          have : csB cs = true := by unfold csB; rw [← HM.out, HK.out]; rfl
          exact ⟨by rw [HR.out.1, this]; rfl, by rw [HR.out.2, this]⟩
        have HAe : Hid (A = tlC cs) := by show _ = _; rw [HA.out, HZZ.out]; exact copy_arr HM.out.symm
        have hAi : (Tryz.prog.info? 85).map (·.size) = some A.size := by rw [hAs]; exact infoT
        have hAo : (tlC z9).size = A.size := by rw [hAs]; rfl
        have hA1 : A.all (·.oneCell') = true := by rw [HAe.out]; exact tlC_one _
        go_wp2_with (first
          | (refine wpList_load_row rfl 85 _ rfl (w.heap.size + 1) rfl 85 A _ _ HT.out Tryz.underlying85 rfl hAi ?_)
          | (refine wpList_store_row rfl 85 _ _ rfl w.heap.size A rfl rfl 85 _ HG.out hAi hAo hA1 ?_))
        refine bodyPost_ret (results_row_tmp rfl _ _ w.heap.size 85 _ _ _ rfl (setRow_heap _ _ _ _ _ _ HG.out) Tryz.underlying85 rfl hAi) rfl ⟨by rw [HRR.out.1, HRR.out.2, ← HAe.out]; rfl, below_setRow HB.out (Nat.le_refl _) _⟩
  · have h9b : ((m : Int) != 9) = true := by simp; omega
    have HRR : Hid (R = z9 ∧ ok = false) := by
      have : csB cs = false := by unfold csB; rw [← HM.out, decide_eq_false h9]; rfl
      exact ⟨by rw [HR.out.1, this]; rfl, by rw [HR.out.2, this]⟩
    go_enter Tryz.func89, Tryz.ntmps89
    go_wp2
    refine bodyPost_ret (results_row_tmp rfl _ _ w.heap.size 85 _ _ _ rfl (heap_alloc_new _ _) Tryz.underlying85 rfl infoT) rfl ⟨by rw [HRR.out.1, HRR.out.2]; rfl, HB1.out _⟩
end Go.Proofs.YtlibipbpaigmdaaGreatDoor
