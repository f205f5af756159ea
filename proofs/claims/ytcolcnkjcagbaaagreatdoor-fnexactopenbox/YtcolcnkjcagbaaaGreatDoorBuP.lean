/-
  The four small functions over []int64 return what plain lists say: the size left, a copy, equality, whether the list rises. No condition but that the slice reads.
  The functions over one Epoch and over []Epoch that the law calls return what plain data says. No condition but that the slices read.
  The law's comparison of two slices of epochs that hold the same data returns true. No condition but that the slices read.
  Both EpochsOk functions, the program's and the specification's, answer the same plain test of the epochs. No condition but that the slices read.
  The specification's EpochsOk answers the plain test of the epochs. No condition but that the slices read.
  The specification's HasKey answers whether the epochs are right and one of them has this key and this member. No condition but that the slices read.
  The program's iterator keysByMember hands out each member of each epoch with the epoch's key, in order, to whatever body; the program's HasKey. No condition but that the slices read.
-/
import Derived.Test.YtcolcnkjcagbaaaGreatDoorChecked
import Derived.WalkKit
import Derived.WalkLawsBesides
import Derived.WalkSpells
import Derived.Below
import Derived.WalkSmall
import Derived.Deep.QuietTactic
import Derived.BigQuiet
import Derived.Deep.Slices
import Derived.Deep.RegionWith
import Derived.Test.YtcolcnkjcagbaaaGreatDoorBuR
import Derived.RangeFuncNested
import Derived.RangeFuncBound
import Derived.RangeFuncCalls
import Derived.RangeFuncLeaves
import Derived.RangeFuncFrom
import Derived.Shelf.Abstract
import Derived.Shelf.RegionOpen
import Derived.OwnWalkIn
import Derived.TacticsInMore
import Derived.LoopNIn
import Derived.LoopIn
namespace Go.Proofs.YtcolcnkjcagbaaaGreatDoor.Ep
open Go.RowKit
set_option linter.unusedVariables false

/-- a slice of int64 that reads as the numbers Z 0, Z 1, .. in world w -/
def IsI64 (w : World) (a : Option Addr) (len cap : Nat) (Z : Nat → Int) : Prop :=
  len ≤ cap ∧ cap ≤ 9223372036854775807 ∧ (0 < len → ∃ b off, a = some ⟨b, off, none⟩ ∧ b < w.heap.size ∧ ∀ i, i < len → w.cell? ⟨b, off + i, none⟩ = some (.int .i64 (Z i)))

theorem IsI64.below {w w' : World} {a : Option Addr} {len cap : Nat} {Z : Nat → Int} (h : IsI64 w a len cap Z) (hB : Below w.heap.size w w') : IsI64 w' a len cap Z := by
  obtain ⟨h1, h2, h3⟩ := h
  refine ⟨h1, h2, fun hp => ?_⟩
  obtain ⟨b, off, e, hb, hc⟩ := h3 hp
  exact ⟨b, off, e, by have := hB.size; omega, fun i hi => (hB.cell (p := ⟨b, off + i, none⟩) hb).trans (hc i hi)⟩

theorem szInt64S_any (a : Option Addr) (len cap : Nat) (left : Int) (w : World) (hl : len ≤ 9223372036854775807) (h0 : 0 ≤ left) (h1 : left ≤ 1048576) :
    Calls Tryz.prog 54 #[.slice a len cap, .int .i64 left] w fun e w' => e = .returned (.int .i64 (if left - (len : Int) < 0 then -1 else left - (len : Int))) ∧ w' = w := by
  by_cases h : left - (len : Int) < 0
  · rw [if_pos h]
    go_enter Tryz.func54, Tryz.ntmps54
    go_wp2
    go_ret
    exact ⟨rfl, rfl⟩
  · rw [if_neg h]
    go_enter Tryz.func54, Tryz.ntmps54
    go_wp2
    go_ret
    exact ⟨rfl, rfl⟩

theorem info2 : (Tryz.prog.info? 2).map (fun i => (i.zero, i.size, i.bytes)) = some (some (.int .i64 0), 1, 8) := by kernel_rfl

/-- what toInt64S has written when k rounds are over -/
def copyTo (Z : Nat → Int) (n k : Nat) : List Value := (List.range n).map fun i => .int .i64 (if i < k then Z i else 0)

theorem made_ints (Z : Nat → Int) (n : Nat) : (madeCells (Value.int .i64 0).cells (n * 1)).toList = copyTo Z n 0 := by
  apply List.ext_getElem?
  intro i
  simp only [copyTo, madeCells, Value.cells, List.getElem?_map]
  by_cases h : i < n
  · simp [h, Nat.mod_one]
  · simp [h]

theorem copyTo_set (Z : Nat → Int) (n k : Nat) (hk : k < n) : (copyTo Z n k).set k (.int .i64 (Z k)) = copyTo Z n (k + 1) := by
  apply List.ext_getElem?
  intro i
  unfold copyTo
  rw [List.getElem?_set]
  by_cases hik : k = i
  · subst hik
    simp [hk]
  · rw [if_neg hik, List.getElem?_map, List.getElem?_map]
    have e : (i < k) ↔ (i < k + 1) := by omega
    by_cases h : i < n
    · simp [h, e]
    · simp [h]

theorem copyTo_all (Z : Nat → Int) (n i : Nat) (h : i < n) : (copyTo Z n n)[i]? = some (.int .i64 (Z i)) := by
  unfold copyTo
  simp [h]

set_option maxHeartbeats 400000 in
theorem toInt64S_any (a : Option Addr) (len cap : Nat) (Z : Nat → Int) (w : World) (h : IsI64 w a len cap Z) (hlen : len ≤ 1048576) :
    Calls Tryz.prog 58 #[.slice a len cap] w fun e w' => e = .returned (.slice (some ⟨w.heap.size, 0, none⟩) len len) ∧ w.heap.size < w'.heap.size ∧ IsI64 w' (some ⟨w.heap.size, 0, none⟩) len len Z ∧ Below w.heap.size w w' := by
  obtain ⟨hlc, hcm, hc⟩ := h
  obtain ⟨i0, hi, hz0, hz1, hz2⟩ := info_parts info2
  have hb2 : i0.bytes * len ≤ 281474976710656 := by rw [hz2]; omega
  have hb3 : len ≤ maxLen := by unfold maxLen; omega
  go_enter Tryz.func58, Tryz.ntmps58
  go_wp2_with (at_make; refine wpList_make_full _ rfl _ _ 45 rfl w.heap.size 2 i0 (.int .i64 0) 1 Tryz.underlying45 hi hz0 hz1 .i64 .i64 _ _ len rfl rfl rfl rfl hb2 hb3 (Nat.le_refl _) ?_; intro w1 hown hgrow)
  have hB1 : Below w.heap.size w w1 := (Below.refl _ w).grown hgrow (Nat.le_refl _) (fun k hk => by cases hk)
  rw [made_ints Z len] at hown
  clear hgrow
  go_loopw [4] (fun i wr => ∃ k : Nat, k ≤ len ∧ i = .int .i64 k ∧ wr.ownsRow w.heap.size 2 1 (.slice (some ⟨w.heap.size, 0, none⟩) len len) len (copyTo Z len k) ∧ Below w.heap.size w wr)
    (fun i _ => len - (intOf i).toNat)
  case atStart => exact ⟨0, Nat.zero_le _, rfl, hown, hB1⟩
  case round =>
    obtain ⟨k, hk, rfl, how, hB⟩ := hrel
    by_cases hlt : k < len
    · obtain ⟨b, off, rfl, hbs, hcell⟩ := hc (by omega)
      have hck : wr.cell? ⟨b, off + k, none⟩ = some (.int .i64 (Z k)) := (hB.cell (p := ⟨b, off + k, none⟩) hbs).trans (hcell k hlt)
      have hfz := how.frozenAt k
      have hcl : ∃ v, wr.cell? ⟨w.heap.size, k, none⟩ = some v := by
        rw [how.cellAt k (by omega)]
        simp [copyTo, hlt]
      obtain ⟨v0, hcl⟩ := hcl
      have hst := (how.stored k (.int .i64 (Z k))).1
      rw [copyTo_set Z len k hlt] at hst
      have hB' : Below w.heap.size w (wr.setCell ⟨w.heap.size, k, none⟩ (.int .i64 (Z k))) := hB.setCell (p := ⟨w.heap.size, k, none⟩) (Nat.le_refl _) _
      clear how hown hB hB1
      go_wp2
      go_roundw
      case rel => exact ⟨k + 1, by omega, by go_num, hst, hB'⟩
      case measure => simp [intOf]; omega
    · have hke : k = len := by omega
      subst hke
      have hlive : w.heap.size < wr.heap.size := by
        rcases how.2 with ⟨h', _⟩ | ⟨g', cap', cur, h', _, hg, _⟩
        · simp at h'
        · simp only [Value.slice.injEq, Option.some.injEq, Addr.mk.injEq, and_true, true_and] at h'
          obtain ⟨rfl, rfl⟩ := h'
          exact lt_of_block hg
      have hfin : IsI64 wr (some ⟨w.heap.size, 0, none⟩) k k Z := by
        refine ⟨Nat.le_refl _, by omega, fun _ => ⟨w.heap.size, 0, rfl, hlive, fun i hi => ?_⟩⟩
        rw [Nat.zero_add, how.cellAt i (by omega), copyTo_all Z k i hi]
      clear how hown hB1
      go_wp2
      go_ret
      exact ⟨rfl, hlive, hfin, hB⟩

/-- the two index functions agree below n -/
def eqI (Z Y : Nat → Int) (n : Nat) : Bool := (List.range n).all fun i => Z i == Y i

theorem eqI_succ (Z Y : Nat → Int) (n : Nat) : eqI Z Y (n + 1) = (eqI Z Y n && (Z n == Y n)) := by
  unfold eqI
  rw [List.range_succ, List.all_append]
  simp

theorem eqI_false {Z Y : Nat → Int} {n k : Nat} (hk : k < n) (h : (Z k != Y k) = true) : eqI Z Y n = false := by
  have : ¬ (eqI Z Y n = true) := by
    unfold eqI
    rw [List.all_eq_true]
    intro h'
    have := h' k (List.mem_range.2 hk)
    simp at this h
    exact h this
  simpa using this

theorem ret_bool {a b : Bool} (h : a = b) : Ending.returned (.bool a) = .returned (.bool b) := by rw [h]

set_option maxHeartbeats 400000 in
theorem eqInt64S_any (a a' : Option Addr) (len cap len' cap' : Nat) (Z Y : Nat → Int) (w : World) (h : IsI64 w a len cap Z) (h' : IsI64 w a' len' cap' Y) :
    Calls Tryz.prog 63 #[.slice a len cap, .slice a' len' cap'] w fun e w' => e = .returned (.bool (len == len' && eqI Z Y len)) ∧ ∃ n, w' = w.drewN n := by
  obtain ⟨hlc, hcm, hc⟩ := h
  obtain ⟨hlc', hcm', hc'⟩ := h'
  by_cases hne : len = len'
  · subst hne
    have hbn : ((len : Int) != (len : Int)) = false := by simp
    go_enter Tryz.func63, Tryz.ntmps63
    go_wp2
    go_loopw [5] (fun i wr => ∃ k : Nat, k ≤ len ∧ i = .int .i64 k ∧ Hid (eqI Z Y k = true) ∧ ∃ n, wr = w.drewN n)
      (fun i _ => len - (intOf i).toNat)
    case atStart => exact ⟨0, Nat.zero_le _, rfl, rfl, 0, rfl⟩
    case round =>
      obtain ⟨k, hk, rfl, heq, n, rfl⟩ := hrel
      by_cases hlt : k < len
      · obtain ⟨b, off, rfl, hbs, hcell⟩ := hc (by omega)
        obtain ⟨b', off', rfl, hbs', hcell'⟩ := hc' (by omega)
        have hck := hcell k hlt
        have hck' := hcell' k hlt
        clear hcell hcell' hc hc'
        by_cases hkk : (Z k != Y k) = true
        · have hres : Hid ((len == len && eqI Z Y len) = false) := by
            show _ = _
            rw [eqI_false hlt hkk]; simp
          go_wp2
          go_quiet (fail)
          go_wp2
          go_ret
          exact ⟨ret_bool hres.out.symm, _, World.drewN_drewN _ _ _⟩
        · have hkk' : (Z k != Y k) = false := by simpa using hkk
          have heq' : Hid (eqI Z Y (k + 1) = true) := by
            show _ = _
            rw [eqI_succ, heq.out]
            simpa using hkk
          go_wp2
          go_quiet (fail)
          go_wp2
          go_roundw
          case rel => exact ⟨k + 1, by omega, by go_num, heq', _, rfl⟩
          case measure => simp [intOf]; omega
      · have hke : k = len := by omega
        subst hke
        go_wp2
        go_ret
        exact ⟨ret_bool (by rw [heq.out]; simp), _, rfl⟩
  · have hbn : ((len : Int) != (len' : Int)) = true := by simp; omega
    have hres : Hid ((len == len' && eqI Z Y len) = false) := by
      show _ = _
      simp [hne]
    go_enter Tryz.func63, Tryz.ntmps63
    go_wp2
    go_ret
    exact ⟨ret_bool hres.out.symm, 0, rfl⟩

/-- Z rises from 0 up to n -/
def risesI (Z : Nat → Int) (n : Nat) : Bool := (List.range n).all fun i => i == 0 || decide (Z (i - 1) < Z i)

theorem risesI_succ (Z : Nat → Int) (n : Nat) (hn : 1 ≤ n) : risesI Z (n + 1) = (risesI Z n && decide (Z (n - 1) < Z n)) := by
  unfold risesI
  rw [List.range_succ, List.all_append]
  have : (n == 0) = false := by simp; omega
  simp [this]

theorem risesI_false {Z : Nat → Int} {n k : Nat} (hk : k < n) (h0 : 1 ≤ k) (h : Z k ≤ Z (k - 1)) : risesI Z n = false := by
  have : ¬ (risesI Z n = true) := by
    unfold risesI
    rw [List.all_eq_true]
    intro h'
    have := h' k (List.mem_range.2 hk)
    simp at this
    omega
  simpa using this

set_option maxHeartbeats 400000 in
theorem rises_any (a : Option Addr) (len cap : Nat) (Z : Nat → Int) (w : World) (h : IsI64 w a len cap Z) :
    Calls Tryz.prog 106 #[.slice a len cap] w fun e w' => e = .returned (.bool (risesI Z len)) ∧ ∃ n, w' = w.drewN n := by
  obtain ⟨hlc, hcm, hc⟩ := h
  by_cases hl0 : len = 0
  · subst hl0
    go_enter Tryz.func106, Tryz.ntmps106
    go_wp2
    refine wp_loop_rounds 1 ?_
    rw [rounds_succ]
    go_wp2
    go_ret
    exact ⟨rfl, 0, rfl⟩
  · obtain ⟨b, off, rfl, hbs, hcell⟩ := hc (by omega)
    go_enter Tryz.func106, Tryz.ntmps106
    go_wp2
    go_loopw [3] (fun i wr => ∃ k : Nat, 1 ≤ k ∧ k ≤ len ∧ i = .int .i64 k ∧ Hid (risesI Z k = true) ∧ ∃ n, wr = w.drewN n)
      (fun i _ => len - (intOf i).toNat)
    case atStart => exact ⟨1, Nat.le_refl _, by omega, rfl, rfl, 0, rfl⟩
    case round =>
      obtain ⟨k, hk1, hk, rfl, heq, n, rfl⟩ := hrel
      by_cases hlt : k < len
      · obtain ⟨j, rfl⟩ : ∃ j, k = j + 1 := ⟨k - 1, by omega⟩
        have hck := hcell (j + 1) hlt
        have hck' := hcell j (by omega)
        clear hcell hc
        by_cases hkk : Z (j + 1) ≤ Z j
        · have hres : Hid (risesI Z len = false) := risesI_false hlt (by omega) (by simpa using hkk)
          go_wp2
          go_quiet (fail)
          go_wp2
          go_ret
          exact ⟨ret_bool hres.out.symm, _, World.drewN_drewN _ _ _⟩
        · have heq' : Hid (risesI Z (j + 1 + 1) = true) := by
            show _ = _
            rw [risesI_succ Z (j + 1) (by omega), heq.out]
            simp; omega
          have hkk' : Z j < Z (j + 1) := by omega
          go_wp2
          go_quiet (fail)
          go_wp2
          go_roundw
          case rel => exact ⟨j + 1 + 1, by omega, by omega, by go_num, heq', _, rfl⟩
          case measure => simp [intOf]; omega
      · have hke : k = len := by omega
        subst hke
        go_wp2
        go_ret
        exact ⟨ret_bool heq.out.symm, _, rfl⟩

end Go.Proofs.YtcolcnkjcagbaaaGreatDoor.Ep

namespace Go.Proofs.YtcolcnkjcagbaaaGreatDoor.Ep
open Go.RowKit
set_option linter.unusedVariables false

theorem bcell {W w1 : World} (hb : Below W.heap.size W w1) : (∀ b o, b < W.heap.size → w1.cell? ⟨b, o, none⟩ = W.cell? ⟨b, o, none⟩) ∧ (∀ b o, b < W.heap.size → w1.frozen? ⟨b, o, none⟩ = W.frozen? ⟨b, o, none⟩) :=
  ⟨fun b o h => hb.cell (p := ⟨b, o, none⟩) h, fun b o h => hb.frozen (p := ⟨b, o, none⟩) h⟩

theorem ret_int {k : IntKind} {a b : Int} (h : a = b) : Ending.returned (.int k a) = .returned (.int k b) := by rw [h]

theorem szEpoch_any (K : Int) (a : Option Addr) (len cap : Nat) (left : Int) (w : World) (hl : len ≤ 9223372036854775807) (h0 : 0 ≤ left) (h1 : left ≤ 1048576) :
    Calls Tryz.prog 32 #[.agg #[.int .i64 K, .slice a len cap], .int .i64 left] w fun e w' => e = .returned (.int .i64 (if left - (len : Int) < 0 then -1 else left - (len : Int))) ∧ Below w.heap.size w w' := by
  by_cases h : left - (len : Int) < 0
  · go_enter Tryz.func32, Tryz.ntmps32
    go_wp2_with (go_at_call 54; refine (szInt64S_any _ _ _ _ _ hl h0 h1).mono ?_; rintro e w' ⟨rfl, rfl⟩; rw [if_pos h])
    go_ret
    exact ⟨rfl, (Below.refl _ _).alloc (Nat.le_refl _) _⟩
  · go_enter Tryz.func32, Tryz.ntmps32
    go_wp2_with (go_at_call 54; refine (szInt64S_any _ _ _ _ _ hl h0 h1).mono ?_; rintro e w' ⟨rfl, rfl⟩; rw [if_neg h])
    go_ret
    exact ⟨rfl, (Below.refl _ _).alloc (Nat.le_refl _) _⟩

theorem IsI64.of_eq {w : World} {a : Option Addr} {len cap : Nat} {Z : Nat → Int} (h : IsI64 w a len cap Z) (w' : World) (hB : Below w.heap.size w w') : IsI64 w' a len cap Z := h.below hB

theorem IsI64.other {w : World} {g off len cap : Nat} {Z : Nat → Int} (h : IsI64 w (some ⟨g, off, none⟩) len cap Z) (p : Addr) (hp : p.block ≠ g) (u : Value) : IsI64 (w.setCell p u) (some ⟨g, off, none⟩) len cap Z := by
  obtain ⟨h1, h2, h3⟩ := h
  refine ⟨h1, h2, fun hp' => ?_⟩
  obtain ⟨b, o, e, hb, hc⟩ := h3 hp'
  simp only [Option.some.injEq, Addr.mk.injEq, and_true] at e
  obtain ⟨rfl, rfl⟩ := e
  refine ⟨_, _, rfl, by simpa [World.setCell] using hb, fun i hi => ?_⟩
  rw [← hc i hi]
  exact World.cell?_of_block (Below.heap_setCell _ _ _ _ (by simpa using Ne.symm hp))

set_option maxHeartbeats 400000 in
theorem toEpoch_any (K : Int) (a : Option Addr) (len cap : Nat) (Z : Nat → Int) (w : World) (h : IsI64 w a len cap Z) (hlen : len ≤ 1048576) :
    Calls Tryz.prog 35 #[.agg #[.int .i64 K, .slice a len cap]] w fun e w' => ∃ g, e = .returned (.agg #[.int .i64 K, .slice (some ⟨g, 0, none⟩) len len]) ∧ w.heap.size ≤ g ∧ IsI64 w' (some ⟨g, 0, none⟩) len len Z ∧ Below w.heap.size w w' := by
  go_enter Tryz.func35, Tryz.ntmps35
  go_wp2_with fail
  have hB3 : Below w.heap.size w (((w.alloc (Obj.cells #[Value.int IntKind.i64 K, Value.slice a len cap] 59)).alloc (Obj.cells #[Value.int IntKind.i64 0, Value.slice none 0 0] 62)).alloc (Obj.cells #[Value.int IntKind.i64 K, Value.slice none 0 0] 62)) :=
    (((Below.refl _ _).alloc (Nat.le_refl _) _).alloc (by simp) _).alloc (by simp; omega) _
  refine (toInt64S_any a len cap Z _ (h.below hB3) hlen).mono ?_
  rintro e w1 ⟨rfl, hlt, hI, hB⟩
  obtain ⟨hc, hf⟩ := bcell hB
  have hz : w.heap.size + 3 < w1.heap.size := by simpa using hlt
  have hBB : Below w.heap.size w w1 := hB3.trans (hB.mono (by simp; omega))
  simp only [World.size_alloc] at hI hc hf
  clear hB hB3 hlt
  go_wp2
  refine bodyPost_ret (v := .agg #[.int .i64 K, .slice (some ⟨w.heap.size + 1 + 1 + 1, 0, none⟩) len len]) (by simp [results, Tryz.results35, go_sem, hc]) rfl ⟨w.heap.size + 1 + 1 + 1, rfl, by omega, ?_, ?_⟩
  · exact ((hI.other _ (by simp) _).other _ (by simp) _).other _ (by simp) _
  · exact ((hBB.setCell (by simp; omega) _).setCell (by simp) _).setCell (by simp) _

/-- a slice of epochs that reads as keys K i and members M i 0, M i 1, .. (L i of them) in world w -/
def IsEps (w : World) (a : Option Addr) (len cap : Nat) (K : Nat → Int) (L : Nat → Nat) (M : Nat → Nat → Int) : Prop :=
  len ≤ cap ∧ cap ≤ 9223372036854775807 ∧ (0 < len → ∃ (b off : Nat) (A : Nat → Option Addr) (C : Nat → Nat), a = some ⟨b, off, none⟩ ∧ b < w.heap.size ∧ ∀ i, i < len → w.cell? ⟨b, off + i * 2, none⟩ = some (.int .i64 (K i)) ∧ w.cell? ⟨b, off + i * 2 + 1, none⟩ = some (.slice (A i) (L i) (C i)) ∧ IsI64 w (A i) (L i) (C i) (M i))

theorem IsEps.below {w w' : World} {a : Option Addr} {len cap : Nat} {K : Nat → Int} {L : Nat → Nat} {M : Nat → Nat → Int} (h : IsEps w a len cap K L M) (hB : Below w.heap.size w w') : IsEps w' a len cap K L M := by
  obtain ⟨h1, h2, h3⟩ := h
  refine ⟨h1, h2, fun hp => ?_⟩
  obtain ⟨b, off, A, C, e, hb, hc⟩ := h3 hp
  refine ⟨b, off, A, C, e, by have := hB.size; omega, fun i hi => ?_⟩
  obtain ⟨c1, c2, c3⟩ := hc i hi
  exact ⟨(hB.cell (p := ⟨b, _, none⟩) hb).trans c1, (hB.cell (p := ⟨b, _, none⟩) hb).trans c2, c3.below hB⟩

set_option maxHeartbeats 400000 in
theorem szEpochS_any (a : Option Addr) (len cap : Nat) (K : Nat → Int) (L : Nat → Nat) (M : Nat → Nat → Int) (w : World) (h : IsEps w a len cap K L M) :
    Calls Tryz.prog 7 #[.slice a len cap, .int .i64 1048576] w fun e w' => ∃ r : Int, e = .returned (.int .i64 r) ∧ (r < 0 ∨ (0 ≤ r ∧ r ≤ 1048576 ∧ len ≤ 1048576 ∧ ∀ i, i < len → L i ≤ 1048576)) ∧ Below w.heap.size w w' := by
  obtain ⟨hlc, hcm, hc⟩ := h
  by_cases h0 : (1048576 : Int) - (len : Int) < 0
  · go_enter Tryz.func7, Tryz.ntmps7
    go_wp2
    go_ret
    exact ⟨_, rfl, .inl (by decide), Below.refl _ _⟩
  · have h0' : 0 ≤ (1048576 : Int) - (len : Int) := by omega
    go_enter Tryz.func7, Tryz.ntmps7
    go_wp2
    go_loopw [1, 5] (fun l i wr => ∃ (k : Nat) (r : Int), k ≤ len ∧ i = .int .i64 k ∧ l = .int .i64 r ∧ 0 ≤ r ∧ r ≤ 1048576 ∧ (∀ j, j < k → L j ≤ 1048576) ∧ Below w.heap.size w wr)
      (fun _ i _ => len - (intOf i).toNat)
    case atStart => exact ⟨0, _, Nat.zero_le _, rfl, rfl, by omega, by omega, fun j hj => absurd hj (Nat.not_lt_zero _), Below.refl _ _⟩
    case round =>
      obtain ⟨k, r, hk, rfl, rfl, hr0, hr1, hall, hB⟩ := hrel
      have HA : Hid (∀ j, j < k → L j ≤ 1048576) := hall
      clear hall
      by_cases hlt : k < len
      · obtain ⟨b, off, A, C, rfl, hbs, hcell⟩ := hc (by omega)
        obtain ⟨c1, c2, c3⟩ := hcell k hlt
        have d1 := (hB.cell (p := ⟨b, off + k * 2, none⟩) hbs).trans c1
        have d2 := (hB.cell (p := ⟨b, off + k * 2 + 1, none⟩) hbs).trans c2
        have hLk : L k ≤ 9223372036854775807 := by have := c3.1; have := c3.2.1; omega
        clear hcell hc c1 c2 c3
        by_cases hs : r - (L k : Int) < 0
        · go_wp2_with (go_at_call 32; refine (szEpoch_any _ _ _ _ _ _ hLk hr0 hr1).mono ?_; rintro e w' ⟨rfl, hB2⟩; rw [if_pos hs])
          go_ret
          exact ⟨_, rfl, .inl (by decide), hB.trans (hB2.mono hB.size)⟩
        · go_wp2_with (go_at_call 32; refine (szEpoch_any _ _ _ _ _ _ hLk hr0 hr1).mono ?_; rintro e w' ⟨rfl, hB2⟩; rw [if_neg hs])
          go_roundw
          case rel =>
            refine ⟨k + 1, _, by omega, by go_num, rfl, by omega, by omega, fun j hj => ?_, hB.trans (hB2.mono hB.size)⟩
            rcases Nat.lt_succ_iff_lt_or_eq.1 hj with h1 | rfl
            · exact HA.out j h1
            · omega
          case measure => simp [intOf]; omega
      · have hke : k = len := by omega
        subst hke
        go_wp2
        go_ret
        exact ⟨_, rfl, .inr ⟨hr0, hr1, by omega, HA.out⟩, hB⟩

theorem info35 : (Tryz.prog.info? 62).map (fun i => (i.zero, i.size, i.bytes)) = some (some (.agg #[.int .i64 0, .slice none 0 0]), 2, 32) := by kernel_rfl

theorem ownsRow_below {w w' : World} {base : Nat} {e : TypeId} {size : Nat} {v : Value} {n : Nat} {xs : List Value} (h : w.ownsRow base e size v n xs) (hB : Below w.heap.size w w') : w'.ownsRow base e size v n xs := by
  obtain ⟨h1, h2⟩ := h
  refine ⟨h1, ?_⟩
  rcases h2 with h2 | ⟨g, cap, cur, hv, hg, hh, r⟩
  · exact Or.inl h2
  · exact Or.inr ⟨g, cap, cur, hv, hg, (hB.block g (lt_of_block hh)).trans hh, r⟩

theorem own_some {w : World} {base : Nat} {e : TypeId} {size g n cap : Nat} {xs : List Value} (h : w.ownsRow base e size (.slice (some ⟨g, 0, none⟩) n cap) n xs) (j : Nat) (hj : j < n * size) : ∃ v, w.cell? ⟨g, j, none⟩ = some v := by
  rw [h.cellAt j hj]
  have := h.1
  exact ⟨xs[j]'(by omega), List.getElem?_eq_getElem (by omega)⟩

set_option maxHeartbeats 400000 in
theorem toEpochS_any (a : Option Addr) (len cap : Nat) (K : Nat → Int) (L : Nat → Nat) (M : Nat → Nat → Int) (w : World) (h : IsEps w a len cap K L M) (hl : len ≤ 1048576) (hL : Hid (∀ i, i < len → L i ≤ 1048576)) :
    Calls Tryz.prog 11 #[.slice a len cap] w fun e w' => ∃ g, e = .returned (.slice (some ⟨g, 0, none⟩) len len) ∧ IsEps w' (some ⟨g, 0, none⟩) len len K L M ∧ Below w.heap.size w w' := by
  obtain ⟨hlc, hcm, hc⟩ := h
  obtain ⟨i0, hi, hz0, hz1, hz2⟩ := info_parts info35
  have hb2 : i0.bytes * len ≤ 281474976710656 := by rw [hz2]; omega
  have hb3 : len ≤ maxLen := by unfold maxLen; omega
  go_enter Tryz.func11, Tryz.ntmps11
  go_wp2_with (at_make; refine wpList_make_full _ rfl _ _ 31 rfl w.heap.size 62 i0 (.agg #[.int .i64 0, .slice none 0 0]) 2 Tryz.underlying31 hi hz0 hz1 .i64 .i64 _ _ len rfl rfl rfl rfl hb2 hb3 (Nat.le_refl _) ?_; intro w1 hown hgrow)
  have hB1 : Below w.heap.size w w1 := (Below.refl _ w).grown hgrow (Nat.le_refl _) (fun k hk => by cases hk)
  clear hgrow
  go_loopw [4] (fun i wr => ∃ (k : Nat) (xs : List Value), k ≤ len ∧ i = .int .i64 k ∧ wr.ownsRow w.heap.size 62 2 (.slice (some ⟨w.heap.size, 0, none⟩) len len) len xs ∧
      (∀ j, j < k → xs[j * 2]? = some (.int .i64 (K j)) ∧ ∃ g, g ≠ w.heap.size ∧ xs[j * 2 + 1]? = some (.slice (some ⟨g, 0, none⟩) (L j) (L j)) ∧ IsI64 wr (some ⟨g, 0, none⟩) (L j) (L j) (M j)) ∧ Below w.heap.size w wr)
    (fun i _ => len - (intOf i).toNat)
  case atStart => exact ⟨0, _, Nat.zero_le _, rfl, hown, fun j hj => absurd hj (Nat.not_lt_zero _), hB1⟩
  case round =>
    obtain ⟨k, xs, hk, rfl, how, hall, hB⟩ := hrel
    have HA := (show Hid _ from hall)
    clear hall
    by_cases hlt : k < len
    · obtain ⟨b, off, A, C, rfl, hbs, hcell⟩ := hc (by omega)
      obtain ⟨c1, c2, c3⟩ := hcell k hlt
      have d1 := (hB.cell (p := ⟨b, off + k * 2, none⟩) hbs).trans c1
      have d2 := (hB.cell (p := ⟨b, off + k * 2 + 1, none⟩) hbs).trans c2
      have c3' := c3.below (hB.mono (Nat.le_refl _))
      clear hcell hc c1 c2 c3
      have hws : w.heap.size < wr.heap.size := by
        rcases how.2 with ⟨h', _⟩ | ⟨g', cap', cur, h', _, hg, _⟩
        · simp at h'
        · simp only [Value.slice.injEq, Option.some.injEq, Addr.mk.injEq, and_true, true_and] at h'
          obtain ⟨rfl, rfl⟩ := h'
          exact lt_of_block hg
      have hxl : xs.length = len * 2 := how.1
      have HO := (show Hid _ from how)
      clear how hown
      go_wp2_with (go_at_call 35; refine (toEpoch_any _ _ _ _ _ _ c3' (hL.out k hlt)).mono ?_; rintro e w' ⟨g, rfl, hgw, hI, hB2⟩; have f1 := (ownsRow_below HO.out hB2).frozenAt (k * 2); have f2 := (ownsRow_below HO.out hB2).frozenAt (k * 2 + 1); obtain ⟨v1, e1⟩ := own_some (ownsRow_below HO.out hB2) (k * 2) (by omega); obtain ⟨v2, e2⟩ := own_some (ownsRow_below HO.out hB2) (k * 2 + 1) (by omega))
      go_roundw
      case rel =>
        refine ⟨k + 1, (xs.set (k * 2) (.int .i64 (K k))).set (k * 2 + 1) (.slice (some ⟨g, 0, none⟩) (L k) (L k)), by omega, by go_num, ?_, ?_, ?_⟩
        · exact ((ownsRow_below HO.out hB2).stored _ _).1.stored _ _ |>.1
        · intro j hj
          rcases Nat.lt_succ_iff_lt_or_eq.1 hj with h1 | rfl
          · obtain ⟨q1, g', hg', q2, q3⟩ := HA.out j h1
            refine ⟨?_, g', hg', ?_, ?_⟩
            · rw [List.getElem?_set_ne (by omega), List.getElem?_set_ne (by omega)]; exact q1
            · rw [List.getElem?_set_ne (by omega), List.getElem?_set_ne (by omega)]; exact q2
            · exact ((q3.below hB2).other _ (fun h => hg' h.symm) _).other _ (fun h => hg' h.symm) _
          · refine ⟨?_, g, by omega, ?_, ?_⟩
            · rw [List.getElem?_set_ne (by omega), List.getElem?_set_self (by omega)]
            · rw [List.getElem?_set_self (by simp; omega)]
            · exact (hI.other _ (by simp; omega) _).other _ (by simp; omega) _
        · exact ((hB.trans (hB2.mono hB.size)).setCell (Nat.le_refl _) _).setCell (Nat.le_refl _) _
      case measure => simp [intOf]; omega
    · have hke : k = len := by omega
      subst hke
      have hfin : IsEps wr (some ⟨w.heap.size, 0, none⟩) k k K L M := by
        refine ⟨Nat.le_refl _, by omega, fun hp => ?_⟩
        have hws : w.heap.size < wr.heap.size := by
          rcases how.2 with ⟨h', _⟩ | ⟨g', cap', cur, h', _, hg, _⟩
          · simp at h'
          · simp only [Value.slice.injEq, Option.some.injEq, Addr.mk.injEq, and_true, true_and] at h'
            obtain ⟨rfl, rfl⟩ := h'
            exact lt_of_block hg
        have hch : ∃ G : Nat → Nat, ∀ j, j < k → xs[j * 2 + 1]? = some (.slice (some ⟨G j, 0, none⟩) (L j) (L j)) ∧ IsI64 wr (some ⟨G j, 0, none⟩) (L j) (L j) (M j) :=
          Go.Deep.choose_lt (p := fun j g => xs[j * 2 + 1]? = some (.slice (some ⟨g, 0, none⟩) (L j) (L j)) ∧ IsI64 wr (some ⟨g, 0, none⟩) (L j) (L j) (M j)) (fun j hj => by obtain ⟨_, g, _, q2, q3⟩ := HA.out j hj; exact ⟨g, q2, q3⟩)
        obtain ⟨G, hG⟩ := hch
        refine ⟨w.heap.size, 0, fun j => some ⟨G j, 0, none⟩, fun j => L j, rfl, hws, fun j hj => ⟨?_, ?_, (hG j hj).2⟩⟩
        · rw [Nat.zero_add, how.cellAt _ (by omega)]; exact (HA.out j hj).1
        · rw [Nat.zero_add, how.cellAt _ (by omega)]; exact (hG j hj).1
      clear how hown hB1 HA
      go_wp2
      go_ret
      exact ⟨_, rfl, hfin, hB⟩

end Go.Proofs.YtcolcnkjcagbaaaGreatDoor.Ep

namespace Go.Proofs.YtcolcnkjcagbaaaGreatDoor.Ep
open Go.RowKit
set_option linter.unusedVariables false

theorem eqI_self (Z : Nat → Int) (n : Nat) : eqI Z Z n = true := by
  unfold eqI
  simp

theorem below_from {w0 w w' : World} (h : Below w0.heap.size w0 w') (e1 : w0.os = w.os) (e2 : w0.tape = w.tape) (e3 : w0.output = w.output) (e4 : w0.heap = w.heap) : Below w.heap.size w w' :=
  ⟨h.os.trans e1, h.tape.trans e2, h.output.trans e3, by rw [← e4]; exact h.size, fun k hk => by rw [← e4]; exact h.block k (by rw [e4]; exact hk)⟩

theorem IsI64.same {w w' : World} {a : Option Addr} {len cap : Nat} {Z : Nat → Int} (h : IsI64 w a len cap Z) (e : w'.heap = w.heap) : IsI64 w' a len cap Z := by
  obtain ⟨h1, h2, h3⟩ := h
  refine ⟨h1, h2, fun hp => ?_⟩
  obtain ⟨b, off, e', hb, hc⟩ := h3 hp
  refine ⟨b, off, e', by rw [e]; exact hb, fun i hi => ?_⟩
  rw [← hc i hi]
  exact World.cell?_of_block (by rw [e])

set_option maxHeartbeats 400000 in
theorem eqEpoch_same (K : Int) (a a' : Option Addr) (len cap cap' : Nat) (Z : Nat → Int) (w : World) (h : IsI64 w a len cap Z) (h' : IsI64 w a' len cap' Z) :
    Calls Tryz.prog 38 #[.agg #[.int .i64 K, .slice a len cap], .agg #[.int .i64 K, .slice a' len cap']] w fun e w' => e = .returned (.bool true) ∧ Below w.heap.size w w' := by
  have hK : (K != K) = false := by simp
  have hB2 : Below w.heap.size w ((w.alloc (Obj.cells #[Value.int IntKind.i64 K, Value.slice a len cap] 62)).alloc (Obj.cells #[Value.int IntKind.i64 K, Value.slice a' len cap'] 62)) :=
    ((Below.refl _ _).alloc (Nat.le_refl _) _).alloc (by simp) _
  have hr : Hid ((len == len && eqI Z Z len) = true) := by
    show _ = _
    rw [eqI_self]; simp
  go_enter Tryz.func38, Tryz.ntmps38
  go_wp2_with (go_at_call 63; refine (eqInt64S_any _ _ _ _ _ _ Z Z _ (h.below hB2) (h'.below hB2)).mono ?_; rintro e w' ⟨rfl, n, rfl⟩; rw [hr.out])
  go_ret
  exact ⟨rfl, below_drewN hB2 n⟩

set_option maxHeartbeats 400000 in
theorem eqEpochS_same (a a' : Option Addr) (len cap cap' : Nat) (K : Nat → Int) (L : Nat → Nat) (M : Nat → Nat → Int) (w : World) (h : IsEps w a len cap K L M) (h' : IsEps w a' len cap' K L M) :
    Calls Tryz.prog 15 #[.slice a len cap, .slice a' len cap'] w fun e w' => e = .returned (.bool true) ∧ Below w.heap.size w w' := by
  obtain ⟨hlc, hcm, hc⟩ := h
  obtain ⟨hlc', hcm', hc'⟩ := h'
  have hbn : ((len : Int) != (len : Int)) = false := by simp
  go_enter Tryz.func15, Tryz.ntmps15
  go_wp2
  go_loopw [5] (fun i wr => ∃ (k : Nat), k ≤ len ∧ i = .int .i64 k ∧ Below w.heap.size w wr)
    (fun i _ => len - (intOf i).toNat)
  case atStart => exact ⟨0, Nat.zero_le _, rfl, Below.refl _ _⟩
  case round =>
    obtain ⟨k, hk, rfl, hB⟩ := hrel
    by_cases hlt : k < len
    · obtain ⟨b, off, A, C, rfl, hbs, hcell⟩ := hc (by omega)
      obtain ⟨c1, c2, c3⟩ := hcell k hlt
      have d1 := (hB.cell (p := ⟨b, off + k * 2, none⟩) hbs).trans c1
      have d2 := (hB.cell (p := ⟨b, off + k * 2 + 1, none⟩) hbs).trans c2
      have d3 := c3.below hB
      obtain ⟨b', off', A', C', rfl, hbs', hcell'⟩ := hc' (by omega)
      obtain ⟨c1', c2', c3'⟩ := hcell' k hlt
      have d1' := (hB.cell (p := ⟨b', off' + k * 2, none⟩) hbs').trans c1'
      have d2' := (hB.cell (p := ⟨b', off' + k * 2 + 1, none⟩) hbs').trans c2'
      have d3' := c3'.below hB
      clear hcell hc c1 c2 c3 hcell' hc' c1' c2' c3'
      go_wp2
      go_region_with (go_at_call 38; refine (eqEpoch_same _ _ _ _ _ _ _ _ (by exact d3.same rfl) (by exact d3'.same rfl)).mono ?_; rintro e w' ⟨rfl, hB2⟩)
      all_goals
        go_wp2
        go_roundw
        case rel => exact ⟨k + 1, by omega, by go_num, hB.trans ((below_from (w := wr) hB2 rfl rfl rfl rfl).mono hB.size)⟩
        case measure => simp [intOf]; omega
    · have hke : k = len := by omega
      subst hke
      go_wp2
      go_ret
      exact ⟨rfl, hB⟩

end Go.Proofs.YtcolcnkjcagbaaaGreatDoor.Ep

namespace Go.Proofs.YtcolcnkjcagbaaaGreatDoor.Ep
open Go.RowKit
set_option linter.unusedVariables false

theorem l1In_any (n lo hi : Int) (w : World) :
    Calls Tryz.prog 45 #[.int .i64 n, .int .i64 lo, .int .i64 hi] w fun e w' => e = .returned (.bool (decide (lo ≤ n) && decide (n ≤ hi))) ∧ w' = w := by
  by_cases h1 : lo ≤ n
  · by_cases h2 : n ≤ hi
    · go_enter Tryz.func45, Tryz.ntmps45
      go_wp2
      go_ret
      exact ⟨ret_bool (by simp [h1, h2]), rfl⟩
    · go_enter Tryz.func45, Tryz.ntmps45
      go_wp2
      go_ret
      exact ⟨ret_bool (by simp [h2]), rfl⟩
  · go_enter Tryz.func45, Tryz.ntmps45
    go_wp2
    go_ret
    exact ⟨ret_bool (by have : decide (lo ≤ n) = false := (by simp; omega); rw [this]; simp), rfl⟩

/-- one epoch is right: its key in 100 .. 199, its members in 1 .. 5 and rising -/
def memB (Z : Nat → Int) (n : Nat) : Bool := (List.range n).all fun i => decide (1 ≤ Z i) && decide (Z i ≤ 5)
def epB (K : Int) (n : Nat) (Z : Nat → Int) : Bool := decide (100 ≤ K) && decide (K ≤ 199) && memB Z n && risesI Z n

theorem memB_succ (Z : Nat → Int) (n : Nat) : memB Z (n + 1) = (memB Z n && (decide (1 ≤ Z n) && decide (Z n ≤ 5))) := by
  unfold memB
  rw [List.range_succ, List.all_append]
  simp

theorem memB_false {Z : Nat → Int} {n k : Nat} (hk : k < n) (h : Z k < 1 ∨ 5 < Z k) : memB Z n = false := by
  have : ¬ (memB Z n = true) := by
    unfold memB
    rw [List.all_eq_true]
    intro h'
    have := h' k (List.mem_range.2 hk)
    simp at this
    omega
  simpa using this

set_option maxHeartbeats 400000 in
theorem epochOk_any (K : Int) (a : Option Addr) (len cap : Nat) (Z : Nat → Int) (w : World) (h : IsI64 w a len cap Z) :
    Calls Tryz.prog 88 #[.agg #[.int .i64 K, .slice a len cap]] w fun e w' => e = .returned (.bool (epB K len Z)) ∧ Below w.heap.size w w' := by
  have hB1 : Below w.heap.size w (w.alloc (Obj.cells #[Value.int IntKind.i64 K, Value.slice a len cap] 62)) := (Below.refl _ _).alloc (Nat.le_refl _) _
  have hI := h.below hB1
  obtain ⟨hlc, hcm, hc⟩ := h
  by_cases h1 : K < 100
  · have hres : Hid (epB K len Z = false) := by
      show _ = _
      unfold epB
      have : decide (100 ≤ K) = false := by simp; omega
      rw [this]; simp
    go_enter Tryz.func88, Tryz.ntmps88
    go_wp2
    go_ret
    exact ⟨ret_bool hres.out.symm, hB1⟩
  by_cases h2 : 199 < K
  · have hres : Hid (epB K len Z = false) := by
      show _ = _
      unfold epB
      have : decide (K ≤ 199) = false := by simp; omega
      rw [this]; simp
    have hd1 : decide (100 ≤ K) = true := decide_eq_true (by omega)
    have hd2 : decide (K ≤ 199) = false := decide_eq_false (by omega)
    go_enter Tryz.func88, Tryz.ntmps88
    go_wp2
    go_ret
    exact ⟨ret_bool hres.out.symm, hB1⟩
  have h1' : 100 ≤ K := by omega
  have h2' : K ≤ 199 := by omega
  have hres : Hid (epB K len Z = (memB Z len && risesI Z len)) := by
    show _ = _
    unfold epB
    simp [h1', h2']
  have hd1 : decide (100 ≤ K) = true := decide_eq_true h1'
  have hd2 : decide (K ≤ 199) = true := decide_eq_true h2'
  clear h1 h2
  go_enter Tryz.func88, Tryz.ntmps88
  go_wp2
  clear hd1 hd2 h1' h2'
  go_loop [4, 12] (fun m i => ∃ k : Nat, k ≤ len ∧ i = .int .i64 k ∧ Hid (memB Z k = true)) (fun _ i => len - (intOf i).toNat)
  case atStart => exact ⟨0, Nat.zero_le _, rfl, rfl⟩
  case round =>
    obtain ⟨k, hk, rfl, hm⟩ := hrel
    by_cases hlt : k < len
    · obtain ⟨b, off, rfl, hbs, hcell⟩ := hc (by omega)
      have hck := hcell k hlt
      clear hcell hc
      by_cases hin : Z k < 1 ∨ 5 < Z k
      · have hr : Hid (epB K len Z = false) := by
          show _ = _
          rw [hres.out, memB_false hlt hin]; simp
        rcases hin with hin | hin
        · go_wp2
          go_ret
          exact ⟨ret_bool hr.out.symm, hB1⟩
        · have hin' : ¬ Z k < 1 := by omega
          go_wp2
          go_ret
          exact ⟨ret_bool hr.out.symm, hB1⟩
      · have g1 : 1 ≤ Z k := by omega
        have g2 : Z k ≤ 5 := by omega
        have hm' : Hid (memB Z (k + 1) = true) := by
          show _ = _
          rw [memB_succ, hm.out]
          simp [g1, g2]
        clear hin
        go_wp2
        go_round
        case rel => exact ⟨_, _, _, ⟨k + 1, by omega, by go_num, hm'⟩, rfl, rfl, rfl⟩
        case measure => simp [intOf]; omega
    · have hke : k = len := by omega
      subst hke
      go_wp2_with (go_at_call 106; refine (rises_any _ _ _ _ _ hI).mono ?_; rintro e w' ⟨rfl, n, rfl⟩)
      go_ret
      exact ⟨ret_bool (by rw [hres.out, hm.out]; simp), below_drewN hB1 n⟩

/-- the epochs below n are right and their keys rise -/
def epsTo (K : Nat → Int) (L : Nat → Nat) (M : Nat → Nat → Int) (n : Nat) : Bool := (List.range n).all fun i => (i == 0 || decide (K (i - 1) < K i)) && epB (K i) (L i) (M i)
def epsB (K : Nat → Int) (L : Nat → Nat) (M : Nat → Nat → Int) (n : Nat) : Bool := decide (n ≤ 5) && epsTo K L M n

theorem epsTo_succ (K : Nat → Int) (L : Nat → Nat) (M : Nat → Nat → Int) (n : Nat) : epsTo K L M (n + 1) = (epsTo K L M n && ((n == 0 || decide (K (n - 1) < K n)) && epB (K n) (L n) (M n))) := by
  unfold epsTo
  rw [List.range_succ, List.all_append]
  simp

theorem epsTo_false {K : Nat → Int} {L : Nat → Nat} {M : Nat → Nat → Int} {n k : Nat} (hk : k < n) (h : ((k == 0 || decide (K (k - 1) < K k)) && epB (K k) (L k) (M k)) = false) : epsTo K L M n = false := by
  have : ¬ (epsTo K L M n = true) := by
    unfold epsTo
    rw [List.all_eq_true]
    intro h'
    have := h' k (List.mem_range.2 hk)
    rw [h] at this
    cases this
  simpa using this

set_option maxHeartbeats 400000 in
theorem implEpochsOk_any (a : Option Addr) (len cap : Nat) (K : Nat → Int) (L : Nat → Nat) (M : Nat → Nat → Int) (w : World) (h : IsEps w a len cap K L M) :
    Calls Tryz.prog 67 #[.slice a len cap] w fun e w' => e = .returned (.bool (epsB K L M len)) ∧ Below w.heap.size w w' := by
  obtain ⟨hlc, hcm, hc⟩ := h
  by_cases h5 : 5 < len
  · have hres : Hid (epsB K L M len = false) := by
      show _ = _
      unfold epsB
      have : decide (len ≤ 5) = false := by simp; omega
      rw [this]; simp
    have h5' : (5 : Int) < (len : Int) := by omega
    go_enter Tryz.func67, Tryz.ntmps67
    go_wp2
    go_ret
    exact ⟨ret_bool hres.out.symm, Below.refl _ _⟩
  have h5' : (len : Int) ≤ 5 := by omega
  have hres : Hid (epsB K L M len = epsTo K L M len) := by
    show _ = _
    unfold epsB
    have : decide (len ≤ 5) = true := by simp; omega
    rw [this]; simp
  clear h5
  go_enter Tryz.func67, Tryz.ntmps67
  go_wp2
  go_loopw [3, 10] (fun _ i wr => ∃ k : Nat, k ≤ len ∧ i = .int .i64 k ∧ Hid (epsTo K L M k = true) ∧ Below w.heap.size w wr) (fun _ i _ => len - (intOf i).toNat)
  case atStart => exact ⟨0, Nat.zero_le _, rfl, rfl, Below.refl _ _⟩
  case round =>
    obtain ⟨k, hk, rfl, hm, hB⟩ := hrel
    by_cases hlt : k < len
    · obtain ⟨b, off, A, C, rfl, hbs, hcell⟩ := hc (by omega)
      obtain ⟨c1, c2, c3⟩ := hcell k hlt
      have d1 := (hB.cell (p := ⟨b, off + k * 2, none⟩) hbs).trans c1
      have d2 := (hB.cell (p := ⟨b, off + k * 2 + 1, none⟩) hbs).trans c2
      have d3 := c3.below hB
      have hBA : Below w.heap.size w (wr.alloc (.cells #[.int .i64 (K k), .slice (A k) (L k) (C k)] 62)) := hB.alloc hB.size _
      have d3 := d3.below ((Below.refl _ _).alloc (Nat.le_refl _) (.cells #[.int .i64 (K k), .slice (A k) (L k) (C k)] 62))
      have hne := Later.any (wr.alloc (.cells #[.int .i64 (K k), .slice (A k) (L k) (C k)] 62))
      have q1 : ∀ s : Later (wr.alloc (.cells #[.int .i64 (K k), .slice (A k) (L k) (C k)] 62)), s.val.cell? ⟨wr.heap.size, 0, none⟩ = some (.int .i64 (K k)) := fun s => s.cell (by simp)
      have q2 : ∀ s : Later (wr.alloc (.cells #[.int .i64 (K k), .slice (A k) (L k) (C k)] 62)), s.val.cell? ⟨wr.heap.size, 1, none⟩ = some (.slice (A k) (L k) (C k)) := fun s => s.cell (by simp)
      by_cases hk0 : k = 0
      · have hki : (k : Int) ≤ 0 := by omega
        have hkd : decide ((0 : Int) < (k : Int)) = false := by simp; omega
        have hkn : ¬ (0 < k) := by omega
        have HS : Hid (((k == 0 || decide (K (k - 1) < K k)) && epB (K k) (L k) (M k)) = epB (K k) (L k) (M k)) := by
          show _ = _
          simp [hk0]
        clear hcell hc c1 c2 c3 hk0
        by_cases hep : epB (K k) (L k) (M k) = true
        · have hm' : Hid (epsTo K L M (k + 1) = true) := by
            show _ = _
            rw [epsTo_succ, hm.out, HS.out, hep]; rfl
          go_wp2
          refine wp_region_later (by kernel_rfl) (by kernel_rfl) ?_
          repeat (go_big_quiet_step ((rename_i s; have hcc := epochOk_any (K k) (A k) (L k) (C k) (M k) s.val (d3.below s.ok); rw [hep] at hcc; exact Calls.later hcc)))
          refine wpQuiet_nil ?_
          rintro _ ⟨⟨w', hB2⟩, rfl⟩
          go_wp2
          go_roundw
          case rel => exact ⟨k + 1, by omega, by go_num, hm', hBA.trans (hB2.mono hBA.size)⟩
          case measure => simp [intOf]; omega
        · have hep : epB (K k) (L k) (M k) = false := by simpa using hep
          have hr : Hid (epsB K L M len = false) := by
            show _ = _
            rw [hres.out, epsTo_false hlt (by rw [HS.out, hep])]
          go_wp2
          refine wp_region_later (by kernel_rfl) (by kernel_rfl) ?_
          repeat (go_big_quiet_step ((rename_i s; have hcc := epochOk_any (K k) (A k) (L k) (C k) (M k) s.val (d3.below s.ok); rw [hep] at hcc; exact Calls.later hcc)))
          refine wpQuiet_nil ?_
          rintro _ ⟨⟨w', hB2⟩, rfl⟩
          go_wp2
          go_ret
          exact ⟨ret_bool hr.out.symm, hBA.trans (hB2.mono hBA.size)⟩
      · obtain ⟨j, rfl⟩ : ∃ j, k = j + 1 := ⟨k - 1, by omega⟩
        have p1 := (hcell j (by omega)).1
        have hjb : b < (wr.alloc (.cells #[.int .i64 (K (j + 1)), .slice (A (j + 1)) (L (j + 1)) (C (j + 1))] 62)).heap.size := by have := hB.size; simp; omega
        have q3 : ∀ s : Later (wr.alloc (.cells #[.int .i64 (K (j + 1)), .slice (A (j + 1)) (L (j + 1)) (C (j + 1))] 62)), s.val.cell? ⟨b, off + j * 2, none⟩ = some (.int .i64 (K j)) := fun s => (s.ok.cell (p := ⟨b, off + j * 2, none⟩) hjb).trans ((hBA.cell (p := ⟨b, off + j * 2, none⟩) hbs).trans p1)
        clear hcell hc c1 c2 c3 hk0 p1 hjb
        by_cases hge : K (j + 1) ≤ K j
        · have hr : Hid (epsB K L M len = false) := by
            show _ = _
            have hdf : decide (K (j + 1 - 1) < K (j + 1)) = false := by simp; omega
            rw [hres.out, epsTo_false hlt (by rw [hdf]; simp)]
          go_wp2
          refine wp_region_later (by kernel_rfl) (by kernel_rfl) ?_
          repeat (go_big_quiet_step (fail))
          refine wpQuiet_nil ?_
          rintro _ ⟨⟨w', hB2⟩, rfl⟩
          go_wp2
          go_ret
          exact ⟨ret_bool hr.out.symm, hBA.trans (hB2.mono hBA.size)⟩
        · have hlk : K j < K (j + 1) := by omega
          have hgd : decide (K (j + 1) ≤ K j) = false := by simpa using hge
          have HS : Hid (((j + 1 == 0 || decide (K (j + 1 - 1) < K (j + 1))) && epB (K (j + 1)) (L (j + 1)) (M (j + 1))) = epB (K (j + 1)) (L (j + 1)) (M (j + 1))) := by
            show _ = _
            simp [hlk]
          clear hge
          by_cases hep : epB (K (j + 1)) (L (j + 1)) (M (j + 1)) = true
          · have hm' : Hid (epsTo K L M (j + 1 + 1) = true) := by
              show _ = _
              rw [epsTo_succ, hm.out, HS.out, hep]; rfl
            go_wp2
            refine wp_region_later (by kernel_rfl) (by kernel_rfl) ?_
            repeat (go_big_quiet_step ((rename_i s; have hcc := epochOk_any (K (j + 1)) (A (j + 1)) (L (j + 1)) (C (j + 1)) (M (j + 1)) s.val (d3.below s.ok); rw [hep] at hcc; exact Calls.later hcc)))
            refine wpQuiet_nil ?_
            rintro _ ⟨⟨w', hB2⟩, rfl⟩
            go_wp2
            go_roundw
            case rel => exact ⟨j + 1 + 1, by omega, by go_num, hm', hBA.trans (hB2.mono hBA.size)⟩
            case measure => simp [intOf]; omega
          · have hep : epB (K (j + 1)) (L (j + 1)) (M (j + 1)) = false := by simpa using hep
            have hr : Hid (epsB K L M len = false) := by
              show _ = _
              rw [hres.out, epsTo_false hlt (by rw [HS.out, hep])]
            go_wp2
            refine wp_region_later (by kernel_rfl) (by kernel_rfl) ?_
            repeat (go_big_quiet_step ((rename_i s; have hcc := epochOk_any (K (j + 1)) (A (j + 1)) (L (j + 1)) (C (j + 1)) (M (j + 1)) s.val (d3.below s.ok); rw [hep] at hcc; exact Calls.later hcc)))
            refine wpQuiet_nil ?_
            rintro _ ⟨⟨w', hB2⟩, rfl⟩
            go_wp2
            go_ret
            exact ⟨ret_bool hr.out.symm, hBA.trans (hB2.mono hBA.size)⟩
    · have hke : k = len := by omega
      subst hke
      go_wp2
      go_ret
      exact ⟨ret_bool (by rw [hres.out, hm.out]), hB⟩

end Go.Proofs.YtcolcnkjcagbaaaGreatDoor.Ep

namespace Go.Proofs.YtcolcnkjcagbaaaGreatDoor.Ep
open Go.RowKit
set_option linter.unusedVariables false

def inB (n lo hi : Int) : Bool := decide (lo ≤ n) && decide (n ≤ hi)
theorem inB_true {n lo hi : Int} (h : lo ≤ n ∧ n ≤ hi) : inB n lo hi = true := by simp [inB, h.1, h.2]
theorem inB_false {n lo hi : Int} (h : ¬ (lo ≤ n ∧ n ≤ hi)) : inB n lo hi = false := by
  have : ¬ (inB n lo hi = true) := by simp [inB]; omega
  simpa using this

theorem l1In_in (n lo hi : Int) (w : World) : Calls Tryz.prog 45 #[.int .i64 n, .int .i64 lo, .int .i64 hi] w fun e w' => e = .returned (.bool (inB n lo hi)) ∧ w' = w := l1In_any n lo hi w

theorem few {Z : Nat → Int} : ∀ n, memB Z n = true → risesI Z n = true → (∀ i, i < n → (i : Int) + 1 ≤ Z i) ∧ (n ≤ 5)
  | 0, _, _ => ⟨fun i hi => absurd hi (Nat.not_lt_zero _), by omega⟩
  | 1, hm, _ => by
    rw [memB_succ] at hm
    simp at hm
    exact ⟨fun i hi => by obtain rfl : i = 0 := by omega
                          simp; omega, by omega⟩
  | n + 2, hm, hr => by
    rw [memB_succ] at hm
    rw [risesI_succ Z (n + 1) (by omega)] at hr
    simp at hm hr
    have ih := few (n + 1) hm.1 hr.1
    have h1 := ih.1 n (by omega)
    have h2 := hr.2
    have h3 := hm.2
    refine ⟨fun i hi => ?_, by omega⟩
    by_cases hi' : i < n + 1
    · exact ih.1 i hi'
    · obtain rfl : i = n + 1 := by omega
      omega

theorem epB_few {K : Int} {n : Nat} {Z : Nat → Int} (h : 5 < n) : epB K n Z = false := by
  have : ¬ (epB K n Z = true) := by
    unfold epB
    intro h'
    simp only [Bool.and_eq_true] at h'
    have := (few n h'.1.2 h'.2).2
    omega
  simpa using this

/-- the members below n are right and rise -/
def memsB (Z : Nat → Int) (n : Nat) : Bool := memB Z n && risesI Z n

theorem memsB_zero (Z : Nat → Int) : memsB Z 0 = true := rfl
theorem memsB_step {Z : Nat → Int} {n : Nat} (h : memsB Z n = true) (h1 : 1 ≤ Z n ∧ Z n ≤ 5) (h2 : 1 ≤ n → Z (n - 1) < Z n) : memsB Z (n + 1) = true := by
  unfold memsB at *
  simp only [Bool.and_eq_true] at *
  refine ⟨by rw [memB_succ, h.1]; simp [h1.1, h1.2], ?_⟩
  by_cases hn : 1 ≤ n
  · rw [risesI_succ Z n hn, h.2]; simp [h2 hn]
  · obtain rfl : n = 0 := by omega
    rfl

theorem epB_mems {K : Int} {n : Nat} {Z : Nat → Int} (h : 100 ≤ K ∧ K ≤ 199) : epB K n Z = memsB Z n := by
  unfold epB memsB
  simp [h.1, h.2]

theorem memsB_out {Z : Nat → Int} {n k : Nat} (hk : k < n) (h : ¬ (1 ≤ Z k ∧ Z k ≤ 5)) : memsB Z n = false := by
  unfold memsB
  rw [memB_false hk (by omega)]; rfl

theorem memsB_down' {Z : Nat → Int} {n k : Nat} (hk : k < n) (h0 : 0 < k) (h : Z k ≤ Z (k - 1)) : memsB Z n = false := by
  unfold memsB
  rw [risesI_false hk (by omega) h]; simp

set_option maxHeartbeats 1000000 in
theorem specEpochsOk_any (a : Option Addr) (len cap : Nat) (K : Nat → Int) (L : Nat → Nat) (M : Nat → Nat → Int) (w : World) (h : IsEps w a len cap K L M) :
    Calls Tryz.prog 28 #[.slice a len cap] w fun e w' => e = .returned (.bool (epsB K L M len)) ∧ Below w.heap.size w w' := by
  obtain ⟨hlc, hcm, hc⟩ := h
  by_cases h5 : 5 < len
  · have hres : Hid (epsB K L M len = false) := by
      show _ = _
      unfold epsB
      have : decide (len ≤ 5) = false := by simp; omega
      rw [this]; simp
    have h5' : (5 : Int) < (len : Int) := by omega
    go_enter Tryz.func28, Tryz.ntmps28
    go_wp2
    go_ret
    exact ⟨ret_bool hres.out.symm, Below.refl _ _⟩
  have h5' : (len : Int) ≤ 5 := by omega
  have hres : Hid (epsB K L M len = epsTo K L M len) := by
    show _ = _
    unfold epsB
    have : decide (len ≤ 5) = true := by simp; omega
    rw [this]; simp
  clear h5
  go_enter Tryz.func28, Tryz.ntmps28
  go_wp2
  go_loopw [3] (fun i wr => ∃ k : Nat, k ≤ len ∧ i = .int .i64 k ∧ Hid (epsTo K L M k = true) ∧ Below w.heap.size w wr) (fun i _ => len - (intOf i).toNat)
  case atStart => exact ⟨0, Nat.zero_le _, rfl, rfl, Below.refl _ _⟩
  case round =>
    obtain ⟨k, hk, rfl, hm, hB⟩ := hrel
    by_cases hlt : k < len
    · obtain ⟨b, off, A, C, rfl, hbs, hcell⟩ := hc (by omega)
      obtain ⟨c1, c2, c3⟩ := hcell k hlt
      have d1 := (hB.cell (p := ⟨b, off + k * 2, none⟩) hbs).trans c1
      have d2 := (hB.cell (p := ⟨b, off + k * 2 + 1, none⟩) hbs).trans c2
      have d3 := c3.below hB
      have hbw : b < wr.heap.size := by have := hB.size; omega
      by_cases hkin : 100 ≤ K k ∧ K k ≤ 199
      · have hT := inB_true hkin
        by_cases hk0 : k = 0
        · have hki : (k : Int) ≤ 0 := by omega
          have hkd : decide ((0 : Int) < (k : Int)) = false := by simp; omega
          have hkn : ¬ (0 < k) := by omega
          have HS : Hid (((k == 0 || decide (K (k - 1) < K k)) && epB (K k) (L k) (M k)) = epB (K k) (L k) (M k)) := by
            show _ = _
            simp [hk0]
          clear hcell hc c1 c2 c3 hk0
          generalize A k = Ak at *
          have hBA : Below w.heap.size w (wr.alloc (.cells #[.int .i64 (K k), .slice Ak (L k) (C k)] 62)) := hB.alloc hB.size _
          by_cases hL5 : 5 < L (k)
          · have hr : Hid (epsB K L M len = false) := by
              show _ = _
              rw [hres.out, epsTo_false hlt (by rw [epB_few hL5]; simp)]
            have hL5' : (5 : Int) < (L (k) : Int) := by omega
            go_wp2
            go_quiet ((go_at_call 45; refine (l1In_in _ _ _ _).mono ?_; rintro e w1 ⟨rfl, rfl⟩; exact ⟨rfl, _, rfl⟩))
            go_wp2
            go_ret
            exact ⟨ret_bool hr.out.symm, below_drewN hBA _⟩
          · skip
            have hin5 : (L (k) : Int) ≤ 5 := by omega
            go_wp2
            go_quiet ((go_at_call 45; refine (l1In_in _ _ _ _).mono ?_; rintro e w1 ⟨rfl, rfl⟩; exact ⟨rfl, _, rfl⟩))
            go_wp2
            go_loopw [5] (fun i w2 => ∃ m : Nat, m ≤ L (k) ∧ i = .int .i64 m ∧ Hid (memsB (M (k)) m = true) ∧ ∃ n, w2 = (wr.alloc (.cells #[.int .i64 (K (k)), .slice Ak (L (k)) (C (k))] 62)).drewN n) (fun i _ => L (k) - (intOf i).toNat)
            case atStart => exact ⟨0, Nat.zero_le _, rfl, memsB_zero _, _, rfl⟩
            case round =>
              obtain ⟨m, hml, rfl, hms, n2, rfl⟩ := hrel
              by_cases hmlt : m < L (k)
              · obtain ⟨b2, off2, rfl, hb2, hcell2⟩ := d3.2.2 (by omega)
                have x1 := hcell2 m hmlt
                by_cases hmi : 1 ≤ M (k) m ∧ M (k) m ≤ 5
                · have hmT := inB_true hmi
                  by_cases hm0 : m = 0
                  · have hmi0 : (m : Int) ≤ 0 := by omega
                    have hmd : decide ((0 : Int) < (m : Int)) = false := by simp; omega
                    have hmn : ¬ (0 < m) := by omega
                    have hms' : Hid (memsB (M (k)) (m + 1) = true) := memsB_step hms.out hmi (fun h => absurd h (by omega))
                    clear hcell2 hm0
                    go_wp2
                    go_quiet ((go_at_call 45; refine (l1In_in _ _ _ _).mono ?_; rintro e w1 ⟨rfl, rfl⟩; exact ⟨rfl, _, rfl⟩))
                    go_wp2
                    go_roundw
                    case rel => exact ⟨m + 1, by omega, by go_num, hms', _, rfl⟩
                    case measure => simp [intOf]; omega
                  · have x2 := hcell2 (m - 1) (by omega)
                    have x3 : wr.cell? ⟨b2, off2 + ((m : Int) - 1).toNat, none⟩ = some (.int .i64 (M (k) (m - 1))) := by rw [show ((m : Int) - 1).toNat = m - 1 by omega]; exact x2
                    have hmp : (0 : Int) < (m : Int) := by omega
                    have hmp' : 0 < m := by omega
                    clear hcell2 hm0
                    by_cases hdn : M (k) m ≤ M (k) (m - 1)
                    · have hr : Hid (epsB K L M len = false) := by
                        show _ = _
                        rw [hres.out, epsTo_false hlt (by rw [epB_mems hkin, memsB_down' hmlt hmp' hdn]; simp)]
                      go_wp2
                      go_quiet ((go_at_call 45; refine (l1In_in _ _ _ _).mono ?_; rintro e w1 ⟨rfl, rfl⟩; exact ⟨rfl, _, rfl⟩))
                      go_wp2
                      go_ret
                      exact ⟨ret_bool hr.out.symm, below_drewN (below_drewN hBA _) _⟩
                    · have hup : M (k) (m - 1) < M (k) m := by omega
                      have hupd : decide (M (k) m ≤ M (k) (m - 1)) = false := by simpa using hdn
                      have hms' : Hid (memsB (M (k)) (m + 1) = true) := memsB_step hms.out hmi (fun _ => hup)
                      clear hdn
                      go_wp2
                      go_quiet ((go_at_call 45; refine (l1In_in _ _ _ _).mono ?_; rintro e w1 ⟨rfl, rfl⟩; exact ⟨rfl, _, rfl⟩))
                      go_wp2
                      go_roundw
                      case rel => exact ⟨m + 1, by omega, by go_num, hms', _, rfl⟩
                      case measure => simp [intOf]; omega
                · have hmF := inB_false hmi
                  have hr : Hid (epsB K L M len = false) := by
                    show _ = _
                    rw [hres.out, epsTo_false hlt (by rw [epB_mems hkin, memsB_out hmlt hmi]; simp)]
                  go_wp2
                  go_quiet ((go_at_call 45; refine (l1In_in _ _ _ _).mono ?_; rintro e w1 ⟨rfl, rfl⟩; exact ⟨rfl, _, rfl⟩))
                  go_wp2
                  go_ret
                  exact ⟨ret_bool hr.out.symm, below_drewN (below_drewN hBA _) _⟩
              · obtain hmL : m = L (k) := by omega
                have hm' : Hid (epsTo K L M (k + 1) = true) := by
                  show _ = _
                  rw [epsTo_succ, hm.out, HS.out, epB_mems hkin, ← hmL, hms.out]; rfl
                clear hmL
                go_wp2
                go_roundw
                case rel => exact ⟨k + 1, by omega, by go_num, hm', below_drewN hBA _⟩
                case measure => simp [intOf]; omega
        · obtain ⟨j, rfl⟩ : ∃ j, k = j + 1 := ⟨k - 1, by omega⟩
          have p1 := (hB.cell (p := ⟨b, off + j * 2, none⟩) hbs).trans (hcell j (by omega)).1
          clear hcell hc c1 c2 c3 hk0
          generalize A (j + 1) = Ak at *
          have hBA : Below w.heap.size w (wr.alloc (.cells #[.int .i64 (K (j + 1)), .slice Ak (L (j + 1)) (C (j + 1))] 62)) := hB.alloc hB.size _
          by_cases hge : K (j + 1) ≤ K j
          · have hr : Hid (epsB K L M len = false) := by
              show _ = _
              have hdf : decide (K (j + 1 - 1) < K (j + 1)) = false := by simp; omega
              rw [hres.out, epsTo_false hlt (by rw [hdf]; simp)]
            go_wp2
            go_quiet ((go_at_call 45; refine (l1In_in _ _ _ _).mono ?_; rintro e w1 ⟨rfl, rfl⟩; exact ⟨rfl, _, rfl⟩))
            go_wp2
            go_ret
            exact ⟨ret_bool hr.out.symm, below_drewN hBA _⟩
          · have hlk : K j < K (j + 1) := by omega
            have hgd : decide (K (j + 1) ≤ K j) = false := by simpa using hge
            have HS : Hid (((j + 1 == 0 || decide (K (j + 1 - 1) < K (j + 1))) && epB (K (j + 1)) (L (j + 1)) (M (j + 1))) = epB (K (j + 1)) (L (j + 1)) (M (j + 1))) := by
              show _ = _
              simp [hlk]
            clear hge
            by_cases hL5 : 5 < L (j + 1)
            · have hr : Hid (epsB K L M len = false) := by
                show _ = _
                rw [hres.out, epsTo_false hlt (by rw [epB_few hL5]; simp)]
              have hL5' : (5 : Int) < (L (j + 1) : Int) := by omega
              go_wp2
              go_quiet ((go_at_call 45; refine (l1In_in _ _ _ _).mono ?_; rintro e w1 ⟨rfl, rfl⟩; exact ⟨rfl, _, rfl⟩))
              go_wp2
              go_ret
              exact ⟨ret_bool hr.out.symm, below_drewN hBA _⟩
            · skip
              have hin5 : (L (j + 1) : Int) ≤ 5 := by omega
              go_wp2
              go_quiet ((go_at_call 45; refine (l1In_in _ _ _ _).mono ?_; rintro e w1 ⟨rfl, rfl⟩; exact ⟨rfl, _, rfl⟩))
              go_wp2
              go_loopw [5] (fun i w2 => ∃ m : Nat, m ≤ L (j + 1) ∧ i = .int .i64 m ∧ Hid (memsB (M (j + 1)) m = true) ∧ ∃ n, w2 = (wr.alloc (.cells #[.int .i64 (K (j + 1)), .slice Ak (L (j + 1)) (C (j + 1))] 62)).drewN n) (fun i _ => L (j + 1) - (intOf i).toNat)
              case atStart => exact ⟨0, Nat.zero_le _, rfl, memsB_zero _, _, rfl⟩
              case round =>
                obtain ⟨m, hml, rfl, hms, n2, rfl⟩ := hrel
                by_cases hmlt : m < L (j + 1)
                · obtain ⟨b2, off2, rfl, hb2, hcell2⟩ := d3.2.2 (by omega)
                  have x1 := hcell2 m hmlt
                  by_cases hmi : 1 ≤ M (j + 1) m ∧ M (j + 1) m ≤ 5
                  · have hmT := inB_true hmi
                    by_cases hm0 : m = 0
                    · have hmi0 : (m : Int) ≤ 0 := by omega
                      have hmd : decide ((0 : Int) < (m : Int)) = false := by simp; omega
                      have hmn : ¬ (0 < m) := by omega
                      have hms' : Hid (memsB (M (j + 1)) (m + 1) = true) := memsB_step hms.out hmi (fun h => absurd h (by omega))
                      clear hcell2 hm0
                      go_wp2
                      go_quiet ((go_at_call 45; refine (l1In_in _ _ _ _).mono ?_; rintro e w1 ⟨rfl, rfl⟩; exact ⟨rfl, _, rfl⟩))
                      go_wp2
                      go_roundw
                      case rel => exact ⟨m + 1, by omega, by go_num, hms', _, rfl⟩
                      case measure => simp [intOf]; omega
                    · have x2 := hcell2 (m - 1) (by omega)
                      have x3 : wr.cell? ⟨b2, off2 + ((m : Int) - 1).toNat, none⟩ = some (.int .i64 (M (j + 1) (m - 1))) := by rw [show ((m : Int) - 1).toNat = m - 1 by omega]; exact x2
                      have hmp : (0 : Int) < (m : Int) := by omega
                      have hmp' : 0 < m := by omega
                      clear hcell2 hm0
                      by_cases hdn : M (j + 1) m ≤ M (j + 1) (m - 1)
                      · have hr : Hid (epsB K L M len = false) := by
                          show _ = _
                          rw [hres.out, epsTo_false hlt (by rw [epB_mems hkin, memsB_down' hmlt hmp' hdn]; simp)]
                        go_wp2
                        go_quiet ((go_at_call 45; refine (l1In_in _ _ _ _).mono ?_; rintro e w1 ⟨rfl, rfl⟩; exact ⟨rfl, _, rfl⟩))
                        go_wp2
                        go_ret
                        exact ⟨ret_bool hr.out.symm, below_drewN (below_drewN hBA _) _⟩
                      · have hup : M (j + 1) (m - 1) < M (j + 1) m := by omega
                        have hupd : decide (M (j + 1) m ≤ M (j + 1) (m - 1)) = false := by simpa using hdn
                        have hms' : Hid (memsB (M (j + 1)) (m + 1) = true) := memsB_step hms.out hmi (fun _ => hup)
                        clear hdn
                        go_wp2
                        go_quiet ((go_at_call 45; refine (l1In_in _ _ _ _).mono ?_; rintro e w1 ⟨rfl, rfl⟩; exact ⟨rfl, _, rfl⟩))
                        go_wp2
                        go_roundw
                        case rel => exact ⟨m + 1, by omega, by go_num, hms', _, rfl⟩
                        case measure => simp [intOf]; omega
                  · have hmF := inB_false hmi
                    have hr : Hid (epsB K L M len = false) := by
                      show _ = _
                      rw [hres.out, epsTo_false hlt (by rw [epB_mems hkin, memsB_out hmlt hmi]; simp)]
                    go_wp2
                    go_quiet ((go_at_call 45; refine (l1In_in _ _ _ _).mono ?_; rintro e w1 ⟨rfl, rfl⟩; exact ⟨rfl, _, rfl⟩))
                    go_wp2
                    go_ret
                    exact ⟨ret_bool hr.out.symm, below_drewN (below_drewN hBA _) _⟩
                · obtain hmL : m = L (j + 1) := by omega
                  have hm' : Hid (epsTo K L M (j + 1 + 1) = true) := by
                    show _ = _
                    rw [epsTo_succ, hm.out, HS.out, epB_mems hkin, ← hmL, hms.out]; rfl
                  clear hmL
                  go_wp2
                  go_roundw
                  case rel => exact ⟨j + 1 + 1, by omega, by go_num, hm', below_drewN hBA _⟩
                  case measure => simp [intOf]; omega
      · have hF := inB_false hkin
        have hr : Hid (epsB K L M len = false) := by
          show _ = _
          have : epB (K k) (L k) (M k) = false := by
            unfold epB
            by_cases g : 100 ≤ K k
            · have g2 : decide (K k ≤ 199) = false := by simp; omega
              rw [g2]; simp
            · have g2 : decide (100 ≤ K k) = false := by simp; omega
              rw [g2]; simp
          rw [hres.out, epsTo_false hlt (by rw [this]; simp)]
        clear hcell hc c1 c2 c3 hkin
        have hBA : Below w.heap.size w (wr.alloc (.cells #[.int .i64 (K k), .slice (A k) (L k) (C k)] 62)) := hB.alloc hB.size _
        go_wp2
        go_quiet ((go_at_call 45; refine (l1In_in _ _ _ _).mono ?_; rintro e w1 ⟨rfl, rfl⟩; exact ⟨rfl, _, rfl⟩))
        go_wp2
        go_ret
        exact ⟨ret_bool hr.out.symm, below_drewN hBA _⟩
    · have hke : k = len := by omega
      subst hke
      go_wp2
      go_ret
      exact ⟨ret_bool (by rw [hres.out, hm.out]), hB⟩

end Go.Proofs.YtcolcnkjcagbaaaGreatDoor.Ep

namespace Go.Proofs.YtcolcnkjcagbaaaGreatDoor.Ep
open Go.RowKit
set_option linter.unusedVariables false

/-- all members with their epochs' keys, in order -/
def pairsOf (K : Nat → Int) (L : Nat → Nat) (M : Nat → Nat → Int) (n : Nat) : List (Int × Int) := (List.range n).flatMap fun i => (List.range (L i)).map fun j => (M i j, K i)

theorem mem_pairs {K : Nat → Int} {L : Nat → Nat} {M : Nat → Nat → Int} {n : Nat} {m k : Int} : (m, k) ∈ pairsOf K L M n ↔ ∃ i j, i < n ∧ j < L i ∧ M i j = m ∧ K i = k := by
  unfold pairsOf
  simp only [List.mem_flatMap, List.mem_map, List.mem_range, Prod.mk.injEq]
  constructor
  · rintro ⟨i, hi, j, hj, h1, h2⟩; exact ⟨i, j, hi, hj, h1, h2⟩
  · rintro ⟨i, j, hi, hj, h1, h2⟩; exact ⟨i, hi, j, hj, h1, h2⟩

def hasB (K : Nat → Int) (L : Nat → Nat) (M : Nat → Nat → Int) (n : Nat) (m k : Int) : Bool := epsB K L M n && decide ((m, k) ∈ pairsOf K L M n)

end Go.Proofs.YtcolcnkjcagbaaaGreatDoor.Ep

namespace Go.Proofs.YtcolcnkjcagbaaaGreatDoor.Ep
open Go.RowKit Go.Shelf
attribute [local go_sem] Oper.semAt_some
set_option linter.unusedVariables false

/-- what a round that goes on keeps: every cell -/
def KeepsCells (W W' : World) : Prop := ∀ b o v, W.cell? ⟨b, o, none⟩ = some v → W'.cell? ⟨b, o, none⟩ = some v

theorem keepsCells_t {A B C : World} (h : KeepsCells A B) (k : KeepsCells B C) : KeepsCells A C := fun b o v e => k b o v (h b o v e)

theorem keepsCells_b {w : World} (W : World) (l : Nat) (o o' : Obj) (_ : w.heap.size ≤ l) (h : W.heap[l]? = some o) (hc : o.isCells = false) (_ : o.isWalk = false) : KeepsCells W (W.putObj l o') := by
  intro b x v e
  have hb : b ≠ l := by
    rintro rfl
    simp [World.cell?, h] at e
    cases o <;> simp [Obj.isCells] at hc e
  rw [← e]
  exact World.cell?_of_block (World.putObj_heap_other hb)

theorem cell_lt' {w : World} {b o : Nat} {v : Value} (h : w.cell? ⟨b, o, none⟩ = some v) : b < w.heap.size := by
  rcases Nat.lt_or_ge b w.heap.size with h' | h'
  · exact h'
  · simp [World.cell?, Array.getElem?_eq_none h'] at h

/-- the pairs of the epochs below i, and of epoch i the first j -/
def partOf (K : Nat → Int) (L : Nat → Nat) (M : Nat → Nat → Int) (i j : Nat) : List (Int × Int) := pairsOf K L M i ++ (List.range j).map fun t => (M i t, K i)

theorem part_succ (K : Nat → Int) (L : Nat → Nat) (M : Nat → Nat → Int) (i j : Nat) : partOf K L M i (j + 1) = partOf K L M i j ++ [(M i j, K i)] := by
  unfold partOf
  rw [List.range_succ, List.map_append, ← List.append_assoc]
  rfl
theorem part_full (K : Nat → Int) (L : Nat → Nat) (M : Nat → Nat → Int) (i : Nat) : partOf K L M i (L i) = pairsOf K L M (i + 1) := by
  unfold partOf pairsOf
  rw [List.range_succ, List.flatMap_append]
  simp
theorem part_zero (K : Nat → Int) (L : Nat → Nat) (M : Nat → Nat → Int) (i : Nat) : partOf K L M i 0 = pairsOf K L M i := by simp [partOf]
theorem pairs_prefix (K : Nat → Int) (L : Nat → Nat) (M : Nat → Nat → Int) : ∀ (n d : Nat), pairsOf K L M n <+: pairsOf K L M (n + d)
  | n, 0 => List.prefix_refl _
  | n, d + 1 => by
    refine (pairs_prefix K L M n d).trans ?_
    show pairsOf K L M (n + d) <+: pairsOf K L M (n + d + 1)
    unfold pairsOf
    rw [List.range_succ, List.flatMap_append]
    exact List.prefix_append _ _
theorem part_prefix {K : Nat → Int} {L : Nat → Nat} {M : Nat → Nat → Int} {i j n : Nat} (hi : i < n) (hj : j ≤ L i) : partOf K L M i j <+: pairsOf K L M n := by
  have h1 : partOf K L M i j <+: partOf K L M i (L i) := by
    unfold partOf
    obtain ⟨d, hd⟩ : ∃ d, L i = j + d := ⟨L i - j, by omega⟩
    rw [hd, List.range_add, List.map_append, ← List.append_assoc]
    exact List.prefix_append _ _
  rw [part_full] at h1
  obtain ⟨d, hd⟩ : ∃ d, n = i + 1 + d := ⟨n - (i + 1), by omega⟩
  rw [hd]
  exact h1.trans (pairs_prefix K L M (i + 1) d)
theorem part_lt {K : Nat → Int} {L : Nat → Nat} {M : Nat → Nat → Int} {i j n : Nat} (hi : i < n) (hj : j < L i) : (partOf K L M i j).length < (pairsOf K L M n).length := by
  have h := (part_prefix (K := K) (M := M) hi (show j + 1 ≤ L i by omega)).length_le
  rw [part_succ, List.length_append] at h
  simp at h
  omega

abbrev encP (p : Int × Int) : Array Value := #[.int .i64 p.1, .int .i64 p.2]

set_option maxRecDepth 100000 in
set_option maxHeartbeats 2000000 in
theorem iter_in (n : Nat) (hn : 1 ≤ n) (l Bl : Nat) (a : Option Addr) (len cap : Nat) (K : Nat → Int) (L : Nat → Nat) (M : Nat → Nat → Int) (J Jx : List (Int × Int) → World → Prop)
    (W : World) (hJ : AbidesFrom W.heap.size J)
    (hY : ∀ pre x W1, J pre W1 → pre.length < (pairsOf K L M len).length → YieldAt Fence.wide (n - 1) Tryz.prog l (encP x) W1 fun e W' =>
      (e = .returned (.bool true) ∧ J (pre ++ [x]) W' ∧ KeepsCells W1 W') ∨ (e = .returned (.bool false) ∧ Jx (pre ++ [x]) W'))
    (hBl : W.cell? ⟨Bl, 0, none⟩ = some (.slice a len cap)) (hI : IsEps W a len cap K L M) (h0 : J [] W) :
    CallsIn Fence.wide n Tryz.prog 98 #[.func (.yield l) #[] #[], .pointer (some ⟨Bl, 0, none⟩)] W fun e W' => (∃ v, e = .returned v) ∧
      ((∃ ys, ys = pairsOf K L M len ∧ J ys W') ∨ (∃ pre, pre <+: pairsOf K L M len ∧ Jx pre W')) := by
  obtain ⟨hlc, hcm, hc⟩ := hI
  refine callsIn_of_wp Tryz.func98 rfl trivial ?_ rfl
  simp only [Tryz.ntmps98, List.size_toArray, List.length_cons, List.length_nil, Nat.reduceAdd, Nat.reduceSub, Array.replicate_succ, Array.replicate_zero, List.push_toArray, List.append_toArray, List.nil_append, List.cons_append]
  gi_wp2
  gi_loopw [4, 6, 9] (fun _ _ i wr => ∃ k : Nat, k ≤ len ∧ i = .int .i64 k ∧ J (pairsOf K L M k) wr ∧ KeepsCells W wr) (fun _ _ i _ => len - (intOf i).toNat)
  case atStart => exact ⟨0, Nat.zero_le _, rfl, h0, fun _ _ _ h => h⟩
  case round =>
    obtain ⟨k, hk, rfl, hJk, hKc⟩ := hrel
    by_cases hlt : k < len
    · obtain ⟨b, off, A, C, rfl, hbs, hcell⟩ := hc (by omega)
      obtain ⟨c1, c2, c3⟩ := hcell k hlt
      have d1 := hKc _ _ _ c1
      have d2 := hKc _ _ _ c2
      have hLk : L k ≤ 9223372036854775807 := by have := c3.1; have := c3.2.1; omega
      have HC := (show Hid _ from hc)
      clear hcell hc c1 c2
      have hJA : J (partOf K L M k 0) (wr.alloc (.cells #[.int .i64 (K k), .slice (A k) (L k) (C k)] 62)) := by
        rw [part_zero]
        exact hJ _ _ _ none hJk (World.grownBy_alloc wr _ none) (fun r e => by cases e)
      have hKA : KeepsCells W (wr.alloc (.cells #[.int .i64 (K k), .slice (A k) (L k) (C k)] 62)) := by
        intro b' o' v' e'
        have := hKc _ _ _ e'
        rw [World.cell?_of_block (Below.heap_alloc wr _ b' (cell_lt' this))]
        exact this
      have q0 : (wr.alloc (.cells #[.int .i64 (K k), .slice (A k) (L k) (C k)] 62)).cell? ⟨wr.heap.size, 0, none⟩ = some (.int .i64 (K k)) := by simp
      generalize A k = Ak at *
      gi_wp2
      gi_loopw [6, 16] (fun _ i w2 => ∃ j : Nat, j ≤ L k ∧ i = .int .i64 j ∧ J (partOf K L M k j) w2 ∧ KeepsCells W w2 ∧ w2.cell? ⟨wr.heap.size, 0, none⟩ = some (.int .i64 (K k))) (fun _ i _ => L k - (intOf i).toNat)
      case atStart => exact ⟨0, Nat.zero_le _, rfl, hJA, hKA, q0⟩
      case round =>
        obtain ⟨j, hj, rfl, hJj, hKj, qj⟩ := hrel
        by_cases hjl : j < L k
        · obtain ⟨b2, off2, rfl, hb2, hcell2⟩ := c3.2.2 (by omega)
          have x1 := hKj _ _ _ (hcell2 j hjl)
          clear hcell2
          obtain ⟨fn, tmps, assign, body, hy, hR⟩ := hY (partOf K L M k j) (M k j, K k) _ hJj (part_lt hlt hjl)
          dsimp only [encP] at hy
          gi_wp2
          refine hR.mono ?_
          rintro e W3 (⟨rfl, hJ3, hk3⟩ | ⟨rfl, hJx3⟩)
          · have q3 := hk3 _ _ _ qj
            rw [← part_succ] at hJ3
            gi_wp2
            go_roundw
            case rel => exact ⟨j + 1, by omega, by go_num, hJ3, keepsCells_t hKj hk3, q3⟩
            case measure => simp [intOf]; omega
          · rw [← part_succ] at hJx3
            gi_wp2
            refine bodyPost_ret (results_none rfl _ _ _) rfl ?_
            exact ⟨⟨_, rfl⟩, .inr ⟨_, part_prefix hlt (by omega), hJx3⟩⟩
        · have hjL : j = L k := by omega
          subst hjL
          rw [part_full] at hJj
          gi_wp2
          go_roundw
          case rel => exact ⟨k + 1, by omega, by go_num, hJj, hKj⟩
          case measure => simp [intOf]; omega
    · have hke : k = len := by omega
      subst hke
      gi_wp2
      go_end0
      exact ⟨⟨_, rfl⟩, .inl ⟨_, rfl, hJk⟩⟩

theorem iter_stops (n : Nat) (hn : 1 ≤ n) (Bl : Nat) (a : Option Addr) (len cap : Nat) (K : Nat → Int) (L : Nat → Nat) (M : Nat → Nat → Int) (w : World)
    (hBl : w.cell? ⟨Bl, 0, none⟩ = some (.slice a len cap)) (hI : IsEps w a len cap K L M) :
    SeqStopsK Fence.wide n Tryz.prog 98 #[.pointer (some ⟨Bl, 0, none⟩)] encP KeepsCells (fun xs => xs = pairsOf K L M len) (fun pre => pre <+: pairsOf K L M len) (pairsOf K L M len).length w := by
  intro l J Jx W hW hJ _ hY h0
  exact iter_in n hn l Bl a len cap K L M J Jx W hJ hY ((hW.cell (p := ⟨Bl, 0, none⟩) (cell_lt' hBl)).trans hBl) (hI.below hW) h0

set_option maxHeartbeats 400000 in
theorem keysBy_in (n : Nat) (a : Option Addr) (len cap : Nat) (w : World) :
    CallsIn Fence.wide n Tryz.prog 76 #[.slice a len cap] w fun e w' => e = .returned (.func (.func 98) #[] #[.pointer (some ⟨w.heap.size, 0, none⟩)]) ∧ w' = w.alloc (.cells #[.slice a len cap] 31) := by
  refine callsIn_of_wp Tryz.func76 rfl trivial ?_ rfl
  simp only [Tryz.ntmps76, List.size_toArray, List.length_cons, List.length_nil, Nat.reduceAdd, Nat.reduceSub, Array.replicate_succ, Array.replicate_zero, List.push_toArray, List.append_toArray, List.nil_append, List.cons_append]
  gi_wp2
  go_ret
  exact ⟨rfl, rfl⟩

end Go.Proofs.YtcolcnkjcagbaaaGreatDoor.Ep
