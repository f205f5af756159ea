/-
  Contracts of the library at this program: slices.Clone, BinarySearch, Insert on texts.
  slices.Insert of one text into a slice of texts that the call owns. No condition but that it is not too long.
  Learned, of both: what is known with one text more. No condition but that the slices read and are not too long.
-/
import Derived.Shelf.Slices.Clone
import Derived.Shelf.Spec.SearchS
import Derived.Shelf.Spec.SlicesInsert
import Derived.Shelf.Spec.SlicesInsertGrow
import Derived.Test.YtcolcnkjcagbaaaGreatDoorProg
import Derived.Test.YtcolcnkjcagbaaaGreatDoorLPut
namespace Go.Proofs
open Go.Shelf
end Go.Proofs

namespace Go.Proofs.YtcolcnkjcagbaaaGreatDoor
open Go.RowKit
set_option linter.unusedVariables false

theorem heap_setCells (b : Nat) : ∀ (vs : List Value) (o : Nat) (w : World) (cur : Array Value) (e : TypeId), w.heap[b]? = some (.cells cur e (0, 0)) → ∃ cur', (w.setCells b o vs).heap[b]? = some (.cells cur' e (0, 0)) ∧ cur'.size = cur.size
  | [], o, w, cur, e, h => ⟨cur, h, rfl⟩
  | v :: r, o, w, cur, e, h => by
    have h1 : (w.setCell ⟨b, o, none⟩ v).heap[b]? = some (.cells (cur.setIfInBounds o v) e (0, 0)) := by
      have hlt : b < w.heap.size := (Array.getElem?_eq_some_iff.1 h).1
      simp [World.setCell, Array.getElem?_modify, h]
    obtain ⟨cur', h2, h3⟩ := heap_setCells b r (o + 1) _ _ e h1
    exact ⟨cur', h2, by rw [h3]; simp⟩
theorem heap_setCells_other (b k : Nat) (hk : k ≠ b) : ∀ (vs : List Value) (o : Nat) (w : World), (w.setCells b o vs).heap[k]? = w.heap[k]?
  | [], _, _ => rfl
  | v :: r, o, w => by rw [World.setCells, heap_setCells_other b k hk r, Below.heap_setCell _ _ _ _ hk]
theorem setCells_kept (b : Nat) : ∀ (vs : List Value) (o : Nat) (w : World), Kept (fun k => k ≠ b) w (w.setCells b o vs)
  | [], _, w => Kept.refl _ _
  | v :: r, o, w => by
    rw [World.setCells]
    have h1 : Kept (fun k => k ≠ b) w (w.setCell ⟨b, o, none⟩ v) := ⟨rfl, rfl, rfl, by simp [World.setCell], fun k _ hk => Below.heap_setCell _ _ _ _ hk⟩
    exact h1.trans (setCells_kept b r (o + 1) _)
theorem kept_drew {p : Nat → Prop} {w : World} : Kept p w w.drew := ⟨rfl, rfl, rfl, Nat.le_refl _, fun _ _ _ => rfl⟩

theorem own_of_cells {w : World} {base g cap : Nat} {cur : Array Value} {L : List (List UInt8)} (hg : w.heap[g]? = some (.cells cur 9 (0, 0))) (hs : cur.size = cap) (hl : L.length ≤ cap) (hm : cap ≤ maxLen) (hb : base ≤ g) (hc : ∀ j, j < L.length → w.cell? ⟨g, j, none⟩ = some (encStr (L.getD j []))) : OwnS w base g cap L := by
  refine ⟨by simp, Or.inr ⟨g, cap, cur, rfl, hb, hg, hl, hm, by omega, ?_⟩⟩
  apply List.ext_getElem?
  intro j
  by_cases hj : j < L.length
  · have h1 := hc j hj
    have h2 : w.cell? ⟨g, j, none⟩ = cur[j]? := by simp [World.cell?, hg]
    rw [h2] at h1
    rw [List.getElem?_take_of_lt (by omega), List.getElem?_map, Array.getElem?_toList, h1]
    simp [hj]
  · rw [List.getElem?_eq_none (by simp; omega), List.getElem?_eq_none (by simp; omega)]

/-- L with s at place k -/
def insL (L : List (List UInt8)) (k : Nat) (s : List UInt8) : List (List UInt8) := L.take k ++ [s] ++ L.drop k
theorem insL_len {L : List (List UInt8)} {k : Nat} (h : k ≤ L.length) (s : List UInt8) : (insL L k s).length = L.length + 1 := by unfold insL; simp; omega
theorem insL_lt {L : List (List UInt8)} {k j : Nat} (h : k ≤ L.length) (s : List UInt8) (hj : j < k) : (insL L k s).getD j [] = L.getD j [] := by
  unfold insL
  simp only [List.getD]
  rw [List.append_assoc, List.getElem?_append_left (by simp; omega), List.getElem?_take_of_lt hj]
theorem insL_at {L : List (List UInt8)} {k : Nat} (h : k ≤ L.length) (s : List UInt8) : (insL L k s).getD k [] = s := by
  unfold insL
  simp only [List.getD]
  rw [List.append_assoc, List.getElem?_append_right (by simp; omega)]
  simp [Nat.min_eq_left h]
theorem insL_gt {L : List (List UInt8)} {k j : Nat} (h : k ≤ L.length) (s : List UInt8) (hj : k ≤ j) : (insL L k s).getD (j + 1) [] = L.getD j [] := by
  unfold insL
  simp only [List.getD]
  rw [List.append_assoc, List.getElem?_append_right (by simp; omega), List.length_take, Nat.min_eq_left h]
  rw [show j + 1 - k = (j - k) + 1 by omega, List.singleton_append, List.getElem?_cons_succ, List.getElem?_drop]
  rw [show k + (j - k) = j by omega]

theorem enc_at (L : List (List UInt8)) (j : Nat) (v : Value) (h : (L.map encStr)[j]? = some v) : j < L.length ∧ v = encStr (L.getD j []) := by
  rw [List.getElem?_map] at h
  cases hq : L[j]? with
  | none => rw [hq] at h; cases h
  | some x =>
    rw [hq] at h
    simp only [Option.map_some, Option.some.injEq] at h
    exact ⟨(List.getElem?_eq_some_iff.1 hq).1, by rw [← h]; simp [List.getD, hq]⟩

end Go.Proofs.YtcolcnkjcagbaaaGreatDoor

namespace Go.Proofs.YtcolcnkjcagbaaaGreatDoor
open Go.RowKit
set_option linter.unusedVariables false

/-- the texts of S as a list -/
def LL (S : Nat → ByteArray) (n : Nat) : List (List UInt8) := (List.range n).map fun i => (S i).toList
theorem LL_len (S : Nat → ByteArray) (n : Nat) : (LL S n).length = n := by simp [LL]
theorem LL_at (S : Nat → ByteArray) {n j : Nat} (h : j < n) : (LL S n).getD j [] = (S j).toList := by simp [LL, List.getD, h]
theorem lies_of {w : World} {g off cap n : Nat} {S : Nat → ByteArray} (h : IsStrs w (some ⟨g, off, none⟩) n cap S) : Lies w g off (LL S n) := by
  intro i hi
  rw [LL_len] at hi
  obtain ⟨b, o, e, hb, hc⟩ := h.2.2 (by omega)
  simp only [Option.some.injEq, Addr.mk.injEq, and_true] at e
  obtain ⟨rfl, rfl⟩ := e
  rw [LL_at S hi, enc_str]
  exact hc i hi

/-- knownB of the texts of a list -/
def knL (L : List (List UInt8)) : Bool := knownB (atL L) L.length
/-- what is known by then; none where one of them is not right -/
def lrB (S : Nat → ByteArray) (n : Nat) (t : ByteArray) : Bool := knownB S n && knL (putL (LL S n) t.toList)
def lrR (S : Nat → ByteArray) (n : Nat) (t : ByteArray) : List (List UInt8) := if lrB S n t = true then putL (LL S n) t.toList else []

theorem putL_len (s : List UInt8) : ∀ L : List (List UInt8), (putL L s).length ≤ L.length + 1
  | [] => by simp [putL]
  | a :: L => by
    have ih := putL_len s L
    unfold putL
    repeat' split
    all_goals simp
    all_goals omega

theorem put_sizes {S : Nat → ByteArray} {n : Nat} {t : ByteArray} {B : Nat} (hS : ∀ i, i < n → (S i).size ≤ B) (ht : t.size ≤ B) : ∀ i, i < (putL (LL S n) t.toList).length → (atL (putL (LL S n) t.toList) i).size ≤ B := by
  intro i hi
  have hm : (putL (LL S n) t.toList).getD i [] ∈ putL (LL S n) t.toList := by
    simp only [List.getD, List.getElem?_eq_getElem hi, Option.getD_some]
    exact List.getElem_mem hi
  have hz : (atL (putL (LL S n) t.toList) i).size = ((putL (LL S n) t.toList).getD i []).length := by
    unfold atL tx
    show (List.toArray _).size = _
    simp
  rw [hz]
  rcases (putL_mem _ _ _).1 hm with h | h
  · obtain ⟨j, hj, e⟩ := List.mem_map.1 h
    rw [← e, ByteArray.toList_eq]
    have := hS j (List.mem_range.1 hj)
    simpa using this
  · rw [h, ByteArray.toList_eq]
    simpa using ht

end Go.Proofs.YtcolcnkjcagbaaaGreatDoor
