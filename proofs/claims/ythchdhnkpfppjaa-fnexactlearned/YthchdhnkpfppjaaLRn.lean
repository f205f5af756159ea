/-
  Learned, of both: what is known with one text more. No condition but that the slices read and are not too long.
-/
import Derived.Test.YthchdhnkpfppjaaLIns
namespace Go.Proofs.Ythchdhnkpfppjaa
open Go.RowKit
set_option linter.unusedVariables false

/-- the texts of S as a list -/
def LL (S : Nat → ByteArray) (n : Nat) : List (List UInt8) := (List.range n).map fun i => (S i).toList
theorem LL_len (S : Nat → ByteArray) (n : Nat) : (LL S n).length = n := by simp [LL]
theorem LL_at (S : Nat → ByteArray) {n j : Nat} (h : j < n) : (LL S n).getD j [] = (S j).toList := by simp [LL, List.getD, h]
theorem lies_of {w : World} {g off cap n : Nat} {S : Nat → ByteArray} (h : IsStrs w (some ⟨g, off, none⟩) n cap S) : Lies w g off (LL S n) := by
  intro i hi
  rw [LL_len] at hi
  obtain ⟨b, o, e, hb, hc⟩ := h.2.2 (by omega)
  simp only [Option.some.injEq, Addr.mk.injEq, and_true] at e
  obtain ⟨rfl, rfl⟩ := e
  rw [LL_at S hi, enc_str]
  exact hc i hi

/-- knownB of the texts of a list -/
def knL (L : List (List UInt8)) : Bool := knownB (atL L) L.length
/-- what is known by then; none where one of them is not right -/
def lrB (S : Nat → ByteArray) (n : Nat) (t : ByteArray) : Bool := knownB S n && knL (putL (LL S n) t.toList)
def lrR (S : Nat → ByteArray) (n : Nat) (t : ByteArray) : List (List UInt8) := if lrB S n t = true then putL (LL S n) t.toList else []

theorem putL_len (s : List UInt8) : ∀ L : List (List UInt8), (putL L s).length ≤ L.length + 1
  | [] => by simp [putL]
  | a :: L => by
    have ih := putL_len s L
    unfold putL
    repeat' split
    all_goals simp
    all_goals omega

theorem put_sizes {S : Nat → ByteArray} {n : Nat} {t : ByteArray} {B : Nat} (hS : ∀ i, i < n → (S i).size ≤ B) (ht : t.size ≤ B) : ∀ i, i < (putL (LL S n) t.toList).length → (atL (putL (LL S n) t.toList) i).size ≤ B := by
  intro i hi
  have hm : (putL (LL S n) t.toList).getD i [] ∈ putL (LL S n) t.toList := by
    simp only [List.getD, List.getElem?_eq_getElem hi, Option.getD_some]
    exact List.getElem_mem hi
  have hz : (atL (putL (LL S n) t.toList) i).size = ((putL (LL S n) t.toList).getD i []).length := by
    unfold atL tx
    show (List.toArray _).size = _
    simp
  rw [hz]
  rcases (putL_mem _ _ _).1 hm with h | h
  · obtain ⟨j, hj, e⟩ := List.mem_map.1 h
    rw [← e, ByteArray.toList_eq]
    have := hS j (List.mem_range.1 hj)
    simpa using this
  · rw [h, ByteArray.toList_eq]
    simpa using ht

set_option maxHeartbeats 1000000 in
theorem specLearned_any (g n cap : Nat) (S : Nat → ByteArray) (t : ByteArray) (w : World) (h : IsStrs w (some ⟨g, 0, none⟩) n cap S) (hg : g < w.heap.size) (hn : n ≤ 1048576) (hS : ∀ i, i < n → (S i).size ≤ 1048576) (ht : t.size ≤ 1048576) :
    Calls Try.prog 5 #[.slice (some ⟨g, 0, none⟩) n cap, .string t] w fun e w' => ∃ v, e = .returned (.tuple #[v, .bool (lrB S n t)]) ∧ OwnL w' w.heap.size v (lrR S n t) ∧ Below w.heap.size w w' := by
  have hlen := LL_len S n
  have HP : Hid (Calls Try.prog 11 #[.slice (some ⟨g, 0, none⟩) n cap, .string t] w fun e w' => ∃ g' gc, e = .returned (.slice (some ⟨g', 0, none⟩) (putL (LL S n) t.toList).length gc) ∧ OwnS w' w.heap.size g' gc (putL (LL S n) t.toList) ∧ Below w.heap.size w w') := by
    have := l1Put_any g 0 cap (LL S n) t w (lies_of h) hg (by rw [hlen]; exact h.1) h.2.1 (by omega)
    rw [hlen] at this
    exact this
  have HI : Hid (IsStrs w (some ⟨g, 0, none⟩) n cap S) := h
  have HS : Hid (∀ i, i < n → (S i).size ≤ 1048576) := hS
  have HZ : Hid (∀ i, i < (putL (LL S n) t.toList).length → (atL (putL (LL S n) t.toList) i).size ≤ 1048576) := put_sizes hS ht
  clear h hS hlen
  cases h1 : knownB S n with
  | false =>
    have hr : Hid (lrB S n t = false) := by show _ = _; unfold lrB; rw [h1]; rfl
    go_enter Try.func5, Try.ntmps5
    go_wp2_with (first
      | (go_at_call 11; refine HP.out.mono ?_; rintro e w1 ⟨g', gc, rfl, ho1, hB1⟩)
      | (go_at_call 12; refine (specKnown_any _ n cap S w1 (HI.out.below hB1) HS.out).mono ?_; rintro e w2 ⟨rfl, hB2⟩; rw [h1]))
    go_ret2
    refine ⟨.slice none 0 0, ret_val (by rw [hr.out]; rfl), ?_, hB1.trans (hB2.mono hB1.size)⟩
    unfold lrR
    rw [if_neg (by rw [hr.out]; decide)]
    exact World.ownsRow_nil _ _ _ _
  | true =>
    cases h2 : knL (putL (LL S n) t.toList) with
    | false =>
      have hr : Hid (lrB S n t = false) := by show _ = _; unfold lrB; rw [h2]; simp
      have h2' : knownB (atL (putL (LL S n) t.toList)) (putL (LL S n) t.toList).length = false := h2
      go_enter Try.func5, Try.ntmps5
      go_wp2_with (first
        | (go_at_call 11; refine HP.out.mono ?_; rintro e w1 ⟨g', gc, rfl, ho1, hB1⟩)
        | (go_at_call_of 12 g'; refine (specKnown_any _ _ gc _ w2 (ho1.below hB2).strs HZ.out).mono ?_; rintro e w3 ⟨rfl, hB3⟩; rw [h2'])
        | (go_at_call 12; refine (specKnown_any _ n cap S w1 (HI.out.below hB1) HS.out).mono ?_; rintro e w2 ⟨rfl, hB2⟩; rw [h1]))
      go_ret2
      have b2 := hB1.trans (hB2.mono hB1.size)
      refine ⟨.slice none 0 0, ret_val (by rw [hr.out]; rfl), ?_, b2.trans (hB3.mono b2.size)⟩
      unfold lrR
      rw [if_neg (by rw [hr.out]; decide)]
      exact World.ownsRow_nil _ _ _ _
    | true =>
      have hr : Hid (lrB S n t = true) := by show _ = _; unfold lrB; rw [h1, h2]; rfl
      have h2' : knownB (atL (putL (LL S n) t.toList)) (putL (LL S n) t.toList).length = true := h2
      go_enter Try.func5, Try.ntmps5
      go_wp2_with (first
        | (go_at_call 11; refine HP.out.mono ?_; rintro e w1 ⟨g', gc, rfl, ho1, hB1⟩)
        | (go_at_call_of 12 g'; refine (specKnown_any _ _ gc _ w2 (ho1.below hB2).strs HZ.out).mono ?_; rintro e w3 ⟨rfl, hB3⟩; rw [h2'])
        | (go_at_call 12; refine (specKnown_any _ n cap S w1 (HI.out.below hB1) HS.out).mono ?_; rintro e w2 ⟨rfl, hB2⟩; rw [h1]))
      go_ret2
      have b2 := hB1.trans (hB2.mono hB1.size)
      refine ⟨.slice (some ⟨g', 0, none⟩) (putL (LL S n) t.toList).length gc, ret_val (by rw [hr.out]; rfl), ?_, b2.trans (hB3.mono b2.size)⟩
      unfold lrR
      rw [if_pos hr.out]
      exact (ho1.below hB2).below hB3
end Go.Proofs.Ythchdhnkpfppjaa
