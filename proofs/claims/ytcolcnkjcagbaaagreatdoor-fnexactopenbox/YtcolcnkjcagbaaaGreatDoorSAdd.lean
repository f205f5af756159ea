/-
  The specification's reader's add, and its small methods once more, each in one contract over the reader's whole state. No condition but that the reader lies in memory.
-/
import Derived.Test.YtcolcnkjcagbaaaGreatDoorSNum
import Derived.Deep.AppendLies
import Derived.OwnWalk
namespace Go.Proofs.YtcolcnkjcagbaaaGreatDoor
open Go.RowKit
set_option linter.unusedVariables false

abbrev Nd : Type := Int × Int × Int × Int

/-- the cells of nodes in a row -/
def ndCells : List Nd → List Value
  | [] => []
  | (k, n, a, b) :: l => .int .i64 k :: .int .i64 n :: .int .i64 a :: .int .i64 b :: ndCells l

theorem ndCells_append : ∀ (l m : List Nd), ndCells (l ++ m) = ndCells l ++ ndCells m
  | [], m => rfl
  | (k, n, a, b) :: l, m => by simp [ndCells, ndCells_append l m]

/-- the reader's state: the text, the place, bad, the nodes so far -/
def St (w : World) (R : Nat) (s : ByteArray) (i : Nat) (b : Bool) (l : List Nd) : Prop :=
  ∃ a cap, Sd w R s i b (.slice a l.length cap) ∧ w.ownsRow (R + 1) 158 4 (.slice a l.length cap) l.length (ndCells l)

theorem St.lt {w : World} {R : Nat} {s : ByteArray} {i : Nat} {b : Bool} {l : List Nd} (h : St w R s i b l) : R < w.heap.size := by
  obtain ⟨a, cap, h, _⟩ := h
  exact h.lt

theorem own_mut {w w' : World} {R : Nat} {e : TypeId} {size : Nat} {v : Value} {n : Nat} {xs : List Value} (h : w.ownsRow (R + 1) e size v n xs) (hM : Mut R w w') : w'.ownsRow (R + 1) e size v n xs := by
  obtain ⟨h1, h2⟩ := h
  refine ⟨h1, ?_⟩
  rcases h2 with h2 | ⟨g, cap, cur, hv, hg, hh, r⟩
  · exact Or.inl h2
  · exact Or.inr ⟨g, cap, cur, hv, hg, (hM.block g (lt_of_block hh) (by omega)).trans hh, r⟩

theorem is_st (R : Nat) (s p : ByteArray) (i : Nat) (b : Bool) (l : List Nd) (w : World) (h : St w R s i b l) (hi : i ≤ s.size) (hs : s.size ≤ 1048576) (hp : p.size ≤ 1048576) :
    Calls Tryz.prog 91 #[.pointer (some ⟨R, 0, none⟩), .string p] w fun e w' => e = .returned (.bool (!b && preB s i p)) ∧ St w' R s (if !b && preB s i p then i + p.size else i) b l ∧ Below R w w' := by
  obtain ⟨a, cap, hS, hO⟩ := h
  have hR := hS.lt
  cases b with
  | true =>
    refine (is_bad R s p i _ w hS).mono ?_
    rintro e w1 ⟨rfl, n, rfl⟩
    exact ⟨rfl, ⟨a, cap, hS.drewN n, hO⟩, ((Mut.refl R w).drewN n).below (Nat.le_refl _) (by omega)⟩
  | false =>
    cases hb : preB s i p with
    | true =>
      refine (is_yes R s p i _ w hS hi hs hp hb).mono ?_
      rintro e w1 ⟨rfl, hS1, hM⟩
      exact ⟨rfl, ⟨a, cap, by simpa using hS1, own_mut hO hM⟩, hM.below (Nat.le_refl _) (by omega)⟩
    | false =>
      refine (is_no R s p i _ w hS hi hs hp hb).mono ?_
      rintro e w1 ⟨rfl, n, rfl⟩
      exact ⟨rfl, ⟨a, cap, hS.drewN n, hO⟩, ((Mut.refl R w).drewN n).below (Nat.le_refl _) (by omega)⟩

theorem want_st (R : Nat) (s p : ByteArray) (i : Nat) (b : Bool) (l : List Nd) (w : World) (h : St w R s i b l) (hi : i ≤ s.size) (hs : s.size ≤ 1048576) (hp : p.size ≤ 1048576) :
    Calls Tryz.prog 94 #[.pointer (some ⟨R, 0, none⟩), .string p] w fun e w' => e = .returned (.tuple #[]) ∧ St w' R s (if !b && preB s i p then i + p.size else i) (!(!b && preB s i p)) l ∧ Below R w w' := by
  obtain ⟨a, cap, hS, hO⟩ := h
  have hR := hS.lt
  cases b with
  | true =>
    refine (want_bad R s p i _ w hS).mono ?_
    rintro e w1 ⟨rfl, hS1, hM⟩
    exact ⟨rfl, ⟨a, cap, hS1, own_mut hO hM⟩, hM.below (Nat.le_refl _) (by omega)⟩
  | false =>
    cases hb : preB s i p with
    | true =>
      refine (want_yes R s p i _ w hS hi hs hp hb).mono ?_
      rintro e w1 ⟨rfl, hS1, hM⟩
      exact ⟨rfl, ⟨a, cap, by simpa using hS1, own_mut hO hM⟩, hM.below (Nat.le_refl _) (by omega)⟩
    | false =>
      refine (want_no R s p i _ w hS hi hs hp hb).mono ?_
      rintro e w1 ⟨rfl, hS1, hM⟩
      exact ⟨rfl, ⟨a, cap, hS1, own_mut hO hM⟩, hM.below (Nat.le_refl _) (by omega)⟩

theorem num_st (R : Nat) (s : ByteArray) (i : Nat) (b : Bool) (l : List Nd) (w : World) (h : St w R s i b l) (hi : i ≤ s.size) (hs : s.size ≤ 1048576) :
    Calls Tryz.prog 93 #[.pointer (some ⟨R, 0, none⟩)] w fun e w' => e = .returned (.int .i64 (rdec (s.extract i (dEnd s i))).1) ∧ St w' R s (dEnd s i) (b || !(rdec (s.extract i (dEnd s i))).2) l ∧ Below R w w' := by
  obtain ⟨a, cap, hS, hO⟩ := h
  have hR := hS.lt
  refine (snumber_any R s i b _ w hS hi hs).mono ?_
  rintro e w1 ⟨rfl, hS1, hM⟩
  exact ⟨rfl, ⟨a, cap, hS1, own_mut hO hM⟩, hM.below (Nat.le_refl _) (by omega)⟩

theorem Sd.grown {w w' : World} {R : Nat} {s : ByteArray} {i : Int} {b : Bool} {v : Value} {row : Option Nat} (h : Sd w R s i b v) (hg : w.grownBy w' row) (hr : ∀ k, row = some k → R + 1 ≤ k) : Sd w' R s i b v := by
  unfold Sd at *
  rw [hg.block R (lt_of_block h) (fun e => by have := hr R e.symm; omega)]
  exact h

set_option maxHeartbeats 1000000 in
theorem add_st (R : Nat) (s : ByteArray) (i : Nat) (b : Bool) (l : List Nd) (k n x y : Int) (w : World) (h : St w R s i b l) (hl : l.length ≤ 1048576) :
    Calls Tryz.prog 92 #[.pointer (some ⟨R, 0, none⟩), .agg #[.int .i64 k, .int .i64 n, .int .i64 x, .int .i64 y]] w fun e w' => e = .returned (.int .i64 (l.length : Int)) ∧ St w' R s i b (l ++ [(k, n, x, y)]) ∧ Below R w w' := by
  obtain ⟨a, cap, hS, hO⟩ := h
  have hR := hS.lt
  obtain ⟨i0, hi, hz0, hz1, hz2⟩ := info_parts info158
  have c3 := hS.c3
  have HS : Hid (Sd w R s i b (.slice a l.length cap)) := hS
  have HO : Hid (w.ownsRow (R + 1) 158 4 (.slice a l.length cap) l.length (ndCells l)) := hO
  clear hS hO
  have hbt : (l.length + 1) * 32 ≤ 140737488355328 := by omega
  have hmx : l.length + 1 ≤ maxLen := by unfold maxLen; omega
  have hnb : Hid (((w.alloc (.cells #[.int .i64 k, .int .i64 n, .int .i64 x, .int .i64 y] 158)).alloc (.cells #[.int .i64 k, .int .i64 n, .int .i64 x, .int .i64 y] 158)).drew.heap[w.heap.size + 1]? = some (.cells #[.int .i64 k, .int .i64 n, .int .i64 x, .int .i64 y] 158)) := by
    have := heap_alloc_new (w.alloc (.cells #[.int .i64 k, .int .i64 n, .int .i64 x, .int .i64 y] 158)) (.cells #[.int .i64 k, .int .i64 n, .int .i64 x, .int .i64 y] 158)
    rw [show (w.alloc (.cells #[.int .i64 k, .int .i64 n, .int .i64 x, .int .i64 y] 158)).heap.size = w.heap.size + 1 by simp] at this
    exact this
  have hso : ∀ u ∈ [Value.int .i64 k, .int .i64 n, .int .i64 x, .int .i64 y], u.oneCell' = true := by simp [Value.oneCell']
  have hbs : Hid (R + 1 ≤ ((w.alloc (.cells #[.int .i64 k, .int .i64 n, .int .i64 x, .int .i64 y] 158)).alloc (.cells #[.int .i64 k, .int .i64 n, .int .i64 x, .int .i64 y] 158)).drew.heap.size) := by
    show _ ≤ _
    simp; omega
  go_enter Tryz.func92, Tryz.ntmps92
  go_wp2
  go_region_law (refine step_append_lies _ rfl (.tmp 9) (.tmp 11) 88 rfl (R + 1) 158 i0 (.agg #[.int .i64 0, .int .i64 0, .int .i64 0, .int .i64 0]) 4 32 Tryz.underlying88 hi hz0 hz1 hz2 rfl (by decide) (.slice a l.length cap) l.length (ndCells l) rfl ((HO.out.alloc _).alloc _).drew ⟨w.heap.size + 1, 0, none⟩ 1 1 [.int .i64 k, .int .i64 n, .int .i64 x, .int .i64 y] rfl rfl (World.news_of_block hnb.out) hso (by decide) hmx hbt hbs.out _ rfl ?_; intro g cap' w1 hown hgrow hat hlt; have hS1 := (((HS.out.alloc _).alloc _).drewN 1).grown hgrow (fun k hk => (HO.out.lt k hk).1); have c3' := hS1.c3; have f3' := hS1.fr 3; have HS1 := (show Hid _ from hS1); have HO1 := (show Hid _ from hown); have HG := (show Hid _ from hgrow); clear hS1 hown hgrow)
  all_goals
    go_wp2
    go_ret
    refine ⟨by go_num, ?_, ?_⟩
    · refine ⟨some ⟨g, 0, none⟩, cap', ?_, ?_⟩
      · simpa using Sd.set3 HS1.out (.slice (some ⟨g, 0, none⟩) (l.length + 1) cap')
      · have := own_mut HO1.out ((Mut.refl R w1).setCell 3 (.slice (some ⟨g, 0, none⟩) (l.length + 1) cap'))
        simpa [ndCells_append, ndCells] using this
    · have hB0 : Below R w (((w.alloc (.cells #[.int .i64 k, .int .i64 n, .int .i64 x, .int .i64 y] 158)).alloc (.cells #[.int .i64 k, .int .i64 n, .int .i64 x, .int .i64 y] 158)).drew) := (((Below.refl _ _).alloc (by omega) _).alloc (by simp; omega) _).drew
      exact (hB0.grown HG.out (by have := hbs.out; omega) (fun k hk => by have := (HO.out.lt k hk).1; omega)).setCell (Nat.le_refl _) _

end Go.Proofs.YtcolcnkjcagbaaaGreatDoor
