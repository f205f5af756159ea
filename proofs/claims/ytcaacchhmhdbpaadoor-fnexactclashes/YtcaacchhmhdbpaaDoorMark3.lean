/-
  Marks written into a dag that the call owns. No condition but that the dag is not too long.
-/
import Derived.Test.YtcaacchhmhdbpaaDoorMark2
namespace Go.Proofs.YtcaacchhmhdbpaaDoor
open Go.RowKit
set_option linter.unusedVariables false

theorem NOwn.below {w w' : World} {base g len : Nat} {G n : Nat → Nat} (h : NOwn w base g len G n) (hB : Below w.heap.size w w') : NOwn w' base g len G n := by
  obtain ⟨hb, ys, ho, hr⟩ := h
  exact ⟨hb, ys, ownsRow_below ho hB, fun i hi => ⟨(hr i hi).1, (hr i hi).2.1.below hB, (hr i hi).2.2⟩⟩

theorem row_ne {w : World} {g g' n m : Nat} {ys : List Value} (h : w.ownsRow 0 41 6 (.slice (some ⟨g, 0, none⟩) n n) n ys) (h' : Rw w g' m) : g' ≠ g := by
  intro e
  subst e
  obtain ⟨xs, h'⟩ := h'
  rcases h.2 with ⟨h1, _⟩ | ⟨g1, c1, cur1, e1, _, hg1, _⟩
  · simp at h1
  rcases h'.2 with ⟨h2, _⟩ | ⟨g2, c2, cur2, e2, _, hg2, _⟩
  · simp at h2
  simp only [Value.slice.injEq, Option.some.injEq, Addr.mk.injEq, and_true, true_and] at e1 e2
  obtain ⟨rfl, rfl⟩ := e1
  obtain ⟨rfl, rfl⟩ := e2
  rw [hg1] at hg2
  simp at hg2

theorem rw_same {w : World} {g n m : Nat} (h : Rw w g n) (h' : Rw w g m) : n = m := by
  obtain ⟨xs, h⟩ := h
  obtain ⟨xs', h'⟩ := h'
  rcases h.2 with ⟨h1, _⟩ | ⟨g1, c1, cur1, e1, _, hg1, _, _, s1, _⟩
  · simp at h1
  rcases h'.2 with ⟨h2, _⟩ | ⟨g2, c2, cur2, e2, _, hg2, _, _, s2, _⟩
  · simp at h2
  simp only [Value.slice.injEq, Option.some.injEq, Addr.mk.injEq, and_true, true_and] at e1 e2
  obtain ⟨rfl, rfl⟩ := e1
  obtain ⟨rfl, rfl⟩ := e2
  rw [hg1] at hg2
  simp only [Option.some.injEq, Obj.cells.injEq] at hg2
  rw [hg2.1] at s1
  omega

theorem mt_int (z : Int) (n : Nat) (hz : z = (n : Int)) (h0 : 0 < n) (hn : n ≤ 1152921504606846976) (w : World) :
    Calls Tryd.prog 37 #[.int .i64 z] w fun e w' => e = .returned (.string (mt n)) ∧ Below w.heap.size w w' := by
  rw [hz]
  exact mt_any n h0 hn w
theorem markStringS_int (z : Int) (a : Option Addr) (len cap base : Nat) (xs0 : List Value) (k0 : Nat) (hz : z = (k0 : Int)) (w : World) (h : w.ownsRow base 9 1 (.slice a len cap) len xs0) (hk : 0 < k0) (hb : k0 + len ≤ 1152921504606846976) :
    Calls Tryd.prog 28 #[.slice a len cap, .int .i64 z] w fun e w' => e = .returned (.int .i64 ((k0 + len : Nat) : Int)) ∧ w'.ownsRow base 9 1 (.slice a len cap) len (marks k0 len) ∧ w.grownBy w' (Value.slice a len cap).ownBlock := by
  rw [hz]
  exact markStringS_any a len cap base xs0 k0 w h hk hb

theorem kept_setCell {p : Nat → Prop} {a w : World} {b o : Nat} (h : Kept p a w) (hb : ¬ p b) (v : Value) : Kept p a (w.setCell ⟨b, o, none⟩ v) :=
  h.trans ⟨rfl, rfl, rfl, by simp [World.setCell], fun k _ hp => Below.heap_setCell _ _ _ _ (fun e => hb (by rw [← show k = b from e]; exact hp))⟩

end Go.Proofs.YtcaacchhmhdbpaaDoor
