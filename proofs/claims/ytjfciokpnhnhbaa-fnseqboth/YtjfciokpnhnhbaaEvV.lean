/-
  Slices of elements, nil or not, that the call owns. No condition.
-/
import Derived.Test.YtjfciokpnhnhbaaEL
import Derived.Test.YtjfciokpnhnhbaaEEq
namespace Go.Proofs.Ytjfciokpnhnhbaa
open Go.RowKit
set_option linter.unusedVariables false

/-- a slice, nil or not, laid at or above base, that holds the elements L -/
def OwnV (w : World) (base : Nat) (v : Value) (L : List Ev) : Prop := w.ownsRow base 36 4 v L.length (cellsL L)
theorem OwnV.below {w w' : World} {base : Nat} {v : Value} {L : List Ev} (h : OwnV w base v L) (hB : Below w.heap.size w w') : OwnV w' base v L := ownsRow_below h hB
theorem OwnV.cases {w : World} {base : Nat} {v : Value} {L : List Ev} (h : OwnV w base v L) : (v = .slice none 0 0 ∧ L = []) ∨ ∃ g cap, v = .slice (some ⟨g, 0, none⟩) L.length cap ∧ OwnE w base g cap L := by
  rcases h.2 with ⟨h1, h2⟩ | ⟨g, cap, cur, rfl, r⟩
  · exact .inl ⟨h1, List.length_eq_zero_iff.1 h2⟩
  · exact .inr ⟨g, cap, rfl, h⟩
theorem OwnE.v {w : World} {base g cap : Nat} {L : List Ev} (h : OwnE w base g cap L) : OwnV w base (.slice (some ⟨g, 0, none⟩) L.length cap) L := h
theorem OwnV.nil (w : World) (base : Nat) : OwnV w base (.slice none 0 0) [] := ⟨rfl, .inl ⟨rfl, rfl⟩⟩
theorem OwnV.base {w : World} {base base' : Nat} {v : Value} {L : List Ev} (h : OwnV w base v L) (hb : base' ≤ base) : OwnV w base' v L := by
  obtain ⟨h1, h2⟩ := h
  refine ⟨h1, ?_⟩
  rcases h2 with h2 | ⟨g', cap', cur, h', hg, r⟩
  · exact .inl h2
  · exact .inr ⟨g', cap', cur, h', by omega, r⟩

theorem take_succ {L : List Ev} {n : Nat} (h : n < L.length) : L.take (n + 1) = L.take n ++ [L.getD n evZ] := by
  rw [List.take_add_one]
  simp [h]
theorem evs_lies {w : World} {base g n cap : Nat} {L : List Ev} (h : w.ownsRow base 36 4 (.slice (some ⟨g, 0, none⟩) n cap) n (cellsL L)) (hn : n = L.length) : ∀ i, i < n → EvAt w g (i * 4) (L.getD i evZ) := by
  subst hn
  intro i hi
  have := (OwnE.lies (show OwnE w base g cap L from h)).1 i hi
  rw [Nat.zero_add] at this
  exact this
theorem cellsL_set (L : List Ev) (k : Nat) (x : Ev) (h : k < L.length) :
    ((((cellsL L).set (k * 4) (.int .i64 x.a)).set (k * 4 + 1) (.int .i64 x.b)).set (k * 4 + 2) (.int .i64 x.c)).set (k * 4 + 3) (.string x.d) = cellsL (L.set k x) := by
  have hcl := cellsL_len L
  apply List.ext_getElem?
  intro j
  by_cases hj : j < L.length * 4
  · obtain ⟨i, t, ht, rfl⟩ : ∃ i t, t < 4 ∧ j = i * 4 + t := ⟨j / 4, j % 4, Nat.mod_lt _ (by decide), by omega⟩
    rw [cellsL_at (L.set k x) i t ht (by rw [List.length_set]; omega)]
    by_cases hik : i = k
    · subst hik
      have e : (L.set i x).getD i evZ = x := by simp [List.getD_eq_getElem?_getD, h]
      rw [e]
      rcases t with _ | _ | _ | _ | t
      · rw [List.getElem?_set_ne (by omega), List.getElem?_set_ne (by omega), List.getElem?_set_ne (by omega), Nat.add_zero, List.getElem?_set_self (by omega)]; rfl
      · rw [List.getElem?_set_ne (by omega), List.getElem?_set_ne (by omega), List.getElem?_set_self (by simp; omega)]; rfl
      · rw [List.getElem?_set_ne (by omega), List.getElem?_set_self (by simp; omega)]; rfl
      · rw [List.getElem?_set_self (by simp; omega)]; rfl
      · omega
    · have e : (L.set k x).getD i evZ = L.getD i evZ := by simp [List.getD_eq_getElem?_getD, List.getElem?_set_ne (Ne.symm hik)]
      rw [e, List.getElem?_set_ne (by omega), List.getElem?_set_ne (by omega), List.getElem?_set_ne (by omega), List.getElem?_set_ne (by omega), cellsL_at L i t ht (by omega)]
  · rw [List.getElem?_eq_none (by simp; omega), List.getElem?_eq_none (by rw [cellsL_len, List.length_set]; omega)]

theorem grownBy_below {w w' : World} (r : Option Nat) (h : Below w.heap.size w w') : w.grownBy w' r := ⟨h.os, h.tape, h.output, h.size, fun k hk _ => h.block k hk⟩
theorem grownBy_trans {w w' w'' : World} {r : Option Nat} (h : w.grownBy w' r) (h' : w'.grownBy w'' r) : w.grownBy w'' r :=
  ⟨h'.os.trans h.os, h'.tape.trans h.tape, h'.output.trans h.output, Nat.le_trans h.size h'.size, fun k hk hn => (h'.block k (Nat.lt_of_lt_of_le hk h.size) hn).trans (h.block k hk hn)⟩
theorem own_shrink {w : World} {base g n k cap : Nat} {xs : List Value} (h : w.ownsRow base 36 4 (.slice (some ⟨g, 0, none⟩) n cap) n xs) (hk : k ≤ n) : w.ownsRow base 36 4 (.slice (some ⟨g, 0, none⟩) k cap) k (xs.take (k * 4)) := by
  obtain ⟨h1, h2⟩ := h
  rcases h2 with ⟨h', _⟩ | ⟨g', cap', cur, h', hb, hh, hnc, hcm, hcs, hct⟩
  · simp at h'
  · simp only [Value.slice.injEq, Option.some.injEq, Addr.mk.injEq, and_true, true_and] at h'
    obtain ⟨rfl, rfl⟩ := h'
    refine ⟨by rw [List.length_take, h1]; omega, .inr ⟨g, cap, cur, rfl, hb, hh, by omega, hcm, hcs, ?_⟩⟩
    rw [← hct, List.take_take, Nat.min_eq_left (by omega)]
theorem own_setCells (base g n cap : Nat) : ∀ (vs : List Value) (o : Nat) (w : World) (xs : List Value), w.ownsRow base 36 4 (.slice (some ⟨g, 0, none⟩) n cap) n xs → ∃ xs', (w.setCells g o vs).ownsRow base 36 4 (.slice (some ⟨g, 0, none⟩) n cap) n xs' ∧ xs'.take o = xs.take o ∧ w.grownBy (w.setCells g o vs) (some g)
  | [], o, w, xs, h => ⟨xs, h, rfl, World.grownBy.refl _ _⟩
  | v :: r, o, w, xs, h => by
    obtain ⟨xs', h1, h2, h3⟩ := own_setCells base g n cap r (o + 1) _ _ (h.stored o v).1
    refine ⟨xs', h1, ?_, grownBy_trans (h.stored o v).2 h3⟩
    have e1 : xs'.take o = (xs'.take (o + 1)).take o := by rw [List.take_take, Nat.min_eq_left (by omega)]
    rw [e1, h2, List.take_take, Nat.min_eq_left (by omega), List.take_set_of_le (Nat.le_refl _)]
theorem zeroCells_one (n : Nat) : ∀ v ∈ (Builtin.zeroCells (Value.agg #[.int .i64 0, .int .i64 0, .int .i64 0, .string ⟨#[]⟩]).cells n).toList, v.oneCell' = true := by
  intro v hv
  simp only [Builtin.zeroCells, Value.cells, Array.toList_map, List.mem_map] at hv
  obtain ⟨i, _, rfl⟩ := hv
  have : i % 4 < 4 := Nat.mod_lt _ (by decide)
  rcases h : i % 4 with _ | _ | _ | _ | t
  · simp; rfl
  · simp; rfl
  · simp; rfl
  · simp; rfl
  · omega
end Go.Proofs.Ytjfciokpnhnhbaa
