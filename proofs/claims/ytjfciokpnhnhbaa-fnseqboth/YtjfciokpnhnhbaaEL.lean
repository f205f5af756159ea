/-
  Elements of four cells as lists: how a list lies in memory, and slices that the call owns. No condition.
-/
import Derived.Test.YtjfciokpnhnhbaaEv
import Derived.Laws.AppendOwn
import Derived.Deep.AppendLies
namespace Go.Proofs.Ytjfciokpnhnhbaa
open Go.RowKit
set_option linter.unusedVariables false

def evZ : Ev := ⟨0, 0, 0, ⟨#[]⟩⟩
/-- the four cells of an element -/
def enc4 (x : Ev) : List Value := [.int .i64 x.a, .int .i64 x.b, .int .i64 x.c, .string x.d]
/-- the cells of a list of elements -/
def cellsL (L : List Ev) : List Value := L.flatMap enc4
theorem cellsL_nil : cellsL [] = [] := rfl
theorem cellsL_cons (x : Ev) (L : List Ev) : cellsL (x :: L) = enc4 x ++ cellsL L := by unfold cellsL; simp
theorem cellsL_append (L M : List Ev) : cellsL (L ++ M) = cellsL L ++ cellsL M := by unfold cellsL; simp
theorem cellsL_one (x : Ev) : cellsL [x] = enc4 x := by unfold cellsL; simp
theorem cellsL_len : ∀ L : List Ev, (cellsL L).length = L.length * 4
  | [] => rfl
  | x :: L => by
    rw [cellsL_cons, List.length_append, cellsL_len L]
    show 4 + L.length * 4 = (L.length + 1) * 4
    omega
theorem cellsL_at : ∀ (L : List Ev) (i t : Nat), t < 4 → i < L.length → (cellsL L)[i * 4 + t]? = (enc4 (L.getD i evZ))[t]?
  | [], i, t, _, h => absurd h (Nat.not_lt_zero _)
  | x :: L, 0, t, ht, _ => by
    rw [cellsL_cons, Nat.zero_mul, Nat.zero_add, List.getElem?_append_left (by show t < 4; exact ht)]
    rfl
  | x :: L, i + 1, t, ht, h => by
    rw [cellsL_cons, List.getElem?_append_right (by show 4 ≤ _; omega)]
    have e : (i + 1) * 4 + t - (enc4 x).length = i * 4 + t := by show (i + 1) * 4 + t - 4 = _; omega
    rw [e, cellsL_at L i t ht (by simpa using h)]
    simp
theorem oneL (L : List Ev) : ∀ u ∈ cellsL L, u.oneCell' = true := by
  intro u hu
  unfold cellsL at hu
  obtain ⟨x, _, hx⟩ := List.mem_flatMap.1 hu
  simp [enc4] at hx
  rcases hx with rfl | rfl | rfl | rfl <;> rfl
theorem add_at (b o j : Nat) : (⟨b, o, none⟩ : Addr).add j = ⟨b, o + j, none⟩ := by unfold Addr.add; split <;> simp_all

/-- the elements of L lie from place off of block b on -/
def Lies (w : World) (b off : Nat) (L : List Ev) : Prop := ∀ i, i < L.length → EvAt w b (off + i * 4) (L.getD i evZ)
theorem Lies.drop {w : World} {b off : Nat} {L : List Ev} (h : Lies w b off L) (k : Nat) : Lies w b (off + k * 4) (L.drop k) := by
  intro i hi
  rw [List.length_drop] at hi
  have := h (k + i) (by omega)
  have e : off + k * 4 + i * 4 = off + (k + i) * 4 := by omega
  rw [e]
  have e2 : (L.drop k).getD i evZ = L.getD (k + i) evZ := by simp [List.getD_eq_getElem?_getD, List.getElem?_drop]
  rw [e2]; exact this
theorem Lies.take {w : World} {b off : Nat} {L : List Ev} (h : Lies w b off L) (k : Nat) : Lies w b off (L.take k) := by
  intro i hi
  rw [List.length_take] at hi
  have e2 : (L.take k).getD i evZ = L.getD i evZ := by simp [List.getD_eq_getElem?_getD, show i < k by omega]
  rw [e2]; exact h i (by omega)
theorem Lies.news {w : World} {b off : Nat} {L : List Ev} (h : Lies w b off L) : ∀ j u, (cellsL L)[j]? = some u → w.cell? ((⟨b, off, none⟩ : Addr).add j) = some u := by
  intro j u hu
  have hj : j < L.length * 4 := by rw [← cellsL_len]; exact (List.getElem?_eq_some_iff.1 hu).1
  obtain ⟨i, t, ht, rfl⟩ : ∃ i t, t < 4 ∧ j = i * 4 + t := ⟨j / 4, j % 4, Nat.mod_lt _ (by decide), by omega⟩
  rw [cellsL_at L i t ht (by omega)] at hu
  rw [add_at, ← Nat.add_assoc]
  obtain ⟨c0, c1, c2, c3⟩ := h i (by omega)
  rcases t with _ | _ | _ | _ | t
  · rw [Nat.add_zero, c0]; exact hu
  · rw [c1]; exact hu
  · rw [c2]; exact hu
  · rw [c3]; exact hu
  · omega
theorem Lies.grow {n : Nat} {w w' : World} {b off : Nat} {L : List Ev} (h : Lies w b off L) (hb : b < n) (hB : Below n w w') : Lies w' b off L := fun i hi => (h i hi).grow hb hB
theorem Lies.evs {w : World} {b off cap : Nat} {L : List Ev} (h : Lies w b off L) (hb : b < w.heap.size) (hl : L.length ≤ cap) (hc : cap ≤ 9223372036854775807) : IsEvs w (some ⟨b, off, none⟩) L.length cap (fun i => L.getD i evZ) :=
  ⟨hl, hc, fun _ => ⟨b, off, rfl, hb, h⟩⟩

/-- a slice that is not nil, laid at or above base, that holds the elements L -/
def OwnE (w : World) (base g cap : Nat) (L : List Ev) : Prop := w.ownsRow base 36 4 (.slice (some ⟨g, 0, none⟩) L.length cap) L.length (cellsL L)
theorem OwnE.below {w w' : World} {base g cap : Nat} {L : List Ev} (h : OwnE w base g cap L) (hB : Below w.heap.size w w') : OwnE w' base g cap L := ownsRow_below h hB
theorem OwnE.lies {w : World} {base g cap : Nat} {L : List Ev} (h : OwnE w base g cap L) : Lies w g 0 L ∧ g < w.heap.size ∧ base ≤ g := by
  refine ⟨fun i hi => ?_, own_live h, (h.lt g rfl).1⟩
  have c : ∀ t, t < 4 → w.cell? ⟨g, i * 4 + t, none⟩ = (enc4 (L.getD i evZ))[t]? := fun t ht => by
    rw [h.cellAt _ (by omega), cellsL_at L i t ht hi]
  refine ⟨?_, ?_, ?_, ?_⟩
  · rw [Nat.zero_add]; exact c 0 (by omega)
  · rw [Nat.zero_add]; exact c 1 (by omega)
  · rw [Nat.zero_add]; exact c 2 (by omega)
  · rw [Nat.zero_add]; exact c 3 (by omega)
theorem OwnE.caps {w : World} {base g cap : Nat} {L : List Ev} (h : OwnE w base g cap L) : L.length ≤ cap ∧ cap ≤ 9223372036854775807 := by
  rcases h.2 with ⟨h', _⟩ | ⟨g', cap', cur, h', _, _, hnc, hcm, _⟩
  · simp at h'
  · simp only [Value.slice.injEq, Option.some.injEq, Addr.mk.injEq, and_true, true_and] at h'
    obtain ⟨rfl, rfl⟩ := h'
    unfold maxLen at hcm
    exact ⟨hnc, by omega⟩
theorem OwnE.evs {w : World} {base g cap : Nat} {L : List Ev} (h : OwnE w base g cap L) : IsEvs w (some ⟨g, 0, none⟩) L.length cap (fun i => L.getD i evZ) :=
  h.lies.1.evs h.lies.2.1 h.caps.1 h.caps.2
theorem OwnE.base {w : World} {base base' g cap : Nat} {L : List Ev} (h : OwnE w base g cap L) (hb : base' ≤ base) : OwnE w base' g cap L := by
  obtain ⟨h1, h2⟩ := h
  refine ⟨h1, ?_⟩
  rcases h2 with h2 | ⟨g', cap', cur, h', hg, r⟩
  · exact .inl h2
  · exact .inr ⟨g', cap', cur, h', by omega, r⟩

theorem own_form {w : World} {base : Nat} {v : Value} {n : Nat} {L : List Ev} {xs : List Value} (h : w.ownsRow base 36 4 v n xs) (hn : n = L.length) (hx : xs = cellsL L) (hv : v ≠ .slice none 0 0) : ∃ g cap, v = .slice (some ⟨g, 0, none⟩) L.length cap ∧ OwnE w base g cap L := by
  subst hn
  subst hx
  rcases h.2 with ⟨h', _⟩ | ⟨g, cap, cur, rfl, _⟩
  · exact absurd h' hv
  · exact ⟨g, cap, rfl, h⟩
theorem own_form2 {w : World} {base g n cap : Nat} {L : List Ev} (h : OwnE w base g cap L) (hn : L.length = n) : w.ownsRow base 36 4 (.slice (some ⟨g, 0, none⟩) n cap) n (cellsL L) := by
  subst hn; exact h

/-- a slice that came in, as a list -/
def listD (D : Nat → Ev) (n : Nat) : List Ev := (List.range n).map D
theorem listD_len (D : Nat → Ev) (n : Nat) : (listD D n).length = n := by unfold listD; simp
theorem listD_at (D : Nat → Ev) (n i : Nat) (h : i < n) : (listD D n).getD i evZ = D i := by unfold listD; simp [h]
theorem listD_getD (L : List Ev) : listD (fun i => L.getD i evZ) L.length = L := by
  apply List.ext_getElem?
  intro i
  unfold listD
  by_cases h : i < L.length
  · simp [h]
  · simp [h]
theorem IsEvs.lies {w : World} {b off len cap : Nat} {D : Nat → Ev} (h : ∀ i, i < len → EvAt w b (off + i * 4) (D i)) : Lies w b off (listD D len) := by
  intro i hi
  rw [listD_len] at hi
  rw [listD_at D len i hi]
  exact h i hi
theorem EOwn.own {w : World} {base g len : Nat} {D : Nat → Ev} (h : EOwn w base g len D) : OwnE w base g len (listD D len) := by
  obtain ⟨xs, h1, h2⟩ := h
  have hx : xs = cellsL (listD D len) := by
    apply List.ext_getElem?
    intro j
    have hl := h1.1
    by_cases hj : j < len * 4
    · obtain ⟨i, t, ht, rfl⟩ : ∃ i t, t < 4 ∧ j = i * 4 + t := ⟨j / 4, j % 4, Nat.mod_lt _ (by decide), by omega⟩
      rw [cellsL_at _ i t ht (by rw [listD_len]; omega), listD_at D len i (by omega)]
      obtain ⟨g0, g1, g2, g3⟩ := h2 i (by omega)
      rcases t with _ | _ | _ | _ | t
      · exact g0
      · exact g1
      · exact g2
      · exact g3
      · omega
    · rw [List.getElem?_eq_none (by omega), List.getElem?_eq_none (by rw [cellsL_len, listD_len]; omega)]
  unfold OwnE
  rw [listD_len, ← hx]
  exact h1
end Go.Proofs.Ytjfciokpnhnhbaa
