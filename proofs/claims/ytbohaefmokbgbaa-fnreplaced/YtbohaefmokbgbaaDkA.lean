/-
  Files as plain data, and how lists of them lie in memory. No condition.
-/
import Derived.Test.YtbohaefmokbgbaaBase
import Derived.Laws.AppendOwn
import Derived.Laws.CopyOwn
import Derived.Deep.AppendLies
namespace Go.Proofs.Ytbohaefmokbgbaa
open Go.RowKit
set_option linter.unusedVariables false

theorem ret_val {a b : Value} (h : a = b) : Ending.returned a = .returned b := by rw [h]
theorem cellN {w : World} {b i : Nat} {cs : Array Value} {t : TypeId} (h : w.heap[b]? = some (.cells cs t (0, 0))) : w.cell? ⟨b, i, none⟩ = cs[i]? := by simp [World.cell?, h]
theorem frozN {w : World} {b i : Nat} {cs : Array Value} {t : TypeId} (h : w.heap[b]? = some (.cells cs t (0, 0))) : w.frozen? ⟨b, i, none⟩ = false := by simp [World.frozen?, h]
theorem add_at (b o j : Nat) : (⟨b, o, none⟩ : Addr).add j = ⟨b, o + j, none⟩ := by unfold Addr.add; split <;> simp_all
theorem ownsRow_kept {w w' : World} {base : Nat} {e : TypeId} {size : Nat} {v : Value} {n : Nat} {xs : List Value} (h : w.ownsRow base e size v n xs) (he : ∀ k, v.ownBlock = some k → w'.heap[k]? = w.heap[k]?) : w'.ownsRow base e size v n xs := by
  obtain ⟨h1, h2⟩ := h
  refine ⟨h1, ?_⟩
  rcases h2 with h2 | ⟨g, cap, cur, hv, hg, hh, r⟩
  · exact Or.inl h2
  · exact Or.inr ⟨g, cap, cur, hv, hg, (he g (by rw [hv]; rfl)).trans hh, r⟩
theorem ownsRow_base {w : World} {base base' : Nat} {e : TypeId} {size : Nat} {v : Value} {n : Nat} {xs : List Value} (h : w.ownsRow base e size v n xs) (hb : base' ≤ base) : w.ownsRow base' e size v n xs := by
  obtain ⟨h1, h2⟩ := h
  refine ⟨h1, ?_⟩
  rcases h2 with h2 | ⟨g, cap, cur, hv, hg, r⟩
  · exact Or.inl h2
  · exact Or.inr ⟨g, cap, cur, hv, by omega, r⟩

/-- a file as plain data -/
structure Fl where
  n : ByteArray
  d : ByteArray
def flZ : Fl := ⟨⟨#[]⟩, ⟨#[]⟩⟩
def encF (x : Fl) : List Value := [.string x.n, .string x.d]
def cellsF (L : List Fl) : List Value := L.flatMap encF
theorem cellsF_nil : cellsF [] = [] := rfl
theorem cellsF_cons (x : Fl) (L : List Fl) : cellsF (x :: L) = encF x ++ cellsF L := by unfold cellsF; simp
theorem cellsF_append (L M : List Fl) : cellsF (L ++ M) = cellsF L ++ cellsF M := by unfold cellsF; simp
theorem cellsF_one (x : Fl) : cellsF [x] = [.string x.n, .string x.d] := by unfold cellsF encF; simp
theorem cellsF_snoc (L : List Fl) (x : Fl) : cellsF L ++ [.string x.n, .string x.d] = cellsF (L ++ [x]) := by rw [cellsF_append, cellsF_one]
theorem cellsF_len : ∀ L : List Fl, (cellsF L).length = L.length * 2
  | [] => rfl
  | x :: L => by
    rw [cellsF_cons, List.length_append, cellsF_len L]
    show 2 + L.length * 2 = (L.length + 1) * 2
    omega
theorem cellsF_at : ∀ (L : List Fl) (i t : Nat), t < 2 → i < L.length → (cellsF L)[i * 2 + t]? = (encF (L.getD i flZ))[t]?
  | [], i, t, _, h => absurd h (Nat.not_lt_zero _)
  | x :: L, 0, t, ht, _ => by
    rw [cellsF_cons, Nat.zero_mul, Nat.zero_add, List.getElem?_append_left (by show t < 2; exact ht)]
    rfl
  | x :: L, i + 1, t, ht, h => by
    rw [cellsF_cons, List.getElem?_append_right (by show 2 ≤ _; omega)]
    have e : (i + 1) * 2 + t - (encF x).length = i * 2 + t := by show (i + 1) * 2 + t - 2 = _; omega
    rw [e, cellsF_at L i t ht (by simpa using h)]
    simp
theorem oneF (L : List Fl) : ∀ u ∈ cellsF L, u.oneCell' = true := by
  intro u hu
  unfold cellsF at hu
  obtain ⟨x, _, hx⟩ := List.mem_flatMap.1 hu
  simp [encF] at hx
  rcases hx with rfl | rfl <;> rfl

/-- the file x lies at place o of block b -/
structure FlAt (w : World) (b o : Nat) (x : Fl) : Prop where
  c0 : w.cell? ⟨b, o, none⟩ = some (.string x.n)
  c1 : w.cell? ⟨b, o + 1, none⟩ = some (.string x.d)
theorem FlAt.below {w w' : World} {b o : Nat} {x : Fl} (h : FlAt w b o x) (hB : Below w.heap.size w w') : FlAt w' b o x :=
  ⟨(hB.cell (p := ⟨b, o, none⟩) (cell_lt h.c0)).trans h.c0, (hB.cell (p := ⟨b, o + 1, none⟩) (cell_lt h.c0)).trans h.c1⟩
theorem FlAt.kept {w w' : World} {b o : Nat} {x : Fl} (h : FlAt w b o x) (he : w'.heap[b]? = w.heap[b]?) : FlAt w' b o x :=
  ⟨(World.cell?_of_block he).trans h.c0, (World.cell?_of_block he).trans h.c1⟩
def LiesF (w : World) (b off : Nat) (L : List Fl) : Prop := ∀ i, i < L.length → FlAt w b (off + i * 2) (L.getD i flZ)
theorem LiesF.news {w : World} {b off : Nat} {L : List Fl} (h : LiesF w b off L) : ∀ j u, (cellsF L)[j]? = some u → w.cell? ((⟨b, off, none⟩ : Addr).add j) = some u := by
  intro j u hu
  have hj : j < L.length * 2 := by rw [← cellsF_len]; exact (List.getElem?_eq_some_iff.1 hu).1
  obtain ⟨i, t, ht, rfl⟩ : ∃ i t, t < 2 ∧ j = i * 2 + t := ⟨j / 2, j % 2, Nat.mod_lt _ (by decide), by omega⟩
  rw [cellsF_at L i t ht (by omega)] at hu
  rw [add_at, ← Nat.add_assoc]
  obtain ⟨c0, c1⟩ := h i (by omega)
  rcases t with _ | _ | t
  · rw [Nat.add_zero, c0]; exact hu
  · rw [c1]; exact hu
  · omega

/-- a slice that reads as the files L -/
def RdF (w : World) (v : Value) (L : List Fl) : Prop := ∃ a cap, v = .slice a L.length cap ∧ L.length ≤ cap ∧ cap ≤ 9223372036854775807 ∧ (0 < L.length → ∃ b off, a = some ⟨b, off, none⟩ ∧ b < w.heap.size ∧ LiesF w b off L)
theorem RdF.below {w w' : World} {v : Value} {L : List Fl} (h : RdF w v L) (hB : Below w.heap.size w w') : RdF w' v L := by
  obtain ⟨a, cap, e, h1, h2, h3⟩ := h
  refine ⟨a, cap, e, h1, h2, fun hp => ?_⟩
  obtain ⟨b, off, e, hb, hc⟩ := h3 hp
  exact ⟨b, off, e, Nat.lt_of_lt_of_le hb hB.size, fun i hi => (hc i hi).below hB⟩
theorem RdF.kept {w w' : World} {v : Value} {L : List Fl} (h : RdF w v L) (hs : w.heap.size ≤ w'.heap.size) (he : ∀ b off n cap, v = .slice (some ⟨b, off, none⟩) n cap → w'.heap[b]? = w.heap[b]?) : RdF w' v L := by
  obtain ⟨a, cap, e, h1, h2, h3⟩ := h
  refine ⟨a, cap, e, h1, h2, fun hp => ?_⟩
  obtain ⟨b, off, e', hb, hc⟩ := h3 hp
  exact ⟨b, off, e', Nat.lt_of_lt_of_le hb hs, fun i hi => (hc i hi).kept (he b off _ _ (by rw [e, e']))⟩
/-- a slice at or above base, in memory of its own, that holds the files L -/
def OwnF (w : World) (base : Nat) (v : Value) (L : List Fl) : Prop := w.ownsRow base 68 2 v L.length (cellsF L)
theorem OwnF.below {w w' : World} {base : Nat} {v : Value} {L : List Fl} (h : OwnF w base v L) (hB : Below w.heap.size w w') : OwnF w' base v L := ownsRow_below h hB
theorem OwnF.base {w : World} {base base' : Nat} {v : Value} {L : List Fl} (h : OwnF w base v L) (hb : base' ≤ base) : OwnF w base' v L := ownsRow_base h hb
theorem OwnF.nil (w : World) (base : Nat) : OwnF w base (.slice none 0 0) [] := ⟨rfl, .inl ⟨rfl, rfl⟩⟩
theorem OwnF.cases {w : World} {base : Nat} {v : Value} {L : List Fl} (h : OwnF w base v L) : (L = [] ∧ v = .slice none 0 0) ∨ ∃ g cap, v = .slice (some ⟨g, 0, none⟩) L.length cap ∧ base ≤ g ∧ g < w.heap.size ∧ L.length ≤ cap ∧ cap ≤ 9223372036854775807 ∧ LiesF w g 0 L := by
  rcases h.2 with ⟨h', h2⟩ | ⟨g, cap, cur, hv, hg, hh, hnc, hcm, _⟩
  · left
    refine ⟨?_, h'⟩
    have := cellsF_len L
    rw [h2] at this
    exact List.length_eq_zero_iff.1 (by simp at this; omega)
  · right
    unfold maxLen at hcm
    refine ⟨g, cap, hv, hg, lt_of_block hh, hnc, by omega, fun i hi => ?_⟩
    rw [hv] at h
    have c : ∀ t, t < 2 → w.cell? ⟨g, i * 2 + t, none⟩ = (encF (L.getD i flZ))[t]? := fun t ht => by
      rw [World.ownsRow.cellAt h _ (by omega), cellsF_at L i t ht hi]
    refine ⟨?_, ?_⟩
    · rw [Nat.zero_add]; exact c 0 (by omega)
    · rw [Nat.zero_add]; exact c 1 (by omega)
theorem OwnF.rd {w : World} {base : Nat} {v : Value} {L : List Fl} (h : OwnF w base v L) : RdF w v L := by
  rcases h.cases with ⟨rfl, rfl⟩ | ⟨g, cap, rfl, _, hg, h1, h2, hl⟩
  · exact ⟨none, 0, rfl, Nat.le_refl _, by omega, fun h => absurd h (Nat.lt_irrefl _)⟩
  · exact ⟨_, cap, rfl, h1, h2, fun _ => ⟨g, 0, rfl, hg, hl⟩⟩
theorem infoF : (Try.prog.info? 68).map (fun i => (i.zero, i.size, i.bytes)) = some (some (.agg #[.string ⟨#[]⟩, .string ⟨#[]⟩]), 2, 32) := by kernel_rfl
theorem infoF2 : (Try.prog.info? 68).map (·.size) = some 2 := by kernel_rfl
end Go.Proofs.Ytbohaefmokbgbaa
