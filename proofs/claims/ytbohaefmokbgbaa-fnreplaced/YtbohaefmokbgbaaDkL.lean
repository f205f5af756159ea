/-
  Plain facts on files behind ops; disks as plain data. No condition.
-/
import Derived.Test.YtbohaefmokbgbaaDkD
namespace Go.Proofs.Ytbohaefmokbgbaa
open Go.RowKit
set_option linter.unusedVariables false

theorem mem_putfold (s d : ByteArray) : ∀ (M A : List Fl) (b : Bool) (f : Fl), f ∈ (M.foldl (putS s d) (A, b)).1 → f ∈ A ∨ f ∈ M ∨ f = ⟨s, d⟩
  | [], A, b, f, h => Or.inl h
  | x :: M, A, b, f, h => by
    rw [List.foldl_cons] at h
    have : (putS s d (A, b) x).1 = A ∨ (putS s d (A, b) x).1 = A ++ [⟨s, d⟩] ∨ (putS s d (A, b) x).1 = A ++ [⟨s, d⟩] ++ [x] ∨ (putS s d (A, b) x).1 = A ++ [x] := by
      unfold putS
      simp only
      repeat' split
      all_goals simp
    have ih := mem_putfold s d M (putS s d (A, b) x).1 (putS s d (A, b) x).2 f h
    rcases ih with h1 | h1 | h1
    · rcases this with e | e | e | e <;> rw [e] at h1
      · exact Or.inl h1
      · simp only [List.mem_append, List.mem_singleton] at h1
        rcases h1 with h1 | h1
        · exact Or.inl h1
        · exact Or.inr (Or.inr h1)
      · simp only [List.mem_append, List.mem_singleton] at h1
        rcases h1 with (h1 | h1) | h1
        · exact Or.inl h1
        · exact Or.inr (Or.inr h1)
        · exact Or.inr (Or.inl (by rw [h1]; exact List.mem_cons_self))
      · simp only [List.mem_append, List.mem_singleton] at h1
        rcases h1 with h1 | h1
        · exact Or.inl h1
        · exact Or.inr (Or.inl (by rw [h1]; exact List.mem_cons_self))
    · exact Or.inr (Or.inl (List.mem_cons_of_mem _ h1))
    · exact Or.inr (Or.inr h1)
theorem mem_putF {L : List Fl} {s d : ByteArray} {f : Fl} (h : f ∈ putF L s d) : f ∈ L ∨ f = ⟨s, d⟩ := by
  have key : ∀ g, g ∈ (putTo L s d L.length).1 → g ∈ L ∨ g = ⟨s, d⟩ := fun g hg => by
    unfold putTo at hg
    rw [List.take_length] at hg
    rcases mem_putfold s d L [] false g hg with h | h | h
    · cases h
    · exact Or.inl h
    · exact Or.inr h
  unfold putF at h
  split at h
  · exact key f h
  · rcases List.mem_append.1 h with h | h
    · exact key f h
    · exact Or.inr (List.mem_singleton.1 h)
theorem tot_append (A B : List Fl) : tot (A ++ B) = tot A + tot B := by unfold tot; rw [List.map_append, List.sum_append]
theorem tot_one (f : Fl) : tot [f] = f.d.size := by unfold tot; simp
theorem tot_cons (f : Fl) (A : List Fl) : tot (f :: A) = f.d.size + tot A := by unfold tot; simp
theorem tot_mem {f : Fl} : ∀ {L : List Fl}, f ∈ L → f.d.size ≤ tot L
  | x :: L, h => by
    rw [tot_cons]
    rcases List.mem_cons.1 h with rfl | h
    · omega
    · have := tot_mem h; omega
theorem tot_cut (L : List Fl) (s : ByteArray) : tot (cutF L s) ≤ tot L := by
  unfold cutF
  induction L with
  | nil => simp
  | cons x L ih =>
    rw [List.filter_cons, tot_cons]
    split
    · rw [tot_cons]; omega
    · omega
theorem tot_putfold (s d : ByteArray) : ∀ (M A : List Fl) (b : Bool), tot (M.foldl (putS s d) (A, b)).1 + (if (M.foldl (putS s d) (A, b)).2 = true then 0 else d.size) ≤ tot A + tot M + (if b = true then 0 else d.size)
  | [], A, b => by show tot A + (if b = true then 0 else d.size) ≤ tot A + 0 + (if b = true then 0 else d.size); omega
  | x :: M, A, b => by
    rw [List.foldl_cons]
    have ih := tot_putfold s d M (putS s d (A, b) x).1 (putS s d (A, b) x).2
    have e : ((putS s d (A, b) x).1, (putS s d (A, b) x).2) = putS s d (A, b) x := rfl
    rw [e] at ih
    refine Nat.le_trans ih ?_
    rw [tot_cons]
    have : tot (putS s d (A, b) x).1 + (if (putS s d (A, b) x).2 = true then 0 else d.size) ≤ tot A + x.d.size + (if b = true then 0 else d.size) := by
      clear ih
      have n0 : tot [] = 0 := rfl
      unfold putS
      cases b <;> cases h1 : (x.n.toList == s.toList) <;> cases h2 : lessN x.n s <;> simp [tot_append, tot_cons, n0] <;> omega
    omega
theorem tot_put (L : List Fl) (s d : ByteArray) : tot (putF L s d) ≤ tot L + d.size := by
  have h := tot_putfold s d L [] false
  have e : putTo L s d L.length = L.foldl (putS s d) ([], false) := by unfold putTo; rw [List.take_length]
  rw [← e] at h
  have h0 : tot [] = 0 := rfl
  unfold putF
  split
  · rename_i q
    rw [q] at h
    simp [h0] at h
    omega
  · rename_i q
    rw [tot_append, tot_one]
    simp [h0, q] at h
    show tot (putTo L s d L.length).1 + d.size ≤ _
    omega
theorem getF_mem {L : List Fl} {s x : ByteArray} (h : getF L s = some x) : ∃ f ∈ L, f.d = x := by
  unfold getF at h
  cases hq : L.find? (fun f => f.n.toList == s.toList) with
  | none => rw [hq] at h; cases h
  | some f =>
    rw [hq] at h
    exact ⟨f, List.mem_of_find?_eq_some hq, by simpa using h⟩
/-- what an op leaves is not much greater -/
theorem doF_small {K : List Fl} {o : Dop} {z : Nat} (hn : ∀ f ∈ K, f.n.size ≤ z) (h1 : o.n.size ≤ z) (h2 : o.t.size ≤ z) : (∀ f ∈ (doF K o).1, f.n.size ≤ z) ∧ tot (doF K o).1 ≤ 2 * tot K + o.d.size := by
  unfold doF
  by_cases hk : o.k = 1
  · rw [if_pos hk]
    refine ⟨fun f hf => ?_, ?_⟩
    · rcases mem_putF hf with h | h
      · exact hn f h
      · rw [h]; exact h1
    · refine Nat.le_trans (tot_put _ _ _) ?_
      cases hg : getF K o.n with
      | none => show tot K + o.d.size ≤ _; omega
      | some x =>
        obtain ⟨f, hf, hx⟩ := getF_mem hg
        have := tot_mem hf
        show tot K + (x ++ o.d).size ≤ _
        rw [ByteArray.size_append, ← hx]
        omega
  · rw [if_neg hk]
    cases hg : getF K o.n with
    | none => exact ⟨hn, by show tot K ≤ _; omega⟩
    | some x =>
      simp only
      obtain ⟨f0, hf0, hx⟩ := getF_mem hg
      have hm := tot_mem hf0
      have hc := tot_cut K o.n
      split
      · refine ⟨fun f hf => ?_, ?_⟩
        · rcases mem_putF hf with h | h
          · exact hn f ((List.mem_filter.1 h).1)
          · rw [h]; exact h2
        · refine Nat.le_trans (tot_put _ _ _) ?_
          rw [← hx]; omega
      · exact ⟨fun f hf => hn f ((List.mem_filter.1 hf).1), by show tot (cutF K o.n) ≤ _; omega⟩
theorem filesB_parts {L : List Fl} (h : filesB L = true) : L.length ≤ 60 ∧ tot L ≤ 200000 ∧ ∀ f ∈ L, f.n.size ≤ 100 := by
  unfold filesB at h
  simp only [Bool.and_eq_true, decide_eq_true_eq] at h
  refine ⟨h.1, h.2.2, fun f hf => ?_⟩
  obtain ⟨i, hi, e⟩ := List.getElem_of_mem hf
  have := h.2.1
  unfold flsB at this
  rw [List.all_eq_true] at this
  have := this i (List.mem_range.2 hi)
  unfold flB at this
  rw [Bool.and_eq_true] at this
  have := this.1
  rw [show L.getD i flZ = f by simp [hi, e]] at this
  unfold nmB at this
  simp only [Bool.and_eq_true, decide_eq_true_eq] at this
  exact this.2

/-- files behind ops, as long as each is of its form, finds its file and leaves right files -/
def runB : List Fl → List Dop → Option (List Fl)
  | now, [] => some now
  | now, o :: os => if (doF now o).2 && (formB o && filesB (doF now o).1) then runB (doF now o).1 os else none
theorem runB_append : ∀ (A B : List Dop) (S : List Fl), runB S (A ++ B) = (runB S A).bind fun n => runB n B
  | [], B, S => rfl
  | o :: A, B, S => by
    rw [List.cons_append, runB, runB]
    split
    · exact runB_append A B _
    · rfl
def dopZ : Dop := ⟨0, ⟨#[]⟩, ⟨#[]⟩, ⟨#[]⟩⟩
theorem runB_take {S now : List Fl} {O : List Dop} {k : Nat} (h : k < O.length) (hr : runB S (O.take k) = some now) : runB S (O.take (k + 1)) = (if (doF now (O.getD k dopZ)).2 && (formB (O.getD k dopZ) && filesB (doF now (O.getD k dopZ)).1) then some (doF now (O.getD k dopZ)).1 else none) := by
  have e : O.take (k + 1) = O.take k ++ [O.getD k dopZ] := by rw [List.take_succ_eq_append_getElem h]; simp [h]
  rw [e, runB_append, hr]
  rfl
theorem runB_none {S : List Fl} {O : List Dop} {k : Nat} (hr : runB S (O.take k) = none) : runB S O = none := by
  rw [← List.take_append_drop k O, runB_append, hr]
  rfl
/-- a right disk -/
def diskB (L S : List Fl) (O : List Dop) : Bool := filesB L && (filesB S && (decide (O.length ≤ 200) && (match runB S O with | some n => sameF n L | none => false)))

/-- a slice that reads as the ops O -/
def RdO (w : World) (v : Value) (O : List Dop) : Prop := ∃ a cap, v = .slice a O.length cap ∧ O.length ≤ cap ∧ cap ≤ 9223372036854775807 ∧ (0 < O.length → ∃ b off, a = some ⟨b, off, none⟩ ∧ b < w.heap.size ∧ ∀ i, i < O.length → ∀ t, t < 4 → w.cell? ⟨b, off + i * 4 + t, none⟩ = (encO (O.getD i dopZ))[t]?)
theorem RdO.below {w w' : World} {v : Value} {O : List Dop} (h : RdO w v O) (hB : Below w.heap.size w w') : RdO w' v O := by
  obtain ⟨a, cap, e, h1, h2, h3⟩ := h
  refine ⟨a, cap, e, h1, h2, fun hp => ?_⟩
  obtain ⟨b, off, e, hb, hc⟩ := h3 hp
  exact ⟨b, off, e, Nat.lt_of_lt_of_le hb hB.size, fun i hi t ht => (hB.cell (p := ⟨b, off + i * 4 + t, none⟩) hb).trans (hc i hi t ht)⟩
/-- small enough for the model's bounds -/
structure SmallD (L S : List Fl) (O : List Dop) : Prop where
  l1 : tot L ≤ 100000000
  s1 : tot S ≤ 100000000
  l2 : ∀ f ∈ L, f.n.size ≤ 100000000
  s2 : ∀ f ∈ S, f.n.size ≤ 100000000
  o1 : ∀ o ∈ O, o.n.size ≤ 100000000 ∧ o.t.size ≤ 100000000 ∧ o.d.size ≤ 100000000
theorem small_at {L : List Fl} {z z' : Nat} (h : ∀ f ∈ L, f.n.size ≤ z) (hz : z ≤ z') : ∀ k, k < L.length → (L.getD k flZ).n.size ≤ z' := fun k hk => Nat.le_trans (h _ (by simp [hk])) hz
end Go.Proofs.Ytbohaefmokbgbaa
