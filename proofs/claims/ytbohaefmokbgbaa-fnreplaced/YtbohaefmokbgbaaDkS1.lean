/-
  Single operations on disks, for regions that draw their order. No condition but that the slices read.
-/
import Derived.Test.YtbohaefmokbgbaaDkCl
import Derived.Test.YtbohaefmokbgbaaDkI
import Derived.Test.YtbohaefmokbgbaaRegL
import Derived.Laws.OwnMore
namespace Go.Proofs.Ytbohaefmokbgbaa
open Go.RowKit
set_option linter.unusedVariables false

def cellsO (L : List Dop) : List Value := L.flatMap fun o => (encO o).toList
theorem cellsO_cons (x : Dop) (L : List Dop) : cellsO (x :: L) = (encO x).toList ++ cellsO L := by unfold cellsO; simp
theorem cellsO_len : ∀ L : List Dop, (cellsO L).length = L.length * 4
  | [] => rfl
  | x :: L => by
    rw [cellsO_cons, List.length_append, cellsO_len L]
    show 4 + L.length * 4 = (L.length + 1) * 4
    omega
theorem cellsO_at : ∀ (L : List Dop) (i t : Nat), t < 4 → i < L.length → (cellsO L)[i * 4 + t]? = (encO (L.getD i dopZ))[t]?
  | [], i, t, _, h => absurd h (Nat.not_lt_zero _)
  | x :: L, 0, t, ht, _ => by
    rw [cellsO_cons, Nat.zero_mul, Nat.zero_add, List.getElem?_append_left (by show t < 4; exact ht)]
    simp
  | x :: L, i + 1, t, ht, h => by
    rw [cellsO_cons, List.getElem?_append_right (by show 4 ≤ _; omega)]
    have e : (i + 1) * 4 + t - (encO x).toList.length = i * 4 + t := by show (i + 1) * 4 + t - 4 = _; omega
    rw [e, cellsO_at L i t ht (by simpa using h)]
    simp
theorem oneO (L : List Dop) : ∀ u ∈ cellsO L, u.oneCell' = true := by
  intro u hu
  unfold cellsO at hu
  obtain ⟨x, _, hx⟩ := List.mem_flatMap.1 hu
  simp [encO] at hx
  rcases hx with rfl | rfl | rfl | rfl <;> rfl
theorem newsO {w : World} {b off : Nat} {L : List Dop} (h : ∀ i, i < L.length → ∀ t, t < 4 → w.cell? ⟨b, off + i * 4 + t, none⟩ = (encO (L.getD i dopZ))[t]?) : ∀ j u, (cellsO L)[j]? = some u → w.cell? ((⟨b, off, none⟩ : Addr).add j) = some u := by
  intro j u hu
  have hj : j < L.length * 4 := by rw [← cellsO_len]; exact (List.getElem?_eq_some_iff.1 hu).1
  obtain ⟨i, t, ht, rfl⟩ : ∃ i t, t < 4 ∧ j = i * 4 + t := ⟨j / 4, j % 4, Nat.mod_lt _ (by decide), by omega⟩
  rw [cellsO_at L i t ht (by omega)] at hu
  rw [add_at, ← Nat.add_assoc, h i (by omega) t ht]
  exact hu
theorem rdO_of {w : World} {base : Nat} {v : Value} {L : List Dop} (h : w.ownsRow base 49 4 v L.length (cellsO L)) : RdO w v L := by
  rcases h.2 with ⟨rfl, h2⟩ | ⟨g, cap, cur, hv, hg, hh, hnc, hcm, _⟩
  · have : L = [] := List.length_eq_zero_iff.1 h2
    subst this
    exact ⟨none, 0, rfl, Nat.le_refl _, by omega, fun h => absurd h (Nat.lt_irrefl _)⟩
  · unfold maxLen at hcm
    refine ⟨_, cap, hv, hnc, by omega, fun _ => ⟨g, 0, rfl, lt_of_block hh, fun i hi t ht => ?_⟩⟩
    rw [hv] at h
    rw [Nat.zero_add, World.ownsRow.cellAt h _ (by omega), cellsO_at L i t ht hi]

/-- Files that read, in memory of the call's own -/
def HoldF (w : World) (base : Nat) (v : Value) (L : List Fl) : Prop := RdF w v L ∧ OwA2 w base v L.length
theorem HoldF.below {w w' : World} {base : Nat} {v : Value} {L : List Fl} (h : HoldF w base v L) (hB : Below w.heap.size w w') : HoldF w' base v L := ⟨h.1.below hB, h.2.below hB⟩
theorem HoldF.base {w : World} {base base' : Nat} {v : Value} {L : List Fl} (h : HoldF w base v L) (hb : base' ≤ base) : HoldF w base' v L := ⟨h.1, h.2.base hb⟩
theorem HoldF.nil (w : World) (base : Nat) : HoldF w base (.slice none 0 0) [] := ⟨⟨none, 0, rfl, Nat.le_refl _, by omega, fun h => absurd h (Nat.lt_irrefl _)⟩, OwA2.nil _ _⟩
theorem HoldF.kept {w w' : World} {base : Nat} {v : Value} {L : List Fl} (h : HoldF w base v L) (hs : w.heap.size ≤ w'.heap.size) (he : ∀ k, base ≤ k → k < w.heap.size → w'.heap[k]? = w.heap[k]?) : HoldF w' base v L :=
  ⟨h.1.own h.2 hs (fun k hk => he k (h.2.lt k hk).1 (h.2.lt k hk).2), h.2.blk (fun k hk => he k (h.2.lt k hk).1 (h.2.lt k hk).2)⟩

/-- onto an empty slice of one's own -/
theorem app0F (w : World) (base : Nat) (ty : TypeId) (g : Nat) (x : Value) (L : List Fl) (hg : w.heap[g]? = some (.cells #[] 68 (0, 0))) (hb : base ≤ g) (hx : RdF w x L) (hL : L.length ≤ 1048576) :
    ∃ v' w', (Builtin.append_ #[24, 24] ty #[.slice (some ⟨g, 0, none⟩) 0 0, x]).run Try.prog w = .ok v' w' ∧ HoldF w' base v' L ∧ Below w.heap.size w w' := by
  obtain ⟨i0, hi, hz0, hz1, hz2⟩ := info_parts infoF
  have hgl := lt_of_block hg
  have hown : w.ownsRow base 68 2 (.slice (some ⟨g, 0, none⟩) 0 0) 0 [] := ⟨rfl, .inr ⟨g, 0, #[], rfl, hb, hg, Nat.le_refl _, Nat.zero_le _, rfl, rfl⟩⟩
  have hemp : HoldF w base (.slice (some ⟨g, 0, none⟩) 0 0) [] := ⟨⟨_, 0, rfl, Nat.le_refl _, by omega, fun h => absurd h (Nat.lt_irrefl _)⟩, ⟨[], hown⟩⟩
  obtain ⟨a, cap, rfl, hlc, hcm, hc⟩ := hx
  cases a with
  | none =>
    have hL0 : L = [] := by
      rcases Nat.eq_zero_or_pos L.length with h0 | h0
      · exact List.length_eq_zero_iff.1 h0
      · obtain ⟨b, off, e, _⟩ := hc h0
        cases e
    subst hL0
    refine ⟨.slice (some ⟨g, 0, none⟩) 0 0, w, ?_, hemp, Below.refl _ _⟩
    simp [Builtin.append_, run_underlying Try.underlying24, sizeOf, typeInfo, hi, Builtin.lenOf, Builtin.firstCells, storeCells]
  | some ad =>
    have hnews : ∀ j u, (cellsF L)[j]? = some u → w.cell? (ad.add j) = some u := fun j u hu => by
      have hj : j < L.length * 2 := by rw [← cellsF_len]; exact (List.getElem?_eq_some_iff.1 hu).1
      obtain ⟨b, off, e, hbs, hl⟩ := hc (by omega)
      cases e
      exact hl.news j u hu
    by_cases h0 : L.length = 0
    · have hL0 : L = [] := List.length_eq_zero_iff.1 h0
      subst hL0
      have hr := run_append_room (P := Try.prog) w 24 ty 68 i0 Try.underlying24 hi g 0 0 #[] hg ad 0 cap [] (by simp) (fun j u hu => by simp at hu) (by simp) (Nat.le_refl _) (by simp)
      refine ⟨_, _, hr, ⟨⟨_, 0, rfl, Nat.le_refl _, by omega, fun h => absurd h (Nat.lt_irrefl _)⟩, ⟨[], ⟨rfl, .inr ⟨g, 0, #[], rfl, hb, ?_, Nat.le_refl _, Nat.zero_le _, rfl, rfl⟩⟩⟩⟩, ⟨rfl, rfl, rfl, by simp [World.setRow], fun k hk => ?_⟩⟩
      · rw [setRow_heap _ _ _ _ _ _ hg]; simp
      · by_cases e : k = g
        · subst e; rw [setRow_heap _ _ _ _ _ _ hg, hg]; simp
        · exact setRow_other _ _ _ _ e
    · have h63 : 0 + L.length ≤ maxLen := by unfold maxLen; omega
      have hby : (0 + L.length) * 32 ≤ 140737488355328 := by omega
      obtain ⟨v', w', hr, h2, h3, h4⟩ := run_append_own (P := Try.prog) w base 24 ty 68 i0 (.agg #[.string ⟨#[]⟩, .string ⟨#[]⟩]) 2 32 Try.underlying24 hi hz0 hz1 hz2 rfl (by decide) (.slice (some ⟨g, 0, none⟩) 0 0) 0 [] hown ad L.length cap (cellsF L) (cellsF_len L) hnews (oneF L) h63 hby (by omega)
      have hr' := run_append_grow (P := Try.prog) w 24 ty 68 i0 (.agg #[.string ⟨#[]⟩, .string ⟨#[]⟩]) Try.underlying24 hi hz0 ⟨g, 0, none⟩ 0 0 [] (by simp) (fun j u hu => by simp at hu) ad L.length cap (cellsF L) (by rw [hz1]; exact cellsF_len L) hnews (by omega) (by omega) (growslice_fits (by omega) (by rw [hz2]; exact hby))
      rw [hr] at hr'
      have hw := Result.ok.inj hr'
      refine ⟨v', w', hr, ?_, ?_⟩
      · rw [List.nil_append, Nat.zero_add] at h2
        exact ⟨OwnF.rd h2, ⟨_, h2⟩⟩
      · rw [hw.2]
        exact ⟨rfl, rfl, rfl, by simp, fun k hk => by rw [Below.heap_alloc _ _ _ (by simpa using hk)]; rfl⟩
theorem q_app0F (ev : Operand → Value) (o : Oper) (w : World) (x y : Operand) (base g : Nat) (L : List Fl) (h : o.op = .call { callee := .builtin .append, args := #[x, y], argTypes := #[24, 24] }) (hx : ev x = .slice (some ⟨g, 0, none⟩) 0 0) (hg : w.heap[g]? = some (.cells #[] 68 (0, 0))) (hb : base ≤ g) (hy : RdF w (ev y) L) (hL : L.length ≤ 1048576) :
    ∃ v' w', (execOp ev o).run Try.prog w = .ok (.value v') w' ∧ HoldF w' base v' L ∧ Below w.heap.size w w' := by
  obtain ⟨v', w', hr, h1, h2⟩ := app0F w base o.type g (ev y) L hg hb hy hL
  refine ⟨v', w', ?_, h1, h2⟩
  simp only [execOp, h, resolve, invoke, builtin, Sem.run_bind, Sem.run_pure, Result.andThen_ok, List.map_toArray, List.map_cons, List.map_nil, hx, hr]
theorem q_madeF (ev : Operand → Value) (o : Oper) (w : World) (h : o.op = .buildSlice 24 0 #[]) : (execOp ev o).run Try.prog w = .ok (.value (.slice (some ⟨w.heap.size, 0, none⟩) 0 0)) (w.alloc (.cells #[] 68)) := by
  simp [execOp, h]
  go_simp
theorem q_loadF (ev : Operand → Value) (o : Oper) (w : World) (x : Operand) (p k : Nat) {a : Option Addr} {m c : Nat} (h : o.op = .load 24 x) (hx : ev x = .pointer (some ⟨p, k, none⟩)) (hc : w.cell? ⟨p, k, none⟩ = some (.slice a m c)) : (execOp ev o).run Try.prog w = .ok (.value (.slice a m c)) w := by
  simp [execOp, h, hx]
  go_simp

/-- DOps that read, in memory of the call's own -/
def HoldO (w : World) (base : Nat) (v : Value) (L : List Dop) : Prop := RdO w v L ∧ OwA4 w base v L.length
theorem HoldO.below {w w' : World} {base : Nat} {v : Value} {L : List Dop} (h : HoldO w base v L) (hB : Below w.heap.size w w') : HoldO w' base v L := ⟨h.1.below hB, h.2.below hB⟩
theorem HoldO.base {w : World} {base base' : Nat} {v : Value} {L : List Dop} (h : HoldO w base v L) (hb : base' ≤ base) : HoldO w base' v L := ⟨h.1, h.2.base hb⟩
theorem HoldO.nil (w : World) (base : Nat) : HoldO w base (.slice none 0 0) [] := ⟨⟨none, 0, rfl, Nat.le_refl _, by omega, fun h => absurd h (Nat.lt_irrefl _)⟩, OwA4.nil _ _⟩
theorem HoldO.kept {w w' : World} {base : Nat} {v : Value} {L : List Dop} (h : HoldO w base v L) (hs : w.heap.size ≤ w'.heap.size) (he : ∀ k, base ≤ k → k < w.heap.size → w'.heap[k]? = w.heap[k]?) : HoldO w' base v L :=
  ⟨h.1.own h.2 hs (fun k hk => he k (h.2.lt k hk).1 (h.2.lt k hk).2), h.2.blk (fun k hk => he k (h.2.lt k hk).1 (h.2.lt k hk).2)⟩

/-- onto an empty slice of one's own -/
theorem app0O (w : World) (base : Nat) (ty : TypeId) (g : Nat) (x : Value) (L : List Dop) (hg : w.heap[g]? = some (.cells #[] 49 (0, 0))) (hb : base ≤ g) (hx : RdO w x L) (hL : L.length ≤ 1048576) :
    ∃ v' w', (Builtin.append_ #[25, 25] ty #[.slice (some ⟨g, 0, none⟩) 0 0, x]).run Try.prog w = .ok v' w' ∧ HoldO w' base v' L ∧ Below w.heap.size w w' := by
  obtain ⟨i0, hi, hz0, hz1, hz2⟩ := info_parts infoDOpT
  have hgl := lt_of_block hg
  have hown : w.ownsRow base 49 4 (.slice (some ⟨g, 0, none⟩) 0 0) 0 [] := ⟨rfl, .inr ⟨g, 0, #[], rfl, hb, hg, Nat.le_refl _, Nat.zero_le _, rfl, rfl⟩⟩
  have hemp : HoldO w base (.slice (some ⟨g, 0, none⟩) 0 0) [] := ⟨⟨_, 0, rfl, Nat.le_refl _, by omega, fun h => absurd h (Nat.lt_irrefl _)⟩, ⟨[], hown⟩⟩
  obtain ⟨a, cap, rfl, hlc, hcm, hc⟩ := hx
  cases a with
  | none =>
    have hL0 : L = [] := by
      rcases Nat.eq_zero_or_pos L.length with h0 | h0
      · exact List.length_eq_zero_iff.1 h0
      · obtain ⟨b, off, e, _⟩ := hc h0
        cases e
    subst hL0
    refine ⟨.slice (some ⟨g, 0, none⟩) 0 0, w, ?_, hemp, Below.refl _ _⟩
    simp [Builtin.append_, run_underlying Try.underlying25, sizeOf, typeInfo, hi, Builtin.lenOf, Builtin.firstCells, storeCells]
  | some ad =>
    have hnews : ∀ j u, (cellsO L)[j]? = some u → w.cell? (ad.add j) = some u := fun j u hu => by
      have hj : j < L.length * 4 := by rw [← cellsO_len]; exact (List.getElem?_eq_some_iff.1 hu).1
      obtain ⟨b, off, e, hbs, hl⟩ := hc (by omega)
      cases e
      exact newsO hl j u hu
    by_cases h0 : L.length = 0
    · have hL0 : L = [] := List.length_eq_zero_iff.1 h0
      subst hL0
      have hr := run_append_room (P := Try.prog) w 25 ty 49 i0 Try.underlying25 hi g 0 0 #[] hg ad 0 cap [] (by simp) (fun j u hu => by simp at hu) (by simp) (Nat.le_refl _) (by simp)
      refine ⟨_, _, hr, ⟨⟨_, 0, rfl, Nat.le_refl _, by omega, fun h => absurd h (Nat.lt_irrefl _)⟩, ⟨[], ⟨rfl, .inr ⟨g, 0, #[], rfl, hb, ?_, Nat.le_refl _, Nat.zero_le _, rfl, rfl⟩⟩⟩⟩, ⟨rfl, rfl, rfl, by simp [World.setRow], fun k hk => ?_⟩⟩
      · rw [setRow_heap _ _ _ _ _ _ hg]; simp
      · by_cases e : k = g
        · subst e; rw [setRow_heap _ _ _ _ _ _ hg, hg]; simp
        · exact setRow_other _ _ _ _ e
    · have h63 : 0 + L.length ≤ maxLen := by unfold maxLen; omega
      have hby : (0 + L.length) * 56 ≤ 140737488355328 := by omega
      obtain ⟨v', w', hr, h2, h3, h4⟩ := run_append_own (P := Try.prog) w base 25 ty 49 i0 (.agg #[.int .i64 0, .string ⟨#[]⟩, .string ⟨#[]⟩, .string ⟨#[]⟩]) 4 56 Try.underlying25 hi hz0 hz1 hz2 rfl (by decide) (.slice (some ⟨g, 0, none⟩) 0 0) 0 [] hown ad L.length cap (cellsO L) (cellsO_len L) hnews (oneO L) h63 hby (by omega)
      have hr' := run_append_grow (P := Try.prog) w 25 ty 49 i0 (.agg #[.int .i64 0, .string ⟨#[]⟩, .string ⟨#[]⟩, .string ⟨#[]⟩]) Try.underlying25 hi hz0 ⟨g, 0, none⟩ 0 0 [] (by simp) (fun j u hu => by simp at hu) ad L.length cap (cellsO L) (by rw [hz1]; exact cellsO_len L) hnews (by omega) (by omega) (growslice_fits (by omega) (by rw [hz2]; exact hby))
      rw [hr] at hr'
      have hw := Result.ok.inj hr'
      refine ⟨v', w', hr, ?_, ?_⟩
      · rw [List.nil_append, Nat.zero_add] at h2
        exact ⟨rdO_of h2, ⟨_, h2⟩⟩
      · rw [hw.2]
        exact ⟨rfl, rfl, rfl, by simp, fun k hk => by rw [Below.heap_alloc _ _ _ (by simpa using hk)]; rfl⟩
theorem q_app0O (ev : Operand → Value) (o : Oper) (w : World) (x y : Operand) (base g : Nat) (L : List Dop) (h : o.op = .call { callee := .builtin .append, args := #[x, y], argTypes := #[25, 25] }) (hx : ev x = .slice (some ⟨g, 0, none⟩) 0 0) (hg : w.heap[g]? = some (.cells #[] 49 (0, 0))) (hb : base ≤ g) (hy : RdO w (ev y) L) (hL : L.length ≤ 1048576) :
    ∃ v' w', (execOp ev o).run Try.prog w = .ok (.value v') w' ∧ HoldO w' base v' L ∧ Below w.heap.size w w' := by
  obtain ⟨v', w', hr, h1, h2⟩ := app0O w base o.type g (ev y) L hg hb hy hL
  refine ⟨v', w', ?_, h1, h2⟩
  simp only [execOp, h, resolve, invoke, builtin, Sem.run_bind, Sem.run_pure, Result.andThen_ok, List.map_toArray, List.map_cons, List.map_nil, hx, hr]
theorem q_madeO (ev : Operand → Value) (o : Oper) (w : World) (h : o.op = .buildSlice 25 0 #[]) : (execOp ev o).run Try.prog w = .ok (.value (.slice (some ⟨w.heap.size, 0, none⟩) 0 0)) (w.alloc (.cells #[] 49)) := by
  simp [execOp, h]
  go_simp
theorem q_loadO (ev : Operand → Value) (o : Oper) (w : World) (x : Operand) (p k : Nat) {a : Option Addr} {m c : Nat} (h : o.op = .load 25 x) (hx : ev x = .pointer (some ⟨p, k, none⟩)) (hc : w.cell? ⟨p, k, none⟩ = some (.slice a m c)) : (execOp ev o).run Try.prog w = .ok (.value (.slice a m c)) w := by
  simp [execOp, h, hx]
  go_simp

theorem OwnF.hold {w : World} {base : Nat} {v : Value} {L : List Fl} (h : OwnF w base v L) : HoldF w base v L := ⟨h.rd, ⟨_, h⟩⟩
theorem q_fieldK (ev : Operand → Value) (o : Oper) (w : World) (x : Operand) (k j : Nat) (h : o.op = .fieldAddr 27 x j) (hx : ev x = .pointer (some ⟨k, 0, none⟩)) (hj : j = 0 ∨ j = 1 ∨ j = 2) : (execOp ev o).run Try.prog w = .ok (.value (.pointer (some ⟨k, j, none⟩))) w := by
  rcases hj with rfl | rfl | rfl
  · simp [execOp, h, hx]
    go_simp
  · simp [execOp, h, hx]
    go_simp
  · simp [execOp, h, hx]
    go_simp
theorem q_build2 (ev : Operand → Value) (o : Oper) (w : World) (x y : Operand) {a b : Option Addr} {i j k l : Nat} (h : o.op = .build 27 #[(0, x), (1, y)]) (hx : ev x = .slice a i j) (hy : ev y = .slice b k l) : (execOp ev o).run Try.prog w = .ok (.value (.agg #[.slice a i j, .slice b k l, .slice none 0 0])) w := by
  simp [execOp, h, hx, hy]
  go_simp
theorem q_build3 (ev : Operand → Value) (o : Oper) (w : World) (x y z : Operand) {a b c : Option Addr} {i j k l m n : Nat} (h : o.op = .build 27 #[(0, x), (1, y), (2, z)]) (hx : ev x = .slice a i j) (hy : ev y = .slice b k l) (hz : ev z = .slice c m n) : (execOp ev o).run Try.prog w = .ok (.value (.agg #[.slice a i j, .slice b k l, .slice c m n])) w := by
  simp [execOp, h, hx, hy, hz]
  go_simp
theorem q_storeD (ev : Operand → Value) (o : Oper) (w : World) (x y : Operand) (r : Nat) {a b c : Option Addr} {i j k l m n : Nat} {p : Array Value} (h : o.op = .store 27 x y) (hx : ev x = .pointer (some ⟨r, 0, none⟩)) (hy : ev y = .agg #[.slice a i j, .slice b k l, .slice c m n]) (hp : p.size = 3) (hb : w.heap[r]? = some (.cells p 27 (0, 0))) : ∃ w', (execOp ev o).run Try.prog w = .ok .skip w' ∧ w'.heap[r]? = some (.cells #[.slice a i j, .slice b k l, .slice c m n] 27 (0, 0)) ∧ (∀ q, q ≠ r → w'.heap[q]? = w.heap[q]?) ∧ w'.heap.size = w.heap.size ∧ w'.os = w.os ∧ w'.tape = w.tape ∧ w'.output = w.output := by
  obtain ⟨v0, v1, v2, rfl⟩ : ∃ v0 v1 v2, p = #[v0, v1, v2] := by
    obtain ⟨l⟩ := p
    match l, hp with
    | [v0, v1, v2], _ => exact ⟨v0, v1, v2, rfl⟩
  have e0 : w.cell? ⟨r, 0, none⟩ = some v0 := cellN hb
  have e1 : w.cell? ⟨r, 1, none⟩ = some v1 := cellN hb
  have e2 : w.cell? ⟨r, 2, none⟩ = some v2 := cellN hb
  have f0 : w.frozen? ⟨r, 0, none⟩ = false := frozN hb
  have f1 : w.frozen? ⟨r, 1, none⟩ = false := frozN hb
  have f2 : w.frozen? ⟨r, 2, none⟩ = false := frozN hb
  refine ⟨((w.setCell ⟨r, 0, none⟩ (.slice a i j)).setCell ⟨r, 1, none⟩ (.slice b k l)).setCell ⟨r, 2, none⟩ (.slice c m n), ?_, ?_, fun q hq => ?_, by simp [World.setCell], rfl, rfl, rfl⟩
  · simp [execOp, h, hx, hy]
    go_simp
  · have b1 : (w.setCell ⟨r, 0, none⟩ (.slice a i j)).heap[r]? = some (.cells #[.slice a i j, v1, v2] 27 (0, 0)) := by rw [heap_setCell_same _ _ _ _ 27 _ hb]; rfl
    have b2 : ((w.setCell ⟨r, 0, none⟩ (.slice a i j)).setCell ⟨r, 1, none⟩ (.slice b k l)).heap[r]? = some (.cells #[.slice a i j, .slice b k l, v2] 27 (0, 0)) := by rw [heap_setCell_same _ _ _ _ 27 _ b1]; rfl
    rw [heap_setCell_same _ _ _ _ 27 _ b2]
    rfl
  · rw [Below.heap_setCell _ _ _ _ hq, Below.heap_setCell _ _ _ _ hq, Below.heap_setCell _ _ _ _ hq]
theorem wpOp_runS {P : Program} {ops : Array Oper} {Q : Exit → Act → World → Prop} {i : Nat} {o : Oper} {K : Act → World → Prop} {t : Act} {w w' : World} (ho : ops[i]? = some o) (hg : Region.wanted o (yielded ops t.tmps) = true) (hrun : (execOp t.eval o).run P w = .ok .skip w') (h : K (t.put o.dst undef) w') : wpOp P ops Q i K t w := by
  refine wpOp_step ho fun K' hK => ?_
  rw [if_pos hg]
  unfold Oper.wp
  rw [hrun]
  exact hK _ _ h
theorem wpOp_storeD {ops : Array Oper} {Q : Exit → Act → World → Prop} {i' : Nat} {o : Oper} {K : Act → World → Prop} {t : Act} {w : World} (ho : ops[i']? = some o) (hg : Region.wanted o (yielded ops t.tmps) = true) (x y : Operand) (r : Nat) {a b c : Option Addr} {i j k l m n : Nat} {p : Array Value} (h : o.op = .store 27 x y) (hx : t.eval x = .pointer (some ⟨r, 0, none⟩)) (hy : t.eval y = .agg #[.slice a i j, .slice b k l, .slice c m n]) (hp : p.size = 3) (hb : w.heap[r]? = some (.cells p 27 (0, 0)))
    (hK : ∀ w', w'.heap[r]? = some (.cells #[.slice a i j, .slice b k l, .slice c m n] 27 (0, 0)) → (∀ q, q ≠ r → w'.heap[q]? = w.heap[q]?) → w'.heap.size = w.heap.size → w'.os = w.os → w'.tape = w.tape → w'.output = w.output → K (t.put o.dst undef) w') : wpOp Try.prog ops Q i' K t w := by
  obtain ⟨w', hr, h1, h2, h3, h4, h5, h6⟩ := q_storeD t.eval o w x y r h hx hy hp hb
  exact wpOp_runS ho hg hr (hK w' h1 h2 h3 h4 h5 h6)
theorem wpOp_app0F {ops : Array Oper} {Q : Exit → Act → World → Prop} {i' : Nat} {o : Oper} {K : Act → World → Prop} {t : Act} {w : World} (ho : ops[i']? = some o) (hg : Region.wanted o (yielded ops t.tmps) = true) (x y : Operand) (base g : Nat) (L : List Fl) (h : o.op = .call { callee := .builtin .append, args := #[x, y], argTypes := #[24, 24] }) (hx : t.eval x = .slice (some ⟨g, 0, none⟩) 0 0) (hgh : w.heap[g]? = some (.cells #[] 68 (0, 0))) (hb : base ≤ g) (hy : RdF w (t.eval y) L) (hL : L.length ≤ 1048576)
    (hK : ∀ v w', HoldF w' base v L → Below w.heap.size w w' → K (t.put o.dst v) w') : wpOp Try.prog ops Q i' K t w := by
  obtain ⟨v', w', hr, h1, h2⟩ := q_app0F t.eval o w x y base g L h hx hgh hb hy hL
  exact wpOp_runG ho hg hr (hK v' w' h1 h2)
theorem wpOp_app0O {ops : Array Oper} {Q : Exit → Act → World → Prop} {i' : Nat} {o : Oper} {K : Act → World → Prop} {t : Act} {w : World} (ho : ops[i']? = some o) (hg : Region.wanted o (yielded ops t.tmps) = true) (x y : Operand) (base g : Nat) (L : List Dop) (h : o.op = .call { callee := .builtin .append, args := #[x, y], argTypes := #[25, 25] }) (hx : t.eval x = .slice (some ⟨g, 0, none⟩) 0 0) (hgh : w.heap[g]? = some (.cells #[] 49 (0, 0))) (hb : base ≤ g) (hy : RdO w (t.eval y) L) (hL : L.length ≤ 1048576)
    (hK : ∀ v w', HoldO w' base v L → Below w.heap.size w w' → K (t.put o.dst v) w') : wpOp Try.prog ops Q i' K t w := by
  obtain ⟨v', w', hr, h1, h2⟩ := q_app0O t.eval o w x y base g L h hx hgh hb hy hL
  exact wpOp_runG ho hg hr (hK v' w' h1 h2)
end Go.Proofs.Ytbohaefmokbgbaa
