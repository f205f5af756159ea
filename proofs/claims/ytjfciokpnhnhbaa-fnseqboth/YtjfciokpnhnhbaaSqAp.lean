/-
  Appends and copies of slices of elements, as single operations. No condition but that the slices read.
-/
import Derived.Test.YtjfciokpnhnhbaaEVal2
import Derived.Test.YtjfciokpnhnhbaaRegU
import Derived.Laws.AppendOwn
namespace Go.Proofs.Ytjfciokpnhnhbaa
open Go.RowKit
set_option linter.unusedVariables false

theorem nilNE (n c : Nat) (w : World) : (binOp .eql 24 (.slice none n c) (.slice none 0 0)).run Try.prog w = .ok (.bool true) w := by kernel_rfl
theorem nilSE (a : Addr) (n c : Nat) (w : World) : (binOp .eql 24 (.slice (some a) n c) (.slice none 0 0)).run Try.prog w = .ok (.bool false) w := by kernel_rfl
theorem evs_news {w : World} {b off cap len : Nat} {D : Nat → Ev} (h : IsEvs w (some ⟨b, off, none⟩) len cap D) : ∀ j u, (cellsL (listD D len))[j]? = some u → w.cell? ((⟨b, off, none⟩ : Addr).add j) = some u := fun j u hu => by
  by_cases h0 : 0 < len
  · obtain ⟨b', off', e, hb, hc⟩ := h.2.2 h0
    simp only [Option.some.injEq, Addr.mk.injEq, and_true] at e
    obtain ⟨rfl, rfl⟩ := e
    exact Lies.news (IsEvs.lies (cap := cap) hc) j u hu
  · have e : listD D len = [] := by rw [show len = 0 by omega]; rfl
    rw [e] at hu
    cases hu

set_option maxRecDepth 10000 in
set_option maxHeartbeats 1000000 in
theorem cloneE_any (a : Option Addr) (len cap : Nat) (D : Nat → Ev) (w : World) (h : IsEvs w a len cap D) (hL : len ≤ 1048576) :
    Calls Try.prog 28 #[.slice a len cap] w fun e w' => ∃ u, e = .returned u ∧ OwnV w' w.heap.size u (listD D len) ∧ Below w.heap.size w w' := by
  obtain ⟨i0, hi, hz0, hz1, hz2⟩ := info_parts infoE
  cases a with
  | none =>
    have hl0 : len = 0 := by
      rcases Nat.eq_zero_or_pos len with h0 | h0
      · exact h0
      · obtain ⟨b, off, e, _⟩ := h.2.2 h0
        cases e
    have HE : Hid (listD D len = []) := by show _ = _; rw [hl0]; rfl
    have hnn := nilNE len cap
    clear h hl0
    go_enter Try.func28, Try.ntmps28
    go_wp2
    go_ret
    exact ⟨_, rfl, by rw [HE.out]; exact OwnV.nil _ _, Below.refl _ _⟩
  | some ad =>
    have HL : Hid (∀ j u, (cellsL (listD D len))[j]? = some u → (w.alloc (.cells #[] 36)).cell? (ad.add j) = some u) := fun j u hu => by
      have hj : j < len * 4 := by rw [← listD_len D len, ← cellsL_len]; exact (List.getElem?_eq_some_iff.1 hu).1
      obtain ⟨b, off, e, hbs, hl⟩ := h.2.2 (by omega)
      cases e
      exact evs_news (h.below ((Below.refl w.heap.size w).alloc (Nat.le_refl _) (.cells #[] 36))) j u hu
    have hc1 : Hid (0 + len ≤ maxLen) := by show _ ≤ _; unfold maxLen; omega
    have hc2 : Hid ((0 + len) * 40 ≤ 140737488355328) := by show _ ≤ _; omega
    clear h
    have hnn := nilSE ad len cap
    go_enter Try.func28, Try.ntmps28
    go_wp2_with (first
      | (at_builtin
         refine wpList_append_own _ rfl _ _ 24 rfl w.heap.size 36 i0 (.agg #[.int .i64 0, .int .i64 0, .int .i64 0, .string ⟨#[]⟩]) 4 40 Try.underlying24 hi hz0 hz1 hz2 rfl (by decide) _ 0 [] rfl (World.ownsRow_made w #[] 0 (Nat.le_refl _) (by decide) rfl) ad len cap (cellsL (listD D len)) rfl (by rw [cellsL_len, listD_len]) HL.out (oneL _) hc1.out hc2.out (by simp) ?_
         intro v' w3 hown hgrow hnil
         have HE : Hid (OwnV w3 w.heap.size v' (listD D len) ∧ Below w.heap.size w w3) := by
           refine ⟨?_, ((Below.refl _ w).alloc (Nat.le_refl _) _).grown hgrow (by simp) (fun x hx => by have hx' : some w.heap.size = some x := hx; cases hx'; exact Nat.le_refl _)⟩
           show w3.ownsRow _ _ _ _ _ _
           rw [listD_len]
           rw [Nat.zero_add, List.nil_append] at hown
           exact hown
         clear hown hgrow hnil))
    go_ret
    exact ⟨_, rfl, HE.out.1, HE.out.2⟩

/-- one element more -/
theorem app1E (w : World) (base : Nat) (ty : TypeId) (v : Value) (A : List Ev) (z : Ev) (g c : Nat) (hv : OwnV w base v A) (hA : A.length ≤ 1048576) (hg : w.heap[g]? = some (.cells (enc4 z).toArray 36 (0, 0))) (hb : base ≤ w.heap.size) :
    ∃ v' w', (Builtin.append_ #[24, 24] ty #[v, .slice (some ⟨g, 0, none⟩) 1 c]).run Try.prog w = .ok v' w' ∧ OwnV w' base v' (A ++ [z]) ∧ Below base w w' ∧ ∃ g' c', v' = .slice (some ⟨g', 0, none⟩) (A.length + 1) c' := by
  obtain ⟨i0, hi, hz0, hz1, hz2⟩ := info_parts infoE
  have hnews : ∀ j u, (enc4 z)[j]? = some u → w.cell? ((⟨g, 0, none⟩ : Addr).add j) = some u := fun j u hu => by
    rw [add_at, cellN hg, Nat.zero_add]
    rw [List.getElem?_toArray]
    exact hu
  have h63 : A.length + 1 ≤ maxLen := by unfold maxLen; omega
  obtain ⟨v', w', hr, h2, h3, h4⟩ := run_append_own (P := Try.prog) w base 24 ty 36 i0 (.agg #[.int .i64 0, .int .i64 0, .int .i64 0, .string ⟨#[]⟩]) 4 40 Try.underlying24 hi hz0 hz1 hz2 rfl (by decide) v A.length (cellsL A) hv ⟨g, 0, none⟩ 1 c (enc4 z) rfl hnews (by rw [← cellsL_one]; exact oneL [z]) h63 (by omega) hb
  have hown : OwnV w' base v' (A ++ [z]) := by
    unfold OwnV
    rw [cellsL_append, cellsL_one, List.length_append]
    exact h2
  refine ⟨v', w', hr, hown, (Below.refl base w).grown h3 hb (fun k hk => (World.ownsRow.lt hv k hk).1), ?_⟩
  rcases hown.cases with ⟨_, e⟩ | ⟨g', c', e, _⟩
  · simp at e
  · exact ⟨g', c', by rw [e, List.length_append]; rfl⟩
theorem wpOp_app1E {ops : Array Oper} {Q : Exit → Act → World → Prop} {i' : Nat} {o : Oper} {K : Act → World → Prop} {t : Act} {w : World} (ho : ops[i']? = some o) (hgd : Region.wanted o (yielded ops t.tmps) = true) (x y : Operand) (base g c : Nat) (A : List Ev) (z : Ev) (h : o.op = .call { callee := .builtin .append, args := #[x, y], argTypes := #[24, 24] }) (hv : OwnV w base (t.eval x) A) (hy : t.eval y = .slice (some ⟨g, 0, none⟩) 1 c) (hA : A.length ≤ 1048576) (hg : w.heap[g]? = some (.cells (enc4 z).toArray 36 (0, 0))) (hb : base ≤ w.heap.size)
    (hK : ∀ v w', OwnV w' base v (A ++ [z]) → Below base w w' → (∃ g' c', v = .slice (some ⟨g', 0, none⟩) (A.length + 1) c') → K (t.put o.dst v) w') : wpOp Try.prog ops Q i' K t w := by
  obtain ⟨v', w', hr, h1, h2, h3⟩ := app1E w base o.type (t.eval x) A z g c hv hA hg hb
  refine wpOp_runG ho hgd (v := v') (w' := w') ?_ (hK v' w' h1 h2 h3)
  simp only [execOp, h, resolve, invoke, builtin, Sem.run_bind, Sem.run_pure, Result.andThen_ok, List.map_toArray, List.map_cons, List.map_nil, hy, hr]

/-- a whole slice behind an empty one -/
theorem app0E (w : World) (base : Nat) (ty : TypeId) (g : Nat) (a : Option Addr) (len cap : Nat) (D : Nat → Ev) (hg : w.heap[g]? = some (.cells #[] 36 (0, 0))) (hbg : base ≤ g) (hx : IsEvs w a len cap D) (hl : len ≤ 1048576) :
    ∃ v' w', (Builtin.append_ #[24, 24] ty #[.slice (some ⟨g, 0, none⟩) 0 0, .slice a len cap]).run Try.prog w = .ok v' w' ∧ OwnV w' base v' (listD D len) ∧ Below base w w' ∧ ∀ k, k < w.heap.size → k ≠ g → w'.heap[k]? = w.heap[k]? := by
  obtain ⟨i0, hi, hz0, hz1, hz2⟩ := info_parts infoE
  have hgl := lt_of_block hg
  have hown : w.ownsRow base 36 4 (.slice (some ⟨g, 0, none⟩) 0 0) 0 [] := ⟨rfl, .inr ⟨g, 0, #[], rfl, hbg, hg, Nat.le_refl _, Nat.zero_le _, rfl, rfl⟩⟩
  by_cases h0 : len = 0
  · subst h0
    cases a with
    | none =>
      refine ⟨.slice (some ⟨g, 0, none⟩) 0 0, w, ?_, hown, Below.refl _ _, fun _ _ _ => rfl⟩
      simp [Builtin.append_, run_underlying Try.underlying24, sizeOf, typeInfo, hi, Builtin.lenOf, Builtin.firstCells, storeCells]
    | some ad =>
      have hr := run_append_room (P := Try.prog) w 24 ty 36 i0 Try.underlying24 hi g 0 0 #[] hg ad 0 cap [] (by simp) (fun j u hu => by simp at hu) (by simp) (Nat.le_refl _) (by simp)
      refine ⟨_, _, hr, ⟨rfl, .inr ⟨g, 0, #[], rfl, hbg, ?_, Nat.le_refl _, Nat.zero_le _, rfl, rfl⟩⟩, ⟨rfl, rfl, rfl, by simp [World.setRow], fun k hk => ?_⟩, fun k _ hk => setRow_other _ _ _ _ hk⟩
      · rw [setRow_heap _ _ _ _ _ _ hg]; simp
      · exact setRow_other _ _ _ _ (by omega)
  · obtain ⟨b, off, rfl, _, _⟩ := hx.2.2 (by omega)
    obtain ⟨v', w', hr, h2, h3, h4⟩ := run_append_own (P := Try.prog) w base 24 ty 36 i0 (.agg #[.int .i64 0, .int .i64 0, .int .i64 0, .string ⟨#[]⟩]) 4 40 Try.underlying24 hi hz0 hz1 hz2 rfl (by decide) (.slice (some ⟨g, 0, none⟩) 0 0) 0 [] hown ⟨b, off, none⟩ len cap (cellsL (listD D len)) (by rw [cellsL_len, listD_len]) (evs_news hx) (oneL _) (by unfold maxLen; omega) (by omega) (by omega)
    refine ⟨v', w', hr, ?_, (Below.refl base w).grown h3 (by omega) (fun k hk => (World.ownsRow.lt hown k hk).1), fun k hk hne => h3.block k hk (fun e => hne (Option.some.inj e))⟩
    unfold OwnV
    rw [listD_len]
    rw [Nat.zero_add, List.nil_append] at h2
    exact h2
theorem wpOp_app0E {ops : Array Oper} {Q : Exit → Act → World → Prop} {i' : Nat} {o : Oper} {K : Act → World → Prop} {t : Act} {w : World} (ho : ops[i']? = some o) (hgd : Region.wanted o (yielded ops t.tmps) = true) (x y : Operand) (base g : Nat) (a : Option Addr) (len cap : Nat) (D : Nat → Ev) (h : o.op = .call { callee := .builtin .append, args := #[x, y], argTypes := #[24, 24] }) (hx : t.eval x = .slice (some ⟨g, 0, none⟩) 0 0) (hy : t.eval y = .slice a len cap) (hg : w.heap[g]? = some (.cells #[] 36 (0, 0))) (hbg : base ≤ g) (hE : IsEvs w a len cap D) (hl : len ≤ 1048576)
    (hK : ∀ v w', OwnV w' base v (listD D len) → Below base w w' → (∀ k, k < w.heap.size → k ≠ g → w'.heap[k]? = w.heap[k]?) → K (t.put o.dst v) w') : wpOp Try.prog ops Q i' K t w := by
  obtain ⟨v', w', hr, h1, h2, h3⟩ := app0E w base o.type g a len cap D hg hbg hE hl
  refine wpOp_runG ho hgd (v := v') (w' := w') ?_ (hK v' w' h1 h2 h3)
  simp only [execOp, h, resolve, invoke, builtin, Sem.run_bind, Sem.run_pure, Result.andThen_ok, List.map_toArray, List.map_cons, List.map_nil, hx, hy, hr]
/-- single operations -/
theorem q_loadE (ev : Operand → Value) (o : Oper) (w : World) (x : Operand) (g : Nat) (z : Ev) (h : o.op = .load 36 x) (hx : ev x = .pointer (some ⟨g, 0, none⟩)) (hg : w.heap[g]? = some (.cells (enc4 z).toArray 36 (0, 0))) : (execOp ev o).run Try.prog w = .ok (.value (.agg (enc4 z).toArray)) w := by
  have e0 : w.cell? ⟨g, 0, none⟩ = some (.int .i64 z.a) := cellN hg
  have e1 : w.cell? ⟨g, 1, none⟩ = some (.int .i64 z.b) := cellN hg
  have e2 : w.cell? ⟨g, 2, none⟩ = some (.int .i64 z.c) := cellN hg
  have e3 : w.cell? ⟨g, 3, none⟩ = some (.string z.d) := cellN hg
  simp [execOp, h, hx, enc4]
  go_simp
theorem q_lit1E (ev : Operand → Value) (o : Oper) (w : World) (c0 : Operand) (z : Ev) (h : o.op = .buildSlice 24 1 #[(0, c0)]) (h0 : ev c0 = .agg (enc4 z).toArray) : (execOp ev o).run Try.prog w = .ok (.value (.slice (some ⟨w.heap.size, 0, none⟩) 1 1)) (w.alloc (.cells (enc4 z).toArray 36)) := by
  simp [execOp, h, h0, enc4]
  go_simp
theorem q_lit0E (ev : Operand → Value) (o : Oper) (w : World) (h : o.op = .buildSlice 24 0 #[]) : (execOp ev o).run Try.prog w = .ok (.value (.slice (some ⟨w.heap.size, 0, none⟩) 0 0)) (w.alloc (.cells #[] 36)) := by
  simp [execOp, h]
  go_simp
end Go.Proofs.Ytjfciokpnhnhbaa
