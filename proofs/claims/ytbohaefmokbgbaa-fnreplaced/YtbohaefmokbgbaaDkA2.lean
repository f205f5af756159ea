/-
  What the specification's Sync and Do answer is owned: no block of it lay there before. No condition but that the slices read and that the sizes are small.
-/
import Derived.Test.YtbohaefmokbgbaaDkDs
namespace Go.Proofs.Ytbohaefmokbgbaa
open Go.RowKit
set_option linter.unusedVariables false

/-- a disk that reads and whose slices are owned, from base on -/
structure HasD (w : World) (base : Nat) (x y z : Value) (L S : List Fl) (O : List Dop) : Prop where
  rd : RdD w x y z L S O
  l : OwA2 w base x L.length
  s : OwA2 w base y S.length
  o : OwA4 w base z O.length
  ap : (∀ b, x.ownBlock = some b → y.ownBlock ≠ some b) ∨ S = []
theorem HasD.kept {w w' : World} {base : Nat} {x y z : Value} {L S : List Fl} {O : List Dop} (h : HasD w base x y z L S O) (hs : w.heap.size ≤ w'.heap.size) (he : ∀ k, x.ownBlock = some k ∨ y.ownBlock = some k ∨ z.ownBlock = some k → w'.heap[k]? = w.heap[k]?) : HasD w' base x y z L S O :=
  ⟨⟨h.rd.1.own h.l hs (fun k hk => he k (.inl hk)), h.rd.2.1.own h.s hs (fun k hk => he k (.inr (.inl hk))), h.rd.2.2.own h.o hs (fun k hk => he k (.inr (.inr hk)))⟩, h.l.blk (fun k hk => he k (.inl hk)), h.s.blk (fun k hk => he k (.inr (.inl hk))), h.o.blk (fun k hk => he k (.inr (.inr hk))), h.ap⟩
theorem HasD.lt {w : World} {base : Nat} {x y z : Value} {L S : List Fl} {O : List Dop} (h : HasD w base x y z L S O) {k : Nat} (hk : x.ownBlock = some k ∨ y.ownBlock = some k ∨ z.ownBlock = some k) : base ≤ k ∧ k < w.heap.size := by
  rcases hk with e | e | e
  · exact h.l.lt k e
  · exact h.s.lt k e
  · exact h.o.lt k e
theorem HasD.below {w w' : World} {base : Nat} {x y z : Value} {L S : List Fl} {O : List Dop} (h : HasD w base x y z L S O) (hB : Below w.heap.size w w') : HasD w' base x y z L S O :=
  h.kept hB.size (fun k hk => hB.block k (h.lt hk).2)
theorem HasD.base {w : World} {base base' : Nat} {x y z : Value} {L S : List Fl} {O : List Dop} (h : HasD w base x y z L S O) (hb : base' ≤ base) : HasD w base' x y z L S O := ⟨h.rd, h.l.base hb, h.s.base hb, h.o.base hb, h.ap⟩
theorem HasD.nil (w : World) (base : Nat) : HasD w base (.slice none 0 0) (.slice none 0 0) (.slice none 0 0) [] [] [] := ⟨⟨(HoldF.nil _ 0).1, (HoldF.nil _ 0).1, (HoldO.nil _ 0).1⟩, OwA2.nil _ _, OwA2.nil _ _, OwA4.nil _ _, .inr rfl⟩
theorem HasD.not3 {w : World} {base : Nat} {x y z : Value} {L S : List Fl} {O : List Dop} (h : HasD w base x y z L S O) {g : Nat} {cs : Array Value} (hg : w.heap[g]? = some (.cells cs 27 (0, 0))) {k : Nat} (hk : x.ownBlock = some k ∨ y.ownBlock = some k ∨ z.ownBlock = some k) : k ≠ g := fun e => by
  rcases hk with hk | hk | hk
  · obtain ⟨c', hc'⟩ := h.l.cells hk
    rw [e, hg] at hc'
    cases hc'
  · obtain ⟨c', hc'⟩ := h.s.cells hk
    rw [e, hg] at hc'
    cases hc'
  · obtain ⟨c', hc'⟩ := h.o.cells hk
    rw [e, hg] at hc'
    cases hc'
theorem HasD.row {w : World} {base : Nat} {x y z : Value} {L S : List Fl} {O : List Dop} (h : HasD w base x y z L S O) {g : Nat} {cs : Array Value} (hg : w.heap[g]? = some (.cells cs 27 (0, 0))) (q : Array Value) : HasD (w.setRow g q) base x y z L S O :=
  h.kept (by simp [World.setRow]) (fun k hk => setRow_other _ _ _ _ (h.not3 hg hk))

theorem app9F (w : World) (base : Nat) (ty : TypeId) (g : Nat) (x : Value) (L : List Fl) (hg : w.heap[g]? = some (.cells #[] 68 (0, 0))) (hb : base ≤ g) (hx : RdF w x L) (hL : L.length ≤ 1048576) :
    ∃ v' w', (Builtin.append_ #[24, 24] ty #[.slice (some ⟨g, 0, none⟩) 0 0, x]).run Try.prog w = .ok v' w' ∧ HoldF w' base v' L ∧ Below w.heap.size w w' ∧ (L ≠ [] → ∀ k, v'.ownBlock = some k → w.heap.size ≤ k) := by
  obtain ⟨i0, hi, hz0, hz1, hz2⟩ := info_parts infoF
  have hgl := lt_of_block hg
  have hown : w.ownsRow base 68 2 (.slice (some ⟨g, 0, none⟩) 0 0) 0 [] := ⟨rfl, .inr ⟨g, 0, #[], rfl, hb, hg, Nat.le_refl _, Nat.zero_le _, rfl, rfl⟩⟩
  have hemp : HoldF w base (.slice (some ⟨g, 0, none⟩) 0 0) [] := ⟨⟨_, 0, rfl, Nat.le_refl _, by omega, fun h => absurd h (Nat.lt_irrefl _)⟩, ⟨[], hown⟩⟩
  obtain ⟨a, cap, rfl, hlc, hcm, hc⟩ := hx
  cases a with
  | none =>
    have hL0 : L = [] := by
      rcases Nat.eq_zero_or_pos L.length with h0 | h0
      · exact List.length_eq_zero_iff.1 h0
      · obtain ⟨b, off, e, _⟩ := hc h0
        cases e
    subst hL0
    refine ⟨.slice (some ⟨g, 0, none⟩) 0 0, w, ?_, hemp, Below.refl _ _, fun h => absurd rfl h⟩
    simp [Builtin.append_, run_underlying Try.underlying24, sizeOf, typeInfo, hi, Builtin.lenOf, Builtin.firstCells, storeCells]
  | some ad =>
    have hnews : ∀ j u, (cellsF L)[j]? = some u → w.cell? (ad.add j) = some u := fun j u hu => by
      have hj : j < L.length * 2 := by rw [← cellsF_len]; exact (List.getElem?_eq_some_iff.1 hu).1
      obtain ⟨b, off, e, hbs, hl⟩ := hc (by omega)
      cases e
      exact hl.news j u hu
    by_cases h0 : L.length = 0
    · have hL0 : L = [] := List.length_eq_zero_iff.1 h0
      subst hL0
      have hr := run_append_room (P := Try.prog) w 24 ty 68 i0 Try.underlying24 hi g 0 0 #[] hg ad 0 cap [] (by simp) (fun j u hu => by simp at hu) (by simp) (Nat.le_refl _) (by simp)
      refine ⟨_, _, hr, ⟨⟨_, 0, rfl, Nat.le_refl _, by omega, fun h => absurd h (Nat.lt_irrefl _)⟩, ⟨[], ⟨rfl, .inr ⟨g, 0, #[], rfl, hb, ?_, Nat.le_refl _, Nat.zero_le _, rfl, rfl⟩⟩⟩⟩, ⟨rfl, rfl, rfl, by simp [World.setRow], fun k hk => ?_⟩, fun h => absurd rfl h⟩
      · rw [setRow_heap _ _ _ _ _ _ hg]; simp
      · by_cases e : k = g
        · subst e; rw [setRow_heap _ _ _ _ _ _ hg, hg]; simp
        · exact setRow_other _ _ _ _ e
    · have h63 : 0 + L.length ≤ maxLen := by unfold maxLen; omega
      have hby : (0 + L.length) * 32 ≤ 140737488355328 := by omega
      obtain ⟨v', w', hr, h2, h3, h4⟩ := run_append_own (P := Try.prog) w base 24 ty 68 i0 (.agg #[.string ⟨#[]⟩, .string ⟨#[]⟩]) 2 32 Try.underlying24 hi hz0 hz1 hz2 rfl (by decide) (.slice (some ⟨g, 0, none⟩) 0 0) 0 [] hown ad L.length cap (cellsF L) (cellsF_len L) hnews (oneF L) h63 hby (by omega)
      have hr' := run_append_grow (P := Try.prog) w 24 ty 68 i0 (.agg #[.string ⟨#[]⟩, .string ⟨#[]⟩]) Try.underlying24 hi hz0 ⟨g, 0, none⟩ 0 0 [] (by simp) (fun j u hu => by simp at hu) ad L.length cap (cellsF L) (by rw [hz1]; exact cellsF_len L) hnews (by omega) (by omega) (growslice_fits (by omega) (by rw [hz2]; exact hby))
      rw [hr] at hr'
      have hw := Result.ok.inj hr'
      refine ⟨v', w', hr, ?_, ?_, fun _ k hk => ?_⟩
      · rw [List.nil_append, Nat.zero_add] at h2
        exact ⟨OwnF.rd h2, ⟨_, h2⟩⟩
      · rw [hw.2]
        exact ⟨rfl, rfl, rfl, by simp, fun k hk => by rw [Below.heap_alloc _ _ _ (by simpa using hk)]; rfl⟩
      · rw [hw.1] at hk
        have := Option.some.inj hk
        simp at this
        omega
theorem q_app9F (ev : Operand → Value) (o : Oper) (w : World) (x y : Operand) (base g : Nat) (L : List Fl) (h : o.op = .call { callee := .builtin .append, args := #[x, y], argTypes := #[24, 24] }) (hx : ev x = .slice (some ⟨g, 0, none⟩) 0 0) (hg : w.heap[g]? = some (.cells #[] 68 (0, 0))) (hb : base ≤ g) (hy : RdF w (ev y) L) (hL : L.length ≤ 1048576) :
    ∃ v' w', (execOp ev o).run Try.prog w = .ok (.value v') w' ∧ HoldF w' base v' L ∧ Below w.heap.size w w' ∧ (L ≠ [] → ∀ k, v'.ownBlock = some k → w.heap.size ≤ k) := by
  obtain ⟨v', w', hr, h1, h2, h3⟩ := app9F w base o.type g (ev y) L hg hb hy hL
  refine ⟨v', w', ?_, h1, h2, h3⟩
  simp only [execOp, h, resolve, invoke, builtin, Sem.run_bind, Sem.run_pure, Result.andThen_ok, List.map_toArray, List.map_cons, List.map_nil, hx, hr]
theorem wpOp_app9F {ops : Array Oper} {Q : Exit → Act → World → Prop} {i' : Nat} {o : Oper} {K : Act → World → Prop} {t : Act} {w : World} (ho : ops[i']? = some o) (hg : Region.wanted o (yielded ops t.tmps) = true) (x y : Operand) (base g : Nat) (L : List Fl) (h : o.op = .call { callee := .builtin .append, args := #[x, y], argTypes := #[24, 24] }) (hx : t.eval x = .slice (some ⟨g, 0, none⟩) 0 0) (hgh : w.heap[g]? = some (.cells #[] 68 (0, 0))) (hb : base ≤ g) (hy : RdF w (t.eval y) L) (hL : L.length ≤ 1048576)
    (hK : ∀ v w', HoldF w' base v L → Below w.heap.size w w' → (L ≠ [] → ∀ k, v.ownBlock = some k → w.heap.size ≤ k) → K (t.put o.dst v) w') : wpOp Try.prog ops Q i' K t w := by
  obtain ⟨v', w', hr, h1, h2, h3⟩ := q_app9F t.eval o w x y base g L h hx hgh hb hy hL
  exact wpOp_runG ho hg hr (hK v' w' h1 h2 h3)

def ZG (B base : Nat) (v : Value) (L : List Fl) : Nat → (Nat → Value) → World → Prop
  | 0, f, w => ∃ g, f 7 = .slice (some ⟨g, 0, none⟩) 0 0 ∧ base ≤ g ∧ w.heap[g]? = some (.cells #[] 68 (0, 0))
  | 1, f, w => f 8 = .pointer (some ⟨B, 0, none⟩)
  | 2, f, w => f 9 = v
  | 3, f, w => HoldF w base (f 10) L
  | 4, f, w => ∃ g, f 11 = .slice (some ⟨g, 0, none⟩) 0 0 ∧ base ≤ g ∧ w.heap[g]? = some (.cells #[] 68 (0, 0))
  | 5, f, w => f 12 = .pointer (some ⟨B, 0, none⟩)
  | 6, f, w => f 13 = v
  | 7, f, w => HoldF w base (f 14) L ∧ (L ≠ [] → ∀ k, (f 10).ownBlock = some k → (f 14).ownBlock ≠ some k)
  | 8, f, w => f 15 = .agg #[f 10, f 14, .slice none 0 0]
  | _, _, _ => True
theorem ZG.below {B base : Nat} {v : Value} {L : List Fl} {j : Nat} {f : Nat → Value} {w w' : World} (h : ZG B base v L j f w) (hB : Below w.heap.size w w') : ZG B base v L j f w' := by
  match j, h with
  | 0, h => exact (by obtain ⟨g, e, hb, hh⟩ := h; exact ⟨g, e, hb, (hB.block _ (lt_of_block hh)).trans hh⟩)
  | 1, h => exact h
  | 2, h => exact h
  | 3, h => exact HoldF.below (h) hB
  | 4, h => exact (by obtain ⟨g, e, hb, hh⟩ := h; exact ⟨g, e, hb, (hB.block _ (lt_of_block hh)).trans hh⟩)
  | 5, h => exact h
  | 6, h => exact h
  | 7, h => exact ⟨HoldF.below h.1 hB, h.2⟩
  | 8, h => exact h
  | (m + 9), _ => exact trivial
def depZg (j i : Nat) : Bool := match j with
  | 0 => i == 0
  | 1 => i == 1
  | 2 => i == 2
  | 3 => i == 3
  | 4 => i == 4
  | 5 => i == 5
  | 6 => i == 6
  | 7 => i == 7 || i == 3
  | 8 => i == 8 || i == 3 || i == 7
  | _ => false
theorem ZG.dep {B base : Nat} {v : Value} {L : List Fl} {j : Nat} {f f' : Nat → Value} {w : World} (hj : j < 9) (h : ZG B base v L j f w) (he : ∀ i, depZg j i = true → f (slotZ i) = f' (slotZ i)) : ZG B base v L j f' w := by
  match j, hj, h, he with
  | 0, _, h, he =>
    have e0 : f 7 = f' 7 := he 0 rfl
    simp only [ZG] at h ⊢
    rw [← e0]
    exact h
  | 1, _, h, he =>
    have e1 : f 8 = f' 8 := he 1 rfl
    simp only [ZG] at h ⊢
    rw [← e1]
    exact h
  | 2, _, h, he =>
    have e2 : f 9 = f' 9 := he 2 rfl
    simp only [ZG] at h ⊢
    rw [← e2]
    exact h
  | 3, _, h, he =>
    have e3 : f 10 = f' 10 := he 3 rfl
    simp only [ZG] at h ⊢
    rw [← e3]
    exact h
  | 4, _, h, he =>
    have e4 : f 11 = f' 11 := he 4 rfl
    simp only [ZG] at h ⊢
    rw [← e4]
    exact h
  | 5, _, h, he =>
    have e5 : f 12 = f' 12 := he 5 rfl
    simp only [ZG] at h ⊢
    rw [← e5]
    exact h
  | 6, _, h, he =>
    have e6 : f 13 = f' 13 := he 6 rfl
    simp only [ZG] at h ⊢
    rw [← e6]
    exact h
  | 7, _, h, he =>
    have e7 : f 14 = f' 14 := he 7 rfl
    have e3 : f 10 = f' 10 := he 3 rfl
    simp only [ZG] at h ⊢
    rw [← e7, ← e3]
    exact h
  | 8, _, h, he =>
    have e8 : f 15 = f' 15 := he 8 rfl
    have e3 : f 10 = f' 10 := he 3 rfl
    have e7 : f 14 = f' 14 := he 7 rfl
    simp only [ZG] at h ⊢
    rw [← e8, ← e3, ← e7]
    exact h
  | (m + 9), hj, _, _ => exact absurd hj (by omega)

set_option maxRecDepth 10000 in
set_option maxHeartbeats 4000000 in
theorem specSync2_any (vL vS vO : Value) (L S : List Fl) (O : List Dop) (w : World) (hL : RdF w vL L) (hS : RdF w vS S) (hO : RdO w vO O) (hz : SmallD L S O) (hl : L.length ≤ 1048576) :
    Calls Try.prog 60 #[.agg #[vL, vS, vO]] w fun e w' => ∃ x y z, e = .returned (.agg #[x, y, z]) ∧ HasD w' w.heap.size x y z (syL L S O) (syL L S O) [] ∧ Below w.heap.size w w' := by
  have HN : Hid (L.length ≤ 1048576) := hl
  clear hl
  have HZ : Hid (SmallD L S O) := hz
  have HA : Hid (∀ w', Below w.heap.size w w' → RdF w' vL L ∧ RdF w' vS S ∧ RdO w' vO O) := fun w' hB => ⟨hL.below hB, hS.below hB, hO.below hB⟩
  obtain ⟨aL, cL, rfl⟩ := hL.slice
  obtain ⟨aS, cS, rfl⟩ := hS.slice
  obtain ⟨aO, cO, rfl⟩ := hO.slice
  obtain ⟨X, hX⟩ : ∃ X, X = (w.alloc (.cells #[.slice aL L.length cL, .slice aS S.length cS, .slice aO O.length cO] 27)).alloc (.cells #[.slice none 0 0, .slice none 0 0, .slice none 0 0] 27) := ⟨_, rfl⟩
  have hBX : Below w.heap.size w X := by rw [hX]; exact ((Below.refl _ _).alloc (Nat.le_refl _) _).alloc (by simp) _
  have gX : X.heap[w.heap.size]? = some (.cells #[.slice aL L.length cL, .slice aS S.length cS, .slice aO O.length cO] 27 (0, 0)) := by rw [hX, Below.heap_alloc _ _ _ (by simp)]; exact heap_alloc_new _ _
  have gR : X.heap[w.heap.size + 1]? = some (.cells #[.slice none 0 0, .slice none 0 0, .slice none 0 0] 27 (0, 0)) := by
    rw [hX]
    have := heap_alloc_new (w.alloc (.cells #[.slice aL L.length cL, .slice aS S.length cS, .slice aO O.length cO] 27)) (.cells #[.slice none 0 0, .slice none 0 0, .slice none 0 0] 27)
    simpa using this
  have HX := (show Hid _ from hX)
  have HBX : Hid (Below w.heap.size w X) := hBX
  have HG : Hid (∀ w', Below X.heap.size X w' → w'.heap[w.heap.size]? = some (.cells #[.slice aL L.length cL, .slice aS S.length cS, .slice aO O.length cO] 27 (0, 0)) ∧ w'.heap[w.heap.size + 1]? = some (.cells #[.slice none 0 0, .slice none 0 0, .slice none 0 0] 27 (0, 0)) ∧ Below w.heap.size w w') := fun w' hB => ⟨(hB.block _ (lt_of_block gX)).trans gX, (hB.block _ (lt_of_block gR)).trans gR, hBX.trans (hB.mono hBX.size)⟩
  have c0 : X.cell? ⟨w.heap.size, 0, none⟩ = some (.slice aL L.length cL) := cellN gX
  have c1 : X.cell? ⟨w.heap.size, 1, none⟩ = some (.slice aS S.length cS) := cellN gX
  have c2 : X.cell? ⟨w.heap.size, 2, none⟩ = some (.slice aO O.length cO) := cellN gX
  rw [hX] at c0 c1 c2
  clear hX hBX gX gR hL hS hO hz
  go_enter Try.func60, Try.ntmps60
  go_wp2_with fail
  rw [← HX.out]
  have hAX := HA.out X HBX.out
  refine (specDisk_any _ _ _ L S O X hAX.1 hAX.2.1 hAX.2.2 HZ.out).mono ?_
  rintro e w1 ⟨rfl, hB1⟩
  obtain ⟨g1, gr1, hbw1⟩ := HG.out w1 hB1
  have HW1 : Hid (Below w.heap.size w w1) := hbw1
  have HRB0 : Hid (w1.heap[w.heap.size + 1]? = some (.cells #[.slice none 0 0, .slice none 0 0, .slice none 0 0] 27 (0, 0))) := gr1
  clear hB1 hbw1 c0 c1 c2 hAX
  cases hd : diskB L S O with
  | false =>
    have HD : Hid (syL L S O = []) := by show _ = _; unfold syL; rw [hd]; rfl
    clear hd g1 gr1
    obtain ⟨q, hq⟩ : ∃ q, q = #[Value.slice none 0 0, .slice none 0 0, .slice none 0 0] := ⟨_, rfl⟩
    have hi6 : (Try.prog.info? 27).map (·.size) = some q.size := by rw [hq]; exact infoDk
    have ho6 : (#[Value.slice none 0 0, .slice none 0 0, .slice none 0 0] : Array Value).size = q.size := by rw [hq]
    have h16 : q.all (·.oneCell') = true := by rw [hq]; simp [Value.oneCell']
    have HQ : Hid (q = #[Value.slice none 0 0, .slice none 0 0, .slice none 0 0]) := hq
    go_wp2_with (refine wpList_store_row rfl 27 _ _ rfl (w.heap.size + 1) q rfl (congrArg Value.agg hq.symm) 27 _ HRB0.out hi6 ho6 h16 ?_)
    refine bodyPost_ret (v := .agg q) (results_cell_row rfl _ _ (w.heap.size + 1) 27 _ _ _ rfl (setRow_heap _ _ _ _ _ _ HRB0.out) Try.underlying27 rfl hi6) rfl ⟨_, _, _, ret_val (by rw [HQ.out]), ?_, ?_⟩
    · rw [HD.out]
      exact HasD.nil _ _
    · exact below_setRow HW1.out (by omega) _
  | true =>
    have HD : Hid (syL L S O = L) := by show _ = _; unfold syL; rw [hd]; rfl
    have HRB : Hid (w1.heap[w.heap.size + 1]? = some (.cells #[.slice none 0 0, .slice none 0 0, .slice none 0 0] 27 (0, 0))) := HRB0
    have HC : Hid (∀ wy, Below w1.heap.size w1 wy → wy.cell? ⟨w.heap.size, 0, none⟩ = some (.slice aL L.length cL)) := fun wy hy => cellN ((hy.block _ (lt_of_block g1)).trans g1)
    have HR1 : Hid (∀ wy, Below w1.heap.size w1 wy → RdF wy (.slice aL L.length cL) L) := fun wy hy => (HA.out wy (HW1.out.trans (hy.mono HW1.out.size))).1
    clear hd g1 gr1
    go_wp2
    refine wp_cut_to (fun a0 t w' => ∃ f, t = canon a0 dsZ f ∧ (∃ x y, w'.heap[w.heap.size + 1]? = some (.cells #[x, y, .slice none 0 0] 27 (0, 0)) ∧ HoldF w' w1.heap.size x L ∧ HoldF w' w1.heap.size y L ∧ Below w.heap.size w w' ∧ (L ≠ [] → ∀ k, x.ownBlock = some k → y.ownBlock ≠ some k))) ?_ ?_
    · rintro _ w7 ⟨f, rfl, h7⟩
      simp only [canon, dsZ, List.foldl, Act.put, List.setIfInBounds_toArray, List.set_cons_succ, List.set_cons_zero]
      have H7 := (show Hid _ from h7)
      clear h7
      obtain ⟨x, y, hb7, hx7, hy7, hbw, hap7⟩ := H7.out
      have HE : Hid (HoldF w7 w1.heap.size x L ∧ HoldF w7 w1.heap.size y L ∧ Below w.heap.size w w7 ∧ (L ≠ [] → ∀ k, x.ownBlock = some k → y.ownBlock ≠ some k)) := ⟨hx7, hy7, hbw, hap7⟩
      clear hx7 hy7 hbw hap7 H7
      go_wp2
      refine bodyPost_ret (results_cell_row rfl _ _ (w.heap.size + 1) 27 _ _ _ rfl hb7 Try.underlying27 rfl infoDk) rfl ⟨x, y, .slice none 0 0, rfl, ?_, ?_⟩
      · rw [HD.out]
        refine ⟨⟨HE.out.1.1, HE.out.2.1.1, (HoldO.nil _ 0).1⟩, HE.out.1.2.base HW1.out.size, HE.out.2.1.2.base HW1.out.size, OwA4.nil _ _, ?_⟩
        by_cases hl : L = []
        · exact .inr hl
        · exact .inl (HE.out.2.2.2 hl)
      · exact HE.out.2.2.1
    · intro J K' hJ hK
      refine wp_letter ?_
      intro fr hfr
      have hsz : 15 < fr.tmps.size := by rw [hfr]; exact Nat.le_of_ble_eq_true rfl
      have t1 : fr.eval (.tmp 1) = .pointer (some ⟨w.heap.size, 0, none⟩) := by rw [hfr]; rfl
      have t2 : fr.eval (.tmp 2) = .pointer (some ⟨w.heap.size + 1, 0, none⟩) := by rw [hfr]; rfl
      have HFR := (show Hid _ from hfr)
      clear hfr
      refine wp_region_fin (Rel := fun v v' => Below v.heap.size v v') (fun v => Below.refl _ _) (fun h k => h.trans (k.mono h.size)) (fun v => (Below.refl _ _).drew) 9 rfl (by kernel_rfl) (by kernel_rfl) dsZ slotZ (ZG w.heap.size w1.heap.size (.slice aL L.length cL) L) _ rfl (by kernel_rfl) (fun _ _ _ _ h hB => h.below hB) ?_ ?_ ?_ ?_ ?_
      · intro j f f' wy hj he h
        exact h.dep hj (fun i hi => he i (by revert hi; match j, hj with | 0, _ => (intro hi; simp only [depZg, beq_iff_eq] at hi; rcases hi with rfl <;> kernel_rfl) | 1, _ => (intro hi; simp only [depZg, beq_iff_eq] at hi; rcases hi with rfl <;> kernel_rfl) | 2, _ => (intro hi; simp only [depZg, beq_iff_eq] at hi; rcases hi with rfl <;> kernel_rfl) | 3, _ => (intro hi; simp only [depZg, beq_iff_eq] at hi; rcases hi with rfl <;> kernel_rfl) | 4, _ => (intro hi; simp only [depZg, beq_iff_eq] at hi; rcases hi with rfl <;> kernel_rfl) | 5, _ => (intro hi; simp only [depZg, beq_iff_eq] at hi; rcases hi with rfl <;> kernel_rfl) | 6, _ => (intro hi; simp only [depZg, beq_iff_eq] at hi; rcases hi with rfl <;> kernel_rfl) | 7, _ => (intro hi; simp only [depZg, Bool.or_eq_true, beq_iff_eq] at hi; rcases hi with rfl | rfl <;> kernel_rfl) | 8, _ => (intro hi; simp only [depZg, Bool.or_eq_true, beq_iff_eq] at hi; rcases hi with (rfl | rfl) | rfl <;> kernel_rfl)))
      · intro i hi
        exact slotZ_mem i hi
      · intro i j hi hj q
        exact slotZ_inj i j hi hj q
      · intro ops hops f wy j oo hj hy ho hd
        have ho2 := ho
        rw [hops] at ho
        have N1 := (canon_eval_ne fr dsZ f 1 (by decide)).trans t1
        have N2 := (canon_eval_ne fr dsZ f 2 (by decide)).trans t2
        have hj' : j = 0 ∨ j = 1 ∨ j = 2 ∨ j = 3 ∨ j = 4 ∨ j = 5 ∨ j = 6 ∨ j = 7 ∨ j = 8 := by omega
        rcases hj' with rfl | rfl | rfl | rfl | rfl | rfl | rfl | rfl | rfl <;> simp only [List.getElem?_toArray, List.getElem?_cons_succ, List.getElem?_cons_zero, Option.some.injEq] at ho <;> subst ho
        · refine wpOp_runG ho2 (wanted_none rfl) (q_madeF (canon fr dsZ f).eval _ wy rfl) ?_
          refine ⟨_, rfl, ⟨wy.heap.size, upd_same f 7 _, hy.size, heap_alloc_new _ _⟩, (Below.refl _ _).alloc (Nat.le_refl _) _⟩
        · refine wpOp_runG ho2 (wanted_none rfl) (q_fieldK (canon fr dsZ f).eval _ wy _ w.heap.size 0 rfl N1 (.inl rfl)) ?_
          exact ⟨_, rfl, upd_same f 8 _, Below.refl _ _⟩
        · refine wpOp_runG ho2 (wanted_none rfl) (q_loadF (canon fr dsZ f).eval _ wy _ w.heap.size 0 rfl ((canon_eval fr dsZ f 8 (by decide) (Nat.lt_of_le_of_lt (by decide) hsz)).trans (hd ⟨1, .data⟩ (by simp) rfl (by decide))) (HC.out wy hy)) ?_
          exact ⟨_, rfl, upd_same f 9 _, Below.refl _ _⟩
        · obtain ⟨g, eg, hbg, hgh⟩ := hd ⟨0, .data⟩ (by simp) rfl (by decide)
          have hv : f 9 = .slice aL L.length cL := hd ⟨2, .data⟩ (by simp) rfl (by decide)
          refine wpOp_app0F ho2 (wanted_none rfl) _ _ w1.heap.size g L rfl ((canon_eval fr dsZ f 7 (by decide) (Nat.lt_of_le_of_lt (by decide) hsz)).trans eg) hgh hbg (by rw [(canon_eval fr dsZ f 9 (by decide) (Nat.lt_of_le_of_lt (by decide) hsz)).trans hv]; exact HR1.out wy hy) (by have := HN.out; omega) ?_
          intro u wz hu hBz
          exact ⟨_, rfl, by show HoldF _ _ (upd f 10 u 10) L; rw [upd_same]; exact hu, hBz⟩
        · refine wpOp_runG ho2 (wanted_none rfl) (q_madeF (canon fr dsZ f).eval _ wy rfl) ?_
          refine ⟨_, rfl, ⟨wy.heap.size, upd_same f 11 _, hy.size, heap_alloc_new _ _⟩, (Below.refl _ _).alloc (Nat.le_refl _) _⟩
        · refine wpOp_runG ho2 (wanted_none rfl) (q_fieldK (canon fr dsZ f).eval _ wy _ w.heap.size 0 rfl N1 (.inl rfl)) ?_
          exact ⟨_, rfl, upd_same f 12 _, Below.refl _ _⟩
        · refine wpOp_runG ho2 (wanted_none rfl) (q_loadF (canon fr dsZ f).eval _ wy _ w.heap.size 0 rfl ((canon_eval fr dsZ f 12 (by decide) (Nat.lt_of_le_of_lt (by decide) hsz)).trans (hd ⟨5, .data⟩ (by simp) rfl (by decide))) (HC.out wy hy)) ?_
          exact ⟨_, rfl, upd_same f 13 _, Below.refl _ _⟩
        · obtain ⟨g, eg, hbg, hgh⟩ := hd ⟨4, .data⟩ (by simp) rfl (by decide)
          have hv : f 13 = .slice aL L.length cL := hd ⟨6, .data⟩ (by simp) rfl (by decide)
          refine wpOp_app9F ho2 (wanted_none rfl) _ _ w1.heap.size g L rfl ((canon_eval fr dsZ f 11 (by decide) (Nat.lt_of_le_of_lt (by decide) hsz)).trans eg) hgh hbg (by rw [(canon_eval fr dsZ f 13 (by decide) (Nat.lt_of_le_of_lt (by decide) hsz)).trans hv]; exact HR1.out wy hy) (by have := HN.out; omega) ?_
          intro u wz hu hBz hfr9
          have h9 : HoldF wy w1.heap.size (f 10) L := hd ⟨3, .chain⟩ (by simp) rfl (by decide)
          refine ⟨_, rfl, ⟨by show HoldF _ _ (upd f 14 u 14) L; rw [upd_same]; exact hu, fun hl k hk => ?_⟩, hBz⟩
          change (upd f 14 u 10).ownBlock = some k at hk
          rw [upd_ne f _ (by decide : (10 : Nat) ≠ 14)] at hk
          change (upd f 14 u 14).ownBlock ≠ some k
          rw [upd_same]
          intro e
          have := hfr9 hl k e
          have := (h9.2.lt k hk).2
          omega
        · have h9 : HoldF wy w1.heap.size (f 10) L := hd ⟨3, .data⟩ (by simp) rfl (by decide)
          have h12 : HoldF wy w1.heap.size (f 14) L := (hd ⟨7, .data⟩ (by simp) rfl (by decide)).1
          obtain ⟨a9, c9, e9⟩ := h9.2.slice
          obtain ⟨a12, c12, e12⟩ := h12.2.slice
          refine wpOp_runG ho2 (wanted_none rfl) (q_build2 (canon fr dsZ f).eval _ wy _ _ rfl ((canon_eval fr dsZ f 10 (by decide) (Nat.lt_of_le_of_lt (by decide) hsz)).trans e9) ((canon_eval fr dsZ f 14 (by decide) (Nat.lt_of_le_of_lt (by decide) hsz)).trans e12)) ?_
          refine ⟨_, rfl, ?_, Below.refl _ _⟩
          show upd f 15 _ 15 = .agg #[upd f 15 _ 10, upd f 15 _ 14, .slice none 0 0]
          rw [upd_same, upd_ne f _ (by decide : (10 : Nat) ≠ 15), upd_ne f _ (by decide : (14 : Nat) ≠ 15), e9, e12]
      · intro ops hops f wy hy ho hall
        have ho2 := ho
        have N1 := (canon_eval_ne fr dsZ f 1 (by decide)).trans t1
        have N2 := (canon_eval_ne fr dsZ f 2 (by decide)).trans t2
        have h9 : HoldF wy w1.heap.size (f 10) L := hall 3 (by omega)
        have h12 : HoldF wy w1.heap.size (f 14) L := (hall 7 (by omega)).1
        have hap : L ≠ [] → ∀ k, (f 10).ownBlock = some k → (f 14).ownBlock ≠ some k := (hall 7 (by omega)).2
        have h15 : f 15 = .agg #[f 10, f 14, .slice none 0 0] := hall 8 (by omega)
        obtain ⟨a9, c9, e9⟩ := h9.2.slice
        obtain ⟨a12, c12, e12⟩ := h12.2.slice
        have hrb : wy.heap[w.heap.size + 1]? = some (.cells #[.slice none 0 0, .slice none 0 0, .slice none 0 0] 27 (0, 0)) := (hy.block _ (lt_of_block HRB.out)).trans HRB.out
        refine wpOp_storeD ho2 (wanted_none rfl) _ _ (w.heap.size + 1) rfl N2 ((canon_eval fr dsZ f 15 (by decide) (Nat.lt_of_le_of_lt (by decide) hsz)).trans (h15.trans (by rw [e9, e12]))) rfl hrb ?_
        intro wz hz1 hz2 hz3 hz4 hz5 hz6
        have hlt : w.heap.size + 1 < w1.heap.size := lt_of_block HRB.out
        have hkz : ∀ k, w1.heap.size ≤ k → k < wy.heap.size → wz.heap[k]? = wy.heap[k]? := fun k h1 h2 => hz2 k (by omega)
        refine hK _ _ (Met.intro (hJ _ _ ⟨f, congrArg (fun z => canon z dsZ f) HFR.out, f 10, f 14, ?_, h9.kept (by omega) hkz, h12.kept (by omega) hkz, ?_, hap⟩))
        · rw [e9, e12]; exact hz1
        · have hbw := HW1.out.trans (hy.mono HW1.out.size)
          exact ⟨hz4.trans hbw.os, hz5.trans hbw.tape, hz6.trans hbw.output, by rw [hz3]; exact hbw.size, fun k hk => (hz2 k (by omega)).trans (hbw.block k hk)⟩

set_option maxRecDepth 10000 in
set_option maxHeartbeats 4000000 in
theorem specAct2_any (vL vS vO : Value) (L S : List Fl) (O : List Dop) (o : Dop) (w : World) (h : RdD w vL vS vO L S O) (hz : SmallD L S O) (hn : L.length ≤ 1048576 ∧ S.length ≤ 1048576 ∧ O.length ≤ 1048576) (hl6 : L.length ≤ 60 ∧ tot L ≤ 200000) (ho : o.n.size ≤ 100000000 ∧ o.t.size ≤ 100000000 ∧ o.d.size ≤ 100000000) :
    Calls Try.prog 37 #[.agg #[vL, vS, vO], .agg (encO o)] w fun e w' => ∃ x y z, e = .returned (.tuple #[.agg #[x, y, z], .int .i64 (actC L O o : Int)]) ∧ RdD w' x y z (actL L O o) S (actO L O o) ∧ (actC L O o = 0 → HasD w' w.heap.size x y z (actL L O o) S (actO L O o)) ∧ Below w.heap.size w w' := by
  have HN : Hid (L.length ≤ 1048576 ∧ S.length ≤ 1048576 ∧ O.length ≤ 1048576) := hn
  have HZ : Hid (SmallD L S O) := hz
  have HL6 : Hid (L.length ≤ 60 ∧ tot L ≤ 200000) := hl6
  have HOZ : Hid (o.n.size ≤ 100000000 ∧ o.t.size ≤ 100000000 ∧ o.d.size ≤ 100000000) := ho
  have HA : Hid (∀ w', Below w.heap.size w w' → RdD w' vL vS vO L S O) := fun w' hB => h.below hB
  obtain ⟨aL, cL, rfl⟩ := h.1.slice
  obtain ⟨aS, cS, rfl⟩ := h.2.1.slice
  obtain ⟨aO, cO, rfl⟩ := h.2.2.slice
  clear h hz hn hl6 ho
  change Calls _ _ #[.agg #[.slice aL L.length cL, .slice aS S.length cS, .slice aO O.length cO], .agg #[.int .i64 o.k, .string o.n, .string o.t, .string o.d]] w _
  obtain ⟨X, hX⟩ : ∃ X, X = ((w.alloc (.cells #[.slice aL L.length cL, .slice aS S.length cS, .slice aO O.length cO] 27)).alloc (.cells #[.int .i64 o.k, .string o.n, .string o.t, .string o.d] 49)).alloc (.cells #[.slice none 0 0, .slice none 0 0, .slice none 0 0] 27) := ⟨_, rfl⟩
  have hBX : Below w.heap.size w X := by rw [hX]; exact (((Below.refl _ _).alloc (Nat.le_refl _) _).alloc (by simp) _).alloc (by simp; omega) _
  have gX : X.heap[w.heap.size]? = some (.cells #[.slice aL L.length cL, .slice aS S.length cS, .slice aO O.length cO] 27 (0, 0)) := by rw [hX, Below.heap_alloc _ _ _ (by simp; omega), Below.heap_alloc _ _ _ (by simp)]; exact heap_alloc_new _ _
  have gO : X.heap[w.heap.size + 1]? = some (.cells #[.int .i64 o.k, .string o.n, .string o.t, .string o.d] 49 (0, 0)) := by
    rw [hX, Below.heap_alloc _ _ _ (by simp)]
    have := heap_alloc_new (w.alloc (.cells #[.slice aL L.length cL, .slice aS S.length cS, .slice aO O.length cO] 27)) (.cells #[.int .i64 o.k, .string o.n, .string o.t, .string o.d] 49)
    simpa using this
  have gR : X.heap[w.heap.size + 1 + 1]? = some (.cells #[.slice none 0 0, .slice none 0 0, .slice none 0 0] 27 (0, 0)) := by
    rw [hX]
    have := heap_alloc_new ((w.alloc (.cells #[.slice aL L.length cL, .slice aS S.length cS, .slice aO O.length cO] 27)).alloc (.cells #[.int .i64 o.k, .string o.n, .string o.t, .string o.d] 49)) (.cells #[.slice none 0 0, .slice none 0 0, .slice none 0 0] 27)
    simpa using this
  have HX := (show Hid _ from hX)
  have HBX : Hid (Below w.heap.size w X) := hBX
  have HG : Hid (∀ w', Below X.heap.size X w' → At3 w' w.heap.size 27 (.slice aL L.length cL) (.slice aS S.length cS) (.slice aO O.length cO) ∧ w'.heap[w.heap.size + 1]? = some (.cells #[.int .i64 o.k, .string o.n, .string o.t, .string o.d] 49 (0, 0)) ∧ At3 w' (w.heap.size + 1 + 1) 27 (.slice none 0 0) (.slice none 0 0) (.slice none 0 0) ∧ Below w.heap.size w w') := fun w' hB => ⟨(hB.block _ (lt_of_block gX)).trans gX, (hB.block _ (lt_of_block gO)).trans gO, (hB.block _ (lt_of_block gR)).trans gR, hBX.trans (hB.mono hBX.size)⟩
  have k0 : X.cell? ⟨w.heap.size + 1, 0, none⟩ = some (.int .i64 o.k) := cellN gO
  have k1 : X.cell? ⟨w.heap.size + 1, 1, none⟩ = some (.string o.n) := cellN gO
  have k2 : X.cell? ⟨w.heap.size + 1, 2, none⟩ = some (.string o.t) := cellN gO
  have k3 : X.cell? ⟨w.heap.size + 1, 3, none⟩ = some (.string o.d) := cellN gO
  rw [hX] at k0 k1 k2 k3
  clear hX hBX gX gO gR
  go_enter Try.func37, Try.ntmps37
  go_wp2_with fail
  rw [← HX.out]
  refine (form_any o X (by have := HOZ.out; omega) (by have := HOZ.out; omega)).mono ?_
  rintro e w1 ⟨rfl, hB1⟩
  have HB1 : Hid (Below X.heap.size X w1) := hB1
  clear k0 k1 k2 k3 HX hB1
  have hg1 := HG.out w1 HB1.out
  have c0 := hg1.1.c0
  have c1 := hg1.1.c1
  have c2 := hg1.1.c2
  cases hf : formB o with
  | false =>
    have HC : Hid (actC L O o = 2) := by show _ = _; unfold actC; rw [if_pos hf]
    clear hf hg1
    go_wp2_with fail
    refine (specCopy_any _ _ _ L S O w1 (HA.out w1 (HG.out w1 HB1.out).2.2.2) HN.out).mono ?_
    rintro e wc ⟨x, y, z, rfl, hr, hh, hBc⟩
    obtain ⟨b1, d1, b2, d2, b3, d3, ex, ey, ez⟩ := hr.slices
    subst ex ey ez
    have HBc : Hid (Below X.heap.size X wc) := HB1.out.trans (hBc.mono HB1.out.size)
    have HHc : Hid _ := hh
    have HR3 : Hid (At3 wc (w.heap.size + 1 + 1) 27 (.slice none 0 0) (.slice none 0 0) (.slice none 0 0)) := (HG.out wc HBc.out).2.2.1
    have HLT : Hid (w.heap.size + 1 + 1 < w1.heap.size) := (HG.out w1 HB1.out).2.2.1.lt
    obtain ⟨q, hq⟩ : ∃ q, q = #[Value.slice b1 L.length d1, .slice b2 S.length d2, .slice b3 O.length d3] := ⟨_, rfl⟩
    have hi6 : (Try.prog.info? 27).map (·.size) = some q.size := by rw [hq]; exact infoDk
    have ho6 : (#[Value.slice none 0 0, .slice none 0 0, .slice none 0 0] : Array Value).size = q.size := by rw [hq]; rfl
    have h16 : q.all (·.oneCell') = true := by rw [hq]; simp [Value.oneCell']
    clear hr hh hBc
    go_wp2_with (refine wpList_store_row rfl 27 _ _ rfl (w.heap.size + 1 + 1) q rfl (congrArg Value.agg hq.symm) 27 _ HR3.out hi6 ho6 h16 ?_)
    subst hq
    have hkz : ∀ k, w1.heap.size ≤ k → k < wc.heap.size → (wc.setRow (w.heap.size + 1 + 1) #[Value.slice b1 L.length d1, .slice b2 S.length d2, .slice b3 O.length d3]).heap[k]? = wc.heap[k]? := fun k h1 h2 => setRow_other _ _ _ _ (by have := HLT.out; omega)
    have hszz : wc.heap.size ≤ (wc.setRow (w.heap.size + 1 + 1) #[Value.slice b1 L.length d1, .slice b2 S.length d2, .slice b3 O.length d3]).heap.size := by simp [World.setRow]
    refine bodyPost_ret (v := .tuple #[.agg #[Value.slice b1 L.length d1, .slice b2 S.length d2, .slice b3 O.length d3], _]) (results_row_tmp rfl _ _ (w.heap.size + 1 + 1) 27 _ _ _ rfl (setRow_heap _ _ _ _ _ _ HR3.out) Try.underlying27 rfl hi6) rfl ⟨_, _, _, ret_val (by rw [HC.out]; rfl), ?_, (fun h => absurd (HC.out.symm.trans h) (by decide)), ?_⟩
    · rw [(act_no HC.out (by decide)).1, (act_no HC.out (by decide)).2]
      exact ⟨(HHc.out.1.kept hszz hkz).1, (HHc.out.2.1.kept hszz hkz).1, (HHc.out.2.2.kept hszz hkz).1⟩
    · exact below_setRow (HG.out wc HBc.out).2.2.2 (by omega) _
  | true =>
    have HF : Hid (formB o = true) := hf
    have k0 : w1.cell? ⟨w.heap.size + 1, 0, none⟩ = some (.int .i64 o.k) := cellN hg1.2.1
    have k1 : w1.cell? ⟨w.heap.size + 1, 1, none⟩ = some (.string o.n) := cellN hg1.2.1
    have k2 : w1.cell? ⟨w.heap.size + 1, 2, none⟩ = some (.string o.t) := cellN hg1.2.1
    have k3 : w1.cell? ⟨w.heap.size + 1, 3, none⟩ = some (.string o.d) := cellN hg1.2.1
    clear hf hg1
    go_wp2_with fail
    refine (do_any _ L o w1 (HA.out w1 (HG.out w1 HB1.out).2.2.2).1 (by have := HL6.out; omega) (fun f hf => by have := tot_mem hf; have := HL6.out; have := HOZ.out; omega)).mono ?_
    rintro e w2 ⟨u, rfl, hu, hun, hB2⟩
    have HB2 : Hid (Below X.heap.size X w2) := HB1.out.trans (hB2.mono HB1.out.size)
    have HU2 : Hid (OwnF w2 w1.heap.size u (doF L o).1) := hu
    have HS12 : Hid (w1.heap.size ≤ w2.heap.size) := hB2.size
    obtain ⟨au, cu, eu⟩ := hu.rd.slice
    subst eu
    clear k0 k1 k2 k3 c0 c1 c2 hu hun hB2
    have hg2 := HG.out w2 HB2.out
    have c0 := hg2.1.c0
    have c1 := hg2.1.c1
    have c2 := hg2.1.c2
    clear hg2
    cases hd : (doF L o).2 with
    | false =>
      have HC : Hid (actC L O o = 3) := by show _ = _; unfold actC; rw [if_neg (by rw [HF.out]; decide), if_pos hd]
      clear hd
      go_wp2_with fail
      refine (specCopy_any _ _ _ L S O w2 (HA.out w2 (HG.out w2 HB2.out).2.2.2) HN.out).mono ?_
      rintro e wc ⟨x, y, z, rfl, hr, hh, hBc⟩
      obtain ⟨b1, d1, b2, d2, b3, d3, ex, ey, ez⟩ := hr.slices
      subst ex ey ez
      have HBc : Hid (Below X.heap.size X wc) := HB2.out.trans (hBc.mono HB2.out.size)
      have HHc : Hid _ := hh
      have HR3 : Hid (At3 wc (w.heap.size + 1 + 1) 27 (.slice none 0 0) (.slice none 0 0) (.slice none 0 0)) := (HG.out wc HBc.out).2.2.1
      have HLT : Hid (w.heap.size + 1 + 1 < w2.heap.size) := (HG.out w2 HB2.out).2.2.1.lt
      obtain ⟨q, hq⟩ : ∃ q, q = #[Value.slice b1 L.length d1, .slice b2 S.length d2, .slice b3 O.length d3] := ⟨_, rfl⟩
      have hi6 : (Try.prog.info? 27).map (·.size) = some q.size := by rw [hq]; exact infoDk
      have ho6 : (#[Value.slice none 0 0, .slice none 0 0, .slice none 0 0] : Array Value).size = q.size := by rw [hq]; rfl
      have h16 : q.all (·.oneCell') = true := by rw [hq]; simp [Value.oneCell']
      clear hr hh hBc
      go_wp2_with (refine wpList_store_row rfl 27 _ _ rfl (w.heap.size + 1 + 1) q rfl (congrArg Value.agg hq.symm) 27 _ HR3.out hi6 ho6 h16 ?_)
      subst hq
      have hkz : ∀ k, w2.heap.size ≤ k → k < wc.heap.size → (wc.setRow (w.heap.size + 1 + 1) #[Value.slice b1 L.length d1, .slice b2 S.length d2, .slice b3 O.length d3]).heap[k]? = wc.heap[k]? := fun k h1 h2 => setRow_other _ _ _ _ (by have := HLT.out; omega)
      have hszz : wc.heap.size ≤ (wc.setRow (w.heap.size + 1 + 1) #[Value.slice b1 L.length d1, .slice b2 S.length d2, .slice b3 O.length d3]).heap.size := by simp [World.setRow]
      refine bodyPost_ret (v := .tuple #[.agg #[Value.slice b1 L.length d1, .slice b2 S.length d2, .slice b3 O.length d3], _]) (results_row_tmp rfl _ _ (w.heap.size + 1 + 1) 27 _ _ _ rfl (setRow_heap _ _ _ _ _ _ HR3.out) Try.underlying27 rfl hi6) rfl ⟨_, _, _, ret_val (by rw [HC.out]; rfl), ?_, (fun h => absurd (HC.out.symm.trans h) (by decide)), ?_⟩
      · rw [(act_no HC.out (by decide)).1, (act_no HC.out (by decide)).2]
        exact ⟨(HHc.out.1.kept hszz hkz).1, (HHc.out.2.1.kept hszz hkz).1, (HHc.out.2.2.kept hszz hkz).1⟩
      · exact below_setRow (HG.out wc HBc.out).2.2.2 (by omega) _
    | true =>
      have HDO : Hid ((doF L o).2 = true) := hd
      clear hd
      by_cases h200 : O.length = 200
      · have h200b : ((O.length : Int) == 200) = true := by simp; omega
        have HC : Hid (actC L O o = 4) := by show _ = _; unfold actC; rw [if_neg (by rw [HF.out]; decide), if_neg (by rw [HDO.out]; decide), if_pos (.inl h200)]
        clear h200
        go_wp2_with fail
        refine (specCopy_any _ _ _ L S O w2 (HA.out w2 (HG.out w2 HB2.out).2.2.2) HN.out).mono ?_
        rintro e wc ⟨x, y, z, rfl, hr, hh, hBc⟩
        obtain ⟨b1, d1, b2, d2, b3, d3, ex, ey, ez⟩ := hr.slices
        subst ex ey ez
        have HBc : Hid (Below X.heap.size X wc) := HB2.out.trans (hBc.mono HB2.out.size)
        have HHc : Hid _ := hh
        have HR3 : Hid (At3 wc (w.heap.size + 1 + 1) 27 (.slice none 0 0) (.slice none 0 0) (.slice none 0 0)) := (HG.out wc HBc.out).2.2.1
        have HLT : Hid (w.heap.size + 1 + 1 < w2.heap.size) := (HG.out w2 HB2.out).2.2.1.lt
        obtain ⟨q, hq⟩ : ∃ q, q = #[Value.slice b1 L.length d1, .slice b2 S.length d2, .slice b3 O.length d3] := ⟨_, rfl⟩
        have hi6 : (Try.prog.info? 27).map (·.size) = some q.size := by rw [hq]; exact infoDk
        have ho6 : (#[Value.slice none 0 0, .slice none 0 0, .slice none 0 0] : Array Value).size = q.size := by rw [hq]; rfl
        have h16 : q.all (·.oneCell') = true := by rw [hq]; simp [Value.oneCell']
        clear hr hh hBc
        go_wp2_with (refine wpList_store_row rfl 27 _ _ rfl (w.heap.size + 1 + 1) q rfl (congrArg Value.agg hq.symm) 27 _ HR3.out hi6 ho6 h16 ?_)
        subst hq
        have hkz : ∀ k, w2.heap.size ≤ k → k < wc.heap.size → (wc.setRow (w.heap.size + 1 + 1) #[Value.slice b1 L.length d1, .slice b2 S.length d2, .slice b3 O.length d3]).heap[k]? = wc.heap[k]? := fun k h1 h2 => setRow_other _ _ _ _ (by have := HLT.out; omega)
        have hszz : wc.heap.size ≤ (wc.setRow (w.heap.size + 1 + 1) #[Value.slice b1 L.length d1, .slice b2 S.length d2, .slice b3 O.length d3]).heap.size := by simp [World.setRow]
        refine bodyPost_ret (v := .tuple #[.agg #[Value.slice b1 L.length d1, .slice b2 S.length d2, .slice b3 O.length d3], _]) (results_row_tmp rfl _ _ (w.heap.size + 1 + 1) 27 _ _ _ rfl (setRow_heap _ _ _ _ _ _ HR3.out) Try.underlying27 rfl hi6) rfl ⟨_, _, _, ret_val (by rw [HC.out]; rfl), ?_, (fun h => absurd (HC.out.symm.trans h) (by decide)), ?_⟩
        · rw [(act_no HC.out (by decide)).1, (act_no HC.out (by decide)).2]
          exact ⟨(HHc.out.1.kept hszz hkz).1, (HHc.out.2.1.kept hszz hkz).1, (HHc.out.2.2.kept hszz hkz).1⟩
        · exact below_setRow (HG.out wc HBc.out).2.2.2 (by omega) _
      · have h200b : ((O.length : Int) == 200) = false := by simp; omega
        have HN2 : Hid (O.length ≠ 200) := h200
        clear h200
        go_wp2_with fail
        refine (files_any _ (doF L o).1 w2 HU2.out.rd (by have := doF_small (K := L) (o := o) (z := 100000000) HZ.out.l2 HOZ.out.1 HOZ.out.2.1; have := HL6.out; have := HOZ.out; omega) (small_at (doF_small (K := L) (o := o) (z := 100000000) HZ.out.l2 HOZ.out.1 HOZ.out.2.1).1 (by omega))).mono ?_
        rintro e w3 ⟨rfl, hB3⟩
        have HB3 : Hid (Below X.heap.size X w3) := HB2.out.trans (hB3.mono HB2.out.size)
        have HS13 : Hid (w1.heap.size ≤ w3.heap.size) := Nat.le_trans HS12.out hB3.size
        have HU3 : Hid (HoldF w3 w1.heap.size (.slice au (doF L o).1.length cu) (doF L o).1) := HU2.out.hold.below hB3
        clear hB3 c0 c1 c2 h200b
        have hg3 := HG.out w3 HB3.out
        have c0 := hg3.1.c0
        have c1 := hg3.1.c1
        have c2 := hg3.1.c2
        clear hg3
        cases hfb : filesB (doF L o).1 with
        | false =>
          have HC : Hid (actC L O o = 4) := by show _ = _; unfold actC; rw [if_neg (by rw [HF.out]; decide), if_neg (by rw [HDO.out]; decide), if_pos (.inr hfb)]
          clear hfb
          go_wp2_with fail
          refine (specCopy_any _ _ _ L S O w3 (HA.out w3 (HG.out w3 HB3.out).2.2.2) HN.out).mono ?_
          rintro e wc ⟨x, y, z, rfl, hr, hh, hBc⟩
          obtain ⟨b1, d1, b2, d2, b3, d3, ex, ey, ez⟩ := hr.slices
          subst ex ey ez
          have HBc : Hid (Below X.heap.size X wc) := HB3.out.trans (hBc.mono HB3.out.size)
          have HHc : Hid _ := hh
          have HR3 : Hid (At3 wc (w.heap.size + 1 + 1) 27 (.slice none 0 0) (.slice none 0 0) (.slice none 0 0)) := (HG.out wc HBc.out).2.2.1
          have HLT : Hid (w.heap.size + 1 + 1 < w3.heap.size) := (HG.out w3 HB3.out).2.2.1.lt
          obtain ⟨q, hq⟩ : ∃ q, q = #[Value.slice b1 L.length d1, .slice b2 S.length d2, .slice b3 O.length d3] := ⟨_, rfl⟩
          have hi6 : (Try.prog.info? 27).map (·.size) = some q.size := by rw [hq]; exact infoDk
          have ho6 : (#[Value.slice none 0 0, .slice none 0 0, .slice none 0 0] : Array Value).size = q.size := by rw [hq]; rfl
          have h16 : q.all (·.oneCell') = true := by rw [hq]; simp [Value.oneCell']
          clear hr hh hBc
          go_wp2_with (refine wpList_store_row rfl 27 _ _ rfl (w.heap.size + 1 + 1) q rfl (congrArg Value.agg hq.symm) 27 _ HR3.out hi6 ho6 h16 ?_)
          subst hq
          have hkz : ∀ k, w3.heap.size ≤ k → k < wc.heap.size → (wc.setRow (w.heap.size + 1 + 1) #[Value.slice b1 L.length d1, .slice b2 S.length d2, .slice b3 O.length d3]).heap[k]? = wc.heap[k]? := fun k h1 h2 => setRow_other _ _ _ _ (by have := HLT.out; omega)
          have hszz : wc.heap.size ≤ (wc.setRow (w.heap.size + 1 + 1) #[Value.slice b1 L.length d1, .slice b2 S.length d2, .slice b3 O.length d3]).heap.size := by simp [World.setRow]
          refine bodyPost_ret (v := .tuple #[.agg #[Value.slice b1 L.length d1, .slice b2 S.length d2, .slice b3 O.length d3], _]) (results_row_tmp rfl _ _ (w.heap.size + 1 + 1) 27 _ _ _ rfl (setRow_heap _ _ _ _ _ _ HR3.out) Try.underlying27 rfl hi6) rfl ⟨_, _, _, ret_val (by rw [HC.out]; rfl), ?_, (fun h => absurd (HC.out.symm.trans h) (by decide)), ?_⟩
          · rw [(act_no HC.out (by decide)).1, (act_no HC.out (by decide)).2]
            exact ⟨(HHc.out.1.kept hszz hkz).1, (HHc.out.2.1.kept hszz hkz).1, (HHc.out.2.2.kept hszz hkz).1⟩
          · exact below_setRow (HG.out wc HBc.out).2.2.2 (by omega) _
        | true =>
          have HC : Hid (actC L O o = 0) := by show _ = _; unfold actC; rw [if_neg (by rw [HF.out]; decide), if_neg (by rw [HDO.out]; decide), if_neg (fun h => h.elim HN2.out (fun h => by rw [hfb] at h; cases h))]
          clear hfb
          go_wp2_with fail
          refine (specCopy_any _ _ _ L S O w3 (HA.out w3 (HG.out w3 HB3.out).2.2.2) HN.out).mono ?_
          rintro e w4 ⟨x, y, z, rfl, hr, hh, hB4⟩
          obtain ⟨b1, d1, b2, d2, b3, d3, ex, ey, ez⟩ := hr.slices
          subst ex ey ez
          have HB4 : Hid (Below X.heap.size X w4) := HB3.out.trans (hB4.mono HB3.out.size)
          have HU4 : Hid (HoldF w4 w1.heap.size (.slice au (doF L o).1.length cu) (doF L o).1) := HU3.out.below hB4
          have hS34 : w3.heap.size ≤ w4.heap.size := hB4.size
          have HH4 : Hid (HoldF w4 w3.heap.size (.slice b1 L.length d1) L ∧ HoldF w4 w3.heap.size (.slice b2 S.length d2) S ∧ HoldO w4 w3.heap.size (.slice b3 O.length d3) O) := hh
          clear hr hh hB4 c0 c1 c2
          obtain ⟨X5, hX5⟩ : ∃ X5, X5 = w4.alloc (.cells #[.slice au (doF L o).1.length cu, .slice b2 S.length d2, .slice b3 O.length d3] 27) := ⟨_, rfl⟩
          have hB5 : Below w4.heap.size w4 X5 := by rw [hX5]; exact (Below.refl _ _).alloc (Nat.le_refl _) _
          have HX5 := (show Hid _ from hX5)
          have HBX5 : Hid (Below X.heap.size X X5) := HB4.out.trans (hB5.mono HB4.out.size)
          have HO5 : Hid (At3 X5 w4.heap.size 27 (.slice au (doF L o).1.length cu) (.slice b2 S.length d2) (.slice b3 O.length d3)) := by rw [hX5]; exact At3.new _ _ _ _ _
          have HU5 : Hid (HoldF X5 w1.heap.size (.slice au (doF L o).1.length cu) (doF L o).1) := HU4.out.below hB5
          have HH5 : Hid (HoldF X5 w3.heap.size (.slice b2 S.length d2) S ∧ HoldO X5 w3.heap.size (.slice b3 O.length d3) O) := ⟨HH4.out.2.1.below hB5, HH4.out.2.2.below hB5⟩
          have k0 : X5.cell? ⟨w.heap.size + 1, 0, none⟩ = some (.int .i64 o.k) := cellN (HG.out X5 HBX5.out).2.1
          have k1 : X5.cell? ⟨w.heap.size + 1, 1, none⟩ = some (.string o.n) := cellN (HG.out X5 HBX5.out).2.1
          have k2 : X5.cell? ⟨w.heap.size + 1, 2, none⟩ = some (.string o.t) := cellN (HG.out X5 HBX5.out).2.1
          have k3 : X5.cell? ⟨w.heap.size + 1, 3, none⟩ = some (.string o.d) := cellN (HG.out X5 HBX5.out).2.1
          rw [hX5] at k0 k1 k2 k3
          have HOx : Hid (∀ oo, ((w4.alloc (.cells #[.slice au (doF L o).1.length cu, .slice b2 S.length d2, .slice b3 O.length d3] 27)).alloc oo).ownsRow w3.heap.size 49 4 (.slice b3 O.length d3) O.length (cellsO O)) := fun oo => by
            rw [← hX5]
            exact ownsRow_below HH5.out.2.row ((Below.refl _ _).alloc (Nat.le_refl _) _)
          have HMX : Hid (O.length + 1 ≤ maxLen ∧ (O.length + 1) * 56 ≤ 140737488355328 ∧ w3.heap.size ≤ w4.heap.size) := ⟨by have := HN.out; unfold maxLen; omega, by have := HN.out; omega, hS34⟩
          have HFIN : Hid (∀ oo v7 w7, w7.ownsRow w3.heap.size 49 4 v7 (O.length + 1) (cellsO O ++ [.int .i64 o.k, .string o.n, .string o.t, .string o.d]) → (X5.alloc oo).grownBy w7 (Value.slice b3 O.length d3).ownBlock → HoldF w7 w1.heap.size (.slice au (doF L o).1.length cu) (doF L o).1 ∧ HoldF w7 w3.heap.size (.slice b2 S.length d2) S ∧ HoldO w7 w3.heap.size v7 (O ++ [o]) ∧ At3 w7 w4.heap.size 27 (.slice au (doF L o).1.length cu) (.slice b2 S.length d2) (.slice b3 O.length d3) ∧ At3 w7 (w.heap.size + 1 + 1) 27 (.slice none 0 0) (.slice none 0 0) (.slice none 0 0) ∧ Below w.heap.size w w7) := fun oo v7 w7 hown hgrow => by
            have hbx : Below X5.heap.size X5 (X5.alloc oo) := (Below.refl _ _).alloc (Nat.le_refl _) _
            have hz : ∀ b, (Value.slice b3 O.length d3).ownBlock = some b → w3.heap.size ≤ b ∧ b < w4.heap.size := fun b hb => HH4.out.2.2.2.lt b hb
            have hty : ∀ b, (Value.slice b3 O.length d3).ownBlock = some b → ∃ cs, (X5.alloc oo).heap[b]? = some (.cells cs 49 (0, 0)) := fun b hb => (HH5.out.2.2.below hbx).cells hb
            have nf : ∀ (base : Nat) (v : Value) (M : List Fl), HoldF X5 base v M → HoldF w7 base v M := fun base v M hv => by
              have hv' := hv.below hbx
              refine ⟨hv'.1.own hv'.2 hgrow.size (fun k hk => hgrow.block k (hv'.2.lt k hk).2 (fun e => ?_)), hv'.2.blk (fun k hk => hgrow.block k (hv'.2.lt k hk).2 (fun e => ?_))⟩
              · exact OwA24 hv'.2 (HH5.out.2.2.below hbx) hk e.symm
              · exact OwA24 hv'.2 (HH5.out.2.2.below hbx) hk e.symm
            have hg5 := HG.out X5 HBX5.out
            refine ⟨nf _ _ _ HU5.out, nf _ _ _ HH5.out.1, ?_, ?_, ?_, ?_⟩
            · have hco : cellsO (O ++ [o]) = cellsO O ++ [.int .i64 o.k, .string o.n, .string o.t, .string o.d] := by rw [cellsO_append]; rfl
              have hrow : w7.ownsRow w3.heap.size 49 4 v7 (O ++ [o]).length (cellsO (O ++ [o])) := by rw [hco, List.length_append]; exact hown
              exact ⟨rdO_of hrow, ⟨_, hrow⟩⟩
            · refine (hgrow.block _ (HO5.out.below hbx).lt (fun e => ?_)).trans (HO5.out.below hbx)
              have := hz _ e.symm; omega
            · refine (hgrow.block _ (hg5.2.2.1.below hbx).lt (fun e => ?_)).trans (hg5.2.2.1.below hbx)
              obtain ⟨cs, hcs⟩ := hty _ e.symm
              have h3 := hg5.2.2.1.below hbx
              unfold At3 at h3
              rw [h3] at hcs
              cases hcs
            · have hb := hg5.2.2.2.trans (hbx.mono hg5.2.2.2.size)
              refine hb.grown hgrow hb.size (fun x hx => ?_)
              have := (hz x hx).1
              have := (HG.out w3 HB3.out).2.2.2.size
              omega
          clear hX5 hB5
          obtain ⟨i0, hi, hz0, hz1, hz2⟩ := info_parts infoDOpT
          go_wp2_with (first | (at_builtin; refine wpList_append_own _ rfl _ _ 25 rfl w3.heap.size 49 i0 (.agg #[.int .i64 0, .string ⟨#[]⟩, .string ⟨#[]⟩, .string ⟨#[]⟩]) 4 56 Try.underlying25 hi hz0 hz1 hz2 rfl (by decide) _ O.length _ rfl (HOx.out _) ⟨w4.heap.size + 1, 0, none⟩ 1 1 [.int .i64 o.k, .string o.n, .string o.t, .string o.d] rfl rfl (by have := World.news_of_block (heap_alloc_new (w4.alloc (.cells #[.slice au (doF L o).1.length cu, .slice b2 S.length d2, .slice b3 O.length d3] 27)) (.cells #[.int .i64 o.k, .string o.n, .string o.t, .string o.d] 49)); simpa using this) (by simp [Value.oneCell']) HMX.out.1 HMX.out.2.1 (by simp; have := HMX.out.2.2; omega) ?_; intro v7 w7 hown7 hgrow7 hnil7; rw [← HX5.out] at hgrow7; have HE := (show Hid _ from HFIN.out _ v7 w7 hown7 hgrow7); obtain ⟨a7, c7, e7⟩ := HE.out.2.2.1.2.slice; rw [List.length_append] at e7; subst e7; clear hown7 hgrow7 hnil7; have f2 : w7.frozen? ⟨w4.heap.size, 2, none⟩ = false := frozN HE.out.2.2.2.1; have r0 := HE.out.2.2.2.1.c0; have r1 := HE.out.2.2.2.1.c1; have r2 := HE.out.2.2.2.1.c2; obtain ⟨q, hq, hi6, ho6, h16⟩ := row3 au b2 a7 (doF L o).1.length cu S.length d2 (O.length + 1) c7; have HLT : Hid (w.heap.size + 1 + 1 < w1.heap.size ∧ w1.heap.size ≤ w3.heap.size ∧ w3.heap.size ≤ w4.heap.size) := ⟨(HG.out w1 HB1.out).2.2.1.lt, HS13.out, HMX.out.2.2⟩; have HR7 : Hid ((w7.setCell ⟨w4.heap.size, 2, none⟩ (.slice a7 (O.length + 1) c7)).heap[w.heap.size + 1 + 1]? = some (.cells #[.slice none 0 0, .slice none 0 0, .slice none 0 0] 27 (0, 0))) := (Below.heap_setCell _ _ _ _ (by have := HLT.out; dsimp only; omega)).trans HE.out.2.2.2.2.1) | (refine wpList_store_row rfl 27 _ _ rfl (w.heap.size + 1 + 1) q rfl (congrArg Value.agg hq.symm) 27 _ HR7.out hi6 ho6 h16 ?_))
          subst hq
          have hw7 : ∀ k, k ≠ w4.heap.size → k ≠ w.heap.size + 1 + 1 → ((w7.setCell ⟨w4.heap.size, 2, none⟩ (.slice a7 (O.length + 1) c7)).setRow (w.heap.size + 1 + 1) #[Value.slice au (doF L o).1.length cu, .slice b2 S.length d2, .slice a7 (O.length + 1) c7]).heap[k]? = w7.heap[k]? := fun k h1 h2 => (setRow_other _ _ _ _ h2).trans (Below.heap_setCell _ _ _ _ h1)
          have hs7 : w7.heap.size ≤ ((w7.setCell ⟨w4.heap.size, 2, none⟩ (.slice a7 (O.length + 1) c7)).setRow (w.heap.size + 1 + 1) #[Value.slice au (doF L o).1.length cu, .slice b2 S.length d2, .slice a7 (O.length + 1) c7]).heap.size := by simp [World.setRow, World.setCell]
          have hlt := HLT.out
          have hkA : ∀ (base : Nat) (v : Value) (M : List Fl), w1.heap.size ≤ base → HoldF w7 base v M → ∀ k, v.ownBlock = some k → ((w7.setCell ⟨w4.heap.size, 2, none⟩ (.slice a7 (O.length + 1) c7)).setRow (w.heap.size + 1 + 1) #[Value.slice au (doF L o).1.length cu, .slice b2 S.length d2, .slice a7 (O.length + 1) c7]).heap[k]? = w7.heap[k]? := fun base v M hb hv k hk => hw7 k (fun e => by
            obtain ⟨cs, hcs⟩ := hv.2.cells hk
            have h4 := HE.out.2.2.2.1
            unfold At3 at h4
            rw [e, h4] at hcs
            cases hcs) (by have := (hv.2.lt k hk).1; omega)
          have tA : ∀ (base : Nat) (v : Value) (M : List Fl), w1.heap.size ≤ base → HoldF w7 base v M → HoldF ((w7.setCell ⟨w4.heap.size, 2, none⟩ (.slice a7 (O.length + 1) c7)).setRow (w.heap.size + 1 + 1) #[Value.slice au (doF L o).1.length cu, .slice b2 S.length d2, .slice a7 (O.length + 1) c7]) base v M := fun base v M hb hv => ⟨hv.1.own hv.2 hs7 (hkA base v M hb hv), hv.2.blk (hkA base v M hb hv)⟩
          have h1 := tA _ _ _ (Nat.le_refl _) HE.out.1
          have h2 := tA _ _ _ hlt.2.1 HE.out.2.1
          have hv := HE.out.2.2.1
          have hkO : ∀ k, (Value.slice a7 (O.length + 1) c7).ownBlock = some k → ((w7.setCell ⟨w4.heap.size, 2, none⟩ (.slice a7 (O.length + 1) c7)).setRow (w.heap.size + 1 + 1) #[Value.slice au (doF L o).1.length cu, .slice b2 S.length d2, .slice a7 (O.length + 1) c7]).heap[k]? = w7.heap[k]? := fun k hk => hw7 k (fun e => by
            obtain ⟨cs, hcs⟩ := hv.2.cells hk
            have h4 := HE.out.2.2.2.1
            unfold At3 at h4
            rw [e, h4] at hcs
            cases hcs) (by have := (hv.2.lt k hk).1; omega)
          have hsw := (HG.out w1 HB1.out).2.2.2.size
          have hres : HasD ((w7.setCell ⟨w4.heap.size, 2, none⟩ (.slice a7 (O.length + 1) c7)).setRow (w.heap.size + 1 + 1) #[Value.slice au (doF L o).1.length cu, .slice b2 S.length d2, .slice a7 (O.length + 1) c7]) w.heap.size (.slice au (doF L o).1.length cu) (.slice b2 S.length d2) (.slice a7 (O.length + 1) c7) (actL L O o) S (actO L O o) := by
            rw [(act_yes HC.out).1, (act_yes HC.out).2]
            exact ⟨⟨h1.1, h2.1, hv.1.own hv.2 hs7 hkO⟩, h1.2.base hsw, h2.2.base (by omega), (hv.2.blk hkO).base (by omega), .inl (fun b hb e => by
              have := (HU3.out.2.lt b hb).2
              have := (h2.2.lt b e).1
              omega)⟩
          refine bodyPost_ret (v := .tuple #[.agg #[.slice au (doF L o).1.length cu, .slice b2 S.length d2, .slice a7 (O.length + 1) c7], _]) (results_row_tmp rfl _ _ (w.heap.size + 1 + 1) 27 _ _ _ rfl (setRow_heap _ _ _ _ _ _ HR7.out) Try.underlying27 rfl hi6) rfl ⟨_, _, _, ret_val (by rw [HC.out]; rfl), hres.rd, (fun _ => hres), ?_⟩
          · have hlt := HLT.out
            have hsz := (HG.out w1 HB1.out).2.2.2.size
            exact below_setRow (HE.out.2.2.2.2.2.setCell (p := ⟨w4.heap.size, 2, none⟩) (by show w.heap.size ≤ w4.heap.size; omega) _) (by omega) _

set_option maxRecDepth 10000 in
set_option maxHeartbeats 4000000 in
theorem specDo2_any (vL vS vO : Value) (L S : List Fl) (O : List Dop) (o : Dop) (w : World) (h : RdD w vL vS vO L S O) (hz : SmallD L S O) (hn : L.length ≤ 1048576 ∧ S.length ≤ 1048576 ∧ O.length ≤ 1048576) (ho : o.n.size ≤ 100000000 ∧ o.t.size ≤ 100000000 ∧ o.d.size ≤ 100000000) :
    Calls Try.prog 15 #[.agg #[vL, vS, vO], .agg (encO o)] w fun e w' => ∃ x y z, e = .returned (.tuple #[.agg #[x, y, z], .int .i64 (dC L S O o : Int)]) ∧ RdD w' x y z (dL L S O o) (dS L S O) (dO L S O o) ∧ (dC L S O o = 0 → HasD w' w.heap.size x y z (dL L S O o) (dS L S O) (dO L S O o)) ∧ Below w.heap.size w w' := by
  have HN : Hid (L.length ≤ 1048576 ∧ S.length ≤ 1048576 ∧ O.length ≤ 1048576) := hn
  have HZ : Hid (SmallD L S O) := hz
  have HOZ : Hid (o.n.size ≤ 100000000 ∧ o.t.size ≤ 100000000 ∧ o.d.size ≤ 100000000) := ho
  have HA : Hid (∀ w', Below w.heap.size w w' → RdD w' vL vS vO L S O) := fun w' hB => h.below hB
  obtain ⟨aL, cL, rfl⟩ := h.1.slice
  obtain ⟨aS, cS, rfl⟩ := h.2.1.slice
  obtain ⟨aO, cO, rfl⟩ := h.2.2.slice
  clear h hz hn ho
  change Calls _ _ #[.agg #[.slice aL L.length cL, .slice aS S.length cS, .slice aO O.length cO], .agg #[.int .i64 o.k, .string o.n, .string o.t, .string o.d]] w _
  obtain ⟨X, hX⟩ : ∃ X, X = ((w.alloc (.cells #[.slice aL L.length cL, .slice aS S.length cS, .slice aO O.length cO] 27)).alloc (.cells #[.int .i64 o.k, .string o.n, .string o.t, .string o.d] 49)).alloc (.cells #[.slice none 0 0, .slice none 0 0, .slice none 0 0] 27) := ⟨_, rfl⟩
  have hBX : Below w.heap.size w X := by rw [hX]; exact (((Below.refl _ _).alloc (Nat.le_refl _) _).alloc (by simp) _).alloc (by simp; omega) _
  have gX : X.heap[w.heap.size]? = some (.cells #[.slice aL L.length cL, .slice aS S.length cS, .slice aO O.length cO] 27 (0, 0)) := by rw [hX, Below.heap_alloc _ _ _ (by simp; omega), Below.heap_alloc _ _ _ (by simp)]; exact heap_alloc_new _ _
  have gO : X.heap[w.heap.size + 1]? = some (.cells #[.int .i64 o.k, .string o.n, .string o.t, .string o.d] 49 (0, 0)) := by
    rw [hX, Below.heap_alloc _ _ _ (by simp)]
    have := heap_alloc_new (w.alloc (.cells #[.slice aL L.length cL, .slice aS S.length cS, .slice aO O.length cO] 27)) (.cells #[.int .i64 o.k, .string o.n, .string o.t, .string o.d] 49)
    simpa using this
  have gR : X.heap[w.heap.size + 1 + 1]? = some (.cells #[.slice none 0 0, .slice none 0 0, .slice none 0 0] 27 (0, 0)) := by
    rw [hX]
    have := heap_alloc_new ((w.alloc (.cells #[.slice aL L.length cL, .slice aS S.length cS, .slice aO O.length cO] 27)).alloc (.cells #[.int .i64 o.k, .string o.n, .string o.t, .string o.d] 49)) (.cells #[.slice none 0 0, .slice none 0 0, .slice none 0 0] 27)
    simpa using this
  have HX := (show Hid _ from hX)
  have HBX : Hid (Below w.heap.size w X) := hBX
  have HG : Hid (∀ w', Below X.heap.size X w' → At3 w' w.heap.size 27 (.slice aL L.length cL) (.slice aS S.length cS) (.slice aO O.length cO) ∧ w'.heap[w.heap.size + 1]? = some (.cells #[.int .i64 o.k, .string o.n, .string o.t, .string o.d] 49 (0, 0)) ∧ At3 w' (w.heap.size + 1 + 1) 27 (.slice none 0 0) (.slice none 0 0) (.slice none 0 0) ∧ Below w.heap.size w w') := fun w' hB => ⟨(hB.block _ (lt_of_block gX)).trans gX, (hB.block _ (lt_of_block gO)).trans gO, (hB.block _ (lt_of_block gR)).trans gR, hBX.trans (hB.mono hBX.size)⟩
  have k0 : X.cell? ⟨w.heap.size + 1, 0, none⟩ = some (.int .i64 o.k) := cellN gO
  have k1 : X.cell? ⟨w.heap.size + 1, 1, none⟩ = some (.string o.n) := cellN gO
  have k2 : X.cell? ⟨w.heap.size + 1, 2, none⟩ = some (.string o.t) := cellN gO
  have k3 : X.cell? ⟨w.heap.size + 1, 3, none⟩ = some (.string o.d) := cellN gO
  rw [hX] at k0 k1 k2 k3
  have c0 : X.cell? ⟨w.heap.size, 0, none⟩ = some (.slice aL L.length cL) := cellN gX
  have c1 : X.cell? ⟨w.heap.size, 1, none⟩ = some (.slice aS S.length cS) := cellN gX
  have c2 : X.cell? ⟨w.heap.size, 2, none⟩ = some (.slice aO O.length cO) := cellN gX
  rw [hX] at c0 c1 c2
  clear hX hBX gX gO gR
  go_enter Try.func15, Try.ntmps15
  go_wp2_with fail
  rw [← HX.out]
  have hAX := HA.out X HBX.out
  refine (specDisk_any _ _ _ L S O X hAX.1 hAX.2.1 hAX.2.2 HZ.out).mono ?_
  rintro e w1 ⟨rfl, hB1⟩
  have HB1 : Hid (Below X.heap.size X w1) := hB1
  clear k0 k1 k2 k3 c0 c1 c2 HX hB1 hAX
  have hg1 := HG.out w1 HB1.out
  cases hd : diskB L S O with
  | false =>
    have HD := (show Hid _ from d_no o hd)
    have HR3 : Hid (At3 w1 (w.heap.size + 1 + 1) 27 (.slice none 0 0) (.slice none 0 0) (.slice none 0 0)) := hg1.2.2.1
    obtain ⟨q, hq, hi6, ho6, h16⟩ := row3 none none none 0 0 0 0 0 0
    clear hg1 hd
    go_wp2_with (refine wpList_store_row rfl 27 _ _ rfl (w.heap.size + 1 + 1) q rfl (congrArg Value.agg hq.symm) 27 _ HR3.out hi6 ho6 h16 ?_)
    subst hq
    refine bodyPost_ret (v := .tuple #[.agg #[.slice none 0 0, .slice none 0 0, .slice none 0 0], _]) (results_row_tmp rfl _ _ (w.heap.size + 1 + 1) 27 _ _ _ rfl (setRow_heap _ _ _ _ _ _ HR3.out) Try.underlying27 rfl hi6) rfl ⟨_, _, _, ret_val (by rw [HD.out.1]; rfl), ?_, (fun h => absurd (HD.out.1.symm.trans h) (by decide)), ?_⟩
    · rw [HD.out.2.1, HD.out.2.2.1, HD.out.2.2.2]
      exact ⟨(HoldF.nil _ 0).1, (HoldF.nil _ 0).1, (HoldO.nil _ 0).1⟩
    · exact below_setRow (HG.out w1 HB1.out).2.2.2 (by omega) _
  | true =>
    have HD := (show Hid _ from d_yes o hd)
    have HL6 : Hid (L.length ≤ 60 ∧ tot L ≤ 200000) := ⟨(filesB_parts (disk_live hd).1).1, (filesB_parts (disk_live hd).1).2.1⟩
    have c0 := hg1.1.c0
    have c1 := hg1.1.c1
    have c2 := hg1.1.c2
    have k0 : w1.cell? ⟨w.heap.size + 1, 0, none⟩ = some (.int .i64 o.k) := cellN hg1.2.1
    have k1 : w1.cell? ⟨w.heap.size + 1, 1, none⟩ = some (.string o.n) := cellN hg1.2.1
    have k2 : w1.cell? ⟨w.heap.size + 1, 2, none⟩ = some (.string o.t) := cellN hg1.2.1
    have k3 : w1.cell? ⟨w.heap.size + 1, 3, none⟩ = some (.string o.d) := cellN hg1.2.1
    clear hg1 hd
    go_wp2_with fail
    refine (specAct2_any _ _ _ L S O o w1 (HA.out w1 (HG.out w1 HB1.out).2.2.2) HZ.out HN.out HL6.out HOZ.out).mono ?_
    rintro e w2 ⟨x, y, z, rfl, hr, hx, hB2⟩
    obtain ⟨b1, d1, b2, d2, b3, d3, ex, ey, ez⟩ := hr.slices
    have HB2 : Hid (Below X.heap.size X w2) := HB1.out.trans (hB2.mono HB1.out.size)
    have HR3 : Hid (At3 w2 (w.heap.size + 1 + 1) 27 (.slice none 0 0) (.slice none 0 0) (.slice none 0 0)) := (HG.out w2 HB2.out).2.2.1
    have HRR : Hid (RdD w2 x y z (actL L O o) S (actO L O o)) := hr
    have HHX : Hid (actC L O o = 0 → HasD w2 w1.heap.size x y z (actL L O o) S (actO L O o)) := hx
    obtain ⟨m1, hm1⟩ : ∃ m, m = (actL L O o).length := ⟨_, rfl⟩
    obtain ⟨m3, hm3⟩ : ∃ m, m = (actO L O o).length := ⟨_, rfl⟩
    rw [← hm1] at ex
    rw [← hm3] at ez
    subst ex ey ez
    obtain ⟨C, hC⟩ : ∃ C, C = actC L O o := ⟨_, rfl⟩
    have HCC : Hid (C = actC L O o) := hC
    rw [← hC]
    obtain ⟨q, hq, hi6, ho6, h16⟩ := row3 b1 b2 b3 m1 d1 S.length d2 m3 d3
    clear hr hx hB2 c0 c1 c2 k0 k1 k2 k3 hm1 hm3 hC
    go_wp2_with (refine wpList_store_row rfl 27 _ _ rfl (w.heap.size + 1 + 1) q rfl (congrArg Value.agg hq.symm) 27 _ HR3.out hi6 ho6 h16 ?_)
    subst hq
    refine bodyPost_ret (v := .tuple #[.agg #[.slice b1 m1 d1, .slice b2 S.length d2, .slice b3 m3 d3], _]) (results_row_tmp rfl _ _ (w.heap.size + 1 + 1) 27 _ _ _ rfl (setRow_heap _ _ _ _ _ _ HR3.out) Try.underlying27 rfl hi6) rfl ⟨_, _, _, ret_val (by rw [HD.out.1, ← HCC.out]; rfl), ?_, (fun h => ?_), ?_⟩
    · rw [HD.out.2.1, HD.out.2.2.1, HD.out.2.2.2]
      exact HRR.out.row HR3.out _
    · rw [HD.out.2.1, HD.out.2.2.1, HD.out.2.2.2]
      exact ((HHX.out (HD.out.1.symm.trans h)).base (HG.out w1 HB1.out).2.2.2.size).row HR3.out _
    · exact below_setRow (HG.out w2 HB2.out).2.2.2 (by omega) _

end Go.Proofs.Ytbohaefmokbgbaa
