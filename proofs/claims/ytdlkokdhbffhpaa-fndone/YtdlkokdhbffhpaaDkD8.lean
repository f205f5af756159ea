/-
  What the specification's Sync and Do answer is owned: no block of it lay there before. No condition but that the slices read and that the sizes are small.
  The reader of codes, its small methods: whatever the code, they return a number in its range, and leave all memory but the reader's own as it was. Condition: the code reads as bytes.
  Drawn disks: the reader of codes, and what it draws of ops. No condition.
  Disks, plainly: a right disk stays right behind Sync and Do; what is left of it when all ops are kept, and when none is. No condition.
  A drawn disk reads, its sizes are small, and the reader of codes stays. No condition.
  FnCrashedSaid, under way: the drawing, the comparison, the walk of the law. No condition but that the code reads.
  Drawn disks and ops: spec.DrawDo. No condition but that the code reads.
  What DrawDo's last region keeps. No condition.
  spec.DrawDo: a disk and an op. No condition but that the code reads.
-/
import Derived.Test.YtdlkokdhbffhpaaDkDs
import Derived.Test.YtdlkokdhbffhpaaBase
import Derived.Test.YtdlkokdhbffhpaaDkCs
import Derived.Test.YtdlkokdhbffhpaaDkDk
namespace Go.Proofs.Ytdlkokdhbffhpaa
open Go.RowKit
set_option linter.unusedVariables false

/-- a disk that reads and whose slices are owned, from base on -/
structure HasD (w : World) (base : Nat) (x y z : Value) (L S : List Fl) (O : List Dop) : Prop where
  rd : RdD w x y z L S O
  l : OwA2 w base x L.length
  s : OwA2 w base y S.length
  o : OwA4 w base z O.length
  ap : (∀ b, x.ownBlock = some b → y.ownBlock ≠ some b) ∨ S = []
theorem HasD.kept {w w' : World} {base : Nat} {x y z : Value} {L S : List Fl} {O : List Dop} (h : HasD w base x y z L S O) (hs : w.heap.size ≤ w'.heap.size) (he : ∀ k, x.ownBlock = some k ∨ y.ownBlock = some k ∨ z.ownBlock = some k → w'.heap[k]? = w.heap[k]?) : HasD w' base x y z L S O :=
  ⟨⟨h.rd.1.own h.l hs (fun k hk => he k (.inl hk)), h.rd.2.1.own h.s hs (fun k hk => he k (.inr (.inl hk))), h.rd.2.2.own h.o hs (fun k hk => he k (.inr (.inr hk)))⟩, h.l.blk (fun k hk => he k (.inl hk)), h.s.blk (fun k hk => he k (.inr (.inl hk))), h.o.blk (fun k hk => he k (.inr (.inr hk))), h.ap⟩
theorem HasD.lt {w : World} {base : Nat} {x y z : Value} {L S : List Fl} {O : List Dop} (h : HasD w base x y z L S O) {k : Nat} (hk : x.ownBlock = some k ∨ y.ownBlock = some k ∨ z.ownBlock = some k) : base ≤ k ∧ k < w.heap.size := by
  rcases hk with e | e | e
  · exact h.l.lt k e
  · exact h.s.lt k e
  · exact h.o.lt k e
theorem HasD.below {w w' : World} {base : Nat} {x y z : Value} {L S : List Fl} {O : List Dop} (h : HasD w base x y z L S O) (hB : Below w.heap.size w w') : HasD w' base x y z L S O :=
  h.kept hB.size (fun k hk => hB.block k (h.lt hk).2)
theorem HasD.base {w : World} {base base' : Nat} {x y z : Value} {L S : List Fl} {O : List Dop} (h : HasD w base x y z L S O) (hb : base' ≤ base) : HasD w base' x y z L S O := ⟨h.rd, h.l.base hb, h.s.base hb, h.o.base hb, h.ap⟩
theorem HasD.nil (w : World) (base : Nat) : HasD w base (.slice none 0 0) (.slice none 0 0) (.slice none 0 0) [] [] [] := ⟨⟨(HoldF.nil _ 0).1, (HoldF.nil _ 0).1, (HoldO.nil _ 0).1⟩, OwA2.nil _ _, OwA2.nil _ _, OwA4.nil _ _, .inr rfl⟩
theorem HasD.not3 {w : World} {base : Nat} {x y z : Value} {L S : List Fl} {O : List Dop} (h : HasD w base x y z L S O) {g : Nat} {cs : Array Value} (hg : w.heap[g]? = some (.cells cs 30 (0, 0))) {k : Nat} (hk : x.ownBlock = some k ∨ y.ownBlock = some k ∨ z.ownBlock = some k) : k ≠ g := fun e => by
  rcases hk with hk | hk | hk
  · obtain ⟨c', hc'⟩ := h.l.cells hk
    rw [e, hg] at hc'
    cases hc'
  · obtain ⟨c', hc'⟩ := h.s.cells hk
    rw [e, hg] at hc'
    cases hc'
  · obtain ⟨c', hc'⟩ := h.o.cells hk
    rw [e, hg] at hc'
    cases hc'
theorem HasD.row {w : World} {base : Nat} {x y z : Value} {L S : List Fl} {O : List Dop} (h : HasD w base x y z L S O) {g : Nat} {cs : Array Value} (hg : w.heap[g]? = some (.cells cs 30 (0, 0))) (q : Array Value) : HasD (w.setRow g q) base x y z L S O :=
  h.kept (by simp [World.setRow]) (fun k hk => setRow_other _ _ _ _ (h.not3 hg hk))

theorem app9F (w : World) (base : Nat) (ty : TypeId) (g : Nat) (x : Value) (L : List Fl) (hg : w.heap[g]? = some (.cells #[] 66 (0, 0))) (hb : base ≤ g) (hx : RdF w x L) (hL : L.length ≤ 1048576) :
    ∃ v' w', (Builtin.append_ #[27, 27] ty #[.slice (some ⟨g, 0, none⟩) 0 0, x]).run Try.prog w = .ok v' w' ∧ HoldF w' base v' L ∧ Below w.heap.size w w' ∧ (L ≠ [] → ∀ k, v'.ownBlock = some k → w.heap.size ≤ k) := by
  obtain ⟨i0, hi, hz0, hz1, hz2⟩ := info_parts infoF
  have hgl := lt_of_block hg
  have hown : w.ownsRow base 66 2 (.slice (some ⟨g, 0, none⟩) 0 0) 0 [] := ⟨rfl, .inr ⟨g, 0, #[], rfl, hb, hg, Nat.le_refl _, Nat.zero_le _, rfl, rfl⟩⟩
  have hemp : HoldF w base (.slice (some ⟨g, 0, none⟩) 0 0) [] := ⟨⟨_, 0, rfl, Nat.le_refl _, by omega, fun h => absurd h (Nat.lt_irrefl _)⟩, ⟨[], hown⟩⟩
  obtain ⟨a, cap, rfl, hlc, hcm, hc⟩ := hx
  cases a with
  | none =>
    have hL0 : L = [] := by
      rcases Nat.eq_zero_or_pos L.length with h0 | h0
      · exact List.length_eq_zero_iff.1 h0
      · obtain ⟨b, off, e, _⟩ := hc h0
        cases e
    subst hL0
    refine ⟨.slice (some ⟨g, 0, none⟩) 0 0, w, ?_, hemp, Below.refl _ _, fun h => absurd rfl h⟩
    simp [Builtin.append_, run_underlying Try.underlying27, sizeOf, typeInfo, hi, Builtin.lenOf, Builtin.firstCells, storeCells]
  | some ad =>
    have hnews : ∀ j u, (cellsF L)[j]? = some u → w.cell? (ad.add j) = some u := fun j u hu => by
      have hj : j < L.length * 2 := by rw [← cellsF_len]; exact (List.getElem?_eq_some_iff.1 hu).1
      obtain ⟨b, off, e, hbs, hl⟩ := hc (by omega)
      cases e
      exact hl.news j u hu
    by_cases h0 : L.length = 0
    · have hL0 : L = [] := List.length_eq_zero_iff.1 h0
      subst hL0
      have hr := run_append_room (P := Try.prog) w 27 ty 66 i0 Try.underlying27 hi g 0 0 #[] hg ad 0 cap [] (by simp) (fun j u hu => by simp at hu) (by simp) (Nat.le_refl _) (by simp)
      refine ⟨_, _, hr, ⟨⟨_, 0, rfl, Nat.le_refl _, by omega, fun h => absurd h (Nat.lt_irrefl _)⟩, ⟨[], ⟨rfl, .inr ⟨g, 0, #[], rfl, hb, ?_, Nat.le_refl _, Nat.zero_le _, rfl, rfl⟩⟩⟩⟩, ⟨rfl, rfl, rfl, by simp [World.setRow], fun k hk => ?_⟩, fun h => absurd rfl h⟩
      · rw [setRow_heap _ _ _ _ _ _ hg]; simp
      · by_cases e : k = g
        · subst e; rw [setRow_heap _ _ _ _ _ _ hg, hg]; simp
        · exact setRow_other _ _ _ _ e
    · have h63 : 0 + L.length ≤ maxLen := by unfold maxLen; omega
      have hby : (0 + L.length) * 32 ≤ 140737488355328 := by omega
      obtain ⟨v', w', hr, h2, h3, h4⟩ := run_append_own (P := Try.prog) w base 27 ty 66 i0 (.agg #[.string ⟨#[]⟩, .string ⟨#[]⟩]) 2 32 Try.underlying27 hi hz0 hz1 hz2 rfl (by decide) (.slice (some ⟨g, 0, none⟩) 0 0) 0 [] hown ad L.length cap (cellsF L) (cellsF_len L) hnews (oneF L) h63 hby (by omega)
      have hr' := run_append_grow (P := Try.prog) w 27 ty 66 i0 (.agg #[.string ⟨#[]⟩, .string ⟨#[]⟩]) Try.underlying27 hi hz0 ⟨g, 0, none⟩ 0 0 [] (by simp) (fun j u hu => by simp at hu) ad L.length cap (cellsF L) (by rw [hz1]; exact cellsF_len L) hnews (by omega) (by omega) (growslice_fits (by omega) (by rw [hz2]; exact hby))
      rw [hr] at hr'
      have hw := Result.ok.inj hr'
      refine ⟨v', w', hr, ?_, ?_, fun _ k hk => ?_⟩
      · rw [List.nil_append, Nat.zero_add] at h2
        exact ⟨OwnF.rd h2, ⟨_, h2⟩⟩
      · rw [hw.2]
        exact ⟨rfl, rfl, rfl, by simp, fun k hk => by rw [Below.heap_alloc _ _ _ (by simpa using hk)]; rfl⟩
      · rw [hw.1] at hk
        have := Option.some.inj hk
        simp at this
        omega
theorem q_app9F (ev : Operand → Value) (o : Oper) (w : World) (x y : Operand) (base g : Nat) (L : List Fl) (h : o.op = .call { callee := .builtin .append, args := #[x, y], argTypes := #[27, 27] }) (hx : ev x = .slice (some ⟨g, 0, none⟩) 0 0) (hg : w.heap[g]? = some (.cells #[] 66 (0, 0))) (hb : base ≤ g) (hy : RdF w (ev y) L) (hL : L.length ≤ 1048576) :
    ∃ v' w', (execOp ev o).run Try.prog w = .ok (.value v') w' ∧ HoldF w' base v' L ∧ Below w.heap.size w w' ∧ (L ≠ [] → ∀ k, v'.ownBlock = some k → w.heap.size ≤ k) := by
  obtain ⟨v', w', hr, h1, h2, h3⟩ := app9F w base o.type g (ev y) L hg hb hy hL
  refine ⟨v', w', ?_, h1, h2, h3⟩
  simp only [execOp, h, resolve, invoke, builtin, Sem.run_bind, Sem.run_pure, Result.andThen_ok, List.map_toArray, List.map_cons, List.map_nil, hx, hr]
theorem wpOp_app9F {ops : Array Oper} {Q : Exit → Act → World → Prop} {i' : Nat} {o : Oper} {K : Act → World → Prop} {t : Act} {w : World} (ho : ops[i']? = some o) (hg : Region.wanted o (yielded ops t.tmps) = true) (x y : Operand) (base g : Nat) (L : List Fl) (h : o.op = .call { callee := .builtin .append, args := #[x, y], argTypes := #[27, 27] }) (hx : t.eval x = .slice (some ⟨g, 0, none⟩) 0 0) (hgh : w.heap[g]? = some (.cells #[] 66 (0, 0))) (hb : base ≤ g) (hy : RdF w (t.eval y) L) (hL : L.length ≤ 1048576)
    (hK : ∀ v w', HoldF w' base v L → Below w.heap.size w w' → (L ≠ [] → ∀ k, v.ownBlock = some k → w.heap.size ≤ k) → K (t.put o.dst v) w') : wpOp Try.prog ops Q i' K t w := by
  obtain ⟨v', w', hr, h1, h2, h3⟩ := q_app9F t.eval o w x y base g L h hx hgh hb hy hL
  exact wpOp_runG ho hg hr (hK v' w' h1 h2 h3)

def ZG (B base : Nat) (v : Value) (L : List Fl) : Nat → (Nat → Value) → World → Prop
  | 0, f, w => ∃ g, f 7 = .slice (some ⟨g, 0, none⟩) 0 0 ∧ base ≤ g ∧ w.heap[g]? = some (.cells #[] 66 (0, 0))
  | 1, f, w => f 8 = .pointer (some ⟨B, 0, none⟩)
  | 2, f, w => f 9 = v
  | 3, f, w => HoldF w base (f 10) L
  | 4, f, w => ∃ g, f 11 = .slice (some ⟨g, 0, none⟩) 0 0 ∧ base ≤ g ∧ w.heap[g]? = some (.cells #[] 66 (0, 0))
  | 5, f, w => f 12 = .pointer (some ⟨B, 0, none⟩)
  | 6, f, w => f 13 = v
  | 7, f, w => HoldF w base (f 14) L ∧ (L ≠ [] → ∀ k, (f 10).ownBlock = some k → (f 14).ownBlock ≠ some k)
  | 8, f, w => f 15 = .agg #[f 10, f 14, .slice none 0 0]
  | _, _, _ => True
theorem ZG.below {B base : Nat} {v : Value} {L : List Fl} {j : Nat} {f : Nat → Value} {w w' : World} (h : ZG B base v L j f w) (hB : Below w.heap.size w w') : ZG B base v L j f w' := by
  match j, h with
  | 0, h => exact (by obtain ⟨g, e, hb, hh⟩ := h; exact ⟨g, e, hb, (hB.block _ (lt_of_block hh)).trans hh⟩)
  | 1, h => exact h
  | 2, h => exact h
  | 3, h => exact HoldF.below (h) hB
  | 4, h => exact (by obtain ⟨g, e, hb, hh⟩ := h; exact ⟨g, e, hb, (hB.block _ (lt_of_block hh)).trans hh⟩)
  | 5, h => exact h
  | 6, h => exact h
  | 7, h => exact ⟨HoldF.below h.1 hB, h.2⟩
  | 8, h => exact h
  | (m + 9), _ => exact trivial
def depZg (j i : Nat) : Bool := match j with
  | 0 => i == 0
  | 1 => i == 1
  | 2 => i == 2
  | 3 => i == 3
  | 4 => i == 4
  | 5 => i == 5
  | 6 => i == 6
  | 7 => i == 7 || i == 3
  | 8 => i == 8 || i == 3 || i == 7
  | _ => false
theorem ZG.dep {B base : Nat} {v : Value} {L : List Fl} {j : Nat} {f f' : Nat → Value} {w : World} (hj : j < 9) (h : ZG B base v L j f w) (he : ∀ i, depZg j i = true → f (slotZ i) = f' (slotZ i)) : ZG B base v L j f' w := by
  match j, hj, h, he with
  | 0, _, h, he =>
    have e0 : f 7 = f' 7 := he 0 rfl
    simp only [ZG] at h ⊢
    rw [← e0]
    exact h
  | 1, _, h, he =>
    have e1 : f 8 = f' 8 := he 1 rfl
    simp only [ZG] at h ⊢
    rw [← e1]
    exact h
  | 2, _, h, he =>
    have e2 : f 9 = f' 9 := he 2 rfl
    simp only [ZG] at h ⊢
    rw [← e2]
    exact h
  | 3, _, h, he =>
    have e3 : f 10 = f' 10 := he 3 rfl
    simp only [ZG] at h ⊢
    rw [← e3]
    exact h
  | 4, _, h, he =>
    have e4 : f 11 = f' 11 := he 4 rfl
    simp only [ZG] at h ⊢
    rw [← e4]
    exact h
  | 5, _, h, he =>
    have e5 : f 12 = f' 12 := he 5 rfl
    simp only [ZG] at h ⊢
    rw [← e5]
    exact h
  | 6, _, h, he =>
    have e6 : f 13 = f' 13 := he 6 rfl
    simp only [ZG] at h ⊢
    rw [← e6]
    exact h
  | 7, _, h, he =>
    have e7 : f 14 = f' 14 := he 7 rfl
    have e3 : f 10 = f' 10 := he 3 rfl
    simp only [ZG] at h ⊢
    rw [← e7, ← e3]
    exact h
  | 8, _, h, he =>
    have e8 : f 15 = f' 15 := he 8 rfl
    have e3 : f 10 = f' 10 := he 3 rfl
    have e7 : f 14 = f' 14 := he 7 rfl
    simp only [ZG] at h ⊢
    rw [← e8, ← e3, ← e7]
    exact h
  | (m + 9), hj, _, _ => exact absurd hj (by omega)

set_option maxRecDepth 10000 in
set_option maxHeartbeats 4000000 in
theorem specSync2_any (vL vS vO : Value) (L S : List Fl) (O : List Dop) (w : World) (hL : RdF w vL L) (hS : RdF w vS S) (hO : RdO w vO O) (hz : SmallD L S O) (hl : L.length ≤ 1048576) :
    Calls Try.prog 9 #[.agg #[vL, vS, vO]] w fun e w' => ∃ x y z, e = .returned (.agg #[x, y, z]) ∧ HasD w' w.heap.size x y z (syL L S O) (syL L S O) [] ∧ Below w.heap.size w w' := by
  have HN : Hid (L.length ≤ 1048576) := hl
  clear hl
  have HZ : Hid (SmallD L S O) := hz
  have HA : Hid (∀ w', Below w.heap.size w w' → RdF w' vL L ∧ RdF w' vS S ∧ RdO w' vO O) := fun w' hB => ⟨hL.below hB, hS.below hB, hO.below hB⟩
  obtain ⟨aL, cL, rfl⟩ := hL.slice
  obtain ⟨aS, cS, rfl⟩ := hS.slice
  obtain ⟨aO, cO, rfl⟩ := hO.slice
  obtain ⟨X, hX⟩ : ∃ X, X = (w.alloc (.cells #[.slice aL L.length cL, .slice aS S.length cS, .slice aO O.length cO] 30)).alloc (.cells #[.slice none 0 0, .slice none 0 0, .slice none 0 0] 30) := ⟨_, rfl⟩
  have hBX : Below w.heap.size w X := by rw [hX]; exact ((Below.refl _ _).alloc (Nat.le_refl _) _).alloc (by simp) _
  have gX : X.heap[w.heap.size]? = some (.cells #[.slice aL L.length cL, .slice aS S.length cS, .slice aO O.length cO] 30 (0, 0)) := by rw [hX, Below.heap_alloc _ _ _ (by simp)]; exact heap_alloc_new _ _
  have gR : X.heap[w.heap.size + 1]? = some (.cells #[.slice none 0 0, .slice none 0 0, .slice none 0 0] 30 (0, 0)) := by
    rw [hX]
    have := heap_alloc_new (w.alloc (.cells #[.slice aL L.length cL, .slice aS S.length cS, .slice aO O.length cO] 30)) (.cells #[.slice none 0 0, .slice none 0 0, .slice none 0 0] 30)
    simpa using this
  have HX := (show Hid _ from hX)
  have HBX : Hid (Below w.heap.size w X) := hBX
  have HG : Hid (∀ w', Below X.heap.size X w' → w'.heap[w.heap.size]? = some (.cells #[.slice aL L.length cL, .slice aS S.length cS, .slice aO O.length cO] 30 (0, 0)) ∧ w'.heap[w.heap.size + 1]? = some (.cells #[.slice none 0 0, .slice none 0 0, .slice none 0 0] 30 (0, 0)) ∧ Below w.heap.size w w') := fun w' hB => ⟨(hB.block _ (lt_of_block gX)).trans gX, (hB.block _ (lt_of_block gR)).trans gR, hBX.trans (hB.mono hBX.size)⟩
  have c0 : X.cell? ⟨w.heap.size, 0, none⟩ = some (.slice aL L.length cL) := cellN gX
  have c1 : X.cell? ⟨w.heap.size, 1, none⟩ = some (.slice aS S.length cS) := cellN gX
  have c2 : X.cell? ⟨w.heap.size, 2, none⟩ = some (.slice aO O.length cO) := cellN gX
  rw [hX] at c0 c1 c2
  clear hX hBX gX gR hL hS hO hz
  go_enter Try.func9, Try.ntmps9
  go_wp2_with fail
  rw [← HX.out]
  have hAX := HA.out X HBX.out
  refine (specDisk_any _ _ _ L S O X hAX.1 hAX.2.1 hAX.2.2 HZ.out).mono ?_
  rintro e w1 ⟨rfl, hB1⟩
  obtain ⟨g1, gr1, hbw1⟩ := HG.out w1 hB1
  have HW1 : Hid (Below w.heap.size w w1) := hbw1
  have HRB0 : Hid (w1.heap[w.heap.size + 1]? = some (.cells #[.slice none 0 0, .slice none 0 0, .slice none 0 0] 30 (0, 0))) := gr1
  clear hB1 hbw1 c0 c1 c2 hAX
  cases hd : diskB L S O with
  | false =>
    have HD : Hid (syL L S O = []) := by show _ = _; unfold syL; rw [hd]; rfl
    clear hd g1 gr1
    obtain ⟨q, hq⟩ : ∃ q, q = #[Value.slice none 0 0, .slice none 0 0, .slice none 0 0] := ⟨_, rfl⟩
    have hi6 : (Try.prog.info? 30).map (·.size) = some q.size := by rw [hq]; exact infoDk
    have ho6 : (#[Value.slice none 0 0, .slice none 0 0, .slice none 0 0] : Array Value).size = q.size := by rw [hq]
    have h16 : q.all (·.oneCell') = true := by rw [hq]; simp [Value.oneCell']
    have HQ : Hid (q = #[Value.slice none 0 0, .slice none 0 0, .slice none 0 0]) := hq
    go_wp2_with (refine wpList_store_row rfl 30 _ _ rfl (w.heap.size + 1) q rfl (congrArg Value.agg hq.symm) 30 _ HRB0.out hi6 ho6 h16 ?_)
    refine bodyPost_ret (v := .agg q) (results_cell_row rfl _ _ (w.heap.size + 1) 30 _ _ _ rfl (setRow_heap _ _ _ _ _ _ HRB0.out) Try.underlying30 rfl hi6) rfl ⟨_, _, _, ret_val (by rw [HQ.out]), ?_, ?_⟩
    · rw [HD.out]
      exact HasD.nil _ _
    · exact below_setRow HW1.out (by omega) _
  | true =>
    have HD : Hid (syL L S O = L) := by show _ = _; unfold syL; rw [hd]; rfl
    have HRB : Hid (w1.heap[w.heap.size + 1]? = some (.cells #[.slice none 0 0, .slice none 0 0, .slice none 0 0] 30 (0, 0))) := HRB0
    have HC : Hid (∀ wy, Below w1.heap.size w1 wy → wy.cell? ⟨w.heap.size, 0, none⟩ = some (.slice aL L.length cL)) := fun wy hy => cellN ((hy.block _ (lt_of_block g1)).trans g1)
    have HR1 : Hid (∀ wy, Below w1.heap.size w1 wy → RdF wy (.slice aL L.length cL) L) := fun wy hy => (HA.out wy (HW1.out.trans (hy.mono HW1.out.size))).1
    clear hd g1 gr1
    go_wp2
    refine wp_cut_to (fun a0 t w' => ∃ f, t = canon a0 dsZ f ∧ (∃ x y, w'.heap[w.heap.size + 1]? = some (.cells #[x, y, .slice none 0 0] 30 (0, 0)) ∧ HoldF w' w1.heap.size x L ∧ HoldF w' w1.heap.size y L ∧ Below w.heap.size w w' ∧ (L ≠ [] → ∀ k, x.ownBlock = some k → y.ownBlock ≠ some k))) ?_ ?_
    · rintro _ w7 ⟨f, rfl, h7⟩
      simp only [canon, dsZ, List.foldl, Act.put, List.setIfInBounds_toArray, List.set_cons_succ, List.set_cons_zero]
      have H7 := (show Hid _ from h7)
      clear h7
      obtain ⟨x, y, hb7, hx7, hy7, hbw, hap7⟩ := H7.out
      have HE : Hid (HoldF w7 w1.heap.size x L ∧ HoldF w7 w1.heap.size y L ∧ Below w.heap.size w w7 ∧ (L ≠ [] → ∀ k, x.ownBlock = some k → y.ownBlock ≠ some k)) := ⟨hx7, hy7, hbw, hap7⟩
      clear hx7 hy7 hbw hap7 H7
      go_wp2
      refine bodyPost_ret (results_cell_row rfl _ _ (w.heap.size + 1) 30 _ _ _ rfl hb7 Try.underlying30 rfl infoDk) rfl ⟨x, y, .slice none 0 0, rfl, ?_, ?_⟩
      · rw [HD.out]
        refine ⟨⟨HE.out.1.1, HE.out.2.1.1, (HoldO.nil _ 0).1⟩, HE.out.1.2.base HW1.out.size, HE.out.2.1.2.base HW1.out.size, OwA4.nil _ _, ?_⟩
        by_cases hl : L = []
        · exact .inr hl
        · exact .inl (HE.out.2.2.2 hl)
      · exact HE.out.2.2.1
    · intro J K' hJ hK
      refine wp_letter ?_
      intro fr hfr
      have hsz : 15 < fr.tmps.size := by rw [hfr]; exact Nat.le_of_ble_eq_true rfl
      have t1 : fr.eval (.tmp 1) = .pointer (some ⟨w.heap.size, 0, none⟩) := by rw [hfr]; rfl
      have t2 : fr.eval (.tmp 2) = .pointer (some ⟨w.heap.size + 1, 0, none⟩) := by rw [hfr]; rfl
      have HFR := (show Hid _ from hfr)
      clear hfr
      refine wp_region_fin (Rel := fun v v' => Below v.heap.size v v') (fun v => Below.refl _ _) (fun h k => h.trans (k.mono h.size)) (fun v => (Below.refl _ _).drew) 9 rfl (by kernel_rfl) (by kernel_rfl) dsZ slotZ (ZG w.heap.size w1.heap.size (.slice aL L.length cL) L) _ rfl (by kernel_rfl) (fun _ _ _ _ h hB => h.below hB) ?_ ?_ ?_ ?_ ?_
      · intro j f f' wy hj he h
        exact h.dep hj (fun i hi => he i (by revert hi; match j, hj with | 0, _ => (intro hi; simp only [depZg, beq_iff_eq] at hi; rcases hi with rfl <;> kernel_rfl) | 1, _ => (intro hi; simp only [depZg, beq_iff_eq] at hi; rcases hi with rfl <;> kernel_rfl) | 2, _ => (intro hi; simp only [depZg, beq_iff_eq] at hi; rcases hi with rfl <;> kernel_rfl) | 3, _ => (intro hi; simp only [depZg, beq_iff_eq] at hi; rcases hi with rfl <;> kernel_rfl) | 4, _ => (intro hi; simp only [depZg, beq_iff_eq] at hi; rcases hi with rfl <;> kernel_rfl) | 5, _ => (intro hi; simp only [depZg, beq_iff_eq] at hi; rcases hi with rfl <;> kernel_rfl) | 6, _ => (intro hi; simp only [depZg, beq_iff_eq] at hi; rcases hi with rfl <;> kernel_rfl) | 7, _ => (intro hi; simp only [depZg, Bool.or_eq_true, beq_iff_eq] at hi; rcases hi with rfl | rfl <;> kernel_rfl) | 8, _ => (intro hi; simp only [depZg, Bool.or_eq_true, beq_iff_eq] at hi; rcases hi with (rfl | rfl) | rfl <;> kernel_rfl)))
      · intro i hi
        exact slotZ_mem i hi
      · intro i j hi hj q
        exact slotZ_inj i j hi hj q
      · intro ops hops f wy j oo hj hy ho hd
        have ho2 := ho
        rw [hops] at ho
        have N1 := (canon_eval_ne fr dsZ f 1 (by decide)).trans t1
        have N2 := (canon_eval_ne fr dsZ f 2 (by decide)).trans t2
        have hj' : j = 0 ∨ j = 1 ∨ j = 2 ∨ j = 3 ∨ j = 4 ∨ j = 5 ∨ j = 6 ∨ j = 7 ∨ j = 8 := by omega
        rcases hj' with rfl | rfl | rfl | rfl | rfl | rfl | rfl | rfl | rfl <;> simp only [List.getElem?_toArray, List.getElem?_cons_succ, List.getElem?_cons_zero, Option.some.injEq] at ho <;> subst ho
        · refine wpOp_runG ho2 (wanted_none rfl) (q_madeF (canon fr dsZ f).eval _ wy rfl) ?_
          refine ⟨_, rfl, ⟨wy.heap.size, upd_same f 7 _, hy.size, heap_alloc_new _ _⟩, (Below.refl _ _).alloc (Nat.le_refl _) _⟩
        · refine wpOp_runG ho2 (wanted_none rfl) (q_fieldK (canon fr dsZ f).eval _ wy _ w.heap.size 0 rfl N1 (.inl rfl)) ?_
          exact ⟨_, rfl, upd_same f 8 _, Below.refl _ _⟩
        · refine wpOp_runG ho2 (wanted_none rfl) (q_loadF (canon fr dsZ f).eval _ wy _ w.heap.size 0 rfl ((canon_eval fr dsZ f 8 (by decide) (Nat.lt_of_le_of_lt (by decide) hsz)).trans (hd ⟨1, .data⟩ (by simp) rfl (by decide))) (HC.out wy hy)) ?_
          exact ⟨_, rfl, upd_same f 9 _, Below.refl _ _⟩
        · obtain ⟨g, eg, hbg, hgh⟩ := hd ⟨0, .data⟩ (by simp) rfl (by decide)
          have hv : f 9 = .slice aL L.length cL := hd ⟨2, .data⟩ (by simp) rfl (by decide)
          refine wpOp_app0F ho2 (wanted_none rfl) _ _ w1.heap.size g L rfl ((canon_eval fr dsZ f 7 (by decide) (Nat.lt_of_le_of_lt (by decide) hsz)).trans eg) hgh hbg (by rw [(canon_eval fr dsZ f 9 (by decide) (Nat.lt_of_le_of_lt (by decide) hsz)).trans hv]; exact HR1.out wy hy) (by have := HN.out; omega) ?_
          intro u wz hu hBz
          exact ⟨_, rfl, by show HoldF _ _ (upd f 10 u 10) L; rw [upd_same]; exact hu, hBz⟩
        · refine wpOp_runG ho2 (wanted_none rfl) (q_madeF (canon fr dsZ f).eval _ wy rfl) ?_
          refine ⟨_, rfl, ⟨wy.heap.size, upd_same f 11 _, hy.size, heap_alloc_new _ _⟩, (Below.refl _ _).alloc (Nat.le_refl _) _⟩
        · refine wpOp_runG ho2 (wanted_none rfl) (q_fieldK (canon fr dsZ f).eval _ wy _ w.heap.size 0 rfl N1 (.inl rfl)) ?_
          exact ⟨_, rfl, upd_same f 12 _, Below.refl _ _⟩
        · refine wpOp_runG ho2 (wanted_none rfl) (q_loadF (canon fr dsZ f).eval _ wy _ w.heap.size 0 rfl ((canon_eval fr dsZ f 12 (by decide) (Nat.lt_of_le_of_lt (by decide) hsz)).trans (hd ⟨5, .data⟩ (by simp) rfl (by decide))) (HC.out wy hy)) ?_
          exact ⟨_, rfl, upd_same f 13 _, Below.refl _ _⟩
        · obtain ⟨g, eg, hbg, hgh⟩ := hd ⟨4, .data⟩ (by simp) rfl (by decide)
          have hv : f 13 = .slice aL L.length cL := hd ⟨6, .data⟩ (by simp) rfl (by decide)
          refine wpOp_app9F ho2 (wanted_none rfl) _ _ w1.heap.size g L rfl ((canon_eval fr dsZ f 11 (by decide) (Nat.lt_of_le_of_lt (by decide) hsz)).trans eg) hgh hbg (by rw [(canon_eval fr dsZ f 13 (by decide) (Nat.lt_of_le_of_lt (by decide) hsz)).trans hv]; exact HR1.out wy hy) (by have := HN.out; omega) ?_
          intro u wz hu hBz hfr9
          have h9 : HoldF wy w1.heap.size (f 10) L := hd ⟨3, .chain⟩ (by simp) rfl (by decide)
          refine ⟨_, rfl, ⟨by show HoldF _ _ (upd f 14 u 14) L; rw [upd_same]; exact hu, fun hl k hk => ?_⟩, hBz⟩
          change (upd f 14 u 10).ownBlock = some k at hk
          rw [upd_ne f _ (by decide : (10 : Nat) ≠ 14)] at hk
          change (upd f 14 u 14).ownBlock ≠ some k
          rw [upd_same]
          intro e
          have := hfr9 hl k e
          have := (h9.2.lt k hk).2
          omega
        · have h9 : HoldF wy w1.heap.size (f 10) L := hd ⟨3, .data⟩ (by simp) rfl (by decide)
          have h12 : HoldF wy w1.heap.size (f 14) L := (hd ⟨7, .data⟩ (by simp) rfl (by decide)).1
          obtain ⟨a9, c9, e9⟩ := h9.2.slice
          obtain ⟨a12, c12, e12⟩ := h12.2.slice
          refine wpOp_runG ho2 (wanted_none rfl) (q_build2 (canon fr dsZ f).eval _ wy _ _ rfl ((canon_eval fr dsZ f 10 (by decide) (Nat.lt_of_le_of_lt (by decide) hsz)).trans e9) ((canon_eval fr dsZ f 14 (by decide) (Nat.lt_of_le_of_lt (by decide) hsz)).trans e12)) ?_
          refine ⟨_, rfl, ?_, Below.refl _ _⟩
          show upd f 15 _ 15 = .agg #[upd f 15 _ 10, upd f 15 _ 14, .slice none 0 0]
          rw [upd_same, upd_ne f _ (by decide : (10 : Nat) ≠ 15), upd_ne f _ (by decide : (14 : Nat) ≠ 15), e9, e12]
      · intro ops hops f wy hy ho hall
        have ho2 := ho
        have N1 := (canon_eval_ne fr dsZ f 1 (by decide)).trans t1
        have N2 := (canon_eval_ne fr dsZ f 2 (by decide)).trans t2
        have h9 : HoldF wy w1.heap.size (f 10) L := hall 3 (by omega)
        have h12 : HoldF wy w1.heap.size (f 14) L := (hall 7 (by omega)).1
        have hap : L ≠ [] → ∀ k, (f 10).ownBlock = some k → (f 14).ownBlock ≠ some k := (hall 7 (by omega)).2
        have h15 : f 15 = .agg #[f 10, f 14, .slice none 0 0] := hall 8 (by omega)
        obtain ⟨a9, c9, e9⟩ := h9.2.slice
        obtain ⟨a12, c12, e12⟩ := h12.2.slice
        have hrb : wy.heap[w.heap.size + 1]? = some (.cells #[.slice none 0 0, .slice none 0 0, .slice none 0 0] 30 (0, 0)) := (hy.block _ (lt_of_block HRB.out)).trans HRB.out
        refine wpOp_storeD ho2 (wanted_none rfl) _ _ (w.heap.size + 1) rfl N2 ((canon_eval fr dsZ f 15 (by decide) (Nat.lt_of_le_of_lt (by decide) hsz)).trans (h15.trans (by rw [e9, e12]))) rfl hrb ?_
        intro wz hz1 hz2 hz3 hz4 hz5 hz6
        have hlt : w.heap.size + 1 < w1.heap.size := lt_of_block HRB.out
        have hkz : ∀ k, w1.heap.size ≤ k → k < wy.heap.size → wz.heap[k]? = wy.heap[k]? := fun k h1 h2 => hz2 k (by omega)
        refine hK _ _ (Met.intro (hJ _ _ ⟨f, congrArg (fun z => canon z dsZ f) HFR.out, f 10, f 14, ?_, h9.kept (by omega) hkz, h12.kept (by omega) hkz, ?_, hap⟩))
        · rw [e9, e12]; exact hz1
        · have hbw := HW1.out.trans (hy.mono HW1.out.size)
          exact ⟨hz4.trans hbw.os, hz5.trans hbw.tape, hz6.trans hbw.output, by rw [hz3]; exact hbw.size, fun k hk => (hz2 k (by omega)).trans (hbw.block k hk)⟩

set_option maxRecDepth 10000 in
set_option maxHeartbeats 4000000 in
theorem specAct2_any (vL vS vO : Value) (L S : List Fl) (O : List Dop) (o : Dop) (w : World) (h : RdD w vL vS vO L S O) (hz : SmallD L S O) (hn : L.length ≤ 1048576 ∧ S.length ≤ 1048576 ∧ O.length ≤ 1048576) (hl6 : L.length ≤ 60 ∧ tot L ≤ 200000) (ho : o.n.size ≤ 100000000 ∧ o.t.size ≤ 100000000 ∧ o.d.size ≤ 100000000) :
    Calls Try.prog 42 #[.agg #[vL, vS, vO], .agg (encO o)] w fun e w' => ∃ x y z, e = .returned (.tuple #[.agg #[x, y, z], .int .i64 (actC L O o : Int)]) ∧ RdD w' x y z (actL L O o) S (actO L O o) ∧ (actC L O o = 0 → HasD w' w.heap.size x y z (actL L O o) S (actO L O o)) ∧ Below w.heap.size w w' := by
  have HN : Hid (L.length ≤ 1048576 ∧ S.length ≤ 1048576 ∧ O.length ≤ 1048576) := hn
  have HZ : Hid (SmallD L S O) := hz
  have HL6 : Hid (L.length ≤ 60 ∧ tot L ≤ 200000) := hl6
  have HOZ : Hid (o.n.size ≤ 100000000 ∧ o.t.size ≤ 100000000 ∧ o.d.size ≤ 100000000) := ho
  have HA : Hid (∀ w', Below w.heap.size w w' → RdD w' vL vS vO L S O) := fun w' hB => h.below hB
  obtain ⟨aL, cL, rfl⟩ := h.1.slice
  obtain ⟨aS, cS, rfl⟩ := h.2.1.slice
  obtain ⟨aO, cO, rfl⟩ := h.2.2.slice
  clear h hz hn hl6 ho
  change Calls _ _ #[.agg #[.slice aL L.length cL, .slice aS S.length cS, .slice aO O.length cO], .agg #[.int .i64 o.k, .string o.n, .string o.t, .string o.d]] w _
  obtain ⟨X, hX⟩ : ∃ X, X = ((w.alloc (.cells #[.slice aL L.length cL, .slice aS S.length cS, .slice aO O.length cO] 30)).alloc (.cells #[.int .i64 o.k, .string o.n, .string o.t, .string o.d] 41)).alloc (.cells #[.slice none 0 0, .slice none 0 0, .slice none 0 0] 30) := ⟨_, rfl⟩
  have hBX : Below w.heap.size w X := by rw [hX]; exact (((Below.refl _ _).alloc (Nat.le_refl _) _).alloc (by simp) _).alloc (by simp; omega) _
  have gX : X.heap[w.heap.size]? = some (.cells #[.slice aL L.length cL, .slice aS S.length cS, .slice aO O.length cO] 30 (0, 0)) := by rw [hX, Below.heap_alloc _ _ _ (by simp; omega), Below.heap_alloc _ _ _ (by simp)]; exact heap_alloc_new _ _
  have gO : X.heap[w.heap.size + 1]? = some (.cells #[.int .i64 o.k, .string o.n, .string o.t, .string o.d] 41 (0, 0)) := by
    rw [hX, Below.heap_alloc _ _ _ (by simp)]
    have := heap_alloc_new (w.alloc (.cells #[.slice aL L.length cL, .slice aS S.length cS, .slice aO O.length cO] 30)) (.cells #[.int .i64 o.k, .string o.n, .string o.t, .string o.d] 41)
    simpa using this
  have gR : X.heap[w.heap.size + 1 + 1]? = some (.cells #[.slice none 0 0, .slice none 0 0, .slice none 0 0] 30 (0, 0)) := by
    rw [hX]
    have := heap_alloc_new ((w.alloc (.cells #[.slice aL L.length cL, .slice aS S.length cS, .slice aO O.length cO] 30)).alloc (.cells #[.int .i64 o.k, .string o.n, .string o.t, .string o.d] 41)) (.cells #[.slice none 0 0, .slice none 0 0, .slice none 0 0] 30)
    simpa using this
  have HX := (show Hid _ from hX)
  have HBX : Hid (Below w.heap.size w X) := hBX
  have HG : Hid (∀ w', Below X.heap.size X w' → At3 w' w.heap.size 30 (.slice aL L.length cL) (.slice aS S.length cS) (.slice aO O.length cO) ∧ w'.heap[w.heap.size + 1]? = some (.cells #[.int .i64 o.k, .string o.n, .string o.t, .string o.d] 41 (0, 0)) ∧ At3 w' (w.heap.size + 1 + 1) 30 (.slice none 0 0) (.slice none 0 0) (.slice none 0 0) ∧ Below w.heap.size w w') := fun w' hB => ⟨(hB.block _ (lt_of_block gX)).trans gX, (hB.block _ (lt_of_block gO)).trans gO, (hB.block _ (lt_of_block gR)).trans gR, hBX.trans (hB.mono hBX.size)⟩
  have k0 : X.cell? ⟨w.heap.size + 1, 0, none⟩ = some (.int .i64 o.k) := cellN gO
  have k1 : X.cell? ⟨w.heap.size + 1, 1, none⟩ = some (.string o.n) := cellN gO
  have k2 : X.cell? ⟨w.heap.size + 1, 2, none⟩ = some (.string o.t) := cellN gO
  have k3 : X.cell? ⟨w.heap.size + 1, 3, none⟩ = some (.string o.d) := cellN gO
  rw [hX] at k0 k1 k2 k3
  clear hX hBX gX gO gR
  go_enter Try.func42, Try.ntmps42
  go_wp2_with fail
  rw [← HX.out]
  refine (form_any o X (by have := HOZ.out; omega) (by have := HOZ.out; omega)).mono ?_
  rintro e w1 ⟨rfl, hB1⟩
  have HB1 : Hid (Below X.heap.size X w1) := hB1
  clear k0 k1 k2 k3 HX hB1
  have hg1 := HG.out w1 HB1.out
  have c0 := hg1.1.c0
  have c1 := hg1.1.c1
  have c2 := hg1.1.c2
  cases hf : formB o with
  | false =>
    have HC : Hid (actC L O o = 2) := by show _ = _; unfold actC; rw [if_pos hf]
    clear hf hg1
    go_wp2_with fail
    refine (specCopy_any _ _ _ L S O w1 (HA.out w1 (HG.out w1 HB1.out).2.2.2) HN.out).mono ?_
    rintro e wc ⟨x, y, z, rfl, hr, hh, hBc⟩
    obtain ⟨b1, d1, b2, d2, b3, d3, ex, ey, ez⟩ := hr.slices
    subst ex ey ez
    have HBc : Hid (Below X.heap.size X wc) := HB1.out.trans (hBc.mono HB1.out.size)
    have HHc : Hid _ := hh
    have HR3 : Hid (At3 wc (w.heap.size + 1 + 1) 30 (.slice none 0 0) (.slice none 0 0) (.slice none 0 0)) := (HG.out wc HBc.out).2.2.1
    have HLT : Hid (w.heap.size + 1 + 1 < w1.heap.size) := (HG.out w1 HB1.out).2.2.1.lt
    obtain ⟨q, hq⟩ : ∃ q, q = #[Value.slice b1 L.length d1, .slice b2 S.length d2, .slice b3 O.length d3] := ⟨_, rfl⟩
    have hi6 : (Try.prog.info? 30).map (·.size) = some q.size := by rw [hq]; exact infoDk
    have ho6 : (#[Value.slice none 0 0, .slice none 0 0, .slice none 0 0] : Array Value).size = q.size := by rw [hq]; rfl
    have h16 : q.all (·.oneCell') = true := by rw [hq]; simp [Value.oneCell']
    clear hr hh hBc
    go_wp2_with (refine wpList_store_row rfl 30 _ _ rfl (w.heap.size + 1 + 1) q rfl (congrArg Value.agg hq.symm) 30 _ HR3.out hi6 ho6 h16 ?_)
    subst hq
    have hkz : ∀ k, w1.heap.size ≤ k → k < wc.heap.size → (wc.setRow (w.heap.size + 1 + 1) #[Value.slice b1 L.length d1, .slice b2 S.length d2, .slice b3 O.length d3]).heap[k]? = wc.heap[k]? := fun k h1 h2 => setRow_other _ _ _ _ (by have := HLT.out; omega)
    have hszz : wc.heap.size ≤ (wc.setRow (w.heap.size + 1 + 1) #[Value.slice b1 L.length d1, .slice b2 S.length d2, .slice b3 O.length d3]).heap.size := by simp [World.setRow]
    refine bodyPost_ret (v := .tuple #[.agg #[Value.slice b1 L.length d1, .slice b2 S.length d2, .slice b3 O.length d3], _]) (results_row_tmp rfl _ _ (w.heap.size + 1 + 1) 30 _ _ _ rfl (setRow_heap _ _ _ _ _ _ HR3.out) Try.underlying30 rfl hi6) rfl ⟨_, _, _, ret_val (by rw [HC.out]; rfl), ?_, (fun h => absurd (HC.out.symm.trans h) (by decide)), ?_⟩
    · rw [(act_no HC.out (by decide)).1, (act_no HC.out (by decide)).2]
      exact ⟨(HHc.out.1.kept hszz hkz).1, (HHc.out.2.1.kept hszz hkz).1, (HHc.out.2.2.kept hszz hkz).1⟩
    · exact below_setRow (HG.out wc HBc.out).2.2.2 (by omega) _
  | true =>
    have HF : Hid (formB o = true) := hf
    have k0 : w1.cell? ⟨w.heap.size + 1, 0, none⟩ = some (.int .i64 o.k) := cellN hg1.2.1
    have k1 : w1.cell? ⟨w.heap.size + 1, 1, none⟩ = some (.string o.n) := cellN hg1.2.1
    have k2 : w1.cell? ⟨w.heap.size + 1, 2, none⟩ = some (.string o.t) := cellN hg1.2.1
    have k3 : w1.cell? ⟨w.heap.size + 1, 3, none⟩ = some (.string o.d) := cellN hg1.2.1
    clear hf hg1
    go_wp2_with fail
    refine (do_any _ L o w1 (HA.out w1 (HG.out w1 HB1.out).2.2.2).1 (by have := HL6.out; omega) (fun f hf => by have := tot_mem hf; have := HL6.out; have := HOZ.out; omega)).mono ?_
    rintro e w2 ⟨u, rfl, hu, hun, hB2⟩
    have HB2 : Hid (Below X.heap.size X w2) := HB1.out.trans (hB2.mono HB1.out.size)
    have HU2 : Hid (OwnF w2 w1.heap.size u (doF L o).1) := hu
    have HS12 : Hid (w1.heap.size ≤ w2.heap.size) := hB2.size
    obtain ⟨au, cu, eu⟩ := hu.rd.slice
    subst eu
    clear k0 k1 k2 k3 c0 c1 c2 hu hun hB2
    have hg2 := HG.out w2 HB2.out
    have c0 := hg2.1.c0
    have c1 := hg2.1.c1
    have c2 := hg2.1.c2
    clear hg2
    cases hd : (doF L o).2 with
    | false =>
      have HC : Hid (actC L O o = 3) := by show _ = _; unfold actC; rw [if_neg (by rw [HF.out]; decide), if_pos hd]
      clear hd
      go_wp2_with fail
      refine (specCopy_any _ _ _ L S O w2 (HA.out w2 (HG.out w2 HB2.out).2.2.2) HN.out).mono ?_
      rintro e wc ⟨x, y, z, rfl, hr, hh, hBc⟩
      obtain ⟨b1, d1, b2, d2, b3, d3, ex, ey, ez⟩ := hr.slices
      subst ex ey ez
      have HBc : Hid (Below X.heap.size X wc) := HB2.out.trans (hBc.mono HB2.out.size)
      have HHc : Hid _ := hh
      have HR3 : Hid (At3 wc (w.heap.size + 1 + 1) 30 (.slice none 0 0) (.slice none 0 0) (.slice none 0 0)) := (HG.out wc HBc.out).2.2.1
      have HLT : Hid (w.heap.size + 1 + 1 < w2.heap.size) := (HG.out w2 HB2.out).2.2.1.lt
      obtain ⟨q, hq⟩ : ∃ q, q = #[Value.slice b1 L.length d1, .slice b2 S.length d2, .slice b3 O.length d3] := ⟨_, rfl⟩
      have hi6 : (Try.prog.info? 30).map (·.size) = some q.size := by rw [hq]; exact infoDk
      have ho6 : (#[Value.slice none 0 0, .slice none 0 0, .slice none 0 0] : Array Value).size = q.size := by rw [hq]; rfl
      have h16 : q.all (·.oneCell') = true := by rw [hq]; simp [Value.oneCell']
      clear hr hh hBc
      go_wp2_with (refine wpList_store_row rfl 30 _ _ rfl (w.heap.size + 1 + 1) q rfl (congrArg Value.agg hq.symm) 30 _ HR3.out hi6 ho6 h16 ?_)
      subst hq
      have hkz : ∀ k, w2.heap.size ≤ k → k < wc.heap.size → (wc.setRow (w.heap.size + 1 + 1) #[Value.slice b1 L.length d1, .slice b2 S.length d2, .slice b3 O.length d3]).heap[k]? = wc.heap[k]? := fun k h1 h2 => setRow_other _ _ _ _ (by have := HLT.out; omega)
      have hszz : wc.heap.size ≤ (wc.setRow (w.heap.size + 1 + 1) #[Value.slice b1 L.length d1, .slice b2 S.length d2, .slice b3 O.length d3]).heap.size := by simp [World.setRow]
      refine bodyPost_ret (v := .tuple #[.agg #[Value.slice b1 L.length d1, .slice b2 S.length d2, .slice b3 O.length d3], _]) (results_row_tmp rfl _ _ (w.heap.size + 1 + 1) 30 _ _ _ rfl (setRow_heap _ _ _ _ _ _ HR3.out) Try.underlying30 rfl hi6) rfl ⟨_, _, _, ret_val (by rw [HC.out]; rfl), ?_, (fun h => absurd (HC.out.symm.trans h) (by decide)), ?_⟩
      · rw [(act_no HC.out (by decide)).1, (act_no HC.out (by decide)).2]
        exact ⟨(HHc.out.1.kept hszz hkz).1, (HHc.out.2.1.kept hszz hkz).1, (HHc.out.2.2.kept hszz hkz).1⟩
      · exact below_setRow (HG.out wc HBc.out).2.2.2 (by omega) _
    | true =>
      have HDO : Hid ((doF L o).2 = true) := hd
      clear hd
      by_cases h200 : O.length = 200
      · have h200b : ((O.length : Int) == 200) = true := by simp; omega
        have HC : Hid (actC L O o = 4) := by show _ = _; unfold actC; rw [if_neg (by rw [HF.out]; decide), if_neg (by rw [HDO.out]; decide), if_pos (.inl h200)]
        clear h200
        go_wp2_with fail
        refine (specCopy_any _ _ _ L S O w2 (HA.out w2 (HG.out w2 HB2.out).2.2.2) HN.out).mono ?_
        rintro e wc ⟨x, y, z, rfl, hr, hh, hBc⟩
        obtain ⟨b1, d1, b2, d2, b3, d3, ex, ey, ez⟩ := hr.slices
        subst ex ey ez
        have HBc : Hid (Below X.heap.size X wc) := HB2.out.trans (hBc.mono HB2.out.size)
        have HHc : Hid _ := hh
        have HR3 : Hid (At3 wc (w.heap.size + 1 + 1) 30 (.slice none 0 0) (.slice none 0 0) (.slice none 0 0)) := (HG.out wc HBc.out).2.2.1
        have HLT : Hid (w.heap.size + 1 + 1 < w2.heap.size) := (HG.out w2 HB2.out).2.2.1.lt
        obtain ⟨q, hq⟩ : ∃ q, q = #[Value.slice b1 L.length d1, .slice b2 S.length d2, .slice b3 O.length d3] := ⟨_, rfl⟩
        have hi6 : (Try.prog.info? 30).map (·.size) = some q.size := by rw [hq]; exact infoDk
        have ho6 : (#[Value.slice none 0 0, .slice none 0 0, .slice none 0 0] : Array Value).size = q.size := by rw [hq]; rfl
        have h16 : q.all (·.oneCell') = true := by rw [hq]; simp [Value.oneCell']
        clear hr hh hBc
        go_wp2_with (refine wpList_store_row rfl 30 _ _ rfl (w.heap.size + 1 + 1) q rfl (congrArg Value.agg hq.symm) 30 _ HR3.out hi6 ho6 h16 ?_)
        subst hq
        have hkz : ∀ k, w2.heap.size ≤ k → k < wc.heap.size → (wc.setRow (w.heap.size + 1 + 1) #[Value.slice b1 L.length d1, .slice b2 S.length d2, .slice b3 O.length d3]).heap[k]? = wc.heap[k]? := fun k h1 h2 => setRow_other _ _ _ _ (by have := HLT.out; omega)
        have hszz : wc.heap.size ≤ (wc.setRow (w.heap.size + 1 + 1) #[Value.slice b1 L.length d1, .slice b2 S.length d2, .slice b3 O.length d3]).heap.size := by simp [World.setRow]
        refine bodyPost_ret (v := .tuple #[.agg #[Value.slice b1 L.length d1, .slice b2 S.length d2, .slice b3 O.length d3], _]) (results_row_tmp rfl _ _ (w.heap.size + 1 + 1) 30 _ _ _ rfl (setRow_heap _ _ _ _ _ _ HR3.out) Try.underlying30 rfl hi6) rfl ⟨_, _, _, ret_val (by rw [HC.out]; rfl), ?_, (fun h => absurd (HC.out.symm.trans h) (by decide)), ?_⟩
        · rw [(act_no HC.out (by decide)).1, (act_no HC.out (by decide)).2]
          exact ⟨(HHc.out.1.kept hszz hkz).1, (HHc.out.2.1.kept hszz hkz).1, (HHc.out.2.2.kept hszz hkz).1⟩
        · exact below_setRow (HG.out wc HBc.out).2.2.2 (by omega) _
      · have h200b : ((O.length : Int) == 200) = false := by simp; omega
        have HN2 : Hid (O.length ≠ 200) := h200
        clear h200
        go_wp2_with fail
        refine (files_any _ (doF L o).1 w2 HU2.out.rd (by have := doF_small (K := L) (o := o) (z := 100000000) HZ.out.l2 HOZ.out.1 HOZ.out.2.1; have := HL6.out; have := HOZ.out; omega) (small_at (doF_small (K := L) (o := o) (z := 100000000) HZ.out.l2 HOZ.out.1 HOZ.out.2.1).1 (by omega))).mono ?_
        rintro e w3 ⟨rfl, hB3⟩
        have HB3 : Hid (Below X.heap.size X w3) := HB2.out.trans (hB3.mono HB2.out.size)
        have HS13 : Hid (w1.heap.size ≤ w3.heap.size) := Nat.le_trans HS12.out hB3.size
        have HU3 : Hid (HoldF w3 w1.heap.size (.slice au (doF L o).1.length cu) (doF L o).1) := HU2.out.hold.below hB3
        clear hB3 c0 c1 c2 h200b
        have hg3 := HG.out w3 HB3.out
        have c0 := hg3.1.c0
        have c1 := hg3.1.c1
        have c2 := hg3.1.c2
        clear hg3
        cases hfb : filesB (doF L o).1 with
        | false =>
          have HC : Hid (actC L O o = 4) := by show _ = _; unfold actC; rw [if_neg (by rw [HF.out]; decide), if_neg (by rw [HDO.out]; decide), if_pos (.inr hfb)]
          clear hfb
          go_wp2_with fail
          refine (specCopy_any _ _ _ L S O w3 (HA.out w3 (HG.out w3 HB3.out).2.2.2) HN.out).mono ?_
          rintro e wc ⟨x, y, z, rfl, hr, hh, hBc⟩
          obtain ⟨b1, d1, b2, d2, b3, d3, ex, ey, ez⟩ := hr.slices
          subst ex ey ez
          have HBc : Hid (Below X.heap.size X wc) := HB3.out.trans (hBc.mono HB3.out.size)
          have HHc : Hid _ := hh
          have HR3 : Hid (At3 wc (w.heap.size + 1 + 1) 30 (.slice none 0 0) (.slice none 0 0) (.slice none 0 0)) := (HG.out wc HBc.out).2.2.1
          have HLT : Hid (w.heap.size + 1 + 1 < w3.heap.size) := (HG.out w3 HB3.out).2.2.1.lt
          obtain ⟨q, hq⟩ : ∃ q, q = #[Value.slice b1 L.length d1, .slice b2 S.length d2, .slice b3 O.length d3] := ⟨_, rfl⟩
          have hi6 : (Try.prog.info? 30).map (·.size) = some q.size := by rw [hq]; exact infoDk
          have ho6 : (#[Value.slice none 0 0, .slice none 0 0, .slice none 0 0] : Array Value).size = q.size := by rw [hq]; rfl
          have h16 : q.all (·.oneCell') = true := by rw [hq]; simp [Value.oneCell']
          clear hr hh hBc
          go_wp2_with (refine wpList_store_row rfl 30 _ _ rfl (w.heap.size + 1 + 1) q rfl (congrArg Value.agg hq.symm) 30 _ HR3.out hi6 ho6 h16 ?_)
          subst hq
          have hkz : ∀ k, w3.heap.size ≤ k → k < wc.heap.size → (wc.setRow (w.heap.size + 1 + 1) #[Value.slice b1 L.length d1, .slice b2 S.length d2, .slice b3 O.length d3]).heap[k]? = wc.heap[k]? := fun k h1 h2 => setRow_other _ _ _ _ (by have := HLT.out; omega)
          have hszz : wc.heap.size ≤ (wc.setRow (w.heap.size + 1 + 1) #[Value.slice b1 L.length d1, .slice b2 S.length d2, .slice b3 O.length d3]).heap.size := by simp [World.setRow]
          refine bodyPost_ret (v := .tuple #[.agg #[Value.slice b1 L.length d1, .slice b2 S.length d2, .slice b3 O.length d3], _]) (results_row_tmp rfl _ _ (w.heap.size + 1 + 1) 30 _ _ _ rfl (setRow_heap _ _ _ _ _ _ HR3.out) Try.underlying30 rfl hi6) rfl ⟨_, _, _, ret_val (by rw [HC.out]; rfl), ?_, (fun h => absurd (HC.out.symm.trans h) (by decide)), ?_⟩
          · rw [(act_no HC.out (by decide)).1, (act_no HC.out (by decide)).2]
            exact ⟨(HHc.out.1.kept hszz hkz).1, (HHc.out.2.1.kept hszz hkz).1, (HHc.out.2.2.kept hszz hkz).1⟩
          · exact below_setRow (HG.out wc HBc.out).2.2.2 (by omega) _
        | true =>
          have HC : Hid (actC L O o = 0) := by show _ = _; unfold actC; rw [if_neg (by rw [HF.out]; decide), if_neg (by rw [HDO.out]; decide), if_neg (fun h => h.elim HN2.out (fun h => by rw [hfb] at h; cases h))]
          clear hfb
          go_wp2_with fail
          refine (specCopy_any _ _ _ L S O w3 (HA.out w3 (HG.out w3 HB3.out).2.2.2) HN.out).mono ?_
          rintro e w4 ⟨x, y, z, rfl, hr, hh, hB4⟩
          obtain ⟨b1, d1, b2, d2, b3, d3, ex, ey, ez⟩ := hr.slices
          subst ex ey ez
          have HB4 : Hid (Below X.heap.size X w4) := HB3.out.trans (hB4.mono HB3.out.size)
          have HU4 : Hid (HoldF w4 w1.heap.size (.slice au (doF L o).1.length cu) (doF L o).1) := HU3.out.below hB4
          have hS34 : w3.heap.size ≤ w4.heap.size := hB4.size
          have HH4 : Hid (HoldF w4 w3.heap.size (.slice b1 L.length d1) L ∧ HoldF w4 w3.heap.size (.slice b2 S.length d2) S ∧ HoldO w4 w3.heap.size (.slice b3 O.length d3) O) := hh
          clear hr hh hB4 c0 c1 c2
          obtain ⟨X5, hX5⟩ : ∃ X5, X5 = w4.alloc (.cells #[.slice au (doF L o).1.length cu, .slice b2 S.length d2, .slice b3 O.length d3] 30) := ⟨_, rfl⟩
          have hB5 : Below w4.heap.size w4 X5 := by rw [hX5]; exact (Below.refl _ _).alloc (Nat.le_refl _) _
          have HX5 := (show Hid _ from hX5)
          have HBX5 : Hid (Below X.heap.size X X5) := HB4.out.trans (hB5.mono HB4.out.size)
          have HO5 : Hid (At3 X5 w4.heap.size 30 (.slice au (doF L o).1.length cu) (.slice b2 S.length d2) (.slice b3 O.length d3)) := by rw [hX5]; exact At3.new _ _ _ _ _
          have HU5 : Hid (HoldF X5 w1.heap.size (.slice au (doF L o).1.length cu) (doF L o).1) := HU4.out.below hB5
          have HH5 : Hid (HoldF X5 w3.heap.size (.slice b2 S.length d2) S ∧ HoldO X5 w3.heap.size (.slice b3 O.length d3) O) := ⟨HH4.out.2.1.below hB5, HH4.out.2.2.below hB5⟩
          have k0 : X5.cell? ⟨w.heap.size + 1, 0, none⟩ = some (.int .i64 o.k) := cellN (HG.out X5 HBX5.out).2.1
          have k1 : X5.cell? ⟨w.heap.size + 1, 1, none⟩ = some (.string o.n) := cellN (HG.out X5 HBX5.out).2.1
          have k2 : X5.cell? ⟨w.heap.size + 1, 2, none⟩ = some (.string o.t) := cellN (HG.out X5 HBX5.out).2.1
          have k3 : X5.cell? ⟨w.heap.size + 1, 3, none⟩ = some (.string o.d) := cellN (HG.out X5 HBX5.out).2.1
          rw [hX5] at k0 k1 k2 k3
          have HOx : Hid (∀ oo, ((w4.alloc (.cells #[.slice au (doF L o).1.length cu, .slice b2 S.length d2, .slice b3 O.length d3] 30)).alloc oo).ownsRow w3.heap.size 41 4 (.slice b3 O.length d3) O.length (cellsO O)) := fun oo => by
            rw [← hX5]
            exact ownsRow_below HH5.out.2.row ((Below.refl _ _).alloc (Nat.le_refl _) _)
          have HMX : Hid (O.length + 1 ≤ maxLen ∧ (O.length + 1) * 56 ≤ 140737488355328 ∧ w3.heap.size ≤ w4.heap.size) := ⟨by have := HN.out; unfold maxLen; omega, by have := HN.out; omega, hS34⟩
          have HFIN : Hid (∀ oo v7 w7, w7.ownsRow w3.heap.size 41 4 v7 (O.length + 1) (cellsO O ++ [.int .i64 o.k, .string o.n, .string o.t, .string o.d]) → (X5.alloc oo).grownBy w7 (Value.slice b3 O.length d3).ownBlock → HoldF w7 w1.heap.size (.slice au (doF L o).1.length cu) (doF L o).1 ∧ HoldF w7 w3.heap.size (.slice b2 S.length d2) S ∧ HoldO w7 w3.heap.size v7 (O ++ [o]) ∧ At3 w7 w4.heap.size 30 (.slice au (doF L o).1.length cu) (.slice b2 S.length d2) (.slice b3 O.length d3) ∧ At3 w7 (w.heap.size + 1 + 1) 30 (.slice none 0 0) (.slice none 0 0) (.slice none 0 0) ∧ Below w.heap.size w w7) := fun oo v7 w7 hown hgrow => by
            have hbx : Below X5.heap.size X5 (X5.alloc oo) := (Below.refl _ _).alloc (Nat.le_refl _) _
            have hz : ∀ b, (Value.slice b3 O.length d3).ownBlock = some b → w3.heap.size ≤ b ∧ b < w4.heap.size := fun b hb => HH4.out.2.2.2.lt b hb
            have hty : ∀ b, (Value.slice b3 O.length d3).ownBlock = some b → ∃ cs, (X5.alloc oo).heap[b]? = some (.cells cs 41 (0, 0)) := fun b hb => (HH5.out.2.2.below hbx).cells hb
            have nf : ∀ (base : Nat) (v : Value) (M : List Fl), HoldF X5 base v M → HoldF w7 base v M := fun base v M hv => by
              have hv' := hv.below hbx
              refine ⟨hv'.1.own hv'.2 hgrow.size (fun k hk => hgrow.block k (hv'.2.lt k hk).2 (fun e => ?_)), hv'.2.blk (fun k hk => hgrow.block k (hv'.2.lt k hk).2 (fun e => ?_))⟩
              · exact OwA24 hv'.2 (HH5.out.2.2.below hbx) hk e.symm
              · exact OwA24 hv'.2 (HH5.out.2.2.below hbx) hk e.symm
            have hg5 := HG.out X5 HBX5.out
            refine ⟨nf _ _ _ HU5.out, nf _ _ _ HH5.out.1, ?_, ?_, ?_, ?_⟩
            · have hco : cellsO (O ++ [o]) = cellsO O ++ [.int .i64 o.k, .string o.n, .string o.t, .string o.d] := by rw [cellsO_append]; rfl
              have hrow : w7.ownsRow w3.heap.size 41 4 v7 (O ++ [o]).length (cellsO (O ++ [o])) := by rw [hco, List.length_append]; exact hown
              exact ⟨rdO_of hrow, ⟨_, hrow⟩⟩
            · refine (hgrow.block _ (HO5.out.below hbx).lt (fun e => ?_)).trans (HO5.out.below hbx)
              have := hz _ e.symm; omega
            · refine (hgrow.block _ (hg5.2.2.1.below hbx).lt (fun e => ?_)).trans (hg5.2.2.1.below hbx)
              obtain ⟨cs, hcs⟩ := hty _ e.symm
              have h3 := hg5.2.2.1.below hbx
              unfold At3 at h3
              rw [h3] at hcs
              cases hcs
            · have hb := hg5.2.2.2.trans (hbx.mono hg5.2.2.2.size)
              refine hb.grown hgrow hb.size (fun x hx => ?_)
              have := (hz x hx).1
              have := (HG.out w3 HB3.out).2.2.2.size
              omega
          clear hX5 hB5
          obtain ⟨i0, hi, hz0, hz1, hz2⟩ := info_parts infoDOpT
          go_wp2_with (first | (at_builtin; refine wpList_append_own _ rfl _ _ 28 rfl w3.heap.size 41 i0 (.agg #[.int .i64 0, .string ⟨#[]⟩, .string ⟨#[]⟩, .string ⟨#[]⟩]) 4 56 Try.underlying28 hi hz0 hz1 hz2 rfl (by decide) _ O.length _ rfl (HOx.out _) ⟨w4.heap.size + 1, 0, none⟩ 1 1 [.int .i64 o.k, .string o.n, .string o.t, .string o.d] rfl rfl (by have := World.news_of_block (heap_alloc_new (w4.alloc (.cells #[.slice au (doF L o).1.length cu, .slice b2 S.length d2, .slice b3 O.length d3] 30)) (.cells #[.int .i64 o.k, .string o.n, .string o.t, .string o.d] 41)); simpa using this) (by simp [Value.oneCell']) HMX.out.1 HMX.out.2.1 (by simp; have := HMX.out.2.2; omega) ?_; intro v7 w7 hown7 hgrow7 hnil7; rw [← HX5.out] at hgrow7; have HE := (show Hid _ from HFIN.out _ v7 w7 hown7 hgrow7); obtain ⟨a7, c7, e7⟩ := HE.out.2.2.1.2.slice; rw [List.length_append] at e7; subst e7; clear hown7 hgrow7 hnil7; have f2 : w7.frozen? ⟨w4.heap.size, 2, none⟩ = false := frozN HE.out.2.2.2.1; have r0 := HE.out.2.2.2.1.c0; have r1 := HE.out.2.2.2.1.c1; have r2 := HE.out.2.2.2.1.c2; obtain ⟨q, hq, hi6, ho6, h16⟩ := row3 au b2 a7 (doF L o).1.length cu S.length d2 (O.length + 1) c7; have HLT : Hid (w.heap.size + 1 + 1 < w1.heap.size ∧ w1.heap.size ≤ w3.heap.size ∧ w3.heap.size ≤ w4.heap.size) := ⟨(HG.out w1 HB1.out).2.2.1.lt, HS13.out, HMX.out.2.2⟩; have HR7 : Hid ((w7.setCell ⟨w4.heap.size, 2, none⟩ (.slice a7 (O.length + 1) c7)).heap[w.heap.size + 1 + 1]? = some (.cells #[.slice none 0 0, .slice none 0 0, .slice none 0 0] 30 (0, 0))) := (Below.heap_setCell _ _ _ _ (by have := HLT.out; dsimp only; omega)).trans HE.out.2.2.2.2.1) | (refine wpList_store_row rfl 30 _ _ rfl (w.heap.size + 1 + 1) q rfl (congrArg Value.agg hq.symm) 30 _ HR7.out hi6 ho6 h16 ?_))
          subst hq
          have hw7 : ∀ k, k ≠ w4.heap.size → k ≠ w.heap.size + 1 + 1 → ((w7.setCell ⟨w4.heap.size, 2, none⟩ (.slice a7 (O.length + 1) c7)).setRow (w.heap.size + 1 + 1) #[Value.slice au (doF L o).1.length cu, .slice b2 S.length d2, .slice a7 (O.length + 1) c7]).heap[k]? = w7.heap[k]? := fun k h1 h2 => (setRow_other _ _ _ _ h2).trans (Below.heap_setCell _ _ _ _ h1)
          have hs7 : w7.heap.size ≤ ((w7.setCell ⟨w4.heap.size, 2, none⟩ (.slice a7 (O.length + 1) c7)).setRow (w.heap.size + 1 + 1) #[Value.slice au (doF L o).1.length cu, .slice b2 S.length d2, .slice a7 (O.length + 1) c7]).heap.size := by simp [World.setRow, World.setCell]
          have hlt := HLT.out
          have hkA : ∀ (base : Nat) (v : Value) (M : List Fl), w1.heap.size ≤ base → HoldF w7 base v M → ∀ k, v.ownBlock = some k → ((w7.setCell ⟨w4.heap.size, 2, none⟩ (.slice a7 (O.length + 1) c7)).setRow (w.heap.size + 1 + 1) #[Value.slice au (doF L o).1.length cu, .slice b2 S.length d2, .slice a7 (O.length + 1) c7]).heap[k]? = w7.heap[k]? := fun base v M hb hv k hk => hw7 k (fun e => by
            obtain ⟨cs, hcs⟩ := hv.2.cells hk
            have h4 := HE.out.2.2.2.1
            unfold At3 at h4
            rw [e, h4] at hcs
            cases hcs) (by have := (hv.2.lt k hk).1; omega)
          have tA : ∀ (base : Nat) (v : Value) (M : List Fl), w1.heap.size ≤ base → HoldF w7 base v M → HoldF ((w7.setCell ⟨w4.heap.size, 2, none⟩ (.slice a7 (O.length + 1) c7)).setRow (w.heap.size + 1 + 1) #[Value.slice au (doF L o).1.length cu, .slice b2 S.length d2, .slice a7 (O.length + 1) c7]) base v M := fun base v M hb hv => ⟨hv.1.own hv.2 hs7 (hkA base v M hb hv), hv.2.blk (hkA base v M hb hv)⟩
          have h1 := tA _ _ _ (Nat.le_refl _) HE.out.1
          have h2 := tA _ _ _ hlt.2.1 HE.out.2.1
          have hv := HE.out.2.2.1
          have hkO : ∀ k, (Value.slice a7 (O.length + 1) c7).ownBlock = some k → ((w7.setCell ⟨w4.heap.size, 2, none⟩ (.slice a7 (O.length + 1) c7)).setRow (w.heap.size + 1 + 1) #[Value.slice au (doF L o).1.length cu, .slice b2 S.length d2, .slice a7 (O.length + 1) c7]).heap[k]? = w7.heap[k]? := fun k hk => hw7 k (fun e => by
            obtain ⟨cs, hcs⟩ := hv.2.cells hk
            have h4 := HE.out.2.2.2.1
            unfold At3 at h4
            rw [e, h4] at hcs
            cases hcs) (by have := (hv.2.lt k hk).1; omega)
          have hsw := (HG.out w1 HB1.out).2.2.2.size
          have hres : HasD ((w7.setCell ⟨w4.heap.size, 2, none⟩ (.slice a7 (O.length + 1) c7)).setRow (w.heap.size + 1 + 1) #[Value.slice au (doF L o).1.length cu, .slice b2 S.length d2, .slice a7 (O.length + 1) c7]) w.heap.size (.slice au (doF L o).1.length cu) (.slice b2 S.length d2) (.slice a7 (O.length + 1) c7) (actL L O o) S (actO L O o) := by
            rw [(act_yes HC.out).1, (act_yes HC.out).2]
            exact ⟨⟨h1.1, h2.1, hv.1.own hv.2 hs7 hkO⟩, h1.2.base hsw, h2.2.base (by omega), (hv.2.blk hkO).base (by omega), .inl (fun b hb e => by
              have := (HU3.out.2.lt b hb).2
              have := (h2.2.lt b e).1
              omega)⟩
          refine bodyPost_ret (v := .tuple #[.agg #[.slice au (doF L o).1.length cu, .slice b2 S.length d2, .slice a7 (O.length + 1) c7], _]) (results_row_tmp rfl _ _ (w.heap.size + 1 + 1) 30 _ _ _ rfl (setRow_heap _ _ _ _ _ _ HR7.out) Try.underlying30 rfl hi6) rfl ⟨_, _, _, ret_val (by rw [HC.out]; rfl), hres.rd, (fun _ => hres), ?_⟩
          · have hlt := HLT.out
            have hsz := (HG.out w1 HB1.out).2.2.2.size
            exact below_setRow (HE.out.2.2.2.2.2.setCell (p := ⟨w4.heap.size, 2, none⟩) (by show w.heap.size ≤ w4.heap.size; omega) _) (by omega) _

set_option maxRecDepth 10000 in
set_option maxHeartbeats 4000000 in
theorem specDo2_any (vL vS vO : Value) (L S : List Fl) (O : List Dop) (o : Dop) (w : World) (h : RdD w vL vS vO L S O) (hz : SmallD L S O) (hn : L.length ≤ 1048576 ∧ S.length ≤ 1048576 ∧ O.length ≤ 1048576) (ho : o.n.size ≤ 100000000 ∧ o.t.size ≤ 100000000 ∧ o.d.size ≤ 100000000) :
    Calls Try.prog 16 #[.agg #[vL, vS, vO], .agg (encO o)] w fun e w' => ∃ x y z, e = .returned (.tuple #[.agg #[x, y, z], .int .i64 (dC L S O o : Int)]) ∧ RdD w' x y z (dL L S O o) (dS L S O) (dO L S O o) ∧ (dC L S O o = 0 → HasD w' w.heap.size x y z (dL L S O o) (dS L S O) (dO L S O o)) ∧ Below w.heap.size w w' := by
  have HN : Hid (L.length ≤ 1048576 ∧ S.length ≤ 1048576 ∧ O.length ≤ 1048576) := hn
  have HZ : Hid (SmallD L S O) := hz
  have HOZ : Hid (o.n.size ≤ 100000000 ∧ o.t.size ≤ 100000000 ∧ o.d.size ≤ 100000000) := ho
  have HA : Hid (∀ w', Below w.heap.size w w' → RdD w' vL vS vO L S O) := fun w' hB => h.below hB
  obtain ⟨aL, cL, rfl⟩ := h.1.slice
  obtain ⟨aS, cS, rfl⟩ := h.2.1.slice
  obtain ⟨aO, cO, rfl⟩ := h.2.2.slice
  clear h hz hn ho
  change Calls _ _ #[.agg #[.slice aL L.length cL, .slice aS S.length cS, .slice aO O.length cO], .agg #[.int .i64 o.k, .string o.n, .string o.t, .string o.d]] w _
  obtain ⟨X, hX⟩ : ∃ X, X = ((w.alloc (.cells #[.slice aL L.length cL, .slice aS S.length cS, .slice aO O.length cO] 30)).alloc (.cells #[.int .i64 o.k, .string o.n, .string o.t, .string o.d] 41)).alloc (.cells #[.slice none 0 0, .slice none 0 0, .slice none 0 0] 30) := ⟨_, rfl⟩
  have hBX : Below w.heap.size w X := by rw [hX]; exact (((Below.refl _ _).alloc (Nat.le_refl _) _).alloc (by simp) _).alloc (by simp; omega) _
  have gX : X.heap[w.heap.size]? = some (.cells #[.slice aL L.length cL, .slice aS S.length cS, .slice aO O.length cO] 30 (0, 0)) := by rw [hX, Below.heap_alloc _ _ _ (by simp; omega), Below.heap_alloc _ _ _ (by simp)]; exact heap_alloc_new _ _
  have gO : X.heap[w.heap.size + 1]? = some (.cells #[.int .i64 o.k, .string o.n, .string o.t, .string o.d] 41 (0, 0)) := by
    rw [hX, Below.heap_alloc _ _ _ (by simp)]
    have := heap_alloc_new (w.alloc (.cells #[.slice aL L.length cL, .slice aS S.length cS, .slice aO O.length cO] 30)) (.cells #[.int .i64 o.k, .string o.n, .string o.t, .string o.d] 41)
    simpa using this
  have gR : X.heap[w.heap.size + 1 + 1]? = some (.cells #[.slice none 0 0, .slice none 0 0, .slice none 0 0] 30 (0, 0)) := by
    rw [hX]
    have := heap_alloc_new ((w.alloc (.cells #[.slice aL L.length cL, .slice aS S.length cS, .slice aO O.length cO] 30)).alloc (.cells #[.int .i64 o.k, .string o.n, .string o.t, .string o.d] 41)) (.cells #[.slice none 0 0, .slice none 0 0, .slice none 0 0] 30)
    simpa using this
  have HX := (show Hid _ from hX)
  have HBX : Hid (Below w.heap.size w X) := hBX
  have HG : Hid (∀ w', Below X.heap.size X w' → At3 w' w.heap.size 30 (.slice aL L.length cL) (.slice aS S.length cS) (.slice aO O.length cO) ∧ w'.heap[w.heap.size + 1]? = some (.cells #[.int .i64 o.k, .string o.n, .string o.t, .string o.d] 41 (0, 0)) ∧ At3 w' (w.heap.size + 1 + 1) 30 (.slice none 0 0) (.slice none 0 0) (.slice none 0 0) ∧ Below w.heap.size w w') := fun w' hB => ⟨(hB.block _ (lt_of_block gX)).trans gX, (hB.block _ (lt_of_block gO)).trans gO, (hB.block _ (lt_of_block gR)).trans gR, hBX.trans (hB.mono hBX.size)⟩
  have k0 : X.cell? ⟨w.heap.size + 1, 0, none⟩ = some (.int .i64 o.k) := cellN gO
  have k1 : X.cell? ⟨w.heap.size + 1, 1, none⟩ = some (.string o.n) := cellN gO
  have k2 : X.cell? ⟨w.heap.size + 1, 2, none⟩ = some (.string o.t) := cellN gO
  have k3 : X.cell? ⟨w.heap.size + 1, 3, none⟩ = some (.string o.d) := cellN gO
  rw [hX] at k0 k1 k2 k3
  have c0 : X.cell? ⟨w.heap.size, 0, none⟩ = some (.slice aL L.length cL) := cellN gX
  have c1 : X.cell? ⟨w.heap.size, 1, none⟩ = some (.slice aS S.length cS) := cellN gX
  have c2 : X.cell? ⟨w.heap.size, 2, none⟩ = some (.slice aO O.length cO) := cellN gX
  rw [hX] at c0 c1 c2
  clear hX hBX gX gO gR
  go_enter Try.func16, Try.ntmps16
  go_wp2_with fail
  rw [← HX.out]
  have hAX := HA.out X HBX.out
  refine (specDisk_any _ _ _ L S O X hAX.1 hAX.2.1 hAX.2.2 HZ.out).mono ?_
  rintro e w1 ⟨rfl, hB1⟩
  have HB1 : Hid (Below X.heap.size X w1) := hB1
  clear k0 k1 k2 k3 c0 c1 c2 HX hB1 hAX
  have hg1 := HG.out w1 HB1.out
  cases hd : diskB L S O with
  | false =>
    have HD := (show Hid _ from d_no o hd)
    have HR3 : Hid (At3 w1 (w.heap.size + 1 + 1) 30 (.slice none 0 0) (.slice none 0 0) (.slice none 0 0)) := hg1.2.2.1
    obtain ⟨q, hq, hi6, ho6, h16⟩ := row3 none none none 0 0 0 0 0 0
    clear hg1 hd
    go_wp2_with (refine wpList_store_row rfl 30 _ _ rfl (w.heap.size + 1 + 1) q rfl (congrArg Value.agg hq.symm) 30 _ HR3.out hi6 ho6 h16 ?_)
    subst hq
    refine bodyPost_ret (v := .tuple #[.agg #[.slice none 0 0, .slice none 0 0, .slice none 0 0], _]) (results_row_tmp rfl _ _ (w.heap.size + 1 + 1) 30 _ _ _ rfl (setRow_heap _ _ _ _ _ _ HR3.out) Try.underlying30 rfl hi6) rfl ⟨_, _, _, ret_val (by rw [HD.out.1]; rfl), ?_, (fun h => absurd (HD.out.1.symm.trans h) (by decide)), ?_⟩
    · rw [HD.out.2.1, HD.out.2.2.1, HD.out.2.2.2]
      exact ⟨(HoldF.nil _ 0).1, (HoldF.nil _ 0).1, (HoldO.nil _ 0).1⟩
    · exact below_setRow (HG.out w1 HB1.out).2.2.2 (by omega) _
  | true =>
    have HD := (show Hid _ from d_yes o hd)
    have HL6 : Hid (L.length ≤ 60 ∧ tot L ≤ 200000) := ⟨(filesB_parts (disk_live hd).1).1, (filesB_parts (disk_live hd).1).2.1⟩
    have c0 := hg1.1.c0
    have c1 := hg1.1.c1
    have c2 := hg1.1.c2
    have k0 : w1.cell? ⟨w.heap.size + 1, 0, none⟩ = some (.int .i64 o.k) := cellN hg1.2.1
    have k1 : w1.cell? ⟨w.heap.size + 1, 1, none⟩ = some (.string o.n) := cellN hg1.2.1
    have k2 : w1.cell? ⟨w.heap.size + 1, 2, none⟩ = some (.string o.t) := cellN hg1.2.1
    have k3 : w1.cell? ⟨w.heap.size + 1, 3, none⟩ = some (.string o.d) := cellN hg1.2.1
    clear hg1 hd
    go_wp2_with fail
    refine (specAct2_any _ _ _ L S O o w1 (HA.out w1 (HG.out w1 HB1.out).2.2.2) HZ.out HN.out HL6.out HOZ.out).mono ?_
    rintro e w2 ⟨x, y, z, rfl, hr, hx, hB2⟩
    obtain ⟨b1, d1, b2, d2, b3, d3, ex, ey, ez⟩ := hr.slices
    have HB2 : Hid (Below X.heap.size X w2) := HB1.out.trans (hB2.mono HB1.out.size)
    have HR3 : Hid (At3 w2 (w.heap.size + 1 + 1) 30 (.slice none 0 0) (.slice none 0 0) (.slice none 0 0)) := (HG.out w2 HB2.out).2.2.1
    have HRR : Hid (RdD w2 x y z (actL L O o) S (actO L O o)) := hr
    have HHX : Hid (actC L O o = 0 → HasD w2 w1.heap.size x y z (actL L O o) S (actO L O o)) := hx
    obtain ⟨m1, hm1⟩ : ∃ m, m = (actL L O o).length := ⟨_, rfl⟩
    obtain ⟨m3, hm3⟩ : ∃ m, m = (actO L O o).length := ⟨_, rfl⟩
    rw [← hm1] at ex
    rw [← hm3] at ez
    subst ex ey ez
    obtain ⟨C, hC⟩ : ∃ C, C = actC L O o := ⟨_, rfl⟩
    have HCC : Hid (C = actC L O o) := hC
    rw [← hC]
    obtain ⟨q, hq, hi6, ho6, h16⟩ := row3 b1 b2 b3 m1 d1 S.length d2 m3 d3
    clear hr hx hB2 c0 c1 c2 k0 k1 k2 k3 hm1 hm3 hC
    go_wp2_with (refine wpList_store_row rfl 30 _ _ rfl (w.heap.size + 1 + 1) q rfl (congrArg Value.agg hq.symm) 30 _ HR3.out hi6 ho6 h16 ?_)
    subst hq
    refine bodyPost_ret (v := .tuple #[.agg #[.slice b1 m1 d1, .slice b2 S.length d2, .slice b3 m3 d3], _]) (results_row_tmp rfl _ _ (w.heap.size + 1 + 1) 30 _ _ _ rfl (setRow_heap _ _ _ _ _ _ HR3.out) Try.underlying30 rfl hi6) rfl ⟨_, _, _, ret_val (by rw [HD.out.1, ← HCC.out]; rfl), ?_, (fun h => ?_), ?_⟩
    · rw [HD.out.2.1, HD.out.2.2.1, HD.out.2.2.2]
      exact HRR.out.row HR3.out _
    · rw [HD.out.2.1, HD.out.2.2.1, HD.out.2.2.2]
      exact ((HHX.out (HD.out.1.symm.trans h)).base (HG.out w1 HB1.out).2.2.2.size).row HR3.out _
    · exact below_setRow (HG.out w2 HB2.out).2.2.2 (by omega) _

end Go.Proofs.Ytdlkokdhbffhpaa

namespace Go.Proofs.Ytdlkokdhbffhpaa
open Go.RowKit
set_option linter.unusedVariables false

/-- a slice of bytes that reads as the numbers Z 0, Z 1, .. in world w -/
def IsU8 (w : World) (a : Option Addr) (len cap : Nat) (Z : Nat → Int) : Prop :=
  len ≤ cap ∧ cap ≤ 9223372036854775807 ∧ (∀ i, 0 ≤ Z i ∧ Z i ≤ 255) ∧ (0 < len → ∃ b off, a = some ⟨b, off, none⟩ ∧ b < w.heap.size ∧ ∀ i, i < len → w.cell? ⟨b, off + i, none⟩ = some (.int .u8 (Z i)))

/-- all blocks of w but R lie in w' as they lay -/
structure Mut (R : Nat) (w w' : World) : Prop where
  os : w'.os = w.os
  tape : w'.tape = w.tape
  output : w'.output = w.output
  size : w.heap.size ≤ w'.heap.size
  block : ∀ k, k < w.heap.size → k ≠ R → w'.heap[k]? = w.heap[k]?

theorem Mut.refl (R : Nat) (w : World) : Mut R w w := ⟨rfl, rfl, rfl, Nat.le_refl _, fun _ _ _ => rfl⟩
theorem Mut.trans {R : Nat} {a b c : World} (h : Mut R a b) (k : Mut R b c) : Mut R a c :=
  ⟨k.os.trans h.os, k.tape.trans h.tape, k.output.trans h.output, Nat.le_trans h.size k.size, fun i hi hr => (k.block i (Nat.lt_of_lt_of_le hi h.size) hr).trans (h.block i hi hr)⟩
theorem Mut.setCell {R : Nat} {a w : World} (h : Mut R a w) (o : Nat) (u : Value) : Mut R a (w.setCell ⟨R, o, none⟩ u) :=
  h.trans ⟨rfl, rfl, rfl, by simp [World.setCell], fun k _ hr => Below.heap_setCell _ _ _ _ hr⟩
theorem Mut.alloc {R : Nat} {a w : World} (h : Mut R a w) (o : Obj) : Mut R a (w.alloc o) :=
  h.trans ⟨rfl, rfl, rfl, by simp, fun k hk _ => Below.heap_alloc _ _ _ hk⟩
theorem Mut.drewN {R : Nat} {a w : World} (h : Mut R a w) (n : Nat) : Mut R a (w.drewN n) := h.trans ⟨rfl, rfl, rfl, Nat.le_refl _, fun _ _ _ => rfl⟩

/-- w is behind W; block R, new since W, holds a reader of the code -/
structure Draw (W : World) (a : Option Addr) (len cap R : Nat) (w : World) : Prop where
  bel : Below W.heap.size W w
  new : W.heap.size ≤ R
  box : ∃ p : Nat, p ≤ len ∧ w.heap[R]? = some (.cells #[.slice a len cap, .int .i64 p] 125 (0, 0))

theorem Draw.alloc {W : World} {a : Option Addr} {len cap R : Nat} {w : World} (h : Draw W a len cap R w) (o : Obj) : Draw W a len cap R (w.alloc o) := by
  obtain ⟨p, hp, hb⟩ := h.box
  exact ⟨h.bel.alloc (Nat.le_trans h.new (Nat.le_of_lt (lt_of_block hb))) o, h.new, p, hp, by rw [Below.heap_alloc _ _ _ (lt_of_block hb)]; exact hb⟩

theorem Draw.below {W : World} {a : Option Addr} {len cap R : Nat} {w w' : World} (h : Draw W a len cap R w) (hB : Below w.heap.size w w') : Draw W a len cap R w' := by
  obtain ⟨p, hp, hb⟩ := h.box
  exact ⟨h.bel.trans (hB.mono h.bel.size), h.new, p, hp, (hB.block _ (lt_of_block hb)).trans hb⟩
theorem Mut.of_below {R : Nat} {w w' : World} (h : Below w.heap.size w w') : Mut R w w' := ⟨h.os, h.tape, h.output, h.size, fun k hk _ => h.block k hk⟩
theorem Draw.drewN {W : World} {a : Option Addr} {len cap R : Nat} {w : World} (h : Draw W a len cap R w) (n : Nat) : Draw W a len cap R (w.drewN n) :=
  ⟨h.bel.trans ⟨rfl, rfl, rfl, Nat.le_refl _, fun _ _ => rfl⟩, h.new, h.box⟩

section
variable {W : World} {a : Option Addr} {len cap R : Nat} {Z : Nat → Int}

set_option maxHeartbeats 400000 in
theorem next_any (hU : IsU8 W a len cap Z) (w : World) (h : Draw W a len cap R w) :
    Calls Try.prog 84 #[.pointer (some ⟨R, 0, none⟩)] w fun e w' => ∃ x : Int, 0 ≤ x ∧ x ≤ 255 ∧ e = .returned (.int .i64 x) ∧ Draw W a len cap R w' ∧ Mut R w w' := by
  obtain ⟨hlc, hcm, hrg, hc⟩ := hU
  obtain ⟨p, hp, hb⟩ := h.box
  have c0 : w.cell? ⟨R, 0, none⟩ = some (.slice a len cap) := by simp [World.cell?, hb]
  have c1 : w.cell? ⟨R, 1, none⟩ = some (.int .i64 p) := by simp [World.cell?, hb]
  have f1 : w.frozen? ⟨R, 1, none⟩ = false := by simp [World.frozen?, hb]
  have H : Hid (Draw W a len cap R w) := h
  have HB : Hid (w.heap[R]? = some (.cells #[.slice a len cap, .int .i64 p] 125 (0, 0))) := hb
  clear h hb
  by_cases hlt : p < len
  · have hge : decide ((len : Int) ≤ (p : Int)) = false := by simp; omega
    have hltI : (p : Int) < (len : Int) := by omega
    obtain ⟨b, off, rfl, hbs, hcell⟩ := hc (by omega)
    have hck : w.cell? ⟨b, off + p, none⟩ = some (.int .u8 (Z p)) := (H.out.bel.cell (p := ⟨b, off + p, none⟩) hbs).trans (hcell p hlt)
    have hRb : Hid (R ≠ b) := by
      show _ ≠ _
      have := H.out.new
      omega
    have hck' : ∀ nq, ((w.drewN nq).setCell ⟨R, 1, none⟩ (.int .i64 ((p : Int) + 1))).cell? ⟨b, off + p, none⟩ = some (.int .u8 (Z p)) := by
      intro nq
      rw [← hck]
      exact World.cell?_of_block (Below.heap_setCell _ _ _ _ (fun e => hRb.out e.symm))
    have hb' : Hid ((w.setCell ⟨R, 1, none⟩ (.int .i64 ((p : Int) + 1))).heap[R]? = some (.cells #[.slice (some ⟨b, off, none⟩) len cap, .int .i64 ((p + 1 : Nat) : Int)] 125 (0, 0))) := by
      show _ = _
      rw [heap_setCell_same w R 1 _ 125 _ HB.out]
      rfl
    have HD : Hid (∀ nq n, Draw W (some ⟨b, off, none⟩) len cap R (((w.drewN nq).setCell ⟨R, 1, none⟩ (.int .i64 ((p : Int) + 1))).drewN n)) := fun nq n =>
      Draw.drewN ⟨(H.out.drewN nq).bel.setCell (p := ⟨R, 1, none⟩) H.out.new _, H.out.new, p + 1, hlt, hb'.out⟩ n
    have hz := hrg p
    have hwp : IntKind.i64.wrap (p : Int) = (p : Int) := by rw [IntKind.wrap_i64]; omega
    clear hcell hc
    go_enter Try.func84, Try.ntmps84
    go_wp2
    go_quiet (fail)
    go_wp2
    go_quiet (fail)
    go_wp2
    go_ret
    exact ⟨Z p, hz.1, hz.2, rfl, HD.out _ _, (((Mut.refl R w).drewN _).setCell 1 _).drewN _⟩
  · have hge : decide ((len : Int) ≤ (p : Int)) = true := by simp; omega
    go_enter Try.func84, Try.ntmps84
    go_wp2
    go_quiet (fail)
    go_wp2
    go_ret
    exact ⟨0, by omega, by omega, rfl, H.out.drewN _, (Mut.refl R w).drewN _⟩

theorem below_any (hU : IsU8 W a len cap Z) (n : Int) (hn : 2 ≤ n) (hn2 : n ≤ 256) (w : World) (h : Draw W a len cap R w) :
    Calls Try.prog 56 #[.pointer (some ⟨R, 0, none⟩), .int .i64 n] w fun e w' => ∃ x : Int, 0 ≤ x ∧ x < n ∧ e = .returned (.int .i64 x) ∧ Draw W a len cap R w' ∧ Mut R w w' := by
  have h1 : ¬ n ≤ 1 := by omega
  have h0 : ¬ n = 0 := by omega
  go_enter Try.func56, Try.ntmps56
  go_wp2_with (go_at_call 84; refine (next_any hU _ h).mono ?_; rintro e w' ⟨x, hx0, hx1, rfl, hD, hM⟩)
  go_ret
  refine ⟨x % n, Int.emod_nonneg _ (by omega), Int.emod_lt_of_pos _ (by omega), rfl, hD, hM⟩

theorem once_any (hU : IsU8 W a len cap Z) (n : Int) (hn : 2 ≤ n) (hn2 : n ≤ 256) (w : World) (h : Draw W a len cap R w) :
    Calls Try.prog 82 #[.pointer (some ⟨R, 0, none⟩), .int .i64 n] w fun e w' => ∃ x : Bool, e = .returned (.bool x) ∧ Draw W a len cap R w' ∧ Mut R w w' := by
  go_enter Try.func82, Try.ntmps82
  go_wp2_with (go_at_call 56; refine (below_any hU n hn hn2 _ h).mono ?_; rintro e w' ⟨x, hx0, hx1, rfl, hD, hM⟩)
  go_ret
  exact ⟨_, rfl, hD, hM⟩

set_option maxHeartbeats 400000 in
theorem word_any (hU : IsU8 W a len cap Z) (w : World) (h : Draw W a len cap R w) :
    Calls Try.prog 96 #[.pointer (some ⟨R, 0, none⟩)] w fun e w' => ∃ x : Int, e = .returned (.int .u64 x) ∧ Draw W a len cap R w' ∧ Mut R w w' := by
  go_enter Try.func96, Try.ntmps96
  go_wp2
  go_loopw [3, 4] (fun x i wr => ∃ (z : Int) (k : Nat), k ≤ 8 ∧ x = .int .u64 z ∧ i = .int .i64 k ∧ Draw W a len cap R wr ∧ Mut R w wr) (fun _ i _ => 8 - (intOf i).toNat)
  case atStart => exact ⟨0, 0, by omega, rfl, rfl, h, Mut.refl _ _⟩
  case round =>
    obtain ⟨z, k, hk, rfl, rfl, hD, hM⟩ := hrel
    by_cases hlt : k < 8
    · have hltI : (k : Int) < 8 := by omega
      go_wp2_with (go_at_call 84; refine (next_any hU _ hD).mono ?_; rintro e w' ⟨x, hx0, hx1, rfl, hD', hM'⟩)
      exact ⟨⟨_, k + 1, by omega, rfl, by go_num, hD', hM.trans hM'⟩, by simp [intOf]; omega⟩
    · have hltI : ¬ (k : Int) < 8 := by omega
      go_wp2
      go_ret
      exact ⟨⟨z, rfl⟩, hD, hM⟩

theorem Draw.lt {w : World} (h : Draw W a len cap R w) : R < w.heap.size := by
  obtain ⟨p, hp, hb⟩ := h.box
  exact lt_of_block hb

/-- a literal's own block behind a draw -/
theorem lit_cells {w w' : World} {cs : Array Value} {t : TypeId} (hM : Mut R (w.alloc (.cells cs t)) w') (hR : R < w.heap.size) (i : Nat) : w'.cell? ⟨w.heap.size, i, none⟩ = cs[i]? := by
  have hb : w'.heap[w.heap.size]? = some (.cells cs t (0, 0)) := (hM.block w.heap.size (by simp) (by omega)).trans (heap_alloc_new w _)
  simp [World.cell?, hb]

theorem wrap64_range (z : Int) : -9223372036854775808 ≤ wrap64 z ∧ wrap64 z ≤ 9223372036854775807 := by unfold wrap64; omega

set_option maxHeartbeats 400000 in
theorem near19_any (hU : IsU8 W a len cap Z) (w : World) (h : Draw W a len cap R w) :
    Calls Try.prog 85 #[.pointer (some ⟨R, 0, none⟩), .int .i64 1, .int .i64 9] w fun e w' => ∃ x : Int, -9223372036854775808 ≤ x ∧ x ≤ 9223372036854775807 ∧ e = .returned (.int .i64 x) ∧ Draw W a len cap R w' ∧ Mut R w w' := by
  go_enter Try.func85, Try.ntmps85
  go_wp2_with (first
    | (go_at_call 56; refine (below_any hU 8 (by omega) (by omega) _ h).mono ?_; rintro e w' ⟨x, hx0, hx1, rfl, hD, hM⟩)
    | (go_at_call 96; refine (word_any hU _ hD).mono ?_; rintro e w2 ⟨z, rfl, hD', hM'⟩))
  · go_ret
    exact ⟨_, by omega, by omega, rfl, hD, hM⟩
  · go_ret
    exact ⟨_, by omega, by omega, rfl, hD, hM⟩
  · go_ret
    exact ⟨_, (wrap64_range _).1, (wrap64_range _).2, rfl, hD', hM.trans hM'⟩

set_option maxHeartbeats 400000 in
theorem off19_any (hU : IsU8 W a len cap Z) (w : World) (h : Draw W a len cap R w) :
    Calls Try.prog 57 #[.pointer (some ⟨R, 0, none⟩), .int .i64 1, .int .i64 9] w fun e w' => ∃ x : Int, -9223372036854775808 ≤ x ∧ x ≤ 9223372036854775807 ∧ e = .returned (.int .i64 x) ∧ Draw W a len cap R w' ∧ Mut R w w' := by
  go_enter Try.func57, Try.ntmps57
  go_wp2_with (first
    | (go_at_call 82; refine (once_any hU 24 (by omega) (by omega) _ h).mono ?_; rintro e w' ⟨x, rfl, hD, hM⟩)
    | (go_at_call 85; refine (near19_any hU _ hD).mono ?_; rintro e w2 ⟨z, hz0, hz1, rfl, hD', hM'⟩))
  · refine (below_any hU 4 (by omega) (by omega) _ (hD.alloc _)).mono ?_
    rintro e w3 ⟨y, hy0, hy1, rfl, hD3, hM3⟩
    have hc := lit_cells hM3 hD.lt
    have c0 := hc 0
    have c1 := hc 1
    have c2 := hc 2
    have c3 := hc 3
    clear hc
    have hM4 : Hid (Mut R w w3) := (hM.alloc _).trans hM3
    clear hM3
    have hy : y = 0 ∨ y = 1 ∨ y = 2 ∨ y = 3 := by omega
    rcases hy with rfl | rfl | rfl | rfl <;> (go_wp2; go_ret; exact ⟨_, by omega, by omega, rfl, hD3, hM4.out⟩)
  · go_ret
    exact ⟨_, by omega, by omega, rfl, hD', hM.trans hM'⟩
set_option maxHeartbeats 400000 in
theorem near16_any (hU : IsU8 W a len cap Z) (w : World) (h : Draw W a len cap R w) :
    Calls Try.prog 85 #[.pointer (some ⟨R, 0, none⟩), .int .i64 1, .int .i64 6] w fun e w' => ∃ x : Int, -9223372036854775808 ≤ x ∧ x ≤ 9223372036854775807 ∧ e = .returned (.int .i64 x) ∧ Draw W a len cap R w' ∧ Mut R w w' := by
  go_enter Try.func85, Try.ntmps85
  go_wp2_with (first
    | (go_at_call 56; refine (below_any hU 8 (by omega) (by omega) _ h).mono ?_; rintro e w' ⟨x, hx0, hx1, rfl, hD, hM⟩)
    | (go_at_call 96; refine (word_any hU _ hD).mono ?_; rintro e w2 ⟨z, rfl, hD', hM'⟩))
  · go_ret
    exact ⟨_, by omega, by omega, rfl, hD, hM⟩
  · go_ret
    exact ⟨_, by omega, by omega, rfl, hD, hM⟩
  · go_ret
    exact ⟨_, (wrap64_range _).1, (wrap64_range _).2, rfl, hD', hM.trans hM'⟩

set_option maxHeartbeats 400000 in
theorem off16_any (hU : IsU8 W a len cap Z) (w : World) (h : Draw W a len cap R w) :
    Calls Try.prog 57 #[.pointer (some ⟨R, 0, none⟩), .int .i64 1, .int .i64 6] w fun e w' => ∃ x : Int, -9223372036854775808 ≤ x ∧ x ≤ 9223372036854775807 ∧ e = .returned (.int .i64 x) ∧ Draw W a len cap R w' ∧ Mut R w w' := by
  go_enter Try.func57, Try.ntmps57
  go_wp2_with (first
    | (go_at_call 82; refine (once_any hU 24 (by omega) (by omega) _ h).mono ?_; rintro e w' ⟨x, rfl, hD, hM⟩)
    | (go_at_call 85; refine (near16_any hU _ hD).mono ?_; rintro e w2 ⟨z, hz0, hz1, rfl, hD', hM'⟩))
  · refine (below_any hU 4 (by omega) (by omega) _ (hD.alloc _)).mono ?_
    rintro e w3 ⟨y, hy0, hy1, rfl, hD3, hM3⟩
    have hc := lit_cells hM3 hD.lt
    have c0 := hc 0
    have c1 := hc 1
    have c2 := hc 2
    have c3 := hc 3
    clear hc
    have hM4 : Hid (Mut R w w3) := (hM.alloc _).trans hM3
    clear hM3
    have hy : y = 0 ∨ y = 1 ∨ y = 2 ∨ y = 3 := by omega
    rcases hy with rfl | rfl | rfl | rfl <;> (go_wp2; go_ret; exact ⟨_, by omega, by omega, rfl, hD3, hM4.out⟩)
  · go_ret
    exact ⟨_, by omega, by omega, rfl, hD', hM.trans hM'⟩
set_option maxHeartbeats 400000 in
theorem near0m_any (hU : IsU8 W a len cap Z) (w : World) (h : Draw W a len cap R w) :
    Calls Try.prog 85 #[.pointer (some ⟨R, 0, none⟩), .int .i64 0, .int .i64 1000000] w fun e w' => ∃ x : Int, -9223372036854775808 ≤ x ∧ x ≤ 9223372036854775807 ∧ e = .returned (.int .i64 x) ∧ Draw W a len cap R w' ∧ Mut R w w' := by
  go_enter Try.func85, Try.ntmps85
  go_wp2_with (first
    | (go_at_call 56; refine (below_any hU 8 (by omega) (by omega) _ h).mono ?_; rintro e w' ⟨x, hx0, hx1, rfl, hD, hM⟩)
    | (go_at_call 96; refine (word_any hU _ hD).mono ?_; rintro e w2 ⟨z, rfl, hD', hM'⟩))
  · go_ret
    exact ⟨_, by omega, by omega, rfl, hD, hM⟩
  · go_ret
    exact ⟨_, by omega, by omega, rfl, hD, hM⟩
  · go_ret
    exact ⟨_, (wrap64_range _).1, (wrap64_range _).2, rfl, hD', hM.trans hM'⟩

set_option maxHeartbeats 400000 in
theorem off0m_any (hU : IsU8 W a len cap Z) (w : World) (h : Draw W a len cap R w) :
    Calls Try.prog 57 #[.pointer (some ⟨R, 0, none⟩), .int .i64 0, .int .i64 1000000] w fun e w' => ∃ x : Int, -9223372036854775808 ≤ x ∧ x ≤ 9223372036854775807 ∧ e = .returned (.int .i64 x) ∧ Draw W a len cap R w' ∧ Mut R w w' := by
  go_enter Try.func57, Try.ntmps57
  go_wp2_with (first
    | (go_at_call 82; refine (once_any hU 24 (by omega) (by omega) _ h).mono ?_; rintro e w' ⟨x, rfl, hD, hM⟩)
    | (go_at_call 85; refine (near0m_any hU _ hD).mono ?_; rintro e w2 ⟨z, hz0, hz1, rfl, hD', hM'⟩))
  · refine (below_any hU 4 (by omega) (by omega) _ (hD.alloc _)).mono ?_
    rintro e w3 ⟨y, hy0, hy1, rfl, hD3, hM3⟩
    have hc := lit_cells hM3 hD.lt
    have c0 := hc 0
    have c1 := hc 1
    have c2 := hc 2
    have c3 := hc 3
    clear hc
    have hM4 : Hid (Mut R w w3) := (hM.alloc _).trans hM3
    clear hM3
    have hy : y = 0 ∨ y = 1 ∨ y = 2 ∨ y = 3 := by omega
    rcases hy with rfl | rfl | rfl | rfl <;> (go_wp2; go_ret; exact ⟨_, by omega, by omega, rfl, hD3, hM4.out⟩)
  · go_ret
    exact ⟨_, by omega, by omega, rfl, hD', hM.trans hM'⟩
set_option maxHeartbeats 400000 in
theorem near14_any (hU : IsU8 W a len cap Z) (w : World) (h : Draw W a len cap R w) :
    Calls Try.prog 85 #[.pointer (some ⟨R, 0, none⟩), .int .i64 1, .int .i64 4] w fun e w' => ∃ x : Int, -9223372036854775808 ≤ x ∧ x ≤ 9223372036854775807 ∧ e = .returned (.int .i64 x) ∧ Draw W a len cap R w' ∧ Mut R w w' := by
  go_enter Try.func85, Try.ntmps85
  go_wp2_with (first
    | (go_at_call 56; refine (below_any hU 8 (by omega) (by omega) _ h).mono ?_; rintro e w' ⟨x, hx0, hx1, rfl, hD, hM⟩)
    | (go_at_call 96; refine (word_any hU _ hD).mono ?_; rintro e w2 ⟨z, rfl, hD', hM'⟩))
  · go_ret
    exact ⟨_, by omega, by omega, rfl, hD, hM⟩
  · go_ret
    exact ⟨_, by omega, by omega, rfl, hD, hM⟩
  · go_ret
    exact ⟨_, (wrap64_range _).1, (wrap64_range _).2, rfl, hD', hM.trans hM'⟩

set_option maxHeartbeats 400000 in
theorem off14_any (hU : IsU8 W a len cap Z) (w : World) (h : Draw W a len cap R w) :
    Calls Try.prog 57 #[.pointer (some ⟨R, 0, none⟩), .int .i64 1, .int .i64 4] w fun e w' => ∃ x : Int, -9223372036854775808 ≤ x ∧ x ≤ 9223372036854775807 ∧ e = .returned (.int .i64 x) ∧ Draw W a len cap R w' ∧ Mut R w w' := by
  go_enter Try.func57, Try.ntmps57
  go_wp2_with (first
    | (go_at_call 82; refine (once_any hU 24 (by omega) (by omega) _ h).mono ?_; rintro e w' ⟨x, rfl, hD, hM⟩)
    | (go_at_call 85; refine (near14_any hU _ hD).mono ?_; rintro e w2 ⟨z, hz0, hz1, rfl, hD', hM'⟩))
  · refine (below_any hU 4 (by omega) (by omega) _ (hD.alloc _)).mono ?_
    rintro e w3 ⟨y, hy0, hy1, rfl, hD3, hM3⟩
    have hc := lit_cells hM3 hD.lt
    have c0 := hc 0
    have c1 := hc 1
    have c2 := hc 2
    have c3 := hc 3
    clear hc
    have hM4 : Hid (Mut R w w3) := (hM.alloc _).trans hM3
    clear hM3
    have hy : y = 0 ∨ y = 1 ∨ y = 2 ∨ y = 3 := by omega
    rcases hy with rfl | rfl | rfl | rfl <;> (go_wp2; go_ret; exact ⟨_, by omega, by omega, rfl, hD3, hM4.out⟩)
  · go_ret
    exact ⟨_, by omega, by omega, rfl, hD', hM.trans hM'⟩

end
end Go.Proofs.Ytdlkokdhbffhpaa

namespace Go.Proofs.Ytdlkokdhbffhpaa
open Go.RowKit
set_option linter.unusedVariables false

theorem big_any (a : Option Addr) (len cap : Nat) (w : World) : Calls Try.prog 24 #[.slice a len cap] w fun e w' => e = .returned (.bool (decide ((1048576 : Int) < (len : Int)))) ∧ w' = w := by
  go_enter Try.func24, Try.ntmps24
  go_wp2
  go_ret
  exact ⟨rfl, rfl⟩

theorem open_any (a : Option Addr) (len cap : Nat) (w : World) : Calls Try.prog 53 #[.slice a len cap] w fun e w' => e = .returned (.pointer (some ⟨w.heap.size, 0, none⟩)) ∧ Draw w a len cap w.heap.size w' := by
  go_enter Try.func53, Try.ntmps53
  go_wp2
  go_ret
  exact ⟨rfl, (Below.refl _ _).alloc (Nat.le_refl _) _, Nat.le_refl _, 0, Nat.zero_le _, heap_alloc_new w _⟩

/-- a row that is new since the start is written -/
theorem Mut.row {R : Nat} {a w : World} (h : Mut R a w) {k : Nat} (q : Array Value) (hk : a.heap.size ≤ k) : Mut R a (w.setRow k q) :=
  ⟨h.os, h.tape, h.output, by simpa [World.setRow] using h.size, fun i hi hr => by rw [setRow_other _ _ _ _ (show i ≠ k by omega)]; exact h.block i hi hr⟩
theorem Draw.row {W : World} {a : Option Addr} {len cap R : Nat} {w : World} (h : Draw W a len cap R w) {k : Nat} (q : Array Value) (hk : R < k) : Draw W a len cap R (w.setRow k q) := by
  obtain ⟨p, hp, hb⟩ := h.box
  exact ⟨below_setRow h.bel (by have := h.new; omega) _, h.new, p, hp, by rw [setRow_other _ _ _ _ (show R ≠ k by omega)]; exact hb⟩
theorem HasD.mut {R : Nat} {w w' : World} {base : Nat} {x y z : Value} {L S : List Fl} {O : List Dop} (h : HasD w base x y z L S O) (hM : Mut R w w') (hR : R < base) : HasD w' base x y z L S O :=
  h.kept hM.size (fun k hk => hM.block k (h.lt hk).2 (by have := (h.lt hk).1; omega))

section
variable {W : World} {a : Option Addr} {len cap R : Nat} {Z : Nat → Int}

set_option maxHeartbeats 1000000 in
theorem text_any (hU : IsU8 W a len cap Z) (w : World) (h : Draw W a len cap R w) :
    Calls Try.prog 83 #[.pointer (some ⟨R, 0, none⟩)] w fun e w' => ∃ t : ByteArray, t.size ≤ 3 ∧ e = .returned (.string t) ∧ Draw W a len cap R w' ∧ Mut R w w' := by
  go_enter Try.func83, Try.ntmps83
  have HM0 : Hid (∀ o, Mut R w (w.alloc o)) := fun o => (Mut.refl R w).alloc o
  have HR : Hid (R < w.heap.size) := h.lt
  go_wp2_with fail
  refine (below_any hU 6 (by omega) (by omega) _ (h.alloc _)).mono ?_
  rintro e w3 ⟨y, hy0, hy1, rfl, hD3, hM3⟩
  have hc := lit_cells hM3 HR.out
  have c0 := hc 0
  have c1 := hc 1
  have c2 := hc 2
  have c3 := hc 3
  have c4 := hc 4
  have c5 := hc 5
  clear hc
  have hM4 : Hid (Mut R w w3) := (HM0.out _).trans hM3
  clear hM3 HM0
  have hy : y = 0 ∨ y = 1 ∨ y = 2 ∨ y = 3 ∨ y = 4 ∨ y = 5 := by omega
  rcases hy with rfl | rfl | rfl | rfl | rfl | rfl <;> (go_wp2; go_ret; exact ⟨_, by decide, rfl, hD3, hM4.out⟩)

theorem below1_any (w : World) (h : Draw W a len cap R w) :
    Calls Try.prog 56 #[.pointer (some ⟨R, 0, none⟩), .int .i64 1] w fun e w' => e = .returned (.int .i64 0) ∧ w' = w := by
  go_enter Try.func56, Try.ntmps56
  go_wp2
  go_ret
  exact ⟨rfl, rfl⟩

set_option maxHeartbeats 1000000 in
theorem size_any (hU : IsU8 W a len cap Z) (w : World) (h : Draw W a len cap R w) (hlen : len ≤ 1048576) :
    Calls Try.prog 81 #[.pointer (some ⟨R, 0, none⟩), .int .i64 3, .int .i64 10] w fun e w' => ∃ n : Nat, 1 ≤ n ∧ n ≤ 10 ∧ e = .returned (.int .i64 (n : Int)) ∧ Draw W a len cap R w' ∧ Mut R w w' := by
  have HD : Hid (Draw W a len cap R w) := h
  obtain ⟨p, hp, hb⟩ := h.box
  have c0 : w.cell? ⟨R, 0, none⟩ = some (.slice a len cap) := cellN hb
  have c1 : w.cell? ⟨R, 1, none⟩ = some (.int .i64 p) := cellN hb
  clear hb hp h
  obtain ⟨m, hm⟩ : ∃ m : Nat, m = len / 3 := ⟨_, rfl⟩
  have hm1 : (len : Int) / 3 = (m : Int) := by omega
  have hm2 : (len : Int).tdiv 3 = (m : Int) := by rw [Int.tdiv_eq_ediv_of_nonneg (by omega)]; exact hm1
  have hmm : m ≤ 1048576 := by omega
  clear hm
  go_enter Try.func81, Try.ntmps81
  by_cases h9 : 9 < m
  · have h9I : (10 : Int) < 1 + (m : Int) := by omega
    go_wp2_with fail
    refine (below_any hU 10 (by omega) (by omega) w HD.out).mono ?_
    rintro e w3 ⟨y, hy0, hy1, rfl, hD3, hM3⟩
    go_wp2
    go_ret
    exact ⟨(1 + y).toNat, by omega, by omega, by rw [Int.toNat_of_nonneg (by omega)]; rfl, hD3, hM3⟩
  · have h9I : ¬ (10 : Int) < 1 + (m : Int) := by omega
    by_cases h0 : m = 0
    · subst h0
      go_wp2_with fail
      refine (below1_any w HD.out).mono ?_
      rintro e w3 ⟨rfl, rfl⟩
      go_wp2
      go_ret
      exact ⟨1, by omega, by omega, rfl, HD.out, Mut.refl _ _⟩
    · go_wp2_with fail
      refine (below_any hU (1 + (m : Int)) (by omega) (by omega) w HD.out).mono ?_
      rintro e w3 ⟨y, hy0, hy1, rfl, hD3, hM3⟩
      go_wp2
      go_ret
      exact ⟨(1 + y).toNat, by omega, by omega, by rw [Int.toNat_of_nonneg (by omega)]; rfl, hD3, hM3⟩

theorem infoDp : (Try.prog.info? 41).map (·.size) = some 4 := by kernel_rfl
theorem rowDp (k : Int) (x y z : ByteArray) : ∃ q : Array Value, q = #[.int .i64 k, .string x, .string y, .string z] ∧ (Try.prog.info? 41).map (·.size) = some q.size ∧ (#[Value.int .i64 0, .string ⟨#[]⟩, .string ⟨#[]⟩, .string ⟨#[]⟩] : Array Value).size = q.size ∧ q.all (·.oneCell') = true :=
  ⟨_, rfl, infoDp, rfl, by simp [Value.oneCell']⟩

set_option maxRecDepth 4000 in
set_option maxHeartbeats 2000000 in
theorem dop_any (hU : IsU8 W a len cap Z) (w : World) (h : Draw W a len cap R w) :
    Calls Try.prog 55 #[.pointer (some ⟨R, 0, none⟩)] w fun e w' => ∃ o : Dop, (o.n.size ≤ 100 ∧ o.t.size ≤ 100 ∧ o.d.size ≤ 100) ∧ e = .returned (.agg #[.int .i64 o.k, .string o.n, .string o.t, .string o.d]) ∧ Draw W a len cap R w' ∧ Mut R w w' := by
  have HR : Hid (R < w.heap.size) := h.lt
  have HD : Hid (Draw W a len cap R w) := h
  obtain ⟨X, hX⟩ : ∃ X, X = w.alloc (.cells #[.int .i64 0, .string ⟨#[]⟩, .string ⟨#[]⟩, .string ⟨#[]⟩] 41) := ⟨_, rfl⟩
  have HX := (show Hid _ from hX)
  have HXS : Hid (X.heap.size = w.heap.size + 1) := by show _ = _; rw [hX]; simp
  have HMX : Hid (Mut R w X) := by rw [hX]; exact (Mut.refl R w).alloc _
  have HDX : Hid (Draw W a len cap R X) := by rw [hX]; exact h.alloc _
  have HRX : Hid (R < X.heap.size) := by show _ < _; rw [hX]; have := h.lt; simp; omega
  have HBX : Hid (∀ w', Mut R X w' → w'.heap[w.heap.size]? = some (.cells #[.int .i64 0, .string ⟨#[]⟩, .string ⟨#[]⟩, .string ⟨#[]⟩] 41 (0, 0))) := fun w' hM => (hM.block _ (by rw [hX]; simp) (by have := h.lt; omega)).trans (by rw [hX]; exact heap_alloc_new _ _)
  clear hX h
  go_enter Try.func55, Try.ntmps55
  go_wp2_with fail
  rw [← HX.out]
  refine (below_any hU 4 (by omega) (by omega) _ (HDX.out.alloc _)).mono ?_
  rintro e w3 ⟨y, hy0, hy1, rfl, hD3, hM3⟩
  have hc := lit_cells hM3 HRX.out
  have hMX3 : Hid (Mut R X w3) := ((Mut.refl R X).alloc _).trans hM3
  have HD3 : Hid (Draw W a len cap R w3) := hD3
  rw [HXS.out] at hc
  obtain ⟨k, rfl⟩ : ∃ k : Nat, y = (k : Int) := ⟨y.toNat, by omega⟩
  have hk : k < 4 := by omega
  have hkI : (k : Int) < 4 := by omega
  obtain ⟨nm, hnm, c0⟩ : ∃ nm : ByteArray, nm.size ≤ 8 ∧ w3.cell? ⟨w.heap.size + 1, k, none⟩ = some (.string nm) := by
    have : k = 0 ∨ k = 1 ∨ k = 2 ∨ k = 3 := by omega
    rcases this with rfl | rfl | rfl | rfl
    · exact ⟨_, by decide, hc 0⟩
    · exact ⟨_, by decide, hc 1⟩
    · exact ⟨_, by decide, hc 2⟩
    · exact ⟨_, by decide, hc 3⟩
  have HNM : Hid (nm.size ≤ 8) := hnm
  clear hc hM3 hD3 hy0 hy1 hnm HX
  go_wp2_with fail
  refine (below_any hU 5 (by omega) (by omega) w3 HD3.out).mono ?_
  rintro e w4 ⟨y, hy0, hy1, rfl, hD4, hM4⟩
  have HD4 : Hid (Draw W a len cap R w4) := hD4
  have HM4 : Hid (Mut R X w4) := hMX3.out.trans hM4
  clear hD4 hM4 c0 hk hkI HD3 hMX3
  have HFIN : Hid (∀ w' q, Mut R X w' → Mut R w (w'.setRow w.heap.size q)) := fun w' q hM => (HMX.out.trans hM).row q (Nat.le_refl _)
  by_cases h0 : y = 0
  · have h0b : (y == 0) = true := by rw [h0]; rfl
    clear h0
    go_wp2_with fail
    refine (below_any hU 3 (by omega) (by omega) _ (HD4.out.alloc _)).mono ?_
    rintro e w5 ⟨y2, hz0, hz1, rfl, hD5, hM5⟩
    have hc := lit_cells hM5 (HD4.out.lt)
    have HM5 : Hid (Mut R X w5) := HM4.out.trans (((Mut.refl R w4).alloc _).trans hM5)
    obtain ⟨k, rfl⟩ : ∃ k : Nat, y2 = (k : Int) := ⟨y2.toNat, by omega⟩
    have hk : k < 3 := by omega
    have hkI : (k : Int) < 3 := by omega
    obtain ⟨nt, hnt, c0⟩ : ∃ nt : ByteArray, nt.size ≤ 4 ∧ w5.cell? ⟨w4.heap.size, k, none⟩ = some (.string nt) := by
      have : k = 0 ∨ k = 1 ∨ k = 2 := by omega
      rcases this with rfl | rfl | rfl
      · exact ⟨_, by decide, hc 0⟩
      · exact ⟨_, by decide, hc 1⟩
      · exact ⟨_, by decide, hc 2⟩
    have HNT : Hid (nt.size ≤ 4) := hnt
    have HD5 : Hid (Draw W a len cap R w5) := hD5
    have HB5 : Hid (w5.heap[w.heap.size]? = some (.cells #[.int .i64 0, .string ⟨#[]⟩, .string ⟨#[]⟩, .string ⟨#[]⟩] 41 (0, 0))) := HBX.out w5 HM5.out
    obtain ⟨q, hq, hi6, ho6, h16⟩ := rowDp 2 nm nt ⟨#[]⟩
    clear hc hM5 hD5 hz0 hz1 hnt
    go_wp2_with (refine wpList_store_row rfl 41 _ _ rfl w.heap.size q rfl (congrArg Value.agg hq.symm) 41 _ HB5.out hi6 ho6 h16 ?_)
    subst hq
    refine bodyPost_ret (results_cell_row rfl _ _ w.heap.size 41 _ _ _ rfl (setRow_heap _ _ _ _ _ _ HB5.out) Try.underlying41 rfl hi6) rfl ⟨⟨2, nm, nt, ⟨#[]⟩⟩, ⟨Nat.le_trans HNM.out (by omega), Nat.le_trans HNT.out (by omega), Nat.zero_le _⟩, rfl, HD5.out.row _ HR.out, HFIN.out _ _ HM5.out⟩
  · have h0b : (y == 0) = false := by simpa using h0
    by_cases h1 : y = 1
    · have h1b : (y == 1) = true := by rw [h1]; rfl
      have HB5 : Hid (w4.heap[w.heap.size]? = some (.cells #[.int .i64 0, .string ⟨#[]⟩, .string ⟨#[]⟩, .string ⟨#[]⟩] 41 (0, 0))) := HBX.out w4 HM4.out
      obtain ⟨q, hq, hi6, ho6, h16⟩ := rowDp 3 nm ⟨#[]⟩ ⟨#[]⟩
      clear h0 h1
      go_wp2_with (refine wpList_store_row rfl 41 _ _ rfl w.heap.size q rfl (congrArg Value.agg hq.symm) 41 _ HB5.out hi6 ho6 h16 ?_)
      subst hq
      refine bodyPost_ret (results_cell_row rfl _ _ w.heap.size 41 _ _ _ rfl (setRow_heap _ _ _ _ _ _ HB5.out) Try.underlying41 rfl hi6) rfl ⟨⟨3, nm, ⟨#[]⟩, ⟨#[]⟩⟩, ⟨Nat.le_trans HNM.out (by omega), Nat.zero_le _, Nat.zero_le _⟩, rfl, HD4.out.row _ HR.out, HFIN.out _ _ HM4.out⟩
    · have h1b : (y == 1) = false := by simpa using h1
      clear h0 h1
      go_wp2_with fail
      refine (text_any hU w4 HD4.out).mono ?_
      rintro e w5 ⟨tx, htx, rfl, hD5, hM5⟩
      have HM5 : Hid (Mut R X w5) := HM4.out.trans hM5
      have HD5 : Hid (Draw W a len cap R w5) := hD5
      have HTX : Hid (tx.size ≤ 3) := htx
      have HB5 : Hid (w5.heap[w.heap.size]? = some (.cells #[.int .i64 0, .string ⟨#[]⟩, .string ⟨#[]⟩, .string ⟨#[]⟩] 41 (0, 0))) := HBX.out w5 HM5.out
      obtain ⟨q, hq, hi6, ho6, h16⟩ := rowDp 1 nm ⟨#[]⟩ tx
      clear hM5 hD5 htx
      go_wp2_with (refine wpList_store_row rfl 41 _ _ rfl w.heap.size q rfl (congrArg Value.agg hq.symm) 41 _ HB5.out hi6 ho6 h16 ?_)
      subst hq
      refine bodyPost_ret (results_cell_row rfl _ _ w.heap.size 41 _ _ _ rfl (setRow_heap _ _ _ _ _ _ HB5.out) Try.underlying41 rfl hi6) rfl ⟨⟨1, nm, ⟨#[]⟩, tx⟩, ⟨Nat.le_trans HNM.out (by omega), Nat.zero_le _, Nat.le_trans HTX.out (by omega)⟩, rfl, HD5.out.row _ HR.out, HFIN.out _ _ HM5.out⟩

end
end Go.Proofs.Ytdlkokdhbffhpaa

namespace Go.Proofs.Ytdlkokdhbffhpaa
open Go.RowKit
set_option linter.unusedVariables false

theorem bytes_is {x y : ByteArray} (h : x.toList = y.toList) : x = y := by
  rw [ByteArray.toList_eq, ByteArray.toList_eq] at h
  obtain ⟨x⟩ := x
  obtain ⟨y⟩ := y
  have e : x = y := Array.toList_inj.1 h
  rw [e]
theorem flEq_is {x y : Fl} (h : flEq x y = true) : x = y := by
  unfold flEq at h
  simp only [Bool.and_eq_true, beq_iff_eq] at h
  obtain ⟨xn, xd⟩ := x
  obtain ⟨yn, yd⟩ := y
  have e1 : xn = yn := bytes_is h.1
  have e2 : xd = yd := bytes_is h.2
  rw [e1, e2]
theorem sameF_is {L M : List Fl} (h : sameF L M = true) : L = M := by
  unfold sameF at h
  simp only [Bool.and_eq_true, decide_eq_true_eq, List.all_eq_true, List.mem_range] at h
  refine List.ext_getElem h.1 fun i h1 h2 => ?_
  have := flEq_is (h.2 i h1)
  simpa [h1, h2] using this
theorem sameF_refl (L : List Fl) : sameF L L = true := by
  unfold sameF
  simp only [decide_true, Bool.true_and, List.all_eq_true]
  intro i _
  unfold flEq
  simp
theorem disk_run {L S : List Fl} {O : List Dop} (h : diskB L S O = true) : runB S O = some L := by
  unfold diskB at h
  simp only [Bool.and_eq_true] at h
  have h4 := h.2.2.2
  split at h4
  · rename_i n e
    rw [e, sameF_is h4]
  · cases h4
theorem disk_of {L S : List Fl} {O : List Dop} (h1 : filesB L = true) (h2 : filesB S = true) (h3 : O.length ≤ 200) (h4 : runB S O = some L) : diskB L S O = true := by
  unfold diskB
  rw [h1, h2, decide_eq_true h3, h4]
  exact sameF_refl L
theorem disk_nil : diskB [] [] [] = true := by decide
theorem disk_sync {L S : List Fl} {O : List Dop} (h : diskB L S O = true) : diskB L L [] = true :=
  disk_of (disk_live h).1 (disk_live h).1 (by simp) rfl
theorem act_zero {L : List Fl} {O : List Dop} {o : Dop} (h : actC L O o = 0) : formB o = true ∧ (doF L o).2 = true ∧ O.length ≠ 200 ∧ filesB (doF L o).1 = true := by
  unfold actC at h
  split at h
  · cases h
  · rename_i h1
    split at h
    · cases h
    · rename_i h2
      split at h
      · cases h
      · rename_i h3
        refine ⟨by simpa using h1, by simpa using h2, fun e => h3 (.inl e), ?_⟩
        cases e : filesB (doF L o).1 with
        | true => rfl
        | false => exact absurd (.inr e) h3
theorem disk_do {L S : List Fl} {O : List Dop} {o : Dop} (h : diskB L S O = true) (hc : dC L S O o = 0) : diskB (dL L S O o) (dS L S O) (dO L S O o) = true := by
  obtain ⟨e0, e1, e2, e3⟩ := d_yes o h
  rw [e0] at hc
  obtain ⟨f1, f2, f3, f4⟩ := act_zero hc
  rw [e1, e2, e3, (act_yes hc).1, (act_yes hc).2]
  refine disk_of f4 (disk_live h).2.1 (by have := (disk_live h).2.2; simp; omega) ?_
  rw [runB_append, disk_run h]
  show runB L [o] = _
  simp [runB, f1, f2, f4]
theorem form_to {o : Dop} (h : formB o = true) (hk : o.k ≠ 2) : o.t.size = 0 := by
  have hz : o.t.toList.isEmpty = true := by
    unfold formB at h
    simp only [Bool.and_eq_true] at h
    have h2 := h.2.2
    rw [if_neg hk] at h2
    simp only [Bool.and_eq_true] at h2
    exact h2.1
  rw [ByteArray.toList_eq, List.isEmpty_iff] at hz
  show o.t.data.size = 0
  rw [← Array.length_toList, hz]
  rfl
theorem small_disk {L S : List Fl} {O : List Dop} (h : diskB L S O = true) : SmallD L S O ∧ L.length ≤ 60 ∧ S.length ≤ 60 ∧ O.length ≤ 200 := by
  obtain ⟨h1, h2, h3⟩ := disk_live h
  have p1 := filesB_parts h1
  have p2 := filesB_parts h2
  refine ⟨⟨by omega, by omega, fun f hf => by have := p1.2.2 f hf; omega, fun f hf => by have := p2.2.2 f hf; omega, fun o ho => ?_⟩, p1.1, p2.1, h3⟩
  have hf := disk_forms h o ho
  obtain ⟨q1, q2, _⟩ := formB_parts hf
  have hn : o.n.size ≤ 100 := by unfold nmB at q1; simp at q1; exact q1.2
  have ht : o.t.size ≤ 100000000 := by
    by_cases hk : o.k = 2
    · have := q2 hk; unfold nmB at this; simp at this; omega
    · have := form_to hf hk; omega
  exact ⟨by omega, ht, by have := disk_small h o ho; omega⟩
/-- the first n numbers -/
def iotaI (n : Nat) : List Int := (List.range n).map fun (i : Nat) => (i : Int)
theorem iotaI_len (n : Nat) : (iotaI n).length = n := by unfold iotaI; simp
theorem iotaI_at {n i : Nat} (h : i < n) : (iotaI n).getD i 0 = (i : Int) := by unfold iotaI; simp [h]
theorem iotaI_snoc (n : Nat) : iotaI (n + 1) = iotaI n ++ [(n : Int)] := by unfold iotaI; rw [List.range_succ]; simp
theorem iota_places (n : Nat) : placesB n (iotaI n) = true := placesB_yes fun i hi => by
  rw [iotaI_len] at hi
  unfold plB inB
  rw [iotaI_at hi]
  have h1 : decide (0 ≤ (i : Int)) = true := decide_eq_true (by omega)
  have h2 : decide ((i : Int) ≤ (n : Int) - 1) = true := decide_eq_true (by omega)
  rcases Nat.eq_zero_or_pos i with h0 | h0
  · subst h0; simp; omega
  · rw [iotaI_at (show i - 1 < n by omega)]
    simp
    omega
theorem crash_all {L S : List Fl} {O : List Dop} {t : Nat} (h : diskB L S O = true) (ht : 200000 ≤ t) : ∀ k, k ≤ O.length → runB S (O.take k) = some (crF S O (iotaI O.length) t k)
  | 0, _ => by rw [List.take_zero]; rfl
  | k + 1, hk => by
    have ih := crash_all h ht k (by omega)
    have hkO : k < O.length := by omega
    have hst := runB_take hkO ih
    have ho : opAt O (iotaI O.length) t k = O.getD k dopZ := by
      unfold opAt
      rw [iotaI_at hkO]
      have : ((k : Int)).toNat = k := by omega
      rw [this]
      split
      · unfold tornO
        rw [if_neg (fun e => by have := disk_small h _ (getD_mem hkO); omega)]
      · rfl
    rw [hst]
    cases hc : ((doF (crF S O (iotaI O.length) t k) (O.getD k dopZ)).2 && (formB (O.getD k dopZ) && filesB (doF (crF S O (iotaI O.length) t k) (O.getD k dopZ)).1)) with
    | true =>
      show some _ = some (doF _ (opAt O (iotaI O.length) t k)).1
      rw [ho]
    | false =>
      rw [hc] at hst
      exfalso
      have := runB_none (k := k + 1) hst
      rw [disk_run h] at this
      cases this
theorem crash_whole {L S : List Fl} {O : List Dop} {t : Nat} (h : diskB L S O = true) (ht : 200000 ≤ t) : crOk L S O (iotaI O.length) (t : Int) = true ∧ crR L S O (iotaI O.length) (t : Int) = L := by
  have e := crash_all h ht O.length (Nat.le_refl _)
  rw [List.take_length, disk_run h] at e
  have e := (Option.some.inj e).symm
  have ok : crOk L S O (iotaI O.length) (t : Int) = true := by
    unfold crOk
    rw [h, decide_eq_true (by omega), iota_places, iotaI_len, Int.toNat_natCast, e, (disk_live h).1]
    rfl
  refine ⟨ok, ?_⟩
  rw [cr_yes ok, iotaI_len, Int.toNat_natCast, e]
theorem crash_noneOf {L S : List Fl} {O : List Dop} (h : diskB L S O = true) : crOk L S O [] 0 = true ∧ crR L S O [] 0 = S := by
  have ok : crOk L S O [] 0 = true := by
    unfold crOk
    rw [h]
    show (true && (true && (true && filesB S))) = true
    rw [(disk_live h).2.1]
    rfl
  exact ⟨ok, by rw [cr_yes ok]; rfl⟩
theorem crash_bad {L S : List Fl} {O : List Dop} (Z : List Int) (t : Int) (h : diskB L S O = false) : crOk L S O Z t = false := by
  unfold crOk
  rw [h]
  rfl
end Go.Proofs.Ytdlkokdhbffhpaa

namespace Go.Proofs.Ytdlkokdhbffhpaa
open Go.RowKit
set_option linter.unusedVariables false

def dsKD : List Nat := [19, 20, 21, 22, 18, 23, 24, 5, 16, 6]
def slotKD (j : Nat) : Nat := dsKD.getD j 0
theorem slotKD_inj (i j : Nat) (hi : i < 10) (hj : j < 10) (q : slotKD i = slotKD j) : i = j := by
  have h : ∀ i : Fin 10, ∀ j : Fin 10, slotKD i.val = slotKD j.val → i.val = j.val := by decide
  exact h ⟨i, hi⟩ ⟨j, hj⟩ q
theorem slotKD_mem (i : Nat) (hi : i < 10) : slotKD i ∈ dsKD := by
  have h : ∀ i : Fin 10, slotKD i.val ∈ dsKD := by decide
  exact h ⟨i, hi⟩
def KDF (base R : Nat) (V : Value) (L S : List Fl) (O : List Dop) : Nat → (Nat → Value) → World → Prop
  | 0, f, w => f 19 = V
  | 1, f, w => f 20 = .pointer (some ⟨R, 0, none⟩)
  | 2, f, w => ∃ o : Dop, (o.n.size ≤ 100 ∧ o.t.size ≤ 100 ∧ o.d.size ≤ 100) ∧ f 21 = .agg #[.int .i64 o.k, .string o.n, .string o.t, .string o.d]
  | 3, f, w => ∃ o : Dop, ∃ x y z, (o.n.size ≤ 100 ∧ o.t.size ≤ 100 ∧ o.d.size ≤ 100) ∧ f 22 = .tuple #[.agg #[x, y, z], .int .i64 (dC L S O o : Int)] ∧ (∃ b1 n1 d1 b2 n2 d2 b3 n3 d3, x = .slice b1 n1 d1 ∧ y = .slice b2 n2 d2 ∧ z = .slice b3 n3 d3) ∧ (dC L S O o = 0 → HasD w base x y z (dL L S O o) (dS L S O) (dO L S O o))
  | 4, f, w => ∃ o : Dop, ∃ x y z, (o.n.size ≤ 100 ∧ o.t.size ≤ 100 ∧ o.d.size ≤ 100) ∧ f 18 = .tuple #[.agg #[x, y, z], .int .i64 (dC L S O o : Int)] ∧ (∃ b1 n1 d1 b2 n2 d2 b3 n3 d3, x = .slice b1 n1 d1 ∧ y = .slice b2 n2 d2 ∧ z = .slice b3 n3 d3) ∧ (dC L S O o = 0 → HasD w base x y z (dL L S O o) (dS L S O) (dO L S O o))
  | 5, f, w => ∃ x y z c, f 18 = .tuple #[.agg #[x, y, z], c] ∧ f 23 = .agg #[x, y, z] ∧ (∃ b1 n1 d1 b2 n2 d2 b3 n3 d3, x = .slice b1 n1 d1 ∧ y = .slice b2 n2 d2 ∧ z = .slice b3 n3 d3)
  | 6, f, w => ∃ v c, f 18 = .tuple #[v, c] ∧ f 24 = c
  | 7, f, w => ∃ g cs, f 5 = .pointer (some ⟨g, 0, none⟩) ∧ base ≤ g ∧ cs.size = 3 ∧ w.heap[g]? = some (.cells cs 30 (0, 0))
  | 8, f, w => ∃ g x y z, f 5 = .pointer (some ⟨g, 0, none⟩) ∧ f 23 = .agg #[x, y, z] ∧ base ≤ g ∧ w.heap[g]? = some (.cells #[x, y, z] 30 (0, 0))
  | 9, f, w => f 6 = f 24
  | _, _, _ => True
theorem KDF.mut {base R : Nat} {V : Value} {L S : List Fl} {O : List Dop} {j : Nat} {f : Nat → Value} {w w' : World} (hR : R < base) (h : KDF base R V L S O j f w) (hM : Mut R w w') : KDF base R V L S O j f w' := by
  match j, h with
  | 0, h => exact h
  | 1, h => exact h
  | 2, h => exact h
  | 3, h => exact (by obtain ⟨o, x, y, z, hs, e, hl, h1⟩ := h; exact ⟨o, x, y, z, hs, e, hl, fun hc => (h1 hc).mut hM hR⟩)
  | 4, h => exact (by obtain ⟨o, x, y, z, hs, e, hl, h1⟩ := h; exact ⟨o, x, y, z, hs, e, hl, fun hc => (h1 hc).mut hM hR⟩)
  | 5, h => exact h
  | 6, h => exact h
  | 7, h => exact (by obtain ⟨g, cs, e, hb, hc, hh⟩ := h; exact ⟨g, cs, e, hb, hc, (hM.block _ (lt_of_block hh) (by omega)).trans hh⟩)
  | 8, h => exact (by obtain ⟨g, x, y, z, e, e2, hb, hh⟩ := h; exact ⟨g, x, y, z, e, e2, hb, (hM.block _ (lt_of_block hh) (by omega)).trans hh⟩)
  | 9, h => exact h
  | (m + 10), _ => exact trivial
theorem KDF.put {base R : Nat} {V : Value} {L S : List Fl} {O : List Dop} {j : Nat} {f : Nat → Value} {w w' : World} {g : Nat} {cs cs' : Array Value} (hj : j ≠ 8) (hal : f 5 = .pointer (some ⟨g, 0, none⟩)) (hg : w.heap[g]? = some (.cells cs 30 (0, 0))) (hg' : w'.heap[g]? = some (.cells cs' 30 (0, 0))) (hc' : cs'.size = 3) (hk : ∀ k, k ≠ g → w'.heap[k]? = w.heap[k]?) (hs : w.heap.size ≤ w'.heap.size) (h : KDF base R V L S O j f w) : KDF base R V L S O j f w' := by
  match j, h with
  | 0, h => exact h
  | 1, h => exact h
  | 2, h => exact h
  | 3, h => exact (by obtain ⟨o, x, y, z, hz, e, hl, h1⟩ := h; exact ⟨o, x, y, z, hz, e, hl, fun hc => (h1 hc).kept hs (fun k hk' => hk k ((h1 hc).not3 hg hk'))⟩)
  | 4, h => exact (by obtain ⟨o, x, y, z, hz, e, hl, h1⟩ := h; exact ⟨o, x, y, z, hz, e, hl, fun hc => (h1 hc).kept hs (fun k hk' => hk k ((h1 hc).not3 hg hk'))⟩)
  | 5, h => exact h
  | 6, h => exact h
  | 7, h => exact (by obtain ⟨g2, cs2, e, hb, _, _⟩ := h; rw [hal] at e; simp only [Value.pointer.injEq, Option.some.injEq, Addr.mk.injEq] at e; obtain ⟨rfl, _⟩ := e; exact ⟨g, cs', hal, hb, hc', hg'⟩)
  | 8, _ => exact absurd rfl hj
  | 9, h => exact h
  | (m + 10), _ => exact trivial
def depKD (j i : Nat) : Bool := match j with
  | 0 => i == 0
  | 1 => i == 1
  | 2 => i == 2
  | 3 => i == 3
  | 4 => i == 4
  | 5 => i == 5 || i == 4
  | 6 => i == 6 || i == 4
  | 7 => i == 7
  | 8 => i == 8 || i == 7 || i == 5
  | 9 => i == 9 || i == 6
  | _ => false
theorem KDF.dep {base R : Nat} {V : Value} {L S : List Fl} {O : List Dop} {j : Nat} {f f' : Nat → Value} {w : World} (hj : j < 10) (h : KDF base R V L S O j f w) (he : ∀ i, depKD j i = true → f (slotKD i) = f' (slotKD i)) : KDF base R V L S O j f' w := by
  match j, hj, h, he with
  | 0, _, h, he =>
    have e0 : f 19 = f' 19 := he 0 rfl
    simp only [KDF] at h ⊢
    rw [← e0]
    exact h
  | 1, _, h, he =>
    have e1 : f 20 = f' 20 := he 1 rfl
    simp only [KDF] at h ⊢
    rw [← e1]
    exact h
  | 2, _, h, he =>
    have e2 : f 21 = f' 21 := he 2 rfl
    simp only [KDF] at h ⊢
    rw [← e2]
    exact h
  | 3, _, h, he =>
    have e3 : f 22 = f' 22 := he 3 rfl
    simp only [KDF] at h ⊢
    rw [← e3]
    exact h
  | 4, _, h, he =>
    have e4 : f 18 = f' 18 := he 4 rfl
    simp only [KDF] at h ⊢
    rw [← e4]
    exact h
  | 5, _, h, he =>
    have e5 : f 23 = f' 23 := he 5 rfl
    have e4 : f 18 = f' 18 := he 4 rfl
    simp only [KDF] at h ⊢
    rw [← e5, ← e4]
    exact h
  | 6, _, h, he =>
    have e6 : f 24 = f' 24 := he 6 rfl
    have e4 : f 18 = f' 18 := he 4 rfl
    simp only [KDF] at h ⊢
    rw [← e6, ← e4]
    exact h
  | 7, _, h, he =>
    have e7 : f 5 = f' 5 := he 7 rfl
    simp only [KDF] at h ⊢
    rw [← e7]
    exact h
  | 8, _, h, he =>
    have e7 : f 5 = f' 5 := he 7 rfl
    have e5 : f 23 = f' 23 := he 5 rfl
    simp only [KDF] at h ⊢
    rw [← e7, ← e5]
    exact h
  | 9, _, h, he =>
    have e9 : f 6 = f' 6 := he 9 rfl
    have e6 : f 24 = f' 24 := he 6 rfl
    simp only [KDF] at h ⊢
    rw [← e9, ← e6]
    exact h
  | (m + 10), hj, _, _ => exact absurd hj (by omega)

theorem At3.mut {R : Nat} {w w' : World} {b : Nat} {t : TypeId} {x y z : Value} (h : At3 w b t x y z) (hM : Mut R w w') (hb : b ≠ R) : At3 w' b t x y z := (hM.block b h.lt hb).trans h
theorem At3.row {w : World} {b g : Nat} {t : TypeId} {x y z : Value} (h : At3 w b t x y z) (q : Array Value) (hb : b ≠ g) : At3 (w.setRow g q) b t x y z := (setRow_other _ _ _ _ hb).trans h

theorem HoldF.row {w : World} {base : Nat} {v : Value} {L : List Fl} (h : HoldF w base v L) : OwnF w base v L := by
  obtain ⟨hr, xs, hx⟩ := h
  have hxl := hx.1
  suffices hh : xs = cellsF L by unfold OwnF; rw [← hh]; exact hx
  apply List.ext_getElem?
  intro j
  by_cases hj : j < L.length * 2
  · obtain ⟨u, hu⟩ : ∃ u, (cellsF L)[j]? = some u := ⟨_, List.getElem?_eq_getElem (by rw [cellsF_len]; exact hj)⟩
    obtain ⟨a, cap, rfl, h1, h2, h3⟩ := hr
    obtain ⟨b, off, rfl, hb, hc⟩ := h3 (by omega)
    rcases hx.2 with ⟨e, _⟩ | ⟨g, cap', cur, hv, _⟩
    · cases e
    · have hbo : b = g ∧ off = 0 := by
        simp only [Value.slice.injEq, Option.some.injEq, Addr.mk.injEq] at hv
        exact ⟨hv.1.1, hv.1.2.1⟩
      obtain ⟨rfl, rfl⟩ := hbo
      have := hc.news j u hu
      rw [add_at, World.ownsRow.cellAt hx _ (by omega), Nat.zero_add] at this
      rw [hu]
      exact this
  · rw [List.getElem?_eq_none (by omega), List.getElem?_eq_none (by rw [cellsF_len]; omega)]
theorem HoldF.off {w w' : World} {base : Nat} {v : Value} {L : List Fl} (h : HoldF w base v L) (hs : w.heap.size ≤ w'.heap.size) (he : ∀ k, v.ownBlock = some k → w'.heap[k]? = w.heap[k]?) : HoldF w' base v L := ⟨h.1.own h.2 hs he, h.2.blk he⟩
theorem HoldO.off {w w' : World} {base : Nat} {v : Value} {L : List Dop} (h : HoldO w base v L) (hs : w.heap.size ≤ w'.heap.size) (he : ∀ k, v.ownBlock = some k → w'.heap[k]? = w.heap[k]?) : HoldO w' base v L := ⟨h.1.own h.2 hs he, h.2.blk he⟩
theorem HoldF.ne3 {w : World} {base b : Nat} {v x y z : Value} {L : List Fl} (h : HoldF w base v L) (hg : At3 w b 30 x y z) {k : Nat} (hk : v.ownBlock = some k) : k ≠ b := fun e => by
  obtain ⟨c', hc'⟩ := h.2.cells hk
  unfold At3 at hg
  rw [e, hg] at hc'
  cases hc'
theorem HoldO.ne3 {w : World} {base b : Nat} {v x y z : Value} {L : List Dop} (h : HoldO w base v L) (hg : At3 w b 30 x y z) {k : Nat} (hk : v.ownBlock = some k) : k ≠ b := fun e => by
  obtain ⟨c', hc'⟩ := h.2.cells hk
  unfold At3 at hg
  rw [e, hg] at hc'
  cases hc'

theorem HasD.two {w w' : World} {base r2 r3 : Nat} {x y z : Value} {L S : List Fl} {O : List Dop} {u1 u2 u3 v1 v2 v3 : Value} (h : HasD w base x y z L S O) (h2 : At3 w r2 30 u1 u2 u3) (h3 : At3 w r3 30 v1 v2 v3) (hs : w.heap.size ≤ w'.heap.size) (hk : ∀ k, k ≠ r2 → k ≠ r3 → w'.heap[k]? = w.heap[k]?) : HasD w' base x y z L S O :=
  h.kept hs (fun k hk' => hk k (h.not3 h2 hk') (h.not3 h3 hk'))
theorem RdO.tl {w : World} {b off n c : Nat} {O : List Dop} (h : RdO w (.slice (some ⟨b, off, none⟩) n c) O) (hn : 0 < n) : RdO w (.slice (some ⟨b, off + 4, none⟩) (n - 1) (c - 1)) O.tail := by
  obtain ⟨a, cap, e, h1, h2, h3⟩ := h
  simp only [Value.slice.injEq] at e
  obtain ⟨rfl, rfl, rfl⟩ := e
  refine ⟨_, _, by rw [List.length_tail], by rw [List.length_tail]; omega, by omega, fun hp => ?_⟩
  obtain ⟨b', off', e, hb, hc⟩ := h3 hn
  simp only [Option.some.injEq, Addr.mk.injEq] at e
  obtain ⟨rfl, rfl, _⟩ := e
  rw [List.length_tail] at hp
  refine ⟨_, _, rfl, hb, fun i hi t ht => ?_⟩
  rw [List.length_tail] at hi
  have := hc (i + 1) (by omega) t ht
  have e1 : off + 4 + i * 4 + t = off + (i + 1) * 4 + t := by omega
  rw [e1, this]
  cases O with
  | nil => simp at hp
  | cons o O => simp
theorem Mut.set {R : Nat} {a w : World} (h : Mut R a w) {k o : Nat} {u : Value} (hk : a.heap.size ≤ k) : Mut R a (w.setCell ⟨k, o, none⟩ u) :=
  ⟨h.os, h.tape, h.output, by simpa [World.setCell] using h.size, fun i hi hr => by rw [Below.heap_setCell _ _ _ _ (show i ≠ k by omega)]; exact h.block i hi hr⟩
theorem Draw.set {W : World} {a : Option Addr} {len cap R : Nat} {w : World} (h : Draw W a len cap R w) {k o : Nat} {u : Value} (hk : R < k) : Draw W a len cap R (w.setCell ⟨k, o, none⟩ u) := by
  obtain ⟨p, hp, hb⟩ := h.box
  exact ⟨h.bel.setCell (by show W.heap.size ≤ k; have := h.new; omega) _, h.new, p, hp, by rw [Below.heap_setCell _ _ _ _ (show R ≠ k by omega)]; exact hb⟩

theorem infoU8 : (Try.prog.info? 5).map (fun i => (i.zero, i.size, i.bytes)) = some (some (.int .u8 0), 1, 1) := by kernel_rfl
def zeroL (n : Nat) : List Int := List.replicate n 0
/-- a text of n bytes -/
def zeroS (n : Nat) : ByteArray := (zeroL n).foldl (fun r k => r.push (UInt8.ofNat k.toNat)) ByteArray.empty
theorem push_size (L : List Int) : ∀ s : ByteArray, (L.foldl (fun r (k : Int) => r.push (UInt8.ofNat k.toNat)) s).size = s.size + L.length := by
  induction L with
  | nil => intro s; rfl
  | cons x L ih =>
    intro s
    rw [List.foldl_cons, ih]
    simp
    omega
theorem zeroS_size (n : Nat) : (zeroS n).size = n := by
  unfold zeroS
  rw [push_size]
  unfold zeroL
  simp
theorem made_u8 (n : Nat) : (madeCells (Value.int .u8 0).cells (n * 1)).toList = (zeroL n).map (Value.int .u8) := by
  apply List.ext_getElem?
  intro i
  simp only [zeroL, madeCells, Value.cells, List.getElem?_map]
  by_cases h : i < n
  · simp [h, Nat.mod_one]
  · simp [h]
theorem big_string {w : World} {base g n : Nat} (h : w.ownsRow base 5 1 (.slice (some ⟨g, 0, none⟩) n n) n ((zeroL n).map (Value.int .u8))) : (convert 51 9 (.slice (some ⟨g, 0, none⟩) n n)).run Try.prog w = .ok (.string (zeroS n)) w := by
  have hl : ((zeroL n).map (Value.int .u8)).length = n := by unfold zeroL; simp
  rw [run_convert_bytes_string _ 51 9 5 _ _ _ Try.underlying51 Try.underlying5 Try.underlying9]
  refine run_bytesToString _ _ n n (zeroL n) ?_
  have := run_loadCells_list (P := Try.prog) w ⟨g, 0, none⟩ ((zeroL n).map (Value.int .u8)) (fun j v hj => by
    have hjn : j < n := by rw [← hl]; exact (List.getElem?_eq_some_iff.1 hj).1
    rw [add_at, Nat.zero_add, World.ownsRow.cellAt h _ (by omega)]
    exact hj)
  rw [hl] at this
  exact this

theorem HoldF.mut {R : Nat} {w w' : World} {base : Nat} {v : Value} {L : List Fl} (h : HoldF w base v L) (hM : Mut R w w') (hR : R < base) : HoldF w' base v L := h.off hM.size (fun k hk => hM.block k (h.2.lt k hk).2 (by have := (h.2.lt k hk).1; omega))
theorem HoldO.mut {R : Nat} {w w' : World} {base : Nat} {v : Value} {L : List Dop} (h : HoldO w base v L) (hM : Mut R w w') (hR : R < base) : HoldO w' base v L := h.off hM.size (fun k hk => hM.block k (h.2.lt k hk).2 (by have := (h.2.lt k hk).1; omega))
/-- a disk that reads, and whose reading hangs on the blocks from lo to hi alone -/
def StR (lo hi : Nat) (w : World) (x y z : Value) (L S : List Fl) (O : List Dop) : Prop := hi ≤ w.heap.size ∧ ∀ w'', w.heap.size ≤ w''.heap.size → (∀ k, lo ≤ k → k < hi → w''.heap[k]? = w.heap[k]?) → RdD w'' x y z L S O
theorem StR.rd {lo hi : Nat} {w : World} {x y z : Value} {L S : List Fl} {O : List Dop} (h : StR lo hi w x y z L S O) : RdD w x y z L S O := h.2 w (Nat.le_refl _) (fun _ _ _ => rfl)
theorem StR.kept {lo hi : Nat} {w w' : World} {x y z : Value} {L S : List Fl} {O : List Dop} (h : StR lo hi w x y z L S O) (hs : w.heap.size ≤ w'.heap.size) (he : ∀ k, lo ≤ k → k < hi → w'.heap[k]? = w.heap[k]?) : StR lo hi w' x y z L S O :=
  ⟨Nat.le_trans h.1 hs, fun w'' hs' he' => h.2 w'' (Nat.le_trans hs hs') (fun k h1 h2 => (he' k h1 h2).trans (he k h1 h2))⟩
theorem StR.mut {lo hi R : Nat} {w w' : World} {x y z : Value} {L S : List Fl} {O : List Dop} (h : StR lo hi w x y z L S O) (hM : Mut R w w') (hR : R < lo) : StR lo hi w' x y z L S O := h.kept hM.size (fun k h1 h2 => hM.block k (Nat.lt_of_lt_of_le h2 h.1) (by omega))
theorem StR.below {lo hi : Nat} {w w' : World} {x y z : Value} {L S : List Fl} {O : List Dop} (h : StR lo hi w x y z L S O) (hB : Below w.heap.size w w') : StR lo hi w' x y z L S O := h.kept hB.size (fun k h1 h2 => hB.block k (Nat.lt_of_lt_of_le h2 h.1))
theorem HasD.st {w : World} {base : Nat} {x y z : Value} {L S : List Fl} {O : List Dop} (h : HasD w base x y z L S O) : StR base w.heap.size w x y z L S O :=
  ⟨Nat.le_refl _, fun w'' hs he => (h.kept hs (fun k hk => he k (h.lt hk).1 (h.lt hk).2)).rd⟩
/-- nil, or not -/
def NzV (z : Value) : Prop := z = .slice none 0 0 ∨ ∃ ad n c, z = .slice (some ad) n c
theorem HasD.nz {w : World} {base : Nat} {x y z : Value} {L S : List Fl} {O : List Dop} (h : HasD w base x y z L S O) : NzV z := by
  obtain ⟨xs, h1, h2⟩ := h.o
  rcases h2 with ⟨e, _⟩ | ⟨g, cap, cur, e, _⟩
  · exact .inl e
  · exact .inr ⟨_, _, _, e⟩

section
variable {W : World} {a : Option Addr} {len cap R : Nat} {Z : Nat → Int}
set_option maxRecDepth 10000 in
set_option maxHeartbeats 8000000 in
theorem disk_any (hU : IsU8 W a len cap Z) (w : World) (h : Draw W a len cap R w) (hlen : len ≤ 1048576) :
    Calls Try.prog 54 #[.pointer (some ⟨R, 0, none⟩)] w fun e w' => ∃ x y z L S O, e = .returned (.agg #[x, y, z]) ∧ StR w.heap.size w'.heap.size w' x y z L S O ∧ NzV z ∧ SmallD L S O ∧ (L.length ≤ 1000 ∧ S.length ≤ 1000 ∧ O.length ≤ 1000) ∧ Draw W a len cap R w' ∧ Mut R w w' := by
  have HR : Hid (R < w.heap.size) := h.lt
  have HD : Hid (Draw W a len cap R w) := h
  have enp : ∀ args w, (callFunc 55 args).run Try.prog w = .ok (.enter 55 args) w := enters_of Try.func55 (by kernel_rfl) rfl
  have end1 : ∀ args w, (callFunc 16 args).run Try.prog w = .ok (.enter 16 args) w := enters_of Try.func16 (by kernel_rfl) rfl
  have HENP := (show Hid _ from enp)
  have HEND := (show Hid _ from end1)
  clear enp end1
  obtain ⟨X, hX⟩ : ∃ X, X = (w.alloc (.cells #[.slice none 0 0, .slice none 0 0, .slice none 0 0] 30)).alloc (.cells #[.slice none 0 0, .slice none 0 0, .slice none 0 0] 30) := ⟨_, rfl⟩
  have HX := (show Hid _ from hX)
  have HMX : Hid (Mut R w X) := by rw [hX]; exact ((Mut.refl R w).alloc _).alloc _
  have HDX : Hid (Draw W a len cap R X) := by rw [hX]; exact (h.alloc _).alloc _
  have HT2 : Hid (At3 X w.heap.size 30 (.slice none 0 0) (.slice none 0 0) (.slice none 0 0)) := by show _ = _; rw [hX, Below.heap_alloc _ _ _ (by simp)]; exact heap_alloc_new _ _
  have HT3 : Hid (At3 X (w.heap.size + 1) 30 (.slice none 0 0) (.slice none 0 0) (.slice none 0 0)) := by
    show _ = _
    rw [hX]
    have := heap_alloc_new (w.alloc (.cells #[.slice none 0 0, .slice none 0 0, .slice none 0 0] 30)) (.cells #[.slice none 0 0, .slice none 0 0, .slice none 0 0] 30)
    simpa using this
  clear hX h
  go_enter Try.func54, Try.ntmps54
  go_wp2_with fail
  rw [← HX.out]
  refine (size_any hU X HDX.out hlen).mono ?_
  rintro e w1 ⟨n0, hn1, hn2, rfl, hD1, hM1⟩
  have HD1 : Hid (Draw W a len cap R w1) := hD1
  have HM1 : Hid (Mut R w w1) := HMX.out.trans hM1
  have HT21 : Hid (At3 w1 w.heap.size 30 (.slice none 0 0) (.slice none 0 0) (.slice none 0 0)) := HT2.out.mut hM1 (by have := HR.out; omega)
  have HT31 : Hid (At3 w1 (w.heap.size + 1) 30 (.slice none 0 0) (.slice none 0 0) (.slice none 0 0)) := HT3.out.mut hM1 (by have := HR.out; omega)
  clear hD1 hM1 HX
  go_wp2
  go_loopw [4] (fun i wr => ∃ (k : Nat), k ≤ 10 ∧ i = .int .i64 k ∧ Hid (∃ x y z L S O, HasD wr w.heap.size x y z L S O ∧ diskB L S O = true ∧ At3 wr (w.heap.size + 1) 30 x y z ∧ At3 wr w.heap.size 30 (.slice none 0 0) (.slice none 0 0) (.slice none 0 0) ∧ Draw W a len cap R wr ∧ Mut R w wr)) (fun i _ => (intOf i).toNat)
  case atStart => exact ⟨n0, hn2, rfl, _, _, _, [], [], [], HasD.nil _ _, disk_nil, HT31.out, HT21.out, HD1.out, HM1.out⟩
  case round =>
    obtain ⟨k, hk, rfl, HI⟩ := hrel
    obtain ⟨vx, vy, vz, L, S, O, hH, hdb, hT3, hT2, hDr, hMr⟩ := HI.out
    have HH : Hid (HasD wr w.heap.size vx vy vz L S O) := hH
    have HDB : Hid (diskB L S O = true) := hdb
    have HT3r : Hid (At3 wr (w.heap.size + 1) 30 vx vy vz) := hT3
    have HT2r : Hid (At3 wr w.heap.size 30 (.slice none 0 0) (.slice none 0 0) (.slice none 0 0)) := hT2
    have HDr : Hid (Draw W a len cap R wr) := hDr
    have HMr : Hid (Mut R w wr) := hMr
    have HSM : Hid (SmallD L S O ∧ L.length ≤ 60 ∧ S.length ≤ 60 ∧ O.length ≤ 200) := small_disk hdb
    have HN3 : Hid (w.heap.size + 1 ≠ R ∧ w.heap.size ≠ R) := ⟨by have := HR.out; omega, by have := HR.out; omega⟩
    obtain ⟨b1, d1, b2, d2, b3, d3, ex, ey, ez⟩ := hH.rd.slices
    obtain ⟨m1, hm1⟩ : ∃ m, m = L.length := ⟨_, rfl⟩
    obtain ⟨m2, hm2⟩ : ∃ m, m = S.length := ⟨_, rfl⟩
    obtain ⟨m3, hm3⟩ : ∃ m, m = O.length := ⟨_, rfl⟩
    rw [← hm1] at ex
    rw [← hm2] at ey
    rw [← hm3] at ez
    have HML : Hid (m1 = L.length ∧ m2 = S.length ∧ m3 = O.length) := ⟨hm1, hm2, hm3⟩
    clear HI hH hdb hT3 hT2 hDr hMr hm1 hm2 hm3
    by_cases hpos : 0 < k
    · have hposI : (0 : Int) < (k : Int) := by omega
      go_wp2_with fail
      refine (once_any hU 5 (by omega) (by omega) wr HDr.out).mono ?_
      rintro e ws ⟨bb, rfl, hD2, hM2⟩
      have HDS : Hid (Draw W a len cap R ws) := hD2
      have HMS : Hid (Mut R w ws) := HMr.out.trans hM2
      have HHS : Hid (HasD ws w.heap.size vx vy vz L S O) := HH.out.mut hM2 HR.out
      have HT3s : Hid (At3 ws (w.heap.size + 1) 30 vx vy vz) := HT3r.out.mut hM2 HN3.out.1
      have HT2s : Hid (At3 ws w.heap.size 30 (.slice none 0 0) (.slice none 0 0) (.slice none 0 0)) := HT2r.out.mut hM2 HN3.out.2
      clear hD2 hM2 HH HT3r HT2r HDr HMr
      cases bb with
      | true =>
        subst ex ey ez
        have c0 := HT3s.out.c0
        have c1 := HT3s.out.c1
        have c2 := HT3s.out.c2
        go_wp2_with fail
        refine (specSync2_any _ _ _ L S O ws HHS.out.rd.1 HHS.out.rd.2.1 HHS.out.rd.2.2 HSM.out.1 (by have := HSM.out.2; omega)).mono ?_
        rintro e w3 ⟨x, y, z, rfl, hh3, hB3⟩
        have hsy : syL L S O = L := by unfold syL; rw [HDB.out]; rfl
        rw [hsy] at hh3
        have HH3 : Hid (HasD w3 w.heap.size x y z L L []) := hh3.base HMS.out.size
        have HM3 : Hid (Mut R w w3) := HMS.out.trans (Mut.of_below hB3)
        have HD3 : Hid (Draw W a len cap R w3) := HDS.out.below hB3
        have HT33 : Hid (At3 w3 (w.heap.size + 1) 30 (.slice b1 m1 d1) (.slice b2 m2 d2) (.slice b3 m3 d3)) := HT3s.out.below hB3
        have HT23 : Hid (At3 w3 w.heap.size 30 (.slice none 0 0) (.slice none 0 0) (.slice none 0 0)) := HT2s.out.below hB3
        obtain ⟨e1, f1, e2, f2, e3, f3, ex, ey, ez⟩ := hh3.rd.slices
        obtain ⟨nA, hnA⟩ : ∃ m, m = L.length := ⟨_, rfl⟩
        rw [← hnA] at ex ey
        subst ex ey ez
        obtain ⟨q, hq, hi6, ho6, h16⟩ := row3 e1 e2 e3 nA f1 nA f2 0 f3
        have ho7 : (#[Value.slice b1 m1 d1, .slice b2 m2 d2, .slice b3 m3 d3] : Array Value).size = q.size := ho6
        have HDBN : Hid (diskB L L [] = true) := disk_sync HDB.out
        clear c0 c1 c2 hh3 hB3 hsy hnA
        go_wp2_with (refine wpList_store_row rfl 30 _ _ rfl (w.heap.size + 1) q rfl (congrArg Value.agg hq.symm) 30 _ HT33.out hi6 ho7 h16 ?_)
        subst hq
        go_roundw
        case rel => exact ⟨k - 1, by omega, by go_num, _, _, _, L, L, [], HH3.out.row HT33.out _, HDBN.out, setRow_heap _ _ _ _ _ _ HT33.out, HT23.out.row _ (by omega), HD3.out.row _ (by have := HR.out; omega), HM3.out.row _ (by omega)⟩
        case measure => simp [intOf]; omega
      | false =>
        have HRB : Hid (R < ws.heap.size) := HDS.out.lt
        have HRB0 : Hid (R < w.heap.size) := HR.out
        have HBW : Hid (w.heap.size ≤ ws.heap.size) := HMS.out.size
        have HTS : Hid (∀ wy, Mut R ws wy → At3 wy (w.heap.size + 1) 30 vx vy vz) := fun wy hy => HT3s.out.mut hy HN3.out.1
        subst ex ey ez
        go_wp2
        refine wp_cut_to (fun a0 t w' => ∃ f, t = canon a0 dsKD f ∧ (∃ g, ∃ o : Dop, ∃ x y z, f 5 = .pointer (some ⟨g, 0, none⟩) ∧ f 6 = .int .i64 (dC L S O o : Int) ∧ (∃ b1 n1 d1 b2 n2 d2 b3 n3 d3, x = .slice b1 n1 d1 ∧ y = .slice b2 n2 d2 ∧ z = .slice b3 n3 d3) ∧ ws.heap.size ≤ g ∧ w'.heap[g]? = some (.cells #[x, y, z] 30 (0, 0)) ∧ (dC L S O o = 0 → HasD w' w.heap.size x y z (dL L S O o) (dS L S O) (dO L S O o)) ∧ Draw W a len cap R w' ∧ Mut R ws w')) ?_ ?_
        rotate_left
        · intro J K' hJ hK
          refine wp_letter ?_
          intro fr hfr
          have hsz : 24 < fr.tmps.size := by rw [hfr]; exact Nat.le_of_ble_eq_true rfl
          have t0 : fr.eval (.tmp 0) = .pointer (some ⟨R, 0, none⟩) := by rw [hfr]; rfl
          have t3 : fr.eval (.tmp 3) = .pointer (some ⟨w.heap.size + 1, 0, none⟩) := by rw [hfr]; rfl
          have HFR := (show Hid _ from hfr)
          clear hfr
          have HTs : ∀ wy, Mut R ws wy → At3 wy (w.heap.size + 1) 30 (.slice b1 m1 d1) (.slice b2 m2 d2) (.slice b3 m3 d3) := fun wy hy => HTS.out wy hy
          have HHs : ∀ wy, Mut R ws wy → HasD wy w.heap.size (.slice b1 m1 d1) (.slice b2 m2 d2) (.slice b3 m3 d3) L S O := fun wy hy => HHS.out.mut hy HRB0.out
          refine wp_region_gen (by kernel_rfl) (by kernel_rfl) dsKD slotKD (KDF ws.heap.size R (.agg #[.slice b1 m1 d1, .slice b2 m2 d2, .slice b3 m3 d3]) L S O) (fun wy => Draw W a len cap R wy ∧ Mut R ws wy) ⟨HDS.out.drewN 1, (Mut.refl R ws).drewN 1⟩ ?_ ?_ ?_ ?_ ?_
          · intro j f f' wy hj he h
            exact h.dep hj (fun i hi => he i (by revert hi; match j, hj with | 0, _ => (intro hi; simp only [depKD, beq_iff_eq] at hi; rcases hi with rfl <;> kernel_rfl) | 1, _ => (intro hi; simp only [depKD, beq_iff_eq] at hi; rcases hi with rfl <;> kernel_rfl) | 2, _ => (intro hi; simp only [depKD, beq_iff_eq] at hi; rcases hi with rfl <;> kernel_rfl) | 3, _ => (intro hi; simp only [depKD, beq_iff_eq] at hi; rcases hi with rfl <;> kernel_rfl) | 4, _ => (intro hi; simp only [depKD, beq_iff_eq] at hi; rcases hi with rfl <;> kernel_rfl) | 5, _ => (intro hi; simp only [depKD, Bool.or_eq_true, beq_iff_eq] at hi; rcases hi with rfl | rfl <;> kernel_rfl) | 6, _ => (intro hi; simp only [depKD, Bool.or_eq_true, beq_iff_eq] at hi; rcases hi with rfl | rfl <;> kernel_rfl) | 7, _ => (intro hi; simp only [depKD, beq_iff_eq] at hi; rcases hi with rfl <;> kernel_rfl) | 8, _ => (intro hi; simp only [depKD, Bool.or_eq_true, beq_iff_eq] at hi; rcases hi with (rfl | rfl) | rfl <;> kernel_rfl) | 9, _ => (intro hi; simp only [depKD, Bool.or_eq_true, beq_iff_eq] at hi; rcases hi with rfl | rfl <;> kernel_rfl)))
          · intro i hi
            exact slotKD_mem i hi
          · intro i j hi hj q
            exact slotKD_inj i j hi hj q
          · intro ops hops done f wy j oo hG ho hdn hd
            have ho2 := ho
            rw [hops] at ho
            have hj : j < 10 := by
              rcases Nat.lt_or_ge j 10 with h | h
              · exact h
              · rw [Array.getElem?_eq_none (by simpa using h)] at ho; cases ho
            have N0 := (canon_eval_ne fr dsKD f 0 (by decide)).trans t0
            have N3 := (canon_eval_ne fr dsKD f 3 (by decide)).trans t3
            have hj' : j = 0 ∨ j = 1 ∨ j = 2 ∨ j = 3 ∨ j = 4 ∨ j = 5 ∨ j = 6 ∨ j = 7 ∨ j = 8 ∨ j = 9 := by omega
            rcases hj' with rfl | rfl | rfl | rfl | rfl | rfl | rfl | rfl | rfl | rfl <;> simp only [List.getElem?_toArray, List.getElem?_cons_succ, List.getElem?_cons_zero, Option.some.injEq] at ho <;> subst ho
            · refine wpOp_runG ho2 (wanted_none rfl) (q_load31 (canon fr dsKD f).eval _ wy _ (w.heap.size + 1) rfl N3 (HTs wy hG.2).c0 (HTs wy hG.2).c1 (HTs wy hG.2).c2) ?_
              exact ⟨_, rfl, upd_same f 19 _, hG, fun j _ _ h => h⟩
            · refine wpOp_runG ho2 (wanted_none rfl) (q_moveD (canon fr dsKD f).eval _ wy _ rfl) ?_
              exact ⟨_, rfl, (upd_same f 20 _).trans N0, hG, fun j _ _ h => h⟩
            · refine wpOp_enterG ho2 (wanted_none rfl) (q_call1I (canon fr dsKD f).eval _ wy _ HENP.out _ _ rfl rfl) ?_
              rw [(canon_eval fr dsKD f 20 (by decide) (Nat.lt_of_le_of_lt (by decide) hsz)).trans (hd ⟨1, .data⟩ (by simp) rfl)]
              refine (dop_any hU wy hG.1).mono ?_
              rintro e wz ⟨o, hso, rfl, hDz, hMz⟩
              exact ⟨_, rfl, _, rfl, ⟨o, hso, upd_same f 21 _⟩, ⟨hDz, hG.2.trans hMz⟩, fun j _ _ h => h.mut HRB.out hMz⟩
            · obtain ⟨o, hso, hu⟩ := hd ⟨2, .data⟩ (by simp) rfl
              refine wpOp_enterG ho2 (wanted_none rfl) (q_call2 (canon fr dsKD f).eval _ wy _ HEND.out _ _ _ rfl rfl) ?_
              rw [(canon_eval fr dsKD f 19 (by decide) (Nat.lt_of_le_of_lt (by decide) hsz)).trans (hd ⟨0, .data⟩ (by simp) rfl), (canon_eval fr dsKD f 21 (by decide) (Nat.lt_of_le_of_lt (by decide) hsz)).trans hu]
              refine (specDo2_any _ _ _ L S O o wy (HHs wy hG.2).rd HSM.out.1 ⟨by have := HSM.out.2; omega, by have := HSM.out.2; omega, by have := HSM.out.2; omega⟩ ⟨by omega, by omega, by omega⟩).mono ?_
              rintro e wz ⟨x, y, z, rfl, hr, hx, hBz⟩
              have hMz : Mut R wy wz := Mut.of_below hBz
              have hDz : Draw W a len cap R wz := hG.1.below hBz
              obtain ⟨b1, d1, b2, d2, b3, d3, ex, ey, ez⟩ := hr.slices
              exact ⟨_, rfl, _, rfl, ⟨o, x, y, z, hso, upd_same f 22 _, ⟨b1, _, d1, b2, _, d2, b3, _, d3, ex, ey, ez⟩, fun hc => (hx hc).base hG.2.size⟩, ⟨hDz, hG.2.trans hMz⟩, fun j _ _ h => h.mut HRB.out hMz⟩
            · obtain ⟨o, x, y, z, hso, e, hl, h1⟩ := hd ⟨3, .data⟩ (by simp) rfl
              refine wpOp_runG ho2 (wanted_none rfl) (q_moveD (canon fr dsKD f).eval _ wy _ rfl) ?_
              exact ⟨_, rfl, ⟨o, x, y, z, hso, (upd_same f 18 _).trans ((canon_eval fr dsKD f 22 (by decide) (Nat.lt_of_le_of_lt (by decide) hsz)).trans e), hl, h1⟩, hG, fun j _ _ h => h⟩
            · obtain ⟨o, x, y, z, hso, e, hl, h1⟩ := hd ⟨4, .data⟩ (by simp) rfl
              refine wpOp_runG ho2 (wanted_none rfl) (q_ext0 (canon fr dsKD f).eval _ wy _ (.agg #[x, y, z]) _ rfl ((canon_eval fr dsKD f 18 (by decide) (Nat.lt_of_le_of_lt (by decide) hsz)).trans e)) ?_
              exact ⟨_, rfl, ⟨x, y, z, _, (upd_ne f _ (by decide)).trans e, upd_same f 23 _, hl⟩, hG, fun j _ _ h => h⟩
            · obtain ⟨o, x, y, z, hso, e, hl, h1⟩ := hd ⟨4, .data⟩ (by simp) rfl
              refine wpOp_runG ho2 (wanted_none rfl) (q_ext1 (canon fr dsKD f).eval _ wy _ (.agg #[x, y, z]) _ rfl ((canon_eval fr dsKD f 18 (by decide) (Nat.lt_of_le_of_lt (by decide) hsz)).trans e)) ?_
              exact ⟨_, rfl, ⟨_, _, (upd_ne f _ (by decide)).trans e, upd_same f 24 _⟩, hG, fun j _ _ h => h⟩
            · refine wpOp_runG ho2 (wanted_none rfl) (q_allocD (canon fr dsKD f).eval _ wy rfl) ?_
              have hMz : Mut R wy (wy.alloc (.cells #[.slice none 0 0, .slice none 0 0, .slice none 0 0] 30)) := (Mut.refl R wy).alloc _
              have hDz : Draw W a len cap R (wy.alloc (.cells #[.slice none 0 0, .slice none 0 0, .slice none 0 0] 30)) := hG.1.alloc _
              exact ⟨_, rfl, ⟨wy.heap.size, _, upd_same f 5 _, hG.2.size, rfl, heap_alloc_new _ _⟩, ⟨hDz, hG.2.trans hMz⟩, fun j _ _ h => h.mut HRB.out hMz⟩
            · obtain ⟨g, cs, eg, hb, hc, hh⟩ := hd ⟨7, .data⟩ (by simp) rfl
              obtain ⟨x, y, z, c, e1, e, b1, n1, d1, b2, n2, d2, b3, n3, d3, rfl, rfl, rfl⟩ := hd ⟨5, .data⟩ (by simp) rfl
              refine wpOp_storeD ho2 (wanted_none rfl) _ _ g rfl ((canon_eval fr dsKD f 5 (by decide) (Nat.lt_of_le_of_lt (by decide) hsz)).trans eg) ((canon_eval fr dsKD f 23 (by decide) (Nat.lt_of_le_of_lt (by decide) hsz)).trans e) hc hh ?_
              intro wz hz1 hz2 hz3 hz4 hz5 hz6
              refine ⟨f 16, (put_same fr dsKD f 16 (by decide)).symm, ⟨g, _, _, _, (upd_ne f _ (by decide)).trans eg, (upd_ne f _ (by decide)).trans e, hb, hz1⟩, ⟨?_, ?_⟩, fun j _ hne h => h.put hne eg hh hz1 rfl hz2 (by omega)⟩
              · have hbw := HBW.out
                have hrb := HRB.out
                obtain ⟨p, hp, hbx⟩ := hG.1.box
                have hb0 := hG.1.bel
                have hnw := hG.1.new
                exact ⟨⟨hz4.trans hb0.os, hz5.trans hb0.tape, hz6.trans hb0.output, by rw [hz3]; exact hb0.size, fun k hk => (hz2 k (by omega)).trans (hb0.block k hk)⟩, hnw, p, hp, (hz2 R (by omega)).trans hbx⟩
              · exact ⟨hz4.trans hG.2.os, hz5.trans hG.2.tape, hz6.trans hG.2.output, by rw [hz3]; exact hG.2.size, fun k hk hkr => (hz2 k (by omega)).trans (hG.2.block k hk hkr)⟩
            · refine wpOp_runG ho2 (wanted_none rfl) (q_assignC (canon fr dsKD f).eval _ wy _ rfl) ?_
              refine ⟨_, rfl, ?_, hG, fun j _ _ h => h⟩
              show upd f 6 _ 6 = upd f 6 _ 24
              rw [upd_same, upd_ne f _ (by decide : (24 : Nat) ≠ 6)]
              exact (canon_eval fr dsKD f 24 (by decide) (Nat.lt_of_le_of_lt (by decide) hsz))
          · intro f wy hG hall
            obtain ⟨o, x, y, z, hso, e, hl, h1⟩ := hall 4 (by decide)
            obtain ⟨x2, y2, z2, c2, ee, e2, _⟩ := hall 5 (by decide)
            obtain ⟨v3, c3, e3, e4⟩ := hall 6 (by decide)
            obtain ⟨g', x', y', z', eg', e', hbg, hh⟩ := hall 8 (by decide)
            have h7 : f 6 = f 24 := hall 9 (by decide)
            rw [e] at ee e3
            simp only [Value.tuple.injEq, Value.agg.injEq, Array.mk.injEq, List.cons.injEq, and_true] at ee e3
            obtain ⟨⟨rfl, rfl, rfl⟩, rfl⟩ := ee
            obtain ⟨rfl, rfl⟩ := e3
            rw [e2] at e'
            simp only [Value.agg.injEq, Array.mk.injEq, List.cons.injEq, and_true] at e'
            obtain ⟨rfl, rfl, rfl⟩ := e'
            exact hK _ _ (Met.intro (hJ _ _ ⟨f, congrArg (fun z => canon z dsKD f) HFR.out, g', o, x, y, z, eg', h7.trans e4, hl, hbg, hh, fun hc => (h1 hc).base HBW.out, hG.1, hG.2⟩))
        rintro _ w5 ⟨f, rfl, g, o, x, y, z, h5, h6, hl, hbg, hg5, hh5, hD5, hM5⟩
        simp only [canon, dsKD, List.foldl, Act.put, List.setIfInBounds_toArray, List.set_cons_succ, List.set_cons_zero]
        rw [h5, h6]
        obtain ⟨C, hC⟩ : ∃ C, C = dC L S O o := ⟨_, rfl⟩
        rw [← hC]
        have HH5 : Hid (C = 0 → HasD w5 w.heap.size x y z (dL L S O o) (dS L S O) (dO L S O o) ∧ diskB (dL L S O o) (dS L S O) (dO L S O o) = true) := fun e => by
          have e : dC L S O o = 0 := hC.symm.trans e
          exact ⟨hh5 e, disk_do HDB.out e⟩
        have HD5 : Hid (Draw W a len cap R w5) := hD5
        have HM5 : Hid (Mut R w w5) := HMS.out.trans hM5
        have HO5 : Hid (HasD w5 w.heap.size (.slice b1 m1 d1) (.slice b2 m2 d2) (.slice b3 m3 d3) L S O) := HHS.out.mut hM5 HR.out
        have HT35 : Hid (At3 w5 (w.heap.size + 1) 30 (.slice b1 m1 d1) (.slice b2 m2 d2) (.slice b3 m3 d3)) := HTS.out w5 hM5
        have HT25 : Hid (At3 w5 w.heap.size 30 (.slice none 0 0) (.slice none 0 0) (.slice none 0 0)) := HT2s.out.mut hM5 HN3.out.2
        obtain ⟨e1, n1, f1, e2, n2, f2, e3, n3, f3, rfl, rfl, rfl⟩ := hl
        have HG5 : Hid (At3 w5 g 30 (.slice e1 n1 f1) (.slice e2 n2 f2) (.slice e3 n3 f3)) := hg5
        clear hC hh5 hD5 hM5 hg5 h5 h6 hbg HTS
        by_cases hc : C = 0
        · have hcb : ((C : Int) == 0) = true := by rw [hc]; rfl
          have HH6 := (show Hid _ from HH5.out hc)
          have c0 := HG5.out.c0
          have c1 := HG5.out.c1
          have c2 := HG5.out.c2
          obtain ⟨q, hq, hi6, ho6, h16⟩ := row3 e1 e2 e3 n1 f1 n2 f2 n3 f3
          have ho7 : (#[Value.slice b1 m1 d1, .slice b2 m2 d2, .slice b3 m3 d3] : Array Value).size = q.size := ho6
          clear hc
          go_wp2_with (refine wpList_store_row rfl 30 _ _ rfl (w.heap.size + 1) q rfl (congrArg Value.agg hq.symm) 30 _ HT35.out hi6 ho7 h16 ?_)
          subst hq
          go_roundw
          case rel => exact ⟨k - 1, by omega, by go_num, _, _, _, _, _, _, HH6.out.1.row HT35.out _, HH6.out.2, setRow_heap _ _ _ _ _ _ HT35.out, HT25.out.row _ (by omega), HD5.out.row _ (by have := HR.out; omega), HM5.out.row _ (by omega)⟩
          case measure => simp [intOf]; omega
        · have hcb : ((C : Int) == 0) = false := by simp; omega
          clear hc
          go_wp2
          go_roundw
          case rel => exact ⟨k - 1, by omega, by go_num, _, _, _, _, _, _, HO5.out, HDB.out, HT35.out, HT25.out, HD5.out, HM5.out⟩
          case measure => simp [intOf]; omega
    · have hposI : ¬ (0 : Int) < (k : Int) := by omega
      go_wp2_with fail
      refine (below_any hU 40 (by omega) (by omega) wr HDr.out).mono ?_
      rintro e ws ⟨yy, hy0, hy1, rfl, hD2, hM2⟩
      have HDS : Hid (Draw W a len cap R ws) := hD2
      have HMS : Hid (Mut R w ws) := HMr.out.trans hM2
      have HHS : Hid (HasD ws w.heap.size vx vy vz L S O) := HH.out.mut hM2 HR.out
      have HT3s : Hid (At3 ws (w.heap.size + 1) 30 vx vy vz) := HT3r.out.mut hM2 HN3.out.1
      have HT2s : Hid (At3 ws w.heap.size 30 (.slice none 0 0) (.slice none 0 0) (.slice none 0 0)) := HT2r.out.mut hM2 HN3.out.2
      clear hD2 hM2 HH HT3r HT2r HDr HMr
      subst ex ey ez
      have c0 := HT3s.out.c0
      have c1 := HT3s.out.c1
      have c2 := HT3s.out.c2
      by_cases y0 : yy = 0
      · have y0b : (yy == 0) = true := by rw [y0]; rfl
        clear y0
        obtain ⟨i0, hi, hz0, hz1, hz2⟩ := info_parts infoF
        obtain ⟨zz, hzz⟩ : ∃ zz : ByteArray, zz = ⟨#[122, 122]⟩ := ⟨_, rfl⟩
        obtain ⟨oo, hoo⟩ : ∃ oo : Obj, oo = .cells #[.string zz, .string ⟨#[]⟩] 66 := ⟨_, rfl⟩
        have HOO := (show Hid _ from hoo)
        have HZZ : Hid (zz.size ≤ 2) := by show _ ≤ _; rw [hzz]; decide
        have hBo : Below ws.heap.size ws (ws.alloc oo) := (Below.refl _ _).alloc (Nat.le_refl _) _
        have HLX : Hid (HoldF (ws.alloc oo) w.heap.size (.slice b1 m1 d1) L) := (show HoldF ws w.heap.size (.slice b1 m1 d1) L from ⟨HHS.out.rd.1, HHS.out.l⟩).below hBo
        have HOW : Hid ((ws.alloc oo).ownsRow w.heap.size 66 2 (.slice b1 m1 d1) m1 (cellsF L)) := by have := HLX.out.row; unfold OwnF at this; rw [← HML.out.1] at this; exact this
        have HNW : Hid (∀ j u, ([Value.string zz, .string ⟨#[]⟩] : List Value)[j]? = some u → (ws.alloc oo).cell? ((⟨ws.heap.size, 0, none⟩ : Addr).add j) = some u) := by
          show ∀ j u, _
          rw [hoo]
          have := World.news_of_block (heap_alloc_new ws (.cells #[.string zz, .string ⟨#[]⟩] 66))
          simpa using this
        have HMX9 : Hid (m1 + 1 ≤ maxLen ∧ (m1 + 1) * 32 ≤ 140737488355328 ∧ w.heap.size ≤ (ws.alloc oo).heap.size) := ⟨by have := HSM.out; have := HML.out; unfold maxLen; omega, by have := HSM.out; have := HML.out; omega, by have := HMS.out.size; simp; omega⟩
        have HFIN : Hid (∀ v7 w7, w7.ownsRow w.heap.size 66 2 v7 (m1 + 1) (cellsF L ++ [.string zz, .string ⟨#[]⟩]) → (ws.alloc oo).grownBy w7 (Value.slice b1 m1 d1).ownBlock → (HoldF w7 w.heap.size v7 (L ++ [⟨zz, ⟨#[]⟩⟩]) ∧ (HoldF w7 w.heap.size (.slice b2 m2 d2) S ∨ S = []) ∧ HoldO w7 w.heap.size (.slice b3 m3 d3) O) ∧ At3 w7 (w.heap.size + 1) 30 (.slice b1 m1 d1) (.slice b2 m2 d2) (.slice b3 m3 d3) ∧ At3 w7 w.heap.size 30 (.slice none 0 0) (.slice none 0 0) (.slice none 0 0) ∧ Draw W a len cap R w7 ∧ Mut R w w7) := fun v7 w7 hown hgrow => by
          have hx : ∀ b, (Value.slice b1 m1 d1).ownBlock = some b → w.heap.size ≤ b := fun b hb => (HLX.out.2.lt b hb).1
          have hR := HR.out
          have h3' : At3 (ws.alloc oo) (w.heap.size + 1) 30 (.slice b1 m1 d1) (.slice b2 m2 d2) (.slice b3 m3 d3) := HT3s.out.below hBo
          have h2' : At3 (ws.alloc oo) w.heap.size 30 (.slice none 0 0) (.slice none 0 0) (.slice none 0 0) := HT2s.out.below hBo
          have hDo : Draw W a len cap R (ws.alloc oo) := HDS.out.alloc oo
          have hMo : Mut R w (ws.alloc oo) := HMS.out.alloc oo
          refine ⟨⟨?_, ?_, ?_⟩, ?_, ?_, ?_, ?_⟩
          · have ho : OwnF w7 w.heap.size v7 (L ++ [⟨zz, ⟨#[]⟩⟩]) := by
              unfold OwnF
              rw [← cellsF_snoc, List.length_append]
              show World.ownsRow _ _ _ _ _ (L.length + 1) _
              rw [← HML.out.1]
              exact hown
            exact ho.hold
          · rcases HHS.out.ap with hap | hap
            · have hy : HoldF (ws.alloc oo) w.heap.size (.slice b2 m2 d2) S := (show HoldF ws w.heap.size (.slice b2 m2 d2) S from ⟨HHS.out.rd.2.1, HHS.out.s⟩).below hBo
              exact .inl (hy.off hgrow.size (fun k hk => hgrow.block k (hy.2.lt k hk).2 (fun e => hap k e.symm hk)))
            · exact .inr hap
          · have hz' : HoldO (ws.alloc oo) w.heap.size (.slice b3 m3 d3) O := (show HoldO ws w.heap.size (.slice b3 m3 d3) O from ⟨HHS.out.rd.2.2, HHS.out.o⟩).below hBo
            exact hz'.off hgrow.size (fun k hk => hgrow.block k (hz'.2.lt k hk).2 (fun e => OwA24 HLX.out.2 hz'.2 e.symm hk))
          · exact (hgrow.block _ h3'.lt (fun e => HLX.out.ne3 h3' e.symm rfl)).trans h3'
          · exact (hgrow.block _ h2'.lt (fun e => HLX.out.ne3 h2' e.symm rfl)).trans h2'
          · obtain ⟨p, hp, hb⟩ := hDo.box
            have hnw := hDo.new
            have hb0 := hDo.bel
            exact ⟨⟨hgrow.os.trans hb0.os, hgrow.tape.trans hb0.tape, hgrow.output.trans hb0.output, Nat.le_trans hb0.size hgrow.size, fun k hk => (hgrow.block k (by have := hb0.size; omega) (fun e => by have := hx k e.symm; omega)).trans (hb0.block k hk)⟩, hnw, p, hp, (hgrow.block R (lt_of_block hb) (fun e => by have := hx R e.symm; omega)).trans hb⟩
          · exact ⟨hgrow.os.trans hMo.os, hgrow.tape.trans hMo.tape, hgrow.output.trans hMo.output, Nat.le_trans hMo.size hgrow.size, fun k hk hkr => (hgrow.block k (by have := hMo.size; omega) (fun e => by have := hx k e.symm; omega)).trans (hMo.block k hk hkr)⟩
        have hS : ∀ {w8 : World}, S = [] → RdF w8 (.slice b2 m2 d2) S := fun {w8} e => by
          obtain ⟨a', c', e', h1, h2, _⟩ := HHS.out.rd.2.1
          exact ⟨a', c', e', h1, h2, fun h => by rw [e] at h; exact absurd h (Nat.lt_irrefl _)⟩
        have HSN := (show Hid (∀ {w8 : World}, S = [] → RdF w8 (.slice b2 m2 d2) S) from hS)
        clear hBo hS
        rw [hoo] at HOW HNW HMX9 HFIN
        rw [hzz] at HOW HNW HMX9 HFIN
        go_wp2_with (first
         | (
          at_builtin
          refine wpList_append_own _ rfl _ _ 27 rfl w.heap.size 66 i0 (.agg #[.string ⟨#[]⟩, .string ⟨#[]⟩]) 2 32 Try.underlying27 hi hz0 hz1 hz2 rfl (by decide) _ m1 _ rfl HOW.out ⟨ws.heap.size, 0, none⟩ 1 1 [.string ⟨#[122, 122]⟩, .string ⟨#[]⟩] rfl rfl HNW.out (by simp [Value.oneCell']) HMX9.out.1 HMX9.out.2.1 HMX9.out.2.2 ?_
          intro v7 w7 hown7 hgrow7 hnil7
          have HE := (show Hid _ from HFIN.out v7 w7 hown7 hgrow7)
          obtain ⟨a7, c7, e7⟩ := HE.out.1.1.2.slice
          obtain ⟨n7, hn7⟩ : ∃ n, n = (L ++ [(⟨⟨#[122, 122]⟩, ⟨#[]⟩⟩ : Fl)]).length := ⟨_, rfl⟩
          rw [← hn7] at e7
          subst e7
          clear hown7 hgrow7 hnil7 hn7 HFIN HOW HNW HMX9 HLX HOO
          have f0 : w7.frozen? ⟨w.heap.size + 1, 0, none⟩ = false := frozN HE.out.2.1
          have r0 := HE.out.2.1.c0
          have r1 := HE.out.2.1.c1
          have r2 := HE.out.2.1.c2
          have HZ2 : Hid (At3 (w7.setCell ⟨w.heap.size + 1, 0, none⟩ (.slice a7 n7 c7)) w.heap.size 30 (.slice none 0 0) (.slice none 0 0) (.slice none 0 0)) := (Below.heap_setCell _ _ _ _ (show w.heap.size ≠ w.heap.size + 1 by omega)).trans HE.out.2.2.1
          obtain ⟨q, hq, hi6, ho6, h16⟩ := row3 a7 b2 b3 n7 c7 m2 d2 m3 d3)
         | (refine wpList_store_row rfl 30 _ _ rfl w.heap.size q rfl (congrArg Value.agg hq.symm) 30 _ HZ2.out hi6 ho6 h16 ?_))
        subst hq
        obtain ⟨WF, hWF⟩ : ∃ WF, WF = (w7.setCell ⟨w.heap.size + 1, 0, none⟩ (.slice a7 n7 c7)).setRow w.heap.size #[.slice a7 n7 c7, .slice b2 m2 d2, .slice b3 m3 d3] := ⟨_, rfl⟩
        have hsF : w7.heap.size ≤ WF.heap.size := by rw [hWF]; simp [World.setRow, World.setCell]
        have hkF : ∀ k, k ≠ w.heap.size → k ≠ w.heap.size + 1 → WF.heap[k]? = w7.heap[k]? := fun k k2 k3 => by rw [hWF]; exact (setRow_other _ _ _ _ k2).trans (Below.heap_setCell _ _ _ _ k3)
        have h1 := HE.out.1.1.off hsF (fun k hk => hkF k (HE.out.1.1.ne3 HE.out.2.2.1 hk) (HE.out.1.1.ne3 HE.out.2.1 hk))
        have h3 := HE.out.1.2.2.off hsF (fun k hk => hkF k (HE.out.1.2.2.ne3 HE.out.2.2.1 hk) (HE.out.1.2.2.ne3 HE.out.2.1 hk))
        have h2 : ∀ w'', WF.heap.size ≤ w''.heap.size → (∀ k, w.heap.size ≤ k → k < WF.heap.size → w''.heap[k]? = WF.heap[k]?) → RdF w'' (.slice b2 m2 d2) S := fun w'' hs' he' => by
          rcases HE.out.1.2.1 with h | h
          · have h' := h.off hsF (fun k hk => hkF k (h.ne3 HE.out.2.2.1 hk) (h.ne3 HE.out.2.1 hk))
            exact (h'.off hs' (fun k hk => he' k (h'.2.lt k hk).1 (h'.2.lt k hk).2)).1
          · exact HSN.out h
        have hD7 : Draw W a len cap R WF := by rw [hWF]; exact (HE.out.2.2.2.1.set (show R < w.heap.size + 1 by have := HR.out; omega)).row _ HR.out
        have hM7 : Mut R w WF := by rw [hWF]; exact (HE.out.2.2.2.2.set (by omega)).row _ (by omega)
        have hsm := HSM.out
        have hfin : SmallD (L ++ [(⟨⟨#[122, 122]⟩, ⟨#[]⟩⟩ : Fl)]) S O := by
          have e0 : (⟨⟨#[122, 122]⟩, ⟨#[]⟩⟩ : Fl).n.size = 2 ∧ (⟨⟨#[122, 122]⟩, ⟨#[]⟩⟩ : Fl).d.size = 0 := ⟨rfl, rfl⟩
          refine ⟨?_, hsm.1.s1, ?_, hsm.1.s2, hsm.1.o1⟩
          · have ht : tot (L ++ [(⟨⟨#[122, 122]⟩, ⟨#[]⟩⟩ : Fl)]) = tot L := by unfold tot; simp; rfl
            rw [ht]
            exact hsm.1.l1
          · intro f hf
            rcases List.mem_append.1 hf with h | h
            · exact hsm.1.l2 f h
            · rw [List.mem_singleton.1 h, e0.1]
              decide
        refine bodyPost_ret (results_cell_row rfl _ _ w.heap.size 30 _ _ _ rfl (setRow_heap _ _ _ _ _ _ HZ2.out) Try.underlying30 rfl hi6) rfl ?_
        rw [← hWF]
        exact ⟨_, _, _, _, S, O, rfl, ⟨Nat.le_refl _, fun w'' hs' he' => ⟨(h1.off hs' (fun k hk => he' k (h1.2.lt k hk).1 (h1.2.lt k hk).2)).1, h2 w'' hs' he', (h3.off hs' (fun k hk => he' k (h3.2.lt k hk).1 (h3.2.lt k hk).2)).1⟩⟩, HHS.out.nz, hfin, ⟨by rw [List.length_append]; show L.length + 1 ≤ 1000; omega, by omega, by omega⟩, hD7, hM7⟩
      · have y0b : (yy == 0) = false := by simpa using y0
        by_cases y1 : yy = 1
        · have y1b : (yy == 1) = true := by rw [y1]; rfl
          clear y0 y1
          by_cases hm : 0 < m3
          · have hmI : (0 : Int) < (m3 : Int) := by omega
            have hm1I : (1 : Int) ≤ (m3 : Int) := by omega
            have hm1 : 1 ≤ m3 := hm
            obtain ⟨a', cap', e, hlc, hcm, hcc⟩ := HHS.out.rd.2.2
            obtain ⟨gb, off, hgb, _, _⟩ := hcc (by have := HML.out; omega)
            simp only [Value.slice.injEq] at e
            obtain ⟨e1, e2, e3⟩ := e
            rw [hgb] at e1
            subst e1
            have hd3 : m3 ≤ d3 := by omega
            have hd3I : (m3 : Int) ≤ (d3 : Int) := by omega
            have f2 : ws.frozen? ⟨w.heap.size + 1, 2, none⟩ = false := frozN HT3s.out
            clear e2 e3 hcc hlc hcm hgb
            by_cases hcap : d3 = 1
            · subst hcap
              have hm31 : m3 = 1 := by omega
              subst hm31
              have HZ2 : Hid (At3 (ws.setCell ⟨w.heap.size + 1, 2, none⟩ (.slice (some ⟨gb, off, none⟩) 0 0)) w.heap.size 30 (.slice none 0 0) (.slice none 0 0) (.slice none 0 0)) := (Below.heap_setCell _ _ _ _ (show w.heap.size ≠ w.heap.size + 1 by omega)).trans HT2s.out
              obtain ⟨q, hq, hi6, ho6, h16⟩ := row3 b1 b2 (some ⟨gb, off, none⟩) m1 d1 m2 d2 0 0
              go_wp2_with (refine wpList_store_row rfl 30 _ _ rfl w.heap.size q rfl (congrArg Value.agg hq.symm) 30 _ HZ2.out hi6 ho6 h16 ?_)
              subst hq
              have hF : HasD ((ws.setCell ⟨w.heap.size + 1, 2, none⟩ (.slice (some ⟨gb, off, none⟩) 0 0)).setRow w.heap.size #[.slice b1 m1 d1, .slice b2 m2 d2, .slice (some ⟨gb, off, none⟩) 0 0]) w.heap.size (.slice b1 m1 d1) (.slice b2 m2 d2) (.slice (some ⟨gb, off, none⟩) 1 1) L S O := HHS.out.two HT2s.out HT3s.out (by simp [World.setRow, World.setCell]) (fun k k2 k3 => (setRow_other _ _ _ _ k2).trans (Below.heap_setCell _ _ _ _ k3))
              refine bodyPost_ret (results_cell_row rfl _ _ w.heap.size 30 _ _ _ rfl (setRow_heap _ _ _ _ _ _ HZ2.out) Try.underlying30 rfl hi6) rfl ⟨_, _, _, L, S, O.tail, rfl, ⟨Nat.le_refl _, fun w'' hs' he' => ⟨(hF.st.2 w'' hs' he').1, (hF.st.2 w'' hs' he').2.1, by
                              have hO : O.tail = [] := List.length_eq_zero_iff.1 (by rw [List.length_tail]; have := HML.out; omega)
                              rw [hO]
                              exact ⟨_, _, rfl, Nat.le_refl _, by omega, fun h => absurd h (Nat.lt_irrefl _)⟩⟩⟩, .inr ⟨_, _, _, rfl⟩, ⟨HSM.out.1.l1, HSM.out.1.s1, HSM.out.1.l2, HSM.out.1.s2, fun o ho => HSM.out.1.o1 o (List.mem_of_mem_tail ho)⟩, ⟨by have := HSM.out; omega, by have := HSM.out; omega, by have := HSM.out; rw [List.length_tail]; omega⟩, (HDS.out.set (show R < w.heap.size + 1 by have := HR.out; omega)).row _ HR.out, (HMS.out.set (by omega)).row _ (by omega)⟩
            · have hcap2 : ¬ (d3 : Int) = 1 := by omega
              have hcap3 : ¬ d3 - 1 = 0 := by omega
              have HZ2 : Hid (At3 (ws.setCell ⟨w.heap.size + 1, 2, none⟩ (.slice (some ⟨gb, off + 4, none⟩) (m3 - 1) (d3 - 1))) w.heap.size 30 (.slice none 0 0) (.slice none 0 0) (.slice none 0 0)) := (Below.heap_setCell _ _ _ _ (show w.heap.size ≠ w.heap.size + 1 by omega)).trans HT2s.out
              obtain ⟨q, hq, hi6, ho6, h16⟩ := row3 b1 b2 (some ⟨gb, off + 4, none⟩) m1 d1 m2 d2 (m3 - 1) (d3 - 1)
              go_wp2_with (refine wpList_store_row rfl 30 _ _ rfl w.heap.size q rfl (congrArg Value.agg hq.symm) 30 _ HZ2.out hi6 ho6 h16 ?_)
              subst hq
              have hF : HasD ((ws.setCell ⟨w.heap.size + 1, 2, none⟩ (.slice (some ⟨gb, off + 4, none⟩) (m3 - 1) (d3 - 1))).setRow w.heap.size #[.slice b1 m1 d1, .slice b2 m2 d2, .slice (some ⟨gb, off + 4, none⟩) (m3 - 1) (d3 - 1)]) w.heap.size (.slice b1 m1 d1) (.slice b2 m2 d2) (.slice (some ⟨gb, off, none⟩) m3 d3) L S O := HHS.out.two HT2s.out HT3s.out (by simp [World.setRow, World.setCell]) (fun k k2 k3 => (setRow_other _ _ _ _ k2).trans (Below.heap_setCell _ _ _ _ k3))
              refine bodyPost_ret (results_cell_row rfl _ _ w.heap.size 30 _ _ _ rfl (setRow_heap _ _ _ _ _ _ HZ2.out) Try.underlying30 rfl hi6) rfl ⟨_, _, _, L, S, O.tail, rfl, ⟨Nat.le_refl _, fun w'' hs' he' => ⟨(hF.st.2 w'' hs' he').1, (hF.st.2 w'' hs' he').2.1, (hF.st.2 w'' hs' he').2.2.tl hm⟩⟩, .inr ⟨_, _, _, rfl⟩, ⟨HSM.out.1.l1, HSM.out.1.s1, HSM.out.1.l2, HSM.out.1.s2, fun o ho => HSM.out.1.o1 o (List.mem_of_mem_tail ho)⟩, ⟨by have := HSM.out; omega, by have := HSM.out; omega, by have := HSM.out; rw [List.length_tail]; omega⟩, (HDS.out.set (show R < w.heap.size + 1 by have := HR.out; omega)).row _ HR.out, (HMS.out.set (by omega)).row _ (by omega)⟩
          · have hmI : ¬ (0 : Int) < (m3 : Int) := by omega
            obtain ⟨q, hq, hi6, ho6, h16⟩ := row3 b1 b2 b3 m1 d1 m2 d2 m3 d3
            go_wp2_with (refine wpList_store_row rfl 30 _ _ rfl w.heap.size q rfl (congrArg Value.agg hq.symm) 30 _ HT2s.out hi6 ho6 h16 ?_)
            subst hq
            refine bodyPost_ret (results_cell_row rfl _ _ w.heap.size 30 _ _ _ rfl (setRow_heap _ _ _ _ _ _ HT2s.out) Try.underlying30 rfl hi6) rfl ⟨_, _, _, L, S, O, rfl, (HHS.out.row HT2s.out _).st, HHS.out.nz, HSM.out.1, ⟨by have := HSM.out; omega, by have := HSM.out; omega, by have := HSM.out; omega⟩, HDS.out.row _ HR.out, HMS.out.row _ (by omega)⟩
        · have y1b : (yy == 1) = false := by simpa using y1
          by_cases y2 : yy = 2
          · have y2b : (yy == 2) = true := by rw [y2]; rfl
            clear y0 y1 y2
            go_wp2_with fail
            refine (below_any hU 9 (by omega) (by omega) ws HDS.out).mono ?_
            rintro e wt ⟨y9, hz0, hz1, rfl, hD9, hM9⟩
            have HDT : Hid (Draw W a len cap R wt) := hD9
            have HMT : Hid (Mut R w wt) := HMS.out.trans hM9
            have HT3t : Hid (At3 wt (w.heap.size + 1) 30 (.slice b1 m1 d1) (.slice b2 m2 d2) (.slice b3 m3 d3)) := HT3s.out.mut hM9 HN3.out.1
            have HT2t : Hid (At3 wt w.heap.size 30 (.slice none 0 0) (.slice none 0 0) (.slice none 0 0)) := HT2s.out.mut hM9 HN3.out.2
            obtain ⟨nb, hnb⟩ : ∃ nb : Nat, (nb : Int) = 200000 - y9 := ⟨(200000 - y9).toNat, by omega⟩
            have hnb1 : nb ≤ 200000 := by omega
            have hsub : IntKind.i64.wrap (200000 - y9) = (nb : Int) := by rw [IntKind.wrap_i64]; omega
            clear hD9 hM9 hz0 hz1 c0 c1 c2
            have hsub2 : (200000 : Int) - y9 = (nb : Int) := hnb.symm
            obtain ⟨i0, hi, hz0, hz1, hz2⟩ := info_parts infoU8
            have hb2 : i0.bytes * nb ≤ 281474976710656 := by rw [hz2]; omega
            have hb3 : nb ≤ maxLen := by unfold maxLen; omega
            have HNB : Hid (nb ≤ 200000) := hnb1
            clear hnb
            go_wp2_with (first
             | (
              at_make
              refine wpList_make_full _ rfl _ _ 51 rfl wt.heap.size 5 i0 (.int .u8 0) 1 Try.underlying51 hi hz0 hz1 .i64 .i64 _ _ nb rfl rfl (by first | rfl | exact hsub2) (by first | rfl | exact hsub2) hb2 hb3 (Nat.le_refl _) ?_
              intro w1 hown hgrow
              have hB1 : Below wt.heap.size wt w1 := (Below.refl _ wt).grown hgrow (Nat.le_refl _) (fun k hk => by cases hk)
              rw [made_u8 nb] at hown
              have hcv := big_string hown
              obtain ⟨zs, hzs⟩ : ∃ zs, zs = zeroS nb := ⟨_, rfl⟩
              rw [← hzs] at hcv
              have HZS : Hid (zs.size ≤ 200000) := by show _ ≤ _; rw [hzs, zeroS_size]; exact HNB.out
              have HX1 : Hid (∀ oo, Draw W a len cap R (w1.alloc oo) ∧ Mut R w (w1.alloc oo) ∧ At3 (w1.alloc oo) (w.heap.size + 1) 30 (.slice b1 m1 d1) (.slice b2 m2 d2) (.slice b3 m3 d3) ∧ At3 (w1.alloc oo) w.heap.size 30 (.slice none 0 0) (.slice none 0 0) (.slice none 0 0)) := fun oo => by
                have hb : Below wt.heap.size wt (w1.alloc oo) := hB1.alloc hB1.size oo
                exact ⟨HDT.out.below hb, HMT.out.trans (Mut.of_below hb), HT3t.out.below hb, HT2t.out.below hb⟩
              have HL1 : Hid (w.heap.size + 1 < w1.heap.size) := (HT3t.out.below hB1).lt
              clear hown hgrow hB1 hzs
              obtain ⟨q1, hq1, hi1, ho1, h11⟩ := row3 (some ⟨w1.heap.size, 0, none⟩) none none 1 1 0 0 0 0
              have ho1' : (#[Value.slice b1 m1 d1, .slice b2 m2 d2, .slice b3 m3 d3] : Array Value).size = q1.size := ho1
              obtain ⟨q2, hq2, hi6, ho6, h16⟩ := row3 (some ⟨w1.heap.size, 0, none⟩) (some ⟨w1.heap.size, 0, none⟩) none 1 1 1 1 0 0)
             | (
              refine wpList_store_row rfl 30 _ _ rfl (w.heap.size + 1) q1 rfl (congrArg Value.agg hq1.symm) 30 _ (HX1.out _).2.2.1 hi1 ho1' h11 ?_
              obtain ⟨X9, hX9⟩ : ∃ X9, X9 = (w1.alloc (.cells #[.string ⟨#[98, 105, 103]⟩, .string zs] 66)).setRow (w.heap.size + 1) q1 := ⟨_, rfl⟩
              rw [← hX9]
              have HX9 := (show Hid _ from hX9)
              have HA9 : Hid (At3 X9 (w.heap.size + 1) 30 (.slice (some ⟨w1.heap.size, 0, none⟩) 1 1) (.slice none 0 0) (.slice none 0 0)) := by rw [hX9, hq1]; exact setRow_heap _ _ _ _ _ _ (HX1.out _).2.2.1
              have HB9 : Hid (At3 X9 w.heap.size 30 (.slice none 0 0) (.slice none 0 0) (.slice none 0 0)) := by rw [hX9]; exact (setRow_other _ _ _ _ (show w.heap.size ≠ w.heap.size + 1 by omega)).trans (HX1.out _).2.2.2
              have HD9 : Hid (Draw W a len cap R X9) := by rw [hX9]; exact (HX1.out _).1.row _ (by have := HR.out; omega)
              have HM9 : Hid (Mut R w X9) := by rw [hX9]; exact (HX1.out _).2.1.row _ (by omega)
              have HC9 : Hid (X9.heap[w1.heap.size]? = some (.cells #[.string ⟨#[98, 105, 103]⟩, .string zs] 66 (0, 0)) ∧ w.heap.size + 1 < w1.heap.size) := by
                have hl : w.heap.size + 1 < w1.heap.size := HL1.out
                refine ⟨?_, hl⟩
                rw [hX9]
                exact (setRow_other _ _ _ _ (show w1.heap.size ≠ w.heap.size + 1 by omega)).trans (heap_alloc_new _ _)
              have c0 := HA9.out.c0
              have c1 := HA9.out.c1
              have c2 := HA9.out.c2
              have f1 : X9.frozen? ⟨w.heap.size + 1, 1, none⟩ = false := frozN HA9.out
              clear hX9
              have HZ2 : Hid (At3 (X9.setCell ⟨w.heap.size + 1, 1, none⟩ (.slice (some ⟨w1.heap.size, 0, none⟩) 1 1)) w.heap.size 30 (.slice none 0 0) (.slice none 0 0) (.slice none 0 0)) := (Below.heap_setCell _ _ _ _ (show w.heap.size ≠ w.heap.size + 1 by omega)).trans HB9.out)
             | (refine wpList_store_row rfl 30 _ _ rfl w.heap.size q2 rfl (congrArg Value.agg hq2.symm) 30 _ HZ2.out hi6 ho6 h16 ?_))
            subst hq2
            obtain ⟨WF, hWF⟩ : ∃ WF, WF = (X9.setCell ⟨w.heap.size + 1, 1, none⟩ (.slice (some ⟨w1.heap.size, 0, none⟩) 1 1)).setRow w.heap.size #[.slice (some ⟨w1.heap.size, 0, none⟩) 1 1, .slice (some ⟨w1.heap.size, 0, none⟩) 1 1, .slice none 0 0] := ⟨_, rfl⟩
            have hb : WF.heap[w1.heap.size]? = some (.cells #[.string ⟨#[98, 105, 103]⟩, .string zs] 66 (0, 0)) := by
              have hl := HC9.out.2
              rw [hWF]
              exact (setRow_other _ _ _ _ (show w1.heap.size ≠ w.heap.size by omega)).trans ((Below.heap_setCell _ _ _ _ (show w1.heap.size ≠ w.heap.size + 1 by omega)).trans HC9.out.1)
            have hD7 : Draw W a len cap R WF := by rw [hWF]; exact (HD9.out.set (show R < w.heap.size + 1 by have := HR.out; omega)).row _ HR.out
            have hM7 : Mut R w WF := by rw [hWF]; exact (HM9.out.set (by omega)).row _ (by omega)
            have hrd : ∀ w'', WF.heap.size ≤ w''.heap.size → (∀ k, w.heap.size ≤ k → k < WF.heap.size → w''.heap[k]? = WF.heap[k]?) → RdF w'' (.slice (some ⟨w1.heap.size, 0, none⟩) 1 1) [(⟨⟨#[98, 105, 103]⟩, zs⟩ : Fl)] := fun w'' hs' he' => by
              have hb := (he' _ (by have := HC9.out.2; omega) (lt_of_block hb)).trans hb
              exact ⟨_, _, rfl, Nat.le_refl _, by omega, fun _ => ⟨_, _, rfl, lt_of_block hb, fun i hi => by
                have h0 : i = 0 := by simpa using hi
                subst h0
                exact ⟨cellN hb, cellN hb⟩⟩⟩
            have hzs := HZS.out
            have htot : tot [(⟨⟨#[98, 105, 103]⟩, zs⟩ : Fl)] = zs.size := by unfold tot; simp
            have hsz : ∀ f ∈ [(⟨⟨#[98, 105, 103]⟩, zs⟩ : Fl)], f.n.size ≤ 100000000 := fun f hf => by
              rw [List.mem_singleton.1 hf]
              show (3 : Nat) ≤ 100000000
              omega
            refine bodyPost_ret (results_cell_row rfl _ _ w.heap.size 30 _ _ _ rfl (setRow_heap _ _ _ _ _ _ HZ2.out) Try.underlying30 rfl hi6) rfl ?_
            rw [← hWF]
            exact ⟨_, _, _, _, _, [], rfl, ⟨Nat.le_refl _, fun w'' hs' he' => ⟨hrd w'' hs' he', hrd w'' hs' he', (HoldO.nil _ 0).1⟩⟩, .inl rfl, ⟨by rw [htot]; omega, by rw [htot]; omega, hsz, hsz, fun o ho => absurd ho (by simp)⟩, ⟨by simp, by simp, by simp⟩, hD7, hM7⟩
          · have y2b : (yy == 2) = false := by simpa using y2
            clear y0 y1 y2
            obtain ⟨q, hq, hi6, ho6, h16⟩ := row3 b1 b2 b3 m1 d1 m2 d2 m3 d3
            go_wp2_with (refine wpList_store_row rfl 30 _ _ rfl w.heap.size q rfl (congrArg Value.agg hq.symm) 30 _ HT2s.out hi6 ho6 h16 ?_)
            subst hq
            refine bodyPost_ret (results_cell_row rfl _ _ w.heap.size 30 _ _ _ rfl (setRow_heap _ _ _ _ _ _ HT2s.out) Try.underlying30 rfl hi6) rfl ⟨_, _, _, L, S, O, rfl, (HHS.out.row HT2s.out _).st, HHS.out.nz, HSM.out.1, ⟨by have := HSM.out; omega, by have := HSM.out; omega, by have := HSM.out; omega⟩, HDS.out.row _ HR.out, HMS.out.row _ (by omega)⟩
end
end Go.Proofs.Ytdlkokdhbffhpaa

namespace Go.Proofs.Ytdlkokdhbffhpaa
open Go.RowKit
set_option linter.unusedVariables false

set_option maxRecDepth 4000 in
set_option maxHeartbeats 2000000 in
theorem sameFiles_any (v u : Value) (L M : List Fl) (w : World) (h : RdF w v L) (h' : RdF w u M) :
    Calls Try.prog 27 #[v, u] w fun e w' => e = .returned (.bool (sameF L M)) ∧ Below w.heap.size w w' := by
  obtain ⟨a, cap, rfl, hlc, hcm, hc⟩ := h
  obtain ⟨a', cap', rfl, hlc', hcm', hc'⟩ := h'
  obtain ⟨n, hn⟩ : ∃ n, n = L.length := ⟨_, rfl⟩
  obtain ⟨m, hm⟩ : ∃ m, m = M.length := ⟨_, rfl⟩
  have HN : Hid (n = L.length) := hn
  have HM : Hid (m = M.length) := hm
  rw [← hn] at hlc hc ⊢
  rw [← hm] at hlc' hc' ⊢
  clear hn hm
  by_cases hnm : n = m
  · subst hnm
    have hbn : ((n : Int) != (n : Int)) = false := by simp
    go_enter Try.func27, Try.ntmps27
    go_wp2
    go_loopw [5] (fun i wr => ∃ (k : Nat), k ≤ n ∧ i = .int .i64 k ∧ Hid ((∀ j, j < k → flEq (L.getD j flZ) (M.getD j flZ) = true) ∧ Below w.heap.size w wr)) (fun i _ => n - (intOf i).toNat)
    case atStart => exact ⟨0, Nat.zero_le _, rfl, (fun j hj => absurd hj (Nat.not_lt_zero _)), Below.refl _ _⟩
    case round =>
      obtain ⟨k, hk, rfl, HI⟩ := hrel
      by_cases hlt : k < n
      · have hltI : (k : Int) < (n : Int) := by omega
        obtain ⟨b, off, rfl, hbs, hl⟩ := hc (by omega)
        obtain ⟨b', off', rfl, hbs', hl'⟩ := hc' (by omega)
        have hkL : k < L.length := by rw [← HN.out]; exact hlt
        have hat := hl k hkL
        have hat' := hl' k (by rw [← HM.out]; exact hlt)
        have d0 := (HI.out.2.cell (p := ⟨b, off + k * 2, none⟩) hbs).trans hat.c0
        have d1 := (HI.out.2.cell (p := ⟨b, off + k * 2 + 1, none⟩) hbs).trans hat.c1
        have e0 := (HI.out.2.cell (p := ⟨b', off' + k * 2, none⟩) hbs').trans hat'.c0
        have e1 := (HI.out.2.cell (p := ⟨b', off' + k * 2 + 1, none⟩) hbs').trans hat'.c1
        obtain ⟨f, hf⟩ : ∃ f, f = L.getD k flZ := ⟨_, rfl⟩
        obtain ⟨g, hg⟩ : ∃ g, g = M.getD k flZ := ⟨_, rfl⟩
        rw [← hf] at d0 d1
        rw [← hg] at e0 e1
        have HFG : Hid (f = L.getD k flZ ∧ g = M.getD k flZ) := ⟨hf, hg⟩
        clear hl hl' hc hc' hf hg hat hat'
        cases hq : flEq f g with
        | true =>
          have hq' := hq
          unfold flEq at hq'
          simp only [Bool.and_eq_true] at hq'
          obtain ⟨q1, q2⟩ := hq'
          have HJ : Hid (∀ j, j < k + 1 → flEq (L.getD j flZ) (M.getD j flZ) = true) := fun j hj => by
            rcases Nat.lt_succ_iff_lt_or_eq.1 hj with h | rfl
            · exact HI.out.1 j h
            · rw [← HFG.out.1, ← HFG.out.2]; exact hq
          have HB := (show Hid _ from HI.out.2)
          clear hq
          go_wp2
          go_quiet (fail)
          go_wp2
          go_roundw
          case rel => exact ⟨k + 1, by omega, by go_num, HJ.out, below_drewN HB.out _⟩
          case measure => simp [intOf]; omega
        | false =>
          have HR : Hid (sameF L M = false) := sameF_false hkL (by rw [← HFG.out.1, ← HFG.out.2]; exact hq)
          have HB := (show Hid _ from HI.out.2)
          unfold flEq at hq
          cases q1 : (f.n.toList == g.n.toList) with
          | false =>
            clear hq
            go_wp2
            go_quiet (fail)
            go_wp2
            go_ret
            exact ⟨ret_bool HR.out.symm, below_drewN HB.out _⟩
          | true =>
            rw [q1, Bool.true_and] at hq
            go_wp2
            go_quiet (fail)
            go_wp2
            go_ret
            exact ⟨ret_bool HR.out.symm, below_drewN HB.out _⟩
      · have hke : k = n := by omega
        subst hke
        have HR : Hid (sameF L M = true) := sameF_true (by rw [← HN.out, ← HM.out]) (fun j hj => HI.out.1 j (by rw [HN.out]; exact hj))
        have HB := (show Hid _ from HI.out.2)
        clear hc hc'
        go_wp2
        go_ret
        exact ⟨ret_bool HR.out.symm, HB.out⟩
  · have hbn : ((n : Int) != (m : Int)) = true := by simp; omega
    have HR : Hid (sameF L M = false) := by show _ = _; unfold sameF; rw [decide_eq_false (by rw [← HN.out, ← HM.out]; exact hnm)]; rfl
    clear hc hc'
    go_enter Try.func27, Try.ntmps27
    go_wp2
    go_ret
    exact ⟨ret_bool HR.out.symm, Below.refl _ _⟩

theorem IsU8.below {w w' : World} {a : Option Addr} {len cap : Nat} {Z : Nat → Int} (h : IsU8 w a len cap Z) (hB : Below w.heap.size w w') : IsU8 w' a len cap Z := by
  obtain ⟨h1, h2, h3, h4⟩ := h
  refine ⟨h1, h2, h3, fun hp => ?_⟩
  obtain ⟨b, off, e, hb, hc⟩ := h4 hp
  exact ⟨b, off, e, Nat.lt_of_lt_of_le hb hB.size, fun i hi => (hB.cell (p := ⟨b, off + i, none⟩) hb).trans (hc i hi)⟩

set_option maxRecDepth 4000 in
set_option maxHeartbeats 2000000 in
theorem drawDisk_any {a : Option Addr} {len cap : Nat} {Z : Nat → Int} (W : World) (hU : IsU8 W a len cap Z) (hlen : len ≤ 1048576) :
    Calls Try.prog 30 #[.slice a len cap] W fun e w' => ∃ x y z L S O, e = .returned (.agg #[x, y, z]) ∧ RdD w' x y z L S O ∧ SmallD L S O ∧ (L.length ≤ 1000 ∧ S.length ≤ 1000 ∧ O.length ≤ 1000) ∧ Below W.heap.size W w' := by
  obtain ⟨X, hX⟩ : ∃ X, X = W.alloc (.cells #[.slice none 0 0, .slice none 0 0, .slice none 0 0] 30) := ⟨_, rfl⟩
  have HX := (show Hid _ from hX)
  have HBX : Hid (Below W.heap.size W X) := by rw [hX]; exact (Below.refl _ _).alloc (Nat.le_refl _) _
  have HTX : Hid (At3 X W.heap.size 30 (.slice none 0 0) (.slice none 0 0) (.slice none 0 0)) := by rw [hX]; exact At3.new _ _ _ _ _
  have HUX : Hid (IsU8 X a len cap Z) := hU.below HBX.out
  clear hX hU
  go_enter Try.func30, Try.ntmps30
  go_wp2_with fail
  rw [← HX.out]
  refine (open_any a len cap X).mono ?_
  rintro e w1 ⟨rfl, hD1⟩
  go_wp2_with fail
  refine (disk_any HUX.out w1 hD1 hlen).mono ?_
  rintro e w2 ⟨x, y, z, L, S, O, rfl, hrs, _, hz, hl, hD2, _⟩
  have hr := hrs.rd
  have HB2 : Hid (Below X.heap.size X w2) := hD2.bel
  have HT2 : Hid (At3 w2 W.heap.size 30 (.slice none 0 0) (.slice none 0 0) (.slice none 0 0)) := HTX.out.below HB2.out
  have HRR : Hid (RdD w2 x y z L S O ∧ SmallD L S O ∧ (L.length ≤ 1000 ∧ S.length ≤ 1000 ∧ O.length ≤ 1000)) := ⟨hr, hz, hl⟩
  obtain ⟨b1, d1, b2, d2, b3, d3, ex, ey, ez⟩ := hr.slices
  obtain ⟨m1, hm1⟩ : ∃ m, m = L.length := ⟨_, rfl⟩
  obtain ⟨m2, hm2⟩ : ∃ m, m = S.length := ⟨_, rfl⟩
  obtain ⟨m3, hm3⟩ : ∃ m, m = O.length := ⟨_, rfl⟩
  rw [← hm1] at ex
  rw [← hm2] at ey
  rw [← hm3] at ez
  subst ex ey ez
  obtain ⟨q, hq, hi6, ho6, h16⟩ := row3 b1 b2 b3 m1 d1 m2 d2 m3 d3
  clear hr hz hl hD2 hD1 hm1 hm2 hm3 HX
  go_wp2_with (refine wpList_store_row rfl 30 _ _ rfl W.heap.size q rfl (congrArg Value.agg hq.symm) 30 _ HT2.out hi6 ho6 h16 ?_)
  subst hq
  refine bodyPost_ret (results_cell_row rfl _ _ W.heap.size 30 _ _ _ rfl (setRow_heap _ _ _ _ _ _ HT2.out) Try.underlying30 rfl hi6) rfl ⟨_, _, _, L, S, O, rfl, HRR.out.1.row HT2.out _, HRR.out.2.1, HRR.out.2.2, below_setRow (HBX.out.trans (HB2.out.mono HBX.out.size)) (Nat.le_refl _) _⟩
end Go.Proofs.Ytdlkokdhbffhpaa

namespace Go.Proofs.Ytdlkokdhbffhpaa
open Go.RowKit
set_option linter.unusedVariables false

section
variable {W : World} {a : Option Addr} {len cap R : Nat} {Z : Nat → Int}
set_option maxHeartbeats 400000 in
theorem near13_any (hU : IsU8 W a len cap Z) (w : World) (h : Draw W a len cap R w) :
    Calls Try.prog 85 #[.pointer (some ⟨R, 0, none⟩), .int .i64 1, .int .i64 3] w fun e w' => ∃ x : Int, -9223372036854775808 ≤ x ∧ x ≤ 9223372036854775807 ∧ e = .returned (.int .i64 x) ∧ Draw W a len cap R w' ∧ Mut R w w' := by
  go_enter Try.func85, Try.ntmps85
  go_wp2_with (first
    | (go_at_call 56; refine (below_any hU 8 (by omega) (by omega) _ h).mono ?_; rintro e w' ⟨x, hx0, hx1, rfl, hD, hM⟩)
    | (go_at_call 96; refine (word_any hU _ hD).mono ?_; rintro e w2 ⟨z, rfl, hD', hM'⟩))
  · go_ret
    exact ⟨_, by omega, by omega, rfl, hD, hM⟩
  · go_ret
    exact ⟨_, by omega, by omega, rfl, hD, hM⟩
  · go_ret
    exact ⟨_, (wrap64_range _).1, (wrap64_range _).2, rfl, hD', hM.trans hM'⟩

set_option maxHeartbeats 400000 in
theorem off13_any (hU : IsU8 W a len cap Z) (w : World) (h : Draw W a len cap R w) :
    Calls Try.prog 57 #[.pointer (some ⟨R, 0, none⟩), .int .i64 1, .int .i64 3] w fun e w' => ∃ x : Int, -9223372036854775808 ≤ x ∧ x ≤ 9223372036854775807 ∧ e = .returned (.int .i64 x) ∧ Draw W a len cap R w' ∧ Mut R w w' := by
  go_enter Try.func57, Try.ntmps57
  go_wp2_with (first
    | (go_at_call 82; refine (once_any hU 24 (by omega) (by omega) _ h).mono ?_; rintro e w' ⟨x, rfl, hD, hM⟩)
    | (go_at_call 85; refine (near13_any hU _ hD).mono ?_; rintro e w2 ⟨z, hz0, hz1, rfl, hD', hM'⟩))
  · refine (below_any hU 4 (by omega) (by omega) _ (hD.alloc _)).mono ?_
    rintro e w3 ⟨y, hy0, hy1, rfl, hD3, hM3⟩
    have hc := lit_cells hM3 hD.lt
    have c0 := hc 0
    have c1 := hc 1
    have c2 := hc 2
    have c3 := hc 3
    clear hc
    have hM4 : Hid (Mut R w w3) := (hM.alloc _).trans hM3
    clear hM3
    have hy : y = 0 ∨ y = 1 ∨ y = 2 ∨ y = 3 := by omega
    rcases hy with rfl | rfl | rfl | rfl <;> (go_wp2; go_ret; exact ⟨_, by omega, by omega, rfl, hD3, hM4.out⟩)
  · go_ret
    exact ⟨_, by omega, by omega, rfl, hD', hM.trans hM'⟩

end

theorem q_lssI (ev : Operand → Value) (o : Oper) (w : World) (x y : Operand) (i j : Int) (h : o.op = .binOp .lss 3 x y 3) (hx : ev x = .int .i64 i) (hy : ev y = .int .i64 j) : (execOp ev o).run Try.prog w = .ok (.value (.bool (decide (i < j)))) w := by
  simp [execOp, h, hx, hy]
  go_simp
theorem q_addI (ev : Operand → Value) (o : Oper) (w : World) (x y : Operand) (i j : Int) (h : o.op = .binOp .add 3 x y 3) (hx : ev x = .int .i64 i) (hy : ev y = .int .i64 j) : ∃ z : Int, (execOp ev o).run Try.prog w = .ok (.value (.int .i64 z)) w := by
  refine ⟨IntKind.i64.wrap (i + j), ?_⟩
  simp [execOp, h, hx, hy]
  go_simp
theorem q_lenO (ev : Operand → Value) (o : Oper) (w : World) (x : Operand) (b : Option Addr) (n c : Nat) (h : o.op = .call { callee := .builtin .len, args := #[x], argTypes := #[28] }) (hx : ev x = .slice b n c) : (execOp ev o).run Try.prog w = .ok (.value (.int .i64 (n : Int))) w := by
  simp [execOp, h, resolve, invoke, builtin, hx]
  go_simp
theorem q_pickB (ev : Operand → Value) (o : Oper) (w : World) (x y z : Operand) (c : Bool) (h : o.op = .pick x y z) (hx : ev x = .bool c) : (execOp ev o).run Try.prog w = .ok (.value (if c = true then ev y else ev z)) w := by
  cases c <;> (simp [execOp, h, hx]; try go_simp)
end Go.Proofs.Ytdlkokdhbffhpaa

namespace Go.Proofs.Ytdlkokdhbffhpaa
open Go.RowKit
set_option linter.unusedVariables false

theorem results_cc {fn : Func} {p u : Tmp} {ty tz : TypeId} (h : fn.results = #[.cell p ty, .cell u tz]) (tmps : Array Value) (P : Program) (w : World) :
    (results fn tmps).run P w = ((asAddr (tmps.getD p undef)).run P w).andThen fun a w₁ => ((loadVar ty a).run P w₁).andThen fun v w₂ => ((asAddr (tmps.getD u undef)).run P w₂).andThen fun b w₃ => ((loadVar tz b).run P w₃).andThen fun v' w₄ => .ok (.tuple #[v, v']) w₄ := by
  simp only [results, h]
  simp [Sem.run_bind, Result.andThen]
theorem results_row_row {P : Program} {fn : Func} {p u : Tmp} {ty tz : TypeId} (h : fn.results = #[.cell p ty, .cell u tz]) (tmps : Array Value) (w : World) (g1 g2 : Nat) (t1 t2 : TypeId) (cs1 cs2 : Array Value) (fr1 fr2 : Nat × Nat) (d1 d2 : TypeDesc)
    (hp : tmps.getD p undef = .pointer (some ⟨g1, 0, none⟩)) (hq : tmps.getD u undef = .pointer (some ⟨g2, 0, none⟩)) (hg1 : w.heap[g1]? = some (.cells cs1 t1 fr1)) (hg2 : w.heap[g2]? = some (.cells cs2 t2 fr2))
    (hu1 : P.underlying ty = some d1) (hu2 : P.underlying tz = some d2) (hd1 : (match d1 with | .struct _ | .array _ _ => true | _ => false) = true) (hd2 : (match d2 with | .struct _ | .array _ _ => true | _ => false) = true) (hi1 : (P.info? ty).map (·.size) = some cs1.size) (hi2 : (P.info? tz).map (·.size) = some cs2.size) :
    (results fn tmps).run P w = .ok (.tuple #[.agg cs1, .agg cs2]) w := by
  rw [results_cc h, hp, hq]
  simp [asAddr, run_loadVar_row w g1 t1 ty cs1 fr1 d1 hg1 hu1 hd1 hi1, run_loadVar_row w g2 t2 tz cs2 fr2 d2 hg2 hu2 hd2 hi2, Result.andThen]

theorem q_storeO2 (ev : Operand → Value) (o' : Oper) (w : World) (x y : Operand) (r : Nat) (o : Dop) {p : Array Value} (h : o'.op = .store 41 x y) (hx : ev x = .pointer (some ⟨r, 0, none⟩)) (hy : ev y = .agg #[.int .i64 o.k, .string o.n, .string o.t, .string o.d]) (hp : p.size = 4) (hb : w.heap[r]? = some (.cells p 41 (0, 0))) : ∃ w', (execOp ev o').run Try.prog w = .ok .skip w' ∧ w'.heap[r]? = some (.cells #[.int .i64 o.k, .string o.n, .string o.t, .string o.d] 41 (0, 0)) ∧ (∀ q, q ≠ r → w'.heap[q]? = w.heap[q]?) ∧ w'.heap.size = w.heap.size ∧ w'.os = w.os ∧ w'.tape = w.tape ∧ w'.output = w.output := by
  obtain ⟨v0, v1, v2, v3, rfl⟩ : ∃ v0 v1 v2 v3, p = #[v0, v1, v2, v3] := by
    obtain ⟨l⟩ := p
    match l, hp with
    | [v0, v1, v2, v3], _ => exact ⟨v0, v1, v2, v3, rfl⟩
  have e0 : w.cell? ⟨r, 0, none⟩ = some v0 := cellN hb
  have e1 : w.cell? ⟨r, 1, none⟩ = some v1 := cellN hb
  have e2 : w.cell? ⟨r, 2, none⟩ = some v2 := cellN hb
  have e3 : w.cell? ⟨r, 3, none⟩ = some v3 := cellN hb
  have f0 : w.frozen? ⟨r, 0, none⟩ = false := frozN hb
  have f1 : w.frozen? ⟨r, 1, none⟩ = false := frozN hb
  have f2 : w.frozen? ⟨r, 2, none⟩ = false := frozN hb
  have f3 : w.frozen? ⟨r, 3, none⟩ = false := frozN hb
  refine ⟨(((w.setCell ⟨r, 0, none⟩ (.int .i64 o.k)).setCell ⟨r, 1, none⟩ (.string o.n)).setCell ⟨r, 2, none⟩ (.string o.t)).setCell ⟨r, 3, none⟩ (.string o.d), ?_, ?_, fun q hq => ?_, by simp [World.setCell], rfl, rfl, rfl⟩
  · simp [execOp, h, hx, hy]
    go_simp
  · have b1 : (w.setCell ⟨r, 0, none⟩ (.int .i64 o.k)).heap[r]? = some (.cells #[.int .i64 o.k, v1, v2, v3] 41 (0, 0)) := by rw [heap_setCell_same _ _ _ _ 41 _ hb]; rfl
    have b2 : ((w.setCell ⟨r, 0, none⟩ (.int .i64 o.k)).setCell ⟨r, 1, none⟩ (.string o.n)).heap[r]? = some (.cells #[.int .i64 o.k, .string o.n, v2, v3] 41 (0, 0)) := by rw [heap_setCell_same _ _ _ _ 41 _ b1]; rfl
    have b3 : (((w.setCell ⟨r, 0, none⟩ (.int .i64 o.k)).setCell ⟨r, 1, none⟩ (.string o.n)).setCell ⟨r, 2, none⟩ (.string o.t)).heap[r]? = some (.cells #[.int .i64 o.k, .string o.n, .string o.t, v3] 41 (0, 0)) := by rw [heap_setCell_same _ _ _ _ 41 _ b2]; rfl
    rw [heap_setCell_same _ _ _ _ 41 _ b3]
    rfl
  · rw [Below.heap_setCell _ _ _ _ hq, Below.heap_setCell _ _ _ _ hq, Below.heap_setCell _ _ _ _ hq, Below.heap_setCell _ _ _ _ hq]
theorem wpOp_storeO2 {ops : Array Oper} {Q : Exit → Act → World → Prop} {i' : Nat} {o' : Oper} {K : Act → World → Prop} {t : Act} {w : World} (ho : ops[i']? = some o') (hg : Region.wanted o' (yielded ops t.tmps) = true) (x y : Operand) (r : Nat) (o : Dop) {p : Array Value} (h : o'.op = .store 41 x y) (hx : t.eval x = .pointer (some ⟨r, 0, none⟩)) (hy : t.eval y = .agg #[.int .i64 o.k, .string o.n, .string o.t, .string o.d]) (hp : p.size = 4) (hb : w.heap[r]? = some (.cells p 41 (0, 0)))
    (hK : ∀ w', w'.heap[r]? = some (.cells #[.int .i64 o.k, .string o.n, .string o.t, .string o.d] 41 (0, 0)) → (∀ q, q ≠ r → w'.heap[q]? = w.heap[q]?) → w'.heap.size = w.heap.size → w'.os = w.os → w'.tape = w.tape → w'.output = w.output → K (t.put o'.dst undef) w') : wpOp Try.prog ops Q i' K t w := by
  obtain ⟨w', hr, h1, h2, h3, h4, h5, h6⟩ := q_storeO2 t.eval o' w x y r o h hx hy hp hb
  exact wpOp_runS ho hg hr (hK w' h1 h2 h3 h4 h5 h6)

def dsE : List Nat := [53, 54, 50, 51]
def slotE (j : Nat) : Nat := dsE.getD j 0
theorem slotE_inj (i j : Nat) (hi : i < 4) (hj : j < 4) (q : slotE i = slotE j) : i = j := by
  have h : ∀ i : Fin 4, ∀ j : Fin 4, slotE i.val = slotE j.val → i.val = j.val := by decide
  exact h ⟨i, hi⟩ ⟨j, hj⟩ q
theorem slotE_mem (i : Nat) (hi : i < 4) : slotE i ∈ dsE := by
  have h : ∀ i : Fin 4, slotE i.val ∈ dsE := by decide
  exact h ⟨i, hi⟩
def EF (b : Nat) (V : Value) (cs : Array Value) (o : Dop) : Nat → (Nat → Value) → World → Prop
  | 0, f, _ => f 53 = V
  | 1, f, _ => f 54 = .agg #[.int .i64 o.k, .string o.n, .string o.t, .string o.d]
  | 2, _, w => w.heap[b]? = some (.cells cs 30 (0, 0))
  | 3, _, w => w.heap[b + 1]? = some (.cells #[.int .i64 o.k, .string o.n, .string o.t, .string o.d] 41 (0, 0))
  | _, _, _ => True
def depE (j i : Nat) : Bool := match j with
  | 0 => i == 0
  | 1 => i == 1
  | 2 => i == 2
  | 3 => i == 3
  | _ => false
theorem EF.dep {b : Nat} {V : Value} {cs : Array Value} {o : Dop} {j : Nat} {f f' : Nat → Value} {w : World} (hj : j < 4) (h : EF b V cs o j f w) (he : ∀ i, depE j i = true → f (slotE i) = f' (slotE i)) : EF b V cs o j f' w := by
  match j, hj, h, he with
  | 0, _, h, he =>
    have e0 : f 53 = f' 53 := he 0 rfl
    simp only [EF] at h ⊢
    rw [← e0]
    exact h
  | 1, _, h, he =>
    have e0 : f 54 = f' 54 := he 1 rfl
    simp only [EF] at h ⊢
    rw [← e0]
    exact h
  | 2, _, h, _ => exact h
  | 3, _, h, _ => exact h
  | (m + 4), hj, _, _ => exact absurd hj (by omega)
/-- a store into one of the two blocks keeps the other facts -/
theorem EF.put {b : Nat} {V : Value} {cs : Array Value} {o : Dop} {i j : Nat} {f : Nat → Value} {w w' : World} (hne : j ≠ i) {r : Nat} (hr : (i = 2 ∧ r = b) ∨ (i = 3 ∧ r = b + 1)) (hk : ∀ k, k ≠ r → w'.heap[k]? = w.heap[k]?) (h : EF b V cs o j f w) : EF b V cs o j f w' := by
  match j, h with
  | 0, h => exact h
  | 1, h => exact h
  | 2, h => exact (hk b (by omega)).trans h
  | 3, h => exact (hk (b + 1) (by omega)).trans h
  | (m + 4), _ => exact trivial
/-- what holds of all worlds of the region -/
def EG (W wz : World) (w : World) : Prop := Below W.heap.size W w ∧ (∀ k, k ≠ W.heap.size → k ≠ W.heap.size + 1 → w.heap[k]? = wz.heap[k]?) ∧ wz.heap.size ≤ w.heap.size ∧ (∃ p, p.size = 3 ∧ w.heap[W.heap.size]? = some (.cells p 30 (0, 0))) ∧ (∃ p, p.size = 4 ∧ w.heap[W.heap.size + 1]? = some (.cells p 41 (0, 0)))
theorem EG.put {W wz w w' : World} (h : EG W wz w) {r : Nat} (hr : r = W.heap.size ∨ r = W.heap.size + 1) (hk : ∀ k, k ≠ r → w'.heap[k]? = w.heap[k]?) (hs : w'.heap.size = w.heap.size) (h4 : w'.os = w.os) (h5 : w'.tape = w.tape) (h6 : w'.output = w.output) (h2 : ∃ p, p.size = 3 ∧ w'.heap[W.heap.size]? = some (.cells p 30 (0, 0))) (h3 : ∃ p, p.size = 4 ∧ w'.heap[W.heap.size + 1]? = some (.cells p 41 (0, 0))) : EG W wz w' := by
  obtain ⟨hb, hu, hz, _, _⟩ := h
  exact ⟨⟨h4.trans hb.os, h5.trans hb.tape, h6.trans hb.output, by rw [hs]; exact hb.size, fun k hk' => (hk k (by omega)).trans (hb.block k hk')⟩, fun k k2 k3 => (hk k (by omega)).trans (hu k k2 k3), by rw [hs]; exact hz, h2, h3⟩
end Go.Proofs.Ytdlkokdhbffhpaa

namespace Go.Proofs.Ytdlkokdhbffhpaa
open Go.RowKit
set_option linter.unusedVariables false

def dsH : List Nat := [31, 32, 33, 34, 35, 36, 37, 38, 39, 40, 41]
def slotH (j : Nat) : Nat := dsH.getD j 0
theorem slotH_inj (i j : Nat) (hi : i < 11) (hj : j < 11) (q : slotH i = slotH j) : i = j := by
  have h : ∀ i : Fin 11, ∀ j : Fin 11, slotH i.val = slotH j.val → i.val = j.val := by decide
  exact h ⟨i, hi⟩ ⟨j, hj⟩ q
theorem slotH_mem (i : Nat) (hi : i < 11) : slotH i ∈ dsH := by
  have h : ∀ i : Fin 11, slotH i.val ∈ dsH := by decide
  exact h ⟨i, hi⟩
def HF (R g5 k : Nat) (c3 : Option Addr) (n3 e3 : Nat) (g : Bool) : Nat → Value → World → Prop
  | 0, v, _ => v = .int .i64 (k : Int)
  | 1, v, _ => v = .bool g
  | 2, v, _ => v = .bool g
  | 3, v, _ => match g with | true => v = .pointer (some ⟨g5, 2, none⟩) | false => True
  | 4, v, _ => match g with | true => v = .slice c3 n3 e3 | false => True
  | 5, v, _ => match g with | true => v = .int .i64 (n3 : Int) | false => True
  | 6, v, _ => match g with | true => v = .pointer (some ⟨R, 0, none⟩) | false => True
  | 7, v, _ => match g with | true => ∃ y : Int, v = .int .i64 y | false => True
  | 8, v, _ => match g with | true => ∃ y : Int, v = .int .i64 y | false => True
  | 9, v, _ => match g with | true => ∃ b : Bool, v = .bool b | false => True
  | 10, v, _ => ∃ b : Bool, v = .bool b ∧ (g = false → b = false)
  | _, _, _ => True
theorem HF.any {R g5 k : Nat} {c3 : Option Addr} {n3 e3 : Nat} {g : Bool} {j : Nat} {v : Value} {w w' : World} (h : HF R g5 k c3 n3 e3 g j v w) : HF R g5 k c3 n3 e3 g j v w' := by
  match j, h with
  | 0, h => exact h
  | 1, h => exact h
  | 2, h => exact h
  | 3, h => exact h
  | 4, h => exact h
  | 5, h => exact h
  | 6, h => exact h
  | 7, h => exact h
  | 8, h => exact h
  | 9, h => exact h
  | 10, h => exact h
  | (m + 11), _ => exact trivial
theorem q_addJ (ev : Operand → Value) (o : Oper) (w : World) (x y : Operand) (i j : Int) (h : o.op = .binOp .add 3 x y 3) (hx : ev x = .int .i64 i) (hy : ev y = .int .i64 j) : (execOp ev o).run Try.prog w = .ok (.value (.int .i64 (IntKind.i64.wrap (i + j)))) w := by
  simp [execOp, h, hx, hy]
  go_simp

/-- what is known of a disk and an op that are drawn -/
def DoOk (z : Value) (L S : List Fl) (O : List Dop) (o : Dop) : Prop := NzV z ∧ SmallD L S O ∧ (L.length ≤ 1000 ∧ S.length ≤ 1000 ∧ O.length ≤ 1000) ∧ (o.n.size ≤ 100 ∧ o.t.size ≤ 100 ∧ o.d.size ≤ 100)

set_option maxRecDepth 10000 in
set_option maxHeartbeats 8000000 in
theorem drawDo_any {a : Option Addr} {len cap : Nat} {Z : Nat → Int} (W : World) (hU : IsU8 W a len cap Z) (hlen : len ≤ 1048576) :
    Calls Try.prog 25 #[.slice a len cap] W fun e w' => ∃ x y z L S O, ∃ o : Dop, e = .returned (.tuple #[.agg #[x, y, z], .agg #[.int .i64 o.k, .string o.n, .string o.t, .string o.d]]) ∧ RdD w' x y z L S O ∧ NzV z ∧ SmallD L S O ∧ (L.length ≤ 1000 ∧ S.length ≤ 1000 ∧ O.length ≤ 1000) ∧ (o.n.size ≤ 100 ∧ o.t.size ≤ 100 ∧ o.d.size ≤ 100) ∧ Below W.heap.size W w' := by
  have enb : ∀ args w, (callFunc 56 args).run Try.prog w = .ok (.enter 56 args) w := enters_of Try.func56 (by kernel_rfl) rfl
  have HENB := (show Hid _ from enb)
  clear enb
  obtain ⟨X, hX⟩ : ∃ X, X = (W.alloc (.cells #[.slice none 0 0, .slice none 0 0, .slice none 0 0] 30)).alloc (.cells #[.int .i64 0, .string ⟨#[]⟩, .string ⟨#[]⟩, .string ⟨#[]⟩] 41) := ⟨_, rfl⟩
  have HX := (show Hid _ from hX)
  have HBX : Hid (Below W.heap.size W X) := by rw [hX]; exact ((Below.refl _ _).alloc (Nat.le_refl _) _).alloc (by simp) _
  have HXS : Hid (X.heap.size = W.heap.size + 2) := by show _ = _; rw [hX]; simp
  have HT2 : Hid (At3 X W.heap.size 30 (.slice none 0 0) (.slice none 0 0) (.slice none 0 0)) := by show _ = _; rw [hX, Below.heap_alloc _ _ _ (by simp)]; exact heap_alloc_new _ _
  have HT3 : Hid (X.heap[W.heap.size + 1]? = some (.cells #[.int .i64 0, .string ⟨#[]⟩, .string ⟨#[]⟩, .string ⟨#[]⟩] 41 (0, 0))) := by
    show _ = _
    rw [hX]
    have := heap_alloc_new (W.alloc (.cells #[.slice none 0 0, .slice none 0 0, .slice none 0 0] 30)) (.cells #[.int .i64 0, .string ⟨#[]⟩, .string ⟨#[]⟩, .string ⟨#[]⟩] 41)
    simpa using this
  have HUX : Hid (IsU8 X a len cap Z) := hU.below HBX.out
  clear hX hU
  go_enter Try.func25, Try.ntmps25
  go_wp2_with fail
  rw [← HX.out]
  refine (open_any a len cap X).mono ?_
  rintro e w1 ⟨rfl, hD1⟩
  obtain ⟨R, hR⟩ : ∃ R, R = X.heap.size := ⟨_, rfl⟩
  rw [← hR] at hD1 ⊢
  have HRX : Hid (R = X.heap.size) := hR
  have HD1 : Hid (Draw X a len cap R w1) := hD1
  clear hR hD1 HX
  go_wp2_with fail
  refine (disk_any HUX.out w1 HD1.out hlen).mono ?_
  rintro e w2 ⟨x, y, z, L, S, O, rfl, hst, hnz, hsm, hl, hD2, hM2⟩
  obtain ⟨c1, e1, c2, e2, c3, e3, ex, ey, ez⟩ := hst.rd.slices
  obtain ⟨n1, hn1⟩ : ∃ m, m = L.length := ⟨_, rfl⟩
  obtain ⟨n2, hn2⟩ : ∃ m, m = S.length := ⟨_, rfl⟩
  obtain ⟨n3, hn3⟩ : ∃ m, m = O.length := ⟨_, rfl⟩
  rw [← hn1] at ex
  rw [← hn2] at ey
  rw [← hn3] at ez
  subst ex ey ez
  clear hn1 hn2 hn3
  obtain ⟨Y2, hY2⟩ : ∃ Y, Y = w2.alloc (.cells #[.slice c1 n1 e1, .slice c2 n2 e2, .slice c3 n3 e3] 30) := ⟨_, rfl⟩
  have HY2 := (show Hid _ from hY2)
  have hB2 : Below w2.heap.size w2 Y2 := by rw [hY2]; exact (Below.refl _ _).alloc (Nat.le_refl _) _
  obtain ⟨lo, hlo⟩ : ∃ lo, lo = w1.heap.size := ⟨_, rfl⟩
  obtain ⟨hi, hhi⟩ : ∃ hi, hi = w2.heap.size := ⟨_, rfl⟩
  obtain ⟨g5, hg5⟩ : ∃ g, g = w2.heap.size := ⟨_, rfl⟩
  have HLOW : Hid (W.heap.size + 1 < R ∧ R < lo ∧ lo ≤ hi ∧ hi ≤ g5) := ⟨by have := HRX.out; have := HXS.out; omega, by rw [hlo]; exact HD1.out.lt, by rw [hlo, hhi]; exact hM2.size, by omega⟩
  have HDY2 : Hid (Draw X a len cap R Y2) := hD2.below hB2
  have HSY2 : Hid (StR lo hi Y2 (.slice c1 n1 e1) (.slice c2 n2 e2) (.slice c3 n3 e3) L S O) := by rw [hlo, hhi]; exact hst.below hB2
  have HEY2 : Hid (At3 Y2 g5 30 (.slice c1 n1 e1) (.slice c2 n2 e2) (.slice c3 n3 e3)) := by rw [hY2, hg5]; exact At3.new _ _ _ _ _
  have HPD : Hid (NzV (.slice c3 n3 e3) ∧ SmallD L S O ∧ (L.length ≤ 1000 ∧ S.length ≤ 1000 ∧ O.length ≤ 1000)) := ⟨hnz, hsm, hl⟩
  have HG5 := (show Hid _ from hg5)
  have HGL : Hid (g5 < Y2.heap.size) := HEY2.out.lt
  clear hst hnz hsm hl hD2 hM2 hY2 hB2 hlo hhi hg5
  go_wp2_with fail
  rw [← HY2.out]
  refine (dop_any HUX.out Y2 HDY2.out).mono ?_
  rintro e w3 ⟨o, hso, rfl, hD3, hM3⟩
  obtain ⟨Y3, hY3⟩ : ∃ Y, Y = w3.alloc (.cells #[.int .i64 o.k, .string o.n, .string o.t, .string o.d] 41) := ⟨_, rfl⟩
  have HY3 := (show Hid _ from hY3)
  have hB3 : Below w3.heap.size w3 Y3 := by rw [hY3]; exact (Below.refl _ _).alloc (Nat.le_refl _) _
  obtain ⟨g6, hg6⟩ : ∃ g, g = w3.heap.size := ⟨_, rfl⟩
  have HG6 := (show Hid _ from hg6)
  have HDY3 : Hid (Draw X a len cap R Y3) := hD3.below hB3
  have HSY3 : Hid (StR lo hi Y3 (.slice c1 n1 e1) (.slice c2 n2 e2) (.slice c3 n3 e3) L S O) := (HSY2.out.mut hM3 HLOW.out.2.1).below hB3
  have HEY3 : Hid (At3 Y3 g5 30 (.slice c1 n1 e1) (.slice c2 n2 e2) (.slice c3 n3 e3)) := (HEY2.out.mut hM3 (by have := HLOW.out; omega)).below hB3
  have HOY3 : Hid (Y3.heap[g6]? = some (.cells #[.int .i64 o.k, .string o.n, .string o.t, .string o.d] 41 (0, 0))) := by show _ = _; rw [hY3, hg6]; exact heap_alloc_new _ _
  have HSO : Hid (o.n.size ≤ 100 ∧ o.t.size ≤ 100 ∧ o.d.size ≤ 100) := hso
  have HGG : Hid (g5 < g6) := by show _ < _; have := HGL.out; have := hM3.size; omega
  clear hso hD3 hM3 hY3 hB3 hg6 HY2
  go_wp2_with fail
  rw [← HY3.out, ← HG6.out, ← HG5.out]
  refine (below_any HUX.out 20 (by omega) (by omega) Y3 HDY3.out).mono ?_
  rintro e w4 ⟨yy, hy0, hy1, rfl, hD4, hM4⟩
  have HD4 : Hid (Draw X a len cap R w4) := hD4
  have HS4 : Hid (StR lo hi w4 (.slice c1 n1 e1) (.slice c2 n2 e2) (.slice c3 n3 e3) L S O) := HSY3.out.mut hM4 HLOW.out.2.1
  have HE4 : Hid (At3 w4 g5 30 (.slice c1 n1 e1) (.slice c2 n2 e2) (.slice c3 n3 e3)) := HEY3.out.mut hM4 (by have := HLOW.out; omega)
  have HO4 : Hid (w4.heap[g6]? = some (.cells #[.int .i64 o.k, .string o.n, .string o.t, .string o.d] 41 (0, 0))) := (hM4.block _ (lt_of_block HOY3.out) (by have := HLOW.out; have := HGG.out; omega)).trans HOY3.out
  have HFIX : Hid (∀ wz, Draw X a len cap R wz → At3 wz W.heap.size 30 (.slice none 0 0) (.slice none 0 0) (.slice none 0 0) ∧ wz.heap[W.heap.size + 1]? = some (.cells #[.int .i64 0, .string ⟨#[]⟩, .string ⟨#[]⟩, .string ⟨#[]⟩] 41 (0, 0)) ∧ Below W.heap.size W wz) := fun wz hz => ⟨HT2.out.below hz.bel, (hz.bel.block _ (by have := HXS.out; omega)).trans HT3.out, HBX.out.trans (hz.bel.mono HBX.out.size)⟩
  have HNE : Hid (g5 ≠ W.heap.size ∧ g5 ≠ W.heap.size + 1 ∧ g6 ≠ W.heap.size ∧ g6 ≠ W.heap.size + 1) := by have := HLOW.out; have := HGG.out; exact ⟨by omega, by omega, by omega, by omega⟩
  have HNR : Hid (g5 ≠ R ∧ g6 ≠ R) := by have := HLOW.out; have := HGG.out; exact ⟨by omega, by omega⟩
  clear hD4 hM4 HY3 HG6 HG5 HSY2 HEY2 HSY3 HEY3 HOY3 HDY2 HDY3 HD1
  by_cases y0 : yy = 0
  · have y0b : (yy == 0) = true := by rw [y0]; rfl
    clear y0
    go_wp2_with fail
    refine (off13_any HUX.out w4 HD4.out).mono ?_
    rintro e w5 ⟨zk, _, _, rfl, hD5, hM5⟩
    have HD5 : Hid (Draw X a len cap R w5) := hD5
    have HS5 : Hid (StR lo hi w5 (.slice c1 n1 e1) (.slice c2 n2 e2) (.slice c3 n3 e3) L S O) := HS4.out.mut hM5 HLOW.out.2.1
    have HE5' : Hid (At3 w5 g5 30 (.slice c1 n1 e1) (.slice c2 n2 e2) (.slice c3 n3 e3)) := HE4.out.mut hM5 HNR.out.1
    have HO5 : Hid (w5.heap[g6]? = some (.cells #[.int .i64 o.k, .string o.n, .string o.t, .string o.d] 41 (0, 0))) := (hM5.block _ (lt_of_block HO4.out) HNR.out.2).trans HO4.out
    clear hD5 hM5
    obtain ⟨op, hop⟩ : ∃ op : Dop, op = ⟨zk, o.n, o.t, o.d⟩ := ⟨_, rfl⟩
    have HOP : Hid (op = ⟨zk, o.n, o.t, o.d⟩) := hop
    have HSP : Hid (op.n.size ≤ 100 ∧ op.t.size ≤ 100 ∧ op.d.size ≤ 100) := by rw [hop]; exact HSO.out
    have k0 : w5.cell? ⟨g6, 0, none⟩ = some (.int .i64 o.k) := cellN HO5.out
    have k1 : w5.cell? ⟨g6, 1, none⟩ = some (.string o.n) := cellN HO5.out
    have k2 : w5.cell? ⟨g6, 2, none⟩ = some (.string o.t) := cellN HO5.out
    have kf : w5.frozen? ⟨g6, 0, none⟩ = false := frozN HO5.out
    clear hop
    go_wp2
    obtain ⟨wz, hwz⟩ : ∃ wz, wz = w5.setCell ⟨g6, 0, none⟩ (.int .i64 zk) := ⟨_, rfl⟩
    rw [← hwz]
    have HE5 : Hid (At3 wz g5 30 (.slice c1 n1 e1) (.slice c2 n2 e2) (.slice c3 n3 e3)) := by rw [hwz]; exact (Below.heap_setCell _ _ _ _ (show g5 ≠ g6 by have := HGG.out; omega)).trans HE5'.out
    have HE6 : Hid (wz.heap[g6]? = some (.cells #[.int .i64 op.k, .string op.n, .string op.t, .string op.d] 41 (0, 0))) := by show _ = _; rw [hwz, HOP.out, heap_setCell_same _ _ _ _ 41 _ HO5.out]; rfl
    have HDZ : Hid (Draw X a len cap R wz) := by rw [hwz]; exact HD5.out.set (show R < g6 by have := HLOW.out; have := HGG.out; omega)
    have HE2 : Hid (At3 wz W.heap.size 30 (.slice none 0 0) (.slice none 0 0) (.slice none 0 0)) := (HFIX.out wz HDZ.out).1
    have HE3 : Hid (wz.heap[W.heap.size + 1]? = some (.cells #[.int .i64 0, .string ⟨#[]⟩, .string ⟨#[]⟩, .string ⟨#[]⟩] 41 (0, 0))) := (HFIX.out wz HDZ.out).2.1
    have HBZ : Hid (Below W.heap.size W wz) := (HFIX.out wz HDZ.out).2.2
    have HST : Hid (StR lo hi wz (.slice c1 n1 e1) (.slice c2 n2 e2) (.slice c3 n3 e3) L S O) := by rw [hwz]; exact HS5.out.kept (by simp [World.setCell]) (fun k h1 h2 => Below.heap_setCell _ _ _ _ (show k ≠ g6 by have := HLOW.out; have := HGG.out; omega))
    have HLO : Hid (W.heap.size + 1 < lo) := by show _ < _; have := HLOW.out; omega
    have HOUT : Hid (NzV (.slice c3 n3 e3) ∧ SmallD L S O ∧ (L.length ≤ 1000 ∧ S.length ≤ 1000 ∧ O.length ≤ 1000) ∧ (op.n.size ≤ 100 ∧ op.t.size ≤ 100 ∧ op.d.size ≤ 100)) := ⟨HPD.out.1, HPD.out.2.1, HPD.out.2.2, HSP.out⟩
    clear hwz
    refine wp_cut_to (fun a0 t w' => ∃ f, t = canon a0 dsE f ∧ (At3 w' W.heap.size 30 (.slice c1 n1 e1) (.slice c2 n2 e2) (.slice c3 n3 e3) ∧ w'.heap[W.heap.size + 1]? = some (.cells #[.int .i64 op.k, .string op.n, .string op.t, .string op.d] 41 (0, 0)) ∧ StR lo hi w' (.slice c1 n1 e1) (.slice c2 n2 e2) (.slice c3 n3 e3) L S O ∧ Below W.heap.size W w')) ?_ ?_
    rotate_left
    · intro J K' hJ hK
      refine wp_letter ?_
      intro fr hfr
      have hsz : 54 < fr.tmps.size := by rw [hfr]; exact Nat.le_of_ble_eq_true rfl
      have t2 : fr.eval (.tmp 2) = .pointer (some ⟨W.heap.size, 0, none⟩) := by rw [hfr]; rfl
      have t3 : fr.eval (.tmp 3) = .pointer (some ⟨W.heap.size + 1, 0, none⟩) := by rw [hfr]; rfl
      have t5 : fr.eval (.tmp 5) = .pointer (some ⟨g5, 0, none⟩) := by rw [hfr]; rfl
      have t6 : fr.eval (.tmp 6) = .pointer (some ⟨g6, 0, none⟩) := by rw [hfr]; rfl
      have HFR := (show Hid _ from hfr)
      clear hfr
      have hlo := HLO.out
      refine wp_region_gen (by kernel_rfl) (by kernel_rfl) dsE slotE (EF W.heap.size (.agg #[.slice c1 n1 e1, .slice c2 n2 e2, .slice c3 n3 e3]) #[.slice c1 n1 e1, .slice c2 n2 e2, .slice c3 n3 e3] op) (EG W wz) ⟨HBZ.out.drew, fun k _ _ => rfl, Nat.le_refl _, ⟨_, rfl, HE2.out⟩, ⟨_, rfl, HE3.out⟩⟩ ?_ ?_ ?_ ?_ ?_
      · intro j f f' wy hj he h
        exact h.dep hj (fun i hi => he i (by revert hi; match j, hj with | 0, _ => (intro hi; simp only [depE, beq_iff_eq] at hi; rcases hi with rfl <;> kernel_rfl) | 1, _ => (intro hi; simp only [depE, beq_iff_eq] at hi; rcases hi with rfl <;> kernel_rfl) | 2, _ => (intro hi; simp only [depE, beq_iff_eq] at hi; rcases hi with rfl <;> kernel_rfl) | 3, _ => (intro hi; simp only [depE, beq_iff_eq] at hi; rcases hi with rfl <;> kernel_rfl)))
      · intro i hi
        exact slotE_mem i hi
      · intro i j hi hj q
        exact slotE_inj i j hi hj q
      · intro ops hops done f wy j oo hG ho hdn hd
        have ho2 := ho
        rw [hops] at ho
        have hj : j < 4 := by
          rcases Nat.lt_or_ge j 4 with h | h
          · exact h
          · rw [Array.getElem?_eq_none (by simpa using h)] at ho; cases ho
        have N2 := (canon_eval_ne fr dsE f 2 (by decide)).trans t2
        have N3 := (canon_eval_ne fr dsE f 3 (by decide)).trans t3
        have N5 := (canon_eval_ne fr dsE f 5 (by decide)).trans t5
        have N6 := (canon_eval_ne fr dsE f 6 (by decide)).trans t6
        have h5 : At3 wy g5 30 (.slice c1 n1 e1) (.slice c2 n2 e2) (.slice c3 n3 e3) := (hG.2.1 g5 HNE.out.1 HNE.out.2.1).trans HE5.out
        have h6 : wy.heap[g6]? = some (.cells #[.int .i64 op.k, .string op.n, .string op.t, .string op.d] 41 (0, 0)) := (hG.2.1 g6 HNE.out.2.2.1 HNE.out.2.2.2).trans HE6.out
        have hj' : j = 0 ∨ j = 1 ∨ j = 2 ∨ j = 3 := by omega
        rcases hj' with rfl | rfl | rfl | rfl <;> simp only [List.getElem?_toArray, List.getElem?_cons_succ, List.getElem?_cons_zero, Option.some.injEq] at ho <;> subst ho
        · refine wpOp_runG ho2 (wanted_none rfl) (q_load31 (canon fr dsE f).eval _ wy _ g5 rfl N5 h5.c0 h5.c1 h5.c2) ?_
          exact ⟨_, rfl, upd_same f 53 _, hG, fun j _ _ h => h⟩
        · refine wpOp_runG ho2 (wanted_none rfl) (q_loadOp (canon fr dsE f).eval _ wy _ g6 op rfl N6 h6) ?_
          exact ⟨_, rfl, upd_same f 54 _, hG, fun j _ _ h => h⟩
        · obtain ⟨p, hp, hb⟩ := hG.2.2.2.1
          refine wpOp_storeD ho2 (wanted_none rfl) _ _ W.heap.size rfl N2 ((canon_eval fr dsE f 53 (by decide) (Nat.lt_of_le_of_lt (by decide) hsz)).trans (hd ⟨0, .data⟩ (by simp) rfl)) hp hb ?_
          intro wv hz1 hz2 hz3 hz4 hz5 hz6
          refine ⟨f 50, (put_same fr dsE f 50 (by decide)).symm, hz1, hG.put (.inl rfl) hz2 hz3 hz4 hz5 hz6 ⟨_, rfl, hz1⟩ (by obtain ⟨p, hp, hb⟩ := hG.2.2.2.2; exact ⟨p, hp, (hz2 _ (by omega)).trans hb⟩), fun j _ hne h => h.put hne (.inl ⟨rfl, rfl⟩) hz2⟩
        · obtain ⟨p, hp, hb⟩ := hG.2.2.2.2
          refine wpOp_storeO2 ho2 (wanted_none rfl) _ _ (W.heap.size + 1) op rfl N3 ((canon_eval fr dsE f 54 (by decide) (Nat.lt_of_le_of_lt (by decide) hsz)).trans (hd ⟨1, .data⟩ (by simp) rfl)) hp hb ?_
          intro wv hz1 hz2 hz3 hz4 hz5 hz6
          refine ⟨f 51, (put_same fr dsE f 51 (by decide)).symm, hz1, hG.put (.inr rfl) hz2 hz3 hz4 hz5 hz6 (by obtain ⟨p, hp, hb⟩ := hG.2.2.2.1; exact ⟨p, hp, (hz2 _ (by omega)).trans hb⟩) ⟨_, rfl, hz1⟩, fun j _ hne h => h.put hne (.inr ⟨rfl, rfl⟩) hz2⟩
      · intro f wy hG hall
        have h2 : At3 wy W.heap.size 30 (.slice c1 n1 e1) (.slice c2 n2 e2) (.slice c3 n3 e3) := hall 2 (by decide)
        have h3 : wy.heap[W.heap.size + 1]? = some (.cells #[.int .i64 op.k, .string op.n, .string op.t, .string op.d] 41 (0, 0)) := hall 3 (by decide)
        exact hK _ _ (Met.intro (hJ _ _ ⟨f, congrArg (fun z => canon z dsE f) HFR.out, h2, h3, HST.out.kept hG.2.2.1 (fun k h1 _ => hG.2.1 k (by omega) (by omega)), hG.1⟩))
    rintro _ wf ⟨f, rfl, h2, h3, hst, hbf⟩
    simp only [canon, dsE, List.foldl, Act.put, List.setIfInBounds_toArray, List.set_cons_succ, List.set_cons_zero]
    have HF2 := (show Hid _ from h2)
    have HF3 := (show Hid _ from h3)
    have HFS : Hid (StR lo hi wf (.slice c1 n1 e1) (.slice c2 n2 e2) (.slice c3 n3 e3) L S O) := hst
    have HFB := (show Hid _ from hbf)
    clear h2 h3 hst hbf
    go_wp2
    refine bodyPost_ret (results_row_row rfl _ _ W.heap.size (W.heap.size + 1) 30 41 _ _ _ _ _ _ rfl rfl HF2.out HF3.out Try.underlying30 Try.underlying41 rfl rfl infoDk infoDp) rfl ⟨_, _, _, L, S, O, op, rfl, HFS.out.rd, HOUT.out.1, HOUT.out.2.1, HOUT.out.2.2.1, HOUT.out.2.2.2, HFB.out⟩
  · have y0b : (yy == 0) = false := by simpa using y0
    by_cases y1 : yy = 1
    · have y1b : (yy == 1) = true := by rw [y1]; rfl
      clear y0 y1
      obtain ⟨op, hop⟩ : ∃ op : Dop, op = ⟨o.k, ⟨#[]⟩, o.t, o.d⟩ := ⟨_, rfl⟩
      have HOP : Hid (op = ⟨o.k, ⟨#[]⟩, o.t, o.d⟩) := hop
      have HSP : Hid (op.n.size ≤ 100 ∧ op.t.size ≤ 100 ∧ op.d.size ≤ 100) := by rw [hop]; exact ⟨Nat.zero_le _, HSO.out.2.1, HSO.out.2.2⟩
      have k0 : w4.cell? ⟨g6, 0, none⟩ = some (.int .i64 o.k) := cellN HO4.out
      have k1 : w4.cell? ⟨g6, 1, none⟩ = some (.string o.n) := cellN HO4.out
      have k2 : w4.cell? ⟨g6, 2, none⟩ = some (.string o.t) := cellN HO4.out
      have kf : w4.frozen? ⟨g6, 1, none⟩ = false := frozN HO4.out
      clear hop
      go_wp2
      obtain ⟨wz, hwz⟩ : ∃ wz, wz = w4.setCell ⟨g6, 1, none⟩ (.string ⟨#[]⟩) := ⟨_, rfl⟩
      rw [← hwz]
      have HE5 : Hid (At3 wz g5 30 (.slice c1 n1 e1) (.slice c2 n2 e2) (.slice c3 n3 e3)) := by rw [hwz]; exact (Below.heap_setCell _ _ _ _ (show g5 ≠ g6 by have := HGG.out; omega)).trans HE4.out
      have HE6 : Hid (wz.heap[g6]? = some (.cells #[.int .i64 op.k, .string op.n, .string op.t, .string op.d] 41 (0, 0))) := by show _ = _; rw [hwz, HOP.out, heap_setCell_same _ _ _ _ 41 _ HO4.out]; rfl
      have HDZ : Hid (Draw X a len cap R wz) := by rw [hwz]; exact HD4.out.set (show R < g6 by have := HLOW.out; have := HGG.out; omega)
      have HE2 : Hid (At3 wz W.heap.size 30 (.slice none 0 0) (.slice none 0 0) (.slice none 0 0)) := (HFIX.out wz HDZ.out).1
      have HE3 : Hid (wz.heap[W.heap.size + 1]? = some (.cells #[.int .i64 0, .string ⟨#[]⟩, .string ⟨#[]⟩, .string ⟨#[]⟩] 41 (0, 0))) := (HFIX.out wz HDZ.out).2.1
      have HBZ : Hid (Below W.heap.size W wz) := (HFIX.out wz HDZ.out).2.2
      have HST : Hid (StR lo hi wz (.slice c1 n1 e1) (.slice c2 n2 e2) (.slice c3 n3 e3) L S O) := by rw [hwz]; exact HS4.out.kept (by simp [World.setCell]) (fun k h1 h2 => Below.heap_setCell _ _ _ _ (show k ≠ g6 by have := HLOW.out; have := HGG.out; omega))
      have HLO : Hid (W.heap.size + 1 < lo) := by show _ < _; have := HLOW.out; omega
      have HOUT : Hid (NzV (.slice c3 n3 e3) ∧ SmallD L S O ∧ (L.length ≤ 1000 ∧ S.length ≤ 1000 ∧ O.length ≤ 1000) ∧ (op.n.size ≤ 100 ∧ op.t.size ≤ 100 ∧ op.d.size ≤ 100)) := ⟨HPD.out.1, HPD.out.2.1, HPD.out.2.2, HSP.out⟩
      clear hwz
      refine wp_cut_to (fun a0 t w' => ∃ f, t = canon a0 dsE f ∧ (At3 w' W.heap.size 30 (.slice c1 n1 e1) (.slice c2 n2 e2) (.slice c3 n3 e3) ∧ w'.heap[W.heap.size + 1]? = some (.cells #[.int .i64 op.k, .string op.n, .string op.t, .string op.d] 41 (0, 0)) ∧ StR lo hi w' (.slice c1 n1 e1) (.slice c2 n2 e2) (.slice c3 n3 e3) L S O ∧ Below W.heap.size W w')) ?_ ?_
      rotate_left
      · intro J K' hJ hK
        refine wp_letter ?_
        intro fr hfr
        have hsz : 54 < fr.tmps.size := by rw [hfr]; exact Nat.le_of_ble_eq_true rfl
        have t2 : fr.eval (.tmp 2) = .pointer (some ⟨W.heap.size, 0, none⟩) := by rw [hfr]; rfl
        have t3 : fr.eval (.tmp 3) = .pointer (some ⟨W.heap.size + 1, 0, none⟩) := by rw [hfr]; rfl
        have t5 : fr.eval (.tmp 5) = .pointer (some ⟨g5, 0, none⟩) := by rw [hfr]; rfl
        have t6 : fr.eval (.tmp 6) = .pointer (some ⟨g6, 0, none⟩) := by rw [hfr]; rfl
        have HFR := (show Hid _ from hfr)
        clear hfr
        have hlo := HLO.out
        refine wp_region_gen (by kernel_rfl) (by kernel_rfl) dsE slotE (EF W.heap.size (.agg #[.slice c1 n1 e1, .slice c2 n2 e2, .slice c3 n3 e3]) #[.slice c1 n1 e1, .slice c2 n2 e2, .slice c3 n3 e3] op) (EG W wz) ⟨HBZ.out.drew, fun k _ _ => rfl, Nat.le_refl _, ⟨_, rfl, HE2.out⟩, ⟨_, rfl, HE3.out⟩⟩ ?_ ?_ ?_ ?_ ?_
        · intro j f f' wy hj he h
          exact h.dep hj (fun i hi => he i (by revert hi; match j, hj with | 0, _ => (intro hi; simp only [depE, beq_iff_eq] at hi; rcases hi with rfl <;> kernel_rfl) | 1, _ => (intro hi; simp only [depE, beq_iff_eq] at hi; rcases hi with rfl <;> kernel_rfl) | 2, _ => (intro hi; simp only [depE, beq_iff_eq] at hi; rcases hi with rfl <;> kernel_rfl) | 3, _ => (intro hi; simp only [depE, beq_iff_eq] at hi; rcases hi with rfl <;> kernel_rfl)))
        · intro i hi
          exact slotE_mem i hi
        · intro i j hi hj q
          exact slotE_inj i j hi hj q
        · intro ops hops done f wy j oo hG ho hdn hd
          have ho2 := ho
          rw [hops] at ho
          have hj : j < 4 := by
            rcases Nat.lt_or_ge j 4 with h | h
            · exact h
            · rw [Array.getElem?_eq_none (by simpa using h)] at ho; cases ho
          have N2 := (canon_eval_ne fr dsE f 2 (by decide)).trans t2
          have N3 := (canon_eval_ne fr dsE f 3 (by decide)).trans t3
          have N5 := (canon_eval_ne fr dsE f 5 (by decide)).trans t5
          have N6 := (canon_eval_ne fr dsE f 6 (by decide)).trans t6
          have h5 : At3 wy g5 30 (.slice c1 n1 e1) (.slice c2 n2 e2) (.slice c3 n3 e3) := (hG.2.1 g5 HNE.out.1 HNE.out.2.1).trans HE5.out
          have h6 : wy.heap[g6]? = some (.cells #[.int .i64 op.k, .string op.n, .string op.t, .string op.d] 41 (0, 0)) := (hG.2.1 g6 HNE.out.2.2.1 HNE.out.2.2.2).trans HE6.out
          have hj' : j = 0 ∨ j = 1 ∨ j = 2 ∨ j = 3 := by omega
          rcases hj' with rfl | rfl | rfl | rfl <;> simp only [List.getElem?_toArray, List.getElem?_cons_succ, List.getElem?_cons_zero, Option.some.injEq] at ho <;> subst ho
          · refine wpOp_runG ho2 (wanted_none rfl) (q_load31 (canon fr dsE f).eval _ wy _ g5 rfl N5 h5.c0 h5.c1 h5.c2) ?_
            exact ⟨_, rfl, upd_same f 53 _, hG, fun j _ _ h => h⟩
          · refine wpOp_runG ho2 (wanted_none rfl) (q_loadOp (canon fr dsE f).eval _ wy _ g6 op rfl N6 h6) ?_
            exact ⟨_, rfl, upd_same f 54 _, hG, fun j _ _ h => h⟩
          · obtain ⟨p, hp, hb⟩ := hG.2.2.2.1
            refine wpOp_storeD ho2 (wanted_none rfl) _ _ W.heap.size rfl N2 ((canon_eval fr dsE f 53 (by decide) (Nat.lt_of_le_of_lt (by decide) hsz)).trans (hd ⟨0, .data⟩ (by simp) rfl)) hp hb ?_
            intro wv hz1 hz2 hz3 hz4 hz5 hz6
            refine ⟨f 50, (put_same fr dsE f 50 (by decide)).symm, hz1, hG.put (.inl rfl) hz2 hz3 hz4 hz5 hz6 ⟨_, rfl, hz1⟩ (by obtain ⟨p, hp, hb⟩ := hG.2.2.2.2; exact ⟨p, hp, (hz2 _ (by omega)).trans hb⟩), fun j _ hne h => h.put hne (.inl ⟨rfl, rfl⟩) hz2⟩
          · obtain ⟨p, hp, hb⟩ := hG.2.2.2.2
            refine wpOp_storeO2 ho2 (wanted_none rfl) _ _ (W.heap.size + 1) op rfl N3 ((canon_eval fr dsE f 54 (by decide) (Nat.lt_of_le_of_lt (by decide) hsz)).trans (hd ⟨1, .data⟩ (by simp) rfl)) hp hb ?_
            intro wv hz1 hz2 hz3 hz4 hz5 hz6
            refine ⟨f 51, (put_same fr dsE f 51 (by decide)).symm, hz1, hG.put (.inr rfl) hz2 hz3 hz4 hz5 hz6 (by obtain ⟨p, hp, hb⟩ := hG.2.2.2.1; exact ⟨p, hp, (hz2 _ (by omega)).trans hb⟩) ⟨_, rfl, hz1⟩, fun j _ hne h => h.put hne (.inr ⟨rfl, rfl⟩) hz2⟩
        · intro f wy hG hall
          have h2 : At3 wy W.heap.size 30 (.slice c1 n1 e1) (.slice c2 n2 e2) (.slice c3 n3 e3) := hall 2 (by decide)
          have h3 : wy.heap[W.heap.size + 1]? = some (.cells #[.int .i64 op.k, .string op.n, .string op.t, .string op.d] 41 (0, 0)) := hall 3 (by decide)
          exact hK _ _ (Met.intro (hJ _ _ ⟨f, congrArg (fun z => canon z dsE f) HFR.out, h2, h3, HST.out.kept hG.2.2.1 (fun k h1 _ => hG.2.1 k (by omega) (by omega)), hG.1⟩))
      rintro _ wf ⟨f, rfl, h2, h3, hst, hbf⟩
      simp only [canon, dsE, List.foldl, Act.put, List.setIfInBounds_toArray, List.set_cons_succ, List.set_cons_zero]
      have HF2 := (show Hid _ from h2)
      have HF3 := (show Hid _ from h3)
      have HFS : Hid (StR lo hi wf (.slice c1 n1 e1) (.slice c2 n2 e2) (.slice c3 n3 e3) L S O) := hst
      have HFB := (show Hid _ from hbf)
      clear h2 h3 hst hbf
      go_wp2
      refine bodyPost_ret (results_row_row rfl _ _ W.heap.size (W.heap.size + 1) 30 41 _ _ _ _ _ _ rfl rfl HF2.out HF3.out Try.underlying30 Try.underlying41 rfl rfl infoDk infoDp) rfl ⟨_, _, _, L, S, O, op, rfl, HFS.out.rd, HOUT.out.1, HOUT.out.2.1, HOUT.out.2.2.1, HOUT.out.2.2.2, HFB.out⟩
    · have y1b : (yy == 1) = false := by simpa using y1
      by_cases y2 : yy = 2
      · have y2b : (yy == 2) = true := by rw [y2]; rfl
        clear y0 y1 y2
        obtain ⟨op, hop⟩ : ∃ op : Dop, op = ⟨o.k, o.n, ⟨#[120]⟩, o.d⟩ := ⟨_, rfl⟩
        have HOP : Hid (op = ⟨o.k, o.n, ⟨#[120]⟩, o.d⟩) := hop
        have HSP : Hid (op.n.size ≤ 100 ∧ op.t.size ≤ 100 ∧ op.d.size ≤ 100) := by rw [hop]; exact ⟨HSO.out.1, (by show (1 : Nat) ≤ 100; omega), HSO.out.2.2⟩
        have k0 : w4.cell? ⟨g6, 0, none⟩ = some (.int .i64 o.k) := cellN HO4.out
        have k1 : w4.cell? ⟨g6, 1, none⟩ = some (.string o.n) := cellN HO4.out
        have k2 : w4.cell? ⟨g6, 2, none⟩ = some (.string o.t) := cellN HO4.out
        have kf : w4.frozen? ⟨g6, 2, none⟩ = false := frozN HO4.out
        clear hop
        go_wp2
        obtain ⟨wz, hwz⟩ : ∃ wz, wz = w4.setCell ⟨g6, 2, none⟩ (.string ⟨#[120]⟩) := ⟨_, rfl⟩
        rw [← hwz]
        have HE5 : Hid (At3 wz g5 30 (.slice c1 n1 e1) (.slice c2 n2 e2) (.slice c3 n3 e3)) := by rw [hwz]; exact (Below.heap_setCell _ _ _ _ (show g5 ≠ g6 by have := HGG.out; omega)).trans HE4.out
        have HE6 : Hid (wz.heap[g6]? = some (.cells #[.int .i64 op.k, .string op.n, .string op.t, .string op.d] 41 (0, 0))) := by show _ = _; rw [hwz, HOP.out, heap_setCell_same _ _ _ _ 41 _ HO4.out]; rfl
        have HDZ : Hid (Draw X a len cap R wz) := by rw [hwz]; exact HD4.out.set (show R < g6 by have := HLOW.out; have := HGG.out; omega)
        have HE2 : Hid (At3 wz W.heap.size 30 (.slice none 0 0) (.slice none 0 0) (.slice none 0 0)) := (HFIX.out wz HDZ.out).1
        have HE3 : Hid (wz.heap[W.heap.size + 1]? = some (.cells #[.int .i64 0, .string ⟨#[]⟩, .string ⟨#[]⟩, .string ⟨#[]⟩] 41 (0, 0))) := (HFIX.out wz HDZ.out).2.1
        have HBZ : Hid (Below W.heap.size W wz) := (HFIX.out wz HDZ.out).2.2
        have HST : Hid (StR lo hi wz (.slice c1 n1 e1) (.slice c2 n2 e2) (.slice c3 n3 e3) L S O) := by rw [hwz]; exact HS4.out.kept (by simp [World.setCell]) (fun k h1 h2 => Below.heap_setCell _ _ _ _ (show k ≠ g6 by have := HLOW.out; have := HGG.out; omega))
        have HLO : Hid (W.heap.size + 1 < lo) := by show _ < _; have := HLOW.out; omega
        have HOUT : Hid (NzV (.slice c3 n3 e3) ∧ SmallD L S O ∧ (L.length ≤ 1000 ∧ S.length ≤ 1000 ∧ O.length ≤ 1000) ∧ (op.n.size ≤ 100 ∧ op.t.size ≤ 100 ∧ op.d.size ≤ 100)) := ⟨HPD.out.1, HPD.out.2.1, HPD.out.2.2, HSP.out⟩
        clear hwz
        refine wp_cut_to (fun a0 t w' => ∃ f, t = canon a0 dsE f ∧ (At3 w' W.heap.size 30 (.slice c1 n1 e1) (.slice c2 n2 e2) (.slice c3 n3 e3) ∧ w'.heap[W.heap.size + 1]? = some (.cells #[.int .i64 op.k, .string op.n, .string op.t, .string op.d] 41 (0, 0)) ∧ StR lo hi w' (.slice c1 n1 e1) (.slice c2 n2 e2) (.slice c3 n3 e3) L S O ∧ Below W.heap.size W w')) ?_ ?_
        rotate_left
        · intro J K' hJ hK
          refine wp_letter ?_
          intro fr hfr
          have hsz : 54 < fr.tmps.size := by rw [hfr]; exact Nat.le_of_ble_eq_true rfl
          have t2 : fr.eval (.tmp 2) = .pointer (some ⟨W.heap.size, 0, none⟩) := by rw [hfr]; rfl
          have t3 : fr.eval (.tmp 3) = .pointer (some ⟨W.heap.size + 1, 0, none⟩) := by rw [hfr]; rfl
          have t5 : fr.eval (.tmp 5) = .pointer (some ⟨g5, 0, none⟩) := by rw [hfr]; rfl
          have t6 : fr.eval (.tmp 6) = .pointer (some ⟨g6, 0, none⟩) := by rw [hfr]; rfl
          have HFR := (show Hid _ from hfr)
          clear hfr
          have hlo := HLO.out
          refine wp_region_gen (by kernel_rfl) (by kernel_rfl) dsE slotE (EF W.heap.size (.agg #[.slice c1 n1 e1, .slice c2 n2 e2, .slice c3 n3 e3]) #[.slice c1 n1 e1, .slice c2 n2 e2, .slice c3 n3 e3] op) (EG W wz) ⟨HBZ.out.drew, fun k _ _ => rfl, Nat.le_refl _, ⟨_, rfl, HE2.out⟩, ⟨_, rfl, HE3.out⟩⟩ ?_ ?_ ?_ ?_ ?_
          · intro j f f' wy hj he h
            exact h.dep hj (fun i hi => he i (by revert hi; match j, hj with | 0, _ => (intro hi; simp only [depE, beq_iff_eq] at hi; rcases hi with rfl <;> kernel_rfl) | 1, _ => (intro hi; simp only [depE, beq_iff_eq] at hi; rcases hi with rfl <;> kernel_rfl) | 2, _ => (intro hi; simp only [depE, beq_iff_eq] at hi; rcases hi with rfl <;> kernel_rfl) | 3, _ => (intro hi; simp only [depE, beq_iff_eq] at hi; rcases hi with rfl <;> kernel_rfl)))
          · intro i hi
            exact slotE_mem i hi
          · intro i j hi hj q
            exact slotE_inj i j hi hj q
          · intro ops hops done f wy j oo hG ho hdn hd
            have ho2 := ho
            rw [hops] at ho
            have hj : j < 4 := by
              rcases Nat.lt_or_ge j 4 with h | h
              · exact h
              · rw [Array.getElem?_eq_none (by simpa using h)] at ho; cases ho
            have N2 := (canon_eval_ne fr dsE f 2 (by decide)).trans t2
            have N3 := (canon_eval_ne fr dsE f 3 (by decide)).trans t3
            have N5 := (canon_eval_ne fr dsE f 5 (by decide)).trans t5
            have N6 := (canon_eval_ne fr dsE f 6 (by decide)).trans t6
            have h5 : At3 wy g5 30 (.slice c1 n1 e1) (.slice c2 n2 e2) (.slice c3 n3 e3) := (hG.2.1 g5 HNE.out.1 HNE.out.2.1).trans HE5.out
            have h6 : wy.heap[g6]? = some (.cells #[.int .i64 op.k, .string op.n, .string op.t, .string op.d] 41 (0, 0)) := (hG.2.1 g6 HNE.out.2.2.1 HNE.out.2.2.2).trans HE6.out
            have hj' : j = 0 ∨ j = 1 ∨ j = 2 ∨ j = 3 := by omega
            rcases hj' with rfl | rfl | rfl | rfl <;> simp only [List.getElem?_toArray, List.getElem?_cons_succ, List.getElem?_cons_zero, Option.some.injEq] at ho <;> subst ho
            · refine wpOp_runG ho2 (wanted_none rfl) (q_load31 (canon fr dsE f).eval _ wy _ g5 rfl N5 h5.c0 h5.c1 h5.c2) ?_
              exact ⟨_, rfl, upd_same f 53 _, hG, fun j _ _ h => h⟩
            · refine wpOp_runG ho2 (wanted_none rfl) (q_loadOp (canon fr dsE f).eval _ wy _ g6 op rfl N6 h6) ?_
              exact ⟨_, rfl, upd_same f 54 _, hG, fun j _ _ h => h⟩
            · obtain ⟨p, hp, hb⟩ := hG.2.2.2.1
              refine wpOp_storeD ho2 (wanted_none rfl) _ _ W.heap.size rfl N2 ((canon_eval fr dsE f 53 (by decide) (Nat.lt_of_le_of_lt (by decide) hsz)).trans (hd ⟨0, .data⟩ (by simp) rfl)) hp hb ?_
              intro wv hz1 hz2 hz3 hz4 hz5 hz6
              refine ⟨f 50, (put_same fr dsE f 50 (by decide)).symm, hz1, hG.put (.inl rfl) hz2 hz3 hz4 hz5 hz6 ⟨_, rfl, hz1⟩ (by obtain ⟨p, hp, hb⟩ := hG.2.2.2.2; exact ⟨p, hp, (hz2 _ (by omega)).trans hb⟩), fun j _ hne h => h.put hne (.inl ⟨rfl, rfl⟩) hz2⟩
            · obtain ⟨p, hp, hb⟩ := hG.2.2.2.2
              refine wpOp_storeO2 ho2 (wanted_none rfl) _ _ (W.heap.size + 1) op rfl N3 ((canon_eval fr dsE f 54 (by decide) (Nat.lt_of_le_of_lt (by decide) hsz)).trans (hd ⟨1, .data⟩ (by simp) rfl)) hp hb ?_
              intro wv hz1 hz2 hz3 hz4 hz5 hz6
              refine ⟨f 51, (put_same fr dsE f 51 (by decide)).symm, hz1, hG.put (.inr rfl) hz2 hz3 hz4 hz5 hz6 (by obtain ⟨p, hp, hb⟩ := hG.2.2.2.1; exact ⟨p, hp, (hz2 _ (by omega)).trans hb⟩) ⟨_, rfl, hz1⟩, fun j _ hne h => h.put hne (.inr ⟨rfl, rfl⟩) hz2⟩
          · intro f wy hG hall
            have h2 : At3 wy W.heap.size 30 (.slice c1 n1 e1) (.slice c2 n2 e2) (.slice c3 n3 e3) := hall 2 (by decide)
            have h3 : wy.heap[W.heap.size + 1]? = some (.cells #[.int .i64 op.k, .string op.n, .string op.t, .string op.d] 41 (0, 0)) := hall 3 (by decide)
            exact hK _ _ (Met.intro (hJ _ _ ⟨f, congrArg (fun z => canon z dsE f) HFR.out, h2, h3, HST.out.kept hG.2.2.1 (fun k h1 _ => hG.2.1 k (by omega) (by omega)), hG.1⟩))
        rintro _ wf ⟨f, rfl, h2, h3, hst, hbf⟩
        simp only [canon, dsE, List.foldl, Act.put, List.setIfInBounds_toArray, List.set_cons_succ, List.set_cons_zero]
        have HF2 := (show Hid _ from h2)
        have HF3 := (show Hid _ from h3)
        have HFS : Hid (StR lo hi wf (.slice c1 n1 e1) (.slice c2 n2 e2) (.slice c3 n3 e3) L S O) := hst
        have HFB := (show Hid _ from hbf)
        clear h2 h3 hst hbf
        go_wp2
        refine bodyPost_ret (results_row_row rfl _ _ W.heap.size (W.heap.size + 1) 30 41 _ _ _ _ _ _ rfl rfl HF2.out HF3.out Try.underlying30 Try.underlying41 rfl rfl infoDk infoDp) rfl ⟨_, _, _, L, S, O, op, rfl, HFS.out.rd, HOUT.out.1, HOUT.out.2.1, HOUT.out.2.2.1, HOUT.out.2.2.2, HFB.out⟩
      · have y2b : (yy == 2) = false := by simpa using y2
        by_cases y3 : yy = 3
        · have y3b : (yy == 3) = true := by rw [y3]; rfl
          clear y0 y1 y2 y3
          go_wp2
          go_loopw [7] (fun i wr => ∃ (k : Nat), k ≤ 200 ∧ i = .int .i64 k ∧ Hid (∃ c1 n1 e1 c2 n2 e2 c3 n3 e3 L S O lo hi, StR lo hi wr (.slice c1 n1 e1) (.slice c2 n2 e2) (.slice c3 n3 e3) L S O ∧ At3 wr g5 30 (.slice c1 n1 e1) (.slice c2 n2 e2) (.slice c3 n3 e3) ∧ wr.heap[g6]? = some (.cells #[.int .i64 o.k, .string o.n, .string o.t, .string o.d] 41 (0, 0)) ∧ (NzV (.slice c3 n3 e3) ∧ SmallD L S O ∧ (L.length ≤ 1000 ∧ S.length ≤ 1000 ∧ O.length ≤ 1000)) ∧ (R < lo ∧ (hi ≤ g5 ∨ g6 < lo)) ∧ Draw X a len cap R wr)) (fun i _ => 200 - (intOf i).toNat)
          case atStart => exact ⟨0, by omega, rfl, _, _, _, _, _, _, _, _, _, L, S, O, lo, hi, HS4.out, HE4.out, HO4.out, HPD.out, ⟨HLOW.out.2.1, .inl HLOW.out.2.2.2⟩, HD4.out⟩
          case round =>
            obtain ⟨k, hk, rfl, HI⟩ := hrel
            have HLOW0 : Hid (W.heap.size + 1 < R ∧ R < g5 ∧ g5 < g6) := ⟨HLOW.out.1, by have := HLOW.out; omega, HGG.out⟩
            clear HPD HS4 HE4 HLOW HD4 HO4
            obtain ⟨c1, n1, e1, c2, n2, e2, c3, n3, e3, L, S, O, lo, hi, hs, he, ho, hpd, hlh, hd⟩ := HI.out
            have HSr : Hid (StR lo hi wr (.slice c1 n1 e1) (.slice c2 n2 e2) (.slice c3 n3 e3) L S O) := hs
            have HE5 : Hid (At3 wr g5 30 (.slice c1 n1 e1) (.slice c2 n2 e2) (.slice c3 n3 e3)) := he
            have HOr : Hid (wr.heap[g6]? = some (.cells #[.int .i64 o.k, .string o.n, .string o.t, .string o.d] 41 (0, 0))) := ho
            have HPD : Hid (NzV (.slice c3 n3 e3) ∧ SmallD L S O ∧ (L.length ≤ 1000 ∧ S.length ≤ 1000 ∧ O.length ≤ 1000)) := hpd
            have HLOW : Hid (W.heap.size + 1 < R ∧ R < lo) := ⟨HLOW0.out.1, hlh.1⟩
            have HLH : Hid (hi ≤ g5 ∨ g6 < lo) := hlh.2
            have HDW : Hid (Draw X a len cap R wr) := hd
            clear HI hs he ho hpd hlh hd
            by_cases hk200 : k < 200
            · have hlt13 : Value.bool (decide ((k : Int) < 200)) = .bool true := congrArg Value.bool (decide_eq_true (by omega))
              go_wp2
              refine wp_cut_to (fun a0 t w' => ∃ f, t = canon a0 dsH f ∧ (∃ bv : Bool, f 41 = .bool bv ∧ (true = false → bv = false) ∧ Mut R wr w' ∧ Draw X a len cap R w')) ?_ ?_
              rotate_left
              · intro J K' hJ hK
                refine wp_letter ?_
                intro fr hfr
                have hsz : 41 < fr.tmps.size := by rw [hfr]; exact Nat.le_of_ble_eq_true rfl
                have t4 : fr.eval (.tmp 4) = .pointer (some ⟨R, 0, none⟩) := by rw [hfr]; rfl
                have t5 : fr.eval (.tmp 5) = .pointer (some ⟨g5, 0, none⟩) := by rw [hfr]; rfl
                have t7 : fr.eval (.tmp 7) = .int .i64 (k : Int) := by rw [hfr]; rfl
                have HFR := (show Hid _ from hfr)
                clear hfr
                have HT5 : ∀ wy, Mut R wr wy → At3 wy g5 30 (.slice c1 n1 e1) (.slice c2 n2 e2) (.slice c3 n3 e3) := fun wy hy => HE5.out.mut hy HNR.out.1
                refine wp_region_rel (Rel := fun v v' => Mut R v v' ∧ (Draw X a len cap R v → Draw X a len cap R v')) (fun v => ⟨Mut.refl _ _, fun h => h⟩) (fun h k => ⟨h.1.trans k.1, fun d => k.2 (h.2 d)⟩) (fun v => ⟨(Mut.refl _ _).drewN 1, fun h => h.drewN 1⟩) (by kernel_rfl) (by kernel_rfl) dsH slotH (HF R g5 k c3 n3 e3 true) (fun _ _ _ _ h _ => h.any) ?_ ?_ ?_ ?_
                · intro i hi
                  exact slotH_mem i hi
                · intro i j hi hj q
                  exact slotH_inj i j hi hj q
                · intro ops hops f wy j oo hy ho hd
                  have ho2 := ho
                  rw [hops] at ho
                  have N4 := (canon_eval_ne fr dsH f 4 (by decide)).trans t4
                  have N5 := (canon_eval_ne fr dsH f 5 (by decide)).trans t5
                  have N7 := (canon_eval_ne fr dsH f 7 (by decide)).trans t7
                  have W2 := wanted_is (a0 := fr) (ds := dsH) (f := f) ho2 2 33 true (by rw [hops]; simp) (by decide) (Nat.lt_of_le_of_lt (by decide) hsz)
                  have hi : j < 11 := by
                    rcases Nat.lt_or_ge j 11 with h | h
                    · exact h
                    · rw [Array.getElem?_eq_none (by simpa using h)] at ho; cases ho
                  have hi' : j = 0 ∨ j = 1 ∨ j = 2 ∨ j = 3 ∨ j = 4 ∨ j = 5 ∨ j = 6 ∨ j = 7 ∨ j = 8 ∨ j = 9 ∨ j = 10 := by omega
                  rcases hi' with rfl | rfl | rfl | rfl | rfl | rfl | rfl | rfl | rfl | rfl | rfl <;> simp only [List.getElem?_toArray, List.getElem?_cons_succ, List.getElem?_cons_zero, Option.some.injEq] at ho <;> subst ho
                  · refine wpOp_runG ho2 (wanted_none rfl) (q_moveD (canon fr dsH f).eval _ wy _ rfl) ?_
                    exact ⟨_, rfl, N7, ⟨Mut.refl _ _, fun h => h⟩⟩
                  · refine wpOp_runG ho2 (wanted_none rfl) (q_lssI (canon fr dsH f).eval _ wy _ _ (k : Int) 200 rfl ((canon_eval fr dsH f 31 (by decide) (Nat.lt_of_le_of_lt (by decide) hsz)).trans (hd ⟨0, .data⟩ (by simp) rfl)) rfl) ?_
                    exact ⟨_, rfl, hlt13, ⟨Mut.refl _ _, fun h => h⟩⟩
                  · refine wpOp_runG ho2 (wanted_none rfl) (q_moveD (canon fr dsH f).eval _ wy _ rfl) ?_
                    exact ⟨_, rfl, ((canon_eval fr dsH f 32 (by decide) (Nat.lt_of_le_of_lt (by decide) hsz)).trans (hd ⟨1, .data⟩ (by simp) rfl)), ⟨Mut.refl _ _, fun h => h⟩⟩
                  · refine wpOp_runG ho2 ((W2 _ true (hd ⟨2, .guard⟩ (by simp) rfl) rfl).trans rfl) (q_fieldK (canon fr dsH f).eval _ wy _ g5 2 rfl N5 (.inr (.inr rfl))) ?_
                    exact ⟨_, rfl, rfl, ⟨Mut.refl _ _, fun h => h⟩⟩
                  · refine wpOp_runG ho2 ((W2 _ true (hd ⟨2, .guard⟩ (by simp) rfl) rfl).trans rfl) (q_loadO (canon fr dsH f).eval _ wy _ g5 2 rfl ((canon_eval fr dsH f 34 (by decide) (Nat.lt_of_le_of_lt (by decide) hsz)).trans (hd ⟨3, .data⟩ (by simp) rfl)) (HT5 wy hy.1).c2) ?_
                    exact ⟨_, rfl, rfl, ⟨Mut.refl _ _, fun h => h⟩⟩
                  · refine wpOp_runG ho2 ((W2 _ true (hd ⟨2, .guard⟩ (by simp) rfl) rfl).trans rfl) (q_lenO (canon fr dsH f).eval _ wy _ c3 n3 e3 rfl ((canon_eval fr dsH f 35 (by decide) (Nat.lt_of_le_of_lt (by decide) hsz)).trans (hd ⟨4, .data⟩ (by simp) rfl))) ?_
                    exact ⟨_, rfl, rfl, ⟨Mut.refl _ _, fun h => h⟩⟩
                  · refine wpOp_runG ho2 ((W2 _ true (hd ⟨2, .guard⟩ (by simp) rfl) rfl).trans rfl) (q_moveD (canon fr dsH f).eval _ wy _ rfl) ?_
                    exact ⟨_, rfl, N4, ⟨Mut.refl _ _, fun h => h⟩⟩
                  · refine wpOp_enterG ho2 ((W2 _ true (hd ⟨2, .guard⟩ (by simp) rfl) rfl).trans rfl) (q_call2 (canon fr dsH f).eval _ wy _ HENB.out _ _ _ rfl rfl) ?_
                    rw [((canon_eval fr dsH f 37 (by decide) (Nat.lt_of_le_of_lt (by decide) hsz)).trans (hd ⟨6, .data⟩ (by simp) rfl))]
                    refine (below_any HUX.out 2 (by omega) (by omega) wy (hy.2 HDW.out)).mono ?_
                    rintro e wv ⟨yv, hy0, hy1, rfl, hDv, hMv⟩
                    exact ⟨_, rfl, _, rfl, ⟨yv, rfl⟩, hMv, fun _ => hDv⟩
                  · obtain ⟨yv, hyv⟩ := (hd ⟨7, .data⟩ (by simp) rfl)
                    refine wpOp_runG ho2 ((W2 _ true (hd ⟨2, .guard⟩ (by simp) rfl) rfl).trans rfl) (q_addJ (canon fr dsH f).eval _ wy _ _ 199 yv rfl rfl ((canon_eval fr dsH f 38 (by decide) (Nat.lt_of_le_of_lt (by decide) hsz)).trans hyv)) ?_
                    exact ⟨_, rfl, ⟨_, rfl⟩, ⟨Mut.refl _ _, fun h => h⟩⟩
                  · obtain ⟨zv, hzv⟩ := (hd ⟨8, .data⟩ (by simp) rfl)
                    refine wpOp_runG ho2 ((W2 _ true (hd ⟨2, .guard⟩ (by simp) rfl) rfl).trans rfl) (q_lssI (canon fr dsH f).eval _ wy _ _ (n3 : Int) zv rfl ((canon_eval fr dsH f 36 (by decide) (Nat.lt_of_le_of_lt (by decide) hsz)).trans (hd ⟨5, .data⟩ (by simp) rfl)) ((canon_eval fr dsH f 39 (by decide) (Nat.lt_of_le_of_lt (by decide) hsz)).trans hzv)) ?_
                    exact ⟨_, rfl, ⟨_, rfl⟩, ⟨Mut.refl _ _, fun h => h⟩⟩
                  · obtain ⟨bv, hbv⟩ := (hd ⟨9, .data⟩ (by simp) rfl)
                    refine wpOp_runG ho2 (wanted_none rfl) (q_pickB (canon fr dsH f).eval _ wy _ _ _ true rfl ((canon_eval fr dsH f 33 (by decide) (Nat.lt_of_le_of_lt (by decide) hsz)).trans (hd ⟨2, .data⟩ (by simp) rfl))) ?_
                    exact ⟨_, rfl, ⟨bv, (if_pos rfl).trans ((canon_eval fr dsH f 40 (by decide) (Nat.lt_of_le_of_lt (by decide) hsz)).trans hbv), fun h => by cases h⟩, ⟨Mut.refl _ _, fun h => h⟩⟩
                · intro f wy hy hall
                  obtain ⟨bv, hbv, hbg⟩ := hall 10 (by decide)
                  exact hK _ _ (Met.intro (hJ _ _ ⟨f, congrArg (fun z => canon z dsH f) HFR.out, bv, hbv, hbg, hy.1, hy.2 HDW.out⟩))
              rintro _ ws ⟨f, rfl, bv, h41, hbg, hMs, hDs⟩
              simp only [canon, dsH, List.foldl, Act.put, List.setIfInBounds_toArray, List.set_cons_succ, List.set_cons_zero]
              rw [h41]
              have HDs : Hid (Draw X a len cap R ws) := hDs
              have HSs : Hid (StR lo hi ws (.slice c1 n1 e1) (.slice c2 n2 e2) (.slice c3 n3 e3) L S O) := HSr.out.mut hMs HLOW.out.2
              have HEs : Hid (At3 ws g5 30 (.slice c1 n1 e1) (.slice c2 n2 e2) (.slice c3 n3 e3)) := HE5.out.mut hMs HNR.out.1
              have HOs : Hid (ws.heap[g6]? = some (.cells #[.int .i64 o.k, .string o.n, .string o.t, .string o.d] 41 (0, 0))) := (hMs.block _ (lt_of_block HOr.out) HNR.out.2).trans HOr.out
              clear hDs hMs HE5 HSr HOr HDW h41
              clear hlt13 hbg
              cases bv with
              | false =>
                go_wp2
                obtain ⟨wz, hwz⟩ : ∃ wz, wz = ws := ⟨_, rfl⟩
                rw [← hwz]
                have HE5 : Hid (At3 wz g5 30 (.slice c1 n1 e1) (.slice c2 n2 e2) (.slice c3 n3 e3)) := by rw [hwz]; exact HEs.out
                have HE6 : Hid (wz.heap[g6]? = some (.cells #[.int .i64 o.k, .string o.n, .string o.t, .string o.d] 41 (0, 0))) := by show _ = _; rw [hwz]; exact HOs.out
                have HDZ : Hid (Draw X a len cap R wz) := by rw [hwz]; exact HDs.out
                have HE2 : Hid (At3 wz W.heap.size 30 (.slice none 0 0) (.slice none 0 0) (.slice none 0 0)) := (HFIX.out wz HDZ.out).1
                have HE3 : Hid (wz.heap[W.heap.size + 1]? = some (.cells #[.int .i64 0, .string ⟨#[]⟩, .string ⟨#[]⟩, .string ⟨#[]⟩] 41 (0, 0))) := (HFIX.out wz HDZ.out).2.1
                have HBZ : Hid (Below W.heap.size W wz) := (HFIX.out wz HDZ.out).2.2
                have HST : Hid (StR lo hi wz (.slice c1 n1 e1) (.slice c2 n2 e2) (.slice c3 n3 e3) L S O) := by rw [hwz]; exact HSs.out
                have HLO : Hid (W.heap.size + 1 < lo) := by show _ < _; have := HLOW.out; omega
                have HOUT : Hid (NzV (.slice c3 n3 e3) ∧ SmallD L S O ∧ (L.length ≤ 1000 ∧ S.length ≤ 1000 ∧ O.length ≤ 1000) ∧ (o.n.size ≤ 100 ∧ o.t.size ≤ 100 ∧ o.d.size ≤ 100)) := ⟨HPD.out.1, HPD.out.2.1, HPD.out.2.2, HSO.out⟩
                clear hwz
                refine wp_cut_to (fun a0 t w' => ∃ f, t = canon a0 dsE f ∧ (At3 w' W.heap.size 30 (.slice c1 n1 e1) (.slice c2 n2 e2) (.slice c3 n3 e3) ∧ w'.heap[W.heap.size + 1]? = some (.cells #[.int .i64 o.k, .string o.n, .string o.t, .string o.d] 41 (0, 0)) ∧ StR lo hi w' (.slice c1 n1 e1) (.slice c2 n2 e2) (.slice c3 n3 e3) L S O ∧ Below W.heap.size W w')) ?_ ?_
                rotate_left
                · intro J K' hJ hK
                  refine wp_letter ?_
                  intro fr hfr
                  have hsz : 54 < fr.tmps.size := by rw [hfr]; exact Nat.le_of_ble_eq_true rfl
                  have t2 : fr.eval (.tmp 2) = .pointer (some ⟨W.heap.size, 0, none⟩) := by rw [hfr]; rfl
                  have t3 : fr.eval (.tmp 3) = .pointer (some ⟨W.heap.size + 1, 0, none⟩) := by rw [hfr]; rfl
                  have t5 : fr.eval (.tmp 5) = .pointer (some ⟨g5, 0, none⟩) := by rw [hfr]; rfl
                  have t6 : fr.eval (.tmp 6) = .pointer (some ⟨g6, 0, none⟩) := by rw [hfr]; rfl
                  have HFR := (show Hid _ from hfr)
                  clear hfr
                  have hlo := HLO.out
                  refine wp_region_gen (by kernel_rfl) (by kernel_rfl) dsE slotE (EF W.heap.size (.agg #[.slice c1 n1 e1, .slice c2 n2 e2, .slice c3 n3 e3]) #[.slice c1 n1 e1, .slice c2 n2 e2, .slice c3 n3 e3] o) (EG W wz) ⟨HBZ.out.drew, fun k _ _ => rfl, Nat.le_refl _, ⟨_, rfl, HE2.out⟩, ⟨_, rfl, HE3.out⟩⟩ ?_ ?_ ?_ ?_ ?_
                  · intro j f f' wy hj he h
                    exact h.dep hj (fun i hi => he i (by revert hi; match j, hj with | 0, _ => (intro hi; simp only [depE, beq_iff_eq] at hi; rcases hi with rfl <;> kernel_rfl) | 1, _ => (intro hi; simp only [depE, beq_iff_eq] at hi; rcases hi with rfl <;> kernel_rfl) | 2, _ => (intro hi; simp only [depE, beq_iff_eq] at hi; rcases hi with rfl <;> kernel_rfl) | 3, _ => (intro hi; simp only [depE, beq_iff_eq] at hi; rcases hi with rfl <;> kernel_rfl)))
                  · intro i hi
                    exact slotE_mem i hi
                  · intro i j hi hj q
                    exact slotE_inj i j hi hj q
                  · intro ops hops done f wy j oo hG ho hdn hd
                    have ho2 := ho
                    rw [hops] at ho
                    have hj : j < 4 := by
                      rcases Nat.lt_or_ge j 4 with h | h
                      · exact h
                      · rw [Array.getElem?_eq_none (by simpa using h)] at ho; cases ho
                    have N2 := (canon_eval_ne fr dsE f 2 (by decide)).trans t2
                    have N3 := (canon_eval_ne fr dsE f 3 (by decide)).trans t3
                    have N5 := (canon_eval_ne fr dsE f 5 (by decide)).trans t5
                    have N6 := (canon_eval_ne fr dsE f 6 (by decide)).trans t6
                    have h5 : At3 wy g5 30 (.slice c1 n1 e1) (.slice c2 n2 e2) (.slice c3 n3 e3) := (hG.2.1 g5 HNE.out.1 HNE.out.2.1).trans HE5.out
                    have h6 : wy.heap[g6]? = some (.cells #[.int .i64 o.k, .string o.n, .string o.t, .string o.d] 41 (0, 0)) := (hG.2.1 g6 HNE.out.2.2.1 HNE.out.2.2.2).trans HE6.out
                    have hj' : j = 0 ∨ j = 1 ∨ j = 2 ∨ j = 3 := by omega
                    rcases hj' with rfl | rfl | rfl | rfl <;> simp only [List.getElem?_toArray, List.getElem?_cons_succ, List.getElem?_cons_zero, Option.some.injEq] at ho <;> subst ho
                    · refine wpOp_runG ho2 (wanted_none rfl) (q_load31 (canon fr dsE f).eval _ wy _ g5 rfl N5 h5.c0 h5.c1 h5.c2) ?_
                      exact ⟨_, rfl, upd_same f 53 _, hG, fun j _ _ h => h⟩
                    · refine wpOp_runG ho2 (wanted_none rfl) (q_loadOp (canon fr dsE f).eval _ wy _ g6 o rfl N6 h6) ?_
                      exact ⟨_, rfl, upd_same f 54 _, hG, fun j _ _ h => h⟩
                    · obtain ⟨p, hp, hb⟩ := hG.2.2.2.1
                      refine wpOp_storeD ho2 (wanted_none rfl) _ _ W.heap.size rfl N2 ((canon_eval fr dsE f 53 (by decide) (Nat.lt_of_le_of_lt (by decide) hsz)).trans (hd ⟨0, .data⟩ (by simp) rfl)) hp hb ?_
                      intro wv hz1 hz2 hz3 hz4 hz5 hz6
                      refine ⟨f 50, (put_same fr dsE f 50 (by decide)).symm, hz1, hG.put (.inl rfl) hz2 hz3 hz4 hz5 hz6 ⟨_, rfl, hz1⟩ (by obtain ⟨p, hp, hb⟩ := hG.2.2.2.2; exact ⟨p, hp, (hz2 _ (by omega)).trans hb⟩), fun j _ hne h => h.put hne (.inl ⟨rfl, rfl⟩) hz2⟩
                    · obtain ⟨p, hp, hb⟩ := hG.2.2.2.2
                      refine wpOp_storeO2 ho2 (wanted_none rfl) _ _ (W.heap.size + 1) o rfl N3 ((canon_eval fr dsE f 54 (by decide) (Nat.lt_of_le_of_lt (by decide) hsz)).trans (hd ⟨1, .data⟩ (by simp) rfl)) hp hb ?_
                      intro wv hz1 hz2 hz3 hz4 hz5 hz6
                      refine ⟨f 51, (put_same fr dsE f 51 (by decide)).symm, hz1, hG.put (.inr rfl) hz2 hz3 hz4 hz5 hz6 (by obtain ⟨p, hp, hb⟩ := hG.2.2.2.1; exact ⟨p, hp, (hz2 _ (by omega)).trans hb⟩) ⟨_, rfl, hz1⟩, fun j _ hne h => h.put hne (.inr ⟨rfl, rfl⟩) hz2⟩
                  · intro f wy hG hall
                    have h2 : At3 wy W.heap.size 30 (.slice c1 n1 e1) (.slice c2 n2 e2) (.slice c3 n3 e3) := hall 2 (by decide)
                    have h3 : wy.heap[W.heap.size + 1]? = some (.cells #[.int .i64 o.k, .string o.n, .string o.t, .string o.d] 41 (0, 0)) := hall 3 (by decide)
                    exact hK _ _ (Met.intro (hJ _ _ ⟨f, congrArg (fun z => canon z dsE f) HFR.out, h2, h3, HST.out.kept hG.2.2.1 (fun k h1 _ => hG.2.1 k (by omega) (by omega)), hG.1⟩))
                rintro _ wf ⟨f, rfl, h2, h3, hst, hbf⟩
                simp only [canon, dsE, List.foldl, Act.put, List.setIfInBounds_toArray, List.set_cons_succ, List.set_cons_zero]
                have HF2 := (show Hid _ from h2)
                have HF3 := (show Hid _ from h3)
                have HFS : Hid (StR lo hi wf (.slice c1 n1 e1) (.slice c2 n2 e2) (.slice c3 n3 e3) L S O) := hst
                have HFB := (show Hid _ from hbf)
                clear h2 h3 hst hbf
                go_wp2
                refine bodyPost_ret (results_row_row rfl _ _ W.heap.size (W.heap.size + 1) 30 41 _ _ _ _ _ _ rfl rfl HF2.out HF3.out Try.underlying30 Try.underlying41 rfl rfl infoDk infoDp) rfl ⟨_, _, _, L, S, O, o, rfl, HFS.out.rd, HOUT.out.1, HOUT.out.2.1, HOUT.out.2.2.1, HOUT.out.2.2.2, HFB.out⟩
              | true =>
                have l0 := HEs.out.c0
                have l1 := HEs.out.c1
                have l2 := HEs.out.c2
                obtain ⟨ob, hob⟩ : ∃ ob : Dop, ob = ⟨1, ⟨#[98]⟩, ⟨#[]⟩, ⟨#[]⟩⟩ := ⟨_, rfl⟩
                have HOB : Hid (ob.n.size ≤ 100000000 ∧ ob.t.size ≤ 100000000 ∧ ob.d.size ≤ 100000000) := by rw [hob]; exact ⟨by show (1 : Nat) ≤ _; omega, Nat.zero_le _, Nat.zero_le _⟩
                have hagg : Value.agg #[.int .i64 1, .string ⟨#[98]⟩, .string ⟨#[]⟩, .string ⟨#[]⟩] = .agg (encO ob) := by rw [hob]; rfl
                have HAGG := (show Hid _ from hagg)
                clear hob hagg
                go_wp2_with fail
                rw [HAGG.out]
                refine (specDo2_any _ _ _ L S O ob ws HSs.out.rd HPD.out.2.1 ⟨by have := HPD.out.2.2; omega, by have := HPD.out.2.2; omega, by have := HPD.out.2.2; omega⟩ HOB.out).mono ?_
                rintro e w6 ⟨x6, y6, z6, rfl, hr6, hx6, hB6⟩
                obtain ⟨a1, f1, a2, f2, a3, f3, ex, ey, ez⟩ := hr6.slices
                obtain ⟨m1, hm1⟩ : ∃ m, m = (dL L S O ob).length := ⟨_, rfl⟩
                obtain ⟨m2, hm2⟩ : ∃ m, m = (dS L S O).length := ⟨_, rfl⟩
                obtain ⟨m3, hm3⟩ : ∃ m, m = (dO L S O ob).length := ⟨_, rfl⟩
                rw [← hm1] at ex
                rw [← hm2] at ey
                rw [← hm3] at ez
                subst ex ey ez
                obtain ⟨C, hC⟩ : ∃ C, C = dC L S O ob := ⟨_, rfl⟩
                rw [← hC]
                obtain ⟨Y6, hY6⟩ : ∃ Y, Y = w6.alloc (.cells #[.slice a1 m1 f1, .slice a2 m2 f2, .slice a3 m3 f3] 30) := ⟨_, rfl⟩
                have HY6 := (show Hid _ from hY6)
                have hBY : Below w6.heap.size w6 Y6 := by rw [hY6]; exact (Below.refl _ _).alloc (Nat.le_refl _) _
                have HBS : Hid (Below ws.heap.size ws Y6) := hB6.trans (hBY.mono hB6.size)
                have HNEW : Hid (C = 0 → StR ws.heap.size w6.heap.size Y6 (.slice a1 m1 f1) (.slice a2 m2 f2) (.slice a3 m3 f3) (dL L S O ob) (dS L S O) (dO L S O ob) ∧ NzV (.slice a3 m3 f3) ∧ SmallD (dL L S O ob) (dS L S O) (dO L S O ob) ∧ ((dL L S O ob).length ≤ 1000 ∧ (dS L S O).length ≤ 1000 ∧ (dO L S O ob).length ≤ 1000)) := fun e => by
                  have e : dC L S O ob = 0 := hC.symm.trans e
                  have hd : diskB L S O = true := by
                    cases h : diskB L S O with
                    | true => rfl
                    | false => rw [(d_no ob h).1] at e; cases e
                  have hsm := small_disk (disk_do hd e)
                  exact ⟨(hx6 e).st.below hBY, (hx6 e).nz, hsm.1, by omega, by omega, by omega⟩
                have HE8 : Hid (At3 Y6 w6.heap.size 30 (.slice a1 m1 f1) (.slice a2 m2 f2) (.slice a3 m3 f3)) := by rw [hY6]; exact At3.new _ _ _ _ _
                have HE56 : Hid (At3 Y6 g5 30 (.slice c1 n1 e1) (.slice c2 n2 e2) (.slice c3 n3 e3)) := HEs.out.below HBS.out
                have HO66 : Hid (Y6.heap[g6]? = some (.cells #[.int .i64 o.k, .string o.n, .string o.t, .string o.d] 41 (0, 0))) := (HBS.out.block _ (lt_of_block HOs.out)).trans HOs.out
                have HD66 : Hid (Draw X a len cap R Y6) := HDs.out.below HBS.out
                have HS66 : Hid (StR lo hi Y6 (.slice c1 n1 e1) (.slice c2 n2 e2) (.slice c3 n3 e3) L S O) := HSs.out.below HBS.out
                have HGS : Hid (g5 < ws.heap.size ∧ g6 < ws.heap.size ∧ R < ws.heap.size) := ⟨HEs.out.lt, lt_of_block HOs.out, HDs.out.lt⟩
                have q0 := HE8.out.c0
                have q1 := HE8.out.c1
                have q2 := HE8.out.c2
                rw [hY6] at q0 q1 q2
                clear hr6 hx6 hB6 hm1 hm2 hm3 hC hY6 hBY l0 l1 l2 HAGG
                by_cases hc : C = 0
                · have hcb : ((C : Int) == 0) = true := by rw [hc]; rfl
                  have HN6 := (show Hid _ from HNEW.out hc)
                  obtain ⟨q, hq, hi6, ho6, h16⟩ := row3 a1 a2 a3 m1 f1 m2 f2 m3 f3
                  have ho7 : (#[Value.slice c1 n1 e1, .slice c2 n2 e2, .slice c3 n3 e3] : Array Value).size = q.size := ho6
                  have HE57 : Hid (At3 (w6.alloc (.cells #[.slice a1 m1 f1, .slice a2 m2 f2, .slice a3 m3 f3] 30)) g5 30 (.slice c1 n1 e1) (.slice c2 n2 e2) (.slice c3 n3 e3)) := by rw [← HY6.out]; exact HE56.out
                  clear hc
                  go_wp2_with (refine wpList_store_row rfl 30 _ _ rfl g5 q rfl (congrArg Value.agg hq.symm) 30 _ HE57.out hi6 ho7 h16 ?_)
                  subst hq
                  rw [← HY6.out]
                  go_roundw
                  case rel => exact ⟨k + 1, by omega, by go_num, _, _, _, _, _, _, _, _, _, _, _, _, ws.heap.size, w6.heap.size, HN6.out.1.kept (by simp [World.setRow]) (fun j h1 _ => setRow_other _ _ _ _ (by have := HGS.out; omega)), setRow_heap _ _ _ _ _ _ HE56.out, (setRow_other _ _ _ _ (by have := HLOW0.out; omega)).trans HO66.out, HN6.out.2, ⟨HGS.out.2.2, .inr HGS.out.2.1⟩, HD66.out.row _ HLOW0.out.2.1⟩
                  case measure => simp [intOf]; omega
                · have hcb : ((C : Int) == 0) = false := by simp; omega
                  clear hc
                  go_wp2
                  rw [← HY6.out]
                  go_roundw
                  case rel => exact ⟨k + 1, by omega, by go_num, _, _, _, _, _, _, _, _, _, L, S, O, lo, hi, HS66.out, HE56.out, HO66.out, HPD.out, ⟨HLOW.out.2, HLH.out⟩, HD66.out⟩
                  case measure => simp [intOf]; omega
            · have hlt13 : Value.bool (decide ((k : Int) < 200)) = .bool false := congrArg Value.bool (decide_eq_false (by omega))
              go_wp2
              refine wp_cut_to (fun a0 t w' => ∃ f, t = canon a0 dsH f ∧ (∃ bv : Bool, f 41 = .bool bv ∧ (false = false → bv = false) ∧ Mut R wr w' ∧ Draw X a len cap R w')) ?_ ?_
              rotate_left
              · intro J K' hJ hK
                refine wp_letter ?_
                intro fr hfr
                have hsz : 41 < fr.tmps.size := by rw [hfr]; exact Nat.le_of_ble_eq_true rfl
                have t4 : fr.eval (.tmp 4) = .pointer (some ⟨R, 0, none⟩) := by rw [hfr]; rfl
                have t5 : fr.eval (.tmp 5) = .pointer (some ⟨g5, 0, none⟩) := by rw [hfr]; rfl
                have t7 : fr.eval (.tmp 7) = .int .i64 (k : Int) := by rw [hfr]; rfl
                have HFR := (show Hid _ from hfr)
                clear hfr
                have HT5 : ∀ wy, Mut R wr wy → At3 wy g5 30 (.slice c1 n1 e1) (.slice c2 n2 e2) (.slice c3 n3 e3) := fun wy hy => HE5.out.mut hy HNR.out.1
                refine wp_region_rel (Rel := fun v v' => Mut R v v' ∧ (Draw X a len cap R v → Draw X a len cap R v')) (fun v => ⟨Mut.refl _ _, fun h => h⟩) (fun h k => ⟨h.1.trans k.1, fun d => k.2 (h.2 d)⟩) (fun v => ⟨(Mut.refl _ _).drewN 1, fun h => h.drewN 1⟩) (by kernel_rfl) (by kernel_rfl) dsH slotH (HF R g5 k c3 n3 e3 false) (fun _ _ _ _ h _ => h.any) ?_ ?_ ?_ ?_
                · intro i hi
                  exact slotH_mem i hi
                · intro i j hi hj q
                  exact slotH_inj i j hi hj q
                · intro ops hops f wy j oo hy ho hd
                  have ho2 := ho
                  rw [hops] at ho
                  have N4 := (canon_eval_ne fr dsH f 4 (by decide)).trans t4
                  have N5 := (canon_eval_ne fr dsH f 5 (by decide)).trans t5
                  have N7 := (canon_eval_ne fr dsH f 7 (by decide)).trans t7
                  have W2 := wanted_is (a0 := fr) (ds := dsH) (f := f) ho2 2 33 true (by rw [hops]; simp) (by decide) (Nat.lt_of_le_of_lt (by decide) hsz)
                  have hi : j < 11 := by
                    rcases Nat.lt_or_ge j 11 with h | h
                    · exact h
                    · rw [Array.getElem?_eq_none (by simpa using h)] at ho; cases ho
                  have hi' : j = 0 ∨ j = 1 ∨ j = 2 ∨ j = 3 ∨ j = 4 ∨ j = 5 ∨ j = 6 ∨ j = 7 ∨ j = 8 ∨ j = 9 ∨ j = 10 := by omega
                  rcases hi' with rfl | rfl | rfl | rfl | rfl | rfl | rfl | rfl | rfl | rfl | rfl <;> simp only [List.getElem?_toArray, List.getElem?_cons_succ, List.getElem?_cons_zero, Option.some.injEq] at ho <;> subst ho
                  · refine wpOp_runG ho2 (wanted_none rfl) (q_moveD (canon fr dsH f).eval _ wy _ rfl) ?_
                    exact ⟨_, rfl, N7, ⟨Mut.refl _ _, fun h => h⟩⟩
                  · refine wpOp_runG ho2 (wanted_none rfl) (q_lssI (canon fr dsH f).eval _ wy _ _ (k : Int) 200 rfl ((canon_eval fr dsH f 31 (by decide) (Nat.lt_of_le_of_lt (by decide) hsz)).trans (hd ⟨0, .data⟩ (by simp) rfl)) rfl) ?_
                    exact ⟨_, rfl, hlt13, ⟨Mut.refl _ _, fun h => h⟩⟩
                  · refine wpOp_runG ho2 (wanted_none rfl) (q_moveD (canon fr dsH f).eval _ wy _ rfl) ?_
                    exact ⟨_, rfl, ((canon_eval fr dsH f 32 (by decide) (Nat.lt_of_le_of_lt (by decide) hsz)).trans (hd ⟨1, .data⟩ (by simp) rfl)), ⟨Mut.refl _ _, fun h => h⟩⟩
                  · refine wpOp_skipG ho2 ((W2 _ false (hd ⟨2, .guard⟩ (by simp) rfl) rfl).trans rfl) ?_
                    exact ⟨undef, rfl, trivial, ⟨Mut.refl _ _, fun h => h⟩⟩
                  · refine wpOp_skipG ho2 ((W2 _ false (hd ⟨2, .guard⟩ (by simp) rfl) rfl).trans rfl) ?_
                    exact ⟨undef, rfl, trivial, ⟨Mut.refl _ _, fun h => h⟩⟩
                  · refine wpOp_skipG ho2 ((W2 _ false (hd ⟨2, .guard⟩ (by simp) rfl) rfl).trans rfl) ?_
                    exact ⟨undef, rfl, trivial, ⟨Mut.refl _ _, fun h => h⟩⟩
                  · refine wpOp_skipG ho2 ((W2 _ false (hd ⟨2, .guard⟩ (by simp) rfl) rfl).trans rfl) ?_
                    exact ⟨undef, rfl, trivial, ⟨Mut.refl _ _, fun h => h⟩⟩
                  · refine wpOp_skipG ho2 ((W2 _ false (hd ⟨2, .guard⟩ (by simp) rfl) rfl).trans rfl) ?_
                    exact ⟨undef, rfl, trivial, ⟨Mut.refl _ _, fun h => h⟩⟩
                  · refine wpOp_skipG ho2 ((W2 _ false (hd ⟨2, .guard⟩ (by simp) rfl) rfl).trans rfl) ?_
                    exact ⟨undef, rfl, trivial, ⟨Mut.refl _ _, fun h => h⟩⟩
                  · refine wpOp_skipG ho2 ((W2 _ false (hd ⟨2, .guard⟩ (by simp) rfl) rfl).trans rfl) ?_
                    exact ⟨undef, rfl, trivial, ⟨Mut.refl _ _, fun h => h⟩⟩
                  · refine wpOp_runG ho2 (wanted_none rfl) (q_pickB (canon fr dsH f).eval _ wy _ _ _ false rfl ((canon_eval fr dsH f 33 (by decide) (Nat.lt_of_le_of_lt (by decide) hsz)).trans (hd ⟨2, .data⟩ (by simp) rfl))) ?_
                    exact ⟨_, rfl, ⟨false, rfl, fun _ => rfl⟩, ⟨Mut.refl _ _, fun h => h⟩⟩
                · intro f wy hy hall
                  obtain ⟨bv, hbv, hbg⟩ := hall 10 (by decide)
                  exact hK _ _ (Met.intro (hJ _ _ ⟨f, congrArg (fun z => canon z dsH f) HFR.out, bv, hbv, hbg, hy.1, hy.2 HDW.out⟩))
              rintro _ ws ⟨f, rfl, bv, h41, hbg, hMs, hDs⟩
              simp only [canon, dsH, List.foldl, Act.put, List.setIfInBounds_toArray, List.set_cons_succ, List.set_cons_zero]
              rw [h41]
              have HDs : Hid (Draw X a len cap R ws) := hDs
              have HSs : Hid (StR lo hi ws (.slice c1 n1 e1) (.slice c2 n2 e2) (.slice c3 n3 e3) L S O) := HSr.out.mut hMs HLOW.out.2
              have HEs : Hid (At3 ws g5 30 (.slice c1 n1 e1) (.slice c2 n2 e2) (.slice c3 n3 e3)) := HE5.out.mut hMs HNR.out.1
              have HOs : Hid (ws.heap[g6]? = some (.cells #[.int .i64 o.k, .string o.n, .string o.t, .string o.d] 41 (0, 0))) := (hMs.block _ (lt_of_block HOr.out) HNR.out.2).trans HOr.out
              clear hDs hMs HE5 HSr HOr HDW h41
              have hbv := hbg rfl
              subst hbv
              clear hlt13 hbg
              go_wp2
              obtain ⟨wz, hwz⟩ : ∃ wz, wz = ws := ⟨_, rfl⟩
              rw [← hwz]
              have HE5 : Hid (At3 wz g5 30 (.slice c1 n1 e1) (.slice c2 n2 e2) (.slice c3 n3 e3)) := by rw [hwz]; exact HEs.out
              have HE6 : Hid (wz.heap[g6]? = some (.cells #[.int .i64 o.k, .string o.n, .string o.t, .string o.d] 41 (0, 0))) := by show _ = _; rw [hwz]; exact HOs.out
              have HDZ : Hid (Draw X a len cap R wz) := by rw [hwz]; exact HDs.out
              have HE2 : Hid (At3 wz W.heap.size 30 (.slice none 0 0) (.slice none 0 0) (.slice none 0 0)) := (HFIX.out wz HDZ.out).1
              have HE3 : Hid (wz.heap[W.heap.size + 1]? = some (.cells #[.int .i64 0, .string ⟨#[]⟩, .string ⟨#[]⟩, .string ⟨#[]⟩] 41 (0, 0))) := (HFIX.out wz HDZ.out).2.1
              have HBZ : Hid (Below W.heap.size W wz) := (HFIX.out wz HDZ.out).2.2
              have HST : Hid (StR lo hi wz (.slice c1 n1 e1) (.slice c2 n2 e2) (.slice c3 n3 e3) L S O) := by rw [hwz]; exact HSs.out
              have HLO : Hid (W.heap.size + 1 < lo) := by show _ < _; have := HLOW.out; omega
              have HOUT : Hid (NzV (.slice c3 n3 e3) ∧ SmallD L S O ∧ (L.length ≤ 1000 ∧ S.length ≤ 1000 ∧ O.length ≤ 1000) ∧ (o.n.size ≤ 100 ∧ o.t.size ≤ 100 ∧ o.d.size ≤ 100)) := ⟨HPD.out.1, HPD.out.2.1, HPD.out.2.2, HSO.out⟩
              clear hwz
              refine wp_cut_to (fun a0 t w' => ∃ f, t = canon a0 dsE f ∧ (At3 w' W.heap.size 30 (.slice c1 n1 e1) (.slice c2 n2 e2) (.slice c3 n3 e3) ∧ w'.heap[W.heap.size + 1]? = some (.cells #[.int .i64 o.k, .string o.n, .string o.t, .string o.d] 41 (0, 0)) ∧ StR lo hi w' (.slice c1 n1 e1) (.slice c2 n2 e2) (.slice c3 n3 e3) L S O ∧ Below W.heap.size W w')) ?_ ?_
              rotate_left
              · intro J K' hJ hK
                refine wp_letter ?_
                intro fr hfr
                have hsz : 54 < fr.tmps.size := by rw [hfr]; exact Nat.le_of_ble_eq_true rfl
                have t2 : fr.eval (.tmp 2) = .pointer (some ⟨W.heap.size, 0, none⟩) := by rw [hfr]; rfl
                have t3 : fr.eval (.tmp 3) = .pointer (some ⟨W.heap.size + 1, 0, none⟩) := by rw [hfr]; rfl
                have t5 : fr.eval (.tmp 5) = .pointer (some ⟨g5, 0, none⟩) := by rw [hfr]; rfl
                have t6 : fr.eval (.tmp 6) = .pointer (some ⟨g6, 0, none⟩) := by rw [hfr]; rfl
                have HFR := (show Hid _ from hfr)
                clear hfr
                have hlo := HLO.out
                refine wp_region_gen (by kernel_rfl) (by kernel_rfl) dsE slotE (EF W.heap.size (.agg #[.slice c1 n1 e1, .slice c2 n2 e2, .slice c3 n3 e3]) #[.slice c1 n1 e1, .slice c2 n2 e2, .slice c3 n3 e3] o) (EG W wz) ⟨HBZ.out.drew, fun k _ _ => rfl, Nat.le_refl _, ⟨_, rfl, HE2.out⟩, ⟨_, rfl, HE3.out⟩⟩ ?_ ?_ ?_ ?_ ?_
                · intro j f f' wy hj he h
                  exact h.dep hj (fun i hi => he i (by revert hi; match j, hj with | 0, _ => (intro hi; simp only [depE, beq_iff_eq] at hi; rcases hi with rfl <;> kernel_rfl) | 1, _ => (intro hi; simp only [depE, beq_iff_eq] at hi; rcases hi with rfl <;> kernel_rfl) | 2, _ => (intro hi; simp only [depE, beq_iff_eq] at hi; rcases hi with rfl <;> kernel_rfl) | 3, _ => (intro hi; simp only [depE, beq_iff_eq] at hi; rcases hi with rfl <;> kernel_rfl)))
                · intro i hi
                  exact slotE_mem i hi
                · intro i j hi hj q
                  exact slotE_inj i j hi hj q
                · intro ops hops done f wy j oo hG ho hdn hd
                  have ho2 := ho
                  rw [hops] at ho
                  have hj : j < 4 := by
                    rcases Nat.lt_or_ge j 4 with h | h
                    · exact h
                    · rw [Array.getElem?_eq_none (by simpa using h)] at ho; cases ho
                  have N2 := (canon_eval_ne fr dsE f 2 (by decide)).trans t2
                  have N3 := (canon_eval_ne fr dsE f 3 (by decide)).trans t3
                  have N5 := (canon_eval_ne fr dsE f 5 (by decide)).trans t5
                  have N6 := (canon_eval_ne fr dsE f 6 (by decide)).trans t6
                  have h5 : At3 wy g5 30 (.slice c1 n1 e1) (.slice c2 n2 e2) (.slice c3 n3 e3) := (hG.2.1 g5 HNE.out.1 HNE.out.2.1).trans HE5.out
                  have h6 : wy.heap[g6]? = some (.cells #[.int .i64 o.k, .string o.n, .string o.t, .string o.d] 41 (0, 0)) := (hG.2.1 g6 HNE.out.2.2.1 HNE.out.2.2.2).trans HE6.out
                  have hj' : j = 0 ∨ j = 1 ∨ j = 2 ∨ j = 3 := by omega
                  rcases hj' with rfl | rfl | rfl | rfl <;> simp only [List.getElem?_toArray, List.getElem?_cons_succ, List.getElem?_cons_zero, Option.some.injEq] at ho <;> subst ho
                  · refine wpOp_runG ho2 (wanted_none rfl) (q_load31 (canon fr dsE f).eval _ wy _ g5 rfl N5 h5.c0 h5.c1 h5.c2) ?_
                    exact ⟨_, rfl, upd_same f 53 _, hG, fun j _ _ h => h⟩
                  · refine wpOp_runG ho2 (wanted_none rfl) (q_loadOp (canon fr dsE f).eval _ wy _ g6 o rfl N6 h6) ?_
                    exact ⟨_, rfl, upd_same f 54 _, hG, fun j _ _ h => h⟩
                  · obtain ⟨p, hp, hb⟩ := hG.2.2.2.1
                    refine wpOp_storeD ho2 (wanted_none rfl) _ _ W.heap.size rfl N2 ((canon_eval fr dsE f 53 (by decide) (Nat.lt_of_le_of_lt (by decide) hsz)).trans (hd ⟨0, .data⟩ (by simp) rfl)) hp hb ?_
                    intro wv hz1 hz2 hz3 hz4 hz5 hz6
                    refine ⟨f 50, (put_same fr dsE f 50 (by decide)).symm, hz1, hG.put (.inl rfl) hz2 hz3 hz4 hz5 hz6 ⟨_, rfl, hz1⟩ (by obtain ⟨p, hp, hb⟩ := hG.2.2.2.2; exact ⟨p, hp, (hz2 _ (by omega)).trans hb⟩), fun j _ hne h => h.put hne (.inl ⟨rfl, rfl⟩) hz2⟩
                  · obtain ⟨p, hp, hb⟩ := hG.2.2.2.2
                    refine wpOp_storeO2 ho2 (wanted_none rfl) _ _ (W.heap.size + 1) o rfl N3 ((canon_eval fr dsE f 54 (by decide) (Nat.lt_of_le_of_lt (by decide) hsz)).trans (hd ⟨1, .data⟩ (by simp) rfl)) hp hb ?_
                    intro wv hz1 hz2 hz3 hz4 hz5 hz6
                    refine ⟨f 51, (put_same fr dsE f 51 (by decide)).symm, hz1, hG.put (.inr rfl) hz2 hz3 hz4 hz5 hz6 (by obtain ⟨p, hp, hb⟩ := hG.2.2.2.1; exact ⟨p, hp, (hz2 _ (by omega)).trans hb⟩) ⟨_, rfl, hz1⟩, fun j _ hne h => h.put hne (.inr ⟨rfl, rfl⟩) hz2⟩
                · intro f wy hG hall
                  have h2 : At3 wy W.heap.size 30 (.slice c1 n1 e1) (.slice c2 n2 e2) (.slice c3 n3 e3) := hall 2 (by decide)
                  have h3 : wy.heap[W.heap.size + 1]? = some (.cells #[.int .i64 o.k, .string o.n, .string o.t, .string o.d] 41 (0, 0)) := hall 3 (by decide)
                  exact hK _ _ (Met.intro (hJ _ _ ⟨f, congrArg (fun z => canon z dsE f) HFR.out, h2, h3, HST.out.kept hG.2.2.1 (fun k h1 _ => hG.2.1 k (by omega) (by omega)), hG.1⟩))
              rintro _ wf ⟨f, rfl, h2, h3, hst, hbf⟩
              simp only [canon, dsE, List.foldl, Act.put, List.setIfInBounds_toArray, List.set_cons_succ, List.set_cons_zero]
              have HF2 := (show Hid _ from h2)
              have HF3 := (show Hid _ from h3)
              have HFS : Hid (StR lo hi wf (.slice c1 n1 e1) (.slice c2 n2 e2) (.slice c3 n3 e3) L S O) := hst
              have HFB := (show Hid _ from hbf)
              clear h2 h3 hst hbf
              go_wp2
              refine bodyPost_ret (results_row_row rfl _ _ W.heap.size (W.heap.size + 1) 30 41 _ _ _ _ _ _ rfl rfl HF2.out HF3.out Try.underlying30 Try.underlying41 rfl rfl infoDk infoDp) rfl ⟨_, _, _, L, S, O, o, rfl, HFS.out.rd, HOUT.out.1, HOUT.out.2.1, HOUT.out.2.2.1, HOUT.out.2.2.2, HFB.out⟩
        · have y3b : (yy == 3) = false := by simpa using y3
          clear y0 y1 y2 y3
          go_wp2
          obtain ⟨wz, hwz⟩ : ∃ wz, wz = w4 := ⟨_, rfl⟩
          rw [← hwz]
          have HE5 : Hid (At3 wz g5 30 (.slice c1 n1 e1) (.slice c2 n2 e2) (.slice c3 n3 e3)) := by rw [hwz]; exact HE4.out
          have HE6 : Hid (wz.heap[g6]? = some (.cells #[.int .i64 o.k, .string o.n, .string o.t, .string o.d] 41 (0, 0))) := by show _ = _; rw [hwz]; exact HO4.out
          have HDZ : Hid (Draw X a len cap R wz) := by rw [hwz]; exact HD4.out
          have HE2 : Hid (At3 wz W.heap.size 30 (.slice none 0 0) (.slice none 0 0) (.slice none 0 0)) := (HFIX.out wz HDZ.out).1
          have HE3 : Hid (wz.heap[W.heap.size + 1]? = some (.cells #[.int .i64 0, .string ⟨#[]⟩, .string ⟨#[]⟩, .string ⟨#[]⟩] 41 (0, 0))) := (HFIX.out wz HDZ.out).2.1
          have HBZ : Hid (Below W.heap.size W wz) := (HFIX.out wz HDZ.out).2.2
          have HST : Hid (StR lo hi wz (.slice c1 n1 e1) (.slice c2 n2 e2) (.slice c3 n3 e3) L S O) := by rw [hwz]; exact HS4.out
          have HLO : Hid (W.heap.size + 1 < lo) := by show _ < _; have := HLOW.out; omega
          have HOUT : Hid (NzV (.slice c3 n3 e3) ∧ SmallD L S O ∧ (L.length ≤ 1000 ∧ S.length ≤ 1000 ∧ O.length ≤ 1000) ∧ (o.n.size ≤ 100 ∧ o.t.size ≤ 100 ∧ o.d.size ≤ 100)) := ⟨HPD.out.1, HPD.out.2.1, HPD.out.2.2, HSO.out⟩
          clear hwz
          refine wp_cut_to (fun a0 t w' => ∃ f, t = canon a0 dsE f ∧ (At3 w' W.heap.size 30 (.slice c1 n1 e1) (.slice c2 n2 e2) (.slice c3 n3 e3) ∧ w'.heap[W.heap.size + 1]? = some (.cells #[.int .i64 o.k, .string o.n, .string o.t, .string o.d] 41 (0, 0)) ∧ StR lo hi w' (.slice c1 n1 e1) (.slice c2 n2 e2) (.slice c3 n3 e3) L S O ∧ Below W.heap.size W w')) ?_ ?_
          rotate_left
          · intro J K' hJ hK
            refine wp_letter ?_
            intro fr hfr
            have hsz : 54 < fr.tmps.size := by rw [hfr]; exact Nat.le_of_ble_eq_true rfl
            have t2 : fr.eval (.tmp 2) = .pointer (some ⟨W.heap.size, 0, none⟩) := by rw [hfr]; rfl
            have t3 : fr.eval (.tmp 3) = .pointer (some ⟨W.heap.size + 1, 0, none⟩) := by rw [hfr]; rfl
            have t5 : fr.eval (.tmp 5) = .pointer (some ⟨g5, 0, none⟩) := by rw [hfr]; rfl
            have t6 : fr.eval (.tmp 6) = .pointer (some ⟨g6, 0, none⟩) := by rw [hfr]; rfl
            have HFR := (show Hid _ from hfr)
            clear hfr
            have hlo := HLO.out
            refine wp_region_gen (by kernel_rfl) (by kernel_rfl) dsE slotE (EF W.heap.size (.agg #[.slice c1 n1 e1, .slice c2 n2 e2, .slice c3 n3 e3]) #[.slice c1 n1 e1, .slice c2 n2 e2, .slice c3 n3 e3] o) (EG W wz) ⟨HBZ.out.drew, fun k _ _ => rfl, Nat.le_refl _, ⟨_, rfl, HE2.out⟩, ⟨_, rfl, HE3.out⟩⟩ ?_ ?_ ?_ ?_ ?_
            · intro j f f' wy hj he h
              exact h.dep hj (fun i hi => he i (by revert hi; match j, hj with | 0, _ => (intro hi; simp only [depE, beq_iff_eq] at hi; rcases hi with rfl <;> kernel_rfl) | 1, _ => (intro hi; simp only [depE, beq_iff_eq] at hi; rcases hi with rfl <;> kernel_rfl) | 2, _ => (intro hi; simp only [depE, beq_iff_eq] at hi; rcases hi with rfl <;> kernel_rfl) | 3, _ => (intro hi; simp only [depE, beq_iff_eq] at hi; rcases hi with rfl <;> kernel_rfl)))
            · intro i hi
              exact slotE_mem i hi
            · intro i j hi hj q
              exact slotE_inj i j hi hj q
            · intro ops hops done f wy j oo hG ho hdn hd
              have ho2 := ho
              rw [hops] at ho
              have hj : j < 4 := by
                rcases Nat.lt_or_ge j 4 with h | h
                · exact h
                · rw [Array.getElem?_eq_none (by simpa using h)] at ho; cases ho
              have N2 := (canon_eval_ne fr dsE f 2 (by decide)).trans t2
              have N3 := (canon_eval_ne fr dsE f 3 (by decide)).trans t3
              have N5 := (canon_eval_ne fr dsE f 5 (by decide)).trans t5
              have N6 := (canon_eval_ne fr dsE f 6 (by decide)).trans t6
              have h5 : At3 wy g5 30 (.slice c1 n1 e1) (.slice c2 n2 e2) (.slice c3 n3 e3) := (hG.2.1 g5 HNE.out.1 HNE.out.2.1).trans HE5.out
              have h6 : wy.heap[g6]? = some (.cells #[.int .i64 o.k, .string o.n, .string o.t, .string o.d] 41 (0, 0)) := (hG.2.1 g6 HNE.out.2.2.1 HNE.out.2.2.2).trans HE6.out
              have hj' : j = 0 ∨ j = 1 ∨ j = 2 ∨ j = 3 := by omega
              rcases hj' with rfl | rfl | rfl | rfl <;> simp only [List.getElem?_toArray, List.getElem?_cons_succ, List.getElem?_cons_zero, Option.some.injEq] at ho <;> subst ho
              · refine wpOp_runG ho2 (wanted_none rfl) (q_load31 (canon fr dsE f).eval _ wy _ g5 rfl N5 h5.c0 h5.c1 h5.c2) ?_
                exact ⟨_, rfl, upd_same f 53 _, hG, fun j _ _ h => h⟩
              · refine wpOp_runG ho2 (wanted_none rfl) (q_loadOp (canon fr dsE f).eval _ wy _ g6 o rfl N6 h6) ?_
                exact ⟨_, rfl, upd_same f 54 _, hG, fun j _ _ h => h⟩
              · obtain ⟨p, hp, hb⟩ := hG.2.2.2.1
                refine wpOp_storeD ho2 (wanted_none rfl) _ _ W.heap.size rfl N2 ((canon_eval fr dsE f 53 (by decide) (Nat.lt_of_le_of_lt (by decide) hsz)).trans (hd ⟨0, .data⟩ (by simp) rfl)) hp hb ?_
                intro wv hz1 hz2 hz3 hz4 hz5 hz6
                refine ⟨f 50, (put_same fr dsE f 50 (by decide)).symm, hz1, hG.put (.inl rfl) hz2 hz3 hz4 hz5 hz6 ⟨_, rfl, hz1⟩ (by obtain ⟨p, hp, hb⟩ := hG.2.2.2.2; exact ⟨p, hp, (hz2 _ (by omega)).trans hb⟩), fun j _ hne h => h.put hne (.inl ⟨rfl, rfl⟩) hz2⟩
              · obtain ⟨p, hp, hb⟩ := hG.2.2.2.2
                refine wpOp_storeO2 ho2 (wanted_none rfl) _ _ (W.heap.size + 1) o rfl N3 ((canon_eval fr dsE f 54 (by decide) (Nat.lt_of_le_of_lt (by decide) hsz)).trans (hd ⟨1, .data⟩ (by simp) rfl)) hp hb ?_
                intro wv hz1 hz2 hz3 hz4 hz5 hz6
                refine ⟨f 51, (put_same fr dsE f 51 (by decide)).symm, hz1, hG.put (.inr rfl) hz2 hz3 hz4 hz5 hz6 (by obtain ⟨p, hp, hb⟩ := hG.2.2.2.1; exact ⟨p, hp, (hz2 _ (by omega)).trans hb⟩) ⟨_, rfl, hz1⟩, fun j _ hne h => h.put hne (.inr ⟨rfl, rfl⟩) hz2⟩
            · intro f wy hG hall
              have h2 : At3 wy W.heap.size 30 (.slice c1 n1 e1) (.slice c2 n2 e2) (.slice c3 n3 e3) := hall 2 (by decide)
              have h3 : wy.heap[W.heap.size + 1]? = some (.cells #[.int .i64 o.k, .string o.n, .string o.t, .string o.d] 41 (0, 0)) := hall 3 (by decide)
              exact hK _ _ (Met.intro (hJ _ _ ⟨f, congrArg (fun z => canon z dsE f) HFR.out, h2, h3, HST.out.kept hG.2.2.1 (fun k h1 _ => hG.2.1 k (by omega) (by omega)), hG.1⟩))
          rintro _ wf ⟨f, rfl, h2, h3, hst, hbf⟩
          simp only [canon, dsE, List.foldl, Act.put, List.setIfInBounds_toArray, List.set_cons_succ, List.set_cons_zero]
          have HF2 := (show Hid _ from h2)
          have HF3 := (show Hid _ from h3)
          have HFS : Hid (StR lo hi wf (.slice c1 n1 e1) (.slice c2 n2 e2) (.slice c3 n3 e3) L S O) := hst
          have HFB := (show Hid _ from hbf)
          clear h2 h3 hst hbf
          go_wp2
          refine bodyPost_ret (results_row_row rfl _ _ W.heap.size (W.heap.size + 1) 30 41 _ _ _ _ _ _ rfl rfl HF2.out HF3.out Try.underlying30 Try.underlying41 rfl rfl infoDk infoDp) rfl ⟨_, _, _, L, S, O, o, rfl, HFS.out.rd, HOUT.out.1, HOUT.out.2.1, HOUT.out.2.2.1, HOUT.out.2.2.2, HFB.out⟩
end Go.Proofs.Ytdlkokdhbffhpaa
