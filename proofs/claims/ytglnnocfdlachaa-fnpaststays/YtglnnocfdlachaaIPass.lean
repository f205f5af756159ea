/-
  How the program takes a circle through one epoch. No condition but that the memory reads.
-/
import Derived.Test.YtglnnocfdlachaaICopy
namespace Go.Proofs.Ytglnnocfdlachaa
open Go.RowKit Go.Maps
set_option linter.unusedVariables false

/-- whom the events drop, told by those of A -/
def GoneP (A : Int → Prop) (L : List Ev) (x : Int) : Prop := ∃ k, k < L.length ∧ (L.getD k evZ).c = 2 ∧ A (L.getD k evZ).b ∧ (L.getD k evZ).d = x
/-- whom the first k events add -/
def AddsP (A G : Int → Prop) (L : List Ev) (k : Nat) (x : Int) : Prop := ∃ j, j < k ∧ (L.getD j evZ).c ≠ 2 ∧ (A (L.getD j evZ).b ∧ ¬ G (L.getD j evZ).b) ∧ ¬ G (L.getD j evZ).d ∧ (L.getD j evZ).d = x
/-- whom the first k events raise -/
def RaisesP (A G : Int → Prop) (L : List Ev) (k : Nat) (x : Int) : Prop := ∃ j, j < k ∧ (L.getD j evZ).c = 3 ∧ (A (L.getD j evZ).b ∧ ¬ G (L.getD j evZ).b) ∧ ¬ G (L.getD j evZ).d ∧ (L.getD j evZ).d = x
theorem adds_no {A G : Int → Prop} {L : List Ev} {k : Nat} (x : Int) (h : ¬ ((L.getD k evZ).c ≠ 2 ∧ (A (L.getD k evZ).b ∧ ¬ G (L.getD k evZ).b) ∧ ¬ G (L.getD k evZ).d)) : AddsP A G L (k + 1) x ↔ AddsP A G L k x := by
  constructor
  · rintro ⟨j, hj, h1, h2, h3, h4⟩
    have : j ≠ k := fun e => by subst e; exact h ⟨h1, h2, h3⟩
    exact ⟨j, by omega, h1, h2, h3, h4⟩
  · rintro ⟨j, hj, r⟩; exact ⟨j, by omega, r⟩
theorem adds_yes {A G : Int → Prop} {L : List Ev} {k : Nat} (x : Int) (h : (L.getD k evZ).c ≠ 2 ∧ (A (L.getD k evZ).b ∧ ¬ G (L.getD k evZ).b) ∧ ¬ G (L.getD k evZ).d) : AddsP A G L (k + 1) x ↔ AddsP A G L k x ∨ (L.getD k evZ).d = x := by
  constructor
  · rintro ⟨j, hj, r⟩
    by_cases e : j = k
    · subst e; exact .inr r.2.2.2
    · exact .inl ⟨j, by omega, r⟩
  · rintro (⟨j, hj, r⟩ | e)
    · exact ⟨j, by omega, r⟩
    · exact ⟨k, by omega, h.1, h.2.1, h.2.2, e⟩
theorem raises_no {A G : Int → Prop} {L : List Ev} {k : Nat} (x : Int) (h : ¬ ((L.getD k evZ).c = 3 ∧ (A (L.getD k evZ).b ∧ ¬ G (L.getD k evZ).b) ∧ ¬ G (L.getD k evZ).d)) : RaisesP A G L (k + 1) x ↔ RaisesP A G L k x := by
  constructor
  · rintro ⟨j, hj, h1, h2, h3, h4⟩
    have : j ≠ k := fun e => by subst e; exact h ⟨h1, h2, h3⟩
    exact ⟨j, by omega, h1, h2, h3, h4⟩
  · rintro ⟨j, hj, r⟩; exact ⟨j, by omega, r⟩
theorem raises_yes {A G : Int → Prop} {L : List Ev} {k : Nat} (x : Int) (h : (L.getD k evZ).c = 3 ∧ (A (L.getD k evZ).b ∧ ¬ G (L.getD k evZ).b) ∧ ¬ G (L.getD k evZ).d) : RaisesP A G L (k + 1) x ↔ RaisesP A G L k x ∨ (L.getD k evZ).d = x := by
  constructor
  · rintro ⟨j, hj, r⟩
    by_cases e : j = k
    · subst e; exact .inr r.2.2.2
    · exact .inl ⟨j, by omega, r⟩
  · rintro (⟨j, hj, r⟩ | e)
    · exact ⟨j, by omega, r⟩
    · exact ⟨k, by omega, h.1, h.2.1, h.2.2, e⟩

theorem setI_ne {w : World} {b n C : Nat} {E : DataW Value} {cs : Array Value} {t : TypeId} {fr : Nat × Nat} (h : SetI w b n E) (hC : w.heap[C]? = some (.cells cs t fr)) : C ≠ b := by
  rintro rfl
  obtain ⟨es, clock, hb, _⟩ := h
  rw [hC] at hb
  cases hb
theorem setI_cell {w : World} {b n g k : Nat} {E : DataW Value} {u : Value} (h : SetI w b n E) (hC : w.cell? ⟨g, k, none⟩ = some u) : g ≠ b := by
  rintro rfl
  obtain ⟨es, clock, hb, _⟩ := h
  simp [World.cell?, hb] at hC
theorem mAuthor1 (p q : Int) (w : World) : (method 255 87 (.agg #[.int .i64 p, .int .i64 q]) "loop.example/g00318/impl.author").run Try.prog w = .ok (63, .agg #[.int .i64 p, .int .i64 q]) w := by kernel_rfl
theorem mWho1 (p q : Int) (w : World) : (method 255 87 (.agg #[.int .i64 p, .int .i64 q]) "loop.example/g00318/impl.who").run Try.prog w = .ok (51, .agg #[.int .i64 p, .int .i64 q]) w := by kernel_rfl
theorem mAuthor2 (p q : Int) (w : World) : (method 255 91 (.agg #[.int .i64 p, .int .i64 q]) "loop.example/g00318/impl.author").run Try.prog w = .ok (63, .agg #[.int .i64 p, .int .i64 q]) w := by kernel_rfl
theorem mWho2 (p q : Int) (w : World) : (method 255 91 (.agg #[.int .i64 p, .int .i64 q]) "loop.example/g00318/impl.who").run Try.prog w = .ok (51, .agg #[.int .i64 p, .int .i64 q]) w := by kernel_rfl
theorem mAuthor3 (p q : Int) (w : World) : (method 255 88 (.agg #[.int .i64 p, .int .i64 q]) "loop.example/g00318/impl.author").run Try.prog w = .ok (63, .agg #[.int .i64 p, .int .i64 q]) w := by kernel_rfl
theorem mWho3 (p q : Int) (w : World) : (method 255 88 (.agg #[.int .i64 p, .int .i64 q]) "loop.example/g00318/impl.who").run Try.prog w = .ok (51, .agg #[.int .i64 p, .int .i64 q]) w := by kernel_rfl
theorem below_drewP {w w' : World} (h : Below w.drew.heap.size w.drew w') : Below w.heap.size w w' := ⟨h.os, h.tape, h.output, h.size, h.block⟩
theorem sub_neg {P Q : Prop} (h : Q → P) : (P ∧ ¬ Q) ∨ Q ↔ P := ⟨fun h1 => h1.elim And.left h, fun h1 => (Classical.em Q).elim .inr (fun h2 => .inl ⟨h1, h2⟩)⟩

set_option maxRecDepth 10000 in
set_option maxHeartbeats 8000000 in
theorem pass_any (C bm ba nM nA base : Nat) (EM EA : DataW Value) (v : Value) (L : List Ev) (w : World) (hC : w.heap[C]? = some (.cells #[.map (some bm), .map (some ba)] 65 (0, 0))) (hM : SetI w bm nM EM) (hA : SetI w ba nA EA) (hne : bm ≠ ba) (hv : OwnEv w base v L) (hl : L.length ≤ 30) (hf : ∀ x ∈ L, x.fine = true) (hn : nM ≤ 10000 ∧ nA ≤ 10000) :
    Calls Try.prog 34 #[.pointer (some ⟨C, 0, none⟩), v] w fun r w' => ∃ EM' EA' : DataW Value, r = .returned (.tuple #[]) ∧ SetI w' bm (nM + L.length) EM' ∧ SetI w' ba (nA + L.length) EA' ∧ (∀ x, has EM' (.int .i64 x) = true ↔ (has EM (.int .i64 x) = true ∧ ¬ GoneP (fun z => has EA (.int .i64 z) = true) L x) ∨ AddsP (fun z => has EA (.int .i64 z) = true) (GoneP (fun z => has EA (.int .i64 z) = true) L) L L.length x) ∧ (∀ x, has EA' (.int .i64 x) = true ↔ (has EA (.int .i64 x) = true ∧ ¬ GoneP (fun z => has EA (.int .i64 z) = true) L x) ∨ RaisesP (fun z => has EA (.int .i64 z) = true) (GoneP (fun z => has EA (.int .i64 z) = true) L) L L.length x) ∧ Far bm ba w w' := by
  have hmm := @run_makeMap Try.prog
  have hdr := dropped_any C bm ba nA base EA v L w hC hA hv hl hf
  obtain ⟨a, cap, rfl, hlc, hcm, hcell⟩ := hv.slice
  have HN : Hid (bm ≠ ba ∧ C ≠ bm ∧ C ≠ ba ∧ bm < w.heap.size ∧ ba < w.heap.size ∧ C < w.heap.size ∧ nM ≤ 10000 ∧ nA ≤ 10000) := ⟨hne, setI_ne hM hC, setI_ne hA hC, World.ownsMap.lt hM, World.ownsMap.lt hA, lt_of_block hC, hn.1, hn.2⟩
  have HC : Hid (∀ wr, Far bm ba w wr → wr.heap[C]? = some (.cells #[.map (some bm), .map (some ba)] 65 (0, 0))) := fun wr h => (h.block _ (lt_of_block hC) (setI_ne hM hC) (setI_ne hA hC)).trans hC
  have HV : Hid (∀ wr, Far bm ba w wr → ∀ k, k < L.length → ∃ g, a = some ⟨g, 0, none⟩ ∧ wr.cell? ⟨g, k, none⟩ = some (encEv (L.getD k evZ))) := fun wr h k hk => by
    obtain ⟨g, h1, h2, h3⟩ := hcell k hk
    exact ⟨g, h1, (h.cell (t := ⟨g, k, none⟩) h2 (setI_cell hM h3) (setI_cell hA h3)).trans h3⟩
  have HFi : Hid (∀ x ∈ L, x.fine = true) := hf
  have HM0 : Hid (SetI w bm nM EM) := hM
  have HA0 : Hid (SetI w ba nA EA) := hA
  obtain ⟨m, hm⟩ : ∃ m, m = L.length := ⟨_, rfl⟩
  have HM : Hid (m = L.length) := hm
  rw [← hm] at hl hlc hdr ⊢
  have HDR : Hid (Calls Try.prog 49 #[.pointer (some ⟨C, 0, none⟩), .slice a m cap] w fun r w' => ∃ E : DataW Value, r = .returned (.map (some w.heap.size)) ∧ SetI w' w.heap.size m E ∧ IsMap E ∧ (∀ x, has E (.int .i64 x) = true ↔ ∃ k, k < m ∧ (L.getD k evZ).c = 2 ∧ has EA (.int .i64 (L.getD k evZ).b) = true ∧ (L.getD k evZ).d = x) ∧ Below w.heap.size w w') := hdr
  clear hdr
  have HMM : Hid (m ≤ 30) := hl
  clear hC hM hA hne hv hf hn hcell hm
  go_enter Try.func34, Try.ntmps34
  go_wp2_with fail
  refine HDR.out.mono ?_
  rintro r w1 ⟨EG, rfl, hSG, hMG, hG, hB1⟩
  have HG : Hid (∀ x, has EG (.int .i64 x) = true ↔ GoneP (fun z => has EA (.int .i64 z) = true) L x) := fun x => by
    rw [hG x]; unfold GoneP; rw [← HM.out]
  have HSG : Hid (SetI w1 w.heap.size m EG) := hSG
  have HB1 : Hid (Far bm ba w w1 ∧ Below w.heap.size w w1 ∧ w.heap.size < w1.heap.size) := ⟨(Far.refl _ _ _).below hB1, hB1, World.ownsMap.lt hSG⟩
  have HMA : Hid (SetI w1 bm nM EM ∧ SetI w1 ba nA EA) := ⟨HM0.out.below hB1, HA0.out.below hB1⟩
  clear hSG hMG hG hB1 HDR
  go_wp2_with (at_range; refine wpList_range_own _ rfl _ 63 rfl 2 90 lawI Try.underlying63 unitElem w.heap.size m EG rfl HSG.out ?_; intro w2 hrg2 hg2 hs2)
  go_frame
  have HR2 : Hid (w2.ranges Try.prog 2 unitElem w.heap.size w1.heap.size m EG (has EG) (Maps.size EG)) := hrg2
  have HK2 : Hid (SetI w2 bm nM EM ∧ SetI w2 ba nA EA ∧ Far bm ba w w2) := ⟨World.ownsMap.kept HMA.out.1 hg2 (by simp), World.ownsMap.kept HMA.out.2 hg2 (by simp), HB1.out.1.grown0 hg2⟩
  clear hrg2 hg2 hs2
  go_loopw [5] (fun _ wr => ∃ (left : Lit → Bool) (cnt : Nat) (E1 E2 : DataW Value), wr.ranges Try.prog 2 unitElem w.heap.size w1.heap.size m EG left cnt ∧ Hid (SetI wr bm nM E1 ∧ SetI wr ba nA E2 ∧ (∀ x, has E1 (.int .i64 x) = true ↔ has EM (.int .i64 x) = true ∧ ¬ (left (.int .i64 x) = false ∧ has EG (.int .i64 x) = true)) ∧ (∀ x, has E2 (.int .i64 x) = true ↔ has EA (.int .i64 x) = true ∧ ¬ (left (.int .i64 x) = false ∧ has EG (.int .i64 x) = true)) ∧ Far bm ba w wr))
    (fun _ wr => wr.rangeLeft w.heap.size w1.heap.size)
  case atStart => exact ⟨_, _, EM, EA, HR2.out, HK2.out.1, HK2.out.2.1, (fun x => ⟨fun h => ⟨h, fun h1 => by rw [h1.1] at h1; exact absurd h1.2 (by decide)⟩, And.left⟩), (fun x => ⟨fun h => ⟨h, fun h1 => by rw [h1.1] at h1; exact absurd h1.2 (by decide)⟩, And.left⟩), HK2.out.2.2⟩
  case round =>
    obtain ⟨left, cnt, E1, E2, hrg, HI⟩ := hrel
    have HGr : Hid (wr.ranges Try.prog 2 unitElem w.heap.size w1.heap.size m EG left cnt) := hrg
    clear HR2 HK2
    go_wp2_with (first
      | (at_next; refine wpList_next_ranges _ rfl _ rfl 2 lawI unitElem (Value.int .i64) unitV keyI_inv unitV_inv w.heap.size w1.heap.size m _ _ _ rfl hrg ?_ ?_))
    · intro _ hl0
      clear hrg
      have HE : Hid (SetI wr bm nM E1 ∧ SetI wr ba nA E2 ∧ SetI wr w.heap.size m EG ∧ (∀ x, has E1 (.int .i64 x) = true ↔ has EM (.int .i64 x) = true ∧ ¬ has EG (.int .i64 x) = true) ∧ (∀ x, has E2 (.int .i64 x) = true ↔ has EA (.int .i64 x) = true ∧ ¬ has EG (.int .i64 x) = true) ∧ Far bm ba w wr) :=
        ⟨HI.out.1, HI.out.2.1, HGr.out.owns, (fun x => (HI.out.2.2.1 x).trans (and_congr Iff.rfl (not_congr ⟨And.right, fun h => ⟨hl0 _, h⟩⟩))), (fun x => (HI.out.2.2.2.1 x).trans (and_congr Iff.rfl (not_congr ⟨And.right, fun h => ⟨hl0 _, h⟩⟩))), HI.out.2.2.2.2⟩
      clear hl0 HI HGr
      obtain ⟨br, hbr⟩ : ∃ br, br = wr.heap.size := ⟨_, rfl⟩
      have HS0 : Hid (SetI (wr.alloc (.map #[] 0)) br 0 (.map [])) := by show SetI _ _ _ _; rw [hbr]; exact World.ownsMap_made wr _ _ _
      have HE0 : Hid (SetI (wr.alloc (.map #[] 0)) bm (nM + 0) E1 ∧ SetI (wr.alloc (.map #[] 0)) ba nA E2 ∧ SetI (wr.alloc (.map #[] 0)) w.heap.size m EG ∧ Far bm ba w (wr.alloc (.map #[] 0)) ∧ br < (wr.alloc (.map #[] 0)).heap.size) := ⟨HE.out.1.below ((Below.refl _ _).alloc (Nat.le_refl _) _), HE.out.2.1.below ((Below.refl _ _).alloc (Nat.le_refl _) _), HE.out.2.2.1.below ((Below.refl _ _).alloc (Nat.le_refl _) _), HE.out.2.2.2.2.2.below ((Below.refl _ _).alloc (Nat.le_refl _) _), by rw [hbr]; simp⟩
      have HBR : Hid (w.heap.size < br) := by show _ < _; rw [hbr]; exact World.ownsMap.lt HE.out.2.2.1
      go_wp2
      rw [← hbr]
      clear hbr
      go_loopw [33] (fun i wr => ∃ (k : Nat) (E3 Er : DataW Value), k ≤ m ∧ i = .int .i64 k ∧ Hid (SetI wr bm (nM + k) E3 ∧ SetI wr ba nA E2 ∧ SetI wr w.heap.size m EG ∧ SetI wr br k Er ∧ (∀ x, has E3 (.int .i64 x) = true ↔ has E1 (.int .i64 x) = true ∨ AddsP (fun z => has EA (.int .i64 z) = true) (fun z => has EG (.int .i64 z) = true) L k x) ∧ (∀ x, has Er (.int .i64 x) = true ↔ RaisesP (fun z => has EA (.int .i64 z) = true) (fun z => has EG (.int .i64 z) = true) L k x) ∧ Far bm ba w wr ∧ br < wr.heap.size)) (fun i _ => m - (intOf i).toNat)
      case atStart => exact ⟨0, E1, .map [], Nat.zero_le _, rfl, HE0.out.1, HE0.out.2.1, HE0.out.2.2.1, HS0.out, (fun x => by simp [AddsP]), (fun x => by rw [hasNil]; simp [RaisesP]), HE0.out.2.2.2⟩
      case round =>
        obtain ⟨k, E3, Er, hk, rfl, HI⟩ := hrel
        by_cases hlt : k < m
        · have hltI : (k : Int) < (m : Int) := by omega
          have hkL : k < L.length := by rw [← HM.out]; exact hlt
          obtain ⟨g, rfl, hcg⟩ := HV.out wr HI.out.2.2.2.2.2.2.1 k hkL
          obtain ⟨y, hy⟩ : ∃ y, y = L.getD k evZ := ⟨_, rfl⟩
          have hyf : y.fine = true := by rw [hy]; exact HFi.out _ (by simp [hkL])
          have hkd : y.c = 1 ∨ y.c = 2 ∨ y.c = 3 := by unfold Ev.fine inB at hyf; simp at hyf; omega
          rw [← hy] at hcg
          have HYK : Hid (y = L.getD k evZ) := hy
          have hwb : (Lit.int .i64 y.b).wf = true := fine_b hyf
          have hwd : (Lit.int .i64 y.d).wf = true := fine_d hyf
          have p1 : ∀ s : Later wr, s.val.cell? ⟨C, 1, none⟩ = some (.map (some ba)) := fun s => s.cell (cellN (HC.out _ HI.out.2.2.2.2.2.2.1))
          have hne := Later.any wr
          obtain ⟨pb, hpb⟩ : ∃ pb, pb = has E2 (.int .i64 y.b) := ⟨_, rfl⟩
          obtain ⟨pd, hpd⟩ : ∃ pd, pd = has EG (.int .i64 y.d) := ⟨_, rfl⟩
          have HPB : Hid (pb = has E2 (.int .i64 y.b)) := hpb
          have HPD : Hid (pd = has EG (.int .i64 y.d)) := hpd
          have HXA : Hid (∀ t : Later wr, Calls Try.prog 63 #[.agg #[.int .i64 y.b, .int .i64 y.d]] t.val fun e w' => e = .returned (.int .i64 y.b) ∧ Below t.val.heap.size t.val w') := fun t => author_any _ _ _
          have HXW : Hid (∀ t : Later wr, Calls Try.prog 51 #[.agg #[.int .i64 y.b, .int .i64 y.d]] t.val fun e w' => e = .returned (.int .i64 y.d) ∧ Below t.val.heap.size t.val w') := fun t => who_any _ _ _
          have HXS : Hid (∀ t : Later wr, Calls Try.prog 50 #[.map (some ba), .int .i64 y.b] t.val fun e w' => e = .returned (.bool pb) ∧ Below t.val.heap.size t.val w') := fun t => by rw [hpb]; exact hasSet_any ba nA E2 y.b t.val (HI.out.2.1.below t.ok) hwb
          have HXG : Hid (∀ t : Later wr, Calls Try.prog 50 #[.map (some w.heap.size), .int .i64 y.d] t.val fun e w' => e = .returned (.bool pd) ∧ Below t.val.heap.size t.val w') := fun t => by rw [hpd]; exact hasSet_any w.heap.size m EG y.d t.val (HI.out.2.2.1.below t.ok) hwd
          have HCO : Hid ((has EA (.int .i64 y.b) = true ∧ ¬ has EG (.int .i64 y.b) = true) ∧ ¬ has EG (.int .i64 y.d) = true ↔ pb = true ∧ pd = false) := by
            show _ ↔ _
            rw [hpb, hpd, HE.out.2.2.2.2.1 y.b]
            simp
          have HNO : Hid (∀ w3, Below wr.heap.size wr w3 → ¬ (y.c ≠ 2 ∧ pb = true ∧ pd = false) → SetI w3 bm (nM + (k + 1)) E3 ∧ SetI w3 ba nA E2 ∧ SetI w3 w.heap.size m EG ∧ SetI w3 br (k + 1) Er ∧ (∀ x, has E3 (.int .i64 x) = true ↔ has E1 (.int .i64 x) = true ∨ AddsP (fun z => has EA (.int .i64 z) = true) (fun z => has EG (.int .i64 z) = true) L (k + 1) x) ∧ (∀ x, has Er (.int .i64 x) = true ↔ RaisesP (fun z => has EA (.int .i64 z) = true) (fun z => has EG (.int .i64 z) = true) L (k + 1) x) ∧ Far bm ba w w3 ∧ br < w3.heap.size) := fun w3 hB hno => by
            obtain ⟨i1, i2, i3, i4, i5, i6, i7, i8⟩ := HI.out
            refine ⟨World.ownsMap.mono (i1.below hB) (by omega), i2.below hB, i3.below hB, World.ownsMap.mono (i4.below hB) (by omega), fun x => ?_, fun x => ?_, i7.below hB, Nat.lt_of_lt_of_le i8 hB.size⟩
            · rw [i5 x, adds_no]
              rw [← HYK.out]
              exact fun h => hno ⟨h.1, HCO.out.1 h.2⟩
            · rw [i6 x, raises_no]
              rw [← HYK.out]
              exact fun h => hno ⟨by omega, HCO.out.1 h.2⟩
          have HADD : Hid (pb = true → pd = false → y.c ≠ 2 → ∀ x, has (putI E3 y.d) (.int .i64 x) = true ↔ has E1 (.int .i64 x) = true ∨ AddsP (fun z => has EA (.int .i64 z) = true) (fun z => has EG (.int .i64 z) = true) L (k + 1) x) := fun q1 q2 q3 x => by
            have hc := HCO.out.2 ⟨q1, q2⟩
            rw [putI_has (World.ownsMap.isMap HI.out.1), HI.out.2.2.2.2.1 x, adds_yes x (by rw [← HYK.out]; exact ⟨q3, hc.1, hc.2⟩), ← HYK.out, or_assoc]
          have HYES1 : Hid (pb = true → pd = false → y.c = 1 → ∀ w4 w5, Below wr.heap.size wr w4 → SetI w5 bm (nM + k + 1) (putI E3 y.d) → w4.grownBy w5 (some bm) → SetI w5 bm (nM + (k + 1)) (putI E3 y.d) ∧ SetI w5 ba nA E2 ∧ SetI w5 w.heap.size m EG ∧ SetI w5 br (k + 1) Er ∧ (∀ x, has (putI E3 y.d) (.int .i64 x) = true ↔ has E1 (.int .i64 x) = true ∨ AddsP (fun z => has EA (.int .i64 z) = true) (fun z => has EG (.int .i64 z) = true) L (k + 1) x) ∧ (∀ x, has Er (.int .i64 x) = true ↔ RaisesP (fun z => has EA (.int .i64 z) = true) (fun z => has EG (.int .i64 z) = true) L (k + 1) x) ∧ Far bm ba w w5 ∧ br < w5.heap.size) := fun q1 q2 q3 w4 w5 hB hS hG => by
            obtain ⟨i1, i2, i3, i4, i5, i6, i7, i8⟩ := HI.out
            have hN := HN.out
            have hR := HBR.out
            refine ⟨hS, World.ownsMap.kept (i2.below hB) hG (by simp; omega), World.ownsMap.kept (i3.below hB) hG (by simp; omega), World.ownsMap.mono (World.ownsMap.kept (i4.below hB) hG (by simp; omega)) (by omega), HADD.out q1 q2 (by omega), fun x => ?_, (i7.below hB).grown hG (.inl rfl), Nat.lt_of_lt_of_le i8 (Nat.le_trans hB.size hG.size)⟩
            rw [i6 x, raises_no]
            rw [← HYK.out]
            exact fun h => by have := h.1; omega
          have HYES3 : Hid (pb = true → pd = false → y.c = 3 → ∀ w4 w5 w6 w7, Below wr.heap.size wr w4 → SetI w5 bm (nM + k + 1) (putI E3 y.d) → w4.grownBy w5 (some bm) → Below w5.heap.size w5 w6 → SetI w7 br (k + 1) (putI Er y.d) → w6.grownBy w7 (some br) → SetI w7 bm (nM + (k + 1)) (putI E3 y.d) ∧ SetI w7 ba nA E2 ∧ SetI w7 w.heap.size m EG ∧ SetI w7 br (k + 1) (putI Er y.d) ∧ (∀ x, has (putI E3 y.d) (.int .i64 x) = true ↔ has E1 (.int .i64 x) = true ∨ AddsP (fun z => has EA (.int .i64 z) = true) (fun z => has EG (.int .i64 z) = true) L (k + 1) x) ∧ (∀ x, has (putI Er y.d) (.int .i64 x) = true ↔ RaisesP (fun z => has EA (.int .i64 z) = true) (fun z => has EG (.int .i64 z) = true) L (k + 1) x) ∧ Far bm ba w w7 ∧ br < w7.heap.size) := fun q1 q2 q3 w4 w5 w6 w7 hB hS hG hB6 hS7 hG7 => by
            obtain ⟨i1, i2, i3, i4, i5, i6, i7, i8⟩ := HI.out
            have hN := HN.out
            have hR := HBR.out
            have hc := HCO.out.2 ⟨q1, q2⟩
            refine ⟨World.ownsMap.kept (hS.below hB6) hG7 (by simp; omega), World.ownsMap.kept (SetI.below (World.ownsMap.kept (i2.below hB) hG (by simp; omega)) hB6) hG7 (by simp; omega), World.ownsMap.kept (SetI.below (World.ownsMap.kept (i3.below hB) hG (by simp; omega)) hB6) hG7 (by simp; omega), hS7, HADD.out q1 q2 (by omega), fun x => ?_, (((i7.below hB).grown hG (.inl rfl)).below hB6).grown hG7 (.inr (.inr (by omega))), Nat.lt_of_lt_of_le i8 (Nat.le_trans (Nat.le_trans hB.size hG.size) (Nat.le_trans hB6.size hG7.size))⟩
            rw [putI_has (World.ownsMap.isMap i4), i6 x, raises_yes x (by rw [← HYK.out]; exact ⟨q3, hc.1, hc.2⟩), ← HYK.out]
          clear hy hpb hpd HE0 HS0 hkL
          rcases hkd with hk1 | hk1 | hk1
          · have he : encEv y = .iface 87 (.agg #[.int .i64 y.b, .int .i64 y.d]) := by unfold encEv; simp [hk1]
            rw [he] at hcg
            have hma := mAuthor1 y.b y.d
            have hmw := mWho1 y.b y.d
            have h1 := asAdd (.agg #[.int .i64 y.b, .int .i64 y.d])
            clear he
            cases pb with
            | false =>
              go_wp2
              refine wp_region_later (by kernel_rfl) (by kernel_rfl) ?_
              repeat (go_big_quiet_step (first | (rename_i t; with_reducible exact Calls.later (HXA.out t)) | (rename_i t; with_reducible exact Calls.later (HXS.out t)) | (rename_i t; with_reducible exact Calls.later (HXW.out t)) | (rename_i t; with_reducible exact Calls.later (HXG.out t))))
              refine wpQuiet_nil ?_
              rintro _ ⟨s3, rfl⟩
              have HF := (show Hid _ from HNO.out s3.val s3.ok (by simp))
              obtain ⟨w3, hw3⟩ : ∃ w3, w3 = s3.val := ⟨_, rfl⟩
              rw [← hw3] at HF ⊢
              clear hw3 p1 HXA HXS HXW HXG hne s3
              go_wp2
              go_roundw
              case rel => exact ⟨k + 1, E3, Er, by omega, by go_num, HF⟩
              case measure => simp [intOf]; omega
            | true =>
              cases pd with
              | true =>
                go_wp2
                refine wp_region_later (by kernel_rfl) (by kernel_rfl) ?_
                repeat (go_big_quiet_step (first | (rename_i t; with_reducible exact Calls.later (HXA.out t)) | (rename_i t; with_reducible exact Calls.later (HXS.out t)) | (rename_i t; with_reducible exact Calls.later (HXW.out t)) | (rename_i t; with_reducible exact Calls.later (HXG.out t))))
                refine wpQuiet_nil ?_
                rintro _ ⟨s3, rfl⟩
                have HF := (show Hid _ from HNO.out s3.val s3.ok (by simp))
                obtain ⟨w3, hw3⟩ : ∃ w3, w3 = s3.val := ⟨_, rfl⟩
                rw [← hw3] at HF ⊢
                clear hw3 p1 HXA HXS HXW HXG hne s3
                go_wp2
                go_roundw
                case rel => exact ⟨k + 1, E3, Er, by omega, by go_num, HF⟩
                case measure => simp [intOf]; omega
              | false =>
                go_wp2
                refine wp_region_later (by kernel_rfl) (by kernel_rfl) ?_
                repeat (go_big_quiet_step (first | (rename_i t; with_reducible exact Calls.later (HXA.out t)) | (rename_i t; with_reducible exact Calls.later (HXS.out t)) | (rename_i t; with_reducible exact Calls.later (HXW.out t)) | (rename_i t; with_reducible exact Calls.later (HXG.out t))))
                refine wpQuiet_nil ?_
                rintro _ ⟨s3, rfl⟩
                have HF3 := (show Hid _ from s3.ok)
                obtain ⟨w3, hw3⟩ : ∃ w3, w3 = s3.val := ⟨_, rfl⟩
                rw [← hw3] at HF3 ⊢
                clear hw3 p1 HXA HXS HXW HXG hne s3
                have hB0 : Below wr.heap.size wr (w3.alloc (.cells #[.int .i64 y.b, .int .i64 y.d] 87)) := HF3.out.alloc HF3.out.size _
                have HB0 : Hid (Below wr.heap.size wr (w3.alloc (.cells #[.int .i64 y.b, .int .i64 y.d] 87))) := hB0
                have HS3 : Hid (SetI (w3.alloc (.cells #[.int .i64 y.b, .int .i64 y.d] 87)) bm (nM + k) E3) := HI.out.1.below hB0
                have HC3 : Hid (∀ w', Below w3.heap.size w3 w' → w'.cell? ⟨C, 0, none⟩ = some (.map (some bm))) := fun w' h => cellN (HC.out _ ((HI.out.2.2.2.2.2.2.1.below HF3.out).below h))
                have c0 := HC3.out _ ((Below.refl _ w3).alloc (Nat.le_refl _) (.cells #[.int .i64 y.b, .int .i64 y.d] 87))
                clear hB0
                go_wp2
                go_region_with (first | (go_at_call 51; refine (who_any y.b y.d _).mono ?_; rintro r w4 ⟨rfl, hB4'⟩; have hB4 := below_drewP hB4'; have c0' := HC3.out _ (((Below.refl _ w3).alloc (Nat.le_refl _) (.cells #[.int .i64 y.b, .int .i64 y.d] 87)).trans (hB4.mono (by simp)))) | (go_at_call 48; refine (putI_any bm (nM + k) E3 y.d _ (HS3.out.below hB4) (by have := HN.out; have := HMM.out; omega) hwd).mono ?_; rintro r w5 ⟨rfl, hS5, hG5⟩))
                all_goals
                  have HF := (show Hid _ from HYES1.out (by trivial) (by trivial) hk1 w4 w5 (HB0.out.trans (hB4.mono HB0.out.size)) hS5 hG5)
                  clear hS5 hG5 hB4 hB4' c0' c0 HS3 HC3 HB0
                  go_wp2
                  go_roundw
                  case rel => exact ⟨k + 1, _, Er, by omega, by go_num, HF⟩
                  case measure => simp [intOf]; omega
          · have he : encEv y = .iface 91 (.agg #[.int .i64 y.b, .int .i64 y.d]) := by unfold encEv; simp [hk1]
            rw [he] at hcg
            have hma := mAuthor2 y.b y.d
            have hmw := mWho2 y.b y.d
            have h1 := noAdd2 (.agg #[.int .i64 y.b, .int .i64 y.d])
            have h2 := noAdmin2 (.agg #[.int .i64 y.b, .int .i64 y.d])
            clear he
            cases pb with
            | false =>
              go_wp2
              refine wp_region_later (by kernel_rfl) (by kernel_rfl) ?_
              repeat (go_big_quiet_step (first | (rename_i t; with_reducible exact Calls.later (HXA.out t)) | (rename_i t; with_reducible exact Calls.later (HXS.out t)) | (rename_i t; with_reducible exact Calls.later (HXW.out t)) | (rename_i t; with_reducible exact Calls.later (HXG.out t))))
              refine wpQuiet_nil ?_
              rintro _ ⟨s3, rfl⟩
              have HF := (show Hid _ from HNO.out s3.val s3.ok (by simp))
              obtain ⟨w3, hw3⟩ : ∃ w3, w3 = s3.val := ⟨_, rfl⟩
              rw [← hw3] at HF ⊢
              clear hw3 p1 HXA HXS HXW HXG hne s3
              go_wp2
              go_roundw
              case rel => exact ⟨k + 1, E3, Er, by omega, by go_num, HF⟩
              case measure => simp [intOf]; omega
            | true =>
              cases pd with
              | true =>
                go_wp2
                refine wp_region_later (by kernel_rfl) (by kernel_rfl) ?_
                repeat (go_big_quiet_step (first | (rename_i t; with_reducible exact Calls.later (HXA.out t)) | (rename_i t; with_reducible exact Calls.later (HXS.out t)) | (rename_i t; with_reducible exact Calls.later (HXW.out t)) | (rename_i t; with_reducible exact Calls.later (HXG.out t))))
                refine wpQuiet_nil ?_
                rintro _ ⟨s3, rfl⟩
                have HF := (show Hid _ from HNO.out s3.val s3.ok (by simp))
                obtain ⟨w3, hw3⟩ : ∃ w3, w3 = s3.val := ⟨_, rfl⟩
                rw [← hw3] at HF ⊢
                clear hw3 p1 HXA HXS HXW HXG hne s3
                go_wp2
                go_roundw
                case rel => exact ⟨k + 1, E3, Er, by omega, by go_num, HF⟩
                case measure => simp [intOf]; omega
              | false =>
                go_wp2
                refine wp_region_later (by kernel_rfl) (by kernel_rfl) ?_
                repeat (go_big_quiet_step (first | (rename_i t; with_reducible exact Calls.later (HXA.out t)) | (rename_i t; with_reducible exact Calls.later (HXS.out t)) | (rename_i t; with_reducible exact Calls.later (HXW.out t)) | (rename_i t; with_reducible exact Calls.later (HXG.out t))))
                refine wpQuiet_nil ?_
                rintro _ ⟨s3, rfl⟩
                have HF := (show Hid _ from HNO.out s3.val s3.ok (by simp [hk1]))
                obtain ⟨w3, hw3⟩ : ∃ w3, w3 = s3.val := ⟨_, rfl⟩
                rw [← hw3] at HF ⊢
                clear hw3 p1 HXA HXS HXW HXG hne s3
                go_wp2
                go_roundw
                case rel => exact ⟨k + 1, E3, Er, by omega, by go_num, HF⟩
                case measure => simp [intOf]; omega

          · have he : encEv y = .iface 88 (.agg #[.int .i64 y.b, .int .i64 y.d]) := by unfold encEv; simp [hk1]
            rw [he] at hcg
            have hma := mAuthor3 y.b y.d
            have hmw := mWho3 y.b y.d
            have h1 := noAdd3 (.agg #[.int .i64 y.b, .int .i64 y.d])
            have h2 := asAdmin (.agg #[.int .i64 y.b, .int .i64 y.d])
            clear he
            cases pb with
            | false =>
              go_wp2
              refine wp_region_later (by kernel_rfl) (by kernel_rfl) ?_
              repeat (go_big_quiet_step (first | (rename_i t; with_reducible exact Calls.later (HXA.out t)) | (rename_i t; with_reducible exact Calls.later (HXS.out t)) | (rename_i t; with_reducible exact Calls.later (HXW.out t)) | (rename_i t; with_reducible exact Calls.later (HXG.out t))))
              refine wpQuiet_nil ?_
              rintro _ ⟨s3, rfl⟩
              have HF := (show Hid _ from HNO.out s3.val s3.ok (by simp))
              obtain ⟨w3, hw3⟩ : ∃ w3, w3 = s3.val := ⟨_, rfl⟩
              rw [← hw3] at HF ⊢
              clear hw3 p1 HXA HXS HXW HXG hne s3
              go_wp2
              go_roundw
              case rel => exact ⟨k + 1, E3, Er, by omega, by go_num, HF⟩
              case measure => simp [intOf]; omega
            | true =>
              cases pd with
              | true =>
                go_wp2
                refine wp_region_later (by kernel_rfl) (by kernel_rfl) ?_
                repeat (go_big_quiet_step (first | (rename_i t; with_reducible exact Calls.later (HXA.out t)) | (rename_i t; with_reducible exact Calls.later (HXS.out t)) | (rename_i t; with_reducible exact Calls.later (HXW.out t)) | (rename_i t; with_reducible exact Calls.later (HXG.out t))))
                refine wpQuiet_nil ?_
                rintro _ ⟨s3, rfl⟩
                have HF := (show Hid _ from HNO.out s3.val s3.ok (by simp))
                obtain ⟨w3, hw3⟩ : ∃ w3, w3 = s3.val := ⟨_, rfl⟩
                rw [← hw3] at HF ⊢
                clear hw3 p1 HXA HXS HXW HXG hne s3
                go_wp2
                go_roundw
                case rel => exact ⟨k + 1, E3, Er, by omega, by go_num, HF⟩
                case measure => simp [intOf]; omega
              | false =>
                go_wp2
                refine wp_region_later (by kernel_rfl) (by kernel_rfl) ?_
                repeat (go_big_quiet_step (first | (rename_i t; with_reducible exact Calls.later (HXA.out t)) | (rename_i t; with_reducible exact Calls.later (HXS.out t)) | (rename_i t; with_reducible exact Calls.later (HXW.out t)) | (rename_i t; with_reducible exact Calls.later (HXG.out t))))
                refine wpQuiet_nil ?_
                rintro _ ⟨s3, rfl⟩
                have HF3 := (show Hid _ from s3.ok)
                obtain ⟨w3, hw3⟩ : ∃ w3, w3 = s3.val := ⟨_, rfl⟩
                rw [← hw3] at HF3 ⊢
                clear hw3 p1 HXA HXS HXW HXG hne s3
                have hB0 : Below wr.heap.size wr (w3.alloc (.cells #[.int .i64 y.b, .int .i64 y.d] 88)) := HF3.out.alloc HF3.out.size _
                have HB0 : Hid (Below wr.heap.size wr (w3.alloc (.cells #[.int .i64 y.b, .int .i64 y.d] 88))) := hB0
                have HS3 : Hid (SetI (w3.alloc (.cells #[.int .i64 y.b, .int .i64 y.d] 88)) bm (nM + k) E3) := HI.out.1.below hB0
                have HC3 : Hid (∀ w', Below w3.heap.size w3 w' → w'.cell? ⟨C, 0, none⟩ = some (.map (some bm))) := fun w' h => cellN (HC.out _ ((HI.out.2.2.2.2.2.2.1.below HF3.out).below h))
                have c0 := HC3.out _ ((Below.refl _ w3).alloc (Nat.le_refl _) (.cells #[.int .i64 y.b, .int .i64 y.d] 88))
                clear hB0
                go_wp2
                go_region_with (first | (go_at_call 51; refine (who_any y.b y.d _).mono ?_; rintro r w4 ⟨rfl, hB4'⟩; have hB4 := below_drewP hB4'; have c0' := HC3.out _ (((Below.refl _ w3).alloc (Nat.le_refl _) (.cells #[.int .i64 y.b, .int .i64 y.d] 88)).trans (hB4.mono (by simp)))) | (go_at_call 48; refine (putI_any bm (nM + k) E3 y.d _ (HS3.out.below hB4) (by have := HN.out; have := HMM.out; omega) hwd).mono ?_; rintro r w5 ⟨rfl, hS5, hG5⟩))
                all_goals
                  have HB5 := (show Hid _ from (HB0.out.trans (hB4.mono HB0.out.size)))
                  have HS5 := (show Hid _ from hS5)
                  have HG5 := (show Hid _ from hG5)
                  have hx5 : w5.cell? ⟨w3.heap.size, 0, none⟩ = some (.int .i64 y.b) ∧ w5.cell? ⟨w3.heap.size, 1, none⟩ = some (.int .i64 y.d) := by
                    have e := heap_alloc_new w3 (.cells #[.int .i64 y.b, .int .i64 y.d] 88)
                    have e4 := (hB4.block w3.heap.size (by simp)).trans e
                    have hN := HN.out
                    have hs3 : w.heap.size ≤ w3.heap.size := Nat.le_trans HI.out.2.2.2.2.2.2.1.size HF3.out.size
                    have e5 := (hG5.block w3.heap.size (lt_of_block e4) (by simp; omega)).trans e4
                    exact ⟨cellN e5, cellN e5⟩
                  have x0 := hx5.1
                  have x1 := hx5.2
                  have HSR : Hid (SetI w5 br k Er) := World.ownsMap.kept (HI.out.2.2.2.1.below HB5.out) hG5 (by have := HN.out; have := HBR.out; simp; omega)
                  clear hS5 hG5 hB4 hB4' c0' c0 HS3 HC3 hx5
                  go_wp2_with fail
                  refine (who_any y.b y.d w5).mono ?_
                  rintro r w6 ⟨rfl, hB6⟩
                  have HB6 := (show Hid _ from hB6)
                  clear hB6
                  go_wp2_with fail
                  refine (putI_any br k Er y.d w6 (HSR.out.below HB6.out) (by have := HMM.out; omega) hwd).mono ?_
                  rintro r w7 ⟨rfl, hS7, hG7⟩
                  have HF := (show Hid _ from HYES3.out (by trivial) (by trivial) hk1 w4 w5 w6 w7 HB5.out HS5.out HG5.out HB6.out hS7 hG7)
                  clear hS7 hG7 HB5 HS5 HG5 HB6 HSR HB0
                  go_wp2
                  go_roundw
                  case rel => exact ⟨k + 1, _, _, by omega, by go_num, HF⟩
                  case measure => simp [intOf]; omega
        · have hke : k = m := by omega
          subst hke
          have c1 : wr.cell? ⟨C, 1, none⟩ = some (.map (some ba)) := cellN (HC.out _ HI.out.2.2.2.2.2.2.1)
          clear HE0 HS0
          go_wp2_with fail
          refine (copyI_any ba br nA k E2 Er _ HI.out.2.1 HI.out.2.2.2.1 (by have := HN.out; have := HBR.out; omega) (by have := HN.out; have := HMM.out; omega)).mono ?_
          rintro r w8 ⟨EA', rfl, hS8, hA8, hG8⟩
          have HF : Hid (SetI w8 bm (nM + k) E3 ∧ SetI w8 ba (nA + k) EA' ∧ Far bm ba w w8) := ⟨World.ownsMap.kept HI.out.1 hG8 (by have := HN.out; simp; omega), hS8, HI.out.2.2.2.2.2.2.1.grown hG8 (.inr (.inl rfl))⟩
          have HEQ : Hid ((fun z => has EG (.int .i64 z) = true) = GoneP (fun z => has EA (.int .i64 z) = true) L) := funext fun z => propext (HG.out z)
          have HFM : Hid (∀ x, has E3 (.int .i64 x) = true ↔ (has EM (.int .i64 x) = true ∧ ¬ GoneP (fun z => has EA (.int .i64 z) = true) L x) ∨ AddsP (fun z => has EA (.int .i64 z) = true) (GoneP (fun z => has EA (.int .i64 z) = true) L) L k x) := fun x => by
            rw [HI.out.2.2.2.2.1 x, HE.out.2.2.2.1 x, HEQ.out, HG.out x]
          have HFA : Hid (∀ x, has EA' (.int .i64 x) = true ↔ (has EA (.int .i64 x) = true ∧ ¬ GoneP (fun z => has EA (.int .i64 z) = true) L x) ∨ RaisesP (fun z => has EA (.int .i64 z) = true) (GoneP (fun z => has EA (.int .i64 z) = true) L) L k x) := fun x => by
            rw [hA8 x, HE.out.2.2.2.2.1 x, HI.out.2.2.2.2.2.1 x, HEQ.out, HG.out x]
          clear hS8 hA8 hG8 c1
          go_wp2
          go_end0
          exact ⟨E3, EA', rfl, HF.out.1, HF.out.2.1, HFM.out, HFA.out, HF.out.2.2⟩
    · intro x c kl y ps w3 cnt3 hkx hlk hRv hat hrg3 hlt3 hg3 hs3 hen
      obtain ⟨rfl, hwx⟩ := keyI_lit hkx
      simp only [unitV] at hRv hen ⊢
      have hes : has EG (.int .i64 x) = true := has_true_of_atKey hat
      have hF3 : Far bm ba w w3 := HI.out.2.2.2.2.grown hg3 (.inr (.inr (Nat.le_of_lt HB1.out.2.2)))
      have hne1 : w1.heap.size ≠ bm ∧ w1.heap.size ≠ ba := by have := HN.out; have := HB1.out.2.2; omega
      have HE1 : Hid (SetI w3 bm nM E1) := World.ownsMap.kept HI.out.1 hg3 (by simp; omega)
      have HE2 : Hid (SetI w3 ba nA E2) := World.ownsMap.kept HI.out.2.1 hg3 (by simp; omega)
      have HG3 : Hid (w3.ranges Try.prog 2 unitElem w.heap.size w1.heap.size m EG (fun z => left z && !z.sameKey (.int .i64 x)) cnt3) := hrg3
      have HF3 : Hid (Far bm ba w w3 ∧ cnt3 < cnt ∧ has EG (.int .i64 x) = true) := ⟨hF3, hlt3, hes⟩
      have c0 : w3.cell? ⟨C, 0, none⟩ = some (.map (some bm)) := cellN (HC.out _ hF3)
      have HNE : Hid (w1.heap.size ≠ bm ∧ w1.heap.size ≠ ba) := hne1
      clear hrg hrg3 hRv hat hlk hg3 hs3 hlt3 hF3 hes hne1
      go_wp2_with (first
        | (at_delete
           refine wpList_delete_own _ rfl _ _ 63 2 rfl 90 lawI Try.underlying63 unitElem bm nM E1 rfl HE1.out _ _ rfl hkx ?_
           intro w5 hown5 hturn5
           have HG5 : Hid (w3.grownBy w5 (some bm)) := hturn5.grown
           have HO5 : Hid (SetI w5 bm nM (E1.del (.int .i64 x))) := hown5
           have HE25 : Hid (SetI w5 ba nA E2) := World.ownsMap.kept HE2.out HG5.out (by have := HN.out; simp; omega)
           have HF5 : Hid (Far bm ba w w5) := HF3.out.1.grown HG5.out (.inl rfl)
           have c1 : w5.cell? ⟨C, 1, none⟩ = some (.map (some ba)) := cellN (HC.out _ HF5.out)
           clear hown5 hturn5 c0)
        | (at_delete
           refine wpList_delete_own _ rfl _ _ 63 2 rfl 90 lawI Try.underlying63 unitElem ba nA E2 rfl HE25.out _ _ rfl hkx ?_
           intro w6 hown6 hturn6
           have HG6 : Hid (w5.grownBy w6 (some ba)) := hturn6.grown
           have HO6 : Hid (SetI w6 ba nA (E2.del (.int .i64 x))) := hown6
           clear hown6 hturn6 c1))
      have HF : Hid (w6.ranges Try.prog 2 unitElem w.heap.size w1.heap.size m EG (fun z => left z && !z.sameKey (.int .i64 x)) cnt3 ∧ SetI w6 bm nM (E1.del (.int .i64 x)) ∧ SetI w6 ba nA (E2.del (.int .i64 x)) ∧ (∀ z, has (E1.del (.int .i64 x)) (.int .i64 z) = true ↔ has EM (.int .i64 z) = true ∧ ¬ ((left (.int .i64 z) && !(Lit.int .i64 z).sameKey (.int .i64 x)) = false ∧ has EG (.int .i64 z) = true)) ∧ (∀ z, has (E2.del (.int .i64 x)) (.int .i64 z) = true ↔ has EA (.int .i64 z) = true ∧ ¬ ((left (.int .i64 z) && !(Lit.int .i64 z).sameKey (.int .i64 x)) = false ∧ has EG (.int .i64 z) = true)) ∧ Far bm ba w w6) := by
        have hk : ∀ z : Int, (left (.int .i64 z) = false ∧ has EG (.int .i64 z) = true) ∨ z = x ↔ (left (.int .i64 z) && !(Lit.int .i64 z).sameKey (.int .i64 x)) = false ∧ has EG (.int .i64 z) = true := fun z => by
          rw [leftI]
          constructor
          · rintro (h | rfl)
            · exact ⟨.inl h.1, h.2⟩
            · exact ⟨.inr rfl, HF3.out.2.2⟩
          · rintro ⟨h1 | h1, h2⟩
            · exact .inl ⟨h1, h2⟩
            · exact .inr h1
        have hN := HN.out
        refine ⟨rangesI_kept (rangesI_kept HG3.out HG5.out (by omega) HNE.out.1) HG6.out (by omega) HNE.out.2, World.ownsMap.kept HO5.out HG6.out (by simp; omega), HO6.out, fun z => ?_, fun z => ?_, HF5.out.grown HG6.out (.inr (.inl rfl))⟩
        · rw [delI_has, HI.out.2.2.1 z, ← hk z]
          exact ⟨fun h => ⟨h.1.1, fun h1 => h1.elim h.1.2 h.2⟩, fun h => ⟨⟨h.1, fun h1 => h.2 (.inl h1)⟩, fun h1 => h.2 (.inr h1)⟩⟩
        · rw [delI_has, HI.out.2.2.2.1 z, ← hk z]
          exact ⟨fun h => ⟨h.1.1, fun h1 => h1.elim h.1.2 h.2⟩, fun h => ⟨⟨h.1, fun h1 => h.2 (.inl h1)⟩, fun h1 => h.2 (.inr h1)⟩⟩
      go_wp2
      go_roundw
      case rel => exact ⟨_, _, _, _, _, _, _, _, _, _, _, _, _, _, _, ⟨fun z => left z && !z.sameKey (.int .i64 x), cnt3, _, _, HF.out.1, HF.out.2⟩, rfl⟩
      case measure => rw [HF.out.1.left_eq, HGr.out.left_eq]; exact HF3.out.2.1
end Go.Proofs.Ytglnnocfdlachaa
