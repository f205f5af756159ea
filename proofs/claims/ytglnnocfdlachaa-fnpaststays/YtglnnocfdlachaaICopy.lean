/-
  One set of numbers put into another one (maps.Copy), and what two blocks apart keep. No condition.
-/
import Derived.Test.YtglnnocfdlachaaIDrop
import Derived.Maps.RangeWalk
import Derived.Handy
namespace Go.Proofs.Ytglnnocfdlachaa
open Go.RowKit Go.Maps
set_option linter.unusedVariables false

/-- all old blocks but p and q are as they were -/
structure Far (p q : Nat) (w w' : World) : Prop where
  os : w'.os = w.os
  tape : w'.tape = w.tape
  output : w'.output = w.output
  size : w.heap.size ≤ w'.heap.size
  block : ∀ k, k < w.heap.size → k ≠ p → k ≠ q → w'.heap[k]? = w.heap[k]?
theorem Far.refl (p q : Nat) (w : World) : Far p q w w := ⟨rfl, rfl, rfl, Nat.le_refl _, fun _ _ _ _ => rfl⟩
theorem Far.trans {p q : Nat} {a b c : World} (h : Far p q a b) (k : Far p q b c) : Far p q a c :=
  ⟨k.os.trans h.os, k.tape.trans h.tape, k.output.trans h.output, Nat.le_trans h.size k.size, fun i hi h1 h2 => (k.block i (Nat.lt_of_lt_of_le hi h.size) h1 h2).trans (h.block i hi h1 h2)⟩
theorem Far.below {p q : Nat} {a b c : World} (h : Far p q a b) (k : Below b.heap.size b c) : Far p q a c :=
  ⟨k.os.trans h.os, k.tape.trans h.tape, k.output.trans h.output, Nat.le_trans h.size k.size, fun i hi h1 h2 => (k.block i (Nat.lt_of_lt_of_le hi h.size)).trans (h.block i hi h1 h2)⟩
theorem Far.grown {p q j : Nat} {a b c : World} (h : Far p q a b) (k : b.grownBy c (some j)) (hj : j = p ∨ j = q ∨ a.heap.size ≤ j) : Far p q a c :=
  ⟨k.os.trans h.os, k.tape.trans h.tape, k.output.trans h.output, Nat.le_trans h.size k.size, fun i hi h1 h2 => (k.block i (Nat.lt_of_lt_of_le hi h.size) (by rintro e; cases e; rcases hj with e | e | e; exact h1 e; exact h2 e; omega)).trans (h.block i hi h1 h2)⟩
theorem Far.grown0 {p q : Nat} {a b c : World} (h : Far p q a b) (k : b.grownBy c none) : Far p q a c :=
  ⟨k.os.trans h.os, k.tape.trans h.tape, k.output.trans h.output, Nat.le_trans h.size k.size, fun i hi h1 h2 => (k.block i (Nat.lt_of_lt_of_le hi h.size) (by simp)).trans (h.block i hi h1 h2)⟩
theorem Far.toBelow {p q lo : Nat} {a b : World} (h : Far p q a b) (h1 : lo ≤ p) (h2 : lo ≤ q) (h3 : lo ≤ a.heap.size) : Below lo a b :=
  ⟨h.os, h.tape, h.output, h.size, fun i hi => h.block i (by omega) (by omega) (by omega)⟩
theorem Far.cell {p q : Nat} {a b : World} (h : Far p q a b) {t : Addr} (ht : t.block < a.heap.size) (h1 : t.block ≠ p) (h2 : t.block ≠ q) : b.cell? t = a.cell? t := by
  unfold World.cell?
  rw [h.block _ ht h1 h2]

def unitV : Unit → Value := fun _ => .agg #[]
theorem unitV_inv (v : Value) (y : DataW Value × List MemPlace) (h : unitElem v = some y) : ∃ c : Unit, v = unitV c := ⟨(), (unitElem_inv h).1⟩
theorem keyI_inv (key : Value) (kl : Lit) (h : keyOf Try.prog 2 key = some kl) : ∃ x, key = Value.int .i64 x := by
  obtain ⟨x, rfl, _⟩ := Maps.keyOf_int_inv Try.underlying2 h
  exact ⟨x, rfl⟩
theorem keyI_lit {x : Int} {kl : Lit} (h : keyOf Try.prog 2 (Value.int .i64 x) = some kl) : kl = .int .i64 x ∧ (Lit.int .i64 x).wf = true := by
  obtain ⟨x', ex, rfl, hw⟩ := Maps.keyOf_int_inv Try.underlying2 h
  cases ex
  exact ⟨rfl, hw⟩
theorem leftI (left : Lit → Bool) (z q : Int) : (left (.int .i64 q) && !(Lit.int .i64 q).sameKey (.int .i64 z)) = false ↔ left (.int .i64 q) = false ∨ q = z := by
  by_cases h : q = z
  · subst h; simp [Lit.sameKey]
  · have : (Lit.int .i64 q).sameKey (.int .i64 z) = false := by simp [Lit.sameKey, h]
    rw [this]; simp [h]
theorem delI_has {E : DataW Value} (z x : Int) : has (E.del (.int .i64 z)) (.int .i64 x) = true ↔ has E (.int .i64 x) = true ∧ x ≠ z := by
  by_cases he : x = z
  · subst he; rw [has_del_same]; simp
  · rw [has_del_other (by intro h; apply he; simpa using h)]; simp [he]
theorem rangesI_kept {w w' : World} {B r n cnt K : Nat} {E : DataW Value} {left : Lit → Bool} (h : w.ranges Try.prog 2 unitElem B r n E left cnt) (hg : w.grownBy w' (some K)) (h1 : B ≠ K) (h2 : r ≠ K) : w'.ranges Try.prog 2 unitElem B r n E left cnt :=
  h.kept hg (by simpa using h1) (by simpa using h2)

set_option maxRecDepth 10000 in
set_option maxHeartbeats 2000000 in
theorem copyI_any (bd bs nd ns : Nat) (Ed Es : DataW Value) (w : World) (hd : SetI w bd nd Ed) (hs : SetI w bs ns Es) (hne : bd ≠ bs) (hnd : nd + ns ≤ 1000000) :
    Calls Try.prog 52 #[.map (some bd), .map (some bs)] w fun r w' => ∃ E, r = .returned (.tuple #[]) ∧ SetI w' bd (nd + ns) E ∧ (∀ x, has E (.int .i64 x) = true ↔ has Ed (.int .i64 x) = true ∨ has Es (.int .i64 x) = true) ∧ w.grownBy w' (some bd) := by
  have HD : Hid (w.ownsMap Try.prog 2 unitElem bd nd Ed) := hd
  have HS : Hid (w.ownsMap Try.prog 2 unitElem bs ns Es) := hs
  have HN : Hid (bd ≠ bs ∧ nd + ns ≤ 1000000 ∧ bd < w.heap.size ∧ bs < w.heap.size) := ⟨hne, hnd, World.ownsMap.lt hd, World.ownsMap.lt hs⟩
  clear hd hs hne hnd
  go_enter Try.func52, Try.ntmps52
  go_wp2_with (at_range; refine wpList_range_own _ rfl _ 63 rfl 2 90 lawI Try.underlying63 unitElem bs ns Es rfl HS.out ?_; intro w0 hrg0 hg0 hs0)
  go_frame
  have HR0 : Hid (w0.ranges Try.prog 2 unitElem bs w.heap.size ns Es (has Es) (Maps.size Es)) := hrg0
  have HD0 : Hid (SetI w0 bd nd Ed) := World.ownsMap.kept HD.out hg0 (by simp)
  have HG0 : Hid (w.grownBy w0 (some bd)) := ⟨hg0.os, hg0.tape, hg0.output, hg0.size, fun k hk _ => hg0.block k hk (by simp)⟩
  have HZ0 : Hid (Maps.size Es ≤ ns) := HS.out.size_le
  clear hrg0 hg0 hs0
  go_loopw [4] (fun _ wr => ∃ (left : Lit → Bool) (cnt q : Nat) (E : DataW Value), wr.ranges Try.prog 2 unitElem bs w.heap.size ns Es left cnt ∧ Hid (SetI wr bd q E ∧ q + cnt ≤ nd + ns ∧ (∀ x, has E (.int .i64 x) = true ↔ has Ed (.int .i64 x) = true ∨ (left (.int .i64 x) = false ∧ has Es (.int .i64 x) = true)) ∧ w.grownBy wr (some bd)))
    (fun _ wr => wr.rangeLeft bs w.heap.size)
  case atStart => exact ⟨_, _, nd, Ed, HR0.out, HD0.out, by have := HZ0.out; omega, (fun x => ⟨.inl, fun h => h.elim id (fun h => by rw [h.1] at h; exact absurd h.2 (by decide))⟩), HG0.out⟩
  case round =>
    obtain ⟨left, cnt, q, E, hrg, HI⟩ := hrel
    have HG : Hid (wr.ranges Try.prog 2 unitElem bs w.heap.size ns Es left cnt) := hrg
    clear HR0 HD0 HG0
    go_wp2_with (first
      | (at_next; refine wpList_next_ranges _ rfl _ rfl 2 lawI unitElem (Value.int .i64) unitV keyI_inv unitV_inv bs w.heap.size ns _ _ _ rfl hrg ?_ ?_))
    · intro _ hl0
      clear hrg
      have HF : Hid (SetI wr bd (nd + ns) E ∧ (∀ x, has E (.int .i64 x) = true ↔ has Ed (.int .i64 x) = true ∨ has Es (.int .i64 x) = true) ∧ w.grownBy wr (some bd)) := ⟨World.ownsMap.mono HI.out.1 (by have := HI.out.2.1; omega), (fun x => (HI.out.2.2.1 x).trans (or_congr Iff.rfl ⟨fun h => h.2, fun h => ⟨hl0 _, h⟩⟩)), HI.out.2.2.2⟩
      clear hl0
      go_wp2
      go_end0
      exact ⟨E, rfl, HF.out.1, HF.out.2.1, HF.out.2.2⟩
    · intro x c kl y ps w3 cnt3 hkx hlk hRv hat hrg3 hlt3 hg3 hs3 hen
      obtain ⟨rfl, hwx⟩ := keyI_lit hkx
      simp only [unitV] at hRv hen ⊢
      have hst : ∀ (p : Addr) (wz : World), (storeCells p []).run Try.prog wz = .ok () wz := fun _ _ => rfl
      have HES : Hid (has Es (.int .i64 x) = true) := has_true_of_atKey hat
      have HE3 : Hid (w3.ownsMap Try.prog 2 unitElem bd q E) := World.ownsMap.kept HI.out.1 hg3 (by have := HN.out; simp; omega)
      have HG3 : Hid (w3.ranges Try.prog 2 unitElem bs w.heap.size ns Es (fun z => left z && !z.sameKey (.int .i64 x)) cnt3) := hrg3
      have HB3 : Hid (w.grownBy w3 (some bd) ∧ cnt3 < cnt ∧ bd ≠ w.heap.size) := ⟨HI.out.2.2.2.andThen hg3 (fun j hj => by cases hj; exact .inl (Nat.le_refl _)), hlt3, by have := HN.out; omega⟩
      have hqm : q ≤ 1000000 := by have := HI.out.2.1; have := HN.out; omega
      have HQM : Hid (q + 1 ≤ maxLen) := by show _ ≤ _; unfold maxLen; omega
      clear hrg hrg3 hRv hat hlk hg3 hs3 hlt3 hqm
      go_wp2_with (at_mapUpdate; refine wpList_mapUpdate_own _ rfl _ _ _ 63 rfl 2 90 lawI Try.underlying63 unitElem bd q E rfl (World.ownsMap.alloc HE3.out _) (by have := HQM.out; omega) _ _ _ rfl rfl hkx (.agg []) [] unitElem_mk ?_; intro w4 hown4 hgrow4)
      have HF : Hid (w4.ranges Try.prog 2 unitElem bs w.heap.size ns Es (fun z => left z && !z.sameKey (.int .i64 x)) cnt3 ∧ SetI w4 bd (q + 1) (putI E x) ∧ q + 1 + cnt3 ≤ nd + ns ∧ (∀ z, has (putI E x) (.int .i64 z) = true ↔ has Ed (.int .i64 z) = true ∨ ((left (.int .i64 z) && !(Lit.int .i64 z).sameKey (.int .i64 x)) = false ∧ has Es (.int .i64 z) = true)) ∧ w.grownBy w4 (some bd)) := by
        refine ⟨rangesI_kept (HG3.out.alloc _) hgrow4 (by have := HN.out; omega) (by have := HB3.out.2.2; omega), hown4, by have := HI.out.2.1; have := HB3.out.2.1; omega, fun z => ?_, (HB3.out.1.trans (World.grownBy_alloc _ _ _)).trans hgrow4⟩
        rw [putI_has HE3.out.isMap, HI.out.2.2.1 z, leftI]
        constructor
        · rintro ((h | h) | rfl)
          · exact .inl h
          · exact .inr ⟨.inl h.1, h.2⟩
          · exact .inr ⟨.inr rfl, HES.out⟩
        · rintro (h | ⟨h1 | rfl, h2⟩)
          · exact .inl (.inl h)
          · exact .inl (.inr ⟨h1, h2⟩)
          · exact .inr rfl
      clear hown4 hgrow4
      go_wp2
      go_roundw
      case rel => exact ⟨_, _, _, _, _, _, _, _, _, _, ⟨fun z => left z && !z.sameKey (.int .i64 x), cnt3, q + 1, putI E x, HF.out.1, HF.out.2⟩, rfl⟩
      case measure => rw [HF.out.1.left_eq, HG.out.left_eq]; exact HB3.out.2.1
end Go.Proofs.Ytglnnocfdlachaa
