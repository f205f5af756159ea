/-
  Piles: the data of a file piece by piece; the program's put. No condition but that sizes are small.
-/
import Derived.Test.YtbohaefmokbgbaaDkC
import Derived.Maps.Own
import Derived.Maps.OwnOps
import Derived.Maps.OwnSet
import Derived.Maps.Views
import Derived.Maps.RangeWalk
import Derived.Maps.AppendAt
import Derived.StringKeys
namespace Go.Proofs.Ytbohaefmokbgbaa
open Go.RowKit Go.Maps
set_option linter.unusedVariables false

/-- of the blocks that were there only those of R may have turned -/
structure Turn (R : Nat → Prop) (w w' : World) : Prop where
  os : w'.os = w.os
  tape : w'.tape = w.tape
  output : w'.output = w.output
  size : w.heap.size ≤ w'.heap.size
  block : ∀ k, k < w.heap.size → ¬ R k → w'.heap[k]? = w.heap[k]?
theorem Turn.refl (R : Nat → Prop) (w : World) : Turn R w w := ⟨rfl, rfl, rfl, Nat.le_refl _, fun _ _ _ => rfl⟩
theorem Turn.trans {R : Nat → Prop} {a b c : World} (h : Turn R a b) (k : Turn R b c) : Turn R a c :=
  ⟨k.os.trans h.os, k.tape.trans h.tape, k.output.trans h.output, Nat.le_trans h.size k.size, fun i hi hr => (k.block i (Nat.lt_of_lt_of_le hi h.size) hr).trans (h.block i hi hr)⟩
theorem Turn.mono {R S : Nat → Prop} {a b : World} (h : Turn R a b) (hs : ∀ k, k < a.heap.size → R k → S k) : Turn S a b := ⟨h.os, h.tape, h.output, h.size, fun i hi hr => h.block i hi fun q => hr (hs i hi q)⟩
theorem Turn.of_below {R : Nat → Prop} {a b : World} (h : Below a.heap.size a b) : Turn R a b := ⟨h.os, h.tape, h.output, h.size, fun i hi _ => h.block i hi⟩
theorem Turn.of_grown {R : Nat → Prop} {a b : World} {row : Option Nat} (h : a.grownBy b row) (hr : ∀ k, row = some k → R k) : Turn R a b := ⟨h.os, h.tape, h.output, h.size, fun i hi hn => h.block i hi fun e => hn (hr i e.symm)⟩
theorem Turn.of_set {R : Nat → Prop} (a : World) (g i : Nat) (u : Value) (hr : R g) : Turn R a (a.setCell ⟨g, i, none⟩ u) := ⟨rfl, rfl, rfl, by simp [World.setCell], fun k hk hn => Below.heap_setCell _ _ _ _ fun e => hn (by have e' : k = g := e; rw [e']; exact hr)⟩
theorem Turn.below {R : Nat → Prop} {a b : World} {B : Nat} (h : Turn R a b) (hB : B ≤ a.heap.size) (hr : ∀ k, k < B → ¬ R k) : Below B a b := ⟨h.os, h.tape, h.output, h.size, fun i hi => h.block i (by omega) (hr i hi)⟩

/-- a slice at or above base, in memory of its own, that holds the texts P -/
def OwnS (w : World) (base : Nat) (v : Value) (P : List ByteArray) : Prop := w.ownsRow base 9 1 v P.length (P.map Value.string)
theorem info9 : (Try.prog.info? 9).map (fun i => (i.zero, i.size, i.bytes)) = some (some (.string ⟨#[]⟩), 1, 16) := by kernel_rfl
theorem oneS (P : List ByteArray) : ∀ u ∈ P.map Value.string, u.oneCell' = true := by
  intro u hu
  obtain ⟨x, _, rfl⟩ := List.mem_map.1 hu
  rfl
theorem OwnS.kept {w w' : World} {base : Nat} {v : Value} {P : List ByteArray} (h : OwnS w base v P) (he : ∀ k, v.ownBlock = some k → w'.heap[k]? = w.heap[k]?) : OwnS w' base v P := ownsRow_kept h he
/-- the block of a slice is none of another type -/
theorem OwnS.ne {w : World} {base : Nat} {v : Value} {P : List ByteArray} (h : OwnS w base v P) {g : Nat} {cs : Array Value} {fr : Nat × Nat} (hg : w.heap[g]? = some (.cells cs 119 fr)) : v.ownBlock ≠ some g := by
  intro e
  rcases h.2 with ⟨h1, _⟩ | ⟨q, cap, cur, hv, hq, hh, _⟩
  · rw [h1] at e; cases e
  · rw [hv] at e
    have e' : some q = some g := e
    cases e'
    rw [hg] at hh
    simp at hh
/-- the pile in block g: pieces P in the slice v -/
structure PileAt (w : World) (base g : Nat) (v : Value) (P : List ByteArray) (z : Nat) : Prop where
  blk : w.heap[g]? = some (.cells #[v, .int .i64 z] 119 (0, 0))
  ge : base ≤ g
  own : OwnS w base v P
theorem PileAt.kept {w w' : World} {base g : Nat} {v : Value} {P : List ByteArray} {z : Nat} (h : PileAt w base g v P z) (h1 : w'.heap[g]? = w.heap[g]?) (h2 : ∀ k, v.ownBlock = some k → w'.heap[k]? = w.heap[k]?) : PileAt w' base g v P z := ⟨h1.trans h.blk, h.ge, h.own.kept h2⟩

theorem pput_step {w w4 : World} {base g : Nat} {v v' : Value} {P : List ByteArray} {z n m : Nat} {s : ByteArray} (h : PileAt w base g v P z) (hn : n = P.length) (hm : m = s.size) (hown : w4.ownsRow base 9 1 v' (n + 1) (P.map Value.string ++ [Value.string s])) (hgrow : (w.alloc (.cells #[.string s] 9)).grownBy w4 v.ownBlock) (hat : v'.ownBlock = v.ownBlock ∨ v'.ownBlock = some (w.alloc (.cells #[.string s] 9)).heap.size) :
    w4.cell? ⟨g, 0, none⟩ = some v ∧ w4.frozen? ⟨g, 0, none⟩ = false ∧ (w4.setCell ⟨g, 0, none⟩ v').cell? ⟨g, 1, none⟩ = some (.int .i64 z) ∧ (w4.setCell ⟨g, 0, none⟩ v').frozen? ⟨g, 1, none⟩ = false ∧
    Hid (PileAt ((w4.setCell ⟨g, 0, none⟩ v').setCell ⟨g, 1, none⟩ (.int .i64 ((z : Int) + (m : Int)))) base g v' (P ++ [s]) (z + s.size) ∧ (v'.ownBlock = v.ownBlock ∨ ∃ q, v'.ownBlock = some q ∧ w.heap.size ≤ q) ∧ Turn (fun k => k = g ∨ v.ownBlock = some k) w ((w4.setCell ⟨g, 0, none⟩ v').setCell ⟨g, 1, none⟩ (.int .i64 ((z : Int) + (m : Int))))) := by
  have hT4 : Turn (fun k => v.ownBlock = some k) w w4 := (Turn.of_below ((Below.refl _ w).alloc (Nat.le_refl _) _)).trans (Turn.of_grown hgrow (fun k hk => hk))
  have g4 : w4.heap[g]? = some (.cells #[v, .int .i64 z] 119 (0, 0)) := (hT4.block g (lt_of_block h.blk) (h.own.ne h.blk)).trans h.blk
  have o4 : OwnS w4 base v' (P ++ [s]) := by
    unfold OwnS
    rw [List.length_append, List.map_append, ← hn]
    exact hown
  have g5 := heap_setCell_same w4 g 0 _ 119 v' g4
  refine ⟨cellN g4, frozN g4, by rw [cellN g5]; rfl, frozN g5, ⟨?_, h.ge, ?_⟩, ?_, ?_⟩
  · rw [heap_setCell_same _ g 1 _ 119 _ g5, hm]
    simp
  · refine o4.kept fun k hk => ?_
    have hne : k ≠ g := fun e => o4.ne g4 (by rw [hk, e])
    rw [Below.heap_setCell _ _ _ _ hne, Below.heap_setCell _ _ _ _ hne]
  · rcases hat with h | h
    · exact .inl h
    · exact .inr ⟨_, h, by simp⟩
  · exact ((hT4.mono (fun k _ h => .inr h)).trans (Turn.of_set _ g 0 _ (.inl rfl))).trans (Turn.of_set _ g 1 _ (.inl rfl))

set_option maxRecDepth 4000 in
set_option maxHeartbeats 2000000 in
theorem pput_any (base g : Nat) (v : Value) (P : List ByteArray) (z : Nat) (s : ByteArray) (w : World) (h : PileAt w base g v P z) (hP : P.length ≤ 1000000) (hz : z + s.size ≤ 2000000000) (hb : base ≤ w.heap.size) :
    Calls Try.prog 90 #[.pointer (some ⟨g, 0, none⟩), .string s] w fun e w' => e = .returned (.tuple #[]) ∧ ∃ v', PileAt w' base g v' (P ++ [s]) (z + s.size) ∧ (v'.ownBlock = v.ownBlock ∨ ∃ q, v'.ownBlock = some q ∧ w.heap.size ≤ q) ∧ Turn (fun k => k = g ∨ v.ownBlock = some k) w w' := by
  obtain ⟨i0, hi, hz0, hz1, hz2⟩ := info_parts info9
  have HG := (show Hid _ from h)
  have c0 : w.cell? ⟨g, 0, none⟩ = some v := cellN h.blk
  have c1 : w.cell? ⟨g, 1, none⟩ = some (.int .i64 z) := cellN h.blk
  have hgl : g < w.heap.size := lt_of_block h.blk
  obtain ⟨n, hn⟩ : ∃ n, n = P.length := ⟨_, rfl⟩
  obtain ⟨m, hm⟩ : ∃ m, m = s.size := ⟨_, rfl⟩
  have hmI : (s.size : Int) = (m : Int) := by rw [hm]
  have HO : Hid ((w.alloc (.cells #[.string s] 9)).ownsRow base 9 1 v n (P.map Value.string)) := by
    rw [hn]
    exact h.own.alloc _
  have HN : Hid (n = P.length ∧ m = s.size ∧ n ≤ 1000000 ∧ z + m ≤ 2000000000) := ⟨hn, hm, by omega, by omega⟩
  have HL : Hid (∀ j u, [Value.string s][j]? = some u → (w.alloc (.cells #[.string s] 9)).cell? ((⟨w.heap.size, 0, none⟩ : Addr).add j) = some u) := by
    have := World.news_of_block (heap_alloc_new w (.cells #[.string s] 9))
    show ∀ j u, _
    simpa using this
  have hb1 : Hid (n + 1 ≤ maxLen) := by show _ ≤ _; unfold maxLen; omega
  have hb2 : Hid ((n + 1) * 16 ≤ 140737488355328) := by show _ ≤ _; omega
  have hb3 : Hid (base ≤ (w.alloc (.cells #[.string s] 9)).heap.size) := by show _ ≤ _; simp; omega
  have HW : Hid (base ≤ w.heap.size ∧ g < w.heap.size) := ⟨hb, hgl⟩
  clear hn hm hP hz hb h
  go_enter Try.func90, Try.ntmps90
  have hzm := HN.out.2.2.2
  have hzI : IntKind.i64.wrap ((z : Int) + (m : Int)) = (z : Int) + (m : Int) := by rw [IntKind.wrap_i64]; omega
  clear hzm
  go_wp2_with (first
    | (at_builtin
       refine wpList_append_lies _ rfl _ _ 61 rfl base 9 i0 (.string ⟨#[]⟩) 1 16 Try.underlying61 hi hz0 hz1 hz2 rfl (by decide) v n _ rfl HO.out ⟨w.heap.size, 0, none⟩ 1 1 [.string s] rfl rfl HL.out (oneS [s]) (by decide) hb1.out hb2.out hb3.out _ rfl ?_
       intro q cap4 w4 hown hgrow hat hq4
       obtain ⟨d0, f0, d1, f1, HE⟩ := pput_step HG.out HN.out.1 HN.out.2.1 hown hgrow (hat.imp (fun h => h.symm) (fun h => congrArg some h))
       clear c0 c1 hown hgrow hat hq4))
  go_end0
  exact ⟨rfl, _, HE.out⟩
end Go.Proofs.Ytbohaefmokbgbaa
