/-
  The program's iterator keysByMember hands out each member of each epoch with the epoch's key, in order, to whatever body; the program's HasKey. No condition but that the slices read.
-/
import Derived.Test.YtdohjinlgoadoaaSpecHas
import Derived.RangeFuncNested
import Derived.RangeFuncBound
import Derived.RangeFuncCalls
import Derived.RangeFuncLeaves
import Derived.RangeFuncFrom
import Derived.Shelf.Abstract
import Derived.Shelf.RegionOpen
import Derived.OwnWalkIn
import Derived.TacticsInMore
import Derived.LoopNIn
import Derived.LoopIn
namespace Go.Proofs.Ytdohjinlgoadoaa
open Go.RowKit Go.Shelf
attribute [local go_sem] Oper.semAt_some
set_option linter.unusedVariables false

/-- what a round that goes on keeps: every cell -/
def KeepsCells (W W' : World) : Prop := ∀ b o v, W.cell? ⟨b, o, none⟩ = some v → W'.cell? ⟨b, o, none⟩ = some v

theorem keepsCells_t {A B C : World} (h : KeepsCells A B) (k : KeepsCells B C) : KeepsCells A C := fun b o v e => k b o v (h b o v e)

theorem keepsCells_b {w : World} (W : World) (l : Nat) (o o' : Obj) (_ : w.heap.size ≤ l) (h : W.heap[l]? = some o) (hc : o.isCells = false) (_ : o.isWalk = false) : KeepsCells W (W.putObj l o') := by
  intro b x v e
  have hb : b ≠ l := by
    rintro rfl
    simp [World.cell?, h] at e
    cases o <;> simp [Obj.isCells] at hc e
  rw [← e]
  exact World.cell?_of_block (World.putObj_heap_other hb)

theorem cell_lt' {w : World} {b o : Nat} {v : Value} (h : w.cell? ⟨b, o, none⟩ = some v) : b < w.heap.size := by
  rcases Nat.lt_or_ge b w.heap.size with h' | h'
  · exact h'
  · simp [World.cell?, Array.getElem?_eq_none h'] at h

/-- the pairs of the epochs below i, and of epoch i the first j -/
def partOf (K : Nat → Int) (L : Nat → Nat) (M : Nat → Nat → Int) (i j : Nat) : List (Int × Int) := pairsOf K L M i ++ (List.range j).map fun t => (M i t, K i)

theorem part_succ (K : Nat → Int) (L : Nat → Nat) (M : Nat → Nat → Int) (i j : Nat) : partOf K L M i (j + 1) = partOf K L M i j ++ [(M i j, K i)] := by
  unfold partOf
  rw [List.range_succ, List.map_append, ← List.append_assoc]
  rfl
theorem part_full (K : Nat → Int) (L : Nat → Nat) (M : Nat → Nat → Int) (i : Nat) : partOf K L M i (L i) = pairsOf K L M (i + 1) := by
  unfold partOf pairsOf
  rw [List.range_succ, List.flatMap_append]
  simp
theorem part_zero (K : Nat → Int) (L : Nat → Nat) (M : Nat → Nat → Int) (i : Nat) : partOf K L M i 0 = pairsOf K L M i := by simp [partOf]
theorem pairs_prefix (K : Nat → Int) (L : Nat → Nat) (M : Nat → Nat → Int) : ∀ (n d : Nat), pairsOf K L M n <+: pairsOf K L M (n + d)
  | n, 0 => List.prefix_refl _
  | n, d + 1 => by
    refine (pairs_prefix K L M n d).trans ?_
    show pairsOf K L M (n + d) <+: pairsOf K L M (n + d + 1)
    unfold pairsOf
    rw [List.range_succ, List.flatMap_append]
    exact List.prefix_append _ _
theorem part_prefix {K : Nat → Int} {L : Nat → Nat} {M : Nat → Nat → Int} {i j n : Nat} (hi : i < n) (hj : j ≤ L i) : partOf K L M i j <+: pairsOf K L M n := by
  have h1 : partOf K L M i j <+: partOf K L M i (L i) := by
    unfold partOf
    obtain ⟨d, hd⟩ : ∃ d, L i = j + d := ⟨L i - j, by omega⟩
    rw [hd, List.range_add, List.map_append, ← List.append_assoc]
    exact List.prefix_append _ _
  rw [part_full] at h1
  obtain ⟨d, hd⟩ : ∃ d, n = i + 1 + d := ⟨n - (i + 1), by omega⟩
  rw [hd]
  exact h1.trans (pairs_prefix K L M (i + 1) d)
theorem part_lt {K : Nat → Int} {L : Nat → Nat} {M : Nat → Nat → Int} {i j n : Nat} (hi : i < n) (hj : j < L i) : (partOf K L M i j).length < (pairsOf K L M n).length := by
  have h := (part_prefix (K := K) (M := M) hi (show j + 1 ≤ L i by omega)).length_le
  rw [part_succ, List.length_append] at h
  simp at h
  omega

abbrev encP (p : Int × Int) : Array Value := #[.int .i64 p.1, .int .i64 p.2]

set_option maxRecDepth 100000 in
set_option maxHeartbeats 2000000 in
theorem iter_in (n : Nat) (hn : 1 ≤ n) (l Bl : Nat) (a : Option Addr) (len cap : Nat) (K : Nat → Int) (L : Nat → Nat) (M : Nat → Nat → Int) (J Jx : List (Int × Int) → World → Prop)
    (W : World) (hJ : AbidesFrom W.heap.size J)
    (hY : ∀ pre x W1, J pre W1 → pre.length < (pairsOf K L M len).length → YieldAt Fence.wide (n - 1) Try.prog l (encP x) W1 fun e W' =>
      (e = .returned (.bool true) ∧ J (pre ++ [x]) W' ∧ KeepsCells W1 W') ∨ (e = .returned (.bool false) ∧ Jx (pre ++ [x]) W'))
    (hBl : W.cell? ⟨Bl, 0, none⟩ = some (.slice a len cap)) (hI : IsEps W a len cap K L M) (h0 : J [] W) :
    CallsIn Fence.wide n Try.prog 23 #[.func (.yield l) #[] #[], .pointer (some ⟨Bl, 0, none⟩)] W fun e W' => (∃ v, e = .returned v) ∧
      ((∃ ys, ys = pairsOf K L M len ∧ J ys W') ∨ (∃ pre, pre <+: pairsOf K L M len ∧ Jx pre W')) := by
  obtain ⟨hlc, hcm, hc⟩ := hI
  refine callsIn_of_wp Try.func23 rfl trivial ?_ rfl
  simp only [Try.ntmps23, List.size_toArray, List.length_cons, List.length_nil, Nat.reduceAdd, Nat.reduceSub, Array.replicate_succ, Array.replicate_zero, List.push_toArray, List.append_toArray, List.nil_append, List.cons_append]
  gi_wp2
  gi_loopw [4, 6, 9] (fun _ _ i wr => ∃ k : Nat, k ≤ len ∧ i = .int .i64 k ∧ J (pairsOf K L M k) wr ∧ KeepsCells W wr) (fun _ _ i _ => len - (intOf i).toNat)
  case atStart => exact ⟨0, Nat.zero_le _, rfl, h0, fun _ _ _ h => h⟩
  case round =>
    obtain ⟨k, hk, rfl, hJk, hKc⟩ := hrel
    by_cases hlt : k < len
    · obtain ⟨b, off, A, C, rfl, hbs, hcell⟩ := hc (by omega)
      obtain ⟨c1, c2, c3⟩ := hcell k hlt
      have d1 := hKc _ _ _ c1
      have d2 := hKc _ _ _ c2
      have hLk : L k ≤ 9223372036854775807 := by have := c3.1; have := c3.2.1; omega
      have HC := (show Hid _ from hc)
      clear hcell hc c1 c2
      have hJA : J (partOf K L M k 0) (wr.alloc (.cells #[.int .i64 (K k), .slice (A k) (L k) (C k)] 35)) := by
        rw [part_zero]
        exact hJ _ _ _ none hJk (World.grownBy_alloc wr _ none) (fun r e => by cases e)
      have hKA : KeepsCells W (wr.alloc (.cells #[.int .i64 (K k), .slice (A k) (L k) (C k)] 35)) := by
        intro b' o' v' e'
        have := hKc _ _ _ e'
        rw [World.cell?_of_block (Below.heap_alloc wr _ b' (cell_lt' this))]
        exact this
      have q0 : (wr.alloc (.cells #[.int .i64 (K k), .slice (A k) (L k) (C k)] 35)).cell? ⟨wr.heap.size, 0, none⟩ = some (.int .i64 (K k)) := by simp
      generalize A k = Ak at *
      gi_wp2
      gi_loopw [6, 16] (fun _ i w2 => ∃ j : Nat, j ≤ L k ∧ i = .int .i64 j ∧ J (partOf K L M k j) w2 ∧ KeepsCells W w2 ∧ w2.cell? ⟨wr.heap.size, 0, none⟩ = some (.int .i64 (K k))) (fun _ i _ => L k - (intOf i).toNat)
      case atStart => exact ⟨0, Nat.zero_le _, rfl, hJA, hKA, q0⟩
      case round =>
        obtain ⟨j, hj, rfl, hJj, hKj, qj⟩ := hrel
        by_cases hjl : j < L k
        · obtain ⟨b2, off2, rfl, hb2, hcell2⟩ := c3.2.2 (by omega)
          have x1 := hKj _ _ _ (hcell2 j hjl)
          clear hcell2
          obtain ⟨fn, tmps, assign, body, hy, hR⟩ := hY (partOf K L M k j) (M k j, K k) _ hJj (part_lt hlt hjl)
          dsimp only [encP] at hy
          gi_wp2
          refine hR.mono ?_
          rintro e W3 (⟨rfl, hJ3, hk3⟩ | ⟨rfl, hJx3⟩)
          · have q3 := hk3 _ _ _ qj
            rw [← part_succ] at hJ3
            gi_wp2
            go_roundw
            case rel => exact ⟨j + 1, by omega, by go_num, hJ3, keepsCells_t hKj hk3, q3⟩
            case measure => simp [intOf]; omega
          · rw [← part_succ] at hJx3
            gi_wp2
            refine bodyPost_ret (results_none rfl _ _ _) rfl ?_
            exact ⟨⟨_, rfl⟩, .inr ⟨_, part_prefix hlt (by omega), hJx3⟩⟩
        · have hjL : j = L k := by omega
          subst hjL
          rw [part_full] at hJj
          gi_wp2
          go_roundw
          case rel => exact ⟨k + 1, by omega, by go_num, hJj, hKj⟩
          case measure => simp [intOf]; omega
    · have hke : k = len := by omega
      subst hke
      gi_wp2
      go_end0
      exact ⟨⟨_, rfl⟩, .inl ⟨_, rfl, hJk⟩⟩

theorem iter_stops (n : Nat) (hn : 1 ≤ n) (Bl : Nat) (a : Option Addr) (len cap : Nat) (K : Nat → Int) (L : Nat → Nat) (M : Nat → Nat → Int) (w : World)
    (hBl : w.cell? ⟨Bl, 0, none⟩ = some (.slice a len cap)) (hI : IsEps w a len cap K L M) :
    SeqStopsK Fence.wide n Try.prog 23 #[.pointer (some ⟨Bl, 0, none⟩)] encP KeepsCells (fun xs => xs = pairsOf K L M len) (fun pre => pre <+: pairsOf K L M len) (pairsOf K L M len).length w := by
  intro l J Jx W hW hJ _ hY h0
  exact iter_in n hn l Bl a len cap K L M J Jx W hJ hY ((hW.cell (p := ⟨Bl, 0, none⟩) (cell_lt' hBl)).trans hBl) (hI.below hW) h0

set_option maxHeartbeats 400000 in
theorem keysBy_in (n : Nat) (a : Option Addr) (len cap : Nat) (w : World) :
    CallsIn Fence.wide n Try.prog 17 #[.slice a len cap] w fun e w' => e = .returned (.func (.func 23) #[] #[.pointer (some ⟨w.heap.size, 0, none⟩)]) ∧ w' = w.alloc (.cells #[.slice a len cap] 25) := by
  refine callsIn_of_wp Try.func17 rfl trivial ?_ rfl
  simp only [Try.ntmps17, List.size_toArray, List.length_cons, List.length_nil, Nat.reduceAdd, Nat.reduceSub, Array.replicate_succ, Array.replicate_zero, List.push_toArray, List.append_toArray, List.nil_append, List.cons_append]
  gi_wp2
  go_ret
  exact ⟨rfl, rfl⟩

end Go.Proofs.Ytdohjinlgoadoaa
