/-
  slices.Backward over a row of pointers: it hands out each place with what lies there, the last one first, to whatever body keeps the row and the box. No condition but that the slice reads.
-/
import Derived.Test.YtjfciokpnhnhbaaSqW
import Derived.RangeFuncNested
import Derived.RangeFuncBound
import Derived.RangeFuncCalls
import Derived.RangeFuncLeaves
import Derived.RangeFuncBox
import Derived.Shelf.Abstract
import Derived.Shelf.RegionOpen
import Derived.OwnWalkIn
import Derived.TacticsInMore
import Derived.LoopNIn
import Derived.LoopIn
import Derived.Maps.AppendAt
namespace Go.Proofs.Ytjfciokpnhnhbaa
open Go.RowKit Go.Shelf
attribute [local go_sem] Oper.semAt_some
set_option linter.unusedVariables false

/-- what a round keeps: the blocks below n₀, and the iterator's box -/
def KpB (n₀ Bs : Nat) (W W' : World) : Prop := Below n₀ W W' ∧ W'.heap[Bs]? = W.heap[Bs]?
theorem KpB.t {n₀ Bs : Nat} {A B C : World} (h : KpB n₀ Bs A B) (k : KpB n₀ Bs B C) : KpB n₀ Bs A C := ⟨h.1.trans k.1, k.2.trans h.2⟩
theorem KpB.b {n₀ Bs : Nat} {w : World} (hn : n₀ ≤ w.heap.size) (hB : Bs < w.heap.size) (W : World) (l : Nat) (o o' : Obj) (hl : w.heap.size ≤ l) (h : W.heap[l]? = some o) (hc : o.isCells = false) (hw : o.isWalk = false) : KpB n₀ Bs W (W.putObj l o') :=
  ⟨belowK_b hn W l o o' hl h hc hw, World.putObj_heap_other (by omega)⟩
theorem KpB.refl (n₀ Bs : Nat) (W : World) : KpB n₀ Bs W W := ⟨Below.refl _ _, rfl⟩
/-- the last k of the first len places, the last one first -/
def downL {α : Type} (f : Nat → α) (len k : Nat) : List α := (List.range k).map fun t => f (len - 1 - t)
theorem downL_len {α : Type} (f : Nat → α) (len k : Nat) : (downL f len k).length = k := by unfold downL; simp
theorem downL_succ {α : Type} (f : Nat → α) (len k : Nat) : downL f len (k + 1) = downL f len k ++ [f (len - 1 - k)] := by unfold downL; rw [List.range_succ, List.map_append]; rfl

set_option maxRecDepth 100000 in
set_option maxHeartbeats 2000000 in
/-- the iterator that slices.Backward hands back -/
theorem back1_in {α : Type} (g : Nat → α) (ix : α → Int) (pt : α → Value) (n : Nat) (hn : 1 ≤ n) (l Bs n₀ b off len cap : Nat) (hlen : len ≤ 1000000) (hb : b < n₀) (hix : ∀ j, j < len → ix (g j) = j) (J Jx : List α → World → Prop)
    (hY : ∀ pre x W, J pre W → pre.length < len → YieldAt Fence.wide (n - 1) Try.prog l #[.int .i64 (ix x), pt x] W fun e W' =>
      (e = .returned (.bool true) ∧ J (pre ++ [x]) W' ∧ KpB n₀ Bs W W') ∨ (e = .returned (.bool false) ∧ Jx (pre ++ [x]) W'))
    (W : World) (hBs : Boxed W Bs 58 (.slice (some ⟨b, off, none⟩) len cap)) (hc : ∀ j, j < len → W.cell? ⟨b, off + j, none⟩ = some (pt (g j))) (h0 : J [] W) :
    CallsIn Fence.wide n Try.prog 64 #[.func (.yield l) #[] #[], .pointer (some ⟨Bs, 0, none⟩)] W fun e W' => (∃ v, e = .returned v) ∧
      ((∃ ys, ys = downL g len len ∧ J ys W') ∨ (∃ pre, True ∧ Jx pre W')) := by
  have hbc := hBs.cell
  refine callsIn_of_wp Try.func64 rfl trivial ?_ rfl
  simp only [Try.ntmps64, List.size_toArray, List.length_cons, List.length_nil, Nat.reduceAdd, Nat.reduceSub, Array.replicate_succ, Array.replicate_zero, List.push_toArray, List.append_toArray, List.nil_append, List.cons_append]
  have hw0 : IntKind.i64.wrap ((len : Int) - 1) = (len : Int) - 1 := by rw [IntKind.wrap_i64]; omega
  gi_wp2
  gi_loopw [3] (fun i wr => ∃ k : Nat, k ≤ len ∧ i = .int .i64 ((len : Int) - 1 - k) ∧ J (downL g len k) wr ∧ KpB n₀ Bs W wr)
    (fun i _ => (Go.RowKit.intOf i + 1).toNat)
  case atStart => exact ⟨0, Nat.zero_le _, by simp, h0, KpB.refl _ _ _⟩
  case round =>
    obtain ⟨k, hk, rfl, hJs, hnx⟩ := hrel
    have hbx : Boxed wr Bs 58 (.slice (some ⟨b, off, none⟩) len cap) := hnx.2.trans hBs
    have hbc2 := hbx.cell
    by_cases hlt : k < len
    · obtain ⟨j, hj⟩ : ∃ j : Nat, (j : Int) = (len : Int) - 1 - k := ⟨len - 1 - k, by omega⟩
      have hjl : j < len := by omega
      have hjn : j = len - 1 - k := by omega
      rw [← hj]
      obtain ⟨fn, tmps, assign, body, hy, hR⟩ := hY _ (g j) wr hJs (by rw [downL_len]; exact hlt)
      rw [hix j hjl] at hy
      obtain ⟨pv, hpv⟩ : ∃ pv, pv = pt (g j) := ⟨_, rfl⟩
      rw [← hpv] at hy
      have hcx : wr.cell? ⟨b, off + j, none⟩ = some pv := by rw [hpv]; exact (hnx.1.cell (p := ⟨b, off + j, none⟩) hb).trans (hc j hjl)
      have hj0 : (0 : Int) ≤ (j : Int) := by omega
      have hjI : (j : Int) < (len : Int) := by omega
      have HJ : Hid ((j : Int) = (len : Int) - 1 - k ∧ j = len - 1 - k ∧ k < len) := ⟨hj, hjn, hlt⟩
      clear hj hjn hlt hpv hk
      have hw1 : IntKind.i64.wrap ((j : Int) - 1) = (j : Int) - 1 := by rw [IntKind.wrap_i64]; omega
      gi_wp2
      refine hR.mono ?_
      rintro e W3 (⟨rfl, hJ3, hk3⟩ | ⟨rfl, hJx3⟩)
      · gi_wp2
        go_roundw
        case rel => exact ⟨k + 1, by have := HJ.out; omega, by have := HJ.out; first | (congr 1; omega) | (simp; omega), by rw [downL_succ, ← HJ.out.2.1]; exact hJ3, hnx.t hk3⟩
        case measure => simp [Go.RowKit.intOf] <;> omega
      · gi_wp2
        refine bodyPost_ret (results_none rfl _ _ _) rfl ?_
        exact ⟨⟨_, rfl⟩, .inr ⟨_, trivial, hJx3⟩⟩
    · have hkl : k = len := by omega
      subst hkl
      have hneg : ¬ (0 : Int) ≤ (k : Int) - 1 - k := by omega
      gi_wp2
      go_end0
      first | exact ⟨⟨_, rfl⟩, .inl ⟨_, rfl, hJs⟩⟩ | exact ⟨⟨_, rfl⟩, .inl hJs⟩

set_option maxRecDepth 100000 in
set_option maxHeartbeats 1000000 in
/-- .. at a slice with nothing in it: no round -/
theorem back1_nil_in {α : Type} (n : Nat) (l Bs cap : Nat) (a : Option Addr) (J : List α → World → Prop) (W : World) (hBs : Boxed W Bs 58 (.slice a 0 cap)) (h0 : J [] W) :
    CallsIn Fence.wide n Try.prog 64 #[.func (.yield l) #[] #[], .pointer (some ⟨Bs, 0, none⟩)] W fun e W' => (∃ v, e = .returned v) ∧ J [] W' := by
  have hbc := hBs.cell
  refine callsIn_of_wp Try.func64 rfl trivial ?_ rfl
  simp only [Try.ntmps64, List.size_toArray, List.length_cons, List.length_nil, Nat.reduceAdd, Nat.reduceSub, Array.replicate_succ, Array.replicate_zero, List.push_toArray, List.append_toArray, List.nil_append, List.cons_append]
  have hw0 : IntKind.i64.wrap ((0 : Int) - 1) = -1 := by decide
  gi_wp2
  gi_loopw [3] (fun i wr => i = .int .i64 (-1) ∧ J [] wr) (fun _ _ => 0)
  case atStart => exact ⟨by first | rfl | decide | simp, h0⟩
  case round =>
    obtain ⟨rfl, hJs⟩ := hrel
    gi_wp2
    go_end0
    exact ⟨⟨_, rfl⟩, hJs⟩

/-- a row of pointers that reads -/
def RdP (w : World) (n₀ : Nat) (v : Value) (xs : List Value) : Prop := ∃ a cap, v = .slice a xs.length cap ∧ (0 < xs.length → ∃ b off, a = some ⟨b, off, none⟩ ∧ b < n₀ ∧ ∀ j u, xs[j]? = some u → w.cell? ⟨b, off + j, none⟩ = some u)
theorem RdP.below {w w' : World} {n₀ : Nat} {v : Value} {xs : List Value} (h : RdP w n₀ v xs) (hB : Below n₀ w w') : RdP w' n₀ v xs := by
  obtain ⟨a, cap, rfl, h1⟩ := h
  refine ⟨a, cap, rfl, fun hp => ?_⟩
  obtain ⟨b, off, e, hb, hc⟩ := h1 hp
  exact ⟨b, off, e, hb, fun j u hu => (hB.cell (p := ⟨b, off + j, none⟩) hb).trans (hc j u hu)⟩

/-- slices.Backward hands back a value that goes through the row from its end, at KpB -/
theorem back_stops {α : Type} (g : Nat → α) (ix : α → Int) (pt : α → Value) (n : Nat) (hn : 1 ≤ n) (Bs n₀ : Nat) (v : Value) (xs : List Value) (w : World) (hlen : xs.length ≤ 1000000) (hix : ∀ j, j < xs.length → ix (g j) = j) (hpt : ∀ j, j < xs.length → xs[j]? = some (pt (g j)))
    (hn₀ : n₀ ≤ w.heap.size) (hB : Boxed w Bs 58 v) (hv : RdP w n₀ v xs) :
    SeqStopsK Fence.wide n Try.prog 64 #[.pointer (some ⟨Bs, 0, none⟩)] (fun x : α => #[Value.int .i64 (ix x), pt x]) (KpB n₀ Bs) (fun ys => ys = downL g xs.length xs.length) (fun _ => True) xs.length w := fun l J Jx W hW _ _ hY h0 => by
  have hBW : Boxed W Bs 58 v := (hW.block _ hB.lt).trans hB
  obtain ⟨a, cap, rfl, h1⟩ := hv.below (hW.mono hn₀)
  by_cases hp : 0 < xs.length
  · obtain ⟨b, off, rfl, hb, hc⟩ := h1 hp
    exact back1_in g ix pt n hn l Bs n₀ b off xs.length cap hlen hb hix J Jx hY W hBW (fun j hj => hc j _ (hpt j hj)) h0
  · have h0' : xs.length = 0 := by omega
    rw [h0'] at hBW ⊢
    refine (back1_nil_in n l Bs cap a J W hBW h0).mono ?_
    rintro e W' ⟨he, hJ⟩
    exact ⟨he, .inl ⟨[], rfl, hJ⟩⟩
set_option maxHeartbeats 1000000 in
/-- slices.Backward: the slice is boxed, the function value takes the box along -/
theorem back_any (v : Value) (w : World) (a : Option Addr) (len cap : Nat) (hv : v = .slice a len cap) :
    Calls Try.prog 54 #[v] w fun e w' => e = .returned (.func (.func 64) #[] #[.pointer (some ⟨w.heap.size, 0, none⟩)]) ∧ w' = w.alloc (.cells #[v] 58) := by
  subst hv
  go_enter Try.func54, Try.ntmps54
  go_wp2
  go_ret
  exact ⟨rfl, rfl⟩
end Go.Proofs.Ytjfciokpnhnhbaa
