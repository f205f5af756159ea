/-
  The program's withNodes: it puts a term's nodes behind a slice of nodes of its own. No condition but the slice's length.
-/
import Derived.Test.YtgfonjjlhebkgaaPr4
import Derived.Test.YtgfonjjlhebkgaaTMark
import Derived.Deep.AppendLies
import Derived.OwnWalk
namespace Go.Proofs.Ytgfonjjlhebkgaa
open Go.RowKit
set_option linter.unusedVariables false

section
variable (v : Value) (w : World)
theorem as50 : (Instr.typeAssert (.iface 50 v) 34 50 true).run Try.prog w = .ok (.tuple #[v, .bool true]) w := by
  simp [Instr.typeAssert, run_underlying Try.underlying50, go_sem, Result.andThen]
theorem as52 : (Instr.typeAssert (.iface 52 v) 34 52 true).run Try.prog w = .ok (.tuple #[v, .bool true]) w := by
  simp [Instr.typeAssert, run_underlying Try.underlying52, go_sem, Result.andThen]
theorem as55 : (Instr.typeAssert (.iface 55 v) 34 55 true).run Try.prog w = .ok (.tuple #[v, .bool true]) w := by
  simp [Instr.typeAssert, run_underlying Try.underlying55, go_sem, Result.andThen]
theorem as57 : (Instr.typeAssert (.iface 57 v) 34 57 true).run Try.prog w = .ok (.tuple #[v, .bool true]) w := by
  simp [Instr.typeAssert, run_underlying Try.underlying57, go_sem, Result.andThen]
theorem no50 (T : TypeId) (h : T ≠ 50) : (Instr.typeAssert (.iface T v) 34 50 true).run Try.prog w = .ok (.tuple #[.agg #[.int .i64 0, .int .i64 0], .bool false]) w := by
  have hz : Try.t50.zero = some (.agg #[.int .i64 0, .int .i64 0]) := by kernel_rfl
  simp [Instr.typeAssert, run_underlying Try.underlying50, go_sem, Result.andThen, h, zeroValue, hz]
theorem no52 (T : TypeId) (h : T ≠ 52) : (Instr.typeAssert (.iface T v) 34 52 true).run Try.prog w = .ok (.tuple #[.agg #[.nilIface], .bool false]) w := by
  have hz : Try.t52.zero = some (.agg #[.nilIface]) := by kernel_rfl
  simp [Instr.typeAssert, run_underlying Try.underlying52, go_sem, Result.andThen, h, zeroValue, hz]
theorem no55 (T : TypeId) (h : T ≠ 55) : (Instr.typeAssert (.iface T v) 34 55 true).run Try.prog w = .ok (.tuple #[.agg #[.nilIface, .nilIface], .bool false]) w := by
  have hz : Try.t55.zero = some (.agg #[.nilIface, .nilIface]) := by kernel_rfl
  simp [Instr.typeAssert, run_underlying Try.underlying55, go_sem, Result.andThen, h, zeroValue, hz]
end
theorem no50_52 (v : Value) (w : World) : (Instr.typeAssert (.iface 52 v) 34 50 true).run Try.prog w = .ok (.tuple #[.agg #[.int .i64 0, .int .i64 0], .bool false]) w := no50 v w 52 (by decide)
theorem no50_55 (v : Value) (w : World) : (Instr.typeAssert (.iface 55 v) 34 50 true).run Try.prog w = .ok (.tuple #[.agg #[.int .i64 0, .int .i64 0], .bool false]) w := no50 v w 55 (by decide)
theorem no50_57 (v : Value) (w : World) : (Instr.typeAssert (.iface 57 v) 34 50 true).run Try.prog w = .ok (.tuple #[.agg #[.int .i64 0, .int .i64 0], .bool false]) w := no50 v w 57 (by decide)
theorem no52_55 (v : Value) (w : World) : (Instr.typeAssert (.iface 55 v) 34 52 true).run Try.prog w = .ok (.tuple #[.agg #[.nilIface], .bool false]) w := no52 v w 55 (by decide)
theorem no52_57 (v : Value) (w : World) : (Instr.typeAssert (.iface 57 v) 34 52 true).run Try.prog w = .ok (.tuple #[.agg #[.nilIface], .bool false]) w := no52 v w 57 (by decide)
theorem no55_57 (v : Value) (w : World) : (Instr.typeAssert (.iface 57 v) 34 55 true).run Try.prog w = .ok (.tuple #[.agg #[.nilIface, .nilIface], .bool false]) w := no55 v w 57 (by decide)

theorem lastPlace_any (a : Option Addr) (n cap : Nat) (w : World) (h : n ≤ 1048576) :
    Calls Try.prog 22 #[.slice a n cap] w fun e w' => e = .returned (.int .i64 ((n : Int) - 1)) ∧ w' = w := by
  go_enter Try.func22, Try.ntmps22
  go_wp2
  go_ret
  exact ⟨by go_num, rfl⟩

/-- a slice of its own that holds the nodes l -/
def OwnN (w : World) (base : Nat) (v : Value) (n : Nat) (l : List Nd) : Prop := w.ownsRow base 40 4 v n (ndCells l)

/-- of the old blocks only v's own may have turned; v' lies in that one or in a new one -/
def Grew (w w' : World) (v v' : Value) : Prop := w.grownBy w' v.ownBlock ∧ ∀ k, v'.ownBlock = some k → v.ownBlock = some k ∨ w.heap.size ≤ k
theorem Grew.trans {w w1 w2 : World} {v v1 v2 : Value} (h : Grew w w1 v v1) (k : Grew w1 w2 v1 v2) : Grew w w2 v v2 := by
  refine ⟨⟨k.1.os.trans h.1.os, k.1.tape.trans h.1.tape, k.1.output.trans h.1.output, Nat.le_trans h.1.size k.1.size, fun b hb hne => ?_⟩, fun b hb => ?_⟩
  · have h0 := h.1.size
    rw [k.1.block b (by omega) (fun e => ?_), h.1.block b hb hne]
    rcases h.2 b e.symm with h1 | h1
    · exact hne h1.symm
    · omega
  · have h0 := h.1.size
    rcases k.2 b hb with h1 | h1
    · exact h.2 b h1
    · exact .inr (by omega)
theorem Grew.alloc (w : World) (v : Value) (o : Obj) : Grew w (w.alloc o) v v := ⟨⟨rfl, rfl, rfl, by simp, fun k hk _ => Below.heap_alloc _ _ _ hk⟩, fun k hk => .inl hk⟩
theorem Grew.drew (w : World) (v : Value) : Grew w w.drew v v := ⟨⟨rfl, rfl, rfl, Nat.le_refl _, fun _ _ _ => rfl⟩, fun k hk => .inl hk⟩
theorem Grew.of {w w1 : World} {v : Value} {g n c : Nat} (h : w.grownBy w1 v.ownBlock) (hat : v.ownBlock = some g ∨ g = w.heap.size) : Grew w w1 v (.slice (some ⟨g, 0, none⟩) n c) := ⟨h, fun k hk => by
  have : g = k := by simpa [Value.ownBlock] using hk
  subst this
  rcases hat with h1 | h1
  · exact .inl h1
  · exact .inr (by omega)⟩

/-- what withNodes does with a term -/
def WithC (t : Tr) : Prop := ∀ (l : List Nd) (a : Option Addr) (n cap base : Nat) (w : World), OwnN w base (.slice a n cap) n l → base ≤ w.heap.size → n + t.size ≤ 1048576 →
  Calls Try.prog 12 #[.slice a n cap, t.val] w fun e w' => ∃ a' cap', e = .returned (.slice a' (n + t.size) cap') ∧ OwnN w' base (.slice a' (n + t.size) cap') (n + t.size) (l ++ t.flat n) ∧ Grew w w' (.slice a n cap) (.slice a' (n + t.size) cap')

theorem one_ints (k n x y : Int) : ∀ u ∈ [Value.int .i64 k, .int .i64 n, .int .i64 x, .int .i64 y], u.oneCell' = true := by simp [Value.oneCell']
theorem nd_end (l : List Nd) (k n x y : Int) : ndCells l ++ [Value.int .i64 k, .int .i64 n, .int .i64 x, .int .i64 y] = ndCells (l ++ [(k, n, x, y)]) := by rw [ndCells_append]; rfl

set_option maxHeartbeats 1000000 in
theorem with_leaf (k m : Nat) : WithC (⟨.inl (k, m)⟩) := by
  intro l a n cap base w hO hb hz
  obtain ⟨i0, hi, hz0, hz1, hz2⟩ := info_parts info40
  have hz' : n + 1 ≤ 1048576 := hz
  have hbt : (n + 1) * 32 ≤ 140737488355328 := by omega
  have hmx : n + 1 ≤ maxLen := by unfold maxLen; omega
  have hbs : Hid (base ≤ ((w.alloc (.cells #[.int .i64 k, .int .i64 m] 50)).alloc (.cells #[.int .i64 k, .int .i64 m, .int .i64 0, .int .i64 0] 40)).heap.size) := by
    show _ ≤ _
    simp; omega
  have hnb : Hid (((w.alloc (.cells #[.int .i64 k, .int .i64 m] 50)).alloc (.cells #[.int .i64 k, .int .i64 m, .int .i64 0, .int .i64 0] 40)).heap[w.heap.size + 1]? = some (.cells #[.int .i64 k, .int .i64 m, .int .i64 0, .int .i64 0] 40)) := by
    have := heap_alloc_new (w.alloc (.cells #[.int .i64 k, .int .i64 m] 50)) (.cells #[.int .i64 k, .int .i64 m, .int .i64 0, .int .i64 0] 40)
    rw [show (w.alloc (.cells #[.int .i64 k, .int .i64 m] 50)).heap.size = w.heap.size + 1 by simp] at this
    exact this
  have HO : Hid (w.ownsRow base 40 4 (.slice a n cap) n (ndCells l)) := hO
  have A1 := as50
  clear hO hb hz
  unfold Tr.val
  go_enter Try.func12, Try.ntmps12
  go_wp2_with (at_builtin; refine wpList_append_lies _ rfl _ _ 22 rfl base 40 i0 (.agg #[.int .i64 0, .int .i64 0, .int .i64 0, .int .i64 0]) 4 32 Try.underlying22 hi hz0 hz1 hz2 rfl (by decide) (.slice a n cap) n (ndCells l) rfl ((HO.out.alloc _).alloc _) ⟨w.heap.size + 1, 0, none⟩ 1 1 [.int .i64 k, .int .i64 m, .int .i64 0, .int .i64 0] rfl rfl (World.news_of_block hnb.out) (one_ints _ _ _ _) (by decide) hmx hbt hbs.out _ rfl ?_; intro g cap' w1 hown hgrow hat hlt)
  go_ret
  refine ⟨some ⟨g, 0, none⟩, cap', rfl, ?_, ((Grew.alloc _ _ _).trans (Grew.alloc _ _ _)).trans (Grew.of hgrow hat)⟩
  rw [nd_end] at hown
  exact hown

theorem val_iface (t : Tr) : ∃ T u, t.val = .iface T u := by rcases t with ⟨(⟨k, n⟩ | t | ⟨t, u⟩ | ⟨k, n, t⟩)⟩ <;> exact ⟨_, _, rfl⟩

set_option maxHeartbeats 1000000 in
theorem with_hash (t : Tr) (ih : WithC t) : WithC (⟨.inr (.inl t)⟩) := by
  intro l a n cap base w hO hb hz
  obtain ⟨i0, hi, hz0, hz1, hz2⟩ := info_parts info40
  have hz' : n + (t.size + 1) ≤ 1048576 := hz
  have hbt : (n + t.size + 1) * 32 ≤ 140737488355328 := by omega
  have hmx : n + t.size + 1 ≤ maxLen := by unfold maxLen; omega
  have hz2' : n + t.size ≤ 1048576 := by omega
  obtain ⟨T, u, hv⟩ := val_iface t
  have HC : Hid (Calls Try.prog 12 #[.slice a n cap, .iface T u] (w.alloc (.cells #[.iface T u] 52)) fun e w' => ∃ a' cap', e = .returned (.slice a' (n + t.size) cap') ∧ OwnN w' base (.slice a' (n + t.size) cap') (n + t.size) (l ++ t.flat n) ∧ Grew (w.alloc (.cells #[.iface T u] 52)) w' (.slice a n cap) (.slice a' (n + t.size) cap')) := by
    have := ih l a n cap base (w.alloc (.cells #[.iface T u] 52)) (World.ownsRow.alloc hO _) (by simp; omega) (by omega)
    rw [hv] at this
    exact this
  have HX : Hid ((w.alloc (.cells #[.iface T u] 52)).heap[w.heap.size]? = some (.cells #[.iface T u] 52)) := heap_alloc_new _ _
  have HL : Hid (∀ k, (Value.slice a n cap).ownBlock = some k → k < w.heap.size) := fun k hk => (World.ownsRow.lt hO k hk).2
  have HB : Hid (base ≤ w.heap.size) := hb
  have A1 := as52
  have A2 := no50_52
  clear hO hb hz ih
  unfold Tr.val
  rw [hv]
  clear hv
  go_enter Try.func12, Try.ntmps12
  go_wp2_with (first
    | (go_at_call 12; refine HC.out.mono ?_; rintro e w1 ⟨a1, c1, rfl, ho1, hG1⟩; have hx1 := (hG1.1.block w.heap.size (by simp) (fun e => absurd (HL.out _ e.symm) (Nat.lt_irrefl _))).trans HX.out; skip)
    | (go_at_call 22; refine (lastPlace_any _ _ _ _ hz2').mono ?_; rintro e w2 ⟨rfl, hw2⟩; rw [hw2]; clear hw2 w2)
    | (at_builtin; refine wpList_append_lies _ rfl _ _ 22 rfl base 40 i0 (.agg #[.int .i64 0, .int .i64 0, .int .i64 0, .int .i64 0]) 4 32 Try.underlying22 hi hz0 hz1 hz2 rfl (by decide) (.slice a1 (n + t.size) c1) (n + t.size) (ndCells (l ++ t.flat n)) rfl (World.ownsRow.alloc ho1 _) ⟨w1.heap.size, 0, none⟩ 1 1 [.int .i64 4, .int .i64 0, .int .i64 ((n : Int) + (t.size : Int) - 1), .int .i64 0] rfl rfl (World.news_of_block (heap_alloc_new _ _)) (one_ints _ _ _ _) (by decide) hmx hbt (by have q1 := hG1.1.size; have q2 := HB.out; simp at q1 ⊢; omega) _ rfl ?_; intro g cap' w3 hown hgrow hat hlt))
  go_ret
  refine ⟨some ⟨g, 0, none⟩, cap', rfl, ?_, (((Grew.alloc _ _ _).trans hG1).trans (Grew.alloc _ _ _)).trans (Grew.of hgrow hat)⟩
  rw [nd_end] at hown
  have e1 : ((n + t.size : Nat) : Int) = (n : Int) + (t.size : Int) := by omega
  unfold Tr.flat
  rw [e1, ← List.append_assoc]
  exact hown

set_option maxHeartbeats 1000000 in
theorem with_keyed (k m : Nat) (t : Tr) (ih : WithC t) : WithC (⟨.inr (.inr (.inr (k, m, t)))⟩) := by
  intro l a n cap base w hO hb hz
  obtain ⟨i0, hi, hz0, hz1, hz2⟩ := info_parts info40
  have hz' : n + (t.size + 1) ≤ 1048576 := hz
  have hbt : (n + t.size + 1) * 32 ≤ 140737488355328 := by omega
  have hmx : n + t.size + 1 ≤ maxLen := by unfold maxLen; omega
  have hz2' : n + t.size ≤ 1048576 := by omega
  obtain ⟨T, u, hv⟩ := val_iface t
  have HC : Hid (Calls Try.prog 12 #[.slice a n cap, .iface T u] (w.alloc (.cells #[.int .i64 k, .int .i64 m, .iface T u] 57)) fun e w' => ∃ a' cap', e = .returned (.slice a' (n + t.size) cap') ∧ OwnN w' base (.slice a' (n + t.size) cap') (n + t.size) (l ++ t.flat n) ∧ Grew (w.alloc (.cells #[.int .i64 k, .int .i64 m, .iface T u] 57)) w' (.slice a n cap) (.slice a' (n + t.size) cap')) := by
    have := ih l a n cap base (w.alloc (.cells #[.int .i64 k, .int .i64 m, .iface T u] 57)) (World.ownsRow.alloc hO _) (by simp; omega) (by omega)
    rw [hv] at this
    exact this
  have HX : Hid ((w.alloc (.cells #[.int .i64 k, .int .i64 m, .iface T u] 57)).heap[w.heap.size]? = some (.cells #[.int .i64 k, .int .i64 m, .iface T u] 57)) := heap_alloc_new _ _
  have HL : Hid (∀ k, (Value.slice a n cap).ownBlock = some k → k < w.heap.size) := fun k hk => (World.ownsRow.lt hO k hk).2
  have HB : Hid (base ≤ w.heap.size) := hb
  have A1 := as57
  have A2 := no50_57
  have A3 := no52_57
  have A4 := no55_57
  clear hO hb hz ih
  unfold Tr.val
  rw [hv]
  clear hv
  go_enter Try.func12, Try.ntmps12
  go_wp2_with (go_at_call 12; refine HC.out.mono ?_; rintro e w1 ⟨a1, c1, rfl, ho1, hG1⟩; have hx1 := (hG1.1.block w.heap.size (by simp) (fun e => absurd (HL.out _ e.symm) (Nat.lt_irrefl _))).trans HX.out; have y0 : w1.cell? ⟨w.heap.size, 0, none⟩ = some (.int .i64 (k : Int)) := (by rw [cell_of_row w1 _ 0 _ _ _ hx1]; rfl); have y1 : w1.cell? ⟨w.heap.size, 1, none⟩ = some (.int .i64 (m : Int)) := (by rw [cell_of_row w1 _ 1 _ _ _ hx1]; rfl))
  have hbs : Hid (base ≤ (w1.drew.alloc (.cells #[.int .i64 k, .int .i64 m, .int .i64 ((n : Int) + (t.size : Int) - 1), .int .i64 0] 40)).heap.size) := by
    show _ ≤ _
    have q1 := hG1.1.size
    have q2 := HB.out
    have q3 : w1.drew.heap.size = w1.heap.size := rfl
    simp at q1 ⊢
    omega
  have HO1 : Hid (w1.drew.ownsRow base 40 4 (.slice a1 (n + t.size) c1) (n + t.size) (ndCells (l ++ t.flat n))) := ho1
  have HG1 : Hid _ := hG1
  clear ho1 hG1 hx1
  go_region_law (first
    | (go_simp; go_at_call 22; refine (lastPlace_any _ _ _ _ hz2').mono ?_; rintro e w2 ⟨rfl, hw2⟩; rw [hw2]; clear hw2 w2)
    | (refine step_append_lies _ rfl _ _ 22 rfl base 40 i0 (.agg #[.int .i64 0, .int .i64 0, .int .i64 0, .int .i64 0]) 4 32 Try.underlying22 hi hz0 hz1 hz2 rfl (by decide) (.slice a1 (n + t.size) c1) (n + t.size) (ndCells (l ++ t.flat n)) rfl (World.ownsRow.alloc HO1.out _) ⟨w1.heap.size, 0, none⟩ 1 1 [.int .i64 k, .int .i64 m, .int .i64 ((n : Int) + (t.size : Int) - 1), .int .i64 0] rfl rfl (World.news_of_block (heap_alloc_new _ _)) (one_ints _ _ _ _) (by decide) hmx hbt hbs.out _ rfl ?_; intro g cap' w3 hown hgrow hat hlt))
  all_goals
    go_wp2
    go_ret
    refine ⟨some ⟨g, 0, none⟩, cap', rfl, ?_, ((((Grew.alloc _ _ _).trans HG1.out).trans (Grew.drew _ _)).trans (Grew.alloc _ _ _)).trans (Grew.of hgrow hat)⟩
    rw [nd_end] at hown
    have e1 : ((n + t.size : Nat) : Int) = (n : Int) + (t.size : Int) := by omega
    unfold Tr.flat
    rw [e1, ← List.append_assoc]
    exact hown

set_option maxHeartbeats 1000000 in
theorem with_pair (t s : Tr) (ih : WithC t) (ih2 : WithC s) : WithC (⟨.inr (.inr (.inl (t, s)))⟩) := by
  intro l a n cap base w hO hb hz
  obtain ⟨i0, hi, hz0, hz1, hz2⟩ := info_parts info40
  have hz' : n + (t.size + s.size + 1) ≤ 1048576 := hz
  have hbt : (n + t.size + s.size + 1) * 32 ≤ 140737488355328 := by omega
  have hmx : n + t.size + s.size + 1 ≤ maxLen := by unfold maxLen; omega
  have hz2' : n + t.size ≤ 1048576 := by omega
  have hz3' : n + t.size + s.size ≤ 1048576 := by omega
  obtain ⟨T, u, hv⟩ := val_iface t
  obtain ⟨T2, u2, hv2⟩ := val_iface s
  have HC : Hid (Calls Try.prog 12 #[.slice a n cap, .iface T u] (w.alloc (.cells #[.iface T u, .iface T2 u2] 55)) fun e w' => ∃ a' cap', e = .returned (.slice a' (n + t.size) cap') ∧ OwnN w' base (.slice a' (n + t.size) cap') (n + t.size) (l ++ t.flat n) ∧ Grew (w.alloc (.cells #[.iface T u, .iface T2 u2] 55)) w' (.slice a n cap) (.slice a' (n + t.size) cap')) := by
    have := ih l a n cap base (w.alloc (.cells #[.iface T u, .iface T2 u2] 55)) (World.ownsRow.alloc hO _) (by simp; omega) (by omega)
    rw [hv] at this
    exact this
  have HD : Hid (∀ (w1 : World) (a1 : Option Addr) (c1 : Nat), OwnN w1 base (.slice a1 (n + t.size) c1) (n + t.size) (l ++ t.flat n) → base ≤ w1.heap.size → Calls Try.prog 12 #[.slice a1 (n + t.size) c1, .iface T2 u2] w1 fun e w' => ∃ a' cap', e = .returned (.slice a' (n + t.size + s.size) cap') ∧ OwnN w' base (.slice a' (n + t.size + s.size) cap') (n + t.size + s.size) (l ++ t.flat n ++ s.flat (n + t.size)) ∧ Grew w1 w' (.slice a1 (n + t.size) c1) (.slice a' (n + t.size + s.size) cap')) := fun w1 a1 c1 ho1 hb1 => by
    have := ih2 (l ++ t.flat n) a1 (n + t.size) c1 base w1 ho1 hb1 hz3'
    rw [hv2] at this
    exact this
  have HX : Hid ((w.alloc (.cells #[.iface T u, .iface T2 u2] 55)).heap[w.heap.size]? = some (.cells #[.iface T u, .iface T2 u2] 55)) := heap_alloc_new _ _
  have HL : Hid (∀ k, (Value.slice a n cap).ownBlock = some k → k < w.heap.size) := fun k hk => (World.ownsRow.lt hO k hk).2
  have HB : Hid (base ≤ w.heap.size) := hb
  have A1 := as55
  have A2 := no50_55
  have A3 := no52_55
  clear hO hb hz ih ih2
  unfold Tr.val
  rw [hv, hv2]
  clear hv hv2
  go_enter Try.func12, Try.ntmps12
  go_wp2_with (first
    | (go_at_call_of 12 u2; refine (HD.out _ _ _ ho1 (by have q1 := hG1.1.size; have q2 := HB.out; simp at q1; omega)).mono ?_; rintro e w3 ⟨a3, c3, rfl, ho3, hG3⟩)
    | (go_at_call 12; refine HC.out.mono ?_; rintro e w1 ⟨a1, c1, rfl, ho1, hG1⟩; have hx1 := (hG1.1.block w.heap.size (by simp) (fun e => absurd (HL.out _ e.symm) (Nat.lt_irrefl _))).trans HX.out; have y1 : w1.cell? ⟨w.heap.size, 1, none⟩ = some (.iface T2 u2) := (by rw [cell_of_row w1 _ 1 _ _ _ hx1]; rfl))
    | (go_at_call_of 22 a3; refine (lastPlace_any _ _ _ _ hz3').mono ?_; rintro e w2 ⟨rfl, hw2⟩; rw [hw2]; clear hw2 w2)
    | (go_at_call 22; refine (lastPlace_any _ _ _ _ hz2').mono ?_; rintro e w2 ⟨rfl, hw2⟩; rw [hw2]; clear hw2 w2)
    | (at_builtin; refine wpList_append_lies _ rfl _ _ 22 rfl base 40 i0 (.agg #[.int .i64 0, .int .i64 0, .int .i64 0, .int .i64 0]) 4 32 Try.underlying22 hi hz0 hz1 hz2 rfl (by decide) (.slice a3 (n + t.size + s.size) c3) (n + t.size + s.size) (ndCells (l ++ t.flat n ++ s.flat (n + t.size))) rfl (World.ownsRow.alloc ho3 _) ⟨w3.heap.size, 0, none⟩ 1 1 [.int .i64 5, .int .i64 0, .int .i64 ((n : Int) + (t.size : Int) - 1), .int .i64 ((n : Int) + (t.size : Int) + (s.size : Int) - 1)] rfl rfl (World.news_of_block (heap_alloc_new _ _)) (one_ints _ _ _ _) (by decide) hmx hbt (by have q1 := hG1.1.size; have q2 := HB.out; have q3 := hG3.1.size; simp at q1 ⊢; omega) _ rfl ?_; intro g cap' w5 hown hgrow hat hlt))
  have es : n + ((⟨.inr (.inr (.inl (t, s)))⟩ : Tr)).size = n + t.size + s.size + 1 := by show n + (t.size + s.size + 1) = _; omega
  go_ret
  simp only [es]
  refine ⟨some ⟨g, 0, none⟩, cap', rfl, ?_, ((((Grew.alloc _ _ _).trans hG1).trans hG3).trans (Grew.alloc _ _ _)).trans (Grew.of hgrow hat)⟩
  rw [nd_end] at hown
  have e1 : ((n + t.size : Nat) : Int) = (n : Int) + (t.size : Int) := by omega
  have e2 : ((n + t.size + s.size : Nat) : Int) = (n : Int) + (t.size : Int) + (s.size : Int) := by omega
  unfold Tr.flat
  rw [e1, e2, ← List.append_assoc, ← List.append_assoc]
  exact hown
end Go.Proofs.Ytgfonjjlhebkgaa
