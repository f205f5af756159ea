/-
  What the program's ReadNode keeps while it reads: its result's box, its reader, its node, the ups behind j lines. No condition.
-/
import Derived.Test.YtcaomoadkbdmgaaDoorRVal
import Derived.Test.YtcaomoadkbdmgaaDoorNode4
import Derived.Deep.RegionHeld3
import Derived.Deep.AppendLies
import Derived.Laws.AppendOwn
namespace Go.Proofs.YtcaomoadkbdmgaaDoor
open Go.RowKit
set_option linter.unusedVariables false

abbrev wAuthor : ByteArray := ⟨#[97, 117, 116, 104, 111, 114]⟩
abbrev wSeq : ByteArray := ⟨#[115, 101, 113]⟩
abbrev wKind : ByteArray := ⟨#[107, 105, 110, 100]⟩
abbrev wKey : ByteArray := ⟨#[107, 101, 121]⟩
abbrev wText : ByteArray := ⟨#[116, 101, 120, 116]⟩
abbrev wUp : ByteArray := ⟨#[117, 112]⟩

/-- what is left behind a line -/
def restN (r : ByteArray) : ByteArray := bs (cutN r).2.1
theorem restN_size (r : ByteArray) : (restN r).size ≤ r.size := by
  unfold restN cutN Lib.cut
  rw [bs_size]
  split
  · simp only [List.length_drop]
    rw [Lib.size_eq]
    omega
  · simp

/-- ReadNode under way: its result's box, its reader -/
structure RS (w0 w : World) (r : ByteArray) (f : Bool) (m : Int) : Prop where
  rd : Rd w (w0.heap.size + 1) r f
  m : w.cell? ⟨0, 0, none⟩ = some (.int .i64 m)
  b : Below w0.heap.size w0 w
  z : w.heap[w0.heap.size]? = some (.cells #[.int .i64 0, .int .i64 0, .int .i64 0, .string ⟨#[]⟩, .string ⟨#[]⟩, .slice none 0 0] 24)
  lt : 0 < w0.heap.size

theorem RS.step {w0 w w' : World} {r r' : ByteArray} {f f' : Bool} {m : Int} (h : RS w0 w r f m) (hr : Rd w' (w0.heap.size + 1) r' f') (hg : w.grownBy w' (some (w0.heap.size + 1))) : RS w0 w' r' f' m :=
  ⟨hr, hg.cell h.m (by have := h.lt; simp), h.b.grown hg h.b.size (fun j hj => by cases hj; omega), (hg.block _ (lt_of_block h.z) (by simp)).trans h.z, h.lt⟩
theorem RS.own {w0 w w' : World} {r : ByteArray} {f : Bool} {m : Int} {N : Nat} (h : RS w0 w r f m) (hN : w0.heap.size + 1 < N) (hg : w.grownBy w' (some N)) : RS w0 w' r f m := by
  have h3 := h.lt
  have k0 : w'.heap[w0.heap.size + 1]? = w.heap[w0.heap.size + 1]? := hg.block _ (cell_lt h.rd.c0) (by simp; omega)
  refine ⟨⟨(World.cell?_of_block k0).trans h.rd.c0, (World.cell?_of_block k0).trans h.rd.c1, (World.frozen?_of_block k0).trans h.rd.z0, (World.frozen?_of_block k0).trans h.rd.z1⟩, hg.cell h.m (by simp; omega), h.b.grown hg h.b.size (fun j hj => by cases hj; omega), (hg.block _ (lt_of_block h.z) (by simp; omega)).trans h.z, h.lt⟩
theorem RS.grown {w0 w w' : World} {r : ByteArray} {f : Bool} {m : Int} {row : Option Nat} (h : RS w0 w r f m) (hrow : ∀ k, row = some k → w0.heap.size + 1 < k) (hg : w.grownBy w' row) : RS w0 w' r f m := by
  have h3 := h.lt
  have hne : ∀ k, k ≤ w0.heap.size + 1 → some k ≠ row := fun k hk e => by have := hrow k e.symm; omega
  have k0 : w'.heap[w0.heap.size + 1]? = w.heap[w0.heap.size + 1]? := hg.block _ (cell_lt h.rd.c0) (hne _ (Nat.le_refl _))
  exact ⟨⟨(World.cell?_of_block k0).trans h.rd.c0, (World.cell?_of_block k0).trans h.rd.c1, (World.frozen?_of_block k0).trans h.rd.z0, (World.frozen?_of_block k0).trans h.rd.z1⟩, hg.cell h.m (hne 0 (by omega)), h.b.grown hg h.b.size (fun j hj => by have := hrow j hj; omega), (hg.block _ (lt_of_block h.z) (hne _ (by omega))).trans h.z, h.lt⟩
theorem RS.drew {w0 w : World} {r : ByteArray} {f : Bool} {m : Int} (h : RS w0 w r f m) : RS w0 w.drew r f m := ⟨⟨h.rd.c0, h.rd.c1, h.rd.z0, h.rd.z1⟩, h.m, h.b.drew, h.z, h.lt⟩
theorem own_kept {w w' : World} {base e size : Nat} {v : Value} {n : Nat} {xs : List Value} {row : Option Nat} (h : w.ownsRow base e size v n xs) (hg : w.grownBy w' row) (hr : ∀ k, row = some k → k < base) : w'.ownsRow base e size v n xs :=
  h.kept hg (by
    cases hv : v.ownBlock with
    | none => exact .inl rfl
    | some k => exact .inr (fun e => by have := (h.lt k hv).1; have := hr k e.symm; omega))
/-- how much the reader has left -/
def rdLen (w : World) (B : Nat) : Nat := match w.cell? ⟨B, 0, none⟩ with | some (.string r) => r.size | _ => 0
theorem rdLen_eq {w : World} {B : Nat} {r : ByteArray} {f : Bool} (h : Rd w B r f) : rdLen w B = r.size := by unfold rdLen; rw [h.c0]
theorem info9' : (Tryd.prog.info? 9).map (fun i => (i.zero, i.size, i.bytes)) = some (some (.string ⟨#[]⟩), 1, 16) := by kernel_rfl
theorem RS.alloc {w0 w : World} {r : ByteArray} {f : Bool} {m : Int} (h : RS w0 w r f m) (o : Obj) : RS w0 (w.alloc o) r f m := by
  have h3 := h.lt
  have hg := World.grownBy_alloc w o none
  have k0 : (w.alloc o).heap[w0.heap.size + 1]? = w.heap[w0.heap.size + 1]? := hg.block _ (cell_lt h.rd.c0) (by simp)
  exact ⟨⟨(World.cell?_of_block k0).trans h.rd.c0, (World.cell?_of_block k0).trans h.rd.c1, (World.frozen?_of_block k0).trans h.rd.z0, (World.frozen?_of_block k0).trans h.rd.z1⟩, hg.cell h.m (by simp), h.b.alloc h.b.size o, (hg.block _ (lt_of_block h.z) (by simp)).trans h.z, h.lt⟩

/-- a node under way lies at block N -/
structure ND (w : World) (N : Nat) (a s k : Int) (key text : ByteArray) (v : Value) : Prop where
  c0 : w.cell? ⟨N, 0, none⟩ = some (.int .i64 a)
  c1 : w.cell? ⟨N, 1, none⟩ = some (.int .i64 s)
  c2 : w.cell? ⟨N, 2, none⟩ = some (.int .i64 k)
  c3 : w.cell? ⟨N, 3, none⟩ = some (.string key)
  c4 : w.cell? ⟨N, 4, none⟩ = some (.string text)
  c5 : w.cell? ⟨N, 5, none⟩ = some v
  z : ∀ i, w.frozen? ⟨N, i, none⟩ = false
theorem ND.new (w : World) (a s k : Int) (key text : ByteArray) (v : Value) (t : TypeId) : ND (w.alloc (.cells #[.int .i64 a, .int .i64 s, .int .i64 k, .string key, .string text, v] t)) w.heap.size a s k key text v :=
  ⟨cellN (heap_alloc_new w _), cellN (heap_alloc_new w _), cellN (heap_alloc_new w _), cellN (heap_alloc_new w _), cellN (heap_alloc_new w _), cellN (heap_alloc_new w _), fun i => frozN (heap_alloc_new w _)⟩
theorem ND.kept {w w' : World} {N : Nat} {a s k : Int} {key text : ByteArray} {v : Value} {row : Option Nat} (h : ND w N a s k key text v) (hg : w.grownBy w' row) (hne : some N ≠ row) : ND w' N a s k key text v := by
  have k0 : w'.heap[N]? = w.heap[N]? := hg.block _ (cell_lt h.c0) hne
  exact ⟨(World.cell?_of_block k0).trans h.c0, (World.cell?_of_block k0).trans h.c1, (World.cell?_of_block k0).trans h.c2, (World.cell?_of_block k0).trans h.c3, (World.cell?_of_block k0).trans h.c4, (World.cell?_of_block k0).trans h.c5, fun i => (World.frozen?_of_block k0).trans (h.z i)⟩
theorem ND.set3 {w : World} {N : Nat} {a s k : Int} {key text : ByteArray} {v : Value} (h : ND w N a s k key text v) (x : ByteArray) : ND (w.setCell ⟨N, 3, none⟩ (.string x)) N a s k x text v := by
  refine ⟨?_, ?_, ?_, World.cell?_setCell_same _ _ _ h.c3, ?_, ?_, fun i => by rw [World.frozen?_setCell]; exact h.z i⟩
  all_goals rw [World.cell?_setCell_other _ _ _ _ (by simp)]
  · exact h.c0
  · exact h.c1
  · exact h.c2
  · exact h.c4
  · exact h.c5
theorem ND.set4 {w : World} {N : Nat} {a s k : Int} {key text : ByteArray} {v : Value} (h : ND w N a s k key text v) (x : ByteArray) : ND (w.setCell ⟨N, 4, none⟩ (.string x)) N a s k key x v := by
  refine ⟨?_, ?_, ?_, ?_, World.cell?_setCell_same _ _ _ h.c4, ?_, fun i => by rw [World.frozen?_setCell]; exact h.z i⟩
  all_goals rw [World.cell?_setCell_other _ _ _ _ (by simp)]
  · exact h.c0
  · exact h.c1
  · exact h.c2
  · exact h.c3
  · exact h.c5
theorem ND.set5 {w : World} {N : Nat} {a s k : Int} {key text : ByteArray} {v : Value} (h : ND w N a s k key text v) (x : Value) : ND (w.setCell ⟨N, 5, none⟩ x) N a s k key text x := by
  refine ⟨?_, ?_, ?_, ?_, ?_, World.cell?_setCell_same _ _ _ h.c5, fun i => by rw [World.frozen?_setCell]; exact h.z i⟩
  all_goals rw [World.cell?_setCell_other _ _ _ _ (by simp)]
  · exact h.c0
  · exact h.c1
  · exact h.c2
  · exact h.c3
  · exact h.c4
theorem grown_refl (w : World) (row : Option Nat) : w.grownBy w row := ⟨rfl, rfl, rfl, Nat.le_refl _, fun _ _ _ => rfl⟩

/-- the reader behind j ups -/
def stU (r : ByteArray) (f : Bool) : Nat → ByteArray × Bool
  | 0 => (r, f)
  | j + 1 => (restN (stU r f j).1, valF (stU r f j).1 wUp (stU r f j).2)
/-- goes the reader on there -/
def goes (x : ByteArray × Bool) : Bool := !x.1.toList.isEmpty && !x.2
theorem restN_lt {r : ByteArray} (h : r.toList.isEmpty = false) : (restN r).size < r.size := by
  have h0 : 0 < r.size := by
    rw [ByteArray.toList_eq] at h
    rw [Lib.size_eq]
    cases hq : r.data.toList with
    | nil => rw [hq] at h; cases h
    | cons a l => simp
  unfold restN cutN Lib.cut
  rw [bs_size]
  split
  · simp only [List.length_drop]
    rw [Lib.size_eq] at h0 ⊢
    simp only [List.length_cons, List.length_nil]
    omega
  · exact h0

end Go.Proofs.YtcaomoadkbdmgaaDoor
