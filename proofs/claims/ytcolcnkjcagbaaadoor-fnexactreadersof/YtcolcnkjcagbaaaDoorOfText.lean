/-
  The program's termOfText answers the plain reader's term, or none: a panic of the reader is recovered. No condition but the text's length.
-/
import Derived.Test.YtcolcnkjcagbaaaDoorReadT
import Derived.Test.YtcolcnkjcagbaaaDoorTermAt
import Derived.Defers
import Derived.Recover
import Derived.Laws.Pointers
namespace Go.Proofs.YtcolcnkjcagbaaaDoor
open Go.RowKit
set_option linter.unusedVariables false

theorem catch_panicking (T O : Nat) (vt vo : Value) (w : World) (hc : w.cell? ⟨T, 0, none⟩ = some vt) (hz : w.frozen? ⟨T, 0, none⟩ = false) (hc2 : w.cell? ⟨O, 0, none⟩ = some vo) (hz2 : w.frozen? ⟨O, 0, none⟩ = false) (hne : T ≠ O) :
    CallsD Tryd.prog 44 #[.pointer (some ⟨T, 0, none⟩), .pointer (some ⟨O, 0, none⟩)] (.panicking noWord) w fun e u' w' =>
      e = .returned (.tuple #[]) ∧ u' = .panicking [{ v := .iface 9 (.string { data := #[110, 111, 32, 116, 101, 114, 109] }), recovered := true }] ∧ w' = (w.setCell ⟨T, 0, none⟩ .nilIface).setCell ⟨O, 0, none⟩ (.bool false) := by
  unfold noWord
  refine callsD_of_wpS Tryd.func44 rfl fun c₀ cs hu => ?_
  apply wpS_seq
  apply wpS_region
  simp [wpOpsS, go_sem, recoverD, hu, Tryd.ntmps44, Exit.thenS]
  refine wpS_cond (t := true) (by simp [Act.eval, Array.replicate]) ?_
  simp only [if_true]
  apply wpS_region
  simp [wpOpsS, go_sem, hc, hz, hc2, hz2, bodyPostS, results, Tryd.results44]

theorem catch_idle (T O : Nat) (w : World) :
    CallsD Tryd.prog 44 #[.pointer (some ⟨T, 0, none⟩), .pointer (some ⟨O, 0, none⟩)] .returning w fun e u' w' => e = .returned (.tuple #[]) ∧ u' = .returning ∧ w' = w := by
  refine callsD_of_wpS Tryd.func44 rfl fun c₀ cs hu => ?_
  apply wpS_seq
  apply wpS_region
  simp [wpOpsS, go_sem, recoverD, hu, Tryd.ntmps44, Exit.thenS]
  refine wpS_cond (t := false) (by simp [Act.eval, Array.replicate]) ?_
  simp only [Bool.false_eq_true, if_false]
  refine wpS_of_wp (wp_skip ?_)
  cases c₀
  simp_all [bodyPostS, results, Tryd.results44]

theorem new_block (w : World) (o : Obj) : (w.alloc o).heap[w.heap.size]? = some o := by
  show (w.heap.push o)[w.heap.size]? = _
  simp

/-- the term that a text is, where it is one -/
def rT (s : ByteArray) : Option Value :=
  match pT s 10 0 0 with
  | none => none
  | some (v, j, _) => if j = s.size then some v else none

theorem rT_none {s : ByteArray} (h : pT s 10 0 0 = none) : rT s = none := by unfold rT; rw [h]
theorem rT_off {s : ByteArray} {v : Value} {j m : Nat} (h : pT s 10 0 0 = some (v, j, m)) (hj : j ≠ s.size) : rT s = none := by unfold rT; rw [h]; dsimp only; rw [if_neg hj]
theorem rT_some {s : ByteArray} {v : Value} {j m : Nat} (h : pT s 10 0 0 = some (v, j, m)) (hj : j = s.size) : rT s = some v := by unfold rT; rw [h]; dsimp only; rw [if_pos hj]

theorem Mut.cell {R : Nat} {w w' : World} (h : Mut R w w') {b o : Nat} (hb : b < w.heap.size) (hr : b ≠ R) : w'.cell? ⟨b, o, none⟩ = w.cell? ⟨b, o, none⟩ := World.cell?_of_block (h.block b hb hr)
theorem Mut.frozen {R : Nat} {w w' : World} (h : Mut R w w') {b o : Nat} (hb : b < w.heap.size) (hr : b ≠ R) : w'.frozen? ⟨b, o, none⟩ = w.frozen? ⟨b, o, none⟩ := World.frozen?_of_block (h.block b hb hr)

theorem boxT {W : World} {B : Nat} {v : Value} {t : TypeId} (h : W.heap[B]? = some (.cells #[v] t (0, 0))) : W.cell? ⟨B, 0, none⟩ = some v ∧ W.frozen? ⟨B, 0, none⟩ = false := by
  constructor <;> simp [World.cell?, World.frozen?, h]

set_option maxHeartbeats 1000000 in
theorem termOfText_any (s : ByteArray) (w : World) (hs : s.size ≤ 1048576) :
    Calls Tryd.prog 35 #[.string s] w fun e w' => e = .returned (tup2 (rT s)) ∧ Below w.heap.size w w' := by
  have hmf : ∀ (fn : Fn) (first cap : Array Value) (w : World), (Instr.makeFunc fn first cap).run Tryd.prog w = .ok (.func fn first cap) w := fun _ _ _ _ => rfl
  have hW0 : Below w.heap.size w (((w.alloc (.cells #[.nilIface] 61)).alloc (.cells #[.bool false] 4)).alloc (.cells #[.string s, .int .i64 0, .int .i64 0] 88)) := (((Below.refl _ w).alloc (Nat.le_refl _) _).alloc (by simp) _).alloc (by simp; omega) _
  have hR0 : Rd (((w.alloc (.cells #[.nilIface] 61)).alloc (.cells #[.bool false] 4)).alloc (.cells #[.string s, .int .i64 0, .int .i64 0] 88)) (w.heap.size + 1 + 1) s ((0 : Nat) : Int) ((0 : Nat) : Int) := by
    have := new_block ((w.alloc (.cells #[.nilIface] 61)).alloc (.cells #[.bool false] 4)) (.cells #[.string s, .int .i64 0, .int .i64 0] 88)
    simp only [World.size_alloc] at this
    exact this
  have HW : Hid (Below w.heap.size w (((w.alloc (.cells #[.nilIface] 61)).alloc (.cells #[.bool false] 4)).alloc (.cells #[.string s, .int .i64 0, .int .i64 0] 88))) := hW0
  have HR : Hid (Rd (((w.alloc (.cells #[.nilIface] 61)).alloc (.cells #[.bool false] 4)).alloc (.cells #[.string s, .int .i64 0, .int .i64 0] 88)) (w.heap.size + 1 + 1) s ((0 : Nat) : Int) ((0 : Nat) : Int)) := hR0
  clear hW0 hR0
  go_enter_defers Tryd.func35, Tryd.ntmps35
  go_wp2_with fail
  refine (term_any s (w.heap.size + 1 + 1) hs 10 0 0 1 _ (by omega) (by omega) (by omega) (by omega) HR.out).mono ?_
  intro e w1 hN
  have hT0 : (((w.alloc (.cells #[.nilIface] 61)).alloc (.cells #[.bool false] 4)).alloc (.cells #[.string s, .int .i64 0, .int .i64 0] 88)).heap[w.heap.size]? = some (.cells #[.nilIface] 61 (0, 0)) := by
    rw [Below.heap_alloc _ _ _ (by simp; omega), Below.heap_alloc _ _ _ (by simp)]
    exact new_block w _
  have hO0 : (((w.alloc (.cells #[.nilIface] 61)).alloc (.cells #[.bool false] 4)).alloc (.cells #[.string s, .int .i64 0, .int .i64 0] 88)).heap[w.heap.size + 1]? = some (.cells #[.bool false] 4 (0, 0)) := by
    rw [Below.heap_alloc _ _ _ (by simp)]
    have := new_block (w.alloc (.cells #[.nilIface] 61)) (.cells #[.bool false] 4)
    simp only [World.size_alloc] at this
    exact this
  cases ep : pT s 10 0 0 with
  | none =>
    rw [ep] at hN
    obtain ⟨rfl, hM⟩ := hN
    have hr : Hid (rT s = none) := rT_none ep
    have cT := boxT ((hM.block w.heap.size (by simp; omega) (by omega)).trans hT0)
    have cO := boxT ((hM.block (w.heap.size + 1) (by simp) (by omega)).trans hO0)
    have hB1 : Below w.heap.size w w1 := HW.out.trans (hM.below (by omega) (by simp; omega))
    clear hM hT0 hO0 ep
    go_wp2
    refine leaves_cons (f := 44) (args := #[.pointer (some ⟨w.heap.size, 0, none⟩), .pointer (some ⟨w.heap.size + 1, 0, none⟩)]) (by simp) (by simp [go_sem]) ?_
    refine (catch_panicking w.heap.size (w.heap.size + 1) _ _ w1 cT.1 cT.2 cO.1 cO.2 (by omega)).mono ?_
    rintro e u' w2 ⟨rfl, rfl, rfl⟩
    have hBE : Below w.heap.size w ((w1.setCell ⟨w.heap.size, 0, none⟩ .nilIface).setCell ⟨w.heap.size + 1, 0, none⟩ (.bool false)) := (hB1.setCell (p := ⟨w.heap.size, 0, none⟩) (Nat.le_refl _) _).setCell (p := ⟨w.heap.size + 1, 0, none⟩) (by simp) _
    simp [Leaves, settle, results, Tryd.results35, go_sem, cT.1, cO.1, hr.out, tup2, hBE]
  | some q =>
    obtain ⟨v, j, m⟩ := q
    rw [ep] at hN
    obtain ⟨rfl, hRj, hM⟩ := hN
    have cT := boxT ((hM.block w.heap.size (by simp; omega) (by omega)).trans hT0)
    have cO := boxT ((hM.block (w.heap.size + 1) (by simp) (by omega)).trans hO0)
    have hB1 : Below w.heap.size w w1 := HW.out.trans (hM.below (by omega) (by simp; omega))
    obtain ⟨bd, be, bf, t, u, rfl⟩ := pT_bound _ _ _ _ _ _ (by omega) ep
    have cR := hRj.c1
    have cT1 := cT.1
    have cT2 := cT.2
    have cO1 := cO.1
    have cO2 := cO.2
    clear hM hT0 hO0 hRj cT cO
    by_cases hj : j = s.size
    · have hr : Hid (rT s = some (.iface t u)) := rT_some ep hj
      have hjb : ((j : Int) != (s.size : Int)) = false := by simp; omega
      clear hj ep
      go_wp2
      refine leaves_cons (f := 44) (args := #[.pointer (some ⟨w.heap.size, 0, none⟩), .pointer (some ⟨w.heap.size + 1, 0, none⟩)]) (by simp) (by simp [go_sem]) ?_
      refine (catch_idle w.heap.size (w.heap.size + 1) _).mono ?_
      rintro e u' w2 ⟨rfl, rfl, rfl⟩
      have hBE : Below w.heap.size w (((w1.setCell ⟨w.heap.size, 0, none⟩ (.iface t u)).setCell ⟨w.heap.size, 0, none⟩ (.iface t u)).setCell ⟨w.heap.size + 1, 0, none⟩ (.bool true)) := ((hB1.setCell (p := ⟨w.heap.size, 0, none⟩) (Nat.le_refl _) _).setCell (p := ⟨w.heap.size, 0, none⟩) (Nat.le_refl _) _).setCell (p := ⟨w.heap.size + 1, 0, none⟩) (by simp) _
      simp [Leaves, settle, results, Tryd.results35, go_sem, cT1, cO1, hr.out, tup2, hBE]
    · have hr : Hid (rT s = none) := rT_off ep hj
      have hjb : ((j : Int) != (s.size : Int)) = true := by simp; omega
      clear hj ep
      go_wp2
      refine leaves_cons (f := 44) (args := #[.pointer (some ⟨w.heap.size, 0, none⟩), .pointer (some ⟨w.heap.size + 1, 0, none⟩)]) (by simp) (by simp [go_sem]) ?_
      refine (catch_panicking w.heap.size (w.heap.size + 1) (.iface t u) (.bool false) _ (by simp [go_sem, cT1]) (by simp [go_sem, cT2]) (by simp [go_sem, cO1]) (by simp [go_sem, cO2]) (by omega)).mono ?_
      rintro e u' w2 ⟨rfl, rfl, rfl⟩
      have hBE : Below w.heap.size w (((w1.setCell ⟨w.heap.size, 0, none⟩ (.iface t u)).setCell ⟨w.heap.size, 0, none⟩ .nilIface).setCell ⟨w.heap.size + 1, 0, none⟩ (.bool false)) := ((hB1.setCell (p := ⟨w.heap.size, 0, none⟩) (Nat.le_refl _) _).setCell (p := ⟨w.heap.size, 0, none⟩) (Nat.le_refl _) _).setCell (p := ⟨w.heap.size + 1, 0, none⟩) (by simp) _
      simp [Leaves, settle, results, Tryd.results35, go_sem, cT1, cO1, hr.out, tup2, hBE]

end Go.Proofs.YtcolcnkjcagbaaaDoor
