/-
  The specification's rosters. No condition but that the slices read.
-/
import Derived.Test.YtglnnocfdlachaaRsE
import Derived.Test.YtglnnocfdlachaaCk2
import Derived.Laws.ResultCell
namespace Go.Proofs.Ytglnnocfdlachaa
open Go.RowKit
set_option linter.unusedVariables false

/-- an epoch is told of -/
def rosB (D : Nat → Ev) (len : Nat) (e : Int) : Bool := chainB D len && inB 0 20 e
theorem chainB_len {D : Nat → Ev} {len : Nat} (h : chainB D len = true) : len ≤ 30 := by
  unfold chainB at h
  simp at h
  exact h.1

theorem own_one {base : Nat} (w : World) (h : base ≤ w.heap.size) : OwnI (w.alloc (.cells #[.int .i64 1] 2)) base (.slice (some ⟨w.heap.size, 0, none⟩) 1 1) [1] :=
  ⟨rfl, .inr ⟨w.heap.size, 1, _, rfl, h, heap_alloc_new _ _, Nat.le_refl _, by decide, rfl, rfl⟩⟩
theorem results_row_tmp {P : Program} {fn : Func} {p u : Tmp} {ty : TypeId} (h : fn.results = #[.cell p ty, .tmp u]) (tmps : Array Value) (w : World) (g : Nat) (t : TypeId) (cs : Array Value) (fr : Nat × Nat) (d : TypeDesc)
    (hp : tmps.getD p undef = .pointer (some ⟨g, 0, none⟩)) (hg : w.heap[g]? = some (.cells cs t fr))
    (hu : P.underlying ty = some d) (hd : (match d with | .struct _ | .array _ _ => true | _ => false) = true) (hi : (P.info? ty).map (·.size) = some cs.size) :
    (results fn tmps).run P w = .ok (.tuple #[.agg cs, tmps.getD u undef]) w := by
  rw [results_cell_tmp h, hp]
  simp [asAddr, run_loadVar_row w g t ty cs fr d hg hu hd hi, Result.andThen]

set_option maxRecDepth 10000 in
set_option maxHeartbeats 4000000 in
theorem specRoster_any (a : Option Addr) (len cap : Nat) (D : Nat → Ev) (e : Int) (w : World) (h : IsEvs w a len cap D) :
    Calls Try.prog 21 #[.slice a len cap, .int .i64 e] w fun r w' => ∃ vM vA, r = .returned (.tuple #[.agg #[vM, vA], .bool (rosB D len e)]) ∧ ((rosB D len e = false ∧ vM = .slice none 0 0 ∧ vA = .slice none 0 0) ∨ (rosB D len e = true ∧ OwnI w' w.heap.size vM (rosterL D len e.toNat).1 ∧ OwnI w' w.heap.size vA (rosterL D len e.toNat).2)) ∧ Below w.heap.size w w' := by
  have HD : Hid (IsEvs w a len cap D) := h
  obtain ⟨W, hW⟩ : ∃ W, W = w.alloc (.cells #[.slice none 0 0, .slice none 0 0] 41) := ⟨_, rfl⟩
  have hBW : Below w.heap.size w W := by rw [hW]; exact (Below.refl _ _).alloc (Nat.le_refl _) _
  have hWs : W.heap.size = w.heap.size + 1 := by rw [hW]; simp
  have g4 : W.heap[w.heap.size]? = some (.cells #[.slice none 0 0, .slice none 0 0] 41 (0, 0)) := by rw [hW]; exact heap_alloc_new _ _
  have HH : Hid (Below w.heap.size w W ∧ W.heap.size = w.heap.size + 1 ∧ W.heap[w.heap.size]? = some (.cells #[.slice none 0 0, .slice none 0 0] 41 (0, 0))) := ⟨hBW, hWs, g4⟩
  have HDW : Hid (IsEvs W a len cap D) := h.below hBW
  have HW : Hid (W = _) := hW
  clear h hW hBW hWs g4
  go_enter Try.func21, Try.ntmps21
  go_wp2_with fail
  rw [← HW.out]
  refine (specChain_any a len cap D W HDW.out).mono ?_
  rintro r w1 ⟨rfl, hB1⟩
  cases hch : chainB D len with
  | false =>
    have hr : Hid (rosB D len e = false) := by show _ = _; unfold rosB; rw [hch]; rfl
    have g4' : w1.heap[w.heap.size]? = some (.cells #[.slice none 0 0, .slice none 0 0] 41 (0, 0)) := (hB1.block _ (by have := HH.out.2.1; omega)).trans HH.out.2.2
    have i0 : w1.cell? ⟨w.heap.size, 0, none⟩ = some (.slice none 0 0) := cellN g4'
    have i1 : w1.cell? ⟨w.heap.size, 1, none⟩ = some (.slice none 0 0) := cellN g4'
    have j0 : w1.frozen? ⟨w.heap.size, 0, none⟩ = false := frozN g4'
    have j1 : w1.frozen? ⟨w.heap.size, 1, none⟩ = false := frozN g4'
    have HE : Hid (((w1.setCell ⟨w.heap.size, 0, none⟩ (.slice none 0 0)).setCell ⟨w.heap.size, 1, none⟩ (.slice none 0 0)).heap[w.heap.size]? = some (.cells #[.slice none 0 0, .slice none 0 0] 41 (0, 0)) ∧ Below w.heap.size w ((w1.setCell ⟨w.heap.size, 0, none⟩ (.slice none 0 0)).setCell ⟨w.heap.size, 1, none⟩ (.slice none 0 0))) := ⟨set2_same _ _ g4', ((HH.out.1.trans (hB1.mono HH.out.1.size)).setCell (p := ⟨w.heap.size, 0, none⟩) (Nat.le_refl _) _).setCell (p := ⟨w.heap.size, 1, none⟩) (Nat.le_refl _) _⟩
    clear g4'
    go_wp2
    exact bodyPost_ret (results_row_tmp rfl _ _ w.heap.size 41 _ _ _ rfl HE.out.1 Try.underlying41 rfl infoR2) rfl ⟨_, _, by rw [hr.out]; rfl, .inl ⟨hr.out, rfl, rfl⟩, HE.out.2⟩
  | true =>
    have hl30 := chainB_len hch
    cases hin : inB 0 20 e with
    | false =>
      have hr : Hid (rosB D len e = false) := by show _ = _; unfold rosB; rw [hch, hin]; rfl
      go_wp2_with fail
      refine (in_any e 0 20 false hin w1).mono ?_
      rintro r w2 ⟨rfl, hw2⟩
      rw [hw2]; clear hw2 w2
      have g4' : w1.heap[w.heap.size]? = some (.cells #[.slice none 0 0, .slice none 0 0] 41 (0, 0)) := (hB1.block _ (by have := HH.out.2.1; omega)).trans HH.out.2.2
      have i0 : w1.cell? ⟨w.heap.size, 0, none⟩ = some (.slice none 0 0) := cellN g4'
      have i1 : w1.cell? ⟨w.heap.size, 1, none⟩ = some (.slice none 0 0) := cellN g4'
      have j0 : w1.frozen? ⟨w.heap.size, 0, none⟩ = false := frozN g4'
      have j1 : w1.frozen? ⟨w.heap.size, 1, none⟩ = false := frozN g4'
      have HE : Hid (((w1.setCell ⟨w.heap.size, 0, none⟩ (.slice none 0 0)).setCell ⟨w.heap.size, 1, none⟩ (.slice none 0 0)).heap[w.heap.size]? = some (.cells #[.slice none 0 0, .slice none 0 0] 41 (0, 0)) ∧ Below w.heap.size w ((w1.setCell ⟨w.heap.size, 0, none⟩ (.slice none 0 0)).setCell ⟨w.heap.size, 1, none⟩ (.slice none 0 0))) := ⟨set2_same _ _ g4', ((HH.out.1.trans (hB1.mono HH.out.1.size)).setCell (p := ⟨w.heap.size, 0, none⟩) (Nat.le_refl _) _).setCell (p := ⟨w.heap.size, 1, none⟩) (Nat.le_refl _) _⟩
      clear g4'
      go_wp2
      exact bodyPost_ret (results_row_tmp rfl _ _ w.heap.size 41 _ _ _ rfl HE.out.1 Try.underlying41 rfl infoR2) rfl ⟨_, _, by rw [hr.out]; rfl, .inl ⟨hr.out, rfl, rfl⟩, HE.out.2⟩
    | true =>
      have hr : Hid (rosB D len e = true) := by show _ = _; unfold rosB; rw [hch, hin]; rfl
      have he : 0 ≤ e ∧ e ≤ 20 := by unfold inB at hin; simpa using hin
      go_wp2_with fail
      refine (in_any e 0 20 true hin w1).mono ?_
      rintro r w2 ⟨rfl, hw2⟩
      rw [hw2]; clear hw2 w2
      have hW1 : W.heap.size ≤ w1.heap.size := hB1.size
      have hw1 : w.heap.size ≤ w1.heap.size := by have := HH.out.2.1; omega
      have HY : Hid ((((w1.alloc (.cells #[.int .i64 1] 2)).alloc (.cells #[.int .i64 1] 2)).alloc (.cells #[.slice (some ⟨w1.heap.size, 0, none⟩) 1 1, .slice (some ⟨w1.heap.size + 1, 0, none⟩) 1 1] 41)).heap[w1.heap.size + 2]? = some (.cells #[.slice (some ⟨w1.heap.size, 0, none⟩) 1 1, .slice (some ⟨w1.heap.size + 1, 0, none⟩) 1 1] 41 (0, 0)) ∧ OwnI (((w1.alloc (.cells #[.int .i64 1] 2)).alloc (.cells #[.int .i64 1] 2)).alloc (.cells #[.slice (some ⟨w1.heap.size, 0, none⟩) 1 1, .slice (some ⟨w1.heap.size + 1, 0, none⟩) 1 1] 41)) w.heap.size (.slice (some ⟨w1.heap.size, 0, none⟩) 1 1) [1] ∧ OwnI (((w1.alloc (.cells #[.int .i64 1] 2)).alloc (.cells #[.int .i64 1] 2)).alloc (.cells #[.slice (some ⟨w1.heap.size, 0, none⟩) 1 1, .slice (some ⟨w1.heap.size + 1, 0, none⟩) 1 1] 41)) w.heap.size (.slice (some ⟨w1.heap.size + 1, 0, none⟩) 1 1) [1] ∧ Below w1.heap.size w1 (((w1.alloc (.cells #[.int .i64 1] 2)).alloc (.cells #[.int .i64 1] 2)).alloc (.cells #[.slice (some ⟨w1.heap.size, 0, none⟩) 1 1, .slice (some ⟨w1.heap.size + 1, 0, none⟩) 1 1] 41))) := by
        have o1 : OwnI (w1.alloc (.cells #[.int .i64 1] 2)) w.heap.size (.slice (some ⟨w1.heap.size, 0, none⟩) 1 1) [1] := own_one w1 hw1
        have o2 : OwnI ((w1.alloc (.cells #[.int .i64 1] 2)).alloc (.cells #[.int .i64 1] 2)) w.heap.size (.slice (some ⟨w1.heap.size + 1, 0, none⟩) 1 1) [1] := by
          have := own_one (base := w.heap.size) (w1.alloc (.cells #[.int .i64 1] 2)) (by simp; omega)
          simpa using this
        refine ⟨?_, (o1.below ((Below.refl _ _).alloc (Nat.le_refl _) _)).below ((Below.refl _ _).alloc (Nat.le_refl _) _), o2.below ((Below.refl _ _).alloc (Nat.le_refl _) _), (((Below.refl _ _).alloc (Nat.le_refl _) _).alloc (by simp) _).alloc (by simp; omega) _⟩
        have := heap_alloc_new ((w1.alloc (.cells #[.int .i64 1] 2)).alloc (.cells #[.int .i64 1] 2)) (.cells #[.slice (some ⟨w1.heap.size, 0, none⟩) 1 1, .slice (some ⟨w1.heap.size + 1, 0, none⟩) 1 1] 41)
        simpa using this
      clear hch hin
      go_wp2
      go_loopw [7] (fun i wx => ∃ (k : Nat) (y : Int) (x z : Value), Hid (y = ((k + 1 : Nat) : Int)) ∧ (k : Int) ≤ e ∧ i = .int .i64 y ∧ Hid (wx.heap[w1.heap.size + 2]? = some (.cells #[x, z] 41 (0, 0)) ∧ OwnI wx w.heap.size x (rosterL D len k).1 ∧ OwnI wx w.heap.size z (rosterL D len k).2 ∧ Below w1.heap.size w1 wx)) (fun i _ => 21 - (intOf i).toNat)
      case atStart => exact ⟨0, 1, _, _, rfl, he.1, rfl, HY⟩
      case round =>
        obtain ⟨k, y, x, z, HYK, hke, rfl, HI⟩ := hrel
        clear HY
        have hy : y = (k : Int) + 1 := by rw [HYK.out]; omega
        obtain ⟨ax, cx, rfl⟩ := HI.out.2.1.slice
        obtain ⟨az, cz, rfl⟩ := HI.out.2.2.1.slice
        have d0 : wr.cell? ⟨w1.heap.size + 2, 0, none⟩ = some (.slice ax (rosterL D len k).1.length cx) := cellN HI.out.1
        have d1 : wr.cell? ⟨w1.heap.size + 2, 1, none⟩ = some (.slice az (rosterL D len k).2.length cz) := cellN HI.out.1
        by_cases hle : y ≤ e
        · have hw : IntKind.i64.wrap (y + 1) = y + 1 := by rw [IntKind.wrap_i64]; omega
          have HDr : Hid (IsEvs wr a len cap D) := (HDW.out.below hB1).below HI.out.2.2.2
          have hs : w.heap.size ≤ wr.heap.size := Nat.le_trans hw1 HI.out.2.2.2.size
          have HK : Hid (y = (k : Int) + 1) := hy
          clear hy
          go_wp2_with fail
          refine (epoch_any _ _ _ _ a len cap D y wr _ _ HI.out.2.1 HI.out.2.2.1 (rosterL_ros D len k).1 (rosterL_ros D len k).2 HDr.out hl30).mono ?_
          rintro r w3 ⟨vM, vA, rfl, hM, hA, hB3⟩
          have hst : epochL D len y ((rosterL D len k).1, (rosterL D len k).2) = rosterL D len (k + 1) := by rw [HYK.out]; rfl
          rw [hst] at hM hA
          clear hst
          obtain ⟨aM, cM, rfl⟩ := hM.slice
          obtain ⟨aA, cA, rfl⟩ := hA.slice
          have g3 := (hB3.block _ (lt_of_block HI.out.1)).trans HI.out.1
          have e0 : w3.cell? ⟨w1.heap.size + 2, 0, none⟩ = some (.slice ax (rosterL D len k).1.length cx) := cellN g3
          have e1 : w3.cell? ⟨w1.heap.size + 2, 1, none⟩ = some (.slice az (rosterL D len k).2.length cz) := cellN g3
          have f0 : w3.frozen? ⟨w1.heap.size + 2, 0, none⟩ = false := frozN g3
          have f1 : w3.frozen? ⟨w1.heap.size + 2, 1, none⟩ = false := frozN g3
          have b3 : Below w1.heap.size w1 w3 := HI.out.2.2.2.trans (hB3.mono HI.out.2.2.2.size)
          obtain ⟨nM, hnM⟩ : ∃ n, n = (rosterL D len (k + 1)).1.length := ⟨_, rfl⟩
          obtain ⟨nA, hnA⟩ : ∃ n, n = (rosterL D len (k + 1)).2.length := ⟨_, rfl⟩
          rw [← hnM, ← hnA]
          rw [← hnM] at hM
          rw [← hnA] at hA
          have HF : Hid (((w3.setCell ⟨w1.heap.size + 2, 0, none⟩ (.slice aM nM cM)).setCell ⟨w1.heap.size + 2, 1, none⟩ (.slice aA nA cA)).heap[w1.heap.size + 2]? = some (.cells #[.slice aM nM cM, .slice aA nA cA] 41 (0, 0)) ∧ OwnI ((w3.setCell ⟨w1.heap.size + 2, 0, none⟩ (.slice aM nM cM)).setCell ⟨w1.heap.size + 2, 1, none⟩ (.slice aA nA cA)) w.heap.size (.slice aM nM cM) (rosterL D len (k + 1)).1 ∧ OwnI ((w3.setCell ⟨w1.heap.size + 2, 0, none⟩ (.slice aM nM cM)).setCell ⟨w1.heap.size + 2, 1, none⟩ (.slice aA nA cA)) w.heap.size (.slice aA nA cA) (rosterL D len (k + 1)).2 ∧ Below w1.heap.size w1 ((w3.setCell ⟨w1.heap.size + 2, 0, none⟩ (.slice aM nM cM)).setCell ⟨w1.heap.size + 2, 1, none⟩ (.slice aA nA cA))) :=
            ⟨set2_same _ _ g3, (hM.base hs).set2 _ _ g3, (hA.base hs).set2 _ _ g3, (b3.setCell (p := ⟨w1.heap.size + 2, 0, none⟩) (by simp) _).setCell (p := ⟨w1.heap.size + 2, 1, none⟩) (by simp) _⟩
          clear hM hA hB3 g3 b3 hnM hnA d0 d1
          go_wp2
          go_roundw
          case rel => exact ⟨k + 1, y + 1, _, _, by show _ = _; have := HK.out; omega, by have := HK.out; omega, rfl, HF⟩
          case measure => have := HK.out; simp [intOf]; omega
        · have hkn : k = e.toNat := by omega
          have hd : decide (y ≤ e) = false := decide_eq_false hle
          have g4' : wr.heap[w.heap.size]? = some (.cells #[.slice none 0 0, .slice none 0 0] 41 (0, 0)) := (HI.out.2.2.2.block _ (by have := HH.out.2.1; omega)).trans ((hB1.block _ (by have := HH.out.2.1; omega)).trans HH.out.2.2)
          have i0 : wr.cell? ⟨w.heap.size, 0, none⟩ = some (.slice none 0 0) := cellN g4'
          have i1 : wr.cell? ⟨w.heap.size, 1, none⟩ = some (.slice none 0 0) := cellN g4'
          have j0 : wr.frozen? ⟨w.heap.size, 0, none⟩ = false := frozN g4'
          have j1 : wr.frozen? ⟨w.heap.size, 1, none⟩ = false := frozN g4'
          obtain ⟨nM, hnM⟩ : ∃ n, n = (rosterL D len k).1.length := ⟨_, rfl⟩
          obtain ⟨nA, hnA⟩ : ∃ n, n = (rosterL D len k).2.length := ⟨_, rfl⟩
          rw [← hnM] at d0
          rw [← hnA] at d1
          have HE : Hid (((wr.setCell ⟨w.heap.size, 0, none⟩ (.slice ax nM cx)).setCell ⟨w.heap.size, 1, none⟩ (.slice az nA cz)).heap[w.heap.size]? = some (.cells #[.slice ax nM cx, .slice az nA cz] 41 (0, 0)) ∧ OwnI ((wr.setCell ⟨w.heap.size, 0, none⟩ (.slice ax nM cx)).setCell ⟨w.heap.size, 1, none⟩ (.slice az nA cz)) w.heap.size (.slice ax nM cx) (rosterL D len e.toNat).1 ∧ OwnI ((wr.setCell ⟨w.heap.size, 0, none⟩ (.slice ax nM cx)).setCell ⟨w.heap.size, 1, none⟩ (.slice az nA cz)) w.heap.size (.slice az nA cz) (rosterL D len e.toNat).2 ∧ Below w.heap.size w ((wr.setCell ⟨w.heap.size, 0, none⟩ (.slice ax nM cx)).setCell ⟨w.heap.size, 1, none⟩ (.slice az nA cz))) := by
            have q1 := HI.out.2.1.set2 (.slice ax nM cx) (.slice az nA cz) g4'
            have q2 := HI.out.2.2.1.set2 (.slice ax nM cx) (.slice az nA cz) g4'
            rw [← hnM] at q1
            rw [← hnA] at q2
            rw [← hkn]
            exact ⟨set2_same _ _ g4', q1, q2, (((HH.out.1.trans (hB1.mono HH.out.1.size)).trans (HI.out.2.2.2.mono hw1)).setCell (p := ⟨w.heap.size, 0, none⟩) (Nat.le_refl _) _).setCell (p := ⟨w.heap.size, 1, none⟩) (Nat.le_refl _) _⟩
          clear g4' hnM hnA hkn hy HI
          go_wp2
          exact bodyPost_ret (results_row_tmp rfl _ _ w.heap.size 41 _ _ _ rfl HE.out.1 Try.underlying41 rfl infoR2) rfl ⟨_, _, by rw [hr.out]; rfl, .inr ⟨hr.out, HE.out.2.1, HE.out.2.2.1⟩, HE.out.2.2.2⟩
end Go.Proofs.Ytglnnocfdlachaa
