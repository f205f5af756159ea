/-
  Both ReadFiles. No condition but that the slices read and that the sizes are small.
-/
import Derived.Test.YtmianfajmddeiaaDkRf
import Derived.Test.YtmianfajmddeiaaDkX2
namespace Go.Proofs.Ytmianfajmddeiaa
open Go.RowKit
set_option linter.unusedVariables false

/-- what ReadFile answers -/
def rdB (L S : List Fl) (O : List Dop) (s : ByteArray) : ByteArray := if diskB L S O = true then readF L s else ⟨#[]⟩
def rdOk (L S : List Fl) (O : List Dop) (s : ByteArray) : Bool := if diskB L S O = true then (getF L s).isSome else false
theorem diskB_files {L S : List Fl} {O : List Dop} (h : diskB L S O = true) : filesB L = true := by
  unfold diskB at h
  rw [Bool.and_eq_true] at h
  exact h.1

set_option maxRecDepth 4000 in
set_option maxHeartbeats 1000000 in
theorem implRead_any (vL vS vO : Value) (L S : List Fl) (O : List Dop) (s : ByteArray) (w : World) (hL : RdF w vL L) (hS : RdF w vS S) (hO : RdO w vO O) (hz : SmallD L S O) :
    Calls Try.prog 14 #[.agg #[vL, vS, vO], .string s] w fun e w' => e = .returned (.tuple #[.string (rdB L S O s), .bool (rdOk L S O s)]) ∧ Below w.heap.size w w' := by
  have HA : Hid (∀ w', Below w.heap.size w w' → RdF w' vL L ∧ RdF w' vS S ∧ RdO w' vO O) := fun w' hB => ⟨hL.below hB, hS.below hB, hO.below hB⟩
  have HLS : Hid (∀ w', Below w.heap.size w w' → RdF w' vL L) := fun w' hB => hL.below hB
  obtain ⟨aL, cL, eL⟩ := hL.slice
  obtain ⟨nL, hnL⟩ : ∃ n, n = L.length := ⟨_, rfl⟩
  rw [← hnL] at eL
  obtain ⟨aS, cS, eS⟩ := hS.slice
  obtain ⟨nS, hnS⟩ : ∃ n, n = S.length := ⟨_, rfl⟩
  rw [← hnS] at eS
  obtain ⟨aO, cO, eO⟩ := hO.slice
  obtain ⟨nO, hnO⟩ : ∃ n, n = O.length := ⟨_, rfl⟩
  rw [← hnO] at eO
  subst eL eS eO
  have HNL : Hid (nL = L.length) := hnL
  obtain ⟨X, hX⟩ : ∃ X, X = w.alloc (.cells #[.slice aL nL cL, .slice aS nS cS, .slice aO nO cO] 31) := ⟨_, rfl⟩
  have hBX : Below w.heap.size w X := by rw [hX]; exact (Below.refl _ _).alloc (Nat.le_refl _) _
  have gX : X.heap[w.heap.size]? = some (.cells #[.slice aL nL cL, .slice aS nS cS, .slice aO nO cO] 31 (0, 0)) := by rw [hX]; exact heap_alloc_new _ _
  have HG : Hid (∀ w', Below X.heap.size X w' → w'.cell? ⟨w.heap.size, 0, none⟩ = some (.slice aL nL cL) ∧ w'.cell? ⟨w.heap.size, 1, none⟩ = some (.slice aS nS cS) ∧ w'.cell? ⟨w.heap.size, 2, none⟩ = some (.slice aO nO cO) ∧ Below w.heap.size w w') := fun w' hB => by
    have g := (hB.block _ (lt_of_block gX)).trans gX
    exact ⟨cellN g, cellN g, cellN g, hBX.trans (hB.mono hBX.size)⟩
  have HX := (show Hid _ from hX)
  have HZ : Hid (SmallD L S O) := hz
  obtain ⟨c0, c1, c2, _⟩ := HG.out X (Below.refl _ _)
  rw [hX] at c0 c1 c2
  have HBX := (show Hid _ from hBX)
  clear hX hBX gX hL hS hO hz hnL hnS hnO
  go_enter Try.func14, Try.ntmps14
  go_wp2_with fail
  rw [← HX.out]
  have hAX := HA.out X HBX.out
  refine (implDisk_any _ _ _ L S O X hAX.1 hAX.2.1 hAX.2.2 HZ.out).mono ?_
  rintro e w1 ⟨rfl, hB1⟩
  have HB1 := (show Hid _ from hB1)
  clear c0 c1 c2 HX hAX
  obtain ⟨c0, _, _, hBw1⟩ := HG.out w1 hB1
  have HBW1 := (show Hid _ from hBw1)
  clear hB1 hBw1
  cases hd : diskB L S O with
  | false =>
    have HR : Hid (rdB L S O s = ⟨#[]⟩ ∧ rdOk L S O s = false) := ⟨by unfold rdB; rw [hd]; rfl, by unfold rdOk; rw [hd]; rfl⟩
    clear hd
    go_wp2
    go_ret2
    exact ⟨ret_val (by rw [HR.out.1, HR.out.2]; rfl), HBW1.out⟩
  | true =>
    have HFB : Hid (filesB L = true) := diskB_files hd
    have HR : Hid (rdB L S O s = readF L s ∧ rdOk L S O s = (getF L s).isSome) := ⟨by unfold rdB; rw [hd]; rfl, by unfold rdOk; rw [hd]; rfl⟩
    clear hd
    go_wp2_with fail
    refine (dataOf_any _ L s w1 (HLS.out w1 HBW1.out) (filesB_up HFB.out) (by have := (filesB_parts HFB.out).1; omega)).mono ?_
    rintro e w2 ⟨rfl, hB2⟩
    have HB2 : Hid (Below w.heap.size w w2) := HBW1.out.trans (hB2.mono HBW1.out.size)
    clear hB2 c0
    go_wp2
    go_ret2
    exact ⟨ret_val (by rw [HR.out.1, HR.out.2]; rfl), HB2.out⟩

set_option maxRecDepth 4000 in
set_option maxHeartbeats 1000000 in
theorem specRead_any (vL vS vO : Value) (L S : List Fl) (O : List Dop) (s : ByteArray) (w : World) (hL : RdF w vL L) (hS : RdF w vS S) (hO : RdO w vO O) (hz : SmallD L S O) :
    Calls Try.prog 13 #[.agg #[vL, vS, vO], .string s] w fun e w' => e = .returned (.tuple #[.string (rdB L S O s), .bool (rdOk L S O s)]) ∧ Below w.heap.size w w' := by
  have HA : Hid (∀ w', Below w.heap.size w w' → RdF w' vL L ∧ RdF w' vS S ∧ RdO w' vO O) := fun w' hB => ⟨hL.below hB, hS.below hB, hO.below hB⟩
  have HLS : Hid (∀ w', Below w.heap.size w w' → RdF w' vL L) := fun w' hB => hL.below hB
  obtain ⟨aL, cL, eL⟩ := hL.slice
  obtain ⟨nL, hnL⟩ : ∃ n, n = L.length := ⟨_, rfl⟩
  rw [← hnL] at eL
  obtain ⟨aS, cS, eS⟩ := hS.slice
  obtain ⟨nS, hnS⟩ : ∃ n, n = S.length := ⟨_, rfl⟩
  rw [← hnS] at eS
  obtain ⟨aO, cO, eO⟩ := hO.slice
  obtain ⟨nO, hnO⟩ : ∃ n, n = O.length := ⟨_, rfl⟩
  rw [← hnO] at eO
  subst eL eS eO
  have HNL : Hid (nL = L.length) := hnL
  obtain ⟨X, hX⟩ : ∃ X, X = w.alloc (.cells #[.slice aL nL cL, .slice aS nS cS, .slice aO nO cO] 31) := ⟨_, rfl⟩
  have hBX : Below w.heap.size w X := by rw [hX]; exact (Below.refl _ _).alloc (Nat.le_refl _) _
  have gX : X.heap[w.heap.size]? = some (.cells #[.slice aL nL cL, .slice aS nS cS, .slice aO nO cO] 31 (0, 0)) := by rw [hX]; exact heap_alloc_new _ _
  have HG : Hid (∀ w', Below X.heap.size X w' → w'.cell? ⟨w.heap.size, 0, none⟩ = some (.slice aL nL cL) ∧ w'.cell? ⟨w.heap.size, 1, none⟩ = some (.slice aS nS cS) ∧ w'.cell? ⟨w.heap.size, 2, none⟩ = some (.slice aO nO cO) ∧ Below w.heap.size w w') := fun w' hB => by
    have g := (hB.block _ (lt_of_block gX)).trans gX
    exact ⟨cellN g, cellN g, cellN g, hBX.trans (hB.mono hBX.size)⟩
  have HX := (show Hid _ from hX)
  have HZ : Hid (SmallD L S O) := hz
  obtain ⟨c0, c1, c2, _⟩ := HG.out X (Below.refl _ _)
  rw [hX] at c0 c1 c2
  have HBX := (show Hid _ from hBX)
  clear hX hBX gX hL hS hO hz hnL hnS hnO
  go_enter Try.func13, Try.ntmps13
  go_wp2_with fail
  rw [← HX.out]
  have hAX := HA.out X HBX.out
  refine (specDisk_any _ _ _ L S O X hAX.1 hAX.2.1 hAX.2.2 HZ.out).mono ?_
  rintro e w1 ⟨rfl, hB1⟩
  have HB1 := (show Hid _ from hB1)
  clear c0 c1 c2 HX hAX
  obtain ⟨c0, _, _, hBw1⟩ := HG.out w1 hB1
  have HBW1 := (show Hid _ from hBw1)
  clear hB1 hBw1
  cases hd : diskB L S O with
  | false =>
    have HR : Hid (rdB L S O s = ⟨#[]⟩ ∧ rdOk L S O s = false) := ⟨by unfold rdB; rw [hd]; rfl, by unfold rdOk; rw [hd]; rfl⟩
    clear hd
    go_wp2
    go_ret2
    exact ⟨ret_val (by rw [HR.out.1, HR.out.2]; rfl), HBW1.out⟩
  | true =>
    have HFB : Hid (filesB L = true) := diskB_files hd
    have HR : Hid (rdB L S O s = readF L s ∧ rdOk L S O s = (getF L s).isSome) := ⟨by unfold rdB; rw [hd]; rfl, by unfold rdOk; rw [hd]; rfl⟩
    clear hd
    go_wp2_with fail
    refine (at_any _ L s w1 (HLS.out w1 HBW1.out)).mono ?_
    rintro e w' ⟨z, rfl, hz, hw⟩
    rw [hw]
    clear hw w'
    rcases at_get hz with ⟨rfl, hg⟩ | ⟨i, rfl, hin, hg⟩
    · have HR2 : Hid (rdB L S O s = ⟨#[]⟩ ∧ rdOk L S O s = false) := ⟨by rw [HR.out.1]; unfold readF; rw [hg]; rfl, by rw [HR.out.2, hg]; rfl⟩
      clear hz hg
      go_wp2
      go_ret2
      exact ⟨ret_val (by rw [HR2.out.1, HR2.out.2]; rfl), HBW1.out⟩
    · have hrd := HLS.out w1 HBW1.out
      obtain ⟨a', cap', e', _, _, hc'⟩ := hrd
      simp only [Value.slice.injEq] at e'
      obtain ⟨rfl, _, _⟩ := e'
      obtain ⟨b, off, rfl, hbs, hl'⟩ := hc' (by omega)
      have d1 := (hl' i hin).c1
      have hinn : i < nL := by rw [HNL.out]; exact hin
      have hinI : (i : Int) < (nL : Int) := by omega
      have hin0 : ¬ (i : Int) < 0 := by omega
      have HR2 : Hid (rdB L S O s = (L.getD i flZ).d ∧ rdOk L S O s = true) := ⟨by rw [HR.out.1]; unfold readF; rw [hg]; rfl, by rw [HR.out.2, hg]; rfl⟩
      obtain ⟨x, hx⟩ : ∃ x, x = (L.getD i flZ).d := ⟨_, rfl⟩
      rw [← hx] at d1 HR2
      clear hz hg hc' hl' hx
      go_wp2
      go_ret2
      exact ⟨ret_val (by rw [HR2.out.1, HR2.out.2]; rfl), HBW1.out⟩
end Go.Proofs.Ytmianfajmddeiaa
