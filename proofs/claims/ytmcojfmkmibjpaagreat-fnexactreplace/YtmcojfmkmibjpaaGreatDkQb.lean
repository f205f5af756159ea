/-
  Both ReadFiles. No condition but that the slices read and that the sizes are small.
  Replace, plainly: the ops that it does and its answer. No condition.
  The specification's Replace at every disk whose slices read, every name and data of a moderate size. No condition but these.
  slices.Insert of one op ahead of a literal of two. No condition.
  Regions that draw their order, each step with its own account of what stays. No condition.
  The size of a disk, with what is left. No condition but that it reads.
  Regions of the law FnExactDo. No condition.
  The program's Replace at every disk whose slices read, every name and data of a moderate size. No condition but these.
  FnExactReplace: the walk of the law. No condition but that the slices that came in read.
-/
import Derived.Test.YtmcojfmkmibjpaaGreatDkRf
import Derived.Test.YtmcojfmkmibjpaaGreatDkX2
import Derived.Test.YtmcojfmkmibjpaaGreatDkDv
import Derived.Test.YtmcojfmkmibjpaaGreatDkA2
import Derived.Test.YtmcojfmkmibjpaaGreatDkC2
import Derived.Lib.AppendZerosOnto
import Derived.Laws.CopyRow
import Derived.Laws.NewBlocks
import Derived.Deep.RegionLaw
import Derived.Test.YtmcojfmkmibjpaaGreatRegL
import Derived.Test.YtmcojfmkmibjpaaGreatDkX
import Derived.Test.YtmcojfmkmibjpaaGreatDkDi
namespace Go.Proofs.YtmcojfmkmibjpaaGreat
open Go.RowKit
set_option linter.unusedVariables false

/-- what ReadFile answers -/
def rdB (L S : List Fl) (O : List Dop) (s : ByteArray) : ByteArray := if diskB L S O = true then readF L s else ⟨#[]⟩
def rdOk (L S : List Fl) (O : List Dop) (s : ByteArray) : Bool := if diskB L S O = true then (getF L s).isSome else false
theorem diskB_files {L S : List Fl} {O : List Dop} (h : diskB L S O = true) : filesB L = true := by
  unfold diskB at h
  rw [Bool.and_eq_true] at h
  exact h.1

set_option maxRecDepth 4000 in
set_option maxHeartbeats 1000000 in
theorem implRead_any (vL vS vO : Value) (L S : List Fl) (O : List Dop) (s : ByteArray) (w : World) (hL : RdF w vL L) (hS : RdF w vS S) (hO : RdO w vO O) (hz : SmallD L S O) :
    Calls Tryz.prog 19 #[.agg #[vL, vS, vO], .string s] w fun e w' => e = .returned (.tuple #[.string (rdB L S O s), .bool (rdOk L S O s)]) ∧ Below w.heap.size w w' := by
  have HA : Hid (∀ w', Below w.heap.size w w' → RdF w' vL L ∧ RdF w' vS S ∧ RdO w' vO O) := fun w' hB => ⟨hL.below hB, hS.below hB, hO.below hB⟩
  have HLS : Hid (∀ w', Below w.heap.size w w' → RdF w' vL L) := fun w' hB => hL.below hB
  obtain ⟨aL, cL, eL⟩ := hL.slice
  obtain ⟨nL, hnL⟩ : ∃ n, n = L.length := ⟨_, rfl⟩
  rw [← hnL] at eL
  obtain ⟨aS, cS, eS⟩ := hS.slice
  obtain ⟨nS, hnS⟩ : ∃ n, n = S.length := ⟨_, rfl⟩
  rw [← hnS] at eS
  obtain ⟨aO, cO, eO⟩ := hO.slice
  obtain ⟨nO, hnO⟩ : ∃ n, n = O.length := ⟨_, rfl⟩
  rw [← hnO] at eO
  subst eL eS eO
  have HNL : Hid (nL = L.length) := hnL
  obtain ⟨X, hX⟩ : ∃ X, X = w.alloc (.cells #[.slice aL nL cL, .slice aS nS cS, .slice aO nO cO] 30) := ⟨_, rfl⟩
  have hBX : Below w.heap.size w X := by rw [hX]; exact (Below.refl _ _).alloc (Nat.le_refl _) _
  have gX : X.heap[w.heap.size]? = some (.cells #[.slice aL nL cL, .slice aS nS cS, .slice aO nO cO] 30 (0, 0)) := by rw [hX]; exact heap_alloc_new _ _
  have HG : Hid (∀ w', Below X.heap.size X w' → w'.cell? ⟨w.heap.size, 0, none⟩ = some (.slice aL nL cL) ∧ w'.cell? ⟨w.heap.size, 1, none⟩ = some (.slice aS nS cS) ∧ w'.cell? ⟨w.heap.size, 2, none⟩ = some (.slice aO nO cO) ∧ Below w.heap.size w w') := fun w' hB => by
    have g := (hB.block _ (lt_of_block gX)).trans gX
    exact ⟨cellN g, cellN g, cellN g, hBX.trans (hB.mono hBX.size)⟩
  have HX := (show Hid _ from hX)
  have HZ : Hid (SmallD L S O) := hz
  obtain ⟨c0, c1, c2, _⟩ := HG.out X (Below.refl _ _)
  rw [hX] at c0 c1 c2
  have HBX := (show Hid _ from hBX)
  clear hX hBX gX hL hS hO hz hnL hnS hnO
  go_enter Tryz.func19, Tryz.ntmps19
  go_wp2_with fail
  rw [← HX.out]
  have hAX := HA.out X HBX.out
  refine (implDisk_any _ _ _ L S O X hAX.1 hAX.2.1 hAX.2.2 HZ.out).mono ?_
  rintro e w1 ⟨rfl, hB1⟩
  have HB1 := (show Hid _ from hB1)
  clear c0 c1 c2 HX hAX
  obtain ⟨c0, _, _, hBw1⟩ := HG.out w1 hB1
  have HBW1 := (show Hid _ from hBw1)
  clear hB1 hBw1
  cases hd : diskB L S O with
  | false =>
    have HR : Hid (rdB L S O s = ⟨#[]⟩ ∧ rdOk L S O s = false) := ⟨by unfold rdB; rw [hd]; rfl, by unfold rdOk; rw [hd]; rfl⟩
    clear hd
    go_wp2
    go_ret2
    exact ⟨ret_val (by rw [HR.out.1, HR.out.2]; rfl), HBW1.out⟩
  | true =>
    have HFB : Hid (filesB L = true) := diskB_files hd
    have HR : Hid (rdB L S O s = readF L s ∧ rdOk L S O s = (getF L s).isSome) := ⟨by unfold rdB; rw [hd]; rfl, by unfold rdOk; rw [hd]; rfl⟩
    clear hd
    go_wp2_with fail
    refine (dataOf_any _ L s w1 (HLS.out w1 HBW1.out) (filesB_up HFB.out) (by have := (filesB_parts HFB.out).1; omega)).mono ?_
    rintro e w2 ⟨rfl, hB2⟩
    have HB2 : Hid (Below w.heap.size w w2) := HBW1.out.trans (hB2.mono HBW1.out.size)
    clear hB2 c0
    go_wp2
    go_ret2
    exact ⟨ret_val (by rw [HR.out.1, HR.out.2]; rfl), HB2.out⟩
end Go.Proofs.YtmcojfmkmibjpaaGreat

namespace Go.Proofs.YtmcojfmkmibjpaaGreat
open Go.RowKit
set_option linter.unusedVariables false

/-- the other name -/
def rpNew (nm : ByteArray) : ByteArray := nm ++ ⟨#[46, 110, 101, 119]⟩
/-- the ops -/
def rpOps (L : List Fl) (nm dt : ByteArray) : List Dop := (if (getF L (rpNew nm)).isSome = true then [⟨3, rpNew nm, ⟨#[]⟩, ⟨#[]⟩⟩] else []) ++ [⟨1, rpNew nm, ⟨#[]⟩, dt⟩, ⟨2, rpNew nm, nm, ⟨#[]⟩⟩]
/-- ops done one behind the other: the code, the files, the ops -/
def actsC : List Fl → List Dop → List Dop → Nat
  | _, _, [] => 0
  | L, O, o :: os => if actC L O o = 0 then actsC (actL L O o) (actO L O o) os else actC L O o
def actsL : List Fl → List Dop → List Dop → List Fl
  | L, _, [] => L
  | L, O, o :: os => actsL (actL L O o) (actO L O o) os
def actsO : List Fl → List Dop → List Dop → List Dop
  | _, O, [] => O
  | L, O, o :: os => actsO (actL L O o) (actO L O o) os
theorem acts_right {S : List Fl} : ∀ (os : List Dop) {L : List Fl} {O : List Dop}, diskB L S O = true → actsC L O os = 0 → diskB (actsL L O os) S (actsO L O os) = true
  | [], L, O, h, _ => h
  | o :: os, L, O, h, hc => by
    rw [actsC] at hc
    split at hc
    · rename_i h0
      obtain ⟨e0, e1, e2, e3⟩ := d_yes o h
      have hd := disk_do h (e0.trans h0)
      rw [e1, e2, e3] at hd
      exact acts_right os hd hc
    · rename_i h0
      exact absurd hc h0
/-- the answer -/
def rpC (L S : List Fl) (O : List Dop) (nm dt : ByteArray) : Nat := if diskB L S O = true then actsC L O (rpOps L nm dt) else 1
def rpL (L S : List Fl) (O : List Dop) (nm dt : ByteArray) : List Fl := if diskB L S O = true then (if actsC L O (rpOps L nm dt) = 0 then actsL L O (rpOps L nm dt) else L) else []
def rpS (L S : List Fl) (O : List Dop) : List Fl := if diskB L S O = true then S else []
def rpO (L S : List Fl) (O : List Dop) (nm dt : ByteArray) : List Dop := if diskB L S O = true then (if actsC L O (rpOps L nm dt) = 0 then actsO L O (rpOps L nm dt) else O) else []
theorem actC_ne1 (L : List Fl) (O : List Dop) (o : Dop) : actC L O o ≠ 1 := by
  unfold actC
  split
  · decide
  · split
    · decide
    · split
      · decide
      · decide
theorem acts_yes {L : List Fl} {O : List Dop} {o : Dop} {os : List Dop} (h : actC L O o = 0) : actsC L O (o :: os) = actsC (actL L O o) (actO L O o) os ∧ actsL L O (o :: os) = actsL (actL L O o) (actO L O o) os ∧ actsO L O (o :: os) = actsO (actL L O o) (actO L O o) os :=
  ⟨by rw [actsC, if_pos h], rfl, rfl⟩
theorem acts_no {L : List Fl} {O : List Dop} {o : Dop} {os : List Dop} (h : actC L O o ≠ 0) : actsC L O (o :: os) = actC L O o := by rw [actsC, if_neg h]
theorem rp_no {L S : List Fl} {O : List Dop} (nm dt : ByteArray) (h : diskB L S O = false) : rpC L S O nm dt = 1 ∧ rpL L S O nm dt = [] ∧ rpS L S O = [] ∧ rpO L S O nm dt = [] := by
  unfold rpC rpL rpS rpO
  rw [h]
  exact ⟨rfl, rfl, rfl, rfl⟩
theorem rp_bad {L S : List Fl} {O : List Dop} {nm dt : ByteArray} (h : diskB L S O = true) (hc : actsC L O (rpOps L nm dt) ≠ 0) : rpC L S O nm dt = actsC L O (rpOps L nm dt) ∧ rpL L S O nm dt = L ∧ rpS L S O = S ∧ rpO L S O nm dt = O := by
  unfold rpC rpL rpS rpO
  rw [if_pos h, if_pos h, if_pos h, if_pos h, if_neg hc, if_neg hc]
  exact ⟨rfl, rfl, rfl, rfl⟩
theorem rp_good {L S : List Fl} {O : List Dop} {nm dt : ByteArray} (h : diskB L S O = true) (hc : actsC L O (rpOps L nm dt) = 0) : rpC L S O nm dt = 0 ∧ rpL L S O nm dt = actsL L O (rpOps L nm dt) ∧ rpS L S O = S ∧ rpO L S O nm dt = actsO L O (rpOps L nm dt) := by
  unfold rpC rpL rpS rpO
  rw [if_pos h, if_pos h, if_pos h, if_pos h, if_pos hc, if_pos hc, hc]
  exact ⟨rfl, rfl, rfl, rfl⟩
end Go.Proofs.YtmcojfmkmibjpaaGreat

namespace Go.Proofs.YtmcojfmkmibjpaaGreat
open Go.RowKit
set_option linter.unusedVariables false

theorem RdD.off3 {w : World} {x y z : Value} {L S : List Fl} {O : List Dop} {R : Nat} {t : TypeId} {a1 a2 a3 : Option Addr} {n1 c1 n2 c2 n3 c3 : Nat} (h : RdD w x y z L S O) (hR : At3 w R t (.slice a1 n1 c1) (.slice a2 n2 c2) (.slice a3 n3 c3)) (q : Array Value) : RdD (w.setRow R q) x y z L S O := by
  have hs : w.heap.size ≤ (w.setRow R q).heap.size := by simp [World.setRow]
  have hcs : ∀ (i : Nat) s, (#[Value.slice a1 n1 c1, .slice a2 n2 c2, .slice a3 n3 c3] : Array Value)[i]? ≠ some (.string s) := fun i s => by
    match i with
    | 0 => simp
    | 1 => simp
    | 2 => simp
    | (k + 3) => simp
  have he : ∀ k, k ≠ R → (w.setRow R q).heap[k]? = w.heap[k]? := fun k hk => setRow_other _ _ _ _ hk
  exact ⟨h.1.far hs hR hcs he, h.2.1.far hs hR hcs he, h.2.2.far hs hR hcs he⟩
theorem At3.rowOff {w : World} {b g : Nat} {t : TypeId} {x y z : Value} (h : At3 w b t x y z) (q : Array Value) (hb : b ≠ g) : At3 (w.setRow g q) b t x y z := (setRow_other _ _ _ _ hb).trans h
/-- where Replace stands: its argument's row, its result's, the row of the disk under way at g -/
structure ReSt (w W : World) (g : Nat) (vL vS vO x y z : Value) (L S : List Fl) (O : List Dop) : Prop where
  d : At3 W w.heap.size 30 vL vS vO
  r : At3 W (w.heap.size + 1) 30 (.slice none 0 0) (.slice none 0 0) (.slice none 0 0)
  n : At3 W g 30 x y z
  rd : RdD W x y z L S O
  bel : Below w.heap.size w W
  far : w.heap.size + 1 < g
theorem ReSt.step {w W V : World} {g : Nat} {vL vS vO : Value} {a1 a2 a3 : Option Addr} {n1 c1 n2 c2 n3 c3 : Nat} {x y z : Value} {L S : List Fl} {O : List Dop} {L' S' : List Fl} {O' : List Dop} (h : ReSt w W g vL vS vO (.slice a1 n1 c1) (.slice a2 n2 c2) (.slice a3 n3 c3) L S O) (hB : Below W.heap.size W V) (hr : RdD V x y z L' S' O') :
    ReSt w (V.setRow g #[x, y, z]) g vL vS vO x y z L' S' O' := by
  have hn := h.n.below hB
  have hf := h.far
  refine ⟨(h.d.below hB).rowOff _ (by omega), (h.r.below hB).rowOff _ (by omega), ?_, hr.off3 hn _, below_setRow (h.bel.trans (hB.mono h.bel.size)) (by omega) _, hf⟩
  exact setRow_heap _ _ _ _ _ _ hn
/-- what is left to do -/
def RpAt (L : List Fl) (O : List Dop) (os : List Dop) (L' : List Fl) (O' : List Dop) (os' : List Dop) : Prop := actsC L O os = actsC L' O' os' ∧ actsL L O os = actsL L' O' os' ∧ actsO L O os = actsO L' O' os'
theorem RpAt.step {L L' : List Fl} {O O' : List Dop} {os os' : List Dop} {o : Dop} (h : RpAt L O os L' O' (o :: os')) (hc : actC L' O' o = 0) : RpAt L O os (actL L' O' o) (actO L' O' o) os' := by
  obtain ⟨e1, e2, e3⟩ := acts_yes (os := os') hc
  exact ⟨h.1.trans e1, h.2.1.trans e2, h.2.2.trans e3⟩
theorem RpAt.bad {L L' : List Fl} {O O' : List Dop} {os os' : List Dop} {o : Dop} (h : RpAt L O os L' O' (o :: os')) (hc : actC L' O' o ≠ 0) : actsC L O os = actC L' O' o := h.1.trans (acts_no hc)
theorem act_disk {L S : List Fl} {O : List Dop} {o : Dop} (h : diskB L S O = true) (hc : actC L O o = 0) : diskB (actL L O o) S (actO L O o) = true := by
  obtain ⟨e0, e1, e2, e3⟩ := d_yes o h
  have hd := disk_do h (e0.trans hc)
  rw [e1, e2, e3] at hd
  exact hd
theorem rpOps_some {L : List Fl} {nm dt x : ByteArray} (h : getF L (rpNew nm) = some x) : rpOps L nm dt = [⟨3, rpNew nm, ⟨#[]⟩, ⟨#[]⟩⟩, ⟨1, rpNew nm, ⟨#[]⟩, dt⟩, ⟨2, rpNew nm, nm, ⟨#[]⟩⟩] := by unfold rpOps; rw [h]; rfl
theorem rpOps_none {L : List Fl} {nm dt : ByteArray} (h : getF L (rpNew nm) = none) : rpOps L nm dt = [⟨1, rpNew nm, ⟨#[]⟩, dt⟩, ⟨2, rpNew nm, nm, ⟨#[]⟩⟩] := by unfold rpOps; rw [h]; rfl
theorem rpNew_size (nm : ByteArray) : (rpNew nm).size = nm.size + 4 := by
  unfold rpNew
  rw [ByteArray.size_append]
  rfl

set_option maxRecDepth 10000 in
set_option maxHeartbeats 8000000 in
theorem specReplace_any (vL vS vO : Value) (L S : List Fl) (O : List Dop) (nm dt : ByteArray) (w : World) (h : RdD w vL vS vO L S O) (hz : SmallD L S O) (hn : L.length ≤ 1048576 ∧ S.length ≤ 1048576 ∧ O.length ≤ 1048576) (hnm : nm.size ≤ 10000000) (hdt : dt.size ≤ 10000000) :
    Calls Tryz.prog 5 #[.agg #[vL, vS, vO], .string nm, .string dt] w fun e w' => ∃ x y z, e = .returned (.tuple #[.agg #[x, y, z], .int .i64 (rpC L S O nm dt : Int)]) ∧ RdD w' x y z (rpL L S O nm dt) (rpS L S O) (rpO L S O nm dt) ∧ Below w.heap.size w w' := by
  have HN : Hid (L.length ≤ 1048576 ∧ S.length ≤ 1048576 ∧ O.length ≤ 1048576) := hn
  have HZ : Hid (SmallD L S O) := hz
  have HA : Hid (∀ w', Below w.heap.size w w' → RdD w' vL vS vO L S O) := fun w' hB => h.below hB
  obtain ⟨fr, hfr⟩ : ∃ fr, fr = rpNew nm := ⟨_, rfl⟩
  have hadd : ∀ w' : World, (Op.stringOp .add nm (⟨#[46, 110, 101, 119]⟩ : ByteArray)).run Tryz.prog w' = .ok (.string fr) w' := fun w' => by
    rw [hfr]
    exact add_ok (by have : (⟨#[46, 110, 101, 119]⟩ : ByteArray).size = 4 := rfl; omega) w'
  have HFR : Hid (fr = rpNew nm ∧ fr.size ≤ 10000004 ∧ nm.size ≤ 10000000 ∧ dt.size ≤ 10000000) := ⟨hfr, by rw [hfr, rpNew_size]; omega, hnm, hdt⟩
  obtain ⟨aL, cL, eL⟩ := h.1.slice
  obtain ⟨nL, hnL⟩ : ∃ n, n = L.length := ⟨_, rfl⟩
  rw [← hnL] at eL
  obtain ⟨aS, cS, eS⟩ := h.2.1.slice
  obtain ⟨nS, hnS⟩ : ∃ n, n = S.length := ⟨_, rfl⟩
  rw [← hnS] at eS
  obtain ⟨aO, cO, eO⟩ := h.2.2.slice
  obtain ⟨nO, hnO⟩ : ∃ n, n = O.length := ⟨_, rfl⟩
  rw [← hnO] at eO
  subst eL eS eO
  obtain ⟨X, hX⟩ : ∃ X, X = (w.alloc (.cells #[.slice aL nL cL, .slice aS nS cS, .slice aO nO cO] 30)).alloc (.cells #[.slice none 0 0, .slice none 0 0, .slice none 0 0] 30) := ⟨_, rfl⟩
  have hBX : Below w.heap.size w X := by rw [hX]; exact ((Below.refl _ _).alloc (Nat.le_refl _) _).alloc (by simp) _
  have gX : X.heap[w.heap.size]? = some (.cells #[.slice aL nL cL, .slice aS nS cS, .slice aO nO cO] 30 (0, 0)) := by rw [hX, Below.heap_alloc _ _ _ (by simp)]; exact heap_alloc_new _ _
  have gR : X.heap[w.heap.size + 1]? = some (.cells #[.slice none 0 0, .slice none 0 0, .slice none 0 0] 30 (0, 0)) := by
    rw [hX]
    have := heap_alloc_new (w.alloc (.cells #[.slice aL nL cL, .slice aS nS cS, .slice aO nO cO] 30)) (.cells #[.slice none 0 0, .slice none 0 0, .slice none 0 0] 30)
    simpa using this
  have HX := (show Hid _ from hX)
  have HBX : Hid (Below w.heap.size w X) := hBX
  have HG : Hid (∀ w', Below X.heap.size X w' → At3 w' w.heap.size 30 (.slice aL nL cL) (.slice aS nS cS) (.slice aO nO cO) ∧ At3 w' (w.heap.size + 1) 30 (.slice none 0 0) (.slice none 0 0) (.slice none 0 0) ∧ Below w.heap.size w w' ∧ w.heap.size + 1 < w'.heap.size) := fun w' hB => ⟨(hB.block _ (lt_of_block gX)).trans gX, (hB.block _ (lt_of_block gR)).trans gR, hBX.trans (hB.mono hBX.size), Nat.lt_of_lt_of_le (lt_of_block gR) hB.size⟩
  have c0 : X.cell? ⟨w.heap.size, 0, none⟩ = some (.slice aL nL cL) := cellN gX
  have c1 : X.cell? ⟨w.heap.size, 1, none⟩ = some (.slice aS nS cS) := cellN gX
  have c2 : X.cell? ⟨w.heap.size, 2, none⟩ = some (.slice aO nO cO) := cellN gX
  rw [hX] at c0 c1 c2
  clear hX hBX gX gR h hz hn hnm hdt hnL hnS hnO hfr
  go_enter Tryz.func5, Tryz.ntmps5
  go_wp2_with fail
  rw [← HX.out]
  have hAX := HA.out X HBX.out
  refine (specDisk_any _ _ _ L S O X hAX.1 hAX.2.1 hAX.2.2 HZ.out).mono ?_
  rintro e w1 ⟨rfl, hB1⟩
  have HB1 : Hid (Below X.heap.size X w1) := hB1
  clear c0 c1 c2 HX hB1 hAX
  cases hd : diskB L S O with
  | false =>
    have HD := (show Hid _ from rp_no nm dt hd)
    have HR3 : Hid (At3 w1 (w.heap.size + 1) 30 (.slice none 0 0) (.slice none 0 0) (.slice none 0 0)) := (HG.out w1 HB1.out).2.1
    obtain ⟨q, hq, hi6, ho6, h16⟩ := row3 none none none 0 0 0 0 0 0
    clear hd
    go_wp2_with (refine wpList_store_row rfl 30 _ _ rfl (w.heap.size + 1) q rfl (congrArg Value.agg hq.symm) 30 _ HR3.out hi6 ho6 h16 ?_)
    subst hq
    refine bodyPost_ret (v := .tuple #[.agg #[.slice none 0 0, .slice none 0 0, .slice none 0 0], _]) (results_row_tmp rfl _ _ (w.heap.size + 1) 30 _ _ _ rfl (setRow_heap _ _ _ _ _ _ HR3.out) Tryz.underlying30 rfl hi6) rfl ⟨_, _, _, ret_val (by rw [HD.out.1]; rfl), ?_, ?_⟩
    · rw [HD.out.2.1, HD.out.2.2.1, HD.out.2.2.2]
      exact ⟨(HoldF.nil _ 0).1, (HoldF.nil _ 0).1, (HoldO.nil _ 0).1⟩
    · exact below_setRow (HG.out w1 HB1.out).2.2.1 (by omega) _
  | true =>
    have HDK : Hid (diskB L S O = true) := hd
    clear hd
    obtain ⟨g, hgg⟩ : ∃ g, g = w1.heap.size := ⟨_, rfl⟩
    obtain ⟨Y, hY⟩ : ∃ Y, Y = w1.alloc (.cells #[.slice aL nL cL, .slice aS nS cS, .slice aO nO cO] 30) := ⟨_, rfl⟩
    have hBY : Below w1.heap.size w1 Y := by rw [hY]; exact (Below.refl _ _).alloc (Nat.le_refl _) _
    have hG1 := HG.out w1 HB1.out
    have HS0 : Hid (ReSt w Y g (.slice aL nL cL) (.slice aS nS cS) (.slice aO nO cO) (.slice aL nL cL) (.slice aS nS cS) (.slice aO nO cO) L S O) :=
      ⟨hG1.1.below hBY, hG1.2.1.below hBY, by rw [hY, hgg]; exact At3.new _ _ _ _ _, HA.out Y (hG1.2.2.1.trans (hBY.mono hG1.2.2.1.size)), hG1.2.2.1.trans (hBY.mono hG1.2.2.1.size), by rw [hgg]; exact hG1.2.2.2⟩
    have HAL : Hid (∀ W, Below w.heap.size w W → RdD W (.slice aL nL cL) (.slice aS nS cS) (.slice aO nO cO) L S O) := HA.out
    have c0 := hG1.1.c0
    have c1 := hG1.1.c1
    have c2 := hG1.1.c2
    have d0 := HS0.out.d.c0
    rw [hY] at d0
    have HY : Hid (Y = w1.alloc (.cells #[.slice aL nL cL, .slice aS nS cS, .slice aO nO cO] 30)) := hY
    have HGG : Hid (g = w1.heap.size) := hgg
    clear hY hBY hG1 hgg
    go_wp2_with fail
    rw [← HY.out]
    refine (at_any _ L fr Y HS0.out.rd.1).mono ?_
    rintro e w' ⟨z, rfl, hz, hw⟩
    rw [hw]
    clear hw w'
    have hgt := at_get hz
    rw [HFR.out.1] at hgt
    clear hz c0 c1 c2 d0
    rw [← HGG.out]
    rcases hgt with ⟨rfl, hg⟩ | ⟨i, rfl, hin, hg⟩
    · have HRA : Hid (RpAt L O (rpOps L nm dt) L O [⟨1, fr, ⟨#[]⟩, dt⟩, ⟨2, fr, nm, ⟨#[]⟩⟩]) := by
        have e := rpOps_none (dt := dt) hg
        rw [← HFR.out.1] at e
        rw [e]
        exact ⟨rfl, rfl, rfl⟩
      have HDI := HDK
      have HST := HS0
      have c0 := HST.out.d.c0
      have c1 := HST.out.d.c1
      have c2 := HST.out.d.c2
      have n0 := HST.out.n.c0
      have n1 := HST.out.n.c1
      have n2 := HST.out.n.c2
      clear hg
      go_wp2_with fail
      have hsd := small_disk HDI.out
      have hlv := filesB_parts (disk_live HDI.out).1
      refine (specAct2_any _ _ _ L S O ⟨1, fr, ⟨#[]⟩, dt⟩ Y HST.out.rd hsd.1 ⟨by omega, by omega, by omega⟩ ⟨hlv.1, hlv.2.1⟩ ⟨show fr.size ≤ 100000000 by have := HFR.out; omega, show (⟨#[]⟩ : ByteArray).size ≤ 100000000 from Nat.zero_le _, show dt.size ≤ 100000000 by have := HFR.out; omega⟩).mono ?_
      rintro e V1 ⟨x, y, z, rfl, hr, _, hBv⟩
      obtain ⟨x1, f1, y1, h1, z1, p1, ex, ey, ez⟩ := hr.slices
      obtain ⟨L1, hL1⟩ : ∃ Q, Q = actL L O ⟨1, fr, ⟨#[]⟩, dt⟩ := ⟨_, rfl⟩
      obtain ⟨O1, hO1⟩ : ∃ Q, Q = actO L O ⟨1, fr, ⟨#[]⟩, dt⟩ := ⟨_, rfl⟩
      obtain ⟨C1, hC1⟩ : ∃ Q, Q = actC L O ⟨1, fr, ⟨#[]⟩, dt⟩ := ⟨_, rfl⟩
      rw [← hL1] at hr ex
      rw [← hO1] at hr ez
      rw [← hC1]
      obtain ⟨l1, hm1⟩ : ∃ m, m = L1.length := ⟨_, rfl⟩
      obtain ⟨k1, hm2⟩ : ∃ m, m = S.length := ⟨_, rfl⟩
      obtain ⟨o1, hm3⟩ : ∃ m, m = O1.length := ⟨_, rfl⟩
      rw [← hm1] at ex
      rw [← hm2] at ey
      rw [← hm3] at ez
      subst ex ey ez
      have HSV : Hid (ReSt w (V1.setRow g #[.slice x1 l1 f1, .slice y1 k1 h1, .slice z1 o1 p1]) g (.slice aL nL cL) (.slice aS nS cS) (.slice aO nO cO) (.slice x1 l1 f1) (.slice y1 k1 h1) (.slice z1 o1 p1) L1 S O1) := HST.out.step hBv hr
      have HNW := (show Hid _ from HST.out.n.below hBv)
      have HCC : Hid (L1 = actL L O ⟨1, fr, ⟨#[]⟩, dt⟩ ∧ O1 = actO L O ⟨1, fr, ⟨#[]⟩, dt⟩ ∧ C1 = actC L O ⟨1, fr, ⟨#[]⟩, dt⟩) := ⟨hL1, hO1, hC1⟩
      obtain ⟨q, hq, hi6, ho6, h16⟩ := row3 x1 y1 z1 l1 f1 k1 h1 o1 p1
      clear hr hBv hm1 hm2 hm3 hL1 hO1 hC1 c0 c1 c2 n0 n1 n2 HST hsd hlv
      by_cases hz0 : C1 = 0
      · have hcb : ((C1 : Int) == 0) = true := by rw [hz0]; rfl
        have HRB : Hid (RpAt L O (rpOps L nm dt) L1 O1 [⟨2, fr, nm, ⟨#[]⟩⟩]) := by
          have := HRA.out.step (HCC.out.2.2.symm.trans hz0)
          rw [← HCC.out.1, ← HCC.out.2.1] at this
          exact this
        have HDJ : Hid (diskB L1 S O1 = true) := by
          have := act_disk HDI.out (HCC.out.2.2.symm.trans hz0)
          rw [← HCC.out.1, ← HCC.out.2.1] at this
          exact this
        have HRA := HRB
        have HDI := HDJ
        clear HRB HDJ HCC hz0
        go_wp2_with (
          (refine wpList_store_row rfl 30 _ _ rfl g q rfl (congrArg Value.agg hq.symm) 30 _ HNW.out hi6 (by rw [hq]; rfl) h16 ?_
           subst hq
           obtain ⟨W1, hW⟩ : ∃ W, W = V1.setRow g #[.slice x1 l1 f1, .slice y1 k1 h1, .slice z1 o1 p1] := ⟨_, rfl⟩
           have HST := HSV
           rw [← hW] at HST
           rw [← hW]
           have c0 := HST.out.d.c0
           have c1 := HST.out.d.c1
           have c2 := HST.out.d.c2
           have n0 := HST.out.n.c0
           have n1 := HST.out.n.c1
           have n2 := HST.out.n.c2
           clear hW))
        have hsd := small_disk HDI.out
        have hlv := filesB_parts (disk_live HDI.out).1
        refine (specAct2_any _ _ _ L1 S O1 ⟨2, fr, nm, ⟨#[]⟩⟩ W1 HST.out.rd hsd.1 ⟨by omega, by omega, by omega⟩ ⟨hlv.1, hlv.2.1⟩ ⟨show fr.size ≤ 100000000 by have := HFR.out; omega, show nm.size ≤ 100000000 by have := HFR.out; omega, show (⟨#[]⟩ : ByteArray).size ≤ 100000000 from Nat.zero_le _⟩).mono ?_
        rintro e V2 ⟨x, y, z, rfl, hr, _, hBv⟩
        obtain ⟨x2, f2, y2, h2, z2, p2, ex, ey, ez⟩ := hr.slices
        obtain ⟨L2, hL2⟩ : ∃ Q, Q = actL L1 O1 ⟨2, fr, nm, ⟨#[]⟩⟩ := ⟨_, rfl⟩
        obtain ⟨O2, hO2⟩ : ∃ Q, Q = actO L1 O1 ⟨2, fr, nm, ⟨#[]⟩⟩ := ⟨_, rfl⟩
        obtain ⟨C2, hC2⟩ : ∃ Q, Q = actC L1 O1 ⟨2, fr, nm, ⟨#[]⟩⟩ := ⟨_, rfl⟩
        rw [← hL2] at hr ex
        rw [← hO2] at hr ez
        rw [← hC2]
        obtain ⟨l2, hm1⟩ : ∃ m, m = L2.length := ⟨_, rfl⟩
        obtain ⟨k2, hm2⟩ : ∃ m, m = S.length := ⟨_, rfl⟩
        obtain ⟨o2, hm3⟩ : ∃ m, m = O2.length := ⟨_, rfl⟩
        rw [← hm1] at ex
        rw [← hm2] at ey
        rw [← hm3] at ez
        subst ex ey ez
        have HSV : Hid (ReSt w (V2.setRow g #[.slice x2 l2 f2, .slice y2 k2 h2, .slice z2 o2 p2]) g (.slice aL nL cL) (.slice aS nS cS) (.slice aO nO cO) (.slice x2 l2 f2) (.slice y2 k2 h2) (.slice z2 o2 p2) L2 S O2) := HST.out.step hBv hr
        have HNW := (show Hid _ from HST.out.n.below hBv)
        have HCC : Hid (L2 = actL L1 O1 ⟨2, fr, nm, ⟨#[]⟩⟩ ∧ O2 = actO L1 O1 ⟨2, fr, nm, ⟨#[]⟩⟩ ∧ C2 = actC L1 O1 ⟨2, fr, nm, ⟨#[]⟩⟩) := ⟨hL2, hO2, hC2⟩
        obtain ⟨q, hq, hi6, ho6, h16⟩ := row3 x2 y2 z2 l2 f2 k2 h2 o2 p2
        clear hr hBv hm1 hm2 hm3 hL2 hO2 hC2 c0 c1 c2 n0 n1 n2 HST hsd hlv
        by_cases hz0 : C2 = 0
        · have hcb : ((C2 : Int) == 0) = true := by rw [hz0]; rfl
          have HRB : Hid (RpAt L O (rpOps L nm dt) L2 O2 []) := by
            have := HRA.out.step (HCC.out.2.2.symm.trans hz0)
            rw [← HCC.out.1, ← HCC.out.2.1] at this
            exact this
          have HDJ : Hid (diskB L2 S O2 = true) := by
            have := act_disk HDI.out (HCC.out.2.2.symm.trans hz0)
            rw [← HCC.out.1, ← HCC.out.2.1] at this
            exact this
          have HRA := HRB
          have HDI := HDJ
          clear HRB HDJ HCC hz0
          go_wp2_with (
            (refine wpList_store_row rfl 30 _ _ rfl g q rfl (congrArg Value.agg hq.symm) 30 _ HNW.out hi6 (by rw [hq]; rfl) h16 ?_
             subst hq
             obtain ⟨W2, hW⟩ : ∃ W, W = V2.setRow g #[.slice x2 l2 f2, .slice y2 k2 h2, .slice z2 o2 p2] := ⟨_, rfl⟩
             have HST := HSV
             rw [← hW] at HST
             rw [← hW]
             have c0 := HST.out.d.c0
             have c1 := HST.out.d.c1
             have c2 := HST.out.d.c2
             have n0 := HST.out.n.c0
             have n1 := HST.out.n.c1
             have n2 := HST.out.n.c2
             clear hW))
          have hsd := small_disk HDI.out
          refine (specCopy_any _ _ _ L2 S O2 W2 HST.out.rd ⟨by omega, by omega, by omega⟩).mono ?_
          rintro e wc ⟨x, y, z, rfl, hr, _, hBc⟩
          obtain ⟨b1, d1, b2, d2, b3, d3, ex, ey, ez⟩ := hr.slices
          obtain ⟨m1, hm1⟩ : ∃ m, m = L2.length := ⟨_, rfl⟩
          obtain ⟨m2, hm2⟩ : ∃ m, m = S.length := ⟨_, rfl⟩
          obtain ⟨m3, hm3⟩ : ∃ m, m = O2.length := ⟨_, rfl⟩
          rw [← hm1] at ex
          rw [← hm2] at ey
          rw [← hm3] at ez
          subst ex ey ez
          have HRR : Hid (RdD wc (.slice b1 m1 d1) (.slice b2 m2 d2) (.slice b3 m3 d3) L2 S O2) := hr
          have HBC : Hid (Below w.heap.size w wc) := HST.out.bel.trans (hBc.mono HST.out.bel.size)
          have HR3 : Hid (At3 wc (w.heap.size + 1) 30 (.slice none 0 0) (.slice none 0 0) (.slice none 0 0)) := HST.out.r.below hBc
          obtain ⟨q, hq, hi6, ho6, h16⟩ := row3 b1 b2 b3 m1 d1 m2 d2 m3 d3
          clear hr hBc hm1 hm2 hm3 hsd c0 c1 c2 n0 n1 n2
          go_wp2_with (refine wpList_store_row rfl 30 _ _ rfl (w.heap.size + 1) q rfl (congrArg Value.agg hq.symm) 30 _ HR3.out hi6 ho6 h16 ?_)
          subst hq
          have HGD : Hid (rpC L S O nm dt = 0 ∧ rpL L S O nm dt = L2 ∧ rpS L S O = S ∧ rpO L S O nm dt = O2) := by
            obtain ⟨e1, e2, e3, e4⟩ := rp_good HDK.out (HRA.out.1.trans rfl)
            exact ⟨e1, e2.trans HRA.out.2.1, e3, e4.trans HRA.out.2.2⟩
          refine bodyPost_ret (v := .tuple #[.agg #[.slice b1 m1 d1, .slice b2 m2 d2, .slice b3 m3 d3], _]) (results_row_tmp rfl _ _ (w.heap.size + 1) 30 _ _ _ rfl (setRow_heap _ _ _ _ _ _ HR3.out) Tryz.underlying30 rfl hi6) rfl ⟨_, _, _, ret_val (by rw [HGD.out.1]; rfl), ?_, ?_⟩
          · rw [HGD.out.2.1, HGD.out.2.2.1, HGD.out.2.2.2]
            exact HRR.out.row HR3.out _
          · exact below_setRow HBC.out (by omega) _
        · have hcb : ((C2 : Int) == 0) = false := by
            cases hb : ((C2 : Int) == 0) with
            | false => rfl
            | true => exact absurd (by have := eq_of_beq hb; omega) hz0
          have HBAD : Hid (rpC L S O nm dt = C2 ∧ rpL L S O nm dt = L ∧ rpS L S O = S ∧ rpO L S O nm dt = O) := by
            have e := HRA.out.bad (fun q => hz0 (HCC.out.2.2.trans q))
            obtain ⟨e1, e2, e3, e4⟩ := rp_bad (nm := nm) (dt := dt) HDK.out (by rw [e]; exact fun q => hz0 (HCC.out.2.2.trans q))
            exact ⟨e1.trans (e.trans HCC.out.2.2.symm), e2, e3, e4⟩
          clear HCC hz0
          go_wp2_with (
            (refine wpList_store_row rfl 30 _ _ rfl g q rfl (congrArg Value.agg hq.symm) 30 _ HNW.out hi6 (by rw [hq]; rfl) h16 ?_
             subst hq
             obtain ⟨W2, hW⟩ : ∃ W, W = V2.setRow g #[.slice x2 l2 f2, .slice y2 k2 h2, .slice z2 o2 p2] := ⟨_, rfl⟩
             have HST := HSV
             rw [← hW] at HST
             rw [← hW]
             have c0 := HST.out.d.c0
             have c1 := HST.out.d.c1
             have c2 := HST.out.d.c2
             have n0 := HST.out.n.c0
             have n1 := HST.out.n.c1
             have n2 := HST.out.n.c2
             clear hW))
          refine (specCopy_any _ _ _ L S O W2 (HAL.out W2 HST.out.bel) HN.out).mono ?_
          rintro e wc ⟨x, y, z, rfl, hr, _, hBc⟩
          obtain ⟨b1, d1, b2, d2, b3, d3, ex, ey, ez⟩ := hr.slices
          obtain ⟨m1, hm1⟩ : ∃ m, m = L.length := ⟨_, rfl⟩
          obtain ⟨m2, hm2⟩ : ∃ m, m = S.length := ⟨_, rfl⟩
          obtain ⟨m3, hm3⟩ : ∃ m, m = O.length := ⟨_, rfl⟩
          rw [← hm1] at ex
          rw [← hm2] at ey
          rw [← hm3] at ez
          subst ex ey ez
          have HRR : Hid (RdD wc (.slice b1 m1 d1) (.slice b2 m2 d2) (.slice b3 m3 d3) L S O) := hr
          have HBC : Hid (Below w.heap.size w wc) := HST.out.bel.trans (hBc.mono HST.out.bel.size)
          have HR3 : Hid (At3 wc (w.heap.size + 1) 30 (.slice none 0 0) (.slice none 0 0) (.slice none 0 0)) := HST.out.r.below hBc
          obtain ⟨q, hq, hi6, ho6, h16⟩ := row3 b1 b2 b3 m1 d1 m2 d2 m3 d3
          clear hr hBc hm1 hm2 hm3 c0 c1 c2 n0 n1 n2
          go_wp2_with (refine wpList_store_row rfl 30 _ _ rfl (w.heap.size + 1) q rfl (congrArg Value.agg hq.symm) 30 _ HR3.out hi6 ho6 h16 ?_)
          subst hq
          refine bodyPost_ret (v := .tuple #[.agg #[.slice b1 m1 d1, .slice b2 m2 d2, .slice b3 m3 d3], _]) (results_row_tmp rfl _ _ (w.heap.size + 1) 30 _ _ _ rfl (setRow_heap _ _ _ _ _ _ HR3.out) Tryz.underlying30 rfl hi6) rfl ⟨_, _, _, ret_val (by rw [HBAD.out.1]; rfl), ?_, ?_⟩
          · rw [HBAD.out.2.1, HBAD.out.2.2.1, HBAD.out.2.2.2]
            exact HRR.out.row HR3.out _
          · exact below_setRow HBC.out (by omega) _
      · have hcb : ((C1 : Int) == 0) = false := by
          cases hb : ((C1 : Int) == 0) with
          | false => rfl
          | true => exact absurd (by have := eq_of_beq hb; omega) hz0
        have HBAD : Hid (rpC L S O nm dt = C1 ∧ rpL L S O nm dt = L ∧ rpS L S O = S ∧ rpO L S O nm dt = O) := by
          have e := HRA.out.bad (fun q => hz0 (HCC.out.2.2.trans q))
          obtain ⟨e1, e2, e3, e4⟩ := rp_bad (nm := nm) (dt := dt) HDK.out (by rw [e]; exact fun q => hz0 (HCC.out.2.2.trans q))
          exact ⟨e1.trans (e.trans HCC.out.2.2.symm), e2, e3, e4⟩
        clear HCC hz0
        go_wp2_with (
          (refine wpList_store_row rfl 30 _ _ rfl g q rfl (congrArg Value.agg hq.symm) 30 _ HNW.out hi6 (by rw [hq]; rfl) h16 ?_
           subst hq
           obtain ⟨W1, hW⟩ : ∃ W, W = V1.setRow g #[.slice x1 l1 f1, .slice y1 k1 h1, .slice z1 o1 p1] := ⟨_, rfl⟩
           have HST := HSV
           rw [← hW] at HST
           rw [← hW]
           have c0 := HST.out.d.c0
           have c1 := HST.out.d.c1
           have c2 := HST.out.d.c2
           have n0 := HST.out.n.c0
           have n1 := HST.out.n.c1
           have n2 := HST.out.n.c2
           clear hW))
        refine (specCopy_any _ _ _ L S O W1 (HAL.out W1 HST.out.bel) HN.out).mono ?_
        rintro e wc ⟨x, y, z, rfl, hr, _, hBc⟩
        obtain ⟨b1, d1, b2, d2, b3, d3, ex, ey, ez⟩ := hr.slices
        obtain ⟨m1, hm1⟩ : ∃ m, m = L.length := ⟨_, rfl⟩
        obtain ⟨m2, hm2⟩ : ∃ m, m = S.length := ⟨_, rfl⟩
        obtain ⟨m3, hm3⟩ : ∃ m, m = O.length := ⟨_, rfl⟩
        rw [← hm1] at ex
        rw [← hm2] at ey
        rw [← hm3] at ez
        subst ex ey ez
        have HRR : Hid (RdD wc (.slice b1 m1 d1) (.slice b2 m2 d2) (.slice b3 m3 d3) L S O) := hr
        have HBC : Hid (Below w.heap.size w wc) := HST.out.bel.trans (hBc.mono HST.out.bel.size)
        have HR3 : Hid (At3 wc (w.heap.size + 1) 30 (.slice none 0 0) (.slice none 0 0) (.slice none 0 0)) := HST.out.r.below hBc
        obtain ⟨q, hq, hi6, ho6, h16⟩ := row3 b1 b2 b3 m1 d1 m2 d2 m3 d3
        clear hr hBc hm1 hm2 hm3 c0 c1 c2 n0 n1 n2
        go_wp2_with (refine wpList_store_row rfl 30 _ _ rfl (w.heap.size + 1) q rfl (congrArg Value.agg hq.symm) 30 _ HR3.out hi6 ho6 h16 ?_)
        subst hq
        refine bodyPost_ret (v := .tuple #[.agg #[.slice b1 m1 d1, .slice b2 m2 d2, .slice b3 m3 d3], _]) (results_row_tmp rfl _ _ (w.heap.size + 1) 30 _ _ _ rfl (setRow_heap _ _ _ _ _ _ HR3.out) Tryz.underlying30 rfl hi6) rfl ⟨_, _, _, ret_val (by rw [HBAD.out.1]; rfl), ?_, ?_⟩
        · rw [HBAD.out.2.1, HBAD.out.2.2.1, HBAD.out.2.2.2]
          exact HRR.out.row HR3.out _
        · exact below_setRow HBC.out (by omega) _
    · have HRA : Hid (RpAt L O (rpOps L nm dt) L O [⟨3, fr, ⟨#[]⟩, ⟨#[]⟩⟩, ⟨1, fr, ⟨#[]⟩, dt⟩, ⟨2, fr, nm, ⟨#[]⟩⟩]) := by
        have e := rpOps_some (dt := dt) hg
        rw [← HFR.out.1] at e
        rw [e]
        exact ⟨rfl, rfl, rfl⟩
      have HDI := HDK
      have HST := HS0
      have c0 := HST.out.d.c0
      have c1 := HST.out.d.c1
      have c2 := HST.out.d.c2
      have n0 := HST.out.n.c0
      have n1 := HST.out.n.c1
      have n2 := HST.out.n.c2
      clear hg
      have hi0 : (0 : Int) ≤ (i : Int) := by omega
      clear hin
      go_wp2_with fail
      have hsd := small_disk HDI.out
      have hlv := filesB_parts (disk_live HDI.out).1
      refine (specAct2_any _ _ _ L S O ⟨3, fr, ⟨#[]⟩, ⟨#[]⟩⟩ Y HST.out.rd hsd.1 ⟨by omega, by omega, by omega⟩ ⟨hlv.1, hlv.2.1⟩ ⟨show fr.size ≤ 100000000 by have := HFR.out; omega, show (⟨#[]⟩ : ByteArray).size ≤ 100000000 from Nat.zero_le _, show (⟨#[]⟩ : ByteArray).size ≤ 100000000 from Nat.zero_le _⟩).mono ?_
      rintro e V1 ⟨x, y, z, rfl, hr, _, hBv⟩
      obtain ⟨x1, f1, y1, h1, z1, p1, ex, ey, ez⟩ := hr.slices
      obtain ⟨L1, hL1⟩ : ∃ Q, Q = actL L O ⟨3, fr, ⟨#[]⟩, ⟨#[]⟩⟩ := ⟨_, rfl⟩
      obtain ⟨O1, hO1⟩ : ∃ Q, Q = actO L O ⟨3, fr, ⟨#[]⟩, ⟨#[]⟩⟩ := ⟨_, rfl⟩
      obtain ⟨C1, hC1⟩ : ∃ Q, Q = actC L O ⟨3, fr, ⟨#[]⟩, ⟨#[]⟩⟩ := ⟨_, rfl⟩
      rw [← hL1] at hr ex
      rw [← hO1] at hr ez
      rw [← hC1]
      obtain ⟨l1, hm1⟩ : ∃ m, m = L1.length := ⟨_, rfl⟩
      obtain ⟨k1, hm2⟩ : ∃ m, m = S.length := ⟨_, rfl⟩
      obtain ⟨o1, hm3⟩ : ∃ m, m = O1.length := ⟨_, rfl⟩
      rw [← hm1] at ex
      rw [← hm2] at ey
      rw [← hm3] at ez
      subst ex ey ez
      have HSV : Hid (ReSt w (V1.setRow g #[.slice x1 l1 f1, .slice y1 k1 h1, .slice z1 o1 p1]) g (.slice aL nL cL) (.slice aS nS cS) (.slice aO nO cO) (.slice x1 l1 f1) (.slice y1 k1 h1) (.slice z1 o1 p1) L1 S O1) := HST.out.step hBv hr
      have HNW := (show Hid _ from HST.out.n.below hBv)
      have HCC : Hid (L1 = actL L O ⟨3, fr, ⟨#[]⟩, ⟨#[]⟩⟩ ∧ O1 = actO L O ⟨3, fr, ⟨#[]⟩, ⟨#[]⟩⟩ ∧ C1 = actC L O ⟨3, fr, ⟨#[]⟩, ⟨#[]⟩⟩) := ⟨hL1, hO1, hC1⟩
      obtain ⟨q, hq, hi6, ho6, h16⟩ := row3 x1 y1 z1 l1 f1 k1 h1 o1 p1
      clear hr hBv hm1 hm2 hm3 hL1 hO1 hC1 c0 c1 c2 n0 n1 n2 HST hsd hlv
      by_cases hz0 : C1 = 0
      · have hcb : ((C1 : Int) == 0) = true := by rw [hz0]; rfl
        have HRB : Hid (RpAt L O (rpOps L nm dt) L1 O1 [⟨1, fr, ⟨#[]⟩, dt⟩, ⟨2, fr, nm, ⟨#[]⟩⟩]) := by
          have := HRA.out.step (HCC.out.2.2.symm.trans hz0)
          rw [← HCC.out.1, ← HCC.out.2.1] at this
          exact this
        have HDJ : Hid (diskB L1 S O1 = true) := by
          have := act_disk HDI.out (HCC.out.2.2.symm.trans hz0)
          rw [← HCC.out.1, ← HCC.out.2.1] at this
          exact this
        have HRA := HRB
        have HDI := HDJ
        clear HRB HDJ HCC hz0
        go_wp2_with (
          (refine wpList_store_row rfl 30 _ _ rfl g q rfl (congrArg Value.agg hq.symm) 30 _ HNW.out hi6 (by rw [hq]; rfl) h16 ?_
           subst hq
           obtain ⟨W1, hW⟩ : ∃ W, W = V1.setRow g #[.slice x1 l1 f1, .slice y1 k1 h1, .slice z1 o1 p1] := ⟨_, rfl⟩
           have HST := HSV
           rw [← hW] at HST
           rw [← hW]
           have c0 := HST.out.d.c0
           have c1 := HST.out.d.c1
           have c2 := HST.out.d.c2
           have n0 := HST.out.n.c0
           have n1 := HST.out.n.c1
           have n2 := HST.out.n.c2
           clear hW))
        have hsd := small_disk HDI.out
        have hlv := filesB_parts (disk_live HDI.out).1
        refine (specAct2_any _ _ _ L1 S O1 ⟨1, fr, ⟨#[]⟩, dt⟩ W1 HST.out.rd hsd.1 ⟨by omega, by omega, by omega⟩ ⟨hlv.1, hlv.2.1⟩ ⟨show fr.size ≤ 100000000 by have := HFR.out; omega, show (⟨#[]⟩ : ByteArray).size ≤ 100000000 from Nat.zero_le _, show dt.size ≤ 100000000 by have := HFR.out; omega⟩).mono ?_
        rintro e V2 ⟨x, y, z, rfl, hr, _, hBv⟩
        obtain ⟨x2, f2, y2, h2, z2, p2, ex, ey, ez⟩ := hr.slices
        obtain ⟨L2, hL2⟩ : ∃ Q, Q = actL L1 O1 ⟨1, fr, ⟨#[]⟩, dt⟩ := ⟨_, rfl⟩
        obtain ⟨O2, hO2⟩ : ∃ Q, Q = actO L1 O1 ⟨1, fr, ⟨#[]⟩, dt⟩ := ⟨_, rfl⟩
        obtain ⟨C2, hC2⟩ : ∃ Q, Q = actC L1 O1 ⟨1, fr, ⟨#[]⟩, dt⟩ := ⟨_, rfl⟩
        rw [← hL2] at hr ex
        rw [← hO2] at hr ez
        rw [← hC2]
        obtain ⟨l2, hm1⟩ : ∃ m, m = L2.length := ⟨_, rfl⟩
        obtain ⟨k2, hm2⟩ : ∃ m, m = S.length := ⟨_, rfl⟩
        obtain ⟨o2, hm3⟩ : ∃ m, m = O2.length := ⟨_, rfl⟩
        rw [← hm1] at ex
        rw [← hm2] at ey
        rw [← hm3] at ez
        subst ex ey ez
        have HSV : Hid (ReSt w (V2.setRow g #[.slice x2 l2 f2, .slice y2 k2 h2, .slice z2 o2 p2]) g (.slice aL nL cL) (.slice aS nS cS) (.slice aO nO cO) (.slice x2 l2 f2) (.slice y2 k2 h2) (.slice z2 o2 p2) L2 S O2) := HST.out.step hBv hr
        have HNW := (show Hid _ from HST.out.n.below hBv)
        have HCC : Hid (L2 = actL L1 O1 ⟨1, fr, ⟨#[]⟩, dt⟩ ∧ O2 = actO L1 O1 ⟨1, fr, ⟨#[]⟩, dt⟩ ∧ C2 = actC L1 O1 ⟨1, fr, ⟨#[]⟩, dt⟩) := ⟨hL2, hO2, hC2⟩
        obtain ⟨q, hq, hi6, ho6, h16⟩ := row3 x2 y2 z2 l2 f2 k2 h2 o2 p2
        clear hr hBv hm1 hm2 hm3 hL2 hO2 hC2 c0 c1 c2 n0 n1 n2 HST hsd hlv
        by_cases hz0 : C2 = 0
        · have hcb : ((C2 : Int) == 0) = true := by rw [hz0]; rfl
          have HRB : Hid (RpAt L O (rpOps L nm dt) L2 O2 [⟨2, fr, nm, ⟨#[]⟩⟩]) := by
            have := HRA.out.step (HCC.out.2.2.symm.trans hz0)
            rw [← HCC.out.1, ← HCC.out.2.1] at this
            exact this
          have HDJ : Hid (diskB L2 S O2 = true) := by
            have := act_disk HDI.out (HCC.out.2.2.symm.trans hz0)
            rw [← HCC.out.1, ← HCC.out.2.1] at this
            exact this
          have HRA := HRB
          have HDI := HDJ
          clear HRB HDJ HCC hz0
          go_wp2_with (
            (refine wpList_store_row rfl 30 _ _ rfl g q rfl (congrArg Value.agg hq.symm) 30 _ HNW.out hi6 (by rw [hq]; rfl) h16 ?_
             subst hq
             obtain ⟨W2, hW⟩ : ∃ W, W = V2.setRow g #[.slice x2 l2 f2, .slice y2 k2 h2, .slice z2 o2 p2] := ⟨_, rfl⟩
             have HST := HSV
             rw [← hW] at HST
             rw [← hW]
             have c0 := HST.out.d.c0
             have c1 := HST.out.d.c1
             have c2 := HST.out.d.c2
             have n0 := HST.out.n.c0
             have n1 := HST.out.n.c1
             have n2 := HST.out.n.c2
             clear hW))
          have hsd := small_disk HDI.out
          have hlv := filesB_parts (disk_live HDI.out).1
          refine (specAct2_any _ _ _ L2 S O2 ⟨2, fr, nm, ⟨#[]⟩⟩ W2 HST.out.rd hsd.1 ⟨by omega, by omega, by omega⟩ ⟨hlv.1, hlv.2.1⟩ ⟨show fr.size ≤ 100000000 by have := HFR.out; omega, show nm.size ≤ 100000000 by have := HFR.out; omega, show (⟨#[]⟩ : ByteArray).size ≤ 100000000 from Nat.zero_le _⟩).mono ?_
          rintro e V3 ⟨x, y, z, rfl, hr, _, hBv⟩
          obtain ⟨x3, f3, y3, h3, z3, p3, ex, ey, ez⟩ := hr.slices
          obtain ⟨L3, hL3⟩ : ∃ Q, Q = actL L2 O2 ⟨2, fr, nm, ⟨#[]⟩⟩ := ⟨_, rfl⟩
          obtain ⟨O3, hO3⟩ : ∃ Q, Q = actO L2 O2 ⟨2, fr, nm, ⟨#[]⟩⟩ := ⟨_, rfl⟩
          obtain ⟨C3, hC3⟩ : ∃ Q, Q = actC L2 O2 ⟨2, fr, nm, ⟨#[]⟩⟩ := ⟨_, rfl⟩
          rw [← hL3] at hr ex
          rw [← hO3] at hr ez
          rw [← hC3]
          obtain ⟨l3, hm1⟩ : ∃ m, m = L3.length := ⟨_, rfl⟩
          obtain ⟨k3, hm2⟩ : ∃ m, m = S.length := ⟨_, rfl⟩
          obtain ⟨o3, hm3⟩ : ∃ m, m = O3.length := ⟨_, rfl⟩
          rw [← hm1] at ex
          rw [← hm2] at ey
          rw [← hm3] at ez
          subst ex ey ez
          have HSV : Hid (ReSt w (V3.setRow g #[.slice x3 l3 f3, .slice y3 k3 h3, .slice z3 o3 p3]) g (.slice aL nL cL) (.slice aS nS cS) (.slice aO nO cO) (.slice x3 l3 f3) (.slice y3 k3 h3) (.slice z3 o3 p3) L3 S O3) := HST.out.step hBv hr
          have HNW := (show Hid _ from HST.out.n.below hBv)
          have HCC : Hid (L3 = actL L2 O2 ⟨2, fr, nm, ⟨#[]⟩⟩ ∧ O3 = actO L2 O2 ⟨2, fr, nm, ⟨#[]⟩⟩ ∧ C3 = actC L2 O2 ⟨2, fr, nm, ⟨#[]⟩⟩) := ⟨hL3, hO3, hC3⟩
          obtain ⟨q, hq, hi6, ho6, h16⟩ := row3 x3 y3 z3 l3 f3 k3 h3 o3 p3
          clear hr hBv hm1 hm2 hm3 hL3 hO3 hC3 c0 c1 c2 n0 n1 n2 HST hsd hlv
          by_cases hz0 : C3 = 0
          · have hcb : ((C3 : Int) == 0) = true := by rw [hz0]; rfl
            have HRB : Hid (RpAt L O (rpOps L nm dt) L3 O3 []) := by
              have := HRA.out.step (HCC.out.2.2.symm.trans hz0)
              rw [← HCC.out.1, ← HCC.out.2.1] at this
              exact this
            have HDJ : Hid (diskB L3 S O3 = true) := by
              have := act_disk HDI.out (HCC.out.2.2.symm.trans hz0)
              rw [← HCC.out.1, ← HCC.out.2.1] at this
              exact this
            have HRA := HRB
            have HDI := HDJ
            clear HRB HDJ HCC hz0
            go_wp2_with (
              (refine wpList_store_row rfl 30 _ _ rfl g q rfl (congrArg Value.agg hq.symm) 30 _ HNW.out hi6 (by rw [hq]; rfl) h16 ?_
               subst hq
               obtain ⟨W3, hW⟩ : ∃ W, W = V3.setRow g #[.slice x3 l3 f3, .slice y3 k3 h3, .slice z3 o3 p3] := ⟨_, rfl⟩
               have HST := HSV
               rw [← hW] at HST
               rw [← hW]
               have c0 := HST.out.d.c0
               have c1 := HST.out.d.c1
               have c2 := HST.out.d.c2
               have n0 := HST.out.n.c0
               have n1 := HST.out.n.c1
               have n2 := HST.out.n.c2
               clear hW))
            have hsd := small_disk HDI.out
            refine (specCopy_any _ _ _ L3 S O3 W3 HST.out.rd ⟨by omega, by omega, by omega⟩).mono ?_
            rintro e wc ⟨x, y, z, rfl, hr, _, hBc⟩
            obtain ⟨b1, d1, b2, d2, b3, d3, ex, ey, ez⟩ := hr.slices
            obtain ⟨m1, hm1⟩ : ∃ m, m = L3.length := ⟨_, rfl⟩
            obtain ⟨m2, hm2⟩ : ∃ m, m = S.length := ⟨_, rfl⟩
            obtain ⟨m3, hm3⟩ : ∃ m, m = O3.length := ⟨_, rfl⟩
            rw [← hm1] at ex
            rw [← hm2] at ey
            rw [← hm3] at ez
            subst ex ey ez
            have HRR : Hid (RdD wc (.slice b1 m1 d1) (.slice b2 m2 d2) (.slice b3 m3 d3) L3 S O3) := hr
            have HBC : Hid (Below w.heap.size w wc) := HST.out.bel.trans (hBc.mono HST.out.bel.size)
            have HR3 : Hid (At3 wc (w.heap.size + 1) 30 (.slice none 0 0) (.slice none 0 0) (.slice none 0 0)) := HST.out.r.below hBc
            obtain ⟨q, hq, hi6, ho6, h16⟩ := row3 b1 b2 b3 m1 d1 m2 d2 m3 d3
            clear hr hBc hm1 hm2 hm3 hsd c0 c1 c2 n0 n1 n2
            go_wp2_with (refine wpList_store_row rfl 30 _ _ rfl (w.heap.size + 1) q rfl (congrArg Value.agg hq.symm) 30 _ HR3.out hi6 ho6 h16 ?_)
            subst hq
            have HGD : Hid (rpC L S O nm dt = 0 ∧ rpL L S O nm dt = L3 ∧ rpS L S O = S ∧ rpO L S O nm dt = O3) := by
              obtain ⟨e1, e2, e3, e4⟩ := rp_good HDK.out (HRA.out.1.trans rfl)
              exact ⟨e1, e2.trans HRA.out.2.1, e3, e4.trans HRA.out.2.2⟩
            refine bodyPost_ret (v := .tuple #[.agg #[.slice b1 m1 d1, .slice b2 m2 d2, .slice b3 m3 d3], _]) (results_row_tmp rfl _ _ (w.heap.size + 1) 30 _ _ _ rfl (setRow_heap _ _ _ _ _ _ HR3.out) Tryz.underlying30 rfl hi6) rfl ⟨_, _, _, ret_val (by rw [HGD.out.1]; rfl), ?_, ?_⟩
            · rw [HGD.out.2.1, HGD.out.2.2.1, HGD.out.2.2.2]
              exact HRR.out.row HR3.out _
            · exact below_setRow HBC.out (by omega) _
          · have hcb : ((C3 : Int) == 0) = false := by
              cases hb : ((C3 : Int) == 0) with
              | false => rfl
              | true => exact absurd (by have := eq_of_beq hb; omega) hz0
            have HBAD : Hid (rpC L S O nm dt = C3 ∧ rpL L S O nm dt = L ∧ rpS L S O = S ∧ rpO L S O nm dt = O) := by
              have e := HRA.out.bad (fun q => hz0 (HCC.out.2.2.trans q))
              obtain ⟨e1, e2, e3, e4⟩ := rp_bad (nm := nm) (dt := dt) HDK.out (by rw [e]; exact fun q => hz0 (HCC.out.2.2.trans q))
              exact ⟨e1.trans (e.trans HCC.out.2.2.symm), e2, e3, e4⟩
            clear HCC hz0
            go_wp2_with (
              (refine wpList_store_row rfl 30 _ _ rfl g q rfl (congrArg Value.agg hq.symm) 30 _ HNW.out hi6 (by rw [hq]; rfl) h16 ?_
               subst hq
               obtain ⟨W3, hW⟩ : ∃ W, W = V3.setRow g #[.slice x3 l3 f3, .slice y3 k3 h3, .slice z3 o3 p3] := ⟨_, rfl⟩
               have HST := HSV
               rw [← hW] at HST
               rw [← hW]
               have c0 := HST.out.d.c0
               have c1 := HST.out.d.c1
               have c2 := HST.out.d.c2
               have n0 := HST.out.n.c0
               have n1 := HST.out.n.c1
               have n2 := HST.out.n.c2
               clear hW))
            refine (specCopy_any _ _ _ L S O W3 (HAL.out W3 HST.out.bel) HN.out).mono ?_
            rintro e wc ⟨x, y, z, rfl, hr, _, hBc⟩
            obtain ⟨b1, d1, b2, d2, b3, d3, ex, ey, ez⟩ := hr.slices
            obtain ⟨m1, hm1⟩ : ∃ m, m = L.length := ⟨_, rfl⟩
            obtain ⟨m2, hm2⟩ : ∃ m, m = S.length := ⟨_, rfl⟩
            obtain ⟨m3, hm3⟩ : ∃ m, m = O.length := ⟨_, rfl⟩
            rw [← hm1] at ex
            rw [← hm2] at ey
            rw [← hm3] at ez
            subst ex ey ez
            have HRR : Hid (RdD wc (.slice b1 m1 d1) (.slice b2 m2 d2) (.slice b3 m3 d3) L S O) := hr
            have HBC : Hid (Below w.heap.size w wc) := HST.out.bel.trans (hBc.mono HST.out.bel.size)
            have HR3 : Hid (At3 wc (w.heap.size + 1) 30 (.slice none 0 0) (.slice none 0 0) (.slice none 0 0)) := HST.out.r.below hBc
            obtain ⟨q, hq, hi6, ho6, h16⟩ := row3 b1 b2 b3 m1 d1 m2 d2 m3 d3
            clear hr hBc hm1 hm2 hm3 c0 c1 c2 n0 n1 n2
            go_wp2_with (refine wpList_store_row rfl 30 _ _ rfl (w.heap.size + 1) q rfl (congrArg Value.agg hq.symm) 30 _ HR3.out hi6 ho6 h16 ?_)
            subst hq
            refine bodyPost_ret (v := .tuple #[.agg #[.slice b1 m1 d1, .slice b2 m2 d2, .slice b3 m3 d3], _]) (results_row_tmp rfl _ _ (w.heap.size + 1) 30 _ _ _ rfl (setRow_heap _ _ _ _ _ _ HR3.out) Tryz.underlying30 rfl hi6) rfl ⟨_, _, _, ret_val (by rw [HBAD.out.1]; rfl), ?_, ?_⟩
            · rw [HBAD.out.2.1, HBAD.out.2.2.1, HBAD.out.2.2.2]
              exact HRR.out.row HR3.out _
            · exact below_setRow HBC.out (by omega) _
        · have hcb : ((C2 : Int) == 0) = false := by
            cases hb : ((C2 : Int) == 0) with
            | false => rfl
            | true => exact absurd (by have := eq_of_beq hb; omega) hz0
          have HBAD : Hid (rpC L S O nm dt = C2 ∧ rpL L S O nm dt = L ∧ rpS L S O = S ∧ rpO L S O nm dt = O) := by
            have e := HRA.out.bad (fun q => hz0 (HCC.out.2.2.trans q))
            obtain ⟨e1, e2, e3, e4⟩ := rp_bad (nm := nm) (dt := dt) HDK.out (by rw [e]; exact fun q => hz0 (HCC.out.2.2.trans q))
            exact ⟨e1.trans (e.trans HCC.out.2.2.symm), e2, e3, e4⟩
          clear HCC hz0
          go_wp2_with (
            (refine wpList_store_row rfl 30 _ _ rfl g q rfl (congrArg Value.agg hq.symm) 30 _ HNW.out hi6 (by rw [hq]; rfl) h16 ?_
             subst hq
             obtain ⟨W2, hW⟩ : ∃ W, W = V2.setRow g #[.slice x2 l2 f2, .slice y2 k2 h2, .slice z2 o2 p2] := ⟨_, rfl⟩
             have HST := HSV
             rw [← hW] at HST
             rw [← hW]
             have c0 := HST.out.d.c0
             have c1 := HST.out.d.c1
             have c2 := HST.out.d.c2
             have n0 := HST.out.n.c0
             have n1 := HST.out.n.c1
             have n2 := HST.out.n.c2
             clear hW))
          refine (specCopy_any _ _ _ L S O W2 (HAL.out W2 HST.out.bel) HN.out).mono ?_
          rintro e wc ⟨x, y, z, rfl, hr, _, hBc⟩
          obtain ⟨b1, d1, b2, d2, b3, d3, ex, ey, ez⟩ := hr.slices
          obtain ⟨m1, hm1⟩ : ∃ m, m = L.length := ⟨_, rfl⟩
          obtain ⟨m2, hm2⟩ : ∃ m, m = S.length := ⟨_, rfl⟩
          obtain ⟨m3, hm3⟩ : ∃ m, m = O.length := ⟨_, rfl⟩
          rw [← hm1] at ex
          rw [← hm2] at ey
          rw [← hm3] at ez
          subst ex ey ez
          have HRR : Hid (RdD wc (.slice b1 m1 d1) (.slice b2 m2 d2) (.slice b3 m3 d3) L S O) := hr
          have HBC : Hid (Below w.heap.size w wc) := HST.out.bel.trans (hBc.mono HST.out.bel.size)
          have HR3 : Hid (At3 wc (w.heap.size + 1) 30 (.slice none 0 0) (.slice none 0 0) (.slice none 0 0)) := HST.out.r.below hBc
          obtain ⟨q, hq, hi6, ho6, h16⟩ := row3 b1 b2 b3 m1 d1 m2 d2 m3 d3
          clear hr hBc hm1 hm2 hm3 c0 c1 c2 n0 n1 n2
          go_wp2_with (refine wpList_store_row rfl 30 _ _ rfl (w.heap.size + 1) q rfl (congrArg Value.agg hq.symm) 30 _ HR3.out hi6 ho6 h16 ?_)
          subst hq
          refine bodyPost_ret (v := .tuple #[.agg #[.slice b1 m1 d1, .slice b2 m2 d2, .slice b3 m3 d3], _]) (results_row_tmp rfl _ _ (w.heap.size + 1) 30 _ _ _ rfl (setRow_heap _ _ _ _ _ _ HR3.out) Tryz.underlying30 rfl hi6) rfl ⟨_, _, _, ret_val (by rw [HBAD.out.1]; rfl), ?_, ?_⟩
          · rw [HBAD.out.2.1, HBAD.out.2.2.1, HBAD.out.2.2.2]
            exact HRR.out.row HR3.out _
          · exact below_setRow HBC.out (by omega) _
      · have hcb : ((C1 : Int) == 0) = false := by
          cases hb : ((C1 : Int) == 0) with
          | false => rfl
          | true => exact absurd (by have := eq_of_beq hb; omega) hz0
        have HBAD : Hid (rpC L S O nm dt = C1 ∧ rpL L S O nm dt = L ∧ rpS L S O = S ∧ rpO L S O nm dt = O) := by
          have e := HRA.out.bad (fun q => hz0 (HCC.out.2.2.trans q))
          obtain ⟨e1, e2, e3, e4⟩ := rp_bad (nm := nm) (dt := dt) HDK.out (by rw [e]; exact fun q => hz0 (HCC.out.2.2.trans q))
          exact ⟨e1.trans (e.trans HCC.out.2.2.symm), e2, e3, e4⟩
        clear HCC hz0
        go_wp2_with (
          (refine wpList_store_row rfl 30 _ _ rfl g q rfl (congrArg Value.agg hq.symm) 30 _ HNW.out hi6 (by rw [hq]; rfl) h16 ?_
           subst hq
           obtain ⟨W1, hW⟩ : ∃ W, W = V1.setRow g #[.slice x1 l1 f1, .slice y1 k1 h1, .slice z1 o1 p1] := ⟨_, rfl⟩
           have HST := HSV
           rw [← hW] at HST
           rw [← hW]
           have c0 := HST.out.d.c0
           have c1 := HST.out.d.c1
           have c2 := HST.out.d.c2
           have n0 := HST.out.n.c0
           have n1 := HST.out.n.c1
           have n2 := HST.out.n.c2
           clear hW))
        refine (specCopy_any _ _ _ L S O W1 (HAL.out W1 HST.out.bel) HN.out).mono ?_
        rintro e wc ⟨x, y, z, rfl, hr, _, hBc⟩
        obtain ⟨b1, d1, b2, d2, b3, d3, ex, ey, ez⟩ := hr.slices
        obtain ⟨m1, hm1⟩ : ∃ m, m = L.length := ⟨_, rfl⟩
        obtain ⟨m2, hm2⟩ : ∃ m, m = S.length := ⟨_, rfl⟩
        obtain ⟨m3, hm3⟩ : ∃ m, m = O.length := ⟨_, rfl⟩
        rw [← hm1] at ex
        rw [← hm2] at ey
        rw [← hm3] at ez
        subst ex ey ez
        have HRR : Hid (RdD wc (.slice b1 m1 d1) (.slice b2 m2 d2) (.slice b3 m3 d3) L S O) := hr
        have HBC : Hid (Below w.heap.size w wc) := HST.out.bel.trans (hBc.mono HST.out.bel.size)
        have HR3 : Hid (At3 wc (w.heap.size + 1) 30 (.slice none 0 0) (.slice none 0 0) (.slice none 0 0)) := HST.out.r.below hBc
        obtain ⟨q, hq, hi6, ho6, h16⟩ := row3 b1 b2 b3 m1 d1 m2 d2 m3 d3
        clear hr hBc hm1 hm2 hm3 c0 c1 c2 n0 n1 n2
        go_wp2_with (refine wpList_store_row rfl 30 _ _ rfl (w.heap.size + 1) q rfl (congrArg Value.agg hq.symm) 30 _ HR3.out hi6 ho6 h16 ?_)
        subst hq
        refine bodyPost_ret (v := .tuple #[.agg #[.slice b1 m1 d1, .slice b2 m2 d2, .slice b3 m3 d3], _]) (results_row_tmp rfl _ _ (w.heap.size + 1) 30 _ _ _ rfl (setRow_heap _ _ _ _ _ _ HR3.out) Tryz.underlying30 rfl hi6) rfl ⟨_, _, _, ret_val (by rw [HBAD.out.1]; rfl), ?_, ?_⟩
        · rw [HBAD.out.2.1, HBAD.out.2.2.1, HBAD.out.2.2.2]
          exact HRR.out.row HR3.out _
        · exact below_setRow HBC.out (by omega) _
end Go.Proofs.YtmcojfmkmibjpaaGreat

namespace Go.Proofs.YtmcojfmkmibjpaaGreat
open Go.RowKit
set_option linter.unusedVariables false

theorem run_copy_row4 (w : World) (ty : TypeId) (g o dLen dCap : Nat) (a : Addr) (sLen sCap : Nat) (cur : Array Value) (t : TypeId) (cs : List Value)
    (hg : w.heap[g]? = some (.cells cur t (0, 0))) (hn : cs.length = Nat.min sLen dLen * 4)
    (hsrc : ∀ j v, cs[j]? = some v → w.cell? (a.add j) = some v) (hfit : o + cs.length ≤ cur.size) (h1 : ∀ v ∈ cs, v.oneCell' = true) :
    (Builtin.copy_ #[28, 28] ty #[.slice (some ⟨g, o, none⟩) dLen dCap, .slice (some a) sLen sCap]).run Tryz.prog w =
      .ok (goInt (Nat.min sLen dLen)) (w.setRow g (cur.toList.take o ++ cs ++ cur.toList.drop (o + cs.length)).toArray) := by
  obtain ⟨i0, hi, hz0, hz1, hz2⟩ := info_parts infoDOpT
  have hl := run_loadCells_list (P := Tryz.prog) w a cs hsrc
  have hst := run_storeCells_at Tryz.prog g o t cs 0 cur w hg (by simpa using hfit) h1
  simp [Builtin.copy_, run_underlying Tryz.underlying28, Builtin.lenOf, Builtin.firstCells, sizeOf, typeInfo, hi, hz1, ← hn, hl, hst]

theorem wp_copyR (w : World) {o : Oper} {a : Act} {K : Act → World → Prop} {Q : Exit → Act → World → Prop} (d s : Operand) (t t' : TypeId)
    (ho : o.op = .call { callee := .builtin .copy, args := #[d, s], argTypes := #[t, t'] }) (v u : Value) (hd : a.eval d = v) (hs : a.eval s = u) {v' : Value} {w' : World}
    (hr : (Builtin.copy_ #[t, t'] o.type #[v, u]).run Tryz.prog w = .ok v' w') (h : K (a.put o.dst v') w') : o.wp Tryz.prog a w K Q := by
  unfold Oper.wp execOp
  simp only [ho, resolve, invoke, builtin, Sem.run_bind, Sem.run_pure, Result.andThen_ok, List.map_toArray, List.map_cons, List.map_nil, hd, hs, hr]
  exact h
theorem wpList_copyR (w : World) {ops : Array Oper} {rest : List Oper} {o : Oper} {a : Act} {Q : Exit → Act → World → Prop} (hgd : o.guard = none) (d s : Operand) (t t' : TypeId)
    (ho : o.op = .call { callee := .builtin .copy, args := #[d, s], argTypes := #[t, t'] }) (v u : Value) (hd : a.eval d = v) (hs : a.eval s = u) {v' : Value} {w' : World}
    (hr : (Builtin.copy_ #[t, t'] o.type #[v, u]).run Tryz.prog w = .ok v' w') (h : wpList Tryz.prog ops Q rest (a.put o.dst v') w') : wpList Tryz.prog ops Q (o :: rest) a w :=
  wpList_plain hgd fun _ hK => wp_copyR w d s t t' ho v u hd hs hr (hK _ _ h)
theorem step_copyR {ops : Array Oper} {o : Oper} {a : Act} {w : World} {K : Act → World → Prop} {Q : Exit → Act → World → Prop} {E : Prop}
    (hg : o.guard = none) (d x : Operand) (dT sT : TypeId) (hop : o.op = Op.call { callee := Callee.builtin Builtin.copy, args := #[d, x], argTypes := #[dT, sT] })
    (v u : Value) (hd : a.eval d = v) (hx : a.eval x = u) {v' : Value} {w' : World} (hr : (Builtin.copy_ #[dT, sT] o.type #[v, u]).run Tryz.prog w = .ok v' w') (hK : K (a.put o.dst v') w') :
    if Region.wanted o (yielded ops a.tmps) = true then Oper.wp Tryz.prog o a w K Q else E := by
  have hw : Region.wanted o (yielded ops a.tmps) = true := by simp [Region.wanted, hg]
  rw [if_pos hw]
  unfold Oper.wp
  simp [execOp, hop, resolve, invoke, builtin, hd, hx, hr, Result.andThen]
  exact hK
theorem encO_len (o : Dop) : (encO o).toList.length = 4 := rfl
theorem encO_one (o : Dop) : ∀ v ∈ (encO o).toList, v.oneCell' = true := fun v hv => by
  simp [encO] at hv
  rcases hv with rfl | rfl | rfl | rfl <;> rfl

set_option maxHeartbeats 4000000 in
set_option maxRecDepth 100000 in
theorem insert_ops (b vb : Nat) (o1 o2 o3 : Dop) (w : World) (hb : w.heap[b]? = some (.cells (encO o1 ++ encO o2) 43 (0, 0))) (hv : w.heap[vb]? = some (.cells (encO o3) 43 (0, 0))) :
    Calls Tryz.prog 20 #[.slice (some ⟨b, 0, none⟩) 2 2, .int .i64 0, .slice (some ⟨vb, 0, none⟩) 1 1] w fun e w' => ∃ v, e = .returned v ∧ RdO w' v [o3, o1, o2] ∧ Below w.heap.size w w' := by
  obtain ⟨i0, hi0, hz0, hzs, hzb⟩ := info_parts infoDOpT
  have hbw : b < w.heap.size := lt_of_block hb
  have hvw : vb < w.heap.size := lt_of_block hv
  obtain ⟨N, hN⟩ : ∃ N, N = w.heap.size := ⟨_, rfl⟩
  have hold : (Builtin.firstCells i0.size 0 (.slice (some ⟨b, 0, none⟩) 0 2)).run Tryz.prog w.drew = .ok ([] : List Value).toArray w.drew := by
    rw [hzs]
    exact run_firstCells_some w.drew 4 0 ⟨b, 0, none⟩ 0 2 [] (by simp) (fun j v hj => by simp at hj)
  have hrz : ∀ ty, ∃ (G : Nat) (R0 : List Value), 3 ≤ G ∧ G ≤ 9223372036854775807 ∧ R0.length = G * 4 ∧ (Builtin.append_ #[28, 3] ty #[.slice (some ⟨b, 0, none⟩) 0 2, .int .i64 3]).run Tryz.prog w = .ok (.slice (some ⟨N, 0, none⟩) 3 G) (w.drew.alloc (.cells R0.toArray 43)) := fun ty => by
    have h := Lib.run_append_grow_zeros w 28 3 ty 43 i0 _ .i64 .i64 Tryz.underlying28 Tryz.underlying3 hi0 hz0 (some ⟨b, 0, none⟩) 0 2 [] hold 3 (by omega) (by omega) (by omega) (by omega) (by rw [hzb]; omega) (by rw [hzb]; exact growslice_fits (by omega) (by omega))
    rw [hN]
    refine ⟨_, (([] : List Value).toArray ++ Builtin.zeroCells _ 3 ++ Builtin.zeroCells _ (grownCap w (0 + 3) 2 43 - (0 + 3))).toList, grownCap_ge w _ _ _, ?_, ?_, by rw [Array.toArray_toList]; exact h⟩
    · have := grownCap_le_maxLen w (0 + 3) 2 43 (by unfold maxLen; omega)
      unfold maxLen at this
      exact this
    · have := grownCap_ge w (0 + 3) 2 43
      rw [Array.length_toList]
      simp [Builtin.zeroCells, Value.cells] at this ⊢
      omega
  obtain ⟨G, R0, hG3, hGm, hR0, hrz⟩ := hrz 28
  obtain ⟨W1, hW1⟩ : ∃ W1, W1 = w.drew.alloc (.cells R0.toArray 43) := ⟨_, rfl⟩
  rw [← hW1] at hrz
  have g1 : W1.heap[N]? = some (.cells R0.toArray 43 (0, 0)) := by rw [hW1, hN]; exact heap_alloc_new w.drew _
  have gb : ∀ k, k < N → W1.heap[k]? = w.heap[k]? := fun k hk => by rw [hW1]; exact Below.heap_alloc w.drew _ _ (show k < w.heap.size by omega)
  have hW1s : W1.heap.size = N + 1 := by rw [hW1, hN]; simp
  obtain ⟨R1, hR1⟩ : ∃ R1, R1 = R0.toArray.toList.take 0 ++ (encO o3).toList ++ R0.toArray.toList.drop (0 + (encO o3).toList.length) := ⟨_, rfl⟩
  obtain ⟨W2, hW2⟩ : ∃ W2, W2 = W1.setRow N R1.toArray := ⟨_, rfl⟩
  have hcA : ∀ ty, (Builtin.copy_ #[28, 28] ty #[.slice (some ⟨N, 0, none⟩) 3 G, .slice (some ⟨vb, 0, none⟩) 1 1]).run Tryz.prog W1 = .ok (goInt 1) W2 := fun ty => by
    have h := run_copy_row4 W1 ty N 0 3 G ⟨vb, 0, none⟩ 1 1 R0.toArray 43 (encO o3).toList g1 rfl (fun j v hj => by
      have e : W1.cell? ⟨vb, 0 + j, none⟩ = (encO o3)[0 + j]? := cellN ((gb vb (by omega)).trans hv)
      rw [Addr.add_lit, e, Nat.zero_add, ← hj]
      simp) (by rw [encO_len]; simp; omega) (encO_one o3)
    rw [← hR1, ← hW2] at h
    exact h
  have g2 : W2.heap[N]? = some (.cells R1.toArray 43 (0, 0)) := by rw [hW2]; exact setRow_heap _ _ _ _ _ _ g1
  have gb2 : ∀ k, k < N → W2.heap[k]? = w.heap[k]? := fun k hk => by rw [hW2, setRow_other _ _ _ _ (by omega)]; exact gb k hk
  have hR1l : R1.length = G * 4 := by
    have e3 : (encO o3).size = 4 := rfl
    rw [hR1]
    simp
    omega
  obtain ⟨R2, hR2⟩ : ∃ R2, R2 = R1.toArray.toList.take 4 ++ (encO o1 ++ encO o2).toList ++ R1.toArray.toList.drop (4 + (encO o1 ++ encO o2).toList.length) := ⟨_, rfl⟩
  obtain ⟨W3, hW3⟩ : ∃ W3, W3 = W2.drew.setRow N R2.toArray := ⟨_, rfl⟩
  have hcB : ∀ ty c1 c2, (Builtin.copy_ #[28, 28] ty #[.slice (some ⟨N, 4, none⟩) 2 c1, .slice (some ⟨b, 0, none⟩) 2 c2]).run Tryz.prog W2.drew = .ok (goInt 2) W3 := fun ty c1 c2 => by
    have h := run_copy_row4 W2.drew ty N 4 2 c1 ⟨b, 0, none⟩ 2 c2 R1.toArray 43 (encO o1 ++ encO o2).toList g2 rfl (fun j v hj => by
      have e : W2.drew.cell? ⟨b, 0 + j, none⟩ = (encO o1 ++ encO o2)[0 + j]? := cellN (show W2.drew.heap[b]? = _ from (gb2 b (by omega)).trans hb)
      rw [Addr.add_lit, e, Nat.zero_add, ← hj, Array.getElem?_toList]) (by
        have : (encO o1 ++ encO o2).toList.length = 8 := rfl
        rw [this]; simp; omega) (fun v hv => by
        rw [Array.toList_append] at hv
        rcases List.mem_append.1 hv with h | h
        · exact encO_one o1 v h
        · exact encO_one o2 v h)
    rw [← hR2, ← hW3] at h
    exact h
  have g3 : W3.heap[N]? = some (.cells R2.toArray 43 (0, 0)) := by rw [hW3]; exact setRow_heap W2.drew _ _ _ _ _ g2
  have HE : Hid (∀ c, 3 ≤ c → c ≤ 9223372036854775807 → RdO W3 (.slice (some ⟨N, 0, none⟩) 3 c) [o3, o1, o2] ∧ Below w.heap.size w W3) := fun c hc hcm => by
    have e1 : R1 = (encO o3).toList ++ R0.drop 4 := by rw [hR1, encO_len]; simp
    have e2 : R2 = (encO o3).toList ++ ((encO o1).toList ++ ((encO o2).toList ++ R1.drop 12)) := by
      rw [hR2]
      have e4 : R1.take 4 = (encO o3).toList := by rw [e1]; exact List.take_left' (encO_len o3)
      have e8 : (encO o1 ++ encO o2).toList.length = 8 := rfl
      rw [e8, List.toList_toArray, e4, Array.toList_append]
      simp
    refine ⟨⟨_, c, rfl, hc, hcm, fun _ => ⟨N, 0, rfl, lt_of_block g3, fun i hi t ht => ?_⟩⟩, ?_⟩
    · have e : W3.cell? ⟨N, 0 + i * 4 + t, none⟩ = R2.toArray[0 + i * 4 + t]? := cellN g3
      rw [e, e2]
      simp only [List.length_cons, List.length_nil] at hi
      match i, hi, t, ht with
      | 0, _, 0, _ => rfl
      | 0, _, 1, _ => rfl
      | 0, _, 2, _ => rfl
      | 0, _, 3, _ => rfl
      | 1, _, 0, _ => rfl
      | 1, _, 1, _ => rfl
      | 1, _, 2, _ => rfl
      | 1, _, 3, _ => rfl
      | 2, _, 0, _ => rfl
      | 2, _, 1, _ => rfl
      | 2, _, 2, _ => rfl
      | 2, _, 3, _ => rfl
    · refine ⟨by rw [hW3, hW2, hW1]; rfl, by rw [hW3, hW2, hW1]; rfl, by rw [hW3, hW2, hW1]; rfl, ?_, fun k hk => ?_⟩
      · have := lt_of_block g3; omega
      · rw [hW3, setRow_other _ _ _ _ (by omega)]; exact gb2 k (by omega)
  have hw1 : IntKind.i64.wrap 1 = 1 := by decide
  have hGi : ¬ (G = 0) := by omega
  have hG1 : ¬ (G = 1) := by omega
  have hG1I : (3 : Int) ≤ (G : Int) := by omega
  have HGM : Hid (3 ≤ G ∧ G ≤ 9223372036854775807) := ⟨hG3, hGm⟩
  clear hold hR0 hR1 hR2 hR1l g1 g2 g3 gb gb2 hW1s hb hv hbw hvw hGm
  have HW1 := (show Hid _ from hW1)
  have HW2 := (show Hid _ from hW2)
  have HW3 := (show Hid _ from hW3)
  have HNN := (show Hid _ from hN)
  clear hW1 hW2 hW3 hN
  go_enter Tryz.func20, Tryz.ntmps20
  go_wp2_with (first
    | (at_builtin; refine Lib.wpList_append_run _ rfl _ _ _ _ rfl _ _ rfl rfl _ _ hrz ?_)
    | (at_builtin; refine wpList_copyR _ rfl _ _ 28 28 rfl _ _ rfl rfl (hcA _) ?_))
  go_region_law (refine step_copyR rfl _ _ 28 28 rfl (.slice (some ⟨N, 4, none⟩) 2 (G - 1)) (.slice (some ⟨b, 0, none⟩) 2 2) (by simp [Act.eval, Act.put]) (by simp [Act.eval, Act.put]) (hcB _ _ _) ?_)
  go_wp2
  go_ret
  exact ⟨_, rfl, HE.out _ HGM.out.1 HGM.out.2⟩
end Go.Proofs.YtmcojfmkmibjpaaGreat

namespace Go.Proofs.YtmcojfmkmibjpaaGreat
open Go.RowKit
set_option linter.unusedVariables false

theorem wp_region_gen {P : Program} {l : List Oper} {Q : Exit → Act → World → Prop} {id : Nat} {a0 : Act} {w0 : World} (hm : P.follows .mixedOrders = true) (hback : backB l = true) (ds : List Nat) (slot : Nat → Nat) (F : Nat → (Nat → Value) → World → Prop) (G : World → Prop) (hG : G w0.drew)
    (hdep : ∀ j f f' w, j < l.length → (∀ i, depsB l j i = true → f (slot i) = f' (slot i)) → F j f w → F j f' w)
    (hds : ∀ i, i < l.length → slot i ∈ ds) (hinj : ∀ i j, i < l.length → j < l.length → slot i = slot j → i = j)
    (hstep : ∀ ops, ops = l.toArray → ∀ (done : Nat → Bool) f w i o, G w → ops[i]? = some o → done i = false → (∀ e ∈ o.after, Region.binds .any e = true → F e.on f w) → wpOp P ops Q i (fun a' w' => ∃ v, a' = (canon a0 ds f).put (some (slot i)) v ∧ F i (upd f (slot i) v) w' ∧ G w' ∧ ∀ j, j < l.length → j ≠ i → F j f w → F j f w') (canon a0 ds f) w)
    (hdone : ∀ f w, G w → (∀ i, i < l.length → F i f w) → Q .normal (canon a0 ds f) w) :
    (Code.region id l.toArray true).wp P Q a0 w0 := by
  have hlt : ∀ i o, l.toArray[i]? = some o → i < l.length := fun i o ho => by
    rcases Nat.lt_or_ge i l.length with h' | h'
    · exact h'
    · rw [Array.getElem?_eq_none (by simpa using h')] at ho; cases ho
  have hdl : ∀ j k, j < l.length → depsB l j k = true → k < l.length := fun j k hj hk => by
    unfold depsB at hk
    rw [Bool.or_eq_true] at hk
    rcases hk with hk | hk
    · have : k = j := by simpa using hk
      omega
    · have hoj : l.toArray[j]? = some (l[j]) := by simp [hj]
      rw [hoj] at hk
      simp only [Array.any_eq_true] at hk
      obtain ⟨x, hx, q⟩ := hk
      simp only [Bool.and_eq_true, beq_iff_eq] at q
      have := backB_at hback hoj _ (Array.getElem_mem hx) q.2
      omega
  refine wp_region_inv (I := fun done t w => ∃ f, t = canon a0 ds f ∧ G w ∧ (∀ j, j < l.length → done j = true → F j f w) ∧ (∀ j, j < l.length → done j = true → ∀ i, depsB l j i = true → done i = true)) hm ?_ ?_ ?_
  · exact ⟨fun d => a0.eval (.tmp d), (canon_self a0 ds).symm, hG, (fun j _ h => by cases h), fun j _ h => by cases h⟩
  · rintro done t w ⟨f, rfl, hB, hd2, hd3⟩ i o ho hl hd
    have hi := hlt i o ho
    refine wpOp_mono ?_ (hstep _ rfl done f w i o hB ho hl (fun e he hb => hd2 _ (by have := backB_at hback ho e he hb; omega) (hd e he hb)))
    rintro a' w' ⟨v, rfl, hv, hB', hkeep⟩
    refine ⟨upd f (slot i) v, canon_put a0 ds f (slot i) v (hds i hi), hB', fun j hj hdj => ?_, fun j hj hdj k hk => ?_⟩
    · by_cases e : j = i
      · subst e
        exact hv
      · have hj' : done j = true := by
          have : (j == i) = false := by simpa using e
          simpa [this] using hdj
        refine hdep j f _ w' hj (fun k hk => ?_) (hkeep j hj e (hd2 j hj hj'))
        have hkd := hd3 j hj hj' k hk
        have hki : k ≠ i := fun q => by rw [q, hl] at hkd; cases hkd
        exact (upd_ne f v (fun q => hki (hinj k i (hdl j k hj hk) hi q))).symm
    · by_cases e : j = i
      · subst e
        unfold depsB at hk
        rw [Bool.or_eq_true] at hk
        rcases hk with hk | hk
        · have : k = j := by simpa using hk
          subst this
          simp
        · rw [ho] at hk
          simp only [Array.any_eq_true] at hk
          obtain ⟨x, hx, q⟩ := hk
          simp only [Bool.and_eq_true, beq_iff_eq] at q
          rw [← q.1]
          simp [hd _ (Array.getElem_mem hx) q.2]
      · have hj' : done j = true := by
          have : (j == i) = false := by simpa using e
          simpa [this] using hdj
        simp [hd3 j hj hj' k hk]
  · rintro done t w ⟨f, rfl, hB, hd2, _⟩ hall
    have key : ∀ m i, i < m → i < l.length → done i = true := by
      intro m
      induction m with
      | zero => intro i hi; exact absurd hi (Nat.not_lt_zero _)
      | succ m ih =>
        intro i hi hil
        have ho : l.toArray[i]? = some (l[i]) := by simp [hil]
        exact hall i _ ho (fun e he hb => by
          have := backB_at hback ho e he hb
          exact ih e.on (by omega) (by omega))
    exact hdone f w hB (fun i hi => hd2 i hi (key (i + 1) i (by omega) hi))
end Go.Proofs.YtmcojfmkmibjpaaGreat

namespace Go.Proofs.YtmcojfmkmibjpaaGreat
open Go.RowKit
set_option linter.unusedVariables false

set_option maxHeartbeats 1000000 in
theorem szDisk2_any (vL vS vO : Value) (L S : List Fl) (O : List Dop) (w : World) (hL : RdF w vL L) (hS : RdF w vS S) (hO : RdO w vO O) (hin : InD L S O) :
    Calls Tryz.prog 4 #[.agg #[vL, vS, vO], .int .i64 1048576] w fun e w' => ∃ r : Int, e = .returned (.int .i64 r) ∧ (r < 0 ∨ ((0 ≤ r ∧ r ≤ 1048576) ∧ SmallD L S O ∧ L.length ≤ 1048576 ∧ S.length ≤ 1048576 ∧ O.length ≤ 1048576)) ∧ Below w.heap.size w w' := by
  have HL : Hid (∀ w', Below w.heap.size w w' → RdF w' vL L) := fun w' hB => hL.below hB
  have HS : Hid (∀ w', Below w.heap.size w w' → RdF w' vS S) := fun w' hB => hS.below hB
  have HO : Hid (∀ w', Below w.heap.size w w' → RdO w' vO O) := fun w' hB => hO.below hB
  obtain ⟨aL, cL, eL⟩ := hL.slice
  obtain ⟨nL, hnL⟩ : ∃ n, n = L.length := ⟨_, rfl⟩
  rw [← hnL] at eL
  obtain ⟨aS, cS, eS⟩ := hS.slice
  obtain ⟨nS, hnS⟩ : ∃ n, n = S.length := ⟨_, rfl⟩
  rw [← hnS] at eS
  obtain ⟨aO, cO, eO⟩ := hO.slice
  obtain ⟨nO, hnO⟩ : ∃ n, n = O.length := ⟨_, rfl⟩
  rw [← hnO] at eO
  subst eL eS eO
  obtain ⟨X, hX⟩ : ∃ X, X = w.alloc (.cells #[.slice aL nL cL, .slice aS nS cS, .slice aO nO cO] 25) := ⟨_, rfl⟩
  have hBX : Below w.heap.size w X := by rw [hX]; exact (Below.refl _ _).alloc (Nat.le_refl _) _
  have gX : X.heap[w.heap.size]? = some (.cells #[.slice aL nL cL, .slice aS nS cS, .slice aO nO cO] 25 (0, 0)) := by rw [hX]; exact heap_alloc_new _ _
  have HG : Hid (∀ w', Below X.heap.size X w' → w'.cell? ⟨w.heap.size, 0, none⟩ = some (.slice aL nL cL) ∧ w'.cell? ⟨w.heap.size, 1, none⟩ = some (.slice aS nS cS) ∧ w'.cell? ⟨w.heap.size, 2, none⟩ = some (.slice aO nO cO) ∧ Below w.heap.size w w') := fun w' hB => by
    have g := (hB.block _ (lt_of_block gX)).trans gX
    exact ⟨cellN g, cellN g, cellN g, hBX.trans (hB.mono hBX.size)⟩
  have HX := (show Hid _ from hX)
  have HI : Hid (InD L S O) := hin
  obtain ⟨c0, _, _, _⟩ := HG.out X (Below.refl _ _)
  rw [hX] at c0
  clear hX hBX gX hL hS hO hnL hnS hnO hin
  go_enter Tryz.func4, Tryz.ntmps4
  go_wp2_with fail
  rw [← HX.out]
  refine (szFileS_any _ L X (HL.out X (HG.out X (Below.refl _ _)).2.2.2) HI.out.1 1048576 (by omega) (by omega)).mono ?_
  rintro e w1 ⟨r, rfl, hr, hB1⟩
  have HB1 := (show Hid _ from hB1)
  clear c0 HX
  obtain ⟨_, c1, _, hBw1⟩ := HG.out w1 hB1
  have HBW1 := (show Hid _ from hBw1)
  clear hB1 hBw1
  rcases hr with hr | ⟨hr, hrl, hl1, hz1, ht1⟩
  · go_wp2
    go_ret
    exact ⟨_, rfl, .inl (by decide), HBW1.out⟩
  have H1 : Hid (L.length ≤ 1048576 ∧ (∀ f ∈ L, f.n.size ≤ 100000000) ∧ tot L ≤ 1048576) := ⟨hl1, of_at hz1 (by omega), by omega⟩
  clear hl1 hz1 ht1
  go_wp2_with fail
  refine (szFileS_any _ S w1 (HS.out w1 HBW1.out) HI.out.2.1 r hr (by omega)).mono ?_
  rintro e w2 ⟨r2, rfl, hr2, hB2⟩
  have HB2 : Hid (Below X.heap.size X w2) := HB1.out.trans (hB2.mono HB1.out.size)
  clear c1
  obtain ⟨_, _, c2, hBw2⟩ := HG.out w2 HB2.out
  have HBW2 := (show Hid _ from hBw2)
  clear hB2 hBw2
  rcases hr2 with hr2 | ⟨hr2, hrl2, hl2, hz2, ht2⟩
  · go_wp2
    go_ret
    exact ⟨_, rfl, .inl (by decide), HBW2.out⟩
  have H2 : Hid (S.length ≤ 1048576 ∧ (∀ f ∈ S, f.n.size ≤ 100000000) ∧ tot S ≤ 1048576) := ⟨hl2, of_at hz2 (by omega), by omega⟩
  clear hl2 hz2 ht2
  go_wp2_with fail
  refine (szDOpS_any _ O w2 (HO.out w2 HBW2.out) HI.out.2.2 r2 hr2 (by omega)).mono ?_
  rintro e w3 ⟨r3, rfl, hr3, hB3⟩
  have HB3 : Hid (Below w.heap.size w w3) := HBW2.out.trans (hB3.mono HBW2.out.size)
  clear hB3 c2
  rcases hr3 with hr3 | ⟨hr3, hrl3, hl3, hz3⟩
  · go_wp2
    go_ret
    exact ⟨_, rfl, .inl (by decide), HB3.out⟩
  have H3 : Hid (O.length ≤ 1048576 ∧ ∀ o ∈ O, o.n.size ≤ 100000000 ∧ o.t.size ≤ 100000000 ∧ o.d.size ≤ 100000000) := ⟨hl3, of_atO hz3 (by omega)⟩
  clear hl3 hz3
  go_wp2
  go_ret
  exact ⟨_, rfl, .inr ⟨⟨hr3, by omega⟩, ⟨by have := H1.out.2.2; omega, by have := H2.out.2.2; omega, H1.out.2.1, H2.out.2.1, H3.out.2⟩, H1.out.1, H2.out.1, H3.out.1⟩, HB3.out⟩
end Go.Proofs.YtmcojfmkmibjpaaGreat

namespace Go.Proofs.YtmcojfmkmibjpaaGreat
open Go.RowKit
set_option linter.unusedVariables false

theorem OwD.off {w w' : World} {base : Nat} {x y z : Value} {a b c g : Nat} {cs : Array Value} (h : OwD w base x y z a b c) (hg : w.heap[g]? = some (.cells cs 30 (0, 0))) (hk : ∀ k, k ≠ g → w'.heap[k]? = w.heap[k]?) : OwD w' base x y z a b c := by
  have n2 : ∀ (v : Value) (n : Nat), OwA2 w base v n → ∀ k, v.ownBlock = some k → k ≠ g := fun v n hv k hk' e => by
    obtain ⟨c', hc'⟩ := hv.cells hk'
    rw [e, hg] at hc'
    cases hc'
  have n4 : ∀ (v : Value) (n : Nat), OwA4 w base v n → ∀ k, v.ownBlock = some k → k ≠ g := fun v n hv k hk' e => by
    obtain ⟨c', hc'⟩ := hv.cells hk'
    rw [e, hg] at hc'
    cases hc'
  exact ⟨h.l.blk (fun k hk' => hk k (n2 _ _ h.l k hk')), h.s.blk (fun k hk' => hk k (n2 _ _ h.s k hk')), h.o.blk (fun k hk' => hk k (n4 _ _ h.o k hk')), h.ap⟩
theorem q_loadOpL (ev : Operand → Value) (o' : Oper) (w : World) (x : Operand) (p : Nat) (o : Dop) (h : o'.op = .load 58 x) (hx : ev x = .pointer (some ⟨p, 0, none⟩)) (hb : w.heap[p]? = some (.cells #[.int .i64 o.k, .string o.n, .string o.t, .string o.d] 58 (0, 0))) : (execOp ev o').run Tryz.prog w = .ok (.value (.agg #[.int .i64 o.k, .string o.n, .string o.t, .string o.d])) w := by
  have e0 : w.cell? ⟨p, 0, none⟩ = some (.int .i64 o.k) := cellN hb
  have e1 : w.cell? ⟨p, 1, none⟩ = some (.string o.n) := cellN hb
  have e2 : w.cell? ⟨p, 2, none⟩ = some (.string o.t) := cellN hb
  have e3 : w.cell? ⟨p, 3, none⟩ = some (.string o.d) := cellN hb
  simp [execOp, h, hx]
  go_simp
theorem q_ext0 (ev : Operand → Value) (o : Oper) (w : World) (x : Operand) (a b : Value) (h : o.op = .extract x 0) (hx : ev x = .tuple #[a, b]) : (execOp ev o).run Tryz.prog w = .ok (.value a) w := by
  simp [execOp, h, hx]
  go_simp
theorem q_ext1 (ev : Operand → Value) (o : Oper) (w : World) (x : Operand) (a b : Value) (h : o.op = .extract x 1) (hx : ev x = .tuple #[a, b]) : (execOp ev o).run Tryz.prog w = .ok (.value b) w := by
  simp [execOp, h, hx]
  go_simp
theorem q_allocD (ev : Operand → Value) (o : Oper) (w : World) (h : o.op = .alloc 30) : (execOp ev o).run Tryz.prog w = .ok (.value (.pointer (some ⟨w.heap.size, 0, none⟩))) (w.alloc (.cells #[.slice none 0 0, .slice none 0 0, .slice none 0 0] 30)) := by
  simp [execOp, h]
  go_simp
theorem noStr3 (a b c : Option Addr) (i j k l m n : Nat) : ∀ (q : Nat) s, (#[Value.slice a i j, .slice b k l, .slice c m n] : Array Value)[q]? ≠ some (.string s) := fun q s => by
  match q with
  | 0 => simp
  | 1 => simp
  | 2 => simp
  | (k + 3) => simp
theorem put_same (a0 : Act) (ds : List Nat) (f : Nat → Value) (d : Nat) (hd : d ∈ ds) : (canon a0 ds f).put (some d) (f d) = canon a0 ds f := by
  rw [canon_put a0 ds f d (f d) hd]
  congr 1
  funext x
  by_cases h : x = d
  · rw [if_pos h, h]
  · rw [if_neg h]
theorem At3.apart {w : World} {b base : Nat} {p q r x y z : Value} {i j k : Nat} (h : At3 w b 30 p q r) (ho : OwD w base x y z i j k) : ∀ n, x.ownBlock = some n ∨ y.ownBlock = some n ∨ z.ownBlock = some n → n ≠ b := fun n hn e => by
  unfold At3 at h
  rcases hn with hn | hn | hn
  · obtain ⟨c, hc⟩ := ho.l.cells hn; rw [e, h] at hc; cases hc
  · obtain ⟨c, hc⟩ := ho.s.cells hn; rw [e, h] at hc; cases hc
  · obtain ⟨c, hc⟩ := ho.o.cells hn; rw [e, h] at hc; cases hc
def dsK1 : List Nat := [27, 28, 29, 30, 31, 26, 32, 33, 6, 0, 7]
def slotK1 (j : Nat) : Nat := dsK1.getD j 0
theorem slotK1_inj (i j : Nat) (hi : i < 11) (hj : j < 11) (q : slotK1 i = slotK1 j) : i = j := by
  have h : ∀ i : Fin 11, ∀ j : Fin 11, slotK1 i.val = slotK1 j.val → i.val = j.val := by decide
  exact h ⟨i, hi⟩ ⟨j, hj⟩ q
theorem slotK1_mem (i : Nat) (hi : i < 11) : slotK1 i ∈ dsK1 := by
  have h : ∀ i : Fin 11, slotK1 i.val ∈ dsK1 := by decide
  exact h ⟨i, hi⟩
def K1F (base C : Nat) (V : Value) (L S : List Fl) (O : List Dop) (o : Dop) (AL AS : List Fl) (AO : List Dop) : Nat → (Nat → Value) → World → Prop
  | 0, f, w => f 27 = V
  | 1, f, w => ∃ y1 y2 y3 : Nat, f 28 = .agg #[.slice (some ⟨y1, 0, none⟩) L.length L.length, .slice (some ⟨y2, 0, none⟩) S.length S.length, .slice (some ⟨y3, 0, none⟩) O.length O.length] ∧ RdD w (.slice (some ⟨y1, 0, none⟩) L.length L.length) (.slice (some ⟨y2, 0, none⟩) S.length S.length) (.slice (some ⟨y3, 0, none⟩) O.length O.length) L S O
  | 2, f, w => f 29 = .agg #[.int .i64 o.k, .string o.n, .string o.t, .string o.d]
  | 3, f, w => f 30 = .agg #[.int .i64 o.k, .string o.n, .string o.t, .string o.d]
  | 4, f, w => ∃ x y z, f 31 = .tuple #[.agg #[x, y, z], .int .i64 (C : Int)] ∧ RdD w x y z AL AS AO
  | 5, f, w => ∃ x y z, f 26 = .tuple #[.agg #[x, y, z], .int .i64 (C : Int)] ∧ RdD w x y z AL AS AO
  | 6, f, w => ∃ x y z, f 32 = .agg #[x, y, z] ∧ RdD w x y z AL AS AO
  | 7, f, w => f 33 = .int .i64 (C : Int)
  | 8, f, w => ∃ g cs, f 6 = .pointer (some ⟨g, 0, none⟩) ∧ base ≤ g ∧ cs.size = 3 ∧ (∀ (i : Nat) s, cs[i]? ≠ some (Value.string s)) ∧ w.heap[g]? = some (.cells cs 30 (0, 0))
  | 9, f, w => ∃ g x y z, f 6 = .pointer (some ⟨g, 0, none⟩) ∧ f 32 = .agg #[x, y, z] ∧ w.heap[g]? = some (.cells #[x, y, z] 30 (0, 0))
  | 10, f, w => f 7 = .int .i64 (C : Int)
  | _, _, _ => True
theorem K1F.below {base C : Nat} {V : Value} {L S : List Fl} {O : List Dop} {o : Dop} {AL AS : List Fl} {AO : List Dop} {j : Nat} {f : Nat → Value} {w w' : World} (h : K1F base C V L S O o AL AS AO j f w) (hB : Below w.heap.size w w') : K1F base C V L S O o AL AS AO j f w' := by
  match j, h with
  | 0, h => exact h
  | 1, h => exact (by obtain ⟨y1, y2, y3, e, h1⟩ := h; exact ⟨y1, y2, y3, e, h1.below hB⟩)
  | 2, h => exact h
  | 3, h => exact h
  | 4, h => exact (by obtain ⟨x, y, z, e, h1⟩ := h; exact ⟨x, y, z, e, h1.below hB⟩)
  | 5, h => exact (by obtain ⟨x, y, z, e, h1⟩ := h; exact ⟨x, y, z, e, h1.below hB⟩)
  | 6, h => exact (by obtain ⟨x, y, z, e, h1⟩ := h; exact ⟨x, y, z, e, h1.below hB⟩)
  | 7, h => exact h
  | 8, h => exact (by obtain ⟨g, cs, e, hb, hc, hn, hh⟩ := h; exact ⟨g, cs, e, hb, hc, hn, (hB.block _ (lt_of_block hh)).trans hh⟩)
  | 9, h => exact (by obtain ⟨g, x, y, z, e, e2, hh⟩ := h; exact ⟨g, x, y, z, e, e2, (hB.block _ (lt_of_block hh)).trans hh⟩)
  | 10, h => exact h
  | (m + 11), _ => exact trivial
theorem K1F.put {base C : Nat} {V : Value} {L S : List Fl} {O : List Dop} {o : Dop} {AL AS : List Fl} {AO : List Dop} {j : Nat} {f : Nat → Value} {w w' : World} {g : Nat} {cs cs' : Array Value} (hj : j ≠ 9) (hal : f 6 = .pointer (some ⟨g, 0, none⟩)) (hg : w.heap[g]? = some (.cells cs 30 (0, 0))) (hn : ∀ (i : Nat) s, cs[i]? ≠ some (Value.string s)) (hg' : w'.heap[g]? = some (.cells cs' 30 (0, 0))) (hc' : cs'.size = 3) (hn' : ∀ (i : Nat) s, cs'[i]? ≠ some (Value.string s)) (hk : ∀ k, k ≠ g → w'.heap[k]? = w.heap[k]?) (hs : w.heap.size ≤ w'.heap.size) (h : K1F base C V L S O o AL AS AO j f w) : K1F base C V L S O o AL AS AO j f w' := by
  match j, h with
  | 0, h => exact h
  | 1, h => exact (by obtain ⟨y1, y2, y3, e, h1⟩ := h; exact ⟨y1, y2, y3, e, ⟨h1.1.far hs hg hn hk, h1.2.1.far hs hg hn hk, h1.2.2.far hs hg hn hk⟩⟩)
  | 2, h => exact h
  | 3, h => exact h
  | 4, h => exact (by obtain ⟨x, y, z, e, h1⟩ := h; exact ⟨x, y, z, e, ⟨h1.1.far hs hg hn hk, h1.2.1.far hs hg hn hk, h1.2.2.far hs hg hn hk⟩⟩)
  | 5, h => exact (by obtain ⟨x, y, z, e, h1⟩ := h; exact ⟨x, y, z, e, ⟨h1.1.far hs hg hn hk, h1.2.1.far hs hg hn hk, h1.2.2.far hs hg hn hk⟩⟩)
  | 6, h => exact (by obtain ⟨x, y, z, e, h1⟩ := h; exact ⟨x, y, z, e, ⟨h1.1.far hs hg hn hk, h1.2.1.far hs hg hn hk, h1.2.2.far hs hg hn hk⟩⟩)
  | 7, h => exact h
  | 8, h => exact (by obtain ⟨g2, cs2, e, hb, _, _, _⟩ := h; rw [hal] at e; simp only [Value.pointer.injEq, Option.some.injEq, Addr.mk.injEq] at e; obtain ⟨rfl, _⟩ := e; exact ⟨g, cs', hal, hb, hc', hn', hg'⟩)
  | 9, _ => exact absurd rfl hj
  | 10, h => exact h
  | (m + 11), _ => exact trivial
def depK1 (j i : Nat) : Bool := match j with
  | 0 => i == 0
  | 1 => i == 1
  | 2 => i == 2
  | 3 => i == 3
  | 4 => i == 4
  | 5 => i == 5
  | 6 => i == 6
  | 7 => i == 7
  | 8 => i == 8
  | 9 => i == 9 || i == 8 || i == 6
  | 10 => i == 10
  | _ => false
theorem K1F.dep {base C : Nat} {V : Value} {L S : List Fl} {O : List Dop} {o : Dop} {AL AS : List Fl} {AO : List Dop} {j : Nat} {f f' : Nat → Value} {w : World} (hj : j < 11) (h : K1F base C V L S O o AL AS AO j f w) (he : ∀ i, depK1 j i = true → f (slotK1 i) = f' (slotK1 i)) : K1F base C V L S O o AL AS AO j f' w := by
  match j, hj, h, he with
  | 0, _, h, he =>
    have e0 : f 27 = f' 27 := he 0 rfl
    simp only [K1F] at h ⊢
    rw [← e0]
    exact h
  | 1, _, h, he =>
    have e1 : f 28 = f' 28 := he 1 rfl
    simp only [K1F] at h ⊢
    rw [← e1]
    exact h
  | 2, _, h, he =>
    have e2 : f 29 = f' 29 := he 2 rfl
    simp only [K1F] at h ⊢
    rw [← e2]
    exact h
  | 3, _, h, he =>
    have e3 : f 30 = f' 30 := he 3 rfl
    simp only [K1F] at h ⊢
    rw [← e3]
    exact h
  | 4, _, h, he =>
    have e4 : f 31 = f' 31 := he 4 rfl
    simp only [K1F] at h ⊢
    rw [← e4]
    exact h
  | 5, _, h, he =>
    have e5 : f 26 = f' 26 := he 5 rfl
    simp only [K1F] at h ⊢
    rw [← e5]
    exact h
  | 6, _, h, he =>
    have e6 : f 32 = f' 32 := he 6 rfl
    simp only [K1F] at h ⊢
    rw [← e6]
    exact h
  | 7, _, h, he =>
    have e7 : f 33 = f' 33 := he 7 rfl
    simp only [K1F] at h ⊢
    rw [← e7]
    exact h
  | 8, _, h, he =>
    have e8 : f 6 = f' 6 := he 8 rfl
    simp only [K1F] at h ⊢
    rw [← e8]
    exact h
  | 9, _, h, he =>
    have e8 : f 6 = f' 6 := he 8 rfl
    have e6 : f 32 = f' 32 := he 6 rfl
    simp only [K1F] at h ⊢
    rw [← e8, ← e6]
    exact h
  | 10, _, h, he =>
    have e10 : f 7 = f' 7 := he 10 rfl
    simp only [K1F] at h ⊢
    rw [← e10]
    exact h
  | (m + 11), hj, _, _ => exact absurd hj (by omega)
def dsK2 : List Nat := [37, 38, 39, 40, 36, 41, 42, 9, 0, 10]
def slotK2 (j : Nat) : Nat := dsK2.getD j 0
theorem slotK2_inj (i j : Nat) (hi : i < 10) (hj : j < 10) (q : slotK2 i = slotK2 j) : i = j := by
  have h : ∀ i : Fin 10, ∀ j : Fin 10, slotK2 i.val = slotK2 j.val → i.val = j.val := by decide
  exact h ⟨i, hi⟩ ⟨j, hj⟩ q
theorem slotK2_mem (i : Nat) (hi : i < 10) : slotK2 i ∈ dsK2 := by
  have h : ∀ i : Fin 10, slotK2 i.val ∈ dsK2 := by decide
  exact h ⟨i, hi⟩
def K2F (base C : Nat) (V : Value) (L S : List Fl) (O : List Dop) (o : Dop) (AL AS : List Fl) (AO : List Dop) : Nat → (Nat → Value) → World → Prop
  | 0, f, w => f 37 = V
  | 1, f, w => f 38 = .agg #[.int .i64 o.k, .string o.n, .string o.t, .string o.d]
  | 2, f, w => f 39 = .agg #[.int .i64 o.k, .string o.n, .string o.t, .string o.d]
  | 3, f, w => ∃ x y z, f 40 = .tuple #[.agg #[x, y, z], .int .i64 (C : Int)] ∧ RdD w x y z AL AS AO ∧ OwD w base x y z AL.length AS.length AO.length
  | 4, f, w => ∃ x y z, f 36 = .tuple #[.agg #[x, y, z], .int .i64 (C : Int)] ∧ RdD w x y z AL AS AO ∧ OwD w base x y z AL.length AS.length AO.length
  | 5, f, w => ∃ x y z, f 41 = .agg #[x, y, z] ∧ RdD w x y z AL AS AO ∧ OwD w base x y z AL.length AS.length AO.length
  | 6, f, w => f 42 = .int .i64 (C : Int)
  | 7, f, w => ∃ g cs, f 9 = .pointer (some ⟨g, 0, none⟩) ∧ base ≤ g ∧ cs.size = 3 ∧ (∀ (i : Nat) s, cs[i]? ≠ some (Value.string s)) ∧ w.heap[g]? = some (.cells cs 30 (0, 0))
  | 8, f, w => ∃ g x y z, f 9 = .pointer (some ⟨g, 0, none⟩) ∧ f 41 = .agg #[x, y, z] ∧ w.heap[g]? = some (.cells #[x, y, z] 30 (0, 0))
  | 9, f, w => f 10 = .int .i64 (C : Int)
  | _, _, _ => True
theorem K2F.below {base C : Nat} {V : Value} {L S : List Fl} {O : List Dop} {o : Dop} {AL AS : List Fl} {AO : List Dop} {j : Nat} {f : Nat → Value} {w w' : World} (h : K2F base C V L S O o AL AS AO j f w) (hB : Below w.heap.size w w') : K2F base C V L S O o AL AS AO j f w' := by
  match j, h with
  | 0, h => exact h
  | 1, h => exact h
  | 2, h => exact h
  | 3, h => exact (by obtain ⟨x, y, z, e, h1, h2⟩ := h; exact ⟨x, y, z, e, h1.below hB, h2.below hB⟩)
  | 4, h => exact (by obtain ⟨x, y, z, e, h1, h2⟩ := h; exact ⟨x, y, z, e, h1.below hB, h2.below hB⟩)
  | 5, h => exact (by obtain ⟨x, y, z, e, h1, h2⟩ := h; exact ⟨x, y, z, e, h1.below hB, h2.below hB⟩)
  | 6, h => exact h
  | 7, h => exact (by obtain ⟨g, cs, e, hb, hc, hn, hh⟩ := h; exact ⟨g, cs, e, hb, hc, hn, (hB.block _ (lt_of_block hh)).trans hh⟩)
  | 8, h => exact (by obtain ⟨g, x, y, z, e, e2, hh⟩ := h; exact ⟨g, x, y, z, e, e2, (hB.block _ (lt_of_block hh)).trans hh⟩)
  | 9, h => exact h
  | (m + 10), _ => exact trivial
theorem K2F.put {base C : Nat} {V : Value} {L S : List Fl} {O : List Dop} {o : Dop} {AL AS : List Fl} {AO : List Dop} {j : Nat} {f : Nat → Value} {w w' : World} {g : Nat} {cs cs' : Array Value} (hj : j ≠ 8) (hal : f 9 = .pointer (some ⟨g, 0, none⟩)) (hg : w.heap[g]? = some (.cells cs 30 (0, 0))) (hn : ∀ (i : Nat) s, cs[i]? ≠ some (Value.string s)) (hg' : w'.heap[g]? = some (.cells cs' 30 (0, 0))) (hc' : cs'.size = 3) (hn' : ∀ (i : Nat) s, cs'[i]? ≠ some (Value.string s)) (hk : ∀ k, k ≠ g → w'.heap[k]? = w.heap[k]?) (hs : w.heap.size ≤ w'.heap.size) (h : K2F base C V L S O o AL AS AO j f w) : K2F base C V L S O o AL AS AO j f w' := by
  match j, h with
  | 0, h => exact h
  | 1, h => exact h
  | 2, h => exact h
  | 3, h => exact (by obtain ⟨x, y, z, e, h1, h2⟩ := h; exact ⟨x, y, z, e, ⟨h1.1.far hs hg hn hk, h1.2.1.far hs hg hn hk, h1.2.2.far hs hg hn hk⟩, h2.off hg hk⟩)
  | 4, h => exact (by obtain ⟨x, y, z, e, h1, h2⟩ := h; exact ⟨x, y, z, e, ⟨h1.1.far hs hg hn hk, h1.2.1.far hs hg hn hk, h1.2.2.far hs hg hn hk⟩, h2.off hg hk⟩)
  | 5, h => exact (by obtain ⟨x, y, z, e, h1, h2⟩ := h; exact ⟨x, y, z, e, ⟨h1.1.far hs hg hn hk, h1.2.1.far hs hg hn hk, h1.2.2.far hs hg hn hk⟩, h2.off hg hk⟩)
  | 6, h => exact h
  | 7, h => exact (by obtain ⟨g2, cs2, e, hb, _, _, _⟩ := h; rw [hal] at e; simp only [Value.pointer.injEq, Option.some.injEq, Addr.mk.injEq] at e; obtain ⟨rfl, _⟩ := e; exact ⟨g, cs', hal, hb, hc', hn', hg'⟩)
  | 8, _ => exact absurd rfl hj
  | 9, h => exact h
  | (m + 10), _ => exact trivial
def depK2 (j i : Nat) : Bool := match j with
  | 0 => i == 0
  | 1 => i == 1
  | 2 => i == 2
  | 3 => i == 3
  | 4 => i == 4
  | 5 => i == 5
  | 6 => i == 6
  | 7 => i == 7
  | 8 => i == 8 || i == 7 || i == 5
  | 9 => i == 9
  | _ => false
theorem K2F.dep {base C : Nat} {V : Value} {L S : List Fl} {O : List Dop} {o : Dop} {AL AS : List Fl} {AO : List Dop} {j : Nat} {f f' : Nat → Value} {w : World} (hj : j < 10) (h : K2F base C V L S O o AL AS AO j f w) (he : ∀ i, depK2 j i = true → f (slotK2 i) = f' (slotK2 i)) : K2F base C V L S O o AL AS AO j f' w := by
  match j, hj, h, he with
  | 0, _, h, he =>
    have e0 : f 37 = f' 37 := he 0 rfl
    simp only [K2F] at h ⊢
    rw [← e0]
    exact h
  | 1, _, h, he =>
    have e1 : f 38 = f' 38 := he 1 rfl
    simp only [K2F] at h ⊢
    rw [← e1]
    exact h
  | 2, _, h, he =>
    have e2 : f 39 = f' 39 := he 2 rfl
    simp only [K2F] at h ⊢
    rw [← e2]
    exact h
  | 3, _, h, he =>
    have e3 : f 40 = f' 40 := he 3 rfl
    simp only [K2F] at h ⊢
    rw [← e3]
    exact h
  | 4, _, h, he =>
    have e4 : f 36 = f' 36 := he 4 rfl
    simp only [K2F] at h ⊢
    rw [← e4]
    exact h
  | 5, _, h, he =>
    have e5 : f 41 = f' 41 := he 5 rfl
    simp only [K2F] at h ⊢
    rw [← e5]
    exact h
  | 6, _, h, he =>
    have e6 : f 42 = f' 42 := he 6 rfl
    simp only [K2F] at h ⊢
    rw [← e6]
    exact h
  | 7, _, h, he =>
    have e7 : f 9 = f' 9 := he 7 rfl
    simp only [K2F] at h ⊢
    rw [← e7]
    exact h
  | 8, _, h, he =>
    have e7 : f 9 = f' 9 := he 7 rfl
    have e5 : f 41 = f' 41 := he 5 rfl
    simp only [K2F] at h ⊢
    rw [← e7, ← e5]
    exact h
  | 9, _, h, he =>
    have e9 : f 10 = f' 10 := he 9 rfl
    simp only [K2F] at h ⊢
    rw [← e9]
    exact h
  | (m + 10), hj, _, _ => exact absurd hj (by omega)
def dsK3 : List Nat := [85, 86, 87, 88, 89, 84, 90, 91, 14, 0, 15]
def slotK3 (j : Nat) : Nat := dsK3.getD j 0
theorem slotK3_inj (i j : Nat) (hi : i < 11) (hj : j < 11) (q : slotK3 i = slotK3 j) : i = j := by
  have h : ∀ i : Fin 11, ∀ j : Fin 11, slotK3 i.val = slotK3 j.val → i.val = j.val := by decide
  exact h ⟨i, hi⟩ ⟨j, hj⟩ q
theorem slotK3_mem (i : Nat) (hi : i < 11) : slotK3 i ∈ dsK3 := by
  have h : ∀ i : Fin 11, slotK3 i.val ∈ dsK3 := by decide
  exact h ⟨i, hi⟩
def K3F (base C : Nat) (V : Value) (L S : List Fl) (O : List Dop) (o : Dop) (AL AS : List Fl) (AO : List Dop) : Nat → (Nat → Value) → World → Prop
  | 0, f, w => f 85 = V
  | 1, f, w => ∃ y1 y2 y3 : Nat, f 86 = .agg #[.slice (some ⟨y1, 0, none⟩) L.length L.length, .slice (some ⟨y2, 0, none⟩) S.length S.length, .slice (some ⟨y3, 0, none⟩) O.length O.length] ∧ RdD w (.slice (some ⟨y1, 0, none⟩) L.length L.length) (.slice (some ⟨y2, 0, none⟩) S.length S.length) (.slice (some ⟨y3, 0, none⟩) O.length O.length) L S O
  | 2, f, w => f 87 = .agg #[.int .i64 o.k, .string o.n, .string o.t, .string o.d]
  | 3, f, w => f 88 = .agg #[.int .i64 o.k, .string o.n, .string o.t, .string o.d]
  | 4, f, w => ∃ x y z, f 89 = .tuple #[.agg #[x, y, z], .int .i64 (C : Int)] ∧ RdD w x y z AL AS AO ∧ OwD w base x y z AL.length AS.length AO.length
  | 5, f, w => ∃ x y z, f 84 = .tuple #[.agg #[x, y, z], .int .i64 (C : Int)] ∧ RdD w x y z AL AS AO ∧ OwD w base x y z AL.length AS.length AO.length
  | 6, f, w => ∃ x y z, f 90 = .agg #[x, y, z] ∧ RdD w x y z AL AS AO ∧ OwD w base x y z AL.length AS.length AO.length
  | 7, f, w => f 91 = .int .i64 (C : Int)
  | 8, f, w => ∃ g cs, f 14 = .pointer (some ⟨g, 0, none⟩) ∧ base ≤ g ∧ cs.size = 3 ∧ (∀ (i : Nat) s, cs[i]? ≠ some (Value.string s)) ∧ w.heap[g]? = some (.cells cs 30 (0, 0))
  | 9, f, w => ∃ g x y z, f 14 = .pointer (some ⟨g, 0, none⟩) ∧ f 90 = .agg #[x, y, z] ∧ w.heap[g]? = some (.cells #[x, y, z] 30 (0, 0))
  | 10, f, w => f 15 = .int .i64 (C : Int)
  | _, _, _ => True
theorem K3F.below {base C : Nat} {V : Value} {L S : List Fl} {O : List Dop} {o : Dop} {AL AS : List Fl} {AO : List Dop} {j : Nat} {f : Nat → Value} {w w' : World} (h : K3F base C V L S O o AL AS AO j f w) (hB : Below w.heap.size w w') : K3F base C V L S O o AL AS AO j f w' := by
  match j, h with
  | 0, h => exact h
  | 1, h => exact (by obtain ⟨y1, y2, y3, e, h1⟩ := h; exact ⟨y1, y2, y3, e, h1.below hB⟩)
  | 2, h => exact h
  | 3, h => exact h
  | 4, h => exact (by obtain ⟨x, y, z, e, h1, h2⟩ := h; exact ⟨x, y, z, e, h1.below hB, h2.below hB⟩)
  | 5, h => exact (by obtain ⟨x, y, z, e, h1, h2⟩ := h; exact ⟨x, y, z, e, h1.below hB, h2.below hB⟩)
  | 6, h => exact (by obtain ⟨x, y, z, e, h1, h2⟩ := h; exact ⟨x, y, z, e, h1.below hB, h2.below hB⟩)
  | 7, h => exact h
  | 8, h => exact (by obtain ⟨g, cs, e, hb, hc, hn, hh⟩ := h; exact ⟨g, cs, e, hb, hc, hn, (hB.block _ (lt_of_block hh)).trans hh⟩)
  | 9, h => exact (by obtain ⟨g, x, y, z, e, e2, hh⟩ := h; exact ⟨g, x, y, z, e, e2, (hB.block _ (lt_of_block hh)).trans hh⟩)
  | 10, h => exact h
  | (m + 11), _ => exact trivial
theorem K3F.put {base C : Nat} {V : Value} {L S : List Fl} {O : List Dop} {o : Dop} {AL AS : List Fl} {AO : List Dop} {j : Nat} {f : Nat → Value} {w w' : World} {g : Nat} {cs cs' : Array Value} (hj : j ≠ 9) (hal : f 14 = .pointer (some ⟨g, 0, none⟩)) (hg : w.heap[g]? = some (.cells cs 30 (0, 0))) (hn : ∀ (i : Nat) s, cs[i]? ≠ some (Value.string s)) (hg' : w'.heap[g]? = some (.cells cs' 30 (0, 0))) (hc' : cs'.size = 3) (hn' : ∀ (i : Nat) s, cs'[i]? ≠ some (Value.string s)) (hk : ∀ k, k ≠ g → w'.heap[k]? = w.heap[k]?) (hs : w.heap.size ≤ w'.heap.size) (h : K3F base C V L S O o AL AS AO j f w) : K3F base C V L S O o AL AS AO j f w' := by
  match j, h with
  | 0, h => exact h
  | 1, h => exact (by obtain ⟨y1, y2, y3, e, h1⟩ := h; exact ⟨y1, y2, y3, e, ⟨h1.1.far hs hg hn hk, h1.2.1.far hs hg hn hk, h1.2.2.far hs hg hn hk⟩⟩)
  | 2, h => exact h
  | 3, h => exact h
  | 4, h => exact (by obtain ⟨x, y, z, e, h1, h2⟩ := h; exact ⟨x, y, z, e, ⟨h1.1.far hs hg hn hk, h1.2.1.far hs hg hn hk, h1.2.2.far hs hg hn hk⟩, h2.off hg hk⟩)
  | 5, h => exact (by obtain ⟨x, y, z, e, h1, h2⟩ := h; exact ⟨x, y, z, e, ⟨h1.1.far hs hg hn hk, h1.2.1.far hs hg hn hk, h1.2.2.far hs hg hn hk⟩, h2.off hg hk⟩)
  | 6, h => exact (by obtain ⟨x, y, z, e, h1, h2⟩ := h; exact ⟨x, y, z, e, ⟨h1.1.far hs hg hn hk, h1.2.1.far hs hg hn hk, h1.2.2.far hs hg hn hk⟩, h2.off hg hk⟩)
  | 7, h => exact h
  | 8, h => exact (by obtain ⟨g2, cs2, e, hb, _, _, _⟩ := h; rw [hal] at e; simp only [Value.pointer.injEq, Option.some.injEq, Addr.mk.injEq] at e; obtain ⟨rfl, _⟩ := e; exact ⟨g, cs', hal, hb, hc', hn', hg'⟩)
  | 9, _ => exact absurd rfl hj
  | 10, h => exact h
  | (m + 11), _ => exact trivial
def depK3 (j i : Nat) : Bool := match j with
  | 0 => i == 0
  | 1 => i == 1
  | 2 => i == 2
  | 3 => i == 3
  | 4 => i == 4
  | 5 => i == 5
  | 6 => i == 6
  | 7 => i == 7
  | 8 => i == 8
  | 9 => i == 9 || i == 8 || i == 6
  | 10 => i == 10
  | _ => false
theorem K3F.dep {base C : Nat} {V : Value} {L S : List Fl} {O : List Dop} {o : Dop} {AL AS : List Fl} {AO : List Dop} {j : Nat} {f f' : Nat → Value} {w : World} (hj : j < 11) (h : K3F base C V L S O o AL AS AO j f w) (he : ∀ i, depK3 j i = true → f (slotK3 i) = f' (slotK3 i)) : K3F base C V L S O o AL AS AO j f' w := by
  match j, hj, h, he with
  | 0, _, h, he =>
    have e0 : f 85 = f' 85 := he 0 rfl
    simp only [K3F] at h ⊢
    rw [← e0]
    exact h
  | 1, _, h, he =>
    have e1 : f 86 = f' 86 := he 1 rfl
    simp only [K3F] at h ⊢
    rw [← e1]
    exact h
  | 2, _, h, he =>
    have e2 : f 87 = f' 87 := he 2 rfl
    simp only [K3F] at h ⊢
    rw [← e2]
    exact h
  | 3, _, h, he =>
    have e3 : f 88 = f' 88 := he 3 rfl
    simp only [K3F] at h ⊢
    rw [← e3]
    exact h
  | 4, _, h, he =>
    have e4 : f 89 = f' 89 := he 4 rfl
    simp only [K3F] at h ⊢
    rw [← e4]
    exact h
  | 5, _, h, he =>
    have e5 : f 84 = f' 84 := he 5 rfl
    simp only [K3F] at h ⊢
    rw [← e5]
    exact h
  | 6, _, h, he =>
    have e6 : f 90 = f' 90 := he 6 rfl
    simp only [K3F] at h ⊢
    rw [← e6]
    exact h
  | 7, _, h, he =>
    have e7 : f 91 = f' 91 := he 7 rfl
    simp only [K3F] at h ⊢
    rw [← e7]
    exact h
  | 8, _, h, he =>
    have e8 : f 14 = f' 14 := he 8 rfl
    simp only [K3F] at h ⊢
    rw [← e8]
    exact h
  | 9, _, h, he =>
    have e8 : f 14 = f' 14 := he 8 rfl
    have e6 : f 90 = f' 90 := he 6 rfl
    simp only [K3F] at h ⊢
    rw [← e8, ← e6]
    exact h
  | 10, _, h, he =>
    have e10 : f 15 = f' 15 := he 10 rfl
    simp only [K3F] at h ⊢
    rw [← e10]
    exact h
  | (m + 11), hj, _, _ => exact absurd hj (by omega)
end Go.Proofs.YtmcojfmkmibjpaaGreat

namespace Go.Proofs.YtmcojfmkmibjpaaGreat
open Go.RowKit
set_option linter.unusedVariables false

def NzO (z : Value) : Prop := z = .slice none 0 0 ∨ ∃ ad n c, z = .slice (some ad) n c
theorem OwD.nzo {w : World} {base : Nat} {x y z : Value} {a b c : Nat} (h : OwD w base x y z a b c) : NzO z := by
  obtain ⟨xs, h1, h2⟩ := h.o
  rcases h2 with ⟨e, _⟩ | ⟨g, cap, cur, e, _⟩
  · exact .inl e
  · exact .inr ⟨_, _, _, e⟩
/-- where the loop stands ahead of round k -/
structure RiSt (w Wb wr : World) (g : Nat) (L S : List Fl) (O : List Dop) (os : List Dop) (k : Nat) (x y z : Value) (L' : List Fl) (O' : List Dop) : Prop where
  n : At3 wr g 30 x y z
  rd : RdD wr x y z L' S O'
  left : RpAt L O os L' O' (os.drop k)
  bel : Below g Wb wr
  z0 : k = 0 → L' = L ∧ O' = O
  pos : 0 < k → diskB L' S O' = true ∧ diskB L S O = true ∧ OwD wr w.heap.size x y z L'.length S.length O'.length
  nz : NzO z
  sm : SmallD L' S O' ∧ L'.length ≤ 1048576 ∧ S.length ≤ 1048576 ∧ O'.length ≤ 1048576
theorem RiSt.disk {w Wb wr : World} {g : Nat} {L S : List Fl} {O : List Dop} {os : List Dop} {k : Nat} {x y z : Value} {L' : List Fl} {O' : List Dop} (h : RiSt w Wb wr g L S O os k x y z L' O') (hd : diskB L' S O' = true) : diskB L S O = true := by
  rcases Nat.eq_zero_or_pos k with h0 | h0
  · obtain ⟨e1, e2⟩ := h.z0 h0
    rw [← e1, ← e2]
    exact hd
  · exact (h.pos h0).2.1
theorem RiSt.no {w Wb wr : World} {g : Nat} {L S : List Fl} {O : List Dop} {os : List Dop} {k : Nat} {x y z : Value} {L' : List Fl} {O' : List Dop} (h : RiSt w Wb wr g L S O os k x y z L' O') (hd : diskB L' S O' = false) : diskB L S O = false := by
  rcases Nat.eq_zero_or_pos k with h0 | h0
  · obtain ⟨e1, e2⟩ := h.z0 h0
    rw [← e1, ← e2]
    exact hd
  · rw [(h.pos h0).1] at hd
    cases hd
theorem At3.rowAt {w : World} {b g : Nat} {t : TypeId} {x y z u v s : Value} (h : At3 w b t x y z) : At3 (w.setRow b #[u, v, s]) b t u v s := setRow_heap _ _ _ _ _ _ h
theorem drop_cons {os : List Dop} {k : Nat} (h : k < os.length) : os.drop k = os.getD k dopZ :: os.drop (k + 1) := by
  rw [List.drop_eq_getElem_cons h]
  simp [List.getD, h]
theorem rp_small (L : List Fl) (nm dt : ByteArray) (h1 : nm.size ≤ 10000000) (h2 : dt.size ≤ 10000000) : ∀ o ∈ rpOps L nm dt, o.n.size ≤ 100000000 ∧ o.t.size ≤ 100000000 ∧ o.d.size ≤ 100000000 := fun o ho => by
  have hs := rpNew_size nm
  have e : (⟨#[]⟩ : ByteArray).size = 0 := rfl
  unfold rpOps at ho
  rcases List.mem_append.1 ho with h | h
  · split at h
    · simp only [List.mem_cons, List.not_mem_nil, or_false] at h
      subst h
      exact ⟨by show (rpNew nm).size ≤ _; omega, by show (⟨#[]⟩ : ByteArray).size ≤ _; omega, by show (⟨#[]⟩ : ByteArray).size ≤ _; omega⟩
    · cases h
  · simp only [List.mem_cons, List.not_mem_nil, or_false] at h
    rcases h with rfl | rfl
    · exact ⟨by show (rpNew nm).size ≤ _; omega, by show (⟨#[]⟩ : ByteArray).size ≤ _; omega, by show dt.size ≤ _; omega⟩
    · exact ⟨by show (rpNew nm).size ≤ _; omega, by show nm.size ≤ _; omega, by show (⟨#[]⟩ : ByteArray).size ≤ _; omega⟩
theorem rp_len (L : List Fl) (nm dt : ByteArray) : 2 ≤ (rpOps L nm dt).length ∧ (rpOps L nm dt).length ≤ 3 := by
  unfold rpOps
  split <;> simp

set_option maxRecDepth 10000 in
set_option maxHeartbeats 8000000 in
theorem implReplace_any (vL vS vO : Value) (L S : List Fl) (O : List Dop) (nm dt : ByteArray) (w : World) (h : RdD w vL vS vO L S O) (hso : NzO vO) (hz : SmallD L S O) (hn : L.length ≤ 1048576 ∧ S.length ≤ 1048576 ∧ O.length ≤ 1048576) (hnm : nm.size ≤ 10000000) (hdt : dt.size ≤ 10000000) :
    Calls Tryz.prog 7 #[.agg #[vL, vS, vO], .string nm, .string dt] w fun e w' => ∃ x y z, e = .returned (.tuple #[.agg #[x, y, z], .int .i64 (rpC L S O nm dt : Int)]) ∧ RdD w' x y z (rpL L S O nm dt) (rpS L S O) (rpO L S O nm dt) ∧ OwD w' w.heap.size x y z (rpL L S O nm dt).length (rpS L S O).length (rpO L S O nm dt).length ∧ Below w.heap.size w w' := by
  have HN : Hid (L.length ≤ 1048576 ∧ S.length ≤ 1048576 ∧ O.length ≤ 1048576) := hn
  have HZ : Hid (SmallD L S O) := hz
  have HNZ : Hid (NzO vO) := hso
  have HA : Hid (∀ w', Below w.heap.size w w' → RdD w' vL vS vO L S O) := fun w' hB => h.below hB
  obtain ⟨fr, hfr⟩ : ∃ fr, fr = rpNew nm := ⟨_, rfl⟩
  have hadd : ∀ w' : World, (Op.stringOp .add nm (⟨#[46, 110, 101, 119]⟩ : ByteArray)).run Tryz.prog w' = .ok (.string fr) w' := fun w' => by
    rw [hfr]
    exact add_ok (by have : (⟨#[46, 110, 101, 119]⟩ : ByteArray).size = 4 := rfl; omega) w'
  have HFR : Hid (fr = rpNew nm) := hfr
  have HSM : Hid (∀ M, ∀ o ∈ rpOps M nm dt, o.n.size ≤ 100000000 ∧ o.t.size ≤ 100000000 ∧ o.d.size ≤ 100000000) := fun M => rp_small M nm dt hnm hdt
  obtain ⟨aL, cL, eL⟩ := h.1.slice
  obtain ⟨nL, hnL⟩ : ∃ n, n = L.length := ⟨_, rfl⟩
  rw [← hnL] at eL
  obtain ⟨aS, cS, eS⟩ := h.2.1.slice
  obtain ⟨nS, hnS⟩ : ∃ n, n = S.length := ⟨_, rfl⟩
  rw [← hnS] at eS
  obtain ⟨aO, cO, eO⟩ := h.2.2.slice
  obtain ⟨nO, hnO⟩ : ∃ n, n = O.length := ⟨_, rfl⟩
  rw [← hnO] at eO
  subst eL eS eO
  obtain ⟨X, hX⟩ : ∃ X, X = ((w.alloc (.cells #[.slice aL nL cL, .slice aS nS cS, .slice aO nO cO] 30)).alloc (.cells #[.slice none 0 0, .slice none 0 0, .slice none 0 0] 30)).alloc (.cells #[.int .i64 1, .string fr, .string ⟨#[]⟩, .string dt, .int .i64 2, .string fr, .string nm, .string ⟨#[]⟩] 43) := ⟨_, rfl⟩
  have hBX : Below w.heap.size w X := by rw [hX]; exact (((Below.refl _ _).alloc (Nat.le_refl _) _).alloc (by simp) _).alloc (by simp; omega) _
  have gX : X.heap[w.heap.size]? = some (.cells #[.slice aL nL cL, .slice aS nS cS, .slice aO nO cO] 30 (0, 0)) := by rw [hX, Below.heap_alloc _ _ _ (by simp; omega), Below.heap_alloc _ _ _ (by simp)]; exact heap_alloc_new _ _
  have gR : X.heap[w.heap.size + 1]? = some (.cells #[.slice none 0 0, .slice none 0 0, .slice none 0 0] 30 (0, 0)) := by
    rw [hX, Below.heap_alloc _ _ _ (by simp)]
    have := heap_alloc_new (w.alloc (.cells #[.slice aL nL cL, .slice aS nS cS, .slice aO nO cO] 30)) (.cells #[.slice none 0 0, .slice none 0 0, .slice none 0 0] 30)
    simpa using this
  have gP : X.heap[w.heap.size + 1 + 1]? = some (.cells #[.int .i64 1, .string fr, .string ⟨#[]⟩, .string dt, .int .i64 2, .string fr, .string nm, .string ⟨#[]⟩] 43 (0, 0)) := by
    rw [hX]
    have := heap_alloc_new ((w.alloc (.cells #[.slice aL nL cL, .slice aS nS cS, .slice aO nO cO] 30)).alloc (.cells #[.slice none 0 0, .slice none 0 0, .slice none 0 0] 30)) (.cells #[.int .i64 1, .string fr, .string ⟨#[]⟩, .string dt, .int .i64 2, .string fr, .string nm, .string ⟨#[]⟩] 43)
    simpa using this
  have HX := (show Hid _ from hX)
  have HBX : Hid (Below w.heap.size w X) := hBX
  have HG : Hid (∀ w', Below X.heap.size X w' → At3 w' w.heap.size 30 (.slice aL nL cL) (.slice aS nS cS) (.slice aO nO cO) ∧ At3 w' (w.heap.size + 1) 30 (.slice none 0 0) (.slice none 0 0) (.slice none 0 0) ∧ w'.heap[w.heap.size + 1 + 1]? = some (.cells #[.int .i64 1, .string fr, .string ⟨#[]⟩, .string dt, .int .i64 2, .string fr, .string nm, .string ⟨#[]⟩] 43 (0, 0)) ∧ Below w.heap.size w w' ∧ w.heap.size + 1 + 1 < w'.heap.size) := fun w' hB => ⟨(hB.block _ (lt_of_block gX)).trans gX, (hB.block _ (lt_of_block gR)).trans gR, (hB.block _ (lt_of_block gP)).trans gP, hBX.trans (hB.mono hBX.size), Nat.lt_of_lt_of_le (lt_of_block gP) hB.size⟩
  have c0 : X.cell? ⟨w.heap.size, 0, none⟩ = some (.slice aL nL cL) := cellN gX
  have c1 : X.cell? ⟨w.heap.size, 1, none⟩ = some (.slice aS nS cS) := cellN gX
  have c2 : X.cell? ⟨w.heap.size, 2, none⟩ = some (.slice aO nO cO) := cellN gX
  rw [hX] at c0 c1 c2
  clear hX hBX gX gR gP h hz hn hso hnm hdt hnL hnS hnO hfr
  go_enter Tryz.func7, Tryz.ntmps7
  go_wp2_with fail
  rw [← HX.out]
  have hAX := HA.out X HBX.out
  refine (implRead_any _ _ _ L S O fr X hAX.1 hAX.2.1 hAX.2.2 HZ.out).mono ?_
  rintro e w1 ⟨rfl, hB1⟩
  have HB1 : Hid (Below X.heap.size X w1) := hB1
  clear c0 c1 c2 HX hB1 hAX
  obtain ⟨rr, hrr⟩ : ∃ r, r = rdB L S O fr := ⟨_, rfl⟩
  rw [← hrr]
  clear hrr
  cases hok : rdOk L S O fr with
  | false =>
    obtain ⟨os, hos⟩ : ∃ os, os = rpOps [] nm dt := ⟨_, rfl⟩
    have HOSM : Hid (∀ o ∈ os, o.n.size ≤ 100000000 ∧ o.t.size ≤ 100000000 ∧ o.d.size ≤ 100000000) := by rw [hos]; exact HSM.out []
    have hop : os = [⟨1, fr, ⟨#[]⟩, dt⟩, ⟨2, fr, nm, ⟨#[]⟩⟩] := by
      rw [hos, HFR.out]
      exact rpOps_none rfl
    have HEQ : Hid (diskB L S O = true → os = rpOps L nm dt) := fun hd => by
      unfold rdOk at hok
      rw [if_pos hd, HFR.out] at hok
      have hgn : getF L (rpNew nm) = none := by
        cases hq : getF L (rpNew nm) with
        | none => rfl
        | some x => rw [hq] at hok; cases hok
      rw [hos, rpOps_none hgn]
      exact rpOps_none rfl
    have HLN : Hid (os.length = 2) := by show _ = _; rw [hop]; rfl
    have HPB : Hid (w.heap.size + 1 + 1 < w1.heap.size ∧ ∀ i, i < 2 → ∀ t, t < 4 → w1.cell? ⟨w.heap.size + 1 + 1, 0 + i * 4 + t, none⟩ = (encO (os.getD i dopZ))[t]?) := by
      have hh := HG.out w1 HB1.out
      refine ⟨hh.2.2.2.2, fun i hi t ht => ?_⟩
      rw [cellN hh.2.2.1, hop]
      match i, hi, t, ht with
      | 0, _, 0, _ => rfl
      | 0, _, 1, _ => rfl
      | 0, _, 2, _ => rfl
      | 0, _, 3, _ => rfl
      | 1, _, 0, _ => rfl
      | 1, _, 1, _ => rfl
      | 1, _, 2, _ => rfl
      | 1, _, 3, _ => rfl
    have HBW : Hid (Below X.heap.size X w1) := HB1.out
    clear hok hop hos
    obtain ⟨g, hgg⟩ : ∃ g, g = w1.heap.size := ⟨_, rfl⟩
    have hBWb : Below X.heap.size X w1 := HBW.out
    obtain ⟨Y, hY⟩ : ∃ Y, Y = w1.alloc (.cells #[.slice aL nL cL, .slice aS nS cS, .slice aO nO cO] 30) := ⟨_, rfl⟩
    have hBY : Below w1.heap.size w1 Y := by rw [hY]; exact (Below.refl _ _).alloc (Nat.le_refl _) _
    have HGB : Hid (∀ W', Below g w1 W' → At3 W' w.heap.size 30 (.slice aL nL cL) (.slice aS nS cS) (.slice aO nO cO) ∧ At3 W' (w.heap.size + 1) 30 (.slice none 0 0) (.slice none 0 0) (.slice none 0 0) ∧ Below w.heap.size w W' ∧ w.heap.size + 1 + 1 < g ∧ RdD W' (.slice aL nL cL) (.slice aS nS cS) (.slice aO nO cO) L S O) := fun W' hB => by
      rw [hgg] at hB
      have hh := HG.out W' (hBWb.trans (hB.mono hBWb.size))
      exact ⟨hh.1, hh.2.1, hh.2.2.2.1, by rw [hgg]; exact (HG.out _ hBWb).2.2.2.2, HA.out W' hh.2.2.2.1⟩
    have HOC : Hid (∀ W', Below g w1 W' → ∀ i, i < 2 → ∀ t, t < 4 → W'.cell? ⟨w.heap.size + 1 + 1, 0 + i * 4 + t, none⟩ = (encO ((os).getD i dopZ))[t]?) := fun W' hB i hi t ht => by
      rw [hgg] at hB
      exact (hB.cell (p := ⟨w.heap.size + 1 + 1, 0 + i * 4 + t, none⟩) HPB.out.1).trans (HPB.out.2 i hi t ht)
    have HS0 : Hid (RiSt w w1 Y g L S O (os) 0 (.slice aL nL cL) (.slice aS nS cS) (.slice aO nO cO) L O) := by
      have hbY : Below g w1 Y := by rw [hgg]; exact hBY
      have hh := HGB.out Y hbY
      exact ⟨by rw [hY, hgg]; exact At3.new _ _ _ _ _, hh.2.2.2.2, ⟨rfl, rfl, rfl⟩, hbY, fun _ => ⟨rfl, rfl⟩, fun q => absurd q (Nat.lt_irrefl _), HNZ.out, HZ.out, HN.out⟩
    have hh := HGB.out w1 (Below.refl _ _)
    have c0 := hh.1.c0
    have c1 := hh.1.c1
    have c2 := hh.1.c2
    have HY : Hid (Y = w1.alloc (.cells #[.slice aL nL cL, .slice aS nS cS, .slice aO nO cO] 30)) := hY
    have HGG : Hid (g = w1.heap.size) := hgg
    clear hY hBY hgg hBWb hh
    go_wp2
    rw [← HY.out, ← HGG.out]
    clear c0 c1 c2
    go_loopw [41] (fun i wr => ∃ (k : Nat), k ≤ 2 ∧ i = .int .i64 k ∧ Hid (∃ x y z L' O', RiSt w w1 wr g L S O (os) k x y z L' O')) (fun i _ => 2 - (intOf i).toNat)
    case atStart => exact ⟨0, Nat.zero_le _, rfl, _, _, _, _, _, HS0.out⟩
    case round =>
      obtain ⟨k, hk, rfl, HI⟩ := hrel
      obtain ⟨x, y, z, L', O', hR⟩ := HI.out
      obtain ⟨xa, xc, ya, yc, za, zc, ex, ey, ez⟩ := hR.rd.slices
      obtain ⟨xn, hxn⟩ : ∃ m, m = L'.length := ⟨_, rfl⟩
      obtain ⟨yn, hyn⟩ : ∃ m, m = S.length := ⟨_, rfl⟩
      obtain ⟨zn, hzn⟩ : ∃ m, m = O'.length := ⟨_, rfl⟩
      rw [← hxn] at ex
      rw [← hyn] at ey
      rw [← hzn] at ez
      subst ex ey ez
      have HR : Hid (RiSt w w1 wr g L S O (os) k (.slice xa xn xc) (.slice ya yn yc) (.slice za zn zc) L' O') := hR
      have n0 := hR.n.c0
      have n1 := hR.n.c1
      have n2 := hR.n.c2
      clear HI hR hxn hyn hzn
      by_cases hlt : k < 2
      · have hltI : (k : Int) < (2 : Int) := by omega
        obtain ⟨o, ho⟩ : ∃ o, o = (os).getD k dopZ := ⟨_, rfl⟩
        have d0 := HOC.out wr HR.out.bel k hlt 0 (by omega)
        have d1 := HOC.out wr HR.out.bel k hlt 1 (by omega)
        have d2 := HOC.out wr HR.out.bel k hlt 2 (by omega)
        have d3 := HOC.out wr HR.out.bel k hlt 3 (by omega)
        rw [← ho] at d0 d1 d2 d3
        have d0' : wr.cell? ⟨w.heap.size + 1 + 1, k * 4, none⟩ = some (.int .i64 o.k) := by rw [Nat.zero_add] at d0; exact d0
        have d1' : wr.cell? ⟨w.heap.size + 1 + 1, k * 4 + 1, none⟩ = some (.string o.n) := by rw [Nat.zero_add] at d1; exact d1
        have d2' : wr.cell? ⟨w.heap.size + 1 + 1, k * 4 + 2, none⟩ = some (.string o.t) := by rw [Nat.zero_add] at d2; exact d2
        have d3' : wr.cell? ⟨w.heap.size + 1 + 1, k * 4 + 3, none⟩ = some (.string o.d) := by rw [Nat.zero_add] at d3; exact d3
        have hkl : k < (os).length := by rw [HLN.out]; exact hlt
        have HOS : Hid (o.n.size ≤ 100000000 ∧ o.t.size ≤ 100000000 ∧ o.d.size ≤ 100000000) := HOSM.out o (by rw [ho]; exact getD_mem hkl)
        have HDR : Hid (RpAt L O (os) L' O' (o :: (os).drop (k + 1))) := by
          have := HR.out.left
          rw [drop_cons hkl, ← ho] at this
          exact this
        obtain ⟨Z, hZ⟩ : ∃ Z, Z = wr.alloc (.cells #[.int .i64 o.k, .string o.n, .string o.t, .string o.d] 43) := ⟨_, rfl⟩
        have HZZ : Hid (Z = wr.alloc (.cells #[.int .i64 o.k, .string o.n, .string o.t, .string o.d] 43)) := hZ
        have hBZ : Below wr.heap.size wr Z := by rw [hZ]; exact (Below.refl _ _).alloc (Nat.le_refl _) _
        have HBZ : Hid (Below wr.heap.size wr Z) := hBZ
        have m0 : Z.cell? ⟨g, 0, none⟩ = some (.slice xa xn xc) := (HR.out.n.below hBZ).c0
        have m1 : Z.cell? ⟨g, 1, none⟩ = some (.slice ya yn yc) := (HR.out.n.below hBZ).c1
        have m2 : Z.cell? ⟨g, 2, none⟩ = some (.slice za zn zc) := (HR.out.n.below hBZ).c2
        rw [hZ] at m0 m1 m2
        clear d0 d1 d2 d3 ho hkl hZ hBZ
        go_wp2_with fail
        rw [← HZZ.out]
        have hgw : g ≤ wr.heap.size := Nat.le_of_lt HR.out.n.lt
        refine (implAct2_any _ _ _ L' S O' o Z (HR.out.rd.below HBZ.out) HR.out.nz HR.out.sm.1 HR.out.sm.2 HOS.out).mono ?_
        rintro e V ⟨x1, y1, z1, rfl, hr, hOw, hBv⟩
        obtain ⟨ua, uc, va, vc, ta, tc, ex, ey, ez⟩ := hr.slices
        obtain ⟨L1, hL1⟩ : ∃ Q, Q = dL L' S O' o := ⟨_, rfl⟩
        obtain ⟨S1, hS1⟩ : ∃ Q, Q = dS L' S O' := ⟨_, rfl⟩
        obtain ⟨O1, hO1⟩ : ∃ Q, Q = dO L' S O' o := ⟨_, rfl⟩
        obtain ⟨C, hC⟩ : ∃ Q, Q = dC L' S O' o := ⟨_, rfl⟩
        rw [← hL1] at hr ex hOw
        rw [← hS1] at hr ey hOw
        rw [← hO1] at hr ez hOw
        rw [← hC]
        obtain ⟨un, hun⟩ : ∃ m, m = L1.length := ⟨_, rfl⟩
        obtain ⟨vn, hvn⟩ : ∃ m, m = S1.length := ⟨_, rfl⟩
        obtain ⟨tn, htn⟩ : ∃ m, m = O1.length := ⟨_, rfl⟩
        rw [← hun] at ex
        rw [← hvn] at ey
        rw [← htn] at ez
        subst ex ey ez
        have HE1 : Hid (L1 = dL L' S O' o ∧ S1 = dS L' S O' ∧ O1 = dO L' S O' o ∧ C = dC L' S O' o) := ⟨hL1, hS1, hO1, hC⟩
        obtain ⟨U, hU⟩ : ∃ U, U = V.alloc (.cells #[.slice ua un uc, .slice va vn vc, .slice ta tn tc] 30) := ⟨_, rfl⟩
        have hBU : Below V.heap.size V U := by rw [hU]; exact (Below.refl _ _).alloc (Nat.le_refl _) _
        have hBwV : Below wr.heap.size wr V := HBZ.out.trans (hBv.mono HBZ.out.size)
        have hBwU : Below wr.heap.size wr U := hBwV.trans (hBU.mono hBwV.size)
        have HBU : Hid (Below g w1 U) := HR.out.bel.trans (hBwU.mono hgw)
        have HRU : Hid (RdD U (.slice ua un uc) (.slice va vn vc) (.slice ta tn tc) L1 S1 O1) := hr.below hBU
        have HOU : Hid (OwD U wr.heap.size (.slice ua un uc) (.slice va vn vc) (.slice ta tn tc) L1.length S1.length O1.length) := (hOw.below hBU).base HBZ.out.size
        have HNU : Hid (At3 U g 30 (.slice xa xn xc) (.slice ya yn yc) (.slice za zn zc)) := HR.out.n.below hBwU
        have hgU := HGB.out U HBU.out
        have HR3 : Hid (At3 U (w.heap.size + 1) 30 (.slice none 0 0) (.slice none 0 0) (.slice none 0 0)) := hgU.2.1
        have HWR : Hid (w.heap.size ≤ wr.heap.size ∧ w.heap.size + 1 + 1 < g) := ⟨by have := hgU.2.2.2.1; omega, hgU.2.2.2.1⟩
        have e0 := hgU.1.c0
        have e1 := hgU.1.c1
        have e2 := hgU.1.c2
        rw [hU] at e0 e1 e2
        have HU : Hid (U = V.alloc (.cells #[.slice ua un uc, .slice va vn vc, .slice ta tn tc] 30)) := hU
        clear hr hOw hBv hun hvn htn hL1 hS1 hO1 hC hBU hBwV hBwU hgU hgw n0 n1 n2 m0 m1 m2 d0' d1' d2' d3'
        cases hd : diskB L' S O' with
        | false =>
          have hC1 : C = 1 := HE1.out.2.2.2.trans (d_no o hd).1
          have hcb1 : ((C : Int) == 1) = true := by rw [hC1]; rfl
          have HD := (show Hid _ from rp_no nm dt (HR.out.no hd))
          have HC1 : Hid (C = 1) := hC1
          obtain ⟨q, hq, hi6, ho6, h16⟩ := row3 none none none 0 0 0 0 0 0
          have HU3 := HR3.out
          rw [hU] at HU3
          have HR4 : Hid (At3 (V.alloc (.cells #[.slice ua un uc, .slice va vn vc, .slice ta tn tc] 30)) (w.heap.size + 1) 30 (.slice none 0 0) (.slice none 0 0) (.slice none 0 0)) := HU3
          clear hd hC1 hU e0 e1 e2 HU3
          go_wp2_with (refine wpList_store_row rfl 30 _ _ rfl (w.heap.size + 1) q rfl (congrArg Value.agg hq.symm) 30 _ HR4.out hi6 ho6 h16 ?_)
          subst hq
          rw [← HU.out]
          refine bodyPost_ret (v := .tuple #[.agg #[.slice none 0 0, .slice none 0 0, .slice none 0 0], _]) (results_row_tmp rfl _ _ (w.heap.size + 1) 30 _ _ _ rfl (setRow_heap _ _ _ _ _ _ HR3.out) Tryz.underlying30 rfl hi6) rfl ⟨_, _, _, ret_val (by rw [HD.out.1, ← HC1.out]; rfl), ?_, ?_, ?_⟩
          · rw [HD.out.2.1, HD.out.2.2.1, HD.out.2.2.2]
            exact ⟨(HoldF.nil _ 0).1, (HoldF.nil _ 0).1, (HoldO.nil _ 0).1⟩
          · rw [HD.out.2.1, HD.out.2.2.1, HD.out.2.2.2]
            exact ⟨(HoldF.nil _ _).2, (HoldF.nil _ _).2, (HoldO.nil _ _).2, fun _ hb => by cases hb⟩
          · exact below_setRow (HGB.out U HBU.out).2.2.1 (by omega) _
        | true =>
          have HDL : Hid (diskB L S O = true) := HR.out.disk hd
          obtain ⟨dy0, dy1, dy2, dy3⟩ := d_yes o hd
          have HE2 : Hid (L1 = actL L' O' o ∧ S1 = S ∧ O1 = actO L' O' o ∧ C = actC L' O' o) := ⟨HE1.out.1.trans dy1, HE1.out.2.1.trans dy2, HE1.out.2.2.1.trans dy3, HE1.out.2.2.2.trans dy0⟩
          have hc1 : C ≠ 1 := by rw [HE2.out.2.2.2]; exact actC_ne1 _ _ _
          have hcb1 : ((C : Int) == 1) = false := by
            cases hb : ((C : Int) == 1) with
            | false => rfl
            | true => exact absurd (by have := eq_of_beq hb; omega) hc1
          have HDL' : Hid (diskB L' S O' = true) := hd
          clear hd dy0 dy1 dy2 dy3 hc1 HE1
          by_cases hz0 : C = 0
          · have hcb : ((C : Int) == 0) = true := by rw [hz0]; rfl
            have HC0 : Hid (actC L' O' o = 0) := HE2.out.2.2.2.symm.trans hz0
            obtain ⟨q, hq, hi6, ho6, h16⟩ := row3 ua va ta un uc vn vc tn tc
            have HN3 := HNU.out
            rw [hU] at HN3
            have HN4 : Hid (At3 (V.alloc (.cells #[.slice ua un uc, .slice va vn vc, .slice ta tn tc] 30)) g 30 (.slice xa xn xc) (.slice ya yn yc) (.slice za zn zc)) := HN3
            clear hz0 hU e0 e1 e2 HN3
            go_wp2_with (refine wpList_store_row rfl 30 _ _ rfl g q rfl (congrArg Value.agg hq.symm) 30 _ HN4.out hi6 (by rw [hq]; rfl) h16 ?_)
            subst hq
            rw [← HU.out]
            have HFIN : Hid (RiSt w w1 (U.setRow g #[.slice ua un uc, .slice va vn vc, .slice ta tn tc]) g L S O (os) (k + 1) (.slice ua un uc) (.slice va vn vc) (.slice ta tn tc) L1 O1) := by
              have hdk : diskB L1 S O1 = true := by
                have := act_disk HDL'.out HC0.out
                rw [← HE2.out.1, ← HE2.out.2.2.1] at this
                exact this
              have hrd := HRU.out
              rw [HE2.out.2.1] at hrd
              have hso := HOU.out
              rw [HE2.out.2.1] at hso
              have hst := HDR.out.step HC0.out
              rw [← HE2.out.1, ← HE2.out.2.2.1] at hst
              have hsd := small_disk hdk
              have hf := HWR.out
              exact ⟨HNU.out.rowAt (g := g), hrd.off3 HNU.out _, hst, below_setRow HBU.out (Nat.le_refl _) _, fun q => absurd q (by omega), fun _ => ⟨hdk, HDL.out, (hso.base hf.1).off HNU.out (fun j hj => setRow_other _ _ _ _ hj)⟩, hso.nzo, hsd.1, by omega, by omega, by omega⟩
            go_roundw
            case rel => exact ⟨k + 1, by omega, by go_num, _, _, _, _, _, HFIN.out⟩
            case measure => simp [intOf]; omega
          · have hcb : ((C : Int) == 0) = false := by
              cases hb : ((C : Int) == 0) with
              | false => rfl
              | true => exact absurd (by have := eq_of_beq hb; omega) hz0
            have HBAD : Hid (rpC L S O nm dt = C ∧ rpL L S O nm dt = L ∧ rpS L S O = S ∧ rpO L S O nm dt = O) := by
              have e := HDR.out.bad (fun q => hz0 (HE2.out.2.2.2.trans q))
              rw [HEQ.out HDL.out] at e
              obtain ⟨e1, e2, e3, e4⟩ := rp_bad (nm := nm) (dt := dt) HDL.out (by rw [e]; exact fun q => hz0 (HE2.out.2.2.2.trans q))
              exact ⟨e1.trans (e.trans HE2.out.2.2.2.symm), e2, e3, e4⟩
            clear hz0
            go_wp2_with fail
            rw [← HU.out]
            have hgU := HGB.out U HBU.out
            refine (implCopy_any _ _ _ L S O U hgU.2.2.2.2 HN.out).mono ?_
            rintro e wc ⟨x2, y2, z2, rfl, hr2, ho2, hBc⟩
            obtain ⟨b1, d1, b2, d2, b3, d3, ex, ey, ez⟩ := hr2.slices
            obtain ⟨m1, hm1⟩ : ∃ m, m = L.length := ⟨_, rfl⟩
            obtain ⟨m2, hm2⟩ : ∃ m, m = S.length := ⟨_, rfl⟩
            obtain ⟨m3, hm3⟩ : ∃ m, m = O.length := ⟨_, rfl⟩
            rw [← hm1] at ex
            rw [← hm2] at ey
            rw [← hm3] at ez
            subst ex ey ez
            have HRR : Hid (RdD wc (.slice b1 m1 d1) (.slice b2 m2 d2) (.slice b3 m3 d3) L S O) := hr2
            have HOO : Hid (OwD wc w.heap.size (.slice b1 m1 d1) (.slice b2 m2 d2) (.slice b3 m3 d3) L.length S.length O.length) := ho2.base hgU.2.2.1.size
            have HBC : Hid (Below w.heap.size w wc) := hgU.2.2.1.trans (hBc.mono hgU.2.2.1.size)
            have HR5 : Hid (At3 wc (w.heap.size + 1) 30 (.slice none 0 0) (.slice none 0 0) (.slice none 0 0)) := HR3.out.below hBc
            obtain ⟨q, hq, hi6, ho6, h16⟩ := row3 b1 b2 b3 m1 d1 m2 d2 m3 d3
            clear hr2 ho2 hBc hm1 hm2 hm3 hgU e0 e1 e2 hU
            go_wp2_with (refine wpList_store_row rfl 30 _ _ rfl (w.heap.size + 1) q rfl (congrArg Value.agg hq.symm) 30 _ HR5.out hi6 ho6 h16 ?_)
            subst hq
            refine bodyPost_ret (v := .tuple #[.agg #[.slice b1 m1 d1, .slice b2 m2 d2, .slice b3 m3 d3], _]) (results_row_tmp rfl _ _ (w.heap.size + 1) 30 _ _ _ rfl (setRow_heap _ _ _ _ _ _ HR5.out) Tryz.underlying30 rfl hi6) rfl ⟨_, _, _, ret_val (by rw [HBAD.out.1]; rfl), ?_, ?_, ?_⟩
            · rw [HBAD.out.2.1, HBAD.out.2.2.1, HBAD.out.2.2.2]
              exact HRR.out.row HR5.out _
            · rw [HBAD.out.2.1, HBAD.out.2.2.1, HBAD.out.2.2.2]
              exact HOO.out.off HR5.out (fun j hj => setRow_other _ _ _ _ hj)
            · exact below_setRow HBC.out (by omega) _
      · have hltI : ¬ (k : Int) < (2 : Int) := by omega
        have hkn : k = 2 := by omega
        obtain ⟨p1, p2, p3⟩ := HR.out.pos (by omega)
        have HGD : Hid (rpC L S O nm dt = 0 ∧ rpL L S O nm dt = L' ∧ rpS L S O = S ∧ rpO L S O nm dt = O') := by
          have hl := HR.out.left
          rw [List.drop_of_length_le (by rw [HLN.out]; omega)] at hl
          rw [HEQ.out p2] at hl
          obtain ⟨e1, e2, e3, e4⟩ := rp_good p2 (hl.1.trans rfl)
          exact ⟨e1, e2.trans hl.2.1, e3, e4.trans hl.2.2⟩
        have HOO : Hid (OwD wr w.heap.size (.slice xa xn xc) (.slice ya yn yc) (.slice za zn zc) L'.length S.length O'.length) := p3
        have hgw := HGB.out wr HR.out.bel
        have HR3 : Hid (At3 wr (w.heap.size + 1) 30 (.slice none 0 0) (.slice none 0 0) (.slice none 0 0)) := hgw.2.1
        have HBC : Hid (Below w.heap.size w wr) := hgw.2.2.1
        obtain ⟨q, hq, hi6, ho6, h16⟩ := row3 xa ya za xn xc yn yc zn zc
        clear hkn p1 p2 p3 hgw
        go_wp2_with (refine wpList_store_row rfl 30 _ _ rfl (w.heap.size + 1) q rfl (congrArg Value.agg hq.symm) 30 _ HR3.out hi6 ho6 h16 ?_)
        subst hq
        refine bodyPost_ret (v := .tuple #[.agg #[.slice xa xn xc, .slice ya yn yc, .slice za zn zc], _]) (results_row_tmp rfl _ _ (w.heap.size + 1) 30 _ _ _ rfl (setRow_heap _ _ _ _ _ _ HR3.out) Tryz.underlying30 rfl hi6) rfl ⟨_, _, _, ret_val (by rw [HGD.out.1]; rfl), ?_, ?_, ?_⟩
        · rw [HGD.out.2.1, HGD.out.2.2.1, HGD.out.2.2.2]
          exact HR.out.rd.row HR3.out _
        · rw [HGD.out.2.1, HGD.out.2.2.1, HGD.out.2.2.2]
          exact HOO.out.off HR3.out (fun j hj => setRow_other _ _ _ _ hj)
        · exact below_setRow HBC.out (by omega) _
  | true =>
    obtain ⟨os, hos⟩ : ∃ os, os = rpOps L nm dt := ⟨_, rfl⟩
    have HOSM : Hid (∀ o ∈ os, o.n.size ≤ 100000000 ∧ o.t.size ≤ 100000000 ∧ o.d.size ≤ 100000000) := by rw [hos]; exact HSM.out L
    have HEQ : Hid (diskB L S O = true → os = rpOps L nm dt) := fun _ => hos
    have hop : os = [⟨3, fr, ⟨#[]⟩, ⟨#[]⟩⟩, ⟨1, fr, ⟨#[]⟩, dt⟩, ⟨2, fr, nm, ⟨#[]⟩⟩] := by
      rw [hos, HFR.out]
      unfold rdOk at hok
      by_cases hd : diskB L S O = true
      · rw [if_pos hd, HFR.out] at hok
        cases hq : getF L (rpNew nm) with
        | none => rw [hq] at hok; cases hok
        | some x => exact rpOps_some hq
      · rw [if_neg hd] at hok
        cases hok
    have HOP := (show Hid _ from hop)
    have HLN : Hid (os.length = 3) := by show _ = _; rw [hop]; rfl
    obtain ⟨T, hT⟩ : ∃ T, T = w1.alloc (.cells #[.int .i64 3, .string fr, .string ⟨#[]⟩, .string ⟨#[]⟩] 43) := ⟨_, rfl⟩
    have hBT : Below w1.heap.size w1 T := by rw [hT]; exact (Below.refl _ _).alloc (Nat.le_refl _) _
    have gT : T.heap[w1.heap.size]? = some (.cells (encO ⟨3, fr, ⟨#[]⟩, ⟨#[]⟩⟩) 43 (0, 0)) := by rw [hT]; exact heap_alloc_new _ _
    have hBXT : Below X.heap.size X T := HB1.out.trans (hBT.mono HB1.out.size)
    have gO : T.heap[w.heap.size + 1 + 1]? = some (.cells (encO ⟨1, fr, ⟨#[]⟩, dt⟩ ++ encO ⟨2, fr, nm, ⟨#[]⟩⟩) 43 (0, 0)) := (HG.out T hBXT).2.2.1
    have HT : Hid (T = w1.alloc (.cells #[.int .i64 3, .string fr, .string ⟨#[]⟩, .string ⟨#[]⟩] 43)) := hT
    have HGT := (show Hid _ from gT)
    have HGO := (show Hid _ from gO)
    have HBT : Hid (Below X.heap.size X T) := hBXT
    clear hok hop hos hT hBT gT gO hBXT
    go_wp2_with fail
    rw [← HT.out]
    refine (insert_ops _ _ _ _ _ T HGO.out HGT.out).mono ?_
    rintro e w2 ⟨v, rfl, hv, hB2⟩
    have HBW : Hid (Below X.heap.size X w2) := HBT.out.trans (hB2.mono HBT.out.size)
    obtain ⟨a3, c3, rfl, hlc, hcm, h3⟩ := hv
    obtain ⟨pb, po, rfl, hpb, hcell⟩ := h3 (by simp)
    have HPB : Hid (pb < w2.heap.size ∧ ∀ i, i < 3 → ∀ t, t < 4 → w2.cell? ⟨pb, po + i * 4 + t, none⟩ = (encO (os.getD i dopZ))[t]?) := by
      rw [HOP.out]
      exact ⟨hpb, hcell⟩
    have hlc3 : 3 ≤ c3 := hlc
    clear HGO HGT HT HOP hB2 hcell hpb hlc hcm h3
    simp only [List.length_cons, List.length_nil, Nat.reduceAdd]
    obtain ⟨g, hgg⟩ : ∃ g, g = w2.heap.size := ⟨_, rfl⟩
    have hBWb : Below X.heap.size X w2 := HBW.out
    obtain ⟨Y, hY⟩ : ∃ Y, Y = w2.alloc (.cells #[.slice aL nL cL, .slice aS nS cS, .slice aO nO cO] 30) := ⟨_, rfl⟩
    have hBY : Below w2.heap.size w2 Y := by rw [hY]; exact (Below.refl _ _).alloc (Nat.le_refl _) _
    have HGB : Hid (∀ W', Below g w2 W' → At3 W' w.heap.size 30 (.slice aL nL cL) (.slice aS nS cS) (.slice aO nO cO) ∧ At3 W' (w.heap.size + 1) 30 (.slice none 0 0) (.slice none 0 0) (.slice none 0 0) ∧ Below w.heap.size w W' ∧ w.heap.size + 1 + 1 < g ∧ RdD W' (.slice aL nL cL) (.slice aS nS cS) (.slice aO nO cO) L S O) := fun W' hB => by
      rw [hgg] at hB
      have hh := HG.out W' (hBWb.trans (hB.mono hBWb.size))
      exact ⟨hh.1, hh.2.1, hh.2.2.2.1, by rw [hgg]; exact (HG.out _ hBWb).2.2.2.2, HA.out W' hh.2.2.2.1⟩
    have HOC : Hid (∀ W', Below g w2 W' → ∀ i, i < 3 → ∀ t, t < 4 → W'.cell? ⟨pb, po + i * 4 + t, none⟩ = (encO ((os).getD i dopZ))[t]?) := fun W' hB i hi t ht => by
      rw [hgg] at hB
      exact (hB.cell (p := ⟨pb, po + i * 4 + t, none⟩) HPB.out.1).trans (HPB.out.2 i hi t ht)
    have HS0 : Hid (RiSt w w2 Y g L S O (os) 0 (.slice aL nL cL) (.slice aS nS cS) (.slice aO nO cO) L O) := by
      have hbY : Below g w2 Y := by rw [hgg]; exact hBY
      have hh := HGB.out Y hbY
      exact ⟨by rw [hY, hgg]; exact At3.new _ _ _ _ _, hh.2.2.2.2, ⟨rfl, rfl, rfl⟩, hbY, fun _ => ⟨rfl, rfl⟩, fun q => absurd q (Nat.lt_irrefl _), HNZ.out, HZ.out, HN.out⟩
    have hh := HGB.out w2 (Below.refl _ _)
    have c0 := hh.1.c0
    have c1 := hh.1.c1
    have c2 := hh.1.c2
    have HY : Hid (Y = w2.alloc (.cells #[.slice aL nL cL, .slice aS nS cS, .slice aO nO cO] 30)) := hY
    have HGG : Hid (g = w2.heap.size) := hgg
    clear hY hBY hgg hBWb hh
    go_wp2
    rw [← HY.out, ← HGG.out]
    clear c0 c1 c2
    go_loopw [41] (fun i wr => ∃ (k : Nat), k ≤ 3 ∧ i = .int .i64 k ∧ Hid (∃ x y z L' O', RiSt w w2 wr g L S O (os) k x y z L' O')) (fun i _ => 3 - (intOf i).toNat)
    case atStart => exact ⟨0, Nat.zero_le _, rfl, _, _, _, _, _, HS0.out⟩
    case round =>
      obtain ⟨k, hk, rfl, HI⟩ := hrel
      obtain ⟨x, y, z, L', O', hR⟩ := HI.out
      obtain ⟨xa, xc, ya, yc, za, zc, ex, ey, ez⟩ := hR.rd.slices
      obtain ⟨xn, hxn⟩ : ∃ m, m = L'.length := ⟨_, rfl⟩
      obtain ⟨yn, hyn⟩ : ∃ m, m = S.length := ⟨_, rfl⟩
      obtain ⟨zn, hzn⟩ : ∃ m, m = O'.length := ⟨_, rfl⟩
      rw [← hxn] at ex
      rw [← hyn] at ey
      rw [← hzn] at ez
      subst ex ey ez
      have HR : Hid (RiSt w w2 wr g L S O (os) k (.slice xa xn xc) (.slice ya yn yc) (.slice za zn zc) L' O') := hR
      have n0 := hR.n.c0
      have n1 := hR.n.c1
      have n2 := hR.n.c2
      clear HI hR hxn hyn hzn
      by_cases hlt : k < 3
      · have hltI : (k : Int) < (3 : Int) := by omega
        obtain ⟨o, ho⟩ : ∃ o, o = (os).getD k dopZ := ⟨_, rfl⟩
        have d0 := HOC.out wr HR.out.bel k hlt 0 (by omega)
        have d1 := HOC.out wr HR.out.bel k hlt 1 (by omega)
        have d2 := HOC.out wr HR.out.bel k hlt 2 (by omega)
        have d3 := HOC.out wr HR.out.bel k hlt 3 (by omega)
        rw [← ho] at d0 d1 d2 d3
        have d0' : wr.cell? ⟨pb, po + k * 4, none⟩ = some (.int .i64 o.k) := d0
        have d1' : wr.cell? ⟨pb, po + k * 4 + 1, none⟩ = some (.string o.n) := d1
        have d2' : wr.cell? ⟨pb, po + k * 4 + 2, none⟩ = some (.string o.t) := d2
        have d3' : wr.cell? ⟨pb, po + k * 4 + 3, none⟩ = some (.string o.d) := d3
        have hkl : k < (os).length := by rw [HLN.out]; exact hlt
        have HOS : Hid (o.n.size ≤ 100000000 ∧ o.t.size ≤ 100000000 ∧ o.d.size ≤ 100000000) := HOSM.out o (by rw [ho]; exact getD_mem hkl)
        have HDR : Hid (RpAt L O (os) L' O' (o :: (os).drop (k + 1))) := by
          have := HR.out.left
          rw [drop_cons hkl, ← ho] at this
          exact this
        obtain ⟨Z, hZ⟩ : ∃ Z, Z = wr.alloc (.cells #[.int .i64 o.k, .string o.n, .string o.t, .string o.d] 43) := ⟨_, rfl⟩
        have HZZ : Hid (Z = wr.alloc (.cells #[.int .i64 o.k, .string o.n, .string o.t, .string o.d] 43)) := hZ
        have hBZ : Below wr.heap.size wr Z := by rw [hZ]; exact (Below.refl _ _).alloc (Nat.le_refl _) _
        have HBZ : Hid (Below wr.heap.size wr Z) := hBZ
        have m0 : Z.cell? ⟨g, 0, none⟩ = some (.slice xa xn xc) := (HR.out.n.below hBZ).c0
        have m1 : Z.cell? ⟨g, 1, none⟩ = some (.slice ya yn yc) := (HR.out.n.below hBZ).c1
        have m2 : Z.cell? ⟨g, 2, none⟩ = some (.slice za zn zc) := (HR.out.n.below hBZ).c2
        rw [hZ] at m0 m1 m2
        clear d0 d1 d2 d3 ho hkl hZ hBZ
        go_wp2_with fail
        rw [← HZZ.out]
        have hgw : g ≤ wr.heap.size := Nat.le_of_lt HR.out.n.lt
        refine (implAct2_any _ _ _ L' S O' o Z (HR.out.rd.below HBZ.out) HR.out.nz HR.out.sm.1 HR.out.sm.2 HOS.out).mono ?_
        rintro e V ⟨x1, y1, z1, rfl, hr, hOw, hBv⟩
        obtain ⟨ua, uc, va, vc, ta, tc, ex, ey, ez⟩ := hr.slices
        obtain ⟨L1, hL1⟩ : ∃ Q, Q = dL L' S O' o := ⟨_, rfl⟩
        obtain ⟨S1, hS1⟩ : ∃ Q, Q = dS L' S O' := ⟨_, rfl⟩
        obtain ⟨O1, hO1⟩ : ∃ Q, Q = dO L' S O' o := ⟨_, rfl⟩
        obtain ⟨C, hC⟩ : ∃ Q, Q = dC L' S O' o := ⟨_, rfl⟩
        rw [← hL1] at hr ex hOw
        rw [← hS1] at hr ey hOw
        rw [← hO1] at hr ez hOw
        rw [← hC]
        obtain ⟨un, hun⟩ : ∃ m, m = L1.length := ⟨_, rfl⟩
        obtain ⟨vn, hvn⟩ : ∃ m, m = S1.length := ⟨_, rfl⟩
        obtain ⟨tn, htn⟩ : ∃ m, m = O1.length := ⟨_, rfl⟩
        rw [← hun] at ex
        rw [← hvn] at ey
        rw [← htn] at ez
        subst ex ey ez
        have HE1 : Hid (L1 = dL L' S O' o ∧ S1 = dS L' S O' ∧ O1 = dO L' S O' o ∧ C = dC L' S O' o) := ⟨hL1, hS1, hO1, hC⟩
        obtain ⟨U, hU⟩ : ∃ U, U = V.alloc (.cells #[.slice ua un uc, .slice va vn vc, .slice ta tn tc] 30) := ⟨_, rfl⟩
        have hBU : Below V.heap.size V U := by rw [hU]; exact (Below.refl _ _).alloc (Nat.le_refl _) _
        have hBwV : Below wr.heap.size wr V := HBZ.out.trans (hBv.mono HBZ.out.size)
        have hBwU : Below wr.heap.size wr U := hBwV.trans (hBU.mono hBwV.size)
        have HBU : Hid (Below g w2 U) := HR.out.bel.trans (hBwU.mono hgw)
        have HRU : Hid (RdD U (.slice ua un uc) (.slice va vn vc) (.slice ta tn tc) L1 S1 O1) := hr.below hBU
        have HOU : Hid (OwD U wr.heap.size (.slice ua un uc) (.slice va vn vc) (.slice ta tn tc) L1.length S1.length O1.length) := (hOw.below hBU).base HBZ.out.size
        have HNU : Hid (At3 U g 30 (.slice xa xn xc) (.slice ya yn yc) (.slice za zn zc)) := HR.out.n.below hBwU
        have hgU := HGB.out U HBU.out
        have HR3 : Hid (At3 U (w.heap.size + 1) 30 (.slice none 0 0) (.slice none 0 0) (.slice none 0 0)) := hgU.2.1
        have HWR : Hid (w.heap.size ≤ wr.heap.size ∧ w.heap.size + 1 + 1 < g) := ⟨by have := hgU.2.2.2.1; omega, hgU.2.2.2.1⟩
        have e0 := hgU.1.c0
        have e1 := hgU.1.c1
        have e2 := hgU.1.c2
        rw [hU] at e0 e1 e2
        have HU : Hid (U = V.alloc (.cells #[.slice ua un uc, .slice va vn vc, .slice ta tn tc] 30)) := hU
        clear hr hOw hBv hun hvn htn hL1 hS1 hO1 hC hBU hBwV hBwU hgU hgw n0 n1 n2 m0 m1 m2 d0' d1' d2' d3'
        cases hd : diskB L' S O' with
        | false =>
          have hC1 : C = 1 := HE1.out.2.2.2.trans (d_no o hd).1
          have hcb1 : ((C : Int) == 1) = true := by rw [hC1]; rfl
          have HD := (show Hid _ from rp_no nm dt (HR.out.no hd))
          have HC1 : Hid (C = 1) := hC1
          obtain ⟨q, hq, hi6, ho6, h16⟩ := row3 none none none 0 0 0 0 0 0
          have HU3 := HR3.out
          rw [hU] at HU3
          have HR4 : Hid (At3 (V.alloc (.cells #[.slice ua un uc, .slice va vn vc, .slice ta tn tc] 30)) (w.heap.size + 1) 30 (.slice none 0 0) (.slice none 0 0) (.slice none 0 0)) := HU3
          clear hd hC1 hU e0 e1 e2 HU3
          go_wp2_with (refine wpList_store_row rfl 30 _ _ rfl (w.heap.size + 1) q rfl (congrArg Value.agg hq.symm) 30 _ HR4.out hi6 ho6 h16 ?_)
          subst hq
          rw [← HU.out]
          refine bodyPost_ret (v := .tuple #[.agg #[.slice none 0 0, .slice none 0 0, .slice none 0 0], _]) (results_row_tmp rfl _ _ (w.heap.size + 1) 30 _ _ _ rfl (setRow_heap _ _ _ _ _ _ HR3.out) Tryz.underlying30 rfl hi6) rfl ⟨_, _, _, ret_val (by rw [HD.out.1, ← HC1.out]; rfl), ?_, ?_, ?_⟩
          · rw [HD.out.2.1, HD.out.2.2.1, HD.out.2.2.2]
            exact ⟨(HoldF.nil _ 0).1, (HoldF.nil _ 0).1, (HoldO.nil _ 0).1⟩
          · rw [HD.out.2.1, HD.out.2.2.1, HD.out.2.2.2]
            exact ⟨(HoldF.nil _ _).2, (HoldF.nil _ _).2, (HoldO.nil _ _).2, fun _ hb => by cases hb⟩
          · exact below_setRow (HGB.out U HBU.out).2.2.1 (by omega) _
        | true =>
          have HDL : Hid (diskB L S O = true) := HR.out.disk hd
          obtain ⟨dy0, dy1, dy2, dy3⟩ := d_yes o hd
          have HE2 : Hid (L1 = actL L' O' o ∧ S1 = S ∧ O1 = actO L' O' o ∧ C = actC L' O' o) := ⟨HE1.out.1.trans dy1, HE1.out.2.1.trans dy2, HE1.out.2.2.1.trans dy3, HE1.out.2.2.2.trans dy0⟩
          have hc1 : C ≠ 1 := by rw [HE2.out.2.2.2]; exact actC_ne1 _ _ _
          have hcb1 : ((C : Int) == 1) = false := by
            cases hb : ((C : Int) == 1) with
            | false => rfl
            | true => exact absurd (by have := eq_of_beq hb; omega) hc1
          have HDL' : Hid (diskB L' S O' = true) := hd
          clear hd dy0 dy1 dy2 dy3 hc1 HE1
          by_cases hz0 : C = 0
          · have hcb : ((C : Int) == 0) = true := by rw [hz0]; rfl
            have HC0 : Hid (actC L' O' o = 0) := HE2.out.2.2.2.symm.trans hz0
            obtain ⟨q, hq, hi6, ho6, h16⟩ := row3 ua va ta un uc vn vc tn tc
            have HN3 := HNU.out
            rw [hU] at HN3
            have HN4 : Hid (At3 (V.alloc (.cells #[.slice ua un uc, .slice va vn vc, .slice ta tn tc] 30)) g 30 (.slice xa xn xc) (.slice ya yn yc) (.slice za zn zc)) := HN3
            clear hz0 hU e0 e1 e2 HN3
            go_wp2_with (refine wpList_store_row rfl 30 _ _ rfl g q rfl (congrArg Value.agg hq.symm) 30 _ HN4.out hi6 (by rw [hq]; rfl) h16 ?_)
            subst hq
            rw [← HU.out]
            have HFIN : Hid (RiSt w w2 (U.setRow g #[.slice ua un uc, .slice va vn vc, .slice ta tn tc]) g L S O (os) (k + 1) (.slice ua un uc) (.slice va vn vc) (.slice ta tn tc) L1 O1) := by
              have hdk : diskB L1 S O1 = true := by
                have := act_disk HDL'.out HC0.out
                rw [← HE2.out.1, ← HE2.out.2.2.1] at this
                exact this
              have hrd := HRU.out
              rw [HE2.out.2.1] at hrd
              have hso := HOU.out
              rw [HE2.out.2.1] at hso
              have hst := HDR.out.step HC0.out
              rw [← HE2.out.1, ← HE2.out.2.2.1] at hst
              have hsd := small_disk hdk
              have hf := HWR.out
              exact ⟨HNU.out.rowAt (g := g), hrd.off3 HNU.out _, hst, below_setRow HBU.out (Nat.le_refl _) _, fun q => absurd q (by omega), fun _ => ⟨hdk, HDL.out, (hso.base hf.1).off HNU.out (fun j hj => setRow_other _ _ _ _ hj)⟩, hso.nzo, hsd.1, by omega, by omega, by omega⟩
            go_roundw
            case rel => exact ⟨k + 1, by omega, by go_num, _, _, _, _, _, HFIN.out⟩
            case measure => simp [intOf]; omega
          · have hcb : ((C : Int) == 0) = false := by
              cases hb : ((C : Int) == 0) with
              | false => rfl
              | true => exact absurd (by have := eq_of_beq hb; omega) hz0
            have HBAD : Hid (rpC L S O nm dt = C ∧ rpL L S O nm dt = L ∧ rpS L S O = S ∧ rpO L S O nm dt = O) := by
              have e := HDR.out.bad (fun q => hz0 (HE2.out.2.2.2.trans q))
              rw [HEQ.out HDL.out] at e
              obtain ⟨e1, e2, e3, e4⟩ := rp_bad (nm := nm) (dt := dt) HDL.out (by rw [e]; exact fun q => hz0 (HE2.out.2.2.2.trans q))
              exact ⟨e1.trans (e.trans HE2.out.2.2.2.symm), e2, e3, e4⟩
            clear hz0
            go_wp2_with fail
            rw [← HU.out]
            have hgU := HGB.out U HBU.out
            refine (implCopy_any _ _ _ L S O U hgU.2.2.2.2 HN.out).mono ?_
            rintro e wc ⟨x2, y2, z2, rfl, hr2, ho2, hBc⟩
            obtain ⟨b1, d1, b2, d2, b3, d3, ex, ey, ez⟩ := hr2.slices
            obtain ⟨m1, hm1⟩ : ∃ m, m = L.length := ⟨_, rfl⟩
            obtain ⟨m2, hm2⟩ : ∃ m, m = S.length := ⟨_, rfl⟩
            obtain ⟨m3, hm3⟩ : ∃ m, m = O.length := ⟨_, rfl⟩
            rw [← hm1] at ex
            rw [← hm2] at ey
            rw [← hm3] at ez
            subst ex ey ez
            have HRR : Hid (RdD wc (.slice b1 m1 d1) (.slice b2 m2 d2) (.slice b3 m3 d3) L S O) := hr2
            have HOO : Hid (OwD wc w.heap.size (.slice b1 m1 d1) (.slice b2 m2 d2) (.slice b3 m3 d3) L.length S.length O.length) := ho2.base hgU.2.2.1.size
            have HBC : Hid (Below w.heap.size w wc) := hgU.2.2.1.trans (hBc.mono hgU.2.2.1.size)
            have HR5 : Hid (At3 wc (w.heap.size + 1) 30 (.slice none 0 0) (.slice none 0 0) (.slice none 0 0)) := HR3.out.below hBc
            obtain ⟨q, hq, hi6, ho6, h16⟩ := row3 b1 b2 b3 m1 d1 m2 d2 m3 d3
            clear hr2 ho2 hBc hm1 hm2 hm3 hgU e0 e1 e2 hU
            go_wp2_with (refine wpList_store_row rfl 30 _ _ rfl (w.heap.size + 1) q rfl (congrArg Value.agg hq.symm) 30 _ HR5.out hi6 ho6 h16 ?_)
            subst hq
            refine bodyPost_ret (v := .tuple #[.agg #[.slice b1 m1 d1, .slice b2 m2 d2, .slice b3 m3 d3], _]) (results_row_tmp rfl _ _ (w.heap.size + 1) 30 _ _ _ rfl (setRow_heap _ _ _ _ _ _ HR5.out) Tryz.underlying30 rfl hi6) rfl ⟨_, _, _, ret_val (by rw [HBAD.out.1]; rfl), ?_, ?_, ?_⟩
            · rw [HBAD.out.2.1, HBAD.out.2.2.1, HBAD.out.2.2.2]
              exact HRR.out.row HR5.out _
            · rw [HBAD.out.2.1, HBAD.out.2.2.1, HBAD.out.2.2.2]
              exact HOO.out.off HR5.out (fun j hj => setRow_other _ _ _ _ hj)
            · exact below_setRow HBC.out (by omega) _
      · have hltI : ¬ (k : Int) < (3 : Int) := by omega
        have hkn : k = 3 := by omega
        obtain ⟨p1, p2, p3⟩ := HR.out.pos (by omega)
        have HGD : Hid (rpC L S O nm dt = 0 ∧ rpL L S O nm dt = L' ∧ rpS L S O = S ∧ rpO L S O nm dt = O') := by
          have hl := HR.out.left
          rw [List.drop_of_length_le (by rw [HLN.out]; omega)] at hl
          rw [HEQ.out p2] at hl
          obtain ⟨e1, e2, e3, e4⟩ := rp_good p2 (hl.1.trans rfl)
          exact ⟨e1, e2.trans hl.2.1, e3, e4.trans hl.2.2⟩
        have HOO : Hid (OwD wr w.heap.size (.slice xa xn xc) (.slice ya yn yc) (.slice za zn zc) L'.length S.length O'.length) := p3
        have hgw := HGB.out wr HR.out.bel
        have HR3 : Hid (At3 wr (w.heap.size + 1) 30 (.slice none 0 0) (.slice none 0 0) (.slice none 0 0)) := hgw.2.1
        have HBC : Hid (Below w.heap.size w wr) := hgw.2.2.1
        obtain ⟨q, hq, hi6, ho6, h16⟩ := row3 xa ya za xn xc yn yc zn zc
        clear hkn p1 p2 p3 hgw
        go_wp2_with (refine wpList_store_row rfl 30 _ _ rfl (w.heap.size + 1) q rfl (congrArg Value.agg hq.symm) 30 _ HR3.out hi6 ho6 h16 ?_)
        subst hq
        refine bodyPost_ret (v := .tuple #[.agg #[.slice xa xn xc, .slice ya yn yc, .slice za zn zc], _]) (results_row_tmp rfl _ _ (w.heap.size + 1) 30 _ _ _ rfl (setRow_heap _ _ _ _ _ _ HR3.out) Tryz.underlying30 rfl hi6) rfl ⟨_, _, _, ret_val (by rw [HGD.out.1]; rfl), ?_, ?_, ?_⟩
        · rw [HGD.out.2.1, HGD.out.2.2.1, HGD.out.2.2.2]
          exact HR.out.rd.row HR3.out _
        · rw [HGD.out.2.1, HGD.out.2.2.1, HGD.out.2.2.2]
          exact HOO.out.off HR3.out (fun j hj => setRow_other _ _ _ _ hj)
        · exact below_setRow HBC.out (by omega) _
end Go.Proofs.YtmcojfmkmibjpaaGreat

namespace Go.Proofs.YtmcojfmkmibjpaaGreat
open Go.RowKit
set_option linter.unusedVariables false

def dsT : List Nat := [55, 56, 57, 58, 59]
def slotT (j : Nat) : Nat := dsT.getD j 0
theorem slotT_inj (i j : Nat) (hi : i < 5) (hj : j < 5) (q : slotT i = slotT j) : i = j := by
  have h : ∀ i : Fin 5, ∀ j : Fin 5, slotT i.val = slotT j.val → i.val = j.val := by decide
  exact h ⟨i, hi⟩ ⟨j, hj⟩ q
theorem slotT_mem (i : Nat) (hi : i < 5) : slotT i ∈ dsT := by
  have h : ∀ i : Fin 5, slotT i.val ∈ dsT := by decide
  exact h ⟨i, hi⟩
theorem acts_lens : ∀ (os : List Dop) {L S : List Fl} {O : List Dop}, diskB L S O = true → actsC L O os = 0 → (actsL L O os).length ≤ 60 ∧ (actsO L O os).length ≤ 200 := fun os L S O h hc => by
  have := small_disk (acts_right os h hc)
  exact ⟨this.2.1, this.2.2.2⟩
theorem rp_lens {L S : List Fl} {O : List Dop} (nm dt : ByteArray) (hn : L.length ≤ 1048576 ∧ S.length ≤ 1048576 ∧ O.length ≤ 1048576) : (rpL L S O nm dt).length ≤ 1048576 ∧ (rpS L S O).length ≤ 1048576 ∧ (rpO L S O nm dt).length ≤ 1048576 := by
  cases hd : diskB L S O with
  | false =>
    obtain ⟨_, e1, e2, e3⟩ := rp_no nm dt hd
    rw [e1, e2, e3]
    decide
  | true =>
    by_cases hc : actsC L O (rpOps L nm dt) = 0
    · obtain ⟨_, e1, e2, e3⟩ := rp_good hd hc
      rw [e1, e2, e3]
      have := acts_lens _ hd hc
      exact ⟨by omega, hn.2.1, by omega⟩
    · obtain ⟨_, e1, e2, e3⟩ := rp_bad hd hc
      rw [e1, e2, e3]
      exact hn

set_option maxRecDepth 10000 in
set_option maxHeartbeats 8000000 in
theorem replace_walk (vL vS vO : Value) (L S : List Fl) (O : List Dop) (nm dt : ByteArray) (w : World) (hL : RdF w vL L) (hS : RdF w vS S) (hO : RdO w vO O) (hin : InD L S O) (hnm : nm.size ≤ 9223372036854775807) (hdt : dt.size ≤ 9223372036854775807) :
    Calls Tryz.prog 3 #[.agg #[vL, vS, vO], .string nm, .string dt] w fun e w' => e = .returned (.bool true) ∧ Below w.heap.size w w' := by
  have HA : Hid (∀ w', Below w.heap.size w w' → RdF w' vL L ∧ RdF w' vS S ∧ RdO w' vO O) := fun w' hB => ⟨hL.below hB, hS.below hB, hO.below hB⟩
  obtain ⟨aL, cL, eL⟩ := hL.slice
  obtain ⟨nL, hnL⟩ : ∃ n, n = L.length := ⟨_, rfl⟩
  rw [← hnL] at eL
  obtain ⟨aS, cS, eS⟩ := hS.slice
  obtain ⟨nS, hnS⟩ : ∃ n, n = S.length := ⟨_, rfl⟩
  rw [← hnS] at eS
  obtain ⟨aO, cO, eO⟩ := hO.slice
  obtain ⟨nO, hnO⟩ : ∃ n, n = O.length := ⟨_, rfl⟩
  rw [← hnO] at eO
  subst eL eS eO
  have HE : Hid (nL = L.length ∧ nS = S.length ∧ nO = O.length) := ⟨hnL, hnS, hnO⟩
  have HI : Hid (InD L S O) := hin
  have en1 : ∀ args w, (callFunc 6 args).run Tryz.prog w = .ok (.enter 6 args) w := enters_of Tryz.func6 (by kernel_rfl) rfl
  have en2 : ∀ args w, (callFunc 8 args).run Tryz.prog w = .ok (.enter 8 args) w := enters_of Tryz.func8 (by kernel_rfl) rfl
  have HEN1 := (show Hid _ from en1)
  have HEN2 := (show Hid _ from en2)
  clear en1 en2
  obtain ⟨X, hX⟩ : ∃ X, X = w.alloc (.cells #[.slice aL nL cL, .slice aS nS cS, .slice aO nO cO] 25) := ⟨_, rfl⟩
  have HX := (show Hid _ from hX)
  have hBX : Below w.heap.size w X := by rw [hX]; exact (Below.refl _ _).alloc (Nat.le_refl _) _
  have HBX : Hid (Below w.heap.size w X) := hBX
  have HAX : Hid (At3 X w.heap.size 25 (.slice aL nL cL) (.slice aS nS cS) (.slice aO nO cO)) := by rw [hX]; exact At3.new _ _ _ _ _
  have c0 := HAX.out.c0
  have c1 := HAX.out.c1
  have c2 := HAX.out.c2
  rw [hX] at c0 c1 c2
  clear hX hL hS hO hin hnL hnS hnO hBX
  go_enter Tryz.func3, Tryz.ntmps3
  obtain ⟨sn, hsn⟩ : ∃ k, k = nm.size := ⟨_, rfl⟩
  obtain ⟨sd, hsd⟩ : ∃ k, k = dt.size := ⟨_, rfl⟩
  by_cases hbig : 1048576 < nm.size
  · have hb1 : ¬ (nm.size : Int) ≤ 1048576 := by omega
    have hb2 : (1048576 : Int) < (nm.size : Int) := by omega
    go_wp2
    go_ret
    exact ⟨rfl, by rw [← HX.out]; exact HBX.out⟩
  have hb1 : (nm.size : Int) ≤ 1048576 := by omega
  have hb2 : ¬ (1048576 : Int) < (nm.size : Int) := by omega
  by_cases hbigd : 1048576 < dt.size
  · have hb3 : ¬ (dt.size : Int) ≤ 1048576 := by omega
    have hb4 : (1048576 : Int) < (dt.size : Int) := by omega
    go_wp2
    go_ret
    exact ⟨rfl, by rw [← HX.out]; exact HBX.out⟩
  have hb3 : (dt.size : Int) ≤ 1048576 := by omega
  have hb4 : ¬ (1048576 : Int) < (dt.size : Int) := by omega
  have HKZ : Hid (nm.size ≤ 10000000 ∧ dt.size ≤ 10000000) := ⟨by omega, by omega⟩
  clear hsn hsd sn sd
  go_wp2_with fail
  rw [← HX.out]
  have hAX := HA.out X HBX.out
  refine (szDisk2_any _ _ _ L S O X hAX.1 hAX.2.1 hAX.2.2 HI.out).mono ?_
  rintro e w1 ⟨r, rfl, hr, hB1⟩
  have HB1 : Hid (Below X.heap.size X w1) := hB1
  have HW1 : Hid (Below w.heap.size w w1) := HBX.out.trans (hB1.mono HBX.out.size)
  have HA1 : Hid (At3 w1 w.heap.size 25 (.slice aL nL cL) (.slice aS nS cS) (.slice aO nO cO)) := HAX.out.below hB1
  clear c0 c1 c2 HX hAX hB1
  rcases hr with hr | ⟨⟨hr, hrm⟩, hsm, hl1, hl2, hl3⟩
  · go_wp2
    go_ret
    exact ⟨rfl, HW1.out⟩
  have HZ : Hid (SmallD L S O) := hsm
  have HN : Hid (L.length ≤ 1048576 ∧ S.length ≤ 1048576 ∧ O.length ≤ 1048576) := ⟨hl1, hl2, hl3⟩
  clear hsm hl1 hl2 hl3 hrm
  obtain ⟨CC, hCC⟩ : ∃ C, C = rpC L S O nm dt := ⟨_, rfl⟩
  obtain ⟨AL, hAL⟩ : ∃ A, A = rpL L S O nm dt := ⟨_, rfl⟩
  obtain ⟨AS, hAS⟩ : ∃ A, A = rpS L S O := ⟨_, rfl⟩
  obtain ⟨AO, hAO⟩ : ∃ A, A = rpO L S O nm dt := ⟨_, rfl⟩
  have HSP : Hid (∀ wy u1 u2 u3, RdD wy u1 u2 u3 L S O → Calls Tryz.prog 5 #[.agg #[u1, u2, u3], .string nm, .string dt] wy fun e w' => ∃ x y z, e = .returned (.tuple #[.agg #[x, y, z], .int .i64 (CC : Int)]) ∧ RdD w' x y z AL AS AO ∧ Below wy.heap.size wy w') := fun wy u1 u2 u3 h => by
    rw [hCC, hAL, hAS, hAO]
    exact specReplace_any u1 u2 u3 L S O nm dt wy h HZ.out HN.out HKZ.out.1 HKZ.out.2
  have HIM : Hid (∀ wy u1 u2 u3, RdD wy u1 u2 u3 L S O → NzO u3 → Calls Tryz.prog 7 #[.agg #[u1, u2, u3], .string nm, .string dt] wy fun e w' => ∃ x y z, e = .returned (.tuple #[.agg #[x, y, z], .int .i64 (CC : Int)]) ∧ RdD w' x y z AL AS AO ∧ OwD w' wy.heap.size x y z AL.length AS.length AO.length ∧ Below wy.heap.size wy w') := fun wy u1 u2 u3 h hk => by
    rw [hCC, hAL, hAS, hAO]
    exact implReplace_any u1 u2 u3 L S O nm dt wy h hk HZ.out HN.out HKZ.out.1 HKZ.out.2
  have HLEN : Hid (AL.length ≤ 1048576 ∧ AS.length ≤ 1048576 ∧ AO.length ≤ 1048576) := by
    rw [hAL, hAS, hAO]
    exact rp_lens nm dt HN.out
  clear hCC hAL hAS hAO hb1 hb2 hb3 hb4 hbig hbigd
  have c0 := HA1.out.c0
  have c1 := HA1.out.c1
  have c2 := HA1.out.c2
  -- w0, w1
  go_wp2_with fail
  refine (toDisk_any _ _ _ L S O w1 (HA.out w1 HW1.out).1 (HA.out w1 HW1.out).2.1 (HA.out w1 HW1.out).2.2 HN.out.1 HN.out.2.1 HN.out.2.2).mono ?_
  rintro e y1 ⟨u1, u2, u3, rfl, hu1, hu2, hu3, hBy1⟩
  have HUY : Hid (RdD y1 _ _ _ L S O) := ⟨hu1, hu2, hu3⟩
  have HBY1 : Hid (Below w1.heap.size w1 y1) := hBy1
  have HWY1 : Hid (Below w.heap.size w y1) := HW1.out.trans (hBy1.mono HW1.out.size)
  clear c0 c1 c2 hu1 hu2 hu3 hBy1
  go_wp2_with fail
  refine (HSP.out y1 _ _ _ HUY.out).mono ?_
  rintro e y3 ⟨p1, p2, p3, rfl, hp3, hBy3⟩
  obtain ⟨ap1, cp1, ap2, cp2, ap3, cp3, e1, e2, e3⟩ := hp3.slices
  obtain ⟨mA, hmA⟩ : ∃ m, m = AL.length := ⟨_, rfl⟩
  obtain ⟨mS, hmS⟩ : ∃ m, m = AS.length := ⟨_, rfl⟩
  obtain ⟨mO, hmO⟩ : ∃ m, m = AO.length := ⟨_, rfl⟩
  rw [← hmA] at e1
  rw [← hmS] at e2
  rw [← hmO] at e3
  subst e1 e2 e3
  have HMM : Hid (mA = AL.length ∧ mS = AS.length ∧ mO = AO.length) := ⟨hmA, hmS, hmO⟩
  have HBY3 : Hid (Below w1.heap.size w1 y3) := HBY1.out.trans (hBy3.mono HBY1.out.size)
  obtain ⟨w3, hw3⟩ : ∃ X5, X5 = y3.alloc (.cells #[.slice ap1 mA cp1, .slice ap2 mS cp2, .slice ap3 mO cp3] 30) := ⟨_, rfl⟩
  have HW3E := (show Hid _ from hw3)
  have hb3 : Below y3.heap.size y3 w3 := by rw [hw3]; exact (Below.refl _ _).alloc (Nat.le_refl _) _
  have HP3 : Hid (RdD w3 (.slice ap1 mA cp1) (.slice ap2 mS cp2) (.slice ap3 mO cp3) AL AS AO) := hp3.below hb3
  have HQ3 : Hid (At3 w3 y3.heap.size 30 (.slice ap1 mA cp1) (.slice ap2 mS cp2) (.slice ap3 mO cp3)) := by rw [hw3]; exact At3.new _ _ _ _ _
  have HB3 : Hid (Below w1.heap.size w1 w3) := HBY3.out.trans (hb3.mono HBY3.out.size)
  have HW3 : Hid (Below w.heap.size w w3) := HW1.out.trans (HB3.out.mono HW1.out.size)
  have HA3 : Hid (At3 w3 w.heap.size 25 (.slice aL nL cL) (.slice aS nS cS) (.slice aO nO cO)) := HA1.out.below HB3.out
  have c0 := HA3.out.c0
  have c1 := HA3.out.c1
  have c2 := HA3.out.c2
  rw [hw3] at c0 c1 c2
  clear hp3 hmA hmS hmO hBy3 hb3 hw3 HUY HBY1 HWY1
  -- x0
  go_wp2_with fail
  rw [← HW3E.out]
  refine (toDisk_own _ _ _ L S O w3 (HA.out w3 HW3.out).1 (HA.out w3 HW3.out).2.1 (HA.out w3 HW3.out).2.2 HN.out.1 HN.out.2.1 HN.out.2.2).mono ?_
  rintro e w5 ⟨x1, x2, x3, rfl, hx1, hx2, hx3, ⟨ho1, ho2, ho3, hox⟩, hB5⟩
  rw [← HE.out.1] at hx1 ho1
  rw [← HE.out.2.1] at hx2 ho2
  rw [← HE.out.2.2] at hx3 ho3
  rw [← HE.out.1, ← HE.out.2.1, ← HE.out.2.2]
  have HW5 : Hid (Below w.heap.size w w5) := HW3.out.trans (hB5.mono HW3.out.size)
  have hox5 : OwD w5 w3.heap.size (.slice (some ⟨x1, 0, none⟩) nL nL) (.slice (some ⟨x2, 0, none⟩) nS nS) (.slice (some ⟨x3, 0, none⟩) nO nO) nL nS nO := ⟨ho1, ho2, ho3, fun b hb e => hox (Option.some.inj (hb.trans e.symm))⟩
  have hrx5 : RdD w5 (.slice (some ⟨x1, 0, none⟩) nL nL) (.slice (some ⟨x2, 0, none⟩) nS nS) (.slice (some ⟨x3, 0, none⟩) nO nO) L S O := ⟨hx1, hx2, hx3⟩
  obtain ⟨X6, hX6⟩ : ∃ X6, X6 = w5.alloc (.cells #[.slice (some ⟨x1, 0, none⟩) nL nL, .slice (some ⟨x2, 0, none⟩) nS nS, .slice (some ⟨x3, 0, none⟩) nO nO] 30) := ⟨_, rfl⟩
  have hB6 : Below w5.heap.size w5 X6 := by rw [hX6]; exact (Below.refl _ _).alloc (Nat.le_refl _) _
  have HX6 := (show Hid _ from hX6)
  have HS35 : Hid (w3.heap.size ≤ w5.heap.size) := hB5.size
  have HB36 : Hid (Below w3.heap.size w3 X6) := hB5.trans (hB6.mono hB5.size)
  have HW6 : Hid (Below w.heap.size w X6) := HW5.out.trans (hB6.mono HW5.out.size)
  have HT6 : Hid (At3 X6 w5.heap.size 30 (.slice (some ⟨x1, 0, none⟩) nL nL) (.slice (some ⟨x2, 0, none⟩) nS nS) (.slice (some ⟨x3, 0, none⟩) nO nO)) := by rw [hX6]; exact At3.new _ _ _ _ _
  have HO6 : Hid (OwD X6 w3.heap.size (.slice (some ⟨x1, 0, none⟩) nL nL) (.slice (some ⟨x2, 0, none⟩) nS nS) (.slice (some ⟨x3, 0, none⟩) nO nO) nL nS nO) := hox5.below hB6
  have HY6 : Hid (RdD X6 (.slice (some ⟨x1, 0, none⟩) nL nL) (.slice (some ⟨x2, 0, none⟩) nS nS) (.slice (some ⟨x3, 0, none⟩) nO nO) L S O) := hrx5.below hB6
  have HLX : Hid (∀ b, (Value.slice (some ⟨x1, 0, none⟩) nL nL).ownBlock = some b ∨ (Value.slice (some ⟨x2, 0, none⟩) nS nS).ownBlock = some b ∨ (Value.slice (some ⟨x3, 0, none⟩) nO nO).ownBlock = some b → w3.heap.size ≤ b ∧ b < w5.heap.size) := fun b hb => by
    rcases hb with hb | hb | hb
    · exact hox5.l.lt b hb
    · exact hox5.s.lt b hb
    · exact hox5.o.lt b hb
  clear c0 c1 c2 hX6 hB6 hx1 hx2 hx3 ho1 ho2 ho3 hox hox5 hrx5 hB5 HW3E
  have d0 := HT6.out.c0
  have d1 := HT6.out.c1
  have d2 := HT6.out.c2
  rw [HX6.out] at d0 d1 d2
  -- g0, g1
  go_wp2_with fail
  rw [← HX6.out]
  refine (HIM.out X6 _ _ _ HY6.out (.inr ⟨_, _, _, rfl⟩)).mono ?_
  rintro e y7 ⟨p1, p2, p3, rfl, hp7, how7, hBy7⟩
  obtain ⟨ag1, cg1, ag2, cg2, ag3, cg3, e1, e2, e3⟩ := hp7.slices
  rw [← HMM.out.1] at e1 how7
  rw [← HMM.out.2.1] at e2 how7
  rw [← HMM.out.2.2] at e3 how7
  subst e1 e2 e3
  obtain ⟨w7, hw7⟩ : ∃ X5, X5 = y7.alloc (.cells #[.slice ag1 mA cg1, .slice ag2 mS cg2, .slice ag3 mO cg3] 30) := ⟨_, rfl⟩
  have HW7E := (show Hid _ from hw7)
  have hb7 : Below y7.heap.size y7 w7 := by rw [hw7]; exact (Below.refl _ _).alloc (Nat.le_refl _) _
  have HBD : Hid (Below X6.heap.size X6 w7) := hBy7.trans (hb7.mono hBy7.size)
  have HB37 : Hid (Below w3.heap.size w3 w7) := HB36.out.trans (HBD.out.mono HB36.out.size)
  have HW7 : Hid (Below w.heap.size w w7) := HW6.out.trans (HBD.out.mono HW6.out.size)
  have HT7 : Hid (At3 w7 w5.heap.size 30 (.slice (some ⟨x1, 0, none⟩) nL nL) (.slice (some ⟨x2, 0, none⟩) nS nS) (.slice (some ⟨x3, 0, none⟩) nO nO)) := HT6.out.below HBD.out
  have HO7 : Hid (OwD w7 w3.heap.size (.slice (some ⟨x1, 0, none⟩) nL nL) (.slice (some ⟨x2, 0, none⟩) nS nS) (.slice (some ⟨x3, 0, none⟩) nO nO) nL nS nO) := HO6.out.below HBD.out
  have HY7 : Hid (RdD w7 (.slice (some ⟨x1, 0, none⟩) nL nL) (.slice (some ⟨x2, 0, none⟩) nS nS) (.slice (some ⟨x3, 0, none⟩) nO nO) L S O) := HY6.out.below HBD.out
  have HG7 : Hid (RdD w7 (.slice ag1 mA cg1) (.slice ag2 mS cg2) (.slice ag3 mO cg3) AL AS AO) := hp7.below hb7
  have HD7 : Hid (OwD w7 X6.heap.size (.slice ag1 mA cg1) (.slice ag2 mS cg2) (.slice ag3 mO cg3) mA mS mO) := how7.below hb7
  obtain ⟨bg, hbg⟩ : ∃ bg, bg = y7.heap.size := ⟨_, rfl⟩
  have HV7 : Hid (At3 w7 bg 30 (.slice ag1 mA cg1) (.slice ag2 mS cg2) (.slice ag3 mO cg3)) := by rw [hw7, hbg]; exact At3.new _ _ _ _ _
  have HP7 : Hid (RdD w7 (.slice ap1 mA cp1) (.slice ap2 mS cp2) (.slice ap3 mO cp3) AL AS AO) := HP3.out.below HB37.out
  have HQ7 : Hid (At3 w7 y3.heap.size 30 (.slice ap1 mA cp1) (.slice ap2 mS cp2) (.slice ap3 mO cp3)) := HQ3.out.below HB37.out
  have HA7 : Hid (At3 w7 w.heap.size 25 (.slice aL nL cL) (.slice aS nS cS) (.slice aO nO cO)) := HA3.out.below HB37.out
  have HSZ : Hid (w3.heap.size ≤ w5.heap.size ∧ w5.heap.size < X6.heap.size ∧ X6.heap.size ≤ bg) := ⟨HS35.out, HT6.out.lt, by rw [hbg]; exact hBy7.size⟩
  have HBG := (show Hid _ from hbg)
  have c0 := HQ7.out.c0
  have c1 := HQ7.out.c1
  have c2 := HQ7.out.c2
  have f0 := HV7.out.c0
  have f1 := HV7.out.c1
  have f2 := HV7.out.c2
  rw [hw7] at c0 c1 c2
  rw [hw7, hbg] at f0 f1 f2
  clear hp7 how7 hBy7 hb7 hw7 hbg d0 d1 d2
  go_wp2_with fail
  rw [← HW7E.out]
  refine (eqDisk_same _ _ _ _ _ _ AL AS AO w7 HG7.out.1 HG7.out.2.1 HG7.out.2.2 HP7.out.1 HP7.out.2.1 HP7.out.2.2).mono ?_
  rintro e w9 ⟨rfl, hB9⟩
  rw [← HBG.out]
  have HB9 : Hid (Below w7.heap.size w7 w9) := hB9
  have hcc : ((CC : Int) != (CC : Int)) = false := by simp
  clear c0 c1 c2 f0 f1 f2 hB9 HW7E HBG
  -- is the argument as it was?
  have HBQ : Hid (Below w.heap.size w w9) := HW7.out.trans (HB9.out.mono HW7.out.size)
  have HCQ : Hid (∀ wy, Below w9.heap.size w9 wy → wy.cell? ⟨w5.heap.size, 0, none⟩ = some (.slice (some ⟨x1, 0, none⟩) nL nL) ∧ wy.cell? ⟨w5.heap.size, 1, none⟩ = some (.slice (some ⟨x2, 0, none⟩) nS nS) ∧ wy.cell? ⟨w5.heap.size, 2, none⟩ = some (.slice (some ⟨x3, 0, none⟩) nO nO) ∧ wy.cell? ⟨w.heap.size, 0, none⟩ = some (.slice aL nL cL) ∧ wy.cell? ⟨w.heap.size, 1, none⟩ = some (.slice aS nS cS) ∧ wy.cell? ⟨w.heap.size, 2, none⟩ = some (.slice aO nO cO)) := fun wy hy => by
    have h8 := HB9.out.trans (hy.mono HB9.out.size)
    exact ⟨(HT7.out.below h8).c0, (HT7.out.below h8).c1, (HT7.out.below h8).c2, (HA7.out.below h8).c0, (HA7.out.below h8).c1, (HA7.out.below h8).c2⟩
  have HXQ : Hid (∀ wy, Below w9.heap.size w9 wy → RdD wy (.slice (some ⟨x1, 0, none⟩) nL nL) (.slice (some ⟨x2, 0, none⟩) nS nS) (.slice (some ⟨x3, 0, none⟩) nO nO) L S O) := fun wy hy => HY7.out.below (HB9.out.trans (hy.mono HB9.out.size))
  go_wp2
  refine wp_cut_to (fun a0 t w' => ∃ f, t = canon a0 dsT f ∧ f 59 = .bool false ∧ Below w9.heap.size w9 w') ?_ ?_
  rotate_left
  · intro J K' hJ hK
    refine wp_letter ?_
    intro fr hfr
    have hs7 : 59 < fr.tmps.size := by rw [hfr]; exact Nat.le_of_ble_eq_true rfl
    have t5 : fr.eval (.tmp 10) = .pointer (some ⟨w5.heap.size, 0, none⟩) := by rw [hfr]; rfl
    have t1 : fr.eval (.tmp 3) = .pointer (some ⟨w.heap.size, 0, none⟩) := by rw [hfr]; rfl
    have HFR := (show Hid _ from hfr)
    clear hfr
    refine wp_region_rel (Rel := fun v v' => Below v.heap.size v v') (fun v => Below.refl _ _) (fun h k => h.trans (k.mono h.size)) (fun v => (Below.refl _ _).drew) (by kernel_rfl) (by kernel_rfl) dsT slotT (QF (.agg #[.slice (some ⟨x1, 0, none⟩) nL nL, .slice (some ⟨x2, 0, none⟩) nS nS, .slice (some ⟨x3, 0, none⟩) nO nO]) (.agg #[.slice aL nL cL, .slice aS nS cS, .slice aO nO cO]) L S O) (fun _ _ _ _ h hB => h.below hB) ?_ ?_ ?_ ?_
    · intro i hi
      exact slotT_mem i hi
    · intro i j hi hj q
      exact slotT_inj i j hi hj q
    · intro ops hops f wy j oo hy ho hd
      have ho2 := ho
      rw [hops] at ho
      have N1 := (canon_eval_ne fr dsT f 3 (by decide)).trans t1
      have N5 := (canon_eval_ne fr dsT f 10 (by decide)).trans t5
      have hi : j < 5 := by
        rcases Nat.lt_or_ge j 5 with h | h
        · exact h
        · rw [Array.getElem?_eq_none (by simpa using h)] at ho; cases ho
      have hi' : j = 0 ∨ j = 1 ∨ j = 2 ∨ j = 3 ∨ j = 4 := by omega
      rcases hi' with rfl | rfl | rfl | rfl | rfl <;> simp only [List.getElem?_toArray, List.getElem?_cons_succ, List.getElem?_cons_zero, Option.some.injEq] at ho <;> subst ho
      · refine wpOp_runG ho2 (wanted_none rfl) (q_load31 (canon fr dsT f).eval _ wy _ w5.heap.size rfl N5 (HCQ.out wy hy).1 (HCQ.out wy hy).2.1 (HCQ.out wy hy).2.2.1) ?_
        exact ⟨_, rfl, rfl, Below.refl _ _⟩
      · refine wpOp_runG ho2 (wanted_none rfl) (q_load25 (canon fr dsT f).eval _ wy _ w.heap.size rfl N1 (HCQ.out wy hy).2.2.2.1 (HCQ.out wy hy).2.2.2.2.1 (HCQ.out wy hy).2.2.2.2.2) ?_
        exact ⟨_, rfl, rfl, Below.refl _ _⟩
      · refine wpOp_enterG ho2 (wanted_none rfl) (q_call1I (canon fr dsT f).eval _ wy _ HEN1.out _ _ rfl rfl) ?_
        rw [(canon_eval fr dsT f 56 (by decide) (Nat.lt_of_le_of_lt (by decide) hs7)).trans (hd ⟨1, .data⟩ (by simp) rfl)]
        refine (toDisk_any _ _ _ L S O wy (HA.out wy (HBQ.out.trans (hy.mono HBQ.out.size))).1 (HA.out wy (HBQ.out.trans (hy.mono HBQ.out.size))).2.1 (HA.out wy (HBQ.out.trans (hy.mono HBQ.out.size))).2.2 HN.out.1 HN.out.2.1 HN.out.2.2).mono ?_
        rintro e wz ⟨u1, u2, u3, rfl, hu1, hu2, hu3, hBz⟩
        exact ⟨_, rfl, _, rfl, ⟨_, _, _, rfl, hu1, hu2, hu3⟩, hBz⟩
      · obtain ⟨u1, u2, u3, hu, hu1, hu2, hu3⟩ := hd ⟨2, .data⟩ (by simp) rfl
        refine wpOp_enterG ho2 (wanted_none rfl) (q_call2 (canon fr dsT f).eval _ wy _ HEN2.out _ _ _ rfl rfl) ?_
        rw [(canon_eval fr dsT f 55 (by decide) (Nat.lt_of_le_of_lt (by decide) hs7)).trans (hd ⟨0, .data⟩ (by simp) rfl), (canon_eval fr dsT f 57 (by decide) (Nat.lt_of_le_of_lt (by decide) hs7)).trans hu]
        refine (eqDisk_same _ _ _ u1 u2 u3 L S O wy (HXQ.out wy hy).1 (HXQ.out wy hy).2.1 (HXQ.out wy hy).2.2 hu1 hu2 hu3).mono ?_
        rintro e wz ⟨rfl, hBz⟩
        exact ⟨_, rfl, _, rfl, rfl, hBz⟩
      · refine wpOp_runG ho2 (wanted_none rfl) (q_notI (canon fr dsT f).eval _ wy _ true rfl ((canon_eval fr dsT f 58 (by decide) (Nat.lt_of_le_of_lt (by decide) hs7)).trans (hd ⟨3, .data⟩ (by simp) rfl))) ?_
        exact ⟨_, rfl, rfl, Below.refl _ _⟩
    · intro f wy hy hall
      exact hK _ _ (Met.intro (hJ _ _ ⟨f, congrArg (fun z => canon z dsT f) HFR.out, hall 4 (by decide), hy⟩))

  rintro _ w10 ⟨f, rfl, h10, hB10⟩
  simp only [canon, dsT, List.foldl, Act.put, List.setIfInBounds_toArray, List.set_cons_succ, List.set_cons_zero]
  rw [h10]
  have HB10 : Hid (Below w7.heap.size w7 w10) := HB9.out.trans (hB10.mono HB9.out.size)
  have HW10 : Hid (Below w.heap.size w w10) := HW7.out.trans (HB10.out.mono HW7.out.size)
  clear h10 hB10
  -- marks on the arguments
  have d0 := (HT7.out.below HB10.out).c0
  have d1 := (HT7.out.below HB10.out).c1
  have d2 := (HT7.out.below HB10.out).c2
  go_wp2_with fail
  refine (markDisk_any w3.heap.size _ _ _ nL nS nO 1 w10 (HO7.out.below HB10.out) (by omega) (by have := HN.out; have := HE.out; omega)).mono ?_
  rintro e wk ⟨rfl, _, hKk⟩
  clear d0 d1 d2
  have hsz7 := HSZ.out
  have HXK : Hid (Below w3.heap.size w3 wk ∧ w10.heap.size ≤ wk.heap.size) := by
    have hb : Below w3.heap.size w3 w10 := HB37.out.trans (HB10.out.mono HB37.out.size)
    refine ⟨⟨hKk.os.trans hb.os, hKk.tape.trans hb.tape, hKk.output.trans hb.output, Nat.le_trans hb.size hKk.size, fun b hb' => ?_⟩, hKk.size⟩
    have hbs := hb.size
    refine (hKk.block b (by omega) ⟨fun e => ?_, fun e => ?_, fun e => ?_⟩).trans (hb.block b hb')
    · have := HLX.out b (.inl e); omega
    · have := HLX.out b (.inr (.inl e)); omega
    · have := HLX.out b (.inr (.inr e)); omega
  have hkj : ∀ b, X6.heap.size ≤ b → b < w10.heap.size → wk.heap[b]? = w10.heap[b]? := fun b h1 h2 => by
    refine hKk.block b h2 ⟨fun e => ?_, fun e => ?_, fun e => ?_⟩
    · have := HLX.out b (.inl e); omega
    · have := HLX.out b (.inr (.inl e)); omega
    · have := HLX.out b (.inr (.inr e)); omega
  have hkg := hkj
  have HX411 : Hid (Below w3.heap.size w3 wk) := HXK.out.1
  have hjs : w10.heap.size ≤ wk.heap.size := HXK.out.2
  obtain ⟨K2, hK2⟩ : ∃ K2, K2 = 1 + nL * 2 + nS * 2 + nO * 4 := ⟨_, rfl⟩
  rw [← hK2]
  have HV11 : Hid (At3 wk bg 30 (.slice ag1 mA cg1) (.slice ag2 mS cg2) (.slice ag3 mO cg3)) := (hkg _ HSZ.out.2.2 (HV7.out.below HB10.out).lt).trans (HV7.out.below HB10.out)
  have HG11 : Hid (RdD wk (.slice ag1 mA cg1) (.slice ag2 mS cg2) (.slice ag3 mO cg3) AL AS AO) := (HG7.out.below HB10.out).own (HD7.out.below HB10.out) hjs hkg
  have HD11 : Hid (OwD wk X6.heap.size (.slice ag1 mA cg1) (.slice ag2 mS cg2) (.slice ag3 mO cg3) mA mS mO) := (HD7.out.below HB10.out).kept hkg
  have HP11 : Hid (RdD wk (.slice ap1 mA cp1) (.slice ap2 mS cp2) (.slice ap3 mO cp3) AL AS AO) := HP3.out.below HX411.out
  have HQ11 : Hid (At3 wk y3.heap.size 30 (.slice ap1 mA cp1) (.slice ap2 mS cp2) (.slice ap3 mO cp3)) := HQ3.out.below HX411.out
  have hKd : decide ((K2 : Int) < 0) = false := decide_eq_false (by omega)
  have hKn : ¬ ((K2 : Int) < 0) := by omega
  clear hkg hkj hKk hK2 hsz7 hjs
  have c0 := HQ11.out.c0
  have c1 := HQ11.out.c1
  have c2 := HQ11.out.c2
  have d0 := HV11.out.c0
  have d1 := HV11.out.c1
  have d2 := HV11.out.c2
  go_wp2_with fail
  refine (eqDisk_same _ _ _ _ _ _ AL AS AO wk HG11.out.1 HG11.out.2.1 HG11.out.2.2 HP11.out.1 HP11.out.2.1 HP11.out.2.2).mono ?_
  rintro e w12 ⟨rfl, hB12⟩
  have HV12 : Hid (At3 w12 bg 30 (.slice ag1 mA cg1) (.slice ag2 mS cg2) (.slice ag3 mO cg3)) := HV11.out.below hB12
  have HD12 : Hid (OwD w12 X6.heap.size (.slice ag1 mA cg1) (.slice ag2 mS cg2) (.slice ag3 mO cg3) mA mS mO) := HD11.out.below hB12
  have HX412 : Hid (Below w3.heap.size w3 w12) := HX411.out.trans (hB12.mono HX411.out.size)
  clear c0 c1 c2 d0 d1 d2 hB12 hKd hKn
  -- marks on the answer
  have d0 := HV12.out.c0
  have d1 := HV12.out.c1
  have d2 := HV12.out.c2
  go_wp2_with fail
  refine (markDisk_any X6.heap.size _ _ _ mA mS mO 1 w12 HD12.out (by omega) (by have := HLEN.out; have := HMM.out; omega)).mono ?_
  rintro e w13 ⟨rfl, hm13, hK13⟩
  have hap := HV12.out.apart HD12.out
  have HX413 : Hid (Below w3.heap.size w3 w13) := by
    have hb := HX412.out
    have hsz := HSZ.out
    refine ⟨hK13.os.trans hb.os, hK13.tape.trans hb.tape, hK13.output.trans hb.output, Nat.le_trans hb.size hK13.size, fun b hb' => ?_⟩
    have hbs := hb.size
    refine (hK13.block b (by omega) ⟨fun e => ?_, fun e => ?_, fun e => ?_⟩).trans (hb.block b hb')
    · have := (HD12.out.l.lt b e).1; omega
    · have := (HD12.out.s.lt b e).1; omega
    · have := (HD12.out.o.lt b e).1; omega
  have HV13 : Hid (At3 w13 bg 30 (.slice ag1 mA cg1) (.slice ag2 mS cg2) (.slice ag3 mO cg3)) :=
    (hK13.block _ HV12.out.lt ⟨fun e => hap _ (.inl e) rfl, fun e => hap _ (.inr (.inl e)) rfl, fun e => hap _ (.inr (.inr e)) rfl⟩).trans HV12.out
  have HM13 : Hid (RdD w13 (.slice ag1 mA cg1) (.slice ag2 mS cg2) (.slice ag3 mO cg3) (mkF 1 mA) (mkF (1 + mA * 2) mS) (mkO (1 + mA * 2 + mS * 2) mO)) := hm13
  have HNR : Hid (1 + mA * 2 + mS * 2 + mO * 4 ≤ 1152921504606846976) := by show _ ≤ _; have := HLEN.out; have := HMM.out; omega
  obtain ⟨T, hT⟩ : ∃ T, T = 1 + mA * 2 + mS * 2 + mO * 4 := ⟨_, rfl⟩
  have HT : Hid (T = 1 + mA * 2 + mS * 2 + mO * 4) := hT
  rw [← hT]
  have hTd : decide ((T : Int) < 0) = false := decide_eq_false (by omega)
  have hTT : ((T : Int) != (T : Int)) = false := by simp
  clear d0 d1 d2 hm13 hK13 hT hap
  -- are they held?
  have d0 := HV13.out.c0
  have d1 := HV13.out.c1
  have d2 := HV13.out.c2
  go_wp2_with fail
  refine (heldDisk_any _ _ _ mA mS mO 1 w13 HM13.out (by omega) HNR.out).mono ?_
  rintro e w14 ⟨rfl, hB14⟩
  rw [← HT.out]
  have HX414 : Hid (Below w3.heap.size w3 w14) := HX413.out.trans (hB14.mono HX413.out.size)
  have HV14 : Hid (At3 w14 bg 30 (.slice ag1 mA cg1) (.slice ag2 mS cg2) (.slice ag3 mO cg3)) := HV13.out.below hB14
  have HM14 : Hid (RdD w14 (.slice ag1 mA cg1) (.slice ag2 mS cg2) (.slice ag3 mO cg3) (mkF 1 mA) (mkF (1 + mA * 2) mS) (mkO (1 + mA * 2 + mS * 2) mO)) := HM13.out.below hB14
  have HW14 : Hid (Below w.heap.size w w14) := HW3.out.trans (HX414.out.mono HW3.out.size)
  have HA14 : Hid (At3 w14 w.heap.size 25 (.slice aL nL cL) (.slice aS nS cS) (.slice aO nO cO)) := HA3.out.below HX414.out
  clear d0 d1 d2 hB14
  -- once more
  have c0 := HA14.out.c0
  have c1 := HA14.out.c1
  have c2 := HA14.out.c2
  go_wp2_with fail
  refine (toDisk_any _ _ _ L S O w14 (HA.out w14 HW14.out).1 (HA.out w14 HW14.out).2.1 (HA.out w14 HW14.out).2.2 HN.out.1 HN.out.2.1 HN.out.2.2).mono ?_
  rintro e z1 ⟨v1, v2, v3, rfl, hv1, hv2, hv3, hBz1⟩
  have HUZ : Hid (RdD z1 _ _ _ L S O) := ⟨hv1, hv2, hv3⟩
  have HBZ1 : Hid (Below w14.heap.size w14 z1) := hBz1
  have HWZ1 : Hid (Below w.heap.size w z1) := HW14.out.trans (hBz1.mono HW14.out.size)
  clear c0 c1 c2 hv1 hv2 hv3 hBz1
  go_wp2_with fail
  refine (HIM.out z1 _ _ _ HUZ.out (.inr ⟨_, _, _, rfl⟩)).mono ?_
  rintro e z3 ⟨p1, p2, p3, rfl, hp17, _, hBz3⟩
  obtain ⟨ah1, ch1, ah2, ch2, ah3, ch3, e1, e2, e3⟩ := hp17.slices
  rw [← HMM.out.1] at e1
  rw [← HMM.out.2.1] at e2
  rw [← HMM.out.2.2] at e3
  subst e1 e2 e3
  have HBZ3 : Hid (Below w14.heap.size w14 z3) := HBZ1.out.trans (hBz3.mono HBZ1.out.size)
  obtain ⟨w17, hw17⟩ : ∃ X5, X5 = z3.alloc (.cells #[.slice ah1 mA ch1, .slice ah2 mS ch2, .slice ah3 mO ch3] 30) := ⟨_, rfl⟩
  have HW17E := (show Hid _ from hw17)
  have hb17 : Below z3.heap.size z3 w17 := by rw [hw17]; exact (Below.refl _ _).alloc (Nat.le_refl _) _
  have HB17 : Hid (Below w14.heap.size w14 w17) := HBZ3.out.trans (hb17.mono HBZ3.out.size)
  have HX417 : Hid (Below w3.heap.size w3 w17) := HX414.out.trans (HB17.out.mono HX414.out.size)
  have HP17 : Hid (RdD w17 (.slice ap1 mA cp1) (.slice ap2 mS cp2) (.slice ap3 mO cp3) AL AS AO) := HP3.out.below HX417.out
  have HQ17 : Hid (At3 w17 y3.heap.size 30 (.slice ap1 mA cp1) (.slice ap2 mS cp2) (.slice ap3 mO cp3)) := HQ3.out.below HX417.out
  have HH17 : Hid (RdD w17 (.slice ah1 mA ch1) (.slice ah2 mS ch2) (.slice ah3 mO ch3) AL AS AO) := hp17.below hb17
  have HU17 : Hid (At3 w17 z3.heap.size 30 (.slice ah1 mA ch1) (.slice ah2 mS ch2) (.slice ah3 mO ch3)) := by rw [hw17]; exact At3.new _ _ _ _ _
  have HV17 : Hid (At3 w17 bg 30 (.slice ag1 mA cg1) (.slice ag2 mS cg2) (.slice ag3 mO cg3)) := HV14.out.below HB17.out
  have HM17 : Hid (RdD w17 (.slice ag1 mA cg1) (.slice ag2 mS cg2) (.slice ag3 mO cg3) (mkF 1 mA) (mkF (1 + mA * 2) mS) (mkO (1 + mA * 2 + mS * 2) mO)) := HM14.out.below HB17.out
  have c0 := HQ17.out.c0
  have c1 := HQ17.out.c1
  have c2 := HQ17.out.c2
  have d0 := HU17.out.c0
  have d1 := HU17.out.c1
  have d2 := HU17.out.c2
  rw [hw17] at c0 c1 c2 d0 d1 d2
  clear hp17 hBz3 hb17 hw17 HUZ
  go_wp2_with fail
  rw [← HW17E.out]
  refine (eqDisk_same _ _ _ _ _ _ AL AS AO w17 HH17.out.1 HH17.out.2.1 HH17.out.2.2 HP17.out.1 HP17.out.2.1 HP17.out.2.2).mono ?_
  rintro e w18 ⟨rfl, hB18⟩
  have HX418 : Hid (Below w3.heap.size w3 w18) := HX417.out.trans (hB18.mono HX417.out.size)
  have HV18 : Hid (At3 w18 bg 30 (.slice ag1 mA cg1) (.slice ag2 mS cg2) (.slice ag3 mO cg3)) := HV17.out.below hB18
  have HM18 : Hid (RdD w18 (.slice ag1 mA cg1) (.slice ag2 mS cg2) (.slice ag3 mO cg3) (mkF 1 mA) (mkF (1 + mA * 2) mS) (mkO (1 + mA * 2 + mS * 2) mO)) := HM17.out.below hB18
  clear c0 c1 c2 d0 d1 d2 hB18
  have d0 := HV18.out.c0
  have d1 := HV18.out.c1
  have d2 := HV18.out.c2
  go_wp2_with fail
  refine (heldDisk_any _ _ _ mA mS mO 1 w18 HM18.out (by omega) HNR.out).mono ?_
  rintro e w19 ⟨rfl, hB19⟩
  rw [← HT.out]
  have HX419 : Hid (Below w3.heap.size w3 w19) := HX418.out.trans (hB19.mono HX418.out.size)
  clear d0 d1 d2 hB19
  go_wp2
  go_ret
  exact ⟨rfl, HW3.out.trans (HX419.out.mono HW3.out.size)⟩
end Go.Proofs.YtmcojfmkmibjpaaGreat
