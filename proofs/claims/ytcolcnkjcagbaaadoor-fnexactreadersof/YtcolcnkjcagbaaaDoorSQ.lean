/-
  The specification's reader of terms as a plain function on its state, and its bounds. No condition.
-/
import Derived.Test.YtcolcnkjcagbaaaDoorSAdd
namespace Go.Proofs.YtcolcnkjcagbaaaDoor
open Go.RowKit
set_option linter.unusedVariables false

def sA : ByteArray := { data := #[97] }
def sK : ByteArray := { data := #[107] }
def sV : ByteArray := { data := #[118] }
def sH : ByteArray := { data := #[104, 40] }
def sP : ByteArray := { data := #[112, 40] }
def sE : ByteArray := { data := #[101, 40, 107] }
def sS : ByteArray := { data := #[115, 40, 107] }

/-- the value of what a term's call gives back, the place, bad, the nodes -/
structure Rs where
  v : Int
  j : Nat
  b : Bool
  l : List Nd

/-- behind want(p) -/
def Rs.want (s p : ByteArray) (r : Rs) : Rs := ⟨r.v, if !r.b && preB s r.j p then r.j + p.size else r.j, !(!r.b && preB s r.j p), r.l⟩
/-- behind add -/
def Rs.add (r : Rs) (x : Nd) : Rs := ⟨r.l.length, r.j, r.b, r.l ++ [x]⟩
/-- behind number -/
def Rs.num (s : ByteArray) (r : Rs) : Rs := ⟨(rdec (s.extract r.j (dEnd s r.j))).1, dEnd s r.j, r.b || !(rdec (s.extract r.j (dEnd s r.j))).2, r.l⟩

def qLeaf (s : ByteArray) (k : Int) (i : Nat) (l : List Nd) : Rs := (Rs.num s ⟨0, i + 1, false, l⟩).add (k, (Rs.num s ⟨0, i + 1, false, l⟩).v, 0, 0)

def qS (s : ByteArray) : Nat → Nat → Bool → List Nd → Rs
  | 0, i, _, l => ⟨0, i, true, l⟩
  | f + 1, i, b, l =>
    if b = true ∨ 40 < l.length then ⟨0, i, true, l⟩
    else if preB s i sA = true then qLeaf s 1 i l
    else if preB s i sK = true then qLeaf s 2 i l
    else if preB s i sV = true then qLeaf s 3 i l
    else if preB s i sH = true then
      ((qS s f (i + 2) false l).want s sRp).add (4, 0, (qS s f (i + 2) false l).v, 0)
    else if preB s i sP = true then
      let r1 := (qS s f (i + 2) false l).want s sCm
      let r2 := qS s f r1.j r1.b r1.l
      (r2.want s sRp).add (5, 0, r1.v, r2.v)
    else if preB s i sE = true ∨ preB s i sS = true then
      let r0 := Rs.num s ⟨0, i + 3, false, l⟩
      let r1 := r0.want s sCm
      let r2 := qS s f r1.j r1.b r1.l
      (r2.want s sRp).add (if preB s i sE = true then 6 else 7, r0.v, r2.v, 0)
    else ⟨0, i, true, l⟩

/-- where the reader stands is in the text, and there are no more nodes than signs were read, by c -/
def Rs.Ok (s : ByteArray) (i c : Nat) (r : Rs) : Prop := i ≤ r.j ∧ r.j ≤ s.size ∧ r.l.length + c ≤ r.j

theorem Rs.Ok.want {s p : ByteArray} {i c : Nat} {r : Rs} (h : r.Ok s i c) : (r.want s p).Ok s i c := by
  obtain ⟨h1, h2, h3⟩ := h
  unfold Rs.Ok Rs.want
  dsimp only
  split
  · rename_i hp
    have := preB_room h2 (by simp at hp; exact hp.2)
    exact ⟨by omega, by omega, by omega⟩
  · exact ⟨h1, h2, h3⟩

theorem Rs.Ok.add {s : ByteArray} {i c : Nat} {r : Rs} {x : Nd} (h : r.Ok s i (c + 1)) : (r.add x).Ok s i c := by
  obtain ⟨h1, h2, h3⟩ := h
  unfold Rs.Ok Rs.add
  dsimp only
  rw [List.length_append, List.length_singleton]
  exact ⟨h1, h2, by omega⟩

theorem Rs.Ok.num {s : ByteArray} {i c : Nat} {r : Rs} (h : r.Ok s i c) : (r.num s).Ok s i c := by
  obtain ⟨h1, h2, h3⟩ := h
  have := dEnd_is s r.j h2
  unfold Rs.Ok Rs.num
  dsimp only
  exact ⟨by have := this.1; omega, this.2.1, by have := this.1; omega⟩

theorem Rs.Ok.from {s : ByteArray} {i i' c : Nat} {r : Rs} (h : r.Ok s i c) (hi : i' ≤ i) : r.Ok s i' c := ⟨by have := h.1; omega, h.2.1, h.2.2⟩

theorem qLeaf_ok {s : ByteArray} {k : Int} {i c : Nat} {l : List Nd} (hi : i + 1 ≤ s.size) (hl : l.length + c ≤ i) : (qLeaf s k i l).Ok s i c := by
  unfold qLeaf
  exact Rs.Ok.add (Rs.Ok.num ⟨by dsimp only; omega, hi, by dsimp only; omega⟩)

theorem qS_ok {s : ByteArray} : ∀ (f i c : Nat) (b : Bool) (l : List Nd), i ≤ s.size → l.length + c ≤ i → (qS s f i b l).Ok s i c
  | 0, i, c, b, l, hi, hl => ⟨Nat.le_refl _, hi, hl⟩
  | f + 1, i, c, b, l, hi, hl => by
    have ih := fun i c b l => qS_ok (s := s) f i c b l
    unfold qS
    split
    · exact ⟨Nat.le_refl _, hi, hl⟩
    split
    · rename_i hp
      have := preB_room hi hp
      exact qLeaf_ok (this) hl
    split
    · rename_i hp
      have := preB_room hi hp
      exact qLeaf_ok (this) hl
    split
    · rename_i hp
      have := preB_room hi hp
      exact qLeaf_ok (this) hl
    split
    · rename_i hp
      have hr : i + 2 ≤ s.size := preB_room hi hp
      exact (((ih (i + 2) (c + 1) false l hr (by omega)).want).add).from (by omega)
    split
    · rename_i hp
      have hr : i + 2 ≤ s.size := preB_room hi hp
      have o1 := (ih (i + 2) (c + 1) false l hr (by omega)).want (p := sCm)
      exact (((ih _ (c + 1) _ _ o1.2.1 o1.2.2).want).add).from (by have := o1.1; omega)
    split
    · rename_i hp
      have hr : i + 3 ≤ s.size := by
        rcases hp with hp | hp
        · exact preB_room hi hp
        · exact preB_room hi hp
      have o0 : (Rs.num s ⟨0, i + 3, false, l⟩).Ok s (i + 3) (c + 1) := Rs.Ok.num ⟨Nat.le_refl _, hr, by dsimp only; omega⟩
      have o1 := o0.want (p := sCm)
      exact (((ih _ (c + 1) _ _ o1.2.1 o1.2.2).want).add).from (by have := o1.1; omega)
    · exact ⟨Nat.le_refl _, hi, hl⟩

end Go.Proofs.YtcolcnkjcagbaaaDoor
