/-
  A region that draws its order, whose operations only read old memory and whose calls leave old memory as it was, is walked once, in the order of the text.
-/
import Derived.Test.YtdohjinlgoadoaaEqs
namespace Go.Proofs.Ytdohjinlgoadoaa
open Go.RowKit

/-- a world behind w in which all that lay in w lies as it lay -/
structure Later (w : World) where
  val : World
  ok : Below w.heap.size w val

theorem Later.any (w : World) : Nonempty (Later w) := ⟨⟨w, Below.refl _ _⟩⟩

theorem Later.cell {w : World} (s : Later w) {b o : Nat} {v : Value} (h : w.cell? ⟨b, o, none⟩ = some v) : s.val.cell? ⟨b, o, none⟩ = some v := by
  have hb : b < w.heap.size := by
    rcases Nat.lt_or_ge b w.heap.size with h' | h'
    · exact h'
    · simp [World.cell?, Array.getElem?_eq_none h'] at h
  exact (s.ok.cell (p := ⟨b, o, none⟩) hb).trans h

theorem wp_region_later {P : Program} {id : Nat} {Q : Exit → Act → World → Prop} {a : Act} {w : World} {l : List Oper} (hm : P.follows .mixedOrders = true) (hB : Region.lexB .any l.toArray = true)
    (h : wpQuiet P l.toArray (fun w' => ∃ s : Later w, w' = s.val) (fun a' => ∀ w', (∃ s : Later w, w' = s.val) → Q .normal a' w') l a) : (Code.region id l.toArray true).wp P Q a w :=
  wp_region_quiet (C := fun w' => ∃ s : Later w, w' = s.val) hm hB ⟨⟨_, (Below.refl _ _).drew⟩, rfl⟩ (by simpa using h)

/-- a contract that leaves old memory alone, met in a later world -/
theorem Calls.later {P : Program} {f : FuncId} {args : Array Value} {w : World} {s : Later w} {v : Value}
    (h : Calls P f args s.val fun e w' => e = .returned v ∧ Below s.val.heap.size s.val w') : Calls P f args s.val fun e w'' => e = .returned v ∧ ∃ s' : Later w, w'' = s'.val :=
  h.mono fun _ w' ⟨he, hb⟩ => ⟨he, ⟨⟨w', s.ok.trans (hb.mono s.ok.size)⟩, rfl⟩⟩

end Go.Proofs.Ytdohjinlgoadoaa
