/-
  The program's termAt, pairAt, termOfNodes, TermOk return what the plain search returns. No condition but that the slice reads.
-/
import Derived.Test.YtcolcnkjcagbaaaDoorTree
namespace Go.Proofs.YtcolcnkjcagbaaaDoor
open Go.RowKit
set_option linter.unusedVariables false

def tupOf : Option (Value × Int) → Value
  | none => .tuple #[.nilIface, .int .i64 0, .bool false]
  | some (v, x) => .tuple #[v, .int .i64 x, .bool true]

theorem ret_val {a b : Value} (h : a = b) : Ending.returned a = .returned b := by rw [h]

def pP (Kd N A B : Nat → Int) (f n : Nat) : Option (Value × Int) :=
  match tA Kd N A B f ((n : Int) - 1) with
  | none => none
  | some (v2, mid) =>
    if B n ≠ (n : Int) - 1 then none
    else match tA Kd N A B f (mid - 1) with
      | none => none
      | some (v1, beg) => if A n ≠ mid - 1 then none else some (.iface 113 (.agg #[v1, v2]), beg)

section
variable {Kd N A B : Nat → Int}

theorem pP_none1 {f n : Nat} (h : tA Kd N A B f ((n : Int) - 1) = none) : pP Kd N A B f n = none := by unfold pP; rw [h]
theorem pP_noB {f n : Nat} {v : Value} {m : Int} (h : tA Kd N A B f ((n : Int) - 1) = some (v, m)) (hB : B n ≠ (n : Int) - 1) : pP Kd N A B f n = none := by
  unfold pP; rw [h]; dsimp only; rw [if_pos hB]
theorem pP_none2 {f n : Nat} {v : Value} {m : Int} (h : tA Kd N A B f ((n : Int) - 1) = some (v, m)) (h2 : tA Kd N A B f (m - 1) = none) : pP Kd N A B f n = none := by
  unfold pP; rw [h]; dsimp only; rw [h2]; split <;> rfl
theorem pP_noA {f n : Nat} {v v1 : Value} {m beg : Int} (h : tA Kd N A B f ((n : Int) - 1) = some (v, m)) (h2 : tA Kd N A B f (m - 1) = some (v1, beg)) (hA : A n ≠ m - 1) : pP Kd N A B f n = none := by
  unfold pP; rw [h]; dsimp only; rw [h2]; dsimp only; rw [if_pos hA]; split <;> rfl
theorem pP_some {f n : Nat} {v v1 : Value} {m beg : Int} (h : tA Kd N A B f ((n : Int) - 1) = some (v, m)) (hB : B n = (n : Int) - 1) (h2 : tA Kd N A B f (m - 1) = some (v1, beg)) (hA : A n = m - 1) :
    pP Kd N A B f n = some (.iface 113 (.agg #[v1, v]), beg) := by
  unfold pP; rw [h]; dsimp only; rw [h2]; dsimp only; rw [if_neg (by omega), if_neg (by omega)]

theorem tA_iface : ∀ (f : Nat) (p : Int) (v : Value) (x : Int), tA Kd N A B f p = some (v, x) → ∃ t u, v = .iface t u
  | 0, p, v, x, h => by simp [tA] at h
  | f + 1, p, v, x, h => by
    unfold tA at h
    repeat' (split at h)
    all_goals simp at h
    all_goals exact ⟨_, _, h.1.symm⟩

set_option maxHeartbeats 1000000 in
theorem tA_neg {f : Nat} {p : Int} (h : p < 0) : tA Kd N A B (f + 1) p = none := by unfold tA; rw [if_pos h]
theorem tA_bad {f n : Nat} (h : fOk (Kd n) (N n) (A n) (B n) = false) : tA Kd N A B (f + 1) (n : Int) = none := by
  unfold tA; rw [if_neg (by omega), Int.toNat_natCast, if_pos h]
theorem tA_pair {f n : Nat} (h : fOk (Kd n) (N n) (A n) (B n) = true) (h5 : Kd n = 5) : tA Kd N A B (f + 1) (n : Int) = pP Kd N A B f n := by
  unfold tA pP; rw [if_neg (by omega), Int.toNat_natCast, if_neg (by rw [h]; decide), if_pos h5]; rfl
theorem tA_leaf {f n : Nat} (h : fOk (Kd n) (N n) (A n) (B n) = true) (h4 : Kd n < 4) : tA Kd N A B (f + 1) (n : Int) = some (.iface 77 (.agg #[.int .i64 (Kd n), .int .i64 (N n)]), (n : Int)) := by
  unfold tA; rw [if_neg (by omega), Int.toNat_natCast, if_neg (by rw [h]; decide), if_neg (by omega), if_pos h4]
theorem tA_one0 {f n : Nat} (h : fOk (Kd n) (N n) (A n) (B n) = true) (h4 : 4 ≤ Kd n) (h5 : Kd n ≠ 5) (e : tA Kd N A B f ((n : Int) - 1) = none) : tA Kd N A B (f + 1) (n : Int) = none := by
  unfold tA; rw [if_neg (by omega), Int.toNat_natCast, if_neg (by rw [h]; decide), if_neg h5, if_neg (by omega), e]
theorem tA_one1 {f n : Nat} {v : Value} {x : Int} (h : fOk (Kd n) (N n) (A n) (B n) = true) (h4 : 4 ≤ Kd n) (h5 : Kd n ≠ 5) (e : tA Kd N A B f ((n : Int) - 1) = some (v, x)) (hA : A n ≠ (n : Int) - 1) : tA Kd N A B (f + 1) (n : Int) = none := by
  unfold tA; rw [if_neg (by omega), Int.toNat_natCast, if_neg (by rw [h]; decide), if_neg h5, if_neg (by omega), e]; dsimp only; rw [if_pos hA]
theorem tA_hash {f n : Nat} {v : Value} {x : Int} (h : fOk (Kd n) (N n) (A n) (B n) = true) (h4 : Kd n = 4) (e : tA Kd N A B f ((n : Int) - 1) = some (v, x)) (hA : A n = (n : Int) - 1) : tA Kd N A B (f + 1) (n : Int) = some (.iface 111 (.agg #[v]), x) := by
  unfold tA; rw [if_neg (by omega), Int.toNat_natCast, if_neg (by rw [h]; decide), if_neg (by omega), if_neg (by omega), e]; dsimp only; rw [if_neg (by omega), if_pos h4]
theorem tA_keyed {f n : Nat} {v : Value} {x : Int} (h : fOk (Kd n) (N n) (A n) (B n) = true) (h4 : 6 ≤ Kd n) (e : tA Kd N A B f ((n : Int) - 1) = some (v, x)) (hA : A n = (n : Int) - 1) : tA Kd N A B (f + 1) (n : Int) = some (.iface 71 (.agg #[.int .i64 (Kd n), .int .i64 (N n), v]), x) := by
  unfold tA; rw [if_neg (by omega), Int.toNat_natCast, if_neg (by rw [h]; decide), if_neg (by omega), if_neg (by omega), e]; dsimp only; rw [if_neg (by omega), if_neg (by omega)]

set_option maxHeartbeats 400000 in
def tup2 : Option Value → Value
  | none => .tuple #[.nilIface, .bool false]
  | some v => .tuple #[v, .bool true]

theorem tOf_no {len : Nat} (h : len < 1 ∨ 40 < len) : tOf Kd N A B len = none := by unfold tOf; rw [if_pos h]
theorem tOf_none {len : Nat} (h : ¬ (len < 1 ∨ 40 < len)) (e : tA Kd N A B 10 ((len : Int) - 1) = none) : tOf Kd N A B len = none := by unfold tOf; rw [if_neg h, e]
theorem tOf_off {len : Nat} {v : Value} {x : Int} (h : ¬ (len < 1 ∨ 40 < len)) (e : tA Kd N A B 10 ((len : Int) - 1) = some (v, x)) (hx : x ≠ 0) : tOf Kd N A B len = none := by unfold tOf; rw [if_neg h, e]; dsimp only; rw [if_pos hx]
theorem tOf_some {len : Nat} {v : Value} (h : ¬ (len < 1 ∨ 40 < len)) (e : tA Kd N A B 10 ((len : Int) - 1) = some (v, 0)) : tOf Kd N A B len = some v := by unfold tOf; rw [if_neg h, e]; dsimp only; rw [if_neg (by simp)]

end
end Go.Proofs.YtcolcnkjcagbaaaDoor
