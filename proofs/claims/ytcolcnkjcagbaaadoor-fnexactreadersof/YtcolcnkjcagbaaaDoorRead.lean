/-
  The program's recursive reader of terms returns what the plain reader returns, or panics with the reader's own word. No condition but that the reader lies in memory.
-/
import Derived.Test.YtcolcnkjcagbaaaDoorRd
namespace Go.Proofs.YtcolcnkjcagbaaaDoor
open Go.RowKit
set_option linter.unusedVariables false

def letters : ByteArray := { data := #[63, 97, 107, 118, 104, 112, 101, 115] }
def sLp : ByteArray := { data := #[40] }
def sRp : ByteArray := { data := #[41] }
def sCm : ByteArray := { data := #[44] }
def sLk : ByteArray := { data := #[40, 107] }

/-- the kind that a letter stands for -/
def kindI (c : Int) : Int :=
  if c = 63 then 0 else if c = 97 then 1 else if c = 107 then 2 else if c = 118 then 3 else if c = 104 then 4 else if c = 112 then 5 else if c = 101 then 6 else if c = 115 then 7 else -1

theorem kind_nat : ∀ n : Nat, n < 256 → Lib.indexByte letters.data.toList n.toUInt8 = kindI n := by decide +kernel

theorem indexByte_extern (c : Int) (h : 0 ≤ c ∧ c ≤ 255) (w : World) : (callFunc 64 #[.string letters, .int .u8 c]).run Tryd.prog w = .ok (.value (.int .i64 (kindI c))) w := by
  rw [run_callFunc_extern Tryd.func64 (by kernel_rfl) (by kernel_rfl) (by kernel_rfl) (by kernel_rfl)]
  rw [show (Extern.BytealgIndexByte.indexByte #[.string letters, .int .u8 c]).run Tryd.prog w = _ from Lib.run_indexByteString letters c w]
  obtain ⟨n, rfl⟩ := Int.eq_ofNat_of_zero_le h.1
  have := kind_nat n (by omega)
  simp only [Int.toNat_natCast, Result.andThen]
  rw [this]

theorem indexByte_lite (c : Int) (h : 0 ≤ c ∧ c ≤ 255) (w : World) : Calls Tryd.prog 60 #[.string letters, .int .u8 c] w fun e w' => e = .returned (.int .i64 (kindI c)) ∧ w' = w := by
  have hx := indexByte_extern c h
  unfold letters at hx ⊢
  go_enter Tryd.func60, Tryd.ntmps60
  go_wp2
  go_ret
  exact ⟨rfl, rfl⟩

theorem indexByte_any (c : Int) (h : 0 ≤ c ∧ c ≤ 255) (w : World) : Calls Tryd.prog 53 #[.string letters, .int .u8 c] w fun e w' => e = .returned (.int .i64 (kindI c)) ∧ w' = w := by
  go_enter Tryd.func53, Tryd.ntmps53
  go_wp2_with (go_at_call 60; refine (indexByte_lite c h _).mono ?_; rintro e w' ⟨rfl, rfl⟩)
  go_ret
  exact ⟨rfl, rfl⟩

theorem numR_bound {s : ByteArray} {i j : Nat} {n : Int} (hi : i ≤ s.size) (h : numR s i = some (n, j)) : i ≤ j ∧ j ≤ s.size := by
  unfold numR at h
  split at h
  · simp at h
    obtain ⟨_, rfl⟩ := h
    have := dEnd_is s i hi
    exact ⟨this.1, this.2.1⟩
  · cases h

theorem preB_room {s p : ByteArray} {i : Nat} (hi : i ≤ s.size) (h : preB s i p = true) : i + p.size ≤ s.size := by
  unfold preB Lib.hasPrefix at h
  have := (List.isPrefixOf_iff_prefix.1 h).length_le
  rw [List.length_drop, ← Lib.size_eq, ← Lib.size_eq] at this
  omega

/-- the plain reader: the term at place i, behind so many nodes; where it ends, and how many nodes there are then -/
def pT (s : ByteArray) : Nat → Nat → Nat → Option (Value × Nat × Nat)
  | 0, _, _ => none
  | f + 1, i, nd =>
    if 40 ≤ nd then none
    else if s.size ≤ i then none
    else if kindI (bt s i) = 1 ∨ kindI (bt s i) = 2 ∨ kindI (bt s i) = 3 then
      match numR s (i + 1) with
      | none => none
      | some (n, j) => some (.iface 77 (.agg #[.int .i64 (kindI (bt s i)), .int .i64 n]), j, nd + 1)
    else if kindI (bt s i) = 4 then
      if preB s (i + 1) sLp = false then none
      else match pT s f (i + 1 + 1) (nd + 1) with
        | none => none
        | some (v, j, m) => if preB s j sRp = false then none else some (.iface 111 (.agg #[v]), j + 1, m)
    else if kindI (bt s i) = 5 then
      if preB s (i + 1) sLp = false then none
      else match pT s f (i + 1 + 1) (nd + 1) with
        | none => none
        | some (v, j, m) =>
          if preB s j sCm = false then none
          else match pT s f (j + 1) m with
            | none => none
            | some (v2, j2, m2) => if preB s j2 sRp = false then none else some (.iface 113 (.agg #[v, v2]), j2 + 1, m2)
    else if kindI (bt s i) = 6 ∨ kindI (bt s i) = 7 then
      if preB s (i + 1) sLk = false then none
      else match numR s (i + 1 + 2) with
        | none => none
        | some (n, j) =>
          if preB s j sCm = false then none
          else match pT s f (j + 1) (nd + 1) with
            | none => none
            | some (v, j2, m) => if preB s j2 sRp = false then none else some (.iface 71 (.agg #[.int .i64 (kindI (bt s i)), .int .i64 n, v]), j2 + 1, m)
    else none

theorem pT_bound {s : ByteArray} : ∀ (f i nd : Nat) (v : Value) (j m : Nat), i ≤ s.size → pT s f i nd = some (v, j, m) → j ≤ s.size ∧ nd < m ∧ m ≤ 40 ∧ ∃ t u, v = .iface t u
  | 0, i, nd, v, j, m, _, h => by simp [pT] at h
  | f + 1, i, nd, v, j, m, hi, h => by
    have ih := pT_bound (s := s) f
    unfold pT at h
    split at h
    · cases h
    · split at h
      · cases h
      · split at h
        · split at h
          · cases h
          · rename_i n j' e
            have b := numR_bound (by omega) e
            simp at h
            obtain ⟨rfl, rfl, rfl⟩ := h
            exact ⟨b.2, by omega, by omega, _, _, rfl⟩
        · split at h
          · split at h
            · cases h
            · rename_i hp
              have r1 := preB_room (s := s) (i := i + 1) (by omega) (by simpa using hp)
              have z1 : sLp.size = 1 := rfl
              split at h
              · cases h
              · rename_i v' j' m' e
                have b := ih _ _ _ _ _ (by omega) e
                split at h
                · cases h
                · rename_i hq
                  have r2 := preB_room b.1 (by simpa using hq)
                  have z2 : sRp.size = 1 := rfl
                  simp at h
                  obtain ⟨rfl, rfl, rfl⟩ := h
                  exact ⟨by omega, by omega, by omega, _, _, rfl⟩
          · split at h
            · split at h
              · cases h
              · rename_i hp
                have r1 := preB_room (s := s) (i := i + 1) (by omega) (by simpa using hp)
                have z1 : sLp.size = 1 := rfl
                split at h
                · cases h
                · rename_i v' j' m' e
                  have b := ih _ _ _ _ _ (by omega) e
                  split at h
                  · cases h
                  · rename_i hq
                    have r2 := preB_room b.1 (by simpa using hq)
                    have z2 : sCm.size = 1 := rfl
                    split at h
                    · cases h
                    · rename_i v2 j2 m2 e2
                      have b2 := ih _ _ _ _ _ (by omega) e2
                      split at h
                      · cases h
                      · rename_i hq2
                        have r3 := preB_room b2.1 (by simpa using hq2)
                        have z3 : sRp.size = 1 := rfl
                        simp at h
                        obtain ⟨rfl, rfl, rfl⟩ := h
                        exact ⟨by omega, by omega, by omega, _, _, rfl⟩
            · split at h
              · split at h
                · cases h
                · rename_i hp
                  have r1 := preB_room (s := s) (i := i + 1) (by omega) (by simpa using hp)
                  have z1 : sLk.size = 2 := rfl
                  split at h
                  · cases h
                  · rename_i n j' e
                    have b := numR_bound (by omega) e
                    split at h
                    · cases h
                    · rename_i hq
                      have r2 := preB_room b.2 (by simpa using hq)
                      have z2 : sCm.size = 1 := rfl
                      split at h
                      · cases h
                      · rename_i v2 j2 m2 e2
                        have b2 := ih _ _ _ _ _ (by omega) e2
                        split at h
                        · cases h
                        · rename_i hq2
                          have r3 := preB_room b2.1 (by simpa using hq2)
                          have z3 : sRp.size = 1 := rfl
                          simp at h
                          obtain ⟨rfl, rfl, rfl⟩ := h
                          exact ⟨by omega, by omega, by omega, _, _, rfl⟩
              · cases h

end Go.Proofs.YtcolcnkjcagbaaaDoor
