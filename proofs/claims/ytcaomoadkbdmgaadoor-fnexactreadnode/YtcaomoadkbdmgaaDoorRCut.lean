/-
  l1Cut answers what stands ahead of the first such byte and behind it. No condition but that the text is not huge.
-/
import Derived.Test.YtcaomoadkbdmgaaDoorRDec
import Derived.Deep.Quiet
namespace Go.Proofs.YtcaomoadkbdmgaaDoor
open Go.RowKit
set_option linter.unusedVariables false

/-- i is the first place of c in s, or its end -/
structure FirstAt (s : ByteArray) (c : Int) (i : Nat) : Prop where
  le : i ≤ s.size
  no : ∀ j, j < i → bt s j ≠ c
  yes : i < s.size → bt s i = c

/-- what l1Cut answers, where the first place is i -/
def cutV (s : ByteArray) (i : Nat) : Value :=
  if i < s.size then .tuple #[.string (s.extract 0 i), .string (s.extract (i + 1) s.size), .bool true] else .tuple #[.string s, .string ⟨#[]⟩, .bool false]

set_option maxHeartbeats 1000000 in
theorem l1Cut_any (s : ByteArray) (c : Int) (w : World) (hs : s.size ≤ 1048576) :
    Calls Tryd.prog 9 #[.string s, .int .u8 c] w fun e w' => ∃ i, FirstAt s c i ∧ e = .returned (cutV s i) ∧ ∃ n, w' = w.drewN n := by
  go_enter Tryd.func9, Tryd.ntmps9
  go_wp2
  go_loop [7] (fun i => ∃ (k : Nat), k ≤ s.size ∧ i = .int .i64 k ∧ Hid (∀ j, j < k → bt s j ≠ c)) (fun i => s.size - (intOf i).toNat)
  case atStart => exact ⟨0, Nat.zero_le _, rfl, fun j hj => absurd hj (Nat.not_lt_zero _)⟩
  case round =>
    obtain ⟨k, hk, rfl, HR⟩ := hrel
    by_cases hlt : k < s.size
    · have hbk := bt_in hlt
      have hltI : (k : Int) < (s.size : Int) := by omega
      by_cases hq : bt s k = c
      · have hqb : (bt s k == c) = true := by simpa using hq
        have hF : Hid (FirstAt s c k) := ⟨hk, HR.out, fun _ => hq⟩
        have hv : Hid (cutV s k = .tuple #[.string (s.extract 0 k), .string (s.extract (k + 1) s.size), .bool true]) := by show _ = _; unfold cutV; rw [if_pos hlt]
        clear hq
        have hk1 : ((k + 1 : Nat) : Int) ≤ (s.size : Int) := by omega
        go_wp2
        go_region
        all_goals
          go_wp2
          go_ret3
          exact ⟨k, hF.out, ret_val (by rw [hv.out]; rfl), 1, rfl⟩
      · have hqb : (bt s k == c) = false := by simpa using hq
        have HR' : Hid (∀ j, j < k + 1 → bt s j ≠ c) := by
          intro j hj
          rcases Nat.lt_succ_iff_lt_or_eq.1 hj with h1 | rfl
          · exact HR.out j h1
          · exact hq
        clear hq
        go_wp2
        go_round
        case rel => exact ⟨k + 1, by omega, by go_num, HR'⟩
        case measure => simp [intOf]; omega
    · have hke : k = s.size := by omega
      have hF : Hid (FirstAt s c k) := ⟨hk, HR.out, fun h => absurd h hlt⟩
      have hv : Hid (cutV s k = .tuple #[.string s, .string ⟨#[]⟩, .bool false]) := by show _ = _; unfold cutV; rw [if_neg hlt]
      go_wp2
      go_ret3
      exact ⟨k, hF.out, ret_val (by rw [hv.out]; rfl), 0, rfl⟩
end Go.Proofs.YtcaomoadkbdmgaaDoor
