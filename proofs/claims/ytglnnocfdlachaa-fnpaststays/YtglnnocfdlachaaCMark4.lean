/-
  Marks written into a slice of events that the call owns, and read again. No condition but that the slice is not too long.
-/
import Derived.Test.YtglnnocfdlachaaECmp
namespace Go.Proofs.Ytglnnocfdlachaa
open Go.RowKit
set_option linter.unusedVariables false

/-- the marks of one event, from k on -/
def markEv (k : Nat) : Ev := ⟨(k : Int), ((k + 1 : Nat) : Int), ((k + 2 : Nat) : Int), ((k + 3 : Nat) : Int)⟩
def markL (k n : Nat) : List Ev := (List.range n).map fun i => markEv (k + i * 4)
theorem markL_len (k n : Nat) : (markL k n).length = n := by unfold markL; simp
theorem markL_at {k n i : Nat} (h : i < n) : (markL k n).getD i evZ = markEv (k + i * 4) := by unfold markL; simp [h]
theorem markL_of {k n : Nat} {M : List Ev} (hl : M.length = n) (h : ∀ i, i < n → M.getD i evZ = markEv (k + i * 4)) : M = markL k n := by
  apply List.ext_getElem?
  intro i
  by_cases hi : i < n
  · have h1 := h i hi
    unfold markL
    simp [List.getD_eq_getElem?_getD, show i < M.length by omega] at h1
    simp [hi, show i < M.length by omega, h1]
  · rw [List.getElem?_eq_none (by omega), List.getElem?_eq_none (by rw [markL_len]; omega)]

set_option maxRecDepth 10000 in
set_option maxHeartbeats 4000000 in
theorem markEvs_any (base : Nat) (v : Value) (L : List Ev) (k0 : Nat) (w : World) (h : OwnV w base v L) (hl : L.length ≤ 1048576) (hk : k0 ≤ 1099511627776) :
    Calls Try.prog 11 #[v, .int .i64 k0] w fun e w' => e = .returned (.int .i64 ((k0 + L.length * 4 : Nat) : Int)) ∧ OwnV w' base v (markL k0 L.length) ∧ w.grownBy w' v.ownBlock := by
  rcases h.cases with ⟨rfl, rfl⟩ | ⟨g, cap, rfl, hO⟩
  · go_enter Try.func11, Try.ntmps11
    go_wp2
    refine wp_loop_rounds 1 ?_
    rw [rounds_succ]; go_wp2
    go_ret
    exact ⟨rfl, h, World.grownBy.refl _ _⟩
  obtain ⟨n, hn⟩ : ∃ n, n = L.length := ⟨_, rfl⟩
  have HN : Hid (n = L.length) := hn
  have HO : Hid (w.ownsRow base 30 4 (.slice (some ⟨g, 0, none⟩) n cap) n (cellsL L)) := own_form2 hO hn.symm
  have hcap : n ≤ cap ∧ cap ≤ 9223372036854775807 := by rw [hn]; exact hO.caps
  obtain ⟨hc1, hc2⟩ := hcap
  rw [← hn] at hl ⊢
  clear hn h hO
  go_enter Try.func11, Try.ntmps11
  go_wp2
  go_loopw [1, 5] (fun x i wr => ∃ (j : Nat) (M : List Ev), j ≤ n ∧ i = .int .i64 j ∧ x = .int .i64 ((k0 + j * 4 : Nat) : Int) ∧ Hid (M.length = n ∧ ∀ t, t < j → M.getD t evZ = markEv (k0 + t * 4)) ∧ wr.ownsRow base 30 4 (.slice (some ⟨g, 0, none⟩) n cap) n (cellsL M) ∧ Hid (w.grownBy wr (some g))) (fun _ i _ => n - (intOf i).toNat)
  case atStart => exact ⟨0, L, Nat.zero_le _, rfl, rfl, ⟨HN.out.symm, fun t ht => absurd ht (Nat.not_lt_zero _)⟩, HO.out, World.grownBy.refl _ _⟩
  case round =>
    obtain ⟨j, M, hj, rfl, rfl, HM, how, HG⟩ := hrel
    by_cases hlt : j < n
    · have hltI : (j : Int) < (n : Int) := by omega
      have hml := HM.out.1
      obtain ⟨k, hkk⟩ : ∃ k, k = k0 + j * 4 := ⟨_, rfl⟩
      have hkb : k ≤ 1099520000000 := by omega
      rw [← hkk]
      have f0 := how.frozenAt (j * 4)
      obtain ⟨v0, y0⟩ := own_some how (j * 4) (by omega)
      have f1 := how.frozenAt (j * 4 + 1)
      obtain ⟨v1, y1⟩ := own_some how (j * 4 + 1) (by omega)
      have f2 := how.frozenAt (j * 4 + 2)
      obtain ⟨v2, y2⟩ := own_some how (j * 4 + 2) (by omega)
      have f3 := how.frozenAt (j * 4 + 3)
      obtain ⟨v3, y3⟩ := own_some how (j * 4 + 3) (by omega)
      have HOW : Hid (wr.ownsRow base 30 4 (.slice (some ⟨g, 0, none⟩) n cap) n (cellsL M)) := how
      have HK : Hid (k = k0 + j * 4) := hkk
      clear how hkk
      go_wp2
      go_roundw
      case rel =>
        have hk := HK.out
        refine ⟨j + 1, M.set j (markEv k), by omega, by go_num, ?_, ⟨by rw [List.length_set]; exact hml, fun t ht => ?_⟩, ?_, ?_⟩
        · rw [show k0 + (j + 1) * 4 = k + 4 by omega]; go_num
        · rcases Nat.lt_succ_iff_lt_or_eq.1 ht with h1 | rfl
          · rw [← HM.out.2 t h1]
            simp [List.getD_eq_getElem?_getD, List.getElem?_set_ne (show j ≠ t by omega)]
          · rw [← hk]
            simp [List.getD_eq_getElem?_getD, hml, hlt]
        · rw [← cellsL_set M j (markEv k) (by omega)]
          exact (((((((World.ownsRow.stored HOW.out _ _).1).stored _ _).1).stored _ _).1).stored _ _).1
        · have s1 := World.ownsRow.stored HOW.out (j * 4) (.int .i64 (markEv k).a)
          have s2 := s1.1.stored (j * 4 + 1) (.int .i64 (markEv k).b)
          have s3 := s2.1.stored (j * 4 + 2) (.int .i64 (markEv k).c)
          have s4 := s3.1.stored (j * 4 + 3) (.int .i64 (markEv k).d)
          exact grownBy_trans HG.out (grownBy_trans s1.2 (grownBy_trans s2.2 (grownBy_trans s3.2 s4.2)))
      case measure => simp [intOf]; omega
    · have hje : j = n := by omega
      subst hje
      have hjd : decide ((j : Int) < (j : Int)) = false := by simp
      have HF : Hid (wr.ownsRow base 30 4 (.slice (some ⟨g, 0, none⟩) j cap) j (cellsL (markL k0 j))) := by
        rw [← markL_of HM.out.1 HM.out.2]; exact how
      clear how
      go_wp2
      go_ret
      refine ⟨rfl, ?_, HG.out⟩
      unfold OwnV
      rw [markL_len]
      exact HF.out

set_option maxHeartbeats 4000000 in
theorem heldEvs_any (base : Nat) (v : Value) (k0 n : Nat) (w : World) (h : OwnV w base v (markL k0 n)) (hl : n ≤ 1048576) (hk : k0 ≤ 1099511627776) :
    Calls Try.prog 12 #[v, .int .i64 k0] w fun e w' => e = .returned (.int .i64 ((k0 + n * 4 : Nat) : Int)) ∧ w' = w := by
  rcases h.cases with ⟨rfl, h0⟩ | ⟨g, cap, rfl, hO⟩
  · have hn0 : n = 0 := by have := congrArg List.length h0; rw [markL_len] at this; exact this
    subst hn0
    go_enter Try.func12, Try.ntmps12
    go_wp2
    refine wp_loop_rounds 1 ?_
    rw [rounds_succ]; go_wp2
    go_ret
    exact ⟨rfl, rfl⟩
  rw [markL_len]
  have hcap : n ≤ cap ∧ cap ≤ 9223372036854775807 := by have := hO.caps; rw [markL_len] at this; exact this
  obtain ⟨hc1, hc2⟩ := hcap
  have hli : Hid (∀ i, i < n → EvAt w g (i * 4) (markEv (k0 + i * 4))) := by
    intro i hi
    have := hO.lies.1 i (by rw [markL_len]; exact hi)
    rw [Nat.zero_add, markL_at hi] at this
    exact this
  clear h hO
  go_enter Try.func12, Try.ntmps12
  go_wp2
  go_loop [1, 5] (fun x i => ∃ (j : Nat), j ≤ n ∧ i = .int .i64 j ∧ x = .int .i64 ((k0 + j * 4 : Nat) : Int)) (fun _ i => n - (intOf i).toNat)
  case atStart => exact ⟨0, Nat.zero_le _, rfl, rfl⟩
  case round =>
    obtain ⟨j, hj, rfl, rfl⟩ := hrel
    by_cases hlt : j < n
    · have hltI : (j : Int) < (n : Int) := by omega
      obtain ⟨c0, c1, c2, c3⟩ := hli.out j hlt
      obtain ⟨k, hkk⟩ : ∃ k, k = k0 + j * 4 := ⟨_, rfl⟩
      have hkb : k ≤ 1099520000000 := by omega
      rw [← hkk] at c0 c1 c2 c3 ⊢
      unfold markEv at c0 c1 c2 c3
      have HK : Hid (k = k0 + j * 4) := hkk
      clear hkk
      have e0 : ((k : Int) != (k : Int)) = false := by simp
      have e1 : (((k + 1 : Nat) : Int) != (k : Int) + 1) = false := by simp
      have e2 : (((k + 2 : Nat) : Int) != (k : Int) + 1 + 1) = false := by simp; omega
      have e3 : (((k + 3 : Nat) : Int) != (k : Int) + 1 + 1 + 1) = false := by simp; omega
      go_wp2
      go_round
      case rel =>
        have hk := HK.out
        refine ⟨j + 1, by omega, by go_num, ?_⟩
        rw [show k0 + (j + 1) * 4 = k + 4 by omega]; go_num
      case measure => simp [intOf]; omega
    · have hje : j = n := by omega
      subst hje
      have hjd : decide ((j : Int) < (j : Int)) = false := by simp
      go_wp2
      go_ret
      exact ⟨rfl, rfl⟩
end Go.Proofs.Ytglnnocfdlachaa
