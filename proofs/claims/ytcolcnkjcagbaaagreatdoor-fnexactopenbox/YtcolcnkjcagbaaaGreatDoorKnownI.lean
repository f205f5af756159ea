/-
  The program's knownTerms and KnownOk answer the plain test; szStringS bounds the texts. No condition but that the slice reads and the texts' lengths.
-/
import Derived.Test.YtcolcnkjcagbaaaGreatDoorKnown
namespace Go.Proofs.YtcolcnkjcagbaaaGreatDoor
open Go.RowKit
set_option linter.unusedVariables false

theorem info75 : (Tryz.prog.info? 75).map (fun i => (i.zero, i.size, i.bytes)) = some (some .nilIface, 1, 16) := by kernel_rfl

theorem rT_iface {s : ByteArray} {v : Value} (h : rT s = some v) : ∃ t u, v = .iface t u := by
  obtain ⟨t, _, _, _, _, rfl⟩ := rT_tr h
  rcases t with ⟨(⟨k, n⟩ | t | ⟨t, u⟩ | ⟨k, n, t⟩)⟩ <;> exact ⟨_, _, rfl⟩

set_option maxHeartbeats 2000000 in
theorem knownTerms_any (a : Option Addr) (len cap : Nat) (S : Nat → ByteArray) (w : World) (h : IsStrs w a len cap S) (hS : ∀ i, i < len → (S i).size ≤ 1048576) :
    Calls Tryz.prog 75 #[.slice a len cap] w fun e w' => (∃ v, e = .returned (.tuple #[v, .bool (knownB S len)])) ∧ Below w.heap.size w w' := by
  have hI := h
  obtain ⟨hlc, hcm, hc⟩ := h
  obtain ⟨i0, hi, hz0, hz1, hz2⟩ := info_parts info75
  by_cases h30 : (30 : Int) < (len : Int)
  · have hr : Hid (knownB S len = false) := by
      show _ = _
      unfold knownB
      rw [show decide (len ≤ 30) = false by simp; omega]; rfl
    go_enter Tryz.func75, Tryz.ntmps75
    go_wp2
    go_ret2
    exact ⟨⟨.slice none 0 0, retv (by rw [hr.out]; rfl)⟩, Below.refl _ _⟩
  have hk30 : Hid (decide (len ≤ 30) = true) := by show _ = _; simp; omega
  have h30' : (len : Int) ≤ 30 := by omega
  have h30d : decide ((30 : Int) < (len : Int)) = false := by simpa using h30'
  clear h30
  cases hrise : riseB S len with
  | false =>
    have hr : Hid (knownB S len = false) := by
      show _ = _
      unfold knownB
      rw [hrise, Bool.and_false, Bool.false_and]
    go_enter Tryz.func75, Tryz.ntmps75
    go_wp2_with (go_at_call 97; refine (rises_any a len cap S _ hI (by omega)).mono ?_; rintro e w1 ⟨rfl, hB1⟩; rw [hrise])
    go_ret2
    exact ⟨⟨.slice none 0 0, retv (by rw [hr.out]; rfl)⟩, hB1⟩
  | true =>
  have HRI := (show Hid _ from hrise)
  go_enter Tryz.func75, Tryz.ntmps75
  go_wp2_with (go_at_call 97; refine (rises_any a len cap S _ hI (by omega)).mono ?_; rintro e w1 ⟨rfl, hB1⟩; rw [hrise])
  clear hrise
  go_loopw [19, 4] (fun i v wr => ∃ (k : Nat) (xs : List Value), k ≤ len ∧ i = .int .i64 k ∧ wr.ownsRow w.heap.size 75 1 v k xs ∧ Hid (termsB S k = true) ∧ Below w.heap.size w wr)
    (fun i _ _ => len - (intOf i).toNat)
  case atStart => exact ⟨0, [], Nat.zero_le _, rfl, World.ownsRow_nil _ _ _ _, rfl, hB1⟩
  case round =>
    obtain ⟨k, xs, hk, rfl, how, HR, hB⟩ := hrel
    by_cases hlt : k < len
    · obtain ⟨b, off, rfl, hbs, hcell⟩ := hc (by omega)
      have d1 := (hB.cell (p := ⟨b, off + k, none⟩) hbs).trans (hcell k hlt)
      have hsz := hS k hlt
      have hltI : (k : Int) < (len : Int) := by omega
      have HO := (show Hid _ from how)
      clear hcell hc how
      have hc1 : (k + 1 : Nat) ≤ maxLen := by unfold maxLen; omega
      have hc2 : (k + 1) * 16 ≤ 140737488355328 := by omega
      cases hrt : rT (S k) with
      | none =>
        have hr : Hid (knownB S len = false) := by
          show _ = _
          unfold knownB
          rw [termsB_false hlt hrt, Bool.and_false]
        go_wp2_with (go_at_call 68; refine (termOfText_any (S k) _ hsz).mono ?_; rintro e w2 ⟨rfl, hB2⟩; rw [hrt]; dsimp only [tup2])
        go_ret2
        exact ⟨⟨.slice none 0 0, retv (by rw [hr.out]; rfl)⟩, hB.trans (hB2.mono hB.size)⟩
      | some v =>
        obtain ⟨t, u, rfl⟩ := rT_iface hrt
        have HRT := (show Hid (rT (S k) = some (.iface t u)) from hrt)
        have hso : ∀ x ∈ [Value.iface t u], x.oneCell' = true := by simp [Value.oneCell']
        go_wp2_with (first
          | (go_at_call 68; refine (termOfText_any (S k) _ hsz).mono ?_; rintro e w2 ⟨rfl, hB2⟩; rw [hrt]; dsimp only [tup2])
          | (at_builtin; refine wpList_append_own _ rfl _ _ 121 rfl w.heap.size 75 i0 .nilIface 1 16 Tryz.underlying121 hi hz0 hz1 hz2 rfl (by decide) _ _ _ rfl ((ownsRow_below HO.out hB2).alloc _) ⟨w2.heap.size, 0, none⟩ 1 1 [.iface t u] rfl rfl (World.news_of_block (heap_alloc_new _ _)) hso hc1 hc2 (by have := (hB.trans (hB2.mono hB.size)).size; simp; omega) ?_; intro v' w3 hown hgrow _))
        go_roundw
        case rel =>
          refine ⟨k + 1, _, by omega, by go_num, hown, ?_, ?_⟩
          · show _ = _
            rw [termsB_succ, HR.out, HRT.out]; rfl
          · have hBa := (hB.trans (hB2.mono hB.size)).alloc ((hB.trans (hB2.mono hB.size)).size) (.cells #[.iface t u] 75)
            exact hBa.grown hgrow hBa.size (fun x hx => by have := ((ownsRow_below HO.out hB2).lt x hx).1; omega)
        case measure => simp [intOf]; omega
    · have hke : k = len := by omega
      subst hke
      have hr : Hid (knownB S k = true) := by
        show _ = _
        unfold knownB
        rw [hk30.out, HRI.out, HR.out]; rfl
      clear how
      go_wp2
      go_ret2
      exact ⟨⟨_, retv (by rw [hr.out]; rfl)⟩, hB⟩

set_option maxHeartbeats 400000 in
theorem szStringS_any (a : Option Addr) (len cap : Nat) (S : Nat → ByteArray) (w : World) (h : IsStrs w a len cap S) (hS : ∀ i, i < len → (S i).size ≤ 9223372036854775807) :
    Calls Tryz.prog 8 #[.slice a len cap, .int .i64 1048576] w fun e w' => ∃ r : Int, e = .returned (.int .i64 r) ∧ (r < 0 ∨ (0 ≤ r ∧ len ≤ 1048576 ∧ ∀ i, i < len → (S i).size ≤ 1048576)) ∧ w' = w := by
  obtain ⟨hlc, hcm, hc⟩ := h
  by_cases hneg : (1048576 : Int) - (len : Int) < 0
  · go_enter Tryz.func8, Tryz.ntmps8
    go_wp2
    go_ret
    exact ⟨_, rfl, .inl (by decide), rfl⟩
  have hlen : len ≤ 1048576 := by omega
  go_enter Tryz.func8, Tryz.ntmps8
  go_wp2
  go_loop [1, 5] (fun x i => ∃ (k : Nat) (r : Int), k ≤ len ∧ i = .int .i64 k ∧ x = .int .i64 r ∧ 0 ≤ r ∧ r ≤ 1048576 ∧ Hid (∀ j, j < k → (S j).size ≤ 1048576)) (fun _ i => len - (intOf i).toNat)
  case atStart => exact ⟨0, _, Nat.zero_le _, rfl, rfl, by omega, by omega, fun j hj => absurd hj (Nat.not_lt_zero _)⟩
  case round =>
    obtain ⟨k, r, hk, rfl, rfl, hr0, hr1, HA⟩ := hrel
    by_cases hlt : k < len
    · obtain ⟨b, off, rfl, hbs, hcell⟩ := hc (by omega)
      have d1 := hcell k hlt
      have hsz := hS k hlt
      have hltI : (k : Int) < (len : Int) := by omega
      clear hcell hc
      by_cases hng : r - ((S k).size : Int) < 0
      · go_wp2
        go_ret
        exact ⟨_, rfl, .inl (by decide), rfl⟩
      · have HA' : Hid (∀ j, j < k + 1 → (S j).size ≤ 1048576) := by
          intro j hj
          rcases Nat.lt_succ_iff_lt_or_eq.1 hj with h1 | rfl
          · exact HA.out j h1
          · omega
        go_wp2
        go_round
        case rel => exact ⟨k + 1, _, by omega, by go_num, rfl, by omega, by omega, HA'⟩
        case measure => simp [intOf]; omega
    · have hke : k = len := by omega
      subst hke
      go_wp2
      go_ret
      exact ⟨_, rfl, .inr ⟨hr0, HA.out⟩, rfl⟩

end Go.Proofs.YtcolcnkjcagbaaaGreatDoor
