/-
  Small functions over beats: sizes, times, whether one is right by itself. No condition but that the slices read.
-/
import Derived.Test.YtaepmojiiiinaaaEvV
import Derived.Test.YtaepmojiiiinaaaEvOpen
import Derived.Lib.Small
namespace Go.Proofs.Ytaepmojiiiinaaa
open Go.RowKit
set_option linter.unusedVariables false

def inB (lo hi x : Int) : Bool := decide (lo ≤ x) && decide (x ≤ hi)
def allB (p : Nat → Bool) (n : Nat) : Bool := (List.range n).all p
theorem allB_succ (p : Nat → Bool) (n : Nat) : allB p (n + 1) = (allB p n && p n) := by
  unfold allB
  rw [List.range_succ, List.all_append]
  simp
theorem allB_at {p : Nat → Bool} {n k : Nat} (h : allB p n = true) (hk : k < n) : p k = true := by
  unfold allB at h
  rw [List.all_eq_true] at h
  exact h k (List.mem_range.2 hk)
theorem allB_false {p : Nat → Bool} {n k : Nat} (hk : k < n) (h : p k = false) : allB p n = false := by
  have : ¬ (allB p n = true) := fun h' => by rw [allB_at h' hk] at h; cases h
  simpa using this

theorem in_any (n lo hi : Int) (b : Bool) (hb : inB lo hi n = b) (w : World) : Calls Try.prog 27 #[.int .i64 n, .int .i64 lo, .int .i64 hi] w fun e w' => e = .returned (.bool b) ∧ w' = w := by
  subst hb
  by_cases h1 : lo ≤ n
  · have hr : Hid (inB lo hi n = decide (n ≤ hi)) := by show _ = _; unfold inB; simp [h1]
    go_enter Try.func27, Try.ntmps27
    go_wp2
    go_ret
    exact ⟨ret_bool hr.out.symm, rfl⟩
  · have hr : Hid (inB lo hi n = false) := by show _ = _; unfold inB; simp [h1]
    have h1' : decide (lo ≤ n) = false := by simpa using h1
    go_enter Try.func27, Try.ntmps27
    go_wp2
    go_ret
    exact ⟨ret_bool hr.out.symm, rfl⟩

set_option maxHeartbeats 1000000 in
theorem szEv_any (x : Ev) (hx : x.d.size ≤ 9223372036854775807) (w : World) (L : Int) (h0 : 0 ≤ L) (h1 : L ≤ 1048576) :
    Calls Try.prog 26 #[.agg #[.int .i64 x.a, .int .i64 x.b, .int .i64 x.c, .string x.d], .int .i64 L] w fun e w' => ∃ r : Int, e = .returned (.int .i64 r) ∧ (r < 0 ∨ (0 ≤ r ∧ r ≤ L ∧ x.d.size ≤ 1048576)) ∧ Below w.heap.size w w' := by
  have HB : Hid (∀ o, Below w.heap.size w (w.alloc o)) := fun o => (Below.refl _ _).alloc (Nat.le_refl _) _
  by_cases h : L - (x.d.size : Int) < 0
  · go_enter Try.func26, Try.ntmps26
    go_wp2
    go_ret
    exact ⟨_, rfl, .inl (by decide), HB.out _⟩
  · go_enter Try.func26, Try.ntmps26
    go_wp2
    go_ret
    exact ⟨_, rfl, .inr ⟨by omega, by omega, by omega⟩, HB.out _⟩

set_option maxHeartbeats 1000000 in
theorem szEvs_any (a : Option Addr) (len cap : Nat) (D : Nat → Ev) (w : World) (h : IsEvs w a len cap D) (hF : ∀ i, i < len → (D i).in) (L : Int) (hL0 : 0 ≤ L) (hL1 : L ≤ 1048576) :
    Calls Try.prog 8 #[.slice a len cap, .int .i64 L] w fun e w' => ∃ r : Int, e = .returned (.int .i64 r) ∧ (r < 0 ∨ (0 ≤ r ∧ r ≤ L ∧ len ≤ 1048576 ∧ ∀ i, i < len → (D i).d.size ≤ 1048576)) ∧ Below w.heap.size w w' := by
  obtain ⟨hlc, hcm, hc⟩ := h
  by_cases hneg : L - (len : Int) < 0
  · go_enter Try.func8, Try.ntmps8
    go_wp2
    go_ret
    exact ⟨_, rfl, .inl (by decide), Below.refl _ _⟩
  have hlen : len ≤ 1048576 := by omega
  have HF : Hid (∀ i, i < len → (D i).d.size ≤ 9223372036854775807) := fun i hi => hF i hi
  clear hF
  go_enter Try.func8, Try.ntmps8
  go_wp2
  go_loopw [1, 5] (fun x i wr => ∃ (k : Nat) (r : Int), k ≤ len ∧ i = .int .i64 k ∧ x = .int .i64 r ∧ 0 ≤ r ∧ r ≤ L ∧ Hid (∀ j, j < k → (D j).d.size ≤ 1048576) ∧ Below w.heap.size w wr) (fun _ i _ => len - (intOf i).toNat)
  case atStart => exact ⟨0, _, Nat.zero_le _, rfl, rfl, by omega, by omega, fun j hj => absurd hj (Nat.not_lt_zero _), Below.refl _ _⟩
  case round =>
    obtain ⟨k, r, hk, rfl, rfl, hr0, hr1, HA, hB⟩ := hrel
    by_cases hlt : k < len
    · obtain ⟨b, off, rfl, hbs, hcell⟩ := hc (by omega)
      obtain ⟨c0, c1, c2, c3⟩ : EvAt wr b (off + k * 4) (D k) := (hcell k hlt).grow hbs hB
      have hltI : (k : Int) < (len : Int) := by omega
      clear hcell hc
      go_wp2_with fail
      refine (szEv_any (D k) (HF.out k hlt) _ r hr0 (by omega)).mono ?_
      rintro e w1 ⟨r1, rfl, hq, hB1⟩
      have HB1 : Hid (Below w.heap.size w w1) := hB.trans (hB1.mono hB.size)
      clear hB1
      rcases hq with hq | ⟨hq0, hq1, hq2⟩
      · go_wp2
        go_ret
        exact ⟨_, rfl, .inl (by decide), HB1.out⟩
      · have HA' : Hid (∀ j, j < k + 1 → (D j).d.size ≤ 1048576) := by
          intro j hj
          rcases Nat.lt_succ_iff_lt_or_eq.1 hj with h1 | rfl
          · exact HA.out j h1
          · exact hq2
        clear hq2
        go_wp2
        go_roundw
        case rel => exact ⟨k + 1, _, by omega, by go_num, rfl, by omega, by omega, HA', HB1.out⟩
        case measure => simp [intOf]; omega
    · have hke : k = len := by omega
      subst hke
      go_wp2
      go_ret
      exact ⟨_, rfl, .inr ⟨hr0, hr1, hlen, HA.out⟩, hB⟩

theorem time_any (n : Int) (b : Bool) (hb : inB 0 1000000 n = b) (w : World) : Calls Try.prog 31 #[.int .i64 n] w fun e w' => e = .returned (.bool b) ∧ w' = w := by
  subst hb
  by_cases h1 : 0 ≤ n
  · have hr : Hid (inB 0 1000000 n = decide (n ≤ 1000000)) := by show _ = _; unfold inB; simp [h1]
    go_enter Try.func31, Try.ntmps31
    go_wp2
    go_ret
    exact ⟨ret_bool hr.out.symm, rfl⟩
  · have hr : Hid (inB 0 1000000 n = false) := by show _ = _; unfold inB; simp [h1]
    have h1' : decide (0 ≤ n) = false := by simpa using h1
    go_enter Try.func31, Try.ntmps31
    go_wp2
    go_ret
    exact ⟨ret_bool hr.out.symm, rfl⟩

/-- a beat is right by itself -/
def Ev.fine (x : Ev) : Bool := inB 1 1000000 x.a && (inB 1 1000000 x.b && (inB 0 1000000 x.c && decide ((x.d.size : Int) ≤ 20)))

set_option maxHeartbeats 1000000 in
theorem beatOk_any (x : Ev) (hx : x.d.size ≤ 9223372036854775807) (b : Bool) (hb : x.fine = b) (w : World) :
    Calls Try.prog 29 #[.agg #[.int .i64 x.a, .int .i64 x.b, .int .i64 x.c, .string x.d]] w fun e w' => e = .returned (.bool b) ∧ Below w.heap.size w w' := by
  have HB : Hid (∀ o, Below w.heap.size w (w.alloc o)) := fun o => (Below.refl _ _).alloc (Nat.le_refl _) _
  subst hb
  by_cases h0 : 1 ≤ x.a
  · skip
    by_cases h1 : x.a ≤ 1000000
    · skip
      by_cases h2 : 1 ≤ x.b
      · skip
        by_cases h3 : x.b ≤ 1000000
        · skip
          have ha : inB 1 1000000 x.a = true := by unfold inB; simp [h0, h1]
          have hb : inB 1 1000000 x.b = true := by unfold inB; simp [h2, h3]
          cases hc : inB 0 1000000 x.c with
          | true =>
            have hr : Hid (x.fine = decide ((x.d.size : Int) ≤ 20)) := by show _ = _; unfold Ev.fine; rw [ha, hb, hc]; simp
            clear ha hb
            go_enter Try.func29, Try.ntmps29
            go_wp2_with (first | (go_at_call 31; refine (time_any _ true hc _).mono ?_; rintro e w1 ⟨rfl, rfl⟩))
            go_ret
            exact ⟨ret_bool hr.out.symm, HB.out _⟩
          | false =>
            have hr : Hid (x.fine = false) := by show _ = _; unfold Ev.fine; rw [hc]; simp
            clear ha hb
            go_enter Try.func29, Try.ntmps29
            go_wp2_with (first | (go_at_call 31; refine (time_any _ false hc _).mono ?_; rintro e w1 ⟨rfl, rfl⟩))
            go_ret
            exact ⟨ret_bool hr.out.symm, HB.out _⟩
        · have hr : Hid (x.fine = false) := by
            show _ = _
            have : inB 1 1000000 x.b = false := by unfold inB; simp [h3]
            unfold Ev.fine; rw [this]; simp
          have h3' : decide (x.b ≤ 1000000) = false := by simpa using h3
          clear h3
          go_enter Try.func29, Try.ntmps29
          go_wp2
          go_ret
          exact ⟨ret_bool hr.out.symm, HB.out _⟩
      · have hr : Hid (x.fine = false) := by
          show _ = _
          have : inB 1 1000000 x.b = false := by unfold inB; simp [h2]
          unfold Ev.fine; rw [this]; simp
        have h2' : decide (1 ≤ x.b) = false := by simpa using h2
        clear h2
        go_enter Try.func29, Try.ntmps29
        go_wp2
        go_ret
        exact ⟨ret_bool hr.out.symm, HB.out _⟩
    · have hr : Hid (x.fine = false) := by
        show _ = _
        have : inB 1 1000000 x.a = false := by unfold inB; simp [h1]
        unfold Ev.fine; rw [this]; simp
      have h1' : decide (x.a ≤ 1000000) = false := by simpa using h1
      clear h1
      go_enter Try.func29, Try.ntmps29
      go_wp2
      go_ret
      exact ⟨ret_bool hr.out.symm, HB.out _⟩
  · have hr : Hid (x.fine = false) := by
      show _ = _
      have : inB 1 1000000 x.a = false := by unfold inB; simp [h0]
      unfold Ev.fine; rw [this]; simp
    have h0' : decide (1 ≤ x.a) = false := by simpa using h0
    clear h0
    go_enter Try.func29, Try.ntmps29
    go_wp2
    go_ret
    exact ⟨ret_bool hr.out.symm, HB.out _⟩
end Go.Proofs.Ytaepmojiiiinaaa
