/-
  How far two texts begin alike and end alike: plainly, and the program's commonBeginning and commonEnd. No condition.
-/
import Derived.Test.YtjfciokpnhnhbaaSqDs
import Derived.BigQuiet
namespace Go.Proofs.Ytjfciokpnhnhbaa
open Go.RowKit
set_option linter.unusedVariables false

/-- alike from the front, from place k on -/
def cbF (s t : ByteArray) : Nat → Nat → Nat
  | 0, k => k
  | f + 1, k => if k < s.size ∧ k < t.size ∧ bt s k = bt t k then cbF s t f (k + 1) else k
def cb (s t : ByteArray) : Nat := cbF s t s.size 0
theorem cbF_yes {s t : ByteArray} {k : Nat} (h : k < s.size ∧ k < t.size ∧ bt s k = bt t k) : cbF s t (s.size - k) k = cbF s t (s.size - (k + 1)) (k + 1) := by
  obtain ⟨f, hf⟩ : ∃ f, s.size - k = f + 1 := ⟨s.size - k - 1, by omega⟩
  rw [hf, show s.size - (k + 1) = f by omega]
  show (if _ then _ else _) = _
  rw [if_pos h]
theorem cbF_no {s t : ByteArray} {k f : Nat} (h : ¬ (k < s.size ∧ k < t.size ∧ bt s k = bt t k)) : cbF s t f k = k := by
  cases f with
  | zero => rfl
  | succ f =>
    show (if _ then _ else _) = _
    rw [if_neg h]
theorem cbF_le {s t : ByteArray} : ∀ (f k : Nat), k ≤ s.size → k ≤ t.size → cbF s t f k ≤ s.size ∧ cbF s t f k ≤ t.size := by
  intro f
  induction f with
  | zero => intro k h h'; exact ⟨h, h'⟩
  | succ f ih =>
    intro k h h'
    show (if _ then _ else _) ≤ _ ∧ (if _ then _ else _) ≤ _
    by_cases hc : k < s.size ∧ k < t.size ∧ bt s k = bt t k
    · rw [if_pos hc]
      exact ih (k + 1) (by omega) (by omega)
    · rw [if_neg hc]
      exact ⟨h, h'⟩
theorem cb_le (s t : ByteArray) : cb s t ≤ s.size ∧ cb s t ≤ t.size := cbF_le _ _ (Nat.zero_le _) (Nat.zero_le _)

set_option maxRecDepth 10000 in
set_option maxHeartbeats 4000000 in
theorem commonBeginning_any (s t : ByteArray) (hs : s.size ≤ 1048576) (ht : t.size ≤ 1048576) (w : World) :
    Calls Try.prog 26 #[.string s, .string t] w fun e w' => e = .returned (.int .i64 (cb s t)) ∧ Below w.heap.size w w' := by
  go_enter Try.func26, Try.ntmps26
  go_wp2
  go_loopw [5] (fun i wr => ∃ k : Nat, k ≤ s.size ∧ i = .int .i64 k ∧ Hid (cbF s t (s.size - k) k = cb s t) ∧ Hid (Below w.heap.size w wr)) (fun i _ => s.size - (Go.RowKit.intOf i).toNat)
  case atStart => exact ⟨0, Nat.zero_le _, rfl, rfl, Below.refl _ _⟩
  case round =>
    obtain ⟨k, hk, rfl, HC, HB⟩ := hrel
    by_cases h1 : k < s.size
    · have h1I : decide ((k : Int) < (s.size : Int)) = true := decide_eq_true (by omega)
      by_cases h2 : k < t.size
      · have h2I : decide ((k : Int) < (t.size : Int)) = true := decide_eq_true (by omega)
        have b1 := bt_in h1
        have b2 := bt_in h2
        by_cases h3 : bt s k = bt t k
        · have h3I : ((s[k].toNat : Int) == (t[k].toNat : Int)) = true := by rw [b1, b2, h3]; simp
          have HN : Hid (cbF s t (s.size - (k + 1)) (k + 1) = cb s t) := (cbF_yes ⟨h1, h2, h3⟩).symm.trans HC.out
          clear h3 b1 b2
          go_wp2
          go_quiet (fail)
          go_wp2
          go_roundw
          case rel => exact ⟨k + 1, by omega, by go_num, HN, below_drewN HB.out _⟩
          case measure => simp [Go.RowKit.intOf]; omega
        · have h3I : ((s[k].toNat : Int) == (t[k].toNat : Int)) = false := by rw [b1, b2]; simpa using h3
          have HN : Hid (cb s t = k) := HC.out.symm.trans (cbF_no (fun h => h3 h.2.2))
          clear h3 b1 b2
          go_wp2
          go_quiet (fail)
          go_wp2
          go_ret
          exact ⟨ret_int (by rw [HN.out]), below_drewN HB.out _⟩
      · have h2I : decide (k < t.size) = false := decide_eq_false (by omega)
        have HN : Hid (cb s t = k) := HC.out.symm.trans (cbF_no (fun h => h2 h.2.1))
        clear h2
        go_wp2
        go_quiet (fail)
        go_wp2
        go_ret
        exact ⟨ret_int (by rw [HN.out]), below_drewN HB.out _⟩
    · have h1I : decide (k < s.size) = false := decide_eq_false (by omega)
      have HN : Hid (cb s t = k) := HC.out.symm.trans (cbF_no (fun h => h1 h.1))
      clear h1
      go_wp2
      go_quiet (fail)
      go_wp2
      go_ret
      exact ⟨ret_int (by rw [HN.out]), below_drewN HB.out _⟩

/-- alike from the end, over what lies behind place b -/
def ceF (s t : ByteArray) (b : Nat) : Nat → Nat → Nat
  | 0, k => k
  | f + 1, k => if k < s.size - b ∧ k < t.size - b ∧ bt s (s.size - 1 - k) = bt t (t.size - 1 - k) then ceF s t b f (k + 1) else k
def ce (s t : ByteArray) (b : Nat) : Nat := ceF s t b (s.size - b) 0
theorem ceF_yes {s t : ByteArray} {b k : Nat} (h : k < s.size - b ∧ k < t.size - b ∧ bt s (s.size - 1 - k) = bt t (t.size - 1 - k)) : ceF s t b (s.size - b - k) k = ceF s t b (s.size - b - (k + 1)) (k + 1) := by
  obtain ⟨f, hf⟩ : ∃ f, s.size - b - k = f + 1 := ⟨s.size - b - k - 1, by omega⟩
  rw [hf, show s.size - b - (k + 1) = f by omega]
  show (if _ then _ else _) = _
  rw [if_pos h]
theorem ceF_no {s t : ByteArray} {b k f : Nat} (h : ¬ (k < s.size - b ∧ k < t.size - b ∧ bt s (s.size - 1 - k) = bt t (t.size - 1 - k))) : ceF s t b f k = k := by
  cases f with
  | zero => rfl
  | succ f =>
    show (if _ then _ else _) = _
    rw [if_neg h]
theorem ceF_le {s t : ByteArray} {b : Nat} : ∀ (f k : Nat), k ≤ s.size - b → k ≤ t.size - b → ceF s t b f k ≤ s.size - b ∧ ceF s t b f k ≤ t.size - b := by
  intro f
  induction f with
  | zero => intro k h h'; exact ⟨h, h'⟩
  | succ f ih =>
    intro k h h'
    show (if _ then _ else _) ≤ _ ∧ (if _ then _ else _) ≤ _
    by_cases hc : k < s.size - b ∧ k < t.size - b ∧ bt s (s.size - 1 - k) = bt t (t.size - 1 - k)
    · rw [if_pos hc]
      exact ih (k + 1) (by omega) (by omega)
    · rw [if_neg hc]
      exact ⟨h, h'⟩
theorem ce_le (s t : ByteArray) (b : Nat) : ce s t b ≤ s.size - b ∧ ce s t b ≤ t.size - b := ceF_le _ _ (Nat.zero_le _) (Nat.zero_le _)
theorem bt_cut {s : ByteArray} {b k : Nat} (h : k < s.size - b) : bt (s.extract b s.size) ((s.extract b s.size).size - 1 - k) = bt s (s.size - 1 - k) := by
  have e : (s.extract b s.size).size = s.size - b := by rw [ByteArray.size_extract]; omega
  rw [e]
  unfold bt
  rw [dif_pos (by rw [e]; omega), dif_pos (by omega)]
  have : (s.extract b s.size)[s.size - b - 1 - k]'(by rw [e]; omega) = s[s.size - 1 - k]'(by omega) := by
    rw [ByteArray.getElem_extract]
    congr 1
    omega
  rw [this]
theorem ce_cut (s t : ByteArray) (b : Nat) : ce (s.extract b s.size) (t.extract b t.size) 0 = ce s t b := by
  have e : (s.extract b s.size).size = s.size - b := by rw [ByteArray.size_extract]; omega
  have e' : (t.extract b t.size).size = t.size - b := by rw [ByteArray.size_extract]; omega
  have key : ∀ f k, ceF (s.extract b s.size) (t.extract b t.size) 0 f k = ceF s t b f k := by
    intro f
    induction f with
    | zero => intro k; rfl
    | succ f ih =>
      intro k
      show (if _ then _ else _) = (if _ then _ else _)
      by_cases hc : k < s.size - b ∧ k < t.size - b ∧ bt s (s.size - 1 - k) = bt t (t.size - 1 - k)
      · rw [if_pos hc, if_pos ⟨by rw [e]; omega, by rw [e']; omega, by rw [bt_cut hc.1, bt_cut hc.2.1]; exact hc.2.2⟩]
        exact ih _
      · rw [if_neg hc, if_neg]
        rintro ⟨h1, h2, h3⟩
        have h1' : k < s.size - b := by rw [e] at h1; omega
        have h2' : k < t.size - b := by rw [e'] at h2; omega
        rw [bt_cut h1', bt_cut h2'] at h3
        exact hc ⟨h1', h2', h3⟩
  unfold ce
  rw [key, e]
  rfl

set_option maxRecDepth 10000 in
set_option maxHeartbeats 4000000 in
theorem commonEnd_any (s t : ByteArray) (hs : s.size ≤ 1048576) (ht : t.size ≤ 1048576) (w : World) :
    Calls Try.prog 27 #[.string s, .string t] w fun e w' => e = .returned (.int .i64 (ce s t 0)) ∧ Below w.heap.size w w' := by
  go_enter Try.func27, Try.ntmps27
  go_wp2
  go_loopw [5] (fun i wr => ∃ k : Nat, k ≤ s.size ∧ i = .int .i64 k ∧ Hid (ceF s t 0 (s.size - 0 - k) k = ce s t 0) ∧ Hid (Below w.heap.size w wr)) (fun i _ => s.size - (Go.RowKit.intOf i).toNat)
  case atStart => exact ⟨0, Nat.zero_le _, rfl, rfl, Below.refl _ _⟩
  case round =>
    obtain ⟨k, hk, rfl, HC, HB⟩ := hrel
    by_cases h1 : k < s.size
    · have h1I : decide (k < s.size) = true := decide_eq_true (by omega)
      by_cases h2 : k < t.size
      · have h2I : decide (k < t.size) = true := decide_eq_true (by omega)
        obtain ⟨p, hp⟩ : ∃ p : Nat, p = s.size - 1 - k := ⟨_, rfl⟩
        obtain ⟨q, hq⟩ : ∃ q : Nat, q = t.size - 1 - k := ⟨_, rfl⟩
        have hps : p < s.size := by omega
        have hqt : q < t.size := by omega
        have b1 := bt_in hps
        have b2 := bt_in hqt
        have w1 : IntKind.i64.wrap ((s.size : Int) - 1) = (s.size : Int) - 1 := by rw [IntKind.wrap_i64]; omega
        have w2 : IntKind.i64.wrap ((t.size : Int) - 1) = (t.size : Int) - 1 := by rw [IntKind.wrap_i64]; omega
        have w3 : IntKind.i64.wrap ((s.size : Int) - 1 - (k : Int)) = (p : Int) := by rw [IntKind.wrap_i64]; omega
        have w4 : IntKind.i64.wrap ((t.size : Int) - 1 - (k : Int)) = (q : Int) := by rw [IntKind.wrap_i64]; omega
        have w5 : (s.size : Int) - 1 - (k : Int) = (p : Int) := by omega
        have w6 : (t.size : Int) - 1 - (k : Int) = (q : Int) := by omega
        by_cases h3 : bt s p = bt t q
        · have h3I : ((s[p].toNat : Int) == (t[q].toNat : Int)) = true := by rw [b1, b2, h3]; simp
          have HN : Hid (ceF s t 0 (s.size - 0 - (k + 1)) (k + 1) = ce s t 0) := (ceF_yes ⟨by omega, by omega, by rw [← hp, ← hq]; exact h3⟩).symm.trans HC.out
          clear h3 b1 b2 hp hq
          go_wp2
          go_quiet (fail)
          go_wp2
          go_roundw
          case rel => exact ⟨k + 1, by omega, by go_num, HN, below_drewN HB.out _⟩
          case measure => simp [Go.RowKit.intOf]; omega
        · have h3I : ((s[p].toNat : Int) == (t[q].toNat : Int)) = false := by rw [b1, b2]; simpa using h3
          have HN : Hid (ce s t 0 = k) := HC.out.symm.trans (ceF_no (fun h => h3 (by rw [hp, hq]; exact h.2.2)))
          clear h3 b1 b2 hp hq
          go_wp2
          go_quiet (fail)
          go_wp2
          go_ret
          exact ⟨ret_int (by rw [HN.out]), below_drewN HB.out _⟩
      · have h2I : decide (k < t.size) = false := decide_eq_false (by omega)
        have HN : Hid (ce s t 0 = k) := HC.out.symm.trans (ceF_no (fun h => h2 (by have := h.2.1; omega)))
        clear h2
        go_wp2
        go_quiet (fail)
        go_wp2
        go_ret
        exact ⟨ret_int (by rw [HN.out]), below_drewN HB.out _⟩
    · have h1I : decide (k < s.size) = false := decide_eq_false (by omega)
      have HN : Hid (ce s t 0 = k) := HC.out.symm.trans (ceF_no (fun h => h1 (by have := h.1; omega)))
      clear h1
      go_wp2
      go_quiet (fail)
      go_wp2
      go_ret
      exact ⟨ret_int (by rw [HN.out]), below_drewN HB.out _⟩
end Go.Proofs.Ytjfciokpnhnhbaa
