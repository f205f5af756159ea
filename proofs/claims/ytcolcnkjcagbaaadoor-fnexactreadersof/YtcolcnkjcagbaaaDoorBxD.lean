/-
  The specification's BoxOk: a box is right just where its term is the text of a body sealed by its key. Condition: the text is not huge.
-/
import Derived.Test.YtcolcnkjcagbaaaDoorPrB
import Derived.Test.YtcolcnkjcagbaaaDoorFields
namespace Go.Proofs.YtcolcnkjcagbaaaDoor
open Go.RowKit
set_option linter.unusedVariables false

def boxTr (K n : Nat) : Tr := ⟨.inr (.inr (.inr (6, K, ⟨.inl (1, n)⟩)))⟩
theorem box_txt (K n : Nat) : (boxTr K n).txt = ((((⟨#[101, 40, 107]⟩ ++ decB K) ++ ⟨#[44, 97]⟩) ++ decB n) ++ ⟨#[41]⟩) := by
  unfold boxTr
  rw [txt_keyed, txt_leaf]
  apply ba_ext
  simp only [app_list, List.append_assoc]
  rfl
def hitB (key : Int) (s : ByteArray) (n : Nat) : Bool := s.toList == (boxTr key.toNat n).txt.toList
def anyB (key : Int) (s : ByteArray) (k : Nat) : Bool := (List.range k).any (hitB key s)
def rangeB (key : Int) : Bool := decide (100 ≤ key) && decide (key ≤ 199)
def boxB (key : Int) (s : ByteArray) : Bool := rangeB key && anyB key s 61
theorem anyB_succ (key : Int) (s : ByteArray) (k : Nat) : anyB key s (k + 1) = (anyB key s k || hitB key s k) := by
  unfold anyB
  rw [List.range_succ, List.any_append]
  simp
theorem anyB_hit {key : Int} {s : ByteArray} {k m : Nat} (hk : k < m) (h : hitB key s k = true) : anyB key s m = true := by
  unfold anyB
  rw [List.any_eq_true]
  exact ⟨k, List.mem_range.2 hk, h⟩

theorem tenpow : ∀ k, k ≤ 19 → (10 : Int) ^ k ≤ 10 ^ 19 := by decide
set_option maxRecDepth 4000 in
set_option maxHeartbeats 400000 in
theorem l1Dec_nat (n : Nat) (h2 : n ≤ 9223372036854775807) (w : World) :
    Calls Tryd.prog 29 #[.int .i64 n] w fun e w' => (e = .returned (.string (decB n)) ∧ (decB n).size ≤ 30) ∧ Below w.heap.size w w' := by
  go_enter Tryd.func29, Tryd.ntmps29
  go_wp2
  go_loopw [0, 3] (fun x y wr => ∃ (m : Nat) (j : Nat) (t : ByteArray), x = .int .i64 m ∧ y = .string t ∧ Hid ((m : Int) < 10 ^ (19 - j)) ∧ j ≤ 19 ∧ Hid (t.size = j) ∧ Hid (decB n = decB m ++ t) ∧ Below w.heap.size w wr) (fun x _ _ => (intOf x).toNat)
  case atStart => exact ⟨n, 0, _, rfl, rfl, (by show _ < _; simp; omega), Nat.zero_le _, rfl, by show _ = _; exact ByteArray.append_empty.symm, Below.refl _ _⟩
  case round =>
    obtain ⟨m, j, t, rfl, rfl, hm, hj, ht, hd, hB⟩ := hrel
    have hadd : ∀ (c : Int) (w' : World), (Op.stringOp .add (dgI c) t).run Tryd.prog w' = .ok (.string (dgI c ++ t)) w' := fun c w' => run_string_add_sum w' _ _ (by have := ht.out; have := dgI_size c; omega)
    have hcv := byte_string wr
    have hm19 : m < 10000000000000000000 := by
      have := tenpow (19 - j) (by omega)
      have h3 := hm.out
      have e10 : (10 : Int) ^ 19 = 10000000000000000000 := by decide
      omega
    by_cases h10 : m < 10
    · have hlt : (m : Int) < 10 := by omega
      have hr : Hid (decB n = dgI (48 + (m : Int)) ++ t) := by
        show _ = _
        rw [hd.out, decB_one h10]
      go_wp2
      go_ret
      exact ⟨⟨by rw [hr.out]; rfl, by rw [hr.out, ByteArray.size_append, dgI_size, ht.out]; omega⟩, hB.alloc hB.size _⟩
    · have hlt : (10 : Int) ≤ (m : Int) := by omega
      have hr : Hid (decB n = decB (m / 10) ++ (dgI (48 + (m : Int) % 10) ++ t)) := by
        show _ = _
        rw [hd.out, decB_more h10, ByteArray.append_assoc]
      have hj2 : j < 18 := by
        rcases Nat.lt_or_ge j 18 with h | h
        · exact h
        · have h3 := hm.out
          have : (10 : Int) ^ (19 - j) ≤ 10 := by
            rcases Nat.lt_or_ge 18 j with h4 | h4
            · rw [show 19 - j = 0 by omega]; decide
            · rw [show 19 - j = 1 by omega]; decide
          omega
      have hp : Hid (((m / 10 : Nat) : Int) < 10 ^ (19 - (j + 1))) := by
        show _ < _
        have h3 := hm.out
        have e : (10 : Int) ^ (19 - j) = 10 * 10 ^ (19 - (j + 1)) := by rw [show 19 - j = (19 - (j + 1)) + 1 by omega, Int.pow_succ]; omega
        omega
      have hj3 : j + 1 ≤ 19 := by omega
      have hts : Hid ((dgI (48 + (m : Int) % 10) ++ t).size = j + 1) := by
        show _ = _
        rw [ByteArray.size_append, dgI_size, ht.out]
        omega
      clear h10 h2
      go_wp2
      go_roundw
      case rel => exact ⟨m / 10, j + 1, _, by go_num, rfl, hp, hj3, hts, hr, hB.alloc hB.size _⟩
      case measure => simp [intOf]; omega
/-- a number in decimal, whatever the number -/
def decI (n : Int) : ByteArray := if 0 ≤ n then decB n.toNat else dgI ((48 + n) % 256)
set_option maxRecDepth 4000 in
set_option maxHeartbeats 400000 in
theorem l1Dec_neg (n : Int) (h1 : -9223372036854775808 ≤ n) (h2 : n < 0) (w : World) :
    Calls Tryd.prog 29 #[.int .i64 n] w fun e w' => e = .returned (.string (dgI ((48 + n) % 256))) ∧ Below w.heap.size w w' := by
  have hcv := byte_string w
  have h10 : ¬ (10 : Int) ≤ n := by omega
  have hadd : ∀ (c : Int) (w' : World), (Op.stringOp .add (dgI c) ⟨#[]⟩).run Tryd.prog w' = .ok (.string (dgI c ++ ⟨#[]⟩)) w' := fun c w' => run_string_add_sum w' _ _ (by have := dgI_size c; show _ + 0 ≤ _; omega)
  go_enter Tryd.func29, Tryd.ntmps29
  go_wp2
  refine wp_loop_rounds 1 ?_
  rw [rounds_succ]
  go_wp2
  go_ret
  exact ⟨congrArg (fun t => Ending.returned (Value.string t)) (ByteArray.append_empty (b := dgI ((48 + n) % 256))), (Below.refl _ _).alloc (Nat.le_refl _) _⟩
theorem l1Dec_int (n : Int) (h1 : -9223372036854775808 ≤ n) (h2 : n ≤ 9223372036854775807) (w : World) :
    Calls Tryd.prog 29 #[.int .i64 n] w fun e w' => e = .returned (.string (decI n)) ∧ Below w.heap.size w w' := by
  unfold decI
  by_cases h : 0 ≤ n
  · obtain ⟨k, rfl⟩ : ∃ k : Nat, n = k := ⟨n.toNat, by omega⟩
    rw [if_pos h]
    refine (l1Dec_nat k (by omega) w).mono ?_
    rintro e w' ⟨⟨rfl, _⟩, hB⟩
    exact ⟨by simp, hB⟩
  · rw [if_neg h]
    exact l1Dec_neg n h1 (by omega) w
theorem decB_len : ∀ (k n : Nat), n < 10 ^ (k + 1) → (decB n).size ≤ k + 1
  | 0, n, h => by rw [decB_one (by simpa using h), dgI_size]; exact Nat.le_refl _
  | k + 1, n, h => by
    by_cases h1 : n < 10
    · rw [decB_one h1, dgI_size]; omega
    · rw [decB_more h1, ByteArray.size_append, dgI_size]
      have e : (10 : Nat) ^ (k + 1 + 1) = 10 * 10 ^ (k + 1) := by rw [Nat.pow_succ]; omega
      have := decB_len k (n / 10) (by omega)
      omega
theorem decI_size (n : Int) (h2 : n ≤ 9223372036854775807) : (decI n).size ≤ 30 := by
  unfold decI
  split
  · have e : (10 : Nat) ^ (18 + 1) = 10000000000000000000 := by decide
    have := decB_len 18 n.toNat (by omega)
    omega
  · rw [dgI_size]; omega

/-- the text that the specification holds a box's term against -/
def boxI (key : Int) (n : Nat) : ByteArray := (((⟨#[101, 40, 107]⟩ ++ decI key) ++ ⟨#[44, 97]⟩) ++ decB n) ++ ⟨#[41]⟩
theorem boxI_txt {key : Int} (h : 0 ≤ key) (n : Nat) : boxI key n = (boxTr key.toNat n).txt := by
  unfold boxI decI
  rw [if_pos h, box_txt]

def anyI (key : Int) (s : ByteArray) (k : Nat) : Bool := (List.range k).any fun n => s.toList == (boxI key n).toList
theorem anyI_succ (key : Int) (s : ByteArray) (k : Nat) : anyI key s (k + 1) = (anyI key s k || (s.toList == (boxI key k).toList)) := by
  unfold anyI
  rw [List.range_succ, List.any_append]
  simp
theorem anyI_hit {key : Int} {s : ByteArray} {k m : Nat} (hk : k < m) (h : (s.toList == (boxI key k).toList) = true) : anyI key s m = true := by
  unfold anyI
  rw [List.any_eq_true]
  exact ⟨k, List.mem_range.2 hk, h⟩

/-- x is the number of the body in a right box's term -/
def NumI (key : Int) (s : ByteArray) (x : Int) : Prop := anyI key s 61 = true → ∃ n : Nat, x = n ∧ n ≤ 60 ∧ s.toList = (boxI key n).toList
set_option maxRecDepth 4000 in
set_option maxHeartbeats 1000000 in
theorem l12Body_num (key : Int) (s : ByteArray) (h1 : -9223372036854775808 ≤ key) (h2 : key ≤ 9223372036854775807) (w : World) :
    Calls Tryd.prog 22 #[.agg #[.int .i64 key, .string s]] w fun e w' => ∃ x, e = .returned (.tuple #[.int .i64 x, .bool (anyI key s 61)]) ∧ Hid (NumI key s x) ∧ Below w.heap.size w w' := by
  have HD : Hid (∀ w, Calls Tryd.prog 29 #[.int .i64 key] w fun e w' => e = .returned (.string (decI key)) ∧ Below w.heap.size w w') := fun w => l1Dec_int key h1 h2 w
  have HB0 : Hid (Below w.heap.size w (w.alloc (.cells #[.int .i64 key, .string s] 26))) := (Below.refl _ _).alloc (Nat.le_refl _) _
  have HX : Hid ((w.alloc (.cells #[.int .i64 key, .string s] 26)).heap[w.heap.size]? = some (.cells #[.int .i64 key, .string s] 26 (0, 0))) := heap_alloc_new w _
  have hds := decI_size key h2
  clear h1 h2
  go_enter Tryd.func22, Tryd.ntmps22
  go_wp2
  go_loopw [4] (fun i wr => ∃ (k : Nat), k ≤ 61 ∧ i = .int .i64 k ∧ Hid (anyI key s k = false) ∧ Hid (wr.heap[w.heap.size]? = some (.cells #[.int .i64 key, .string s] 26 (0, 0))) ∧ Below w.heap.size w wr) (fun i _ => 61 - (intOf i).toNat)
  case atStart => exact ⟨0, by omega, rfl, rfl, HX, HB0.out⟩
  case round =>
    obtain ⟨k, hk, rfl, HA, HR, hB⟩ := hrel
    by_cases hlt : k ≤ 60
    · have hltI : (k : Int) ≤ 60 := by omega
      have q0 : ∀ u : Later wr, u.val.cell? ⟨w.heap.size, 0, none⟩ = some (.int .i64 key) := fun u => u.cell (cell_of_row wr _ 0 _ _ _ HR.out)
      have q1 : ∀ u : Later wr, u.val.cell? ⟨w.heap.size, 1, none⟩ = some (.string s) := fun u => u.cell (cell_of_row wr _ 1 _ _ _ HR.out)
      have hne := Later.any wr
      have zk := decB_size k
      have z1 : (ByteArray.mk #[101, 40, 107]).size = 3 := rfl
      have z2 : (ByteArray.mk #[44, 97]).size = 2 := rfl
      have z3 : (ByteArray.mk #[41]).size = 1 := rfl
      have ha1 := add_ok (a := ⟨#[101, 40, 107]⟩) (b := decI key) (by omega)
      have ha2 := add_ok (a := ⟨#[101, 40, 107]⟩ ++ decI key) (b := ⟨#[44, 97]⟩) (by rw [ByteArray.size_append, z1, z2]; omega)
      have ha3 := add_ok (a := (⟨#[101, 40, 107]⟩ ++ decI key) ++ ⟨#[44, 97]⟩) (b := decB k) (by rw [ByteArray.size_append, ByteArray.size_append, z1, z2]; omega)
      have ha4 := add_ok (a := ((⟨#[101, 40, 107]⟩ ++ decI key) ++ ⟨#[44, 97]⟩) ++ decB k) (b := ⟨#[41]⟩) (by rw [ByteArray.size_append, ByteArray.size_append, ByteArray.size_append, z1, z2, z3]; omega)
      have HDk : Hid (∀ w, Calls Tryd.prog 29 #[.int .i64 k] w fun e w' => e = .returned (.string (decB k)) ∧ Below w.heap.size w w') := fun w => l1Dec_any k (by omega) w
      have HB := (show Hid _ from hB)
      clear zk z1 z2 z3 hB
      cases hq : (s.toList == (boxI key k).toList) with
      | true =>
        have HY : Hid (anyI key s 61 = true) := anyI_hit (by omega) hq
        have HN : Hid (NumI key s (k : Int)) := fun _ => ⟨k, rfl, hlt, by simpa using hq⟩
        unfold boxI at hq
        go_wp2
        refine wp_region_later (by kernel_rfl) (by kernel_rfl) ?_
        repeat (go_big_quiet_step ((first | with_reducible exact Calls.later (HD.out _) | with_reducible exact Calls.later (HDk.out _))))
        refine wpQuiet_nil ?_
        rintro _ ⟨⟨w', hB2⟩, rfl⟩
        go_wp2
        go_ret2
        rw [HY.out]
        exact ⟨k, rfl, HN, HB.out.trans (hB2.mono HB.out.size)⟩
      | false =>
        have HY : Hid (anyI key s (k + 1) = false) := by show _ = _; rw [anyI_succ, HA.out, hq]; rfl
        unfold boxI at hq
        go_wp2
        refine wp_region_later (by kernel_rfl) (by kernel_rfl) ?_
        repeat (go_big_quiet_step ((first | with_reducible exact Calls.later (HD.out _) | with_reducible exact Calls.later (HDk.out _))))
        refine wpQuiet_nil ?_
        rintro _ ⟨⟨w', hB2⟩, rfl⟩
        have hB3 := HB.out.trans (hB2.mono HB.out.size)
        have hx3 := (hB2.block _ (lt_of_block HR.out)).trans HR.out
        have HX3 := (show Hid _ from hx3)
        clear hx3
        clear hB2
        go_wp2
        go_roundw
        case rel => exact ⟨k + 1, by omega, by go_num, HY, HX3, hB3⟩
        case measure => simp [intOf]; omega
    · have hltI : ¬ (k : Int) ≤ 60 := by omega
      have hke : k = 61 := by omega
      subst hke
      have HN : Hid (NumI key s 0) := fun h => by rw [HA.out] at h; cases h
      go_wp2
      go_ret2
      rw [HA.out]
      exact ⟨0, rfl, HN, hB⟩
theorem l12Body_any (key : Int) (s : ByteArray) (h1 : -9223372036854775808 ≤ key) (h2 : key ≤ 9223372036854775807) (w : World) :
    Calls Tryd.prog 22 #[.agg #[.int .i64 key, .string s]] w fun e w' => ∃ x, e = .returned (.tuple #[.int .i64 x, .bool (anyI key s 61)]) ∧ Below w.heap.size w w' :=
  (l12Body_num key s h1 h2 w).mono fun _ _ ⟨x, h, _, hB⟩ => ⟨x, h, hB⟩
end Go.Proofs.YtcolcnkjcagbaaaDoor
