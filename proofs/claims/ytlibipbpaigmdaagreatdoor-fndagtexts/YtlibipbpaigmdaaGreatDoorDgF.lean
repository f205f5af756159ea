/-
  The laws' own comparing of texts. No condition but that the slices read.
  Of some ids those that are none of a dag's, at the dag seat. Condition: the slices read and the tables lie.
  Drawn ids of a dag. Condition: the code reads as bytes.
-/
import Derived.Test.YtlibipbpaigmdaaGreatDoorDgE
import Derived.Test.YtlibipbpaigmdaaGreatDoorDgA
namespace Go.Proofs.YtlibipbpaigmdaaGreatDoor
open Go.RowKit
set_option linter.unusedVariables false

set_option maxHeartbeats 400000 in
theorem lawHas_any (a : Option Addr) (len cap : Nat) (I : Nat → ByteArray) (id : ByteArray) (w : World) (h : IsStrs w a len cap I) :
    Calls Tryz.prog 38 #[.slice a len cap, .string id] w fun e w' => e = .returned (.bool (!(outB I len id))) ∧ w' = w := by
  obtain ⟨hlc, hcm, hc⟩ := h
  go_enter Tryz.func38, Tryz.ntmps38
  go_wp2
  go_loop [5] (fun i => ∃ (k : Nat), k ≤ len ∧ i = .int .i64 k ∧ Hid (outB I k id = true)) (fun i => len - (Go.RowKit.intOf i).toNat)
  case atStart => exact ⟨0, Nat.zero_le _, rfl, rfl⟩
  case round =>
    obtain ⟨k, hk, rfl, HR⟩ := hrel
    by_cases hlt : k < len
    · obtain ⟨b, off, rfl, hbs, hcell⟩ := hc (by omega)
      have d1 := hcell k hlt
      have hltI : (k : Int) < (len : Int) := by omega
      clear hcell hc
      cases hq : ((I k).toList == id.toList) with
      | true =>
        have hr : Hid (outB I len id = false) := by
          show _ = _
          unfold outB
          rw [allB_false hlt (by rw [hq]; rfl)]
        go_wp2
        go_ret
        exact ⟨ret_bool (by rw [hr.out]; rfl), rfl⟩
      | false =>
        have HR' : Hid (outB I (k + 1) id = true) := by
          show _ = _
          have := HR.out
          unfold outB at this ⊢
          rw [allB_succ, this, hq]; rfl
        go_wp2
        go_round
        case rel => exact ⟨k + 1, by omega, by go_num, HR'⟩
        case measure => simp [Go.RowKit.intOf]; omega
    · have hke : k = len := by omega
      subst hke
      go_wp2
      go_ret
      exact ⟨ret_bool (by rw [HR.out]; rfl), rfl⟩

set_option maxHeartbeats 400000 in
theorem lawWithin_any (a : Option Addr) (len cap : Nat) (S : Nat → ByteArray) (b : Option Addr) (n bc : Nat) (I : Nat → ByteArray) (w : World) (h : IsStrs w a len cap S) (hi : IsStrs w b n bc I) :
    Calls Tryz.prog 39 #[.slice a len cap, .slice b n bc] w fun e w' => e = .returned (.bool (hasB I n S len)) ∧ w' = w := by
  obtain ⟨hlc, hcm, hc⟩ := h
  have HC : Hid (∀ j, Calls Tryz.prog 38 #[.slice b n bc, .string (S j)] w fun e w' => e = .returned (.bool (!(outB I n (S j)))) ∧ w' = w) := fun j => lawHas_any b n bc I (S j) w hi
  go_enter Tryz.func39, Tryz.ntmps39
  go_wp2
  go_loop [5] (fun i => ∃ (k : Nat), k ≤ len ∧ i = .int .i64 k ∧ Hid (hasB I n S k = true)) (fun i => len - (Go.RowKit.intOf i).toNat)
  case atStart => exact ⟨0, Nat.zero_le _, rfl, rfl⟩
  case round =>
    obtain ⟨k, hk, rfl, HR⟩ := hrel
    by_cases hlt : k < len
    · obtain ⟨b, off, rfl, hbs, hcell⟩ := hc (by omega)
      have d1 := hcell k hlt
      have hltI : (k : Int) < (len : Int) := by omega
      clear hcell hc hi
      cases hq : outB I n (S k) with
      | true =>
        have hr : Hid (hasB I n S len = false) := by
          show _ = _
          unfold hasB
          rw [allB_false hlt (by rw [hq]; rfl)]
        go_wp2_with (go_at_call 38; refine (HC.out k).mono ?_; rintro e w1 ⟨rfl, rfl⟩; rw [hq])
        go_ret
        exact ⟨ret_bool (by rw [hr.out]), rfl⟩
      | false =>
        have HR' : Hid (hasB I n S (k + 1) = true) := by
          show _ = _
          have := HR.out
          unfold hasB at this ⊢
          rw [allB_succ, this, hq]; rfl
        go_wp2_with (go_at_call 38; refine (HC.out k).mono ?_; rintro e w1 ⟨rfl, rfl⟩; rw [hq])
        go_round
        case rel => exact ⟨k + 1, by omega, by go_num, HR'⟩
        case measure => simp [Go.RowKit.intOf]; omega
    · have hke : k = len := by omega
      subst hke
      go_wp2
      go_ret
      exact ⟨ret_bool (by rw [HR.out]), rfl⟩

/-- the first n of two rows of texts are the same -/
def sameB (S T : Nat → ByteArray) (n : Nat) : Bool := allB (fun i => (S i).toList == (T i).toList) n
set_option maxHeartbeats 1000000 in
theorem lawSame_any (a : Option Addr) (len cap : Nat) (S : Nat → ByteArray) (b : Option Addr) (n bc : Nat) (T : Nat → ByteArray) (w : World) (h : IsStrs w a len cap S) (hi : IsStrs w b n bc T) :
    Calls Tryz.prog 36 #[.slice a len cap, .slice b n bc] w fun e w' => e = .returned (.bool (decide (len = n) && sameB S T len)) ∧ Below w.heap.size w w' := by
  obtain ⟨hlc, hcm, hc⟩ := h
  obtain ⟨klc, kcm, kc⟩ := hi
  go_enter Tryz.func36, Tryz.ntmps36
  by_cases hn : len = n
  · subst hn
    go_wp2
    go_loopw [5] (fun i wr => ∃ (k : Nat), k ≤ len ∧ i = .int .i64 k ∧ Hid (sameB S T k = true) ∧ Below w.heap.size w wr) (fun i _ => len - (Go.RowKit.intOf i).toNat)
    case atStart => exact ⟨0, Nat.zero_le _, rfl, rfl, Below.refl _ _⟩
    case round =>
      obtain ⟨k, hk, rfl, HR, hB⟩ := hrel
      by_cases hlt : k < len
      · obtain ⟨b1, off, rfl, hbs, hcell⟩ := hc (by omega)
        obtain ⟨b2, off2, rfl, hbs2, kcell⟩ := kc (by omega)
        have d1 := (hB.cell (p := ⟨b1, off + k, none⟩) hbs).trans (hcell k hlt)
        have d2 := (hB.cell (p := ⟨b2, off2 + k, none⟩) hbs2).trans (kcell k hlt)
        have hltI : (k : Int) < (len : Int) := by omega
        clear hcell hc kcell kc
        cases hq : ((S k).toList == (T k).toList) with
        | false =>
          have hr : Hid (sameB S T len = false) := by
            show _ = _
            unfold sameB
            rw [allB_false hlt hq]
          have hqn : ((S k).toList != (T k).toList) = true := by rw [bne, hq]; rfl
          go_wp2
          go_quiet (fail)
          go_wp2
          go_ret
          exact ⟨ret_bool (by simp [hr.out]), hB.trans ⟨rfl, rfl, rfl, Nat.le_refl _, fun _ _ => rfl⟩⟩
        | true =>
          have HR' : Hid (sameB S T (k + 1) = true) := by
            show _ = _
            have := HR.out
            unfold sameB at this ⊢
            rw [allB_succ, this, hq]; rfl
          have hqn : ((S k).toList != (T k).toList) = false := by rw [bne, hq]; rfl
          go_wp2
          go_quiet (fail)
          go_wp2
          go_roundw
          case rel => exact ⟨k + 1, by omega, by go_num, HR', hB.trans ⟨rfl, rfl, rfl, Nat.le_refl _, fun _ _ => rfl⟩⟩
          case measure => simp [Go.RowKit.intOf]; omega
      · have hke : k = len := by omega
        subst hke
        go_wp2
        go_ret
        exact ⟨ret_bool (by simp [HR.out]), hB⟩
  · have hnI : ¬ (len : Int) = (n : Int) := by omega
    go_wp2
    go_ret
    exact ⟨ret_bool (by simp [hn]), Below.refl _ _⟩

set_option maxHeartbeats 1000000 in
theorem lawIds_any (a : Option Addr) (len cap : Nat) (D : Nat → Nd) (w : World) (h : IsNds w a len cap D) (hf : Fine D len) (hl : len ≤ 1048576) :
    Calls Tryz.prog 37 #[.slice a len cap] w fun e w' => ∃ g gc, e = .returned (.slice g len gc) ∧ IsStrs w' g len gc (fun i => (D i).id) ∧ Below w.heap.size w w' := by
  obtain ⟨hlc, hcm, hc⟩ := h
  obtain ⟨i0, hi, hz0, hz1, hz2⟩ := info_parts info9
  go_enter Tryz.func37, Tryz.ntmps37
  go_wp2
  go_loopw [4, 3] (fun i v wr => ∃ (k : Nat) (xs : List Value), k ≤ len ∧ i = .int .i64 k ∧ wr.ownsRow w.heap.size 9 1 v k xs ∧ Hid (∀ j, j < k → xs[j]? = some (.string (D j).id)) ∧ Below w.heap.size w wr)
    (fun i _ _ => len - (intOf i).toNat)
  case atStart => exact ⟨0, [], Nat.zero_le _, rfl, World.ownsRow_made w #[] 0 (Nat.le_refl _) (by decide) rfl, fun j hj => absurd hj (Nat.not_lt_zero _), (Below.refl _ _).alloc (Nat.le_refl _) _⟩
  case round =>
    obtain ⟨k, xs, hk, rfl, how, HR, hB⟩ := hrel
    have hxl : xs.length = k := by have := how.1; omega
    by_cases hlt : k < len
    · obtain ⟨b, off, rfl, hbs, hcell⟩ := hc (by omega)
      have hltI : (k : Int) < (len : Int) := by omega
      obtain ⟨c0, c1, c2, c3, c4, c5, ci⟩ : NdAt wr b (off + k * 6) (D k) := by
        have n1 := hcell k hlt
        exact ⟨(hB.cell (p := ⟨b, _, none⟩) hbs).trans n1.c0, (hB.cell (p := ⟨b, _, none⟩) hbs).trans n1.c1, (hB.cell (p := ⟨b, _, none⟩) hbs).trans n1.c2, (hB.cell (p := ⟨b, _, none⟩) hbs).trans n1.c3, (hB.cell (p := ⟨b, _, none⟩) hbs).trans n1.c4, (hB.cell (p := ⟨b, _, none⟩) hbs).trans n1.c5, n1.i.below hB⟩
      have HC : Hid (Calls Tryz.prog 58 #[.agg #[.int .i64 (D k).a, .int .i64 (D k).s, .int .i64 (D k).k, .string (D k).key, .string (D k).text, .slice (D k).u (D k).n (D k).cap]] wr fun e w' => e = .returned (.string (D k).id) ∧ Below wr.heap.size wr w') := specIdOf_any _ _ _ _ _ _ _ _ (D k).S wr ci (hf k hlt).2.2 (hf k hlt).1 (hf k hlt).2.1
      have HO := (show Hid _ from how)
      have hc1 : (k + 1 : Nat) ≤ maxLen := by unfold maxLen; omega
      have hc2 : (k + 1) * 16 ≤ 140737488355328 := by omega
      have hso : ∀ x ∈ [Value.string (D k).id], x.oneCell' = true := by simp [Value.oneCell']
      clear hcell hc how ci hf
      go_wp2_with (first
          | (go_at_call 58; refine HC.out.mono ?_; rintro e w2 ⟨rfl, hB2⟩)
          | (at_builtin; refine wpList_append_own _ rfl _ _ 25 rfl w.heap.size 9 i0 (.string ⟨#[]⟩) 1 16 Tryz.underlying25 hi hz0 hz1 hz2 rfl (by decide) _ _ _ rfl ((ownsRow_below HO.out hB2).alloc _) ⟨w2.heap.size, 0, none⟩ 1 1 [.string (D k).id] rfl rfl (World.news_of_block (heap_alloc_new _ _)) hso hc1 hc2 (by have := (hB.trans (hB2.mono hB.size)).size; simp; omega) ?_; intro v' w3 hown hgrow _))
      go_roundw
      case rel =>
        refine ⟨k + 1, _, by omega, by go_num, hown, ?_, ?_⟩
        · intro j hj
          rcases Nat.lt_succ_iff_lt_or_eq.1 hj with h1 | rfl
          · rw [List.getElem?_append_left (by omega)]; exact HR.out j h1
          · rw [List.getElem?_append_right (by omega), hxl, Nat.sub_self]; rfl
        · have hBa := (hB.trans (hB2.mono hB.size)).alloc ((hB.trans (hB2.mono hB.size)).size) (.cells #[.string (D k).id] 9)
          exact hBa.grown hgrow hBa.size (fun x hx => by have := ((ownsRow_below HO.out hB2).lt x hx).1; omega)
      case measure => simp [intOf]; omega
    · have hke : k = len := by omega
      subst hke
      obtain ⟨g, gc, rfl, hS⟩ := strs_of_own how HR.out
      clear how hc hf
      go_wp2
      go_ret
      exact ⟨g, gc, rfl, hS, hB⟩
end Go.Proofs.YtlibipbpaigmdaaGreatDoor

namespace Go.Proofs.YtlibipbpaigmdaaGreatDoor
open Go.RowKit Go.Maps
set_option linter.unusedVariables false

/-- of the first k of S those that are none of I, rising -/
def lkIn (I : Nat → ByteArray) (n : Nat) (S : Nat → ByteArray) : Nat → List (List UInt8)
  | 0 => []
  | k + 1 => if outB I n (S k) = true then putL (lkIn I n S k) (S k).toList else lkIn I n S k
/-- what lacks -/
def lkR (D : Nat → Nd) (len : Nat) (S : Nat → ByteArray) (m : Nat) : List (List UInt8) := if (dagB D len && decide (m ≤ 30)) = true then lkIn (ids D) len S m else []
theorem lkIn_yes {I : Nat → ByteArray} {n : Nat} {S : Nat → ByteArray} {k : Nat} (h : outB I n (S k) = true) : lkIn I n S (k + 1) = putL (lkIn I n S k) (S k).toList := by rw [lkIn, if_pos h]
theorem lkIn_no {I : Nat → ByteArray} {n : Nat} {S : Nat → ByteArray} {k : Nat} (h : outB I n (S k) = false) : lkIn I n S (k + 1) = lkIn I n S k := by rw [lkIn, if_neg (by rw [h]; decide)]
theorem lkIn_len (I : Nat → ByteArray) (n : Nat) (S : Nat → ByteArray) : ∀ k, (lkIn I n S k).length ≤ k
  | 0 => Nat.le_refl _
  | k + 1 => by
    have ih := lkIn_len I n S k
    cases h : outB I n (S k) with
    | true =>
      rw [lkIn_yes h]
      have := putL_len (S k).toList (lkIn I n S k)
      omega
    | false => rw [lkIn_no h]; omega
theorem lkIn_up (I : Nat → ByteArray) (n : Nat) (S : Nat → ByteArray) : ∀ k, Up (lkIn I n S k)
  | 0 => by simp [lkIn, Up]
  | k + 1 => by
    have ih := lkIn_up I n S k
    cases h : outB I n (S k) with
    | true => rw [lkIn_yes h]; exact putL_up _ _ ih
    | false => rw [lkIn_no h]; exact ih
theorem lkIn_nil (I : Nat → ByteArray) (n : Nat) (S : Nat → ByteArray) : ∀ k, lkIn I n S k = [] ↔ ∀ j, j < k → outB I n (S j) = false
  | 0 => by simp [lkIn]
  | k + 1 => by
    have ih := lkIn_nil I n S k
    cases h : outB I n (S k) with
    | true =>
      rw [lkIn_yes h]
      constructor
      · intro e
        have hm := (putL_mem (S k).toList (S k).toList (lkIn I n S k)).2 (.inr rfl)
        rw [e] at hm
        cases hm
      · intro q
        have := q k (by omega)
        rw [h] at this
        cases this
    | false =>
      rw [lkIn_no h, ih]
      constructor
      · intro q j hj
        rcases Nat.lt_succ_iff_lt_or_eq.1 hj with h1 | rfl
        · exact q j h1
        · exact h
      · exact fun q j hj => q j (by omega)
theorem lkR_len (D : Nat → Nd) (len : Nat) (S : Nat → ByteArray) (m : Nat) : (lkR D len S m).length ≤ 1000000 := by
  unfold lkR
  split
  · rename_i h
    simp only [Bool.and_eq_true, decide_eq_true_eq] at h
    have := lkIn_len (ids D) len S m
    omega
  · simp
theorem lkR_at (D : Nat → Nd) (G : Nat → Nat) (len : Nat) (S : Nat → ByteArray) (m : Nat) : lkR (fun i => (D i).at (G i)) len S m = lkR D len S m := rfl

set_option maxHeartbeats 4000000 in
theorem specLacking_any (a : Option Addr) (len cap : Nat) (D : Nat → Nd) (c : Option Addr) (m mcap : Nat) (S : Nat → ByteArray) (w : World) (h : IsNds w a len cap D) (hf : Fine D len) (h' : IsStrs w c m mcap S) :
    Calls Tryz.prog 45 #[.slice a len cap, .slice c m mcap] w fun e w' => ∃ v, e = .returned v ∧ OwnL w' w.heap.size v (lkR D len S m) ∧ Below w.heap.size w w' := by
  have HN : Hid (IsNds w a len cap D) := h
  have HC : Hid (IsStrs w c m mcap S) := h'
  have HF : Hid (Fine D len) := hf
  have hBa : Below w.heap.size w (w.alloc (.cells #[] 9)) := (Below.refl _ _).alloc (Nat.le_refl _) _
  have HS : Hid (Calls Tryz.prog 46 #[.slice a len cap] (w.alloc (.cells #[] 9)) fun e w' => e = .returned (.bool (dagB D len)) ∧ Below (w.alloc (.cells #[] 9)).heap.size (w.alloc (.cells #[] 9)) w') := specDagOk_any a len cap D _ (h.below hBa) hf
  have HM : Hid (OwnS (w.alloc (.cells #[] 9)) w.heap.size w.heap.size 0 []) := OwnS.made w _ (Nat.le_refl _)
  have HBa : Hid (Below w.heap.size w (w.alloc (.cells #[] 9))) := hBa
  have hcap : m ≤ 9223372036854775807 := Nat.le_trans h'.1 h'.2.1
  clear hf hBa h h'
  cases hq : dagB D len with
  | false =>
    have HR : Hid (lkR D len S m = []) := by show _ = _; unfold lkR; rw [if_neg (by rw [hq]; simp)]
    rw [hq] at HS
    go_enter Tryz.func45, Tryz.ntmps45
    go_wp2_with (go_at_call 46; refine HS.out.mono ?_; rintro e w1 ⟨rfl, hB1⟩; have HB1 : Hid (Below w.heap.size w w1) := HBa.out.trans (hB1.mono HBa.out.size); have HO1 : Hid (OwnS w1 w.heap.size w.heap.size 0 []) := HM.out.below hB1; clear hB1)
    go_ret
    refine ⟨_, rfl, ?_, HB1.out⟩
    rw [HR.out]
    exact HO1.out.ownL
  | true =>
  rw [hq] at HS
  by_cases hm : m ≤ 30
  · have HR : Hid (lkR D len S m = lkIn (ids D) len S m) := by show _ = _; unfold lkR; rw [if_pos (by rw [hq]; simp [hm])]
    have hd30 : decide ((30 : Int) < (m : Int)) = false := decide_eq_false (by omega)
    have hl := (dagB_parts hq).1
    have HA : Hid (∀ v, Below w.heap.size w v → Calls Tryz.prog 84 #[.slice a len cap] v fun e w' => ∃ g gc, e = .returned (.slice g len gc) ∧ IsStrs w' g len gc (fun i => (D i).id) ∧ Below v.heap.size v w') := fun v hB => l6All_any a len cap D v (HN.out.below hB) HF.out hl
    clear hq
    go_enter Tryz.func45, Tryz.ntmps45
    go_wp2_with (first
      | (go_at_call 46; refine HS.out.mono ?_; rintro e w1 ⟨rfl, hB1⟩; have HB1 : Hid (Below w.heap.size w w1) := HBa.out.trans (hB1.mono HBa.out.size); have HO1 : Hid (OwnS w1 w.heap.size w.heap.size 0 []) := HM.out.below hB1; clear hB1)
      | (go_at_call 84; refine (HA.out w1 HB1.out).mono ?_; rintro e w3 ⟨g, gc, rfl, hI, hB3⟩; have HB3 : Hid (Below w.heap.size w w3) := HB1.out.trans (hB3.mono HB1.out.size); have HO3 : Hid (OwnS w3 w.heap.size w.heap.size 0 []) := HO1.out.below hB3; have HI : Hid (IsStrs w3 g len gc (ids D)) := hI; clear hB3 hI))
    clear HS HA hd30
    go_loopw [7, 5] (fun i v wr => ∃ (k t tc : Nat), k ≤ m ∧ i = .int .i64 k ∧ v = .slice (some ⟨t, 0, none⟩) (lkIn (ids D) len S k).length tc ∧ OwnS wr w.heap.size t tc (lkIn (ids D) len S k) ∧ Below w3.heap.size w3 wr)
      (fun i _ _ => m - (intOf i).toNat)
    case atStart => exact ⟨0, w.heap.size, 0, Nat.zero_le _, rfl, rfl, HO3.out, Below.refl _ _⟩
    case round =>
      obtain ⟨k, t, tc, hk, rfl, rfl, ho, hB⟩ := hrel
      have HO : Hid (OwnS wr w.heap.size t tc (lkIn (ids D) len S k)) := ho
      have HB : Hid (Below w3.heap.size w3 wr) := hB
      by_cases hlt : k < m
      · have hltI : (k : Int) < (m : Int) := by omega
        have hS := (HC.out.below HB3.out).below hB
        obtain ⟨ub, uo, hu, hus, hucell⟩ := hS.2.2 (by omega)
        have d1 := hucell k hlt
        have hil := lkIn_len (ids D) len S k
        have HPut : Hid (Calls Tryz.prog 113 #[.slice (some ⟨t, 0, none⟩) (lkIn (ids D) len S k).length tc, .string (S k)] wr fun e w' => ∃ g' gc', e = .returned (.slice (some ⟨g', 0, none⟩) (putL (lkIn (ids D) len S k) (S k).toList).length gc') ∧ OwnS w' wr.heap.size g' gc' (putL (lkIn (ids D) len S k) (S k).toList) ∧ Below wr.heap.size wr w') := l1Put_any t 0 tc _ (S k) wr ho.lies.1 ho.lies.2.1 ho.caps.1 ho.caps.2 (by omega)
        have HH : Hid (Calls Tryz.prog 95 #[.slice g len gc, .string (S k)] wr fun e w' => ∃ r : Int, e = .returned (.int .i64 r) ∧ decide (r < 0) = outB (ids D) len (S k) ∧ w' = wr) := l6At_any g len gc (ids D) (S k) wr (HI.out.below hB)
        subst hu
        clear ho hB hS hucell hil
        cases hq : outB (ids D) len (S k) with
        | true =>
          have HY2 : Hid (lkIn (ids D) len S (k + 1) = putL (lkIn (ids D) len S k) (S k).toList) := lkIn_yes hq
          rw [hq] at HH
          clear hq
          go_wp2_with (first
            | (go_at_call 95; refine HH.out.mono ?_; rintro e w5 ⟨r, rfl, hr, hw5⟩; rw [hw5]; clear hw5 w5)
            | (go_at_call 113; refine HPut.out.mono ?_; rintro e w5 ⟨g', gc', rfl, ho2, hB2⟩))
          go_roundw
          case rel =>
            refine ⟨k + 1, g', gc', by omega, by go_num, by rw [HY2.out], ?_, HB.out.trans (hB2.mono HB.out.size)⟩
            rw [HY2.out]
            exact mono_base ho2 (Nat.le_trans HB3.out.size HB.out.size)
          case measure => simp [intOf]; omega
        | false =>
          have HY2 : Hid (lkIn (ids D) len S (k + 1) = lkIn (ids D) len S k) := lkIn_no hq
          rw [hq] at HH
          clear hq HPut
          go_wp2_with (go_at_call 95; refine HH.out.mono ?_; rintro e w5 ⟨r, rfl, hr, hw5⟩; rw [hw5]; clear hw5 w5)
          go_roundw
          case rel => exact ⟨k + 1, t, tc, by omega, by go_num, by rw [HY2.out], by rw [HY2.out]; exact HO.out, HB.out⟩
          case measure => simp [intOf]; omega
      · have hke : k = m := by omega
        subst hke
        clear ho hB
        go_wp2
        go_ret
        refine ⟨_, rfl, ?_, HB3.out.trans (HB.out.mono HB3.out.size)⟩
        rw [HR.out]
        exact OwnS.ownL HO.out
  · have HR : Hid (lkR D len S m = []) := by show _ = _; unfold lkR; rw [if_neg (by simp [hm])]
    have hd30 : decide ((30 : Int) < (m : Int)) = true := decide_eq_true (by omega)
    clear hm
    go_enter Tryz.func45, Tryz.ntmps45
    go_wp2_with (go_at_call 46; refine HS.out.mono ?_; rintro e w1 ⟨rfl, hB1⟩; have HB1 : Hid (Below w.heap.size w w1) := HBa.out.trans (hB1.mono HBa.out.size); have HO1 : Hid (OwnS w1 w.heap.size w.heap.size 0 []) := HM.out.below hB1; clear hB1)
    go_ret
    refine ⟨_, rfl, ?_, HB1.out⟩
    rw [HR.out]
    exact HO1.out.ownL

set_option maxHeartbeats 4000000 in
theorem lackingIn_any (D : Nat → Nd) (len Bd db doff : Nat) (c : Option Addr) (m mcap : Nat) (S : Nat → ByteArray) (w : World) (hO : w.ownsMap Tryz.prog 9 PR Bd len (mapD D db doff len)) (h' : IsStrs w c m mcap S) (hs : ∀ j, j < m → (S j).size ≤ 9223372036854775807) (hm : m ≤ 30) :
    Calls Tryz.prog 97 #[.map (some Bd), .slice c m mcap] w fun e w' => ∃ E : DataW Value, e = .returned (.map (some w.heap.size)) ∧ SetOf w' w.heap.size m E ∧ (∀ x, has E (.string x) = true ↔ x ∈ lkIn (ids D) len S m) ∧ Below w.heap.size w w' := by
  have hmm := @run_makeMap Tryz.prog
  have HO : Hid (w.ownsMap Tryz.prog 9 PR Bd len (mapD D db doff len)) := hO
  have HC : Hid (IsStrs w c m mcap S) := h'
  have HSz : Hid (∀ j, j < m → (S j).size ≤ 9223372036854775807) := hs
  have HM : Hid (m ≤ 30) := hm
  clear hO h' hs
  go_enter Tryz.func97, Tryz.ntmps97
  go_wp2
  go_loopw [11] (fun i wr => ∃ (k : Nat) (E : DataW Value), k ≤ m ∧ i = .int .i64 k ∧ SetOf wr w.heap.size k E ∧ Hid (∀ x, has E (.string x) = true ↔ x ∈ lkIn (ids D) len S k) ∧ Below w.heap.size w wr)
    (fun i _ => m - (intOf i).toNat)
  case atStart => exact ⟨0, .map [], Nat.zero_le _, rfl, World.ownsMap_made _ _ _ _, (fun x => by simp [has_eq, lkIn]), (Below.refl _ _).alloc (Nat.le_refl _) _⟩
  case round =>
    obtain ⟨k, E, hk, rfl, hs, HS, hB⟩ := hrel
    have HOk : Hid (SetOf wr w.heap.size k E) := hs
    have HB : Hid (Below w.heap.size w wr) := hB
    have hS := HC.out.below hB
    clear hs hB
    by_cases hlt : k < m
    · have hltI : (k : Int) < (m : Int) := by omega
      obtain ⟨ub, uo, hu, hus, hucell⟩ := hS.2.2 (by omega)
      have d1 := hucell k hlt
      obtain ⟨p, hrun, ho1, ho2⟩ := look_ok (ownsMap_below HO.out HB.out) (S k) (HSz.out k hlt)
      subst hu
      clear hS hucell
      cases hq : outB (ids D) len (S k) with
      | true =>
        have HY2 : Hid (lkIn (ids D) len S (k + 1) = putL (lkIn (ids D) len S k) (S k).toList) := lkIn_yes hq
        have hp := ho1 hq
        subst hp
        clear ho1 ho2 hq
        go_wp2_with (go_at_call 143; refine (put_any w.heap.size k E (S k) wr HOk.out (by have := HM.out; omega) (HSz.out k hlt)).mono ?_; rintro e w5 ⟨rfl, hs2, hg2⟩)
        go_roundw
        case rel =>
          refine ⟨k + 1, _, by omega, by go_num, hs2, fun x => ?_, HB.out.grown hg2 HB.out.size (fun i hi => by cases hi; exact Nat.le_refl _)⟩
          rw [putE_has (SetOf.isMap HOk.out), HS.out x, HY2.out, putL_mem]
          exact or_congr Iff.rfl ⟨fun h => h.symm, fun h => h.symm⟩
        case measure => simp [intOf]; omega
      | false =>
        have HY2 : Hid (lkIn (ids D) len S (k + 1) = lkIn (ids D) len S k) := lkIn_no hq
        obtain ⟨ad, hp⟩ := ho2 hq
        subst hp
        clear ho1 ho2 hq
        go_wp2
        go_roundw
        case rel =>
          refine ⟨k + 1, E, by omega, by go_num, World.ownsMap.mono HOk.out (by omega), fun x => ?_, HB.out⟩
          rw [HY2.out]
          exact HS.out x
        case measure => simp [intOf]; omega
    · have hke : k = m := by omega
      subst hke
      clear hS
      go_wp2
      go_ret
      exact ⟨E, rfl, HOk.out, HS.out, HB.out⟩

set_option maxHeartbeats 4000000 in
theorem implLacking_any (a : Option Addr) (len cap : Nat) (D : Nat → Nd) (c : Option Addr) (m mcap : Nat) (S : Nat → ByteArray) (w : World) (h : IsNds w a len cap D) (hf : Fine D len) (h' : IsStrs w c m mcap S) (hs : ∀ j, j < m → (S j).size ≤ 9223372036854775807) (hP : AllT w) :
    Calls Tryz.prog 44 #[.slice a len cap, .slice c m mcap] w fun e w' => ∃ v, e = .returned v ∧ OwnL w' w.heap.size v (lkR D len S m) ∧ Below w.heap.size w w' := by
  have HC : Hid (IsStrs w c m mcap S) := h'
  have HN : Hid (IsNds w a len cap D) := h
  have HF : Hid (Fine D len) := hf
  have HPT : Hid (AllT w) := hP
  have HSz : Hid (∀ j, j < m → (S j).size ≤ 9223372036854775807) := hs
  have hcap : m ≤ 9223372036854775807 := Nat.le_trans h'.1 h'.2.1
  clear hf h hP h' hs
  cases hq : dagB D len with
  | false =>
    have HR : Hid (lkR D len S m = []) := by show _ = _; unfold lkR; rw [if_neg (by rw [hq]; simp)]
    go_enter Tryz.func44, Tryz.ntmps44
    go_wp2_with (go_at_call 88; refine (dagOf_any a len cap D w HN.out HF.out HPT.out).mono ?_; rintro e w1 ⟨v, rfl, _, hB1⟩; rw [hq])
    go_ret
    refine ⟨_, rfl, ?_, hB1⟩
    rw [HR.out]
    exact World.ownsRow_nil _ _ _ _
  | true =>
  by_cases hm : m ≤ 30
  · have HR : Hid (lkR D len S m = lkIn (ids D) len S m) := by show _ = _; unfold lkR; rw [if_pos (by rw [hq]; simp [hm])]
    have hd30 : decide ((30 : Int) < (m : Int)) = false := decide_eq_false (by omega)
    have HM : Hid (m ≤ 30) := hm
    clear hm
    go_enter Tryz.func44, Tryz.ntmps44
    go_wp2_with (first
      | (go_at_call 88; refine (dagOf_any a len cap D w HN.out HF.out HPT.out).mono ?_; rintro e w1 ⟨v, rfl, hv, hB1⟩; rw [hq]; obtain ⟨Bd, db, doff, rfl, hBd, _, hown⟩ := hv hq; have HB1 : Hid (Below w.heap.size w w1) := hB1; have HO1 : Hid (w1.ownsMap Tryz.prog 9 PR Bd len (mapD D db doff len)) := hown; clear hv hBd hown hB1)
      | (go_at_call 97; refine (lackingIn_any D len Bd db doff c m mcap S w1 HO1.out (HC.out.below HB1.out) HSz.out HM.out).mono ?_; rintro e w2 ⟨E, rfl, hs2, hE2, hB2⟩; have HB2 : Hid (Below w.heap.size w w2) := HB1.out.trans (hB2.mono HB1.out.size); have HS2 : Hid (SetOf w2 w1.heap.size m E ∧ ∀ x, has E (.string x) = true ↔ x ∈ lkIn (ids D) len S m) := ⟨hs2, hE2⟩; clear hs2 hE2 hB2)
      | (go_at_call 112; refine (rising_any w1.heap.size m E w2 HS2.out.1 (by have := HM.out; omega)).mono ?_; rintro e w4 ⟨v, L, rfl, hU, hM, hO4, hB4⟩))
    go_ret
    refine ⟨v, rfl, ?_, HB2.out.trans (hB4.mono HB2.out.size)⟩
    have e1 : L = lkR D len S m := by
      rw [HR.out]
      exact up_unique hU (lkIn_up (ids D) len S m) (fun x => by rw [hM x, HS2.out.2 x])
    rw [← e1]
    exact mono_base hO4 HB2.out.size
  · have HR : Hid (lkR D len S m = []) := by show _ = _; unfold lkR; rw [if_neg (by simp [hm])]
    have hd30 : decide ((30 : Int) < (m : Int)) = true := decide_eq_true (by omega)
    clear hm
    go_enter Tryz.func44, Tryz.ntmps44
    go_wp2_with (go_at_call 88; refine (dagOf_any a len cap D w HN.out HF.out HPT.out).mono ?_; rintro e w1 ⟨v, rfl, hv, hB1⟩; rw [hq]; obtain ⟨Bd, db, doff, rfl, hBd, _, hown⟩ := hv hq; clear hv hBd hown)
    go_ret
    refine ⟨_, rfl, ?_, hB1⟩
    rw [HR.out]
    exact World.ownsRow_nil _ _ _ _
end Go.Proofs.YtlibipbpaigmdaaGreatDoor

namespace Go.Proofs.YtlibipbpaigmdaaGreatDoor
open Go.RowKit
set_option linter.unusedVariables false

/-- the worlds of the drawing of some ids -/
structure MS (W w0 : World) (a : Option Addr) (len cap R : Nat) (v : Value) (T : List (List UInt8)) (w : World) : Prop where
  draw : Draw W a len cap R w
  mt0 : Mut R w0 w
  own : OwnL w w0.heap.size v T
  short : ∀ x ∈ T, x.length ≤ 64
  lt : R < w0.heap.size
section
variable {W w0 : World} {a : Option Addr} {len cap R : Nat} {Z : Nat → Int}
theorem MS.step {w w' : World} {v : Value} {T : List (List UInt8)} (h : MS W w0 a len cap R v T w) (hD : Draw W a len cap R w') (hM : Mut R w w') : MS W w0 a len cap R v T w' := by
  have := h.lt
  exact ⟨hD, h.mt0.trans hM, h.own.keepB (fun k hk hs => hM.block k hs (by omega)), h.short, h.lt⟩
theorem MS.below {w w' : World} {v : Value} {T : List (List UInt8)} (h : MS W w0 a len cap R v T w) (hB : Below w.heap.size w w') : MS W w0 a len cap R v T w' := h.step (h.draw.below hB) (Mut.of_below hB)
theorem MS.grown {w w' : World} {v v' : Value} {T : List (List UInt8)} {s : ByteArray} (h : MS W w0 a len cap R v T w) (hO : w'.ownsRow w0.heap.size 9 1 v' (T.length + 1) (T.map encStr ++ [.string s])) (hg : w.grownBy w' v.ownBlock) (hs : s.size ≤ 64) : MS W w0 a len cap R v' (T ++ [s.toList]) w' := by
  have h1 := h.lt
  have h2 := h.draw.new
  have h3 := h.draw.lt
  have h4 := h.mt0.size
  have hb : ∀ k, v.ownBlock = some k → w0.heap.size ≤ k := fun k hk => (World.ownsRow.lt h.own k hk).1
  obtain ⟨p, hp, hx⟩ := h.draw.box
  refine ⟨⟨h.draw.bel.grown hg h.draw.bel.size (fun k hk => by have := hb k hk; omega), h2, p, hp, (hg.block R h3 (fun e => by have := hb R e.symm; omega)).trans hx⟩, ⟨hg.os.trans h.mt0.os, hg.tape.trans h.mt0.tape, hg.output.trans h.mt0.output, Nat.le_trans h4 hg.size, fun k hk hr => (hg.block k (by omega) (fun e => by have := hb k e.symm; omega)).trans (h.mt0.block k hk hr)⟩, ?_, fun x hx => ?_, h1⟩
  · show w'.ownsRow _ 9 1 v' (T ++ [s.toList]).length ((T ++ [s.toList]).map encStr)
    rw [List.length_append, List.map_append]
    have e : encStr s.toList = .string s := by show Value.string (tx s.toList) = _; rw [tx_toList]
    simpa [e] using hO
  · rcases List.mem_append.1 hx with hx | hx
    · exact h.short x hx
    · rw [List.mem_singleton.1 hx, ByteArray.toList_eq]
      simpa using hs

set_option maxRecDepth 20000 in
set_option maxHeartbeats 16000000 in
theorem some_any (hU : IsU8 W a len cap Z) (base g gc : Nat) (L : List Nd) (w : World) (h : Draw W a len cap R w) (hO : OwnD w base (.slice (some ⟨g, 0, none⟩) L.length gc) L) (hbR : R < base) (hbw : base ≤ w.heap.size) (hF : Few L) :
    Calls Tryz.prog 109 #[.pointer (some ⟨R, 0, none⟩), .slice (some ⟨g, 0, none⟩) L.length gc] w fun e w' => ∃ v T, e = .returned v ∧ T.length ≤ 4 ∧ MS W w a len cap R v T w' := by
  have HU := (show Hid _ from hU)
  have HO : Hid (∀ w', Mut R w w' → OwnD w' base (.slice (some ⟨g, 0, none⟩) L.length gc) L) := fun w' hM => hO.keep (fun k hk hs => hM.block k hs (by omega))
  have HF : Hid (Few L) := hF
  have hgc : L.length ≤ gc ∧ gc ≤ 9223372036854775807 := by
    obtain ⟨_, cx, hve, hND, _⟩ := hO.nds
    simp only [Value.slice.injEq] at hve
    rw [hve.2.2]
    exact ⟨hND.1, hND.2.1⟩
  obtain ⟨hgc1, hgc2⟩ := hgc
  have hms : MS W w a len cap R (.slice (some ⟨w.heap.size, 0, none⟩) 0 0) [] (w.alloc (.cells #[] 9)) := ⟨h.alloc _, (Mut.refl R w).alloc _, World.ownsRow_made w #[] 0 (Nat.le_refl _) (by decide) rfl, fun x hx => (by cases hx), h.lt⟩
  have HS0 := (show Hid _ from hms)
  obtain ⟨i0, hi, hz0, hz1, hz2⟩ := info_parts info9
  clear hU h hO hms
  go_enter Tryz.func109, Tryz.ntmps109
  go_wp2_with fail
  refine (below_any HU.out 4 (by omega) (by omega) _ HS0.out.draw).mono ?_
  rintro e w1 ⟨x1, hx0, hx1, rfl, hD1, hM1⟩
  have HS1 : Hid (MS W w a len cap R (.slice (some ⟨w.heap.size, 0, none⟩) 0 0) [] w1) := HS0.out.step hD1 hM1
  obtain ⟨k1, hk1⟩ : ∃ k : Nat, x1 = k := ⟨x1.toNat, by omega⟩
  subst hk1
  have HK1 : Hid (k1 ≤ 3) := by show k1 ≤ 3; omega
  clear hD1 hM1 HS0 hx0 hx1
  go_wp2_with fail
  go_loopw [5, 6] (fun u i wr => ∃ (k : Nat) (v : Value) (T : List (List UInt8)), k + T.length ≤ 3 ∧ i = .int .i64 k ∧ v = u ∧ Hid (MS W w a len cap R v T wr)) (fun _ i _ => (Go.RowKit.intOf i).toNat)
  case atStart => exact ⟨k1, _, [], HK1.out, rfl, rfl, HS1⟩
  case round =>
    obtain ⟨k, v, T, hk, rfl, rfl, HSS⟩ := hrel
    clear HS1 HK1
    by_cases hgo : 0 < k ∧ 0 < L.length
    · obtain ⟨hk0, hl0⟩ := hgo
      have hk0I : (0 : Int) < (k : Int) := by omega
      have hl0I : (0 : Int) < (L.length : Int) := by omega
      go_wp2_with fail
      refine (belowN_any HU.out L.length hl0 (by have := HF.out.1; omega) _ HSS.out.draw).mono ?_
      rintro e w2 ⟨y, hy, rfl, hD2, hM2⟩
      have hs2 := HSS.out.step hD2 hM2
      have HS2 : Hid (MS W w a len cap R v T w2) := hs2
      have hyI : (y : Int) < (L.length : Int) := by omega
      obtain ⟨⟨c0, c1, c2, c3, c4, c5, _⟩, hI⟩ := ownD_at (HO.out w2 hs2.mt0) hy
      simp only [Nat.zero_add] at c0 c1 c2 c3 c4 c5
      have hf := HF.out.fine y hy
      have HC : Hid (Calls Tryz.prog 58 #[.agg #[.int .i64 (gN L y).a, .int .i64 (gN L y).s, .int .i64 (gN L y).k, .string (gN L y).key, .string (gN L y).text, .slice (gN L y).u (gN L y).n (gN L y).cap]] w2 fun e w' => e = .returned (.string (ids (gN L) y)) ∧ Below w2.heap.size w2 w') := specIdOf_any _ _ _ _ _ _ _ _ (gN L y).S w2 hI hf.2.2 hf.1 hf.2.1
      obtain ⟨id, hid⟩ : ∃ id, id = ids (gN L) y := ⟨_, rfl⟩
      have HID : Hid (id.size ≤ 64) := by show id.size ≤ 64; rw [hid]; exact ids_size _ _
      rw [← hid] at HC
      have hc1 : (T.length + 1 : Nat) ≤ maxLen := by unfold maxLen; omega
      have hc2 : (T.length + 1) * 16 ≤ 140737488355328 := by omega
      have hso : ∀ x ∈ [Value.string id], x.oneCell' = true := by simp [Value.oneCell']
      clear hD2 hM2 hs2 hI hf hid HSS
      go_wp2_with fail
      refine HC.out.mono ?_
      rintro e w3 ⟨rfl, hB3⟩
      have HS3 : Hid (MS W w a len cap R v T (w3.alloc (.cells #[.string id] 9))) := (HS2.out.below hB3).below ((Below.refl _ _).alloc (Nat.le_refl _) _)
      clear hB3 HC HS2
      go_wp2_with (at_builtin; refine wpList_append_own _ rfl _ _ 25 rfl w.heap.size 9 i0 (.string ⟨#[]⟩) 1 16 Tryz.underlying25 hi hz0 hz1 hz2 rfl (by decide) _ _ _ rfl HS3.out.own ⟨w3.heap.size, 0, none⟩ 1 1 [.string id] rfl rfl (World.news_of_block (heap_alloc_new _ _)) hso hc1 hc2 HS3.out.mt0.size ?_; intro v' w4 hown hgrow _)
      go_roundw
      case rel => exact ⟨k - 1, v', T ++ [id.toList], by simp; omega, by go_num, rfl, HS3.out.grown hown hgrow HID.out⟩
      case measure => simp [Go.RowKit.intOf]; omega
    · have hfin : (¬ (0 : Int) < (k : Int)) ∨ ((0 : Int) < (k : Int) ∧ ¬ (0 : Int) < (L.length : Int)) := by omega
      have HT3 : Hid (T.length ≤ 3) := by show T.length ≤ 3; omega
      have hcT1 : (T.length + 1 : Nat) ≤ maxLen := by unfold maxLen; omega
      have hcT2 : (T.length + 1) * 16 ≤ 140737488355328 := by omega
      clear hk hgo
      rcases hfin with hk0I | ⟨hk0I, hl0I⟩
      all_goals
        go_wp2_with fail
        refine (once_any HU.out 6 (by omega) (by omega) _ HSS.out.draw).mono ?_
        rintro e w9 ⟨c9, rfl, hD9, hM9⟩
        have HS9 : Hid (MS W w a len cap R v T w9) := HSS.out.step hD9 hM9
        clear hD9 hM9 HSS
        cases c9 with
        | false =>
          go_wp2_with fail
          go_ret
          exact ⟨v, T, rfl, Nat.le_succ_of_le HT3.out, HS9.out⟩
        | true =>
          go_wp2_with fail
          have HSM : Hid (Calls Tryz.prog 110 #[.string ⟨#[110, 111, 110, 101]⟩] w9 fun e w' => e = .returned (.string (sumT ⟨#[110, 111, 110, 101]⟩)) ∧ Below w9.heap.size w9 w') := specSumText_any _ (by decide) w9
          refine HSM.out.mono ?_
          rintro e w10 ⟨rfl, hB10⟩
          obtain ⟨id, hid⟩ : ∃ id, id = sumT ⟨#[110, 111, 110, 101]⟩ := ⟨_, rfl⟩
          rw [← hid]
          have HID : Hid (id.size ≤ 64) := by show id.size ≤ 64; rw [hid, sumT_size]; exact Nat.le_refl _
          have HS3 : Hid (MS W w a len cap R v T (w10.alloc (.cells #[.string id] 9))) := (HS9.out.below hB10).below ((Below.refl _ _).alloc (Nat.le_refl _) _)
          have hso : ∀ x ∈ [Value.string id], x.oneCell' = true := by simp [Value.oneCell']
          clear hB10 HSM HS9 hid
          go_wp2_with (at_builtin; refine wpList_append_own _ rfl _ _ 25 rfl w.heap.size 9 i0 (.string ⟨#[]⟩) 1 16 Tryz.underlying25 hi hz0 hz1 hz2 rfl (by decide) _ _ _ rfl HS3.out.own ⟨w10.heap.size, 0, none⟩ 1 1 [.string id] rfl rfl (World.news_of_block (heap_alloc_new _ _)) hso hcT1 hcT2 HS3.out.mt0.size ?_; intro v' w4 hown hgrow _)
          go_ret
          exact ⟨v', T ++ [id.toList], rfl, by have := HT3.out; simp; omega, HS3.out.grown hown hgrow HID.out⟩
end
end Go.Proofs.YtlibipbpaigmdaaGreatDoor
