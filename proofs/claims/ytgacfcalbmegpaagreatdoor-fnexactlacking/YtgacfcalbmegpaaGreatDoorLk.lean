/-
  Of some ids those that are none of a dag's: plain, as the specification and as the program gather them. No condition but that the slices read and the tables lie.
-/
import Derived.Test.YtgacfcalbmegpaaGreatDoorISt
namespace Go.Proofs.YtgacfcalbmegpaaGreatDoor
open Go.RowKit Go.Maps
set_option linter.unusedVariables false

/-- of the first k of S those that are none of I, rising -/
def lkIn (I : Nat → ByteArray) (n : Nat) (S : Nat → ByteArray) : Nat → List (List UInt8)
  | 0 => []
  | k + 1 => if outB I n (S k) = true then putL (lkIn I n S k) (S k).toList else lkIn I n S k
/-- what lacks -/
def lkR (D : Nat → Nd) (len : Nat) (S : Nat → ByteArray) (m : Nat) : List (List UInt8) := if (dagB D len && decide (m ≤ 30)) = true then lkIn (ids D) len S m else []
theorem lkIn_yes {I : Nat → ByteArray} {n : Nat} {S : Nat → ByteArray} {k : Nat} (h : outB I n (S k) = true) : lkIn I n S (k + 1) = putL (lkIn I n S k) (S k).toList := by rw [lkIn, if_pos h]
theorem lkIn_no {I : Nat → ByteArray} {n : Nat} {S : Nat → ByteArray} {k : Nat} (h : outB I n (S k) = false) : lkIn I n S (k + 1) = lkIn I n S k := by rw [lkIn, if_neg (by rw [h]; decide)]
theorem lkIn_len (I : Nat → ByteArray) (n : Nat) (S : Nat → ByteArray) : ∀ k, (lkIn I n S k).length ≤ k
  | 0 => Nat.le_refl _
  | k + 1 => by
    have ih := lkIn_len I n S k
    cases h : outB I n (S k) with
    | true =>
      rw [lkIn_yes h]
      have := putL_len (S k).toList (lkIn I n S k)
      omega
    | false => rw [lkIn_no h]; omega
theorem lkIn_up (I : Nat → ByteArray) (n : Nat) (S : Nat → ByteArray) : ∀ k, Up (lkIn I n S k)
  | 0 => by simp [lkIn, Up]
  | k + 1 => by
    have ih := lkIn_up I n S k
    cases h : outB I n (S k) with
    | true => rw [lkIn_yes h]; exact putL_up _ _ ih
    | false => rw [lkIn_no h]; exact ih
theorem lkIn_nil (I : Nat → ByteArray) (n : Nat) (S : Nat → ByteArray) : ∀ k, lkIn I n S k = [] ↔ ∀ j, j < k → outB I n (S j) = false
  | 0 => by simp [lkIn]
  | k + 1 => by
    have ih := lkIn_nil I n S k
    cases h : outB I n (S k) with
    | true =>
      rw [lkIn_yes h]
      constructor
      · intro e
        have hm := (putL_mem (S k).toList (S k).toList (lkIn I n S k)).2 (.inr rfl)
        rw [e] at hm
        cases hm
      · intro q
        have := q k (by omega)
        rw [h] at this
        cases this
    | false =>
      rw [lkIn_no h, ih]
      constructor
      · intro q j hj
        rcases Nat.lt_succ_iff_lt_or_eq.1 hj with h1 | rfl
        · exact q j h1
        · exact h
      · exact fun q j hj => q j (by omega)
theorem lkR_len (D : Nat → Nd) (len : Nat) (S : Nat → ByteArray) (m : Nat) : (lkR D len S m).length ≤ 1000000 := by
  unfold lkR
  split
  · rename_i h
    simp only [Bool.and_eq_true, decide_eq_true_eq] at h
    have := lkIn_len (ids D) len S m
    omega
  · simp
theorem lkR_at (D : Nat → Nd) (G : Nat → Nat) (len : Nat) (S : Nat → ByteArray) (m : Nat) : lkR (fun i => (D i).at (G i)) len S m = lkR D len S m := rfl

set_option maxHeartbeats 4000000 in
theorem specLacking_any (a : Option Addr) (len cap : Nat) (D : Nat → Nd) (c : Option Addr) (m mcap : Nat) (S : Nat → ByteArray) (w : World) (h : IsNds w a len cap D) (hf : Fine D len) (h' : IsStrs w c m mcap S) :
    Calls Tryz.prog 9 #[.slice a len cap, .slice c m mcap] w fun e w' => ∃ v, e = .returned v ∧ OwnL w' w.heap.size v (lkR D len S m) ∧ Below w.heap.size w w' := by
  have HN : Hid (IsNds w a len cap D) := h
  have HC : Hid (IsStrs w c m mcap S) := h'
  have HF : Hid (Fine D len) := hf
  have hBa : Below w.heap.size w (w.alloc (.cells #[] 9)) := (Below.refl _ _).alloc (Nat.le_refl _) _
  have HS : Hid (Calls Tryz.prog 26 #[.slice a len cap] (w.alloc (.cells #[] 9)) fun e w' => e = .returned (.bool (dagB D len)) ∧ Below (w.alloc (.cells #[] 9)).heap.size (w.alloc (.cells #[] 9)) w') := specDagOk_any a len cap D _ (h.below hBa) hf
  have HM : Hid (OwnS (w.alloc (.cells #[] 9)) w.heap.size w.heap.size 0 []) := OwnS.made w _ (Nat.le_refl _)
  have HBa : Hid (Below w.heap.size w (w.alloc (.cells #[] 9))) := hBa
  have hcap : m ≤ 9223372036854775807 := Nat.le_trans h'.1 h'.2.1
  clear hf hBa h h'
  cases hq : dagB D len with
  | false =>
    have HR : Hid (lkR D len S m = []) := by show _ = _; unfold lkR; rw [if_neg (by rw [hq]; simp)]
    rw [hq] at HS
    go_enter Tryz.func9, Tryz.ntmps9
    go_wp2_with (go_at_call 26; refine HS.out.mono ?_; rintro e w1 ⟨rfl, hB1⟩; have HB1 : Hid (Below w.heap.size w w1) := HBa.out.trans (hB1.mono HBa.out.size); have HO1 : Hid (OwnS w1 w.heap.size w.heap.size 0 []) := HM.out.below hB1; clear hB1)
    go_ret
    refine ⟨_, rfl, ?_, HB1.out⟩
    rw [HR.out]
    exact HO1.out.ownL
  | true =>
  rw [hq] at HS
  by_cases hm : m ≤ 30
  · have HR : Hid (lkR D len S m = lkIn (ids D) len S m) := by show _ = _; unfold lkR; rw [if_pos (by rw [hq]; simp [hm])]
    have hd30 : decide ((30 : Int) < (m : Int)) = false := decide_eq_false (by omega)
    have hl := (dagB_parts hq).1
    have HA : Hid (∀ v, Below w.heap.size w v → Calls Tryz.prog 27 #[.slice a len cap] v fun e w' => ∃ g gc, e = .returned (.slice g len gc) ∧ IsStrs w' g len gc (fun i => (D i).id) ∧ Below v.heap.size v w') := fun v hB => l6All_any a len cap D v (HN.out.below hB) HF.out hl
    clear hq
    go_enter Tryz.func9, Tryz.ntmps9
    go_wp2_with (first
      | (go_at_call 26; refine HS.out.mono ?_; rintro e w1 ⟨rfl, hB1⟩; have HB1 : Hid (Below w.heap.size w w1) := HBa.out.trans (hB1.mono HBa.out.size); have HO1 : Hid (OwnS w1 w.heap.size w.heap.size 0 []) := HM.out.below hB1; clear hB1)
      | (go_at_call 27; refine (HA.out w1 HB1.out).mono ?_; rintro e w3 ⟨g, gc, rfl, hI, hB3⟩; have HB3 : Hid (Below w.heap.size w w3) := HB1.out.trans (hB3.mono HB1.out.size); have HO3 : Hid (OwnS w3 w.heap.size w.heap.size 0 []) := HO1.out.below hB3; have HI : Hid (IsStrs w3 g len gc (ids D)) := hI; clear hB3 hI))
    clear HS HA hd30
    go_loopw [7, 5] (fun i v wr => ∃ (k t tc : Nat), k ≤ m ∧ i = .int .i64 k ∧ v = .slice (some ⟨t, 0, none⟩) (lkIn (ids D) len S k).length tc ∧ OwnS wr w.heap.size t tc (lkIn (ids D) len S k) ∧ Below w3.heap.size w3 wr)
      (fun i _ _ => m - (intOf i).toNat)
    case atStart => exact ⟨0, w.heap.size, 0, Nat.zero_le _, rfl, rfl, HO3.out, Below.refl _ _⟩
    case round =>
      obtain ⟨k, t, tc, hk, rfl, rfl, ho, hB⟩ := hrel
      have HO : Hid (OwnS wr w.heap.size t tc (lkIn (ids D) len S k)) := ho
      have HB : Hid (Below w3.heap.size w3 wr) := hB
      by_cases hlt : k < m
      · have hltI : (k : Int) < (m : Int) := by omega
        have hS := (HC.out.below HB3.out).below hB
        obtain ⟨ub, uo, hu, hus, hucell⟩ := hS.2.2 (by omega)
        have d1 := hucell k hlt
        have hil := lkIn_len (ids D) len S k
        have HPut : Hid (Calls Tryz.prog 29 #[.slice (some ⟨t, 0, none⟩) (lkIn (ids D) len S k).length tc, .string (S k)] wr fun e w' => ∃ g' gc', e = .returned (.slice (some ⟨g', 0, none⟩) (putL (lkIn (ids D) len S k) (S k).toList).length gc') ∧ OwnS w' wr.heap.size g' gc' (putL (lkIn (ids D) len S k) (S k).toList) ∧ Below wr.heap.size wr w') := l1Put_any t 0 tc _ (S k) wr ho.lies.1 ho.lies.2.1 ho.caps.1 ho.caps.2 (by omega)
        have HH : Hid (Calls Tryz.prog 28 #[.slice g len gc, .string (S k)] wr fun e w' => ∃ r : Int, e = .returned (.int .i64 r) ∧ decide (r < 0) = outB (ids D) len (S k) ∧ w' = wr) := l6At_any g len gc (ids D) (S k) wr (HI.out.below hB)
        subst hu
        clear ho hB hS hucell hil
        cases hq : outB (ids D) len (S k) with
        | true =>
          have HY2 : Hid (lkIn (ids D) len S (k + 1) = putL (lkIn (ids D) len S k) (S k).toList) := lkIn_yes hq
          rw [hq] at HH
          clear hq
          go_wp2_with (first
            | (go_at_call 28; refine HH.out.mono ?_; rintro e w5 ⟨r, rfl, hr, hw5⟩; rw [hw5]; clear hw5 w5)
            | (go_at_call 29; refine HPut.out.mono ?_; rintro e w5 ⟨g', gc', rfl, ho2, hB2⟩))
          go_roundw
          case rel =>
            refine ⟨k + 1, g', gc', by omega, by go_num, by rw [HY2.out], ?_, HB.out.trans (hB2.mono HB.out.size)⟩
            rw [HY2.out]
            exact mono_base ho2 (Nat.le_trans HB3.out.size HB.out.size)
          case measure => simp [intOf]; omega
        | false =>
          have HY2 : Hid (lkIn (ids D) len S (k + 1) = lkIn (ids D) len S k) := lkIn_no hq
          rw [hq] at HH
          clear hq HPut
          go_wp2_with (go_at_call 28; refine HH.out.mono ?_; rintro e w5 ⟨r, rfl, hr, hw5⟩; rw [hw5]; clear hw5 w5)
          go_roundw
          case rel => exact ⟨k + 1, t, tc, by omega, by go_num, by rw [HY2.out], by rw [HY2.out]; exact HO.out, HB.out⟩
          case measure => simp [intOf]; omega
      · have hke : k = m := by omega
        subst hke
        clear ho hB
        go_wp2
        go_ret
        refine ⟨_, rfl, ?_, HB3.out.trans (HB.out.mono HB3.out.size)⟩
        rw [HR.out]
        exact OwnS.ownL HO.out
  · have HR : Hid (lkR D len S m = []) := by show _ = _; unfold lkR; rw [if_neg (by simp [hm])]
    have hd30 : decide ((30 : Int) < (m : Int)) = true := decide_eq_true (by omega)
    clear hm
    go_enter Tryz.func9, Tryz.ntmps9
    go_wp2_with (go_at_call 26; refine HS.out.mono ?_; rintro e w1 ⟨rfl, hB1⟩; have HB1 : Hid (Below w.heap.size w w1) := HBa.out.trans (hB1.mono HBa.out.size); have HO1 : Hid (OwnS w1 w.heap.size w.heap.size 0 []) := HM.out.below hB1; clear hB1)
    go_ret
    refine ⟨_, rfl, ?_, HB1.out⟩
    rw [HR.out]
    exact HO1.out.ownL

set_option maxHeartbeats 4000000 in
theorem lackingIn_any (D : Nat → Nd) (len Bd db doff : Nat) (c : Option Addr) (m mcap : Nat) (S : Nat → ByteArray) (w : World) (hO : w.ownsMap Tryz.prog 9 PR Bd len (mapD D db doff len)) (h' : IsStrs w c m mcap S) (hs : ∀ j, j < m → (S j).size ≤ 9223372036854775807) (hm : m ≤ 30) :
    Calls Tryz.prog 32 #[.map (some Bd), .slice c m mcap] w fun e w' => ∃ E : DataW Value, e = .returned (.map (some w.heap.size)) ∧ SetOf w' w.heap.size m E ∧ (∀ x, has E (.string x) = true ↔ x ∈ lkIn (ids D) len S m) ∧ Below w.heap.size w w' := by
  have hmm := @run_makeMap Tryz.prog
  have HO : Hid (w.ownsMap Tryz.prog 9 PR Bd len (mapD D db doff len)) := hO
  have HC : Hid (IsStrs w c m mcap S) := h'
  have HSz : Hid (∀ j, j < m → (S j).size ≤ 9223372036854775807) := hs
  have HM : Hid (m ≤ 30) := hm
  clear hO h' hs
  go_enter Tryz.func32, Tryz.ntmps32
  go_wp2
  go_loopw [11] (fun i wr => ∃ (k : Nat) (E : DataW Value), k ≤ m ∧ i = .int .i64 k ∧ SetOf wr w.heap.size k E ∧ Hid (∀ x, has E (.string x) = true ↔ x ∈ lkIn (ids D) len S k) ∧ Below w.heap.size w wr)
    (fun i _ => m - (intOf i).toNat)
  case atStart => exact ⟨0, .map [], Nat.zero_le _, rfl, World.ownsMap_made _ _ _ _, (fun x => by simp [has_eq, lkIn]), (Below.refl _ _).alloc (Nat.le_refl _) _⟩
  case round =>
    obtain ⟨k, E, hk, rfl, hs, HS, hB⟩ := hrel
    have HOk : Hid (SetOf wr w.heap.size k E) := hs
    have HB : Hid (Below w.heap.size w wr) := hB
    have hS := HC.out.below hB
    clear hs hB
    by_cases hlt : k < m
    · have hltI : (k : Int) < (m : Int) := by omega
      obtain ⟨ub, uo, hu, hus, hucell⟩ := hS.2.2 (by omega)
      have d1 := hucell k hlt
      obtain ⟨p, hrun, ho1, ho2⟩ := look_ok (ownsMap_below HO.out HB.out) (S k) (HSz.out k hlt)
      subst hu
      clear hS hucell
      cases hq : outB (ids D) len (S k) with
      | true =>
        have HY2 : Hid (lkIn (ids D) len S (k + 1) = putL (lkIn (ids D) len S k) (S k).toList) := lkIn_yes hq
        have hp := ho1 hq
        subst hp
        clear ho1 ho2 hq
        go_wp2_with (go_at_call 56; refine (put_any w.heap.size k E (S k) wr HOk.out (by have := HM.out; omega) (HSz.out k hlt)).mono ?_; rintro e w5 ⟨rfl, hs2, hg2⟩)
        go_roundw
        case rel =>
          refine ⟨k + 1, _, by omega, by go_num, hs2, fun x => ?_, HB.out.grown hg2 HB.out.size (fun i hi => by cases hi; exact Nat.le_refl _)⟩
          rw [putE_has (SetOf.isMap HOk.out), HS.out x, HY2.out, putL_mem]
          exact or_congr Iff.rfl ⟨fun h => h.symm, fun h => h.symm⟩
        case measure => simp [intOf]; omega
      | false =>
        have HY2 : Hid (lkIn (ids D) len S (k + 1) = lkIn (ids D) len S k) := lkIn_no hq
        obtain ⟨ad, hp⟩ := ho2 hq
        subst hp
        clear ho1 ho2 hq
        go_wp2
        go_roundw
        case rel =>
          refine ⟨k + 1, E, by omega, by go_num, World.ownsMap.mono HOk.out (by omega), fun x => ?_, HB.out⟩
          rw [HY2.out]
          exact HS.out x
        case measure => simp [intOf]; omega
    · have hke : k = m := by omega
      subst hke
      clear hS
      go_wp2
      go_ret
      exact ⟨E, rfl, HOk.out, HS.out, HB.out⟩

set_option maxHeartbeats 4000000 in
theorem implLacking_any (a : Option Addr) (len cap : Nat) (D : Nat → Nd) (c : Option Addr) (m mcap : Nat) (S : Nat → ByteArray) (w : World) (h : IsNds w a len cap D) (hf : Fine D len) (h' : IsStrs w c m mcap S) (hs : ∀ j, j < m → (S j).size ≤ 9223372036854775807) (hP : AllT w) :
    Calls Tryz.prog 12 #[.slice a len cap, .slice c m mcap] w fun e w' => ∃ v, e = .returned v ∧ OwnL w' w.heap.size v (lkR D len S m) ∧ Below w.heap.size w w' := by
  have HC : Hid (IsStrs w c m mcap S) := h'
  have HN : Hid (IsNds w a len cap D) := h
  have HF : Hid (Fine D len) := hf
  have HPT : Hid (AllT w) := hP
  have HSz : Hid (∀ j, j < m → (S j).size ≤ 9223372036854775807) := hs
  have hcap : m ≤ 9223372036854775807 := Nat.le_trans h'.1 h'.2.1
  clear hf h hP h' hs
  cases hq : dagB D len with
  | false =>
    have HR : Hid (lkR D len S m = []) := by show _ = _; unfold lkR; rw [if_neg (by rw [hq]; simp)]
    go_enter Tryz.func12, Tryz.ntmps12
    go_wp2_with (go_at_call 31; refine (dagOf_any a len cap D w HN.out HF.out HPT.out).mono ?_; rintro e w1 ⟨v, rfl, _, hB1⟩; rw [hq])
    go_ret
    refine ⟨_, rfl, ?_, hB1⟩
    rw [HR.out]
    exact World.ownsRow_nil _ _ _ _
  | true =>
  by_cases hm : m ≤ 30
  · have HR : Hid (lkR D len S m = lkIn (ids D) len S m) := by show _ = _; unfold lkR; rw [if_pos (by rw [hq]; simp [hm])]
    have hd30 : decide ((30 : Int) < (m : Int)) = false := decide_eq_false (by omega)
    have HM : Hid (m ≤ 30) := hm
    clear hm
    go_enter Tryz.func12, Tryz.ntmps12
    go_wp2_with (first
      | (go_at_call 31; refine (dagOf_any a len cap D w HN.out HF.out HPT.out).mono ?_; rintro e w1 ⟨v, rfl, hv, hB1⟩; rw [hq]; obtain ⟨Bd, db, doff, rfl, hBd, _, hown⟩ := hv hq; have HB1 : Hid (Below w.heap.size w w1) := hB1; have HO1 : Hid (w1.ownsMap Tryz.prog 9 PR Bd len (mapD D db doff len)) := hown; clear hv hBd hown hB1)
      | (go_at_call 32; refine (lackingIn_any D len Bd db doff c m mcap S w1 HO1.out (HC.out.below HB1.out) HSz.out HM.out).mono ?_; rintro e w2 ⟨E, rfl, hs2, hE2, hB2⟩; have HB2 : Hid (Below w.heap.size w w2) := HB1.out.trans (hB2.mono HB1.out.size); have HS2 : Hid (SetOf w2 w1.heap.size m E ∧ ∀ x, has E (.string x) = true ↔ x ∈ lkIn (ids D) len S m) := ⟨hs2, hE2⟩; clear hs2 hE2 hB2)
      | (go_at_call 33; refine (rising_any w1.heap.size m E w2 HS2.out.1 (by have := HM.out; omega)).mono ?_; rintro e w4 ⟨v, L, rfl, hU, hM, hO4, hB4⟩))
    go_ret
    refine ⟨v, rfl, ?_, HB2.out.trans (hB4.mono HB2.out.size)⟩
    have e1 : L = lkR D len S m := by
      rw [HR.out]
      exact up_unique hU (lkIn_up (ids D) len S m) (fun x => by rw [hM x, HS2.out.2 x])
    rw [← e1]
    exact mono_base hO4 HB2.out.size
  · have HR : Hid (lkR D len S m = []) := by show _ = _; unfold lkR; rw [if_neg (by simp [hm])]
    have hd30 : decide ((30 : Int) < (m : Int)) = true := decide_eq_true (by omega)
    clear hm
    go_enter Tryz.func12, Tryz.ntmps12
    go_wp2_with (go_at_call 31; refine (dagOf_any a len cap D w HN.out HF.out HPT.out).mono ?_; rintro e w1 ⟨v, rfl, hv, hB1⟩; rw [hq]; obtain ⟨Bd, db, doff, rfl, hBd, _, hown⟩ := hv hq; clear hv hBd hown)
    go_ret
    refine ⟨_, rfl, ?_, hB1⟩
    rw [HR.out]
    exact World.ownsRow_nil _ _ _ _
end Go.Proofs.YtgacfcalbmegpaaGreatDoor
