/-
  Learned, of the program: a copy, searched, with one text put in. No condition but that the slices read and are not too long.
-/
import Derived.Test.YtpcbhjejpebogaaDoorTgL
namespace Go.Proofs.YtpcbhjejpebogaaDoor
open Go.RowKit
set_option linter.unusedVariables false

theorem known_parts {S : Nat → ByteArray} {n : Nat} (h : knownB S n = true) : n ≤ 30 ∧ riseB S n = true := by
  unfold knownB at h
  simp only [Bool.and_eq_true, decide_eq_true_eq] at h
  exact h.1
theorem rise_up {S : Nat → ByteArray} {n : Nat} (h : riseB S n = true) : ∀ k, 0 < k → k < n → upB S k = true := fun k h0 hk => by
  cases hq : upB S k with
  | true => rfl
  | false =>
    rw [riseB_false hk h0 hq] at h
    cases h
theorem rise_less {S : Nat → ByteArray} {n : Nat} (h : riseB S n = true) (i : Nat) : ∀ d, i + d + 1 < n → Op.bytesLess (S i).toList (S (i + d + 1)).toList = true
  | 0, hd => rise_up h (i + 1) (by omega) hd
  | d + 1, hd => bl_trans _ _ _ (rise_less h i d (by omega)) (rise_up h (i + d + 1 + 1) (by omega) hd)

/-- the first place whose text is not ahead of t -/
theorem place_ex (S : Nat → ByteArray) (t : ByteArray) : ∀ n, ∃ k, k ≤ n ∧ (∀ i, i < k → Op.bytesLess (S i).toList t.toList = true) ∧ (k < n → Op.bytesLess (S k).toList t.toList = false)
  | 0 => ⟨0, Nat.le_refl _, fun i hi => absurd hi (Nat.not_lt_zero _), fun h => absurd h (Nat.lt_irrefl _)⟩
  | n + 1 => by
    obtain ⟨k, h1, h2, h3⟩ := place_ex S t n
    by_cases hk : k < n
    · exact ⟨k, by omega, h2, fun _ => h3 hk⟩
    · obtain rfl : k = n := by omega
      cases hq : Op.bytesLess (S k).toList t.toList with
      | false => exact ⟨k, by omega, h2, fun _ => hq⟩
      | true =>
        refine ⟨k + 1, Nat.le_refl _, fun i hi => ?_, fun h => absurd h (Nat.lt_irrefl _)⟩
        rcases Nat.lt_succ_iff_lt_or_eq.1 hi with h4 | rfl
        · exact h2 i h4
        · exact hq

/-- the texts, and t behind them -/
def SX (S : Nat → ByteArray) (n : Nat) (t : ByteArray) (i : Nat) : ByteArray := if i < n then S i else t
theorem search_is {S : Nat → ByteArray} {n : Nat} {t : ByteArray} (hr : riseB S n = true) {k : Nat} (hk : k ≤ n) (h1 : ∀ i, i < k → Op.bytesLess (S i).toList t.toList = true) (h2 : k < n → Op.bytesLess (S k).toList t.toList = false) :
    Lib.bsGo (fun i => Op.bytesLess (SX S n t i).toList t.toList) n 0 n = k := by
  refine Lib.bsGo_spec _ k (fun i hi => ?_) (fun i hi => ?_) n 0 n (by omega) (by omega) hk
  · show Op.bytesLess (SX S n t i).toList t.toList = true
    unfold SX
    rw [if_pos (by omega)]
    exact h1 i hi
  · show Op.bytesLess (SX S n t i).toList t.toList = false
    unfold SX
    by_cases hin : i < n
    · rw [if_pos hin]
      rcases Nat.eq_or_lt_of_le hi with rfl | hlt
      · exact h2 hin
      · cases hq : Op.bytesLess (S i).toList t.toList with
        | false => rfl
        | true =>
          obtain ⟨d, rfl⟩ : ∃ d, i = k + d + 1 := ⟨i - k - 1, by omega⟩
          have := bl_trans _ _ _ (rise_less hr k d hin) hq
          rw [h2 (by omega)] at this
          cases this
    · rw [if_neg hin]
      exact bl_irr _
theorem bytes_eq {a b : ByteArray} (h : a.toList = b.toList) : a = b := by
  rw [ByteArray.toList_eq, ByteArray.toList_eq] at h
  exact ByteArray.ext (Array.ext' h)

set_option maxHeartbeats 1000000 in
theorem clone_own (g n cap : Nat) (S : Nat → ByteArray) (w : World) (h : IsStrs w (some ⟨g, 0, none⟩) n cap S) (hn : n ≤ 30) :
    Calls Tryd.prog 62 #[.slice (some ⟨g, 0, none⟩) n cap] w fun e w' => ∃ g' cap', e = .returned (.slice (some ⟨g', 0, none⟩) n cap') ∧ OwnS w' w.heap.size g' cap' (LL S n) ∧ Below w.heap.size w w' := by
  have hz : ((List.range n).map S).length = n := by simp
  refine (Any.slices_Clone_string Tryd.cloneL g 0 n cap ((List.range n).map S) w (by omega) (by omega) (fun j hj => ?_)).mono ?_
  · rw [hz] at hj
    obtain ⟨b, o, e, hb, hc⟩ := h.2.2 (by omega)
    simp only [Option.some.injEq, Addr.mk.injEq, and_true] at e
    obtain ⟨rfl, rfl⟩ := e
    rw [hc j hj]
    simp [List.getD, hj]
  · rintro e w' ⟨v', rfl, ho, hv, hB⟩
    have hx : (((List.range n).map S).take n).map Value.string = (LL S n).map encStr := by
      rw [List.take_of_length_le (by omega)]
      unfold LL
      rw [List.map_map, List.map_map]
      apply List.map_congr_left
      intro i _
      exact (enc_str (S i)).symm
    obtain ⟨g', cap', rfl, ho'⟩ := own_form (L := LL S n) ho (LL_len S n).symm hx hv
    rw [LL_len]
    exact ⟨g', cap', rfl, ho', hB⟩

set_option maxHeartbeats 1000000 in
theorem search_any (g' cap' n base : Nat) (S : Nat → ByteArray) (t : ByteArray) (w : World) (h : OwnS w base g' cap' (LL S n)) (hr : riseB S n = true) (hn : n ≤ 30) (k : Nat) (hk : k ≤ n) (h1 : ∀ i, i < k → Op.bytesLess (S i).toList t.toList = true) (h2 : k < n → Op.bytesLess (S k).toList t.toList = false) (c : Bool) (hc : decide (k < n ∧ SX S n t k = t) = c) :
    Calls Tryd.prog 63 #[.slice (some ⟨g', 0, none⟩) n cap', .string t] w fun e w' => e = .returned (.tuple #[.int .i64 (k : Nat), .bool c]) ∧ Below w.heap.size w w' := by
  refine (Any2.slices_BinarySearch_string Tryd.searchL g' 0 n cap' (SX S n t) t w (by omega) (fun j hj => ?_)).mono ?_
  · have := h.lies.1 j (by rw [LL_len]; exact hj)
    rw [LL_at S hj, enc_str] at this
    rw [this]
    unfold SX
    rw [if_pos hj]
  · rintro e w' ⟨rfl, q, rfl⟩
    rw [search_is hr hk h1 h2, hc]
    exact ⟨rfl, (Below.refl _ _).trans ⟨rfl, rfl, rfl, Nat.le_refl _, fun _ _ => rfl⟩⟩

theorem kept_below {base : Nat} {w w' : World} {g : Nat} (h : Kept (fun b => b ≠ g) w w') (hg : base ≤ g) (hb : base ≤ w.heap.size) : Below base w w' := (h.mono (q := fun k => k < base) (fun k hk => by omega)).below hb

set_option maxHeartbeats 2000000 in
theorem implLearned_any (g n cap : Nat) (S : Nat → ByteArray) (t : ByteArray) (w : World) (h : IsStrs w (some ⟨g, 0, none⟩) n cap S) (hS : ∀ i, i < n → (S i).size ≤ 1048576) (ht : t.size ≤ 1048576) :
    Calls Tryd.prog 29 #[.slice (some ⟨g, 0, none⟩) n cap, .string t] w fun e w' => ∃ v, e = .returned (.tuple #[v, .bool (lrB S n t)]) ∧ OwnL w' w.heap.size v (lrR S n t) ∧ Below w.heap.size w w' := by
  have HI : Hid (IsStrs w (some ⟨g, 0, none⟩) n cap S) := h
  have HS : Hid (∀ i, i < n → (S i).size ≤ 1048576) := hS
  have HZ : Hid (∀ i, i < (putL (LL S n) t.toList).length → (atL (putL (LL S n) t.toList) i).size ≤ 1048576) := put_sizes hS ht
  clear h hS
  cases h1 : knownB S n with
  | false =>
    have hr : Hid (lrB S n t = false) := by show _ = _; unfold lrB; rw [h1]; rfl
    go_enter Tryd.func29, Tryd.ntmps29
    go_wp2_with (go_at_call 61; refine (implKnown_any _ n cap S w HI.out HS.out).mono ?_; rintro e w2 ⟨rfl, hB2⟩; rw [h1])
    go_ret2
    refine ⟨.slice none 0 0, ret_val (by rw [hr.out]; rfl), ?_, hB2⟩
    unfold lrR
    rw [if_neg (by rw [hr.out]; decide)]
    exact World.ownsRow_nil _ _ _ _
  | true =>
    obtain ⟨hn30, hrise⟩ := known_parts h1
    obtain ⟨k, hk, hk1, hk2⟩ := place_ex S t n
    have hLL := LL_len S n
    have hput := putL_at t.toList (LL S n) k (by omega) (fun i hi => by rw [LL_at S (by omega)]; exact hk1 i hi) (fun hlt => by rw [LL_at S (by omega)]; exact hk2 (by omega))
    have HK1 : Hid (∀ i, i < k → Op.bytesLess (S i).toList t.toList = true) := hk1
    have HK2 : Hid (k < n → Op.bytesLess (S k).toList t.toList = false) := hk2
    have HRs : Hid (riseB S n = true) := hrise
    have HKN : Hid (∀ x, knL (putL (LL S n) t.toList) = x → ∀ gg cc (v : World), OwnS v w.heap.size gg cc (putL (LL S n) t.toList) → Calls Tryd.prog 61 #[.slice (some ⟨gg, 0, none⟩) (putL (LL S n) t.toList).length cc] v fun e w' => e = .returned (.bool x) ∧ Below v.heap.size v w') := fun x hx gg cc v ho => by
      rw [← hx]
      exact implKnown_any _ _ cc _ v ho.strs HZ.out
    have hend : ∀ x, knL (putL (LL S n) t.toList) = x → lrB S n t = x := fun x hx => by unfold lrB; rw [h1, hx]; rfl
    have HEnd : Hid (∀ x, knL (putL (LL S n) t.toList) = x → lrB S n t = x) := hend
    clear hk1 hk2 hrise hend
    by_cases hth : k < n ∧ SX S n t k = t
    · have hc : decide (k < n ∧ SX S n t k = t) = true := decide_eq_true hth
      have hP : putL (LL S n) t.toList = LL S n := by
        rw [hput, if_pos ⟨by omega, by rw [LL_at S hth.1]; have := hth.2; unfold SX at this; rw [if_pos hth.1] at this; rw [this]⟩]
      have HPE : Hid (putL (LL S n) t.toList = LL S n) := hP
      clear hput hP hth
      cases h2 : knL (putL (LL S n) t.toList) with
      | false =>
        have hr := (show Hid (lrB S n t = false) from HEnd.out _ h2)
        go_enter Tryd.func29, Tryd.ntmps29
        go_wp2_with (first
          | (go_at_call 62; refine (clone_own g n cap S w1 (HI.out.below hB1) hn30).mono ?_; rintro e w2 ⟨gg, cc, rfl, ho2, hB2⟩)
          | (go_at_call 63; refine (search_any gg cc n w1.heap.size S t w2 ho2 HRs.out hn30 k hk HK1.out HK2.out true hc).mono ?_; rintro e w3 ⟨rfl, hB3⟩)
          | (go_at_call_of 61 gg; have hk4 := HKN.out _ h2 gg cc w3 (by rw [HPE.out]; exact mono_base (ho2.below hB3) hB1.size); rw [HPE.out, hLL] at hk4; refine hk4.mono ?_; rintro e w4 ⟨rfl, hB4⟩)
          | (go_at_call 61; refine (implKnown_any _ n cap S w HI.out HS.out).mono ?_; rintro e w1 ⟨rfl, hB1⟩; rw [h1]))
        go_ret2
        have b2 := hB1.trans (hB2.mono hB1.size)
        have b3 := b2.trans (hB3.mono b2.size)
        refine ⟨.slice none 0 0, ret_val (by rw [hr.out]; rfl), ?_, b3.trans (hB4.mono b3.size)⟩
        unfold lrR
        rw [if_neg (by rw [hr.out]; decide)]
        exact World.ownsRow_nil _ _ _ _
      | true =>
        have hr := (show Hid (lrB S n t = true) from HEnd.out _ h2)
        go_enter Tryd.func29, Tryd.ntmps29
        go_wp2_with (first
          | (go_at_call 62; refine (clone_own g n cap S w1 (HI.out.below hB1) hn30).mono ?_; rintro e w2 ⟨gg, cc, rfl, ho2, hB2⟩)
          | (go_at_call 63; refine (search_any gg cc n w1.heap.size S t w2 ho2 HRs.out hn30 k hk HK1.out HK2.out true hc).mono ?_; rintro e w3 ⟨rfl, hB3⟩)
          | (go_at_call_of 61 gg; have hk4 := HKN.out _ h2 gg cc w3 (by rw [HPE.out]; exact mono_base (ho2.below hB3) hB1.size); rw [HPE.out, hLL] at hk4; refine hk4.mono ?_; rintro e w4 ⟨rfl, hB4⟩)
          | (go_at_call 61; refine (implKnown_any _ n cap S w HI.out HS.out).mono ?_; rintro e w1 ⟨rfl, hB1⟩; rw [h1]))
        go_ret2
        have b2 := hB1.trans (hB2.mono hB1.size)
        have b3 := b2.trans (hB3.mono b2.size)
        refine ⟨.slice (some ⟨gg, 0, none⟩) n cc, ret_val (by rw [hr.out]; rfl), ?_, b3.trans (hB4.mono b3.size)⟩
        unfold lrR
        rw [if_pos hr.out, HPE.out]
        have ho4 := mono_base ((ho2.below hB3).below hB4) hB1.size
        have : OwnL w4 w.heap.size (.slice (some ⟨gg, 0, none⟩) (LL S n).length cc) (LL S n) := ho4
        rw [hLL] at this
        exact this
    · have hc : decide (k < n ∧ SX S n t k = t) = false := decide_eq_false hth
      have hP : putL (LL S n) t.toList = insL (LL S n) k t.toList := by
        rw [hput, if_neg (fun hh => hth ?_)]
        · rfl
        · obtain ⟨q1, q2⟩ := hh
          rw [hLL] at q1
          rw [LL_at S q1] at q2
          refine ⟨q1, ?_⟩
          unfold SX
          rw [if_pos q1]
          exact bytes_eq q2
      have HPE : Hid (putL (LL S n) t.toList = insL (LL S n) k t.toList) := hP
      have hil : (insL (LL S n) k t.toList).length = n + 1 := by rw [insL_len (by omega), hLL]
      have HIns : Hid (∀ base gg cc (v : World), OwnS v base gg cc (LL S n) → Calls Tryd.prog 64 #[.slice (some ⟨gg, 0, none⟩) n cc, .int .i64 k, .slice (some ⟨v.heap.size, 0, none⟩) 1 1] (v.alloc (.cells #[.string t] 9)) fun e w' => ∃ g' cap', e = .returned (.slice (some ⟨g', 0, none⟩) (n + 1) cap') ∧ OwnS w' base g' cap' (insL (LL S n) k t.toList) ∧ Kept (fun b => b ≠ gg) v w') := fun base gg cc v ho => by
        have := insert_own base gg cc (LL S n) k t v ho (by omega) (by omega)
        rw [hLL] at this
        exact this
      clear hput hP hth
      cases h2 : knL (putL (LL S n) t.toList) with
      | false =>
        have hr := (show Hid (lrB S n t = false) from HEnd.out _ h2)
        go_enter Tryd.func29, Tryd.ntmps29
        go_wp2_with (first
          | (go_at_call 62; refine (clone_own g n cap S w1 (HI.out.below hB1) hn30).mono ?_; rintro e w2 ⟨gg, cc, rfl, ho2, hB2⟩)
          | (go_at_call 63; refine (search_any gg cc n w1.heap.size S t w2 ho2 HRs.out hn30 k hk HK1.out HK2.out false hc).mono ?_; rintro e w3 ⟨rfl, hB3⟩)
          | (go_at_call 64; refine (HIns.out w1.heap.size gg cc w3 (ho2.below hB3)).mono ?_; rintro e w5 ⟨g5, c5, rfl, ho5, hK5⟩)
          | (go_at_call_of 61 g5; have hk4 := HKN.out _ h2 g5 c5 w5 (by rw [HPE.out]; exact mono_base ho5 hB1.size); rw [HPE.out, hil] at hk4; refine hk4.mono ?_; rintro e w4 ⟨rfl, hB4⟩)
          | (go_at_call 61; refine (implKnown_any _ n cap S w HI.out HS.out).mono ?_; rintro e w1 ⟨rfl, hB1⟩; rw [h1]))
        go_ret2
        have b2 := hB1.trans (hB2.mono hB1.size)
        have b3 := b2.trans (hB3.mono b2.size)
        have b5 : Below w.heap.size w w5 := b3.trans (kept_below hK5 (by have := ho2.lies.2.2; have := hB1.size; omega) b3.size)
        refine ⟨.slice none 0 0, ret_val (by rw [hr.out]; rfl), ?_, b5.trans (hB4.mono b5.size)⟩
        unfold lrR
        rw [if_neg (by rw [hr.out]; decide)]
        exact World.ownsRow_nil _ _ _ _
      | true =>
        have hr := (show Hid (lrB S n t = true) from HEnd.out _ h2)
        go_enter Tryd.func29, Tryd.ntmps29
        go_wp2_with (first
          | (go_at_call 62; refine (clone_own g n cap S w1 (HI.out.below hB1) hn30).mono ?_; rintro e w2 ⟨gg, cc, rfl, ho2, hB2⟩)
          | (go_at_call 63; refine (search_any gg cc n w1.heap.size S t w2 ho2 HRs.out hn30 k hk HK1.out HK2.out false hc).mono ?_; rintro e w3 ⟨rfl, hB3⟩)
          | (go_at_call 64; refine (HIns.out w1.heap.size gg cc w3 (ho2.below hB3)).mono ?_; rintro e w5 ⟨g5, c5, rfl, ho5, hK5⟩)
          | (go_at_call_of 61 g5; have hk4 := HKN.out _ h2 g5 c5 w5 (by rw [HPE.out]; exact mono_base ho5 hB1.size); rw [HPE.out, hil] at hk4; refine hk4.mono ?_; rintro e w4 ⟨rfl, hB4⟩)
          | (go_at_call 61; refine (implKnown_any _ n cap S w HI.out HS.out).mono ?_; rintro e w1 ⟨rfl, hB1⟩; rw [h1]))
        go_ret2
        have b2 := hB1.trans (hB2.mono hB1.size)
        have b3 := b2.trans (hB3.mono b2.size)
        have b5 : Below w.heap.size w w5 := b3.trans (kept_below hK5 (by have := ho2.lies.2.2; have := hB1.size; omega) b3.size)
        refine ⟨.slice (some ⟨g5, 0, none⟩) (n + 1) c5, ret_val (by rw [hr.out]; rfl), ?_, b5.trans (hB4.mono b5.size)⟩
        unfold lrR
        rw [if_pos hr.out, HPE.out]
        have ho4 := mono_base (ho5.below hB4) hB1.size
        have : OwnL w4 w.heap.size (.slice (some ⟨g5, 0, none⟩) (insL (LL S n) k t.toList).length c5) (insL (LL S n) k t.toList) := ho4
        rw [hil] at this
        exact this
end Go.Proofs.YtpcbhjejpebogaaDoor
