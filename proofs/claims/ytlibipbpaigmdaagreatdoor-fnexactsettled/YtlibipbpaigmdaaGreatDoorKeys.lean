/-
  The specification's keys of a dag. No condition but that the slice reads.
-/
import Derived.Test.YtlibipbpaigmdaaGreatDoorSHeads
namespace Go.Proofs.YtlibipbpaigmdaaGreatDoor
open Go.RowKit
set_option linter.unusedVariables false

/-- the keys that the first k nodes set -/
def keysL (D : Nat → Nd) : Nat → List (List UInt8)
  | 0 => []
  | k + 1 => if (D k).k = 3 then putL (keysL D k) (D k).key.toList else keysL D k
def keysR (D : Nat → Nd) (len : Nat) : List (List UInt8) := if dagB D len = true then keysL D len else []
theorem keysL_yes {D : Nat → Nd} {k : Nat} (h : (D k).k = 3) : keysL D (k + 1) = putL (keysL D k) (D k).key.toList := by rw [keysL, if_pos h]
theorem keysL_no {D : Nat → Nd} {k : Nat} (h : ¬ (D k).k = 3) : keysL D (k + 1) = keysL D k := by rw [keysL, if_neg h]
theorem putL_len (s : List UInt8) : ∀ L : List (List UInt8), (putL L s).length ≤ L.length + 1
  | [] => by simp [putL]
  | x :: l => by
    have := putL_len s l
    unfold putL
    split
    · simp; omega
    · split <;> simp
theorem keysL_len (D : Nat → Nd) : ∀ k, (keysL D k).length ≤ k
  | 0 => by simp [keysL]
  | k + 1 => by
    have := keysL_len D k
    by_cases h : (D k).k = 3
    · rw [keysL_yes h]
      have := putL_len (D k).key.toList (keysL D k)
      omega
    · rw [keysL_no h]; omega
theorem keysL_up (D : Nat → Nd) : ∀ k, Up (keysL D k)
  | 0 => by simp [keysL, Up]
  | k + 1 => by
    have := keysL_up D k
    by_cases h : (D k).k = 3
    · rw [keysL_yes h]; exact putL_up _ _ this
    · rw [keysL_no h]; exact this
theorem keysL_mem (D : Nat → Nd) (x : List UInt8) : ∀ k, x ∈ keysL D k ↔ ∃ i, i < k ∧ (D i).k = 3 ∧ (D i).key.toList = x
  | 0 => by simp [keysL]
  | k + 1 => by
    have ih := keysL_mem D x k
    by_cases h : (D k).k = 3
    · rw [keysL_yes h, putL_mem, ih]
      constructor
      · rintro (⟨i, hi, r⟩ | rfl)
        · exact ⟨i, by omega, r⟩
        · exact ⟨k, Nat.lt_succ_self _, h, rfl⟩
      · rintro ⟨i, hi, h1, h2⟩
        rcases Nat.lt_succ_iff_lt_or_eq.1 hi with h3 | rfl
        · exact .inl ⟨i, h3, h1, h2⟩
        · exact .inr h2.symm
    · rw [keysL_no h, ih]
      constructor
      · rintro ⟨i, hi, r⟩
        exact ⟨i, by omega, r⟩
      · rintro ⟨i, hi, h1, h2⟩
        rcases Nat.lt_succ_iff_lt_or_eq.1 hi with h3 | rfl
        · exact ⟨i, h3, h1, h2⟩
        · exact absurd h1 h
theorem keysR_len (D : Nat → Nd) (len : Nat) : (keysR D len).length ≤ 1000000 := by
  unfold keysR
  split
  · rename_i h
    have h1 := keysL_len D len
    have := (dagB_parts h).1
    omega
  · simp

theorem OwnS.ownL {w : World} {base g cap : Nat} {L : List (List UInt8)} (h : OwnS w base g cap L) : OwnL w base (.slice (some ⟨g, 0, none⟩) L.length cap) L := h
theorem OwnS.made (w : World) (base : Nat) (hb : base ≤ w.heap.size) : OwnS (w.alloc (.cells #[] 9)) base w.heap.size 0 [] := World.ownsRow_made w #[] 0 hb (by decide) rfl

set_option maxHeartbeats 1000000 in
theorem specKeysIn_any (a : Option Addr) (len cap : Nat) (D : Nat → Nd) (w : World) (h : IsNds w a len cap D) (hf : Fine D len) :
    Calls Tryz.prog 81 #[.slice a len cap] w fun e w' => ∃ v, e = .returned v ∧ OwnL w' w.heap.size v (keysR D len) ∧ Below w.heap.size w w' := by
  have HN : Hid (IsNds w a len cap D) := h
  have hBa : Below w.heap.size w (w.alloc (.cells #[] 9)) := (Below.refl _ _).alloc (Nat.le_refl _) _
  have HS : Hid (Calls Tryz.prog 46 #[.slice a len cap] (w.alloc (.cells #[] 9)) fun e w' => e = .returned (.bool (dagB D len)) ∧ Below (w.alloc (.cells #[] 9)).heap.size (w.alloc (.cells #[] 9)) w') := specDagOk_any a len cap D _ (h.below hBa) hf
  have HM : Hid (OwnS (w.alloc (.cells #[] 9)) w.heap.size w.heap.size 0 []) := OwnS.made w _ (Nat.le_refl _)
  have HBa : Hid (Below w.heap.size w (w.alloc (.cells #[] 9))) := hBa
  obtain ⟨hlc, hcm, hc⟩ := h
  clear hf hBa
  cases hq : dagB D len with
  | false =>
    have HR : Hid (keysR D len = []) := by show _ = _; unfold keysR; rw [if_neg (by rw [hq]; decide)]
    rw [hq] at HS
    go_enter Tryz.func81, Tryz.ntmps81
    go_wp2_with (go_at_call 46; refine HS.out.mono ?_; rintro e w1 ⟨rfl, hB1⟩; have HB1 : Hid (Below w.heap.size w w1) := HBa.out.trans (hB1.mono HBa.out.size); have HO1 : Hid (OwnS w1 w.heap.size w.heap.size 0 []) := HM.out.below hB1; clear hB1)
    go_loopw [5, 3] (fun i v wr => i = .int .i64 0 ∧ v = .slice (some ⟨w.heap.size, 0, none⟩) 0 0 ∧ wr = w1) (fun _ _ _ => 0)
    case atStart => exact ⟨rfl, rfl, rfl⟩
    case round =>
      obtain ⟨rfl, rfl, rfl⟩ := hrel
      go_wp2
      go_ret
      refine ⟨_, rfl, ?_, HB1.out⟩
      rw [HR.out]
      exact HO1.out.ownL
  | true =>
    have HR : Hid (keysR D len = keysL D len) := by show _ = _; unfold keysR; rw [if_pos hq]
    have hl := (dagB_parts hq).1
    rw [hq] at HS
    clear hq
    go_enter Tryz.func81, Tryz.ntmps81
    go_wp2_with (go_at_call 46; refine HS.out.mono ?_; rintro e w1 ⟨rfl, hB1⟩; have HB1 : Hid (Below w.heap.size w w1) := HBa.out.trans (hB1.mono HBa.out.size); have HO1 : Hid (OwnS w1 w.heap.size w.heap.size 0 []) := HM.out.below hB1; clear hB1)
    go_loopw [5, 3] (fun i v wr => ∃ (k g gc : Nat), k ≤ len ∧ i = .int .i64 k ∧ v = .slice (some ⟨g, 0, none⟩) (keysL D k).length gc ∧ OwnS wr w.heap.size g gc (keysL D k) ∧ Below w.heap.size w wr)
      (fun i _ _ => len - (intOf i).toNat)
    case atStart => exact ⟨0, w.heap.size, 0, Nat.zero_le _, rfl, rfl, HO1.out, HB1.out⟩
    case round =>
      obtain ⟨k, g, gc, hk, rfl, rfl, ho, hB⟩ := hrel
      have HO := (show Hid _ from ho)
      have HB := (show Hid _ from hB)
      by_cases hlt : k < len
      · have hltI : (k : Int) < (len : Int) := by omega
        obtain ⟨b, off, ea, hbs, _⟩ := hc (by omega)
        subst ea
        have nd := dag_at (HN.out.below hB) rfl k hlt
        have c2 := nd.c2
        have c3 := nd.c3
        have hkl := keysL_len D k
        have HP : Hid (Calls Tryz.prog 113 #[.slice (some ⟨g, 0, none⟩) (keysL D k).length gc, .string (D k).key] wr fun e w' => ∃ g' gc', e = .returned (.slice (some ⟨g', 0, none⟩) (putL (keysL D k) (D k).key.toList).length gc') ∧ OwnS w' wr.heap.size g' gc' (putL (keysL D k) (D k).key.toList) ∧ Below wr.heap.size wr w') := l1Put_any g 0 gc (keysL D k) (D k).key wr ho.lies.1 ho.lies.2.1 ho.caps.1 ho.caps.2 (by omega)
        clear nd ho hB hkl
        by_cases h3 : (D k).k = 3
        · have hd : ((D k).k == 3) = true := by simp [h3]
          have HY : Hid (keysL D (k + 1) = putL (keysL D k) (D k).key.toList) := keysL_yes h3
          clear h3
          go_wp2_with fail
          refine HP.out.mono ?_
          rintro e w2 ⟨g', gc', rfl, ho2, hB2⟩
          have HO2 : Hid (OwnS w2 w.heap.size g' gc' (keysL D (k + 1))) := by
            show OwnS _ _ _ _ _
            rw [HY.out]
            exact mono_base ho2 HB.out.size
          have HB2 : Hid (Below w.heap.size w w2) := HB.out.trans (hB2.mono HB.out.size)
          clear ho2 hB2
          go_wp2
          go_roundw
          case rel => exact ⟨k + 1, g', gc', by omega, by go_num, by rw [HY.out], HO2.out, HB2.out⟩
          case measure => simp [intOf]; omega
        · have hd : ((D k).k == 3) = false := by simp [h3]
          have HY : Hid (keysL D (k + 1) = keysL D k) := keysL_no h3
          clear h3
          go_wp2
          go_roundw
          case rel => exact ⟨k + 1, g, gc, by omega, by go_num, by rw [HY.out], by rw [HY.out]; exact HO.out, HB.out⟩
          case measure => simp [intOf]; omega
      · have hke : k = len := by omega
        subst hke
        clear ho hB
        go_wp2
        go_ret
        refine ⟨_, rfl, ?_, HB.out⟩
        rw [HR.out]
        exact OwnS.ownL HO.out
end Go.Proofs.YtlibipbpaigmdaaGreatDoor
