/-
  The specification's merging of beats. No condition but that the slices read.
-/
import Derived.Test.YtnjlegphohmajaaBtPut
import Derived.Test.YtnjlegphohmajaaBtOk
namespace Go.Proofs.Ytnjlegphohmajaa
open Go.RowKit
set_option linter.unusedVariables false

/-- beats with the first k of others -/
def mgFrom (S : List Ev) (D : Nat → Ev) : Nat → List Ev
  | 0 => S
  | k + 1 => putB (mgFrom S D k) (D k)
theorem mgFrom_len (S : List Ev) (D : Nat → Ev) : ∀ k, (mgFrom S D k).length ≤ S.length + k
  | 0 => Nat.le_refl _
  | k + 1 => by
    have h1 := mgFrom_len S D k
    have h2 := putB_len (D k) (mgFrom S D k)
    show (putB (mgFrom S D k) (D k)).length ≤ _
    omega
def mgB (D1 : Nat → Ev) (l1 : Nat) (D2 : Nat → Ev) (l2 : Nat) : Bool := beatsB D1 l1 && beatsB D2 l2
def mgL (D1 : Nat → Ev) (l1 : Nat) (D2 : Nat → Ev) (l2 : Nat) : List Ev := mgFrom (mgFrom [] D1 l1) D2 l2
def mgR (D1 : Nat → Ev) (l1 : Nat) (D2 : Nat → Ev) (l2 : Nat) : List Ev := if mgB D1 l1 D2 l2 = true then mgL D1 l1 D2 l2 else []
theorem beatsB_len {D : Nat → Ev} {n : Nat} (h : beatsB D n = true) : n ≤ 12 := by
  unfold beatsB at h
  simp only [Bool.and_eq_true, decide_eq_true_eq] at h
  exact h.1
theorem mgR_len (D1 : Nat → Ev) (l1 : Nat) (D2 : Nat → Ev) (l2 : Nat) : (mgR D1 l1 D2 l2).length ≤ 24 := by
  unfold mgR
  split
  · rename_i h
    unfold mgB at h
    simp only [Bool.and_eq_true] at h
    have h1 := beatsB_len h.1
    have h2 := beatsB_len h.2
    have h3 := mgFrom_len [] D1 l1
    have h4 := mgFrom_len (mgFrom [] D1 l1) D2 l2
    unfold mgL
    simp at h3
    omega
  · simp

set_option maxRecDepth 10000 in
set_option maxHeartbeats 4000000 in
theorem specMerged_any (a1 : Option Addr) (l1 c1 : Nat) (D1 : Nat → Ev) (a2 : Option Addr) (l2 c2 : Nat) (D2 : Nat → Ev) (w : World) (h1 : IsEvs w a1 l1 c1 D1) (h2 : IsEvs w a2 l2 c2 D2) (hF1 : ∀ i, i < l1 → (D1 i).in) (hF2 : ∀ i, i < l2 → (D2 i).in) :
    Calls Try.prog 18 #[.slice a1 l1 c1, .slice a2 l2 c2] w fun e w' => ∃ v, e = .returned v ∧ OwnV w' w.heap.size v (mgR D1 l1 D2 l2) ∧ Below w.heap.size w w' := by
  have HB0 : Hid (Below w.heap.size w (w.alloc (.cells #[] 32))) := (Below.refl _ _).alloc (Nat.le_refl _) _
  have HO0 : Hid (OwnE (w.alloc (.cells #[] 32)) w.heap.size w.heap.size 0 []) := World.ownsRow_made w #[] 0 (Nat.le_refl _) (by decide) rfl
  obtain ⟨R, hR⟩ : ∃ R, R = mgR D1 l1 D2 l2 := ⟨_, rfl⟩
  rw [← hR]
  go_enter Try.func18, Try.ntmps18
  go_wp2_with fail
  refine (specBeats_any a1 l1 c1 D1 _ (h1.below HB0.out) hF1).mono ?_
  rintro e w1 ⟨rfl, hB1⟩
  have HB1 : Hid (Below w.heap.size w w1) := HB0.out.trans (hB1.mono HB0.out.size)
  have HO1 : Hid (OwnE w1 w.heap.size w.heap.size 0 []) := HO0.out.below hB1
  clear hB1 HB0 HO0
  cases hb : beatsB D1 l1 with
  | false =>
    have HR : Hid (R = []) := by show _ = _; rw [hR]; unfold mgR mgB; rw [hb]; rfl
    go_wp2
    go_ret
    exact ⟨_, rfl, by rw [HR.out]; exact HO1.out.v, HB1.out⟩
  | true =>
    go_wp2_with fail
    refine (specBeats_any a2 l2 c2 D2 _ (h2.below HB1.out) hF2).mono ?_
    rintro e w2 ⟨rfl, hB2⟩
    have HB2 : Hid (Below w.heap.size w w2) := HB1.out.trans (hB2.mono HB1.out.size)
    have HO2 : Hid (OwnE w2 w.heap.size w.heap.size 0 []) := HO1.out.below hB2
    clear hB2 HB1 HO1
    cases hb2 : beatsB D2 l2 with
    | false =>
      have HR : Hid (R = []) := by show _ = _; rw [hR]; unfold mgR mgB; rw [hb, hb2]; rfl
      go_wp2
      go_ret
      exact ⟨_, rfl, by rw [HR.out]; exact HO2.out.v, HB2.out⟩
    | true =>
      have HR : Hid (R = mgFrom (mgFrom [] D1 l1) D2 l2) := by show _ = _; rw [hR]; unfold mgR mgB mgL; rw [hb, hb2]; rfl
      have hn1 := beatsB_len hb
      have hn2 := beatsB_len hb2
      have HSL : Hid (([] : List Ev).length ≤ 12) := Nat.zero_le _
      clear hF1 hF2 hb hb2 hR
      go_wp2
      go_loopw [5, 6] (fun v i wr => ∃ (k g gc : Nat), k ≤ l1 ∧ i = .int .i64 k ∧ v = .slice (some ⟨g, 0, none⟩) (mgFrom [] D1 k).length gc ∧ Hid (OwnE wr w.heap.size g gc (mgFrom [] D1 k)) ∧ Hid (Below w.heap.size w wr)) (fun _ i _ => l1 - (intOf i).toNat)
      case atStart => exact ⟨0, w.heap.size, 0, Nat.zero_le _, rfl, rfl, HO2, HB2⟩
      case round =>
        obtain ⟨k, g, gc, hk, rfl, rfl, HO, HB⟩ := hrel
        by_cases hlt : k < l1
        · have hltI : (k : Int) < (l1 : Int) := by omega
          obtain ⟨b, off, rfl, hbs, hcell⟩ := h1.2.2 (by omega)
          obtain ⟨c0, c1, c2, c3⟩ : EvAt wr b (off + k * 4) (D1 k) := (hcell k hlt).grow hbs HB.out
          have hml : (mgFrom [] D1 k).length ≤ 2000000 := by have := mgFrom_len [] D1 k; have := HSL.out; omega
          clear hcell
          go_wp2_with fail
          refine (put_any g 0 gc (mgFrom [] D1 k) (D1 k) wr HO.out.lies.1 HO.out.lies.2.1 HO.out.caps.1 HO.out.caps.2 hml).mono ?_
          rintro e w4 ⟨g4, gc4, rfl, hO4, hB4⟩
          have HO4 : Hid (OwnE w4 w.heap.size g4 gc4 (mgFrom [] D1 (k + 1))) := hO4.base HB.out.size
          have HB4 : Hid (Below w.heap.size w w4) := HB.out.trans (hB4.mono HB.out.size)
          clear hO4 hB4
          go_wp2
          go_roundw
          case rel => exact ⟨k + 1, g4, gc4, by omega, by go_num, rfl, HO4, HB4⟩
          case measure => simp [intOf]; omega
        · have hke : k = l1 := by omega
          subst hke
          have HSL : Hid ((mgFrom [] D1 k).length ≤ 12) := by show _ ≤ _; have := mgFrom_len [] D1 k; simp at this; omega
          have HO' : Hid (OwnE wr w.heap.size g gc (mgFrom [] D1 k)) := HO
          have HB' : Hid (Below w.heap.size w wr) := HB
          obtain ⟨S, hS⟩ : ∃ S, S = mgFrom [] D1 k := ⟨_, rfl⟩
          rw [← hS] at HO' HR HSL ⊢
          clear HO HB hS
          go_wp2
          go_loopw [5, 7] (fun v i wr => ∃ (k g gc : Nat), k ≤ l2 ∧ i = .int .i64 k ∧ v = .slice (some ⟨g, 0, none⟩) (mgFrom S D2 k).length gc ∧ Hid (OwnE wr w.heap.size g gc (mgFrom S D2 k)) ∧ Hid (Below w.heap.size w wr)) (fun _ i _ => l2 - (intOf i).toNat)
          case atStart => exact ⟨0, g, gc, Nat.zero_le _, rfl, rfl, HO', HB'⟩
          case round =>
            obtain ⟨k, g, gc, hk, rfl, rfl, HO, HB⟩ := hrel
            by_cases hlt : k < l2
            · have hltI : (k : Int) < (l2 : Int) := by omega
              obtain ⟨b, off, rfl, hbs, hcell⟩ := h2.2.2 (by omega)
              obtain ⟨c0, c1, c2, c3⟩ : EvAt wr b (off + k * 4) (D2 k) := (hcell k hlt).grow hbs HB.out
              have hml : (mgFrom S D2 k).length ≤ 2000000 := by have := mgFrom_len S D2 k; have := HSL.out; omega
              clear hcell
              go_wp2_with fail
              refine (put_any g 0 gc (mgFrom S D2 k) (D2 k) wr HO.out.lies.1 HO.out.lies.2.1 HO.out.caps.1 HO.out.caps.2 hml).mono ?_
              rintro e w4 ⟨g4, gc4, rfl, hO4, hB4⟩
              have HO4 : Hid (OwnE w4 w.heap.size g4 gc4 (mgFrom S D2 (k + 1))) := hO4.base HB.out.size
              have HB4 : Hid (Below w.heap.size w w4) := HB.out.trans (hB4.mono HB.out.size)
              clear hO4 hB4
              go_wp2
              go_roundw
              case rel => exact ⟨k + 1, g4, gc4, by omega, by go_num, rfl, HO4, HB4⟩
              case measure => simp [intOf]; omega
            · have hke : k = l2 := by omega
              subst hke
              have HF : Hid (OwnV wr w.heap.size (.slice (some ⟨g, 0, none⟩) (mgFrom S D2 k).length gc) R) := by show OwnV _ _ _ _; rw [HR.out]; exact HO.out.v
              clear HO
              go_wp2
              go_ret
              exact ⟨_, rfl, HF.out, HB.out⟩
end Go.Proofs.Ytnjlegphohmajaa
