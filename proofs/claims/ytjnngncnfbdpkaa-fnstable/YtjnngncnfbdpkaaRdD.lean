/-
  The reader of codes draws counts. Condition: the code reads as bytes.
-/
import Derived.Test.YtjnngncnfbdpkaaDrawO
import Derived.Test.YtjnngncnfbdpkaaRwP
namespace Go.Proofs.Ytjnngncnfbdpkaa
open Go.RowKit
set_option linter.unusedVariables false

theorem big_any (a : Option Addr) (len cap : Nat) (w : World) : Calls Try.prog 13 #[.slice a len cap] w fun e w' => e = .returned (.bool (decide ((1048576 : Int) < (len : Int)))) ∧ w' = w := by
  go_enter Try.func13, Try.ntmps13
  go_wp2
  go_ret
  exact ⟨rfl, rfl⟩

theorem open_any (a : Option Addr) (len cap : Nat) (w : World) : Calls Try.prog 34 #[.slice a len cap] w fun e w' => e = .returned (.pointer (some ⟨w.heap.size, 0, none⟩)) ∧ Draw w a len cap w.heap.size w' := by
  go_enter Try.func34, Try.ntmps34
  go_wp2
  go_ret
  exact ⟨rfl, (Below.refl _ _).alloc (Nat.le_refl _) _, Nat.le_refl _, 0, Nat.zero_le _, heap_alloc_new w _⟩

theorem Mut.set {R : Nat} {a w : World} (h : Mut R a w) {k o : Nat} {u : Value} (hk : a.heap.size ≤ k) : Mut R a (w.setCell ⟨k, o, none⟩ u) :=
  ⟨h.os, h.tape, h.output, by simpa [World.setCell] using h.size, fun i hi hr => by rw [Below.heap_setCell _ _ _ _ (show i ≠ k by omega)]; exact h.block i hi hr⟩
theorem Draw.set {W : World} {a : Option Addr} {len cap R : Nat} {w : World} (h : Draw W a len cap R w) {k o : Nat} {u : Value} (hk : R < k) : Draw W a len cap R (w.setCell ⟨k, o, none⟩ u) := by
  obtain ⟨p, hp, hb⟩ := h.box
  exact ⟨h.bel.setCell (p := ⟨k, o, none⟩) (Nat.le_trans h.new (Nat.le_of_lt hk)) _, h.new, p, hp, by rw [Below.heap_setCell _ _ _ _ (show R ≠ k by omega)]; exact hb⟩
theorem OwnI.mut {R : Nat} {w w' : World} {base : Nat} {v : Value} {L : List Int} (h : OwnI w base v L) (hM : Mut R w w') (hR : R < base) : OwnI w' base v L :=
  h.blk fun k hk => hM.block k (World.ownsRow.lt h k hk).2 (by have := (World.ownsRow.lt h k hk).1; omega)
theorem OwnR.mut {R : Nat} {w w' : World} {lo hi : Nat} {v : Value} {L : List Rw} (h : OwnR w lo hi v L) (hh : hi ≤ w.heap.size) (hM : Mut R w w') (hR : R < lo) : OwnR w' lo hi v L :=
  h.at fun k h1 h2 => hM.block k (by omega) (by omega)

section
variable {W : World} {a : Option Addr} {len cap R : Nat} {Z : Nat → Int}

set_option maxHeartbeats 1000000 in
theorem counts_any (hU : IsU8 W a len cap Z) (w : World) (h : Draw W a len cap R w) :
    Calls Try.prog 49 #[.pointer (some ⟨R, 0, none⟩)] w fun e w' => ∃ cs, cs.length = 9 ∧ e = .returned (.slice (some ⟨w.heap.size, 0, none⟩) 9 9) ∧ OwnI w' w.heap.size (.slice (some ⟨w.heap.size, 0, none⟩) 9 9) cs ∧ Draw W a len cap R w' ∧ Mut R w w' := by
  have HR : Hid (R < w.heap.size) := h.lt
  obtain ⟨i0, hi, hz0, hz1, hz2⟩ := info_parts infoI
  have hb2 : i0.bytes * 9 ≤ 281474976710656 := by rw [hz2]; omega
  have hb3 : 9 ≤ maxLen := by unfold maxLen; omega
  go_enter Try.func49, Try.ntmps49
  go_wp2_with (at_make; refine wpList_make_full _ rfl _ _ 36 rfl w.heap.size 2 i0 (.int .i64 0) 1 Try.underlying36 hi hz0 hz1 .i64 .i64 _ _ 9 rfl rfl rfl rfl hb2 hb3 (Nat.le_refl _) ?_; intro w1 hown hgrow)
  rw [show (madeCells (Value.int .i64 0).cells (9 * 1)).toList = z9.map (.int .i64 ·) from (made_ints (fun _ => 0) 9).trans rfl] at hown
  have hB1 : Below w.heap.size w w1 := (Below.refl _ w).grown hgrow (Nat.le_refl _) (fun k hk => by cases hk)
  have hD1 : Draw W a len cap R w1 := h.below hB1
  have HM1 : Hid (Mut R w w1) := Mut.of_below hB1
  have HO1 : Hid (OwnI w1 w.heap.size (.slice (some ⟨w.heap.size, 0, none⟩) 9 9) z9) := hown
  clear hown hgrow hB1 h
  go_loopw [4] (fun i wr => ∃ (k : Nat) (cs : List Int), k ≤ 3 ∧ i = .int .i64 k ∧ Hid (cs.length = 9) ∧ Hid (OwnI wr w.heap.size (.slice (some ⟨w.heap.size, 0, none⟩) 9 9) cs) ∧ Draw W a len cap R wr ∧ Hid (Mut R w wr)) (fun i _ => 3 - (intOf i).toNat)
  case atStart => exact ⟨0, z9, Nat.zero_le _, rfl, rfl, HO1, hD1, HM1⟩
  case round =>
    obtain ⟨k, cs, hk, rfl, HL, HO, hD, HM⟩ := hrel
    clear hD1 HO1 HM1
    by_cases hlt : k < 3
    · have hltI : (k : Int) < 3 := by omega
      have h9I : (k : Int) < 9 := by omega
      have h9 : k < 9 := by omega
      go_wp2_with fail
      refine (below_any hU 5 (by omega) (by omega) _ hD).mono ?_
      rintro e w2 ⟨x, hx0, hx1, rfl, hD2, hM2⟩
      have HO2 : Hid (OwnI w2 w.heap.size (.slice (some ⟨w.heap.size, 0, none⟩) 9 9) cs) := HO.out.mut hM2 HR.out
      have HM2 : Hid (Mut R w w2) := HM.out.trans hM2
      have how : w2.ownsRow w.heap.size 2 1 (.slice (some ⟨w.heap.size, 0, none⟩) 9 9) 9 (cs.map (.int .i64 ·)) := by have := HO2.out; unfold OwnI at this; rw [HL.out] at this; exact this
      have hfz := how.frozenAt k
      obtain ⟨v0, hcl⟩ := own_some how k (by omega)
      have HF : Hid ((cs.set k x).length = 9 ∧ OwnI (w2.setCell ⟨w.heap.size, k, none⟩ (.int .i64 x)) w.heap.size (.slice (some ⟨w.heap.size, 0, none⟩) 9 9) (cs.set k x)) := by
        refine ⟨by rw [List.length_set]; exact HL.out, ?_⟩
        have h1 := (how.stored k (.int .i64 x)).1
        unfold OwnI
        rw [List.length_set, HL.out, List.map_set]
        exact h1
      have HF2 : Hid (Draw W a len cap R (w2.setCell ⟨w.heap.size, k, none⟩ (.int .i64 x)) ∧ Mut R w (w2.setCell ⟨w.heap.size, k, none⟩ (.int .i64 x))) := ⟨hD2.set HR.out, HM2.out.set (Nat.le_refl _)⟩
      clear how hM2 hD
      go_wp2
      go_roundw
      case rel => exact ⟨k + 1, _, by omega, by go_num, HF.out.1, HF.out.2, HF2.out.1, HF2.out.2⟩
      case measure => simp [intOf]; omega
    · have hke : k = 3 := by omega
      subst hke
      go_wp2_with fail
      refine (once_any hU 20 (by omega) (by omega) _ hD).mono ?_
      rintro e w2 ⟨b, rfl, hD2, hM2⟩
      have HO2 : Hid (OwnI w2 w.heap.size (.slice (some ⟨w.heap.size, 0, none⟩) 9 9) cs) := HO.out.mut hM2 HR.out
      have HM2 : Hid (Mut R w w2) := HM.out.trans hM2
      clear hM2 hD HM HO hlt hk
      cases b with
      | false =>
        go_wp2
        go_ret
        exact ⟨cs, HL.out, rfl, HO2.out, hD2, HM2.out⟩
      | true =>
        go_wp2_with fail
        refine (off0m_any hU _ hD2).mono ?_
        rintro e w3 ⟨x, hx0, hx1, rfl, hD3, hM3⟩
        have HO3 : Hid (OwnI w3 w.heap.size (.slice (some ⟨w.heap.size, 0, none⟩) 9 9) cs) := HO2.out.mut hM3 HR.out
        have HM3 : Hid (Mut R w w3) := HM2.out.trans hM3
        have how : w3.ownsRow w.heap.size 2 1 (.slice (some ⟨w.heap.size, 0, none⟩) 9 9) 9 (cs.map (.int .i64 ·)) := by have := HO3.out; unfold OwnI at this; rw [HL.out] at this; exact this
        have hfz := how.frozenAt 8
        obtain ⟨v0, hcl⟩ := own_some how 8 (by omega)
        have HF : Hid ((cs.set 8 x).length = 9 ∧ OwnI (w3.setCell ⟨w.heap.size, 8, none⟩ (.int .i64 x)) w.heap.size (.slice (some ⟨w.heap.size, 0, none⟩) 9 9) (cs.set 8 x)) := by
          refine ⟨by rw [List.length_set]; exact HL.out, ?_⟩
          have h1 := (how.stored 8 (.int .i64 x)).1
          unfold OwnI
          rw [List.length_set, HL.out, List.map_set]
          exact h1
        have HF2 : Hid (Draw W a len cap R (w3.setCell ⟨w.heap.size, 8, none⟩ (.int .i64 x)) ∧ Mut R w (w3.setCell ⟨w.heap.size, 8, none⟩ (.int .i64 x))) := ⟨hD3.set HR.out, HM3.out.set (Nat.le_refl _)⟩
        clear how hM3 hD2
        go_wp2
        go_ret
        exact ⟨_, HF.out.1, rfl, HF.out.2, HF2.out.1, HF2.out.2⟩
end
end Go.Proofs.Ytjnngncnfbdpkaa
