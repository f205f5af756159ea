/-
  The reader of codes draws a chain: at most as many events as it is told, in memory of its own; two chains that are held against each other. Condition: the code reads as bytes.
-/
import Derived.Test.YtglnnocfdlachaaMev
import Derived.Test.YtglnnocfdlachaaCMrgI
import Derived.Test.YtglnnocfdlachaaEVal
namespace Go.Proofs.Ytglnnocfdlachaa
open Go.RowKit
set_option linter.unusedVariables false

theorem big_any (a : Option Addr) (len cap : Nat) (w : World) : Calls Try.prog 13 #[.slice a len cap] w fun e w' => e = .returned (.bool (decide ((1048576 : Int) < (len : Int)))) ∧ w' = w := by
  go_enter Try.func13, Try.ntmps13
  go_wp2
  go_ret
  exact ⟨rfl, rfl⟩

theorem open_any (a : Option Addr) (len cap : Nat) (w : World) : Calls Try.prog 28 #[.slice a len cap] w fun e w' => e = .returned (.pointer (some ⟨w.heap.size, 0, none⟩)) ∧ Draw w a len cap w.heap.size w' := by
  go_enter Try.func28, Try.ntmps28
  go_wp2
  go_ret
  exact ⟨rfl, (Below.refl _ _).alloc (Nat.le_refl _) _, Nat.le_refl _, 0, Nat.zero_le _, heap_alloc_new w _⟩

theorem OwnE.mut {R : Nat} {w w' : World} {base g cap : Nat} {L : List Ev} (h : OwnE w base g cap L) (hM : Mut R w w') (hg : g ≠ R) : OwnE w' base g cap L := by
  obtain ⟨h1, h2⟩ := h
  refine ⟨h1, ?_⟩
  rcases h2 with h2 | ⟨g', cap', cur, hv, hb, hh, r⟩
  · exact .inl h2
  · refine .inr ⟨g', cap', cur, hv, hb, ?_, r⟩
    have e : g = g' := by
      have := congrArg Value.ownBlock hv
      exact Option.some.inj this
    subst e
    exact (hM.block g (lt_of_block hh) hg).trans hh

section
variable {W : World} {a : Option Addr} {len cap R : Nat} {Z : Nat → Int}

set_option maxHeartbeats 2000000 in
theorem chain_any (hU : IsU8 W a len cap Z) (w : World) (h : Draw W a len cap R w) :
    Calls Try.prog 29 #[.pointer (some ⟨R, 0, none⟩), .int .i64 8] w fun e w' => ∃ g gc L, e = .returned (.slice (some ⟨g, 0, none⟩) L.length gc) ∧ L.length ≤ 8 ∧ OwnE w' w.heap.size g gc L ∧ Draw W a len cap R w' ∧ Mut R w w' := by
  have HR : Hid (R < w.heap.size) := h.lt
  have HD0 : Hid (Draw W a len cap R (w.alloc (.cells #[] 30))) := h.alloc _
  have HM0 : Hid (Mut R w (w.alloc (.cells #[] 30))) := (Mut.refl R w).alloc _
  have HO0 : Hid (OwnE (w.alloc (.cells #[] 30)) w.heap.size w.heap.size 0 []) := World.ownsRow_made w #[] 0 (Nat.le_refl _) (by decide) rfl
  clear h
  go_enter Try.func29, Try.ntmps29
  go_wp2_with fail
  refine (below_any hU 9 (by omega) (by omega) _ HD0.out).mono ?_
  rintro e w1 ⟨x, hx0, hx1, rfl, hD1, hM1⟩
  have HO1 : Hid (OwnE w1 w.heap.size w.heap.size 0 []) := HO0.out.mut hM1 (by have := HR.out; omega)
  have HM1 : Hid (Mut R w w1) := HM0.out.trans hM1
  clear hM1 HD0 HM0 HO0
  go_wp2
  go_loopw [5, 6] (fun v i wr => ∃ (k g gc : Nat) (L : List Ev), k + L.length ≤ 8 ∧ i = .int .i64 k ∧ v = .slice (some ⟨g, 0, none⟩) L.length gc ∧ Hid (OwnE wr w.heap.size g gc L) ∧ Draw W a len cap R wr ∧ Hid (Mut R w wr)) (fun _ i _ => (intOf i).toNat)
  case atStart => exact ⟨x.toNat, w.heap.size, 0, [], by simp; omega, by rw [Int.toNat_of_nonneg hx0], rfl, HO1, hD1, HM1⟩
  case round =>
    obtain ⟨k, g, gc, L, hk, rfl, rfl, HO, hD, HM⟩ := hrel
    by_cases h0 : k = 0
    · subst h0
      go_wp2
      go_ret
      exact ⟨g, gc, L, rfl, by omega, HO.out, hD, HM.out⟩
    · have hkI : (0 : Int) < (k : Int) := by omega
      have hgR : g ≠ R := by have := HO.out.lies.2.2; have := HR.out; omega
      clear hD1 HO1 HM1
      go_wp2_with fail
      refine (mevent_any hU wr hD).mono ?_
      rintro e w2 ⟨y, rfl, hD2, hM2⟩
      have HO2 := HO.out.mut hM2 hgR
      go_wp2_with fail
      refine (put_any g 0 gc L y w2 HO2.lies.1 HO2.lies.2.1 HO2.caps.1 HO2.caps.2 (by omega)).mono ?_
      rintro e w3 ⟨g3, gc3, rfl, hO3, hB3⟩
      have hs : w.heap.size ≤ w2.heap.size := (HM.out.trans hM2).size
      have HO3 : Hid (OwnE w3 w.heap.size g3 gc3 (putE L y)) := hO3.base hs
      have hD3 := hD2.below hB3
      have HM3 : Hid (Mut R w w3) := (HM.out.trans hM2).trans (Mut.of_below hB3)
      have hpl := putE_len y L
      clear hO3 hB3 hD2 hM2 hD HO2 HM HO
      go_wp2
      go_roundw
      case rel => exact ⟨k - 1, g3, gc3, putE L y, by omega, by rw [Int.natCast_sub (by omega)]; rfl, rfl, HO3, hD3, HM3⟩
      case measure => simp [intOf]; omega

end
end Go.Proofs.Ytglnnocfdlachaa
