/-
  The reader of codes draws a chain and numbers. Condition: the code reads as bytes.
-/
import Derived.Test.YthdlgnbdppijkaaMev
import Derived.Test.YthdlgnbdppijkaaCPut
namespace Go.Proofs.Ythdlgnbdppijkaa
open Go.RowKit
set_option linter.unusedVariables false

theorem putE_len (s : Ev) : ∀ L : List Ev, (putE L s).length ≤ L.length + 1
  | [] => by simp [putE]
  | x :: l => by
    unfold putE
    split
    · have := putE_len s l; simp; omega
    · split <;> simp

theorem big_any (a : Option Addr) (len cap : Nat) (w : World) : Calls Try.prog 6 #[.slice a len cap] w fun e w' => e = .returned (.bool (decide ((1048576 : Int) < (len : Int)))) ∧ w' = w := by
  go_enter Try.func6, Try.ntmps6
  go_wp2
  go_ret
  exact ⟨rfl, rfl⟩

theorem open_any (a : Option Addr) (len cap : Nat) (w : World) : Calls Try.prog 17 #[.slice a len cap] w fun e w' => e = .returned (.pointer (some ⟨w.heap.size, 0, none⟩)) ∧ Draw w a len cap w.heap.size w' := by
  go_enter Try.func17, Try.ntmps17
  go_wp2
  go_ret
  exact ⟨rfl, (Below.refl _ _).alloc (Nat.le_refl _) _, Nat.le_refl _, 0, Nat.zero_le _, heap_alloc_new w _⟩

theorem OwnE.mut {R : Nat} {w w' : World} {base g cap : Nat} {L : List Ev} (h : OwnE w base g cap L) (hM : Mut R w w') (hg : g ≠ R) : OwnE w' base g cap L := by
  obtain ⟨h1, h2⟩ := h
  refine ⟨h1, ?_⟩
  rcases h2 with h2 | ⟨g', cap', cur, hv, hb, hh, r⟩
  · exact .inl h2
  · refine .inr ⟨g', cap', cur, hv, hb, ?_, r⟩
    have e : g = g' := by
      have := congrArg Value.ownBlock hv
      exact Option.some.inj this
    subst e
    exact (hM.block g (lt_of_block hh) hg).trans hh

section
variable {W : World} {a : Option Addr} {len cap R : Nat} {Z : Nat → Int}

set_option maxHeartbeats 400000 in
theorem near0_any (hU : IsU8 W a len cap Z) (w : World) (h : Draw W a len cap R w) :
    Calls Try.prog 35 #[.pointer (some ⟨R, 0, none⟩), .int .i64 0, .int .i64 5] w fun e w' => ∃ x : Int, e = .returned (.int .i64 x) ∧ Draw W a len cap R w' ∧ Mut R w w' := by
  go_enter Try.func35, Try.ntmps35
  go_wp2_with (first
    | (go_at_call 31; refine (below_any hU 8 (by omega) (by omega) _ h).mono ?_; rintro e w' ⟨x, hx0, hx1, rfl, hD, hM⟩)
    | (go_at_call 50; refine (word_any hU _ hD).mono ?_; rintro e w2 ⟨z, rfl, hD', hM'⟩))
  · go_ret
    exact ⟨_, rfl, hD, hM⟩
  · go_ret
    exact ⟨_, rfl, hD, hM⟩
  · go_ret
    exact ⟨_, rfl, hD', hM.trans hM'⟩

set_option maxHeartbeats 400000 in
theorem off0_any (hU : IsU8 W a len cap Z) (w : World) (h : Draw W a len cap R w) :
    Calls Try.prog 19 #[.pointer (some ⟨R, 0, none⟩), .int .i64 0, .int .i64 5] w fun e w' => ∃ x : Int, e = .returned (.int .i64 x) ∧ Draw W a len cap R w' ∧ Mut R w w' := by
  go_enter Try.func19, Try.ntmps19
  go_wp2_with (first
    | (go_at_call 34; refine (once_any hU 24 (by omega) (by omega) _ h).mono ?_; rintro e w' ⟨x, rfl, hD, hM⟩)
    | (go_at_call 35; refine (near0_any hU _ hD).mono ?_; rintro e w2 ⟨z, rfl, hD', hM'⟩))
  · refine (below_any hU 4 (by omega) (by omega) _ (hD.alloc _)).mono ?_
    rintro e w3 ⟨y, hy0, hy1, rfl, hD3, hM3⟩
    have hc := lit_cells hM3 hD.lt
    have c0 := hc 0
    have c1 := hc 1
    have c2 := hc 2
    have c3 := hc 3
    clear hc
    have hM4 : Hid (Mut R w w3) := (hM.alloc _).trans hM3
    clear hM3
    have hy : y = 0 ∨ y = 1 ∨ y = 2 ∨ y = 3 := by omega
    rcases hy with rfl | rfl | rfl | rfl <;> (go_wp2; go_ret; exact ⟨_, rfl, hD3, hM4.out⟩)
  · go_ret
    exact ⟨_, rfl, hD', hM.trans hM'⟩
set_option maxHeartbeats 2000000 in
theorem chain10_any (hU : IsU8 W a len cap Z) (w : World) (h : Draw W a len cap R w) :
    Calls Try.prog 18 #[.pointer (some ⟨R, 0, none⟩), .int .i64 10] w fun e w' => ∃ g gc L, e = .returned (.slice (some ⟨g, 0, none⟩) L.length gc) ∧ L.length ≤ 10 ∧ OwnE w' w.heap.size g gc L ∧ Draw W a len cap R w' ∧ Mut R w w' := by
  have HR : Hid (R < w.heap.size) := h.lt
  have HD0 : Hid (Draw W a len cap R (w.alloc (.cells #[] 39))) := h.alloc _
  have HM0 : Hid (Mut R w (w.alloc (.cells #[] 39))) := (Mut.refl R w).alloc _
  have HO0 : Hid (OwnE (w.alloc (.cells #[] 39)) w.heap.size w.heap.size 0 []) := World.ownsRow_made w #[] 0 (Nat.le_refl _) (by decide) rfl
  clear h
  go_enter Try.func18, Try.ntmps18
  go_wp2_with fail
  refine (below_any hU 11 (by omega) (by omega) _ HD0.out).mono ?_
  rintro e w1 ⟨x, hx0, hx1, rfl, hD1, hM1⟩
  have HO1 : Hid (OwnE w1 w.heap.size w.heap.size 0 []) := HO0.out.mut hM1 (by have := HR.out; omega)
  have HM1 : Hid (Mut R w w1) := HM0.out.trans hM1
  clear hM1 HD0 HM0 HO0
  go_wp2
  go_loopw [5, 6] (fun v i wr => ∃ (k g gc : Nat) (L : List Ev), k + L.length ≤ 10 ∧ i = .int .i64 k ∧ v = .slice (some ⟨g, 0, none⟩) L.length gc ∧ Hid (OwnE wr w.heap.size g gc L) ∧ Draw W a len cap R wr ∧ Hid (Mut R w wr)) (fun _ i _ => (intOf i).toNat)
  case atStart => exact ⟨x.toNat, w.heap.size, 0, [], by simp; omega, by rw [Int.toNat_of_nonneg hx0], rfl, HO1, hD1, HM1⟩
  case round =>
    obtain ⟨k, g, gc, L, hk, rfl, rfl, HO, hD, HM⟩ := hrel
    by_cases h0 : k = 0
    · subst h0
      go_wp2
      go_ret
      exact ⟨g, gc, L, rfl, by omega, HO.out, hD, HM.out⟩
    · have hkI : (0 : Int) < (k : Int) := by omega
      have hgR : g ≠ R := by have := HO.out.lies.2.2; have := HR.out; omega
      clear hD1 HO1 HM1
      go_wp2_with fail
      refine (mevent_any hU wr hD).mono ?_
      rintro e w2 ⟨y, rfl, hD2, hM2⟩
      have HO2 := HO.out.mut hM2 hgR
      go_wp2_with fail
      refine (put_any g 0 gc L y w2 HO2.lies.1 HO2.lies.2.1 HO2.caps.1 HO2.caps.2 (by omega)).mono ?_
      rintro e w3 ⟨g3, gc3, rfl, hO3, hB3⟩
      have hs : w.heap.size ≤ w2.heap.size := (HM.out.trans hM2).size
      have HO3 : Hid (OwnE w3 w.heap.size g3 gc3 (putE L y)) := hO3.base hs
      have hD3 := hD2.below hB3
      have HM3 : Hid (Mut R w w3) := (HM.out.trans hM2).trans (Mut.of_below hB3)
      have hpl := putE_len y L
      clear hO3 hB3 hD2 hM2 hD HO2 HM HO
      go_wp2
      go_roundw
      case rel => exact ⟨k - 1, g3, gc3, putE L y, by omega, by rw [Int.natCast_sub (by omega)]; rfl, rfl, HO3, hD3, HM3⟩
      case measure => simp [intOf]; omega

set_option maxHeartbeats 1000000 in
theorem drawRoster_any (hU : IsU8 W a len cap Z) :
    Calls Try.prog 16 #[.slice a len cap] W fun e w' => ∃ g c A z, e = .returned (.tuple #[.slice (some ⟨g, 0, none⟩) A.length c, .int .i64 z]) ∧ A.length ≤ 10 ∧ OwnE w' W.heap.size g c A ∧ Below W.heap.size W w' := by
  go_enter Try.func16, Try.ntmps16
  go_wp2_with fail
  refine (open_any _ _ _ _).mono ?_
  rintro e w1 ⟨rfl, hD1⟩
  go_wp2_with fail
  refine (chain10_any hU w1 hD1).mono ?_
  rintro e w2 ⟨g1, c1, A, rfl, hA, hO1, hD2, hM2⟩
  have hg1 : g1 ≠ W.heap.size := by have := hO1.lies.2.2; have := hD1.lt; omega
  have hs1 := hD1.bel.size
  go_wp2_with fail
  refine (off0_any hU w2 hD2).mono ?_
  rintro e w3 ⟨z, rfl, hD3, hM3⟩
  have HF : Hid (OwnE w3 W.heap.size g1 c1 A ∧ Below W.heap.size W w3) := ⟨(hO1.base hs1).mut hM3 hg1, hD3.bel⟩
  clear hO1 hD3 hM3 hD2 hM2 hD1
  go_wp2
  go_ret2
  exact ⟨g1, c1, A, z, rfl, hA, HF.out.1, HF.out.2⟩

set_option maxHeartbeats 1000000 in
theorem drawCan_any (hU : IsU8 W a len cap Z) :
    Calls Try.prog 7 #[.slice a len cap] W fun e w' => ∃ g c A n z, e = .returned (.tuple #[.slice (some ⟨g, 0, none⟩) A.length c, .int .i64 n, .int .i64 z]) ∧ A.length ≤ 10 ∧ OwnE w' W.heap.size g c A ∧ Below W.heap.size W w' := by
  go_enter Try.func7, Try.ntmps7
  go_wp2_with fail
  refine (open_any _ _ _ _).mono ?_
  rintro e w1 ⟨rfl, hD1⟩
  go_wp2_with fail
  refine (chain10_any hU w1 hD1).mono ?_
  rintro e w2 ⟨g1, c1, A, rfl, hA, hO1, hD2, hM2⟩
  have hg1 : g1 ≠ W.heap.size := by have := hO1.lies.2.2; have := hD1.lt; omega
  have hs1 := hD1.bel.size
  go_wp2_with fail
  refine (off_any hU w2 hD2).mono ?_
  rintro e w3 ⟨n, rfl, hD3, hM3⟩
  have hO3 := (hO1.base hs1).mut hM3 hg1
  go_wp2_with fail
  refine (off0_any hU w3 hD3).mono ?_
  rintro e w4 ⟨z, rfl, hD4, hM4⟩
  have HF : Hid (OwnE w4 W.heap.size g1 c1 A ∧ Below W.heap.size W w4) := ⟨hO3.mut hM4 hg1, hD4.bel⟩
  clear hO1 hO3 hD3 hM3 hD2 hM2 hD1 hD4 hM4
  go_wp2
  go_ret3
  exact ⟨g1, c1, A, n, z, rfl, hA, HF.out.1, HF.out.2⟩
end
end Go.Proofs.Ythdlgnbdppijkaa
