/-
  The reader of codes draws beats: by rising who, 1 .. 5, in memory of its own. Condition: the code reads as bytes.
-/
import Derived.Test.YtnjlegphohmajaaDrawO
import Derived.Test.YtnjlegphohmajaaRegR
import Derived.Test.YtnjlegphohmajaaBtNs
namespace Go.Proofs.Ytnjlegphohmajaa
open Go.RowKit
set_option linter.unusedVariables false

theorem big_any (a : Option Addr) (len cap : Nat) (w : World) : Calls Try.prog 8 #[.slice a len cap] w fun e w' => e = .returned (.bool (decide ((1048576 : Int) < (len : Int)))) ∧ w' = w := by
  go_enter Try.func8, Try.ntmps8
  go_wp2
  go_ret
  exact ⟨rfl, rfl⟩

theorem open_any (a : Option Addr) (len cap : Nat) (w : World) : Calls Try.prog 35 #[.slice a len cap] w fun e w' => e = .returned (.pointer (some ⟨w.heap.size, 0, none⟩)) ∧ Draw w a len cap w.heap.size w' := by
  go_enter Try.func35, Try.ntmps35
  go_wp2
  go_ret
  exact ⟨rfl, (Below.refl _ _).alloc (Nat.le_refl _) _, Nat.le_refl _, 0, Nat.zero_le _, heap_alloc_new w _⟩

theorem OwnE.mut {R : Nat} {w w' : World} {base g cap : Nat} {L : List Ev} (h : OwnE w base g cap L) (hM : Mut R w w') (hg : g ≠ R) : OwnE w' base g cap L := by
  obtain ⟨h1, h2⟩ := h
  refine ⟨h1, ?_⟩
  rcases h2 with h2 | ⟨g', cap', cur, hv, hb, hh, r⟩
  · exact .inl h2
  · refine .inr ⟨g', cap', cur, hv, hb, ?_, r⟩
    have e : g = g' := by
      have := congrArg Value.ownBlock hv
      exact Option.some.inj this
    subst e
    exact (hM.block g (lt_of_block hh) hg).trans hh

theorem Mut.trans2 {R : Nat} {a w : World} (h : Mut R a w) {k o : Nat} {u : Value} (_ : True) (hk : a.heap.size ≤ k) : Mut R a (w.setCell ⟨k, o, none⟩ u) :=
  ⟨h.os, h.tape, h.output, by simpa [World.setCell] using h.size, fun i hi hr => by rw [Below.heap_setCell _ _ _ _ (show i ≠ k by omega)]; exact h.block i hi hr⟩

section
variable {W : World} {a : Option Addr} {len cap R : Nat} {Z : Nat → Int}

set_option maxHeartbeats 1000000 in
theorem text_any (hU : IsU8 W a len cap Z) (w : World) (h : Draw W a len cap R w) :
    Calls Try.prog 39 #[.pointer (some ⟨R, 0, none⟩)] w fun e w' => ∃ t : ByteArray, t.size ≤ 3 ∧ e = .returned (.string t) ∧ Draw W a len cap R w' ∧ Mut R w w' := by
  go_enter Try.func39, Try.ntmps39
  have HM0 : Hid (∀ o, Mut R w (w.alloc o)) := fun o => (Mut.refl R w).alloc o
  have HR : Hid (R < w.heap.size) := h.lt
  go_wp2_with fail
  refine (below_any hU 6 (by omega) (by omega) _ (h.alloc _)).mono ?_
  rintro e w3 ⟨y, hy0, hy1, rfl, hD3, hM3⟩
  have hc := lit_cells hM3 HR.out
  have c0 := hc 0
  have c1 := hc 1
  have c2 := hc 2
  have c3 := hc 3
  have c4 := hc 4
  have c5 := hc 5
  clear hc
  have hM4 : Hid (Mut R w w3) := (HM0.out _).trans hM3
  clear hM3 HM0
  have hy : y = 0 ∨ y = 1 ∨ y = 2 ∨ y = 3 ∨ y = 4 ∨ y = 5 := by omega
  rcases hy with rfl | rfl | rfl | rfl | rfl | rfl <;> (go_wp2; go_ret; exact ⟨_, by decide, rfl, hD3, hM4.out⟩)

theorem putB_ne (L : List Ev) (x : Ev) : putB L x ≠ [] := by
  cases L with
  | nil => simp [putB]
  | cons y l => unfold putB; split <;> (try split) <;> simp
theorem set_up {L : List Ev} {x y : Ev} {l : List Ev} (h : UpB (x :: l)) (hy : y.a = x.a) : UpB (y :: l) := by
  obtain ⟨h1, h2⟩ := List.pairwise_cons.1 h
  exact List.pairwise_cons.2 ⟨fun z hz => by rw [hy]; exact h1 z hz, h2⟩

set_option maxHeartbeats 2000000 in
theorem beats_any (most : Int) (hm : 1 ≤ most) (hm2 : most ≤ 200) (hU : IsU8 W a len cap Z) (w : World) (h : Draw W a len cap R w) :
    Calls Try.prog 36 #[.pointer (some ⟨R, 0, none⟩), .int .i64 most] w fun e w' => ∃ g gc L, e = .returned (.slice (some ⟨g, 0, none⟩) L.length gc) ∧ (UpB L ∧ ∀ x ∈ L, 1 ≤ x.a ∧ x.a ≤ 5 ∧ x.in) ∧ OwnE w' w.heap.size g gc L ∧ Draw W a len cap R w' ∧ Mut R w w' := by
  have HR : Hid (R < w.heap.size) := h.lt
  have HD0 : Hid (Draw W a len cap R (w.alloc (.cells #[] 32))) := h.alloc _
  have HM0 : Hid (Mut R w (w.alloc (.cells #[] 32))) := (Mut.refl R w).alloc _
  have HO0 : Hid (OwnE (w.alloc (.cells #[] 32)) w.heap.size w.heap.size 0 []) := World.ownsRow_made w #[] 0 (Nat.le_refl _) (by decide) rfl
  have hw : IntKind.i64.wrap (most + 1) = most + 1 := by rw [IntKind.wrap_i64]; omega
  clear h
  go_enter Try.func36, Try.ntmps36
  go_wp2_with fail
  refine (below_any hU (most + 1) (by omega) (by omega) _ HD0.out).mono ?_
  rintro e w1 ⟨x, hx0, hx1, rfl, hD1, hM1⟩
  have HO1 : Hid (OwnE w1 w.heap.size w.heap.size 0 []) := HO0.out.mut hM1 (by have := HR.out; omega)
  have HM1 : Hid (Mut R w w1) := HM0.out.trans hM1
  clear hM1 HD0 HM0 HO0
  go_wp2
  go_loopw [5, 6] (fun v i wr => ∃ (k g gc : Nat) (L : List Ev), k ≤ 256 ∧ i = .int .i64 k ∧ v = .slice (some ⟨g, 0, none⟩) L.length gc ∧ Hid (beatsL L = true ∧ ∀ x ∈ L, 1 ≤ x.a ∧ x.a ≤ 5 ∧ x.in) ∧ Hid (OwnE wr w.heap.size g gc L) ∧ Draw W a len cap R wr ∧ Hid (Mut R w wr)) (fun _ i _ => (intOf i).toNat)
  case atStart => exact ⟨x.toNat, w.heap.size, 0, [], by omega, by rw [Int.toNat_of_nonneg hx0], rfl, ⟨rfl, fun x hx => by cases hx⟩, HO1, hD1, HM1⟩
  case round =>
    obtain ⟨k, g, gc, L, hk, rfl, rfl, HL, HO, hD, HM⟩ := hrel
    by_cases h0 : k = 0
    · subst h0
      have hgR : g ≠ R := by have := HO.out.lies.2.2; have := HR.out; omega
      have HP : Hid (UpB L ∧ ∀ x ∈ L, 1 ≤ x.a ∧ x.a ≤ 5 ∧ x.in) := ⟨beatsL_up HL.out.1, HL.out.2⟩
      clear hD1 HO1 HM1
      go_wp2_with fail
      refine (once_any hU 30 (by omega) (by omega) _ hD).mono ?_
      rintro e w2 ⟨b, rfl, hD2, hM2⟩
      have HO2 : Hid (OwnE w2 w.heap.size g gc L) := HO.out.mut hM2 hgR
      have HM2 : Hid (Mut R w w2) := HM.out.trans hM2
      clear hM2 hD HM HO HL
      cases b with
      | false =>
        go_wp2
        go_ret
        exact ⟨g, gc, L, rfl, HP.out, HO2.out, hD2, HM2.out⟩
      | true =>
        obtain ⟨n, hn⟩ : ∃ n, n = L.length := ⟨_, rfl⟩
        have HN : Hid (n = L.length) := hn
        have HOL : Hid (OwnE w2 w.heap.size g gc L) := HO2
        rw [← hn]
        by_cases hL0 : n = 0
        · have hLd : decide ((0 : Int) < (n : Int)) = false := decide_eq_false (by omega)
          have hLn : ¬ (0 < n) := by omega
          have hLe : decide (0 < n) = false := decide_eq_false (by omega)
          clear hL0 hn
          go_wp2
          go_ret
          exact ⟨g, gc, L, by rw [← HN.out]; rfl, HP.out, HO2.out, hD2, HM2.out⟩
        · obtain ⟨y, l, hyl⟩ : ∃ y l, L = y :: l := by cases L with | nil => exact absurd hn hL0 | cons y l => exact ⟨y, l, rfl⟩
          have HYL : Hid (L = y :: l) := hyl
          have hn0 : (0 : Int) < (n : Int) := by omega
          have hn1 : 0 < n := by omega
          have hcap : n ≤ gc ∧ gc ≤ 9223372036854775807 := by rw [hn]; exact HO2.out.caps
          obtain ⟨hc1, hc2⟩ := hcap
          clear hyl hL0 hn
          go_wp2_with fail
          refine (off19_any hU _ hD2).mono ?_
          rintro e w3 ⟨z, hz0, hz1, rfl, hD3, hM3⟩
          have HO3 : Hid (w3.ownsRow w.heap.size 32 4 (.slice (some ⟨g, 0, none⟩) n gc) n (cellsL L)) := own_form2 (HO2.out.mut hM3 hgR) HN.out.symm
          have HM3 : Hid (Mut R w w3) := HM2.out.trans hM3
          have f1 := HO3.out.frozenAt 1
          obtain ⟨v1, e1⟩ := own_some HO3.out 1 (by omega)
          have st := World.ownsRow.stored HO3.out 1 (.int .i64 z)
          have HF : Hid (OwnE (w3.setCell ⟨g, 1, none⟩ (.int .i64 z)) w.heap.size g gc (⟨y.a, z, y.c, y.d⟩ :: l)) := by
            have h1 := st.1
            have e : (cellsL L).set 1 (.int .i64 z) = cellsL (⟨y.a, z, y.c, y.d⟩ :: l) := by rw [HYL.out, cellsL_cons, cellsL_cons]; rfl
            rw [e] at h1
            unfold OwnE
            have hl : ((⟨y.a, z, y.c, y.d⟩ : Ev) :: l).length = n := by rw [HN.out, HYL.out]; rfl
            rw [hl]
            exact h1
          have HF2 : Hid (Draw W a len cap R (w3.setCell ⟨g, 1, none⟩ (.int .i64 z)) ∧ Mut R w (w3.setCell ⟨g, 1, none⟩ (.int .i64 z))) := by
            have hg1 := HO2.out.lies.2.2
            have hgW : W.heap.size ≤ g := Nat.le_trans (Nat.le_of_lt (Nat.lt_of_le_of_lt hD3.new HR.out)) hg1
            obtain ⟨p, hp, hbx⟩ := hD3.box
            refine ⟨⟨hD3.bel.setCell (p := ⟨g, 1, none⟩) hgW _, hD3.new, p, hp, ?_⟩, ?_⟩
            · rw [Below.heap_setCell _ _ _ _ (show R ≠ g from fun e => hgR e.symm)]; exact hbx
            · exact HM3.out.trans2 trivial hg1
          have HQ : Hid (UpB (⟨y.a, z, y.c, y.d⟩ :: l) ∧ ∀ x ∈ (⟨y.a, z, y.c, y.d⟩ :: l : List Ev), 1 ≤ x.a ∧ x.a ≤ 5 ∧ x.in) := by
            have hp := HP.out
            rw [HYL.out] at hp
            refine ⟨set_up (L := L) hp.1 rfl, fun x hx => ?_⟩
            rcases List.mem_cons.1 hx with rfl | hx
            · exact hp.2 y (List.mem_cons_self ..)
            · exact hp.2 x (List.mem_cons_of_mem _ hx)
          clear st hM3 hD3
          go_wp2
          go_ret
          exact ⟨g, gc, ⟨y.a, z, y.c, y.d⟩ :: l, by rw [show ((⟨y.a, z, y.c, y.d⟩ : Ev) :: l).length = n by rw [HN.out, HYL.out]; rfl]; rfl, HQ.out, HF.out, HF2.out.1, HF2.out.2⟩
    · have hkI : (0 : Int) < (k : Int) := by omega
      have hgR : g ≠ R := by have := HO.out.lies.2.2; have := HR.out; omega
      have HLn : Hid (∀ i, i < L.length → (L.getD i evZ).in) := fun i hi => (HL.out.2 _ (by rw [getD_get hi]; exact List.getElem_mem _)).2.2
      clear hD1 HO1 HM1
      go_wp2_with fail
      refine (below_any hU 5 (by omega) (by omega) _ hD).mono ?_
      rintro e w2 ⟨x1, hx10, hx11, rfl, hD2, hM2⟩
      have HM2 : Hid (Mut R wr w2) := hM2
      clear hM2 hD
      go_wp2_with fail
      refine (below_any hU 100 (by omega) (by omega) _ hD2).mono ?_
      rintro e w3 ⟨x2, hx20, hx21, rfl, hD3, hM3⟩
      have HM3 : Hid (Mut R wr w3) := HM2.out.trans hM3
      clear hM3 hD2 HM2
      go_wp2_with fail
      refine (text_any hU _ hD3).mono ?_
      rintro e w4 ⟨t, ht, rfl, hD4, hM4⟩
      have HM4 : Hid (Mut R wr w4) := HM3.out.trans hM4
      have HO4 : Hid (OwnE w4 w.heap.size g gc L) := HO.out.mut HM4.out hgR
      have HT : Hid (t.size ≤ 9223372036854775807) := by show _ ≤ _; omega
      clear hM4 hD3 HM3
      go_wp2_with fail
      refine (specBeaten_any g 0 gc L (1 + x1) x2 t w4 HO4.out.lies.1 HO4.out.lies.2.1 HO4.out.caps.1 HO4.out.caps.2 HLn.out HT.out).mono ?_
      rintro e w5 ⟨v, rfl, hO5, hB5⟩
      have hD5 := hD4.below hB5
      have HM5 : Hid (Mut R w w5) := (HM.out.trans HM4.out).trans (Mut.of_below hB5)
      have hs : w.heap.size ≤ w4.heap.size := (HM.out.trans HM4.out).size
      cases hbn : bnB L (1 + x1) x2 t with
      | false =>
        have HO5 : Hid (OwnE w5 w.heap.size g gc L) := HO4.out.below hB5
        clear hO5 hB5 hD4 HO4 HM4 HO HM
        go_wp2
        go_roundw
        case rel => exact ⟨k - 1, g, gc, L, by omega, by rw [Int.natCast_sub (by omega)]; rfl, rfl, HL, HO5, hD5, HM5⟩
        case measure => simp [intOf]; omega
      | true =>
        have hbr : bnR L (1 + x1) x2 t = putB L (nextE L (1 + x1) x2 t) := by unfold bnR; rw [hbn]; rfl
        rw [hbr] at hO5
        have HQ : Hid (beatsL (putB L (nextE L (1 + x1) x2 t)) = true ∧ ∀ x ∈ putB L (nextE L (1 + x1) x2 t), 1 ≤ x.a ∧ x.a ≤ 5 ∧ x.in) := by
          refine ⟨?_, fun x hx => ?_⟩
          · unfold bnB at hbn
            simp only [Bool.and_eq_true] at hbn
            exact hbn.2
          · rcases putB_mem _ _ _ hx with rfl | hx
            · exact ⟨by show 1 ≤ 1 + x1; omega, by show 1 + x1 ≤ 5; omega, HT.out⟩
            · exact HL.out.2 x hx
        generalize putB L (nextE L (1 + x1) x2 t) = M at hO5 HQ hbr
        obtain ⟨g5, gc5, rfl, hO5'⟩ : ∃ g5 gc5, v = .slice (some ⟨g5, 0, none⟩) M.length gc5 ∧ OwnE w5 w4.heap.size g5 gc5 M := by
          rcases hO5.cases with ⟨rfl, hM0⟩ | h
          · exact absurd hM0 (fun e => by rw [e] at hbr; unfold bnR at hbr; rw [if_pos hbn] at hbr; exact putB_ne _ _ hbr)
          · exact h
        have HO5 : Hid (OwnE w5 w.heap.size g5 gc5 M) := hO5'.base hs
        clear hO5 hO5' hB5 hD4 HO4 HM4 HO HM hbr
        go_wp2
        go_roundw
        case rel => exact ⟨k - 1, g5, gc5, M, by omega, by rw [Int.natCast_sub (by omega)]; rfl, rfl, HQ, HO5, hD5, HM5⟩
        case measure => simp [intOf]; omega
end
end Go.Proofs.Ytnjlegphohmajaa
