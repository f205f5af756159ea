/-
  Who clashes, as the program finds it. No condition but that the slices read.
-/
import Derived.Test.YtcaacchhmhdbpaaDoorClP
namespace Go.Proofs.YtcaacchhmhdbpaaDoor
open Go.RowKit Go.Maps
set_option linter.unusedVariables false

/-- slices, as elements of a map -/
def SR : Value → Option (DataW Value × List MemPlace)
  | .slice a n c => some (.held (.slice a n c), [])
  | _ => none
theorem SR_inv {v : Value} {d : DataW Value} {ps : List MemPlace} (h : SR v = some (d, ps)) : d = .held v ∧ ∃ a n c, v = .slice a n c := by
  unfold SR at h
  split at h
  · simp only [Option.some.injEq, Prod.mk.injEq] at h
    exact ⟨h.1.symm, _, _, _, rfl⟩
  · cases h
theorem zeroS (w : World) : (zeroValue 35).run Tryd.prog w = .ok (.slice none 0 0) w := by kernel_rfl

/-- the first k are kept, each under its key, by the first one like it -/
structure Kp (C : Nat → Cm) (m k : Nat) (E : DataW Value) : Prop where
  at_ : ∀ i, i < k → ∀ f, IsFirst C f i → ∀ z, E.atKey (kT (C i).a (C i).c) z = .held (.slice (C f).u (C f).n (C f).cap)
  yes : ∀ i, i < k → has E (kT (C i).a (C i).c) = true
  no : ∀ j, j < m → (∀ i, i < k → ¬ Twin C i j) → has E (kT (C j).a (C j).c) = false
def Wf (C : Nat → Cm) (m : Nat) : Prop := ∀ j, j < m → (Lit.int .i64 (C j).a).wf = true ∧ (Lit.int .i64 (C j).c).wf = true
theorem kT_ne {C : Nat → Cm} {m i j : Nat} (hw : Wf C m) (hi : i < m) (hj : j < m) (h : ¬ Twin C i j) : kT (C i).a (C i).c ≠ kT (C j).a (C j).c := fun e => h (kT_inj (hw i hi).1 (hw i hi).2 (hw j hj).1 (hw j hj).2 e)

theorem Kp.new {C : Nat → Cm} {m k : Nat} {E : DataW Value} (h : Kp C m k E) (hE : IsMap E) (hw : Wf C m) (hk : k < m) (hn : ∀ i, i < k → ¬ Twin C i k) : Kp C m (k + 1) (E.put (kT (C k).a (C k).c) (.held (.slice (C k).u (C k).n (C k).cap))) := by
  refine ⟨fun i hi f hf z => ?_, fun i hi => ?_, fun j hj hno => ?_⟩
  · rcases Nat.lt_succ_iff_lt_or_eq.1 hi with h1 | rfl
    · rw [atKey_put_other (kT_ne hw (by omega) hk (hn i h1))]
      exact h.at_ i h1 f hf z
    · have hfk : f = i := by
        rcases Nat.lt_or_ge f i with hl | hl
        · exact absurd hf.2.1 (hn f hl)
        · have := hf.1; omega
      subst hfk
      exact atKey_put_same hE (kT_is _ _) _ _
  · rcases Nat.lt_succ_iff_lt_or_eq.1 hi with h1 | rfl
    · rw [has_put_other (kT_ne hw (by omega) hk (hn i h1))]
      exact h.yes i h1
    · exact has_put_same hE (kT_is _ _) _
  · rw [has_put_other (fun e => kT_ne hw hk hj (hno k (Nat.lt_succ_self _)) e.symm)]
    exact h.no j hj (fun i hi => hno i (by omega))
theorem Kp.old {C : Nat → Cm} {m k : Nat} {E : DataW Value} (h : Kp C m k E) {i0 : Nat} (h0 : i0 < k) (ht : Twin C i0 k) : Kp C m (k + 1) E := by
  have hkey : kT (C k).a (C k).c = kT (C i0).a (C i0).c := by rw [ht.1, ht.2]
  refine ⟨fun i hi f hf z => ?_, fun i hi => ?_, fun j hj hno => h.no j hj (fun i hi => hno i (by omega))⟩
  · rcases Nat.lt_succ_iff_lt_or_eq.1 hi with h1 | rfl
    · exact h.at_ i h1 f hf z
    · rw [hkey]
      refine h.at_ i0 h0 f ⟨?_, hf.2.1.trans ht.symm, fun j hj hjt => hf.2.2 j hj (hjt.trans ht)⟩ z
      rcases Nat.lt_or_ge i0 f with hl | hl
      · exact absurd ht (hf.2.2 i0 hl)
      · exact hl
  · rcases Nat.lt_succ_iff_lt_or_eq.1 hi with h1 | rfl
    · exact h.yes i h1
    · rw [hkey]; exact h.yes i0 h0

theorem clash_succ (C : Nat → Cm) (k : Nat) (x : Int) : Clash C (k + 1) x ↔ Clash C k x ∨ ((C k).a = x ∧ ∃ f, IsFirst C f k ∧ sameB (C f).S (C f).n (C k).S (C k).n = false) := by
  constructor
  · rintro ⟨i, hi, h⟩
    rcases Nat.lt_succ_iff_lt_or_eq.1 hi with h1 | rfl
    · exact .inl ⟨i, h1, h⟩
    · exact .inr h
  · rintro (⟨i, hi, h⟩ | h)
    · exact ⟨i, by omega, h⟩
    · exact ⟨k, by omega, h⟩
theorem clash_same {C : Nat → Cm} {k f : Nat} (hf : IsFirst C f k) (hs : sameB (C f).S (C f).n (C k).S (C k).n = true) (x : Int) : Clash C (k + 1) x ↔ Clash C k x := by
  rw [clash_succ]
  refine ⟨fun h => ?_, .inl⟩
  rcases h with h | ⟨_, f', hf', hs'⟩
  · exact h
  · rw [first_unique hf' hf, hs] at hs'
    cases hs'

theorem map_kept {w w' : World} {B n : Nat} {E : DataW Value} (h : w.ownsMap Tryd.prog 50 SR B n E) (he : w'.heap[B]? = w.heap[B]?) : w'.ownsMap Tryd.prog 50 SR B n E := by
  obtain ⟨es, clock, hb, F, hs, hD⟩ := h
  exact ⟨es, clock, he.trans hb, F, hs, hD⟩

theorem wf_of {z : Int} (h0 : 1 ≤ z) (h1 : z ≤ 1000000) : (Lit.int .i64 z).wf = true := by
  have h2 : IntKind.i64.min = -9223372036854775808 := rfl
  have h3 : IntKind.i64.max = 9223372036854775807 := rfl
  simp [Lit.wf]
  omega
theorem cms_in {C : Nat → Cm} {m : Nat} (h : cmsB C m = true) : m ≤ 30 ∧ ∀ i, i < m → (1 ≤ (C i).a ∧ (C i).a ≤ 9) ∧ 1 ≤ (C i).c ∧ (C i).c ≤ 1000000 := by
  unfold cmsB allB at h
  simp only [Bool.and_eq_true, decide_eq_true_eq, List.all_eq_true, List.mem_range] at h
  refine ⟨h.1, fun i hi => ?_⟩
  have := h.2 i hi
  unfold Cm.ok inB at this
  simp only [Bool.and_eq_true, decide_eq_true_eq] at this
  exact ⟨this.1, this.2.1⟩

set_option maxHeartbeats 8000000 in
theorem implClashes_any (a : Option Addr) (m cap : Nat) (C : Nat → Cm) (w : World) (h : IsCms w a m cap C) (hf : CFine C m) :
    Calls Tryd.prog 11 #[.slice a m cap] w fun e w' => ∃ v, e = .returned v ∧ OwnI w' w.heap.size v (clR C m) ∧ Below w.heap.size w w' := by
  have HC : Hid (IsCms w a m cap C) := h
  have HT : Hid (Calls Tryd.prog 8 #[.slice a m cap] w fun e w' => e = .returned (.bool (cmsB C m)) ∧ Below w.heap.size w w') := implCms_any a m cap C w h hf
  obtain ⟨hlc, hcm, hc⟩ := h
  clear hf
  cases hq : cmsB C m with
  | false =>
    have HR : Hid (clR C m = []) := by show _ = _; unfold clR; rw [if_neg (by rw [hq]; decide)]
    rw [hq] at HT
    go_enter Tryd.func11, Tryd.ntmps11
    go_wp2_with (go_at_call 8; refine HT.out.mono ?_; rintro e w1 ⟨rfl, hB1⟩)
    go_ret
    refine ⟨_, rfl, ?_, hB1⟩
    rw [HR.out]
    exact World.ownsRow_nil _ _ _ _
  | true =>
  have HR : Hid (clR C m = clL C m 9) := by show _ = _; unfold clR; rw [if_pos hq]
  have HIN : Hid (m ≤ 30 ∧ ∀ i, i < m → (1 ≤ (C i).a ∧ (C i).a ≤ 9) ∧ 1 ≤ (C i).c ∧ (C i).c ≤ 1000000) := cms_in hq
  have HWF : Hid (Wf C m) := fun j hj => by
    have := HIN.out.2 j hj
    exact ⟨wf_of this.1.1 (by omega), wf_of this.2.1 this.2.2⟩
  have hm30 := HIN.out.1
  have hmm := @run_makeMap Tryd.prog
  rw [hq] at HT
  clear hq
  go_enter Tryd.func11, Tryd.ntmps11
  go_wp2_with (go_at_call 8; refine HT.out.mono ?_; rintro e w1 ⟨rfl, hB1⟩; have HB1 : Hid (Below w.heap.size w w1) := hB1; clear hB1)
  clear HT
  go_loopw [17] (fun i wr => ∃ (k : Nat) (E1 E2 : DataW Value), k ≤ m ∧ i = .int .i64 k ∧ wr.ownsMap Tryd.prog 50 SR w1.heap.size k E1 ∧ SetI wr (w1.heap.size + 1) k E2 ∧ Hid (Kp C m k E1 ∧ ∀ x, has E2 (.int .i64 x) = true ↔ Clash C k x) ∧ Below w.heap.size w wr)
    (fun i _ => m - (intOf i).toNat)
  case atStart =>
    refine ⟨0, .map [], .map [], Nat.zero_le _, rfl, ?_, ?_, ⟨⟨fun i hi => absurd hi (Nat.not_lt_zero _), fun i hi => absurd hi (Nat.not_lt_zero _), fun j _ _ => by simp [has_eq]⟩, fun x => by simp [has_eq, Clash]⟩, (HB1.out.alloc HB1.out.size _).alloc (by have := HB1.out.size; simp; omega) _⟩
    · exact map_kept (World.ownsMap_made _ _ _ _) (Below.heap_alloc _ _ _ (by simp))
    · have := World.ownsMap_made (w1.alloc (.map #[] 0)) Tryd.prog 2 (unitElem (H := Value))
      rw [show (w1.alloc (.map #[] 0)).heap.size = w1.heap.size + 1 by simp] at this
      exact this
  case round =>
    obtain ⟨k, E1, E2, hk, rfl, ho1, ho2, HK, hB⟩ := hrel
    have HO1 : Hid (wr.ownsMap Tryd.prog 50 SR w1.heap.size k E1) := ho1
    have HO2 : Hid (SetI wr (w1.heap.size + 1) k E2) := ho2
    have HB : Hid (Below w.heap.size w wr) := hB
    clear ho1 ho2 hB
    by_cases hlt : k < m
    · have hltI : (k : Int) < (m : Int) := by omega
      obtain ⟨b, off, ea, hbs, _⟩ := hc (by omega)
      subst ea
      obtain ⟨c0, c1, c2, ci⟩ := cms_at (HC.out.below HB.out) rfl k hlt
      clear ci
      obtain ⟨wb, hwb⟩ : ∃ wb, wb = (wr.alloc (.cells #[.int .i64 (C k).a, .int .i64 (C k).c, .slice (C k).u (C k).n (C k).cap] 39)).alloc (.cells #[.int .i64 (C k).a, .int .i64 (C k).c] 50) := ⟨_, rfl⟩
      have hBb : Below wr.heap.size wr wb := by rw [hwb]; exact ((Below.refl _ _).alloc (Nat.le_refl _) _).alloc (by simp) _
      have hgc : wb.heap[wr.heap.size]? = some (.cells #[.int .i64 (C k).a, .int .i64 (C k).c, .slice (C k).u (C k).n (C k).cap] 39) := by
        rw [hwb, Below.heap_alloc _ _ _ (by simp)]
        exact heap_alloc_new wr _
      have HBb : Hid (Below w.heap.size w wb) := HB.out.trans (hBb.mono HB.out.size)
      have hlt1 : w1.heap.size < wr.heap.size := HO1.out.lt
      have hlt2 : w1.heap.size + 1 < wr.heap.size := World.ownsMap.lt HO2.out
      have HO1b : Hid (wb.ownsMap Tryd.prog 50 SR w1.heap.size k E1) := map_kept HO1.out (hBb.block _ hlt1)
      have HO2b : Hid (SetI wb (w1.heap.size + 1) k E2) := SetI.kept HO2.out (hBb.block _ hlt2)
      have hkey : keyOf Tryd.prog 50 (.agg #[.int .i64 (C k).a, .int .i64 (C k).c]) = some (kT (C k).a (C k).c) := keyT (HWF.out k hlt).1 (HWF.out k hlt).2
      obtain ⟨v, ps, hrun, hv⟩ := HO1b.out.look_ok (e := 35) lawT Tryd.underlying46 (zeroS wb) (zd := .held (.slice none 0 0)) (zp := []) rfl hkey
      have HWB : Hid (wb = (wr.alloc (.cells #[.int .i64 (C k).a, .int .i64 (C k).c, .slice (C k).u (C k).n (C k).cap] 39)).alloc (.cells #[.int .i64 (C k).a, .int .i64 (C k).c] 50)) := hwb
      have HGC : Hid (wb.heap[wr.heap.size]? = some (.cells #[.int .i64 (C k).a, .int .i64 (C k).c, .slice (C k).u (C k).n (C k).cap] 39)) := hgc
      have HU : Hid (∀ x, Below w.heap.size w x → ∀ t, t < m → IsStrs x (C t).u (C t).n (C t).cap (C t).S) := fun x hx t ht => (cms_at (HC.out.below hx) rfl t ht).i
      have HSZ : Hid (wr.heap.size < wb.heap.size) := lt_of_block hgc
      rw [hwb] at hrun
      clear hwb hBb hgc hlt1 hlt2
      cases hhas : has E1 (kT (C k).a (C k).c) with
      | false =>
        have hno : Hid (∀ i, i < k → ¬ Twin C i k) := fun i hi ht => by
          have := HK.out.1.yes i hi
          rw [ht.1, ht.2, hhas] at this
          cases this
        have HKp : Hid (Kp C m (k + 1) (E1.put (kT (C k).a (C k).c) (.held (.slice (C k).u (C k).n (C k).cap)))) := HK.out.1.new (World.ownsMap.isMap HO1.out) HWF.out hlt hno.out
        have HAu : Hid (∀ x, has E2 (.int .i64 x) = true ↔ Clash C (k + 1) x) := fun x => by
          rw [clash_same (C := C) (k := k) (f := k) ⟨Nat.le_refl _, ⟨rfl, rfl⟩, hno.out⟩ (sameB_refl _ _)]
          exact HK.out.2 x
        rw [hhas] at hrun
        clear hv hhas hno HK
        go_wp2_with (first
          | (at_mapUpdate; rw [← HWB.out]; refine wpList_mapUpdate_own _ rfl _ _ _ 46 rfl 50 35 lawT Tryd.underlying46 SR w1.heap.size k E1 rfl HO1b.out (by unfold maxLen; omega) _ _ _ rfl rfl hkey (.held (.slice (C k).u (C k).n (C k).cap)) [] rfl ?_; intro w3 hown3 hgrow3))
        go_roundw
        case rel =>
          refine ⟨k + 1, _, E2, by omega, by go_num, hown3, ?_, ⟨HKp.out, HAu.out⟩, HBb.out.grown hgrow3 HBb.out.size (fun j hj => by cases hj; exact HB1.out.size)⟩
          have h1 := SetI.kept HO2b.out (hgrow3.block _ (World.ownsMap.lt HO2b.out) (by simp))
          exact World.ownsMap.mono h1 (by omega)
        case measure => simp [intOf]; omega
      | true =>
        obtain ⟨f, hf⟩ := first_ex C k
        obtain ⟨i0, hi0, ht0⟩ : ∃ i0, i0 < k ∧ Twin C i0 k := by
          by_cases hex : ∃ i0, i0 < k ∧ Twin C i0 k
          · exact hex
          · have := HK.out.1.no k hlt (fun i hi ht => hex ⟨i, hi, ht⟩)
            rw [hhas] at this
            cases this
        have hKp : Kp C m (k + 1) E1 := HK.out.1.old hi0 ht0
        have hve : v = .slice (C f).u (C f).n (C f).cap := by
          obtain ⟨h1, _⟩ := SR_inv hv
          rw [hKp.at_ k (Nat.lt_succ_self _) f hf] at h1
          simp only [DataW.held.injEq] at h1
          exact h1.symm
        subst hve
        have hfm : f < m := by have := hf.1; omega
        have HKp : Hid (Kp C m (k + 1) E1) := hKp
        have HF : Hid (IsFirst C f k) := hf
        have HEq : Hid (Calls Tryd.prog 25 #[.slice (C f).u (C f).n (C f).cap, .slice (C k).u (C k).n (C k).cap] wb fun e w' => e = .returned (.bool (sameB (C f).S (C f).n (C k).S (C k).n)) ∧ Below wb.heap.size wb w') := equal_any _ _ _ _ _ _ (C f).S (C k).S wb (HU.out wb HBb.out f hfm) (HU.out wb HBb.out k hlt)
        rw [hhas] at hrun
        clear hv hhas hKp hf hi0 ht0
        cases hs : sameB (C f).S (C f).n (C k).S (C k).n with
        | true =>
          have HAu : Hid (∀ x, has E2 (.int .i64 x) = true ↔ Clash C (k + 1) x) := fun x => by
            rw [clash_same HF.out hs]
            exact HK.out.2 x
          rw [hs] at HEq
          clear hs HK
          go_wp2_with (go_at_call 25; rw [← HWB.out]; refine HEq.out.mono ?_; rintro e w3 ⟨rfl, hB3⟩)
          go_roundw
          case rel => exact ⟨k + 1, E1, E2, by omega, by go_num, World.ownsMap.mono (map_kept HO1b.out (hB3.block _ HO1b.out.lt)) (by omega), World.ownsMap.mono (SetI.below HO2b.out hB3) (by omega), ⟨HKp.out, HAu.out⟩, HBb.out.trans (hB3.mono HBb.out.size)⟩
          case measure => simp [intOf]; omega
        | false =>
          have HAu : Hid (∀ x, has (putI E2 (C k).a) (.int .i64 x) = true ↔ Clash C (k + 1) x) := fun x => by
            rw [putI_has (World.ownsMap.isMap HO2.out), clash_succ, HK.out.2 x]
            exact or_congr Iff.rfl ⟨fun e => ⟨e, f, HF.out, hs⟩, fun e => e.1⟩
          rw [hs] at HEq
          clear hs HK
          go_wp2_with (first
            | (go_at_call 25; rw [← HWB.out]; refine HEq.out.mono ?_; rintro e w3 ⟨rfl, hB3⟩; have d0 : w3.cell? ⟨wr.heap.size, 0, none⟩ = some (.int .i64 (C k).a) := cellN ((hB3.block _ HSZ.out).trans HGC.out))
            | (go_at_call 26; refine (putI_any (w1.heap.size + 1) k E2 (C k).a w3 (SetI.below HO2b.out hB3) (by omega) (HWF.out k hlt).1).mono ?_; rintro e w4 ⟨rfl, hs4, hg4⟩))
          go_roundw
          case rel =>
            have hb3 := HBb.out.trans (hB3.mono HBb.out.size)
            have ho3 := map_kept HO1b.out (hB3.block _ HO1b.out.lt)
            refine ⟨k + 1, E1, _, by omega, by go_num, World.ownsMap.mono (map_kept ho3 (hg4.block _ ho3.lt (by simp))) (by omega), hs4, ⟨HKp.out, HAu.out⟩, hb3.grown hg4 hb3.size (fun j hj => by cases hj; have := HB1.out.size; omega)⟩
          case measure => simp [intOf]; omega
    · have hke : k = m := by omega
      subst hke
      go_wp2_with (go_at_call 27; refine (risingI_any (w1.heap.size + 1) k E2 _ HO2.out (by omega)).mono ?_; rintro e w4 ⟨v, L, rfl, hU, hM, hO4, hB4⟩)
      go_ret
      refine ⟨v, rfl, ?_, HB.out.trans (hB4.mono HB.out.size)⟩
      have e1 : L = clR C k := by
        rw [HR.out]
        refine upI_unique hU (clL_up C k 9) (fun x => ?_)
        rw [hM x, HK.out.2 x, clL_mem, ← clash_hit]
        constructor
        · intro hcl
          have hcl2 := hcl
          obtain ⟨i, hi, hx, _⟩ := hcl2
          have := (HIN.out.2 i hi).1
          rw [hx] at this
          exact ⟨this.1, by omega, hcl⟩
        · exact fun h => h.2.2
      rw [← e1]
      exact mono_base hO4 HB.out.size
end Go.Proofs.YtcaacchhmhdbpaaDoor
