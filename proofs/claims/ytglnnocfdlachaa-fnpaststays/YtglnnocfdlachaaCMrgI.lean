/-
  The program's merging of two chains. No condition but that the slices read.
-/
import Derived.Test.YtglnnocfdlachaaCCmp
namespace Go.Proofs.Ytglnnocfdlachaa
open Go.RowKit Go.Sort Go.Shelf
set_option linter.unusedVariables false

/-- what a merging gives: the events of M in memory of its own, or nothing -/
def GaveV (w : World) (base : Nat) (ok : Bool) (M : List Ev) (v : Value) : Prop := (ok = false ∧ v = .slice none 0 0) ∨ (ok = true ∧ OwnV w base v M)
theorem Gave.v {w : World} {base : Nat} {ok : Bool} {M : List Ev} {v : Value} (h : Gave w base ok M v) : GaveV w base ok M v := by
  rcases h with h | ⟨h, g, gc, rfl, ho⟩
  · exact .inl h
  · exact .inr ⟨h, ho.v⟩
theorem implChainV (base : Nat) (v : Value) (L : List Ev) (w : World) (h : OwnV w base v L) (x : Bool) (hx : chainL L = x) :
    Calls Try.prog 18 #[v] w fun e w' => e = .returned (.bool x) ∧ Below w.heap.size w w' := by
  rcases h.cases with ⟨rfl, rfl⟩ | ⟨g, cap, rfl, hO⟩
  · rw [← hx]
    exact implChain_any _ _ _ _ w ⟨Nat.le_refl _, by omega, fun h => absurd h (Nat.lt_irrefl _)⟩
  · exact implChainL g 0 cap L w hO.lies.1 hO.lies.2.1 hO.caps.1 hO.caps.2 x hx
theorem enters_cmp : ∀ args w, (callFunc 37 args).run Try.prog w = .ok (.enter 37 args) w := enters_of Try.func37 (by kernel_rfl) rfl

set_option maxRecDepth 10000 in
set_option maxHeartbeats 4000000 in
theorem implMerged_any (b1 o1 c1 b2 o2 c2 : Nat) (A B : List Ev) (w : World) (h1 : Lies w b1 o1 A) (hb1 : b1 < w.heap.size) (hl1 : A.length ≤ c1) (hc1 : c1 ≤ 9223372036854775807) (h2 : Lies w b2 o2 B) (hb2 : b2 < w.heap.size) (hl2 : B.length ≤ c2) (hc2 : c2 ≤ 9223372036854775807) :
    Calls Try.prog 26 #[.slice (some ⟨b1, o1, none⟩) A.length c1, .slice (some ⟨b2, o2, none⟩) B.length c2] w fun e w' => ∃ v, e = .returned (.tuple #[v, .bool (mergedB A B)]) ∧ GaveV w' w.heap.size (mergedB A B) (mergeE A B) v ∧ Below w.heap.size w w' := by
  have HL1 : Hid (Lies w b1 o1 A) := h1
  have HL2 : Hid (Lies w b2 o2 B) := h2
  have HC1 : Hid (∀ w', Below w.heap.size w w' → ∀ x, chainL A = x → Calls Try.prog 18 #[.slice (some ⟨b1, o1, none⟩) A.length c1] w' fun e w'' => e = .returned (.bool x) ∧ Below w'.heap.size w' w'') := fun w' hB x hx => implChainL _ _ _ A w' (h1.grow hb1 hB) (by have := hB.size; omega) hl1 hc1 x hx
  have HC2 : Hid (∀ w', Below w.heap.size w w' → ∀ x, chainL B = x → Calls Try.prog 18 #[.slice (some ⟨b2, o2, none⟩) B.length c2] w' fun e w'' => e = .returned (.bool x) ∧ Below w'.heap.size w' w'') := fun w' hB x hx => implChainL _ _ _ B w' (h2.grow hb2 hB) (by have := hB.size; omega) hl2 hc2 x hx
  clear h1 h2
  cases hA : chainL A with
  | false =>
    have hr : Hid (mergedB A B = false) := by show _ = _; unfold mergedB; rw [hA]; rfl
    go_enter Try.func26, Try.ntmps26
    go_wp2_with fail
    refine (HC1.out _ (Below.refl _ _) false hA).mono ?_
    rintro e w1 ⟨rfl, hB1⟩
    go_wp2
    go_ret2
    rw [hr.out]
    exact ⟨_, rfl, .inl ⟨rfl, rfl⟩, hB1⟩
  | true =>
    have hn30 : A.length ≤ 1000 := Nat.le_trans (chainL_len hA) (by decide)
    cases hB : chainL B with
    | false =>
      have hr : Hid (mergedB A B = false) := by show _ = _; unfold mergedB; rw [hA, hB]; rfl
      go_enter Try.func26, Try.ntmps26
      go_wp2_with fail
      refine (HC1.out _ (Below.refl _ _) true hA).mono ?_
      rintro e w1 ⟨rfl, hB1⟩
      go_wp2_with fail
      refine (HC2.out _ hB1 false hB).mono ?_
      rintro e w2 ⟨rfl, hB2⟩
      go_wp2
      go_ret2
      rw [hr.out]
      exact ⟨_, rfl, .inl ⟨rfl, rfl⟩, hB1.trans (hB2.mono hB1.size)⟩
    | true =>
      have hm30 : B.length ≤ 1000 := Nat.le_trans (chainL_len hB) (by decide)
      have hr : Hid (mergedB A B = chainL (mergeE A B)) := by show _ = _; unfold mergedB; rw [hA, hB]; rfl
      go_enter Try.func26, Try.ntmps26
      go_wp2_with fail
      refine (HC1.out _ (Below.refl _ _) true hA).mono ?_
      rintro e w1 ⟨rfl, hB1⟩
      go_wp2_with fail
      refine (HC2.out _ hB1 true hB).mono ?_
      rintro e w2 ⟨rfl, hB2'⟩
      have hB2 : Below w.heap.size w w2 := hB1.trans (hB2'.mono hB1.size)
      clear hB1 hB2'
      have HB2 : Hid (Below w.heap.size w w2) := hB2
      clear hB2
      go_wp2_with fail
      refine (concat_any w2.heap.size b1 o1 c1 b2 o2 c2 A B _ (cellN (heap_alloc_new _ _)) (cellN (heap_alloc_new _ _)) (HL1.out.grow hb1 (HB2.out.alloc HB2.out.size _)) (by have := HB2.out.size; simp; omega) (HL2.out.grow hb2 (HB2.out.alloc HB2.out.size _)) (by have := HB2.out.size; simp; omega) hn30 hm30).mono ?_
      rintro e w3 ⟨v3, rfl, hO3, hB3'⟩
      have hS3 : w.heap.size ≤ (w2.alloc (.cells #[.slice (some ⟨b1, o1, none⟩) A.length c1, .slice (some ⟨b2, o2, none⟩) B.length c2] 26)).heap.size := by have := HB2.out.size; simp; omega
      have hB3 : Below w.heap.size w w3 := (HB2.out.alloc HB2.out.size _).trans (hB3'.mono hS3)
      have hO3' : OwnV w3 w.heap.size v3 (A ++ B) := hO3.base hS3
      clear hO3 hB3' hS3
      go_wp2_with fail
      refine (sort_any 37 cmpE swoE cmpEv_lays enters_cmp w.heap.size v3 (A ++ B) w3 hO3' (by rw [List.length_append]; omega)).mono ?_
      rintro e w4 ⟨rfl, L, hp, hs, hO4, hG4⟩
      have hB4 : Below w.heap.size w w4 := hB3.grown hG4 hB3.size (fun x hx => (World.ownsRow.lt hO3' x hx).1)
      rw [lt_ahead] at hs
      have hM : cptL L = mergeE A B := sorted_merge (chainL_up hA) hp hs
      have hLl : L.length ≤ 1000000 := by rw [hp.length_eq, List.length_append]; omega
      clear hO3' hB3 hG4 hs hp
      have HM : Hid (cptL L = mergeE A B) := hM
      clear hM
      go_wp2_with fail
      refine (compact_any w.heap.size v3 L w4 hO4 hLl).mono ?_
      rintro e w5 ⟨v5, rfl, hO5, hG5⟩
      have hB5 : Below w.heap.size w w5 := hB4.grown hG5 hB4.size (fun x hx => (World.ownsRow.lt hO4 x hx).1)
      rw [HM.out] at hO5
      clear hO4 hB4 hG5
      have HO5 : Hid (OwnV w5 w.heap.size v5 (mergeE A B)) := hO5
      have HB5 : Hid (Below w.heap.size w w5) := hB5
      clear hO5 hB5
      cases hMc : chainL (mergeE A B) with
      | false =>
        go_wp2_with fail
        refine (implChainV w.heap.size v5 (mergeE A B) w5 HO5.out false hMc).mono ?_
        rintro e w6 ⟨rfl, hB6⟩
        go_wp2
        go_ret2
        rw [hr.out, hMc]
        exact ⟨_, rfl, .inl ⟨rfl, rfl⟩, HB5.out.trans (hB6.mono HB5.out.size)⟩
      | true =>
        go_wp2_with fail
        refine (implChainV w.heap.size v5 (mergeE A B) w5 HO5.out true hMc).mono ?_
        rintro e w6 ⟨rfl, hB6⟩
        go_wp2
        go_ret2
        rw [hr.out, hMc]
        exact ⟨_, rfl, .inr ⟨rfl, HO5.out.below hB6⟩, HB5.out.trans (hB6.mono HB5.out.size)⟩
end Go.Proofs.Ytglnnocfdlachaa
