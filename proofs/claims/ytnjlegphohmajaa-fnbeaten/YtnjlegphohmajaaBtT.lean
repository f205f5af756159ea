/-
  The board's own functions: take, takeAll. No condition but that the beats are right.
-/
import Derived.Test.YtnjlegphohmajaaBtB
namespace Go.Proofs.Ytnjlegphohmajaa
open Go.RowKit Go.Maps
set_option linter.unusedVariables false

theorem cmp_later (x y : Ev) {w : World} (t : Later w) : Calls Try.prog 59 #[.agg #[.int .i64 (x).a, .int .i64 (x).b, .int .i64 (x).c, .string (x).d], .agg #[.int .i64 (y).a, .int .i64 (y).b, .int .i64 (y).c, .string (y).d]] t.val fun e w'' => e = .returned (.int .i64 (cmpE x y)) ∧ ∃ s' : Later w, w'' = s'.val :=
  Calls.later (cmpEv_any x y t.val)

set_option maxRecDepth 10000 in
set_option maxHeartbeats 2000000 in
theorem take_any (B c : Nat) (E : DataW Value) (L : List Ev) (x : Ev) (w : World) (h : Bd w B c E L) (hc : c ≤ 1000000) (hx : (Lit.int .i64 x.a).wf = true) (hb : 1 ≤ x.b) :
    Calls Try.prog 42 #[.map (some B), .agg #[.int .i64 x.a, .int .i64 x.b, .int .i64 x.c, .string x.d]] w fun e w' => e = .returned (.tuple #[]) ∧ (∃ E', Bd w' B (c + 1) E' (putB L x)) ∧ w.grownBy w' (some B) := by
  have HH : Hid (Bd w B c E L) := h
  have HB0 : Hid (∀ o, Below w.heap.size w (w.alloc o)) := fun o => (Below.refl _ _).alloc (Nat.le_refl _) _
  clear h
  obtain ⟨W, hW⟩ : ∃ W, W = w.alloc (.cells #[.int .i64 x.a, .int .i64 x.b, .int .i64 x.c, .string x.d] 32) := ⟨_, rfl⟩
  have HBW : Hid (Below w.heap.size w W) := by rw [hW]; exact HB0.out _
  have g1 : W.heap[w.heap.size]? = some (.cells #[.int .i64 x.a, .int .i64 x.b, .int .i64 x.c, .string x.d] 32) := by rw [hW]; exact heap_alloc_new _ _
  have hBd : Bd W B c E L := HH.out.below HBW.out
  have HG : Hid (W.heap[w.heap.size]? = some (.cells #[.int .i64 x.a, .int .i64 x.b, .int .i64 x.c, .string x.d] 32)) := g1
  have HD : Hid (Bd W B c E L) := hBd
  obtain ⟨y, hy⟩ : ∃ y, y = (lookB L x.a).getD evZ := ⟨_, rfl⟩
  have hlk : (Instr.lookup 62 (.map (some B)) (.int .i64 x.a) false).run Try.prog W = .ok (.agg #[.int .i64 y.a, .int .i64 y.b, .int .i64 y.c, .string y.d]) W := by
    rw [hBd.look hx, ← hy]; rfl
  have HW : Hid (W = w.alloc (.cells #[.int .i64 x.a, .int .i64 x.b, .int .i64 x.c, .string x.d] 32)) := hW
  have HY : Hid (y = (lookB L x.a).getD evZ) := hy
  have hlt0 := cmpE_lt x y
  rw [hW] at hlk
  clear hy g1 hBd hW
  cases hq : later x y with
  | true =>
    have hcd : cmpE y x < 0 := by rw [hq] at hlt0; simpa using hlt0
    have HP : Hid (∀ z, lookB L x.a = some z → later x z = true) := fun z hz => by
      have := HY.out
      rw [hz] at this
      rw [← show y = z from this]; exact hq
    clear hlt0 hq
    go_enter Try.func42, Try.ntmps42
    go_wp2_with fail
    rw [← HW.out]
    refine (cmpEv_any y x W).mono ?_
    rintro e w2 ⟨rfl, hB2⟩
    have hd2 : Bd w2 B c E L := HD.out.below hB2
    have g2 := (hB2.block _ (lt_of_block HG.out)).trans HG.out
    have e0 : w2.cell? ⟨w.heap.size, 0, none⟩ = some (.int .i64 x.a) := cellN g2
    have e1 : w2.cell? ⟨w.heap.size, 1, none⟩ = some (.int .i64 x.b) := cellN g2
    have e2 : w2.cell? ⟨w.heap.size, 2, none⟩ = some (.int .i64 x.c) := cellN g2
    have e3 : w2.cell? ⟨w.heap.size, 3, none⟩ = some (.string x.d) := cellN g2
    have HD2 : Hid (Bd w2 B c E L) := hd2
    have HGB : Hid (w.grownBy w2 (some B)) := grownBy_below _ (HBW.out.trans (hB2.mono HBW.out.size))
    clear g2 hd2 hB2 hlk
    go_wp2_with (at_mapUpdate; refine wpList_mapUpdate_own _ rfl _ _ _ 62 rfl 2 32 lawI Try.underlying62 VR B c E rfl HD2.out.own (by unfold maxLen; omega) _ _ _ rfl rfl (keyI hx) (.held (aggE x)) [] rfl ?_; intro w3 hown3 hgrow3)
    have HF : Hid (Bd w3 B (c + 1) (E.put (.int .i64 x.a) (.held (aggE x))) (putB L x) ∧ w.grownBy w3 (some B)) := ⟨HD2.out.put HP.out hown3, grownBy_trans HGB.out hgrow3⟩
    clear hown3 hgrow3
    go_end0
    exact ⟨rfl, ⟨_, HF.out.1⟩, HF.out.2⟩
  | false =>
    have hcd : decide (cmpE y x < 0) = false := by rw [hq] at hlt0; exact hlt0
    have HP : Hid (∃ z, lookB L x.a = some z ∧ later x z = false) := by
      show ∃ z, _
      cases hz : lookB L x.a with
      | none =>
        exfalso
        have := HY.out
        rw [hz] at this
        rw [show y = evZ from this] at hq
        unfold later evZ at hq
        rw [if_neg (by show ¬ x.b = 0; omega)] at hq
        simp at hq
        omega
      | some z =>
        have := HY.out
        rw [hz] at this
        exact ⟨z, rfl, by rw [← show y = z from this]; exact hq⟩
    clear hlt0 hq
    go_enter Try.func42, Try.ntmps42
    go_wp2_with fail
    rw [← HW.out]
    refine (cmpEv_any y x W).mono ?_
    rintro e w2 ⟨rfl, hB2⟩
    have HF : Hid (Bd w2 B (c + 1) E (putB L x) ∧ w.grownBy w2 (some B)) := by
      obtain ⟨z, hz1, hz2⟩ := HP.out
      have hd2 := (HD.out.below hB2).same hz1 hz2
      exact ⟨⟨hd2.own.mono (Nat.le_succ _), hd2.atk, hd2.hask, hd2.up⟩, grownBy_below _ (HBW.out.trans (hB2.mono HBW.out.size))⟩
    clear hB2 hlk
    go_wp2
    go_end0
    exact ⟨rfl, ⟨_, HF.out.1⟩, HF.out.2⟩
end Go.Proofs.Ytnjlegphohmajaa
