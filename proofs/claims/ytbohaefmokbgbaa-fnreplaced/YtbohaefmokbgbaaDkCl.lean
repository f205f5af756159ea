/-
  slices.Clone at files: a copy in memory of its own. No condition but that the slice reads.
-/
import Derived.Test.YtbohaefmokbgbaaDkM2
namespace Go.Proofs.Ytbohaefmokbgbaa
open Go.RowKit
set_option linter.unusedVariables false

theorem nilN (n c : Nat) (w : World) : (binOp .eql 24 (.slice none n c) (.slice none 0 0)).run Try.prog w = .ok (.bool true) w := by kernel_rfl
theorem nilS (a : Addr) (n c : Nat) (w : World) : (binOp .eql 24 (.slice (some a) n c) (.slice none 0 0)).run Try.prog w = .ok (.bool false) w := by kernel_rfl

set_option maxRecDepth 10000 in
set_option maxHeartbeats 1000000 in
theorem clone_any (v : Value) (L : List Fl) (w : World) (h : RdF w v L) (hL : L.length ≤ 1048576) :
    Calls Try.prog 32 #[v] w fun e w' => ∃ u, e = .returned u ∧ OwnF w' w.heap.size u L ∧ Below w.heap.size w w' := by
  obtain ⟨a, cap, rfl, hlc, hcm, hc⟩ := h
  obtain ⟨i0, hi, hz0, hz1, hz2⟩ := info_parts infoF
  obtain ⟨n, hn⟩ : ∃ n, n = L.length := ⟨_, rfl⟩
  have HN : Hid (n = L.length) := hn
  rw [← hn] at hlc hc hL ⊢
  clear hn
  cases a with
  | none =>
    have HE : Hid (L = []) := by
      show _ = _
      rcases Nat.eq_zero_or_pos n with h0 | h0
      · exact List.length_eq_zero_iff.1 (by rw [← HN.out, h0])
      · obtain ⟨b, off, e, _⟩ := hc h0
        cases e
    clear hc
    have hnn := nilN n cap
    go_enter Try.func32, Try.ntmps32
    go_wp2
    go_ret
    exact ⟨_, rfl, by rw [HE.out]; exact OwnF.nil _ _, Below.refl _ _⟩
  | some ad =>
    have HL : Hid (∀ j u, (cellsF L)[j]? = some u → (w.alloc (.cells #[] 68)).cell? (ad.add j) = some u) := fun j u hu => by
      have hj : j < L.length * 2 := by rw [← cellsF_len]; exact (List.getElem?_eq_some_iff.1 hu).1
      obtain ⟨b, off, e, hbs, hl⟩ := hc (by have := HN.out; omega)
      cases e
      have hl2 : LiesF (w.alloc (.cells #[] 68)) b off L := fun j hj => (hl j hj).below ((Below.refl _ _).alloc (Nat.le_refl _) _)
      exact hl2.news j u hu
    have hc1 : Hid (0 + n ≤ maxLen) := by show _ ≤ _; unfold maxLen; omega
    have hc2 : Hid ((0 + n) * 32 ≤ 140737488355328) := by show _ ≤ _; omega
    clear hc
    have hnn := nilS ad n cap
    go_enter Try.func32, Try.ntmps32
    go_wp2_with (first
      | (at_builtin
         refine wpList_append_own _ rfl _ _ 24 rfl w.heap.size 68 i0 (.agg #[.string ⟨#[]⟩, .string ⟨#[]⟩]) 2 32 Try.underlying24 hi hz0 hz1 hz2 rfl (by decide) _ 0 [] rfl (World.ownsRow_made w #[] 0 (Nat.le_refl _) (by decide) rfl) ad n cap (cellsF L) rfl (by rw [cellsF_len, ← HN.out]) HL.out (oneF L) hc1.out hc2.out (by simp) ?_
         intro v' w3 hown hgrow hnil
         have HE : Hid (OwnF w3 w.heap.size v' L ∧ Below w.heap.size w w3) := by
           refine ⟨?_, ((Below.refl _ w).alloc (Nat.le_refl _) _).grown hgrow (by simp) (fun x hx => by have hx' : some w.heap.size = some x := hx; cases hx'; exact Nat.le_refl _)⟩
           show w3.ownsRow _ _ _ _ _ _
           rw [← HN.out]
           rw [Nat.zero_add, List.nil_append] at hown
           exact hown
         clear hown hgrow hnil))
    go_ret
    exact ⟨_, rfl, HE.out.1, HE.out.2⟩
end Go.Proofs.Ytbohaefmokbgbaa
