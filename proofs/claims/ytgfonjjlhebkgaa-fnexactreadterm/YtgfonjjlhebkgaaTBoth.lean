/-
  ReadTerm, of both: every text has one answer that both give, in memory of their own. No condition but the text's length.
-/
import Derived.Test.YtgfonjjlhebkgaaTWith
namespace Go.Proofs.Ytgfonjjlhebkgaa
open Go.RowKit
set_option linter.unusedVariables false

theorem with_any : ∀ t : Tr, WithC t
  | ⟨.inl (k, m)⟩ => with_leaf k m
  | ⟨.inr (.inl t)⟩ => with_hash t (with_any t)
  | ⟨.inr (.inr (.inl (t, s)))⟩ => with_pair t s (with_any t) (with_any s)
  | ⟨.inr (.inr (.inr (k, m, t)))⟩ => with_keyed k m t (with_any t)

/-- what ReadTerm hands back: the nodes l, in a row of its own, and x -/
def Gives (f : Nat) (s : ByteArray) (l : List Nd) (x : Bool) : Prop := ∀ w : World,
  Calls Try.prog f #[.string s] w fun e w' => ∃ a cap, e = .returned (.tuple #[.slice a l.length cap, .bool x]) ∧ OwnN w' w.heap.size (.slice a l.length cap) l.length l ∧ Below w.heap.size w w'

theorem spec_yes (s : ByteArray) (hs : s.size ≤ 1048576) (t : Tr) (hpr : Pr s t 10 0 s.size) (hok : t.Ok) (hz : t.size ≤ 40) (hx : t.txt = s) : Gives 4 s (t.flat 0) true := by
  intro w
  have hq := pr_qS t 10 0 s.size [] hpr (by simpa using hz)
  have hd := pr_deep t _ _ _ hpr
  have hsit := sits_nodes t
  have hs1 := sits_sOk hok hsit hd hz
  have hl : (qS s 10 0 false []).l = t.flat 0 := by rw [hq]; rfl
  have hlen : (qS s 10 0 false []).l.length = t.size := by rw [hl, Tr.flat_length]
  refine (readTerm_yes s w hs (by rw [hq]) (by rw [hq]) t hx hok (by rw [hlen]; exact hz) hlen.symm (by rw [hl]; exact hsit) (by rw [hlen, hl]; exact hs1)).mono ?_
  rintro e w' ⟨a, cap, he, ho, hB⟩
  rw [hl] at he ho
  exact ⟨a, cap, he, ho, hB⟩

theorem spec_no (s : ByteArray) (hs : s.size ≤ 1048576) (h : rT s = none) : Gives 4 s [] false := by
  intro w
  refine (specRead_no s w hs h).mono ?_
  rintro e w' ⟨rfl, hB⟩
  exact ⟨none, 0, rfl, World.ownsRow_nil _ _ _ _, hB⟩

set_option maxHeartbeats 1000000 in
theorem impl_no (s : ByteArray) (hs : s.size ≤ 1048576) (h : rT s = none) : Gives 5 s [] false := by
  intro w
  go_enter Try.func5, Try.ntmps5
  go_wp2_with (go_at_call 11; refine (termOfText_any s w hs).mono ?_; rintro e w1 ⟨rfl, hB1⟩; rw [h]; unfold tup2)
  go_ret2
  exact ⟨none, 0, rfl, World.ownsRow_nil _ _ _ _, hB1⟩

set_option maxHeartbeats 1000000 in
theorem impl_yes (s : ByteArray) (hs : s.size ≤ 1048576) (t : Tr) (h : rT s = some t.val) (hz : t.size ≤ 40) : Gives 5 s (t.flat 0) true := by
  intro w
  obtain ⟨T, u, hv⟩ := val_iface t
  rw [hv] at h
  have HW : Hid (∀ w1 : World, w.heap.size ≤ w1.heap.size → Calls Try.prog 12 #[.slice none 0 0, .iface T u] w1 fun e w' => ∃ a cap, e = .returned (.slice a t.size cap) ∧ OwnN w' w.heap.size (.slice a t.size cap) t.size (t.flat 0) ∧ Below w1.heap.size w1 w') := fun w1 h1 => by
    have hc := with_any t [] none 0 0 w.heap.size w1 (World.ownsRow_nil _ _ _ _) h1 (by omega)
    rw [hv] at hc
    refine hc.mono ?_
    rintro e w' ⟨a, cap, he, ho, hG⟩
    simp only [Nat.zero_add, List.nil_append] at he ho
    exact ⟨a, cap, he, ho, ⟨hG.1.os, hG.1.tape, hG.1.output, hG.1.size, fun k hk => hG.1.block k hk (fun e => by cases e)⟩⟩
  have hl := Tr.flat_length t 0
  clear hv
  go_enter Try.func5, Try.ntmps5
  go_wp2_with (first
    | (go_at_call 11; refine (termOfText_any s w hs).mono ?_; rintro e w1 ⟨rfl, hB1⟩; rw [h]; unfold tup2)
    | (go_at_call 12; refine (HW.out _ hB1.size).mono ?_; rintro e w2 ⟨a, cap, rfl, ho, hB2⟩))
  go_ret2
  refine ⟨a, cap, ret_val (by rw [hl]; rfl), ?_, hB1.trans (hB2.mono hB1.size)⟩
  rw [hl]
  exact ho

/-- one answer, of both -/
theorem both_give (s : ByteArray) (hs : s.size ≤ 1048576) : ∃ (l : List Nd) (x : Bool), l.length ≤ 40 ∧ Gives 4 s l x ∧ Gives 5 s l x := by
  cases h : rT s with
  | none => exact ⟨[], false, by simp, spec_no s hs h, impl_no s hs h⟩
  | some v =>
    obtain ⟨t, hpr, hok, hz, hx, rfl⟩ := rT_tr h
    exact ⟨t.flat 0, true, by rw [Tr.flat_length]; exact hz, spec_yes s hs t hpr hok hz hx, impl_yes s hs t h hz⟩
end Go.Proofs.Ytgfonjjlhebkgaa
