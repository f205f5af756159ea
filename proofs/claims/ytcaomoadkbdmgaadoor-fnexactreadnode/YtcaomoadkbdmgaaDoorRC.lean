/-
  Both ReadNodes by one plain answer; the laws' own marks on a node; the law, whole. No condition but that bytealg's variable lies in block 0.
-/
import Derived.Test.YtcaomoadkbdmgaaDoorRBig
import Derived.Test.YtcaomoadkbdmgaaDoorMark
namespace Go.Proofs.YtcaomoadkbdmgaaDoor
open Go.RowKit
set_option linter.unusedVariables false

/-- what ReadNode answers at s -/
def Reads (s : ByteArray) (p : PN) (b : Bool) : Prop := (b = true ∧ s.size ≤ 1000 ∧ Good s p) ∨ (b = false ∧ p = pnZ ∧ (s.size ≤ 1000 → ¬ ∃ p, Good s p))
theorem Reads.unique {s : ByteArray} {p p' : PN} {b b' : Bool} (h : Reads s p b) (h' : Reads s p' b') : p' = p ∧ b' = b := by
  rcases h with ⟨rfl, hs, hg⟩ | ⟨rfl, rfl, hn⟩
  · rcases h' with ⟨rfl, hs', hg'⟩ | ⟨rfl, rfl, hn'⟩
    · have := hg.1
      rw [hg'.1] at this
      exact ⟨Option.some.inj this, rfl⟩
    · exact absurd ⟨p, hg⟩ (hn' hs)
  · rcases h' with ⟨rfl, hs', hg'⟩ | ⟨rfl, rfl, hn'⟩
    · exact absurd ⟨p', hg'⟩ (hn hs')
    · exact ⟨rfl, rfl⟩
def nodeQ (p : PN) (v : Value) : Array Value := #[.int .i64 p.a, .int .i64 p.s, .int .i64 p.k, .string p.key, .string p.text, v]
theorem Reads.len {s : ByteArray} {p : PN} {b : Bool} (h : Reads s p b) : p.ups.length ≤ 5 := by
  rcases h with ⟨rfl, hs, hg⟩ | ⟨rfl, rfl, hn⟩
  · obtain ⟨_, h2, h3⟩ := hg
    unfold textR at h3
    split at h3
    · rename_i hn
      exact (node_right hn).2.2.2.2.2.1
    · exact absurd (by rw [← h3]; exact ByteArray.toList_eq _) h2
  · exact Nat.zero_le _

theorem specRead (s : ByteArray) (w : World) (hs : s.size ≤ 1048576) :
    Calls Tryd.prog 4 #[.string s] w fun e w' => ∃ (p : PN) (b : Bool) (a : Option Addr) (cap : Nat), e = .returned (.tuple #[.agg (nodeQ p (.slice a p.ups.length cap)), .bool b]) ∧ Reads s p b ∧ w'.ownsRow w.heap.size 9 1 (.slice a p.ups.length cap) p.ups.length (p.ups.map Value.string) ∧ Below w.heap.size w w' := by
  by_cases h : s.size ≤ 1000
  · refine (specRead_any s w h).mono ?_
    rintro e w' ⟨v, q, b, rfl, hB, ht, hf⟩
    cases b with
    | true =>
      obtain ⟨p, h1, h2, h3, hq, ho⟩ := ht rfl
      obtain ⟨a, cap, rfl⟩ := own_slice ho
      exact ⟨p, true, a, cap, by rw [hq]; rfl, .inl ⟨rfl, h, h1, h2, h3⟩, ho, hB⟩
    | false =>
      obtain ⟨hq, hn⟩ := hf rfl
      exact ⟨pnZ, false, none, 0, by rw [hq]; rfl, .inr ⟨rfl, rfl, fun _ => hn⟩, World.ownsRow_nil _ _ _ _, hB⟩
  · refine (specRead_big s w (by omega) hs).mono ?_
    rintro e w' ⟨rfl, hB⟩
    exact ⟨pnZ, false, none, 0, rfl, .inr ⟨rfl, rfl, fun h' => absurd h' h⟩, World.ownsRow_nil _ _ _ _, hB⟩
theorem implRead (s : ByteArray) (m : Int) (w : World) (hs : s.size ≤ 1048576) (hm : w.cell? ⟨0, 0, none⟩ = some (.int .i64 m)) :
    Calls Tryd.prog 5 #[.string s] w fun e w' => ∃ (p : PN) (b : Bool) (a : Option Addr) (cap : Nat), e = .returned (.tuple #[.agg (nodeQ p (.slice a p.ups.length cap)), .bool b]) ∧ Reads s p b ∧ w'.ownsRow w.heap.size 9 1 (.slice a p.ups.length cap) p.ups.length (p.ups.map Value.string) ∧ Below w.heap.size w w' := by
  by_cases h : s.size ≤ 1000
  · refine (implRead_any s m w h hm).mono ?_
    rintro e w' ⟨j, v, xs, q, rfl, hg, hj, ht, hf, ho, hx, _, hB⟩
    cases hk : okR s j with
    | true =>
      obtain ⟨p, hp⟩ := impl_good j hj hk
      obtain ⟨_, e1, e2, e3, e4, e5, e6, e7⟩ := good_impl hp j hg hj
      have hq := ht hk
      obtain ⟨a, cap, rfl⟩ := own_slice ho
      subst e6
      have hxs : xs = p.ups.map Value.string := by
        apply List.ext_getElem?
        intro i
        by_cases hi : i < p.ups.length
        · rw [hx i hi, ← e7 i hi, S_at p i hi, List.getElem?_map, List.getElem?_eq_getElem hi]
          rfl
        · rw [List.getElem?_eq_none (by have := ho.1; omega), List.getElem?_eq_none (by rw [List.length_map]; omega)]
      rw [hxs] at ho
      exact ⟨p, true, a, cap, by rw [hq, ← e1, ← e2, ← e3, ← e4, ← e5]; rfl, .inl ⟨rfl, h, hp⟩, ho, hB⟩
    | false =>
      have hq := hf hk
      refine ⟨pnZ, false, none, 0, by rw [hq]; rfl, .inr ⟨rfl, rfl, fun _ => ?_⟩, World.ownsRow_nil _ _ _ _, hB⟩
      rintro ⟨p, hp⟩
      have := (good_impl hp j hg hj).1
      rw [hk] at this
      cases this
  · refine (implRead_big s w (by omega) hs).mono ?_
    rintro e w' ⟨rfl, hB⟩
    exact ⟨pnZ, false, none, 0, rfl, .inr ⟨rfl, rfl, fun h' => absurd h' h⟩, World.ownsRow_nil _ _ _ _, hB⟩

set_option maxHeartbeats 400000 in
theorem markNode_any (x y z : Int) (key text : ByteArray) (a : Option Addr) (len cap base : Nat) (xs0 : List Value) (w : World) (h : w.ownsRow base 9 1 (.slice a len cap) len xs0) (hb : len ≤ 1000) :
    Calls Tryd.prog 7 #[.agg #[.int .i64 x, .int .i64 y, .int .i64 z, .string key, .string text, .slice a len cap], .int .i64 1] w fun e w' => e = .returned (.int .i64 ((1 + len : Nat) : Int)) ∧ w'.ownsRow base 9 1 (.slice a len cap) len (marks 1 len) ∧ Kept (fun k => (Value.slice a len cap).ownBlock ≠ some k) w w' := by
  have HA : Hid (∀ o, (w.alloc o).ownsRow base 9 1 (.slice a len cap) len xs0) := fun o => World.ownsRow.alloc h o
  have HK : Hid (∀ o, Kept (fun k => (Value.slice a len cap).ownBlock ≠ some k) w (w.alloc o)) := fun o => Kept.of_below ((Below.refl _ _).alloc (Nat.le_refl _) _)
  clear h
  go_enter Tryd.func7, Tryd.ntmps7
  go_wp2_with fail
  refine (markStringS_any a len cap base xs0 1 _ (HA.out _) (by omega) (by omega)).mono ?_
  rintro e w1 ⟨rfl, ho, hg⟩
  go_wp2
  go_ret
  exact ⟨rfl, ho, (HK.out _).trans (Kept.of_grown hg (fun k hk hp => hp hk))⟩
set_option maxHeartbeats 400000 in
theorem heldNode_any (x y z : Int) (key text : ByteArray) (a : Option Addr) (len cap : Nat) (w : World) (h : IsStrs w a len cap (fun i => mt (1 + i))) (hb : len ≤ 1000) :
    Calls Tryd.prog 8 #[.agg #[.int .i64 x, .int .i64 y, .int .i64 z, .string key, .string text, .slice a len cap], .int .i64 1] w fun e w' => e = .returned (.int .i64 ((1 + len : Nat) : Int)) ∧ Below w.heap.size w w' := by
  have HB : Hid (∀ o, Below w.heap.size w (w.alloc o)) := fun o => (Below.refl _ _).alloc (Nat.le_refl _) _
  have HI : Hid (∀ o, IsStrs (w.alloc o) a len cap (fun i => mt (1 + i))) := fun o => h.below (HB.out o)
  have hq1 : decide (((1 + len : Nat) : Int) < 0) = false := by simp; omega
  clear h
  go_enter Tryd.func8, Tryd.ntmps8
  go_wp2_with fail
  refine (heldStringS_any a len cap 1 _ (HI.out _) (by omega) (by omega)).mono ?_
  rintro e w1 ⟨rfl, hB⟩
  go_wp2
  go_ret
  exact ⟨rfl, (HB.out _).trans (hB.mono (HB.out _).size)⟩
end Go.Proofs.YtcaomoadkbdmgaaDoor
