/-
  NodeText, the program's and the specification's, answer the same text. No condition but that the ups read, lengths, and, of the program's, the library's table of powers of ten.
-/
import Derived.Test.YtniidjanngajoaaDoorNT
namespace Go.Proofs.YtniidjanngajoaaDoor
open Go.RowKit
set_option linter.unusedVariables false

/-- what both answer -/
def textR (a s k : Int) (key text : ByteArray) (S : Nat → ByteArray) (len : Nat) : ByteArray := if nodeB a s k key text S len = true then upsB (headB a.toNat s.toNat k.toNat key text) S len else ⟨#[]⟩

theorem node_right {a s k : Int} {key text : ByteArray} {S : Nat → ByteArray} {len : Nat} (h : nodeB a s k key text S len = true) :
    (1 ≤ a ∧ a ≤ 9) ∧ (1 ≤ s ∧ s ≤ 1000000) ∧ (1 ≤ k ∧ k ≤ 3) ∧ key.size ≤ 20 ∧ text.size ≤ 20 ∧ len ≤ 5 ∧ ∀ i, i < len → (S i).size = 64 := by
  unfold nodeB at h
  simp only [Bool.and_eq_true] at h
  obtain ⟨⟨⟨⟨⟨h1, h2⟩, h3⟩, h4⟩, h5⟩, h6⟩ := h
  unfold inB at h1 h2
  unfold plainB at h3 h4
  unfold idsB at h6
  simp only [Bool.and_eq_true, decide_eq_true_eq] at h1 h2 h3 h4 h6
  refine ⟨h1, h2, ?_, h3.1, h4.1, h6.1.1, fun i hi => ?_⟩
  · unfold opB at h5
    split at h5
    · omega
    · split at h5
      · omega
      · cases h5
  · have := h6.2
    unfold allB at this
    rw [List.all_eq_true] at this
    have := this i (List.mem_range.2 hi)
    unfold idB at this
    simp only [Bool.and_eq_true, decide_eq_true_eq] at this
    exact this.1

set_option maxHeartbeats 1000000 in
theorem specNodeText_any (a s k : Int) (key text : ByteArray) (u : Option Addr) (len cap : Nat) (S : Nat → ByteArray) (w : World) (h : IsStrs w u len cap S) (hS : ∀ i, i < len → (S i).size ≤ 9223372036854775807) (hkey : key.size ≤ 9223372036854775807) (htext : text.size ≤ 9223372036854775807) :
    Calls Tryd.prog 18 #[.agg #[.int .i64 a, .int .i64 s, .int .i64 k, .string key, .string text, .slice u len cap]] w fun e w' => e = .returned (.string (textR a s k key text S len)) ∧ Below w.heap.size w w' := by
  have HB : Hid (Below w.heap.size w (w.alloc (.cells #[.int .i64 a, .int .i64 s, .int .i64 k, .string key, .string text, .slice u len cap] 29))) := (Below.refl _ _).alloc (Nat.le_refl _) _
  have HN : Hid (NodeAt (w.alloc (.cells #[.int .i64 a, .int .i64 s, .int .i64 k, .string key, .string text, .slice u len cap] 29)) w.heap.size a s k key text (.slice u len cap)) := NodeAt.new _ _ _ _ _ _ _ _
  have HI : Hid (IsStrs (w.alloc (.cells #[.int .i64 a, .int .i64 s, .int .i64 k, .string key, .string text, .slice u len cap] 29)) u len cap S) := h.below ((Below.refl _ _).alloc (Nat.le_refl _) _)
  have HC : Hid (Calls Tryd.prog 14 #[.agg #[.int .i64 a, .int .i64 s, .int .i64 k, .string key, .string text, .slice u len cap]] (w.alloc (.cells #[.int .i64 a, .int .i64 s, .int .i64 k, .string key, .string text, .slice u len cap] 29)) fun e w' => e = .returned (.bool (nodeB a s k key text S len)) ∧ Below (w.alloc (.cells #[.int .i64 a, .int .i64 s, .int .i64 k, .string key, .string text, .slice u len cap] 29)).heap.size (w.alloc (.cells #[.int .i64 a, .int .i64 s, .int .i64 k, .string key, .string text, .slice u len cap] 29)) w') := specNodeOk_any a s k key text u len cap S _ (h.below ((Below.refl _ _).alloc (Nat.le_refl _) _)) hS hkey htext
  clear h hS hkey htext
  cases hb : nodeB a s k key text S len with
  | false =>
    have hr : Hid (textR a s k key text S len = ⟨#[]⟩) := by show _ = _; unfold textR; rw [hb]; rfl
    go_enter Tryd.func18, Tryd.ntmps18
    go_wp2_with (go_at_call 14; refine HC.out.mono ?_; rintro e w1 ⟨rfl, hB1⟩; rw [hb])
    go_ret
    exact ⟨ret_val (by rw [hr.out]; rfl), HB.out.trans (hB1.mono HB.out.size)⟩
  | true =>
    have hr : Hid (textR a s k key text S len = upsB (headB a.toNat s.toNat k.toNat key text) S len) := by show _ = _; unfold textR; rw [if_pos hb]
    obtain ⟨⟨p1, p2⟩, ⟨p3, p4⟩, ⟨p5, p6⟩, p7, p8, p9, p10⟩ := node_right hb
    obtain ⟨na, rfl⟩ : ∃ n : Nat, a = n := ⟨a.toNat, by omega⟩
    obtain ⟨ns, rfl⟩ : ∃ n : Nat, s = n := ⟨s.toNat, by omega⟩
    obtain ⟨nk, rfl⟩ : ∃ n : Nat, k = n := ⟨k.toNat, by omega⟩
    have HT : Hid (∀ v : World, IsStrs v u len cap S → Calls Tryd.prog 42 #[.agg #[.int .i64 (na : Int), .int .i64 (ns : Int), .int .i64 (nk : Int), .string key, .string text, .slice u len cap]] v fun e w' => e = .returned (.string (upsB (headB na ns nk key text) S len)) ∧ Below v.heap.size v w') := fun v hv => l6Text_any na ns nk key text u len cap S (by omega) (by omega) (by omega) p7 p8 p9 p10 v hv
    clear p1 p2 p3 p4 p5 p6 p7 p8 p9 p10
    go_enter Tryd.func18, Tryd.ntmps18
    go_wp2_with (go_at_call 14; refine HC.out.mono ?_; rintro e w1 ⟨rfl, hB1⟩; rw [hb]; obtain ⟨c0, c1, c2, c3, c4, c5⟩ := HN.out.below hB1)
    go_wp2_with (go_at_call 42; refine (HT.out w1 (HI.out.below hB1)).mono ?_; rintro e w2 ⟨rfl, hB2⟩)
    go_ret
    have b1 := HB.out.trans (hB1.mono HB.out.size)
    exact ⟨ret_val (by rw [hr.out]; rfl), b1.trans (hB2.mono b1.size)⟩
end Go.Proofs.YtniidjanngajoaaDoor
