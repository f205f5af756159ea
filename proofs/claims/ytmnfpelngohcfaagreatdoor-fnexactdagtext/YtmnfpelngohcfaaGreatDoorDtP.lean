/-
  The text of a dag, plainly, and the specification's NodeText. No condition but that the slices read.
-/
import Derived.Test.YtmnfpelngohcfaaGreatDoorDag7
import Derived.Test.YtmnfpelngohcfaaGreatDoorNT3
namespace Go.Proofs.YtmnfpelngohcfaaGreatDoor
open Go.RowKit
set_option linter.unusedVariables false

/-- the text of a node -/
def Nd.txt (d : Nd) : ByteArray := textR d.a d.s d.k d.key d.text d.S d.n
/-- the first k nodes, behind the head line -/
def dagT (D : Nat → Nd) (len : Nat) : Nat → ByteArray
  | 0 => lineB ⟨#[100, 97, 103]⟩ (decB len)
  | k + 1 => dagT D len k ++ ((D k).txt ++ ⟨#[10]⟩)
def dagTR (D : Nat → Nd) (len : Nat) : ByteArray := if dagB D len = true then dagT D len len else ⟨#[]⟩
theorem txt_size (d : Nd) : d.txt.size ≤ 1048576 := by
  unfold Nd.txt textR
  cases h : nodeB d.a d.s d.k d.key d.text d.S d.n with
  | false => show (ByteArray.mk #[]).size ≤ _; decide
  | true => rw [if_pos rfl]; exact (text_size h).1
theorem dagT_size (D : Nat → Nd) (len : Nat) (hl : len ≤ 30) : ∀ k, (dagT D len k).size ≤ 1000 + k * 1048577
  | 0 => by
    show (lineB _ _).size ≤ _
    rw [lineB_size]
    have := decB_size len
    have e : (ByteArray.mk #[100, 97, 103]).size = 3 := rfl
    omega
  | k + 1 => by
    show (dagT D len k ++ ((D k).txt ++ ⟨#[10]⟩)).size ≤ _
    rw [ByteArray.size_append, ByteArray.size_append]
    have h1 := dagT_size D len hl k
    have h2 := txt_size (D k)
    have e : (ByteArray.mk #[10]).size = 1 := rfl
    omega
theorem addT {a b : ByteArray} (h : a.size + b.size ≤ 2000000000) (w : World) : (Op.stringOp .add a b).run Tryz.prog w = .ok (.string (a ++ b)) w := run_string_add_sum w _ _ (by omega)

set_option maxHeartbeats 2000000 in
theorem specNodeTextD_any (a s k : Int) (key text : ByteArray) (u : Option Addr) (len cap : Nat) (S : Nat → ByteArray) (w : World) (h : IsStrs w u len cap S) (hS : ∀ i, i < len → (S i).size ≤ 9223372036854775807) (hkey : key.size ≤ 9223372036854775807) (htext : text.size ≤ 9223372036854775807) :
    Calls Tryz.prog 36 #[.agg #[.int .i64 a, .int .i64 s, .int .i64 k, .string key, .string text, .slice u len cap]] w fun e w' => e = .returned (.string (textR a s k key text S len)) ∧ Below w.heap.size w w' := by
  have HB : Hid (Below w.heap.size w (w.alloc (.cells #[.int .i64 a, .int .i64 s, .int .i64 k, .string key, .string text, .slice u len cap] 40))) := (Below.refl _ _).alloc (Nat.le_refl _) _
  have HN : Hid (NodeAt (w.alloc (.cells #[.int .i64 a, .int .i64 s, .int .i64 k, .string key, .string text, .slice u len cap] 40)) w.heap.size a s k key text (.slice u len cap)) := NodeAt.new _ _ _ _ _ _ _ _
  have HI : Hid (IsStrs (w.alloc (.cells #[.int .i64 a, .int .i64 s, .int .i64 k, .string key, .string text, .slice u len cap] 40)) u len cap S) := h.below ((Below.refl _ _).alloc (Nat.le_refl _) _)
  have HC : Hid (Calls Tryz.prog 32 #[.agg #[.int .i64 a, .int .i64 s, .int .i64 k, .string key, .string text, .slice u len cap]] (w.alloc (.cells #[.int .i64 a, .int .i64 s, .int .i64 k, .string key, .string text, .slice u len cap] 40)) fun e w' => e = .returned (.bool (nodeB a s k key text S len)) ∧ Below (w.alloc (.cells #[.int .i64 a, .int .i64 s, .int .i64 k, .string key, .string text, .slice u len cap] 40)).heap.size (w.alloc (.cells #[.int .i64 a, .int .i64 s, .int .i64 k, .string key, .string text, .slice u len cap] 40)) w') := specNodeOk_any a s k key text u len cap S _ (h.below ((Below.refl _ _).alloc (Nat.le_refl _) _)) hS hkey htext
  clear h hS hkey htext
  cases hb : nodeB a s k key text S len with
  | false =>
    have hr : Hid (textR a s k key text S len = ⟨#[]⟩) := by show _ = _; unfold textR; rw [hb]; rfl
    go_enter Tryz.func36, Tryz.ntmps36
    go_wp2_with (go_at_call 32; refine HC.out.mono ?_; rintro e w1 ⟨rfl, hB1⟩; rw [hb])
    go_ret
    exact ⟨ret_val (by rw [hr.out]; rfl), HB.out.trans (hB1.mono HB.out.size)⟩
  | true =>
    have hr : Hid (textR a s k key text S len = upsB (headB a.toNat s.toNat k.toNat key text) S len) := by show _ = _; unfold textR; rw [if_pos hb]
    obtain ⟨⟨p1, p2⟩, ⟨p3, p4⟩, ⟨p5, p6⟩, p7, p8, p9, p10⟩ := node_right hb
    obtain ⟨na, rfl⟩ : ∃ n : Nat, a = n := ⟨a.toNat, by omega⟩
    obtain ⟨ns, rfl⟩ : ∃ n : Nat, s = n := ⟨s.toNat, by omega⟩
    obtain ⟨nk, rfl⟩ : ∃ n : Nat, k = n := ⟨k.toNat, by omega⟩
    have HT : Hid (∀ v : World, IsStrs v u len cap S → Calls Tryz.prog 49 #[.agg #[.int .i64 (na : Int), .int .i64 (ns : Int), .int .i64 (nk : Int), .string key, .string text, .slice u len cap]] v fun e w' => e = .returned (.string (upsB (headB na ns nk key text) S len)) ∧ Below v.heap.size v w') := fun v hv => l6Text_any na ns nk key text u len cap S (by omega) (by omega) (by omega) p7 p8 p9 p10 v hv
    clear p1 p2 p3 p4 p5 p6 p7 p8 p9 p10
    go_enter Tryz.func36, Tryz.ntmps36
    go_wp2_with (go_at_call 32; refine HC.out.mono ?_; rintro e w1 ⟨rfl, hB1⟩; rw [hb]; obtain ⟨c0, c1, c2, c3, c4, c5⟩ := HN.out.below hB1)
    go_wp2_with (go_at_call 49; refine (HT.out w1 (HI.out.below hB1)).mono ?_; rintro e w2 ⟨rfl, hB2⟩)
    go_ret
    have b1 := HB.out.trans (hB1.mono HB.out.size)
    exact ⟨ret_val (by rw [hr.out]; rfl), b1.trans (hB2.mono b1.size)⟩
end Go.Proofs.YtmnfpelngohcfaaGreatDoor
