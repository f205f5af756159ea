/-
  IdOf, the program's and the specification's, answer the same text, and its law returns true. Conditions: that the ups read, lengths, and the tables.
-/
import Derived.Test.YtlibipbpaigmdaaGreatDoorNT3
import Derived.Test.YtlibipbpaigmdaaGreatDoorTxt2
namespace Go.Proofs.YtlibipbpaigmdaaGreatDoor
open Go.RowKit
set_option linter.unusedVariables false

/-- what both answer -/
def idR (a s k : Int) (key text : ByteArray) (S : Nat → ByteArray) (len : Nat) : ByteArray := if nodeB a s k key text S len = true then sumT (upsB (headB a.toNat s.toNat k.toNat key text) S len) else ⟨#[]⟩

theorem decB_size7 (n : Nat) (h : n ≤ 1000000) : (decB n).size ≤ 7 := by
  have step : ∀ m c, (∀ n, n ≤ m → (decB n).size ≤ c) → ∀ n, n ≤ 10 * m + 9 → (decB n).size ≤ c + 1 := by
    intro m c hm n hn
    by_cases h : n < 10
    · rw [decB_one h, dgI_size]; omega
    · have := hm (n / 10) (by omega)
      rw [decB_more h, ByteArray.size_append, dgI_size]
      omega
  have s1 : ∀ n, n ≤ 9 → (decB n).size ≤ 1 := fun n hn => by rw [decB_one (by omega), dgI_size]; omega
  have s2 := step 9 1 s1
  have s3 := step 99 2 s2
  have s4 := step 999 3 s3
  have s5 := step 9999 4 s4
  have s6 := step 99999 5 s5
  have s7 := step 999999 6 s6
  exact s7 n (by omega)

theorem text_size {a s k : Int} {key text : ByteArray} {S : Nat → ByteArray} {len : Nat} (h : nodeB a s k key text S len = true) : (upsB (headB a.toNat s.toNat k.toNat key text) S len).size ≤ 1048576 ∧ 0 < (upsB (headB a.toNat s.toNat k.toNat key text) S len).size := by
  obtain ⟨⟨p1, p2⟩, ⟨p3, p4⟩, ⟨p5, p6⟩, p7, p8, p9, p10⟩ := node_right h
  have z1 := decB_size a.toNat
  have z3 := decB_size k.toNat
  have z2 := decB_size7 s.toNat (by omega)
  rw [upsB_size _ _ _ p10, headB_size]
  omega

/-- the tables that IdOf reads -/
structure AllT (w : World) : Prop where
  t : Tabs w
  p : Pow w
theorem AllT.below {w w' : World} (h : AllT w) (hB : Below w.heap.size w w') : AllT w' := ⟨h.t.below hB, h.p.below hB⟩

set_option maxHeartbeats 1000000 in
theorem specIdOf_any (a s k : Int) (key text : ByteArray) (u : Option Addr) (len cap : Nat) (S : Nat → ByteArray) (w : World) (h : IsStrs w u len cap S) (hS : ∀ i, i < len → (S i).size ≤ 9223372036854775807) (hkey : key.size ≤ 9223372036854775807) (htext : text.size ≤ 9223372036854775807) :
    Calls Tryz.prog 58 #[.agg #[.int .i64 a, .int .i64 s, .int .i64 k, .string key, .string text, .slice u len cap]] w fun e w' => e = .returned (.string (idR a s k key text S len)) ∧ Below w.heap.size w w' := by
  have HB : Hid (Below w.heap.size w (w.alloc (.cells #[.int .i64 a, .int .i64 s, .int .i64 k, .string key, .string text, .slice u len cap] 50))) := (Below.refl _ _).alloc (Nat.le_refl _) _
  have HN : Hid (NodeAt (w.alloc (.cells #[.int .i64 a, .int .i64 s, .int .i64 k, .string key, .string text, .slice u len cap] 50)) w.heap.size a s k key text (.slice u len cap)) := NodeAt.new _ _ _ _ _ _ _ _
  have HI : Hid (IsStrs (w.alloc (.cells #[.int .i64 a, .int .i64 s, .int .i64 k, .string key, .string text, .slice u len cap] 50)) u len cap S) := h.below ((Below.refl _ _).alloc (Nat.le_refl _) _)
  have HC : Hid (Calls Tryz.prog 114 #[.agg #[.int .i64 a, .int .i64 s, .int .i64 k, .string key, .string text, .slice u len cap]] (w.alloc (.cells #[.int .i64 a, .int .i64 s, .int .i64 k, .string key, .string text, .slice u len cap] 50)) fun e w' => e = .returned (.bool (nodeB a s k key text S len)) ∧ Below (w.alloc (.cells #[.int .i64 a, .int .i64 s, .int .i64 k, .string key, .string text, .slice u len cap] 50)).heap.size (w.alloc (.cells #[.int .i64 a, .int .i64 s, .int .i64 k, .string key, .string text, .slice u len cap] 50)) w') := specNodeOk_any a s k key text u len cap S _ (h.below ((Below.refl _ _).alloc (Nat.le_refl _) _)) hS hkey htext
  clear h hS hkey htext
  cases hb : nodeB a s k key text S len with
  | false =>
    have hr : Hid (idR a s k key text S len = ⟨#[]⟩) := by show _ = _; unfold idR; rw [hb]; rfl
    go_enter Tryz.func58, Tryz.ntmps58
    go_wp2_with (go_at_call 114; refine HC.out.mono ?_; rintro e w1 ⟨rfl, hB1⟩; rw [hb])
    go_ret
    exact ⟨ret_val (by rw [hr.out]; rfl), HB.out.trans (hB1.mono HB.out.size)⟩
  | true =>
    have hr : Hid (idR a s k key text S len = sumT (upsB (headB a.toNat s.toNat k.toNat key text) S len)) := by show _ = _; unfold idR; rw [if_pos hb]
    have hts := text_size hb
    obtain ⟨⟨p1, p2⟩, ⟨p3, p4⟩, ⟨p5, p6⟩, p7, p8, p9, p10⟩ := node_right hb
    obtain ⟨na, rfl⟩ : ∃ n : Nat, a = n := ⟨a.toNat, by omega⟩
    obtain ⟨ns, rfl⟩ : ∃ n : Nat, s = n := ⟨s.toNat, by omega⟩
    obtain ⟨nk, rfl⟩ : ∃ n : Nat, k = n := ⟨k.toNat, by omega⟩
    have HT : Hid (∀ v : World, IsStrs v u len cap S → Calls Tryz.prog 125 #[.agg #[.int .i64 (na : Int), .int .i64 (ns : Int), .int .i64 (nk : Int), .string key, .string text, .slice u len cap]] v fun e w' => e = .returned (.string (upsB (headB na ns nk key text) S len)) ∧ Below v.heap.size v w') := fun v hv => l6Text_any na ns nk key text u len cap S (by omega) (by omega) (by omega) p7 p8 p9 p10 v hv
    rw [show ((na : Int)).toNat = na from rfl, show ((ns : Int)).toNat = ns from rfl, show ((nk : Int)).toNat = nk from rfl] at hr hts
    generalize upsB (headB na ns nk key text) S len = tx at *
    have HQ : Hid (∀ v : World, Calls Tryz.prog 110 #[.string tx] v fun e w' => e = .returned (.string (sumT tx)) ∧ Below v.heap.size v w') := fun v => specSumText_any tx hts.1 v
    clear p1 p2 p3 p4 p5 p6 p7 p8 p9 p10 hts
    go_enter Tryz.func58, Tryz.ntmps58
    go_wp2_with (go_at_call 114; refine HC.out.mono ?_; rintro e w1 ⟨rfl, hB1⟩; rw [hb]; obtain ⟨c0, c1, c2, c3, c4, c5⟩ := HN.out.below hB1)
    go_wp2_with (first | (go_at_call 125; refine (HT.out w1 (HI.out.below hB1)).mono ?_; rintro e w2 ⟨rfl, hB2⟩) | (go_at_call 110; refine (HQ.out w2).mono ?_; rintro e w3 ⟨rfl, hB3⟩))
    go_ret
    have b1 := HB.out.trans (hB1.mono HB.out.size)
    have b2 := b1.trans (hB2.mono b1.size)
    exact ⟨ret_val (by rw [hr.out]; rfl), b2.trans (hB3.mono b2.size)⟩

set_option maxHeartbeats 1000000 in
theorem implIdOf_any (a s k : Int) (key text : ByteArray) (u : Option Addr) (len cap : Nat) (S : Nat → ByteArray) (w : World) (h : IsStrs w u len cap S) (hS : ∀ i, i < len → (S i).size ≤ 9223372036854775807) (hkey : key.size ≤ 9223372036854775807) (htext : text.size ≤ 9223372036854775807) (hP : AllT w) :
    Calls Tryz.prog 56 #[.agg #[.int .i64 a, .int .i64 s, .int .i64 k, .string key, .string text, .slice u len cap]] w fun e w' => e = .returned (.string (idR a s k key text S len)) ∧ Below w.heap.size w w' := by
  have HB : Hid (Below w.heap.size w (w.alloc (.cells #[.int .i64 a, .int .i64 s, .int .i64 k, .string key, .string text, .slice u len cap] 50))) := (Below.refl _ _).alloc (Nat.le_refl _) _
  have HT : Hid (AllT (w.alloc (.cells #[.int .i64 a, .int .i64 s, .int .i64 k, .string key, .string text, .slice u len cap] 50))) := hP.below ((Below.refl _ _).alloc (Nat.le_refl _) _)
  have HC : Hid (Calls Tryz.prog 54 #[.agg #[.int .i64 a, .int .i64 s, .int .i64 k, .string key, .string text, .slice u len cap]] (w.alloc (.cells #[.int .i64 a, .int .i64 s, .int .i64 k, .string key, .string text, .slice u len cap] 50)) fun e w' => e = .returned (.string (textR a s k key text S len)) ∧ Below (w.alloc (.cells #[.int .i64 a, .int .i64 s, .int .i64 k, .string key, .string text, .slice u len cap] 50)).heap.size (w.alloc (.cells #[.int .i64 a, .int .i64 s, .int .i64 k, .string key, .string text, .slice u len cap] 50)) w') := implNodeText_any a s k key text u len cap S _ (h.below ((Below.refl _ _).alloc (Nat.le_refl _) _)) hS hkey htext HT.out.p
  have he := empty_list
  clear h hS hkey htext hP
  cases hb : nodeB a s k key text S len with
  | false =>
    have hr : Hid (idR a s k key text S len = ⟨#[]⟩) := by show _ = _; unfold idR; rw [hb]; rfl
    have ht : textR a s k key text S len = ⟨#[]⟩ := by unfold textR; rw [hb]; rfl
    rw [ht] at HC
    go_enter Tryz.func56, Tryz.ntmps56
    go_wp2_with (go_at_call 54; refine HC.out.mono ?_; rintro e w1 ⟨rfl, hB1⟩)
    go_ret
    exact ⟨ret_val (by rw [hr.out]; rfl), HB.out.trans (hB1.mono HB.out.size)⟩
  | true =>
    have hts := text_size hb
    have hr : Hid (idR a s k key text S len = sumT (upsB (headB a.toNat s.toNat k.toNat key text) S len)) := by show _ = _; unfold idR; rw [if_pos hb]
    have ht : textR a s k key text S len = upsB (headB a.toNat s.toNat k.toNat key text) S len := by unfold textR; rw [if_pos hb]
    rw [ht] at HC
    generalize upsB (headB a.toNat s.toNat k.toNat key text) S len = tx at *
    have hne : tx.toList.isEmpty = false := by
      have h0 := hts.2
      rw [ByteArray.toList_eq]
      cases hq : tx.data.toList with
      | nil =>
        have : tx.data.size = 0 := by rw [← Array.length_toList, hq]; rfl
        have h1 : tx.size = tx.data.size := rfl
        omega
      | cons a l => rfl
    have HQ : Hid (∀ v : World, AllT v → Calls Tryz.prog 61 #[.string tx] v fun e w' => e = .returned (.string (sumT tx)) ∧ Below v.heap.size v w') := fun v hv => implSumText_any tx hts.1 v hv.t
    clear hts ht
    go_enter Tryz.func56, Tryz.ntmps56
    go_wp2_with (go_at_call 54; refine HC.out.mono ?_; rintro e w1 ⟨rfl, hB1⟩)
    go_wp2_with (go_at_call 61; refine (HQ.out w1 (HT.out.below hB1)).mono ?_; rintro e w2 ⟨rfl, hB2⟩)
    go_ret
    have b1 := HB.out.trans (hB1.mono HB.out.size)
    exact ⟨ret_val (by rw [hr.out]; rfl), b1.trans (hB2.mono b1.size)⟩

end Go.Proofs.YtlibipbpaigmdaaGreatDoor
