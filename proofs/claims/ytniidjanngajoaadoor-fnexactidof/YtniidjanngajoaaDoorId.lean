/-
  IdOf, the program's and the specification's, answer the same text, and its law returns true. Conditions: that the ups read, lengths, and the tables.
-/
import Derived.Test.YtniidjanngajoaaDoorNT4
import Derived.Test.YtniidjanngajoaaDoorTxt2
namespace Go.Proofs.YtniidjanngajoaaDoor
open Go.RowKit
set_option linter.unusedVariables false

/-- what both answer -/
def idR (a s k : Int) (key text : ByteArray) (S : Nat → ByteArray) (len : Nat) : ByteArray := if nodeB a s k key text S len = true then sumT (upsB (headB a.toNat s.toNat k.toNat key text) S len) else ⟨#[]⟩

theorem decB_size7 (n : Nat) (h : n ≤ 1000000) : (decB n).size ≤ 7 := by
  have step : ∀ m c, (∀ n, n ≤ m → (decB n).size ≤ c) → ∀ n, n ≤ 10 * m + 9 → (decB n).size ≤ c + 1 := by
    intro m c hm n hn
    by_cases h : n < 10
    · rw [decB_one h, dgI_size]; omega
    · have := hm (n / 10) (by omega)
      rw [decB_more h, ByteArray.size_append, dgI_size]
      omega
  have s1 : ∀ n, n ≤ 9 → (decB n).size ≤ 1 := fun n hn => by rw [decB_one (by omega), dgI_size]; omega
  have s2 := step 9 1 s1
  have s3 := step 99 2 s2
  have s4 := step 999 3 s3
  have s5 := step 9999 4 s4
  have s6 := step 99999 5 s5
  have s7 := step 999999 6 s6
  exact s7 n (by omega)

theorem text_size {a s k : Int} {key text : ByteArray} {S : Nat → ByteArray} {len : Nat} (h : nodeB a s k key text S len = true) : (upsB (headB a.toNat s.toNat k.toNat key text) S len).size ≤ 1048576 ∧ 0 < (upsB (headB a.toNat s.toNat k.toNat key text) S len).size := by
  obtain ⟨⟨p1, p2⟩, ⟨p3, p4⟩, ⟨p5, p6⟩, p7, p8, p9, p10⟩ := node_right h
  have z1 := decB_size a.toNat
  have z3 := decB_size k.toNat
  have z2 := decB_size7 s.toNat (by omega)
  rw [upsB_size _ _ _ p10, headB_size]
  omega

/-- the tables that IdOf reads -/
structure AllT (w : World) : Prop where
  t : Tabs w
  p : Pow w
theorem AllT.below {w w' : World} (h : AllT w) (hB : Below w.heap.size w w') : AllT w' := ⟨h.t.below hB, h.p.below hB⟩

set_option maxHeartbeats 1000000 in
theorem specIdOf_any (a s k : Int) (key text : ByteArray) (u : Option Addr) (len cap : Nat) (S : Nat → ByteArray) (w : World) (h : IsStrs w u len cap S) (hS : ∀ i, i < len → (S i).size ≤ 9223372036854775807) (hkey : key.size ≤ 9223372036854775807) (htext : text.size ≤ 9223372036854775807) :
    Calls Tryd.prog 20 #[.agg #[.int .i64 a, .int .i64 s, .int .i64 k, .string key, .string text, .slice u len cap]] w fun e w' => e = .returned (.string (idR a s k key text S len)) ∧ Below w.heap.size w w' := by
  have HB : Hid (Below w.heap.size w (w.alloc (.cells #[.int .i64 a, .int .i64 s, .int .i64 k, .string key, .string text, .slice u len cap] 29))) := (Below.refl _ _).alloc (Nat.le_refl _) _
  have HN : Hid (NodeAt (w.alloc (.cells #[.int .i64 a, .int .i64 s, .int .i64 k, .string key, .string text, .slice u len cap] 29)) w.heap.size a s k key text (.slice u len cap)) := NodeAt.new _ _ _ _ _ _ _ _
  have HI : Hid (IsStrs (w.alloc (.cells #[.int .i64 a, .int .i64 s, .int .i64 k, .string key, .string text, .slice u len cap] 29)) u len cap S) := h.below ((Below.refl _ _).alloc (Nat.le_refl _) _)
  have HC : Hid (Calls Tryd.prog 14 #[.agg #[.int .i64 a, .int .i64 s, .int .i64 k, .string key, .string text, .slice u len cap]] (w.alloc (.cells #[.int .i64 a, .int .i64 s, .int .i64 k, .string key, .string text, .slice u len cap] 29)) fun e w' => e = .returned (.bool (nodeB a s k key text S len)) ∧ Below (w.alloc (.cells #[.int .i64 a, .int .i64 s, .int .i64 k, .string key, .string text, .slice u len cap] 29)).heap.size (w.alloc (.cells #[.int .i64 a, .int .i64 s, .int .i64 k, .string key, .string text, .slice u len cap] 29)) w') := specNodeOk_any a s k key text u len cap S _ (h.below ((Below.refl _ _).alloc (Nat.le_refl _) _)) hS hkey htext
  clear h hS hkey htext
  cases hb : nodeB a s k key text S len with
  | false =>
    have hr : Hid (idR a s k key text S len = ⟨#[]⟩) := by show _ = _; unfold idR; rw [hb]; rfl
    go_enter Tryd.func20, Tryd.ntmps20
    go_wp2_with (go_at_call 14; refine HC.out.mono ?_; rintro e w1 ⟨rfl, hB1⟩; rw [hb])
    go_ret
    exact ⟨ret_val (by rw [hr.out]; rfl), HB.out.trans (hB1.mono HB.out.size)⟩
  | true =>
    have hr : Hid (idR a s k key text S len = sumT (upsB (headB a.toNat s.toNat k.toNat key text) S len)) := by show _ = _; unfold idR; rw [if_pos hb]
    have hts := text_size hb
    obtain ⟨⟨p1, p2⟩, ⟨p3, p4⟩, ⟨p5, p6⟩, p7, p8, p9, p10⟩ := node_right hb
    obtain ⟨na, rfl⟩ : ∃ n : Nat, a = n := ⟨a.toNat, by omega⟩
    obtain ⟨ns, rfl⟩ : ∃ n : Nat, s = n := ⟨s.toNat, by omega⟩
    obtain ⟨nk, rfl⟩ : ∃ n : Nat, k = n := ⟨k.toNat, by omega⟩
    have HT : Hid (∀ v : World, IsStrs v u len cap S → Calls Tryd.prog 42 #[.agg #[.int .i64 (na : Int), .int .i64 (ns : Int), .int .i64 (nk : Int), .string key, .string text, .slice u len cap]] v fun e w' => e = .returned (.string (upsB (headB na ns nk key text) S len)) ∧ Below v.heap.size v w') := fun v hv => l6Text_any na ns nk key text u len cap S (by omega) (by omega) (by omega) p7 p8 p9 p10 v hv
    rw [show ((na : Int)).toNat = na from rfl, show ((ns : Int)).toNat = ns from rfl, show ((nk : Int)).toNat = nk from rfl] at hr hts
    generalize upsB (headB na ns nk key text) S len = tx at *
    have HQ : Hid (∀ v : World, Calls Tryd.prog 11 #[.string tx] v fun e w' => e = .returned (.string (sumT tx)) ∧ Below v.heap.size v w') := fun v => specSumText_any tx hts.1 v
    clear p1 p2 p3 p4 p5 p6 p7 p8 p9 p10 hts
    go_enter Tryd.func20, Tryd.ntmps20
    go_wp2_with (go_at_call 14; refine HC.out.mono ?_; rintro e w1 ⟨rfl, hB1⟩; rw [hb]; obtain ⟨c0, c1, c2, c3, c4, c5⟩ := HN.out.below hB1)
    go_wp2_with (first | (go_at_call 42; refine (HT.out w1 (HI.out.below hB1)).mono ?_; rintro e w2 ⟨rfl, hB2⟩) | (go_at_call 11; refine (HQ.out w2).mono ?_; rintro e w3 ⟨rfl, hB3⟩))
    go_ret
    have b1 := HB.out.trans (hB1.mono HB.out.size)
    have b2 := b1.trans (hB2.mono b1.size)
    exact ⟨ret_val (by rw [hr.out]; rfl), b2.trans (hB3.mono b2.size)⟩

set_option maxHeartbeats 1000000 in
theorem implIdOf_any (a s k : Int) (key text : ByteArray) (u : Option Addr) (len cap : Nat) (S : Nat → ByteArray) (w : World) (h : IsStrs w u len cap S) (hS : ∀ i, i < len → (S i).size ≤ 9223372036854775807) (hkey : key.size ≤ 9223372036854775807) (htext : text.size ≤ 9223372036854775807) (hP : AllT w) :
    Calls Tryd.prog 21 #[.agg #[.int .i64 a, .int .i64 s, .int .i64 k, .string key, .string text, .slice u len cap]] w fun e w' => e = .returned (.string (idR a s k key text S len)) ∧ Below w.heap.size w w' := by
  have HB : Hid (Below w.heap.size w (w.alloc (.cells #[.int .i64 a, .int .i64 s, .int .i64 k, .string key, .string text, .slice u len cap] 29))) := (Below.refl _ _).alloc (Nat.le_refl _) _
  have HT : Hid (AllT (w.alloc (.cells #[.int .i64 a, .int .i64 s, .int .i64 k, .string key, .string text, .slice u len cap] 29))) := hP.below ((Below.refl _ _).alloc (Nat.le_refl _) _)
  have HC : Hid (Calls Tryd.prog 19 #[.agg #[.int .i64 a, .int .i64 s, .int .i64 k, .string key, .string text, .slice u len cap]] (w.alloc (.cells #[.int .i64 a, .int .i64 s, .int .i64 k, .string key, .string text, .slice u len cap] 29)) fun e w' => e = .returned (.string (textR a s k key text S len)) ∧ Below (w.alloc (.cells #[.int .i64 a, .int .i64 s, .int .i64 k, .string key, .string text, .slice u len cap] 29)).heap.size (w.alloc (.cells #[.int .i64 a, .int .i64 s, .int .i64 k, .string key, .string text, .slice u len cap] 29)) w') := implNodeText_any a s k key text u len cap S _ (h.below ((Below.refl _ _).alloc (Nat.le_refl _) _)) hS hkey htext HT.out.p
  have he := empty_list
  clear h hS hkey htext hP
  cases hb : nodeB a s k key text S len with
  | false =>
    have hr : Hid (idR a s k key text S len = ⟨#[]⟩) := by show _ = _; unfold idR; rw [hb]; rfl
    have ht : textR a s k key text S len = ⟨#[]⟩ := by unfold textR; rw [hb]; rfl
    rw [ht] at HC
    go_enter Tryd.func21, Tryd.ntmps21
    go_wp2_with (go_at_call 19; refine HC.out.mono ?_; rintro e w1 ⟨rfl, hB1⟩)
    go_ret
    exact ⟨ret_val (by rw [hr.out]; rfl), HB.out.trans (hB1.mono HB.out.size)⟩
  | true =>
    have hts := text_size hb
    have hr : Hid (idR a s k key text S len = sumT (upsB (headB a.toNat s.toNat k.toNat key text) S len)) := by show _ = _; unfold idR; rw [if_pos hb]
    have ht : textR a s k key text S len = upsB (headB a.toNat s.toNat k.toNat key text) S len := by unfold textR; rw [if_pos hb]
    rw [ht] at HC
    generalize upsB (headB a.toNat s.toNat k.toNat key text) S len = tx at *
    have hne : tx.toList.isEmpty = false := by
      have h0 := hts.2
      rw [ByteArray.toList_eq]
      cases hq : tx.data.toList with
      | nil =>
        have : tx.data.size = 0 := by rw [← Array.length_toList, hq]; rfl
        have h1 : tx.size = tx.data.size := rfl
        omega
      | cons a l => rfl
    have HQ : Hid (∀ v : World, AllT v → Calls Tryd.prog 12 #[.string tx] v fun e w' => e = .returned (.string (sumT tx)) ∧ Below v.heap.size v w') := fun v hv => implSumText_any tx hts.1 v hv.t
    clear hts ht
    go_enter Tryd.func21, Tryd.ntmps21
    go_wp2_with (go_at_call 19; refine HC.out.mono ?_; rintro e w1 ⟨rfl, hB1⟩)
    go_wp2_with (go_at_call 12; refine (HQ.out w1 (HT.out.below hB1)).mono ?_; rintro e w2 ⟨rfl, hB2⟩)
    go_ret
    have b1 := HB.out.trans (hB1.mono HB.out.size)
    exact ⟨ret_val (by rw [hr.out]; rfl), b1.trans (hB2.mono b1.size)⟩

set_option maxHeartbeats 2000000 in
theorem law7_walk (a s k : Int) (key text : ByteArray) (u : Option Addr) (len cap : Nat) (S : Nat → ByteArray) (w : World) (h : IsStrs w u len cap S) (hS : ∀ i, i < len → (S i).size ≤ 9223372036854775807) (hkey : key.size ≤ 9223372036854775807) (htext : text.size ≤ 9223372036854775807) (hP : AllT w) :
    Calls Tryd.prog 7 #[.agg #[.int .i64 a, .int .i64 s, .int .i64 k, .string key, .string text, .slice u len cap]] w fun e w' => e = .returned (.bool true) ∧ Below w.heap.size w w' := by
  obtain ⟨wa, hwa⟩ : ∃ wa, wa = w.alloc (.cells #[.int .i64 a, .int .i64 s, .int .i64 k, .string key, .string text, .slice u len cap] 26) := ⟨_, rfl⟩
  have na : NodeAt wa w.heap.size a s k key text (.slice u len cap) := by rw [hwa]; exact NodeAt.new _ _ _ _ _ _ _ _
  have hBa : Below w.heap.size w wa := by rw [hwa]; exact (Below.refl _ _).alloc (Nat.le_refl _) _
  have ha := h.below hBa
  have HA : Hid (NodeAt wa w.heap.size a s k key text (.slice u len cap)) := na
  have HP : Hid (AllT w) := hP
  clear na h hP
  go_enter Tryd.func7, Tryd.ntmps7
  go_wp2_with fail
  rw [← hwa]
  clear hwa
  refine (szNode_any a s k key text u len cap S _ ha hS hkey htext).mono ?_
  rintro e w1 ⟨r, rfl, hr, hB1⟩
  have b1 := hBa.trans (hB1.mono hBa.size)
  rcases hr with hr | ⟨hr, hk1, ht1, hl, hz⟩
  · go_wp2
    go_ret
    exact ⟨rfl, b1⟩
  have H1 := ha.below hB1
  have n1 := HA.out.below hB1
  obtain ⟨c0, c1, c2, c3, c4, c5⟩ := n1
  have HN1 : Hid (NodeAt w1 w.heap.size a s k key text (.slice u len cap)) := HA.out.below hB1
  have HZ : Hid (∀ i, i < len → (S i).size ≤ 9223372036854775807) := hS
  have HKT : Hid (key.size ≤ 9223372036854775807 ∧ text.size ≤ 9223372036854775807) := ⟨hkey, htext⟩
  clear hS hz hkey htext hB1 ha
  go_wp2_with fail
  refine (toNode_any a s k key text u len cap S _ H1 hl).mono ?_
  rintro e w2 ⟨g2, rfl, i2, hB2⟩
  have HN2 : Hid (NodeAt w2 w.heap.size a s k key text (.slice u len cap)) := HN1.out.below hB2
  have H2 := H1.below hB2
  have b2 := b1.trans (hB2.mono b1.size)
  clear c0 c1 c2 c3 c4 c5
  go_wp2_with fail
  refine (specIdOf_any a s k key text _ len len S _ i2 HZ.out HKT.out.1 HKT.out.2).mono ?_
  rintro e w3 ⟨rfl, hB3⟩
  have HN3 : Hid (NodeAt w3 w.heap.size a s k key text (.slice u len cap)) := HN2.out.below hB3
  have H3 := H2.below hB3
  have b3 := b2.trans (hB3.mono b2.size)
  obtain ⟨c0, c1, c2, c3, c4, c5⟩ := HN3.out
  go_wp2_with fail
  refine (toNode_any a s k key text u len cap S _ H3 hl).mono ?_
  rintro e w4 ⟨g4, rfl, i4, hB4⟩
  have HN4 : Hid (NodeAt w4 w.heap.size a s k key text (.slice u len cap)) := HN3.out.below hB4
  have H4 := H3.below hB4
  have b4 := b3.trans (hB4.mono b3.size)
  clear c0 c1 c2 c3 c4 c5
  go_wp2_with fail
  obtain ⟨wb, hwb⟩ : ∃ wb, wb = w4.alloc (.cells #[.int .i64 a, .int .i64 s, .int .i64 k, .string key, .string text, .slice (some ⟨g4, 0, none⟩) len len] 29) := ⟨_, rfl⟩
  rw [← hwb]
  have hBb : Below w4.heap.size w4 wb := by rw [hwb]; exact (Below.refl _ _).alloc (Nat.le_refl _) _
  have HNb : Hid (NodeAt wb w4.heap.size a s k key text (.slice (some ⟨g4, 0, none⟩) len len)) := by rw [hwb]; exact NodeAt.new _ _ _ _ _ _ _ _
  clear hwb
  refine (implIdOf_any a s k key text _ len len S _ (i4.below hBb) HZ.out HKT.out.1 HKT.out.2 (HP.out.below (b4.trans (hBb.mono b4.size)))).mono ?_
  rintro e w5 ⟨rfl, hB5⟩
  have hB45 : Below w4.heap.size w4 w5 := hBb.trans (hB5.mono hBb.size)
  have HNx : Hid (NodeAt w5 w4.heap.size a s k key text (.slice (some ⟨g4, 0, none⟩) len len)) := HNb.out.below hB5
  have HNy : Hid (NodeAt w5 w.heap.size a s k key text (.slice u len cap)) := HN4.out.below hB45
  have HI5 : Hid (IsStrs w5 (some ⟨g4, 0, none⟩) len len S) := i4.below hB45
  have HU5 : Hid (IsStrs w5 u len cap S) := H4.below hB45
  have b5 := b4.trans (hB45.mono b4.size)
  have HB5 : Hid (Below w.heap.size w w5) := b5
  generalize idR a s k key text S len = q
  have hqq : (q.toList != q.toList) = false := by simp
  generalize w4.heap.size = B4 at *
  clear hB45 hB5 hBb b1 b2 b3 b4 b5 hB2 hB3 hB4 H1 H2 H3 H4 i2 i4 hBa
  have HK : Hid (∀ w', Below w5.heap.size w5 w' → (w'.cell? ⟨B4, 0, none⟩ = some (.int .i64 a) ∧ w'.cell? ⟨B4, 1, none⟩ = some (.int .i64 s) ∧ w'.cell? ⟨B4, 2, none⟩ = some (.int .i64 k) ∧ w'.cell? ⟨B4, 3, none⟩ = some (.string key) ∧ w'.cell? ⟨B4, 4, none⟩ = some (.string text) ∧ w'.cell? ⟨B4, 5, none⟩ = some (.slice (some ⟨g4, 0, none⟩) len len) ∧ w'.cell? ⟨w.heap.size, 0, none⟩ = some (.int .i64 a) ∧ w'.cell? ⟨w.heap.size, 1, none⟩ = some (.int .i64 s) ∧ w'.cell? ⟨w.heap.size, 2, none⟩ = some (.int .i64 k) ∧ w'.cell? ⟨w.heap.size, 3, none⟩ = some (.string key) ∧ w'.cell? ⟨w.heap.size, 4, none⟩ = some (.string text) ∧ w'.cell? ⟨w.heap.size, 5, none⟩ = some (.slice u len cap))) := fun w' hB => by
    have n1 := HNx.out.below hB
    have n2 := HNy.out.below hB
    exact ⟨n1.c0, n1.c1, n1.c2, n1.c3, n1.c4, n1.c5, n2.c0, n2.c1, n2.c2, n2.c3, n2.c4, n2.c5⟩
  go_wp2
  go_region_held3 (fun w' => w'.cell? ⟨B4, 0, none⟩ = some (.int .i64 a) ∧ w'.cell? ⟨B4, 1, none⟩ = some (.int .i64 s) ∧ w'.cell? ⟨B4, 2, none⟩ = some (.int .i64 k) ∧ w'.cell? ⟨B4, 3, none⟩ = some (.string key) ∧ w'.cell? ⟨B4, 4, none⟩ = some (.string text) ∧ w'.cell? ⟨B4, 5, none⟩ = some (.slice (some ⟨g4, 0, none⟩) len len) ∧ w'.cell? ⟨w.heap.size, 0, none⟩ = some (.int .i64 a) ∧ w'.cell? ⟨w.heap.size, 1, none⟩ = some (.int .i64 s) ∧ w'.cell? ⟨w.heap.size, 2, none⟩ = some (.int .i64 k) ∧ w'.cell? ⟨w.heap.size, 3, none⟩ = some (.string key) ∧ w'.cell? ⟨w.heap.size, 4, none⟩ = some (.string text) ∧ w'.cell? ⟨w.heap.size, 5, none⟩ = some (.slice u len cap)) (first | exact HK.out _ hBd | exact HK.out _ hBc | exact HK.out _ (Below.refl _ _).drew) ((first
    | (go_at_call 15; refine (toNode_any a s k key text u len cap S _ (HU5.out.below (Below.refl _ _).drew) hl).mono ?_; rintro e w6 ⟨g6, rfl, i6, hB6⟩; have hBc : Below w5.heap.size w5 w6 := ((Below.refl _ _).drew).trans hB6)
    | (go_at_call 17; refine (eqNode_same a s k key text _ _ len len len S _ (HI5.out.below hBc) i6).mono ?_; rintro e w7 ⟨rfl, hB7⟩; have hBd : Below w5.heap.size w5 w7 := hBc.trans (hB7.mono hBc.size))))
  all_goals
    go_wp2
    go_ret
    exact ⟨rfl, HB5.out.trans (hBd.mono HB5.out.size)⟩
end Go.Proofs.YtniidjanngajoaaDoor
