/-
  The program's NodeText. No condition but that the ups read, lengths, and the library's table of powers of ten.
-/
import Derived.Test.YtlibipbpaigmdaaGreatDoorNT2
namespace Go.Proofs.YtlibipbpaigmdaaGreatDoor
open Go.RowKit
set_option linter.unusedVariables false

theorem lineOf_b (word v : ByteArray) (h1 : word.size ≤ 1000) (h2 : v.size ≤ 10000000) (w : World) :
    Calls Tryz.prog 122 #[.string word, .string v] w fun e w' => e = .returned (.string (lineB word v)) ∧ Below w.heap.size w w' := by
  refine (lineOf_any word v h1 h2 w).mono ?_
  rintro e w' ⟨rfl, rfl⟩
  exact ⟨rfl, Below.refl _ _⟩

set_option maxRecDepth 10000 in
set_option maxHeartbeats 2000000 in
theorem implNodeText_any (a s k : Int) (key text : ByteArray) (u : Option Addr) (len cap : Nat) (S : Nat → ByteArray) (w : World) (h : IsStrs w u len cap S) (hS : ∀ i, i < len → (S i).size ≤ 9223372036854775807) (hkey : key.size ≤ 9223372036854775807) (htext : text.size ≤ 9223372036854775807) (hP : Pow w) :
    Calls Tryz.prog 54 #[.agg #[.int .i64 a, .int .i64 s, .int .i64 k, .string key, .string text, .slice u len cap]] w fun e w' => e = .returned (.string (textR a s k key text S len)) ∧ Below w.heap.size w w' := by
  have HB : Hid (Below w.heap.size w (w.alloc (.cells #[.int .i64 a, .int .i64 s, .int .i64 k, .string key, .string text, .slice u len cap] 50))) := (Below.refl _ _).alloc (Nat.le_refl _) _
  have HN : Hid (NodeAt (w.alloc (.cells #[.int .i64 a, .int .i64 s, .int .i64 k, .string key, .string text, .slice u len cap] 50)) w.heap.size a s k key text (.slice u len cap)) := NodeAt.new _ _ _ _ _ _ _ _
  have HI : Hid (IsStrs (w.alloc (.cells #[.int .i64 a, .int .i64 s, .int .i64 k, .string key, .string text, .slice u len cap] 50)) u len cap S) := h.below ((Below.refl _ _).alloc (Nat.le_refl _) _)
  have HP : Hid (Pow (w.alloc (.cells #[.int .i64 a, .int .i64 s, .int .i64 k, .string key, .string text, .slice u len cap] 50))) := hP.below ((Below.refl _ _).alloc (Nat.le_refl _) _)
  have HC : Hid (Calls Tryz.prog 59 #[.agg #[.int .i64 a, .int .i64 s, .int .i64 k, .string key, .string text, .slice u len cap]] (w.alloc (.cells #[.int .i64 a, .int .i64 s, .int .i64 k, .string key, .string text, .slice u len cap] 50)) fun e w' => e = .returned (.bool (nodeB a s k key text S len)) ∧ Below (w.alloc (.cells #[.int .i64 a, .int .i64 s, .int .i64 k, .string key, .string text, .slice u len cap] 50)).heap.size (w.alloc (.cells #[.int .i64 a, .int .i64 s, .int .i64 k, .string key, .string text, .slice u len cap] 50)) w') := implNodeOk_any a s k key text u len cap S _ (h.below ((Below.refl _ _).alloc (Nat.le_refl _) _)) hS hkey htext
  clear h hS hkey htext hP
  cases hb : nodeB a s k key text S len with
  | false =>
    have hr : Hid (textR a s k key text S len = ⟨#[]⟩) := by show _ = _; unfold textR; rw [hb]; rfl
    go_enter Tryz.func54, Tryz.ntmps54
    go_wp2_with (go_at_call 59; refine HC.out.mono ?_; rintro e w1 ⟨rfl, hB1⟩; rw [hb])
    go_ret
    exact ⟨ret_val (by rw [hr.out]; rfl), HB.out.trans (hB1.mono HB.out.size)⟩
  | true =>
    have hr : Hid (textR a s k key text S len = upsB (headB a.toNat s.toNat k.toNat key text) S len) := by show _ = _; unfold textR; rw [if_pos hb]
    obtain ⟨⟨p1, p2⟩, ⟨p3, p4⟩, ⟨p5, p6⟩, p7, p8, p9, p10⟩ := node_right hb
    obtain ⟨na, rfl⟩ : ∃ n : Nat, a = n := ⟨a.toNat, by omega⟩
    obtain ⟨ns, rfl⟩ : ∃ n : Nat, s = n := ⟨s.toNat, by omega⟩
    obtain ⟨nk, rfl⟩ : ∃ n : Nat, k = n := ⟨k.toNat, by omega⟩
    rw [show ((na : Int)).toNat = na from rfl, show ((ns : Int)).toNat = ns from rfl, show ((nk : Int)).toNat = nk from rfl] at hr
    have z1 := decB_size na
    have z2 := decB_size ns
    have z3 := decB_size nk
    have D1 : Hid (∀ v : World, Pow v → Calls Tryz.prog 121 #[.string (ByteArray.mk #[97, 117, 116, 104, 111, 114]), .int .i64 (na : Int)] v fun e w' => e = .returned (.string (lineB (ByteArray.mk #[97, 117, 116, 104, 111, 114]) (decB na))) ∧ Below v.heap.size v w') := fun v hv => lineOfNumber_any _ na (by decide) (by omega) v hv
    have D2 : Hid (∀ v : World, Pow v → Calls Tryz.prog 121 #[.string (ByteArray.mk #[115, 101, 113]), .int .i64 (ns : Int)] v fun e w' => e = .returned (.string (lineB (ByteArray.mk #[115, 101, 113]) (decB ns))) ∧ Below v.heap.size v w') := fun v hv => lineOfNumber_any _ ns (by decide) (by omega) v hv
    have D3 : Hid (∀ v : World, Pow v → Calls Tryz.prog 121 #[.string (ByteArray.mk #[107, 105, 110, 100]), .int .i64 (nk : Int)] v fun e w' => e = .returned (.string (lineB (ByteArray.mk #[107, 105, 110, 100]) (decB nk))) ∧ Below v.heap.size v w') := fun v hv => lineOfNumber_any _ nk (by decide) (by omega) v hv
    have D4 : Hid (∀ v : World, Calls Tryz.prog 122 #[.string (ByteArray.mk #[107, 101, 121]), .string key] v fun e w' => e = .returned (.string (lineB (ByteArray.mk #[107, 101, 121]) key)) ∧ Below v.heap.size v w') := fun v => lineOf_b _ key (by decide) (by omega) v
    have D5 : Hid (∀ v : World, Calls Tryz.prog 122 #[.string (ByteArray.mk #[116, 101, 120, 116]), .string text] v fun e w' => e = .returned (.string (lineB (ByteArray.mk #[116, 101, 120, 116]) text)) ∧ Below v.heap.size v w') := fun v => lineOf_b _ text (by decide) (by omega) v
    have y1 := lineB_size (ByteArray.mk #[97, 117, 116, 104, 111, 114]) (decB na)
    have y2 := lineB_size (ByteArray.mk #[115, 101, 113]) (decB ns)
    have y3 := lineB_size (ByteArray.mk #[107, 105, 110, 100]) (decB nk)
    have y4 := lineB_size (ByteArray.mk #[107, 101, 121]) key
    have y5 := lineB_size (ByteArray.mk #[116, 101, 120, 116]) text
    rw [show (ByteArray.mk #[97, 117, 116, 104, 111, 114]).size = 6 from rfl] at y1
    rw [show (ByteArray.mk #[115, 101, 113]).size = 3 from rfl] at y2
    rw [show (ByteArray.mk #[107, 105, 110, 100]).size = 4 from rfl] at y3
    rw [show (ByteArray.mk #[107, 101, 121]).size = 3 from rfl] at y4
    rw [show (ByteArray.mk #[116, 101, 120, 116]).size = 4 from rfl] at y5
    have HH : headB na ns nk key text = ((lineB (ByteArray.mk #[97, 117, 116, 104, 111, 114]) (decB na) ++ lineB (ByteArray.mk #[115, 101, 113]) (decB ns)) ++ lineB (ByteArray.mk #[107, 105, 110, 100]) (decB nk)) ++ (lineB (ByteArray.mk #[107, 101, 121]) key ++ lineB (ByteArray.mk #[116, 101, 120, 116]) text) := rfl
    have HHS := headB_size na ns nk key text
    generalize lineB (ByteArray.mk #[97, 117, 116, 104, 111, 114]) (decB na) = e1 at *
    generalize lineB (ByteArray.mk #[115, 101, 113]) (decB ns) = e2 at *
    generalize lineB (ByteArray.mk #[107, 105, 110, 100]) (decB nk) = e3 at *
    generalize lineB (ByteArray.mk #[107, 101, 121]) key = e4 at *
    generalize lineB (ByteArray.mk #[116, 101, 120, 116]) text = e5 at *
    have a1 := add_ok (a := e1) (b := e2) (by omega)
    have a2 := add_ok (a := e1 ++ e2) (b := e3) (by rw [ByteArray.size_append]; omega)
    have a3 := add_ok (a := e4) (b := e5) (by omega)
    have a4 := add_ok (a := (e1 ++ e2) ++ e3) (b := e4 ++ e5) (by rw [ByteArray.size_append, ByteArray.size_append, ByteArray.size_append]; omega)
    obtain ⟨hd, hhd⟩ : ∃ hd, hd = headB na ns nk key text := ⟨_, rfl⟩
    rw [← hhd] at HH hr HHS
    have HE : Hid (_) := HH
    have HZ : Hid (hd.size ≤ 10000000 ∧ (∀ i, i < len → (S i).size = 64) ∧ len ≤ 5) := ⟨by omega, p10, p9⟩
    clear p1 p2 p3 p4 p5 p6 p7 p8 p9 p10 z1 z2 z3 y1 y2 y3 y4 y5 HH HHS hhd
    go_enter Tryz.func54, Tryz.ntmps54
    go_wp2_with (go_at_call 59; refine HC.out.mono ?_; rintro e w1 ⟨rfl, hB1⟩; rw [hb])
    have nb := HN.out.below hB1
    have hP1 := HP.out.below hB1
    have q0 : ∀ t : Later w1, t.val.cell? ⟨w.heap.size, 0, none⟩ = some (.int .i64 (na : Int)) := fun t => (nb.below t.ok).c0
    have q1 : ∀ t : Later w1, t.val.cell? ⟨w.heap.size, 1, none⟩ = some (.int .i64 (ns : Int)) := fun t => (nb.below t.ok).c1
    have q2 : ∀ t : Later w1, t.val.cell? ⟨w.heap.size, 2, none⟩ = some (.int .i64 (nk : Int)) := fun t => (nb.below t.ok).c2
    have hne := Later.any w1
    have HP1 : Hid (∀ t : Later w1, Pow t.val) := fun t => hP1.below t.ok
    have HNb : Hid (NodeAt w1 w.heap.size (na : Int) (ns : Int) (nk : Int) key text (.slice u len cap)) := nb
    have HB1 : Hid (Below w.heap.size w w1) := HB.out.trans (hB1.mono HB.out.size)
    have HI1 : Hid (IsStrs w1 u len cap S) := HI.out.below hB1
    clear nb hP1 hB1 HC HN HP HI HB
    refine wp_region_later (by kernel_rfl) (by kernel_rfl) ?_
    iterate 3 (go_big_quiet_step ((rename_i t; exact Calls.later (D1.out _ (HP1.out t)))))
    iterate 3 (go_big_quiet_step ((rename_i t; exact Calls.later (D2.out _ (HP1.out t)))))
    repeat (go_big_quiet_step ((rename_i t; exact Calls.later (D3.out _ (HP1.out t)))))
    refine wpQuiet_nil ?_
    rintro w2 ⟨⟨w2', hB2'⟩, hw⟩
    have hB2 : Below w1.heap.size w1 w2 := by rw [hw]; exact hB2'
    clear hw hB2' w2' q0 q1 q2 hne
    have nc := HNb.out.below hB2
    have q3 : ∀ t : Later w2, t.val.cell? ⟨w.heap.size, 3, none⟩ = some (.string key) := fun t => (nc.below t.ok).c3
    have q4 : ∀ t : Later w2, t.val.cell? ⟨w.heap.size, 4, none⟩ = some (.string text) := fun t => (nc.below t.ok).c4
    have hne := Later.any w2
    have HNc : Hid (NodeAt w2 w.heap.size (na : Int) (ns : Int) (nk : Int) key text (.slice u len cap)) := nc
    have HB2 : Hid (Below w.heap.size w w2) := HB1.out.trans (hB2.mono HB1.out.size)
    have HI2 : Hid (IsStrs w2 u len cap S) := HI1.out.below hB2
    clear nc hB2
    go_wp2
    refine wp_region_later (by kernel_rfl) (by kernel_rfl) ?_
    iterate 4 (go_big_quiet_step ((exact Calls.later (D4.out _))))
    repeat (go_big_quiet_step ((exact Calls.later (D5.out _))))
    refine wpQuiet_nil ?_
    rintro w3 ⟨⟨w3', hB3'⟩, hw⟩
    have hB3 : Below w2.heap.size w2 w3 := by rw [hw]; exact hB3'
    clear hw hB3' w3' q3 q4 hne a1 a2 a3 a4
    rw [← HE.out]
    have c5 := (HNc.out.below hB3).c5
    have hI3 := HI2.out.below hB3
    have HB3 : Hid (Below w.heap.size w w3) := HB2.out.trans (hB3.mono HB2.out.size)
    clear hB3
    obtain ⟨hlc, hcm, hc⟩ := hI3
    go_wp2
    go_loop [3, 32] (fun t i => ∃ j : Nat, j ≤ len ∧ i = .int .i64 j ∧ t = .string (upsB hd S j)) (fun _ i => len - (intOf i).toNat)
    case atStart => exact ⟨0, Nat.zero_le _, rfl, rfl⟩
    case round =>
      obtain ⟨j, hj, rfl, rfl⟩ := hrel
      have hus := upsB_size hd S j (fun i hi => HZ.out.2.1 i (by omega))
      by_cases hlt : j < len
      · obtain ⟨b, off, rfl, hbs, hcell⟩ := hc (by omega)
        have g1 := hcell j hlt
        have hltI : (j : Int) < (len : Int) := by omega
        have hz := HZ.out.1
        have hz2 := HZ.out.2.2
        have hsj := HZ.out.2.1 j hlt
        have HU : Hid (upsB hd S (j + 1) = upsB hd S j ++ lineB (ByteArray.mk #[117, 112]) (S j)) := rfl
        have hls := lineB_size (ByteArray.mk #[117, 112]) (S j)
        rw [show (ByteArray.mk #[117, 112]).size = 2 from rfl] at hls
        have D6 : Hid (∀ v : World, Calls Tryz.prog 122 #[.string (ByteArray.mk #[117, 112]), .string (S j)] v fun e w' => e = .returned (.string (lineB (ByteArray.mk #[117, 112]) (S j))) ∧ w' = v) := fun v => lineOf_any _ (S j) (by decide) (by omega) v
        have a5 := add_ok (a := upsB hd S j) (b := lineB (ByteArray.mk #[117, 112]) (S j)) (by omega)
        clear hcell hc hus hz hz2 hsj hls
        generalize upsB hd S j = tt at *
        generalize lineB (ByteArray.mk #[117, 112]) (S j) = uu at *
        go_wp2_with (go_at_call 122; refine (D6.out _).mono ?_; rintro e w4 ⟨rfl, rfl⟩)
        go_round
        case rel => exact ⟨j + 1, by omega, by go_num, by rw [HU.out]⟩
        case measure => simp [intOf]; omega
      · have hje : j = len := by omega
        subst hje
        clear hc hus
        go_wp2
        go_ret
        exact ⟨ret_val (by rw [hr.out]; rfl), HB3.out⟩
end Go.Proofs.YtlibipbpaigmdaaGreatDoor
