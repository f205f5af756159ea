/-
  The walks of a node's text, the program's and the specification's. No condition but that the ups read and bounds.
-/
import Derived.Test.YtlibipbpaigmdaaGreatDoorNTxt
namespace Go.Proofs.YtlibipbpaigmdaaGreatDoor
open Go.RowKit
set_option linter.unusedVariables false
set_option linter.unusedSimpArgs false

set_option maxRecDepth 10000 in
set_option maxHeartbeats 2000000 in
theorem l6Text_any (a s k : Nat) (key text : ByteArray) (u : Option Addr) (len cap : Nat) (S : Nat → ByteArray) (ha : a ≤ 9) (hs : s ≤ 1000000) (hk : k ≤ 3) (hkey : key.size ≤ 20) (htext : text.size ≤ 20) (hl : len ≤ 5) (hS : ∀ i, i < len → (S i).size = 64) (w : World) (h : IsStrs w u len cap S) :
    Calls Tryz.prog 125 #[.agg #[.int .i64 (a : Int), .int .i64 (s : Int), .int .i64 (k : Int), .string key, .string text, .slice u len cap]] w fun e w' => e = .returned (.string (upsB (headB a s k key text) S len)) ∧ Below w.heap.size w w' := by
  have l0 : (ByteArray.mk #[97, 117, 116, 104, 111, 114, 32]).size = 7 := rfl
  have l1 : (ByteArray.mk #[10, 115, 101, 113, 32]).size = 5 := rfl
  have l2 : (ByteArray.mk #[10, 107, 105, 110, 100, 32]).size = 6 := rfl
  have l3 : (ByteArray.mk #[10, 107, 101, 121, 32]).size = 5 := rfl
  have l4 : (ByteArray.mk #[10, 116, 101, 120, 116, 32]).size = 6 := rfl
  have l5 : (ByteArray.mk #[10]).size = 1 := rfl
  have l6 : (ByteArray.mk #[117, 112, 32]).size = 3 := rfl
  obtain ⟨wa, hwa⟩ : ∃ wa, wa = w.alloc (.cells #[.int .i64 (a : Int), .int .i64 (s : Int), .int .i64 (k : Int), .string key, .string text, .slice u len cap] 50) := ⟨_, rfl⟩
  have na : NodeAt wa w.heap.size a s k key text (.slice u len cap) := by rw [hwa]; exact NodeAt.new _ _ _ _ _ _ _ _
  have hBa : Below w.heap.size w wa := by rw [hwa]; exact (Below.refl _ _).alloc (Nat.le_refl _) _
  have hIa := h.below hBa
  have q0 : ∀ t : Later wa, t.val.cell? ⟨w.heap.size, 0, none⟩ = some (.int .i64 (a : Int)) := fun t => (na.below t.ok).c0
  have q1 : ∀ t : Later wa, t.val.cell? ⟨w.heap.size, 1, none⟩ = some (.int .i64 (s : Int)) := fun t => (na.below t.ok).c1
  have q2 : ∀ t : Later wa, t.val.cell? ⟨w.heap.size, 2, none⟩ = some (.int .i64 (k : Int)) := fun t => (na.below t.ok).c2
  have q3 : ∀ t : Later wa, t.val.cell? ⟨w.heap.size, 3, none⟩ = some (.string key) := fun t => (na.below t.ok).c3
  have q4 : ∀ t : Later wa, t.val.cell? ⟨w.heap.size, 4, none⟩ = some (.string text) := fun t => (na.below t.ok).c4
  have hne := Later.any wa
  have HH := spec_head a s k key text
  have HHS := headB_size a s k key text
  have d1 : ∀ v, Calls Tryz.prog 173 #[.int .i64 (a : Int)] v fun e w' => e = .returned (.string (decB a)) ∧ Below v.heap.size v w' := fun v => l1Dec_any a (by omega) v
  have d2 : ∀ v, Calls Tryz.prog 173 #[.int .i64 (s : Int)] v fun e w' => e = .returned (.string (decB s)) ∧ Below v.heap.size v w' := fun v => l1Dec_any s (by omega) v
  have d3 : ∀ v, Calls Tryz.prog 173 #[.int .i64 (k : Int)] v fun e w' => e = .returned (.string (decB k)) ∧ Below v.heap.size v w' := fun v => l1Dec_any k (by omega) v
  have z1 := decB_size a
  have z2 := decB_size s
  have z3 := decB_size k
  generalize decB a = da at *
  generalize decB s = ds at *
  generalize decB k = dk at *
  have a1 := add_ok (a := (ByteArray.mk #[97, 117, 116, 104, 111, 114, 32])) (b := da) (by simp only [ByteArray.size_append, l0, l1, l2, l3, l4, l5, l6]; omega)
  have a2 := add_ok (a := ((ByteArray.mk #[97, 117, 116, 104, 111, 114, 32]) ++ da)) (b := (ByteArray.mk #[10, 115, 101, 113, 32])) (by simp only [ByteArray.size_append, l0, l1, l2, l3, l4, l5, l6]; omega)
  have a3 := add_ok (a := (((ByteArray.mk #[97, 117, 116, 104, 111, 114, 32]) ++ da) ++ (ByteArray.mk #[10, 115, 101, 113, 32]))) (b := ds) (by simp only [ByteArray.size_append, l0, l1, l2, l3, l4, l5, l6]; omega)
  have a4 := add_ok (a := ((((ByteArray.mk #[97, 117, 116, 104, 111, 114, 32]) ++ da) ++ (ByteArray.mk #[10, 115, 101, 113, 32])) ++ ds)) (b := (ByteArray.mk #[10, 107, 105, 110, 100, 32])) (by simp only [ByteArray.size_append, l0, l1, l2, l3, l4, l5, l6]; omega)
  have a5 := add_ok (a := (((((ByteArray.mk #[97, 117, 116, 104, 111, 114, 32]) ++ da) ++ (ByteArray.mk #[10, 115, 101, 113, 32])) ++ ds) ++ (ByteArray.mk #[10, 107, 105, 110, 100, 32]))) (b := dk) (by simp only [ByteArray.size_append, l0, l1, l2, l3, l4, l5, l6]; omega)
  have a6 := add_ok (a := ((((((ByteArray.mk #[97, 117, 116, 104, 111, 114, 32]) ++ da) ++ (ByteArray.mk #[10, 115, 101, 113, 32])) ++ ds) ++ (ByteArray.mk #[10, 107, 105, 110, 100, 32])) ++ dk)) (b := (ByteArray.mk #[10, 107, 101, 121, 32])) (by simp only [ByteArray.size_append, l0, l1, l2, l3, l4, l5, l6]; omega)
  have a7 := add_ok (a := (((((((ByteArray.mk #[97, 117, 116, 104, 111, 114, 32]) ++ da) ++ (ByteArray.mk #[10, 115, 101, 113, 32])) ++ ds) ++ (ByteArray.mk #[10, 107, 105, 110, 100, 32])) ++ dk) ++ (ByteArray.mk #[10, 107, 101, 121, 32]))) (b := key) (by simp only [ByteArray.size_append, l0, l1, l2, l3, l4, l5, l6]; omega)
  have a8 := add_ok (a := ((((((((ByteArray.mk #[97, 117, 116, 104, 111, 114, 32]) ++ da) ++ (ByteArray.mk #[10, 115, 101, 113, 32])) ++ ds) ++ (ByteArray.mk #[10, 107, 105, 110, 100, 32])) ++ dk) ++ (ByteArray.mk #[10, 107, 101, 121, 32])) ++ key)) (b := (ByteArray.mk #[10, 116, 101, 120, 116, 32])) (by simp only [ByteArray.size_append, l0, l1, l2, l3, l4, l5, l6]; omega)
  have a9 := add_ok (a := (((((((((ByteArray.mk #[97, 117, 116, 104, 111, 114, 32]) ++ da) ++ (ByteArray.mk #[10, 115, 101, 113, 32])) ++ ds) ++ (ByteArray.mk #[10, 107, 105, 110, 100, 32])) ++ dk) ++ (ByteArray.mk #[10, 107, 101, 121, 32])) ++ key) ++ (ByteArray.mk #[10, 116, 101, 120, 116, 32]))) (b := text) (by simp only [ByteArray.size_append, l0, l1, l2, l3, l4, l5, l6]; omega)
  have a10 := add_ok (a := ((((((((((ByteArray.mk #[97, 117, 116, 104, 111, 114, 32]) ++ da) ++ (ByteArray.mk #[10, 115, 101, 113, 32])) ++ ds) ++ (ByteArray.mk #[10, 107, 105, 110, 100, 32])) ++ dk) ++ (ByteArray.mk #[10, 107, 101, 121, 32])) ++ key) ++ (ByteArray.mk #[10, 116, 101, 120, 116, 32])) ++ text)) (b := (ByteArray.mk #[10])) (by simp only [ByteArray.size_append, l0, l1, l2, l3, l4, l5, l6]; omega)
  obtain ⟨hd, hhd⟩ : ∃ hd, hd = headB a s k key text := ⟨_, rfl⟩
  have hds : hd.size ≤ 10000000 := by rw [hhd, HHS]; omega
  rw [← hhd] at HH ⊢
  have HE : Hid (_) := HH
  have D1 : Hid (_) := d1
  have D2 : Hid (_) := d2
  have D3 : Hid (_) := d3
  have HN : Hid (NodeAt wa w.heap.size a s k key text (.slice u len cap)) := na
  have HIa : Hid (IsStrs wa u len cap S) := hIa
  have HBa : Hid (Below w.heap.size w wa) := hBa
  have HZ : Hid (hd.size ≤ 10000000 ∧ (∀ i, i < len → (S i).size = 64)) := ⟨hds, hS⟩
  have HW : Hid (wa = w.alloc (.cells #[.int .i64 (a : Int), .int .i64 (s : Int), .int .i64 (k : Int), .string key, .string text, .slice u len cap] 50)) := hwa
  clear hhd HH HHS d1 d2 d3 z1 z2 z3 na hIa hBa h hwa l0 l1 l2 l3 l4 l5 l6 hds hS
  go_enter Tryz.func125, Tryz.ntmps125
  go_upto_region 1 with fail
  rw [← HW.out]
  refine wp_region_later (by kernel_rfl) (by kernel_rfl) ?_
  iterate 3 (go_big_quiet_step ((exact Calls.later (D1.out _))))
  iterate 5 (go_big_quiet_step ((exact Calls.later (D2.out _))))
  repeat (go_big_quiet_step ((exact Calls.later (D3.out _))))
  refine wpQuiet_nil ?_
  rintro w1 ⟨⟨w1', hB1'⟩, hw⟩
  have hB1 : Below wa.heap.size wa w1 := by rw [hw]; exact hB1'
  clear hw hB1' w1'
  rw [← HE.out]
  have c5 := (HN.out.below hB1).c5
  have hI1 := HIa.out.below hB1
  have HB1 : Hid (Below w.heap.size w w1) := HBa.out.trans (hB1.mono HBa.out.size)
  clear a1 a2 a3 a4 a5 a6 a7 a8 a9 a10 q0 q1 q2 q3 q4 hne hB1
  obtain ⟨hlc, hcm, hc⟩ := hI1
  go_wp2
  go_loop [3, 4] (fun t i => ∃ j : Nat, j ≤ len ∧ i = .int .i64 j ∧ t = .string (upsB hd S j)) (fun _ i => len - (intOf i).toNat)
  case atStart => exact ⟨0, Nat.zero_le _, rfl, rfl⟩
  case round =>
    obtain ⟨j, hj, rfl, rfl⟩ := hrel
    have hus := upsB_size hd S j (fun i hi => HZ.out.2 i (by omega))
    by_cases hlt : j < len
    · obtain ⟨b, off, rfl, hbs, hcell⟩ := hc (by omega)
      have e1 := hcell j hlt
      have hltI : (j : Int) < (len : Int) := by omega
      have hz := HZ.out.1
      have hsj := HZ.out.2 j hlt
      have HU : Hid (upsB hd S (j + 1) = ((upsB hd S j ++ ⟨#[117, 112, 32]⟩) ++ S j) ++ ⟨#[10]⟩) := by show upsB hd S j ++ lineB _ _ = _; exact spec_up _ _
      have l6 : (ByteArray.mk #[117, 112, 32]).size = 3 := rfl
      have l5 : (ByteArray.mk #[10]).size = 1 := rfl
      have a1 := add_ok (a := upsB hd S j) (b := (ByteArray.mk #[117, 112, 32])) (by omega)
      have a2 := add_ok (a := upsB hd S j ++ (ByteArray.mk #[117, 112, 32])) (b := S j) (by rw [ByteArray.size_append]; omega)
      have a3 := add_ok (a := (upsB hd S j ++ (ByteArray.mk #[117, 112, 32])) ++ S j) (b := (ByteArray.mk #[10])) (by rw [ByteArray.size_append, ByteArray.size_append]; omega)
      clear hcell hc hus hz hsj l6 l5
      generalize upsB hd S j = tt at *
      go_wp2
      go_round
      case rel => exact ⟨j + 1, by omega, by go_num, by rw [HU.out]⟩
      case measure => simp [intOf]; omega
    · have hje : j = len := by omega
      subst hje
      clear hc hus
      go_wp2
      go_ret
      exact ⟨rfl, HB1.out⟩
end Go.Proofs.YtlibipbpaigmdaaGreatDoor
