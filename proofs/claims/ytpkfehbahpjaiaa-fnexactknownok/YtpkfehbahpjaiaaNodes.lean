/-
  The functions over one TNode and over []TNode that the laws call return what plain data says. No condition but that the slices read.
-/
import Derived.Test.YtpkfehbahpjaiaaBase
namespace Go.Proofs.Ytpkfehbahpjaiaa
open Go.RowKit
set_option linter.unusedVariables false

/-- a slice of nodes that reads as Kd i, N i, A i, B i in world w -/
def IsNodes (w : World) (a : Option Addr) (len cap : Nat) (Kd N A B : Nat → Int) : Prop :=
  len ≤ cap ∧ cap ≤ 9223372036854775807 ∧ (0 < len → ∃ (b off : Nat), a = some ⟨b, off, none⟩ ∧ b < w.heap.size ∧ ∀ i, i < len → w.cell? ⟨b, off + i * 4, none⟩ = some (.int .i64 (Kd i)) ∧ w.cell? ⟨b, off + i * 4 + 1, none⟩ = some (.int .i64 (N i)) ∧ w.cell? ⟨b, off + i * 4 + 2, none⟩ = some (.int .i64 (A i)) ∧ w.cell? ⟨b, off + i * 4 + 3, none⟩ = some (.int .i64 (B i)))

theorem IsNodes.below {w w' : World} {a : Option Addr} {len cap : Nat} {Kd N A B : Nat → Int} (h : IsNodes w a len cap Kd N A B) (hB : Below w.heap.size w w') : IsNodes w' a len cap Kd N A B := by
  obtain ⟨h1, h2, h3⟩ := h
  refine ⟨h1, h2, fun hp => ?_⟩
  obtain ⟨b, off, e, hb, hc⟩ := h3 hp
  refine ⟨b, off, e, by have := hB.size; omega, fun i hi => ?_⟩
  obtain ⟨c1, c2, c3, c4⟩ := hc i hi
  exact ⟨(hB.cell (p := ⟨b, _, none⟩) hb).trans c1, (hB.cell (p := ⟨b, _, none⟩) hb).trans c2, (hB.cell (p := ⟨b, _, none⟩) hb).trans c3, (hB.cell (p := ⟨b, _, none⟩) hb).trans c4⟩

theorem szTNodeS_any (a : Option Addr) (len cap : Nat) (w : World) (hl : len ≤ 9223372036854775807) :
    Calls Try.prog 12 #[.slice a len cap, .int .i64 1048576] w fun e w' => ∃ r : Int, e = .returned (.int .i64 r) ∧ (r < 0 ∨ (0 ≤ r ∧ len ≤ 1048576)) ∧ w' = w := by
  by_cases h : (1048576 : Int) - (len : Int) < 0
  · go_enter Try.func12, Try.ntmps12
    go_wp2
    go_ret
    exact ⟨_, rfl, .inl (by decide), rfl⟩
  · go_enter Try.func12, Try.ntmps12
    go_wp2
    go_ret
    exact ⟨_, rfl, .inr ⟨by omega, by omega⟩, rfl⟩

set_option maxHeartbeats 400000 in
theorem toTNode_any (k n x y : Int) (w : World) :
    Calls Try.prog 47 #[.agg #[.int .i64 k, .int .i64 n, .int .i64 x, .int .i64 y]] w fun e w' => e = .returned (.agg #[.int .i64 k, .int .i64 n, .int .i64 x, .int .i64 y]) ∧ Below w.heap.size w w' := by
  go_enter Try.func47, Try.ntmps47
  go_wp2
  refine bodyPost_ret (v := .agg #[.int .i64 k, .int .i64 n, .int .i64 x, .int .i64 y]) (by simp [results, Try.results47, go_sem]) rfl ⟨rfl, ?_⟩
  exact (((Below.refl _ _).alloc (Nat.le_refl _) _).alloc (by simp) _).alloc (by simp; omega) _

theorem info55 : (Try.prog.info? 55).map (fun i => (i.zero, i.size, i.bytes)) = some (some (.agg #[.int .i64 0, .int .i64 0, .int .i64 0, .int .i64 0]), 4, 32) := by kernel_rfl

theorem get_set4 (xs : List Value) (k j t : Nat) (v0 v1 v2 v3 : Value) (hj : j < k) (ht : t < 4) :
    ((((xs.set (k * 4) v0).set (k * 4 + 1) v1).set (k * 4 + 2) v2).set (k * 4 + 3) v3)[j * 4 + t]? = xs[j * 4 + t]? := by
  rw [List.getElem?_set_ne (by omega), List.getElem?_set_ne (by omega), List.getElem?_set_ne (by omega), List.getElem?_set_ne (by omega)]

set_option maxHeartbeats 1000000 in
theorem toTNodeS_any (a : Option Addr) (len cap : Nat) (Kd N A B : Nat → Int) (w : World) (h : IsNodes w a len cap Kd N A B) (hl : len ≤ 1048576) :
    Calls Try.prog 14 #[.slice a len cap] w fun e w' => ∃ g, e = .returned (.slice (some ⟨g, 0, none⟩) len len) ∧ IsNodes w' (some ⟨g, 0, none⟩) len len Kd N A B ∧ Below w.heap.size w w' := by
  obtain ⟨hlc, hcm, hc⟩ := h
  obtain ⟨i0, hi, hz0, hz1, hz2⟩ := info_parts info55
  have hb2 : i0.bytes * len ≤ 281474976710656 := by rw [hz2]; omega
  have hb3 : len ≤ maxLen := by unfold maxLen; omega
  go_enter Try.func14, Try.ntmps14
  go_wp2_with (at_make; refine wpList_make_full _ rfl _ _ 25 rfl w.heap.size 55 i0 (.agg #[.int .i64 0, .int .i64 0, .int .i64 0, .int .i64 0]) 4 Try.underlying25 hi hz0 hz1 .i64 .i64 _ _ len rfl rfl rfl rfl hb2 hb3 (Nat.le_refl _) ?_; intro w1 hown hgrow)
  have hB1 : Below w.heap.size w w1 := (Below.refl _ w).grown hgrow (Nat.le_refl _) (fun k hk => by cases hk)
  clear hgrow
  go_loopw [4] (fun i wr => ∃ (k : Nat) (xs : List Value), k ≤ len ∧ i = .int .i64 k ∧ wr.ownsRow w.heap.size 55 4 (.slice (some ⟨w.heap.size, 0, none⟩) len len) len xs ∧
      Hid (∀ j, j < k → xs[j * 4 + 0]? = some (.int .i64 (Kd j)) ∧ xs[j * 4 + 1]? = some (.int .i64 (N j)) ∧ xs[j * 4 + 2]? = some (.int .i64 (A j)) ∧ xs[j * 4 + 3]? = some (.int .i64 (B j))) ∧ Below w.heap.size w wr)
    (fun i _ => len - (intOf i).toNat)
  case atStart => exact ⟨0, _, Nat.zero_le _, rfl, hown, fun j hj => absurd hj (Nat.not_lt_zero _), hB1⟩
  case round =>
    obtain ⟨k, xs, hk, rfl, how, HA, hB⟩ := hrel
    by_cases hlt : k < len
    · obtain ⟨b, off, rfl, hbs, hcell⟩ := hc (by omega)
      obtain ⟨c1, c2, c3, c4⟩ := hcell k hlt
      have d1 := (hB.cell (p := ⟨b, off + k * 4, none⟩) hbs).trans c1
      have d2 := (hB.cell (p := ⟨b, off + k * 4 + 1, none⟩) hbs).trans c2
      have d3 := (hB.cell (p := ⟨b, off + k * 4 + 2, none⟩) hbs).trans c3
      have d4 := (hB.cell (p := ⟨b, off + k * 4 + 3, none⟩) hbs).trans c4
      clear hcell hc c1 c2 c3 c4
      have hws : w.heap.size < wr.heap.size := own_live how
      have hxl : xs.length = len * 4 := how.1
      have HO := (show Hid _ from how)
      clear how hown
      go_wp2_with (go_at_call 47; refine (toTNode_any _ _ _ _ _).mono ?_; rintro e w' ⟨rfl, hB2⟩; have f1 := (ownsRow_below HO.out hB2).frozenAt (k * 4); have f2 := (ownsRow_below HO.out hB2).frozenAt (k * 4 + 1); have f3 := (ownsRow_below HO.out hB2).frozenAt (k * 4 + 2); have f4 := (ownsRow_below HO.out hB2).frozenAt (k * 4 + 3); obtain ⟨v1, e1⟩ := own_some (ownsRow_below HO.out hB2) (k * 4) (by omega); obtain ⟨v2, e2⟩ := own_some (ownsRow_below HO.out hB2) (k * 4 + 1) (by omega); obtain ⟨v3, e3⟩ := own_some (ownsRow_below HO.out hB2) (k * 4 + 2) (by omega); obtain ⟨v4, e4⟩ := own_some (ownsRow_below HO.out hB2) (k * 4 + 3) (by omega))
      go_roundw
      case rel =>
        refine ⟨k + 1, (((xs.set (k * 4) (.int .i64 (Kd k))).set (k * 4 + 1) (.int .i64 (N k))).set (k * 4 + 2) (.int .i64 (A k))).set (k * 4 + 3) (.int .i64 (B k)), by omega, by go_num, ?_, ?_, ?_⟩
        · exact (((((ownsRow_below HO.out hB2).stored _ _).1.stored _ _).1.stored _ _).1.stored _ _).1
        · intro j hj
          rcases Nat.lt_succ_iff_lt_or_eq.1 hj with h1 | rfl
          · rw [get_set4 xs k j 0 _ _ _ _ h1 (by omega), get_set4 xs k j 1 _ _ _ _ h1 (by omega), get_set4 xs k j 2 _ _ _ _ h1 (by omega), get_set4 xs k j 3 _ _ _ _ h1 (by omega)]
            exact HA.out j h1
          · refine ⟨?_, ?_, ?_, ?_⟩
            · rw [List.getElem?_set_ne (by omega), List.getElem?_set_ne (by omega), List.getElem?_set_ne (by omega), Nat.add_zero, List.getElem?_set_self (by omega)]
            · rw [List.getElem?_set_ne (by omega), List.getElem?_set_ne (by omega), List.getElem?_set_self (by simp; omega)]
            · rw [List.getElem?_set_ne (by omega), List.getElem?_set_self (by simp; omega)]
            · rw [List.getElem?_set_self (by simp; omega)]
        · exact ((((hB.trans (hB2.mono hB.size)).setCell (Nat.le_refl _) _).setCell (Nat.le_refl _) _).setCell (Nat.le_refl _) _).setCell (Nat.le_refl _) _
      case measure => simp [intOf]; omega
    · have hke : k = len := by omega
      subst hke
      have hfin : IsNodes wr (some ⟨w.heap.size, 0, none⟩) k k Kd N A B := by
        refine ⟨Nat.le_refl _, by omega, fun hp => ?_⟩
        refine ⟨w.heap.size, 0, rfl, own_live how, fun j hj => ?_⟩
        obtain ⟨g1, g2, g3, g4⟩ := HA.out j hj
        refine ⟨?_, ?_, ?_, ?_⟩
        · rw [Nat.zero_add, how.cellAt _ (by omega)]; exact g1
        · rw [Nat.zero_add, how.cellAt _ (by omega)]; exact g2
        · rw [Nat.zero_add, how.cellAt _ (by omega)]; exact g3
        · rw [Nat.zero_add, how.cellAt _ (by omega)]; exact g4
      clear how hown hB1 HA
      go_wp2
      go_ret
      exact ⟨_, rfl, hfin, hB⟩

set_option maxHeartbeats 400000 in
theorem eqTNode_same (k n x y : Int) (w : World) :
    Calls Try.prog 49 #[.agg #[.int .i64 k, .int .i64 n, .int .i64 x, .int .i64 y], .agg #[.int .i64 k, .int .i64 n, .int .i64 x, .int .i64 y]] w fun e w' => e = .returned (.bool true) ∧ Below w.heap.size w w' := by
  have h1 : (k != k) = false := by simp
  have h2 : (n != n) = false := by simp
  have h3 : (x != x) = false := by simp
  have h4 : (y != y) = false := by simp
  go_enter Try.func49, Try.ntmps49
  go_wp2
  go_ret
  exact ⟨rfl, ((Below.refl _ _).alloc (Nat.le_refl _) _).alloc (by simp) _⟩

set_option maxHeartbeats 400000 in
theorem eqTNodeS_same (a a' : Option Addr) (len cap cap' : Nat) (Kd N A B : Nat → Int) (w : World) (h : IsNodes w a len cap Kd N A B) (h' : IsNodes w a' len cap' Kd N A B) :
    Calls Try.prog 16 #[.slice a len cap, .slice a' len cap'] w fun e w' => e = .returned (.bool true) ∧ Below w.heap.size w w' := by
  obtain ⟨hlc, hcm, hc⟩ := h
  obtain ⟨hlc', hcm', hc'⟩ := h'
  have hbn : ((len : Int) != (len : Int)) = false := by simp
  go_enter Try.func16, Try.ntmps16
  go_wp2
  go_loopw [5] (fun i wr => ∃ (k : Nat), k ≤ len ∧ i = .int .i64 k ∧ Below w.heap.size w wr)
    (fun i _ => len - (intOf i).toNat)
  case atStart => exact ⟨0, Nat.zero_le _, rfl, Below.refl _ _⟩
  case round =>
    obtain ⟨k, hk, rfl, hB⟩ := hrel
    by_cases hlt : k < len
    · obtain ⟨b, off, rfl, hbs, hcell⟩ := hc (by omega)
      obtain ⟨c1, c2, c3, c4⟩ := hcell k hlt
      obtain ⟨b', off', rfl, hbs', hcell'⟩ := hc' (by omega)
      obtain ⟨c1', c2', c3', c4'⟩ := hcell' k hlt
      have d1 := (hB.cell (p := ⟨b, off + k * 4, none⟩) hbs).trans c1
      have d2 := (hB.cell (p := ⟨b, off + k * 4 + 1, none⟩) hbs).trans c2
      have d3 := (hB.cell (p := ⟨b, off + k * 4 + 2, none⟩) hbs).trans c3
      have d4 := (hB.cell (p := ⟨b, off + k * 4 + 3, none⟩) hbs).trans c4
      have d1' := (hB.cell (p := ⟨b', off' + k * 4, none⟩) hbs').trans c1'
      have d2' := (hB.cell (p := ⟨b', off' + k * 4 + 1, none⟩) hbs').trans c2'
      have d3' := (hB.cell (p := ⟨b', off' + k * 4 + 2, none⟩) hbs').trans c3'
      have d4' := (hB.cell (p := ⟨b', off' + k * 4 + 3, none⟩) hbs').trans c4'
      clear hcell hc c1 c2 c3 c4 hcell' hc' c1' c2' c3' c4'
      have q1 : ∀ s : Later wr, s.val.cell? ⟨b, off + k * 4, none⟩ = some (.int .i64 (Kd k)) := fun s => s.cell d1
      have q2 : ∀ s : Later wr, s.val.cell? ⟨b, off + k * 4 + 1, none⟩ = some (.int .i64 (N k)) := fun s => s.cell d2
      have q3 : ∀ s : Later wr, s.val.cell? ⟨b, off + k * 4 + 2, none⟩ = some (.int .i64 (A k)) := fun s => s.cell d3
      have q4 : ∀ s : Later wr, s.val.cell? ⟨b, off + k * 4 + 3, none⟩ = some (.int .i64 (B k)) := fun s => s.cell d4
      have q1' : ∀ s : Later wr, s.val.cell? ⟨b', off' + k * 4, none⟩ = some (.int .i64 (Kd k)) := fun s => s.cell d1'
      have q2' : ∀ s : Later wr, s.val.cell? ⟨b', off' + k * 4 + 1, none⟩ = some (.int .i64 (N k)) := fun s => s.cell d2'
      have q3' : ∀ s : Later wr, s.val.cell? ⟨b', off' + k * 4 + 2, none⟩ = some (.int .i64 (A k)) := fun s => s.cell d3'
      have q4' : ∀ s : Later wr, s.val.cell? ⟨b', off' + k * 4 + 3, none⟩ = some (.int .i64 (B k)) := fun s => s.cell d4'
      have hne := Later.any wr
      go_wp2
      refine wp_region_later (by kernel_rfl) (by kernel_rfl) ?_
      repeat (go_big_quiet_step ((rename_i s; exact Calls.later (eqTNode_same _ _ _ _ _))))
      refine wpQuiet_nil ?_
      rintro _ ⟨⟨w', hB2⟩, rfl⟩
      go_wp2
      go_roundw
      case rel => exact ⟨k + 1, by omega, by go_num, hB.trans (hB2.mono hB.size)⟩
      case measure => simp [intOf]; omega
    · have hke : k = len := by omega
      subst hke
      go_wp2
      go_ret
      exact ⟨rfl, hB⟩

end Go.Proofs.Ytpkfehbahpjaiaa
