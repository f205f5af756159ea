/-
  Copies of files and ops that the call owns. No condition but that they read.
-/
import Derived.Test.YtbohaefmokbgbaaDkT2
namespace Go.Proofs.Ytbohaefmokbgbaa
open Go.RowKit
set_option linter.unusedVariables false

set_option maxRecDepth 10000 in
set_option maxHeartbeats 2000000 in
theorem toFileS_own (v : Value) (L : List Fl) (w : World) (h : RdF w v L) (hl0 : L.length ≤ 1048576) :
    Calls Try.prog 47 #[v] w fun e w' => e = .returned (.slice (some ⟨w.heap.size, 0, none⟩) L.length L.length) ∧ RdF w' (.slice (some ⟨w.heap.size, 0, none⟩) L.length L.length) L ∧ (∃ xs, w'.ownsRow w.heap.size 68 2 (.slice (some ⟨w.heap.size, 0, none⟩) L.length L.length) L.length xs) ∧ Below w.heap.size w w' := by
  obtain ⟨a, cap, rfl, hlc, hcm, hc⟩ := h
  obtain ⟨len, hlen0⟩ : ∃ n, n = L.length := ⟨_, rfl⟩
  have HN : Hid (L.length = len) := hlen0.symm
  rw [← hlen0] at hlc hc hl0 ⊢
  clear hlen0
  obtain ⟨i0, hi, hz0, hz1, hz2⟩ := info_parts infoFileT
  have hb2 : i0.bytes * len ≤ 281474976710656 := by rw [hz2]; omega
  have hb3 : len ≤ maxLen := by unfold maxLen; omega
  go_enter Try.func47, Try.ntmps47
  go_wp2_with (at_make; refine wpList_make_full _ rfl _ _ 24 rfl w.heap.size 68 i0 (.agg #[.string ⟨#[]⟩, .string ⟨#[]⟩]) 2 Try.underlying24 hi hz0 hz1 .i64 .i64 _ _ len rfl rfl rfl rfl hb2 hb3 (Nat.le_refl _) ?_; intro w1 hown hgrow)
  have hB1 : Below w.heap.size w w1 := (Below.refl _ w).grown hgrow (Nat.le_refl _) (fun k hk => by cases hk)
  clear hgrow
  go_loopw [4] (fun i wr => ∃ (k : Nat) (xs : List Value), k ≤ len ∧ i = .int .i64 k ∧ wr.ownsRow w.heap.size 68 2 (.slice (some ⟨w.heap.size, 0, none⟩) len len) len xs ∧ Hid (∀ j, j < k → (xs)[j * 2]? = some (.string (L.getD j flZ).n) ∧ (xs)[j * 2 + 1]? = some (.string (L.getD j flZ).d)) ∧ Below w.heap.size w wr)
    (fun i _ => len - (intOf i).toNat)
  case atStart => exact ⟨0, _, Nat.zero_le _, rfl, hown, fun j hj => absurd hj (Nat.not_lt_zero _), hB1⟩
  case round =>
    obtain ⟨k, xs, hk, rfl, how, HA, hB⟩ := hrel
    by_cases hlt : k < len
    · obtain ⟨b, off, rfl, hbs, hl⟩ := hc (by omega)
      have hkL : k < L.length := by rw [HN.out]; exact hlt
      obtain ⟨f, hf⟩ : ∃ f, f = L.getD k flZ := ⟨_, rfl⟩
      have d0 : wr.cell? ⟨b, off + k * 2, none⟩ = some (.string f.n) := by rw [hf]; exact (hB.cell (p := ⟨b, off + k * 2, none⟩) hbs).trans ((hl k hkL).c0)
      have d1 : wr.cell? ⟨b, off + k * 2 + 1, none⟩ = some (.string f.d) := by rw [hf]; exact (hB.cell (p := ⟨b, off + k * 2 + 1, none⟩) hbs).trans ((hl k hkL).c1)
      have HFF := (show Hid _ from hf)
      have hltI : (k : Int) < (len : Int) := by omega
      have HO : Hid (_) := how
      clear hl hc how hown hB1 hf
      go_wp2_with fail
      refine (toFile_any f _).mono ?_
      rintro e w2 ⟨rfl, hB2⟩
      have hxl : xs.length = len * 2 := HO.out.1
      have f0 := (ownsRow_below HO.out hB2).frozenAt (k * 2)
      obtain ⟨z0, y0⟩ := own_some (ownsRow_below HO.out hB2) (k * 2) (by omega)
      have f1 := (ownsRow_below HO.out hB2).frozenAt (k * 2 + 1)
      obtain ⟨z1, y1⟩ := own_some (ownsRow_below HO.out hB2) (k * 2 + 1) (by omega)
      have HB2 : Hid (Below wr.heap.size wr w2) := hB2
      clear d0 d1
      go_wp2
      go_roundw
      case rel =>
        have hB2 := HB2.out
        refine ⟨k + 1, ((xs).set (k * 2) (.string f.n)).set (k * 2 + 1) (.string f.d), by omega, by go_num, ?_, ?_, ?_⟩
        · exact (((((ownsRow_below HO.out hB2).stored _ _).1).stored _ _).1)
        · intro j hj
          rcases Nat.lt_succ_iff_lt_or_eq.1 hj with h1 | rfl
          · refine ⟨?_, ?_⟩
            · rw [List.getElem?_set_ne (by omega), List.getElem?_set_ne (by omega)]; exact (HA.out j h1).1
            · rw [List.getElem?_set_ne (by omega), List.getElem?_set_ne (by omega)]; exact (HA.out j h1).2
          · refine ⟨?_, ?_⟩
            · rw [← HFF.out]; rw [List.getElem?_set_ne (by omega), List.getElem?_set_self (by first | omega | (simp; omega))]
            · rw [← HFF.out]; rw [List.getElem?_set_self (by first | omega | (simp; omega))]
        · exact (((hB.trans (hB2.mono hB.size)).setCell (Nat.le_refl _) _).setCell (Nat.le_refl _) _)
      case measure => simp [intOf]; omega
    · have hke : k = len := by omega
      subst hke
      have HW : Hid (∃ xs, wr.ownsRow w.heap.size 68 2 (.slice (some ⟨w.heap.size, 0, none⟩) k k) k xs) := ⟨xs, how⟩
      have HF : Hid (RdF wr (.slice (some ⟨w.heap.size, 0, none⟩) k k) L) := by
        refine ⟨_, k, by rw [HN.out], Nat.le_of_eq HN.out, by omega, fun hp => ⟨w.heap.size, 0, rfl, own_live how, fun i hi => ?_⟩⟩
        · have hi' : i < k := by rw [← HN.out]; exact hi
          refine ⟨?_, ?_⟩
          · rw [Nat.zero_add, how.cellAt _ (by omega)]; exact (HA.out i hi').1
          · rw [Nat.zero_add, how.cellAt _ (by omega)]; exact (HA.out i hi').2
      clear how hown hB1 HA
      go_wp2
      go_ret
      exact ⟨rfl, HF.out, HW.out, hB⟩

set_option maxRecDepth 10000 in
set_option maxHeartbeats 2000000 in
theorem toDOpS_own (v : Value) (L : List Dop) (w : World) (h : RdO w v L) (hl0 : L.length ≤ 1048576) :
    Calls Try.prog 48 #[v] w fun e w' => e = .returned (.slice (some ⟨w.heap.size, 0, none⟩) L.length L.length) ∧ RdO w' (.slice (some ⟨w.heap.size, 0, none⟩) L.length L.length) L ∧ (∃ xs, w'.ownsRow w.heap.size 49 4 (.slice (some ⟨w.heap.size, 0, none⟩) L.length L.length) L.length xs) ∧ Below w.heap.size w w' := by
  obtain ⟨a, cap, rfl, hlc, hcm, hc⟩ := h
  obtain ⟨len, hlen0⟩ : ∃ n, n = L.length := ⟨_, rfl⟩
  have HN : Hid (L.length = len) := hlen0.symm
  rw [← hlen0] at hlc hc hl0 ⊢
  clear hlen0
  obtain ⟨i0, hi, hz0, hz1, hz2⟩ := info_parts infoDOpT
  have hb2 : i0.bytes * len ≤ 281474976710656 := by rw [hz2]; omega
  have hb3 : len ≤ maxLen := by unfold maxLen; omega
  go_enter Try.func48, Try.ntmps48
  go_wp2_with (at_make; refine wpList_make_full _ rfl _ _ 25 rfl w.heap.size 49 i0 (.agg #[.int .i64 0, .string ⟨#[]⟩, .string ⟨#[]⟩, .string ⟨#[]⟩]) 4 Try.underlying25 hi hz0 hz1 .i64 .i64 _ _ len rfl rfl rfl rfl hb2 hb3 (Nat.le_refl _) ?_; intro w1 hown hgrow)
  have hB1 : Below w.heap.size w w1 := (Below.refl _ w).grown hgrow (Nat.le_refl _) (fun k hk => by cases hk)
  clear hgrow
  go_loopw [4] (fun i wr => ∃ (k : Nat) (xs : List Value), k ≤ len ∧ i = .int .i64 k ∧ wr.ownsRow w.heap.size 49 4 (.slice (some ⟨w.heap.size, 0, none⟩) len len) len xs ∧ Hid (∀ j, j < k → (xs)[j * 4]? = some (.int .i64 (L.getD j dopZ).k) ∧ (xs)[j * 4 + 1]? = some (.string (L.getD j dopZ).n) ∧ (xs)[j * 4 + 2]? = some (.string (L.getD j dopZ).t) ∧ (xs)[j * 4 + 3]? = some (.string (L.getD j dopZ).d)) ∧ Below w.heap.size w wr)
    (fun i _ => len - (intOf i).toNat)
  case atStart => exact ⟨0, _, Nat.zero_le _, rfl, hown, fun j hj => absurd hj (Nat.not_lt_zero _), hB1⟩
  case round =>
    obtain ⟨k, xs, hk, rfl, how, HA, hB⟩ := hrel
    by_cases hlt : k < len
    · obtain ⟨b, off, rfl, hbs, hl⟩ := hc (by omega)
      have hkL : k < L.length := by rw [HN.out]; exact hlt
      obtain ⟨f, hf⟩ : ∃ f, f = L.getD k dopZ := ⟨_, rfl⟩
      have d0 : wr.cell? ⟨b, off + k * 4, none⟩ = some (.int .i64 f.k) := by rw [hf]; exact (hB.cell (p := ⟨b, off + k * 4, none⟩) hbs).trans (hl k hlt 0 (by omega))
      have d1 : wr.cell? ⟨b, off + k * 4 + 1, none⟩ = some (.string f.n) := by rw [hf]; exact (hB.cell (p := ⟨b, off + k * 4 + 1, none⟩) hbs).trans (hl k hlt 1 (by omega))
      have d2 : wr.cell? ⟨b, off + k * 4 + 2, none⟩ = some (.string f.t) := by rw [hf]; exact (hB.cell (p := ⟨b, off + k * 4 + 2, none⟩) hbs).trans (hl k hlt 2 (by omega))
      have d3 : wr.cell? ⟨b, off + k * 4 + 3, none⟩ = some (.string f.d) := by rw [hf]; exact (hB.cell (p := ⟨b, off + k * 4 + 3, none⟩) hbs).trans (hl k hlt 3 (by omega))
      have HFF := (show Hid _ from hf)
      have hltI : (k : Int) < (len : Int) := by omega
      have HO : Hid (_) := how
      clear hl hc how hown hB1 hf
      go_wp2_with fail
      refine (toDOp_any f _).mono ?_
      rintro e w2 ⟨rfl, hB2⟩
      have hxl : xs.length = len * 4 := HO.out.1
      have f0 := (ownsRow_below HO.out hB2).frozenAt (k * 4)
      obtain ⟨z0, y0⟩ := own_some (ownsRow_below HO.out hB2) (k * 4) (by omega)
      have f1 := (ownsRow_below HO.out hB2).frozenAt (k * 4 + 1)
      obtain ⟨z1, y1⟩ := own_some (ownsRow_below HO.out hB2) (k * 4 + 1) (by omega)
      have f2 := (ownsRow_below HO.out hB2).frozenAt (k * 4 + 2)
      obtain ⟨z2, y2⟩ := own_some (ownsRow_below HO.out hB2) (k * 4 + 2) (by omega)
      have f3 := (ownsRow_below HO.out hB2).frozenAt (k * 4 + 3)
      obtain ⟨z3, y3⟩ := own_some (ownsRow_below HO.out hB2) (k * 4 + 3) (by omega)
      have HB2 : Hid (Below wr.heap.size wr w2) := hB2
      clear d0 d1 d2 d3
      go_wp2
      go_roundw
      case rel =>
        have hB2 := HB2.out
        refine ⟨k + 1, ((((xs).set (k * 4) (.int .i64 f.k)).set (k * 4 + 1) (.string f.n)).set (k * 4 + 2) (.string f.t)).set (k * 4 + 3) (.string f.d), by omega, by go_num, ?_, ?_, ?_⟩
        · exact (((((((((ownsRow_below HO.out hB2).stored _ _).1).stored _ _).1).stored _ _).1).stored _ _).1)
        · intro j hj
          rcases Nat.lt_succ_iff_lt_or_eq.1 hj with h1 | rfl
          · refine ⟨?_, ?_, ?_, ?_⟩
            · rw [List.getElem?_set_ne (by omega), List.getElem?_set_ne (by omega), List.getElem?_set_ne (by omega), List.getElem?_set_ne (by omega)]; exact (HA.out j h1).1
            · rw [List.getElem?_set_ne (by omega), List.getElem?_set_ne (by omega), List.getElem?_set_ne (by omega), List.getElem?_set_ne (by omega)]; exact (HA.out j h1).2.1
            · rw [List.getElem?_set_ne (by omega), List.getElem?_set_ne (by omega), List.getElem?_set_ne (by omega), List.getElem?_set_ne (by omega)]; exact (HA.out j h1).2.2.1
            · rw [List.getElem?_set_ne (by omega), List.getElem?_set_ne (by omega), List.getElem?_set_ne (by omega), List.getElem?_set_ne (by omega)]; exact (HA.out j h1).2.2.2
          · refine ⟨?_, ?_, ?_, ?_⟩
            · rw [← HFF.out]; rw [List.getElem?_set_ne (by omega), List.getElem?_set_ne (by omega), List.getElem?_set_ne (by omega), List.getElem?_set_self (by first | omega | (simp; omega))]
            · rw [← HFF.out]; rw [List.getElem?_set_ne (by omega), List.getElem?_set_ne (by omega), List.getElem?_set_self (by first | omega | (simp; omega))]
            · rw [← HFF.out]; rw [List.getElem?_set_ne (by omega), List.getElem?_set_self (by first | omega | (simp; omega))]
            · rw [← HFF.out]; rw [List.getElem?_set_self (by first | omega | (simp; omega))]
        · exact (((((hB.trans (hB2.mono hB.size)).setCell (Nat.le_refl _) _).setCell (Nat.le_refl _) _).setCell (Nat.le_refl _) _).setCell (Nat.le_refl _) _)
      case measure => simp [intOf]; omega
    · have hke : k = len := by omega
      subst hke
      have HW : Hid (∃ xs, wr.ownsRow w.heap.size 49 4 (.slice (some ⟨w.heap.size, 0, none⟩) k k) k xs) := ⟨xs, how⟩
      have HF : Hid (RdO wr (.slice (some ⟨w.heap.size, 0, none⟩) k k) L) := by
        refine ⟨_, k, by rw [HN.out], Nat.le_of_eq HN.out, by omega, fun hp => ⟨w.heap.size, 0, rfl, own_live how, fun i hi => ?_⟩⟩
        · have hi' : i < k := by rw [← HN.out]; exact hi
          intro t ht
          have q := HA.out i hi'
          rw [Nat.zero_add, how.cellAt _ (by omega)]
          rcases t with _ | _ | _ | _ | t
          · exact q.1
          · exact q.2.1
          · exact q.2.2.1
          · exact q.2.2.2
          · omega
      clear how hown hB1 HA
      go_wp2
      go_ret
      exact ⟨rfl, HF.out, HW.out, hB⟩
end Go.Proofs.Ytbohaefmokbgbaa
