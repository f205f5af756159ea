/-
  The specification's ReadTerm, by what its plain reader says. No condition but the text's length.
-/
import Derived.Test.YtcolcnkjcagbaaaGreatDoorSRead
namespace Go.Proofs.YtcolcnkjcagbaaaGreatDoor
open Go.RowKit
set_option linter.unusedVariables false

/-- the reader laid anew -/
abbrev newRd (w : World) (s : ByteArray) : World := w.alloc (.cells #[.string s, .int .i64 0, .bool false, .slice none 0 0] 117)

theorem newRd_st (w : World) (s : ByteArray) : StR (newRd w s) w.heap.size s ⟨0, 0, false, []⟩ :=
  ⟨none, 0, heap_alloc_new w _, World.ownsRow_nil _ _ _ _⟩

theorem newRd_below (w : World) (s : ByteArray) : Below w.heap.size w (newRd w s) := (Below.refl _ _).alloc (Nat.le_refl _) _

set_option maxHeartbeats 1000000 in
theorem readTerm_bad (s : ByteArray) (w : World) (hs : s.size ≤ 1048576) (hb : (qS s 10 0 false []).b = true ∨ (qS s 10 0 false []).j ≠ s.size) :
    Calls Tryz.prog 53 #[.string s] w fun e w' => e = .returned (.tuple #[.slice none 0 0, .bool false]) ∧ Below w.heap.size w w' := by
  have hcall := sterm_any hs 10 w.heap.size 0 false [] 1 (newRd w s) (by decide) (by decide) (newRd_st w s) (Nat.zero_le _) (Nat.le_refl _)
  have hN := newRd_below w s
  have hok := qS_ok (s := s) 10 0 0 false [] (Nat.zero_le _) (Nat.le_refl _)
  generalize qS s 10 0 false [] = r at *
  go_enter Tryz.func53, Tryz.ntmps53
  go_wp2_with fail
  refine Calls.mono hcall ?_
  rintro e w1 ⟨rfl, ⟨a, cap, hS, hO⟩, hB⟩
  have hBF := (show Hid _ from hN.trans hB)
  have c1 := hS.c1
  have c2 := hS.c2
  have c3 := hS.c3
  clear hS hO hB hN hcall
  cases hrb : r.b with
  | true =>
    rw [hrb] at c2
    go_wp2
    go_ret2
    exact ⟨rfl, hBF.out⟩
  | false =>
    rw [hrb] at c2
    have hj : ((r.j : Int) != (s.size : Int)) = true := by
      rcases hb with hb | hb
      · rw [hrb] at hb; cases hb
      · simp; omega
    clear hb
    go_wp2
    go_ret2
    exact ⟨rfl, hBF.out⟩

set_option maxHeartbeats 1000000 in
theorem readTerm_off (s : ByteArray) (w : World) (hs : s.size ≤ 1048576) (hb : (qS s 10 0 false []).b = false) (hj : (qS s 10 0 false []).j = s.size) (h0 : s.size ≠ 0)
    (hno : sOk (ndK (qS s 10 0 false []).l) (ndN (qS s 10 0 false []).l) (ndA (qS s 10 0 false []).l) (ndB (qS s 10 0 false []).l) (qS s 10 0 false []).l.length = false) :
    Calls Tryz.prog 53 #[.string s] w fun e w' => e = .returned (.tuple #[.slice none 0 0, .bool false]) ∧ Below w.heap.size w w' := by
  have hcall := sterm_any hs 10 w.heap.size 0 false [] 1 (newRd w s) (by decide) (by decide) (newRd_st w s) (Nat.zero_le _) (Nat.le_refl _)
  have hN := newRd_below w s
  generalize qS s 10 0 false [] = r at *
  go_enter Tryz.func53, Tryz.ntmps53
  go_wp2_with fail
  refine Calls.mono hcall ?_
  rintro e w1 ⟨rfl, ⟨a, cap, hS, hO⟩, hB⟩
  have hBF := (show Hid _ from hN.trans hB)
  have c1 := hS.c1
  have c2 := hS.c2
  have c3 := hS.c3
  rw [hb] at c2
  have hjb : ((r.j : Int) != (s.size : Int)) = false := by simp; omega
  have hI := own_nodes hO
  have hne : s.toList.isEmpty = false := by
    rw [Lib.toList_data]
    cases hl : s.data.toList with
    | nil =>
      exfalso
      apply h0
      rw [Lib.size_eq, hl]
      rfl
    | cons x l => rfl
  have HNO := (show Hid _ from hno)
  have hw1 : w.heap.size ≤ w1.heap.size := hBF.out.size
  clear hS hO hB hN hcall hno h0
  go_wp2_with fail
  refine (termText_no a _ cap _ hI HNO.out).mono ?_
  rintro e w2 ⟨rfl, hB2⟩
  go_wp2
  go_ret2
  exact ⟨rfl, hBF.out.trans (hB2.mono hw1)⟩

set_option maxHeartbeats 1000000 in
theorem readTerm_yes (s : ByteArray) (w : World) (hs : s.size ≤ 1048576) (hb : (qS s 10 0 false []).b = false) (hj : (qS s 10 0 false []).j = s.size) (t : Tr) (ht : t.txt = s) (hok : t.Ok) (h40 : (qS s 10 0 false []).l.length ≤ 40) (hz : t.size = (qS s 10 0 false []).l.length)
    (hsit : Sits (ndK (qS s 10 0 false []).l) (ndN (qS s 10 0 false []).l) (ndA (qS s 10 0 false []).l) (ndB (qS s 10 0 false []).l) t 0)
    (hyes : sOk (ndK (qS s 10 0 false []).l) (ndN (qS s 10 0 false []).l) (ndA (qS s 10 0 false []).l) (ndB (qS s 10 0 false []).l) (qS s 10 0 false []).l.length = true) :
    Calls Tryz.prog 53 #[.string s] w fun e w' => ∃ a cap, e = .returned (.tuple #[.slice a (qS s 10 0 false []).l.length cap, .bool true]) ∧ w'.ownsRow w.heap.size 158 4 (.slice a (qS s 10 0 false []).l.length cap) (qS s 10 0 false []).l.length (ndCells (qS s 10 0 false []).l) ∧ Below w.heap.size w w' := by
  have hcall := sterm_any hs 10 w.heap.size 0 false [] 1 (newRd w s) (by decide) (by decide) (newRd_st w s) (Nat.zero_le _) (Nat.le_refl _)
  have hN := newRd_below w s
  generalize qS s 10 0 false [] = r at *
  go_enter Tryz.func53, Tryz.ntmps53
  go_wp2_with fail
  refine Calls.mono hcall ?_
  rintro e w1 ⟨rfl, ⟨a, cap, hS, hO⟩, hB⟩
  have hBF := (show Hid _ from hN.trans hB)
  have c1 := hS.c1
  have c2 := hS.c2
  have c3 := hS.c3
  rw [hb] at c2
  have hjb : ((r.j : Int) != (s.size : Int)) = false := by simp; omega
  have hI := own_nodes hO
  have hne : (s.toList != s.toList) = false := by simp
  have HYES := (show Hid _ from hyes)
  have HSIT := (show Hid _ from hsit)
  have HO := (show Hid (w1.ownsRow (w.heap.size + 1) 158 4 (.slice a r.l.length cap) r.l.length (ndCells r.l)) from hO)
  have hw1 : w.heap.size < w1.heap.size := hS.lt
  have HS := (show Hid (Sd w1 w.heap.size s r.j r.b (.slice a r.l.length cap)) from hS)
  clear hS hO hB hN hcall hyes hsit
  go_wp2_with fail
  refine (termText_yes a _ cap _ hI h40 HYES.out t hok HSIT.out hz).mono ?_
  rintro e w2 ⟨rfl, hB2⟩
  rw [ht]
  have c3' := (hB2.cell (p := ⟨w.heap.size, 3, none⟩) hw1).trans c3
  go_wp2
  go_ret2
  refine ⟨a, cap, rfl, ?_, hBF.out.trans (hB2.mono (by omega))⟩
  have h := ownsRow_below HO.out hB2
  obtain ⟨h1, h2⟩ := h
  refine ⟨h1, ?_⟩
  rcases h2 with h2 | ⟨g, cap, cur, hv, hg, hr⟩
  · exact Or.inl h2
  · exact Or.inr ⟨g, cap, cur, hv, by omega, hr⟩

end Go.Proofs.YtcolcnkjcagbaaaGreatDoor
