/-
  The program's set of texts, and its keys of a dag: the specification's. No condition but that the slice reads and that the tables lie.
-/
import Derived.Test.YtlibipbpaigmdaaGreatDoorKeys
import Derived.Test.YtlibipbpaigmdaaGreatDoorIHeads
namespace Go.Proofs.YtlibipbpaigmdaaGreatDoor
open Go.RowKit Go.Maps
set_option linter.unusedVariables false

/-- block B is a set of at most n texts that reads as E -/
def SetOf (w : World) (B n : Nat) (E : DataW Value) : Prop := w.ownsMap Tryz.prog 9 unitElem B n E
theorem SetOf.below {w w' : World} {B n : Nat} {E : DataW Value} (h : SetOf w B n E) (hB : Below w.heap.size w w') : SetOf w' B n E := by
  have hl := h.lt
  obtain ⟨es, clock, hb, F, hs, hD⟩ := h
  exact ⟨es, clock, (hB.block _ hl).trans hb, F, hs, hD⟩
/-- E with the text s -/
def putE (E : DataW Value) (s : ByteArray) : DataW Value := E.put (keyL s) (.agg [])
theorem putE_has {E : DataW Value} (hE : IsMap E) (s : ByteArray) (x : List UInt8) : has (putE E s) (.string x) = true ↔ has E (.string x) = true ∨ s.toList = x := by
  unfold putE
  by_cases he : s.toList = x
  · subst he
    rw [← keyL_list, has_put_same hE (keyL_is _)]
    simp
  · rw [has_put_other (k := keyL s) (by rw [keyL_list]; intro h; apply he; simpa using h.symm)]
    simp [he]

set_option maxHeartbeats 400000 in
theorem put_any (B n : Nat) (E : DataW Value) (s : ByteArray) (w : World) (h : SetOf w B n E) (hn : n ≤ 1000000) (hs : s.size ≤ 9223372036854775807) :
    Calls Tryz.prog 143 #[.map (some B), .string s] w fun e w' => e = .returned (.tuple #[]) ∧ SetOf w' B (n + 1) (putE E s) ∧ w.grownBy w' (some B) := by
  have HO : Hid (w.ownsMap Tryz.prog 9 unitElem B n E) := h
  have hkey : keyOf Tryz.prog 9 (.string s) = some (keyL s) := keyS hs
  clear h
  go_enter Tryz.func143, Tryz.ntmps143
  go_wp2_with (at_mapUpdate; refine wpList_mapUpdate_own _ rfl _ _ _ 98 rfl 9 117 lawS Tryz.underlying98 unitElem B n E rfl HO.out (by unfold maxLen; omega) _ _ _ rfl rfl hkey (.agg []) [] unitElem_mk ?_; intro w3 hown3 hgrow3)
  go_end0
  exact ⟨rfl, hown3, hgrow3⟩

set_option maxHeartbeats 400000 in
theorem rising_any (B n : Nat) (E : DataW Value) (w : World) (h : SetOf w B n E) (hn : n ≤ 1000000) :
    Calls Tryz.prog 112 #[.map (some B)] w fun e w' => ∃ (v : Value) (L : List (List UInt8)), e = .returned v ∧ Up L ∧ (∀ x, x ∈ L ↔ has E (.string x) = true) ∧ OwnL w' w.heap.size v L ∧ Below w.heap.size w w' := by
  have HO : Hid (w.ownsMap Tryz.prog 9 unitElem B n E) := h
  clear h
  go_enter Tryz.func112, Tryz.ntmps112
  go_wp2_with (first
    | (go_at_call 163; refine (Tryz.maps_Keys_72 _ _).mono ?_; rintro e w' ⟨rfl, hw'⟩; rw [hw']; clear hw' w')
    | (go_at_call 90; refine (sorted72 B n E unitElem _ HO.out hn).mono ?_; rintro e w4 ⟨v, L, rfl, hU, hM, hO4, hB4⟩))
  go_ret
  exact ⟨v, L, rfl, hU, hM, hO4, hB4⟩

theorem SetOf.isMap {w : World} {B n : Nat} {E : DataW Value} (h : SetOf w B n E) : IsMap E := World.ownsMap.isMap h

set_option maxHeartbeats 1000000 in
theorem implKeysIn_any (a : Option Addr) (len cap : Nat) (D : Nat → Nd) (w : World) (h : IsNds w a len cap D) (hf : Fine D len) (hP : AllT w) :
    Calls Tryz.prog 80 #[.slice a len cap] w fun e w' => ∃ v, e = .returned v ∧ OwnL w' w.heap.size v (keysR D len) ∧ Below w.heap.size w w' := by
  have HN : Hid (IsNds w a len cap D) := h
  have HF : Hid (Fine D len) := hf
  have HD : Hid (Calls Tryz.prog 71 #[.slice a len cap] w fun e w' => e = .returned (.bool (dagB D len)) ∧ Below w.heap.size w w') := implDagOk_any a len cap D w h hf hP
  obtain ⟨hlc, hcm, hc⟩ := h
  clear hf
  cases hq : dagB D len with
  | false =>
    have HR : Hid (keysR D len = []) := by show _ = _; unfold keysR; rw [if_neg (by rw [hq]; decide)]
    rw [hq] at HD
    go_enter Tryz.func80, Tryz.ntmps80
    go_wp2_with (go_at_call 71; refine HD.out.mono ?_; rintro e w1 ⟨rfl, hB1⟩)
    go_ret
    refine ⟨_, rfl, ?_, hB1⟩
    rw [HR.out]
    exact World.ownsRow_nil _ _ _ _
  | true =>
    have HR : Hid (keysR D len = keysL D len) := by show _ = _; unfold keysR; rw [if_pos hq]
    have hl := (dagB_parts hq).1
    have hmm := @run_makeMap Tryz.prog
    rw [hq] at HD
    clear hq
    go_enter Tryz.func80, Tryz.ntmps80
    go_wp2_with (go_at_call 71; refine HD.out.mono ?_; rintro e w1 ⟨rfl, hB1⟩; have HB1 : Hid (Below w.heap.size w w1) := hB1; clear hB1)
    go_loopw [12] (fun i wr => ∃ (k : Nat) (E : DataW Value), k ≤ len ∧ i = .int .i64 k ∧ SetOf wr w1.heap.size k E ∧ Hid (∀ x, has E (.string x) = true ↔ x ∈ keysL D k) ∧ Below w.heap.size w wr)
      (fun i _ => len - (intOf i).toNat)
    case atStart => exact ⟨0, .map [], Nat.zero_le _, rfl, World.ownsMap_made _ _ _ _, (fun x => by simp [has_eq, keysL]), HB1.out.alloc HB1.out.size _⟩
    case round =>
      obtain ⟨k, E, hk, rfl, hs, HS, hB⟩ := hrel
      have HO := (show Hid _ from hs)
      have HB := (show Hid _ from hB)
      by_cases hlt : k < len
      · have hltI : (k : Int) < (len : Int) := by omega
        obtain ⟨b, off, ea, hbs, _⟩ := hc (by omega)
        subst ea
        obtain ⟨c0, c1, c2, c3, c4, c5, _⟩ := dag_at (HN.out.below hB) rfl k hlt
        clear hs hB
        by_cases h3 : (D k).k = 3
        · have hd : ((D k).k == 3) = true := by simp [h3]
          have HY : Hid (keysL D (k + 1) = putL (keysL D k) (D k).key.toList) := keysL_yes h3
          clear h3
          obtain ⟨wa, hwa⟩ : ∃ wa, wa = wr.alloc (.cells #[.int .i64 (D k).a, .int .i64 (D k).s, .int .i64 (D k).k, .string (D k).key, .string (D k).text, .slice (D k).u (D k).n (D k).cap] 50) := ⟨_, rfl⟩
          have hBa : Below wr.heap.size wr wa := by rw [hwa]; exact (Below.refl _ _).alloc (Nat.le_refl _) _
          have HOa : Hid (SetOf wa w1.heap.size k E) := SetOf.below HO.out hBa
          have HBa : Hid (Below w.heap.size w wa) := HB.out.trans (hBa.mono HB.out.size)
          have hks := (HF.out k hlt).1
          have HWA : Hid (wa = wr.alloc (.cells #[.int .i64 (D k).a, .int .i64 (D k).s, .int .i64 (D k).k, .string (D k).key, .string (D k).text, .slice (D k).u (D k).n (D k).cap] 50)) := hwa
          clear hwa hBa
          go_wp2_with fail
          rw [← HWA.out]
          refine (put_any w1.heap.size k E (D k).key wa HOa.out (by omega) hks).mono ?_
          rintro e w2 ⟨rfl, hs2, hg2⟩
          have HS2 : Hid (SetOf w2 w1.heap.size (k + 1) (putE E (D k).key) ∧ Below w.heap.size w w2) := ⟨hs2, HBa.out.grown hg2 HBa.out.size (fun j hj => by cases hj; exact HB1.out.size)⟩
          clear hs2 hg2
          go_wp2
          go_roundw
          case rel =>
            refine ⟨k + 1, _, by omega, by go_num, HS2.out.1, fun x => ?_, HS2.out.2⟩
            rw [putE_has (SetOf.isMap HO.out), HS.out x, HY.out, putL_mem]
            exact or_congr Iff.rfl ⟨fun h => h.symm, fun h => h.symm⟩
          case measure => simp [intOf]; omega
        · have hd : ((D k).k == 3) = false := by simp [h3]
          have HY : Hid (keysL D (k + 1) = keysL D k) := keysL_no h3
          clear h3
          go_wp2
          go_roundw
          case rel =>
            have hBa : Below wr.heap.size wr (wr.alloc (.cells #[.int .i64 (D k).a, .int .i64 (D k).s, .int .i64 (D k).k, .string (D k).key, .string (D k).text, .slice (D k).u (D k).n (D k).cap] 50)) := (Below.refl _ _).alloc (Nat.le_refl _) _
            refine ⟨k + 1, E, by omega, by go_num, World.ownsMap.mono (SetOf.below HO.out hBa) (by omega), fun x => ?_, HB.out.trans (hBa.mono HB.out.size)⟩
            rw [HY.out]
            exact HS.out x
          case measure => simp [intOf]; omega
      · have hke : k = len := by omega
        subst hke
        clear hs hB
        go_wp2_with (go_at_call 112; refine (rising_any w1.heap.size k E _ HO.out (by omega)).mono ?_; rintro e w4 ⟨v, L, rfl, hU, hM, hO4, hB4⟩)
        go_ret
        refine ⟨v, rfl, ?_, HB.out.trans (hB4.mono HB.out.size)⟩
        have e1 : L = keysR D k := by
          rw [HR.out]
          exact up_unique hU (keysL_up D k) (fun x => by rw [hM x, HS.out x])
        rw [← e1]
        exact mono_base hO4 HB.out.size
end Go.Proofs.YtlibipbpaigmdaaGreatDoor
