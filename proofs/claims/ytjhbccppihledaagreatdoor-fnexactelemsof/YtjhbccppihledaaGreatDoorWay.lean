/-
  The specification's keys of a dag. No condition but that the slice reads.
  The program's set of texts, and its keys of a dag: the specification's. No condition but that the slice reads and that the tables lie.
  What stands behind some ids: a closure, as plain data; sets of texts that hold ids alone. No condition.
  The program's closure that goes through a dag. No condition but that the dag is right and lies.
  The program's ids that stand behind some: the closure as plain data. No condition but that the dag is right and lies.
-/
import Derived.Test.YtjhbccppihledaaGreatDoorSHeads
import Derived.Test.YtjhbccppihledaaGreatDoorIHeads
import Derived.Deep.RegionWith
import Derived.Laws.EntriesVeiled
namespace Go.Proofs.YtjhbccppihledaaGreatDoor
open Go.RowKit
set_option linter.unusedVariables false

/-- the keys that the first k nodes set -/
def keysL (D : Nat → Nd) : Nat → List (List UInt8)
  | 0 => []
  | k + 1 => if (D k).k = 3 then putL (keysL D k) (D k).key.toList else keysL D k
def keysR (D : Nat → Nd) (len : Nat) : List (List UInt8) := if dagB D len = true then keysL D len else []
theorem keysL_yes {D : Nat → Nd} {k : Nat} (h : (D k).k = 3) : keysL D (k + 1) = putL (keysL D k) (D k).key.toList := by rw [keysL, if_pos h]
theorem keysL_no {D : Nat → Nd} {k : Nat} (h : ¬ (D k).k = 3) : keysL D (k + 1) = keysL D k := by rw [keysL, if_neg h]
theorem putL_len (s : List UInt8) : ∀ L : List (List UInt8), (putL L s).length ≤ L.length + 1
  | [] => by simp [putL]
  | x :: l => by
    have := putL_len s l
    unfold putL
    split
    · simp; omega
    · split <;> simp
theorem keysL_len (D : Nat → Nd) : ∀ k, (keysL D k).length ≤ k
  | 0 => by simp [keysL]
  | k + 1 => by
    have := keysL_len D k
    by_cases h : (D k).k = 3
    · rw [keysL_yes h]
      have := putL_len (D k).key.toList (keysL D k)
      omega
    · rw [keysL_no h]; omega
theorem keysL_up (D : Nat → Nd) : ∀ k, Up (keysL D k)
  | 0 => by simp [keysL, Up]
  | k + 1 => by
    have := keysL_up D k
    by_cases h : (D k).k = 3
    · rw [keysL_yes h]; exact putL_up _ _ this
    · rw [keysL_no h]; exact this
theorem keysL_mem (D : Nat → Nd) (x : List UInt8) : ∀ k, x ∈ keysL D k ↔ ∃ i, i < k ∧ (D i).k = 3 ∧ (D i).key.toList = x
  | 0 => by simp [keysL]
  | k + 1 => by
    have ih := keysL_mem D x k
    by_cases h : (D k).k = 3
    · rw [keysL_yes h, putL_mem, ih]
      constructor
      · rintro (⟨i, hi, r⟩ | rfl)
        · exact ⟨i, by omega, r⟩
        · exact ⟨k, Nat.lt_succ_self _, h, rfl⟩
      · rintro ⟨i, hi, h1, h2⟩
        rcases Nat.lt_succ_iff_lt_or_eq.1 hi with h3 | rfl
        · exact .inl ⟨i, h3, h1, h2⟩
        · exact .inr h2.symm
    · rw [keysL_no h, ih]
      constructor
      · rintro ⟨i, hi, r⟩
        exact ⟨i, by omega, r⟩
      · rintro ⟨i, hi, h1, h2⟩
        rcases Nat.lt_succ_iff_lt_or_eq.1 hi with h3 | rfl
        · exact ⟨i, h3, h1, h2⟩
        · exact absurd h1 h
theorem keysR_len (D : Nat → Nd) (len : Nat) : (keysR D len).length ≤ 1000000 := by
  unfold keysR
  split
  · rename_i h
    have h1 := keysL_len D len
    have := (dagB_parts h).1
    omega
  · simp

theorem OwnS.ownL {w : World} {base g cap : Nat} {L : List (List UInt8)} (h : OwnS w base g cap L) : OwnL w base (.slice (some ⟨g, 0, none⟩) L.length cap) L := h
theorem OwnS.made (w : World) (base : Nat) (hb : base ≤ w.heap.size) : OwnS (w.alloc (.cells #[] 9)) base w.heap.size 0 [] := World.ownsRow_made w #[] 0 hb (by decide) rfl

set_option maxHeartbeats 1000000 in
theorem specKeysIn_any (a : Option Addr) (len cap : Nat) (D : Nat → Nd) (w : World) (h : IsNds w a len cap D) (hf : Fine D len) :
    Calls Tryz.prog 21 #[.slice a len cap] w fun e w' => ∃ v, e = .returned v ∧ OwnL w' w.heap.size v (keysR D len) ∧ Below w.heap.size w w' := by
  have HN : Hid (IsNds w a len cap D) := h
  have hBa : Below w.heap.size w (w.alloc (.cells #[] 9)) := (Below.refl _ _).alloc (Nat.le_refl _) _
  have HS : Hid (Calls Tryz.prog 11 #[.slice a len cap] (w.alloc (.cells #[] 9)) fun e w' => e = .returned (.bool (dagB D len)) ∧ Below (w.alloc (.cells #[] 9)).heap.size (w.alloc (.cells #[] 9)) w') := specDagOk_any a len cap D _ (h.below hBa) hf
  have HM : Hid (OwnS (w.alloc (.cells #[] 9)) w.heap.size w.heap.size 0 []) := OwnS.made w _ (Nat.le_refl _)
  have HBa : Hid (Below w.heap.size w (w.alloc (.cells #[] 9))) := hBa
  obtain ⟨hlc, hcm, hc⟩ := h
  clear hf hBa
  cases hq : dagB D len with
  | false =>
    have HR : Hid (keysR D len = []) := by show _ = _; unfold keysR; rw [if_neg (by rw [hq]; decide)]
    rw [hq] at HS
    go_enter Tryz.func21, Tryz.ntmps21
    go_wp2_with (go_at_call 11; refine HS.out.mono ?_; rintro e w1 ⟨rfl, hB1⟩; have HB1 : Hid (Below w.heap.size w w1) := HBa.out.trans (hB1.mono HBa.out.size); have HO1 : Hid (OwnS w1 w.heap.size w.heap.size 0 []) := HM.out.below hB1; clear hB1)
    go_loopw [5, 3] (fun i v wr => i = .int .i64 0 ∧ v = .slice (some ⟨w.heap.size, 0, none⟩) 0 0 ∧ wr = w1) (fun _ _ _ => 0)
    case atStart => exact ⟨rfl, rfl, rfl⟩
    case round =>
      obtain ⟨rfl, rfl, rfl⟩ := hrel
      go_wp2
      go_ret
      refine ⟨_, rfl, ?_, HB1.out⟩
      rw [HR.out]
      exact HO1.out.ownL
  | true =>
    have HR : Hid (keysR D len = keysL D len) := by show _ = _; unfold keysR; rw [if_pos hq]
    have hl := (dagB_parts hq).1
    rw [hq] at HS
    clear hq
    go_enter Tryz.func21, Tryz.ntmps21
    go_wp2_with (go_at_call 11; refine HS.out.mono ?_; rintro e w1 ⟨rfl, hB1⟩; have HB1 : Hid (Below w.heap.size w w1) := HBa.out.trans (hB1.mono HBa.out.size); have HO1 : Hid (OwnS w1 w.heap.size w.heap.size 0 []) := HM.out.below hB1; clear hB1)
    go_loopw [5, 3] (fun i v wr => ∃ (k g gc : Nat), k ≤ len ∧ i = .int .i64 k ∧ v = .slice (some ⟨g, 0, none⟩) (keysL D k).length gc ∧ OwnS wr w.heap.size g gc (keysL D k) ∧ Below w.heap.size w wr)
      (fun i _ _ => len - (intOf i).toNat)
    case atStart => exact ⟨0, w.heap.size, 0, Nat.zero_le _, rfl, rfl, HO1.out, HB1.out⟩
    case round =>
      obtain ⟨k, g, gc, hk, rfl, rfl, ho, hB⟩ := hrel
      have HO := (show Hid _ from ho)
      have HB := (show Hid _ from hB)
      by_cases hlt : k < len
      · have hltI : (k : Int) < (len : Int) := by omega
        obtain ⟨b, off, ea, hbs, _⟩ := hc (by omega)
        subst ea
        have nd := dag_at (HN.out.below hB) rfl k hlt
        have c2 := nd.c2
        have c3 := nd.c3
        have hkl := keysL_len D k
        have HP : Hid (Calls Tryz.prog 52 #[.slice (some ⟨g, 0, none⟩) (keysL D k).length gc, .string (D k).key] wr fun e w' => ∃ g' gc', e = .returned (.slice (some ⟨g', 0, none⟩) (putL (keysL D k) (D k).key.toList).length gc') ∧ OwnS w' wr.heap.size g' gc' (putL (keysL D k) (D k).key.toList) ∧ Below wr.heap.size wr w') := l1Put_any g 0 gc (keysL D k) (D k).key wr ho.lies.1 ho.lies.2.1 ho.caps.1 ho.caps.2 (by omega)
        clear nd ho hB hkl
        by_cases h3 : (D k).k = 3
        · have hd : ((D k).k == 3) = true := by simp [h3]
          have HY : Hid (keysL D (k + 1) = putL (keysL D k) (D k).key.toList) := keysL_yes h3
          clear h3
          go_wp2_with fail
          refine HP.out.mono ?_
          rintro e w2 ⟨g', gc', rfl, ho2, hB2⟩
          have HO2 : Hid (OwnS w2 w.heap.size g' gc' (keysL D (k + 1))) := by
            show OwnS _ _ _ _ _
            rw [HY.out]
            exact mono_base ho2 HB.out.size
          have HB2 : Hid (Below w.heap.size w w2) := HB.out.trans (hB2.mono HB.out.size)
          clear ho2 hB2
          go_wp2
          go_roundw
          case rel => exact ⟨k + 1, g', gc', by omega, by go_num, by rw [HY.out], HO2.out, HB2.out⟩
          case measure => simp [intOf]; omega
        · have hd : ((D k).k == 3) = false := by simp [h3]
          have HY : Hid (keysL D (k + 1) = keysL D k) := keysL_no h3
          clear h3
          go_wp2
          go_roundw
          case rel => exact ⟨k + 1, g, gc, by omega, by go_num, by rw [HY.out], by rw [HY.out]; exact HO.out, HB.out⟩
          case measure => simp [intOf]; omega
      · have hke : k = len := by omega
        subst hke
        clear ho hB
        go_wp2
        go_ret
        refine ⟨_, rfl, ?_, HB.out⟩
        rw [HR.out]
        exact OwnS.ownL HO.out
end Go.Proofs.YtjhbccppihledaaGreatDoor

namespace Go.Proofs.YtjhbccppihledaaGreatDoor
open Go.RowKit Go.Maps
set_option linter.unusedVariables false

/-- block B is a set of at most n texts that reads as E -/
def SetOf (w : World) (B n : Nat) (E : DataW Value) : Prop := w.ownsMap Tryz.prog 9 unitElem B n E
theorem SetOf.below {w w' : World} {B n : Nat} {E : DataW Value} (h : SetOf w B n E) (hB : Below w.heap.size w w') : SetOf w' B n E := by
  have hl := h.lt
  obtain ⟨es, clock, hb, F, hs, hD⟩ := h
  exact ⟨es, clock, (hB.block _ hl).trans hb, F, hs, hD⟩
/-- E with the text s -/
def putE (E : DataW Value) (s : ByteArray) : DataW Value := E.put (keyL s) (.agg [])
theorem putE_has {E : DataW Value} (hE : IsMap E) (s : ByteArray) (x : List UInt8) : has (putE E s) (.string x) = true ↔ has E (.string x) = true ∨ s.toList = x := by
  unfold putE
  by_cases he : s.toList = x
  · subst he
    rw [← keyL_list, has_put_same hE (keyL_is _)]
    simp
  · rw [has_put_other (k := keyL s) (by rw [keyL_list]; intro h; apply he; simpa using h.symm)]
    simp [he]

set_option maxHeartbeats 400000 in
theorem put_any (B n : Nat) (E : DataW Value) (s : ByteArray) (w : World) (h : SetOf w B n E) (hn : n ≤ 1000000) (hs : s.size ≤ 9223372036854775807) :
    Calls Tryz.prog 53 #[.map (some B), .string s] w fun e w' => e = .returned (.tuple #[]) ∧ SetOf w' B (n + 1) (putE E s) ∧ w.grownBy w' (some B) := by
  have HO : Hid (w.ownsMap Tryz.prog 9 unitElem B n E) := h
  have hkey : keyOf Tryz.prog 9 (.string s) = some (keyL s) := keyS hs
  clear h
  go_enter Tryz.func53, Tryz.ntmps53
  go_wp2_with (at_mapUpdate; refine wpList_mapUpdate_own _ rfl _ _ _ 74 rfl 9 79 lawS Tryz.underlying74 unitElem B n E rfl HO.out (by unfold maxLen; omega) _ _ _ rfl rfl hkey (.agg []) [] unitElem_mk ?_; intro w3 hown3 hgrow3)
  go_end0
  exact ⟨rfl, hown3, hgrow3⟩

set_option maxHeartbeats 400000 in
theorem rising_any (B n : Nat) (E : DataW Value) (w : World) (h : SetOf w B n E) (hn : n ≤ 1000000) :
    Calls Tryz.prog 54 #[.map (some B)] w fun e w' => ∃ (v : Value) (L : List (List UInt8)), e = .returned v ∧ Up L ∧ (∀ x, x ∈ L ↔ has E (.string x) = true) ∧ OwnL w' w.heap.size v L ∧ Below w.heap.size w w' := by
  have HO : Hid (w.ownsMap Tryz.prog 9 unitElem B n E) := h
  clear h
  go_enter Tryz.func54, Tryz.ntmps54
  go_wp2_with (first
    | (go_at_call 79; refine (Tryz.maps_Keys_72 _ _).mono ?_; rintro e w' ⟨rfl, hw'⟩; rw [hw']; clear hw' w')
    | (go_at_call 49; refine (sorted72 B n E unitElem _ HO.out hn).mono ?_; rintro e w4 ⟨v, L, rfl, hU, hM, hO4, hB4⟩))
  go_ret
  exact ⟨v, L, rfl, hU, hM, hO4, hB4⟩

theorem SetOf.isMap {w : World} {B n : Nat} {E : DataW Value} (h : SetOf w B n E) : IsMap E := World.ownsMap.isMap h

set_option maxHeartbeats 1000000 in
theorem implKeysIn_any (a : Option Addr) (len cap : Nat) (D : Nat → Nd) (w : World) (h : IsNds w a len cap D) (hf : Fine D len) (hP : AllT w) :
    Calls Tryz.prog 22 #[.slice a len cap] w fun e w' => ∃ v, e = .returned v ∧ OwnL w' w.heap.size v (keysR D len) ∧ Below w.heap.size w w' := by
  have HN : Hid (IsNds w a len cap D) := h
  have HF : Hid (Fine D len) := hf
  have HD : Hid (Calls Tryz.prog 13 #[.slice a len cap] w fun e w' => e = .returned (.bool (dagB D len)) ∧ Below w.heap.size w w') := implDagOk_any a len cap D w h hf hP
  obtain ⟨hlc, hcm, hc⟩ := h
  clear hf
  cases hq : dagB D len with
  | false =>
    have HR : Hid (keysR D len = []) := by show _ = _; unfold keysR; rw [if_neg (by rw [hq]; decide)]
    rw [hq] at HD
    go_enter Tryz.func22, Tryz.ntmps22
    go_wp2_with (go_at_call 13; refine HD.out.mono ?_; rintro e w1 ⟨rfl, hB1⟩)
    go_ret
    refine ⟨_, rfl, ?_, hB1⟩
    rw [HR.out]
    exact World.ownsRow_nil _ _ _ _
  | true =>
    have HR : Hid (keysR D len = keysL D len) := by show _ = _; unfold keysR; rw [if_pos hq]
    have hl := (dagB_parts hq).1
    have hmm := @run_makeMap Tryz.prog
    rw [hq] at HD
    clear hq
    go_enter Tryz.func22, Tryz.ntmps22
    go_wp2_with (go_at_call 13; refine HD.out.mono ?_; rintro e w1 ⟨rfl, hB1⟩; have HB1 : Hid (Below w.heap.size w w1) := hB1; clear hB1)
    go_loopw [12] (fun i wr => ∃ (k : Nat) (E : DataW Value), k ≤ len ∧ i = .int .i64 k ∧ SetOf wr w1.heap.size k E ∧ Hid (∀ x, has E (.string x) = true ↔ x ∈ keysL D k) ∧ Below w.heap.size w wr)
      (fun i _ => len - (intOf i).toNat)
    case atStart => exact ⟨0, .map [], Nat.zero_le _, rfl, World.ownsMap_made _ _ _ _, (fun x => by simp [has_eq, keysL]), HB1.out.alloc HB1.out.size _⟩
    case round =>
      obtain ⟨k, E, hk, rfl, hs, HS, hB⟩ := hrel
      have HO := (show Hid _ from hs)
      have HB := (show Hid _ from hB)
      by_cases hlt : k < len
      · have hltI : (k : Int) < (len : Int) := by omega
        obtain ⟨b, off, ea, hbs, _⟩ := hc (by omega)
        subst ea
        obtain ⟨c0, c1, c2, c3, c4, c5, _⟩ := dag_at (HN.out.below hB) rfl k hlt
        clear hs hB
        by_cases h3 : (D k).k = 3
        · have hd : ((D k).k == 3) = true := by simp [h3]
          have HY : Hid (keysL D (k + 1) = putL (keysL D k) (D k).key.toList) := keysL_yes h3
          clear h3
          obtain ⟨wa, hwa⟩ : ∃ wa, wa = wr.alloc (.cells #[.int .i64 (D k).a, .int .i64 (D k).s, .int .i64 (D k).k, .string (D k).key, .string (D k).text, .slice (D k).u (D k).n (D k).cap] 58) := ⟨_, rfl⟩
          have hBa : Below wr.heap.size wr wa := by rw [hwa]; exact (Below.refl _ _).alloc (Nat.le_refl _) _
          have HOa : Hid (SetOf wa w1.heap.size k E) := SetOf.below HO.out hBa
          have HBa : Hid (Below w.heap.size w wa) := HB.out.trans (hBa.mono HB.out.size)
          have hks := (HF.out k hlt).1
          have HWA : Hid (wa = wr.alloc (.cells #[.int .i64 (D k).a, .int .i64 (D k).s, .int .i64 (D k).k, .string (D k).key, .string (D k).text, .slice (D k).u (D k).n (D k).cap] 58)) := hwa
          clear hwa hBa
          go_wp2_with fail
          rw [← HWA.out]
          refine (put_any w1.heap.size k E (D k).key wa HOa.out (by omega) hks).mono ?_
          rintro e w2 ⟨rfl, hs2, hg2⟩
          have HS2 : Hid (SetOf w2 w1.heap.size (k + 1) (putE E (D k).key) ∧ Below w.heap.size w w2) := ⟨hs2, HBa.out.grown hg2 HBa.out.size (fun j hj => by cases hj; exact HB1.out.size)⟩
          clear hs2 hg2
          go_wp2
          go_roundw
          case rel =>
            refine ⟨k + 1, _, by omega, by go_num, HS2.out.1, fun x => ?_, HS2.out.2⟩
            rw [putE_has (SetOf.isMap HO.out), HS.out x, HY.out, putL_mem]
            exact or_congr Iff.rfl ⟨fun h => h.symm, fun h => h.symm⟩
          case measure => simp [intOf]; omega
        · have hd : ((D k).k == 3) = false := by simp [h3]
          have HY : Hid (keysL D (k + 1) = keysL D k) := keysL_no h3
          clear h3
          go_wp2
          go_roundw
          case rel =>
            have hBa : Below wr.heap.size wr (wr.alloc (.cells #[.int .i64 (D k).a, .int .i64 (D k).s, .int .i64 (D k).k, .string (D k).key, .string (D k).text, .slice (D k).u (D k).n (D k).cap] 58)) := (Below.refl _ _).alloc (Nat.le_refl _) _
            refine ⟨k + 1, E, by omega, by go_num, World.ownsMap.mono (SetOf.below HO.out hBa) (by omega), fun x => ?_, HB.out.trans (hBa.mono HB.out.size)⟩
            rw [HY.out]
            exact HS.out x
          case measure => simp [intOf]; omega
      · have hke : k = len := by omega
        subst hke
        clear hs hB
        go_wp2_with (go_at_call 54; refine (rising_any w1.heap.size k E _ HO.out (by omega)).mono ?_; rintro e w4 ⟨v, L, rfl, hU, hM, hO4, hB4⟩)
        go_ret
        refine ⟨v, rfl, ?_, HB.out.trans (hB4.mono HB.out.size)⟩
        have e1 : L = keysR D k := by
          rw [HR.out]
          exact up_unique hU (keysL_up D k) (fun x => by rw [hM x, HS.out x])
        rw [← e1]
        exact mono_base hO4 HB.out.size
end Go.Proofs.YtjhbccppihledaaGreatDoor

namespace Go.Proofs.YtjhbccppihledaaGreatDoor
open Go.RowKit Go.Maps
set_option linter.unusedVariables false

/-- those of the first m of T that are ids of the dag, and all that they stand behind: what lies in every set that has the former and with each node its ups -/
def Reach (D : Nat → Nd) (len : Nat) (T : Nat → ByteArray) (m : Nat) (x : List UInt8) : Prop :=
  ∀ Q : List UInt8 → Prop, (∀ j i, j < m → i < len → (ids D i).toList = (T j).toList → Q (T j).toList) → (∀ i j, i < len → Q (ids D i).toList → j < (D i).n → Q ((D i).S j).toList) → Q x
theorem Reach.base {D : Nat → Nd} {len : Nat} {T : Nat → ByteArray} {m : Nat} (j i : Nat) (hj : j < m) (hi : i < len) (e : (ids D i).toList = (T j).toList) : Reach D len T m (T j).toList := fun Q hb _ => hb j i hj hi e
theorem Reach.step {D : Nat → Nd} {len : Nat} {T : Nat → ByteArray} {m : Nat} (i j : Nat) (hi : i < len) (h : Reach D len T m (ids D i).toList) (hj : j < (D i).n) : Reach D len T m ((D i).S j).toList := fun Q hb hs => hs i j hi (h Q hb hs) hj

theorem Reach.more {D : Nat → Nd} {len : Nat} {T : Nat → ByteArray} {m i : Nat} (hi : i < len) (h : Reach D len T m (ids D i).toList) {x : List UInt8} (hx : Reach D len (D i).S (D i).n x) : Reach D len T m x :=
  hx (Reach D len T m) (fun j i' hj hi' e => .step i j hi h hj) (fun i' j hi' ih hj => .step i' j hi' ih hj)
theorem Reach.mono {D : Nat → Nd} {len : Nat} {T : Nat → ByteArray} {m m' : Nat} (hm : m ≤ m') {x : List UInt8} (hx : Reach D len T m x) : Reach D len T m' x :=
  hx (Reach D len T m') (fun j i' hj hi' e => .base j i' (by omega) hi' e) (fun i' j hi' ih hj => .step i' j hi' ih hj)

/-- x is the id of a node -/
def IsId (D : Nat → Nd) (len : Nat) (x : List UInt8) : Prop := ∃ i, i < len ∧ (ids D i).toList = x
theorem ups_ids {D : Nat → Nd} {len : Nat} (hq : dagB D len = true) {i j : Nat} (hi : i < len) (hj : j < (D i).n) : IsId D len ((D i).S j).toList := by
  have h := (dagB_parts hq).2.2.2 i hi
  unfold hasB at h
  rw [allB_iff] at h
  have h1 := h j hj
  have h2 : outB (ids D) len ((D i).S j) = false := by simpa using h1
  obtain ⟨i', hi', e⟩ := (outB_iff (ids D) _ len).1 h2
  exact ⟨i', hi', e⟩
theorem Reach.isId {D : Nat → Nd} {len : Nat} (hq : dagB D len = true) {T : Nat → ByteArray} {m : Nat} {x : List UInt8} (h : Reach D len T m x) : IsId D len x :=
  h (IsId D len) (fun j i hj hi e => ⟨i, hi, e⟩) (fun i j hi _ hj => ups_ids hq hi hj)

theorem len_le {α : Type} [DecidableEq α] : ∀ (l l' : List α), l.Nodup → (∀ x, x ∈ l → x ∈ l') → l.length ≤ l'.length
  | [], _, _, _ => Nat.zero_le _
  | a :: l, l', hn, hs => by
    obtain ⟨h1, h2⟩ := List.nodup_cons.1 hn
    have ha : a ∈ l' := hs a List.mem_cons_self
    have ih := len_le l (l'.erase a) h2 (fun x hx => (List.mem_erase_of_ne (fun e => h1 (by rw [← e]; exact hx))).2 (hs x (List.mem_cons_of_mem _ hx)))
    rw [List.length_erase_of_mem ha] at ih
    have : 0 < l'.length := List.length_pos_of_mem ha
    simp
    omega
/-- the ids as a list -/
def idsL (D : Nat → Nd) (len : Nat) : List (List UInt8) := (List.range len).map fun i => (ids D i).toList
theorem idsL_len (D : Nat → Nd) (len : Nat) : (idsL D len).length = len := by simp [idsL]
theorem idsL_mem (D : Nat → Nd) (len : Nat) (x : List UInt8) : x ∈ idsL D len ↔ IsId D len x := by
  unfold idsL IsId
  rw [List.mem_map]
  constructor
  · rintro ⟨i, hi, e⟩
    exact ⟨i, List.mem_range.1 hi, e⟩
  · rintro ⟨i, hi, e⟩
    exact ⟨i, List.mem_range.2 hi, e⟩
theorem up_len {D : Nat → Nd} {len : Nat} {L : List (List UInt8)} (hU : Up L) (hI : ∀ x, x ∈ L → IsId D len x) : L.length ≤ len := by
  have := len_le L (idsL D len) hU.nodup (fun x hx => (idsL_mem D len x).2 (hI x hx))
  rw [idsL_len] at this
  exact this

/-- E holds texts that are ids alone -/
def IdSet (D : Nat → Nd) (len : Nat) (E : DataW Value) : Prop := ∀ x, has E (.string x) = true → IsId D len x
theorem SetOf.tidy {w : World} {B n : Nat} {E : DataW Value} (h : SetOf w B n E) : Tidy E := World.ownsMap.tidy h lawS
theorem strKeys_size (E : DataW Value) (h : IsMap E) : (strKeys E).length = Maps.size E := by
  obtain ⟨es, rfl⟩ := h
  simp [strKeys, Maps.size]
theorem SetOf.size_le {w : World} {B n : Nat} {E : DataW Value} (h : SetOf w B n E) {D : Nat → Nd} {len : Nat} (hI : IdSet D len E) : Maps.size E ≤ len := by
  obtain ⟨hnd, hmem⟩ := strKeys_spec h lawS Tryz.underlying9
  have := len_le (strKeys E) (idsL D len) hnd (fun x hx => (idsL_mem D len x).2 (hI x ((hmem x).1 hx)))
  rw [idsL_len, strKeys_size E h.isMap] at this
  exact this
theorem SetOf.tight {w : World} {B n : Nat} {E : DataW Value} (h : SetOf w B n E) {k : Nat} (hk : Maps.size E ≤ k) : SetOf w B k E := by
  obtain ⟨es, clock, hb, F, hs, hD⟩ := h
  refine ⟨es, clock, hb, F, ?_, hD⟩
  have : Maps.size E = es.size := by
    rw [hD]
    exact length_read es
  omega
theorem putE_size {w : World} {B n : Nat} {E : DataW Value} (h : SetOf w B n E) {s : ByteArray} (hs : has E (.string s.toList) = false) : Maps.size (putE E s) = Maps.size E + 1 := by
  unfold putE
  rw [size_put h.tidy, keyL_list, hs]
  rfl
theorem putE_id {D : Nat → Nd} {len : Nat} {E : DataW Value} (hM : IsMap E) (hI : IdSet D len E) {s : ByteArray} (hs : IsId D len s.toList) : IdSet D len (putE E s) := by
  intro x hx
  rcases (putE_has hM s x).1 hx with h | rfl
  · exact hI x h
  · exact hs

theorem zeroU (w : World) : (zeroValue 79).run Tryz.prog w = .ok (.agg #[]) w := by kernel_rfl

set_option maxHeartbeats 400000 in
theorem has71_any (B n : Nat) (E : DataW Value) (s : ByteArray) (w : World) (h : SetOf w B n E) (hs : s.size ≤ 9223372036854775807) :
    Calls Tryz.prog 82 #[.map (some B), .string s] w fun e w' => e = .returned (.bool (has E (.string s.toList))) ∧ Below w.heap.size w w' := by
  have HO : Hid (w.ownsMap Tryz.prog 9 unitElem B n E) := h
  have hkey : keyOf Tryz.prog 9 (.string s) = some (keyL s) := keyS hs
  rw [← keyL_list]
  clear h
  go_enter Tryz.func82, Tryz.ntmps82
  go_wp2_with (at_lookup; refine wpList_lookup_own_unit _ rfl _ _ 73 rfl 9 79 lawS Tryz.underlying73 (zeroU _) B n E rfl HO.out _ _ rfl hkey ?_)
  go_ret
  exact ⟨rfl, (Below.refl _ _).alloc (Nat.le_refl _) _⟩
end Go.Proofs.YtjhbccppihledaaGreatDoor

namespace Go.Proofs.YtjhbccppihledaaGreatDoor
open Go.RowKit Go.Maps
set_option linter.unusedVariables false

/-- what the closure leans on: the dag at b, off; its map of nodes at B; the boxes of the map, of the set (the set itself at F) and of the closure; all but F lie still -/
structure Ctx (w : World) (D : Nat → Nd) (len b off B F bN bF bf : Nat) : Prop where
  nd : ∀ i, i < len → NdAt w b (off + i * 6) (D i) ∧ b ≠ F ∧ ∀ ub uo, (D i).u = some ⟨ub, uo, none⟩ → 0 < (D i).n → ub ≠ F
  map : w.ownsMap Tryz.prog 9 PR B len (mapD D b off len)
  cN : w.cell? ⟨bN, 0, none⟩ = some (.map (some B))
  cF : w.cell? ⟨bF, 0, none⟩ = some (.map (some F))
  cf : w.cell? ⟨bf, 0, none⟩ = some (.func (.func 81) #[] #[.pointer (some ⟨bN, 0, none⟩), .pointer (some ⟨bF, 0, none⟩), .pointer (some ⟨bf, 0, none⟩)])
  ne : B ≠ F ∧ bN ≠ F ∧ bF ≠ F ∧ bf ≠ F

theorem strs_grown {w w' : World} {a : Option Addr} {len cap F : Nat} {S : Nat → ByteArray} (h : IsStrs w a len cap S) (hg : w.grownBy w' (some F)) (hne : ∀ ub uo, a = some ⟨ub, uo, none⟩ → 0 < len → ub ≠ F) : IsStrs w' a len cap S := by
  obtain ⟨h1, h2, h3⟩ := h
  refine ⟨h1, h2, fun hp => ?_⟩
  obtain ⟨b, off, e, hb, hc⟩ := h3 hp
  have hn := hne b off e hp
  exact ⟨b, off, e, by have := hg.size; omega, fun i hi => hg.cell (hc i hi) (by simpa using hn)⟩

theorem Ctx.grown {w w' : World} {D : Nat → Nd} {len b off B F bN bF bf : Nat} (h : Ctx w D len b off B F bN bF bf) (hg : w.grownBy w' (some F)) : Ctx w' D len b off B F bN bF bf := by
  obtain ⟨h1, h2, h3, h4, h5, n1, n2, n3, n4⟩ := h
  refine ⟨fun i hi => ?_, h2.kept hg (by simpa using n1), hg.cell h3 (by simpa using n2), hg.cell h4 (by simpa using n3), hg.cell h5 (by simpa using n4), n1, n2, n3, n4⟩
  obtain ⟨d, hb, hu⟩ := h1 i hi
  have hne : some b ≠ some F := by simpa using hb
  exact ⟨⟨hg.cell d.c0 hne, hg.cell d.c1 hne, hg.cell d.c2 hne, hg.cell d.c3 hne, hg.cell d.c4 hne, hg.cell d.c5 hne, strs_grown d.i hg hu⟩, hb, hu⟩

/-- E grew to E' by going through the first m of T -/
structure Went (D : Nat → Nd) (len : Nat) (T : Nat → ByteArray) (m : Nat) (E E' : DataW Value) : Prop where
  idz : IdSet D len E'
  old : ∀ x, has E (.string x) = true → has E' (.string x) = true
  all : ∀ j, j < m → IsId D len (T j).toList → has E' (.string (T j).toList) = true
  ups : ∀ i, i < len → has E' (.string (ids D i).toList) = true → has E (.string (ids D i).toList) = false → ∀ j, j < (D i).n → has E' (.string ((D i).S j).toList) = true
  no : ∀ x, has E' (.string x) = true → has E (.string x) = true ∨ Reach D len T m x

theorem Went.refl {D : Nat → Nd} {len : Nat} {T : Nat → ByteArray} {E : DataW Value} (h : IdSet D len E) : Went D len T 0 E E :=
  ⟨h, fun _ hx => hx, fun j hj => absurd hj (Nat.not_lt_zero _), fun i hi h1 h2 => (by rw [h1] at h2; cases h2), fun x hx => .inl hx⟩
/-- nothing to do at place m -/
theorem Went.skip {D : Nat → Nd} {len : Nat} {T : Nat → ByteArray} {m : Nat} {E E' : DataW Value} (h : Went D len T m E E') (hs : IsId D len (T m).toList → has E' (.string (T m).toList) = true) : Went D len T (m + 1) E E' := by
  refine ⟨h.idz, h.old, fun j hj hid => ?_, h.ups, fun x hx => ?_⟩
  · rcases Nat.lt_succ_iff_lt_or_eq.1 hj with h1 | rfl
    · exact h.all j h1 hid
    · exact hs hid
  · rcases h.no x hx with h1 | h1
    · exact .inl h1
    · exact .inr (h1.mono (by omega))
/-- a new id at place m, and all behind it -/
theorem Went.go {D : Nat → Nd} {len : Nat} {T : Nat → ByteArray} {m i : Nat} {E E1 E2 : DataW Value} (hq : dagB D len = true) (hM : IsMap E1) (h : Went D len T m E E1) (hi : i < len) (hix : (ids D i).toList = (T m).toList) (h2 : Went D len (D i).S (D i).n (putE E1 (T m)) E2) : Went D len T (m + 1) E E2 := by
  have hp := putE_has hM (T m)
  have hbase : Reach D len T (m + 1) (T m).toList := .base m i (Nat.lt_succ_self _) hi hix
  refine ⟨h2.idz, fun x hx => h2.old x ((hp x).2 (.inl (h.old x hx))), fun j hj hid => ?_, fun i' hi' h3 h4 j hj => ?_, fun x hx => ?_⟩
  · rcases Nat.lt_succ_iff_lt_or_eq.1 hj with h1 | rfl
    · exact h2.old _ ((hp _).2 (.inl (h.all j h1 hid)))
    · exact h2.old _ ((hp _).2 (.inr rfl))
  · cases hh : has (putE E1 (T m)) (.string (ids D i').toList) with
    | false => exact h2.ups i' hi' h3 hh j hj
    | true =>
      rcases (hp _).1 hh with h5 | h5
      · exact h2.old _ ((hp _).2 (.inl (h.ups i' hi' h5 h4 j hj)))
      · obtain rfl := rise_inj (dagB_parts hq).2.2.1 hi' hi (h5.symm.trans hix.symm)
        exact h2.all j hj (ups_ids hq hi hj)
  · rcases h2.no x hx with h1 | h1
    · rcases (hp x).1 h1 with h5 | rfl
      · rcases h.no x h5 with h6 | h6
        · exact .inl h6
        · exact .inr (h6.mono (by omega))
      · exact .inr hbase
    · exact .inr (Reach.more hi (by rw [hix]; exact hbase) h1)

theorem look_node {w : World} {B n : Nat} {D : Nat → Nd} {b off k : Nat} (h : w.ownsMap Tryz.prog 9 PR B n (mapD D b off k)) (id : ByteArray) (hs : id.size ≤ 9223372036854775807) :
    ∃ p : Option Addr, (Instr.lookup 61 (.map (some B)) (.string id) false).run Tryz.prog w = .ok (.pointer p) w ∧ (outB (ids D) k id = true → p = none) ∧ (outB (ids D) k id = false → ∃ i, i < k ∧ (ids D i).toList = id.toList ∧ p = some ⟨b, off + i * 6, none⟩) := by
  obtain ⟨v, ps, hrun, hv⟩ := h.lookup (e := 66) lawS Tryz.underlying61 (zeroP w) (zd := .held (.pointer none)) (zp := []) rfl (keyS hs)
  obtain ⟨p, rfl⟩ := PR_inv _ _ hv
  have hp : DataW.held (Value.pointer p) = (mapD D b off k).atKey (keyL id) (.held (.pointer none)) := by
    simp only [PR, Option.some.injEq, Prod.mk.injEq] at hv
    exact hv.1
  refine ⟨p, hrun, fun ho => ?_, fun ho => ?_⟩
  · rw [(mapD_at D b off id k).1 ho] at hp
    simpa using hp
  · obtain ⟨i, hi, e, ha⟩ := (mapD_at D b off id k).2 ho
    rw [ha] at hp
    simp only [ptr, DataW.held.injEq, Value.pointer.injEq] at hp
    exact ⟨i, hi, e, hp⟩

theorem grown_below {w w' : World} {row : Option Nat} (h : Below w.heap.size w w') : w.grownBy w' row := ⟨h.os, h.tape, h.output, h.size, fun k hk _ => h.block k hk⟩
theorem SetOf.kept {w w' : World} {B n : Nat} {E : DataW Value} (h : SetOf w B n E) (he : w'.heap[B]? = w.heap[B]?) : SetOf w' B n E := by
  obtain ⟨es, clock, hb, F, hs, hD⟩ := h
  exact ⟨es, clock, he.trans hb, F, hs, hD⟩

set_option maxHeartbeats 2000000 in
theorem find_any (D : Nat → Nd) (len b off B F bN bF bf : Nat) (hq : dagB D len = true) (hfin : Fine D len) : ∀ (f : Nat) (a : Option Addr) (m cap : Nat) (T : Nat → ByteArray) (E : DataW Value) (w : World), Ctx w D len b off B F bN bF bf → SetOf w F len E → IdSet D len E → IsStrs w a m cap T → (∀ ub uo, a = some ⟨ub, uo, none⟩ → 0 < m → ub ≠ F) → (∀ j, j < m → (T j).size ≤ 9223372036854775807) → len ≤ Maps.size E + f →
    Calls Tryz.prog 81 #[.slice a m cap, .pointer (some ⟨bN, 0, none⟩), .pointer (some ⟨bF, 0, none⟩), .pointer (some ⟨bf, 0, none⟩)] w fun e w' => e = .returned (.tuple #[]) ∧ ∃ E', SetOf w' F len E' ∧ Went D len T m E E' ∧ Maps.size E ≤ Maps.size E' ∧ w.grownBy w' (some F) := by
  intro f
  induction f using Nat.strongRecOn with
  | ind f ih =>
    intro a m cap T E w hC hS hI hT hTn hTs hfu
    have HIH := (show Hid _ from ih)
    have HC : Hid (Ctx w D len b off B F bN bF bf) := hC
    have HT : Hid (IsStrs w a m cap T) := hT
    have HTN : Hid (∀ ub uo, a = some ⟨ub, uo, none⟩ → 0 < m → ub ≠ F) := hTn
    have HFU : Hid (len ≤ Maps.size E + f) := hfu
    have HQ : Hid (dagB D len = true) := hq
    obtain ⟨hlc, hcm, _⟩ := hT
    have hle := (dagB_parts hq).1
    clear ih hC hTn hfu hq
    go_enter Tryz.func81, Tryz.ntmps81
    go_wp2
    go_loopw [10] (fun q wr => ∃ (j : Nat) (E1 : DataW Value), j ≤ m ∧ q = .int .i64 j ∧ SetOf wr F len E1 ∧ Hid (Went D len T j E E1) ∧ Hid (Maps.size E ≤ Maps.size E1) ∧ w.grownBy wr (some F)) (fun q _ => m - (intOf q).toNat)
    case atStart => exact ⟨0, E, Nat.zero_le _, rfl, hS, Went.refl hI, Nat.le_refl _, World.grownBy.refl _ _⟩
    case round =>
      obtain ⟨j, E1, hj, rfl, hS1, HW, HZ, hG⟩ := hrel
      have HS1 : Hid (SetOf wr F len E1) := hS1
      have HG : Hid (w.grownBy wr (some F)) := hG
      have C1 := HC.out.grown hG
      have HC1 : Hid (Ctx wr D len b off B F bN bF bf) := C1
      clear hS hS1
      by_cases hjt : j < m
      · have hjI : (j : Int) < (m : Int) := by omega
        obtain ⟨ub, uo, hu, hubs, hucell⟩ := HT.out.2.2 (by omega)
        have hTj := hTs j hjt
        have d1 : wr.cell? ⟨ub, uo + j, none⟩ = some (.string (T j)) := hG.cell (hucell j hjt) (by simpa using HTN.out ub uo hu (by omega))
        obtain ⟨p, hrun, ho1, ho2⟩ := look_node C1.map (T j) hTj
        have cN := C1.cN
        have cF := C1.cF
        subst hu
        clear hucell hG C1
        cases ho : outB (ids D) len (T j) with
        | true =>
          have hp := ho1 ho
          subst hp
          have HW' : Hid (Went D len T (j + 1) E E1) := HW.out.skip (fun hid => by
            obtain ⟨i, hi, e⟩ := hid
            have := (outB_iff (ids D) (T j) len).2 ⟨i, hi, e⟩
            rw [ho] at this
            cases this)
          clear ho1 ho2 ho HW
          go_wp2
          go_roundw
          case rel => exact ⟨j + 1, E1, by omega, by go_num, HS1.out, HW', HZ, HG.out⟩
          case measure => simp [intOf]; omega
        | false =>
          obtain ⟨i, hi, hix, hp⟩ := ho2 ho
          subst hp
          have HH : Hid (Calls Tryz.prog 82 #[.map (some F), .string (T j)] wr fun e w' => e = .returned (.bool (has E1 (.string (T j).toList))) ∧ Below wr.heap.size wr w') := has71_any F len E1 (T j) wr HS1.out hTj
          clear ho1 ho2 ho
          cases hh : has E1 (.string (T j).toList) with
          | true =>
            have HW' : Hid (Went D len T (j + 1) E E1) := HW.out.skip (fun _ => hh)
            rw [hh] at HH
            clear hh HW
            go_wp2_with (go_at_call 82; refine HH.out.mono ?_; rintro e w2 ⟨rfl, hB2⟩; have HB2 : Hid (Below wr.heap.size wr w2) := hB2; clear hB2)
            go_roundw
            case rel => exact ⟨j + 1, E1, by omega, by go_num, HS1.out.below HB2.out, HW', HZ, HG.out.trans (grown_below HB2.out)⟩
            case measure => simp [intOf]; omega
          | false =>
            rw [hh] at HH
            have hkey : keyOf Tryz.prog 9 (.string (T j)) = some (keyL (T j)) := keyS hTj
            have HM : Hid (IsMap E1) := SetOf.isMap HS1.out
            have HSZ : Hid (Maps.size (putE E1 (T j)) = Maps.size E1 + 1) := putE_size HS1.out hh
            have HIX : Hid ((ids D i).toList = (T j).toList) := hix
            have HI2 : Hid (IdSet D len (putE E1 (T j))) := putE_id (SetOf.isMap HS1.out) HW.out.idz ⟨i, hi, hix⟩
            clear hh hix
            go_wp2_with (first
              | (go_at_call 82
                 refine HH.out.mono ?_
                 rintro e w2 ⟨rfl, hB2⟩
                 have HB2 : Hid (Below wr.heap.size wr w2) := hB2
                 have HS2 : Hid (w2.ownsMap Tryz.prog 9 unitElem F len E1) := HS1.out.below hB2
                 have cF2 : w2.cell? ⟨bF, 0, none⟩ = some (.map (some F)) := (hB2.cell (p := ⟨bF, 0, none⟩) (cell_lt cF)).trans cF
                 clear hB2)
              | (at_mapUpdate
                 refine wpList_mapUpdate_own _ rfl _ _ _ 73 rfl 9 79 lawS Tryz.underlying73 unitElem F len E1 rfl HS2.out (by unfold maxLen; omega) _ _ _ rfl rfl hkey (.agg []) [] unitElem_mk ?_
                 intro w3 hown3 hgrow3))
            have hG23 : wr.grownBy w3 (some F) := (grown_below HB2.out).trans hgrow3
            have C3 := HC1.out.grown hG23
            have HS3 : Hid (SetOf w3 F (len + 1) (putE E1 (T j))) := hown3
            have HG3 : Hid (wr.grownBy w3 (some F)) := hG23
            have HC3 : Hid (Ctx w3 D len b off B F bN bF bf) := C3
            have cf3 := C3.cf
            have c53 := (C3.nd i hi).1.c5
            clear hown3 hgrow3 hG23 C3 cN cF cF2 d1 hrun
            have HDG : Hid (w3.grownBy w3.drew (some F)) := ⟨rfl, rfl, rfl, Nat.le_refl _, fun _ _ _ => rfl⟩
            have hnd := HC3.out.nd i hi
            have HV : Hid (Calls Tryz.prog 81 #[.slice (D i).u (D i).n (D i).cap, .pointer (some ⟨bN, 0, none⟩), .pointer (some ⟨bF, 0, none⟩), .pointer (some ⟨bf, 0, none⟩)] w3.drew fun e w' => e = .returned (.tuple #[]) ∧ ∃ E', SetOf w' F len E' ∧ Went D len (D i).S (D i).n (putE E1 (T j)) E' ∧ Maps.size (putE E1 (T j)) ≤ Maps.size E' ∧ w3.drew.grownBy w' (some F)) := by
              have hz1 := HSZ.out
              have hz2 := HZ.out
              have hz3 := HFU.out
              have hz4 := SetOf.size_le HS3.out HI2.out
              exact HIH.out (len - Maps.size (putE E1 (T j))) (by omega) (D i).u (D i).n (D i).cap (D i).S (putE E1 (T j)) w3.drew (HC3.out.grown HDG.out) (SetOf.tight (SetOf.kept HS3.out rfl) hz4) HI2.out (strs_grown hnd.1.i HDG.out hnd.2.2) hnd.2.2 (hfin i hi).2.2 (by omega)
            have HZZ : Hid (Maps.size E ≤ Maps.size (putE E1 (T j))) := by show _ ≤ _; have := HSZ.out; have := HZ.out; omega
            clear hnd
            go_region_with ((go_at_call 81; refine HV.out.mono ?_; rintro e w4 ⟨rfl, E2, hS4, hW4, hZ4, hG4⟩))
            all_goals
              have HF : Hid (SetOf w4 F len E2 ∧ Went D len T (j + 1) E E2 ∧ Maps.size E ≤ Maps.size E2 ∧ w.grownBy w4 (some F)) := ⟨hS4, Went.go HQ.out HM.out HW.out hi HIX.out hW4, Nat.le_trans HZZ.out hZ4, (HG.out.trans HG3.out).trans (HDG.out.trans hG4)⟩
              clear hS4 hW4 hZ4 hG4 cf3 c53
              go_wp2
              go_roundw
              case rel => exact ⟨j + 1, E2, by omega, by go_num, HF.out.1, HF.out.2.1, HF.out.2.2.1, HF.out.2.2.2⟩
              case measure => simp [intOf]; omega
      · have hje : j = m := by omega
        subst hje
        clear hG C1
        go_wp2
        go_end0
        exact ⟨rfl, E1, HS1.out, HW.out, HZ.out, HG.out⟩
end Go.Proofs.YtjhbccppihledaaGreatDoor

namespace Go.Proofs.YtjhbccppihledaaGreatDoor
open Go.RowKit Go.Maps Go.MapKept Go.ChangeMaps
set_option linter.unusedVariables false

theorem reach_of_went {D : Nat → Nd} {len : Nat} {T : Nat → ByteArray} {m : Nat} {E : DataW Value} (hq : dagB D len = true) (h : Went D len T m (.map []) E) (x : List UInt8) : has E (.string x) = true ↔ Reach D len T m x := by
  constructor
  · intro hx
    rcases h.no x hx with h1 | h1
    · simp [has_eq] at h1
    · exact h1
  · intro hx
    exact hx (fun y => has E (.string y) = true) (fun j i hj hi e => h.all j hj ⟨i, hi, e⟩) (fun i j hi ihx hj => h.ups i hi ihx (by simp [has_eq]) j hj)

set_option maxHeartbeats 1000000 in
theorem idsBehind_any (D : Nat → Nd) (len b off B : Nat) (a : Option Addr) (m cap : Nat) (T : Nat → ByteArray) (w : World) (hq : dagB D len = true) (hfin : Fine D len) (hnd : ∀ i, i < len → NdAt w b (off + i * 6) (D i)) (hmap : w.ownsMap Tryz.prog 9 PR B len (mapD D b off len)) (hT : IsStrs w a m cap T) (hTs : ∀ j, j < m → (T j).size ≤ 9223372036854775807) :
    Calls Tryz.prog 57 #[.map (some B), .slice a m cap] w fun e w' => ∃ F E, e = .returned (.map (some F)) ∧ w.heap.size ≤ F ∧ SetOf w' F len E ∧ (∀ x, has E (.string x) = true ↔ Reach D len T m x) ∧ Below w.heap.size w w' := by
  have hmm := @run_makeMap Tryz.prog
  obtain ⟨W, hW⟩ : ∃ W, W = (((w.alloc (.cells #[.map (some B)] 61)).alloc (.map #[] 0)).alloc (.cells #[.map (some (w.heap.size + 1))] 73)).alloc (.cells #[(.func (.func 81) #[] #[.pointer (some ⟨w.heap.size, 0, none⟩), .pointer (some ⟨w.heap.size + 1 + 1, 0, none⟩), .pointer (some ⟨w.heap.size + 1 + 1 + 1, 0, none⟩)])] 102) := ⟨_, rfl⟩
  have s1 : (w.alloc (.cells #[.map (some B)] 61)).heap.size = w.heap.size + 1 := by simp
  have s2 : ((w.alloc (.cells #[.map (some B)] 61)).alloc (.map #[] 0)).heap.size = w.heap.size + 1 + 1 := by simp
  have s3 : (((w.alloc (.cells #[.map (some B)] 61)).alloc (.map #[] 0)).alloc (.cells #[.map (some (w.heap.size + 1))] 73)).heap.size = w.heap.size + 1 + 1 + 1 := by simp
  have g3 : W.heap[w.heap.size + 1 + 1 + 1]? = some (.cells #[(.func (.func 81) #[] #[.pointer (some ⟨w.heap.size, 0, none⟩), .pointer (some ⟨w.heap.size + 1 + 1, 0, none⟩), .pointer (some ⟨w.heap.size + 1 + 1 + 1, 0, none⟩)])] 102) := by rw [hW, ← s3]; exact heap_alloc_new _ _
  have g2 : W.heap[w.heap.size + 1 + 1]? = some (.cells #[.map (some (w.heap.size + 1))] 73) := by
    rw [hW, Below.heap_alloc _ _ _ (by rw [s3]; omega), ← s2]; exact heap_alloc_new _ _
  have g1 : W.heap[w.heap.size + 1]? = some (.map #[] 0) := by
    rw [hW, Below.heap_alloc _ _ _ (by rw [s3]; omega), Below.heap_alloc _ _ _ (by rw [s2]; omega), ← s1]; exact heap_alloc_new _ _
  have g0 : W.heap[w.heap.size]? = some (.cells #[.map (some B)] 61) := by
    rw [hW, Below.heap_alloc _ _ _ (by rw [s3]; omega), Below.heap_alloc _ _ _ (by rw [s2]; omega), Below.heap_alloc _ _ _ (by rw [s1]; omega)]; exact heap_alloc_new _ _
  have hBW : Below w.heap.size w W := by
    rw [hW]
    exact ((((Below.refl _ _).alloc (Nat.le_refl _) _).alloc (by rw [s1]; omega) _).alloc (by rw [s2]; omega) _).alloc (by rw [s3]; omega) _
  have hC : Ctx W D len b off B (w.heap.size + 1) w.heap.size (w.heap.size + 1 + 1) (w.heap.size + 1 + 1 + 1) := by
    refine ⟨fun i hi => ⟨(hnd i hi).below hBW, ?_, fun ub uo hu hp => ?_⟩, ownsMap_below hmap hBW, cellN g0, cellN g2, cellN g3, ?_, by omega, by omega, by omega⟩
    · have := cell_lt (hnd i hi).c0
      omega
    · obtain ⟨b', o', e, hb', _⟩ := (hnd i hi).i.2.2 hp
      rw [hu] at e
      simp only [Option.some.injEq, Addr.mk.injEq, and_true] at e
      have := e.1
      omega
    · have := hmap.lt
      omega
  have hS : SetOf W (w.heap.size + 1) len (.map []) := World.ownsMap.mono (n := 0) ⟨#[], 0, g1, ⟨by simp, stamped_empty 0, by simp⟩, Nat.le_refl _, rfl⟩ (Nat.zero_le _)
  have hI : IdSet D len (.map []) := fun x hx => by simp [has_eq] at hx
  have HK : Hid (Calls Tryz.prog 81 #[.slice a m cap, .pointer (some ⟨w.heap.size, 0, none⟩), .pointer (some ⟨w.heap.size + 1 + 1, 0, none⟩), .pointer (some ⟨w.heap.size + 1 + 1 + 1, 0, none⟩)] W fun e w' => e = .returned (.tuple #[]) ∧ ∃ E', SetOf w' (w.heap.size + 1) len E' ∧ Went D len T m (.map []) E' ∧ Maps.size (.map [] : DataW Value) ≤ Maps.size E' ∧ W.grownBy w' (some (w.heap.size + 1))) :=
    find_any D len b off B _ _ _ _ hq hfin len a m cap T _ W hC hS hI (hT.below hBW) (fun ub uo hu hp => by
      obtain ⟨b', o', e, hb', _⟩ := hT.2.2 hp
      rw [hu] at e
      simp only [Option.some.injEq, Addr.mk.injEq, and_true] at e
      have := e.1
      omega) hTs (by omega)
  have HG2 : Hid (W.cell? ⟨w.heap.size + 1 + 1, 0, none⟩ = some (.map (some (w.heap.size + 1)))) := cellN g2
  have HBW : Hid (Below w.heap.size w W) := hBW
  have HW : Hid (W = (((w.alloc (.cells #[.map (some B)] 61)).alloc (.map #[] 0)).alloc (.cells #[.map (some (w.heap.size + 1))] 73)).alloc (.cells #[(.func (.func 81) #[] #[.pointer (some ⟨w.heap.size, 0, none⟩), .pointer (some ⟨w.heap.size + 1 + 1, 0, none⟩), .pointer (some ⟨w.heap.size + 1 + 1 + 1, 0, none⟩)])] 102)) := hW
  clear s1 s2 s3 g0 g1 g2 g3 hBW hC hS hI hT hTs hnd hmap hW
  go_enter Tryz.func57, Tryz.ntmps57
  go_wp2_with fail
  rw [← HW.out]
  refine HK.out.mono ?_
  rintro e w2 ⟨rfl, E, hS2, hW2, _, hG2⟩
  have c2 : w2.cell? ⟨w.heap.size + 1 + 1, 0, none⟩ = some (.map (some (w.heap.size + 1))) := hG2.cell HG2.out (by simp)
  have HF : Hid (SetOf w2 (w.heap.size + 1) len E ∧ Went D len T m (.map []) E ∧ Below w.heap.size w w2) := ⟨hS2, hW2, HBW.out.grown hG2 HBW.out.size (fun k hk => by cases hk; omega)⟩
  clear hS2 hW2 hG2
  go_wp2
  go_ret
  exact ⟨w.heap.size + 1, E, rfl, by omega, HF.out.1, reach_of_went hq HF.out.2.1, HF.out.2.2⟩

set_option maxHeartbeats 1000000 in
theorem implBehind_any (a : Option Addr) (len cap : Nat) (D : Nat → Nd) (u : Option Addr) (m uc : Nat) (T : Nat → ByteArray) (w : World) (h : IsNds w a len cap D) (hf : Fine D len) (hT : IsStrs w u m uc T) (hTs : ∀ j, j < m → (T j).size ≤ 9223372036854775807) (hP : AllT w) :
    Calls Tryz.prog 26 #[.slice a len cap, .slice u m uc] w fun e w' => ∃ v L, e = .returned v ∧ OwnL w' w.heap.size v L ∧ Up L ∧ (∀ x, x ∈ L ↔ dagB D len = true ∧ m ≤ 30 ∧ Reach D len T m x) ∧ Below w.heap.size w w' := by
  have HN : Hid (IsNds w a len cap D) := h
  have HF : Hid (Fine D len) := hf
  have HT : Hid (IsStrs w u m uc T) := hT
  have HTS : Hid (∀ j, j < m → (T j).size ≤ 9223372036854775807) := hTs
  obtain ⟨hlc, hcm, _⟩ := hT
  have HD : Hid (Calls Tryz.prog 45 #[.slice a len cap] w fun e w' => ∃ v, e = .returned (.tuple #[v, .bool (dagB D len)]) ∧ (dagB D len = true → ∃ B b off, v = .map (some B) ∧ w.heap.size ≤ B ∧ (0 < len → a = some ⟨b, off, none⟩) ∧ w'.ownsMap Tryz.prog 9 PR B len (mapD D b off len)) ∧ Below w.heap.size w w') := dagOf_any a len cap D w h hf hP
  clear h hf hTs
  cases hq : dagB D len with
  | false =>
    rw [hq] at HD
    go_enter Tryz.func26, Tryz.ntmps26
    go_wp2_with (go_at_call 45; refine HD.out.mono ?_; rintro e w1 ⟨v, rfl, _, hB1⟩)
    go_ret
    exact ⟨_, [], rfl, World.ownsRow_nil _ _ _ _, by simp [Up], fun x => by simp, hB1⟩
  | true =>
    have HQ : Hid (dagB D len = true) := hq
    rw [hq] at HD
    by_cases hm : 30 < m
    · have hmI : (30 : Int) < (m : Int) := by omega
      have HM : Hid (¬ m ≤ 30) := by show ¬ _; omega
      clear hm
      go_enter Tryz.func26, Tryz.ntmps26
      go_wp2_with (go_at_call 45; refine HD.out.mono ?_; rintro e w1 ⟨v, rfl, _, hB1⟩)
      go_ret
      exact ⟨_, [], rfl, World.ownsRow_nil _ _ _ _, by simp [Up], fun x => by simp [HM.out], hB1⟩
    · have hmI : decide ((30 : Int) < (m : Int)) = false := by simp; omega
      have HM : Hid (m ≤ 30) := by show _ ≤ _; omega
      clear hm
      go_enter Tryz.func26, Tryz.ntmps26
      go_wp2_with (first
        | (go_at_call 45
           refine HD.out.mono ?_
           rintro e w1 ⟨v, rfl, hmp, hB1⟩
           obtain ⟨B, b, off, rfl, hBB, hab, hown⟩ := hmp rfl
           have HB1 : Hid (Below w.heap.size w w1) := hB1
           have HK : Hid (Calls Tryz.prog 57 #[.map (some B), .slice u m uc] w1 fun e w' => ∃ F E, e = .returned (.map (some F)) ∧ w1.heap.size ≤ F ∧ SetOf w' F len E ∧ (∀ x, has E (.string x) = true ↔ Reach D len T m x) ∧ Below w1.heap.size w1 w') := idsBehind_any D len b off B u m uc T w1 HQ.out HF.out (fun i hi => dag_at (HN.out.below hB1) (hab (by omega)) i hi) hown (HT.out.below hB1) HTS.out
           clear hown hB1 hab hmp)
        | (go_at_call 57
           refine HK.out.mono ?_
           rintro e w2 ⟨F, E, rfl, hF, hS, hR, hB2⟩
           have HS : Hid (w2.ownsMap Tryz.prog 9 unitElem F len E) := hS
           have HR : Hid (∀ x, has E (.string x) = true ↔ Reach D len T m x) := hR
           have HB2 : Hid (Below w.heap.size w w2) := HB1.out.trans (hB2.mono HB1.out.size)
           clear hS hR hB2)
        | (go_at_call 56; refine (Tryz.maps_Keys_44 _ _).mono ?_; rintro e w' ⟨rfl, hw'⟩; rw [hw']; clear hw' w')
        | (go_at_call 49; refine (sorted44 F len E unitElem _ HS.out (by have := (dagB_parts HQ.out).1; omega)).mono ?_; rintro e w4 ⟨v, L, rfl, hU, hM, hO4, hB4⟩))
      go_ret
      refine ⟨v, L, rfl, mono_base hO4 HB2.out.size, hU, fun x => ?_, HB2.out.trans (hB4.mono HB2.out.size)⟩
      rw [hM x, HR.out x]
      simp [HM.out]
end Go.Proofs.YtjhbccppihledaaGreatDoor
