/-
  The program's reader of terms, its small methods: next, skip, number. They return what plain data says, or panic with the reader's own word. No condition but that the reader lies in memory.
-/
import Derived.Test.YtcolcnkjcagbaaaDoorDec
import Derived.Lib.Bytealg
import Derived.Lib.Strings
import Derived.Lib.IndexBytes
namespace Go.Proofs.YtcolcnkjcagbaaaDoor
open Go.RowKit
set_option linter.unusedVariables false

/-- all blocks of w but R lie in w' as they lay -/
structure Mut (R : Nat) (w w' : World) : Prop where
  os : w'.os = w.os
  tape : w'.tape = w.tape
  output : w'.output = w.output
  size : w.heap.size ≤ w'.heap.size
  block : ∀ k, k < w.heap.size → k ≠ R → w'.heap[k]? = w.heap[k]?

theorem Mut.refl (R : Nat) (w : World) : Mut R w w := ⟨rfl, rfl, rfl, Nat.le_refl _, fun _ _ _ => rfl⟩
theorem Mut.trans {R : Nat} {a b c : World} (h : Mut R a b) (k : Mut R b c) : Mut R a c :=
  ⟨k.os.trans h.os, k.tape.trans h.tape, k.output.trans h.output, Nat.le_trans h.size k.size, fun i hi hr => (k.block i (Nat.lt_of_lt_of_le hi h.size) hr).trans (h.block i hi hr)⟩
theorem Mut.setCell {R : Nat} {a w : World} (h : Mut R a w) (o : Nat) (u : Value) : Mut R a (w.setCell ⟨R, o, none⟩ u) :=
  h.trans ⟨rfl, rfl, rfl, by simp [World.setCell], fun k _ hr => Below.heap_setCell _ _ _ _ hr⟩
theorem Mut.alloc {R : Nat} {a w : World} (h : Mut R a w) (o : Obj) : Mut R a (w.alloc o) :=
  h.trans ⟨rfl, rfl, rfl, by simp, fun k hk _ => Below.heap_alloc _ _ _ hk⟩
theorem Mut.drewN {R : Nat} {a w : World} (h : Mut R a w) (n : Nat) : Mut R a (w.drewN n) := h.trans ⟨rfl, rfl, rfl, Nat.le_refl _, fun _ _ _ => rfl⟩
theorem Mut.below {R B : Nat} {w w' : World} (h : Mut R w w') (hR : B ≤ R) (hB : B ≤ w.heap.size) : Below B w w' :=
  ⟨h.os, h.tape, h.output, h.size, fun k hk => h.block k (by omega) (by omega)⟩

/-- the reader in block R: the text s, the place at, so many nodes -/
def Rd (w : World) (R : Nat) (s : ByteArray) (i nd : Int) : Prop := w.heap[R]? = some (.cells #[.string s, .int .i64 i, .int .i64 nd] 88 (0, 0))

theorem Rd.lt {w : World} {R : Nat} {s : ByteArray} {i nd : Int} (h : Rd w R s i nd) : R < w.heap.size := lt_of_block h
theorem Rd.c0 {w : World} {R : Nat} {s : ByteArray} {i nd : Int} (h : Rd w R s i nd) : w.cell? ⟨R, 0, none⟩ = some (.string s) := by unfold Rd at h; simp [World.cell?, h]
theorem Rd.c1 {w : World} {R : Nat} {s : ByteArray} {i nd : Int} (h : Rd w R s i nd) : w.cell? ⟨R, 1, none⟩ = some (.int .i64 i) := by unfold Rd at h; simp [World.cell?, h]
theorem Rd.c2 {w : World} {R : Nat} {s : ByteArray} {i nd : Int} (h : Rd w R s i nd) : w.cell? ⟨R, 2, none⟩ = some (.int .i64 nd) := by unfold Rd at h; simp [World.cell?, h]
theorem Rd.f1 {w : World} {R : Nat} {s : ByteArray} {i nd : Int} (h : Rd w R s i nd) (o : Nat) : w.frozen? ⟨R, o, none⟩ = false := by unfold Rd at h; simp [World.frozen?, h]
theorem Rd.set1 {w : World} {R : Nat} {s : ByteArray} {i nd : Int} (h : Rd w R s i nd) (j : Int) : Rd (w.setCell ⟨R, 1, none⟩ (.int .i64 j)) R s j nd := by
  unfold Rd at *
  rw [heap_setCell_same w R 1 _ 88 _ h]
  rfl
theorem Rd.set2 {w : World} {R : Nat} {s : ByteArray} {i nd : Int} (h : Rd w R s i nd) (j : Int) : Rd (w.setCell ⟨R, 2, none⟩ (.int .i64 j)) R s i j := by
  unfold Rd at *
  rw [heap_setCell_same w R 2 _ 88 _ h]
  rfl
theorem Rd.drewN {w : World} {R : Nat} {s : ByteArray} {i nd : Int} (h : Rd w R s i nd) (n : Nat) : Rd (w.drewN n) R s i nd := h
theorem Rd.alloc {w : World} {R : Nat} {s : ByteArray} {i nd : Int} (h : Rd w R s i nd) (o : Obj) : Rd (w.alloc o) R s i nd := by
  unfold Rd at *
  rw [Below.heap_alloc _ _ _ (lt_of_block h)]
  exact h

/-- the word with which the reader gives up -/
def noWord : List PanicEntry := [{ v := .iface 9 (.string { data := #[110, 111, 32, 116, 101, 114, 109] }), recovered := false }]

set_option maxHeartbeats 400000 in
theorem next_in (R : Nat) (s : ByteArray) (i : Nat) (nd : Int) (w : World) (h : Rd w R s i nd) (hlt : i < s.size) (hs : s.size ≤ 1048576) :
    Calls Tryd.prog 54 #[.pointer (some ⟨R, 0, none⟩)] w fun e w' => e = .returned (.int .u8 (bt s i)) ∧ Rd w' R s ((i : Int) + 1) nd ∧ Mut R w w' := by
  have c0 := h.c0
  have c1 := h.c1
  have c2 := h.c2
  have f1 := h.f1 1
  have hge : decide ((s.size : Int) ≤ (i : Int)) = false := by simp; omega
  have hbt := bt_in hlt
  have hltI : (i : Int) < (s.size : Int) := by omega
  have HR : Hid (Rd w R s i nd) := h
  clear h
  go_enter Tryd.func54, Tryd.ntmps54
  go_wp2
  go_quiet (fail)
  go_wp2
  go_quiet (fail)
  go_wp2
  go_ret
  exact ⟨rfl, ((HR.out.drewN _).set1 _).drewN _, ((((Mut.refl R w).drewN _).setCell 1 _).drewN _)⟩

set_option maxHeartbeats 400000 in
theorem next_out (R : Nat) (s : ByteArray) (i : Nat) (nd : Int) (w : World) (h : Rd w R s i nd) (hge : s.size ≤ i) (hi : i ≤ 1048576) :
    Calls Tryd.prog 54 #[.pointer (some ⟨R, 0, none⟩)] w fun e w' => e = .panicked noWord ∧ Mut R w w' := by
  have c0 := h.c0
  have c1 := h.c1
  have c2 := h.c2
  have f1 := h.f1 1
  have hgeI : (s.size : Int) ≤ (i : Int) := by omega
  have hged : decide ((s.size : Int) ≤ (i : Int)) = true := by simp; omega
  clear h
  go_enter Tryd.func54, Tryd.ntmps54
  go_wp2
  go_quiet (fail)
  go_wp2
  exact ⟨rfl, rfl, (Mut.refl R w).drewN _⟩

theorem hasPrefix_lite (t p : ByteArray) (w : World) (ht : t.size ≤ 1048576) (hp : p.size ≤ 1048576) :
    Calls Tryd.prog 65 #[.string t, .string p] w fun e w' => e = .returned (.bool (Lib.hasPrefix t.data.toList p.data.toList)) ∧ w' = w := by
  have hraw : Hid ((decide (p.size ≤ t.size) && ((t.extract 0 p.size).toList == p.toList)) = Lib.hasPrefix t.data.toList p.data.toList) := Lib.hasPrefix_raw t p
  by_cases hle : p.size ≤ t.size
  · have hpI : decide ((p.size : Int) ≤ (t.size : Int)) = true := by simp; omega
    have hr : Hid (Lib.hasPrefix t.data.toList p.data.toList = ((t.extract 0 p.size).toList == p.toList)) := by
      show _ = _
      rw [← hraw.out]; simp [hle]
    go_enter Tryd.func65, Tryd.ntmps65
    go_wp2
    go_ret
    exact ⟨ret_bool hr.out.symm, rfl⟩
  · have hpI : decide ((p.size : Int) ≤ (t.size : Int)) = false := by simp; omega
    have hr : Hid (Lib.hasPrefix t.data.toList p.data.toList = false) := by
      show _ = _
      rw [← hraw.out]; simp [hle]
    have hle' : (t.size : Int) < (p.size : Int) := by omega
    clear hle
    go_enter Tryd.func65, Tryd.ntmps65
    go_wp2
    go_ret
    exact ⟨ret_bool hr.out.symm, rfl⟩

theorem hasPrefix_any (t p : ByteArray) (w : World) (ht : t.size ≤ 1048576) (hp : p.size ≤ 1048576) :
    Calls Tryd.prog 63 #[.string t, .string p] w fun e w' => e = .returned (.bool (Lib.hasPrefix t.data.toList p.data.toList)) ∧ w' = w := by
  go_enter Tryd.func63, Tryd.ntmps63
  go_wp2_with (go_at_call 65; refine (hasPrefix_lite t p _ ht hp).mono ?_; rintro e w' ⟨rfl, rfl⟩)
  go_ret
  exact ⟨rfl, rfl⟩

/-- the sign p stands in s at place i -/
def preB (s : ByteArray) (i : Nat) (p : ByteArray) : Bool := Lib.hasPrefix (s.data.toList.drop i) p.data.toList

theorem hasPrefix_from (s p : ByteArray) (i : Nat) (w : World) (hs : s.size ≤ 1048576) (hi : i ≤ s.size) (hp : p.size ≤ 1048576) :
    Calls Tryd.prog 63 #[.string (s.extract i s.size), .string p] w fun e w' => e = .returned (.bool (preB s i p)) ∧ w' = w := by
  have h := hasPrefix_any (s.extract i s.size) p w (by simp; omega) hp
  rwa [Lib.extract_to_end] at h

set_option maxHeartbeats 400000 in
theorem skip_in (R : Nat) (s p : ByteArray) (i : Nat) (nd : Int) (w : World) (h : Rd w R s i nd) (hi : i ≤ s.size) (hs : s.size ≤ 1048576) (hp : p.size ≤ 1048576) (hpre : preB s i p = true) :
    Calls Tryd.prog 56 #[.pointer (some ⟨R, 0, none⟩), .string p] w fun e w' => e = .returned (.tuple #[]) ∧ Rd w' R s ((i : Int) + p.size) nd ∧ Mut R w w' := by
  have c0 := h.c0
  have c1 := h.c1
  have f1 := h.f1 1
  have hiI : (i : Int) ≤ (s.size : Int) := by omega
  have HR : Hid (Rd w R s i nd) := h
  clear h
  go_enter Tryd.func56, Tryd.ntmps56
  go_wp2
  go_quiet ((go_at_call 63; refine (hasPrefix_from s p i _ hs hi hp).mono ?_; rintro e w1 ⟨rfl, rfl⟩; rw [hpre]; exact ⟨rfl, _, rfl⟩))
  go_wp2
  go_end0
  exact ⟨rfl, (HR.out.drewN _).set1 _, (((Mut.refl R w).drewN _).setCell 1 _)⟩

set_option maxHeartbeats 400000 in
theorem skip_out (R : Nat) (s p : ByteArray) (i : Nat) (nd : Int) (w : World) (h : Rd w R s i nd) (hi : i ≤ s.size) (hs : s.size ≤ 1048576) (hp : p.size ≤ 1048576) (hpre : preB s i p = false) :
    Calls Tryd.prog 56 #[.pointer (some ⟨R, 0, none⟩), .string p] w fun e w' => e = .panicked noWord ∧ Mut R w w' := by
  have c0 := h.c0
  have c1 := h.c1
  have f1 := h.f1 1
  have hiI : (i : Int) ≤ (s.size : Int) := by omega
  clear h
  go_enter Tryd.func56, Tryd.ntmps56
  go_wp2
  go_quiet ((go_at_call 63; refine (hasPrefix_from s p i _ hs hi hp).mono ?_; rintro e w1 ⟨rfl, rfl⟩; rw [hpre]; exact ⟨rfl, _, rfl⟩))
  go_wp2
  exact ⟨rfl, rfl, (Mut.refl R w).drewN _⟩

/-- the digits that stand in s from place i on end at place j -/
def IsEnd (s : ByteArray) (i j : Nat) : Prop := i ≤ j ∧ j ≤ s.size ∧ (∀ t, i ≤ t → t < j → digB (bt s t) = true) ∧ (j < s.size → digB (bt s j) = false)

theorem IsEnd.unique {s : ByteArray} {i j j' : Nat} (h : IsEnd s i j) (h' : IsEnd s i j') : j = j' := by
  obtain ⟨a1, a2, a3, a4⟩ := h
  obtain ⟨b1, b2, b3, b4⟩ := h'
  rcases Nat.lt_trichotomy j j' with hl | he | hg
  · have := b3 j a1 hl
    rw [a4 (by omega)] at this
    cases this
  · exact he
  · have := a3 j' b1 hg
    rw [b4 (by omega)] at this
    cases this

def dEndF (s : ByteArray) : Nat → Nat → Nat
  | 0, i => i
  | f + 1, i => if digB (bt s i) = true then dEndF s f (i + 1) else i
def dEnd (s : ByteArray) (i : Nat) : Nat := dEndF s (s.size - i) i

theorem dEndF_is (s : ByteArray) : ∀ (f i : Nat), f + i = s.size → IsEnd s i (dEndF s f i)
  | 0, i, h => ⟨Nat.le_refl _, by simp [dEndF]; omega, fun t h1 h2 => by simp [dEndF] at h2; omega, fun h2 => by simp [dEndF] at h2; omega⟩
  | f + 1, i, h => by
    unfold dEndF
    by_cases hd : digB (bt s i) = true
    · rw [if_pos hd]
      obtain ⟨a1, a2, a3, a4⟩ := dEndF_is s f (i + 1) (by omega)
      refine ⟨by omega, a2, fun t h1 h2 => ?_, a4⟩
      by_cases ht : t = i
      · subst ht; exact hd
      · exact a3 t (by omega) h2
    · rw [if_neg hd]
      exact ⟨Nat.le_refl _, by omega, fun t h1 h2 => by omega, fun _ => by simpa using hd⟩
theorem dEnd_is (s : ByteArray) (i : Nat) (h : i ≤ s.size) : IsEnd s i (dEnd s i) := dEndF_is s _ i (by omega)
theorem dEnd_of {s : ByteArray} {i j : Nat} (h : IsEnd s i j) : dEnd s i = j := (dEnd_is s i (by have := h.1; have := h.2.1; omega)).unique h

/-- the number that stands in s at place i, and where it ends -/
def numR (s : ByteArray) (i : Nat) : Option (Int × Nat) :=
  if (rdec (s.extract i (dEnd s i))).2 = true ∧ (rdec (s.extract i (dEnd s i))).1 ≤ 999 then some ((rdec (s.extract i (dEnd s i))).1, dEnd s i) else none

/-- how number ends -/
def NumPost (R : Nat) (s : ByteArray) (nd : Int) (w : World) : Option (Int × Nat) → Ending → World → Prop
  | some (n, j), e, w' => e = .returned (.int .i64 n) ∧ Rd w' R s j nd ∧ Mut R w w'
  | none, e, w' => e = .panicked noWord ∧ Mut R w w'

/-- the place that the reader in block R is at -/
def atOf (R : Nat) (w : World) : Nat := match w.cell? ⟨R, 1, none⟩ with | some v => (intOf v).toNat | none => 0
theorem atOf_rd {w : World} {R : Nat} {s : ByteArray} {i nd : Int} (h : Rd w R s i nd) : atOf R w = i.toNat := by unfold atOf; rw [h.c1]; rfl

set_option maxHeartbeats 1000000 in
theorem number_any (R : Nat) (s : ByteArray) (i : Nat) (nd : Int) (w : World) (h : Rd w R s i nd) (hi : i ≤ s.size) (hs : s.size ≤ 1048576) :
    Calls Tryd.prog 55 #[.pointer (some ⟨R, 0, none⟩)] w fun e w' => NumPost R s nd w (numR s i) e w' := by
  have c0 := h.c0
  have c1 := h.c1
  have HR : Hid (Rd w R s i nd) := h
  clear h
  go_enter Tryd.func55, Tryd.ntmps55
  go_wp2
  go_loopw [31] (fun _ wr => ∃ j : Nat, i ≤ j ∧ j ≤ s.size ∧ Hid (∀ t, i ≤ t → t < j → digB (bt s t) = true) ∧ Rd wr R s j nd ∧ Mut R w wr) (fun _ wr => s.size - atOf R wr)
  case atStart => exact ⟨i, Nat.le_refl _, hi, fun t h1 h2 => absurd h1 (by omega), HR.out, Mut.refl _ _⟩
  case round =>
    obtain ⟨j, hij, hjs, hds, hR, hM⟩ := hrel
    have c0' := hR.c0
    have c1' := hR.c1
    have f1' := hR.f1 1
    have HRj : Hid (Rd wr R s j nd) := hR
    have HM : Hid (Mut R w wr) := hM
    clear hR hM c0 c1
    by_cases hlt : j < s.size
    · have hltI : (j : Int) < (s.size : Int) := by omega
      have hltd : decide ((j : Int) < (s.size : Int)) = true := by simpa using hltI
      have hbj := bt_in hlt
      by_cases hdg : digB (bt s j) = true
      · have hds' : Hid (∀ t, i ≤ t → t < j + 1 → digB (bt s t) = true) := by
          intro t h1 h2
          rcases Nat.lt_succ_iff_lt_or_eq.1 h2 with h3 | rfl
          · exact hds.out t h1 h3
          · exact hdg
        go_wp2
        go_quiet ((go_at_call 61; refine (isDigit_any _ _).mono ?_; rintro e w1 ⟨rfl, rfl⟩; rw [hdg]; exact ⟨rfl, _, rfl⟩))
        go_wp2
        go_roundw
        case rel => exact ⟨j + 1, by omega, by omega, hds', (HRj.out.drewN _).set1 _, ((HM.out.drewN _).setCell 1 _)⟩
        case measure =>
          rw [atOf_rd HRj.out, atOf_rd ((HRj.out.drewN _).set1 _)]
          omega
      · have hdg : digB (bt s j) = false := by simpa using hdg
        have hEnd : IsEnd s i j := ⟨hij, hjs, hds.out, fun _ => hdg⟩
        go_wp2
        go_quiet ((go_at_call 61; refine (isDigit_any _ _).mono ?_; rintro e w1 ⟨rfl, rfl⟩; rw [hdg]; exact ⟨rfl, _, rfl⟩))
        have hE : dEnd s i = j := dEnd_of hEnd
        have hNR : Hid (numR s i = if (rdec (s.extract i j)).2 = true ∧ (rdec (s.extract i j)).1 ≤ 999 then some ((rdec (s.extract i j)).1, j) else none) := by
          show _ = _
          unfold numR
          rw [hE]
        clear hE hEnd
        have hxs : (s.extract i j).size ≤ 1048576 := by simp; omega
        have hjI : (j : Int) ≤ (s.size : Int) := by omega
        have hijI : (i : Int) ≤ (j : Int) := by omega
        go_wp2
        go_quiet ((go_at_call 62; refine (readDecimal_any _ _ hxs).mono ?_; rintro e w1 ⟨rfl, rfl⟩; exact ⟨rfl, _, rfl⟩))
        cases hrd : rdec (s.extract i j) with
        | mk n ok =>
        rw [hrd] at hNR
        dsimp only at hNR ⊢
        clear hrd
        cases ok with
        | false =>
          go_wp2
          refine ⟨rfl, ?_⟩
          rw [hNR.out]
          exact ⟨rfl, HM.out.drewN _⟩
        | true =>
          by_cases hn : (999 : Int) < n
          · rw [if_neg (by omega)] at hNR
            go_wp2
            refine ⟨rfl, ?_⟩
            rw [hNR.out]
            exact ⟨rfl, HM.out.drewN _⟩
          · rw [if_pos ⟨rfl, by omega⟩] at hNR
            go_wp2
            go_ret
            rw [hNR.out]
            exact ⟨rfl, HRj.out, HM.out.drewN _⟩
    · have hltI : (s.size : Int) ≤ (j : Int) := by omega
      have hltd : decide ((j : Int) < (s.size : Int)) = false := by simp; omega
      have hEnd : IsEnd s i j := ⟨hij, hjs, hds.out, fun h => absurd h hlt⟩
      go_wp2
      go_quiet (fail)
      have hE : dEnd s i = j := dEnd_of hEnd
      have hNR : Hid (numR s i = if (rdec (s.extract i j)).2 = true ∧ (rdec (s.extract i j)).1 ≤ 999 then some ((rdec (s.extract i j)).1, j) else none) := by
        show _ = _
        unfold numR
        rw [hE]
      clear hE hEnd
      have hxs : (s.extract i j).size ≤ 1048576 := by simp; omega
      have hjI : (j : Int) ≤ (s.size : Int) := by omega
      have hijI : (i : Int) ≤ (j : Int) := by omega
      go_wp2
      go_quiet ((go_at_call 62; refine (readDecimal_any _ _ hxs).mono ?_; rintro e w1 ⟨rfl, rfl⟩; exact ⟨rfl, _, rfl⟩))
      cases hrd : rdec (s.extract i j) with
      | mk n ok =>
      rw [hrd] at hNR
      dsimp only at hNR ⊢
      clear hrd
      cases ok with
      | false =>
        go_wp2
        refine ⟨rfl, ?_⟩
        rw [hNR.out]
        exact ⟨rfl, HM.out.drewN _⟩
      | true =>
        by_cases hn : (999 : Int) < n
        · rw [if_neg (by omega)] at hNR
          go_wp2
          refine ⟨rfl, ?_⟩
          rw [hNR.out]
          exact ⟨rfl, HM.out.drewN _⟩
        · rw [if_pos ⟨rfl, by omega⟩] at hNR
          go_wp2
          go_ret
          rw [hNR.out]
          exact ⟨rfl, HRj.out, HM.out.drewN _⟩

end Go.Proofs.YtcolcnkjcagbaaaDoor
