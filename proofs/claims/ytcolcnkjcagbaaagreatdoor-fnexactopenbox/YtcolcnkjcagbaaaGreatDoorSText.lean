/-
  The specification's l1Text gives a tree's text, where the tree sits in the nodes. No condition but that the slices read.
-/
import Derived.Test.YtcolcnkjcagbaaaGreatDoorSDec
namespace Go.Proofs.YtcolcnkjcagbaaaGreatDoor
open Go.RowKit
set_option linter.unusedVariables false

/-- a term -/
structure Tr where
  of : (Nat × Nat) ⊕ Tr ⊕ (Tr × Tr) ⊕ (Nat × Nat × Tr)

namespace Tr
def size : Tr → Nat
  | ⟨.inl (_, _)⟩ => 1
  | ⟨.inr (.inl t)⟩ => t.size + 1
  | ⟨.inr (.inr (.inl (t, u)))⟩ => t.size + u.size + 1
  | ⟨.inr (.inr (.inr (_, _, t)))⟩ => t.size + 1

/-- kinds are kinds, numbers are at most 999 -/
def Ok : Tr → Prop
  | ⟨.inl (k, n)⟩ => (k = 1 ∨ k = 2 ∨ k = 3) ∧ n ≤ 999
  | ⟨.inr (.inl t)⟩ => t.Ok
  | ⟨.inr (.inr (.inl (t, u)))⟩ => t.Ok ∧ u.Ok
  | ⟨.inr (.inr (.inr (k, n, t)))⟩ => (k = 6 ∨ k = 7) ∧ n ≤ 999 ∧ t.Ok

def head : Nat → ByteArray
  | 1 => ⟨#[97]⟩
  | 2 => ⟨#[107]⟩
  | 3 => ⟨#[118]⟩
  | 6 => ⟨#[101, 40, 107]⟩
  | _ => ⟨#[115, 40, 107]⟩

def txt : Tr → ByteArray
  | ⟨.inl (k, n)⟩ => head k ++ decB n
  | ⟨.inr (.inl t)⟩ => (⟨#[104, 40]⟩ ++ t.txt) ++ ⟨#[41]⟩
  | ⟨.inr (.inr (.inl (t, u)))⟩ => (((⟨#[112, 40]⟩ ++ t.txt) ++ ⟨#[44]⟩) ++ u.txt) ++ ⟨#[41]⟩
  | ⟨.inr (.inr (.inr (k, n, t)))⟩ => (((head k ++ decB n) ++ ⟨#[44]⟩) ++ t.txt) ++ ⟨#[41]⟩

/-- the nodes of a term that begins at place o -/
def flat : Tr → Nat → List Nd
  | ⟨.inl (k, n)⟩, _ => [((k : Int), (n : Int), 0, 0)]
  | ⟨.inr (.inl t)⟩, o => t.flat o ++ [(4, 0, ((o + t.size : Nat) : Int) - 1, 0)]
  | ⟨.inr (.inr (.inl (t, u)))⟩, o => t.flat o ++ u.flat (o + t.size) ++ [(5, 0, ((o + t.size : Nat) : Int) - 1, ((o + t.size + u.size : Nat) : Int) - 1)]
  | ⟨.inr (.inr (.inr (k, n, t)))⟩, o => t.flat o ++ [((k : Int), (n : Int), ((o + t.size : Nat) : Int) - 1, 0)]

theorem size_pos : ∀ t : Tr, 1 ≤ t.size
  | ⟨.inl (_, _)⟩ => Nat.le_refl _
  | ⟨.inr (.inl t)⟩ => by unfold size; omega
  | ⟨.inr (.inr (.inl (t, u)))⟩ => by unfold size; omega
  | ⟨.inr (.inr (.inr (_, _, t)))⟩ => by unfold size; omega

theorem flat_length : ∀ (t : Tr) (o : Nat), (t.flat o).length = t.size
  | ⟨.inl (_, _)⟩, o => rfl
  | ⟨.inr (.inl t)⟩, o => by simp [flat, size, flat_length t o]
  | ⟨.inr (.inr (.inl (t, u)))⟩, o => by simp [flat, size, flat_length t o, flat_length u (o + t.size)]; omega
  | ⟨.inr (.inr (.inr (_, _, t)))⟩, o => by simp [flat, size, flat_length t o]
end Tr

theorem decB_size : ∀ n : Nat, (decB n).size ≤ n + 1 := by
  intro n
  induction n using Nat.strongRecOn with
  | _ n ih =>
    by_cases h : n < 10
    · rw [decB_one h, dgI_size]; omega
    · rw [decB_more h, ByteArray.size_append, dgI_size]
      have := ih (n / 10) (by omega)
      omega

theorem head_size (k : Nat) : (Tr.head k).size ≤ 3 := by
  unfold Tr.head
  split <;> decide

theorem Tr.txt_size : ∀ t : Tr, t.Ok → t.txt.size ≤ 1010 * t.size
  | ⟨.inl (k, n)⟩, h => by
    have h1 := head_size k
    have h2 := decB_size n
    unfold Tr.Ok at h
    unfold txt size
    rw [ByteArray.size_append]
    omega
  | ⟨.inr (.inl t)⟩, h => by
    have := txt_size t h
    unfold txt size
    rw [ByteArray.size_append, ByteArray.size_append, show (ByteArray.mk #[104, 40]).size = 2 from rfl, show (ByteArray.mk #[41]).size = 1 from rfl]
    omega
  | ⟨.inr (.inr (.inl (t, u)))⟩, h => by
    have := txt_size t h.1
    have := txt_size u h.2
    unfold txt size
    rw [ByteArray.size_append, ByteArray.size_append, ByteArray.size_append, ByteArray.size_append, show (ByteArray.mk #[112, 40]).size = 2 from rfl, show (ByteArray.mk #[41]).size = 1 from rfl, show (ByteArray.mk #[44]).size = 1 from rfl]
    omega
  | ⟨.inr (.inr (.inr (k, n, t)))⟩, h => by
    have h1 := head_size k
    have h2 := decB_size n
    have h3 := h.2.1
    have := txt_size t h.2.2
    unfold txt size
    rw [ByteArray.size_append, ByteArray.size_append, ByteArray.size_append, ByteArray.size_append, show (ByteArray.mk #[41]).size = 1 from rfl, show (ByteArray.mk #[44]).size = 1 from rfl]
    omega

/-- a term sits in nodes from place o on -/
def Sits (Kd N A B : Nat → Int) : Tr → Nat → Prop
  | ⟨.inl (k, n)⟩, o => Kd o = k ∧ N o = n ∧ A o = 0 ∧ B o = 0
  | ⟨.inr (.inl t)⟩, o => Sits Kd N A B t o ∧ Kd (o + t.size) = 4 ∧ N (o + t.size) = 0 ∧ A (o + t.size) = ((o + t.size : Nat) : Int) - 1 ∧ B (o + t.size) = 0
  | ⟨.inr (.inr (.inl (t, u)))⟩, o => Sits Kd N A B t o ∧ Sits Kd N A B u (o + t.size) ∧ Kd (o + t.size + u.size) = 5 ∧ N (o + t.size + u.size) = 0 ∧ A (o + t.size + u.size) = ((o + t.size : Nat) : Int) - 1 ∧ B (o + t.size + u.size) = ((o + t.size + u.size : Nat) : Int) - 1
  | ⟨.inr (.inr (.inr (k, n, t)))⟩, o => Sits Kd N A B t o ∧ Kd (o + t.size) = k ∧ N (o + t.size) = n ∧ A (o + t.size) = ((o + t.size : Nat) : Int) - 1 ∧ B (o + t.size) = 0

theorem add_ok {a b : ByteArray} (h : a.size + b.size ≤ 1000000) (w : World) : (Op.stringOp .add a b).run Tryz.prog w = .ok (.string (a ++ b)) w := run_string_add_sum w _ _ (by omega)

section
variable {Kd N A B : Nat → Int}

/-- what l1Text does at the node ahead of P -/
def TextP (Kd N A B : Nat → Int) (a : Option Addr) (len cap P : Nat) (T : ByteArray) : Prop :=
  ∀ w : World, IsNodes w a len cap Kd N A B → Calls Tryz.prog 96 #[.slice a len cap, .int .i64 ((P : Int) - 1)] w fun e w' => e = .returned (.string T) ∧ Below w.heap.size w w'

theorem TextP.at {a : Option Addr} {len cap P : Nat} {T : ByteArray} (h : TextP Kd N A B a len cap P T) (w : World) (hI : IsNodes w a len cap Kd N A B) :
    Calls Tryz.prog 96 #[.slice a len cap, .int .i64 ((P : Int) - 1)] w fun e w' => e = .returned (.string T) ∧ Below w.heap.size w w' := h w hI

set_option maxRecDepth 4000 in
set_option maxHeartbeats 1000000 in
theorem text_1 {a : Option Addr} {len cap : Nat} {P n : Nat} (hlen : len ≤ 40) (hP : P < len) (hn : n ≤ 999) (k1 : Kd P = 1) (k2 : N P = n) (k3 : A P = 0) (k4 : B P = 0) : TextP Kd N A B a len cap (P + 1) (⟨#[97]⟩ ++ decB n) := by
  intro w h
  have hI := h
  obtain ⟨hlc, hcm, hc⟩ := h
  obtain ⟨b, off, rfl, hbs, hcell⟩ := hc (by omega)
  obtain ⟨c1, c2, c3, c4⟩ := hcell P hP
  rw [k1] at c1
  rw [k2] at c2
  rw [k3] at c3
  rw [k4] at c4
  clear hcell hc k1 k2 k3 k4
  rw [show ((P + 1 : Nat) : Int) - 1 = (P : Int) by omega]
  have hPI : (P : Int) < (len : Int) := by omega
  have had := add_ok (a := ⟨#[97]⟩) (b := decB n) (by have := decB_size n; have : (ByteArray.mk #[97]).size = 1 := rfl; omega)
  go_enter Tryz.func96, Tryz.ntmps96
  go_wp2_with (go_at_call 46; refine (l1Dec_any n hn _).mono ?_; rintro e w' ⟨rfl, hB2⟩)
  go_ret
  exact ⟨retv rfl, ((Below.refl _ _).alloc (Nat.le_refl _) _).trans (hB2.mono (by simp))⟩

set_option maxRecDepth 4000 in
set_option maxHeartbeats 1000000 in
theorem text_2 {a : Option Addr} {len cap : Nat} {P n : Nat} (hlen : len ≤ 40) (hP : P < len) (hn : n ≤ 999) (k1 : Kd P = 2) (k2 : N P = n) (k3 : A P = 0) (k4 : B P = 0) : TextP Kd N A B a len cap (P + 1) (⟨#[107]⟩ ++ decB n) := by
  intro w h
  have hI := h
  obtain ⟨hlc, hcm, hc⟩ := h
  obtain ⟨b, off, rfl, hbs, hcell⟩ := hc (by omega)
  obtain ⟨c1, c2, c3, c4⟩ := hcell P hP
  rw [k1] at c1
  rw [k2] at c2
  rw [k3] at c3
  rw [k4] at c4
  clear hcell hc k1 k2 k3 k4
  rw [show ((P + 1 : Nat) : Int) - 1 = (P : Int) by omega]
  have hPI : (P : Int) < (len : Int) := by omega
  have had := add_ok (a := ⟨#[107]⟩) (b := decB n) (by have := decB_size n; have : (ByteArray.mk #[107]).size = 1 := rfl; omega)
  go_enter Tryz.func96, Tryz.ntmps96
  go_wp2_with (go_at_call 46; refine (l1Dec_any n hn _).mono ?_; rintro e w' ⟨rfl, hB2⟩)
  go_ret
  exact ⟨retv rfl, ((Below.refl _ _).alloc (Nat.le_refl _) _).trans (hB2.mono (by simp))⟩

set_option maxRecDepth 4000 in
set_option maxHeartbeats 1000000 in
theorem text_3 {a : Option Addr} {len cap : Nat} {P n : Nat} (hlen : len ≤ 40) (hP : P < len) (hn : n ≤ 999) (k1 : Kd P = 3) (k2 : N P = n) (k3 : A P = 0) (k4 : B P = 0) : TextP Kd N A B a len cap (P + 1) (⟨#[118]⟩ ++ decB n) := by
  intro w h
  have hI := h
  obtain ⟨hlc, hcm, hc⟩ := h
  obtain ⟨b, off, rfl, hbs, hcell⟩ := hc (by omega)
  obtain ⟨c1, c2, c3, c4⟩ := hcell P hP
  rw [k1] at c1
  rw [k2] at c2
  rw [k3] at c3
  rw [k4] at c4
  clear hcell hc k1 k2 k3 k4
  rw [show ((P + 1 : Nat) : Int) - 1 = (P : Int) by omega]
  have hPI : (P : Int) < (len : Int) := by omega
  have had := add_ok (a := ⟨#[118]⟩) (b := decB n) (by have := decB_size n; have : (ByteArray.mk #[118]).size = 1 := rfl; omega)
  go_enter Tryz.func96, Tryz.ntmps96
  go_wp2_with (go_at_call 46; refine (l1Dec_any n hn _).mono ?_; rintro e w' ⟨rfl, hB2⟩)
  go_ret
  exact ⟨retv rfl, ((Below.refl _ _).alloc (Nat.le_refl _) _).trans (hB2.mono (by simp))⟩

set_option maxRecDepth 4000 in
set_option maxHeartbeats 1000000 in
theorem text_4 {a : Option Addr} {len cap : Nat} {P : Nat} {T : ByteArray} (hlen : len ≤ 40) (hP : P < len) (hT : T.size ≤ 50000) (k1 : Kd P = 4) (k2 : N P = 0) (k3 : A P = (P : Int) - 1) (k4 : B P = 0) (ih : TextP Kd N A B a len cap P T) : TextP Kd N A B a len cap (P + 1) ((⟨#[104, 40]⟩ ++ T) ++ ⟨#[41]⟩) := by
  intro w h
  have hI := h
  obtain ⟨hlc, hcm, hc⟩ := h
  obtain ⟨b, off, rfl, hbs, hcell⟩ := hc (by omega)
  obtain ⟨c1, c2, c3, c4⟩ := hcell P hP
  rw [k1] at c1
  rw [k2] at c2
  rw [k3] at c3
  rw [k4] at c4
  clear hcell hc k1 k2 k3 k4
  rw [show ((P + 1 : Nat) : Int) - 1 = (P : Int) by omega]
  have hPI : (P : Int) < (len : Int) := by omega
  have hBA : Below w.heap.size w (w.alloc (.cells #[.int .i64 4, .int .i64 0, .int .i64 ((P : Int) - 1), .int .i64 0] 158)) := (Below.refl _ _).alloc (Nat.le_refl _) _
  have ha1 := add_ok (a := ⟨#[104, 40]⟩) (b := T) (by have : (ByteArray.mk #[104, 40]).size = 2 := rfl; omega)
  have ha2 := add_ok (a := ⟨#[104, 40]⟩ ++ T) (b := ⟨#[41]⟩) (by rw [ByteArray.size_append, show (ByteArray.mk #[104, 40]).size = 2 from rfl, show (ByteArray.mk #[41]).size = 1 from rfl]; omega)
  have IH := (show Hid (TextP Kd N A B (some ⟨b, off, none⟩) len cap P T) from ih)
  clear ih hT
  go_enter Tryz.func96, Tryz.ntmps96
  go_wp2_with fail
  refine (TextP.at IH.out _ (hI.below hBA)).mono ?_
  rintro e w' ⟨rfl, hB2⟩
  go_wp2
  go_ret
  exact ⟨retv rfl, hBA.trans (hB2.mono (by simp))⟩

set_option maxRecDepth 4000 in
set_option maxHeartbeats 1000000 in
theorem text_5 {a : Option Addr} {len cap : Nat} {P Q : Nat} {T U : ByteArray} (hlen : len ≤ 40) (hP : P < len) (hT : T.size ≤ 50000) (hU : U.size ≤ 50000) (k1 : Kd P = 5) (k2 : N P = 0) (k3 : A P = (Q : Int) - 1) (k4 : B P = (P : Int) - 1) (ih : TextP Kd N A B a len cap Q T) (ih2 : TextP Kd N A B a len cap P U) : TextP Kd N A B a len cap (P + 1) ((((⟨#[112, 40]⟩ ++ T) ++ ⟨#[44]⟩) ++ U) ++ ⟨#[41]⟩) := by
  intro w h
  have hI := h
  obtain ⟨hlc, hcm, hc⟩ := h
  obtain ⟨b, off, rfl, hbs, hcell⟩ := hc (by omega)
  obtain ⟨c1, c2, c3, c4⟩ := hcell P hP
  rw [k1] at c1
  rw [k2] at c2
  rw [k3] at c3
  rw [k4] at c4
  clear hcell hc k1 k2 k3 k4
  rw [show ((P + 1 : Nat) : Int) - 1 = (P : Int) by omega]
  have hPI : (P : Int) < (len : Int) := by omega
  have hBA : Below w.heap.size w (w.alloc (.cells #[.int .i64 5, .int .i64 0, .int .i64 ((Q : Int) - 1), .int .i64 ((P : Int) - 1)] 158)) := (Below.refl _ _).alloc (Nat.le_refl _) _
  have z1 : (ByteArray.mk #[112, 40]).size = 2 := rfl
  have z2 : (ByteArray.mk #[44]).size = 1 := rfl
  have z3 : (ByteArray.mk #[41]).size = 1 := rfl
  have ha1 := add_ok (a := ⟨#[112, 40]⟩) (b := T) (by omega)
  have ha2 := add_ok (a := ⟨#[112, 40]⟩ ++ T) (b := ⟨#[44]⟩) (by rw [ByteArray.size_append, z1, z2]; omega)
  have ha3 := add_ok (a := (⟨#[112, 40]⟩ ++ T) ++ ⟨#[44]⟩) (b := U) (by rw [ByteArray.size_append, ByteArray.size_append, z1, z2]; omega)
  have ha4 := add_ok (a := ((⟨#[112, 40]⟩ ++ T) ++ ⟨#[44]⟩) ++ U) (b := ⟨#[41]⟩) (by rw [ByteArray.size_append, ByteArray.size_append, ByteArray.size_append, z1, z2, z3]; omega)
  clear z1 z2 z3
  have IH := (show Hid (TextP Kd N A B (some ⟨b, off, none⟩) len cap Q T) from ih)
  have IH2 := (show Hid (TextP Kd N A B (some ⟨b, off, none⟩) len cap P U) from ih2)
  clear ih ih2 hT hU
  have hnew := heap_alloc_new w (.cells #[.int .i64 5, .int .i64 0, .int .i64 ((Q : Int) - 1), .int .i64 ((P : Int) - 1)] 158)
  have q2 : ∀ s : Later (w.alloc (.cells #[.int .i64 5, .int .i64 0, .int .i64 ((Q : Int) - 1), .int .i64 ((P : Int) - 1)] 158)), s.val.cell? ⟨w.heap.size, 2, none⟩ = some (.int .i64 ((Q : Int) - 1)) := fun s => s.cell (by rw [cell_of_row _ _ 2 _ _ _ hnew]; rfl)
  have q3 : ∀ s : Later (w.alloc (.cells #[.int .i64 5, .int .i64 0, .int .i64 ((Q : Int) - 1), .int .i64 ((P : Int) - 1)] 158)), s.val.cell? ⟨w.heap.size, 3, none⟩ = some (.int .i64 ((P : Int) - 1)) := fun s => s.cell (by rw [cell_of_row _ _ 3 _ _ _ hnew]; rfl)
  have HI : Hid (∀ s : Later (w.alloc (.cells #[.int .i64 5, .int .i64 0, .int .i64 ((Q : Int) - 1), .int .i64 ((P : Int) - 1)] 158)), IsNodes s.val (some ⟨b, off, none⟩) len cap Kd N A B) := fun s => (hI.below hBA).below s.ok
  have hne := Later.any (w.alloc (.cells #[.int .i64 5, .int .i64 0, .int .i64 ((Q : Int) - 1), .int .i64 ((P : Int) - 1)] 158))
  clear hnew
  go_enter Tryz.func96, Tryz.ntmps96
  go_wp2
  refine wp_region_later (by kernel_rfl) (by kernel_rfl) ?_
  iterate 4 (go_big_quiet_step ((rename_i s; exact Calls.later (TextP.at IH.out _ (HI.out s)))))
  repeat (go_big_quiet_step ((rename_i s; exact Calls.later (TextP.at IH2.out _ (HI.out s)))))
  refine wpQuiet_nil ?_
  rintro _ ⟨⟨w', hB2⟩, rfl⟩
  go_wp2
  go_ret
  exact ⟨retv rfl, hBA.trans (hB2.mono (by simp))⟩

set_option maxRecDepth 4000 in
set_option maxHeartbeats 1000000 in
theorem text_6 {a : Option Addr} {len cap : Nat} {P n : Nat} {T : ByteArray} (hlen : len ≤ 40) (hP : P < len) (hn : n ≤ 999) (hT : T.size ≤ 50000) (k1 : Kd P = 6) (k2 : N P = n) (k3 : A P = (P : Int) - 1) (k4 : B P = 0) (ih : TextP Kd N A B a len cap P T) : TextP Kd N A B a len cap (P + 1) ((((⟨#[101, 40, 107]⟩ ++ decB n) ++ ⟨#[44]⟩) ++ T) ++ ⟨#[41]⟩) := by
  intro w h
  have hI := h
  obtain ⟨hlc, hcm, hc⟩ := h
  obtain ⟨b, off, rfl, hbs, hcell⟩ := hc (by omega)
  obtain ⟨c1, c2, c3, c4⟩ := hcell P hP
  rw [k1] at c1
  rw [k2] at c2
  rw [k3] at c3
  rw [k4] at c4
  clear hcell hc k1 k2 k3 k4
  rw [show ((P + 1 : Nat) : Int) - 1 = (P : Int) by omega]
  have hPI : (P : Int) < (len : Int) := by omega
  have hBA : Below w.heap.size w (w.alloc (.cells #[.int .i64 6, .int .i64 (n : Int), .int .i64 ((P : Int) - 1), .int .i64 0] 158)) := (Below.refl _ _).alloc (Nat.le_refl _) _
  have z0 := decB_size n
  have z1 : (ByteArray.mk #[101, 40, 107]).size = 3 := rfl
  have z2 : (ByteArray.mk #[44]).size = 1 := rfl
  have z3 : (ByteArray.mk #[41]).size = 1 := rfl
  have ha1 := add_ok (a := ⟨#[101, 40, 107]⟩) (b := decB n) (by omega)
  have ha2 := add_ok (a := ⟨#[101, 40, 107]⟩ ++ decB n) (b := ⟨#[44]⟩) (by rw [ByteArray.size_append, z1, z2]; omega)
  have ha3 := add_ok (a := (⟨#[101, 40, 107]⟩ ++ decB n) ++ ⟨#[44]⟩) (b := T) (by rw [ByteArray.size_append, ByteArray.size_append, z1, z2]; omega)
  have ha4 := add_ok (a := ((⟨#[101, 40, 107]⟩ ++ decB n) ++ ⟨#[44]⟩) ++ T) (b := ⟨#[41]⟩) (by rw [ByteArray.size_append, ByteArray.size_append, ByteArray.size_append, z1, z2, z3]; omega)
  clear z0 z1 z2 z3
  have IH := (show Hid (TextP Kd N A B (some ⟨b, off, none⟩) len cap P T) from ih)
  clear ih hT
  have hnew := heap_alloc_new w (.cells #[.int .i64 6, .int .i64 (n : Int), .int .i64 ((P : Int) - 1), .int .i64 0] 158)
  have q1 : ∀ s : Later (w.alloc (.cells #[.int .i64 6, .int .i64 (n : Int), .int .i64 ((P : Int) - 1), .int .i64 0] 158)), s.val.cell? ⟨w.heap.size, 1, none⟩ = some (.int .i64 (n : Int)) := fun s => s.cell (by rw [cell_of_row _ _ 1 _ _ _ hnew]; rfl)
  have q2 : ∀ s : Later (w.alloc (.cells #[.int .i64 6, .int .i64 (n : Int), .int .i64 ((P : Int) - 1), .int .i64 0] 158)), s.val.cell? ⟨w.heap.size, 2, none⟩ = some (.int .i64 ((P : Int) - 1)) := fun s => s.cell (by rw [cell_of_row _ _ 2 _ _ _ hnew]; rfl)
  have HI : Hid (∀ s : Later (w.alloc (.cells #[.int .i64 6, .int .i64 (n : Int), .int .i64 ((P : Int) - 1), .int .i64 0] 158)), IsNodes s.val (some ⟨b, off, none⟩) len cap Kd N A B) := fun s => (hI.below hBA).below s.ok
  have hne := Later.any (w.alloc (.cells #[.int .i64 6, .int .i64 (n : Int), .int .i64 ((P : Int) - 1), .int .i64 0] 158))
  clear hnew
  go_enter Tryz.func96, Tryz.ntmps96
  go_wp2
  refine wp_region_later (by kernel_rfl) (by kernel_rfl) ?_
  iterate 3 (go_big_quiet_step ((exact Calls.later (l1Dec_any n hn _))))
  repeat (go_big_quiet_step ((rename_i s; exact Calls.later (TextP.at IH.out _ (HI.out s)))))
  refine wpQuiet_nil ?_
  rintro _ ⟨⟨w', hB2⟩, rfl⟩
  go_wp2
  go_ret
  exact ⟨retv rfl, hBA.trans (hB2.mono (by simp))⟩

set_option maxRecDepth 4000 in
set_option maxHeartbeats 1000000 in
theorem text_7 {a : Option Addr} {len cap : Nat} {P n : Nat} {T : ByteArray} (hlen : len ≤ 40) (hP : P < len) (hn : n ≤ 999) (hT : T.size ≤ 50000) (k1 : Kd P = 7) (k2 : N P = n) (k3 : A P = (P : Int) - 1) (k4 : B P = 0) (ih : TextP Kd N A B a len cap P T) : TextP Kd N A B a len cap (P + 1) ((((⟨#[115, 40, 107]⟩ ++ decB n) ++ ⟨#[44]⟩) ++ T) ++ ⟨#[41]⟩) := by
  intro w h
  have hI := h
  obtain ⟨hlc, hcm, hc⟩ := h
  obtain ⟨b, off, rfl, hbs, hcell⟩ := hc (by omega)
  obtain ⟨c1, c2, c3, c4⟩ := hcell P hP
  rw [k1] at c1
  rw [k2] at c2
  rw [k3] at c3
  rw [k4] at c4
  clear hcell hc k1 k2 k3 k4
  rw [show ((P + 1 : Nat) : Int) - 1 = (P : Int) by omega]
  have hPI : (P : Int) < (len : Int) := by omega
  have hBA : Below w.heap.size w (w.alloc (.cells #[.int .i64 7, .int .i64 (n : Int), .int .i64 ((P : Int) - 1), .int .i64 0] 158)) := (Below.refl _ _).alloc (Nat.le_refl _) _
  have z0 := decB_size n
  have z1 : (ByteArray.mk #[115, 40, 107]).size = 3 := rfl
  have z2 : (ByteArray.mk #[44]).size = 1 := rfl
  have z3 : (ByteArray.mk #[41]).size = 1 := rfl
  have ha1 := add_ok (a := ⟨#[115, 40, 107]⟩) (b := decB n) (by omega)
  have ha2 := add_ok (a := ⟨#[115, 40, 107]⟩ ++ decB n) (b := ⟨#[44]⟩) (by rw [ByteArray.size_append, z1, z2]; omega)
  have ha3 := add_ok (a := (⟨#[115, 40, 107]⟩ ++ decB n) ++ ⟨#[44]⟩) (b := T) (by rw [ByteArray.size_append, ByteArray.size_append, z1, z2]; omega)
  have ha4 := add_ok (a := ((⟨#[115, 40, 107]⟩ ++ decB n) ++ ⟨#[44]⟩) ++ T) (b := ⟨#[41]⟩) (by rw [ByteArray.size_append, ByteArray.size_append, ByteArray.size_append, z1, z2, z3]; omega)
  clear z0 z1 z2 z3
  have IH := (show Hid (TextP Kd N A B (some ⟨b, off, none⟩) len cap P T) from ih)
  clear ih hT
  have hnew := heap_alloc_new w (.cells #[.int .i64 7, .int .i64 (n : Int), .int .i64 ((P : Int) - 1), .int .i64 0] 158)
  have q1 : ∀ s : Later (w.alloc (.cells #[.int .i64 7, .int .i64 (n : Int), .int .i64 ((P : Int) - 1), .int .i64 0] 158)), s.val.cell? ⟨w.heap.size, 1, none⟩ = some (.int .i64 (n : Int)) := fun s => s.cell (by rw [cell_of_row _ _ 1 _ _ _ hnew]; rfl)
  have q2 : ∀ s : Later (w.alloc (.cells #[.int .i64 7, .int .i64 (n : Int), .int .i64 ((P : Int) - 1), .int .i64 0] 158)), s.val.cell? ⟨w.heap.size, 2, none⟩ = some (.int .i64 ((P : Int) - 1)) := fun s => s.cell (by rw [cell_of_row _ _ 2 _ _ _ hnew]; rfl)
  have HI : Hid (∀ s : Later (w.alloc (.cells #[.int .i64 7, .int .i64 (n : Int), .int .i64 ((P : Int) - 1), .int .i64 0] 158)), IsNodes s.val (some ⟨b, off, none⟩) len cap Kd N A B) := fun s => (hI.below hBA).below s.ok
  have hne := Later.any (w.alloc (.cells #[.int .i64 7, .int .i64 (n : Int), .int .i64 ((P : Int) - 1), .int .i64 0] 158))
  clear hnew
  go_enter Tryz.func96, Tryz.ntmps96
  go_wp2
  refine wp_region_later (by kernel_rfl) (by kernel_rfl) ?_
  iterate 3 (go_big_quiet_step ((exact Calls.later (l1Dec_any n hn _))))
  repeat (go_big_quiet_step ((rename_i s; exact Calls.later (TextP.at IH.out _ (HI.out s)))))
  refine wpQuiet_nil ?_
  rintro _ ⟨⟨w', hB2⟩, rfl⟩
  go_wp2
  go_ret
  exact ⟨retv rfl, hBA.trans (hB2.mono (by simp))⟩

end
end Go.Proofs.YtcolcnkjcagbaaaGreatDoor
