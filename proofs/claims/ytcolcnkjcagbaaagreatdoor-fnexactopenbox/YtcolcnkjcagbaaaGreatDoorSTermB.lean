/-
  The specification's recursive reader of terms does what the plain reader does. No condition but that the reader lies in memory.
-/
import Derived.Test.YtcolcnkjcagbaaaGreatDoorSQ
namespace Go.Proofs.YtcolcnkjcagbaaaGreatDoor
open Go.RowKit
set_option linter.unusedVariables false

theorem is_yes_st (R : Nat) (s p : ByteArray) (i : Nat) (l : List Nd) (w : World) (h : St w R s i false l) (hi : i ≤ s.size) (hs : s.size ≤ 1048576) (hp : p.size ≤ 1048576) (hb : preB s i p = true) :
    Calls Tryz.prog 91 #[.pointer (some ⟨R, 0, none⟩), .string p] w fun e w' => e = .returned (.bool true) ∧ St w' R s (i + p.size) false l ∧ Below R w w' := by
  have := is_st R s p i false l w h hi hs hp
  rw [hb] at this
  exact this
theorem is_no_st (R : Nat) (s p : ByteArray) (i : Nat) (l : List Nd) (w : World) (h : St w R s i false l) (hi : i ≤ s.size) (hs : s.size ≤ 1048576) (hp : p.size ≤ 1048576) (hb : preB s i p = false) :
    Calls Tryz.prog 91 #[.pointer (some ⟨R, 0, none⟩), .string p] w fun e w' => e = .returned (.bool false) ∧ St w' R s i false l ∧ Below R w w' := by
  have := is_st R s p i false l w h hi hs hp
  rw [hb] at this
  exact this
theorem is_bad_st (R : Nat) (s p : ByteArray) (i : Nat) (l : List Nd) (w : World) (h : St w R s i true l) (hi : i ≤ s.size) (hs : s.size ≤ 1048576) (hp : p.size ≤ 1048576) :
    Calls Tryz.prog 91 #[.pointer (some ⟨R, 0, none⟩), .string p] w fun e w' => e = .returned (.bool false) ∧ St w' R s i true l ∧ Below R w w' := is_st R s p i true l w h hi hs hp

theorem want_r {R : Nat} {s p : ByteArray} {r : Rs} {i c : Nat} {w : World} (h : StR w R s r) (ho : r.Ok s i c) (hs : s.size ≤ 1048576) (hp : p.size ≤ 1048576) :
    Calls Tryz.prog 94 #[.pointer (some ⟨R, 0, none⟩), .string p] w fun e w' => e = .returned (.tuple #[]) ∧ StR w' R s (r.want s p) ∧ Below R w w' := want_st R s p r.j r.b r.l w h ho.2.1 hs hp
theorem num_r {R : Nat} {s : ByteArray} {r : Rs} {i c : Nat} {w : World} (h : StR w R s r) (ho : r.Ok s i c) (hs : s.size ≤ 1048576) :
    Calls Tryz.prog 93 #[.pointer (some ⟨R, 0, none⟩)] w fun e w' => e = .returned (.int .i64 (r.num s).v) ∧ StR w' R s (r.num s) ∧ Below R w w' := num_st R s r.j r.b r.l w h ho.2.1 hs
theorem add_r {R : Nat} {s : ByteArray} {r : Rs} {i c : Nat} {w : World} {k n x y : Int} (h : StR w R s r) (ho : r.Ok s i c) (hs : s.size ≤ 1048576) :
    Calls Tryz.prog 92 #[.pointer (some ⟨R, 0, none⟩), .agg #[.int .i64 k, .int .i64 n, .int .i64 x, .int .i64 y]] w fun e w' => e = .returned (.int .i64 (r.add (k, n, x, y)).v) ∧ StR w' R s (r.add (k, n, x, y)) ∧ Below R w w' :=
  add_st R s r.j r.b r.l k n x y w h (by have := ho.2.1; have := ho.2.2; omega)

/-- what the recursive reader does -/
def STerm (s : ByteArray) (f : Nat) : Prop :=
  ∀ (R i : Nat) (b : Bool) (l : List Nd) (d : Int) (w : World), d = 11 - (f : Int) → 1 ≤ d → StR w R s ⟨0, i, b, l⟩ → i ≤ s.size → l.length ≤ i →
    Calls Tryz.prog 71 #[.pointer (some ⟨R, 0, none⟩), .int .i64 d] w fun e w' => e = .returned (.int .i64 (qS s f i b l).v) ∧ StR w' R s (qS s f i b l) ∧ Below R w w'

/-- behind the reader's first test: it is bad -/
def SBad (s : ByteArray) (R i : Nat) (l : List Nd) (w : World) : Prop := St w R s i true l

set_option maxHeartbeats 1000000 in
theorem sterm_zero {s : ByteArray} (hs : s.size ≤ 1048576) : STerm s 0 := by
  intro R i b l d w hd hd1 hSt hi hl
  obtain ⟨a, cap, hS, hO⟩ := hSt
  have hd11 : d = 11 := by omega
  subst hd11
  have hq : Hid (qS s 0 i b l = ⟨0, i, true, l⟩) := rfl
  have f2 := hS.fr 2
  have hR := hS.lt
  have c2 := hS.c2
  have HS : Hid (Sd w R s i b (.slice a l.length cap)) := hS
  have HO : Hid (w.ownsRow (R + 1) 158 4 (.slice a l.length cap) l.length (ndCells l)) := hO
  clear hS hO hd hd1
  go_enter Tryz.func71, Tryz.ntmps71
  go_wp2_with (fail)
  have h0 : St (w.setCell ⟨R, 2, none⟩ (.bool true)) R s i true l := ⟨a, cap, HS.out.set2 true, own_mut HO.out ((Mut.refl R w).setCell 2 _)⟩
  have B0 : Below R w (w.setCell ⟨R, 2, none⟩ (.bool true)) := ((Mut.refl R w).setCell 2 _).below (Nat.le_refl _) (by omega)
  refine (is_bad_st R s sA i l _ h0 hi hs (by decide)).mono ?_
  rintro e w1 ⟨rfl, h1, b1⟩
  go_wp2_with fail
  refine (is_bad_st R s sK i l _ h1 hi hs (by decide)).mono ?_
  rintro e w2 ⟨rfl, h2, b2⟩
  go_wp2_with fail
  refine (is_bad_st R s sV i l _ h2 hi hs (by decide)).mono ?_
  rintro e w3 ⟨rfl, h3, b3⟩
  go_wp2_with fail
  refine (is_bad_st R s sH i l _ h3 hi hs (by decide)).mono ?_
  rintro e w4 ⟨rfl, h4, b4⟩
  go_wp2_with fail
  refine (is_bad_st R s sP i l _ h4 hi hs (by decide)).mono ?_
  rintro e w5 ⟨rfl, h5, b5⟩
  go_wp2_with fail
  refine (is_bad_st R s sE i l _ h5 hi hs (by decide)).mono ?_
  rintro e w6 ⟨rfl, h6, b6⟩
  go_wp2_with fail
  refine (is_bad_st R s sS i l _ h6 hi hs (by decide)).mono ?_
  rintro e w7 ⟨rfl, h7, b7⟩
  obtain ⟨a7, cap7, hS7, hO7⟩ := h7
  have c27 := hS7.c2
  have f27 := hS7.fr 2
  have HS7 := (show Hid _ from hS7)
  have HO7 := (show Hid _ from hO7)
  have HB := (show Hid _ from B0.trans (b1.trans (b2.trans (b3.trans (b4.trans (b5.trans (b6.trans b7)))))))
  clear hS7 hO7 b1 b2 b3 b4 b5 b6 b7 B0 h0 h1 h2 h3 h4 h5 h6
  go_wp2
  go_ret
  exact ⟨ret_int (by rw [hq.out]), by rw [hq.out]; exact ⟨a7, cap7, Sd.set2 HS7.out true, own_mut HO7.out ((Mut.refl R w7).setCell 2 _)⟩, HB.out.setCell (Nat.le_refl _) _⟩

set_option maxHeartbeats 1000000 in
theorem sterm_many {s : ByteArray} (hs : s.size ≤ 1048576) (f R i : Nat) (b : Bool) (l : List Nd) (d : Int) (w : World) (hd : d ≤ 10) (hd1 : 1 ≤ d) (hSt : StR w R s ⟨0, i, b, l⟩) (hi : i ≤ s.size) (hl : l.length ≤ i) (h40 : 40 < l.length) :
    Calls Tryz.prog 71 #[.pointer (some ⟨R, 0, none⟩), .int .i64 d] w fun e w' => e = .returned (.int .i64 (qS s (f + 1) i b l).v) ∧ StR w' R s (qS s (f + 1) i b l) ∧ Below R w w' := by
  obtain ⟨a, cap, hS, hO⟩ := hSt
  have hq : Hid (qS s (f + 1) i b l = ⟨0, i, true, l⟩) := by
    show _ = _
    unfold qS
    rw [if_pos (.inr h40)]
  dsimp only at hS hO
  have h40I : (40 : Int) < (l.length : Int) := by omega
  have h40d : decide ((40 : Int) < (l.length : Int)) = true := by simpa using h40I
  have hdd : decide ((10 : Int) < d) = false := by simpa using hd
  have f2 := hS.fr 2
  have hR := hS.lt
  have c2 := hS.c2
  have c3 := hS.c3
  have HS : Hid (Sd w R s i b (.slice a l.length cap)) := hS
  have HO : Hid (w.ownsRow (R + 1) 158 4 (.slice a l.length cap) l.length (ndCells l)) := hO
  clear hS hO
  go_enter Tryz.func71, Tryz.ntmps71
  go_wp2_with (fail)
  have h0 : St (w.setCell ⟨R, 2, none⟩ (.bool true)) R s i true l := ⟨a, cap, HS.out.set2 true, own_mut HO.out ((Mut.refl R w).setCell 2 _)⟩
  have B0 : Below R w (w.setCell ⟨R, 2, none⟩ (.bool true)) := ((Mut.refl R w).setCell 2 _).below (Nat.le_refl _) (by omega)
  refine (is_bad_st R s sA i l _ h0 hi hs (by decide)).mono ?_
  rintro e w1 ⟨rfl, h1, b1⟩
  go_wp2_with fail
  refine (is_bad_st R s sK i l _ h1 hi hs (by decide)).mono ?_
  rintro e w2 ⟨rfl, h2, b2⟩
  go_wp2_with fail
  refine (is_bad_st R s sV i l _ h2 hi hs (by decide)).mono ?_
  rintro e w3 ⟨rfl, h3, b3⟩
  go_wp2_with fail
  refine (is_bad_st R s sH i l _ h3 hi hs (by decide)).mono ?_
  rintro e w4 ⟨rfl, h4, b4⟩
  go_wp2_with fail
  refine (is_bad_st R s sP i l _ h4 hi hs (by decide)).mono ?_
  rintro e w5 ⟨rfl, h5, b5⟩
  go_wp2_with fail
  refine (is_bad_st R s sE i l _ h5 hi hs (by decide)).mono ?_
  rintro e w6 ⟨rfl, h6, b6⟩
  go_wp2_with fail
  refine (is_bad_st R s sS i l _ h6 hi hs (by decide)).mono ?_
  rintro e w7 ⟨rfl, h7, b7⟩
  obtain ⟨a7, cap7, hS7, hO7⟩ := h7
  have c27 := hS7.c2
  have f27 := hS7.fr 2
  have HS7 := (show Hid _ from hS7)
  have HO7 := (show Hid _ from hO7)
  have HB := (show Hid _ from B0.trans (b1.trans (b2.trans (b3.trans (b4.trans (b5.trans (b6.trans b7)))))))
  clear hS7 hO7 b1 b2 b3 b4 b5 b6 b7 B0 h0 h1 h2 h3 h4 h5 h6
  go_wp2
  go_ret
  exact ⟨ret_int (by rw [hq.out]), by rw [hq.out]; exact ⟨a7, cap7, Sd.set2 HS7.out true, own_mut HO7.out ((Mut.refl R w7).setCell 2 _)⟩, HB.out.setCell (Nat.le_refl _) _⟩

set_option maxHeartbeats 1000000 in
theorem sterm_bad {s : ByteArray} (hs : s.size ≤ 1048576) (f R i : Nat) (l : List Nd) (d : Int) (w : World) (hd : d ≤ 10) (hd1 : 1 ≤ d) (hSt : StR w R s ⟨0, i, true, l⟩) (hi : i ≤ s.size) (hl : l.length ≤ i) (h40 : l.length ≤ 40) :
    Calls Tryz.prog 71 #[.pointer (some ⟨R, 0, none⟩), .int .i64 d] w fun e w' => e = .returned (.int .i64 (qS s (f + 1) i true l).v) ∧ StR w' R s (qS s (f + 1) i true l) ∧ Below R w w' := by
  have h0 : St w R s i true l := hSt
  obtain ⟨a, cap, hS, hO⟩ := hSt
  have hq : Hid (qS s (f + 1) i true l = ⟨0, i, true, l⟩) := by
    show _ = _
    unfold qS
    rw [if_pos (.inl rfl)]
  dsimp only at hS hO
  have h40I : (l.length : Int) ≤ 40 := by omega
  have h40d : decide ((40 : Int) < (l.length : Int)) = false := by simpa using h40I
  have hdd : decide ((10 : Int) < d) = false := by simpa using hd
  have f2 := hS.fr 2
  have hR := hS.lt
  have c2 := hS.c2
  have c3 := hS.c3
  clear hS hO
  go_enter Tryz.func71, Tryz.ntmps71
  go_wp2_with (fail)
  have B0 : Below R w w := Below.refl _ _
  refine (is_bad_st R s sA i l _ h0 hi hs (by decide)).mono ?_
  rintro e w1 ⟨rfl, h1, b1⟩
  go_wp2_with fail
  refine (is_bad_st R s sK i l _ h1 hi hs (by decide)).mono ?_
  rintro e w2 ⟨rfl, h2, b2⟩
  go_wp2_with fail
  refine (is_bad_st R s sV i l _ h2 hi hs (by decide)).mono ?_
  rintro e w3 ⟨rfl, h3, b3⟩
  go_wp2_with fail
  refine (is_bad_st R s sH i l _ h3 hi hs (by decide)).mono ?_
  rintro e w4 ⟨rfl, h4, b4⟩
  go_wp2_with fail
  refine (is_bad_st R s sP i l _ h4 hi hs (by decide)).mono ?_
  rintro e w5 ⟨rfl, h5, b5⟩
  go_wp2_with fail
  refine (is_bad_st R s sE i l _ h5 hi hs (by decide)).mono ?_
  rintro e w6 ⟨rfl, h6, b6⟩
  go_wp2_with fail
  refine (is_bad_st R s sS i l _ h6 hi hs (by decide)).mono ?_
  rintro e w7 ⟨rfl, h7, b7⟩
  obtain ⟨a7, cap7, hS7, hO7⟩ := h7
  have c27 := hS7.c2
  have f27 := hS7.fr 2
  have HS7 := (show Hid _ from hS7)
  have HO7 := (show Hid _ from hO7)
  have HB := (show Hid _ from B0.trans (b1.trans (b2.trans (b3.trans (b4.trans (b5.trans (b6.trans b7)))))))
  clear hS7 hO7 b1 b2 b3 b4 b5 b6 b7 B0 h0 h1 h2 h3 h4 h5 h6
  go_wp2
  go_ret
  exact ⟨ret_int (by rw [hq.out]), by rw [hq.out]; exact ⟨a7, cap7, Sd.set2 HS7.out true, own_mut HO7.out ((Mut.refl R w7).setCell 2 _)⟩, HB.out.setCell (Nat.le_refl _) _⟩

end Go.Proofs.YtcolcnkjcagbaaaGreatDoor
