/-
  The specification's recursive reader of terms does what the plain reader does, its arms. No condition but that the reader lies in memory.
-/
import Derived.Test.YtcolcnkjcagbaaaGreatDoorSTermB
namespace Go.Proofs.YtcolcnkjcagbaaaGreatDoor
open Go.RowKit
set_option linter.unusedVariables false

theorem St.drewN {w : World} {R : Nat} {s : ByteArray} {i : Nat} {b : Bool} {l : List Nd} (h : St w R s i b l) (n : Nat) : St (w.drewN n) R s i b l := h

theorem pre_first {s : ByteArray} {i : Nat} {c : UInt8} {cs : List UInt8} (h : preB s i { data := (c :: cs).toArray } = true) : bt s i = (c.toNat : Int) := by
  unfold preB Lib.hasPrefix at h
  rw [List.isPrefixOf_iff_prefix] at h
  obtain ⟨t, ht⟩ := h
  have hl : i < s.size := by
    have := congrArg List.length ht
    simp only [List.length_append, List.length_cons, List.length_drop] at this
    rw [Lib.size_eq]
    have := this
    simp at *
    omega
  have h0 : (s.data.toList.drop i)[0]? = some c := by rw [← ht]; rfl
  rw [List.getElem?_drop, Nat.add_zero, Array.getElem?_toList] at h0
  rw [← bt_in hl]
  have : s.data[i]? = some s[i] := by
    rw [Array.getElem?_eq_getElem (by rw [← ByteArray.size]; exact hl)]; rfl
  rw [this] at h0
  simp at h0
  rw [h0]

set_option maxHeartbeats 1000000 in
theorem sterm_sA {s : ByteArray} (hs : s.size ≤ 1048576) {f R i : Nat} {l : List Nd} {d : Int} {w : World} (ih : STerm s f) (hdf : d + 1 = 11 - (f : Int)) (hd : d ≤ 10) (hd1 : 1 ≤ d) (h0 : St w R s i false l) (hi : i ≤ s.size) (hl : l.length ≤ i) (h40 : l.length ≤ 40)  (y : preB s i sA = true) :
    Calls Tryz.prog 71 #[.pointer (some ⟨R, 0, none⟩), .int .i64 d] w fun e w' => e = .returned (.int .i64 (qS s (f + 1) i false l).v) ∧ StR w' R s (qS s (f + 1) i false l) ∧ Below R w w' := by
  have c3 : ∃ a cap, w.cell? ⟨R, 3, none⟩ = some (.slice a l.length cap) := by
    obtain ⟨a, cap, hS, hO⟩ := h0
    exact ⟨a, cap, hS.c3⟩
  obtain ⟨a, cap, c3⟩ := c3
  have hdd : decide ((10 : Int) < d) = false := by simpa using hd
  have h40I : (l.length : Int) ≤ 40 := by omega
  have h40d : decide ((40 : Int) < (l.length : Int)) = false := by simpa using h40I
  have IH := (show Hid _ from ih)
  have HD := (show Hid _ from hdf)
  clear ih hdf
  have hq : Hid (qS s (f + 1) i false l = qLeaf s 1 i l) := by
    show _ = _
    unfold qS
    rw [if_neg (by simp; omega), if_pos y]
  have hroom : i + 1 ≤ s.size := preB_room hi y
  have o0 : Rs.Ok s i 1 ⟨0, i + 1, false, l⟩ := ⟨by dsimp only; omega, hroom, by dsimp only; omega⟩
  go_enter Tryz.func71, Tryz.ntmps71
  go_wp2_with fail
  refine (is_yes_st R s sA i l _ h0 hi hs (by decide) y).mono ?_
  rintro e w1 ⟨rfl, h1, b1⟩
  go_wp2_with fail
  refine (num_r (r := ⟨0, i + 1, false, l⟩) h1 o0 hs).mono ?_
  rintro e u1 ⟨rfl, k1, p1⟩
  go_wp2_with fail
  refine (add_r k1 o0.num hs).mono ?_
  rintro e u2 ⟨rfl, k2, p2⟩
  have HB := (show Hid _ from b1.trans (p1.trans p2))
  clear b1 h1 p1 p2 k1
  go_wp2
  go_ret
  exact ⟨ret_int (by rw [hq.out]; rfl), by rw [hq.out]; exact k2, HB.out⟩

set_option maxHeartbeats 1000000 in
theorem sterm_sK {s : ByteArray} (hs : s.size ≤ 1048576) {f R i : Nat} {l : List Nd} {d : Int} {w : World} (ih : STerm s f) (hdf : d + 1 = 11 - (f : Int)) (hd : d ≤ 10) (hd1 : 1 ≤ d) (h0 : St w R s i false l) (hi : i ≤ s.size) (hl : l.length ≤ i) (h40 : l.length ≤ 40) (n0 : preB s i sA = false) (y : preB s i sK = true) :
    Calls Tryz.prog 71 #[.pointer (some ⟨R, 0, none⟩), .int .i64 d] w fun e w' => e = .returned (.int .i64 (qS s (f + 1) i false l).v) ∧ StR w' R s (qS s (f + 1) i false l) ∧ Below R w w' := by
  have c3 : ∃ a cap, w.cell? ⟨R, 3, none⟩ = some (.slice a l.length cap) := by
    obtain ⟨a, cap, hS, hO⟩ := h0
    exact ⟨a, cap, hS.c3⟩
  obtain ⟨a, cap, c3⟩ := c3
  have hdd : decide ((10 : Int) < d) = false := by simpa using hd
  have h40I : (l.length : Int) ≤ 40 := by omega
  have h40d : decide ((40 : Int) < (l.length : Int)) = false := by simpa using h40I
  have IH := (show Hid _ from ih)
  have HD := (show Hid _ from hdf)
  clear ih hdf
  have hq : Hid (qS s (f + 1) i false l = qLeaf s 2 i l) := by
    show _ = _
    unfold qS
    rw [if_neg (by simp; omega), if_neg (by rw [n0]; decide), if_pos y]
  have hroom : i + 1 ≤ s.size := preB_room hi y
  have o0 : Rs.Ok s i 1 ⟨0, i + 1, false, l⟩ := ⟨by dsimp only; omega, hroom, by dsimp only; omega⟩
  go_enter Tryz.func71, Tryz.ntmps71
  go_wp2_with fail
  refine (is_no_st R s sA i l _ h0 hi hs (by decide) n0).mono ?_
  rintro e w1 ⟨rfl, h1, b1⟩
  go_wp2_with fail
  refine (is_yes_st R s sK i l _ h1 hi hs (by decide) y).mono ?_
  rintro e w2 ⟨rfl, h2, b2⟩
  go_wp2_with fail
  refine (num_r (r := ⟨0, i + 1, false, l⟩) h2 o0 hs).mono ?_
  rintro e u1 ⟨rfl, k1, p1⟩
  go_wp2_with fail
  refine (add_r k1 o0.num hs).mono ?_
  rintro e u2 ⟨rfl, k2, p2⟩
  have HB := (show Hid _ from (b1.trans b2).trans (p1.trans p2))
  clear b1 h1 b2 h2 p1 p2 k1
  go_wp2
  go_ret
  exact ⟨ret_int (by rw [hq.out]; rfl), by rw [hq.out]; exact k2, HB.out⟩

set_option maxHeartbeats 1000000 in
theorem sterm_sV {s : ByteArray} (hs : s.size ≤ 1048576) {f R i : Nat} {l : List Nd} {d : Int} {w : World} (ih : STerm s f) (hdf : d + 1 = 11 - (f : Int)) (hd : d ≤ 10) (hd1 : 1 ≤ d) (h0 : St w R s i false l) (hi : i ≤ s.size) (hl : l.length ≤ i) (h40 : l.length ≤ 40) (n0 : preB s i sA = false) (n1 : preB s i sK = false) (y : preB s i sV = true) :
    Calls Tryz.prog 71 #[.pointer (some ⟨R, 0, none⟩), .int .i64 d] w fun e w' => e = .returned (.int .i64 (qS s (f + 1) i false l).v) ∧ StR w' R s (qS s (f + 1) i false l) ∧ Below R w w' := by
  have c3 : ∃ a cap, w.cell? ⟨R, 3, none⟩ = some (.slice a l.length cap) := by
    obtain ⟨a, cap, hS, hO⟩ := h0
    exact ⟨a, cap, hS.c3⟩
  obtain ⟨a, cap, c3⟩ := c3
  have hdd : decide ((10 : Int) < d) = false := by simpa using hd
  have h40I : (l.length : Int) ≤ 40 := by omega
  have h40d : decide ((40 : Int) < (l.length : Int)) = false := by simpa using h40I
  have IH := (show Hid _ from ih)
  have HD := (show Hid _ from hdf)
  clear ih hdf
  have hq : Hid (qS s (f + 1) i false l = qLeaf s 3 i l) := by
    show _ = _
    unfold qS
    rw [if_neg (by simp; omega), if_neg (by rw [n0]; decide), if_neg (by rw [n1]; decide), if_pos y]
  have hroom : i + 1 ≤ s.size := preB_room hi y
  have o0 : Rs.Ok s i 1 ⟨0, i + 1, false, l⟩ := ⟨by dsimp only; omega, hroom, by dsimp only; omega⟩
  go_enter Tryz.func71, Tryz.ntmps71
  go_wp2_with fail
  refine (is_no_st R s sA i l _ h0 hi hs (by decide) n0).mono ?_
  rintro e w1 ⟨rfl, h1, b1⟩
  go_wp2_with fail
  refine (is_no_st R s sK i l _ h1 hi hs (by decide) n1).mono ?_
  rintro e w2 ⟨rfl, h2, b2⟩
  go_wp2_with fail
  refine (is_yes_st R s sV i l _ h2 hi hs (by decide) y).mono ?_
  rintro e w3 ⟨rfl, h3, b3⟩
  go_wp2_with fail
  refine (num_r (r := ⟨0, i + 1, false, l⟩) h3 o0 hs).mono ?_
  rintro e u1 ⟨rfl, k1, p1⟩
  go_wp2_with fail
  refine (add_r k1 o0.num hs).mono ?_
  rintro e u2 ⟨rfl, k2, p2⟩
  have HB := (show Hid _ from (b1.trans (b2.trans b3)).trans (p1.trans p2))
  clear b1 h1 b2 h2 b3 h3 p1 p2 k1
  go_wp2
  go_ret
  exact ⟨ret_int (by rw [hq.out]; rfl), by rw [hq.out]; exact k2, HB.out⟩

set_option maxHeartbeats 1000000 in
theorem sterm_sH {s : ByteArray} (hs : s.size ≤ 1048576) {f R i : Nat} {l : List Nd} {d : Int} {w : World} (ih : STerm s f) (hdf : d + 1 = 11 - (f : Int)) (hd : d ≤ 10) (hd1 : 1 ≤ d) (h0 : St w R s i false l) (hi : i ≤ s.size) (hl : l.length ≤ i) (h40 : l.length ≤ 40) (n0 : preB s i sA = false) (n1 : preB s i sK = false) (n2 : preB s i sV = false) (y : preB s i sH = true) :
    Calls Tryz.prog 71 #[.pointer (some ⟨R, 0, none⟩), .int .i64 d] w fun e w' => e = .returned (.int .i64 (qS s (f + 1) i false l).v) ∧ StR w' R s (qS s (f + 1) i false l) ∧ Below R w w' := by
  have c3 : ∃ a cap, w.cell? ⟨R, 3, none⟩ = some (.slice a l.length cap) := by
    obtain ⟨a, cap, hS, hO⟩ := h0
    exact ⟨a, cap, hS.c3⟩
  obtain ⟨a, cap, c3⟩ := c3
  have hdd : decide ((10 : Int) < d) = false := by simpa using hd
  have h40I : (l.length : Int) ≤ 40 := by omega
  have h40d : decide ((40 : Int) < (l.length : Int)) = false := by simpa using h40I
  have IH := (show Hid _ from ih)
  have HD := (show Hid _ from hdf)
  clear ih hdf
  have hq : Hid (qS s (f + 1) i false l = ((qS s f (i + 2) false l).want s sRp).add (4, 0, (qS s f (i + 2) false l).v, 0)) := by
    show _ = _
    conv => lhs; unfold qS
    rw [if_neg (by simp; omega), if_neg (by rw [n0]; decide), if_neg (by rw [n1]; decide), if_neg (by rw [n2]; decide), if_pos y]
  have hroom : i + 2 ≤ s.size := preB_room hi y
  have o1 := qS_ok (s := s) f (i + 2) 1 false l hroom (by omega)
  go_enter Tryz.func71, Tryz.ntmps71
  go_wp2_with fail
  refine (is_no_st R s sA i l _ h0 hi hs (by decide) n0).mono ?_
  rintro e w1 ⟨rfl, h1, b1⟩
  go_wp2_with fail
  refine (is_no_st R s sK i l _ h1 hi hs (by decide) n1).mono ?_
  rintro e w2 ⟨rfl, h2, b2⟩
  go_wp2_with fail
  refine (is_no_st R s sV i l _ h2 hi hs (by decide) n2).mono ?_
  rintro e w3 ⟨rfl, h3, b3⟩
  go_wp2_with fail
  refine (is_yes_st R s sH i l _ h3 hi hs (by decide) y).mono ?_
  rintro e w4 ⟨rfl, h4, b4⟩
  go_wp2_with fail
  have q0 : StR w4 R s ⟨0, i + 2, false, l⟩ := h4
  refine (IH.out R (i + 2) false l (d + 1) _ HD.out (by omega) q0 hroom (by omega)).mono ?_
  rintro e u1 ⟨rfl, k1, p1⟩
  go_wp2_with fail
  refine (want_r (p := sRp) k1 o1 hs (by decide)).mono ?_
  rintro e u2 ⟨rfl, k2, p2⟩
  go_wp2_with fail
  refine (add_r k2 o1.want hs).mono ?_
  rintro e u3 ⟨rfl, k3, p3⟩
  have HB := (show Hid _ from (b1.trans (b2.trans (b3.trans b4))).trans (p1.trans (p2.trans p3)))
  clear b1 h1 b2 h2 b3 h3 b4 h4 p1 p2 p3 k1 k2
  go_wp2
  go_ret
  exact ⟨ret_int (by rw [hq.out]), by rw [hq.out]; exact k3, HB.out⟩

set_option maxHeartbeats 1000000 in
theorem sterm_sP {s : ByteArray} (hs : s.size ≤ 1048576) {f R i : Nat} {l : List Nd} {d : Int} {w : World} (ih : STerm s f) (hdf : d + 1 = 11 - (f : Int)) (hd : d ≤ 10) (hd1 : 1 ≤ d) (h0 : St w R s i false l) (hi : i ≤ s.size) (hl : l.length ≤ i) (h40 : l.length ≤ 40) (n0 : preB s i sA = false) (n1 : preB s i sK = false) (n2 : preB s i sV = false) (n3 : preB s i sH = false) (y : preB s i sP = true) :
    Calls Tryz.prog 71 #[.pointer (some ⟨R, 0, none⟩), .int .i64 d] w fun e w' => e = .returned (.int .i64 (qS s (f + 1) i false l).v) ∧ StR w' R s (qS s (f + 1) i false l) ∧ Below R w w' := by
  have c3 : ∃ a cap, w.cell? ⟨R, 3, none⟩ = some (.slice a l.length cap) := by
    obtain ⟨a, cap, hS, hO⟩ := h0
    exact ⟨a, cap, hS.c3⟩
  obtain ⟨a, cap, c3⟩ := c3
  have hdd : decide ((10 : Int) < d) = false := by simpa using hd
  have h40I : (l.length : Int) ≤ 40 := by omega
  have h40d : decide ((40 : Int) < (l.length : Int)) = false := by simpa using h40I
  have IH := (show Hid _ from ih)
  have HD := (show Hid _ from hdf)
  clear ih hdf
  have hq : Hid (qS s (f + 1) i false l = ((qS s f ((qS s f (i + 2) false l).want s sCm).j ((qS s f (i + 2) false l).want s sCm).b ((qS s f (i + 2) false l).want s sCm).l).want s sRp).add (5, 0, (qS s f (i + 2) false l).v, (qS s f ((qS s f (i + 2) false l).want s sCm).j ((qS s f (i + 2) false l).want s sCm).b ((qS s f (i + 2) false l).want s sCm).l).v)) := by
    show _ = _
    conv => lhs; unfold qS
    rw [if_neg (by simp; omega), if_neg (by rw [n0]; decide), if_neg (by rw [n1]; decide), if_neg (by rw [n2]; decide), if_neg (by rw [n3]; decide), if_pos y]
    rfl
  have hroom : i + 2 ≤ s.size := preB_room hi y
  have o1 := (qS_ok (s := s) f (i + 2) 1 false l hroom (by omega)).want (p := sCm)
  have o2 := qS_ok (s := s) f _ 1 ((qS s f (i + 2) false l).want s sCm).b _ o1.2.1 o1.2.2
  go_enter Tryz.func71, Tryz.ntmps71
  go_wp2_with fail
  refine (is_no_st R s sA i l _ h0 hi hs (by decide) n0).mono ?_
  rintro e w1 ⟨rfl, h1, b1⟩
  go_wp2_with fail
  refine (is_no_st R s sK i l _ h1 hi hs (by decide) n1).mono ?_
  rintro e w2 ⟨rfl, h2, b2⟩
  go_wp2_with fail
  refine (is_no_st R s sV i l _ h2 hi hs (by decide) n2).mono ?_
  rintro e w3 ⟨rfl, h3, b3⟩
  go_wp2_with fail
  refine (is_no_st R s sH i l _ h3 hi hs (by decide) n3).mono ?_
  rintro e w4 ⟨rfl, h4, b4⟩
  go_wp2_with fail
  refine (is_yes_st R s sP i l _ h4 hi hs (by decide) y).mono ?_
  rintro e w5 ⟨rfl, h5, b5⟩
  go_wp2_with fail
  have q0 : StR w5 R s ⟨0, i + 2, false, l⟩ := h5
  refine (IH.out R (i + 2) false l (d + 1) _ HD.out (by omega) q0 hroom (by omega)).mono ?_
  rintro e u1 ⟨rfl, k1, p1⟩
  go_wp2_with fail
  refine (want_r (p := sCm) k1 (qS_ok (s := s) f (i + 2) 1 false l hroom (by omega)) hs (by decide)).mono ?_
  rintro e u2 ⟨rfl, k2, p2⟩
  go_wp2_with fail
  refine (IH.out R ((qS s f (i + 2) false l).want s sCm).j ((qS s f (i + 2) false l).want s sCm).b ((qS s f (i + 2) false l).want s sCm).l (d + 1) _ HD.out (by omega) k2 o1.2.1 (by have := o1.2.2; omega)).mono ?_
  rintro e u3 ⟨rfl, k3, p3⟩
  go_wp2_with fail
  refine (want_r (p := sRp) k3 o2 hs (by decide)).mono ?_
  rintro e u4 ⟨rfl, k4, p4⟩
  go_wp2_with fail
  refine (add_r k4 o2.want hs).mono ?_
  rintro e u5 ⟨rfl, k5, p5⟩
  have HB := (show Hid _ from (b1.trans (b2.trans (b3.trans (b4.trans b5)))).trans (p1.trans (p2.trans (p3.trans (p4.trans p5)))))
  clear b1 h1 b2 h2 b3 h3 b4 h4 b5 h5 p1 p2 p3 p4 p5 k1 k2 k3 k4
  go_wp2
  go_ret
  exact ⟨ret_int (by rw [hq.out]), by rw [hq.out]; exact k5, HB.out⟩

set_option maxHeartbeats 1000000 in
theorem sterm_none {s : ByteArray} (hs : s.size ≤ 1048576) {f R i : Nat} {l : List Nd} {d : Int} {w : World} (ih : STerm s f) (hdf : d + 1 = 11 - (f : Int)) (hd : d ≤ 10) (hd1 : 1 ≤ d) (h0 : St w R s i false l) (hi : i ≤ s.size) (hl : l.length ≤ i) (h40 : l.length ≤ 40) (n0 : preB s i sA = false) (n1 : preB s i sK = false) (n2 : preB s i sV = false) (n3 : preB s i sH = false) (n4 : preB s i sP = false) (n5 : preB s i sE = false) (n6 : preB s i sS = false) :
    Calls Tryz.prog 71 #[.pointer (some ⟨R, 0, none⟩), .int .i64 d] w fun e w' => e = .returned (.int .i64 (qS s (f + 1) i false l).v) ∧ StR w' R s (qS s (f + 1) i false l) ∧ Below R w w' := by
  have c3 : ∃ a cap, w.cell? ⟨R, 3, none⟩ = some (.slice a l.length cap) := by
    obtain ⟨a, cap, hS, hO⟩ := h0
    exact ⟨a, cap, hS.c3⟩
  obtain ⟨a, cap, c3⟩ := c3
  have hdd : decide ((10 : Int) < d) = false := by simpa using hd
  have h40I : (l.length : Int) ≤ 40 := by omega
  have h40d : decide ((40 : Int) < (l.length : Int)) = false := by simpa using h40I
  have IH := (show Hid _ from ih)
  have HD := (show Hid _ from hdf)
  clear ih hdf
  have hq : Hid (qS s (f + 1) i false l = ⟨0, i, true, l⟩) := by
    show _ = _
    unfold qS
    rw [if_neg (by simp; omega), if_neg (by rw [n0]; decide), if_neg (by rw [n1]; decide), if_neg (by rw [n2]; decide), if_neg (by rw [n3]; decide), if_neg (by rw [n4]; decide), if_neg (by rw [n5, n6]; simp)]
  go_enter Tryz.func71, Tryz.ntmps71
  go_wp2_with fail
  refine (is_no_st R s sA i l _ h0 hi hs (by decide) n0).mono ?_
  rintro e w1 ⟨rfl, h1, b1⟩
  go_wp2_with fail
  refine (is_no_st R s sK i l _ h1 hi hs (by decide) n1).mono ?_
  rintro e w2 ⟨rfl, h2, b2⟩
  go_wp2_with fail
  refine (is_no_st R s sV i l _ h2 hi hs (by decide) n2).mono ?_
  rintro e w3 ⟨rfl, h3, b3⟩
  go_wp2_with fail
  refine (is_no_st R s sH i l _ h3 hi hs (by decide) n3).mono ?_
  rintro e w4 ⟨rfl, h4, b4⟩
  go_wp2_with fail
  refine (is_no_st R s sP i l _ h4 hi hs (by decide) n4).mono ?_
  rintro e w5 ⟨rfl, h5, b5⟩
  go_wp2_with fail
  refine (is_no_st R s sE i l _ h5 hi hs (by decide) n5).mono ?_
  rintro e w6 ⟨rfl, h6, b6⟩
  go_wp2_with fail
  refine (is_no_st R s sS i l _ h6 hi hs (by decide) n6).mono ?_
  rintro e w7 ⟨rfl, h7, b7⟩
  obtain ⟨a7, cap7, hS7, hO7⟩ := h7
  have c27 := hS7.c2
  have f27 := hS7.fr 2
  have HS7 := (show Hid _ from hS7)
  have HO7 := (show Hid _ from hO7)
  have HB := (show Hid _ from (b1.trans (b2.trans (b3.trans (b4.trans (b5.trans (b6.trans b7)))))))
  clear hS7 hO7 b1 b2 b3 b4 b5 b6 b7 h1 h2 h3 h4 h5 h6
  go_wp2
  go_ret
  exact ⟨ret_int (by rw [hq.out]), by rw [hq.out]; exact ⟨a7, cap7, Sd.set2 HS7.out true, own_mut HO7.out ((Mut.refl R w7).setCell 2 _)⟩, HB.out.setCell (Nat.le_refl _) _⟩

set_option maxHeartbeats 1000000 in
theorem sterm_sE {s : ByteArray} (hs : s.size ≤ 1048576) {f R i : Nat} {l : List Nd} {d : Int} {w : World} (ih : STerm s f) (hdf : d + 1 = 11 - (f : Int)) (hd : d ≤ 10) (hd1 : 1 ≤ d) (h0 : St w R s i false l) (hi : i ≤ s.size) (hl : l.length ≤ i) (h40 : l.length ≤ 40) (n0 : preB s i sA = false) (n1 : preB s i sK = false) (n2 : preB s i sV = false) (n3 : preB s i sH = false) (n4 : preB s i sP = false) (y : preB s i sE = true) :
    Calls Tryz.prog 71 #[.pointer (some ⟨R, 0, none⟩), .int .i64 d] w fun e w' => e = .returned (.int .i64 (qS s (f + 1) i false l).v) ∧ StR w' R s (qS s (f + 1) i false l) ∧ Below R w w' := by
  have c3 : ∃ a cap, w.cell? ⟨R, 3, none⟩ = some (.slice a l.length cap) := by
    obtain ⟨a, cap, hS, hO⟩ := h0
    exact ⟨a, cap, hS.c3⟩
  obtain ⟨a, cap, c3⟩ := c3
  have hdd : decide ((10 : Int) < d) = false := by simpa using hd
  have h40I : (l.length : Int) ≤ 40 := by omega
  have h40d : decide ((40 : Int) < (l.length : Int)) = false := by simpa using h40I
  have IH := (show Hid _ from ih)
  have HD := (show Hid _ from hdf)
  clear ih hdf
  have hq : Hid (qS s (f + 1) i false l = ((qS s f ((Rs.num s ⟨0, i + 3, false, l⟩).want s sCm).j ((Rs.num s ⟨0, i + 3, false, l⟩).want s sCm).b ((Rs.num s ⟨0, i + 3, false, l⟩).want s sCm).l).want s sRp).add (6, (Rs.num s ⟨0, i + 3, false, l⟩).v, (qS s f ((Rs.num s ⟨0, i + 3, false, l⟩).want s sCm).j ((Rs.num s ⟨0, i + 3, false, l⟩).want s sCm).b ((Rs.num s ⟨0, i + 3, false, l⟩).want s sCm).l).v, 0)) := by
    show _ = _
    conv => lhs; unfold qS
    rw [if_neg (by simp; omega), if_neg (by rw [n0]; decide), if_neg (by rw [n1]; decide), if_neg (by rw [n2]; decide), if_neg (by rw [n3]; decide), if_neg (by rw [n4]; decide), if_pos (.inl y), if_pos y]
  have hroom : i + 3 ≤ s.size := preB_room hi y
  have hbt : bt s i = 101 := pre_first y
  have hin := bt_in (s := s) (i := i) (by omega)
  rw [hbt] at hin
  have hlt : i < s.size := by omega
  have o0 : Rs.Ok s i 1 ⟨0, i + 3, false, l⟩ := ⟨by dsimp only; omega, hroom, by dsimp only; omega⟩
  have o1 := o0.num.want (p := sCm)
  have o2 := qS_ok (s := s) f _ 1 ((Rs.num s ⟨0, i + 3, false, l⟩).want s sCm).b _ o1.2.1 o1.2.2
  go_enter Tryz.func71, Tryz.ntmps71
  go_wp2_with fail
  refine (is_no_st R s sA i l _ h0 hi hs (by decide) n0).mono ?_
  rintro e w1 ⟨rfl, h1, b1⟩
  go_wp2_with fail
  refine (is_no_st R s sK i l _ h1 hi hs (by decide) n1).mono ?_
  rintro e w2 ⟨rfl, h2, b2⟩
  go_wp2_with fail
  refine (is_no_st R s sV i l _ h2 hi hs (by decide) n2).mono ?_
  rintro e w3 ⟨rfl, h3, b3⟩
  go_wp2_with fail
  refine (is_no_st R s sH i l _ h3 hi hs (by decide) n3).mono ?_
  rintro e w4 ⟨rfl, h4, b4⟩
  go_wp2_with fail
  refine (is_no_st R s sP i l _ h4 hi hs (by decide) n4).mono ?_
  rintro e w5 ⟨rfl, h5, b5⟩
  go_wp2_with fail
  refine (is_yes_st R s sE i l _ h5 hi hs (by decide) y).mono ?_
  rintro e w6 ⟨rfl, h6, b6⟩
  have cc : ∃ v, Sd w6 R s (i + 3 : Nat) false v := by
    obtain ⟨a, cap, hS, _⟩ := h6
    exact ⟨_, hS⟩
  obtain ⟨v7, hS7⟩ := cc
  have c07 := hS7.c0
  have c17 := hS7.c1
  clear hS7
  go_wp2
  go_quiet (fail)
  go_wp2_with fail
  refine (num_r (r := ⟨0, i + 3, false, l⟩) (St.drewN h6 _) o0 hs).mono ?_
  rintro e u1 ⟨rfl, k1, p1⟩
  go_wp2_with fail
  refine (want_r (p := sCm) k1 o0.num hs (by decide)).mono ?_
  rintro e u2 ⟨rfl, k2, p2⟩
  go_wp2_with fail
  refine (IH.out R ((Rs.num s ⟨0, i + 3, false, l⟩).want s sCm).j ((Rs.num s ⟨0, i + 3, false, l⟩).want s sCm).b ((Rs.num s ⟨0, i + 3, false, l⟩).want s sCm).l (d + 1) _ HD.out (by omega) k2 o1.2.1 (by have := o1.2.2; omega)).mono ?_
  rintro e u3 ⟨rfl, k3, p3⟩
  go_wp2_with fail
  refine (want_r (p := sRp) k3 o2 hs (by decide)).mono ?_
  rintro e u4 ⟨rfl, k4, p4⟩
  go_wp2_with fail
  refine (add_r k4 o2.want hs).mono ?_
  rintro e u5 ⟨rfl, k5, p5⟩
  have p0 : ∀ n, Below R w6 (w6.drewN n) := fun n => ((Mut.refl R w6).drewN n).below (Nat.le_refl _) (by have := h6.lt; omega)
  have HB := (show Hid _ from (b1.trans (b2.trans (b3.trans (b4.trans (b5.trans b6))))).trans ((p0 _).trans (p1.trans (p2.trans (p3.trans (p4.trans p5))))))
  clear b1 h1 b2 h2 b3 h3 b4 h4 b5 h5 b6 h6 p0 p1 p2 p3 p4 p5 k1 k2 k3 k4
  go_wp2
  go_ret
  exact ⟨ret_int (by rw [hq.out]), by rw [hq.out]; exact k5, HB.out⟩

set_option maxHeartbeats 1000000 in
theorem sterm_sS {s : ByteArray} (hs : s.size ≤ 1048576) {f R i : Nat} {l : List Nd} {d : Int} {w : World} (ih : STerm s f) (hdf : d + 1 = 11 - (f : Int)) (hd : d ≤ 10) (hd1 : 1 ≤ d) (h0 : St w R s i false l) (hi : i ≤ s.size) (hl : l.length ≤ i) (h40 : l.length ≤ 40) (n0 : preB s i sA = false) (n1 : preB s i sK = false) (n2 : preB s i sV = false) (n3 : preB s i sH = false) (n4 : preB s i sP = false) (n5 : preB s i sE = false) (y : preB s i sS = true) :
    Calls Tryz.prog 71 #[.pointer (some ⟨R, 0, none⟩), .int .i64 d] w fun e w' => e = .returned (.int .i64 (qS s (f + 1) i false l).v) ∧ StR w' R s (qS s (f + 1) i false l) ∧ Below R w w' := by
  have c3 : ∃ a cap, w.cell? ⟨R, 3, none⟩ = some (.slice a l.length cap) := by
    obtain ⟨a, cap, hS, hO⟩ := h0
    exact ⟨a, cap, hS.c3⟩
  obtain ⟨a, cap, c3⟩ := c3
  have hdd : decide ((10 : Int) < d) = false := by simpa using hd
  have h40I : (l.length : Int) ≤ 40 := by omega
  have h40d : decide ((40 : Int) < (l.length : Int)) = false := by simpa using h40I
  have IH := (show Hid _ from ih)
  have HD := (show Hid _ from hdf)
  clear ih hdf
  have hq : Hid (qS s (f + 1) i false l = ((qS s f ((Rs.num s ⟨0, i + 3, false, l⟩).want s sCm).j ((Rs.num s ⟨0, i + 3, false, l⟩).want s sCm).b ((Rs.num s ⟨0, i + 3, false, l⟩).want s sCm).l).want s sRp).add (7, (Rs.num s ⟨0, i + 3, false, l⟩).v, (qS s f ((Rs.num s ⟨0, i + 3, false, l⟩).want s sCm).j ((Rs.num s ⟨0, i + 3, false, l⟩).want s sCm).b ((Rs.num s ⟨0, i + 3, false, l⟩).want s sCm).l).v, 0)) := by
    show _ = _
    conv => lhs; unfold qS
    rw [if_neg (by simp; omega), if_neg (by rw [n0]; decide), if_neg (by rw [n1]; decide), if_neg (by rw [n2]; decide), if_neg (by rw [n3]; decide), if_neg (by rw [n4]; decide), if_pos (.inr y), if_neg (by rw [n5]; decide)]
  have hroom : i + 3 ≤ s.size := preB_room hi y
  have hbt : bt s i = 115 := pre_first y
  have hin := bt_in (s := s) (i := i) (by omega)
  rw [hbt] at hin
  have hlt : i < s.size := by omega
  have o0 : Rs.Ok s i 1 ⟨0, i + 3, false, l⟩ := ⟨by dsimp only; omega, hroom, by dsimp only; omega⟩
  have o1 := o0.num.want (p := sCm)
  have o2 := qS_ok (s := s) f _ 1 ((Rs.num s ⟨0, i + 3, false, l⟩).want s sCm).b _ o1.2.1 o1.2.2
  go_enter Tryz.func71, Tryz.ntmps71
  go_wp2_with fail
  refine (is_no_st R s sA i l _ h0 hi hs (by decide) n0).mono ?_
  rintro e w1 ⟨rfl, h1, b1⟩
  go_wp2_with fail
  refine (is_no_st R s sK i l _ h1 hi hs (by decide) n1).mono ?_
  rintro e w2 ⟨rfl, h2, b2⟩
  go_wp2_with fail
  refine (is_no_st R s sV i l _ h2 hi hs (by decide) n2).mono ?_
  rintro e w3 ⟨rfl, h3, b3⟩
  go_wp2_with fail
  refine (is_no_st R s sH i l _ h3 hi hs (by decide) n3).mono ?_
  rintro e w4 ⟨rfl, h4, b4⟩
  go_wp2_with fail
  refine (is_no_st R s sP i l _ h4 hi hs (by decide) n4).mono ?_
  rintro e w5 ⟨rfl, h5, b5⟩
  go_wp2_with fail
  refine (is_no_st R s sE i l _ h5 hi hs (by decide) n5).mono ?_
  rintro e w6 ⟨rfl, h6, b6⟩
  go_wp2_with fail
  refine (is_yes_st R s sS i l _ h6 hi hs (by decide) y).mono ?_
  rintro e w7 ⟨rfl, h7, b7⟩
  have cc : ∃ v, Sd w7 R s (i + 3 : Nat) false v := by
    obtain ⟨a, cap, hS, _⟩ := h7
    exact ⟨_, hS⟩
  obtain ⟨v7, hS7⟩ := cc
  have c07 := hS7.c0
  have c17 := hS7.c1
  clear hS7
  go_wp2
  go_quiet (fail)
  go_wp2_with fail
  refine (num_r (r := ⟨0, i + 3, false, l⟩) (St.drewN h7 _) o0 hs).mono ?_
  rintro e u1 ⟨rfl, k1, p1⟩
  go_wp2_with fail
  refine (want_r (p := sCm) k1 o0.num hs (by decide)).mono ?_
  rintro e u2 ⟨rfl, k2, p2⟩
  go_wp2_with fail
  refine (IH.out R ((Rs.num s ⟨0, i + 3, false, l⟩).want s sCm).j ((Rs.num s ⟨0, i + 3, false, l⟩).want s sCm).b ((Rs.num s ⟨0, i + 3, false, l⟩).want s sCm).l (d + 1) _ HD.out (by omega) k2 o1.2.1 (by have := o1.2.2; omega)).mono ?_
  rintro e u3 ⟨rfl, k3, p3⟩
  go_wp2_with fail
  refine (want_r (p := sRp) k3 o2 hs (by decide)).mono ?_
  rintro e u4 ⟨rfl, k4, p4⟩
  go_wp2_with fail
  refine (add_r k4 o2.want hs).mono ?_
  rintro e u5 ⟨rfl, k5, p5⟩
  have p0 : ∀ n, Below R w7 (w7.drewN n) := fun n => ((Mut.refl R w7).drewN n).below (Nat.le_refl _) (by have := h7.lt; omega)
  have HB := (show Hid _ from (b1.trans (b2.trans (b3.trans (b4.trans (b5.trans (b6.trans b7)))))).trans ((p0 _).trans (p1.trans (p2.trans (p3.trans (p4.trans p5))))))
  clear b1 h1 b2 h2 b3 h3 b4 h4 b5 h5 b6 h6 b7 h7 p0 p1 p2 p3 p4 p5 k1 k2 k3 k4
  go_wp2
  go_ret
  exact ⟨ret_int (by rw [hq.out]), by rw [hq.out]; exact k5, HB.out⟩

theorem bfalse {b : Bool} (h : ¬ b = true) : b = false := by simpa using h

theorem sterm_step {s : ByteArray} (hs : s.size ≤ 1048576) {f : Nat} (ih : STerm s f) : STerm s (f + 1) := by
  intro R i b l d w hd hd1 hSt hi hl
  have hd10 : d ≤ 10 := by omega
  have hdf : d + 1 = 11 - (f : Int) := by omega
  by_cases h40 : 40 < l.length
  · exact sterm_many hs f R i b l d w hd10 hd1 hSt hi hl h40
  have h40' : l.length ≤ 40 := by omega
  cases b with
  | true => exact sterm_bad hs f R i l d w hd10 hd1 hSt hi hl h40'
  | false =>
    by_cases y0 : preB s i sA = true
    · exact sterm_sA hs ih hdf hd10 hd1 hSt hi hl h40' y0
    have n0 := bfalse y0
    by_cases y1 : preB s i sK = true
    · exact sterm_sK hs ih hdf hd10 hd1 hSt hi hl h40' n0 y1
    have n1 := bfalse y1
    by_cases y2 : preB s i sV = true
    · exact sterm_sV hs ih hdf hd10 hd1 hSt hi hl h40' n0 n1 y2
    have n2 := bfalse y2
    by_cases y3 : preB s i sH = true
    · exact sterm_sH hs ih hdf hd10 hd1 hSt hi hl h40' n0 n1 n2 y3
    have n3 := bfalse y3
    by_cases y4 : preB s i sP = true
    · exact sterm_sP hs ih hdf hd10 hd1 hSt hi hl h40' n0 n1 n2 n3 y4
    have n4 := bfalse y4
    by_cases y5 : preB s i sE = true
    · exact sterm_sE hs ih hdf hd10 hd1 hSt hi hl h40' n0 n1 n2 n3 n4 y5
    have n5 := bfalse y5
    by_cases y6 : preB s i sS = true
    · exact sterm_sS hs ih hdf hd10 hd1 hSt hi hl h40' n0 n1 n2 n3 n4 n5 y6
    · exact sterm_none hs ih hdf hd10 hd1 hSt hi hl h40' n0 n1 n2 n3 n4 n5 (bfalse y6)

theorem sterm_any {s : ByteArray} (hs : s.size ≤ 1048576) : ∀ f, STerm s f
  | 0 => sterm_zero hs
  | f + 1 => sterm_step hs (sterm_any hs f)

end Go.Proofs.YtcolcnkjcagbaaaGreatDoor
