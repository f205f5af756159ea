/-
  Elements of four cells in slices: how they read, copies of them, holding two of them against each other. No condition but that the slices read.
-/
import Derived.Test.YtmlikcblfkkpjaaBase
import Derived.Laws.CopyOwn
namespace Go.Proofs.Ytmlikcblfkkpjaa
open Go.RowKit
set_option linter.unusedVariables false

theorem ret_val {a b : Value} (h : a = b) : Ending.returned a = .returned b := by rw [h]
theorem cellN {w : World} {b i : Nat} {cs : Array Value} {t : TypeId} (h : w.heap[b]? = some (.cells cs t (0, 0))) : w.cell? ⟨b, i, none⟩ = cs[i]? := by simp [World.cell?, h]
theorem frozN {w : World} {b i : Nat} {cs : Array Value} {t : TypeId} (h : w.heap[b]? = some (.cells cs t (0, 0))) : w.frozen? ⟨b, i, none⟩ = false := by simp [World.frozen?, h]

/-- an element as plain data -/
structure Ev where
  a : Int
  b : Int
  c : Int
  d : ByteArray

/-- the element x lies at place o of block b -/
structure EvAt (w : World) (b o : Nat) (x : Ev) : Prop where
  c0 : w.cell? ⟨b, o, none⟩ = some (.int .i64 x.a)
  c1 : w.cell? ⟨b, o + 1, none⟩ = some (.int .i64 x.b)
  c2 : w.cell? ⟨b, o + 2, none⟩ = some (.int .i64 x.c)
  c3 : w.cell? ⟨b, o + 3, none⟩ = some (.string x.d)
theorem EvAt.below {w w' : World} {b o : Nat} {x : Ev} (h : EvAt w b o x) (hB : Below w.heap.size w w') : EvAt w' b o x :=
  ⟨(hB.cell (p := ⟨b, o, none⟩) (cell_lt h.c0)).trans h.c0, (hB.cell (p := ⟨b, o + 1, none⟩) (cell_lt h.c0)).trans h.c1, (hB.cell (p := ⟨b, o + 2, none⟩) (cell_lt h.c0)).trans h.c2, (hB.cell (p := ⟨b, o + 3, none⟩) (cell_lt h.c0)).trans h.c3⟩
theorem EvAt.grow {n : Nat} {w w' : World} {b o : Nat} {x : Ev} (h : EvAt w b o x) (hb : b < n) (hB : Below n w w') : EvAt w' b o x :=
  ⟨(hB.cell (p := ⟨b, o, none⟩) hb).trans h.c0, (hB.cell (p := ⟨b, o + 1, none⟩) hb).trans h.c1, (hB.cell (p := ⟨b, o + 2, none⟩) hb).trans h.c2, (hB.cell (p := ⟨b, o + 3, none⟩) hb).trans h.c3⟩

/-- a slice of elements that reads as D 0, D 1, .. -/
def IsEvs (w : World) (a : Option Addr) (len cap : Nat) (D : Nat → Ev) : Prop :=
  len ≤ cap ∧ cap ≤ 9223372036854775807 ∧ (0 < len → ∃ b off, a = some ⟨b, off, none⟩ ∧ b < w.heap.size ∧ ∀ i, i < len → EvAt w b (off + i * 4) (D i))
theorem IsEvs.below {w w' : World} {a : Option Addr} {len cap : Nat} {D : Nat → Ev} (h : IsEvs w a len cap D) (hB : Below w.heap.size w w') : IsEvs w' a len cap D := by
  obtain ⟨h1, h2, h3⟩ := h
  refine ⟨h1, h2, fun hp => ?_⟩
  obtain ⟨b, off, e, hb, hc⟩ := h3 hp
  exact ⟨b, off, e, by have := hB.size; omega, fun i hi => (hc i hi).below hB⟩

theorem infoE : (Try.prog.info? 35).map (fun i => (i.zero, i.size, i.bytes)) = some (some (.agg #[.int .i64 0, .int .i64 0, .int .i64 0, .string ⟨#[]⟩]), 4, 40) := by kernel_rfl

theorem infoE4 : (Try.prog.info? 35).map (·.size) = some 4 := by kernel_rfl

set_option maxHeartbeats 1000000 in
theorem toEv_any (x : Ev) (w : World) :
    Calls Try.prog 32 #[.agg #[.int .i64 x.a, .int .i64 x.b, .int .i64 x.c, .string x.d]] w fun e w' => e = .returned (.agg #[.int .i64 x.a, .int .i64 x.b, .int .i64 x.c, .string x.d]) ∧ Below w.heap.size w w' := by
  have HB : Hid (∀ o o' o'', Below w.heap.size w (((w.alloc o).alloc o').alloc o'')) := fun o o' o'' => (((Below.refl _ _).alloc (Nat.le_refl _) _).alloc (by simp) _).alloc (by simp; omega) _
  go_enter Try.func32, Try.ntmps32
  have hh : ((((w.alloc (.cells #[.int .i64 x.a, .int .i64 x.b, .int .i64 x.c, .string x.d] 47)).alloc (.cells #[.int .i64 x.a, .int .i64 x.b, .int .i64 x.c, .string x.d] 35)).alloc (.cells #[.int .i64 x.a, .int .i64 x.b, .int .i64 x.c, .string x.d] 35)).heap[w.heap.size + 1]?) = some (.cells #[.int .i64 x.a, .int .i64 x.b, .int .i64 x.c, .string x.d] 35) := by
    rw [Below.heap_alloc _ _ _ (by simp)]
    have := heap_alloc_new (w.alloc (.cells #[.int .i64 x.a, .int .i64 x.b, .int .i64 x.c, .string x.d] 47)) (.cells #[.int .i64 x.a, .int .i64 x.b, .int .i64 x.c, .string x.d] 35)
    simpa using this
  have HH := (show Hid _ from hh)
  clear hh
  go_wp2
  exact bodyPost_ret (v := .agg #[.int .i64 x.a, .int .i64 x.b, .int .i64 x.c, .string x.d]) (results_cell_row rfl _ _ (w.heap.size + 1) 35 _ _ _ rfl HH.out Try.underlying35 rfl infoE4) rfl ⟨rfl, HB.out _ _ _⟩

/-- the four cells of element j are laid in xs -/
def Laid4 (xs : List Value) (D : Nat → Ev) (j : Nat) : Prop :=
  xs[j * 4]? = some (.int .i64 (D j).a) ∧ xs[j * 4 + 1]? = some (.int .i64 (D j).b) ∧ xs[j * 4 + 2]? = some (.int .i64 (D j).c) ∧ xs[j * 4 + 3]? = some (.string (D j).d)

theorem get_set4 (xs : List Value) (k j t : Nat) (v0 v1 v2 v3 : Value) (hj : j < k) (ht : t < 4) :
    ((((xs.set (k * 4) v0).set (k * 4 + 1) v1).set (k * 4 + 2) v2).set (k * 4 + 3) v3)[j * 4 + t]? = xs[j * 4 + t]? := by
  rw [List.getElem?_set_ne (by omega), List.getElem?_set_ne (by omega), List.getElem?_set_ne (by omega), List.getElem?_set_ne (by omega)]
theorem Laid4.set {xs : List Value} {D : Nat → Ev} {k j : Nat} {v0 v1 v2 v3 : Value} (h : Laid4 xs D j) (hj : j < k) : Laid4 ((((xs.set (k * 4) v0).set (k * 4 + 1) v1).set (k * 4 + 2) v2).set (k * 4 + 3) v3) D j :=
  ⟨(get_set4 xs k j 0 _ _ _ _ hj (by omega)).trans h.1, (get_set4 xs k j 1 _ _ _ _ hj (by omega)).trans h.2.1, (get_set4 xs k j 2 _ _ _ _ hj (by omega)).trans h.2.2.1, (get_set4 xs k j 3 _ _ _ _ hj (by omega)).trans h.2.2.2⟩
theorem Laid4.new {xs : List Value} {D : Nat → Ev} {k : Nat} (h : k * 4 + 3 < xs.length) : Laid4 ((((xs.set (k * 4) (.int .i64 (D k).a)).set (k * 4 + 1) (.int .i64 (D k).b)).set (k * 4 + 2) (.int .i64 (D k).c)).set (k * 4 + 3) (.string (D k).d)) D k := by
  refine ⟨?_, ?_, ?_, ?_⟩
  · rw [List.getElem?_set_ne (by omega), List.getElem?_set_ne (by omega), List.getElem?_set_ne (by omega), List.getElem?_set_self (by omega)]
  · rw [List.getElem?_set_ne (by omega), List.getElem?_set_ne (by omega), List.getElem?_set_self (by simp; omega)]
  · rw [List.getElem?_set_ne (by omega), List.getElem?_set_self (by simp; omega)]
  · rw [List.getElem?_set_self (by simp; omega)]

/-- a row of len elements at block g that can be written and reads as D 0, D 1, .. -/
def EOwn (w : World) (base g len : Nat) (D : Nat → Ev) : Prop :=
  ∃ xs, w.ownsRow base 35 4 (.slice (some ⟨g, 0, none⟩) len len) len xs ∧ ∀ j, j < len → Laid4 xs D j
theorem evs_of_own {w : World} {base g len cap : Nat} {xs : List Value} {D : Nat → Ev} (h : w.ownsRow base 35 4 (.slice (some ⟨g, 0, none⟩) len cap) len xs) (hx : ∀ j, j < len → Laid4 xs D j) (hc : cap ≤ 9223372036854775807) (hlc : len ≤ cap) : IsEvs w (some ⟨g, 0, none⟩) len cap D := by
  refine ⟨hlc, hc, fun hp => ⟨g, 0, rfl, own_live h, fun j hj => ?_⟩⟩
  obtain ⟨g0, g1, g2, g3⟩ := hx j hj
  refine ⟨?_, ?_, ?_, ?_⟩
  · rw [Nat.zero_add, h.cellAt _ (by omega)]; exact g0
  · rw [Nat.zero_add, h.cellAt _ (by omega)]; exact g1
  · rw [Nat.zero_add, h.cellAt _ (by omega)]; exact g2
  · rw [Nat.zero_add, h.cellAt _ (by omega)]; exact g3
theorem EOwn.evs {w : World} {base g len : Nat} {D : Nat → Ev} (h : EOwn w base g len D) (hl : len ≤ 1048576) : IsEvs w (some ⟨g, 0, none⟩) len len D := by
  obtain ⟨xs, h1, h2⟩ := h
  exact evs_of_own h1 h2 (by omega) (Nat.le_refl _)
theorem EOwn.below {w w' : World} {base g len : Nat} {D : Nat → Ev} (h : EOwn w base g len D) (hB : Below w.heap.size w w') : EOwn w' base g len D := by
  obtain ⟨xs, h1, h2⟩ := h
  exact ⟨xs, ownsRow_below h1 hB, h2⟩

set_option maxRecDepth 10000 in
set_option maxHeartbeats 2000000 in
theorem toEvs_own (a : Option Addr) (len cap : Nat) (D : Nat → Ev) (w : World) (h : IsEvs w a len cap D) (hl : len ≤ 1048576) :
    Calls Try.prog 11 #[.slice a len cap] w fun e w' => e = .returned (.slice (some ⟨w.heap.size, 0, none⟩) len len) ∧ EOwn w' w.heap.size w.heap.size len D ∧ Below w.heap.size w w' := by
  obtain ⟨hlc, hcm, hc⟩ := h
  obtain ⟨i0, hi, hz0, hz1, hz2⟩ := info_parts infoE
  have hb2 : i0.bytes * len ≤ 281474976710656 := by rw [hz2]; omega
  have hb3 : len ≤ maxLen := by unfold maxLen; omega
  go_enter Try.func11, Try.ntmps11
  go_wp2_with (at_make; refine wpList_make_full _ rfl _ _ 26 rfl w.heap.size 35 i0 (.agg #[.int .i64 0, .int .i64 0, .int .i64 0, .string ⟨#[]⟩]) 4 Try.underlying26 hi hz0 hz1 .i64 .i64 _ _ len rfl rfl rfl rfl hb2 hb3 (Nat.le_refl _) ?_; intro w1 hown hgrow)
  have hB1 : Below w.heap.size w w1 := (Below.refl _ w).grown hgrow (Nat.le_refl _) (fun k hk => by cases hk)
  clear hgrow
  go_loopw [4] (fun i wr => ∃ (k : Nat) (xs : List Value), k ≤ len ∧ i = .int .i64 k ∧ wr.ownsRow w.heap.size 35 4 (.slice (some ⟨w.heap.size, 0, none⟩) len len) len xs ∧ Hid (∀ j, j < k → Laid4 xs D j) ∧ Below w.heap.size w wr)
    (fun i _ => len - (intOf i).toNat)
  case atStart => exact ⟨0, _, Nat.zero_le _, rfl, hown, fun j hj => absurd hj (Nat.not_lt_zero _), hB1⟩
  case round =>
    obtain ⟨k, xs, hk, rfl, how, HA, hB⟩ := hrel
    by_cases hlt : k < len
    · obtain ⟨b, off, rfl, hbs, hcell⟩ := hc (by omega)
      obtain ⟨c0, c1, c2, c3⟩ : EvAt wr b (off + k * 4) (D k) := (hcell k hlt).grow hbs hB
      have hltI : (k : Int) < (len : Int) := by omega
      have HO : Hid (_) := how
      clear hcell hc how hown hB1
      go_wp2_with fail
      refine (toEv_any (D k) _).mono ?_
      rintro e w2 ⟨rfl, hB2⟩
      have hxl : xs.length = len * 4 := HO.out.1
      have f0 := (ownsRow_below HO.out hB2).frozenAt (k * 4)
      obtain ⟨z0, y0⟩ := own_some (ownsRow_below HO.out hB2) (k * 4) (by omega)
      have f1 := (ownsRow_below HO.out hB2).frozenAt (k * 4 + 1)
      obtain ⟨z1, y1⟩ := own_some (ownsRow_below HO.out hB2) (k * 4 + 1) (by omega)
      have f2 := (ownsRow_below HO.out hB2).frozenAt (k * 4 + 2)
      obtain ⟨z2, y2⟩ := own_some (ownsRow_below HO.out hB2) (k * 4 + 2) (by omega)
      have f3 := (ownsRow_below HO.out hB2).frozenAt (k * 4 + 3)
      obtain ⟨z3, y3⟩ := own_some (ownsRow_below HO.out hB2) (k * 4 + 3) (by omega)
      have HB2 : Hid (Below wr.heap.size wr w2) := hB2
      clear c0 c1 c2 c3
      go_wp2
      go_roundw
      case rel =>
        have hB2 := HB2.out
        refine ⟨k + 1, ((((xs).set (k * 4) (.int .i64 (D k).a)).set (k * 4 + 1) (.int .i64 (D k).b)).set (k * 4 + 2) (.int .i64 (D k).c)).set (k * 4 + 3) (.string (D k).d), by omega, by go_num, ?_, ?_, ?_⟩
        · exact (((((((((ownsRow_below HO.out hB2).stored _ _).1).stored _ _).1).stored _ _).1).stored _ _).1)
        · intro j hj
          rcases Nat.lt_succ_iff_lt_or_eq.1 hj with h1 | rfl
          · exact (HA.out j h1).set h1
          · exact Laid4.new (by omega)
        · exact (((((hB.trans (hB2.mono hB.size)).setCell (Nat.le_refl _) _).setCell (Nat.le_refl _) _).setCell (Nat.le_refl _) _).setCell (Nat.le_refl _) _)
      case measure => simp [intOf]; omega
    · have hke : k = len := by omega
      subst hke
      have HF : Hid (EOwn wr w.heap.size w.heap.size k D) := ⟨xs, how, HA.out⟩
      clear how hown hB1 HA
      go_wp2
      go_ret
      exact ⟨rfl, HF.out, hB⟩

/-- the same element, as a test -/
def Ev.same (x y : Ev) : Bool := x.a == y.a && (x.b == y.b && (x.c == y.c && (fun (p q : ByteArray) => p.toList == q.toList) x.d y.d))
theorem Ev.same_refl (x : Ev) : x.same x = true := by unfold Ev.same; simp []

set_option maxHeartbeats 1000000 in
theorem eqEv_same (x : Ev) (w : World) :
    Calls Try.prog 22 #[.agg #[.int .i64 x.a, .int .i64 x.b, .int .i64 x.c, .string x.d], .agg #[.int .i64 x.a, .int .i64 x.b, .int .i64 x.c, .string x.d]] w fun e w' => e = .returned (.bool true) ∧ Below w.heap.size w w' := by
  have HB : Hid (∀ o o', Below w.heap.size w ((w.alloc o).alloc o')) := fun o o' => ((Below.refl _ _).alloc (Nat.le_refl _) _).alloc (by simp) _
  have e1 : (x.a != x.a) = false := by simp
  have e2 : (x.b != x.b) = false := by simp
  have e3 : (x.c != x.c) = false := by simp
  have e4 : (x.d.toList != x.d.toList) = false := by simp
  go_enter Try.func22, Try.ntmps22
  go_wp2
  go_ret
  exact ⟨rfl, HB.out _ _⟩

set_option maxHeartbeats 1000000 in
theorem eqEvs_same (a a' : Option Addr) (len cap cap' : Nat) (D : Nat → Ev) (w : World) (h : IsEvs w a len cap D) (h' : IsEvs w a' len cap' D) :
    Calls Try.prog 14 #[.slice a len cap, .slice a' len cap'] w fun e w' => e = .returned (.bool true) ∧ Below w.heap.size w w' := by
  obtain ⟨hlc, hcm, hc⟩ := h
  obtain ⟨hlc', hcm', hc'⟩ := h'
  have hbn : ((len : Int) != (len : Int)) = false := by simp
  go_enter Try.func14, Try.ntmps14
  go_wp2
  go_loopw [5] (fun i wr => ∃ (k : Nat), k ≤ len ∧ i = .int .i64 k ∧ Below w.heap.size w wr) (fun i _ => len - (intOf i).toNat)
  case atStart => exact ⟨0, Nat.zero_le _, rfl, Below.refl _ _⟩
  case round =>
    obtain ⟨k, hk, rfl, hB⟩ := hrel
    by_cases hlt : k < len
    · obtain ⟨b, off, rfl, hbs, hcell⟩ := hc (by omega)
      obtain ⟨b', off', rfl, hbs', hcell'⟩ := hc' (by omega)
      have m1 : EvAt wr b (off + k * 4) (D k) := (hcell k hlt).grow hbs hB
      have m2 : EvAt wr b' (off' + k * 4) (D k) := (hcell' k hlt).grow hbs' hB
      have hltI : (k : Int) < (len : Int) := by omega
      have HX : Hid (∀ t : Later wr, Calls Try.prog 22 #[.agg #[.int .i64 (D k).a, .int .i64 (D k).b, .int .i64 (D k).c, .string (D k).d], .agg #[.int .i64 (D k).a, .int .i64 (D k).b, .int .i64 (D k).c, .string (D k).d]] t.val fun e w' => e = .returned (.bool true) ∧ Below t.val.heap.size t.val w') := fun t => eqEv_same (D k) t.val
      have q0 : ∀ s : Later wr, s.val.cell? ⟨b, off + k * 4, none⟩ = some (.int .i64 (D k).a) := fun s => s.cell m1.c0
      have q1 : ∀ s : Later wr, s.val.cell? ⟨b, off + k * 4 + 1, none⟩ = some (.int .i64 (D k).b) := fun s => s.cell m1.c1
      have q2 : ∀ s : Later wr, s.val.cell? ⟨b, off + k * 4 + 2, none⟩ = some (.int .i64 (D k).c) := fun s => s.cell m1.c2
      have q3 : ∀ s : Later wr, s.val.cell? ⟨b, off + k * 4 + 3, none⟩ = some (.string (D k).d) := fun s => s.cell m1.c3
      have r0 : ∀ s : Later wr, s.val.cell? ⟨b', off' + k * 4, none⟩ = some (.int .i64 (D k).a) := fun s => s.cell m2.c0
      have r1 : ∀ s : Later wr, s.val.cell? ⟨b', off' + k * 4 + 1, none⟩ = some (.int .i64 (D k).b) := fun s => s.cell m2.c1
      have r2 : ∀ s : Later wr, s.val.cell? ⟨b', off' + k * 4 + 2, none⟩ = some (.int .i64 (D k).c) := fun s => s.cell m2.c2
      have r3 : ∀ s : Later wr, s.val.cell? ⟨b', off' + k * 4 + 3, none⟩ = some (.string (D k).d) := fun s => s.cell m2.c3
      have hne := Later.any wr
      clear hcell hcell' hc hc' m1 m2
      go_wp2
      refine wp_region_later (by kernel_rfl) (by kernel_rfl) ?_
      repeat (go_big_quiet_step ((rename_i t; exact Calls.later (HX.out t))))
      refine wpQuiet_nil ?_
      rintro _ ⟨⟨w', hB2⟩, rfl⟩
      go_wp2
      go_roundw
      case rel => exact ⟨k + 1, by omega, by go_num, hB.trans (hB2.mono hB.size)⟩
      case measure => simp [intOf]; omega
    · have hke : k = len := by omega
      subst hke
      go_wp2
      go_ret
      exact ⟨rfl, hB⟩
end Go.Proofs.Ytmlikcblfkkpjaa
