/-
  The program's termAt, pairAt, termOfNodes, TermOk return what the plain search returns. No condition but that the slice reads.
-/
import Derived.Test.YtpkfehbahpjaiaaTree
namespace Go.Proofs.Ytpkfehbahpjaiaa
open Go.RowKit
set_option linter.unusedVariables false

def tupOf : Option (Value × Int) → Value
  | none => .tuple #[.nilIface, .int .i64 0, .bool false]
  | some (v, x) => .tuple #[v, .int .i64 x, .bool true]

theorem ret_val {a b : Value} (h : a = b) : Ending.returned a = .returned b := by rw [h]

def pP (Kd N A B : Nat → Int) (f n : Nat) : Option (Value × Int) :=
  match tA Kd N A B f ((n : Int) - 1) with
  | none => none
  | some (v2, mid) =>
    if B n ≠ (n : Int) - 1 then none
    else match tA Kd N A B f (mid - 1) with
      | none => none
      | some (v1, beg) => if A n ≠ mid - 1 then none else some (.iface 113 (.agg #[v1, v2]), beg)

section
variable {Kd N A B : Nat → Int}

theorem pP_none1 {f n : Nat} (h : tA Kd N A B f ((n : Int) - 1) = none) : pP Kd N A B f n = none := by unfold pP; rw [h]
theorem pP_noB {f n : Nat} {v : Value} {m : Int} (h : tA Kd N A B f ((n : Int) - 1) = some (v, m)) (hB : B n ≠ (n : Int) - 1) : pP Kd N A B f n = none := by
  unfold pP; rw [h]; dsimp only; rw [if_pos hB]
theorem pP_none2 {f n : Nat} {v : Value} {m : Int} (h : tA Kd N A B f ((n : Int) - 1) = some (v, m)) (h2 : tA Kd N A B f (m - 1) = none) : pP Kd N A B f n = none := by
  unfold pP; rw [h]; dsimp only; rw [h2]; split <;> rfl
theorem pP_noA {f n : Nat} {v v1 : Value} {m beg : Int} (h : tA Kd N A B f ((n : Int) - 1) = some (v, m)) (h2 : tA Kd N A B f (m - 1) = some (v1, beg)) (hA : A n ≠ m - 1) : pP Kd N A B f n = none := by
  unfold pP; rw [h]; dsimp only; rw [h2]; dsimp only; rw [if_pos hA]; split <;> rfl
theorem pP_some {f n : Nat} {v v1 : Value} {m beg : Int} (h : tA Kd N A B f ((n : Int) - 1) = some (v, m)) (hB : B n = (n : Int) - 1) (h2 : tA Kd N A B f (m - 1) = some (v1, beg)) (hA : A n = m - 1) :
    pP Kd N A B f n = some (.iface 113 (.agg #[v1, v]), beg) := by
  unfold pP; rw [h]; dsimp only; rw [h2]; dsimp only; rw [if_neg (by omega), if_neg (by omega)]

theorem tA_iface : ∀ (f : Nat) (p : Int) (v : Value) (x : Int), tA Kd N A B f p = some (v, x) → ∃ t u, v = .iface t u
  | 0, p, v, x, h => by simp [tA] at h
  | f + 1, p, v, x, h => by
    unfold tA at h
    repeat' (split at h)
    all_goals simp at h
    all_goals exact ⟨_, _, h.1.symm⟩

/-- the contract of termAt at fuel f -/
def TermAt (Kd N A B : Nat → Int) (a : Option Addr) (len cap f : Nat) : Prop :=
  ∀ (p d : Int) (w : World), 1 ≤ d → d = 11 - (f : Int) → -1 ≤ p → p < (len : Int) → IsNodes w a len cap Kd N A B →
    Calls Try.prog 71 #[.slice a len cap, .int .i64 p, .int .i64 d] w fun e w' => e = .returned (tupOf (tA Kd N A B f p)) ∧ Below w.heap.size w w'

set_option maxHeartbeats 1000000 in
theorem pairAt_any {a : Option Addr} {len cap f n : Nat} {d : Int} (ih : TermAt Kd N A B a len cap f) (w : World) (hd : 1 ≤ d) (hd2 : d ≤ 10) (hdf : d + 1 = 11 - (f : Int)) (hn : n < len) (hlen : len ≤ 40) (h : IsNodes w a len cap Kd N A B) :
    Calls Try.prog 92 #[.slice a len cap, .int .i64 n, .int .i64 d] w fun e w' => e = .returned (tupOf (pP Kd N A B f n)) ∧ Below w.heap.size w w' := by
  have hI := h
  obtain ⟨hlc, hcm, hc⟩ := h
  obtain ⟨b, off, rfl, hbs, hcell⟩ := hc (by omega)
  obtain ⟨_, _, c3, c4⟩ := hcell n hn
  have IH := (show Hid _ from ih)
  have HD := (show Hid _ from hdf)
  clear hc hcell ih hdf
  go_enter Try.func92, Try.ntmps92
  go_wp2_with fail
  refine (IH.out ((n : Int) - 1) (d + 1) w (by omega) HD.out (by omega) (by omega) hI).mono ?_
  rintro e w1 ⟨rfl, hB1⟩
  have d4 := (hB1.cell (p := ⟨b, off + n * 4 + 3, none⟩) hbs).trans c4
  cases e2 : tA Kd N A B f ((n : Int) - 1) with
  | none =>
    have hr : Hid (pP Kd N A B f n = none) := pP_none1 e2
    dsimp only [tupOf]
    clear e2
    go_wp2
    go_ret3
    exact ⟨ret_val (by rw [hr.out]; rfl), hB1⟩
  | some q =>
    obtain ⟨v2, mid⟩ := q
    have b2 := tA_bound _ _ _ _ e2
    obtain ⟨t2, u2, rfl⟩ := tA_iface _ _ _ _ e2
    have E2 := (show Hid _ from e2)
    dsimp only [tupOf]
    clear e2
    by_cases hBn : B n = (n : Int) - 1
    · have hBb : (B n != (n : Int) - 1) = false := by simpa using hBn
      have HBn := (show Hid _ from hBn)
      clear hBn
      go_wp2_with fail
      refine (IH.out (mid - 1) (d + 1) w1 (by omega) HD.out (by omega) (by omega) (hI.below hB1)).mono ?_
      rintro e w2 ⟨rfl, hB2⟩
      have hB12 : Below w.heap.size w w2 := hB1.trans (hB2.mono hB1.size)
      have d3 := (hB12.cell (p := ⟨b, off + n * 4 + 2, none⟩) hbs).trans c3
      cases e1 : tA Kd N A B f (mid - 1) with
      | none =>
        have hr : Hid (pP Kd N A B f n = none) := pP_none2 E2.out e1
        dsimp only [tupOf]
        clear e1
        go_wp2
        go_ret3
        exact ⟨ret_val (by rw [hr.out]; rfl), hB12⟩
      | some q1 =>
        obtain ⟨v1, beg⟩ := q1
        obtain ⟨t1, u1, rfl⟩ := tA_iface _ _ _ _ e1
        have E1 := (show Hid _ from e1)
        dsimp only [tupOf]
        clear e1
        by_cases hAn : A n = mid - 1
        · have hAb : (A n != mid - 1) = false := by simpa using hAn
          have hr : Hid (pP Kd N A B f n = some (.iface 113 (.agg #[.iface t1 u1, .iface t2 u2]), beg)) := pP_some E2.out HBn.out E1.out hAn
          clear hAn
          go_wp2
          go_ret3
          exact ⟨ret_val (by rw [hr.out]; rfl), hB12⟩
        · have hAb : (A n != mid - 1) = true := by simpa using hAn
          have hr : Hid (pP Kd N A B f n = none) := pP_noA E2.out E1.out hAn
          clear hAn
          go_wp2
          go_ret3
          exact ⟨ret_val (by rw [hr.out]; rfl), hB12⟩
    · have hBb : (B n != (n : Int) - 1) = true := by simpa using hBn
      have hr : Hid (pP Kd N A B f n = none) := pP_noB E2.out hBn
      clear hBn
      go_wp2
      go_ret3
      exact ⟨ret_val (by rw [hr.out]; rfl), hB1⟩

theorem tA_neg {f : Nat} {p : Int} (h : p < 0) : tA Kd N A B (f + 1) p = none := by unfold tA; rw [if_pos h]
theorem tA_bad {f n : Nat} (h : fOk (Kd n) (N n) (A n) (B n) = false) : tA Kd N A B (f + 1) (n : Int) = none := by
  unfold tA; rw [if_neg (by omega), Int.toNat_natCast, if_pos h]
theorem tA_pair {f n : Nat} (h : fOk (Kd n) (N n) (A n) (B n) = true) (h5 : Kd n = 5) : tA Kd N A B (f + 1) (n : Int) = pP Kd N A B f n := by
  unfold tA pP; rw [if_neg (by omega), Int.toNat_natCast, if_neg (by rw [h]; decide), if_pos h5]; rfl
theorem tA_leaf {f n : Nat} (h : fOk (Kd n) (N n) (A n) (B n) = true) (h4 : Kd n < 4) : tA Kd N A B (f + 1) (n : Int) = some (.iface 109 (.agg #[.int .i64 (Kd n), .int .i64 (N n)]), (n : Int)) := by
  unfold tA; rw [if_neg (by omega), Int.toNat_natCast, if_neg (by rw [h]; decide), if_neg (by omega), if_pos h4]
theorem tA_one0 {f n : Nat} (h : fOk (Kd n) (N n) (A n) (B n) = true) (h4 : 4 ≤ Kd n) (h5 : Kd n ≠ 5) (e : tA Kd N A B f ((n : Int) - 1) = none) : tA Kd N A B (f + 1) (n : Int) = none := by
  unfold tA; rw [if_neg (by omega), Int.toNat_natCast, if_neg (by rw [h]; decide), if_neg h5, if_neg (by omega), e]
theorem tA_one1 {f n : Nat} {v : Value} {x : Int} (h : fOk (Kd n) (N n) (A n) (B n) = true) (h4 : 4 ≤ Kd n) (h5 : Kd n ≠ 5) (e : tA Kd N A B f ((n : Int) - 1) = some (v, x)) (hA : A n ≠ (n : Int) - 1) : tA Kd N A B (f + 1) (n : Int) = none := by
  unfold tA; rw [if_neg (by omega), Int.toNat_natCast, if_neg (by rw [h]; decide), if_neg h5, if_neg (by omega), e]; dsimp only; rw [if_pos hA]
theorem tA_hash {f n : Nat} {v : Value} {x : Int} (h : fOk (Kd n) (N n) (A n) (B n) = true) (h4 : Kd n = 4) (e : tA Kd N A B f ((n : Int) - 1) = some (v, x)) (hA : A n = (n : Int) - 1) : tA Kd N A B (f + 1) (n : Int) = some (.iface 111 (.agg #[v]), x) := by
  unfold tA; rw [if_neg (by omega), Int.toNat_natCast, if_neg (by rw [h]; decide), if_neg (by omega), if_neg (by omega), e]; dsimp only; rw [if_neg (by omega), if_pos h4]
theorem tA_keyed {f n : Nat} {v : Value} {x : Int} (h : fOk (Kd n) (N n) (A n) (B n) = true) (h4 : 6 ≤ Kd n) (e : tA Kd N A B f ((n : Int) - 1) = some (v, x)) (hA : A n = (n : Int) - 1) : tA Kd N A B (f + 1) (n : Int) = some (.iface 115 (.agg #[.int .i64 (Kd n), .int .i64 (N n), v]), x) := by
  unfold tA; rw [if_neg (by omega), Int.toNat_natCast, if_neg (by rw [h]; decide), if_neg (by omega), if_neg (by omega), e]; dsimp only; rw [if_neg (by omega), if_neg (by omega)]

set_option maxHeartbeats 2000000 in
theorem termAt_step {a : Option Addr} {len cap f : Nat} (hlen : len ≤ 40) (ih : TermAt Kd N A B a len cap f) : TermAt Kd N A B a len cap (f + 1) := by
  intro p d w hd1 hdf hp1 hp2 h
  have hd10 : d ≤ 10 := by omega
  have IH := (show Hid _ from ih)
  clear ih
  by_cases hp : p < 0
  · have hr : Hid (tA Kd N A B (f + 1) p = none) := tA_neg hp
    go_enter Try.func71, Try.ntmps71
    go_wp2
    go_ret3
    exact ⟨ret_val (by rw [hr.out]; rfl), Below.refl _ _⟩
  obtain ⟨n, rfl⟩ := Int.eq_ofNat_of_zero_le (show 0 ≤ p by omega)
  have hn : n < len := by omega
  have hdf2 : Hid (d + 1 = 11 - (f : Int)) := by show _ = _; omega
  clear hp hdf
  have hI := h
  obtain ⟨hlc, hcm, hc⟩ := h
  obtain ⟨b, off, rfl, hbs, hcell⟩ := hc (by omega)
  obtain ⟨c1, c2, c3, c4⟩ := hcell n hn
  clear hc hcell
  have hdg : ¬ (10 < d) := by omega
  go_enter Try.func71, Try.ntmps71
  go_wp2_with fail
  refine (fieldsOk_any _ _ _ _ _).mono ?_
  rintro e w1 ⟨rfl, hB1⟩
  have d1 := (hB1.cell (p := ⟨b, off + n * 4, none⟩) hbs).trans c1
  have d2 := (hB1.cell (p := ⟨b, off + n * 4 + 1, none⟩) hbs).trans c2
  have d3 := (hB1.cell (p := ⟨b, off + n * 4 + 2, none⟩) hbs).trans c3
  have d4 := (hB1.cell (p := ⟨b, off + n * 4 + 3, none⟩) hbs).trans c4
  clear c1 c2 c3 c4
  by_cases hfo : fOk (Kd n) (N n) (A n) (B n) = true
  · rw [hfo]
    have HF := (show Hid _ from hfo)
    have hk := fOk_kinds hfo
    clear hfo
    have hBA : Below w.heap.size w (w1.alloc (.cells #[.int .i64 (Kd n), .int .i64 (N n), .int .i64 (A n), .int .i64 (B n)] 55)) := hB1.alloc hB1.size _
    by_cases h5 : Kd n = 5
    · have h5b : (Kd n == 5) = true := by simpa using h5
      have hr : Hid (tA Kd N A B (f + 1) (n : Int) = pP Kd N A B f n) := tA_pair HF.out h5
      clear h5
      go_wp2_with fail
      refine (pairAt_any IH.out _ hd1 hd10 hdf2.out hn hlen (hI.below hBA)).mono ?_
      rintro e w2 ⟨rfl, hB2⟩
      have hBF : Below w.heap.size w w2 := hBA.trans (hB2.mono hBA.size)
      cases hq : pP Kd N A B f n with
      | none =>
        rw [hq] at hr
        clear hq
        dsimp only [tupOf]
        go_wp2
        go_ret3
        exact ⟨ret_val (by rw [hr.out]; rfl), hBF⟩
      | some q =>
        obtain ⟨v, x⟩ := q
        rw [hq] at hr
        clear hq
        dsimp only [tupOf]
        go_wp2
        go_ret3
        exact ⟨ret_val (by rw [hr.out]; rfl), hBF⟩
    · have h5b : (Kd n == 5) = false := by simpa using h5
      by_cases h4 : Kd n < 4
      · have hr : Hid (tA Kd N A B (f + 1) (n : Int) = some (.iface 109 (.agg #[.int .i64 (Kd n), .int .i64 (N n)]), (n : Int))) := tA_leaf HF.out h4
        clear h5
        go_wp2
        go_ret3
        exact ⟨ret_val (by rw [hr.out]; rfl), hBA⟩
      · have h4' : 4 ≤ Kd n := by omega
        have H5 := (show Hid _ from h5)
        clear h5 h4
        go_wp2_with fail
        refine (IH.out ((n : Int) - 1) (d + 1) _ (by omega) hdf2.out (by omega) (by omega) (hI.below hBA)).mono ?_
        rintro e w2 ⟨rfl, hB2⟩
        have hBF : Below w.heap.size w w2 := hBA.trans (hB2.mono hBA.size)
        obtain ⟨hc2, hf2⟩ := bcell hB2
        simp only [World.size_alloc] at hc2 hf2
        cases e2 : tA Kd N A B f ((n : Int) - 1) with
        | none =>
          have hr : Hid (tA Kd N A B (f + 1) (n : Int) = none) := tA_one0 HF.out h4' H5.out e2
          dsimp only [tupOf]
          clear e2
          go_wp2
          go_ret3
          exact ⟨ret_val (by rw [hr.out]; rfl), hBF⟩
        | some q =>
          obtain ⟨v, x⟩ := q
          obtain ⟨t, u, rfl⟩ := tA_iface _ _ _ _ e2
          have E2 := (show Hid _ from e2)
          dsimp only [tupOf]
          clear e2
          by_cases hAn : A n = (n : Int) - 1
          · have hAb : (A n != (n : Int) - 1) = false := by simpa using hAn
            by_cases hk4 : Kd n = 4
            · have hr : Hid (tA Kd N A B (f + 1) (n : Int) = some (.iface 111 (.agg #[.iface t u]), x)) := tA_hash HF.out hk4 E2.out hAn
              have hk4b : (Kd n == 4) = true := by simpa using hk4
              clear hAn hk4
              go_wp2
              go_ret3
              exact ⟨ret_val (by rw [hr.out]; rfl), hBF⟩
            · have h6 : 6 ≤ Kd n := by
                have h5x : ¬ Kd n = 5 := H5.out
                omega
              have hk4b : (Kd n == 4) = false := by simpa using hk4
              have hr : Hid (tA Kd N A B (f + 1) (n : Int) = some (.iface 115 (.agg #[.int .i64 (Kd n), .int .i64 (N n), .iface t u]), x)) := tA_keyed HF.out h6 E2.out hAn
              clear hAn hk4 h6
              go_wp2
              go_ret3
              exact ⟨ret_val (by rw [hr.out]; rfl), hBF⟩
          · have hAb : (A n != (n : Int) - 1) = true := by simpa using hAn
            have hr : Hid (tA Kd N A B (f + 1) (n : Int) = none) := tA_one1 HF.out h4' H5.out E2.out hAn
            clear hAn
            go_wp2
            go_ret3
            exact ⟨ret_val (by rw [hr.out]; rfl), hBF⟩
  · have hfo' : fOk (Kd n) (N n) (A n) (B n) = false := by simpa using hfo
    have hr : Hid (tA Kd N A B (f + 1) (n : Int) = none) := tA_bad hfo'
    rw [hfo']
    clear hfo hfo'
    go_wp2
    go_ret3
    exact ⟨ret_val (by rw [hr.out]; rfl), hB1⟩

set_option maxHeartbeats 400000 in
theorem termAt_zero {a : Option Addr} {len cap : Nat} : TermAt Kd N A B a len cap 0 := by
  intro p d w hd1 hdf hp1 hp2 h
  have hd : d = 11 := by omega
  subst hd
  clear hdf
  have hr : Hid (tA Kd N A B 0 p = none) := rfl
  by_cases hp : p < 0
  · go_enter Try.func71, Try.ntmps71
    go_wp2
    go_ret3
    exact ⟨ret_val (by rw [hr.out]; rfl), Below.refl _ _⟩
  · go_enter Try.func71, Try.ntmps71
    go_wp2
    go_ret3
    exact ⟨ret_val (by rw [hr.out]; rfl), Below.refl _ _⟩

theorem termAt_any {a : Option Addr} {len cap : Nat} (hlen : len ≤ 40) : ∀ f, TermAt Kd N A B a len cap f
  | 0 => termAt_zero
  | f + 1 => termAt_step hlen (termAt_any hlen f)

theorem lastPlace_any (a : Option Addr) (len cap : Nat) (w : World) (hl : len ≤ 9223372036854775807) :
    Calls Try.prog 72 #[.slice a len cap] w fun e w' => e = .returned (.int .i64 ((len : Int) - 1)) ∧ w' = w := by
  go_enter Try.func72, Try.ntmps72
  go_wp2
  go_ret
  exact ⟨rfl, rfl⟩

def tup2 : Option Value → Value
  | none => .tuple #[.nilIface, .bool false]
  | some v => .tuple #[v, .bool true]

theorem tOf_no {len : Nat} (h : len < 1 ∨ 40 < len) : tOf Kd N A B len = none := by unfold tOf; rw [if_pos h]
theorem tOf_none {len : Nat} (h : ¬ (len < 1 ∨ 40 < len)) (e : tA Kd N A B 10 ((len : Int) - 1) = none) : tOf Kd N A B len = none := by unfold tOf; rw [if_neg h, e]
theorem tOf_off {len : Nat} {v : Value} {x : Int} (h : ¬ (len < 1 ∨ 40 < len)) (e : tA Kd N A B 10 ((len : Int) - 1) = some (v, x)) (hx : x ≠ 0) : tOf Kd N A B len = none := by unfold tOf; rw [if_neg h, e]; dsimp only; rw [if_pos hx]
theorem tOf_some {len : Nat} {v : Value} (h : ¬ (len < 1 ∨ 40 < len)) (e : tA Kd N A B 10 ((len : Int) - 1) = some (v, 0)) : tOf Kd N A B len = some v := by unfold tOf; rw [if_neg h, e]; dsimp only; rw [if_neg (by simp)]

set_option maxHeartbeats 400000 in
theorem termOfNodes_any (a : Option Addr) (len cap : Nat) (w : World) (h : IsNodes w a len cap Kd N A B) :
    Calls Try.prog 48 #[.slice a len cap] w fun e w' => e = .returned (tup2 (tOf Kd N A B len)) ∧ Below w.heap.size w w' := by
  have hI := h
  obtain ⟨hlc, hcm, hc⟩ := h
  by_cases h1 : (len : Int) < 1
  · have hr : Hid (tOf Kd N A B len = none) := tOf_no (by omega)
    go_enter Try.func48, Try.ntmps48
    go_wp2
    go_ret2
    exact ⟨ret_val (by rw [hr.out]; rfl), Below.refl _ _⟩
  by_cases h2 : (40 : Int) < (len : Int)
  · have hr : Hid (tOf Kd N A B len = none) := tOf_no (by omega)
    go_enter Try.func48, Try.ntmps48
    go_wp2
    go_ret2
    exact ⟨ret_val (by rw [hr.out]; rfl), Below.refl _ _⟩
  have hno : Hid (¬ (len < 1 ∨ 40 < len)) := by show ¬ _; omega
  clear hc
  go_enter Try.func48, Try.ntmps48
  go_wp2_with (go_at_call 72; refine (lastPlace_any _ _ _ _ (by omega)).mono ?_; rintro e w' ⟨rfl, rfl⟩)
  refine (termAt_any (Kd := Kd) (N := N) (A := A) (B := B) (a := a) (len := len) (cap := cap) (by omega) 10 ((len : Int) - 1) 1 _ (by omega) (by omega) (by omega) (by omega) hI).mono ?_
  rintro e w1 ⟨rfl, hB1⟩
  cases e2 : tA Kd N A B 10 ((len : Int) - 1) with
  | none =>
    have hr : Hid (tOf Kd N A B len = none) := tOf_none hno.out e2
    dsimp only [tupOf]
    clear e2
    go_wp2
    go_ret2
    exact ⟨ret_val (by rw [hr.out]; rfl), hB1⟩
  | some q =>
    obtain ⟨v, x⟩ := q
    by_cases hx : x = 0
    · subst hx
      have hr : Hid (tOf Kd N A B len = some v) := tOf_some hno.out e2
      dsimp only [tupOf]
      clear e2
      go_wp2
      go_ret2
      exact ⟨ret_val (by rw [hr.out]; rfl), hB1⟩
    · have hxb : (x != 0) = true := by simpa using hx
      have hr : Hid (tOf Kd N A B len = none) := tOf_off hno.out e2 hx
      dsimp only [tupOf]
      clear e2 hx
      go_wp2
      go_ret2
      exact ⟨ret_val (by rw [hr.out]; rfl), hB1⟩

set_option maxHeartbeats 400000 in
theorem implTermOk_any (a : Option Addr) (len cap : Nat) (w : World) (h : IsNodes w a len cap Kd N A B) :
    Calls Try.prog 15 #[.slice a len cap] w fun e w' => e = .returned (.bool (sOk Kd N A B len)) ∧ Below w.heap.size w w' := by
  have hr : Hid (sOk Kd N A B len = (tOf Kd N A B len).isSome) := sOk_tOf Kd N A B len
  go_enter Try.func15, Try.ntmps15
  go_wp2_with fail
  refine (termOfNodes_any a len cap w h).mono ?_
  rintro e w1 ⟨rfl, hB1⟩
  generalize tOf Kd N A B len = q at *
  cases q with
  | none =>
    dsimp only [tup2]
    go_wp2
    go_ret
    exact ⟨ret_bool (by rw [hr.out]; rfl), hB1⟩
  | some v =>
    dsimp only [tup2]
    go_wp2
    go_ret
    exact ⟨ret_bool (by rw [hr.out]; rfl), hB1⟩

end

end Go.Proofs.Ytpkfehbahpjaiaa
