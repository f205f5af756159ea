/-
  The specification's Beaten. No condition but that the slice reads.
-/
import Derived.Test.YtnjlegphohmajaaBtN
import Derived.Handy
namespace Go.Proofs.Ytnjlegphohmajaa
open Go.RowKit Go.Maps
set_option linter.unusedVariables false

set_option maxRecDepth 10000 in
set_option maxHeartbeats 4000000 in
theorem specBeaten_any (b off cap : Nat) (A : List Ev) (who at' : Int) (t : ByteArray) (w : World) (h : Lies w b off A) (hb : b < w.heap.size) (hl : A.length ≤ cap) (hc : cap ≤ 9223372036854775807) (hF : ∀ i, i < A.length → (A.getD i evZ).in) (ht : t.size ≤ 9223372036854775807) :
    Calls Try.prog 11 #[.slice (some ⟨b, off, none⟩) A.length cap, .int .i64 who, .int .i64 at', .string t] w fun e w' => ∃ v, e = .returned (.tuple #[v, .bool (bnB A who at' t)]) ∧ OwnV w' w.heap.size v (bnR A who at' t) ∧ Below w.heap.size w w' := by
  have HL : Hid (Lies w b off A) := h
  have HS : Hid (∀ w', Below w.heap.size w w' → Calls Try.prog 14 #[.slice (some ⟨b, off, none⟩) A.length cap] w' fun e w'' => e = .returned (.bool (beatsL A)) ∧ Below w'.heap.size w' w'') := fun w' hB => specBeats_any _ _ _ _ w' ((h.grow hb hB).evs (Nat.lt_of_lt_of_le hb hB.size) hl hc) hF
  have HFF : Hid (∀ x ∈ A, x.in) := fun x hx => by
    obtain ⟨i, hi, rfl⟩ := List.getElem_of_mem hx
    have := hF i hi
    rw [getD_get hi] at this
    exact this
  clear h hF
  obtain ⟨n, hn⟩ : ∃ n, n = A.length := ⟨_, rfl⟩
  have HN : Hid (n = A.length) := hn
  rw [← hn] at hl HS ⊢
  clear hn
  go_enter Try.func11, Try.ntmps11
  go_wp2_with fail
  refine (HS.out w (Below.refl _ _)).mono ?_
  rintro e w1 ⟨rfl, hB1⟩
  have HB1 : Hid (Below w.heap.size w w1) := hB1
  clear hB1
  cases hA : beatsL A with
  | false =>
    have HR : Hid (bnB A who at' t = false ∧ bnR A who at' t = []) := by
      have e1 : bnB A who at' t = false := by unfold bnB; rw [hA]; rfl
      exact ⟨e1, by unfold bnR; rw [e1]; rfl⟩
    go_wp2
    go_ret2
    rw [HR.out.1]
    exact ⟨_, rfl, by rw [HR.out.2]; exact OwnV.nil _ _, HB1.out⟩
  | true =>
    have HU : Hid (UpB A) := beatsL_up hA
    have hn12 : n ≤ 12 := by rw [HN.out]; exact beatsL_len hA
    have HA : Hid (beatsL A = true) := hA
    clear hA
    have HG0 : Hid ((w1.alloc (.cells #[.int .i64 who, .int .i64 1, .int .i64 at', .string t] 32)).heap[w1.heap.size]? = some (.cells #[.int .i64 who, .int .i64 (clkTo A who 0), .int .i64 at', .string t] 32)) := heap_alloc_new _ _
    have HB0 : Hid (Below w1.heap.size w1 (w1.alloc (.cells #[.int .i64 who, .int .i64 1, .int .i64 at', .string t] 32))) := (Below.refl _ _).alloc (Nat.le_refl _) _
    have HL1 : Hid (Lies w1 b off A) := HL.out.grow hb HB1.out
    have HbW : Hid (b < w1.heap.size) := Nat.lt_of_lt_of_le hb HB1.out.size
    go_wp2
    go_loopw [11] (fun i wr => ∃ (k : Nat), k ≤ n ∧ i = .int .i64 k ∧ Hid (wr.heap[w1.heap.size]? = some (.cells #[.int .i64 who, .int .i64 (clkTo A who k), .int .i64 at', .string t] 32)) ∧ Hid (Below w1.heap.size w1 wr)) (fun i _ => n - (intOf i).toNat)
    case atStart => exact ⟨0, Nat.zero_le _, rfl, HG0, HB0⟩
    case round =>
      obtain ⟨k, hk, rfl, HG, HB⟩ := hrel
      have g0 := HG.out
      clear HG0 HB0
      by_cases hlt : k < n
      · have hltI : (k : Int) < (n : Int) := by omega
        obtain ⟨y, hy⟩ : ∃ y, y = A.getD k evZ := ⟨_, rfl⟩
        have m1 : EvAt wr b (off + k * 4) y := by rw [hy]; exact (HL1.out k (by rw [← HN.out]; exact hlt)).grow HbW.out HB.out
        obtain ⟨c0, c1, c2, c3⟩ := m1
        have hyb : 1 ≤ y.b ∧ y.b ≤ 1000000 := by
          have := beatsL_fine HA.out y (by rw [hy, getD_get (by rw [← HN.out]; exact hlt)]; exact List.getElem_mem _)
          unfold Ev.fine inB at this
          simp only [Bool.and_eq_true, decide_eq_true_eq] at this
          exact this.2.1
        have hw1 : IntKind.i64.wrap (y.b + 1) = y.b + 1 := by rw [IntKind.wrap_i64]; omega
        have hst : clkTo A who (k + 1) = if y.a = who then y.b + 1 else clkTo A who k := by rw [hy]; rfl
        have HST : Hid (_) := hst
        clear hst hy hyb
        by_cases he : y.a = who
        · have heb : (y.a == who) = true := by simpa using he
          have f1 : wr.frozen? ⟨w1.heap.size, 1, none⟩ = false := frozN g0
          have d1 : wr.cell? ⟨w1.heap.size, 1, none⟩ = some (.int .i64 (clkTo A who k)) := cellN g0
          have HF : Hid ((wr.setCell ⟨w1.heap.size, 1, none⟩ (.int .i64 (y.b + 1))).heap[w1.heap.size]? = some (.cells #[.int .i64 who, .int .i64 (clkTo A who (k + 1)), .int .i64 at', .string t] 32)) := by
            show _ = _
            rw [heap_setCell_same _ _ _ _ 32 _ g0, HST.out, if_pos he]
            rfl
          have HF2 : Hid (Below w1.heap.size w1 (wr.setCell ⟨w1.heap.size, 1, none⟩ (.int .i64 (y.b + 1)))) := HB.out.setCell (p := ⟨w1.heap.size, 1, none⟩) (Nat.le_refl _) _
          clear g0 he
          go_wp2
          go_roundw
          case rel => exact ⟨k + 1, by omega, by go_num, HF, HF2⟩
          case measure => simp [intOf]; omega
        · have heb : (y.a == who) = false := by simpa using he
          have HF : Hid (wr.heap[w1.heap.size]? = some (.cells #[.int .i64 who, .int .i64 (clkTo A who (k + 1)), .int .i64 at', .string t] 32)) := by
            show _ = _
            rw [HST.out, if_neg he]
            exact g0
          clear g0 he
          go_wp2
          go_roundw
          case rel => exact ⟨k + 1, by omega, by go_num, HF, HB⟩
          case measure => simp [intOf]; omega
      · have hke : k = n := by omega
        subst hke
        have hcl : clkTo A who k = (nextE A who at' t).b := by rw [HN.out, clkTo_end HU.out]; rfl
        rw [hcl] at g0
        have HX : Hid ((nextE A who at' t).a = who ∧ (nextE A who at' t).c = at' ∧ (nextE A who at' t).d = t) := ⟨rfl, rfl, rfl⟩
        have HBN : Hid (_) := bnB_spec HA.out who at' t
        have HRN : Hid (bnR A who at' t = if bnB A who at' t = true then putB A (nextE A who at' t) else []) := rfl
        have hPl := putB_len (nextE A who at' t) A
        have HPM : Hid (∀ z ∈ putB A (nextE A who at' t), z.in) := fun z hz => by
          rcases putB_mem _ _ _ hz with rfl | hz
          · exact ht
          · exact HFF.out z hz
        generalize hx : nextE A who at' t = x at g0 HX HBN HRN hPl HPM
        have e0 : wr.cell? ⟨w1.heap.size, 0, none⟩ = some (.int .i64 x.a) := by rw [HX.out.1]; exact cellN g0
        have e1 : wr.cell? ⟨w1.heap.size, 1, none⟩ = some (.int .i64 x.b) := cellN g0
        have e2 : wr.cell? ⟨w1.heap.size, 2, none⟩ = some (.int .i64 x.c) := by rw [HX.out.2.1]; exact cellN g0
        have e3 : wr.cell? ⟨w1.heap.size, 3, none⟩ = some (.string x.d) := by rw [HX.out.2.2]; exact cellN g0
        have HG0 : Hid (wr.heap[w1.heap.size]? = some (.cells #[.int .i64 x.a, .int .i64 x.b, .int .i64 x.c, .string x.d] 32)) := by
          rw [HX.out.1, HX.out.2.1, HX.out.2.2]; exact g0
        have HI : Hid (IsEvs (wr.alloc (.cells #[.int .i64 x.a, .int .i64 x.b, .int .i64 x.c, .string x.d] 32)) (some ⟨wr.heap.size, 0, none⟩) 1 1 (fun _ => x)) := by
          refine ⟨Nat.le_refl _, by omega, fun _ => ⟨wr.heap.size, 0, rfl, by simp, fun i hi => ?_⟩⟩
          obtain rfl : i = 0 := by omega
          exact ⟨cellN (heap_alloc_new _ _), cellN (heap_alloc_new _ _), cellN (heap_alloc_new _ _), cellN (heap_alloc_new _ _)⟩
        have HXi : Hid (x.in) := by show x.d.size ≤ _; rw [HX.out.2.2]; exact ht
        have HAl : Hid (A.length = k) := HN.out.symm
        have hPl13 : (putB A x).length ≤ 13 := by have := HN.out; omega
        clear g0 hcl hPl
        go_wp2_with fail
        refine (specBeats_any _ 1 1 (fun _ => x) _ HI.out (fun _ _ => HXi.out)).mono ?_
        rintro e w3 ⟨rfl, hB3⟩
        rw [one_fine]
        have HB3 : Hid (Below wr.heap.size wr w3) := ((Below.refl _ _).alloc (Nat.le_refl _) _).trans (hB3.mono (by simp))
        have HBw3 : Hid (Below w.heap.size w w3) := (HB1.out.trans (HB.out.mono HB1.out.size)).trans (HB3.out.mono (Nat.le_trans HB1.out.size HB.out.size))
        have g3 := (HB3.out.block _ (lt_of_block HG0.out)).trans HG0.out
        clear hB3 e0 e1 e2 e3
        cases hfx : x.fine with
        | false =>
          have HR : Hid (bnB A who at' t = false ∧ bnR A who at' t = []) := by
            have q1 : bnB A who at' t = false := by rw [HBN.out, hfx]; rfl
            exact ⟨q1, by rw [HRN.out, q1]; rfl⟩
          clear g3
          go_wp2
          go_ret2
          rw [HR.out.1]
          exact ⟨_, rfl, by rw [HR.out.2]; exact OwnV.nil _ _, HBw3.out⟩
        | true =>
          have e0 : w3.cell? ⟨w1.heap.size, 0, none⟩ = some (.int .i64 x.a) := cellN g3
          have e1 : w3.cell? ⟨w1.heap.size, 1, none⟩ = some (.int .i64 x.b) := cellN g3
          have e2 : w3.cell? ⟨w1.heap.size, 2, none⟩ = some (.int .i64 x.c) := cellN g3
          have e3 : w3.cell? ⟨w1.heap.size, 3, none⟩ = some (.string x.d) := cellN g3
          have HP : Hid (Calls Try.prog 44 #[.slice (some ⟨b, off, none⟩) k cap, .agg #[.int .i64 x.a, .int .i64 x.b, .int .i64 x.c, .string x.d]] w3 fun e w' => ∃ g gc, e = .returned (.slice (some ⟨g, 0, none⟩) (putB A x).length gc) ∧ OwnE w' w3.heap.size g gc (putB A x) ∧ Below w3.heap.size w3 w') := by
            have := put_any b off cap A x w3 (HL.out.grow hb HBw3.out) (Nat.lt_of_lt_of_le hb HBw3.out.size) (by rw [HAl.out]; exact hl) hc (by rw [HAl.out]; omega)
            rw [HAl.out] at this
            exact this
          clear g3
          go_wp2_with fail
          refine HP.out.mono ?_
          rintro e w4 ⟨g4, gc4, rfl, hO4, hB4⟩
          have HB4 : Hid (Below w.heap.size w w4) := HBw3.out.trans (hB4.mono HBw3.out.size)
          have HO4 : Hid (OwnE w4 w.heap.size g4 gc4 (putB A x)) := hO4.base HBw3.out.size
          clear hO4 hB4 e0 e1 e2 e3
          go_wp2_with fail
          refine (specBeats_any _ _ _ _ _ HO4.out.evs (fun i hi => by rw [getD_get hi]; exact HPM.out _ (List.getElem_mem _))).mono ?_
          rintro e w5 ⟨rfl, hB5⟩
          have HB5 : Hid (Below w.heap.size w w5) := HB4.out.trans (hB5.mono HB4.out.size)
          have HO5 : Hid (OwnE w5 w.heap.size g4 gc4 (putB A x)) := HO4.out.below hB5
          have hq : bnB A who at' t = beatsB (fun i => (putB A x).getD i evZ) (putB A x).length := by rw [HBN.out, hfx, Bool.true_and]; rfl
          have HQ : Hid (_) := hq
          clear hB5 hq
          cases hbb : beatsB (fun i => (putB A x).getD i evZ) (putB A x).length with
          | false =>
            have HR : Hid (bnB A who at' t = false ∧ bnR A who at' t = []) := by
              have q1 : bnB A who at' t = false := by rw [HQ.out, hbb]
              exact ⟨q1, by rw [HRN.out, q1]; rfl⟩
            go_wp2
            go_ret2
            rw [HR.out.1]
            exact ⟨_, rfl, by rw [HR.out.2]; exact OwnV.nil _ _, HB5.out⟩
          | true =>
            have HR : Hid (bnB A who at' t = true ∧ bnR A who at' t = putB A x) := by
              have q1 : bnB A who at' t = true := by rw [HQ.out, hbb]
              exact ⟨q1, by rw [HRN.out, q1]; rfl⟩
            go_wp2
            go_ret2
            rw [HR.out.1]
            exact ⟨_, rfl, by rw [HR.out.2]; exact HO5.out.v, HB5.out⟩
end Go.Proofs.Ytnjlegphohmajaa
