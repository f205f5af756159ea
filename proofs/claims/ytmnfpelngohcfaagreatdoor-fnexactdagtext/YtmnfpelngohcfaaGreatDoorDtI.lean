/-
  The program's DagText. No condition but that the slice reads and that the tables lie.
-/
import Derived.Test.YtmnfpelngohcfaaGreatDoorDtP
import Derived.Test.YtmnfpelngohcfaaGreatDoorBdW
import Derived.Test.YtmnfpelngohcfaaGreatDoorShelfB
namespace Go.Proofs.YtmnfpelngohcfaaGreatDoor
open Go.RowKit
set_option linter.unusedVariables false

theorem builder_below {B b : Nat} {bs : List Value} {w w' : World} (h : Lib.IsBuilder 45 5 B b bs w) (hB : Below w.heap.size w w') : Lib.IsBuilder 45 5 B b bs w' := by
  rcases h with ⟨h1, v, h2, h3, h4⟩ | ⟨h1, v, h2, h3, h4⟩
  · exact .inl ⟨h1, v, (hB.block _ (lt_of_block h2)).trans h2, ownsRow_below h3 hB, h4⟩
  · exact .inr ⟨h1, v, (hB.block _ (lt_of_block h2)).trans h2, ownsRow_below h3 hB, h4⟩

set_option maxRecDepth 10000 in
set_option maxHeartbeats 4000000 in
theorem implDagText_any (a : Option Addr) (len cap : Nat) (D : Nat → Nd) (w : World) (h : IsNds w a len cap D) (hf : Fine D len) (hP : AllT w) :
    Calls Tryz.prog 8 #[.slice a len cap] w fun e w' => e = .returned (.string (dagTR D len)) ∧ Below w.heap.size w w' := by
  have HE := (show Hid _ from h)
  have HF := (show Hid _ from hf)
  have HP := (show Hid _ from hP)
  go_enter Tryz.func8, Tryz.ntmps8
  go_wp2_with fail
  refine (implDagOk_any a len cap D w HE.out HF.out HP.out).mono ?_
  rintro e w1 ⟨rfl, hB1⟩
  cases hd : dagB D len with
  | false =>
    have HR : Hid (dagTR D len = ⟨#[]⟩ ∧ Below w.heap.size w w1) := ⟨by unfold dagTR; rw [hd]; rfl, hB1⟩
    clear h hf hP hB1
    go_wp2
    go_ret
    exact ⟨by rw [HR.out.1]; rfl, HR.out.2⟩
  | true =>
    have hl30 : len ≤ 30 := by
      unfold dagB at hd
      simp only [Bool.and_eq_true, decide_eq_true_eq] at hd
      exact hd.1
    have HD : Hid (dagTR D len = dagT D len len) := by show _ = _; unfold dagTR; rw [if_pos hd]
    obtain ⟨W0, hW0⟩ : ∃ W0, W0 = w1.alloc (.cells #[.pointer none, .slice none 0 0] 45) := ⟨_, rfl⟩
    have HW0 := (show Hid _ from hW0)
    have HB10 : Hid (Below w1.heap.size w1 W0) := by rw [hW0]; exact (Below.refl _ _).alloc (Nat.le_refl _) _
    have HB0 : Hid (Below w.heap.size w W0) := hB1.trans (HB10.out.mono hB1.size)
    have HB1 := (show Hid _ from hB1)
    have HBL0 : Hid (W0.heap[w1.heap.size]? = some (.cells #[.pointer none, .slice none 0 0] 45 (0, 0))) := by rw [hW0]; exact heap_alloc_new _ _
    clear hW0 h hf hP hB1
    go_wp2_with fail
    rw [← HW0.out]
    refine (lineOfNumber_any ⟨#[100, 97, 103]⟩ len (by decide) (by omega) W0 (HP.out.below HB0.out).p).mono ?_
    rintro e w2 ⟨rfl, hB2⟩
    obtain ⟨t0, ht0⟩ : ∃ t0, t0 = lineB ⟨#[100, 97, 103]⟩ (decB len) := ⟨_, rfl⟩
    have hz0 : t0.size ≤ 1000 := by rw [ht0]; have := dagT_size D len hl30 0; have e : dagT D len 0 = lineB ⟨#[100, 97, 103]⟩ (decB len) := rfl; rw [e] at this; omega
    rw [← ht0]
    have HT0 := (show Hid _ from ht0)
    clear ht0
    have HBD : Hid (Lib.IsBuilder 45 5 w1.heap.size w1.heap.size (Lib.strCells ⟨#[]⟩) w2) := .inl ⟨Nat.le_refl _, .slice none 0 0, (hB2.block _ (lt_of_block HBL0.out)).trans HBL0.out, World.ownsRow_nil _ _ _ _, by simp [Value.ownBlock]⟩
    have HB2 : Hid (Below w1.heap.size w1 w2) := HB10.out.trans (hB2.mono HB10.out.size)
    clear hB2
    have HLEN : Hid ((Lib.strCells ⟨#[]⟩).length + t0.size ≤ 140737488355328) := by
      have e : (Lib.strCells ⟨#[]⟩).length = 0 := rfl
      show _ ≤ _
      omega
    go_wp2_with fail
    refine (write_any w1.heap.size w1.heap.size (Lib.strCells ⟨#[]⟩) t0 w2 HBD.out HLEN.out HB2.out.size).mono ?_
    rintro e w3 ⟨rfl, hb3, hB3, _⟩
    have HI3 : Hid (Lib.IsBuilder 45 5 w1.heap.size w1.heap.size (Lib.strCells (dagT D len 0)) w3 ∧ Below w1.heap.size w1 w3) := by
      refine ⟨.inr ?_, HB2.out.trans hB3⟩
      have e : dagT D len 0 = ⟨#[]⟩ ++ t0 := by rw [HT0.out]; exact (ByteArray.empty_append).symm
      rw [e, strCells_append]
      exact hb3
    clear hb3 hB3 HBD HB2 HT0 hz0 HLEN
    have HWW : Hid (∀ w', Below w1.heap.size w1 w' → Below w.heap.size w w') := fun w' hB => HB1.out.trans (hB.mono HB1.out.size)
    have HC : Hid (∀ w', Below w.heap.size w w' → ∀ k, k < len → ∃ b off, a = some ⟨b, off, none⟩ ∧ NdAt w' b (off + k * 6) (D k)) := fun w' hB k hk => by
      obtain ⟨_, _, hc⟩ := IsNds.below HE.out hB
      obtain ⟨b, off, rfl, _, hcell⟩ := hc (by omega)
      exact ⟨b, off, rfl, hcell k hk⟩
    have HSZ := dagT_size D len hl30
    go_wp2
    go_loopw [15] (fun i wr => ∃ (k : Nat), k ≤ len ∧ i = .int .i64 k ∧ Hid (Lib.IsBuilder 45 5 w1.heap.size w1.heap.size (Lib.strCells (dagT D len k)) wr ∧ Below w1.heap.size w1 wr)) (fun i _ => len - (Go.RowKit.intOf i).toNat)
    case atStart => exact ⟨0, Nat.zero_le _, rfl, HI3.out.1, HI3.out.2⟩
    case round =>
      obtain ⟨k, hk, rfl, HI⟩ := hrel
      by_cases hlt : k < len
      · have hltI : (k : Int) < (len : Int) := by omega
        obtain ⟨b, off, rfl, nd⟩ := HC.out wr (HWW.out _ HI.out.2) k hlt
        have HSt := (show Hid _ from nd.i)
        obtain ⟨c0, c1, c2, c3, c4, c5, _⟩ := nd
        obtain ⟨w4, hw4⟩ : ∃ w4, w4 = wr.alloc (.cells #[.int .i64 (D k).a, .int .i64 (D k).s, .int .i64 (D k).k, .string (D k).key, .string (D k).text, .slice (D k).u (D k).n (D k).cap] 40) := ⟨_, rfl⟩
        have HB4 : Hid (Below wr.heap.size wr w4) := by rw [hw4]; exact (Below.refl _ _).alloc (Nat.le_refl _) _
        have HW4 := (show Hid _ from hw4)
        obtain ⟨x, hx⟩ : ∃ x, x = (D k).txt := ⟨_, rfl⟩
        have hzx : x.size ≤ 1048576 := by rw [hx]; exact txt_size _
        have e1 : (ByteArray.mk #[10]).size = 1 := rfl
        have a3 := fun v => addT (a := x) (b := ⟨#[10]⟩) (by omega) v
        have HX := (show Hid _ from hx)
        have HP4 : Hid (Pow w4) := (HP.out.below (HWW.out _ (HI.out.2.trans (HB4.out.mono HI.out.2.size)))).p
        clear hw4 hx e1
        go_wp2_with fail
        rw [← HW4.out]
        refine (implNodeText_any _ _ _ _ _ _ _ _ (D k).S w4 (IsStrs.below HSt.out HB4.out) (HF.out k hlt).2.2 (HF.out k hlt).1 (HF.out k hlt).2.1 HP4.out).mono ?_
        rintro e w5 ⟨rfl, hB5⟩
        have e2 : textR (D k).a (D k).s (D k).k (D k).key (D k).text (D k).S (D k).n = x := HX.out.symm
        rw [e2]
        have hB45 : Below wr.heap.size wr w5 := HB4.out.trans (hB5.mono HB4.out.size)
        have HI5 : Hid (Lib.IsBuilder 45 5 w1.heap.size w1.heap.size (Lib.strCells (dagT D len k)) w5 ∧ Below w1.heap.size w1 w5) := ⟨builder_below HI.out.1 hB45, HI.out.2.trans (hB45.mono HI.out.2.size)⟩
        obtain ⟨y, hy⟩ : ∃ y, y = x ++ ⟨#[10]⟩ := ⟨_, rfl⟩
        have HY : Hid (dagT D len (k + 1) = dagT D len k ++ y) := by rw [hy, HX.out]; rfl
        have HLE : Hid ((Lib.strCells (dagT D len k)).length + y.size ≤ 140737488355328) := by
          have h1 := HSZ k
          have h2 : y.size = x.size + 1 := by rw [hy, ByteArray.size_append]; rfl
          rw [Lib.strCells_length]
          show _ ≤ _
          omega
        have HYY := (show Hid _ from hy)
        clear hB5 hB45 e2 HX hy HI
        go_wp2_with fail
        rw [← HYY.out]
        refine (write_any w1.heap.size w1.heap.size (Lib.strCells (dagT D len k)) y w5 HI5.out.1 HLE.out HI5.out.2.size).mono ?_
        rintro e w6 ⟨rfl, hb6, hB6, _⟩
        have HR : Hid (Lib.IsBuilder 45 5 w1.heap.size w1.heap.size (Lib.strCells (dagT D len (k + 1))) w6 ∧ Below w1.heap.size w1 w6) := by
          refine ⟨.inr ?_, HI5.out.2.trans hB6⟩
          rw [HY.out, strCells_append]
          exact hb6
        clear hb6 hB6 HI5
        go_wp2
        go_roundw
        case rel => exact ⟨k + 1, by omega, by go_num, HR.out⟩
        case measure => simp [Go.RowKit.intOf]; omega
      · have hke : k = len := by omega
        subst hke
        have HEND : Hid (Lib.IsBuilder 45 5 w1.heap.size w1.heap.size (Lib.byteCells (dagT D k k).data.toList) wr ∧ Below w1.heap.size w1 wr) := HI.out
        clear HI
        go_wp2_with fail
        refine (Tryz.Builder_String_any w1.heap.size w1.heap.size (dagT D k k).data.toList wr HEND.out.1 HEND.out.2.size).mono ?_
        rintro e w7 ⟨rfl, hB7⟩
        have HB7 : Hid (Below w.heap.size w w7) := HWW.out _ (HEND.out.2.trans hB7)
        clear hB7
        go_wp2
        go_ret
        exact ⟨by rw [HD.out]; simp, HB7.out⟩
end Go.Proofs.YtmnfpelngohcfaaGreatDoor
