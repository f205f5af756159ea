/-
  The program's wordAt, firstFrame and TakeFrames, for texts of at most 1,048,576 bytes, in worlds in which the table halfLeft lies.
-/
import Derived.Test.YtcknemblniemcaaDoorTkQ
namespace Go.Proofs.YtcknemblniemcaaDoor
open Go.RowKit
set_option linter.unusedVariables false

set_option maxHeartbeats 400000 in
theorem word_any (s : ByteArray) (h : 4 ≤ s.size) (w : World) :
    Calls Tryd.prog 27 #[.string s, .int .i64 0] w fun e w' => e = .returned (.int .u32 (wd s 0 : Int)) ∧ Below w.heap.size w w' := by
  have h0 : 0 < s.size := by omega
  have h1 : 1 < s.size := by omega
  have h2 : 2 < s.size := by omega
  have h3 : 3 < s.size := by omega
  obtain ⟨c0, hc0⟩ : ∃ c, c = bn s 0 := ⟨_, rfl⟩
  obtain ⟨c1, hc1⟩ : ∃ c, c = bn s 1 := ⟨_, rfl⟩
  obtain ⟨c2, hc2⟩ : ∃ c, c = bn s 2 := ⟨_, rfl⟩
  obtain ⟨c3, hc3⟩ : ∃ c, c = bn s 3 := ⟨_, rfl⟩
  have l0 : c0 ≤ 255 := by rw [hc0]; exact bn_le h0
  have l1 : c1 ≤ 255 := by rw [hc1]; exact bn_le h1
  have l2 : c2 ≤ 255 := by rw [hc2]; exact bn_le h2
  have l3 : c3 ≤ 255 := by rw [hc3]; exact bn_le h3
  have b0 : (s[0].toNat : Int) = (c0 : Int) := by rw [hc0]; exact bn_eq h0
  have b1 : (s[1].toNat : Int) = (c1 : Int) := by rw [hc1]; exact bn_eq h1
  have b2 : (s[2].toNat : Int) = (c2 : Int) := by rw [hc2]; exact bn_eq h2
  have b3 : (s[3].toNat : Int) = (c3 : Int) := by rw [hc3]; exact bn_eq h3
  have q0 : IntKind.u32.wrap (c0 : Int) = (c0 : Int) := wrap_u32_in (by omega) (by omega)
  have q1 : IntKind.u32.wrap (c1 : Int) = (c1 : Int) := wrap_u32_in (by omega) (by omega)
  have q2 : IntKind.u32.wrap (c2 : Int) = (c2 : Int) := wrap_u32_in (by omega) (by omega)
  have q3 : IntKind.u32.wrap (c3 : Int) = (c3 : Int) := wrap_u32_in (by omega) (by omega)
  have p0 : IntKind.u32.wrap ((c0 : Int) * 16777216) = (c0 : Int) * 16777216 := wrap_u32_in (by omega) (by omega)
  have p1 : IntKind.u32.wrap ((c1 : Int) * 65536) = (c1 : Int) * 65536 := wrap_u32_in (by omega) (by omega)
  have p2 : IntKind.u32.wrap ((c2 : Int) * 256) = (c2 : Int) * 256 := wrap_u32_in (by omega) (by omega)
  have HR : Hid (((wd s 0 : Nat) : Int) = bits BinOp.or IntKind.u32 (bits BinOp.or IntKind.u32 (bits BinOp.or IntKind.u32 ((c0 : Int) * 16777216) ((c1 : Int) * 65536)) ((c2 : Int) * 256)) (c3 : Int)) := by
    show _ = _
    rw [or_word l0 l1 l2 l3, hc0, hc1, hc2, hc3, wd_sum]
  clear hc0 hc1 hc2 hc3 h
  go_enter Tryd.func27, Tryd.ntmps27
  go_wp2
  go_quiet (fail)
  go_wp2
  go_ret
  exact ⟨ret_int HR.out.symm, below_drewN (Below.refl _ _) _⟩

/-- the data that firstFrame answers -/
def fst (r : ByteArray) : ByteArray := if 8 ≤ r.size ∧ wd r 0 ≤ 100000 ∧ 8 + wd r 0 ≤ r.size then dat r 0 else ⟨#[]⟩

set_option maxRecDepth 4000 in
set_option maxHeartbeats 1000000 in
theorem first_any (r : ByteArray) (hr : r.size ≤ 1048576) (w : World) (hT : Halves w) :
    Calls Tryd.prog 19 #[.string r] w fun e w' => e = .returned (.tuple #[.string (fst r), .bool (frB r 0)]) ∧ Below w.heap.size w w' := by
  obtain ⟨n, hn⟩ : ∃ n, n = r.size := ⟨_, rfl⟩
  have hn1 : n ≤ 1048576 := by omega
  have hnI : (r.size : Int) = (n : Int) := by rw [hn]
  have HN : Hid (n = r.size) := hn
  have HT := (show Hid _ from hT)
  clear hn hT
  by_cases h8 : 8 ≤ n
  · have h8I : (8 : Int) ≤ (n : Int) := by omega
    obtain ⟨z, hz⟩ : ∃ z, z = wd r 0 := ⟨_, rfl⟩
    have hzl : z < 4294967296 := by rw [hz]; exact wd_lt (by have := HN.out; omega)
    have hzw : IntKind.i64.wrap (z : Int) = (z : Int) := by rw [IntKind.wrap_i64]; omega
    have HZ : Hid (z = wd r 0) := hz
    clear hz
    go_enter Tryd.func19, Tryd.ntmps19
    go_wp2_with fail
    refine (word_any r (by have := HN.out; omega) w).mono ?_
    rintro e w1 ⟨rfl, hB1⟩
    rw [← HZ.out]
    have HB1 := (show Hid _ from hB1)
    clear hB1
    by_cases hbig : z ≤ 100000
    · have hbigI : (z : Int) ≤ 100000 := by omega
      by_cases hfit : 8 + z ≤ n
      · have hfitI : (z : Int) ≤ (n : Int) - 8 := by omega
        obtain ⟨pe, hpe⟩ : ∃ pe, pe = 8 + z := ⟨_, rfl⟩
        have ee : (8 : Int) + (z : Int) = (pe : Int) := by omega
        have l2 : (8 : Int) ≤ (pe : Int) := by omega
        have l3 : (pe : Int) ≤ (n : Int) := by omega
        have m2 : 8 ≤ pe := by omega
        have m3 : pe ≤ n := by omega
        have m5 : pe ≤ r.size := by have := HN.out; omega
        have m6 : 8 ≤ r.size := by have := HN.out; omega
        have HD : Hid (fst r = r.extract 8 pe ∧ frB r 0 = ((r.extract 0 8).toList == (headT (r.extract 8 pe)).toList)) := by
          have h1 : fst r = r.extract 8 pe := by
            unfold fst dat
            rw [if_pos ⟨m6, by rw [← HZ.out]; exact hbig, by rw [← HZ.out]; have := HN.out; omega⟩, ← HZ.out, hpe]
          refine ⟨h1, ?_⟩
          rw [head_sum m6 (by rw [ByteArray.size_extract, ← HZ.out]; omega)]
          unfold frB dat
          rw [← HZ.out, decide_eq_true (by omega), decide_eq_true hbig, decide_eq_true (by omega)]
          simp only [Bool.true_and, Nat.zero_add]
          rw [hpe]
        have HX : Hid (∀ t : Later w1, Calls Tryd.prog 18 #[.string (r.extract 8 pe)] t.val fun e w' => e = .returned (.string (headT (r.extract 8 pe))) ∧ Below t.val.heap.size t.val w') := fun t => head_any _ (by rw [ByteArray.size_extract]; omega) t.val ((Halves.below HT.out HB1.out).below t.ok)
        have hne := Later.any w1
        clear hpe
        go_wp2
        refine wp_region_later (by kernel_rfl) (by kernel_rfl) ?_
        repeat (go_big_quiet_step (first | (rename_i t; with_reducible exact Calls.later (HX.out t))))
        refine wpQuiet_nil ?_
        rintro _ ⟨s5, rfl⟩
        have HF : Hid (Below w.heap.size w s5.val) := HB1.out.trans (s5.ok.mono HB1.out.size)
        obtain ⟨w6, hw6⟩ : ∃ w6, w6 = s5.val := ⟨_, rfl⟩
        rw [← hw6] at HF ⊢
        clear hw6 hne HX s5
        go_wp2
        go_ret2
        rw [HD.out.1, HD.out.2]
        exact ⟨rfl, HF.out⟩
      · have hfitI : (n : Int) - 8 < (z : Int) := by omega
        have HD : Hid (fst r = ⟨#[]⟩ ∧ frB r 0 = false) := by
          refine ⟨?_, ?_⟩
          · unfold fst
            rw [if_neg (fun h => by have := h.2.2; rw [← HZ.out] at this; have := HN.out; omega)]
          · unfold frB
            rw [← HZ.out, decide_eq_false (show ¬ 0 + 8 + z ≤ r.size by have := HN.out; omega)]
            simp
        clear hfit
        go_wp2
        go_ret2
        rw [HD.out.1, HD.out.2]
        exact ⟨rfl, HB1.out⟩
    · have hbigI : (100000 : Int) < (z : Int) := by omega
      have HD : Hid (fst r = ⟨#[]⟩ ∧ frB r 0 = false) := by
        refine ⟨?_, ?_⟩
        · unfold fst
          rw [if_neg (fun h => by have := h.2.1; rw [← HZ.out] at this; omega)]
        · unfold frB
          rw [← HZ.out, decide_eq_false hbig]
          simp
      clear hbig
      go_wp2
      go_ret2
      rw [HD.out.1, HD.out.2]
      exact ⟨rfl, HB1.out⟩
  · have h8I : (n : Int) < 8 := by omega
    have HD : Hid (fst r = ⟨#[]⟩ ∧ frB r 0 = false) := by
      refine ⟨?_, ?_⟩
      · unfold fst
        rw [if_neg (fun h => by have := h.1; have := HN.out; omega)]
      · unfold frB
        rw [decide_eq_false (show ¬ 0 + 8 ≤ r.size by have := HN.out; omega)]
        rfl
    go_enter Tryd.func19, Tryd.ntmps19
    go_wp2
    go_ret2
    rw [HD.out.1, HD.out.2]
    exact ⟨rfl, Below.refl _ _⟩
end Go.Proofs.YtcknemblniemcaaDoor
