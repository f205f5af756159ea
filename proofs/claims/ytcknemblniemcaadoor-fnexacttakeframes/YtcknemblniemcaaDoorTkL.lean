/-
  The law FnExactTakeFrames: at every text it returns true, in worlds in which the table halfLeft lies.
-/
import Derived.Test.YtcknemblniemcaaDoorTkS
import Derived.Test.YtcknemblniemcaaDoorTkJ
namespace Go.Proofs.YtcknemblniemcaaDoor
open Go.RowKit
set_option linter.unusedVariables false

set_option maxRecDepth 4000 in
set_option maxHeartbeats 2000000 in
theorem take_walk (s : ByteArray) (hs : s.size ≤ 9223372036854775807) (w : World) (hT : Halves w) :
    Calls Tryd.prog 4 #[.string s] w fun e w' => e = .returned (.bool true) ∧ Below w.heap.size w w' := by
  obtain ⟨n, hn⟩ : ∃ n, n = s.size := ⟨_, rfl⟩
  have hnI : (s.size : Int) = (n : Int) := by rw [hn]
  have HN : Hid (n = s.size) := hn
  have HT := (show Hid _ from hT)
  clear hT hn
  by_cases h : n ≤ 1048576
  · have hlt : (n : Int) ≤ 1048576 := by omega
    have hss : s.size ≤ 1048576 := by have := HN.out; omega
    obtain ⟨L, hL⟩ : ∃ L, L = (tkF s).1 := ⟨_, rfl⟩
    obtain ⟨p, hp⟩ : ∃ p, p = (tkF s).2 := ⟨_, rfl⟩
    have HLL : Hid (L.length ≤ 1048577) := by show _ ≤ _; rw [hL]; have := (tkF_len s).1; omega
    have TS : Hid (∀ w', Calls Tryd.prog 8 #[.string s] w' fun e w'' => ∃ v, e = .returned (.tuple #[v, .int .i64 (p : Int)]) ∧ OwnL w'' w'.heap.size v L ∧ Below w'.heap.size w' w'') := fun w' => by rw [hL, hp]; exact specTake_any s hss w'
    have TI : Hid (∀ w', Below w.heap.size w w' → Calls Tryd.prog 9 #[.string s] w' fun e w'' => ∃ v, e = .returned (.tuple #[v, .int .i64 (p : Int)]) ∧ OwnL w'' w'.heap.size v L ∧ Below w'.heap.size w' w'') := fun w' hB => by rw [hL, hp]; exact implTake_any s hss w' (Halves.below HT.out hB)
    have hpn : ((p : Int) != (p : Int)) = false := by simp
    clear hL hp
    go_enter Tryd.func4, Tryd.ntmps4
    go_wp2_with fail
    refine (TS.out w).mono ?_
    rintro e w1 ⟨v1, rfl, o1, b1⟩
    go_wp2_with fail
    refine (TI.out w1 b1).mono ?_
    rintro e w2 ⟨v2, rfl, o2, hB2⟩
    have b2 : Below w.heap.size w w2 := b1.trans (hB2.mono b1.size)
    have o1' := o1.below hB2
    obtain ⟨a1, c1, rfl, i1, q1⟩ := o1'.strs2
    obtain ⟨a2, c2, rfl, i2, q2⟩ := o2.strs2
    have b1s := b1.size
    have q1' : ∀ b off, a1 = some ⟨b, off, none⟩ → b < w1.heap.size := fun b off e => by
      obtain ⟨a', c', e', _, q'⟩ := o1.strs2
      simp only [Value.slice.injEq, true_and] at e'
      obtain ⟨rfl, rfl⟩ := e'
      exact (q' b off e).2
    clear o1 o1' hB2 b1
    go_wp2_with fail
    refine (eqStringS_same _ _ _ _ _ _ _ i2 i1).mono ?_
    rintro e w3 ⟨rfl, hB3⟩
    have b3 : Below w.heap.size w w3 := b2.trans (hB3.mono b2.size)
    have o3 := o2.below hB3
    have i3 := i1.below hB3
    obtain ⟨m, hm⟩ : ∃ m, m = L.length := ⟨_, rfl⟩
    have HM : Hid (m = L.length) := hm
    have hml : m ≤ 1048577 := by rw [hm]; exact HLL.out
    have o3' : w3.ownsRow w1.heap.size 9 1 (.slice a2 m c2) m (L.map encStr) := by have := o3; unfold OwnL at this; rw [← hm] at this; exact this
    rw [← hm] at i3 ⊢
    clear hm o2 o3 i2 i1 hB3 b2 q2 q1
    go_wp2_with fail
    refine (markStringS_any a2 m c2 w1.heap.size (L.map encStr) 1 _ o3' (by omega) (by omega)).mono ?_
    rintro e w4 ⟨rfl, o4, hG4⟩
    have hrow : ∀ k, (Value.slice a2 m c2).ownBlock = some k → w1.heap.size ≤ k := fun k hk => (o3'.lt k hk).1
    have b4 := b3.grown hG4 b3.size (fun k hk => by have := hrow k hk; omega)
    have i4 : IsStrs w4 a2 m c2 (fun i => mt (1 + i)) := by
      obtain ⟨a', cap', e', hI⟩ := strs_of_own (S := fun i => mt (1 + i)) o4 (fun i hi => marks_at hi)
      simp only [Value.slice.injEq, true_and] at e'
      obtain ⟨rfl, rfl⟩ := e'
      exact hI
    have K4 : Kept (fun b => b < w1.heap.size) w3 w4 := Kept.of_grown hG4 (fun k hk => by have := hrow k hk; omega)
    have j4 := i3.kept K4 (fun b off e => q1' b off e)
    clear o3' hG4 hrow o4 K4 i3 b3 q1'
    have hq1 : decide (((1 + m : Nat) : Int) < 0) = false := by simp; omega
    have hq2 : ((((1 + m : Nat) : Int)) != ((1 + m : Nat) : Int)) = false := by simp
    go_wp2_with fail
    refine (heldStringS_any a2 m c2 1 _ i4 (by omega) (by omega)).mono ?_
    rintro e w5 ⟨rfl, hB5⟩
    have b5 := b4.trans (hB5.mono b4.size)
    have i5 := i4.below hB5
    have j5 := j4.below hB5
    clear i4 j4 hB5 b4
    go_wp2_with fail
    refine (TI.out w5 b5).mono ?_
    rintro e w6 ⟨v6, rfl, o6, hB6⟩
    have b6 := b5.trans (hB6.mono b5.size)
    obtain ⟨a6, c6, rfl, i6, q6⟩ := o6.strs2
    rw [← HM.out] at i6 ⊢
    have j6 := j5.below hB6
    have k6 := i5.below hB6
    clear o6 hB6 i5 j5 b5 q6
    go_wp2_with fail
    refine (eqStringS_same _ _ _ _ _ _ _ i6 j6).mono ?_
    rintro e w7 ⟨rfl, hB7⟩
    have b7 := b6.trans (hB7.mono b6.size)
    have k7 := k6.below hB7
    clear i6 j6 k6 hB7 b6
    go_wp2_with fail
    refine (heldStringS_any a2 m c2 1 _ k7 (by omega) (by omega)).mono ?_
    rintro e w8 ⟨rfl, hB8⟩
    go_wp2
    go_ret
    exact ⟨rfl, b7.trans (hB8.mono b7.size)⟩
  · have hlt : (1048576 : Int) < (n : Int) := by omega
    go_enter Tryd.func4, Tryd.ntmps4
    go_wp2
    go_ret
    exact ⟨rfl, Below.refl _ _⟩
end Go.Proofs.YtcknemblniemcaaDoor
