/-
  The statement FnExactRosterAtSaid: at every slice of events and every number the law returns true, and the slice reads afterwards as it read before. No condition.
-/
import Derived.Test.YticnmhljdpengaaIRos
import Derived.Test.YticnmhljdpengaaIRMark
import Derived.Test.YticnmhljdpengaaCMark4
import Derived.Test.YticnmhljdpengaaEVal
import Derived.Test.YticnmhljdpengaaCkLaw
namespace Go.Proofs.Yticnmhljdpengaa
open Go.ChangeShapes Go.WideShapes Go.ChangeAt Go.RowKit Go.Deep
set_option linter.unusedVariables false

/-- members and administrators that are answered -/
def resR (D : Nat → Ev) (len : Nat) (e : Int) : List Int × List Int := if rosB D len e = true then rosterL D len e.toNat else ([], [])
theorem resR_len (D : Nat → Ev) (len : Nat) (e : Int) : (resR D len e).1.length ≤ 9 ∧ (resR D len e).2.length ≤ 9 := by
  unfold resR
  split
  · exact ⟨(rosterL_ros D len _).1.len, (rosterL_ros D len _).2.len⟩
  · exact ⟨Nat.zero_le _, Nat.zero_le _⟩
theorem specR (a : Option Addr) (len cap : Nat) (D : Nat → Ev) (e : Int) (w : World) (h : IsEvs w a len cap D) :
    Calls Try.prog 13 #[.slice a len cap, .int .i64 e] w fun r w' => ∃ a1 c1 a2 c2, r = .returned (.tuple #[.agg #[.slice a1 (resR D len e).1.length c1, .slice a2 (resR D len e).2.length c2], .bool (rosB D len e)]) ∧ OwnI w' w.heap.size (.slice a1 (resR D len e).1.length c1) (resR D len e).1 ∧ OwnI w' w.heap.size (.slice a2 (resR D len e).2.length c2) (resR D len e).2 ∧ Below w.heap.size w w' := by
  refine (specRoster_any a len cap D e w h).mono ?_
  rintro r w' ⟨vM, vA, rfl, hc, hB⟩
  have hh : OwnI w' w.heap.size vM (resR D len e).1 ∧ OwnI w' w.heap.size vA (resR D len e).2 := by
    unfold resR
    rcases hc with ⟨h1, rfl, rfl⟩ | ⟨h1, h2, h3⟩
    · rw [h1]; exact ⟨OwnI.nil _ _, OwnI.nil _ _⟩
    · rw [h1]; exact ⟨h2, h3⟩
  obtain ⟨a1, c1, rfl⟩ := hh.1.slice
  obtain ⟨a2, c2, rfl⟩ := hh.2.slice
  exact ⟨a1, c1, a2, c2, rfl, hh.1, hh.2, hB⟩
theorem implR (a : Option Addr) (len cap : Nat) (D : Nat → Ev) (e : Int) (w : World) (h : IsEvs w a len cap D) :
    Calls Try.prog 14 #[.slice a len cap, .int .i64 e] w fun r w' => ∃ a1 c1 a2 c2 z, r = .returned (.tuple #[.agg #[.slice a1 (resR D len e).1.length c1, .slice a2 (resR D len e).2.length c2], .bool (rosB D len e)]) ∧ OwnI w' w.heap.size (.slice a1 (resR D len e).1.length c1) (resR D len e).1 ∧ OwnI w' z (.slice a2 (resR D len e).2.length c2) (resR D len e).2 ∧ w.heap.size ≤ z ∧ (∀ k, (Value.slice a1 (resR D len e).1.length c1).ownBlock = some k → k < z) ∧ Below w.heap.size w w' := by
  refine (implRoster_any a len cap D e w h).mono ?_
  rintro r w' ⟨vM, vA, z, rfl, hc, hB⟩
  have hh : ∃ z, OwnI w' w.heap.size vM (resR D len e).1 ∧ OwnI w' z vA (resR D len e).2 ∧ w.heap.size ≤ z ∧ ∀ k, vM.ownBlock = some k → k < z := by
    unfold resR
    rcases hc with ⟨h1, rfl, rfl⟩ | ⟨h1, h2, h3, h4, h5⟩
    · rw [h1]; exact ⟨w.heap.size, OwnI.nil _ _, OwnI.nil _ _, Nat.le_refl _, fun k hk => by cases hk⟩
    · rw [h1]; exact ⟨z, h2, h3, h4, h5⟩
  obtain ⟨z, o1, o2, hz, hd⟩ := hh
  obtain ⟨a1, c1, rfl⟩ := o1.slice
  obtain ⟨a2, c2, rfl⟩ := o2.slice
  exact ⟨a1, c1, a2, c2, z, rfl, o1, o2, hz, hd, hB⟩

set_option maxRecDepth 10000 in
set_option maxHeartbeats 4000000 in
theorem roster_walk (a1 : Option Addr) (len1 cap1 : Nat) (D1 : Nat → Ev) (e : Int) (w : World) (h1 : IsEvs w a1 len1 cap1 D1) :
    Calls Try.prog 4 #[.slice a1 len1 cap1, .int .i64 e] w fun r w' => r = .returned (.bool true) ∧ Below w.heap.size w w' := by
  have hcap1 : len1 ≤ 9223372036854775807 := Nat.le_trans h1.1 h1.2.1
  go_enter Try.func4, Try.ntmps4
  go_wp2_with fail
  refine (szEvs_any a1 len1 cap1 _ w hcap1 (by omega) (by omega)).mono ?_
  rintro r w' ⟨r, rfl, hr, hw⟩
  rw [hw]; clear hw w'
  rcases hr with hr | ⟨hr, hr1, hl1⟩
  · go_wp2
    go_ret
    exact ⟨rfl, Below.refl _ _⟩
  obtain ⟨A, hA⟩ : ∃ A, A = listD D1 len1 := ⟨_, rfl⟩
  have hAl : A.length ≤ 1048576 := by rw [hA, listD_len]; exact hl1
  have TA : Hid (∀ w', Below w.heap.size w w' → Calls Try.prog 10 #[.slice a1 len1 cap1] w' fun e w'' => e = .returned (.slice (some ⟨w'.heap.size, 0, none⟩) A.length A.length) ∧ OwnE w'' w'.heap.size w'.heap.size A.length A ∧ Below w'.heap.size w' w'') := fun w' hB' => toL_any a1 len1 cap1 D1 A hA w' (h1.below hB') hl1
  obtain ⟨R1, hR1⟩ : ∃ R1, R1 = (resR (fun i => A.getD i evZ) A.length e).1 := ⟨_, rfl⟩
  obtain ⟨R2, hR2⟩ : ∃ R2, R2 = (resR (fun i => A.getD i evZ) A.length e).2 := ⟨_, rfl⟩
  obtain ⟨ok, hok⟩ : ∃ ok, ok = rosB (fun i => A.getD i evZ) A.length e := ⟨_, rfl⟩
  have hRl : R1.length ≤ 9 ∧ R2.length ≤ 9 := by rw [hR1, hR2]; exact resR_len _ _ _
  have TS : Hid (∀ g b w', OwnE w' b g A.length A → Calls Try.prog 13 #[.slice (some ⟨g, 0, none⟩) A.length A.length, .int .i64 e] w' fun r w'' => ∃ a1 c1 a2 c2, r = .returned (.tuple #[.agg #[.slice a1 R1.length c1, .slice a2 R2.length c2], .bool ok]) ∧ OwnI w'' w'.heap.size (.slice a1 R1.length c1) R1 ∧ OwnI w'' w'.heap.size (.slice a2 R2.length c2) R2 ∧ Below w'.heap.size w' w'') := fun g b w' h => by rw [hR1, hR2, hok]; exact specR _ _ _ _ e w' h.evs
  have TI : Hid (∀ g b w', OwnE w' b g A.length A → Calls Try.prog 14 #[.slice (some ⟨g, 0, none⟩) A.length A.length, .int .i64 e] w' fun r w'' => ∃ a1 c1 a2 c2 z, r = .returned (.tuple #[.agg #[.slice a1 R1.length c1, .slice a2 R2.length c2], .bool ok]) ∧ OwnI w'' w'.heap.size (.slice a1 R1.length c1) R1 ∧ OwnI w'' z (.slice a2 R2.length c2) R2 ∧ w'.heap.size ≤ z ∧ (∀ k, (Value.slice a1 R1.length c1).ownBlock = some k → k < z) ∧ Below w'.heap.size w' w'') := fun g b w' h => by rw [hR1, hR2, hok]; exact implR _ _ _ _ e w' h.evs
  clear hA h1 hR1 hR2 hok
  have hokn : (ok != ok) = false := by simp
  go_wp2_with fail
  refine (TA.out w (Below.refl _ _)).mono ?_
  rintro r w2 ⟨rfl, o2, b2⟩
  go_wp2_with fail
  refine (TS.out _ _ w2 o2).mono ?_
  rintro r w4 ⟨a1', c1', a2', c2', rfl, q1, q2, hB4⟩
  have b4 : Below w.heap.size w w4 := b2.trans (hB4.mono b2.size)
  have ql : ∀ k, (Value.slice a1' R1.length c1').ownBlock = some k ∨ (Value.slice a2' R2.length c2').ownBlock = some k → k < w4.heap.size := fun k hk => hk.elim (fun h => (World.ownsRow.lt q1 k h).2) (fun h => (World.ownsRow.lt q2 k h).2)
  obtain ⟨x4, hx4⟩ : ∃ x4, x4 = w4.alloc (.cells #[.slice a1' R1.length c1', .slice a2' R2.length c2'] 31) := ⟨_, rfl⟩
  have hb4 : Below w4.heap.size w4 x4 := by rw [hx4]; exact (Below.refl _ _).alloc (Nat.le_refl _) _
  have p0 : x4.heap[w4.heap.size]? = some (.cells #[.slice a1' R1.length c1', .slice a2' R2.length c2'] 31 (0, 0)) := by rw [hx4]; exact heap_alloc_new _ _
  have HX4 := (show Hid _ from hx4)
  have bx4 : Below w.heap.size w x4 := b4.trans (hb4.mono b4.size)
  have QX4 := (show Hid _ from (And.intro (q1.below hb4) (And.intro (q2.below hb4) p0)))
  have sx4 : w4.heap.size < x4.heap.size := lt_of_block p0
  clear hx4 hb4 p0 q1 q2 o2 b2 hB4
  go_wp2_with fail
  rw [← HX4.out]
  clear HX4
  refine (TA.out x4 bx4).mono ?_
  rintro r w5 ⟨rfl, o5, hB5⟩
  have b5 : Below w.heap.size w w5 := bx4.trans (hB5.mono bx4.size)
  have s5 : x4.heap.size < w5.heap.size := o5.lies.2.1
  go_wp2_with fail
  refine (TI.out _ _ w5 o5).mono ?_
  rintro r w7 ⟨a1g, c1g, a2g, c2g, z, rfl, g1, g2, hz, hd, hB7⟩
  have gl : ∀ k, (Value.slice a1g R1.length c1g).ownBlock = some k ∨ (Value.slice a2g R2.length c2g).ownBlock = some k → w5.heap.size ≤ k ∧ k < w7.heap.size := fun k hk => hk.elim (fun h => World.ownsRow.lt g1 k h) (fun h => by have := World.ownsRow.lt g2 k h; omega)
  have s7 : w5.heap.size ≤ w7.heap.size := hB7.size
  obtain ⟨x7, hx7⟩ : ∃ x7, x7 = w7.alloc (.cells #[.slice a1g R1.length c1g, .slice a2g R2.length c2g] 31) := ⟨_, rfl⟩
  have hb7 : Below w7.heap.size w7 x7 := by rw [hx7]; exact (Below.refl _ _).alloc (Nat.le_refl _) _
  have pg : x7.heap[w7.heap.size]? = some (.cells #[.slice a1g R1.length c1g, .slice a2g R2.length c2g] 31 (0, 0)) := by rw [hx7]; exact heap_alloc_new _ _
  have hb47 : Below x4.heap.size x4 x7 := hB5.trans ((hB7.trans (hb7.mono hB7.size)).mono hB5.size)
  have p0 := (hb47.block _ (lt_of_block QX4.out.2.2)).trans QX4.out.2.2
  have HX7 := (show Hid _ from hx7)
  have H7 : Hid (OwnI x7 w2.heap.size (.slice a1' R1.length c1') R1 ∧ OwnI x7 w2.heap.size (.slice a2' R2.length c2') R2 ∧ x7.heap[w4.heap.size]? = some (.cells #[.slice a1' R1.length c1', .slice a2' R2.length c2'] 31 (0, 0)) ∧ x7.heap[w7.heap.size]? = some (.cells #[.slice a1g R1.length c1g, .slice a2g R2.length c2g] 31 (0, 0)) ∧ OwnI x7 w5.heap.size (.slice a1g R1.length c1g) R1 ∧ OwnI x7 z (.slice a2g R2.length c2g) R2 ∧ OwnE x7 x4.heap.size x4.heap.size A.length A ∧ Below w.heap.size w x7) := ⟨QX4.out.1.below hb47, QX4.out.2.1.below hb47, p0, pg, g1.below hb7, g2.below hb7, (o5.below hB7).below hb7, bx4.trans (hb47.mono bx4.size)⟩
  have p0x := p0
  rw [hx7] at p0x
  have c0 : (w7.alloc (.cells #[.slice a1g R1.length c1g, .slice a2g R2.length c2g] 31)).cell? ⟨w4.heap.size, 0, none⟩ = some (.slice a1' R1.length c1') := cellN p0x
  have c1 : (w7.alloc (.cells #[.slice a1g R1.length c1g, .slice a2g R2.length c2g] 31)).cell? ⟨w4.heap.size, 1, none⟩ = some (.slice a2' R2.length c2') := cellN p0x
  clear p0x
  have HGL := (show Hid _ from gl)
  have HQL := (show Hid _ from ql)
  have HZD := (show Hid _ from (And.intro hz hd))
  have HSZ : Hid (w.heap.size ≤ w4.heap.size ∧ w4.heap.size < x4.heap.size ∧ x4.heap.size < w5.heap.size ∧ w5.heap.size ≤ w7.heap.size ∧ w7.heap.size < x7.heap.size) := ⟨b4.size, sx4, s5, s7, lt_of_block pg⟩
  clear hx7 hb7 pg p0 g1 g2 o5 hB5 hB7 hb47 QX4 gl ql hz hd b4 bx4 b5 sx4 s5 s7
  go_wp2_with fail
  rw [← HX7.out]
  clear HX7 c0 c1
  refine (eqR_same _ _ _ _ R1 R2 x7 H7.out.2.2.2.2.1.rd H7.out.2.2.2.2.2.1.rd H7.out.1.rd H7.out.2.1.rd).mono ?_
  rintro r w8 ⟨rfl, hB8⟩
  have H8 : Hid (OwnI w8 w2.heap.size (.slice a1' R1.length c1') R1 ∧ OwnI w8 w2.heap.size (.slice a2' R2.length c2') R2 ∧ w8.heap[w4.heap.size]? = some (.cells #[.slice a1' R1.length c1', .slice a2' R2.length c2'] 31 (0, 0)) ∧ w8.heap[w7.heap.size]? = some (.cells #[.slice a1g R1.length c1g, .slice a2g R2.length c2g] 31 (0, 0)) ∧ OwnI w8 w5.heap.size (.slice a1g R1.length c1g) R1 ∧ OwnI w8 z (.slice a2g R2.length c2g) R2 ∧ OwnE w8 x4.heap.size x4.heap.size A.length A ∧ Below w.heap.size w w8) := by
    obtain ⟨i1, i2, i3, i4, i5, i6, i7, i8⟩ := H7.out
    exact ⟨i1.below hB8, i2.below hB8, (hB8.block _ (lt_of_block i3)).trans i3, (hB8.block _ (lt_of_block i4)).trans i4, i5.below hB8, i6.below hB8, i7.below hB8, i8.trans (hB8.mono i8.size)⟩
  have SZ8 : Hid (x7.heap.size ≤ w8.heap.size) := hB8.size
  clear hB8 H7
  go_wp2_with fail
  refine (TA.out w8 H8.out.2.2.2.2.2.2.2).mono ?_
  rintro r w9 ⟨rfl, x9, hB9⟩
  go_wp2_with fail
  refine (eqV_same _ _ _ _ _ _ (H8.out.2.2.2.2.2.2.1.below hB9).v x9.v).mono ?_
  rintro r w10 ⟨rfl, hB10⟩
  have hB810 : Below w8.heap.size w8 w10 := hB9.trans (hB10.mono hB9.size)
  have H10 : Hid (OwnI w10 w2.heap.size (.slice a1' R1.length c1') R1 ∧ OwnI w10 w2.heap.size (.slice a2' R2.length c2') R2 ∧ w10.heap[w4.heap.size]? = some (.cells #[.slice a1' R1.length c1', .slice a2' R2.length c2'] 31 (0, 0)) ∧ w10.heap[w7.heap.size]? = some (.cells #[.slice a1g R1.length c1g, .slice a2g R2.length c2g] 31 (0, 0)) ∧ OwnI w10 w5.heap.size (.slice a1g R1.length c1g) R1 ∧ OwnI w10 z (.slice a2g R2.length c2g) R2 ∧ OwnE w10 x4.heap.size x4.heap.size A.length A ∧ Below w.heap.size w w10) := by
    obtain ⟨i1, i2, i3, i4, i5, i6, i7, i8⟩ := H8.out
    exact ⟨i1.below hB810, i2.below hB810, (hB810.block _ (lt_of_block i3)).trans i3, (hB810.block _ (lt_of_block i4)).trans i4, i5.below hB810, i6.below hB810, i7.below hB810, i8.trans (hB810.mono i8.size)⟩
  have SZ10 : Hid (x7.heap.size ≤ w10.heap.size) := Nat.le_trans SZ8.out hB810.size
  clear hB9 hB10 hB810 x9 H8 SZ8
  go_wp2_with fail
  refine (markEvs_any _ _ A 1 w10 H10.out.2.2.2.2.2.2.1.v hAl (by omega)).mono ?_
  rintro r w13 ⟨rfl, _, hG13⟩
  have hk13 : decide (((1 + A.length * 4 : Nat) : Int) < 0) = false := decide_eq_false (by omega)
  have H13 : Hid (OwnI w13 w2.heap.size (.slice a1' R1.length c1') R1 ∧ OwnI w13 w2.heap.size (.slice a2' R2.length c2') R2 ∧ w13.heap[w4.heap.size]? = some (.cells #[.slice a1' R1.length c1', .slice a2' R2.length c2'] 31 (0, 0)) ∧ w13.heap[w7.heap.size]? = some (.cells #[.slice a1g R1.length c1g, .slice a2g R2.length c2g] 31 (0, 0)) ∧ OwnI w13 w5.heap.size (.slice a1g R1.length c1g) R1 ∧ OwnI w13 z (.slice a2g R2.length c2g) R2 ∧ Below w.heap.size w w13) := by
    obtain ⟨i1, i2, i3, i4, i5, i6, i7, i8⟩ := H10.out
    have hs := HSZ.out
    have ob : (Value.slice (some ⟨x4.heap.size, 0, none⟩) A.length A.length).ownBlock = some x4.heap.size := rfl
    rw [ob] at hG13
    refine ⟨i1.kept hG13 (fun k hk q => ?_), i2.kept hG13 (fun k hk q => ?_), (hG13.block _ (lt_of_block i3) (by simp; omega)).trans i3, (hG13.block _ (lt_of_block i4) (by simp; omega)).trans i4, i5.kept hG13 (fun k hk q => ?_), i6.kept hG13 (fun k hk q => ?_), i8.grown hG13 i8.size (fun k hk => by cases hk; omega)⟩
    · have := HQL.out k (.inl hk); cases q; omega
    · have := HQL.out k (.inr hk); cases q; omega
    · have := HGL.out k (.inl hk); cases q; omega
    · have := HGL.out k (.inr hk); cases q; omega
  have SZ13 : Hid (x7.heap.size ≤ w13.heap.size) := Nat.le_trans SZ10.out hG13.size
  clear hG13 H10 SZ10
  have c0 : w13.cell? ⟨w4.heap.size, 0, none⟩ = some (.slice a1' R1.length c1') := cellN H13.out.2.2.1
  have c1 : w13.cell? ⟨w4.heap.size, 1, none⟩ = some (.slice a2' R2.length c2') := cellN H13.out.2.2.1
  have e0 : w13.cell? ⟨w7.heap.size, 0, none⟩ = some (.slice a1g R1.length c1g) := cellN H13.out.2.2.2.1
  have e1 : w13.cell? ⟨w7.heap.size, 1, none⟩ = some (.slice a2g R2.length c2g) := cellN H13.out.2.2.2.1
  go_wp2_with fail
  refine (eqR_same _ _ _ _ R1 R2 w13 H13.out.2.2.2.2.1.rd H13.out.2.2.2.2.2.1.rd H13.out.1.rd H13.out.2.1.rd).mono ?_
  rintro r w15 ⟨rfl, hB15⟩
  have H15 : Hid (OwnI w15 w2.heap.size (.slice a1' R1.length c1') R1 ∧ OwnI w15 w2.heap.size (.slice a2' R2.length c2') R2 ∧ w15.heap[w4.heap.size]? = some (.cells #[.slice a1' R1.length c1', .slice a2' R2.length c2'] 31 (0, 0)) ∧ w15.heap[w7.heap.size]? = some (.cells #[.slice a1g R1.length c1g, .slice a2g R2.length c2g] 31 (0, 0)) ∧ OwnI w15 w5.heap.size (.slice a1g R1.length c1g) R1 ∧ OwnI w15 z (.slice a2g R2.length c2g) R2 ∧ Below w.heap.size w w15 ∧ x7.heap.size ≤ w15.heap.size) := by
    obtain ⟨i1, i2, i3, i4, i5, i6, i8⟩ := H13.out
    exact ⟨i1.below hB15, i2.below hB15, (hB15.block _ (lt_of_block i3)).trans i3, (hB15.block _ (lt_of_block i4)).trans i4, i5.below hB15, i6.below hB15, i8.trans (hB15.mono i8.size), Nat.le_trans SZ13.out hB15.size⟩
  clear hB15 H13 SZ13 c0 c1 e0 e1
  have e0 : w15.cell? ⟨w7.heap.size, 0, none⟩ = some (.slice a1g R1.length c1g) := cellN H15.out.2.2.2.1
  have e1 : w15.cell? ⟨w7.heap.size, 1, none⟩ = some (.slice a2g R2.length c2g) := cellN H15.out.2.2.2.1
  obtain ⟨hR1l, hR2l⟩ := hRl
  have hq1 : decide (((1 + R1.length + R2.length : Nat) : Int) < 0) = false := decide_eq_false (by omega)
  have hq2 : (((1 + R1.length + R2.length : Nat) : Int) != ((1 + R1.length + R2.length : Nat) : Int)) = false := by simp
  go_wp2_with fail
  refine (markR_any w5.heap.size z _ _ R1 R2 1 w15 H15.out.2.2.2.2.1 H15.out.2.2.2.2.2.1 HZD.out.1 HZD.out.2 (by omega) (by omega) (by omega) (by have := HSZ.out; have := H15.out.2.2.2.2.2.2.2; omega)).mono ?_
  rintro r w16 ⟨rfl, m1, m2, hB16, hK16⟩
  have H16 : Hid (OwnI w16 w2.heap.size (.slice a1' R1.length c1') R1 ∧ OwnI w16 w2.heap.size (.slice a2' R2.length c2') R2 ∧ w16.heap[w4.heap.size]? = some (.cells #[.slice a1' R1.length c1', .slice a2' R2.length c2'] 31 (0, 0)) ∧ w16.heap[w7.heap.size]? = some (.cells #[.slice a1g R1.length c1g, .slice a2g R2.length c2g] 31 (0, 0)) ∧ RdI w16 (.slice a1g R1.length c1g) (marksI 1 R1.length) ∧ RdI w16 (.slice a2g R2.length c2g) (marksI (1 + R1.length) R2.length) ∧ Below w.heap.size w w16) := by
    obtain ⟨i1, i2, i3, i4, i5, i6, i8, i9⟩ := H15.out
    have hs := HSZ.out
    refine ⟨i1.under hB16 (fun k hk => by have := HQL.out k (.inl hk); omega), i2.under hB16 (fun k hk => by have := HQL.out k (.inr hk); omega), (hB16.block _ (by omega)).trans i3, (hK16 _ (lt_of_block i4) (fun q => by have := HGL.out _ (.inl q); omega) (fun q => by have := HGL.out _ (.inr q); omega)).trans i4, m1.rd, m2.rd, i8.trans (hB16.mono (by omega))⟩
  clear m1 m2 hB16 hK16 H15 e0 e1
  have e0 : w16.cell? ⟨w7.heap.size, 0, none⟩ = some (.slice a1g R1.length c1g) := cellN H16.out.2.2.2.1
  have e1 : w16.cell? ⟨w7.heap.size, 1, none⟩ = some (.slice a2g R2.length c2g) := cellN H16.out.2.2.2.1
  go_wp2_with fail
  refine (heldR_any _ _ 1 R1.length R2.length w16 H16.out.2.2.2.2.1 H16.out.2.2.2.2.2.1 (by omega) (by omega) (by omega)).mono ?_
  rintro r w17 ⟨rfl, hB17⟩
  have b17 : Below w.heap.size w w17 := H16.out.2.2.2.2.2.2.trans (hB17.mono H16.out.2.2.2.2.2.2.size)
  clear e0 e1
  go_wp2_with fail
  refine (TA.out w17 b17).mono ?_
  rintro r w18 ⟨rfl, o18, hB18⟩
  go_wp2_with fail
  refine (TI.out _ _ w18 o18).mono ?_
  rintro r w19 ⟨a1h, c1h, a2h, c2h, zh, rfl, h1, h2, _, _, hB19⟩
  have hB1619 : Below w16.heap.size w16 w19 := hB17.trans ((hB18.trans (hB19.mono hB18.size)).mono hB17.size)
  obtain ⟨x19, hx19⟩ : ∃ x19, x19 = w19.alloc (.cells #[.slice a1h R1.length c1h, .slice a2h R2.length c2h] 31) := ⟨_, rfl⟩
  have hb19 : Below w19.heap.size w19 x19 := by rw [hx19]; exact (Below.refl _ _).alloc (Nat.le_refl _) _
  have hB : Below w16.heap.size w16 x19 := hB1619.trans (hb19.mono hB1619.size)
  have H19 : Hid (OwnI x19 w2.heap.size (.slice a1' R1.length c1') R1 ∧ OwnI x19 w2.heap.size (.slice a2' R2.length c2') R2 ∧ x19.heap[w4.heap.size]? = some (.cells #[.slice a1' R1.length c1', .slice a2' R2.length c2'] 31 (0, 0)) ∧ x19.heap[w7.heap.size]? = some (.cells #[.slice a1g R1.length c1g, .slice a2g R2.length c2g] 31 (0, 0)) ∧ RdI x19 (.slice a1g R1.length c1g) (marksI 1 R1.length) ∧ RdI x19 (.slice a2g R2.length c2g) (marksI (1 + R1.length) R2.length) ∧ Below w.heap.size w x19 ∧ RdI x19 (.slice a1h R1.length c1h) R1 ∧ RdI x19 (.slice a2h R2.length c2h) R2) := by
    obtain ⟨i1, i2, i3, i4, i5, i6, i8⟩ := H16.out
    exact ⟨i1.below hB, i2.below hB, (hB.block _ (lt_of_block i3)).trans i3, (hB.block _ (lt_of_block i4)).trans i4, RdI.below i5 hB, RdI.below i6 hB, i8.trans (hB.mono i8.size), (h1.below hb19).rd, (h2.below hb19).rd⟩
  have p0x := H19.out.2.2.1
  rw [hx19] at p0x
  have c0 : (w19.alloc (.cells #[.slice a1h R1.length c1h, .slice a2h R2.length c2h] 31)).cell? ⟨w4.heap.size, 0, none⟩ = some (.slice a1' R1.length c1') := cellN p0x
  have c1 : (w19.alloc (.cells #[.slice a1h R1.length c1h, .slice a2h R2.length c2h] 31)).cell? ⟨w4.heap.size, 1, none⟩ = some (.slice a2' R2.length c2') := cellN p0x
  have HX19 := (show Hid _ from hx19)
  clear p0x hx19 hb19 hB hB1619 hB17 hB18 hB19 o18 h1 h2 H16 b17
  go_wp2_with fail
  rw [← HX19.out]
  clear HX19 c0 c1
  refine (eqR_same _ _ _ _ R1 R2 x19 H19.out.2.2.2.2.2.2.2.1 H19.out.2.2.2.2.2.2.2.2 H19.out.1.rd H19.out.2.1.rd).mono ?_
  rintro r w20 ⟨rfl, hB20⟩
  have H20 : Hid (w20.heap[w7.heap.size]? = some (.cells #[.slice a1g R1.length c1g, .slice a2g R2.length c2g] 31 (0, 0)) ∧ RdI w20 (.slice a1g R1.length c1g) (marksI 1 R1.length) ∧ RdI w20 (.slice a2g R2.length c2g) (marksI (1 + R1.length) R2.length) ∧ Below w.heap.size w w20) := by
    obtain ⟨i1, i2, i3, i4, i5, i6, i8, _, _⟩ := H19.out
    exact ⟨(hB20.block _ (lt_of_block i4)).trans i4, RdI.below i5 hB20, RdI.below i6 hB20, i8.trans (hB20.mono i8.size)⟩
  clear hB20 H19
  have e0 : w20.cell? ⟨w7.heap.size, 0, none⟩ = some (.slice a1g R1.length c1g) := cellN H20.out.1
  have e1 : w20.cell? ⟨w7.heap.size, 1, none⟩ = some (.slice a2g R2.length c2g) := cellN H20.out.1
  go_wp2_with fail
  refine (heldR_any _ _ 1 R1.length R2.length w20 H20.out.2.1 H20.out.2.2.1 (by omega) (by omega) (by omega)).mono ?_
  rintro r w21 ⟨rfl, hB21⟩
  have HB21 : Hid (Below w.heap.size w w21) := H20.out.2.2.2.trans (hB21.mono H20.out.2.2.2.size)
  clear hB21 e0 e1
  go_wp2
  go_ret
  exact ⟨rfl, HB21.out⟩

set_option maxRecDepth 100000 in
theorem roster_lifted (os : Os) (started : os.Started) (H : Type) (enc : TypeId × Value → H) :
    ReturnsInHanded {} Try.checked os 4 .any (Rows.fnExactRosterAtSpec.pre6 enc Try.prog Try.f4 Rows.fnExactRosterAtRow.domain false) (Rows.fnExactRosterAtSpec.post enc Try.prog Try.f4 false true false false) := by
  refine returnsInHanded_of_change (C := Try.checked) own started (by kernel_rfl) Try.func4
    (ChangeSpec.witness6 (enc := enc) (C := Try.checked) false ⟨#[], #[.slice none 0 0, .int .i64 0], []⟩ 8 (by kernel_rfl) (by kernel_rfl) (by kernel_rfl) (by kernel_rfl)) ?_
  intro W base args ds gs before hval0 hW hcnd _
  have hval : ∀ (j : Nat) t v, Try.f4.params[j]? = some t → args[j]? = some v → Value.okWide Try.prog W .any base t v := hval0
  have hW' := hW
  obtain ⟨p, q, hA0, hV, rfl, hfz, hnd⟩ := hW
  have hA : DataW.TrodAll enc Try.prog W 0 (fun _ => true) true Try.f4.params.toList args.toList ds p := hA0
  rw [Try.params4] at hA hval
  obtain ⟨v0, vs0, d0, ds0, p0, q0, hargs, rfl, rfl, h0, r0⟩ := trodAll_cons hA
  obtain ⟨v1, vs1, d1, ds1, p1, q1, rfl, rfl, rfl, h1, r1⟩ := trodAll_cons r0
  obtain ⟨rfl, rfl, rfl⟩ := trodAll_nil r1
  obtain rfl : args = #[v0, v1] := by cases args; simp_all
  obtain ⟨rfl, rfl⟩ := trodVars_none hV
  obtain ⟨a0, len0, cap0, rfl⟩ := okWide_slice Try.underlying22 (hval 0 22 v0 rfl rfl)
  have k0 := h0
  have k1 := h1
  have lt0 : ∀ x ∈ p0, x.block < W.heap.size := by obtain ⟨m, hm⟩ := k0; exact DataW.trod_lt m _ _ _ hm
  have lt1 : ∀ x ∈ p1, x.block < W.heap.size := by obtain ⟨m, hm⟩ := k1; exact DataW.trod_lt m _ _ _ hm
  obtain ⟨D, w0⟩ : ∃ D, IsEvs W a0 len0 cap0 D := by
    obtain ⟨fuel, hf⟩ := h0
    obtain ⟨a, len, cap, D, e, hI, _⟩ := open_evs (by simpa [Value.cells] using hf)
    simp at e
    obtain ⟨rfl, rfl, rfl⟩ := e
    exact ⟨D, hI⟩
  obtain ⟨z, rfl⟩ := okWide_int Try.underlying2 (hval 1 2 v1 rfl rfl)
  clear hA0 hval0
  refine (roster_walk a0 len0 cap0 D z W w0).mono fun e W' ⟨he, bel⟩ => ?_
  subst he
  exact ⟨_, rfl, _, _, _, [], _, [], hW', trodAll_mk1 (shut_bool Try.underlying4 _), (trodAll_cons_mk (Below.trod laidOut (by kernel_rfl) (of_decide_eq_true (by kernel_rfl)) k0 bel lt0) (trodAll_cons_mk (Below.trod laidOut (by kernel_rfl) (of_decide_eq_true (by kernel_rfl)) k1 bel lt1) trodAll_mk0)), rfl, bel.frame _, fun h => by cases h⟩

theorem roster_proved : Rows.FnExactRosterAtSaid :=
  OpenClaim.holds_of_wide 4 Try.f4 rfl rfl rfl rfl rfl rfl rfl ⟨rfl, rfl, rfl, rfl, rfl⟩ rfl rfl rfl rfl rfl (by kernel_rfl) Try.func4 (by kernel_rfl)
    (of_decide_eq_true (by kernel_rfl)) (by unfold Func.isWrapper; first | (rw [if_pos (by decide +kernel)]; kernel_rfl) | (rw [if_neg (by decide +kernel)]; exact ⟨rfl, rfl⟩))
    (fun os started H enc _ => roster_lifted os started H enc)
#print axioms roster_proved
end Go.Proofs.Yticnmhljdpengaa
