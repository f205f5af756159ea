/-
  The statement FnPastStaysSaid: at every code the law returns true, and the code reads afterwards as it read before. No condition.
-/
import Derived.Test.YtglnnocfdlachaaPsz
import Derived.Test.YtglnnocfdlachaaCwLaw
namespace Go.Proofs.Ytglnnocfdlachaa
open Go.ChangeShapes Go.WideShapes Go.ChangeAt Go.RowKit Go.Deep
set_option linter.unusedVariables false

set_option maxRecDepth 10000 in
set_option maxHeartbeats 8000000 in
theorem past_walk {a : Option Addr} {len cap : Nat} {Z : Nat → Int} (w : World) (hU : IsU8 w a len cap Z) :
    Calls Try.prog 4 #[.slice a len cap] w fun e w' => e = .returned (.bool true) ∧ Below w.heap.size w w' := by
  by_cases hbig : (1048576 : Int) < (len : Int)
  · go_enter Try.func4, Try.ntmps4
    go_wp2_with fail
    refine (big_any _ _ _ _).mono ?_
    rintro e w1 ⟨rfl, hw⟩
    rw [hw, decide_eq_true hbig]
    go_wp2
    go_ret
    exact ⟨rfl, Below.refl _ _⟩
  have HN : Hid (decide ((1048576 : Int) < (len : Int)) = false) := decide_eq_false hbig
  have HU := (show Hid _ from hU)
  clear hbig hU
  go_enter Try.func4, Try.ntmps4
  go_wp2_with fail
  refine (big_any _ _ _ _).mono ?_
  rintro e w1 ⟨rfl, hw⟩
  rw [hw, HN.out]
  clear hw w1 HN
  go_wp2_with fail
  refine (drawWith_any HU.out).mono ?_
  rintro e w2 ⟨g, gc, A, x, rfl, hA6, oA, b2⟩
  obtain ⟨X, hX⟩ : ∃ X, X = w2.alloc (.cells #[.int .i64 x.a, .int .i64 x.b, .int .i64 x.c, .int .i64 x.d] 30) := ⟨_, rfl⟩
  have hBX : Below w2.heap.size w2 X := by rw [hX]; exact (Below.refl _ _).alloc (Nat.le_refl _) _
  have gX : X.heap[w2.heap.size]? = some (.cells #[.int .i64 x.a, .int .i64 x.b, .int .i64 x.c, .int .i64 x.d] 30 (0, 0)) := by rw [hX]; exact heap_alloc_new _ _
  obtain ⟨R, hR⟩ : ∃ R, R = resW A x := ⟨_, rfl⟩
  obtain ⟨ok, hok⟩ : ∃ ok, ok = withB A x := ⟨_, rfl⟩
  have HH : Hid (∀ v, Below X.heap.size X v → OwnE v w.heap.size g gc A ∧ v.heap[w2.heap.size]? = some (.cells #[.int .i64 x.a, .int .i64 x.b, .int .i64 x.c, .int .i64 x.d] 30 (0, 0)) ∧ Below w.heap.size w v) := fun v hv => by
    have hB : Below w2.heap.size w2 v := hBX.trans (hv.mono hBX.size)
    exact ⟨oA.below hB, (hv.block _ (lt_of_block gX)).trans gX, b2.trans (hB.mono b2.size)⟩
  have TS : Hid (∀ v, Below X.heap.size X v → Calls Try.prog 6 #[.slice (some ⟨g, 0, none⟩) A.length gc, .agg #[.int .i64 x.a, .int .i64 x.b, .int .i64 x.c, .int .i64 x.d]] v fun r w'' => ∃ u, r = .returned (.tuple #[u, .bool ok]) ∧ OwnV w'' v.heap.size u R ∧ Below v.heap.size v w'') := fun v hv => by
    have o := (HH.out v hv).1
    rw [hok, hR]
    refine (specWith_any _ 0 _ A x v o.lies.1 o.lies.2.1 o.caps.1 o.caps.2).mono ?_
    rintro e w'' ⟨u, rfl, hu, hB⟩
    exact ⟨u, rfl, hu.resW, hB⟩
  have TI : Hid (∀ v, Below X.heap.size X v → Calls Try.prog 9 #[.slice (some ⟨g, 0, none⟩) A.length gc, .agg #[.int .i64 x.a, .int .i64 x.b, .int .i64 x.c, .int .i64 x.d]] v fun r w'' => ∃ u, r = .returned (.tuple #[u, .bool ok]) ∧ OwnV w'' v.heap.size u R ∧ Below v.heap.size v w'') := fun v hv => by
    have o := (HH.out v hv).1
    rw [hok, hR]
    refine (implWith_any _ 0 _ A x v o.lies.1 o.lies.2.1 o.caps.1 o.caps.2).mono ?_
    rintro e w'' ⟨u, rfl, hu, hB⟩
    exact ⟨u, rfl, hu.resW, hB⟩
  have HX := (show Hid _ from hX)
  have HOK : Hid (ok = withB A x ∧ R = resW A x) := ⟨hok, hR⟩
  have hokn : (ok != ok) = false := by simp
  have hoke : (ok == ok) = true := by simp
  have gx := gX
  rw [hX] at gx
  have x0 : (w2.alloc (.cells #[.int .i64 x.a, .int .i64 x.b, .int .i64 x.c, .int .i64 x.d] 30)).cell? ⟨w2.heap.size, 0, none⟩ = some (.int .i64 x.a) := cellN gx
  have x1 : (w2.alloc (.cells #[.int .i64 x.a, .int .i64 x.b, .int .i64 x.c, .int .i64 x.d] 30)).cell? ⟨w2.heap.size, 1, none⟩ = some (.int .i64 x.b) := cellN gx
  have x2 : (w2.alloc (.cells #[.int .i64 x.a, .int .i64 x.b, .int .i64 x.c, .int .i64 x.d] 30)).cell? ⟨w2.heap.size, 2, none⟩ = some (.int .i64 x.c) := cellN gx
  have x3 : (w2.alloc (.cells #[.int .i64 x.a, .int .i64 x.b, .int .i64 x.c, .int .i64 x.d] 30)).cell? ⟨w2.heap.size, 3, none⟩ = some (.int .i64 x.d) := cellN gx
  clear hX hBX gX gx oA b2 hok hR
  go_wp2_with fail
  rw [← HX.out]
  refine (TI.out X (Below.refl _ _)).mono ?_
  rintro r w3 ⟨vm, rfl, om, B3⟩
  clear x0 x1 x2 x3 HX
  have HB3 := (show Hid _ from B3)
  have gx := (HH.out w3 B3).2.1
  have x0 : w3.cell? ⟨w2.heap.size, 0, none⟩ = some (.int .i64 x.a) := cellN gx
  have x1 : w3.cell? ⟨w2.heap.size, 1, none⟩ = some (.int .i64 x.b) := cellN gx
  have x2 : w3.cell? ⟨w2.heap.size, 2, none⟩ = some (.int .i64 x.c) := cellN gx
  have x3 : w3.cell? ⟨w2.heap.size, 3, none⟩ = some (.int .i64 x.d) := cellN gx
  have HOM := (show Hid _ from om)
  clear gx B3 om
  go_wp2_with fail
  refine (TS.out w3 HB3.out).mono ?_
  rintro r w4 ⟨vw, rfl, ow, hB4⟩
  have HB4 : Hid (Below X.heap.size X w4) := HB3.out.trans (hB4.mono HB3.out.size)
  have HO4 : Hid (OwnV w4 X.heap.size vm R ∧ OwnV w4 w3.heap.size vw R) := ⟨OwnV.below HOM.out hB4, ow⟩
  clear x0 x1 x2 x3 hB4 ow HOM HB3
  go_wp2_with fail
  refine (same_any _ _ _ _ _ _ HO4.out.1 HO4.out.2).mono ?_
  rintro r w5 ⟨rfl, hB5⟩
  have HB5 : Hid (Below X.heap.size X w5) := HB4.out.trans (hB5.mono HB4.out.size)
  have HO5 : Hid (OwnV w5 X.heap.size vm R ∧ OwnV w5 w3.heap.size vw R) := ⟨OwnV.below HO4.out.1 hB5, OwnV.below HO4.out.2 hB5⟩
  clear hB5 HO4 HB4
  cases hk : ok with
  | false =>
    subst hk
    go_wp2_with fail
    refine (same_any _ _ _ _ _ _ HO5.out.1 HO5.out.2).mono ?_
    rintro r w6 ⟨rfl, hB6⟩
    have HE : Hid (Below w.heap.size w w6) := (HH.out w6 (HB5.out.trans (hB6.mono HB5.out.size))).2.2
    clear hB6
    go_wp2
    go_ret
    exact ⟨rfl, HE.out⟩
  | true =>
  subst hk
  have hwb : withB A x = true := HOK.out.1.symm
  have hRp : R = putE A x := by rw [HOK.out.2]; unfold resW; rw [hwb]; rfl
  obtain ⟨am, cm, hvm, _⟩ := OwnV.evs HO5.out.1
  subst hvm
  obtain ⟨nm, hnm⟩ : ∃ nm, nm = R.length := ⟨_, rfl⟩
  have HM : Hid (∀ v, Below w5.heap.size w5 v → IsEvs v am R.length cm (fun i => R.getD i evZ) ∧ Below X.heap.size X v) := fun v hv => by
    obtain ⟨a', c', e', hI⟩ := OwnV.evs (OwnV.below HO5.out.1 hv)
    simp only [Value.slice.injEq, true_and] at e'
    obtain ⟨rfl, rfl⟩ := e'
    exact ⟨hI, HB5.out.trans (hv.mono HB5.out.size)⟩
  have hfx := fine_rng (withB_parts hwb).2.1
  obtain ⟨n, hn⟩ : ∃ n : Nat, x.a = (n : Int) := ⟨x.a.toNat, by omega⟩
  have hn20 : 1 ≤ n ∧ n ≤ 20 := by omega
  have P1 : Hid (∀ (k : Nat), k < n → ∀ v, Below w5.heap.size w5 v → ∃ Q : List Int × List Int, Calls Try.prog 16 #[.slice (some ⟨g, 0, none⟩) A.length gc, .int .i64 k] v (fun r w' => ∃ a1 c1 a2 c2, r = .returned (.tuple #[.agg #[.slice a1 Q.1.length c1, .slice a2 Q.2.length c2], .bool true]) ∧ RdI w' (.slice a1 Q.1.length c1) Q.1 ∧ RdI w' (.slice a2 Q.2.length c2) Q.2 ∧ Below v.heap.size v w') ∧ ∀ v', Below v.heap.size v v' → Calls Try.prog 16 #[.slice am R.length cm, .int .i64 k] v' (fun r w' => ∃ a1 c1 a2 c2, r = .returned (.tuple #[.agg #[.slice a1 Q.1.length c1, .slice a2 Q.2.length c2], .bool true]) ∧ RdI w' (.slice a1 Q.1.length c1) Q.1 ∧ RdI w' (.slice a2 Q.2.length c2) Q.2 ∧ Below v'.heap.size v' w')) := fun k hk v hv => by
    obtain ⟨r1, r2, r3⟩ := past_res hwb k (by omega)
    rw [← hRp] at r2 r3
    refine ⟨resR (fun i => A.getD i evZ) A.length k, ?_, fun v' hv' => ?_⟩
    · have h := implR (some ⟨g, 0, none⟩) A.length gc (fun i => A.getD i evZ) k v ((HH.out v (HM.out v hv).2).1.evs)
      rw [r1] at h
      refine h.mono ?_
      rintro r w' ⟨a1, c1, a2, c2, z, rfl, o1, o2, _, _, hB⟩
      exact ⟨a1, c1, a2, c2, rfl, o1.rd, o2.rd, hB⟩
    · have h := implR am R.length cm (fun i => R.getD i evZ) k v' (HM.out v' (hv.trans (hv'.mono hv.size))).1
      rw [r2, r3] at h
      refine h.mono ?_
      rintro r w' ⟨a1, c1, a2, c2, z, rfl, o1, o2, _, _, hB⟩
      exact ⟨a1, c1, a2, c2, rfl, o1.rd, o2.rd, hB⟩
  have P2 : Hid (∀ v, Below w5.heap.size w5 v → Calls Try.prog 18 #[.slice am R.length cm] v fun r w' => r = .returned (.bool true) ∧ Below v.heap.size v w') := fun v hv => by
    have h := implChain_any am R.length cm (fun i => R.getD i evZ) v (HM.out v hv).1
    have hc : chainB (fun i => R.getD i evZ) R.length = true := by rw [hRp]; exact (withB_parts hwb).2.2.2
    rw [hc] at h
    exact h
  have P3 : Hid (∀ v, Below w5.heap.size w5 v → ∃ Q : List Int × List Int, hasI Q.2 x.b = true ∧ Calls Try.prog 16 #[.slice (some ⟨g, 0, none⟩) A.length gc, .int .i64 ((n - 1 : Nat) : Int)] v (fun r w' => ∃ a1 c1 a2 c2, r = .returned (.tuple #[.agg #[.slice a1 Q.1.length c1, .slice a2 Q.2.length c2], .bool true]) ∧ RdI w' (.slice a1 Q.1.length c1) Q.1 ∧ RdI w' (.slice a2 Q.2.length c2) Q.2 ∧ Below v.heap.size v w')) := fun v hv => by
    have hz : ((n - 1 : Nat) : Int) = x.a - 1 := by omega
    obtain ⟨r1, _, _⟩ := past_res hwb (n - 1) (by omega)
    have ha := (withB_parts hwb).2.2.1
    unfold admB at ha
    rw [← hz] at ha
    refine ⟨resR (fun i => A.getD i evZ) A.length ((n - 1 : Nat) : Int), ha, ?_⟩
    have h := implR (some ⟨g, 0, none⟩) A.length gc (fun i => A.getD i evZ) ((n - 1 : Nat) : Int) v ((HH.out v (HM.out v hv).2).1.evs)
    rw [r1] at h
    refine h.mono ?_
    rintro r w' ⟨a1, c1, a2, c2, z, rfl, o1, o2, _, _, hB⟩
    exact ⟨a1, c1, a2, c2, rfl, o1.rd, o2.rd, hB⟩
  have HXA : Hid (∀ v, Below w5.heap.size w5 v → v.cell? ⟨w2.heap.size, 0, none⟩ = some (.int .i64 n) ∧ v.cell? ⟨w2.heap.size, 1, none⟩ = some (.int .i64 x.b) ∧ Below w.heap.size w v) := fun v hv => by
    have h := HH.out v (HM.out v hv).2
    refine ⟨?_, cellN h.2.1, h.2.2⟩
    rw [← hn]
    exact cellN h.2.1
  clear HM HH TI TS HOK HO5 hwb hRp hfx hn HB5
  rw [← hnm] at P1 P2 ⊢
  clear hnm
  go_wp2
  go_loopw [9, 10, 11, 12, 13] (fun y _ _ _ _ wr => ∃ (k : Nat), k ≤ n ∧ y = .int .i64 k ∧ Hid (Below w5.heap.size w5 wr)) (fun y _ _ _ _ _ => n - (intOf y).toNat)
  case atStart => exact ⟨0, Nat.zero_le _, rfl, Below.refl _ _⟩
  case round =>
    obtain ⟨k, hk, rfl, HB⟩ := hrel
    have e0 := (HXA.out wr HB.out).1
    by_cases hlt : k < n
    · have hltI : (k : Int) < (n : Int) := by omega
      obtain ⟨Q, C1, C2⟩ := P1.out k hlt wr HB.out
      obtain ⟨Q1, Q2⟩ := Q
      have HC1 := (show Hid _ from C1)
      have HC2 := (show Hid _ from C2)
      clear C1 C2
      go_wp2_with fail
      refine Calls.mono HC1.out ?_
      rintro r w6 ⟨a1, c1, a2, c2, rfl, d1, d2, hB6⟩
      obtain ⟨y6, hy6⟩ : ∃ y6, y6 = w6.alloc (.cells #[.slice a1 Q1.length c1, .slice a2 Q2.length c2] 41) := ⟨_, rfl⟩
      have hb6 : Below w6.heap.size w6 y6 := by rw [hy6]; exact (Below.refl _ _).alloc (Nat.le_refl _) _
      have p6 : y6.heap[w6.heap.size]? = some (.cells #[.slice a1 Q1.length c1, .slice a2 Q2.length c2] 41 (0, 0)) := by rw [hy6]; exact heap_alloc_new _ _
      have hBy6 : Below wr.heap.size wr y6 := hB6.trans (hb6.mono hB6.size)
      have H6 : Hid (RdI y6 (.slice a1 Q1.length c1) Q1 ∧ RdI y6 (.slice a2 Q2.length c2) Q2 ∧ y6.heap[w6.heap.size]? = some (.cells #[.slice a1 Q1.length c1, .slice a2 Q2.length c2] 41 (0, 0)) ∧ Below wr.heap.size wr y6) := ⟨d1.below hb6, d2.below hb6, p6, hBy6⟩
      have HY6 := (show Hid _ from hy6)
      clear hy6 hb6 p6 hBy6 d1 d2 hB6 e0
      go_wp2_with fail
      rw [← HY6.out]
      clear HY6
      refine Calls.mono (HC2.out y6 H6.out.2.2.2) ?_
      rintro r w7 ⟨b1, g1, b2, g2, rfl, d1, d2, hB7⟩
      obtain ⟨y7, hy7⟩ : ∃ y7, y7 = w7.alloc (.cells #[.slice b1 Q1.length g1, .slice b2 Q2.length g2] 41) := ⟨_, rfl⟩
      have hb7 : Below w7.heap.size w7 y7 := by rw [hy7]; exact (Below.refl _ _).alloc (Nat.le_refl _) _
      have p7 : y7.heap[w7.heap.size]? = some (.cells #[.slice b1 Q1.length g1, .slice b2 Q2.length g2] 41 (0, 0)) := by rw [hy7]; exact heap_alloc_new _ _
      have hBy7 : Below y6.heap.size y6 y7 := hB7.trans (hb7.mono hB7.size)
      have H7 : Hid (∀ v, Below y7.heap.size y7 v → RdI v (.slice a1 Q1.length c1) Q1 ∧ RdI v (.slice a2 Q2.length c2) Q2 ∧ v.heap[w6.heap.size]? = some (.cells #[.slice a1 Q1.length c1, .slice a2 Q2.length c2] 41 (0, 0)) ∧ RdI v (.slice b1 Q1.length g1) Q1 ∧ RdI v (.slice b2 Q2.length g2) Q2 ∧ v.heap[w7.heap.size]? = some (.cells #[.slice b1 Q1.length g1, .slice b2 Q2.length g2] 41 (0, 0)) ∧ Below w5.heap.size w5 v) := fun v hv => by
        obtain ⟨i1, i2, i3, i4⟩ := H6.out
        have h67 : Below y6.heap.size y6 v := hBy7.trans (hv.mono hBy7.size)
        have hw : Below wr.heap.size wr v := i4.trans (h67.mono i4.size)
        exact ⟨i1.below h67, i2.below h67, (h67.block _ (lt_of_block i3)).trans i3, (d1.below hb7).below hv, (d2.below hb7).below hv, (hv.block _ (lt_of_block p7)).trans p7, HB.out.trans (hw.mono HB.out.size)⟩
      have HY7 := (show Hid _ from hy7)
      have h7 := H7.out y7 (Below.refl _ _)
      have q6 := h7.2.2.1
      have q7 := h7.2.2.2.2.2.1
      rw [hy7] at q6 q7
      have c60 : (w7.alloc (.cells #[.slice b1 Q1.length g1, .slice b2 Q2.length g2] 41)).cell? ⟨w6.heap.size, 0, none⟩ = some (.slice a1 Q1.length c1) := cellN q6
      have c70 : (w7.alloc (.cells #[.slice b1 Q1.length g1, .slice b2 Q2.length g2] 41)).cell? ⟨w7.heap.size, 0, none⟩ = some (.slice b1 Q1.length g1) := cellN q7
      clear hy7 hb7 p7 hBy7 d1 d2 hB7 h7 q6 q7 H6
      go_wp2_with fail
      rw [← HY7.out]
      clear HY7 c60 c70
      refine (sameI_same _ _ Q1 y7 (H7.out y7 (Below.refl _ _)).1 (H7.out y7 (Below.refl _ _)).2.2.2.1).mono ?_
      rintro r w8 ⟨rfl, B8⟩
      have HB8 := (show Hid _ from B8)
      have h8 := H7.out w8 B8
      have c61 : w8.cell? ⟨w6.heap.size, 1, none⟩ = some (.slice a2 Q2.length c2) := cellN h8.2.2.1
      have c71 : w8.cell? ⟨w7.heap.size, 1, none⟩ = some (.slice b2 Q2.length g2) := cellN h8.2.2.2.2.2.1
      clear h8 B8
      go_wp2_with fail
      refine (sameI_same _ _ Q2 w8 (H7.out w8 HB8.out).2.1 (H7.out w8 HB8.out).2.2.2.2.1).mono ?_
      rintro r w9 ⟨rfl, B9⟩
      have HB9 : Hid (Below w5.heap.size w5 w9) := (H7.out w9 (HB8.out.trans (B9.mono HB8.out.size))).2.2.2.2.2.2
      clear B9 c61 c71
      go_wp2
      go_roundw
      case rel => exact ⟨k + 1, by omega, by go_num, HB9.out⟩
      case measure => simp [intOf]; omega
    · have hke : k = n := by omega
      subst hke
      have hkI : IntKind.i64.wrap ((k : Int) - 1) = ((k - 1 : Nat) : Int) := by rw [IntKind.wrap_i64]; omega
      obtain ⟨k1, hk1⟩ : ∃ k1, k1 = k - 1 := ⟨_, rfl⟩
      have hk1I : (k : Int) - 1 = (k1 : Int) := by omega
      obtain ⟨Q, hQ, C3⟩ := P3.out wr HB.out
      rw [← hk1] at C3
      obtain ⟨Q1, Q2⟩ := Q
      have HC3 := (show Hid _ from C3)
      clear C3 hkI hk1
      go_wp2_with fail
      refine Calls.mono HC3.out ?_
      rintro r w6 ⟨a1, c1, a2, c2, rfl, d1, d2, hB6⟩
      obtain ⟨y6, hy6⟩ : ∃ y6, y6 = w6.alloc (.cells #[.slice a1 Q1.length c1, .slice a2 Q2.length c2] 41) := ⟨_, rfl⟩
      have hb6 : Below w6.heap.size w6 y6 := by rw [hy6]; exact (Below.refl _ _).alloc (Nat.le_refl _) _
      have p6 : y6.heap[w6.heap.size]? = some (.cells #[.slice a1 Q1.length c1, .slice a2 Q2.length c2] 41 (0, 0)) := by rw [hy6]; exact heap_alloc_new _ _
      have hBy6 : Below wr.heap.size wr y6 := hB6.trans (hb6.mono hB6.size)
      have H6 : Hid (∀ v, Below y6.heap.size y6 v → RdI v (.slice a2 Q2.length c2) Q2 ∧ v.heap[w6.heap.size]? = some (.cells #[.slice a1 Q1.length c1, .slice a2 Q2.length c2] 41 (0, 0)) ∧ Below w5.heap.size w5 v) := fun v hv => by
        have hw : Below wr.heap.size wr v := hBy6.trans (hv.mono hBy6.size)
        exact ⟨(d2.below hb6).below hv, (hv.block _ (lt_of_block p6)).trans p6, HB.out.trans (hw.mono HB.out.size)⟩
      have HY6 := (show Hid _ from hy6)
      clear hy6 hb6 p6 hBy6 d1 d2 hB6 e0
      go_wp2_with fail
      rw [← HY6.out]
      clear HY6
      refine (P2.out y6 (H6.out y6 (Below.refl _ _)).2.2).mono ?_
      rintro r w7 ⟨rfl, B7⟩
      have HB7 := (show Hid _ from B7)
      have h7 := H6.out w7 B7
      have c61 : w7.cell? ⟨w6.heap.size, 1, none⟩ = some (.slice a2 Q2.length c2) := cellN h7.2.1
      have e1 := (HXA.out w7 h7.2.2).2.1
      clear h7 B7
      go_wp2_with fail
      refine (hasInt_any _ Q2 x.b w7 (H6.out w7 HB7.out).1).mono ?_
      rintro r w8 ⟨rfl, hw8⟩
      rw [hw8, hQ]
      have HE : Hid (Below w.heap.size w w7) := (HXA.out w7 (H6.out w7 HB7.out).2.2).2.2
      clear hw8 w8 c61 e1 hQ
      go_wp2
      go_ret
      exact ⟨rfl, HE.out⟩

set_option maxRecDepth 100000 in
theorem past_lifted (os : Os) (started : os.Started) (H : Type) (enc : TypeId × Value → H) :
    ReturnsInHanded {} Try.checked os 4 .any (Rows.fnPastStaysSpec.pre6 enc Try.prog Try.f4 Rows.fnPastStaysRow.domain false) (Rows.fnPastStaysSpec.post enc Try.prog Try.f4 false true false false) := by
  refine returnsInHanded_of_change (C := Try.checked) own started (by kernel_rfl) Try.func4
    (ChangeSpec.witness6 (enc := enc) (C := Try.checked) false ⟨#[], #[.slice none 0 0], []⟩ 8 (by kernel_rfl) (by kernel_rfl) (by kernel_rfl) (by kernel_rfl)) ?_
  intro W base args ds gs before hval0 hW hcnd _
  have hval : ∀ (j : Nat) t v, Try.f4.params[j]? = some t → args[j]? = some v → Value.okWide Try.prog W .any base t v := hval0
  have hW' := hW
  obtain ⟨p, q, hA0, hV, rfl, hfz, hnd⟩ := hW
  have hA : DataW.TrodAll enc Try.prog W 0 (fun _ => true) true Try.f4.params.toList args.toList ds p := hA0
  rw [Try.params4] at hA hval
  obtain ⟨v0, vs0, d0, ds0, p0, q0, hargs, rfl, rfl, h0, r0⟩ := trodAll_cons hA
  obtain ⟨rfl, rfl, rfl⟩ := trodAll_nil r0
  obtain rfl : args = #[v0] := by cases args; simp_all
  obtain ⟨rfl, rfl⟩ := trodVars_none hV
  obtain ⟨a0, len0, cap0, rfl⟩ := okWide_slice Try.underlying35 (hval 0 35 v0 rfl rfl)
  have k0 := h0
  have lt0 : ∀ x ∈ p0, x.block < W.heap.size := by obtain ⟨m, hm⟩ := k0; exact DataW.trod_lt m _ _ _ hm
  obtain ⟨Z, w0⟩ : ∃ Z, IsU8 W a0 len0 cap0 Z := by
    obtain ⟨fuel, hf⟩ := h0
    obtain ⟨a, len, cap, Z, e, hI⟩ := open_u8 (by simpa [Value.cells] using hf)
    simp at e
    obtain ⟨rfl, rfl, rfl⟩ := e
    exact ⟨Z, hI⟩
  clear hA0 hval0
  refine (past_walk W w0).mono fun e W' ⟨he, bel⟩ => ?_
  subst he
  exact ⟨_, rfl, _, _, _, [], _, [], hW', trodAll_mk1 (shut_bool Try.underlying4 _), (trodAll_cons_mk (Below.trod laidOut (by kernel_rfl) (of_decide_eq_true (by kernel_rfl)) k0 bel lt0) trodAll_mk0), rfl, bel.frame _, fun h => by cases h⟩

theorem past_proved : Rows.FnPastStaysSaid :=
  OpenClaim.holds_of_wide 4 Try.f4 rfl rfl rfl rfl rfl rfl rfl ⟨rfl, rfl, rfl, rfl, rfl⟩ rfl rfl rfl rfl rfl (by kernel_rfl) Try.func4 (by kernel_rfl)
    (of_decide_eq_true (by kernel_rfl)) (by unfold Func.isWrapper; first | (rw [if_pos (by decide +kernel)]; kernel_rfl) | (rw [if_neg (by decide +kernel)]; exact ⟨rfl, rfl⟩))
    (fun os started H enc _ => past_lifted os started H enc)
#print axioms past_proved
end Go.Proofs.Ytglnnocfdlachaa
