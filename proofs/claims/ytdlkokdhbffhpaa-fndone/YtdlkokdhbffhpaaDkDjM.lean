/-
  The statement FnDoneSaid: at every code the law returns true, and the code reads afterwards as it read before. No condition.
-/
import Derived.Test.YtdlkokdhbffhpaaDkD9
import Derived.Test.YtdlkokdhbffhpaaDkOp
namespace Go.Proofs.Ytdlkokdhbffhpaa
open Go.ChangeShapes Go.WideShapes Go.ChangeAt Go.RowKit Go.Deep
set_option linter.unusedVariables false

set_option maxRecDepth 10000 in
set_option maxHeartbeats 8000000 in
theorem done_walk {a : Option Addr} {len cap : Nat} {Z : Nat → Int} (W : World) (hU : IsU8 W a len cap Z) :
    Calls Try.prog 6 #[.slice a len cap] W fun e w' => e = .returned (.bool true) ∧ Below W.heap.size W w' := by
  have HU : Hid (IsU8 W a len cap Z) := hU
  clear hU
  go_enter Try.func6, Try.ntmps6
  go_wp2_with fail
  refine (big_any a len cap W).mono ?_
  rintro e w' ⟨rfl, hw⟩
  obtain rfl := hw.symm
  by_cases hbig : (1048576 : Int) < (len : Int)
  · have hbb : decide ((1048576 : Int) < (len : Int)) = true := decide_eq_true hbig
    go_wp2
    go_ret
    exact ⟨rfl, Below.refl _ _⟩
  have hbb : decide ((1048576 : Int) < (len : Int)) = false := decide_eq_false hbig
  have HLEN : Hid (len ≤ 1048576) := by show _ ≤ _; omega
  go_wp2_with fail
  refine (drawDo_any W HU.out HLEN.out).mono ?_
  rintro e w0 ⟨x, y, z, L, S, O, o, rfl, hr, hnz, hz, hl, hso, hB0⟩
  have HZ : Hid (SmallD L S O) := hz
  have HN : Hid (L.length ≤ 1048576 ∧ S.length ≤ 1048576 ∧ O.length ≤ 1048576) := ⟨by omega, by omega, by omega⟩
  have HSO : Hid (o.n.size ≤ 100000000 ∧ o.t.size ≤ 100000000 ∧ o.d.size ≤ 100000000) := ⟨by omega, by omega, by omega⟩
  obtain ⟨b1, d1, b2, d2, b3, d3, ex, ey, ez⟩ := hr.slices
  obtain ⟨m1, hm1⟩ : ∃ m, m = L.length := ⟨_, rfl⟩
  obtain ⟨m2, hm2⟩ : ∃ m, m = S.length := ⟨_, rfl⟩
  obtain ⟨m3, hm3⟩ : ∃ m, m = O.length := ⟨_, rfl⟩
  have hm3b : m3 ≤ 1000 := by omega
  rw [← hm1] at ex
  rw [← hm2] at ey
  rw [← hm3] at ez
  subst ex ey ez
  have HM : Hid (m1 = L.length ∧ m2 = S.length ∧ m3 = O.length) := ⟨hm1, hm2, hm3⟩
  have HNZ : Hid (Value.slice b3 m3 d3 = .slice none 0 0 ∨ ∃ ad n c, Value.slice b3 m3 d3 = .slice (some ad) n c) := hnz
  obtain ⟨X, hX⟩ : ∃ X, X = (w0.alloc (.cells #[.slice b1 m1 d1, .slice b2 m2 d2, .slice b3 m3 d3] 30)).alloc (.cells #[.int .i64 o.k, .string o.n, .string o.t, .string o.d] 41) := ⟨_, rfl⟩
  have HX := (show Hid _ from hX)
  have hBX0 : Below w0.heap.size w0 X := by rw [hX]; exact ((Below.refl _ _).alloc (Nat.le_refl _) _).alloc (by simp) _
  have HBX : Hid (Below W.heap.size W X) := hB0.trans (hBX0.mono hB0.size)
  have hTX : At3 X w0.heap.size 30 (.slice b1 m1 d1) (.slice b2 m2 d2) (.slice b3 m3 d3) := by show _ = _; rw [hX, Below.heap_alloc _ _ _ (by simp)]; exact heap_alloc_new _ _
  have hOX : X.heap[w0.heap.size + 1]? = some (.cells #[.int .i64 o.k, .string o.n, .string o.t, .string o.d] 41 (0, 0)) := by
    rw [hX]
    have := heap_alloc_new (w0.alloc (.cells #[.slice b1 m1 d1, .slice b2 m2 d2, .slice b3 m3 d3] 30)) (.cells #[.int .i64 o.k, .string o.n, .string o.t, .string o.d] 41)
    simpa using this
  have HR : Hid (∀ wy, Below X.heap.size X wy → RdD wy (.slice b1 m1 d1) (.slice b2 m2 d2) (.slice b3 m3 d3) L S O ∧ At3 wy w0.heap.size 30 (.slice b1 m1 d1) (.slice b2 m2 d2) (.slice b3 m3 d3) ∧ wy.heap[w0.heap.size + 1]? = some (.cells #[.int .i64 o.k, .string o.n, .string o.t, .string o.d] 41 (0, 0)) ∧ Below W.heap.size W wy) := fun wy hy => ⟨(hr.below hBX0).below hy, hTX.below hy, (hy.block _ (lt_of_block hOX)).trans hOX, HBX.out.trans (hy.mono HBX.out.size)⟩
  have hR0 := HR.out X (Below.refl _ _)
  have c0 := hR0.2.1.c0
  have c1 := hR0.2.1.c1
  have c2 := hR0.2.1.c2
  have k0 : X.cell? ⟨w0.heap.size + 1, 0, none⟩ = some (.int .i64 o.k) := cellN hR0.2.2.1
  have k1 : X.cell? ⟨w0.heap.size + 1, 1, none⟩ = some (.string o.n) := cellN hR0.2.2.1
  have k2 : X.cell? ⟨w0.heap.size + 1, 2, none⟩ = some (.string o.t) := cellN hR0.2.2.1
  have k3 : X.cell? ⟨w0.heap.size + 1, 3, none⟩ = some (.string o.d) := cellN hR0.2.2.1
  rw [hX] at c0 c1 c2 k0 k1 k2 k3
  clear hr hnz hz hl hso hB0 hm1 hm2 hm3 hBX0 hTX hOX hR0 hX HU
  -- a, c
  go_wp2_with fail
  rw [← HX.out]
  have hrd := HR.out X (Below.refl _ _)
  refine (implAct2_any _ _ _ L S O o X hrd.1 HNZ.out HZ.out HN.out HSO.out).mono ?_
  rintro e y1 ⟨p1, p2, p3, rfl, hp, _, hBy⟩
  obtain ⟨a1, f1, a2, f2, a3, f3, ex, ey, ez⟩ := hp.slices
  obtain ⟨C, hC⟩ : ∃ C, C = dC L S O o := ⟨_, rfl⟩
  have HC : Hid (C = dC L S O o) := hC
  rw [← hC]
  obtain ⟨n1, hn1⟩ : ∃ m, m = (dL L S O o).length := ⟨_, rfl⟩
  obtain ⟨n2, hn2⟩ : ∃ m, m = (dS L S O).length := ⟨_, rfl⟩
  obtain ⟨n3, hn3⟩ : ∃ m, m = (dO L S O o).length := ⟨_, rfl⟩
  rw [← hn1] at ex
  rw [← hn2] at ey
  rw [← hn3] at ez
  have HN3 : Hid (n3 = (dO L S O o).length) := hn3
  subst ex ey ez
  obtain ⟨Y1, hY1⟩ : ∃ Y, Y = y1.alloc (.cells #[.slice a1 n1 f1, .slice a2 n2 f2, .slice a3 n3 f3] 30) := ⟨_, rfl⟩
  have HY1 := (show Hid _ from hY1)
  have hb1 : Below y1.heap.size y1 Y1 := by rw [hY1]; exact (Below.refl _ _).alloc (Nat.le_refl _) _
  have HBY1 : Hid (Below X.heap.size X Y1) := hBy.trans (hb1.mono hBy.size)
  have HPA : Hid (∀ wy, Below Y1.heap.size Y1 wy → RdD wy (.slice a1 n1 f1) (.slice a2 n2 f2) (.slice a3 n3 f3) (dL L S O o) (dS L S O) (dO L S O o) ∧ At3 wy y1.heap.size 30 (.slice a1 n1 f1) (.slice a2 n2 f2) (.slice a3 n3 f3)) := fun wy hy => ⟨(hp.below hb1).below hy, (show At3 Y1 y1.heap.size 30 _ _ _ by rw [hY1]; exact At3.new _ _ _ _ _).below hy⟩
  clear hrd hp hBy hC hn1 hn2 hn3 hb1 c0 c1 c2 k0 k1 k2 k3
  have hR0 := HR.out Y1 HBY1.out
  have c0 := hR0.2.1.c0
  have c1 := hR0.2.1.c1
  have c2 := hR0.2.1.c2
  have k0 : Y1.cell? ⟨w0.heap.size + 1, 0, none⟩ = some (.int .i64 o.k) := cellN hR0.2.2.1
  have k1 : Y1.cell? ⟨w0.heap.size + 1, 1, none⟩ = some (.string o.n) := cellN hR0.2.2.1
  have k2 : Y1.cell? ⟨w0.heap.size + 1, 2, none⟩ = some (.string o.t) := cellN hR0.2.2.1
  have k3 : Y1.cell? ⟨w0.heap.size + 1, 3, none⟩ = some (.string o.d) := cellN hR0.2.2.1
  rw [hY1] at c0 c1 c2 k0 k1 k2 k3
  clear hR0 hY1 HX
  -- said
  go_wp2_with fail
  rw [← HY1.out]
  have hrd := HR.out Y1 HBY1.out
  refine (specDo_any _ _ _ L S O o Y1 hrd.1 HZ.out HN.out HSO.out).mono ?_
  rintro e y2 ⟨p1, p2, p3, rfl, hp, hBy⟩
  rw [← HC.out]
  obtain ⟨g1, h1, g2, h2, g3, h3, ex, ey, ez⟩ := hp.slices
  obtain ⟨q1, hq1⟩ : ∃ m, m = (dL L S O o).length := ⟨_, rfl⟩
  obtain ⟨q2, hq2⟩ : ∃ m, m = (dS L S O).length := ⟨_, rfl⟩
  obtain ⟨q3, hq3⟩ : ∃ m, m = (dO L S O o).length := ⟨_, rfl⟩
  rw [← hq1] at ex
  rw [← hq2] at ey
  rw [← hq3] at ez
  subst ex ey ez
  obtain ⟨Y2, hY2⟩ : ∃ Y, Y = y2.alloc (.cells #[.slice g1 q1 h1, .slice g2 q2 h2, .slice g3 q3 h3] 30) := ⟨_, rfl⟩
  have HY2 := (show Hid _ from hY2)
  have hb2 : Below y2.heap.size y2 Y2 := by rw [hY2]; exact (Below.refl _ _).alloc (Nat.le_refl _) _
  have HB12 : Hid (Below Y1.heap.size Y1 Y2) := hBy.trans (hb2.mono hBy.size)
  have HBY2 : Hid (Below X.heap.size X Y2) := HBY1.out.trans (HB12.out.mono HBY1.out.size)
  clear hrd hp hBy hq1 hq2 hq3 hb2 c0 c1 c2 k0 k1 k2 k3 HY1
  have hCC : ((C : Int) != (C : Int)) = false := by simp
  have hCE : ((C : Int) == (C : Int)) = true := by simp
  have hR0 := HR.out Y2 HBY2.out
  have c0 := hR0.2.1.c0
  have c1 := hR0.2.1.c1
  have c2 := hR0.2.1.c2
  rw [hY2] at c0 c1 c2
  clear hR0 hY2
  go_wp2_with fail
  rw [← HY2.out]
  have hrd := (HR.out Y2 HBY2.out).1
  refine (specDisk_any _ _ _ L S O Y2 hrd.1 hrd.2.1 hrd.2.2 HZ.out).mono ?_
  rintro e y3 ⟨rfl, hB3⟩
  have HBY3 : Hid (Below X.heap.size X y3) := HBY2.out.trans (hB3.mono HBY2.out.size)
  have HB13 : Hid (Below Y1.heap.size Y1 y3) := HB12.out.trans (hB3.mono HB12.out.size)
  clear hrd hB3 c0 c1 c2 HY2
  -- what is known at each world from here on
  have HK : Hid (∀ wy, Below y3.heap.size y3 wy → RdD wy (.slice b1 m1 d1) (.slice b2 m2 d2) (.slice b3 m3 d3) L S O ∧ RdD wy (.slice a1 n1 f1) (.slice a2 n2 f2) (.slice a3 n3 f3) (dL L S O o) (dS L S O) (dO L S O o) ∧ At3 wy w0.heap.size 30 (.slice b1 m1 d1) (.slice b2 m2 d2) (.slice b3 m3 d3) ∧ At3 wy y1.heap.size 30 (.slice a1 n1 f1) (.slice a2 n2 f2) (.slice a3 n3 f3) ∧ wy.heap[w0.heap.size + 1]? = some (.cells #[.int .i64 o.k, .string o.n, .string o.t, .string o.d] 41 (0, 0)) ∧ Below W.heap.size W wy) := fun wy hy => by
    have hx := HR.out wy (HBY3.out.trans (hy.mono HBY3.out.size))
    have ha := HPA.out wy (HB13.out.trans (hy.mono HB13.out.size))
    exact ⟨hx.1, ha.1, hx.2.1, ha.2, hx.2.2.1, hx.2.2.2⟩
  clear HR HPA HBY1 HBY2 HBY3 HB12 HB13
  cases hd : diskB L S O with
  | false =>
    go_wp2
    go_ret
    exact ⟨rfl, (HK.out y3 (Below.refl _ _)).2.2.2.2.2⟩
  | true =>
    have HDB : Hid (diskB L S O = true) := hd
    clear hd
    by_cases hc : C = 0
    · have hcb : ((C : Int) != 0) = false := by rw [hc]; rfl
      have HC0 : Hid (dC L S O o = 0) := HC.out.symm.trans hc
      have HDN : Hid (diskB (dL L S O o) (dS L S O) (dO L S O o) = true) := disk_do HDB.out HC0.out
      have HSMN : Hid (SmallD (dL L S O o) (dS L S O) (dO L S O o)) := (small_disk HDN.out).1
      have HDD := (show Hid _ from done_dL HDB.out HC0.out)
      have hn3 : n3 = m3 + 1 := by rw [HN3.out, HDD.out.2.2.1, HM.out.2.2, List.length_append]; rfl
      subst hn3
      clear hc
      have hK := HK.out y3 (Below.refl _ _)
      have c0 := hK.2.2.1.c0
      have c1 := hK.2.2.1.c1
      have c2 := hK.2.2.1.c2
      have q0 := hK.2.2.2.1.c0
      have q1 := hK.2.2.2.1.c1
      have q2 := hK.2.2.2.1.c2
      have k0 : y3.cell? ⟨w0.heap.size + 1, 0, none⟩ = some (.int .i64 o.k) := cellN hK.2.2.2.2.1
      have k1 : y3.cell? ⟨w0.heap.size + 1, 1, none⟩ = some (.string o.n) := cellN hK.2.2.2.2.1
      have k2 : y3.cell? ⟨w0.heap.size + 1, 2, none⟩ = some (.string o.t) := cellN hK.2.2.2.2.1
      have k3 : y3.cell? ⟨w0.heap.size + 1, 3, none⟩ = some (.string o.d) := cellN hK.2.2.2.2.1
      clear hK
      go_wp2_with fail
      have hK := HK.out y3 (Below.refl _ _)
      refine (implRead_any _ _ _ (dL L S O o) (dS L S O) (dO L S O o) o.n y3 hK.2.1.1 hK.2.1.2.1 hK.2.1.2.2 HSMN.out).mono ?_
      rintro e z1 ⟨rfl, hq⟩
      have HZ1 : Hid (Below y3.heap.size y3 z1) := hq
      obtain ⟨s1, hs1⟩ : ∃ s1, s1 = rdB (dL L S O o) (dS L S O) (dO L S O o) o.n := ⟨_, rfl⟩
      obtain ⟨th, hth⟩ : ∃ th, th = rdOk (dL L S O o) (dS L S O) (dO L S O o) o.n := ⟨_, rfl⟩
      rw [← hs1, ← hth]
      rw [(rd_of HDN.out o.n).1] at hs1
      rw [(rd_of HDN.out o.n).2] at hth
      have HS1 : Hid (s1 = readF (dL L S O o) o.n ∧ th = (getF (dL L S O o) o.n).isSome) := ⟨hs1, hth⟩
      clear hK c0 c1 c2 q0 q1 q2 k0 k1 k2 k3 hq hs1 hth
      have hK := HK.out z1 HZ1.out
      have c0 := hK.2.2.1.c0
      have c1 := hK.2.2.1.c1
      have c2 := hK.2.2.1.c2
      have q0 := hK.2.2.2.1.c0
      have q1 := hK.2.2.2.1.c1
      have q2 := hK.2.2.2.1.c2
      have k0 : z1.cell? ⟨w0.heap.size + 1, 0, none⟩ = some (.int .i64 o.k) := cellN hK.2.2.2.2.1
      have k1 : z1.cell? ⟨w0.heap.size + 1, 1, none⟩ = some (.string o.n) := cellN hK.2.2.2.2.1
      have k2 : z1.cell? ⟨w0.heap.size + 1, 2, none⟩ = some (.string o.t) := cellN hK.2.2.2.2.1
      have k3 : z1.cell? ⟨w0.heap.size + 1, 3, none⟩ = some (.string o.d) := cellN hK.2.2.2.2.1
      clear hK
      go_wp2_with fail
      have hK := HK.out z1 HZ1.out
      refine (implRead_any _ _ _ L S O o.n z1 hK.1.1 hK.1.2.1 hK.1.2.2 HZ.out).mono ?_
      rintro e z2 ⟨rfl, hq⟩
      have HZ2 : Hid (Below y3.heap.size y3 z2) := HZ1.out.trans (hq.mono HZ1.out.size)
      obtain ⟨old, hold⟩ : ∃ old, old = rdB L S O o.n := ⟨_, rfl⟩
      obtain ⟨oth, hoth⟩ : ∃ oth, oth = rdOk L S O o.n := ⟨_, rfl⟩
      rw [← hold, ← hoth]
      rw [(rd_of HDB.out o.n).1] at hold
      have HOLD : Hid (old = readF L o.n) := hold
      clear hK c0 c1 c2 q0 q1 q2 k0 k1 k2 k3 hq hold hoth
      have hkk := form_kind HDD.out.2.2.2.1
      rcases hkk with hk | hk | hk
      · have g := done_app HDB.out HC0.out hk
        have hth : th = true := by rw [HS1.out.2, g]; rfl
        have hs1 : s1 = old ++ o.d := by rw [HS1.out.1, HOLD.out]; unfold readF; rw [g]; rfl
        have hkb : (o.k == 1) = true := by rw [hk]; rfl
        have hsz1 : old.size + o.d.size ≤ 200000 := by
          have hf := getF_mem g
          obtain ⟨f, hf1, hf2⟩ := hf
          have h1 := tot_mem hf1
          have h2 := (filesB_parts (disk_live HDN.out).1).2.1
          rw [hf2, ← HOLD.out] at h1
          rw [ByteArray.size_append] at h1
          omega
        have hszI : old.size + o.d.size ≤ 9223372036854775807 := by omega
        have hszJ : (old.size : Int) + (o.d.size : Int) ≤ 9223372036854775807 := by omega
        subst hth hs1
        clear g hk
        have hK := HK.out z2 HZ2.out
        have c0 := hK.2.2.1.c0
        have c1 := hK.2.2.1.c1
        have c2 := hK.2.2.1.c2
        have q0 := hK.2.2.2.1.c0
        have q1 := hK.2.2.2.1.c1
        have q2 := hK.2.2.2.1.c2
        have k0 : z2.cell? ⟨w0.heap.size + 1, 0, none⟩ = some (.int .i64 o.k) := cellN hK.2.2.2.2.1
        have k1 : z2.cell? ⟨w0.heap.size + 1, 1, none⟩ = some (.string o.n) := cellN hK.2.2.2.2.1
        have k2 : z2.cell? ⟨w0.heap.size + 1, 2, none⟩ = some (.string o.t) := cellN hK.2.2.2.2.1
        have k3 : z2.cell? ⟨w0.heap.size + 1, 3, none⟩ = some (.string o.d) := cellN hK.2.2.2.2.1
        clear hK
        go_wp2_with fail
        have hK := HK.out z2 HZ2.out
        refine (implDisk_any _ _ _ (dL L S O o) (dS L S O) (dO L S O o) z2 hK.2.1.1 hK.2.1.2.1 hK.2.1.2.2 HSMN.out).mono ?_
        rintro e v1 ⟨rfl, hq⟩
        rw [HDN.out]
        have HV1 : Hid (Below y3.heap.size y3 v1) := HZ2.out.trans (hq.mono HZ2.out.size)
        clear hK c0 c1 c2 q0 q1 q2 k0 k1 k2 k3 hq
        have hK := HK.out v1 HV1.out
        have c0 := hK.2.2.1.c0
        have c1 := hK.2.2.1.c1
        have c2 := hK.2.2.1.c2
        have q0 := hK.2.2.2.1.c0
        have q1 := hK.2.2.2.1.c1
        have q2 := hK.2.2.2.1.c2
        have k0 : v1.cell? ⟨w0.heap.size + 1, 0, none⟩ = some (.int .i64 o.k) := cellN hK.2.2.2.2.1
        have k1 : v1.cell? ⟨w0.heap.size + 1, 1, none⟩ = some (.string o.n) := cellN hK.2.2.2.2.1
        have k2 : v1.cell? ⟨w0.heap.size + 1, 2, none⟩ = some (.string o.t) := cellN hK.2.2.2.2.1
        have k3 : v1.cell? ⟨w0.heap.size + 1, 3, none⟩ = some (.string o.d) := cellN hK.2.2.2.2.1
        clear hK
        go_wp2_with fail
        have hK := HK.out v1 HV1.out
        rw [HDD.out.2.1] at hK
        refine (sameFiles_any _ _ S S v1 hK.2.1.2.1 hK.1.2.1).mono ?_
        rintro e v2 ⟨rfl, hq⟩
        rw [sameF_refl]
        have HV2 : Hid (Below y3.heap.size y3 v2) := HV1.out.trans (hq.mono HV1.out.size)
        clear hK c0 c1 c2 q0 q1 q2 k0 k1 k2 k3 hq
        have hK := HK.out v2 HV2.out
        have c0 := hK.2.2.1.c0
        have c1 := hK.2.2.1.c1
        have c2 := hK.2.2.1.c2
        have q0 := hK.2.2.2.1.c0
        have q1 := hK.2.2.2.1.c1
        have q2 := hK.2.2.2.1.c2
        have k0 : v2.cell? ⟨w0.heap.size + 1, 0, none⟩ = some (.int .i64 o.k) := cellN hK.2.2.2.2.1
        have k1 : v2.cell? ⟨w0.heap.size + 1, 1, none⟩ = some (.string o.n) := cellN hK.2.2.2.2.1
        have k2 : v2.cell? ⟨w0.heap.size + 1, 2, none⟩ = some (.string o.t) := cellN hK.2.2.2.2.1
        have k3 : v2.cell? ⟨w0.heap.size + 1, 3, none⟩ = some (.string o.d) := cellN hK.2.2.2.2.1
        have HEND : Hid (Below W.heap.size W v2) := hK.2.2.2.2.2
        clear hK
        go_wp2
        go_ret
        exact ⟨rfl, HEND.out⟩
      · have g := done_ren HDB.out HC0.out hk
        have hkb : (o.k == 1) = false := by rw [hk]; rfl
        have hkc : (o.k == 2) = true := by rw [hk]; rfl
        have hth : th = (o.t.toList == o.n.toList) := by rw [HS1.out.2, g.2]
        have HG : Hid (getF (dL L S O o) o.t = some (readF L o.n)) := g.1
        clear g hk
        have hK := HK.out z2 HZ2.out
        have c0 := hK.2.2.1.c0
        have c1 := hK.2.2.1.c1
        have c2 := hK.2.2.1.c2
        have q0 := hK.2.2.2.1.c0
        have q1 := hK.2.2.2.1.c1
        have q2 := hK.2.2.2.1.c2
        have k0 : z2.cell? ⟨w0.heap.size + 1, 0, none⟩ = some (.int .i64 o.k) := cellN hK.2.2.2.2.1
        have k1 : z2.cell? ⟨w0.heap.size + 1, 1, none⟩ = some (.string o.n) := cellN hK.2.2.2.2.1
        have k2 : z2.cell? ⟨w0.heap.size + 1, 2, none⟩ = some (.string o.t) := cellN hK.2.2.2.2.1
        have k3 : z2.cell? ⟨w0.heap.size + 1, 3, none⟩ = some (.string o.d) := cellN hK.2.2.2.2.1
        clear hK
        go_wp2_with fail
        have hK := HK.out z2 HZ2.out
        refine (implRead_any _ _ _ (dL L S O o) (dS L S O) (dO L S O o) o.t z2 hK.2.1.1 hK.2.1.2.1 hK.2.1.2.2 HSMN.out).mono ?_
        rintro e z3 ⟨rfl, hq⟩
        have HZ3 : Hid (Below y3.heap.size y3 z3) := HZ2.out.trans (hq.mono HZ2.out.size)
        rw [(rd_of HDN.out o.t).1, (rd_of HDN.out o.t).2, HG.out]
        have hxo : readF (dL L S O o) o.t = old := by rw [HOLD.out]; unfold readF; rw [HG.out]; rfl
        rw [hxo]
        have hso2 : (some (readF L o.n)).isSome = true := rfl
        rw [hso2]
        have hnq : (th != (o.t.toList == o.n.toList)) = false := by rw [hth]; cases (o.t.toList == o.n.toList) <;> rfl
        clear hK c0 c1 c2 q0 q1 q2 k0 k1 k2 k3 hq hxo hso2
        have hK := HK.out z3 HZ3.out
        have c0 := hK.2.2.1.c0
        have c1 := hK.2.2.1.c1
        have c2 := hK.2.2.1.c2
        have q0 := hK.2.2.2.1.c0
        have q1 := hK.2.2.2.1.c1
        have q2 := hK.2.2.2.1.c2
        have k0 : z3.cell? ⟨w0.heap.size + 1, 0, none⟩ = some (.int .i64 o.k) := cellN hK.2.2.2.2.1
        have k1 : z3.cell? ⟨w0.heap.size + 1, 1, none⟩ = some (.string o.n) := cellN hK.2.2.2.2.1
        have k2 : z3.cell? ⟨w0.heap.size + 1, 2, none⟩ = some (.string o.t) := cellN hK.2.2.2.2.1
        have k3 : z3.cell? ⟨w0.heap.size + 1, 3, none⟩ = some (.string o.d) := cellN hK.2.2.2.2.1
        clear hK
        go_wp2_with fail
        have hK := HK.out z3 HZ3.out
        refine (implDisk_any _ _ _ (dL L S O o) (dS L S O) (dO L S O o) z3 hK.2.1.1 hK.2.1.2.1 hK.2.1.2.2 HSMN.out).mono ?_
        rintro e v1 ⟨rfl, hq⟩
        rw [HDN.out]
        have HV1 : Hid (Below y3.heap.size y3 v1) := HZ3.out.trans (hq.mono HZ3.out.size)
        clear hK c0 c1 c2 q0 q1 q2 k0 k1 k2 k3 hq
        have hK := HK.out v1 HV1.out
        have c0 := hK.2.2.1.c0
        have c1 := hK.2.2.1.c1
        have c2 := hK.2.2.1.c2
        have q0 := hK.2.2.2.1.c0
        have q1 := hK.2.2.2.1.c1
        have q2 := hK.2.2.2.1.c2
        have k0 : v1.cell? ⟨w0.heap.size + 1, 0, none⟩ = some (.int .i64 o.k) := cellN hK.2.2.2.2.1
        have k1 : v1.cell? ⟨w0.heap.size + 1, 1, none⟩ = some (.string o.n) := cellN hK.2.2.2.2.1
        have k2 : v1.cell? ⟨w0.heap.size + 1, 2, none⟩ = some (.string o.t) := cellN hK.2.2.2.2.1
        have k3 : v1.cell? ⟨w0.heap.size + 1, 3, none⟩ = some (.string o.d) := cellN hK.2.2.2.2.1
        clear hK
        go_wp2_with fail
        have hK := HK.out v1 HV1.out
        rw [HDD.out.2.1] at hK
        refine (sameFiles_any _ _ S S v1 hK.2.1.2.1 hK.1.2.1).mono ?_
        rintro e v2 ⟨rfl, hq⟩
        rw [sameF_refl]
        have HV2 : Hid (Below y3.heap.size y3 v2) := HV1.out.trans (hq.mono HV1.out.size)
        clear hK c0 c1 c2 q0 q1 q2 k0 k1 k2 k3 hq
        have hK := HK.out v2 HV2.out
        have c0 := hK.2.2.1.c0
        have c1 := hK.2.2.1.c1
        have c2 := hK.2.2.1.c2
        have q0 := hK.2.2.2.1.c0
        have q1 := hK.2.2.2.1.c1
        have q2 := hK.2.2.2.1.c2
        have k0 : v2.cell? ⟨w0.heap.size + 1, 0, none⟩ = some (.int .i64 o.k) := cellN hK.2.2.2.2.1
        have k1 : v2.cell? ⟨w0.heap.size + 1, 1, none⟩ = some (.string o.n) := cellN hK.2.2.2.2.1
        have k2 : v2.cell? ⟨w0.heap.size + 1, 2, none⟩ = some (.string o.t) := cellN hK.2.2.2.2.1
        have k3 : v2.cell? ⟨w0.heap.size + 1, 3, none⟩ = some (.string o.d) := cellN hK.2.2.2.2.1
        have HEND : Hid (Below W.heap.size W v2) := hK.2.2.2.2.2
        clear hK
        go_wp2
        go_ret
        exact ⟨rfl, HEND.out⟩
      · have hkb : (o.k == 1) = false := by rw [hk]; rfl
        have hkc : (o.k == 2) = false := by rw [hk]; rfl
        have hkd : (o.k == 3) = true := by rw [hk]; rfl
        have hth : th = false := by rw [HS1.out.2, done_rem HDB.out HC0.out hk]
        subst hth
        clear hk
        have hK := HK.out z2 HZ2.out
        have c0 := hK.2.2.1.c0
        have c1 := hK.2.2.1.c1
        have c2 := hK.2.2.1.c2
        have q0 := hK.2.2.2.1.c0
        have q1 := hK.2.2.2.1.c1
        have q2 := hK.2.2.2.1.c2
        have k0 : z2.cell? ⟨w0.heap.size + 1, 0, none⟩ = some (.int .i64 o.k) := cellN hK.2.2.2.2.1
        have k1 : z2.cell? ⟨w0.heap.size + 1, 1, none⟩ = some (.string o.n) := cellN hK.2.2.2.2.1
        have k2 : z2.cell? ⟨w0.heap.size + 1, 2, none⟩ = some (.string o.t) := cellN hK.2.2.2.2.1
        have k3 : z2.cell? ⟨w0.heap.size + 1, 3, none⟩ = some (.string o.d) := cellN hK.2.2.2.2.1
        clear hK
        go_wp2_with fail
        have hK := HK.out z2 HZ2.out
        refine (implDisk_any _ _ _ (dL L S O o) (dS L S O) (dO L S O o) z2 hK.2.1.1 hK.2.1.2.1 hK.2.1.2.2 HSMN.out).mono ?_
        rintro e v1 ⟨rfl, hq⟩
        rw [HDN.out]
        have HV1 : Hid (Below y3.heap.size y3 v1) := HZ2.out.trans (hq.mono HZ2.out.size)
        clear hK c0 c1 c2 q0 q1 q2 k0 k1 k2 k3 hq
        have hK := HK.out v1 HV1.out
        have c0 := hK.2.2.1.c0
        have c1 := hK.2.2.1.c1
        have c2 := hK.2.2.1.c2
        have q0 := hK.2.2.2.1.c0
        have q1 := hK.2.2.2.1.c1
        have q2 := hK.2.2.2.1.c2
        have k0 : v1.cell? ⟨w0.heap.size + 1, 0, none⟩ = some (.int .i64 o.k) := cellN hK.2.2.2.2.1
        have k1 : v1.cell? ⟨w0.heap.size + 1, 1, none⟩ = some (.string o.n) := cellN hK.2.2.2.2.1
        have k2 : v1.cell? ⟨w0.heap.size + 1, 2, none⟩ = some (.string o.t) := cellN hK.2.2.2.2.1
        have k3 : v1.cell? ⟨w0.heap.size + 1, 3, none⟩ = some (.string o.d) := cellN hK.2.2.2.2.1
        clear hK
        go_wp2_with fail
        have hK := HK.out v1 HV1.out
        rw [HDD.out.2.1] at hK
        refine (sameFiles_any _ _ S S v1 hK.2.1.2.1 hK.1.2.1).mono ?_
        rintro e v2 ⟨rfl, hq⟩
        rw [sameF_refl]
        have HV2 : Hid (Below y3.heap.size y3 v2) := HV1.out.trans (hq.mono HV1.out.size)
        clear hK c0 c1 c2 q0 q1 q2 k0 k1 k2 k3 hq
        have hK := HK.out v2 HV2.out
        have c0 := hK.2.2.1.c0
        have c1 := hK.2.2.1.c1
        have c2 := hK.2.2.1.c2
        have q0 := hK.2.2.2.1.c0
        have q1 := hK.2.2.2.1.c1
        have q2 := hK.2.2.2.1.c2
        have k0 : v2.cell? ⟨w0.heap.size + 1, 0, none⟩ = some (.int .i64 o.k) := cellN hK.2.2.2.2.1
        have k1 : v2.cell? ⟨w0.heap.size + 1, 1, none⟩ = some (.string o.n) := cellN hK.2.2.2.2.1
        have k2 : v2.cell? ⟨w0.heap.size + 1, 2, none⟩ = some (.string o.t) := cellN hK.2.2.2.2.1
        have k3 : v2.cell? ⟨w0.heap.size + 1, 3, none⟩ = some (.string o.d) := cellN hK.2.2.2.2.1
        have HEND : Hid (Below W.heap.size W v2) := hK.2.2.2.2.2
        clear hK
        go_wp2
        go_ret
        exact ⟨rfl, HEND.out⟩
    · have hcb : ((C : Int) != 0) = true := by simp; omega
      have HSAME : Hid (dL L S O o = L ∧ dS L S O = S ∧ dO L S O o = O) := by
        obtain ⟨e0, e1, e2, e3⟩ := d_yes o HDB.out
        have hx := act_no (o := o) (e0.symm.trans HC.out.symm) hc
        exact ⟨e1.trans hx.1, e2, e3.trans hx.2⟩
      have hn3 : n3 = m3 := by rw [HN3.out, HSAME.out.2.2, HM.out.2.2]
      subst hn3
      have hK := HK.out y3 (Below.refl _ _)
      have c0 := hK.2.2.1.c0
      have c1 := hK.2.2.1.c1
      have c2 := hK.2.2.1.c2
      have q0 := hK.2.2.2.1.c0
      have q1 := hK.2.2.2.1.c1
      have q2 := hK.2.2.2.1.c2
      have k0 : y3.cell? ⟨w0.heap.size + 1, 0, none⟩ = some (.int .i64 o.k) := cellN hK.2.2.2.2.1
      have k1 : y3.cell? ⟨w0.heap.size + 1, 1, none⟩ = some (.string o.n) := cellN hK.2.2.2.2.1
      have k2 : y3.cell? ⟨w0.heap.size + 1, 2, none⟩ = some (.string o.t) := cellN hK.2.2.2.2.1
      have k3 : y3.cell? ⟨w0.heap.size + 1, 3, none⟩ = some (.string o.d) := cellN hK.2.2.2.2.1
      clear hK
      go_wp2_with fail
      have hK := HK.out y3 (Below.refl _ _)
      rw [HSAME.out.1, HSAME.out.2.1] at hK
      refine (sameFiles_any _ _ L L y3 hK.2.1.1 hK.1.1).mono ?_
      rintro e z1 ⟨rfl, hq⟩
      rw [sameF_refl]
      have HZ1 : Hid (Below y3.heap.size y3 z1) := hq
      clear hK c0 c1 c2 q0 q1 q2 k0 k1 k2 k3 hq
      have hK := HK.out z1 HZ1.out
      have c0 := hK.2.2.1.c0
      have c1 := hK.2.2.1.c1
      have c2 := hK.2.2.1.c2
      have q0 := hK.2.2.2.1.c0
      have q1 := hK.2.2.2.1.c1
      have q2 := hK.2.2.2.1.c2
      have k0 : z1.cell? ⟨w0.heap.size + 1, 0, none⟩ = some (.int .i64 o.k) := cellN hK.2.2.2.2.1
      have k1 : z1.cell? ⟨w0.heap.size + 1, 1, none⟩ = some (.string o.n) := cellN hK.2.2.2.2.1
      have k2 : z1.cell? ⟨w0.heap.size + 1, 2, none⟩ = some (.string o.t) := cellN hK.2.2.2.2.1
      have k3 : z1.cell? ⟨w0.heap.size + 1, 3, none⟩ = some (.string o.d) := cellN hK.2.2.2.2.1
      clear hK
      go_wp2_with fail
      have hK := HK.out z1 HZ1.out
      rw [HSAME.out.1, HSAME.out.2.1] at hK
      refine (sameFiles_any _ _ S S z1 hK.2.1.2.1 hK.1.2.1).mono ?_
      rintro e z2 ⟨rfl, hq⟩
      rw [sameF_refl]
      have HZ2 : Hid (Below y3.heap.size y3 z2) := HZ1.out.trans (hq.mono HZ1.out.size)
      clear hK c0 c1 c2 q0 q1 q2 k0 k1 k2 k3 hq
      have hK := HK.out z2 HZ2.out
      have c0 := hK.2.2.1.c0
      have c1 := hK.2.2.1.c1
      have c2 := hK.2.2.1.c2
      have q0 := hK.2.2.2.1.c0
      have q1 := hK.2.2.2.1.c1
      have q2 := hK.2.2.2.1.c2
      have k0 : z2.cell? ⟨w0.heap.size + 1, 0, none⟩ = some (.int .i64 o.k) := cellN hK.2.2.2.2.1
      have k1 : z2.cell? ⟨w0.heap.size + 1, 1, none⟩ = some (.string o.n) := cellN hK.2.2.2.2.1
      have k2 : z2.cell? ⟨w0.heap.size + 1, 2, none⟩ = some (.string o.t) := cellN hK.2.2.2.2.1
      have k3 : z2.cell? ⟨w0.heap.size + 1, 3, none⟩ = some (.string o.d) := cellN hK.2.2.2.2.1
      have HEND : Hid (Below W.heap.size W z2) := hK.2.2.2.2.2
      clear hK
      go_wp2
      go_ret
      exact ⟨rfl, HEND.out⟩

theorem cellsU8 : Try.prog.cellsOf 5 = 1 := by kernel_rfl

/-- a slice of bytes that came in reads as bytes -/
theorem open_u8 {H : Type} {enc : TypeId × Value → H} {W : World} {n : Nat} {v : Value} {x : DataW H × List MemPlace} (h : DataW.trod enc Try.prog W 0 (fun _ => true) true n 51 [v] = some x) :
    ∃ a len cap Z, v = .slice a len cap ∧ IsU8 W a len cap Z := by
  rcases open_ints Try.underlying51 Try.underlying5 cellsU8 h with ⟨hcs, _⟩ | ⟨a, l, c, zs, hcs, _, hl, hm, hz, _, hcell, hwz⟩
  · simp at hcs
    exact ⟨none, 0, 0, fun _ => 0, hcs, Nat.le_refl _, by omega, fun _ => by simp, fun h => absurd h (by omega)⟩
  · simp at hcs
    have hrg : ∀ i, 0 ≤ zs.getD i 0 ∧ zs.getD i 0 ≤ 255 := by
      intro i
      by_cases hi : i < zs.length
      · have hw := hwz (zs.getD i 0) (by simp [List.getD, List.getElem?_eq_getElem hi])
        simpa [Lit.wf, IntKind.min, IntKind.max, IntKind.signed, IntKind.bits] using hw
      · rw [List.getD, List.getElem?_eq_none (by omega)]
        simp
    refine ⟨some a, l, c, fun i => zs.getD i 0, hcs, hl, by unfold maxLen at hm; omega, hrg, fun hp => ?_⟩
    obtain ⟨b, off, spot⟩ := a
    have hc0 := hcell 0 (by simp at hz; omega)
    have hspot : spot = none := by simpa [Addr.add] using World.cell?_spot hc0
    subst hspot
    refine ⟨b, off, rfl, ?_, fun i hi => ?_⟩
    · rcases Nat.lt_or_ge b W.heap.size with h' | h'
      · exact h'
      · simp [Addr.add, World.cell?, Array.getElem?_eq_none h'] at hc0
    · have := hcell i (by simp at hz; omega)
      rw [add_plain] at this
      exact this


set_option maxRecDepth 100000 in
theorem done_lifted (os : Os) (started : os.Started) (H : Type) (enc : TypeId × Value → H) :
    ReturnsInHanded {} Try.checked os 6 .any (Rows.fnDoneSpec.pre6 enc Try.prog Try.f6 Rows.fnDoneRow.domain false) (Rows.fnDoneSpec.post enc Try.prog Try.f6 false true false false) := by
  refine returnsInHanded_of_change (C := Try.checked) own started (by kernel_rfl) Try.func6
    (ChangeSpec.witness6 (enc := enc) (C := Try.checked) false ⟨#[], #[.slice none 0 0], []⟩ 8 (by kernel_rfl) (by kernel_rfl) (by kernel_rfl) (by kernel_rfl)) ?_
  intro W base args ds gs before hval0 hW hcnd _
  have hval : ∀ (j : Nat) t v, Try.f6.params[j]? = some t → args[j]? = some v → Value.okWide Try.prog W .any base t v := hval0
  have hW' := hW
  obtain ⟨p, q, hA0, hV, rfl, hfz, hnd⟩ := hW
  have hA : DataW.TrodAll enc Try.prog W 0 (fun _ => true) true Try.f6.params.toList args.toList ds p := hA0
  rw [Try.params6] at hA hval
  obtain ⟨v0, vs0, d0, ds0, p0, q0, hargs, rfl, rfl, h0, r0⟩ := trodAll_cons hA
  obtain ⟨rfl, rfl, rfl⟩ := trodAll_nil r0
  obtain rfl : args = #[v0] := by cases args; simp_all
  obtain ⟨rfl, rfl⟩ := trodVars_none hV
  obtain ⟨a0, len0, cap0, rfl⟩ := okWide_slice Try.underlying51 (hval 0 51 v0 rfl rfl)
  have k0 := h0
  have lt0 : ∀ x ∈ p0, x.block < W.heap.size := by obtain ⟨m, hm⟩ := k0; exact DataW.trod_lt m _ _ _ hm
  obtain ⟨Z, w0⟩ : ∃ Z, IsU8 W a0 len0 cap0 Z := by
    obtain ⟨fuel, hf⟩ := h0
    obtain ⟨a, len, cap, Z, e, hI⟩ := open_u8 (by simpa [Value.cells] using hf)
    simp at e
    obtain ⟨rfl, rfl, rfl⟩ := e
    exact ⟨Z, hI⟩
  clear hA0 hval0
  refine (done_walk W w0).mono fun e W' ⟨he, bel⟩ => ?_
  subst he
  exact ⟨_, rfl, _, _, _, [], _, [], hW', trodAll_mk1 (shut_bool Try.underlying4 _), (trodAll_cons_mk (Below.trod laidOut (by kernel_rfl) (of_decide_eq_true (by kernel_rfl)) k0 bel lt0) trodAll_mk0), rfl, bel.frame _, fun h => by cases h⟩

theorem done_proved : Rows.FnDoneSaid :=
  OpenClaim.holds_of_wide 6 Try.f6 rfl rfl rfl rfl rfl rfl rfl ⟨rfl, rfl, rfl, rfl, rfl⟩ rfl rfl rfl rfl rfl (by kernel_rfl) Try.func6 (by kernel_rfl)
    (of_decide_eq_true (by kernel_rfl)) (by unfold Func.isWrapper; first | (rw [if_pos (by decide +kernel)]; kernel_rfl) | (rw [if_neg (by decide +kernel)]; exact ⟨rfl, rfl⟩))
    (fun os started H enc _ => done_lifted os started H enc)
#print axioms done_proved
end Go.Proofs.Ytdlkokdhbffhpaa
