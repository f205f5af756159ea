/-
  The statement FnCrashedSaid: at every code the law returns true, and the code reads afterwards as it read before. No condition.
-/
import Derived.Test.YtdlkokdhbffhpaaDkDz
import Derived.Test.YtdlkokdhbffhpaaDkOp
namespace Go.Proofs.Ytdlkokdhbffhpaa
open Go.ChangeShapes Go.WideShapes Go.ChangeAt Go.RowKit Go.Deep
set_option linter.unusedVariables false

theorem RdI.nil (w : World) : RdI w (.slice none 0 0) [] := ⟨none, 0, rfl, Nat.le_refl _, by omega, fun h => absurd h (Nat.lt_irrefl _)⟩

set_option maxRecDepth 10000 in
set_option maxHeartbeats 8000000 in
theorem crashed_walk {a : Option Addr} {len cap : Nat} {Z : Nat → Int} (W : World) (hU : IsU8 W a len cap Z) :
    Calls Try.prog 7 #[.slice a len cap] W fun e w' => e = .returned (.bool true) ∧ Below W.heap.size W w' := by
  have HU : Hid (IsU8 W a len cap Z) := hU
  clear hU
  go_enter Try.func7, Try.ntmps7
  go_wp2_with fail
  refine (big_any a len cap W).mono ?_
  rintro e w' ⟨rfl, hw⟩
  obtain rfl := hw.symm
  by_cases hbig : (1048576 : Int) < (len : Int)
  · have hbb : decide ((1048576 : Int) < (len : Int)) = true := decide_eq_true hbig
    go_wp2
    go_ret
    exact ⟨rfl, Below.refl _ _⟩
  have hbb : decide ((1048576 : Int) < (len : Int)) = false := decide_eq_false hbig
  have HLEN : Hid (len ≤ 1048576) := by show _ ≤ _; omega
  go_wp2_with fail
  refine (drawDisk_any W HU.out HLEN.out).mono ?_
  rintro e w0 ⟨x, y, z, L, S, O, rfl, hr, hz, hl, hB0⟩
  have HZ : Hid (SmallD L S O) := hz
  have HN : Hid (L.length ≤ 1048576 ∧ S.length ≤ 1048576 ∧ O.length ≤ 1048576) := ⟨by omega, by omega, by omega⟩
  have HO1 : Hid (O.length ≤ 1000) := hl.2.2
  obtain ⟨b1, d1, b2, d2, b3, d3, ex, ey, ez⟩ := hr.slices
  obtain ⟨m1, hm1⟩ : ∃ m, m = L.length := ⟨_, rfl⟩
  obtain ⟨m2, hm2⟩ : ∃ m, m = S.length := ⟨_, rfl⟩
  obtain ⟨m3, hm3⟩ : ∃ m, m = O.length := ⟨_, rfl⟩
  rw [← hm1] at ex
  rw [← hm2] at ey
  rw [← hm3] at ez
  subst ex ey ez
  have HM : Hid (m1 = L.length ∧ m2 = S.length ∧ m3 = O.length) := ⟨hm1, hm2, hm3⟩
  have hm3b : m3 ≤ 1000 := by omega
  obtain ⟨X, hX⟩ : ∃ X, X = w0.alloc (.cells #[.slice b1 m1 d1, .slice b2 m2 d2, .slice b3 m3 d3] 30) := ⟨_, rfl⟩
  have HX := (show Hid _ from hX)
  have hBX0 : Below w0.heap.size w0 X := by rw [hX]; exact (Below.refl _ _).alloc (Nat.le_refl _) _
  have HBX : Hid (Below W.heap.size W X) := hB0.trans (hBX0.mono hB0.size)
  have HR : Hid (∀ wy, Below X.heap.size X wy → RdD wy (.slice b1 m1 d1) (.slice b2 m2 d2) (.slice b3 m3 d3) L S O) := fun wy hy => (hr.below hBX0).below hy
  have HT : Hid (∀ wy, Below X.heap.size X wy → At3 wy w0.heap.size 30 (.slice b1 m1 d1) (.slice b2 m2 d2) (.slice b3 m3 d3)) := fun wy hy => (show At3 X w0.heap.size 30 _ _ _ by rw [hX]; exact At3.new _ _ _ _ _).below hy
  clear hr hz hl hB0 hm1 hm2 hm3 hBX0 hX
  go_wp2
  rw [← HX.out]
  have s0 : ∀ s : Later X, s.val.cell? ⟨w0.heap.size, 0, none⟩ = some (.slice b1 m1 d1) := fun s => (HT.out s.val s.ok).c0
  have s1 : ∀ s : Later X, s.val.cell? ⟨w0.heap.size, 1, none⟩ = some (.slice b2 m2 d2) := fun s => (HT.out s.val s.ok).c1
  have s2 : ∀ s : Later X, s.val.cell? ⟨w0.heap.size, 2, none⟩ = some (.slice b3 m3 d3) := fun s => (HT.out s.val s.ok).c2
  obtain ⟨db, hdb⟩ : ∃ db, db = diskB L S O := ⟨_, rfl⟩
  have HDB : Hid (db = diskB L S O) := hdb
  have HX1 : Hid (∀ t : Later X, Calls Try.prog 29 #[.agg #[.slice b1 m1 d1, .slice b2 m2 d2, .slice b3 m3 d3]] t.val fun e w' => e = .returned (.bool db) ∧ Below t.val.heap.size t.val w') := fun t => by
    have h := HR.out t.val t.ok
    rw [HDB.out]
    exact implDisk_any _ _ _ L S O t.val h.1 h.2.1 h.2.2 HZ.out
  have HX2 : Hid (∀ t : Later X, Calls Try.prog 26 #[.agg #[.slice b1 m1 d1, .slice b2 m2 d2, .slice b3 m3 d3]] t.val fun e w' => e = .returned (.bool db) ∧ Below t.val.heap.size t.val w') := fun t => by
    have h := HR.out t.val t.ok
    rw [HDB.out]
    exact specDisk_any _ _ _ L S O t.val h.1 h.2.1 h.2.2 HZ.out
  have hne := Later.any X
  have hdd : (db != db) = false := by cases db <;> rfl
  clear hdb
  refine wp_region_later (by kernel_rfl) (by kernel_rfl) ?_
  repeat (go_big_quiet_step (first | (rename_i t; with_reducible exact Calls.later (HX1.out t)) | (rename_i t; with_reducible exact Calls.later (HX2.out t))))
  refine wpQuiet_nil ?_
  rintro _ ⟨s5, rfl⟩
  have HB5 : Hid (Below X.heap.size X s5.val) := s5.ok
  obtain ⟨w6, hw6⟩ : ∃ w6, w6 = s5.val := ⟨_, rfl⟩
  rw [← hw6] at HB5 ⊢
  clear hw6 hne HX1 HX2 s0 s1 s2 s5 HX
  obtain ⟨i0, hi, hz0, hz1, hz2⟩ := info_parts infoI
  obtain ⟨X7, hX7⟩ : ∃ X7, X7 = w6.alloc (.cells #[] 2) := ⟨_, rfl⟩
  have HX7 := (show Hid _ from hX7)
  have HB67 : Hid (Below X.heap.size X X7) := by rw [hX7]; exact HB5.out.alloc HB5.out.size _
  have HOI : Hid (OwnI X7 X.heap.size (.slice (some ⟨w6.heap.size, 0, none⟩) 0 0) (iotaI 0)) := by
    rw [hX7]
    exact ⟨rfl, .inr ⟨w6.heap.size, 0, #[], rfl, HB5.out.size, heap_alloc_new _ _, Nat.le_refl _, Nat.zero_le _, rfl, rfl⟩⟩
  clear hX7
  go_wp2
  rw [← HX7.out]
  go_loopw [4, 5] (fun v i wr => ∃ (k : Nat) (u : Value), k ≤ m3 ∧ i = .int .i64 k ∧ u = v ∧ Hid (OwnI wr X.heap.size u (iotaI k) ∧ Below X.heap.size X wr)) (fun _ i _ => m3 - (intOf i).toNat)
  case atStart => exact ⟨0, _, Nat.zero_le _, rfl, rfl, HOI.out, HB67.out⟩
  case round =>
    obtain ⟨k, u, hk, rfl, rfl, HI⟩ := hrel
    have c2 := (HT.out wr HI.out.2).c2
    by_cases hlt : k < m3
    · have hltI : (k : Int) < (m3 : Int) := by omega
      have hBo : Below wr.heap.size wr (wr.alloc (.cells #[.int .i64 (k : Int)] 2)) := (Below.refl _ _).alloc (Nat.le_refl _) _
      have HOW : Hid ((wr.alloc (.cells #[.int .i64 (k : Int)] 2)).ownsRow X.heap.size 2 1 u k ((iotaI k).map (.int .i64 ·))) := by
        have := HI.out.1.below hBo
        unfold OwnI at this
        rw [iotaI_len] at this
        exact this
      have HNW : Hid (∀ j v, ([Value.int .i64 (k : Int)] : List Value)[j]? = some v → (wr.alloc (.cells #[.int .i64 (k : Int)] 2)).cell? ((⟨wr.heap.size, 0, none⟩ : Addr).add j) = some v) := by
        show ∀ j v, _
        have := World.news_of_block (heap_alloc_new wr (.cells #[.int .i64 (k : Int)] 2))
        simpa using this
      have HMX9 : Hid (k + 1 ≤ maxLen ∧ (k + 1) * 8 ≤ 140737488355328 ∧ X.heap.size ≤ (wr.alloc (.cells #[.int .i64 (k : Int)] 2)).heap.size) := ⟨by unfold maxLen; omega, by omega, by have := HI.out.2.size; simp; omega⟩
      have HFIN : Hid (∀ v7 w7, w7.ownsRow X.heap.size 2 1 v7 (k + 1) ((iotaI k).map (.int .i64 ·) ++ [.int .i64 (k : Int)]) → (wr.alloc (.cells #[.int .i64 (k : Int)] 2)).grownBy w7 u.ownBlock → OwnI w7 X.heap.size v7 (iotaI (k + 1)) ∧ Below X.heap.size X w7) := fun v7 w7 hown hgrow => by
        refine ⟨?_, ?_⟩
        · unfold OwnI
          rw [iotaI_snoc, List.map_append, List.length_append, iotaI_len]
          exact hown
        · have hb := HI.out.2.alloc HI.out.2.size (.cells #[.int .i64 (k : Int)] 2)
          exact hb.grown hgrow hb.size (fun x hx => (World.ownsRow.lt HI.out.1 x hx).1)
      clear hBo
      go_wp2_with (
        at_builtin
        refine wpList_append_own _ rfl _ _ 44 rfl X.heap.size 2 i0 (.int .i64 0) 1 8 Try.underlying44 hi hz0 hz1 hz2 rfl (by decide) u k _ rfl HOW.out ⟨wr.heap.size, 0, none⟩ 1 1 [.int .i64 (k : Int)] rfl rfl HNW.out (by simp [Value.oneCell']) HMX9.out.1 HMX9.out.2.1 HMX9.out.2.2 ?_
        intro v7 w7 hown7 hgrow7 hnil7
        have HE := (show Hid _ from HFIN.out v7 w7 hown7 hgrow7)
        clear hown7 hgrow7 hnil7)
      exact ⟨⟨k + 1, _, by omega, by simp, rfl, HE.out.1, HE.out.2⟩, by simp [intOf]; omega⟩
    · have hltI : ¬ (k : Int) < (m3 : Int) := by omega
      have hkm : k = m3 := by omega
      subst hkm
      have HALL : Hid (RdI wr u (iotaI O.length) ∧ (iotaI O.length).length ≤ 1048576) := ⟨by have := HI.out.1.rd; rw [HM.out.2.2] at this; exact this, by rw [iotaI_len]; exact HN.out.2.2⟩
      have HBW : Hid (Below X.heap.size X wr) := HI.out.2
      clear HI
      have c0 := (HT.out wr HBW.out).c0
      have c1 := (HT.out wr HBW.out).c1
      obtain ⟨au, cu, eu, _⟩ := HALL.out.1.shape
      obtain ⟨nu, hnu⟩ : ∃ n, n = (iotaI O.length).length := ⟨_, rfl⟩
      rw [← hnu] at eu
      subst eu
      clear hnu
      -- all are kept
      go_wp2_with fail
      refine (implCrash_any _ _ _ _ L S O (iotaI O.length) 1099511627776 wr (HR.out wr HBW.out) HALL.out.1 HZ.out HN.out HALL.out.2).mono ?_
      rintro e y1 ⟨p1, p2, p3, rfl, hp, _, hBy⟩
      obtain ⟨ap1, cp1, ap2, cp2, ap3, cp3, e1, e2, e3⟩ := hp.slices
      obtain ⟨RA, hRA⟩ : ∃ R, R = crR L S O (iotaI O.length) 1099511627776 := ⟨_, rfl⟩
      obtain ⟨ka, hka⟩ : ∃ b, b = crOk L S O (iotaI O.length) 1099511627776 := ⟨_, rfl⟩
      rw [← hRA] at hp e1 e2
      rw [← hka]
      have HRA : Hid (RA = crR L S O (iotaI O.length) 1099511627776 ∧ ka = crOk L S O (iotaI O.length) 1099511627776) := ⟨hRA, hka⟩
      obtain ⟨mA, hmA⟩ : ∃ m, m = RA.length := ⟨_, rfl⟩
      rw [← hmA] at e1 e2
      have HMA : Hid (mA = RA.length) := hmA
      subst e1 e2 e3
      obtain ⟨Y1, hY1⟩ : ∃ Y, Y = y1.alloc (.cells #[.slice ap1 mA cp1, .slice ap2 mA cp2, .slice ap3 0 cp3] 30) := ⟨_, rfl⟩
      have HY1 := (show Hid _ from hY1)
      have hb1 : Below y1.heap.size y1 Y1 := by rw [hY1]; exact (Below.refl _ _).alloc (Nat.le_refl _) _
      have HBY1 : Hid (Below X.heap.size X Y1) := (HBW.out.trans (hBy.mono HBW.out.size)).trans (hb1.mono (HBW.out.trans (hBy.mono HBW.out.size)).size)
      have HPA : Hid (∀ wy, Below Y1.heap.size Y1 wy → RdD wy (.slice ap1 mA cp1) (.slice ap2 mA cp2) (.slice ap3 0 cp3) RA RA [] ∧ At3 wy y1.heap.size 30 (.slice ap1 mA cp1) (.slice ap2 mA cp2) (.slice ap3 0 cp3)) := fun wy hy => ⟨(hp.below hb1).below hy, (show At3 Y1 y1.heap.size 30 _ _ _ by rw [hY1]; exact At3.new _ _ _ _ _).below hy⟩
      clear hp hBy hRA hka hmA hb1 c0 c1 c2 HALL
      have c0 := (HT.out Y1 HBY1.out).c0
      have c1 := (HT.out Y1 HBY1.out).c1
      have c2 := (HT.out Y1 HBY1.out).c2
      rw [hY1] at c0 c1 c2
      clear hY1
      -- none is
      go_wp2_with fail
      rw [← HY1.out]
      refine (implCrash_any _ _ _ _ L S O [] 0 Y1 (HR.out Y1 HBY1.out) (RdI.nil _) HZ.out HN.out (by simp)).mono ?_
      rintro e y2 ⟨p1, p2, p3, rfl, hp, _, hBy⟩
      obtain ⟨aq1, cq1, aq2, cq2, aq3, cq3, e1, e2, e3⟩ := hp.slices
      obtain ⟨RB, hRB⟩ : ∃ R, R = crR L S O [] 0 := ⟨_, rfl⟩
      obtain ⟨kb, hkb⟩ : ∃ b, b = crOk L S O [] 0 := ⟨_, rfl⟩
      rw [← hRB] at hp e1 e2
      rw [← hkb]
      have HRB : Hid (RB = crR L S O [] 0 ∧ kb = crOk L S O [] 0) := ⟨hRB, hkb⟩
      obtain ⟨mB, hmB⟩ : ∃ m, m = RB.length := ⟨_, rfl⟩
      rw [← hmB] at e1 e2
      subst e1 e2 e3
      obtain ⟨Y2, hY2⟩ : ∃ Y, Y = y2.alloc (.cells #[.slice aq1 mB cq1, .slice aq2 mB cq2, .slice aq3 0 cq3] 30) := ⟨_, rfl⟩
      have HY2 := (show Hid _ from hY2)
      have hb2 : Below y2.heap.size y2 Y2 := by rw [hY2]; exact (Below.refl _ _).alloc (Nat.le_refl _) _
      have HB12 : Hid (Below Y1.heap.size Y1 Y2) := hBy.trans (hb2.mono hBy.size)
      have HBY2 : Hid (Below X.heap.size X Y2) := HBY1.out.trans (HB12.out.mono HBY1.out.size)
      have HPB : Hid (∀ wy, Below Y2.heap.size Y2 wy → RdD wy (.slice aq1 mB cq1) (.slice aq2 mB cq2) (.slice aq3 0 cq3) RB RB [] ∧ At3 wy y2.heap.size 30 (.slice aq1 mB cq1) (.slice aq2 mB cq2) (.slice aq3 0 cq3)) := fun wy hy => ⟨(hp.below hb2).below hy, (show At3 Y2 y2.heap.size 30 _ _ _ by rw [hY2]; exact At3.new _ _ _ _ _).below hy⟩
      clear hp hBy hRB hkb hmB hb2 c0 c1 c2 HY1
      have c0 := (HT.out Y2 HBY2.out).c0
      have c1 := (HT.out Y2 HBY2.out).c1
      have c2 := (HT.out Y2 HBY2.out).c2
      rw [hY2] at c0 c1 c2
      clear hY2
      go_wp2_with fail
      rw [← HY2.out]
      have hrd := HR.out Y2 HBY2.out
      refine (implDisk_any _ _ _ L S O Y2 hrd.1 hrd.2.1 hrd.2.2 HZ.out).mono ?_
      rintro e y3 ⟨rfl, hB3⟩
      have HB23 : Hid (Below Y2.heap.size Y2 y3) := hB3
      have HBY3 : Hid (Below X.heap.size X y3) := HBY2.out.trans (hB3.mono HBY2.out.size)
      have HB13 : Hid (Below Y1.heap.size Y1 y3) := HB12.out.trans (hB3.mono HB12.out.size)
      clear hrd hB3 c0 c1 c2 HY2 HU
      cases hd : diskB L S O with
      | false =>
        have hka : ka = false := HRA.out.2.trans (crash_bad _ _ hd)
        have hkb : kb = false := HRB.out.2.trans (crash_bad _ _ hd)
        have hmA : mA = 0 := by rw [HMA.out, HRA.out.1, cr_no (crash_bad _ _ hd)]; rfl
        subst hka hkb hmA
        have r0 := (HPA.out y3 HB13.out).2.c0
        go_wp2
        go_ret
        exact ⟨rfl, HBX.out.trans (HBY3.out.mono HBX.out.size)⟩
      | true =>
        have hw := crash_whole (t := 1099511627776) hd (by omega)
        have hn := crash_noneOf hd
        have hka : ka = true := HRA.out.2.trans hw.1
        have hkb : kb = true := HRB.out.2.trans hn.1
        have HRA2 : Hid (RA = L) := HRA.out.1.trans hw.2
        have HRB2 : Hid (RB = S) := HRB.out.1.trans hn.2
        have HD : Hid (syL L S O = L) := by show _ = _; unfold syL; rw [hd]; rfl
        subst hka hkb
        clear hw hn hd
        have c0 := (HT.out y3 HBY3.out).c0
        have c1 := (HT.out y3 HBY3.out).c1
        have c2 := (HT.out y3 HBY3.out).c2
        go_wp2_with fail
        have hrd := HR.out y3 HBY3.out
        refine (implSync_any _ _ _ L S O y3 hrd.1 hrd.2.1 hrd.2.2 HZ.out HN.out.1).mono ?_
        rintro e y4 ⟨p1, p2, p3, rfl, hp, _, hBy⟩
        obtain ⟨as1, cs1, as2, cs2, as3, cs3, e1, e2, e3⟩ := hp.slices
        rw [HD.out] at hp e1 e2
        obtain ⟨mS, hmS⟩ : ∃ m, m = L.length := ⟨_, rfl⟩
        rw [← hmS] at e1 e2
        subst e1 e2 e3
        obtain ⟨Y4, hY4⟩ : ∃ Y, Y = y4.alloc (.cells #[.slice as1 mS cs1, .slice as2 mS cs2, .slice as3 0 cs3] 30) := ⟨_, rfl⟩
        have HY4 := (show Hid _ from hY4)
        have hb4 : Below y4.heap.size y4 Y4 := by rw [hY4]; exact (Below.refl _ _).alloc (Nat.le_refl _) _
        have HB34 : Hid (Below y3.heap.size y3 Y4) := hBy.trans (hb4.mono hBy.size)
        have HPS : Hid (∀ wy, Below Y4.heap.size Y4 wy → RdD wy (.slice as1 mS cs1) (.slice as2 mS cs2) (.slice as3 0 cs3) L L [] ∧ At3 wy y4.heap.size 30 (.slice as1 mS cs1) (.slice as2 mS cs2) (.slice as3 0 cs3)) := fun wy hy => ⟨(hp.below hb4).below hy, (show At3 Y4 y4.heap.size 30 _ _ _ by rw [hY4]; exact At3.new _ _ _ _ _).below hy⟩
        have HB14 : Hid (Below Y1.heap.size Y1 Y4) := HB13.out.trans (HB34.out.mono HB13.out.size)
        have HB24 : Hid (Below Y2.heap.size Y2 Y4) := HB23.out.trans (HB34.out.mono HB23.out.size)
        have HBX4 : Hid (Below X.heap.size X Y4) := HBY3.out.trans (HB34.out.mono HBY3.out.size)
        have HTA : Hid (∀ wy, Below Y4.heap.size Y4 wy → RdF wy (.slice b1 m1 d1) L ∧ RdF wy (.slice b2 m2 d2) S ∧ RdF wy (.slice ap1 mA cp1) L ∧ RdF wy (.slice ap2 mA cp2) L ∧ RdF wy (.slice aq1 mB cq1) S ∧ RdF wy (.slice as2 mS cs2) L ∧ At3 wy w0.heap.size 30 (.slice b1 m1 d1) (.slice b2 m2 d2) (.slice b3 k d3) ∧ At3 wy y1.heap.size 30 (.slice ap1 mA cp1) (.slice ap2 mA cp2) (.slice ap3 0 cp3) ∧ At3 wy y2.heap.size 30 (.slice aq1 mB cq1) (.slice aq2 mB cq2) (.slice aq3 0 cq3) ∧ At3 wy y4.heap.size 30 (.slice as1 mS cs1) (.slice as2 mS cs2) (.slice as3 0 cs3)) := fun wy hy => by
          have hx := HBX4.out.trans (hy.mono HBX4.out.size)
          have h1 := HPA.out wy (HB14.out.trans (hy.mono HB14.out.size))
          have h2 := HPB.out wy (HB24.out.trans (hy.mono HB24.out.size))
          have h3 := HPS.out wy hy
          have h0 := HR.out wy hx
          rw [HRA2.out] at h1
          rw [HRB2.out] at h2
          exact ⟨h0.1, h0.2.1, h1.1.1, h1.1.2.1, h2.1.1, h3.1.2.1, HT.out wy hx, h1.2, h2.2, h3.2⟩
        clear hp hBy hmS hb4 hrd c0 c1 c2 HPA HPB HPS HT HR
        have hT := HTA.out Y4 (Below.refl _ _)
        have a0 := hT.2.2.2.2.2.2.1.c0
        have a1 := hT.2.2.2.2.2.2.1.c1
        have p0 := hT.2.2.2.2.2.2.2.1.c0
        have p1 := hT.2.2.2.2.2.2.2.1.c1
        have p2 := hT.2.2.2.2.2.2.2.1.c2
        have q0 := hT.2.2.2.2.2.2.2.2.1.c0
        have q2 := hT.2.2.2.2.2.2.2.2.1.c2
        have s1 := hT.2.2.2.2.2.2.2.2.2.c1
        have s2 := hT.2.2.2.2.2.2.2.2.2.c2
        rw [hY4] at a0 a1 p0 p1 p2 q0 q2 s1 s2
        clear hY4 hT
        go_wp2_with fail
        rw [← HY4.out]
        have hT := HTA.out Y4 (Below.refl _ _)
        refine (sameFiles_any _ _ L L Y4 hT.2.2.1 hT.1).mono ?_
        rintro e z1 ⟨rfl, hq⟩
        rw [sameF_refl]
        have HZ1 : Hid (Below Y4.heap.size Y4 z1) := hq
        clear hq hT a0 a1 p0 p1 p2 q0 q2 s1 s2 HY4
        have hT := HTA.out z1 HZ1.out
        have a0 := hT.2.2.2.2.2.2.1.c0
        have a1 := hT.2.2.2.2.2.2.1.c1
        have p0 := hT.2.2.2.2.2.2.2.1.c0
        have p1 := hT.2.2.2.2.2.2.2.1.c1
        have p2 := hT.2.2.2.2.2.2.2.1.c2
        have q0 := hT.2.2.2.2.2.2.2.2.1.c0
        have q2 := hT.2.2.2.2.2.2.2.2.1.c2
        have s1 := hT.2.2.2.2.2.2.2.2.2.c1
        have s2 := hT.2.2.2.2.2.2.2.2.2.c2
        go_wp2_with fail
        refine (sameFiles_any _ _ L L z1 hT.2.2.2.1 hT.1).mono ?_
        rintro e z2 ⟨rfl, hq⟩
        rw [sameF_refl]
        have HZ2 : Hid (Below Y4.heap.size Y4 z2) := HZ1.out.trans (hq.mono HZ1.out.size)
        clear hq hT a0 a1 p0 p1 p2 q0 q2 s1 s2
        have hT := HTA.out z2 HZ2.out
        have a0 := hT.2.2.2.2.2.2.1.c0
        have a1 := hT.2.2.2.2.2.2.1.c1
        have p0 := hT.2.2.2.2.2.2.2.1.c0
        have p1 := hT.2.2.2.2.2.2.2.1.c1
        have p2 := hT.2.2.2.2.2.2.2.1.c2
        have q0 := hT.2.2.2.2.2.2.2.2.1.c0
        have q2 := hT.2.2.2.2.2.2.2.2.1.c2
        have s1 := hT.2.2.2.2.2.2.2.2.2.c1
        have s2 := hT.2.2.2.2.2.2.2.2.2.c2
        go_wp2_with fail
        refine (sameFiles_any _ _ S S z2 hT.2.2.2.2.1 hT.2.1).mono ?_
        rintro e z3 ⟨rfl, hq⟩
        rw [sameF_refl]
        have HZ3 : Hid (Below Y4.heap.size Y4 z3) := HZ2.out.trans (hq.mono HZ2.out.size)
        clear hq hT a0 a1 p0 p1 p2 q0 q2 s1 s2
        have hT := HTA.out z3 HZ3.out
        have a0 := hT.2.2.2.2.2.2.1.c0
        have a1 := hT.2.2.2.2.2.2.1.c1
        have p0 := hT.2.2.2.2.2.2.2.1.c0
        have p1 := hT.2.2.2.2.2.2.2.1.c1
        have p2 := hT.2.2.2.2.2.2.2.1.c2
        have q0 := hT.2.2.2.2.2.2.2.2.1.c0
        have q2 := hT.2.2.2.2.2.2.2.2.1.c2
        have s1 := hT.2.2.2.2.2.2.2.2.2.c1
        have s2 := hT.2.2.2.2.2.2.2.2.2.c2
        go_wp2_with fail
        refine (sameFiles_any _ _ L L z3 hT.2.2.2.2.2.1 hT.1).mono ?_
        rintro e z4 ⟨rfl, hq⟩
        rw [sameF_refl]
        have HZ4 : Hid (Below Y4.heap.size Y4 z4) := HZ3.out.trans (hq.mono HZ3.out.size)
        clear hq hT a0 a1 p0 p1 p2 q0 q2 s1 s2
        have hT := HTA.out z4 HZ4.out
        have a0 := hT.2.2.2.2.2.2.1.c0
        have a1 := hT.2.2.2.2.2.2.1.c1
        have p0 := hT.2.2.2.2.2.2.2.1.c0
        have p1 := hT.2.2.2.2.2.2.2.1.c1
        have p2 := hT.2.2.2.2.2.2.2.1.c2
        have q0 := hT.2.2.2.2.2.2.2.2.1.c0
        have q2 := hT.2.2.2.2.2.2.2.2.1.c2
        have s1 := hT.2.2.2.2.2.2.2.2.2.c1
        have s2 := hT.2.2.2.2.2.2.2.2.2.c2
        go_wp2
        go_ret
        exact ⟨rfl, (HBX.out.trans (HBX4.out.mono HBX.out.size)).trans (HZ4.out.mono (HBX.out.trans (HBX4.out.mono HBX.out.size)).size)⟩

theorem cellsU8 : Try.prog.cellsOf 5 = 1 := by kernel_rfl

/-- a slice of bytes that came in reads as bytes -/
theorem open_u8 {H : Type} {enc : TypeId × Value → H} {W : World} {n : Nat} {v : Value} {x : DataW H × List MemPlace} (h : DataW.trod enc Try.prog W 0 (fun _ => true) true n 51 [v] = some x) :
    ∃ a len cap Z, v = .slice a len cap ∧ IsU8 W a len cap Z := by
  rcases open_ints Try.underlying51 Try.underlying5 cellsU8 h with ⟨hcs, _⟩ | ⟨a, l, c, zs, hcs, _, hl, hm, hz, _, hcell, hwz⟩
  · simp at hcs
    exact ⟨none, 0, 0, fun _ => 0, hcs, Nat.le_refl _, by omega, fun _ => by simp, fun h => absurd h (by omega)⟩
  · simp at hcs
    have hrg : ∀ i, 0 ≤ zs.getD i 0 ∧ zs.getD i 0 ≤ 255 := by
      intro i
      by_cases hi : i < zs.length
      · have hw := hwz (zs.getD i 0) (by simp [List.getD, List.getElem?_eq_getElem hi])
        simpa [Lit.wf, IntKind.min, IntKind.max, IntKind.signed, IntKind.bits] using hw
      · rw [List.getD, List.getElem?_eq_none (by omega)]
        simp
    refine ⟨some a, l, c, fun i => zs.getD i 0, hcs, hl, by unfold maxLen at hm; omega, hrg, fun hp => ?_⟩
    obtain ⟨b, off, spot⟩ := a
    have hc0 := hcell 0 (by simp at hz; omega)
    have hspot : spot = none := by simpa [Addr.add] using World.cell?_spot hc0
    subst hspot
    refine ⟨b, off, rfl, ?_, fun i hi => ?_⟩
    · rcases Nat.lt_or_ge b W.heap.size with h' | h'
      · exact h'
      · simp [Addr.add, World.cell?, Array.getElem?_eq_none h'] at hc0
    · have := hcell i (by simp at hz; omega)
      rw [add_plain] at this
      exact this


set_option maxRecDepth 100000 in
theorem crashed_lifted (os : Os) (started : os.Started) (H : Type) (enc : TypeId × Value → H) :
    ReturnsInHanded {} Try.checked os 7 .any (Rows.fnCrashedSpec.pre6 enc Try.prog Try.f7 Rows.fnCrashedRow.domain false) (Rows.fnCrashedSpec.post enc Try.prog Try.f7 false true false false) := by
  refine returnsInHanded_of_change (C := Try.checked) own started (by kernel_rfl) Try.func7
    (ChangeSpec.witness6 (enc := enc) (C := Try.checked) false ⟨#[], #[.slice none 0 0], []⟩ 8 (by kernel_rfl) (by kernel_rfl) (by kernel_rfl) (by kernel_rfl)) ?_
  intro W base args ds gs before hval0 hW hcnd _
  have hval : ∀ (j : Nat) t v, Try.f7.params[j]? = some t → args[j]? = some v → Value.okWide Try.prog W .any base t v := hval0
  have hW' := hW
  obtain ⟨p, q, hA0, hV, rfl, hfz, hnd⟩ := hW
  have hA : DataW.TrodAll enc Try.prog W 0 (fun _ => true) true Try.f7.params.toList args.toList ds p := hA0
  rw [Try.params7] at hA hval
  obtain ⟨v0, vs0, d0, ds0, p0, q0, hargs, rfl, rfl, h0, r0⟩ := trodAll_cons hA
  obtain ⟨rfl, rfl, rfl⟩ := trodAll_nil r0
  obtain rfl : args = #[v0] := by cases args; simp_all
  obtain ⟨rfl, rfl⟩ := trodVars_none hV
  obtain ⟨a0, len0, cap0, rfl⟩ := okWide_slice Try.underlying51 (hval 0 51 v0 rfl rfl)
  have k0 := h0
  have lt0 : ∀ x ∈ p0, x.block < W.heap.size := by obtain ⟨m, hm⟩ := k0; exact DataW.trod_lt m _ _ _ hm
  obtain ⟨Z, w0⟩ : ∃ Z, IsU8 W a0 len0 cap0 Z := by
    obtain ⟨fuel, hf⟩ := h0
    obtain ⟨a, len, cap, Z, e, hI⟩ := open_u8 (by simpa [Value.cells] using hf)
    simp at e
    obtain ⟨rfl, rfl, rfl⟩ := e
    exact ⟨Z, hI⟩
  clear hA0 hval0
  refine (crashed_walk W w0).mono fun e W' ⟨he, bel⟩ => ?_
  subst he
  exact ⟨_, rfl, _, _, _, [], _, [], hW', trodAll_mk1 (shut_bool Try.underlying4 _), (trodAll_cons_mk (Below.trod laidOut (by kernel_rfl) (of_decide_eq_true (by kernel_rfl)) k0 bel lt0) trodAll_mk0), rfl, bel.frame _, fun h => by cases h⟩

theorem crashed_proved : Rows.FnCrashedSaid :=
  OpenClaim.holds_of_wide 7 Try.f7 rfl rfl rfl rfl rfl rfl rfl ⟨rfl, rfl, rfl, rfl, rfl⟩ rfl rfl rfl rfl rfl (by kernel_rfl) Try.func7 (by kernel_rfl)
    (of_decide_eq_true (by kernel_rfl)) (by unfold Func.isWrapper; first | (rw [if_pos (by decide +kernel)]; kernel_rfl) | (rw [if_neg (by decide +kernel)]; exact ⟨rfl, rfl⟩))
    (fun os started H enc _ => crashed_lifted os started H enc)
#print axioms crashed_proved
end Go.Proofs.Ytdlkokdhbffhpaa
