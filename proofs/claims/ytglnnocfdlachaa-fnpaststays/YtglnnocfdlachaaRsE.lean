/-
  The specification's step of one epoch. No condition but that the slices read.
-/
import Derived.Test.YtglnnocfdlachaaRsS
namespace Go.Proofs.Ytglnnocfdlachaa
open Go.RowKit
set_option linter.unusedVariables false

theorem infoR2 : (Try.prog.info? 41).map (·.size) = some 2 := by kernel_rfl
theorem memTo_step {D : Nat → Ev} {e : Int} {adm adm1 G mem1 : List Int} {k : Nat} {b : Bool} (h : isAdd e adm adm1 G (D k) = b) : memTo D e adm adm1 G mem1 (k + 1) = if b = true then withL (memTo D e adm adm1 G mem1 k) (D k).d else memTo D e adm adm1 G mem1 k := by rw [← h]; rfl
theorem admTo_step {D : Nat → Ev} {e : Int} {adm1 G : List Int} {k : Nat} {b : Bool} (h : isRaise e adm1 G (D k) = b) : admTo D e adm1 G (k + 1) = if b = true then withL (admTo D e adm1 G k) (D k).d else admTo D e adm1 G k := by rw [← h]; rfl

theorem wp_cut_at {P : Program} {s : Code} {K : Act → World → Prop} {Q' : Exit → Act → World → Prop} {a : Act} {w : World} (R : Act → Act → World → Prop)
    (rest : ∀ a' w', R a a' w' → K a' w')
    (first : ∀ (J K' : Act → World → Prop), (∀ a' w', R a a' w' → J a' w') → (∀ a' w', Met J a' w' → K' a' w') → s.wp P (Exit.then K' Q') a w) : s.wp P (Exit.then K Q') a w := wp_cut (R a) rest first
theorem wp_region_inv_at {P : Program} {ops : Array Oper} {Q : Exit → Act → World → Prop} {id : Nat} {a : Act} {w : World} (I : Act → (Nat → Bool) → Act → World → Prop) (hm : P.follows .mixedOrders = true) (h0 : I a (fun _ => false) a w.drew)
    (hstep : ∀ a0 l t w, I a0 l t w → ∀ i o, ops[i]? = some o → l i = false → (∀ e ∈ o.after, Region.binds .any e = true → l e.on = true) → wpOp P ops Q i (fun a' w' => I a0 (fun j => l j || j == i) a' w') t w)
    (hdone : ∀ l t w, I a l t w → (∀ i o, ops[i]? = some o → (∀ e ∈ o.after, Region.binds .any e = true → l e.on = true) → l i = true) → Q .normal t w) :
    (Code.region id ops true).wp P Q a w := wp_region_inv (I := I a) hm h0 (hstep a) hdone

set_option maxRecDepth 10000 in
set_option maxHeartbeats 8000000 in
theorem epoch_any (vM vA : Value) (M A : List Int) (a : Option Addr) (len cap : Nat) (D : Nat → Ev) (e : Int) (w : World) (bM bA : Nat) (hM : OwnI w bM vM M) (hA : OwnI w bA vA A) (rM : Ros M) (rA : Ros A) (hD : IsEvs w a len cap D) (hl : len ≤ 30) :
    Calls Try.prog 40 #[.agg #[vM, vA], .slice a len cap, .int .i64 e] w fun r w' => ∃ vM' vA', r = .returned (.agg #[vM', vA']) ∧ OwnI w' w.heap.size vM' (epochL D len e (M, A)).1 ∧ OwnI w' w.heap.size vA' (epochL D len e (M, A)).2 ∧ Below w.heap.size w w' := by
  obtain ⟨hlc, hcm, hc⟩ := hD
  obtain ⟨aM, cM, rfl⟩ := hM.slice
  obtain ⟨aA, cA, rfl⟩ := hA.slice
  obtain ⟨W, hW⟩ : ∃ W, W = ((w.alloc (.cells #[(.slice aM M.length cM), (.slice aA A.length cA)] 41)).alloc (.cells #[.slice none 0 0, .slice none 0 0] 41)).alloc (.cells #[] 2) := ⟨_, rfl⟩
  have hBW : Below w.heap.size w W := by rw [hW]; exact (((Below.refl _ _).alloc (Nat.le_refl _) _).alloc (by simp) _).alloc (by simp; omega) _
  have hWs : W.heap.size = w.heap.size + 3 := by rw [hW]; simp
  have g3 : W.heap[w.heap.size]? = some (.cells #[(.slice aM M.length cM), (.slice aA A.length cA)] 41 (0, 0)) := by
    rw [hW, Below.heap_alloc _ _ _ (by simp; omega), Below.heap_alloc _ _ _ (by simp)]
    exact heap_alloc_new _ _
  have g6 : W.heap[w.heap.size + 1]? = some (.cells #[.slice none 0 0, .slice none 0 0] 41 (0, 0)) := by
    rw [hW, Below.heap_alloc _ _ _ (by simp)]
    have := heap_alloc_new (w.alloc (.cells #[(.slice aM M.length cM), (.slice aA A.length cA)] 41)) (.cells #[.slice none 0 0, .slice none 0 0] 41)
    simpa using this
  have o0 : OwnI W w.heap.size (.slice (some ⟨w.heap.size + 2, 0, none⟩) 0 0) [] := by
    have := World.ownsRow_made (base := w.heap.size) (e := 2) (size := 1) ((w.alloc (.cells #[(.slice aM M.length cM), (.slice aA A.length cA)] 41)).alloc (.cells #[.slice none 0 0, .slice none 0 0] 41)) #[] 0 (by simp; omega) (by decide) rfl
    rw [hW]
    simpa [OwnI] using this
  have HH : Hid (Below w.heap.size w W ∧ W.heap.size = w.heap.size + 3 ∧ W.heap[w.heap.size]? = some (.cells #[(.slice aM M.length cM), (.slice aA A.length cA)] 41 (0, 0)) ∧ W.heap[w.heap.size + 1]? = some (.cells #[.slice none 0 0, .slice none 0 0] 41 (0, 0)) ∧ OwnI W w.heap.size (.slice (some ⟨w.heap.size + 2, 0, none⟩) 0 0) []) := ⟨hBW, hWs, g3, g6, o0⟩
  have HM : Hid (OwnI W bM (.slice aM M.length cM) M) := (hM.below hBW)
  have HA : Hid (OwnI W bA (.slice aA A.length cA) A) := (hA.below hBW)
  have HW : Hid (W = _) := hW
  have HX : Hid (∀ w', Below W.heap.size W w' → ∀ k, Calls Try.prog 22 #[(.slice aA A.length cA), .int .i64 k] w' fun e w'' => e = .returned (.bool (hasI A k)) ∧ w'' = w') := fun w' hB k => has_any (.slice aA A.length cA) A k w' ((hA.below hBW).below hB).rd
  clear hW hBW hWs g3 g6 o0 hM hA
  go_enter Try.func40, Try.ntmps40
  go_wp2
  rw [← HW.out]
  clear HW
  go_loopw [8, 9] (fun v i wr => ∃ (k : Nat), k ≤ len ∧ i = .int .i64 k ∧ Hid (OwnI wr w.heap.size v (goneTo D e A k)) ∧ Hid (Below W.heap.size W wr)) (fun _ i _ => len - (intOf i).toNat)
  case atStart => exact ⟨0, Nat.zero_le _, rfl, HH.out.2.2.2.2, Below.refl _ _⟩
  case round =>
    obtain ⟨k, hk, rfl, HO, HB⟩ := hrel
    by_cases hlt : k < len
    · obtain ⟨b, off, rfl, hbs, hcell⟩ := hc (by omega)
      have hbW : Below w.heap.size w wr := HH.out.1.trans (HB.out.mono HH.out.1.size)
      obtain ⟨c0, c1, c2, c3⟩ : EvAt wr b (off + k * 4) (D k) := (hcell k hlt).grow hbs hbW
      have hltI : (k : Int) < (len : Int) := by omega
      have HBa : Hid (Below W.heap.size W (wr.alloc (.cells #[.int .i64 (D k).a, .int .i64 (D k).b, .int .i64 (D k).c, .int .i64 (D k).d] 30))) := HB.out.alloc HB.out.size _
      have HOa : Hid (OwnI (wr.alloc (.cells #[.int .i64 (D k).a, .int .i64 (D k).b, .int .i64 (D k).c, .int .i64 (D k).d] 30)) w.heap.size u8 (goneTo D e A k)) := HO.out.below ((Below.refl _ _).alloc (Nat.le_refl _) _)
      clear hcell hc hbW
      cases h1 : ((D k).a == e) with
      | false =>
        have HF : Hid (OwnI (wr.alloc (.cells #[.int .i64 (D k).a, .int .i64 (D k).b, .int .i64 (D k).c, .int .i64 (D k).d] 30)) w.heap.size u8 (goneTo D e A (k + 1))) := by
          show OwnI _ _ _ _
          rw [goneTo_step (isDrop1 h1)]; exact HOa.out
        go_wp2
        go_roundw
        case rel => exact ⟨k + 1, by omega, by go_num, HF, HBa⟩
        case measure => simp [intOf]; omega
      | true =>
        cases h2 : ((D k).c == 2) with
        | false =>
          have HF : Hid (OwnI (wr.alloc (.cells #[.int .i64 (D k).a, .int .i64 (D k).b, .int .i64 (D k).c, .int .i64 (D k).d] 30)) w.heap.size u8 (goneTo D e A (k + 1))) := by
            show OwnI _ _ _ _
            rw [goneTo_step (isDrop2 h2)]; exact HOa.out
          go_wp2
          go_roundw
          case rel => exact ⟨k + 1, by omega, by go_num, HF, HBa⟩
          case measure => simp [intOf]; omega
        | true =>
          have hdr : Hid (isDrop e A (D k) = hasI A (D k).b) := isDrop3 h1 h2
          go_wp2_with fail
          refine (HX.out _ HBa.out _).mono ?_
          rintro r w2 ⟨rfl, hw2⟩
          rw [hw2]; clear hw2 w2
          cases h3 : hasI A (D k).b with
          | false =>
            have HF : Hid (OwnI (wr.alloc (.cells #[.int .i64 (D k).a, .int .i64 (D k).b, .int .i64 (D k).c, .int .i64 (D k).d] 30)) w.heap.size u8 (goneTo D e A (k + 1))) := by
              show OwnI _ _ _ _
              rw [goneTo_step (hdr.out.trans h3)]; exact HOa.out
            go_wp2
            go_roundw
            case rel => exact ⟨k + 1, by omega, by go_num, HF, HBa⟩
            case measure => simp [intOf]; omega
          | true =>
            have hS : w.heap.size ≤ (wr.alloc (.cells #[.int .i64 (D k).a, .int .i64 (D k).b, .int .i64 (D k).c, .int .i64 (D k).d] 30)).heap.size := Nat.le_trans HH.out.1.size HBa.out.size
            go_wp2_with fail
            refine (with_any u8 _ (D k).d _ HOa.out.rd).mono ?_
            rintro r w2 ⟨v2, rfl, hO2, hB2⟩
            have HF : Hid (OwnI w2 w.heap.size v2 (goneTo D e A (k + 1))) := by
              show OwnI _ _ _ _
              rw [goneTo_step (hdr.out.trans h3)]; exact hO2.base hS
            have HB2 : Hid (Below W.heap.size W w2) := HBa.out.trans (hB2.mono HBa.out.size)
            clear hO2 hB2 hS
            go_wp2
            go_roundw
            case rel => exact ⟨k + 1, by omega, by go_num, HF, HB2⟩
            case measure => simp [intOf]; omega
    · have hke : k = len := by omega
      subst hke
      have hc' : Hid (0 < k → ∃ b off, a = some ⟨b, off, none⟩ ∧ b < w.heap.size ∧ ∀ i, i < k → EvAt w b (off + i * 4) (D i)) := hc
      clear hc
      have hXs : w.heap.size ≤ wr.heap.size := Nat.le_trans HH.out.1.size HB.out.size
      have hP : w.heap.size < W.heap.size := by have := HH.out.2.1; omega
      have hMl : M.length ≤ 1000 := by have := rM.len; omega
      have hAl : A.length ≤ 1000 := by have := rA.len; omega
      have HMr : Hid (OwnI wr bM (.slice aM M.length cM) M) := HM.out.below HB.out
      have HAr : Hid (OwnI wr bA (.slice aA A.length cA) A) := HA.out.below HB.out
      have HPr : Hid (wr.heap[w.heap.size]? = some (.cells #[.slice aM M.length cM, .slice aA A.length cA] 41 (0, 0))) := (HB.out.block _ hP).trans HH.out.2.2.1
      clear hP
      go_wp2
      refine wp_cut_at (fun a0 t w' => ∃ f, t = canon a0 slotsR f ∧ Below wr.heap.size wr w' ∧ DoneR wr w.heap.size M A (f 11) w') ?_ ?_
      · rintro _ w2 ⟨f, rfl, hB2, k2, x2, y2, e11, hk2, hb2, hx2, hy2⟩
        simp only [canon, slotsR, List.foldl]
        rw [e11]
        obtain ⟨G, hG⟩ : ∃ G, G = goneTo D e A k := ⟨_, rfl⟩
        have HG : Hid (G = goneTo D e A k) := hG
        have rG : Ros G := by rw [hG]; exact goneTo_ros D e A k
        have hOG : OwnI w2 w.heap.size u8 G := by rw [hG]; exact HO.out.below hB2
        obtain ⟨aG, cG, rfl⟩ := hOG.slice
        have HOG : Hid (OwnI w2 w.heap.size (.slice aG G.length cG) G) := hOG
        have HS2 : Hid (w2.heap[k2]? = some (.cells #[x2, y2] 41 (0, 0)) ∧ OwnI w2 w.heap.size x2 M ∧ OwnI w2 w.heap.size y2 A ∧ Below wr.heap.size wr w2) := ⟨hb2, hx2, hy2, hB2⟩
        have HKW : Hid (wr.heap.size ≤ k2) := hk2
        obtain ⟨m, hm⟩ : ∃ m, m = G.length := ⟨_, rfl⟩
        have HM' : Hid (m = G.length) := hm
        have hm9 : m ≤ 9 := by rw [hm]; exact rG.len
        rw [← hm] at HOG ⊢
        clear hG hOG hm hb2 hx2 hy2 hB2 hk2 e11 HO
        go_wp2
        obtain ⟨X, hX⟩ : ∃ X, X = wr := ⟨_, rfl⟩
        subst hX
        go_loopw [12] (fun i wx => ∃ (q : Nat) (x y : Value), q ≤ m ∧ i = .int .i64 q ∧ Hid (RosAt X wx w.heap.size k2 x y (.slice aG m cG) (outTo G M q) (outTo G A q) G)) (fun i _ => m - (intOf i).toNat)
        case atStart => exact ⟨0, x2, y2, Nat.zero_le _, rfl, HS2.out.1, HS2.out.2.1, HS2.out.2.2.1, HOG.out, HS2.out.2.2.2⟩
        case round =>
          obtain ⟨q, x, y, hq, rfl, HI⟩ := hrel
          clear HS2 HOG
          by_cases hlt2 : q < m
          · have hltI : (q : Int) < (m : Int) := by omega
            obtain ⟨ax, cx, rfl⟩ := HI.out.2.1.slice
            obtain ⟨ay, cy, rfl⟩ := HI.out.2.2.1.slice
            have hnx9 : (outTo G M q).length ≤ 1000 := by have := (outTo_ros G rM q).len; omega
            have hny9 : (outTo G A q).length ≤ 1000 := by have := (outTo_ros G rA q).len; omega
            have hqG : q < G.length := by rw [← HM'.out]; exact hlt2
            obtain ⟨bG, rfl, hmG, hcz⟩ := HI.out.2.2.2.1.cell hqG
            clear hmG
            obtain ⟨z, hz⟩ : ∃ z, z = G.getD q 0 := ⟨_, rfl⟩
            rw [← hz] at hcz
            have HZ : Hid (z = G.getD q 0) := hz
            clear hz
            have d0 : wr.cell? ⟨k2, 0, none⟩ = some (.slice ax (outTo G M q).length cx) := cellN HI.out.1
            have hs0 : w.heap.size ≤ wr.heap.size := Nat.le_trans hXs HI.out.2.2.2.2.size
            have HH1 : Hid (outTo G M (q + 1) = withoutL (outTo G M q) z ∧ outTo G A (q + 1) = withoutL (outTo G A q) z) := by rw [HZ.out]; exact ⟨rfl, rfl⟩
            go_wp2
            go_region_with (go_at_call 58; refine (without_any _ _ z _ ?hrd hnx9).mono ?_; (case hrd => exact HI.out.2.1.rd); rintro r w3 ⟨v3, rfl, hO3, hB3⟩; obtain ⟨a3, c3, rfl⟩ := hO3.slice; have H3 := HI.out.below (below_drew hB3); have e0 : w3.cell? ⟨k2, 0, none⟩ = some (.slice ax (outTo G M q).length cx) := cellN H3.1; have e1 : w3.frozen? ⟨k2, 0, none⟩ = false := frozN H3.1)
            all_goals (
              rw [← HH1.out.1] at hO3 ⊢
              have H4 := H3.set0 HKW.out (hO3.base hs0)
              generalize hw4 : w3.setCell _ _ = w4 at H4 ⊢
              have HI4 : Hid (RosAt X w4 w.heap.size k2 (.slice a3 (outTo G M (q + 1)).length c3) (.slice ay (outTo G A q).length cy) (.slice (some ⟨bG, 0, none⟩) m cG) (outTo G M (q + 1)) (outTo G A q) G) := H4
              clear H4 H3 hO3 hB3 e0 e1 hw4 d0 hcz
              obtain ⟨_, ebG, hmG, hcz⟩ := HI4.out.2.2.2.1.cell hqG
              clear hmG
              cases ebG
              rw [← HZ.out] at hcz
              have d1 : w4.cell? ⟨k2, 1, none⟩ = some (.slice ay (outTo G A q).length cy) := cellN HI4.out.1
              have hs4 : w.heap.size ≤ w4.heap.size := Nat.le_trans hXs HI4.out.2.2.2.2.size
              go_wp2
              go_region_with (go_at_call 58; refine (without_any _ _ z _ ?hrd hny9).mono ?_; (case hrd => exact HI4.out.2.2.1.rd); rintro r w5 ⟨v5, rfl, hO5, hB5⟩; obtain ⟨a5, c5, rfl⟩ := hO5.slice; have H5 := HI4.out.below (below_drew hB5); have e0 : w5.cell? ⟨k2, 1, none⟩ = some (.slice ay (outTo G A q).length cy) := cellN H5.1; have e1 : w5.frozen? ⟨k2, 1, none⟩ = false := frozN H5.1)
              all_goals (
                rw [← HH1.out.2] at hO5 ⊢
                have H6 := H5.set1 HKW.out (hO5.base hs4)
                generalize hw6 : w5.setCell _ _ = w6 at H6 ⊢
                have HI6 : Hid (RosAt X w6 w.heap.size k2 (.slice a3 (outTo G M (q + 1)).length c3) (.slice a5 (outTo G A (q + 1)).length c5) (.slice (some ⟨bG, 0, none⟩) m cG) (outTo G M (q + 1)) (outTo G A (q + 1)) G) := H6
                clear H6 H5 hO5 hB5 e0 e1 hw6 d1 hcz
                go_wp2
                go_roundw
                case rel => exact ⟨q + 1, _, _, by omega, by go_num, HI6⟩
                case measure => simp [intOf]; omega))
          · have hqe : q = m := by omega
            have HI2 : Hid (RosAt X wr w.heap.size k2 x y (.slice aG m cG) (outTo G M G.length) (outTo G A G.length) G) := by
              have h := HI.out
              have e' : q = G.length := hqe.trans HM'.out
              rw [e'] at h
              exact h
            obtain ⟨ax, cx, rfl⟩ := HI2.out.2.1.slice
            obtain ⟨ay, cy, rfl⟩ := HI2.out.2.2.1.slice
            subst hqe
            clear HI hq hlt2
            obtain ⟨M1, hM1⟩ : ∃ M1, M1 = outTo G M G.length := ⟨_, rfl⟩
            obtain ⟨A1, hA1⟩ : ∃ A1, A1 = outTo G A G.length := ⟨_, rfl⟩
            have HMA : Hid (M1 = outTo G M G.length ∧ A1 = outTo G A G.length) := ⟨hM1, hA1⟩
            rw [← hM1, ← hA1] at HI2
            clear hM1 hA1
            go_wp2
            go_loopw [13] (fun i wx => ∃ (p : Nat) (x : Value), p ≤ k ∧ i = .int .i64 p ∧ Hid (RosAt X wx w.heap.size k2 x (.slice ay A1.length cy) (.slice aG q cG) (memTo D e A A1 G M1 p) A1 G)) (fun i _ => k - (intOf i).toNat)
            case atStart => exact ⟨0, _, Nat.zero_le _, rfl, HI2⟩
            case round =>
              obtain ⟨p, x, hp, rfl, HI⟩ := hrel
              clear HI2
              by_cases hlt3 : p < k
              · obtain ⟨b, off, rfl, hbs, hcell⟩ := hc'.out (by omega)
                have hbX : Below w.heap.size w wr := (HH.out.1.trans (HB.out.mono HH.out.1.size)).trans (HI.out.2.2.2.2.mono hXs)
                obtain ⟨c0, c1, c2, c3⟩ : EvAt wr b (off + p * 4) (D p) := (hcell p hlt3).grow hbs hbX
                have hltI : (p : Int) < (k : Int) := by omega
                have BA : Below wr.heap.size wr (wr.alloc (.cells #[.int .i64 (D p).a, .int .i64 (D p).b, .int .i64 (D p).c, .int .i64 (D p).d] 30)) := (Below.refl _ _).alloc (Nat.le_refl _) _
                obtain ⟨ax', cx', rfl⟩ := HI.out.2.1.slice
                have HIa : Hid (RosAt X (wr.alloc (.cells #[.int .i64 (D p).a, .int .i64 (D p).b, .int .i64 (D p).c, .int .i64 (D p).d] 30)) w.heap.size k2 (.slice ax' (memTo D e A A1 G M1 p).length cx') (.slice ay A1.length cy) (.slice aG q cG) (memTo D e A A1 G M1 p) A1 G) := HI.out.below BA
                have f0 : (wr.alloc (.cells #[.int .i64 (D p).a, .int .i64 (D p).b, .int .i64 (D p).c, .int .i64 (D p).d] 30)).cell? ⟨k2, 0, none⟩ = some (.slice ax' (memTo D e A A1 G M1 p).length cx') := cellN HIa.out.1
                have f1 : (wr.alloc (.cells #[.int .i64 (D p).a, .int .i64 (D p).b, .int .i64 (D p).c, .int .i64 (D p).d] 30)).cell? ⟨k2, 1, none⟩ = some (.slice ay A1.length cy) := cellN HIa.out.1
                have hsA : w.heap.size ≤ (wr.alloc (.cells #[.int .i64 (D p).a, .int .i64 (D p).b, .int .i64 (D p).c, .int .i64 (D p).d] 30)).heap.size := Nat.le_trans hXs HIa.out.2.2.2.2.size
                have HX3 : Hid (OwnI (wr.alloc (.cells #[.int .i64 (D p).a, .int .i64 (D p).b, .int .i64 (D p).c, .int .i64 (D p).d] 30)) bA (.slice aA A.length cA) A) := (HA.out.below HB.out).below HIa.out.2.2.2.2
                clear hcell hbX BA
                cases h1 : ((D p).a == e) with
                | false =>
                  have HF : Hid (RosAt X (wr.alloc (.cells #[.int .i64 (D p).a, .int .i64 (D p).b, .int .i64 (D p).c, .int .i64 (D p).d] 30)) w.heap.size k2 (.slice ax' (memTo D e A A1 G M1 p).length cx') (.slice ay A1.length cy) (.slice aG q cG) (memTo D e A A1 G M1 (p + 1)) A1 G) := by
                    show RosAt _ _ _ _ _ _ _ _ _ _
                    rw [memTo_step (show isAdd e A A1 G (D p) = false by unfold isAdd; rw [h1]; rfl)]; exact HIa.out
                  go_wp2
                  go_roundw
                  case rel => exact ⟨p + 1, _, by omega, by go_num, HF⟩
                  case measure => simp [intOf]; omega
                | true =>
                  cases h2 : ((D p).c != 2) with
                  | false =>
                    have HF : Hid (RosAt X (wr.alloc (.cells #[.int .i64 (D p).a, .int .i64 (D p).b, .int .i64 (D p).c, .int .i64 (D p).d] 30)) w.heap.size k2 (.slice ax' (memTo D e A A1 G M1 p).length cx') (.slice ay A1.length cy) (.slice aG q cG) (memTo D e A A1 G M1 (p + 1)) A1 G) := by
                      show RosAt _ _ _ _ _ _ _ _ _ _
                      rw [memTo_step (show isAdd e A A1 G (D p) = false by unfold isAdd; rw [h1, h2]; rfl)]; exact HIa.out
                    go_wp2
                    go_roundw
                    case rel => exact ⟨p + 1, _, by omega, by go_num, HF⟩
                    case measure => simp [intOf]; omega
                  | true =>
                    go_wp2_with fail
                    refine (has_any _ A1 (D p).b _ HIa.out.2.2.1.rd).mono ?_
                    rintro r w3 ⟨rfl, hw3⟩
                    rw [hw3]; clear hw3 w3
                    cases h3 : hasI A1 (D p).b with
                    | false =>
                      have HF : Hid (RosAt X (wr.alloc (.cells #[.int .i64 (D p).a, .int .i64 (D p).b, .int .i64 (D p).c, .int .i64 (D p).d] 30)) w.heap.size k2 (.slice ax' (memTo D e A A1 G M1 p).length cx') (.slice ay A1.length cy) (.slice aG q cG) (memTo D e A A1 G M1 (p + 1)) A1 G) := by
                        show RosAt _ _ _ _ _ _ _ _ _ _
                        rw [memTo_step (show isAdd e A A1 G (D p) = false by unfold isAdd; rw [h1, h2, h3]; rfl)]; exact HIa.out
                      go_wp2
                      go_roundw
                      case rel => exact ⟨p + 1, _, by omega, by go_num, HF⟩
                      case measure => simp [intOf]; omega
                    | true =>
                      go_wp2_with fail
                      refine (has_any _ A (D p).b _ HX3.out.rd).mono ?_
                      rintro r w3 ⟨rfl, hw3⟩
                      rw [hw3]; clear hw3 w3
                      cases h4 : hasI A (D p).b with
                      | false =>
                        have HF : Hid (RosAt X (wr.alloc (.cells #[.int .i64 (D p).a, .int .i64 (D p).b, .int .i64 (D p).c, .int .i64 (D p).d] 30)) w.heap.size k2 (.slice ax' (memTo D e A A1 G M1 p).length cx') (.slice ay A1.length cy) (.slice aG q cG) (memTo D e A A1 G M1 (p + 1)) A1 G) := by
                          show RosAt _ _ _ _ _ _ _ _ _ _
                          rw [memTo_step (show isAdd e A A1 G (D p) = false by unfold isAdd; rw [h1, h2, h3, h4]; rfl)]; exact HIa.out
                        go_wp2
                        go_roundw
                        case rel => exact ⟨p + 1, _, by omega, by go_num, HF⟩
                        case measure => simp [intOf]; omega
                      | true =>
                        go_wp2_with fail
                        refine (has_any _ G (D p).d _ HIa.out.2.2.2.1.rd).mono ?_
                        rintro r w3 ⟨rfl, hw3⟩
                        rw [hw3]; clear hw3 w3
                        cases h5 : hasI G (D p).d with
                        | true =>
                          have HF : Hid (RosAt X (wr.alloc (.cells #[.int .i64 (D p).a, .int .i64 (D p).b, .int .i64 (D p).c, .int .i64 (D p).d] 30)) w.heap.size k2 (.slice ax' (memTo D e A A1 G M1 p).length cx') (.slice ay A1.length cy) (.slice aG q cG) (memTo D e A A1 G M1 (p + 1)) A1 G) := by
                            show RosAt _ _ _ _ _ _ _ _ _ _
                            rw [memTo_step (show isAdd e A A1 G (D p) = false by unfold isAdd; rw [h1, h2, h3, h4, h5]; rfl)]; exact HIa.out
                          go_wp2
                          go_roundw
                          case rel => exact ⟨p + 1, _, by omega, by go_num, HF⟩
                          case measure => simp [intOf]; omega
                        | false =>
                          have hyes : Hid (isAdd e A A1 G (D p) = true) := by show _ = _; unfold isAdd; rw [h1, h2, h3, h4, h5]; rfl
                          go_wp2_with fail
                          refine (with_any _ _ (D p).d _ HIa.out.2.1.rd).mono ?_
                          rintro r w3 ⟨v3, rfl, hO3, hB3⟩
                          obtain ⟨a3, c3', rfl⟩ := hO3.slice
                          have H3 := HIa.out.below hB3
                          have e0 : w3.cell? ⟨k2, 0, none⟩ = some (.slice ax' (memTo D e A A1 G M1 p).length cx') := cellN H3.1
                          have e1 : w3.frozen? ⟨k2, 0, none⟩ = false := frozN H3.1
                          have HF : Hid (RosAt X (w3.setCell ⟨k2, 0, none⟩ (.slice a3 (withL (memTo D e A A1 G M1 p) (D p).d).length c3')) w.heap.size k2 (.slice a3 (withL (memTo D e A A1 G M1 p) (D p).d).length c3') (.slice ay A1.length cy) (.slice aG q cG) (memTo D e A A1 G M1 (p + 1)) A1 G) := by
                            show RosAt _ _ _ _ _ _ _ _ _ _
                            rw [memTo_step hyes.out]
                            exact H3.set0 HKW.out (hO3.base hsA)
                          clear hO3 hB3 H3
                          go_wp2
                          go_roundw
                          case rel => exact ⟨p + 1, _, by omega, by go_num, HF⟩
                          case measure => simp [intOf]; omega
              · have hpe : p = k := by omega
                have HI3 : Hid (RosAt X wr w.heap.size k2 x (.slice ay A1.length cy) (.slice aG q cG) (memTo D e A A1 G M1 k) A1 G) := by rw [← hpe]; exact HI
                obtain ⟨ax', cx', rfl⟩ := HI3.out.2.1.slice
                subst hpe
                clear HI hp hlt3
                obtain ⟨M2, hM2⟩ : ∃ M2, M2 = memTo D e A A1 G M1 p := ⟨_, rfl⟩
                have HM2 : Hid (M2 = memTo D e A A1 G M1 p) := hM2
                rw [← hM2] at HI3
                clear hM2
                have f1 : wr.cell? ⟨k2, 1, none⟩ = some (.slice ay A1.length cy) := cellN HI3.out.1
                go_wp2
                have HA1 : Hid (OwnI wr w.heap.size (.slice ay A1.length cy) A1) := HI3.out.2.2.1
                go_loopw [16] (fun i wx => ∃ (p' : Nat) (y : Value), p' ≤ p ∧ i = .int .i64 p' ∧ Hid (RosAt X wx w.heap.size k2 (.slice ax' M2.length cx') y (.slice aG q cG) M2 (admTo D e A1 G p') G ∧ OwnI wx w.heap.size (.slice ay A1.length cy) A1)) (fun i _ => p - (intOf i).toNat)
                case atStart => exact ⟨0, _, Nat.zero_le _, rfl, HI3.out, HA1.out⟩
                case round =>
                  obtain ⟨p', y, hp', rfl, HI⟩ := hrel
                  clear HI3 HA1
                  by_cases hlt4 : p' < p
                  · obtain ⟨b, off, rfl, hbs, hcell⟩ := hc'.out (by omega)
                    have hbX : Below w.heap.size w wr := (HH.out.1.trans (HB.out.mono HH.out.1.size)).trans (HI.out.1.2.2.2.2.mono hXs)
                    obtain ⟨c0, c1, c2, c3⟩ : EvAt wr b (off + p' * 4) (D p') := (hcell p' hlt4).grow hbs hbX
                    have hltI : (p' : Int) < (p : Int) := by omega
                    have BA : Below wr.heap.size wr (wr.alloc (.cells #[.int .i64 (D p').a, .int .i64 (D p').b, .int .i64 (D p').c, .int .i64 (D p').d] 30)) := (Below.refl _ _).alloc (Nat.le_refl _) _
                    obtain ⟨ay', cy', rfl⟩ := HI.out.1.2.2.1.slice
                    have HIa : Hid (RosAt X (wr.alloc (.cells #[.int .i64 (D p').a, .int .i64 (D p').b, .int .i64 (D p').c, .int .i64 (D p').d] 30)) w.heap.size k2 (.slice ax' M2.length cx') (.slice ay' (admTo D e A1 G p').length cy') (.slice aG q cG) M2 (admTo D e A1 G p') G ∧ OwnI (wr.alloc (.cells #[.int .i64 (D p').a, .int .i64 (D p').b, .int .i64 (D p').c, .int .i64 (D p').d] 30)) w.heap.size (.slice ay A1.length cy) A1) := ⟨HI.out.1.below BA, HI.out.2.below BA⟩
                    have f0 : (wr.alloc (.cells #[.int .i64 (D p').a, .int .i64 (D p').b, .int .i64 (D p').c, .int .i64 (D p').d] 30)).cell? ⟨k2, 1, none⟩ = some (.slice ay' (admTo D e A1 G p').length cy') := cellN HIa.out.1.1
                    have hsA : w.heap.size ≤ (wr.alloc (.cells #[.int .i64 (D p').a, .int .i64 (D p').b, .int .i64 (D p').c, .int .i64 (D p').d] 30)).heap.size := Nat.le_trans hXs HIa.out.1.2.2.2.2.size
                    clear hcell hbX BA
                    cases h1 : ((D p').a == e) with
                    | false =>
                      have HF : Hid (RosAt X (wr.alloc (.cells #[.int .i64 (D p').a, .int .i64 (D p').b, .int .i64 (D p').c, .int .i64 (D p').d] 30)) w.heap.size k2 (.slice ax' M2.length cx') (.slice ay' (admTo D e A1 G p').length cy') (.slice aG q cG) M2 (admTo D e A1 G (p' + 1)) G ∧ OwnI (wr.alloc (.cells #[.int .i64 (D p').a, .int .i64 (D p').b, .int .i64 (D p').c, .int .i64 (D p').d] 30)) w.heap.size (.slice ay A1.length cy) A1) := by
                        refine ⟨?_, HIa.out.2⟩
                        rw [admTo_step (show isRaise e A1 G (D p') = false by unfold isRaise; rw [h1]; rfl)]; exact HIa.out.1
                      go_wp2
                      go_roundw
                      case rel => exact ⟨p' + 1, _, by omega, by go_num, HF⟩
                      case measure => simp [intOf]; omega
                    | true =>
                      cases h2 : ((D p').c == 3) with
                      | false =>
                        have HF : Hid (RosAt X (wr.alloc (.cells #[.int .i64 (D p').a, .int .i64 (D p').b, .int .i64 (D p').c, .int .i64 (D p').d] 30)) w.heap.size k2 (.slice ax' M2.length cx') (.slice ay' (admTo D e A1 G p').length cy') (.slice aG q cG) M2 (admTo D e A1 G (p' + 1)) G ∧ OwnI (wr.alloc (.cells #[.int .i64 (D p').a, .int .i64 (D p').b, .int .i64 (D p').c, .int .i64 (D p').d] 30)) w.heap.size (.slice ay A1.length cy) A1) := by
                          refine ⟨?_, HIa.out.2⟩
                          rw [admTo_step (show isRaise e A1 G (D p') = false by unfold isRaise; rw [h1, h2]; rfl)]; exact HIa.out.1
                        go_wp2
                        go_roundw
                        case rel => exact ⟨p' + 1, _, by omega, by go_num, HF⟩
                        case measure => simp [intOf]; omega
                      | true =>
                        go_wp2_with fail
                        refine (has_any _ A1 (D p').b _ HIa.out.2.rd).mono ?_
                        rintro r w3 ⟨rfl, hw3⟩
                        rw [hw3]; clear hw3 w3
                        cases h3 : hasI A1 (D p').b with
                        | false =>
                          have HF : Hid (RosAt X (wr.alloc (.cells #[.int .i64 (D p').a, .int .i64 (D p').b, .int .i64 (D p').c, .int .i64 (D p').d] 30)) w.heap.size k2 (.slice ax' M2.length cx') (.slice ay' (admTo D e A1 G p').length cy') (.slice aG q cG) M2 (admTo D e A1 G (p' + 1)) G ∧ OwnI (wr.alloc (.cells #[.int .i64 (D p').a, .int .i64 (D p').b, .int .i64 (D p').c, .int .i64 (D p').d] 30)) w.heap.size (.slice ay A1.length cy) A1) := by
                            refine ⟨?_, HIa.out.2⟩
                            rw [admTo_step (show isRaise e A1 G (D p') = false by unfold isRaise; rw [h1, h2, h3]; rfl)]; exact HIa.out.1
                          go_wp2
                          go_roundw
                          case rel => exact ⟨p' + 1, _, by omega, by go_num, HF⟩
                          case measure => simp [intOf]; omega
                        | true =>
                          go_wp2_with fail
                          refine (has_any _ G (D p').d _ HIa.out.1.2.2.2.1.rd).mono ?_
                          rintro r w3 ⟨rfl, hw3⟩
                          rw [hw3]; clear hw3 w3
                          cases h5 : hasI G (D p').d with
                          | true =>
                            have HF : Hid (RosAt X (wr.alloc (.cells #[.int .i64 (D p').a, .int .i64 (D p').b, .int .i64 (D p').c, .int .i64 (D p').d] 30)) w.heap.size k2 (.slice ax' M2.length cx') (.slice ay' (admTo D e A1 G p').length cy') (.slice aG q cG) M2 (admTo D e A1 G (p' + 1)) G ∧ OwnI (wr.alloc (.cells #[.int .i64 (D p').a, .int .i64 (D p').b, .int .i64 (D p').c, .int .i64 (D p').d] 30)) w.heap.size (.slice ay A1.length cy) A1) := by
                              refine ⟨?_, HIa.out.2⟩
                              rw [admTo_step (show isRaise e A1 G (D p') = false by unfold isRaise; rw [h1, h2, h3, h5]; rfl)]; exact HIa.out.1
                            go_wp2
                            go_roundw
                            case rel => exact ⟨p' + 1, _, by omega, by go_num, HF⟩
                            case measure => simp [intOf]; omega
                          | false =>
                            have hyes : Hid (isRaise e A1 G (D p') = true) := by show _ = _; unfold isRaise; rw [h1, h2, h3, h5]; rfl
                            go_wp2_with fail
                            refine (with_any _ _ (D p').d _ HIa.out.1.2.2.1.rd).mono ?_
                            rintro r w3 ⟨v3, rfl, hO3, hB3⟩
                            obtain ⟨a3, c3', rfl⟩ := hO3.slice
                            have H3 := HIa.out.1.below hB3
                            have e0 : w3.cell? ⟨k2, 1, none⟩ = some (.slice ay' (admTo D e A1 G p').length cy') := cellN H3.1
                            have e1 : w3.frozen? ⟨k2, 1, none⟩ = false := frozN H3.1
                            have HF : Hid (RosAt X (w3.setCell ⟨k2, 1, none⟩ (.slice a3 (withL (admTo D e A1 G p') (D p').d).length c3')) w.heap.size k2 (.slice ax' M2.length cx') (.slice a3 (withL (admTo D e A1 G p') (D p').d).length c3') (.slice aG q cG) M2 (admTo D e A1 G (p' + 1)) G ∧ OwnI (w3.setCell ⟨k2, 1, none⟩ (.slice a3 (withL (admTo D e A1 G p') (D p').d).length c3')) w.heap.size (.slice ay A1.length cy) A1) := by
                              refine ⟨?_, (HIa.out.2.below hB3).set H3.1 1 _⟩
                              rw [admTo_step hyes.out]
                              exact H3.set1 HKW.out (hO3.base hsA)
                            clear hO3 hB3 H3
                            go_wp2
                            go_roundw
                            case rel => exact ⟨p' + 1, _, by omega, by go_num, HF⟩
                            case measure => simp [intOf]; omega
                  · have hpe : p' = p := by omega
                    have HI5 : Hid (RosAt X wr w.heap.size k2 (.slice ax' M2.length cx') y (.slice aG q cG) M2 (admTo D e A1 G p) G) := by rw [← hpe]; exact HI.out.1
                    obtain ⟨ay', cy', rfl⟩ := HI5.out.2.2.1.slice
                    subst hpe
                    clear HI hp' hlt4
                    obtain ⟨A2, hA2⟩ : ∃ A2, A2 = admTo D e A1 G p' := ⟨_, rfl⟩
                    have HA2 : Hid (A2 = admTo D e A1 G p') := hA2
                    rw [← hA2] at HI5
                    clear hA2
                    have d0 : wr.cell? ⟨k2, 0, none⟩ = some (.slice ax' M2.length cx') := cellN HI5.out.1
                    have d1 : wr.cell? ⟨k2, 1, none⟩ = some (.slice ay' A2.length cy') := cellN HI5.out.1
                    have hWX : W.heap.size ≤ X.heap.size := HB.out.size
                    have g6 : wr.heap[w.heap.size + 1]? = some (.cells #[.slice none 0 0, .slice none 0 0] 41 (0, 0)) :=
                      (HI5.out.2.2.2.2.block _ (by have := HH.out.2.1; omega)).trans ((HB.out.block _ (by have := HH.out.2.1; omega)).trans HH.out.2.2.2.1)
                    have i0 : wr.cell? ⟨w.heap.size + 1, 0, none⟩ = some (.slice none 0 0) := cellN g6
                    have i1 : wr.cell? ⟨w.heap.size + 1, 1, none⟩ = some (.slice none 0 0) := cellN g6
                    have j0 : wr.frozen? ⟨w.heap.size + 1, 0, none⟩ = false := frozN g6
                    have j1 : wr.frozen? ⟨w.heap.size + 1, 1, none⟩ = false := frozN g6
                    have HE : Hid (((wr.setCell ⟨w.heap.size + 1, 0, none⟩ (.slice ax' M2.length cx')).setCell ⟨w.heap.size + 1, 1, none⟩ (.slice ay' A2.length cy')).heap[w.heap.size + 1]? = some (.cells #[.slice ax' M2.length cx', .slice ay' A2.length cy'] 41 (0, 0)) ∧ OwnI ((wr.setCell ⟨w.heap.size + 1, 0, none⟩ (.slice ax' M2.length cx')).setCell ⟨w.heap.size + 1, 1, none⟩ (.slice ay' A2.length cy')) w.heap.size (.slice ax' M2.length cx') M2 ∧ OwnI ((wr.setCell ⟨w.heap.size + 1, 0, none⟩ (.slice ax' M2.length cx')).setCell ⟨w.heap.size + 1, 1, none⟩ (.slice ay' A2.length cy')) w.heap.size (.slice ay' A2.length cy') A2 ∧ Below w.heap.size w ((wr.setCell ⟨w.heap.size + 1, 0, none⟩ (.slice ax' M2.length cx')).setCell ⟨w.heap.size + 1, 1, none⟩ (.slice ay' A2.length cy'))) :=
                      ⟨set2_same _ _ g6, HI5.out.2.1.set2 _ _ g6, HI5.out.2.2.1.set2 _ _ g6, (((HH.out.1.trans (HB.out.mono HH.out.1.size)).trans (HI5.out.2.2.2.2.mono hXs)).setCell (p := ⟨w.heap.size + 1, 0, none⟩) (Nat.le_succ _) _).setCell (p := ⟨w.heap.size + 1, 1, none⟩) (Nat.le_succ _) _⟩
                    have HR1 : Hid ((epochL D p' e (M, A)).1 = M2 ∧ (epochL D p' e (M, A)).2 = A2) := by
                      rw [HM2.out, HA2.out, HMA.out.1, HMA.out.2, HG.out]
                      exact ⟨rfl, rfl⟩
                    clear g6 HI5 hWX
                    go_wp2
                    exact bodyPost_ret (v := .agg #[.slice ax' M2.length cx', .slice ay' A2.length cy']) (results_cell_row rfl _ _ (w.heap.size + 1) 41 _ _ _ rfl HE.out.1 Try.underlying41 rfl infoR2) rfl ⟨_, _, rfl, by rw [HR1.out.1]; exact HE.out.2.1, by rw [HR1.out.2]; exact HE.out.2.2.1, HE.out.2.2.2⟩
      · intro J K' hJ hK
        refine wp_region_inv_at (fun a0 l t w' => RR wr w.heap.size w.heap.size (.slice aM M.length cM) (.slice aA A.length cA) M A a0 l t w' ∧ (58 < a0.tmps.size ∧ a0.eval (.tmp 3) = .pointer (some ⟨w.heap.size, 0, none⟩)) ∧ (l 10 = true → ∀ j, j < 10 → l j = true)) (by kernel_rfl) ?_ ?_ ?_
        · exact ⟨⟨(Below.refl _ _).drew, _, (canon_self _ slotsR).symm, (fun j _ h => by cases h), (fun h => by cases h)⟩, ⟨by simp, rfl⟩, (fun h => by cases h)⟩
        · rintro a0 l t w' ⟨hI, ⟨hs, h3⟩, hq⟩ i o ho hl hd
          have hi : i < 11 := by
            rcases Nat.lt_or_ge i 11 with h | h
            · exact h
            · rw [Array.getElem?_eq_none (by simpa using h)] at ho; cases ho
          have hbase : w.heap.size ≤ w'.heap.size := Nat.le_trans hXs hI.bel.size
          have t3 : t.eval (.tmp 3) = .pointer (some ⟨w.heap.size, 0, none⟩) := (hI.other 3 (by decide)).trans h3
          have hP' : w'.heap[w.heap.size]? = some (.cells #[.slice aM M.length cM, .slice aA A.length cA] 41 (0, 0)) := (hI.bel.block _ (lt_of_block HPr.out)).trans HPr.out
          have h10 : i < 10 → l 10 = false := fun hi10 => by
            cases h : l 10 with
            | false => rfl
            | true => rw [hq h i hi10] at hl; cases hl
          have hq' : i < 10 → ((fun j => l j || j == i) 10 = true → ∀ j, j < 10 → (fun j => l j || j == i) j = true) := fun hi10 h => by
            have e : (10 == i) = false := by simp; omega
            simp [h10 hi10, e] at h
          have hi' : i = 0 ∨ i = 1 ∨ i = 2 ∨ i = 3 ∨ i = 4 ∨ i = 5 ∨ i = 6 ∨ i = 7 ∨ i = 8 ∨ i = 9 ∨ i = 10 := by omega
          have ho2 := ho
          rcases hi' with rfl | rfl | rfl | rfl | rfl | rfl | rfl | rfl | rfl | rfl | rfl <;> simp only [List.getElem?_toArray, List.getElem?_cons_succ, List.getElem?_cons_zero, Option.some.injEq] at ho <;> subst ho
          · exact wpOp_run ho2 rfl (r_empty t.eval _ w' rfl) ⟨hI.step 0 50 rfl (by omega) (h10 (by omega)) _ ((Below.refl _ _).alloc (Nat.le_refl _) _) (by rw [FactR.e04 (by omega)]; exact ⟨_, rfl, World.ownsRow_made w' #[] 0 hbase (by decide) rfl⟩), ⟨hs, h3⟩, hq' (by omega)⟩
          · exact wpOp_run ho2 rfl (r_field t.eval _ w' _ 0 _ (by omega) rfl t3) ⟨hI.step 1 51 rfl (by omega) (h10 (by omega)) _ (Below.refl _ _) (by rw [FactR.e1]), ⟨hs, h3⟩, hq' (by omega)⟩
          · have f := hI.get hs 1 (by omega) (hd ⟨1, .data⟩ (by simp) rfl)
            rw [FactR.e1] at f
            exact wpOp_run ho2 rfl (r_loadS t.eval _ w' _ _ 0 _ _ _ rfl f (cellN hP')) ⟨hI.step 2 52 rfl (by omega) (h10 (by omega)) _ (Below.refl _ _) (by rw [FactR.e2]), ⟨hs, h3⟩, hq' (by omega)⟩
          · have f := hI.get hs 0 (by omega) (hd ⟨0, .data⟩ (by simp) rfl)
            rw [FactR.e04 (by omega)] at f
            obtain ⟨g, f, fo⟩ := f
            have f2 := hI.get hs 2 (by omega) (hd ⟨2, .data⟩ (by simp) rfl)
            rw [FactR.e2] at f2
            rw [f] at fo
            obtain ⟨v', w2, hr, hv', hB2⟩ := run_cat0 w.heap.size g 39 _ M w' fo bM (HMr.out.below hI.bel) hMl hbase
            exact wpOp_run ho2 rfl (r_append t.eval _ w' _ _ _ v' g w2 rfl f f2 hr) ⟨hI.step 3 53 rfl (by omega) (h10 (by omega)) _ hB2 (by rw [FactR.e3]; exact hv'), ⟨hs, h3⟩, hq' (by omega)⟩
          · exact wpOp_run ho2 rfl (r_empty t.eval _ w' rfl) ⟨hI.step 4 54 rfl (by omega) (h10 (by omega)) _ ((Below.refl _ _).alloc (Nat.le_refl _) _) (by rw [FactR.e04 (by omega)]; exact ⟨_, rfl, World.ownsRow_made w' #[] 0 hbase (by decide) rfl⟩), ⟨hs, h3⟩, hq' (by omega)⟩
          · exact wpOp_run ho2 rfl (r_field t.eval _ w' _ 1 _ (by omega) rfl t3) ⟨hI.step 5 55 rfl (by omega) (h10 (by omega)) _ (Below.refl _ _) (by rw [FactR.e5]), ⟨hs, h3⟩, hq' (by omega)⟩
          · have f := hI.get hs 5 (by omega) (hd ⟨5, .data⟩ (by simp) rfl)
            rw [FactR.e5] at f
            exact wpOp_run ho2 rfl (r_loadS t.eval _ w' _ _ 1 _ _ _ rfl f (cellN hP')) ⟨hI.step 6 56 rfl (by omega) (h10 (by omega)) _ (Below.refl _ _) (by rw [FactR.e6]), ⟨hs, h3⟩, hq' (by omega)⟩
          · have f := hI.get hs 4 (by omega) (hd ⟨4, .data⟩ (by simp) rfl)
            rw [FactR.e04 (by omega)] at f
            obtain ⟨g, f, fo⟩ := f
            have f2 := hI.get hs 6 (by omega) (hd ⟨6, .data⟩ (by simp) rfl)
            rw [FactR.e6] at f2
            rw [f] at fo
            obtain ⟨v', w2, hr, hv', hB2⟩ := run_cat0 w.heap.size g 39 _ A w' fo bA (HAr.out.below hI.bel) hAl hbase
            exact wpOp_run ho2 rfl (r_append t.eval _ w' _ _ _ v' g w2 rfl f f2 hr) ⟨hI.step 7 57 rfl (by omega) (h10 (by omega)) _ hB2 (by rw [FactR.e7]; exact hv'), ⟨hs, h3⟩, hq' (by omega)⟩
          · have f := hI.get hs 3 (by omega) (hd ⟨3, .data⟩ (by simp) rfl)
            rw [FactR.e3] at f
            obtain ⟨a1, c1, e1⟩ := f.slice
            rw [e1] at f
            have g := hI.get hs 7 (by omega) (hd ⟨7, .data⟩ (by simp) rfl)
            rw [FactR.e7] at g
            obtain ⟨a2, c2, e2⟩ := g.slice
            rw [e2] at g
            exact wpOp_run ho2 rfl (r_buildR t.eval _ w' _ _ _ _ _ _ _ _ rfl e1 e2) ⟨hI.step 8 58 rfl (by omega) (h10 (by omega)) _ (Below.refl _ _) (by rw [FactR.e8]; exact ⟨_, _, rfl, f, g⟩), ⟨hs, h3⟩, hq' (by omega)⟩
          · exact wpOp_run ho2 rfl (r_allocR t.eval _ w' rfl) ⟨hI.step 9 11 rfl (by omega) (h10 (by omega)) _ ((Below.refl _ _).alloc (Nat.le_refl _) _) (by rw [FactR.e9]; exact ⟨_, _, _, rfl, hI.bel.size, heap_alloc_new _ _⟩), ⟨hs, h3⟩, hq' (by omega)⟩
          · have hall : ∀ j, j < 10 → l j = true := fun j hj => by
              have : j = 0 ∨ j = 1 ∨ j = 2 ∨ j = 3 ∨ j = 4 ∨ j = 5 ∨ j = 6 ∨ j = 7 ∨ j = 8 ∨ j = 9 := by omega
              rcases this with rfl | rfl | rfl | rfl | rfl | rfl | rfl | rfl | rfl | rfl <;> exact hd ⟨_, .phase⟩ (by simp) rfl
            have f := hI.get hs 9 (by omega) (hall 9 (by omega))
            rw [FactR.e9] at f
            obtain ⟨k9, p9, q9, f, hk9, hb9⟩ := f
            have g := hI.get hs 8 (by omega) (hall 8 (by omega))
            rw [FactR.e8] at g
            obtain ⟨x8, y8, g, hx8, hy8⟩ := g
            obtain ⟨a1, c1, rfl⟩ := hx8.slice
            obtain ⟨a2, c2, rfl⟩ := hy8.slice
            exact wpOp_skip ho2 rfl (r_storeR t.eval _ w' _ _ k9 p9 q9 _ _ _ _ _ _ rfl f g hb9) ⟨hI.store hs hall k9 p9 q9 _ _ f hk9 hb9 hx8 hy8, ⟨hs, h3⟩, fun _ j hj => by show (l j || j == 10) = true; rw [hall j hj]; rfl⟩
        · rintro l t w' ⟨hI, _, _⟩ hall
          have l0 : l 0 = true := hall 0 _ rfl (fun e he => by simp at he)
          have l1 : l 1 = true := hall 1 _ rfl (fun e he => by simp at he)
          have l4 : l 4 = true := hall 4 _ rfl (fun e he => by simp at he)
          have l5 : l 5 = true := hall 5 _ rfl (fun e he => by simp at he)
          have l9 : l 9 = true := hall 9 _ rfl (fun e he => by simp at he)
          have l2 : l 2 = true := hall 2 _ rfl (fun e he _ => by simp at he; subst he; exact l1)
          have l6 : l 6 = true := hall 6 _ rfl (fun e he _ => by simp at he; subst he; exact l5)
          have l3 : l 3 = true := hall 3 _ rfl (fun e he _ => by simp at he; rcases he with rfl | rfl <;> assumption)
          have l7 : l 7 = true := hall 7 _ rfl (fun e he _ => by simp at he; rcases he with rfl | rfl | rfl <;> assumption)
          have l8 : l 8 = true := hall 8 _ rfl (fun e he _ => by simp at he; rcases he with rfl | rfl <;> assumption)
          have l10 : l 10 = true := hall 10 _ rfl (fun e he _ => by simp at he; rcases he with rfl | rfl | rfl | rfl | rfl | rfl | rfl | rfl | rfl | rfl | rfl | rfl | rfl <;> assumption)
          obtain ⟨f, ht, _, hdn⟩ := hI.form
          exact hK _ _ (Met.intro (hJ _ _ ⟨f, ht, hI.bel, hdn l10⟩))
end Go.Proofs.Ytglnnocfdlachaa
