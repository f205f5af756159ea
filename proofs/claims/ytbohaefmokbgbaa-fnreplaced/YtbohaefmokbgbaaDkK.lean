/-
  The specification's DiskOk. No condition but that the slices read and that the sizes are small.
-/
import Derived.Test.YtbohaefmokbgbaaDkL
namespace Go.Proofs.Ytbohaefmokbgbaa
open Go.RowKit
set_option linter.unusedVariables false

set_option maxRecDepth 10000 in
set_option maxHeartbeats 1500000 in
theorem specDisk_any (vL vS vO : Value) (L S : List Fl) (O : List Dop) (w : World) (hL : RdF w vL L) (hS : RdF w vS S) (hO : RdO w vO O) (hz : SmallD L S O) :
    Calls Try.prog 35 #[.agg #[vL, vS, vO]] w fun e w' => e = .returned (.bool (diskB L S O)) ∧ Below w.heap.size w w' := by
  have HL : Hid (∀ w', Below w.heap.size w w' → RdF w' vL L) := fun w' hB => hL.below hB
  have HS : Hid (∀ w', Below w.heap.size w w' → RdF w' vS S) := fun w' hB => hS.below hB
  have HZ : Hid (SmallD L S O) := hz
  obtain ⟨aL, cL, eL, _⟩ := hL
  obtain ⟨nL, hnL⟩ : ∃ n, n = L.length := ⟨_, rfl⟩
  rw [← hnL] at eL
  subst eL
  obtain ⟨aS, cS, eS, _⟩ := hS
  obtain ⟨nS, hnS⟩ : ∃ n, n = S.length := ⟨_, rfl⟩
  rw [← hnS] at eS
  subst eS
  obtain ⟨a, cap, rfl, hlc, hcm, hc⟩ := hO
  obtain ⟨n, hn⟩ : ∃ n, n = O.length := ⟨_, rfl⟩
  have HN : Hid (n = O.length) := hn
  rw [← hn] at hlc hc ⊢
  have HC : Hid (0 < n → ∃ b off, a = some ⟨b, off, none⟩ ∧ ∀ w', Below w.heap.size w w' → ∀ i, i < n → ∀ t, t < 4 → w'.cell? ⟨b, off + i * 4 + t, none⟩ = (encO (O.getD i dopZ))[t]?) := fun hp => by
    obtain ⟨b, off, e, hb, hcc⟩ := hc hp
    exact ⟨b, off, e, fun w' hB i hi t ht => (hB.cell (p := ⟨b, off + i * 4 + t, none⟩) hb).trans (hcc i hi t ht)⟩
  obtain ⟨X, hX⟩ : ∃ X, X = w.alloc (.cells #[.slice aL nL cL, .slice aS nS cS, .slice a n cap] 27) := ⟨_, rfl⟩
  have hBX : Below w.heap.size w X := by rw [hX]; exact (Below.refl _ _).alloc (Nat.le_refl _) _
  have gX : X.heap[w.heap.size]? = some (.cells #[.slice aL nL cL, .slice aS nS cS, .slice a n cap] 27 (0, 0)) := by rw [hX]; exact heap_alloc_new _ _
  have HG : Hid (∀ w', Below X.heap.size X w' → w'.cell? ⟨w.heap.size, 0, none⟩ = some (.slice aL nL cL) ∧ w'.cell? ⟨w.heap.size, 1, none⟩ = some (.slice aS nS cS) ∧ w'.cell? ⟨w.heap.size, 2, none⟩ = some (.slice a n cap) ∧ Below w.heap.size w w') := fun w' hB => by
    have g := (hB.block _ (lt_of_block gX)).trans gX
    exact ⟨cellN g, cellN g, cellN g, hBX.trans (hB.mono hBX.size)⟩
  have hg := HG.out X (Below.refl _ _)
  rw [hX] at hg
  obtain ⟨c0, c1, c2, _⟩ := hg
  have HX := (show Hid _ from hX)
  clear hn hX hBX gX hc hnL hnS hz
  go_enter Try.func35, Try.ntmps35
  go_wp2_with fail
  rw [← HX.out]
  refine (files_any _ L X (HL.out X (HG.out X (Below.refl _ _)).2.2.2) (by have := HZ.out.l1; omega) (small_at HZ.out.l2 (by omega))).mono ?_
  rintro e w1 ⟨rfl, hB1⟩
  clear c0 c1 c2 HX
  have HB1 := (show Hid _ from hB1)
  obtain ⟨c0, c1, c2, hBw1⟩ := HG.out w1 hB1
  have HBW1 := (show Hid _ from hBw1)
  clear hB1 hBw1
  cases hfl : filesB L with
  | false =>
    have HR : Hid (diskB L S O = false) := by show _ = _; unfold diskB; rw [hfl]; rfl
    go_wp2
    go_ret
    exact ⟨ret_bool HR.out.symm, HBW1.out⟩
  | true =>
    go_wp2_with fail
    refine (files_any _ S w1 (HS.out w1 HBW1.out) (by have := HZ.out.s1; omega) (small_at HZ.out.s2 (by omega))).mono ?_
    rintro e w2 ⟨rfl, hB2⟩
    clear c0 c1 c2
    have HB2 : Hid (Below X.heap.size X w2) := HB1.out.trans (hB2.mono HB1.out.size)
    obtain ⟨c0, c1, c2, hBw2⟩ := HG.out w2 HB2.out
    have HBW2 := (show Hid _ from hBw2)
    clear hB2 hBw2
    cases hfs : filesB S with
    | false =>
      have HR : Hid (diskB L S O = false) := by show _ = _; unfold diskB; rw [hfl, hfs]; rfl
      go_wp2
      go_ret
      exact ⟨ret_bool HR.out.symm, HBW2.out⟩
    | true =>
      by_cases h200 : n ≤ 200
      · have h200I : (n : Int) ≤ 200 := by omega
        have HD : Hid (diskB L S O = (match runB S O with | some n => sameF n L | none => false)) := by
          show _ = _
          unfold diskB
          rw [hfl, hfs, decide_eq_true (by rw [← HN.out]; exact h200)]
          rfl
        have HFS : Hid (filesB S = true) := hfs
        clear hfl hfs
        go_wp2
        go_loopw [3, 4] (fun nv i wr => ∃ (k : Nat) (v : Value), k ≤ n ∧ i = .int .i64 k ∧ v = nv ∧ Hid (∃ now, runB S (O.take k) = some now ∧ filesB now = true ∧ RdF wr v now ∧ Below X.heap.size X wr)) (fun _ i _ => n - (intOf i).toNat)
        case atStart => exact ⟨0, _, Nat.zero_le _, rfl, rfl, S, rfl, HFS.out, HS.out w2 HBW2.out, HB2.out⟩
        case round =>
          obtain ⟨k, nv, hk, rfl, rfl, HI⟩ := hrel
          obtain ⟨now, hr, hnow, hrd, hBr⟩ := HI.out
          clear HI c0 c1 c2
          obtain ⟨c0, c1, c2, hBwr⟩ := HG.out wr hBr
          by_cases hlt : k < n
          · have hltI : (k : Int) < (n : Int) := by omega
            obtain ⟨b, off, rfl, hl⟩ := HC.out (by omega)
            have hkO : k < O.length := by rw [← HN.out]; exact hlt
            have hsz := HZ.out.o1 (O.getD k dopZ) (by simp [hkO])
            have hst := runB_take hkO hr
            obtain ⟨o, ho⟩ : ∃ o, o = O.getD k dopZ := ⟨_, rfl⟩
            rw [← ho] at hsz hst
            have HE : Hid (∀ w', Below w.heap.size w w' → w'.cell? ⟨b, off + k * 4, none⟩ = some (.int .i64 o.k) ∧ w'.cell? ⟨b, off + k * 4 + 1, none⟩ = some (.string o.n) ∧ w'.cell? ⟨b, off + k * 4 + 2, none⟩ = some (.string o.t) ∧ w'.cell? ⟨b, off + k * 4 + 3, none⟩ = some (.string o.d)) := fun w' hB => by
              rw [ho]
              exact ⟨hl w' hB k hlt 0 (by omega), hl w' hB k hlt 1 (by omega), hl w' hB k hlt 2 (by omega), hl w' hB k hlt 3 (by omega)⟩
            obtain ⟨e0, e1, e2, e3⟩ := HE.out wr hBwr
            have hp := filesB_parts hnow
            have hsm := doF_small (K := now) (o := o) (z := 100000000) (fun f hf => Nat.le_trans (hp.2.2 f hf) (by omega)) hsz.1 hsz.2.1
            have HRD : Hid (RdF wr nv now ∧ now.length ≤ 1000000 ∧ ∀ f ∈ now, f.d.size + o.d.size ≤ 2000000000) := ⟨hrd, by omega, fun f hf => by have := tot_mem hf; have := hsz.2.2; have := hp.2.1; omega⟩
            have HSM : Hid (tot (doF now o).1 ≤ 1000000000 ∧ ∀ j, j < (doF now o).1.length → ((doF now o).1.getD j flZ).n.size ≤ 1000000000) := ⟨by have := hsm.2; have := hp.2.1; have := hsz.2.2; omega, small_at hsm.1 (by omega)⟩
            have HZO : Hid (o.n.size ≤ 1000000000 ∧ o.t.size ≤ 1000000000) := ⟨by have := hsz.1; omega, by have := hsz.2.1; omega⟩
            have HST := (show Hid _ from hst)
            have HBR : Hid (Below X.heap.size X wr) := hBr
            clear hl hsz hst ho hp hsm hrd hr hnow hBr hBwr
            go_wp2_with fail
            refine (do_any nv now o wr HRD.out.1 HRD.out.2.1 HRD.out.2.2).mono ?_
            rintro e w3 ⟨u, rfl, hu, hne, hB3⟩
            clear c0 c1 c2 e0 e1 e2 e3
            have HB3 : Hid (Below X.heap.size X w3) := HBR.out.trans (hB3.mono HBR.out.size)
            have HU : Hid (∀ w', Below w3.heap.size w3 w' → RdF w' u (doF now o).1) := fun w' hB => (hu.below hB).rd
            clear hu hne hB3
            obtain ⟨c0, c1, c2, hBw3⟩ := HG.out w3 HB3.out
            obtain ⟨e0, e1, e2, e3⟩ := HE.out w3 hBw3
            have HBW3 := (show Hid _ from hBw3)
            clear hBw3
            cases hr2 : (doF now o).2 with
            | false =>
              have HR : Hid (diskB L S O = false) := by show _ = _; rw [HD.out, runB_none (k := k + 1) (by rw [HST.out, hr2]; rfl)]
              go_wp2
              go_ret
              exact ⟨ret_bool HR.out.symm, HBW3.out⟩
            | true =>
              go_wp2_with fail
              refine (form_any o w3 HZO.out.1 HZO.out.2).mono ?_
              rintro e w4 ⟨rfl, hB4⟩
              clear c0 c1 c2 e0 e1 e2 e3
              have HB4 : Hid (Below X.heap.size X w4) := HB3.out.trans (hB4.mono HB3.out.size)
              have HB34 := (show Hid _ from hB4)
              obtain ⟨c0, c1, c2, hBw4⟩ := HG.out w4 HB4.out
              have HBW4 := (show Hid _ from hBw4)
              clear hB4 hBw4
              cases hfo : formB o with
              | false =>
                have HR : Hid (diskB L S O = false) := by show _ = _; rw [HD.out, runB_none (k := k + 1) (by rw [HST.out, hr2, hfo]; rfl)]
                go_wp2
                go_ret
                exact ⟨ret_bool HR.out.symm, HBW4.out⟩
              | true =>
                go_wp2_with fail
                refine (files_any u _ w4 (HU.out w4 HB34.out) HSM.out.1 HSM.out.2).mono ?_
                rintro e w5 ⟨rfl, hB5⟩
                clear c0 c1 c2
                have HB5 : Hid (Below X.heap.size X w5) := HB4.out.trans (hB5.mono HB4.out.size)
                have HB35 : Hid (Below w3.heap.size w3 w5) := HB34.out.trans (hB5.mono HB34.out.size)
                obtain ⟨c0, c1, c2, hBw5⟩ := HG.out w5 HB5.out
                have HBW5 := (show Hid _ from hBw5)
                clear hB5 hBw5
                cases hfi : filesB (doF now o).1 with
                | false =>
                  have HR : Hid (diskB L S O = false) := by show _ = _; rw [HD.out, runB_none (k := k + 1) (by rw [HST.out, hr2, hfo, hfi]; rfl)]
                  go_wp2
                  go_ret
                  exact ⟨ret_bool HR.out.symm, HBW5.out⟩
                | true =>
                  have HR : Hid (runB S (O.take (k + 1)) = some (doF now o).1) := by show _ = _; rw [HST.out, hr2, hfo, hfi]; rfl
                  have HFI : Hid (filesB (doF now o).1 = true) := hfi
                  clear hfi hr2 hfo
                  go_wp2
                  exact ⟨⟨k + 1, _, by omega, by simp, rfl, (doF now o).1, HR.out, HFI.out, HU.out w5 HB35.out, HB5.out⟩, by simp [intOf]; omega⟩
          · have hke : k = n := by omega
            subst hke
            have HR : Hid (diskB L S O = sameF now L) := by
              show _ = _
              rw [HD.out]
              rw [HN.out, List.take_length] at hr
              rw [hr]
            have HRD : Hid (RdF wr nv now) := hrd
            have HBR : Hid (Below w.heap.size w wr) := hBwr
            clear hr hnow hrd hBr hBwr
            go_wp2_with fail
            refine (same_any _ _ now L wr HRD.out (HL.out wr HBR.out)).mono ?_
            rintro e w3 ⟨rfl, hB3⟩
            have HE : Hid (Below w.heap.size w w3) := HBR.out.trans (hB3.mono HBR.out.size)
            clear hB3 c0 c1 c2
            go_wp2
            go_ret
            exact ⟨ret_bool HR.out.symm, HE.out⟩
      · have h200I : ¬ (n : Int) ≤ 200 := by omega
        have h200J : (200 : Int) < (n : Int) := by omega
        have HR : Hid (diskB L S O = false) := by show _ = _; unfold diskB; rw [hfl, hfs, decide_eq_false (by rw [← HN.out]; exact h200)]; rfl
        go_wp2
        go_ret
        exact ⟨ret_bool HR.out.symm, HBW2.out⟩
end Go.Proofs.Ytbohaefmokbgbaa
