/-
  The program's nameOk, filesOk: they answer as the specification's. No condition but that the slices read and that the sizes are small.
-/
import Derived.Test.YtbohaefmokbgbaaDkK
namespace Go.Proofs.Ytbohaefmokbgbaa
open Go.RowKit
set_option linter.unusedVariables false

theorem nameOk_any (s : ByteArray) (hs : s.size ≤ 9223372036854775807) (w : World) : Calls Try.prog 75 #[.string s] w fun e w' => e = .returned (.bool (nmB s)) ∧ w' = w := by
  obtain ⟨n, hn⟩ : ∃ n, n = s.size := ⟨_, rfl⟩
  have hnI : (s.size : Int) = (n : Int) := by rw [hn]
  unfold nmB
  rw [← hn]
  clear hn hs
  by_cases h1 : 1 ≤ n
  · have h1I : (1 : Int) ≤ (n : Int) := by omega
    by_cases h2 : n ≤ 100
    · have h2I : (n : Int) ≤ 100 := by omega
      rw [decide_eq_true h1, decide_eq_true h2]
      go_enter Try.func75, Try.ntmps75
      go_wp2
      go_ret
      exact ⟨rfl, rfl⟩
    · have h2I : ¬ (n : Int) ≤ 100 := by omega
      rw [decide_eq_true h1, decide_eq_false h2]
      go_enter Try.func75, Try.ntmps75
      go_wp2
      go_ret
      exact ⟨rfl, rfl⟩
  · have h1I : ¬ (1 : Int) ≤ (n : Int) := by omega
    rw [decide_eq_false h1]
    go_enter Try.func75, Try.ntmps75
    go_wp2
    go_ret
    exact ⟨rfl, rfl⟩

set_option maxRecDepth 4000 in
set_option maxHeartbeats 2000000 in
theorem filesOk_any (v : Value) (L : List Fl) (w : World) (h : RdF w v L) (hT : tot L ≤ 1000000000) (hS : ∀ k, k < L.length → (L.getD k flZ).n.size ≤ 1000000000) :
    Calls Try.prog 63 #[v] w fun e w' => e = .returned (.bool (filesB L)) ∧ Below w.heap.size w w' := by
  obtain ⟨a, cap, rfl, hlc, hcm, hc⟩ := h
  obtain ⟨n, hn⟩ : ∃ n, n = L.length := ⟨_, rfl⟩
  have HN : Hid (n = L.length) := hn
  have HT : Hid (tot L ≤ 1000000000) := hT
  have HS : Hid (∀ k, k < L.length → (L.getD k flZ).n.size ≤ 1000000000) := hS
  rw [← hn] at hlc hc ⊢
  clear hn hT hS
  by_cases h60 : n ≤ 60
  · have h60I : (n : Int) ≤ 60 := by omega
    go_enter Try.func63, Try.ntmps63
    go_wp2
    go_loopw [3, 11] (fun y i wr => ∃ (k z : Nat), k ≤ n ∧ i = .int .i64 k ∧ y = .int .i64 z ∧ z ≤ 1000000000 ∧ Hid (z = tot (L.take k) ∧ (∀ j, j < k → flB L j = true) ∧ Below w.heap.size w wr)) (fun _ i _ => n - (intOf i).toNat)
    case atStart => exact ⟨0, 0, Nat.zero_le _, rfl, rfl, Nat.zero_le _, rfl, (fun j hj => absurd hj (Nat.not_lt_zero _)), Below.refl _ _⟩
    case round =>
      obtain ⟨k, z, hk, rfl, rfl, hz, HI⟩ := hrel
      by_cases hlt : k < n
      · have hltI : (k : Int) < (n : Int) := by omega
        obtain ⟨b, off, rfl, hbs, hl⟩ := hc (by omega)
        have hkL : k < L.length := by rw [← HN.out]; exact hlt
        have hat := hl k hkL
        have d0 := (HI.out.2.2.cell (p := ⟨b, off + k * 2, none⟩) hbs).trans hat.c0
        have d1 := (HI.out.2.2.cell (p := ⟨b, off + k * 2 + 1, none⟩) hbs).trans hat.c1
        have hsz := HS.out k hkL
        have htk := tot_take L k hkL
        have htm := tot_mono L (k + 1)
        obtain ⟨k1, hk1⟩ : ∃ k1, k1 = k - 1 := ⟨_, rfl⟩
        have p0 : 0 < k → wr.cell? ⟨b, off + k1 * 2, none⟩ = some (.string (L.getD k1 flZ).n) := fun h0 => (HI.out.2.2.cell (p := ⟨b, off + k1 * 2, none⟩) hbs).trans (hl k1 (by omega)).c0
        have hfk : flB L k = (nmB (L.getD k flZ).n && (k == 0 || lessN (L.getD k1 flZ).n (L.getD k flZ).n)) := by rw [hk1]; rfl
        obtain ⟨f, hf⟩ : ∃ f, f = L.getD k flZ := ⟨_, rfl⟩
        obtain ⟨g, hg⟩ : ∃ g, g = L.getD k1 flZ := ⟨_, rfl⟩
        rw [← hf] at d0 d1 hsz htk hfk
        rw [← hg] at p0 hfk
        have HTK : Hid (z + f.d.size = tot (L.take (k + 1))) := by show _ = _; rw [htk, ← HI.out.1]
        have hzf : z + f.d.size ≤ 1000000000 := by rw [HTK.out]; have := HT.out; omega
        obtain ⟨m, hm⟩ : ∃ m, m = f.d.size := ⟨_, rfl⟩
        have hmI : (f.d.size : Int) = (m : Int) := by rw [hm]
        rw [← hm] at hzf HTK
        obtain ⟨X, hX⟩ : ∃ X, X = wr.alloc (.cells #[.string f.n, .string f.d] 68) := ⟨_, rfl⟩
        have hBX : Below wr.heap.size wr X := by rw [hX]; exact (Below.refl _ _).alloc (Nat.le_refl _) _
        have gX : X.heap[wr.heap.size]? = some (.cells #[.string f.n, .string f.d] 68 (0, 0)) := by rw [hX]; exact heap_alloc_new _ _
        have s0 : ∀ s : Later X, s.val.cell? ⟨wr.heap.size, 0, none⟩ = some (.string f.n) := fun s => s.cell (cellN gX)
        have HS1 : Hid (∀ s : Later X, s.val.cell? ⟨wr.heap.size, 1, none⟩ = some (.string f.d)) := fun s => s.cell (cellN gX)
        have HBX : Hid (Below w.heap.size w X) := HI.out.2.2.trans (hBX.mono HI.out.2.2.size)
        have HWX := (show Hid _ from hX)
        have HP : Hid (∀ {p : Addr} {v : Value}, wr.cell? p = some v → p.block < wr.heap.size → X.cell? p = some v) := fun h hl => (hBX.cell hl).trans h
        have HBS : Hid (b < wr.heap.size) := Nat.lt_of_lt_of_le hbs HI.out.2.2.size
        have HX : Hid (∀ t : Later X, Calls Try.prog 75 #[.string f.n] t.val fun e w' => e = .returned (.bool (nmB f.n)) ∧ Below t.val.heap.size t.val w') := fun t => by
          refine (nameOk_any f.n (by omega) t.val).mono ?_
          rintro e w' ⟨rfl, hw⟩
          rw [hw]
          exact ⟨rfl, Below.refl _ _⟩
        have hne := Later.any X
        have HFK := (show Hid _ from hfk)
        clear hl hc hf hg hat htk htm hfk hm hX hBX gX
        cases hnm : nmB f.n with
        | false =>
          rw [hnm] at HX HFK
          have HR : Hid (filesB L = false) := by
            show _ = _
            unfold filesB
            rw [flsB_false hkL (by rw [HFK.out]; rfl)]
            simp
          clear p0
          go_wp2
          rw [← HWX.out]
          refine wp_region_later (by kernel_rfl) (by kernel_rfl) ?_
          repeat (go_big_quiet_step (first | (rename_i t; with_reducible exact Calls.later (HX.out t))))
          refine wpQuiet_nil ?_
          rintro _ ⟨s5, rfl⟩
          have HB : Hid (Below w.heap.size w s5.val) := HBX.out.trans (s5.ok.mono HBX.out.size)
          obtain ⟨w6, hw6⟩ : ∃ w6, w6 = s5.val := ⟨_, rfl⟩
          rw [← hw6] at HB ⊢
          clear hw6 hne HX HS1 HWX HP s5 s0 d0 d1
          go_wp2
          go_ret
          exact ⟨ret_bool HR.out.symm, HB.out⟩
        | true =>
          rw [hnm] at HX HFK
          by_cases h0 : 0 < k
          · have hg1 : decide ((0 : Int) < (k : Int)) = true := decide_eq_true (by omega)
            have hg2 : decide (0 < k) = true := decide_eq_true h0
            have q0 := p0 h0
            have s1 : ∀ s : Later X, s.val.cell? ⟨b, off + k1 * 2, none⟩ = some (.string g.n) := fun s => s.cell (HP.out q0 HBS.out)
            clear q0
            have hk1I : IntKind.i64.wrap ((k : Int) - 1) = (k1 : Int) := by rw [IntKind.wrap_i64]; omega
            have hk1n : (k1 : Int) < (n : Int) := by omega
            have hk1m : k1 < n := by omega
            have hk0 : (k == 0) = false := by simp; omega
            rw [hk0] at HFK
            cases hls : Op.bytesLess g.n.toList f.n.toList with
            | true =>
              have HJ : Hid (∀ j, j < k + 1 → flB L j = true) := fun j hj => by
                rcases Nat.lt_succ_iff_lt_or_eq.1 hj with h | rfl
                · exact HI.out.2.1 j h
                · rw [HFK.out]; unfold lessN; rw [hls]; rfl
              have hA : Op.bytesLess f.n.toList g.n.toList = false := bl_asym hls
              have hE : (f.n.toList == g.n.toList) = false := by
                cases hq : (f.n.toList == g.n.toList) with
                | false => rfl
                | true => rw [eq_of_beq hq, bl_irr] at hls; cases hls
              have hE2 : (g.n.toList == f.n.toList) = false := by rw [← hE]; exact Bool.eq_iff_iff.2 ⟨fun h => by rw [eq_of_beq h]; simp, fun h => by rw [eq_of_beq h]; simp⟩
              clear p0 hk1
              go_wp2
              rw [← HWX.out]
              refine wp_region_later (by kernel_rfl) (by kernel_rfl) ?_
              repeat (go_big_quiet_step (first | (rename_i t; with_reducible exact Calls.later (HX.out t))))
              refine wpQuiet_nil ?_
              rintro _ ⟨s5, rfl⟩
              have e1 : s5.val.cell? ⟨wr.heap.size, 1, none⟩ = some (.string f.d) := HS1.out s5
              have HB : Hid (Below w.heap.size w s5.val) := HBX.out.trans (s5.ok.mono HBX.out.size)
              obtain ⟨w6, hw6⟩ : ∃ w6, w6 = s5.val := ⟨_, rfl⟩
              rw [← hw6] at HB e1 ⊢
              clear hw6 hne HX HS1 HWX HP s5 s0 s1 d0 d1
              go_wp2
              go_roundw
              case rel => exact ⟨k + 1, z + m, by omega, by go_num, by go_num, hzf, HTK.out, HJ.out, HB.out⟩
              case measure => simp [intOf]; omega
            | false =>
              have HR : Hid (filesB L = false) := by
                show _ = _
                unfold filesB
                rw [flsB_false hkL (by rw [HFK.out]; unfold lessN; rw [hls]; rfl)]
                simp
              clear p0 hk1
              cases hA : Op.bytesLess f.n.toList g.n.toList with
              | true =>
                have hE : (f.n.toList == g.n.toList) = false := by
                  cases hq : (f.n.toList == g.n.toList) with
                  | false => rfl
                  | true => rw [eq_of_beq hq, bl_irr] at hA; cases hA
                have hE2 : (g.n.toList == f.n.toList) = false := by rw [← hE]; exact Bool.eq_iff_iff.2 ⟨fun h => by rw [eq_of_beq h]; simp, fun h => by rw [eq_of_beq h]; simp⟩
                go_wp2
                rw [← HWX.out]
                refine wp_region_later (by kernel_rfl) (by kernel_rfl) ?_
                repeat (go_big_quiet_step (first | (rename_i t; with_reducible exact Calls.later (HX.out t))))
                refine wpQuiet_nil ?_
                rintro _ ⟨s5, rfl⟩
                have HB : Hid (Below w.heap.size w s5.val) := HBX.out.trans (s5.ok.mono HBX.out.size)
                obtain ⟨w6, hw6⟩ : ∃ w6, w6 = s5.val := ⟨_, rfl⟩
                rw [← hw6] at HB ⊢
                clear hw6 hne HX HS1 HWX HP s5 s0 s1 d0 d1
                go_wp2
                go_ret
                exact ⟨ret_bool HR.out.symm, HB.out⟩
              | false =>
                have hE : (f.n.toList == g.n.toList) = true := by
                  cases hq : (f.n.toList == g.n.toList) with
                  | true => rfl
                  | false => rw [bl_tri _ _ hA (fun e => by rw [e] at hq; simp at hq)] at hls; cases hls
                have hE2 : (g.n.toList == f.n.toList) = true := by rw [← hE]; exact Bool.eq_iff_iff.2 ⟨fun h => by rw [eq_of_beq h]; simp, fun h => by rw [eq_of_beq h]; simp⟩
                go_wp2
                rw [← HWX.out]
                refine wp_region_later (by kernel_rfl) (by kernel_rfl) ?_
                repeat (go_big_quiet_step (first | (rename_i t; with_reducible exact Calls.later (HX.out t))))
                refine wpQuiet_nil ?_
                rintro _ ⟨s5, rfl⟩
                have HB : Hid (Below w.heap.size w s5.val) := HBX.out.trans (s5.ok.mono HBX.out.size)
                obtain ⟨w6, hw6⟩ : ∃ w6, w6 = s5.val := ⟨_, rfl⟩
                rw [← hw6] at HB ⊢
                clear hw6 hne HX HS1 HWX HP s5 s0 s1 d0 d1
                go_wp2
                go_ret
                exact ⟨ret_bool HR.out.symm, HB.out⟩
          · have hg1 : decide ((0 : Int) < (k : Int)) = false := decide_eq_false (by omega)
            have hg2 : decide (0 < k) = false := decide_eq_false h0
            have hk0 : (k == 0) = true := by simp; omega
            rw [hk0] at HFK
            have HJ : Hid (∀ j, j < k + 1 → flB L j = true) := fun j hj => by
              rcases Nat.lt_succ_iff_lt_or_eq.1 hj with h | rfl
              · exact HI.out.2.1 j h
              · rw [HFK.out]; rfl
            clear p0 hk1
            go_wp2
            rw [← HWX.out]
            refine wp_region_later (by kernel_rfl) (by kernel_rfl) ?_
            repeat (go_big_quiet_step (first | (rename_i t; with_reducible exact Calls.later (HX.out t))))
            refine wpQuiet_nil ?_
            rintro _ ⟨s5, rfl⟩
            have e1 : s5.val.cell? ⟨wr.heap.size, 1, none⟩ = some (.string f.d) := HS1.out s5
            have HB : Hid (Below w.heap.size w s5.val) := HBX.out.trans (s5.ok.mono HBX.out.size)
            obtain ⟨w6, hw6⟩ : ∃ w6, w6 = s5.val := ⟨_, rfl⟩
            rw [← hw6] at HB e1 ⊢
            clear hw6 hne HX HS1 HWX HP s5 s0 d0 d1
            go_wp2
            go_roundw
            case rel => exact ⟨k + 1, z + m, by omega, by go_num, by go_num, hzf, HTK.out, HJ.out, HB.out⟩
            case measure => simp [intOf]; omega
      · have hke : k = n := by omega
        subst hke
        have HE : Hid (filesB L = decide ((z : Int) ≤ 200000)) := by
          have e : L.take k = L := by rw [HN.out]; exact List.take_length
          have hz' := HI.out.1
          rw [e] at hz'
          show _ = _
          unfold filesB
          rw [decide_eq_true (by rw [← HN.out]; exact h60), flsB_true (fun j hj => HI.out.2.1 j (by rw [HN.out]; exact hj)), ← hz', Bool.true_and, Bool.true_and]
          congr 1
          exact propext ⟨fun h => by omega, fun h => by omega⟩
        have HB : Hid (Below w.heap.size w wr) := HI.out.2.2
        clear hc
        go_wp2
        go_ret
        exact ⟨ret_bool HE.out.symm, HB.out⟩
  · have h60I : ¬ (n : Int) ≤ 60 := by omega
    have HR : Hid (filesB L = false) := by
      show _ = _
      unfold filesB
      rw [decide_eq_false (by rw [← HN.out]; exact h60)]
      rfl
    clear hc
    go_enter Try.func63, Try.ntmps63
    go_wp2
    go_ret
    exact ⟨ret_bool HR.out.symm, Below.refl _ _⟩

end Go.Proofs.Ytbohaefmokbgbaa
