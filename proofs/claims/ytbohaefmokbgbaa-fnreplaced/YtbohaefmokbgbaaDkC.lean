/-
  slices.Equal at files; the program's changeOf. No condition but that the slices read and that the sizes are small.
-/
import Derived.Test.YtbohaefmokbgbaaDkN
namespace Go.Proofs.Ytbohaefmokbgbaa
open Go.RowKit
set_option linter.unusedVariables false

set_option maxRecDepth 4000 in
set_option maxHeartbeats 2000000 in
theorem equal_any (v u : Value) (L M : List Fl) (w : World) (h : RdF w v L) (h' : RdF w u M) :
    Calls Try.prog 64 #[v, u] w fun e w' => e = .returned (.bool (sameF L M)) ∧ Below w.heap.size w w' := by
  obtain ⟨a, cap, rfl, hlc, hcm, hc⟩ := h
  obtain ⟨a', cap', rfl, hlc', hcm', hc'⟩ := h'
  obtain ⟨n, hn⟩ : ∃ n, n = L.length := ⟨_, rfl⟩
  obtain ⟨m, hm⟩ : ∃ m, m = M.length := ⟨_, rfl⟩
  have HN : Hid (n = L.length) := hn
  have HM : Hid (m = M.length) := hm
  rw [← hn] at hlc hc ⊢
  rw [← hm] at hlc' hc' ⊢
  clear hn hm
  by_cases hnm : n = m
  · subst hnm
    have hbn : ((n : Int) != (n : Int)) = false := by simp
    go_enter Try.func64, Try.ntmps64
    go_wp2
    go_loopw [13] (fun i wr => ∃ (k : Nat), k ≤ n ∧ i = .int .i64 k ∧ Hid ((∀ j, j < k → flEq (L.getD j flZ) (M.getD j flZ) = true) ∧ Below w.heap.size w wr)) (fun i _ => n - (intOf i).toNat)
    case atStart => exact ⟨0, Nat.zero_le _, rfl, (fun j hj => absurd hj (Nat.not_lt_zero _)), Below.refl _ _⟩
    case round =>
      obtain ⟨k, hk, rfl, HI⟩ := hrel
      by_cases hlt : k < n
      · have hltI : (k : Int) < (n : Int) := by omega
        obtain ⟨b, off, rfl, hbs, hl⟩ := hc (by omega)
        obtain ⟨b', off', rfl, hbs', hl'⟩ := hc' (by omega)
        have hkL : k < L.length := by rw [← HN.out]; exact hlt
        have hat := hl k hkL
        have hat' := hl' k (by rw [← HM.out]; exact hlt)
        have d0 := (HI.out.2.cell (p := ⟨b, off + k * 2, none⟩) hbs).trans hat.c0
        have d1 := (HI.out.2.cell (p := ⟨b, off + k * 2 + 1, none⟩) hbs).trans hat.c1
        have e0 := (HI.out.2.cell (p := ⟨b', off' + k * 2, none⟩) hbs').trans hat'.c0
        have e1 := (HI.out.2.cell (p := ⟨b', off' + k * 2 + 1, none⟩) hbs').trans hat'.c1
        obtain ⟨f, hf⟩ : ∃ f, f = L.getD k flZ := ⟨_, rfl⟩
        obtain ⟨g, hg⟩ : ∃ g, g = M.getD k flZ := ⟨_, rfl⟩
        rw [← hf] at d0 d1
        rw [← hg] at e0 e1
        have HFG : Hid (f = L.getD k flZ ∧ g = M.getD k flZ) := ⟨hf, hg⟩
        clear hl hl' hc hc' hf hg hat hat'
        cases hq : flEq f g with
        | true =>
          have hq' := hq
          unfold flEq at hq'
          simp only [Bool.and_eq_true] at hq'
          obtain ⟨q1, q2⟩ := hq'
          have HJ : Hid (∀ j, j < k + 1 → flEq (L.getD j flZ) (M.getD j flZ) = true) := fun j hj => by
            rcases Nat.lt_succ_iff_lt_or_eq.1 hj with h | rfl
            · exact HI.out.1 j h
            · rw [← HFG.out.1, ← HFG.out.2]; exact hq
          have HB := (show Hid _ from HI.out.2)
          clear hq
          go_wp2
          go_quiet (fail)
          go_wp2
          go_roundw
          case rel => exact ⟨k + 1, by omega, by go_num, HJ.out, below_drewN HB.out _⟩
          case measure => simp [intOf]; omega
        | false =>
          have HR : Hid (sameF L M = false) := sameF_false hkL (by rw [← HFG.out.1, ← HFG.out.2]; exact hq)
          have HB := (show Hid _ from HI.out.2)
          unfold flEq at hq
          cases q1 : (f.n.toList == g.n.toList) with
          | false =>
            clear hq
            go_wp2
            go_quiet (fail)
            go_wp2
            go_ret
            exact ⟨ret_bool HR.out.symm, below_drewN HB.out _⟩
          | true =>
            rw [q1, Bool.true_and] at hq
            go_wp2
            go_quiet (fail)
            go_wp2
            go_ret
            exact ⟨ret_bool HR.out.symm, below_drewN HB.out _⟩
      · have hke : k = n := by omega
        subst hke
        have HR : Hid (sameF L M = true) := sameF_true (by rw [← HN.out, ← HM.out]) (fun j hj => HI.out.1 j (by rw [HN.out]; exact hj))
        have HB := (show Hid _ from HI.out.2)
        clear hc hc'
        go_wp2
        go_ret
        exact ⟨ret_bool HR.out.symm, HB.out⟩
  · have hbn : ((n : Int) != (m : Int)) = true := by simp; omega
    have HR : Hid (sameF L M = false) := by show _ = _; unfold sameF; rw [decide_eq_false (by rw [← HN.out, ← HM.out]; exact hnm)]; rfl
    clear hc hc'
    go_enter Try.func64, Try.ntmps64
    go_wp2
    go_ret
    exact ⟨ret_bool HR.out.symm, Below.refl _ _⟩

/-- an op of its form, as the program's change -/
def chV (o : Dop) : Value :=
  if o.k = 1 then .iface 111 (.agg #[.string o.n, .string o.d])
  else if o.k = 2 then .iface 114 (.agg #[.string o.n, .string o.t])
  else .iface 116 (.agg #[.string o.n])

set_option maxRecDepth 4000 in
set_option maxHeartbeats 2000000 in
theorem changeOf_any (o : Dop) (w : World) (h1 : o.n.size ≤ 1000000000) (h2 : o.t.size ≤ 1000000000) :
    Calls Try.prog 42 #[.agg (encO o)] w fun e w' => ∃ c, e = .returned (.tuple #[c, .bool (formB o)]) ∧ (formB o = true → c = chV o) ∧ Below w.heap.size w w' := by
  obtain ⟨X, hX⟩ : ∃ X, X = w.alloc (.cells #[.int .i64 o.k, .string o.n, .string o.t, .string o.d] 49) := ⟨_, rfl⟩
  have hBX : Below w.heap.size w X := by rw [hX]; exact (Below.refl _ _).alloc (Nat.le_refl _) _
  have gX : X.heap[w.heap.size]? = some (.cells #[.int .i64 o.k, .string o.n, .string o.t, .string o.d] 49 (0, 0)) := by rw [hX]; exact heap_alloc_new _ _
  have c0 : X.cell? ⟨w.heap.size, 0, none⟩ = some (.int .i64 o.k) := cellN gX
  have c1 : X.cell? ⟨w.heap.size, 1, none⟩ = some (.string o.n) := cellN gX
  have c2 : X.cell? ⟨w.heap.size, 2, none⟩ = some (.string o.t) := cellN gX
  have c3 : X.cell? ⟨w.heap.size, 3, none⟩ = some (.string o.d) := cellN gX
  have e1 := c1
  rw [hX] at e1
  have HX := (show Hid _ from hX)
  have HB := (show Hid _ from hBX)
  have HN1 : Hid (o.n.size ≤ 1000000000) := h1
  have HN2 : Hid (o.t.size ≤ 1000000000) := h2
  have HC2 : Hid (∀ s : Later X, s.val.cell? ⟨w.heap.size, 1, none⟩ = some (.string o.n) ∧ s.val.cell? ⟨w.heap.size, 2, none⟩ = some (.string o.t)) := fun s => ⟨s.cell c1, s.cell c2⟩
  clear hX hBX gX h1 h2
  unfold encO
  go_enter Try.func42, Try.ntmps42
  go_wp2_with fail
  rw [← HX.out]
  refine (nameOk_any _ (by have := HN1.out; omega) _).mono ?_
  rintro e w' ⟨rfl, hw⟩
  rw [hw]
  clear hw w' e1 HX
  cases hnm : nmB o.n with
  | false =>
    have HR : Hid (formB o = false) := by show _ = _; unfold formB; rw [hnm]; simp
    go_wp2
    go_ret2
    exact ⟨_, by rw [HR.out]; rfl, fun h => by (rw [HR.out] at h; cases h), HB.out⟩
  | true =>
    by_cases h2 : o.k = 2
    · have h2b : (o.k == 2) = true := by simpa using h2
      have h2c : (o.k != 2) = false := by simpa using h2
      have h1b : (o.k == 1) = false := by simp; omega
      have h1c : (o.k != 1) = true := by simp; omega
      have HK : Hid (o.k = 2) := h2
      have HF : Hid (formB o = (nmB o.t && o.d.toList.isEmpty)) := by show _ = _; unfold formB inB; rw [hnm, if_pos h2, h2]; rfl
      clear h2
      cases hd : o.d.toList.isEmpty with
      | false =>
        have HR : Hid (formB o = false) := by show _ = _; rw [HF.out, hd]; simp
        go_wp2
        go_ret2
        exact ⟨_, by rw [HR.out]; rfl, fun h => by (rw [HR.out] at h; cases h), HB.out⟩
      | true =>
        have HR : Hid (formB o = nmB o.t) := by show _ = _; rw [HF.out, hd]; simp
        have HV : Hid (chV o = .iface 114 (.agg #[.string o.n, .string o.t])) := by show _ = _; unfold chV; rw [if_neg (by rw [HK.out]; decide), if_pos HK.out]
        have HQ : Hid (∀ t : Later X, Calls Try.prog 75 #[.string o.t] t.val fun e w' => e = .returned (.bool (nmB o.t)) ∧ Below t.val.heap.size t.val w') := fun t => by
          refine (nameOk_any o.t (by have := HN2.out; omega) t.val).mono ?_
          rintro e w' ⟨rfl, hw⟩
          rw [hw]
          exact ⟨rfl, Below.refl _ _⟩
        have s1 : ∀ s : Later X, s.val.cell? ⟨w.heap.size, 1, none⟩ = some (.string o.n) := fun s => (HC2.out s).1
        have s2 : ∀ s : Later X, s.val.cell? ⟨w.heap.size, 2, none⟩ = some (.string o.t) := fun s => (HC2.out s).2
        have hne := Later.any X
        go_wp2
        refine wp_region_later (by kernel_rfl) (by kernel_rfl) ?_
        repeat (go_big_quiet_step (first | (rename_i t; with_reducible exact Calls.later (HQ.out t))))
        refine wpQuiet_nil ?_
        rintro _ ⟨s5, rfl⟩
        have HB5 : Hid (Below w.heap.size w s5.val) := HB.out.trans (s5.ok.mono HB.out.size)
        obtain ⟨w6, hw6⟩ : ∃ w6, w6 = s5.val := ⟨_, rfl⟩
        rw [← hw6] at HB5 ⊢
        clear hw6 hne HQ s5 s1 s2 c0 c1 c2 c3
        go_wp2
        go_ret2
        exact ⟨_, by rw [HR.out]; rfl, fun _ => HV.out.symm, HB5.out⟩
    · have h2b : (o.k == 2) = false := by simpa using h2
      have h2c : (o.k != 2) = true := by simpa using h2
      have HF : Hid (formB o = (inB 1 3 o.k && (o.t.toList.isEmpty && (o.k == 1 || o.d.toList.isEmpty)))) := by show _ = _; unfold formB; rw [hnm, if_neg h2]; rfl
      have HK2 : Hid (o.k ≠ 2) := h2
      clear h2
      cases ht : o.t.toList.isEmpty with
      | false =>
        have HR : Hid (formB o = false) := by show _ = _; rw [HF.out, ht]; simp
        go_wp2
        go_ret2
        exact ⟨_, by rw [HR.out]; rfl, fun h => by (rw [HR.out] at h; cases h), HB.out⟩
      | true =>
        by_cases h1 : o.k = 1
        · have h1b : (o.k == 1) = true := by simpa using h1
          have h1c : (o.k != 1) = false := by simpa using h1
          have HR : Hid (formB o = true) := by show _ = _; rw [HF.out, ht, h1]; rfl
          have HV : Hid (chV o = .iface 111 (.agg #[.string o.n, .string o.d])) := by show _ = _; unfold chV; rw [if_pos h1]
          clear h1
          go_wp2
          go_ret2
          exact ⟨_, by rw [HR.out]; rfl, fun _ => HV.out.symm, HB.out⟩
        · have h1b : (o.k == 1) = false := by simpa using h1
          have h1c : (o.k != 1) = true := by simpa using h1
          cases hd : o.d.toList.isEmpty with
          | false =>
            have HR : Hid (formB o = false) := by show _ = _; rw [HF.out, ht, h1b, hd]; simp
            clear h1
            go_wp2
            go_ret2
            exact ⟨_, by rw [HR.out]; rfl, fun h => by (rw [HR.out] at h; cases h), HB.out⟩
          | true =>
            by_cases h3 : o.k = 3
            · have h3b : (o.k == 3) = true := by simpa using h3
              have HR : Hid (formB o = true) := by show _ = _; rw [HF.out, ht, hd, h3]; rfl
              have HV : Hid (chV o = .iface 116 (.agg #[.string o.n])) := by show _ = _; unfold chV; rw [if_neg h1, if_neg HK2.out]
              clear h1 h3
              go_wp2
              go_ret2
              exact ⟨_, by rw [HR.out]; rfl, fun _ => HV.out.symm, HB.out⟩
            · have h3b : (o.k == 3) = false := by simpa using h3
              have HR : Hid (formB o = false) := by
                show _ = _
                rw [HF.out]
                have : inB 1 3 o.k = false := by
                  unfold inB
                  have := HK2.out
                  simp
                  omega
                rw [this]
                rfl
              clear h1 h3
              go_wp2
              go_ret2
              exact ⟨_, by rw [HR.out]; rfl, fun h => by (rw [HR.out] at h; cases h), HB.out⟩
end Go.Proofs.Ytbohaefmokbgbaa
