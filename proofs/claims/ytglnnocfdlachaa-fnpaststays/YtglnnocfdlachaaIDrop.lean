/-
  Whom an epoch's events drop, in the program. No condition but that the slices read.
-/
import Derived.Test.YtglnnocfdlachaaIAsk
import Derived.Test.YtglnnocfdlachaaICirc
namespace Go.Proofs.Ytglnnocfdlachaa
open Go.RowKit Go.Maps
set_option linter.unusedVariables false

theorem OwnEv.slice {w : World} {base : Nat} {v : Value} {L : List Ev} (h : OwnEv w base v L) : ∃ a c, v = .slice a L.length c ∧ L.length ≤ c ∧ c ≤ 9223372036854775807 ∧ ∀ k, k < L.length → ∃ g, a = some ⟨g, 0, none⟩ ∧ g < w.heap.size ∧ w.cell? ⟨g, k, none⟩ = some (encEv (L.getD k evZ)) := by
  have h' := h
  obtain ⟨h1, h2⟩ := h
  rcases h2 with ⟨rfl, h0⟩ | ⟨g, cap, cur, rfl, hb, hh, hn, hc, hs, ht⟩
  · have hL : L = [] := List.eq_nil_of_length_eq_zero h0
    subst hL
    exact ⟨none, 0, rfl, Nat.le_refl _, by omega, fun k h => absurd h (Nat.not_lt_zero _)⟩
  · refine ⟨_, cap, rfl, hn, by unfold maxLen at hc; omega, fun k hk => ⟨g, rfl, lt_of_block hh, ?_⟩⟩
    rw [World.ownsRow.cellAt h' k (by omega)]
    simp [hk]

theorem wf_small {z : Int} (h0 : 1 ≤ z) (h1 : z ≤ 5) : (Lit.int .i64 z).wf = true := by
  simp [Lit.wf, IntKind.min, IntKind.max, IntKind.signed, IntKind.bits]
  omega
theorem fine_b {y : Ev} (h : y.fine = true) : (Lit.int .i64 y.b).wf = true := by
  unfold Ev.fine inB at h
  simp at h
  exact wf_small (by omega) (by omega)
theorem fine_d {y : Ev} (h : y.fine = true) : (Lit.int .i64 y.d).wf = true := by
  unfold Ev.fine inB at h
  simp at h
  exact wf_small (by omega) (by omega)
theorem ext_no {L : List Ev} {EA : DataW Value} {k : Nat} (x : Int) (h : (L.getD k evZ).c ≠ 2) : (∃ j, j < k ∧ (L.getD j evZ).c = 2 ∧ has EA (.int .i64 (L.getD j evZ).b) = true ∧ (L.getD j evZ).d = x) ↔ ∃ j, j < k + 1 ∧ (L.getD j evZ).c = 2 ∧ has EA (.int .i64 (L.getD j evZ).b) = true ∧ (L.getD j evZ).d = x := by
  constructor
  · rintro ⟨j, hj, r⟩; exact ⟨j, by omega, r⟩
  · rintro ⟨j, hj, h1, r⟩
    have : j ≠ k := fun e => by subst e; exact h h1
    exact ⟨j, by omega, h1, r⟩
theorem ext_no' {L : List Ev} {EA : DataW Value} {k : Nat} (x : Int) (h : has EA (.int .i64 (L.getD k evZ).b) = false) : (∃ j, j < k ∧ (L.getD j evZ).c = 2 ∧ has EA (.int .i64 (L.getD j evZ).b) = true ∧ (L.getD j evZ).d = x) ↔ ∃ j, j < k + 1 ∧ (L.getD j evZ).c = 2 ∧ has EA (.int .i64 (L.getD j evZ).b) = true ∧ (L.getD j evZ).d = x := by
  constructor
  · rintro ⟨j, hj, r⟩; exact ⟨j, by omega, r⟩
  · rintro ⟨j, hj, h1, h2, r⟩
    have : j ≠ k := fun e => by subst e; rw [h] at h2; cases h2
    exact ⟨j, by omega, h1, h2, r⟩
theorem ext_yes {L : List Ev} {EA : DataW Value} {k : Nat} {z : Int} (x : Int) (h1 : (L.getD k evZ).c = 2) (h2 : has EA (.int .i64 (L.getD k evZ).b) = true) (h3 : z = (L.getD k evZ).d) : ((∃ j, j < k ∧ (L.getD j evZ).c = 2 ∧ has EA (.int .i64 (L.getD j evZ).b) = true ∧ (L.getD j evZ).d = x) ∨ z = x) ↔ ∃ j, j < k + 1 ∧ (L.getD j evZ).c = 2 ∧ has EA (.int .i64 (L.getD j evZ).b) = true ∧ (L.getD j evZ).d = x := by
  constructor
  · rintro (⟨j, hj, r⟩ | e)
    · exact ⟨j, by omega, r⟩
    · exact ⟨k, by omega, h1, h2, h3.symm.trans e⟩
  · rintro ⟨j, hj, g1, g2, g3⟩
    by_cases e : j = k
    · subst e; exact .inr (h3.trans g3)
    · exact .inl ⟨j, by omega, g1, g2, g3⟩
theorem putI_map {E : DataW Value} (h : IsMap E) (z : Int) : IsMap (putI E z) := by
  unfold putI
  exact IsMap.put h _ _

set_option maxRecDepth 10000 in
set_option maxHeartbeats 4000000 in
theorem dropped_any (C bm ba nA base : Nat) (EA : DataW Value) (v : Value) (L : List Ev) (w : World) (hC : w.heap[C]? = some (.cells #[.map (some bm), .map (some ba)] 65 (0, 0))) (hA : SetI w ba nA EA) (hv : OwnEv w base v L) (hl : L.length ≤ 30) (hf : ∀ x ∈ L, x.fine = true) :
    Calls Try.prog 49 #[.pointer (some ⟨C, 0, none⟩), v] w fun r w' => ∃ E : DataW Value, r = .returned (.map (some w.heap.size)) ∧ SetI w' w.heap.size L.length E ∧ IsMap E ∧ (∀ x, has E (.int .i64 x) = true ↔ ∃ k, k < L.length ∧ (L.getD k evZ).c = 2 ∧ has EA (.int .i64 (L.getD k evZ).b) = true ∧ (L.getD k evZ).d = x) ∧ Below w.heap.size w w' := by
  have hmm := @run_makeMap Try.prog
  obtain ⟨a, cap, rfl, hlc, hcm, hcell⟩ := hv.slice
  have HC : Hid (∀ w', Below w.heap.size w w' → w'.heap[C]? = some (.cells #[.map (some bm), .map (some ba)] 65 (0, 0)) ∧ SetI w' ba nA EA) := fun w' hB => ⟨(hB.block _ (lt_of_block hC)).trans hC, hA.below hB⟩
  have HV : Hid (∀ k, k < L.length → ∃ g, a = some ⟨g, 0, none⟩ ∧ g < w.heap.size ∧ w.cell? ⟨g, k, none⟩ = some (encEv (L.getD k evZ))) := hcell
  have HFi : Hid (∀ x ∈ L, x.fine = true) := hf
  obtain ⟨m, hm⟩ : ∃ m, m = L.length := ⟨_, rfl⟩
  have HM : Hid (m = L.length) := hm
  rw [← hm] at hl hlc ⊢
  clear hm hC hA hv hcell hf
  have HB0 : Hid (Below w.heap.size w (w.alloc (.map #[] 0))) := (Below.refl _ _).alloc (Nat.le_refl _) _
  have HS0 : Hid (SetI (w.alloc (.map #[] 0)) w.heap.size 0 (.map [])) := World.ownsMap_made w _ _ _
  go_enter Try.func49, Try.ntmps49
  go_wp2
  go_loopw [13] (fun i wr => ∃ (k : Nat) (E : DataW Value), k ≤ m ∧ i = .int .i64 k ∧ Hid (SetI wr w.heap.size k E ∧ IsMap E ∧ (∀ x, has E (.int .i64 x) = true ↔ ∃ j, j < k ∧ (L.getD j evZ).c = 2 ∧ has EA (.int .i64 (L.getD j evZ).b) = true ∧ (L.getD j evZ).d = x) ∧ Below w.heap.size w wr)) (fun i _ => m - (intOf i).toNat)
  case atStart => exact ⟨0, .map [], Nat.zero_le _, rfl, HS0.out, by simp [IsMap], (fun x => by rw [hasNil]; simp), HB0.out⟩
  case round =>
    obtain ⟨k, E, hk, rfl, HI⟩ := hrel
    by_cases hlt : k < m
    · have hltI : (k : Int) < (m : Int) := by omega
      have hkL : k < L.length := by rw [← HM.out]; exact hlt
      obtain ⟨g, rfl, hg, hcg⟩ := HV.out k hkL
      obtain ⟨y, hy⟩ : ∃ y, y = L.getD k evZ := ⟨_, rfl⟩
      have hyf : y.fine = true := by rw [hy]; exact HFi.out _ (by simp [hkL])
      have hkd : y.c = 1 ∨ y.c = 2 ∨ y.c = 3 := by unfold Ev.fine inB at hyf; simp at hyf; omega
      have hce : wr.cell? ⟨g, k, none⟩ = some (encEv y) := by rw [hy]; exact (HI.out.2.2.2.cell (p := ⟨g, k, none⟩) hg).trans hcg
      have HYK : Hid (y = L.getD k evZ) := hy
      clear hy hcg
      rcases hkd with hk1 | hk1 | hk1
      · have he : encEv y = .iface 87 (.agg #[.int .i64 y.b, .int .i64 y.d]) := by unfold encEv; simp [hk1]
        rw [he] at hce
        have h1 := noDrop1 (.agg #[.int .i64 y.b, .int .i64 y.d])
        clear he
        go_wp2
        go_quiet (fail)
        have HF : Hid (SetI wr w.heap.size (k + 1) E ∧ IsMap E ∧ (∀ x, has E (.int .i64 x) = true ↔ ∃ j, j < k + 1 ∧ (L.getD j evZ).c = 2 ∧ has EA (.int .i64 (L.getD j evZ).b) = true ∧ (L.getD j evZ).d = x)) := ⟨World.ownsMap.mono HI.out.1 (Nat.le_succ _), HI.out.2.1, fun x => (HI.out.2.2.1 x).trans (ext_no x (by rw [← HYK.out, hk1]; decide))⟩
        go_wp2
        go_roundw
        case rel => exact ⟨k + 1, E, by omega, by go_num, (HF.out.1.below ((Below.refl _ _).alloc (Nat.le_refl _) _)).kept rfl, HF.out.2.1, HF.out.2.2, (HI.out.2.2.2.alloc HI.out.2.2.2.size _).trans ⟨rfl, rfl, rfl, Nat.le_refl _, fun _ _ => rfl⟩⟩
        case measure => simp [intOf]; omega
      · have he : encEv y = .iface 91 (.agg #[.int .i64 y.b, .int .i64 y.d]) := by unfold encEv; simp [hk1]
        rw [he] at hce
        have h1 := asDrop (.agg #[.int .i64 y.b, .int .i64 y.d])
        have hbA : Below w.heap.size w (wr.alloc (.cells #[.int .i64 y.b, .int .i64 y.d] 91)) := HI.out.2.2.2.alloc HI.out.2.2.2.size _
        have hb0 : (wr.alloc (.cells #[.int .i64 y.b, .int .i64 y.d] 91)).heap[wr.heap.size]? = some (.cells #[.int .i64 y.b, .int .i64 y.d] 91 (0, 0)) := heap_alloc_new _ _
        have HLB : Hid (∀ s : Later (wr.alloc (.cells #[.int .i64 y.b, .int .i64 y.d] 91)), Below w.heap.size w s.val) := fun s => hbA.trans (s.ok.mono hbA.size)
        have p0 : ∀ s : Later (wr.alloc (.cells #[.int .i64 y.b, .int .i64 y.d] 91)), s.val.cell? ⟨C, 1, none⟩ = some (.map (some ba)) := fun s => cellN (HC.out _ (hbA.trans (s.ok.mono hbA.size))).1
        have p1 : ∀ s : Later (wr.alloc (.cells #[.int .i64 y.b, .int .i64 y.d] 91)), s.val.cell? ⟨wr.heap.size, 0, none⟩ = some (.int .i64 y.b) := fun s => s.cell (cellN hb0)
        have p2 : ∀ s : Later (wr.alloc (.cells #[.int .i64 y.b, .int .i64 y.d] 91)), s.val.cell? ⟨wr.heap.size, 1, none⟩ = some (.int .i64 y.d) := fun s => s.cell (cellN hb0)
        have hwb : (Lit.int .i64 y.b).wf = true := fine_b hyf
        have hwd : (Lit.int .i64 y.d).wf = true := fine_d hyf
        have HXA : Hid (∀ t : Later (wr.alloc (.cells #[.int .i64 y.b, .int .i64 y.d] 91)), Calls Try.prog 63 #[.agg #[.int .i64 y.b, .int .i64 y.d]] t.val fun e w' => e = .returned (.int .i64 y.b) ∧ Below t.val.heap.size t.val w') := fun t => author_any _ _ _
        have HXS : Hid (∀ t : Later (wr.alloc (.cells #[.int .i64 y.b, .int .i64 y.d] 91)), Calls Try.prog 50 #[.map (some ba), .int .i64 y.b] t.val fun e w' => e = .returned (.bool (has EA (.int .i64 y.b))) ∧ Below t.val.heap.size t.val w') := fun t => hasSet_any ba nA EA y.b t.val (HC.out _ (HLB.out t)).2 hwb
        have hne := Later.any (wr.alloc (.cells #[.int .i64 y.b, .int .i64 y.d] 91))
        clear he hbA hb0
        go_wp2
        refine wp_region_later (by kernel_rfl) (by kernel_rfl) ?_
        repeat (go_big_quiet_step (first | (rename_i t; with_reducible exact Calls.later (HXA.out t)) | (rename_i t; with_reducible exact Calls.later (HXS.out t))))
        refine wpQuiet_nil ?_
        rintro _ ⟨s3, rfl⟩
        have b3 : Below w.heap.size w s3.val := HLB.out s3
        have q1 := p1 s3
        have q2 := p2 s3
        have S3 : SetI s3.val w.heap.size k E := (HI.out.1.below ((Below.refl _ _).alloc (Nat.le_refl _) _)).below s3.ok
        obtain ⟨w3, hw3⟩ : ∃ w3, w3 = s3.val := ⟨_, rfl⟩
        rw [← hw3] at b3 q1 q2 S3 ⊢
        have H3 : Hid (Below w.heap.size w w3 ∧ SetI w3 w.heap.size k E) := ⟨b3, S3⟩
        clear hw3 b3 S3 p0 p1 p2 HXA HXS hne HLB s3
        cases hh : has EA (.int .i64 y.b) with
        | false =>
          have HF : Hid (SetI w3 w.heap.size (k + 1) E ∧ IsMap E ∧ (∀ x, has E (.int .i64 x) = true ↔ ∃ j, j < k + 1 ∧ (L.getD j evZ).c = 2 ∧ has EA (.int .i64 (L.getD j evZ).b) = true ∧ (L.getD j evZ).d = x) ∧ Below w.heap.size w w3) := ⟨World.ownsMap.mono H3.out.2 (Nat.le_succ _), HI.out.2.1, fun x => (HI.out.2.2.1 x).trans (ext_no' x (by rw [← HYK.out, hh])), H3.out.1⟩
          go_wp2
          go_roundw
          case rel => exact ⟨k + 1, E, by omega, by go_num, HF⟩
          case measure => simp [intOf]; omega
        | true =>
          go_wp2_with fail
          refine (who_any y.b y.d w3).mono ?_
          rintro r w4 ⟨rfl, hB4⟩
          have b4 : Below w.heap.size w w4 := H3.out.1.trans (hB4.mono H3.out.1.size)
          have S4 := H3.out.2.below hB4
          clear hB4
          go_wp2_with fail
          refine (putI_any w.heap.size k E y.d w4 S4 (by omega) hwd).mono ?_
          rintro r w5 ⟨rfl, hS5, hG5⟩
          have HF : Hid (SetI w5 w.heap.size (k + 1) (putI E y.d) ∧ IsMap (putI E y.d) ∧ (∀ x, has (putI E y.d) (.int .i64 x) = true ↔ ∃ j, j < k + 1 ∧ (L.getD j evZ).c = 2 ∧ has EA (.int .i64 (L.getD j evZ).b) = true ∧ (L.getD j evZ).d = x) ∧ Below w.heap.size w w5) := by
            refine ⟨hS5, putI_map HI.out.2.1 _, fun x => ?_, b4.grown hG5 b4.size (fun j hj => by cases hj; exact Nat.le_refl _)⟩
            rw [putI_has HI.out.2.1, HI.out.2.2.1 x]
            exact ext_yes x (by rw [← HYK.out]; exact hk1) (by rw [← HYK.out]; exact hh) (by rw [← HYK.out])
          clear b4 S4 hS5 hG5
          go_wp2
          go_roundw
          case rel => exact ⟨k + 1, _, by omega, by go_num, HF⟩
          case measure => simp [intOf]; omega
      · have he : encEv y = .iface 88 (.agg #[.int .i64 y.b, .int .i64 y.d]) := by unfold encEv; simp [hk1]
        rw [he] at hce
        have h1 := noDrop3 (.agg #[.int .i64 y.b, .int .i64 y.d])
        clear he
        go_wp2
        go_quiet (fail)
        have HF : Hid (SetI wr w.heap.size (k + 1) E ∧ IsMap E ∧ (∀ x, has E (.int .i64 x) = true ↔ ∃ j, j < k + 1 ∧ (L.getD j evZ).c = 2 ∧ has EA (.int .i64 (L.getD j evZ).b) = true ∧ (L.getD j evZ).d = x)) := ⟨World.ownsMap.mono HI.out.1 (Nat.le_succ _), HI.out.2.1, fun x => (HI.out.2.2.1 x).trans (ext_no x (by rw [← HYK.out, hk1]; decide))⟩
        go_wp2
        go_roundw
        case rel => exact ⟨k + 1, E, by omega, by go_num, (HF.out.1.below ((Below.refl _ _).alloc (Nat.le_refl _) _)).kept rfl, HF.out.2.1, HF.out.2.2, (HI.out.2.2.2.alloc HI.out.2.2.2.size _).trans ⟨rfl, rfl, rfl, Nat.le_refl _, fun _ _ => rfl⟩⟩
        case measure => simp [intOf]; omega
    · have hke : k = m := by omega
      subst hke
      go_wp2
      go_ret
      exact ⟨E, rfl, HI.out.1, HI.out.2.1, HI.out.2.2.1, HI.out.2.2.2⟩
end Go.Proofs.Ytglnnocfdlachaa
