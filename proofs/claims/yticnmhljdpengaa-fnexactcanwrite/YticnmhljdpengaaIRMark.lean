/-
  Slices of numbers and rosters: the laws' own functions over them. No condition but that the slices read.
-/
import Derived.Test.YticnmhljdpengaaRsF
namespace Go.Proofs.Yticnmhljdpengaa
open Go.RowKit
set_option linter.unusedVariables false

theorem OwnI.kept {w w' : World} {base : Nat} {v : Value} {L : List Int} {r : Option Nat} (h : OwnI w base v L) (hG : w.grownBy w' r) (hne : ∀ k, v.ownBlock = some k → some k ≠ r) : OwnI w' base v L := by
  have hlt := World.ownsRow.lt h
  obtain ⟨h1, h2⟩ := h
  refine ⟨h1, ?_⟩
  rcases h2 with h2 | ⟨g, cap, cur, hv, hb, hh, q⟩
  · exact .inl h2
  · have hg : v.ownBlock = some g := by rw [hv]; rfl
    exact .inr ⟨g, cap, cur, hv, hb, (hG.block g (hlt g hg).2 (hne g hg)).trans hh, q⟩
theorem OwnI.nil (w : World) (base : Nat) : OwnI w base (.slice none 0 0) [] := ⟨rfl, .inl ⟨rfl, rfl⟩⟩

set_option maxHeartbeats 1000000 in
theorem eqI_same (v v' : Value) (L : List Int) (w : World) (h : RdI w v L) (h' : RdI w v' L) :
    Calls Try.prog 37 #[v, v'] w fun e w' => e = .returned (.bool true) ∧ Below w.heap.size w w' := by
  obtain ⟨a, cap, rfl, hlc, hcm, hc⟩ := h
  obtain ⟨a', cap', rfl, hlc', hcm', hc'⟩ := h'
  obtain ⟨len, hlen⟩ : ∃ len, len = L.length := ⟨_, rfl⟩
  rw [← hlen] at hlc hlc' hc hc' ⊢
  clear hlen
  have hbn : ((len : Int) != (len : Int)) = false := by simp
  go_enter Try.func37, Try.ntmps37
  go_wp2
  go_loopw [5] (fun i wr => ∃ (k : Nat), k ≤ len ∧ i = .int .i64 k ∧ Below w.heap.size w wr)
    (fun i _ => len - (intOf i).toNat)
  case atStart => exact ⟨0, Nat.zero_le _, rfl, Below.refl _ _⟩
  case round =>
    obtain ⟨k, hk, rfl, hB⟩ := hrel
    by_cases hlt : k < len
    · obtain ⟨b, off, rfl, hbs, hcell⟩ := hc (by omega)
      obtain ⟨b', off', rfl, hbs', hcell'⟩ := hc' (by omega)
      have d1 := (hB.cell (p := ⟨b, off + k, none⟩) hbs).trans (hcell k hlt)
      have d1' := (hB.cell (p := ⟨b', off' + k, none⟩) hbs').trans (hcell' k hlt)
      obtain ⟨z, hz⟩ : ∃ z, z = L.getD k 0 := ⟨_, rfl⟩
      rw [← hz] at d1 d1'
      have hss : (z != z) = false := by simp
      clear hcell hc hcell' hc' hz
      go_wp2
      go_quiet (fail)
      go_wp2
      go_roundw
      case rel => exact ⟨k + 1, by omega, by go_num, hB.trans ⟨rfl, rfl, rfl, Nat.le_refl _, fun _ _ => rfl⟩⟩
      case measure => simp [intOf]; omega
    · have hke : k = len := by omega
      subst hke
      go_wp2
      go_ret
      exact ⟨rfl, hB⟩

/-- n marks, from s on -/
def marksI (s n : Nat) : List Int := (List.range n).map fun i => ((s + i : Nat) : Int)
theorem marksI_len (s n : Nat) : (marksI s n).length = n := by unfold marksI; simp
theorem marksI_at {s n i : Nat} (h : i < n) : (marksI s n).getD i 0 = ((s + i : Nat) : Int) := by unfold marksI; simp [h]
theorem marksI_of {s n : Nat} {xs : List Value} (hl : xs.length = n) (h : ∀ i, i < n → xs[i]? = some (.int .i64 ((s + i : Nat) : Int))) : xs = (marksI s n).map (.int .i64 ·) := by
  apply List.ext_getElem?
  intro i
  by_cases hi : i < n
  · rw [h i hi]; unfold marksI; simp [hi]
  · rw [List.getElem?_eq_none (by omega), List.getElem?_eq_none (by simp [marksI_len]; omega)]

set_option maxHeartbeats 1000000 in
theorem markI_any (base : Nat) (v : Value) (L : List Int) (s : Nat) (w : World) (h : OwnI w base v L) (hb : L.length ≤ 1000000) (hs : s ≤ 1099511627776) :
    Calls Try.prog 38 #[v, .int .i64 (s : Int)] w fun e w' => e = .returned (.int .i64 ((s + L.length : Nat) : Int)) ∧ OwnI w' base v (marksI s L.length) ∧ w.grownBy w' v.ownBlock := by
  obtain ⟨a, cap, rfl⟩ := h.slice
  obtain ⟨len, hlen⟩ : ∃ len, len = L.length := ⟨_, rfl⟩
  have HO0 : Hid (w.ownsRow base 2 1 (.slice a len cap) len (L.map (.int .i64 ·))) := by rw [hlen]; exact h
  have hr : ∀ w' : World, w'.ownsRow base 2 1 (.slice a len cap) len ((marksI s len).map (.int .i64 ·)) → OwnI w' base (.slice a len cap) (marksI s len) := fun w' q => by unfold OwnI; rw [marksI_len]; exact q
  have HR := (show Hid _ from hr)
  have hcap : cap ≤ 9223372036854775807 ∧ len ≤ cap := by
    obtain ⟨a', c', e, h1, h2, _⟩ := h.rd
    simp at e
    obtain ⟨_, rfl⟩ := e
    rw [hlen]
    exact ⟨h2, h1⟩
  rw [← hlen] at hb ⊢
  clear hlen h hr
  obtain ⟨hcm, hlc⟩ := hcap
  go_enter Try.func38, Try.ntmps38
  go_wp2
  go_loopw [1, 5] (fun x i wr => ∃ (j : Nat) (xs : List Value), j ≤ len ∧ i = .int .i64 j ∧ x = .int .i64 ((s + j : Nat) : Int) ∧ wr.ownsRow base 2 1 (.slice a len cap) len xs ∧ Hid (∀ t, t < j → xs[t]? = some (.int .i64 ((s + t : Nat) : Int))) ∧ w.grownBy wr (Value.slice a len cap).ownBlock)
    (fun _ i _ => len - (intOf i).toNat)
  case atStart => exact ⟨0, _, Nat.zero_le _, rfl, rfl, HO0.out, fun t ht => absurd ht (Nat.not_lt_zero _), World.grownBy.refl _ _⟩
  case round =>
    obtain ⟨j, xs, hj, rfl, rfl, how, HA, hG⟩ := hrel
    by_cases hlt : j < len
    · obtain ⟨g, rfl⟩ : ∃ g, a = some ⟨g, 0, none⟩ := by
        rcases how.2 with ⟨h', h0⟩ | ⟨g, cap', cur, h', _⟩
        · omega
        · simp only [Value.slice.injEq] at h'
          exact ⟨g, h'.1⟩
      have hltI : (j : Int) < (len : Int) := by omega
      have hxl : xs.length = len * 1 := how.1
      have f1 := how.frozenAt j
      obtain ⟨v1, e1⟩ := own_some how j (by omega)
      have HO : Hid (_) := how
      have HG : Hid (_) := hG
      clear how hG
      go_wp2
      go_roundw
      case rel =>
        refine ⟨j + 1, xs.set j (.int .i64 ((s + j : Nat) : Int)), by omega, by go_num, by go_num, (World.ownsRow.stored HO.out _ _).1, ?_, HG.out.trans (World.ownsRow.stored HO.out _ _).2⟩
        intro t ht
        rcases Nat.lt_succ_iff_lt_or_eq.1 ht with h1 | rfl
        · rw [List.getElem?_set_ne (by omega)]
          exact HA.out t h1
        · rw [List.getElem?_set_self (by omega)]
      case measure => simp [intOf]; omega
    · have hje : j = len := by omega
      subst hje
      have hm : xs = (marksI s j).map (.int .i64 ·) := marksI_of (by have := how.1; omega) HA.out
      have HO : Hid (wr.ownsRow base 2 1 (.slice a j cap) j ((marksI s j).map (.int .i64 ·))) := by rw [← hm]; exact how
      clear how hm
      go_wp2
      go_ret
      exact ⟨rfl, HR.out _ HO.out, hG⟩

set_option maxHeartbeats 1000000 in
theorem heldI_any (v : Value) (s n : Nat) (w : World) (h : RdI w v (marksI s n)) (hb : n ≤ 1000000) (hs : s ≤ 1099511627776) :
    Calls Try.prog 39 #[v, .int .i64 (s : Int)] w fun e w' => e = .returned (.int .i64 ((s + n : Nat) : Int)) ∧ Below w.heap.size w w' := by
  obtain ⟨a, cap, rfl, hlc, hcm, hc⟩ := h
  rw [marksI_len] at hlc hc ⊢
  go_enter Try.func39, Try.ntmps39
  go_wp2
  go_loopw [1, 5] (fun x i wr => ∃ (j : Nat), j ≤ n ∧ i = .int .i64 j ∧ x = .int .i64 ((s + j : Nat) : Int) ∧ Below w.heap.size w wr)
    (fun _ i _ => n - (intOf i).toNat)
  case atStart => exact ⟨0, Nat.zero_le _, rfl, rfl, Below.refl _ _⟩
  case round =>
    obtain ⟨j, hj, rfl, rfl, hB⟩ := hrel
    by_cases hlt : j < n
    · obtain ⟨b, off, rfl, hbs, hcell⟩ := hc (by omega)
      have hltI : (j : Int) < (n : Int) := by omega
      have d1 := (hB.cell (p := ⟨b, off + j, none⟩) hbs).trans (hcell j hlt)
      rw [marksI_at hlt] at d1
      have hss : ((((s + j : Nat) : Int)) != ((s + j : Nat) : Int)) = false := by simp
      clear hcell hc
      go_wp2
      go_roundw
      case rel => exact ⟨j + 1, by omega, by go_num, by go_num, hB⟩
      case measure => simp [intOf]; omega
    · have hje : j = n := by omega
      subst hje
      go_wp2
      go_ret
      exact ⟨rfl, hB⟩

set_option maxHeartbeats 2000000 in
theorem eqR_same (vM vA uM uA : Value) (M A : List Int) (w : World) (h1 : RdI w vM M) (h2 : RdI w vA A) (h3 : RdI w uM M) (h4 : RdI w uA A) :
    Calls Try.prog 15 #[.agg #[vM, vA], .agg #[uM, uA]] w fun e w' => e = .returned (.bool true) ∧ Below w.heap.size w w' := by
  obtain ⟨a1, c1, e1⟩ : ∃ a c, vM = .slice a M.length c := by obtain ⟨a, c, e, _⟩ := h1; exact ⟨a, c, e⟩
  obtain ⟨a2, c2, e2⟩ : ∃ a c, vA = .slice a A.length c := by obtain ⟨a, c, e, _⟩ := h2; exact ⟨a, c, e⟩
  obtain ⟨a3, c3, e3⟩ : ∃ a c, uM = .slice a M.length c := by obtain ⟨a, c, e, _⟩ := h3; exact ⟨a, c, e⟩
  obtain ⟨a4, c4, e4⟩ : ∃ a c, uA = .slice a A.length c := by obtain ⟨a, c, e, _⟩ := h4; exact ⟨a, c, e⟩
  subst e1 e2 e3 e4
  have H1 := (show Hid _ from h1)
  have H2 := (show Hid _ from h2)
  have H3 := (show Hid _ from h3)
  have H4 := (show Hid _ from h4)
  clear h1 h2 h3 h4
  obtain ⟨X, hX⟩ : ∃ X, X = (w.alloc (.cells #[.slice a1 M.length c1, .slice a2 A.length c2] 31)).alloc (.cells #[.slice a3 M.length c3, .slice a4 A.length c4] 31) := ⟨_, rfl⟩
  have HX : Hid (Below w.heap.size w X ∧ X.heap[w.heap.size]? = some (.cells #[.slice a1 M.length c1, .slice a2 A.length c2] 31 (0, 0)) ∧ X.heap[w.heap.size + 1]? = some (.cells #[.slice a3 M.length c3, .slice a4 A.length c4] 31 (0, 0))) := by
    rw [hX]
    refine ⟨((Below.refl _ _).alloc (Nat.le_refl _) _).alloc (by simp) _, ?_, ?_⟩
    · exact (Below.heap_alloc _ _ _ (by simp)).trans (heap_alloc_new _ _)
    · have := heap_alloc_new (w.alloc (.cells #[.slice a1 M.length c1, .slice a2 A.length c2] 31)) (.cells #[.slice a3 M.length c3, .slice a4 A.length c4] 31)
      simpa using this
  have HXE := (show Hid _ from hX)
  clear hX
  go_enter Try.func15, Try.ntmps15
  go_wp2_with fail
  rw [← HXE.out]
  refine (eqI_same _ _ M X (RdI.below H1.out HX.out.1) (RdI.below H3.out HX.out.1)).mono ?_
  rintro e w1 ⟨rfl, hB1⟩
  have g1 := (hB1.block _ (lt_of_block HX.out.2.1)).trans HX.out.2.1
  have g2 := (hB1.block _ (lt_of_block HX.out.2.2)).trans HX.out.2.2
  have d1 : w1.cell? ⟨w.heap.size, 1, none⟩ = some (.slice a2 A.length c2) := cellN g1
  have d2 : w1.cell? ⟨w.heap.size + 1, 1, none⟩ = some (.slice a4 A.length c4) := cellN g2
  have HB1 : Hid (Below w.heap.size w w1) := HX.out.1.trans (hB1.mono HX.out.1.size)
  clear g1 g2 hB1
  go_wp2_with fail
  refine (eqI_same _ _ A w1 (RdI.below H2.out HB1.out) (RdI.below H4.out HB1.out)).mono ?_
  rintro e w2 ⟨rfl, hB2⟩
  have HB2 : Hid (Below w.heap.size w w2) := HB1.out.trans (hB2.mono HB1.out.size)
  clear hB2
  go_wp2
  go_ret
  exact ⟨rfl, HB2.out⟩

theorem OwnI.under {w w' : World} {b base : Nat} {v : Value} {L : List Int} (h : OwnI w b v L) (hB : Below base w w') (hne : ∀ k, v.ownBlock = some k → k < base) : OwnI w' b v L := by
  obtain ⟨h1, h2⟩ := h
  refine ⟨h1, ?_⟩
  rcases h2 with h2 | ⟨g, cap, cur, hv, hb, hh, q⟩
  · exact .inl h2
  · exact .inr ⟨g, cap, cur, hv, hb, (hB.block g (hne g (by rw [hv]; rfl))).trans hh, q⟩

set_option maxHeartbeats 2000000 in
theorem markR_any (base z : Nat) (vM vA : Value) (M A : List Int) (s : Nat) (w : World) (h1 : OwnI w base vM M) (h2 : OwnI w z vA A) (hbz : base ≤ z) (hd : ∀ k, vM.ownBlock = some k → k < z) (hM : M.length ≤ 1000) (hA : A.length ≤ 1000) (hs : s ≤ 1000) (hbw : base ≤ w.heap.size) :
    Calls Try.prog 17 #[.agg #[vM, vA], .int .i64 (s : Int)] w fun e w' => e = .returned (.int .i64 ((s + M.length + A.length : Nat) : Int)) ∧ OwnI w' base vM (marksI s M.length) ∧ OwnI w' z vA (marksI (s + M.length) A.length) ∧ Below base w w' ∧ ∀ k, k < w.heap.size → vM.ownBlock ≠ some k → vA.ownBlock ≠ some k → w'.heap[k]? = w.heap[k]? := by
  obtain ⟨a1, c1, e1⟩ := h1.slice
  obtain ⟨a2, c2, e2⟩ := h2.slice
  have l1 := World.ownsRow.lt h1
  have l2 := World.ownsRow.lt h2
  subst e1 e2
  obtain ⟨X, hX⟩ : ∃ X, X = w.alloc (.cells #[.slice a1 M.length c1, .slice a2 A.length c2] 31) := ⟨_, rfl⟩
  have hBX : Below w.heap.size w X := by rw [hX]; exact (Below.refl _ _).alloc (Nat.le_refl _) _
  have hXg : X.heap[w.heap.size]? = some (.cells #[.slice a1 M.length c1, .slice a2 A.length c2] 31 (0, 0)) := by rw [hX]; exact heap_alloc_new _ _
  have H : Hid (OwnI X base (.slice a1 M.length c1) M ∧ OwnI X z (.slice a2 A.length c2) A ∧ Below base w X ∧ X.heap[w.heap.size]? = some (.cells #[.slice a1 M.length c1, .slice a2 A.length c2] 31 (0, 0)) ∧ (∀ k, (Value.slice a1 M.length c1).ownBlock = some k → base ≤ k ∧ k < w.heap.size ∧ k < z) ∧ (∀ k, (Value.slice a2 A.length c2).ownBlock = some k → z ≤ k ∧ k < w.heap.size) ∧ base ≤ z ∧ base ≤ w.heap.size ∧ ∀ k, k < w.heap.size → X.heap[k]? = w.heap[k]?) := ⟨h1.below hBX, h2.below hBX, hBX.mono hbw, hXg, (fun k hk => ⟨(l1 k hk).1, (l1 k hk).2, hd k hk⟩), (fun k hk => l2 k hk), hbz, hbw, hBX.block⟩
  have HXE := (show Hid _ from hX)
  clear hX hBX hXg h1 h2 l1 l2 hd hbz hbw
  go_enter Try.func17, Try.ntmps17
  go_wp2_with fail
  rw [← HXE.out]
  refine (markI_any base _ M s X H.out.1 (by omega) (by omega)).mono ?_
  rintro e w1 ⟨rfl, o1, hG1⟩
  have g1 := (hG1.block _ (lt_of_block H.out.2.2.2.1) (fun e => by have := H.out.2.2.2.2.1 _ e.symm; omega)).trans H.out.2.2.2.1
  have d1 : w1.cell? ⟨w.heap.size, 1, none⟩ = some (.slice a2 A.length c2) := cellN g1
  have H1 : Hid (OwnI w1 base (.slice a1 M.length c1) (marksI s M.length) ∧ OwnI w1 z (.slice a2 A.length c2) A ∧ Below base w w1 ∧ ∀ k, k < w.heap.size → (Value.slice a1 M.length c1).ownBlock ≠ some k → w1.heap[k]? = w.heap[k]?) := ⟨o1, H.out.2.1.kept hG1 (fun k hk e => by have := H.out.2.2.2.2.1 _ e.symm; have := H.out.2.2.2.2.2.1 k hk; omega), H.out.2.2.1.grown hG1 (Nat.le_trans H.out.2.2.2.2.2.2.2.1 H.out.2.2.1.size) (fun k hk => (H.out.2.2.2.2.1 k hk).1), fun k hk hn => (hG1.block k (Nat.lt_of_lt_of_le hk H.out.2.2.1.size) (fun e => hn e.symm)).trans (H.out.2.2.2.2.2.2.2.2 k hk)⟩
  clear o1 hG1 g1
  go_wp2_with fail
  refine (markI_any z _ A (s + M.length) w1 H1.out.2.1 (by omega) (by omega)).mono ?_
  rintro e w2 ⟨rfl, o2, hG2⟩
  have H2 : Hid (OwnI w2 base (.slice a1 M.length c1) (marksI s M.length) ∧ OwnI w2 z (.slice a2 A.length c2) (marksI (s + M.length) A.length) ∧ Below base w w2 ∧ ∀ k, k < w.heap.size → (Value.slice a1 M.length c1).ownBlock ≠ some k → (Value.slice a2 A.length c2).ownBlock ≠ some k → w2.heap[k]? = w.heap[k]?) := ⟨H1.out.1.kept hG2 (fun k hk e => by have := H.out.2.2.2.2.1 k hk; have := H.out.2.2.2.2.2.1 _ e.symm; omega), o2, H1.out.2.2.1.grown hG2 (Nat.le_trans H.out.2.2.2.2.2.2.2.1 H1.out.2.2.1.size) (fun k hk => by have := H.out.2.2.2.2.2.1 k hk; have := H.out.2.2.2.2.2.2.1; omega), fun k hk hn1 hn2 => (hG2.block k (Nat.lt_of_lt_of_le hk H1.out.2.2.1.size) (fun e => hn2 e.symm)).trans (H1.out.2.2.2 k hk hn1)⟩
  clear o2 hG2
  go_wp2
  go_ret
  exact ⟨rfl, H2.out.1, H2.out.2.1, H2.out.2.2⟩

set_option maxHeartbeats 2000000 in
theorem heldR_any (vM vA : Value) (s m n : Nat) (w : World) (h1 : RdI w vM (marksI s m)) (h2 : RdI w vA (marksI (s + m) n)) (hm : m ≤ 1000) (hn : n ≤ 1000) (hs : s ≤ 1000) :
    Calls Try.prog 18 #[.agg #[vM, vA], .int .i64 (s : Int)] w fun e w' => e = .returned (.int .i64 ((s + m + n : Nat) : Int)) ∧ Below w.heap.size w w' := by
  obtain ⟨a1, c1, e1⟩ : ∃ a c, vM = .slice a m c := by obtain ⟨a, c, e, _⟩ := h1; rw [marksI_len] at e; exact ⟨a, c, e⟩
  obtain ⟨a2, c2, e2⟩ : ∃ a c, vA = .slice a n c := by obtain ⟨a, c, e, _⟩ := h2; rw [marksI_len] at e; exact ⟨a, c, e⟩
  subst e1 e2
  obtain ⟨X, hX⟩ : ∃ X, X = w.alloc (.cells #[.slice a1 m c1, .slice a2 n c2] 31) := ⟨_, rfl⟩
  have hBX : Below w.heap.size w X := by rw [hX]; exact (Below.refl _ _).alloc (Nat.le_refl _) _
  have hXg : X.heap[w.heap.size]? = some (.cells #[.slice a1 m c1, .slice a2 n c2] 31 (0, 0)) := by rw [hX]; exact heap_alloc_new _ _
  have H : Hid (RdI w (.slice a1 m c1) (marksI s m) ∧ RdI w (.slice a2 n c2) (marksI (s + m) n) ∧ Below w.heap.size w X ∧ X.heap[w.heap.size]? = some (.cells #[.slice a1 m c1, .slice a2 n c2] 31 (0, 0))) := ⟨h1, h2, hBX, hXg⟩
  have HXE := (show Hid _ from hX)
  clear hX hBX hXg h1 h2
  have hk1 : decide (((s + m : Nat) : Int) < 0) = false := decide_eq_false (by omega)
  have hk2 : decide (((s + m + n : Nat) : Int) < 0) = false := decide_eq_false (by omega)
  go_enter Try.func18, Try.ntmps18
  go_wp2_with fail
  rw [← HXE.out]
  refine (heldI_any _ s m X (RdI.below H.out.1 H.out.2.2.1) (by omega) (by omega)).mono ?_
  rintro e w1 ⟨rfl, hB1⟩
  have g1 := (hB1.block _ (lt_of_block H.out.2.2.2)).trans H.out.2.2.2
  have d1 : w1.cell? ⟨w.heap.size, 1, none⟩ = some (.slice a2 n c2) := cellN g1
  have HB1 : Hid (Below w.heap.size w w1) := H.out.2.2.1.trans (hB1.mono H.out.2.2.1.size)
  clear g1 hB1
  go_wp2_with fail
  refine (heldI_any _ (s + m) n w1 (RdI.below H.out.2.1 HB1.out) (by omega) (by omega)).mono ?_
  rintro e w2 ⟨rfl, hB2⟩
  have HB2 : Hid (Below w.heap.size w w2) := HB1.out.trans (hB2.mono HB1.out.size)
  clear hB2
  go_wp2
  go_ret
  exact ⟨rfl, HB2.out⟩
end Go.Proofs.Yticnmhljdpengaa
