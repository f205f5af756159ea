/-
  Ops as plain data; the specification's l14Form, l14Same. No condition but that the slices read.
-/
import Derived.Test.YtbohaefmokbgbaaDkF
namespace Go.Proofs.Ytbohaefmokbgbaa
open Go.RowKit
set_option linter.unusedVariables false

/-- an op as plain data -/
structure Dop where
  k : Int
  n : ByteArray
  t : ByteArray
  d : ByteArray
def encO (o : Dop) : Array Value := #[.int .i64 o.k, .string o.n, .string o.t, .string o.d]
def inB (lo hi x : Int) : Bool := decide (lo ≤ x) && decide (x ≤ hi)
theorem in_any (x lo hi : Int) (w : World) : Calls Try.prog 56 #[.int .i64 x, .int .i64 lo, .int .i64 hi] w fun e w' => e = .returned (.bool (inB lo hi x)) ∧ w' = w := by
  unfold inB
  by_cases h1 : lo ≤ x
  · by_cases h2 : x ≤ hi
    · rw [decide_eq_true h1, decide_eq_true h2]
      go_enter Try.func56, Try.ntmps56
      go_wp2
      go_ret
      exact ⟨rfl, rfl⟩
    · rw [decide_eq_true h1, decide_eq_false h2]
      go_enter Try.func56, Try.ntmps56
      go_wp2
      go_ret
      exact ⟨rfl, rfl⟩
  · rw [decide_eq_false h1]
    go_enter Try.func56, Try.ntmps56
    go_wp2
    go_ret
    exact ⟨rfl, rfl⟩

/-- an op of its form -/
def formB (o : Dop) : Bool := inB 1 3 o.k && (nmB o.n && (if o.k = 2 then nmB o.t && o.d.toList.isEmpty else o.t.toList.isEmpty && (o.k == 1 || o.d.toList.isEmpty)))

set_option maxRecDepth 4000 in
set_option maxHeartbeats 2000000 in
theorem form_any (o : Dop) (w : World) (h1 : o.n.size ≤ 1000000000) (h2 : o.t.size ≤ 1000000000) :
    Calls Try.prog 68 #[.agg (encO o)] w fun e w' => e = .returned (.bool (formB o)) ∧ Below w.heap.size w w' := by
  obtain ⟨X, hX⟩ : ∃ X, X = w.alloc (.cells (encO o) 49) := ⟨_, rfl⟩
  have g : (w.alloc (.cells #[.int .i64 o.k, .string o.n, .string o.t, .string o.d] 49)).heap[w.heap.size]? = some (.cells #[.int .i64 o.k, .string o.n, .string o.t, .string o.d] 49 (0, 0)) := heap_alloc_new _ _
  have c0 : (w.alloc (.cells #[.int .i64 o.k, .string o.n, .string o.t, .string o.d] 49)).cell? ⟨w.heap.size, 0, none⟩ = some (.int .i64 o.k) := cellN g
  have c1 : (w.alloc (.cells #[.int .i64 o.k, .string o.n, .string o.t, .string o.d] 49)).cell? ⟨w.heap.size, 1, none⟩ = some (.string o.n) := cellN g
  have c2 : (w.alloc (.cells #[.int .i64 o.k, .string o.n, .string o.t, .string o.d] 49)).cell? ⟨w.heap.size, 2, none⟩ = some (.string o.t) := cellN g
  have c3 : (w.alloc (.cells #[.int .i64 o.k, .string o.n, .string o.t, .string o.d] 49)).cell? ⟨w.heap.size, 3, none⟩ = some (.string o.d) := cellN g
  have HB : Hid (Below w.heap.size w (w.alloc (.cells #[.int .i64 o.k, .string o.n, .string o.t, .string o.d] 49))) := (Below.refl _ _).alloc (Nat.le_refl _) _
  have HN1 : Hid (o.n.size ≤ 1000000000) := h1
  have HN2 : Hid (o.t.size ≤ 1000000000) := h2
  clear hX X g h1 h2
  unfold encO
  cases hin : inB 1 3 o.k with
  | false =>
    have HR : Hid (formB o = false) := by show _ = _; unfold formB; rw [hin]; rfl
    go_enter Try.func68, Try.ntmps68
    go_wp2_with fail
    refine (in_any _ _ _ _).mono ?_
    rintro e w' ⟨rfl, hw⟩
    rw [hw, hin]
    clear hw w'
    go_wp2
    go_ret
    exact ⟨ret_bool HR.out.symm, HB.out⟩
  | true =>
    cases hnm : nmB o.n with
    | false =>
      have HR : Hid (formB o = false) := by show _ = _; unfold formB; rw [hin, hnm]; rfl
      go_enter Try.func68, Try.ntmps68
      go_wp2_with fail
      refine (in_any _ _ _ _).mono ?_
      rintro e w' ⟨rfl, hw⟩
      rw [hw, hin]
      clear hw w'
      go_wp2_with fail
      refine (name_any _ (by have := HN1.out; omega) _).mono ?_
      rintro e w' ⟨rfl, hw⟩
      rw [hw, hnm]
      clear hw w'
      go_wp2
      go_ret
      exact ⟨ret_bool HR.out.symm, HB.out⟩
    | true =>
      by_cases h2 : o.k = 2
      · have h2b : (o.k == 2) = true := by simpa using h2
        have HR : Hid (formB o = (nmB o.t && o.d.toList.isEmpty)) := by show _ = _; unfold formB; rw [hin, hnm, if_pos h2]; rfl
        clear h2
        go_enter Try.func68, Try.ntmps68
        go_wp2_with fail
        refine (in_any _ _ _ _).mono ?_
        rintro e w' ⟨rfl, hw⟩
        rw [hw, hin]
        clear hw w'
        go_wp2_with fail
        refine (name_any _ (by have := HN1.out; omega) _).mono ?_
        rintro e w' ⟨rfl, hw⟩
        rw [hw, hnm]
        clear hw w'
        go_wp2_with fail
        refine (name_any _ (by have := HN2.out; omega) _).mono ?_
        rintro e w' ⟨rfl, hw⟩
        rw [hw]
        clear hw w'
        cases hnt : nmB o.t with
        | false =>
          rw [hnt] at HR
          go_wp2
          go_ret
          exact ⟨ret_bool HR.out.symm, HB.out⟩
        | true =>
          rw [hnt] at HR
          go_wp2
          go_ret
          exact ⟨ret_bool HR.out.symm, HB.out⟩
      · have h2b : (o.k == 2) = false := by simpa using h2
        have HR : Hid (formB o = (o.t.toList.isEmpty && (o.k == 1 || o.d.toList.isEmpty))) := by show _ = _; unfold formB; rw [hin, hnm, if_neg h2]; rfl
        go_enter Try.func68, Try.ntmps68
        go_wp2_with fail
        refine (in_any _ _ _ _).mono ?_
        rintro e w' ⟨rfl, hw⟩
        rw [hw, hin]
        clear hw w'
        go_wp2_with fail
        refine (name_any _ (by have := HN1.out; omega) _).mono ?_
        rintro e w' ⟨rfl, hw⟩
        rw [hw, hnm]
        clear hw w'
        cases ht : o.t.toList.isEmpty with
        | false =>
          rw [ht] at HR
          go_wp2
          go_ret
          exact ⟨ret_bool HR.out.symm, HB.out⟩
        | true =>
          rw [ht] at HR
          cases h1 : (o.k == 1) with
          | true =>
            rw [h1] at HR
            go_wp2
            go_ret
            exact ⟨ret_bool HR.out.symm, HB.out⟩
          | false =>
            rw [h1] at HR
            go_wp2
            go_ret
            exact ⟨ret_bool HR.out.symm, HB.out⟩

def flEq (f g : Fl) : Bool := (f.n.toList == g.n.toList) && (f.d.toList == g.d.toList)
/-- the same files -/
def sameF (L M : List Fl) : Bool := decide (L.length = M.length) && (List.range L.length).all fun i => flEq (L.getD i flZ) (M.getD i flZ)
theorem sameF_false {L M : List Fl} {k : Nat} (hk : k < L.length) (h : flEq (L.getD k flZ) (M.getD k flZ) = false) : sameF L M = false := by
  unfold sameF
  have : ((List.range L.length).all fun i => flEq (L.getD i flZ) (M.getD i flZ)) = false := by
    cases hq : ((List.range L.length).all fun i => flEq (L.getD i flZ) (M.getD i flZ)) with
    | false => rfl
    | true =>
      rw [List.all_eq_true] at hq
      rw [hq k (List.mem_range.2 hk)] at h
      cases h
  rw [this, Bool.and_false]
theorem sameF_true {L M : List Fl} (hl : L.length = M.length) (h : ∀ k, k < L.length → flEq (L.getD k flZ) (M.getD k flZ) = true) : sameF L M = true := by
  unfold sameF
  rw [decide_eq_true hl, Bool.true_and, List.all_eq_true]
  intro k hk
  exact h k (List.mem_range.1 hk)

set_option maxRecDepth 4000 in
set_option maxHeartbeats 2000000 in
theorem same_any (v u : Value) (L M : List Fl) (w : World) (h : RdF w v L) (h' : RdF w u M) :
    Calls Try.prog 69 #[v, u] w fun e w' => e = .returned (.bool (sameF L M)) ∧ Below w.heap.size w w' := by
  obtain ⟨a, cap, rfl, hlc, hcm, hc⟩ := h
  obtain ⟨a', cap', rfl, hlc', hcm', hc'⟩ := h'
  obtain ⟨n, hn⟩ : ∃ n, n = L.length := ⟨_, rfl⟩
  obtain ⟨m, hm⟩ : ∃ m, m = M.length := ⟨_, rfl⟩
  have HN : Hid (n = L.length) := hn
  have HM : Hid (m = M.length) := hm
  rw [← hn] at hlc hc ⊢
  rw [← hm] at hlc' hc' ⊢
  clear hn hm
  by_cases hnm : n = m
  · subst hnm
    have hbn : ((n : Int) != (n : Int)) = false := by simp
    go_enter Try.func69, Try.ntmps69
    go_wp2
    go_loopw [5] (fun i wr => ∃ (k : Nat), k ≤ n ∧ i = .int .i64 k ∧ Hid ((∀ j, j < k → flEq (L.getD j flZ) (M.getD j flZ) = true) ∧ Below w.heap.size w wr)) (fun i _ => n - (intOf i).toNat)
    case atStart => exact ⟨0, Nat.zero_le _, rfl, (fun j hj => absurd hj (Nat.not_lt_zero _)), Below.refl _ _⟩
    case round =>
      obtain ⟨k, hk, rfl, HI⟩ := hrel
      by_cases hlt : k < n
      · have hltI : (k : Int) < (n : Int) := by omega
        obtain ⟨b, off, rfl, hbs, hl⟩ := hc (by omega)
        obtain ⟨b', off', rfl, hbs', hl'⟩ := hc' (by omega)
        have hkL : k < L.length := by rw [← HN.out]; exact hlt
        have hat := hl k hkL
        have hat' := hl' k (by rw [← HM.out]; exact hlt)
        have d0 := (HI.out.2.cell (p := ⟨b, off + k * 2, none⟩) hbs).trans hat.c0
        have d1 := (HI.out.2.cell (p := ⟨b, off + k * 2 + 1, none⟩) hbs).trans hat.c1
        have e0 := (HI.out.2.cell (p := ⟨b', off' + k * 2, none⟩) hbs').trans hat'.c0
        have e1 := (HI.out.2.cell (p := ⟨b', off' + k * 2 + 1, none⟩) hbs').trans hat'.c1
        obtain ⟨f, hf⟩ : ∃ f, f = L.getD k flZ := ⟨_, rfl⟩
        obtain ⟨g, hg⟩ : ∃ g, g = M.getD k flZ := ⟨_, rfl⟩
        rw [← hf] at d0 d1
        rw [← hg] at e0 e1
        have HFG : Hid (f = L.getD k flZ ∧ g = M.getD k flZ) := ⟨hf, hg⟩
        clear hl hl' hc hc' hf hg hat hat'
        cases hq : flEq f g with
        | true =>
          have hq' := hq
          unfold flEq at hq'
          simp only [Bool.and_eq_true] at hq'
          obtain ⟨q1, q2⟩ := hq'
          have HJ : Hid (∀ j, j < k + 1 → flEq (L.getD j flZ) (M.getD j flZ) = true) := fun j hj => by
            rcases Nat.lt_succ_iff_lt_or_eq.1 hj with h | rfl
            · exact HI.out.1 j h
            · rw [← HFG.out.1, ← HFG.out.2]; exact hq
          have HB := (show Hid _ from HI.out.2)
          clear hq
          go_wp2
          go_quiet (fail)
          go_wp2
          go_roundw
          case rel => exact ⟨k + 1, by omega, by go_num, HJ.out, below_drewN HB.out _⟩
          case measure => simp [intOf]; omega
        | false =>
          have HR : Hid (sameF L M = false) := sameF_false hkL (by rw [← HFG.out.1, ← HFG.out.2]; exact hq)
          have HB := (show Hid _ from HI.out.2)
          unfold flEq at hq
          cases q1 : (f.n.toList == g.n.toList) with
          | false =>
            clear hq
            go_wp2
            go_quiet (fail)
            go_wp2
            go_ret
            exact ⟨ret_bool HR.out.symm, below_drewN HB.out _⟩
          | true =>
            rw [q1, Bool.true_and] at hq
            go_wp2
            go_quiet (fail)
            go_wp2
            go_ret
            exact ⟨ret_bool HR.out.symm, below_drewN HB.out _⟩
      · have hke : k = n := by omega
        subst hke
        have HR : Hid (sameF L M = true) := sameF_true (by rw [← HN.out, ← HM.out]) (fun j hj => HI.out.1 j (by rw [HN.out]; exact hj))
        have HB := (show Hid _ from HI.out.2)
        clear hc hc'
        go_wp2
        go_ret
        exact ⟨ret_bool HR.out.symm, HB.out⟩
  · have hbn : ((n : Int) != (m : Int)) = true := by simp; omega
    have HR : Hid (sameF L M = false) := by show _ = _; unfold sameF; rw [decide_eq_false (by rw [← HN.out, ← HM.out]; exact hnm)]; rfl
    clear hc hc'
    go_enter Try.func69, Try.ntmps69
    go_wp2
    go_ret
    exact ⟨ret_bool HR.out.symm, Below.refl _ _⟩
end Go.Proofs.Ytbohaefmokbgbaa
