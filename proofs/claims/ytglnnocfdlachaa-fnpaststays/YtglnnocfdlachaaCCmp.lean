/-
  The program's comparison of events as a sort asks it, its order, and the program's merging of two chains. No condition but that the slices read.
-/
import Derived.Test.YtglnnocfdlachaaCMrg
import Derived.Test.YtglnnocfdlachaaECmp
namespace Go.Proofs.Ytglnnocfdlachaa
open Go.RowKit Go.Sort Go.Shelf
set_option linter.unusedVariables false

theorem grow3 (w : World) (o1 o2 o3 : Obj) : (((w.alloc o1).alloc o2).alloc o3).drew = grow (w.drewN 1) #[o1, o2, o3] := by
  rw [alloc_eq_grow, alloc_eq_grow, alloc_eq_grow, grow_grow, grow_grow]
  rfl

set_option maxHeartbeats 2000000 in
theorem cmpEv_lays : CmpOk 37 cmpE := by
  intro x y w
  have HR : Hid (_) := cmpE_or x y
  go_enter Try.func37, Try.ntmps37
  go_wp2
  obtain ⟨W, hW⟩ : ∃ W, W = (w.alloc (.cells #[.int .i64 x.a, .int .i64 x.b, .int .i64 x.c, .int .i64 x.d] 30)).alloc (.cells #[.int .i64 y.a, .int .i64 y.b, .int .i64 y.c, .int .i64 y.d] 30) := ⟨_, rfl⟩
  rw [← hW]
  have g1 : W.heap[w.heap.size]? = some (.cells #[.int .i64 x.a, .int .i64 x.b, .int .i64 x.c, .int .i64 x.d] 30) := by
    rw [hW, Below.heap_alloc _ _ _ (by simp)]
    exact heap_alloc_new _ _
  have g2 : W.heap[w.heap.size + 1]? = some (.cells #[.int .i64 y.a, .int .i64 y.b, .int .i64 y.c, .int .i64 y.d] 30) := by
    rw [hW]
    have := heap_alloc_new (w.alloc (.cells #[.int .i64 x.a, .int .i64 x.b, .int .i64 x.c, .int .i64 x.d] 30)) (.cells #[.int .i64 y.a, .int .i64 y.b, .int .i64 y.c, .int .i64 y.d] 30)
    simpa using this
  have HW : Hid (W = _) := hW
  clear hW
  have a0 : W.cell? ⟨w.heap.size, 0, none⟩ = some (.int .i64 x.a) := cellN g1
  have a1 : W.cell? ⟨w.heap.size, 1, none⟩ = some (.int .i64 x.b) := cellN g1
  have a2 : W.cell? ⟨w.heap.size, 2, none⟩ = some (.int .i64 x.c) := cellN g1
  have a3 : W.cell? ⟨w.heap.size, 3, none⟩ = some (.int .i64 x.d) := cellN g1
  have b0 : W.cell? ⟨w.heap.size + 1, 0, none⟩ = some (.int .i64 y.a) := cellN g2
  have b1 : W.cell? ⟨w.heap.size + 1, 1, none⟩ = some (.int .i64 y.b) := cellN g2
  have b2 : W.cell? ⟨w.heap.size + 1, 2, none⟩ = some (.int .i64 y.c) := cellN g2
  have b3 : W.cell? ⟨w.heap.size + 1, 3, none⟩ = some (.int .i64 y.d) := cellN g2
  clear g1 g2
  go_region_held3 (fun w' => w'.cell? ⟨w.heap.size, 0, none⟩ = some (.int .i64 x.a) ∧ w'.cell? ⟨w.heap.size, 1, none⟩ = some (.int .i64 x.b) ∧ w'.cell? ⟨w.heap.size, 2, none⟩ = some (.int .i64 x.c) ∧ w'.cell? ⟨w.heap.size, 3, none⟩ = some (.int .i64 x.d) ∧ w'.cell? ⟨w.heap.size + 1, 0, none⟩ = some (.int .i64 y.a) ∧ w'.cell? ⟨w.heap.size + 1, 1, none⟩ = some (.int .i64 y.b) ∧ w'.cell? ⟨w.heap.size + 1, 2, none⟩ = some (.int .i64 y.c) ∧ w'.cell? ⟨w.heap.size + 1, 3, none⟩ = some (.int .i64 y.d)) (go_keep) ((first | (go_at_call 56; refine (compare_any _ _ _).mono ?_; rintro e w1 ⟨rfl, rfl⟩) | (go_at_call 55; refine (or_any _ (Lib.compareInt x.a y.a) (Lib.compareInt x.b y.b) (Lib.compareInt x.c y.c) (Lib.compareInt x.d y.d) _ (cellN (heap_alloc_new _ _)) (cellN (heap_alloc_new _ _)) (cellN (heap_alloc_new _ _)) (cellN (heap_alloc_new _ _))).mono ?_; rintro e w1 ⟨rfl, rfl⟩)))
  go_wp2
  go_ret
  exact ⟨ret_int HR.out, 1, _, by rw [HW.out]; exact grow3 _ _ _ _⟩

/-- the order of events is strict, and parts whatever two that are not one -/
theorem ahead_irr (x : Ev) : ahead x x = false := by unfold ahead; simp
theorem ahead_trans {x y z : Ev} (h1 : ahead x y = true) (h2 : ahead y z = true) : ahead x z = true := by
  unfold ahead at *
  split at h1 <;> split at h2 <;> try split at h1
  all_goals (try split at h1)
  all_goals (try split at h2)
  all_goals (try split at h2)
  all_goals simp only [decide_eq_true_eq] at h1 h2
  all_goals repeat (split)
  all_goals simp only [decide_eq_true_eq]
  all_goals omega
theorem ahead_tri {x y : Ev} (h1 : ahead x y = false) (h2 : ahead y x = false) : x = y := by
  have key : x.a = y.a ∧ x.b = y.b ∧ x.c = y.c ∧ x.d = y.d := by
    unfold ahead at *
    repeat (split at h1)
    all_goals repeat (split at h2)
    all_goals simp only [decide_eq_false_iff_not] at h1 h2
    all_goals omega
  obtain ⟨a, b, c, d⟩ := key
  cases x; cases y
  simp_all
theorem lt_ahead : ltOf cmpE = ahead := by
  funext x y
  exact cmpE_lt x y
theorem swoE : SWO (ltOf cmpE) where
  irrefl x := by rw [lt_ahead]; exact ahead_irr x
  trans x y z h1 h2 := by rw [lt_ahead] at *; exact ahead_trans h1 h2
  ntrans x y z h1 h2 := by
    rw [lt_ahead] at *
    by_cases hxz : ahead x z = true
    · exfalso
      by_cases hyx : ahead y x = true
      · rw [ahead_trans hyx hxz] at h2; cases h2
      · have := ahead_tri h1 (by simpa using hyx)
        subst this
        rw [hxz] at h2; cases h2
    · simpa using hxz

/-- events that rise -/
def UpE (L : List Ev) : Prop := L.Pairwise fun x y => ahead x y = true
theorem UpE.nodup {L : List Ev} (h : UpE L) : L.Nodup := List.Pairwise.imp (fun {x y} hxy e => by subst e; rw [ahead_irr] at hxy; cases hxy) h
theorem upE_unique {l l' : List Ev} (h : UpE l) (h' : UpE l') (hm : ∀ x, x ∈ l ↔ x ∈ l') : l = l' :=
  List.Perm.eq_of_pairwise (le := fun a b => ahead a b = true) (fun a b _ _ h1 h2 => by have := ahead_trans h1 h2; rw [ahead_irr] at this; cases this) h h' ((List.perm_ext_iff_of_nodup h.nodup h'.nodup).2 hm)
theorem up_of_at (L : List Ev) (h : ∀ j, j + 1 < L.length → ahead (L.getD j evZ) (L.getD (j + 1) evZ) = true) : UpE L := by
  have key : ∀ d i, i + d + 1 < L.length → ahead (L.getD i evZ) (L.getD (i + d + 1) evZ) = true := by
    intro d
    induction d with
    | zero => intro i hi; exact h i hi
    | succ d ih => intro i hi; exact ahead_trans (ih i (by omega)) (h (i + d + 1) (by omega))
  unfold UpE
  rw [List.pairwise_iff_getElem]
  intro i j hi hj hij
  have := key (j - i - 1) i (by omega)
  rw [show i + (j - i - 1) + 1 = j by omega] at this
  simpa [List.getD_eq_getElem?_getD, hi, hj] using this
theorem chainL_up {L : List Ev} (h : chainL L = true) : UpE L := by
  refine up_of_at L fun j hj => ?_
  unfold chainL chainB at h
  simp only [Bool.and_eq_true] at h
  have h1 := allB_at h.2 hj
  unfold okAt at h1
  simp only [Bool.and_eq_true] at h1
  simpa using h1.2
theorem same_eq {x y : Ev} (h : Ev.same x y = true) : x = y := (same_iff x y).1 h
theorem putE_mem (s x : Ev) : ∀ L : List Ev, x ∈ putE L s ↔ x ∈ L ∨ x = s
  | [] => by simp [putE]
  | y :: l => by
    unfold putE
    split
    · rw [List.mem_cons, putE_mem s x l, List.mem_cons, or_assoc]
    · split
      · rename_i h
        have := same_eq h
        subst this
        simp only [List.mem_cons]
        constructor
        · exact fun h => .inl h
        · rintro (h | h)
          · exact h
          · exact .inl h
      · simp only [List.mem_cons]
        constructor
        · rintro (h | h | h)
          · exact .inr h
          · exact .inl (.inl h)
          · exact .inl (.inr h)
        · rintro ((h | h) | h)
          · exact .inr (.inl h)
          · exact .inr (.inr h)
          · exact .inl h
theorem putE_up (s : Ev) : ∀ L : List Ev, UpE L → UpE (putE L s)
  | [], _ => by simp [putE, UpE]
  | x :: l, h => by
    obtain ⟨h1, h2⟩ := List.pairwise_cons.1 h
    unfold putE
    split
    · rename_i hx
      refine List.pairwise_cons.2 ⟨fun y hy => ?_, putE_up s l h2⟩
      rcases (putE_mem s y l).1 hy with h' | rfl
      · exact h1 y h'
      · exact hx
    · rename_i hx
      split
      · exact h
      · rename_i hne
        have hsx : ahead s x = true := by
          by_cases hc : ahead s x = true
          · exact hc
          · have := ahead_tri (by simpa using hx) (by simpa using hc)
            subst this
            exact absurd (Ev.same_refl x) hne
        refine List.pairwise_cons.2 ⟨fun y hy => ?_, h⟩
        rcases List.mem_cons.1 hy with rfl | h'
        · exact hsx
        · exact ahead_trans hsx (h1 y h')
theorem mergeE_up (A : List Ev) (hA : UpE A) : ∀ B : List Ev, UpE (mergeE A B) := by
  intro B
  induction B generalizing A with
  | nil => exact hA
  | cons x l ih => exact ih (putE A x) (putE_up x A hA)
theorem mergeE_mem (A : List Ev) (x : Ev) : ∀ B : List Ev, x ∈ mergeE A B ↔ x ∈ A ∨ x ∈ B := by
  intro B
  induction B generalizing A with
  | nil => simp [mergeE]
  | cons y l ih =>
    show x ∈ mergeE (putE A y) l ↔ _
    rw [ih (putE A y), putE_mem, List.mem_cons, or_assoc]

theorem keepAt_no {L : List Ev} {n : Nat} (h : keepAt L n = false) : n ≠ 0 ∧ L.getD n evZ = L.getD (n - 1) evZ := by
  unfold keepAt at h
  rw [Bool.or_eq_false_iff] at h
  refine ⟨by have := h.1; simpa using this, same_eq (by have := h.2; simpa only [Bool.not_eq_false'] using this)⟩
/-- what is left of a sorted list without equal neighbours rises -/
theorem cptTo_up (L : List Ev) (hs : ∀ i j, i < j → j < L.length → ahead (L.getD j evZ) (L.getD i evZ) = false) : ∀ n, n ≤ L.length → UpE (cptTo L n) ∧ (∀ x ∈ cptTo L n, ∃ i, i < n ∧ x = L.getD i evZ) ∧ (0 < n → ∃ l, cptTo L n = l ++ [L.getD (n - 1) evZ])
  | 0, _ => ⟨List.Pairwise.nil, fun x hx => by simp [cptTo] at hx, fun h => absurd h (Nat.lt_irrefl _)⟩
  | n + 1, hn => by
    obtain ⟨h1, h2, h3⟩ := cptTo_up L hs n (by omega)
    by_cases hk : keepAt L n = true
    · rw [cptTo_yes hk]
      refine ⟨?_, ?_, fun _ => ⟨cptTo L n, rfl⟩⟩
      · refine List.pairwise_append.2 ⟨h1, by simp, fun x hx y hy => ?_⟩
        simp only [List.mem_singleton] at hy
        subst hy
        by_cases hn0 : n = 0
        · subst hn0; simp [cptTo] at hx
        · have hlast : ahead (L.getD (n - 1) evZ) (L.getD n evZ) = true := by
            by_cases hc : ahead (L.getD (n - 1) evZ) (L.getD n evZ) = true
            · exact hc
            · have := ahead_tri (by simpa using hc) (hs (n - 1) n (by omega) (by omega))
              unfold keepAt at hk
              rw [this, Ev.same_refl] at hk
              simp at hk
              exact absurd hk hn0
          obtain ⟨l, hl⟩ := h3 (by omega)
          rw [hl] at hx h1
          rcases List.mem_append.1 hx with hx | hx
          · exact ahead_trans ((List.pairwise_append.1 h1).2.2 x hx _ (List.mem_singleton_self _)) hlast
          · simp only [List.mem_singleton] at hx
            subst hx
            exact hlast
      · intro x hx
        rcases List.mem_append.1 hx with hx | hx
        · obtain ⟨i, hi, e⟩ := h2 x hx
          exact ⟨i, by omega, e⟩
        · simp only [List.mem_singleton] at hx
          exact ⟨n, by omega, hx⟩
    · have hk' : keepAt L n = false := by simpa using hk
      rw [cptTo_no hk']
      refine ⟨h1, fun x hx => ?_, fun _ => ?_⟩
      · obtain ⟨i, hi, e⟩ := h2 x hx
        exact ⟨i, by omega, e⟩
      · obtain ⟨hn0, he⟩ := keepAt_no hk'
        obtain ⟨l, hl⟩ := h3 (by omega)
        exact ⟨l, by rw [hl, show n + 1 - 1 = n by omega, he]⟩
theorem cptTo_mem (L : List Ev) : ∀ n, n ≤ L.length → ∀ i, i < n → L.getD i evZ ∈ cptTo L n
  | 0, _, i, hi => absurd hi (Nat.not_lt_zero _)
  | n + 1, hn, i, hi => by
    by_cases hk : keepAt L n = true
    · rw [cptTo_yes hk]
      rcases Nat.lt_succ_iff_lt_or_eq.1 hi with h | rfl
      · exact List.mem_append_left _ (cptTo_mem L n (by omega) i h)
      · exact List.mem_append_right _ (List.mem_singleton_self _)
    · have hk' : keepAt L n = false := by simpa using hk
      rw [cptTo_no hk']
      rcases Nat.lt_succ_iff_lt_or_eq.1 hi with h | rfl
      · exact cptTo_mem L n (by omega) i h
      · obtain ⟨hn0, he⟩ := keepAt_no hk'
        rw [he]
        exact cptTo_mem L i (by omega) (i - 1) (by omega)

/-- sorting both and leaving out equal neighbours is putting the ones into the others -/
theorem sorted_merge {A B L : List Ev} (hA : UpE A) (hp : L.Perm (A ++ B)) (hs : ∀ i j, i < j → j < L.length → ahead (L.getD j evZ) (L.getD i evZ) = false) : cptL L = mergeE A B := by
  obtain ⟨h1, h2, _⟩ := cptTo_up L hs L.length (Nat.le_refl _)
  refine upE_unique h1 (mergeE_up A hA B) fun x => ?_
  rw [mergeE_mem, ← List.mem_append, ← hp.mem_iff]
  constructor
  · intro hx
    obtain ⟨i, hi, e⟩ := h2 x hx
    rw [e]
    simp [List.getD_eq_getElem?_getD, hi]
  · intro hx
    obtain ⟨i, hi, rfl⟩ := List.getElem_of_mem hx
    have := cptTo_mem L L.length (Nat.le_refl _) i hi
    show _ ∈ cptTo L L.length
    simpa [List.getD_eq_getElem?_getD, hi] using this
end Go.Proofs.Ytglnnocfdlachaa
