/-
  The order of the text, plainly: what stands behind a sign, the later ones first, each with all behind it; each sign once. No condition.
-/
import Derived.Test.YtjfciokpnhnhbaaSqI
namespace Go.Proofs.Ytjfciokpnhnhbaa
open Go.RowKit
set_option linter.unusedVariables false

theorem kid_in {D : Nat → Ev} {n : Nat} {z y : Int} (h : y ∈ kids D n z) : ∃ j, j < n ∧ (D j).b = 1 ∧ (D j).c = z ∧ (D j).a = y := by
  unfold kids at h
  obtain ⟨j, hj, rfl⟩ := List.mem_map.1 h
  rw [List.mem_filter] at hj
  have h2 := hj.2
  simp only [Bool.and_eq_true, beq_iff_eq] at h2
  exact ⟨j, List.mem_range.1 hj.1, h2.1, h2.2, rfl⟩
theorem kid_of {D : Nat → Ev} {n j : Nat} (hj : j < n) (h : (D j).b = 1) : (D j).a ∈ kids D n (D j).c := by
  unfold kids
  refine List.mem_map.2 ⟨j, List.mem_filter.2 ⟨List.mem_range.2 hj, ?_⟩, rfl⟩
  simp [h]
theorem kid_lt {D : Nat → Ev} {n : Nat} {z y : Int} (hok : allB (okS D) n = true) (h : y ∈ kids D n z) : z < y ∧ 1 ≤ y ∧ y ≤ 1000000 := by
  obtain ⟨j, hj, hb, hc, rfl⟩ := kid_in h
  have hp := ok_pos hok hj
  refine ⟨?_, hp⟩
  have h1 := allB_at hok hj
  unfold okS kindB at h1
  rw [if_pos hb] at h1
  simp only [Bool.and_eq_true, Bool.or_eq_true, beq_iff_eq] at h1
  rcases h1.2.2 with h0 | h0
  · omega
  · obtain ⟨i, hi, _, ha⟩ := insB_iff.1 h0
    have := rise_lt hok (j - i - 1) i (by omega)
    rw [show i + (j - i - 1) + 1 = j by omega] at this
    omega
theorem kid_par {D : Nat → Ev} {n : Nat} {z z' y : Int} (hok : allB (okS D) n = true) (h : y ∈ kids D n z) (h' : y ∈ kids D n z') : z = z' := by
  obtain ⟨j, hj, _, hc, ha⟩ := kid_in h
  obtain ⟨i, hi, _, hc', ha'⟩ := kid_in h'
  have := rise_inj hok hj hi (ha.trans ha'.symm)
  subst this
  rw [← hc, ← hc']
theorem kids_nodup {D : Nat → Ev} {n : Nat} (hok : allB (okS D) n = true) (z : Int) : (kids D n z).Nodup := by
  unfold kids
  rw [List.Nodup, List.pairwise_map]
  refine (List.Pairwise.filter _ ?_)
  refine (List.pairwise_lt_range (n := n)).imp_of_mem ?_
  intro i j hi hj hlt e
  have := rise_inj hok (List.mem_range.1 hi) (List.mem_range.1 hj) e
  omega

theorem flat_congr {f g : Int → List Int} : ∀ {l : List Int}, (∀ x ∈ l, f x = g x) → l.flatMap f = l.flatMap g
  | [], _ => rfl
  | a :: l, h => by
    rw [List.flatMap_cons, List.flatMap_cons, h a List.mem_cons_self, flat_congr (fun x hx => h x (List.mem_cons_of_mem _ hx))]
def walkP (D : Nat → Ev) (n : Nat) : Nat → Int → List Int
  | 0, _ => []
  | f + 1, z => (kids D n z).reverse.flatMap fun y => y :: walkP D n f y
/-- what stands behind z -/
def ord (D : Nat → Ev) (n : Nat) (z : Int) : List Int := walkP D n (1000001 - z).toNat z
theorem walkP_same {D : Nat → Ev} {n : Nat} (hok : allB (okS D) n = true) : ∀ (f f' : Nat) (z : Int), 1000001 - z ≤ f → 1000001 - z ≤ f' → walkP D n f z = walkP D n f' z := by
  have none : ∀ z : Int, 1000001 - z ≤ 0 → kids D n z = [] := fun z hz => by
    cases h : kids D n z with
    | nil => rfl
    | cons y l =>
      have := kid_lt hok (show y ∈ kids D n z by rw [h]; exact List.mem_cons_self)
      omega
  intro f
  induction f with
  | zero =>
    intro f' z h0 h1
    cases f' with
    | zero => rfl
    | succ f' =>
      show [] = (kids D n z).reverse.flatMap _
      rw [none z (by omega)]
      rfl
  | succ f ih =>
    intro f' z h0 h1
    cases f' with
    | zero =>
      show (kids D n z).reverse.flatMap _ = []
      rw [none z (by omega)]
      rfl
    | succ f' =>
      show (kids D n z).reverse.flatMap _ = (kids D n z).reverse.flatMap _
      refine flat_congr (fun y hy => ?_)
      have := kid_lt hok (List.mem_reverse.1 hy)
      rw [ih f' y (by omega) (by omega)]
theorem ord_eq {D : Nat → Ev} {n : Nat} (hok : allB (okS D) n = true) (z : Int) : ord D n z = (kids D n z).reverse.flatMap fun y => y :: ord D n y := by
  unfold ord
  rw [walkP_same hok _ ((1000001 - z).toNat + 1) z (by omega) (by omega)]
  show (kids D n z).reverse.flatMap _ = _
  refine flat_congr (fun y hy => ?_)
  have := kid_lt hok (List.mem_reverse.1 hy)
  rw [walkP_same hok _ (1000001 - y).toNat y (by omega) (by omega)]
theorem ord_mem {D : Nat → Ev} {n : Nat} (hok : allB (okS D) n = true) {z x : Int} : x ∈ ord D n z ↔ ∃ y, y ∈ kids D n z ∧ (x = y ∨ x ∈ ord D n y) := by
  rw [ord_eq hok]
  simp only [List.mem_flatMap, List.mem_reverse, List.mem_cons]
/-- by how far a number is from the end -/
theorem down_ind {P : Int → Prop} (h : ∀ z, (∀ y, z < y → y ≤ 1000000 → P y) → P z) : ∀ z, P z := by
  have key : ∀ (f : Nat) (z : Int), 1000001 - z ≤ f → P z := by
    intro f
    induction f with
    | zero => intro z hz; exact h z (fun y h1 h2 => by omega)
    | succ f ih => intro z hz; exact h z (fun y h1 h2 => ih y (by omega))
  exact fun z => key (1000001 - z).toNat z (by omega)
theorem ord_gt {D : Nat → Ev} {n : Nat} (hok : allB (okS D) n = true) : ∀ z x, x ∈ ord D n z → z < x ∧ insB D n x = true := by
  refine down_ind (fun z ih => ?_)
  intro x hx
  obtain ⟨y, hy, h⟩ := (ord_mem hok).1 hx
  have hl := kid_lt hok hy
  rcases h with rfl | h
  · exact ⟨hl.1, kids_key hy⟩
  · have := ih y hl.1 hl.2.2 x h
    exact ⟨by omega, this.2⟩
theorem ord_par {D : Nat → Ev} {n : Nat} (hok : allB (okS D) n = true) : ∀ z x, x ∈ ord D n z → ∃ p, x ∈ kids D n p ∧ (p = z ∨ p ∈ ord D n z) := by
  refine down_ind (fun z ih => ?_)
  intro x hx
  obtain ⟨y, hy, h⟩ := (ord_mem hok).1 hx
  have hl := kid_lt hok hy
  rcases h with rfl | h
  · exact ⟨z, hy, .inl rfl⟩
  · obtain ⟨p, h1, h2⟩ := ih y hl.1 hl.2.2 x h
    refine ⟨p, h1, .inr ((ord_mem hok).2 ⟨y, hy, h2⟩)⟩
theorem ord_apart {D : Nat → Ev} {n : Nat} (hok : allB (okS D) n = true) {z y y' : Int} (hy : y ∈ kids D n z) (hy' : y' ∈ kids D n z) : ∀ (f : Nat) (x : Int), x ≤ f → (x = y ∨ x ∈ ord D n y) → (x = y' ∨ x ∈ ord D n y') → y = y' := by
  have up : ∀ {u x : Int}, (x = u ∨ x ∈ ord D n u) → u ≤ x := fun h => by
    rcases h with rfl | h
    · exact Int.le_refl _
    · have := (ord_gt hok _ _ h).1; omega
  intro f
  induction f with
  | zero =>
    intro x hx h1 h2
    have := up h1
    have := (kid_lt hok hy).2.1
    omega
  | succ f ih =>
    intro x hx h1 h2
    rcases h1 with rfl | h1
    · rcases h2 with rfl | h2
      · rfl
      · obtain ⟨p, h3, h4⟩ := ord_par hok _ _ h2
        have e := kid_par hok h3 hy
        have := up h4
        have := (kid_lt hok hy').1
        omega
    · rcases h2 with rfl | h2
      · obtain ⟨p, h3, h4⟩ := ord_par hok _ _ h1
        have e := kid_par hok h3 hy'
        have := up h4
        have := (kid_lt hok hy).1
        omega
      · obtain ⟨p, h3, h4⟩ := ord_par hok _ _ h1
        obtain ⟨p', h5, h6⟩ := ord_par hok _ _ h2
        have e := kid_par hok h3 h5
        subst e
        have := (kid_lt hok h3).1
        exact ih p (by omega) h4 h6
theorem ord_nodup {D : Nat → Ev} {n : Nat} (hok : allB (okS D) n = true) : ∀ z, (ord D n z).Nodup := by
  refine down_ind (fun z ih => ?_)
  rw [ord_eq hok, List.Nodup, List.pairwise_flatMap]
  refine ⟨fun y hy => ?_, ?_⟩
  · have hl := kid_lt hok (List.mem_reverse.1 hy)
    refine List.nodup_cons.2 ⟨fun h => ?_, ih y hl.1 hl.2.2⟩
    have := (ord_gt hok _ _ h).1
    omega
  · have hn : (kids D n z).reverse.Nodup := by
      rw [List.Nodup, List.pairwise_reverse]
      exact (kids_nodup hok z).imp (fun h e => h e.symm)
    refine List.Pairwise.imp_of_mem ?_ hn
    intro y y' hy hy' hne x hx x' hx' e
    subst e
    refine hne (ord_apart hok (List.mem_reverse.1 hy) (List.mem_reverse.1 hy') x.toNat x (by omega) ?_ ?_)
    · rcases List.mem_cons.1 hx with h | h
      · exact .inl h
      · exact .inr h
    · rcases List.mem_cons.1 hx' with h | h
      · exact .inl h
      · exact .inr h
theorem len_le {α : Type} [DecidableEq α] : ∀ (l l' : List α), l.Nodup → (∀ x, x ∈ l → x ∈ l') → l.length ≤ l'.length
  | [], _, _, _ => Nat.zero_le _
  | a :: l, l', hn, hs => by
    obtain ⟨h1, h2⟩ := List.nodup_cons.1 hn
    have ha : a ∈ l' := hs a List.mem_cons_self
    have ih := len_le l (l'.erase a) h2 (fun x hx => (List.mem_erase_of_ne (fun e => h1 (by rw [← e]; exact hx))).2 (hs x (List.mem_cons_of_mem _ hx)))
    rw [List.length_erase_of_mem ha] at ih
    have : 0 < l'.length := List.length_pos_of_mem ha
    simp
    omega
theorem ins_list {D : Nat → Ev} {n : Nat} {l : List Int} (hn : l.Nodup) (h : ∀ x, x ∈ l → insB D n x = true) : l.length ≤ n := by
  have := len_le l ((List.range n).map fun j => (D j).a) hn (fun x hx => by
    obtain ⟨j, hj, _, ha⟩ := insB_iff.1 (h x hx)
    exact List.mem_map.2 ⟨j, List.mem_range.2 hj, ha⟩)
  simpa using this
/-- the signs that are shown -/
def shownL (D : Nat → Ev) (n : Nat) (l : List Int) : List Int := l.filter fun y => !(delB D n y)
def idsL (D : Nat → Ev) (n : Nat) : List Int := shownL D n (ord D n 0)
theorem idsL_len {D : Nat → Ev} {n : Nat} (hok : allB (okS D) n = true) : (idsL D n).length ≤ n :=
  Nat.le_trans (List.length_filter_le _ _) (ins_list (ord_nodup hok 0) (fun x hx => (ord_gt hok 0 x hx).2))
theorem shownL_append (D : Nat → Ev) (n : Nat) (l m : List Int) : shownL D n (l ++ m) = shownL D n l ++ shownL D n m := List.filter_append ..
theorem shownL_cons (D : Nat → Ev) (n : Nat) (y : Int) (l : List Int) : shownL D n (y :: l) = (if delB D n y then [] else [y]) ++ shownL D n l := by
  unfold shownL
  rw [List.filter_cons]
  cases delB D n y <;> rfl
end Go.Proofs.Ytjfciokpnhnhbaa
