/-
  The tree of signs that the program builds, as plain facts on memory, and what one more op makes of it. No condition.
-/
import Derived.Test.YtjfciokpnhnhbaaSqB
import Derived.Test.YtjfciokpnhnhbaaEEq
import Derived.Sort.OwnSorted
import Derived.Maps.OwnSet
import Derived.Maps.OwnOps
import Derived.Maps.Own
import Derived.Lib.SlKeysI
namespace Go.Proofs.Ytjfciokpnhnhbaa
open Go.RowKit Go.Maps Go.Sort
set_option linter.unusedVariables false

/-- the Ids of the inserts among the first i ops that stand right behind z -/
def kids (D : Nat → Ev) (i : Nat) (z : Int) : List Int := ((List.range i).filter fun j => (D j).b == 1 && (D j).c == z).map fun j => (D j).a
/-- among the first i ops there is a delete of z -/
def delB (D : Nat → Ev) (i : Nat) (z : Int) : Bool := (List.range i).any fun j => (D j).b == 2 && (D j).c == z
def Key (D : Nat → Ev) (i : Nat) (z : Int) : Prop := z = 0 ∨ insB D i z = true
theorem kids_yes {D : Nat → Ev} {i : Nat} {z : Int} (h : ((D i).b == 1 && (D i).c == z) = true) : kids D (i + 1) z = kids D i z ++ [(D i).a] := by
  unfold kids
  rw [List.range_succ, List.filter_append, List.map_append]
  simp only [Bool.and_eq_true] at h
  simp [h.1, h.2]
theorem kids_no {D : Nat → Ev} {i : Nat} {z : Int} (h : ((D i).b == 1 && (D i).c == z) = false) : kids D (i + 1) z = kids D i z := by
  unfold kids
  rw [List.range_succ, List.filter_append, List.map_append]
  have e : [i].filter (fun j => (D j).b == 1 && (D j).c == z) = [] := by rw [List.filter_cons, h]; rfl
  rw [e]
  simp
theorem delB_succ (D : Nat → Ev) (i : Nat) (z : Int) : delB D (i + 1) z = (delB D i z || ((D i).b == 2 && (D i).c == z)) := by
  unfold delB
  rw [List.range_succ, List.any_append]
  simp
theorem insB_succ (D : Nat → Ev) (i : Nat) (z : Int) : insB D (i + 1) z = (insB D i z || ((D i).b == 1 && (D i).a == z)) := by
  unfold insB
  rw [List.range_succ, List.any_append]
  simp
theorem kids_key {D : Nat → Ev} {i : Nat} {z y : Int} (h : y ∈ kids D i z) : insB D i y = true := by
  unfold kids at h
  obtain ⟨j, hj, rfl⟩ := List.mem_map.1 h
  rw [List.mem_filter] at hj
  have h2 := hj.2
  simp only [Bool.and_eq_true, beq_iff_eq] at h2
  exact insB_iff.2 ⟨j, List.mem_range.1 hj.1, h2.1, rfl⟩
theorem kids_len (D : Nat → Ev) (i : Nat) (z : Int) : (kids D i z).length ≤ i := by
  unfold kids
  rw [List.length_map]
  exact Nat.le_trans (List.length_filter_le _ _) (by simp)

/-- pointers, as elements of a map -/
def PR : Value → Option (DataW Value × List MemPlace)
  | .pointer p => some (.held (.pointer p), [])
  | _ => none
theorem PR_inv (v : Value) (y : DataW Value × List MemPlace) (h : PR v = some y) : ∃ c : Option Addr, v = .pointer c := by
  unfold PR at h
  split at h
  · exact ⟨_, rfl⟩
  · cases h
theorem lawI : Keyed Try.prog 2 := int_keyed Try.underlying2
theorem zeroP (w : World) : (zeroValue 60).run Try.prog w = .ok (.pointer none) w := by kernel_rfl
theorem infoP : (Try.prog.info? 60).map (fun i => (i.zero, i.size, i.bytes)) = some (some (.pointer none), 1, 8) := by kernel_rfl
def ptr (g : Nat) : Value := .pointer (some ⟨g, 0, none⟩)

/-- the tree of the first i ops: blocks P of the signs, rows K of those behind them, their signs S; the map MB from Ids to them -/
structure Tree (w : World) (base MB : Nat) (D : Nat → Ev) (i : Nat) (P : Int → Nat) (K : Int → Value) (S : Int → ByteArray) : Prop where
  node : ∀ z, Key D i z → base ≤ P z ∧ w.heap[P z]? = some (.cells #[.int .i64 z, .string (S z), .bool (delB D i z), K z] 66)
  row : ∀ z, Key D i z → w.ownsRow base 60 1 (K z) (kids D i z).length ((kids D i z).map fun y => ptr (P y))
  inj : ∀ z z', Key D i z → Key D i z' → P z = P z' → z = z'
  rows : ∀ z z', Key D i z → Key D i z' → z ≠ z' → ∀ g, (K z).ownBlock = some g → (K z').ownBlock ≠ some g
  sg : ∀ j, j < i → (D j).b = 1 → S (D j).a = (D j).d
  map : ∃ n E, w.ownsMap Try.prog 2 PR MB n E ∧ n ≤ i + 1 ∧ IsMap E ∧ (∀ z, Key D i z → ∀ d, E.atKey (.int .i64 z) d = .held (ptr (P z))) ∧ (∀ z, ¬ Key D i z → ∀ d, E.atKey (.int .i64 z) d = d)
  mb : base ≤ MB

theorem Tree.below {w w' : World} {base MB i : Nat} {D : Nat → Ev} {P : Int → Nat} {K : Int → Value} {S : Int → ByteArray} (h : Tree w base MB D i P K S) (hB : Below w.heap.size w w') : Tree w' base MB D i P K S :=
  ⟨fun z hz => ⟨(h.node z hz).1, (hB.block _ (lt_of_block (h.node z hz).2)).trans (h.node z hz).2⟩, fun z hz => ownsRow_below (h.row z hz) hB, h.inj, h.rows, h.sg, by
    obtain ⟨n, E, h1, h2⟩ := h.map
    exact ⟨n, E, h1.kept (row := none) ⟨hB.os, hB.tape, hB.output, hB.size, fun k hk _ => hB.block k hk⟩ (by simp), h2⟩, h.mb⟩
theorem row_type {w : World} {base n : Nat} {v : Value} {xs : List Value} {g : Nat} (h : w.ownsRow base 60 1 v n xs) (hg : v.ownBlock = some g) : ∃ cur, w.heap[g]? = some (.cells cur 60) := by
  rcases h.2 with ⟨rfl, _⟩ | ⟨g', cap, cur, rfl, _, hh, _⟩
  · cases hg
  · have : g' = g := Option.some.inj hg
    subst this
    exact ⟨cur, hh⟩
theorem setCell_heap {w : World} {B o : Nat} {v : Value} {cs : Array Value} {T : TypeId} {fr : Nat × Nat} (h : w.heap[B]? = some (.cells cs T fr)) : (w.setCell ⟨B, o, none⟩ v).heap[B]? = some (.cells (cs.setIfInBounds o v) T fr) := by
  rw [setCell_eq]
  simp [mapBlock, Array.getElem?_modify, h, onCells]

/-- one insert more -/
theorem Tree.insert {w w3 w5 : World} {base MB k : Nat} {D : Nat → Ev} {P : Int → Nat} {K : Int → Value} {S : Int → ByteArray} {g cap n : Nat} {E : DataW Value} {B : Nat} (hBw : B = w.heap.size)
    (h : Tree w base MB D k P K S) (hb : (D k).b = 1) (hc : Key D k (D k).c) (ha : ¬ Key D k (D k).a) (hda : delB D k (D k).a = false) (hka : kids D k (D k).a = []) (hbase : base ≤ w.heap.size)
    (hG3 : ((w.alloc (.cells #[.int .i64 (D k).a, .string (D k).d, .bool false, .slice none 0 0] 66)).alloc (.cells #[ptr B] 60)).grownBy w3 (K (D k).c).ownBlock)
    (hr3 : w3.ownsRow base 60 1 (.slice (some ⟨g, 0, none⟩) ((kids D k (D k).c).length + 1) cap) ((kids D k (D k).c).length + 1) (((kids D k (D k).c).map fun y => ptr (P y)) ++ [ptr B]))
    (hg3 : (K (D k).c).ownBlock = some g ∨ g = ((w.alloc (.cells #[.int .i64 (D k).a, .string (D k).d, .bool false, .slice none 0 0] 66)).alloc (.cells #[ptr B] 60)).heap.size)
    (hE : IsMap E ∧ (∀ z, Key D k z → ∀ d, E.atKey (.int .i64 z) d = .held (ptr (P z))) ∧ (∀ z, ¬ Key D k z → ∀ d, E.atKey (.int .i64 z) d = d)) (hn : n ≤ k + 1)
    (hG5 : (w3.setCell ⟨P (D k).c, 3, none⟩ (.slice (some ⟨g, 0, none⟩) ((kids D k (D k).c).length + 1) cap)).grownBy w5 (some MB))
    (hm5 : w5.ownsMap Try.prog 2 PR MB (n + 1) (E.put (.int .i64 (D k).a) (.held (ptr B)))) :
    Tree w5 base MB D (k + 1) (fun z => if z = (D k).a then B else P z) (fun z => if z = (D k).c then .slice (some ⟨g, 0, none⟩) ((kids D k (D k).c).length + 1) cap else if z = (D k).a then .slice none 0 0 else K z) (fun z => if z = (D k).a then (D k).d else S z) := by
  subst hBw
  obtain ⟨x, hx⟩ : ∃ x, x = D k := ⟨_, rfl⟩
  rw [← hx] at hb hc ha hda hka hG3 hr3 hg3 hG5 hm5 ⊢
  have hac : x.a ≠ x.c := fun e => ha (by rw [e]; exact hc)
  have hkey : ∀ z, Key D (k + 1) z ↔ Key D k z ∨ z = x.a := by
    intro z
    unfold Key
    rw [insB_succ, ← hx, hb]
    simp only [Bool.or_eq_true, Bool.and_eq_true, beq_iff_eq]
    constructor
    · rintro (h | h | h)
      · exact .inl (.inl h)
      · exact .inl (.inr h)
      · exact .inr h.2.symm
    · rintro ((h | h) | h)
      · exact .inl h
      · exact .inr (.inl h)
      · exact .inr (.inr ⟨trivial, h.symm⟩)
  have hW2s : ((w.alloc (.cells #[.int .i64 x.a, .string x.d, .bool false, .slice none 0 0] 66)).alloc (.cells #[ptr w.heap.size] 60)).heap.size = w.heap.size + 1 + 1 := by simp
  have hPlt : ∀ z, Key D k z → P z < w.heap.size := fun z hz => lt_of_block (h.node z hz).2
  have hMB : MB < w.heap.size := by obtain ⟨n', E', h1, _⟩ := h.map; exact h1.lt
  have hMBo : ∃ es cl, w.heap[MB]? = some (.map es cl) := by
    obtain ⟨n', E', ⟨es, cl, hb', _⟩, _⟩ := h.map
    exact ⟨es, cl, hb'⟩
  have hPMB : ∀ z, Key D k z → P z ≠ MB := by
    intro z hz e
    obtain ⟨es, cl, hm⟩ := hMBo
    have := (h.node z hz).2
    rw [e, hm] at this
    cases this
  have hKlt : ∀ z g', Key D k z → (K z).ownBlock = some g' → g' < w.heap.size := fun z g' hz hg => (World.ownsRow.lt (h.row z hz) g' hg).2
  have hKP : ∀ z z' g', Key D k z → Key D k z' → (K z).ownBlock = some g' → P z' ≠ g' := by
    intro z z' g' hz hz' hg e
    obtain ⟨cur, hcur⟩ := row_type (h.row z hz) hg
    have := (h.node z' hz').2
    rw [e, hcur] at this
    simp at this
  have hKMB : ∀ z g', Key D k z → (K z).ownBlock = some g' → g' ≠ MB := by
    intro z g' hz hg e
    obtain ⟨cur, hcur⟩ := row_type (h.row z hz) hg
    obtain ⟨es, cl, hm⟩ := hMBo
    rw [e, hm] at hcur
    cases hcur
  -- blocks that stay
  have stay : ∀ q, q < w.heap.size → q ≠ P x.c → q ≠ MB → (∀ g', (K x.c).ownBlock = some g' → q ≠ g') → w5.heap[q]? = w.heap[q]? := by
    intro q hq h1 h2 h3
    rw [hG5.block q (by rw [World.size_setCell]; have := hG3.size; rw [hW2s] at this; omega) (fun e => h2 (Option.some.inj e)), Below.heap_setCell _ _ _ _ h1, hG3.block q (by rw [hW2s]; omega) (fun e => h3 q e.symm rfl), Below.heap_alloc _ _ _ (by simp; omega), Below.heap_alloc _ _ _ hq]
  have h3s : w.heap.size + 1 + 1 ≤ w3.heap.size := by have := hG3.size; rw [hW2s] at this; exact this
  have hnew3 : w3.heap[w.heap.size]? = some (.cells #[.int .i64 x.a, .string x.d, .bool false, .slice none 0 0] 66) := by
    rw [hG3.block _ (by rw [hW2s]; omega) (fun e => by have := hKlt _ _ hc e.symm; omega), Below.heap_alloc _ _ _ (by simp)]
    exact heap_alloc_new _ _
  have hnew : w5.heap[w.heap.size]? = some (.cells #[.int .i64 x.a, .string x.d, .bool false, .slice none 0 0] 66) := by
    rw [hG5.block _ (by rw [World.size_setCell]; omega) (fun e => by have := Option.some.inj e; omega), Below.heap_setCell _ _ _ _ (by show w.heap.size ≠ P x.c; have := hPlt _ hc; omega)]
    exact hnew3
  have hPc3 : w3.heap[P x.c]? = some (.cells #[.int .i64 x.c, .string (S x.c), .bool (delB D k x.c), K x.c] 66) := by
    rw [hG3.block _ (by rw [hW2s]; have := hPlt _ hc; omega) (fun e => hKP _ _ _ hc hc e.symm rfl), Below.heap_alloc _ _ _ (by have := hPlt _ hc; simp; omega), Below.heap_alloc _ _ _ (hPlt _ hc)]
    exact (h.node _ hc).2
  have hPc : w5.heap[P x.c]? = some (.cells #[.int .i64 x.c, .string (S x.c), .bool (delB D k x.c), .slice (some ⟨g, 0, none⟩) ((kids D k x.c).length + 1) cap] 66) := by
    rw [hG5.block _ (by rw [World.size_setCell]; have := hPlt _ hc; omega) (fun e => hPMB _ hc (Option.some.inj e)), setCell_heap hPc3]
    rfl
  have hdel : ∀ z, delB D (k + 1) z = delB D k z := by
    intro z
    rw [delB_succ, ← hx, hb]
    simp
  have hkid : ∀ z, z ≠ x.c → kids D (k + 1) z = kids D k z := fun z hz => kids_no (by rw [← hx, hb]; simp; exact fun e => hz e.symm)
  have hkidc : kids D (k + 1) x.c = kids D k x.c ++ [x.a] := by
    have := kids_yes (D := D) (i := k) (z := x.c) (by rw [← hx, hb]; simp)
    rw [← hx] at this
    exact this
  have hgP : ∀ z, Key D k z → P z ≠ g := by
    intro z hz e
    rcases hg3 with hg | hg
    · exact hKP _ _ _ hc hz hg e
    · have := hPlt z hz; rw [hW2s] at hg; omega
  have hgMB : g ≠ MB := by
    rcases hg3 with hg | hg
    · exact hKMB _ _ hc hg
    · rw [hW2s] at hg; omega
  have hgn : g ≠ w.heap.size := by
    rcases hg3 with hg | hg
    · have := hKlt _ _ hc hg; omega
    · rw [hW2s] at hg; omega
  have kidNe : ∀ z y, Key D k z → y ∈ kids D k z → y ≠ x.a := fun z y _ hy e => ha (.inr (by rw [← e]; exact kids_key hy))
  have row5 : ∀ {q : Nat} {v : Value} {m : Nat} {xs : List Value} (u : World), u.ownsRow base 60 1 v m xs → (∀ g', v.ownBlock = some g' → w5.heap[g']? = u.heap[g']?) → w5.ownsRow base 60 1 v m xs := by
    intro q v m xs u hu he
    obtain ⟨h1, h2⟩ := hu
    refine ⟨h1, ?_⟩
    rcases h2 with h2 | ⟨g', cap', cur, hv, hb', hh, r⟩
    · exact .inl h2
    · exact .inr ⟨g', cap', cur, hv, hb', (he g' (by rw [hv]; rfl)).trans hh, r⟩
  refine ⟨?_, ?_, ?_, ?_, ?_, ?_, h.mb⟩
  · intro z hz
    rw [hdel]
    by_cases hza : z = x.a
    · subst hza
      rw [if_pos rfl, if_neg hac, if_pos rfl, if_pos rfl, hda]
      exact ⟨hbase, hnew⟩
    · have hz : Key D k z := by
        rcases (hkey z).1 hz with h' | h'
        · exact h'
        · exact absurd h' hza
      rw [if_neg hza, if_neg hza]
      refine ⟨(h.node z hz).1, ?_⟩
      by_cases hzc : z = x.c
      · subst hzc
        rw [if_pos rfl]
        exact hPc
      · rw [if_neg hzc, if_neg hza, stay (P z) (hPlt z hz) (fun e => hzc (h.inj z x.c hz hc e)) (hPMB z hz) (fun g' hg => hKP _ _ _ hc hz hg)]
        exact (h.node z hz).2
  · intro z hz
    have hmp : ∀ l : List Int, (∀ y ∈ l, y ≠ x.a) → (l.map fun y => ptr (if y = x.a then w.heap.size else P y)) = l.map fun y => ptr (P y) := by
      intro l hl
      exact List.map_congr_left fun y hy => by rw [if_neg (hl y hy)]
    by_cases hza : z = x.a
    · subst hza
      rw [if_neg hac, if_pos rfl, hkid _ hac, hka]
      exact World.ownsRow_nil _ _ _ _
    · have hz : Key D k z := by
        rcases (hkey z).1 hz with h' | h'
        · exact h'
        · exact absurd h' hza
      by_cases hzc : z = x.c
      · subst hzc
        rw [if_pos rfl, hkidc, List.map_append, hmp _ (fun y hy => kidNe x.c y hc hy), List.length_append]
        have e1 : ([x.a].map fun y => ptr (if y = x.a then w.heap.size else P y)) = [ptr w.heap.size] := by simp
        rw [e1]
        refine row5 (q := 0) w3 hr3 fun g' hg' => ?_
        have : g = g' := Option.some.inj hg'
        subst this
        have hgl : g < w3.heap.size := own_live hr3
        rw [hG5.block g (by rw [World.size_setCell]; exact hgl) (fun e => hgMB (Option.some.inj e)), Below.heap_setCell _ _ _ _ (show g ≠ P x.c from fun e => hgP _ hc e.symm)]
      · rw [if_neg hzc, if_neg hza, hkid z hzc, hmp _ (fun y hy => kidNe z y hz hy)]
        exact row5 (q := 0) w (h.row z hz) fun g' hg' => stay g' (hKlt z g' hz hg') (fun e => hKP _ _ _ hz hc hg' e.symm) (hKMB z g' hz hg') (fun g'' hg'' e => h.rows x.c z hc hz (fun e' => hzc e'.symm) g'' hg'' (by rw [← e]; exact hg'))
  · intro z z' hz hz' he
    by_cases hza : z = x.a
    · by_cases hza' : z' = x.a
      · rw [hza, hza']
      · exfalso
        have hz' : Key D k z' := by
          rcases (hkey z').1 hz' with h' | h'
          · exact h'
          · exact absurd h' hza'
        simp only [if_pos hza, if_neg hza'] at he
        have := hPlt z' hz'
        omega
    · have hz : Key D k z := by
        rcases (hkey z).1 hz with h' | h'
        · exact h'
        · exact absurd h' hza
      by_cases hza' : z' = x.a
      · exfalso
        simp only [if_neg hza, if_pos hza'] at he
        have := hPlt z hz
        omega
      · have hz' : Key D k z' := by
          rcases (hkey z').1 hz' with h' | h'
          · exact h'
          · exact absurd h' hza'
        simp only [if_neg hza, if_neg hza'] at he
        exact h.inj z z' hz hz' he
  · intro z z' hz hz' hne g' hg' he
    have old : ∀ y, Key D (k + 1) y → y ≠ x.a → Key D k y := fun y hy hya => by
      rcases (hkey y).1 hy with h' | h'
      · exact h'
      · exact absurd h' hya
    have gfresh : ∀ y, Key D k y → y ≠ x.c → (K y).ownBlock ≠ some g := by
      intro y hy hyc e
      rcases hg3 with hg | hg
      · exact h.rows x.c y hc hy (fun e' => hyc e'.symm) g hg e
      · have := hKlt y g hy e; rw [hW2s] at hg; omega
    by_cases hzc : z = x.c
    · have hgg : g = g' := by simp only [if_pos hzc] at hg'; exact Option.some.inj hg'
      subst hgg
      have hzc' : z' ≠ x.c := fun e => hne (hzc.trans e.symm)
      by_cases hza' : z' = x.a
      · simp only [if_neg hzc', if_pos hza'] at he
        cases he
      · simp only [if_neg hzc', if_neg hza'] at he
        exact gfresh z' (old z' hz' hza') hzc' he
    · by_cases hza : z = x.a
      · simp only [if_neg hzc, if_pos hza] at hg'
        cases hg'
      · simp only [if_neg hzc, if_neg hza] at hg'
        have hz := old z hz hza
        by_cases hzc' : z' = x.c
        · simp only [if_pos hzc'] at he
          have : g = g' := Option.some.inj he
          subst this
          exact gfresh z hz hzc hg'
        · by_cases hza' : z' = x.a
          · simp only [if_neg hzc', if_pos hza'] at he
            cases he
          · simp only [if_neg hzc', if_neg hza'] at he
            exact h.rows z z' hz (old z' hz' hza') hne g' hg' he
  · intro j hj hjb
    rcases Nat.lt_succ_iff_lt_or_eq.1 hj with h1 | h1
    · have : (D j).a ≠ x.a := fun e => ha (.inr (by rw [← e]; exact insB_iff.2 ⟨j, h1, hjb, rfl⟩))
      show (if (D j).a = x.a then x.d else S (D j).a) = (D j).d
      rw [if_neg this]
      exact h.sg j h1 hjb
    · subst h1
      show (if (D j).a = x.a then x.d else S (D j).a) = (D j).d
      rw [if_pos (by rw [hx]), hx]
  · refine ⟨n + 1, _, hm5, by omega, hE.1.put _ _, fun z hz d => ?_, fun z hz d => ?_⟩
    · by_cases hza : z = x.a
      · subst hza
        rw [if_pos rfl]
        exact atKey_put_same hE.1 (show WideAt.IsKeyLit (.int .i64 x.a) from trivial) _ _
      · have hz : Key D k z := by
          rcases (hkey z).1 hz with h' | h'
          · exact h'
          · exact absurd h' hza
        rw [if_neg hza, atKey_put_other (k := .int .i64 x.a) (by intro e; apply hza; simpa using e)]
        exact hE.2.1 z hz d
    · have hza : z ≠ x.a := fun e => hz ((hkey z).2 (.inr e))
      rw [atKey_put_other (k := .int .i64 x.a) (by intro e; apply hza; simpa using e)]
      exact hE.2.2 z (fun h' => hz ((hkey z).2 (.inl h'))) d

/-- one delete more -/
theorem Tree.delete {w : World} {base MB k : Nat} {D : Nat → Ev} {P : Int → Nat} {K : Int → Value} {S : Int → ByteArray} (h : Tree w base MB D k P K S) (hb : (D k).b = 2) (hc : Key D k (D k).c) :
    Tree (w.setCell ⟨P (D k).c, 2, none⟩ (.bool true)) base MB D (k + 1) P K S := by
  obtain ⟨x, hx⟩ : ∃ x, x = D k := ⟨_, rfl⟩
  rw [← hx] at hb hc ⊢
  have hkey : ∀ z, Key D (k + 1) z ↔ Key D k z := by
    intro z
    unfold Key
    rw [insB_succ, ← hx, hb]
    simp
  have hkid : ∀ z, kids D (k + 1) z = kids D k z := fun z => kids_no (by rw [← hx, hb]; rfl)
  have other : ∀ q, q ≠ P x.c → (w.setCell ⟨P x.c, 2, none⟩ (.bool true)).heap[q]? = w.heap[q]? := fun q hq => Below.heap_setCell _ _ _ _ hq
  refine ⟨fun z hz => ?_, fun z hz => ?_, fun z z' hz hz' => h.inj z z' ((hkey z).1 hz) ((hkey z').1 hz'), fun z z' hz hz' => h.rows z z' ((hkey z).1 hz) ((hkey z').1 hz'), fun j hj hjb => ?_, ?_, h.mb⟩
  · have hz := (hkey z).1 hz
    refine ⟨(h.node z hz).1, ?_⟩
    by_cases hzc : z = x.c
    · subst hzc
      rw [setCell_heap (h.node x.c hz).2, delB_succ, ← hx, hb]
      simp
    · rw [other (P z) (fun e => hzc (h.inj z x.c hz hc e)), delB_succ, ← hx, hb]
      have e1 : ((2 : Int) == 2 && x.c == z) = false := by simp; exact fun e => hzc e.symm
      rw [e1, Bool.or_false]
      exact (h.node z hz).2
  · have hz := (hkey z).1 hz
    rw [hkid]
    obtain ⟨h1, h2⟩ := h.row z hz
    refine ⟨h1, ?_⟩
    rcases h2 with h2 | ⟨g', cap', cur, hv, hb', hh, r⟩
    · exact .inl h2
    · refine .inr ⟨g', cap', cur, hv, hb', (other g' fun e => ?_).trans hh, r⟩
      have := (h.node x.c hc).2
      rw [← e, hh] at this
      simp at this
  · rcases Nat.lt_succ_iff_lt_or_eq.1 hj with h1 | h1
    · exact h.sg j h1 hjb
    · subst h1
      rw [← hx, hb] at hjb
      cases hjb
  · obtain ⟨n, E, h1, h2, h3, h4, h5⟩ := h.map
    refine ⟨n, E, h1.kept (row := some (P x.c)) ⟨rfl, rfl, rfl, by rw [World.size_setCell]; exact Nat.le_refl _, fun q _ hq => other q (fun e => hq (by rw [e]))⟩ (fun e => ?_), by omega, h3, fun z hz => h4 z ((hkey z).1 hz), fun z hz => h5 z (fun h' => hz ((hkey z).2 h'))⟩
    obtain ⟨es, cl, hm, _⟩ := h1
    have := (h.node x.c hc).2
    rw [← Option.some.inj e, hm] at this
    cases this
end Go.Proofs.Ytjfciokpnhnhbaa
