/-
  The library's sort of a slice of elements that the call owns. No condition but that the slice is short.
-/
import Derived.Test.YtglnnocfdlachaaECat
import Derived.Sort.OwnSorted
namespace Go.Proofs.Ytglnnocfdlachaa
open Go.RowKit Go.Lib Go.Sort Go.Shelf
set_option linter.unusedVariables false

theorem flat_list [Inhabited Ev] (L : List Ev) : (flatK enc4 4 L.toArray).toList = cellsL L := by
  apply List.ext_getElem?
  intro j
  by_cases hj : j < L.length * 4
  · obtain ⟨i, t, ht, rfl⟩ : ∃ i t, t < 4 ∧ j = i * 4 + t := ⟨j / 4, j % 4, Nat.mod_lt _ (by decide), by omega⟩
    have hi : i < L.length := by omega
    have e1 : (i * 4 + t) / 4 = i := by omega
    have e2 : (i * 4 + t) % 4 = t := by omega
    rw [cellsL_at L i t ht hi, Array.getElem?_toList]
    have hs : i * 4 + t < (flatK enc4 4 L.toArray).size := by rw [size_flatK]; simpa using hj
    have hg := get_flatK enc4 4 L.toArray (i * 4 + t) (by simpa using hj)
    rw [getElem!_pos (flatK enc4 4 L.toArray) (i * 4 + t) hs, e1, e2] at hg
    rw [Array.getElem?_eq_getElem hs, hg]
    have hx : L.toArray[i]! = L.getD i evZ := by
      rw [getElem!_pos L.toArray i (by simpa using hi)]
      simp [List.getD_eq_getElem?_getD, hi]
    rw [hx]
    have hl : t < (enc4 (L.getD i evZ)).length := ht
    rw [getElem!_pos (enc4 (L.getD i evZ)) t hl, List.getElem?_eq_getElem hl]
  · rw [List.getElem?_eq_none (by rw [Array.length_toList, size_flatK]; simpa using hj), List.getElem?_eq_none (by rw [cellsL_len]; omega)]

theorem holdsE [Inhabited Ev] {w : World} {g : Nat} {cur : Array Value} {e : TypeId} {L : List Ev} (hb : w.heap[g]? = some (.cells cur e (0, 0))) (ht : cur.toList.take (L.length * 4) = cellsL L) : HoldsK enc4 4 w g 0 L.toArray := by
  intro j hj
  have hj' : j < L.length * 4 := by rw [size_flatK] at hj; simpa using hj
  refine ⟨?_, by simp [World.frozen?, hb]⟩
  have h1 : (cur.toList.take (L.length * 4))[j]? = (flatK enc4 4 L.toArray).toList[j]? := by rw [ht, flat_list]
  rw [List.getElem?_take_of_lt hj', Array.getElem?_toList, Array.getElem?_toList, Array.getElem?_eq_getElem hj] at h1
  simp only [World.cell?, hb, Nat.zero_add]
  simp only [Option.isSome_none, Bool.false_eq_true, if_false]
  rw [h1, getElem!_pos (flatK enc4 4 L.toArray) j hj]
  rfl

theorem heapE [Inhabited Ev] {w : World} {g n : Nat} {os : Array Obj} {cur : Array Value} {e : TypeId} {fr : Nat × Nat} (d : Array Ev) (hb : w.heap[g]? = some (.cells cur e fr)) :
    (sortWorldK enc4 4 w g 0 n d os).heap[g]? = some (.cells (putCells id 0 (flatK enc4 4 d) cur) e fr) := by
  have hg : g < w.heap.size := (Array.getElem?_eq_some_iff.1 hb).1
  unfold sortWorldK putRowK
  rw [heap_grow_old _ _ (by simpa using hg)]
  simp [putRow, mapBlock, Sort.ahead, Array.getElem?_modify, hb, onCells]
theorem grownE [Inhabited Ev] {w : World} {g n : Nat} {os : Array Obj} (d : Array Ev) : w.grownBy (sortWorldK enc4 4 w g 0 n d os) (some g) := by
  unfold sortWorldK putRowK
  refine ⟨rfl, rfl, rfl, by simp, fun k hk hne => ?_⟩
  rw [heap_grow_old _ _ (by simpa using hk)]
  have : g ≠ k := fun e => hne (by rw [e])
  simp [putRow, mapBlock, Sort.ahead, Array.getElem?_modify, this]
theorem takeE (cur F : Array Value) (h : F.size ≤ cur.size) : (putCells id 0 F cur).toList.take F.size = F.toList := by
  apply List.ext_getElem?
  intro j
  by_cases hj : j < F.size
  · rw [List.getElem?_take_of_lt hj, Array.getElem?_toList, Array.getElem?_toList]
    simp [putCells, hj, show j < cur.size by omega]
  · rw [List.getElem?_take_eq_none (by omega), List.getElem?_eq_none (by simp; omega)]

/-- a comparison that a sort may call: it answers cf and only lays new blocks -/
def CmpOk (f : Nat) (cf : Ev → Ev → Int) : Prop :=
  ∀ (x y : Ev) (W : World), Calls Try.prog f #[.agg #[.int .i64 x.a, .int .i64 x.b, .int .i64 x.c, .int .i64 x.d], .agg #[.int .i64 y.a, .int .i64 y.b, .int .i64 y.c, .int .i64 y.d]] W fun e w' => e = .returned (.int .i64 (cf x y)) ∧ ∃ q os', w' = grow (W.drewN q) os'

theorem sort_any (f : Nat) (cf : Ev → Ev → Int) (hO : SWO (ltOf cf)) (hcmp : CmpOk f cf) (eg : ∀ args w, (callFunc f args).run Try.prog w = .ok (.enter f args) w) (base : Nat) (v : Value) (L : List Ev) (w : World) (h : OwnV w base v L) (hl : L.length ≤ 1000000) :
    Calls Try.prog 44 #[v, .func (.func f) #[] #[]] w fun e w' => e = .returned (.tuple #[]) ∧ ∃ L' : List Ev, L'.Perm L ∧ (∀ i j, i < j → j < L'.length → ltOf cf (L'.getD j evZ) (L'.getD i evZ) = false) ∧ OwnV w' base v L' ∧ w.grownBy w' v.ownBlock := by
  haveI : Inhabited Ev := ⟨evZ⟩
  rcases h.2 with ⟨rfl, h0⟩ | ⟨g, cap, cur, rfl, hb, hh, hnc, hcm, hcs, hct⟩
  · have hL : L = [] := List.length_eq_zero_iff.1 h0
    subst hL
    refine (AnyF.slices_SortFunc_none Try.sortE none 0 (.func (.func f) #[] #[]) w).mono ?_
    rintro e w' ⟨rfl, hw⟩
    rw [hw]
    exact ⟨rfl, [], List.Perm.refl _, fun i j _ h => absurd h (Nat.not_lt_zero _), h, World.grownBy.refl _ _⟩
  · have hH : HoldsK enc4 4 w g 0 L.toArray := holdsE hh hct
    have hcon := AnyQ.slices_SortFunc Try.sortE 4 Try.isAgg30 Try.sizeOf30 enc4 (fun _ => rfl) (fun x u hu => by simp [enc4] at hu; rcases hu with rfl | rfl | rfl | rfl <;> rfl) cf hO f #[] g 0 cap L.toArray w eg (fun _ _ _ _ x y => hcmp x y _) hH (lt_of_block hh) (by simp; omega)
    change Calls Try.prog 44 _ _ _ at hcon
    rw [show L.toArray.size = L.length by simp] at hcon
    refine hcon.mono ?_
    rintro e w' ⟨rfl, d', n, os, hp, hs, hw⟩
    have hsz : d'.size = L.length := by have := hp.1; simpa using this
    refine ⟨rfl, d'.toList, ?_, ?_, ?_, ?_⟩
    · have h3 := hp.2.2
      have e1 : d'.extract 0 L.length = d' := by rw [← hsz]; simp
      have e2 : L.toArray.extract 0 L.length = L.toArray := by simp
      rw [e1, e2] at h3
      simpa using h3
    · intro i j hij hj
      have hj' : j < d'.size := by simpa using hj
      have h4 := hs i j (Nat.zero_le _) hij (by rw [← hsz]; exact hj')
      have ei : d'[i]! = d'.toList.getD i evZ := by
        rw [getElem!_pos d' i (by omega)]
        simp [List.getD_eq_getElem?_getD, show i < d'.size by omega]
      have ej : d'[j]! = d'.toList.getD j evZ := by
        rw [getElem!_pos d' j hj']
        simp [List.getD_eq_getElem?_getD, hj']
      rw [ei, ej] at h4
      exact h4
    · rw [hw]
      have hfl : (flatK enc4 4 d').size = L.length * 4 := by rw [size_flatK, hsz]
      have hfc : (flatK enc4 4 d').toList = cellsL d'.toList := by
        have := flat_list d'.toList
        simpa using this
      have hdl : d'.toList.length = L.length := by rw [← hsz]; simp
      refine ⟨by rw [cellsL_len], .inr ⟨g, cap, _, by rw [hdl], hb, heapE d' hh, by rw [hdl]; exact hnc, hcm, by simp [putCells, hcs], ?_⟩⟩
      rw [hdl, ← hfl, ← hfc]
      exact takeE cur _ (by rw [hfl, hcs]; exact Nat.mul_le_mul_right _ hnc)
    · rw [hw]
      exact grownE d'
end Go.Proofs.Ytglnnocfdlachaa
