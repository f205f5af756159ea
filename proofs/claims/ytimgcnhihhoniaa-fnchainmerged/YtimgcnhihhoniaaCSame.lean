/-
  The law's comparison of two chains; the program's merging of nothing with an empty chain; what merging does. No condition.
-/
import Derived.Test.YtimgcnhihhoniaaDrawC
import Derived.Test.YtimgcnhihhoniaaEVal
import Derived.Laws.AppendOwnNone
namespace Go.Proofs.Ytimgcnhihhoniaa
open Go.RowKit Go.Sort Go.Shelf
set_option linter.unusedVariables false

set_option maxHeartbeats 1000000 in
theorem same_evs (a a' : Option Addr) (len cap cap' : Nat) (D : Nat → Ev) (w : World) (h : IsEvs w a len cap D) (h' : IsEvs w a' len cap' D) :
    Calls Try.prog 8 #[.slice a len cap, .slice a' len cap'] w fun e w' => e = .returned (.bool true) ∧ Below w.heap.size w w' := by
  obtain ⟨hlc, hcm, hc⟩ := h
  obtain ⟨hlc', hcm', hc'⟩ := h'
  have hbn : ((len : Int) != (len : Int)) = false := by simp
  go_enter Try.func8, Try.ntmps8
  go_wp2
  go_loopw [5] (fun i wr => ∃ (k : Nat), k ≤ len ∧ i = .int .i64 k ∧ Below w.heap.size w wr) (fun i _ => len - (intOf i).toNat)
  case atStart => exact ⟨0, Nat.zero_le _, rfl, Below.refl _ _⟩
  case round =>
    obtain ⟨k, hk, rfl, hB⟩ := hrel
    by_cases hlt : k < len
    · obtain ⟨b, off, rfl, hbs, hcell⟩ := hc (by omega)
      obtain ⟨b', off', rfl, hbs', hcell'⟩ := hc' (by omega)
      have m1 : EvAt wr b (off + k * 4) (D k) := (hcell k hlt).grow hbs hB
      have m2 : EvAt wr b' (off' + k * 4) (D k) := (hcell' k hlt).grow hbs' hB
      have hltI : (k : Int) < (len : Int) := by omega
      obtain ⟨c0, c1, c2, c3⟩ := m1
      obtain ⟨d0, d1, d2, d3⟩ := m2
      have hq := neqE (D k) (D k)
      have hg := fun x y => guardE .neq x y (D k) (D k)
      rw [Ev.same_refl] at hq
      clear hcell hcell' hc hc'
      go_wp2
      go_region
      go_wp2
      go_roundw
      case rel => exact ⟨k + 1, by omega, by go_num, hB.trans ((Below.refl _ _).drew)⟩
      case measure => simp [intOf]; omega
    · have hke : k = len := by omega
      subst hke
      clear hc hc'
      go_wp2
      go_ret
      exact ⟨rfl, hB⟩
theorem same_any (base base' : Nat) (v v' : Value) (L : List Ev) (w : World) (h : OwnV w base v L) (h' : OwnV w base' v' L) :
    Calls Try.prog 8 #[v, v'] w fun e w' => e = .returned (.bool true) ∧ Below w.heap.size w w' := by
  obtain ⟨a, cap, rfl, hI⟩ := h.evs
  obtain ⟨a', cap', rfl, hI'⟩ := h'.evs
  exact same_evs _ _ _ _ _ _ _ hI hI'

theorem putE_ge (s : Ev) : ∀ L : List Ev, L.length ≤ (putE L s).length
  | [] => by simp [putE]
  | x :: l => by
    unfold putE
    split
    · have := putE_ge s l; simp; omega
    · split <;> simp
theorem mergeE_ge (A : List Ev) : ∀ B : List Ev, A.length ≤ (mergeE A B).length := by
  intro B
  induction B generalizing A with
  | nil => exact Nat.le_refl _
  | cons x l ih => exact Nat.le_trans (putE_ge x A) (ih (putE A x))
theorem mergeE_comm {A B : List Ev} (hA : UpE A) (hB : UpE B) : mergeE A B = mergeE B A :=
  upE_unique (mergeE_up A hA B) (mergeE_up B hB A) (fun x => by rw [mergeE_mem, mergeE_mem]; exact or_comm)
theorem mergeE_again {A B : List Ev} (hA : UpE A) : mergeE (mergeE A B) A = mergeE A B :=
  upE_unique (mergeE_up _ (mergeE_up A hA B) A) (mergeE_up A hA B) (fun x => by rw [mergeE_mem, mergeE_mem]; exact ⟨fun h => h.elim id Or.inl, Or.inl⟩)
theorem mergeE_self {A : List Ev} (hA : UpE A) : mergeE A A = A :=
  upE_unique (mergeE_up A hA A) hA (fun x => by rw [mergeE_mem]; exact ⟨fun h => h.elim id id, Or.inl⟩)
theorem mergedB_comm (A B : List Ev) : mergedB B A = mergedB A B := by
  unfold mergedB
  cases hA : chainL A <;> cases hB : chainL B <;> try rfl
  rw [mergeE_comm (chainL_up hA) (chainL_up hB)]
theorem mergedB_parts {A B : List Ev} (h : mergedB A B = true) : chainL A = true ∧ chainL B = true ∧ chainL (mergeE A B) = true := by
  unfold mergedB at h
  simpa using h
theorem mergedB_again {A B : List Ev} (h : mergedB A B = true) : mergedB (mergeE A B) A = true := by
  obtain ⟨h1, h2, h3⟩ := mergedB_parts h
  unfold mergedB
  rw [mergeE_again (chainL_up h1), h1, h3]
  rfl
theorem mergedB_self {A : List Ev} (h : chainL A = true) : mergedB A A = true := by
  unfold mergedB
  rw [mergeE_self (chainL_up h), h]
  rfl
/-- the list that a merging answers -/
def resM (A B : List Ev) : List Ev := if mergedB A B = true then mergeE A B else []
theorem GaveV.res {w : World} {base : Nat} {A B : List Ev} {v : Value} (h : GaveV w base (mergedB A B) (mergeE A B) v) : OwnV w base v (resM A B) := by
  unfold resM
  rcases h with ⟨h, rfl⟩ | ⟨h, ho⟩
  · rw [h]; exact OwnV.nil _ _
  · rw [h]; exact ho
theorem resM_comm (A B : List Ev) : resM B A = resM A B := by
  unfold resM
  rw [mergedB_comm]
  split
  · rename_i h
    obtain ⟨h1, h2, _⟩ := mergedB_parts h
    exact (mergeE_comm (chainL_up h1) (chainL_up h2)).symm
  · rfl
end Go.Proofs.Ytimgcnhihhoniaa
