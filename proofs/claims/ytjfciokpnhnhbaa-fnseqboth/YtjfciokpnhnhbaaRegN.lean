/-
  Regions that draw their order, each step with its own account of what stays. No condition.
-/
import Derived.Test.YtjfciokpnhnhbaaRegL
namespace Go.Proofs.Ytjfciokpnhnhbaa
open Go.RowKit
set_option linter.unusedVariables false

theorem wp_region_gen {P : Program} {l : List Oper} {Q : Exit → Act → World → Prop} {id : Nat} {a0 : Act} {w0 : World} (hm : P.follows .mixedOrders = true) (hback : backB l = true) (ds : List Nat) (slot : Nat → Nat) (F : Nat → (Nat → Value) → World → Prop) (G : World → Prop) (hG : G w0.drew)
    (hdep : ∀ j f f' w, j < l.length → (∀ i, depsB l j i = true → f (slot i) = f' (slot i)) → F j f w → F j f' w)
    (hds : ∀ i, i < l.length → slot i ∈ ds) (hinj : ∀ i j, i < l.length → j < l.length → slot i = slot j → i = j)
    (hstep : ∀ ops, ops = l.toArray → ∀ (done : Nat → Bool) f w i o, G w → ops[i]? = some o → done i = false → (∀ e ∈ o.after, Region.binds .any e = true → F e.on f w) → wpOp P ops Q i (fun a' w' => ∃ v, a' = (canon a0 ds f).put (some (slot i)) v ∧ F i (upd f (slot i) v) w' ∧ G w' ∧ ∀ j, j < l.length → j ≠ i → F j f w → F j f w') (canon a0 ds f) w)
    (hdone : ∀ f w, G w → (∀ i, i < l.length → F i f w) → Q .normal (canon a0 ds f) w) :
    (Code.region id l.toArray true).wp P Q a0 w0 := by
  have hlt : ∀ i o, l.toArray[i]? = some o → i < l.length := fun i o ho => by
    rcases Nat.lt_or_ge i l.length with h' | h'
    · exact h'
    · rw [Array.getElem?_eq_none (by simpa using h')] at ho; cases ho
  have hdl : ∀ j k, j < l.length → depsB l j k = true → k < l.length := fun j k hj hk => by
    unfold depsB at hk
    rw [Bool.or_eq_true] at hk
    rcases hk with hk | hk
    · have : k = j := by simpa using hk
      omega
    · have hoj : l.toArray[j]? = some (l[j]) := by simp [hj]
      rw [hoj] at hk
      simp only [Array.any_eq_true] at hk
      obtain ⟨x, hx, q⟩ := hk
      simp only [Bool.and_eq_true, beq_iff_eq] at q
      have := backB_at hback hoj _ (Array.getElem_mem hx) q.2
      omega
  refine wp_region_inv (I := fun done t w => ∃ f, t = canon a0 ds f ∧ G w ∧ (∀ j, j < l.length → done j = true → F j f w) ∧ (∀ j, j < l.length → done j = true → ∀ i, depsB l j i = true → done i = true)) hm ?_ ?_ ?_
  · exact ⟨fun d => a0.eval (.tmp d), (canon_self a0 ds).symm, hG, (fun j _ h => by cases h), fun j _ h => by cases h⟩
  · rintro done t w ⟨f, rfl, hB, hd2, hd3⟩ i o ho hl hd
    have hi := hlt i o ho
    refine wpOp_mono ?_ (hstep _ rfl done f w i o hB ho hl (fun e he hb => hd2 _ (by have := backB_at hback ho e he hb; omega) (hd e he hb)))
    rintro a' w' ⟨v, rfl, hv, hB', hkeep⟩
    refine ⟨upd f (slot i) v, canon_put a0 ds f (slot i) v (hds i hi), hB', fun j hj hdj => ?_, fun j hj hdj k hk => ?_⟩
    · by_cases e : j = i
      · subst e
        exact hv
      · have hj' : done j = true := by
          have : (j == i) = false := by simpa using e
          simpa [this] using hdj
        refine hdep j f _ w' hj (fun k hk => ?_) (hkeep j hj e (hd2 j hj hj'))
        have hkd := hd3 j hj hj' k hk
        have hki : k ≠ i := fun q => by rw [q, hl] at hkd; cases hkd
        exact (upd_ne f v (fun q => hki (hinj k i (hdl j k hj hk) hi q))).symm
    · by_cases e : j = i
      · subst e
        unfold depsB at hk
        rw [Bool.or_eq_true] at hk
        rcases hk with hk | hk
        · have : k = j := by simpa using hk
          subst this
          simp
        · rw [ho] at hk
          simp only [Array.any_eq_true] at hk
          obtain ⟨x, hx, q⟩ := hk
          simp only [Bool.and_eq_true, beq_iff_eq] at q
          rw [← q.1]
          simp [hd _ (Array.getElem_mem hx) q.2]
      · have hj' : done j = true := by
          have : (j == i) = false := by simpa using e
          simpa [this] using hdj
        simp [hd3 j hj hj' k hk]
  · rintro done t w ⟨f, rfl, hB, hd2, _⟩ hall
    have key : ∀ m i, i < m → i < l.length → done i = true := by
      intro m
      induction m with
      | zero => intro i hi; exact absurd hi (Nat.not_lt_zero _)
      | succ m ih =>
        intro i hi hil
        have ho : l.toArray[i]? = some (l[i]) := by simp [hil]
        exact hall i _ ho (fun e he hb => by
          have := backB_at hback ho e he hb
          exact ih e.on (by omega) (by omega))
    exact hdone f w hB (fun i hi => hd2 i hi (key (i + 1) i (by omega) hi))
end Go.Proofs.Ytjfciokpnhnhbaa
