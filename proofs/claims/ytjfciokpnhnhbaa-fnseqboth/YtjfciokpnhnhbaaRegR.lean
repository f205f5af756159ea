/-
  As RegF, over any relation of worlds that holds from each world to itself and onwards: regions that draw their order and whose operations turn memory that nothing else reads. No condition.
-/
import Derived.Test.YtjfciokpnhnhbaaRegG
import Derived.Deep.Cut
namespace Go.Proofs.Ytjfciokpnhnhbaa
open Go.RowKit
set_option linter.unusedVariables false

theorem wp_cut_to {P : Program} {s : Code} {K : Act → World → Prop} {Q' : Exit → Act → World → Prop} {a : Act} {w : World} (R : Act → Act → World → Prop)
    (rest : ∀ a' w', R a a' w' → K a' w')
    (first : ∀ (J K' : Act → World → Prop), (∀ a' w', R a a' w' → J a' w') → (∀ a' w', Met J a' w' → K' a' w') → s.wp P (Exit.then K' Q') a w) : s.wp P (Exit.then K Q') a w := wp_cut (R a) rest first
theorem wp_region_rel {P : Program} {Rel : World → World → Prop} (rr : ∀ w, Rel w w) (rt : ∀ {a b c}, Rel a b → Rel b c → Rel a c) (rd : ∀ w, Rel w w.drew) {l : List Oper} {Q : Exit → Act → World → Prop} {id : Nat} {a0 : Act} {w0 : World} (hm : P.follows .mixedOrders = true) (hback : backB l = true) (ds : List Nat) (slot : Nat → Nat) (F : Nat → Value → World → Prop)
    (hF : ∀ j v w w', F j v w → Rel w w' → F j v w')
    (hds : ∀ i, i < l.length → slot i ∈ ds) (hinj : ∀ i j, i < l.length → j < l.length → slot i = slot j → i = j)
    (hstep : ∀ ops, ops = l.toArray → ∀ f w i o, Rel w0 w → ops[i]? = some o → (∀ e ∈ o.after, Region.binds .any e = true → F e.on (f (slot e.on)) w) → wpOp P ops Q i (fun a' w' => ∃ v, a' = (canon a0 ds f).put (some (slot i)) v ∧ F i v w' ∧ Rel w w') (canon a0 ds f) w)
    (hdone : ∀ f w, Rel w0 w → (∀ i, i < l.length → F i (f (slot i)) w) → Q .normal (canon a0 ds f) w) :
    (Code.region id l.toArray true).wp P Q a0 w0 := by
  have hlt : ∀ i o, l.toArray[i]? = some o → i < l.length := fun i o ho => by
    rcases Nat.lt_or_ge i l.length with h' | h'
    · exact h'
    · rw [Array.getElem?_eq_none (by simpa using h')] at ho; cases ho
  refine wp_region_inv (I := fun done t w => ∃ f, t = canon a0 ds f ∧ Rel w0 w ∧ (∀ j, done j = true → j < l.length) ∧ ∀ j, done j = true → F j (f (slot j)) w) hm ?_ ?_ ?_
  · exact ⟨fun d => a0.eval (.tmp d), (canon_self a0 ds).symm, rd _, (fun j h => by cases h), fun j h => by cases h⟩
  · rintro done t w ⟨f, rfl, hB, hd1, hd2⟩ i o ho hl hd
    have hi := hlt i o ho
    refine wpOp_mono ?_ (hstep _ rfl f w i o hB ho (fun e he hb => hd2 _ (hd e he hb)))
    rintro a' w' ⟨v, rfl, hv, hB'⟩
    refine ⟨fun x => if x = slot i then v else f x, canon_put a0 ds f (slot i) v (hds i hi), rt hB hB', fun j hj => ?_, fun j hj => ?_⟩
    · by_cases e : j = i
      · subst e; exact hi
      · exact hd1 j (by have : (j == i) = false := by simpa using e
                        simpa [this] using hj)
    · by_cases e : j = i
      · subst e
        show F j (if slot j = slot j then v else f (slot j)) w'
        rw [if_pos rfl]
        exact hv
      · have hj' : done j = true := by
          have : (j == i) = false := by simpa using e
          simpa [this] using hj
        show F j (if slot j = slot i then v else f (slot j)) w'
        rw [if_neg (fun q => e (hinj j i (hd1 j hj') hi q))]
        exact hF _ _ _ _ (hd2 j hj') hB'
  · rintro done t w ⟨f, rfl, hB, hd1, hd2⟩ hall
    have key : ∀ n i, i < n → i < l.length → done i = true := by
      intro n
      induction n with
      | zero => intro i hi; exact absurd hi (Nat.not_lt_zero _)
      | succ n ih =>
        intro i hi hil
        have ho : l.toArray[i]? = some (l[i]) := by simp [hil]
        exact hall i _ ho (fun e he hb => by
          have := backB_at hback ho e he hb
          exact ih e.on (by omega) (by omega))
    exact hdone f w hB (fun i hi => hd2 i (key (i + 1) i (by omega) hi))

/-- the same, where an operation reads a slot that a later one writes -/
theorem wp_region_rel2 {P : Program} {Rel : World → World → Prop} (rr : ∀ w, Rel w w) (rt : ∀ {a b c}, Rel a b → Rel b c → Rel a c) (rd : ∀ w, Rel w w.drew) {l : List Oper} {Q : Exit → Act → World → Prop} {id : Nat} {a0 : Act} {w0 : World} (hm : P.follows .mixedOrders = true) (hback : backB l = true) (ds : List Nat) (slot : Nat → Nat) (F : Nat → Value → World → Prop)
    (hF : ∀ j v w w', F j v w → Rel w w' → F j v w')
    (hds : ∀ i, i < l.length → slot i ∈ ds) (hinj : ∀ i j, i < l.length → j < l.length → slot i = slot j → i = j)
    (hstep : ∀ ops, ops = l.toArray → ∀ (done : Nat → Bool) f w i o, Rel w0 w → ops[i]? = some o → done i = false → (∀ j, j < l.length → done j = false → f (slot j) = a0.eval (.tmp (slot j))) → (∀ j o', ops[j]? = some o' → done j = true → ∀ e ∈ o'.after, Region.binds .any e = true → done e.on = true) → (∀ e ∈ o.after, Region.binds .any e = true → F e.on (f (slot e.on)) w) → wpOp P ops Q i (fun a' w' => ∃ v, a' = (canon a0 ds f).put (some (slot i)) v ∧ F i v w' ∧ Rel w w') (canon a0 ds f) w)
    (hdone : ∀ f w, Rel w0 w → (∀ i, i < l.length → F i (f (slot i)) w) → Q .normal (canon a0 ds f) w) :
    (Code.region id l.toArray true).wp P Q a0 w0 := by
  have hlt : ∀ i o, l.toArray[i]? = some o → i < l.length := fun i o ho => by
    rcases Nat.lt_or_ge i l.length with h' | h'
    · exact h'
    · rw [Array.getElem?_eq_none (by simpa using h')] at ho; cases ho
  refine wp_region_inv (I := fun done t w => ∃ f, t = canon a0 ds f ∧ Rel w0 w ∧ (∀ j, done j = true → j < l.length) ∧ (∀ j, done j = true → F j (f (slot j)) w) ∧ (∀ j, j < l.length → done j = false → f (slot j) = a0.eval (.tmp (slot j))) ∧ ∀ j o', l.toArray[j]? = some o' → done j = true → ∀ e ∈ o'.after, Region.binds .any e = true → done e.on = true) hm ?_ ?_ ?_
  · exact ⟨fun d => a0.eval (.tmp d), (canon_self a0 ds).symm, rd _, (fun j h => by cases h), (fun j h => by cases h), (fun _ _ _ => rfl), fun _ _ _ h => by cases h⟩
  · rintro done t w ⟨f, rfl, hB, hd1, hd2, hd3, hd4⟩ i o ho hl hd
    have hi := hlt i o ho
    refine wpOp_mono ?_ (hstep _ rfl done f w i o hB ho hl hd3 hd4 (fun e he hb => hd2 _ (hd e he hb)))
    rintro a' w' ⟨v, rfl, hv, hB'⟩
    refine ⟨fun x => if x = slot i then v else f x, canon_put a0 ds f (slot i) v (hds i hi), rt hB hB', fun j hj => ?_, fun j hj => ?_, fun j hjl hj => ?_, fun j o' hjo hj e he hb => ?_⟩
    · by_cases e : j = i
      · subst e; exact hi
      · exact hd1 j (by have : (j == i) = false := by simpa using e
                        simpa [this] using hj)
    · by_cases e : j = i
      · subst e
        show F j (if slot j = slot j then v else f (slot j)) w'
        rw [if_pos rfl]
        exact hv
      · have hj' : done j = true := by
          have : (j == i) = false := by simpa using e
          simpa [this] using hj
        show F j (if slot j = slot i then v else f (slot j)) w'
        rw [if_neg (fun q => e (hinj j i (hd1 j hj') hi q))]
        exact hF _ _ _ _ (hd2 j hj') hB'
    · have hne : j ≠ i := fun q => by subst q; simp at hj
      have hj' : done j = false := by
        have : (j == i) = false := by simpa using hne
        simpa [this] using hj
      show (if slot j = slot i then v else f (slot j)) = _
      rw [if_neg (fun q => hne (hinj j i hjl hi q))]
      exact hd3 j hjl hj'
    · by_cases q : j = i
      · subst q
        rw [ho] at hjo
        cases hjo
        simp [hd e he hb]
      · have hj' : done j = true := by
          have : (j == i) = false := by simpa using q
          simpa [this] using hj
        simp [hd4 j o' hjo hj' e he hb]
  · rintro done t w ⟨f, rfl, hB, hd1, hd2, _, _⟩ hall
    have key : ∀ n i, i < n → i < l.length → done i = true := by
      intro n
      induction n with
      | zero => intro i hi; exact absurd hi (Nat.not_lt_zero _)
      | succ n ih =>
        intro i hi hil
        have ho : l.toArray[i]? = some (l[i]) := by simp [hil]
        exact hall i _ ho (fun e he hb => by
          have := backB_at hback ho e he hb
          exact ih e.on (by omega) (by omega))
    exact hdone f w hB (fun i hi => hd2 i (key (i + 1) i (by omega) hi))

end Go.Proofs.Ytjfciokpnhnhbaa
