/-
  As RegR, where one last operation stands behind all others: a region that draws its order, and then stores. No condition.
-/
import Derived.Test.YtjfciokpnhnhbaaRegR
namespace Go.Proofs.Ytjfciokpnhnhbaa
open Go.RowKit
set_option linter.unusedVariables false

/-- is every place below n named by an edge that binds? -/
def namesAll (o : Oper) (n : Nat) : Bool := (List.range n).all fun i => o.after.any fun e => e.on == i && Region.binds .any e
theorem namesAll_at {o : Oper} {n i : Nat} (h : namesAll o n = true) (hi : i < n) : ∃ e ∈ o.after, e.on = i ∧ Region.binds .any e = true := by
  unfold namesAll at h
  rw [List.all_eq_true] at h
  have := h i (List.mem_range.2 hi)
  rw [Array.any_eq_true] at this
  obtain ⟨k, hk, q⟩ := this
  simp only [Bool.and_eq_true, beq_iff_eq] at q
  exact ⟨_, Array.getElem_mem hk, q.1, q.2⟩

/-- f, but v at place s -/
def upd (f : Nat → Value) (s : Nat) (v : Value) : Nat → Value := fun x => if x = s then v else f x
theorem upd_same (f : Nat → Value) (s : Nat) (v : Value) : upd f s v s = v := by unfold upd; rw [if_pos rfl]
theorem upd_ne (f : Nat → Value) {s x : Nat} (v : Value) (h : x ≠ s) : upd f s v x = f x := by unfold upd; rw [if_neg h]
/-- does operation j stand behind i, or is it i? -/
def depsB (l : List Oper) (j i : Nat) : Bool := i == j || match l.toArray[j]? with
  | some o => o.after.any fun e => e.on == i && Region.binds .any e
  | none => false

/-- a fact of each operation, over its own value and over those that it stands behind; and one last operation behind all others -/
theorem wp_region_fin {P : Program} {Rel : World → World → Prop} (rr : ∀ w, Rel w w) (rt : ∀ {a b c}, Rel a b → Rel b c → Rel a c) (rd : ∀ w, Rel w w.drew) {l : List Oper} {Q : Exit → Act → World → Prop} {id : Nat} {a0 : Act} {w0 : World} (n : Nat) (hn : l.length = n + 1) (hm : P.follows .mixedOrders = true) (hback : backB l = true) (ds : List Nat) (slot : Nat → Nat) (F : Nat → (Nat → Value) → World → Prop)
    (ol : Oper) (hol : l.toArray[n]? = some ol) (hnames : namesAll ol n = true)
    (hF : ∀ j f w w', F j f w → Rel w w' → F j f w')
    (hdep : ∀ j f f' w, j < n → (∀ i, depsB l j i = true → f (slot i) = f' (slot i)) → F j f w → F j f' w)
    (hds : ∀ i, i < n → slot i ∈ ds) (hinj : ∀ i j, i < n → j < n → slot i = slot j → i = j)
    (hstep : ∀ ops, ops = l.toArray → ∀ f w i o, i < n → Rel w0 w → ops[i]? = some o → (∀ e ∈ o.after, Region.binds .any e = true → e.on < n → F e.on f w) → wpOp P ops Q i (fun a' w' => ∃ v, a' = (canon a0 ds f).put (some (slot i)) v ∧ F i (upd f (slot i) v) w' ∧ Rel w w') (canon a0 ds f) w)
    (hdone : ∀ ops, ops = l.toArray → ∀ f w, Rel w0 w → ops[n]? = some ol → (∀ i, i < n → F i f w) → wpOp P ops Q n (fun a' w' => Q .normal a' w') (canon a0 ds f) w) :
    (Code.region id l.toArray true).wp P Q a0 w0 := by
  have hlt : ∀ i o, l.toArray[i]? = some o → i < l.length := fun i o ho => by
    rcases Nat.lt_or_ge i l.length with h' | h'
    · exact h'
    · rw [Array.getElem?_eq_none (by simpa using h')] at ho; cases ho
  refine wp_region_inv (I := fun done t w => (done n = false ∧ ∃ f, t = canon a0 ds f ∧ Rel w0 w ∧ (∀ j, j < n → done j = true → F j f w) ∧ (∀ j, j < n → done j = true → ∀ i, depsB l j i = true → done i = true)) ∨ ((∀ i, i ≤ n → done i = true) ∧ Q .normal t w)) hm ?_ ?_ ?_
  · exact .inl ⟨rfl, fun d => a0.eval (.tmp d), (canon_self a0 ds).symm, rd _, (fun j _ h => by cases h), fun j _ h => by cases h⟩
  · rintro done t w hI i o ho hl hd
    have hi := hlt i o ho
    rcases hI with ⟨hdn, f, rfl, hB, hd2, hd3⟩ | ⟨hall, _⟩
    · by_cases hin : i = n
      · subst hin
        rw [hol] at ho
        obtain rfl := Option.some.inj ho
        have hall : ∀ j, j < i → done j = true := fun j hj => by
          obtain ⟨e, he, e1, e2⟩ := namesAll_at hnames hj
          rw [← e1]
          exact hd e he e2
        refine wpOp_mono ?_ (hdone _ rfl f w hB hol (fun j hj => hd2 j hj (hall j hj)))
        intro a' w' hq
        refine .inr ⟨fun j hj => ?_, hq⟩
        rcases Nat.lt_or_eq_of_le hj with h | rfl
        · simp [hall j h]
        · simp
      · have hin' : i < n := by omega
        refine wpOp_mono ?_ (hstep _ rfl f w i o hin' hB ho (fun e he hb hen => hd2 _ hen (hd e he hb)))
        rintro a' w' ⟨v, rfl, hv, hB'⟩
        refine .inl ⟨?_, upd f (slot i) v, canon_put a0 ds f (slot i) v (hds i hin'), rt hB hB', fun j hj hdj => ?_, fun j hj hdj k hk => ?_⟩
        · have : (n == i) = false := by simp; omega
          simp [hdn, this]
        · by_cases e : j = i
          · subst e
            exact hv
          · have hj' : done j = true := by
              have : (j == i) = false := by simpa using e
              simpa [this] using hdj
            refine hdep j f _ w' hj (fun k hk => ?_) (hF _ _ _ _ (hd2 j hj hj') hB')
            have hkd := hd3 j hj hj' k hk
            have hki : k ≠ i := fun q => by rw [q, hl] at hkd; cases hkd
            have hkn : k < n := by
              rcases Nat.lt_trichotomy k n with h | h | h
              · exact h
              · rw [h, hdn] at hkd; cases hkd
              · exfalso
                unfold depsB at hk
                rw [Bool.or_eq_true] at hk
                rcases hk with hk | hk
                · have : k = j := by simpa using hk
                  omega
                · have hjl : j < l.length := by omega
                  have hoj : l.toArray[j]? = some (l[j]) := by simp [hjl]
                  rw [hoj] at hk
                  simp only [Array.any_eq_true] at hk
                  obtain ⟨x, hx, q⟩ := hk
                  simp only [Bool.and_eq_true, beq_iff_eq] at q
                  have := backB_at hback hoj _ (Array.getElem_mem hx) q.2
                  omega
            exact (upd_ne f v (fun q => hki (hinj k i hkn hin' q))).symm
        · by_cases e : j = i
          · subst e
            unfold depsB at hk
            rw [Bool.or_eq_true] at hk
            rcases hk with hk | hk
            · have : k = j := by simpa using hk
              subst this
              simp
            · rw [ho] at hk
              simp only [Array.any_eq_true] at hk
              obtain ⟨x, hx, q⟩ := hk
              simp only [Bool.and_eq_true, beq_iff_eq] at q
              rw [← q.1]
              simp [hd _ (Array.getElem_mem hx) q.2]
          · have hj' : done j = true := by
              have : (j == i) = false := by simpa using e
              simpa [this] using hdj
            simp [hd3 j hj hj' k hk]
    · exact absurd (hall i (by omega)) (by rw [hl]; decide)
  · rintro done t w hI hall
    rcases hI with ⟨hdn, f, rfl, hB, hd2, _⟩ | ⟨_, hq⟩
    · have key : ∀ m i, i < m → i < l.length → done i = true := by
        intro m
        induction m with
        | zero => intro i hi; exact absurd hi (Nat.not_lt_zero _)
        | succ m ih =>
          intro i hi hil
          have ho : l.toArray[i]? = some (l[i]) := by simp [hil]
          exact hall i _ ho (fun e he hb => by
            have := backB_at hback ho e he hb
            exact ih e.on (by omega) (by omega))
      have := key (n + 1) n (by omega) (by omega)
      rw [hdn] at this
      cases this
    · exact hq
end Go.Proofs.Ytjfciokpnhnhbaa
