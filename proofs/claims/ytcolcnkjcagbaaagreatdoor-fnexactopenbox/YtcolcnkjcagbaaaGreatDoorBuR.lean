/-
  A region that draws its order, by an invariant that each operation keeps in whatever order. No condition.
  A frame whose slots ds hold f, all others as they were: what a region's operations leave, in whatever order. No condition.
  A region that draws its order and whose operations only add memory: of each operation's value something holds for good, in whatever order. No condition.
  As RegF, for regions in which operations can be skipped (their slot then holds undef). Operations and frame under letters. No condition.
  As RegF, over any relation of worlds that holds from each world to itself and onwards: regions that draw their order and whose operations turn memory that nothing else reads. No condition.
  The region in which a sealed term is laid to wait: what its operations keep, in whatever order. No condition.
  The program's take of a sealed term whose key is not there: it waits. No condition but that the terms are right.
  The program's take of a sealed term whose key is not there: the walk. No condition but that the terms are right.
  The program's take of any term, and its openedOf: the set of the texts that are opened. No condition but that the terms are right.
  The program's Opened: the texts of all that is opened, rising. No condition but that the slice reads and that the table of powers of ten lies.
-/
import Derived.Test.YtcolcnkjcagbaaaGreatDoorBase
import Derived.OrdersHeld
import Derived.RegionTactic
import Derived.Deep.Cut
import Derived.Test.YtcolcnkjcagbaaaGreatDoorBuV
import Derived.Deep.AppendLies
import Derived.Test.YtcolcnkjcagbaaaGreatDoorKnownI
namespace Go.Proofs.YtcolcnkjcagbaaaGreatDoor
open Go.RowKit
set_option linter.unusedVariables false

theorem put_eval_same (a : Act) (d : Nat) (v : Value) (h : d < a.tmps.size) : (a.put (some d) v).eval (.tmp d) = v := by simp [Act.put, Act.eval, h]
theorem put_eval_ne (a : Act) (d k : Nat) (v : Value) (h : d ≠ k) : (a.put (some d) v).eval (.tmp k) = a.eval (.tmp k) := by
  simp [Act.put, Act.eval, Array.getElem?_setIfInBounds_ne h]
theorem put_size (a : Act) (d : Nat) (v : Value) : (a.put (some d) v).tmps.size = a.tmps.size := by simp [Act.put]

section
variable {P : Program} {ops : Array Oper} {Q : Exit → Act → World → Prop} {md : Region.Mode} {I : (Nat → Bool) → Act → World → Prop}

theorem wpAny_inv
    (hstep : ∀ l a w, I l a w → ∀ i o, ops[i]? = some o → l i = false → (∀ e ∈ o.after, Region.binds md e = true → l e.on = true) → wpOp P ops Q i (fun a' w' => I (fun j => l j || j == i) a' w') a w)
    (hdone : ∀ l a w, I l a w → (∀ i o, ops[i]? = some o → (∀ e ∈ o.after, Region.binds md e = true → l e.on = true) → l i = true) → Q .normal a w) :
    ∀ (fuel : Nat) (listed : Array Bool) (a : Act) (w : World), listed.size = ops.size → I (fun j => listed.getD j false) a w → List.count false listed.toList ≤ fuel → wpAny P md ops Q fuel listed a w := by
  have fin : ∀ (listed : Array Bool) (a : Act) (w : World), listed.size = ops.size → I (fun j => listed.getD j false) a w → Region.ready md ops listed = [] → Q .normal a w := by
    intro listed a w hs hI hr
    refine hdone _ a w hI fun i o ho ha => ?_
    cases hl : listed.getD i false with
    | true => rfl
    | false =>
      have hi : i < listed.size := by
        rw [hs]
        rcases Nat.lt_or_ge i ops.size with h | h
        · exact h
        · rw [Array.getElem?_eq_none h] at ho; cases ho
      have hm : i ∈ Region.ready md ops listed := mem_ready.2 ⟨by simp [hi] at hl ⊢; exact hl, o, ho, ha⟩
      rw [hr] at hm
      cases hm
  intro fuel
  induction fuel with
  | zero =>
    intro listed a w hs hI hc
    have hr : Region.ready md ops listed = [] := by
      refine List.eq_nil_iff_forall_not_mem.2 fun i hi => ?_
      obtain ⟨h0, o, ho, _⟩ := mem_ready.1 hi
      have hi : i < listed.size := by
        rw [hs]
        rcases Nat.lt_or_ge i ops.size with h | h
        · exact h
        · rw [Array.getElem?_eq_none h] at ho; cases ho
      have hf : listed[i] = false := by simpa [hi] using h0
      have : false ∈ listed.toList := by rw [← hf]; simp
      have := List.count_pos_iff.2 this
      omega
    exact ⟨hr, fin listed a w hs hI hr⟩
  | succ fuel ih =>
    intro listed a w hs hI hc
    refine ⟨fun hr => fin listed a w hs hI hr, fun i hi => ?_⟩
    obtain ⟨h0, o, ho, ha⟩ := mem_ready.1 hi
    have hi : i < listed.size := by
      rw [hs]
      rcases Nat.lt_or_ge i ops.size with h | h
      · exact h
      · rw [Array.getElem?_eq_none h] at ho; cases ho
    have hf : listed[i] = false := by simpa [hi] using h0
    refine wpOp_mono (fun a' w' h' => ih (listed.setIfInBounds i true) a' w' (by simpa using hs) ?_ ?_) (hstep _ a w hI i o ho (by simp [hi, hf]) ha)
    · have e : (fun j => (listed.setIfInBounds i true).getD j false) = fun j => listed.getD j false || j == i := by
        funext j
        by_cases hj : i = j
        · subst hj; simp [hi]
        · rw [getD_set_ne false hj]
          have : (j == i) = false := by simp; omega
          rw [this, Bool.or_false]
      rw [e]
      exact h'
    · have hp : 0 < List.count false listed.toList := List.count_pos_iff.2 (by rw [← hf]; simp)
      have : List.count false (listed.toList.set i true) = List.count false listed.toList - 1 := by
        rw [List.count_set (by simpa using hi)]
        simp [hf]
      rw [Array.toList_setIfInBounds, this]
      omega

theorem wp_region_inv {id : Nat} {a : Act} {w : World} (hm : P.follows .mixedOrders = true) (h0 : I (fun _ => false) a w.drew)
    (hstep : ∀ l a w, I l a w → ∀ i o, ops[i]? = some o → l i = false → (∀ e ∈ o.after, Region.binds .any e = true → l e.on = true) → wpOp P ops Q i (fun a' w' => I (fun j => l j || j == i) a' w') a w)
    (hdone : ∀ l a w, I l a w → (∀ i o, ops[i]? = some o → (∀ e ∈ o.after, Region.binds .any e = true → l e.on = true) → l i = true) → Q .normal a w) :
    (Code.region id ops true).wp P Q a w := by
  refine wp_region_any hm (wpAny_inv hstep hdone _ _ _ _ (by simp) ?_ ?_)
  · have e : (fun j => (Array.replicate ops.size false).getD j false) = fun _ => false := by
      funext j
      simp [Array.getElem?_replicate]
      split <;> rfl
    rw [e]
    exact h0
  · simp
end
end Go.Proofs.YtcolcnkjcagbaaaGreatDoor

namespace Go.Proofs.YtcolcnkjcagbaaaGreatDoor
open Go.RowKit
set_option linter.unusedVariables false

/-- the frame a0, its slots ds written with f -/
def canon (a0 : Act) (ds : List Nat) (f : Nat → Value) : Act := ds.foldl (fun t d => t.put (some d) (f d)) a0
theorem canon_cons (a0 : Act) (d : Nat) (ds : List Nat) (f : Nat → Value) : canon a0 (d :: ds) f = canon (a0.put (some d) (f d)) ds f := rfl
theorem canon_size (ds : List Nat) (f : Nat → Value) : ∀ a0 : Act, (canon a0 ds f).tmps.size = a0.tmps.size := by
  induction ds with
  | nil => intro a0; rfl
  | cons d ds ih => intro a0; rw [canon_cons, ih, put_size]
theorem canon_defers (ds : List Nat) (f : Nat → Value) : ∀ a0 : Act, (canon a0 ds f).defers = a0.defers := by
  induction ds with
  | nil => intro a0; rfl
  | cons d ds ih => intro a0; rw [canon_cons, ih]; rfl
theorem canon_get (ds : List Nat) (f : Nat → Value) (i : Nat) : ∀ a0 : Act, (canon a0 ds f).tmps[i]? = if i ∈ ds ∧ i < a0.tmps.size then some (f i) else a0.tmps[i]? := by
  induction ds with
  | nil => intro a0; simp [canon]
  | cons d ds ih =>
    intro a0
    rw [canon_cons, ih, put_size]
    by_cases hi : i ∈ ds ∧ i < a0.tmps.size
    · rw [if_pos hi, if_pos ⟨List.mem_cons_of_mem _ hi.1, hi.2⟩]
    · rw [if_neg hi]
      by_cases hd : i = d
      · subst hd
        by_cases hs : i < a0.tmps.size
        · rw [if_pos ⟨List.mem_cons_self, hs⟩]
          simp [Act.put, hs]
        · rw [if_neg (fun h => hs h.2)]
          simp [Act.put, hs]
      · rw [if_neg (fun h => hi ⟨by rcases List.mem_cons.1 h.1 with h1 | h1; exact absurd h1 hd; exact h1, h.2⟩)]
        simp [Act.put, Array.getElem?_setIfInBounds_ne (fun h => hd h.symm)]
theorem act_ext {a b : Act} (h1 : ∀ i : Nat, a.tmps[i]? = b.tmps[i]?) (h2 : a.defers = b.defers) : a = b := by
  obtain ⟨t, d⟩ := a
  obtain ⟨t', d'⟩ := b
  obtain rfl : t = t' := Array.ext_getElem? (fun i => h1 i)
  obtain rfl : d = d' := h2
  rfl
theorem canon_put (a0 : Act) (ds : List Nat) (f : Nat → Value) (d : Nat) (v : Value) (hd : d ∈ ds) : (canon a0 ds f).put (some d) v = canon a0 ds (fun x => if x = d then v else f x) := by
  refine act_ext (fun i => ?_) (by rw [canon_defers]; exact canon_defers ds f a0)
  rw [canon_get]
  by_cases hi : i = d
  · subst hi
    rw [if_pos rfl]
    by_cases hs : i < a0.tmps.size
    · rw [if_pos ⟨hd, hs⟩]
      simp [Act.put, canon_size, hs]
    · rw [if_neg (fun h => hs h.2)]
      simp [Act.put, canon_size, hs]
  · rw [if_neg hi]
    have : ((canon a0 ds f).put (some d) v).tmps[i]? = (canon a0 ds f).tmps[i]? := by simp [Act.put, Array.getElem?_setIfInBounds_ne (fun h => hi h.symm)]
    rw [this, canon_get]
theorem canon_eval (a0 : Act) (ds : List Nat) (f : Nat → Value) (d : Nat) (hd : d ∈ ds) (hs : d < a0.tmps.size) : (canon a0 ds f).eval (.tmp d) = f d := by
  have h := canon_get ds f d a0
  rw [if_pos ⟨hd, hs⟩] at h
  show (canon a0 ds f).tmps.getD d undef = _
  simp [h]
theorem canon_eval_ne (a0 : Act) (ds : List Nat) (f : Nat → Value) (d : Nat) (hd : d ∉ ds) : (canon a0 ds f).eval (.tmp d) = a0.eval (.tmp d) := by
  have h := canon_get ds f d a0
  rw [if_neg (fun h => hd h.1)] at h
  show (canon a0 ds f).tmps.getD d undef = a0.tmps.getD d undef
  simp [h]
theorem canon_self (a0 : Act) (ds : List Nat) : canon a0 ds (fun d => a0.eval (.tmp d)) = a0 := by
  refine act_ext (fun i => ?_) (canon_defers ds _ a0)
  rw [canon_get]
  split
  · rename_i h
    show some (a0.tmps.getD i undef) = _
    simp [h.2]
  · rfl
end Go.Proofs.YtcolcnkjcagbaaaGreatDoor

namespace Go.Proofs.YtcolcnkjcagbaaaGreatDoor
open Go.RowKit
set_option linter.unusedVariables false

/-- every operation waits, where that binds, for earlier ones of the text alone -/
def backB (l : List Oper) : Bool := (List.range l.length).all fun i => match l.toArray[i]? with
  | some o => o.after.all fun e => !Region.binds .any e || decide (e.on < i)
  | none => true
theorem backB_at {l : List Oper} (h : backB l = true) {i : Nat} {o : Oper} (ho : l.toArray[i]? = some o) : ∀ e ∈ o.after, Region.binds .any e = true → e.on < i := by
  have hi : i < l.length := by
    rcases Nat.lt_or_ge i l.length with h' | h'
    · exact h'
    · rw [Array.getElem?_eq_none (by simpa using h')] at ho; cases ho
  unfold backB at h
  rw [List.all_eq_true] at h
  have := h i (List.mem_range.2 hi)
  rw [ho] at this
  intro e he hb
  have h2 := (Array.all_eq_true_iff_forall_mem.1 this) e he
  rw [hb] at h2
  exact of_decide_eq_true (by simpa using h2)

theorem wp_region_facts {P : Program} {l : List Oper} {Q : Exit → Act → World → Prop} {id : Nat} {a0 : Act} {w0 : World} (hm : P.follows .mixedOrders = true) (hback : backB l = true) (ds : List Nat) (slot : Nat → Nat) (F : Nat → Value → World → Prop)
    (hF : ∀ j v w w', F j v w → Below w.heap.size w w' → F j v w')
    (hds : ∀ i, i < l.length → slot i ∈ ds) (hinj : ∀ i j, i < l.length → j < l.length → slot i = slot j → i = j)
    (hstep : ∀ f w i o, Below w0.heap.size w0 w → l.toArray[i]? = some o → (∀ e ∈ o.after, Region.binds .any e = true → F e.on (f (slot e.on)) w) → wpOp P l.toArray Q i (fun a' w' => ∃ v, a' = (canon a0 ds f).put (some (slot i)) v ∧ F i v w' ∧ Below w.heap.size w w') (canon a0 ds f) w)
    (hdone : ∀ f w, Below w0.heap.size w0 w → (∀ i, i < l.length → F i (f (slot i)) w) → Q .normal (canon a0 ds f) w) :
    (Code.region id l.toArray true).wp P Q a0 w0 := by
  have hlt : ∀ i o, l.toArray[i]? = some o → i < l.length := fun i o ho => by
    rcases Nat.lt_or_ge i l.length with h' | h'
    · exact h'
    · rw [Array.getElem?_eq_none (by simpa using h')] at ho; cases ho
  refine wp_region_inv (I := fun done t w => ∃ f, t = canon a0 ds f ∧ Below w0.heap.size w0 w ∧ (∀ j, done j = true → j < l.length) ∧ ∀ j, done j = true → F j (f (slot j)) w) hm ?_ ?_ ?_
  · exact ⟨fun d => a0.eval (.tmp d), (canon_self a0 ds).symm, (Below.refl _ _).drew, (fun j h => by cases h), fun j h => by cases h⟩
  · rintro done t w ⟨f, rfl, hB, hd1, hd2⟩ i o ho hl hd
    have hi := hlt i o ho
    refine wpOp_mono ?_ (hstep f w i o hB ho (fun e he hb => hd2 _ (hd e he hb)))
    rintro a' w' ⟨v, rfl, hv, hB'⟩
    refine ⟨fun x => if x = slot i then v else f x, canon_put a0 ds f (slot i) v (hds i hi), hB.trans (hB'.mono hB.size), fun j hj => ?_, fun j hj => ?_⟩
    · by_cases e : j = i
      · subst e; exact hi
      · exact hd1 j (by have : (j == i) = false := by simpa using e
                        simpa [this] using hj)
    · by_cases e : j = i
      · subst e
        show F j (if slot j = slot j then v else f (slot j)) w'
        rw [if_pos rfl]
        exact hv
      · have hj' : done j = true := by
          have : (j == i) = false := by simpa using e
          simpa [this] using hj
        show F j (if slot j = slot i then v else f (slot j)) w'
        rw [if_neg (fun q => e (hinj j i (hd1 j hj') hi q))]
        exact hF _ _ _ _ (hd2 j hj') hB'
  · rintro done t w ⟨f, rfl, hB, hd1, hd2⟩ hall
    have key : ∀ n i, i < n → i < l.length → done i = true := by
      intro n
      induction n with
      | zero => intro i hi; exact absurd hi (Nat.not_lt_zero _)
      | succ n ih =>
        intro i hi hil
        have ho : l.toArray[i]? = some (l[i]) := by simp [hil]
        exact hall i _ ho (fun e he hb => by
          have := backB_at hback ho e he hb
          exact ih e.on (by omega) (by omega))
    exact hdone f w hB (fun i hi => hd2 i (key (i + 1) i (by omega) hi))

theorem wpOp_runG {P : Program} {ops : Array Oper} {Q : Exit → Act → World → Prop} {i : Nat} {o : Oper} {K : Act → World → Prop} {t : Act} {w w' : World} {v : Value} (ho : ops[i]? = some o) (hg : Region.wanted o (yielded ops t.tmps) = true) (hrun : (execOp t.eval o).run P w = .ok (.value v) w') (h : K (t.put o.dst v) w') : wpOp P ops Q i K t w := by
  refine wpOp_step ho fun K' hK => ?_
  rw [if_pos hg]
  unfold Oper.wp
  rw [hrun]
  exact hK _ _ h
theorem wpOp_enterG {P : Program} {ops : Array Oper} {Q : Exit → Act → World → Prop} {i : Nat} {o : Oper} {K : Act → World → Prop} {t : Act} {w : World} {f : FuncId} {args : Array Value} (ho : ops[i]? = some o) (hg : Region.wanted o (yielded ops t.tmps) = true) (hrun : (execOp t.eval o).run P w = .ok (.enter f args) w) (h : Calls P f args w fun e w' => ∃ v, e = .returned v ∧ K (t.put o.dst v) w') : wpOp P ops Q i K t w := by
  refine wpOp_step ho fun K' hK => ?_
  rw [if_pos hg]
  unfold Oper.wp
  rw [hrun]
  refine Calls.mono h ?_
  rintro e w' ⟨v, rfl, hv⟩
  exact hK _ _ hv
theorem wanted_none {o : Oper} {y : Nat → Option Bool} (h : o.guard = none) : Region.wanted o y = true := by simp [Region.wanted, h]
/-- a guard that holds -/
theorem wanted_canon {ops : Array Oper} {o og : Oper} {a0 : Act} {ds : List Nat} {f : Nat → Value} {j d : Nat} {b : Bool} (h : o.guard = some (j, b)) (hj : ops[j]? = some og) (hd : og.dst = some d) (hds : d ∈ ds) (hs : d < a0.tmps.size) (hf : f d = .bool b) : Region.wanted o (yielded ops (canon a0 ds f).tmps) = true := by
  have hc := canon_get ds f d a0
  rw [if_pos ⟨hds, hs⟩] at hc
  simp [Region.wanted, h, yielded, hj, hd, hc, hf]

section
variable (ev : Operand → Value) (o : Oper) (w : World)
theorem q_move (x : Operand) (h : o.op = .move x) : (execOp ev o).run Tryz.prog w = .ok (.value (ev x)) w := by simp [execOp, h]
theorem q_assign (x : Operand) (h : o.op = .assign x) : (execOp ev o).run Tryz.prog w = .ok (.value (ev x)) w := by simp [execOp, h]
theorem q_call2 (f : FuncId) (he : ∀ args w, (callFunc f args).run Tryz.prog w = .ok (.enter f args) w) (x y : Operand) (ts : Array TypeId) (h : o.op = .call { callee := .value (.func f), args := #[x, y], argTypes := ts }) (hf : ev (.func f) = .func (.func f) #[] #[]) : (execOp ev o).run Tryz.prog w = .ok (.enter f #[ev x, ev y]) w := by
  simp [execOp, h, resolve, invoke, hf, Deferred.ofValue, he]
theorem q_call3 (f : FuncId) (he : ∀ args w, (callFunc f args).run Tryz.prog w = .ok (.enter f args) w) (x y z : Operand) (ts : Array TypeId) (h : o.op = .call { callee := .value (.func f), args := #[x, y, z], argTypes := ts }) (hf : ev (.func f) = .func (.func f) #[] #[]) : (execOp ev o).run Tryz.prog w = .ok (.enter f #[ev x, ev y, ev z]) w := by
  simp [execOp, h, resolve, invoke, hf, Deferred.ofValue, he]

theorem q_lit1 (c0 : Operand) (h : o.op = .buildSlice 45 1 #[(0, c0)]) (h0 : ev c0 = .int .i64 1) : (execOp ev o).run Tryz.prog w = .ok (.value (.slice (some ⟨w.heap.size, 0, none⟩) 1 1)) (w.alloc (.cells #[.int .i64 1] 2)) := by
  simp [execOp, h, h0]
  go_simp

theorem q_eql (x y : Operand) (p : Bool) (h : o.op = .binOp .eql 4 x y 4) (hx : ev x = .bool p) (hy : ev y = .bool p) : (execOp ev o).run Tryz.prog w = .ok (.value (.bool true)) w := by
  simp [execOp, h, hx, hy]
  go_simp
theorem q_pick (x y z : Operand) (h : o.op = .pick x y z) (hx : ev x = .bool true) : (execOp ev o).run Tryz.prog w = .ok (.value (ev y)) w := by
  simp [execOp, h, hx]
  go_simp
end
end Go.Proofs.YtcolcnkjcagbaaaGreatDoor

namespace Go.Proofs.YtcolcnkjcagbaaaGreatDoor
open Go.RowKit
set_option linter.unusedVariables false

/-- the operations under a letter -/
theorem wp_region_skips {P : Program} {l : List Oper} {Q : Exit → Act → World → Prop} {id : Nat} {a0 : Act} {w0 : World} (hm : P.follows .mixedOrders = true) (hback : backB l = true) (ds : List Nat) (slot : Nat → Nat) (F : Nat → Value → World → Prop)
    (hF : ∀ j v w w', F j v w → Below w.heap.size w w' → F j v w')
    (hds : ∀ i, i < l.length → slot i ∈ ds) (hinj : ∀ i j, i < l.length → j < l.length → slot i = slot j → i = j)
    (hstep : ∀ ops, ops = l.toArray → ∀ f w i o, Below w0.heap.size w0 w → ops[i]? = some o → (∀ e ∈ o.after, Region.binds .any e = true → F e.on (f (slot e.on)) w) → wpOp P ops Q i (fun a' w' => ∃ v, a' = (canon a0 ds f).put (some (slot i)) v ∧ F i v w' ∧ Below w.heap.size w w') (canon a0 ds f) w)
    (hdone : ∀ f w, Below w0.heap.size w0 w → (∀ i, i < l.length → F i (f (slot i)) w) → Q .normal (canon a0 ds f) w) :
    (Code.region id l.toArray true).wp P Q a0 w0 := wp_region_facts hm hback ds slot F hF hds hinj (hstep _ rfl) hdone

/-- an operation that its guard passes by -/
theorem wpOp_skipG {P : Program} {ops : Array Oper} {Q : Exit → Act → World → Prop} {i : Nat} {o : Oper} {K : Act → World → Prop} {t : Act} {w : World} (ho : ops[i]? = some o) (hg : Region.wanted o (yielded ops t.tmps) = false) (h : K (t.put o.dst undef) w) : wpOp P ops Q i K t w := by
  refine wpOp_step ho fun K' hK => ?_
  rw [if_neg (by rw [hg]; decide)]
  exact hK _ _ h
/-- a guard, read off its slot -/
theorem wanted_is {ops : Array Oper} {i : Nat} {oi : Oper} (_ : ops[i]? = some oi) {a0 : Act} {ds : List Nat} {f : Nat → Value} (j d : Nat) (b : Bool) (hj : (ops[j]?).bind (·.dst) = some d) (hds : d ∈ ds) (hs : d < a0.tmps.size) : ∀ (o : Oper) (c : Bool), f d = .bool c → o.guard = some (j, b) → Region.wanted o (yielded ops (canon a0 ds f).tmps) = (c == b) := fun o c hf hg => by
  have hc := canon_get ds f d a0
  rw [if_pos ⟨hds, hs⟩] at hc
  cases hq : ops[j]? with
  | none => rw [hq] at hj; cases hj
  | some og =>
    rw [hq] at hj
    have hj' : og.dst = some d := hj
    simp [Region.wanted, hg, yielded, hq, hj', hc, hf]
theorem wanted_undef {ops : Array Oper} {i : Nat} {oi : Oper} (_ : ops[i]? = some oi) {a0 : Act} {ds : List Nat} {f : Nat → Value} (j d : Nat) (b : Bool) (hj : (ops[j]?).bind (·.dst) = some d) (hds : d ∈ ds) (hs : d < a0.tmps.size) : ∀ (o : Oper), f d = undef → o.guard = some (j, b) → Region.wanted o (yielded ops (canon a0 ds f).tmps) = false := fun o hf hg => by
  have hc := canon_get ds f d a0
  rw [if_pos ⟨hds, hs⟩] at hc
  cases hq : ops[j]? with
  | none => rw [hq] at hj; cases hj
  | some og =>
    rw [hq] at hj
    have hj' : og.dst = some d := hj
    simp [Region.wanted, hg, yielded, hq, hj', hc, hf, undef]
/-- the frame under a letter -/
theorem wp_letter {c : Code} {P : Program} {Q : Exit → Act → World → Prop} {a : Act} {w : World} (h : ∀ a', a' = a → c.wp P Q a' w) : c.wp P Q a w := h a rfl
end Go.Proofs.YtcolcnkjcagbaaaGreatDoor

namespace Go.Proofs.YtcolcnkjcagbaaaGreatDoor
open Go.RowKit
set_option linter.unusedVariables false

theorem wp_cut_to {P : Program} {s : Code} {K : Act → World → Prop} {Q' : Exit → Act → World → Prop} {a : Act} {w : World} (R : Act → Act → World → Prop)
    (rest : ∀ a' w', R a a' w' → K a' w')
    (first : ∀ (J K' : Act → World → Prop), (∀ a' w', R a a' w' → J a' w') → (∀ a' w', Met J a' w' → K' a' w') → s.wp P (Exit.then K' Q') a w) : s.wp P (Exit.then K Q') a w := wp_cut (R a) rest first
theorem wp_region_rel {P : Program} {Rel : World → World → Prop} (rr : ∀ w, Rel w w) (rt : ∀ {a b c}, Rel a b → Rel b c → Rel a c) (rd : ∀ w, Rel w w.drew) {l : List Oper} {Q : Exit → Act → World → Prop} {id : Nat} {a0 : Act} {w0 : World} (hm : P.follows .mixedOrders = true) (hback : backB l = true) (ds : List Nat) (slot : Nat → Nat) (F : Nat → Value → World → Prop)
    (hF : ∀ j v w w', F j v w → Rel w w' → F j v w')
    (hds : ∀ i, i < l.length → slot i ∈ ds) (hinj : ∀ i j, i < l.length → j < l.length → slot i = slot j → i = j)
    (hstep : ∀ ops, ops = l.toArray → ∀ f w i o, Rel w0 w → ops[i]? = some o → (∀ e ∈ o.after, Region.binds .any e = true → F e.on (f (slot e.on)) w) → wpOp P ops Q i (fun a' w' => ∃ v, a' = (canon a0 ds f).put (some (slot i)) v ∧ F i v w' ∧ Rel w w') (canon a0 ds f) w)
    (hdone : ∀ f w, Rel w0 w → (∀ i, i < l.length → F i (f (slot i)) w) → Q .normal (canon a0 ds f) w) :
    (Code.region id l.toArray true).wp P Q a0 w0 := by
  have hlt : ∀ i o, l.toArray[i]? = some o → i < l.length := fun i o ho => by
    rcases Nat.lt_or_ge i l.length with h' | h'
    · exact h'
    · rw [Array.getElem?_eq_none (by simpa using h')] at ho; cases ho
  refine wp_region_inv (I := fun done t w => ∃ f, t = canon a0 ds f ∧ Rel w0 w ∧ (∀ j, done j = true → j < l.length) ∧ ∀ j, done j = true → F j (f (slot j)) w) hm ?_ ?_ ?_
  · exact ⟨fun d => a0.eval (.tmp d), (canon_self a0 ds).symm, rd _, (fun j h => by cases h), fun j h => by cases h⟩
  · rintro done t w ⟨f, rfl, hB, hd1, hd2⟩ i o ho hl hd
    have hi := hlt i o ho
    refine wpOp_mono ?_ (hstep _ rfl f w i o hB ho (fun e he hb => hd2 _ (hd e he hb)))
    rintro a' w' ⟨v, rfl, hv, hB'⟩
    refine ⟨fun x => if x = slot i then v else f x, canon_put a0 ds f (slot i) v (hds i hi), rt hB hB', fun j hj => ?_, fun j hj => ?_⟩
    · by_cases e : j = i
      · subst e; exact hi
      · exact hd1 j (by have : (j == i) = false := by simpa using e
                        simpa [this] using hj)
    · by_cases e : j = i
      · subst e
        show F j (if slot j = slot j then v else f (slot j)) w'
        rw [if_pos rfl]
        exact hv
      · have hj' : done j = true := by
          have : (j == i) = false := by simpa using e
          simpa [this] using hj
        show F j (if slot j = slot i then v else f (slot j)) w'
        rw [if_neg (fun q => e (hinj j i (hd1 j hj') hi q))]
        exact hF _ _ _ _ (hd2 j hj') hB'
  · rintro done t w ⟨f, rfl, hB, hd1, hd2⟩ hall
    have key : ∀ n i, i < n → i < l.length → done i = true := by
      intro n
      induction n with
      | zero => intro i hi; exact absurd hi (Nat.not_lt_zero _)
      | succ n ih =>
        intro i hi hil
        have ho : l.toArray[i]? = some (l[i]) := by simp [hil]
        exact hall i _ ho (fun e he hb => by
          have := backB_at hback ho e he hb
          exact ih e.on (by omega) (by omega))
    exact hdone f w hB (fun i hi => hd2 i (key (i + 1) i (by omega) hi))

/-- the same, where an operation reads a slot that a later one writes -/
theorem wp_region_rel2 {P : Program} {Rel : World → World → Prop} (rr : ∀ w, Rel w w) (rt : ∀ {a b c}, Rel a b → Rel b c → Rel a c) (rd : ∀ w, Rel w w.drew) {l : List Oper} {Q : Exit → Act → World → Prop} {id : Nat} {a0 : Act} {w0 : World} (hm : P.follows .mixedOrders = true) (hback : backB l = true) (ds : List Nat) (slot : Nat → Nat) (F : Nat → Value → World → Prop)
    (hF : ∀ j v w w', F j v w → Rel w w' → F j v w')
    (hds : ∀ i, i < l.length → slot i ∈ ds) (hinj : ∀ i j, i < l.length → j < l.length → slot i = slot j → i = j)
    (hstep : ∀ ops, ops = l.toArray → ∀ (done : Nat → Bool) f w i o, Rel w0 w → ops[i]? = some o → done i = false → (∀ j, j < l.length → done j = false → f (slot j) = a0.eval (.tmp (slot j))) → (∀ j o', ops[j]? = some o' → done j = true → ∀ e ∈ o'.after, Region.binds .any e = true → done e.on = true) → (∀ e ∈ o.after, Region.binds .any e = true → F e.on (f (slot e.on)) w) → wpOp P ops Q i (fun a' w' => ∃ v, a' = (canon a0 ds f).put (some (slot i)) v ∧ F i v w' ∧ Rel w w') (canon a0 ds f) w)
    (hdone : ∀ f w, Rel w0 w → (∀ i, i < l.length → F i (f (slot i)) w) → Q .normal (canon a0 ds f) w) :
    (Code.region id l.toArray true).wp P Q a0 w0 := by
  have hlt : ∀ i o, l.toArray[i]? = some o → i < l.length := fun i o ho => by
    rcases Nat.lt_or_ge i l.length with h' | h'
    · exact h'
    · rw [Array.getElem?_eq_none (by simpa using h')] at ho; cases ho
  refine wp_region_inv (I := fun done t w => ∃ f, t = canon a0 ds f ∧ Rel w0 w ∧ (∀ j, done j = true → j < l.length) ∧ (∀ j, done j = true → F j (f (slot j)) w) ∧ (∀ j, j < l.length → done j = false → f (slot j) = a0.eval (.tmp (slot j))) ∧ ∀ j o', l.toArray[j]? = some o' → done j = true → ∀ e ∈ o'.after, Region.binds .any e = true → done e.on = true) hm ?_ ?_ ?_
  · exact ⟨fun d => a0.eval (.tmp d), (canon_self a0 ds).symm, rd _, (fun j h => by cases h), (fun j h => by cases h), (fun _ _ _ => rfl), fun _ _ _ h => by cases h⟩
  · rintro done t w ⟨f, rfl, hB, hd1, hd2, hd3, hd4⟩ i o ho hl hd
    have hi := hlt i o ho
    refine wpOp_mono ?_ (hstep _ rfl done f w i o hB ho hl hd3 hd4 (fun e he hb => hd2 _ (hd e he hb)))
    rintro a' w' ⟨v, rfl, hv, hB'⟩
    refine ⟨fun x => if x = slot i then v else f x, canon_put a0 ds f (slot i) v (hds i hi), rt hB hB', fun j hj => ?_, fun j hj => ?_, fun j hjl hj => ?_, fun j o' hjo hj e he hb => ?_⟩
    · by_cases e : j = i
      · subst e; exact hi
      · exact hd1 j (by have : (j == i) = false := by simpa using e
                        simpa [this] using hj)
    · by_cases e : j = i
      · subst e
        show F j (if slot j = slot j then v else f (slot j)) w'
        rw [if_pos rfl]
        exact hv
      · have hj' : done j = true := by
          have : (j == i) = false := by simpa using e
          simpa [this] using hj
        show F j (if slot j = slot i then v else f (slot j)) w'
        rw [if_neg (fun q => e (hinj j i (hd1 j hj') hi q))]
        exact hF _ _ _ _ (hd2 j hj') hB'
    · have hne : j ≠ i := fun q => by subst q; simp at hj
      have hj' : done j = false := by
        have : (j == i) = false := by simpa using hne
        simpa [this] using hj
      show (if slot j = slot i then v else f (slot j)) = _
      rw [if_neg (fun q => hne (hinj j i hjl hi q))]
      exact hd3 j hjl hj'
    · by_cases q : j = i
      · subst q
        rw [ho] at hjo
        cases hjo
        simp [hd e he hb]
      · have hj' : done j = true := by
          have : (j == i) = false := by simpa using q
          simpa [this] using hj
        simp [hd4 j o' hjo hj' e he hb]
  · rintro done t w ⟨f, rfl, hB, hd1, hd2, _, _⟩ hall
    have key : ∀ n i, i < n → i < l.length → done i = true := by
      intro n
      induction n with
      | zero => intro i hi; exact absurd hi (Nat.not_lt_zero _)
      | succ n ih =>
        intro i hi hil
        have ho : l.toArray[i]? = some (l[i]) := by simp [hil]
        exact hall i _ ho (fun e he hb => by
          have := backB_at hback ho e he hb
          exact ih e.on (by omega) (by omega))
    exact hdone f w hB (fun i hi => hd2 i (key (i + 1) i (by omega) hi))

end Go.Proofs.YtcolcnkjcagbaaaGreatDoor

namespace Go.Proofs.YtcolcnkjcagbaaaGreatDoor
open Go.RowKit Go.Maps
set_option linter.unusedVariables false
theorem infoTerm : (Tryz.prog.info? 75).map (fun i => (i.zero, i.size, i.bytes)) = some (some .nilIface, 1, 16) := by kernel_rfl

/-- the values of the reading operations -/
def wVal (bx px F n : Nat) (sa : Option Addr) (len sc : Nat) (T1 : TypeId) (u1 : Value) : Nat → Value
  | 0 => .pointer (some ⟨bx, 1, none⟩)
  | 1 => .map (some F)
  | 2 => .pointer (some ⟨px, 1, none⟩)
  | 3 => .int .i64 (n : Int)
  | 4 => .pointer (some ⟨bx, 1, none⟩)
  | 5 => .map (some F)
  | 6 => .pointer (some ⟨px, 1, none⟩)
  | 7 => .int .i64 (n : Int)
  | 8 => .slice sa len sc
  | 9 => .pointer (some ⟨px, 2, none⟩)
  | 10 => .iface T1 u1
  | _ => undef
def dsW : List Nat := [58, 59, 60, 61, 62, 63, 64, 65, 66, 67, 68, 69, 70]
theorem dsW_mem {i : Nat} (hi : i < 13) : 58 + i ∈ dsW := by
  have h : ∀ i : Fin 13, 58 + i.val ∈ dsW := by decide
  exact h ⟨i, hi⟩
def upW (f : Nat → Value) (i : Nat) (v : Value) : Nat → Value := fun x => if x = 58 + i then v else f x
theorem upW_same (f : Nat → Value) (i : Nat) (v : Value) : upW f i v (58 + i) = v := if_pos rfl
theorem upW_ne (f : Nat → Value) {i j : Nat} (v : Value) (h : j ≠ i) : upW f i v (58 + j) = f (58 + j) := if_neg (by omega)

/-- behind the append -/
def AppW (W0 : World) (base : Nat) (sa : Option Addr) (len sc : Nat) (xs : List Value) (T1 : TypeId) (u1 : Value) (g cap : Nat) (w : World) : Prop :=
  w.ownsRow base 75 1 (.slice (some ⟨g, 0, none⟩) (len + 1) cap) (len + 1) (xs ++ [.iface T1 u1]) ∧ ∃ w', Below W0.heap.size W0 w' ∧ w'.grownBy w (Value.slice sa len sc).ownBlock ∧ ((Value.slice sa len sc).ownBlock = some g ∨ g = w'.heap.size)
structure WI (W0 : World) (base bx px F n : Nat) (sa : Option Addr) (len sc : Nat) (xs : List Value) (T1 : TypeId) (u1 : Value) (Fin : World → Prop) (d : Nat → Bool) (f : Nat → Value) (w : World) : Prop where
  vals : ∀ j, j < 11 → d j = true → f (58 + j) = wVal bx px F n sa len sc T1 u1 j
  cl : d 12 = true → d 8 = true ∧ d 11 = true
  cm : d 13 = true → ∀ j, j < 13 → d j = true
  box : d 13 = false → w.heap[bx]? = W0.heap[bx]? ∧ w.heap[px]? = W0.heap[px]?
  before : d 12 = false → Below W0.heap.size W0 w
  lit : d 11 = true → d 12 = false → ∃ p, f 69 = .slice (some ⟨p, 0, none⟩) 1 1 ∧ w.heap[p]? = some (.cells #[.iface T1 u1] 75 (0, 0))
  app : d 12 = true → d 13 = false → ∃ g cap, f 70 = .slice (some ⟨g, 0, none⟩) (len + 1) cap ∧ AppW W0 base sa len sc xs T1 u1 g cap w
  fin : d 13 = true → Fin w
section
variable {W0 : World} {base bx px F n : Nat} {sa : Option Addr} {len sc : Nat} {xs : List Value} {T1 : TypeId} {u1 : Value} {Fin : World → Prop} {d : Nat → Bool} {f : Nat → Value} {w : World}
/-- a reading operation -/
theorem WI.read (h : WI W0 base bx px F n sa len sc xs T1 u1 Fin d f w) {i : Nat} (hi : i < 11) (hd : d i = false) : WI W0 base bx px F n sa len sc xs T1 u1 Fin (fun j => d j || j == i) (upW f i (wVal bx px F n sa len sc T1 u1 i)) w := by
  have e : ∀ j, 11 ≤ j → (d j || j == i) = d j := fun j hj => by
    have : (j == i) = false := by simp; omega
    rw [this, Bool.or_false]
  refine ⟨fun j hj hdj => ?_, fun h12 => ?_, fun h13 => ?_, fun h13 => ?_, fun h12 => ?_, fun h11 h12 => ?_, fun h12 h13 => ?_, fun h13 => ?_⟩
  · by_cases hij : j = i
    · subst hij
      exact upW_same _ _ _
    · rw [upW_ne _ _ hij]
      have : (j == i) = false := by simpa using hij
      rw [this, Bool.or_false] at hdj
      exact h.vals j hj hdj
  · rw [e 12 (by omega)] at h12
    obtain ⟨h1, h2⟩ := h.cl h12
    exact ⟨by rw [h1]; rfl, by rw [h2]; rfl⟩
  · rw [e 13 (by omega)] at h13
    have := h.cm h13 i (by omega)
    rw [hd] at this
    cases this
  · rw [e 13 (by omega)] at h13; exact h.box h13
  · rw [e 12 (by omega)] at h12; exact h.before h12
  · rw [e 11 (by omega)] at h11; rw [e 12 (by omega)] at h12
    obtain ⟨p, h1, h2⟩ := h.lit h11 h12
    exact ⟨p, by rw [show 69 = 58 + 11 from rfl, upW_ne _ _ (by omega)]; exact h1, h2⟩
  · rw [e 12 (by omega)] at h12; rw [e 13 (by omega)] at h13
    obtain ⟨g, cap, h1, h2⟩ := h.app h12 h13
    exact ⟨g, cap, by rw [show 70 = 58 + 12 from rfl, upW_ne _ _ (by omega)]; exact h1, h2⟩
  · rw [e 13 (by omega)] at h13; exact h.fin h13
/-- the literal -/
theorem WI.made (h : WI W0 base bx px F n sa len sc xs T1 u1 Fin d f w) (hd : d 11 = false) (hb : bx < W0.heap.size) (hp : px < W0.heap.size) : WI W0 base bx px F n sa len sc xs T1 u1 Fin (fun j => d j || j == 11) (upW f 11 (.slice (some ⟨w.heap.size, 0, none⟩) 1 1)) (w.alloc (.cells #[.iface T1 u1] 75)) := by
  have h12 : d 12 = false := by
    cases hh : d 12 with
    | false => rfl
    | true => rw [(h.cl hh).2] at hd; cases hd
  have h13 : d 13 = false := by
    cases hh : d 13 with
    | false => rfl
    | true => rw [h.cm hh 11 (by omega)] at hd; cases hd
  have hB := h.before h12
  have hs := hB.size
  refine ⟨fun j hj hdj => ?_, fun q => ?_, fun q => ?_, fun _ => ?_, fun _ => hB.alloc hs _, fun _ _ => ⟨w.heap.size, upW_same f 11 _, heap_alloc_new _ _⟩, fun q => ?_, fun q => ?_⟩
  · have : (j == 11) = false := by simp; omega
    rw [this, Bool.or_false] at hdj
    rw [upW_ne _ _ (by omega)]
    exact h.vals j hj hdj
  · simp [h12] at q
  · simp [h13] at q
  · obtain ⟨h1, h2⟩ := h.box h13
    exact ⟨(Below.heap_alloc _ _ _ (by omega)).trans h1, (Below.heap_alloc _ _ _ (by omega)).trans h2⟩
  · simp [h12] at q
  · simp [h13] at q
/-- the append -/
theorem WI.appended (h : WI W0 base bx px F n sa len sc xs T1 u1 Fin d f w) (hd : d 12 = false) (h8 : d 8 = true) (h11 : d 11 = true) (hb : bx < W0.heap.size ∧ (Value.slice sa len sc).ownBlock ≠ some bx) (hp : px < W0.heap.size ∧ (Value.slice sa len sc).ownBlock ≠ some px) {g cap : Nat} {w9 : World}
    (ho : w9.ownsRow base 75 1 (.slice (some ⟨g, 0, none⟩) (len + 1) cap) (len + 1) (xs ++ [.iface T1 u1])) (hg : w.grownBy w9 (Value.slice sa len sc).ownBlock) (hat : (Value.slice sa len sc).ownBlock = some g ∨ g = w.heap.size) :
    WI W0 base bx px F n sa len sc xs T1 u1 Fin (fun j => d j || j == 12) (upW f 12 (.slice (some ⟨g, 0, none⟩) (len + 1) cap)) w9 := by
  have h13 : d 13 = false := by
    cases hh : d 13 with
    | false => rfl
    | true => rw [h.cm hh 12 (by omega)] at hd; cases hd
  have hB := h.before hd
  have hs := hB.size
  refine ⟨fun j hj hdj => ?_, fun _ => ⟨by rw [h8]; rfl, by rw [h11]; rfl⟩, fun q => ?_, fun _ => ?_, fun q => ?_, fun _ q => ?_, fun _ _ => ⟨g, cap, upW_same f 12 _, ho, w, hB, hg, hat⟩, fun q => ?_⟩
  · have : (j == 12) = false := by simp; omega
    rw [this, Bool.or_false] at hdj
    rw [upW_ne _ _ (by omega)]
    exact h.vals j hj hdj
  · simp [h13] at q
  · obtain ⟨h1, h2⟩ := h.box h13
    exact ⟨(hg.block bx (by omega) (fun e => hb.2 e.symm)).trans h1, (hg.block px (by omega) (fun e => hp.2 e.symm)).trans h2⟩
  · simp at q
  · simp at q
  · simp [h13] at q
/-- the map's update -/
theorem WI.done (h : WI W0 base bx px F n sa len sc xs T1 u1 Fin d f w) (ha : ∀ j, j < 13 → d j = true) {w' : World} (hF : Fin w') : WI W0 base bx px F n sa len sc xs T1 u1 Fin (fun j => d j || j == 13) f w' := by
  refine ⟨fun j hj hdj => ?_, fun _ => ⟨by rw [ha 8 (by omega)]; rfl, by rw [ha 11 (by omega)]; rfl⟩, fun _ j hj => by rw [ha j hj]; rfl, fun q => ?_, fun q => ?_, fun _ q => ?_, fun _ q => ?_, fun _ => hF⟩
  · exact h.vals j hj (ha j (by omega))
  · simp at q
  · simp [ha 12 (by omega)] at q
  · simp [ha 12 (by omega)] at q
  · simp at q
end
section
variable (ev : Operand → Value) (o : Oper) (w : World)
theorem qw_field (x : Operand) (T : TypeId) (k i : Nat) (hT : T = 167 ∨ T = 106) (h : o.op = .fieldAddr T x i) (hx : ev x = .pointer (some ⟨k, 0, none⟩)) (hi : i = 1 ∨ i = 2 ∧ T = 106) : (execOp ev o).run Tryz.prog w = .ok (.value (.pointer (some ⟨k, i, none⟩))) w := by
  rcases hT with rfl | rfl <;> rcases hi with rfl | ⟨rfl, hh⟩ <;> first | (simp [execOp, h, hx]; go_simp; done) | (exact absurd hh (by decide))
theorem qw_load (x : Operand) (T : TypeId) (a : Addr) (v : Value) (hT : T = 165 ∨ T = 2 ∨ T = 75) (h : o.op = .load T x) (hx : ev x = .pointer (some a)) (hv : w.cell? a = some v) : (execOp ev o).run Tryz.prog w = .ok (.value v) w := by
  rcases hT with rfl | rfl | rfl <;> (simp [execOp, h, hx]; go_simp)
theorem qw_look (x y : Operand) (F n : Nat) (v : Value) (h : o.op = .lookup 165 x y false) (hx : ev x = .map (some F)) (hy : ev y = .int .i64 (n : Int)) (hl : (Instr.lookup 165 (.map (some F)) (.int .i64 (n : Int)) false).run Tryz.prog w = .ok v w) : (execOp ev o).run Tryz.prog w = .ok (.value v) w := by
  simp [execOp, h, hx, hy, hl, Result.andThen]
theorem qw_made (x : Operand) (T1 : TypeId) (u1 : Value) (h : o.op = .buildSlice 121 1 #[(0, x)]) (hx : ev x = .iface T1 u1) : (execOp ev o).run Tryz.prog w = .ok (.value (.slice (some ⟨w.heap.size, 0, none⟩) 1 1)) (w.alloc (.cells #[.iface T1 u1] 75)) := by
  simp [execOp, h, hx]
  go_simp
  try rfl
theorem qw_upd (x y z : Operand) (F n : Nat) (v : Value) (w' : World) (h : o.op = .mapUpdate 165 x y z) (hx : ev x = .map (some F)) (hy : ev y = .int .i64 (n : Int)) (hz : ev z = v) (hl : (Instr.mapUpdate 165 (.map (some F)) (.int .i64 (n : Int)) v).run Tryz.prog w = .ok () w') : (execOp ev o).run Tryz.prog w = .ok .skip w' := by
  simp [execOp, h, hx, hy, hz, hl, Result.andThen]
theorem wpOp_runSk {P : Program} {ops : Array Oper} {Q : Exit → Act → World → Prop} {i : Nat} {o : Oper} {K : Act → World → Prop} {t : Act} {w w' : World} (ho : ops[i]? = some o) (hg : Region.wanted o (yielded ops t.tmps) = true) (hrun : (execOp t.eval o).run P w = .ok .skip w') (h : K (t.put o.dst undef) w') : wpOp P ops Q i K t w := by
  refine wpOp_step ho fun K' hK => ?_
  rw [if_pos hg]
  unfold Oper.wp
  rw [hrun]
  exact hK _ _ h
end
theorem all_done {l : List Oper} (hback : backB l = true) {d : Nat → Bool} (h : ∀ i o, l.toArray[i]? = some o → (∀ e ∈ o.after, Region.binds .any e = true → d e.on = true) → d i = true) : ∀ i, i < l.length → d i = true := by
  have key : ∀ m i, i < m → i < l.length → d i = true := by
    intro m
    induction m with
    | zero => intro i hi; exact absurd hi (Nat.not_lt_zero _)
    | succ m ih =>
      intro i hi hil
      have ho : l.toArray[i]? = some (l[i]) := by simp [hil]
      exact h i _ ho (fun e he hb => by
        have := backB_at hback ho e he hb
        exact ih e.on (by omega) (by omega))
  exact fun i hi => key (i + 1) i (by omega) hi
end Go.Proofs.YtcolcnkjcagbaaaGreatDoor

namespace Go.Proofs.YtcolcnkjcagbaaaGreatDoor
open Go.RowKit Go.Maps
set_option linter.unusedVariables false
section
variable {w0 : World} {B F : Nat} {U : List Tr}
/-- the append's answer, and the map's update behind it -/
theorem wait_update {W Wa w9 : World} {s : OpSt} {a : Tr} {n g cap : Nat} (hS : IsOp w0 W B F U s) (hu : Uni U) (ha : a ∈ U) (hn : n ≤ 999) (hBa : Below W.heap.size W Wa) (hl : (s.W n).length + 1 ≤ Maps.size s.E) (hmm : ∃ m, m + 1 ≤ Maps.size s.E ∧ W.ownsMap Tryz.prog 2 SR F m s.G)
    (hown : w9.ownsRow w0.heap.size 75 1 (.slice (some ⟨g, 0, none⟩) ((s.W n).length + 1) cap) ((s.W n).length + 1) ((s.W n).map Tr.val ++ [a.val])) (hg : Wa.grownBy w9 (s.sv n).ownBlock) (hat : (s.sv n).ownBlock = some g ∨ g = Wa.heap.size) :
    ∃ w10, (Instr.mapUpdate 165 (.map (some F)) (.int .i64 (n : Int)) (.slice (some ⟨g, 0, none⟩) ((s.W n).length + 1) cap)).run Tryz.prog w9 = .ok () w10 ∧
      IsOp w0 w10 B F U ⟨s.E, s.G.put (kI n) (.held (.slice (some ⟨g, 0, none⟩) ((s.W n).length + 1) cap)), s.S, waitT s.W n a, withV s.sv n (.slice (some ⟨g, 0, none⟩) ((s.W n).length + 1) cap)⟩ ∧ Kpt B F W w10 s.sv (withV s.sv n (.slice (some ⟨g, 0, none⟩) ((s.W n).length + 1) cap)) := by
  have hSa : IsOp w0 Wa B F U s := hS.below hBa
  obtain ⟨m, hm, hM0⟩ := hmm
  have hM : Wa.ownsMap Tryz.prog 2 SR F m s.G := map_kept hM0 (hBa.block _ (World.ownsMap.lt hM0))
  have hza : W.heap.size ≤ Wa.heap.size := hBa.size
  have hFb : (s.sv n).ownBlock ≠ some F := row_map (hSa.1.own n hn) hM
  have hM9 : w9.ownsMap Tryz.prog 2 SR F m s.G := map_kept hM (hg.block F hSa.1.lts.2 (fun e => hFb e.symm))
  have hz : Maps.size s.E ≤ 4000 := Nat.le_trans hS.1.size hu.len
  obtain ⟨w10, hrun, hM10, hg10⟩ := hM9.update lawI Tryz.underlying165 (by unfold maxLen; omega) (keyI hn) (show SR (.slice (some ⟨g, 0, none⟩) ((s.W n).length + 1) cap) = some (.held (.slice (some ⟨g, 0, none⟩) ((s.W n).length + 1) cap), []) from rfl)
  have hlt : ∀ k b, k ≤ 999 → (s.sv k).ownBlock = some b → b < W.heap.size := fun k b hk hb => ((hS.1.own k hk).lt b hb).2
  refine ⟨w10, hrun, ⟨OpW.wait hSa.1 (m := m + 1) ha hn hl hm hown hg hM10 hg10 (fun b hb => ?_) hM9, ?_⟩, ⟨?_, fun b hb h1 h2 h3 => ?_, fun k b hk hb => ?_⟩⟩
  · simp only [Value.ownBlock, Option.some.injEq] at hb
    subst hb
    rcases hat with h1 | h1
    · exact .inl h1
    · exact .inr (by omega)
  · refine (hSa.2.grown hg hSa.2.size (fun x hx => ((hSa.1.own n hn).lt x hx).1)).grown hg10 (by have := hSa.2.size; have := hg.size; omega) (fun x hx => by cases hx; exact hS.1.bs.2.1)
  · have := hg.size; have := hg10.size; omega
  · have hz9 := hg.size
    rw [hg10.block b (by omega) (by simpa using h2), hg.block b (by omega) (fun e => h3 n hn e.symm), hBa.block b hb]
  · unfold withV at hb
    by_cases e : k = n
    · rw [if_pos e] at hb
      simp only [Value.ownBlock, Option.some.injEq] at hb
      subst hb
      rcases hat with h1 | h1
      · exact .inl ⟨n, hn, h1⟩
      · exact .inr (by omega)
    · rw [if_neg e] at hb
      exact .inl ⟨k, hk, hb⟩
end
end Go.Proofs.YtcolcnkjcagbaaaGreatDoor

namespace Go.Proofs.YtcolcnkjcagbaaaGreatDoor
open Go.RowKit Go.Maps
set_option linter.unusedVariables false
section
variable {w0 : World} {B F : Nat} {U : List Tr}

set_option maxRecDepth 8000 in
set_option maxHeartbeats 8000000 in
theorem take_wait {f : Nat} (hu : Uni U) (hP : Pow w0) (k n : Nat) (a : Tr) (ih : ∀ f', f' < f → TakeC w0 B F U f') (w : World) (s : OpSt) (ht : (⟨.inr (.inr (.inr (k, n, a)))⟩ : Tr) ∈ U) (hS : IsOp w0 w B F U s) (hf : U.length ≤ Maps.size s.E + f) (hk : k = 6) (hkt : ¬ s.S (keyT n)) :
    Calls Tryz.prog 103 #[.agg #[.map (some B), .map (some F)], (⟨.inr (.inr (.inr (k, n, a)))⟩ : Tr).val] w fun e w' => e = .returned (.tuple #[]) ∧ ∃ s', IsOp w0 w' B F U s' ∧ Goes B F w w' s [(⟨.inr (.inr (.inr (k, n, a)))⟩ : Tr)] s' := by
  have hfit := hu.fit _ ht
  obtain ⟨T1, u1, hv1⟩ := val_iface a
  have HKD : Hid (a ∈ U) := hu.kid _ ht a (by simp [Tr.kids])
  have HFN : Hid (n ≤ 999) := hfit.1.2.1
  have HKK : Hid (k = 6) := hk
  obtain ⟨t, htt⟩ : ∃ t : Tr, t = (⟨.inr (.inr (.inr (k, n, a)))⟩ : Tr) := ⟨_, rfl⟩
  have hti : t.inn = .agg #[.int .i64 k, .int .i64 n, .iface T1 u1] := by rw [htt, Tr.inn, hv1]
  have htY : t.ty = 106 := by rw [htt, Tr.ty]
  have HX0 : TextC t := by rw [htt]; exact ttext_any _ hfit.1 hfit.2.1
  obtain ⟨T, hT⟩ : ∃ T, T = t.txt := ⟨_, rfl⟩
  obtain ⟨v, hv⟩ : ∃ v, v = t.inn := ⟨_, rfl⟩
  obtain ⟨ty, hty⟩ : ∃ ty, ty = t.ty := ⟨_, rfl⟩
  obtain ⟨fn, hfn⟩ : ∃ fn, fn = t.tf := ⟨_, rfl⟩
  have hm : ∀ w, (method 348 ty v "loop.example/g00318/impl.text").run Tryz.prog w = .ok (fn, v) w := fun w => by rw [hv, hty, hfn]; exact mText t w
  have hen : ∀ args w, (callFunc fn args).run Tryz.prog w = .ok (.enter fn args) w := by rw [hfn]; exact enText t
  have HX : Hid (∀ w', Below w0.heap.size w0 w' → Calls Tryz.prog fn #[v] w' fun e w'' => e = .returned (.string T) ∧ Below w'.heap.size w' w'') := fun w' hB => by
    have h1 := HX0 w' (hP.below hB)
    rw [← hT, ← hfn, ← hv] at h1
    exact h1
  have HTV : Hid (ty = 106 ∧ v = .agg #[.int .i64 k, .int .i64 n, .iface T1 u1]) := ⟨hty.trans htY, hv.trans hti⟩
  rw [← htt] at ht hfit ⊢
  rw [t.val_is, ← hv, ← hty]
  have hTs : T.size ≤ 9223372036854775807 := by have h1 := Tr.txt_size _ hfit.1; have h2 := hfit.2.1; rw [hT]; omega
  have HTT : Hid (t = (⟨.inr (.inr (.inr (k, n, a)))⟩ : Tr)) := htt
  have HTX : Hid (T = t.txt) := hT
  have HP : Hid (Pow w0) := hP
  have HU : Hid (Uni U) := hu
  have HT : Hid (t ∈ U) := ht
  obtain ⟨w1, hw1⟩ : ∃ w1, w1 = w.alloc (.cells #[.map (some B), .map (some F)] 167) := ⟨_, rfl⟩
  have HW1 : Hid (w1 = w.alloc (.cells #[.map (some B), .map (some F)] 167)) := hw1
  have hB1 : Below w.heap.size w w1 := by rw [hw1]; exact (Below.refl _ _).alloc (Nat.le_refl _) _
  have HB1 : Hid (Below w.heap.size w w1) := hB1
  have HS1 : Hid (IsOp w0 w1 B F U s) := hS.below hB1
  have HZ1 : Hid (w1.heap.size = w.heap.size + 1) := by show _ = _; rw [hw1]; simp
  have HG : Hid (w1.heap[w.heap.size]? = some (.cells #[.map (some B), .map (some F)] 167 (0, 0))) := by show _ = _; rw [hw1]; exact heap_alloc_new _ _
  have HNE : Hid (w.heap.size ≠ B ∧ w.heap.size ≠ F ∧ ∀ k, k ≤ 999 → (s.sv k).ownBlock ≠ some w.heap.size) := hS.new (Nat.le_refl _)
  have c0 : w1.cell? ⟨w.heap.size, 0, none⟩ = some (.map (some B)) := cellN HG.out
  have HIH : Hid (∀ f', f' < f → TakeC w0 B F U f') := ih
  have HF : Hid (U.length ≤ Maps.size s.E + f) := hf
  have hst := hS.1.has hu hfit
  rw [← hT] at hst
  clear ih hf hS hB1 hw1 htt HX0 hu ht hP hT hfit hti htY hv hty hfn
  have A1 := asK
  have A2 := noL_K
  have A3 := noP_K
  have HV : Hid (a.val = .iface T1 u1) := hv1
  clear hv1
  have hk7 : ((k : Int) == 7) = false := by simp; omega
  have HKT0 : Hid (¬ s.S (keyT n)) := hkt
  clear hkt
  clear hk
  cases hh : has s.E (.string T.toList) with
  | true =>
    have HO : Hid (s.S t) := hst.1 hh
    clear hst
    go_enter Tryz.func103, Tryz.ntmps103
    go_wp2
    rw [← HW1.out]
    go_wp2_with fail
    refine (HX.out w1 HS1.out.2).mono ?_
    rintro e w2 ⟨rfl, hB2⟩
    have HB2 : Hid (Below w1.heap.size w1 w2) := hB2
    have HS2 : Hid (IsOp w0 w2 B F U s) := HS1.out.below hB2
    have d0 : w2.cell? ⟨w.heap.size, 0, none⟩ = some (.map (some B)) := (hB2.cell (p := ⟨w.heap.size, 0, none⟩) (cell_lt c0)).trans c0
    clear hB2 c0
    go_wp2_with fail
    refine (has71_any B _ s.E T w2 HS2.out.1.set hTs).mono ?_
    rintro e w3 ⟨rfl, hB3⟩
    rw [hh]
    have HB3 : Hid (Below w2.heap.size w2 w3) := hB3
    have HS3 : Hid (IsOp w0 w3 B F U s) := HS2.out.below hB3
    clear hB3 d0
    go_wp2
    (first | go_end0 | ((try simp only [Exit.inBlock, Exit.then]); refine bodyPost_ret (results_none rfl _ _ _) rfl ?_))
    have hW := HB1.out.trans ((HB2.out.trans (HB3.out.mono HB2.out.size)).mono HB1.out.size)
    exact ⟨rfl, s, HS3.out, TakeL.old HO.out, fun _ _ _ => rfl, Nat.le_refl _, Kpt.below _ hW⟩
  | false =>
    have HO : Hid (¬ s.S t) := fun h => by rw [hst.2 h] at hh; cases hh
    clear hst
    have hkey : keyOf Tryz.prog 9 (.string T) = some (keyL T) := keyS hTs
    go_enter Tryz.func103, Tryz.ntmps103
    go_wp2
    rw [← HW1.out]
    go_wp2_with fail
    refine (HX.out w1 HS1.out.2).mono ?_
    rintro e w2 ⟨rfl, hB2⟩
    have HB2 : Hid (Below w1.heap.size w1 w2) := hB2
    have HS2 : Hid (IsOp w0 w2 B F U s) := HS1.out.below hB2
    have d0 : w2.cell? ⟨w.heap.size, 0, none⟩ = some (.map (some B)) := (hB2.cell (p := ⟨w.heap.size, 0, none⟩) (cell_lt c0)).trans c0
    clear hB2 c0
    go_wp2_with fail
    refine (has71_any B _ s.E T w2 HS2.out.1.set hTs).mono ?_
    rintro e w3 ⟨rfl, hB3⟩
    rw [hh]
    have HS3 : Hid (IsOp w0 w3 B F U s) := HS2.out.below hB3
    have HB13 : Hid (Below w1.heap.size w1 w3) := HB2.out.trans (hB3.mono HB2.out.size)
    have e0 : w3.cell? ⟨w.heap.size, 0, none⟩ = some (.map (some B)) := (hB3.cell (p := ⟨w.heap.size, 0, none⟩) (cell_lt d0)).trans d0
    have HSZ : Hid (Maps.size s.E ≤ 4000) := by show _ ≤ _; exact Nat.le_trans HS3.out.1.size HU.out.len
    have HOW : Hid (w3.ownsMap Tryz.prog 9 unitElem B (Maps.size s.E) s.E) := HS3.out.1.set
    clear hB3 d0 hh
    obtain ⟨e1, e2⟩ := HTV.out
    subst e1 e2
    have hmx : Maps.size s.E < maxLen := by have := HSZ.out; unfold maxLen; omega
    go_wp2_with (at_mapUpdate; go_loud (refine wpList_mapUpdate_own _ rfl _ _ _ 131 rfl 9 196 lawS Tryz.underlying131 unitElem B (Maps.size s.E) s.E rfl HOW.out hmx _ _ _ rfl rfl hkey (.agg []) [] unitElem_mk ?_); intro w4 hown4 hgrow4; have HX4 : Hid (PutC w0 w w4 B F U s t) := put_after HS3.out HB1.out HB13.out HZ1.out HU.out HT.out HO.out HTX.out HNE.out HG.out hown4 hgrow4; have f0 : w4.cell? ⟨w.heap.size, 0, none⟩ = some (.map (some B)) := cellN HX4.out.2.2.2.2.1; have f1 : w4.cell? ⟨w.heap.size, 1, none⟩ = some (.map (some F)) := cellN HX4.out.2.2.2.2.1; clear hown4 hgrow4 e0; obtain ⟨w5, hw5⟩ : ∃ w5, w5 = w4.alloc (.cells #[.int .i64 k, .int .i64 n, .iface T1 u1] 106) := ⟨_, rfl⟩; have HW5 : Hid (w5 = w4.alloc (.cells #[.int .i64 k, .int .i64 n, .iface T1 u1] 106)) := hw5; have hB45 : Below w4.heap.size w4 w5 := (by rw [hw5]; exact (Below.refl _ _).alloc (Nat.le_refl _) _); have HB45 : Hid (Below w4.heap.size w4 w5) := hB45; have HG5 : Hid (w5.heap[w4.heap.size]? = some (.cells #[.int .i64 k, .int .i64 n, .iface T1 u1] 106 (0, 0))) := (by show _ = _; rw [hw5]; exact heap_alloc_new _ _); have g0 := (hB45.cell (p := ⟨w.heap.size, 0, none⟩) (cell_lt f0)).trans f0; have g1 := (hB45.cell (p := ⟨w.heap.size, 1, none⟩) (cell_lt f0)).trans f1; rw [hw5] at g0 g1; clear hw5 hB45)
    rw [← HW5.out]
    have HBO : Hid (w5.heap[w.heap.size]? = some (.cells #[.map (some B), .map (some F)] 167 (0, 0))) := (HB45.out.block _ HX4.out.2.2.2.1).trans HX4.out.2.2.2.2.1
    have HS5 : Hid (IsOp w0 w5 B F U ⟨putE s.E t.txt, s.G, withT s.S t, s.W, s.sv⟩) := HX4.out.1.below HB45.out
    clear f0 f1 g0 g1
    have p0 : ∀ s : Later w5, s.val.cell? ⟨w.heap.size, 0, none⟩ = some (.map (some B)) := fun s => s.cell (cellN HBO.out)
    have q0 : ∀ s : Later w5, s.val.cell? ⟨w4.heap.size, 0, none⟩ = some (.int .i64 k) := fun s => s.cell (cellN HG5.out)
    have q1 : ∀ s : Later w5, s.val.cell? ⟨w4.heap.size, 1, none⟩ = some (.int .i64 n) := fun s => s.cell (cellN HG5.out)
    have hne := Later.any w5
    have HNT : Hid (has (putE s.E t.txt) (.string (keyT0 n).toList) = false) := by
      show _ = _
      cases hh2 : has (putE s.E t.txt) (.string (keyT0 n).toList) with
      | false => rfl
      | true =>
        rcases (key_there HX4.out HU.out HFN.out).1 hh2 with h | h
        · exact absurd h HKT0.out
        · rw [HTT.out] at h; unfold keyT at h; simp at h
    have HKT : Hid (∀ s : Later w5, Calls Tryz.prog 102 #[.int .i64 n] s.val fun e w' => e = .returned (.string (keyT0 n)) ∧ Below s.val.heap.size s.val w') := fun v => keyText_any n HFN.out v.val (HP.out.below (HS5.out.2.trans (v.ok.mono HS5.out.2.size)))
    have HHS : Hid (∀ v : Later w5, Calls Tryz.prog 101 #[.map (some B), .string (keyT0 n)] v.val fun e w' => e = .returned (.bool false) ∧ Below v.val.heap.size v.val w') := fun v => by
      have h1 := has71_any B _ (putE s.E t.txt) (keyT0 n) v.val (HS5.out.1.set.below v.ok) (keyT0_small n HFN.out)
      rw [HNT.out] at h1
      exact h1
    refine wp_region_later (by kernel_rfl) (by kernel_rfl) ?_
    repeat (go_big_quiet_step ((first | (rename_i v; with_reducible exact Calls.later (HKT.out v)) | (rename_i v; with_reducible exact Calls.later (HHS.out v)))))
    refine wpQuiet_nil ?_
    rintro w6 ⟨⟨v6, hB6⟩, e6⟩
    obtain rfl : w6 = v6 := e6
    have HB6 : Hid (Below w5.heap.size w5 w6) := hB6
    obtain ⟨W, hW⟩ : ∃ W, W = w6.drew := ⟨_, rfl⟩
    have hBW : Below w6.heap.size w6 W := by rw [hW]; exact (Below.refl _ _).drew
    have hB5W : Below w5.heap.size w5 W := hB6.trans (hBW.mono hB6.size)
    have hB4W : Below w4.heap.size w4 W := HB45.out.trans (hB5W.mono HB45.out.size)
    have HB4W : Hid (Below w4.heap.size w4 W) := hB4W
    have HSW : Hid (IsOp w0 W B F U ⟨putE s.E t.txt, s.G, withT s.S t, s.W, s.sv⟩) := HS5.out.below hB5W
    have HBXW : Hid (W.heap[w.heap.size]? = some (.cells #[.map (some B), .map (some F)] 167 (0, 0))) := (hB5W.block _ (lt_of_block HBO.out)).trans HBO.out
    have HPXW : Hid (W.heap[w4.heap.size]? = some (.cells #[.int .i64 k, .int .i64 n, .iface T1 u1] 106 (0, 0))) := (hB5W.block _ (lt_of_block HG5.out)).trans HG5.out
    obtain ⟨sa, sc, hsv, hlc, hcm, _⟩ := wait_form HSW.out HFN.out
    obtain ⟨len, hlen⟩ : ∃ len, len = (s.W n).length := ⟨_, rfl⟩
    rw [← hlen] at hsv hlc
    have hsv : s.sv n = .slice sa len sc := hsv
    have HLT : Hid (w.heap.size < W.heap.size ∧ w4.heap.size < W.heap.size) := ⟨lt_of_block HBXW.out, lt_of_block HPXW.out⟩
    have HOB : Hid ((Value.slice sa len sc).ownBlock ≠ some w.heap.size ∧ (Value.slice sa len sc).ownBlock ≠ some w4.heap.size) := by
      rw [← hsv]
      exact ⟨HNE.out.2.2 n HFN.out, (HX4.out.1.new (Nat.le_refl _)).2.2 n HFN.out⟩
    have HLK : Hid (∀ v, Below W.heap.size W v → (Instr.lookup 165 (.map (some F)) (.int .i64 (n : Int)) false).run Tryz.prog v = .ok (.slice sa len sc) v) := fun v hB => by rw [← hsv]; exact look_wait (HSW.out.below hB) HFN.out
    have HOW : Hid (∀ v, Below W.heap.size W v → v.ownsRow w0.heap.size 75 1 (.slice sa len sc) len ((s.W n).map Tr.val)) := fun v hB => by rw [← hsv, hlen]; exact (HSW.out.below hB).1.own n HFN.out
    have hl1 : (s.W n).length + 1 ≤ Maps.size (putE s.E t.txt) := by have h1 := HX4.out.2.2.2.2.2.2 n HFN.out; have h2 := HX4.out.2.2.1; omega
    have hm1 : ∃ m, m + 1 ≤ Maps.size (putE s.E t.txt) ∧ W.ownsMap Tryz.prog 2 SR F m s.G := by
      obtain ⟨m, hm, hM⟩ := HX4.out.2.2.2.2.2.1
      have h2 := HX4.out.2.2.1
      exact ⟨m, by omega, map_kept hM (hB4W.block _ (World.ownsMap.lt hM))⟩
    have HKW : Hid (Kpt B F w W s.sv s.sv) := HX4.out.2.1.trans (Kpt.below _ hB4W)
    have HUP : Hid (∀ g cap v, AppW W w0.heap.size sa len sc ((s.W n).map Tr.val) T1 u1 g cap v → ∃ w10, (Instr.mapUpdate 165 (.map (some F)) (.int .i64 (n : Int)) (.slice (some ⟨g, 0, none⟩) (len + 1) cap)).run Tryz.prog v = .ok () w10 ∧ ∃ s', IsOp w0 w10 B F U s' ∧ Goes B F w w10 s [t] s') := by
      rintro g cap v ⟨ho, Wa, hBa, hg, hat⟩
      rw [← hsv] at hg hat
      rw [hlen] at ho ⊢
      obtain ⟨w10, r1, r2, r3⟩ := wait_update HSW.out HU.out HKD.out HFN.out hBa hl1 hm1 (by rw [HV.out]; exact ho) hg hat
      refine ⟨w10, r1, _, r2, ?_, fun j hj hs => ?_, HX4.out.big, HKW.out.trans r3⟩
      · rw [HTT.out, HKK.out]; exact TakeL.sealWait HKT0.out
      · show withV s.sv n _ j = s.sv j
        unfold withV
        rw [if_neg (fun e => HKT0.out (by rw [← e]; exact hs))]
    obtain ⟨i0, hi, hz0, hz1, hz2⟩ := info_parts infoTerm
    have hl4 : len + 1 ≤ 4001 := by have h1 := HX4.out.2.2.2.2.2.2 n HFN.out; have h2 := HX4.out.2.2.1; have h3 := HX4.out.1.1.size; have h4 := HU.out.len; have h5 : Maps.size (putE s.E t.txt) ≤ U.length := h3; omega
    have hmx : len + 1 ≤ maxLen := by unfold maxLen; omega
    have hbt : (len + 1) * 16 ≤ 140737488355328 := by omega
    have hso : ∀ x ∈ [Value.iface T1 u1], x.oneCell' = true := by simp [Value.oneCell']
    have HWE : Hid (W = w6.drew) := hW
    clear hsv hlen hW hBW hB5W hB4W hB6 p0 q0 q1 hne hl1 hm1
    go_wp2
    refine wp_letter ?_
    intro fr hfr
    have hsz : 70 < fr.tmps.size := by rw [hfr]; exact Nat.le_of_ble_eq_true rfl
    have t2 : fr.eval (.tmp 2) = .pointer (some ⟨w.heap.size, 0, none⟩) := by rw [hfr]; rfl
    have t7 : fr.eval (.tmp 7) = .pointer (some ⟨w4.heap.size, 0, none⟩) := by rw [hfr]; rfl
    have tdf : fr.defers = [] := by rw [hfr]
    have HFR := (show Hid _ from hfr)
    clear hfr
    refine wp_region_inv (I := fun d ta w' => ∃ f, ta = canon fr dsW f ∧ WI W w0.heap.size w.heap.size w4.heap.size F n sa len sc ((s.W n).map Tr.val) T1 u1 (fun v => ∃ s', IsOp w0 v B F U s' ∧ Goes B F w v s [t] s') d f w') (by kernel_rfl) ?_ ?_ ?_
    · rw [← HWE.out]
      refine ⟨fun x => fr.eval (.tmp x), (canon_self fr dsW).symm, (fun j _ h => by cases h), (fun h => by cases h), (fun h => by cases h), (fun _ => ⟨rfl, rfl⟩), (fun _ => Below.refl _ _), (fun h => by cases h), (fun h => by cases h), (fun h => by cases h)⟩
    · rintro d tt wy ⟨f, rfl, hI⟩ i o ho hl hd
      have ho2 := ho
      have hi14 : i < 14 := by
        rcases Nat.lt_or_ge i 14 with h | h
        · exact h
        · rw [Array.getElem?_eq_none (by simpa using h)] at ho; cases ho
      have h13 : d 13 = false := by
        cases hh : d 13 with
        | false => rfl
        | true =>
          by_cases e : i = 13
          · subst e; rw [hh] at hl; cases hl
          · rw [hI.cm hh i (by omega)] at hl; cases hl
      obtain ⟨hbx, hpx⟩ := hI.box h13
      have hi' : i = 0 ∨ i = 1 ∨ i = 2 ∨ i = 3 ∨ i = 4 ∨ i = 5 ∨ i = 6 ∨ i = 7 ∨ i = 8 ∨ i = 9 ∨ i = 10 ∨ i = 11 ∨ i = 12 ∨ i = 13 := by omega
      rcases hi' with rfl | rfl | rfl | rfl | rfl | rfl | rfl | rfl | rfl | rfl | rfl | rfl | rfl | rfl <;> simp only [List.getElem?_toArray, List.getElem?_cons_succ, List.getElem?_cons_zero, Option.some.injEq] at ho <;> subst ho
      · have hx := hI.read (i := 0) (by omega) hl
        refine wpOp_runG ho2 (wanted_none rfl) (qw_field (canon fr dsW f).eval _ wy _ _ _ 1 (.inl rfl) rfl ((canon_eval_ne fr dsW f 2 (by decide)).trans t2) (.inl rfl)) ?_
        rw [canon_put _ _ _ _ _ (dsW_mem (i := 0) (by omega))]
        exact ⟨_, rfl, hx⟩
      · have hx := hI.read (i := 1) (by omega) hl
        refine wpOp_runG ho2 (wanted_none rfl) (qw_load (canon fr dsW f).eval _ wy _ _ _ _ (.inl rfl) rfl ((canon_eval fr dsW f 58 (by decide) (Nat.lt_of_le_of_lt (by decide) hsz)).trans (hI.vals 0 (by omega) (hd ⟨0, .data⟩ (by simp) rfl))) (cellN (hbx.trans HBXW.out))) ?_
        rw [canon_put _ _ _ _ _ (dsW_mem (i := 1) (by omega))]
        exact ⟨_, rfl, hx⟩
      · have hx := hI.read (i := 2) (by omega) hl
        refine wpOp_runG ho2 (wanted_none rfl) (qw_field (canon fr dsW f).eval _ wy _ _ _ 1 (.inr rfl) rfl ((canon_eval_ne fr dsW f 7 (by decide)).trans t7) (.inl rfl)) ?_
        rw [canon_put _ _ _ _ _ (dsW_mem (i := 2) (by omega))]
        exact ⟨_, rfl, hx⟩
      · have hx := hI.read (i := 3) (by omega) hl
        refine wpOp_runG ho2 (wanted_none rfl) (qw_load (canon fr dsW f).eval _ wy _ _ _ _ (.inr (.inl rfl)) rfl ((canon_eval fr dsW f 60 (by decide) (Nat.lt_of_le_of_lt (by decide) hsz)).trans (hI.vals 2 (by omega) (hd ⟨2, .data⟩ (by simp) rfl))) (cellN (hpx.trans HPXW.out))) ?_
        rw [canon_put _ _ _ _ _ (dsW_mem (i := 3) (by omega))]
        exact ⟨_, rfl, hx⟩
      · have hx := hI.read (i := 4) (by omega) hl
        refine wpOp_runG ho2 (wanted_none rfl) (qw_field (canon fr dsW f).eval _ wy _ _ _ 1 (.inl rfl) rfl ((canon_eval_ne fr dsW f 2 (by decide)).trans t2) (.inl rfl)) ?_
        rw [canon_put _ _ _ _ _ (dsW_mem (i := 4) (by omega))]
        exact ⟨_, rfl, hx⟩
      · have hx := hI.read (i := 5) (by omega) hl
        refine wpOp_runG ho2 (wanted_none rfl) (qw_load (canon fr dsW f).eval _ wy _ _ _ _ (.inl rfl) rfl ((canon_eval fr dsW f 62 (by decide) (Nat.lt_of_le_of_lt (by decide) hsz)).trans (hI.vals 4 (by omega) (hd ⟨4, .data⟩ (by simp) rfl))) (cellN (hbx.trans HBXW.out))) ?_
        rw [canon_put _ _ _ _ _ (dsW_mem (i := 5) (by omega))]
        exact ⟨_, rfl, hx⟩
      · have hx := hI.read (i := 6) (by omega) hl
        refine wpOp_runG ho2 (wanted_none rfl) (qw_field (canon fr dsW f).eval _ wy _ _ _ 1 (.inr rfl) rfl ((canon_eval_ne fr dsW f 7 (by decide)).trans t7) (.inl rfl)) ?_
        rw [canon_put _ _ _ _ _ (dsW_mem (i := 6) (by omega))]
        exact ⟨_, rfl, hx⟩
      · have hx := hI.read (i := 7) (by omega) hl
        refine wpOp_runG ho2 (wanted_none rfl) (qw_load (canon fr dsW f).eval _ wy _ _ _ _ (.inr (.inl rfl)) rfl ((canon_eval fr dsW f 64 (by decide) (Nat.lt_of_le_of_lt (by decide) hsz)).trans (hI.vals 6 (by omega) (hd ⟨6, .data⟩ (by simp) rfl))) (cellN (hpx.trans HPXW.out))) ?_
        rw [canon_put _ _ _ _ _ (dsW_mem (i := 7) (by omega))]
        exact ⟨_, rfl, hx⟩
      · have h12 : d 12 = false := by cases hh : d 12 with | false => rfl | true => rw [(hI.cl hh).1] at hl; cases hl
        have hx := hI.read (i := 8) (by omega) hl
        refine wpOp_runG ho2 (wanted_none rfl) (qw_look (canon fr dsW f).eval _ wy _ _ F n _ rfl ((canon_eval fr dsW f 63 (by decide) (Nat.lt_of_le_of_lt (by decide) hsz)).trans (hI.vals 5 (by omega) (hd ⟨5, .data⟩ (by simp) rfl))) ((canon_eval fr dsW f 65 (by decide) (Nat.lt_of_le_of_lt (by decide) hsz)).trans (hI.vals 7 (by omega) (hd ⟨7, .data⟩ (by simp) rfl))) (HLK.out wy (hI.before h12))) ?_
        rw [canon_put _ _ _ _ _ (dsW_mem (i := 8) (by omega))]
        exact ⟨_, rfl, hx⟩
      · have hx := hI.read (i := 9) (by omega) hl
        refine wpOp_runG ho2 (wanted_none rfl) (qw_field (canon fr dsW f).eval _ wy _ _ _ 2 (.inr rfl) rfl ((canon_eval_ne fr dsW f 7 (by decide)).trans t7) (.inr ⟨rfl, rfl⟩)) ?_
        rw [canon_put _ _ _ _ _ (dsW_mem (i := 9) (by omega))]
        exact ⟨_, rfl, hx⟩
      · have hx := hI.read (i := 10) (by omega) hl
        refine wpOp_runG ho2 (wanted_none rfl) (qw_load (canon fr dsW f).eval _ wy _ _ _ _ (.inr (.inr rfl)) rfl ((canon_eval fr dsW f 67 (by decide) (Nat.lt_of_le_of_lt (by decide) hsz)).trans (hI.vals 9 (by omega) (hd ⟨9, .data⟩ (by simp) rfl))) (cellN (hpx.trans HPXW.out))) ?_
        rw [canon_put _ _ _ _ _ (dsW_mem (i := 10) (by omega))]
        exact ⟨_, rfl, hx⟩
      · have hx := hI.made hl HLT.out.1 HLT.out.2
        refine wpOp_runG ho2 (wanted_none rfl) (qw_made (canon fr dsW f).eval _ wy _ T1 u1 rfl ((canon_eval fr dsW f 68 (by decide) (Nat.lt_of_le_of_lt (by decide) hsz)).trans (hI.vals 10 (by omega) (hd ⟨10, .data⟩ (by simp) rfl)))) ?_
        rw [canon_put _ _ _ _ _ (dsW_mem (i := 11) (by omega))]
        exact ⟨_, rfl, hx⟩
      · have h8 := hd ⟨8, .data⟩ (by simp) rfl
        have h11 := hd ⟨11, .data⟩ (by simp) rfl
        obtain ⟨p, hp1, hp2⟩ := hI.lit h11 hl
        have e66 := (canon_eval fr dsW f 66 (by decide) (Nat.lt_of_le_of_lt (by decide) hsz)).trans (hI.vals 8 (by omega) h8)
        have e69 := (canon_eval fr dsW f 69 (by decide) (Nat.lt_of_le_of_lt (by decide) hsz)).trans hp1
        obtain ⟨g, cap, w9, hr, ho9, hg9, hat9, _⟩ := run_append_lies (P := Tryz.prog) wy 121 121 w0.heap.size 75 i0 .nilIface 1 16 Tryz.underlying121 hi hz0 hz1 hz2 rfl (by decide) (.slice sa len sc) len ((s.W n).map Tr.val) (HOW.out wy (hI.before hl)) ⟨p, 0, none⟩ 1 1 [.iface T1 u1] rfl (World.news_of_block hp2) hso (by decide) hmx hbt (by have h1 := (hI.before hl).size; have h2 := HSW.out.2.size; omega) _ rfl
        have hx := hI.appended hl h8 h11 ⟨HLT.out.1, HOB.out.1⟩ ⟨HLT.out.2, HOB.out.2⟩ ho9 hg9 hat9
        refine wpOp_runG (v := .slice (some ⟨g, 0, none⟩) (len + 1) cap) (w' := w9) ho2 (wanted_none rfl) (by simp only [execOp, resolve, invoke, builtin, Sem.run_bind, Sem.run_pure, Result.andThen_ok, List.map_toArray, List.map_cons, List.map_nil, e66, e69]; unfold wVal; simp only [hr, Result.andThen_ok]) ?_
        rw [canon_put _ _ _ _ _ (dsW_mem (i := 12) (by omega))]
        exact ⟨_, rfl, hx⟩
      · have ha : ∀ j, j < 13 → d j = true := by
          intro j hj
          have hj2 : j = 0 ∨ j = 1 ∨ j = 2 ∨ j = 3 ∨ j = 4 ∨ j = 5 ∨ j = 6 ∨ j = 7 ∨ j = 8 ∨ j = 9 ∨ j = 10 ∨ j = 11 ∨ j = 12 := by omega
          rcases hj2 with rfl | rfl | rfl | rfl | rfl | rfl | rfl | rfl | rfl | rfl | rfl | rfl | rfl <;> exact hd ⟨_, .phase⟩ (by simp) rfl
        obtain ⟨g, cap, hg1, hg2⟩ := hI.app (ha 12 (by omega)) hl
        obtain ⟨w10, hrun, hfin⟩ := HUP.out g cap wy hg2
        have hx := hI.done ha hfin
        refine wpOp_runSk ho2 (wanted_none rfl) (qw_upd (canon fr dsW f).eval _ wy _ _ _ F n _ w10 rfl ((canon_eval fr dsW f 59 (by decide) (Nat.lt_of_le_of_lt (by decide) hsz)).trans (hI.vals 1 (by omega) (ha 1 (by omega)))) ((canon_eval fr dsW f 61 (by decide) (Nat.lt_of_le_of_lt (by decide) hsz)).trans (hI.vals 3 (by omega) (ha 3 (by omega)))) ((canon_eval fr dsW f 70 (by decide) (Nat.lt_of_le_of_lt (by decide) hsz)).trans hg1) hrun) ?_
        exact ⟨f, rfl, hx⟩
    · rintro d tt wy ⟨f, rfl, hI⟩ hall
      have h13 := all_done (by kernel_rfl) hall 13 (by decide)
      obtain ⟨s7, hS7, hG7⟩ := hI.fin h13
      have HF7 : Hid (IsOp w0 wy B F U s7 ∧ Goes B F w wy s [t] s7) := ⟨hS7, hG7⟩
      have hcd := (canon_defers dsW f fr).trans tdf
      clear hall hI hS7 hG7 h13
      rw [HFR.out]
      simp only [canon, dsW, List.foldl, Act.put, List.setIfInBounds_toArray, List.set_cons_succ, List.set_cons_zero]
      go_wp2
      (first | go_end0 | ((try simp only [Exit.inBlock, Exit.then]); refine bodyPost_ret (results_none rfl _ _ _) rfl ?_))
      exact ⟨rfl, s7, HF7.out.1, HF7.out.2⟩

end
end Go.Proofs.YtcolcnkjcagbaaaGreatDoor

namespace Go.Proofs.YtcolcnkjcagbaaaGreatDoor
open Go.RowKit Go.Maps
set_option linter.unusedVariables false

theorem take_all {w0 : World} {B F : Nat} {U : List Tr} (hu : Uni U) (hP : Pow w0) : ∀ f, TakeC w0 B F U f := by
  intro f
  induction f using Nat.strongRecOn with
  | ind f ih =>
    intro t w s ht hS hf
    have hfit := hu.fit t ht
    obtain ⟨x⟩ := t
    rcases x with ⟨k, n⟩ | u | ⟨a, b⟩ | ⟨k, n, a⟩
    · by_cases hk : k = 2
      · subst hk
        exact take_key hu hP n ih w s ht hS hf
      · exact take_leaf hu hP k n ih w s ht hS hf hk
    · exact take_hash hu hP u ih w s ht hS hf
    · exact take_pair hu hP a b ih w s ht hS hf
    · rcases hfit.1.1 with hk | hk
      · by_cases hkt : s.S (keyT n)
        · exact take_seal hu hP k n a ih w s ht hS hf hk hkt
        · exact take_wait hu hP k n a ih w s ht hS hf hk hkt
      · exact take_sign hu hP k n a ih w s ht hS hf hk

/-- before anything is taken -/
def st0 : OpSt := ⟨.map [], .map [], fun _ => False, fun _ => [], fun _ => .slice none 0 0⟩
theorem st0_is (w w3 : World) (U : List Tr) (hB : Below w.heap.size w w3) (h0 : w3.heap[w.heap.size]? = some (.map #[] 0)) (h1 : w3.heap[w.heap.size + 1]? = some (.map #[] 0)) : IsOp w w3 w.heap.size (w.heap.size + 1) U st0 := by
  have m0 : ∀ (B : Nat) (k : TypeId) (R : Value → Option (DataW Value × List MemPlace)), w3.heap[B]? = some (.map #[] 0) → w3.ownsMap Tryz.prog k R B 0 (.map []) := fun B k R h => by
    obtain ⟨w2, hw2⟩ : ∃ w2 : World, w2 = w.alloc (.map #[] 0) := ⟨_, rfl⟩
    have hm := World.ownsMap_made w Tryz.prog k R
    obtain ⟨es, clock, hb, Ft, hs, hD⟩ := hm
    rw [heap_alloc_new] at hb
    simp only [Option.some.injEq, Obj.map.injEq] at hb
    obtain ⟨rfl, rfl⟩ := hb
    exact ⟨_, _, h, Ft, Nat.le_refl _, hD⟩
  refine ⟨⟨m0 _ _ _ h0, fun x => ⟨fun h => ?_, fun ⟨t, ht, _⟩ => ht.elim⟩, fun t h => h.elim, ⟨0, Nat.le_refl _, m0 _ _ _ h1⟩, fun k _ => rfl, fun k _ => World.ownsRow_nil _ _ _ _, fun k t h => (by cases h), fun k _ => Nat.le_refl _, fun j k _ _ _ b hb => (by cases hb), Nat.le_refl _, Nat.le_succ _, by omega⟩, hB⟩
  simp [st0, has_eq] at h

/-- slices of terms -/
def IsTs (w : World) (a : Option Addr) (cap : Nat) (L : List Tr) : Prop := L.length ≤ cap ∧ cap ≤ 9223372036854775807 ∧ (0 < L.length → ∃ g, a = some ⟨g, 0, none⟩ ∧ g < w.heap.size ∧ ∀ i t, L[i]? = some t → w.cell? ⟨g, i, none⟩ = some t.val)

set_option maxRecDepth 8000 in
set_option maxHeartbeats 4000000 in
theorem openedOf_any (a : Option Addr) (cap : Nat) (L : List Tr) (w : World) (hT : IsTs w a cap L) (hL : ∀ t, t ∈ L → Fit t) (hl : L.length ≤ 100) (hP : Pow w) :
    Calls Tryz.prog 80 #[.slice a L.length cap] w fun e w' => ∃ E, e = .returned (.map (some w.heap.size)) ∧ SetOf w' w.heap.size 4000 E ∧ (∀ x, has E (.string x) = true ↔ ∃ t, Op (fun u => u ∈ L) t ∧ t.txt.toList = x) ∧ Below w.heap.size w w' := by
  have HU : Hid (Uni (uniOf L)) := uniOf_is hL hl
  have HTK : Hid (∀ f, TakeC w w.heap.size (w.heap.size + 1) (uniOf L) f) := take_all HU.out hP
  obtain ⟨hlc, hcm, hfm⟩ := hT
  obtain ⟨len, hlen⟩ : ∃ len, len = L.length := ⟨_, rfl⟩
  have HLEN : Hid (len = L.length) := hlen
  rw [← hlen] at hlc hfm hl ⊢
  have hlm : len ≤ 9223372036854775807 := by omega
  have hmm := @run_makeMap Tryz.prog
  obtain ⟨w3, hw3⟩ : ∃ w3, w3 = ((w.alloc (.map #[] 0)).alloc (.map #[] 0)).alloc (.cells #[.map (some w.heap.size), .map (some (w.heap.size + 1))] 167) := ⟨_, rfl⟩
  have hB3 : Below w.heap.size w w3 := by rw [hw3]; exact (((Below.refl _ _).alloc (Nat.le_refl _) _).alloc (by simp) _).alloc (by simp; omega) _
  have h0 : w3.heap[w.heap.size]? = some (.map #[] 0) := by
    rw [hw3, Below.heap_alloc _ _ _ (by simp; omega), Below.heap_alloc _ _ _ (by simp)]
    exact heap_alloc_new _ _
  have h1 : w3.heap[w.heap.size + 1]? = some (.map #[] 0) := by
    rw [hw3, Below.heap_alloc _ _ _ (by simp)]
    have := heap_alloc_new (w.alloc (.map #[] 0)) (.map #[] 0)
    rw [show (w.alloc (.map #[] 0)).heap.size = w.heap.size + 1 by simp] at this
    exact this
  have HBX : Hid (w3.heap[w.heap.size + 2]? = some (.cells #[.map (some w.heap.size), .map (some (w.heap.size + 1))] 167 (0, 0))) := by
    show _ = _
    rw [hw3]
    have := heap_alloc_new ((w.alloc (.map #[] 0)).alloc (.map #[] 0)) (.cells #[.map (some w.heap.size), .map (some (w.heap.size + 1))] 167 (0, 0))
    rw [show ((w.alloc (.map #[] 0)).alloc (.map #[] 0)).heap.size = w.heap.size + 2 by simp] at this
    exact this
  have HS3 : Hid (IsOp w w3 w.heap.size (w.heap.size + 1) (uniOf L) st0) := st0_is w w3 _ hB3 h0 h1
  have HB3 : Hid (Below w.heap.size w w3) := hB3
  have HW3 : Hid (w3 = ((w.alloc (.map #[] 0)).alloc (.map #[] 0)).alloc (.cells #[.map (some w.heap.size), .map (some (w.heap.size + 1))] 167)) := hw3
  clear hw3 hB3 h0 h1 hP hL hlen
  go_enter Tryz.func80, Tryz.ntmps80
  go_wp2
  rw [← HW3.out]
  go_loopw [11] (fun i wr => ∃ (k : Nat) (s1 : OpSt), k ≤ len ∧ i = .int .i64 k ∧ IsOp w wr w.heap.size (w.heap.size + 1) (uniOf L) s1 ∧ Goes w.heap.size (w.heap.size + 1) w3 wr st0 (L.take k) s1) (fun i _ => len - (intOf i).toNat)
  case atStart => exact ⟨0, st0, Nat.zero_le _, rfl, HS3.out, Goes.nil _ (Below.refl _ _)⟩
  case round =>
    obtain ⟨k, s1, hk, rfl, hS1, hG1⟩ := hrel
    have HSR : Hid (IsOp w wr w.heap.size (w.heap.size + 1) (uniOf L) s1) := hS1
    have HGR : Hid (Goes w.heap.size (w.heap.size + 1) w3 wr st0 (L.take k) s1) := hG1
    have hbx : wr.heap[w.heap.size + 2]? = some (.cells #[.map (some w.heap.size), .map (some (w.heap.size + 1))] 167 (0, 0)) := Kpt.box hG1.kp (lt_of_block HBX.out) ⟨by omega, by omega, fun j _ e => by cases e⟩ HBX.out
    have c0 : wr.cell? ⟨w.heap.size + 2, 0, none⟩ = some (.map (some w.heap.size)) := cellN hbx
    have c1 : wr.cell? ⟨w.heap.size + 2, 1, none⟩ = some (.map (some (w.heap.size + 1))) := cellN hbx
    clear hS1 hG1 hbx
    by_cases hlt : k < len
    · have hltI : (k : Int) < (len : Int) := by omega
      obtain ⟨g, ha, hg, hc⟩ := hfm (by omega)
      obtain ⟨t, ht⟩ : ∃ t, L[k]? = some t := ⟨_, List.getElem?_eq_getElem (by rw [← HLEN.out]; exact hlt)⟩
      have d1 : wr.cell? ⟨g, k, none⟩ = some t.val := (HSR.out.2.cell (p := ⟨g, k, none⟩) hg).trans (hc k t ht)
      have htU : t ∈ uniOf L := uni_mem (List.mem_of_getElem? ht)
      have HC : Hid (Calls Tryz.prog 103 #[.agg #[.map (some w.heap.size), .map (some (w.heap.size + 1))], t.val] wr fun e w' => e = .returned (.tuple #[]) ∧ ∃ s', IsOp w w' w.heap.size (w.heap.size + 1) (uniOf L) s' ∧ Goes w.heap.size (w.heap.size + 1) wr w' s1 [t] s') :=
        HTK.out (uniOf L).length t wr s1 htU HSR.out (by omega)
      have HT : Hid (L.take (k + 1) = L.take k ++ [t]) := by
        show _ = _
        rw [List.take_add_one, ht]
        rfl
      obtain ⟨T, u, hv⟩ := val_iface t
      rw [hv] at d1 HC
      subst ha
      clear htU hv ht hfm hc
      go_wp2_with fail
      refine HC.out.mono ?_
      rintro e w2 ⟨rfl, s2, hS2, hG2⟩
      have HS2 : Hid (IsOp w w2 w.heap.size (w.heap.size + 1) (uniOf L) s2) := hS2
      have HG2 : Hid (Goes w.heap.size (w.heap.size + 1) w3 w2 st0 (L.take (k + 1)) s2) := by
        show Goes _ _ _ _ _ _ _
        rw [HT.out]
        exact HGR.out.trans hG2
      clear hS2 hG2 d1 c0 c1 HC
      go_wp2
      go_roundw
      case rel => exact ⟨k + 1, s2, by omega, by go_num, HS2.out, HG2.out⟩
      case measure => simp [intOf]; omega
    · have hke : k = len := by omega
      subst hke
      clear hfm
      go_wp2
      go_ret
      have hG := HGR.out
      rw [HLEN.out, List.take_length] at hG
      refine ⟨s1.E, rfl, HSR.out.1.set.tight (Nat.le_trans HSR.out.1.size HU.out.len), fun x => ?_, HSR.out.2⟩
      rw [HSR.out.1.keys]
      exact exists_congr fun t => and_congr (hG.take.opened t) Iff.rfl
end Go.Proofs.YtcolcnkjcagbaaaGreatDoor

namespace Go.Proofs.YtcolcnkjcagbaaaGreatDoor
open Go.RowKit Go.Maps
set_option linter.unusedVariables false

/-- the terms of the first k texts -/
def TrL (S : Nat → ByteArray) (k : Nat) (L : List Tr) : Prop := L.length = k ∧ ∀ i, i < k → ∃ t, L[i]? = some t ∧ Fit t ∧ t.txt = S i
theorem TrL.add {S : Nat → ByteArray} {k : Nat} {L : List Tr} {t : Tr} (h : TrL S k L) (hf : Fit t) (ht : t.txt = S k) : TrL S (k + 1) (L ++ [t]) := by
  refine ⟨by rw [List.length_append, h.1]; rfl, fun i hi => ?_⟩
  rcases Nat.lt_succ_iff_lt_or_eq.1 hi with h1 | rfl
  · obtain ⟨u, h2, h3⟩ := h.2 i h1
    exact ⟨u, by rw [List.getElem?_append_left (by rw [h.1]; exact h1)]; exact h2, h3⟩
  · exact ⟨t, by rw [List.getElem?_append_right (by rw [h.1]; exact Nat.le_refl _), h.1]; simp, hf, ht⟩
theorem rT_fit {s : ByteArray} {v : Value} (h : rT s = some v) : ∃ t : Tr, t.val = v ∧ Fit t ∧ t.txt = s := by
  obtain ⟨t, hpr, hok, hz, hx, rfl⟩ := rT_tr h
  exact ⟨t, rfl, ⟨hok, hz, pr_deep t _ _ _ hpr⟩, hx⟩
/-- known: a right term whose text is among the first len -/
def Kn (S : Nat → ByteArray) (len : Nat) (u : Tr) : Prop := Fit u ∧ ∃ i, i < len ∧ u.txt = S i
theorem TrL.mem {S : Nat → ByteArray} {len : Nat} {L : List Tr} (h : TrL S len L) (u : Tr) : u ∈ L ↔ Kn S len u := by
  constructor
  · intro hu
    obtain ⟨i, hi, e⟩ := List.mem_iff_getElem.1 hu
    obtain ⟨t, h1, h2, h3⟩ := h.2 i (by rw [← h.1]; exact hi)
    rw [List.getElem?_eq_getElem hi, e] at h1
    cases h1
    exact ⟨h2, i, by rw [← h.1]; exact hi, h3⟩
  · rintro ⟨hf, i, hi, e⟩
    obtain ⟨t, h1, h2, h3⟩ := h.2 i hi
    rw [txt_inj hf h2 (by rw [e, h3])]
    exact List.mem_of_getElem? h1
/-- the texts that are opened -/
def OpT (S : Nat → ByteArray) (len : Nat) (x : List UInt8) : Prop := ∃ t, Op (Kn S len) t ∧ t.txt.toList = x
/-- what Opened answers -/
def OpR (S : Nat → ByteArray) (len : Nat) (M : List (List UInt8)) : Prop := (knownB S len = true → Up M ∧ ∀ x, x ∈ M ↔ OpT S len x) ∧ (knownB S len = false → M = [])
theorem OpR.unique {S : Nat → ByteArray} {len : Nat} {M N : List (List UInt8)} (h : OpR S len M) (k : OpR S len N) : M = N := by
  cases hq : knownB S len with
  | true => exact up_unique (h.1 hq).1 (k.1 hq).1 (fun x => ((h.1 hq).2 x).trans ((k.1 hq).2 x).symm)
  | false => rw [h.2 hq, k.2 hq]

set_option maxHeartbeats 2000000 in
theorem knownTermsL_any (a : Option Addr) (len cap : Nat) (S : Nat → ByteArray) (w : World) (h : IsStrs w a len cap S) (hS : ∀ i, i < len → (S i).size ≤ 1048576) :
    Calls Tryz.prog 75 #[.slice a len cap] w fun e w' => (∃ v, e = .returned (.tuple #[v, .bool (knownB S len)]) ∧ (knownB S len = true → ∃ L, TrL S len L ∧ w'.ownsRow w.heap.size 75 1 v len (L.map Tr.val))) ∧ Below w.heap.size w w' := by
  have hI := h
  obtain ⟨hlc, hcm, hc⟩ := h
  obtain ⟨i0, hi, hz0, hz1, hz2⟩ := info_parts info75
  by_cases h30 : (30 : Int) < (len : Int)
  · have hr : Hid (knownB S len = false) := by
      show _ = _
      unfold knownB
      rw [show decide (len ≤ 30) = false by simp; omega]; rfl
    go_enter Tryz.func75, Tryz.ntmps75
    go_wp2
    go_ret2
    exact ⟨⟨.slice none 0 0, retv (by rw [hr.out]; rfl), fun h => by rw [hr.out] at h; cases h⟩, Below.refl _ _⟩
  have hk30 : Hid (decide (len ≤ 30) = true) := by show _ = _; simp; omega
  have h30' : (len : Int) ≤ 30 := by omega
  have h30d : decide ((30 : Int) < (len : Int)) = false := by simpa using h30'
  clear h30
  cases hrise : riseB S len with
  | false =>
    have hr : Hid (knownB S len = false) := by
      show _ = _
      unfold knownB
      rw [hrise, Bool.and_false, Bool.false_and]
    go_enter Tryz.func75, Tryz.ntmps75
    go_wp2_with (go_at_call 97; refine (rises_any a len cap S _ hI (by omega)).mono ?_; rintro e w1 ⟨rfl, hB1⟩; rw [hrise])
    go_ret2
    exact ⟨⟨.slice none 0 0, retv (by rw [hr.out]; rfl), fun h => by rw [hr.out] at h; cases h⟩, hB1⟩
  | true =>
  have HRI := (show Hid _ from hrise)
  go_enter Tryz.func75, Tryz.ntmps75
  go_wp2_with (go_at_call 97; refine (rises_any a len cap S _ hI (by omega)).mono ?_; rintro e w1 ⟨rfl, hB1⟩; rw [hrise])
  clear hrise
  go_loopw [19, 4] (fun i v wr => ∃ (k : Nat) (L : List Tr), k ≤ len ∧ i = .int .i64 k ∧ wr.ownsRow w.heap.size 75 1 v k (L.map Tr.val) ∧ Hid (termsB S k = true ∧ TrL S k L) ∧ Below w.heap.size w wr)
    (fun i _ _ => len - (intOf i).toNat)
  case atStart => exact ⟨0, [], Nat.zero_le _, rfl, World.ownsRow_nil _ _ _ _, ⟨rfl, rfl, fun i hi => absurd hi (Nat.not_lt_zero _)⟩, hB1⟩
  case round =>
    obtain ⟨k, L, hk, rfl, how, HR, hB⟩ := hrel
    by_cases hlt : k < len
    · obtain ⟨b, off, rfl, hbs, hcell⟩ := hc (by omega)
      have d1 := (hB.cell (p := ⟨b, off + k, none⟩) hbs).trans (hcell k hlt)
      have hsz := hS k hlt
      have hltI : (k : Int) < (len : Int) := by omega
      have HO := (show Hid _ from how)
      clear hcell hc how
      have hc1 : (k + 1 : Nat) ≤ maxLen := by unfold maxLen; omega
      have hc2 : (k + 1) * 16 ≤ 140737488355328 := by omega
      cases hrt : rT (S k) with
      | none =>
        have hr : Hid (knownB S len = false) := by
          show _ = _
          unfold knownB
          rw [termsB_false hlt hrt, Bool.and_false]
        go_wp2_with (go_at_call 68; refine (termOfText_any (S k) _ hsz).mono ?_; rintro e w2 ⟨rfl, hB2⟩; rw [hrt]; dsimp only [tup2])
        go_ret2
        exact ⟨⟨.slice none 0 0, retv (by rw [hr.out]; rfl), fun h => by rw [hr.out] at h; cases h⟩, hB.trans (hB2.mono hB.size)⟩
      | some v =>
        obtain ⟨tr, htr, hfit, htx⟩ := rT_fit hrt
        have HTR : Hid (tr.val = v ∧ Fit tr ∧ tr.txt = S k) := ⟨htr, hfit, htx⟩
        obtain ⟨t, u, rfl⟩ := rT_iface hrt
        clear htr hfit htx
        have HRT := (show Hid (rT (S k) = some (.iface t u)) from hrt)
        have hso : ∀ x ∈ [Value.iface t u], x.oneCell' = true := by simp [Value.oneCell']
        go_wp2_with (first
          | (go_at_call 68; refine (termOfText_any (S k) _ hsz).mono ?_; rintro e w2 ⟨rfl, hB2⟩; rw [hrt]; dsimp only [tup2])
          | (at_builtin; refine wpList_append_own _ rfl _ _ 121 rfl w.heap.size 75 i0 .nilIface 1 16 Tryz.underlying121 hi hz0 hz1 hz2 rfl (by decide) _ _ _ rfl ((ownsRow_below HO.out hB2).alloc _) ⟨w2.heap.size, 0, none⟩ 1 1 [.iface t u] rfl rfl (World.news_of_block (heap_alloc_new _ _)) hso hc1 hc2 (by have := (hB.trans (hB2.mono hB.size)).size; simp; omega) ?_; intro v' w3 hown hgrow _))
        go_roundw
        case rel =>
          refine ⟨k + 1, L ++ [tr], by omega, by go_num, by rw [List.map_append, List.map_cons, List.map_nil, HTR.out.1]; exact hown, ?_, ?_⟩
          · refine ⟨?_, HR.out.2.add HTR.out.2.1 HTR.out.2.2⟩
            rw [termsB_succ, HR.out.1, HRT.out]; rfl
          · have hBa := (hB.trans (hB2.mono hB.size)).alloc ((hB.trans (hB2.mono hB.size)).size) (.cells #[.iface t u] 75)
            exact hBa.grown hgrow hBa.size (fun x hx => by have := ((ownsRow_below HO.out hB2).lt x hx).1; omega)
        case measure => simp [intOf]; omega
    · have hke : k = len := by omega
      subst hke
      have hr : Hid (knownB S k = true) := by
        show _ = _
        unfold knownB
        rw [hk30.out, HRI.out, HR.out.1]; rfl
      have HOW := (show Hid _ from how)
      clear how
      go_wp2
      go_ret2
      exact ⟨⟨_, retv (by rw [hr.out]; rfl), fun _ => ⟨L, HR.out.2, HOW.out⟩⟩, hB⟩


end Go.Proofs.YtcolcnkjcagbaaaGreatDoor
