/-
  A region that draws its order, by an invariant that each operation keeps in whatever order. No condition.
  A frame whose slots ds hold f, all others as they were: what a region's operations leave, in whatever order. No condition.
  A region that draws its order and whose operations only add memory: of each operation's value something holds for good, in whatever order. No condition.
  As RegF, for regions in which operations can be skipped (their slot then holds undef). Operations and frame under letters. No condition.
  As RegF, over any relation of worlds that holds from each world to itself and onwards: regions that draw their order and whose operations turn memory that nothing else reads. No condition.
-/
import Derived.Test.YtlibipbpaigmdaaGreatDoorBase
import Derived.OrdersHeld
import Derived.RegionTactic
import Derived.Deep.Cut
namespace Go.Proofs.YtlibipbpaigmdaaGreatDoor
open Go.RowKit
set_option linter.unusedVariables false

theorem put_eval_same (a : Act) (d : Nat) (v : Value) (h : d < a.tmps.size) : (a.put (some d) v).eval (.tmp d) = v := by simp [Act.put, Act.eval, h]
theorem put_eval_ne (a : Act) (d k : Nat) (v : Value) (h : d ≠ k) : (a.put (some d) v).eval (.tmp k) = a.eval (.tmp k) := by
  simp [Act.put, Act.eval, Array.getElem?_setIfInBounds_ne h]
theorem put_size (a : Act) (d : Nat) (v : Value) : (a.put (some d) v).tmps.size = a.tmps.size := by simp [Act.put]

section
variable {P : Program} {ops : Array Oper} {Q : Exit → Act → World → Prop} {md : Region.Mode} {I : (Nat → Bool) → Act → World → Prop}

theorem wpAny_inv
    (hstep : ∀ l a w, I l a w → ∀ i o, ops[i]? = some o → l i = false → (∀ e ∈ o.after, Region.binds md e = true → l e.on = true) → wpOp P ops Q i (fun a' w' => I (fun j => l j || j == i) a' w') a w)
    (hdone : ∀ l a w, I l a w → (∀ i o, ops[i]? = some o → (∀ e ∈ o.after, Region.binds md e = true → l e.on = true) → l i = true) → Q .normal a w) :
    ∀ (fuel : Nat) (listed : Array Bool) (a : Act) (w : World), listed.size = ops.size → I (fun j => listed.getD j false) a w → List.count false listed.toList ≤ fuel → wpAny P md ops Q fuel listed a w := by
  have fin : ∀ (listed : Array Bool) (a : Act) (w : World), listed.size = ops.size → I (fun j => listed.getD j false) a w → Region.ready md ops listed = [] → Q .normal a w := by
    intro listed a w hs hI hr
    refine hdone _ a w hI fun i o ho ha => ?_
    cases hl : listed.getD i false with
    | true => rfl
    | false =>
      have hi : i < listed.size := by
        rw [hs]
        rcases Nat.lt_or_ge i ops.size with h | h
        · exact h
        · rw [Array.getElem?_eq_none h] at ho; cases ho
      have hm : i ∈ Region.ready md ops listed := mem_ready.2 ⟨by simp [hi] at hl ⊢; exact hl, o, ho, ha⟩
      rw [hr] at hm
      cases hm
  intro fuel
  induction fuel with
  | zero =>
    intro listed a w hs hI hc
    have hr : Region.ready md ops listed = [] := by
      refine List.eq_nil_iff_forall_not_mem.2 fun i hi => ?_
      obtain ⟨h0, o, ho, _⟩ := mem_ready.1 hi
      have hi : i < listed.size := by
        rw [hs]
        rcases Nat.lt_or_ge i ops.size with h | h
        · exact h
        · rw [Array.getElem?_eq_none h] at ho; cases ho
      have hf : listed[i] = false := by simpa [hi] using h0
      have : false ∈ listed.toList := by rw [← hf]; simp
      have := List.count_pos_iff.2 this
      omega
    exact ⟨hr, fin listed a w hs hI hr⟩
  | succ fuel ih =>
    intro listed a w hs hI hc
    refine ⟨fun hr => fin listed a w hs hI hr, fun i hi => ?_⟩
    obtain ⟨h0, o, ho, ha⟩ := mem_ready.1 hi
    have hi : i < listed.size := by
      rw [hs]
      rcases Nat.lt_or_ge i ops.size with h | h
      · exact h
      · rw [Array.getElem?_eq_none h] at ho; cases ho
    have hf : listed[i] = false := by simpa [hi] using h0
    refine wpOp_mono (fun a' w' h' => ih (listed.setIfInBounds i true) a' w' (by simpa using hs) ?_ ?_) (hstep _ a w hI i o ho (by simp [hi, hf]) ha)
    · have e : (fun j => (listed.setIfInBounds i true).getD j false) = fun j => listed.getD j false || j == i := by
        funext j
        by_cases hj : i = j
        · subst hj; simp [hi]
        · rw [getD_set_ne false hj]
          have : (j == i) = false := by simp; omega
          rw [this, Bool.or_false]
      rw [e]
      exact h'
    · have hp : 0 < List.count false listed.toList := List.count_pos_iff.2 (by rw [← hf]; simp)
      have : List.count false (listed.toList.set i true) = List.count false listed.toList - 1 := by
        rw [List.count_set (by simpa using hi)]
        simp [hf]
      rw [Array.toList_setIfInBounds, this]
      omega

theorem wp_region_inv {id : Nat} {a : Act} {w : World} (hm : P.follows .mixedOrders = true) (h0 : I (fun _ => false) a w.drew)
    (hstep : ∀ l a w, I l a w → ∀ i o, ops[i]? = some o → l i = false → (∀ e ∈ o.after, Region.binds .any e = true → l e.on = true) → wpOp P ops Q i (fun a' w' => I (fun j => l j || j == i) a' w') a w)
    (hdone : ∀ l a w, I l a w → (∀ i o, ops[i]? = some o → (∀ e ∈ o.after, Region.binds .any e = true → l e.on = true) → l i = true) → Q .normal a w) :
    (Code.region id ops true).wp P Q a w := by
  refine wp_region_any hm (wpAny_inv hstep hdone _ _ _ _ (by simp) ?_ ?_)
  · have e : (fun j => (Array.replicate ops.size false).getD j false) = fun _ => false := by
      funext j
      simp [Array.getElem?_replicate]
      split <;> rfl
    rw [e]
    exact h0
  · simp
end
end Go.Proofs.YtlibipbpaigmdaaGreatDoor

namespace Go.Proofs.YtlibipbpaigmdaaGreatDoor
open Go.RowKit
set_option linter.unusedVariables false

/-- the frame a0, its slots ds written with f -/
def canon (a0 : Act) (ds : List Nat) (f : Nat → Value) : Act := ds.foldl (fun t d => t.put (some d) (f d)) a0
theorem canon_cons (a0 : Act) (d : Nat) (ds : List Nat) (f : Nat → Value) : canon a0 (d :: ds) f = canon (a0.put (some d) (f d)) ds f := rfl
theorem canon_size (ds : List Nat) (f : Nat → Value) : ∀ a0 : Act, (canon a0 ds f).tmps.size = a0.tmps.size := by
  induction ds with
  | nil => intro a0; rfl
  | cons d ds ih => intro a0; rw [canon_cons, ih, put_size]
theorem canon_defers (ds : List Nat) (f : Nat → Value) : ∀ a0 : Act, (canon a0 ds f).defers = a0.defers := by
  induction ds with
  | nil => intro a0; rfl
  | cons d ds ih => intro a0; rw [canon_cons, ih]; rfl
theorem canon_get (ds : List Nat) (f : Nat → Value) (i : Nat) : ∀ a0 : Act, (canon a0 ds f).tmps[i]? = if i ∈ ds ∧ i < a0.tmps.size then some (f i) else a0.tmps[i]? := by
  induction ds with
  | nil => intro a0; simp [canon]
  | cons d ds ih =>
    intro a0
    rw [canon_cons, ih, put_size]
    by_cases hi : i ∈ ds ∧ i < a0.tmps.size
    · rw [if_pos hi, if_pos ⟨List.mem_cons_of_mem _ hi.1, hi.2⟩]
    · rw [if_neg hi]
      by_cases hd : i = d
      · subst hd
        by_cases hs : i < a0.tmps.size
        · rw [if_pos ⟨List.mem_cons_self, hs⟩]
          simp [Act.put, hs]
        · rw [if_neg (fun h => hs h.2)]
          simp [Act.put, hs]
      · rw [if_neg (fun h => hi ⟨by rcases List.mem_cons.1 h.1 with h1 | h1; exact absurd h1 hd; exact h1, h.2⟩)]
        simp [Act.put, Array.getElem?_setIfInBounds_ne (fun h => hd h.symm)]
theorem act_ext {a b : Act} (h1 : ∀ i : Nat, a.tmps[i]? = b.tmps[i]?) (h2 : a.defers = b.defers) : a = b := by
  obtain ⟨t, d⟩ := a
  obtain ⟨t', d'⟩ := b
  obtain rfl : t = t' := Array.ext_getElem? (fun i => h1 i)
  obtain rfl : d = d' := h2
  rfl
theorem canon_put (a0 : Act) (ds : List Nat) (f : Nat → Value) (d : Nat) (v : Value) (hd : d ∈ ds) : (canon a0 ds f).put (some d) v = canon a0 ds (fun x => if x = d then v else f x) := by
  refine act_ext (fun i => ?_) (by rw [canon_defers]; exact canon_defers ds f a0)
  rw [canon_get]
  by_cases hi : i = d
  · subst hi
    rw [if_pos rfl]
    by_cases hs : i < a0.tmps.size
    · rw [if_pos ⟨hd, hs⟩]
      simp [Act.put, canon_size, hs]
    · rw [if_neg (fun h => hs h.2)]
      simp [Act.put, canon_size, hs]
  · rw [if_neg hi]
    have : ((canon a0 ds f).put (some d) v).tmps[i]? = (canon a0 ds f).tmps[i]? := by simp [Act.put, Array.getElem?_setIfInBounds_ne (fun h => hi h.symm)]
    rw [this, canon_get]
theorem canon_eval (a0 : Act) (ds : List Nat) (f : Nat → Value) (d : Nat) (hd : d ∈ ds) (hs : d < a0.tmps.size) : (canon a0 ds f).eval (.tmp d) = f d := by
  have h := canon_get ds f d a0
  rw [if_pos ⟨hd, hs⟩] at h
  show (canon a0 ds f).tmps.getD d undef = _
  simp [h]
theorem canon_eval_ne (a0 : Act) (ds : List Nat) (f : Nat → Value) (d : Nat) (hd : d ∉ ds) : (canon a0 ds f).eval (.tmp d) = a0.eval (.tmp d) := by
  have h := canon_get ds f d a0
  rw [if_neg (fun h => hd h.1)] at h
  show (canon a0 ds f).tmps.getD d undef = a0.tmps.getD d undef
  simp [h]
theorem canon_self (a0 : Act) (ds : List Nat) : canon a0 ds (fun d => a0.eval (.tmp d)) = a0 := by
  refine act_ext (fun i => ?_) (canon_defers ds _ a0)
  rw [canon_get]
  split
  · rename_i h
    show some (a0.tmps.getD i undef) = _
    simp [h.2]
  · rfl
end Go.Proofs.YtlibipbpaigmdaaGreatDoor

namespace Go.Proofs.YtlibipbpaigmdaaGreatDoor
open Go.RowKit
set_option linter.unusedVariables false

/-- every operation waits, where that binds, for earlier ones of the text alone -/
def backB (l : List Oper) : Bool := (List.range l.length).all fun i => match l.toArray[i]? with
  | some o => o.after.all fun e => !Region.binds .any e || decide (e.on < i)
  | none => true
theorem backB_at {l : List Oper} (h : backB l = true) {i : Nat} {o : Oper} (ho : l.toArray[i]? = some o) : ∀ e ∈ o.after, Region.binds .any e = true → e.on < i := by
  have hi : i < l.length := by
    rcases Nat.lt_or_ge i l.length with h' | h'
    · exact h'
    · rw [Array.getElem?_eq_none (by simpa using h')] at ho; cases ho
  unfold backB at h
  rw [List.all_eq_true] at h
  have := h i (List.mem_range.2 hi)
  rw [ho] at this
  intro e he hb
  have h2 := (Array.all_eq_true_iff_forall_mem.1 this) e he
  rw [hb] at h2
  exact of_decide_eq_true (by simpa using h2)

theorem wp_region_facts {P : Program} {l : List Oper} {Q : Exit → Act → World → Prop} {id : Nat} {a0 : Act} {w0 : World} (hm : P.follows .mixedOrders = true) (hback : backB l = true) (ds : List Nat) (slot : Nat → Nat) (F : Nat → Value → World → Prop)
    (hF : ∀ j v w w', F j v w → Below w.heap.size w w' → F j v w')
    (hds : ∀ i, i < l.length → slot i ∈ ds) (hinj : ∀ i j, i < l.length → j < l.length → slot i = slot j → i = j)
    (hstep : ∀ f w i o, Below w0.heap.size w0 w → l.toArray[i]? = some o → (∀ e ∈ o.after, Region.binds .any e = true → F e.on (f (slot e.on)) w) → wpOp P l.toArray Q i (fun a' w' => ∃ v, a' = (canon a0 ds f).put (some (slot i)) v ∧ F i v w' ∧ Below w.heap.size w w') (canon a0 ds f) w)
    (hdone : ∀ f w, Below w0.heap.size w0 w → (∀ i, i < l.length → F i (f (slot i)) w) → Q .normal (canon a0 ds f) w) :
    (Code.region id l.toArray true).wp P Q a0 w0 := by
  have hlt : ∀ i o, l.toArray[i]? = some o → i < l.length := fun i o ho => by
    rcases Nat.lt_or_ge i l.length with h' | h'
    · exact h'
    · rw [Array.getElem?_eq_none (by simpa using h')] at ho; cases ho
  refine wp_region_inv (I := fun done t w => ∃ f, t = canon a0 ds f ∧ Below w0.heap.size w0 w ∧ (∀ j, done j = true → j < l.length) ∧ ∀ j, done j = true → F j (f (slot j)) w) hm ?_ ?_ ?_
  · exact ⟨fun d => a0.eval (.tmp d), (canon_self a0 ds).symm, (Below.refl _ _).drew, (fun j h => by cases h), fun j h => by cases h⟩
  · rintro done t w ⟨f, rfl, hB, hd1, hd2⟩ i o ho hl hd
    have hi := hlt i o ho
    refine wpOp_mono ?_ (hstep f w i o hB ho (fun e he hb => hd2 _ (hd e he hb)))
    rintro a' w' ⟨v, rfl, hv, hB'⟩
    refine ⟨fun x => if x = slot i then v else f x, canon_put a0 ds f (slot i) v (hds i hi), hB.trans (hB'.mono hB.size), fun j hj => ?_, fun j hj => ?_⟩
    · by_cases e : j = i
      · subst e; exact hi
      · exact hd1 j (by have : (j == i) = false := by simpa using e
                        simpa [this] using hj)
    · by_cases e : j = i
      · subst e
        show F j (if slot j = slot j then v else f (slot j)) w'
        rw [if_pos rfl]
        exact hv
      · have hj' : done j = true := by
          have : (j == i) = false := by simpa using e
          simpa [this] using hj
        show F j (if slot j = slot i then v else f (slot j)) w'
        rw [if_neg (fun q => e (hinj j i (hd1 j hj') hi q))]
        exact hF _ _ _ _ (hd2 j hj') hB'
  · rintro done t w ⟨f, rfl, hB, hd1, hd2⟩ hall
    have key : ∀ n i, i < n → i < l.length → done i = true := by
      intro n
      induction n with
      | zero => intro i hi; exact absurd hi (Nat.not_lt_zero _)
      | succ n ih =>
        intro i hi hil
        have ho : l.toArray[i]? = some (l[i]) := by simp [hil]
        exact hall i _ ho (fun e he hb => by
          have := backB_at hback ho e he hb
          exact ih e.on (by omega) (by omega))
    exact hdone f w hB (fun i hi => hd2 i (key (i + 1) i (by omega) hi))

theorem wpOp_runG {P : Program} {ops : Array Oper} {Q : Exit → Act → World → Prop} {i : Nat} {o : Oper} {K : Act → World → Prop} {t : Act} {w w' : World} {v : Value} (ho : ops[i]? = some o) (hg : Region.wanted o (yielded ops t.tmps) = true) (hrun : (execOp t.eval o).run P w = .ok (.value v) w') (h : K (t.put o.dst v) w') : wpOp P ops Q i K t w := by
  refine wpOp_step ho fun K' hK => ?_
  rw [if_pos hg]
  unfold Oper.wp
  rw [hrun]
  exact hK _ _ h
theorem wpOp_enterG {P : Program} {ops : Array Oper} {Q : Exit → Act → World → Prop} {i : Nat} {o : Oper} {K : Act → World → Prop} {t : Act} {w : World} {f : FuncId} {args : Array Value} (ho : ops[i]? = some o) (hg : Region.wanted o (yielded ops t.tmps) = true) (hrun : (execOp t.eval o).run P w = .ok (.enter f args) w) (h : Calls P f args w fun e w' => ∃ v, e = .returned v ∧ K (t.put o.dst v) w') : wpOp P ops Q i K t w := by
  refine wpOp_step ho fun K' hK => ?_
  rw [if_pos hg]
  unfold Oper.wp
  rw [hrun]
  refine Calls.mono h ?_
  rintro e w' ⟨v, rfl, hv⟩
  exact hK _ _ hv
theorem wanted_none {o : Oper} {y : Nat → Option Bool} (h : o.guard = none) : Region.wanted o y = true := by simp [Region.wanted, h]
/-- a guard that holds -/
theorem wanted_canon {ops : Array Oper} {o og : Oper} {a0 : Act} {ds : List Nat} {f : Nat → Value} {j d : Nat} {b : Bool} (h : o.guard = some (j, b)) (hj : ops[j]? = some og) (hd : og.dst = some d) (hds : d ∈ ds) (hs : d < a0.tmps.size) (hf : f d = .bool b) : Region.wanted o (yielded ops (canon a0 ds f).tmps) = true := by
  have hc := canon_get ds f d a0
  rw [if_pos ⟨hds, hs⟩] at hc
  simp [Region.wanted, h, yielded, hj, hd, hc, hf]

section
variable (ev : Operand → Value) (o : Oper) (w : World)
theorem q_move (x : Operand) (h : o.op = .move x) : (execOp ev o).run Tryz.prog w = .ok (.value (ev x)) w := by simp [execOp, h]
theorem q_assign (x : Operand) (h : o.op = .assign x) : (execOp ev o).run Tryz.prog w = .ok (.value (ev x)) w := by simp [execOp, h]
theorem q_call2 (f : FuncId) (he : ∀ args w, (callFunc f args).run Tryz.prog w = .ok (.enter f args) w) (x y : Operand) (ts : Array TypeId) (h : o.op = .call { callee := .value (.func f), args := #[x, y], argTypes := ts }) (hf : ev (.func f) = .func (.func f) #[] #[]) : (execOp ev o).run Tryz.prog w = .ok (.enter f #[ev x, ev y]) w := by
  simp [execOp, h, resolve, invoke, hf, Deferred.ofValue, he]
theorem q_call3 (f : FuncId) (he : ∀ args w, (callFunc f args).run Tryz.prog w = .ok (.enter f args) w) (x y z : Operand) (ts : Array TypeId) (h : o.op = .call { callee := .value (.func f), args := #[x, y, z], argTypes := ts }) (hf : ev (.func f) = .func (.func f) #[] #[]) : (execOp ev o).run Tryz.prog w = .ok (.enter f #[ev x, ev y, ev z]) w := by
  simp [execOp, h, resolve, invoke, hf, Deferred.ofValue, he]

theorem q_lit1 (c0 : Operand) (h : o.op = .buildSlice 23 1 #[(0, c0)]) (h0 : ev c0 = .int .i64 1) : (execOp ev o).run Tryz.prog w = .ok (.value (.slice (some ⟨w.heap.size, 0, none⟩) 1 1)) (w.alloc (.cells #[.int .i64 1] 2)) := by
  simp [execOp, h, h0]
  go_simp

theorem q_eql (x y : Operand) (p : Bool) (h : o.op = .binOp .eql 4 x y 4) (hx : ev x = .bool p) (hy : ev y = .bool p) : (execOp ev o).run Tryz.prog w = .ok (.value (.bool true)) w := by
  simp [execOp, h, hx, hy]
  go_simp
theorem q_pick (x y z : Operand) (h : o.op = .pick x y z) (hx : ev x = .bool true) : (execOp ev o).run Tryz.prog w = .ok (.value (ev y)) w := by
  simp [execOp, h, hx]
  go_simp
end
end Go.Proofs.YtlibipbpaigmdaaGreatDoor

namespace Go.Proofs.YtlibipbpaigmdaaGreatDoor
open Go.RowKit
set_option linter.unusedVariables false

/-- the operations under a letter -/
theorem wp_region_skips {P : Program} {l : List Oper} {Q : Exit → Act → World → Prop} {id : Nat} {a0 : Act} {w0 : World} (hm : P.follows .mixedOrders = true) (hback : backB l = true) (ds : List Nat) (slot : Nat → Nat) (F : Nat → Value → World → Prop)
    (hF : ∀ j v w w', F j v w → Below w.heap.size w w' → F j v w')
    (hds : ∀ i, i < l.length → slot i ∈ ds) (hinj : ∀ i j, i < l.length → j < l.length → slot i = slot j → i = j)
    (hstep : ∀ ops, ops = l.toArray → ∀ f w i o, Below w0.heap.size w0 w → ops[i]? = some o → (∀ e ∈ o.after, Region.binds .any e = true → F e.on (f (slot e.on)) w) → wpOp P ops Q i (fun a' w' => ∃ v, a' = (canon a0 ds f).put (some (slot i)) v ∧ F i v w' ∧ Below w.heap.size w w') (canon a0 ds f) w)
    (hdone : ∀ f w, Below w0.heap.size w0 w → (∀ i, i < l.length → F i (f (slot i)) w) → Q .normal (canon a0 ds f) w) :
    (Code.region id l.toArray true).wp P Q a0 w0 := wp_region_facts hm hback ds slot F hF hds hinj (hstep _ rfl) hdone

/-- an operation that its guard passes by -/
theorem wpOp_skipG {P : Program} {ops : Array Oper} {Q : Exit → Act → World → Prop} {i : Nat} {o : Oper} {K : Act → World → Prop} {t : Act} {w : World} (ho : ops[i]? = some o) (hg : Region.wanted o (yielded ops t.tmps) = false) (h : K (t.put o.dst undef) w) : wpOp P ops Q i K t w := by
  refine wpOp_step ho fun K' hK => ?_
  rw [if_neg (by rw [hg]; decide)]
  exact hK _ _ h
/-- a guard, read off its slot -/
theorem wanted_is {ops : Array Oper} {i : Nat} {oi : Oper} (_ : ops[i]? = some oi) {a0 : Act} {ds : List Nat} {f : Nat → Value} (j d : Nat) (b : Bool) (hj : (ops[j]?).bind (·.dst) = some d) (hds : d ∈ ds) (hs : d < a0.tmps.size) : ∀ (o : Oper) (c : Bool), f d = .bool c → o.guard = some (j, b) → Region.wanted o (yielded ops (canon a0 ds f).tmps) = (c == b) := fun o c hf hg => by
  have hc := canon_get ds f d a0
  rw [if_pos ⟨hds, hs⟩] at hc
  cases hq : ops[j]? with
  | none => rw [hq] at hj; cases hj
  | some og =>
    rw [hq] at hj
    have hj' : og.dst = some d := hj
    simp [Region.wanted, hg, yielded, hq, hj', hc, hf]
theorem wanted_undef {ops : Array Oper} {i : Nat} {oi : Oper} (_ : ops[i]? = some oi) {a0 : Act} {ds : List Nat} {f : Nat → Value} (j d : Nat) (b : Bool) (hj : (ops[j]?).bind (·.dst) = some d) (hds : d ∈ ds) (hs : d < a0.tmps.size) : ∀ (o : Oper), f d = undef → o.guard = some (j, b) → Region.wanted o (yielded ops (canon a0 ds f).tmps) = false := fun o hf hg => by
  have hc := canon_get ds f d a0
  rw [if_pos ⟨hds, hs⟩] at hc
  cases hq : ops[j]? with
  | none => rw [hq] at hj; cases hj
  | some og =>
    rw [hq] at hj
    have hj' : og.dst = some d := hj
    simp [Region.wanted, hg, yielded, hq, hj', hc, hf, undef]
/-- the frame under a letter -/
theorem wp_letter {c : Code} {P : Program} {Q : Exit → Act → World → Prop} {a : Act} {w : World} (h : ∀ a', a' = a → c.wp P Q a' w) : c.wp P Q a w := h a rfl
end Go.Proofs.YtlibipbpaigmdaaGreatDoor

namespace Go.Proofs.YtlibipbpaigmdaaGreatDoor
open Go.RowKit
set_option linter.unusedVariables false

theorem wp_cut_to {P : Program} {s : Code} {K : Act → World → Prop} {Q' : Exit → Act → World → Prop} {a : Act} {w : World} (R : Act → Act → World → Prop)
    (rest : ∀ a' w', R a a' w' → K a' w')
    (first : ∀ (J K' : Act → World → Prop), (∀ a' w', R a a' w' → J a' w') → (∀ a' w', Met J a' w' → K' a' w') → s.wp P (Exit.then K' Q') a w) : s.wp P (Exit.then K Q') a w := wp_cut (R a) rest first
theorem wp_region_rel {P : Program} {Rel : World → World → Prop} (rr : ∀ w, Rel w w) (rt : ∀ {a b c}, Rel a b → Rel b c → Rel a c) (rd : ∀ w, Rel w w.drew) {l : List Oper} {Q : Exit → Act → World → Prop} {id : Nat} {a0 : Act} {w0 : World} (hm : P.follows .mixedOrders = true) (hback : backB l = true) (ds : List Nat) (slot : Nat → Nat) (F : Nat → Value → World → Prop)
    (hF : ∀ j v w w', F j v w → Rel w w' → F j v w')
    (hds : ∀ i, i < l.length → slot i ∈ ds) (hinj : ∀ i j, i < l.length → j < l.length → slot i = slot j → i = j)
    (hstep : ∀ ops, ops = l.toArray → ∀ f w i o, Rel w0 w → ops[i]? = some o → (∀ e ∈ o.after, Region.binds .any e = true → F e.on (f (slot e.on)) w) → wpOp P ops Q i (fun a' w' => ∃ v, a' = (canon a0 ds f).put (some (slot i)) v ∧ F i v w' ∧ Rel w w') (canon a0 ds f) w)
    (hdone : ∀ f w, Rel w0 w → (∀ i, i < l.length → F i (f (slot i)) w) → Q .normal (canon a0 ds f) w) :
    (Code.region id l.toArray true).wp P Q a0 w0 := by
  have hlt : ∀ i o, l.toArray[i]? = some o → i < l.length := fun i o ho => by
    rcases Nat.lt_or_ge i l.length with h' | h'
    · exact h'
    · rw [Array.getElem?_eq_none (by simpa using h')] at ho; cases ho
  refine wp_region_inv (I := fun done t w => ∃ f, t = canon a0 ds f ∧ Rel w0 w ∧ (∀ j, done j = true → j < l.length) ∧ ∀ j, done j = true → F j (f (slot j)) w) hm ?_ ?_ ?_
  · exact ⟨fun d => a0.eval (.tmp d), (canon_self a0 ds).symm, rd _, (fun j h => by cases h), fun j h => by cases h⟩
  · rintro done t w ⟨f, rfl, hB, hd1, hd2⟩ i o ho hl hd
    have hi := hlt i o ho
    refine wpOp_mono ?_ (hstep _ rfl f w i o hB ho (fun e he hb => hd2 _ (hd e he hb)))
    rintro a' w' ⟨v, rfl, hv, hB'⟩
    refine ⟨fun x => if x = slot i then v else f x, canon_put a0 ds f (slot i) v (hds i hi), rt hB hB', fun j hj => ?_, fun j hj => ?_⟩
    · by_cases e : j = i
      · subst e; exact hi
      · exact hd1 j (by have : (j == i) = false := by simpa using e
                        simpa [this] using hj)
    · by_cases e : j = i
      · subst e
        show F j (if slot j = slot j then v else f (slot j)) w'
        rw [if_pos rfl]
        exact hv
      · have hj' : done j = true := by
          have : (j == i) = false := by simpa using e
          simpa [this] using hj
        show F j (if slot j = slot i then v else f (slot j)) w'
        rw [if_neg (fun q => e (hinj j i (hd1 j hj') hi q))]
        exact hF _ _ _ _ (hd2 j hj') hB'
  · rintro done t w ⟨f, rfl, hB, hd1, hd2⟩ hall
    have key : ∀ n i, i < n → i < l.length → done i = true := by
      intro n
      induction n with
      | zero => intro i hi; exact absurd hi (Nat.not_lt_zero _)
      | succ n ih =>
        intro i hi hil
        have ho : l.toArray[i]? = some (l[i]) := by simp [hil]
        exact hall i _ ho (fun e he hb => by
          have := backB_at hback ho e he hb
          exact ih e.on (by omega) (by omega))
    exact hdone f w hB (fun i hi => hd2 i (key (i + 1) i (by omega) hi))

/-- the same, where an operation reads a slot that a later one writes -/
theorem wp_region_rel2 {P : Program} {Rel : World → World → Prop} (rr : ∀ w, Rel w w) (rt : ∀ {a b c}, Rel a b → Rel b c → Rel a c) (rd : ∀ w, Rel w w.drew) {l : List Oper} {Q : Exit → Act → World → Prop} {id : Nat} {a0 : Act} {w0 : World} (hm : P.follows .mixedOrders = true) (hback : backB l = true) (ds : List Nat) (slot : Nat → Nat) (F : Nat → Value → World → Prop)
    (hF : ∀ j v w w', F j v w → Rel w w' → F j v w')
    (hds : ∀ i, i < l.length → slot i ∈ ds) (hinj : ∀ i j, i < l.length → j < l.length → slot i = slot j → i = j)
    (hstep : ∀ ops, ops = l.toArray → ∀ (done : Nat → Bool) f w i o, Rel w0 w → ops[i]? = some o → done i = false → (∀ j, j < l.length → done j = false → f (slot j) = a0.eval (.tmp (slot j))) → (∀ j o', ops[j]? = some o' → done j = true → ∀ e ∈ o'.after, Region.binds .any e = true → done e.on = true) → (∀ e ∈ o.after, Region.binds .any e = true → F e.on (f (slot e.on)) w) → wpOp P ops Q i (fun a' w' => ∃ v, a' = (canon a0 ds f).put (some (slot i)) v ∧ F i v w' ∧ Rel w w') (canon a0 ds f) w)
    (hdone : ∀ f w, Rel w0 w → (∀ i, i < l.length → F i (f (slot i)) w) → Q .normal (canon a0 ds f) w) :
    (Code.region id l.toArray true).wp P Q a0 w0 := by
  have hlt : ∀ i o, l.toArray[i]? = some o → i < l.length := fun i o ho => by
    rcases Nat.lt_or_ge i l.length with h' | h'
    · exact h'
    · rw [Array.getElem?_eq_none (by simpa using h')] at ho; cases ho
  refine wp_region_inv (I := fun done t w => ∃ f, t = canon a0 ds f ∧ Rel w0 w ∧ (∀ j, done j = true → j < l.length) ∧ (∀ j, done j = true → F j (f (slot j)) w) ∧ (∀ j, j < l.length → done j = false → f (slot j) = a0.eval (.tmp (slot j))) ∧ ∀ j o', l.toArray[j]? = some o' → done j = true → ∀ e ∈ o'.after, Region.binds .any e = true → done e.on = true) hm ?_ ?_ ?_
  · exact ⟨fun d => a0.eval (.tmp d), (canon_self a0 ds).symm, rd _, (fun j h => by cases h), (fun j h => by cases h), (fun _ _ _ => rfl), fun _ _ _ h => by cases h⟩
  · rintro done t w ⟨f, rfl, hB, hd1, hd2, hd3, hd4⟩ i o ho hl hd
    have hi := hlt i o ho
    refine wpOp_mono ?_ (hstep _ rfl done f w i o hB ho hl hd3 hd4 (fun e he hb => hd2 _ (hd e he hb)))
    rintro a' w' ⟨v, rfl, hv, hB'⟩
    refine ⟨fun x => if x = slot i then v else f x, canon_put a0 ds f (slot i) v (hds i hi), rt hB hB', fun j hj => ?_, fun j hj => ?_, fun j hjl hj => ?_, fun j o' hjo hj e he hb => ?_⟩
    · by_cases e : j = i
      · subst e; exact hi
      · exact hd1 j (by have : (j == i) = false := by simpa using e
                        simpa [this] using hj)
    · by_cases e : j = i
      · subst e
        show F j (if slot j = slot j then v else f (slot j)) w'
        rw [if_pos rfl]
        exact hv
      · have hj' : done j = true := by
          have : (j == i) = false := by simpa using e
          simpa [this] using hj
        show F j (if slot j = slot i then v else f (slot j)) w'
        rw [if_neg (fun q => e (hinj j i (hd1 j hj') hi q))]
        exact hF _ _ _ _ (hd2 j hj') hB'
    · have hne : j ≠ i := fun q => by subst q; simp at hj
      have hj' : done j = false := by
        have : (j == i) = false := by simpa using hne
        simpa [this] using hj
      show (if slot j = slot i then v else f (slot j)) = _
      rw [if_neg (fun q => hne (hinj j i hjl hi q))]
      exact hd3 j hjl hj'
    · by_cases q : j = i
      · subst q
        rw [ho] at hjo
        cases hjo
        simp [hd e he hb]
      · have hj' : done j = true := by
          have : (j == i) = false := by simpa using q
          simpa [this] using hj
        simp [hd4 j o' hjo hj' e he hb]
  · rintro done t w ⟨f, rfl, hB, hd1, hd2, _, _⟩ hall
    have key : ∀ n i, i < n → i < l.length → done i = true := by
      intro n
      induction n with
      | zero => intro i hi; exact absurd hi (Nat.not_lt_zero _)
      | succ n ih =>
        intro i hi hil
        have ho : l.toArray[i]? = some (l[i]) := by simp [hil]
        exact hall i _ ho (fun e he hb => by
          have := backB_at hback ho e he hb
          exact ih e.on (by omega) (by omega))
    exact hdone f w hB (fun i hi => hd2 i (key (i + 1) i (by omega) hi))

end Go.Proofs.YtlibipbpaigmdaaGreatDoor
