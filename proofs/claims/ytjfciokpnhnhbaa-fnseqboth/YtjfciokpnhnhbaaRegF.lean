/-
  A region that draws its order and whose operations only add memory: of each operation's value something holds for good, in whatever order. No condition.
-/
import Derived.Test.YtjfciokpnhnhbaaReg2
namespace Go.Proofs.Ytjfciokpnhnhbaa
open Go.RowKit
set_option linter.unusedVariables false

/-- every operation waits, where that binds, for earlier ones of the text alone -/
def backB (l : List Oper) : Bool := (List.range l.length).all fun i => match l.toArray[i]? with
  | some o => o.after.all fun e => !Region.binds .any e || decide (e.on < i)
  | none => true
theorem backB_at {l : List Oper} (h : backB l = true) {i : Nat} {o : Oper} (ho : l.toArray[i]? = some o) : ∀ e ∈ o.after, Region.binds .any e = true → e.on < i := by
  have hi : i < l.length := by
    rcases Nat.lt_or_ge i l.length with h' | h'
    · exact h'
    · rw [Array.getElem?_eq_none (by simpa using h')] at ho; cases ho
  unfold backB at h
  rw [List.all_eq_true] at h
  have := h i (List.mem_range.2 hi)
  rw [ho] at this
  intro e he hb
  have h2 := (Array.all_eq_true_iff_forall_mem.1 this) e he
  rw [hb] at h2
  exact of_decide_eq_true (by simpa using h2)

theorem wp_region_facts {P : Program} {l : List Oper} {Q : Exit → Act → World → Prop} {id : Nat} {a0 : Act} {w0 : World} (hm : P.follows .mixedOrders = true) (hback : backB l = true) (ds : List Nat) (slot : Nat → Nat) (F : Nat → Value → World → Prop)
    (hF : ∀ j v w w', F j v w → Below w.heap.size w w' → F j v w')
    (hds : ∀ i, i < l.length → slot i ∈ ds) (hinj : ∀ i j, i < l.length → j < l.length → slot i = slot j → i = j)
    (hstep : ∀ f w i o, Below w0.heap.size w0 w → l.toArray[i]? = some o → (∀ e ∈ o.after, Region.binds .any e = true → F e.on (f (slot e.on)) w) → wpOp P l.toArray Q i (fun a' w' => ∃ v, a' = (canon a0 ds f).put (some (slot i)) v ∧ F i v w' ∧ Below w.heap.size w w') (canon a0 ds f) w)
    (hdone : ∀ f w, Below w0.heap.size w0 w → (∀ i, i < l.length → F i (f (slot i)) w) → Q .normal (canon a0 ds f) w) :
    (Code.region id l.toArray true).wp P Q a0 w0 := by
  have hlt : ∀ i o, l.toArray[i]? = some o → i < l.length := fun i o ho => by
    rcases Nat.lt_or_ge i l.length with h' | h'
    · exact h'
    · rw [Array.getElem?_eq_none (by simpa using h')] at ho; cases ho
  refine wp_region_inv (I := fun done t w => ∃ f, t = canon a0 ds f ∧ Below w0.heap.size w0 w ∧ (∀ j, done j = true → j < l.length) ∧ ∀ j, done j = true → F j (f (slot j)) w) hm ?_ ?_ ?_
  · exact ⟨fun d => a0.eval (.tmp d), (canon_self a0 ds).symm, (Below.refl _ _).drew, (fun j h => by cases h), fun j h => by cases h⟩
  · rintro done t w ⟨f, rfl, hB, hd1, hd2⟩ i o ho hl hd
    have hi := hlt i o ho
    refine wpOp_mono ?_ (hstep f w i o hB ho (fun e he hb => hd2 _ (hd e he hb)))
    rintro a' w' ⟨v, rfl, hv, hB'⟩
    refine ⟨fun x => if x = slot i then v else f x, canon_put a0 ds f (slot i) v (hds i hi), hB.trans (hB'.mono hB.size), fun j hj => ?_, fun j hj => ?_⟩
    · by_cases e : j = i
      · subst e; exact hi
      · exact hd1 j (by have : (j == i) = false := by simpa using e
                        simpa [this] using hj)
    · by_cases e : j = i
      · subst e
        show F j (if slot j = slot j then v else f (slot j)) w'
        rw [if_pos rfl]
        exact hv
      · have hj' : done j = true := by
          have : (j == i) = false := by simpa using e
          simpa [this] using hj
        show F j (if slot j = slot i then v else f (slot j)) w'
        rw [if_neg (fun q => e (hinj j i (hd1 j hj') hi q))]
        exact hF _ _ _ _ (hd2 j hj') hB'
  · rintro done t w ⟨f, rfl, hB, hd1, hd2⟩ hall
    have key : ∀ n i, i < n → i < l.length → done i = true := by
      intro n
      induction n with
      | zero => intro i hi; exact absurd hi (Nat.not_lt_zero _)
      | succ n ih =>
        intro i hi hil
        have ho : l.toArray[i]? = some (l[i]) := by simp [hil]
        exact hall i _ ho (fun e he hb => by
          have := backB_at hback ho e he hb
          exact ih e.on (by omega) (by omega))
    exact hdone f w hB (fun i hi => hd2 i (key (i + 1) i (by omega) hi))

theorem wpOp_runG {P : Program} {ops : Array Oper} {Q : Exit → Act → World → Prop} {i : Nat} {o : Oper} {K : Act → World → Prop} {t : Act} {w w' : World} {v : Value} (ho : ops[i]? = some o) (hg : Region.wanted o (yielded ops t.tmps) = true) (hrun : (execOp t.eval o).run P w = .ok (.value v) w') (h : K (t.put o.dst v) w') : wpOp P ops Q i K t w := by
  refine wpOp_step ho fun K' hK => ?_
  rw [if_pos hg]
  unfold Oper.wp
  rw [hrun]
  exact hK _ _ h
theorem wpOp_enterG {P : Program} {ops : Array Oper} {Q : Exit → Act → World → Prop} {i : Nat} {o : Oper} {K : Act → World → Prop} {t : Act} {w : World} {f : FuncId} {args : Array Value} (ho : ops[i]? = some o) (hg : Region.wanted o (yielded ops t.tmps) = true) (hrun : (execOp t.eval o).run P w = .ok (.enter f args) w) (h : Calls P f args w fun e w' => ∃ v, e = .returned v ∧ K (t.put o.dst v) w') : wpOp P ops Q i K t w := by
  refine wpOp_step ho fun K' hK => ?_
  rw [if_pos hg]
  unfold Oper.wp
  rw [hrun]
  refine Calls.mono h ?_
  rintro e w' ⟨v, rfl, hv⟩
  exact hK _ _ hv
theorem wanted_none {o : Oper} {y : Nat → Option Bool} (h : o.guard = none) : Region.wanted o y = true := by simp [Region.wanted, h]
/-- a guard that holds -/
theorem wanted_canon {ops : Array Oper} {o og : Oper} {a0 : Act} {ds : List Nat} {f : Nat → Value} {j d : Nat} {b : Bool} (h : o.guard = some (j, b)) (hj : ops[j]? = some og) (hd : og.dst = some d) (hds : d ∈ ds) (hs : d < a0.tmps.size) (hf : f d = .bool b) : Region.wanted o (yielded ops (canon a0 ds f).tmps) = true := by
  have hc := canon_get ds f d a0
  rw [if_pos ⟨hds, hs⟩] at hc
  simp [Region.wanted, h, yielded, hj, hd, hc, hf]

section
variable (ev : Operand → Value) (o : Oper) (w : World)
theorem q_move (x : Operand) (h : o.op = .move x) : (execOp ev o).run Try.prog w = .ok (.value (ev x)) w := by simp [execOp, h]
theorem q_assign (x : Operand) (h : o.op = .assign x) : (execOp ev o).run Try.prog w = .ok (.value (ev x)) w := by simp [execOp, h]
theorem q_call2 (f : FuncId) (he : ∀ args w, (callFunc f args).run Try.prog w = .ok (.enter f args) w) (x y : Operand) (ts : Array TypeId) (h : o.op = .call { callee := .value (.func f), args := #[x, y], argTypes := ts }) (hf : ev (.func f) = .func (.func f) #[] #[]) : (execOp ev o).run Try.prog w = .ok (.enter f #[ev x, ev y]) w := by
  simp [execOp, h, resolve, invoke, hf, Deferred.ofValue, he]
theorem q_call3 (f : FuncId) (he : ∀ args w, (callFunc f args).run Try.prog w = .ok (.enter f args) w) (x y z : Operand) (ts : Array TypeId) (h : o.op = .call { callee := .value (.func f), args := #[x, y, z], argTypes := ts }) (hf : ev (.func f) = .func (.func f) #[] #[]) : (execOp ev o).run Try.prog w = .ok (.enter f #[ev x, ev y, ev z]) w := by
  simp [execOp, h, resolve, invoke, hf, Deferred.ofValue, he]

theorem q_lit1 (c0 : Operand) (h : o.op = .buildSlice 37 1 #[(0, c0)]) (h0 : ev c0 = .int .i64 1) : (execOp ev o).run Try.prog w = .ok (.value (.slice (some ⟨w.heap.size, 0, none⟩) 1 1)) (w.alloc (.cells #[.int .i64 1] 2)) := by
  simp [execOp, h, h0]
  go_simp

theorem q_eql (x y : Operand) (p : Bool) (h : o.op = .binOp .eql 4 x y 4) (hx : ev x = .bool p) (hy : ev y = .bool p) : (execOp ev o).run Try.prog w = .ok (.value (.bool true)) w := by
  simp [execOp, h, hx, hy]
  go_simp
theorem q_pick (x y z : Operand) (h : o.op = .pick x y z) (hx : ev x = .bool true) : (execOp ev o).run Try.prog w = .ok (.value (ev y)) w := by
  simp [execOp, h, hx]
  go_simp
end
end Go.Proofs.Ytjfciokpnhnhbaa
