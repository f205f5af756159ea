/-
  A board: the map from who to the latest beat, and how a beat turns it. No condition.
-/
import Derived.Test.YtnjlegphohmajaaBtMs
import Derived.Test.YtnjlegphohmajaaIL
import Derived.Maps.OwnSet
import Derived.Maps.OwnOps
import Derived.Maps.Own
import Derived.Maps.Views
namespace Go.Proofs.Ytnjlegphohmajaa
open Go.RowKit Go.Maps
set_option linter.unusedVariables false

/-- elements of a map, as themselves -/
def VR : Value → Option (DataW Value × List MemPlace) := fun v => some (.held v, [])
def aggE (x : Ev) : Value := .agg #[.int .i64 x.a, .int .i64 x.b, .int .i64 x.c, .string x.d]
theorem zeroB (w : World) : (zeroValue 32).run Try.prog w = .ok (aggE evZ) w := by kernel_rfl
theorem lawI : Keyed Try.prog 2 := int_keyed Try.underlying2

/-- beats by rising who -/
def UpB (L : List Ev) : Prop := L.Pairwise fun x y => x.a < y.a
/-- the beat of one -/
def lookB (L : List Ev) (z : Int) : Option Ev := L.find? fun x => x.a == z
theorem lookB_cons (x : Ev) (l : List Ev) (z : Int) : lookB (x :: l) z = if x.a = z then some x else lookB l z := by
  unfold lookB
  rw [List.find?_cons]
  by_cases h : x.a = z
  · simp [h]
  · simp [h, beq_eq_false_iff_ne.2 h]
theorem lookB_out {L : List Ev} {z : Int} (h : ∀ x ∈ L, z < x.a) : lookB L z = none := by
  unfold lookB
  rw [List.find?_eq_none]
  intro x hx
  have := h x hx
  simp
  omega
theorem lookB_mem {L : List Ev} {z : Int} {x : Ev} (h : lookB L z = some x) : x ∈ L ∧ x.a = z := by
  unfold lookB at h
  have h1 := List.mem_of_find?_eq_some h
  have h2 := List.find?_some h
  exact ⟨h1, by simpa using h2⟩
theorem putB_mem (s : Ev) : ∀ (L : List Ev) (x : Ev), x ∈ putB L s → x = s ∨ x ∈ L
  | [], x, h => by simp [putB] at h; exact .inl h
  | y :: l, x, h => by
    unfold putB at h
    split at h
    · rcases List.mem_cons.1 h with rfl | h
      · exact .inr (List.mem_cons_self ..)
      · exact (putB_mem s l x h).imp id (List.mem_cons_of_mem _)
    · split at h
      · rcases List.mem_cons.1 h with rfl | h
        · unfold pick
          split
          · exact .inl rfl
          · exact .inr (List.mem_cons_self ..)
        · exact .inr (List.mem_cons_of_mem _ h)
      · rcases List.mem_cons.1 h with rfl | h
        · exact .inl rfl
        · exact .inr h
theorem pick_a (s y : Ev) (h : y.a = s.a) : (pick s y).a = s.a := by unfold pick; split <;> simp [h]
theorem putB_up (s : Ev) : ∀ L : List Ev, UpB L → UpB (putB L s)
  | [], _ => List.pairwise_singleton _ _
  | y :: l, h => by
    obtain ⟨h1, h2⟩ := List.pairwise_cons.1 h
    unfold putB
    split
    · rename_i hlt
      refine List.pairwise_cons.2 ⟨fun x hx => ?_, putB_up s l h2⟩
      rcases putB_mem s l x hx with rfl | hx
      · exact hlt
      · exact h1 x hx
    · split
      · rename_i _ he
        exact List.pairwise_cons.2 ⟨fun x hx => by rw [pick_a s y he]; have := h1 x hx; omega, h2⟩
      · rename_i hn he
        refine List.pairwise_cons.2 ⟨fun x hx => ?_, h⟩
        rcases List.mem_cons.1 hx with rfl | hx
        · omega
        · have := h1 x hx; omega
theorem lookB_put (s : Ev) (z : Int) : ∀ L : List Ev, UpB L → lookB (putB L s) z = if z = s.a then some (match lookB L z with | none => s | some y => pick s y) else lookB L z
  | [], _ => by
    show lookB [s] z = _
    rw [lookB_cons]
    by_cases h : z = s.a
    · subst h; simp [lookB]
    · rw [if_neg (fun e => h e.symm), if_neg h]
  | y :: l, h => by
    obtain ⟨h1, h2⟩ := List.pairwise_cons.1 h
    have ih := lookB_put s z l h2
    unfold putB
    split
    · rename_i hlt
      rw [lookB_cons, ih, lookB_cons]
      by_cases e : y.a = z
      · subst e
        rw [if_pos rfl, if_pos rfl, if_neg (by omega)]
      · rw [if_neg e, if_neg e]
    · split
      · rename_i _ he
        rw [lookB_cons, lookB_cons, pick_a s y he]
        by_cases e : z = s.a
        · subst e
          rw [if_pos rfl, if_pos rfl, if_pos he]
        · rw [if_neg (fun q => e q.symm), if_neg e, if_neg (fun q => e (by omega))]
      · rename_i hn he
        rw [lookB_cons]
        by_cases e : z = s.a
        · subst e
          rw [if_pos rfl, if_pos rfl]
          have : lookB (y :: l) s.a = none := lookB_out fun x hx => by
            rcases List.mem_cons.1 hx with rfl | hx
            · omega
            · have := h1 x hx; omega
          rw [this]
        · rw [if_neg (fun q => e q.symm), if_neg e]
theorem mgFrom_up {S : List Ev} (h : UpB S) (D : Nat → Ev) : ∀ k, UpB (mgFrom S D k)
  | 0 => h
  | k + 1 => putB_up _ _ (mgFrom_up h D k)
/-- rising beats are what their numbers lead to -/
theorem lookB_all : ∀ L : List Ev, UpB L → (L.map (·.a)).map (fun z => (lookB L z).getD evZ) = L
  | [], _ => rfl
  | x :: l, h => by
    obtain ⟨h1, h2⟩ := List.pairwise_cons.1 h
    have ih := lookB_all l h2
    rw [List.map_cons, List.map_cons, lookB_cons, if_pos rfl]
    congr 1
    conv => rhs; rw [← ih]
    rw [List.map_map, List.map_map]
    refine List.map_congr_left fun y hy => ?_
    show (lookB (x :: l) y.a).getD evZ = (lookB l y.a).getD evZ
    rw [lookB_cons, if_neg (by have := h1 y hy; omega)]
theorem lookB_some {L : List Ev} {z : Int} : (lookB L z).isSome = true ↔ z ∈ L.map (·.a) := by
  unfold lookB
  rw [List.find?_isSome, List.mem_map]
  constructor
  · rintro ⟨x, hx, h⟩; exact ⟨x, hx, by simpa using h⟩
  · rintro ⟨x, hx, h⟩; exact ⟨x, hx, by simpa using h⟩

/-- block B is a map that holds the beats L -/
structure Bd (w : World) (B c : Nat) (E : DataW Value) (L : List Ev) : Prop where
  own : w.ownsMap Try.prog 2 VR B c E
  atk : ∀ z d, E.atKey (.int .i64 z) d = (match lookB L z with | none => d | some x => .held (aggE x))
  hask : ∀ z, has E (.int .i64 z) = (lookB L z).isSome
  up : UpB L
theorem Bd.kept {w w' : World} {B c : Nat} {E : DataW Value} {L : List Ev} (h : Bd w B c E L) (he : w'.heap[B]? = w.heap[B]?) : Bd w' B c E L := by
  obtain ⟨es, clock, hb, F, hs, hD⟩ := h.own
  exact ⟨⟨es, clock, he.trans hb, F, hs, hD⟩, h.atk, h.hask, h.up⟩
theorem Bd.below {w w' : World} {B c : Nat} {E : DataW Value} {L : List Ev} (h : Bd w B c E L) (hB : Below w.heap.size w w') : Bd w' B c E L := h.kept (hB.block _ h.own.lt)
theorem Bd.new (w : World) : Bd (w.alloc (.map #[] 0)) w.heap.size 0 (.map []) [] :=
  ⟨World.ownsMap_made _ _ _ _, fun _ _ => rfl, fun _ => rfl, List.Pairwise.nil⟩
theorem keyI {z : Int} (hz : (Lit.int .i64 z).wf = true) : keyOf Try.prog 2 (.int .i64 z) = some (.int .i64 z) := keyOf_int_mk Try.underlying2 hz
theorem Bd.look {w : World} {B c : Nat} {E : DataW Value} {L : List Ev} (h : Bd w B c E L) {z : Int} (hz : (Lit.int .i64 z).wf = true) :
    (Instr.lookup 62 (.map (some B)) (.int .i64 z) false).run Try.prog w = .ok (aggE ((lookB L z).getD evZ)) w := by
  obtain ⟨v, ps, hrun, hv⟩ := h.own.lookup (e := 32) lawI Try.underlying62 (zeroB w) (zd := .held (aggE evZ)) (zp := []) rfl (keyI hz)
  rw [hrun]
  simp only [VR, Option.some.injEq, Prod.mk.injEq] at hv
  rw [h.atk] at hv
  cases hq : lookB L z with
  | none => rw [hq] at hv; have := hv.1; simp only [DataW.held.injEq] at this; rw [this]; rfl
  | some x => rw [hq] at hv; have := hv.1; simp only [DataW.held.injEq] at this; rw [this]; rfl
/-- a beat that is the later one is put in -/
theorem Bd.put {w w' : World} {B c : Nat} {E : DataW Value} {L : List Ev} {x : Ev} (h : Bd w B c E L) (hp : ∀ y, lookB L x.a = some y → later x y = true) (how : w'.ownsMap Try.prog 2 VR B (c + 1) (E.put (.int .i64 x.a) (.held (aggE x)))) : Bd w' B (c + 1) (E.put (.int .i64 x.a) (.held (aggE x))) (putB L x) := by
  have hl : ∀ z, lookB (putB L x) z = if z = x.a then some x else lookB L z := fun z => by
    rw [lookB_put x z L h.up]
    by_cases e : z = x.a
    · subst e
      rw [if_pos rfl, if_pos rfl]
      cases hq : lookB L x.a with
      | none => rfl
      | some y =>
        show some (pick x y) = some x
        unfold pick
        rw [if_pos (hp y hq)]
    · rw [if_neg e, if_neg e]
  refine ⟨how, fun z d => ?_, fun z => ?_, putB_up _ _ h.up⟩
  · rw [hl]
    by_cases e : z = x.a
    · subst e
      rw [atKey_put_same h.own.isMap (show WideAt.IsKeyLit (.int .i64 x.a) from trivial), if_pos rfl]
    · rw [atKey_put_other (by intro q; apply e; simpa using q), h.atk, if_neg e]
  · rw [hl]
    by_cases e : z = x.a
    · subst e
      rw [has_put_same h.own.isMap (show WideAt.IsKeyLit (.int .i64 x.a) from trivial), if_pos rfl]
      rfl
    · rw [has_put_other (by intro q; apply e; simpa using q), h.hask, if_neg e]
/-- a beat that is not the later one changes nothing -/
theorem Bd.same {w : World} {B c : Nat} {E : DataW Value} {L : List Ev} {x y : Ev} (h : Bd w B c E L) (hy : lookB L x.a = some y) (hp : later x y = false) : Bd w B c E (putB L x) := by
  have hl : ∀ z, lookB (putB L x) z = lookB L z := fun z => by
    rw [lookB_put x z L h.up]
    by_cases e : z = x.a
    · subst e
      rw [if_pos rfl, hy]
      show some (pick x y) = some y
      unfold pick
      rw [hp]; rfl
    · rw [if_neg e]
  exact ⟨h.own, fun z d => by rw [hl]; exact h.atk z d, fun z => by rw [hl]; exact h.hask z, putB_up _ _ h.up⟩
end Go.Proofs.Ytnjlegphohmajaa
