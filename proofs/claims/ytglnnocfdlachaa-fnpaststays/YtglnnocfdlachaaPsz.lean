/-
  As RegF, over any relation of worlds that holds from each world to itself and onwards: regions that draw their order and whose operations turn memory that nothing else reads. No condition.
  The law's comparison of two chains; the program's merging of nothing with an empty chain; what merging does. No condition.
  The laws' own questions of lists of numbers: is it among them, are both the same. No condition but that the slices read.
  A code that came in reads as bytes. No condition.
  Rosters, plainly: whom an administrator drops is no member behind it; without the events of those who do not administer all is as it was. No condition.
  Rosters, plainly: an event of a later epoch changes no earlier roster. No condition.
  The reader of codes draws a chain and an event: at most 6 events, in memory of its own; whatever event. Condition: the code reads as bytes.
-/
import Derived.Test.YtglnnocfdlachaaRegG
import Derived.Deep.Cut
import Derived.Test.YtglnnocfdlachaaDrawC
import Derived.Test.YtglnnocfdlachaaEVal
import Derived.Laws.AppendOwnNone
import Derived.Test.YtglnnocfdlachaaRsA
import Derived.Test.YtglnnocfdlachaaDrawE
import Derived.Test.YtglnnocfdlachaaEvOpen
import Derived.ProofKit
import Derived.OpenShut
import Derived.Deep.DeepHandedRow
import Derived.Test.YtglnnocfdlachaaIRLaw
import Derived.Test.YtglnnocfdlachaaIWith
import Derived.Test.YtglnnocfdlachaaSWq
namespace Go.Proofs.Ytglnnocfdlachaa
open Go.RowKit
set_option linter.unusedVariables false

theorem wp_cut_to {P : Program} {s : Code} {K : Act → World → Prop} {Q' : Exit → Act → World → Prop} {a : Act} {w : World} (R : Act → Act → World → Prop)
    (rest : ∀ a' w', R a a' w' → K a' w')
    (first : ∀ (J K' : Act → World → Prop), (∀ a' w', R a a' w' → J a' w') → (∀ a' w', Met J a' w' → K' a' w') → s.wp P (Exit.then K' Q') a w) : s.wp P (Exit.then K Q') a w := wp_cut (R a) rest first
theorem wp_region_rel {P : Program} {Rel : World → World → Prop} (rr : ∀ w, Rel w w) (rt : ∀ {a b c}, Rel a b → Rel b c → Rel a c) (rd : ∀ w, Rel w w.drew) {l : List Oper} {Q : Exit → Act → World → Prop} {id : Nat} {a0 : Act} {w0 : World} (hm : P.follows .mixedOrders = true) (hback : backB l = true) (ds : List Nat) (slot : Nat → Nat) (F : Nat → Value → World → Prop)
    (hF : ∀ j v w w', F j v w → Rel w w' → F j v w')
    (hds : ∀ i, i < l.length → slot i ∈ ds) (hinj : ∀ i j, i < l.length → j < l.length → slot i = slot j → i = j)
    (hstep : ∀ ops, ops = l.toArray → ∀ f w i o, Rel w0 w → ops[i]? = some o → (∀ e ∈ o.after, Region.binds .any e = true → F e.on (f (slot e.on)) w) → wpOp P ops Q i (fun a' w' => ∃ v, a' = (canon a0 ds f).put (some (slot i)) v ∧ F i v w' ∧ Rel w w') (canon a0 ds f) w)
    (hdone : ∀ f w, Rel w0 w → (∀ i, i < l.length → F i (f (slot i)) w) → Q .normal (canon a0 ds f) w) :
    (Code.region id l.toArray true).wp P Q a0 w0 := by
  have hlt : ∀ i o, l.toArray[i]? = some o → i < l.length := fun i o ho => by
    rcases Nat.lt_or_ge i l.length with h' | h'
    · exact h'
    · rw [Array.getElem?_eq_none (by simpa using h')] at ho; cases ho
  refine wp_region_inv (I := fun done t w => ∃ f, t = canon a0 ds f ∧ Rel w0 w ∧ (∀ j, done j = true → j < l.length) ∧ ∀ j, done j = true → F j (f (slot j)) w) hm ?_ ?_ ?_
  · exact ⟨fun d => a0.eval (.tmp d), (canon_self a0 ds).symm, rd _, (fun j h => by cases h), fun j h => by cases h⟩
  · rintro done t w ⟨f, rfl, hB, hd1, hd2⟩ i o ho hl hd
    have hi := hlt i o ho
    refine wpOp_mono ?_ (hstep _ rfl f w i o hB ho (fun e he hb => hd2 _ (hd e he hb)))
    rintro a' w' ⟨v, rfl, hv, hB'⟩
    refine ⟨fun x => if x = slot i then v else f x, canon_put a0 ds f (slot i) v (hds i hi), rt hB hB', fun j hj => ?_, fun j hj => ?_⟩
    · by_cases e : j = i
      · subst e; exact hi
      · exact hd1 j (by have : (j == i) = false := by simpa using e
                        simpa [this] using hj)
    · by_cases e : j = i
      · subst e
        show F j (if slot j = slot j then v else f (slot j)) w'
        rw [if_pos rfl]
        exact hv
      · have hj' : done j = true := by
          have : (j == i) = false := by simpa using e
          simpa [this] using hj
        show F j (if slot j = slot i then v else f (slot j)) w'
        rw [if_neg (fun q => e (hinj j i (hd1 j hj') hi q))]
        exact hF _ _ _ _ (hd2 j hj') hB'
  · rintro done t w ⟨f, rfl, hB, hd1, hd2⟩ hall
    have key : ∀ n i, i < n → i < l.length → done i = true := by
      intro n
      induction n with
      | zero => intro i hi; exact absurd hi (Nat.not_lt_zero _)
      | succ n ih =>
        intro i hi hil
        have ho : l.toArray[i]? = some (l[i]) := by simp [hil]
        exact hall i _ ho (fun e he hb => by
          have := backB_at hback ho e he hb
          exact ih e.on (by omega) (by omega))
    exact hdone f w hB (fun i hi => hd2 i (key (i + 1) i (by omega) hi))

end Go.Proofs.Ytglnnocfdlachaa

namespace Go.Proofs.Ytglnnocfdlachaa
open Go.RowKit Go.Sort Go.Shelf
set_option linter.unusedVariables false

set_option maxHeartbeats 1000000 in
theorem same_evs (a a' : Option Addr) (len cap cap' : Nat) (D : Nat → Ev) (w : World) (h : IsEvs w a len cap D) (h' : IsEvs w a' len cap' D) :
    Calls Try.prog 15 #[.slice a len cap, .slice a' len cap'] w fun e w' => e = .returned (.bool true) ∧ Below w.heap.size w w' := by
  obtain ⟨hlc, hcm, hc⟩ := h
  obtain ⟨hlc', hcm', hc'⟩ := h'
  have hbn : ((len : Int) != (len : Int)) = false := by simp
  go_enter Try.func15, Try.ntmps15
  go_wp2
  go_loopw [5] (fun i wr => ∃ (k : Nat), k ≤ len ∧ i = .int .i64 k ∧ Below w.heap.size w wr) (fun i _ => len - (intOf i).toNat)
  case atStart => exact ⟨0, Nat.zero_le _, rfl, Below.refl _ _⟩
  case round =>
    obtain ⟨k, hk, rfl, hB⟩ := hrel
    by_cases hlt : k < len
    · obtain ⟨b, off, rfl, hbs, hcell⟩ := hc (by omega)
      obtain ⟨b', off', rfl, hbs', hcell'⟩ := hc' (by omega)
      have m1 : EvAt wr b (off + k * 4) (D k) := (hcell k hlt).grow hbs hB
      have m2 : EvAt wr b' (off' + k * 4) (D k) := (hcell' k hlt).grow hbs' hB
      have hltI : (k : Int) < (len : Int) := by omega
      obtain ⟨c0, c1, c2, c3⟩ := m1
      obtain ⟨d0, d1, d2, d3⟩ := m2
      have hq := neqE (D k) (D k)
      have hg := fun x y => guardE .neq x y (D k) (D k)
      rw [Ev.same_refl] at hq
      clear hcell hcell' hc hc'
      go_wp2
      go_region
      go_wp2
      go_roundw
      case rel => exact ⟨k + 1, by omega, by go_num, hB.trans ((Below.refl _ _).drew)⟩
      case measure => simp [intOf]; omega
    · have hke : k = len := by omega
      subst hke
      clear hc hc'
      go_wp2
      go_ret
      exact ⟨rfl, hB⟩
theorem same_any (base base' : Nat) (v v' : Value) (L : List Ev) (w : World) (h : OwnV w base v L) (h' : OwnV w base' v' L) :
    Calls Try.prog 15 #[v, v'] w fun e w' => e = .returned (.bool true) ∧ Below w.heap.size w w' := by
  obtain ⟨a, cap, rfl, hI⟩ := h.evs
  obtain ⟨a', cap', rfl, hI'⟩ := h'.evs
  exact same_evs _ _ _ _ _ _ _ hI hI'

theorem putE_ge (s : Ev) : ∀ L : List Ev, L.length ≤ (putE L s).length
  | [] => by simp [putE]
  | x :: l => by
    unfold putE
    split
    · have := putE_ge s l; simp; omega
    · split <;> simp
theorem mergeE_ge (A : List Ev) : ∀ B : List Ev, A.length ≤ (mergeE A B).length := by
  intro B
  induction B generalizing A with
  | nil => exact Nat.le_refl _
  | cons x l ih => exact Nat.le_trans (putE_ge x A) (ih (putE A x))
theorem mergeE_comm {A B : List Ev} (hA : UpE A) (hB : UpE B) : mergeE A B = mergeE B A :=
  upE_unique (mergeE_up A hA B) (mergeE_up B hB A) (fun x => by rw [mergeE_mem, mergeE_mem]; exact or_comm)
theorem mergeE_again {A B : List Ev} (hA : UpE A) : mergeE (mergeE A B) A = mergeE A B :=
  upE_unique (mergeE_up _ (mergeE_up A hA B) A) (mergeE_up A hA B) (fun x => by rw [mergeE_mem, mergeE_mem]; exact ⟨fun h => h.elim id Or.inl, Or.inl⟩)
theorem mergeE_self {A : List Ev} (hA : UpE A) : mergeE A A = A :=
  upE_unique (mergeE_up A hA A) hA (fun x => by rw [mergeE_mem]; exact ⟨fun h => h.elim id id, Or.inl⟩)
theorem mergedB_comm (A B : List Ev) : mergedB B A = mergedB A B := by
  unfold mergedB
  cases hA : chainL A <;> cases hB : chainL B <;> try rfl
  rw [mergeE_comm (chainL_up hA) (chainL_up hB)]
theorem mergedB_parts {A B : List Ev} (h : mergedB A B = true) : chainL A = true ∧ chainL B = true ∧ chainL (mergeE A B) = true := by
  unfold mergedB at h
  simpa using h
theorem mergedB_again {A B : List Ev} (h : mergedB A B = true) : mergedB (mergeE A B) A = true := by
  obtain ⟨h1, h2, h3⟩ := mergedB_parts h
  unfold mergedB
  rw [mergeE_again (chainL_up h1), h1, h3]
  rfl
theorem mergedB_self {A : List Ev} (h : chainL A = true) : mergedB A A = true := by
  unfold mergedB
  rw [mergeE_self (chainL_up h), h]
  rfl
/-- the list that a merging answers -/
def resM (A B : List Ev) : List Ev := if mergedB A B = true then mergeE A B else []
theorem GaveV.res {w : World} {base : Nat} {A B : List Ev} {v : Value} (h : GaveV w base (mergedB A B) (mergeE A B) v) : OwnV w base v (resM A B) := by
  unfold resM
  rcases h with ⟨h, rfl⟩ | ⟨h, ho⟩
  · rw [h]; exact OwnV.nil _ _
  · rw [h]; exact ho
theorem resM_comm (A B : List Ev) : resM B A = resM A B := by
  unfold resM
  rw [mergedB_comm]
  split
  · rename_i h
    obtain ⟨h1, h2, _⟩ := mergedB_parts h
    exact (mergeE_comm (chainL_up h1) (chainL_up h2)).symm
  · rfl
end Go.Proofs.Ytglnnocfdlachaa

namespace Go.Proofs.Ytglnnocfdlachaa
open Go.RowKit
set_option linter.unusedVariables false

set_option maxHeartbeats 1000000 in
theorem hasInt_any (v : Value) (L : List Int) (n : Int) (w : World) (h : RdI w v L) :
    Calls Try.prog 19 #[v, .int .i64 n] w fun e w' => e = .returned (.bool (hasI L n)) ∧ w' = w := by
  obtain ⟨a, cap, rfl, hlc, hcm, hc⟩ := h
  obtain ⟨m, hm⟩ : ∃ m, m = L.length := ⟨_, rfl⟩
  have HM : Hid (m = L.length) := hm
  rw [← hm] at hlc hc ⊢
  clear hm
  go_enter Try.func19, Try.ntmps19
  go_wp2
  go_loopw [5] (fun i wr => ∃ (k : Nat), k ≤ m ∧ i = .int .i64 k ∧ Hid (∀ j, j < k → (L.getD j 0 == n) = false) ∧ wr = w) (fun i _ => m - (intOf i).toNat)
  case atStart => exact ⟨0, Nat.zero_le _, rfl, fun j hj => absurd hj (Nat.not_lt_zero _), rfl⟩
  case round =>
    obtain ⟨k, hk, rfl, HA, rfl⟩ := hrel
    by_cases hlt : k < m
    · obtain ⟨b, off, rfl, hbs, hcell⟩ := hc (by omega)
      have hck := hcell k hlt
      have hltI : (k : Int) < (m : Int) := by omega
      obtain ⟨y, hy⟩ : ∃ y, y = L.getD k 0 := ⟨_, rfl⟩
      rw [← hy] at hck
      have HY : Hid (y = L.getD k 0) := hy
      clear hy hcell hc
      cases hq : (y == n) with
      | true =>
        have hr : hasI L n = true := hasI_yes (k := k) (by rw [← HM.out]; exact hlt) (by rw [← HY.out]; exact hq)
        go_wp2
        go_ret
        exact ⟨ret_bool hr.symm, rfl⟩
      | false =>
        go_wp2
        go_roundw
        case rel =>
          refine ⟨k + 1, by omega, by go_num, fun j hj => ?_, trivial⟩
          rcases Nat.lt_succ_iff_lt_or_eq.1 hj with h1 | rfl
          · exact HA.out j h1
          · rw [← HY.out]; exact hq
        case measure => simp [intOf]; omega
    · have hke : k = m := by omega
      subst hke
      have hr : hasI L n = false := hasI_no (fun j hj => HA.out j (by rw [HM.out]; exact hj))
      clear hc
      go_wp2
      go_ret
      exact ⟨ret_bool hr.symm, rfl⟩

set_option maxHeartbeats 1000000 in
theorem sameI_same (v v' : Value) (L : List Int) (w : World) (h : RdI w v L) (h' : RdI w v' L) :
    Calls Try.prog 17 #[v, v'] w fun e w' => e = .returned (.bool true) ∧ Below w.heap.size w w' := by
  obtain ⟨a, cap, rfl, hlc, hcm, hc⟩ := h
  obtain ⟨a', cap', rfl, hlc', hcm', hc'⟩ := h'
  obtain ⟨len, hlen⟩ : ∃ len, len = L.length := ⟨_, rfl⟩
  rw [← hlen] at hlc hlc' hc hc' ⊢
  clear hlen
  have hbn : ((len : Int) != (len : Int)) = false := by simp
  go_enter Try.func17, Try.ntmps17
  go_wp2
  go_loopw [5] (fun i wr => ∃ (k : Nat), k ≤ len ∧ i = .int .i64 k ∧ Below w.heap.size w wr)
    (fun i _ => len - (intOf i).toNat)
  case atStart => exact ⟨0, Nat.zero_le _, rfl, Below.refl _ _⟩
  case round =>
    obtain ⟨k, hk, rfl, hB⟩ := hrel
    by_cases hlt : k < len
    · obtain ⟨b, off, rfl, hbs, hcell⟩ := hc (by omega)
      obtain ⟨b', off', rfl, hbs', hcell'⟩ := hc' (by omega)
      have d1 := (hB.cell (p := ⟨b, off + k, none⟩) hbs).trans (hcell k hlt)
      have d1' := (hB.cell (p := ⟨b', off' + k, none⟩) hbs').trans (hcell' k hlt)
      obtain ⟨z, hz⟩ : ∃ z, z = L.getD k 0 := ⟨_, rfl⟩
      rw [← hz] at d1 d1'
      have hss : (z != z) = false := by simp
      clear hcell hc hcell' hc' hz
      go_wp2
      go_quiet (fail)
      go_wp2
      go_roundw
      case rel => exact ⟨k + 1, by omega, by go_num, hB.trans ⟨rfl, rfl, rfl, Nat.le_refl _, fun _ _ => rfl⟩⟩
      case measure => simp [intOf]; omega
    · have hke : k = len := by omega
      subst hke
      go_wp2
      go_ret
      exact ⟨rfl, hB⟩

end Go.Proofs.Ytglnnocfdlachaa

namespace Go.Proofs.Ytglnnocfdlachaa
open Go.ChangeShapes Go.WideShapes Go.ChangeAt Go.RowKit Go.Deep
set_option linter.unusedVariables false

theorem cellsU8 : Try.prog.cellsOf 5 = 1 := by kernel_rfl

/-- a slice of bytes that came in reads as bytes -/
theorem open_u8 {H : Type} {enc : TypeId × Value → H} {W : World} {n : Nat} {v : Value} {x : DataW H × List MemPlace} (h : DataW.trod enc Try.prog W 0 (fun _ => true) true n 35 [v] = some x) :
    ∃ a len cap Z, v = .slice a len cap ∧ IsU8 W a len cap Z := by
  rcases open_ints Try.underlying35 Try.underlying5 cellsU8 h with ⟨hcs, _⟩ | ⟨a, l, c, zs, hcs, _, hl, hm, hz, _, hcell, hwz⟩
  · simp at hcs
    exact ⟨none, 0, 0, fun _ => 0, hcs, Nat.le_refl _, by omega, fun _ => by simp, fun h => absurd h (by omega)⟩
  · simp at hcs
    have hrg : ∀ i, 0 ≤ zs.getD i 0 ∧ zs.getD i 0 ≤ 255 := by
      intro i
      by_cases hi : i < zs.length
      · have hw := hwz (zs.getD i 0) (by simp [List.getD, List.getElem?_eq_getElem hi])
        simpa [Lit.wf, IntKind.min, IntKind.max, IntKind.signed, IntKind.bits] using hw
      · rw [List.getD, List.getElem?_eq_none (by omega)]
        simp
    refine ⟨some a, l, c, fun i => zs.getD i 0, hcs, hl, by unfold maxLen at hm; omega, hrg, fun hp => ?_⟩
    obtain ⟨b, off, spot⟩ := a
    have hc0 := hcell 0 (by simp at hz; omega)
    have hspot : spot = none := by simpa [Addr.add] using World.cell?_spot hc0
    subst hspot
    refine ⟨b, off, rfl, ?_, fun i hi => ?_⟩
    · rcases Nat.lt_or_ge b W.heap.size with h' | h'
      · exact h'
      · simp [Addr.add, World.cell?, Array.getElem?_eq_none h'] at hc0
    · have := hcell i (by simp at hz; omega)
      rw [add_plain] at this
      exact this

end Go.Proofs.Ytglnnocfdlachaa

namespace Go.Proofs.Ytglnnocfdlachaa
open Go.RowKit
set_option linter.unusedVariables false

theorem resR_yes {D : Nat → Ev} {len : Nat} {e : Int} (h : rosB D len e = true) : resR D len e = rosterL D len e.toNat := by unfold resR; rw [h]; rfl
theorem rosB_parts {D : Nat → Ev} {len : Nat} {e : Int} (h : rosB D len e = true) : chainB D len = true ∧ 0 ≤ e ∧ e ≤ 20 := by
  unfold rosB inB at h
  simp only [Bool.and_eq_true, decide_eq_true_eq] at h
  exact ⟨h.1, h.2.1, h.2.2⟩
theorem rosB_mk {D : Nat → Ev} {len : Nat} {e : Int} (h : chainB D len = true) (h0 : 0 ≤ e) (h1 : e ≤ 20) : rosB D len e = true := by
  unfold rosB inB
  rw [h]
  simp [h0, h1]
theorem fine_rng {x : Ev} (h : x.fine = true) : 1 ≤ x.a ∧ x.a ≤ 20 := by
  unfold Ev.fine inB at h
  simp at h
  omega

/-- whom one who administers drops is gone -/
theorem drop_out {D : Nat → Ev} {len : Nat} {e : Int} {mem adm : List Int} (hf : ∀ j, j < len → (D j).fine = true) (hm : Ros mem) (ha : Ros adm) {j : Nat} (hj : j < len) (h1 : (D j).a = e) (h2 : (D j).c = 2) (h3 : hasI adm (D j).b = true) :
    hasI (epochL D len e (mem, adm)).1 (D j).d = false ∧ hasI (epochL D len e (mem, adm)).2 (D j).d = false := by
  have hG : (D j).d ∈ goneTo D e adm len := (goneTo_mem D e adm _ len hf).2 ⟨j, hj, by unfold isDrop; simp [h1, h2, h3], rfl⟩
  have hGb : hasI (goneTo D e adm len) (D j).d = true := (hasI_iff _ _).2 hG
  constructor
  · cases hq : hasI (epochL D len e (mem, adm)).1 (D j).d with
    | false => rfl
    | true =>
      have := (hasI_iff _ _).1 hq
      rcases (memTo_mem D e _ _ _ _ (outTo_ros _ hm _) _ len hf).1 this with q | ⟨i, _, q, hd⟩
      · exact absurd hG ((outTo_all _ _ _).1 q).2
      · unfold isAdd at q
        rw [hd, hGb] at q
        simp at q
  · cases hq : hasI (epochL D len e (mem, adm)).2 (D j).d with
    | false => rfl
    | true =>
      have := (hasI_iff _ _).1 hq
      rcases (admTo_mem D e _ _ (outTo_ros _ ha _) _ len hf).1 this with q | ⟨i, _, q, hd⟩
      · exact absurd hG ((outTo_all _ _ _).1 q).2
      · unfold isRaise at q
        rw [hd, hGb] at q
        simp at q
theorem drop_res {D : Nat → Ev} {len : Nat} {e : Int} (hr : rosB D len e = true) (he : 1 ≤ e) {j : Nat} (hj : j < len) (h1 : (D j).a = e) (h2 : (D j).c = 2) (h3 : hasI (resR D len (e - 1)).2 (D j).b = true) :
    hasI (resR D len e).1 (D j).d = false ∧ hasI (resR D len e).2 (D j).d = false := by
  obtain ⟨hc, h0, h20⟩ := rosB_parts hr
  have hr' : rosB D len (e - 1) = true := rosB_mk hc (by omega) (by omega)
  rw [resR_yes hr'] at h3
  rw [resR_yes hr]
  have hk : e.toNat = (e - 1).toNat + 1 := by omega
  have hst : rosterL D len e.toNat = epochL D len e (rosterL D len (e - 1).toNat) := by
    rw [hk]
    show epochL D len (((e - 1).toNat + 1 : Nat) : Int) _ = _
    rw [show ((((e - 1).toNat + 1 : Nat) : Int)) = e by omega]
  rw [hst]
  exact drop_out (chainB_fine hc) (rosterL_ros D len _).1 (rosterL_ros D len _).2 hj h1 h2 h3

theorem aheadR_trans {x y z : Ev} (h1 : ahead x y = true) (h2 : ahead y z = true) : ahead x z = true := by
  unfold ahead at *
  split at h1 <;> split at h2 <;> try split at h1
  all_goals (try split at h1)
  all_goals (try split at h2)
  all_goals (try split at h2)
  all_goals simp only [decide_eq_true_eq] at h1 h2
  all_goals repeat (split)
  all_goals simp only [decide_eq_true_eq]
  all_goals omega
theorem chainB_ahead {D : Nat → Ev} {len : Nat} (h : chainB D len = true) : ∀ d i, i + d + 1 < len → ahead (D i) (D (i + d + 1)) = true := by
  have at1 : ∀ i, i + 1 < len → ahead (D i) (D (i + 1)) = true := fun i hi => by
    unfold chainB at h
    simp only [Bool.and_eq_true] at h
    have h1 := allB_at h.2 hi
    unfold okAt at h1
    simp only [Bool.and_eq_true] at h1
    simpa using h1.2
  intro d
  induction d with
  | zero => intro i hi; exact at1 i hi
  | succ d ih => intro i hi; exact aheadR_trans (ih i (by omega)) (at1 (i + d + 1) (by omega))
theorem allB_mk {p : Nat → Bool} : ∀ n, (∀ i, i < n → p i = true) → allB p n = true
  | 0, _ => rfl
  | n + 1, h => by rw [allB_succ, allB_mk n (fun i hi => h i (by omega)), h n (by omega)]; rfl

section
variable (D : Nat → Ev) (len : Nat)
/-- who tells it administers ahead of its epoch -/
def keepB (x : Ev) : Bool := hasI (resR D len (x.a - 1)).2 x.b
/-- of the first k events those told by who administers -/
def slimTo : Nat → List Ev
  | 0 => []
  | k + 1 => if keepB D len (D k) = true then slimTo k ++ [D k] else slimTo k
theorem slimTo_yes {k : Nat} (h : keepB D len (D k) = true) : slimTo D len (k + 1) = slimTo D len k ++ [D k] := by rw [slimTo, if_pos h]
theorem slimTo_no {k : Nat} (h : keepB D len (D k) = false) : slimTo D len (k + 1) = slimTo D len k := by rw [slimTo, if_neg (by rw [h]; decide)]
theorem slimTo_len : ∀ k, (slimTo D len k).length ≤ k
  | 0 => Nat.le_refl _
  | k + 1 => by
    have := slimTo_len k
    unfold slimTo
    split
    · simp; omega
    · omega
theorem slimTo_mem (x : Ev) : ∀ k, x ∈ slimTo D len k ↔ ∃ j, j < k ∧ D j = x ∧ keepB D len x = true
  | 0 => by simp [slimTo]
  | k + 1 => by
    have ih := slimTo_mem x k
    unfold slimTo
    by_cases hc : keepB D len (D k) = true
    · rw [if_pos hc, List.mem_append, ih, List.mem_singleton]
      constructor
      · rintro (⟨j, hj, h1, h2⟩ | rfl)
        · exact ⟨j, by omega, h1, h2⟩
        · exact ⟨k, by omega, rfl, hc⟩
      · rintro ⟨j, hj, h1, h2⟩
        by_cases ej : j = k
        · subst ej; exact .inr h1.symm
        · exact .inl ⟨j, by omega, h1, h2⟩
    · rw [if_neg hc, ih]
      constructor
      · rintro ⟨j, hj, h1, h2⟩; exact ⟨j, by omega, h1, h2⟩
      · rintro ⟨j, hj, h1, h2⟩
        have ej : j ≠ k := fun h => by subst h; rw [h1] at hc; exact hc h2
        exact ⟨j, by omega, h1, h2⟩
theorem slimTo_up (h : chainB D len = true) : ∀ k, k ≤ len → (slimTo D len k).Pairwise (fun x y => ahead x y = true)
  | 0, _ => List.Pairwise.nil
  | k + 1, hk => by
    have ih := slimTo_up h k (by omega)
    unfold slimTo
    split
    · rw [List.pairwise_append]
      refine ⟨ih, List.pairwise_singleton _ _, fun x hx y hy => ?_⟩
      rw [List.mem_singleton] at hy
      subst hy
      obtain ⟨j, hj, rfl, _⟩ := (slimTo_mem D len x k).1 hx
      have := chainB_ahead h (k - j - 1) j (by omega)
      rwa [show j + (k - j - 1) + 1 = k by omega] at this
    · exact ih
theorem slim_chain (h : chainB D len = true) : chainB (fun i => (slimTo D len len).getD i evZ) (slimTo D len len).length = true := by
  have hl := slimTo_len D len len
  have h30 := chainB_len h
  have hu := slimTo_up D len h len (Nat.le_refl _)
  unfold chainB
  rw [decide_eq_true (show (slimTo D len len).length ≤ 30 by omega), Bool.true_and]
  refine allB_mk _ fun i hi => ?_
  unfold okAt
  have hm : (slimTo D len len).getD i evZ ∈ slimTo D len len := by simp [hi]
  obtain ⟨j, hj, e, _⟩ := (slimTo_mem D len _ len).1 hm
  show (((slimTo D len len).getD i evZ).fine && (i == 0 || ahead ((slimTo D len len).getD (i - 1) evZ) ((slimTo D len len).getD i evZ))) = true
  have hfi : ((slimTo D len len).getD i evZ).fine = true := by rw [← e]; exact chainB_fine h j hj
  rw [hfi, Bool.true_and]
  by_cases h0 : i = 0
  · subst h0; rfl
  · have := (List.pairwise_iff_getElem.1 hu) (i - 1) i (by omega) hi (by omega)
    simp [List.getD_eq_getElem?_getD, hi, show i - 1 < (slimTo D len len).length by omega, this]
theorem slim_ex (P : Ev → Prop) : (∃ j, j < (slimTo D len len).length ∧ P ((slimTo D len len).getD j evZ)) ↔ ∃ j, j < len ∧ keepB D len (D j) = true ∧ P (D j) := by
  constructor
  · rintro ⟨k, hk, hp⟩
    have hm : (slimTo D len len).getD k evZ ∈ slimTo D len len := by simp [hk]
    obtain ⟨j, hj, h1, h2⟩ := (slimTo_mem D len _ len).1 hm
    exact ⟨j, hj, by rw [h1]; exact h2, by rw [h1]; exact hp⟩
  · rintro ⟨j, hj, h1, hp⟩
    obtain ⟨k, hk, e'⟩ := List.getElem_of_mem ((slimTo_mem D len (D j) len).2 ⟨j, hj, rfl, h1⟩)
    refine ⟨k, hk, ?_⟩
    have : (slimTo D len len).getD k evZ = D j := by simp [hk, e']
    rw [this]
    exact hp
theorem slim_epoch (hc : chainB D len = true) (k : Nat) (hk : k ≤ 20) : epochL (fun i => (slimTo D len len).getD i evZ) (slimTo D len len).length ((k + 1 : Nat) : Int) (rosterL D len k) = epochL D len ((k + 1 : Nat) : Int) (rosterL D len k) := by
  obtain ⟨⟨mem, adm⟩, hr⟩ : ∃ r, rosterL D len k = r := ⟨_, rfl⟩
  rw [hr]
  have hrm : Ros mem := by have := (rosterL_ros D len k).1; rw [hr] at this; exact this
  have hra : Ros adm := by have := (rosterL_ros D len k).2; rw [hr] at this; exact this
  have hfD := chainB_fine hc
  have hfS := chainB_fine (slim_chain D len hc)
  have hkeep : ∀ x : Ev, x.a = ((k + 1 : Nat) : Int) → (keepB D len x = true ↔ x.b ∈ adm) := fun x hx => by
    unfold keepB
    rw [hx, resR_yes (rosB_mk hc (by omega) (by omega)), show ((((k + 1 : Nat) : Int) - 1)).toNat = k by omega, hr, hasI_iff]
  generalize ((k + 1 : Nat) : Int) = e at hkeep ⊢
  have hG : goneTo (fun i => (slimTo D len len).getD i evZ) e adm (slimTo D len len).length = goneTo D e adm len := by
    refine Ros.unique (goneTo_ros _ _ _ _) (goneTo_ros _ _ _ _) fun x => ?_
    rw [goneTo_mem _ e adm x _ hfS, goneTo_mem D e adm x len hfD, slim_ex D len (fun y => isDrop e adm y = true ∧ y.d = x)]
    refine exists_congr fun j => and_congr Iff.rfl ⟨fun h => h.2, fun h => ⟨?_, h⟩⟩
    have h1 := h.1
    unfold isDrop at h1
    simp only [Bool.and_eq_true, beq_iff_eq] at h1
    exact (hkeep _ h1.1).2 ((hasI_iff _ _).1 h1.2.2)
  unfold epochL
  simp only
  rw [hG]
  refine Prod.ext ?_ ?_
  · refine Ros.unique (memTo_ros _ _ _ _ _ (outTo_ros _ hrm _) _) (memTo_ros _ _ _ _ _ (outTo_ros _ hrm _) _) fun x => ?_
    rw [memTo_mem _ e _ _ _ _ (outTo_ros _ hrm _) x _ hfS, memTo_mem D e _ _ _ _ (outTo_ros _ hrm _) x len hfD, slim_ex D len (fun y => isAdd e adm _ _ y = true ∧ y.d = x)]
    refine or_congr Iff.rfl (exists_congr fun j => and_congr Iff.rfl ⟨fun h => h.2, fun h => ⟨?_, h⟩⟩)
    have h1 := h.1
    unfold isAdd at h1
    simp only [Bool.and_eq_true, beq_iff_eq] at h1
    exact (hkeep _ h1.1).2 ((hasI_iff _ _).1 h1.2.2.2.1)
  · refine Ros.unique (admTo_ros _ _ _ (outTo_ros _ hra _) _) (admTo_ros _ _ _ (outTo_ros _ hra _) _) fun x => ?_
    rw [admTo_mem _ e _ _ (outTo_ros _ hra _) x _ hfS, admTo_mem D e _ _ (outTo_ros _ hra _) x len hfD, slim_ex D len (fun y => isRaise e _ _ y = true ∧ y.d = x)]
    refine or_congr Iff.rfl (exists_congr fun j => and_congr Iff.rfl ⟨fun h => h.2, fun h => ⟨?_, h⟩⟩)
    have h1 := h.1
    unfold isRaise at h1
    simp only [Bool.and_eq_true, beq_iff_eq] at h1
    exact (hkeep _ h1.1).2 ((outTo_all _ _ _).1 ((hasI_iff _ _).1 h1.2.2.1)).1
theorem slim_roster (hc : chainB D len = true) : ∀ k, k ≤ 20 → rosterL (fun i => (slimTo D len len).getD i evZ) (slimTo D len len).length k = rosterL D len k
  | 0, _ => rfl
  | k + 1, hk => by
    have ih := slim_roster hc k (by omega)
    show epochL _ _ _ (rosterL _ _ k) = epochL _ _ _ (rosterL D len k)
    rw [ih]
    exact slim_epoch D len hc k (by omega)
theorem slim_res {e : Int} (hr : rosB D len e = true) : rosB (fun i => (slimTo D len len).getD i evZ) (slimTo D len len).length e = true ∧ resR (fun i => (slimTo D len len).getD i evZ) (slimTo D len len).length e = resR D len e := by
  obtain ⟨hc, h0, h1⟩ := rosB_parts hr
  have hs := rosB_mk (slim_chain D len hc) h0 h1
  refine ⟨hs, ?_⟩
  rw [resR_yes hs, resR_yes hr]
  exact slim_roster D len hc _ (by omega)
end
end Go.Proofs.Ytglnnocfdlachaa

namespace Go.Proofs.Ytglnnocfdlachaa
open Go.RowKit
set_option linter.unusedVariables false

theorem epoch_congr {D D' : Nat → Ev} {len len' K : Nat} (hf : ∀ j, j < len → (D j).fine = true) (hf' : ∀ j, j < len' → (D' j).fine = true)
    (hs : ∀ P : Ev → Prop, (∀ y, P y → y.a ≤ (K : Int)) → ((∃ j, j < len' ∧ P (D' j)) ↔ ∃ j, j < len ∧ P (D j))) (e : Int) (he : e ≤ (K : Int)) (r : List Int × List Int) (hrm : Ros r.1) (hra : Ros r.2) : epochL D' len' e r = epochL D len e r := by
  obtain ⟨mem, adm⟩ := r
  have hG : goneTo D' e adm len' = goneTo D e adm len := by
    refine Ros.unique (goneTo_ros _ _ _ _) (goneTo_ros _ _ _ _) fun x => ?_
    rw [goneTo_mem _ e adm x _ hf', goneTo_mem D e adm x len hf]
    refine hs (fun y => isDrop e adm y = true ∧ y.d = x) fun y h => ?_
    have h1 := h.1
    unfold isDrop at h1
    simp only [Bool.and_eq_true, beq_iff_eq] at h1
    rw [h1.1]; exact he
  unfold epochL
  simp only
  rw [hG]
  refine Prod.ext ?_ ?_
  · refine Ros.unique (memTo_ros _ _ _ _ _ (outTo_ros _ hrm _) _) (memTo_ros _ _ _ _ _ (outTo_ros _ hrm _) _) fun x => ?_
    rw [memTo_mem _ e _ _ _ _ (outTo_ros _ hrm _) x _ hf', memTo_mem D e _ _ _ _ (outTo_ros _ hrm _) x len hf]
    refine or_congr Iff.rfl (hs (fun y => isAdd e adm _ _ y = true ∧ y.d = x) fun y h => ?_)
    have h1 := h.1
    unfold isAdd at h1
    simp only [Bool.and_eq_true, beq_iff_eq] at h1
    rw [h1.1]; exact he
  · refine Ros.unique (admTo_ros _ _ _ (outTo_ros _ hra _) _) (admTo_ros _ _ _ (outTo_ros _ hra _) _) fun x => ?_
    rw [admTo_mem _ e _ _ (outTo_ros _ hra _) x _ hf', admTo_mem D e _ _ (outTo_ros _ hra _) x len hf]
    refine or_congr Iff.rfl (hs (fun y => isRaise e _ _ y = true ∧ y.d = x) fun y h => ?_)
    have h1 := h.1
    unfold isRaise at h1
    simp only [Bool.and_eq_true, beq_iff_eq] at h1
    rw [h1.1]; exact he
theorem roster_congr {D D' : Nat → Ev} {len len' K : Nat} (hf : ∀ j, j < len → (D j).fine = true) (hf' : ∀ j, j < len' → (D' j).fine = true)
    (hs : ∀ P : Ev → Prop, (∀ y, P y → y.a ≤ (K : Int)) → ((∃ j, j < len' ∧ P (D' j)) ↔ ∃ j, j < len ∧ P (D j))) : ∀ k, k ≤ K → rosterL D' len' k = rosterL D len k
  | 0, _ => rfl
  | k + 1, hk => by
    have ih := roster_congr hf hf' hs k (by omega)
    show epochL _ _ _ (rosterL _ _ k) = epochL _ _ _ (rosterL D len k)
    rw [ih]
    exact epoch_congr hf hf' hs _ (by omega) _ (rosterL_ros D len k).1 (rosterL_ros D len k).2
theorem put_ex (A : List Ev) (x : Ev) (P : Ev → Prop) (hx : ¬ P x) : (∃ j, j < (putE A x).length ∧ P ((putE A x).getD j evZ)) ↔ ∃ j, j < A.length ∧ P (A.getD j evZ) := by
  constructor
  · rintro ⟨j, hj, hp⟩
    have hm : (putE A x).getD j evZ ∈ putE A x := by simp [hj]
    rcases (putE_mem x _ A).1 hm with h | h
    · obtain ⟨k, hk, e⟩ := List.getElem_of_mem h
      exact ⟨k, hk, by rw [show A.getD k evZ = (putE A x).getD j evZ by simp only [List.getD_eq_getElem?_getD, List.getElem?_eq_getElem hk, Option.getD_some]; exact e]; exact hp⟩
    · rw [h] at hp; exact absurd hp hx
  · rintro ⟨j, hj, hp⟩
    have hm : A.getD j evZ ∈ A := by simp [hj]
    obtain ⟨k, hk, e⟩ := List.getElem_of_mem ((putE_mem x _ A).2 (.inl hm))
    exact ⟨k, hk, by rw [show (putE A x).getD k evZ = A.getD j evZ by simp only [List.getD_eq_getElem?_getD, List.getElem?_eq_getElem hk, Option.getD_some]; simpa using e]; exact hp⟩
theorem withB_parts {A : List Ev} {x : Ev} (h : withB A x = true) : chainL A = true ∧ x.fine = true ∧ admB A x = true ∧ chainL (putE A x) = true := by
  unfold withB at h
  simp only [Bool.and_eq_true] at h
  exact ⟨h.1, h.2.1, h.2.2.2.1, h.2.2.2.2⟩
/-- ahead of its epoch an event changes nothing -/
theorem past_res {A : List Ev} {x : Ev} (h : withB A x = true) (k : Nat) (hk : (k : Int) < x.a) :
    rosB (fun i => A.getD i evZ) A.length k = true ∧ rosB (fun i => (putE A x).getD i evZ) (putE A x).length k = true ∧ resR (fun i => (putE A x).getD i evZ) (putE A x).length k = resR (fun i => A.getD i evZ) A.length k := by
  obtain ⟨h1, h2, h3, h4⟩ := withB_parts h
  have hx := fine_rng h2
  have r1 : rosB (fun i => A.getD i evZ) A.length k = true := rosB_mk h1 (by omega) (by omega)
  have r2 : rosB (fun i => (putE A x).getD i evZ) (putE A x).length k = true := rosB_mk h4 (by omega) (by omega)
  refine ⟨r1, r2, ?_⟩
  rw [resR_yes r1, resR_yes r2]
  refine roster_congr (K := k) (chainB_fine h1) (chainB_fine h4) (fun P hP => put_ex A x P (fun hx' => by have := hP x hx'; omega)) _ (by omega)
end Go.Proofs.Ytglnnocfdlachaa

namespace Go.Proofs.Ytglnnocfdlachaa
open Go.RowKit Go.Shelf
set_option linter.unusedVariables false

theorem results_tmp_row {P : Program} {fn : Func} {p u : Tmp} {ty : TypeId} (h : fn.results = #[.tmp u, .cell p ty]) (tmps : Array Value) (w : World) (g : Nat) (t : TypeId) (cs : Array Value) (fr : Nat × Nat) (d : TypeDesc)
    (hp : tmps.getD p undef = .pointer (some ⟨g, 0, none⟩)) (hg : w.heap[g]? = some (.cells cs t fr))
    (hu : P.underlying ty = some d) (hd : (match d with | .struct _ | .array _ _ => true | _ => false) = true) (hi : (P.info? ty).map (·.size) = some cs.size) :
    (results fn tmps).run P w = .ok (.tuple #[tmps.getD u undef, .agg cs]) w := by
  have hp' : tmps[p]?.getD undef = .pointer (some ⟨g, 0, none⟩) := by simpa using hp
  simp [results, h, hp', asAddr, run_loadVar_row w g t ty cs fr d hg hu hd hi]
theorem put_same (a0 : Act) (ds : List Nat) (f : Nat → Value) (d : Nat) (hd : d ∈ ds) : (canon a0 ds f).put (some d) (f d) = canon a0 ds f := by
  rw [canon_put a0 ds f d (f d) hd]
  congr 1
  funext x
  by_cases h : x = d
  · rw [if_pos h, h]
  · rw [if_neg h]
theorem q_addI (ev : Operand → Value) (o : Oper) (w : World) (x y : Operand) (p q : Int) (h : o.op = .binOp .add 2 x y 2) (hx : ev x = .int .i64 p) (hy : ev y = .int .i64 q) : (execOp ev o).run Try.prog w = .ok (.value (.int .i64 (IntKind.i64.wrap (p + q)))) w := by
  simp [execOp, h, hx, hy]
  go_simp
theorem q_storeI (ev : Operand → Value) (o : Oper) (w : World) (x y : Operand) (k : Nat) (v p q r s : Int) (h : o.op = .store 2 x y) (hx : ev x = .pointer (some ⟨k, 0, none⟩)) (hy : ev y = .int .i64 v) (hb : w.heap[k]? = some (.cells #[.int .i64 p, .int .i64 q, .int .i64 r, .int .i64 s] 30 (0, 0))) : (execOp ev o).run Try.prog w = .ok .skip (w.setCell ⟨k, 0, none⟩ (.int .i64 v)) := by
  have e0 : w.cell? ⟨k, 0, none⟩ = some (.int .i64 p) := cellN hb
  have f0 : w.frozen? ⟨k, 0, none⟩ = false := frozN hb
  simp [execOp, h, hx, hy]
  go_simp
theorem wpOp_runS {P : Program} {ops : Array Oper} {Q : Exit → Act → World → Prop} {i : Nat} {o : Oper} {K : Act → World → Prop} {t : Act} {w w' : World} (ho : ops[i]? = some o) (hg : Region.wanted o (yielded ops t.tmps) = true) (hrun : (execOp t.eval o).run P w = .ok .skip w') (h : K (t.put o.dst undef) w') : wpOp P ops Q i K t w := by
  refine wpOp_step ho fun K' hK => ?_
  rw [if_pos hg]
  unfold Oper.wp
  rw [hrun]
  exact hK _ _ h

/-- what holds of the worlds of the drawing -/
structure SW (W : World) (a : Option Addr) (len cap R g gc : Nat) (L : List Ev) (b6 : Nat) (w : World) : Prop where
  own : OwnE w W.heap.size g gc L
  draw : Draw W a len cap R w
  box3 : ∃ z : Ev, w.heap[W.heap.size]? = some (.cells #[.int .i64 z.a, .int .i64 z.b, .int .i64 z.c, .int .i64 z.d] 30 (0, 0))
  box6 : ∃ z : Ev, w.heap[b6]? = some (.cells #[.int .i64 z.a, .int .i64 z.b, .int .i64 z.c, .int .i64 z.d] 30 (0, 0))
  apart : W.heap.size < R ∧ R < g ∧ R < b6 ∧ g ≠ b6
theorem SW.below {W : World} {a : Option Addr} {len cap R g gc : Nat} {L : List Ev} {b6 : Nat} {w w' : World} (h : SW W a len cap R g gc L b6 w) (hB : Below w.heap.size w w') : SW W a len cap R g gc L b6 w' := by
  obtain ⟨z, hz⟩ := h.box3
  obtain ⟨y, hy⟩ := h.box6
  exact ⟨h.own.below hB, h.draw.below hB, ⟨z, (hB.block _ (lt_of_block hz)).trans hz⟩, ⟨y, (hB.block _ (lt_of_block hy)).trans hy⟩, h.apart⟩
theorem SW.drew {W : World} {a : Option Addr} {len cap R g gc : Nat} {L : List Ev} {b6 : Nat} {w : World} (h : SW W a len cap R g gc L b6 w) : SW W a len cap R g gc L b6 w.drew := h.below (Below.refl _ _).drew
theorem SW.mut {W : World} {a : Option Addr} {len cap R g gc : Nat} {L : List Ev} {b6 : Nat} {w w' : World} (h : SW W a len cap R g gc L b6 w) (hD : Draw W a len cap R w') (hM : Mut R w w') : SW W a len cap R g gc L b6 w' := by
  obtain ⟨z, hz⟩ := h.box3
  obtain ⟨y, hy⟩ := h.box6
  have ha := h.apart
  exact ⟨h.own.mut hM (by omega), hD, ⟨z, (hM.block _ (lt_of_block hz) (by omega)).trans hz⟩, ⟨y, (hM.block _ (lt_of_block hy) (by omega)).trans hy⟩, ha⟩
theorem SW.set6 {W : World} {a : Option Addr} {len cap R g gc : Nat} {L : List Ev} {b6 : Nat} {w : World} (h : SW W a len cap R g gc L b6 w) (o : Nat) (u : Value) (hz : ∃ z : Ev, (w.setCell ⟨b6, o, none⟩ u).heap[b6]? = some (.cells #[.int .i64 z.a, .int .i64 z.b, .int .i64 z.c, .int .i64 z.d] 30 (0, 0))) : SW W a len cap R g gc L b6 (w.setCell ⟨b6, o, none⟩ u) := by
  obtain ⟨z, h3⟩ := h.box3
  have ha := h.apart
  have hn := h.draw.new
  refine ⟨?_, h.draw.setNew (by omega) (by omega) o u, ⟨z, (Below.heap_setCell _ _ _ _ (show W.heap.size ≠ b6 by omega)).trans h3⟩, hz, ha⟩
  exact h.own.mut ((Mut.refl b6 w).setCell o u) ha.2.2.2
theorem SW.set3 {W : World} {a : Option Addr} {len cap R g gc : Nat} {L : List Ev} {b6 : Nat} {w : World} (h : SW W a len cap R g gc L b6 w) (y z : Ev) (hz : w.heap[W.heap.size]? = some (.cells #[.int .i64 z.a, .int .i64 z.b, .int .i64 z.c, .int .i64 z.d] 30 (0, 0))) : SW W a len cap R g gc L b6 ((((w.setCell ⟨W.heap.size, 0, none⟩ (.int .i64 y.a)).setCell ⟨W.heap.size, 1, none⟩ (.int .i64 y.b)).setCell ⟨W.heap.size, 2, none⟩ (.int .i64 y.c)).setCell ⟨W.heap.size, 3, none⟩ (.int .i64 y.d)) := by
  obtain ⟨x, h6⟩ := h.box6
  have ha := h.apart
  have hM : Mut W.heap.size w ((((w.setCell ⟨W.heap.size, 0, none⟩ (.int .i64 y.a)).setCell ⟨W.heap.size, 1, none⟩ (.int .i64 y.b)).setCell ⟨W.heap.size, 2, none⟩ (.int .i64 y.c)).setCell ⟨W.heap.size, 3, none⟩ (.int .i64 y.d)) := ((((Mut.refl _ w).setCell 0 _).setCell 1 _).setCell 2 _).setCell 3 _
  refine ⟨h.own.mut hM (by omega), ?_, ⟨y, set4_same _ _ _ _ hz⟩, ⟨x, (hM.block _ (lt_of_block h6) (by omega)).trans h6⟩, ha⟩
  exact (((h.draw.setNew (Nat.le_refl _) (by omega) 0 _).setNew (Nat.le_refl _) (by omega) 1 _).setNew (Nat.le_refl _) (by omega) 2 _).setNew (Nat.le_refl _) (by omega) 3 _

/-- of the values of the two regions that draw their order -/
def PwF (R g gc : Nat) (L : List Ev) (b6 : Nat) : Nat → Value → Prop
  | 0, v => v = .slice (some ⟨g, 0, none⟩) L.length gc
  | 1, v => v = .slice (some ⟨g, 0, none⟩) L.length gc
  | 2, v => v = .int .i64 L.length
  | 3, v => v = .int .i64 (L.length - 1 : Nat)
  | 4, v => v = .pointer (some ⟨g, 0 + (L.length - 1) * 4, none⟩)
  | 5, v => v = .pointer (some ⟨g, 0 + (L.length - 1) * 4, none⟩)
  | 6, v => v = .int .i64 (L.getD (L.length - 1) evZ).a
  | 7, v => v = .pointer (some ⟨R, 0, none⟩)
  | 8, v => ∃ y : Int, v = .int .i64 y
  | 9, v => ∃ y : Int, v = .int .i64 y
  | 10, v => v = .pointer (some ⟨b6, 0, none⟩)
  | _, _ => True
def QwF (R g gc : Nat) (L : List Ev) (b6 : Nat) : Nat → Value → Prop
  | 0, v => v = .slice (some ⟨g, 0, none⟩) L.length gc
  | 1, v => ∃ z : Ev, v = .agg #[.int .i64 z.a, .int .i64 z.b, .int .i64 z.c, .int .i64 z.d]
  | 2, v => v = .slice (some ⟨g, 0, none⟩) L.length gc
  | _, _ => True
def dsPw : List Nat := [21, 22, 23, 24, 25, 26, 27, 28, 29, 30, 31, 34]
def slotPw (j : Nat) : Nat := dsPw.getD j 0
theorem slotPw_inj (i j : Nat) (hi : i < 12) (hj : j < 12) (q : slotPw i = slotPw j) : i = j := by
  have h : ∀ i : Fin 12, ∀ j : Fin 12, slotPw i.val = slotPw j.val → i.val = j.val := by decide
  exact h ⟨i, hi⟩ ⟨j, hj⟩ q
theorem slotPw_mem (i : Nat) (hi : i < 12) : slotPw i ∈ dsPw := by
  have h : ∀ i : Fin 12, slotPw i.val ∈ dsPw := by decide
  exact h ⟨i, hi⟩
def dsQw : List Nat := [33, 34, 2, 1]
def slotQw (j : Nat) : Nat := dsQw.getD j 0
theorem slotQw_inj (i j : Nat) (hi : i < 4) (hj : j < 4) (q : slotQw i = slotQw j) : i = j := by
  have h : ∀ i : Fin 4, ∀ j : Fin 4, slotQw i.val = slotQw j.val → i.val = j.val := by decide
  exact h ⟨i, hi⟩ ⟨j, hj⟩ q
theorem slotQw_mem (i : Nat) (hi : i < 4) : slotQw i ∈ dsQw := by
  have h : ∀ i : Fin 4, slotQw i.val ∈ dsQw := by decide
  exact h ⟨i, hi⟩

section
variable {W : World} {a : Option Addr} {len cap R : Nat} {Z : Nat → Int}

set_option maxHeartbeats 2000000 in
theorem chain6_any (hU : IsU8 W a len cap Z) (w : World) (h : Draw W a len cap R w) :
    Calls Try.prog 29 #[.pointer (some ⟨R, 0, none⟩), .int .i64 6] w fun e w' => ∃ g gc L, e = .returned (.slice (some ⟨g, 0, none⟩) L.length gc) ∧ L.length ≤ 6 ∧ OwnE w' w.heap.size g gc L ∧ Draw W a len cap R w' ∧ Mut R w w' := by
  have HR : Hid (R < w.heap.size) := h.lt
  have HD0 : Hid (Draw W a len cap R (w.alloc (.cells #[] 30))) := h.alloc _
  have HM0 : Hid (Mut R w (w.alloc (.cells #[] 30))) := (Mut.refl R w).alloc _
  have HO0 : Hid (OwnE (w.alloc (.cells #[] 30)) w.heap.size w.heap.size 0 []) := World.ownsRow_made w #[] 0 (Nat.le_refl _) (by decide) rfl
  clear h
  go_enter Try.func29, Try.ntmps29
  go_wp2_with fail
  refine (below_any hU 7 (by omega) (by omega) _ HD0.out).mono ?_
  rintro e w1 ⟨x, hx0, hx1, rfl, hD1, hM1⟩
  have HO1 : Hid (OwnE w1 w.heap.size w.heap.size 0 []) := HO0.out.mut hM1 (by have := HR.out; omega)
  have HM1 : Hid (Mut R w w1) := HM0.out.trans hM1
  clear hM1 HD0 HM0 HO0
  go_wp2
  go_loopw [5, 6] (fun v i wr => ∃ (k g gc : Nat) (L : List Ev), k + L.length ≤ 6 ∧ i = .int .i64 k ∧ v = .slice (some ⟨g, 0, none⟩) L.length gc ∧ Hid (OwnE wr w.heap.size g gc L) ∧ Draw W a len cap R wr ∧ Hid (Mut R w wr)) (fun _ i _ => (intOf i).toNat)
  case atStart => exact ⟨x.toNat, w.heap.size, 0, [], by simp; omega, by rw [Int.toNat_of_nonneg hx0], rfl, HO1, hD1, HM1⟩
  case round =>
    obtain ⟨k, g, gc, L, hk, rfl, rfl, HO, hD, HM⟩ := hrel
    by_cases h0 : k = 0
    · subst h0
      go_wp2
      go_ret
      exact ⟨g, gc, L, rfl, by omega, HO.out, hD, HM.out⟩
    · have hkI : (0 : Int) < (k : Int) := by omega
      have hgR : g ≠ R := by have := HO.out.lies.2.2; have := HR.out; omega
      clear hD1 HO1 HM1
      go_wp2_with fail
      refine (mevent_any hU wr hD).mono ?_
      rintro e w2 ⟨y, rfl, hD2, hM2⟩
      have HO2 := HO.out.mut hM2 hgR
      go_wp2_with fail
      refine (put_any g 0 gc L y w2 HO2.lies.1 HO2.lies.2.1 HO2.caps.1 HO2.caps.2 (by omega)).mono ?_
      rintro e w3 ⟨g3, gc3, rfl, hO3, hB3⟩
      have hs : w.heap.size ≤ w2.heap.size := (HM.out.trans hM2).size
      have HO3 : Hid (OwnE w3 w.heap.size g3 gc3 (putE L y)) := hO3.base hs
      have hD3 := hD2.below hB3
      have HM3 : Hid (Mut R w w3) := (HM.out.trans hM2).trans (Mut.of_below hB3)
      have hpl := putE_len y L
      clear hO3 hB3 hD2 hM2 hD HO2 HM HO
      go_wp2
      go_roundw
      case rel => exact ⟨k - 1, g3, gc3, putE L y, by omega, by rw [Int.natCast_sub (by omega)]; rfl, rfl, HO3, hD3, HM3⟩
      case measure => simp [intOf]; omega


/-- the last region: what is returned -/
def LastQ (W : World) (g gc : Nat) (L : List Ev) (e : Ending) (w' : World) : Prop := ∃ g' c' A, ∃ x : Ev, e = .returned (.tuple #[.slice (some ⟨g', 0, none⟩) A.length c', .agg #[.int .i64 x.a, .int .i64 x.b, .int .i64 x.c, .int .i64 x.d]]) ∧ A.length ≤ 6 ∧ OwnE w' W.heap.size g' c' A ∧ Below W.heap.size W w'

set_option maxRecDepth 10000 in
set_option maxHeartbeats 4000000 in
theorem drawWith_any (hU : IsU8 W a len cap Z) :
    Calls Try.prog 14 #[.slice a len cap] W fun e w' => ∃ g c A, ∃ x : Ev, e = .returned (.tuple #[.slice (some ⟨g, 0, none⟩) A.length c, .agg #[.int .i64 x.a, .int .i64 x.b, .int .i64 x.c, .int .i64 x.d]]) ∧ A.length ≤ 6 ∧ OwnE w' W.heap.size g c A ∧ Below W.heap.size W w' := by
  have HU := (show Hid _ from hU)
  obtain ⟨W1, hW1⟩ : ∃ W1, W1 = W.alloc (.cells #[.int .i64 0, .int .i64 0, .int .i64 0, .int .i64 0] 30) := ⟨_, rfl⟩
  have g1 : W1.heap[W.heap.size]? = some (.cells #[.int .i64 0, .int .i64 0, .int .i64 0, .int .i64 0] 30 (0, 0)) := by rw [hW1]; exact heap_alloc_new _ _
  have s1 : W1.heap.size = W.heap.size + 1 := by rw [hW1]; simp
  have B1 : Below W.heap.size W W1 := by rw [hW1]; exact (Below.refl _ _).alloc (Nat.le_refl _) _
  have H1 : Hid (W1.heap[W.heap.size]? = some (.cells #[.int .i64 0, .int .i64 0, .int .i64 0, .int .i64 0] 30 (0, 0)) ∧ W1.heap.size = W.heap.size + 1 ∧ Below W.heap.size W W1) := ⟨g1, s1, B1⟩
  have HX1 := (show Hid _ from hW1)
  have en1 : ∀ args w, (callFunc 32 args).run Try.prog w = .ok (.enter 32 args) w := enters_of Try.func32 (by kernel_rfl) rfl
  have HEN := (show Hid _ from en1)
  clear hU hW1 g1 s1 B1 en1
  go_enter Try.func14, Try.ntmps14
  go_wp2_with fail
  rw [← HX1.out]
  refine (open_any _ _ _ _).mono ?_
  rintro e w1 ⟨rfl, hD1⟩
  obtain ⟨R, hR⟩ : ∃ R, R = W1.heap.size := ⟨_, rfl⟩
  rw [← hR] at hD1 ⊢
  have hD1' : Draw W a len cap R w1 := ⟨H1.out.2.2.trans (hD1.bel.mono H1.out.2.2.size), by have := H1.out.2.1; omega, hD1.box⟩
  have c1 : w1.heap[W.heap.size]? = some (.cells #[.int .i64 0, .int .i64 0, .int .i64 0, .int .i64 0] 30 (0, 0)) := (hD1.bel.block _ (by have := H1.out.2.1; omega)).trans H1.out.1
  have hRs : W.heap.size < R := by have := H1.out.2.1; omega
  clear hD1 hR
  go_wp2_with fail
  refine (chain6_any HU.out w1 hD1').mono ?_
  rintro e w2 ⟨g, gc, L, rfl, hL6, hO2, hD2, hM2⟩
  have c2 := (hM2.block _ (lt_of_block c1) (by omega)).trans c1
  have hgR : R < g := by have := hO2.lies.2.2; have := hD1'.lt; omega
  have hO2' : OwnE w2 W.heap.size g gc L := hO2.base (by have := hD1'.bel.size; omega)
  have hgs := hO2.lies.2.1
  clear hO2 hD1' c1 hM2
  go_wp2_with fail
  refine (mevent_any HU.out w2 hD2).mono ?_
  rintro e w3 ⟨x, rfl, hD3, hM3⟩
  have c3 := (hM3.block _ (lt_of_block c2) (by omega)).trans c2
  have hO3 := hO2'.mut hM3 (by omega)
  have hg3 : g < w3.heap.size := by have := hM3.size; omega
  obtain ⟨w4, hw4⟩ : ∃ w4, w4 = w3.alloc (.cells #[.int .i64 x.a, .int .i64 x.b, .int .i64 x.c, .int .i64 x.d] 30) := ⟨_, rfl⟩
  have hB4 : Below w3.heap.size w3 w4 := by rw [hw4]; exact (Below.refl _ _).alloc (Nat.le_refl _) _
  have p4 : w4.heap[w3.heap.size]? = some (.cells #[.int .i64 x.a, .int .i64 x.b, .int .i64 x.c, .int .i64 x.d] 30 (0, 0)) := by rw [hw4]; exact heap_alloc_new _ _
  have hRw3 := hD3.lt
  obtain ⟨b6, hb6⟩ : ∃ b6, b6 = w3.heap.size := ⟨_, rfl⟩
  have S4 : SW W a len cap R g gc L b6 w4 := ⟨hO3.below hB4, hD3.below hB4, ⟨⟨0, 0, 0, 0⟩, (hB4.block _ (lt_of_block c3)).trans c3⟩, ⟨x, by rw [hb6]; exact p4⟩, by omega⟩
  have HS4 := (show Hid _ from S4)
  have HW4 := (show Hid _ from hw4)
  have HB6 := (show Hid _ from hb6)
  clear c2 c3 hO2' hO3 hg3 hgs hgR hB4 p4 hRw3 S4 hw4 hD2 hD3 hM3 hb6
  go_wp2_with fail
  rw [← HW4.out, ← HB6.out]
  clear HW4 HB6
  refine (once_any HU.out 3 (by omega) (by omega) w4 HS4.out.draw).mono ?_
  rintro e w5 ⟨c, rfl, hD5, hM5⟩
  have HSS : Hid (SW W a len cap R g gc L b6 w5) := SW.mut HS4.out hD5 hM5
  clear hD5 hM5
  have hcL : L.length ≤ gc ∧ gc ≤ 9223372036854775807 := (HSS.out.own).caps
  cases c with
  | true =>
    go_wp2
    refine wp_cut_to (fun a0 t w' => ∃ f, t = canon a0 dsQw f ∧ f 2 = .slice (some ⟨g, 0, none⟩) L.length gc ∧ SW W a len cap R g gc L b6 w') ?_ ?_
    rotate_left
    intro J K' hJ hK
    refine wp_letter ?_
    intro fr hfr
    have hsz : 34 < fr.tmps.size := by rw [hfr]; exact Nat.le_of_ble_eq_true rfl
    have t3 : fr.eval (.tmp 3) = .pointer (some ⟨W.heap.size, 0, none⟩) := by rw [hfr]; rfl
    have t5 : fr.eval (.tmp 5) = .slice (some ⟨g, 0, none⟩) L.length gc := by rw [hfr]; rfl
    have t6 : fr.eval (.tmp 6) = .pointer (some ⟨b6, 0, none⟩) := by rw [hfr]; rfl
    have HFR := (show Hid _ from hfr)
    clear hfr
    refine wp_region_rel (Rel := fun v v' => SW W a len cap R g gc L b6 v → SW W a len cap R g gc L b6 v') (fun _ h => h) (fun h k q => k (h q)) (fun v h => h.drew) (by kernel_rfl) (by kernel_rfl) dsQw slotQw (fun j v (_ : World) => QwF R g gc L b6 j v) (fun _ _ _ _ h _ => h) ?_ ?_ ?_ ?_
    · intro i hi
      exact slotQw_mem i hi
    · intro i j hi hj q
      exact slotQw_inj i j hi hj q
    · intro ops hops f wy i o hy ho hd
      have ho2 := ho
      rw [hops] at ho
      have hi : i < 4 := by
        rcases Nat.lt_or_ge i 4 with h | h
        · exact h
        · rw [Array.getElem?_eq_none (by simpa using h)] at ho; cases ho
      have hi' : i = 0 ∨ i = 1 ∨ i = 2 ∨ i = 3 := by omega
      clear hops
      rcases hi' with rfl | rfl | rfl | rfl <;> simp only [List.getElem?_toArray, List.getElem?_cons_succ, List.getElem?_cons_zero, Option.some.injEq] at ho <;> subst ho
      · refine wpOp_runG ho2 (wanted_none rfl) (q_move (canon fr dsQw f).eval _ wy _ rfl) ?_
        exact ⟨_, rfl, (canon_eval_ne fr dsQw f 5 (by decide)).trans t5, fun h => h⟩
      · have hS := hy HSS.out
        obtain ⟨z, hz⟩ := hS.box6
        refine wpOp_runG ho2 (wanted_none rfl) (q_loadE (canon fr dsQw f).eval _ wy _ b6 z.a z.b z.c z.d rfl ((canon_eval_ne fr dsQw f 6 (by decide)).trans t6) hz) ?_
        exact ⟨_, rfl, ⟨z, rfl⟩, fun h => h⟩
      · refine wpOp_runG ho2 (wanted_none rfl) (q_assign (canon fr dsQw f).eval _ wy _ rfl) ?_
        exact ⟨_, rfl, (canon_eval fr dsQw f 33 (by decide) (Nat.lt_of_le_of_lt (by decide) hsz)).trans (hd ⟨0, .data⟩ (by simp) rfl), fun h => h⟩
      · obtain ⟨y, hyv⟩ := hd ⟨1, .data⟩ (by simp) rfl
        have hS := hy HSS.out
        obtain ⟨z, hz⟩ := hS.box3
        refine wpOp_runS ho2 (wanted_none rfl) (r_store (canon fr dsQw f).eval _ wy _ _ W.heap.size z.a z.b z.c z.d y.a y.b y.c y.d rfl ((canon_eval_ne fr dsQw f 3 (by decide)).trans t3) ((canon_eval fr dsQw f 34 (by decide) (Nat.lt_of_le_of_lt (by decide) hsz)).trans hyv) hz) ?_
        exact ⟨_, (put_same fr dsQw f 1 (by decide)).symm, trivial, fun h => h.set3 y z hz⟩
    · intro f wy hy hall
      exact hK _ _ (Met.intro (hJ _ _ ⟨f, congrArg (fun z => canon z dsQw f) HFR.out, hall 2 (by decide), hy HSS.out⟩))
    rintro _ w9 ⟨f, rfl, h2, S9⟩
    simp only [canon, dsQw, List.foldl, Act.put, List.setIfInBounds_toArray, List.set_cons_succ, List.set_cons_zero]
    rw [h2]
    obtain ⟨z, hz⟩ := S9.box3
    have HE : Hid (w9.heap[W.heap.size]? = some (.cells #[.int .i64 z.a, .int .i64 z.b, .int .i64 z.c, .int .i64 z.d] 30 (0, 0)) ∧ OwnE w9 W.heap.size g gc L ∧ Below W.heap.size W w9) := ⟨hz, S9.own, S9.draw.bel⟩
    clear S9 hz
    go_wp2
    exact bodyPost_ret (results_tmp_row rfl _ _ W.heap.size 30 _ _ _ rfl HE.out.1 Try.underlying30 rfl infoE4) rfl ⟨g, gc, L, z, rfl, hL6, HE.out.2.1, HE.out.2.2⟩
  | false =>
    by_cases hL0 : 0 < L.length
    · have hL0I : (0 : Int) < (L.length : Int) := by omega
      go_wp2
      refine wp_cut_to (fun a0 t w' => ∃ f, t = canon a0 dsPw f ∧ SW W a len cap R g gc L b6 w') ?_ ?_
      rotate_left
      intro J K' hJ hK
      refine wp_letter ?_
      intro fr hfr
      have hsz : 34 < fr.tmps.size := by rw [hfr]; exact Nat.le_of_ble_eq_true rfl
      have t4 : fr.eval (.tmp 4) = .pointer (some ⟨R, 0, none⟩) := by rw [hfr]; rfl
      have t5 : fr.eval (.tmp 5) = .slice (some ⟨g, 0, none⟩) L.length gc := by rw [hfr]; rfl
      have t6 : fr.eval (.tmp 6) = .pointer (some ⟨b6, 0, none⟩) := by rw [hfr]; rfl
      have HFR := (show Hid _ from hfr)
      clear hfr
      refine wp_region_rel (Rel := fun v v' => SW W a len cap R g gc L b6 v → SW W a len cap R g gc L b6 v') (fun _ h => h) (fun h k q => k (h q)) (fun v h => h.drew) (by kernel_rfl) (by kernel_rfl) dsPw slotPw (fun j v (_ : World) => PwF R g gc L b6 j v) (fun _ _ _ _ h _ => h) ?_ ?_ ?_ ?_
      · intro i hi
        exact slotPw_mem i hi
      · intro i j hi hj q
        exact slotPw_inj i j hi hj q
      · intro ops hops f wy i o hy ho hd
        have ho2 := ho
        rw [hops] at ho
        have hi : i < 12 := by
          rcases Nat.lt_or_ge i 12 with h | h
          · exact h
          · rw [Array.getElem?_eq_none (by simpa using h)] at ho; cases ho
        have hi' : i = 0 ∨ i = 1 ∨ i = 2 ∨ i = 3 ∨ i = 4 ∨ i = 5 ∨ i = 6 ∨ i = 7 ∨ i = 8 ∨ i = 9 ∨ i = 10 ∨ i = 11 := by omega
        clear hops
        rcases hi' with rfl | rfl | rfl | rfl | rfl | rfl | rfl | rfl | rfl | rfl | rfl | rfl <;> simp only [List.getElem?_toArray, List.getElem?_cons_succ, List.getElem?_cons_zero, Option.some.injEq] at ho <;> subst ho
        · refine wpOp_runG ho2 (wanted_none rfl) (q_move (canon fr dsPw f).eval _ wy _ rfl) ?_
          exact ⟨_, rfl, (canon_eval_ne fr dsPw f 5 (by decide)).trans t5, fun h => h⟩
        · refine wpOp_runG ho2 (wanted_none rfl) (q_move (canon fr dsPw f).eval _ wy _ rfl) ?_
          exact ⟨_, rfl, (canon_eval_ne fr dsPw f 5 (by decide)).trans t5, fun h => h⟩
        · refine wpOp_runG ho2 (wanted_none rfl) (q_len (canon fr dsPw f).eval _ wy _ _ _ _ rfl ((canon_eval fr dsPw f 22 (by decide) (Nat.lt_of_le_of_lt (by decide) hsz)).trans (hd ⟨1, .data⟩ (by simp) rfl))) ?_
          exact ⟨_, rfl, rfl, fun h => h⟩
        · refine wpOp_runG ho2 (wanted_none rfl) (q_sub (canon fr dsPw f).eval _ wy _ _ L.length rfl ((canon_eval fr dsPw f 23 (by decide) (Nat.lt_of_le_of_lt (by decide) hsz)).trans (hd ⟨2, .data⟩ (by simp) rfl)) rfl hL0 (by omega)) ?_
          exact ⟨_, rfl, rfl, fun h => h⟩
        · refine wpOp_runG ho2 (wanted_none rfl) (q_idx (canon fr dsPw f).eval _ wy _ _ g 0 L.length (L.length - 1) gc rfl ((canon_eval fr dsPw f 21 (by decide) (Nat.lt_of_le_of_lt (by decide) hsz)).trans (hd ⟨0, .data⟩ (by simp) rfl)) ((canon_eval fr dsPw f 24 (by decide) (Nat.lt_of_le_of_lt (by decide) hsz)).trans (hd ⟨3, .data⟩ (by simp) rfl)) (by omega)) ?_
          exact ⟨_, rfl, rfl, fun h => h⟩
        · refine wpOp_runG ho2 (wanted_none rfl) (q_fieldE (canon fr dsPw f).eval _ wy _ g _ rfl ((canon_eval fr dsPw f 25 (by decide) (Nat.lt_of_le_of_lt (by decide) hsz)).trans (hd ⟨4, .data⟩ (by simp) rfl))) ?_
          exact ⟨_, rfl, rfl, fun h => h⟩
        · have hS := hy HSS.out
          have hq := hS.own.lies.1 (L.length - 1) (by omega)
          refine wpOp_runG ho2 (wanted_none rfl) (q_loadI (canon fr dsPw f).eval _ wy _ g _ (L.getD (L.length - 1) evZ).a rfl ((canon_eval fr dsPw f 26 (by decide) (Nat.lt_of_le_of_lt (by decide) hsz)).trans (hd ⟨5, .data⟩ (by simp) rfl)) hq.1) ?_
          exact ⟨_, rfl, rfl, fun h => h⟩
        · refine wpOp_runG ho2 (wanted_none rfl) (q_move (canon fr dsPw f).eval _ wy _ rfl) ?_
          exact ⟨_, rfl, (canon_eval_ne fr dsPw f 4 (by decide)).trans t4, fun h => h⟩
        · refine wpOp_enterG ho2 (wanted_none rfl) (q_call2 (canon fr dsPw f).eval _ wy _ HEN.out _ _ _ rfl rfl) ?_
          rw [(canon_eval fr dsPw f 28 (by decide) (Nat.lt_of_le_of_lt (by decide) hsz)).trans (hd ⟨7, .data⟩ (by simp) rfl)]
          refine (below_any HU.out 2 (by omega) (by omega) wy (hy HSS.out).draw).mono ?_
          rintro e wz ⟨y, hy0, hy1, rfl, hDz, hMz⟩
          exact ⟨_, rfl, _, rfl, ⟨y, rfl⟩, fun h => h.mut hDz hMz⟩
        · obtain ⟨y, hyv⟩ := hd ⟨8, .data⟩ (by simp) rfl
          refine wpOp_runG ho2 (wanted_none rfl) (q_addI (canon fr dsPw f).eval _ wy _ _ _ y rfl ((canon_eval fr dsPw f 27 (by decide) (Nat.lt_of_le_of_lt (by decide) hsz)).trans (hd ⟨6, .data⟩ (by simp) rfl)) ((canon_eval fr dsPw f 29 (by decide) (Nat.lt_of_le_of_lt (by decide) hsz)).trans hyv)) ?_
          exact ⟨_, rfl, ⟨_, rfl⟩, fun h => h⟩
        · refine wpOp_runG ho2 (wanted_none rfl) (q_fieldE (canon fr dsPw f).eval _ wy _ b6 0 rfl ((canon_eval_ne fr dsPw f 6 (by decide)).trans t6)) ?_
          exact ⟨_, rfl, rfl, fun h => h⟩
        · obtain ⟨y, hyv⟩ := hd ⟨9, .data⟩ (by simp) rfl
          have hS := hy HSS.out
          obtain ⟨z, hz⟩ := hS.box6
          refine wpOp_runS ho2 (wanted_none rfl) (q_storeI (canon fr dsPw f).eval _ wy _ _ b6 y z.a z.b z.c z.d rfl ((canon_eval fr dsPw f 31 (by decide) (Nat.lt_of_le_of_lt (by decide) hsz)).trans (hd ⟨10, .data⟩ (by simp) rfl)) ((canon_eval fr dsPw f 30 (by decide) (Nat.lt_of_le_of_lt (by decide) hsz)).trans hyv) hz) ?_
          exact ⟨_, (put_same fr dsPw f 34 (by decide)).symm, trivial, fun h => h.set6 0 (.int .i64 y) ⟨⟨y, z.b, z.c, z.d⟩, heap_setCell_same _ _ _ _ 30 _ hz⟩⟩
      · intro f wy hy hall
        exact hK _ _ (Met.intro (hJ _ _ ⟨f, congrArg (fun z => canon z dsPw f) HFR.out, hy HSS.out⟩))
      rintro _ w6 ⟨f, rfl, S6⟩
      simp only [canon, dsPw, List.foldl, Act.put, List.setIfInBounds_toArray, List.set_cons_succ, List.set_cons_zero]
      have HSS : Hid (SW W a len cap R g gc L b6 w6) := S6
      obtain ⟨z, hz⟩ := S6.box6
      have e1 : w6.cell? ⟨b6, 1, none⟩ = some (.int .i64 z.b) := cellN hz
      have f1 : w6.frozen? ⟨b6, 1, none⟩ = false := frozN hz
      have S7 : SW W a len cap R g gc L b6 (w6.setCell ⟨b6, 1, none⟩ (.int .i64 1)) := S6.set6 1 _ ⟨⟨z.a, 1, z.c, z.d⟩, heap_setCell_same _ _ _ _ 30 _ hz⟩
      have HS7 := (show Hid _ from S7)
      clear S6 S7 hz HSS
      go_wp2
      have HSS : Hid (SW W a len cap R g gc L b6 (w6.setCell ⟨b6, 1, none⟩ (.int .i64 1))) := HS7.out
      clear e1 f1
      refine wp_cut_to (fun a0 t w' => ∃ f, t = canon a0 dsQw f ∧ f 2 = .slice (some ⟨g, 0, none⟩) L.length gc ∧ SW W a len cap R g gc L b6 w') ?_ ?_
      rotate_left
      intro J K' hJ hK
      refine wp_letter ?_
      intro fr hfr
      have hsz : 34 < fr.tmps.size := by rw [hfr]; exact Nat.le_of_ble_eq_true rfl
      have t3 : fr.eval (.tmp 3) = .pointer (some ⟨W.heap.size, 0, none⟩) := by rw [hfr]; rfl
      have t5 : fr.eval (.tmp 5) = .slice (some ⟨g, 0, none⟩) L.length gc := by rw [hfr]; rfl
      have t6 : fr.eval (.tmp 6) = .pointer (some ⟨b6, 0, none⟩) := by rw [hfr]; rfl
      have HFR := (show Hid _ from hfr)
      clear hfr
      refine wp_region_rel (Rel := fun v v' => SW W a len cap R g gc L b6 v → SW W a len cap R g gc L b6 v') (fun _ h => h) (fun h k q => k (h q)) (fun v h => h.drew) (by kernel_rfl) (by kernel_rfl) dsQw slotQw (fun j v (_ : World) => QwF R g gc L b6 j v) (fun _ _ _ _ h _ => h) ?_ ?_ ?_ ?_
      · intro i hi
        exact slotQw_mem i hi
      · intro i j hi hj q
        exact slotQw_inj i j hi hj q
      · intro ops hops f wy i o hy ho hd
        have ho2 := ho
        rw [hops] at ho
        have hi : i < 4 := by
          rcases Nat.lt_or_ge i 4 with h | h
          · exact h
          · rw [Array.getElem?_eq_none (by simpa using h)] at ho; cases ho
        have hi' : i = 0 ∨ i = 1 ∨ i = 2 ∨ i = 3 := by omega
        clear hops
        rcases hi' with rfl | rfl | rfl | rfl <;> simp only [List.getElem?_toArray, List.getElem?_cons_succ, List.getElem?_cons_zero, Option.some.injEq] at ho <;> subst ho
        · refine wpOp_runG ho2 (wanted_none rfl) (q_move (canon fr dsQw f).eval _ wy _ rfl) ?_
          exact ⟨_, rfl, (canon_eval_ne fr dsQw f 5 (by decide)).trans t5, fun h => h⟩
        · have hS := hy HSS.out
          obtain ⟨z, hz⟩ := hS.box6
          refine wpOp_runG ho2 (wanted_none rfl) (q_loadE (canon fr dsQw f).eval _ wy _ b6 z.a z.b z.c z.d rfl ((canon_eval_ne fr dsQw f 6 (by decide)).trans t6) hz) ?_
          exact ⟨_, rfl, ⟨z, rfl⟩, fun h => h⟩
        · refine wpOp_runG ho2 (wanted_none rfl) (q_assign (canon fr dsQw f).eval _ wy _ rfl) ?_
          exact ⟨_, rfl, (canon_eval fr dsQw f 33 (by decide) (Nat.lt_of_le_of_lt (by decide) hsz)).trans (hd ⟨0, .data⟩ (by simp) rfl), fun h => h⟩
        · obtain ⟨y, hyv⟩ := hd ⟨1, .data⟩ (by simp) rfl
          have hS := hy HSS.out
          obtain ⟨z, hz⟩ := hS.box3
          refine wpOp_runS ho2 (wanted_none rfl) (r_store (canon fr dsQw f).eval _ wy _ _ W.heap.size z.a z.b z.c z.d y.a y.b y.c y.d rfl ((canon_eval_ne fr dsQw f 3 (by decide)).trans t3) ((canon_eval fr dsQw f 34 (by decide) (Nat.lt_of_le_of_lt (by decide) hsz)).trans hyv) hz) ?_
          exact ⟨_, (put_same fr dsQw f 1 (by decide)).symm, trivial, fun h => h.set3 y z hz⟩
      · intro f wy hy hall
        exact hK _ _ (Met.intro (hJ _ _ ⟨f, congrArg (fun z => canon z dsQw f) HFR.out, hall 2 (by decide), hy HSS.out⟩))
      rintro _ w9 ⟨f, rfl, h2, S9⟩
      simp only [canon, dsQw, List.foldl, Act.put, List.setIfInBounds_toArray, List.set_cons_succ, List.set_cons_zero]
      rw [h2]
      obtain ⟨z, hz⟩ := S9.box3
      have HE : Hid (w9.heap[W.heap.size]? = some (.cells #[.int .i64 z.a, .int .i64 z.b, .int .i64 z.c, .int .i64 z.d] 30 (0, 0)) ∧ OwnE w9 W.heap.size g gc L ∧ Below W.heap.size W w9) := ⟨hz, S9.own, S9.draw.bel⟩
      clear S9 hz
      go_wp2
      exact bodyPost_ret (results_tmp_row rfl _ _ W.heap.size 30 _ _ _ rfl HE.out.1 Try.underlying30 rfl infoE4) rfl ⟨g, gc, L, z, rfl, hL6, HE.out.2.1, HE.out.2.2⟩
    · have hL0I : ¬ (0 : Int) < (L.length : Int) := by omega
      go_wp2
      refine wp_cut_to (fun a0 t w' => ∃ f, t = canon a0 dsQw f ∧ f 2 = .slice (some ⟨g, 0, none⟩) L.length gc ∧ SW W a len cap R g gc L b6 w') ?_ ?_
      rotate_left
      intro J K' hJ hK
      refine wp_letter ?_
      intro fr hfr
      have hsz : 34 < fr.tmps.size := by rw [hfr]; exact Nat.le_of_ble_eq_true rfl
      have t3 : fr.eval (.tmp 3) = .pointer (some ⟨W.heap.size, 0, none⟩) := by rw [hfr]; rfl
      have t5 : fr.eval (.tmp 5) = .slice (some ⟨g, 0, none⟩) L.length gc := by rw [hfr]; rfl
      have t6 : fr.eval (.tmp 6) = .pointer (some ⟨b6, 0, none⟩) := by rw [hfr]; rfl
      have HFR := (show Hid _ from hfr)
      clear hfr
      refine wp_region_rel (Rel := fun v v' => SW W a len cap R g gc L b6 v → SW W a len cap R g gc L b6 v') (fun _ h => h) (fun h k q => k (h q)) (fun v h => h.drew) (by kernel_rfl) (by kernel_rfl) dsQw slotQw (fun j v (_ : World) => QwF R g gc L b6 j v) (fun _ _ _ _ h _ => h) ?_ ?_ ?_ ?_
      · intro i hi
        exact slotQw_mem i hi
      · intro i j hi hj q
        exact slotQw_inj i j hi hj q
      · intro ops hops f wy i o hy ho hd
        have ho2 := ho
        rw [hops] at ho
        have hi : i < 4 := by
          rcases Nat.lt_or_ge i 4 with h | h
          · exact h
          · rw [Array.getElem?_eq_none (by simpa using h)] at ho; cases ho
        have hi' : i = 0 ∨ i = 1 ∨ i = 2 ∨ i = 3 := by omega
        clear hops
        rcases hi' with rfl | rfl | rfl | rfl <;> simp only [List.getElem?_toArray, List.getElem?_cons_succ, List.getElem?_cons_zero, Option.some.injEq] at ho <;> subst ho
        · refine wpOp_runG ho2 (wanted_none rfl) (q_move (canon fr dsQw f).eval _ wy _ rfl) ?_
          exact ⟨_, rfl, (canon_eval_ne fr dsQw f 5 (by decide)).trans t5, fun h => h⟩
        · have hS := hy HSS.out
          obtain ⟨z, hz⟩ := hS.box6
          refine wpOp_runG ho2 (wanted_none rfl) (q_loadE (canon fr dsQw f).eval _ wy _ b6 z.a z.b z.c z.d rfl ((canon_eval_ne fr dsQw f 6 (by decide)).trans t6) hz) ?_
          exact ⟨_, rfl, ⟨z, rfl⟩, fun h => h⟩
        · refine wpOp_runG ho2 (wanted_none rfl) (q_assign (canon fr dsQw f).eval _ wy _ rfl) ?_
          exact ⟨_, rfl, (canon_eval fr dsQw f 33 (by decide) (Nat.lt_of_le_of_lt (by decide) hsz)).trans (hd ⟨0, .data⟩ (by simp) rfl), fun h => h⟩
        · obtain ⟨y, hyv⟩ := hd ⟨1, .data⟩ (by simp) rfl
          have hS := hy HSS.out
          obtain ⟨z, hz⟩ := hS.box3
          refine wpOp_runS ho2 (wanted_none rfl) (r_store (canon fr dsQw f).eval _ wy _ _ W.heap.size z.a z.b z.c z.d y.a y.b y.c y.d rfl ((canon_eval_ne fr dsQw f 3 (by decide)).trans t3) ((canon_eval fr dsQw f 34 (by decide) (Nat.lt_of_le_of_lt (by decide) hsz)).trans hyv) hz) ?_
          exact ⟨_, (put_same fr dsQw f 1 (by decide)).symm, trivial, fun h => h.set3 y z hz⟩
      · intro f wy hy hall
        exact hK _ _ (Met.intro (hJ _ _ ⟨f, congrArg (fun z => canon z dsQw f) HFR.out, hall 2 (by decide), hy HSS.out⟩))
      rintro _ w9 ⟨f, rfl, h2, S9⟩
      simp only [canon, dsQw, List.foldl, Act.put, List.setIfInBounds_toArray, List.set_cons_succ, List.set_cons_zero]
      rw [h2]
      obtain ⟨z, hz⟩ := S9.box3
      have HE : Hid (w9.heap[W.heap.size]? = some (.cells #[.int .i64 z.a, .int .i64 z.b, .int .i64 z.c, .int .i64 z.d] 30 (0, 0)) ∧ OwnE w9 W.heap.size g gc L ∧ Below W.heap.size W w9) := ⟨hz, S9.own, S9.draw.bel⟩
      clear S9 hz
      go_wp2
      exact bodyPost_ret (results_tmp_row rfl _ _ W.heap.size 30 _ _ _ rfl HE.out.1 Try.underlying30 rfl infoE4) rfl ⟨g, gc, L, z, rfl, hL6, HE.out.2.1, HE.out.2.2⟩
end
end Go.Proofs.Ytglnnocfdlachaa
