/-
  The statement FnRostersSaid: at every code the law returns true, and the code reads afterwards as it read before. No condition.
-/
import Derived.Test.YthdlgnbdppijkaaRPl
import Derived.Test.YthdlgnbdppijkaaHInt
import Derived.Test.YthdlgnbdppijkaaDrawR
import Derived.Test.YthdlgnbdppijkaaOpenU
import Derived.Test.YthdlgnbdppijkaaICan
import Derived.Test.YthdlgnbdppijkaaRegF
namespace Go.Proofs.Ythdlgnbdppijkaa
open Go.ChangeShapes Go.WideShapes Go.ChangeAt Go.RowKit Go.Deep
set_option linter.unusedVariables false

/-- who administers is a member -/
theorem adm_mem (D : Nat → Ev) (len : Nat) (hf : ∀ j, j < len → (D j).fine = true) : ∀ k, ∀ x ∈ (rosterL D len k).2, x ∈ (rosterL D len k).1
  | 0 => fun x hx => hx
  | k + 1 => fun x hx => by
    have ih := adm_mem D len hf k
    have hrm := (rosterL_ros D len k).1
    have hra := (rosterL_ros D len k).2
    rcases (admTo_mem D _ _ _ (outTo_ros _ hra _) x len hf).1 hx with q | ⟨i, hi, q, hd⟩
    · have q' := (outTo_all _ _ _).1 q
      exact (memTo_mem D _ _ _ _ _ (outTo_ros _ hrm _) x len hf).2 (.inl ((outTo_all _ _ _).2 ⟨ih x q'.1, q'.2⟩))
    · refine (memTo_mem D _ _ _ _ _ (outTo_ros _ hrm _) x len hf).2 (.inr ⟨i, hi, ?_, hd⟩)
      unfold isRaise at q
      unfold isAdd
      simp only [Bool.and_eq_true, beq_iff_eq, Bool.not_eq_true'] at q
      have hb := ((outTo_all _ _ _).1 ((hasI_iff _ _).1 q.2.2.1)).1
      have hc : ((D i).c != 2) = true := by rw [q.2.1]; rfl
      rw [hc, q.2.2.1, (hasI_iff _ _).2 hb, q.2.2.2]
      simp [q.1]
theorem res_adm {D : Nat → Ev} {len : Nat} {z : Int} (h : rosB D len z = true) : ∀ x ∈ (resR D len z).2, hasI (resR D len z).1 x = true := fun x hx => by
  rw [resR_yes h] at hx ⊢
  exact (hasI_iff _ _).2 (adm_mem D len (chainB_fine (rosB_parts h).1) _ x hx)
theorem res_first {D : Nat → Ev} {len : Nat} {z : Int} (h : rosB D len z = true) : resR D len 0 = ([1], [1]) ∧ rosB D len 0 = true := by
  have h0 := rosB_mk (e := 0) (rosB_parts h).1 (by omega) (by omega)
  rw [resR_yes h0]
  exact ⟨rfl, h0⟩

/-- of the values of the law's last region: the two literals read as 1, each other is the one told -/
def RoF (vl : List Value) (j : Nat) (v : Value) (w : World) : Prop := if j = 12 ∨ j = 18 then ∃ p, v = .slice (some ⟨p, 0, none⟩) 1 1 ∧ RdI w v [1] else v = vl.getD j undef
theorem RoF.below {vl : List Value} {j : Nat} {v : Value} {w w' : World} (h : RoF vl j v w) (hB : Below w.heap.size w w') : RoF vl j v w' := by
  unfold RoF at h ⊢
  split at h
  · rename_i q
    rw [if_pos q]
    obtain ⟨p, e, hr⟩ := h
    exact ⟨p, e, hr.below hB⟩
  · rename_i q
    rw [if_neg q]
    exact h
theorem RoF.eq {vl : List Value} {j : Nat} {v : Value} {w : World} (h : RoF vl j v w) (h1 : j ≠ 12) (h2 : j ≠ 18) : v = vl.getD j undef := by
  unfold RoF at h
  rw [if_neg (fun q => q.elim h1 h2)] at h
  exact h
theorem RoF.mk {vl : List Value} {j : Nat} {v : Value} {w : World} (h1 : j ≠ 12) (h2 : j ≠ 18) (h : v = vl.getD j undef) : RoF vl j v w := by
  unfold RoF
  rw [if_neg (fun q => q.elim h1 h2)]
  exact h
theorem RoF.lit {vl : List Value} {j : Nat} {v : Value} {w : World} (h : RoF vl j v w) (h1 : j = 12 ∨ j = 18) : ∃ p, v = .slice (some ⟨p, 0, none⟩) 1 1 ∧ RdI w v [1] := by
  unfold RoF at h
  rw [if_pos h1] at h
  exact h
theorem RoF.mkLit {vl : List Value} {j : Nat} (w : World) (h1 : j = 12 ∨ j = 18) : RoF vl j (.slice (some ⟨w.heap.size, 0, none⟩) 1 1) (w.alloc (.cells #[.int .i64 1] 2)) := by
  unfold RoF
  rw [if_pos h1]
  exact ⟨_, rfl, (own_one (base := 0) w (Nat.zero_le _)).rd⟩
def slotRo (j : Nat) : Nat := if j = 21 then 2 else 109 + j
def dsRo : List Nat := [109, 110, 111, 112, 113, 114, 115, 116, 117, 118, 119, 120, 121, 122, 123, 124, 125, 126, 127, 128, 129, 2]

theorem getD_memR {L : List Int} {j : Nat} (h : j < L.length) : L.getD j 0 ∈ L := by simp [h]

theorem wantedG {ops : Array Oper} {i : Nat} {oi : Oper} (_ : ops[i]? = some oi) {a0 : Act} {ds : List Nat} {f : Nat → Value} (j d : Nat) (b : Bool) (hj : (ops[j]?).bind (·.dst) = some d) (hds : d ∈ ds) (hs : d < a0.tmps.size) (hf : f d = .bool b) : ∀ o : Oper, o.guard = some (j, b) → Region.wanted o (yielded ops (canon a0 ds f).tmps) = true := fun o hg => by
  cases hq : ops[j]? with
  | none => rw [hq] at hj; cases hj
  | some og =>
    rw [hq] at hj
    exact wanted_canon hg hq hj hds hs hf

/-- the operations under a letter -/
theorem wp_region_facts' {P : Program} {l : List Oper} {Q : Exit → Act → World → Prop} {id : Nat} {a0 : Act} {w0 : World} (hm : P.follows .mixedOrders = true) (hback : backB l = true) (ds : List Nat) (slot : Nat → Nat) (F : Nat → Value → World → Prop)
    (hF : ∀ j v w w', F j v w → Below w.heap.size w w' → F j v w')
    (hds : ∀ i, i < l.length → slot i ∈ ds) (hinj : ∀ i j, i < l.length → j < l.length → slot i = slot j → i = j)
    (hstep : ∀ ops, ops = l.toArray → ∀ f w i o, Below w0.heap.size w0 w → ops[i]? = some o → (∀ e ∈ o.after, Region.binds .any e = true → F e.on (f (slot e.on)) w) → wpOp P ops Q i (fun a' w' => ∃ v, a' = (canon a0 ds f).put (some (slot i)) v ∧ F i v w' ∧ Below w.heap.size w w') (canon a0 ds f) w)
    (hdone : ∀ f w, Below w0.heap.size w0 w → (∀ i, i < l.length → F i (f (slot i)) w) → Q .normal (canon a0 ds f) w) :
    (Code.region id l.toArray true).wp P Q a0 w0 := wp_region_facts hm hback ds slot F hF hds hinj (hstep _ rfl) hdone

theorem wp_named {c : Code} {P : Program} {Q : Exit → Act → World → Prop} {a : Act} {w : World} (h : ∀ a', a' = a → c.wp P Q a' w) : c.wp P Q a w := h a rfl

set_option maxRecDepth 10000 in
set_option maxHeartbeats 8000000 in
theorem rosters_walk {a : Option Addr} {len cap : Nat} {Z : Nat → Int} (w : World) (hU : IsU8 w a len cap Z) :
    Calls Try.prog 3 #[.slice a len cap] w fun e w' => e = .returned (.bool true) ∧ Below w.heap.size w w' := by
  by_cases hbig : (1048576 : Int) < (len : Int)
  · go_enter Try.func3, Try.ntmps3
    go_wp2_with fail
    refine (big_any _ _ _ _).mono ?_
    rintro e w1 ⟨rfl, hw⟩
    rw [hw, decide_eq_true hbig]
    go_wp2
    go_ret
    exact ⟨rfl, Below.refl _ _⟩
  have HN : Hid (decide ((1048576 : Int) < (len : Int)) = false) := decide_eq_false hbig
  clear hbig
  go_enter Try.func3, Try.ntmps3
  go_wp2_with fail
  refine (big_any _ _ _ _).mono ?_
  rintro e w1 ⟨rfl, hw⟩
  rw [hw, HN.out]
  clear hw w1 HN
  go_wp2_with fail
  refine (drawCan_any hU).mono ?_
  rintro e w2 ⟨g, c, A, who, z, rfl, hAl, oA, b2⟩
  clear hU
  obtain ⟨R, hR⟩ : ∃ R, R = resR (fun i => A.getD i evZ) A.length z := ⟨_, rfl⟩
  obtain ⟨ok, hok⟩ : ∃ ok, ok = rosB (fun i => A.getD i evZ) A.length z := ⟨_, rfl⟩
  obtain ⟨cw, hcw⟩ : ∃ cw, cw = (ok && hasI R.1 who) := ⟨_, rfl⟩
  obtain ⟨cb, hcb⟩ : ∃ cb, cb = chainB (fun i => A.getD i evZ) A.length := ⟨_, rfl⟩
  have TI : Hid (∀ w', OwnE w' w.heap.size g c A → Calls Try.prog 8 #[.slice (some ⟨g, 0, none⟩) A.length c, .int .i64 z] w' fun r w'' => ∃ a1 c1 a2 c2 y, r = .returned (.tuple #[.agg #[.slice a1 R.1.length c1, .slice a2 R.2.length c2], .bool ok]) ∧ OwnI w'' w'.heap.size (.slice a1 R.1.length c1) R.1 ∧ OwnI w'' y (.slice a2 R.2.length c2) R.2 ∧ w'.heap.size ≤ y ∧ (∀ k, (Value.slice a1 R.1.length c1).ownBlock = some k → k < y) ∧ Below w'.heap.size w' w'') := fun w' h => by rw [hR, hok]; exact implR _ _ _ _ z w' h.evs
  have TS : Hid (∀ w', OwnE w' w.heap.size g c A → Calls Try.prog 9 #[.slice (some ⟨g, 0, none⟩) A.length c, .int .i64 z] w' fun r w'' => ∃ a1 c1 a2 c2, r = .returned (.tuple #[.agg #[.slice a1 R.1.length c1, .slice a2 R.2.length c2], .bool ok]) ∧ OwnI w'' w'.heap.size (.slice a1 R.1.length c1) R.1 ∧ OwnI w'' w'.heap.size (.slice a2 R.2.length c2) R.2 ∧ Below w'.heap.size w' w'') := fun w' h => by rw [hR, hok]; exact specR _ _ _ _ z w' h.evs
  have CI : Hid (∀ w', OwnE w' w.heap.size g c A → Calls Try.prog 11 #[.slice (some ⟨g, 0, none⟩) A.length c, .int .i64 who, .int .i64 z] w' fun r w'' => r = .returned (.bool cw) ∧ Below w'.heap.size w' w'') := fun w' h => by rw [hcw, hR, hok]; exact implCan _ _ _ _ who z w' h.evs
  have CS : Hid (∀ w', OwnE w' w.heap.size g c A → Calls Try.prog 12 #[.slice (some ⟨g, 0, none⟩) A.length c, .int .i64 who, .int .i64 z] w' fun r w'' => r = .returned (.bool cw) ∧ Below w'.heap.size w' w'') := fun w' h => by rw [hcw, hR, hok]; exact specCan _ _ _ _ who z w' h.evs
  have KI : Hid (∀ w', OwnE w' w.heap.size g c A → Calls Try.prog 13 #[.slice (some ⟨g, 0, none⟩) A.length c] w' fun r w'' => r = .returned (.bool cb) ∧ Below w'.heap.size w' w'') := fun w' h => by rw [hcb]; exact implChain_any _ _ _ _ w' h.evs
  have KS : Hid (∀ w', OwnE w' w.heap.size g c A → Calls Try.prog 14 #[.slice (some ⟨g, 0, none⟩) A.length c] w' fun r w'' => r = .returned (.bool cb) ∧ Below w'.heap.size w' w'') := fun w' h => by rw [hcb]; exact specChain_any _ _ _ _ w' h.evs
  have TF : Hid (ok = true → ∀ w', OwnE w' w.heap.size g c A → Calls Try.prog 8 #[.slice (some ⟨g, 0, none⟩) A.length c, .int .i64 0] w' fun r w'' => ∃ a1 c1 a2 c2 y, r = .returned (.tuple #[.agg #[.slice a1 1 c1, .slice a2 1 c2], .bool true]) ∧ OwnI w'' w'.heap.size (.slice a1 1 c1) [1] ∧ OwnI w'' y (.slice a2 1 c2) [1] ∧ w'.heap.size ≤ y ∧ (∀ k, (Value.slice a1 1 c1).ownBlock = some k → k < y) ∧ Below w'.heap.size w' w'') := fun h1 w' h => by
    have hf := res_first (D := fun i => A.getD i evZ) (len := A.length) (z := z) (by rw [← hok]; exact h1)
    have := implR (some ⟨g, 0, none⟩) A.length c (fun i => A.getD i evZ) 0 w' h.evs
    rw [hf.1, hf.2] at this
    exact this
  have TA : Hid (ok = true → ∀ j, j < R.2.length → hasI R.1 (R.2.getD j 0) = true) := fun h1 j hj => by
    rw [hR] at hj ⊢
    exact res_adm (by rw [← hok]; exact h1) _ (getD_memR hj)
  have TC : Hid (ok = true → cw = hasI R.1 who) := fun h1 => by rw [hcw, h1]; rfl
  have HRL : Hid (R.2.length ≤ 9) := by show _ ≤ _; rw [hR]; exact (resR_len _ _ _).2
  obtain ⟨R1, R2⟩ := R
  clear hR hok hcw hcb
  have hokn : (ok != ok) = false := by simp
  have hoke : (ok == ok) = true := by simp
  have hcwn : (cw != cw) = false := by simp
  have hcwe : (cw == cw) = true := by simp
  have hcbn : (cb != cb) = false := by simp
  go_wp2_with fail
  refine (TI.out w2 oA).mono ?_
  rintro r w3 ⟨a1, c1, a2, c2, y, rfl, o1, o2, hy, _, hB3⟩
  have b3 : Below w.heap.size w w3 := b2.trans (hB3.mono b2.size)
  obtain ⟨x3, hx3⟩ : ∃ x3, x3 = w3.alloc (.cells #[.slice a1 R1.length c1, .slice a2 R2.length c2] 29) := ⟨_, rfl⟩
  have hb3 : Below w3.heap.size w3 x3 := by rw [hx3]; exact (Below.refl _ _).alloc (Nat.le_refl _) _
  have p3 : x3.heap[w3.heap.size]? = some (.cells #[.slice a1 R1.length c1, .slice a2 R2.length c2] 29 (0, 0)) := by rw [hx3]; exact heap_alloc_new _ _
  have H3 : Hid (OwnE x3 w.heap.size g c A ∧ RdI x3 (.slice a1 R1.length c1) R1 ∧ RdI x3 (.slice a2 R2.length c2) R2 ∧ x3.heap[w3.heap.size]? = some (.cells #[.slice a1 R1.length c1, .slice a2 R2.length c2] 29 (0, 0)) ∧ Below w.heap.size w x3) := ⟨(oA.below hB3).below hb3, (o1.below hb3).rd, (o2.below hb3).rd, p3, b3.trans (hb3.mono b3.size)⟩
  have HX3 := (show Hid _ from hx3)
  clear hx3 hb3 p3 o1 o2 hy b3 hB3 oA b2 TI
  go_wp2_with fail
  rw [← HX3.out]
  clear HX3
  refine (TS.out x3 H3.out.1).mono ?_
  rintro r w4 ⟨a1s, c1s, a2s, c2s, rfl, o1, o2, hB4⟩
  obtain ⟨x4, hx4⟩ : ∃ x4, x4 = w4.alloc (.cells #[.slice a1s R1.length c1s, .slice a2s R2.length c2s] 29) := ⟨_, rfl⟩
  have hb4 : Below w4.heap.size w4 x4 := by rw [hx4]; exact (Below.refl _ _).alloc (Nat.le_refl _) _
  have p4 : x4.heap[w4.heap.size]? = some (.cells #[.slice a1s R1.length c1s, .slice a2s R2.length c2s] 29 (0, 0)) := by rw [hx4]; exact heap_alloc_new _ _
  have HX4 := (show Hid _ from hx4)
  have hB4x : Below x3.heap.size x3 x4 := hB4.trans (hb4.mono hB4.size)
  have H4 : Hid (∀ v, Below x4.heap.size x4 v → OwnE v w.heap.size g c A ∧ RdI v (.slice a1 R1.length c1) R1 ∧ RdI v (.slice a2 R2.length c2) R2 ∧ v.heap[w3.heap.size]? = some (.cells #[.slice a1 R1.length c1, .slice a2 R2.length c2] 29 (0, 0)) ∧ Below w.heap.size w v ∧ RdI v (.slice a1s R1.length c1s) R1 ∧ RdI v (.slice a2s R2.length c2s) R2 ∧ v.heap[w4.heap.size]? = some (.cells #[.slice a1s R1.length c1s, .slice a2s R2.length c2s] 29 (0, 0))) := fun v hv => by
    obtain ⟨i1, i2, i3, i4, i5⟩ := H3.out
    have hB : Below x3.heap.size x3 v := hB4x.trans (hv.mono hB4x.size)
    exact ⟨i1.below hB, i2.below hB, i3.below hB, (hB.block _ (lt_of_block i4)).trans i4, i5.trans (hB.mono i5.size), ((o1.below hb4).below hv).rd, ((o2.below hb4).below hv).rd, (hv.block _ (lt_of_block p4)).trans p4⟩
  have g4 := (H4.out x4 (Below.refl _ _)).2.2.2.1
  rw [hx4] at g4
  have e0 : (w4.alloc (.cells #[.slice a1s R1.length c1s, .slice a2s R2.length c2s] 29)).cell? ⟨w3.heap.size, 0, none⟩ = some (.slice a1 R1.length c1) := cellN g4
  clear hx4 hb4 p4 hB4 hB4x o1 o2 H3 TS g4
  go_wp2_with fail
  rw [← HX4.out]
  clear HX4 e0
  refine (sameI_same _ _ R1 x4 (H4.out x4 (Below.refl _ _)).2.1 (H4.out x4 (Below.refl _ _)).2.2.2.2.2.1).mono ?_
  rintro r w5 ⟨rfl, B5⟩
  have h5 := H4.out w5 B5
  have e1 : w5.cell? ⟨w3.heap.size, 1, none⟩ = some (.slice a2 R2.length c2) := cellN h5.2.2.2.1
  have f1 : w5.cell? ⟨w4.heap.size, 1, none⟩ = some (.slice a2s R2.length c2s) := cellN h5.2.2.2.2.2.2.2
  have HB5 := (show Hid _ from B5)
  clear h5 B5
  go_wp2_with fail
  refine (sameI_same _ _ R2 w5 (H4.out w5 HB5.out).2.2.1 (H4.out w5 HB5.out).2.2.2.2.2.2.1).mono ?_
  rintro r w6 ⟨rfl, B6⟩
  have HB6 : Hid (Below x4.heap.size x4 w6) := HB5.out.trans (B6.mono HB5.out.size)
  clear B6 e1 f1
  go_wp2_with fail
  refine (CI.out w6 (H4.out w6 HB6.out).1).mono ?_
  rintro r w7 ⟨rfl, B7⟩
  have HB7 : Hid (Below x4.heap.size x4 w7) := HB6.out.trans (B7.mono HB6.out.size)
  clear B7
  go_wp2_with fail
  refine (CS.out w7 (H4.out w7 HB7.out).1).mono ?_
  rintro r w8 ⟨rfl, B8⟩
  have HB8 : Hid (Below x4.heap.size x4 w8) := HB7.out.trans (B8.mono HB7.out.size)
  clear B8
  go_wp2_with fail
  refine (KI.out w8 (H4.out w8 HB8.out).1).mono ?_
  rintro r w9 ⟨rfl, B9⟩
  have HB9 : Hid (Below x4.heap.size x4 w9) := HB8.out.trans (B9.mono HB8.out.size)
  clear B9
  go_wp2_with fail
  refine (KS.out w9 (H4.out w9 HB9.out).1).mono ?_
  rintro r w10 ⟨rfl, B10⟩
  have HB10 : Hid (Below x4.heap.size x4 w10) := HB9.out.trans (B10.mono HB9.out.size)
  clear B10 HB5 HB6 HB7 HB8 HB9
  cases hk : ok with
  | false =>
    subst hk
    go_wp2_with fail
    refine (CI.out w10 (H4.out w10 HB10.out).1).mono ?_
    rintro r w11 ⟨rfl, B11⟩
    have HB11 : Hid (Below x4.heap.size x4 w11) := HB10.out.trans (B11.mono HB10.out.size)
    clear B11
    go_wp2_with fail
    refine (CS.out w11 (H4.out w11 HB11.out).1).mono ?_
    rintro r w12 ⟨rfl, B12⟩
    have HB12 : Hid (Below x4.heap.size x4 w12) := HB11.out.trans (B12.mono HB11.out.size)
    have HE : Hid (Below w.heap.size w w12) := (H4.out w12 HB12.out).2.2.2.2.1
    clear B12
    go_wp2
    go_ret
    exact ⟨rfl, HE.out⟩
  | true =>
  subst hk
  obtain ⟨n, hn⟩ : ∃ n, n = R2.length := ⟨_, rfl⟩
  have HNL : Hid (n = R2.length) := hn
  have hn9 : n ≤ 9 := by rw [hn]; exact HRL.out
  go_wp2
  go_loopw [10] (fun i wr => ∃ (k : Nat), k ≤ n ∧ i = .int .i64 k ∧ Hid (Below x4.heap.size x4 wr)) (fun i _ => n - (intOf i).toNat)
  case atStart => exact ⟨0, Nat.zero_le _, rfl, HB10.out⟩
  case round =>
    obtain ⟨k, hk, rfl, HB⟩ := hrel
    obtain ⟨i1, i2, i3, i4, i5, _⟩ := H4.out wr HB.out
    have e0 : wr.cell? ⟨w3.heap.size, 0, none⟩ = some (.slice a1 R1.length c1) := cellN i4
    have e1 : wr.cell? ⟨w3.heap.size, 1, none⟩ = some (.slice a2 n c2) := by rw [hn]; exact cellN i4
    have HI2 := (show Hid _ from i2)
    by_cases hlt : k < n
    · have hltI : (k : Int) < (n : Int) := by omega
      have hkR : k < R2.length := by rw [← hn]; exact hlt
      obtain ⟨a2', c2', he, _, _, hc⟩ := i3
      simp only [Value.slice.injEq, true_and] at he
      obtain ⟨rfl, rfl⟩ := he
      obtain ⟨b, off, rfl, hbs, hcell⟩ := hc (by omega)
      obtain ⟨yv, hyv⟩ : ∃ yv, yv = R2.getD k 0 := ⟨_, rfl⟩
      have ck : wr.cell? ⟨b, off + k, none⟩ = some (.int .i64 yv) := by rw [hyv]; exact hcell k hkR
      have HTA : Hid (hasI R1 yv = true) := by show _ = _; rw [hyv]; exact TA.out (by trivial) k hkR
      have s0 : ∀ s : Later wr, s.val.cell? ⟨w3.heap.size, 0, none⟩ = some (.slice a1 R1.length c1) := fun s => s.cell e0
      have s1 : ∀ s : Later wr, s.val.cell? ⟨w3.heap.size, 1, none⟩ = some (.slice (some ⟨b, off, none⟩) n c2) := fun s => s.cell e1
      have s2 : ∀ s : Later wr, s.val.cell? ⟨b, off + k, none⟩ = some (.int .i64 yv) := fun s => s.cell ck
      have HXB : Hid (∀ t : Later wr, Calls Try.prog 15 #[.slice a1 R1.length c1, .int .i64 yv] t.val fun e w' => e = .returned (.bool true) ∧ Below t.val.heap.size t.val w') := fun t => by
        refine (hasInt_any _ R1 yv t.val (RdI.below HI2.out t.ok)).mono ?_
        rintro e w' ⟨rfl, hw⟩
        rw [hw, HTA.out]
        exact ⟨rfl, Below.refl _ _⟩
      have hne := Later.any wr
      clear i1 i2 i4 i5 hc hcell hyv hn ck
      go_wp2
      refine wp_region_later (by kernel_rfl) (by kernel_rfl) ?_
      repeat (go_big_quiet_step (first | (rename_i t; with_reducible exact Calls.later (HXB.out t))))
      refine wpQuiet_nil ?_
      rintro _ ⟨s5, rfl⟩
      have HF : Hid (Below x4.heap.size x4 s5.val) := HB.out.trans (s5.ok.mono HB.out.size)
      obtain ⟨w6, hw6⟩ : ∃ w6, w6 = s5.val := ⟨_, rfl⟩
      rw [← hw6] at HF ⊢
      clear hw6 s0 s1 s2 hne HXB s5 e0 e1
      go_wp2
      go_roundw
      case rel => exact ⟨k + 1, by omega, by go_num, HF⟩
      case measure => simp [intOf]; omega
    · have hke : k = n := by omega
      subst hke
      clear i1 i2 i3 i4 i5 hn
      go_wp2_with fail
      refine (TF.out (by trivial) wr (H4.out wr HB.out).1).mono ?_
      rintro r w11 ⟨b1, d1, b2, d2, y2, rfl, o1, o2, _, _, hB11⟩
      obtain ⟨x11, hx11⟩ : ∃ x11, x11 = w11.alloc (.cells #[.slice b1 1 d1, .slice b2 1 d2] 29) := ⟨_, rfl⟩
      have hb11 : Below w11.heap.size w11 x11 := by rw [hx11]; exact (Below.refl _ _).alloc (Nat.le_refl _) _
      have p11 : x11.heap[w11.heap.size]? = some (.cells #[.slice b1 1 d1, .slice b2 1 d2] 29 (0, 0)) := by rw [hx11]; exact heap_alloc_new _ _
      have hBx : Below wr.heap.size wr x11 := hB11.trans (hb11.mono hB11.size)
      have B11 : Below x4.heap.size x4 x11 := HB.out.trans (hBx.mono HB.out.size)
      have H11 : Hid (∀ v, Below x11.heap.size x11 v → Below x4.heap.size x4 v ∧ RdI v (.slice b1 1 d1) [1] ∧ RdI v (.slice b2 1 d2) [1] ∧ v.heap[w11.heap.size]? = some (.cells #[.slice b1 1 d1, .slice b2 1 d2] 29 (0, 0))) := fun v hv => ⟨B11.trans (hv.mono B11.size), ((o1.below hb11).below hv).rd, ((o2.below hb11).below hv).rd, (hv.block _ (lt_of_block p11)).trans p11⟩
      have HX11 := (show Hid _ from hx11)
      clear hx11 hb11 p11 hBx B11 o1 o2 hB11 e0 e1
      have hcwt : Hid (cw = hasI R1 who) := TC.out (by trivial)
      have enCI : ∀ args w, (callFunc 11 args).run Try.prog w = .ok (.enter 11 args) w := enters_of Try.func11 (by kernel_rfl) rfl
      have enHI : ∀ args w, (callFunc 15 args).run Try.prog w = .ok (.enter 15 args) w := enters_of Try.func15 (by kernel_rfl) rfl
      have enSI : ∀ args w, (callFunc 10 args).run Try.prog w = .ok (.enter 10 args) w := enters_of Try.func10 (by kernel_rfl) rfl
      have HEN := (show Hid _ from (And.intro enCI (And.intro enHI enSI)))
      clear enCI enHI enSI
      go_wp2
      rw [← HX11.out]
      clear HX11
      obtain ⟨enCI, enHI, enSI⟩ := HEN.out
      refine wp_cut_at (fun _ t w' => t.eval (.tmp 2) = .bool true ∧ t.defers = [] ∧ Hid (Below w.heap.size w w')) ?_ ?_
      · rintro t wy ⟨h2, h3, HF⟩
        rename_i hk
        refine hk _ _ (wp_ret ?_)
        exact bodyPost_ret (v := .bool true) ((results_tmp rfl _ _ _).trans (by rw [show t.tmps.getD 2 undef = .bool true from h2])) h3 ⟨rfl, HF.out⟩
      intro J K' hJ hK
      refine wp_named ?_
      intro fr hfr
      have hs : 129 < fr.tmps.size := by rw [hfr]; exact Nat.le_of_ble_eq_true rfl
      have t3 : fr.eval (.tmp 3) = .slice (some ⟨g, 0, none⟩) A.length c := by rw [hfr]; rfl
      have t4 : fr.eval (.tmp 4) = .int .i64 who := by rw [hfr]; rfl
      have t5 : fr.eval (.tmp 5) = .int .i64 z := by rw [hfr]; rfl
      have t6 : fr.eval (.tmp 6) = .pointer (some ⟨w3.heap.size, 0, none⟩) := by rw [hfr]; rfl
      have t11 : fr.eval (.tmp 11) = .pointer (some ⟨w11.heap.size, 0, none⟩) := by rw [hfr]; rfl
      have hdf : fr.defers = [] := by rw [hfr]
      clear hfr
      refine wp_region_facts' (by kernel_rfl) (by kernel_rfl) dsRo slotRo (RoF [.slice (some ⟨g, 0, none⟩) A.length c, .int .i64 who, .int .i64 z, .bool cw, .pointer (some ⟨w3.heap.size, 0, none⟩), .slice a1 R1.length c1, .int .i64 who, .bool cw, .bool true, .bool true, .pointer (some ⟨w11.heap.size, 0, none⟩), .slice b1 1 d1, .bool true, .bool true, .bool true, .bool true, .pointer (some ⟨w11.heap.size, 1, none⟩), .slice b2 1 d2, .bool true, .bool true, .bool true, .bool true]) (fun _ _ _ _ h hB => h.below hB) ?_ ?_ ?_ ?_
      · intro i hi
        have hi' : i < 22 := hi
        unfold slotRo
        split
        · decide
        · simp [dsRo]; omega
      · intro i j hi hj q
        have hi' : i < 22 := hi
        have hj' : j < 22 := hj
        unfold slotRo at q
        split at q <;> split at q <;> omega
      · intro ops hops f wy i o hy ho hd
        have ho2 := ho
        rw [hops] at ho
        have N3 := (canon_eval_ne fr dsRo f 3 (by decide)).trans t3
        have N4 := (canon_eval_ne fr dsRo f 4 (by decide)).trans t4
        have N5 := (canon_eval_ne fr dsRo f 5 (by decide)).trans t5
        have N6 := (canon_eval_ne fr dsRo f 6 (by decide)).trans t6
        have N11 := (canon_eval_ne fr dsRo f 11 (by decide)).trans t11
        have hi : i < 22 := by
          rcases Nat.lt_or_ge i 22 with h | h
          · exact h
          · rw [Array.getElem?_eq_none (by simpa using h)] at ho; cases ho
        have hi' : i = 0 ∨ i = 1 ∨ i = 2 ∨ i = 3 ∨ i = 4 ∨ i = 5 ∨ i = 6 ∨ i = 7 ∨ i = 8 ∨ i = 9 ∨ i = 10 ∨ i = 11 ∨ i = 12 ∨ i = 13 ∨ i = 14 ∨ i = 15 ∨ i = 16 ∨ i = 17 ∨ i = 18 ∨ i = 19 ∨ i = 20 ∨ i = 21 := by omega
        have W9 : f 118 = .bool true → _ := fun h => wantedG (a0 := fr) (ds := dsRo) (f := f) ho2 9 118 true (by rw [hops]; simp) (by decide) (Nat.lt_of_le_of_lt (by decide) hs) h
        have W15 : f 124 = .bool true → _ := fun h => wantedG (a0 := fr) (ds := dsRo) (f := f) ho2 15 124 true (by rw [hops]; simp) (by decide) (Nat.lt_of_le_of_lt (by decide) hs) h
        clear hops
        rcases hi' with rfl | rfl | rfl | rfl | rfl | rfl | rfl | rfl | rfl | rfl | rfl | rfl | rfl | rfl | rfl | rfl | rfl | rfl | rfl | rfl | rfl | rfl <;> simp only [List.getElem?_toArray, List.getElem?_cons_succ, List.getElem?_cons_zero, Option.some.injEq] at ho <;> subst ho
        · refine wpOp_runG ho2 (wanted_none rfl) (q_move (canon fr dsRo f).eval _ wy _ rfl) ?_
          exact ⟨_, rfl, RoF.mk (by decide) (by decide) N3, Below.refl _ _⟩
        · refine wpOp_runG ho2 (wanted_none rfl) (q_move (canon fr dsRo f).eval _ wy _ rfl) ?_
          exact ⟨_, rfl, RoF.mk (by decide) (by decide) N4, Below.refl _ _⟩
        · refine wpOp_runG ho2 (wanted_none rfl) (q_move (canon fr dsRo f).eval _ wy _ rfl) ?_
          exact ⟨_, rfl, RoF.mk (by decide) (by decide) N5, Below.refl _ _⟩
        · refine wpOp_enterG ho2 (wanted_none rfl) (q_call3 (canon fr dsRo f).eval _ wy _ enCI _ _ _ _ rfl rfl) ?_
          rw [((canon_eval fr dsRo f 109 (by decide) (Nat.lt_of_le_of_lt (by decide) hs)).trans ((hd ⟨0, .data⟩ (by simp) rfl).eq (by decide) (by decide))), ((canon_eval fr dsRo f 110 (by decide) (Nat.lt_of_le_of_lt (by decide) hs)).trans ((hd ⟨1, .data⟩ (by simp) rfl).eq (by decide) (by decide))), ((canon_eval fr dsRo f 111 (by decide) (Nat.lt_of_le_of_lt (by decide) hs)).trans ((hd ⟨2, .data⟩ (by simp) rfl).eq (by decide) (by decide)))]
          refine (CI.out wy (H4.out wy (H11.out wy hy).1).1).mono ?_
          rintro e wz ⟨rfl, hz⟩
          exact ⟨_, rfl, _, rfl, RoF.mk (by decide) (by decide) rfl, hz⟩
        · refine wpOp_runG ho2 (wanted_none rfl) (r_field (canon fr dsRo f).eval _ wy _ 0 w3.heap.size (by decide) rfl N6) ?_
          exact ⟨_, rfl, RoF.mk (by decide) (by decide) rfl, Below.refl _ _⟩
        · refine wpOp_runG ho2 (wanted_none rfl) (r_loadS (canon fr dsRo f).eval _ wy _ w3.heap.size 0 a1 R1.length c1 rfl ((canon_eval fr dsRo f 113 (by decide) (Nat.lt_of_le_of_lt (by decide) hs)).trans ((hd ⟨4, .data⟩ (by simp) rfl).eq (by decide) (by decide))) (cellN (H4.out wy (H11.out wy hy).1).2.2.2.1)) ?_
          exact ⟨_, rfl, RoF.mk (by decide) (by decide) rfl, Below.refl _ _⟩
        · refine wpOp_runG ho2 (wanted_none rfl) (q_move (canon fr dsRo f).eval _ wy _ rfl) ?_
          exact ⟨_, rfl, RoF.mk (by decide) (by decide) N4, Below.refl _ _⟩
        · refine wpOp_enterG ho2 (wanted_none rfl) (q_call2 (canon fr dsRo f).eval _ wy _ enHI _ _ _ rfl rfl) ?_
          rw [((canon_eval fr dsRo f 114 (by decide) (Nat.lt_of_le_of_lt (by decide) hs)).trans ((hd ⟨5, .data⟩ (by simp) rfl).eq (by decide) (by decide))), ((canon_eval fr dsRo f 115 (by decide) (Nat.lt_of_le_of_lt (by decide) hs)).trans ((hd ⟨6, .data⟩ (by simp) rfl).eq (by decide) (by decide)))]
          refine (hasInt_any _ R1 who wy (H4.out wy (H11.out wy hy).1).2.1).mono ?_
          rintro e wz ⟨rfl, hz⟩
          exact ⟨_, rfl, _, rfl, RoF.mk (by decide) (by decide) (by rw [← hcwt.out]; rfl), by rw [hz]; exact Below.refl _ _⟩
        · refine wpOp_runG ho2 (wanted_none rfl) (q_eql (canon fr dsRo f).eval _ wy _ _ cw rfl ((canon_eval fr dsRo f 112 (by decide) (Nat.lt_of_le_of_lt (by decide) hs)).trans ((hd ⟨3, .data⟩ (by simp) rfl).eq (by decide) (by decide))) ((canon_eval fr dsRo f 116 (by decide) (Nat.lt_of_le_of_lt (by decide) hs)).trans ((hd ⟨7, .data⟩ (by simp) rfl).eq (by decide) (by decide)))) ?_
          exact ⟨_, rfl, RoF.mk (by decide) (by decide) rfl, Below.refl _ _⟩
        · refine wpOp_runG ho2 (wanted_none rfl) (q_move (canon fr dsRo f).eval _ wy _ rfl) ?_
          exact ⟨_, rfl, RoF.mk (by decide) (by decide) ((canon_eval fr dsRo f 117 (by decide) (Nat.lt_of_le_of_lt (by decide) hs)).trans ((hd ⟨8, .data⟩ (by simp) rfl).eq (by decide) (by decide))), Below.refl _ _⟩
        · have G9 : f 118 = .bool true := by
            have g3 := hd ⟨9, .guard⟩ (by simp) (by decide)
            have g4 : RoF _ 9 (f 118) wy := g3
            exact g4.eq (by decide) (by decide)
          refine wpOp_runG ho2 (W9 G9 _ rfl) (r_field (canon fr dsRo f).eval _ wy _ 0 w11.heap.size (by decide) rfl N11) ?_
          exact ⟨_, rfl, RoF.mk (by decide) (by decide) rfl, Below.refl _ _⟩
        · have G9 : f 118 = .bool true := by
            have g3 := hd ⟨9, .guard⟩ (by simp) (by decide)
            have g4 : RoF _ 9 (f 118) wy := g3
            exact g4.eq (by decide) (by decide)
          refine wpOp_runG ho2 (W9 G9 _ rfl) (r_loadS (canon fr dsRo f).eval _ wy _ w11.heap.size 0 b1 1 d1 rfl ((canon_eval fr dsRo f 119 (by decide) (Nat.lt_of_le_of_lt (by decide) hs)).trans ((hd ⟨10, .data⟩ (by simp) rfl).eq (by decide) (by decide))) (cellN (H11.out wy hy).2.2.2)) ?_
          exact ⟨_, rfl, RoF.mk (by decide) (by decide) rfl, Below.refl _ _⟩
        · have G9 : f 118 = .bool true := by
            have g3 := hd ⟨9, .guard⟩ (by simp) (by decide)
            have g4 : RoF _ 9 (f 118) wy := g3
            exact g4.eq (by decide) (by decide)
          refine wpOp_runG ho2 (W9 G9 _ rfl) (q_lit1 (canon fr dsRo f).eval _ wy _ rfl rfl) ?_
          exact ⟨_, rfl, RoF.mkLit wy (by decide), (Below.refl _ _).alloc (Nat.le_refl _) _⟩
        · have G9 : f 118 = .bool true := by
            have g3 := hd ⟨9, .guard⟩ (by simp) (by decide)
            have g4 : RoF _ 9 (f 118) wy := g3
            exact g4.eq (by decide) (by decide)
          obtain ⟨p, _, hr⟩ := (hd ⟨12, .data⟩ (by simp) rfl).lit (by decide)
          refine wpOp_enterG ho2 (W9 G9 _ rfl) (q_call2 (canon fr dsRo f).eval _ wy _ enSI _ _ _ rfl rfl) ?_
          rw [((canon_eval fr dsRo f 120 (by decide) (Nat.lt_of_le_of_lt (by decide) hs)).trans ((hd ⟨11, .data⟩ (by simp) rfl).eq (by decide) (by decide))), (canon_eval fr dsRo f 121 (by decide) (Nat.lt_of_le_of_lt (by decide) hs))]
          refine (sameI_same _ _ [1] wy (H11.out wy hy).2.1 hr).mono ?_
          rintro e wz ⟨rfl, hz⟩
          exact ⟨_, rfl, _, rfl, RoF.mk (by decide) (by decide) rfl, hz⟩
        · refine wpOp_runG ho2 (wanted_none rfl) (q_pick (canon fr dsRo f).eval _ wy _ _ _ rfl ((canon_eval fr dsRo f 118 (by decide) (Nat.lt_of_le_of_lt (by decide) hs)).trans ((hd ⟨9, .data⟩ (by simp) rfl).eq (by decide) (by decide)))) ?_
          exact ⟨_, rfl, RoF.mk (by decide) (by decide) ((canon_eval fr dsRo f 122 (by decide) (Nat.lt_of_le_of_lt (by decide) hs)).trans ((hd ⟨13, .data⟩ (by simp) rfl).eq (by decide) (by decide))), Below.refl _ _⟩
        · refine wpOp_runG ho2 (wanted_none rfl) (q_move (canon fr dsRo f).eval _ wy _ rfl) ?_
          exact ⟨_, rfl, RoF.mk (by decide) (by decide) ((canon_eval fr dsRo f 123 (by decide) (Nat.lt_of_le_of_lt (by decide) hs)).trans ((hd ⟨14, .data⟩ (by simp) rfl).eq (by decide) (by decide))), Below.refl _ _⟩
        · have G15 : f 124 = .bool true := by
            have g3 := hd ⟨15, .guard⟩ (by simp) (by decide)
            have g4 : RoF _ 15 (f 124) wy := g3
            exact g4.eq (by decide) (by decide)
          refine wpOp_runG ho2 (W15 G15 _ rfl) (r_field (canon fr dsRo f).eval _ wy _ 1 w11.heap.size (by decide) rfl N11) ?_
          exact ⟨_, rfl, RoF.mk (by decide) (by decide) rfl, Below.refl _ _⟩
        · have G15 : f 124 = .bool true := by
            have g3 := hd ⟨15, .guard⟩ (by simp) (by decide)
            have g4 : RoF _ 15 (f 124) wy := g3
            exact g4.eq (by decide) (by decide)
          refine wpOp_runG ho2 (W15 G15 _ rfl) (r_loadS (canon fr dsRo f).eval _ wy _ w11.heap.size 1 b2 1 d2 rfl ((canon_eval fr dsRo f 125 (by decide) (Nat.lt_of_le_of_lt (by decide) hs)).trans ((hd ⟨16, .data⟩ (by simp) rfl).eq (by decide) (by decide))) (cellN (H11.out wy hy).2.2.2)) ?_
          exact ⟨_, rfl, RoF.mk (by decide) (by decide) rfl, Below.refl _ _⟩
        · have G15 : f 124 = .bool true := by
            have g3 := hd ⟨15, .guard⟩ (by simp) (by decide)
            have g4 : RoF _ 15 (f 124) wy := g3
            exact g4.eq (by decide) (by decide)
          refine wpOp_runG ho2 (W15 G15 _ rfl) (q_lit1 (canon fr dsRo f).eval _ wy _ rfl rfl) ?_
          exact ⟨_, rfl, RoF.mkLit wy (by decide), (Below.refl _ _).alloc (Nat.le_refl _) _⟩
        · have G15 : f 124 = .bool true := by
            have g3 := hd ⟨15, .guard⟩ (by simp) (by decide)
            have g4 : RoF _ 15 (f 124) wy := g3
            exact g4.eq (by decide) (by decide)
          obtain ⟨p, _, hr⟩ := (hd ⟨18, .data⟩ (by simp) rfl).lit (by decide)
          refine wpOp_enterG ho2 (W15 G15 _ rfl) (q_call2 (canon fr dsRo f).eval _ wy _ enSI _ _ _ rfl rfl) ?_
          rw [((canon_eval fr dsRo f 126 (by decide) (Nat.lt_of_le_of_lt (by decide) hs)).trans ((hd ⟨17, .data⟩ (by simp) rfl).eq (by decide) (by decide))), (canon_eval fr dsRo f 127 (by decide) (Nat.lt_of_le_of_lt (by decide) hs))]
          refine (sameI_same _ _ [1] wy (H11.out wy hy).2.2.1 hr).mono ?_
          rintro e wz ⟨rfl, hz⟩
          exact ⟨_, rfl, _, rfl, RoF.mk (by decide) (by decide) rfl, hz⟩
        · refine wpOp_runG ho2 (wanted_none rfl) (q_pick (canon fr dsRo f).eval _ wy _ _ _ rfl ((canon_eval fr dsRo f 124 (by decide) (Nat.lt_of_le_of_lt (by decide) hs)).trans ((hd ⟨15, .data⟩ (by simp) rfl).eq (by decide) (by decide)))) ?_
          exact ⟨_, rfl, RoF.mk (by decide) (by decide) ((canon_eval fr dsRo f 128 (by decide) (Nat.lt_of_le_of_lt (by decide) hs)).trans ((hd ⟨19, .data⟩ (by simp) rfl).eq (by decide) (by decide))), Below.refl _ _⟩
        · refine wpOp_runG ho2 (wanted_none rfl) (q_assign (canon fr dsRo f).eval _ wy _ rfl) ?_
          exact ⟨_, rfl, RoF.mk (by decide) (by decide) ((canon_eval fr dsRo f 129 (by decide) (Nat.lt_of_le_of_lt (by decide) hs)).trans ((hd ⟨20, .data⟩ (by simp) rfl).eq (by decide) (by decide))), Below.refl _ _⟩
      · intro f wy hy hall
        have h21 : f 2 = .bool true := (hall 21 (by decide)).eq (by decide) (by decide)
        have HF : Hid (Below w.heap.size w wy) := (H4.out wy (H11.out wy hy).1).2.2.2.2.1
        exact hK _ _ (Met.intro (hJ _ _ ⟨(canon_eval fr dsRo f 2 (by decide) (Nat.lt_of_le_of_lt (by decide) hs)).trans h21, (canon_defers dsRo f fr).trans hdf, HF⟩))

set_option maxRecDepth 100000 in
theorem rosters_lifted (os : Os) (started : os.Started) (H : Type) (enc : TypeId × Value → H) :
    ReturnsInHanded {} Try.checked os 3 .any (Rows.fnRostersSpec.pre6 enc Try.prog Try.f3 Rows.fnRostersRow.domain false) (Rows.fnRostersSpec.post enc Try.prog Try.f3 false true false false) := by
  refine returnsInHanded_of_change (C := Try.checked) own started (by kernel_rfl) Try.func3
    (ChangeSpec.witness6 (enc := enc) (C := Try.checked) false ⟨#[], #[.slice none 0 0], []⟩ 8 (by kernel_rfl) (by kernel_rfl) (by kernel_rfl) (by kernel_rfl)) ?_
  intro W base args ds gs before hval0 hW hcnd _
  have hval : ∀ (j : Nat) t v, Try.f3.params[j]? = some t → args[j]? = some v → Value.okWide Try.prog W .any base t v := hval0
  have hW' := hW
  obtain ⟨p, q, hA0, hV, rfl, hfz, hnd⟩ := hW
  have hA : DataW.TrodAll enc Try.prog W 0 (fun _ => true) true Try.f3.params.toList args.toList ds p := hA0
  rw [Try.params3] at hA hval
  obtain ⟨v0, vs0, d0, ds0, p0, q0, hargs, rfl, rfl, h0, r0⟩ := trodAll_cons hA
  obtain ⟨rfl, rfl, rfl⟩ := trodAll_nil r0
  obtain rfl : args = #[v0] := by cases args; simp_all
  obtain ⟨rfl, rfl⟩ := trodVars_none hV
  obtain ⟨a0, len0, cap0, rfl⟩ := okWide_slice Try.underlying22 (hval 0 22 v0 rfl rfl)
  have k0 := h0
  have lt0 : ∀ x ∈ p0, x.block < W.heap.size := by obtain ⟨m, hm⟩ := k0; exact DataW.trod_lt m _ _ _ hm
  obtain ⟨Z, w0⟩ : ∃ Z, IsU8 W a0 len0 cap0 Z := by
    obtain ⟨fuel, hf⟩ := h0
    obtain ⟨a, len, cap, Z, e, hI⟩ := open_u8 (by simpa [Value.cells] using hf)
    simp at e
    obtain ⟨rfl, rfl, rfl⟩ := e
    exact ⟨Z, hI⟩
  clear hA0 hval0
  refine (rosters_walk W w0).mono fun e W' ⟨he, bel⟩ => ?_
  subst he
  exact ⟨_, rfl, _, _, _, [], _, [], hW', trodAll_mk1 (shut_bool Try.underlying4 _), (trodAll_cons_mk (Below.trod laidOut (by kernel_rfl) (of_decide_eq_true (by kernel_rfl)) k0 bel lt0) trodAll_mk0), rfl, bel.frame _, fun h => by cases h⟩

theorem rosters_proved : Rows.FnRostersSaid :=
  OpenClaim.holds_of_wide 3 Try.f3 rfl rfl rfl rfl rfl rfl rfl ⟨rfl, rfl, rfl, rfl, rfl⟩ rfl rfl rfl rfl rfl (by kernel_rfl) Try.func3 (by kernel_rfl)
    (of_decide_eq_true (by kernel_rfl)) (by unfold Func.isWrapper; first | (rw [if_pos (by decide +kernel)]; kernel_rfl) | (rw [if_neg (by decide +kernel)]; exact ⟨rfl, rfl⟩))
    (fun os started H enc _ => rosters_lifted os started H enc)
#print axioms rosters_proved
end Go.Proofs.Ythdlgnbdppijkaa
