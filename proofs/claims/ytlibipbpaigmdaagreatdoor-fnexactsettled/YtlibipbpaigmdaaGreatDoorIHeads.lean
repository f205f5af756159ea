/-
  The program's heads of a dag are the specification's. No condition but that the slice reads and that the tables lie.
-/
import Derived.Test.YtlibipbpaigmdaaGreatDoorSHeads
import Derived.Test.YtlibipbpaigmdaaGreatDoorDag7
namespace Go.Proofs.YtlibipbpaigmdaaGreatDoor
open Go.RowKit Go.Maps
set_option linter.unusedVariables false

theorem lit_of (x : List UInt8) : keyL (tx x) = .string x := by simp [keyL, tx]
theorem keyL_list (s : ByteArray) : keyL s = .string s.toList := by rw [keyL, ByteArray.toList_eq]
theorem tx_list (x : List UInt8) : (tx x).toList = x := by rw [ByteArray.toList_eq]; simp [tx]
theorem tx_of (s : ByteArray) : tx s.toList = s := by rw [ByteArray.toList_eq]; rfl

theorem mapD_mem (D : Nat → Nd) (b off k : Nat) (x : List UInt8) : has (mapD D b off k) (.string x) = true ↔ ∃ i, i < k ∧ (ids D i).toList = x := by
  constructor
  · intro h
    cases ho : outB (ids D) k (tx x) with
    | true =>
      have := has_false_of_atKey (fun z => (mapD_at D b off (tx x) k).1 ho z)
      rw [lit_of, h] at this
      cases this
    | false =>
      obtain ⟨i, hi, e⟩ := (outB_iff (ids D) (tx x) k).1 ho
      exact ⟨i, hi, by rw [e, tx_list]⟩
  · rintro ⟨i, hi, rfl⟩
    rw [← keyL_list]
    exact mapD_has D b off k i hi

theorem clone38_any {R : Value → Option (DataW Value × List MemPlace)} (b n : Nat) (E : DataW Value) (w : World) (hown : w.ownsMap Tryz.prog 9 R b n E) :
    Calls Tryz.prog 118 #[.map (some b)] w fun e w' => e = .returned (.map (some w.heap.size)) ∧ w'.ownsMap Tryz.prog 9 R w.heap.size n E ∧ Below w.heap.size w w' := by
  refine (AnyW.maps_Clone_owns Tryz.clone38 9 R b n E w hown).mono ?_
  rintro e w' ⟨rfl, h1, h2, hB⟩
  exact ⟨rfl, h1, hB⟩

/-- which texts are left over when the ups of the nodes that v names are struck -/
def Freed (D : Nat → Nd) (len : Nat) (M : DataW Value) (v : Nat → Prop) (E : DataW Value) : Prop :=
  ∀ x, has E (.string x) = true ↔ has M (.string x) = true ∧ ∀ i, i < len → v i → ∀ j, j < (D i).n → ((D i).S j).toList ≠ x

theorem has_del (E : DataW Value) (s : ByteArray) (x : List UInt8) : has (E.del (keyL s)) (.string x) = true ↔ has E (.string x) = true ∧ s.toList ≠ x := by
  by_cases he : s.toList = x
  · subst he
    rw [← keyL_list, has_del_same]
    simp
  · rw [has_del_other (k := keyL s) (by rw [keyL_list]; intro h; apply he; simpa using h.symm)]
    simp [he]

theorem allB_iff {p : Nat → Bool} {n : Nat} : allB p n = true ↔ ∀ i, i < n → p i = true := by
  constructor
  · intro ha i hi
    cases hq : p i with
    | true => rfl
    | false => rw [allB_false hi hq] at ha; cases ha
  · exact fun h => allB_true h
theorem freeB_iff (D : Nat → Nd) (m : Nat) (s : ByteArray) : freeB D m s = true ↔ ∀ t, t < m → ∀ j, j < (D t).n → ((D t).S j).toList ≠ s.toList := by
  unfold freeB
  rw [allB_iff]
  constructor
  · intro h t ht j hj e
    have h1 := h t ht
    have h2 := (outB_iff (D t).S s (D t).n).2 ⟨j, hj, e⟩
    rw [h2] at h1
    cases h1
  · intro h t ht
    cases hq : outB (D t).S (D t).n s with
    | true => rfl
    | false =>
      obtain ⟨j, hj, e⟩ := (outB_iff (D t).S s (D t).n).1 hq
      exact absurd e (h t ht j hj)
theorem heads_of_freed {D : Nat → Nd} {len b off : Nat} {E : DataW Value} {L : List (List UInt8)} (hq : dagB D len = true) (hF : Freed D len (mapD D b off len) (fun _ => True) E) (hU : Up L) (hM : ∀ x, x ∈ L ↔ has E (.string x) = true) : L = headsR D len := by
  have e1 : headsR D len = headsL D len len := by unfold headsR; rw [if_pos hq]
  rw [e1]
  refine up_unique hU (headsL_up (dagB_parts hq).2.2.1 len len (Nat.le_refl _)) (fun x => ?_)
  rw [hM, hF x, headsL_mem, mapD_mem]
  constructor
  · rintro ⟨⟨i, hi, rfl⟩, h2⟩
    exact ⟨i, hi, (freeB_iff D len _).2 (fun t ht j hj => h2 t ht trivial j hj), rfl⟩
  · rintro ⟨i, hi, hf, rfl⟩
    exact ⟨⟨i, hi, rfl⟩, fun t ht _ j hj => (freeB_iff D len _).1 hf t ht j hj⟩

theorem ranges_below_kept {w w' : World} {B r n cnt Hb : Nat} {E : DataW Value} {left : Lit → Bool} (h : w.ranges Tryz.prog 9 PR B r n E left cnt) (hg : w.grownBy w' (some Hb)) (h1 : B ≠ Hb) (h2 : r ≠ Hb) : w'.ranges Tryz.prog 9 PR B r n E left cnt :=
  h.kept hg (by simpa using h1) (by simpa using h2)

set_option maxHeartbeats 2000000 in
theorem implHeadsOf_any (a : Option Addr) (len cap : Nat) (D : Nat → Nd) (w : World) (h : IsNds w a len cap D) (hf : Fine D len) (hP : AllT w) :
    Calls Tryz.prog 51 #[.slice a len cap] w fun e w' => ∃ v, e = .returned v ∧ OwnL w' w.heap.size v (headsR D len) ∧ Below w.heap.size w w' := by
  have HN : Hid (IsNds w a len cap D) := h
  have HF : Hid (Fine D len) := hf
  have HD : Hid (Calls Tryz.prog 88 #[.slice a len cap] w fun e w' => ∃ v, e = .returned (.tuple #[v, .bool (dagB D len)]) ∧ (dagB D len = true → ∃ B b off, v = .map (some B) ∧ w.heap.size ≤ B ∧ (0 < len → a = some ⟨b, off, none⟩) ∧ w'.ownsMap Tryz.prog 9 PR B len (mapD D b off len)) ∧ Below w.heap.size w w') := dagOf_any a len cap D w h hf hP
  clear h hf
  cases hq : dagB D len with
  | false =>
    have HR : Hid (headsR D len = []) := by show _ = _; unfold headsR; rw [if_neg (by rw [hq]; decide)]
    rw [hq] at HD
    go_enter Tryz.func51, Tryz.ntmps51
    go_wp2_with (go_at_call 88; refine HD.out.mono ?_; rintro e w1 ⟨v, rfl, _, hB1⟩)
    go_ret
    refine ⟨_, rfl, ?_, hB1⟩
    rw [HR.out]
    exact World.ownsRow_nil _ _ _ _
  | true =>
    have HQ : Hid (dagB D len = true) := hq
    rw [hq] at HD
    go_enter Tryz.func51, Tryz.ntmps51
    go_wp2_with (first
      | (go_at_call 88
         refine HD.out.mono ?_
         rintro e w1 ⟨v, rfl, hm, hB1⟩
         obtain ⟨B, b, off, rfl, hBB, hab, hown⟩ := hm rfl
         have HO : Hid (w1.ownsMap Tryz.prog 9 PR B len (mapD D b off len)) := hown
         have HB1 : Hid (Below w.heap.size w w1) := hB1
         have HAB : Hid (0 < len → a = some ⟨b, off, none⟩) := hab
         clear hown hB1 hab hm)
      | (go_at_call 118
         refine (clone38_any B len (mapD D b off len) w1 HO.out).mono ?_
         rintro e w2 ⟨rfl, hc2, hB2⟩
         have HC2 : Hid (w2.ownsMap Tryz.prog 9 PR w1.heap.size len (mapD D b off len)) := hc2
         have HO2 : Hid (w2.ownsMap Tryz.prog 9 PR B len (mapD D b off len)) := ownsMap_below HO.out hB2
         have HB2 : Hid (Below w.heap.size w w2) := HB1.out.trans (hB2.mono HB1.out.size)
         clear hc2 hB2)
      | (at_range
         refine wpList_range_own _ rfl _ 81 rfl 9 92 lawS Tryz.underlying81 PR B len (mapD D b off len) rfl HO2.out ?_
         intro w0 hrg0 hg0 hs0))
    go_frame
    have hHB : B ≠ w1.heap.size := by have := HO.out.lt; omega
    have hHr : w2.heap.size ≠ w1.heap.size := by have := HC2.out.lt; omega
    have HHB : Hid (B ≠ w1.heap.size ∧ w2.heap.size ≠ w1.heap.size ∧ w.heap.size ≤ w1.heap.size) := ⟨hHB, hHr, HB1.out.size⟩
    have HR0 : Hid (w0.ranges Tryz.prog 9 PR B w2.heap.size len (mapD D b off len) (has (mapD D b off len)) (Maps.size (mapD D b off len))) := hrg0
    have HC0 : Hid (w0.ownsMap Tryz.prog 9 PR w1.heap.size len (mapD D b off len)) := HC2.out.kept hg0 (by simp)
    have HB0 : Hid (Below w.heap.size w w0) := HB2.out.grown hg0 HB2.out.size (fun j hj => by cases hj)
    clear hrg0 hg0 hs0 hHB hHr
    go_loopw [7] (fun _ wr => ∃ (left : Lit → Bool) (cnt : Nat) (E : DataW Value), wr.ranges Tryz.prog 9 PR B w2.heap.size len (mapD D b off len) left cnt ∧ wr.ownsMap Tryz.prog 9 PR w1.heap.size len E ∧ Hid (Freed D len (mapD D b off len) (fun i => left (keyL (ids D i)) = false) E) ∧ Below w.heap.size w wr)
      (fun _ wr => wr.rangeLeft B w2.heap.size)
    case atStart => exact ⟨_, _, _, HR0.out, HC0.out, (fun x => ⟨fun hx => ⟨hx, fun i hi hv => by have hv' : has (mapD D b off len) (keyL (ids D i)) = false := hv; rw [mapD_has D b off len i hi] at hv'; cases hv'⟩, fun hx => hx.1⟩), HB0.out⟩
    case round =>
      obtain ⟨left, cnt, E, hrg, hE, HS, hB⟩ := hrel
      have HG : Hid (wr.ranges Tryz.prog 9 PR B w2.heap.size len (mapD D b off len) left cnt) := hrg
      have HE := (show Hid _ from hE)
      have HB := (show Hid _ from hB)
      clear hE hB
      go_wp2_with (first
        | (at_next; refine wpList_next_ranges _ rfl _ rfl 9 lawS PR Value.string Value.pointer keyS_inv PR_inv B w2.heap.size len _ _ _ rfl hrg ?_ ?_))
      · intro _ hl0
        clear hrg
        have HFr : Hid (Freed D len (mapD D b off len) (fun _ => True) E) := fun x => by
          rw [HS.out x]
          exact ⟨fun hx => ⟨hx.1, fun i hi _ => hx.2 i hi (hl0 _)⟩, fun hx => ⟨hx.1, fun i hi _ => hx.2 i hi trivial⟩⟩
        have HL : Hid (len ≤ 1000000) := by have := (dagB_parts HQ.out).1; show _ ≤ _; omega
        clear hl0 HS
        go_wp2_with (first
          | (go_at_call 91; refine (Tryz.maps_Keys_40 _ _).mono ?_; rintro e w' ⟨rfl, hw'⟩; rw [hw']; clear hw' w')
          | (go_at_call 90; refine (sorted40 w1.heap.size len E PR _ HE.out HL.out).mono ?_; rintro e w4 ⟨v, L, rfl, hU, hM, hO4, hB4⟩))
        go_ret
        refine ⟨v, rfl, ?_, HB.out.trans (hB4.mono HB.out.size)⟩
        rw [← heads_of_freed HQ.out HFr.out hU hM]
        exact mono_base hO4 HB.out.size
      · intro x c kl y ps w3 cnt3 hkx hlk hRv hat hrg3 hlt3 hg3 hs3 hen
        have hkl := keyS_lit hkx
        subst hkl
        obtain ⟨i, hi, hix, hc⟩ : ∃ i, i < len ∧ (ids D i).toList = x.toList ∧ c = some ⟨b, off + i * 6, none⟩ := by
          have hy : y = .held (.pointer c) := by
            simp only [PR, Option.some.injEq, Prod.mk.injEq] at hRv
            exact hRv.1.symm
          cases ho : outB (ids D) len x with
          | true =>
            have h1 := hat .nil
            rw [(mapD_at D b off x len).1 ho, hy] at h1
            cases h1
          | false =>
            obtain ⟨i, hi, e, ha⟩ := (mapD_at D b off x len).2 ho
            have h1 := hat .nil
            rw [ha, hy] at h1
            simp only [ptr, DataW.held.injEq, Value.pointer.injEq] at h1
            exact ⟨i, hi, e, h1.symm⟩
        subst hc
        have hB3 : Below w.heap.size w w3 := HB.out.grown hg3 HB.out.size (fun j hj => by cases hj; exact HB2.out.size)
        have nd : NdAt w3 b (off + i * 6) (D i) := dag_at (HN.out.below hB3) (HAB.out (by omega)) i hi
        have c5 := nd.c5
        have HU : Hid (IsStrs w (D i).u (D i).n (D i).cap (D i).S) := (dag_at HN.out (HAB.out (by omega)) i hi).i
        have hu1 := nd.i.1
        have hu2 := nd.i.2.1
        have HE3 : Hid (w3.ownsMap Tryz.prog 9 PR w1.heap.size len E) := World.ownsMap.kept HE.out hg3 (by simpa using fun e => HHB.out.2.1 e.symm)
        have HG3 : Hid (w3.ranges Tryz.prog 9 PR B w2.heap.size len (mapD D b off len) (fun z => left z && !z.sameKey (keyL x)) cnt3) := hrg3
        have HB3 : Hid (Below w.heap.size w w3) := hB3
        have HLT : Hid (cnt3 < cnt) := hlt3
        have HIX : Hid ((ids D i).toList = x.toList) := hix
        clear hrg hrg3 hRv hat hkx hlk hg3 hs3 nd hB3 hlt3 hix
        go_wp2
        go_loopw [30] (fun q wr => ∃ (j : Nat) (E' : DataW Value), j ≤ (D i).n ∧ q = .int .i64 j ∧ wr.ranges Tryz.prog 9 PR B w2.heap.size len (mapD D b off len) (fun z => left z && !z.sameKey (keyL x)) cnt3 ∧ wr.ownsMap Tryz.prog 9 PR w1.heap.size len E' ∧ Hid (∀ z, has E' (.string z) = true ↔ has E (.string z) = true ∧ ∀ t, t < j → ((D i).S t).toList ≠ z) ∧ w3.grownBy wr (some w1.heap.size))
          (fun q _ => (D i).n - (intOf q).toNat)
        case atStart => exact ⟨0, E, Nat.zero_le _, rfl, HG3.out, HE3.out, (fun z => ⟨fun h => ⟨h, fun t ht => absurd ht (Nat.not_lt_zero _)⟩, fun h => h.1⟩), World.grownBy.refl _ _⟩
        case round =>
          obtain ⟨j, E', hj, rfl, hrg4, hE4, HS4, hg4⟩ := hrel
          have HG4 : Hid (wr.ranges Tryz.prog 9 PR B w2.heap.size len (mapD D b off len) (fun z => left z && !z.sameKey (keyL x)) cnt3) := hrg4
          have HE4 := (show Hid _ from hE4)
          have HW4 := (show Hid _ from hg4)
          clear hrg4 hE4
          by_cases hjt : j < (D i).n
          · have hjI : (j : Int) < ((D i).n : Int) := by omega
            obtain ⟨ub, uo, hu, hubs, hucell⟩ := HU.out.2.2 (by omega)
            have hB4 : Below w.heap.size w wr := HB3.out.grown hg4 HB3.out.size (fun k hk => by cases hk; exact HHB.out.2.2)
            have d1 := (hB4.cell (p := ⟨ub, uo + j, none⟩) hubs).trans (hucell j hjt)
            have hkey : keyOf Tryz.prog 9 (.string ((D i).S j)) = some (keyL ((D i).S j)) := keyS ((HF.out i hi).2.2 j hjt)
            clear hucell hB4 hg4
            rw [hu]
            go_wp2_with (at_delete; refine wpList_delete_own _ rfl _ _ 81 9 rfl 92 lawS Tryz.underlying81 PR w1.heap.size len E' rfl HE4.out _ _ rfl hkey ?_; intro w5 hown5 hturn5)
            go_roundw
            case rel =>
              have hg5 := hturn5.grown
              refine ⟨j + 1, E'.del (keyL ((D i).S j)), by omega, by go_num, ranges_below_kept HG4.out hg5 HHB.out.1 HHB.out.2.1, hown5, fun z => ?_, World.grownBy.trans HW4.out hg5⟩
              rw [has_del, HS4.out z]
              constructor
              · rintro ⟨⟨h1, h2⟩, h3⟩
                refine ⟨h1, fun t ht => ?_⟩
                rcases Nat.lt_succ_iff_lt_or_eq.1 ht with h4 | rfl
                · exact h2 t h4
                · exact h3
              · rintro ⟨h1, h2⟩
                exact ⟨⟨h1, fun t ht => h2 t (by omega)⟩, h2 j (Nat.lt_succ_self _)⟩
            case measure => simp [intOf]; omega
          · have hje : j = (D i).n := by omega
            have HB4 : Hid (Below w.heap.size w wr) := HB3.out.grown hg4 HB3.out.size (fun k hk => by cases hk; exact HHB.out.2.2)
            have HFr : Hid (Freed D len (mapD D b off len) (fun i' => (left (keyL (ids D i')) && !(keyL (ids D i')).sameKey (keyL x)) = false) E') := fun z => by
              rw [HS4.out z, HS.out z, hje]
              constructor
              · rintro ⟨⟨h1, h2⟩, h3⟩
                refine ⟨h1, fun i' hi' hv j' hj' => ?_⟩
                by_cases hl : left (keyL (ids D i')) = false
                · exact h2 i' hi' hl j' hj'
                · have hl : left (keyL (ids D i')) = true := by simpa using hl
                  have hv' : (left (keyL (ids D i')) && !(keyL (ids D i')).sameKey (keyL x)) = false := hv
                  rw [hl] at hv'
                  have hk := keyL_inj (WideAt.sameKey_eq (show (keyL (ids D i')).sameKey (keyL x) = true by simpa using hv'))
                  obtain rfl := rise_inj (dagB_parts HQ.out).2.2.1 hi' hi (hk.trans HIX.out.symm)
                  exact h3 j' hj'
              · rintro ⟨h1, h2⟩
                have hii : (left (keyL (ids D i)) && !(keyL (ids D i)).sameKey (keyL x)) = false := by
                  have : (keyL (ids D i)).sameKey (keyL x) = true := by rw [keyL_eq HIX.out]; simp [keyL, Lit.sameKey]
                  rw [this]; simp
                exact ⟨⟨h1, fun i' hi' hv => h2 i' hi' (by show (_ && _) = false; rw [show left (keyL (ids D i')) = false from hv]; rfl)⟩, h2 i hi hii⟩
            clear hg4 hje
            go_wp2
            go_roundw
            case rel => exact ⟨fun z => left z && !z.sameKey (keyL x), cnt3, E', HG4.out, HE4.out, HFr.out, HB4.out⟩
            case measure => rw [HG4.out.left_eq, HG.out.left_eq]; exact HLT.out
end Go.Proofs.YtlibipbpaigmdaaGreatDoor
