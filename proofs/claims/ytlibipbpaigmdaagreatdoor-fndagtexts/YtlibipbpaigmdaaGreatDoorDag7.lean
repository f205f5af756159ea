/-
  The program's reading of a dag: dagOf answers just where the dag is right, and the map that it gives holds each node by its id.
-/
import Derived.Test.YtlibipbpaigmdaaGreatDoorDag6
namespace Go.Proofs.YtlibipbpaigmdaaGreatDoor
open Go.RowKit Go.Maps
set_option linter.unusedVariables false

theorem ret_v {a b : Value} (h : a = b) : Ending.returned a = .returned b := by rw [h]

theorem no_dag {p : Bool} {P : Prop} (h : p = false) : p = true → P := fun h' => by rw [h] at h'; cases h'

theorem allB_true {p : Nat → Bool} : ∀ {n : Nat}, (∀ i, i < n → p i = true) → allB p n = true
  | 0, _ => rfl
  | n + 1, h => by rw [allB_succ, allB_true (fun i hi => h i (by omega)), h n (by omega)]; rfl

theorem sumT_size (s : ByteArray) : (sumT s).size = 64 := by
  unfold sumT
  rw [strB_size, hexL_len, bytes_len]

theorem id_size {d : Nd} (h : d.ok = true) : d.id.size = 64 := by
  unfold Nd.id idR
  rw [if_pos (show nodeB d.a d.s d.k d.key d.text d.S d.n = true from h)]
  exact sumT_size _
theorem id_none {d : Nd} (h : d.ok = false) : d.id = ⟨#[]⟩ := by
  unfold Nd.id idR
  rw [if_neg (by show ¬ (d.ok = true); rw [h]; decide)]
theorem toList_pos {s : ByteArray} (h : s.size = 64) : ∃ a l, s.toList = a :: l := by
  rw [ByteArray.toList_eq]
  cases hq : s.data.toList with
  | nil =>
    have : s.data.size = 0 := by rw [← Array.length_toList, hq]; rfl
    have h1 : s.size = s.data.size := rfl
    omega
  | cons a l => exact ⟨a, l, rfl⟩

/-- the id ahead of place k -/
def lastOf (D : Nat → Nd) : Nat → ByteArray
  | 0 => ⟨#[]⟩
  | k + 1 => ids D k

theorem bl_nil (x : List UInt8) : Op.bytesLess x [] = false := by cases x <;> rfl

theorem step_ok {D : Nat → Nd} {k : Nat} (h : Op.bytesLess (lastOf D k).toList (ids D k).toList = true) : (D k).ok = true ∧ (riseB (ids D) k = true → riseB (ids D) (k + 1) = true) := by
  refine ⟨?_, fun hr => ?_⟩
  · cases hq : (D k).ok with
    | true => rfl
    | false =>
      have : ids D k = ⟨#[]⟩ := id_none hq
      rw [this, empty_list, bl_nil] at h
      cases h
  · rw [riseB_succ, hr]
    cases k with
    | zero => rfl
    | succ p =>
      have : upB (ids D) (p + 1) = true := h
      rw [this]; simp

/-- nodes that are right and rise -/
def byB (D : Nat → Nd) (len : Nat) : Bool := decide (len ≤ 30) && (allB (fun i => (D i).ok) len && riseB (ids D) len)
theorem dagB_by (D : Nat → Nd) (len : Nat) : dagB D len = (byB D len && upsB' D len len) := by
  unfold dagB byB
  simp only [Bool.and_assoc]

theorem step_no {D : Nat → Nd} {k len : Nat} (hk : k < len) (h : Op.bytesLess (lastOf D k).toList (ids D k).toList = false) : byB D len = false := by
  unfold byB
  cases hq : (D k).ok with
  | false => rw [allB_false hk hq]; simp
  | true =>
    cases k with
    | zero =>
      obtain ⟨a, l, e⟩ := toList_pos (show (ids D 0).size = 64 from id_size hq)
      rw [show lastOf D 0 = ⟨#[]⟩ from rfl, empty_list, e] at h
      cases h
    | succ p =>
      rw [riseB_false (S := ids D) hk (Nat.succ_pos _) h]; simp

theorem ownsMap_below {w w' : World} {B n : Nat} {E : DataW Value} (h : w.ownsMap Tryz.prog 9 PR B n E) (hB : Below w.heap.size w w') : w'.ownsMap Tryz.prog 9 PR B n E := by
  have hl := h.lt
  obtain ⟨es, clock, hb, F, hs, hD⟩ := h
  exact ⟨es, clock, (hB.block _ hl).trans hb, F, hs, hD⟩

theorem NdAt.from {w w' : World} {B b o : Nat} {d : Nd} (h : NdAt w b o d) (hB : Below w.heap.size w w') : NdAt w' b o d := h.below hB

set_option maxHeartbeats 2000000 in
theorem nodesById_any (a : Option Addr) (len cap : Nat) (D : Nat → Nd) (w : World) (h : IsNds w a len cap D) (hf : Fine D len) (hP : AllT w) :
    Calls Tryz.prog 146 #[.slice a len cap, .int .i64 30] w fun e w' => ∃ v, e = .returned (.tuple #[v, .bool (byB D len)]) ∧ (byB D len = true → ∃ B b off, v = .map (some B) ∧ w.heap.size ≤ B ∧ (0 < len → a = some ⟨b, off, none⟩) ∧ w'.ownsMap Tryz.prog 9 PR B len (mapD D b off len)) ∧ Below w.heap.size w w' := by
  obtain ⟨hlc, hcm, hc⟩ := h
  by_cases h30 : 30 < len
  · have hr : Hid (byB D len = false) := by
      show _ = _
      unfold byB
      rw [decide_eq_false (by omega)]; rfl
    have h30' : (30 : Int) < (len : Int) := by omega
    clear hc hf
    go_enter Tryz.func146, Tryz.ntmps146
    go_wp2
    go_ret2
    exact ⟨.map none, ret_v (by rw [hr.out]; rfl), no_dag hr.out, Below.refl _ _⟩
  have hle : len ≤ 30 := by omega
  have hleI : decide ((30 : Int) < (len : Int)) = false := by simp; omega
  obtain ⟨b, off, hab, hcell⟩ : ∃ b off, (0 < len → a = some ⟨b, off, none⟩ ∧ b < w.heap.size) ∧ ∀ i, i < len → NdAt w b (off + i * 6) (D i) := by
    rcases Nat.eq_zero_or_pos len with h0 | h0
    · exact ⟨0, 0, fun h => by omega, fun i hi => by omega⟩
    · obtain ⟨b, off, e, hbs, hcell⟩ := hc h0
      exact ⟨b, off, fun _ => ⟨e, hbs⟩, hcell⟩
  have HN : Hid (∀ i, i < len → NdAt w b (off + i * 6) (D i)) := hcell
  have HAB : Hid (0 < len → a = some ⟨b, off, none⟩ ∧ b < w.heap.size) := hab
  have HC : Hid (∀ wr, Below w.heap.size w wr → ∀ k, k < len → Calls Tryz.prog 56 #[.agg #[.int .i64 (D k).a, .int .i64 (D k).s, .int .i64 (D k).k, .string (D k).key, .string (D k).text, .slice (D k).u (D k).n (D k).cap]] wr fun e w' => e = .returned (.string (ids D k)) ∧ Below wr.heap.size wr w') := fun wr hB k hlt =>
    implIdOf_any _ _ _ _ _ _ _ _ (D k).S wr ((hcell k hlt).below hB).i (hf k hlt).2.2 (hf k hlt).1 (hf k hlt).2.1 (hP.below hB)
  have HF : Hid (Fine D len) := hf
  clear hc hf hcell hab
  have hmm := @run_makeMap Tryz.prog
  go_enter Tryz.func146, Tryz.ntmps146
  go_wp2
  clear h30
  go_loopw [17, 7] (fun i l wr => ∃ (k : Nat), k ≤ len ∧ i = .int .i64 k ∧ l = .string (lastOf D k) ∧ wr.ownsMap Tryz.prog 9 PR w.heap.size k (mapD D b off k) ∧ Hid (allB (fun i => (D i).ok) k = true ∧ riseB (ids D) k = true) ∧ Below w.heap.size w wr) (fun i _ _ => len - (intOf i).toNat)
  case atStart => exact ⟨0, Nat.zero_le _, rfl, rfl, World.ownsMap_made _ _ _ _, ⟨rfl, rfl⟩, (Below.refl _ _).alloc (Nat.le_refl _) _⟩
  case round =>
    obtain ⟨k, hk, rfl, rfl, how, HR, hB⟩ := hrel
    have HO : Hid (wr.ownsMap Tryz.prog 9 PR w.heap.size k (mapD D b off k)) := how
    clear how
    by_cases hlt : k < len
    · obtain ⟨ea, hbs⟩ := HAB.out (by omega)
      subst ea
      have hltI : (k : Int) < (len : Int) := by omega
      obtain ⟨c0, c1, c2, c3, c4, c5, ci⟩ : NdAt wr b (off + k * 6) (D k) := (HN.out k hlt).below hB
      clear ci
      cases h1 : Op.bytesLess (ids D k).toList (lastOf D k).toList with
      | true =>
        have hr : Hid (byB D len = false) := step_no hlt (bl_asym h1)
        go_wp2_with (go_at_call 56; refine (HC.out wr hB k hlt).mono ?_; rintro e w2 ⟨rfl, hB2⟩)
        go_ret2
        exact ⟨.map none, ret_v (by rw [hr.out]; rfl), no_dag hr.out, hB.trans (hB2.mono hB.size)⟩
      | false =>
        cases h2 : ((ids D k).toList == (lastOf D k).toList) with
        | true =>
          have hr : Hid (byB D len = false) := step_no hlt (by rw [← eq_of_beq h2]; exact bl_irr _)
          go_wp2_with (go_at_call 56; refine (HC.out wr hB k hlt).mono ?_; rintro e w2 ⟨rfl, hB2⟩)
          go_ret2
          exact ⟨.map none, ret_v (by rw [hr.out]; rfl), no_dag hr.out, hB.trans (hB2.mono hB.size)⟩
        | false =>
          have hup := bl_tri _ _ h1 (by simpa using h2)
          have HS : Hid ((D k).ok = true ∧ (riseB (ids D) k = true → riseB (ids D) (k + 1) = true)) := step_ok hup
          have hkey : keyOf Tryz.prog 9 (.string (ids D k)) = some (keyL (ids D k)) := keyS (by have := id_size HS.out.1; show (D k).id.size ≤ _; omega)
          clear hup
          go_wp2_with (first
            | (go_at_call 56; refine (HC.out wr hB k hlt).mono ?_; rintro e w2 ⟨rfl, hB2⟩)
            | (at_mapUpdate; refine wpList_mapUpdate_own _ rfl _ _ _ 81 rfl 9 92 lawS Tryz.underlying81 PR w.heap.size k (mapD D b off k) rfl (ownsMap_below HO.out hB2) (by unfold maxLen; omega) _ _ _ rfl rfl hkey (.held (ptr b off k)) [] rfl ?_; intro w3 hown3 hgrow3))
          go_roundw
          case rel =>
            have hb2 := hB.trans (hB2.mono hB.size)
            refine ⟨k + 1, by omega, by go_num, rfl, hown3, ⟨by rw [allB_succ, HR.out.1, HS.out.1]; rfl, HS.out.2 HR.out.2⟩, hb2.grown hgrow3 hb2.size (fun j hj => by cases hj; exact Nat.le_refl _)⟩
          case measure => simp [intOf]; omega
    · have hke : k = len := by omega
      subst hke
      have hr : Hid (byB D k = true) := by
        show _ = _
        unfold byB
        rw [HR.out.1, HR.out.2, decide_eq_true hle]; rfl
      clear HR
      go_wp2
      go_ret2
      exact ⟨.map (some w.heap.size), ret_v (by rw [hr.out]; rfl), fun _ => ⟨w.heap.size, b, off, rfl, Nat.le_refl _, fun h => (HAB.out h).1, HO.out⟩, hB⟩

theorem byB_parts {D : Nat → Nd} {len : Nat} (h : byB D len = true) : len ≤ 30 ∧ allB (fun i => (D i).ok) len = true ∧ riseB (ids D) len = true := by
  unfold byB at h
  simp only [Bool.and_eq_true, decide_eq_true_eq] at h
  exact h

set_option maxHeartbeats 2000000 in
theorem dagOf_any (a : Option Addr) (len cap : Nat) (D : Nat → Nd) (w : World) (h : IsNds w a len cap D) (hf : Fine D len) (hP : AllT w) :
    Calls Tryz.prog 88 #[.slice a len cap] w fun e w' => ∃ v, e = .returned (.tuple #[v, .bool (dagB D len)]) ∧ (dagB D len = true → ∃ B b off, v = .map (some B) ∧ w.heap.size ≤ B ∧ (0 < len → a = some ⟨b, off, none⟩) ∧ w'.ownsMap Tryz.prog 9 PR B len (mapD D b off len)) ∧ Below w.heap.size w w' := by
  have HPT : Hid (AllT w) := hP
  have HN0 : Hid (IsNds w a len cap D) := h
  have HF : Hid (Fine D len) := hf
  clear h hf hP
  cases hby : byB D len with
  | false =>
    have hr : Hid (dagB D len = false) := by
      show _ = _
      rw [dagB_by, hby]; rfl
    go_enter Tryz.func88, Tryz.ntmps88
    go_wp2_with (go_at_call 146; refine (nodesById_any a len cap D w HN0.out HF.out HPT.out).mono ?_; rintro e w1 ⟨v, rfl, _, hB1⟩; rw [hby])
    go_ret2
    exact ⟨.map none, ret_v (by rw [hr.out]; rfl), no_dag hr.out, hB1⟩
  | true =>
    go_enter Tryz.func88, Tryz.ntmps88
    go_wp2_with (first
      | (go_at_call 146; refine (nodesById_any a len cap D w HN0.out HF.out HPT.out).mono ?_; rintro e wL ⟨v, rfl, hv, hBL⟩; rw [hby]; obtain ⟨B, b, off, rfl, hBB, hab, hown⟩ := hv hby)
      | (at_range; refine wpList_range_own _ rfl _ 81 rfl 9 92 lawS Tryz.underlying81 PR B len (mapD D b off len) rfl hown ?_; intro w0 hrg0 hg0 hs0))
    have HBB : Hid (w.heap.size ≤ B) := hBB
    have HBL : Hid (Below w.heap.size w wL) := hBL
    have HR0 : Hid (len ≤ 30 ∧ allB (fun i => (D i).ok) len = true ∧ riseB (ids D) len = true) := byB_parts hby
    have HAB : Hid (0 < len → a = some ⟨b, off, none⟩) := hab
    have HN : Hid (∀ i, i < len → NdAt w b (off + i * 6) (D i)) := fun i hi => by
      obtain ⟨b', off', e, hbs, hcell⟩ := HN0.out.2.2 (by omega)
      have e2 := HAB.out (by omega)
      rw [e2] at e
      simp only [Option.some.injEq, Addr.mk.injEq, and_true] at e
      obtain ⟨rfl, rfl⟩ := e
      exact hcell i hi
    have HBY : Hid (byB D len = true) := hby
    clear hBB hBL hab hby
    go_frame
    go_loopw [7] (fun _ wr => ∃ (left : Lit → Bool) (cnt : Nat), wr.ranges Tryz.prog 9 PR B wL.heap.size len (mapD D b off len) left cnt ∧ Hid (∀ i, i < len → left (keyL (ids D i)) = false → hasB (ids D) len (D i).S (D i).n = true) ∧ Below w.heap.size w wr)
      (fun _ wr => wr.rangeLeft B wL.heap.size)
    case atStart => exact ⟨_, _, hrg0, (fun i hi h => by rw [mapD_has D b off len i hi] at h; cases h), HBL.out.grown hg0 HBL.out.size (fun j hj => by cases hj)⟩
    case round =>
      obtain ⟨left, cnt, hrg, HS, hB⟩ := hrel
      have HG : Hid (wr.ranges Tryz.prog 9 PR B wL.heap.size len (mapD D b off len) left cnt) := hrg
      go_wp2_with (first
        | (at_next; refine wpList_next_ranges _ rfl _ rfl 9 lawS PR Value.string Value.pointer keyS_inv PR_inv B wL.heap.size len _ _ _ rfl hrg ?_ ?_))
      · intro _ hl0
        have hr : Hid (dagB D len = true) := by
          show _ = _
          have hu : upsB' D len len = true := allB_true (fun i hi => HS.out i hi (hl0 _))
          rw [dagB_by, HBY.out, hu]; rfl
        clear hrg hl0
        go_wp2
        go_ret2
        exact ⟨.map (some B), ret_v (by rw [hr.out]; rfl), fun _ => ⟨B, b, off, rfl, HBB.out, HAB.out, HG.out.owns⟩, hB⟩
      · intro x c kl y ps w1 cnt1 hkx hlk hRv hat hrg1 hlt1 hg1 hs1 hen
        have hkl := keyS_lit hkx
        subst hkl
        obtain ⟨i, hi, hix, hc⟩ : ∃ i, i < len ∧ (ids D i).toList = x.toList ∧ c = some ⟨b, off + i * 6, none⟩ := by
          have hy : y = .held (.pointer c) := by
            simp only [PR, Option.some.injEq, Prod.mk.injEq] at hRv
            exact hRv.1.symm
          cases ho : outB (ids D) len x with
          | true =>
            have h1 := hat .nil
            rw [(mapD_at D b off x len).1 ho, hy] at h1
            cases h1
          | false =>
            obtain ⟨i, hi, e, ha⟩ := (mapD_at D b off x len).2 ho
            have h1 := hat .nil
            rw [ha, hy] at h1
            simp only [ptr, DataW.held.injEq, Value.pointer.injEq] at h1
            exact ⟨i, hi, e, h1.symm⟩
        subst hc
        have hB1 : Below w.heap.size w w1 := hB.grown hg1 hB.size (fun j hj => by cases hj; exact HBL.out.size)
        have nd := (HN.out i hi).below hB1
        have HU : Hid (Calls Tryz.prog 147 #[.map (some B), .pointer (some ⟨b, off + i * 6, none⟩)] w1 fun e w' => e = .returned (.bool (hasB (ids D) len (D i).S (D i).n)) ∧ w' = w1) := upsThere_any B D b off len b (off + i * 6) (D i) len w1 hrg1.owns nd (HF.out i hi).2.2
        have HB1 : Hid (Below w.heap.size w w1) := hB1
        have HG1 : Hid (w1.ranges Tryz.prog 9 PR B wL.heap.size len (mapD D b off len) (fun z => left z && !z.sameKey (keyL x)) cnt1) := hrg1
        have HLT : Hid (cnt1 < cnt) := hlt1
        clear hrg hrg1 hRv hat hkx hlk hg1 hs1 nd hB1 hlt1
        cases hq : hasB (ids D) len (D i).S (D i).n with
        | false =>
          have hr : Hid (dagB D len = false) := by
            show _ = _
            unfold dagB upsB'
            rw [allB_false (p := fun i => hasB (ids D) len (D i).S (D i).n) hi hq]; simp
          rw [hq] at HU
          go_wp2_with (go_at_call 147; refine HU.out.mono ?_; rintro e w2 ⟨rfl, hw2⟩; rw [hw2]; clear hw2 w2)
          go_ret2
          exact ⟨.map none, ret_v (by rw [hr.out]; rfl), no_dag hr.out, HB1.out⟩
        | true =>
          have HS' : Hid (∀ i, i < len → (left (keyL (ids D i)) && !(keyL (ids D i)).sameKey (keyL x)) = false → hasB (ids D) len (D i).S (D i).n = true) := by
            intro i' hi' hl'
            by_cases hl : left (keyL (ids D i')) = false
            · exact HS.out i' hi' hl
            · have hl : left (keyL (ids D i')) = true := by simpa using hl
              rw [hl] at hl'
              have hk := keyL_inj (WideAt.sameKey_eq (show (keyL (ids D i')).sameKey (keyL x) = true by simpa using hl'))
              rw [rise_inj HR0.out.2.2 hi' hi (hk.trans hix.symm)]
              exact hq
          rw [hq] at HU
          clear HS hq
          go_wp2_with (go_at_call 147; refine HU.out.mono ?_; rintro e w2 ⟨rfl, hw2⟩; rw [hw2]; clear hw2 w2)
          go_roundw
          case rel => exact ⟨_, cnt1, HG1.out, HS', HB1.out⟩
          case measure => rw [HG1.out.left_eq, HG.out.left_eq]; exact HLT.out

theorem implDagOk_any (a : Option Addr) (len cap : Nat) (D : Nat → Nd) (w : World) (h : IsNds w a len cap D) (hf : Fine D len) (hP : AllT w) :
    Calls Tryz.prog 71 #[.slice a len cap] w fun e w' => e = .returned (.bool (dagB D len)) ∧ Below w.heap.size w w' := by
  go_enter Tryz.func71, Tryz.ntmps71
  go_wp2_with (go_at_call 88; refine (dagOf_any a len cap D _ h hf hP).mono ?_; rintro e w1 ⟨v, rfl, _, hB1⟩)
  go_ret
  exact ⟨rfl, hB1⟩
end Go.Proofs.YtlibipbpaigmdaaGreatDoor
