/-
  The text's SeqDeleted. No condition but that the slice reads.
-/
import Derived.Test.YtjfciokpnhnhbaaSqIs
namespace Go.Proofs.Ytjfciokpnhnhbaa
open Go.RowKit
set_option linter.unusedVariables false
set_option linter.unusedSimpArgs false

theorem q_idxE (ev : Operand → Value) (o : Oper) (w : World) (x y : Operand) (b off n c m : Nat) (h : o.op = .indexAddr 37 x y) (hx : ev x = .slice (some ⟨b, off, none⟩) n c) (hy : ev y = .int .i64 m) (hm : m < n) : (execOp ev o).run Try.prog w = .ok (.value (.pointer (some ⟨b, off + m, none⟩))) w := by
  have hmI : (m : Int) < (n : Int) := by omega
  simp [execOp, h, hx, hy]
  go_simp
theorem q_loadE6 (ev : Operand → Value) (o : Oper) (w : World) (x : Operand) (p k : Nat) (c : Int) (h : o.op = .load 2 x) (hx : ev x = .pointer (some ⟨p, k, none⟩)) (hc : w.cell? ⟨p, k, none⟩ = some (.int .i64 c)) : (execOp ev o).run Try.prog w = .ok (.value (.int .i64 c)) w := by
  simp [execOp, h, hx]
  go_simp
theorem q_allocE (ev : Operand → Value) (o : Oper) (w : World) (h : o.op = .alloc 36) : (execOp ev o).run Try.prog w = .ok (.value (.pointer (some ⟨w.heap.size, 0, none⟩))) (w.alloc (.cells #[.int .i64 0, .int .i64 0, .int .i64 0, .string ⟨#[]⟩] 36)) := by
  simp [execOp, h]
  go_simp
theorem q_buildE (ev : Operand → Value) (o : Oper) (w : World) (x y : Operand) (N Y : Int) (h : o.op = .build 36 #[(0, x), (1, .const (.int .i64 2)), (2, y)]) (hx : ev x = .int .i64 N) (hc : ev (.const (.int .i64 2)) = .int .i64 2) (hy : ev y = .int .i64 Y) : (execOp ev o).run Try.prog w = .ok (.value (.agg #[.int .i64 N, .int .i64 2, .int .i64 Y, .string ⟨#[]⟩])) w := by
  simp [execOp, h, hx, hy, hc]
  go_simp
theorem q_call2E (ev : Operand → Value) (o : Oper) (w : World) (f : FuncId) (he : ∀ args w, (callFunc f args).run Try.prog w = .ok (.enter f args) w) (x y : Operand) (ts : Array TypeId) (h : o.op = .call { callee := .value (.func f), args := #[x, y], argTypes := ts }) (hf : ev (.func f) = .func (.func f) #[] #[]) : (execOp ev o).run Try.prog w = .ok (.enter f #[ev x, ev y]) w := by
  simp [execOp, h, resolve, invoke, hf, Deferred.ofValue, he]
theorem enters_new : ∀ args w, (callFunc 50 args).run Try.prog w = .ok (.enter 50 args) w := enters_of Try.func50 (by kernel_rfl) rfl
/-- what the operations of 'o := SOp{Id: l10New(l, author), Kind: SqDelete, After: ids[at]}' give -/
def DeF (u : Value) (author N z : Int) (ids : Value) (b o : Nat) (y : Int) (X : Ev) (M : Nat) : Nat → (Nat → Value) → World → Prop
  | 0, f, _ => f 30 = u
  | 1, f, _ => f 31 = .int .i64 author
  | 2, f, _ => f 32 = .int .i64 N
  | 3, f, _ => f 33 = ids
  | 4, f, _ => f 34 = .int .i64 z
  | 5, f, _ => f 35 = .pointer (some ⟨b, o, none⟩)
  | 6, f, _ => f 36 = .int .i64 y
  | 7, f, _ => f 37 = .agg (enc4 X).toArray
  | 8, f, w => ∃ g, f 10 = .pointer (some ⟨g, 0, none⟩) ∧ M ≤ g ∧ w.heap[g]? = some (.cells #[.int .i64 0, .int .i64 0, .int .i64 0, .string ⟨#[]⟩] 36 (0, 0))
  | 9, f, w => ∃ g, f 10 = .pointer (some ⟨g, 0, none⟩) ∧ M ≤ g ∧ w.heap[g]? = some (.cells (enc4 X).toArray 36 (0, 0))
  | _, _, _ => True
theorem DeF.below {u : Value} {author N z : Int} {ids : Value} {b o : Nat} {y : Int} {X : Ev} {M j : Nat} {f : Nat → Value} {w w' : World} (h : DeF u author N z ids b o y X M j f w) (hB : Below w.heap.size w w') : DeF u author N z ids b o y X M j f w' := by
  match j, h with
  | 0, h => exact h
  | 1, h => exact h
  | 2, h => exact h
  | 3, h => exact h
  | 4, h => exact h
  | 5, h => exact h
  | 6, h => exact h
  | 7, h => exact h
  | 8, h =>
    obtain ⟨g, e, hb, hg⟩ := h
    exact ⟨g, e, hb, (hB.block _ (lt_of_block hg)).trans hg⟩
  | 9, h =>
    obtain ⟨g, e, hb, hg⟩ := h
    exact ⟨g, e, hb, (hB.block _ (lt_of_block hg)).trans hg⟩
  | (m + 10), _ => exact trivial
def useD (i j : Nat) : Bool := i == 9 && j == 8
def dsDn : List Nat := [30, 31, 32, 33, 34, 35, 36, 37, 10, 46]
def slotDn (j : Nat) : Nat := dsDn.getD j 0
theorem slotDn_inj (i j : Nat) (hi : i < 10) (hj : j < 10) (q : slotDn i = slotDn j) : i = j := by
  have h : ∀ i : Fin 10, ∀ j : Fin 10, slotDn i.val = slotDn j.val → i.val = j.val := by decide
  exact h ⟨i, hi⟩ ⟨j, hj⟩ q
theorem slotDn_mem (i : Nat) (hi : i < 10) : slotDn i ∈ dsDn := by
  have h : ∀ i : Fin 10, slotDn i.val ∈ dsDn := by decide
  exact h ⟨i, hi⟩
def dsDa : List Nat := [38, 39, 40, 41, 42, 43, 11]
def slotDa (j : Nat) : Nat := dsDa.getD j 0
theorem slotDa_inj (i j : Nat) (hi : i < 7) (hj : j < 7) (q : slotDa i = slotDa j) : i = j := by
  have h : ∀ i : Fin 7, ∀ j : Fin 7, slotDa i.val = slotDa j.val → i.val = j.val := by decide
  exact h ⟨i, hi⟩ ⟨j, hj⟩ q
theorem slotDa_mem (i : Nat) (hi : i < 7) : slotDa i ∈ dsDa := by
  have h : ∀ i : Fin 7, slotDa i.val ∈ dsDa := by decide
  exact h ⟨i, hi⟩
def dsDr : List Nat := [48, 49, 6, 46, 8]
def slotDr (j : Nat) : Nat := dsDr.getD j 0
theorem slotDr_inj (i j : Nat) (hi : i < 5) (hj : j < 5) (q : slotDr i = slotDr j) : i = j := by
  have h : ∀ i : Fin 5, ∀ j : Fin 5, slotDr i.val = slotDr j.val → i.val = j.val := by decide
  exact h ⟨i, hi⟩ ⟨j, hj⟩ q
theorem slotDr_mem (i : Nat) (hi : i < 5) : slotDr i ∈ dsDr := by
  have h : ∀ i : Fin 5, slotDr i.val ∈ dsDr := by decide
  exact h ⟨i, hi⟩

set_option maxRecDepth 10000 in
set_option maxHeartbeats 8000000 in
theorem specDeleted_any (a : Option Addr) (len cap : Nat) (D : Nat → Ev) (author z : Int) (W : World) (h : IsEvs W a len cap D) (hF : ∀ i, i < len → (D i).in) :
    Calls Try.prog 33 #[.slice a len cap, .int .i64 author, .int .i64 z] W (SR (okD D len author z) (listD D len ++ [opD D len author z]) (opD D len author z) W) := by
  have HE : Hid (IsEvs W a len cap D) := h
  have HFF : Hid (∀ i, i < len → (D i).d.size ≤ 9223372036854775807) := fun i hi => (hF i hi).1
  obtain ⟨X, hX⟩ : ∃ X, X = opD D len author z := ⟨_, rfl⟩
  have HXE : Hid (opD D len author z = X) := hX.symm
  have HFX : Hid (∀ i, i < len + 1 → (snocD D len X i).d.size ≤ 9223372036854775807) := fun i hi => by
    by_cases e : i < len
    · have : snocD D len X i = D i := by
        unfold snocD
        rw [List.getD_eq_getElem?_getD, List.getElem?_append_left (by rw [listD_len]; exact e), ← List.getD_eq_getElem?_getD]
        exact listD_at D len i e
      rw [this]
      exact (hF i e).1
    · have e' : i = len := by omega
      rw [e', snoc_last, hX]
      exact (by decide : (⟨#[]⟩ : ByteArray).size ≤ 9223372036854775807)
  obtain ⟨Y, hY⟩ : ∃ Y, Y = W.alloc (.cells #[.int .i64 0, .int .i64 0, .int .i64 0, .string ⟨#[]⟩] 36) := ⟨_, rfl⟩
  have HY := (show Hid _ from hY)
  have HYB : Hid (Below W.heap.size W Y) := by rw [hY]; exact (Below.refl _ _).alloc (Nat.le_refl _) _
  have HY0 : Hid (Y.heap[W.heap.size]? = some (.cells #[.int .i64 0, .int .i64 0, .int .i64 0, .string ⟨#[]⟩] 36 (0, 0))) := by rw [hY]; exact heap_alloc_new W _
  clear hY h hF hX
  go_enter Try.func33, Try.ntmps33
  go_wp2_with fail
  rw [← HY.out]
  refine (specSeq_any a len cap D Y (HE.out.below HYB.out) HFF.out).mono ?_
  rintro e w1 ⟨rfl, hB1⟩
  have HB1 : Hid (Below W.heap.size W w1) := HYB.out.trans (hB1.mono HYB.out.size)
  have hrw : w1.heap[W.heap.size]? = some (.cells #[.int .i64 0, .int .i64 0, .int .i64 0, .string ⟨#[]⟩] 36 (0, 0)) := (hB1.block _ (lt_of_block HY0.out)).trans HY0.out
  have HRW := (show Hid _ from hrw)
  have r0 : w1.cell? ⟨W.heap.size, 0, none⟩ = some (.int .i64 0) := cellN hrw
  have r1 : w1.cell? ⟨W.heap.size, 1, none⟩ = some (.int .i64 0) := cellN hrw
  have r2 : w1.cell? ⟨W.heap.size, 2, none⟩ = some (.int .i64 0) := cellN hrw
  have r3 : w1.cell? ⟨W.heap.size, 3, none⟩ = some (.string ⟨#[]⟩) := cellN hrw
  have s0 : w1.frozen? ⟨W.heap.size, 0, none⟩ = false := frozN hrw
  have s1 : w1.frozen? ⟨W.heap.size, 1, none⟩ = false := frozN hrw
  have s2 : w1.frozen? ⟨W.heap.size, 2, none⟩ = false := frozN hrw
  have s3 : w1.frozen? ⟨W.heap.size, 3, none⟩ = false := frozN hrw
  clear hrw
  obtain ⟨s, hs⟩ : ∃ s, s = seqB D len := ⟨_, rfl⟩
  rw [← hs]
  cases s with
  | false =>
    have HN : Hid (okD D len author z = false) := okD_no (by rw [← hs]; rfl)
    clear hs
    go_wp2
    refine bodyPost_ret (results_trt (p := 7) (u := 6) (v := 8) rfl _ _ W.heap.size 36 _ _ _ rfl (put4 _ _ _ _ HRW.out) Try.underlying36 rfl infoE4) rfl ?_
    exact SR.no HN.out (put4_bel HB1.out (Nat.le_refl _))
  | true =>
    have HS : Hid (seqB D len = true) := hs.symm
    have HL : Hid (len ≤ 1048576) := by have := (seqB_parts hs.symm).1; show _ ≤ _; omega
    clear hs
    go_wp2_with fail
    refine (in_any author 1 9 _ rfl w1).mono ?_
    rintro e wq ⟨rfl, hwq⟩
    rw [hwq]
    clear hwq wq
    obtain ⟨s, hs⟩ : ∃ s, s = inB 1 9 author := ⟨_, rfl⟩
    rw [← hs]
    cases s with
    | false =>
      have HN : Hid (okD D len author z = false) := okD_no (by rw [← hs, Bool.and_false])
      clear hs
      go_wp2
      refine bodyPost_ret (results_trt (p := 7) (u := 6) (v := 8) rfl _ _ W.heap.size 36 _ _ _ rfl (put4 _ _ _ _ HRW.out) Try.underlying36 rfl infoE4) rfl ?_
      exact SR.no HN.out (put4_bel HB1.out (Nat.le_refl _))
    | true =>
      have HA : Hid (inB 1 9 author = true) := hs.symm
      clear hs
      go_wp2_with fail
      refine (l10Ids_any a len cap D w1 (HE.out.below HB1.out) HS.out).mono ?_
      rintro e w2 ⟨v, rfl, hO, hB2⟩
      have HB2 : Hid (Below W.heap.size W w2) := HB1.out.trans (hB2.mono HB1.out.size)
      have hrw : w2.heap[W.heap.size]? = some (.cells #[.int .i64 0, .int .i64 0, .int .i64 0, .string ⟨#[]⟩] 36 (0, 0)) := (hB2.block _ (lt_of_block HRW.out)).trans HRW.out
      clear r0 r1 r2 r3 s0 s1 s2 s3 HRW
      have HRW := (show Hid _ from hrw)
      have r0 : w2.cell? ⟨W.heap.size, 0, none⟩ = some (.int .i64 0) := cellN hrw
      have r1 : w2.cell? ⟨W.heap.size, 1, none⟩ = some (.int .i64 0) := cellN hrw
      have r2 : w2.cell? ⟨W.heap.size, 2, none⟩ = some (.int .i64 0) := cellN hrw
      have r3 : w2.cell? ⟨W.heap.size, 3, none⟩ = some (.string ⟨#[]⟩) := cellN hrw
      have s0 : w2.frozen? ⟨W.heap.size, 0, none⟩ = false := frozN hrw
      have s1 : w2.frozen? ⟨W.heap.size, 1, none⟩ = false := frozN hrw
      have s2 : w2.frozen? ⟨W.heap.size, 2, none⟩ = false := frozN hrw
      have s3 : w2.frozen? ⟨W.heap.size, 3, none⟩ = false := frozN hrw
      clear hrw
      obtain ⟨L, hL⟩ : ∃ L, L = idsL D len := ⟨_, rfl⟩
      have HLL : Hid (L = idsR D len) := by rw [hL]; exact (idsR_yes HS.out).symm
      have hL40 : L.length ≤ 40 := by rw [HLL.out]; exact idsR_len D len
      rw [← hL] at hO
      obtain ⟨va, vc, rfl, l1, l2, hc⟩ := hO.rd
      obtain ⟨m, hm⟩ : ∃ m, m = L.length := ⟨_, rfl⟩
      rw [← hm] at l1 hc hL40 ⊢
      have HM : Hid (m = L.length) := hm
      clear hB2 hO hL hm
      go_wp2_with fail
      refine (in_any z 0 ((m : Int) - 1) _ rfl w2).mono ?_
      rintro e wq ⟨rfl, hwq⟩
      rw [hwq]
      clear hwq wq
      obtain ⟨s, hs⟩ : ∃ s, s = inB 0 ((m : Int) - 1) z := ⟨_, rfl⟩
      rw [← hs]
      cases s with
      | false =>
        have HN : Hid (okD D len author z = false) := by show _ = _; unfold okD; rw [← HLL.out, ← HM.out, ← hs]; rfl
        clear hs
        go_wp2
        refine bodyPost_ret (results_trt (p := 7) (u := 6) (v := 8) rfl _ _ W.heap.size 36 _ _ _ rfl (put4 _ _ _ _ HRW.out) Try.underlying36 rfl infoE4) rfl ?_
        exact SR.no HN.out (put4_bel HB2.out (Nat.le_refl _))
      | true =>
        have HOK : Hid (okD D len author z = okW D len author X) := by show _ = _; unfold okD; rw [HXE.out, ← HLL.out, ← HM.out, ← hs, Bool.true_and]
        have hzz : 0 ≤ z ∧ z ≤ (m : Int) - 1 := by unfold inB at hs; simpa using hs.symm
        clear hs
        obtain ⟨j, rfl⟩ : ∃ j : Nat, z = (j : Int) := ⟨z.toNat, by omega⟩
        have hjm : j < m := by omega
        obtain ⟨b, off, rfl, hb, hcc⟩ := hc (by omega)
        obtain ⟨y, hy⟩ : ∃ y, y = L.getD j 0 := ⟨_, rfl⟩
        have c0 := hcc j hjm
        rw [← hy] at c0
        have HXV : Hid (Value.agg #[.int .i64 (nid D len author), .int .i64 2, .int .i64 y, .string ⟨#[]⟩] = .agg (enc4 X).toArray) := by
          have hX : X = ⟨nid D len author, 2, y, ⟨#[]⟩⟩ := by rw [← HXE.out]; unfold opD; rw [← HLL.out, hy]; rfl
          show _ = _
          rw [hX]
          rfl
        clear hcc hc hy
        go_wp2_with fail
        refine wp_cut_to (fun a0 t w' => ∃ f, t = canon a0 dsDn f ∧ ∃ g, f 10 = .pointer (some ⟨g, 0, none⟩) ∧ w2.heap.size ≤ g ∧ w'.heap[g]? = some (.cells (enc4 X).toArray 36 (0, 0)) ∧ Below w2.heap.size w2 w') ?_ ?_
        rotate_left
        · intro J K' hJ hK
          refine wp_letter ?_
          intro fr hfr
          have hsz : 46 < fr.tmps.size := by rw [hfr]; exact Nat.le_of_ble_eq_true rfl
          have t0 : fr.eval (.tmp 0) = .slice a len cap := by rw [hfr]; rfl
          have t1 : fr.eval (.tmp 1) = .int .i64 author := by rw [hfr]; rfl
          have t9 : fr.eval (.tmp 9) = .slice (some ⟨b, off, none⟩) m vc := by rw [hfr]; rfl
          have t2 : fr.eval (.tmp 2) = .int .i64 (j : Int) := by rw [hfr]; rfl
          have HFR := (show Hid _ from hfr)
          clear hfr
          refine wp_region_use (by kernel_rfl) (by kernel_rfl) dsDn slotDn (DeF (.slice a len cap) author (nid D len author) (j : Int) (.slice (some ⟨b, off, none⟩) m vc) b (off + j) y X w2.heap.size) (Below w2.heap.size w2) useD ((Below.refl _ _).drew) ?_ ?_ ?_ ?_ ?_
          · intro j f f' wy hj he h
            match j, hj with
            | 0, _ =>
              have e0 : f 30 = f' 30 := he 0 (by kernel_rfl)
              simp only [DeF, e0] at h ⊢
              exact h
            | 1, _ =>
              have e1 : f 31 = f' 31 := he 1 (by kernel_rfl)
              simp only [DeF, e1] at h ⊢
              exact h
            | 2, _ =>
              have e2 : f 32 = f' 32 := he 2 (by kernel_rfl)
              simp only [DeF, e2] at h ⊢
              exact h
            | 3, _ =>
              have e3 : f 33 = f' 33 := he 3 (by kernel_rfl)
              simp only [DeF, e3] at h ⊢
              exact h
            | 4, _ =>
              have e4 : f 34 = f' 34 := he 4 (by kernel_rfl)
              simp only [DeF, e4] at h ⊢
              exact h
            | 5, _ =>
              have e5 : f 35 = f' 35 := he 5 (by kernel_rfl)
              simp only [DeF, e5] at h ⊢
              exact h
            | 6, _ =>
              have e6 : f 36 = f' 36 := he 6 (by kernel_rfl)
              simp only [DeF, e6] at h ⊢
              exact h
            | 7, _ =>
              have e7 : f 37 = f' 37 := he 7 (by kernel_rfl)
              simp only [DeF, e7] at h ⊢
              exact h
            | 8, _ =>
              have e8 : f 10 = f' 10 := he 8 (by kernel_rfl)
              simp only [DeF, e8] at h ⊢
              exact h
            | 9, _ =>
              have e8 : f 10 = f' 10 := he 8 (by kernel_rfl)
              simp only [DeF, e8] at h ⊢
              exact h
          · intro i hi
            exact slotDn_mem i hi
          · intro i j hi hj q
            exact slotDn_inj i j hi hj q
          · intro ops hops done f wy i oo hG ho hdn hcl hd hF
            have ho2 := ho
            rw [hops] at ho
            have hi : i < 10 := by
              rcases Nat.lt_or_ge i 10 with h | h
              · exact h
              · rw [Array.getElem?_eq_none (by simpa using h)] at ho; cases ho
            have N0 := (canon_eval_ne fr dsDn f 0 (by decide)).trans t0
            have N1 := (canon_eval_ne fr dsDn f 1 (by decide)).trans t1
            have N9 := (canon_eval_ne fr dsDn f 9 (by decide)).trans t9
            have N2 := (canon_eval_ne fr dsDn f 2 (by decide)).trans t2
            have C30 := canon_eval fr dsDn f 30 (by decide) (Nat.lt_of_le_of_lt (by decide) hsz)
            have C31 := canon_eval fr dsDn f 31 (by decide) (Nat.lt_of_le_of_lt (by decide) hsz)
            have C32 := canon_eval fr dsDn f 32 (by decide) (Nat.lt_of_le_of_lt (by decide) hsz)
            have C33 := canon_eval fr dsDn f 33 (by decide) (Nat.lt_of_le_of_lt (by decide) hsz)
            have C34 := canon_eval fr dsDn f 34 (by decide) (Nat.lt_of_le_of_lt (by decide) hsz)
            have C35 := canon_eval fr dsDn f 35 (by decide) (Nat.lt_of_le_of_lt (by decide) hsz)
            have C36 := canon_eval fr dsDn f 36 (by decide) (Nat.lt_of_le_of_lt (by decide) hsz)
            have C37 := canon_eval fr dsDn f 37 (by decide) (Nat.lt_of_le_of_lt (by decide) hsz)
            have C10 := canon_eval fr dsDn f 10 (by decide) (Nat.lt_of_le_of_lt (by decide) hsz)
            have C46 := canon_eval fr dsDn f 46 (by decide) (Nat.lt_of_le_of_lt (by decide) hsz)
            have hj' : i = 0 ∨ i = 1 ∨ i = 2 ∨ i = 3 ∨ i = 4 ∨ i = 5 ∨ i = 6 ∨ i = 7 ∨ i = 8 ∨ i = 9 := by omega
            rcases hj' with rfl | rfl | rfl | rfl | rfl | rfl | rfl | rfl | rfl | rfl <;> simp only [List.getElem?_toArray, List.getElem?_cons_succ, List.getElem?_cons_zero, Option.some.injEq] at ho <;> subst ho
            · refine wpOp_runG ho2 (wanted_none rfl) (q_moveE (canon fr dsDn f).eval _ wy _ rfl) ?_
              exact ⟨_, rfl, (upd_same f 30 _).trans N0, hG, fun j _ _ _ _ _ h => h⟩
            · refine wpOp_runG ho2 (wanted_none rfl) (q_moveE (canon fr dsDn f).eval _ wy _ rfl) ?_
              exact ⟨_, rfl, (upd_same f 31 _).trans N1, hG, fun j _ _ _ _ _ h => h⟩
            · refine wpOp_enterG ho2 (wanted_none rfl) (q_call2E (canon fr dsDn f).eval _ wy _ enters_new _ _ _ rfl rfl) ?_
              rw [C30.trans (hF ⟨0, .data⟩ (by simp) rfl (fun k _ hdk => (show k ≠ 2 by rintro rfl; rw [hdn] at hdk; cases hdk) |> fun hk => by simp [useD, hk])), C31.trans (hF ⟨1, .data⟩ (by simp) rfl (fun k _ hdk => (show k ≠ 2 by rintro rfl; rw [hdn] at hdk; cases hdk) |> fun hk => by simp [useD, hk]))]
              refine (l10New_any a len cap D author wy ((HE.out.below HB2.out).below hG) HS.out HA.out).mono ?_
              rintro e wv ⟨rfl, hwv⟩
              rw [hwv]
              exact ⟨_, rfl, _, rfl, upd_same f 32 _, hG, fun j _ _ _ _ _ h => h⟩
            · refine wpOp_runG ho2 (wanted_none rfl) (q_moveE (canon fr dsDn f).eval _ wy _ rfl) ?_
              exact ⟨_, rfl, (upd_same f 33 _).trans N9, hG, fun j _ _ _ _ _ h => h⟩
            · refine wpOp_runG ho2 (wanted_none rfl) (q_moveE (canon fr dsDn f).eval _ wy _ rfl) ?_
              exact ⟨_, rfl, (upd_same f 34 _).trans N2, hG, fun j _ _ _ _ _ h => h⟩
            · refine wpOp_runG ho2 (wanted_none rfl) (q_idxE (canon fr dsDn f).eval _ wy _ _ b off m vc j rfl (C33.trans (hF ⟨3, .data⟩ (by simp) rfl (fun k _ hdk => (show k ≠ 5 by rintro rfl; rw [hdn] at hdk; cases hdk) |> fun hk => by simp [useD, hk]))) (C34.trans (hF ⟨4, .data⟩ (by simp) rfl (fun k _ hdk => (show k ≠ 5 by rintro rfl; rw [hdn] at hdk; cases hdk) |> fun hk => by simp [useD, hk]))) hjm) ?_
              exact ⟨_, rfl, upd_same f 35 _, hG, fun j _ _ _ _ _ h => h⟩
            · refine wpOp_runG ho2 (wanted_none rfl) (q_loadE6 (canon fr dsDn f).eval _ wy _ b (off + j) y rfl (C35.trans (hF ⟨5, .data⟩ (by simp) rfl (fun k _ hdk => (show k ≠ 6 by rintro rfl; rw [hdn] at hdk; cases hdk) |> fun hk => by simp [useD, hk]))) ((hG.cell (p := ⟨b, off + j, none⟩) hb).trans c0)) ?_
              exact ⟨_, rfl, upd_same f 36 _, hG, fun j _ _ _ _ _ h => h⟩
            · refine wpOp_runG ho2 (wanted_none rfl) (q_buildE (canon fr dsDn f).eval _ wy _ _ (nid D len author) y rfl (C32.trans (hF ⟨2, .data⟩ (by simp) rfl (fun k _ hdk => (show k ≠ 7 by rintro rfl; rw [hdn] at hdk; cases hdk) |> fun hk => by simp [useD, hk]))) rfl (C36.trans (hF ⟨6, .data⟩ (by simp) rfl (fun k _ hdk => (show k ≠ 7 by rintro rfl; rw [hdn] at hdk; cases hdk) |> fun hk => by simp [useD, hk])))) ?_
              exact ⟨_, rfl, (upd_same f 37 _).trans HXV.out, hG, fun j _ _ _ _ _ h => h⟩
            · refine wpOp_runG ho2 (wanted_none rfl) (q_allocE (canon fr dsDn f).eval _ wy rfl) ?_
              exact ⟨_, rfl, ⟨wy.heap.size, upd_same f 10 _, hG.size, heap_alloc_new wy _⟩, hG.alloc hG.size _, fun j _ _ _ _ _ h => h.below ((Below.refl _ _).alloc (Nat.le_refl _) _)⟩
            · obtain ⟨g, eg, hbg, hg⟩ := (hF ⟨8, .data⟩ (by simp) rfl (fun k _ hdk => (show k ≠ 9 by rintro rfl; rw [hdn] at hdk; cases hdk) |> fun hk => by simp [useD, hk]))
              refine wpOp_storeE ho2 (wanted_none rfl) _ _ g X rfl (C10.trans eg) (C37.trans (hF ⟨7, .data⟩ (by simp) rfl (fun k _ hdk => (show k ≠ 9 by rintro rfl; rw [hdn] at hdk; cases hdk) |> fun hk => by simp [useD, hk]))) rfl hg ?_
              intro wv z1 z2 z3 z4 z5 z6
              refine ⟨f 46, (putSame fr dsDn f 46 (by decide)).symm, ⟨g, (upd_ne f _ (by decide)).trans eg, hbg, z1⟩, ⟨z4.trans hG.os, z5.trans hG.tape, z6.trans hG.output, by rw [z3]; exact hG.size, fun k hk => (z2 k (by omega)).trans (hG.block k hk)⟩, ?_⟩
              intro j hj hne hdj hun hu h
              match j, hne, hu, h with
              | 0, _, _, h => exact h
              | 1, _, _, h => exact h
              | 2, _, _, h => exact h
              | 3, _, _, h => exact h
              | 4, _, _, h => exact h
              | 5, _, _, h => exact h
              | 6, _, _, h => exact h
              | 7, _, _, h => exact h
              | 8, _, hu, _ => cases hu
              | 9, hne, _, _ => exact absurd rfl hne
              | (m + 10), _, _, _ => exact trivial
          · intro f wy hG hall
            obtain ⟨g, e1, e2, e3⟩ := hall 9 (by decide) (fun k _ => by simp [useD])
            exact hK _ _ (Met.intro (hJ _ _ ⟨f, congrArg (fun z => canon z dsDn f) HFR.out, g, e1, e2, e3, hG⟩))
        rintro _ WZ ⟨f, rfl, p, h10, hpp, hbx, hBZ⟩
        simp only [canon, dsDn, List.foldl, Act.put, List.setIfInBounds_toArray, List.set_cons_succ, List.set_cons_zero]
        rw [h10]
        obtain ⟨q, hq⟩ : ∃ q, q = W.heap.size := ⟨_, rfl⟩
        obtain ⟨M, hM⟩ : ∃ M, M = WZ.heap.size := ⟨_, rfl⟩
        have HG : Hid (Two W p q M X WZ) := by
          have hqp : W.heap.size < w2.heap.size := lt_of_block HRW.out
          have := lt_of_block hbx
          have := hBZ.size
          refine ⟨HB2.out.trans (hBZ.mono HB2.out.size), by omega, by omega, by omega, by omega, by omega, by omega, hbx, #[.int .i64 0, .int .i64 0, .int .i64 0, .string ⟨#[]⟩], rfl, ?_⟩
          rw [hq]
          exact (hBZ.block _ hqp).trans HRW.out
        rw [← hq]
        clear r0 r1 r2 r3 s0 s1 s2 s3 HRW hq hM c0 h10 hpp hbx hBZ
        go_wp2_with fail

        refine wp_cut_to (fun a0 t w' => ∃ f, t = canon a0 dsDa f ∧ OwnV w' M (f 11) (listD D len ++ [X]) ∧ (∃ g c, f 11 = .slice (some ⟨g, 0, none⟩) (len + 1) c) ∧ Two W p q M X w') ?_ ?_
        rotate_left
        · intro J K' hJ hK
          refine wp_letter ?_
          intro fr hfr
          have hsz : 43 < fr.tmps.size := by rw [hfr]; exact Nat.le_of_ble_eq_true rfl
          have t0 : fr.eval (.tmp 0) = .slice a len cap := by rw [hfr]; rfl
          have t10 : fr.eval (.tmp 10) = .pointer (some ⟨p, 0, none⟩) := by rw [hfr]; rfl
          have HFR := (show Hid _ from hfr)
          clear hfr
          refine wp_region_use (by kernel_rfl) (by kernel_rfl) dsDa slotDa (AsF 38 39 40 41 42 43 11 M (.slice a len cap) (listD D len) X) (Two W p q M X) useS HG.out.draws ?_ ?_ ?_ ?_ ?_
          · intro j f f' wy hj he h
            match j, hj with
            | 0, _ =>
              have e0 : f 38 = f' 38 := he 0 (by kernel_rfl)
              simp only [AsF, e0] at h ⊢
              exact h
            | 1, _ =>
              have e1 : f 39 = f' 39 := he 1 (by kernel_rfl)
              simp only [AsF, e1] at h ⊢
              exact h
            | 2, _ =>
              have e2 : f 40 = f' 40 := he 2 (by kernel_rfl)
              simp only [AsF, e2] at h ⊢
              exact h
            | 3, _ =>
              have e3 : f 41 = f' 41 := he 3 (by kernel_rfl)
              simp only [AsF, e3] at h ⊢
              exact h
            | 4, _ =>
              have e4 : f 42 = f' 42 := he 4 (by kernel_rfl)
              simp only [AsF, e4] at h ⊢
              exact h
            | 5, _ =>
              have e5 : f 43 = f' 43 := he 5 (by kernel_rfl)
              simp only [AsF, e5] at h ⊢
              exact h
            | 6, _ =>
              have e5 : f 43 = f' 43 := he 5 (by kernel_rfl)
              have e6 : f 11 = f' 11 := he 6 (by kernel_rfl)
              simp only [AsF, e5, e6] at h ⊢
              exact h
          · intro i hi
            exact slotDa_mem i hi
          · intro i j hi hj q
            exact slotDa_inj i j hi hj q
          · intro ops hops done f wy j oo hG ho hdn hcl hd hF
            have ho2 := ho
            rw [hops] at ho
            have hj : j < 7 := by
              rcases Nat.lt_or_ge j 7 with h | h
              · exact h
              · rw [Array.getElem?_eq_none (by simpa using h)] at ho; cases ho
            have N0 := (canon_eval_ne fr dsDa f 0 (by decide)).trans t0
            have N10 := (canon_eval_ne fr dsDa f 10 (by decide)).trans t10
            have C38 := canon_eval fr dsDa f 38 (by decide) (Nat.lt_of_le_of_lt (by decide) hsz)
            have C39 := canon_eval fr dsDa f 39 (by decide) (Nat.lt_of_le_of_lt (by decide) hsz)
            have C40 := canon_eval fr dsDa f 40 (by decide) (Nat.lt_of_le_of_lt (by decide) hsz)
            have C41 := canon_eval fr dsDa f 41 (by decide) (Nat.lt_of_le_of_lt (by decide) hsz)
            have C42 := canon_eval fr dsDa f 42 (by decide) (Nat.lt_of_le_of_lt (by decide) hsz)
            have C43 := canon_eval fr dsDa f 43 (by decide) (Nat.lt_of_le_of_lt (by decide) hsz)
            have C11 := canon_eval fr dsDa f 11 (by decide) (Nat.lt_of_le_of_lt (by decide) hsz)
            have hj' : j = 0 ∨ j = 1 ∨ j = 2 ∨ j = 3 ∨ j = 4 ∨ j = 5 ∨ j = 6 := by omega
            rcases hj' with rfl | rfl | rfl | rfl | rfl | rfl | rfl <;> simp only [List.getElem?_toArray, List.getElem?_cons_succ, List.getElem?_cons_zero, Option.some.injEq] at ho <;> subst ho
            · refine wpOp_runG ho2 (wanted_none rfl) (q_lit0E (canon fr dsDa f).eval _ wy rfl) ?_
              exact ⟨_, rfl, ⟨wy.heap.size, upd_same f 38 _, hG.sz, heap_alloc_new wy _⟩, hG.below ((Below.refl _ _).alloc hG.sz _), fun j _ _ _ _ _ h => h.below ((Below.refl _ _).alloc (Nat.le_refl _) _)⟩
            · refine wpOp_runG ho2 (wanted_none rfl) (q_moveE (canon fr dsDa f).eval _ wy _ rfl) ?_
              exact ⟨_, rfl, (upd_same f 39 _).trans N0, hG, fun j _ _ _ _ _ h => h⟩
            · obtain ⟨g, eg, hbg, hg⟩ := (hF ⟨0, .data⟩ (by simp) rfl (fun k _ hdk => (show k ≠ 2 by rintro rfl; rw [hdn] at hdk; cases hdk) |> fun hk => by simp [useA, useS, hk]))
              refine wpOp_app0E ho2 (wanted_none rfl) _ _ M g a len cap D rfl (C38.trans eg) (C39.trans (hF ⟨1, .data⟩ (by simp) rfl (fun k _ hdk => (show k ≠ 2 by rintro rfl; rw [hdn] at hdk; cases hdk) |> fun hk => by simp [useA, useS, hk]))) hg hbg (HE.out.below hG.bel) HL.out ?_
              intro v wv hO hB hkeep
              refine ⟨_, rfl, ?_, hG.below hB, ?_⟩
              · show OwnV wv M (upd f 40 v 40) (listD D len)
                rw [upd_same]
                exact hO
              · intro j hj hne hdj _ hu h
                match j, hne, hu, hdj, h with
                | 0, _, hu, _, _ => cases hu
                | 1, _, _, _, h => exact h
                | 2, hne, _, _, _ => exact absurd rfl hne
                | 3, _, _, _, h => exact h
                | 4, _, _, _, h =>
                  obtain ⟨g4, e4, h4⟩ := h
                  have hne4 : g4 ≠ g := by
                    rintro rfl
                    rw [hg] at h4
                    cases h4
                  exact ⟨g4, e4, (hkeep g4 (lt_of_block h4) hne4).trans h4⟩
                | 5, _, _, hdj, _ =>
                  have := hcl 5 (by decide) hdj 2 (by kernel_rfl)
                  rw [hdn] at this
                  cases this
                | 6, _, _, _, h => exact h
                | (m + 7), _, _, _, _ => exact trivial
            · refine wpOp_runG ho2 (wanted_none rfl) (q_loadE (canon fr dsDa f).eval _ wy _ p X rfl N10 hG.bx) ?_
              exact ⟨_, rfl, upd_same f 41 _, hG, fun j _ _ _ _ _ h => h⟩
            · refine wpOp_runG ho2 (wanted_none rfl) (q_lit1E (canon fr dsDa f).eval _ wy _ X rfl (C41.trans (hF ⟨3, .data⟩ (by simp) rfl (fun k _ hdk => (show k ≠ 4 by rintro rfl; rw [hdn] at hdk; cases hdk) |> fun hk => by simp [useA, useS, hk])))) ?_
              exact ⟨_, rfl, ⟨wy.heap.size, upd_same f 42 _, heap_alloc_new wy _⟩, hG.below ((Below.refl _ _).alloc hG.sz _), fun j _ _ _ _ _ h => h.below ((Below.refl _ _).alloc (Nat.le_refl _) _)⟩
            · obtain ⟨g, eg, hg⟩ := (hF ⟨4, .data⟩ (by simp) rfl (fun k _ hdk => (show k ≠ 5 by rintro rfl; rw [hdn] at hdk; cases hdk) |> fun hk => by simp [useA, useS, hk]))
              have hv : OwnV wy M ((canon fr dsDa f).eval (.tmp 40)) (listD D len) := by rw [C40]; exact (hF ⟨2, .data⟩ (by simp) rfl (fun k _ hdk => (show k ≠ 5 by rintro rfl; rw [hdn] at hdk; cases hdk) |> fun hk => by simp [useA, useS, hk]))
              refine wpOp_app1E ho2 (wanted_none rfl) _ _ M g 1 (listD D len) X rfl hv (C42.trans eg) (by rw [listD_len]; exact HL.out) hg hG.sz ?_
              intro v wv hO hB hsh
              refine ⟨_, rfl, ?_, hG.below hB, ?_⟩
              · show OwnV wv M (upd f 43 v 43) (listD D len ++ [X]) ∧ ∃ g c, upd f 43 v 43 = .slice (some ⟨g, 0, none⟩) ((listD D len).length + 1) c
                rw [upd_same]
                exact ⟨hO, hsh⟩
              · intro j hj hne hdj hun hu h
                match j, hne, hu, hdj, hun, h with
                | 0, _, _, _, hun, h =>
                  have hd2 : done 2 = true := hd ⟨2, .data⟩ (by simp) rfl
                  have := hun 2 (by decide) hd2
                  cases this
                | 1, _, _, _, _, h => exact h
                | 2, _, hu, _, _, _ => cases hu
                | 3, _, _, _, _, h => exact h
                | 4, _, hu, _, _, _ => cases hu
                | 5, hne, _, _, _, _ => exact absurd rfl hne
                | 6, _, _, _, _, h => exact h
                | (m + 7), _, _, _, _, _ => exact trivial
            · refine wpOp_runG ho2 (wanted_none rfl) (q_assignE (canon fr dsDa f).eval _ wy _ rfl) ?_
              refine ⟨_, rfl, ?_, hG, fun j _ _ _ _ _ h => h⟩
              show upd f 11 _ 11 = upd f 11 _ 43
              rw [upd_same, upd_ne f _ (by decide)]
              exact C43
          · intro f wy hG hall
            have h4 := hall 5 (by decide) (fun k _ => by simp [useS])
            have h5 : f 11 = f 43 := hall 6 (by decide) (fun k _ => by simp [useS])
            obtain ⟨h4, g, c, h6⟩ := h4
            refine hK _ _ (Met.intro (hJ _ _ ⟨f, congrArg (fun z => canon z dsDa f) HFR.out, ?_, ⟨g, c, ?_⟩, hG⟩))
            · rw [h5]; exact h4
            · rw [h5, h6, listD_len]
        rintro _ wa ⟨f, rfl, hO, ⟨g, c, hfs⟩, hG⟩
        rw [hfs] at hO
        have HOa : Hid (OwnV wa M (.slice (some ⟨g, 0, none⟩) (len + 1) c) (listD D len ++ [X])) := hO
        have HGa : Hid (Two W p q M X wa) := hG
        simp only [canon, dsDa, List.foldl, Act.put, List.setIfInBounds_toArray, List.set_cons_succ, List.set_cons_zero]
        rw [hfs]
        clear hO hG hfs HG
        go_wp2_with fail
        refine (specSeq_any (some ⟨g, 0, none⟩) (len + 1) c (snocD D len X) wa (own_snoc HOa.out) HFX.out).mono ?_
        rintro e wb ⟨rfl, hBb⟩
        have HG : Hid (Two W p q M X wb) := HGa.out.below (hBb.mono HGa.out.sz)
        have HO : Hid (OwnV wb M (.slice (some ⟨g, 0, none⟩) (len + 1) c) (listD D len ++ [X])) := HOa.out.below hBb
        clear hBb HGa HOa
        obtain ⟨s, hs⟩ : ∃ s, s = seqB (snocD D len X) (len + 1) := ⟨_, rfl⟩
        rw [← hs]
        cases s with
        | false =>
          have HN : Hid (okD D len author (j : Int) = false) := HOK.out.trans (okW_no2 hs.symm)
          clear hs
          obtain ⟨v0, v1, v2, v3, hrw⟩ := HG.out.row4
          have HRW := (show Hid _ from hrw)
          have r0 : wb.cell? ⟨q, 0, none⟩ = some v0 := cellN hrw
          have r1 : wb.cell? ⟨q, 1, none⟩ = some v1 := cellN hrw
          have r2 : wb.cell? ⟨q, 2, none⟩ = some v2 := cellN hrw
          have r3 : wb.cell? ⟨q, 3, none⟩ = some v3 := cellN hrw
          have s0 : wb.frozen? ⟨q, 0, none⟩ = false := frozN hrw
          have s1 : wb.frozen? ⟨q, 1, none⟩ = false := frozN hrw
          have s2 : wb.frozen? ⟨q, 2, none⟩ = false := frozN hrw
          have s3 : wb.frozen? ⟨q, 3, none⟩ = false := frozN hrw
          clear hrw
          go_wp2
          refine bodyPost_ret (results_trt (p := 7) (u := 6) (v := 8) rfl _ _ q 36 _ _ _ rfl (put4 _ _ _ _ HRW.out) Try.underlying36 rfl infoE4) rfl ?_
          exact SR.no HN.out (put4_bel HG.out.bel HG.out.lq)
        | true =>
          have HN : Hid (okD D len author (j : Int) = true) := HOK.out.trans (okW_of HS.out HA.out hs.symm)
          clear hs
          go_wp2_with fail
          refine wp_cut_to (fun a0 t w' => ∃ f, t = canon a0 dsDr f ∧ f 6 = .slice (some ⟨g, 0, none⟩) (len + 1) c ∧ f 8 = .bool true ∧ w'.heap[q]? = some (.cells (enc4 X).toArray 36 (0, 0)) ∧ OwnV w' W.heap.size (.slice (some ⟨g, 0, none⟩) (len + 1) c) (listD D len ++ [X]) ∧ Below W.heap.size W w') ?_ ?_
          rotate_left
          · intro J K' hJ hK
            refine wp_letter ?_
            intro fr hfr
            have hsz : 49 < fr.tmps.size := by rw [hfr]; exact Nat.le_of_ble_eq_true rfl
            have t11 : fr.eval (.tmp 11) = .slice (some ⟨g, 0, none⟩) (len + 1) c := by rw [hfr]; rfl
            have t10 : fr.eval (.tmp 10) = .pointer (some ⟨p, 0, none⟩) := by rw [hfr]; rfl
            have t7 : fr.eval (.tmp 7) = .pointer (some ⟨q, 0, none⟩) := by rw [hfr]; rfl
            have HFR := (show Hid _ from hfr)
            clear hfr
            refine wp_region_use (by kernel_rfl) (by kernel_rfl) dsDr slotDr (ReF 48 49 6 8 q (.slice (some ⟨g, 0, none⟩) (len + 1) c) X) (Sm wb q) (fun _ _ => false) ⟨fun _ _ => rfl, rfl, rfl, rfl, rfl, HG.out.row⟩ ?_ ?_ ?_ ?_ ?_
            · intro j f f' wy hj he h
              match j, hj with
              | 0, _ =>
                have e0 : f 48 = f' 48 := he 0 (by kernel_rfl)
                simp only [ReF, e0] at h ⊢
                exact h
              | 1, _ =>
                have e1 : f 49 = f' 49 := he 1 (by kernel_rfl)
                simp only [ReF, e1] at h ⊢
                exact h
              | 2, _ =>
                have e2 : f 6 = f' 6 := he 2 (by kernel_rfl)
                simp only [ReF, e2] at h ⊢
                exact h
              | 3, _ =>
                simp only [ReF] at h ⊢
                exact h
              | 4, _ =>
                have e4 : f 8 = f' 8 := he 4 (by kernel_rfl)
                simp only [ReF, e4] at h ⊢
                exact h
            · intro i hi
              exact slotDr_mem i hi
            · intro i j hi hj q
              exact slotDr_inj i j hi hj q
            · intro ops hops done f wy j oo hG ho hdn hcl hd hF
              have ho2 := ho
              rw [hops] at ho
              have hj : j < 5 := by
                rcases Nat.lt_or_ge j 5 with h | h
                · exact h
                · rw [Array.getElem?_eq_none (by simpa using h)] at ho; cases ho
              have N11 := (canon_eval_ne fr dsDr f 11 (by decide)).trans t11
              have N10 := (canon_eval_ne fr dsDr f 10 (by decide)).trans t10
              have N7 := (canon_eval_ne fr dsDr f 7 (by decide)).trans t7
              have C48 := canon_eval fr dsDr f 48 (by decide) (Nat.lt_of_le_of_lt (by decide) hsz)
              have C49 := canon_eval fr dsDr f 49 (by decide) (Nat.lt_of_le_of_lt (by decide) hsz)
              have C6 := canon_eval fr dsDr f 6 (by decide) (Nat.lt_of_le_of_lt (by decide) hsz)
              have C46 := canon_eval fr dsDr f 46 (by decide) (Nat.lt_of_le_of_lt (by decide) hsz)
              have C8 := canon_eval fr dsDr f 8 (by decide) (Nat.lt_of_le_of_lt (by decide) hsz)
              have hj' : j = 0 ∨ j = 1 ∨ j = 2 ∨ j = 3 ∨ j = 4 := by omega
              rcases hj' with rfl | rfl | rfl | rfl | rfl <;> simp only [List.getElem?_toArray, List.getElem?_cons_succ, List.getElem?_cons_zero, Option.some.injEq] at ho <;> subst ho
              · refine wpOp_runG ho2 (wanted_none rfl) (q_moveE (canon fr dsDr f).eval _ wy _ rfl) ?_
                exact ⟨_, rfl, (upd_same f 48 _).trans N11, hG, fun j _ _ _ _ _ h => h⟩
              · refine wpOp_runG ho2 (wanted_none rfl) (q_loadE (canon fr dsDr f).eval _ wy _ p X rfl N10 ((hG.blk p HG.out.ne).trans HG.out.bx)) ?_
                exact ⟨_, rfl, upd_same f 49 _, hG, fun j _ _ _ _ _ h => h⟩
              · refine wpOp_runG ho2 (wanted_none rfl) (q_assignE (canon fr dsDr f).eval _ wy _ rfl) ?_
                exact ⟨_, rfl, (upd_same f 6 _).trans (C48.trans (hF ⟨0, .data⟩ (by simp) rfl (fun k _ hdk => (show k ≠ 2 by rintro rfl; rw [hdn] at hdk; cases hdk) |> fun hk => by simp [useA, useS, hk]))), hG, fun j _ _ _ _ _ h => h⟩
              · obtain ⟨c, hc, hr⟩ := hG.row
                refine wpOp_storeE ho2 (wanted_none rfl) _ _ q X rfl N7 (C49.trans (hF ⟨1, .data⟩ (by simp) rfl (fun k _ hdk => (show k ≠ 3 by rintro rfl; rw [hdn] at hdk; cases hdk) |> fun hk => by simp [useA, useS, hk]))) hc hr ?_
                intro wv z1 z2 z3 z4 z5 z6
                exact ⟨f 46, (putSame fr dsDr f 46 (by decide)).symm, z1, ⟨fun k hk => (z2 k hk).trans (hG.blk k hk), z3.trans hG.size, z4.trans hG.os, z5.trans hG.tape, z6.trans hG.output, (enc4 X).toArray, rfl, z1⟩, fun j _ _ _ _ _ h => h.keep (fun _ => z1)⟩
              · refine wpOp_runG ho2 (wanted_none rfl) (q_assignE (canon fr dsDr f).eval _ wy _ rfl) ?_
                exact ⟨.bool true, rfl, upd_same f 8 _, hG, fun j _ _ _ _ _ h => h⟩
            · intro f wy hG hall
              refine hK _ _ (Met.intro (hJ _ _ ⟨f, congrArg (fun z => canon z dsDr f) HFR.out, hall 2 (by decide) (fun _ _ => rfl), hall 4 (by decide) (fun _ _ => rfl), hall 3 (by decide) (fun _ _ => rfl), HG.out.ends hG HO.out⟩))
          rintro _ wf ⟨f, rfl, h6, h8, hrow, hO, hB⟩
          simp only [canon, dsDr, List.foldl, Act.put, List.setIfInBounds_toArray, List.set_cons_succ, List.set_cons_zero]
          rw [h6, h8]
          have HR := (show Hid _ from hrow)
          have HO2 : Hid (OwnV wf W.heap.size (.slice (some ⟨g, 0, none⟩) (len + 1) c) (listD D len ++ [X])) := hO
          have HB2 : Hid (Below W.heap.size W wf) := hB
          clear h6 h8 hrow hO hB
          go_wp2
          refine bodyPost_ret (results_trt (p := 7) (u := 6) (v := 8) rfl _ _ q 36 _ _ _ rfl HR.out Try.underlying36 rfl infoE4) rfl ?_
          have := SR.yes (L := listD D len ++ [X]) (x := X) (W := W) HN.out HO2.out HB2.out
          rw [← HXE.out] at this
          rw [← HXE.out]
          exact this
end Go.Proofs.Ytjfciokpnhnhbaa
