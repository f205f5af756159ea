/-
  The specification's FrameOf, and the law FnExactFrameOf.
-/
import Derived.Test.YtcknemblniemcaaDoorFrS
import Derived.Test.YtcknemblniemcaaDoorRegG
import Derived.Shelf.Abstract
namespace Go.Proofs.YtcknemblniemcaaDoor
open Go.RowKit Go.Shelf
set_option linter.unusedVariables false

def dsP : List Nat := [8, 9, 10, 11, 12, 13, 14, 15, 16, 17, 18, 19, 20, 21, 22, 23, 24, 25, 2]
def slotP (j : Nat) : Nat := dsP.getD j 0
theorem slotP_inj (i j : Nat) (hi : i < 19) (hj : j < 19) (q : slotP i = slotP j) : i = j := by
  have h : ∀ i : Fin 19, ∀ j : Fin 19, slotP i.val = slotP j.val → i.val = j.val := by decide
  exact h ⟨i, hi⟩ ⟨j, hj⟩ q
theorem slotP_mem (i : Nat) (hi : i < 19) : slotP i ∈ dsP := by
  have h : ∀ i : Fin 19, slotP i.val ∈ dsP := by decide
  exact h ⟨i, hi⟩
/-- four bytes in a block of their own -/
def Four (a b c d : Int) (v : Value) (w : World) : Prop := ∃ p, v = .slice (some ⟨p, 0, none⟩) 4 4 ∧ w.heap[p]? = some (.cells #[.int .u8 a, .int .u8 b, .int .u8 c, .int .u8 d] 5 (0, 0))
theorem Four.below {a b c d : Int} (v : Value) (w w' : World) (h : Four a b c d v w) (hB : Below w.heap.size w w') : Four a b c d v w' := by
  obtain ⟨p, e, h⟩ := h
  exact ⟨p, e, (hB.block _ (lt_of_block h)).trans h⟩
theorem cellQ {w : World} {p : Nat} {cs : Array Value} {t : TypeId} {z : Nat × Nat} {i : Nat} {v : Value} (h : w.heap[p]? = some (.cells cs t z)) (hv : cs[i]? = some v) : w.cell? ⟨p, i, none⟩ = some v := by
  simp [World.cell?, h, hv]
theorem four_string (w : World) (p : Nat) (a b c d : Int) (h : w.heap[p]? = some (.cells #[.int .u8 a, .int .u8 b, .int .u8 c, .int .u8 d] 5 (0, 0))) : (convert 29 9 (.slice (some ⟨p, 0, none⟩) 4 4)).run Tryd.prog w = .ok (.string (by4 a b c d)) w := by
  have e0 : w.cell? ⟨p, 0, none⟩ = some (.int .u8 a) := cellQ h rfl
  have e1 : w.cell? ⟨p, 1, none⟩ = some (.int .u8 b) := cellQ h rfl
  have e2 : w.cell? ⟨p, 2, none⟩ = some (.int .u8 c) := cellQ h rfl
  have e3 : w.cell? ⟨p, 3, none⟩ = some (.int .u8 d) := cellQ h rfl
  rw [run_convert_bytes_string _ 29 9 5 _ _ _ Tryd.underlying29 Tryd.underlying5 Tryd.underlying9]
  rw [run_bytesToString _ _ 4 4 [a, b, c, d] (by simp [loadCells, go_sem, e0, e1, e2, e3])]
  rfl
theorem q_four (ev : Operand → Value) (o : Oper) (w : World) (x0 x1 x2 x3 : Operand) (a b c d : Int) (h : o.op = .buildSlice 29 4 #[(0, x0), (1, x1), (2, x2), (3, x3)]) (h0 : ev x0 = .int .u8 a) (h1 : ev x1 = .int .u8 b) (h2 : ev x2 = .int .u8 c) (h3 : ev x3 = .int .u8 d) : (execOp ev o).run Tryd.prog w = .ok (.value (.slice (some ⟨w.heap.size, 0, none⟩) 4 4)) (w.alloc (.cells #[.int .u8 a, .int .u8 b, .int .u8 c, .int .u8 d] 5)) := by
  simp [execOp, h, h0, h1, h2, h3]
  go_simp
theorem q_toStr (ev : Operand → Value) (o : Oper) (w : World) (x : Operand) (v : Value) (t : ByteArray) (h : o.op = .convert 29 9 x) (hx : ev x = v) (hc : (convert 29 9 v).run Tryd.prog w = .ok (.string t) w) : (execOp ev o).run Tryd.prog w = .ok (.value (.string t)) w := by
  simp [execOp, h, hx, hc]
theorem q_add (ev : Operand → Value) (o : Oper) (w : World) (x y : Operand) (a b : ByteArray) (h : o.op = .binOp .add 9 x y 9) (hx : ev x = .string a) (hy : ev y = .string b) (hs : a.size + b.size ≤ 100000000) : (execOp ev o).run Tryd.prog w = .ok (.value (.string (a ++ b))) w := by
  have ha := add_ok hs w
  simp [execOp, h, hx, hy]
  go_simp
  omega
theorem wp_letterP {c : Code} {P : Program} {Q : Exit → Act → World → Prop} {a : Act} {w : World} (h : ∀ a', a' = a → c.wp P Q a' w) : c.wp P Q a w := h a rfl

set_option maxRecDepth 10000 in
set_option maxHeartbeats 2000000 in
theorem specFrame_any (s : ByteArray) (hs' : s.size ≤ 100000000) (w : World) :
    Calls Tryd.prog 6 #[.string s] w fun e w' => e = .returned (.string (frameT s)) ∧ Below w.heap.size w w' := by
  obtain ⟨n, hn⟩ : ∃ n, n = s.size := ⟨_, rfl⟩
  have hnI : (s.size : Int) = (n : Int) := by rw [hn]
  have HN : Hid (n = s.size) := hn
  by_cases h : n ≤ 100000
  · have hlt : (n : Int) ≤ 100000 := by omega
    have HR : Hid (frameT s = lenT n ++ sumT s ++ s) := by show _ = _; unfold frameT headT; rw [if_pos (by omega), hn]
    have en1 : ∀ args w, (callFunc 17 args).run Tryd.prog w = .ok (.enter 17 args) w := enters_of Tryd.func17 (by kernel_rfl) rfl
    have HEN := (show Hid _ from en1)
    clear en1 hn
    go_enter Tryd.func6, Tryd.ntmps6
    go_wp2
    refine wp_letterP ?_
    intro fr hfr
    have hs : 25 < fr.tmps.size := by rw [hfr]; exact Nat.le_of_ble_eq_true rfl
    have t0 : fr.eval (.tmp 0) = .string s := by rw [hfr]; rfl
    have t3 : fr.eval (.tmp 3) = .int .i64 (n : Int) := by rw [hfr]; rfl
    have HFR := (show Hid _ from hfr)
    clear hfr
    refine wp_region_skips (by kernel_rfl) (by kernel_rfl) dsP slotP (VF [.int .i64 n, .int .i64 ((n : Int) / 2 ^ 24), .int .u8 ((n : Int) / 2 ^ 24 % 256), .int .i64 n, .int .i64 ((n : Int) / 2 ^ 16), .int .u8 ((n : Int) / 2 ^ 16 % 256), .int .i64 n, .int .i64 ((n : Int) / 2 ^ 8), .int .u8 ((n : Int) / 2 ^ 8 % 256), .int .i64 n, .int .u8 ((n : Int) % 256), undef, .string (lenT n), .string s, .string (sumT s), .string (lenT n ++ sumT s), .string s, .string (lenT n ++ sumT s ++ s), .string (lenT n ++ sumT s ++ s)] 11 (Four ((n : Int) / 2 ^ 24 % 256) ((n : Int) / 2 ^ 16 % 256) ((n : Int) / 2 ^ 8 % 256) ((n : Int) % 256))) (fun _ _ _ _ h hB => h.below (fun v w w' => Four.below v w w') hB) ?_ ?_ ?_ ?_
    · intro i hi
      exact slotP_mem i hi
    · intro i j hi hj q
      exact slotP_inj i j hi hj q
    · intro ops hops f wy i o hy ho hd
      have ho2 := ho
      rw [hops] at ho
      have N0 := (canon_eval_ne fr dsP f 0 (by decide)).trans t0
      have N3 := (canon_eval_ne fr dsP f 3 (by decide)).trans t3
      have hi : i < 19 := by
        rcases Nat.lt_or_ge i 19 with h | h
        · exact h
        · rw [Array.getElem?_eq_none (by simpa using h)] at ho; cases ho
      have hi' : i = 0 ∨ i = 1 ∨ i = 2 ∨ i = 3 ∨ i = 4 ∨ i = 5 ∨ i = 6 ∨ i = 7 ∨ i = 8 ∨ i = 9 ∨ i = 10 ∨ i = 11 ∨ i = 12 ∨ i = 13 ∨ i = 14 ∨ i = 15 ∨ i = 16 ∨ i = 17 ∨ i = 18 := by omega
      clear hops
      rcases hi' with rfl | rfl | rfl | rfl | rfl | rfl | rfl | rfl | rfl | rfl | rfl | rfl | rfl | rfl | rfl | rfl | rfl | rfl | rfl <;> simp only [List.getElem?_toArray, List.getElem?_cons_succ, List.getElem?_cons_zero, Option.some.injEq] at ho <;> subst ho
      · refine wpOp_runG ho2 (wanted_none rfl) (q_move (canon fr dsP f).eval _ wy _ rfl) ?_
        exact ⟨_, rfl, VF.mk (by decide) N3, Below.refl _ _⟩
      · refine wpOp_runG ho2 (wanted_none rfl) (q_shr (canon fr dsP f).eval _ wy _ _ n rfl ((canon_eval fr dsP f 8 (by decide) (Nat.lt_of_le_of_lt (by decide) hs)).trans ((hd ⟨0, .data⟩ (by simp) rfl).eq (by decide))) 24 (by decide) rfl) ?_
        exact ⟨_, rfl, VF.mk (by decide) rfl, Below.refl _ _⟩
      · refine wpOp_runG ho2 (wanted_none rfl) (q_toU8 (canon fr dsP f).eval _ wy _ _ rfl ((canon_eval fr dsP f 9 (by decide) (Nat.lt_of_le_of_lt (by decide) hs)).trans ((hd ⟨1, .data⟩ (by simp) rfl).eq (by decide)))) ?_
        exact ⟨_, rfl, VF.mk (by decide) rfl, Below.refl _ _⟩
      · refine wpOp_runG ho2 (wanted_none rfl) (q_move (canon fr dsP f).eval _ wy _ rfl) ?_
        exact ⟨_, rfl, VF.mk (by decide) N3, Below.refl _ _⟩
      · refine wpOp_runG ho2 (wanted_none rfl) (q_shr (canon fr dsP f).eval _ wy _ _ n rfl ((canon_eval fr dsP f 11 (by decide) (Nat.lt_of_le_of_lt (by decide) hs)).trans ((hd ⟨3, .data⟩ (by simp) rfl).eq (by decide))) 16 (by decide) rfl) ?_
        exact ⟨_, rfl, VF.mk (by decide) rfl, Below.refl _ _⟩
      · refine wpOp_runG ho2 (wanted_none rfl) (q_toU8 (canon fr dsP f).eval _ wy _ _ rfl ((canon_eval fr dsP f 12 (by decide) (Nat.lt_of_le_of_lt (by decide) hs)).trans ((hd ⟨4, .data⟩ (by simp) rfl).eq (by decide)))) ?_
        exact ⟨_, rfl, VF.mk (by decide) rfl, Below.refl _ _⟩
      · refine wpOp_runG ho2 (wanted_none rfl) (q_move (canon fr dsP f).eval _ wy _ rfl) ?_
        exact ⟨_, rfl, VF.mk (by decide) N3, Below.refl _ _⟩
      · refine wpOp_runG ho2 (wanted_none rfl) (q_shr (canon fr dsP f).eval _ wy _ _ n rfl ((canon_eval fr dsP f 14 (by decide) (Nat.lt_of_le_of_lt (by decide) hs)).trans ((hd ⟨6, .data⟩ (by simp) rfl).eq (by decide))) 8 (by decide) rfl) ?_
        exact ⟨_, rfl, VF.mk (by decide) rfl, Below.refl _ _⟩
      · refine wpOp_runG ho2 (wanted_none rfl) (q_toU8 (canon fr dsP f).eval _ wy _ _ rfl ((canon_eval fr dsP f 15 (by decide) (Nat.lt_of_le_of_lt (by decide) hs)).trans ((hd ⟨7, .data⟩ (by simp) rfl).eq (by decide)))) ?_
        exact ⟨_, rfl, VF.mk (by decide) rfl, Below.refl _ _⟩
      · refine wpOp_runG ho2 (wanted_none rfl) (q_move (canon fr dsP f).eval _ wy _ rfl) ?_
        exact ⟨_, rfl, VF.mk (by decide) N3, Below.refl _ _⟩
      · refine wpOp_runG ho2 (wanted_none rfl) (q_toU8 (canon fr dsP f).eval _ wy _ _ rfl ((canon_eval fr dsP f 17 (by decide) (Nat.lt_of_le_of_lt (by decide) hs)).trans ((hd ⟨9, .data⟩ (by simp) rfl).eq (by decide)))) ?_
        exact ⟨_, rfl, VF.mk (by decide) rfl, Below.refl _ _⟩
      · refine wpOp_runG ho2 (wanted_none rfl) (q_four (canon fr dsP f).eval _ wy _ _ _ _ _ _ _ _ rfl ((canon_eval fr dsP f 10 (by decide) (Nat.lt_of_le_of_lt (by decide) hs)).trans ((hd ⟨2, .data⟩ (by simp) rfl).eq (by decide))) ((canon_eval fr dsP f 13 (by decide) (Nat.lt_of_le_of_lt (by decide) hs)).trans ((hd ⟨5, .data⟩ (by simp) rfl).eq (by decide))) ((canon_eval fr dsP f 16 (by decide) (Nat.lt_of_le_of_lt (by decide) hs)).trans ((hd ⟨8, .data⟩ (by simp) rfl).eq (by decide))) ((canon_eval fr dsP f 18 (by decide) (Nat.lt_of_le_of_lt (by decide) hs)).trans ((hd ⟨10, .data⟩ (by simp) rfl).eq (by decide)))) ?_
        exact ⟨_, rfl, VF.put ⟨_, rfl, heap_alloc_new _ _⟩, (Below.refl _ _).alloc (Nat.le_refl _) _⟩
      · obtain ⟨p, hp, hb⟩ := (hd ⟨11, .data⟩ (by simp) rfl).get
        refine wpOp_runG ho2 (wanted_none rfl) (q_toStr (canon fr dsP f).eval _ wy _ _ (lenT n) rfl ((canon_eval fr dsP f 19 (by decide) (Nat.lt_of_le_of_lt (by decide) hs)).trans hp) (four_string wy p _ _ _ _ hb)) ?_
        exact ⟨_, rfl, VF.mk (by decide) rfl, Below.refl _ _⟩
      · refine wpOp_runG ho2 (wanted_none rfl) (q_move (canon fr dsP f).eval _ wy _ rfl) ?_
        exact ⟨_, rfl, VF.mk (by decide) N0, Below.refl _ _⟩
      · refine wpOp_enterG ho2 (wanted_none rfl) (q_call1 (canon fr dsP f).eval _ wy _ HEN.out _ _ rfl rfl) ?_
        rw [(canon_eval fr dsP f 21 (by decide) (Nat.lt_of_le_of_lt (by decide) hs)).trans ((hd ⟨13, .data⟩ (by simp) rfl).eq (by decide))]
        refine (sum_any s hs' wy).mono ?_
        rintro e wz ⟨rfl, hz⟩
        exact ⟨_, rfl, _, rfl, VF.mk (by decide) rfl, hz⟩
      · refine wpOp_runG ho2 (wanted_none rfl) (q_add (canon fr dsP f).eval _ wy _ _ _ _ rfl ((canon_eval fr dsP f 20 (by decide) (Nat.lt_of_le_of_lt (by decide) hs)).trans ((hd ⟨12, .data⟩ (by simp) rfl).eq (by decide))) ((canon_eval fr dsP f 22 (by decide) (Nat.lt_of_le_of_lt (by decide) hs)).trans ((hd ⟨14, .data⟩ (by simp) rfl).eq (by decide))) (by rw [lenT_size, sumT_size]; decide)) ?_
        exact ⟨_, rfl, VF.mk (by decide) rfl, Below.refl _ _⟩
      · refine wpOp_runG ho2 (wanted_none rfl) (q_move (canon fr dsP f).eval _ wy _ rfl) ?_
        exact ⟨_, rfl, VF.mk (by decide) N0, Below.refl _ _⟩
      · refine wpOp_runG ho2 (wanted_none rfl) (q_add (canon fr dsP f).eval _ wy _ _ _ _ rfl ((canon_eval fr dsP f 23 (by decide) (Nat.lt_of_le_of_lt (by decide) hs)).trans ((hd ⟨15, .data⟩ (by simp) rfl).eq (by decide))) ((canon_eval fr dsP f 24 (by decide) (Nat.lt_of_le_of_lt (by decide) hs)).trans ((hd ⟨16, .data⟩ (by simp) rfl).eq (by decide))) (by rw [ByteArray.size_append, lenT_size, sumT_size, ← HN.out]; omega)) ?_
        exact ⟨_, rfl, VF.mk (by decide) rfl, Below.refl _ _⟩
      · refine wpOp_runG ho2 (wanted_none rfl) (q_assign (canon fr dsP f).eval _ wy _ rfl) ?_
        exact ⟨_, rfl, VF.mk (by decide) ((canon_eval fr dsP f 25 (by decide) (Nat.lt_of_le_of_lt (by decide) hs)).trans ((hd ⟨17, .data⟩ (by simp) rfl).eq (by decide))), Below.refl _ _⟩
    · intro f wy hy hall
      have h2 : f 2 = .string (lenT n ++ sumT s ++ s) := (hall 18 (by decide)).eq (by decide)
      have e2 : (canon fr dsP f).eval (.tmp 2) = .string (lenT n ++ sumT s ++ s) := (canon_eval fr dsP f 2 (by decide) (Nat.lt_of_le_of_lt (by decide) hs)).trans h2
      have hdf : (canon fr dsP f).defers = [] := by rw [canon_defers, HFR.out]
      generalize canon fr dsP f = t at e2 hdf
      rename_i hk
      refine hk _ _ (wp_ret ?_)
      exact bodyPost_ret (v := .string (frameT s)) ((results_tmp rfl _ _ _).trans (by rw [show t.tmps.getD 2 undef = _ from e2, HR.out])) hdf ⟨rfl, hy⟩
  · have hlt : (100000 : Int) < (n : Int) := by omega
    have HR : Hid (frameT s = ⟨#[]⟩) := by show _ = _; unfold frameT; rw [if_neg (by omega)]
    go_enter Tryd.func6, Tryd.ntmps6
    go_wp2
    go_ret
    exact ⟨ret_val (congrArg Value.string HR.out.symm), Below.refl _ _⟩

theorem frame_walk (s : ByteArray) (hs : s.size ≤ 9223372036854775807) (w : World) (hT : Halves w) :
    Calls Tryd.prog 3 #[.string s] w fun e w' => e = .returned (.bool true) ∧ Below w.heap.size w w' := by
  obtain ⟨n, hn⟩ : ∃ n, n = s.size := ⟨_, rfl⟩
  have hnI : (s.size : Int) = (n : Int) := by rw [hn]
  have HT := (show Hid _ from hT)
  clear hT
  by_cases h : n ≤ 1048576
  · have hlt : (n : Int) ≤ 1048576 := by omega
    go_enter Tryd.func3, Tryd.ntmps3
    go_wp2_with fail
    refine (specFrame_any s (by omega) w).mono ?_
    rintro e w1 ⟨rfl, hB1⟩
    go_wp2_with fail
    refine (implFrame_any s (by omega) w1 (Halves.below HT.out hB1)).mono ?_
    rintro e w2 ⟨rfl, hB2⟩
    go_wp2
    go_ret
    exact ⟨rfl, hB1.trans (hB2.mono hB1.size)⟩
  · have hlt : (1048576 : Int) < (n : Int) := by omega
    go_enter Tryd.func3, Tryd.ntmps3
    go_wp2
    go_ret
    exact ⟨rfl, Below.refl _ _⟩
end Go.Proofs.YtcknemblniemcaaDoor
