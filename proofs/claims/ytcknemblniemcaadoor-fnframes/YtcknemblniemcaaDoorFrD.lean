/-
  The drawings of FnFrames: whatever the code, texts of few bytes. Condition: the code reads as bytes.
-/
import Derived.Test.YtcknemblniemcaaDoorDrawE
import Derived.Test.YtcknemblniemcaaDoorFrP
import Derived.Test.YtcknemblniemcaaDoorRegR
import Derived.Shelf.Abstract
import Derived.Laws.AppendOwn
import Derived.Laws.BytesString
import Derived.Laws.Cells
namespace Go.Proofs.YtcknemblniemcaaDoor
open Go.RowKit Go.Shelf
set_option linter.unusedVariables false

theorem big_any (a : Option Addr) (len cap : Nat) (w : World) : Calls Tryd.prog 13 #[.slice a len cap] w fun e w' => e = .returned (.bool (decide ((1048576 : Int) < (len : Int)))) ∧ w' = w := by
  go_enter Tryd.func13, Tryd.ntmps13
  go_wp2
  go_ret
  exact ⟨rfl, rfl⟩
theorem open_any (a : Option Addr) (len cap : Nat) (w : World) : Calls Tryd.prog 21 #[.slice a len cap] w fun e w' => e = .returned (.pointer (some ⟨w.heap.size, 0, none⟩)) ∧ Draw w a len cap w.heap.size w' := by
  go_enter Tryd.func21, Tryd.ntmps21
  go_wp2
  go_ret
  exact ⟨rfl, (Below.refl _ _).alloc (Nat.le_refl _) _, Nat.le_refl _, 0, Nat.zero_le _, heap_alloc_new w _⟩

theorem size_add1 {s c : ByteArray} (hs : s.size ≤ 100) (hc : c.size = 1) : (s ++ c).size ≤ 300 := by rw [ByteArray.size_append]; omega

def six : Array Value := #[.string ⟨#[48]⟩, .string ⟨#[49]⟩, .string ⟨#[40]⟩, .string ⟨#[41]⟩, .string ⟨#[44]⟩, .string ⟨#[107]⟩]
theorem six_at (y : Nat) (h : y < 6) : ∃ c : ByteArray, c.size = 1 ∧ six[y]? = some (.string c) := by
  rcases (show y = 0 ∨ y = 1 ∨ y = 2 ∨ y = 3 ∨ y = 4 ∨ y = 5 by omega) with rfl | rfl | rfl | rfl | rfl | rfl <;> exact ⟨_, rfl, rfl⟩
theorem six_new (w : World) (y : Nat) (c : ByteArray) (h : six[y]? = some (.string c)) : (w.alloc (.cells six 9)).cell? ⟨w.heap.size, y, none⟩ = some (.string c) := cellQ (heap_alloc_new w (.cells six 9)) h
theorem six_list (y : Nat) (h : y < 6) (c : ByteArray) (hc : six[y]? = some (.string c)) : ([Value.string ⟨#[48]⟩, Value.string ⟨#[49]⟩, Value.string ⟨#[40]⟩, Value.string ⟨#[41]⟩, Value.string ⟨#[44]⟩, Value.string ⟨#[107]⟩] : List Value)[y]'h = .string c := by
  rcases (show y = 0 ∨ y = 1 ∨ y = 2 ∨ y = 3 ∨ y = 4 ∨ y = 5 by omega) with rfl | rfl | rfl | rfl | rfl | rfl <;> exact Option.some.inj hc
theorem lit_drew {R : Nat} {w w' : World} {cs : Array Value} {t : TypeId} (hM : Mut R (w.alloc (.cells cs t)).drew w') : Mut R (w.alloc (.cells cs t)) w' := (Mut.of_below (Below.refl _ _).drew).trans hM
theorem three_le {s c : ByteArray} {x y n : Nat} (hs : s.size ≤ 100) (hc : c.size = 1) : (s.extract 0 x ++ c ++ s.extract y n).size ≤ 300 := by
  rw [ByteArray.size_append, ByteArray.size_append, ByteArray.size_extract, ByteArray.size_extract]; omega

def dsH : List Nat := [26, 27, 28, 29, 30, 31, 32, 33, 34, 35, 36, 37, 38, 39, 4]
def slotH (j : Nat) : Nat := dsH.getD j 0
theorem slotH_inj (i j : Nat) (hi : i < 15) (hj : j < 15) (q : slotH i = slotH j) : i = j := by
  have h : ∀ i : Fin 15, ∀ j : Fin 15, slotH i.val = slotH j.val → i.val = j.val := by decide
  exact h ⟨i, hi⟩ ⟨j, hj⟩ q
theorem slotH_mem (i : Nat) (hi : i < 15) : slotH i ∈ dsH := by
  have h : ∀ i : Fin 15, slotH i.val ∈ dsH := by decide
  exact h ⟨i, hi⟩
/-- of the values of hurt's region -/
def HF (R : Nat) (s : ByteArray) (x x1 : Nat) : Nat → Value → World → Prop
  | 0, v, _ => v = .string s
  | 1, v, _ => v = .int .i64 x
  | 2, v, _ => v = .string (s.extract 0 x)
  | 3, v, w => ∃ p, v = .slice (some ⟨p, 0, none⟩) 6 6 ∧ p ≠ R ∧ w.heap[p]? = some (.cells six 9 (0, 0))
  | 4, v, _ => v = .pointer (some ⟨R, 0, none⟩)
  | 5, v, _ => ∃ y : Nat, y < 6 ∧ v = .int .i64 y
  | 6, v, w => ∃ p y : Nat, y < 6 ∧ p ≠ R ∧ v = .pointer (some ⟨p, y, none⟩) ∧ w.heap[p]? = some (.cells six 9 (0, 0))
  | 7, v, _ => ∃ c : ByteArray, c.size = 1 ∧ v = .string c
  | 8, v, _ => ∃ c : ByteArray, c.size = 1 ∧ v = .string (s.extract 0 x ++ c)
  | 9, v, _ => v = .string s
  | 10, v, _ => v = .int .i64 x
  | 11, v, _ => v = .int .i64 x1
  | 12, v, _ => v = .string (s.extract x1 s.size)
  | 13, v, _ => ∃ t : ByteArray, t.size ≤ 300 ∧ v = .string t
  | 14, v, _ => ∃ t : ByteArray, t.size ≤ 300 ∧ v = .string t
  | _, _, _ => True
theorem HF.mut {R : Nat} {s : ByteArray} {x x1 j : Nat} {v : Value} {w w' : World} (h : HF R s x x1 j v w) (hM : Mut R w w') : HF R s x x1 j v w' := by
  match j, h with
  | 0, h => exact h
  | 1, h => exact h
  | 2, h => exact h
  | 3, ⟨p, e, hp, hb⟩ => exact ⟨p, e, hp, (hM.block p (lt_of_block hb) hp).trans hb⟩
  | 4, h => exact h
  | 5, h => exact h
  | 6, ⟨p, y, hy, hp, e, hb⟩ => exact ⟨p, y, hy, hp, e, (hM.block p (lt_of_block hb) hp).trans hb⟩
  | 7, h => exact h
  | 8, h => exact h
  | 9, h => exact h
  | 10, h => exact h
  | 11, h => exact h
  | 12, h => exact h
  | 13, h => exact h
  | 14, h => exact h
  | (n + 15), _ => trivial
theorem q_six (ev : Operand → Value) (o : Oper) (w : World) (h : o.op = .buildSlice 24 6 #[(0, .const (.string ⟨#[48]⟩)), (1, .const (.string ⟨#[49]⟩)), (2, .const (.string ⟨#[40]⟩)), (3, .const (.string ⟨#[41]⟩)), (4, .const (.string ⟨#[44]⟩)), (5, .const (.string ⟨#[107]⟩))]) (hev : ∀ v, ev (.const v) = v) : (execOp ev o).run Tryd.prog w = .ok (.value (.slice (some ⟨w.heap.size, 0, none⟩) 6 6)) (w.alloc (.cells six 9)) := by
  simp [execOp, h, hev]
  go_simp
  rfl
theorem q_idxS (ev : Operand → Value) (o : Oper) (w : World) (x y : Operand) (p k : Nat) (h : o.op = .indexAddr 24 x y) (hx : ev x = .slice (some ⟨p, 0, none⟩) 6 6) (hy : ev y = .int .i64 k) (hk : k < 6) : (execOp ev o).run Tryd.prog w = .ok (.value (.pointer (some ⟨p, k, none⟩))) w := by
  have hkI : (k : Int) < 6 := by omega
  simp [execOp, h, hx, hy]
  go_simp
theorem q_loadS (ev : Operand → Value) (o : Oper) (w : World) (x : Operand) (p k : Nat) (c : ByteArray) (h : o.op = .load 9 x) (hx : ev x = .pointer (some ⟨p, k, none⟩)) (hc : w.cell? ⟨p, k, none⟩ = some (.string c)) : (execOp ev o).run Tryd.prog w = .ok (.value (.string c)) w := by
  simp [execOp, h, hx]
  go_simp
theorem q_sliceH (ev : Operand → Value) (o : Oper) (w : World) (x y : Operand) (s : ByteArray) (k : Nat) (h : o.op = .slice 9 x none (some y) none) (hx : ev x = .string s) (hy : ev y = .int .i64 k) (hk : k < s.size) : (execOp ev o).run Tryd.prog w = .ok (.value (.string (s.extract 0 k))) w := by
  have hkI : (k : Int) ≤ (s.size : Int) := by omega
  have hk' : k ≤ s.size := by omega
  simp [execOp, h, hx, hy]
  go_simp
theorem q_sliceL (ev : Operand → Value) (o : Oper) (w : World) (x y : Operand) (s : ByteArray) (k : Nat) (h : o.op = .slice 9 x (some y) none none) (hx : ev x = .string s) (hy : ev y = .int .i64 k) (hk : k ≤ s.size) : (execOp ev o).run Tryd.prog w = .ok (.value (.string (s.extract k s.size))) w := by
  have hkI : (k : Int) ≤ (s.size : Int) := by omega
  simp [execOp, h, hx, hy]
  go_simp
theorem q_inc (ev : Operand → Value) (o : Oper) (w : World) (x y : Operand) (k k1 : Nat) (h : o.op = .binOp .add 3 x y 3) (hx : ev x = .int .i64 k) (hy : ev y = .int .i64 1) (hk : (k : Int) + 1 = (k1 : Int)) (hl : k ≤ 1000) : (execOp ev o).run Tryd.prog w = .ok (.value (.int .i64 k1)) w := by
  have hw : IntKind.i64.wrap ((k : Int) + 1) = (k1 : Int) := by rw [IntKind.wrap_i64]; omega
  clear hk
  simp [execOp, h, hx, hy]
  go_simp

section
variable {W : World} {a : Option Addr} {len cap R : Nat} {Z : Nat → Int}

theorem belowN_any (hU : IsU8 W a len cap Z) (n : Nat) (hn : 1 ≤ n) (hn2 : n ≤ 256) (w : World) (h : Draw W a len cap R w) :
    Calls Tryd.prog 22 #[.pointer (some ⟨R, 0, none⟩), .int .i64 n] w fun e w' => ∃ x : Nat, x < n ∧ e = .returned (.int .i64 x) ∧ Draw W a len cap R w' ∧ Mut R w w' := by
  by_cases h1 : n = 1
  · subst h1
    go_enter Tryd.func22, Tryd.ntmps22
    go_wp2
    go_ret
    exact ⟨0, by omega, rfl, h, Mut.refl _ _⟩
  · refine (below_any hU n (by omega) (by omega) w h).mono ?_
    rintro e w' ⟨x, h0, hx, rfl, hD, hM⟩
    exact ⟨x.toNat, by omega, ret_int (by omega), hD, hM⟩

set_option maxHeartbeats 400000 in
theorem text_any (hU : IsU8 W a len cap Z) (w : World) (h : Draw W a len cap R w) :
    Calls Tryd.prog 23 #[.pointer (some ⟨R, 0, none⟩)] w fun e w' => ∃ t : ByteArray, t.size ≤ 3 ∧ e = .returned (.string t) ∧ Draw W a len cap R w' ∧ Mut R w w' := by
  go_enter Tryd.func23, Tryd.ntmps23
  go_wp2_with fail
  refine (below_any hU 6 (by omega) (by omega) _ (h.alloc _)).mono ?_
  rintro e w3 ⟨y, hy0, hy1, rfl, hD3, hM3⟩
  have hc := lit_cells hM3 h.lt
  have c0 := hc 0
  have c1 := hc 1
  have c2 := hc 2
  have c3 := hc 3
  have c4 := hc 4
  have c5 := hc 5
  clear hc
  have hM4 : Hid (Mut R w w3) := ((Mut.refl R w).alloc _).trans hM3
  clear hM3
  have hy : y = 0 ∨ y = 1 ∨ y = 2 ∨ y = 3 ∨ y = 4 ∨ y = 5 := by omega
  rcases hy with rfl | rfl | rfl | rfl | rfl | rfl <;> (go_wp2; go_ret; exact ⟨_, by decide, rfl, hD3, hM4.out⟩)

set_option maxRecDepth 4000 in
set_option maxHeartbeats 2000000 in
theorem hurt_any (hU : IsU8 W a len cap Z) (s : ByteArray) (hs : s.size ≤ 100) (w : World) (h : Draw W a len cap R w) :
    Calls Tryd.prog 24 #[.pointer (some ⟨R, 0, none⟩), .string s] w fun e w' => ∃ t : ByteArray, t.size ≤ 300 ∧ e = .returned (.string t) ∧ Draw W a len cap R w' := by
  obtain ⟨n, hn⟩ : ∃ n, n = s.size := ⟨_, rfl⟩
  have hnI : (s.size : Int) = (n : Int) := by rw [hn]
  have hn1 : n ≤ 100 := by omega
  have HN : Hid (n = s.size) := hn
  clear hn
  go_enter Tryd.func24, Tryd.ntmps24
  go_wp2_with fail
  refine (below_any hU 6 (by omega) (by omega) _ h).mono ?_
  rintro e w1 ⟨y, hy0, hy1, rfl, hD1, hM1⟩
  have HD1 := (show Hid _ from hD1)
  clear hD1 hM1 h
  have hy : y = 0 ∨ y = 1 ∨ y = 2 ∨ y = 3 ∨ y = 4 ∨ y = 5 := by omega
  rcases hy with rfl | rfl | rfl | rfl | rfl | rfl
  · go_wp2
    go_ret
    exact ⟨s, by omega, rfl, HD1.out⟩
  · obtain ⟨n1, hn1'⟩ : ∃ n1, n1 = n + 1 := ⟨_, rfl⟩
    have hi : (n : Int) + 1 = (n1 : Int) := by omega
    have hl1 : 1 ≤ n1 ∧ n1 ≤ 101 := by omega
    have HN1 : Hid (n1 = n + 1) := hn1'
    clear hn1'
    go_wp2_with fail
    refine (belowN_any hU n1 hl1.1 (by omega) w1 HD1.out).mono ?_
    rintro e w2 ⟨x, hx, rfl, hD2, _⟩
    have hxI : (x : Int) ≤ (n : Int) := by have := HN1.out; omega
    have hx2 : x ≤ s.size := by have := HN.out; omega
    clear hi hl1 hx
    have HD2 := (show Hid _ from hD2)
    clear hD2
    go_wp2
    go_ret
    exact ⟨_, by rw [ByteArray.size_extract]; omega, rfl, HD2.out⟩
  · by_cases h0 : 0 < n
    · have h0I : (0 : Int) < (n : Int) := by omega
      go_wp2_with fail
      refine (belowN_any hU n (by omega) (by omega) w1 HD1.out).mono ?_
      rintro e w2 ⟨x, hx, rfl, hD2, _⟩
      have hxI : (x : Int) < (n : Int) := by omega
      have hx2 : x < s.size := by have := HN.out; omega
      obtain ⟨x1, hx1⟩ : ∃ x1, x1 = x + 1 := ⟨_, rfl⟩
      have hi : (x : Int) + 1 = (x1 : Int) := by omega
      have hx3 : (x1 : Int) ≤ (n : Int) := by omega
      have hx4 : x1 ≤ s.size := by omega
      have hx5 : x1 ≤ n := by omega
      have hx6 : (x1 : Int) ≤ (s.size : Int) := by omega
      have hx7 : (0 : Int) ≤ (x1 : Int) := by omega
      have hxn : x ≤ n := by omega
      have hxs : (x : Int) ≤ (s.size : Int) := by omega
      have hw1 : IntKind.i64.wrap ((x : Int) + 1) = (x1 : Int) := by rw [IntKind.wrap_i64]; omega
      have HD2 := (show Hid _ from hD2)
      clear hD2 hx1
      have en1 : ∀ args w, (callFunc 22 args).run Tryd.prog w = .ok (.enter 22 args) w := enters_of Tryd.func22 (by kernel_rfl) rfl
      have HEN := (show Hid _ from en1)
      clear en1
      go_wp2
      refine wp_cut_to (fun a0 t w' => ∃ f tt, t = canon a0 dsH f ∧ tt.size ≤ 300 ∧ f 4 = .string tt ∧ Draw W a len cap R w') ?_ ?_
      · rintro _ wy ⟨f, tt, rfl, ht, h4, hy⟩
        simp only [canon, dsH, List.foldl, Act.put, List.setIfInBounds_toArray, List.set_cons_succ, List.set_cons_zero]
        rw [h4]
        have HY := (show Hid _ from hy)
        clear hy
        go_wp2
        go_ret
        exact ⟨tt, ht, rfl, HY.out⟩
      intro J K' hJ hK
      refine wp_letterP ?_
      intro fr hfr
      have hs7 : 39 < fr.tmps.size := by rw [hfr]; exact Nat.le_of_ble_eq_true rfl
      have t0 : fr.eval (.tmp 0) = .pointer (some ⟨R, 0, none⟩) := by rw [hfr]; rfl
      have t1 : fr.eval (.tmp 1) = .string s := by rw [hfr]; rfl
      have t5 : fr.eval (.tmp 5) = .int .i64 (x : Int) := by rw [hfr]; rfl
      have HFR := (show Hid _ from hfr)
      clear hfr
      have rr : ∀ w', (fun v v' => Mut R v v' ∧ (Draw W a len cap R v → Draw W a len cap R v')) w' w' := fun w' => ⟨Mut.refl R w', fun h => h⟩
      refine wp_region_rel (Rel := fun v v' => Mut R v v' ∧ (Draw W a len cap R v → Draw W a len cap R v')) rr (fun h k => ⟨h.1.trans k.1, fun q => k.2 (h.2 q)⟩) (fun v => ⟨Mut.of_below (Below.refl _ _).drew, fun h => h.below (Below.refl _ _).drew⟩) (by kernel_rfl) (by kernel_rfl) dsH slotH (HF R s x x1) (fun _ _ _ _ h hB => h.mut hB.1) ?_ ?_ ?_ ?_
      · intro i hi
        exact slotH_mem i hi
      · intro i j hi hj q
        exact slotH_inj i j hi hj q
      · intro ops hops f wy i o hy ho hd
        have ho2 := ho
        rw [hops] at ho
        have N0 := (canon_eval_ne fr dsH f 0 (by decide)).trans t0
        have N1 := (canon_eval_ne fr dsH f 1 (by decide)).trans t1
        have N5 := (canon_eval_ne fr dsH f 5 (by decide)).trans t5
        have hi : i < 15 := by
          rcases Nat.lt_or_ge i 15 with h | h
          · exact h
          · rw [Array.getElem?_eq_none (by simpa using h)] at ho; cases ho
        have hi' : i = 0 ∨ i = 1 ∨ i = 2 ∨ i = 3 ∨ i = 4 ∨ i = 5 ∨ i = 6 ∨ i = 7 ∨ i = 8 ∨ i = 9 ∨ i = 10 ∨ i = 11 ∨ i = 12 ∨ i = 13 ∨ i = 14 := by omega
        clear hops
        rcases hi' with rfl | rfl | rfl | rfl | rfl | rfl | rfl | rfl | rfl | rfl | rfl | rfl | rfl | rfl | rfl <;> simp only [List.getElem?_toArray, List.getElem?_cons_succ, List.getElem?_cons_zero, Option.some.injEq] at ho <;> subst ho
        · refine wpOp_runG ho2 (wanted_none rfl) (q_move (canon fr dsH f).eval _ wy _ rfl) ?_
          exact ⟨_, rfl, N1, rr wy⟩
        · refine wpOp_runG ho2 (wanted_none rfl) (q_move (canon fr dsH f).eval _ wy _ rfl) ?_
          exact ⟨_, rfl, N5, rr wy⟩
        · refine wpOp_runG ho2 (wanted_none rfl) (q_sliceH (canon fr dsH f).eval _ wy _ _ s x rfl ((canon_eval fr dsH f 26 (by decide) (Nat.lt_of_le_of_lt (by decide) hs7)).trans (hd ⟨0, .data⟩ (by simp) rfl)) ((canon_eval fr dsH f 27 (by decide) (Nat.lt_of_le_of_lt (by decide) hs7)).trans (hd ⟨1, .data⟩ (by simp) rfl)) hx2) ?_
          exact ⟨_, rfl, rfl, rr wy⟩
        · refine wpOp_runG ho2 (wanted_none rfl) (q_six (canon fr dsH f).eval _ wy rfl (fun _ => rfl)) ?_
          exact ⟨_, rfl, ⟨_, rfl, Nat.ne_of_gt (Nat.lt_of_lt_of_le (Draw.lt HD2.out) hy.1.size), heap_alloc_new _ _⟩, ⟨(Mut.refl R wy).alloc _, fun h => h.alloc _⟩⟩
        · refine wpOp_runG ho2 (wanted_none rfl) (q_move (canon fr dsH f).eval _ wy _ rfl) ?_
          exact ⟨_, rfl, N0, rr wy⟩
        · refine wpOp_enterG ho2 (wanted_none rfl) (q_call2 (canon fr dsH f).eval _ wy _ HEN.out _ _ _ rfl rfl) ?_
          rw [(canon_eval fr dsH f 30 (by decide) (Nat.lt_of_le_of_lt (by decide) hs7)).trans (hd ⟨4, .data⟩ (by simp) rfl)]
          refine (belowN_any hU 6 (by omega) (by omega) wy (hy.2 HD2.out)).mono ?_
          rintro e wz ⟨y, hy6, rfl, hDz, hMz⟩
          exact ⟨_, rfl, _, rfl, ⟨y, hy6, rfl⟩, hMz, fun _ => hDz⟩
        · obtain ⟨p, hp, hpR, hpb⟩ := hd ⟨3, .data⟩ (by simp) rfl
          obtain ⟨y, hy6, hyv⟩ := hd ⟨5, .data⟩ (by simp) rfl
          refine wpOp_runG ho2 (wanted_none rfl) (q_idxS (canon fr dsH f).eval _ wy _ _ p y rfl ((canon_eval fr dsH f 29 (by decide) (Nat.lt_of_le_of_lt (by decide) hs7)).trans hp) ((canon_eval fr dsH f 31 (by decide) (Nat.lt_of_le_of_lt (by decide) hs7)).trans hyv) hy6) ?_
          exact ⟨_, rfl, ⟨p, y, hy6, hpR, rfl, hpb⟩, rr wy⟩
        · obtain ⟨p, y, hy6, hpR, hpv, hpb⟩ := hd ⟨6, .data⟩ (by simp) rfl
          obtain ⟨c, hc1, hcs⟩ := six_at y hy6
          refine wpOp_runG ho2 (wanted_none rfl) (q_loadS (canon fr dsH f).eval _ wy _ p y c rfl ((canon_eval fr dsH f 32 (by decide) (Nat.lt_of_le_of_lt (by decide) hs7)).trans hpv) (cellQ hpb hcs)) ?_
          exact ⟨_, rfl, ⟨c, hc1, rfl⟩, rr wy⟩
        · obtain ⟨c, hc1, hc⟩ := hd ⟨7, .data⟩ (by simp) rfl
          refine wpOp_runG ho2 (wanted_none rfl) (q_add (canon fr dsH f).eval _ wy _ _ _ c rfl ((canon_eval fr dsH f 28 (by decide) (Nat.lt_of_le_of_lt (by decide) hs7)).trans (hd ⟨2, .data⟩ (by simp) rfl)) ((canon_eval fr dsH f 33 (by decide) (Nat.lt_of_le_of_lt (by decide) hs7)).trans hc) (by rw [ByteArray.size_extract]; omega)) ?_
          exact ⟨_, rfl, ⟨c, hc1, rfl⟩, rr wy⟩
        · refine wpOp_runG ho2 (wanted_none rfl) (q_move (canon fr dsH f).eval _ wy _ rfl) ?_
          exact ⟨_, rfl, N1, rr wy⟩
        · refine wpOp_runG ho2 (wanted_none rfl) (q_move (canon fr dsH f).eval _ wy _ rfl) ?_
          exact ⟨_, rfl, N5, rr wy⟩
        · refine wpOp_runG ho2 (wanted_none rfl) (q_inc (canon fr dsH f).eval _ wy _ _ x x1 rfl ((canon_eval fr dsH f 36 (by decide) (Nat.lt_of_le_of_lt (by decide) hs7)).trans (hd ⟨10, .data⟩ (by simp) rfl)) rfl (by omega) (by omega)) ?_
          exact ⟨_, rfl, rfl, rr wy⟩
        · refine wpOp_runG ho2 (wanted_none rfl) (q_sliceL (canon fr dsH f).eval _ wy _ _ s x1 rfl ((canon_eval fr dsH f 35 (by decide) (Nat.lt_of_le_of_lt (by decide) hs7)).trans (hd ⟨9, .data⟩ (by simp) rfl)) ((canon_eval fr dsH f 37 (by decide) (Nat.lt_of_le_of_lt (by decide) hs7)).trans (hd ⟨11, .data⟩ (by simp) rfl)) hx4) ?_
          exact ⟨_, rfl, rfl, rr wy⟩
        · obtain ⟨c, hc1, hc⟩ := hd ⟨8, .data⟩ (by simp) rfl
          refine wpOp_runG ho2 (wanted_none rfl) (q_add (canon fr dsH f).eval _ wy _ _ _ _ rfl ((canon_eval fr dsH f 34 (by decide) (Nat.lt_of_le_of_lt (by decide) hs7)).trans hc) ((canon_eval fr dsH f 38 (by decide) (Nat.lt_of_le_of_lt (by decide) hs7)).trans (hd ⟨12, .data⟩ (by simp) rfl)) (by rw [ByteArray.size_append, ByteArray.size_extract, ByteArray.size_extract]; omega)) ?_
          exact ⟨_, rfl, ⟨_, three_le hs hc1, rfl⟩, rr wy⟩
        · obtain ⟨t, ht, hte⟩ := hd ⟨13, .data⟩ (by simp) rfl
          refine wpOp_runG ho2 (wanted_none rfl) (q_assign (canon fr dsH f).eval _ wy _ rfl) ?_
          exact ⟨_, rfl, ⟨t, ht, (canon_eval fr dsH f 39 (by decide) (Nat.lt_of_le_of_lt (by decide) hs7)).trans hte⟩, rr wy⟩
      · intro f wy hy hall
        obtain ⟨t, ht, hte⟩ := hall 14 (by decide)
        exact hK _ _ (Met.intro (hJ _ _ ⟨f, t, congrArg (fun z => canon z dsH f) HFR.out, ht, hte, hy.2 HD2.out⟩))
    · have h0I : ¬ (0 : Int) < (n : Int) := by omega
      go_wp2
      go_ret
      exact ⟨s, by omega, rfl, HD1.out⟩
  · go_wp2_with fail
    refine (below_any hU 4 (by omega) (by omega) _ (Draw.alloc HD1.out _)).mono ?_
    rintro e w3 ⟨y, hy0, hy1, rfl, hD3, hM3⟩
    have hc := lit_cells hM3 (Draw.lt HD1.out)
    have c0 := hc 0
    have c1 := hc 1
    have c2 := hc 2
    have c3 := hc 3
    clear hc hM3
    have hadd : ∀ (c : ByteArray) (w' : World), c.size = 1 → (Op.stringOp .add s c).run Tryd.prog w' = .ok (.string (s ++ c)) w' := fun c w' hc => add_ok (by omega) w'
    have a0 := hadd ⟨#[32]⟩ w3 rfl
    have a1 := hadd ⟨#[41]⟩ w3 rfl
    have a2 := hadd ⟨#[48]⟩ w3 rfl
    have a3 := hadd ⟨#[97]⟩ w3 rfl
    clear hadd
    have HD3 := (show Hid _ from hD3)
    clear hD3
    have hy : y = 0 ∨ y = 1 ∨ y = 2 ∨ y = 3 := by omega
    rcases hy with rfl | rfl | rfl | rfl <;> (go_wp2; go_ret; exact ⟨_, size_add1 hs rfl, rfl, HD3.out⟩)
  · go_wp2
    go_ret
    exact ⟨s, by omega, rfl, HD1.out⟩
  · go_wp2
    go_ret
    exact ⟨s, by omega, rfl, HD1.out⟩

end
end Go.Proofs.YtcknemblniemcaaDoor
