/-
  Single operations, over any frame. No condition.
  hurt: a text with a byte more, less or another one, at texts of up to 60000 bytes. No condition but that the code reads as bytes.
  r.known(6), and DrawLearned. Condition: the code reads as bytes.
  The law FnOpened returns true at every code. Conditions: the code reads as bytes; the table of powers of ten lies.
-/
import Derived.Test.YtpcbhjejpebogaaGreatDoorTgR
import Derived.Test.YtpcbhjejpebogaaGreatDoorTgE
import Derived.Shelf.Abstract
import Derived.Laws.AppendOwn
import Derived.Laws.BytesString
import Derived.Laws.Cells
import Derived.Test.YtpcbhjejpebogaaGreatDoorTgL
namespace Go.Proofs.YtpcbhjejpebogaaGreatDoor
open Go.RowKit
set_option linter.unusedVariables false

theorem qo_move (ev : Operand → Value) (o : Oper) (w : World) (x : Operand) (h : o.op = .move x) : (execOp ev o).run Tryz.prog w = .ok (.value (ev x)) w := by simp [execOp, h]
theorem qo_assign (ev : Operand → Value) (o : Oper) (w : World) (x : Operand) (h : o.op = .assign x) : (execOp ev o).run Tryz.prog w = .ok (.value (ev x)) w := by simp [execOp, h]
theorem q_call1 (ev : Operand → Value) (o : Oper) (w : World) (f : FuncId) (he : ∀ args w, (callFunc f args).run Tryz.prog w = .ok (.enter f args) w) (x : Operand) (ts : Array TypeId) (h : o.op = .call { callee := .value (.func f), args := #[x], argTypes := ts }) (hf : ev (.func f) = .func (.func f) #[] #[]) : (execOp ev o).run Tryz.prog w = .ok (.enter f #[ev x]) w := by
  simp [execOp, h, resolve, invoke, hf, Deferred.ofValue, he]
theorem qo_call2 (ev : Operand → Value) (o : Oper) (w : World) (f : FuncId) (he : ∀ args w, (callFunc f args).run Tryz.prog w = .ok (.enter f args) w) (x y : Operand) (ts : Array TypeId) (h : o.op = .call { callee := .value (.func f), args := #[x, y], argTypes := ts }) (hf : ev (.func f) = .func (.func f) #[] #[]) : (execOp ev o).run Tryz.prog w = .ok (.enter f #[ev x, ev y]) w := by
  simp [execOp, h, resolve, invoke, hf, Deferred.ofValue, he]
theorem qo_call3 (ev : Operand → Value) (o : Oper) (w : World) (f : FuncId) (he : ∀ args w, (callFunc f args).run Tryz.prog w = .ok (.enter f args) w) (x y z : Operand) (ts : Array TypeId) (h : o.op = .call { callee := .value (.func f), args := #[x, y, z], argTypes := ts }) (hf : ev (.func f) = .func (.func f) #[] #[]) : (execOp ev o).run Tryz.prog w = .ok (.enter f #[ev x, ev y, ev z]) w := by
  simp [execOp, h, resolve, invoke, hf, Deferred.ofValue, he]
theorem q_ext0 (ev : Operand → Value) (o : Oper) (w : World) (x : Operand) (u v : Value) (h : o.op = .extract x 0) (hx : ev x = .tuple #[u, v]) : (execOp ev o).run Tryz.prog w = .ok (.value u) w := by
  simp [execOp, h, hx]
  go_simp
theorem q_ext1 (ev : Operand → Value) (o : Oper) (w : World) (x : Operand) (u v : Value) (h : o.op = .extract x 1) (hx : ev x = .tuple #[u, v]) : (execOp ev o).run Tryz.prog w = .ok (.value v) w := by
  simp [execOp, h, hx]
  go_simp
theorem q_not (ev : Operand → Value) (o : Oper) (w : World) (x : Operand) (b : Bool) (h : o.op = .unOp .not 4 x) (hx : ev x = .bool b) : (execOp ev o).run Tryz.prog w = .ok (.value (.bool (!b))) w := by
  simp [execOp, h, hx]
  go_simp
theorem qo_pick (ev : Operand → Value) (o : Oper) (w : World) (x y z : Operand) (h : o.op = .pick x y z) (hx : ev x = .bool true) : (execOp ev o).run Tryz.prog w = .ok (.value (ev y)) w := by
  simp [execOp, h, hx]
  go_simp
theorem q_pickF (ev : Operand → Value) (o : Oper) (w : World) (x y z : Operand) (h : o.op = .pick x y z) (hx : ev x = .bool false) : (execOp ev o).run Tryz.prog w = .ok (.value (ev z)) w := by
  simp [execOp, h, hx]
  go_simp
theorem q_shr (ev : Operand → Value) (o : Oper) (w : World) (x y : Operand) (n : Nat) (h : o.op = .binOp .shr 3 x y 99) (hx : ev x = .int .i64 n) (k : Nat) (hk : k < 64) (hy : ev y = .int .u64 k) : (execOp ev o).run Tryz.prog w = .ok (.value (.int .i64 ((n : Int) / 2 ^ k))) w := by
  simp [execOp, h, hx, hy]
  go_simp
theorem q_toU8 (ev : Operand → Value) (o : Oper) (w : World) (x : Operand) (n : Int) (h : o.op = .convert 3 5 x) (hx : ev x = .int .i64 n) : (execOp ev o).run Tryz.prog w = .ok (.value (.int .u8 (n % 256))) w := by
  simp [execOp, h, hx]
  go_simp
  exact IntKind.wrap_u8 n

/-- what holds of the values of a region: of one G, of the others which they are -/
def VF (vl : List Value) (m : Nat) (G : Value → World → Prop) (j : Nat) (v : Value) (w : World) : Prop := if j = m then G v w else v = vl.getD j undef
theorem VF.below {vl : List Value} {m : Nat} {G : Value → World → Prop} (hG : ∀ v w w', G v w → Below w.heap.size w w' → G v w') {j : Nat} {v : Value} {w w' : World} (h : VF vl m G j v w) (hB : Below w.heap.size w w') : VF vl m G j v w' := by
  unfold VF at h ⊢
  split at h
  · rename_i q
    rw [if_pos q]
    exact hG _ _ _ h hB
  · rename_i q
    rw [if_neg q]
    exact h
theorem VF.eq {vl : List Value} {m : Nat} {G : Value → World → Prop} {j : Nat} {v : Value} {w : World} (h : VF vl m G j v w) (h1 : j ≠ m) : v = vl.getD j undef := by
  unfold VF at h
  rw [if_neg h1] at h
  exact h
theorem VF.mk {vl : List Value} {m : Nat} {G : Value → World → Prop} {j : Nat} {v : Value} {w : World} (h1 : j ≠ m) (h : v = vl.getD j undef) : VF vl m G j v w := by
  unfold VF
  rw [if_neg h1]
  exact h
theorem VF.get {vl : List Value} {m : Nat} {G : Value → World → Prop} {v : Value} {w : World} (h : VF vl m G m v w) : G v w := by
  unfold VF at h
  rw [if_pos rfl] at h
  exact h
theorem VF.put {vl : List Value} {m : Nat} {G : Value → World → Prop} {v : Value} {w : World} (h : G v w) : VF vl m G m v w := by
  unfold VF
  rw [if_pos rfl]
  exact h
end Go.Proofs.YtpcbhjejpebogaaGreatDoor

namespace Go.Proofs.YtpcbhjejpebogaaGreatDoor
open Go.RowKit Go.Shelf Go.Maps
set_option linter.unusedVariables false

theorem cellQ {w : World} {p : Nat} {cs : Array Value} {t : TypeId} {z : Nat × Nat} {i : Nat} {v : Value} (h : w.heap[p]? = some (.cells cs t z)) (hv : cs[i]? = some v) : w.cell? ⟨p, i, none⟩ = some v := by
  simp [World.cell?, h, hv]
theorem q_add (ev : Operand → Value) (o : Oper) (w : World) (x y : Operand) (a b : ByteArray) (h : o.op = .binOp .add 9 x y 9) (hx : ev x = .string a) (hy : ev y = .string b) (hs : a.size + b.size ≤ 1000000) : (execOp ev o).run Tryz.prog w = .ok (.value (.string (a ++ b))) w := by
  have ha := add_ok hs w
  simp [execOp, h, hx, hy]
  go_simp
  omega
theorem wp_letterP {c : Code} {P : Program} {Q : Exit → Act → World → Prop} {a : Act} {w : World} (h : ∀ a', a' = a → c.wp P Q a' w) : c.wp P Q a w := h a rfl
def six : Array Value := #[.string ⟨#[48]⟩, .string ⟨#[49]⟩, .string ⟨#[40]⟩, .string ⟨#[41]⟩, .string ⟨#[44]⟩, .string ⟨#[107]⟩]
theorem six_at (y : Nat) (h : y < 6) : ∃ c : ByteArray, c.size = 1 ∧ six[y]? = some (.string c) := by
  rcases (show y = 0 ∨ y = 1 ∨ y = 2 ∨ y = 3 ∨ y = 4 ∨ y = 5 by omega) with rfl | rfl | rfl | rfl | rfl | rfl <;> exact ⟨_, rfl, rfl⟩
theorem six_new (w : World) (y : Nat) (c : ByteArray) (h : six[y]? = some (.string c)) : (w.alloc (.cells six 9)).cell? ⟨w.heap.size, y, none⟩ = some (.string c) := cellQ (heap_alloc_new w (.cells six 9)) h
theorem six_list (y : Nat) (h : y < 6) (c : ByteArray) (hc : six[y]? = some (.string c)) : ([Value.string ⟨#[48]⟩, Value.string ⟨#[49]⟩, Value.string ⟨#[40]⟩, Value.string ⟨#[41]⟩, Value.string ⟨#[44]⟩, Value.string ⟨#[107]⟩] : List Value)[y]'h = .string c := by
  rcases (show y = 0 ∨ y = 1 ∨ y = 2 ∨ y = 3 ∨ y = 4 ∨ y = 5 by omega) with rfl | rfl | rfl | rfl | rfl | rfl <;> exact Option.some.inj hc
theorem lit_drew {R : Nat} {w w' : World} {cs : Array Value} {t : TypeId} (hM : Mut R (w.alloc (.cells cs t)).drew w') : Mut R (w.alloc (.cells cs t)) w' := (Mut.of_below (Below.refl _ _).drew).trans hM
def dsH : List Nat := [26, 27, 28, 29, 30, 31, 32, 33, 34, 35, 36, 37, 38, 39, 4]
def slotH (j : Nat) : Nat := dsH.getD j 0
theorem slotH_inj (i j : Nat) (hi : i < 15) (hj : j < 15) (q : slotH i = slotH j) : i = j := by
  have h : ∀ i : Fin 15, ∀ j : Fin 15, slotH i.val = slotH j.val → i.val = j.val := by decide
  exact h ⟨i, hi⟩ ⟨j, hj⟩ q
theorem slotH_mem (i : Nat) (hi : i < 15) : slotH i ∈ dsH := by
  have h : ∀ i : Fin 15, slotH i.val ∈ dsH := by decide
  exact h ⟨i, hi⟩
theorem q_six (ev : Operand → Value) (o : Oper) (w : World) (h : o.op = .buildSlice 24 6 #[(0, .const (.string ⟨#[48]⟩)), (1, .const (.string ⟨#[49]⟩)), (2, .const (.string ⟨#[40]⟩)), (3, .const (.string ⟨#[41]⟩)), (4, .const (.string ⟨#[44]⟩)), (5, .const (.string ⟨#[107]⟩))]) (hev : ∀ v, ev (.const v) = v) : (execOp ev o).run Tryz.prog w = .ok (.value (.slice (some ⟨w.heap.size, 0, none⟩) 6 6)) (w.alloc (.cells six 9)) := by
  simp [execOp, h, hev]
  go_simp
  rfl
theorem q_idxS (ev : Operand → Value) (o : Oper) (w : World) (x y : Operand) (p k : Nat) (h : o.op = .indexAddr 24 x y) (hx : ev x = .slice (some ⟨p, 0, none⟩) 6 6) (hy : ev y = .int .i64 k) (hk : k < 6) : (execOp ev o).run Tryz.prog w = .ok (.value (.pointer (some ⟨p, k, none⟩))) w := by
  have hkI : (k : Int) < 6 := by omega
  simp [execOp, h, hx, hy]
  go_simp
theorem q_loadS (ev : Operand → Value) (o : Oper) (w : World) (x : Operand) (p k : Nat) (c : ByteArray) (h : o.op = .load 9 x) (hx : ev x = .pointer (some ⟨p, k, none⟩)) (hc : w.cell? ⟨p, k, none⟩ = some (.string c)) : (execOp ev o).run Tryz.prog w = .ok (.value (.string c)) w := by
  simp [execOp, h, hx]
  go_simp
theorem q_sliceH (ev : Operand → Value) (o : Oper) (w : World) (x y : Operand) (s : ByteArray) (k : Nat) (h : o.op = .slice 9 x none (some y) none) (hx : ev x = .string s) (hy : ev y = .int .i64 k) (hk : k < s.size) : (execOp ev o).run Tryz.prog w = .ok (.value (.string (s.extract 0 k))) w := by
  have hkI : (k : Int) ≤ (s.size : Int) := by omega
  have hk' : k ≤ s.size := by omega
  simp [execOp, h, hx, hy]
  go_simp
theorem q_sliceL (ev : Operand → Value) (o : Oper) (w : World) (x y : Operand) (s : ByteArray) (k : Nat) (h : o.op = .slice 9 x (some y) none none) (hx : ev x = .string s) (hy : ev y = .int .i64 k) (hk : k ≤ s.size) : (execOp ev o).run Tryz.prog w = .ok (.value (.string (s.extract k s.size))) w := by
  have hkI : (k : Int) ≤ (s.size : Int) := by omega
  simp [execOp, h, hx, hy]
  go_simp

theorem size_add1L {s c : ByteArray} (hs : s.size ≤ 60000) (hc : c.size = 1) : (s ++ c).size ≤ 130000 := by rw [ByteArray.size_append]; omega
theorem three_leL {s c : ByteArray} {x y n : Nat} (hs : s.size ≤ 60000) (hc : c.size = 1) : (s.extract 0 x ++ c ++ s.extract y n).size ≤ 130000 := by
  rw [ByteArray.size_append, ByteArray.size_append, ByteArray.size_extract, ByteArray.size_extract]; omega
/-- of the values of hurt's region, at long texts -/
def HFL (R : Nat) (s : ByteArray) (x x1 : Nat) : Nat → Value → World → Prop
  | 0, v, _ => v = .string s
  | 1, v, _ => v = .int .i64 x
  | 2, v, _ => v = .string (s.extract 0 x)
  | 3, v, w => ∃ p, v = .slice (some ⟨p, 0, none⟩) 6 6 ∧ p ≠ R ∧ w.heap[p]? = some (.cells six 9 (0, 0))
  | 4, v, _ => v = .pointer (some ⟨R, 0, none⟩)
  | 5, v, _ => ∃ y : Nat, y < 6 ∧ v = .int .i64 y
  | 6, v, w => ∃ p y : Nat, y < 6 ∧ p ≠ R ∧ v = .pointer (some ⟨p, y, none⟩) ∧ w.heap[p]? = some (.cells six 9 (0, 0))
  | 7, v, _ => ∃ c : ByteArray, c.size = 1 ∧ v = .string c
  | 8, v, _ => ∃ c : ByteArray, c.size = 1 ∧ v = .string (s.extract 0 x ++ c)
  | 9, v, _ => v = .string s
  | 10, v, _ => v = .int .i64 x
  | 11, v, _ => v = .int .i64 x1
  | 12, v, _ => v = .string (s.extract x1 s.size)
  | 13, v, _ => ∃ t : ByteArray, t.size ≤ 130000 ∧ v = .string t
  | 14, v, _ => ∃ t : ByteArray, t.size ≤ 130000 ∧ v = .string t
  | _, _, _ => True
theorem HFL.mut {R : Nat} {s : ByteArray} {x x1 j : Nat} {v : Value} {w w' : World} (h : HFL R s x x1 j v w) (hM : Mut R w w') : HFL R s x x1 j v w' := by
  match j, h with
  | 0, h => exact h
  | 1, h => exact h
  | 2, h => exact h
  | 3, ⟨p, e, hp, hb⟩ => exact ⟨p, e, hp, (hM.block p (lt_of_block hb) hp).trans hb⟩
  | 4, h => exact h
  | 5, h => exact h
  | 6, ⟨p, y, hy, hp, e, hb⟩ => exact ⟨p, y, hy, hp, e, (hM.block p (lt_of_block hb) hp).trans hb⟩
  | 7, h => exact h
  | 8, h => exact h
  | 9, h => exact h
  | 10, h => exact h
  | 11, h => exact h
  | 12, h => exact h
  | 13, h => exact h
  | 14, h => exact h
  | (n + 15), _ => trivial
theorem q_incL (ev : Operand → Value) (o : Oper) (w : World) (x y : Operand) (k k1 : Nat) (h : o.op = .binOp .add 3 x y 3) (hx : ev x = .int .i64 k) (hy : ev y = .int .i64 1) (hk : (k : Int) + 1 = (k1 : Int)) (hl : k ≤ 60001) : (execOp ev o).run Tryz.prog w = .ok (.value (.int .i64 k1)) w := by
  have hw : IntKind.i64.wrap ((k : Int) + 1) = (k1 : Int) := by rw [IntKind.wrap_i64]; omega
  clear hk
  simp [execOp, h, hx, hy]
  go_simp

section
variable {W : World} {a : Option Addr} {len cap R : Nat} {Z : Nat → Int}
set_option maxRecDepth 4000 in
set_option maxHeartbeats 2000000 in
theorem hurtL_any (hU : IsU8 W a len cap Z) (s : ByteArray) (hs : s.size ≤ 60000) (w : World) (h : Draw W a len cap R w) :
    Calls Tryz.prog 31 #[.pointer (some ⟨R, 0, none⟩), .string s] w fun e w' => ∃ t : ByteArray, t.size ≤ 130000 ∧ e = .returned (.string t) ∧ Draw W a len cap R w' ∧ Mut R w w' := by
  obtain ⟨n, hn⟩ : ∃ n, n = s.size := ⟨_, rfl⟩
  have hnI : (s.size : Int) = (n : Int) := by rw [hn]
  have hn1 : n ≤ 60000 := by omega
  have HN : Hid (n = s.size) := hn
  clear hn
  go_enter Tryz.func31, Tryz.ntmps31
  go_wp2_with fail
  refine (below_any hU 6 (by omega) (by omega) _ h).mono ?_
  rintro e w1 ⟨y, hy0, hy1, rfl, hD1, hM1⟩
  have HD1 : Hid (Draw W a len cap R w1) := hD1
  have HM1 : Hid (Mut R w w1) := hM1
  clear hD1 hM1 h
  have hy : y = 0 ∨ y = 1 ∨ y = 2 ∨ y = 3 ∨ y = 4 ∨ y = 5 := by omega
  rcases hy with rfl | rfl | rfl | rfl | rfl | rfl
  · go_wp2
    go_ret
    exact ⟨s, by omega, rfl, HD1.out, HM1.out⟩
  · obtain ⟨n1, hn1'⟩ : ∃ n1, n1 = n + 1 := ⟨_, rfl⟩
    have hi : (n : Int) + 1 = (n1 : Int) := by omega
    have hl1 : 1 ≤ n1 ∧ n1 ≤ 60001 := by omega
    have HN1 : Hid (n1 = n + 1) := hn1'
    clear hn1'
    go_wp2_with fail
    refine (belowW_any hU n1 hl1.1 (by omega) w1 HD1.out).mono ?_
    rintro e w2 ⟨x, hx, rfl, hD2, hM2⟩
    have hxI : (x : Int) ≤ (n : Int) := by have := HN1.out; omega
    have hx2 : x ≤ s.size := by have := HN.out; omega
    clear hi hl1 hx
    have HD2 : Hid (Draw W a len cap R w2) := hD2
    have HM2 : Hid (Mut R w w2) := HM1.out.trans hM2
    clear hD2 hM2
    go_wp2
    go_ret
    exact ⟨_, by rw [ByteArray.size_extract]; omega, rfl, HD2.out, HM2.out⟩
  · by_cases h0 : 0 < n
    · have h0I : (0 : Int) < (n : Int) := by omega
      go_wp2_with fail
      refine (belowW_any hU n (by omega) (by omega) w1 HD1.out).mono ?_
      rintro e w2 ⟨x, hx, rfl, hD2, hM2⟩
      have hxI : (x : Int) < (n : Int) := by omega
      have hx2 : x < s.size := by have := HN.out; omega
      obtain ⟨x1, hx1⟩ : ∃ x1, x1 = x + 1 := ⟨_, rfl⟩
      have hi : (x : Int) + 1 = (x1 : Int) := by omega
      have hx3 : (x1 : Int) ≤ (n : Int) := by omega
      have hx4 : x1 ≤ s.size := by omega
      have hx5 : x1 ≤ n := by omega
      have hx6 : (x1 : Int) ≤ (s.size : Int) := by omega
      have hx7 : (0 : Int) ≤ (x1 : Int) := by omega
      have hxn : x ≤ n := by omega
      have hxs : (x : Int) ≤ (s.size : Int) := by omega
      have hw1 : IntKind.i64.wrap ((x : Int) + 1) = (x1 : Int) := by rw [IntKind.wrap_i64]; omega
      have HD2 : Hid (Draw W a len cap R w2) := hD2
      have HM2 : Hid (Mut R w w2) := HM1.out.trans hM2
      clear hD2 hM2 hx1
      have en1 : ∀ args w, (callFunc 44 args).run Tryz.prog w = .ok (.enter 44 args) w := enters_of Tryz.func44 (by kernel_rfl) rfl
      have HEN := (show Hid _ from en1)
      clear en1
      go_wp2
      refine wp_cut_to (fun a0 t w' => ∃ f tt, t = canon a0 dsH f ∧ tt.size ≤ 130000 ∧ f 4 = .string tt ∧ Draw W a len cap R w' ∧ Mut R w w') ?_ ?_
      · rintro _ wy ⟨f, tt, rfl, ht, h4, hy, hym⟩
        simp only [canon, dsH, List.foldl, Act.put, List.setIfInBounds_toArray, List.set_cons_succ, List.set_cons_zero]
        rw [h4]
        have HY : Hid (Draw W a len cap R wy ∧ Mut R w wy) := ⟨hy, hym⟩
        clear hy hym
        go_wp2
        go_ret
        exact ⟨tt, ht, rfl, HY.out.1, HY.out.2⟩
      intro J K' hJ hK
      refine wp_letterP ?_
      intro fr hfr
      have hs7 : 39 < fr.tmps.size := by rw [hfr]; exact Nat.le_of_ble_eq_true rfl
      have t0 : fr.eval (.tmp 0) = .pointer (some ⟨R, 0, none⟩) := by rw [hfr]; rfl
      have t1 : fr.eval (.tmp 1) = .string s := by rw [hfr]; rfl
      have t5 : fr.eval (.tmp 5) = .int .i64 (x : Int) := by rw [hfr]; rfl
      have HFR := (show Hid _ from hfr)
      clear hfr
      have rr : ∀ w', (fun v v' => Mut R v v' ∧ (Draw W a len cap R v → Draw W a len cap R v')) w' w' := fun w' => ⟨Mut.refl R w', fun h => h⟩
      refine wp_region_rel (Rel := fun v v' => Mut R v v' ∧ (Draw W a len cap R v → Draw W a len cap R v')) rr (fun h k => ⟨h.1.trans k.1, fun q => k.2 (h.2 q)⟩) (fun v => ⟨Mut.of_below (Below.refl _ _).drew, fun h => h.below (Below.refl _ _).drew⟩) (by kernel_rfl) (by kernel_rfl) dsH slotH (HFL R s x x1) (fun _ _ _ _ h hB => h.mut hB.1) ?_ ?_ ?_ ?_
      · intro i hi
        exact slotH_mem i hi
      · intro i j hi hj q
        exact slotH_inj i j hi hj q
      · intro ops hops f wy i o hy ho hd
        have ho2 := ho
        rw [hops] at ho
        have N0 := (canon_eval_ne fr dsH f 0 (by decide)).trans t0
        have N1 := (canon_eval_ne fr dsH f 1 (by decide)).trans t1
        have N5 := (canon_eval_ne fr dsH f 5 (by decide)).trans t5
        have hi : i < 15 := by
          rcases Nat.lt_or_ge i 15 with h | h
          · exact h
          · rw [Array.getElem?_eq_none (by simpa using h)] at ho; cases ho
        have hi' : i = 0 ∨ i = 1 ∨ i = 2 ∨ i = 3 ∨ i = 4 ∨ i = 5 ∨ i = 6 ∨ i = 7 ∨ i = 8 ∨ i = 9 ∨ i = 10 ∨ i = 11 ∨ i = 12 ∨ i = 13 ∨ i = 14 := by omega
        clear hops
        rcases hi' with rfl | rfl | rfl | rfl | rfl | rfl | rfl | rfl | rfl | rfl | rfl | rfl | rfl | rfl | rfl <;> simp only [List.getElem?_toArray, List.getElem?_cons_succ, List.getElem?_cons_zero, Option.some.injEq] at ho <;> subst ho
        · refine wpOp_runG ho2 (wanted_none rfl) (qo_move (canon fr dsH f).eval _ wy _ rfl) ?_
          exact ⟨_, rfl, N1, rr wy⟩
        · refine wpOp_runG ho2 (wanted_none rfl) (qo_move (canon fr dsH f).eval _ wy _ rfl) ?_
          exact ⟨_, rfl, N5, rr wy⟩
        · refine wpOp_runG ho2 (wanted_none rfl) (q_sliceH (canon fr dsH f).eval _ wy _ _ s x rfl ((canon_eval fr dsH f 26 (by decide) (Nat.lt_of_le_of_lt (by decide) hs7)).trans (hd ⟨0, .data⟩ (by simp) rfl)) ((canon_eval fr dsH f 27 (by decide) (Nat.lt_of_le_of_lt (by decide) hs7)).trans (hd ⟨1, .data⟩ (by simp) rfl)) hx2) ?_
          exact ⟨_, rfl, rfl, rr wy⟩
        · refine wpOp_runG ho2 (wanted_none rfl) (q_six (canon fr dsH f).eval _ wy rfl (fun _ => rfl)) ?_
          exact ⟨_, rfl, ⟨_, rfl, Nat.ne_of_gt (Nat.lt_of_lt_of_le (Draw.lt HD2.out) hy.1.size), heap_alloc_new _ _⟩, ⟨(Mut.refl R wy).alloc _, fun h => h.alloc _⟩⟩
        · refine wpOp_runG ho2 (wanted_none rfl) (qo_move (canon fr dsH f).eval _ wy _ rfl) ?_
          exact ⟨_, rfl, N0, rr wy⟩
        · refine wpOp_enterG ho2 (wanted_none rfl) (qo_call2 (canon fr dsH f).eval _ wy _ HEN.out _ _ _ rfl rfl) ?_
          rw [(canon_eval fr dsH f 30 (by decide) (Nat.lt_of_le_of_lt (by decide) hs7)).trans (hd ⟨4, .data⟩ (by simp) rfl)]
          refine (belowN_any hU 6 (by omega) (by omega) wy (hy.2 HD2.out)).mono ?_
          rintro e wz ⟨y, hy6, rfl, hDz, hMz⟩
          exact ⟨_, rfl, _, rfl, ⟨y, hy6, rfl⟩, hMz, fun _ => hDz⟩
        · obtain ⟨p, hp, hpR, hpb⟩ := hd ⟨3, .data⟩ (by simp) rfl
          obtain ⟨y, hy6, hyv⟩ := hd ⟨5, .data⟩ (by simp) rfl
          refine wpOp_runG ho2 (wanted_none rfl) (q_idxS (canon fr dsH f).eval _ wy _ _ p y rfl ((canon_eval fr dsH f 29 (by decide) (Nat.lt_of_le_of_lt (by decide) hs7)).trans hp) ((canon_eval fr dsH f 31 (by decide) (Nat.lt_of_le_of_lt (by decide) hs7)).trans hyv) hy6) ?_
          exact ⟨_, rfl, ⟨p, y, hy6, hpR, rfl, hpb⟩, rr wy⟩
        · obtain ⟨p, y, hy6, hpR, hpv, hpb⟩ := hd ⟨6, .data⟩ (by simp) rfl
          obtain ⟨c, hc1, hcs⟩ := six_at y hy6
          refine wpOp_runG ho2 (wanted_none rfl) (q_loadS (canon fr dsH f).eval _ wy _ p y c rfl ((canon_eval fr dsH f 32 (by decide) (Nat.lt_of_le_of_lt (by decide) hs7)).trans hpv) (cellQ hpb hcs)) ?_
          exact ⟨_, rfl, ⟨c, hc1, rfl⟩, rr wy⟩
        · obtain ⟨c, hc1, hc⟩ := hd ⟨7, .data⟩ (by simp) rfl
          refine wpOp_runG ho2 (wanted_none rfl) (q_add (canon fr dsH f).eval _ wy _ _ _ c rfl ((canon_eval fr dsH f 28 (by decide) (Nat.lt_of_le_of_lt (by decide) hs7)).trans (hd ⟨2, .data⟩ (by simp) rfl)) ((canon_eval fr dsH f 33 (by decide) (Nat.lt_of_le_of_lt (by decide) hs7)).trans hc) (by rw [ByteArray.size_extract]; omega)) ?_
          exact ⟨_, rfl, ⟨c, hc1, rfl⟩, rr wy⟩
        · refine wpOp_runG ho2 (wanted_none rfl) (qo_move (canon fr dsH f).eval _ wy _ rfl) ?_
          exact ⟨_, rfl, N1, rr wy⟩
        · refine wpOp_runG ho2 (wanted_none rfl) (qo_move (canon fr dsH f).eval _ wy _ rfl) ?_
          exact ⟨_, rfl, N5, rr wy⟩
        · refine wpOp_runG ho2 (wanted_none rfl) (q_incL (canon fr dsH f).eval _ wy _ _ x x1 rfl ((canon_eval fr dsH f 36 (by decide) (Nat.lt_of_le_of_lt (by decide) hs7)).trans (hd ⟨10, .data⟩ (by simp) rfl)) rfl (by omega) (by omega)) ?_
          exact ⟨_, rfl, rfl, rr wy⟩
        · refine wpOp_runG ho2 (wanted_none rfl) (q_sliceL (canon fr dsH f).eval _ wy _ _ s x1 rfl ((canon_eval fr dsH f 35 (by decide) (Nat.lt_of_le_of_lt (by decide) hs7)).trans (hd ⟨9, .data⟩ (by simp) rfl)) ((canon_eval fr dsH f 37 (by decide) (Nat.lt_of_le_of_lt (by decide) hs7)).trans (hd ⟨11, .data⟩ (by simp) rfl)) hx4) ?_
          exact ⟨_, rfl, rfl, rr wy⟩
        · obtain ⟨c, hc1, hc⟩ := hd ⟨8, .data⟩ (by simp) rfl
          refine wpOp_runG ho2 (wanted_none rfl) (q_add (canon fr dsH f).eval _ wy _ _ _ _ rfl ((canon_eval fr dsH f 34 (by decide) (Nat.lt_of_le_of_lt (by decide) hs7)).trans hc) ((canon_eval fr dsH f 38 (by decide) (Nat.lt_of_le_of_lt (by decide) hs7)).trans (hd ⟨12, .data⟩ (by simp) rfl)) (by rw [ByteArray.size_append, ByteArray.size_extract, ByteArray.size_extract]; omega)) ?_
          exact ⟨_, rfl, ⟨_, three_leL hs hc1, rfl⟩, rr wy⟩
        · obtain ⟨t, ht, hte⟩ := hd ⟨13, .data⟩ (by simp) rfl
          refine wpOp_runG ho2 (wanted_none rfl) (qo_assign (canon fr dsH f).eval _ wy _ rfl) ?_
          exact ⟨_, rfl, ⟨t, ht, (canon_eval fr dsH f 39 (by decide) (Nat.lt_of_le_of_lt (by decide) hs7)).trans hte⟩, rr wy⟩
      · intro f wy hy hall
        obtain ⟨t, ht, hte⟩ := hall 14 (by decide)
        exact hK _ _ (Met.intro (hJ _ _ ⟨f, t, congrArg (fun z => canon z dsH f) HFR.out, ht, hte, hy.2 HD2.out, HM2.out.trans hy.1⟩))
    · have h0I : ¬ (0 : Int) < (n : Int) := by omega
      go_wp2
      go_ret
      exact ⟨s, by omega, rfl, HD1.out, HM1.out⟩
  · go_wp2_with fail
    refine (below_any hU 4 (by omega) (by omega) _ (Draw.alloc HD1.out _)).mono ?_
    rintro e w3 ⟨y, hy0, hy1, rfl, hD3, hM3⟩
    have hc := lit_cells hM3 (Draw.lt HD1.out)
    have c0 := hc 0
    have c1 := hc 1
    have c2 := hc 2
    have c3 := hc 3
    have HM3 : Hid (Mut R w w3) := HM1.out.trans (((Mut.refl R w1).alloc _).trans hM3)
    clear hc hM3
    have hadd : ∀ (c : ByteArray) (w' : World), c.size = 1 → (Op.stringOp .add s c).run Tryz.prog w' = .ok (.string (s ++ c)) w' := fun c w' hc => add_ok (by omega) w'
    have a0 := hadd ⟨#[32]⟩ w3 rfl
    have a1 := hadd ⟨#[41]⟩ w3 rfl
    have a2 := hadd ⟨#[48]⟩ w3 rfl
    have a3 := hadd ⟨#[97]⟩ w3 rfl
    clear hadd
    have HD3 := (show Hid _ from hD3)
    clear hD3
    have hy : y = 0 ∨ y = 1 ∨ y = 2 ∨ y = 3 := by omega
    rcases hy with rfl | rfl | rfl | rfl <;> (go_wp2; go_ret; exact ⟨_, size_add1L hs rfl, rfl, HD3.out, HM3.out⟩)
  · go_wp2
    go_ret
    exact ⟨s, by omega, rfl, HD1.out, HM1.out⟩
  · go_wp2
    go_ret
    exact ⟨s, by omega, rfl, HD1.out, HM1.out⟩

end
end Go.Proofs.YtpcbhjejpebogaaGreatDoor

namespace Go.Proofs.YtpcbhjejpebogaaGreatDoor
open Go.RowKit Go.Maps
set_option linter.unusedVariables false

section
variable {W : World} {a : Option Addr} {len cap R : Nat} {Z : Nat → Int}
set_option maxRecDepth 8000 in
set_option maxHeartbeats 8000000 in
theorem drKnown6_any (hU : IsU8 W a len cap Z) (w : World) (h : Draw W a len cap R w) :
    Calls Tryz.prog 30 #[.pointer (some ⟨R, 0, none⟩), .int .i64 6] w fun e w' => ∃ g c L, e = .returned (.slice (some ⟨g, 0, none⟩) L.length c) ∧ OwnS w' (R + 1) g c L ∧ L.length ≤ 7 ∧ KLow L ∧ Draw W a len cap R w' := by
  obtain ⟨i0, hi, hz0, hz1, hz2⟩ := info_parts info9
  have hRw : R < w.heap.size := h.lt
  have hD1 : Draw W a len cap R (w.alloc (.cells #[] 9)) := h.alloc _
  have HG1 : Hid ((w.alloc (.cells #[] 9)).heap[w.heap.size]? = some (.cells #[] 9 (0, 0))) := heap_alloc_new w _
  have HTM : Hid (∀ (v : World), Draw W a len cap R v → Calls Tryz.prog 32 #[.pointer (some ⟨R, 0, none⟩), .int .i64 3] v fun e w' => ∃ t : Tr, TD 3 t ∧ e = .returned (.string t.txt) ∧ Draw W a len cap R w' ∧ Mut R v w') := fun v hv => drTerm_any hU 3 (by omega) v hv
  have HRW : Hid (R < w.heap.size) := hRw
  clear h hRw
  go_enter Tryz.func30, Tryz.ntmps30
  go_wp2_with fail
  refine (below_any hU 7 (by omega) (by omega) _ hD1).mono ?_
  rintro e w1 ⟨x, hx0, hx1, rfl, hD2, hM2⟩
  have HO1 : Hid (OwnS w1 (R + 1) w.heap.size 0 []) := by
    show OwnS _ _ _ _ _
    refine ⟨rfl, .inr ⟨w.heap.size, 0, #[], rfl, by have := HRW.out; omega, ?_, Nat.le_refl _, Nat.zero_le _, rfl, rfl⟩⟩
    exact (hM2.block w.heap.size (by simp) (by have := HRW.out; omega)).trans HG1.out
  obtain ⟨n, rfl⟩ : ∃ n : Nat, x = (n : Int) := ⟨x.toNat, by omega⟩
  have hn : n ≤ 6 := by omega
  have HD2 : Hid (Draw W a len cap R w1) := hD2
  clear hD1 hD2 hM2 hx0 hx1
  go_wp2
  go_loopw [5, 6] (fun v i wr => ∃ (k g c : Nat) (L : List (List UInt8)), k ≤ 6 ∧ i = .int .i64 k ∧ v = .slice (some ⟨g, 0, none⟩) L.length c ∧ Hid (OwnS wr (R + 1) g c L ∧ L.length + k ≤ 6 ∧ KLow L) ∧ Draw W a len cap R wr) (fun _ i _ => (intOf i).toNat)
  case atStart => exact ⟨n, w.heap.size, 0, [], hn, rfl, rfl, ⟨HO1.out, by simpa using hn, fun x hx => by cases hx⟩, HD2.out⟩
  case round =>
    obtain ⟨k, g, c, L, hk, rfl, rfl, HL, hD⟩ := hrel
    have HD : Hid (Draw W a len cap R wr) := hD
    clear hD
    by_cases h0 : 0 < k
    · have h0I : (0 : Int) < (k : Int) := by omega
      obtain ⟨m, hm⟩ : ∃ m, m = L.length := ⟨_, rfl⟩
      have HM : Hid (m = L.length) := hm
      rw [← hm]
      clear hm
      go_wp2_with fail
      refine (HTM.out wr HD.out).mono ?_
      rintro e w3 ⟨t, hT, rfl, hD3, hM3⟩
      have HO3 : Hid (OwnS w3 (R + 1) g c L) := HL.out.1.mut hM3 (by omega)
      have HD3 : Hid (Draw W a len cap R w3) := hD3
      have HT : Hid (TD 3 t) := hT
      obtain ⟨X, hX⟩ : ∃ X, X = t.txt := ⟨_, rfl⟩
      have HX : Hid (X = t.txt) := hX
      rw [← hX]
      have HLn : Hid (Calls Tryz.prog 10 #[.slice (some ⟨g, 0, none⟩) m c, .string X] w3 fun e w' => ∃ v, e = .returned (.tuple #[v, .bool (lrB (atL L) m X)]) ∧ OwnL w' w3.heap.size v (lrR (atL L) m X) ∧ Below w3.heap.size w3 w') := by
        rw [HM.out]
        exact specLearned_any g L.length c (atL L) X w3 HO3.out.strs HO3.out.lies.2.1 (by have := HL.out.2.1; omega) HL.out.2.2.sizes (by have := hT.small (by omega); rw [hX]; omega)
      clear hT hD3 hM3 hX
      go_wp2_with fail
      refine HLn.out.mono ?_
      rintro e w4 ⟨v, rfl, ho, hB4⟩
      have HD4 : Hid (Draw W a len cap R w4) := HD3.out.below hB4
      have HO4 : Hid (OwnS w4 (R + 1) g c L) := HO3.out.below hB4
      obtain ⟨b, hb⟩ : ∃ b, b = lrB (atL L) m X := ⟨_, rfl⟩
      rw [← hb]
      cases b with
      | false =>
        clear hb ho hB4
        go_wp2
        go_roundw
        case rel => exact ⟨k - 1, g, c, L, by omega, (by rw [show ((k - 1 : Nat) : Int) = (k : Int) - 1 by omega]), by rw [HM.out], ⟨HO4.out, by have := HL.out.2.1; omega, HL.out.2.2⟩, HD4.out⟩
        case measure => simp [intOf]; omega
      | true =>
        have hr : lrR (atL L) m X = putL L X.toList := by
          unfold lrR
          rw [if_pos hb.symm, HM.out, LL_atL]
        rw [hr] at ho
        have hR4 : R + 1 ≤ w3.heap.size := HD3.out.lt
        obtain ⟨g', c', rfl, hf⟩ := own_form (mono_base ho hR4) (L := putL L X.toList) rfl rfl (fun e => by
          have h1 := ho
          unfold OwnL at h1
          rw [e] at h1
          rcases h1.2 with ⟨_, h2⟩ | ⟨g2, c2, cur, h2, _⟩
          · exact putL_nonempty X.toList L (List.eq_nil_of_length_eq_zero h2)
          · cases h2)
        have HN : Hid (OwnS w4 (R + 1) g' c' (putL L X.toList) ∧ (putL L X.toList).length + (k - 1) ≤ 6 ∧ KLow (putL L X.toList)) := ⟨hf, by have h1 := putL_len X.toList L; have h2 := HL.out.2.1; omega, by rw [HX.out]; exact HL.out.2.2.put HT.out⟩
        clear hb hr ho hB4 hf hR4
        obtain ⟨L2, hL2⟩ : ∃ L2, L2 = putL L X.toList := ⟨_, rfl⟩
        rw [← hL2] at HN ⊢
        clear hL2
        go_wp2
        go_roundw
        case rel => exact ⟨k - 1, g', c', L2, by omega, (by rw [show ((k - 1 : Nat) : Int) = (k : Int) - 1 by omega]), rfl, HN, HD4.out⟩
        case measure => simp [intOf]; omega
    · have hk0 : k = 0 := by omega
      subst hk0
      obtain ⟨m, hm⟩ : ∃ m, m = L.length := ⟨_, rfl⟩
      have HM : Hid (m = L.length) := hm
      rw [← hm]
      have hm7 : m ≤ 6 := by have := HL.out.2.1; omega
      clear hm
      go_wp2_with fail
      refine (once_any hU 30 (by omega) (by omega) wr HD.out).mono ?_
      rintro e w3 ⟨x, rfl, hD3, hM3⟩
      have HO3 : Hid (OwnS w3 (R + 1) g c L) := HL.out.1.mut hM3 (by omega)
      have HD3 : Hid (Draw W a len cap R w3) := hD3
      clear hD3 hM3
      cases x with
      | false =>
        go_wp2
        go_ret
        exact ⟨g, c, L, by rw [HM.out]; rfl, HO3.out, by have := HL.out.2.1; omega, HL.out.2.2, HD3.out⟩
      | true =>
        have HO3' : Hid (w3.ownsRow (R + 1) 9 1 (.slice (some ⟨g, 0, none⟩) m c) m (L.map encStr)) := by
          have h1 := HO3.out
          unfold OwnS at h1
          rw [← HM.out] at h1
          exact h1
        have hc1 : (m + 1 : Nat) ≤ maxLen := by unfold maxLen; omega
        have hc2 : (m + 1) * 16 ≤ 140737488355328 := by omega
        go_wp2_with (at_builtin; refine wpList_append_own _ rfl _ _ 24 rfl (R + 1) 9 i0 (.string ⟨#[]⟩) 1 16 Tryz.underlying24 hi hz0 hz1 hz2 rfl (by decide) _ m _ rfl (HO3'.out.alloc _) ⟨w3.heap.size, 0, none⟩ 1 1 [.string ⟨#[97, 49]⟩] rfl rfl (World.news_of_block (heap_alloc_new _ _)) (fun u hu => by simp at hu; subst hu; rfl) hc1 hc2 (by have := HD3.out.lt; simp; omega) ?_; intro v4 w4 hown4 hgrow4 hnil4)
        obtain ⟨g4, gc4, rfl, hf4⟩ := own_form hown4 (L := L ++ [(⟨.inl (1, 1)⟩ : Tr).txt.toList]) (by rw [List.length_append, HM.out]; rfl) (by rw [List.map_append, List.map_cons, List.map_nil, enc_str, a1_txt]) (fun e => by have := (hnil4.1 e).1; cases this)
        have HD4 : Hid (Draw W a len cap R w4) := (HD3.out.alloc _).grown hgrow4 (fun k hk => by have := (HO3'.out.lt k hk).1; omega)
        go_ret
        exact ⟨g4, gc4, _, rfl, hf4, by rw [List.length_append, ← HM.out]; simp; omega, fun x hx => by
          rcases List.mem_append.1 hx with h1 | h1
          · exact HL.out.2.2 x h1
          · exact ⟨⟨.inl (1, 1)⟩, TD.leaf (.inl rfl) (by omega), (List.mem_singleton.1 h1).symm⟩, HD4.out⟩
end

theorem drawLearned_any (a : Option Addr) (len cap : Nat) (Z : Nat → Int) (w : World) (hU : IsU8 w a len cap Z) :
    Calls Tryz.prog 7 #[.slice a len cap] w fun e w' => ∃ g c L t, e = .returned (.tuple #[.slice (some ⟨g, 0, none⟩) L.length c, .string t]) ∧ OwnS w' w.heap.size g c L ∧ L.length ≤ 7 ∧ KLow L ∧ t.size ≤ 130000 ∧ Below w.heap.size w w' := by
  have HTM : Hid (∀ (R : Nat) (v : World), Draw w a len cap R v → Calls Tryz.prog 32 #[.pointer (some ⟨R, 0, none⟩), .int .i64 3] v fun e w' => ∃ t : Tr, TD 3 t ∧ e = .returned (.string t.txt) ∧ Draw w a len cap R w' ∧ Mut R v w') := fun R v hv => drTerm_any hU 3 (by omega) v hv
  go_enter Tryz.func7, Tryz.ntmps7
  go_wp2_with fail
  refine (openD_any a len cap w).mono ?_
  rintro e w1 ⟨rfl, hD1⟩
  obtain ⟨R, hR⟩ : ∃ R, R = w.heap.size := ⟨_, rfl⟩
  have HR : Hid (R = w.heap.size) := hR
  rw [← hR] at hD1 ⊢
  clear hR
  go_wp2_with fail
  refine (drKnown6_any hU w1 hD1).mono ?_
  rintro e w2 ⟨g, c, L, rfl, ho, hl, hk, hD2⟩
  have HO2 : Hid (OwnS w2 (R + 1) g c L) := ho
  have HL : Hid (L.length ≤ 7 ∧ KLow L) := ⟨hl, hk⟩
  obtain ⟨m, hm⟩ : ∃ m, m = L.length := ⟨_, rfl⟩
  have HM : Hid (m = L.length) := hm
  rw [← hm]
  clear hm ho hl hk hD1
  go_wp2_with fail
  refine (HTM.out R w2 hD2).mono ?_
  rintro e w3 ⟨t, hT, rfl, hD3, hM3⟩
  have HO3 : Hid (OwnS w3 (R + 1) g c L) := HO2.out.mut hM3 (by omega)
  obtain ⟨X, hX⟩ : ∃ X, X = t.txt := ⟨_, rfl⟩
  have hXs : X.size ≤ 60000 := by rw [hX]; have := hT.small (by omega); omega
  rw [← hX]
  clear hX hT hM3 hD2
  go_wp2_with fail
  refine (hurtL_any hU X hXs w3 hD3).mono ?_
  rintro e w4 ⟨s, hs, rfl, hD4, hM4⟩
  have HO4 : Hid (OwnS w4 (R + 1) g c L) := HO3.out.mut hM4 (by omega)
  clear hD3 hM4
  go_wp2
  go_ret2
  exact ⟨g, c, L, s, by rw [HM.out]; rfl, mono_base HO4.out (by have := HR.out; omega), HL.out.1, HL.out.2, hs, hD4.bel⟩
end Go.Proofs.YtpcbhjejpebogaaGreatDoor

namespace Go.Proofs.YtpcbhjejpebogaaGreatDoor
open Go.RowKit Go.Maps
set_option linter.unusedVariables false

set_option maxHeartbeats 400000 in
theorem sameT_any (a a' : Option Addr) (len cap cap' : Nat) (S : Nat → ByteArray) (w : World) (h : IsStrs w a len cap S) (h' : IsStrs w a' len cap' S) :
    Calls Tryz.prog 11 #[.slice a len cap, .slice a' len cap'] w fun e w' => e = .returned (.bool true) ∧ Below w.heap.size w w' := by
  obtain ⟨hlc, hcm, hc⟩ := h
  obtain ⟨hlc', hcm', hc'⟩ := h'
  have hbn : ((len : Int) != (len : Int)) = false := by simp
  go_enter Tryz.func11, Tryz.ntmps11
  go_wp2
  go_loopw [5] (fun i wr => ∃ (k : Nat), k ≤ len ∧ i = .int .i64 k ∧ Below w.heap.size w wr)
    (fun i _ => len - (intOf i).toNat)
  case atStart => exact ⟨0, Nat.zero_le _, rfl, Below.refl _ _⟩
  case round =>
    obtain ⟨k, hk, rfl, hB⟩ := hrel
    by_cases hlt : k < len
    · obtain ⟨b, off, rfl, hbs, hcell⟩ := hc (by omega)
      obtain ⟨b', off', rfl, hbs', hcell'⟩ := hc' (by omega)
      have d1 := (hB.cell (p := ⟨b, off + k, none⟩) hbs).trans (hcell k hlt)
      have d1' := (hB.cell (p := ⟨b', off' + k, none⟩) hbs').trans (hcell' k hlt)
      have hss : ((S k).toList != (S k).toList) = false := by simp
      clear hcell hc hcell' hc'
      go_wp2
      go_quiet (fail)
      go_wp2
      go_roundw
      case rel => exact ⟨k + 1, by omega, by go_num, hB.trans ⟨rfl, rfl, rfl, Nat.le_refl _, fun _ _ => rfl⟩⟩
      case measure => simp [intOf]; omega
    · have hke : k = len := by omega
      subst hke
      go_wp2
      go_ret
      exact ⟨rfl, hB⟩

set_option maxHeartbeats 400000 in
theorem lawHasO_any (a : Option Addr) (len cap : Nat) (I : Nat → ByteArray) (id : ByteArray) (w : World) (h : IsStrs w a len cap I) :
    Calls Tryz.prog 15 #[.slice a len cap, .string id] w fun e w' => e = .returned (.bool (!(outB I len id))) ∧ w' = w := by
  obtain ⟨hlc, hcm, hc⟩ := h
  go_enter Tryz.func15, Tryz.ntmps15
  go_wp2
  go_loop [5] (fun i => ∃ (k : Nat), k ≤ len ∧ i = .int .i64 k ∧ Hid (outB I k id = true)) (fun i => len - (intOf i).toNat)
  case atStart => exact ⟨0, Nat.zero_le _, rfl, rfl⟩
  case round =>
    obtain ⟨k, hk, rfl, HR⟩ := hrel
    by_cases hlt : k < len
    · obtain ⟨b, off, rfl, hbs, hcell⟩ := hc (by omega)
      have d1 := hcell k hlt
      have hltI : (k : Int) < (len : Int) := by omega
      clear hcell hc
      cases hq : ((I k).toList == id.toList) with
      | true =>
        have hr : Hid (outB I len id = false) := by
          show _ = _
          unfold outB
          rw [allB_false hlt (by rw [hq]; rfl)]
        go_wp2
        go_ret
        exact ⟨ret_bool (by rw [hr.out]; rfl), rfl⟩
      | false =>
        have HR' : Hid (outB I (k + 1) id = true) := by
          show _ = _
          have := HR.out
          unfold outB at this ⊢
          rw [allB_succ, this, hq]; rfl
        go_wp2
        go_round
        case rel => exact ⟨k + 1, by omega, by go_num, HR'⟩
        case measure => simp [intOf]; omega
    · have hke : k = len := by omega
      subst hke
      go_wp2
      go_ret
      exact ⟨ret_bool (by rw [HR.out]; rfl), rfl⟩

theorem put_small {L : List (List UInt8)} {t : ByteArray} (hS : ∀ i, i < L.length → (atL L i).size ≤ 1048576) (ht : t.size ≤ 1048576) : ∀ i, i < (putL L t.toList).length → (atL (putL L t.toList) i).size ≤ 1048576 := by
  have h := put_sizes (S := atL L) (n := L.length) hS ht
  rw [LLa] at h
  exact h
theorem learnI (L : List (List UInt8)) (g c base : Nat) (t : ByteArray) (w : World) (hO : OwnS w base g c L) (hS : ∀ i, i < L.length → (atL L i).size ≤ 1048576) (ht : t.size ≤ 1048576) (hr : lrB (atL L) L.length t = true) :
    Calls Tryz.prog 9 #[.slice (some ⟨g, 0, none⟩) L.length c, .string t] w fun e w' => ∃ g' c', e = .returned (.tuple #[.slice (some ⟨g', 0, none⟩) (putL L t.toList).length c', .bool true]) ∧ OwnS w' w.heap.size g' c' (putL L t.toList) ∧ Below w.heap.size w w' :=
  (implLearned_any g L.length c (atL L) t w hO.strs hS ht).mono (by
    rintro e w' ⟨v, rfl, ho, hB⟩
    rw [hr]
    rw [(lr_true hr).1] at ho
    obtain ⟨g', c', rfl, hf⟩ := own_form ho (L := putL L t.toList) rfl rfl (fun e => by
      have h1 := ho
      unfold OwnL at h1
      rw [e] at h1
      rcases h1.2 with ⟨_, h2⟩ | ⟨g2, c2, cur, h2, _⟩
      · exact putL_nonempty t.toList L (List.eq_nil_of_length_eq_zero h2)
      · cases h2)
    exact ⟨g', c', rfl, hf, hB⟩)

theorem learnB (L : List (List UInt8)) (g c base : Nat) (t : ByteArray) (w : World) (hO : OwnS w base g c L) (hS : ∀ i, i < L.length → (atL L i).size ≤ 1048576) (ht : t.size ≤ 1048576) (hr : lrB (atL L) L.length t = false) :
    Calls Tryz.prog 9 #[.slice (some ⟨g, 0, none⟩) L.length c, .string t] w fun e w' => ∃ v, e = .returned (.tuple #[v, .bool false]) ∧ Below w.heap.size w w' :=
  (implLearned_any g L.length c (atL L) t w hO.strs hS ht).mono (by
    rintro e w' ⟨v, rfl, ho, hB⟩
    rw [hr]
    exact ⟨v, rfl, hB⟩)


set_option maxHeartbeats 1000000 in
theorem within_yes (a b : Option Addr) (len cap n bc : Nat) (S I : Nat → ByteArray) (w : World) (h : IsStrs w a len cap S) (h' : IsStrs w b n bc I) (hin : ∀ i, i < len → outB I n (S i) = false) :
    Calls Tryz.prog 14 #[.slice a len cap, .slice b n bc] w fun e w' => e = .returned (.bool true) ∧ Below w.heap.size w w' := by
  obtain ⟨hlc, hcm, hc⟩ := h
  have HI : Hid (IsStrs w b n bc I) := h'
  have HIN : Hid (∀ i, i < len → outB I n (S i) = false) := hin
  clear h' hin
  go_enter Tryz.func14, Tryz.ntmps14
  go_wp2
  go_loopw [5] (fun i wr => ∃ (k : Nat), k ≤ len ∧ i = .int .i64 k ∧ Hid (Below w.heap.size w wr)) (fun i _ => len - (intOf i).toNat)
  case atStart => exact ⟨0, Nat.zero_le _, rfl, Below.refl _ _⟩
  case round =>
    obtain ⟨k, hk, rfl, HB⟩ := hrel
    by_cases hlt : k < len
    · obtain ⟨ba, off, rfl, hbs, hcell⟩ := hc (by omega)
      have d1 := (HB.out.cell (p := ⟨ba, off + k, none⟩) hbs).trans (hcell k hlt)
      have hltI : (k : Int) < (len : Int) := by omega
      obtain ⟨s, hs⟩ : ∃ s, s = S k := ⟨_, rfl⟩
      rw [← hs] at d1
      have HC : Hid (Calls Tryz.prog 15 #[.slice b n bc, .string s] wr fun e w' => e = .returned (.bool true) ∧ w' = wr) := by
        have h1 := lawHasO_any b n bc I s wr (HI.out.below HB.out)
        rw [hs, HIN.out k hlt] at h1
        rw [hs]
        exact h1
      clear hcell hc hs
      go_wp2_with fail
      refine HC.out.mono ?_
      rintro e w3 ⟨rfl, hw3⟩
      rw [hw3]
      clear hw3 w3 d1
      go_wp2
      go_roundw
      case rel => exact ⟨k + 1, by omega, by go_num, HB⟩
      case measure => simp [intOf]; omega
    · have hke : k = len := by omega
      subst hke
      go_wp2
      go_ret
      exact ⟨rfl, HB.out⟩
theorem in_outB {M : List (List UInt8)} {s : ByteArray} (h : s.toList ∈ M) : outB (atL M) M.length s = false := by
  have h1 := outB_list M s
  rw [decide_eq_true h] at h1
  simpa using h1
theorem atL_mem {L : List (List UInt8)} {i : Nat} (hi : i < L.length) : (atL L i).toList ∈ L := by
  rw [atL_list]
  simp only [List.getD, List.getElem?_eq_getElem hi, Option.getD_some]
  exact List.getElem_mem hi
/-- what is known is opened -/
theorem known_in {L M : List (List UInt8)} (hk : KLow L) (h : ∀ x, x ∈ M ↔ OpT (atL L) L.length x) : ∀ x, x ∈ L → x ∈ M := fun x hx => by
  obtain ⟨t, ht, e⟩ := hk x hx
  rw [h]
  exact ⟨t, .base ((kn_list L t).2 ⟨ht.fit (by omega), by rw [e]; exact hx⟩), e⟩
/-- what is opened is opened for good -/
theorem opened_again {L M : List (List UInt8)} (hU : Up M) (h : ∀ x, x ∈ M ↔ OpT (atL L) L.length x) (hl : M.length ≤ 30) : OpR (atL M) M.length M := by
  have hfit : ∀ x, x ∈ M → ∃ t, Fit t ∧ Op (Kn (atL L) L.length) t ∧ t.txt.toList = x := fun x hx => by
    obtain ⟨t, ht, e⟩ := (h x).1 hx
    exact ⟨t, op_fit ht, ht, e⟩
  have hq : knownB (atL M) M.length = true := by
    unfold knownB
    rw [Bool.and_eq_true, Bool.and_eq_true]
    refine ⟨⟨decide_eq_true hl, riseB_up hU⟩, termsB_all.2 fun i hi => ?_⟩
    obtain ⟨t, hf, _, e⟩ := hfit _ (atL_mem hi)
    rw [← bytes_eq e, rT_txt hf.1 hf.2.1 hf.2.2]
    rfl
  refine ⟨fun _ => ⟨hU, fun x => ⟨fun hx => ?_, fun ⟨t, ht, e⟩ => ?_⟩⟩, fun hn => by rw [hq] at hn; cases hn⟩
  · obtain ⟨t, hf, _, e⟩ := hfit x hx
    exact ⟨t, .base ((kn_list M t).2 ⟨hf, by rw [e]; exact hx⟩), e⟩
  · rw [h]
    refine ⟨t, ht (Op (Kn (atL L) L.length)) (fun u hu => ?_) (Op.shut _), e⟩
    obtain ⟨hf, hm⟩ := (kn_list M u).1 hu
    exact (opT_fit hf).1 ((h _).1 hm)

/-- what is opened grows with what is known -/
theorem opened_grows {L M N : List (List UInt8)} {t : ByteArray} (h : ∀ x, x ∈ M ↔ OpT (atL L) L.length x) (hq : knownB (atL (putL L t.toList)) (putL L t.toList).length = true) (hN : OpR (atL (putL L t.toList)) (putL L t.toList).length N) : ∀ x, x ∈ M → x ∈ N := fun x hx => by
  obtain ⟨u, hu, e⟩ := (h x).1 hx
  rw [(hN.1 hq).2 x]
  exact ⟨u, hu.mono (fun z hz => (kn_put L t z).2 (.inl hz)), e⟩
theorem op_sizes {L M : List (List UInt8)} (h : ∀ x, x ∈ M ↔ OpT (atL L) L.length x) : ∀ i, i < M.length → (atL M i).size ≤ 1048576 := fun i hi => by
  obtain ⟨t, ht, e⟩ := (h _).1 (atL_mem hi)
  have hf := op_fit ht
  rw [← bytes_eq e]
  have := Tr.txt_size t hf.1
  have := hf.2.1
  omega

set_option maxRecDepth 8000 in
set_option maxHeartbeats 8000000 in
theorem fnopened_walk {u : Option Addr} {len cap : Nat} {Z : Nat → Int} (w : World) (hU : IsU8 w u len cap Z) (hP : Pow w) :
    Calls Tryz.prog 3 #[.slice u len cap] w fun e w' => e = .returned (.bool true) ∧ Below w.heap.size w w' := by
  have HP : Hid (Pow w) := hP
  clear hP
  go_enter Tryz.func3, Tryz.ntmps3
  obtain ⟨bg, hbg⟩ : ∃ bg, bg = decide ((1048576 : Int) < (len : Int)) := ⟨_, rfl⟩
  go_wp2_with fail
  refine (bigD_any u len cap w).mono ?_
  rintro e w0 ⟨rfl, hw0⟩
  rw [hw0, ← hbg]
  clear hw0 w0 hbg
  cases bg with
  | true =>
    go_wp2
    go_ret
    exact ⟨rfl, Below.refl _ _⟩
  | false =>
  go_wp2_with fail
  refine (drawLearned_any u len cap Z w hU).mono ?_
  rintro e w1 ⟨g, c, L, X, rfl, ho, hl, hk, hx, hB1⟩
  have HO1 : Hid (OwnS w1 w.heap.size g c L) := ho
  have HL : Hid (L.length ≤ 7 ∧ KLow L) := ⟨hl, hk⟩
  have HXS : Hid (X.size ≤ 1048576) := by show _ ≤ _; omega
  have HB1 : Hid (Below w.heap.size w w1) := hB1
  obtain ⟨kn, hkn⟩ : ∃ kn, kn = knownB (atL L) L.length := ⟨_, rfl⟩
  have HKN : Hid (kn = knownB (atL L) L.length) := hkn
  obtain ⟨fb, hfb⟩ : ∃ fb, fb = lrB (atL L) L.length X := ⟨_, rfl⟩
  have HFB : Hid (fb = lrB (atL L) L.length X) := hfb
  obtain ⟨m, hm⟩ : ∃ m, m = L.length := ⟨_, rfl⟩
  have HM : Hid (m = L.length) := hm
  have HLs : Hid (∀ v, Below w1.heap.size w1 v → IsStrs v (some ⟨g, 0, none⟩) m c (atL L)) := fun v hv => by rw [HM.out]; exact (HO1.out.below hv).strs
  have HZ : Hid (∀ i, i < m → (atL L i).size ≤ 1048576) := by rw [hm]; exact HL.out.2.sizes
  have HK : Hid (∀ v, Below w1.heap.size w1 v → Calls Tryz.prog 13 #[.slice (some ⟨g, 0, none⟩) m c] v fun e w' => e = .returned (.bool kn) ∧ Below v.heap.size v w') := fun v hB => by
    rw [HKN.out, ← HM.out]
    exact specKnown_any _ _ _ _ v (HLs.out v hB) HZ.out
  have HOI : Hid (∀ v, Below w1.heap.size w1 v → Below w.heap.size w v → Calls Tryz.prog 8 #[.slice (some ⟨g, 0, none⟩) m c] v fun e w' => ∃ v' M, e = .returned v' ∧ OwnL w' v.heap.size v' M ∧ OpR (atL L) m M ∧ Below v.heap.size v w') := fun v hv hw =>
    implOpened_any _ _ _ _ v (HLs.out v hv) HZ.out (HP.out.below hw)
  have HOS : Hid (∀ v, Below w1.heap.size w1 v → Calls Tryz.prog 12 #[.slice (some ⟨g, 0, none⟩) m c] v fun e w' => ∃ v' M, e = .returned v' ∧ OwnL w' v.heap.size v' M ∧ OpR (atL L) m M ∧ Below v.heap.size v w') := fun v hv =>
    specOpened_any _ _ _ _ v (HLs.out v hv) HZ.out
  have HLI : Hid (∀ v, Below w1.heap.size w1 v → Calls Tryz.prog 9 #[.slice (some ⟨g, 0, none⟩) m c, .string X] v fun e w' => ∃ x, e = .returned (.tuple #[x, .bool fb]) ∧ (fb = true → ∃ g' c', x = .slice (some ⟨g', 0, none⟩) (putL L X.toList).length c' ∧ OwnS w' v.heap.size g' c' (putL L X.toList)) ∧ Below v.heap.size v w') := fun v hv => by
    rw [HM.out]
    cases hf : fb with
    | true => exact (learnI L g c w.heap.size X v (HO1.out.below hv) HL.out.2.sizes HXS.out (by rw [← HFB.out]; exact hf)).mono (by rintro e w' ⟨g', c', rfl, h1, h2⟩; exact ⟨_, rfl, fun _ => ⟨g', c', rfl, h1⟩, h2⟩)
    | false => exact (learnB L g c w.heap.size X v (HO1.out.below hv) HL.out.2.sizes HXS.out (by rw [← HFB.out]; exact hf)).mono (by rintro e w' ⟨x, rfl, h2⟩; exact ⟨x, rfl, fun h => (by cases h), h2⟩)
  have HLS : Hid (∀ v, Below w1.heap.size w1 v → Calls Tryz.prog 10 #[.slice (some ⟨g, 0, none⟩) m c, .string X] v fun e w' => ∃ x, e = .returned (.tuple #[x, .bool fb]) ∧ Below v.heap.size v w') := fun v hv => by
    rw [HM.out, HFB.out]
    exact (specLearned_any g L.length c (atL L) X v (HO1.out.below hv).strs (HO1.out.below hv).lies.2.1 (by have := HL.out.1; omega) HL.out.2.sizes HXS.out).mono (by rintro e w' ⟨x, rfl, _, hB⟩; exact ⟨x, rfl, hB⟩)
  rw [← hm]
  clear ho hl hk hB1 hkn hfb hm hx
  go_wp2_with fail
  refine (HOI.out w1 (Below.refl _ _) HB1.out).mono ?_
  rintro e w2 ⟨v2, M, rfl, hoM, hMR, hB2⟩
  have HB2 : Hid (Below w1.heap.size w1 w2 ∧ Below w.heap.size w w2) := ⟨hB2, HB1.out.trans (hB2.mono HB1.out.size)⟩
  obtain ⟨ma, mc, rfl, hI, _⟩ := hoM.strs2
  obtain ⟨k, hkm⟩ : ∃ k, k = M.length := ⟨_, rfl⟩
  have HKM : Hid (k = M.length) := hkm
  rw [← hkm] at hI ⊢
  have HI : Hid (IsStrs w2 ma k mc (atL M)) := hI
  have HMR : Hid (OpR (atL L) m M) := hMR
  clear hoM hMR hB2 hI hkm
  go_wp2_with fail
  refine (HLI.out w2 HB2.out.1).mono ?_
  rintro e w3 ⟨x3, rfl, hx3, hB3⟩
  have HB3 : Hid (Below w1.heap.size w1 w3 ∧ Below w.heap.size w w3 ∧ Below w2.heap.size w2 w3) := ⟨HB2.out.1.trans (hB3.mono HB2.out.1.size), HB2.out.2.trans (hB3.mono HB2.out.2.size), hB3⟩
  have HX3 : Hid (fb = true → ∃ g' c', x3 = .slice (some ⟨g', 0, none⟩) (putL L X.toList).length c' ∧ OwnS w3 w2.heap.size g' c' (putL L X.toList)) := hx3
  clear hx3 hB3
  go_wp2_with fail
  refine (HLS.out w3 HB3.out.1).mono ?_
  rintro e w4 ⟨x4, rfl, hB4⟩
  have HB4 : Hid (Below w1.heap.size w1 w4 ∧ Below w.heap.size w w4 ∧ Below w2.heap.size w2 w4 ∧ Below w3.heap.size w3 w4) := ⟨HB3.out.1.trans (hB4.mono HB3.out.1.size), HB3.out.2.1.trans (hB4.mono HB3.out.2.1.size), HB3.out.2.2.trans (hB4.mono HB3.out.2.2.size), hB4⟩
  clear hB4
  go_wp2_with fail
  refine (HOS.out w4 HB4.out.1).mono ?_
  rintro e w5 ⟨v5, M5, rfl, hoM5, hMR5, hB5⟩
  have e5 : M5 = M := hMR5.unique HMR.out
  rw [e5] at hoM5
  have HB5 : Hid (Below w1.heap.size w1 w5 ∧ Below w.heap.size w w5 ∧ Below w2.heap.size w2 w5 ∧ Below w3.heap.size w3 w5) := ⟨HB4.out.1.trans (hB5.mono HB4.out.1.size), HB4.out.2.1.trans (hB5.mono HB4.out.2.1.size), HB4.out.2.2.1.trans (hB5.mono HB4.out.2.2.1.size), HB4.out.2.2.2.trans (hB5.mono HB4.out.2.2.2.size)⟩
  obtain ⟨sa, sc, rfl, hI5, _⟩ := hoM5.strs2
  rw [← HKM.out] at hI5 ⊢
  have HI5 : Hid (IsStrs w5 sa k sc (atL M)) := hI5
  clear hMR5 e5 hoM5 hB5 hI5
  go_wp2_with fail
  refine (sameT_any ma sa k mc sc (atL M) w5 (HI.out.below HB5.out.2.2.1) HI5.out).mono ?_
  rintro e w6 ⟨rfl, hB6⟩
  have HB6 : Hid (Below w1.heap.size w1 w6 ∧ Below w.heap.size w w6 ∧ Below w2.heap.size w2 w6 ∧ Below w3.heap.size w3 w6) := ⟨HB5.out.1.trans (hB6.mono HB5.out.1.size), HB5.out.2.1.trans (hB6.mono HB5.out.2.1.size), HB5.out.2.2.1.trans (hB6.mono HB5.out.2.2.1.size), HB5.out.2.2.2.trans (hB6.mono HB5.out.2.2.2.size)⟩
  clear hB6
  have hff : (fb != fb) = false := by simp
  have hfe : (fb == fb) = true := by simp
  go_wp2_with fail
  refine (HK.out w6 HB6.out.1).mono ?_
  rintro e w7 ⟨rfl, hB7⟩
  have HB7 : Hid (Below w1.heap.size w1 w7 ∧ Below w.heap.size w w7 ∧ Below w2.heap.size w2 w7 ∧ Below w3.heap.size w3 w7) := ⟨HB6.out.1.trans (hB7.mono HB6.out.1.size), HB6.out.2.1.trans (hB7.mono HB6.out.2.1.size), HB6.out.2.2.1.trans (hB7.mono HB6.out.2.2.1.size), HB6.out.2.2.2.trans (hB7.mono HB6.out.2.2.2.size)⟩
  clear hB7
  cases kn with
  | false =>
    go_wp2_with fail
    refine (HOS.out w7 HB7.out.1).mono ?_
    rintro e w8 ⟨v8, M8, rfl, hoM8, hMR8, hB8⟩
    have e8 : M8 = M := hMR8.unique HMR.out
    rw [e8] at hoM8
    obtain ⟨ta, tc, rfl, hI8, _⟩ := hoM8.strs2
    rw [← HKM.out] at hI8 ⊢
    have HI8 : Hid (IsStrs w8 ta k tc (atL M)) := hI8
    have HB8 : Hid (Below w.heap.size w w8 ∧ Below w2.heap.size w2 w8) := ⟨HB7.out.2.1.trans (hB8.mono HB7.out.2.1.size), HB7.out.2.2.1.trans (hB8.mono HB7.out.2.2.1.size)⟩
    clear hMR8 e8 hoM8 hB8 hI8
    go_wp2_with fail
    refine (sameT_any ma ta k mc tc (atL M) w8 (HI.out.below HB8.out.2) HI8.out).mono ?_
    rintro e w9 ⟨rfl, hB9⟩
    have HB9 : Hid (Below w.heap.size w w9) := HB8.out.1.trans (hB9.mono HB8.out.1.size)
    clear hB9
    go_wp2
    go_ret
    exact ⟨rfl, HB9.out⟩
  | true =>
  have HMM : Hid (Up M ∧ ∀ x, x ∈ M ↔ OpT (atL L) L.length x) := by
    have h1 := HMR.out
    rw [HM.out] at h1
    exact h1.1 HKN.out.symm
  clear hff hfe
  go_wp2_with fail
  refine (within_yes _ ma m c k mc (atL L) (atL M) w7 (HLs.out w7 HB7.out.1) (HI.out.below HB7.out.2.2.1) (fun i hi => by rw [HKM.out]; exact in_outB (known_in HL.out.2 HMM.out.2 _ (atL_mem (by rw [← HM.out]; exact hi))))).mono ?_
  rintro e w8 ⟨rfl, hB8⟩
  have HB8 : Hid (Below w1.heap.size w1 w8 ∧ Below w.heap.size w w8 ∧ Below w2.heap.size w2 w8 ∧ Below w3.heap.size w3 w8) := ⟨HB7.out.1.trans (hB8.mono HB7.out.1.size), HB7.out.2.1.trans (hB8.mono HB7.out.2.1.size), HB7.out.2.2.1.trans (hB8.mono HB7.out.2.2.1.size), HB7.out.2.2.2.trans (hB8.mono HB7.out.2.2.2.size)⟩
  clear hB8
  by_cases hk30 : k ≤ 30
  · have hkI : (k : Int) ≤ 30 := by omega
    have HAG : Hid (OpR (atL M) k M) := by
      show OpR _ _ _
      rw [HKM.out]
      exact opened_again HMM.out.1 HMM.out.2 (by rw [← HKM.out]; exact hk30)
    have HZM : Hid (∀ i, i < k → (atL M i).size ≤ 1048576) := fun i hi => op_sizes HMM.out.2 i (by rw [← HKM.out]; exact hi)
    go_wp2_with fail
    refine (implOpened_any ma k mc (atL M) w8 (HI.out.below HB8.out.2.2.1) HZM.out (HP.out.below HB8.out.2.1)).mono ?_
    rintro e w9 ⟨v9, M9, rfl, hoM9, hMR9, hB9⟩
    have e9 : M9 = M := hMR9.unique HAG.out
    rw [e9] at hoM9
    obtain ⟨sa9, sc9, rfl, hI9, _⟩ := hoM9.strs2
    rw [← HKM.out] at hI9 ⊢
    have HI9 : Hid (IsStrs w9 sa9 k sc9 (atL M)) := hI9
    have HB9 : Hid (Below w1.heap.size w1 w9 ∧ Below w.heap.size w w9 ∧ Below w2.heap.size w2 w9 ∧ Below w3.heap.size w3 w9) := ⟨HB8.out.1.trans (hB9.mono HB8.out.1.size), HB8.out.2.1.trans (hB9.mono HB8.out.2.1.size), HB8.out.2.2.1.trans (hB9.mono HB8.out.2.2.1.size), HB8.out.2.2.2.trans (hB9.mono HB8.out.2.2.2.size)⟩
    clear hMR9 e9 hoM9 hB9 hI9
    go_wp2_with fail
    refine (sameT_any sa9 ma k sc9 mc (atL M) w9 HI9.out (HI.out.below HB9.out.2.2.1)).mono ?_
    rintro e w10 ⟨rfl, hB10⟩
    have HB10 : Hid (Below w1.heap.size w1 w10 ∧ Below w.heap.size w w10 ∧ Below w2.heap.size w2 w10 ∧ Below w3.heap.size w3 w10) := ⟨HB9.out.1.trans (hB10.mono HB9.out.1.size), HB9.out.2.1.trans (hB10.mono HB9.out.2.1.size), HB9.out.2.2.1.trans (hB10.mono HB9.out.2.2.1.size), HB9.out.2.2.2.trans (hB10.mono HB9.out.2.2.2.size)⟩
    clear hB10
    cases fb with
    | false =>
      go_wp2
      go_ret
      exact ⟨rfl, HB10.out.2.1⟩
    | true =>
    obtain ⟨g1, c1, rfl, hoP⟩ := HX3.out rfl
    have HOP : Hid (OwnS w3 w2.heap.size g1 c1 (putL L X.toList)) := hoP
    have HKP : Hid (knownB (atL (putL L X.toList)) (putL L X.toList).length = true) := (lr_true HFB.out.symm).2
    have HZP : Hid (∀ i, i < (putL L X.toList).length → (atL (putL L X.toList) i).size ≤ 1048576) := put_small HL.out.2.sizes HXS.out
    have HPI : Hid (X.toList ∈ putL L X.toList ∧ ∀ x, x ∈ L → x ∈ putL L X.toList) := ⟨(putL_mem _ _ _).2 (.inr rfl), fun x hx => (putL_mem _ _ _).2 (.inl hx)⟩
    have HGR : Hid (∀ N, OpR (atL (putL L X.toList)) (putL L X.toList).length N → ∀ x, x ∈ M → x ∈ N) := fun N hN => opened_grows HMM.out.2 HKP.out hN
    obtain ⟨P, hP⟩ : ∃ P, P = putL L X.toList := ⟨_, rfl⟩
    rw [← hP] at HOP HKP HZP HPI HGR ⊢
    obtain ⟨pm, hpm⟩ : ∃ pm, pm = P.length := ⟨_, rfl⟩
    have HPM : Hid (pm = P.length) := hpm
    have HSP : Hid (∀ v, Below w3.heap.size w3 v → IsStrs v (some ⟨g1, 0, none⟩) pm c1 (atL P)) := fun v hv => by rw [HPM.out]; exact (HOP.out.below hv).strs
    rw [← hpm] at HZP HGR ⊢
    clear hoP hP hpm
    go_wp2_with fail
    refine (implOpened_any _ _ _ _ w10 (HSP.out w10 HB10.out.2.2.2) HZP.out (HP.out.below HB10.out.2.1)).mono ?_
    rintro e w20 ⟨v20, N, rfl, hoN, hNR, hB20⟩
    have HB20 : Hid (Below w1.heap.size w1 w20 ∧ Below w.heap.size w w20 ∧ Below w2.heap.size w2 w20 ∧ Below w3.heap.size w3 w20) := ⟨HB10.out.1.trans (hB20.mono HB10.out.1.size), HB10.out.2.1.trans (hB20.mono HB10.out.2.1.size), HB10.out.2.2.1.trans (hB20.mono HB10.out.2.2.1.size), HB10.out.2.2.2.trans (hB20.mono HB10.out.2.2.2.size)⟩
    obtain ⟨na, nc, rfl, hIN, _⟩ := hoN.strs2
    obtain ⟨nk, hnk⟩ : ∃ nk, nk = N.length := ⟨_, rfl⟩
    have HNK : Hid (nk = N.length) := hnk
    rw [← hnk] at hIN ⊢
    have HIN : Hid (IsStrs w20 na nk nc (atL N)) := hIN
    have HNM : Hid (∀ x, x ∈ M → x ∈ N) := HGR.out N hNR
    clear hoN hNR hB20 hIN hnk
    go_wp2_with fail
    refine (within_yes ma na k mc nk nc (atL M) (atL N) w20 (HI.out.below HB20.out.2.2.1) HIN.out (fun i hi => by rw [HNK.out]; exact in_outB (HNM.out _ (atL_mem (by rw [← HKM.out]; exact hi))))).mono ?_
    rintro e w21 ⟨rfl, hB21⟩
    have HB21 : Hid (Below w1.heap.size w1 w21 ∧ Below w.heap.size w w21 ∧ Below w2.heap.size w2 w21 ∧ Below w3.heap.size w3 w21) := ⟨HB20.out.1.trans (hB21.mono HB20.out.1.size), HB20.out.2.1.trans (hB21.mono HB20.out.2.1.size), HB20.out.2.2.1.trans (hB21.mono HB20.out.2.2.1.size), HB20.out.2.2.2.trans (hB21.mono HB20.out.2.2.2.size)⟩
    clear hB21
    have HHX : Hid (Calls Tryz.prog 15 #[.slice (some ⟨g1, 0, none⟩) pm c1, .string X] w21 fun e w' => e = .returned (.bool true) ∧ w' = w21) := by
      have h1 := lawHasO_any _ _ _ _ X w21 (HSP.out w21 HB21.out.2.2.2)
      rw [HPM.out, in_outB HPI.out.1] at h1
      rw [HPM.out]
      exact h1
    go_wp2_with fail
    refine HHX.out.mono ?_
    rintro e w22 ⟨rfl, hw22⟩
    rw [hw22]
    clear hw22 w22
    go_wp2_with fail
    refine (within_yes _ _ m c pm c1 (atL L) (atL P) w21 (HLs.out w21 HB21.out.1) (HSP.out w21 HB21.out.2.2.2) (fun i hi => by rw [HPM.out]; exact in_outB (HPI.out.2 _ (atL_mem (by rw [← HM.out]; exact hi))))).mono ?_
    rintro e w23 ⟨rfl, hB23⟩
    have HB23 : Hid (Below w1.heap.size w1 w23 ∧ Below w.heap.size w w23 ∧ Below w2.heap.size w2 w23 ∧ Below w3.heap.size w3 w23) := ⟨HB21.out.1.trans (hB23.mono HB21.out.1.size), HB21.out.2.1.trans (hB23.mono HB21.out.2.1.size), HB21.out.2.2.1.trans (hB23.mono HB21.out.2.2.1.size), HB21.out.2.2.2.trans (hB23.mono HB21.out.2.2.2.size)⟩
    clear hB23
    go_wp2
    go_ret
    exact ⟨rfl, HB23.out.2.1⟩
  · have hkI : ¬ (k : Int) ≤ 30 := by omega
    cases fb with
    | false =>
      go_wp2
      go_ret
      exact ⟨rfl, HB8.out.2.1⟩
    | true =>
    obtain ⟨g1, c1, rfl, hoP⟩ := HX3.out rfl
    have HOP : Hid (OwnS w3 w2.heap.size g1 c1 (putL L X.toList)) := hoP
    have HKP : Hid (knownB (atL (putL L X.toList)) (putL L X.toList).length = true) := (lr_true HFB.out.symm).2
    have HZP : Hid (∀ i, i < (putL L X.toList).length → (atL (putL L X.toList) i).size ≤ 1048576) := put_small HL.out.2.sizes HXS.out
    have HPI : Hid (X.toList ∈ putL L X.toList ∧ ∀ x, x ∈ L → x ∈ putL L X.toList) := ⟨(putL_mem _ _ _).2 (.inr rfl), fun x hx => (putL_mem _ _ _).2 (.inl hx)⟩
    have HGR : Hid (∀ N, OpR (atL (putL L X.toList)) (putL L X.toList).length N → ∀ x, x ∈ M → x ∈ N) := fun N hN => opened_grows HMM.out.2 HKP.out hN
    obtain ⟨P, hP⟩ : ∃ P, P = putL L X.toList := ⟨_, rfl⟩
    rw [← hP] at HOP HKP HZP HPI HGR ⊢
    obtain ⟨pm, hpm⟩ : ∃ pm, pm = P.length := ⟨_, rfl⟩
    have HPM : Hid (pm = P.length) := hpm
    have HSP : Hid (∀ v, Below w3.heap.size w3 v → IsStrs v (some ⟨g1, 0, none⟩) pm c1 (atL P)) := fun v hv => by rw [HPM.out]; exact (HOP.out.below hv).strs
    rw [← hpm] at HZP HGR ⊢
    clear hoP hP hpm
    go_wp2_with fail
    refine (implOpened_any _ _ _ _ w8 (HSP.out w8 HB8.out.2.2.2) HZP.out (HP.out.below HB8.out.2.1)).mono ?_
    rintro e w20 ⟨v20, N, rfl, hoN, hNR, hB20⟩
    have HB20 : Hid (Below w1.heap.size w1 w20 ∧ Below w.heap.size w w20 ∧ Below w2.heap.size w2 w20 ∧ Below w3.heap.size w3 w20) := ⟨HB8.out.1.trans (hB20.mono HB8.out.1.size), HB8.out.2.1.trans (hB20.mono HB8.out.2.1.size), HB8.out.2.2.1.trans (hB20.mono HB8.out.2.2.1.size), HB8.out.2.2.2.trans (hB20.mono HB8.out.2.2.2.size)⟩
    obtain ⟨na, nc, rfl, hIN, _⟩ := hoN.strs2
    obtain ⟨nk, hnk⟩ : ∃ nk, nk = N.length := ⟨_, rfl⟩
    have HNK : Hid (nk = N.length) := hnk
    rw [← hnk] at hIN ⊢
    have HIN : Hid (IsStrs w20 na nk nc (atL N)) := hIN
    have HNM : Hid (∀ x, x ∈ M → x ∈ N) := HGR.out N hNR
    clear hoN hNR hB20 hIN hnk
    go_wp2_with fail
    refine (within_yes ma na k mc nk nc (atL M) (atL N) w20 (HI.out.below HB20.out.2.2.1) HIN.out (fun i hi => by rw [HNK.out]; exact in_outB (HNM.out _ (atL_mem (by rw [← HKM.out]; exact hi))))).mono ?_
    rintro e w21 ⟨rfl, hB21⟩
    have HB21 : Hid (Below w1.heap.size w1 w21 ∧ Below w.heap.size w w21 ∧ Below w2.heap.size w2 w21 ∧ Below w3.heap.size w3 w21) := ⟨HB20.out.1.trans (hB21.mono HB20.out.1.size), HB20.out.2.1.trans (hB21.mono HB20.out.2.1.size), HB20.out.2.2.1.trans (hB21.mono HB20.out.2.2.1.size), HB20.out.2.2.2.trans (hB21.mono HB20.out.2.2.2.size)⟩
    clear hB21
    have HHX : Hid (Calls Tryz.prog 15 #[.slice (some ⟨g1, 0, none⟩) pm c1, .string X] w21 fun e w' => e = .returned (.bool true) ∧ w' = w21) := by
      have h1 := lawHasO_any _ _ _ _ X w21 (HSP.out w21 HB21.out.2.2.2)
      rw [HPM.out, in_outB HPI.out.1] at h1
      rw [HPM.out]
      exact h1
    go_wp2_with fail
    refine HHX.out.mono ?_
    rintro e w22 ⟨rfl, hw22⟩
    rw [hw22]
    clear hw22 w22
    go_wp2_with fail
    refine (within_yes _ _ m c pm c1 (atL L) (atL P) w21 (HLs.out w21 HB21.out.1) (HSP.out w21 HB21.out.2.2.2) (fun i hi => by rw [HPM.out]; exact in_outB (HPI.out.2 _ (atL_mem (by rw [← HM.out]; exact hi))))).mono ?_
    rintro e w23 ⟨rfl, hB23⟩
    have HB23 : Hid (Below w1.heap.size w1 w23 ∧ Below w.heap.size w w23 ∧ Below w2.heap.size w2 w23 ∧ Below w3.heap.size w3 w23) := ⟨HB21.out.1.trans (hB23.mono HB21.out.1.size), HB21.out.2.1.trans (hB23.mono HB21.out.2.1.size), HB21.out.2.2.1.trans (hB23.mono HB21.out.2.2.1.size), HB21.out.2.2.2.trans (hB23.mono HB21.out.2.2.2.size)⟩
    clear hB23
    go_wp2
    go_ret
    exact ⟨rfl, HB23.out.2.1⟩
end Go.Proofs.YtpcbhjejpebogaaGreatDoor
