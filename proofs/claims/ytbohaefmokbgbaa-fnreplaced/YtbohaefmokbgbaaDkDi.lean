/-
  Do: the program's half. Conditions: the lists read, and are not huge; the list of ops is not nil.
-/
import Derived.Test.YtbohaefmokbgbaaDkDs
import Derived.Test.YtbohaefmokbgbaaRegM
namespace Go.Proofs.Ytbohaefmokbgbaa
open Go.RowKit
set_option linter.unusedVariables false
theorem q_moveD (ev : Operand → Value) (o : Oper) (w : World) (x : Operand) (h : o.op = .move x) : (execOp ev o).run Try.prog w = .ok (.value (ev x)) w := by simp [execOp, h]
theorem q_assignC (ev : Operand → Value) (o : Oper) (w : World) (x : Operand) (h : o.op = .assign x) : (execOp ev o).run Try.prog w = .ok (.value (ev x)) w := by simp [execOp, h]
theorem q_loadOp (ev : Operand → Value) (o' : Oper) (w : World) (x : Operand) (p : Nat) (o : Dop) (h : o'.op = .load 49 x) (hx : ev x = .pointer (some ⟨p, 0, none⟩)) (hb : w.heap[p]? = some (.cells #[.int .i64 o.k, .string o.n, .string o.t, .string o.d] 49 (0, 0))) : (execOp ev o').run Try.prog w = .ok (.value (.agg #[.int .i64 o.k, .string o.n, .string o.t, .string o.d])) w := by
  have e0 : w.cell? ⟨p, 0, none⟩ = some (.int .i64 o.k) := cellN hb
  have e1 : w.cell? ⟨p, 1, none⟩ = some (.string o.n) := cellN hb
  have e2 : w.cell? ⟨p, 2, none⟩ = some (.string o.t) := cellN hb
  have e3 : w.cell? ⟨p, 3, none⟩ = some (.string o.d) := cellN hb
  simp [execOp, h, hx]
  go_simp
theorem q_lit1O (ev : Operand → Value) (o' : Oper) (w : World) (x : Operand) (o : Dop) (h : o'.op = .buildSlice 25 1 #[(0, x)]) (hx : ev x = .agg #[.int .i64 o.k, .string o.n, .string o.t, .string o.d]) : (execOp ev o').run Try.prog w = .ok (.value (.slice (some ⟨w.heap.size, 0, none⟩) 1 1)) (w.alloc (.cells #[.int .i64 o.k, .string o.n, .string o.t, .string o.d] 49)) := by
  simp [execOp, h, hx]
  go_simp
theorem q_lit2O (ev : Operand → Value) (o' : Oper) (w : World) (x y : Operand) {a b : Option Addr} {i j k l : Nat} (h : o'.op = .buildSlice 128 2 #[(0, x), (1, y)]) (hx : ev x = .slice a i j) (hy : ev y = .slice b k l) : (execOp ev o').run Try.prog w = .ok (.value (.slice (some ⟨w.heap.size, 0, none⟩) 2 2)) (w.alloc (.cells #[.slice a i j, .slice b k l] 25)) := by
  simp [execOp, h, hx, hy]
  go_simp
theorem RdO.news {w : World} {ad : Addr} {c : Nat} {O : List Dop} (h : RdO w (.slice (some ad) O.length c) O) : ∀ j u, (cellsO O)[j]? = some u → w.cell? (ad.add j) = some u := fun j u hu => by
  obtain ⟨a, cap, e, h1, h2, h3⟩ := h
  have hj : j < O.length * 4 := by rw [← cellsO_len]; exact (List.getElem?_eq_some_iff.1 hu).1
  obtain ⟨b, off, e2, hb, hl⟩ := h3 (by omega)
  simp only [Value.slice.injEq] at e
  rw [← e.1] at e2
  obtain rfl := Option.some.inj e2
  exact newsO hl j u hu
theorem one_news {w : World} {g : Nat} {o : Dop} (h : w.heap[g]? = some (.cells #[.int .i64 o.k, .string o.n, .string o.t, .string o.d] 49 (0, 0))) : ∀ j u, (cellsO [o])[j]? = some u → w.cell? ((⟨g, 0, none⟩ : Addr).add j) = some u := by
  have e : cellsO [o] = [.int .i64 o.k, .string o.n, .string o.t, .string o.d] := by unfold cellsO encO; simp
  rw [e]
  exact World.news_of_block h
def dsG : List Nat := [42, 43, 44, 45, 46, 47, 48, 49, 50, 51, 52, 53]
def slotG (j : Nat) : Nat := dsG.getD j 0
theorem slotG_inj (i j : Nat) (hi : i < 12) (hj : j < 12) (q : slotG i = slotG j) : i = j := by
  have h : ∀ i : Fin 12, ∀ j : Fin 12, slotG i.val = slotG j.val → i.val = j.val := by decide
  exact h ⟨i, hi⟩ ⟨j, hj⟩ q
theorem slotG_mem (i : Nat) (hi : i < 12) : slotG i ∈ dsG := by
  have h : ∀ i : Fin 12, slotG i.val ∈ dsG := by decide
  exact h ⟨i, hi⟩
def GF (B base Bm : Nat) (vS : Value) (adO : Addr) (cO : Nat) (M S : List Fl) (O : List Dop) (o : Dop) : Nat → (Nat → Value) → World → Prop
  | 0, f, w => f 42 = .map (some Bm)
  | 1, f, w => HoldF w base (f 43) M
  | 2, f, w => f 44 = .pointer (some ⟨B, 1, none⟩)
  | 3, f, w => f 45 = vS
  | 4, f, w => HoldF w base (f 46) S ∧ (∀ k, (f 43).ownBlock = some k → (f 46).ownBlock ≠ some k)
  | 5, f, w => f 47 = .pointer (some ⟨B, 2, none⟩)
  | 6, f, w => f 48 = .slice (some adO) O.length cO
  | 7, f, w => f 49 = .agg #[.int .i64 o.k, .string o.n, .string o.t, .string o.d]
  | 8, f, w => ∃ g, f 50 = .slice (some ⟨g, 0, none⟩) 1 1 ∧ base ≤ g ∧ w.heap[g]? = some (.cells #[.int .i64 o.k, .string o.n, .string o.t, .string o.d] 49 (0, 0))
  | 9, f, w => ∃ g2 g, f 51 = .slice (some ⟨g2, 0, none⟩) 2 2 ∧ w.heap[g2]? = some (.cells #[.slice (some adO) O.length cO, .slice (some ⟨g, 0, none⟩) 1 1] 25 (0, 0)) ∧ w.heap[g]? = some (.cells #[.int .i64 o.k, .string o.n, .string o.t, .string o.d] 49 (0, 0))
  | 10, f, w => HoldO w base (f 52) (O ++ [o])
  | 11, f, w => f 53 = .agg #[f 43, f 46, f 52]
  | _, _, _ => True
theorem GF.below {B base Bm : Nat} {vS : Value} {adO : Addr} {cO : Nat} {M S : List Fl} {O : List Dop} {o : Dop} {j : Nat} {f : Nat → Value} {w w' : World} (h : GF B base Bm vS adO cO M S O o j f w) (hB : Below w.heap.size w w') : GF B base Bm vS adO cO M S O o j f w' := by
  match j, h with
  | 0, h => exact h
  | 1, h => exact HoldF.below (h) hB
  | 2, h => exact h
  | 3, h => exact h
  | 4, h => exact ⟨HoldF.below (h.1) hB, h.2⟩
  | 5, h => exact h
  | 6, h => exact h
  | 7, h => exact h
  | 8, h => exact (by obtain ⟨g, e, hb, hh⟩ := h; exact ⟨g, e, hb, (hB.block _ (lt_of_block hh)).trans hh⟩)
  | 9, h => exact (by obtain ⟨g2, g, e, h1, h2⟩ := h; exact ⟨g2, g, e, (hB.block _ (lt_of_block h1)).trans h1, (hB.block _ (lt_of_block h2)).trans h2⟩)
  | 10, h => exact HoldO.below (h) hB
  | 11, h => exact h
  | (m + 12), _ => exact trivial
def depG (j i : Nat) : Bool := match j with
  | 0 => i == 0
  | 1 => i == 1
  | 2 => i == 2
  | 3 => i == 3
  | 4 => i == 4 || i == 1
  | 5 => i == 5
  | 6 => i == 6
  | 7 => i == 7
  | 8 => i == 8
  | 9 => i == 9
  | 10 => i == 10
  | 11 => i == 11 || i == 1 || i == 4 || i == 10
  | _ => false
theorem GF.dep {B base Bm : Nat} {vS : Value} {adO : Addr} {cO : Nat} {M S : List Fl} {O : List Dop} {o : Dop} {j : Nat} {f f' : Nat → Value} {w : World} (hj : j < 12) (h : GF B base Bm vS adO cO M S O o j f w) (he : ∀ i, depG j i = true → f (slotG i) = f' (slotG i)) : GF B base Bm vS adO cO M S O o j f' w := by
  match j, hj, h, he with
  | 0, _, h, he =>
    have e0 : f 42 = f' 42 := he 0 rfl
    simp only [GF] at h ⊢
    rw [← e0]
    exact h
  | 1, _, h, he =>
    have e1 : f 43 = f' 43 := he 1 rfl
    simp only [GF] at h ⊢
    rw [← e1]
    exact h
  | 2, _, h, he =>
    have e2 : f 44 = f' 44 := he 2 rfl
    simp only [GF] at h ⊢
    rw [← e2]
    exact h
  | 3, _, h, he =>
    have e3 : f 45 = f' 45 := he 3 rfl
    simp only [GF] at h ⊢
    rw [← e3]
    exact h
  | 4, _, h, he =>
    have e4 : f 46 = f' 46 := he 4 rfl
    have e1 : f 43 = f' 43 := he 1 rfl
    simp only [GF] at h ⊢
    rw [← e4, ← e1]
    exact h
  | 5, _, h, he =>
    have e5 : f 47 = f' 47 := he 5 rfl
    simp only [GF] at h ⊢
    rw [← e5]
    exact h
  | 6, _, h, he =>
    have e6 : f 48 = f' 48 := he 6 rfl
    simp only [GF] at h ⊢
    rw [← e6]
    exact h
  | 7, _, h, he =>
    have e7 : f 49 = f' 49 := he 7 rfl
    simp only [GF] at h ⊢
    rw [← e7]
    exact h
  | 8, _, h, he =>
    have e8 : f 50 = f' 50 := he 8 rfl
    simp only [GF] at h ⊢
    rw [← e8]
    exact h
  | 9, _, h, he =>
    have e9 : f 51 = f' 51 := he 9 rfl
    simp only [GF] at h ⊢
    rw [← e9]
    exact h
  | 10, _, h, he =>
    have e10 : f 52 = f' 52 := he 10 rfl
    simp only [GF] at h ⊢
    rw [← e10]
    exact h
  | 11, _, h, he =>
    have e11 : f 53 = f' 53 := he 11 rfl
    have e1 : f 43 = f' 43 := he 1 rfl
    have e4 : f 46 = f' 46 := he 4 rfl
    have e10 : f 52 = f' 52 := he 10 rfl
    simp only [GF] at h ⊢
    rw [← e11, ← e1, ← e4, ← e10]
    exact h
  | (m + 12), hj, _, _ => exact absurd hj (by omega)

set_option maxRecDepth 10000 in
set_option maxHeartbeats 8000000 in
theorem implAct_any (vL vS vO : Value) (L S : List Fl) (O : List Dop) (o : Dop) (w : World) (h : RdD w vL vS vO L S O) (hso : ∃ ad c, vO = .slice (some ad) O.length c) (hz : SmallD L S O) (hn : L.length ≤ 1048576 ∧ S.length ≤ 1048576 ∧ O.length ≤ 1048576) (ho : o.n.size ≤ 100000000 ∧ o.t.size ≤ 100000000 ∧ o.d.size ≤ 100000000) :
    Calls Try.prog 18 #[.agg #[vL, vS, vO], .agg (encO o)] w fun e w' => ∃ x y z, e = .returned (.tuple #[.agg #[x, y, z], .int .i64 (dC L S O o : Int)]) ∧ RdD w' x y z (dL L S O o) (dS L S O) (dO L S O o) ∧ OwD w' w.heap.size x y z (dL L S O o).length (dS L S O).length (dO L S O o).length ∧ Below w.heap.size w w' := by
  have HN : Hid (L.length ≤ 1048576 ∧ S.length ≤ 1048576 ∧ O.length ≤ 1048576) := hn
  have HZ : Hid (SmallD L S O) := hz
  have HOZ : Hid (o.n.size ≤ 100000000 ∧ o.t.size ≤ 100000000 ∧ o.d.size ≤ 100000000) := ho
  have HA : Hid (∀ w', Below w.heap.size w w' → RdD w' vL vS vO L S O) := fun w' hB => h.below hB
  obtain ⟨aL, cL, rfl⟩ := h.1.slice
  obtain ⟨aS, cS, rfl⟩ := h.2.1.slice
  obtain ⟨adO, cO, rfl⟩ := hso
  obtain ⟨aO, haO⟩ : ∃ aO, aO = some adO := ⟨_, rfl⟩
  have HAO : Hid (aO = some adO) := haO
  rw [← haO] at HA ⊢
  clear h hz hn ho haO
  change Calls _ _ #[.agg #[.slice aL L.length cL, .slice aS S.length cS, .slice aO O.length cO], .agg #[.int .i64 o.k, .string o.n, .string o.t, .string o.d]] w _
  obtain ⟨X, hX⟩ : ∃ X, X = ((w.alloc (.cells #[.slice aL L.length cL, .slice aS S.length cS, .slice aO O.length cO] 27)).alloc (.cells #[.int .i64 o.k, .string o.n, .string o.t, .string o.d] 49)).alloc (.cells #[.slice none 0 0, .slice none 0 0, .slice none 0 0] 27) := ⟨_, rfl⟩
  have hBX : Below w.heap.size w X := by rw [hX]; exact (((Below.refl _ _).alloc (Nat.le_refl _) _).alloc (by simp) _).alloc (by simp; omega) _
  have gX : X.heap[w.heap.size]? = some (.cells #[.slice aL L.length cL, .slice aS S.length cS, .slice aO O.length cO] 27 (0, 0)) := by rw [hX, Below.heap_alloc _ _ _ (by simp; omega), Below.heap_alloc _ _ _ (by simp)]; exact heap_alloc_new _ _
  have gO : X.heap[w.heap.size + 1]? = some (.cells #[.int .i64 o.k, .string o.n, .string o.t, .string o.d] 49 (0, 0)) := by
    rw [hX, Below.heap_alloc _ _ _ (by simp)]
    have := heap_alloc_new (w.alloc (.cells #[.slice aL L.length cL, .slice aS S.length cS, .slice aO O.length cO] 27)) (.cells #[.int .i64 o.k, .string o.n, .string o.t, .string o.d] 49)
    simpa using this
  have gR : X.heap[w.heap.size + 1 + 1]? = some (.cells #[.slice none 0 0, .slice none 0 0, .slice none 0 0] 27 (0, 0)) := by
    rw [hX]
    have := heap_alloc_new ((w.alloc (.cells #[.slice aL L.length cL, .slice aS S.length cS, .slice aO O.length cO] 27)).alloc (.cells #[.int .i64 o.k, .string o.n, .string o.t, .string o.d] 49)) (.cells #[.slice none 0 0, .slice none 0 0, .slice none 0 0] 27)
    simpa using this
  have HX := (show Hid _ from hX)
  have HBX : Hid (Below w.heap.size w X) := hBX
  have HG : Hid (∀ w', Below X.heap.size X w' → At3 w' w.heap.size 27 (.slice aL L.length cL) (.slice aS S.length cS) (.slice aO O.length cO) ∧ w'.heap[w.heap.size + 1]? = some (.cells #[.int .i64 o.k, .string o.n, .string o.t, .string o.d] 49 (0, 0)) ∧ At3 w' (w.heap.size + 1 + 1) 27 (.slice none 0 0) (.slice none 0 0) (.slice none 0 0) ∧ Below w.heap.size w w') := fun w' hB => ⟨(hB.block _ (lt_of_block gX)).trans gX, (hB.block _ (lt_of_block gO)).trans gO, (hB.block _ (lt_of_block gR)).trans gR, hBX.trans (hB.mono hBX.size)⟩
  have k0 : X.cell? ⟨w.heap.size + 1, 0, none⟩ = some (.int .i64 o.k) := cellN gO
  have k1 : X.cell? ⟨w.heap.size + 1, 1, none⟩ = some (.string o.n) := cellN gO
  have k2 : X.cell? ⟨w.heap.size + 1, 2, none⟩ = some (.string o.t) := cellN gO
  have k3 : X.cell? ⟨w.heap.size + 1, 3, none⟩ = some (.string o.d) := cellN gO
  rw [hX] at k0 k1 k2 k3
  have c0 : X.cell? ⟨w.heap.size, 0, none⟩ = some (.slice aL L.length cL) := cellN gX
  have c1 : X.cell? ⟨w.heap.size, 1, none⟩ = some (.slice aS S.length cS) := cellN gX
  have c2 : X.cell? ⟨w.heap.size, 2, none⟩ = some (.slice aO O.length cO) := cellN gX
  rw [hX] at c0 c1 c2
  clear hX hBX gX gO gR
  have en1 : ∀ args w, (callFunc 44 args).run Try.prog w = .ok (.enter 44 args) w := enters_of Try.func44 (by kernel_rfl) rfl
  have HEN1 := (show Hid _ from en1)
  have en2 : ∀ args w, (callFunc 32 args).run Try.prog w = .ok (.enter 32 args) w := enters_of Try.func32 (by kernel_rfl) rfl
  have HEN2 := (show Hid _ from en2)
  have en3 : ∀ args w, (callFunc 49 args).run Try.prog w = .ok (.enter 49 args) w := enters_of Try.func49 (by kernel_rfl) rfl
  have HEN3 := (show Hid _ from en3)
  clear en1 en2 en3
  go_enter Try.func18, Try.ntmps18
  go_wp2_with fail
  rw [← HX.out]
  have hAX := HA.out X HBX.out
  refine (implDisk_any _ _ _ L S O X hAX.1 hAX.2.1 hAX.2.2 HZ.out).mono ?_
  rintro e w1 ⟨rfl, hB1⟩
  have HB1 : Hid (Below X.heap.size X w1) := hB1
  clear k0 k1 k2 k3 c0 c1 c2 HX hB1 hAX
  have hg1 := HG.out w1 HB1.out
  cases hd : diskB L S O with
  | false =>
    have HD := (show Hid _ from d_no o hd)
    have HR3 : Hid (At3 w1 (w.heap.size + 1 + 1) 27 (.slice none 0 0) (.slice none 0 0) (.slice none 0 0)) := hg1.2.2.1
    obtain ⟨q, hq, hi6, ho6, h16⟩ := row3 none none none 0 0 0 0 0 0
    clear hg1 hd
    go_wp2_with (refine wpList_store_row rfl 27 _ _ rfl (w.heap.size + 1 + 1) q rfl (congrArg Value.agg hq.symm) 27 _ HR3.out hi6 ho6 h16 ?_)
    subst hq
    refine bodyPost_ret (v := .tuple #[.agg #[.slice none 0 0, .slice none 0 0, .slice none 0 0], _]) (results_row_tmp rfl _ _ (w.heap.size + 1 + 1) 27 _ _ _ rfl (setRow_heap _ _ _ _ _ _ HR3.out) Try.underlying27 rfl hi6) rfl ⟨_, _, _, ret_val (by rw [HD.out.1]; rfl), ?_, ?_, ?_⟩
    · rw [HD.out.2.1, HD.out.2.2.1, HD.out.2.2.2]
      exact ⟨(HoldF.nil _ 0).1, (HoldF.nil _ 0).1, (HoldO.nil _ 0).1⟩
    · rw [HD.out.2.1, HD.out.2.2.1, HD.out.2.2.2]
      exact ⟨OwA2.nil _ _, OwA2.nil _ _, OwA4.nil _ _, fun b hb => by cases hb⟩
    · exact below_setRow (HG.out w1 HB1.out).2.2.2 (by omega) _
  | true =>
    have HD := (show Hid _ from d_yes o hd)
    have hfl := (disk_live hd).1
    have HUS : Hid (UpF L ∧ L.length ≤ 60 ∧ (∀ f ∈ L, f.n.size ≤ 1000000000 ∧ f.d.size ≤ 1000000000) ∧ O.length ≤ 200) := ⟨filesB_up hfl, (filesB_parts hfl).1, fun f hf => ⟨by have := (filesB_parts hfl).2.2 f hf; omega, by have := tot_mem hf; have := (filesB_parts hfl).2.1; omega⟩, (disk_live hd).2.2⟩
    have hsm := doF_small (K := L) (o := o) (z := 100000000) HZ.out.l2 HOZ.out.1 HOZ.out.2.1
    have hln := doF_len L o
    have HSM : Hid (tot (doF L o).1 ≤ 1000000000 ∧ (doF L o).1.length ≤ 1000000 ∧ ∀ f ∈ (doF L o).1, f.n.size ≤ 1000000000 ∧ f.d.size ≤ 1000000000) := ⟨by have := hsm.2; have := (filesB_parts hfl).2.1; have := HOZ.out.2.2; omega, by have := HUS.out.2.1; omega, fun f hf => ⟨by have := hsm.1 f hf; omega, by have := tot_mem hf; have := hsm.2; have := (filesB_parts hfl).2.1; have := HOZ.out.2.2; omega⟩⟩
    have HNW : Hid (∀ f ∈ L, nmB f.n = true) := filesB_names hfl
    have HFD : Hid (∀ f ∈ L, f.d.size ≤ 200000) := fun f hf => by have := tot_mem hf; have := (filesB_parts hfl).2.1; omega
    have k0 : w1.cell? ⟨w.heap.size + 1, 0, none⟩ = some (.int .i64 o.k) := cellN hg1.2.1
    have k1 : w1.cell? ⟨w.heap.size + 1, 1, none⟩ = some (.string o.n) := cellN hg1.2.1
    have k2 : w1.cell? ⟨w.heap.size + 1, 2, none⟩ = some (.string o.t) := cellN hg1.2.1
    have k3 : w1.cell? ⟨w.heap.size + 1, 3, none⟩ = some (.string o.d) := cellN hg1.2.1
    clear hg1 hd hfl hsm hln
    go_wp2_with fail
    refine (changeOf_any o w1 (by have := HOZ.out.1; omega) (by have := HOZ.out.2.1; omega)).mono ?_
    rintro e w2 ⟨ch, rfl, hch, hB2⟩
    have HB2 : Hid (Below X.heap.size X w2) := HB1.out.trans (hB2.mono HB1.out.size)
    clear hB2 k0 k1 k2 k3
    have hg2 := HG.out w2 HB2.out
    have c0 := hg2.1.c0
    have c1 := hg2.1.c1
    have c2 := hg2.1.c2
    clear hg2
    cases hfo : formB o with
    | false =>
      have HC : Hid (actC L O o = 2) := by show _ = _; unfold actC; rw [if_pos hfo]
      clear hch hfo
      go_wp2_with fail
      refine (implCopy_any _ _ _ L S O w2 (HA.out w2 (HG.out w2 HB2.out).2.2.2) HN.out).mono ?_
      rintro e wc ⟨x, y, z, rfl, hr, hh, hBc⟩
      obtain ⟨b1, d1, b2, d2, b3, d3, ex, ey, ez⟩ := hr.slices
      subst ex ey ez
      have HBc : Hid (Below X.heap.size X wc) := HB2.out.trans (hBc.mono HB2.out.size)
      have HHc : Hid _ := hh
      have HR3 : Hid (At3 wc (w.heap.size + 1 + 1) 27 (.slice none 0 0) (.slice none 0 0) (.slice none 0 0)) := (HG.out wc HBc.out).2.2.1
      have HLT : Hid (w.heap.size + 1 + 1 < w2.heap.size) := (HG.out w2 HB2.out).2.2.1.lt
      obtain ⟨q, hq⟩ : ∃ q, q = #[Value.slice b1 L.length d1, .slice b2 S.length d2, .slice b3 O.length d3] := ⟨_, rfl⟩
      have hi6 : (Try.prog.info? 27).map (·.size) = some q.size := by rw [hq]; exact infoDk
      have ho6 : (#[Value.slice none 0 0, .slice none 0 0, .slice none 0 0] : Array Value).size = q.size := by rw [hq]; rfl
      have h16 : q.all (·.oneCell') = true := by rw [hq]; simp [Value.oneCell']
      have HRc : Hid (RdD wc (.slice b1 L.length d1) (.slice b2 S.length d2) (.slice b3 O.length d3) L S O) := hr
      clear hr hh hBc
      go_wp2_with (refine wpList_store_row rfl 27 _ _ rfl (w.heap.size + 1 + 1) q rfl (congrArg Value.agg hq.symm) 27 _ HR3.out hi6 ho6 h16 ?_)
      subst hq
      have hkz : ∀ k, w2.heap.size ≤ k → k < wc.heap.size → (wc.setRow (w.heap.size + 1 + 1) #[Value.slice b1 L.length d1, .slice b2 S.length d2, .slice b3 O.length d3]).heap[k]? = wc.heap[k]? := fun k h1 h2 => setRow_other _ _ _ _ (by have := HLT.out; omega)
      have hszz : wc.heap.size ≤ (wc.setRow (w.heap.size + 1 + 1) #[Value.slice b1 L.length d1, .slice b2 S.length d2, .slice b3 O.length d3]).heap.size := by simp [World.setRow]
      refine bodyPost_ret (v := .tuple #[.agg #[Value.slice b1 L.length d1, .slice b2 S.length d2, .slice b3 O.length d3], _]) (results_row_tmp rfl _ _ (w.heap.size + 1 + 1) 27 _ _ _ rfl (setRow_heap _ _ _ _ _ _ HR3.out) Try.underlying27 rfl hi6) rfl ⟨_, _, _, ret_val (by rw [HD.out.1, HC.out]; rfl), ?_, ?_, ?_⟩
      · rw [HD.out.2.1, HD.out.2.2.1, HD.out.2.2.2, (act_no HC.out (by decide)).1, (act_no HC.out (by decide)).2]
        exact RdD.own HRc.out HHc.out hszz hkz
      · rw [HD.out.2.1, HD.out.2.2.1, HD.out.2.2.2, (act_no HC.out (by decide)).1, (act_no HC.out (by decide)).2]
        exact (HHc.out.kept hkz).base (by have := HLT.out; omega)
      · exact below_setRow (HG.out wc HBc.out).2.2.2 (by omega) _
    | true =>
      have hcv := hch hfo
      subst hcv
      have HFO : Hid (formB o = true) := hfo
      have hkk := form_kind hfo
      clear hch hfo
      have HFB : Hid (filesB (doF L o).1 = (decide ((doF L o).1.length ≤ 60) && decide (tot (doF L o).1 ≤ 200000))) := filesB_of (doF_up HUS.out.1 o) (doF_names HNW.out HFO.out)
      go_wp2_with fail
      refine (shelfOf_any _ L w2 (HA.out w2 (HG.out w2 HB2.out).2.2.2).1 HUS.out.1 (by have := HUS.out.2.1; omega) HUS.out.2.2.1).mono ?_
      rintro e w3 ⟨B, D0, p0, rfl, hS3, hB3⟩
      have HS3 : Hid (Sh w3 w2.heap.size B (2 * L.length) L D0 p0 ∧ Below w2.heap.size w2 w3) := ⟨hS3, hB3⟩
      clear hS3 hB3 c0 c1 c2
      rcases hkk with hk | hk | hk
      · rw [chV_app hk]
        have hm := mApp o.n o.d
        have HK : Hid (o.k = 1) := hk
        clear hk
        go_wp2_with fail
        refine (app_any o.n o.d w2.heap.size B (2 * L.length) L D0 p0 w3 HS3.out.1 HS3.out.2.size (by have := HUS.out.2.1; omega) (by have := HOZ.out.1; omega) (by have := HOZ.out.2.2; omega) (fun x hx => by
          obtain ⟨f, hf, hfx⟩ := getF_mem hx
          have := HFD.out f hf
          rw [← hfx]
          omega)).mono ?_
        rintro e w6 ⟨rfl, D', p', hS6, hB6⟩
        have HE : Hid (Sh w6 w2.heap.size B (2 * L.length + 2) (doF L o).1 D' p' ∧ Below w2.heap.size w2 w6 ∧ (doF L o).2 = true) := by
          have e : (doF L o).1 = putR L o.n (match getF L o.n with | some x => x ++ o.d | none => o.d) := by
            unfold doF
            rw [if_pos HK.out]
            exact putF_eq HS3.out.1.up _ _
          refine ⟨by rw [e]; exact hS6, HS3.out.2.trans hB6, ?_⟩
          unfold doF
          rw [if_pos HK.out]
        clear hS6 hB6 hm
        have HB6 : Hid (Below X.heap.size X w6) := HB2.out.trans (HE.out.2.1.mono HB2.out.size)
        have hg6 := HG.out w6 HB6.out
        have c0 := hg6.1.c0
        have c1 := hg6.1.c1
        have c2 := hg6.1.c2
        clear hg6
        by_cases h200 : O.length = 200
        · have h200b : ((O.length : Int) == 200) = true := by simp; omega
          have HC : Hid (actC L O o = 4) := by show _ = _; unfold actC; rw [if_neg (by rw [HFO.out]; decide), if_neg (by rw [HE.out.2.2]; decide), if_pos (.inl h200)]
          clear h200
          go_wp2_with fail
          refine (implCopy_any _ _ _ L S O w6 (HA.out w6 (HG.out w6 HB6.out).2.2.2) HN.out).mono ?_
          rintro e wc ⟨x, y, z, rfl, hr, hh, hBc⟩
          obtain ⟨b1, d1, b2, d2, b3, d3, ex, ey, ez⟩ := hr.slices
          subst ex ey ez
          have HBc : Hid (Below X.heap.size X wc) := HB6.out.trans (hBc.mono HB6.out.size)
          have HHc : Hid _ := hh
          have HR3 : Hid (At3 wc (w.heap.size + 1 + 1) 27 (.slice none 0 0) (.slice none 0 0) (.slice none 0 0)) := (HG.out wc HBc.out).2.2.1
          have HLT : Hid (w.heap.size + 1 + 1 < w6.heap.size) := (HG.out w6 HB6.out).2.2.1.lt
          obtain ⟨q, hq⟩ : ∃ q, q = #[Value.slice b1 L.length d1, .slice b2 S.length d2, .slice b3 O.length d3] := ⟨_, rfl⟩
          have hi6 : (Try.prog.info? 27).map (·.size) = some q.size := by rw [hq]; exact infoDk
          have ho6 : (#[Value.slice none 0 0, .slice none 0 0, .slice none 0 0] : Array Value).size = q.size := by rw [hq]; rfl
          have h16 : q.all (·.oneCell') = true := by rw [hq]; simp [Value.oneCell']
          have HRc : Hid (RdD wc (.slice b1 L.length d1) (.slice b2 S.length d2) (.slice b3 O.length d3) L S O) := hr
          clear hr hh hBc
          go_wp2_with (refine wpList_store_row rfl 27 _ _ rfl (w.heap.size + 1 + 1) q rfl (congrArg Value.agg hq.symm) 27 _ HR3.out hi6 ho6 h16 ?_)
          subst hq
          have hkz : ∀ k, w6.heap.size ≤ k → k < wc.heap.size → (wc.setRow (w.heap.size + 1 + 1) #[Value.slice b1 L.length d1, .slice b2 S.length d2, .slice b3 O.length d3]).heap[k]? = wc.heap[k]? := fun k h1 h2 => setRow_other _ _ _ _ (by have := HLT.out; omega)
          have hszz : wc.heap.size ≤ (wc.setRow (w.heap.size + 1 + 1) #[Value.slice b1 L.length d1, .slice b2 S.length d2, .slice b3 O.length d3]).heap.size := by simp [World.setRow]
          refine bodyPost_ret (v := .tuple #[.agg #[Value.slice b1 L.length d1, .slice b2 S.length d2, .slice b3 O.length d3], _]) (results_row_tmp rfl _ _ (w.heap.size + 1 + 1) 27 _ _ _ rfl (setRow_heap _ _ _ _ _ _ HR3.out) Try.underlying27 rfl hi6) rfl ⟨_, _, _, ret_val (by rw [HD.out.1, HC.out]; rfl), ?_, ?_, ?_⟩
          · rw [HD.out.2.1, HD.out.2.2.1, HD.out.2.2.2, (act_no HC.out (by decide)).1, (act_no HC.out (by decide)).2]
            exact RdD.own HRc.out HHc.out hszz hkz
          · rw [HD.out.2.1, HD.out.2.2.1, HD.out.2.2.2, (act_no HC.out (by decide)).1, (act_no HC.out (by decide)).2]
            exact (HHc.out.kept hkz).base (by have := HLT.out; omega)
          · exact below_setRow (HG.out wc HBc.out).2.2.2 (by omega) _
        · have h200b : ((O.length : Int) == 200) = false := by simp; omega
          have HN2 : Hid (O.length ≠ 200) := h200
          clear h200
          go_wp2_with fail
          refine (fits_any w2.heap.size B (2 * L.length + 2) _ D' p' w6 HE.out.1 HSM.out.1 HSM.out.2.1).mono ?_
          rintro e w7 ⟨rfl, hB7⟩
          rw [← HFB.out]
          have HB7 : Hid (Below X.heap.size X w7) := HB6.out.trans (hB7.mono HB6.out.size)
          have HS7 : Hid (Sh w7 w2.heap.size B (2 * L.length + 2) (doF L o).1 D' p') := HE.out.1.below hB7
          clear hB7 c0 c1 c2 h200b
          have hg7 := HG.out w7 HB7.out
          have c0 := hg7.1.c0
          have c1 := hg7.1.c1
          have c2 := hg7.1.c2
          cases hfb : filesB (doF L o).1 with
          | false =>
            have HC : Hid (actC L O o = 4) := by show _ = _; unfold actC; rw [if_neg (by rw [HFO.out]; decide), if_neg (by rw [HE.out.2.2]; decide), if_pos (.inr hfb)]
            clear hfb hg7
            go_wp2_with fail
            refine (implCopy_any _ _ _ L S O w7 (HA.out w7 (HG.out w7 HB7.out).2.2.2) HN.out).mono ?_
            rintro e wc ⟨x, y, z, rfl, hr, hh, hBc⟩
            obtain ⟨b1, d1, b2, d2, b3, d3, ex, ey, ez⟩ := hr.slices
            subst ex ey ez
            have HBc : Hid (Below X.heap.size X wc) := HB7.out.trans (hBc.mono HB7.out.size)
            have HHc : Hid _ := hh
            have HR3 : Hid (At3 wc (w.heap.size + 1 + 1) 27 (.slice none 0 0) (.slice none 0 0) (.slice none 0 0)) := (HG.out wc HBc.out).2.2.1
            have HLT : Hid (w.heap.size + 1 + 1 < w7.heap.size) := (HG.out w7 HB7.out).2.2.1.lt
            obtain ⟨q, hq⟩ : ∃ q, q = #[Value.slice b1 L.length d1, .slice b2 S.length d2, .slice b3 O.length d3] := ⟨_, rfl⟩
            have hi6 : (Try.prog.info? 27).map (·.size) = some q.size := by rw [hq]; exact infoDk
            have ho6 : (#[Value.slice none 0 0, .slice none 0 0, .slice none 0 0] : Array Value).size = q.size := by rw [hq]; rfl
            have h16 : q.all (·.oneCell') = true := by rw [hq]; simp [Value.oneCell']
            have HRc : Hid (RdD wc (.slice b1 L.length d1) (.slice b2 S.length d2) (.slice b3 O.length d3) L S O) := hr
            clear hr hh hBc
            go_wp2_with (refine wpList_store_row rfl 27 _ _ rfl (w.heap.size + 1 + 1) q rfl (congrArg Value.agg hq.symm) 27 _ HR3.out hi6 ho6 h16 ?_)
            subst hq
            have hkz : ∀ k, w7.heap.size ≤ k → k < wc.heap.size → (wc.setRow (w.heap.size + 1 + 1) #[Value.slice b1 L.length d1, .slice b2 S.length d2, .slice b3 O.length d3]).heap[k]? = wc.heap[k]? := fun k h1 h2 => setRow_other _ _ _ _ (by have := HLT.out; omega)
            have hszz : wc.heap.size ≤ (wc.setRow (w.heap.size + 1 + 1) #[Value.slice b1 L.length d1, .slice b2 S.length d2, .slice b3 O.length d3]).heap.size := by simp [World.setRow]
            refine bodyPost_ret (v := .tuple #[.agg #[Value.slice b1 L.length d1, .slice b2 S.length d2, .slice b3 O.length d3], _]) (results_row_tmp rfl _ _ (w.heap.size + 1 + 1) 27 _ _ _ rfl (setRow_heap _ _ _ _ _ _ HR3.out) Try.underlying27 rfl hi6) rfl ⟨_, _, _, ret_val (by rw [HD.out.1, HC.out]; rfl), ?_, ?_, ?_⟩
            · rw [HD.out.2.1, HD.out.2.2.1, HD.out.2.2.2, (act_no HC.out (by decide)).1, (act_no HC.out (by decide)).2]
              exact RdD.own HRc.out HHc.out hszz hkz
            · rw [HD.out.2.1, HD.out.2.2.1, HD.out.2.2.2, (act_no HC.out (by decide)).1, (act_no HC.out (by decide)).2]
              exact (HHc.out.kept hkz).base (by have := HLT.out; omega)
            · exact below_setRow (HG.out wc HBc.out).2.2.2 (by omega) _
          | true =>
            have HC : Hid (actC L O o = 0) := by show _ = _; unfold actC; rw [if_neg (by rw [HFO.out]; decide), if_neg (by rw [HE.out.2.2]; decide), if_neg (fun h => h.elim HN2.out (fun h => by rw [hfb] at h; cases h))]
            clear hfb
            have HC7 : Hid (∀ wy, Below w7.heap.size w7 wy → At3 wy w.heap.size 27 (.slice aL L.length cL) (.slice aS S.length cS) (.slice aO O.length cO) ∧ wy.heap[w.heap.size + 1]? = some (.cells #[.int .i64 o.k, .string o.n, .string o.t, .string o.d] 49 (0, 0)) ∧ At3 wy (w.heap.size + 1 + 1) 27 (.slice none 0 0) (.slice none 0 0) (.slice none 0 0) ∧ RdF wy (.slice aS S.length cS) S ∧ RdO wy (.slice aO O.length cO) O) := fun wy hy => by
              have hb := HB7.out.trans (hy.mono HB7.out.size)
              have hg := HG.out wy hb
              have ha := HA.out wy hg.2.2.2
              exact ⟨hg.1, hg.2.1, hg.2.2.1, ha.2.1, ha.2.2⟩
            have HLT7 : Hid (w.heap.size + 1 + 1 < w7.heap.size) := hg7.2.2.1.lt
            have HW7 : Hid (Below w.heap.size w w7) := hg7.2.2.2
            clear hg7 c0 c1 c2
            go_wp2
            refine wp_cut_to (fun a0 t w' => ∃ f, t = (canon a0 dsG f).put (some 5) (.int .i64 0) ∧ (∃ x y z, w'.heap[w.heap.size + 1 + 1]? = some (.cells #[x, y, z] 27 (0, 0)) ∧ HoldF w' w7.heap.size x (doF L o).1 ∧ HoldF w' w7.heap.size y S ∧ HoldO w' w7.heap.size z (O ++ [o]) ∧ (∀ k, x.ownBlock = some k → y.ownBlock ≠ some k) ∧ Below w.heap.size w w')) ?_ ?_
            · rintro _ w8 ⟨f, rfl, h8⟩
              simp only [canon, dsG, List.foldl, Act.put, List.setIfInBounds_toArray, List.set_cons_succ, List.set_cons_zero]
              obtain ⟨x, y, z, hb8, hx8, hy8, hz8, hap, hbw⟩ := h8
              have HE8 : Hid (HoldF w8 w7.heap.size x (doF L o).1 ∧ HoldF w8 w7.heap.size y S ∧ HoldO w8 w7.heap.size z (O ++ [o]) ∧ (∀ k, x.ownBlock = some k → y.ownBlock ≠ some k) ∧ Below w.heap.size w w8) := ⟨hx8, hy8, hz8, hap, hbw⟩
              clear hx8 hy8 hz8 hap hbw
              go_wp2
              have hle := HW7.out.size
              refine bodyPost_ret (v := .tuple #[.agg #[x, y, z], _]) (results_row_tmp rfl _ _ (w.heap.size + 1 + 1) 27 _ _ _ rfl hb8 Try.underlying27 rfl infoDk) rfl ⟨x, y, z, ret_val (by rw [HD.out.1, HC.out]; rfl), ?_, ?_, HE8.out.2.2.2.2⟩
              · rw [HD.out.2.1, HD.out.2.2.1, HD.out.2.2.2, (act_yes HC.out).1, (act_yes HC.out).2]
                exact ⟨HE8.out.1.1, HE8.out.2.1.1, HE8.out.2.2.1.1⟩
              · rw [HD.out.2.1, HD.out.2.2.1, HD.out.2.2.2, (act_yes HC.out).1, (act_yes HC.out).2]
                exact ⟨HE8.out.1.2.base hle, HE8.out.2.1.2.base hle, HE8.out.2.2.1.2.base hle, HE8.out.2.2.2.1⟩
            · intro J K' hJ hK
              refine wp_letter ?_
              intro fr hfr
              have hsz : 53 < fr.tmps.size := by rw [hfr]; exact Nat.le_of_ble_eq_true rfl
              have t2 : fr.eval (.tmp 2) = .pointer (some ⟨w.heap.size, 0, none⟩) := by rw [hfr]; rfl
              have t3 : fr.eval (.tmp 3) = .pointer (some ⟨w.heap.size + 1, 0, none⟩) := by rw [hfr]; rfl
              have t4 : fr.eval (.tmp 4) = .pointer (some ⟨w.heap.size + 1 + 1, 0, none⟩) := by rw [hfr]; rfl
              have t8 : fr.eval (.tmp 8) = .map (some B) := by rw [hfr]; rfl
              have HFR := (show Hid _ from hfr)
              clear hfr
              refine wp_region_fin2 (Rel := fun v v' => Below v.heap.size v v') (fun v => Below.refl _ _) (fun h k => h.trans (k.mono h.size)) (fun v => (Below.refl _ _).drew) 12 rfl (by kernel_rfl) (by kernel_rfl) dsG slotG (GF w.heap.size w7.heap.size B (.slice aS S.length cS) adO cO (doF L o).1 S O o) _ _ rfl rfl (by kernel_rfl) (by kernel_rfl) (fun a' w' => ∃ f, a' = canon fr dsG f ∧ (∃ x y z, w'.heap[w.heap.size + 1 + 1]? = some (.cells #[x, y, z] 27 (0, 0)) ∧ HoldF w' w7.heap.size x (doF L o).1 ∧ HoldF w' w7.heap.size y S ∧ HoldO w' w7.heap.size z (O ++ [o]) ∧ (∀ k, x.ownBlock = some k → y.ownBlock ≠ some k) ∧ Below w.heap.size w w')) (fun _ _ _ _ h hB => h.below hB) ?_ ?_ ?_ ?_ ?_ ?_
              · intro j f f' wy hj he h
                exact h.dep hj (fun i hi => he i (by revert hi; match j, hj with | 0, _ => (intro hi; simp only [depG, beq_iff_eq] at hi; rcases hi with rfl <;> kernel_rfl) | 1, _ => (intro hi; simp only [depG, beq_iff_eq] at hi; rcases hi with rfl <;> kernel_rfl) | 2, _ => (intro hi; simp only [depG, beq_iff_eq] at hi; rcases hi with rfl <;> kernel_rfl) | 3, _ => (intro hi; simp only [depG, beq_iff_eq] at hi; rcases hi with rfl <;> kernel_rfl) | 4, _ => (intro hi; simp only [depG, Bool.or_eq_true, beq_iff_eq] at hi; rcases hi with rfl | rfl <;> kernel_rfl) | 5, _ => (intro hi; simp only [depG, beq_iff_eq] at hi; rcases hi with rfl <;> kernel_rfl) | 6, _ => (intro hi; simp only [depG, beq_iff_eq] at hi; rcases hi with rfl <;> kernel_rfl) | 7, _ => (intro hi; simp only [depG, beq_iff_eq] at hi; rcases hi with rfl <;> kernel_rfl) | 8, _ => (intro hi; simp only [depG, beq_iff_eq] at hi; rcases hi with rfl <;> kernel_rfl) | 9, _ => (intro hi; simp only [depG, beq_iff_eq] at hi; rcases hi with rfl <;> kernel_rfl) | 10, _ => (intro hi; simp only [depG, beq_iff_eq] at hi; rcases hi with rfl <;> kernel_rfl) | 11, _ => (intro hi; simp only [depG, Bool.or_eq_true, beq_iff_eq] at hi; rcases hi with ((rfl | rfl) | rfl) | rfl <;> kernel_rfl)))
              · intro i hi
                exact slotG_mem i hi
              · intro i j hi hj q
                exact slotG_inj i j hi hj q
              · intro ops hops f wy j oo hj hy ho hd
                have ho2 := ho
                rw [hops] at ho
                have N2 := (canon_eval_ne fr dsG f 2 (by decide)).trans t2
                have N3 := (canon_eval_ne fr dsG f 3 (by decide)).trans t3
                have N8 := (canon_eval_ne fr dsG f 8 (by decide)).trans t8
                have hj' : j = 0 ∨ j = 1 ∨ j = 2 ∨ j = 3 ∨ j = 4 ∨ j = 5 ∨ j = 6 ∨ j = 7 ∨ j = 8 ∨ j = 9 ∨ j = 10 ∨ j = 11 := by omega
                rcases hj' with rfl | rfl | rfl | rfl | rfl | rfl | rfl | rfl | rfl | rfl | rfl | rfl <;> simp only [List.getElem?_toArray, List.getElem?_cons_succ, List.getElem?_cons_zero, Option.some.injEq] at ho <;> subst ho
                · refine wpOp_runG ho2 (wanted_none rfl) (q_moveD (canon fr dsG f).eval _ wy _ rfl) ?_
                  exact ⟨_, rfl, (upd_same f 42 _).trans N8, Below.refl _ _⟩
                · refine wpOp_enterG ho2 (wanted_none rfl) (q_call1I (canon fr dsG f).eval _ wy _ HEN1.out _ _ rfl rfl) ?_
                  rw [(canon_eval fr dsG f 42 (by decide) (Nat.lt_of_le_of_lt (by decide) hsz)).trans (hd ⟨0, .data⟩ (by simp) rfl (by decide))]
                  refine (shFiles_any w2.heap.size B (2 * L.length + 2) (doF L o).1 D' p' wy (HS7.out.below hy) (by have := HUS.out.2.1; omega) HSM.out.2.1 HSM.out.2.2).mono ?_
                  rintro e wz ⟨u, rfl, hu, hBz⟩
                  exact ⟨_, rfl, _, rfl, by show HoldF _ _ (upd f 43 u 43) (doF L o).1; rw [upd_same]; exact hu.hold.base hy.size, hBz⟩
                · refine wpOp_runG ho2 (wanted_none rfl) (q_fieldK (canon fr dsG f).eval _ wy _ w.heap.size 1 rfl N2 (by decide)) ?_
                  exact ⟨_, rfl, upd_same f 44 _, Below.refl _ _⟩
                · refine wpOp_runG ho2 (wanted_none rfl) (q_loadF (canon fr dsG f).eval _ wy _ w.heap.size 1 rfl ((canon_eval fr dsG f 44 (by decide) (Nat.lt_of_le_of_lt (by decide) hsz)).trans (hd ⟨2, .data⟩ (by simp) rfl (by decide))) (HC7.out wy hy).1.c1) ?_
                  exact ⟨_, rfl, upd_same f 45 _, Below.refl _ _⟩
                · have h9 : HoldF wy w7.heap.size (f 43) (doF L o).1 := hd ⟨1, .chain⟩ (by simp) rfl (by decide)
                  refine wpOp_enterG ho2 (wanted_none rfl) (q_call1I (canon fr dsG f).eval _ wy _ HEN2.out _ _ rfl rfl) ?_
                  rw [(canon_eval fr dsG f 45 (by decide) (Nat.lt_of_le_of_lt (by decide) hsz)).trans (hd ⟨3, .data⟩ (by simp) rfl (by decide))]
                  refine (cloneF_any _ S wy (HC7.out wy hy).2.2.2.1 HN.out.2.1).mono ?_
                  rintro e wz ⟨u, rfl, hu, hBz⟩
                  refine ⟨_, rfl, _, rfl, ⟨by show HoldF _ _ (upd f 46 u 46) S; rw [upd_same]; exact hu.base hy.size, fun q hk => ?_⟩, hBz⟩
                  have e9 : upd f 46 u 43 = f 43 := upd_ne f u (by decide)
                  have hk' : (f 43).ownBlock = some q := by rw [← e9]; exact hk
                  show (upd f 46 u 46).ownBlock ≠ some q
                  rw [upd_same]
                  intro e
                  have h1 := (h9.2.lt q hk').2
                  have h2 := (hu.2.lt q e).1
                  omega
                · refine wpOp_runG ho2 (wanted_none rfl) (q_fieldK (canon fr dsG f).eval _ wy _ w.heap.size 2 rfl N2 (by decide)) ?_
                  exact ⟨_, rfl, upd_same f 47 _, Below.refl _ _⟩
                · refine wpOp_runG ho2 (wanted_none rfl) (q_loadO (canon fr dsG f).eval _ wy _ w.heap.size 2 rfl ((canon_eval fr dsG f 47 (by decide) (Nat.lt_of_le_of_lt (by decide) hsz)).trans (hd ⟨5, .data⟩ (by simp) rfl (by decide))) (HC7.out wy hy).1.c2) ?_
                  exact ⟨_, rfl, (upd_same f 48 _).trans (by rw [HAO.out]), Below.refl _ _⟩
                · refine wpOp_runG ho2 (wanted_none rfl) (q_loadOp (canon fr dsG f).eval _ wy _ (w.heap.size + 1) o rfl N3 (HC7.out wy hy).2.1) ?_
                  exact ⟨_, rfl, upd_same f 49 _, Below.refl _ _⟩
                · refine wpOp_runG ho2 (wanted_none rfl) (q_lit1O (canon fr dsG f).eval _ wy _ o rfl ((canon_eval fr dsG f 49 (by decide) (Nat.lt_of_le_of_lt (by decide) hsz)).trans (hd ⟨7, .data⟩ (by simp) rfl (by decide)))) ?_
                  exact ⟨_, rfl, ⟨wy.heap.size, upd_same f 50 _, hy.size, heap_alloc_new _ _⟩, (Below.refl _ _).alloc (Nat.le_refl _) _⟩
                · have h48 : f 48 = .slice (some adO) O.length cO := hd ⟨6, .data⟩ (by simp) rfl (by decide)
                  obtain ⟨g, eg, hbg, hgh⟩ := hd ⟨8, .data⟩ (by simp) rfl (by decide)
                  refine wpOp_runG ho2 (wanted_none rfl) (q_lit2O (canon fr dsG f).eval _ wy _ _ rfl ((canon_eval fr dsG f 48 (by decide) (Nat.lt_of_le_of_lt (by decide) hsz)).trans h48) ((canon_eval fr dsG f 50 (by decide) (Nat.lt_of_le_of_lt (by decide) hsz)).trans eg)) ?_
                  have hba : Below wy.heap.size wy (wy.alloc (.cells #[.slice (some adO) O.length cO, .slice (some ⟨g, 0, none⟩) 1 1] 25)) := (Below.refl _ _).alloc (Nat.le_refl _) _
                  exact ⟨_, rfl, ⟨wy.heap.size, g, upd_same f 51 _, heap_alloc_new _ _, (hba.block _ (lt_of_block hgh)).trans hgh⟩, hba⟩
                · obtain ⟨g2, g, eg, hg2, hg⟩ := hd ⟨9, .data⟩ (by simp) rfl (by decide)
                  refine wpOp_enterG ho2 (wanted_none rfl) (q_call1I (canon fr dsG f).eval _ wy _ HEN3.out _ _ rfl rfl) ?_
                  rw [(canon_eval fr dsG f 51 (by decide) (Nat.lt_of_le_of_lt (by decide) hsz)).trans eg]
                  have hro : RdO wy (.slice (some adO) O.length cO) O := by have := (HC7.out wy hy).2.2.2.2; rw [HAO.out] at this; exact this
                  refine (concat_any g2 adO ⟨g, 0, none⟩ cO 1 O [o] wy (cellN hg2) (cellN hg2) (fun w' hB => (hro.below hB).news) (fun w' hB => one_news ((hB.block _ (lt_of_block hg)).trans hg)) (by have := HUS.out.2.2.2; omega) (by simp)).mono ?_
                  rintro e wz ⟨u, rfl, hu, hBz⟩
                  exact ⟨_, rfl, _, rfl, by show HoldO _ _ (upd f 52 u 52) (O ++ [o]); rw [upd_same]; exact hu.hold.base hy.size, hBz⟩
                · have h9 : HoldF wy w7.heap.size (f 43) (doF L o).1 := hd ⟨1, .data⟩ (by simp) rfl (by decide)
                  have h12 : HoldF wy w7.heap.size (f 46) S ∧ _ := hd ⟨4, .data⟩ (by simp) rfl (by decide)
                  have h15 : HoldO wy w7.heap.size (f 52) (O ++ [o]) := hd ⟨10, .data⟩ (by simp) rfl (by decide)
                  obtain ⟨a9, c9, e9⟩ := h9.2.slice
                  obtain ⟨a12, c12, e12⟩ := h12.1.2.slice
                  obtain ⟨a15, c15, e15⟩ := h15.2.slice
                  refine wpOp_runG ho2 (wanted_none rfl) (q_build3 (canon fr dsG f).eval _ wy _ _ _ rfl ((canon_eval fr dsG f 43 (by decide) (Nat.lt_of_le_of_lt (by decide) hsz)).trans e9) ((canon_eval fr dsG f 46 (by decide) (Nat.lt_of_le_of_lt (by decide) hsz)).trans e12) ((canon_eval fr dsG f 52 (by decide) (Nat.lt_of_le_of_lt (by decide) hsz)).trans e15)) ?_
                  refine ⟨_, rfl, ?_, Below.refl _ _⟩
                  show upd f 53 _ 53 = .agg #[upd f 53 _ 43, upd f 53 _ 46, upd f 53 _ 52]
                  rw [upd_same, upd_ne f _ (by decide : (43 : Nat) ≠ 53), upd_ne f _ (by decide : (46 : Nat) ≠ 53), upd_ne f _ (by decide : (52 : Nat) ≠ 53), e9, e12, e15]
              · intro ops hops f wy hy ho hall
                have ho2 := ho
                have N4 := (canon_eval_ne fr dsG f 4 (by decide)).trans t4
                have h9 : HoldF wy w7.heap.size (f 43) (doF L o).1 := hall 1 (by omega)
                have h12 : HoldF wy w7.heap.size (f 46) S ∧ _ := hall 4 (by omega)
                have h15 : HoldO wy w7.heap.size (f 52) (O ++ [o]) := hall 10 (by omega)
                have h13 : f 53 = .agg #[f 43, f 46, f 52] := hall 11 (by omega)
                obtain ⟨a9, c9, e9⟩ := h9.2.slice
                obtain ⟨a12, c12, e12⟩ := h12.1.2.slice
                obtain ⟨a15, c15, e15⟩ := h15.2.slice
                have hrb := (HC7.out wy hy).2.2.1
                refine wpOp_storeD ho2 (wanted_none rfl) _ _ (w.heap.size + 1 + 1) rfl N4 ((canon_eval fr dsG f 53 (by decide) (Nat.lt_of_le_of_lt (by decide) hsz)).trans (h13.trans (by rw [e9, e12, e15]))) rfl hrb ?_
                intro wz hz1 hz2 hz3 hz4 hz5 hz6
                have hlt : w.heap.size + 1 + 1 < w7.heap.size := HLT7.out
                have hkz : ∀ k, w7.heap.size ≤ k → k < wy.heap.size → wz.heap[k]? = wy.heap[k]? := fun k h1 h2 => hz2 k (by omega)
                refine ⟨f, rfl, f 43, f 46, f 52, ?_, h9.kept (by omega) hkz, h12.1.kept (by omega) hkz, h15.kept (by omega) hkz, h12.2, ?_⟩
                · rw [e9, e12, e15]; exact hz1
                · have hb7 := HW7.out
                  have hbw := hb7.trans (hy.mono hb7.size)
                  exact ⟨hz4.trans hbw.os, hz5.trans hbw.tape, hz6.trans hbw.output, by rw [hz3]; exact hbw.size, fun k hk => (hz2 k (by omega)).trans (hbw.block k hk)⟩
              · rintro ops hops a wy ⟨f, rfl, hpost⟩ ho
                refine wpOp_runG ho (wanted_none rfl) (q_assignC (canon fr dsG f).eval _ wy _ rfl) ?_
                exact hK _ _ (Met.intro (hJ _ _ ⟨f, congrArg (fun z => (canon z dsG f).put (some 5) (.int .i64 0)) HFR.out, hpost⟩))
      · rw [chV_ren hk]
        have hm := mRen o.n o.t
        have HK : Hid (o.k = 2) := hk
        clear hk
        go_wp2_with fail
        refine (ren_any o.n o.t w2.heap.size B (2 * L.length) L D0 p0 w3 HS3.out.1 HS3.out.2.size (by have := HUS.out.2.1; omega) (by have := HOZ.out.1; omega) (by have := HOZ.out.2.1; omega)).mono ?_
        rintro e w6 ⟨rfl, D', p', hS6, hB6⟩
        cases hg : getF L o.n with
        | none =>
          have HC : Hid (actC L O o = 3) := by
            have : (doF L o).2 = false := by
              unfold doF
              rw [if_neg (by rw [HK.out]; decide), hg]
            show _ = _
            unfold actC
            rw [if_neg (by rw [HFO.out]; decide), if_pos this]
          have HB6 : Hid (Below X.heap.size X w6) := HB2.out.trans ((HS3.out.2.trans hB6).mono HB2.out.size)
          have hg6 := HG.out w6 HB6.out
          have c0 := hg6.1.c0
          have c1 := hg6.1.c1
          have c2 := hg6.1.c2
          clear hS6 hB6 hg6 hg hm
          go_wp2_with fail
          refine (implCopy_any _ _ _ L S O w6 (HA.out w6 (HG.out w6 HB6.out).2.2.2) HN.out).mono ?_
          rintro e wc ⟨x, y, z, rfl, hr, hh, hBc⟩
          obtain ⟨b1, d1, b2, d2, b3, d3, ex, ey, ez⟩ := hr.slices
          subst ex ey ez
          have HBc : Hid (Below X.heap.size X wc) := HB6.out.trans (hBc.mono HB6.out.size)
          have HHc : Hid _ := hh
          have HR3 : Hid (At3 wc (w.heap.size + 1 + 1) 27 (.slice none 0 0) (.slice none 0 0) (.slice none 0 0)) := (HG.out wc HBc.out).2.2.1
          have HLT : Hid (w.heap.size + 1 + 1 < w6.heap.size) := (HG.out w6 HB6.out).2.2.1.lt
          obtain ⟨q, hq⟩ : ∃ q, q = #[Value.slice b1 L.length d1, .slice b2 S.length d2, .slice b3 O.length d3] := ⟨_, rfl⟩
          have hi6 : (Try.prog.info? 27).map (·.size) = some q.size := by rw [hq]; exact infoDk
          have ho6 : (#[Value.slice none 0 0, .slice none 0 0, .slice none 0 0] : Array Value).size = q.size := by rw [hq]; rfl
          have h16 : q.all (·.oneCell') = true := by rw [hq]; simp [Value.oneCell']
          have HRc : Hid (RdD wc (.slice b1 L.length d1) (.slice b2 S.length d2) (.slice b3 O.length d3) L S O) := hr
          clear hr hh hBc
          go_wp2_with (refine wpList_store_row rfl 27 _ _ rfl (w.heap.size + 1 + 1) q rfl (congrArg Value.agg hq.symm) 27 _ HR3.out hi6 ho6 h16 ?_)
          subst hq
          have hkz : ∀ k, w6.heap.size ≤ k → k < wc.heap.size → (wc.setRow (w.heap.size + 1 + 1) #[Value.slice b1 L.length d1, .slice b2 S.length d2, .slice b3 O.length d3]).heap[k]? = wc.heap[k]? := fun k h1 h2 => setRow_other _ _ _ _ (by have := HLT.out; omega)
          have hszz : wc.heap.size ≤ (wc.setRow (w.heap.size + 1 + 1) #[Value.slice b1 L.length d1, .slice b2 S.length d2, .slice b3 O.length d3]).heap.size := by simp [World.setRow]
          refine bodyPost_ret (v := .tuple #[.agg #[Value.slice b1 L.length d1, .slice b2 S.length d2, .slice b3 O.length d3], _]) (results_row_tmp rfl _ _ (w.heap.size + 1 + 1) 27 _ _ _ rfl (setRow_heap _ _ _ _ _ _ HR3.out) Try.underlying27 rfl hi6) rfl ⟨_, _, _, ret_val (by rw [HD.out.1, HC.out]; rfl), ?_, ?_, ?_⟩
          · rw [HD.out.2.1, HD.out.2.2.1, HD.out.2.2.2, (act_no HC.out (by decide)).1, (act_no HC.out (by decide)).2]
            exact RdD.own HRc.out HHc.out hszz hkz
          · rw [HD.out.2.1, HD.out.2.2.1, HD.out.2.2.2, (act_no HC.out (by decide)).1, (act_no HC.out (by decide)).2]
            exact (HHc.out.kept hkz).base (by have := HLT.out; omega)
          · exact below_setRow (HG.out wc HBc.out).2.2.2 (by omega) _
        | some x =>
          rw [hg] at hS6
          have HE : Hid (Sh w6 w2.heap.size B (2 * L.length + 2) (doF L o).1 D' p' ∧ Below w2.heap.size w2 w6 ∧ (doF L o).2 = true) := by
            have e : doF L o = (putF (cutF L o.n) o.t x, true) := by
              unfold doF
              rw [if_neg (by rw [HK.out]; decide), hg]
              simp only
              rw [if_pos HK.out]
            refine ⟨?_, HS3.out.2.trans hB6, by rw [e]⟩
            rw [e]
            show Sh w6 w2.heap.size B (2 * L.length + 2) (putF (cutF L o.n) o.t x) D' p'
            rw [putF_eq (cutF_up HS3.out.1.up _)]
            exact hS6.more (by omega)
          clear hS6 hB6 hg hm
          have HB6 : Hid (Below X.heap.size X w6) := HB2.out.trans (HE.out.2.1.mono HB2.out.size)
          have hg6 := HG.out w6 HB6.out
          have c0 := hg6.1.c0
          have c1 := hg6.1.c1
          have c2 := hg6.1.c2
          clear hg6
          by_cases h200 : O.length = 200
          · have h200b : ((O.length : Int) == 200) = true := by simp; omega
            have HC : Hid (actC L O o = 4) := by show _ = _; unfold actC; rw [if_neg (by rw [HFO.out]; decide), if_neg (by rw [HE.out.2.2]; decide), if_pos (.inl h200)]
            clear h200
            go_wp2_with fail
            refine (implCopy_any _ _ _ L S O w6 (HA.out w6 (HG.out w6 HB6.out).2.2.2) HN.out).mono ?_
            rintro e wc ⟨x, y, z, rfl, hr, hh, hBc⟩
            obtain ⟨b1, d1, b2, d2, b3, d3, ex, ey, ez⟩ := hr.slices
            subst ex ey ez
            have HBc : Hid (Below X.heap.size X wc) := HB6.out.trans (hBc.mono HB6.out.size)
            have HHc : Hid _ := hh
            have HR3 : Hid (At3 wc (w.heap.size + 1 + 1) 27 (.slice none 0 0) (.slice none 0 0) (.slice none 0 0)) := (HG.out wc HBc.out).2.2.1
            have HLT : Hid (w.heap.size + 1 + 1 < w6.heap.size) := (HG.out w6 HB6.out).2.2.1.lt
            obtain ⟨q, hq⟩ : ∃ q, q = #[Value.slice b1 L.length d1, .slice b2 S.length d2, .slice b3 O.length d3] := ⟨_, rfl⟩
            have hi6 : (Try.prog.info? 27).map (·.size) = some q.size := by rw [hq]; exact infoDk
            have ho6 : (#[Value.slice none 0 0, .slice none 0 0, .slice none 0 0] : Array Value).size = q.size := by rw [hq]; rfl
            have h16 : q.all (·.oneCell') = true := by rw [hq]; simp [Value.oneCell']
            have HRc : Hid (RdD wc (.slice b1 L.length d1) (.slice b2 S.length d2) (.slice b3 O.length d3) L S O) := hr
            clear hr hh hBc
            go_wp2_with (refine wpList_store_row rfl 27 _ _ rfl (w.heap.size + 1 + 1) q rfl (congrArg Value.agg hq.symm) 27 _ HR3.out hi6 ho6 h16 ?_)
            subst hq
            have hkz : ∀ k, w6.heap.size ≤ k → k < wc.heap.size → (wc.setRow (w.heap.size + 1 + 1) #[Value.slice b1 L.length d1, .slice b2 S.length d2, .slice b3 O.length d3]).heap[k]? = wc.heap[k]? := fun k h1 h2 => setRow_other _ _ _ _ (by have := HLT.out; omega)
            have hszz : wc.heap.size ≤ (wc.setRow (w.heap.size + 1 + 1) #[Value.slice b1 L.length d1, .slice b2 S.length d2, .slice b3 O.length d3]).heap.size := by simp [World.setRow]
            refine bodyPost_ret (v := .tuple #[.agg #[Value.slice b1 L.length d1, .slice b2 S.length d2, .slice b3 O.length d3], _]) (results_row_tmp rfl _ _ (w.heap.size + 1 + 1) 27 _ _ _ rfl (setRow_heap _ _ _ _ _ _ HR3.out) Try.underlying27 rfl hi6) rfl ⟨_, _, _, ret_val (by rw [HD.out.1, HC.out]; rfl), ?_, ?_, ?_⟩
            · rw [HD.out.2.1, HD.out.2.2.1, HD.out.2.2.2, (act_no HC.out (by decide)).1, (act_no HC.out (by decide)).2]
              exact RdD.own HRc.out HHc.out hszz hkz
            · rw [HD.out.2.1, HD.out.2.2.1, HD.out.2.2.2, (act_no HC.out (by decide)).1, (act_no HC.out (by decide)).2]
              exact (HHc.out.kept hkz).base (by have := HLT.out; omega)
            · exact below_setRow (HG.out wc HBc.out).2.2.2 (by omega) _
          · have h200b : ((O.length : Int) == 200) = false := by simp; omega
            have HN2 : Hid (O.length ≠ 200) := h200
            clear h200
            go_wp2_with fail
            refine (fits_any w2.heap.size B (2 * L.length + 2) _ D' p' w6 HE.out.1 HSM.out.1 HSM.out.2.1).mono ?_
            rintro e w7 ⟨rfl, hB7⟩
            rw [← HFB.out]
            have HB7 : Hid (Below X.heap.size X w7) := HB6.out.trans (hB7.mono HB6.out.size)
            have HS7 : Hid (Sh w7 w2.heap.size B (2 * L.length + 2) (doF L o).1 D' p') := HE.out.1.below hB7
            clear hB7 c0 c1 c2 h200b
            have hg7 := HG.out w7 HB7.out
            have c0 := hg7.1.c0
            have c1 := hg7.1.c1
            have c2 := hg7.1.c2
            cases hfb : filesB (doF L o).1 with
            | false =>
              have HC : Hid (actC L O o = 4) := by show _ = _; unfold actC; rw [if_neg (by rw [HFO.out]; decide), if_neg (by rw [HE.out.2.2]; decide), if_pos (.inr hfb)]
              clear hfb hg7
              go_wp2_with fail
              refine (implCopy_any _ _ _ L S O w7 (HA.out w7 (HG.out w7 HB7.out).2.2.2) HN.out).mono ?_
              rintro e wc ⟨x, y, z, rfl, hr, hh, hBc⟩
              obtain ⟨b1, d1, b2, d2, b3, d3, ex, ey, ez⟩ := hr.slices
              subst ex ey ez
              have HBc : Hid (Below X.heap.size X wc) := HB7.out.trans (hBc.mono HB7.out.size)
              have HHc : Hid _ := hh
              have HR3 : Hid (At3 wc (w.heap.size + 1 + 1) 27 (.slice none 0 0) (.slice none 0 0) (.slice none 0 0)) := (HG.out wc HBc.out).2.2.1
              have HLT : Hid (w.heap.size + 1 + 1 < w7.heap.size) := (HG.out w7 HB7.out).2.2.1.lt
              obtain ⟨q, hq⟩ : ∃ q, q = #[Value.slice b1 L.length d1, .slice b2 S.length d2, .slice b3 O.length d3] := ⟨_, rfl⟩
              have hi6 : (Try.prog.info? 27).map (·.size) = some q.size := by rw [hq]; exact infoDk
              have ho6 : (#[Value.slice none 0 0, .slice none 0 0, .slice none 0 0] : Array Value).size = q.size := by rw [hq]; rfl
              have h16 : q.all (·.oneCell') = true := by rw [hq]; simp [Value.oneCell']
              have HRc : Hid (RdD wc (.slice b1 L.length d1) (.slice b2 S.length d2) (.slice b3 O.length d3) L S O) := hr
              clear hr hh hBc
              go_wp2_with (refine wpList_store_row rfl 27 _ _ rfl (w.heap.size + 1 + 1) q rfl (congrArg Value.agg hq.symm) 27 _ HR3.out hi6 ho6 h16 ?_)
              subst hq
              have hkz : ∀ k, w7.heap.size ≤ k → k < wc.heap.size → (wc.setRow (w.heap.size + 1 + 1) #[Value.slice b1 L.length d1, .slice b2 S.length d2, .slice b3 O.length d3]).heap[k]? = wc.heap[k]? := fun k h1 h2 => setRow_other _ _ _ _ (by have := HLT.out; omega)
              have hszz : wc.heap.size ≤ (wc.setRow (w.heap.size + 1 + 1) #[Value.slice b1 L.length d1, .slice b2 S.length d2, .slice b3 O.length d3]).heap.size := by simp [World.setRow]
              refine bodyPost_ret (v := .tuple #[.agg #[Value.slice b1 L.length d1, .slice b2 S.length d2, .slice b3 O.length d3], _]) (results_row_tmp rfl _ _ (w.heap.size + 1 + 1) 27 _ _ _ rfl (setRow_heap _ _ _ _ _ _ HR3.out) Try.underlying27 rfl hi6) rfl ⟨_, _, _, ret_val (by rw [HD.out.1, HC.out]; rfl), ?_, ?_, ?_⟩
              · rw [HD.out.2.1, HD.out.2.2.1, HD.out.2.2.2, (act_no HC.out (by decide)).1, (act_no HC.out (by decide)).2]
                exact RdD.own HRc.out HHc.out hszz hkz
              · rw [HD.out.2.1, HD.out.2.2.1, HD.out.2.2.2, (act_no HC.out (by decide)).1, (act_no HC.out (by decide)).2]
                exact (HHc.out.kept hkz).base (by have := HLT.out; omega)
              · exact below_setRow (HG.out wc HBc.out).2.2.2 (by omega) _
            | true =>
              have HC : Hid (actC L O o = 0) := by show _ = _; unfold actC; rw [if_neg (by rw [HFO.out]; decide), if_neg (by rw [HE.out.2.2]; decide), if_neg (fun h => h.elim HN2.out (fun h => by rw [hfb] at h; cases h))]
              clear hfb
              have HC7 : Hid (∀ wy, Below w7.heap.size w7 wy → At3 wy w.heap.size 27 (.slice aL L.length cL) (.slice aS S.length cS) (.slice aO O.length cO) ∧ wy.heap[w.heap.size + 1]? = some (.cells #[.int .i64 o.k, .string o.n, .string o.t, .string o.d] 49 (0, 0)) ∧ At3 wy (w.heap.size + 1 + 1) 27 (.slice none 0 0) (.slice none 0 0) (.slice none 0 0) ∧ RdF wy (.slice aS S.length cS) S ∧ RdO wy (.slice aO O.length cO) O) := fun wy hy => by
                have hb := HB7.out.trans (hy.mono HB7.out.size)
                have hg := HG.out wy hb
                have ha := HA.out wy hg.2.2.2
                exact ⟨hg.1, hg.2.1, hg.2.2.1, ha.2.1, ha.2.2⟩
              have HLT7 : Hid (w.heap.size + 1 + 1 < w7.heap.size) := hg7.2.2.1.lt
              have HW7 : Hid (Below w.heap.size w w7) := hg7.2.2.2
              clear hg7 c0 c1 c2
              go_wp2
              refine wp_cut_to (fun a0 t w' => ∃ f, t = (canon a0 dsG f).put (some 5) (.int .i64 0) ∧ (∃ x y z, w'.heap[w.heap.size + 1 + 1]? = some (.cells #[x, y, z] 27 (0, 0)) ∧ HoldF w' w7.heap.size x (doF L o).1 ∧ HoldF w' w7.heap.size y S ∧ HoldO w' w7.heap.size z (O ++ [o]) ∧ (∀ k, x.ownBlock = some k → y.ownBlock ≠ some k) ∧ Below w.heap.size w w')) ?_ ?_
              · rintro _ w8 ⟨f, rfl, h8⟩
                simp only [canon, dsG, List.foldl, Act.put, List.setIfInBounds_toArray, List.set_cons_succ, List.set_cons_zero]
                obtain ⟨x, y, z, hb8, hx8, hy8, hz8, hap, hbw⟩ := h8
                have HE8 : Hid (HoldF w8 w7.heap.size x (doF L o).1 ∧ HoldF w8 w7.heap.size y S ∧ HoldO w8 w7.heap.size z (O ++ [o]) ∧ (∀ k, x.ownBlock = some k → y.ownBlock ≠ some k) ∧ Below w.heap.size w w8) := ⟨hx8, hy8, hz8, hap, hbw⟩
                clear hx8 hy8 hz8 hap hbw
                go_wp2
                have hle := HW7.out.size
                refine bodyPost_ret (v := .tuple #[.agg #[x, y, z], _]) (results_row_tmp rfl _ _ (w.heap.size + 1 + 1) 27 _ _ _ rfl hb8 Try.underlying27 rfl infoDk) rfl ⟨x, y, z, ret_val (by rw [HD.out.1, HC.out]; rfl), ?_, ?_, HE8.out.2.2.2.2⟩
                · rw [HD.out.2.1, HD.out.2.2.1, HD.out.2.2.2, (act_yes HC.out).1, (act_yes HC.out).2]
                  exact ⟨HE8.out.1.1, HE8.out.2.1.1, HE8.out.2.2.1.1⟩
                · rw [HD.out.2.1, HD.out.2.2.1, HD.out.2.2.2, (act_yes HC.out).1, (act_yes HC.out).2]
                  exact ⟨HE8.out.1.2.base hle, HE8.out.2.1.2.base hle, HE8.out.2.2.1.2.base hle, HE8.out.2.2.2.1⟩
              · intro J K' hJ hK
                refine wp_letter ?_
                intro fr hfr
                have hsz : 53 < fr.tmps.size := by rw [hfr]; exact Nat.le_of_ble_eq_true rfl
                have t2 : fr.eval (.tmp 2) = .pointer (some ⟨w.heap.size, 0, none⟩) := by rw [hfr]; rfl
                have t3 : fr.eval (.tmp 3) = .pointer (some ⟨w.heap.size + 1, 0, none⟩) := by rw [hfr]; rfl
                have t4 : fr.eval (.tmp 4) = .pointer (some ⟨w.heap.size + 1 + 1, 0, none⟩) := by rw [hfr]; rfl
                have t8 : fr.eval (.tmp 8) = .map (some B) := by rw [hfr]; rfl
                have HFR := (show Hid _ from hfr)
                clear hfr
                refine wp_region_fin2 (Rel := fun v v' => Below v.heap.size v v') (fun v => Below.refl _ _) (fun h k => h.trans (k.mono h.size)) (fun v => (Below.refl _ _).drew) 12 rfl (by kernel_rfl) (by kernel_rfl) dsG slotG (GF w.heap.size w7.heap.size B (.slice aS S.length cS) adO cO (doF L o).1 S O o) _ _ rfl rfl (by kernel_rfl) (by kernel_rfl) (fun a' w' => ∃ f, a' = canon fr dsG f ∧ (∃ x y z, w'.heap[w.heap.size + 1 + 1]? = some (.cells #[x, y, z] 27 (0, 0)) ∧ HoldF w' w7.heap.size x (doF L o).1 ∧ HoldF w' w7.heap.size y S ∧ HoldO w' w7.heap.size z (O ++ [o]) ∧ (∀ k, x.ownBlock = some k → y.ownBlock ≠ some k) ∧ Below w.heap.size w w')) (fun _ _ _ _ h hB => h.below hB) ?_ ?_ ?_ ?_ ?_ ?_
                · intro j f f' wy hj he h
                  exact h.dep hj (fun i hi => he i (by revert hi; match j, hj with | 0, _ => (intro hi; simp only [depG, beq_iff_eq] at hi; rcases hi with rfl <;> kernel_rfl) | 1, _ => (intro hi; simp only [depG, beq_iff_eq] at hi; rcases hi with rfl <;> kernel_rfl) | 2, _ => (intro hi; simp only [depG, beq_iff_eq] at hi; rcases hi with rfl <;> kernel_rfl) | 3, _ => (intro hi; simp only [depG, beq_iff_eq] at hi; rcases hi with rfl <;> kernel_rfl) | 4, _ => (intro hi; simp only [depG, Bool.or_eq_true, beq_iff_eq] at hi; rcases hi with rfl | rfl <;> kernel_rfl) | 5, _ => (intro hi; simp only [depG, beq_iff_eq] at hi; rcases hi with rfl <;> kernel_rfl) | 6, _ => (intro hi; simp only [depG, beq_iff_eq] at hi; rcases hi with rfl <;> kernel_rfl) | 7, _ => (intro hi; simp only [depG, beq_iff_eq] at hi; rcases hi with rfl <;> kernel_rfl) | 8, _ => (intro hi; simp only [depG, beq_iff_eq] at hi; rcases hi with rfl <;> kernel_rfl) | 9, _ => (intro hi; simp only [depG, beq_iff_eq] at hi; rcases hi with rfl <;> kernel_rfl) | 10, _ => (intro hi; simp only [depG, beq_iff_eq] at hi; rcases hi with rfl <;> kernel_rfl) | 11, _ => (intro hi; simp only [depG, Bool.or_eq_true, beq_iff_eq] at hi; rcases hi with ((rfl | rfl) | rfl) | rfl <;> kernel_rfl)))
                · intro i hi
                  exact slotG_mem i hi
                · intro i j hi hj q
                  exact slotG_inj i j hi hj q
                · intro ops hops f wy j oo hj hy ho hd
                  have ho2 := ho
                  rw [hops] at ho
                  have N2 := (canon_eval_ne fr dsG f 2 (by decide)).trans t2
                  have N3 := (canon_eval_ne fr dsG f 3 (by decide)).trans t3
                  have N8 := (canon_eval_ne fr dsG f 8 (by decide)).trans t8
                  have hj' : j = 0 ∨ j = 1 ∨ j = 2 ∨ j = 3 ∨ j = 4 ∨ j = 5 ∨ j = 6 ∨ j = 7 ∨ j = 8 ∨ j = 9 ∨ j = 10 ∨ j = 11 := by omega
                  rcases hj' with rfl | rfl | rfl | rfl | rfl | rfl | rfl | rfl | rfl | rfl | rfl | rfl <;> simp only [List.getElem?_toArray, List.getElem?_cons_succ, List.getElem?_cons_zero, Option.some.injEq] at ho <;> subst ho
                  · refine wpOp_runG ho2 (wanted_none rfl) (q_moveD (canon fr dsG f).eval _ wy _ rfl) ?_
                    exact ⟨_, rfl, (upd_same f 42 _).trans N8, Below.refl _ _⟩
                  · refine wpOp_enterG ho2 (wanted_none rfl) (q_call1I (canon fr dsG f).eval _ wy _ HEN1.out _ _ rfl rfl) ?_
                    rw [(canon_eval fr dsG f 42 (by decide) (Nat.lt_of_le_of_lt (by decide) hsz)).trans (hd ⟨0, .data⟩ (by simp) rfl (by decide))]
                    refine (shFiles_any w2.heap.size B (2 * L.length + 2) (doF L o).1 D' p' wy (HS7.out.below hy) (by have := HUS.out.2.1; omega) HSM.out.2.1 HSM.out.2.2).mono ?_
                    rintro e wz ⟨u, rfl, hu, hBz⟩
                    exact ⟨_, rfl, _, rfl, by show HoldF _ _ (upd f 43 u 43) (doF L o).1; rw [upd_same]; exact hu.hold.base hy.size, hBz⟩
                  · refine wpOp_runG ho2 (wanted_none rfl) (q_fieldK (canon fr dsG f).eval _ wy _ w.heap.size 1 rfl N2 (by decide)) ?_
                    exact ⟨_, rfl, upd_same f 44 _, Below.refl _ _⟩
                  · refine wpOp_runG ho2 (wanted_none rfl) (q_loadF (canon fr dsG f).eval _ wy _ w.heap.size 1 rfl ((canon_eval fr dsG f 44 (by decide) (Nat.lt_of_le_of_lt (by decide) hsz)).trans (hd ⟨2, .data⟩ (by simp) rfl (by decide))) (HC7.out wy hy).1.c1) ?_
                    exact ⟨_, rfl, upd_same f 45 _, Below.refl _ _⟩
                  · have h9 : HoldF wy w7.heap.size (f 43) (doF L o).1 := hd ⟨1, .chain⟩ (by simp) rfl (by decide)
                    refine wpOp_enterG ho2 (wanted_none rfl) (q_call1I (canon fr dsG f).eval _ wy _ HEN2.out _ _ rfl rfl) ?_
                    rw [(canon_eval fr dsG f 45 (by decide) (Nat.lt_of_le_of_lt (by decide) hsz)).trans (hd ⟨3, .data⟩ (by simp) rfl (by decide))]
                    refine (cloneF_any _ S wy (HC7.out wy hy).2.2.2.1 HN.out.2.1).mono ?_
                    rintro e wz ⟨u, rfl, hu, hBz⟩
                    refine ⟨_, rfl, _, rfl, ⟨by show HoldF _ _ (upd f 46 u 46) S; rw [upd_same]; exact hu.base hy.size, fun q hk => ?_⟩, hBz⟩
                    have e9 : upd f 46 u 43 = f 43 := upd_ne f u (by decide)
                    have hk' : (f 43).ownBlock = some q := by rw [← e9]; exact hk
                    show (upd f 46 u 46).ownBlock ≠ some q
                    rw [upd_same]
                    intro e
                    have h1 := (h9.2.lt q hk').2
                    have h2 := (hu.2.lt q e).1
                    omega
                  · refine wpOp_runG ho2 (wanted_none rfl) (q_fieldK (canon fr dsG f).eval _ wy _ w.heap.size 2 rfl N2 (by decide)) ?_
                    exact ⟨_, rfl, upd_same f 47 _, Below.refl _ _⟩
                  · refine wpOp_runG ho2 (wanted_none rfl) (q_loadO (canon fr dsG f).eval _ wy _ w.heap.size 2 rfl ((canon_eval fr dsG f 47 (by decide) (Nat.lt_of_le_of_lt (by decide) hsz)).trans (hd ⟨5, .data⟩ (by simp) rfl (by decide))) (HC7.out wy hy).1.c2) ?_
                    exact ⟨_, rfl, (upd_same f 48 _).trans (by rw [HAO.out]), Below.refl _ _⟩
                  · refine wpOp_runG ho2 (wanted_none rfl) (q_loadOp (canon fr dsG f).eval _ wy _ (w.heap.size + 1) o rfl N3 (HC7.out wy hy).2.1) ?_
                    exact ⟨_, rfl, upd_same f 49 _, Below.refl _ _⟩
                  · refine wpOp_runG ho2 (wanted_none rfl) (q_lit1O (canon fr dsG f).eval _ wy _ o rfl ((canon_eval fr dsG f 49 (by decide) (Nat.lt_of_le_of_lt (by decide) hsz)).trans (hd ⟨7, .data⟩ (by simp) rfl (by decide)))) ?_
                    exact ⟨_, rfl, ⟨wy.heap.size, upd_same f 50 _, hy.size, heap_alloc_new _ _⟩, (Below.refl _ _).alloc (Nat.le_refl _) _⟩
                  · have h48 : f 48 = .slice (some adO) O.length cO := hd ⟨6, .data⟩ (by simp) rfl (by decide)
                    obtain ⟨g, eg, hbg, hgh⟩ := hd ⟨8, .data⟩ (by simp) rfl (by decide)
                    refine wpOp_runG ho2 (wanted_none rfl) (q_lit2O (canon fr dsG f).eval _ wy _ _ rfl ((canon_eval fr dsG f 48 (by decide) (Nat.lt_of_le_of_lt (by decide) hsz)).trans h48) ((canon_eval fr dsG f 50 (by decide) (Nat.lt_of_le_of_lt (by decide) hsz)).trans eg)) ?_
                    have hba : Below wy.heap.size wy (wy.alloc (.cells #[.slice (some adO) O.length cO, .slice (some ⟨g, 0, none⟩) 1 1] 25)) := (Below.refl _ _).alloc (Nat.le_refl _) _
                    exact ⟨_, rfl, ⟨wy.heap.size, g, upd_same f 51 _, heap_alloc_new _ _, (hba.block _ (lt_of_block hgh)).trans hgh⟩, hba⟩
                  · obtain ⟨g2, g, eg, hg2, hg⟩ := hd ⟨9, .data⟩ (by simp) rfl (by decide)
                    refine wpOp_enterG ho2 (wanted_none rfl) (q_call1I (canon fr dsG f).eval _ wy _ HEN3.out _ _ rfl rfl) ?_
                    rw [(canon_eval fr dsG f 51 (by decide) (Nat.lt_of_le_of_lt (by decide) hsz)).trans eg]
                    have hro : RdO wy (.slice (some adO) O.length cO) O := by have := (HC7.out wy hy).2.2.2.2; rw [HAO.out] at this; exact this
                    refine (concat_any g2 adO ⟨g, 0, none⟩ cO 1 O [o] wy (cellN hg2) (cellN hg2) (fun w' hB => (hro.below hB).news) (fun w' hB => one_news ((hB.block _ (lt_of_block hg)).trans hg)) (by have := HUS.out.2.2.2; omega) (by simp)).mono ?_
                    rintro e wz ⟨u, rfl, hu, hBz⟩
                    exact ⟨_, rfl, _, rfl, by show HoldO _ _ (upd f 52 u 52) (O ++ [o]); rw [upd_same]; exact hu.hold.base hy.size, hBz⟩
                  · have h9 : HoldF wy w7.heap.size (f 43) (doF L o).1 := hd ⟨1, .data⟩ (by simp) rfl (by decide)
                    have h12 : HoldF wy w7.heap.size (f 46) S ∧ _ := hd ⟨4, .data⟩ (by simp) rfl (by decide)
                    have h15 : HoldO wy w7.heap.size (f 52) (O ++ [o]) := hd ⟨10, .data⟩ (by simp) rfl (by decide)
                    obtain ⟨a9, c9, e9⟩ := h9.2.slice
                    obtain ⟨a12, c12, e12⟩ := h12.1.2.slice
                    obtain ⟨a15, c15, e15⟩ := h15.2.slice
                    refine wpOp_runG ho2 (wanted_none rfl) (q_build3 (canon fr dsG f).eval _ wy _ _ _ rfl ((canon_eval fr dsG f 43 (by decide) (Nat.lt_of_le_of_lt (by decide) hsz)).trans e9) ((canon_eval fr dsG f 46 (by decide) (Nat.lt_of_le_of_lt (by decide) hsz)).trans e12) ((canon_eval fr dsG f 52 (by decide) (Nat.lt_of_le_of_lt (by decide) hsz)).trans e15)) ?_
                    refine ⟨_, rfl, ?_, Below.refl _ _⟩
                    show upd f 53 _ 53 = .agg #[upd f 53 _ 43, upd f 53 _ 46, upd f 53 _ 52]
                    rw [upd_same, upd_ne f _ (by decide : (43 : Nat) ≠ 53), upd_ne f _ (by decide : (46 : Nat) ≠ 53), upd_ne f _ (by decide : (52 : Nat) ≠ 53), e9, e12, e15]
                · intro ops hops f wy hy ho hall
                  have ho2 := ho
                  have N4 := (canon_eval_ne fr dsG f 4 (by decide)).trans t4
                  have h9 : HoldF wy w7.heap.size (f 43) (doF L o).1 := hall 1 (by omega)
                  have h12 : HoldF wy w7.heap.size (f 46) S ∧ _ := hall 4 (by omega)
                  have h15 : HoldO wy w7.heap.size (f 52) (O ++ [o]) := hall 10 (by omega)
                  have h13 : f 53 = .agg #[f 43, f 46, f 52] := hall 11 (by omega)
                  obtain ⟨a9, c9, e9⟩ := h9.2.slice
                  obtain ⟨a12, c12, e12⟩ := h12.1.2.slice
                  obtain ⟨a15, c15, e15⟩ := h15.2.slice
                  have hrb := (HC7.out wy hy).2.2.1
                  refine wpOp_storeD ho2 (wanted_none rfl) _ _ (w.heap.size + 1 + 1) rfl N4 ((canon_eval fr dsG f 53 (by decide) (Nat.lt_of_le_of_lt (by decide) hsz)).trans (h13.trans (by rw [e9, e12, e15]))) rfl hrb ?_
                  intro wz hz1 hz2 hz3 hz4 hz5 hz6
                  have hlt : w.heap.size + 1 + 1 < w7.heap.size := HLT7.out
                  have hkz : ∀ k, w7.heap.size ≤ k → k < wy.heap.size → wz.heap[k]? = wy.heap[k]? := fun k h1 h2 => hz2 k (by omega)
                  refine ⟨f, rfl, f 43, f 46, f 52, ?_, h9.kept (by omega) hkz, h12.1.kept (by omega) hkz, h15.kept (by omega) hkz, h12.2, ?_⟩
                  · rw [e9, e12, e15]; exact hz1
                  · have hb7 := HW7.out
                    have hbw := hb7.trans (hy.mono hb7.size)
                    exact ⟨hz4.trans hbw.os, hz5.trans hbw.tape, hz6.trans hbw.output, by rw [hz3]; exact hbw.size, fun k hk => (hz2 k (by omega)).trans (hbw.block k hk)⟩
                · rintro ops hops a wy ⟨f, rfl, hpost⟩ ho
                  refine wpOp_runG ho (wanted_none rfl) (q_assignC (canon fr dsG f).eval _ wy _ rfl) ?_
                  exact hK _ _ (Met.intro (hJ _ _ ⟨f, congrArg (fun z => (canon z dsG f).put (some 5) (.int .i64 0)) HFR.out, hpost⟩))
      · rw [chV_rem hk]
        have hm := mRem o.n
        have HK : Hid (o.k = 3) := hk
        clear hk
        go_wp2_with fail
        refine (rem_any o.n w2.heap.size B (2 * L.length) L D0 p0 w3 HS3.out.1 HS3.out.2.size (by have := HOZ.out.1; omega)).mono ?_
        rintro e w6 ⟨rfl, D', p', hS6, hB6⟩
        cases hg : getF L o.n with
        | none =>
          have HC : Hid (actC L O o = 3) := by
            have : (doF L o).2 = false := by
              unfold doF
              rw [if_neg (by rw [HK.out]; decide), hg]
            show _ = _
            unfold actC
            rw [if_neg (by rw [HFO.out]; decide), if_pos this]
          have HB6 : Hid (Below X.heap.size X w6) := HB2.out.trans ((HS3.out.2.trans hB6).mono HB2.out.size)
          have hg6 := HG.out w6 HB6.out
          have c0 := hg6.1.c0
          have c1 := hg6.1.c1
          have c2 := hg6.1.c2
          clear hS6 hB6 hg6 hg hm
          go_wp2_with fail
          refine (implCopy_any _ _ _ L S O w6 (HA.out w6 (HG.out w6 HB6.out).2.2.2) HN.out).mono ?_
          rintro e wc ⟨x, y, z, rfl, hr, hh, hBc⟩
          obtain ⟨b1, d1, b2, d2, b3, d3, ex, ey, ez⟩ := hr.slices
          subst ex ey ez
          have HBc : Hid (Below X.heap.size X wc) := HB6.out.trans (hBc.mono HB6.out.size)
          have HHc : Hid _ := hh
          have HR3 : Hid (At3 wc (w.heap.size + 1 + 1) 27 (.slice none 0 0) (.slice none 0 0) (.slice none 0 0)) := (HG.out wc HBc.out).2.2.1
          have HLT : Hid (w.heap.size + 1 + 1 < w6.heap.size) := (HG.out w6 HB6.out).2.2.1.lt
          obtain ⟨q, hq⟩ : ∃ q, q = #[Value.slice b1 L.length d1, .slice b2 S.length d2, .slice b3 O.length d3] := ⟨_, rfl⟩
          have hi6 : (Try.prog.info? 27).map (·.size) = some q.size := by rw [hq]; exact infoDk
          have ho6 : (#[Value.slice none 0 0, .slice none 0 0, .slice none 0 0] : Array Value).size = q.size := by rw [hq]; rfl
          have h16 : q.all (·.oneCell') = true := by rw [hq]; simp [Value.oneCell']
          have HRc : Hid (RdD wc (.slice b1 L.length d1) (.slice b2 S.length d2) (.slice b3 O.length d3) L S O) := hr
          clear hr hh hBc
          go_wp2_with (refine wpList_store_row rfl 27 _ _ rfl (w.heap.size + 1 + 1) q rfl (congrArg Value.agg hq.symm) 27 _ HR3.out hi6 ho6 h16 ?_)
          subst hq
          have hkz : ∀ k, w6.heap.size ≤ k → k < wc.heap.size → (wc.setRow (w.heap.size + 1 + 1) #[Value.slice b1 L.length d1, .slice b2 S.length d2, .slice b3 O.length d3]).heap[k]? = wc.heap[k]? := fun k h1 h2 => setRow_other _ _ _ _ (by have := HLT.out; omega)
          have hszz : wc.heap.size ≤ (wc.setRow (w.heap.size + 1 + 1) #[Value.slice b1 L.length d1, .slice b2 S.length d2, .slice b3 O.length d3]).heap.size := by simp [World.setRow]
          refine bodyPost_ret (v := .tuple #[.agg #[Value.slice b1 L.length d1, .slice b2 S.length d2, .slice b3 O.length d3], _]) (results_row_tmp rfl _ _ (w.heap.size + 1 + 1) 27 _ _ _ rfl (setRow_heap _ _ _ _ _ _ HR3.out) Try.underlying27 rfl hi6) rfl ⟨_, _, _, ret_val (by rw [HD.out.1, HC.out]; rfl), ?_, ?_, ?_⟩
          · rw [HD.out.2.1, HD.out.2.2.1, HD.out.2.2.2, (act_no HC.out (by decide)).1, (act_no HC.out (by decide)).2]
            exact RdD.own HRc.out HHc.out hszz hkz
          · rw [HD.out.2.1, HD.out.2.2.1, HD.out.2.2.2, (act_no HC.out (by decide)).1, (act_no HC.out (by decide)).2]
            exact (HHc.out.kept hkz).base (by have := HLT.out; omega)
          · exact below_setRow (HG.out wc HBc.out).2.2.2 (by omega) _
        | some x =>
          have HE : Hid (Sh w6 w2.heap.size B (2 * L.length + 2) (doF L o).1 D' p' ∧ Below w2.heap.size w2 w6 ∧ (doF L o).2 = true) := by
            have e : doF L o = (cutF L o.n, true) := by
              unfold doF
              rw [if_neg (by rw [HK.out]; decide), hg]
              simp only
              rw [if_neg (by rw [HK.out]; decide)]
            refine ⟨?_, HS3.out.2.trans hB6, by rw [e]⟩
            rw [e]
            exact hS6.more (by omega)
          clear hS6 hB6 hg hm
          have HB6 : Hid (Below X.heap.size X w6) := HB2.out.trans (HE.out.2.1.mono HB2.out.size)
          have hg6 := HG.out w6 HB6.out
          have c0 := hg6.1.c0
          have c1 := hg6.1.c1
          have c2 := hg6.1.c2
          clear hg6
          by_cases h200 : O.length = 200
          · have h200b : ((O.length : Int) == 200) = true := by simp; omega
            have HC : Hid (actC L O o = 4) := by show _ = _; unfold actC; rw [if_neg (by rw [HFO.out]; decide), if_neg (by rw [HE.out.2.2]; decide), if_pos (.inl h200)]
            clear h200
            go_wp2_with fail
            refine (implCopy_any _ _ _ L S O w6 (HA.out w6 (HG.out w6 HB6.out).2.2.2) HN.out).mono ?_
            rintro e wc ⟨x, y, z, rfl, hr, hh, hBc⟩
            obtain ⟨b1, d1, b2, d2, b3, d3, ex, ey, ez⟩ := hr.slices
            subst ex ey ez
            have HBc : Hid (Below X.heap.size X wc) := HB6.out.trans (hBc.mono HB6.out.size)
            have HHc : Hid _ := hh
            have HR3 : Hid (At3 wc (w.heap.size + 1 + 1) 27 (.slice none 0 0) (.slice none 0 0) (.slice none 0 0)) := (HG.out wc HBc.out).2.2.1
            have HLT : Hid (w.heap.size + 1 + 1 < w6.heap.size) := (HG.out w6 HB6.out).2.2.1.lt
            obtain ⟨q, hq⟩ : ∃ q, q = #[Value.slice b1 L.length d1, .slice b2 S.length d2, .slice b3 O.length d3] := ⟨_, rfl⟩
            have hi6 : (Try.prog.info? 27).map (·.size) = some q.size := by rw [hq]; exact infoDk
            have ho6 : (#[Value.slice none 0 0, .slice none 0 0, .slice none 0 0] : Array Value).size = q.size := by rw [hq]; rfl
            have h16 : q.all (·.oneCell') = true := by rw [hq]; simp [Value.oneCell']
            have HRc : Hid (RdD wc (.slice b1 L.length d1) (.slice b2 S.length d2) (.slice b3 O.length d3) L S O) := hr
            clear hr hh hBc
            go_wp2_with (refine wpList_store_row rfl 27 _ _ rfl (w.heap.size + 1 + 1) q rfl (congrArg Value.agg hq.symm) 27 _ HR3.out hi6 ho6 h16 ?_)
            subst hq
            have hkz : ∀ k, w6.heap.size ≤ k → k < wc.heap.size → (wc.setRow (w.heap.size + 1 + 1) #[Value.slice b1 L.length d1, .slice b2 S.length d2, .slice b3 O.length d3]).heap[k]? = wc.heap[k]? := fun k h1 h2 => setRow_other _ _ _ _ (by have := HLT.out; omega)
            have hszz : wc.heap.size ≤ (wc.setRow (w.heap.size + 1 + 1) #[Value.slice b1 L.length d1, .slice b2 S.length d2, .slice b3 O.length d3]).heap.size := by simp [World.setRow]
            refine bodyPost_ret (v := .tuple #[.agg #[Value.slice b1 L.length d1, .slice b2 S.length d2, .slice b3 O.length d3], _]) (results_row_tmp rfl _ _ (w.heap.size + 1 + 1) 27 _ _ _ rfl (setRow_heap _ _ _ _ _ _ HR3.out) Try.underlying27 rfl hi6) rfl ⟨_, _, _, ret_val (by rw [HD.out.1, HC.out]; rfl), ?_, ?_, ?_⟩
            · rw [HD.out.2.1, HD.out.2.2.1, HD.out.2.2.2, (act_no HC.out (by decide)).1, (act_no HC.out (by decide)).2]
              exact RdD.own HRc.out HHc.out hszz hkz
            · rw [HD.out.2.1, HD.out.2.2.1, HD.out.2.2.2, (act_no HC.out (by decide)).1, (act_no HC.out (by decide)).2]
              exact (HHc.out.kept hkz).base (by have := HLT.out; omega)
            · exact below_setRow (HG.out wc HBc.out).2.2.2 (by omega) _
          · have h200b : ((O.length : Int) == 200) = false := by simp; omega
            have HN2 : Hid (O.length ≠ 200) := h200
            clear h200
            go_wp2_with fail
            refine (fits_any w2.heap.size B (2 * L.length + 2) _ D' p' w6 HE.out.1 HSM.out.1 HSM.out.2.1).mono ?_
            rintro e w7 ⟨rfl, hB7⟩
            rw [← HFB.out]
            have HB7 : Hid (Below X.heap.size X w7) := HB6.out.trans (hB7.mono HB6.out.size)
            have HS7 : Hid (Sh w7 w2.heap.size B (2 * L.length + 2) (doF L o).1 D' p') := HE.out.1.below hB7
            clear hB7 c0 c1 c2 h200b
            have hg7 := HG.out w7 HB7.out
            have c0 := hg7.1.c0
            have c1 := hg7.1.c1
            have c2 := hg7.1.c2
            cases hfb : filesB (doF L o).1 with
            | false =>
              have HC : Hid (actC L O o = 4) := by show _ = _; unfold actC; rw [if_neg (by rw [HFO.out]; decide), if_neg (by rw [HE.out.2.2]; decide), if_pos (.inr hfb)]
              clear hfb hg7
              go_wp2_with fail
              refine (implCopy_any _ _ _ L S O w7 (HA.out w7 (HG.out w7 HB7.out).2.2.2) HN.out).mono ?_
              rintro e wc ⟨x, y, z, rfl, hr, hh, hBc⟩
              obtain ⟨b1, d1, b2, d2, b3, d3, ex, ey, ez⟩ := hr.slices
              subst ex ey ez
              have HBc : Hid (Below X.heap.size X wc) := HB7.out.trans (hBc.mono HB7.out.size)
              have HHc : Hid _ := hh
              have HR3 : Hid (At3 wc (w.heap.size + 1 + 1) 27 (.slice none 0 0) (.slice none 0 0) (.slice none 0 0)) := (HG.out wc HBc.out).2.2.1
              have HLT : Hid (w.heap.size + 1 + 1 < w7.heap.size) := (HG.out w7 HB7.out).2.2.1.lt
              obtain ⟨q, hq⟩ : ∃ q, q = #[Value.slice b1 L.length d1, .slice b2 S.length d2, .slice b3 O.length d3] := ⟨_, rfl⟩
              have hi6 : (Try.prog.info? 27).map (·.size) = some q.size := by rw [hq]; exact infoDk
              have ho6 : (#[Value.slice none 0 0, .slice none 0 0, .slice none 0 0] : Array Value).size = q.size := by rw [hq]; rfl
              have h16 : q.all (·.oneCell') = true := by rw [hq]; simp [Value.oneCell']
              have HRc : Hid (RdD wc (.slice b1 L.length d1) (.slice b2 S.length d2) (.slice b3 O.length d3) L S O) := hr
              clear hr hh hBc
              go_wp2_with (refine wpList_store_row rfl 27 _ _ rfl (w.heap.size + 1 + 1) q rfl (congrArg Value.agg hq.symm) 27 _ HR3.out hi6 ho6 h16 ?_)
              subst hq
              have hkz : ∀ k, w7.heap.size ≤ k → k < wc.heap.size → (wc.setRow (w.heap.size + 1 + 1) #[Value.slice b1 L.length d1, .slice b2 S.length d2, .slice b3 O.length d3]).heap[k]? = wc.heap[k]? := fun k h1 h2 => setRow_other _ _ _ _ (by have := HLT.out; omega)
              have hszz : wc.heap.size ≤ (wc.setRow (w.heap.size + 1 + 1) #[Value.slice b1 L.length d1, .slice b2 S.length d2, .slice b3 O.length d3]).heap.size := by simp [World.setRow]
              refine bodyPost_ret (v := .tuple #[.agg #[Value.slice b1 L.length d1, .slice b2 S.length d2, .slice b3 O.length d3], _]) (results_row_tmp rfl _ _ (w.heap.size + 1 + 1) 27 _ _ _ rfl (setRow_heap _ _ _ _ _ _ HR3.out) Try.underlying27 rfl hi6) rfl ⟨_, _, _, ret_val (by rw [HD.out.1, HC.out]; rfl), ?_, ?_, ?_⟩
              · rw [HD.out.2.1, HD.out.2.2.1, HD.out.2.2.2, (act_no HC.out (by decide)).1, (act_no HC.out (by decide)).2]
                exact RdD.own HRc.out HHc.out hszz hkz
              · rw [HD.out.2.1, HD.out.2.2.1, HD.out.2.2.2, (act_no HC.out (by decide)).1, (act_no HC.out (by decide)).2]
                exact (HHc.out.kept hkz).base (by have := HLT.out; omega)
              · exact below_setRow (HG.out wc HBc.out).2.2.2 (by omega) _
            | true =>
              have HC : Hid (actC L O o = 0) := by show _ = _; unfold actC; rw [if_neg (by rw [HFO.out]; decide), if_neg (by rw [HE.out.2.2]; decide), if_neg (fun h => h.elim HN2.out (fun h => by rw [hfb] at h; cases h))]
              clear hfb
              have HC7 : Hid (∀ wy, Below w7.heap.size w7 wy → At3 wy w.heap.size 27 (.slice aL L.length cL) (.slice aS S.length cS) (.slice aO O.length cO) ∧ wy.heap[w.heap.size + 1]? = some (.cells #[.int .i64 o.k, .string o.n, .string o.t, .string o.d] 49 (0, 0)) ∧ At3 wy (w.heap.size + 1 + 1) 27 (.slice none 0 0) (.slice none 0 0) (.slice none 0 0) ∧ RdF wy (.slice aS S.length cS) S ∧ RdO wy (.slice aO O.length cO) O) := fun wy hy => by
                have hb := HB7.out.trans (hy.mono HB7.out.size)
                have hg := HG.out wy hb
                have ha := HA.out wy hg.2.2.2
                exact ⟨hg.1, hg.2.1, hg.2.2.1, ha.2.1, ha.2.2⟩
              have HLT7 : Hid (w.heap.size + 1 + 1 < w7.heap.size) := hg7.2.2.1.lt
              have HW7 : Hid (Below w.heap.size w w7) := hg7.2.2.2
              clear hg7 c0 c1 c2
              go_wp2
              refine wp_cut_to (fun a0 t w' => ∃ f, t = (canon a0 dsG f).put (some 5) (.int .i64 0) ∧ (∃ x y z, w'.heap[w.heap.size + 1 + 1]? = some (.cells #[x, y, z] 27 (0, 0)) ∧ HoldF w' w7.heap.size x (doF L o).1 ∧ HoldF w' w7.heap.size y S ∧ HoldO w' w7.heap.size z (O ++ [o]) ∧ (∀ k, x.ownBlock = some k → y.ownBlock ≠ some k) ∧ Below w.heap.size w w')) ?_ ?_
              · rintro _ w8 ⟨f, rfl, h8⟩
                simp only [canon, dsG, List.foldl, Act.put, List.setIfInBounds_toArray, List.set_cons_succ, List.set_cons_zero]
                obtain ⟨x, y, z, hb8, hx8, hy8, hz8, hap, hbw⟩ := h8
                have HE8 : Hid (HoldF w8 w7.heap.size x (doF L o).1 ∧ HoldF w8 w7.heap.size y S ∧ HoldO w8 w7.heap.size z (O ++ [o]) ∧ (∀ k, x.ownBlock = some k → y.ownBlock ≠ some k) ∧ Below w.heap.size w w8) := ⟨hx8, hy8, hz8, hap, hbw⟩
                clear hx8 hy8 hz8 hap hbw
                go_wp2
                have hle := HW7.out.size
                refine bodyPost_ret (v := .tuple #[.agg #[x, y, z], _]) (results_row_tmp rfl _ _ (w.heap.size + 1 + 1) 27 _ _ _ rfl hb8 Try.underlying27 rfl infoDk) rfl ⟨x, y, z, ret_val (by rw [HD.out.1, HC.out]; rfl), ?_, ?_, HE8.out.2.2.2.2⟩
                · rw [HD.out.2.1, HD.out.2.2.1, HD.out.2.2.2, (act_yes HC.out).1, (act_yes HC.out).2]
                  exact ⟨HE8.out.1.1, HE8.out.2.1.1, HE8.out.2.2.1.1⟩
                · rw [HD.out.2.1, HD.out.2.2.1, HD.out.2.2.2, (act_yes HC.out).1, (act_yes HC.out).2]
                  exact ⟨HE8.out.1.2.base hle, HE8.out.2.1.2.base hle, HE8.out.2.2.1.2.base hle, HE8.out.2.2.2.1⟩
              · intro J K' hJ hK
                refine wp_letter ?_
                intro fr hfr
                have hsz : 53 < fr.tmps.size := by rw [hfr]; exact Nat.le_of_ble_eq_true rfl
                have t2 : fr.eval (.tmp 2) = .pointer (some ⟨w.heap.size, 0, none⟩) := by rw [hfr]; rfl
                have t3 : fr.eval (.tmp 3) = .pointer (some ⟨w.heap.size + 1, 0, none⟩) := by rw [hfr]; rfl
                have t4 : fr.eval (.tmp 4) = .pointer (some ⟨w.heap.size + 1 + 1, 0, none⟩) := by rw [hfr]; rfl
                have t8 : fr.eval (.tmp 8) = .map (some B) := by rw [hfr]; rfl
                have HFR := (show Hid _ from hfr)
                clear hfr
                refine wp_region_fin2 (Rel := fun v v' => Below v.heap.size v v') (fun v => Below.refl _ _) (fun h k => h.trans (k.mono h.size)) (fun v => (Below.refl _ _).drew) 12 rfl (by kernel_rfl) (by kernel_rfl) dsG slotG (GF w.heap.size w7.heap.size B (.slice aS S.length cS) adO cO (doF L o).1 S O o) _ _ rfl rfl (by kernel_rfl) (by kernel_rfl) (fun a' w' => ∃ f, a' = canon fr dsG f ∧ (∃ x y z, w'.heap[w.heap.size + 1 + 1]? = some (.cells #[x, y, z] 27 (0, 0)) ∧ HoldF w' w7.heap.size x (doF L o).1 ∧ HoldF w' w7.heap.size y S ∧ HoldO w' w7.heap.size z (O ++ [o]) ∧ (∀ k, x.ownBlock = some k → y.ownBlock ≠ some k) ∧ Below w.heap.size w w')) (fun _ _ _ _ h hB => h.below hB) ?_ ?_ ?_ ?_ ?_ ?_
                · intro j f f' wy hj he h
                  exact h.dep hj (fun i hi => he i (by revert hi; match j, hj with | 0, _ => (intro hi; simp only [depG, beq_iff_eq] at hi; rcases hi with rfl <;> kernel_rfl) | 1, _ => (intro hi; simp only [depG, beq_iff_eq] at hi; rcases hi with rfl <;> kernel_rfl) | 2, _ => (intro hi; simp only [depG, beq_iff_eq] at hi; rcases hi with rfl <;> kernel_rfl) | 3, _ => (intro hi; simp only [depG, beq_iff_eq] at hi; rcases hi with rfl <;> kernel_rfl) | 4, _ => (intro hi; simp only [depG, Bool.or_eq_true, beq_iff_eq] at hi; rcases hi with rfl | rfl <;> kernel_rfl) | 5, _ => (intro hi; simp only [depG, beq_iff_eq] at hi; rcases hi with rfl <;> kernel_rfl) | 6, _ => (intro hi; simp only [depG, beq_iff_eq] at hi; rcases hi with rfl <;> kernel_rfl) | 7, _ => (intro hi; simp only [depG, beq_iff_eq] at hi; rcases hi with rfl <;> kernel_rfl) | 8, _ => (intro hi; simp only [depG, beq_iff_eq] at hi; rcases hi with rfl <;> kernel_rfl) | 9, _ => (intro hi; simp only [depG, beq_iff_eq] at hi; rcases hi with rfl <;> kernel_rfl) | 10, _ => (intro hi; simp only [depG, beq_iff_eq] at hi; rcases hi with rfl <;> kernel_rfl) | 11, _ => (intro hi; simp only [depG, Bool.or_eq_true, beq_iff_eq] at hi; rcases hi with ((rfl | rfl) | rfl) | rfl <;> kernel_rfl)))
                · intro i hi
                  exact slotG_mem i hi
                · intro i j hi hj q
                  exact slotG_inj i j hi hj q
                · intro ops hops f wy j oo hj hy ho hd
                  have ho2 := ho
                  rw [hops] at ho
                  have N2 := (canon_eval_ne fr dsG f 2 (by decide)).trans t2
                  have N3 := (canon_eval_ne fr dsG f 3 (by decide)).trans t3
                  have N8 := (canon_eval_ne fr dsG f 8 (by decide)).trans t8
                  have hj' : j = 0 ∨ j = 1 ∨ j = 2 ∨ j = 3 ∨ j = 4 ∨ j = 5 ∨ j = 6 ∨ j = 7 ∨ j = 8 ∨ j = 9 ∨ j = 10 ∨ j = 11 := by omega
                  rcases hj' with rfl | rfl | rfl | rfl | rfl | rfl | rfl | rfl | rfl | rfl | rfl | rfl <;> simp only [List.getElem?_toArray, List.getElem?_cons_succ, List.getElem?_cons_zero, Option.some.injEq] at ho <;> subst ho
                  · refine wpOp_runG ho2 (wanted_none rfl) (q_moveD (canon fr dsG f).eval _ wy _ rfl) ?_
                    exact ⟨_, rfl, (upd_same f 42 _).trans N8, Below.refl _ _⟩
                  · refine wpOp_enterG ho2 (wanted_none rfl) (q_call1I (canon fr dsG f).eval _ wy _ HEN1.out _ _ rfl rfl) ?_
                    rw [(canon_eval fr dsG f 42 (by decide) (Nat.lt_of_le_of_lt (by decide) hsz)).trans (hd ⟨0, .data⟩ (by simp) rfl (by decide))]
                    refine (shFiles_any w2.heap.size B (2 * L.length + 2) (doF L o).1 D' p' wy (HS7.out.below hy) (by have := HUS.out.2.1; omega) HSM.out.2.1 HSM.out.2.2).mono ?_
                    rintro e wz ⟨u, rfl, hu, hBz⟩
                    exact ⟨_, rfl, _, rfl, by show HoldF _ _ (upd f 43 u 43) (doF L o).1; rw [upd_same]; exact hu.hold.base hy.size, hBz⟩
                  · refine wpOp_runG ho2 (wanted_none rfl) (q_fieldK (canon fr dsG f).eval _ wy _ w.heap.size 1 rfl N2 (by decide)) ?_
                    exact ⟨_, rfl, upd_same f 44 _, Below.refl _ _⟩
                  · refine wpOp_runG ho2 (wanted_none rfl) (q_loadF (canon fr dsG f).eval _ wy _ w.heap.size 1 rfl ((canon_eval fr dsG f 44 (by decide) (Nat.lt_of_le_of_lt (by decide) hsz)).trans (hd ⟨2, .data⟩ (by simp) rfl (by decide))) (HC7.out wy hy).1.c1) ?_
                    exact ⟨_, rfl, upd_same f 45 _, Below.refl _ _⟩
                  · have h9 : HoldF wy w7.heap.size (f 43) (doF L o).1 := hd ⟨1, .chain⟩ (by simp) rfl (by decide)
                    refine wpOp_enterG ho2 (wanted_none rfl) (q_call1I (canon fr dsG f).eval _ wy _ HEN2.out _ _ rfl rfl) ?_
                    rw [(canon_eval fr dsG f 45 (by decide) (Nat.lt_of_le_of_lt (by decide) hsz)).trans (hd ⟨3, .data⟩ (by simp) rfl (by decide))]
                    refine (cloneF_any _ S wy (HC7.out wy hy).2.2.2.1 HN.out.2.1).mono ?_
                    rintro e wz ⟨u, rfl, hu, hBz⟩
                    refine ⟨_, rfl, _, rfl, ⟨by show HoldF _ _ (upd f 46 u 46) S; rw [upd_same]; exact hu.base hy.size, fun q hk => ?_⟩, hBz⟩
                    have e9 : upd f 46 u 43 = f 43 := upd_ne f u (by decide)
                    have hk' : (f 43).ownBlock = some q := by rw [← e9]; exact hk
                    show (upd f 46 u 46).ownBlock ≠ some q
                    rw [upd_same]
                    intro e
                    have h1 := (h9.2.lt q hk').2
                    have h2 := (hu.2.lt q e).1
                    omega
                  · refine wpOp_runG ho2 (wanted_none rfl) (q_fieldK (canon fr dsG f).eval _ wy _ w.heap.size 2 rfl N2 (by decide)) ?_
                    exact ⟨_, rfl, upd_same f 47 _, Below.refl _ _⟩
                  · refine wpOp_runG ho2 (wanted_none rfl) (q_loadO (canon fr dsG f).eval _ wy _ w.heap.size 2 rfl ((canon_eval fr dsG f 47 (by decide) (Nat.lt_of_le_of_lt (by decide) hsz)).trans (hd ⟨5, .data⟩ (by simp) rfl (by decide))) (HC7.out wy hy).1.c2) ?_
                    exact ⟨_, rfl, (upd_same f 48 _).trans (by rw [HAO.out]), Below.refl _ _⟩
                  · refine wpOp_runG ho2 (wanted_none rfl) (q_loadOp (canon fr dsG f).eval _ wy _ (w.heap.size + 1) o rfl N3 (HC7.out wy hy).2.1) ?_
                    exact ⟨_, rfl, upd_same f 49 _, Below.refl _ _⟩
                  · refine wpOp_runG ho2 (wanted_none rfl) (q_lit1O (canon fr dsG f).eval _ wy _ o rfl ((canon_eval fr dsG f 49 (by decide) (Nat.lt_of_le_of_lt (by decide) hsz)).trans (hd ⟨7, .data⟩ (by simp) rfl (by decide)))) ?_
                    exact ⟨_, rfl, ⟨wy.heap.size, upd_same f 50 _, hy.size, heap_alloc_new _ _⟩, (Below.refl _ _).alloc (Nat.le_refl _) _⟩
                  · have h48 : f 48 = .slice (some adO) O.length cO := hd ⟨6, .data⟩ (by simp) rfl (by decide)
                    obtain ⟨g, eg, hbg, hgh⟩ := hd ⟨8, .data⟩ (by simp) rfl (by decide)
                    refine wpOp_runG ho2 (wanted_none rfl) (q_lit2O (canon fr dsG f).eval _ wy _ _ rfl ((canon_eval fr dsG f 48 (by decide) (Nat.lt_of_le_of_lt (by decide) hsz)).trans h48) ((canon_eval fr dsG f 50 (by decide) (Nat.lt_of_le_of_lt (by decide) hsz)).trans eg)) ?_
                    have hba : Below wy.heap.size wy (wy.alloc (.cells #[.slice (some adO) O.length cO, .slice (some ⟨g, 0, none⟩) 1 1] 25)) := (Below.refl _ _).alloc (Nat.le_refl _) _
                    exact ⟨_, rfl, ⟨wy.heap.size, g, upd_same f 51 _, heap_alloc_new _ _, (hba.block _ (lt_of_block hgh)).trans hgh⟩, hba⟩
                  · obtain ⟨g2, g, eg, hg2, hg⟩ := hd ⟨9, .data⟩ (by simp) rfl (by decide)
                    refine wpOp_enterG ho2 (wanted_none rfl) (q_call1I (canon fr dsG f).eval _ wy _ HEN3.out _ _ rfl rfl) ?_
                    rw [(canon_eval fr dsG f 51 (by decide) (Nat.lt_of_le_of_lt (by decide) hsz)).trans eg]
                    have hro : RdO wy (.slice (some adO) O.length cO) O := by have := (HC7.out wy hy).2.2.2.2; rw [HAO.out] at this; exact this
                    refine (concat_any g2 adO ⟨g, 0, none⟩ cO 1 O [o] wy (cellN hg2) (cellN hg2) (fun w' hB => (hro.below hB).news) (fun w' hB => one_news ((hB.block _ (lt_of_block hg)).trans hg)) (by have := HUS.out.2.2.2; omega) (by simp)).mono ?_
                    rintro e wz ⟨u, rfl, hu, hBz⟩
                    exact ⟨_, rfl, _, rfl, by show HoldO _ _ (upd f 52 u 52) (O ++ [o]); rw [upd_same]; exact hu.hold.base hy.size, hBz⟩
                  · have h9 : HoldF wy w7.heap.size (f 43) (doF L o).1 := hd ⟨1, .data⟩ (by simp) rfl (by decide)
                    have h12 : HoldF wy w7.heap.size (f 46) S ∧ _ := hd ⟨4, .data⟩ (by simp) rfl (by decide)
                    have h15 : HoldO wy w7.heap.size (f 52) (O ++ [o]) := hd ⟨10, .data⟩ (by simp) rfl (by decide)
                    obtain ⟨a9, c9, e9⟩ := h9.2.slice
                    obtain ⟨a12, c12, e12⟩ := h12.1.2.slice
                    obtain ⟨a15, c15, e15⟩ := h15.2.slice
                    refine wpOp_runG ho2 (wanted_none rfl) (q_build3 (canon fr dsG f).eval _ wy _ _ _ rfl ((canon_eval fr dsG f 43 (by decide) (Nat.lt_of_le_of_lt (by decide) hsz)).trans e9) ((canon_eval fr dsG f 46 (by decide) (Nat.lt_of_le_of_lt (by decide) hsz)).trans e12) ((canon_eval fr dsG f 52 (by decide) (Nat.lt_of_le_of_lt (by decide) hsz)).trans e15)) ?_
                    refine ⟨_, rfl, ?_, Below.refl _ _⟩
                    show upd f 53 _ 53 = .agg #[upd f 53 _ 43, upd f 53 _ 46, upd f 53 _ 52]
                    rw [upd_same, upd_ne f _ (by decide : (43 : Nat) ≠ 53), upd_ne f _ (by decide : (46 : Nat) ≠ 53), upd_ne f _ (by decide : (52 : Nat) ≠ 53), e9, e12, e15]
                · intro ops hops f wy hy ho hall
                  have ho2 := ho
                  have N4 := (canon_eval_ne fr dsG f 4 (by decide)).trans t4
                  have h9 : HoldF wy w7.heap.size (f 43) (doF L o).1 := hall 1 (by omega)
                  have h12 : HoldF wy w7.heap.size (f 46) S ∧ _ := hall 4 (by omega)
                  have h15 : HoldO wy w7.heap.size (f 52) (O ++ [o]) := hall 10 (by omega)
                  have h13 : f 53 = .agg #[f 43, f 46, f 52] := hall 11 (by omega)
                  obtain ⟨a9, c9, e9⟩ := h9.2.slice
                  obtain ⟨a12, c12, e12⟩ := h12.1.2.slice
                  obtain ⟨a15, c15, e15⟩ := h15.2.slice
                  have hrb := (HC7.out wy hy).2.2.1
                  refine wpOp_storeD ho2 (wanted_none rfl) _ _ (w.heap.size + 1 + 1) rfl N4 ((canon_eval fr dsG f 53 (by decide) (Nat.lt_of_le_of_lt (by decide) hsz)).trans (h13.trans (by rw [e9, e12, e15]))) rfl hrb ?_
                  intro wz hz1 hz2 hz3 hz4 hz5 hz6
                  have hlt : w.heap.size + 1 + 1 < w7.heap.size := HLT7.out
                  have hkz : ∀ k, w7.heap.size ≤ k → k < wy.heap.size → wz.heap[k]? = wy.heap[k]? := fun k h1 h2 => hz2 k (by omega)
                  refine ⟨f, rfl, f 43, f 46, f 52, ?_, h9.kept (by omega) hkz, h12.1.kept (by omega) hkz, h15.kept (by omega) hkz, h12.2, ?_⟩
                  · rw [e9, e12, e15]; exact hz1
                  · have hb7 := HW7.out
                    have hbw := hb7.trans (hy.mono hb7.size)
                    exact ⟨hz4.trans hbw.os, hz5.trans hbw.tape, hz6.trans hbw.output, by rw [hz3]; exact hbw.size, fun k hk => (hz2 k (by omega)).trans (hbw.block k hk)⟩
                · rintro ops hops a wy ⟨f, rfl, hpost⟩ ho
                  refine wpOp_runG ho (wanted_none rfl) (q_assignC (canon fr dsG f).eval _ wy _ rfl) ?_
                  exact hK _ _ (Met.intro (hJ _ _ ⟨f, congrArg (fun z => (canon z dsG f).put (some 5) (.int .i64 0)) HFR.out, hpost⟩))
end Go.Proofs.Ytbohaefmokbgbaa
