/-
  The library's joining of two lists of ops, the first of which may be nil; the program's Do with it. No condition but that the slices read and that the sizes are small.
  The program's search among rising files. No condition but that the slice reads.
  Both ReadFiles. No condition but that the slices read and that the sizes are small.
  Replace, plainly: the ops that it does and its answer. No condition.
  The specification's Replace at every disk whose slices read, every name and data of a moderate size. No condition but these.
  slices.Insert of one op ahead of a literal of two. No condition.
  The program's Replace at every disk whose slices read, every name and data of a moderate size. No condition but these.
  What is done is seen, plainly. No condition.
  Replace, plainly: what a loss of power leaves of it. No condition.
  FnReplaced: the walk of the law. No condition but that the code reads.
-/
import Derived.Test.YtbohaefmokbgbaaDkDi
import Derived.Laws.AppendOwnNone
import Derived.Test.YtbohaefmokbgbaaDkI
import Derived.Test.YtbohaefmokbgbaaShelfC
import Derived.Test.YtbohaefmokbgbaaDkX2
import Derived.Test.YtbohaefmokbgbaaDkDv
import Derived.Test.YtbohaefmokbgbaaDkA2
import Derived.Lib.AppendZerosOnto
import Derived.Laws.CopyRow
import Derived.Laws.NewBlocks
import Derived.Deep.RegionLaw
import Derived.Test.YtbohaefmokbgbaaDkQa
namespace Go.Proofs.Ytbohaefmokbgbaa
open Go.RowKit Go.Lib Go.Maps
set_option linter.unusedVariables false

set_option maxRecDepth 10000 in
set_option maxHeartbeats 4000000 in
theorem concatN_any (G : Nat) (ad2 : Addr) (c2 : Nat) (B : List Dop) (w : World) (g0 : w.cell? ⟨G, 0, none⟩ = some (.slice none 0 0)) (g1 : w.cell? ⟨G, 1, none⟩ = some (.slice (some ad2) B.length c2))
    (h2 : ∀ w', Below w.heap.size w w' → ∀ j u, (cellsO B)[j]? = some u → w'.cell? (ad2.add j) = some u) (hB : B.length ≤ 1000) :
    Calls Try.prog 49 #[.slice (some ⟨G, 0, none⟩) 2 2] w fun e w' => ∃ v, e = .returned v ∧ OwnO w' w.heap.size v B ∧ Below w.heap.size w w' := by
  obtain ⟨i0, hi, hz0, hz1, hz2⟩ := info_parts infoDOpT
  have HL2 : Hid (∀ w', Below w.heap.size w w' → ∀ j u, (cellsO B)[j]? = some u → w'.cell? (ad2.add j) = some u) := h2
  have HG : Hid (∀ w', Below w.heap.size w w' → w'.cell? ⟨G, 0, none⟩ = some (.slice none 0 0) ∧ w'.cell? ⟨G, 1, none⟩ = some (.slice (some ad2) B.length c2)) := fun w' hB => ⟨(hB.cell (p := ⟨G, 0, none⟩) (cell_lt g0)).trans g0, (hB.cell (p := ⟨G, 1, none⟩) (cell_lt g0)).trans g1⟩
  clear h2
  obtain ⟨m, hm⟩ : ∃ m, m = B.length := ⟨_, rfl⟩
  have HM : Hid (m = B.length) := hm
  rw [← hm] at hB g1 HG
  clear hm
  have HK : Hid (0 + m ≤ maxLen ∧ (0 + m) * 56 ≤ 140737488355328) := ⟨by unfold maxLen; omega, by omega⟩
  have s2 : decide ((m : Int) < 0) = false := decide_eq_false (by omega)
  go_enter Try.func49, Try.ntmps49
  go_wp2
  refine wp_loop_rounds 3 ?_
  rw [rounds_succ]; go_wp2
  rw [rounds_succ]; go_wp2
  rw [rounds_succ]
  go_wp2_with fail
  refine (grow_any m _ (by omega) w (by omega)).mono ?_
  rintro e w1 ⟨v1, rfl, hO1, hB1⟩
  have HO1 : Hid (OwnO w1 w.heap.size v1 []) := hO1
  have HB1 : Hid (Below w.heap.size w w1) := hB1
  have HS : Hid (w.heap.size ≤ w1.heap.size) := hB1.size
  obtain ⟨x0, x1⟩ := HG.out w1 hB1
  clear hO1 hB1
  go_wp2
  refine wp_loop_rounds 3 ?_
  rw [rounds_succ]
  go_wp2_with (at_builtin; refine wpList_append_own_none rfl _ _ 25 rfl w.heap.size 49 i0 4 Try.underlying25 hi v1 0 [] rfl HO1.out rfl ?_)
  have HO2 : Hid (w1.ownsRow w.heap.size 49 4 v1 0 []) := HO1.out
  have HW2 := (show Hid _ from HL2.out w1 HB1.out)
  rw [rounds_succ]
  go_wp2_with (at_builtin; refine wpList_append_own _ rfl _ _ 25 rfl w.heap.size 49 i0 (.agg #[.int .i64 0, .string ⟨#[]⟩, .string ⟨#[]⟩, .string ⟨#[]⟩]) 4 56 Try.underlying25 hi hz0 hz1 hz2 rfl (by decide) v1 0 [] rfl HO2.out ad2 m c2 (cellsO B) rfl (by rw [cellsO_len, ← HM.out]) HW2.out (oneO _) HK.out.1 HK.out.2 HS.out ?_; intro v3 w3 hown hgrow _)
  have hO3 : OwnO w3 w.heap.size v3 B := by
    unfold OwnO
    have h := hown
    rw [List.nil_append, Nat.zero_add, HM.out] at h
    exact h
  have hB3 : Below w.heap.size w w3 := HB1.out.grown hgrow HB1.out.size (fun x hx => (World.ownsRow.lt HO2.out x hx).1)
  have HF : Hid (OwnO w3 w.heap.size v3 B ∧ Below w.heap.size w w3) := ⟨hO3, hB3⟩
  clear hown hgrow hO3 hB3 x0 x1
  go_wp2
  rw [rounds_succ]
  go_wp2
  go_ret
  exact ⟨_, rfl, HF.out.1, HF.out.2⟩

theorem concat2_any (G : Nat) (a1 : Option Addr) (ad2 : Addr) (c1 c2 : Nat) (A B : List Dop) (w : World) (hnz : a1 = none → c1 = 0 ∧ A = []) (g0 : w.cell? ⟨G, 0, none⟩ = some (.slice a1 A.length c1)) (g1 : w.cell? ⟨G, 1, none⟩ = some (.slice (some ad2) B.length c2))
    (h1 : ∀ w', Below w.heap.size w w' → RdO w' (.slice a1 A.length c1) A) (h2 : ∀ w', Below w.heap.size w w' → ∀ j u, (cellsO B)[j]? = some u → w'.cell? (ad2.add j) = some u) (hA : A.length ≤ 1000) (hB : B.length ≤ 1000) :
    Calls Try.prog 49 #[.slice (some ⟨G, 0, none⟩) 2 2] w fun e w' => ∃ v, e = .returned v ∧ OwnO w' w.heap.size v (A ++ B) ∧ Below w.heap.size w w' := by
  cases a1 with
  | none =>
    obtain ⟨rfl, rfl⟩ := hnz rfl
    exact concatN_any G ad2 c2 B w g0 g1 h2 hB
  | some ad1 => exact concat_any G ad1 ad2 c1 c2 A B w g0 g1 (fun w' hB' => (h1 w' hB').news) h2 hA hB

def dsGn : List Nat := [42, 43, 44, 45, 46, 47, 48, 49, 50, 51, 52, 53]
def slotGn (j : Nat) : Nat := dsGn.getD j 0
theorem slotGn_inj (i j : Nat) (hi : i < 12) (hj : j < 12) (q : slotGn i = slotGn j) : i = j := by
  have h : ∀ i : Fin 12, ∀ j : Fin 12, slotGn i.val = slotGn j.val → i.val = j.val := by decide
  exact h ⟨i, hi⟩ ⟨j, hj⟩ q
theorem slotGn_mem (i : Nat) (hi : i < 12) : slotGn i ∈ dsGn := by
  have h : ∀ i : Fin 12, slotGn i.val ∈ dsGn := by decide
  exact h ⟨i, hi⟩
def GG (B base Bm : Nat) (vS : Value) (adO : Option Addr) (cO : Nat) (M S : List Fl) (O : List Dop) (o : Dop) : Nat → (Nat → Value) → World → Prop
  | 0, f, w => f 42 = .map (some Bm)
  | 1, f, w => HoldF w base (f 43) M
  | 2, f, w => f 44 = .pointer (some ⟨B, 1, none⟩)
  | 3, f, w => f 45 = vS
  | 4, f, w => HoldF w base (f 46) S ∧ (∀ k, (f 43).ownBlock = some k → (f 46).ownBlock ≠ some k)
  | 5, f, w => f 47 = .pointer (some ⟨B, 2, none⟩)
  | 6, f, w => f 48 = .slice adO O.length cO
  | 7, f, w => f 49 = .agg #[.int .i64 o.k, .string o.n, .string o.t, .string o.d]
  | 8, f, w => ∃ g, f 50 = .slice (some ⟨g, 0, none⟩) 1 1 ∧ base ≤ g ∧ w.heap[g]? = some (.cells #[.int .i64 o.k, .string o.n, .string o.t, .string o.d] 49 (0, 0))
  | 9, f, w => ∃ g2 g, f 51 = .slice (some ⟨g2, 0, none⟩) 2 2 ∧ w.heap[g2]? = some (.cells #[.slice adO O.length cO, .slice (some ⟨g, 0, none⟩) 1 1] 25 (0, 0)) ∧ w.heap[g]? = some (.cells #[.int .i64 o.k, .string o.n, .string o.t, .string o.d] 49 (0, 0))
  | 10, f, w => HoldO w base (f 52) (O ++ [o])
  | 11, f, w => f 53 = .agg #[f 43, f 46, f 52]
  | _, _, _ => True
theorem GG.below {B base Bm : Nat} {vS : Value} {adO : Option Addr} {cO : Nat} {M S : List Fl} {O : List Dop} {o : Dop} {j : Nat} {f : Nat → Value} {w w' : World} (h : GG B base Bm vS adO cO M S O o j f w) (hB : Below w.heap.size w w') : GG B base Bm vS adO cO M S O o j f w' := by
  match j, h with
  | 0, h => exact h
  | 1, h => exact HoldF.below (h) hB
  | 2, h => exact h
  | 3, h => exact h
  | 4, h => exact ⟨HoldF.below (h.1) hB, h.2⟩
  | 5, h => exact h
  | 6, h => exact h
  | 7, h => exact h
  | 8, h => exact (by obtain ⟨g, e, hb, hh⟩ := h; exact ⟨g, e, hb, (hB.block _ (lt_of_block hh)).trans hh⟩)
  | 9, h => exact (by obtain ⟨g2, g, e, h1, h2⟩ := h; exact ⟨g2, g, e, (hB.block _ (lt_of_block h1)).trans h1, (hB.block _ (lt_of_block h2)).trans h2⟩)
  | 10, h => exact HoldO.below (h) hB
  | 11, h => exact h
  | (m + 12), _ => exact trivial
def depGn (j i : Nat) : Bool := match j with
  | 0 => i == 0
  | 1 => i == 1
  | 2 => i == 2
  | 3 => i == 3
  | 4 => i == 4 || i == 1
  | 5 => i == 5
  | 6 => i == 6
  | 7 => i == 7
  | 8 => i == 8
  | 9 => i == 9
  | 10 => i == 10
  | 11 => i == 11 || i == 1 || i == 4 || i == 10
  | _ => false
theorem GG.dep {B base Bm : Nat} {vS : Value} {adO : Option Addr} {cO : Nat} {M S : List Fl} {O : List Dop} {o : Dop} {j : Nat} {f f' : Nat → Value} {w : World} (hj : j < 12) (h : GG B base Bm vS adO cO M S O o j f w) (he : ∀ i, depGn j i = true → f (slotGn i) = f' (slotGn i)) : GG B base Bm vS adO cO M S O o j f' w := by
  match j, hj, h, he with
  | 0, _, h, he =>
    have e0 : f 42 = f' 42 := he 0 rfl
    simp only [GG] at h ⊢
    rw [← e0]
    exact h
  | 1, _, h, he =>
    have e1 : f 43 = f' 43 := he 1 rfl
    simp only [GG] at h ⊢
    rw [← e1]
    exact h
  | 2, _, h, he =>
    have e2 : f 44 = f' 44 := he 2 rfl
    simp only [GG] at h ⊢
    rw [← e2]
    exact h
  | 3, _, h, he =>
    have e3 : f 45 = f' 45 := he 3 rfl
    simp only [GG] at h ⊢
    rw [← e3]
    exact h
  | 4, _, h, he =>
    have e4 : f 46 = f' 46 := he 4 rfl
    have e1 : f 43 = f' 43 := he 1 rfl
    simp only [GG] at h ⊢
    rw [← e4, ← e1]
    exact h
  | 5, _, h, he =>
    have e5 : f 47 = f' 47 := he 5 rfl
    simp only [GG] at h ⊢
    rw [← e5]
    exact h
  | 6, _, h, he =>
    have e6 : f 48 = f' 48 := he 6 rfl
    simp only [GG] at h ⊢
    rw [← e6]
    exact h
  | 7, _, h, he =>
    have e7 : f 49 = f' 49 := he 7 rfl
    simp only [GG] at h ⊢
    rw [← e7]
    exact h
  | 8, _, h, he =>
    have e8 : f 50 = f' 50 := he 8 rfl
    simp only [GG] at h ⊢
    rw [← e8]
    exact h
  | 9, _, h, he =>
    have e9 : f 51 = f' 51 := he 9 rfl
    simp only [GG] at h ⊢
    rw [← e9]
    exact h
  | 10, _, h, he =>
    have e10 : f 52 = f' 52 := he 10 rfl
    simp only [GG] at h ⊢
    rw [← e10]
    exact h
  | 11, _, h, he =>
    have e11 : f 53 = f' 53 := he 11 rfl
    have e1 : f 43 = f' 43 := he 1 rfl
    have e4 : f 46 = f' 46 := he 4 rfl
    have e10 : f 52 = f' 52 := he 10 rfl
    simp only [GG] at h ⊢
    rw [← e11, ← e1, ← e4, ← e10]
    exact h
  | (m + 12), hj, _, _ => exact absurd hj (by omega)

set_option maxRecDepth 10000 in
set_option maxHeartbeats 8000000 in
theorem implAct2_any (vL vS vO : Value) (L S : List Fl) (O : List Dop) (o : Dop) (w : World) (h : RdD w vL vS vO L S O) (hso : vO = .slice none 0 0 ∨ ∃ ad n c, vO = .slice (some ad) n c) (hz : SmallD L S O) (hn : L.length ≤ 1048576 ∧ S.length ≤ 1048576 ∧ O.length ≤ 1048576) (ho : o.n.size ≤ 100000000 ∧ o.t.size ≤ 100000000 ∧ o.d.size ≤ 100000000) :
    Calls Try.prog 18 #[.agg #[vL, vS, vO], .agg (encO o)] w fun e w' => ∃ x y z, e = .returned (.tuple #[.agg #[x, y, z], .int .i64 (dC L S O o : Int)]) ∧ RdD w' x y z (dL L S O o) (dS L S O) (dO L S O o) ∧ OwD w' w.heap.size x y z (dL L S O o).length (dS L S O).length (dO L S O o).length ∧ Below w.heap.size w w' := by
  have HN : Hid (L.length ≤ 1048576 ∧ S.length ≤ 1048576 ∧ O.length ≤ 1048576) := hn
  have HZ : Hid (SmallD L S O) := hz
  have HOZ : Hid (o.n.size ≤ 100000000 ∧ o.t.size ≤ 100000000 ∧ o.d.size ≤ 100000000) := ho
  have HA : Hid (∀ w', Below w.heap.size w w' → RdD w' vL vS vO L S O) := fun w' hB => h.below hB
  obtain ⟨aL, cL, rfl⟩ := h.1.slice
  obtain ⟨aS, cS, rfl⟩ := h.2.1.slice
  have hso2 : ∃ aO cO, vO = .slice aO O.length cO ∧ (aO = none → cO = 0 ∧ O = []) := by
    obtain ⟨aO, cO, e⟩ := h.2.2.slice
    rcases hso with e' | ⟨ad, n, c, e'⟩
    · rw [e] at e'
      simp only [Value.slice.injEq] at e'
      exact ⟨aO, cO, e, fun _ => ⟨e'.2.2, List.length_eq_zero_iff.1 e'.2.1⟩⟩
    · rw [e] at e'
      simp only [Value.slice.injEq] at e'
      exact ⟨aO, cO, e, fun h => by rw [e'.1] at h; cases h⟩
  obtain ⟨adO, cO, rfl, hnzO⟩ := hso2
  have HNZ : Hid (adO = none → cO = 0 ∧ O = []) := hnzO
  clear hnzO hso
  obtain ⟨aO, haO⟩ : ∃ aO, aO = adO := ⟨_, rfl⟩
  have HAO : Hid (aO = adO) := haO
  rw [← haO] at HA ⊢
  clear h hz hn ho haO
  change Calls _ _ #[.agg #[.slice aL L.length cL, .slice aS S.length cS, .slice aO O.length cO], .agg #[.int .i64 o.k, .string o.n, .string o.t, .string o.d]] w _
  obtain ⟨X, hX⟩ : ∃ X, X = ((w.alloc (.cells #[.slice aL L.length cL, .slice aS S.length cS, .slice aO O.length cO] 27)).alloc (.cells #[.int .i64 o.k, .string o.n, .string o.t, .string o.d] 49)).alloc (.cells #[.slice none 0 0, .slice none 0 0, .slice none 0 0] 27) := ⟨_, rfl⟩
  have hBX : Below w.heap.size w X := by rw [hX]; exact (((Below.refl _ _).alloc (Nat.le_refl _) _).alloc (by simp) _).alloc (by simp; omega) _
  have gX : X.heap[w.heap.size]? = some (.cells #[.slice aL L.length cL, .slice aS S.length cS, .slice aO O.length cO] 27 (0, 0)) := by rw [hX, Below.heap_alloc _ _ _ (by simp; omega), Below.heap_alloc _ _ _ (by simp)]; exact heap_alloc_new _ _
  have gO : X.heap[w.heap.size + 1]? = some (.cells #[.int .i64 o.k, .string o.n, .string o.t, .string o.d] 49 (0, 0)) := by
    rw [hX, Below.heap_alloc _ _ _ (by simp)]
    have := heap_alloc_new (w.alloc (.cells #[.slice aL L.length cL, .slice aS S.length cS, .slice aO O.length cO] 27)) (.cells #[.int .i64 o.k, .string o.n, .string o.t, .string o.d] 49)
    simpa using this
  have gR : X.heap[w.heap.size + 1 + 1]? = some (.cells #[.slice none 0 0, .slice none 0 0, .slice none 0 0] 27 (0, 0)) := by
    rw [hX]
    have := heap_alloc_new ((w.alloc (.cells #[.slice aL L.length cL, .slice aS S.length cS, .slice aO O.length cO] 27)).alloc (.cells #[.int .i64 o.k, .string o.n, .string o.t, .string o.d] 49)) (.cells #[.slice none 0 0, .slice none 0 0, .slice none 0 0] 27)
    simpa using this
  have HX := (show Hid _ from hX)
  have HBX : Hid (Below w.heap.size w X) := hBX
  have HG : Hid (∀ w', Below X.heap.size X w' → At3 w' w.heap.size 27 (.slice aL L.length cL) (.slice aS S.length cS) (.slice aO O.length cO) ∧ w'.heap[w.heap.size + 1]? = some (.cells #[.int .i64 o.k, .string o.n, .string o.t, .string o.d] 49 (0, 0)) ∧ At3 w' (w.heap.size + 1 + 1) 27 (.slice none 0 0) (.slice none 0 0) (.slice none 0 0) ∧ Below w.heap.size w w') := fun w' hB => ⟨(hB.block _ (lt_of_block gX)).trans gX, (hB.block _ (lt_of_block gO)).trans gO, (hB.block _ (lt_of_block gR)).trans gR, hBX.trans (hB.mono hBX.size)⟩
  have k0 : X.cell? ⟨w.heap.size + 1, 0, none⟩ = some (.int .i64 o.k) := cellN gO
  have k1 : X.cell? ⟨w.heap.size + 1, 1, none⟩ = some (.string o.n) := cellN gO
  have k2 : X.cell? ⟨w.heap.size + 1, 2, none⟩ = some (.string o.t) := cellN gO
  have k3 : X.cell? ⟨w.heap.size + 1, 3, none⟩ = some (.string o.d) := cellN gO
  rw [hX] at k0 k1 k2 k3
  have c0 : X.cell? ⟨w.heap.size, 0, none⟩ = some (.slice aL L.length cL) := cellN gX
  have c1 : X.cell? ⟨w.heap.size, 1, none⟩ = some (.slice aS S.length cS) := cellN gX
  have c2 : X.cell? ⟨w.heap.size, 2, none⟩ = some (.slice aO O.length cO) := cellN gX
  rw [hX] at c0 c1 c2
  clear hX hBX gX gO gR
  have en1 : ∀ args w, (callFunc 44 args).run Try.prog w = .ok (.enter 44 args) w := enters_of Try.func44 (by kernel_rfl) rfl
  have HEN1 := (show Hid _ from en1)
  have en2 : ∀ args w, (callFunc 32 args).run Try.prog w = .ok (.enter 32 args) w := enters_of Try.func32 (by kernel_rfl) rfl
  have HEN2 := (show Hid _ from en2)
  have en3 : ∀ args w, (callFunc 49 args).run Try.prog w = .ok (.enter 49 args) w := enters_of Try.func49 (by kernel_rfl) rfl
  have HEN3 := (show Hid _ from en3)
  clear en1 en2 en3
  go_enter Try.func18, Try.ntmps18
  go_wp2_with fail
  rw [← HX.out]
  have hAX := HA.out X HBX.out
  refine (implDisk_any _ _ _ L S O X hAX.1 hAX.2.1 hAX.2.2 HZ.out).mono ?_
  rintro e w1 ⟨rfl, hB1⟩
  have HB1 : Hid (Below X.heap.size X w1) := hB1
  clear k0 k1 k2 k3 c0 c1 c2 HX hB1 hAX
  have hg1 := HG.out w1 HB1.out
  cases hd : diskB L S O with
  | false =>
    have HD := (show Hid _ from d_no o hd)
    have HR3 : Hid (At3 w1 (w.heap.size + 1 + 1) 27 (.slice none 0 0) (.slice none 0 0) (.slice none 0 0)) := hg1.2.2.1
    obtain ⟨q, hq, hi6, ho6, h16⟩ := row3 none none none 0 0 0 0 0 0
    clear hg1 hd
    go_wp2_with (refine wpList_store_row rfl 27 _ _ rfl (w.heap.size + 1 + 1) q rfl (congrArg Value.agg hq.symm) 27 _ HR3.out hi6 ho6 h16 ?_)
    subst hq
    refine bodyPost_ret (v := .tuple #[.agg #[.slice none 0 0, .slice none 0 0, .slice none 0 0], _]) (results_row_tmp rfl _ _ (w.heap.size + 1 + 1) 27 _ _ _ rfl (setRow_heap _ _ _ _ _ _ HR3.out) Try.underlying27 rfl hi6) rfl ⟨_, _, _, ret_val (by rw [HD.out.1]; rfl), ?_, ?_, ?_⟩
    · rw [HD.out.2.1, HD.out.2.2.1, HD.out.2.2.2]
      exact ⟨(HoldF.nil _ 0).1, (HoldF.nil _ 0).1, (HoldO.nil _ 0).1⟩
    · rw [HD.out.2.1, HD.out.2.2.1, HD.out.2.2.2]
      exact ⟨OwA2.nil _ _, OwA2.nil _ _, OwA4.nil _ _, fun b hb => by cases hb⟩
    · exact below_setRow (HG.out w1 HB1.out).2.2.2 (by omega) _
  | true =>
    have HD := (show Hid _ from d_yes o hd)
    have hfl := (disk_live hd).1
    have HUS : Hid (UpF L ∧ L.length ≤ 60 ∧ (∀ f ∈ L, f.n.size ≤ 1000000000 ∧ f.d.size ≤ 1000000000) ∧ O.length ≤ 200) := ⟨filesB_up hfl, (filesB_parts hfl).1, fun f hf => ⟨by have := (filesB_parts hfl).2.2 f hf; omega, by have := tot_mem hf; have := (filesB_parts hfl).2.1; omega⟩, (disk_live hd).2.2⟩
    have hsm := doF_small (K := L) (o := o) (z := 100000000) HZ.out.l2 HOZ.out.1 HOZ.out.2.1
    have hln := doF_len L o
    have HSM : Hid (tot (doF L o).1 ≤ 1000000000 ∧ (doF L o).1.length ≤ 1000000 ∧ ∀ f ∈ (doF L o).1, f.n.size ≤ 1000000000 ∧ f.d.size ≤ 1000000000) := ⟨by have := hsm.2; have := (filesB_parts hfl).2.1; have := HOZ.out.2.2; omega, by have := HUS.out.2.1; omega, fun f hf => ⟨by have := hsm.1 f hf; omega, by have := tot_mem hf; have := hsm.2; have := (filesB_parts hfl).2.1; have := HOZ.out.2.2; omega⟩⟩
    have HNW : Hid (∀ f ∈ L, nmB f.n = true) := filesB_names hfl
    have HFD : Hid (∀ f ∈ L, f.d.size ≤ 200000) := fun f hf => by have := tot_mem hf; have := (filesB_parts hfl).2.1; omega
    have k0 : w1.cell? ⟨w.heap.size + 1, 0, none⟩ = some (.int .i64 o.k) := cellN hg1.2.1
    have k1 : w1.cell? ⟨w.heap.size + 1, 1, none⟩ = some (.string o.n) := cellN hg1.2.1
    have k2 : w1.cell? ⟨w.heap.size + 1, 2, none⟩ = some (.string o.t) := cellN hg1.2.1
    have k3 : w1.cell? ⟨w.heap.size + 1, 3, none⟩ = some (.string o.d) := cellN hg1.2.1
    clear hg1 hd hfl hsm hln
    go_wp2_with fail
    refine (changeOf_any o w1 (by have := HOZ.out.1; omega) (by have := HOZ.out.2.1; omega)).mono ?_
    rintro e w2 ⟨ch, rfl, hch, hB2⟩
    have HB2 : Hid (Below X.heap.size X w2) := HB1.out.trans (hB2.mono HB1.out.size)
    clear hB2 k0 k1 k2 k3
    have hg2 := HG.out w2 HB2.out
    have c0 := hg2.1.c0
    have c1 := hg2.1.c1
    have c2 := hg2.1.c2
    clear hg2
    cases hfo : formB o with
    | false =>
      have HC : Hid (actC L O o = 2) := by show _ = _; unfold actC; rw [if_pos hfo]
      clear hch hfo
      go_wp2_with fail
      refine (implCopy_any _ _ _ L S O w2 (HA.out w2 (HG.out w2 HB2.out).2.2.2) HN.out).mono ?_
      rintro e wc ⟨x, y, z, rfl, hr, hh, hBc⟩
      obtain ⟨b1, d1, b2, d2, b3, d3, ex, ey, ez⟩ := hr.slices
      subst ex ey ez
      have HBc : Hid (Below X.heap.size X wc) := HB2.out.trans (hBc.mono HB2.out.size)
      have HHc : Hid _ := hh
      have HR3 : Hid (At3 wc (w.heap.size + 1 + 1) 27 (.slice none 0 0) (.slice none 0 0) (.slice none 0 0)) := (HG.out wc HBc.out).2.2.1
      have HLT : Hid (w.heap.size + 1 + 1 < w2.heap.size) := (HG.out w2 HB2.out).2.2.1.lt
      obtain ⟨q, hq⟩ : ∃ q, q = #[Value.slice b1 L.length d1, .slice b2 S.length d2, .slice b3 O.length d3] := ⟨_, rfl⟩
      have hi6 : (Try.prog.info? 27).map (·.size) = some q.size := by rw [hq]; exact infoDk
      have ho6 : (#[Value.slice none 0 0, .slice none 0 0, .slice none 0 0] : Array Value).size = q.size := by rw [hq]; rfl
      have h16 : q.all (·.oneCell') = true := by rw [hq]; simp [Value.oneCell']
      have HRc : Hid (RdD wc (.slice b1 L.length d1) (.slice b2 S.length d2) (.slice b3 O.length d3) L S O) := hr
      clear hr hh hBc
      go_wp2_with (refine wpList_store_row rfl 27 _ _ rfl (w.heap.size + 1 + 1) q rfl (congrArg Value.agg hq.symm) 27 _ HR3.out hi6 ho6 h16 ?_)
      subst hq
      have hkz : ∀ k, w2.heap.size ≤ k → k < wc.heap.size → (wc.setRow (w.heap.size + 1 + 1) #[Value.slice b1 L.length d1, .slice b2 S.length d2, .slice b3 O.length d3]).heap[k]? = wc.heap[k]? := fun k h1 h2 => setRow_other _ _ _ _ (by have := HLT.out; omega)
      have hszz : wc.heap.size ≤ (wc.setRow (w.heap.size + 1 + 1) #[Value.slice b1 L.length d1, .slice b2 S.length d2, .slice b3 O.length d3]).heap.size := by simp [World.setRow]
      refine bodyPost_ret (v := .tuple #[.agg #[Value.slice b1 L.length d1, .slice b2 S.length d2, .slice b3 O.length d3], _]) (results_row_tmp rfl _ _ (w.heap.size + 1 + 1) 27 _ _ _ rfl (setRow_heap _ _ _ _ _ _ HR3.out) Try.underlying27 rfl hi6) rfl ⟨_, _, _, ret_val (by rw [HD.out.1, HC.out]; rfl), ?_, ?_, ?_⟩
      · rw [HD.out.2.1, HD.out.2.2.1, HD.out.2.2.2, (act_no HC.out (by decide)).1, (act_no HC.out (by decide)).2]
        exact RdD.own HRc.out HHc.out hszz hkz
      · rw [HD.out.2.1, HD.out.2.2.1, HD.out.2.2.2, (act_no HC.out (by decide)).1, (act_no HC.out (by decide)).2]
        exact (HHc.out.kept hkz).base (by have := HLT.out; omega)
      · exact below_setRow (HG.out wc HBc.out).2.2.2 (by omega) _
    | true =>
      have hcv := hch hfo
      subst hcv
      have HFO : Hid (formB o = true) := hfo
      have hkk := form_kind hfo
      clear hch hfo
      have HFB : Hid (filesB (doF L o).1 = (decide ((doF L o).1.length ≤ 60) && decide (tot (doF L o).1 ≤ 200000))) := filesB_of (doF_up HUS.out.1 o) (doF_names HNW.out HFO.out)
      go_wp2_with fail
      refine (shelfOf_any _ L w2 (HA.out w2 (HG.out w2 HB2.out).2.2.2).1 HUS.out.1 (by have := HUS.out.2.1; omega) HUS.out.2.2.1).mono ?_
      rintro e w3 ⟨B, D0, p0, rfl, hS3, hB3⟩
      have HS3 : Hid (Sh w3 w2.heap.size B (2 * L.length) L D0 p0 ∧ Below w2.heap.size w2 w3) := ⟨hS3, hB3⟩
      clear hS3 hB3 c0 c1 c2
      rcases hkk with hk | hk | hk
      · rw [chV_app hk]
        have hm := mApp o.n o.d
        have HK : Hid (o.k = 1) := hk
        clear hk
        go_wp2_with fail
        refine (app_any o.n o.d w2.heap.size B (2 * L.length) L D0 p0 w3 HS3.out.1 HS3.out.2.size (by have := HUS.out.2.1; omega) (by have := HOZ.out.1; omega) (by have := HOZ.out.2.2; omega) (fun x hx => by
          obtain ⟨f, hf, hfx⟩ := getF_mem hx
          have := HFD.out f hf
          rw [← hfx]
          omega)).mono ?_
        rintro e w6 ⟨rfl, D', p', hS6, hB6⟩
        have HE : Hid (Sh w6 w2.heap.size B (2 * L.length + 2) (doF L o).1 D' p' ∧ Below w2.heap.size w2 w6 ∧ (doF L o).2 = true) := by
          have e : (doF L o).1 = putR L o.n (match getF L o.n with | some x => x ++ o.d | none => o.d) := by
            unfold doF
            rw [if_pos HK.out]
            exact putF_eq HS3.out.1.up _ _
          refine ⟨by rw [e]; exact hS6, HS3.out.2.trans hB6, ?_⟩
          unfold doF
          rw [if_pos HK.out]
        clear hS6 hB6 hm
        have HB6 : Hid (Below X.heap.size X w6) := HB2.out.trans (HE.out.2.1.mono HB2.out.size)
        have hg6 := HG.out w6 HB6.out
        have c0 := hg6.1.c0
        have c1 := hg6.1.c1
        have c2 := hg6.1.c2
        clear hg6
        by_cases h200 : O.length = 200
        · have h200b : ((O.length : Int) == 200) = true := by simp; omega
          have HC : Hid (actC L O o = 4) := by show _ = _; unfold actC; rw [if_neg (by rw [HFO.out]; decide), if_neg (by rw [HE.out.2.2]; decide), if_pos (.inl h200)]
          clear h200
          go_wp2_with fail
          refine (implCopy_any _ _ _ L S O w6 (HA.out w6 (HG.out w6 HB6.out).2.2.2) HN.out).mono ?_
          rintro e wc ⟨x, y, z, rfl, hr, hh, hBc⟩
          obtain ⟨b1, d1, b2, d2, b3, d3, ex, ey, ez⟩ := hr.slices
          subst ex ey ez
          have HBc : Hid (Below X.heap.size X wc) := HB6.out.trans (hBc.mono HB6.out.size)
          have HHc : Hid _ := hh
          have HR3 : Hid (At3 wc (w.heap.size + 1 + 1) 27 (.slice none 0 0) (.slice none 0 0) (.slice none 0 0)) := (HG.out wc HBc.out).2.2.1
          have HLT : Hid (w.heap.size + 1 + 1 < w6.heap.size) := (HG.out w6 HB6.out).2.2.1.lt
          obtain ⟨q, hq⟩ : ∃ q, q = #[Value.slice b1 L.length d1, .slice b2 S.length d2, .slice b3 O.length d3] := ⟨_, rfl⟩
          have hi6 : (Try.prog.info? 27).map (·.size) = some q.size := by rw [hq]; exact infoDk
          have ho6 : (#[Value.slice none 0 0, .slice none 0 0, .slice none 0 0] : Array Value).size = q.size := by rw [hq]; rfl
          have h16 : q.all (·.oneCell') = true := by rw [hq]; simp [Value.oneCell']
          have HRc : Hid (RdD wc (.slice b1 L.length d1) (.slice b2 S.length d2) (.slice b3 O.length d3) L S O) := hr
          clear hr hh hBc
          go_wp2_with (refine wpList_store_row rfl 27 _ _ rfl (w.heap.size + 1 + 1) q rfl (congrArg Value.agg hq.symm) 27 _ HR3.out hi6 ho6 h16 ?_)
          subst hq
          have hkz : ∀ k, w6.heap.size ≤ k → k < wc.heap.size → (wc.setRow (w.heap.size + 1 + 1) #[Value.slice b1 L.length d1, .slice b2 S.length d2, .slice b3 O.length d3]).heap[k]? = wc.heap[k]? := fun k h1 h2 => setRow_other _ _ _ _ (by have := HLT.out; omega)
          have hszz : wc.heap.size ≤ (wc.setRow (w.heap.size + 1 + 1) #[Value.slice b1 L.length d1, .slice b2 S.length d2, .slice b3 O.length d3]).heap.size := by simp [World.setRow]
          refine bodyPost_ret (v := .tuple #[.agg #[Value.slice b1 L.length d1, .slice b2 S.length d2, .slice b3 O.length d3], _]) (results_row_tmp rfl _ _ (w.heap.size + 1 + 1) 27 _ _ _ rfl (setRow_heap _ _ _ _ _ _ HR3.out) Try.underlying27 rfl hi6) rfl ⟨_, _, _, ret_val (by rw [HD.out.1, HC.out]; rfl), ?_, ?_, ?_⟩
          · rw [HD.out.2.1, HD.out.2.2.1, HD.out.2.2.2, (act_no HC.out (by decide)).1, (act_no HC.out (by decide)).2]
            exact RdD.own HRc.out HHc.out hszz hkz
          · rw [HD.out.2.1, HD.out.2.2.1, HD.out.2.2.2, (act_no HC.out (by decide)).1, (act_no HC.out (by decide)).2]
            exact (HHc.out.kept hkz).base (by have := HLT.out; omega)
          · exact below_setRow (HG.out wc HBc.out).2.2.2 (by omega) _
        · have h200b : ((O.length : Int) == 200) = false := by simp; omega
          have HN2 : Hid (O.length ≠ 200) := h200
          clear h200
          go_wp2_with fail
          refine (fits_any w2.heap.size B (2 * L.length + 2) _ D' p' w6 HE.out.1 HSM.out.1 HSM.out.2.1).mono ?_
          rintro e w7 ⟨rfl, hB7⟩
          rw [← HFB.out]
          have HB7 : Hid (Below X.heap.size X w7) := HB6.out.trans (hB7.mono HB6.out.size)
          have HS7 : Hid (Sh w7 w2.heap.size B (2 * L.length + 2) (doF L o).1 D' p') := HE.out.1.below hB7
          clear hB7 c0 c1 c2 h200b
          have hg7 := HG.out w7 HB7.out
          have c0 := hg7.1.c0
          have c1 := hg7.1.c1
          have c2 := hg7.1.c2
          cases hfb : filesB (doF L o).1 with
          | false =>
            have HC : Hid (actC L O o = 4) := by show _ = _; unfold actC; rw [if_neg (by rw [HFO.out]; decide), if_neg (by rw [HE.out.2.2]; decide), if_pos (.inr hfb)]
            clear hfb hg7
            go_wp2_with fail
            refine (implCopy_any _ _ _ L S O w7 (HA.out w7 (HG.out w7 HB7.out).2.2.2) HN.out).mono ?_
            rintro e wc ⟨x, y, z, rfl, hr, hh, hBc⟩
            obtain ⟨b1, d1, b2, d2, b3, d3, ex, ey, ez⟩ := hr.slices
            subst ex ey ez
            have HBc : Hid (Below X.heap.size X wc) := HB7.out.trans (hBc.mono HB7.out.size)
            have HHc : Hid _ := hh
            have HR3 : Hid (At3 wc (w.heap.size + 1 + 1) 27 (.slice none 0 0) (.slice none 0 0) (.slice none 0 0)) := (HG.out wc HBc.out).2.2.1
            have HLT : Hid (w.heap.size + 1 + 1 < w7.heap.size) := (HG.out w7 HB7.out).2.2.1.lt
            obtain ⟨q, hq⟩ : ∃ q, q = #[Value.slice b1 L.length d1, .slice b2 S.length d2, .slice b3 O.length d3] := ⟨_, rfl⟩
            have hi6 : (Try.prog.info? 27).map (·.size) = some q.size := by rw [hq]; exact infoDk
            have ho6 : (#[Value.slice none 0 0, .slice none 0 0, .slice none 0 0] : Array Value).size = q.size := by rw [hq]; rfl
            have h16 : q.all (·.oneCell') = true := by rw [hq]; simp [Value.oneCell']
            have HRc : Hid (RdD wc (.slice b1 L.length d1) (.slice b2 S.length d2) (.slice b3 O.length d3) L S O) := hr
            clear hr hh hBc
            go_wp2_with (refine wpList_store_row rfl 27 _ _ rfl (w.heap.size + 1 + 1) q rfl (congrArg Value.agg hq.symm) 27 _ HR3.out hi6 ho6 h16 ?_)
            subst hq
            have hkz : ∀ k, w7.heap.size ≤ k → k < wc.heap.size → (wc.setRow (w.heap.size + 1 + 1) #[Value.slice b1 L.length d1, .slice b2 S.length d2, .slice b3 O.length d3]).heap[k]? = wc.heap[k]? := fun k h1 h2 => setRow_other _ _ _ _ (by have := HLT.out; omega)
            have hszz : wc.heap.size ≤ (wc.setRow (w.heap.size + 1 + 1) #[Value.slice b1 L.length d1, .slice b2 S.length d2, .slice b3 O.length d3]).heap.size := by simp [World.setRow]
            refine bodyPost_ret (v := .tuple #[.agg #[Value.slice b1 L.length d1, .slice b2 S.length d2, .slice b3 O.length d3], _]) (results_row_tmp rfl _ _ (w.heap.size + 1 + 1) 27 _ _ _ rfl (setRow_heap _ _ _ _ _ _ HR3.out) Try.underlying27 rfl hi6) rfl ⟨_, _, _, ret_val (by rw [HD.out.1, HC.out]; rfl), ?_, ?_, ?_⟩
            · rw [HD.out.2.1, HD.out.2.2.1, HD.out.2.2.2, (act_no HC.out (by decide)).1, (act_no HC.out (by decide)).2]
              exact RdD.own HRc.out HHc.out hszz hkz
            · rw [HD.out.2.1, HD.out.2.2.1, HD.out.2.2.2, (act_no HC.out (by decide)).1, (act_no HC.out (by decide)).2]
              exact (HHc.out.kept hkz).base (by have := HLT.out; omega)
            · exact below_setRow (HG.out wc HBc.out).2.2.2 (by omega) _
          | true =>
            have HC : Hid (actC L O o = 0) := by show _ = _; unfold actC; rw [if_neg (by rw [HFO.out]; decide), if_neg (by rw [HE.out.2.2]; decide), if_neg (fun h => h.elim HN2.out (fun h => by rw [hfb] at h; cases h))]
            clear hfb
            have HC7 : Hid (∀ wy, Below w7.heap.size w7 wy → At3 wy w.heap.size 27 (.slice aL L.length cL) (.slice aS S.length cS) (.slice aO O.length cO) ∧ wy.heap[w.heap.size + 1]? = some (.cells #[.int .i64 o.k, .string o.n, .string o.t, .string o.d] 49 (0, 0)) ∧ At3 wy (w.heap.size + 1 + 1) 27 (.slice none 0 0) (.slice none 0 0) (.slice none 0 0) ∧ RdF wy (.slice aS S.length cS) S ∧ RdO wy (.slice aO O.length cO) O) := fun wy hy => by
              have hb := HB7.out.trans (hy.mono HB7.out.size)
              have hg := HG.out wy hb
              have ha := HA.out wy hg.2.2.2
              exact ⟨hg.1, hg.2.1, hg.2.2.1, ha.2.1, ha.2.2⟩
            have HLT7 : Hid (w.heap.size + 1 + 1 < w7.heap.size) := hg7.2.2.1.lt
            have HW7 : Hid (Below w.heap.size w w7) := hg7.2.2.2
            clear hg7 c0 c1 c2
            go_wp2
            refine wp_cut_to (fun a0 t w' => ∃ f, t = (canon a0 dsGn f).put (some 5) (.int .i64 0) ∧ (∃ x y z, w'.heap[w.heap.size + 1 + 1]? = some (.cells #[x, y, z] 27 (0, 0)) ∧ HoldF w' w7.heap.size x (doF L o).1 ∧ HoldF w' w7.heap.size y S ∧ HoldO w' w7.heap.size z (O ++ [o]) ∧ (∀ k, x.ownBlock = some k → y.ownBlock ≠ some k) ∧ Below w.heap.size w w')) ?_ ?_
            · rintro _ w8 ⟨f, rfl, h8⟩
              simp only [canon, dsGn, List.foldl, Act.put, List.setIfInBounds_toArray, List.set_cons_succ, List.set_cons_zero]
              obtain ⟨x, y, z, hb8, hx8, hy8, hz8, hap, hbw⟩ := h8
              have HE8 : Hid (HoldF w8 w7.heap.size x (doF L o).1 ∧ HoldF w8 w7.heap.size y S ∧ HoldO w8 w7.heap.size z (O ++ [o]) ∧ (∀ k, x.ownBlock = some k → y.ownBlock ≠ some k) ∧ Below w.heap.size w w8) := ⟨hx8, hy8, hz8, hap, hbw⟩
              clear hx8 hy8 hz8 hap hbw
              go_wp2
              have hle := HW7.out.size
              refine bodyPost_ret (v := .tuple #[.agg #[x, y, z], _]) (results_row_tmp rfl _ _ (w.heap.size + 1 + 1) 27 _ _ _ rfl hb8 Try.underlying27 rfl infoDk) rfl ⟨x, y, z, ret_val (by rw [HD.out.1, HC.out]; rfl), ?_, ?_, HE8.out.2.2.2.2⟩
              · rw [HD.out.2.1, HD.out.2.2.1, HD.out.2.2.2, (act_yes HC.out).1, (act_yes HC.out).2]
                exact ⟨HE8.out.1.1, HE8.out.2.1.1, HE8.out.2.2.1.1⟩
              · rw [HD.out.2.1, HD.out.2.2.1, HD.out.2.2.2, (act_yes HC.out).1, (act_yes HC.out).2]
                exact ⟨HE8.out.1.2.base hle, HE8.out.2.1.2.base hle, HE8.out.2.2.1.2.base hle, HE8.out.2.2.2.1⟩
            · intro J K' hJ hK
              refine wp_letter ?_
              intro fr hfr
              have hsz : 53 < fr.tmps.size := by rw [hfr]; exact Nat.le_of_ble_eq_true rfl
              have t2 : fr.eval (.tmp 2) = .pointer (some ⟨w.heap.size, 0, none⟩) := by rw [hfr]; rfl
              have t3 : fr.eval (.tmp 3) = .pointer (some ⟨w.heap.size + 1, 0, none⟩) := by rw [hfr]; rfl
              have t4 : fr.eval (.tmp 4) = .pointer (some ⟨w.heap.size + 1 + 1, 0, none⟩) := by rw [hfr]; rfl
              have t8 : fr.eval (.tmp 8) = .map (some B) := by rw [hfr]; rfl
              have HFR := (show Hid _ from hfr)
              clear hfr
              refine wp_region_fin2 (Rel := fun v v' => Below v.heap.size v v') (fun v => Below.refl _ _) (fun h k => h.trans (k.mono h.size)) (fun v => (Below.refl _ _).drew) 12 rfl (by kernel_rfl) (by kernel_rfl) dsGn slotGn (GG w.heap.size w7.heap.size B (.slice aS S.length cS) adO cO (doF L o).1 S O o) _ _ rfl rfl (by kernel_rfl) (by kernel_rfl) (fun a' w' => ∃ f, a' = canon fr dsGn f ∧ (∃ x y z, w'.heap[w.heap.size + 1 + 1]? = some (.cells #[x, y, z] 27 (0, 0)) ∧ HoldF w' w7.heap.size x (doF L o).1 ∧ HoldF w' w7.heap.size y S ∧ HoldO w' w7.heap.size z (O ++ [o]) ∧ (∀ k, x.ownBlock = some k → y.ownBlock ≠ some k) ∧ Below w.heap.size w w')) (fun _ _ _ _ h hB => h.below hB) ?_ ?_ ?_ ?_ ?_ ?_
              · intro j f f' wy hj he h
                exact h.dep hj (fun i hi => he i (by revert hi; match j, hj with | 0, _ => (intro hi; simp only [depGn, beq_iff_eq] at hi; rcases hi with rfl <;> kernel_rfl) | 1, _ => (intro hi; simp only [depGn, beq_iff_eq] at hi; rcases hi with rfl <;> kernel_rfl) | 2, _ => (intro hi; simp only [depGn, beq_iff_eq] at hi; rcases hi with rfl <;> kernel_rfl) | 3, _ => (intro hi; simp only [depGn, beq_iff_eq] at hi; rcases hi with rfl <;> kernel_rfl) | 4, _ => (intro hi; simp only [depGn, Bool.or_eq_true, beq_iff_eq] at hi; rcases hi with rfl | rfl <;> kernel_rfl) | 5, _ => (intro hi; simp only [depGn, beq_iff_eq] at hi; rcases hi with rfl <;> kernel_rfl) | 6, _ => (intro hi; simp only [depGn, beq_iff_eq] at hi; rcases hi with rfl <;> kernel_rfl) | 7, _ => (intro hi; simp only [depGn, beq_iff_eq] at hi; rcases hi with rfl <;> kernel_rfl) | 8, _ => (intro hi; simp only [depGn, beq_iff_eq] at hi; rcases hi with rfl <;> kernel_rfl) | 9, _ => (intro hi; simp only [depGn, beq_iff_eq] at hi; rcases hi with rfl <;> kernel_rfl) | 10, _ => (intro hi; simp only [depGn, beq_iff_eq] at hi; rcases hi with rfl <;> kernel_rfl) | 11, _ => (intro hi; simp only [depGn, Bool.or_eq_true, beq_iff_eq] at hi; rcases hi with ((rfl | rfl) | rfl) | rfl <;> kernel_rfl)))
              · intro i hi
                exact slotGn_mem i hi
              · intro i j hi hj q
                exact slotGn_inj i j hi hj q
              · intro ops hops f wy j oo hj hy ho hd
                have ho2 := ho
                rw [hops] at ho
                have N2 := (canon_eval_ne fr dsGn f 2 (by decide)).trans t2
                have N3 := (canon_eval_ne fr dsGn f 3 (by decide)).trans t3
                have N8 := (canon_eval_ne fr dsGn f 8 (by decide)).trans t8
                have hj' : j = 0 ∨ j = 1 ∨ j = 2 ∨ j = 3 ∨ j = 4 ∨ j = 5 ∨ j = 6 ∨ j = 7 ∨ j = 8 ∨ j = 9 ∨ j = 10 ∨ j = 11 := by omega
                rcases hj' with rfl | rfl | rfl | rfl | rfl | rfl | rfl | rfl | rfl | rfl | rfl | rfl <;> simp only [List.getElem?_toArray, List.getElem?_cons_succ, List.getElem?_cons_zero, Option.some.injEq] at ho <;> subst ho
                · refine wpOp_runG ho2 (wanted_none rfl) (q_moveD (canon fr dsGn f).eval _ wy _ rfl) ?_
                  exact ⟨_, rfl, (upd_same f 42 _).trans N8, Below.refl _ _⟩
                · refine wpOp_enterG ho2 (wanted_none rfl) (q_call1I (canon fr dsGn f).eval _ wy _ HEN1.out _ _ rfl rfl) ?_
                  rw [(canon_eval fr dsGn f 42 (by decide) (Nat.lt_of_le_of_lt (by decide) hsz)).trans (hd ⟨0, .data⟩ (by simp) rfl (by decide))]
                  refine (shFiles_any w2.heap.size B (2 * L.length + 2) (doF L o).1 D' p' wy (HS7.out.below hy) (by have := HUS.out.2.1; omega) HSM.out.2.1 HSM.out.2.2).mono ?_
                  rintro e wz ⟨u, rfl, hu, hBz⟩
                  exact ⟨_, rfl, _, rfl, by show HoldF _ _ (upd f 43 u 43) (doF L o).1; rw [upd_same]; exact hu.hold.base hy.size, hBz⟩
                · refine wpOp_runG ho2 (wanted_none rfl) (q_fieldK (canon fr dsGn f).eval _ wy _ w.heap.size 1 rfl N2 (by decide)) ?_
                  exact ⟨_, rfl, upd_same f 44 _, Below.refl _ _⟩
                · refine wpOp_runG ho2 (wanted_none rfl) (q_loadF (canon fr dsGn f).eval _ wy _ w.heap.size 1 rfl ((canon_eval fr dsGn f 44 (by decide) (Nat.lt_of_le_of_lt (by decide) hsz)).trans (hd ⟨2, .data⟩ (by simp) rfl (by decide))) (HC7.out wy hy).1.c1) ?_
                  exact ⟨_, rfl, upd_same f 45 _, Below.refl _ _⟩
                · have h9 : HoldF wy w7.heap.size (f 43) (doF L o).1 := hd ⟨1, .chain⟩ (by simp) rfl (by decide)
                  refine wpOp_enterG ho2 (wanted_none rfl) (q_call1I (canon fr dsGn f).eval _ wy _ HEN2.out _ _ rfl rfl) ?_
                  rw [(canon_eval fr dsGn f 45 (by decide) (Nat.lt_of_le_of_lt (by decide) hsz)).trans (hd ⟨3, .data⟩ (by simp) rfl (by decide))]
                  refine (cloneF_any _ S wy (HC7.out wy hy).2.2.2.1 HN.out.2.1).mono ?_
                  rintro e wz ⟨u, rfl, hu, hBz⟩
                  refine ⟨_, rfl, _, rfl, ⟨by show HoldF _ _ (upd f 46 u 46) S; rw [upd_same]; exact hu.base hy.size, fun q hk => ?_⟩, hBz⟩
                  have e9 : upd f 46 u 43 = f 43 := upd_ne f u (by decide)
                  have hk' : (f 43).ownBlock = some q := by rw [← e9]; exact hk
                  show (upd f 46 u 46).ownBlock ≠ some q
                  rw [upd_same]
                  intro e
                  have h1 := (h9.2.lt q hk').2
                  have h2 := (hu.2.lt q e).1
                  omega
                · refine wpOp_runG ho2 (wanted_none rfl) (q_fieldK (canon fr dsGn f).eval _ wy _ w.heap.size 2 rfl N2 (by decide)) ?_
                  exact ⟨_, rfl, upd_same f 47 _, Below.refl _ _⟩
                · refine wpOp_runG ho2 (wanted_none rfl) (q_loadO (canon fr dsGn f).eval _ wy _ w.heap.size 2 rfl ((canon_eval fr dsGn f 47 (by decide) (Nat.lt_of_le_of_lt (by decide) hsz)).trans (hd ⟨5, .data⟩ (by simp) rfl (by decide))) (HC7.out wy hy).1.c2) ?_
                  exact ⟨_, rfl, (upd_same f 48 _).trans (by rw [HAO.out]), Below.refl _ _⟩
                · refine wpOp_runG ho2 (wanted_none rfl) (q_loadOp (canon fr dsGn f).eval _ wy _ (w.heap.size + 1) o rfl N3 (HC7.out wy hy).2.1) ?_
                  exact ⟨_, rfl, upd_same f 49 _, Below.refl _ _⟩
                · refine wpOp_runG ho2 (wanted_none rfl) (q_lit1O (canon fr dsGn f).eval _ wy _ o rfl ((canon_eval fr dsGn f 49 (by decide) (Nat.lt_of_le_of_lt (by decide) hsz)).trans (hd ⟨7, .data⟩ (by simp) rfl (by decide)))) ?_
                  exact ⟨_, rfl, ⟨wy.heap.size, upd_same f 50 _, hy.size, heap_alloc_new _ _⟩, (Below.refl _ _).alloc (Nat.le_refl _) _⟩
                · have h48 : f 48 = .slice adO O.length cO := hd ⟨6, .data⟩ (by simp) rfl (by decide)
                  obtain ⟨g, eg, hbg, hgh⟩ := hd ⟨8, .data⟩ (by simp) rfl (by decide)
                  refine wpOp_runG ho2 (wanted_none rfl) (q_lit2O (canon fr dsGn f).eval _ wy _ _ rfl ((canon_eval fr dsGn f 48 (by decide) (Nat.lt_of_le_of_lt (by decide) hsz)).trans h48) ((canon_eval fr dsGn f 50 (by decide) (Nat.lt_of_le_of_lt (by decide) hsz)).trans eg)) ?_
                  have hba : Below wy.heap.size wy (wy.alloc (.cells #[.slice adO O.length cO, .slice (some ⟨g, 0, none⟩) 1 1] 25)) := (Below.refl _ _).alloc (Nat.le_refl _) _
                  exact ⟨_, rfl, ⟨wy.heap.size, g, upd_same f 51 _, heap_alloc_new _ _, (hba.block _ (lt_of_block hgh)).trans hgh⟩, hba⟩
                · obtain ⟨g2, g, eg, hg2, hg⟩ := hd ⟨9, .data⟩ (by simp) rfl (by decide)
                  refine wpOp_enterG ho2 (wanted_none rfl) (q_call1I (canon fr dsGn f).eval _ wy _ HEN3.out _ _ rfl rfl) ?_
                  rw [(canon_eval fr dsGn f 51 (by decide) (Nat.lt_of_le_of_lt (by decide) hsz)).trans eg]
                  have hro : RdO wy (.slice adO O.length cO) O := by have := (HC7.out wy hy).2.2.2.2; rw [HAO.out] at this; exact this
                  refine (concat2_any g2 adO ⟨g, 0, none⟩ cO 1 O [o] wy HNZ.out (cellN hg2) (cellN hg2) (fun w' hB => hro.below hB) (fun w' hB => one_news ((hB.block _ (lt_of_block hg)).trans hg)) (by have := HUS.out.2.2.2; omega) (by simp)).mono ?_
                  rintro e wz ⟨u, rfl, hu, hBz⟩
                  exact ⟨_, rfl, _, rfl, by show HoldO _ _ (upd f 52 u 52) (O ++ [o]); rw [upd_same]; exact hu.hold.base hy.size, hBz⟩
                · have h9 : HoldF wy w7.heap.size (f 43) (doF L o).1 := hd ⟨1, .data⟩ (by simp) rfl (by decide)
                  have h12 : HoldF wy w7.heap.size (f 46) S ∧ _ := hd ⟨4, .data⟩ (by simp) rfl (by decide)
                  have h15 : HoldO wy w7.heap.size (f 52) (O ++ [o]) := hd ⟨10, .data⟩ (by simp) rfl (by decide)
                  obtain ⟨a9, c9, e9⟩ := h9.2.slice
                  obtain ⟨a12, c12, e12⟩ := h12.1.2.slice
                  obtain ⟨a15, c15, e15⟩ := h15.2.slice
                  refine wpOp_runG ho2 (wanted_none rfl) (q_build3 (canon fr dsGn f).eval _ wy _ _ _ rfl ((canon_eval fr dsGn f 43 (by decide) (Nat.lt_of_le_of_lt (by decide) hsz)).trans e9) ((canon_eval fr dsGn f 46 (by decide) (Nat.lt_of_le_of_lt (by decide) hsz)).trans e12) ((canon_eval fr dsGn f 52 (by decide) (Nat.lt_of_le_of_lt (by decide) hsz)).trans e15)) ?_
                  refine ⟨_, rfl, ?_, Below.refl _ _⟩
                  show upd f 53 _ 53 = .agg #[upd f 53 _ 43, upd f 53 _ 46, upd f 53 _ 52]
                  rw [upd_same, upd_ne f _ (by decide : (43 : Nat) ≠ 53), upd_ne f _ (by decide : (46 : Nat) ≠ 53), upd_ne f _ (by decide : (52 : Nat) ≠ 53), e9, e12, e15]
              · intro ops hops f wy hy ho hall
                have ho2 := ho
                have N4 := (canon_eval_ne fr dsGn f 4 (by decide)).trans t4
                have h9 : HoldF wy w7.heap.size (f 43) (doF L o).1 := hall 1 (by omega)
                have h12 : HoldF wy w7.heap.size (f 46) S ∧ _ := hall 4 (by omega)
                have h15 : HoldO wy w7.heap.size (f 52) (O ++ [o]) := hall 10 (by omega)
                have h13 : f 53 = .agg #[f 43, f 46, f 52] := hall 11 (by omega)
                obtain ⟨a9, c9, e9⟩ := h9.2.slice
                obtain ⟨a12, c12, e12⟩ := h12.1.2.slice
                obtain ⟨a15, c15, e15⟩ := h15.2.slice
                have hrb := (HC7.out wy hy).2.2.1
                refine wpOp_storeD ho2 (wanted_none rfl) _ _ (w.heap.size + 1 + 1) rfl N4 ((canon_eval fr dsGn f 53 (by decide) (Nat.lt_of_le_of_lt (by decide) hsz)).trans (h13.trans (by rw [e9, e12, e15]))) rfl hrb ?_
                intro wz hz1 hz2 hz3 hz4 hz5 hz6
                have hlt : w.heap.size + 1 + 1 < w7.heap.size := HLT7.out
                have hkz : ∀ k, w7.heap.size ≤ k → k < wy.heap.size → wz.heap[k]? = wy.heap[k]? := fun k h1 h2 => hz2 k (by omega)
                refine ⟨f, rfl, f 43, f 46, f 52, ?_, h9.kept (by omega) hkz, h12.1.kept (by omega) hkz, h15.kept (by omega) hkz, h12.2, ?_⟩
                · rw [e9, e12, e15]; exact hz1
                · have hb7 := HW7.out
                  have hbw := hb7.trans (hy.mono hb7.size)
                  exact ⟨hz4.trans hbw.os, hz5.trans hbw.tape, hz6.trans hbw.output, by rw [hz3]; exact hbw.size, fun k hk => (hz2 k (by omega)).trans (hbw.block k hk)⟩
              · rintro ops hops a wy ⟨f, rfl, hpost⟩ ho
                refine wpOp_runG ho (wanted_none rfl) (q_assignC (canon fr dsGn f).eval _ wy _ rfl) ?_
                exact hK _ _ (Met.intro (hJ _ _ ⟨f, congrArg (fun z => (canon z dsGn f).put (some 5) (.int .i64 0)) HFR.out, hpost⟩))
      · rw [chV_ren hk]
        have hm := mRen o.n o.t
        have HK : Hid (o.k = 2) := hk
        clear hk
        go_wp2_with fail
        refine (ren_any o.n o.t w2.heap.size B (2 * L.length) L D0 p0 w3 HS3.out.1 HS3.out.2.size (by have := HUS.out.2.1; omega) (by have := HOZ.out.1; omega) (by have := HOZ.out.2.1; omega)).mono ?_
        rintro e w6 ⟨rfl, D', p', hS6, hB6⟩
        cases hg : getF L o.n with
        | none =>
          have HC : Hid (actC L O o = 3) := by
            have : (doF L o).2 = false := by
              unfold doF
              rw [if_neg (by rw [HK.out]; decide), hg]
            show _ = _
            unfold actC
            rw [if_neg (by rw [HFO.out]; decide), if_pos this]
          have HB6 : Hid (Below X.heap.size X w6) := HB2.out.trans ((HS3.out.2.trans hB6).mono HB2.out.size)
          have hg6 := HG.out w6 HB6.out
          have c0 := hg6.1.c0
          have c1 := hg6.1.c1
          have c2 := hg6.1.c2
          clear hS6 hB6 hg6 hg hm
          go_wp2_with fail
          refine (implCopy_any _ _ _ L S O w6 (HA.out w6 (HG.out w6 HB6.out).2.2.2) HN.out).mono ?_
          rintro e wc ⟨x, y, z, rfl, hr, hh, hBc⟩
          obtain ⟨b1, d1, b2, d2, b3, d3, ex, ey, ez⟩ := hr.slices
          subst ex ey ez
          have HBc : Hid (Below X.heap.size X wc) := HB6.out.trans (hBc.mono HB6.out.size)
          have HHc : Hid _ := hh
          have HR3 : Hid (At3 wc (w.heap.size + 1 + 1) 27 (.slice none 0 0) (.slice none 0 0) (.slice none 0 0)) := (HG.out wc HBc.out).2.2.1
          have HLT : Hid (w.heap.size + 1 + 1 < w6.heap.size) := (HG.out w6 HB6.out).2.2.1.lt
          obtain ⟨q, hq⟩ : ∃ q, q = #[Value.slice b1 L.length d1, .slice b2 S.length d2, .slice b3 O.length d3] := ⟨_, rfl⟩
          have hi6 : (Try.prog.info? 27).map (·.size) = some q.size := by rw [hq]; exact infoDk
          have ho6 : (#[Value.slice none 0 0, .slice none 0 0, .slice none 0 0] : Array Value).size = q.size := by rw [hq]; rfl
          have h16 : q.all (·.oneCell') = true := by rw [hq]; simp [Value.oneCell']
          have HRc : Hid (RdD wc (.slice b1 L.length d1) (.slice b2 S.length d2) (.slice b3 O.length d3) L S O) := hr
          clear hr hh hBc
          go_wp2_with (refine wpList_store_row rfl 27 _ _ rfl (w.heap.size + 1 + 1) q rfl (congrArg Value.agg hq.symm) 27 _ HR3.out hi6 ho6 h16 ?_)
          subst hq
          have hkz : ∀ k, w6.heap.size ≤ k → k < wc.heap.size → (wc.setRow (w.heap.size + 1 + 1) #[Value.slice b1 L.length d1, .slice b2 S.length d2, .slice b3 O.length d3]).heap[k]? = wc.heap[k]? := fun k h1 h2 => setRow_other _ _ _ _ (by have := HLT.out; omega)
          have hszz : wc.heap.size ≤ (wc.setRow (w.heap.size + 1 + 1) #[Value.slice b1 L.length d1, .slice b2 S.length d2, .slice b3 O.length d3]).heap.size := by simp [World.setRow]
          refine bodyPost_ret (v := .tuple #[.agg #[Value.slice b1 L.length d1, .slice b2 S.length d2, .slice b3 O.length d3], _]) (results_row_tmp rfl _ _ (w.heap.size + 1 + 1) 27 _ _ _ rfl (setRow_heap _ _ _ _ _ _ HR3.out) Try.underlying27 rfl hi6) rfl ⟨_, _, _, ret_val (by rw [HD.out.1, HC.out]; rfl), ?_, ?_, ?_⟩
          · rw [HD.out.2.1, HD.out.2.2.1, HD.out.2.2.2, (act_no HC.out (by decide)).1, (act_no HC.out (by decide)).2]
            exact RdD.own HRc.out HHc.out hszz hkz
          · rw [HD.out.2.1, HD.out.2.2.1, HD.out.2.2.2, (act_no HC.out (by decide)).1, (act_no HC.out (by decide)).2]
            exact (HHc.out.kept hkz).base (by have := HLT.out; omega)
          · exact below_setRow (HG.out wc HBc.out).2.2.2 (by omega) _
        | some x =>
          rw [hg] at hS6
          have HE : Hid (Sh w6 w2.heap.size B (2 * L.length + 2) (doF L o).1 D' p' ∧ Below w2.heap.size w2 w6 ∧ (doF L o).2 = true) := by
            have e : doF L o = (putF (cutF L o.n) o.t x, true) := by
              unfold doF
              rw [if_neg (by rw [HK.out]; decide), hg]
              simp only
              rw [if_pos HK.out]
            refine ⟨?_, HS3.out.2.trans hB6, by rw [e]⟩
            rw [e]
            show Sh w6 w2.heap.size B (2 * L.length + 2) (putF (cutF L o.n) o.t x) D' p'
            rw [putF_eq (cutF_up HS3.out.1.up _)]
            exact hS6.more (by omega)
          clear hS6 hB6 hg hm
          have HB6 : Hid (Below X.heap.size X w6) := HB2.out.trans (HE.out.2.1.mono HB2.out.size)
          have hg6 := HG.out w6 HB6.out
          have c0 := hg6.1.c0
          have c1 := hg6.1.c1
          have c2 := hg6.1.c2
          clear hg6
          by_cases h200 : O.length = 200
          · have h200b : ((O.length : Int) == 200) = true := by simp; omega
            have HC : Hid (actC L O o = 4) := by show _ = _; unfold actC; rw [if_neg (by rw [HFO.out]; decide), if_neg (by rw [HE.out.2.2]; decide), if_pos (.inl h200)]
            clear h200
            go_wp2_with fail
            refine (implCopy_any _ _ _ L S O w6 (HA.out w6 (HG.out w6 HB6.out).2.2.2) HN.out).mono ?_
            rintro e wc ⟨x, y, z, rfl, hr, hh, hBc⟩
            obtain ⟨b1, d1, b2, d2, b3, d3, ex, ey, ez⟩ := hr.slices
            subst ex ey ez
            have HBc : Hid (Below X.heap.size X wc) := HB6.out.trans (hBc.mono HB6.out.size)
            have HHc : Hid _ := hh
            have HR3 : Hid (At3 wc (w.heap.size + 1 + 1) 27 (.slice none 0 0) (.slice none 0 0) (.slice none 0 0)) := (HG.out wc HBc.out).2.2.1
            have HLT : Hid (w.heap.size + 1 + 1 < w6.heap.size) := (HG.out w6 HB6.out).2.2.1.lt
            obtain ⟨q, hq⟩ : ∃ q, q = #[Value.slice b1 L.length d1, .slice b2 S.length d2, .slice b3 O.length d3] := ⟨_, rfl⟩
            have hi6 : (Try.prog.info? 27).map (·.size) = some q.size := by rw [hq]; exact infoDk
            have ho6 : (#[Value.slice none 0 0, .slice none 0 0, .slice none 0 0] : Array Value).size = q.size := by rw [hq]; rfl
            have h16 : q.all (·.oneCell') = true := by rw [hq]; simp [Value.oneCell']
            have HRc : Hid (RdD wc (.slice b1 L.length d1) (.slice b2 S.length d2) (.slice b3 O.length d3) L S O) := hr
            clear hr hh hBc
            go_wp2_with (refine wpList_store_row rfl 27 _ _ rfl (w.heap.size + 1 + 1) q rfl (congrArg Value.agg hq.symm) 27 _ HR3.out hi6 ho6 h16 ?_)
            subst hq
            have hkz : ∀ k, w6.heap.size ≤ k → k < wc.heap.size → (wc.setRow (w.heap.size + 1 + 1) #[Value.slice b1 L.length d1, .slice b2 S.length d2, .slice b3 O.length d3]).heap[k]? = wc.heap[k]? := fun k h1 h2 => setRow_other _ _ _ _ (by have := HLT.out; omega)
            have hszz : wc.heap.size ≤ (wc.setRow (w.heap.size + 1 + 1) #[Value.slice b1 L.length d1, .slice b2 S.length d2, .slice b3 O.length d3]).heap.size := by simp [World.setRow]
            refine bodyPost_ret (v := .tuple #[.agg #[Value.slice b1 L.length d1, .slice b2 S.length d2, .slice b3 O.length d3], _]) (results_row_tmp rfl _ _ (w.heap.size + 1 + 1) 27 _ _ _ rfl (setRow_heap _ _ _ _ _ _ HR3.out) Try.underlying27 rfl hi6) rfl ⟨_, _, _, ret_val (by rw [HD.out.1, HC.out]; rfl), ?_, ?_, ?_⟩
            · rw [HD.out.2.1, HD.out.2.2.1, HD.out.2.2.2, (act_no HC.out (by decide)).1, (act_no HC.out (by decide)).2]
              exact RdD.own HRc.out HHc.out hszz hkz
            · rw [HD.out.2.1, HD.out.2.2.1, HD.out.2.2.2, (act_no HC.out (by decide)).1, (act_no HC.out (by decide)).2]
              exact (HHc.out.kept hkz).base (by have := HLT.out; omega)
            · exact below_setRow (HG.out wc HBc.out).2.2.2 (by omega) _
          · have h200b : ((O.length : Int) == 200) = false := by simp; omega
            have HN2 : Hid (O.length ≠ 200) := h200
            clear h200
            go_wp2_with fail
            refine (fits_any w2.heap.size B (2 * L.length + 2) _ D' p' w6 HE.out.1 HSM.out.1 HSM.out.2.1).mono ?_
            rintro e w7 ⟨rfl, hB7⟩
            rw [← HFB.out]
            have HB7 : Hid (Below X.heap.size X w7) := HB6.out.trans (hB7.mono HB6.out.size)
            have HS7 : Hid (Sh w7 w2.heap.size B (2 * L.length + 2) (doF L o).1 D' p') := HE.out.1.below hB7
            clear hB7 c0 c1 c2 h200b
            have hg7 := HG.out w7 HB7.out
            have c0 := hg7.1.c0
            have c1 := hg7.1.c1
            have c2 := hg7.1.c2
            cases hfb : filesB (doF L o).1 with
            | false =>
              have HC : Hid (actC L O o = 4) := by show _ = _; unfold actC; rw [if_neg (by rw [HFO.out]; decide), if_neg (by rw [HE.out.2.2]; decide), if_pos (.inr hfb)]
              clear hfb hg7
              go_wp2_with fail
              refine (implCopy_any _ _ _ L S O w7 (HA.out w7 (HG.out w7 HB7.out).2.2.2) HN.out).mono ?_
              rintro e wc ⟨x, y, z, rfl, hr, hh, hBc⟩
              obtain ⟨b1, d1, b2, d2, b3, d3, ex, ey, ez⟩ := hr.slices
              subst ex ey ez
              have HBc : Hid (Below X.heap.size X wc) := HB7.out.trans (hBc.mono HB7.out.size)
              have HHc : Hid _ := hh
              have HR3 : Hid (At3 wc (w.heap.size + 1 + 1) 27 (.slice none 0 0) (.slice none 0 0) (.slice none 0 0)) := (HG.out wc HBc.out).2.2.1
              have HLT : Hid (w.heap.size + 1 + 1 < w7.heap.size) := (HG.out w7 HB7.out).2.2.1.lt
              obtain ⟨q, hq⟩ : ∃ q, q = #[Value.slice b1 L.length d1, .slice b2 S.length d2, .slice b3 O.length d3] := ⟨_, rfl⟩
              have hi6 : (Try.prog.info? 27).map (·.size) = some q.size := by rw [hq]; exact infoDk
              have ho6 : (#[Value.slice none 0 0, .slice none 0 0, .slice none 0 0] : Array Value).size = q.size := by rw [hq]; rfl
              have h16 : q.all (·.oneCell') = true := by rw [hq]; simp [Value.oneCell']
              have HRc : Hid (RdD wc (.slice b1 L.length d1) (.slice b2 S.length d2) (.slice b3 O.length d3) L S O) := hr
              clear hr hh hBc
              go_wp2_with (refine wpList_store_row rfl 27 _ _ rfl (w.heap.size + 1 + 1) q rfl (congrArg Value.agg hq.symm) 27 _ HR3.out hi6 ho6 h16 ?_)
              subst hq
              have hkz : ∀ k, w7.heap.size ≤ k → k < wc.heap.size → (wc.setRow (w.heap.size + 1 + 1) #[Value.slice b1 L.length d1, .slice b2 S.length d2, .slice b3 O.length d3]).heap[k]? = wc.heap[k]? := fun k h1 h2 => setRow_other _ _ _ _ (by have := HLT.out; omega)
              have hszz : wc.heap.size ≤ (wc.setRow (w.heap.size + 1 + 1) #[Value.slice b1 L.length d1, .slice b2 S.length d2, .slice b3 O.length d3]).heap.size := by simp [World.setRow]
              refine bodyPost_ret (v := .tuple #[.agg #[Value.slice b1 L.length d1, .slice b2 S.length d2, .slice b3 O.length d3], _]) (results_row_tmp rfl _ _ (w.heap.size + 1 + 1) 27 _ _ _ rfl (setRow_heap _ _ _ _ _ _ HR3.out) Try.underlying27 rfl hi6) rfl ⟨_, _, _, ret_val (by rw [HD.out.1, HC.out]; rfl), ?_, ?_, ?_⟩
              · rw [HD.out.2.1, HD.out.2.2.1, HD.out.2.2.2, (act_no HC.out (by decide)).1, (act_no HC.out (by decide)).2]
                exact RdD.own HRc.out HHc.out hszz hkz
              · rw [HD.out.2.1, HD.out.2.2.1, HD.out.2.2.2, (act_no HC.out (by decide)).1, (act_no HC.out (by decide)).2]
                exact (HHc.out.kept hkz).base (by have := HLT.out; omega)
              · exact below_setRow (HG.out wc HBc.out).2.2.2 (by omega) _
            | true =>
              have HC : Hid (actC L O o = 0) := by show _ = _; unfold actC; rw [if_neg (by rw [HFO.out]; decide), if_neg (by rw [HE.out.2.2]; decide), if_neg (fun h => h.elim HN2.out (fun h => by rw [hfb] at h; cases h))]
              clear hfb
              have HC7 : Hid (∀ wy, Below w7.heap.size w7 wy → At3 wy w.heap.size 27 (.slice aL L.length cL) (.slice aS S.length cS) (.slice aO O.length cO) ∧ wy.heap[w.heap.size + 1]? = some (.cells #[.int .i64 o.k, .string o.n, .string o.t, .string o.d] 49 (0, 0)) ∧ At3 wy (w.heap.size + 1 + 1) 27 (.slice none 0 0) (.slice none 0 0) (.slice none 0 0) ∧ RdF wy (.slice aS S.length cS) S ∧ RdO wy (.slice aO O.length cO) O) := fun wy hy => by
                have hb := HB7.out.trans (hy.mono HB7.out.size)
                have hg := HG.out wy hb
                have ha := HA.out wy hg.2.2.2
                exact ⟨hg.1, hg.2.1, hg.2.2.1, ha.2.1, ha.2.2⟩
              have HLT7 : Hid (w.heap.size + 1 + 1 < w7.heap.size) := hg7.2.2.1.lt
              have HW7 : Hid (Below w.heap.size w w7) := hg7.2.2.2
              clear hg7 c0 c1 c2
              go_wp2
              refine wp_cut_to (fun a0 t w' => ∃ f, t = (canon a0 dsGn f).put (some 5) (.int .i64 0) ∧ (∃ x y z, w'.heap[w.heap.size + 1 + 1]? = some (.cells #[x, y, z] 27 (0, 0)) ∧ HoldF w' w7.heap.size x (doF L o).1 ∧ HoldF w' w7.heap.size y S ∧ HoldO w' w7.heap.size z (O ++ [o]) ∧ (∀ k, x.ownBlock = some k → y.ownBlock ≠ some k) ∧ Below w.heap.size w w')) ?_ ?_
              · rintro _ w8 ⟨f, rfl, h8⟩
                simp only [canon, dsGn, List.foldl, Act.put, List.setIfInBounds_toArray, List.set_cons_succ, List.set_cons_zero]
                obtain ⟨x, y, z, hb8, hx8, hy8, hz8, hap, hbw⟩ := h8
                have HE8 : Hid (HoldF w8 w7.heap.size x (doF L o).1 ∧ HoldF w8 w7.heap.size y S ∧ HoldO w8 w7.heap.size z (O ++ [o]) ∧ (∀ k, x.ownBlock = some k → y.ownBlock ≠ some k) ∧ Below w.heap.size w w8) := ⟨hx8, hy8, hz8, hap, hbw⟩
                clear hx8 hy8 hz8 hap hbw
                go_wp2
                have hle := HW7.out.size
                refine bodyPost_ret (v := .tuple #[.agg #[x, y, z], _]) (results_row_tmp rfl _ _ (w.heap.size + 1 + 1) 27 _ _ _ rfl hb8 Try.underlying27 rfl infoDk) rfl ⟨x, y, z, ret_val (by rw [HD.out.1, HC.out]; rfl), ?_, ?_, HE8.out.2.2.2.2⟩
                · rw [HD.out.2.1, HD.out.2.2.1, HD.out.2.2.2, (act_yes HC.out).1, (act_yes HC.out).2]
                  exact ⟨HE8.out.1.1, HE8.out.2.1.1, HE8.out.2.2.1.1⟩
                · rw [HD.out.2.1, HD.out.2.2.1, HD.out.2.2.2, (act_yes HC.out).1, (act_yes HC.out).2]
                  exact ⟨HE8.out.1.2.base hle, HE8.out.2.1.2.base hle, HE8.out.2.2.1.2.base hle, HE8.out.2.2.2.1⟩
              · intro J K' hJ hK
                refine wp_letter ?_
                intro fr hfr
                have hsz : 53 < fr.tmps.size := by rw [hfr]; exact Nat.le_of_ble_eq_true rfl
                have t2 : fr.eval (.tmp 2) = .pointer (some ⟨w.heap.size, 0, none⟩) := by rw [hfr]; rfl
                have t3 : fr.eval (.tmp 3) = .pointer (some ⟨w.heap.size + 1, 0, none⟩) := by rw [hfr]; rfl
                have t4 : fr.eval (.tmp 4) = .pointer (some ⟨w.heap.size + 1 + 1, 0, none⟩) := by rw [hfr]; rfl
                have t8 : fr.eval (.tmp 8) = .map (some B) := by rw [hfr]; rfl
                have HFR := (show Hid _ from hfr)
                clear hfr
                refine wp_region_fin2 (Rel := fun v v' => Below v.heap.size v v') (fun v => Below.refl _ _) (fun h k => h.trans (k.mono h.size)) (fun v => (Below.refl _ _).drew) 12 rfl (by kernel_rfl) (by kernel_rfl) dsGn slotGn (GG w.heap.size w7.heap.size B (.slice aS S.length cS) adO cO (doF L o).1 S O o) _ _ rfl rfl (by kernel_rfl) (by kernel_rfl) (fun a' w' => ∃ f, a' = canon fr dsGn f ∧ (∃ x y z, w'.heap[w.heap.size + 1 + 1]? = some (.cells #[x, y, z] 27 (0, 0)) ∧ HoldF w' w7.heap.size x (doF L o).1 ∧ HoldF w' w7.heap.size y S ∧ HoldO w' w7.heap.size z (O ++ [o]) ∧ (∀ k, x.ownBlock = some k → y.ownBlock ≠ some k) ∧ Below w.heap.size w w')) (fun _ _ _ _ h hB => h.below hB) ?_ ?_ ?_ ?_ ?_ ?_
                · intro j f f' wy hj he h
                  exact h.dep hj (fun i hi => he i (by revert hi; match j, hj with | 0, _ => (intro hi; simp only [depGn, beq_iff_eq] at hi; rcases hi with rfl <;> kernel_rfl) | 1, _ => (intro hi; simp only [depGn, beq_iff_eq] at hi; rcases hi with rfl <;> kernel_rfl) | 2, _ => (intro hi; simp only [depGn, beq_iff_eq] at hi; rcases hi with rfl <;> kernel_rfl) | 3, _ => (intro hi; simp only [depGn, beq_iff_eq] at hi; rcases hi with rfl <;> kernel_rfl) | 4, _ => (intro hi; simp only [depGn, Bool.or_eq_true, beq_iff_eq] at hi; rcases hi with rfl | rfl <;> kernel_rfl) | 5, _ => (intro hi; simp only [depGn, beq_iff_eq] at hi; rcases hi with rfl <;> kernel_rfl) | 6, _ => (intro hi; simp only [depGn, beq_iff_eq] at hi; rcases hi with rfl <;> kernel_rfl) | 7, _ => (intro hi; simp only [depGn, beq_iff_eq] at hi; rcases hi with rfl <;> kernel_rfl) | 8, _ => (intro hi; simp only [depGn, beq_iff_eq] at hi; rcases hi with rfl <;> kernel_rfl) | 9, _ => (intro hi; simp only [depGn, beq_iff_eq] at hi; rcases hi with rfl <;> kernel_rfl) | 10, _ => (intro hi; simp only [depGn, beq_iff_eq] at hi; rcases hi with rfl <;> kernel_rfl) | 11, _ => (intro hi; simp only [depGn, Bool.or_eq_true, beq_iff_eq] at hi; rcases hi with ((rfl | rfl) | rfl) | rfl <;> kernel_rfl)))
                · intro i hi
                  exact slotGn_mem i hi
                · intro i j hi hj q
                  exact slotGn_inj i j hi hj q
                · intro ops hops f wy j oo hj hy ho hd
                  have ho2 := ho
                  rw [hops] at ho
                  have N2 := (canon_eval_ne fr dsGn f 2 (by decide)).trans t2
                  have N3 := (canon_eval_ne fr dsGn f 3 (by decide)).trans t3
                  have N8 := (canon_eval_ne fr dsGn f 8 (by decide)).trans t8
                  have hj' : j = 0 ∨ j = 1 ∨ j = 2 ∨ j = 3 ∨ j = 4 ∨ j = 5 ∨ j = 6 ∨ j = 7 ∨ j = 8 ∨ j = 9 ∨ j = 10 ∨ j = 11 := by omega
                  rcases hj' with rfl | rfl | rfl | rfl | rfl | rfl | rfl | rfl | rfl | rfl | rfl | rfl <;> simp only [List.getElem?_toArray, List.getElem?_cons_succ, List.getElem?_cons_zero, Option.some.injEq] at ho <;> subst ho
                  · refine wpOp_runG ho2 (wanted_none rfl) (q_moveD (canon fr dsGn f).eval _ wy _ rfl) ?_
                    exact ⟨_, rfl, (upd_same f 42 _).trans N8, Below.refl _ _⟩
                  · refine wpOp_enterG ho2 (wanted_none rfl) (q_call1I (canon fr dsGn f).eval _ wy _ HEN1.out _ _ rfl rfl) ?_
                    rw [(canon_eval fr dsGn f 42 (by decide) (Nat.lt_of_le_of_lt (by decide) hsz)).trans (hd ⟨0, .data⟩ (by simp) rfl (by decide))]
                    refine (shFiles_any w2.heap.size B (2 * L.length + 2) (doF L o).1 D' p' wy (HS7.out.below hy) (by have := HUS.out.2.1; omega) HSM.out.2.1 HSM.out.2.2).mono ?_
                    rintro e wz ⟨u, rfl, hu, hBz⟩
                    exact ⟨_, rfl, _, rfl, by show HoldF _ _ (upd f 43 u 43) (doF L o).1; rw [upd_same]; exact hu.hold.base hy.size, hBz⟩
                  · refine wpOp_runG ho2 (wanted_none rfl) (q_fieldK (canon fr dsGn f).eval _ wy _ w.heap.size 1 rfl N2 (by decide)) ?_
                    exact ⟨_, rfl, upd_same f 44 _, Below.refl _ _⟩
                  · refine wpOp_runG ho2 (wanted_none rfl) (q_loadF (canon fr dsGn f).eval _ wy _ w.heap.size 1 rfl ((canon_eval fr dsGn f 44 (by decide) (Nat.lt_of_le_of_lt (by decide) hsz)).trans (hd ⟨2, .data⟩ (by simp) rfl (by decide))) (HC7.out wy hy).1.c1) ?_
                    exact ⟨_, rfl, upd_same f 45 _, Below.refl _ _⟩
                  · have h9 : HoldF wy w7.heap.size (f 43) (doF L o).1 := hd ⟨1, .chain⟩ (by simp) rfl (by decide)
                    refine wpOp_enterG ho2 (wanted_none rfl) (q_call1I (canon fr dsGn f).eval _ wy _ HEN2.out _ _ rfl rfl) ?_
                    rw [(canon_eval fr dsGn f 45 (by decide) (Nat.lt_of_le_of_lt (by decide) hsz)).trans (hd ⟨3, .data⟩ (by simp) rfl (by decide))]
                    refine (cloneF_any _ S wy (HC7.out wy hy).2.2.2.1 HN.out.2.1).mono ?_
                    rintro e wz ⟨u, rfl, hu, hBz⟩
                    refine ⟨_, rfl, _, rfl, ⟨by show HoldF _ _ (upd f 46 u 46) S; rw [upd_same]; exact hu.base hy.size, fun q hk => ?_⟩, hBz⟩
                    have e9 : upd f 46 u 43 = f 43 := upd_ne f u (by decide)
                    have hk' : (f 43).ownBlock = some q := by rw [← e9]; exact hk
                    show (upd f 46 u 46).ownBlock ≠ some q
                    rw [upd_same]
                    intro e
                    have h1 := (h9.2.lt q hk').2
                    have h2 := (hu.2.lt q e).1
                    omega
                  · refine wpOp_runG ho2 (wanted_none rfl) (q_fieldK (canon fr dsGn f).eval _ wy _ w.heap.size 2 rfl N2 (by decide)) ?_
                    exact ⟨_, rfl, upd_same f 47 _, Below.refl _ _⟩
                  · refine wpOp_runG ho2 (wanted_none rfl) (q_loadO (canon fr dsGn f).eval _ wy _ w.heap.size 2 rfl ((canon_eval fr dsGn f 47 (by decide) (Nat.lt_of_le_of_lt (by decide) hsz)).trans (hd ⟨5, .data⟩ (by simp) rfl (by decide))) (HC7.out wy hy).1.c2) ?_
                    exact ⟨_, rfl, (upd_same f 48 _).trans (by rw [HAO.out]), Below.refl _ _⟩
                  · refine wpOp_runG ho2 (wanted_none rfl) (q_loadOp (canon fr dsGn f).eval _ wy _ (w.heap.size + 1) o rfl N3 (HC7.out wy hy).2.1) ?_
                    exact ⟨_, rfl, upd_same f 49 _, Below.refl _ _⟩
                  · refine wpOp_runG ho2 (wanted_none rfl) (q_lit1O (canon fr dsGn f).eval _ wy _ o rfl ((canon_eval fr dsGn f 49 (by decide) (Nat.lt_of_le_of_lt (by decide) hsz)).trans (hd ⟨7, .data⟩ (by simp) rfl (by decide)))) ?_
                    exact ⟨_, rfl, ⟨wy.heap.size, upd_same f 50 _, hy.size, heap_alloc_new _ _⟩, (Below.refl _ _).alloc (Nat.le_refl _) _⟩
                  · have h48 : f 48 = .slice adO O.length cO := hd ⟨6, .data⟩ (by simp) rfl (by decide)
                    obtain ⟨g, eg, hbg, hgh⟩ := hd ⟨8, .data⟩ (by simp) rfl (by decide)
                    refine wpOp_runG ho2 (wanted_none rfl) (q_lit2O (canon fr dsGn f).eval _ wy _ _ rfl ((canon_eval fr dsGn f 48 (by decide) (Nat.lt_of_le_of_lt (by decide) hsz)).trans h48) ((canon_eval fr dsGn f 50 (by decide) (Nat.lt_of_le_of_lt (by decide) hsz)).trans eg)) ?_
                    have hba : Below wy.heap.size wy (wy.alloc (.cells #[.slice adO O.length cO, .slice (some ⟨g, 0, none⟩) 1 1] 25)) := (Below.refl _ _).alloc (Nat.le_refl _) _
                    exact ⟨_, rfl, ⟨wy.heap.size, g, upd_same f 51 _, heap_alloc_new _ _, (hba.block _ (lt_of_block hgh)).trans hgh⟩, hba⟩
                  · obtain ⟨g2, g, eg, hg2, hg⟩ := hd ⟨9, .data⟩ (by simp) rfl (by decide)
                    refine wpOp_enterG ho2 (wanted_none rfl) (q_call1I (canon fr dsGn f).eval _ wy _ HEN3.out _ _ rfl rfl) ?_
                    rw [(canon_eval fr dsGn f 51 (by decide) (Nat.lt_of_le_of_lt (by decide) hsz)).trans eg]
                    have hro : RdO wy (.slice adO O.length cO) O := by have := (HC7.out wy hy).2.2.2.2; rw [HAO.out] at this; exact this
                    refine (concat2_any g2 adO ⟨g, 0, none⟩ cO 1 O [o] wy HNZ.out (cellN hg2) (cellN hg2) (fun w' hB => hro.below hB) (fun w' hB => one_news ((hB.block _ (lt_of_block hg)).trans hg)) (by have := HUS.out.2.2.2; omega) (by simp)).mono ?_
                    rintro e wz ⟨u, rfl, hu, hBz⟩
                    exact ⟨_, rfl, _, rfl, by show HoldO _ _ (upd f 52 u 52) (O ++ [o]); rw [upd_same]; exact hu.hold.base hy.size, hBz⟩
                  · have h9 : HoldF wy w7.heap.size (f 43) (doF L o).1 := hd ⟨1, .data⟩ (by simp) rfl (by decide)
                    have h12 : HoldF wy w7.heap.size (f 46) S ∧ _ := hd ⟨4, .data⟩ (by simp) rfl (by decide)
                    have h15 : HoldO wy w7.heap.size (f 52) (O ++ [o]) := hd ⟨10, .data⟩ (by simp) rfl (by decide)
                    obtain ⟨a9, c9, e9⟩ := h9.2.slice
                    obtain ⟨a12, c12, e12⟩ := h12.1.2.slice
                    obtain ⟨a15, c15, e15⟩ := h15.2.slice
                    refine wpOp_runG ho2 (wanted_none rfl) (q_build3 (canon fr dsGn f).eval _ wy _ _ _ rfl ((canon_eval fr dsGn f 43 (by decide) (Nat.lt_of_le_of_lt (by decide) hsz)).trans e9) ((canon_eval fr dsGn f 46 (by decide) (Nat.lt_of_le_of_lt (by decide) hsz)).trans e12) ((canon_eval fr dsGn f 52 (by decide) (Nat.lt_of_le_of_lt (by decide) hsz)).trans e15)) ?_
                    refine ⟨_, rfl, ?_, Below.refl _ _⟩
                    show upd f 53 _ 53 = .agg #[upd f 53 _ 43, upd f 53 _ 46, upd f 53 _ 52]
                    rw [upd_same, upd_ne f _ (by decide : (43 : Nat) ≠ 53), upd_ne f _ (by decide : (46 : Nat) ≠ 53), upd_ne f _ (by decide : (52 : Nat) ≠ 53), e9, e12, e15]
                · intro ops hops f wy hy ho hall
                  have ho2 := ho
                  have N4 := (canon_eval_ne fr dsGn f 4 (by decide)).trans t4
                  have h9 : HoldF wy w7.heap.size (f 43) (doF L o).1 := hall 1 (by omega)
                  have h12 : HoldF wy w7.heap.size (f 46) S ∧ _ := hall 4 (by omega)
                  have h15 : HoldO wy w7.heap.size (f 52) (O ++ [o]) := hall 10 (by omega)
                  have h13 : f 53 = .agg #[f 43, f 46, f 52] := hall 11 (by omega)
                  obtain ⟨a9, c9, e9⟩ := h9.2.slice
                  obtain ⟨a12, c12, e12⟩ := h12.1.2.slice
                  obtain ⟨a15, c15, e15⟩ := h15.2.slice
                  have hrb := (HC7.out wy hy).2.2.1
                  refine wpOp_storeD ho2 (wanted_none rfl) _ _ (w.heap.size + 1 + 1) rfl N4 ((canon_eval fr dsGn f 53 (by decide) (Nat.lt_of_le_of_lt (by decide) hsz)).trans (h13.trans (by rw [e9, e12, e15]))) rfl hrb ?_
                  intro wz hz1 hz2 hz3 hz4 hz5 hz6
                  have hlt : w.heap.size + 1 + 1 < w7.heap.size := HLT7.out
                  have hkz : ∀ k, w7.heap.size ≤ k → k < wy.heap.size → wz.heap[k]? = wy.heap[k]? := fun k h1 h2 => hz2 k (by omega)
                  refine ⟨f, rfl, f 43, f 46, f 52, ?_, h9.kept (by omega) hkz, h12.1.kept (by omega) hkz, h15.kept (by omega) hkz, h12.2, ?_⟩
                  · rw [e9, e12, e15]; exact hz1
                  · have hb7 := HW7.out
                    have hbw := hb7.trans (hy.mono hb7.size)
                    exact ⟨hz4.trans hbw.os, hz5.trans hbw.tape, hz6.trans hbw.output, by rw [hz3]; exact hbw.size, fun k hk => (hz2 k (by omega)).trans (hbw.block k hk)⟩
                · rintro ops hops a wy ⟨f, rfl, hpost⟩ ho
                  refine wpOp_runG ho (wanted_none rfl) (q_assignC (canon fr dsGn f).eval _ wy _ rfl) ?_
                  exact hK _ _ (Met.intro (hJ _ _ ⟨f, congrArg (fun z => (canon z dsGn f).put (some 5) (.int .i64 0)) HFR.out, hpost⟩))
      · rw [chV_rem hk]
        have hm := mRem o.n
        have HK : Hid (o.k = 3) := hk
        clear hk
        go_wp2_with fail
        refine (rem_any o.n w2.heap.size B (2 * L.length) L D0 p0 w3 HS3.out.1 HS3.out.2.size (by have := HOZ.out.1; omega)).mono ?_
        rintro e w6 ⟨rfl, D', p', hS6, hB6⟩
        cases hg : getF L o.n with
        | none =>
          have HC : Hid (actC L O o = 3) := by
            have : (doF L o).2 = false := by
              unfold doF
              rw [if_neg (by rw [HK.out]; decide), hg]
            show _ = _
            unfold actC
            rw [if_neg (by rw [HFO.out]; decide), if_pos this]
          have HB6 : Hid (Below X.heap.size X w6) := HB2.out.trans ((HS3.out.2.trans hB6).mono HB2.out.size)
          have hg6 := HG.out w6 HB6.out
          have c0 := hg6.1.c0
          have c1 := hg6.1.c1
          have c2 := hg6.1.c2
          clear hS6 hB6 hg6 hg hm
          go_wp2_with fail
          refine (implCopy_any _ _ _ L S O w6 (HA.out w6 (HG.out w6 HB6.out).2.2.2) HN.out).mono ?_
          rintro e wc ⟨x, y, z, rfl, hr, hh, hBc⟩
          obtain ⟨b1, d1, b2, d2, b3, d3, ex, ey, ez⟩ := hr.slices
          subst ex ey ez
          have HBc : Hid (Below X.heap.size X wc) := HB6.out.trans (hBc.mono HB6.out.size)
          have HHc : Hid _ := hh
          have HR3 : Hid (At3 wc (w.heap.size + 1 + 1) 27 (.slice none 0 0) (.slice none 0 0) (.slice none 0 0)) := (HG.out wc HBc.out).2.2.1
          have HLT : Hid (w.heap.size + 1 + 1 < w6.heap.size) := (HG.out w6 HB6.out).2.2.1.lt
          obtain ⟨q, hq⟩ : ∃ q, q = #[Value.slice b1 L.length d1, .slice b2 S.length d2, .slice b3 O.length d3] := ⟨_, rfl⟩
          have hi6 : (Try.prog.info? 27).map (·.size) = some q.size := by rw [hq]; exact infoDk
          have ho6 : (#[Value.slice none 0 0, .slice none 0 0, .slice none 0 0] : Array Value).size = q.size := by rw [hq]; rfl
          have h16 : q.all (·.oneCell') = true := by rw [hq]; simp [Value.oneCell']
          have HRc : Hid (RdD wc (.slice b1 L.length d1) (.slice b2 S.length d2) (.slice b3 O.length d3) L S O) := hr
          clear hr hh hBc
          go_wp2_with (refine wpList_store_row rfl 27 _ _ rfl (w.heap.size + 1 + 1) q rfl (congrArg Value.agg hq.symm) 27 _ HR3.out hi6 ho6 h16 ?_)
          subst hq
          have hkz : ∀ k, w6.heap.size ≤ k → k < wc.heap.size → (wc.setRow (w.heap.size + 1 + 1) #[Value.slice b1 L.length d1, .slice b2 S.length d2, .slice b3 O.length d3]).heap[k]? = wc.heap[k]? := fun k h1 h2 => setRow_other _ _ _ _ (by have := HLT.out; omega)
          have hszz : wc.heap.size ≤ (wc.setRow (w.heap.size + 1 + 1) #[Value.slice b1 L.length d1, .slice b2 S.length d2, .slice b3 O.length d3]).heap.size := by simp [World.setRow]
          refine bodyPost_ret (v := .tuple #[.agg #[Value.slice b1 L.length d1, .slice b2 S.length d2, .slice b3 O.length d3], _]) (results_row_tmp rfl _ _ (w.heap.size + 1 + 1) 27 _ _ _ rfl (setRow_heap _ _ _ _ _ _ HR3.out) Try.underlying27 rfl hi6) rfl ⟨_, _, _, ret_val (by rw [HD.out.1, HC.out]; rfl), ?_, ?_, ?_⟩
          · rw [HD.out.2.1, HD.out.2.2.1, HD.out.2.2.2, (act_no HC.out (by decide)).1, (act_no HC.out (by decide)).2]
            exact RdD.own HRc.out HHc.out hszz hkz
          · rw [HD.out.2.1, HD.out.2.2.1, HD.out.2.2.2, (act_no HC.out (by decide)).1, (act_no HC.out (by decide)).2]
            exact (HHc.out.kept hkz).base (by have := HLT.out; omega)
          · exact below_setRow (HG.out wc HBc.out).2.2.2 (by omega) _
        | some x =>
          have HE : Hid (Sh w6 w2.heap.size B (2 * L.length + 2) (doF L o).1 D' p' ∧ Below w2.heap.size w2 w6 ∧ (doF L o).2 = true) := by
            have e : doF L o = (cutF L o.n, true) := by
              unfold doF
              rw [if_neg (by rw [HK.out]; decide), hg]
              simp only
              rw [if_neg (by rw [HK.out]; decide)]
            refine ⟨?_, HS3.out.2.trans hB6, by rw [e]⟩
            rw [e]
            exact hS6.more (by omega)
          clear hS6 hB6 hg hm
          have HB6 : Hid (Below X.heap.size X w6) := HB2.out.trans (HE.out.2.1.mono HB2.out.size)
          have hg6 := HG.out w6 HB6.out
          have c0 := hg6.1.c0
          have c1 := hg6.1.c1
          have c2 := hg6.1.c2
          clear hg6
          by_cases h200 : O.length = 200
          · have h200b : ((O.length : Int) == 200) = true := by simp; omega
            have HC : Hid (actC L O o = 4) := by show _ = _; unfold actC; rw [if_neg (by rw [HFO.out]; decide), if_neg (by rw [HE.out.2.2]; decide), if_pos (.inl h200)]
            clear h200
            go_wp2_with fail
            refine (implCopy_any _ _ _ L S O w6 (HA.out w6 (HG.out w6 HB6.out).2.2.2) HN.out).mono ?_
            rintro e wc ⟨x, y, z, rfl, hr, hh, hBc⟩
            obtain ⟨b1, d1, b2, d2, b3, d3, ex, ey, ez⟩ := hr.slices
            subst ex ey ez
            have HBc : Hid (Below X.heap.size X wc) := HB6.out.trans (hBc.mono HB6.out.size)
            have HHc : Hid _ := hh
            have HR3 : Hid (At3 wc (w.heap.size + 1 + 1) 27 (.slice none 0 0) (.slice none 0 0) (.slice none 0 0)) := (HG.out wc HBc.out).2.2.1
            have HLT : Hid (w.heap.size + 1 + 1 < w6.heap.size) := (HG.out w6 HB6.out).2.2.1.lt
            obtain ⟨q, hq⟩ : ∃ q, q = #[Value.slice b1 L.length d1, .slice b2 S.length d2, .slice b3 O.length d3] := ⟨_, rfl⟩
            have hi6 : (Try.prog.info? 27).map (·.size) = some q.size := by rw [hq]; exact infoDk
            have ho6 : (#[Value.slice none 0 0, .slice none 0 0, .slice none 0 0] : Array Value).size = q.size := by rw [hq]; rfl
            have h16 : q.all (·.oneCell') = true := by rw [hq]; simp [Value.oneCell']
            have HRc : Hid (RdD wc (.slice b1 L.length d1) (.slice b2 S.length d2) (.slice b3 O.length d3) L S O) := hr
            clear hr hh hBc
            go_wp2_with (refine wpList_store_row rfl 27 _ _ rfl (w.heap.size + 1 + 1) q rfl (congrArg Value.agg hq.symm) 27 _ HR3.out hi6 ho6 h16 ?_)
            subst hq
            have hkz : ∀ k, w6.heap.size ≤ k → k < wc.heap.size → (wc.setRow (w.heap.size + 1 + 1) #[Value.slice b1 L.length d1, .slice b2 S.length d2, .slice b3 O.length d3]).heap[k]? = wc.heap[k]? := fun k h1 h2 => setRow_other _ _ _ _ (by have := HLT.out; omega)
            have hszz : wc.heap.size ≤ (wc.setRow (w.heap.size + 1 + 1) #[Value.slice b1 L.length d1, .slice b2 S.length d2, .slice b3 O.length d3]).heap.size := by simp [World.setRow]
            refine bodyPost_ret (v := .tuple #[.agg #[Value.slice b1 L.length d1, .slice b2 S.length d2, .slice b3 O.length d3], _]) (results_row_tmp rfl _ _ (w.heap.size + 1 + 1) 27 _ _ _ rfl (setRow_heap _ _ _ _ _ _ HR3.out) Try.underlying27 rfl hi6) rfl ⟨_, _, _, ret_val (by rw [HD.out.1, HC.out]; rfl), ?_, ?_, ?_⟩
            · rw [HD.out.2.1, HD.out.2.2.1, HD.out.2.2.2, (act_no HC.out (by decide)).1, (act_no HC.out (by decide)).2]
              exact RdD.own HRc.out HHc.out hszz hkz
            · rw [HD.out.2.1, HD.out.2.2.1, HD.out.2.2.2, (act_no HC.out (by decide)).1, (act_no HC.out (by decide)).2]
              exact (HHc.out.kept hkz).base (by have := HLT.out; omega)
            · exact below_setRow (HG.out wc HBc.out).2.2.2 (by omega) _
          · have h200b : ((O.length : Int) == 200) = false := by simp; omega
            have HN2 : Hid (O.length ≠ 200) := h200
            clear h200
            go_wp2_with fail
            refine (fits_any w2.heap.size B (2 * L.length + 2) _ D' p' w6 HE.out.1 HSM.out.1 HSM.out.2.1).mono ?_
            rintro e w7 ⟨rfl, hB7⟩
            rw [← HFB.out]
            have HB7 : Hid (Below X.heap.size X w7) := HB6.out.trans (hB7.mono HB6.out.size)
            have HS7 : Hid (Sh w7 w2.heap.size B (2 * L.length + 2) (doF L o).1 D' p') := HE.out.1.below hB7
            clear hB7 c0 c1 c2 h200b
            have hg7 := HG.out w7 HB7.out
            have c0 := hg7.1.c0
            have c1 := hg7.1.c1
            have c2 := hg7.1.c2
            cases hfb : filesB (doF L o).1 with
            | false =>
              have HC : Hid (actC L O o = 4) := by show _ = _; unfold actC; rw [if_neg (by rw [HFO.out]; decide), if_neg (by rw [HE.out.2.2]; decide), if_pos (.inr hfb)]
              clear hfb hg7
              go_wp2_with fail
              refine (implCopy_any _ _ _ L S O w7 (HA.out w7 (HG.out w7 HB7.out).2.2.2) HN.out).mono ?_
              rintro e wc ⟨x, y, z, rfl, hr, hh, hBc⟩
              obtain ⟨b1, d1, b2, d2, b3, d3, ex, ey, ez⟩ := hr.slices
              subst ex ey ez
              have HBc : Hid (Below X.heap.size X wc) := HB7.out.trans (hBc.mono HB7.out.size)
              have HHc : Hid _ := hh
              have HR3 : Hid (At3 wc (w.heap.size + 1 + 1) 27 (.slice none 0 0) (.slice none 0 0) (.slice none 0 0)) := (HG.out wc HBc.out).2.2.1
              have HLT : Hid (w.heap.size + 1 + 1 < w7.heap.size) := (HG.out w7 HB7.out).2.2.1.lt
              obtain ⟨q, hq⟩ : ∃ q, q = #[Value.slice b1 L.length d1, .slice b2 S.length d2, .slice b3 O.length d3] := ⟨_, rfl⟩
              have hi6 : (Try.prog.info? 27).map (·.size) = some q.size := by rw [hq]; exact infoDk
              have ho6 : (#[Value.slice none 0 0, .slice none 0 0, .slice none 0 0] : Array Value).size = q.size := by rw [hq]; rfl
              have h16 : q.all (·.oneCell') = true := by rw [hq]; simp [Value.oneCell']
              have HRc : Hid (RdD wc (.slice b1 L.length d1) (.slice b2 S.length d2) (.slice b3 O.length d3) L S O) := hr
              clear hr hh hBc
              go_wp2_with (refine wpList_store_row rfl 27 _ _ rfl (w.heap.size + 1 + 1) q rfl (congrArg Value.agg hq.symm) 27 _ HR3.out hi6 ho6 h16 ?_)
              subst hq
              have hkz : ∀ k, w7.heap.size ≤ k → k < wc.heap.size → (wc.setRow (w.heap.size + 1 + 1) #[Value.slice b1 L.length d1, .slice b2 S.length d2, .slice b3 O.length d3]).heap[k]? = wc.heap[k]? := fun k h1 h2 => setRow_other _ _ _ _ (by have := HLT.out; omega)
              have hszz : wc.heap.size ≤ (wc.setRow (w.heap.size + 1 + 1) #[Value.slice b1 L.length d1, .slice b2 S.length d2, .slice b3 O.length d3]).heap.size := by simp [World.setRow]
              refine bodyPost_ret (v := .tuple #[.agg #[Value.slice b1 L.length d1, .slice b2 S.length d2, .slice b3 O.length d3], _]) (results_row_tmp rfl _ _ (w.heap.size + 1 + 1) 27 _ _ _ rfl (setRow_heap _ _ _ _ _ _ HR3.out) Try.underlying27 rfl hi6) rfl ⟨_, _, _, ret_val (by rw [HD.out.1, HC.out]; rfl), ?_, ?_, ?_⟩
              · rw [HD.out.2.1, HD.out.2.2.1, HD.out.2.2.2, (act_no HC.out (by decide)).1, (act_no HC.out (by decide)).2]
                exact RdD.own HRc.out HHc.out hszz hkz
              · rw [HD.out.2.1, HD.out.2.2.1, HD.out.2.2.2, (act_no HC.out (by decide)).1, (act_no HC.out (by decide)).2]
                exact (HHc.out.kept hkz).base (by have := HLT.out; omega)
              · exact below_setRow (HG.out wc HBc.out).2.2.2 (by omega) _
            | true =>
              have HC : Hid (actC L O o = 0) := by show _ = _; unfold actC; rw [if_neg (by rw [HFO.out]; decide), if_neg (by rw [HE.out.2.2]; decide), if_neg (fun h => h.elim HN2.out (fun h => by rw [hfb] at h; cases h))]
              clear hfb
              have HC7 : Hid (∀ wy, Below w7.heap.size w7 wy → At3 wy w.heap.size 27 (.slice aL L.length cL) (.slice aS S.length cS) (.slice aO O.length cO) ∧ wy.heap[w.heap.size + 1]? = some (.cells #[.int .i64 o.k, .string o.n, .string o.t, .string o.d] 49 (0, 0)) ∧ At3 wy (w.heap.size + 1 + 1) 27 (.slice none 0 0) (.slice none 0 0) (.slice none 0 0) ∧ RdF wy (.slice aS S.length cS) S ∧ RdO wy (.slice aO O.length cO) O) := fun wy hy => by
                have hb := HB7.out.trans (hy.mono HB7.out.size)
                have hg := HG.out wy hb
                have ha := HA.out wy hg.2.2.2
                exact ⟨hg.1, hg.2.1, hg.2.2.1, ha.2.1, ha.2.2⟩
              have HLT7 : Hid (w.heap.size + 1 + 1 < w7.heap.size) := hg7.2.2.1.lt
              have HW7 : Hid (Below w.heap.size w w7) := hg7.2.2.2
              clear hg7 c0 c1 c2
              go_wp2
              refine wp_cut_to (fun a0 t w' => ∃ f, t = (canon a0 dsGn f).put (some 5) (.int .i64 0) ∧ (∃ x y z, w'.heap[w.heap.size + 1 + 1]? = some (.cells #[x, y, z] 27 (0, 0)) ∧ HoldF w' w7.heap.size x (doF L o).1 ∧ HoldF w' w7.heap.size y S ∧ HoldO w' w7.heap.size z (O ++ [o]) ∧ (∀ k, x.ownBlock = some k → y.ownBlock ≠ some k) ∧ Below w.heap.size w w')) ?_ ?_
              · rintro _ w8 ⟨f, rfl, h8⟩
                simp only [canon, dsGn, List.foldl, Act.put, List.setIfInBounds_toArray, List.set_cons_succ, List.set_cons_zero]
                obtain ⟨x, y, z, hb8, hx8, hy8, hz8, hap, hbw⟩ := h8
                have HE8 : Hid (HoldF w8 w7.heap.size x (doF L o).1 ∧ HoldF w8 w7.heap.size y S ∧ HoldO w8 w7.heap.size z (O ++ [o]) ∧ (∀ k, x.ownBlock = some k → y.ownBlock ≠ some k) ∧ Below w.heap.size w w8) := ⟨hx8, hy8, hz8, hap, hbw⟩
                clear hx8 hy8 hz8 hap hbw
                go_wp2
                have hle := HW7.out.size
                refine bodyPost_ret (v := .tuple #[.agg #[x, y, z], _]) (results_row_tmp rfl _ _ (w.heap.size + 1 + 1) 27 _ _ _ rfl hb8 Try.underlying27 rfl infoDk) rfl ⟨x, y, z, ret_val (by rw [HD.out.1, HC.out]; rfl), ?_, ?_, HE8.out.2.2.2.2⟩
                · rw [HD.out.2.1, HD.out.2.2.1, HD.out.2.2.2, (act_yes HC.out).1, (act_yes HC.out).2]
                  exact ⟨HE8.out.1.1, HE8.out.2.1.1, HE8.out.2.2.1.1⟩
                · rw [HD.out.2.1, HD.out.2.2.1, HD.out.2.2.2, (act_yes HC.out).1, (act_yes HC.out).2]
                  exact ⟨HE8.out.1.2.base hle, HE8.out.2.1.2.base hle, HE8.out.2.2.1.2.base hle, HE8.out.2.2.2.1⟩
              · intro J K' hJ hK
                refine wp_letter ?_
                intro fr hfr
                have hsz : 53 < fr.tmps.size := by rw [hfr]; exact Nat.le_of_ble_eq_true rfl
                have t2 : fr.eval (.tmp 2) = .pointer (some ⟨w.heap.size, 0, none⟩) := by rw [hfr]; rfl
                have t3 : fr.eval (.tmp 3) = .pointer (some ⟨w.heap.size + 1, 0, none⟩) := by rw [hfr]; rfl
                have t4 : fr.eval (.tmp 4) = .pointer (some ⟨w.heap.size + 1 + 1, 0, none⟩) := by rw [hfr]; rfl
                have t8 : fr.eval (.tmp 8) = .map (some B) := by rw [hfr]; rfl
                have HFR := (show Hid _ from hfr)
                clear hfr
                refine wp_region_fin2 (Rel := fun v v' => Below v.heap.size v v') (fun v => Below.refl _ _) (fun h k => h.trans (k.mono h.size)) (fun v => (Below.refl _ _).drew) 12 rfl (by kernel_rfl) (by kernel_rfl) dsGn slotGn (GG w.heap.size w7.heap.size B (.slice aS S.length cS) adO cO (doF L o).1 S O o) _ _ rfl rfl (by kernel_rfl) (by kernel_rfl) (fun a' w' => ∃ f, a' = canon fr dsGn f ∧ (∃ x y z, w'.heap[w.heap.size + 1 + 1]? = some (.cells #[x, y, z] 27 (0, 0)) ∧ HoldF w' w7.heap.size x (doF L o).1 ∧ HoldF w' w7.heap.size y S ∧ HoldO w' w7.heap.size z (O ++ [o]) ∧ (∀ k, x.ownBlock = some k → y.ownBlock ≠ some k) ∧ Below w.heap.size w w')) (fun _ _ _ _ h hB => h.below hB) ?_ ?_ ?_ ?_ ?_ ?_
                · intro j f f' wy hj he h
                  exact h.dep hj (fun i hi => he i (by revert hi; match j, hj with | 0, _ => (intro hi; simp only [depGn, beq_iff_eq] at hi; rcases hi with rfl <;> kernel_rfl) | 1, _ => (intro hi; simp only [depGn, beq_iff_eq] at hi; rcases hi with rfl <;> kernel_rfl) | 2, _ => (intro hi; simp only [depGn, beq_iff_eq] at hi; rcases hi with rfl <;> kernel_rfl) | 3, _ => (intro hi; simp only [depGn, beq_iff_eq] at hi; rcases hi with rfl <;> kernel_rfl) | 4, _ => (intro hi; simp only [depGn, Bool.or_eq_true, beq_iff_eq] at hi; rcases hi with rfl | rfl <;> kernel_rfl) | 5, _ => (intro hi; simp only [depGn, beq_iff_eq] at hi; rcases hi with rfl <;> kernel_rfl) | 6, _ => (intro hi; simp only [depGn, beq_iff_eq] at hi; rcases hi with rfl <;> kernel_rfl) | 7, _ => (intro hi; simp only [depGn, beq_iff_eq] at hi; rcases hi with rfl <;> kernel_rfl) | 8, _ => (intro hi; simp only [depGn, beq_iff_eq] at hi; rcases hi with rfl <;> kernel_rfl) | 9, _ => (intro hi; simp only [depGn, beq_iff_eq] at hi; rcases hi with rfl <;> kernel_rfl) | 10, _ => (intro hi; simp only [depGn, beq_iff_eq] at hi; rcases hi with rfl <;> kernel_rfl) | 11, _ => (intro hi; simp only [depGn, Bool.or_eq_true, beq_iff_eq] at hi; rcases hi with ((rfl | rfl) | rfl) | rfl <;> kernel_rfl)))
                · intro i hi
                  exact slotGn_mem i hi
                · intro i j hi hj q
                  exact slotGn_inj i j hi hj q
                · intro ops hops f wy j oo hj hy ho hd
                  have ho2 := ho
                  rw [hops] at ho
                  have N2 := (canon_eval_ne fr dsGn f 2 (by decide)).trans t2
                  have N3 := (canon_eval_ne fr dsGn f 3 (by decide)).trans t3
                  have N8 := (canon_eval_ne fr dsGn f 8 (by decide)).trans t8
                  have hj' : j = 0 ∨ j = 1 ∨ j = 2 ∨ j = 3 ∨ j = 4 ∨ j = 5 ∨ j = 6 ∨ j = 7 ∨ j = 8 ∨ j = 9 ∨ j = 10 ∨ j = 11 := by omega
                  rcases hj' with rfl | rfl | rfl | rfl | rfl | rfl | rfl | rfl | rfl | rfl | rfl | rfl <;> simp only [List.getElem?_toArray, List.getElem?_cons_succ, List.getElem?_cons_zero, Option.some.injEq] at ho <;> subst ho
                  · refine wpOp_runG ho2 (wanted_none rfl) (q_moveD (canon fr dsGn f).eval _ wy _ rfl) ?_
                    exact ⟨_, rfl, (upd_same f 42 _).trans N8, Below.refl _ _⟩
                  · refine wpOp_enterG ho2 (wanted_none rfl) (q_call1I (canon fr dsGn f).eval _ wy _ HEN1.out _ _ rfl rfl) ?_
                    rw [(canon_eval fr dsGn f 42 (by decide) (Nat.lt_of_le_of_lt (by decide) hsz)).trans (hd ⟨0, .data⟩ (by simp) rfl (by decide))]
                    refine (shFiles_any w2.heap.size B (2 * L.length + 2) (doF L o).1 D' p' wy (HS7.out.below hy) (by have := HUS.out.2.1; omega) HSM.out.2.1 HSM.out.2.2).mono ?_
                    rintro e wz ⟨u, rfl, hu, hBz⟩
                    exact ⟨_, rfl, _, rfl, by show HoldF _ _ (upd f 43 u 43) (doF L o).1; rw [upd_same]; exact hu.hold.base hy.size, hBz⟩
                  · refine wpOp_runG ho2 (wanted_none rfl) (q_fieldK (canon fr dsGn f).eval _ wy _ w.heap.size 1 rfl N2 (by decide)) ?_
                    exact ⟨_, rfl, upd_same f 44 _, Below.refl _ _⟩
                  · refine wpOp_runG ho2 (wanted_none rfl) (q_loadF (canon fr dsGn f).eval _ wy _ w.heap.size 1 rfl ((canon_eval fr dsGn f 44 (by decide) (Nat.lt_of_le_of_lt (by decide) hsz)).trans (hd ⟨2, .data⟩ (by simp) rfl (by decide))) (HC7.out wy hy).1.c1) ?_
                    exact ⟨_, rfl, upd_same f 45 _, Below.refl _ _⟩
                  · have h9 : HoldF wy w7.heap.size (f 43) (doF L o).1 := hd ⟨1, .chain⟩ (by simp) rfl (by decide)
                    refine wpOp_enterG ho2 (wanted_none rfl) (q_call1I (canon fr dsGn f).eval _ wy _ HEN2.out _ _ rfl rfl) ?_
                    rw [(canon_eval fr dsGn f 45 (by decide) (Nat.lt_of_le_of_lt (by decide) hsz)).trans (hd ⟨3, .data⟩ (by simp) rfl (by decide))]
                    refine (cloneF_any _ S wy (HC7.out wy hy).2.2.2.1 HN.out.2.1).mono ?_
                    rintro e wz ⟨u, rfl, hu, hBz⟩
                    refine ⟨_, rfl, _, rfl, ⟨by show HoldF _ _ (upd f 46 u 46) S; rw [upd_same]; exact hu.base hy.size, fun q hk => ?_⟩, hBz⟩
                    have e9 : upd f 46 u 43 = f 43 := upd_ne f u (by decide)
                    have hk' : (f 43).ownBlock = some q := by rw [← e9]; exact hk
                    show (upd f 46 u 46).ownBlock ≠ some q
                    rw [upd_same]
                    intro e
                    have h1 := (h9.2.lt q hk').2
                    have h2 := (hu.2.lt q e).1
                    omega
                  · refine wpOp_runG ho2 (wanted_none rfl) (q_fieldK (canon fr dsGn f).eval _ wy _ w.heap.size 2 rfl N2 (by decide)) ?_
                    exact ⟨_, rfl, upd_same f 47 _, Below.refl _ _⟩
                  · refine wpOp_runG ho2 (wanted_none rfl) (q_loadO (canon fr dsGn f).eval _ wy _ w.heap.size 2 rfl ((canon_eval fr dsGn f 47 (by decide) (Nat.lt_of_le_of_lt (by decide) hsz)).trans (hd ⟨5, .data⟩ (by simp) rfl (by decide))) (HC7.out wy hy).1.c2) ?_
                    exact ⟨_, rfl, (upd_same f 48 _).trans (by rw [HAO.out]), Below.refl _ _⟩
                  · refine wpOp_runG ho2 (wanted_none rfl) (q_loadOp (canon fr dsGn f).eval _ wy _ (w.heap.size + 1) o rfl N3 (HC7.out wy hy).2.1) ?_
                    exact ⟨_, rfl, upd_same f 49 _, Below.refl _ _⟩
                  · refine wpOp_runG ho2 (wanted_none rfl) (q_lit1O (canon fr dsGn f).eval _ wy _ o rfl ((canon_eval fr dsGn f 49 (by decide) (Nat.lt_of_le_of_lt (by decide) hsz)).trans (hd ⟨7, .data⟩ (by simp) rfl (by decide)))) ?_
                    exact ⟨_, rfl, ⟨wy.heap.size, upd_same f 50 _, hy.size, heap_alloc_new _ _⟩, (Below.refl _ _).alloc (Nat.le_refl _) _⟩
                  · have h48 : f 48 = .slice adO O.length cO := hd ⟨6, .data⟩ (by simp) rfl (by decide)
                    obtain ⟨g, eg, hbg, hgh⟩ := hd ⟨8, .data⟩ (by simp) rfl (by decide)
                    refine wpOp_runG ho2 (wanted_none rfl) (q_lit2O (canon fr dsGn f).eval _ wy _ _ rfl ((canon_eval fr dsGn f 48 (by decide) (Nat.lt_of_le_of_lt (by decide) hsz)).trans h48) ((canon_eval fr dsGn f 50 (by decide) (Nat.lt_of_le_of_lt (by decide) hsz)).trans eg)) ?_
                    have hba : Below wy.heap.size wy (wy.alloc (.cells #[.slice adO O.length cO, .slice (some ⟨g, 0, none⟩) 1 1] 25)) := (Below.refl _ _).alloc (Nat.le_refl _) _
                    exact ⟨_, rfl, ⟨wy.heap.size, g, upd_same f 51 _, heap_alloc_new _ _, (hba.block _ (lt_of_block hgh)).trans hgh⟩, hba⟩
                  · obtain ⟨g2, g, eg, hg2, hg⟩ := hd ⟨9, .data⟩ (by simp) rfl (by decide)
                    refine wpOp_enterG ho2 (wanted_none rfl) (q_call1I (canon fr dsGn f).eval _ wy _ HEN3.out _ _ rfl rfl) ?_
                    rw [(canon_eval fr dsGn f 51 (by decide) (Nat.lt_of_le_of_lt (by decide) hsz)).trans eg]
                    have hro : RdO wy (.slice adO O.length cO) O := by have := (HC7.out wy hy).2.2.2.2; rw [HAO.out] at this; exact this
                    refine (concat2_any g2 adO ⟨g, 0, none⟩ cO 1 O [o] wy HNZ.out (cellN hg2) (cellN hg2) (fun w' hB => hro.below hB) (fun w' hB => one_news ((hB.block _ (lt_of_block hg)).trans hg)) (by have := HUS.out.2.2.2; omega) (by simp)).mono ?_
                    rintro e wz ⟨u, rfl, hu, hBz⟩
                    exact ⟨_, rfl, _, rfl, by show HoldO _ _ (upd f 52 u 52) (O ++ [o]); rw [upd_same]; exact hu.hold.base hy.size, hBz⟩
                  · have h9 : HoldF wy w7.heap.size (f 43) (doF L o).1 := hd ⟨1, .data⟩ (by simp) rfl (by decide)
                    have h12 : HoldF wy w7.heap.size (f 46) S ∧ _ := hd ⟨4, .data⟩ (by simp) rfl (by decide)
                    have h15 : HoldO wy w7.heap.size (f 52) (O ++ [o]) := hd ⟨10, .data⟩ (by simp) rfl (by decide)
                    obtain ⟨a9, c9, e9⟩ := h9.2.slice
                    obtain ⟨a12, c12, e12⟩ := h12.1.2.slice
                    obtain ⟨a15, c15, e15⟩ := h15.2.slice
                    refine wpOp_runG ho2 (wanted_none rfl) (q_build3 (canon fr dsGn f).eval _ wy _ _ _ rfl ((canon_eval fr dsGn f 43 (by decide) (Nat.lt_of_le_of_lt (by decide) hsz)).trans e9) ((canon_eval fr dsGn f 46 (by decide) (Nat.lt_of_le_of_lt (by decide) hsz)).trans e12) ((canon_eval fr dsGn f 52 (by decide) (Nat.lt_of_le_of_lt (by decide) hsz)).trans e15)) ?_
                    refine ⟨_, rfl, ?_, Below.refl _ _⟩
                    show upd f 53 _ 53 = .agg #[upd f 53 _ 43, upd f 53 _ 46, upd f 53 _ 52]
                    rw [upd_same, upd_ne f _ (by decide : (43 : Nat) ≠ 53), upd_ne f _ (by decide : (46 : Nat) ≠ 53), upd_ne f _ (by decide : (52 : Nat) ≠ 53), e9, e12, e15]
                · intro ops hops f wy hy ho hall
                  have ho2 := ho
                  have N4 := (canon_eval_ne fr dsGn f 4 (by decide)).trans t4
                  have h9 : HoldF wy w7.heap.size (f 43) (doF L o).1 := hall 1 (by omega)
                  have h12 : HoldF wy w7.heap.size (f 46) S ∧ _ := hall 4 (by omega)
                  have h15 : HoldO wy w7.heap.size (f 52) (O ++ [o]) := hall 10 (by omega)
                  have h13 : f 53 = .agg #[f 43, f 46, f 52] := hall 11 (by omega)
                  obtain ⟨a9, c9, e9⟩ := h9.2.slice
                  obtain ⟨a12, c12, e12⟩ := h12.1.2.slice
                  obtain ⟨a15, c15, e15⟩ := h15.2.slice
                  have hrb := (HC7.out wy hy).2.2.1
                  refine wpOp_storeD ho2 (wanted_none rfl) _ _ (w.heap.size + 1 + 1) rfl N4 ((canon_eval fr dsGn f 53 (by decide) (Nat.lt_of_le_of_lt (by decide) hsz)).trans (h13.trans (by rw [e9, e12, e15]))) rfl hrb ?_
                  intro wz hz1 hz2 hz3 hz4 hz5 hz6
                  have hlt : w.heap.size + 1 + 1 < w7.heap.size := HLT7.out
                  have hkz : ∀ k, w7.heap.size ≤ k → k < wy.heap.size → wz.heap[k]? = wy.heap[k]? := fun k h1 h2 => hz2 k (by omega)
                  refine ⟨f, rfl, f 43, f 46, f 52, ?_, h9.kept (by omega) hkz, h12.1.kept (by omega) hkz, h15.kept (by omega) hkz, h12.2, ?_⟩
                  · rw [e9, e12, e15]; exact hz1
                  · have hb7 := HW7.out
                    have hbw := hb7.trans (hy.mono hb7.size)
                    exact ⟨hz4.trans hbw.os, hz5.trans hbw.tape, hz6.trans hbw.output, by rw [hz3]; exact hbw.size, fun k hk => (hz2 k (by omega)).trans (hbw.block k hk)⟩
                · rintro ops hops a wy ⟨f, rfl, hpost⟩ ho
                  refine wpOp_runG ho (wanted_none rfl) (q_assignC (canon fr dsGn f).eval _ wy _ rfl) ?_
                  exact hK _ _ (Met.intro (hJ _ _ ⟨f, congrArg (fun z => (canon z dsGn f).put (some 5) (.int .i64 0)) HFR.out, hpost⟩))

end Go.Proofs.Ytbohaefmokbgbaa

namespace Go.Proofs.Ytbohaefmokbgbaa
open Go.RowKit
set_option linter.unusedVariables false

theorem cmp_is : ∀ a b : List UInt8, Lib.compareBytes a b = (if Op.bytesLess a b = true then -1 else if a = b then 0 else 1)
  | [], [] => by simp [Lib.compareBytes, Op.bytesLess]
  | [], _ :: _ => by simp [Lib.compareBytes, Op.bytesLess]
  | _ :: _, [] => by simp [Lib.compareBytes, Op.bytesLess]
  | a :: x, b :: y => by
    rw [Lib.compareBytes, Op.bytesLess, cmp_is x y]
    by_cases h1 : a < b
    · simp [h1]
    · by_cases h2 : b < a
      · have hne : a ≠ b := fun e => by subst e; exact h1 h2
        simp [h1, h2, hne]
      · have he : a = b := by
          rw [UInt8.lt_iff_toNat_lt] at h1 h2
          exact UInt8.toNat_inj.1 (by omega)
        subst he
        simp [h1]
/-- how a name stands to another -/
def cmpN (a b : ByteArray) : Int := Lib.compareBytes a.data.toList b.data.toList
theorem cmpN_lt (a b : ByteArray) : (decide (cmpN a b < 0)) = lessN a b := by
  unfold cmpN lessN
  rw [cmp_is, ByteArray.toList_eq, ByteArray.toList_eq]
  cases h : Op.bytesLess a.data.toList b.data.toList with
  | true => simp
  | false =>
    simp only [Bool.false_eq_true, if_false]
    split <;> simp
theorem cmpN_eq (a b : ByteArray) : (cmpN a b == 0) = (a.toList == b.toList) := by
  unfold cmpN
  rw [cmp_is, ByteArray.toList_eq, ByteArray.toList_eq]
  by_cases he : a.data.toList = b.data.toList
  · rw [he, bl_irr]; simp
  · have : (a.data.toList == b.data.toList) = false := by simpa using he
    rw [this]
    split <;> simp

theorem cmp69_any (f : Fl) (s : ByteArray) (w : World) : Calls Try.prog 71 #[.agg #[.string f.n, .string f.d], .string s] w fun e w' => e = .returned (.int .i64 (cmpN f.n s)) ∧ Below w.heap.size w w' := by
  have HB : Hid (∀ o, Below w.heap.size w (w.alloc o)) := fun o => (Below.refl _ _).alloc (Nat.le_refl _) _
  go_enter Try.func71, Try.ntmps71
  go_wp2_with (first
    | (go_at_call 72; refine (Try.strings_Compare _ _ _).mono ?_; rintro e w' ⟨rfl, hw⟩; rw [hw]; clear hw w'))
  go_ret
  exact ⟨rfl, HB.out _⟩

set_option maxRecDepth 4000 in
set_option maxHeartbeats 1000000 in
theorem search_any (v : Value) (L : List Fl) (s : ByteArray) (w : World) (h : RdF w v L) (hu : UpF L) (hl : L.length ≤ 1000) :
    Calls Try.prog 70 #[v, .string s, .func (.func 71) #[] #[]] w fun e w' => ∃ (i : Nat), e = .returned (.tuple #[.int .i64 i, .bool (getF L s).isSome]) ∧ Hid ((getF L s).isSome = true → i < L.length ∧ (L.getD i flZ).n.toList = s.toList) ∧ Below w.heap.size w w' := by
  obtain ⟨r, hr⟩ : ∃ r, r = (getF L s).isSome := ⟨_, rfl⟩
  rw [← hr]
  have HRR : Hid (r = (getF L s).isSome) := hr
  clear hr
  obtain ⟨a, cap, rfl, hlc, hcm, hc⟩ := h
  obtain ⟨n, hn⟩ : ∃ n, n = L.length := ⟨_, rfl⟩
  have HN : Hid (n = L.length) := hn
  have HU : Hid (UpF L) := hu
  rw [← hn] at hlc hc hl ⊢
  clear hn hu
  go_enter Try.func70, Try.ntmps70
  go_wp2
  go_loopw [9, 10] (fun x y wr => ∃ (i j : Nat), i ≤ j ∧ j ≤ n ∧ x = .int .i64 i ∧ y = .int .i64 j ∧ Hid ((∀ k, k < i → lessN (L.getD k flZ).n s = true) ∧ (∀ k, j ≤ k → k < n → lessN (L.getD k flZ).n s = false) ∧ Below w.heap.size w wr)) (fun x y _ => (intOf y).toNat - (intOf x).toNat)
  case atStart => exact ⟨0, n, Nat.zero_le _, Nat.le_refl _, rfl, rfl, (fun k hk => absurd hk (Nat.not_lt_zero _)), (fun k h1 h2 => by omega), Below.refl _ _⟩
  case round =>
    obtain ⟨i, j, hij, hjn, rfl, rfl, HI⟩ := hrel
    by_cases hlt : i < j
    · have hltI : (i : Int) < (j : Int) := by omega
      have hm1 : i ≤ (i + j) / 2 := by omega
      have hm2 : (i + j) / 2 < j := by omega
      have hmn : (i + j) / 2 < n := by omega
      obtain ⟨b, off, rfl, hbs, hl'⟩ := hc (by omega)
      have hkL : (i + j) / 2 < L.length := by rw [← HN.out]; exact hmn
      have hat := hl' _ hkL
      have d0 := (HI.out.2.2.cell (p := ⟨b, off + (i + j) / 2 * 2, none⟩) hbs).trans hat.c0
      have d1 := (HI.out.2.2.cell (p := ⟨b, off + (i + j) / 2 * 2 + 1, none⟩) hbs).trans hat.c1
      obtain ⟨f, hf⟩ : ∃ f, f = L.getD ((i + j) / 2) flZ := ⟨_, rfl⟩
      rw [← hf] at d0 d1
      have HF : Hid (f = L.getD ((i + j) / 2) flZ) := hf
      have HB := (show Hid _ from HI.out.2.2)
      have hlt2 := cmpN_lt f.n s
      clear hat hl' hc hf
      cases hls : lessN f.n s with
      | true =>
        rw [hls] at hlt2
        have hcI : cmpN f.n s < 0 := of_decide_eq_true hlt2
        have HI2 : Hid ((∀ k, k < (i + j) / 2 + 1 → lessN (L.getD k flZ).n s = true) ∧ (∀ k, j ≤ k → k < n → lessN (L.getD k flZ).n s = false)) := ⟨fun k hk => by
          rcases Nat.lt_succ_iff_lt_or_eq.1 hk with h | rfl
          · have hkk : k < L.length := by omega
            have := (List.pairwise_iff_getElem.1 HU.out) k ((i + j) / 2) hkk hkL h
            have e1 : L.getD k flZ = L[k] := by simp [hkk]
            have e2 : f = L[(i + j) / 2] := by rw [HF.out]; simp [hkL]
            rw [e1]
            rw [← e2] at this
            exact lessN_trans this hls
          · rw [← HF.out]; exact hls, HI.out.2.1⟩
        clear HI
        go_wp2_with (first
          | (go_at_call 71; refine (cmp69_any f s _).mono ?_; rintro e w2 ⟨rfl, hB2⟩))
        have HB2 : Hid (Below w.heap.size w w2) := HB.out.trans (hB2.mono HB.out.size)
        clear hB2 d0 d1
        go_roundw
        case rel => exact ⟨(i + j) / 2 + 1, j, by omega, hjn, by go_num, rfl, HI2.out.1, HI2.out.2, HB2.out⟩
        case measure => simp [intOf]; omega
      | false =>
        rw [hls] at hlt2
        have hcI : ¬ cmpN f.n s < 0 := of_decide_eq_false hlt2
        have HI2 : Hid ((∀ k, k < i → lessN (L.getD k flZ).n s = true) ∧ (∀ k, (i + j) / 2 ≤ k → k < n → lessN (L.getD k flZ).n s = false)) := ⟨HI.out.1, fun k hk hkn => by
          have hkk : k < L.length := by rw [← HN.out]; exact hkn
          rcases Nat.lt_or_eq_of_le hk with h | h
          · have := (List.pairwise_iff_getElem.1 HU.out) ((i + j) / 2) k hkL hkk h
            have e1 : L.getD k flZ = L[k] := by simp [hkk]
            have e2 : f = L[(i + j) / 2] := by rw [HF.out]; simp [hkL]
            rw [← e2, ← e1] at this
            cases hq : lessN (L.getD k flZ).n s with
            | false => rfl
            | true => rw [lessN_trans this hq] at hls; cases hls
          · rw [← h, ← HF.out]; exact hls⟩
        clear HI
        go_wp2_with (first
          | (go_at_call 71; refine (cmp69_any f s _).mono ?_; rintro e w2 ⟨rfl, hB2⟩))
        have HB2 : Hid (Below w.heap.size w w2) := HB.out.trans (hB2.mono HB.out.size)
        clear hB2 d0 d1
        go_roundw
        case rel => exact ⟨i, (i + j) / 2, by omega, by omega, rfl, by go_num, HI2.out.1, HI2.out.2, HB2.out⟩
        case measure => simp [intOf]; omega
    · have hij2 : i = j := by omega
      subst hij2
      have HB := (show Hid _ from HI.out.2.2)
      by_cases hin : i < n
      · have hinI : (i : Int) < (n : Int) := by omega
        obtain ⟨b, off, rfl, hbs, hl'⟩ := hc (by omega)
        have hkL : i < L.length := by rw [← HN.out]; exact hin
        have hat := hl' _ hkL
        have d0 := (HI.out.2.2.cell (p := ⟨b, off + i * 2, none⟩) hbs).trans hat.c0
        have d1 := (HI.out.2.2.cell (p := ⟨b, off + i * 2 + 1, none⟩) hbs).trans hat.c1
        obtain ⟨f, hf⟩ : ∃ f, f = L.getD i flZ := ⟨_, rfl⟩
        rw [← hf] at d0 d1
        have HF : Hid (f = L.getD i flZ) := hf
        have heq := cmpN_eq f.n s
        have HT : Hid ((f.n.toList == s.toList) = false → ∀ g ∈ L, g.n.toList ≠ s.toList) := fun hne g hg => by
          obtain ⟨k, hk, e⟩ := List.getElem_of_mem hg
          have e1 : L.getD k flZ = g := by simp [hk, e]
          rcases Nat.lt_trichotomy k i with h | h | h
          · have := HI.out.1 k h
            rw [e1] at this
            exact lessN_ne this
          · rw [h, ← HF.out] at e1
            rw [← e1]
            simpa using hne
          · have h1 := HI.out.2.1 i (Nat.le_refl _) hin
            rw [← HF.out] at h1
            have h2 := lessN_tri h1 (by simpa using hne)
            have h3 := (List.pairwise_iff_getElem.1 HU.out) i k hkL hk h
            have e2 : f = L[i] := by rw [HF.out]; simp [hkL]
            rw [← e2, e] at h3
            exact fun q => lessN_ne (lessN_trans h2 h3) q.symm
        clear hat hl' hc hf HI
        cases hq : (f.n.toList == s.toList) with
        | true =>
          rw [hq] at heq
          have HQ := (show Hid _ from hq)
          have HG : Hid ((getF L s).isSome = true) := by
            show _ = _
            rw [← getF_congr L (eq_of_beq hq), getF_some HU.out (by rw [HF.out]; simp [hkL])]
            rfl
          go_wp2_with (first
            | (go_at_call 71; refine (cmp69_any f s _).mono ?_; rintro e w2 ⟨rfl, hB2⟩))
          go_ret2
          exact ⟨i, ret_val (by rw [HRR.out, HG.out]; rfl), (fun _ => ⟨hin, by rw [← HF.out]; exact eq_of_beq HQ.out⟩), HB.out.trans (hB2.mono HB.out.size)⟩
        | false =>
          rw [hq] at heq
          have HQ := (show Hid _ from hq)
          go_wp2_with (first
            | (go_at_call 71; refine (cmp69_any f s _).mono ?_; rintro e w2 ⟨rfl, hB2⟩))
          go_ret2
          exact ⟨i, ret_val (by rw [HRR.out, getF_out (HT.out HQ.out)]; rfl), (fun h => by rw [HRR.out, getF_out (HT.out HQ.out)] at h; cases h), HB.out.trans (hB2.mono HB.out.size)⟩
      · have hinI : ¬ (i : Int) < (n : Int) := by omega
        have HT : Hid (∀ g ∈ L, g.n.toList ≠ s.toList) := fun g hg => by
          obtain ⟨k, hk, e⟩ := List.getElem_of_mem hg
          have e1 : L.getD k flZ = g := by simp [hk, e]
          have := HI.out.1 k (by have := HN.out; omega)
          rw [e1] at this
          exact lessN_ne this
        clear hc HI
        go_wp2
        go_ret2
        exact ⟨i, ret_val (by rw [HRR.out, getF_out HT.out]; rfl), (fun h => by rw [HRR.out, getF_out HT.out] at h; cases h), HB.out⟩

/-- what is read of a file -/
def readF (L : List Fl) (s : ByteArray) : ByteArray := (getF L s).getD ⟨#[]⟩
set_option maxHeartbeats 1000000 in
theorem dataOf_any (v : Value) (L : List Fl) (s : ByteArray) (w : World) (h : RdF w v L) (hu : UpF L) (hl : L.length ≤ 1000) :
    Calls Try.prog 39 #[v, .string s] w fun e w' => e = .returned (.tuple #[.string (readF L s), .bool (getF L s).isSome]) ∧ Below w.heap.size w w' := by
  have HR : Hid (∀ w', Below w.heap.size w w' → RdF w' v L) := fun w' hB => h.below hB
  have HU : Hid (UpF L ∧ L.length ≤ 1000) := ⟨hu, hl⟩
  obtain ⟨a, cap, rfl, hlc, hcm, hc⟩ := h
  obtain ⟨n, hn⟩ : ∃ n, n = L.length := ⟨_, rfl⟩
  have HN : Hid (n = L.length) := hn
  rw [← hn] at hlc hc HR ⊢
  clear hn hu hl
  go_enter Try.func39, Try.ntmps39
  go_wp2_with fail
  refine (search_any _ L s w (HR.out w (Below.refl _ _)) HU.out.1 HU.out.2).mono ?_
  rintro e w1 ⟨i, rfl, ht, hB1⟩
  have HB1 := (show Hid _ from hB1)
  cases hg : (getF L s).isSome with
  | false =>
    have HG : Hid (getF L s = none) := by
      show _ = _
      cases hq : getF L s with
      | none => rfl
      | some x => rw [hq] at hg; cases hg
    clear ht hB1 hc
    go_wp2
    go_ret2
    exact ⟨by unfold readF; rw [HG.out]; rfl, HB1.out⟩
  | true =>
    obtain ⟨hi, he⟩ := ht hg
    have hin : i < n := by rw [HN.out]; exact hi
    have hinI : (i : Int) < (n : Int) := by omega
    obtain ⟨b, off, rfl, hbs, hl'⟩ := hc (by omega)
    have d1 := (hB1.cell (p := ⟨b, off + i * 2 + 1, none⟩) hbs).trans (hl' i hi).c1
    have HG : Hid (getF L s = some (L.getD i flZ).d) := by
      show _ = _
      rw [← getF_congr L he]
      exact getF_some HU.out.1 (by simp [hi])
    obtain ⟨x, hx⟩ : ∃ x, x = (L.getD i flZ).d := ⟨_, rfl⟩
    rw [← hx] at d1 HG
    clear ht hB1 hc hl' hx he
    go_wp2
    go_ret2
    exact ⟨by unfold readF; rw [HG.out]; rfl, HB1.out⟩
end Go.Proofs.Ytbohaefmokbgbaa

namespace Go.Proofs.Ytbohaefmokbgbaa
open Go.RowKit
set_option linter.unusedVariables false

/-- what ReadFile answers -/
def rdB (L S : List Fl) (O : List Dop) (s : ByteArray) : ByteArray := if diskB L S O = true then readF L s else ⟨#[]⟩
def rdOk (L S : List Fl) (O : List Dop) (s : ByteArray) : Bool := if diskB L S O = true then (getF L s).isSome else false
theorem diskB_files {L S : List Fl} {O : List Dop} (h : diskB L S O = true) : filesB L = true := by
  unfold diskB at h
  rw [Bool.and_eq_true] at h
  exact h.1

set_option maxRecDepth 4000 in
set_option maxHeartbeats 1000000 in
theorem implRead_any (vL vS vO : Value) (L S : List Fl) (O : List Dop) (s : ByteArray) (w : World) (hL : RdF w vL L) (hS : RdF w vS S) (hO : RdO w vO O) (hz : SmallD L S O) :
    Calls Try.prog 11 #[.agg #[vL, vS, vO], .string s] w fun e w' => e = .returned (.tuple #[.string (rdB L S O s), .bool (rdOk L S O s)]) ∧ Below w.heap.size w w' := by
  have HA : Hid (∀ w', Below w.heap.size w w' → RdF w' vL L ∧ RdF w' vS S ∧ RdO w' vO O) := fun w' hB => ⟨hL.below hB, hS.below hB, hO.below hB⟩
  have HLS : Hid (∀ w', Below w.heap.size w w' → RdF w' vL L) := fun w' hB => hL.below hB
  obtain ⟨aL, cL, eL⟩ := hL.slice
  obtain ⟨nL, hnL⟩ : ∃ n, n = L.length := ⟨_, rfl⟩
  rw [← hnL] at eL
  obtain ⟨aS, cS, eS⟩ := hS.slice
  obtain ⟨nS, hnS⟩ : ∃ n, n = S.length := ⟨_, rfl⟩
  rw [← hnS] at eS
  obtain ⟨aO, cO, eO⟩ := hO.slice
  obtain ⟨nO, hnO⟩ : ∃ n, n = O.length := ⟨_, rfl⟩
  rw [← hnO] at eO
  subst eL eS eO
  have HNL : Hid (nL = L.length) := hnL
  obtain ⟨X, hX⟩ : ∃ X, X = w.alloc (.cells #[.slice aL nL cL, .slice aS nS cS, .slice aO nO cO] 27) := ⟨_, rfl⟩
  have hBX : Below w.heap.size w X := by rw [hX]; exact (Below.refl _ _).alloc (Nat.le_refl _) _
  have gX : X.heap[w.heap.size]? = some (.cells #[.slice aL nL cL, .slice aS nS cS, .slice aO nO cO] 27 (0, 0)) := by rw [hX]; exact heap_alloc_new _ _
  have HG : Hid (∀ w', Below X.heap.size X w' → w'.cell? ⟨w.heap.size, 0, none⟩ = some (.slice aL nL cL) ∧ w'.cell? ⟨w.heap.size, 1, none⟩ = some (.slice aS nS cS) ∧ w'.cell? ⟨w.heap.size, 2, none⟩ = some (.slice aO nO cO) ∧ Below w.heap.size w w') := fun w' hB => by
    have g := (hB.block _ (lt_of_block gX)).trans gX
    exact ⟨cellN g, cellN g, cellN g, hBX.trans (hB.mono hBX.size)⟩
  have HX := (show Hid _ from hX)
  have HZ : Hid (SmallD L S O) := hz
  obtain ⟨c0, c1, c2, _⟩ := HG.out X (Below.refl _ _)
  rw [hX] at c0 c1 c2
  have HBX := (show Hid _ from hBX)
  clear hX hBX gX hL hS hO hz hnL hnS hnO
  go_enter Try.func11, Try.ntmps11
  go_wp2_with fail
  rw [← HX.out]
  have hAX := HA.out X HBX.out
  refine (implDisk_any _ _ _ L S O X hAX.1 hAX.2.1 hAX.2.2 HZ.out).mono ?_
  rintro e w1 ⟨rfl, hB1⟩
  have HB1 := (show Hid _ from hB1)
  clear c0 c1 c2 HX hAX
  obtain ⟨c0, _, _, hBw1⟩ := HG.out w1 hB1
  have HBW1 := (show Hid _ from hBw1)
  clear hB1 hBw1
  cases hd : diskB L S O with
  | false =>
    have HR : Hid (rdB L S O s = ⟨#[]⟩ ∧ rdOk L S O s = false) := ⟨by unfold rdB; rw [hd]; rfl, by unfold rdOk; rw [hd]; rfl⟩
    clear hd
    go_wp2
    go_ret2
    exact ⟨ret_val (by rw [HR.out.1, HR.out.2]; rfl), HBW1.out⟩
  | true =>
    have HFB : Hid (filesB L = true) := diskB_files hd
    have HR : Hid (rdB L S O s = readF L s ∧ rdOk L S O s = (getF L s).isSome) := ⟨by unfold rdB; rw [hd]; rfl, by unfold rdOk; rw [hd]; rfl⟩
    clear hd
    go_wp2_with fail
    refine (dataOf_any _ L s w1 (HLS.out w1 HBW1.out) (filesB_up HFB.out) (by have := (filesB_parts HFB.out).1; omega)).mono ?_
    rintro e w2 ⟨rfl, hB2⟩
    have HB2 : Hid (Below w.heap.size w w2) := HBW1.out.trans (hB2.mono HBW1.out.size)
    clear hB2 c0
    go_wp2
    go_ret2
    exact ⟨ret_val (by rw [HR.out.1, HR.out.2]; rfl), HB2.out⟩
end Go.Proofs.Ytbohaefmokbgbaa

namespace Go.Proofs.Ytbohaefmokbgbaa
open Go.RowKit
set_option linter.unusedVariables false

/-- the other name -/
def rpNew (nm : ByteArray) : ByteArray := nm ++ ⟨#[46, 110, 101, 119]⟩
/-- the ops -/
def rpOps (L : List Fl) (nm dt : ByteArray) : List Dop := (if (getF L (rpNew nm)).isSome = true then [⟨3, rpNew nm, ⟨#[]⟩, ⟨#[]⟩⟩] else []) ++ [⟨1, rpNew nm, ⟨#[]⟩, dt⟩, ⟨2, rpNew nm, nm, ⟨#[]⟩⟩]
/-- ops done one behind the other: the code, the files, the ops -/
def actsC : List Fl → List Dop → List Dop → Nat
  | _, _, [] => 0
  | L, O, o :: os => if actC L O o = 0 then actsC (actL L O o) (actO L O o) os else actC L O o
def actsL : List Fl → List Dop → List Dop → List Fl
  | L, _, [] => L
  | L, O, o :: os => actsL (actL L O o) (actO L O o) os
def actsO : List Fl → List Dop → List Dop → List Dop
  | _, O, [] => O
  | L, O, o :: os => actsO (actL L O o) (actO L O o) os
theorem acts_right {S : List Fl} : ∀ (os : List Dop) {L : List Fl} {O : List Dop}, diskB L S O = true → actsC L O os = 0 → diskB (actsL L O os) S (actsO L O os) = true
  | [], L, O, h, _ => h
  | o :: os, L, O, h, hc => by
    rw [actsC] at hc
    split at hc
    · rename_i h0
      obtain ⟨e0, e1, e2, e3⟩ := d_yes o h
      have hd := disk_do h (e0.trans h0)
      rw [e1, e2, e3] at hd
      exact acts_right os hd hc
    · rename_i h0
      exact absurd hc h0
/-- the answer -/
def rpC (L S : List Fl) (O : List Dop) (nm dt : ByteArray) : Nat := if diskB L S O = true then actsC L O (rpOps L nm dt) else 1
def rpL (L S : List Fl) (O : List Dop) (nm dt : ByteArray) : List Fl := if diskB L S O = true then (if actsC L O (rpOps L nm dt) = 0 then actsL L O (rpOps L nm dt) else L) else []
def rpS (L S : List Fl) (O : List Dop) : List Fl := if diskB L S O = true then S else []
def rpO (L S : List Fl) (O : List Dop) (nm dt : ByteArray) : List Dop := if diskB L S O = true then (if actsC L O (rpOps L nm dt) = 0 then actsO L O (rpOps L nm dt) else O) else []
theorem actC_ne1 (L : List Fl) (O : List Dop) (o : Dop) : actC L O o ≠ 1 := by
  unfold actC
  split
  · decide
  · split
    · decide
    · split
      · decide
      · decide
theorem acts_yes {L : List Fl} {O : List Dop} {o : Dop} {os : List Dop} (h : actC L O o = 0) : actsC L O (o :: os) = actsC (actL L O o) (actO L O o) os ∧ actsL L O (o :: os) = actsL (actL L O o) (actO L O o) os ∧ actsO L O (o :: os) = actsO (actL L O o) (actO L O o) os :=
  ⟨by rw [actsC, if_pos h], rfl, rfl⟩
theorem acts_no {L : List Fl} {O : List Dop} {o : Dop} {os : List Dop} (h : actC L O o ≠ 0) : actsC L O (o :: os) = actC L O o := by rw [actsC, if_neg h]
theorem rp_no {L S : List Fl} {O : List Dop} (nm dt : ByteArray) (h : diskB L S O = false) : rpC L S O nm dt = 1 ∧ rpL L S O nm dt = [] ∧ rpS L S O = [] ∧ rpO L S O nm dt = [] := by
  unfold rpC rpL rpS rpO
  rw [h]
  exact ⟨rfl, rfl, rfl, rfl⟩
theorem rp_bad {L S : List Fl} {O : List Dop} {nm dt : ByteArray} (h : diskB L S O = true) (hc : actsC L O (rpOps L nm dt) ≠ 0) : rpC L S O nm dt = actsC L O (rpOps L nm dt) ∧ rpL L S O nm dt = L ∧ rpS L S O = S ∧ rpO L S O nm dt = O := by
  unfold rpC rpL rpS rpO
  rw [if_pos h, if_pos h, if_pos h, if_pos h, if_neg hc, if_neg hc]
  exact ⟨rfl, rfl, rfl, rfl⟩
theorem rp_good {L S : List Fl} {O : List Dop} {nm dt : ByteArray} (h : diskB L S O = true) (hc : actsC L O (rpOps L nm dt) = 0) : rpC L S O nm dt = 0 ∧ rpL L S O nm dt = actsL L O (rpOps L nm dt) ∧ rpS L S O = S ∧ rpO L S O nm dt = actsO L O (rpOps L nm dt) := by
  unfold rpC rpL rpS rpO
  rw [if_pos h, if_pos h, if_pos h, if_pos h, if_pos hc, if_pos hc, hc]
  exact ⟨rfl, rfl, rfl, rfl⟩
end Go.Proofs.Ytbohaefmokbgbaa

namespace Go.Proofs.Ytbohaefmokbgbaa
open Go.RowKit
set_option linter.unusedVariables false

theorem RdD.off3 {w : World} {x y z : Value} {L S : List Fl} {O : List Dop} {R : Nat} {t : TypeId} {a1 a2 a3 : Option Addr} {n1 c1 n2 c2 n3 c3 : Nat} (h : RdD w x y z L S O) (hR : At3 w R t (.slice a1 n1 c1) (.slice a2 n2 c2) (.slice a3 n3 c3)) (q : Array Value) : RdD (w.setRow R q) x y z L S O := by
  have hs : w.heap.size ≤ (w.setRow R q).heap.size := by simp [World.setRow]
  have hcs : ∀ (i : Nat) s, (#[Value.slice a1 n1 c1, .slice a2 n2 c2, .slice a3 n3 c3] : Array Value)[i]? ≠ some (.string s) := fun i s => by
    match i with
    | 0 => simp
    | 1 => simp
    | 2 => simp
    | (k + 3) => simp
  have he : ∀ k, k ≠ R → (w.setRow R q).heap[k]? = w.heap[k]? := fun k hk => setRow_other _ _ _ _ hk
  exact ⟨h.1.far hs hR hcs he, h.2.1.far hs hR hcs he, h.2.2.far hs hR hcs he⟩
theorem At3.rowOff {w : World} {b g : Nat} {t : TypeId} {x y z : Value} (h : At3 w b t x y z) (q : Array Value) (hb : b ≠ g) : At3 (w.setRow g q) b t x y z := (setRow_other _ _ _ _ hb).trans h
/-- where Replace stands: its argument's row, its result's, the row of the disk under way at g -/
structure ReSt (w W : World) (g : Nat) (vL vS vO x y z : Value) (L S : List Fl) (O : List Dop) : Prop where
  d : At3 W w.heap.size 27 vL vS vO
  r : At3 W (w.heap.size + 1) 27 (.slice none 0 0) (.slice none 0 0) (.slice none 0 0)
  n : At3 W g 27 x y z
  rd : RdD W x y z L S O
  bel : Below w.heap.size w W
  far : w.heap.size + 1 < g
theorem ReSt.step {w W V : World} {g : Nat} {vL vS vO : Value} {a1 a2 a3 : Option Addr} {n1 c1 n2 c2 n3 c3 : Nat} {x y z : Value} {L S : List Fl} {O : List Dop} {L' S' : List Fl} {O' : List Dop} (h : ReSt w W g vL vS vO (.slice a1 n1 c1) (.slice a2 n2 c2) (.slice a3 n3 c3) L S O) (hB : Below W.heap.size W V) (hr : RdD V x y z L' S' O') :
    ReSt w (V.setRow g #[x, y, z]) g vL vS vO x y z L' S' O' := by
  have hn := h.n.below hB
  have hf := h.far
  refine ⟨(h.d.below hB).rowOff _ (by omega), (h.r.below hB).rowOff _ (by omega), ?_, hr.off3 hn _, below_setRow (h.bel.trans (hB.mono h.bel.size)) (by omega) _, hf⟩
  exact setRow_heap _ _ _ _ _ _ hn
/-- what is left to do -/
def RpAt (L : List Fl) (O : List Dop) (os : List Dop) (L' : List Fl) (O' : List Dop) (os' : List Dop) : Prop := actsC L O os = actsC L' O' os' ∧ actsL L O os = actsL L' O' os' ∧ actsO L O os = actsO L' O' os'
theorem RpAt.step {L L' : List Fl} {O O' : List Dop} {os os' : List Dop} {o : Dop} (h : RpAt L O os L' O' (o :: os')) (hc : actC L' O' o = 0) : RpAt L O os (actL L' O' o) (actO L' O' o) os' := by
  obtain ⟨e1, e2, e3⟩ := acts_yes (os := os') hc
  exact ⟨h.1.trans e1, h.2.1.trans e2, h.2.2.trans e3⟩
theorem RpAt.bad {L L' : List Fl} {O O' : List Dop} {os os' : List Dop} {o : Dop} (h : RpAt L O os L' O' (o :: os')) (hc : actC L' O' o ≠ 0) : actsC L O os = actC L' O' o := h.1.trans (acts_no hc)
theorem act_disk {L S : List Fl} {O : List Dop} {o : Dop} (h : diskB L S O = true) (hc : actC L O o = 0) : diskB (actL L O o) S (actO L O o) = true := by
  obtain ⟨e0, e1, e2, e3⟩ := d_yes o h
  have hd := disk_do h (e0.trans hc)
  rw [e1, e2, e3] at hd
  exact hd
theorem rpOps_some {L : List Fl} {nm dt x : ByteArray} (h : getF L (rpNew nm) = some x) : rpOps L nm dt = [⟨3, rpNew nm, ⟨#[]⟩, ⟨#[]⟩⟩, ⟨1, rpNew nm, ⟨#[]⟩, dt⟩, ⟨2, rpNew nm, nm, ⟨#[]⟩⟩] := by unfold rpOps; rw [h]; rfl
theorem rpOps_none {L : List Fl} {nm dt : ByteArray} (h : getF L (rpNew nm) = none) : rpOps L nm dt = [⟨1, rpNew nm, ⟨#[]⟩, dt⟩, ⟨2, rpNew nm, nm, ⟨#[]⟩⟩] := by unfold rpOps; rw [h]; rfl
theorem rpNew_size (nm : ByteArray) : (rpNew nm).size = nm.size + 4 := by
  unfold rpNew
  rw [ByteArray.size_append]
  rfl

set_option maxRecDepth 10000 in
set_option maxHeartbeats 8000000 in
theorem specReplace_any (vL vS vO : Value) (L S : List Fl) (O : List Dop) (nm dt : ByteArray) (w : World) (h : RdD w vL vS vO L S O) (hz : SmallD L S O) (hn : L.length ≤ 1048576 ∧ S.length ≤ 1048576 ∧ O.length ≤ 1048576) (hnm : nm.size ≤ 10000000) (hdt : dt.size ≤ 10000000) :
    Calls Try.prog 10 #[.agg #[vL, vS, vO], .string nm, .string dt] w fun e w' => ∃ x y z, e = .returned (.tuple #[.agg #[x, y, z], .int .i64 (rpC L S O nm dt : Int)]) ∧ RdD w' x y z (rpL L S O nm dt) (rpS L S O) (rpO L S O nm dt) ∧ Below w.heap.size w w' := by
  have HN : Hid (L.length ≤ 1048576 ∧ S.length ≤ 1048576 ∧ O.length ≤ 1048576) := hn
  have HZ : Hid (SmallD L S O) := hz
  have HA : Hid (∀ w', Below w.heap.size w w' → RdD w' vL vS vO L S O) := fun w' hB => h.below hB
  obtain ⟨fr, hfr⟩ : ∃ fr, fr = rpNew nm := ⟨_, rfl⟩
  have hadd : ∀ w' : World, (Op.stringOp .add nm (⟨#[46, 110, 101, 119]⟩ : ByteArray)).run Try.prog w' = .ok (.string fr) w' := fun w' => by
    rw [hfr]
    exact add_ok (by have : (⟨#[46, 110, 101, 119]⟩ : ByteArray).size = 4 := rfl; omega) w'
  have HFR : Hid (fr = rpNew nm ∧ fr.size ≤ 10000004 ∧ nm.size ≤ 10000000 ∧ dt.size ≤ 10000000) := ⟨hfr, by rw [hfr, rpNew_size]; omega, hnm, hdt⟩
  obtain ⟨aL, cL, eL⟩ := h.1.slice
  obtain ⟨nL, hnL⟩ : ∃ n, n = L.length := ⟨_, rfl⟩
  rw [← hnL] at eL
  obtain ⟨aS, cS, eS⟩ := h.2.1.slice
  obtain ⟨nS, hnS⟩ : ∃ n, n = S.length := ⟨_, rfl⟩
  rw [← hnS] at eS
  obtain ⟨aO, cO, eO⟩ := h.2.2.slice
  obtain ⟨nO, hnO⟩ : ∃ n, n = O.length := ⟨_, rfl⟩
  rw [← hnO] at eO
  subst eL eS eO
  obtain ⟨X, hX⟩ : ∃ X, X = (w.alloc (.cells #[.slice aL nL cL, .slice aS nS cS, .slice aO nO cO] 27)).alloc (.cells #[.slice none 0 0, .slice none 0 0, .slice none 0 0] 27) := ⟨_, rfl⟩
  have hBX : Below w.heap.size w X := by rw [hX]; exact ((Below.refl _ _).alloc (Nat.le_refl _) _).alloc (by simp) _
  have gX : X.heap[w.heap.size]? = some (.cells #[.slice aL nL cL, .slice aS nS cS, .slice aO nO cO] 27 (0, 0)) := by rw [hX, Below.heap_alloc _ _ _ (by simp)]; exact heap_alloc_new _ _
  have gR : X.heap[w.heap.size + 1]? = some (.cells #[.slice none 0 0, .slice none 0 0, .slice none 0 0] 27 (0, 0)) := by
    rw [hX]
    have := heap_alloc_new (w.alloc (.cells #[.slice aL nL cL, .slice aS nS cS, .slice aO nO cO] 27)) (.cells #[.slice none 0 0, .slice none 0 0, .slice none 0 0] 27)
    simpa using this
  have HX := (show Hid _ from hX)
  have HBX : Hid (Below w.heap.size w X) := hBX
  have HG : Hid (∀ w', Below X.heap.size X w' → At3 w' w.heap.size 27 (.slice aL nL cL) (.slice aS nS cS) (.slice aO nO cO) ∧ At3 w' (w.heap.size + 1) 27 (.slice none 0 0) (.slice none 0 0) (.slice none 0 0) ∧ Below w.heap.size w w' ∧ w.heap.size + 1 < w'.heap.size) := fun w' hB => ⟨(hB.block _ (lt_of_block gX)).trans gX, (hB.block _ (lt_of_block gR)).trans gR, hBX.trans (hB.mono hBX.size), Nat.lt_of_lt_of_le (lt_of_block gR) hB.size⟩
  have c0 : X.cell? ⟨w.heap.size, 0, none⟩ = some (.slice aL nL cL) := cellN gX
  have c1 : X.cell? ⟨w.heap.size, 1, none⟩ = some (.slice aS nS cS) := cellN gX
  have c2 : X.cell? ⟨w.heap.size, 2, none⟩ = some (.slice aO nO cO) := cellN gX
  rw [hX] at c0 c1 c2
  clear hX hBX gX gR h hz hn hnm hdt hnL hnS hnO hfr
  go_enter Try.func10, Try.ntmps10
  go_wp2_with fail
  rw [← HX.out]
  have hAX := HA.out X HBX.out
  refine (specDisk_any _ _ _ L S O X hAX.1 hAX.2.1 hAX.2.2 HZ.out).mono ?_
  rintro e w1 ⟨rfl, hB1⟩
  have HB1 : Hid (Below X.heap.size X w1) := hB1
  clear c0 c1 c2 HX hB1 hAX
  cases hd : diskB L S O with
  | false =>
    have HD := (show Hid _ from rp_no nm dt hd)
    have HR3 : Hid (At3 w1 (w.heap.size + 1) 27 (.slice none 0 0) (.slice none 0 0) (.slice none 0 0)) := (HG.out w1 HB1.out).2.1
    obtain ⟨q, hq, hi6, ho6, h16⟩ := row3 none none none 0 0 0 0 0 0
    clear hd
    go_wp2_with (refine wpList_store_row rfl 27 _ _ rfl (w.heap.size + 1) q rfl (congrArg Value.agg hq.symm) 27 _ HR3.out hi6 ho6 h16 ?_)
    subst hq
    refine bodyPost_ret (v := .tuple #[.agg #[.slice none 0 0, .slice none 0 0, .slice none 0 0], _]) (results_row_tmp rfl _ _ (w.heap.size + 1) 27 _ _ _ rfl (setRow_heap _ _ _ _ _ _ HR3.out) Try.underlying27 rfl hi6) rfl ⟨_, _, _, ret_val (by rw [HD.out.1]; rfl), ?_, ?_⟩
    · rw [HD.out.2.1, HD.out.2.2.1, HD.out.2.2.2]
      exact ⟨(HoldF.nil _ 0).1, (HoldF.nil _ 0).1, (HoldO.nil _ 0).1⟩
    · exact below_setRow (HG.out w1 HB1.out).2.2.1 (by omega) _
  | true =>
    have HDK : Hid (diskB L S O = true) := hd
    clear hd
    obtain ⟨g, hgg⟩ : ∃ g, g = w1.heap.size := ⟨_, rfl⟩
    obtain ⟨Y, hY⟩ : ∃ Y, Y = w1.alloc (.cells #[.slice aL nL cL, .slice aS nS cS, .slice aO nO cO] 27) := ⟨_, rfl⟩
    have hBY : Below w1.heap.size w1 Y := by rw [hY]; exact (Below.refl _ _).alloc (Nat.le_refl _) _
    have hG1 := HG.out w1 HB1.out
    have HS0 : Hid (ReSt w Y g (.slice aL nL cL) (.slice aS nS cS) (.slice aO nO cO) (.slice aL nL cL) (.slice aS nS cS) (.slice aO nO cO) L S O) :=
      ⟨hG1.1.below hBY, hG1.2.1.below hBY, by rw [hY, hgg]; exact At3.new _ _ _ _ _, HA.out Y (hG1.2.2.1.trans (hBY.mono hG1.2.2.1.size)), hG1.2.2.1.trans (hBY.mono hG1.2.2.1.size), by rw [hgg]; exact hG1.2.2.2⟩
    have HAL : Hid (∀ W, Below w.heap.size w W → RdD W (.slice aL nL cL) (.slice aS nS cS) (.slice aO nO cO) L S O) := HA.out
    have c0 := hG1.1.c0
    have c1 := hG1.1.c1
    have c2 := hG1.1.c2
    have d0 := HS0.out.d.c0
    rw [hY] at d0
    have HY : Hid (Y = w1.alloc (.cells #[.slice aL nL cL, .slice aS nS cS, .slice aO nO cO] 27)) := hY
    have HGG : Hid (g = w1.heap.size) := hgg
    clear hY hBY hG1 hgg
    go_wp2_with fail
    rw [← HY.out]
    refine (at_any _ L fr Y HS0.out.rd.1).mono ?_
    rintro e w' ⟨z, rfl, hz, hw⟩
    rw [hw]
    clear hw w'
    have hgt := at_get hz
    rw [HFR.out.1] at hgt
    clear hz c0 c1 c2 d0
    rw [← HGG.out]
    rcases hgt with ⟨rfl, hg⟩ | ⟨i, rfl, hin, hg⟩
    · have HRA : Hid (RpAt L O (rpOps L nm dt) L O [⟨1, fr, ⟨#[]⟩, dt⟩, ⟨2, fr, nm, ⟨#[]⟩⟩]) := by
        have e := rpOps_none (dt := dt) hg
        rw [← HFR.out.1] at e
        rw [e]
        exact ⟨rfl, rfl, rfl⟩
      have HDI := HDK
      have HST := HS0
      have c0 := HST.out.d.c0
      have c1 := HST.out.d.c1
      have c2 := HST.out.d.c2
      have n0 := HST.out.n.c0
      have n1 := HST.out.n.c1
      have n2 := HST.out.n.c2
      clear hg
      go_wp2_with fail
      have hsd := small_disk HDI.out
      have hlv := filesB_parts (disk_live HDI.out).1
      refine (specAct2_any _ _ _ L S O ⟨1, fr, ⟨#[]⟩, dt⟩ Y HST.out.rd hsd.1 ⟨by omega, by omega, by omega⟩ ⟨hlv.1, hlv.2.1⟩ ⟨show fr.size ≤ 100000000 by have := HFR.out; omega, show (⟨#[]⟩ : ByteArray).size ≤ 100000000 from Nat.zero_le _, show dt.size ≤ 100000000 by have := HFR.out; omega⟩).mono ?_
      rintro e V1 ⟨x, y, z, rfl, hr, _, hBv⟩
      obtain ⟨x1, f1, y1, h1, z1, p1, ex, ey, ez⟩ := hr.slices
      obtain ⟨L1, hL1⟩ : ∃ Q, Q = actL L O ⟨1, fr, ⟨#[]⟩, dt⟩ := ⟨_, rfl⟩
      obtain ⟨O1, hO1⟩ : ∃ Q, Q = actO L O ⟨1, fr, ⟨#[]⟩, dt⟩ := ⟨_, rfl⟩
      obtain ⟨C1, hC1⟩ : ∃ Q, Q = actC L O ⟨1, fr, ⟨#[]⟩, dt⟩ := ⟨_, rfl⟩
      rw [← hL1] at hr ex
      rw [← hO1] at hr ez
      rw [← hC1]
      obtain ⟨l1, hm1⟩ : ∃ m, m = L1.length := ⟨_, rfl⟩
      obtain ⟨k1, hm2⟩ : ∃ m, m = S.length := ⟨_, rfl⟩
      obtain ⟨o1, hm3⟩ : ∃ m, m = O1.length := ⟨_, rfl⟩
      rw [← hm1] at ex
      rw [← hm2] at ey
      rw [← hm3] at ez
      subst ex ey ez
      have HSV : Hid (ReSt w (V1.setRow g #[.slice x1 l1 f1, .slice y1 k1 h1, .slice z1 o1 p1]) g (.slice aL nL cL) (.slice aS nS cS) (.slice aO nO cO) (.slice x1 l1 f1) (.slice y1 k1 h1) (.slice z1 o1 p1) L1 S O1) := HST.out.step hBv hr
      have HNW := (show Hid _ from HST.out.n.below hBv)
      have HCC : Hid (L1 = actL L O ⟨1, fr, ⟨#[]⟩, dt⟩ ∧ O1 = actO L O ⟨1, fr, ⟨#[]⟩, dt⟩ ∧ C1 = actC L O ⟨1, fr, ⟨#[]⟩, dt⟩) := ⟨hL1, hO1, hC1⟩
      obtain ⟨q, hq, hi6, ho6, h16⟩ := row3 x1 y1 z1 l1 f1 k1 h1 o1 p1
      clear hr hBv hm1 hm2 hm3 hL1 hO1 hC1 c0 c1 c2 n0 n1 n2 HST hsd hlv
      by_cases hz0 : C1 = 0
      · have hcb : ((C1 : Int) == 0) = true := by rw [hz0]; rfl
        have HRB : Hid (RpAt L O (rpOps L nm dt) L1 O1 [⟨2, fr, nm, ⟨#[]⟩⟩]) := by
          have := HRA.out.step (HCC.out.2.2.symm.trans hz0)
          rw [← HCC.out.1, ← HCC.out.2.1] at this
          exact this
        have HDJ : Hid (diskB L1 S O1 = true) := by
          have := act_disk HDI.out (HCC.out.2.2.symm.trans hz0)
          rw [← HCC.out.1, ← HCC.out.2.1] at this
          exact this
        have HRA := HRB
        have HDI := HDJ
        clear HRB HDJ HCC hz0
        go_wp2_with (
          (refine wpList_store_row rfl 27 _ _ rfl g q rfl (congrArg Value.agg hq.symm) 27 _ HNW.out hi6 (by rw [hq]; rfl) h16 ?_
           subst hq
           obtain ⟨W1, hW⟩ : ∃ W, W = V1.setRow g #[.slice x1 l1 f1, .slice y1 k1 h1, .slice z1 o1 p1] := ⟨_, rfl⟩
           have HST := HSV
           rw [← hW] at HST
           rw [← hW]
           have c0 := HST.out.d.c0
           have c1 := HST.out.d.c1
           have c2 := HST.out.d.c2
           have n0 := HST.out.n.c0
           have n1 := HST.out.n.c1
           have n2 := HST.out.n.c2
           clear hW))
        have hsd := small_disk HDI.out
        have hlv := filesB_parts (disk_live HDI.out).1
        refine (specAct2_any _ _ _ L1 S O1 ⟨2, fr, nm, ⟨#[]⟩⟩ W1 HST.out.rd hsd.1 ⟨by omega, by omega, by omega⟩ ⟨hlv.1, hlv.2.1⟩ ⟨show fr.size ≤ 100000000 by have := HFR.out; omega, show nm.size ≤ 100000000 by have := HFR.out; omega, show (⟨#[]⟩ : ByteArray).size ≤ 100000000 from Nat.zero_le _⟩).mono ?_
        rintro e V2 ⟨x, y, z, rfl, hr, _, hBv⟩
        obtain ⟨x2, f2, y2, h2, z2, p2, ex, ey, ez⟩ := hr.slices
        obtain ⟨L2, hL2⟩ : ∃ Q, Q = actL L1 O1 ⟨2, fr, nm, ⟨#[]⟩⟩ := ⟨_, rfl⟩
        obtain ⟨O2, hO2⟩ : ∃ Q, Q = actO L1 O1 ⟨2, fr, nm, ⟨#[]⟩⟩ := ⟨_, rfl⟩
        obtain ⟨C2, hC2⟩ : ∃ Q, Q = actC L1 O1 ⟨2, fr, nm, ⟨#[]⟩⟩ := ⟨_, rfl⟩
        rw [← hL2] at hr ex
        rw [← hO2] at hr ez
        rw [← hC2]
        obtain ⟨l2, hm1⟩ : ∃ m, m = L2.length := ⟨_, rfl⟩
        obtain ⟨k2, hm2⟩ : ∃ m, m = S.length := ⟨_, rfl⟩
        obtain ⟨o2, hm3⟩ : ∃ m, m = O2.length := ⟨_, rfl⟩
        rw [← hm1] at ex
        rw [← hm2] at ey
        rw [← hm3] at ez
        subst ex ey ez
        have HSV : Hid (ReSt w (V2.setRow g #[.slice x2 l2 f2, .slice y2 k2 h2, .slice z2 o2 p2]) g (.slice aL nL cL) (.slice aS nS cS) (.slice aO nO cO) (.slice x2 l2 f2) (.slice y2 k2 h2) (.slice z2 o2 p2) L2 S O2) := HST.out.step hBv hr
        have HNW := (show Hid _ from HST.out.n.below hBv)
        have HCC : Hid (L2 = actL L1 O1 ⟨2, fr, nm, ⟨#[]⟩⟩ ∧ O2 = actO L1 O1 ⟨2, fr, nm, ⟨#[]⟩⟩ ∧ C2 = actC L1 O1 ⟨2, fr, nm, ⟨#[]⟩⟩) := ⟨hL2, hO2, hC2⟩
        obtain ⟨q, hq, hi6, ho6, h16⟩ := row3 x2 y2 z2 l2 f2 k2 h2 o2 p2
        clear hr hBv hm1 hm2 hm3 hL2 hO2 hC2 c0 c1 c2 n0 n1 n2 HST hsd hlv
        by_cases hz0 : C2 = 0
        · have hcb : ((C2 : Int) == 0) = true := by rw [hz0]; rfl
          have HRB : Hid (RpAt L O (rpOps L nm dt) L2 O2 []) := by
            have := HRA.out.step (HCC.out.2.2.symm.trans hz0)
            rw [← HCC.out.1, ← HCC.out.2.1] at this
            exact this
          have HDJ : Hid (diskB L2 S O2 = true) := by
            have := act_disk HDI.out (HCC.out.2.2.symm.trans hz0)
            rw [← HCC.out.1, ← HCC.out.2.1] at this
            exact this
          have HRA := HRB
          have HDI := HDJ
          clear HRB HDJ HCC hz0
          go_wp2_with (
            (refine wpList_store_row rfl 27 _ _ rfl g q rfl (congrArg Value.agg hq.symm) 27 _ HNW.out hi6 (by rw [hq]; rfl) h16 ?_
             subst hq
             obtain ⟨W2, hW⟩ : ∃ W, W = V2.setRow g #[.slice x2 l2 f2, .slice y2 k2 h2, .slice z2 o2 p2] := ⟨_, rfl⟩
             have HST := HSV
             rw [← hW] at HST
             rw [← hW]
             have c0 := HST.out.d.c0
             have c1 := HST.out.d.c1
             have c2 := HST.out.d.c2
             have n0 := HST.out.n.c0
             have n1 := HST.out.n.c1
             have n2 := HST.out.n.c2
             clear hW))
          have hsd := small_disk HDI.out
          refine (specCopy_any _ _ _ L2 S O2 W2 HST.out.rd ⟨by omega, by omega, by omega⟩).mono ?_
          rintro e wc ⟨x, y, z, rfl, hr, _, hBc⟩
          obtain ⟨b1, d1, b2, d2, b3, d3, ex, ey, ez⟩ := hr.slices
          obtain ⟨m1, hm1⟩ : ∃ m, m = L2.length := ⟨_, rfl⟩
          obtain ⟨m2, hm2⟩ : ∃ m, m = S.length := ⟨_, rfl⟩
          obtain ⟨m3, hm3⟩ : ∃ m, m = O2.length := ⟨_, rfl⟩
          rw [← hm1] at ex
          rw [← hm2] at ey
          rw [← hm3] at ez
          subst ex ey ez
          have HRR : Hid (RdD wc (.slice b1 m1 d1) (.slice b2 m2 d2) (.slice b3 m3 d3) L2 S O2) := hr
          have HBC : Hid (Below w.heap.size w wc) := HST.out.bel.trans (hBc.mono HST.out.bel.size)
          have HR3 : Hid (At3 wc (w.heap.size + 1) 27 (.slice none 0 0) (.slice none 0 0) (.slice none 0 0)) := HST.out.r.below hBc
          obtain ⟨q, hq, hi6, ho6, h16⟩ := row3 b1 b2 b3 m1 d1 m2 d2 m3 d3
          clear hr hBc hm1 hm2 hm3 hsd c0 c1 c2 n0 n1 n2
          go_wp2_with (refine wpList_store_row rfl 27 _ _ rfl (w.heap.size + 1) q rfl (congrArg Value.agg hq.symm) 27 _ HR3.out hi6 ho6 h16 ?_)
          subst hq
          have HGD : Hid (rpC L S O nm dt = 0 ∧ rpL L S O nm dt = L2 ∧ rpS L S O = S ∧ rpO L S O nm dt = O2) := by
            obtain ⟨e1, e2, e3, e4⟩ := rp_good HDK.out (HRA.out.1.trans rfl)
            exact ⟨e1, e2.trans HRA.out.2.1, e3, e4.trans HRA.out.2.2⟩
          refine bodyPost_ret (v := .tuple #[.agg #[.slice b1 m1 d1, .slice b2 m2 d2, .slice b3 m3 d3], _]) (results_row_tmp rfl _ _ (w.heap.size + 1) 27 _ _ _ rfl (setRow_heap _ _ _ _ _ _ HR3.out) Try.underlying27 rfl hi6) rfl ⟨_, _, _, ret_val (by rw [HGD.out.1]; rfl), ?_, ?_⟩
          · rw [HGD.out.2.1, HGD.out.2.2.1, HGD.out.2.2.2]
            exact HRR.out.row HR3.out _
          · exact below_setRow HBC.out (by omega) _
        · have hcb : ((C2 : Int) == 0) = false := by
            cases hb : ((C2 : Int) == 0) with
            | false => rfl
            | true => exact absurd (by have := eq_of_beq hb; omega) hz0
          have HBAD : Hid (rpC L S O nm dt = C2 ∧ rpL L S O nm dt = L ∧ rpS L S O = S ∧ rpO L S O nm dt = O) := by
            have e := HRA.out.bad (fun q => hz0 (HCC.out.2.2.trans q))
            obtain ⟨e1, e2, e3, e4⟩ := rp_bad (nm := nm) (dt := dt) HDK.out (by rw [e]; exact fun q => hz0 (HCC.out.2.2.trans q))
            exact ⟨e1.trans (e.trans HCC.out.2.2.symm), e2, e3, e4⟩
          clear HCC hz0
          go_wp2_with (
            (refine wpList_store_row rfl 27 _ _ rfl g q rfl (congrArg Value.agg hq.symm) 27 _ HNW.out hi6 (by rw [hq]; rfl) h16 ?_
             subst hq
             obtain ⟨W2, hW⟩ : ∃ W, W = V2.setRow g #[.slice x2 l2 f2, .slice y2 k2 h2, .slice z2 o2 p2] := ⟨_, rfl⟩
             have HST := HSV
             rw [← hW] at HST
             rw [← hW]
             have c0 := HST.out.d.c0
             have c1 := HST.out.d.c1
             have c2 := HST.out.d.c2
             have n0 := HST.out.n.c0
             have n1 := HST.out.n.c1
             have n2 := HST.out.n.c2
             clear hW))
          refine (specCopy_any _ _ _ L S O W2 (HAL.out W2 HST.out.bel) HN.out).mono ?_
          rintro e wc ⟨x, y, z, rfl, hr, _, hBc⟩
          obtain ⟨b1, d1, b2, d2, b3, d3, ex, ey, ez⟩ := hr.slices
          obtain ⟨m1, hm1⟩ : ∃ m, m = L.length := ⟨_, rfl⟩
          obtain ⟨m2, hm2⟩ : ∃ m, m = S.length := ⟨_, rfl⟩
          obtain ⟨m3, hm3⟩ : ∃ m, m = O.length := ⟨_, rfl⟩
          rw [← hm1] at ex
          rw [← hm2] at ey
          rw [← hm3] at ez
          subst ex ey ez
          have HRR : Hid (RdD wc (.slice b1 m1 d1) (.slice b2 m2 d2) (.slice b3 m3 d3) L S O) := hr
          have HBC : Hid (Below w.heap.size w wc) := HST.out.bel.trans (hBc.mono HST.out.bel.size)
          have HR3 : Hid (At3 wc (w.heap.size + 1) 27 (.slice none 0 0) (.slice none 0 0) (.slice none 0 0)) := HST.out.r.below hBc
          obtain ⟨q, hq, hi6, ho6, h16⟩ := row3 b1 b2 b3 m1 d1 m2 d2 m3 d3
          clear hr hBc hm1 hm2 hm3 c0 c1 c2 n0 n1 n2
          go_wp2_with (refine wpList_store_row rfl 27 _ _ rfl (w.heap.size + 1) q rfl (congrArg Value.agg hq.symm) 27 _ HR3.out hi6 ho6 h16 ?_)
          subst hq
          refine bodyPost_ret (v := .tuple #[.agg #[.slice b1 m1 d1, .slice b2 m2 d2, .slice b3 m3 d3], _]) (results_row_tmp rfl _ _ (w.heap.size + 1) 27 _ _ _ rfl (setRow_heap _ _ _ _ _ _ HR3.out) Try.underlying27 rfl hi6) rfl ⟨_, _, _, ret_val (by rw [HBAD.out.1]; rfl), ?_, ?_⟩
          · rw [HBAD.out.2.1, HBAD.out.2.2.1, HBAD.out.2.2.2]
            exact HRR.out.row HR3.out _
          · exact below_setRow HBC.out (by omega) _
      · have hcb : ((C1 : Int) == 0) = false := by
          cases hb : ((C1 : Int) == 0) with
          | false => rfl
          | true => exact absurd (by have := eq_of_beq hb; omega) hz0
        have HBAD : Hid (rpC L S O nm dt = C1 ∧ rpL L S O nm dt = L ∧ rpS L S O = S ∧ rpO L S O nm dt = O) := by
          have e := HRA.out.bad (fun q => hz0 (HCC.out.2.2.trans q))
          obtain ⟨e1, e2, e3, e4⟩ := rp_bad (nm := nm) (dt := dt) HDK.out (by rw [e]; exact fun q => hz0 (HCC.out.2.2.trans q))
          exact ⟨e1.trans (e.trans HCC.out.2.2.symm), e2, e3, e4⟩
        clear HCC hz0
        go_wp2_with (
          (refine wpList_store_row rfl 27 _ _ rfl g q rfl (congrArg Value.agg hq.symm) 27 _ HNW.out hi6 (by rw [hq]; rfl) h16 ?_
           subst hq
           obtain ⟨W1, hW⟩ : ∃ W, W = V1.setRow g #[.slice x1 l1 f1, .slice y1 k1 h1, .slice z1 o1 p1] := ⟨_, rfl⟩
           have HST := HSV
           rw [← hW] at HST
           rw [← hW]
           have c0 := HST.out.d.c0
           have c1 := HST.out.d.c1
           have c2 := HST.out.d.c2
           have n0 := HST.out.n.c0
           have n1 := HST.out.n.c1
           have n2 := HST.out.n.c2
           clear hW))
        refine (specCopy_any _ _ _ L S O W1 (HAL.out W1 HST.out.bel) HN.out).mono ?_
        rintro e wc ⟨x, y, z, rfl, hr, _, hBc⟩
        obtain ⟨b1, d1, b2, d2, b3, d3, ex, ey, ez⟩ := hr.slices
        obtain ⟨m1, hm1⟩ : ∃ m, m = L.length := ⟨_, rfl⟩
        obtain ⟨m2, hm2⟩ : ∃ m, m = S.length := ⟨_, rfl⟩
        obtain ⟨m3, hm3⟩ : ∃ m, m = O.length := ⟨_, rfl⟩
        rw [← hm1] at ex
        rw [← hm2] at ey
        rw [← hm3] at ez
        subst ex ey ez
        have HRR : Hid (RdD wc (.slice b1 m1 d1) (.slice b2 m2 d2) (.slice b3 m3 d3) L S O) := hr
        have HBC : Hid (Below w.heap.size w wc) := HST.out.bel.trans (hBc.mono HST.out.bel.size)
        have HR3 : Hid (At3 wc (w.heap.size + 1) 27 (.slice none 0 0) (.slice none 0 0) (.slice none 0 0)) := HST.out.r.below hBc
        obtain ⟨q, hq, hi6, ho6, h16⟩ := row3 b1 b2 b3 m1 d1 m2 d2 m3 d3
        clear hr hBc hm1 hm2 hm3 c0 c1 c2 n0 n1 n2
        go_wp2_with (refine wpList_store_row rfl 27 _ _ rfl (w.heap.size + 1) q rfl (congrArg Value.agg hq.symm) 27 _ HR3.out hi6 ho6 h16 ?_)
        subst hq
        refine bodyPost_ret (v := .tuple #[.agg #[.slice b1 m1 d1, .slice b2 m2 d2, .slice b3 m3 d3], _]) (results_row_tmp rfl _ _ (w.heap.size + 1) 27 _ _ _ rfl (setRow_heap _ _ _ _ _ _ HR3.out) Try.underlying27 rfl hi6) rfl ⟨_, _, _, ret_val (by rw [HBAD.out.1]; rfl), ?_, ?_⟩
        · rw [HBAD.out.2.1, HBAD.out.2.2.1, HBAD.out.2.2.2]
          exact HRR.out.row HR3.out _
        · exact below_setRow HBC.out (by omega) _
    · have HRA : Hid (RpAt L O (rpOps L nm dt) L O [⟨3, fr, ⟨#[]⟩, ⟨#[]⟩⟩, ⟨1, fr, ⟨#[]⟩, dt⟩, ⟨2, fr, nm, ⟨#[]⟩⟩]) := by
        have e := rpOps_some (dt := dt) hg
        rw [← HFR.out.1] at e
        rw [e]
        exact ⟨rfl, rfl, rfl⟩
      have HDI := HDK
      have HST := HS0
      have c0 := HST.out.d.c0
      have c1 := HST.out.d.c1
      have c2 := HST.out.d.c2
      have n0 := HST.out.n.c0
      have n1 := HST.out.n.c1
      have n2 := HST.out.n.c2
      clear hg
      have hi0 : (0 : Int) ≤ (i : Int) := by omega
      clear hin
      go_wp2_with fail
      have hsd := small_disk HDI.out
      have hlv := filesB_parts (disk_live HDI.out).1
      refine (specAct2_any _ _ _ L S O ⟨3, fr, ⟨#[]⟩, ⟨#[]⟩⟩ Y HST.out.rd hsd.1 ⟨by omega, by omega, by omega⟩ ⟨hlv.1, hlv.2.1⟩ ⟨show fr.size ≤ 100000000 by have := HFR.out; omega, show (⟨#[]⟩ : ByteArray).size ≤ 100000000 from Nat.zero_le _, show (⟨#[]⟩ : ByteArray).size ≤ 100000000 from Nat.zero_le _⟩).mono ?_
      rintro e V1 ⟨x, y, z, rfl, hr, _, hBv⟩
      obtain ⟨x1, f1, y1, h1, z1, p1, ex, ey, ez⟩ := hr.slices
      obtain ⟨L1, hL1⟩ : ∃ Q, Q = actL L O ⟨3, fr, ⟨#[]⟩, ⟨#[]⟩⟩ := ⟨_, rfl⟩
      obtain ⟨O1, hO1⟩ : ∃ Q, Q = actO L O ⟨3, fr, ⟨#[]⟩, ⟨#[]⟩⟩ := ⟨_, rfl⟩
      obtain ⟨C1, hC1⟩ : ∃ Q, Q = actC L O ⟨3, fr, ⟨#[]⟩, ⟨#[]⟩⟩ := ⟨_, rfl⟩
      rw [← hL1] at hr ex
      rw [← hO1] at hr ez
      rw [← hC1]
      obtain ⟨l1, hm1⟩ : ∃ m, m = L1.length := ⟨_, rfl⟩
      obtain ⟨k1, hm2⟩ : ∃ m, m = S.length := ⟨_, rfl⟩
      obtain ⟨o1, hm3⟩ : ∃ m, m = O1.length := ⟨_, rfl⟩
      rw [← hm1] at ex
      rw [← hm2] at ey
      rw [← hm3] at ez
      subst ex ey ez
      have HSV : Hid (ReSt w (V1.setRow g #[.slice x1 l1 f1, .slice y1 k1 h1, .slice z1 o1 p1]) g (.slice aL nL cL) (.slice aS nS cS) (.slice aO nO cO) (.slice x1 l1 f1) (.slice y1 k1 h1) (.slice z1 o1 p1) L1 S O1) := HST.out.step hBv hr
      have HNW := (show Hid _ from HST.out.n.below hBv)
      have HCC : Hid (L1 = actL L O ⟨3, fr, ⟨#[]⟩, ⟨#[]⟩⟩ ∧ O1 = actO L O ⟨3, fr, ⟨#[]⟩, ⟨#[]⟩⟩ ∧ C1 = actC L O ⟨3, fr, ⟨#[]⟩, ⟨#[]⟩⟩) := ⟨hL1, hO1, hC1⟩
      obtain ⟨q, hq, hi6, ho6, h16⟩ := row3 x1 y1 z1 l1 f1 k1 h1 o1 p1
      clear hr hBv hm1 hm2 hm3 hL1 hO1 hC1 c0 c1 c2 n0 n1 n2 HST hsd hlv
      by_cases hz0 : C1 = 0
      · have hcb : ((C1 : Int) == 0) = true := by rw [hz0]; rfl
        have HRB : Hid (RpAt L O (rpOps L nm dt) L1 O1 [⟨1, fr, ⟨#[]⟩, dt⟩, ⟨2, fr, nm, ⟨#[]⟩⟩]) := by
          have := HRA.out.step (HCC.out.2.2.symm.trans hz0)
          rw [← HCC.out.1, ← HCC.out.2.1] at this
          exact this
        have HDJ : Hid (diskB L1 S O1 = true) := by
          have := act_disk HDI.out (HCC.out.2.2.symm.trans hz0)
          rw [← HCC.out.1, ← HCC.out.2.1] at this
          exact this
        have HRA := HRB
        have HDI := HDJ
        clear HRB HDJ HCC hz0
        go_wp2_with (
          (refine wpList_store_row rfl 27 _ _ rfl g q rfl (congrArg Value.agg hq.symm) 27 _ HNW.out hi6 (by rw [hq]; rfl) h16 ?_
           subst hq
           obtain ⟨W1, hW⟩ : ∃ W, W = V1.setRow g #[.slice x1 l1 f1, .slice y1 k1 h1, .slice z1 o1 p1] := ⟨_, rfl⟩
           have HST := HSV
           rw [← hW] at HST
           rw [← hW]
           have c0 := HST.out.d.c0
           have c1 := HST.out.d.c1
           have c2 := HST.out.d.c2
           have n0 := HST.out.n.c0
           have n1 := HST.out.n.c1
           have n2 := HST.out.n.c2
           clear hW))
        have hsd := small_disk HDI.out
        have hlv := filesB_parts (disk_live HDI.out).1
        refine (specAct2_any _ _ _ L1 S O1 ⟨1, fr, ⟨#[]⟩, dt⟩ W1 HST.out.rd hsd.1 ⟨by omega, by omega, by omega⟩ ⟨hlv.1, hlv.2.1⟩ ⟨show fr.size ≤ 100000000 by have := HFR.out; omega, show (⟨#[]⟩ : ByteArray).size ≤ 100000000 from Nat.zero_le _, show dt.size ≤ 100000000 by have := HFR.out; omega⟩).mono ?_
        rintro e V2 ⟨x, y, z, rfl, hr, _, hBv⟩
        obtain ⟨x2, f2, y2, h2, z2, p2, ex, ey, ez⟩ := hr.slices
        obtain ⟨L2, hL2⟩ : ∃ Q, Q = actL L1 O1 ⟨1, fr, ⟨#[]⟩, dt⟩ := ⟨_, rfl⟩
        obtain ⟨O2, hO2⟩ : ∃ Q, Q = actO L1 O1 ⟨1, fr, ⟨#[]⟩, dt⟩ := ⟨_, rfl⟩
        obtain ⟨C2, hC2⟩ : ∃ Q, Q = actC L1 O1 ⟨1, fr, ⟨#[]⟩, dt⟩ := ⟨_, rfl⟩
        rw [← hL2] at hr ex
        rw [← hO2] at hr ez
        rw [← hC2]
        obtain ⟨l2, hm1⟩ : ∃ m, m = L2.length := ⟨_, rfl⟩
        obtain ⟨k2, hm2⟩ : ∃ m, m = S.length := ⟨_, rfl⟩
        obtain ⟨o2, hm3⟩ : ∃ m, m = O2.length := ⟨_, rfl⟩
        rw [← hm1] at ex
        rw [← hm2] at ey
        rw [← hm3] at ez
        subst ex ey ez
        have HSV : Hid (ReSt w (V2.setRow g #[.slice x2 l2 f2, .slice y2 k2 h2, .slice z2 o2 p2]) g (.slice aL nL cL) (.slice aS nS cS) (.slice aO nO cO) (.slice x2 l2 f2) (.slice y2 k2 h2) (.slice z2 o2 p2) L2 S O2) := HST.out.step hBv hr
        have HNW := (show Hid _ from HST.out.n.below hBv)
        have HCC : Hid (L2 = actL L1 O1 ⟨1, fr, ⟨#[]⟩, dt⟩ ∧ O2 = actO L1 O1 ⟨1, fr, ⟨#[]⟩, dt⟩ ∧ C2 = actC L1 O1 ⟨1, fr, ⟨#[]⟩, dt⟩) := ⟨hL2, hO2, hC2⟩
        obtain ⟨q, hq, hi6, ho6, h16⟩ := row3 x2 y2 z2 l2 f2 k2 h2 o2 p2
        clear hr hBv hm1 hm2 hm3 hL2 hO2 hC2 c0 c1 c2 n0 n1 n2 HST hsd hlv
        by_cases hz0 : C2 = 0
        · have hcb : ((C2 : Int) == 0) = true := by rw [hz0]; rfl
          have HRB : Hid (RpAt L O (rpOps L nm dt) L2 O2 [⟨2, fr, nm, ⟨#[]⟩⟩]) := by
            have := HRA.out.step (HCC.out.2.2.symm.trans hz0)
            rw [← HCC.out.1, ← HCC.out.2.1] at this
            exact this
          have HDJ : Hid (diskB L2 S O2 = true) := by
            have := act_disk HDI.out (HCC.out.2.2.symm.trans hz0)
            rw [← HCC.out.1, ← HCC.out.2.1] at this
            exact this
          have HRA := HRB
          have HDI := HDJ
          clear HRB HDJ HCC hz0
          go_wp2_with (
            (refine wpList_store_row rfl 27 _ _ rfl g q rfl (congrArg Value.agg hq.symm) 27 _ HNW.out hi6 (by rw [hq]; rfl) h16 ?_
             subst hq
             obtain ⟨W2, hW⟩ : ∃ W, W = V2.setRow g #[.slice x2 l2 f2, .slice y2 k2 h2, .slice z2 o2 p2] := ⟨_, rfl⟩
             have HST := HSV
             rw [← hW] at HST
             rw [← hW]
             have c0 := HST.out.d.c0
             have c1 := HST.out.d.c1
             have c2 := HST.out.d.c2
             have n0 := HST.out.n.c0
             have n1 := HST.out.n.c1
             have n2 := HST.out.n.c2
             clear hW))
          have hsd := small_disk HDI.out
          have hlv := filesB_parts (disk_live HDI.out).1
          refine (specAct2_any _ _ _ L2 S O2 ⟨2, fr, nm, ⟨#[]⟩⟩ W2 HST.out.rd hsd.1 ⟨by omega, by omega, by omega⟩ ⟨hlv.1, hlv.2.1⟩ ⟨show fr.size ≤ 100000000 by have := HFR.out; omega, show nm.size ≤ 100000000 by have := HFR.out; omega, show (⟨#[]⟩ : ByteArray).size ≤ 100000000 from Nat.zero_le _⟩).mono ?_
          rintro e V3 ⟨x, y, z, rfl, hr, _, hBv⟩
          obtain ⟨x3, f3, y3, h3, z3, p3, ex, ey, ez⟩ := hr.slices
          obtain ⟨L3, hL3⟩ : ∃ Q, Q = actL L2 O2 ⟨2, fr, nm, ⟨#[]⟩⟩ := ⟨_, rfl⟩
          obtain ⟨O3, hO3⟩ : ∃ Q, Q = actO L2 O2 ⟨2, fr, nm, ⟨#[]⟩⟩ := ⟨_, rfl⟩
          obtain ⟨C3, hC3⟩ : ∃ Q, Q = actC L2 O2 ⟨2, fr, nm, ⟨#[]⟩⟩ := ⟨_, rfl⟩
          rw [← hL3] at hr ex
          rw [← hO3] at hr ez
          rw [← hC3]
          obtain ⟨l3, hm1⟩ : ∃ m, m = L3.length := ⟨_, rfl⟩
          obtain ⟨k3, hm2⟩ : ∃ m, m = S.length := ⟨_, rfl⟩
          obtain ⟨o3, hm3⟩ : ∃ m, m = O3.length := ⟨_, rfl⟩
          rw [← hm1] at ex
          rw [← hm2] at ey
          rw [← hm3] at ez
          subst ex ey ez
          have HSV : Hid (ReSt w (V3.setRow g #[.slice x3 l3 f3, .slice y3 k3 h3, .slice z3 o3 p3]) g (.slice aL nL cL) (.slice aS nS cS) (.slice aO nO cO) (.slice x3 l3 f3) (.slice y3 k3 h3) (.slice z3 o3 p3) L3 S O3) := HST.out.step hBv hr
          have HNW := (show Hid _ from HST.out.n.below hBv)
          have HCC : Hid (L3 = actL L2 O2 ⟨2, fr, nm, ⟨#[]⟩⟩ ∧ O3 = actO L2 O2 ⟨2, fr, nm, ⟨#[]⟩⟩ ∧ C3 = actC L2 O2 ⟨2, fr, nm, ⟨#[]⟩⟩) := ⟨hL3, hO3, hC3⟩
          obtain ⟨q, hq, hi6, ho6, h16⟩ := row3 x3 y3 z3 l3 f3 k3 h3 o3 p3
          clear hr hBv hm1 hm2 hm3 hL3 hO3 hC3 c0 c1 c2 n0 n1 n2 HST hsd hlv
          by_cases hz0 : C3 = 0
          · have hcb : ((C3 : Int) == 0) = true := by rw [hz0]; rfl
            have HRB : Hid (RpAt L O (rpOps L nm dt) L3 O3 []) := by
              have := HRA.out.step (HCC.out.2.2.symm.trans hz0)
              rw [← HCC.out.1, ← HCC.out.2.1] at this
              exact this
            have HDJ : Hid (diskB L3 S O3 = true) := by
              have := act_disk HDI.out (HCC.out.2.2.symm.trans hz0)
              rw [← HCC.out.1, ← HCC.out.2.1] at this
              exact this
            have HRA := HRB
            have HDI := HDJ
            clear HRB HDJ HCC hz0
            go_wp2_with (
              (refine wpList_store_row rfl 27 _ _ rfl g q rfl (congrArg Value.agg hq.symm) 27 _ HNW.out hi6 (by rw [hq]; rfl) h16 ?_
               subst hq
               obtain ⟨W3, hW⟩ : ∃ W, W = V3.setRow g #[.slice x3 l3 f3, .slice y3 k3 h3, .slice z3 o3 p3] := ⟨_, rfl⟩
               have HST := HSV
               rw [← hW] at HST
               rw [← hW]
               have c0 := HST.out.d.c0
               have c1 := HST.out.d.c1
               have c2 := HST.out.d.c2
               have n0 := HST.out.n.c0
               have n1 := HST.out.n.c1
               have n2 := HST.out.n.c2
               clear hW))
            have hsd := small_disk HDI.out
            refine (specCopy_any _ _ _ L3 S O3 W3 HST.out.rd ⟨by omega, by omega, by omega⟩).mono ?_
            rintro e wc ⟨x, y, z, rfl, hr, _, hBc⟩
            obtain ⟨b1, d1, b2, d2, b3, d3, ex, ey, ez⟩ := hr.slices
            obtain ⟨m1, hm1⟩ : ∃ m, m = L3.length := ⟨_, rfl⟩
            obtain ⟨m2, hm2⟩ : ∃ m, m = S.length := ⟨_, rfl⟩
            obtain ⟨m3, hm3⟩ : ∃ m, m = O3.length := ⟨_, rfl⟩
            rw [← hm1] at ex
            rw [← hm2] at ey
            rw [← hm3] at ez
            subst ex ey ez
            have HRR : Hid (RdD wc (.slice b1 m1 d1) (.slice b2 m2 d2) (.slice b3 m3 d3) L3 S O3) := hr
            have HBC : Hid (Below w.heap.size w wc) := HST.out.bel.trans (hBc.mono HST.out.bel.size)
            have HR3 : Hid (At3 wc (w.heap.size + 1) 27 (.slice none 0 0) (.slice none 0 0) (.slice none 0 0)) := HST.out.r.below hBc
            obtain ⟨q, hq, hi6, ho6, h16⟩ := row3 b1 b2 b3 m1 d1 m2 d2 m3 d3
            clear hr hBc hm1 hm2 hm3 hsd c0 c1 c2 n0 n1 n2
            go_wp2_with (refine wpList_store_row rfl 27 _ _ rfl (w.heap.size + 1) q rfl (congrArg Value.agg hq.symm) 27 _ HR3.out hi6 ho6 h16 ?_)
            subst hq
            have HGD : Hid (rpC L S O nm dt = 0 ∧ rpL L S O nm dt = L3 ∧ rpS L S O = S ∧ rpO L S O nm dt = O3) := by
              obtain ⟨e1, e2, e3, e4⟩ := rp_good HDK.out (HRA.out.1.trans rfl)
              exact ⟨e1, e2.trans HRA.out.2.1, e3, e4.trans HRA.out.2.2⟩
            refine bodyPost_ret (v := .tuple #[.agg #[.slice b1 m1 d1, .slice b2 m2 d2, .slice b3 m3 d3], _]) (results_row_tmp rfl _ _ (w.heap.size + 1) 27 _ _ _ rfl (setRow_heap _ _ _ _ _ _ HR3.out) Try.underlying27 rfl hi6) rfl ⟨_, _, _, ret_val (by rw [HGD.out.1]; rfl), ?_, ?_⟩
            · rw [HGD.out.2.1, HGD.out.2.2.1, HGD.out.2.2.2]
              exact HRR.out.row HR3.out _
            · exact below_setRow HBC.out (by omega) _
          · have hcb : ((C3 : Int) == 0) = false := by
              cases hb : ((C3 : Int) == 0) with
              | false => rfl
              | true => exact absurd (by have := eq_of_beq hb; omega) hz0
            have HBAD : Hid (rpC L S O nm dt = C3 ∧ rpL L S O nm dt = L ∧ rpS L S O = S ∧ rpO L S O nm dt = O) := by
              have e := HRA.out.bad (fun q => hz0 (HCC.out.2.2.trans q))
              obtain ⟨e1, e2, e3, e4⟩ := rp_bad (nm := nm) (dt := dt) HDK.out (by rw [e]; exact fun q => hz0 (HCC.out.2.2.trans q))
              exact ⟨e1.trans (e.trans HCC.out.2.2.symm), e2, e3, e4⟩
            clear HCC hz0
            go_wp2_with (
              (refine wpList_store_row rfl 27 _ _ rfl g q rfl (congrArg Value.agg hq.symm) 27 _ HNW.out hi6 (by rw [hq]; rfl) h16 ?_
               subst hq
               obtain ⟨W3, hW⟩ : ∃ W, W = V3.setRow g #[.slice x3 l3 f3, .slice y3 k3 h3, .slice z3 o3 p3] := ⟨_, rfl⟩
               have HST := HSV
               rw [← hW] at HST
               rw [← hW]
               have c0 := HST.out.d.c0
               have c1 := HST.out.d.c1
               have c2 := HST.out.d.c2
               have n0 := HST.out.n.c0
               have n1 := HST.out.n.c1
               have n2 := HST.out.n.c2
               clear hW))
            refine (specCopy_any _ _ _ L S O W3 (HAL.out W3 HST.out.bel) HN.out).mono ?_
            rintro e wc ⟨x, y, z, rfl, hr, _, hBc⟩
            obtain ⟨b1, d1, b2, d2, b3, d3, ex, ey, ez⟩ := hr.slices
            obtain ⟨m1, hm1⟩ : ∃ m, m = L.length := ⟨_, rfl⟩
            obtain ⟨m2, hm2⟩ : ∃ m, m = S.length := ⟨_, rfl⟩
            obtain ⟨m3, hm3⟩ : ∃ m, m = O.length := ⟨_, rfl⟩
            rw [← hm1] at ex
            rw [← hm2] at ey
            rw [← hm3] at ez
            subst ex ey ez
            have HRR : Hid (RdD wc (.slice b1 m1 d1) (.slice b2 m2 d2) (.slice b3 m3 d3) L S O) := hr
            have HBC : Hid (Below w.heap.size w wc) := HST.out.bel.trans (hBc.mono HST.out.bel.size)
            have HR3 : Hid (At3 wc (w.heap.size + 1) 27 (.slice none 0 0) (.slice none 0 0) (.slice none 0 0)) := HST.out.r.below hBc
            obtain ⟨q, hq, hi6, ho6, h16⟩ := row3 b1 b2 b3 m1 d1 m2 d2 m3 d3
            clear hr hBc hm1 hm2 hm3 c0 c1 c2 n0 n1 n2
            go_wp2_with (refine wpList_store_row rfl 27 _ _ rfl (w.heap.size + 1) q rfl (congrArg Value.agg hq.symm) 27 _ HR3.out hi6 ho6 h16 ?_)
            subst hq
            refine bodyPost_ret (v := .tuple #[.agg #[.slice b1 m1 d1, .slice b2 m2 d2, .slice b3 m3 d3], _]) (results_row_tmp rfl _ _ (w.heap.size + 1) 27 _ _ _ rfl (setRow_heap _ _ _ _ _ _ HR3.out) Try.underlying27 rfl hi6) rfl ⟨_, _, _, ret_val (by rw [HBAD.out.1]; rfl), ?_, ?_⟩
            · rw [HBAD.out.2.1, HBAD.out.2.2.1, HBAD.out.2.2.2]
              exact HRR.out.row HR3.out _
            · exact below_setRow HBC.out (by omega) _
        · have hcb : ((C2 : Int) == 0) = false := by
            cases hb : ((C2 : Int) == 0) with
            | false => rfl
            | true => exact absurd (by have := eq_of_beq hb; omega) hz0
          have HBAD : Hid (rpC L S O nm dt = C2 ∧ rpL L S O nm dt = L ∧ rpS L S O = S ∧ rpO L S O nm dt = O) := by
            have e := HRA.out.bad (fun q => hz0 (HCC.out.2.2.trans q))
            obtain ⟨e1, e2, e3, e4⟩ := rp_bad (nm := nm) (dt := dt) HDK.out (by rw [e]; exact fun q => hz0 (HCC.out.2.2.trans q))
            exact ⟨e1.trans (e.trans HCC.out.2.2.symm), e2, e3, e4⟩
          clear HCC hz0
          go_wp2_with (
            (refine wpList_store_row rfl 27 _ _ rfl g q rfl (congrArg Value.agg hq.symm) 27 _ HNW.out hi6 (by rw [hq]; rfl) h16 ?_
             subst hq
             obtain ⟨W2, hW⟩ : ∃ W, W = V2.setRow g #[.slice x2 l2 f2, .slice y2 k2 h2, .slice z2 o2 p2] := ⟨_, rfl⟩
             have HST := HSV
             rw [← hW] at HST
             rw [← hW]
             have c0 := HST.out.d.c0
             have c1 := HST.out.d.c1
             have c2 := HST.out.d.c2
             have n0 := HST.out.n.c0
             have n1 := HST.out.n.c1
             have n2 := HST.out.n.c2
             clear hW))
          refine (specCopy_any _ _ _ L S O W2 (HAL.out W2 HST.out.bel) HN.out).mono ?_
          rintro e wc ⟨x, y, z, rfl, hr, _, hBc⟩
          obtain ⟨b1, d1, b2, d2, b3, d3, ex, ey, ez⟩ := hr.slices
          obtain ⟨m1, hm1⟩ : ∃ m, m = L.length := ⟨_, rfl⟩
          obtain ⟨m2, hm2⟩ : ∃ m, m = S.length := ⟨_, rfl⟩
          obtain ⟨m3, hm3⟩ : ∃ m, m = O.length := ⟨_, rfl⟩
          rw [← hm1] at ex
          rw [← hm2] at ey
          rw [← hm3] at ez
          subst ex ey ez
          have HRR : Hid (RdD wc (.slice b1 m1 d1) (.slice b2 m2 d2) (.slice b3 m3 d3) L S O) := hr
          have HBC : Hid (Below w.heap.size w wc) := HST.out.bel.trans (hBc.mono HST.out.bel.size)
          have HR3 : Hid (At3 wc (w.heap.size + 1) 27 (.slice none 0 0) (.slice none 0 0) (.slice none 0 0)) := HST.out.r.below hBc
          obtain ⟨q, hq, hi6, ho6, h16⟩ := row3 b1 b2 b3 m1 d1 m2 d2 m3 d3
          clear hr hBc hm1 hm2 hm3 c0 c1 c2 n0 n1 n2
          go_wp2_with (refine wpList_store_row rfl 27 _ _ rfl (w.heap.size + 1) q rfl (congrArg Value.agg hq.symm) 27 _ HR3.out hi6 ho6 h16 ?_)
          subst hq
          refine bodyPost_ret (v := .tuple #[.agg #[.slice b1 m1 d1, .slice b2 m2 d2, .slice b3 m3 d3], _]) (results_row_tmp rfl _ _ (w.heap.size + 1) 27 _ _ _ rfl (setRow_heap _ _ _ _ _ _ HR3.out) Try.underlying27 rfl hi6) rfl ⟨_, _, _, ret_val (by rw [HBAD.out.1]; rfl), ?_, ?_⟩
          · rw [HBAD.out.2.1, HBAD.out.2.2.1, HBAD.out.2.2.2]
            exact HRR.out.row HR3.out _
          · exact below_setRow HBC.out (by omega) _
      · have hcb : ((C1 : Int) == 0) = false := by
          cases hb : ((C1 : Int) == 0) with
          | false => rfl
          | true => exact absurd (by have := eq_of_beq hb; omega) hz0
        have HBAD : Hid (rpC L S O nm dt = C1 ∧ rpL L S O nm dt = L ∧ rpS L S O = S ∧ rpO L S O nm dt = O) := by
          have e := HRA.out.bad (fun q => hz0 (HCC.out.2.2.trans q))
          obtain ⟨e1, e2, e3, e4⟩ := rp_bad (nm := nm) (dt := dt) HDK.out (by rw [e]; exact fun q => hz0 (HCC.out.2.2.trans q))
          exact ⟨e1.trans (e.trans HCC.out.2.2.symm), e2, e3, e4⟩
        clear HCC hz0
        go_wp2_with (
          (refine wpList_store_row rfl 27 _ _ rfl g q rfl (congrArg Value.agg hq.symm) 27 _ HNW.out hi6 (by rw [hq]; rfl) h16 ?_
           subst hq
           obtain ⟨W1, hW⟩ : ∃ W, W = V1.setRow g #[.slice x1 l1 f1, .slice y1 k1 h1, .slice z1 o1 p1] := ⟨_, rfl⟩
           have HST := HSV
           rw [← hW] at HST
           rw [← hW]
           have c0 := HST.out.d.c0
           have c1 := HST.out.d.c1
           have c2 := HST.out.d.c2
           have n0 := HST.out.n.c0
           have n1 := HST.out.n.c1
           have n2 := HST.out.n.c2
           clear hW))
        refine (specCopy_any _ _ _ L S O W1 (HAL.out W1 HST.out.bel) HN.out).mono ?_
        rintro e wc ⟨x, y, z, rfl, hr, _, hBc⟩
        obtain ⟨b1, d1, b2, d2, b3, d3, ex, ey, ez⟩ := hr.slices
        obtain ⟨m1, hm1⟩ : ∃ m, m = L.length := ⟨_, rfl⟩
        obtain ⟨m2, hm2⟩ : ∃ m, m = S.length := ⟨_, rfl⟩
        obtain ⟨m3, hm3⟩ : ∃ m, m = O.length := ⟨_, rfl⟩
        rw [← hm1] at ex
        rw [← hm2] at ey
        rw [← hm3] at ez
        subst ex ey ez
        have HRR : Hid (RdD wc (.slice b1 m1 d1) (.slice b2 m2 d2) (.slice b3 m3 d3) L S O) := hr
        have HBC : Hid (Below w.heap.size w wc) := HST.out.bel.trans (hBc.mono HST.out.bel.size)
        have HR3 : Hid (At3 wc (w.heap.size + 1) 27 (.slice none 0 0) (.slice none 0 0) (.slice none 0 0)) := HST.out.r.below hBc
        obtain ⟨q, hq, hi6, ho6, h16⟩ := row3 b1 b2 b3 m1 d1 m2 d2 m3 d3
        clear hr hBc hm1 hm2 hm3 c0 c1 c2 n0 n1 n2
        go_wp2_with (refine wpList_store_row rfl 27 _ _ rfl (w.heap.size + 1) q rfl (congrArg Value.agg hq.symm) 27 _ HR3.out hi6 ho6 h16 ?_)
        subst hq
        refine bodyPost_ret (v := .tuple #[.agg #[.slice b1 m1 d1, .slice b2 m2 d2, .slice b3 m3 d3], _]) (results_row_tmp rfl _ _ (w.heap.size + 1) 27 _ _ _ rfl (setRow_heap _ _ _ _ _ _ HR3.out) Try.underlying27 rfl hi6) rfl ⟨_, _, _, ret_val (by rw [HBAD.out.1]; rfl), ?_, ?_⟩
        · rw [HBAD.out.2.1, HBAD.out.2.2.1, HBAD.out.2.2.2]
          exact HRR.out.row HR3.out _
        · exact below_setRow HBC.out (by omega) _
end Go.Proofs.Ytbohaefmokbgbaa

namespace Go.Proofs.Ytbohaefmokbgbaa
open Go.RowKit
set_option linter.unusedVariables false

theorem run_copy_row4 (w : World) (ty : TypeId) (g o dLen dCap : Nat) (a : Addr) (sLen sCap : Nat) (cur : Array Value) (t : TypeId) (cs : List Value)
    (hg : w.heap[g]? = some (.cells cur t (0, 0))) (hn : cs.length = Nat.min sLen dLen * 4)
    (hsrc : ∀ j v, cs[j]? = some v → w.cell? (a.add j) = some v) (hfit : o + cs.length ≤ cur.size) (h1 : ∀ v ∈ cs, v.oneCell' = true) :
    (Builtin.copy_ #[25, 25] ty #[.slice (some ⟨g, o, none⟩) dLen dCap, .slice (some a) sLen sCap]).run Try.prog w =
      .ok (goInt (Nat.min sLen dLen)) (w.setRow g (cur.toList.take o ++ cs ++ cur.toList.drop (o + cs.length)).toArray) := by
  obtain ⟨i0, hi, hz0, hz1, hz2⟩ := info_parts infoDOpT
  have hl := run_loadCells_list (P := Try.prog) w a cs hsrc
  have hst := run_storeCells_at Try.prog g o t cs 0 cur w hg (by simpa using hfit) h1
  simp [Builtin.copy_, run_underlying Try.underlying25, Builtin.lenOf, Builtin.firstCells, sizeOf, typeInfo, hi, hz1, ← hn, hl, hst]

theorem wp_copyR (w : World) {o : Oper} {a : Act} {K : Act → World → Prop} {Q : Exit → Act → World → Prop} (d s : Operand) (t t' : TypeId)
    (ho : o.op = .call { callee := .builtin .copy, args := #[d, s], argTypes := #[t, t'] }) (v u : Value) (hd : a.eval d = v) (hs : a.eval s = u) {v' : Value} {w' : World}
    (hr : (Builtin.copy_ #[t, t'] o.type #[v, u]).run Try.prog w = .ok v' w') (h : K (a.put o.dst v') w') : o.wp Try.prog a w K Q := by
  unfold Oper.wp execOp
  simp only [ho, resolve, invoke, builtin, Sem.run_bind, Sem.run_pure, Result.andThen_ok, List.map_toArray, List.map_cons, List.map_nil, hd, hs, hr]
  exact h
theorem wpList_copyR (w : World) {ops : Array Oper} {rest : List Oper} {o : Oper} {a : Act} {Q : Exit → Act → World → Prop} (hgd : o.guard = none) (d s : Operand) (t t' : TypeId)
    (ho : o.op = .call { callee := .builtin .copy, args := #[d, s], argTypes := #[t, t'] }) (v u : Value) (hd : a.eval d = v) (hs : a.eval s = u) {v' : Value} {w' : World}
    (hr : (Builtin.copy_ #[t, t'] o.type #[v, u]).run Try.prog w = .ok v' w') (h : wpList Try.prog ops Q rest (a.put o.dst v') w') : wpList Try.prog ops Q (o :: rest) a w :=
  wpList_plain hgd fun _ hK => wp_copyR w d s t t' ho v u hd hs hr (hK _ _ h)
theorem step_copyR {ops : Array Oper} {o : Oper} {a : Act} {w : World} {K : Act → World → Prop} {Q : Exit → Act → World → Prop} {E : Prop}
    (hg : o.guard = none) (d x : Operand) (dT sT : TypeId) (hop : o.op = Op.call { callee := Callee.builtin Builtin.copy, args := #[d, x], argTypes := #[dT, sT] })
    (v u : Value) (hd : a.eval d = v) (hx : a.eval x = u) {v' : Value} {w' : World} (hr : (Builtin.copy_ #[dT, sT] o.type #[v, u]).run Try.prog w = .ok v' w') (hK : K (a.put o.dst v') w') :
    if Region.wanted o (yielded ops a.tmps) = true then Oper.wp Try.prog o a w K Q else E := by
  have hw : Region.wanted o (yielded ops a.tmps) = true := by simp [Region.wanted, hg]
  rw [if_pos hw]
  unfold Oper.wp
  simp [execOp, hop, resolve, invoke, builtin, hd, hx, hr, Result.andThen]
  exact hK
theorem encO_len (o : Dop) : (encO o).toList.length = 4 := rfl
theorem encO_one (o : Dop) : ∀ v ∈ (encO o).toList, v.oneCell' = true := fun v hv => by
  simp [encO] at hv
  rcases hv with rfl | rfl | rfl | rfl <;> rfl

set_option maxHeartbeats 4000000 in
set_option maxRecDepth 100000 in
theorem insert_ops (b vb : Nat) (o1 o2 o3 : Dop) (w : World) (hb : w.heap[b]? = some (.cells (encO o1 ++ encO o2) 49 (0, 0))) (hv : w.heap[vb]? = some (.cells (encO o3) 49 (0, 0))) :
    Calls Try.prog 33 #[.slice (some ⟨b, 0, none⟩) 2 2, .int .i64 0, .slice (some ⟨vb, 0, none⟩) 1 1] w fun e w' => ∃ v, e = .returned v ∧ RdO w' v [o3, o1, o2] ∧ Below w.heap.size w w' := by
  obtain ⟨i0, hi0, hz0, hzs, hzb⟩ := info_parts infoDOpT
  have hbw : b < w.heap.size := lt_of_block hb
  have hvw : vb < w.heap.size := lt_of_block hv
  obtain ⟨N, hN⟩ : ∃ N, N = w.heap.size := ⟨_, rfl⟩
  have hold : (Builtin.firstCells i0.size 0 (.slice (some ⟨b, 0, none⟩) 0 2)).run Try.prog w.drew = .ok ([] : List Value).toArray w.drew := by
    rw [hzs]
    exact run_firstCells_some w.drew 4 0 ⟨b, 0, none⟩ 0 2 [] (by simp) (fun j v hj => by simp at hj)
  have hrz : ∀ ty, ∃ (G : Nat) (R0 : List Value), 3 ≤ G ∧ G ≤ 9223372036854775807 ∧ R0.length = G * 4 ∧ (Builtin.append_ #[25, 3] ty #[.slice (some ⟨b, 0, none⟩) 0 2, .int .i64 3]).run Try.prog w = .ok (.slice (some ⟨N, 0, none⟩) 3 G) (w.drew.alloc (.cells R0.toArray 49)) := fun ty => by
    have h := Lib.run_append_grow_zeros w 25 3 ty 49 i0 _ .i64 .i64 Try.underlying25 Try.underlying3 hi0 hz0 (some ⟨b, 0, none⟩) 0 2 [] hold 3 (by omega) (by omega) (by omega) (by omega) (by rw [hzb]; omega) (by rw [hzb]; exact growslice_fits (by omega) (by omega))
    rw [hN]
    refine ⟨_, (([] : List Value).toArray ++ Builtin.zeroCells _ 3 ++ Builtin.zeroCells _ (grownCap w (0 + 3) 2 49 - (0 + 3))).toList, grownCap_ge w _ _ _, ?_, ?_, by rw [Array.toArray_toList]; exact h⟩
    · have := grownCap_le_maxLen w (0 + 3) 2 49 (by unfold maxLen; omega)
      unfold maxLen at this
      exact this
    · have := grownCap_ge w (0 + 3) 2 49
      rw [Array.length_toList]
      simp [Builtin.zeroCells, Value.cells] at this ⊢
      omega
  obtain ⟨G, R0, hG3, hGm, hR0, hrz⟩ := hrz 25
  obtain ⟨W1, hW1⟩ : ∃ W1, W1 = w.drew.alloc (.cells R0.toArray 49) := ⟨_, rfl⟩
  rw [← hW1] at hrz
  have g1 : W1.heap[N]? = some (.cells R0.toArray 49 (0, 0)) := by rw [hW1, hN]; exact heap_alloc_new w.drew _
  have gb : ∀ k, k < N → W1.heap[k]? = w.heap[k]? := fun k hk => by rw [hW1]; exact Below.heap_alloc w.drew _ _ (show k < w.heap.size by omega)
  have hW1s : W1.heap.size = N + 1 := by rw [hW1, hN]; simp
  obtain ⟨R1, hR1⟩ : ∃ R1, R1 = R0.toArray.toList.take 0 ++ (encO o3).toList ++ R0.toArray.toList.drop (0 + (encO o3).toList.length) := ⟨_, rfl⟩
  obtain ⟨W2, hW2⟩ : ∃ W2, W2 = W1.setRow N R1.toArray := ⟨_, rfl⟩
  have hcA : ∀ ty, (Builtin.copy_ #[25, 25] ty #[.slice (some ⟨N, 0, none⟩) 3 G, .slice (some ⟨vb, 0, none⟩) 1 1]).run Try.prog W1 = .ok (goInt 1) W2 := fun ty => by
    have h := run_copy_row4 W1 ty N 0 3 G ⟨vb, 0, none⟩ 1 1 R0.toArray 49 (encO o3).toList g1 rfl (fun j v hj => by
      have e : W1.cell? ⟨vb, 0 + j, none⟩ = (encO o3)[0 + j]? := cellN ((gb vb (by omega)).trans hv)
      rw [Addr.add_lit, e, Nat.zero_add, ← hj]
      simp) (by rw [encO_len]; simp; omega) (encO_one o3)
    rw [← hR1, ← hW2] at h
    exact h
  have g2 : W2.heap[N]? = some (.cells R1.toArray 49 (0, 0)) := by rw [hW2]; exact setRow_heap _ _ _ _ _ _ g1
  have gb2 : ∀ k, k < N → W2.heap[k]? = w.heap[k]? := fun k hk => by rw [hW2, setRow_other _ _ _ _ (by omega)]; exact gb k hk
  have hR1l : R1.length = G * 4 := by
    have e3 : (encO o3).size = 4 := rfl
    rw [hR1]
    simp
    omega
  obtain ⟨R2, hR2⟩ : ∃ R2, R2 = R1.toArray.toList.take 4 ++ (encO o1 ++ encO o2).toList ++ R1.toArray.toList.drop (4 + (encO o1 ++ encO o2).toList.length) := ⟨_, rfl⟩
  obtain ⟨W3, hW3⟩ : ∃ W3, W3 = W2.drew.setRow N R2.toArray := ⟨_, rfl⟩
  have hcB : ∀ ty c1 c2, (Builtin.copy_ #[25, 25] ty #[.slice (some ⟨N, 4, none⟩) 2 c1, .slice (some ⟨b, 0, none⟩) 2 c2]).run Try.prog W2.drew = .ok (goInt 2) W3 := fun ty c1 c2 => by
    have h := run_copy_row4 W2.drew ty N 4 2 c1 ⟨b, 0, none⟩ 2 c2 R1.toArray 49 (encO o1 ++ encO o2).toList g2 rfl (fun j v hj => by
      have e : W2.drew.cell? ⟨b, 0 + j, none⟩ = (encO o1 ++ encO o2)[0 + j]? := cellN (show W2.drew.heap[b]? = _ from (gb2 b (by omega)).trans hb)
      rw [Addr.add_lit, e, Nat.zero_add, ← hj, Array.getElem?_toList]) (by
        have : (encO o1 ++ encO o2).toList.length = 8 := rfl
        rw [this]; simp; omega) (fun v hv => by
        rw [Array.toList_append] at hv
        rcases List.mem_append.1 hv with h | h
        · exact encO_one o1 v h
        · exact encO_one o2 v h)
    rw [← hR2, ← hW3] at h
    exact h
  have g3 : W3.heap[N]? = some (.cells R2.toArray 49 (0, 0)) := by rw [hW3]; exact setRow_heap W2.drew _ _ _ _ _ g2
  have HE : Hid (∀ c, 3 ≤ c → c ≤ 9223372036854775807 → RdO W3 (.slice (some ⟨N, 0, none⟩) 3 c) [o3, o1, o2] ∧ Below w.heap.size w W3) := fun c hc hcm => by
    have e1 : R1 = (encO o3).toList ++ R0.drop 4 := by rw [hR1, encO_len]; simp
    have e2 : R2 = (encO o3).toList ++ ((encO o1).toList ++ ((encO o2).toList ++ R1.drop 12)) := by
      rw [hR2]
      have e4 : R1.take 4 = (encO o3).toList := by rw [e1]; exact List.take_left' (encO_len o3)
      have e8 : (encO o1 ++ encO o2).toList.length = 8 := rfl
      rw [e8, List.toList_toArray, e4, Array.toList_append]
      simp
    refine ⟨⟨_, c, rfl, hc, hcm, fun _ => ⟨N, 0, rfl, lt_of_block g3, fun i hi t ht => ?_⟩⟩, ?_⟩
    · have e : W3.cell? ⟨N, 0 + i * 4 + t, none⟩ = R2.toArray[0 + i * 4 + t]? := cellN g3
      rw [e, e2]
      simp only [List.length_cons, List.length_nil] at hi
      match i, hi, t, ht with
      | 0, _, 0, _ => rfl
      | 0, _, 1, _ => rfl
      | 0, _, 2, _ => rfl
      | 0, _, 3, _ => rfl
      | 1, _, 0, _ => rfl
      | 1, _, 1, _ => rfl
      | 1, _, 2, _ => rfl
      | 1, _, 3, _ => rfl
      | 2, _, 0, _ => rfl
      | 2, _, 1, _ => rfl
      | 2, _, 2, _ => rfl
      | 2, _, 3, _ => rfl
    · refine ⟨by rw [hW3, hW2, hW1]; rfl, by rw [hW3, hW2, hW1]; rfl, by rw [hW3, hW2, hW1]; rfl, ?_, fun k hk => ?_⟩
      · have := lt_of_block g3; omega
      · rw [hW3, setRow_other _ _ _ _ (by omega)]; exact gb2 k (by omega)
  have hw1 : IntKind.i64.wrap 1 = 1 := by decide
  have hGi : ¬ (G = 0) := by omega
  have hG1 : ¬ (G = 1) := by omega
  have hG1I : (3 : Int) ≤ (G : Int) := by omega
  have HGM : Hid (3 ≤ G ∧ G ≤ 9223372036854775807) := ⟨hG3, hGm⟩
  clear hold hR0 hR1 hR2 hR1l g1 g2 g3 gb gb2 hW1s hb hv hbw hvw hGm
  have HW1 := (show Hid _ from hW1)
  have HW2 := (show Hid _ from hW2)
  have HW3 := (show Hid _ from hW3)
  have HNN := (show Hid _ from hN)
  clear hW1 hW2 hW3 hN
  go_enter Try.func33, Try.ntmps33
  go_wp2_with (first
    | (at_builtin; refine Lib.wpList_append_run _ rfl _ _ _ _ rfl _ _ rfl rfl _ _ hrz ?_)
    | (at_builtin; refine wpList_copyR _ rfl _ _ 25 25 rfl _ _ rfl rfl (hcA _) ?_))
  go_region_law (refine step_copyR rfl _ _ 25 25 rfl (.slice (some ⟨N, 4, none⟩) 2 (G - 1)) (.slice (some ⟨b, 0, none⟩) 2 2) (by simp [Act.eval, Act.put]) (by simp [Act.eval, Act.put]) (hcB _ _ _) ?_)
  go_wp2
  go_ret
  exact ⟨_, rfl, HE.out _ HGM.out.1 HGM.out.2⟩
end Go.Proofs.Ytbohaefmokbgbaa

namespace Go.Proofs.Ytbohaefmokbgbaa
open Go.RowKit
set_option linter.unusedVariables false

def NzO (z : Value) : Prop := z = .slice none 0 0 ∨ ∃ ad n c, z = .slice (some ad) n c
theorem OwD.nzo {w : World} {base : Nat} {x y z : Value} {a b c : Nat} (h : OwD w base x y z a b c) : NzO z := by
  obtain ⟨xs, h1, h2⟩ := h.o
  rcases h2 with ⟨e, _⟩ | ⟨g, cap, cur, e, _⟩
  · exact .inl e
  · exact .inr ⟨_, _, _, e⟩
/-- where the loop stands ahead of round k -/
structure RiSt (w Wb wr : World) (g : Nat) (L S : List Fl) (O : List Dop) (os : List Dop) (k : Nat) (x y z : Value) (L' : List Fl) (O' : List Dop) : Prop where
  n : At3 wr g 27 x y z
  rd : RdD wr x y z L' S O'
  left : RpAt L O os L' O' (os.drop k)
  bel : Below g Wb wr
  z0 : k = 0 → L' = L ∧ O' = O
  pos : 0 < k → diskB L' S O' = true ∧ diskB L S O = true ∧ OwD wr w.heap.size x y z L'.length S.length O'.length
  nz : NzO z
  sm : SmallD L' S O' ∧ L'.length ≤ 1048576 ∧ S.length ≤ 1048576 ∧ O'.length ≤ 1048576
theorem RiSt.disk {w Wb wr : World} {g : Nat} {L S : List Fl} {O : List Dop} {os : List Dop} {k : Nat} {x y z : Value} {L' : List Fl} {O' : List Dop} (h : RiSt w Wb wr g L S O os k x y z L' O') (hd : diskB L' S O' = true) : diskB L S O = true := by
  rcases Nat.eq_zero_or_pos k with h0 | h0
  · obtain ⟨e1, e2⟩ := h.z0 h0
    rw [← e1, ← e2]
    exact hd
  · exact (h.pos h0).2.1
theorem RiSt.no {w Wb wr : World} {g : Nat} {L S : List Fl} {O : List Dop} {os : List Dop} {k : Nat} {x y z : Value} {L' : List Fl} {O' : List Dop} (h : RiSt w Wb wr g L S O os k x y z L' O') (hd : diskB L' S O' = false) : diskB L S O = false := by
  rcases Nat.eq_zero_or_pos k with h0 | h0
  · obtain ⟨e1, e2⟩ := h.z0 h0
    rw [← e1, ← e2]
    exact hd
  · rw [(h.pos h0).1] at hd
    cases hd
theorem At3.rowAt {w : World} {b g : Nat} {t : TypeId} {x y z u v s : Value} (h : At3 w b t x y z) : At3 (w.setRow b #[u, v, s]) b t u v s := setRow_heap _ _ _ _ _ _ h
theorem drop_cons {os : List Dop} {k : Nat} (h : k < os.length) : os.drop k = os.getD k dopZ :: os.drop (k + 1) := by
  rw [List.drop_eq_getElem_cons h]
  simp [List.getD, h]
theorem rp_small (L : List Fl) (nm dt : ByteArray) (h1 : nm.size ≤ 10000000) (h2 : dt.size ≤ 10000000) : ∀ o ∈ rpOps L nm dt, o.n.size ≤ 100000000 ∧ o.t.size ≤ 100000000 ∧ o.d.size ≤ 100000000 := fun o ho => by
  have hs := rpNew_size nm
  have e : (⟨#[]⟩ : ByteArray).size = 0 := rfl
  unfold rpOps at ho
  rcases List.mem_append.1 ho with h | h
  · split at h
    · simp only [List.mem_cons, List.not_mem_nil, or_false] at h
      subst h
      exact ⟨by show (rpNew nm).size ≤ _; omega, by show (⟨#[]⟩ : ByteArray).size ≤ _; omega, by show (⟨#[]⟩ : ByteArray).size ≤ _; omega⟩
    · cases h
  · simp only [List.mem_cons, List.not_mem_nil, or_false] at h
    rcases h with rfl | rfl
    · exact ⟨by show (rpNew nm).size ≤ _; omega, by show (⟨#[]⟩ : ByteArray).size ≤ _; omega, by show dt.size ≤ _; omega⟩
    · exact ⟨by show (rpNew nm).size ≤ _; omega, by show nm.size ≤ _; omega, by show (⟨#[]⟩ : ByteArray).size ≤ _; omega⟩
theorem rp_len (L : List Fl) (nm dt : ByteArray) : 2 ≤ (rpOps L nm dt).length ∧ (rpOps L nm dt).length ≤ 3 := by
  unfold rpOps
  split <;> simp

set_option maxRecDepth 10000 in
set_option maxHeartbeats 8000000 in
theorem implReplace_any (vL vS vO : Value) (L S : List Fl) (O : List Dop) (nm dt : ByteArray) (w : World) (h : RdD w vL vS vO L S O) (hso : NzO vO) (hz : SmallD L S O) (hn : L.length ≤ 1048576 ∧ S.length ≤ 1048576 ∧ O.length ≤ 1048576) (hnm : nm.size ≤ 10000000) (hdt : dt.size ≤ 10000000) :
    Calls Try.prog 9 #[.agg #[vL, vS, vO], .string nm, .string dt] w fun e w' => ∃ x y z, e = .returned (.tuple #[.agg #[x, y, z], .int .i64 (rpC L S O nm dt : Int)]) ∧ RdD w' x y z (rpL L S O nm dt) (rpS L S O) (rpO L S O nm dt) ∧ OwD w' w.heap.size x y z (rpL L S O nm dt).length (rpS L S O).length (rpO L S O nm dt).length ∧ Below w.heap.size w w' := by
  have HN : Hid (L.length ≤ 1048576 ∧ S.length ≤ 1048576 ∧ O.length ≤ 1048576) := hn
  have HZ : Hid (SmallD L S O) := hz
  have HNZ : Hid (NzO vO) := hso
  have HA : Hid (∀ w', Below w.heap.size w w' → RdD w' vL vS vO L S O) := fun w' hB => h.below hB
  obtain ⟨fr, hfr⟩ : ∃ fr, fr = rpNew nm := ⟨_, rfl⟩
  have hadd : ∀ w' : World, (Op.stringOp .add nm (⟨#[46, 110, 101, 119]⟩ : ByteArray)).run Try.prog w' = .ok (.string fr) w' := fun w' => by
    rw [hfr]
    exact add_ok (by have : (⟨#[46, 110, 101, 119]⟩ : ByteArray).size = 4 := rfl; omega) w'
  have HFR : Hid (fr = rpNew nm) := hfr
  have HSM : Hid (∀ M, ∀ o ∈ rpOps M nm dt, o.n.size ≤ 100000000 ∧ o.t.size ≤ 100000000 ∧ o.d.size ≤ 100000000) := fun M => rp_small M nm dt hnm hdt
  obtain ⟨aL, cL, eL⟩ := h.1.slice
  obtain ⟨nL, hnL⟩ : ∃ n, n = L.length := ⟨_, rfl⟩
  rw [← hnL] at eL
  obtain ⟨aS, cS, eS⟩ := h.2.1.slice
  obtain ⟨nS, hnS⟩ : ∃ n, n = S.length := ⟨_, rfl⟩
  rw [← hnS] at eS
  obtain ⟨aO, cO, eO⟩ := h.2.2.slice
  obtain ⟨nO, hnO⟩ : ∃ n, n = O.length := ⟨_, rfl⟩
  rw [← hnO] at eO
  subst eL eS eO
  obtain ⟨X, hX⟩ : ∃ X, X = ((w.alloc (.cells #[.slice aL nL cL, .slice aS nS cS, .slice aO nO cO] 27)).alloc (.cells #[.slice none 0 0, .slice none 0 0, .slice none 0 0] 27)).alloc (.cells #[.int .i64 1, .string fr, .string ⟨#[]⟩, .string dt, .int .i64 2, .string fr, .string nm, .string ⟨#[]⟩] 49) := ⟨_, rfl⟩
  have hBX : Below w.heap.size w X := by rw [hX]; exact (((Below.refl _ _).alloc (Nat.le_refl _) _).alloc (by simp) _).alloc (by simp; omega) _
  have gX : X.heap[w.heap.size]? = some (.cells #[.slice aL nL cL, .slice aS nS cS, .slice aO nO cO] 27 (0, 0)) := by rw [hX, Below.heap_alloc _ _ _ (by simp; omega), Below.heap_alloc _ _ _ (by simp)]; exact heap_alloc_new _ _
  have gR : X.heap[w.heap.size + 1]? = some (.cells #[.slice none 0 0, .slice none 0 0, .slice none 0 0] 27 (0, 0)) := by
    rw [hX, Below.heap_alloc _ _ _ (by simp)]
    have := heap_alloc_new (w.alloc (.cells #[.slice aL nL cL, .slice aS nS cS, .slice aO nO cO] 27)) (.cells #[.slice none 0 0, .slice none 0 0, .slice none 0 0] 27)
    simpa using this
  have gP : X.heap[w.heap.size + 1 + 1]? = some (.cells #[.int .i64 1, .string fr, .string ⟨#[]⟩, .string dt, .int .i64 2, .string fr, .string nm, .string ⟨#[]⟩] 49 (0, 0)) := by
    rw [hX]
    have := heap_alloc_new ((w.alloc (.cells #[.slice aL nL cL, .slice aS nS cS, .slice aO nO cO] 27)).alloc (.cells #[.slice none 0 0, .slice none 0 0, .slice none 0 0] 27)) (.cells #[.int .i64 1, .string fr, .string ⟨#[]⟩, .string dt, .int .i64 2, .string fr, .string nm, .string ⟨#[]⟩] 49)
    simpa using this
  have HX := (show Hid _ from hX)
  have HBX : Hid (Below w.heap.size w X) := hBX
  have HG : Hid (∀ w', Below X.heap.size X w' → At3 w' w.heap.size 27 (.slice aL nL cL) (.slice aS nS cS) (.slice aO nO cO) ∧ At3 w' (w.heap.size + 1) 27 (.slice none 0 0) (.slice none 0 0) (.slice none 0 0) ∧ w'.heap[w.heap.size + 1 + 1]? = some (.cells #[.int .i64 1, .string fr, .string ⟨#[]⟩, .string dt, .int .i64 2, .string fr, .string nm, .string ⟨#[]⟩] 49 (0, 0)) ∧ Below w.heap.size w w' ∧ w.heap.size + 1 + 1 < w'.heap.size) := fun w' hB => ⟨(hB.block _ (lt_of_block gX)).trans gX, (hB.block _ (lt_of_block gR)).trans gR, (hB.block _ (lt_of_block gP)).trans gP, hBX.trans (hB.mono hBX.size), Nat.lt_of_lt_of_le (lt_of_block gP) hB.size⟩
  have c0 : X.cell? ⟨w.heap.size, 0, none⟩ = some (.slice aL nL cL) := cellN gX
  have c1 : X.cell? ⟨w.heap.size, 1, none⟩ = some (.slice aS nS cS) := cellN gX
  have c2 : X.cell? ⟨w.heap.size, 2, none⟩ = some (.slice aO nO cO) := cellN gX
  rw [hX] at c0 c1 c2
  clear hX hBX gX gR gP h hz hn hso hnm hdt hnL hnS hnO hfr
  go_enter Try.func9, Try.ntmps9
  go_wp2_with fail
  rw [← HX.out]
  have hAX := HA.out X HBX.out
  refine (implRead_any _ _ _ L S O fr X hAX.1 hAX.2.1 hAX.2.2 HZ.out).mono ?_
  rintro e w1 ⟨rfl, hB1⟩
  have HB1 : Hid (Below X.heap.size X w1) := hB1
  clear c0 c1 c2 HX hB1 hAX
  obtain ⟨rr, hrr⟩ : ∃ r, r = rdB L S O fr := ⟨_, rfl⟩
  rw [← hrr]
  clear hrr
  cases hok : rdOk L S O fr with
  | false =>
    obtain ⟨os, hos⟩ : ∃ os, os = rpOps [] nm dt := ⟨_, rfl⟩
    have HOSM : Hid (∀ o ∈ os, o.n.size ≤ 100000000 ∧ o.t.size ≤ 100000000 ∧ o.d.size ≤ 100000000) := by rw [hos]; exact HSM.out []
    have hop : os = [⟨1, fr, ⟨#[]⟩, dt⟩, ⟨2, fr, nm, ⟨#[]⟩⟩] := by
      rw [hos, HFR.out]
      exact rpOps_none rfl
    have HEQ : Hid (diskB L S O = true → os = rpOps L nm dt) := fun hd => by
      unfold rdOk at hok
      rw [if_pos hd, HFR.out] at hok
      have hgn : getF L (rpNew nm) = none := by
        cases hq : getF L (rpNew nm) with
        | none => rfl
        | some x => rw [hq] at hok; cases hok
      rw [hos, rpOps_none hgn]
      exact rpOps_none rfl
    have HLN : Hid (os.length = 2) := by show _ = _; rw [hop]; rfl
    have HPB : Hid (w.heap.size + 1 + 1 < w1.heap.size ∧ ∀ i, i < 2 → ∀ t, t < 4 → w1.cell? ⟨w.heap.size + 1 + 1, 0 + i * 4 + t, none⟩ = (encO (os.getD i dopZ))[t]?) := by
      have hh := HG.out w1 HB1.out
      refine ⟨hh.2.2.2.2, fun i hi t ht => ?_⟩
      rw [cellN hh.2.2.1, hop]
      match i, hi, t, ht with
      | 0, _, 0, _ => rfl
      | 0, _, 1, _ => rfl
      | 0, _, 2, _ => rfl
      | 0, _, 3, _ => rfl
      | 1, _, 0, _ => rfl
      | 1, _, 1, _ => rfl
      | 1, _, 2, _ => rfl
      | 1, _, 3, _ => rfl
    have HBW : Hid (Below X.heap.size X w1) := HB1.out
    clear hok hop hos
    obtain ⟨g, hgg⟩ : ∃ g, g = w1.heap.size := ⟨_, rfl⟩
    have hBWb : Below X.heap.size X w1 := HBW.out
    obtain ⟨Y, hY⟩ : ∃ Y, Y = w1.alloc (.cells #[.slice aL nL cL, .slice aS nS cS, .slice aO nO cO] 27) := ⟨_, rfl⟩
    have hBY : Below w1.heap.size w1 Y := by rw [hY]; exact (Below.refl _ _).alloc (Nat.le_refl _) _
    have HGB : Hid (∀ W', Below g w1 W' → At3 W' w.heap.size 27 (.slice aL nL cL) (.slice aS nS cS) (.slice aO nO cO) ∧ At3 W' (w.heap.size + 1) 27 (.slice none 0 0) (.slice none 0 0) (.slice none 0 0) ∧ Below w.heap.size w W' ∧ w.heap.size + 1 + 1 < g ∧ RdD W' (.slice aL nL cL) (.slice aS nS cS) (.slice aO nO cO) L S O) := fun W' hB => by
      rw [hgg] at hB
      have hh := HG.out W' (hBWb.trans (hB.mono hBWb.size))
      exact ⟨hh.1, hh.2.1, hh.2.2.2.1, by rw [hgg]; exact (HG.out _ hBWb).2.2.2.2, HA.out W' hh.2.2.2.1⟩
    have HOC : Hid (∀ W', Below g w1 W' → ∀ i, i < 2 → ∀ t, t < 4 → W'.cell? ⟨w.heap.size + 1 + 1, 0 + i * 4 + t, none⟩ = (encO ((os).getD i dopZ))[t]?) := fun W' hB i hi t ht => by
      rw [hgg] at hB
      exact (hB.cell (p := ⟨w.heap.size + 1 + 1, 0 + i * 4 + t, none⟩) HPB.out.1).trans (HPB.out.2 i hi t ht)
    have HS0 : Hid (RiSt w w1 Y g L S O (os) 0 (.slice aL nL cL) (.slice aS nS cS) (.slice aO nO cO) L O) := by
      have hbY : Below g w1 Y := by rw [hgg]; exact hBY
      have hh := HGB.out Y hbY
      exact ⟨by rw [hY, hgg]; exact At3.new _ _ _ _ _, hh.2.2.2.2, ⟨rfl, rfl, rfl⟩, hbY, fun _ => ⟨rfl, rfl⟩, fun q => absurd q (Nat.lt_irrefl _), HNZ.out, HZ.out, HN.out⟩
    have hh := HGB.out w1 (Below.refl _ _)
    have c0 := hh.1.c0
    have c1 := hh.1.c1
    have c2 := hh.1.c2
    have HY : Hid (Y = w1.alloc (.cells #[.slice aL nL cL, .slice aS nS cS, .slice aO nO cO] 27)) := hY
    have HGG : Hid (g = w1.heap.size) := hgg
    clear hY hBY hgg hBWb hh
    go_wp2
    rw [← HY.out, ← HGG.out]
    clear c0 c1 c2
    go_loopw [41] (fun i wr => ∃ (k : Nat), k ≤ 2 ∧ i = .int .i64 k ∧ Hid (∃ x y z L' O', RiSt w w1 wr g L S O (os) k x y z L' O')) (fun i _ => 2 - (intOf i).toNat)
    case atStart => exact ⟨0, Nat.zero_le _, rfl, _, _, _, _, _, HS0.out⟩
    case round =>
      obtain ⟨k, hk, rfl, HI⟩ := hrel
      obtain ⟨x, y, z, L', O', hR⟩ := HI.out
      obtain ⟨xa, xc, ya, yc, za, zc, ex, ey, ez⟩ := hR.rd.slices
      obtain ⟨xn, hxn⟩ : ∃ m, m = L'.length := ⟨_, rfl⟩
      obtain ⟨yn, hyn⟩ : ∃ m, m = S.length := ⟨_, rfl⟩
      obtain ⟨zn, hzn⟩ : ∃ m, m = O'.length := ⟨_, rfl⟩
      rw [← hxn] at ex
      rw [← hyn] at ey
      rw [← hzn] at ez
      subst ex ey ez
      have HR : Hid (RiSt w w1 wr g L S O (os) k (.slice xa xn xc) (.slice ya yn yc) (.slice za zn zc) L' O') := hR
      have n0 := hR.n.c0
      have n1 := hR.n.c1
      have n2 := hR.n.c2
      clear HI hR hxn hyn hzn
      by_cases hlt : k < 2
      · have hltI : (k : Int) < (2 : Int) := by omega
        obtain ⟨o, ho⟩ : ∃ o, o = (os).getD k dopZ := ⟨_, rfl⟩
        have d0 := HOC.out wr HR.out.bel k hlt 0 (by omega)
        have d1 := HOC.out wr HR.out.bel k hlt 1 (by omega)
        have d2 := HOC.out wr HR.out.bel k hlt 2 (by omega)
        have d3 := HOC.out wr HR.out.bel k hlt 3 (by omega)
        rw [← ho] at d0 d1 d2 d3
        have d0' : wr.cell? ⟨w.heap.size + 1 + 1, k * 4, none⟩ = some (.int .i64 o.k) := by rw [Nat.zero_add] at d0; exact d0
        have d1' : wr.cell? ⟨w.heap.size + 1 + 1, k * 4 + 1, none⟩ = some (.string o.n) := by rw [Nat.zero_add] at d1; exact d1
        have d2' : wr.cell? ⟨w.heap.size + 1 + 1, k * 4 + 2, none⟩ = some (.string o.t) := by rw [Nat.zero_add] at d2; exact d2
        have d3' : wr.cell? ⟨w.heap.size + 1 + 1, k * 4 + 3, none⟩ = some (.string o.d) := by rw [Nat.zero_add] at d3; exact d3
        have hkl : k < (os).length := by rw [HLN.out]; exact hlt
        have HOS : Hid (o.n.size ≤ 100000000 ∧ o.t.size ≤ 100000000 ∧ o.d.size ≤ 100000000) := HOSM.out o (by rw [ho]; exact getD_mem hkl)
        have HDR : Hid (RpAt L O (os) L' O' (o :: (os).drop (k + 1))) := by
          have := HR.out.left
          rw [drop_cons hkl, ← ho] at this
          exact this
        obtain ⟨Z, hZ⟩ : ∃ Z, Z = wr.alloc (.cells #[.int .i64 o.k, .string o.n, .string o.t, .string o.d] 49) := ⟨_, rfl⟩
        have HZZ : Hid (Z = wr.alloc (.cells #[.int .i64 o.k, .string o.n, .string o.t, .string o.d] 49)) := hZ
        have hBZ : Below wr.heap.size wr Z := by rw [hZ]; exact (Below.refl _ _).alloc (Nat.le_refl _) _
        have HBZ : Hid (Below wr.heap.size wr Z) := hBZ
        have m0 : Z.cell? ⟨g, 0, none⟩ = some (.slice xa xn xc) := (HR.out.n.below hBZ).c0
        have m1 : Z.cell? ⟨g, 1, none⟩ = some (.slice ya yn yc) := (HR.out.n.below hBZ).c1
        have m2 : Z.cell? ⟨g, 2, none⟩ = some (.slice za zn zc) := (HR.out.n.below hBZ).c2
        rw [hZ] at m0 m1 m2
        clear d0 d1 d2 d3 ho hkl hZ hBZ
        go_wp2_with fail
        rw [← HZZ.out]
        have hgw : g ≤ wr.heap.size := Nat.le_of_lt HR.out.n.lt
        refine (implAct2_any _ _ _ L' S O' o Z (HR.out.rd.below HBZ.out) HR.out.nz HR.out.sm.1 HR.out.sm.2 HOS.out).mono ?_
        rintro e V ⟨x1, y1, z1, rfl, hr, hOw, hBv⟩
        obtain ⟨ua, uc, va, vc, ta, tc, ex, ey, ez⟩ := hr.slices
        obtain ⟨L1, hL1⟩ : ∃ Q, Q = dL L' S O' o := ⟨_, rfl⟩
        obtain ⟨S1, hS1⟩ : ∃ Q, Q = dS L' S O' := ⟨_, rfl⟩
        obtain ⟨O1, hO1⟩ : ∃ Q, Q = dO L' S O' o := ⟨_, rfl⟩
        obtain ⟨C, hC⟩ : ∃ Q, Q = dC L' S O' o := ⟨_, rfl⟩
        rw [← hL1] at hr ex hOw
        rw [← hS1] at hr ey hOw
        rw [← hO1] at hr ez hOw
        rw [← hC]
        obtain ⟨un, hun⟩ : ∃ m, m = L1.length := ⟨_, rfl⟩
        obtain ⟨vn, hvn⟩ : ∃ m, m = S1.length := ⟨_, rfl⟩
        obtain ⟨tn, htn⟩ : ∃ m, m = O1.length := ⟨_, rfl⟩
        rw [← hun] at ex
        rw [← hvn] at ey
        rw [← htn] at ez
        subst ex ey ez
        have HE1 : Hid (L1 = dL L' S O' o ∧ S1 = dS L' S O' ∧ O1 = dO L' S O' o ∧ C = dC L' S O' o) := ⟨hL1, hS1, hO1, hC⟩
        obtain ⟨U, hU⟩ : ∃ U, U = V.alloc (.cells #[.slice ua un uc, .slice va vn vc, .slice ta tn tc] 27) := ⟨_, rfl⟩
        have hBU : Below V.heap.size V U := by rw [hU]; exact (Below.refl _ _).alloc (Nat.le_refl _) _
        have hBwV : Below wr.heap.size wr V := HBZ.out.trans (hBv.mono HBZ.out.size)
        have hBwU : Below wr.heap.size wr U := hBwV.trans (hBU.mono hBwV.size)
        have HBU : Hid (Below g w1 U) := HR.out.bel.trans (hBwU.mono hgw)
        have HRU : Hid (RdD U (.slice ua un uc) (.slice va vn vc) (.slice ta tn tc) L1 S1 O1) := hr.below hBU
        have HOU : Hid (OwD U wr.heap.size (.slice ua un uc) (.slice va vn vc) (.slice ta tn tc) L1.length S1.length O1.length) := (hOw.below hBU).base HBZ.out.size
        have HNU : Hid (At3 U g 27 (.slice xa xn xc) (.slice ya yn yc) (.slice za zn zc)) := HR.out.n.below hBwU
        have hgU := HGB.out U HBU.out
        have HR3 : Hid (At3 U (w.heap.size + 1) 27 (.slice none 0 0) (.slice none 0 0) (.slice none 0 0)) := hgU.2.1
        have HWR : Hid (w.heap.size ≤ wr.heap.size ∧ w.heap.size + 1 + 1 < g) := ⟨by have := hgU.2.2.2.1; omega, hgU.2.2.2.1⟩
        have e0 := hgU.1.c0
        have e1 := hgU.1.c1
        have e2 := hgU.1.c2
        rw [hU] at e0 e1 e2
        have HU : Hid (U = V.alloc (.cells #[.slice ua un uc, .slice va vn vc, .slice ta tn tc] 27)) := hU
        clear hr hOw hBv hun hvn htn hL1 hS1 hO1 hC hBU hBwV hBwU hgU hgw n0 n1 n2 m0 m1 m2 d0' d1' d2' d3'
        cases hd : diskB L' S O' with
        | false =>
          have hC1 : C = 1 := HE1.out.2.2.2.trans (d_no o hd).1
          have hcb1 : ((C : Int) == 1) = true := by rw [hC1]; rfl
          have HD := (show Hid _ from rp_no nm dt (HR.out.no hd))
          have HC1 : Hid (C = 1) := hC1
          obtain ⟨q, hq, hi6, ho6, h16⟩ := row3 none none none 0 0 0 0 0 0
          have HU3 := HR3.out
          rw [hU] at HU3
          have HR4 : Hid (At3 (V.alloc (.cells #[.slice ua un uc, .slice va vn vc, .slice ta tn tc] 27)) (w.heap.size + 1) 27 (.slice none 0 0) (.slice none 0 0) (.slice none 0 0)) := HU3
          clear hd hC1 hU e0 e1 e2 HU3
          go_wp2_with (refine wpList_store_row rfl 27 _ _ rfl (w.heap.size + 1) q rfl (congrArg Value.agg hq.symm) 27 _ HR4.out hi6 ho6 h16 ?_)
          subst hq
          rw [← HU.out]
          refine bodyPost_ret (v := .tuple #[.agg #[.slice none 0 0, .slice none 0 0, .slice none 0 0], _]) (results_row_tmp rfl _ _ (w.heap.size + 1) 27 _ _ _ rfl (setRow_heap _ _ _ _ _ _ HR3.out) Try.underlying27 rfl hi6) rfl ⟨_, _, _, ret_val (by rw [HD.out.1, ← HC1.out]; rfl), ?_, ?_, ?_⟩
          · rw [HD.out.2.1, HD.out.2.2.1, HD.out.2.2.2]
            exact ⟨(HoldF.nil _ 0).1, (HoldF.nil _ 0).1, (HoldO.nil _ 0).1⟩
          · rw [HD.out.2.1, HD.out.2.2.1, HD.out.2.2.2]
            exact ⟨(HoldF.nil _ _).2, (HoldF.nil _ _).2, (HoldO.nil _ _).2, fun _ hb => by cases hb⟩
          · exact below_setRow (HGB.out U HBU.out).2.2.1 (by omega) _
        | true =>
          have HDL : Hid (diskB L S O = true) := HR.out.disk hd
          obtain ⟨dy0, dy1, dy2, dy3⟩ := d_yes o hd
          have HE2 : Hid (L1 = actL L' O' o ∧ S1 = S ∧ O1 = actO L' O' o ∧ C = actC L' O' o) := ⟨HE1.out.1.trans dy1, HE1.out.2.1.trans dy2, HE1.out.2.2.1.trans dy3, HE1.out.2.2.2.trans dy0⟩
          have hc1 : C ≠ 1 := by rw [HE2.out.2.2.2]; exact actC_ne1 _ _ _
          have hcb1 : ((C : Int) == 1) = false := by
            cases hb : ((C : Int) == 1) with
            | false => rfl
            | true => exact absurd (by have := eq_of_beq hb; omega) hc1
          have HDL' : Hid (diskB L' S O' = true) := hd
          clear hd dy0 dy1 dy2 dy3 hc1 HE1
          by_cases hz0 : C = 0
          · have hcb : ((C : Int) == 0) = true := by rw [hz0]; rfl
            have HC0 : Hid (actC L' O' o = 0) := HE2.out.2.2.2.symm.trans hz0
            obtain ⟨q, hq, hi6, ho6, h16⟩ := row3 ua va ta un uc vn vc tn tc
            have HN3 := HNU.out
            rw [hU] at HN3
            have HN4 : Hid (At3 (V.alloc (.cells #[.slice ua un uc, .slice va vn vc, .slice ta tn tc] 27)) g 27 (.slice xa xn xc) (.slice ya yn yc) (.slice za zn zc)) := HN3
            clear hz0 hU e0 e1 e2 HN3
            go_wp2_with (refine wpList_store_row rfl 27 _ _ rfl g q rfl (congrArg Value.agg hq.symm) 27 _ HN4.out hi6 (by rw [hq]; rfl) h16 ?_)
            subst hq
            rw [← HU.out]
            have HFIN : Hid (RiSt w w1 (U.setRow g #[.slice ua un uc, .slice va vn vc, .slice ta tn tc]) g L S O (os) (k + 1) (.slice ua un uc) (.slice va vn vc) (.slice ta tn tc) L1 O1) := by
              have hdk : diskB L1 S O1 = true := by
                have := act_disk HDL'.out HC0.out
                rw [← HE2.out.1, ← HE2.out.2.2.1] at this
                exact this
              have hrd := HRU.out
              rw [HE2.out.2.1] at hrd
              have hso := HOU.out
              rw [HE2.out.2.1] at hso
              have hst := HDR.out.step HC0.out
              rw [← HE2.out.1, ← HE2.out.2.2.1] at hst
              have hsd := small_disk hdk
              have hf := HWR.out
              exact ⟨HNU.out.rowAt (g := g), hrd.off3 HNU.out _, hst, below_setRow HBU.out (Nat.le_refl _) _, fun q => absurd q (by omega), fun _ => ⟨hdk, HDL.out, (hso.base hf.1).off HNU.out (fun j hj => setRow_other _ _ _ _ hj)⟩, hso.nzo, hsd.1, by omega, by omega, by omega⟩
            go_roundw
            case rel => exact ⟨k + 1, by omega, by go_num, _, _, _, _, _, HFIN.out⟩
            case measure => simp [intOf]; omega
          · have hcb : ((C : Int) == 0) = false := by
              cases hb : ((C : Int) == 0) with
              | false => rfl
              | true => exact absurd (by have := eq_of_beq hb; omega) hz0
            have HBAD : Hid (rpC L S O nm dt = C ∧ rpL L S O nm dt = L ∧ rpS L S O = S ∧ rpO L S O nm dt = O) := by
              have e := HDR.out.bad (fun q => hz0 (HE2.out.2.2.2.trans q))
              rw [HEQ.out HDL.out] at e
              obtain ⟨e1, e2, e3, e4⟩ := rp_bad (nm := nm) (dt := dt) HDL.out (by rw [e]; exact fun q => hz0 (HE2.out.2.2.2.trans q))
              exact ⟨e1.trans (e.trans HE2.out.2.2.2.symm), e2, e3, e4⟩
            clear hz0
            go_wp2_with fail
            rw [← HU.out]
            have hgU := HGB.out U HBU.out
            refine (implCopy_any _ _ _ L S O U hgU.2.2.2.2 HN.out).mono ?_
            rintro e wc ⟨x2, y2, z2, rfl, hr2, ho2, hBc⟩
            obtain ⟨b1, d1, b2, d2, b3, d3, ex, ey, ez⟩ := hr2.slices
            obtain ⟨m1, hm1⟩ : ∃ m, m = L.length := ⟨_, rfl⟩
            obtain ⟨m2, hm2⟩ : ∃ m, m = S.length := ⟨_, rfl⟩
            obtain ⟨m3, hm3⟩ : ∃ m, m = O.length := ⟨_, rfl⟩
            rw [← hm1] at ex
            rw [← hm2] at ey
            rw [← hm3] at ez
            subst ex ey ez
            have HRR : Hid (RdD wc (.slice b1 m1 d1) (.slice b2 m2 d2) (.slice b3 m3 d3) L S O) := hr2
            have HOO : Hid (OwD wc w.heap.size (.slice b1 m1 d1) (.slice b2 m2 d2) (.slice b3 m3 d3) L.length S.length O.length) := ho2.base hgU.2.2.1.size
            have HBC : Hid (Below w.heap.size w wc) := hgU.2.2.1.trans (hBc.mono hgU.2.2.1.size)
            have HR5 : Hid (At3 wc (w.heap.size + 1) 27 (.slice none 0 0) (.slice none 0 0) (.slice none 0 0)) := HR3.out.below hBc
            obtain ⟨q, hq, hi6, ho6, h16⟩ := row3 b1 b2 b3 m1 d1 m2 d2 m3 d3
            clear hr2 ho2 hBc hm1 hm2 hm3 hgU e0 e1 e2 hU
            go_wp2_with (refine wpList_store_row rfl 27 _ _ rfl (w.heap.size + 1) q rfl (congrArg Value.agg hq.symm) 27 _ HR5.out hi6 ho6 h16 ?_)
            subst hq
            refine bodyPost_ret (v := .tuple #[.agg #[.slice b1 m1 d1, .slice b2 m2 d2, .slice b3 m3 d3], _]) (results_row_tmp rfl _ _ (w.heap.size + 1) 27 _ _ _ rfl (setRow_heap _ _ _ _ _ _ HR5.out) Try.underlying27 rfl hi6) rfl ⟨_, _, _, ret_val (by rw [HBAD.out.1]; rfl), ?_, ?_, ?_⟩
            · rw [HBAD.out.2.1, HBAD.out.2.2.1, HBAD.out.2.2.2]
              exact HRR.out.row HR5.out _
            · rw [HBAD.out.2.1, HBAD.out.2.2.1, HBAD.out.2.2.2]
              exact HOO.out.off HR5.out (fun j hj => setRow_other _ _ _ _ hj)
            · exact below_setRow HBC.out (by omega) _
      · have hltI : ¬ (k : Int) < (2 : Int) := by omega
        have hkn : k = 2 := by omega
        obtain ⟨p1, p2, p3⟩ := HR.out.pos (by omega)
        have HGD : Hid (rpC L S O nm dt = 0 ∧ rpL L S O nm dt = L' ∧ rpS L S O = S ∧ rpO L S O nm dt = O') := by
          have hl := HR.out.left
          rw [List.drop_of_length_le (by rw [HLN.out]; omega)] at hl
          rw [HEQ.out p2] at hl
          obtain ⟨e1, e2, e3, e4⟩ := rp_good p2 (hl.1.trans rfl)
          exact ⟨e1, e2.trans hl.2.1, e3, e4.trans hl.2.2⟩
        have HOO : Hid (OwD wr w.heap.size (.slice xa xn xc) (.slice ya yn yc) (.slice za zn zc) L'.length S.length O'.length) := p3
        have hgw := HGB.out wr HR.out.bel
        have HR3 : Hid (At3 wr (w.heap.size + 1) 27 (.slice none 0 0) (.slice none 0 0) (.slice none 0 0)) := hgw.2.1
        have HBC : Hid (Below w.heap.size w wr) := hgw.2.2.1
        obtain ⟨q, hq, hi6, ho6, h16⟩ := row3 xa ya za xn xc yn yc zn zc
        clear hkn p1 p2 p3 hgw
        go_wp2_with (refine wpList_store_row rfl 27 _ _ rfl (w.heap.size + 1) q rfl (congrArg Value.agg hq.symm) 27 _ HR3.out hi6 ho6 h16 ?_)
        subst hq
        refine bodyPost_ret (v := .tuple #[.agg #[.slice xa xn xc, .slice ya yn yc, .slice za zn zc], _]) (results_row_tmp rfl _ _ (w.heap.size + 1) 27 _ _ _ rfl (setRow_heap _ _ _ _ _ _ HR3.out) Try.underlying27 rfl hi6) rfl ⟨_, _, _, ret_val (by rw [HGD.out.1]; rfl), ?_, ?_, ?_⟩
        · rw [HGD.out.2.1, HGD.out.2.2.1, HGD.out.2.2.2]
          exact HR.out.rd.row HR3.out _
        · rw [HGD.out.2.1, HGD.out.2.2.1, HGD.out.2.2.2]
          exact HOO.out.off HR3.out (fun j hj => setRow_other _ _ _ _ hj)
        · exact below_setRow HBC.out (by omega) _
  | true =>
    obtain ⟨os, hos⟩ : ∃ os, os = rpOps L nm dt := ⟨_, rfl⟩
    have HOSM : Hid (∀ o ∈ os, o.n.size ≤ 100000000 ∧ o.t.size ≤ 100000000 ∧ o.d.size ≤ 100000000) := by rw [hos]; exact HSM.out L
    have HEQ : Hid (diskB L S O = true → os = rpOps L nm dt) := fun _ => hos
    have hop : os = [⟨3, fr, ⟨#[]⟩, ⟨#[]⟩⟩, ⟨1, fr, ⟨#[]⟩, dt⟩, ⟨2, fr, nm, ⟨#[]⟩⟩] := by
      rw [hos, HFR.out]
      unfold rdOk at hok
      by_cases hd : diskB L S O = true
      · rw [if_pos hd, HFR.out] at hok
        cases hq : getF L (rpNew nm) with
        | none => rw [hq] at hok; cases hok
        | some x => exact rpOps_some hq
      · rw [if_neg hd] at hok
        cases hok
    have HOP := (show Hid _ from hop)
    have HLN : Hid (os.length = 3) := by show _ = _; rw [hop]; rfl
    obtain ⟨T, hT⟩ : ∃ T, T = w1.alloc (.cells #[.int .i64 3, .string fr, .string ⟨#[]⟩, .string ⟨#[]⟩] 49) := ⟨_, rfl⟩
    have hBT : Below w1.heap.size w1 T := by rw [hT]; exact (Below.refl _ _).alloc (Nat.le_refl _) _
    have gT : T.heap[w1.heap.size]? = some (.cells (encO ⟨3, fr, ⟨#[]⟩, ⟨#[]⟩⟩) 49 (0, 0)) := by rw [hT]; exact heap_alloc_new _ _
    have hBXT : Below X.heap.size X T := HB1.out.trans (hBT.mono HB1.out.size)
    have gO : T.heap[w.heap.size + 1 + 1]? = some (.cells (encO ⟨1, fr, ⟨#[]⟩, dt⟩ ++ encO ⟨2, fr, nm, ⟨#[]⟩⟩) 49 (0, 0)) := (HG.out T hBXT).2.2.1
    have HT : Hid (T = w1.alloc (.cells #[.int .i64 3, .string fr, .string ⟨#[]⟩, .string ⟨#[]⟩] 49)) := hT
    have HGT := (show Hid _ from gT)
    have HGO := (show Hid _ from gO)
    have HBT : Hid (Below X.heap.size X T) := hBXT
    clear hok hop hos hT hBT gT gO hBXT
    go_wp2_with fail
    rw [← HT.out]
    refine (insert_ops _ _ _ _ _ T HGO.out HGT.out).mono ?_
    rintro e w2 ⟨v, rfl, hv, hB2⟩
    have HBW : Hid (Below X.heap.size X w2) := HBT.out.trans (hB2.mono HBT.out.size)
    obtain ⟨a3, c3, rfl, hlc, hcm, h3⟩ := hv
    obtain ⟨pb, po, rfl, hpb, hcell⟩ := h3 (by simp)
    have HPB : Hid (pb < w2.heap.size ∧ ∀ i, i < 3 → ∀ t, t < 4 → w2.cell? ⟨pb, po + i * 4 + t, none⟩ = (encO (os.getD i dopZ))[t]?) := by
      rw [HOP.out]
      exact ⟨hpb, hcell⟩
    have hlc3 : 3 ≤ c3 := hlc
    clear HGO HGT HT HOP hB2 hcell hpb hlc hcm h3
    simp only [List.length_cons, List.length_nil, Nat.reduceAdd]
    obtain ⟨g, hgg⟩ : ∃ g, g = w2.heap.size := ⟨_, rfl⟩
    have hBWb : Below X.heap.size X w2 := HBW.out
    obtain ⟨Y, hY⟩ : ∃ Y, Y = w2.alloc (.cells #[.slice aL nL cL, .slice aS nS cS, .slice aO nO cO] 27) := ⟨_, rfl⟩
    have hBY : Below w2.heap.size w2 Y := by rw [hY]; exact (Below.refl _ _).alloc (Nat.le_refl _) _
    have HGB : Hid (∀ W', Below g w2 W' → At3 W' w.heap.size 27 (.slice aL nL cL) (.slice aS nS cS) (.slice aO nO cO) ∧ At3 W' (w.heap.size + 1) 27 (.slice none 0 0) (.slice none 0 0) (.slice none 0 0) ∧ Below w.heap.size w W' ∧ w.heap.size + 1 + 1 < g ∧ RdD W' (.slice aL nL cL) (.slice aS nS cS) (.slice aO nO cO) L S O) := fun W' hB => by
      rw [hgg] at hB
      have hh := HG.out W' (hBWb.trans (hB.mono hBWb.size))
      exact ⟨hh.1, hh.2.1, hh.2.2.2.1, by rw [hgg]; exact (HG.out _ hBWb).2.2.2.2, HA.out W' hh.2.2.2.1⟩
    have HOC : Hid (∀ W', Below g w2 W' → ∀ i, i < 3 → ∀ t, t < 4 → W'.cell? ⟨pb, po + i * 4 + t, none⟩ = (encO ((os).getD i dopZ))[t]?) := fun W' hB i hi t ht => by
      rw [hgg] at hB
      exact (hB.cell (p := ⟨pb, po + i * 4 + t, none⟩) HPB.out.1).trans (HPB.out.2 i hi t ht)
    have HS0 : Hid (RiSt w w2 Y g L S O (os) 0 (.slice aL nL cL) (.slice aS nS cS) (.slice aO nO cO) L O) := by
      have hbY : Below g w2 Y := by rw [hgg]; exact hBY
      have hh := HGB.out Y hbY
      exact ⟨by rw [hY, hgg]; exact At3.new _ _ _ _ _, hh.2.2.2.2, ⟨rfl, rfl, rfl⟩, hbY, fun _ => ⟨rfl, rfl⟩, fun q => absurd q (Nat.lt_irrefl _), HNZ.out, HZ.out, HN.out⟩
    have hh := HGB.out w2 (Below.refl _ _)
    have c0 := hh.1.c0
    have c1 := hh.1.c1
    have c2 := hh.1.c2
    have HY : Hid (Y = w2.alloc (.cells #[.slice aL nL cL, .slice aS nS cS, .slice aO nO cO] 27)) := hY
    have HGG : Hid (g = w2.heap.size) := hgg
    clear hY hBY hgg hBWb hh
    go_wp2
    rw [← HY.out, ← HGG.out]
    clear c0 c1 c2
    go_loopw [41] (fun i wr => ∃ (k : Nat), k ≤ 3 ∧ i = .int .i64 k ∧ Hid (∃ x y z L' O', RiSt w w2 wr g L S O (os) k x y z L' O')) (fun i _ => 3 - (intOf i).toNat)
    case atStart => exact ⟨0, Nat.zero_le _, rfl, _, _, _, _, _, HS0.out⟩
    case round =>
      obtain ⟨k, hk, rfl, HI⟩ := hrel
      obtain ⟨x, y, z, L', O', hR⟩ := HI.out
      obtain ⟨xa, xc, ya, yc, za, zc, ex, ey, ez⟩ := hR.rd.slices
      obtain ⟨xn, hxn⟩ : ∃ m, m = L'.length := ⟨_, rfl⟩
      obtain ⟨yn, hyn⟩ : ∃ m, m = S.length := ⟨_, rfl⟩
      obtain ⟨zn, hzn⟩ : ∃ m, m = O'.length := ⟨_, rfl⟩
      rw [← hxn] at ex
      rw [← hyn] at ey
      rw [← hzn] at ez
      subst ex ey ez
      have HR : Hid (RiSt w w2 wr g L S O (os) k (.slice xa xn xc) (.slice ya yn yc) (.slice za zn zc) L' O') := hR
      have n0 := hR.n.c0
      have n1 := hR.n.c1
      have n2 := hR.n.c2
      clear HI hR hxn hyn hzn
      by_cases hlt : k < 3
      · have hltI : (k : Int) < (3 : Int) := by omega
        obtain ⟨o, ho⟩ : ∃ o, o = (os).getD k dopZ := ⟨_, rfl⟩
        have d0 := HOC.out wr HR.out.bel k hlt 0 (by omega)
        have d1 := HOC.out wr HR.out.bel k hlt 1 (by omega)
        have d2 := HOC.out wr HR.out.bel k hlt 2 (by omega)
        have d3 := HOC.out wr HR.out.bel k hlt 3 (by omega)
        rw [← ho] at d0 d1 d2 d3
        have d0' : wr.cell? ⟨pb, po + k * 4, none⟩ = some (.int .i64 o.k) := d0
        have d1' : wr.cell? ⟨pb, po + k * 4 + 1, none⟩ = some (.string o.n) := d1
        have d2' : wr.cell? ⟨pb, po + k * 4 + 2, none⟩ = some (.string o.t) := d2
        have d3' : wr.cell? ⟨pb, po + k * 4 + 3, none⟩ = some (.string o.d) := d3
        have hkl : k < (os).length := by rw [HLN.out]; exact hlt
        have HOS : Hid (o.n.size ≤ 100000000 ∧ o.t.size ≤ 100000000 ∧ o.d.size ≤ 100000000) := HOSM.out o (by rw [ho]; exact getD_mem hkl)
        have HDR : Hid (RpAt L O (os) L' O' (o :: (os).drop (k + 1))) := by
          have := HR.out.left
          rw [drop_cons hkl, ← ho] at this
          exact this
        obtain ⟨Z, hZ⟩ : ∃ Z, Z = wr.alloc (.cells #[.int .i64 o.k, .string o.n, .string o.t, .string o.d] 49) := ⟨_, rfl⟩
        have HZZ : Hid (Z = wr.alloc (.cells #[.int .i64 o.k, .string o.n, .string o.t, .string o.d] 49)) := hZ
        have hBZ : Below wr.heap.size wr Z := by rw [hZ]; exact (Below.refl _ _).alloc (Nat.le_refl _) _
        have HBZ : Hid (Below wr.heap.size wr Z) := hBZ
        have m0 : Z.cell? ⟨g, 0, none⟩ = some (.slice xa xn xc) := (HR.out.n.below hBZ).c0
        have m1 : Z.cell? ⟨g, 1, none⟩ = some (.slice ya yn yc) := (HR.out.n.below hBZ).c1
        have m2 : Z.cell? ⟨g, 2, none⟩ = some (.slice za zn zc) := (HR.out.n.below hBZ).c2
        rw [hZ] at m0 m1 m2
        clear d0 d1 d2 d3 ho hkl hZ hBZ
        go_wp2_with fail
        rw [← HZZ.out]
        have hgw : g ≤ wr.heap.size := Nat.le_of_lt HR.out.n.lt
        refine (implAct2_any _ _ _ L' S O' o Z (HR.out.rd.below HBZ.out) HR.out.nz HR.out.sm.1 HR.out.sm.2 HOS.out).mono ?_
        rintro e V ⟨x1, y1, z1, rfl, hr, hOw, hBv⟩
        obtain ⟨ua, uc, va, vc, ta, tc, ex, ey, ez⟩ := hr.slices
        obtain ⟨L1, hL1⟩ : ∃ Q, Q = dL L' S O' o := ⟨_, rfl⟩
        obtain ⟨S1, hS1⟩ : ∃ Q, Q = dS L' S O' := ⟨_, rfl⟩
        obtain ⟨O1, hO1⟩ : ∃ Q, Q = dO L' S O' o := ⟨_, rfl⟩
        obtain ⟨C, hC⟩ : ∃ Q, Q = dC L' S O' o := ⟨_, rfl⟩
        rw [← hL1] at hr ex hOw
        rw [← hS1] at hr ey hOw
        rw [← hO1] at hr ez hOw
        rw [← hC]
        obtain ⟨un, hun⟩ : ∃ m, m = L1.length := ⟨_, rfl⟩
        obtain ⟨vn, hvn⟩ : ∃ m, m = S1.length := ⟨_, rfl⟩
        obtain ⟨tn, htn⟩ : ∃ m, m = O1.length := ⟨_, rfl⟩
        rw [← hun] at ex
        rw [← hvn] at ey
        rw [← htn] at ez
        subst ex ey ez
        have HE1 : Hid (L1 = dL L' S O' o ∧ S1 = dS L' S O' ∧ O1 = dO L' S O' o ∧ C = dC L' S O' o) := ⟨hL1, hS1, hO1, hC⟩
        obtain ⟨U, hU⟩ : ∃ U, U = V.alloc (.cells #[.slice ua un uc, .slice va vn vc, .slice ta tn tc] 27) := ⟨_, rfl⟩
        have hBU : Below V.heap.size V U := by rw [hU]; exact (Below.refl _ _).alloc (Nat.le_refl _) _
        have hBwV : Below wr.heap.size wr V := HBZ.out.trans (hBv.mono HBZ.out.size)
        have hBwU : Below wr.heap.size wr U := hBwV.trans (hBU.mono hBwV.size)
        have HBU : Hid (Below g w2 U) := HR.out.bel.trans (hBwU.mono hgw)
        have HRU : Hid (RdD U (.slice ua un uc) (.slice va vn vc) (.slice ta tn tc) L1 S1 O1) := hr.below hBU
        have HOU : Hid (OwD U wr.heap.size (.slice ua un uc) (.slice va vn vc) (.slice ta tn tc) L1.length S1.length O1.length) := (hOw.below hBU).base HBZ.out.size
        have HNU : Hid (At3 U g 27 (.slice xa xn xc) (.slice ya yn yc) (.slice za zn zc)) := HR.out.n.below hBwU
        have hgU := HGB.out U HBU.out
        have HR3 : Hid (At3 U (w.heap.size + 1) 27 (.slice none 0 0) (.slice none 0 0) (.slice none 0 0)) := hgU.2.1
        have HWR : Hid (w.heap.size ≤ wr.heap.size ∧ w.heap.size + 1 + 1 < g) := ⟨by have := hgU.2.2.2.1; omega, hgU.2.2.2.1⟩
        have e0 := hgU.1.c0
        have e1 := hgU.1.c1
        have e2 := hgU.1.c2
        rw [hU] at e0 e1 e2
        have HU : Hid (U = V.alloc (.cells #[.slice ua un uc, .slice va vn vc, .slice ta tn tc] 27)) := hU
        clear hr hOw hBv hun hvn htn hL1 hS1 hO1 hC hBU hBwV hBwU hgU hgw n0 n1 n2 m0 m1 m2 d0' d1' d2' d3'
        cases hd : diskB L' S O' with
        | false =>
          have hC1 : C = 1 := HE1.out.2.2.2.trans (d_no o hd).1
          have hcb1 : ((C : Int) == 1) = true := by rw [hC1]; rfl
          have HD := (show Hid _ from rp_no nm dt (HR.out.no hd))
          have HC1 : Hid (C = 1) := hC1
          obtain ⟨q, hq, hi6, ho6, h16⟩ := row3 none none none 0 0 0 0 0 0
          have HU3 := HR3.out
          rw [hU] at HU3
          have HR4 : Hid (At3 (V.alloc (.cells #[.slice ua un uc, .slice va vn vc, .slice ta tn tc] 27)) (w.heap.size + 1) 27 (.slice none 0 0) (.slice none 0 0) (.slice none 0 0)) := HU3
          clear hd hC1 hU e0 e1 e2 HU3
          go_wp2_with (refine wpList_store_row rfl 27 _ _ rfl (w.heap.size + 1) q rfl (congrArg Value.agg hq.symm) 27 _ HR4.out hi6 ho6 h16 ?_)
          subst hq
          rw [← HU.out]
          refine bodyPost_ret (v := .tuple #[.agg #[.slice none 0 0, .slice none 0 0, .slice none 0 0], _]) (results_row_tmp rfl _ _ (w.heap.size + 1) 27 _ _ _ rfl (setRow_heap _ _ _ _ _ _ HR3.out) Try.underlying27 rfl hi6) rfl ⟨_, _, _, ret_val (by rw [HD.out.1, ← HC1.out]; rfl), ?_, ?_, ?_⟩
          · rw [HD.out.2.1, HD.out.2.2.1, HD.out.2.2.2]
            exact ⟨(HoldF.nil _ 0).1, (HoldF.nil _ 0).1, (HoldO.nil _ 0).1⟩
          · rw [HD.out.2.1, HD.out.2.2.1, HD.out.2.2.2]
            exact ⟨(HoldF.nil _ _).2, (HoldF.nil _ _).2, (HoldO.nil _ _).2, fun _ hb => by cases hb⟩
          · exact below_setRow (HGB.out U HBU.out).2.2.1 (by omega) _
        | true =>
          have HDL : Hid (diskB L S O = true) := HR.out.disk hd
          obtain ⟨dy0, dy1, dy2, dy3⟩ := d_yes o hd
          have HE2 : Hid (L1 = actL L' O' o ∧ S1 = S ∧ O1 = actO L' O' o ∧ C = actC L' O' o) := ⟨HE1.out.1.trans dy1, HE1.out.2.1.trans dy2, HE1.out.2.2.1.trans dy3, HE1.out.2.2.2.trans dy0⟩
          have hc1 : C ≠ 1 := by rw [HE2.out.2.2.2]; exact actC_ne1 _ _ _
          have hcb1 : ((C : Int) == 1) = false := by
            cases hb : ((C : Int) == 1) with
            | false => rfl
            | true => exact absurd (by have := eq_of_beq hb; omega) hc1
          have HDL' : Hid (diskB L' S O' = true) := hd
          clear hd dy0 dy1 dy2 dy3 hc1 HE1
          by_cases hz0 : C = 0
          · have hcb : ((C : Int) == 0) = true := by rw [hz0]; rfl
            have HC0 : Hid (actC L' O' o = 0) := HE2.out.2.2.2.symm.trans hz0
            obtain ⟨q, hq, hi6, ho6, h16⟩ := row3 ua va ta un uc vn vc tn tc
            have HN3 := HNU.out
            rw [hU] at HN3
            have HN4 : Hid (At3 (V.alloc (.cells #[.slice ua un uc, .slice va vn vc, .slice ta tn tc] 27)) g 27 (.slice xa xn xc) (.slice ya yn yc) (.slice za zn zc)) := HN3
            clear hz0 hU e0 e1 e2 HN3
            go_wp2_with (refine wpList_store_row rfl 27 _ _ rfl g q rfl (congrArg Value.agg hq.symm) 27 _ HN4.out hi6 (by rw [hq]; rfl) h16 ?_)
            subst hq
            rw [← HU.out]
            have HFIN : Hid (RiSt w w2 (U.setRow g #[.slice ua un uc, .slice va vn vc, .slice ta tn tc]) g L S O (os) (k + 1) (.slice ua un uc) (.slice va vn vc) (.slice ta tn tc) L1 O1) := by
              have hdk : diskB L1 S O1 = true := by
                have := act_disk HDL'.out HC0.out
                rw [← HE2.out.1, ← HE2.out.2.2.1] at this
                exact this
              have hrd := HRU.out
              rw [HE2.out.2.1] at hrd
              have hso := HOU.out
              rw [HE2.out.2.1] at hso
              have hst := HDR.out.step HC0.out
              rw [← HE2.out.1, ← HE2.out.2.2.1] at hst
              have hsd := small_disk hdk
              have hf := HWR.out
              exact ⟨HNU.out.rowAt (g := g), hrd.off3 HNU.out _, hst, below_setRow HBU.out (Nat.le_refl _) _, fun q => absurd q (by omega), fun _ => ⟨hdk, HDL.out, (hso.base hf.1).off HNU.out (fun j hj => setRow_other _ _ _ _ hj)⟩, hso.nzo, hsd.1, by omega, by omega, by omega⟩
            go_roundw
            case rel => exact ⟨k + 1, by omega, by go_num, _, _, _, _, _, HFIN.out⟩
            case measure => simp [intOf]; omega
          · have hcb : ((C : Int) == 0) = false := by
              cases hb : ((C : Int) == 0) with
              | false => rfl
              | true => exact absurd (by have := eq_of_beq hb; omega) hz0
            have HBAD : Hid (rpC L S O nm dt = C ∧ rpL L S O nm dt = L ∧ rpS L S O = S ∧ rpO L S O nm dt = O) := by
              have e := HDR.out.bad (fun q => hz0 (HE2.out.2.2.2.trans q))
              rw [HEQ.out HDL.out] at e
              obtain ⟨e1, e2, e3, e4⟩ := rp_bad (nm := nm) (dt := dt) HDL.out (by rw [e]; exact fun q => hz0 (HE2.out.2.2.2.trans q))
              exact ⟨e1.trans (e.trans HE2.out.2.2.2.symm), e2, e3, e4⟩
            clear hz0
            go_wp2_with fail
            rw [← HU.out]
            have hgU := HGB.out U HBU.out
            refine (implCopy_any _ _ _ L S O U hgU.2.2.2.2 HN.out).mono ?_
            rintro e wc ⟨x2, y2, z2, rfl, hr2, ho2, hBc⟩
            obtain ⟨b1, d1, b2, d2, b3, d3, ex, ey, ez⟩ := hr2.slices
            obtain ⟨m1, hm1⟩ : ∃ m, m = L.length := ⟨_, rfl⟩
            obtain ⟨m2, hm2⟩ : ∃ m, m = S.length := ⟨_, rfl⟩
            obtain ⟨m3, hm3⟩ : ∃ m, m = O.length := ⟨_, rfl⟩
            rw [← hm1] at ex
            rw [← hm2] at ey
            rw [← hm3] at ez
            subst ex ey ez
            have HRR : Hid (RdD wc (.slice b1 m1 d1) (.slice b2 m2 d2) (.slice b3 m3 d3) L S O) := hr2
            have HOO : Hid (OwD wc w.heap.size (.slice b1 m1 d1) (.slice b2 m2 d2) (.slice b3 m3 d3) L.length S.length O.length) := ho2.base hgU.2.2.1.size
            have HBC : Hid (Below w.heap.size w wc) := hgU.2.2.1.trans (hBc.mono hgU.2.2.1.size)
            have HR5 : Hid (At3 wc (w.heap.size + 1) 27 (.slice none 0 0) (.slice none 0 0) (.slice none 0 0)) := HR3.out.below hBc
            obtain ⟨q, hq, hi6, ho6, h16⟩ := row3 b1 b2 b3 m1 d1 m2 d2 m3 d3
            clear hr2 ho2 hBc hm1 hm2 hm3 hgU e0 e1 e2 hU
            go_wp2_with (refine wpList_store_row rfl 27 _ _ rfl (w.heap.size + 1) q rfl (congrArg Value.agg hq.symm) 27 _ HR5.out hi6 ho6 h16 ?_)
            subst hq
            refine bodyPost_ret (v := .tuple #[.agg #[.slice b1 m1 d1, .slice b2 m2 d2, .slice b3 m3 d3], _]) (results_row_tmp rfl _ _ (w.heap.size + 1) 27 _ _ _ rfl (setRow_heap _ _ _ _ _ _ HR5.out) Try.underlying27 rfl hi6) rfl ⟨_, _, _, ret_val (by rw [HBAD.out.1]; rfl), ?_, ?_, ?_⟩
            · rw [HBAD.out.2.1, HBAD.out.2.2.1, HBAD.out.2.2.2]
              exact HRR.out.row HR5.out _
            · rw [HBAD.out.2.1, HBAD.out.2.2.1, HBAD.out.2.2.2]
              exact HOO.out.off HR5.out (fun j hj => setRow_other _ _ _ _ hj)
            · exact below_setRow HBC.out (by omega) _
      · have hltI : ¬ (k : Int) < (3 : Int) := by omega
        have hkn : k = 3 := by omega
        obtain ⟨p1, p2, p3⟩ := HR.out.pos (by omega)
        have HGD : Hid (rpC L S O nm dt = 0 ∧ rpL L S O nm dt = L' ∧ rpS L S O = S ∧ rpO L S O nm dt = O') := by
          have hl := HR.out.left
          rw [List.drop_of_length_le (by rw [HLN.out]; omega)] at hl
          rw [HEQ.out p2] at hl
          obtain ⟨e1, e2, e3, e4⟩ := rp_good p2 (hl.1.trans rfl)
          exact ⟨e1, e2.trans hl.2.1, e3, e4.trans hl.2.2⟩
        have HOO : Hid (OwD wr w.heap.size (.slice xa xn xc) (.slice ya yn yc) (.slice za zn zc) L'.length S.length O'.length) := p3
        have hgw := HGB.out wr HR.out.bel
        have HR3 : Hid (At3 wr (w.heap.size + 1) 27 (.slice none 0 0) (.slice none 0 0) (.slice none 0 0)) := hgw.2.1
        have HBC : Hid (Below w.heap.size w wr) := hgw.2.2.1
        obtain ⟨q, hq, hi6, ho6, h16⟩ := row3 xa ya za xn xc yn yc zn zc
        clear hkn p1 p2 p3 hgw
        go_wp2_with (refine wpList_store_row rfl 27 _ _ rfl (w.heap.size + 1) q rfl (congrArg Value.agg hq.symm) 27 _ HR3.out hi6 ho6 h16 ?_)
        subst hq
        refine bodyPost_ret (v := .tuple #[.agg #[.slice xa xn xc, .slice ya yn yc, .slice za zn zc], _]) (results_row_tmp rfl _ _ (w.heap.size + 1) 27 _ _ _ rfl (setRow_heap _ _ _ _ _ _ HR3.out) Try.underlying27 rfl hi6) rfl ⟨_, _, _, ret_val (by rw [HGD.out.1]; rfl), ?_, ?_, ?_⟩
        · rw [HGD.out.2.1, HGD.out.2.2.1, HGD.out.2.2.2]
          exact HR.out.rd.row HR3.out _
        · rw [HGD.out.2.1, HGD.out.2.2.1, HGD.out.2.2.2]
          exact HOO.out.off HR3.out (fun j hj => setRow_other _ _ _ _ hj)
        · exact below_setRow HBC.out (by omega) _
end Go.Proofs.Ytbohaefmokbgbaa

namespace Go.Proofs.Ytbohaefmokbgbaa
open Go.RowKit
set_option linter.unusedVariables false

theorem done_dL {L S : List Fl} {O : List Dop} {o : Dop} (h : diskB L S O = true) (hc : dC L S O o = 0) : dL L S O o = (doF L o).1 ∧ dS L S O = S ∧ dO L S O o = O ++ [o] ∧ formB o = true ∧ (doF L o).2 = true ∧ UpF L := by
  obtain ⟨e0, e1, e2, e3⟩ := d_yes o h
  rw [e0] at hc
  obtain ⟨f1, f2, f3, f4⟩ := act_zero hc
  exact ⟨by rw [e1, (act_yes hc).1], e2, by rw [e3, (act_yes hc).2], f1, f2, filesB_up (disk_live h).1⟩
theorem rd_of {L S : List Fl} {O : List Dop} (h : diskB L S O = true) (s : ByteArray) : rdB L S O s = readF L s ∧ rdOk L S O s = (getF L s).isSome := by
  unfold rdB rdOk
  rw [if_pos h, if_pos h]
  exact ⟨rfl, rfl⟩
theorem done_app {L S : List Fl} {O : List Dop} {o : Dop} (h : diskB L S O = true) (hc : dC L S O o = 0) (hk : o.k = 1) : getF (dL L S O o) o.n = some (readF L o.n ++ o.d) := by
  obtain ⟨e1, _, _, _, _, hu⟩ := done_dL h hc
  rw [e1]
  unfold doF
  rw [if_pos hk]
  show getF (putF L o.n _) o.n = _
  rw [putF_eq hu, putR_get hu, if_pos (by simp)]
  unfold readF
  cases getF L o.n with
  | none =>
    show some o.d = some ((⟨#[]⟩ : ByteArray) ++ o.d)
    rw [empty_add]
  | some x => rfl
theorem done_ren {L S : List Fl} {O : List Dop} {o : Dop} (h : diskB L S O = true) (hc : dC L S O o = 0) (hk : o.k = 2) : getF (dL L S O o) o.t = some (readF L o.n) ∧ (getF (dL L S O o) o.n).isSome = (o.t.toList == o.n.toList) := by
  obtain ⟨e1, _, _, _, hd, hu⟩ := done_dL h hc
  rw [e1]
  unfold doF at hd ⊢
  rw [if_neg (by rw [hk]; decide)] at hd ⊢
  cases hg : getF L o.n with
  | none => rw [hg] at hd; cases hd
  | some x =>
    simp only
    rw [if_pos hk]
    show getF (putF (cutF L o.n) o.t x) o.t = _ ∧ (getF (putF (cutF L o.n) o.t x) o.n).isSome = _
    rw [putF_eq (cutF_up hu _), putR_get (cutF_up hu _), putR_get (cutF_up hu _), if_pos (by simp)]
    refine ⟨by unfold readF; rw [hg]; rfl, ?_⟩
    cases e : (o.t.toList == o.n.toList) with
    | true => rfl
    | false =>
      rw [if_neg (by decide), cutF_get, if_pos (by simp)]
      rfl
theorem done_rem {L S : List Fl} {O : List Dop} {o : Dop} (h : diskB L S O = true) (hc : dC L S O o = 0) (hk : o.k = 3) : (getF (dL L S O o) o.n).isSome = false := by
  obtain ⟨e1, _, _, _, hd, hu⟩ := done_dL h hc
  rw [e1]
  unfold doF at hd ⊢
  rw [if_neg (by rw [hk]; decide)] at hd ⊢
  cases hg : getF L o.n with
  | none => rw [hg] at hd; cases hd
  | some x =>
    simp only
    rw [if_neg (by rw [hk]; decide)]
    show (getF (cutF L o.n) o.n).isSome = false
    rw [cutF_get, if_pos (by simp)]
    rfl
end Go.Proofs.Ytbohaefmokbgbaa

namespace Go.Proofs.Ytbohaefmokbgbaa
open Go.RowKit
set_option linter.unusedVariables false

theorem new_ne (nm : ByteArray) : ((rpNew nm).toList == nm.toList) = false := by
  cases h : ((rpNew nm).toList == nm.toList) with
  | false => rfl
  | true =>
    exfalso
    have e := eq_of_beq h
    have := congrArg List.length e
    rw [ByteArray.toList_eq, ByteArray.toList_eq] at this
    unfold rpNew at this
    simp at this
/-- what the two ops give, where nothing lies under the other name -/
theorem two_ops {L : List Fl} {O : List Dop} {nm dt : ByteArray} (hu : UpF L) (hg : getF L (rpNew nm) = none) (hc : actsC L O (rpOps L nm dt) = 0) :
    rpOps L nm dt = [⟨1, rpNew nm, ⟨#[]⟩, dt⟩, ⟨2, rpNew nm, nm, ⟨#[]⟩⟩] ∧ actsO L O (rpOps L nm dt) = O ++ [⟨1, rpNew nm, ⟨#[]⟩, dt⟩, ⟨2, rpNew nm, nm, ⟨#[]⟩⟩] ∧ filesB (doF L ⟨1, rpNew nm, ⟨#[]⟩, dt⟩).1 = true ∧ actsL L O (rpOps L nm dt) = (doF (doF L ⟨1, rpNew nm, ⟨#[]⟩, dt⟩).1 ⟨2, rpNew nm, nm, ⟨#[]⟩⟩).1 ∧ filesB (doF (doF L ⟨1, rpNew nm, ⟨#[]⟩, dt⟩).1 ⟨2, rpNew nm, nm, ⟨#[]⟩⟩).1 = true := by
  have e : rpOps L nm dt = [⟨1, rpNew nm, ⟨#[]⟩, dt⟩, ⟨2, rpNew nm, nm, ⟨#[]⟩⟩] := by unfold rpOps; rw [hg]; rfl
  rw [e] at hc ⊢
  rw [actsC] at hc
  split at hc
  · rename_i h1
    rw [actsC] at hc
    split at hc
    · rename_i h2
      obtain ⟨a1, a2, a3, a4⟩ := act_zero h1
      rw [(act_yes h1).1, (act_yes h1).2] at h2
      obtain ⟨b1, b2, b3, b4⟩ := act_zero h2
      refine ⟨rfl, ?_, a4, ?_, b4⟩
      · rw [actsO, actsO, actsO, (act_yes h1).1, (act_yes h1).2, (act_yes h2).2]
        simp
      · rw [actsL, actsL, actsL, (act_yes h1).1, (act_yes h1).2, (act_yes h2).1]
    · rename_i h2
      exact absurd hc h2
  · rename_i h1
    exact absurd hc h1
theorem app_files {L : List Fl} (hu : UpF L) (n t d : ByteArray) : (doF L ⟨1, n, t, d⟩).1 = putR L n (match getF L n with | some x => x ++ d | none => d) := by
  unfold doF
  rw [if_pos rfl]
  exact putF_eq hu _ _
theorem putR_tot_eq {s d : ByteArray} : ∀ {L : List Fl}, UpF L → tot (putR L s d) + oldSz L s = tot L + d.size
  | [], _ => by
    show tot [(⟨s, d⟩ : Fl)] + 0 = 0 + d.size
    rw [tot_one]
    simp
  | f :: L, h => by
    obtain ⟨h1, h2⟩ := List.pairwise_cons.1 h
    rw [putR]
    unfold oldSz
    rw [getF_cons]
    split
    · simp only
      rw [tot_cons, tot_cons]
      show d.size + tot L + f.d.size = _
      omega
    · rename_i he
      split
      · have ih := putR_tot_eq (s := s) (d := d) h2
        unfold oldSz at ih
        rw [tot_cons, tot_cons]
        omega
      · rename_i hl
        have hsf : lessN s f.n = true := lessN_tri (by simpa using hl) (by simpa using he)
        rw [getF_out (fun g hg => fun q => lessN_ne (lessN_trans hsf (h1 g hg)) q.symm)]
        rw [tot_cons, tot_cons]
        show d.size + (f.d.size + tot L) + 0 = _
        omega
/-- an op that was torn fits where the whole one did -/
theorem torn_fits {L : List Fl} (hu : UpF L) (hn : ∀ f ∈ L, nmB f.n = true) {n t d : ByteArray} (hg : getF L n = none) (hnm : nmB n = true) {k : Nat} (h : filesB (doF L ⟨1, n, t, d⟩).1 = true) : filesB (doF L (tornO ⟨1, n, t, d⟩ k)).1 = true := by
  unfold tornO
  split
  · rename_i hk
    have e1 := app_files hu n t d
    have e2 := app_files hu n t (d.extract 0 k)
    rw [hg] at e1 e2
    have p := filesB_parts h
    show filesB (doF L ⟨1, n, t, d.extract 0 k⟩).1 = true
    rw [e2]
    rw [e1] at p
    simp only at p ⊢
    rw [filesB_of (putR_up hu _ _) (fun f hf => by
      rcases putR_mem hf with h' | h'
      · exact hn f h'
      · rw [h']; exact hnm)]
    have l1 := putR_len hu n d
    have l2 := putR_len hu n (d.extract 0 k)
    have t1 := putR_tot_eq (s := n) (d := d) hu
    have t2 := putR_tot_eq (s := n) (d := d.extract 0 k) hu
    have hz : (d.extract 0 k).size ≤ d.size := by simp; omega
    rw [decide_eq_true (by omega), decide_eq_true (by omega)]
    rfl
  · exact h
theorem replaced_plain {L : List Fl} {nm dt : ByteArray} (h : diskB L L [] = true) (hg : getF L (rpNew nm) = none) (hc : actsC L [] (rpOps L nm dt) = 0) (Z : List Int) (t : Nat) (hp : placesB 2 Z = true) :
    filesB (crF L [⟨1, rpNew nm, ⟨#[]⟩, dt⟩, ⟨2, rpNew nm, nm, ⟨#[]⟩⟩] Z t Z.length) = true ∧ (getF (crF L [⟨1, rpNew nm, ⟨#[]⟩, dt⟩, ⟨2, rpNew nm, nm, ⟨#[]⟩⟩] Z t Z.length) nm = getF L nm ∨ getF (crF L [⟨1, rpNew nm, ⟨#[]⟩, dt⟩, ⟨2, rpNew nm, nm, ⟨#[]⟩⟩] Z t Z.length) nm = some dt) := by
  have hf := (disk_live h).1
  have hu := filesB_up hf
  have hn := filesB_names hf
  obtain ⟨e1, e2, f1, e3, f2⟩ := two_ops hu hg hc
  have hnm : nmB (rpNew nm) = true := by
    have hc' := hc
    rw [e1, actsC] at hc'
    split at hc'
    · rename_i h1
      exact (formB_parts (act_zero h1).1).1
    · rename_i h1
      exact absurd hc' h1
  have hl := places_len hp
  have torn2 : tornO ⟨2, rpNew nm, nm, ⟨#[]⟩⟩ t = ⟨2, rpNew nm, nm, ⟨#[]⟩⟩ := by
    unfold tornO
    rw [if_neg (fun e => absurd (show (2 : Int) = 1 from e.1) (by decide))]
  have hren : (doF L ⟨2, rpNew nm, nm, ⟨#[]⟩⟩).1 = L := by
    unfold doF
    rw [if_neg (show ¬ (2 : Int) = 1 by decide)]
    show (match getF L (rpNew nm) with | none => (L, false) | some x => _).1 = L
    rw [hg]
  match Z, hp, hl with
  | [], _, _ => exact ⟨hf, .inl rfl⟩
  | [z], hp, _ =>
    have hz := placesB_at hp (i := 0) (by simp)
    have hz' : z = 0 ∨ z = 1 := by
      have h1 : 0 ≤ z := hz.1
      have h2 : z < (2 : Nat) := hz.2.1
      omega
    rcases hz' with rfl | rfl
    · show filesB (doF L (tornO ⟨1, rpNew nm, ⟨#[]⟩, dt⟩ t)).1 = true ∧ (getF (doF L (tornO ⟨1, rpNew nm, ⟨#[]⟩, dt⟩ t)).1 nm = getF L nm ∨ _)
      refine ⟨torn_fits hu hn hg hnm f1, .inl ?_⟩
      have : ∃ d, tornO ⟨1, rpNew nm, ⟨#[]⟩, dt⟩ t = ⟨1, rpNew nm, ⟨#[]⟩, d⟩ := by
        unfold tornO
        split
        · exact ⟨_, rfl⟩
        · exact ⟨_, rfl⟩
      obtain ⟨d, hd⟩ := this
      rw [hd, app_files hu, putR_get hu, if_neg (by rw [new_ne]; decide)]
    · show filesB (doF L (tornO ⟨2, rpNew nm, nm, ⟨#[]⟩⟩ t)).1 = true ∧ (getF (doF L (tornO ⟨2, rpNew nm, nm, ⟨#[]⟩⟩ t)).1 nm = getF L nm ∨ _)
      rw [torn2, hren]
      exact ⟨hf, .inl rfl⟩
  | [z, y], hp, _ =>
    have hz := placesB_at hp (i := 0) (by simp)
    have hy := placesB_at hp (i := 1) (by simp)
    have h1 : 0 ≤ z := hz.1
    have h2 : y < (2 : Nat) := hy.2.1
    have h3 : z < y := hy.2.2 (by omega)
    have ez : z = 0 := by omega
    have ey : y = 1 := by omega
    subst ez ey
    show filesB (doF (doF L ⟨1, rpNew nm, ⟨#[]⟩, dt⟩).1 (tornO ⟨2, rpNew nm, nm, ⟨#[]⟩⟩ t)).1 = true ∧ (_ ∨ getF (doF (doF L ⟨1, rpNew nm, ⟨#[]⟩, dt⟩).1 (tornO ⟨2, rpNew nm, nm, ⟨#[]⟩⟩ t)).1 nm = some dt)
    rw [torn2]
    refine ⟨f2, .inr ?_⟩
    have ea := app_files hu (rpNew nm) ⟨#[]⟩ dt
    rw [hg] at ea
    simp only at ea
    rw [ea]
    have hup := putR_up hu (rpNew nm) dt
    have hget : getF (putR L (rpNew nm) dt) (rpNew nm) = some dt := by rw [putR_get hu, if_pos (by simp)]
    unfold doF
    rw [if_neg (show ¬ (2 : Int) = 1 by decide)]
    simp only [hget]
    show getF (putF (cutF (putR L (rpNew nm) dt) (rpNew nm)) nm dt) nm = some dt
    rw [putF_eq (cutF_up hup _), putR_get (cutF_up hup _), if_pos (by simp)]
  | z :: y :: x :: Z, _, hl => exact absurd hl (by simp)
theorem two_get {L : List Fl} {nm dt : ByteArray} (hu : UpF L) (hg : getF L (rpNew nm) = none) : getF (doF (doF L ⟨1, rpNew nm, ⟨#[]⟩, dt⟩).1 ⟨2, rpNew nm, nm, ⟨#[]⟩⟩).1 nm = some dt := by
  have ea := app_files hu (rpNew nm) ⟨#[]⟩ dt
  rw [hg] at ea
  simp only at ea
  rw [ea]
  have hup := putR_up hu (rpNew nm) dt
  have hget : getF (putR L (rpNew nm) dt) (rpNew nm) = some dt := by rw [putR_get hu, if_pos (by simp)]
  unfold doF
  rw [if_neg (show ¬ (2 : Int) = 1 by decide)]
  simp only [hget]
  show getF (putF (cutF (putR L (rpNew nm) dt) (rpNew nm)) nm dt) nm = some dt
  rw [putF_eq (cutF_up hup _), putR_get (cutF_up hup _), if_pos (by simp)]
end Go.Proofs.Ytbohaefmokbgbaa

namespace Go.Proofs.Ytbohaefmokbgbaa
open Go.RowKit
set_option linter.unusedVariables false

theorem infoI6 : (Try.prog.info? 2).map (fun i => (i.zero, i.size, i.bytes)) = some (some (.int .i64 0), 1, 8) := by kernel_rfl
theorem pl_in {n : Nat} {Z : List Int} {i : Nat} (h : 0 ≤ Z.getD i 0 ∧ Z.getD i 0 < n ∧ (0 < i → Z.getD (i - 1) 0 < Z.getD i 0)) : plB n Z i = true := by
  unfold plB inB
  rw [decide_eq_true h.1, decide_eq_true (by omega)]
  by_cases h0 : i = 0
  · rw [decide_eq_true h0]; rfl
  · rw [decide_eq_true (h.2.2 (by omega))]; simp
theorem places_up {n : Nat} {Z : List Int} (h : placesB n Z = true) : placesB (n + 1) Z = true := placesB_yes fun i hi => by
  have := placesB_at h hi
  exact pl_in ⟨this.1, by omega, this.2.2⟩
theorem places_snoc {n : Nat} {Z : List Int} (h : placesB n Z = true) : placesB (n + 1) (Z ++ [(n : Int)]) = true := placesB_yes fun i hi => by
  rw [List.length_append, List.length_singleton] at hi
  by_cases hl : i < Z.length
  · have := placesB_at h hl
    have e1 : (Z ++ [(n : Int)]).getD i 0 = Z.getD i 0 := by simp [List.getD, List.getElem?_append_left hl]
    have e2 : 0 < i → (Z ++ [(n : Int)]).getD (i - 1) 0 = Z.getD (i - 1) 0 := fun h0 => by simp [List.getD, List.getElem?_append_left (show i - 1 < Z.length by omega)]
    refine pl_in ⟨by rw [e1]; exact this.1, by rw [e1]; omega, fun h0 => by rw [e1, e2 h0]; exact this.2.2 h0⟩
  · have hie : i = Z.length := by omega
    subst hie
    have e1 : (Z ++ [(n : Int)]).getD Z.length 0 = n := by simp [List.getD]
    refine pl_in ⟨by rw [e1]; omega, by rw [e1]; omega, fun h0 => ?_⟩
    have e2 : (Z ++ [(n : Int)]).getD (Z.length - 1) 0 = Z.getD (Z.length - 1) 0 := by simp [List.getD, List.getElem?_append_left (show Z.length - 1 < Z.length by omega)]
    rw [e1, e2]
    exact (placesB_at h (show Z.length - 1 < Z.length by omega)).2.1
theorem sync_disk (L S : List Fl) (O : List Dop) : diskB (syL L S O) (syL L S O) [] = true := by
  unfold syL
  by_cases h : diskB L S O = true
  · rw [if_pos h]; exact disk_sync h
  · rw [if_neg h]; exact disk_nil
theorem files_disk {R : List Fl} (h : filesB R = true) : diskB R R [] = true := disk_of h h (by simp) rfl
/-- what the law wants of a file that was replaced -/
theorem replaced_law {L : List Fl} {nm dt : ByteArray} (h : diskB L L [] = true) (hg : getF L (rpNew nm) = none) (hc : rpC L L [] nm dt = 0) (Z : List Int) (t : Nat) (hp : placesB 2 Z = true) :
    (rpO L L [] nm dt).length = 2 ∧ rdOk (rpL L L [] nm dt) (rpS L L []) (rpO L L [] nm dt) nm = true ∧ rdB (rpL L L [] nm dt) (rpS L L []) (rpO L L [] nm dt) nm = dt ∧ crOk (rpL L L [] nm dt) (rpS L L []) (rpO L L [] nm dt) Z (t : Int) = true ∧
    (∀ R, R = crR (rpL L L [] nm dt) (rpS L L []) (rpO L L [] nm dt) Z (t : Int) → diskB R R [] = true ∧ ((rdOk R R [] nm = rdOk L L [] nm ∧ rdB R R [] nm = rdB L L [] nm) ∨ (rdOk R R [] nm = true ∧ rdB R R [] nm = dt))) ∧ diskB (rpL L L [] nm dt) (rpS L L []) (rpO L L [] nm dt) = true := by
  have hc' : actsC L [] (rpOps L nm dt) = 0 := by
    by_cases q : actsC L [] (rpOps L nm dt) = 0
    · exact q
    · rw [(rp_bad h q).1] at hc
      exact absurd hc q
  obtain ⟨e0, e1, e2, e3⟩ := rp_good (nm := nm) (dt := dt) h hc'
  have hu := filesB_up (disk_live h).1
  obtain ⟨o1, o2, f1, o3, f2⟩ := two_ops hu hg hc'
  have hda := acts_right (S := L) _ h hc'
  rw [e1, e2, e3]
  rw [o2] at hda ⊢
  rw [List.nil_append] at hda ⊢
  obtain ⟨rf, rg⟩ := replaced_plain h hg hc' Z t hp
  have hok : crOk (actsL L [] (rpOps L nm dt)) L [⟨1, rpNew nm, ⟨#[]⟩, dt⟩, ⟨2, rpNew nm, nm, ⟨#[]⟩⟩] Z (t : Int) = true := by
    unfold crOk
    rw [hda, decide_eq_true (by omega), show ([⟨1, rpNew nm, ⟨#[]⟩, dt⟩, ⟨2, rpNew nm, nm, ⟨#[]⟩⟩] : List Dop).length = 2 from rfl, hp, Int.toNat_natCast, rf]
    rfl
  refine ⟨rfl, ?_, ?_, hok, fun R hR => ?_, hda⟩
  · rw [(rd_of hda nm).2, o3, two_get hu hg]
    rfl
  · rw [(rd_of hda nm).1, o3]
    unfold readF
    rw [two_get hu hg]
    rfl
  · rw [cr_yes hok, Int.toNat_natCast] at hR
    rw [← hR] at rf rg
    have hdR := files_disk rf
    refine ⟨hdR, ?_⟩
    rw [(rd_of hdR nm).1, (rd_of hdR nm).2, (rd_of h nm).1, (rd_of h nm).2]
    unfold readF
    rcases rg with q | q
    · left
      rw [q]
      exact ⟨rfl, rfl⟩
    · right
      rw [q]
      exact ⟨rfl, rfl⟩

set_option maxRecDepth 10000 in
set_option maxHeartbeats 8000000 in
theorem replaced_walk {a : Option Addr} {len cap : Nat} {Z : Nat → Int} (W : World) (hU : IsU8 W a len cap Z) :
    Calls Try.prog 3 #[.slice a len cap] W fun e w' => e = .returned (.bool true) ∧ Below W.heap.size W w' := by
  have HU : Hid (IsU8 W a len cap Z) := hU
  clear hU
  go_enter Try.func3, Try.ntmps3
  go_wp2_with fail
  refine (big_any a len cap W).mono ?_
  rintro e w' ⟨rfl, hw⟩
  obtain rfl := hw.symm
  by_cases hbig : (1048576 : Int) < (len : Int)
  · have hbb : decide ((1048576 : Int) < (len : Int)) = true := decide_eq_true hbig
    go_wp2
    go_ret
    exact ⟨rfl, Below.refl _ _⟩
  have hbb : decide ((1048576 : Int) < (len : Int)) = false := decide_eq_false hbig
  have HLEN : Hid (len ≤ 1048576) := by show _ ≤ _; omega
  go_wp2_with fail
  refine (drawReplace_any W HU.out HLEN.out).mono ?_
  rintro e w0 ⟨x, y, z, L0, S0, O0, nm, dt, rfl, hr, hnz, hz, hl, hs, hB0⟩
  have HZ : Hid (SmallD L0 S0 O0) := hz
  have HL0 : Hid (L0.length ≤ 1048576) := by show _ ≤ _; omega
  have HSZ : Hid (nm.size ≤ 1000 ∧ dt.size ≤ 1000) := hs
  obtain ⟨b1, d1, b2, d2, b3, d3, ex, ey, ez⟩ := hr.slices
  obtain ⟨m1, hm1⟩ : ∃ m, m = L0.length := ⟨_, rfl⟩
  obtain ⟨m2, hm2⟩ : ∃ m, m = S0.length := ⟨_, rfl⟩
  obtain ⟨m3, hm3⟩ : ∃ m, m = O0.length := ⟨_, rfl⟩
  rw [← hm1] at ex
  rw [← hm2] at ey
  rw [← hm3] at ez
  subst ex ey ez
  obtain ⟨X, hX⟩ : ∃ X, X = w0.alloc (.cells #[.slice b1 m1 d1, .slice b2 m2 d2, .slice b3 m3 d3] 27) := ⟨_, rfl⟩
  have HX := (show Hid _ from hX)
  have hBX0 : Below w0.heap.size w0 X := by rw [hX]; exact (Below.refl _ _).alloc (Nat.le_refl _) _
  have HBX : Hid (Below W.heap.size W X) := hB0.trans (hBX0.mono hB0.size)
  have HR : Hid (RdD X (.slice b1 m1 d1) (.slice b2 m2 d2) (.slice b3 m3 d3) L0 S0 O0) := hr.below hBX0
  obtain ⟨gd, hgd⟩ : ∃ g, g = w0.heap.size := ⟨_, rfl⟩
  have HT : Hid (At3 X gd 27 (.slice b1 m1 d1) (.slice b2 m2 d2) (.slice b3 m3 d3)) := by rw [hX, hgd]; exact At3.new _ _ _ _ _
  have HGD : Hid (W.heap.size ≤ gd) := by rw [hgd]; exact hB0.size
  have HGE : Hid (gd = w0.heap.size) := hgd
  clear hr hnz hz hl hs hB0 hm1 hm2 hm3 hBX0 hX hgd
  -- synced
  go_wp2_with fail
  rw [← HX.out, ← HGE.out]
  refine (implSync_any _ _ _ L0 S0 O0 X HR.out.1 HR.out.2.1 HR.out.2.2 HZ.out HL0.out).mono ?_
  rintro e y1 ⟨x, y, z, rfl, hr, how, hBy⟩
  obtain ⟨L, hL⟩ : ∃ L, L = syL L0 S0 O0 := ⟨_, rfl⟩
  have HDK : Hid (diskB L L [] = true) := by rw [hL]; exact sync_disk _ _ _
  rw [← hL] at hr how
  obtain ⟨c1, e1, c2, e2, c3, e3, ex, ey, ez⟩ := hr.slices
  obtain ⟨nL, hnL⟩ : ∃ n, n = L.length := ⟨_, rfl⟩
  rw [← hnL] at ex ey
  subst ex ey ez
  obtain ⟨q, hq, hi6, ho6, h16⟩ := row3 c1 c2 c3 nL e1 nL e2 0 e3
  have HT1 : Hid (At3 y1 gd 27 (.slice b1 m1 d1) (.slice b2 m2 d2) (.slice b3 m3 d3)) := HT.out.below hBy
  have HBY : Hid (Below W.heap.size W y1) := HBX.out.trans (hBy.mono HBX.out.size)
  have HR1 : Hid (RdD y1 (.slice c1 nL e1) (.slice c2 nL e2) (.slice c3 ([] : List Dop).length e3) L L []) := hr
  have HNZ : Hid (NzO (.slice c3 ([] : List Dop).length e3)) := how.nzo
  clear hr how hBy hL hnL HX
  simp only [List.length_nil] at HR1 HNZ ⊢
  -- what is common from here on
  have HSD := (show Hid _ from small_disk HDK.out)
  obtain ⟨fr, hfr⟩ : ∃ fr, fr = rpNew nm := ⟨_, rfl⟩
  have hadd : ∀ w' : World, (Op.stringOp .add nm (⟨#[46, 110, 101, 119]⟩ : ByteArray)).run Try.prog w' = .ok (.string fr) w' := fun w' => by
    rw [hfr]
    exact add_ok (by have : (⟨#[46, 110, 101, 119]⟩ : ByteArray).size = 4 := rfl; have := HSZ.out; omega) w'
  have HFR : Hid (fr = rpNew nm) := hfr
  clear hfr
  go_wp2_with (
    (refine wpList_store_row rfl 27 _ _ rfl gd q rfl (congrArg Value.agg hq.symm) 27 _ HT1.out hi6 (by rw [hq]; rfl) h16 ?_
     subst hq
     obtain ⟨D0, hD0⟩ : ∃ D, D = y1.setRow gd #[.slice c1 nL e1, .slice c2 nL e2, .slice c3 0 e3] := ⟨_, rfl⟩
     rw [← hD0]
     have HD0 : Hid (At3 D0 gd 27 (.slice c1 nL e1) (.slice c2 nL e2) (.slice c3 0 e3)) := by rw [hD0]; exact setRow_heap _ _ _ _ _ _ HT1.out
     have HRD : Hid (RdD D0 (.slice c1 nL e1) (.slice c2 nL e2) (.slice c3 0 e3) L L []) := by rw [hD0]; exact HR1.out.off3 HT1.out _
     have HBD : Hid (Below W.heap.size W D0) := by rw [hD0]; exact below_setRow HBY.out HGD.out _
     have k0 := HD0.out.c0
     have k1 := HD0.out.c1
     have k2 := HD0.out.c2
     clear hD0))
  have HTD : Hid (∀ wy, Below D0.heap.size D0 wy → RdD wy (.slice c1 nL e1) (.slice c2 nL e2) (.slice c3 0 e3) L L [] ∧ At3 wy gd 27 (.slice c1 nL e1) (.slice c2 nL e2) (.slice c3 0 e3)) := fun wy hy => ⟨HRD.out.below hy, HD0.out.below hy⟩
  -- replaced
  refine (implReplace_any _ _ _ L L [] nm dt D0 HRD.out HNZ.out HSD.out.1 ⟨by have := HSD.out; omega, by have := HSD.out; omega, by simp⟩ (by have := HSZ.out; omega) (by have := HSZ.out; omega)).mono ?_
  rintro e y2 ⟨x, y, z, rfl, hr, how, hBy⟩
  obtain ⟨AL, hAL⟩ : ∃ A, A = rpL L L [] nm dt := ⟨_, rfl⟩
  obtain ⟨AS, hAS⟩ : ∃ A, A = rpS L L [] := ⟨_, rfl⟩
  obtain ⟨AO, hAO⟩ : ∃ A, A = rpO L L [] nm dt := ⟨_, rfl⟩
  obtain ⟨C, hC⟩ : ∃ A, A = rpC L L [] nm dt := ⟨_, rfl⟩
  rw [← hAL, ← hAS, ← hAO] at hr
  rw [← hC]
  obtain ⟨p1, r1, p2, r2, p3, r3, ex, ey, ez⟩ := hr.slices
  obtain ⟨lA, hlA⟩ : ∃ n, n = AL.length := ⟨_, rfl⟩
  obtain ⟨lS, hlS⟩ : ∃ n, n = AS.length := ⟨_, rfl⟩
  obtain ⟨lO, hlO⟩ : ∃ n, n = AO.length := ⟨_, rfl⟩
  rw [← hlA] at ex
  rw [← hlS] at ey
  rw [← hlO] at ez
  subst ex ey ez
  have HAA : Hid (AL = rpL L L [] nm dt ∧ AS = rpS L L [] ∧ AO = rpO L L [] nm dt ∧ C = rpC L L [] nm dt) := ⟨hAL, hAS, hAO, hC⟩
  have HLO : Hid (lO = AO.length) := hlO
  obtain ⟨D1, hD1⟩ : ∃ D, D = y2.alloc (.cells #[.slice p1 lA r1, .slice p2 lS r2, .slice p3 lO r3] 27) := ⟨_, rfl⟩
  obtain ⟨ga, hga⟩ : ∃ g, g = y2.heap.size := ⟨_, rfl⟩
  have hb1 : Below y2.heap.size y2 D1 := by rw [hD1]; exact (Below.refl _ _).alloc (Nat.le_refl _) _
  have HB1 : Hid (Below D0.heap.size D0 D1) := hBy.trans (hb1.mono hBy.size)
  have HTA : Hid (∀ wy, Below D1.heap.size D1 wy → RdD wy (.slice p1 lA r1) (.slice p2 lS r2) (.slice p3 lO r3) AL AS AO ∧ At3 wy ga 27 (.slice p1 lA r1) (.slice p2 lS r2) (.slice p3 lO r3)) := fun wy hy => ⟨(hr.below hb1).below hy, (show At3 D1 ga 27 _ _ _ by rw [hD1, hga]; exact At3.new _ _ _ _ _).below hy⟩
  have HD1 := (show Hid _ from hD1)
  have HGA : Hid (ga = y2.heap.size) := hga
  have c0 := (HTD.out D1 HB1.out).2.c0
  have c1' := (HTD.out D1 HB1.out).2.c1
  have c2' := (HTD.out D1 HB1.out).2.c2
  rw [hD1] at c0 c1' c2'
  clear hr how hBy hAL hAS hAO hC hlA hlS hlO hb1 hD1 hga k0 k1 k2
  go_wp2_with fail
  rw [← HD1.out, ← HGA.out]
  refine (specReplace_any _ _ _ L L [] nm dt D1 (HTD.out D1 HB1.out).1 HSD.out.1 ⟨by have := HSD.out; omega, by have := HSD.out; omega, by simp⟩ (by have := HSZ.out; omega) (by have := HSZ.out; omega)).mono ?_
  rintro e y3 ⟨x, y, z, rfl, hr, hBy⟩
  obtain ⟨u1, v1, u2, v2, u3, v3, ex, ey, ez⟩ := hr.slices
  obtain ⟨l1, hl1⟩ : ∃ n, n = (rpL L L [] nm dt).length := ⟨_, rfl⟩
  obtain ⟨l2, hl2⟩ : ∃ n, n = (rpS L L []).length := ⟨_, rfl⟩
  obtain ⟨l3, hl3⟩ : ∃ n, n = (rpO L L [] nm dt).length := ⟨_, rfl⟩
  rw [← hl1] at ex
  rw [← hl2] at ey
  rw [← hl3] at ez
  subst ex ey ez
  rw [← HAA.out.2.2.2]
  obtain ⟨D2, hD2⟩ : ∃ D, D = y3.alloc (.cells #[.slice u1 l1 v1, .slice u2 l2 v2, .slice u3 l3 v3] 27) := ⟨_, rfl⟩
  have hb2 : Below y3.heap.size y3 D2 := by rw [hD2]; exact (Below.refl _ _).alloc (Nat.le_refl _) _
  have HB12 : Hid (Below D1.heap.size D1 D2) := hBy.trans (hb2.mono hBy.size)
  have HB02 : Hid (Below D0.heap.size D0 D2) := HB1.out.trans (HB12.out.mono HB1.out.size)
  have HT2 : Hid (∀ wy, Below D2.heap.size D2 wy → (RdD wy (.slice c1 nL e1) (.slice c2 nL e2) (.slice c3 0 e3) L L [] ∧ At3 wy gd 27 (.slice c1 nL e1) (.slice c2 nL e2) (.slice c3 0 e3)) ∧ (RdD wy (.slice p1 lA r1) (.slice p2 lS r2) (.slice p3 lO r3) AL AS AO ∧ At3 wy ga 27 (.slice p1 lA r1) (.slice p2 lS r2) (.slice p3 lO r3)) ∧ Below W.heap.size W wy) := fun wy hy => ⟨HTD.out wy (HB02.out.trans (hy.mono HB02.out.size)), HTA.out wy (HB12.out.trans (hy.mono HB12.out.size)), HBD.out.trans ((HB02.out.trans (hy.mono HB02.out.size)).mono HBD.out.size)⟩
  have HD2 := (show Hid _ from hD2)
  have hcc : ((C : Int) != (C : Int)) = false := by simp
  have hce : ((C : Int) == (C : Int)) = true := by simp
  have hT2 := HT2.out D2 (Below.refl _ _)
  have k0 := hT2.1.2.c0
  have k1 := hT2.1.2.c1
  have k2 := hT2.1.2.c2
  rw [hD2] at k0 k1 k2
  clear hr hBy hl1 hl2 hl3 hb2 hD2 c0 c1' c2' hT2
  by_cases hz0 : C = 0
  case neg =>
    have hcb : ((C : Int) != 0) = true := by simp; omega
    have hcb2 : ((C : Int) == 0) = false := by simp; omega
    clear hz0
    go_wp2
    go_ret
    rw [← HD2.out]
    exact ⟨rfl, (HT2.out D2 (Below.refl _ _)).2.2⟩
  case pos =>
  have hcb : ((C : Int) != 0) = false := by rw [hz0]; rfl
  have hcb2 : ((C : Int) == 0) = true := by rw [hz0]; rfl
  have HC0 : Hid (rpC L L [] nm dt = 0) := HAA.out.2.2.2.symm.trans hz0
  clear hz0
  -- is a file under the other name?
  go_wp2_with fail
  rw [← HD2.out]
  have hrd := (HT2.out D2 (Below.refl _ _)).1.1
  refine (implRead_any _ _ _ L L [] fr D2 hrd.1 hrd.2.1 hrd.2.2 HSD.out.1).mono ?_
  rintro e w3 ⟨rfl, hB3⟩
  have HB3 : Hid (Below D2.heap.size D2 w3) := hB3
  clear hB3 hrd k0 k1 k2 HD2
  obtain ⟨rr, hrr⟩ : ∃ r, r = rdB L L [] fr := ⟨_, rfl⟩
  rw [← hrr]
  clear hrr
  cases hok : rdOk L L [] fr with
  | true =>
    go_wp2
    go_ret
    exact ⟨rfl, (HT2.out w3 HB3.out).2.2⟩
  | false =>
    have HGN : Hid (getF L (rpNew nm) = none) := by
      rw [(rd_of HDK.out fr).2, HFR.out] at hok
      cases hq : getF L (rpNew nm) with
      | none => rfl
      | some x => rw [hq] at hok; cases hok
    clear hok
    have HLAW : Hid (∀ (Zl : List Int) (t : Nat), placesB 2 Zl = true → AO.length = 2 ∧ rdOk AL AS AO nm = true ∧ rdB AL AS AO nm = dt ∧ crOk AL AS AO Zl (t : Int) = true ∧ (∀ R, R = crR AL AS AO Zl (t : Int) → diskB R R [] = true ∧ ((rdOk R R [] nm = rdOk L L [] nm ∧ rdB R R [] nm = rdB L L [] nm) ∨ (rdOk R R [] nm = true ∧ rdB R R [] nm = dt))) ∧ diskB AL AS AO = true) := fun Zl t hp => by
      have := replaced_law HDK.out HGN.out HC0.out Zl t hp
      rw [← HAA.out.1, ← HAA.out.2.1, ← HAA.out.2.2.1] at this
      exact this
    have k0 := (HT2.out w3 HB3.out).1.2.c0
    have k1 := (HT2.out w3 HB3.out).1.2.c1
    have k2 := (HT2.out w3 HB3.out).1.2.c2
    go_wp2_with fail
    have hrd := (HT2.out w3 HB3.out).1.1
    refine (implRead_any _ _ _ L L [] nm w3 hrd.1 hrd.2.1 hrd.2.2 HSD.out.1).mono ?_
    rintro e w4 ⟨rfl, hB4⟩
    have HB4 : Hid (Below D2.heap.size D2 w4) := HB3.out.trans (hB4.mono HB3.out.size)
    obtain ⟨old, hold⟩ : ∃ r, r = rdB L L [] nm := ⟨_, rfl⟩
    obtain ⟨was, hwas⟩ : ∃ r, r = rdOk L L [] nm := ⟨_, rfl⟩
    rw [← hold, ← hwas]
    have HWAS : Hid (was = rdOk L L [] nm ∧ old = rdB L L [] nm) := ⟨hwas, hold⟩
    have h2 : lO = 2 := by rw [HLO.out]; exact (HLAW.out [] 0 rfl).1
    subst h2
    obtain ⟨i0, hi, hz0, hz1, hz2⟩ := info_parts infoI6
    obtain ⟨X7, hX7⟩ : ∃ X7, X7 = w4.alloc (.cells #[] 2) := ⟨_, rfl⟩
    have HX7 := (show Hid _ from hX7)
    have HB7 : Hid (Below D2.heap.size D2 X7) := by rw [hX7]; exact HB4.out.alloc HB4.out.size _
    have HOI : Hid (OwnI X7 D2.heap.size (.slice (some ⟨w4.heap.size, 0, none⟩) 0 0) []) := by
      rw [hX7]
      exact ⟨rfl, .inr ⟨w4.heap.size, 0, #[], rfl, HB4.out.size, heap_alloc_new _ _, Nat.le_refl _, Nat.zero_le _, rfl, rfl⟩⟩
    clear hB4 hrd k0 k1 k2 hold hwas hX7
    go_wp2
    rw [← HX7.out]
    clear HX7
    go_loopw [14, 15] (fun v i wr => ∃ (k : Nat) (u : Value), k ≤ 2 ∧ i = .int .i64 k ∧ u = v ∧ Hid (∃ Zl, OwnI wr D2.heap.size u Zl ∧ placesB k Zl = true ∧ Below D2.heap.size D2 wr)) (fun _ i _ => 2 - (intOf i).toNat)
    case atStart => exact ⟨0, _, Nat.zero_le _, rfl, rfl, [], HOI.out, rfl, HB7.out⟩
    case round =>
      obtain ⟨k, u, hk, rfl, rfl, HI⟩ := hrel
      obtain ⟨Zl, hown, hpl, hBr⟩ := HI.out
      have HPL : Hid (OwnI wr D2.heap.size u Zl ∧ placesB k Zl = true ∧ Below D2.heap.size D2 wr) := ⟨hown, hpl, hBr⟩
      have f2 := (HT2.out wr hBr).2.1.2.c2
      clear HI hown hpl hBr
      by_cases hlt : k < 2
      · have hltI : (k : Int) < 2 := by omega
        by_cases hl0 : 0 < len
        · have hl0I : (0 : Int) < (len : Int) := by omega
          obtain ⟨b, off, rfl, hb, hcell⟩ := HU.out.2.2.2 hl0
          have hcl : ∀ j, j < len → wr.cell? ⟨b, off + j, none⟩ = some (.int .u8 (Z j)) := fun j hj => ((HT2.out wr HPL.out.2.2).2.2.cell (p := ⟨b, off + j, none⟩) hb).trans (hcell j hj)
          obtain ⟨j, hj⟩ : ∃ j, j = k % len := ⟨_, rfl⟩
          have hjl : j < len := by rw [hj]; exact Nat.mod_lt _ hl0
          have hjt : (k : Int).tmod (len : Int) = (j : Int) := by rw [hj]; rfl
          have hjI : (j : Int) < (len : Int) := by omega
          have d0 := hcl j hjl
          obtain ⟨v, hv⟩ : ∃ v, v = Z j := ⟨_, rfl⟩
          rw [← hv] at d0
          have hv8 : 0 ≤ v ∧ v ≤ 255 := by rw [hv]; exact HU.out.2.2.1 j
          clear hcell hcl hj hv
          have hkk : k = 0 ∨ k = 1 := by omega
          rcases hkk with rfl | rfl
          · have hj0 : j = 0 := by have : ((j : Nat) : Int) = 0 := by rw [← hjt]; simp
                                   omega
            subst hj0
            rw [Nat.add_zero] at d0
            clear hjt hjI hjl
            have hBo : Below wr.heap.size wr (wr.alloc (.cells #[.int .i64 0] 2)) := (Below.refl _ _).alloc (Nat.le_refl _) _
            obtain ⟨n, hn⟩ : ∃ n, n = Zl.length := ⟨_, rfl⟩
            have HNL : Hid (n ≤ 2) := by show _ ≤ _; rw [hn]; have := places_len HPL.out.2.1; omega
            have HOW : Hid ((wr.alloc (.cells #[.int .i64 0] 2)).ownsRow D2.heap.size 2 1 u n (Zl.map (.int .i64 ·))) := by
              have := HPL.out.1.below hBo
              unfold OwnI at this
              rw [← hn] at this
              exact this
            have HNW : Hid (∀ j v, ([Value.int .i64 0] : List Value)[j]? = some v → (wr.alloc (.cells #[.int .i64 0] 2)).cell? ((⟨wr.heap.size, 0, none⟩ : Addr).add j) = some v) := by
              show ∀ j v, _
              have := World.news_of_block (heap_alloc_new wr (.cells #[.int .i64 0] 2))
              simpa using this
            have HMX9 : Hid (n + 1 ≤ maxLen ∧ (n + 1) * 8 ≤ 140737488355328 ∧ D2.heap.size ≤ (wr.alloc (.cells #[.int .i64 0] 2)).heap.size) := ⟨by unfold maxLen; have := HNL.out; omega, by have := HNL.out; omega, by have := HPL.out.2.2.size; simp; omega⟩
            have HFIN : Hid (∀ v7 w7, w7.ownsRow D2.heap.size 2 1 v7 (n + 1) (Zl.map (.int .i64 ·) ++ [.int .i64 0]) → (wr.alloc (.cells #[.int .i64 0] 2)).grownBy w7 u.ownBlock → OwnI w7 D2.heap.size v7 (Zl ++ [((0 : Nat) : Int)]) ∧ Below D2.heap.size D2 w7) := fun v7 w7 hown hgrow => by
              refine ⟨?_, ?_⟩
              · unfold OwnI
                rw [List.map_append, List.length_append, ← hn]
                exact hown
              · have hb := HPL.out.2.2.alloc HPL.out.2.2.size (.cells #[.int .i64 0] 2)
                exact hb.grown hgrow hb.size (fun x hx => (World.ownsRow.lt HPL.out.1 x hx).1)
            clear hBo hn
            go_wp2_with (
              at_builtin
              refine wpList_append_own _ rfl _ _ 35 rfl D2.heap.size 2 i0 (.int .i64 0) 1 8 Try.underlying35 hi hz0 hz1 hz2 rfl (by decide) u n _ rfl HOW.out ⟨wr.heap.size, 0, none⟩ 1 1 [.int .i64 0] rfl rfl HNW.out (by simp [Value.oneCell']) HMX9.out.1 HMX9.out.2.1 HMX9.out.2.2 ?_
              intro v7 w7 hown7 hgrow7 hnil7
              have HE := (show Hid _ from HFIN.out v7 w7 hown7 hgrow7)
              clear hown7 hgrow7 hnil7)
            all_goals first
              | exact ⟨⟨1, _, by omega, by simp, rfl, _, HE.out.1, places_snoc HPL.out.2.1, HE.out.2⟩, by simp [intOf]⟩
              | exact ⟨⟨1, u, by omega, by simp, rfl, Zl, HPL.out.1, places_up HPL.out.2.1, HPL.out.2.2⟩, by simp [intOf]⟩
              | exact ⟨⟨1, _, by omega, by simp, rfl, _, HE.out.1, places_snoc HPL.out.2.1, HE.out.2⟩, by simp [intOf] <;> omega⟩
              | exact ⟨⟨1, u, by omega, by simp, rfl, Zl, HPL.out.1, places_up HPL.out.2.1, HPL.out.2.2⟩, by simp [intOf] <;> omega⟩
          · have hjt1 : (1 : Int).tmod (len : Int) = (j : Int) := hjt
            clear hjt
            have hBo : Below wr.heap.size wr (wr.alloc (.cells #[.int .i64 1] 2)) := (Below.refl _ _).alloc (Nat.le_refl _) _
            obtain ⟨n, hn⟩ : ∃ n, n = Zl.length := ⟨_, rfl⟩
            have HNL : Hid (n ≤ 2) := by show _ ≤ _; rw [hn]; have := places_len HPL.out.2.1; omega
            have HOW : Hid ((wr.alloc (.cells #[.int .i64 1] 2)).ownsRow D2.heap.size 2 1 u n (Zl.map (.int .i64 ·))) := by
              have := HPL.out.1.below hBo
              unfold OwnI at this
              rw [← hn] at this
              exact this
            have HNW : Hid (∀ j v, ([Value.int .i64 1] : List Value)[j]? = some v → (wr.alloc (.cells #[.int .i64 1] 2)).cell? ((⟨wr.heap.size, 0, none⟩ : Addr).add j) = some v) := by
              show ∀ j v, _
              have := World.news_of_block (heap_alloc_new wr (.cells #[.int .i64 1] 2))
              simpa using this
            have HMX9 : Hid (n + 1 ≤ maxLen ∧ (n + 1) * 8 ≤ 140737488355328 ∧ D2.heap.size ≤ (wr.alloc (.cells #[.int .i64 1] 2)).heap.size) := ⟨by unfold maxLen; have := HNL.out; omega, by have := HNL.out; omega, by have := HPL.out.2.2.size; simp; omega⟩
            have HFIN : Hid (∀ v7 w7, w7.ownsRow D2.heap.size 2 1 v7 (n + 1) (Zl.map (.int .i64 ·) ++ [.int .i64 1]) → (wr.alloc (.cells #[.int .i64 1] 2)).grownBy w7 u.ownBlock → OwnI w7 D2.heap.size v7 (Zl ++ [((1 : Nat) : Int)]) ∧ Below D2.heap.size D2 w7) := fun v7 w7 hown hgrow => by
              refine ⟨?_, ?_⟩
              · unfold OwnI
                rw [List.map_append, List.length_append, ← hn]
                exact hown
              · have hb := HPL.out.2.2.alloc HPL.out.2.2.size (.cells #[.int .i64 1] 2)
                exact hb.grown hgrow hb.size (fun x hx => (World.ownsRow.lt HPL.out.1 x hx).1)
            clear hBo hn
            go_wp2_with (
              at_builtin
              refine wpList_append_own _ rfl _ _ 35 rfl D2.heap.size 2 i0 (.int .i64 0) 1 8 Try.underlying35 hi hz0 hz1 hz2 rfl (by decide) u n _ rfl HOW.out ⟨wr.heap.size, 0, none⟩ 1 1 [.int .i64 1] rfl rfl HNW.out (by simp [Value.oneCell']) HMX9.out.1 HMX9.out.2.1 HMX9.out.2.2 ?_
              intro v7 w7 hown7 hgrow7 hnil7
              have HE := (show Hid _ from HFIN.out v7 w7 hown7 hgrow7)
              clear hown7 hgrow7 hnil7)
            all_goals first
              | exact ⟨⟨2, _, by omega, by simp, rfl, _, HE.out.1, places_snoc HPL.out.2.1, HE.out.2⟩, by simp [intOf]⟩
              | exact ⟨⟨2, u, by omega, by simp, rfl, Zl, HPL.out.1, places_up HPL.out.2.1, HPL.out.2.2⟩, by simp [intOf]⟩
              | exact ⟨⟨2, _, by omega, by simp, rfl, _, HE.out.1, places_snoc HPL.out.2.1, HE.out.2⟩, by simp [intOf] <;> omega⟩
              | exact ⟨⟨2, u, by omega, by simp, rfl, Zl, HPL.out.1, places_up HPL.out.2.1, HPL.out.2.2⟩, by simp [intOf] <;> omega⟩
        · have hl0I : ¬ (0 : Int) < (len : Int) := by omega
          have hl1I : (len : Int) = 0 := by omega
          go_wp2
          exact ⟨⟨k + 1, u, by omega, by simp, rfl, Zl, HPL.out.1, places_up HPL.out.2.1, HPL.out.2.2⟩, by simp [intOf]; omega⟩
      · have hltI : ¬ (k : Int) < 2 := by omega
        have hk2 : k = 2 := by omega
        subst hk2
        obtain ⟨t, ht⟩ : ∃ t, t = len % 4 := ⟨_, rfl⟩
        have htI : (len : Int).tmod 4 = (t : Int) := by rw [ht]; rfl
        obtain ⟨q1, q2, q3, q4, q5, q6⟩ := HLAW.out Zl t HPL.out.2.1
        have HDA : Hid (diskB AL AS AO = true) := q6
        have HSA := (show Hid _ from small_disk q6)
        have HOKC : Hid (crOk AL AS AO Zl (t : Int) = true) := q4
        have HRDA : Hid (rdOk AL AS AO nm = true ∧ rdB AL AS AO nm = dt) := ⟨q2, q3⟩
        obtain ⟨R, hR⟩ : ∃ R, R = crR AL AS AO Zl (t : Int) := ⟨_, rfl⟩
        have HRR := (show Hid _ from q5 R hR)
        have HRE : Hid (R = crR AL AS AO Zl (t : Int)) := hR
        have hT := HT2.out wr HPL.out.2.2
        have f0 := hT.2.1.2.c0
        have f1 := hT.2.1.2.c1
        have HRI : Hid (RdI wr u Zl ∧ Zl.length ≤ 1048576) := ⟨HPL.out.1.rd, by have := places_len HPL.out.2.1; omega⟩
        obtain ⟨au, cu, eu, _⟩ := HRI.out.1.shape
        obtain ⟨nu, hnu⟩ : ∃ n, n = Zl.length := ⟨_, rfl⟩
        rw [← hnu] at eu
        subst eu
        clear hnu ht q1 q2 q3 q4 q5 q6 hR hT
        -- behind a loss of power
        go_wp2_with fail
        refine (implCrash_any _ _ _ _ AL AS AO Zl (t : Int) wr (HT2.out wr HPL.out.2.2).2.1.1 HRI.out.1 HSA.out.1 ⟨by have := HSA.out; omega, by have := HSA.out; omega, by have := HSA.out; omega⟩ HRI.out.2).mono ?_
        rintro e y4 ⟨x, y, z, rfl, hr, _, hBy⟩
        rw [HOKC.out]
        rw [← HRE.out] at hr
        obtain ⟨u1, v1, u2, v2, u3, v3, ex, ey, ez⟩ := hr.slices
        obtain ⟨lR, hlR⟩ : ∃ n, n = R.length := ⟨_, rfl⟩
        rw [← hlR] at ex ey
        subst ex ey ez
        obtain ⟨D4, hD4⟩ : ∃ D, D = y4.alloc (.cells #[.slice u1 lR v1, .slice u2 lR v2, .slice u3 0 v3] 27) := ⟨_, rfl⟩
        have hb4 : Below y4.heap.size y4 D4 := by rw [hD4]; exact (Below.refl _ _).alloc (Nat.le_refl _) _
        have hw4 : Below wr.heap.size wr D4 := hBy.trans (hb4.mono hBy.size)
        have HB4 : Hid (Below D2.heap.size D2 D4) := HPL.out.2.2.trans (hw4.mono HPL.out.2.2.size)
        have HT4 : Hid (RdD D4 (.slice u1 lR v1) (.slice u2 lR v2) (.slice u3 0 v3) R R [] ∧ At3 D4 y4.heap.size 27 (.slice u1 lR v1) (.slice u2 lR v2) (.slice u3 0 v3)) := ⟨hr.below hb4, by rw [hD4]; exact At3.new _ _ _ _ _⟩
        have HD4 := (show Hid _ from hD4)
        have HSR := (show Hid _ from small_disk HRR.out.1)
        clear hr hBy hlR hb4 hw4 hD4 f0 f1 f2
        simp only [List.length_nil]
        go_wp2_with fail
        rw [← HD4.out]
        refine (implRead_any _ _ _ R R [] nm D4 HT4.out.1.1 HT4.out.1.2.1 HT4.out.1.2.2 HSR.out.1).mono ?_
        rintro e w5 ⟨rfl, hB5⟩
        have HB5 : Hid (Below D2.heap.size D2 w5) := HB4.out.trans (hB5.mono HB4.out.size)
        obtain ⟨ss, hss⟩ : ∃ r, r = rdB R R [] nm := ⟨_, rfl⟩
        obtain ⟨th, hth⟩ : ∃ r, r = rdOk R R [] nm := ⟨_, rfl⟩
        rw [← hss, ← hth]
        have HCASE : Hid ((th = was ∧ ss = old) ∨ (th = true ∧ ss = dt)) := by
          rcases HRR.out.2 with ⟨z1, z2⟩ | ⟨z1, z2⟩
          · exact .inl ⟨hth.trans (z1.trans HWAS.out.1.symm), hss.trans (z2.trans HWAS.out.2.symm)⟩
          · exact .inr ⟨hth.trans z1, hss.trans z2⟩
        have hT := HT2.out w5 HB5.out
        have f0 := hT.2.1.2.c0
        have f1 := hT.2.1.2.c1
        have f2 := hT.2.1.2.c2
        clear hB5 hss hth hT HD4
        go_wp2_with fail
        have hrd := (HT2.out w5 HB5.out).2.1.1
        refine (implRead_any _ _ _ AL AS AO nm w5 hrd.1 hrd.2.1 hrd.2.2 HSA.out.1).mono ?_
        rintro e w6 ⟨rfl, hB6⟩
        have HB6 : Hid (Below W.heap.size W w6) := (HT2.out w6 (HB5.out.trans (hB6.mono HB5.out.size))).2.2
        rw [HRDA.out.1, HRDA.out.2]
        clear hB6 hrd f0 f1 f2
        rcases HCASE.out with ⟨z1, z2⟩ | ⟨z1, z2⟩
        · rw [z1, z2]
          have hww : (was == was) = true := by simp
          go_wp2
          go_ret
          exact ⟨rfl, HB6.out⟩
        · rw [z1, z2]
          cases was with
          | false =>
            go_wp2
            go_ret
            exact ⟨rfl, HB6.out⟩
          | true =>
            cases hq : (dt.toList == old.toList) with
            | false =>
              go_wp2
              go_ret
              exact ⟨rfl, HB6.out⟩
            | true =>
              go_wp2
              go_ret
              exact ⟨rfl, HB6.out⟩
end Go.Proofs.Ytbohaefmokbgbaa
