/-
  Do: the specification's half. Conditions: the lists read, and are not huge.
-/
import Derived.Test.YtbohaefmokbgbaaDkAc
namespace Go.Proofs.Ytbohaefmokbgbaa
open Go.RowKit
set_option linter.unusedVariables false

def dC (L S : List Fl) (O : List Dop) (o : Dop) : Nat := if diskB L S O = true then actC L O o else 1
def dL (L S : List Fl) (O : List Dop) (o : Dop) : List Fl := if diskB L S O = true then actL L O o else []
def dS (L S : List Fl) (O : List Dop) : List Fl := if diskB L S O = true then S else []
def dO (L S : List Fl) (O : List Dop) (o : Dop) : List Dop := if diskB L S O = true then actO L O o else []
theorem d_no {L S : List Fl} {O : List Dop} (o : Dop) (h : diskB L S O = false) : dC L S O o = 1 ∧ dL L S O o = [] ∧ dS L S O = [] ∧ dO L S O o = [] := by
  unfold dC dL dS dO
  rw [h]
  exact ⟨rfl, rfl, rfl, rfl⟩
theorem d_yes {L S : List Fl} {O : List Dop} (o : Dop) (h : diskB L S O = true) : dC L S O o = actC L O o ∧ dL L S O o = actL L O o ∧ dS L S O = S ∧ dO L S O o = actO L O o := by
  unfold dC dL dS dO
  rw [h]
  exact ⟨rfl, rfl, rfl, rfl⟩
theorem disk_live {L S : List Fl} {O : List Dop} (h : diskB L S O = true) : filesB L = true ∧ filesB S = true ∧ O.length ≤ 200 := by
  unfold diskB at h
  simp only [Bool.and_eq_true, decide_eq_true_eq] at h
  exact ⟨h.1, h.2.1, h.2.2.1⟩

/-- what reads as texts lies in no block of slices -/
theorem RdF.far {w w' : World} {v : Value} {L : List Fl} {R : Nat} {cs : Array Value} {t : TypeId} (h : RdF w v L) (hs : w.heap.size ≤ w'.heap.size) (hR : w.heap[R]? = some (.cells cs t (0, 0))) (hcs : ∀ (i : Nat) s, cs[i]? ≠ some (.string s)) (he : ∀ k, k ≠ R → w'.heap[k]? = w.heap[k]?) : RdF w' v L := by
  obtain ⟨a, cap, rfl, h1, h2, h3⟩ := h
  refine ⟨a, cap, rfl, h1, h2, fun hp => ?_⟩
  obtain ⟨b, off, e, hb, hl⟩ := h3 hp
  have hne : b ≠ R := fun q => by
    have c := (hl 0 hp).c0
    rw [q, cellN hR] at c
    exact hcs _ _ c
  exact ⟨b, off, e, Nat.lt_of_lt_of_le hb hs, fun i hi => (hl i hi).kept (he b hne)⟩
theorem RdO.far {w w' : World} {v : Value} {O : List Dop} {R : Nat} {cs : Array Value} {t : TypeId} (h : RdO w v O) (hs : w.heap.size ≤ w'.heap.size) (hR : w.heap[R]? = some (.cells cs t (0, 0))) (hcs : ∀ (i : Nat) s, cs[i]? ≠ some (.string s)) (he : ∀ k, k ≠ R → w'.heap[k]? = w.heap[k]?) : RdO w' v O := by
  obtain ⟨a, cap, rfl, h1, h2, h3⟩ := h
  refine ⟨a, cap, rfl, h1, h2, fun hp => ?_⟩
  obtain ⟨b, off, e, hb, hl⟩ := h3 hp
  have hne : b ≠ R := fun q => by
    have c := hl 0 hp 1 (by omega)
    rw [q, cellN hR] at c
    exact hcs _ _ (c.trans rfl)
  exact ⟨b, off, e, Nat.lt_of_lt_of_le hb hs, fun i hi t ht => (World.cell?_of_block (w := w) (a := ⟨b, off + i * 4 + t, none⟩) (he b hne)).trans (hl i hi t ht)⟩
theorem RdD.row {w : World} {x y z : Value} {L S : List Fl} {O : List Dop} {R : Nat} {t : TypeId} (h : RdD w x y z L S O) (hR : At3 w R t (.slice none 0 0) (.slice none 0 0) (.slice none 0 0)) (q : Array Value) : RdD (w.setRow R q) x y z L S O := by
  have hs : w.heap.size ≤ (w.setRow R q).heap.size := by simp [World.setRow]
  have hcs : ∀ (i : Nat) s, (#[Value.slice none 0 0, .slice none 0 0, .slice none 0 0] : Array Value)[i]? ≠ some (.string s) := fun i s => by
    match i with
    | 0 => simp
    | 1 => simp
    | 2 => simp
    | (k + 3) => simp
  have he : ∀ k, k ≠ R → (w.setRow R q).heap[k]? = w.heap[k]? := fun k hk => setRow_other _ _ _ _ hk
  exact ⟨h.1.far hs hR hcs he, h.2.1.far hs hR hcs he, h.2.2.far hs hR hcs he⟩

set_option maxRecDepth 10000 in
set_option maxHeartbeats 4000000 in
theorem specDo_any (vL vS vO : Value) (L S : List Fl) (O : List Dop) (o : Dop) (w : World) (h : RdD w vL vS vO L S O) (hz : SmallD L S O) (hn : L.length ≤ 1048576 ∧ S.length ≤ 1048576 ∧ O.length ≤ 1048576) (ho : o.n.size ≤ 100000000 ∧ o.t.size ≤ 100000000 ∧ o.d.size ≤ 100000000) :
    Calls Try.prog 15 #[.agg #[vL, vS, vO], .agg (encO o)] w fun e w' => ∃ x y z, e = .returned (.tuple #[.agg #[x, y, z], .int .i64 (dC L S O o : Int)]) ∧ RdD w' x y z (dL L S O o) (dS L S O) (dO L S O o) ∧ Below w.heap.size w w' := by
  have HN : Hid (L.length ≤ 1048576 ∧ S.length ≤ 1048576 ∧ O.length ≤ 1048576) := hn
  have HZ : Hid (SmallD L S O) := hz
  have HOZ : Hid (o.n.size ≤ 100000000 ∧ o.t.size ≤ 100000000 ∧ o.d.size ≤ 100000000) := ho
  have HA : Hid (∀ w', Below w.heap.size w w' → RdD w' vL vS vO L S O) := fun w' hB => h.below hB
  obtain ⟨aL, cL, rfl⟩ := h.1.slice
  obtain ⟨aS, cS, rfl⟩ := h.2.1.slice
  obtain ⟨aO, cO, rfl⟩ := h.2.2.slice
  clear h hz hn ho
  change Calls _ _ #[.agg #[.slice aL L.length cL, .slice aS S.length cS, .slice aO O.length cO], .agg #[.int .i64 o.k, .string o.n, .string o.t, .string o.d]] w _
  obtain ⟨X, hX⟩ : ∃ X, X = ((w.alloc (.cells #[.slice aL L.length cL, .slice aS S.length cS, .slice aO O.length cO] 27)).alloc (.cells #[.int .i64 o.k, .string o.n, .string o.t, .string o.d] 49)).alloc (.cells #[.slice none 0 0, .slice none 0 0, .slice none 0 0] 27) := ⟨_, rfl⟩
  have hBX : Below w.heap.size w X := by rw [hX]; exact (((Below.refl _ _).alloc (Nat.le_refl _) _).alloc (by simp) _).alloc (by simp; omega) _
  have gX : X.heap[w.heap.size]? = some (.cells #[.slice aL L.length cL, .slice aS S.length cS, .slice aO O.length cO] 27 (0, 0)) := by rw [hX, Below.heap_alloc _ _ _ (by simp; omega), Below.heap_alloc _ _ _ (by simp)]; exact heap_alloc_new _ _
  have gO : X.heap[w.heap.size + 1]? = some (.cells #[.int .i64 o.k, .string o.n, .string o.t, .string o.d] 49 (0, 0)) := by
    rw [hX, Below.heap_alloc _ _ _ (by simp)]
    have := heap_alloc_new (w.alloc (.cells #[.slice aL L.length cL, .slice aS S.length cS, .slice aO O.length cO] 27)) (.cells #[.int .i64 o.k, .string o.n, .string o.t, .string o.d] 49)
    simpa using this
  have gR : X.heap[w.heap.size + 1 + 1]? = some (.cells #[.slice none 0 0, .slice none 0 0, .slice none 0 0] 27 (0, 0)) := by
    rw [hX]
    have := heap_alloc_new ((w.alloc (.cells #[.slice aL L.length cL, .slice aS S.length cS, .slice aO O.length cO] 27)).alloc (.cells #[.int .i64 o.k, .string o.n, .string o.t, .string o.d] 49)) (.cells #[.slice none 0 0, .slice none 0 0, .slice none 0 0] 27)
    simpa using this
  have HX := (show Hid _ from hX)
  have HBX : Hid (Below w.heap.size w X) := hBX
  have HG : Hid (∀ w', Below X.heap.size X w' → At3 w' w.heap.size 27 (.slice aL L.length cL) (.slice aS S.length cS) (.slice aO O.length cO) ∧ w'.heap[w.heap.size + 1]? = some (.cells #[.int .i64 o.k, .string o.n, .string o.t, .string o.d] 49 (0, 0)) ∧ At3 w' (w.heap.size + 1 + 1) 27 (.slice none 0 0) (.slice none 0 0) (.slice none 0 0) ∧ Below w.heap.size w w') := fun w' hB => ⟨(hB.block _ (lt_of_block gX)).trans gX, (hB.block _ (lt_of_block gO)).trans gO, (hB.block _ (lt_of_block gR)).trans gR, hBX.trans (hB.mono hBX.size)⟩
  have k0 : X.cell? ⟨w.heap.size + 1, 0, none⟩ = some (.int .i64 o.k) := cellN gO
  have k1 : X.cell? ⟨w.heap.size + 1, 1, none⟩ = some (.string o.n) := cellN gO
  have k2 : X.cell? ⟨w.heap.size + 1, 2, none⟩ = some (.string o.t) := cellN gO
  have k3 : X.cell? ⟨w.heap.size + 1, 3, none⟩ = some (.string o.d) := cellN gO
  rw [hX] at k0 k1 k2 k3
  have c0 : X.cell? ⟨w.heap.size, 0, none⟩ = some (.slice aL L.length cL) := cellN gX
  have c1 : X.cell? ⟨w.heap.size, 1, none⟩ = some (.slice aS S.length cS) := cellN gX
  have c2 : X.cell? ⟨w.heap.size, 2, none⟩ = some (.slice aO O.length cO) := cellN gX
  rw [hX] at c0 c1 c2
  clear hX hBX gX gO gR
  go_enter Try.func15, Try.ntmps15
  go_wp2_with fail
  rw [← HX.out]
  have hAX := HA.out X HBX.out
  refine (specDisk_any _ _ _ L S O X hAX.1 hAX.2.1 hAX.2.2 HZ.out).mono ?_
  rintro e w1 ⟨rfl, hB1⟩
  have HB1 : Hid (Below X.heap.size X w1) := hB1
  clear k0 k1 k2 k3 c0 c1 c2 HX hB1 hAX
  have hg1 := HG.out w1 HB1.out
  cases hd : diskB L S O with
  | false =>
    have HD := (show Hid _ from d_no o hd)
    have HR3 : Hid (At3 w1 (w.heap.size + 1 + 1) 27 (.slice none 0 0) (.slice none 0 0) (.slice none 0 0)) := hg1.2.2.1
    obtain ⟨q, hq, hi6, ho6, h16⟩ := row3 none none none 0 0 0 0 0 0
    clear hg1 hd
    go_wp2_with (refine wpList_store_row rfl 27 _ _ rfl (w.heap.size + 1 + 1) q rfl (congrArg Value.agg hq.symm) 27 _ HR3.out hi6 ho6 h16 ?_)
    subst hq
    refine bodyPost_ret (v := .tuple #[.agg #[.slice none 0 0, .slice none 0 0, .slice none 0 0], _]) (results_row_tmp rfl _ _ (w.heap.size + 1 + 1) 27 _ _ _ rfl (setRow_heap _ _ _ _ _ _ HR3.out) Try.underlying27 rfl hi6) rfl ⟨_, _, _, ret_val (by rw [HD.out.1]; rfl), ?_, ?_⟩
    · rw [HD.out.2.1, HD.out.2.2.1, HD.out.2.2.2]
      exact ⟨(HoldF.nil _ 0).1, (HoldF.nil _ 0).1, (HoldO.nil _ 0).1⟩
    · exact below_setRow (HG.out w1 HB1.out).2.2.2 (by omega) _
  | true =>
    have HD := (show Hid _ from d_yes o hd)
    have HL6 : Hid (L.length ≤ 60 ∧ tot L ≤ 200000) := ⟨(filesB_parts (disk_live hd).1).1, (filesB_parts (disk_live hd).1).2.1⟩
    have c0 := hg1.1.c0
    have c1 := hg1.1.c1
    have c2 := hg1.1.c2
    have k0 : w1.cell? ⟨w.heap.size + 1, 0, none⟩ = some (.int .i64 o.k) := cellN hg1.2.1
    have k1 : w1.cell? ⟨w.heap.size + 1, 1, none⟩ = some (.string o.n) := cellN hg1.2.1
    have k2 : w1.cell? ⟨w.heap.size + 1, 2, none⟩ = some (.string o.t) := cellN hg1.2.1
    have k3 : w1.cell? ⟨w.heap.size + 1, 3, none⟩ = some (.string o.d) := cellN hg1.2.1
    clear hg1 hd
    go_wp2_with fail
    refine (specAct_any _ _ _ L S O o w1 (HA.out w1 (HG.out w1 HB1.out).2.2.2) HZ.out HN.out HL6.out HOZ.out).mono ?_
    rintro e w2 ⟨x, y, z, rfl, hr, hB2⟩
    obtain ⟨b1, d1, b2, d2, b3, d3, ex, ey, ez⟩ := hr.slices
    have HB2 : Hid (Below X.heap.size X w2) := HB1.out.trans (hB2.mono HB1.out.size)
    have HR3 : Hid (At3 w2 (w.heap.size + 1 + 1) 27 (.slice none 0 0) (.slice none 0 0) (.slice none 0 0)) := (HG.out w2 HB2.out).2.2.1
    have HRR : Hid (RdD w2 x y z (actL L O o) S (actO L O o)) := hr
    obtain ⟨m1, hm1⟩ : ∃ m, m = (actL L O o).length := ⟨_, rfl⟩
    obtain ⟨m3, hm3⟩ : ∃ m, m = (actO L O o).length := ⟨_, rfl⟩
    rw [← hm1] at ex
    rw [← hm3] at ez
    subst ex ey ez
    obtain ⟨C, hC⟩ : ∃ C, C = actC L O o := ⟨_, rfl⟩
    have HCC : Hid (C = actC L O o) := hC
    rw [← hC]
    obtain ⟨q, hq, hi6, ho6, h16⟩ := row3 b1 b2 b3 m1 d1 S.length d2 m3 d3
    clear hr hB2 c0 c1 c2 k0 k1 k2 k3 hm1 hm3 hC
    go_wp2_with (refine wpList_store_row rfl 27 _ _ rfl (w.heap.size + 1 + 1) q rfl (congrArg Value.agg hq.symm) 27 _ HR3.out hi6 ho6 h16 ?_)
    subst hq
    refine bodyPost_ret (v := .tuple #[.agg #[.slice b1 m1 d1, .slice b2 S.length d2, .slice b3 m3 d3], _]) (results_row_tmp rfl _ _ (w.heap.size + 1 + 1) 27 _ _ _ rfl (setRow_heap _ _ _ _ _ _ HR3.out) Try.underlying27 rfl hi6) rfl ⟨_, _, _, ret_val (by rw [HD.out.1, ← HCC.out]; rfl), ?_, ?_⟩
    · rw [HD.out.2.1, HD.out.2.2.1, HD.out.2.2.2]
      exact HRR.out.row HR3.out _
    · exact below_setRow (HG.out w2 HB2.out).2.2.2 (by omega) _
end Go.Proofs.Ytbohaefmokbgbaa
