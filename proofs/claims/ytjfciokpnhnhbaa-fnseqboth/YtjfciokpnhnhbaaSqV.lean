/-
  The closure that walks the tree of signs: what it puts behind what is shown already. No condition but that the tree lies in memory.
-/
import Derived.Test.YtjfciokpnhnhbaaSqR
namespace Go.Proofs.Ytjfciokpnhnhbaa
open Go.RowKit Go.Shelf
attribute [local go_sem] Oper.semAt_some
set_option linter.unusedVariables false

/-- what the walk may turn: the box BS, rows of pointers from n₀ on; and it lays new blocks -/
structure Eff (n₀ BS : Nat) (W W' : World) : Prop where
  os : W'.os = W.os
  tape : W'.tape = W.tape
  output : W'.output = W.output
  size : W.heap.size ≤ W'.heap.size
  low : ∀ k, k < n₀ → W'.heap[k]? = W.heap[k]?
  oth : ∀ k, k < W.heap.size → k ≠ BS → (∀ cs fr, W.heap[k]? ≠ some (.cells cs 60 fr)) → W'.heap[k]? = W.heap[k]?
theorem Eff.refl (n₀ BS : Nat) (W : World) : Eff n₀ BS W W := ⟨rfl, rfl, rfl, Nat.le_refl _, fun _ _ => rfl, fun _ _ _ _ => rfl⟩
theorem Eff.trans {n₀ BS : Nat} {A B C : World} (h : Eff n₀ BS A B) (k : Eff n₀ BS B C) : Eff n₀ BS A C :=
  ⟨k.os.trans h.os, k.tape.trans h.tape, k.output.trans h.output, Nat.le_trans h.size k.size, fun i hi => (k.low i hi).trans (h.low i hi), fun i hi h1 h2 => (k.oth i (Nat.lt_of_lt_of_le hi h.size) h1 (fun cs fr e => h2 cs fr ((h.oth i hi h1 h2).symm.trans e))).trans (h.oth i hi h1 h2)⟩
theorem Eff.below {n₀ BS : Nat} {W W' : World} (h : Eff n₀ BS W W') : Below n₀ W W' := ⟨h.os, h.tape, h.output, h.size, h.low⟩
theorem Eff.alloc {n₀ BS : Nat} {A W : World} (h : Eff n₀ BS A W) (hn : n₀ ≤ A.heap.size) (o : Obj) : Eff n₀ BS A (W.alloc o) :=
  ⟨h.os, h.tape, h.output, by have := h.size; simp; omega, fun i hi => (Below.heap_alloc _ _ _ (by have := h.size; omega)).trans (h.low i hi), fun i hi h1 h2 => (Below.heap_alloc _ _ _ (Nat.lt_of_lt_of_le hi h.size)).trans (h.oth i hi h1 h2)⟩
theorem Eff.grown {n₀ BS : Nat} {A W W' : World} {row : Option Nat} (h : Eff n₀ BS A W) (hg : W.grownBy W' row) (hn : n₀ ≤ A.heap.size) (hr : ∀ r, row = some r → A.heap.size ≤ r) : Eff n₀ BS A W' :=
  ⟨hg.os.trans h.os, hg.tape.trans h.tape, hg.output.trans h.output, Nat.le_trans h.size hg.size, fun i hi => (hg.block i (by have := h.size; omega) (fun e => by have := hr i e.symm; omega)).trans (h.low i hi), fun i hi h1 h2 => (hg.block i (Nat.lt_of_lt_of_le hi h.size) (fun e => by have := hr i e.symm; omega)).trans (h.oth i hi h1 h2)⟩
theorem Eff.keeps {n₀ BS : Nat} {W W' : World} {v : Value} {t : TypeId} (h : Eff n₀ BS W W') (hb : Boxed W BS t v) (B : Nat) : KeepsFrom B W W' :=
  ⟨h.size, fun k o _ hk ho => by
    have hlt := (Array.getElem?_eq_some_iff.1 hk).1
    refine (h.oth k hlt (fun e => ?_) (fun cs fr e => ?_)).trans hk
    · rw [e, show W.heap[BS]? = _ from hb] at hk
      cases hk
      cases ho
    · rw [hk] at e
      cases e
      cases ho⟩
theorem Eff.boxed {n₀ BS B : Nat} {W W' : World} {v : Value} {t : TypeId} (h : Eff n₀ BS W W') (hb : Boxed W B t v) (hne : B ≠ BS) (ht : t ≠ 60) : Boxed W' B t v :=
  (h.oth B hb.lt hne (fun cs fr e => by rw [show W.heap[B]? = _ from hb] at e; cases e; exact ht rfl)).trans hb
theorem eff_own {β : Type} {n₀ BS B : Nat} {w₀ : World} (hn : n₀ ≤ w₀.heap.size) (hB : w₀.heap.size ≤ B) : OwnFrom B (fun (_ : β) W => Eff n₀ BS w₀ W) :=
  fun _ _ _ _ hs hg hr => hs.grown hg hn (fun r e => Nat.le_trans hB (hr r e).1)
/-- an append onto what the box BS holds -/
theorem Eff.appended {n₀ BS : Nat} {W w1 : World} {v v' : Value} {k : Nat} {xs : List Value} {tmp : Obj} (hn : n₀ ≤ W.heap.size) (hB : n₀ ≤ BS) (hrow : W.ownsRow n₀ 60 1 v k xs) (hgrow : (W.alloc tmp).grownBy w1 v.ownBlock) : Eff n₀ BS W (w1.setCell ⟨BS, 0, none⟩ v') := by
  have hrt : ∀ r, v.ownBlock = some r → n₀ ≤ r ∧ ∃ cur, W.heap[r]? = some (.cells cur 60 (0, 0)) := fun r hr => ⟨(World.ownsRow.lt hrow r hr).1, row_type hrow hr⟩
  have h1 : Eff n₀ BS W w1 := by
    refine ⟨hgrow.os, hgrow.tape, hgrow.output, by have := hgrow.size; simp at this; omega, fun i hi => ?_, fun i hi _ h2 => ?_⟩
    · rw [hgrow.block i (by simp; omega) (fun e => by have := (hrt i e.symm).1; omega)]
      exact Below.heap_alloc _ _ _ (by omega)
    · rw [hgrow.block i (by simp; omega) (fun e => by obtain ⟨_, cur, hc⟩ := hrt i e.symm; exact h2 _ _ hc)]
      exact Below.heap_alloc _ _ _ hi
  refine h1.trans ⟨rfl, rfl, rfl, by simp [World.setCell], fun i hi => Below.heap_setCell _ _ _ _ (by show i ≠ BS; omega), fun i _ hne _ => Below.heap_setCell _ _ _ _ hne⟩

/-- the tree in memory, below n₀ -/
def TreeAt (D : Nat → Ev) (n : Nat) (P : Int → Nat) (K : Int → Value) (S : Int → ByteArray) (n₀ : Nat) (W : World) : Prop := ∀ z, Key D n z → P z < n₀ ∧ W.heap[P z]? = some (.cells #[.int .i64 z, .string (S z), .bool (delB D n z), K z] 66 (0, 0)) ∧ RdP W n₀ (K z) ((kids D n z).map fun y => ptr (P y))
theorem TreeAt.below {D : Nat → Ev} {n : Nat} {P : Int → Nat} {K : Int → Value} {S : Int → ByteArray} {n₀ : Nat} {W W' : World} (h : TreeAt D n P K S n₀ W) (hB : Below n₀ W W') : TreeAt D n P K S n₀ W' := fun z hz => by
  obtain ⟨h1, h2, h3⟩ := h z hz
  exact ⟨h1, (hB.block _ h1).trans h2, h3.below hB⟩
/-- what is shown so far, in its box; the closure in its own -/
def Shown (P : Int → Nat) (n₀ BS : Nat) (W : World) (L : List Int) : Prop := ∃ v, Boxed W BS 58 v ∧ W.ownsRow n₀ 60 1 v L.length (L.map fun y => ptr (P y)) ∧ True
def fnV (BS BW : Nat) : Value := .func (.func 53) #[] #[.pointer (some ⟨BS, 0, none⟩), .pointer (some ⟨BW, 0, none⟩)]

structure Kid (D : Nat → Ev) (n : Nat) (z : Int) where
  val : Int × Int
  mem : kids D n z ≠ [] → val.2 ∈ kids D n z
def kidAt (D : Nat → Ev) (n : Nat) (z : Int) (j : Nat) : Int := (kids D n z).getD j ((kids D n z).headD 0)
theorem kidAt_mem {D : Nat → Ev} {n : Nat} {z : Int} (j : Nat) (h : kids D n z ≠ []) : kidAt D n z j ∈ kids D n z := by
  unfold kidAt
  cases hk : kids D n z with
  | nil => exact absurd hk h
  | cons a l =>
    rw [List.getD_eq_getElem?_getD]
    by_cases hj : j < (a :: l).length
    · rw [List.getElem?_eq_getElem hj]
      exact List.getElem_mem hj
    · rw [List.getElem?_eq_none (by omega)]
      exact List.mem_cons_self
def kidG (D : Nat → Ev) (n : Nat) (z : Int) (j : Nat) : Kid D n z := ⟨((j : Int), kidAt D n z j), fun h => kidAt_mem j h⟩
/-- what has come -/
def flatK {D : Nat → Ev} {n : Nat} {z : Int} (l : List (Kid D n z)) : List Int := l.flatMap fun x => x.1.2 :: ord D n x.1.2
theorem flatK_snoc {D : Nat → Ev} {n : Nat} {z : Int} (l : List (Kid D n z)) (x : Kid D n z) : flatK (l ++ [x]) = flatK l ++ (x.1.2 :: ord D n x.1.2) := by unfold flatK; rw [List.flatMap_append]; simp
theorem down_kids (D : Nat → Ev) (n : Nat) (z : Int) : (downL (kidG D n z) (kids D n z).length (kids D n z).length).map (fun x => x.1.2) = (kids D n z).reverse := by
  unfold downL
  rw [List.map_map]
  apply List.ext_getElem
  · simp
  · intro i h1 h2
    simp at h1 h2
    rw [List.getElem_map, List.getElem_range, List.getElem_reverse]
    show kidAt D n z _ = _
    unfold kidAt
    rw [List.getD_eq_getElem?_getD, List.getElem?_eq_getElem (by omega)]
    rfl
theorem flatK_all {D : Nat → Ev} {n : Nat} (hok : allB (okS D) n = true) (z : Int) : flatK (downL (kidG D n z) (kids D n z).length (kids D n z).length) = ord D n z := by
  rw [ord_eq hok, ← down_kids, List.flatMap_map]
  rfl
theorem flatK_len {D : Nat → Ev} {n : Nat} (hok : allB (okS D) n = true) {z : Int} : ∀ (l : List (Kid D n z)), (flatK l).length ≤ l.length * (n + 1)
  | [] => by simp [flatK]
  | x :: l => by
    have h1 : (flatK (x :: l)).length = ((ord D n x.1.2).length + 1) + (flatK l).length := by unfold flatK; simp; omega
    have h2 := ins_list (ord_nodup hok x.1.2) (fun y hy => (ord_gt hok _ y hy).2)
    have h3 := flatK_len hok l
    rw [h1, List.length_cons, Nat.succ_mul]
    omega

theorem infoTp : (Try.prog.info? 60).map (fun i => (i.zero, i.size, i.bytes)) = some (some (.pointer none), 1, 8) := by kernel_rfl

set_option maxRecDepth 100000 in
set_option maxHeartbeats 4000000 in
theorem walk_any {D : Nat → Ev} {n : Nat} {P : Int → Nat} {K : Int → Value} {S : Int → ByteArray} {n₀ BS BW : Nat} (hok : allB (okS D) n = true) (hn40 : n ≤ 40) (hBS : n₀ ≤ BS) (hBW : n₀ ≤ BW) (hne : BW ≠ BS) :
    ∀ z, Key D n z → ∀ (L : List Int) (w : World), TreeAt D n P K S n₀ w → Shown P n₀ BS w L → Boxed w BW 85 (fnV BS BW) → n₀ ≤ w.heap.size → (L.length : Int) ≤ 2000 * z →
      Calls Try.prog 53 #[ptr (P z), .pointer (some ⟨BS, 0, none⟩), .pointer (some ⟨BW, 0, none⟩)] w fun e w' => (∃ v, e = .returned v) ∧ Shown P n₀ BS w' (L ++ shownL D n (ord D n z)) ∧ Eff n₀ BS w w' := by
  refine down_ind (fun z ih => ?_)
  intro hz L w hT hS hF hn0 hL
  obtain ⟨i0, hi, hz0, hz1, hz2⟩ := info_parts infoTp
  obtain ⟨t1, t2, t3⟩ := hT z hz
  have c3 : w.cell? ⟨P z, 3, none⟩ = some (K z) := cellN t2
  obtain ⟨ak, ck, ek, _⟩ := t3
  rw [List.length_map] at ek
  refine (callsIn_wide (n := 3)).1 ?_
  refine callsIn_of_wp_marks Try.func53 rfl trivial ?_ rfl
  simp only [Try.ntmps53, List.size_toArray, List.length_cons, List.length_nil, Nat.reduceAdd, Nat.reduceSub, Array.replicate_succ, Array.replicate_zero, List.push_toArray, List.append_toArray, List.nil_append, List.cons_append]
  unfold ptr
  gi_wp2_with fail
  refine ⟨trivial, ?_⟩
  refine (callsIn_wide.2 (back_any _ w ak (kids D n z).length ck rfl)).mono ?_
  rintro e w' ⟨rfl, rfl⟩
  obtain ⟨v, hv⟩ : ∃ v, v = Value.slice ak (kids D n z).length ck := ⟨_, rfl⟩
  rw [← hv] at ek ⊢
  obtain ⟨W0, hW0⟩ : ∃ W0, W0 = w.alloc (.cells #[v] 58) := ⟨_, rfl⟩
  rw [← hW0]
  have hE0 : Eff n₀ BS w W0 := by rw [hW0]; exact (Eff.refl n₀ BS w).alloc hn0 _
  have hB0 : Boxed W0 w.heap.size 58 v := by rw [hW0]; exact Boxed.new _ _ _
  have hs0 : W0.heap.size = w.heap.size + 1 := by rw [hW0]; simp
  have hT0 : TreeAt D n P K S n₀ W0 := hT.below hE0.below
  have hR0 : RdP W0 n₀ v ((kids D n z).map fun y => ptr (P y)) := by rw [← ek]; exact (hT0 z hz).2.2
  have hS0 : Shown P n₀ BS W0 L := by
    obtain ⟨u, hu1, hu2, _⟩ := hS
    rw [hW0]
    exact ⟨u, hu1.alloc _, hu2.alloc _, trivial⟩
  have hF0 : Boxed W0 BW 85 (fnV BS BW) := by rw [hW0]; exact hF.alloc _
  have hBsB : w.heap.size ≠ BS := by obtain ⟨u, hu1, _⟩ := hS; have := hu1.lt; omega
  have hkl := kids_len D n z
  clear hW0 hv hS hF c3 t2
  gi_wp2
  refine wpIn_rangeFunc_ownG rfl (by omega) (gf := 64) (lb := #[.pointer (some ⟨w.heap.size, 0, none⟩)]) rfl trivial (enters_of Try.func64 (by kernel_rfl) rfl)
    (back_stops (kidG D n z) (fun x => x.1.1) (fun x => ptr (P x.1.2)) _ (by omega) w.heap.size n₀ v ((kids D n z).map fun y => ptr (P y)) W0 (by simp; omega) (fun j _ => rfl) (fun j hj => by
      rw [List.length_map] at hj
      rw [List.getElem?_map, List.getElem?_eq_getElem hj]
      show some (ptr (P _)) = some (ptr (P (kidAt D n z j)))
      unfold kidAt
      rw [List.getD_eq_getElem?_getD, List.getElem?_eq_getElem hj]
      rfl) (by omega) hB0 hR0)
    KpB.t (KpB.b (by omega) (by omega)) (Below.refl _ _) (fun _ => rfl)
    (fun pre W => (∃ u, Boxed W BS 58 u ∧ W.ownsRow n₀ 60 1 u (L ++ shownL D n (flatK pre)).length ((L ++ shownL D n (flatK pre)).map fun y => ptr (P y)) ∧ True) ∧ (Boxed W BW 85 (fnV BS BW) ∧ (Boxed W w.heap.size 58 v ∧ Eff n₀ BS W0 W)))
    (fun _ _ _ => False)
    (OwnFrom.and (Own.from (holdsRow_own n₀ BS 58 60 1 (fun pre => (L ++ shownL D n (flatK pre)).length) (fun pre => (L ++ shownL D n (flatK pre)).map fun y => ptr (P y)) (fun _ _ => True)) _) (OwnFrom.and (Own.from (boxed_own BW 85 (fun _ => fnV BS BW)) _) (OwnFrom.and (Own.from (boxed_own w.heap.size 58 (fun _ => v)) _) (eff_own (by omega) (Nat.le_refl _)))))
    (fun _ _ _ _ _ hs _ _ => hs)
    ⟨by have h := hS0; unfold Shown at h; simpa [flatK, shownL] using h, hF0, hB0, Eff.refl _ _ _⟩
    (fun x => { tmps := #[.pointer (some ⟨P z, 0, none⟩), .pointer (some ⟨BS, 0, none⟩), .pointer (some ⟨BW, 0, none⟩), undef, undef, .pointer (some ⟨P x.1.2, 0, none⟩), .pointer (some ⟨P z, 0, none⟩), .pointer (some ⟨P z, 0, none⟩), .pointer (some ⟨P z, 3, none⟩), v, .func (.func 64) #[] #[.pointer (some ⟨w.heap.size, 0, none⟩)], .int .i64 x.1.1, .pointer (some ⟨P x.1.2, 0, none⟩), undef, undef, undef, undef, undef, undef, undef, undef, undef, undef, undef, undef], defers := [] }) ?assign ?body ?done ?stop
  case assign =>
    intro l x W K' hK'
    gi_wp2
    exact hK'
  case body =>
    rintro l pre x W ⟨⟨u, hu1, hu2, _⟩, hFW, hBW', hEW⟩ hlt
    rw [List.length_map] at hlt
    obtain ⟨⟨ix, y⟩, hx⟩ := x
    have hy : y ∈ kids D n z := hx (fun e => by rw [e] at hlt; simp at hlt)
    have hl := kid_lt hok hy
    have hKy : Key D n y := .inr (kids_key hy)
    have hTW : TreeAt D n P K S n₀ W := hT0.below hEW.below
    obtain ⟨q1, q2, q3⟩ := hTW y hKy
    have cdel : W.cell? ⟨P y, 2, none⟩ = some (.bool (delB D n y)) := cellN q2
    have hc := hu1.cell
    have hcF : W.cell? ⟨BW, 0, none⟩ = some (.func (.func 53) #[] #[.pointer (some ⟨BS, 0, none⟩), .pointer (some ⟨BW, 0, none⟩)]) := hFW.cell
    have hsn : n₀ ≤ W.heap.size := by have := hEW.size; omega
    have hfl := flatK_len hok pre
    have hpn : pre.length * (n + 1) ≤ 40 * 41 := Nat.mul_le_mul (by omega) (by omega)
    obtain ⟨M, hM⟩ : ∃ M, M = L ++ shownL D n (flatK pre) := ⟨_, rfl⟩
    have hMl : (M.length : Int) + 1 ≤ 2000 * y := by
      rw [hM, List.length_append]
      have := List.length_filter_le (fun y => !(delB D n y)) (flatK pre)
      have : (shownL D n (flatK pre)).length ≤ (flatK pre).length := this
      omega
    have hsn2 : ∀ t : Kid D n z, t.1.2 = y → L ++ shownL D n (flatK (pre ++ [t])) = M ++ ((if delB D n y then [] else [y]) ++ shownL D n (ord D n y)) := fun t ht => by
      rw [flatK_snoc, shownL_append, ht, shownL_cons, hM, List.append_assoc]
    rw [← hM] at hu2
    clear hfl hpn q2 q3 hM
    cases hd : delB D n y with
    | true =>
      rw [hd] at cdel
      gi_wp2_with (refine ⟨trivial, ?_⟩; gi_at_call 53; refine (CallsIn.inRound l (callsIn_wide.2 (ih y hl.1 hl.2.2 hKy M W hTW ⟨u, hu1, hu2, trivial⟩ hFW hsn (by omega)))).mono ?_; rintro e W3 ⟨⟨ev, rfl⟩, hSh3, hE3⟩)
      refine ⟨hE3.keeps hu1 _, ⟨hE3.below, (hE3.boxed hBW' hBsB (by decide)).trans (show some _ = W.heap[w.heap.size]? from (show W.heap[w.heap.size]? = _ from hBW').symm)⟩, ?_, hE3.boxed hFW hne (by decide), hE3.boxed hBW' hBsB (by decide), hEW.trans hE3⟩
      rw [hsn2 _ rfl, hd]
      exact hSh3
    | false =>
      rw [hd] at cdel
      have HIH : Hid (∀ W2, Eff n₀ BS W W2 → Shown P n₀ BS W2 (M ++ [y]) → Calls Try.prog 53 #[ptr (P y), .pointer (some ⟨BS, 0, none⟩), .pointer (some ⟨BW, 0, none⟩)] W2 fun e w' => (∃ v, e = .returned v) ∧ Shown P n₀ BS w' ((M ++ [y]) ++ shownL D n (ord D n y)) ∧ Eff n₀ BS W2 w') := fun W2 hE2 hS2 => ih y hl.1 hl.2.2 hKy (M ++ [y]) W2 (hTW.below hE2.below) hS2 (hE2.boxed hFW hne (by decide)) (by have := hE2.size; omega) (by rw [List.length_append]; simp; omega)
      have hMm : M.length + 1 ≤ maxLen ∧ (M.length + 1) * 8 ≤ 140737488355328 := ⟨by unfold maxLen; omega, by omega⟩
      gi_wp2_with (first
        | (gi_at_builtin
           refine wpListIn_append_own _ rfl _ _ 58 rfl n₀ 60 i0 (.pointer none) 1 8 Try.underlying58 hi hz0 hz1 hz2 rfl (by decide) _ _ _ rfl (hu2.alloc _) ⟨W.heap.size, 0, none⟩ 1 1 [.pointer (some ⟨P y, 0, none⟩)] rfl rfl (cell_one_new _ _ _) (by simp [Value.oneCell']) hMm.1 hMm.2 (by simp; omega) ?_
           intro v' w1 hown' hgrow _
           obtain ⟨g', cap', rfl⟩ := ownsRow_succ hown'
           obtain ⟨hv1, hv2, hr2, hk2, hb2⟩ := hu1.appended (by decide) hu2 hsn hBS hown' hgrow
           have hE2 : Eff n₀ BS W _ := Eff.appended (v' := .slice (some ⟨g', 0, none⟩) (M.length + 1) cap') hsn hBS hu2 hgrow
           have hS2 : Shown P n₀ BS _ (M ++ [y]) := ⟨_, hv2, by rw [List.length_append, List.map_append]; exact hr2, trivial⟩
           have hc1 := hv1.cell
           have hf1 := hv1.frozen
           have hcF2 : (w1.setCell ⟨BS, 0, none⟩ (.slice (some ⟨g', 0, none⟩) (M.length + 1) cap')).cell? ⟨BW, 0, none⟩ = some (.func (.func 53) #[] #[.pointer (some ⟨BS, 0, none⟩), .pointer (some ⟨BW, 0, none⟩)]) := (hE2.boxed hFW hne (by decide)).cell)
        | (refine ⟨trivial, ?_⟩
           gi_at_call 53
           refine (CallsIn.inRound l (callsIn_wide.2 (HIH.out _ hE2 hS2))).mono ?_
           rintro e W3 ⟨⟨ev, rfl⟩, hSh3, hE3⟩))
      have hEE := hE2.trans hE3
      refine ⟨hEE.keeps hu1 _, ⟨hEE.below, (hEE.boxed hBW' hBsB (by decide)).trans (show some _ = W.heap[w.heap.size]? from (show W.heap[w.heap.size]? = _ from hBW').symm)⟩, ?_, hEE.boxed hFW hne (by decide), hEE.boxed hBW' hBsB (by decide), hEW.trans hEE⟩
      rw [hsn2 _ rfl, hd]
      simp only [Bool.false_eq_true, if_false]
      rw [← List.append_assoc]
      exact hSh3
  case done =>
    rintro D' ys W hD rfl ⟨hSh, hFW, hBW', hEW⟩ hK'
    rw [List.length_map, flatK_all hok] at hSh
    gi_wp2
    refine ⟨by simp, .inl ⟨_, _, rfl, run_takeDeferred hK', ?_⟩⟩
    obtain ⟨u, hu1, hu2, _⟩ := hSh
    refine ⟨_, results_none rfl _ _ _, ⟨_, rfl⟩, ⟨u, hu1.kept (grownBy_putObj' W D' _) (fun e => ?_), ownsRow_putObj hu2 _ hK' rfl, trivial⟩, hE0.trans (hEW.grown (grownBy_putObj' W D' _) (by omega) (fun r e => by cases e; exact hD))⟩
    have e' := Option.some.inj e
    rw [← e', show W.heap[BS]? = _ from hu1] at hK'
    cases hK'
  case stop =>
    rintro D' c pre W _ _ h _
    exact h.elim
end Go.Proofs.Ytjfciokpnhnhbaa
